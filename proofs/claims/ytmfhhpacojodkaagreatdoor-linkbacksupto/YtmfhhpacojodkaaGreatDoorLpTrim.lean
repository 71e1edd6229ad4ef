/- What is proved here: plain facts: what strings.TrimFunc leaves of a text of runes where low runes are taken away at the ends, and that stripping by bytes is stripping by runes. -/
import Derived.Shelf.Strings.FuncGrows
import Derived.Lib.SpaceUEq
import Derived.Lib.TrimAscii
import Derived.Test.YtmfhhpacojodkaaGreatDoorBun6
namespace Go.Proofs.YtmfhhpacojodkaaGreatDoor.L
open Go.RowKit Go.Shelf Go.Proofs.YtmfhhpacojodkaaGreatDoor.N Go.Proofs.YtmfhhpacojodkaaGreatDoor.U

def lowN (x : Nat) : Bool := decide (x ≤ 32)
def lowR (z : Int) : Bool := decide (z ≤ 32)
def gapR (z : Int) : Bool := z == 9 || z == 10 || z == 13
def AllV (rs : List Int) : Prop := ∀ z ∈ rs, Utf8.valid z = true
theorem encs_cons (z : Int) (t : List Int) : encs (z :: t) = enc z ++ encs t := by simp [encs]
theorem encs_app (x y : List Int) : encs (x ++ y) = encs x ++ encs y := by simp [encs]
theorem encs_nil : encs [] = [] := rfl
theorem encs_one (z : Int) : encs [z] = enc z := by simp [encs]
theorem enc_high {r : Int} (h : ¬ (0 ≤ r ∧ r < 128)) : ∀ b ∈ enc r, 128 ≤ b.toNat := by
  cases hv : Utf8.valid r with
  | false => rw [enc_wrong hv]; decide
  | true =>
    have hb := (valid_iff r).1 hv
    by_cases c2 : r < 2048
    · rw [enc_two (by omega) c2]; simp; omega
    · by_cases c3 : r < 65536
      · rw [enc_three hv (by omega) c3]; simp; omega
      · rw [enc_four hv (by omega)]; simp; omega
theorem enc_pos (r : Int) : 0 < (enc r).length := by
  cases hv : Utf8.valid r with
  | false => rw [enc_wrong hv]; decide
  | true =>
    have hb := (valid_iff r).1 hv
    by_cases c1 : r < 128
    · rw [enc_one hb.1 c1]; simp
    · by_cases c2 : r < 2048
      · rw [enc_two (by omega) c2]; simp
      · by_cases c3 : r < 65536
        · rw [enc_three hv (by omega) c3]; simp
        · rw [enc_four hv (by omega)]; simp
/-- Decoding at the beginning of a rune's bytes. -/
theorem decode_enc (pre : List UInt8) (r : Int) (hv : Utf8.valid r = true) (rest : List UInt8) : Utf8.decode ⟨(pre ++ (enc r ++ rest)).toArray⟩ pre.length = (r.toNat, (enc r).length) := by
  have h := dec_enc r hv rest
  have hp : 0 < (enc r ++ rest).length := by have := enc_pos r; simp; omega
  rw [decode_drop, List.drop_left, decode_right _ hp h.1, h.2.1]
  have h3 := h.2.2
  congr 1
  omega
theorem decode_enc0 (r : Int) (hv : Utf8.valid r = true) (rest : List UInt8) : Utf8.decode ⟨(enc r ++ rest).toArray⟩ 0 = (r.toNat, (enc r).length) := decode_enc [] r hv rest
theorem last4 (t : List UInt8) (c0 c1 c2 c3 : UInt8) (h3 : 128 ≤ c3.toNat) (h2 : Lib.runeStartB c2 = false) (h1 : Lib.runeStartB c1 = false) (h0 : Lib.runeStartB c0 = true) (hd : (Lib.decodeL [c0, c1, c2, c3]).2 = 4) : Lib.decodeLastL (t ++ [c0, c1, c2, c3]) = Lib.decodeL [c0, c1, c2, c3] := by
  have hl : (t ++ [c0, c1, c2, c3]).length = t.length + 4 := by simp
  have g : ∀ j, (t ++ [c0, c1, c2, c3]).getD (t.length + j) 0 = [c0, c1, c2, c3].getD j 0 := fun j => by
    rw [List.getD_eq_getElem?_getD, List.getD_eq_getElem?_getD, List.getElem?_append_right (by omega)]
    congr 2
    omega
  have hs : Lib.lastStart (t ++ [c0, c1, c2, c3]) = t.length := by
    have e2 := g 2
    have e1 := g 1
    have e0 := g 0
    simp only [List.getD_cons_succ, List.getD_cons_zero, Nat.add_zero] at e0 e1 e2
    unfold Lib.lastStart
    simp only [hl, show t.length + 4 - 2 = t.length + 2 by omega, show t.length + 4 - 3 = t.length + 1 by omega, show t.length + 4 - 4 = t.length by omega, e0, e1, e2, h0, h1, h2]
    rw [if_neg (by omega), if_neg (by decide), if_neg (by omega), if_neg (by decide), if_neg (by omega), if_pos trivial]
  have e3 := g 3
  simp only [List.getD_cons_succ, List.getD_cons_zero] at e3
  unfold Lib.decodeLastL
  rw [if_neg (by simp), hl, show t.length + 4 - 1 = t.length + 3 by omega, e3, if_neg (by omega), hs, List.drop_left]
  simp only [hd]
  rw [if_pos trivial]
theorem start_no (n : Nat) (h : n < 64) : Lib.runeStartB (UInt8.ofNat (128 + n)) = false := by
  unfold Lib.runeStartB
  have : (UInt8.ofNat (128 + n)).toNat = 128 + n := by simp; omega
  rw [this]
  have : (128 + n) / 64 = 2 := by omega
  rw [this]; rfl
theorem start_yes (n : Nat) (h : n < 256) (h2 : 192 ≤ n) : Lib.runeStartB (UInt8.ofNat n) = true := by
  unfold Lib.runeStartB
  have : (UInt8.ofNat n).toNat = n := by simp; omega
  rw [this]
  have : n / 64 ≠ 2 := by omega
  simp [this]
theorem ofNat_ge (n : Nat) (h : n < 256) (h2 : 128 ≤ n) : 128 ≤ (UInt8.ofNat n).toNat := by
  have : (UInt8.ofNat n).toNat = n := by simp; omega
  omega
/-- Decoding the last rune. -/
theorem decodeLast_enc (t : List UInt8) (r : Int) (hv : Utf8.valid r = true) : Lib.decodeLastL (t ++ enc r) = (r.toNat, (enc r).length) := by
  have hb := (valid_iff r).1 hv
  have hd : Lib.decodeL (enc r) = (r.toNat, (enc r).length) := by
    have := decode_enc0 r hv []
    rw [List.append_nil] at this
    exact this
  by_cases c1 : r < 128
  · have e := enc_one hb.1 c1
    rw [e] at hd ⊢
    have hn : (UInt8.ofNat r.toNat).toNat = r.toNat := by simp; omega
    rw [Lib.decodeLastL_ascii t _ (by rw [hn]; omega), hn]
    rfl
  · by_cases c2 : r < 2048
    · have e := enc_two (by omega) c2
      rw [e] at hd ⊢
      rw [Lib.last2 t _ _ (ofNat_ge _ (by omega) (by omega)) (start_yes _ (by omega) (by omega)) (by rw [hd]; rfl), hd]
    · by_cases c3 : r < 65536
      · have e := enc_three hv (by omega) c3
        rw [e] at hd ⊢
        rw [Lib.last3 t _ _ _ (ofNat_ge _ (by omega) (by omega)) (start_no _ (by omega)) (start_yes _ (by omega) (by omega)) (by rw [hd]; rfl), hd]
      · have e := enc_four hv (by omega)
        rw [e] at hd ⊢
        rw [last4 t _ _ _ _ (ofNat_ge _ (by omega) (by omega)) (start_no _ (by omega)) (start_no _ (by omega)) (start_yes _ (by omega) (by omega)) (by rw [hd]; rfl), hd]
theorem low_eq (z : Int) (hv : Utf8.valid z = true) : lowN z.toNat = lowR z := by
  have hb := (valid_iff z).1 hv
  unfold lowN lowR
  exact decide_eq_decide.2 (by omega)
/-- From the left. -/
theorem idx_enc (p : Nat → Bool) (q : Int → Bool) (hpq : ∀ z, Utf8.valid z = true → p z.toNat = q z) : ∀ (rs : List Int) (pre : List UInt8) (f : Nat), AllV rs → (encs rs).length ≤ f →
    Lib.idxFuncFrom p false ⟨(pre ++ encs rs).toArray⟩ f pre.length = if rs.all q then -1 else ((pre.length + (encs (rs.takeWhile q)).length : Nat) : Int)
  | [], pre, f, _, _ => by
    rw [encs_nil, List.append_nil, Lib.idxFuncFrom_end p false _ f pre.length (by rw [arr_size]; omega)]
    rfl
  | z :: t, pre, f, hV, hf => by
    have hz := hV z (by simp)
    have hp := enc_pos z
    rw [encs_cons] at hf ⊢
    obtain ⟨g, rfl⟩ : ∃ g, f = g + 1 := ⟨f - 1, by rw [List.length_append] at hf; omega⟩
    unfold Lib.idxFuncFrom
    rw [if_pos (by rw [arr_size, List.length_append, List.length_append]; omega), decode_enc pre z hz]
    simp only
    rw [hpq z hz]
    cases hq : q z with
    | false =>
      have e1 : (z :: t).takeWhile q = [] := by rw [List.takeWhile_cons, if_neg (by rw [hq]; decide)]
      have e2 : (z :: t).all q = false := by rw [List.all_cons, hq]; rfl
      rw [if_pos rfl, e1, e2, if_neg (by decide), encs_nil]
      rfl
    | true =>
      rw [if_neg (by decide), List.all_cons, hq, Bool.true_and, List.takeWhile_cons, if_pos hq]
      have h := idx_enc p q hpq t (pre ++ enc z) g (fun y hy => hV y (by simp [hy])) (by rw [List.length_append] at hf; omega)
      rw [List.append_assoc, List.length_append] at h
      rw [h, encs_cons, List.length_append]
      split
      · rfl
      · omega
theorem encs_drop (q : Int → Bool) (rs : List Int) : (encs rs).drop (encs (rs.takeWhile q)).length = encs (rs.dropWhile q) := by
  conv => lhs; arg 2; rw [← List.takeWhile_append_dropWhile (p := q) (l := rs)]
  rw [encs_app, List.drop_left]
theorem drop_all (q : Int → Bool) : ∀ (rs : List Int), rs.all q = true → rs.dropWhile q = []
  | [], _ => rfl
  | z :: t, h => by
    rw [List.all_cons, Bool.and_eq_true] at h
    rw [List.dropWhile_cons, if_pos h.1]
    exact drop_all q t h.2
theorem trimLeft_enc (p : Nat → Bool) (q : Int → Bool) (hpq : ∀ z, Utf8.valid z = true → p z.toNat = q z) (rs : List Int) (hV : AllV rs) : Lib.trimLeftF p ⟨(encs rs).toArray⟩ = ⟨(encs (rs.dropWhile q)).toArray⟩ := by
  have h := idx_enc p q hpq rs [] (encs rs).length hV (Nat.le_refl _)
  simp only [List.nil_append, List.length_nil, Nat.zero_add] at h
  unfold Lib.trimLeftF Lib.idxFunc
  rw [arr_size, h]
  cases ha : rs.all q with
  | true => rw [if_pos rfl, if_pos rfl, drop_all q rs ha]; rfl
  | false =>
    simp only [Bool.false_eq_true, if_false]
    rw [if_neg (by omega), Int.toNat_natCast, extract_eq, encs_drop]
/-- From the right: the runes in the reverse order. -/
theorem last_enc (p : Nat → Bool) (q : Int → Bool) (hpq : ∀ z, Utf8.valid z = true → p z.toNat = q z) : ∀ (qs : List Int) (post : List UInt8) (f : Nat), AllV qs → (encs qs.reverse).length ≤ f →
    Lib.lastIdxFuncFrom p false ⟨(encs qs.reverse ++ post).toArray⟩ f (encs qs.reverse).length = match qs.dropWhile q with | [] => -1 | _ :: t => ((encs t.reverse).length : Int)
  | [], post, f, _, _ => by
    rw [List.reverse_nil, encs_nil, List.length_nil, Lib.lastIdxFuncFrom_zero]
    rfl
  | z :: t, post, f, hV, hf => by
    have hz := hV z (by simp)
    have hp := enc_pos z
    rw [List.reverse_cons, encs_app, encs_one] at hf ⊢
    obtain ⟨g, rfl⟩ : ∃ g, f = g + 1 := ⟨f - 1, by rw [List.length_append] at hf; omega⟩
    unfold Lib.lastIdxFuncFrom
    have ht : (⟨(encs t.reverse ++ enc z ++ post).toArray⟩ : ByteArray).data.toList.take (encs t.reverse ++ enc z).length = encs t.reverse ++ enc z := by
      rw [arr_list, List.take_left]
    rw [if_pos (by rw [List.length_append]; omega), ht, decodeLast_enc _ z hz]
    simp only
    have el : (encs t.reverse ++ enc z).length - (enc z).length = (encs t.reverse).length := by rw [List.length_append]; omega
    rw [hpq z hz, el]
    cases hq : q z with
    | false =>
      rw [if_pos rfl, List.dropWhile_cons, if_neg (by rw [hq]; decide)]
    | true =>
      rw [if_neg (by decide), List.dropWhile_cons, if_pos hq]
      have h := last_enc p q hpq t (enc z ++ post) g (fun y hy => hV y (by simp [hy])) (by rw [List.length_append] at hf; omega)
      rw [← List.append_assoc] at h
      exact h
theorem trimRight_enc (p : Nat → Bool) (q : Int → Bool) (hpq : ∀ z, Utf8.valid z = true → p z.toNat = q z) (qs : List Int) (hV : AllV qs) : Lib.trimRightF p ⟨(encs qs.reverse).toArray⟩ = ⟨(encs (qs.dropWhile q).reverse).toArray⟩ := by
  have h := last_enc p q hpq qs [] (encs qs.reverse).length hV (Nat.le_refl _)
  rw [List.append_nil] at h
  unfold Lib.trimRightF Lib.rightEndF Lib.lastIdxFunc
  rw [arr_size, h]
  have hsp : encs qs.reverse = encs (qs.dropWhile q).reverse ++ encs (qs.takeWhile q).reverse := by
    rw [← encs_app, ← List.reverse_append, List.takeWhile_append_dropWhile]
  have hmem : ∀ z ∈ qs.dropWhile q, Utf8.valid z = true := fun z hz => hV z ((List.dropWhile_sublist q).subset hz)
  generalize qs.takeWhile q = tk at hsp
  cases hd : qs.dropWhile q with
  | nil =>
    simp only
    rw [if_neg (by decide), extract_take, List.take_zero]
    rfl
  | cons z t =>
    rw [hd] at hsp hmem
    simp only
    have hz := hmem z (by simp)
    rw [if_pos (by omega), Int.toNat_natCast]
    have e1 : encs qs.reverse = encs t.reverse ++ (enc z ++ encs tk.reverse) := by rw [hsp, List.reverse_cons, encs_app, encs_one, List.append_assoc]
    have e2 : (Lib.decodeGoB ((⟨(encs qs.reverse).toArray⟩ : ByteArray).extract (encs t.reverse).length (encs qs.reverse).length)).2 = (enc z).length := by
      rw [extract_eq, e1, List.drop_left]
      unfold Lib.decodeGoB
      rw [if_neg (by rw [arr_size, List.length_append]; have := enc_pos z; omega), decode_enc0 z hz]
    rw [e2, extract_take]
    congr 2
    rw [List.reverse_cons, encs_app, encs_one]
    have e3 : (encs t.reverse).length + (enc z).length = (encs t.reverse ++ enc z).length := by rw [List.length_append]
    rw [e3, e1, ← List.append_assoc, List.take_left]
theorem trim_enc (p : Nat → Bool) (q : Int → Bool) (hpq : ∀ z, Utf8.valid z = true → p z.toNat = q z) (rs : List Int) (hV : AllV rs) : Lib.trimF p ⟨(encs rs).toArray⟩ = ⟨(encs ((rs.dropWhile q).reverse.dropWhile q).reverse).toArray⟩ := by
  unfold Lib.trimF
  rw [trimLeft_enc p q hpq rs hV]
  have h := trimRight_enc p q hpq (rs.dropWhile q).reverse (fun z hz => hV z ((List.dropWhile_sublist q).subset (by simpa using hz)))
  rw [List.reverse_reverse] at h
  exact h
/-- Stripped, by runes. -/
def trimR (rs : List Int) : List Int := ((rs.dropWhile lowR).reverse.dropWhile lowR).reverse
def stripR (rs : List Int) : List Int := (trimR rs).filter fun z => !gapR z
theorem enc_low {z : Int} (hv : Utf8.valid z = true) (h : lowR z = true) : ∃ c : UInt8, enc z = [c] ∧ lowC c = true := by
  have hb := (valid_iff z).1 hv
  have h' : z ≤ 32 := by simpa [lowR] using h
  refine ⟨UInt8.ofNat z.toNat, enc_one hb.1 (by omega), ?_⟩
  have hn : (UInt8.ofNat z.toNat).toNat = z.toNat := by simp; omega
  unfold lowC
  rw [hn]
  simp
  omega
theorem enc_notlow {z : Int} (hv : Utf8.valid z = true) (h : lowR z = false) : ∀ c ∈ enc z, lowC c = false := by
  have hb := (valid_iff z).1 hv
  have h' : 32 < z := by simpa [lowR] using h
  intro c hc
  by_cases c1 : z < 128
  · rw [enc_one hb.1 c1] at hc
    have hn : (UInt8.ofNat z.toNat).toNat = z.toNat := by simp; omega
    have : c = UInt8.ofNat z.toNat := by simpa using hc
    unfold lowC
    rw [this, hn]
    simp
    omega
  · have := enc_high (r := z) (by omega) c hc
    unfold lowC
    simp
    omega
theorem dropWhile_head (q : UInt8 → Bool) (a b : List UInt8) (h0 : 0 < a.length) (h : ∀ c ∈ a, q c = false) : (a ++ b).dropWhile q = a ++ b := by
  cases a with
  | nil => simp at h0
  | cons c t => rw [List.cons_append, List.dropWhile_cons, if_neg (by rw [h c (by simp)]; decide)]
theorem drop_bytes : ∀ (rs : List Int), AllV rs → (encs rs).dropWhile lowC = encs (rs.dropWhile lowR)
  | [], _ => rfl
  | z :: t, hV => by
    have hz := hV z (by simp)
    rw [encs_cons, List.dropWhile_cons]
    cases hl : lowR z with
    | true =>
      obtain ⟨c, hc, hlc⟩ := enc_low hz hl
      rw [if_pos rfl, hc, List.singleton_append, List.dropWhile_cons, if_pos hlc]
      exact drop_bytes t (fun y hy => hV y (by simp [hy]))
    | false =>
      rw [if_neg (by decide), dropWhile_head _ _ _ (enc_pos z) (enc_notlow hz hl), encs_cons]
theorem drop_back : ∀ (qs : List Int), AllV qs → (encs qs.reverse).reverse.dropWhile lowC = (encs (qs.dropWhile lowR).reverse).reverse
  | [], _ => rfl
  | z :: t, hV => by
    have hz := hV z (by simp)
    rw [List.reverse_cons, encs_app, encs_one, List.reverse_append, List.dropWhile_cons]
    cases hl : lowR z with
    | true =>
      obtain ⟨c, hc, hlc⟩ := enc_low hz hl
      rw [if_pos rfl, hc, List.reverse_singleton, List.singleton_append, List.dropWhile_cons, if_pos hlc]
      exact drop_back t (fun y hy => hV y (by simp [hy]))
    | false =>
      rw [if_neg (by decide), dropWhile_head _ _ _ (by rw [List.length_reverse]; exact enc_pos z) (fun c hc => enc_notlow hz hl c (by simpa using hc)), List.reverse_cons, encs_app, encs_one, List.reverse_append]
theorem trim_bytes (rs : List Int) (hV : AllV rs) : (((encs rs).dropWhile lowC).reverse.dropWhile lowC).reverse = encs (trimR rs) := by
  rw [drop_bytes rs hV]
  have h := drop_back (rs.dropWhile lowR).reverse (fun z hz => hV z ((List.dropWhile_sublist lowR).subset (by simpa using hz)))
  rw [List.reverse_reverse] at h
  rw [h, List.reverse_reverse]
  rfl
theorem gap_bytes (z : Int) (hv : Utf8.valid z = true) : (enc z).filter (fun c => !gapC c) = if gapR z then [] else enc z := by
  have hb := (valid_iff z).1 hv
  by_cases c1 : z < 128
  · rw [enc_one hb.1 c1]
    have hn : (UInt8.ofNat z.toNat).toNat = z.toNat := by simp; omega
    have hg : gapC (UInt8.ofNat z.toNat) = gapR z := by
      unfold gapC gapR
      have e : ∀ k : Nat, k < 256 → (UInt8.ofNat z.toNat == UInt8.ofNat k) = (z == (k : Int)) := fun k hk => by
        by_cases h : z = k
        · subst h; simp
        · rw [beq_eq_false_iff_ne.2 h, beq_eq_false_iff_ne]
          intro e
          have := congrArg UInt8.toNat e
          rw [hn] at this
          have h9 : (UInt8.ofNat k).toNat = k := by simp; omega
          omega
      have e9 := e 9 (by omega)
      have e10 := e 10 (by omega)
      have e13 := e 13 (by omega)
      exact congr (congrArg _ (congr (congrArg _ e9) e10)) e13
    rw [List.filter_cons, hg]
    cases gapR z <;> simp
  · have hg : gapR z = false := by unfold gapR; simp; omega
    rw [hg, if_neg (by decide), List.filter_eq_self]
    intro c hc
    have := enc_high (r := z) (by omega) c hc
    unfold gapC
    have h : ∀ k : UInt8, k.toNat < 128 → (c == k) = false := fun k hk => by
      rw [beq_eq_false_iff_ne]; rintro rfl; omega
    rw [h 9 (by decide), h 10 (by decide), h 13 (by decide)]
    rfl
theorem filter_bytes : ∀ (rs : List Int), AllV rs → (encs rs).filter (fun c => !gapC c) = encs (rs.filter fun z => !gapR z)
  | [], _ => rfl
  | z :: t, hV => by
    rw [encs_cons, List.filter_append, gap_bytes z (hV z (by simp)), filter_bytes t (fun y hy => hV y (by simp [hy])), List.filter_cons]
    cases gapR z <;> simp [encs_cons]
theorem trimR_valid {rs : List Int} (hV : AllV rs) : AllV (trimR rs) := fun z hz => by
  unfold trimR at hz
  have h1 : z ∈ (rs.dropWhile lowR).reverse.dropWhile lowR := by simpa using hz
  have h2 := (List.dropWhile_sublist lowR).subset h1
  exact hV z ((List.dropWhile_sublist lowR).subset (by simpa using h2))
/-- **Stripping by bytes is stripping by runes.** -/
theorem strip_enc (rs : List Int) (hV : AllV rs) : stripM (encs rs) = encs (stripR rs) := by
  unfold stripM stripR
  rw [trim_bytes rs hV, filter_bytes _ (trimR_valid hV)]
theorem runesI_valid (bs : List UInt8) : AllV (runesI bs) := fun z hz => by
  unfold runesI at hz
  obtain ⟨p, hp, rfl⟩ := List.mem_map.1 hz
  exact pcsF_valid _ _ _ p hp
end Go.Proofs.YtmfhhpacojodkaaGreatDoor.L
