/- What is proved here: plain facts: the machine of KAuto over bytes, over runes, and over the bytes of runes; what Whole answers, by the bytes alone. -/
import Derived.Test.YtckhnkkmcgbabaaDoorKRef
import Derived.Test.YtckhnkkmcgbabaaDoorMathU
namespace Go.Proofs.YtckhnkkmcgbabaaDoor.K
open Go.RowKit Go.Shelf Go.Proofs.YtckhnkkmcgbabaaDoor.U

theorem cl_high {z : Int} (h : 128 ≤ z) : cl z = 0 := by unfold cl; rw [if_neg (by omega), if_neg (by omega), if_neg (by omega)]
theorem cl_low {z : Int} (h : z < 0) : cl z = 0 := by unfold cl; rw [if_neg (by omega), if_neg (by omega), if_neg (by omega)]
theorem zs_high {bs : List UInt8} (h : ∀ b ∈ bs, 128 ≤ b.toNat) : ∀ z ∈ zs bs, cl z = 0 := by
  intro z hz
  simp only [zs, List.mem_map] at hz
  obtain ⟨b, hb, rfl⟩ := hz
  have := h b hb
  exact cl_high (by omega)
/-- A rune's bytes lead where the rune leads. -/
theorem run_enc {q : Nat} (hq : isQ q) (r : Int) : run q (zs (enc r)) = dl q (cl r) := by
  by_cases h1 : 0 ≤ r ∧ r < 128
  · rw [enc_one h1.1 h1.2]
    obtain ⟨n, rfl⟩ : ∃ n : Nat, r = (n : Int) := ⟨r.toNat, by omega⟩
    have : ((UInt8.ofNat n).toNat : Int) = (n : Int) := by simp; omega
    simp only [Int.toNat_natCast, zs, List.map_cons, List.map_nil, run_cons, run_nil, this]
  · have hc : cl r = 0 := by
      by_cases h : 128 ≤ r
      · exact cl_high h
      · exact cl_low (by omega)
    rw [hc]
    have hh : (∀ b ∈ enc r, 128 ≤ b.toNat) ∧ enc r ≠ [] := by
      cases hv : Utf8.valid r with
      | false => rw [enc_wrong hv]; exact ⟨by decide, by simp⟩
      | true =>
        have hb := (valid_iff r).1 hv
        by_cases c2 : r < 2048
        · rw [enc_two (by omega) c2]; exact ⟨by simp; omega, by simp⟩
        · by_cases c3 : r < 65536
          · rw [enc_three hv (by omega) c3]; exact ⟨by simp; omega, by simp⟩
          · rw [enc_four hv (by omega)]; exact ⟨by simp; omega, by simp⟩
    exact run_zero _ _ hq (zs_high hh.1) (fun e => hh.2 (by simpa [zs] using e))
theorem run_encs : ∀ (l : List Int) (q : Nat), isQ q → run q (zs (encs l)) = run q l
  | [], _, _ => rfl
  | r :: l, q, hq => by
    show run q (zs (enc r ++ encs l)) = _
    rw [zs_append, run_append, run_enc hq, run_encs l _ (dl_isQ _ _), run_cons]
/-- A piece of bytes leads where its rune leads. -/
theorem run_piece {q : Nat} (hq : isQ q) (bs : List UInt8) (h0 : 0 < bs.length) : run q (zs (bs.take (nextN bs))) = dl q (cl (nextR bs : Int)) := by
  cases ha : nextAll bs with
  | true =>
    rw [← enc_rune bs h0 ha, run_enc hq]
    unfold nextR
    rw [if_pos ha]
  | false =>
    have hr : nextR bs = 65533 := by unfold nextR; rw [if_neg (by rw [ha]; simp)]
    rw [hr, show cl ((65533 : Nat) : Int) = 0 from rfl]
    have hp := nextN_pos bs
    have hn := nextN_len bs h0
    have hlt : ∀ j, j < nextN bs → 128 ≤ byteAt bs j := by
      intro j hj
      have hb0 : 128 ≤ byteAt bs 0 := by
        rcases Nat.lt_or_ge (byteAt bs 0) 128 with h | h
        · exfalso
          have hl : lead (byteAt bs 0) = 1 := lead_is1 h
          have h1 := nextN_le_lead bs (by omega)
          have : nextAll bs = true := by unfold nextAll; rw [hl]; simp; omega
          rw [this] at ha; cases ha
        · exact h
      cases j with
      | zero => exact hb0
      | succ j =>
        have hz : lead (byteAt bs 0) ≠ 0 := by
          intro h; rw [nextN_zero bs h] at hj; omega
        have hok := scan_ok bs (lead (byteAt bs 0) - 1) 1 (j + 1) (by omega) (by rw [← nextN_scan bs hz]; exact hj)
        simp only [okAt, Bool.and_eq_true, decide_eq_true_eq] at hok
        have h1 := hok.1
        unfold loAt at h1
        split at h1
        · have : 194 ≤ byteAt bs 0 ∧ byteAt bs 0 < 245 := by
            rcases lead_cases (byteAt bs 0) with ⟨c, e⟩ | ⟨c, c', e⟩ | ⟨c, c', e⟩ | ⟨c, c', e⟩ | ⟨c, c', e⟩ | ⟨c, e⟩ <;> omega
          have h2 := hok.2
          unfold hiAt at h2
          rename_i hj1
          rw [if_pos hj1] at h2
          exact (second_ok this.1 this.2 h1 h2).1
        · omega
    refine run_zero _ _ hq (zs_high ?_) (fun e => ?_)
    · intro b hb
      obtain ⟨j, hj, rfl⟩ := List.mem_iff_getElem.1 hb
      simp only [List.length_take] at hj
      have := hlt j (by omega)
      simp only [List.getElem_take]
      unfold byteAt at this
      rw [List.getElem?_eq_getElem (by omega)] at this
      exact this
    · have : (bs.take (nextN bs)).length = 0 := by
        have h := congrArg List.length e
        rw [zs_length] at h
        exact h
      simp only [List.length_take] at this
      omega
theorem runesI_eq (bs : List UInt8) : runesI bs = (runes bs).map fun r : Nat => (r : Int) := by rw [runes_pcs]; simp [runesI]
theorem runesI_cons (bs : List UInt8) (h : 0 < bs.length) : runesI bs = (nextR bs : Int) :: runesI (bs.drop (nextN bs)) := by
  rw [runesI_eq, runes_cons bs h, List.map_cons, ← runesI_eq]
theorem run_runes : ∀ n (bs : List UInt8) (q : Nat), bs.length ≤ n → isQ q → run q (zs bs) = run q (runesI bs)
  | 0, bs, q, h, _ => by
    obtain rfl : bs = [] := List.length_eq_zero_iff.1 (by omega)
    rfl
  | n + 1, bs, q, h, hq => by
    by_cases h0 : 0 < bs.length
    · have hp := nextN_pos bs
      rw [runesI_cons bs h0, run_cons, ← run_piece hq bs h0, ← run_runes n (bs.drop (nextN bs)) _ (by simp; omega) (by rw [run_piece hq bs h0]; exact dl_isQ _ _), ← run_append, ← zs_append, List.take_append_drop]
    · obtain rfl : bs = [] := List.length_eq_zero_iff.1 (by omega)
      rfl
/-- **The bytes and their runes lead to one state.** -/
theorem run_bytes {q : Nat} (hq : isQ q) (bs : List UInt8) : run q (zs bs) = run q (runesI bs) := run_runes bs.length bs q (Nat.le_refl _) hq

/-- Runes on both sides of a cut that a sign of ASCII stands behind, or nothing. -/
theorem runesI_append (X Y : List UInt8) (h : Y = [] ∨ byteAt Y 0 < 128) : runesI (X ++ Y) = runesI X ++ runesI Y := by
  rw [runesI_eq, runes_append Y X.length X (Nat.le_refl _) (by
    rcases h with h | h
    · exact .inr (.inl h)
    · exact .inr (.inr (by rw [lead_is1 h]; decide))), List.map_append, ← runesI_eq, ← runesI_eq]
theorem runesI_nil : runesI [] = [] := rfl
theorem runesI_ascii (c : UInt8) (Y : List UInt8) (h : c.toNat < 128) : runesI (c :: Y) = (c.toNat : Int) :: runesI Y := by
  have hb : byteAt (c :: Y) 0 = c.toNat := by simp [byteAt]
  have hl : lead (byteAt (c :: Y) 0) = 1 := by rw [hb]; exact lead_is1 h
  have h1 := nextN_pos (c :: Y)
  have h2 := nextN_le_lead (c :: Y) (by omega)
  have hn : nextN (c :: Y) = 1 := by omega
  rw [runesI_cons _ (by simp), hn]
  have hr : nextR (c :: Y) = c.toNat := by
    unfold nextR
    rw [if_pos (by unfold nextAll; rw [hn, hl]; rfl)]
    unfold runeOf
    rw [if_pos hl, hb]
  rw [hr]; rfl
/-- Runes on both sides of a cut that a sign of ASCII stands ahead of, or nothing. -/
theorem runesI_behind (X Y : List UInt8) (c : UInt8) (h : c.toNat < 128) : runesI ((X ++ [c]) ++ Y) = runesI (X ++ [c]) ++ runesI Y := by
  rw [List.append_assoc, List.singleton_append, runesI_append X (c :: Y) (.inr (by simpa [byteAt] using h)), runesI_append X [c] (.inr (by simpa [byteAt] using h)), runesI_ascii c Y h, runesI_ascii c [] h, runesI_nil]
  simp

/-- What is not said yet, in bytes. -/
def pbB (q : Nat) : List UInt8 := if q = 4 then [45] else if q = 6 then [45] else if q = 7 then [45, 45] else if q = 8 then [45, 45, 33] else []
theorem zs_pbB (q : Nat) : zs (pbB q) = pb q := by unfold pbB pb; repeat' split
                                                   all_goals rfl
theorem pbB_length (q : Nat) : (pbB q).length = pend q := by rw [← zs_length, zs_pbB, pb_length]
theorem zs_inj : ∀ (a b : List UInt8), zs a = zs b → a = b
  | [], [], _ => rfl
  | [], y :: b, h => by simp [zs] at h
  | x :: a, [], h => by simp [zs] at h
  | x :: a, y :: b, h => by
    rw [zs_cons, zs_cons] at h
    injection h with h1 h2
    have : x.toNat = y.toNat := by omega
    rw [UInt8.toNat_inj.1 this, zs_inj a b h2]
theorem split_pb {q : Nat} {X : List UInt8} (h : pb q <:+ zs X) : X = X.take (X.length - pend q) ++ pbB q := by
  obtain ⟨T, hT⟩ := h
  have hl : T.length + pend q = X.length := by
    have := congrArg List.length hT
    rw [List.length_append, pb_length, zs_length] at this
    exact this
  apply zs_inj
  rw [zs_append, zs_pbB]
  have : zs (X.take (X.length - pend q)) = T := by
    unfold zs at hT ⊢
    rw [List.map_take, ← hT, List.take_left' (by omega)]
  rw [this, hT]
/-- **What is said of runes is what is said of bytes.** -/
theorem said_bytes {q : Nat} (hq : isQ q) (hp : pb q = []) (X : List UInt8) (h9 : run q (zs X) ≠ 9) :
    said (run q (zs X)) (runesI X) = if run q (zs X) = 1 then [] else runesI (X.take (X.length - pend (run q (zs X)))) := by
  have ht := tail_run hq hp _ (zs X) rfl h9
  have hs := split_pb ht
  generalize run q (zs X) = p at *
  unfold said
  by_cases h1 : p = 1
  · rw [if_pos h1, if_pos h1]
  · rw [if_neg h1, if_neg h1]
    obtain ⟨T, hT⟩ : ∃ T, X.take (X.length - pend p) = T := ⟨_, rfl⟩
    rw [hT] at hs ⊢
    have hY : runesI (pbB p) = pb p := by unfold pbB pb; repeat' split
                                          all_goals rfl
    have hb : pbB p = [] ∨ byteAt (pbB p) 0 < 128 := by
      unfold pbB; repeat' split
      all_goals first | exact .inl rfl | exact .inr (by decide)
    rw [hs, runesI_append T _ hb, hY, List.length_append, pb_length, Nat.add_sub_cancel, List.take_left]

/-- What Whole answers: how much it says, how much it takes, whether it is closed, what it says. -/
def wTo (kind : Int) (bs : List UInt8) : Nat := match endK kind bs with
  | some (i, _) => i
  | none => bs.length - pend (run (start kind) (zs bs))
def wN (kind : Int) (bs : List UInt8) : Nat := match endK kind bs with
  | some (_, n) => n
  | none => bs.length
def wC (kind : Int) (bs : List UInt8) : Bool := (endK kind bs).isSome
def wText (kind : Int) (bs : List UInt8) : List UInt8 := if kind = 1 then [] else bs.take (wTo kind bs)

/-- How much an open comment leaves out. -/
def chop (bs : List UInt8) : Nat := if sfx [45, 45, 33] bs = true then 3 else if sfx [45, 45] bs = true then 2 else if sfx [45] bs = true then 1 else 0
theorem sfx_iff (p s : List UInt8) : sfx p s = true ↔ p <:+ s := by
  unfold sfx
  simp only [Bool.and_eq_true, decide_eq_true_eq, beq_iff_eq]
  constructor
  · rintro ⟨_, h⟩
    exact ⟨s.take (s.length - p.length), by conv => lhs; rhs; rw [← h]
                                            exact List.take_append_drop _ _⟩
  · rintro ⟨t, rfl⟩
    simp
theorem suffix_snoc (p m : List UInt8) (y z : UInt8) : p ++ [y] <:+ m ++ [z] ↔ y = z ∧ p <:+ m := by
  constructor
  · rintro ⟨t, ht⟩
    rw [← List.append_assoc] at ht
    have h := List.append_inj' ht rfl
    exact ⟨by simpa using h.2, t, h.1⟩
  · rintro ⟨rfl, t, rfl⟩
    exact ⟨t, by simp⟩
def Q3 (q : Nat) : Prop := 3 ≤ q ∧ q ≤ 9
theorem dl_Q3 {q : Nat} (h : Q3 q) (c : Nat) : Q3 (dl q c) := by
  obtain ⟨h1, h2⟩ := h
  have : q = 3 ∨ q = 4 ∨ q = 5 ∨ q = 6 ∨ q = 7 ∨ q = 8 ∨ q = 9 := by omega
  rcases this with rfl | rfl | rfl | rfl | rfl | rfl | rfl <;> simp [dl, Q3] <;> (repeat' split) <;> omega
theorem run_Q3 : ∀ (l : List Int) (q : Nat), Q3 q → Q3 (run q l)
  | [], _, h => h
  | z :: l, q, h => by rw [run_cons]; exact run_Q3 l _ (dl_Q3 h _)
theorem tails : ∀ n (bs : List UInt8), bs.length = n → run 3 (zs bs) ≠ 9 →
    ((run 3 (zs bs) = 4 ∨ run 3 (zs bs) = 6 ∨ run 3 (zs bs) = 7) ↔ [45] <:+ bs) ∧ (run 3 (zs bs) = 7 ↔ [45, 45] <:+ bs) ∧ (run 3 (zs bs) = 8 ↔ [45, 45, 33] <:+ bs)
  | 0, bs, hl, _ => by
    obtain rfl : bs = [] := List.length_eq_zero_iff.1 hl
    refine ⟨⟨fun h => ?_, fun h => ?_⟩, ⟨fun h => ?_, fun h => ?_⟩, ⟨fun h => ?_, fun h => ?_⟩⟩
    · exact absurd h (by decide)
    · exact absurd h.length_le (by decide)
    · exact absurd h (by decide)
    · exact absurd h.length_le (by decide)
    · exact absurd h (by decide)
    · exact absurd h.length_le (by decide)
  | n + 1, bs, hl, h9 => by
    obtain ⟨m, z, rfl⟩ : ∃ m z, bs = m ++ [z] := ⟨bs.dropLast, bs.getLast (by intro h; rw [h] at hl; cases hl), (List.dropLast_concat_getLast _).symm⟩
    have hs : run 3 (zs (m ++ [z])) = dl (run 3 (zs m)) (cl (z.toNat : Int)) := by rw [zs_append, run_append]; rfl
    rw [hs] at h9 ⊢
    have hm9 : run 3 (zs m) ≠ 9 := fun h => h9 (by rw [h, dl_nine])
    obtain ⟨i1, i2, i3⟩ := tails n m (by simpa using hl) hm9
    have s1 : [45] <:+ m ++ [z] ↔ 45 = z ∧ [] <:+ m := suffix_snoc [] m 45 z
    have s2 : [45, 45] <:+ m ++ [z] ↔ 45 = z ∧ [45] <:+ m := suffix_snoc [45] m 45 z
    have s3 : [45, 45, 33] <:+ m ++ [z] ↔ 33 = z ∧ [45, 45] <:+ m := suffix_snoc [45, 45] m 33 z
    rw [s1, s2, s3, ← i1, ← i2]
    clear s1 s2 s3
    have hq : Q3 (run 3 (zs m)) := run_Q3 _ _ ⟨by omega, by omega⟩
    generalize run 3 (zs m) = q at *
    obtain ⟨q1, q2⟩ := hq
    have hq' : q = 3 ∨ q = 4 ∨ q = 5 ∨ q = 6 ∨ q = 7 ∨ q = 8 := by omega
    clear i1 i2 i3 hs hl hm9 q1 q2
    have e1 : ∀ {x : UInt8}, ([] : List UInt8) <:+ m ↔ True := fun {_} => by simp
    rcases byte_cases z with ⟨rfl, k⟩ | ⟨rfl, k⟩ | ⟨rfl, k⟩ | ⟨h1, h2, h3, k⟩ <;> rw [k] at h9 ⊢ <;> rcases hq' with rfl | rfl | rfl | rfl | rfl | rfl
    all_goals first
      | (exfalso; exact h9 rfl)
      | (simp [dl]; done)
      | (have g1 : ¬ (45 : UInt8) = z := fun e => h1 e.symm
         have g2 : ¬ (33 : UInt8) = z := fun e => h2 e.symm
         simp [dl, g1, g2]; done)
      | skip
theorem chop_eq (bs : List UInt8) (h9 : run 3 (zs bs) ≠ 9) : chop bs = pend (run 3 (zs bs)) := by
  obtain ⟨t1, t2, t3⟩ := tails bs.length bs rfl h9
  unfold chop
  simp only [sfx_iff, ← t1, ← t2, ← t3]
  have hq : Q3 (run 3 (zs bs)) := run_Q3 _ _ ⟨by omega, by omega⟩
  generalize run 3 (zs bs) = q at *
  obtain ⟨q1, q2⟩ := hq
  have hq' : q = 3 ∨ q = 4 ∨ q = 5 ∨ q = 6 ∨ q = 7 ∨ q = 8 := by omega
  rcases hq' with rfl | rfl | rfl | rfl | rfl | rfl <;> rfl
theorem R_some_nine : ∀ (l : List Int) (q i : Nat), run q l ≠ 9 ↔ (q ≠ 9 ∧ R q l i = none) ∨ (q ≠ 9 ∧ l = [])
  | [], q, i => by simp [run_nil, R_nil]
  | z :: l, q, i => by
    rw [run_cons, R_cons]
    by_cases h : dl q (cl z) = 9
    · rw [h, if_pos rfl, run_nine]; simp
    · rw [if_neg h, R_some_nine l _ (i + 1)]
      constructor
      · rintro (⟨_, h2⟩ | ⟨_, rfl⟩)
        · exact .inl ⟨fun e => h (by rw [e, dl_nine]), h2⟩
        · exact .inl ⟨fun e => h (by rw [e, dl_nine]), rfl⟩
      · rintro (⟨_, h2⟩ | ⟨_, h2⟩)
        · exact .inl ⟨h, h2⟩
        · cases h2
theorem start_ne (k : Int) : start k ≠ 9 := by unfold start; repeat' split
                                               all_goals omega
/-- Where no end is found the machine is not over. -/
theorem none_run (kind : Int) (bs : List UInt8) (h : endK kind bs = none) : run (start kind) (zs bs) ≠ 9 := (R_some_nine _ _ 0).2 (.inl ⟨start_ne kind, by rw [endK_R]; exact h⟩)
/-- Where none is left out. -/
theorem pend_other (kind : Int) (hk : kind ≠ 0) (l : List Int) : pend (run (start kind) l) = 0 := by
  have : ∀ (l : List Int) (q : Nat), q = 1 ∨ q = 2 ∨ q = 9 → run q l = 1 ∨ run q l = 2 ∨ run q l = 9 := by
    intro l
    induction l with
    | nil => exact fun q h => h
    | cons z l ih =>
      intro q h
      rw [run_cons]
      apply ih
      rcases h with rfl | rfl | rfl
      · simp only [dl]; split <;> simp_all
        all_goals (repeat' split) <;> simp_all
      · have e : dl 2 (cl z) = if cl z = 3 then 9 else 2 := rfl
        rw [e]; split <;> simp
      · rw [dl_nine]; simp
  have hs : start kind = 1 ∨ start kind = 2 ∨ start kind = 9 := by unfold start; rw [if_neg hk]; split <;> simp
  rcases this l _ hs with h | h | h <;> rw [h] <;> rfl
end Go.Proofs.YtckhnkkmcgbabaaDoor.K
