/- What is proved here: values as lists: made plain, the words of a plain text, numbers, days and colors. No program in it. -/
import Derived.Test.YtfbfigjjnpamiaaGreatDoorLkVal
import Derived.Test.YtfbfigjjnpamiaaGreatDoorBun10
import Derived.Test.YtfbfigjjnpamiaaGreatDoorNMath
import Derived.Test.YtfbfigjjnpamiaaGreatDoorBun7
import Derived.Test.YtfbfigjjnpamiaaGreatDoorBun6
import Derived.Test.YtfbfigjjnpamiaaGreatDoorBun2
namespace Go.Proofs.YtfbfigjjnpamiaaGreatDoor.V
open Go.RowKit Go.Shelf Go.Proofs.YtfbfigjjnpamiaaGreatDoor.N Go.Proofs.YtfbfigjjnpamiaaGreatDoor.U Go.Proofs.YtfbfigjjnpamiaaGreatDoor.L

/-- The runes of a value, each made plain. -/
def clR (bs : List UInt8) : List Int := (runesI bs).map plainZ
/-- A value, made plain. -/
def clB (bs : List UInt8) : List UInt8 := encs (clR bs)
theorem clR_valid (bs : List UInt8) : AllV (clR bs) := fun z hz => by
  obtain ⟨y, hy, rfl⟩ := List.mem_map.1 hz
  obtain ⟨a, b, _⟩ := (valid_iff y).1 (runesI_valid bs y hy)
  exact (valid_iff _).2 (plainZ_ok y a b)
theorem clB_len (bs : List UInt8) : (clB bs).length ≤ 4 * bs.length := by
  have h1 := encs_length (clR bs)
  have h2 : (clR bs).length ≤ bs.length := by unfold clR; rw [List.length_map, runesI_length]; exact pcs_length bs
  unfold clB
  omega
/-- A text of plain runes. -/
def Pl (s : List UInt8) : Prop := ∃ zs, AllV zs ∧ (∀ z ∈ zs, plainZ z = z) ∧ s = encs zs
theorem Pl.val {s : List UInt8} (h : Pl s) : Val s := by obtain ⟨zs, a, _, b⟩ := h; exact ⟨zs, a, b⟩
theorem pl_cl (bs : List UInt8) : Pl (clB bs) := ⟨clR bs, clR_valid bs, fun z hz => by
  obtain ⟨y, _, rfl⟩ := List.mem_map.1 hz
  exact plainZ_idem y, rfl⟩
theorem runesI_val (zs : List Int) (hV : AllV zs) : runesI (encs zs) = zs := by
  rw [(runesI_encs zs).1]
  have : ∀ z ∈ zs, mendR z = z := fun z hz => by unfold mendR; rw [if_pos (hV z hz)]
  exact (List.map_congr_left this).trans (List.map_id zs)
theorem Pl.cl {s : List UInt8} (h : Pl s) : clB s = s := by
  obtain ⟨zs, hV, hp, rfl⟩ := h
  unfold clB clR
  rw [runesI_val zs hV]
  congr 1
  exact (List.map_congr_left hp).trans (List.map_id zs)
theorem clB_again (bs : List UInt8) : clB (clB bs) = clB bs := (pl_cl bs).cl
theorem Pl.app {x y : List UInt8} (hx : Pl x) (hy : Pl y) : Pl (x ++ y) := by
  obtain ⟨a, ha, pa, rfl⟩ := hx
  obtain ⟨b, hb, pb, rfl⟩ := hy
  exact ⟨a ++ b, fun z hz => by rcases List.mem_append.1 hz with h | h; exact ha z h; exact hb z h, fun z hz => by rcases List.mem_append.1 hz with h | h; exact pa z h; exact pb z h, (encs_app a b).symm⟩
theorem pl_nil : Pl [] := ⟨[], fun z hz => absurd hz (by simp), fun z hz => absurd hz (by simp), rfl⟩
/-- A byte that is plain. -/
def plC (c : UInt8) : Bool := (decide (32 ≤ c.toNat) && decide (c.toNat ≤ 126)) || c == 9 || c == 10 || c == 12
theorem plC_facts : ∀ n : Fin 256, plC (UInt8.ofNat n.val) = true → n.val < 128 ∧ plainZ (n.val : Int) = n.val := by decide +kernel
theorem plC_open {c : UInt8} (h : plC c = true) : c.toNat < 128 ∧ plainZ (c.toNat : Int) = c.toNat := by
  have := plC_facts ⟨c.toNat, c.toNat_lt⟩ (by simpa using h)
  exact this
theorem pl_one {c : UInt8} (h : plC c = true) : Pl [c] := by
  obtain ⟨h1, h2⟩ := plC_open h
  refine ⟨[(c.toNat : Int)], fun z hz => ?_, fun z hz => ?_, ?_⟩
  · simp at hz; subst hz; exact (valid_iff _).2 (by omega)
  · simp at hz; subst hz; exact h2
  · rw [encs_one, enc_one (by omega) (by omega)]
    simp
theorem pl_ascii : ∀ (l : List UInt8), (∀ c ∈ l, plC c = true) → Pl l
  | [], _ => pl_nil
  | c :: t, h => (pl_one (h c (by simp))).app (pl_ascii t (fun d hd => h d (by simp [hd])))
/-- What is cut at a sign of ASCII. -/
theorem cut_plain : ∀ (zs : List Int), AllV zs → (∀ z ∈ zs, plainZ z = z) → ∀ (x : List UInt8) (c : UInt8) (y : List UInt8), encs zs = x ++ c :: y → c.toNat < 128 → Pl x ∧ Pl y
  | [], _, _, x, c, y, h, _ => by simp [encs] at h
  | z :: t, hV, hP, x, c, y, h, hc => by
    have hT : AllV t := fun u hu => hV u (by simp [hu])
    have pT : ∀ u ∈ t, plainZ u = u := fun u hu => hP u (by simp [hu])
    have hz : AllV [z] := fun u hu => by simp at hu; subst hu; exact hV _ (by simp)
    have pz : ∀ u ∈ [z], plainZ u = u := fun u hu => by simp at hu; subst hu; exact hP _ (by simp)
    rw [encs_cons] at h
    by_cases hl : (enc z).length ≤ x.length
    · obtain ⟨x', rfl⟩ : ∃ x', x = enc z ++ x' := by
        refine ⟨x.drop (enc z).length, ?_⟩
        have h1 := congrArg (List.take (enc z).length) h
        rw [List.take_left, List.take_append_of_le_length hl] at h1
        have h2 := List.take_append_drop (enc z).length x
        rw [← h1] at h2
        exact h2.symm
      rw [List.append_assoc] at h
      have h2 := List.append_cancel_left h
      obtain ⟨g1, g2⟩ := cut_plain t hT pT x' c y h2 hc
      exact ⟨Pl.app ⟨[z], hz, pz, (encs_one z).symm⟩ g1, g2⟩
    · have hmem : c ∈ enc z := by
        have h1 : (enc z ++ encs t)[x.length]? = some c := by rw [h]; simp
        rw [List.getElem?_append_left (by omega)] at h1
        exact List.mem_of_getElem? h1
      have hr : 0 ≤ z ∧ z < 128 := by
        by_cases hn : 0 ≤ z ∧ z < 128
        · exact hn
        · have := enc_high hn c hmem; omega
      have hd := enc_one hr.1 hr.2
      have hen : (enc z).length = 1 := by rw [hd]; rfl
      have hx0 : x = [] := List.eq_nil_of_length_eq_zero (by omega)
      subst hx0
      rw [hd] at h
      simp at h
      rw [← h.2]
      exact ⟨pl_nil, t, hT, pT, rfl⟩
theorem Pl.cut {x y : List UInt8} {c : UInt8} (h : Pl (x ++ c :: y)) (hc : c.toNat < 128) : Pl x ∧ Pl y := by
  obtain ⟨zs, hV, hP, e⟩ := h
  exact cut_plain zs hV hP x c y e.symm hc
/-- The words of a plain text are plain. -/
theorem fieldsFrom_plain2 : ∀ (l w : List UInt8), Pl (w ++ l) → (∀ f ∈ fieldsFrom l w, Pl f)
  | [], w, h, f, hf => by
    rw [ff_nil] at hf
    split at hf
    · simp at hf
    · simp at hf; subst hf; simpa using h
  | c :: r, w, h, f, hf => by
    rw [ff_cons] at hf
    split at hf
    · rename_i hb
      have hc : c.toNat < 128 := by
        unfold blankB at hb
        simp at hb
        rcases hb with ((rfl | rfl) | rfl) | rfl <;> decide
      obtain ⟨p1, p2⟩ := Pl.cut h hc
      split at hf
      · exact fieldsFrom_plain2 r [] (by simpa using p2) f hf
      · rcases List.mem_cons.1 hf with rfl | hf
        · exact p1
        · exact fieldsFrom_plain2 r [] (by simpa using p2) f hf
    · exact fieldsFrom_plain2 r (w ++ [c]) (by simpa using h) f hf
theorem joined_pl : ∀ (ws : List (List UInt8)), (∀ w ∈ ws, Pl w) → Pl (joined ws)
  | [], _ => pl_nil
  | [x], h => by rw [joined_one]; exact h x (by simp)
  | x :: y :: r, h => by
    rw [joined_cons]
    exact (h x (by simp)).app (Pl.app (x := [32]) (pl_one (by decide)) (joined_pl (y :: r) (fun w hw => h w (by simp [List.mem_cons.1 hw]))))
theorem collapse_pl {s : List UInt8} (h : Pl s) : Pl (collapse s) := joined_pl _ (fieldsFrom_plain2 s [] (by simpa using h))
/-- What is not blank stands behind a word's beginning. -/
theorem ff_run : ∀ (x y w : List UInt8), (∀ c ∈ x, blankB c = false) → fieldsFrom (x ++ y) w = fieldsFrom y (w ++ x)
  | [], y, w, _ => by simp
  | c :: t, y, w, h => by
    rw [List.cons_append, ff_cons, if_neg (by rw [h c (by simp)]; decide), ff_run t y (w ++ [c]) (fun d hd => h d (by simp [hd])), List.append_assoc]
    rfl
/-- A digit. -/
def digC (c : UInt8) : Bool := decide (48 ≤ c.toNat) && decide (c.toNat ≤ 57)
def numV (l : List UInt8) : Nat := l.foldl (fun n c => 10 * n + (c.toNat - 48)) 0
theorem numV_snoc (l : List UInt8) (c : UInt8) : numV (l ++ [c]) = 10 * numV l + (c.toNat - 48) := by simp [numV]
theorem num_from : ∀ (l : List UInt8) (a : Nat), (∀ c ∈ l, digC c = true) → l.foldl (fun n c => 10 * n + (c.toNat - 48)) a < (a + 1) * 10 ^ l.length
  | [], a, _ => by simp
  | c :: t, a, h => by
    have h2 := h c (by simp)
    unfold digC at h2
    simp at h2
    have h1 := num_from t (10 * a + (c.toNat - 48)) (fun d hd => h d (by simp [hd]))
    rw [List.foldl_cons, List.length_cons, Nat.pow_succ]
    refine Nat.lt_of_lt_of_le h1 ?_
    rw [Nat.mul_comm (10 ^ t.length) 10, ← Nat.mul_assoc]
    exact Nat.mul_le_mul_right _ (by omega)
theorem numV_lt (l : List UInt8) (h : ∀ c ∈ l, digC c = true) : numV l < 10 ^ l.length := by
  have := num_from l 0 h
  simpa [numV] using this
/-- The number that some digits say, if they are one to nine digits. -/
def numB (l : List UInt8) : Option Nat := if 1 ≤ l.length ∧ l.length ≤ 9 ∧ l.all digC = true then some (numV l) else none
/-- What Go reads at a byte of ASCII, and at another one. -/
theorem dec_low (bs : List UInt8) (k : Nat) (c : UInt8) (hc : bs.getD k 0 = c) (h : c.toNat < 128) : Utf8.decode ⟨bs.toArray⟩ k = (c.toNat, 1) := by
  have hb : U.byteAt (bs.drop k) 0 = c.toNat := by
    unfold U.byteAt
    rw [List.getElem?_drop, Nat.add_zero, ← hc, List.getD_eq_getElem?_getD]
  rw [decode_drop, hb]
  unfold Lib.decodeN
  rw [if_pos h]
theorem dec_high (bs : List UInt8) (k : Nat) (c : UInt8) (hc : bs.getD k 0 = c) (hk : k < bs.length) (h : 128 ≤ c.toNat) : ∃ r n : Nat, Utf8.decode ⟨bs.toArray⟩ k = (r, n) ∧ 128 ≤ r ∧ r ≤ 1114111 := by
  have hb : U.byteAt (bs.drop k) 0 = c.toNat := by
    unfold U.byteAt
    rw [List.getElem?_drop, Nat.add_zero, ← hc, List.getD_eq_getElem?_getD]
  have hd := decode_drop bs k
  have h0 : 0 < (bs.drop k).length := by simp; omega
  generalize bs.drop k = B at *
  cases ha : nextAll B with
  | true =>
    refine ⟨_, _, hd.trans (decode_right B h0 ha), ?_, ?_⟩
    · rcases Nat.lt_or_ge (runeOf B) 128 with hlt | hge
      · exfalso
        have he := enc_rune B h0 ha
        rw [enc_one (by omega) (by omega)] at he
        have hp := nextN_pos B
        have hp0 : 0 < nextN B := by omega
        have hb2 : U.byteAt (B.take (nextN B)) 0 = U.byteAt B 0 := by simp [U.byteAt, hp0]
        rw [← he] at hb2
        simp only [Int.toNat_natCast] at hb2
        rw [byteAt_zero _ (by omega)] at hb2
        omega
      · exact hge
    · have := ((valid_iff _).1 (rune_valid B h0 ha)).2.1
      omega
  | false => exact ⟨65533, 1, hd.trans (decode_wrong B h0 ha), by omega, by omega⟩
end Go.Proofs.YtfbfigjjnpamiaaGreatDoor.V
