/- What is proved here: plain facts on cells: their places rise and go on as they must; a text of cells read again is itself. -/
import Derived.Test.YtpljklemkapnmaaDoorIClean
namespace Go.Proofs.YtpljklemkapnmaaDoor.U

/-- Cells whose places go on from a place. -/
def Rises (N : Nat) : Int → Nat → Nat → List Cn → Prop
  | _, _, _, [] => True
  | py, L, C, x :: xs => plainN x.r = x.r ∧ py < (x.y : Int) ∧ x.y < N ∧ x.l = L ∧ x.c = C ∧ Rises N x.y (if x.r = 10 then L + 1 else L) (if x.r = 10 then 1 else C + 1) xs
/-- Runes whose places rise. -/
def Sorted (N : Nat) : Int → List (Nat × Nat) → Prop
  | _, [] => True
  | py, x :: xs => py < (x.1 : Int) ∧ x.1 < N ∧ x.2 < 1114112 ∧ Sorted N x.1 xs
theorem plainN_idem (r : Nat) : plainN (plainN r) = plainN r := by
  have h := plainZ_idem (r : Int)
  have h1 := plainN_eq r
  have h2 := plainN_eq (plainN r)
  rw [h1, h] at h2
  omega
theorem plainN_13 (r : Nat) : plainN r ≠ 13 := by
  have h1 := plainN_eq r
  unfold plainZ at h1
  intro h
  repeat' split at h1
  all_goals omega
theorem Sorted.weak {N : Nat} {p q : Int} {ts : List (Nat × Nat)} (h : Sorted N p ts) (hq : q ≤ p) : Sorted N q ts := by
  cases ts with
  | nil => trivial
  | cons x xs => exact ⟨by have := h.1; omega, h.2⟩
theorem sortedF (N : Nat) : ∀ f at0 (bs : List UInt8), at0 + bs.length ≤ N → ∀ py : Int, py < (at0 : Int) → Sorted N py (toksF f at0 bs)
  | 0, _, _, _, _, _ => by unfold toksF; trivial
  | f + 1, at0, bs, hN, py, hp => by
    unfold toksF
    split
    · trivial
    · have h1 := nextN_pos bs
      have h2 := nextN_len bs (by omega)
      refine ⟨hp, by simp only; omega, rune_lt bs (by omega), ?_⟩
      exact sortedF N f (at0 + nextN bs) (bs.drop (nextN bs)) (by simp; omega) _ (by simp only; omega)
theorem toks_sorted (bs : List UInt8) : Sorted bs.length (-1) (toks bs) := sortedF _ _ _ _ (by omega) _ (by omega)
theorem refN_rises (N : Nat) : ∀ (n : Nat) (ts : List (Nat × Nat)), ts.length ≤ n → ∀ (py : Int) (L C : Nat), Sorted N py ts → Rises N py L C (refN L C ts)
  | _, [], _, _, _, _, _ => by simp [refN, Rises]
  | n + 1, [(p, r)], _, py, L, C, h => by
    simp only [refN, Rises]
    exact ⟨plainN_idem r, h.1, h.2.1, trivial, trivial, trivial⟩
  | n + 1, (p, r) :: (q, s) :: ts, hl, py, L, C, h => by
    simp only [List.length_cons] at hl
    rw [refN]
    split
    · rename_i hj
      have e10 : plainN s = 10 := by rw [hj.2]; exact plain_10
      refine ⟨plainN_idem s, h.1, h.2.1, rfl, rfl, ?_⟩
      simp only [e10, if_true]
      refine refN_rises N n ts (by omega) _ _ _ ?_
      have h3 := h.2.2.2
      exact h3.2.2.2.weak (by have := h3.1; simp only at this ⊢; omega)
    · refine ⟨plainN_idem r, h.1, h.2.1, rfl, rfl, ?_⟩
      exact refN_rises N n ((q, s) :: ts) (by simp only [List.length_cons]; omega) _ _ _ h.2.2.2
theorem cells_rise (bs : List UInt8) : Rises bs.length (-1) 1 1 (cellsOf bs) := by
  rw [cells_ref]
  exact refN_rises _ _ _ (Nat.le_refl _) _ _ _ (toks_sorted bs)

/-- Where no rune is a carriage return, the cells' runes are Plain of each. -/
theorem refN_no13 : ∀ (n : Nat) (ts : List (Nat × Nat)), ts.length ≤ n → (∀ t ∈ ts, t.2 ≠ 13) → ∀ l c, (refN l c ts).map (fun x => (x.r : Int)) = ts.map fun t => ((plainN t.2 : Nat) : Int)
  | _, [], _, _, _, _ => by simp [refN]
  | n + 1, [(p, r)], _, _, l, c => by simp [refN]
  | n + 1, (p, r) :: (q, s) :: ts, hl, h, l, c => by
    simp only [List.length_cons] at hl
    rw [refN, if_neg (fun hj => h (p, r) (by simp) hj.1)]
    rw [List.map_cons, refN_no13 n ((q, s) :: ts) (by simp only [List.length_cons]; omega) (fun t ht => h t (List.mem_cons_of_mem _ ht))]
    simp
/-- The runes of a text's cells. -/
def zsOf (bs : List UInt8) : List Int := (cellsOf bs).map fun x => (x.r : Int)
theorem cell_ok (bs : List UInt8) : ∀ x ∈ cellsOf bs, (0 : Int) ≤ (x.r : Int) ∧ (x.r : Int) ≤ 1114111 ∧ ¬ (55296 ≤ (x.r : Int) ∧ (x.r : Int) ≤ 57343) := by
  intro x hx
  rw [cells_ref] at hx
  refine refN_ok _ _ (Nat.le_refl _) (fun t ht => ?_) 1 1 x hx
  rw [toks_pcs] at ht
  obtain ⟨p, hp, rfl⟩ := List.mem_map.1 ht
  exact (pcsF_lt _ _ _ p hp).1
theorem rises_plain (N : Nat) : ∀ (xs : List Cn) (py : Int) (L C : Nat), Rises N py L C xs → ∀ x ∈ xs, plainN x.r = x.r
  | [], _, _, _, _, x, hx => by simp at hx
  | y :: ys, _, _, _, h, x, hx => by
    rcases List.mem_cons.1 hx with rfl | hx
    · exact h.1
    · exact rises_plain N ys _ _ _ h.2.2.2.2.2 x hx
theorem zs_valid (bs : List UInt8) : ∀ z ∈ zsOf bs, Utf8.valid z = true := by
  intro z hz
  obtain ⟨x, hx, rfl⟩ := List.mem_map.1 hz
  exact (valid_iff _).2 (cell_ok bs x hx)
theorem zs_plain (bs : List UInt8) : ∀ z ∈ zsOf bs, plainZ z = z := by
  intro z hz
  obtain ⟨x, hx, rfl⟩ := List.mem_map.1 hz
  have := rises_plain _ _ _ _ _ (cells_rise bs) x hx
  rw [← plainN_eq, this]
theorem text_enc (bs : List UInt8) : textOf (cellsOf bs) = encs (zsOf bs) := by
  rw [encs_shelf _ (fun z hz => (valid_iff z).1 (zs_valid bs z hz))]
  simp [textOf, zsOf, List.flatMap_map]
theorem runes_text (bs : List UInt8) : runesI (encs (zsOf bs)) = zsOf bs := by
  rw [(runesI_encs (zsOf bs)).1]
  conv => rhs; rw [← List.map_id (zsOf bs)]
  apply List.map_congr_left
  intro z hz
  unfold mendR
  rw [if_pos (zs_valid bs z hz)]; rfl
/-- **Text of Text's bytes is Text.** -/
theorem text_again (bs : List UInt8) : textOf (cellsOf (textOf (cellsOf bs))) = textOf (cellsOf bs) := by
  rw [text_enc (textOf (cellsOf bs)), text_enc bs]
  congr 1
  have hr := runes_text bs
  have ht : (toks (encs (zsOf bs))).map (fun t => (t.2 : Int)) = zsOf bs := by
    refine Eq.trans ?_ hr
    rw [toks_pcs, List.map_map]; rfl
  unfold zsOf
  rw [cells_ref (encs _), refN_no13 _ _ (Nat.le_refl _) (fun t htm => ?_)]
  · show _ = zsOf bs
    have : (toks (encs (zsOf bs))).map (fun t => ((plainN t.2 : Nat) : Int)) = ((toks (encs (zsOf bs))).map fun t => (t.2 : Int)).map plainZ := by
      rw [List.map_map]; apply List.map_congr_left; intro t _; exact plainN_eq t.2
    rw [show (cellsOf bs).map (fun x => (x.r : Int)) = zsOf bs from rfl, this, ht]
    conv => rhs; rw [← List.map_id (zsOf bs)]
    exact List.map_congr_left (fun z hz => zs_plain bs z hz)
  · have hm : (t.2 : Int) ∈ zsOf bs := by rw [← ht]; exact List.mem_map.2 ⟨t, htm, rfl⟩
    intro h13
    have := zs_plain bs _ hm
    rw [h13] at this
    exact absurd this (by decide)
/-- **Clean of Text is Text.** -/
theorem clean_text (bs : List UInt8) : cleanB (runesI (textOf (cellsOf bs))) = textOf (cellsOf bs) := by
  rw [text_enc, runes_text, encs_shelf _ (fun z hz => (valid_iff z).1 (zs_valid bs z hz))]
  unfold cleanB
  rw [List.flatMap_def, List.flatMap_def]
  congr 1
  exact List.map_congr_left (fun z hz => by rw [zs_plain bs z hz])

end Go.Proofs.YtpljklemkapnmaaDoor.U
