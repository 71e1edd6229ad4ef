/- What is proved here: plain facts on lists of tokens: merging by runs is merging one by one. -/
import Derived.Test.YthbmlffhcppcaaaDoorTLine
import Derived.Test.YthbmlffhcppcaaaDoorTToks
namespace Go.Proofs.YthbmlffhcppcaaaDoor.T
open N

def addText (y : T.Tok × AL) (s : ByteArray) : T.Tok × AL := ({ y.1 with text := y.1.text ++ s }, y.2)
def stepM (out : TL) (x : T.Tok × AL) : TL :=
  if x.1.kind ≠ 0 then out ++ [x]
  else if x.1.text.data.toList = [] then out
  else match out.getLast? with
    | some y => if y.1.kind = 0 then out.dropLast ++ [addText y x.1.text] else out ++ [x]
    | none => out ++ [x]
/-- The document's Merge. -/
def refM (L : TL) : TL := L.foldl stepM []
theorem refM_succ (L : TL) (k : Nat) (h : k < L.length) : refM (L.take (k + 1)) = stepM (refM (L.take k)) L[k] := by
  unfold refM
  rw [List.take_succ_eq_append_getElem h, List.foldl_append]; rfl
def zeroT : T.Tok × AL := (⟨0, ⟨#[]⟩, ⟨#[]⟩, false, 0, 0, 0⟩, [])
def joinStep (acc : (T.Tok × AL) × List UInt8) (x : T.Tok × AL) : (T.Tok × AL) × List UInt8 := (if acc.2 = [] then x else acc.1, acc.2 ++ x.1.text.data.toList)
/-- The first token with a text, and all texts. -/
def joinAcc (R : TL) : (T.Tok × AL) × List UInt8 := R.foldl joinStep (zeroT, [])
theorem joinAcc_snoc (R : TL) (x : T.Tok × AL) : joinAcc (R ++ [x]) = joinStep (joinAcc R) x := by unfold joinAcc; rw [List.foldl_append]; rfl
theorem joinAcc_succ (R : TL) (k : Nat) (h : k < R.length) : joinAcc (R.take (k + 1)) = joinStep (joinAcc (R.take k)) R[k] := by
  rw [List.take_succ_eq_append_getElem h, joinAcc_snoc]
def joined (R : TL) : T.Tok × AL := ({ (joinAcc R).1.1 with text := ⟨(joinAcc R).2.toArray⟩ }, (joinAcc R).1.2)
def LastNot (out : TL) : Prop := ∀ y, out.getLast? = some y → y.1.kind ≠ 0
theorem snoc_ind {P : TL → Prop} (h0 : P []) (h1 : ∀ R x, P R → P (R ++ [x])) : ∀ R, P R := fun R => by
  have : ∀ n, P (R.take n) := fun n => by
    induction n with
    | zero => simpa using h0
    | succ n ih =>
      by_cases h : n < R.length
      · rw [List.take_succ_eq_append_getElem h]; exact h1 _ _ ih
      · rw [List.take_of_length_le (by omega)] at ih ⊢; exact ih
  have h := this R.length
  rwa [List.take_length] at h
theorem join_kind (R : TL) : (∀ x ∈ R, x.1.kind = 0) → (joinAcc R).1.1.kind = 0 := by
  refine snoc_ind (P := fun R => (∀ x ∈ R, x.1.kind = 0) → (joinAcc R).1.1.kind = 0) (fun _ => rfl) (fun R x ih h => ?_) R
  rw [joinAcc_snoc]
  unfold joinStep
  simp only
  split
  · exact h x (by simp)
  · exact ih (fun y hy => h y (by simp [hy]))
theorem mk_text (s : ByteArray) : (⟨s.data.toList.toArray⟩ : ByteArray) = s := byteArr_eta s
theorem run_merge (out : TL) (hn : LastNot out) (R : TL) : (∀ x ∈ R, x.1.kind = 0) → R.foldl stepM out = if (joinAcc R).2 = [] then out else out ++ [joined R] := by
  refine snoc_ind (P := fun R => (∀ x ∈ R, x.1.kind = 0) → R.foldl stepM out = if (joinAcc R).2 = [] then out else out ++ [joined R]) (fun _ => rfl) (fun R x ih h => ?_) R
  have ih := ih (fun y hy => h y (by simp [hy]))
  have hx := h x (by simp)
  rw [List.foldl_append, ih]
  simp only [List.foldl_cons, List.foldl_nil]
  have hj : joined (R ++ [x]) = ({ (joinStep (joinAcc R) x).1.1 with text := ⟨(joinStep (joinAcc R) x).2.toArray⟩ }, (joinStep (joinAcc R) x).1.2) := by unfold joined; rw [joinAcc_snoc]
  rw [hj, joinAcc_snoc]
  by_cases he : (joinAcc R).2 = []
  · rw [if_pos he]
    unfold joinStep
    simp only [he, if_true, List.nil_append]
    unfold stepM
    rw [if_neg (by simp [hx])]
    by_cases hxe : x.1.text.data.toList = []
    · rw [if_pos hxe, if_pos hxe]
    · rw [if_neg hxe, if_neg hxe, mk_text]
      cases hl : out.getLast? with
      | none => rfl
      | some y => simp only [if_neg (hn y hl)]
  · rw [if_neg he]
    unfold joinStep
    simp only [if_neg he]
    have hk := join_kind R (fun y hy => h y (by simp [hy]))
    unfold stepM
    rw [if_neg (by simp [hx])]
    by_cases hxe : x.1.text.data.toList = []
    · rw [if_pos hxe, hxe, List.append_nil, if_neg he]
      rfl
    · rw [if_neg hxe, if_neg (by simp [he])]
      have hlast : (out ++ [joined R]).getLast? = some (joined R) := by simp
      rw [hlast]
      have hk' : (joined R).1.kind = 0 := hk
      simp only [if_pos hk', List.dropLast_concat]
      have ha : addText (joined R) x.1.text = ({ (joinAcc R).1.1 with text := ⟨((joinAcc R).2 ++ x.1.text.data.toList).toArray⟩ }, (joinAcc R).1.2) := by
        have hd : (⟨(joinAcc R).2.toArray⟩ : ByteArray) ++ x.1.text = ⟨((joinAcc R).2 ++ x.1.text.data.toList).toArray⟩ := data_inj (by rw [app_data])
        unfold addText joined
        simp only [hd]
      rw [ha]
/-- Where the program's Merge stands. -/
def CanGo (L : TL) (j : Nat) : Prop := ∀ h : j < L.length, L[j].1.kind = 0 → LastNot (refM (L.take j))
theorem CanGo.zero (L : TL) : CanGo L 0 := fun _ _ y hy => by simp [refM] at hy
theorem CanGo.other (L : TL) (j : Nat) (h : j < L.length) (hk : L[j].1.kind ≠ 0) : refM (L.take (j + 1)) = refM (L.take j) ++ [L[j]] ∧ CanGo L (j + 1) := by
  have e : refM (L.take (j + 1)) = refM (L.take j) ++ [L[j]] := by rw [refM_succ L j h]; unfold stepM; rw [if_pos hk]
  refine ⟨e, fun _ _ y hy => ?_⟩
  rw [e] at hy
  simp at hy
  rw [← hy]; exact hk
theorem CanGo.run (L : TL) (j n : Nat) (hn : 0 < n) (h : j + n ≤ L.length) (hc : CanGo L j) (hk : ∀ i (hi : i < L.length), j ≤ i → i < j + n → L[i].1.kind = 0) (he : ∀ hi : j + n < L.length, L[j + n].1.kind ≠ 0) :
    refM (L.take (j + n)) = (if (joinAcc ((L.drop j).take n)).2 = [] then refM (L.take j) else refM (L.take j) ++ [joined ((L.drop j).take n)]) ∧ CanGo L (j + n) := by
  refine ⟨?_, fun hi hk' => absurd hk' (he hi)⟩
  rw [List.take_add]
  have e : refM (L.take j ++ (L.drop j).take n) = ((L.drop j).take n).foldl stepM (refM (L.take j)) := by unfold refM; rw [List.foldl_append]
  rw [e]
  refine run_merge _ (hc (by omega) (hk j (by omega) (Nat.le_refl _) (by omega))) _ (fun x hx => ?_)
  obtain ⟨i, hi, rfl⟩ := List.mem_iff_getElem.1 hx
  simp only [List.length_take, List.length_drop] at hi
  rw [List.getElem_take, List.getElem_drop]
  exact hk (j + i) (by omega) (by omega) (by omega)
end Go.Proofs.YthbmlffhcppcaaaDoor.T
