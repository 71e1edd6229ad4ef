/- What is proved here: plain facts: what the table says of the first k of a stack hangs on these alone. No program in sight. -/
import Derived.Test.YtdkcibafbdmajaaNeTFacts
namespace Go.Proofs.Ytdkcibafbdmajaa.E
open Go.RowKit Go.Shelf Go.Proofs.Ytdkcibafbdmajaa.N

/-- Two stacks have the same first k. -/
def Agree (S T : List Txt) (k : Nat) : Prop := ∀ j, j < k → S.getD j [] = T.getD j []
theorem Agree.mono {S T : List Txt} {k j : Nat} (h : Agree S T k) (hj : j ≤ k) : Agree S T j := fun i hi => h i (by omega)
theorem Agree.symm {S T : List Txt} {k : Nat} (h : Agree S T k) : Agree T S k := fun i hi => (h i hi).symm
theorem agree_take (S : List Txt) (k : Nat) : Agree (S.take k) S k := fun j hj => by
  rw [List.getD_eq_getElem?_getD, List.getD_eq_getElem?_getD, List.getElem?_take_of_lt hj]
theorem agree_append (U T : List Txt) : Agree (U ++ T) U U.length := fun j hj => by
  rw [List.getD_eq_getElem?_getD, List.getD_eq_getElem?_getD, List.getElem?_append_left hj]
theorem find_agree {S T : List Txt} (p q : Txt → Bool) : ∀ {k : Nat}, Agree S T k → findK S p q k = findK T p q k
  | 0, _ => rfl
  | k + 1, h => by
    unfold findK
    rw [h k (Nat.lt_succ_self k), find_agree p q (h.mono (Nat.le_succ k))]
theorem top_agree {S T : List Txt} {k : Nat} (h : Agree S T k) : topK S k = topK T k := by
  unfold topK
  by_cases h0 : k = 0
  · rw [if_pos h0, if_pos h0]
  · rw [if_neg h0, if_neg h0, h (k - 1) (by omega)]
theorem area_agree {S T : List Txt} {k : Nat} (h : Agree S T k) : areaN S k = areaN T k := by
  unfold areaN; rw [top_agree h]
theorem standN_agree {S T : List Txt} {k : Nat} (h : Agree S T k) : standN S k = standN T k := by
  unfold standN; rw [top_agree h]
theorem stand_agree {S T : List Txt} {k : Nat} (h : Agree S T k) (ins : List Txt) : standK S (k, ins) = standK T (k, ins) := by
  unfold standK; rw [standN_agree h, top_agree h]
theorem closeP_agree {S T : List Txt} {k : Nat} (h : Agree S T k) : closePN S k = closePN T k := by
  unfold closePN; rw [find_agree _ _ h]
theorem like1_agree {S T : List Txt} {k : Nat} (h : Agree S T k) (x : Txt) : likeN1 S k x = likeN1 T k x := by
  unfold likeN1; rw [find_agree _ _ h]
theorem like2_agree {S T : List Txt} {k : Nat} (h : Agree S T k) (x : Txt) : likeN2 S k x = likeN2 T k x := by
  unfold likeN2; rw [find_agree _ _ h]
theorem like3_agree {S T : List Txt} {k : Nat} (h : Agree S T k) (x : Txt) : likeN3 S k x = likeN3 T k x := by
  unfold likeN3; rw [closeP_agree h]
theorem like_agree {S T : List Txt} {k : Nat} (h : Agree S T k) (x : Txt) : closeLikeN S k x = closeLikeN T k x := by
  have l1 := like1_le S k x
  have l2 := like2_le S (likeN1 S k x) x
  unfold closeLikeN
  rw [← like1_agree h, ← like2_agree (h.mono l1), ← like3_agree (h.mono (by omega))]
theorem within_agree {S T : List Txt} {k : Nat} (h : Agree S T k) (ins : List Txt) (on : Txt → Bool) (one : Txt) : withinK S (k, ins) on one = withinK T (k, ins) on one := by
  unfold withinK
  simp only
  rw [find_agree _ _ h, stand_agree h]
theorem tabled_agree {S T : List Txt} {k : Nat} (h : Agree S T k) (ins : List Txt) (on : Txt → Bool) : tabledK S (k, ins) on = tabledK T (k, ins) on := by
  unfold tabledK
  simp only
  have h1 := closePN_le S k
  rw [find_agree _ _ h, stand_agree (h.mono h1), closeP_agree h]
theorem tabledT_agree {S T : List Txt} {k : Nat} (h : Agree S T k) (on : Txt → Bool) : tabledT S k on = tabledT T k on := by
  have h1 := closeToK_le k (findK S on neverB k) (findK_lt S on neverB k)
  unfold tabledT
  rw [top_agree (h.mono h1), find_agree _ _ h]
theorem own_agree {S T : List Txt} {k : Nat} (h : Agree S T k) (ins : List Txt) : ∀ o, ownK S (k, ins) o = ownK T (k, ins) o
  | .item => within_agree h ins _ _
  | .term => within_agree h ins _ _
  | .part => tabled_agree h ins _
  | .column => by
    show columnK S (k, ins) = columnK T (k, ins)
    unfold columnK
    simp only
    rw [find_agree _ _ h, tabled_agree h]
  | .row => by
    show rowK S (k, ins) = rowK T (k, ins)
    unfold rowK
    simp only
    rw [tabledT_agree h, tabled_agree h]
  | .cell => by
    show cellK S (k, ins) = cellK T (k, ins)
    unfold cellK
    simp only
    rw [tabledT_agree h, tabled_agree h]
  | .stand => stand_agree h ins
theorem element_agree {S T : List Txt} {k : Nat} (h : Agree S T k) (x : Txt) : elementK S k x = elementK T k x := by
  have l1 := areaN_le S k
  have l2 := like_le S (areaN S k) x
  unfold elementK
  rw [← area_agree h, ← like_agree (h.mono l1), own_agree (h.mono (by omega))]
theorem right_agree {S T : List Txt} : ∀ {k : Nat}, Agree S T k → rightK S k = rightK T k
  | 0, _ => rfl
  | k + 1, h => by
    unfold rightK rightAt
    rw [right_agree (h.mono (Nat.le_succ k)), h k (Nat.lt_succ_self k), element_agree (h.mono (Nat.le_succ k))]
/-- A whole stack is right. -/
def Rt (U : List Txt) : Prop := rightK U U.length = true
/-- A name asks nothing of a whole stack. -/
def Nn (U : List Txt) (x : Txt) : Prop := elementK U U.length x = (U.length, [])
theorem right_le {S : List Txt} : ∀ {L k : Nat}, rightK S L = true → k ≤ L → rightK S k = true
  | 0, k, h, hk => by obtain rfl : k = 0 := by omega
                      exact h
  | L + 1, k, h, hk => by
    by_cases e : k = L + 1
    · subst e; exact h
    · unfold rightK at h
      rw [Bool.and_eq_true] at h
      exact right_le h.1 (by omega)
theorem Rt.take {S : List Txt} (h : Rt S) {k : Nat} (hk : k ≤ S.length) : Rt (S.take k) := by
  unfold Rt
  rw [List.length_take, Nat.min_eq_left hk, right_agree (agree_take S k)]
  exact right_le h hk
theorem Rt.put {U : List Txt} (h : Rt U) {y : Txt} (ha : allowB y = true) (hv : voidB y = false) (hn : Nn U y) : Rt (U ++ [y]) := by
  unfold Rt
  rw [List.length_append]
  show rightK (U ++ [y]) (U.length + 1) = true
  unfold rightK rightAt
  have hy : (U ++ [y]).getD U.length [] = y := by simp
  rw [hy, right_agree (agree_append U [y]), element_agree (agree_append U [y]), ha, hv]
  rw [show rightK U U.length = true from h, show elementK U U.length y = (U.length, []) from hn]
  simp [nothingB]
end Go.Proofs.Ytdkcibafbdmajaa.E
