/- What is proved here: the nesting table, as lists: what a name asks of a stack, what an end tag closes. No program in sight. -/
import Derived.Test.YtdkcibafbdmajabGreatDoorNIn
namespace Go.Proofs.YtdkcibafbdmajabGreatDoor.E
open Go.RowKit Go.Shelf Go.Proofs.YtdkcibafbdmajabGreatDoor.N

abbrev Txt := List UInt8
def xA : Txt := [97]
def xP : Txt := [112]
def xTd : Txt := [116, 100]
def xTh : Txt := [116, 104]
def xTr : Txt := [116, 114]
def xCaption : Txt := [99, 97, 112, 116, 105, 111, 110]
def xTable : Txt := [116, 97, 98, 108, 101]
def xThead : Txt := [116, 104, 101, 97, 100]
def xTbody : Txt := [116, 98, 111, 100, 121]
def xTfoot : Txt := [116, 102, 111, 111, 116]
def xColgroup : Txt := [99, 111, 108, 103, 114, 111, 117, 112]
def xCol : Txt := [99, 111, 108]
def xUl : Txt := [117, 108]
def xOl : Txt := [111, 108]
def xMenu : Txt := [109, 101, 110, 117]
def xLi : Txt := [108, 105]
def xDl : Txt := [100, 108]
def xDt : Txt := [100, 116]
def xDd : Txt := [100, 100]
def xArea : Txt := [116, 101, 120, 116, 97, 114, 101, 97]
def cellB (x : Txt) : Bool := x == xTd || (x == xTh || x == xCaption)
def wallB (x : Txt) : Bool := cellB x || x == xTable
def listB (x : Txt) : Bool := x == xUl || (x == xOl || x == xMenu)
def bodyB (x : Txt) : Bool := x == xThead || (x == xTbody || (x == xTfoot || x == xTable))
def rowB (x : Txt) : Bool := x == xTr || bodyB x
def groupB (x : Txt) : Bool := x == xThead || (x == xTbody || x == xTfoot)
def isB (y : Txt) (x : Txt) : Bool := x == y
def neverB (_ : Txt) : Bool := false
def allowB (x : Txt) : Bool := inZ 15 x
def voidB (x : Txt) : Bool := inZ 0 x
def headB (x : Txt) : Bool := inZ 5 x
def blockB (x : Txt) : Bool := inZ 6 x
def edgeB (x : Txt) : Bool := wallB x || blockB x
/-- Where the topmost one of the first k stands that is sought, if none that stops stands above it; else -1. -/
def findK (S : List Txt) (p q : Txt → Bool) : Nat → Int
  | 0 => -1
  | k + 1 => if p (S.getD k []) then (k : Int) else if q (S.getD k []) then -1 else findK S p q k
theorem findK_lt (S : List Txt) (p q : Txt → Bool) : ∀ k, findK S p q k < (k : Int)
  | 0 => by simp [findK]
  | k + 1 => by
    unfold findK
    have := findK_lt S p q k
    split
    · omega
    · split <;> omega
theorem findK_ge (S : List Txt) (p q : Txt → Bool) : ∀ k, -1 ≤ findK S p q k
  | 0 => by simp [findK]
  | k + 1 => by
    unfold findK
    have := findK_ge S p q k
    split
    · omega
    · split <;> omega
def topK (S : List Txt) (k : Nat) : Txt := if k = 0 then [] else S.getD (k - 1) []
def closeK (k : Nat) (z : Int) : Nat := if 0 ≤ z then z.toNat else k
def closeToK (k : Nat) (z : Int) : Nat := if 0 ≤ z then (z + 1).toNat else k
def standI (t : Txt) : List Txt :=
  if t = xColgroup ∨ t = xTable then [xTbody, xTr, xTd]
  else if groupB t then [xTr, xTd]
  else if t = xTr then [xTd]
  else if listB t then [xLi]
  else if t = xDl then [xDd]
  else []
def standN (S : List Txt) (k : Nat) : Nat := if topK S k = xColgroup then k - 1 else k
/-- What is left, and what is put in. -/
abbrev St := Nat × List Txt
def standK (S : List Txt) (s : St) : St := (standN S s.1, s.2 ++ standI (topK S s.1))
def putK (s : St) (x : Txt) : St := (s.1, s.2 ++ [x])
def closePN (S : List Txt) (k : Nat) : Nat := closeK k (findK S (isB xP) edgeB k)
def likeN1 (S : List Txt) (k : Nat) (x : Txt) : Nat := if x = xA then closeK k (findK S (isB xA) cellB k) else k
def likeN2 (S : List Txt) (k : Nat) (x : Txt) : Nat := if headB x then closeK k (findK S headB wallB k) else k
def likeN3 (S : List Txt) (k : Nat) (x : Txt) : Nat := if blockB x then closePN S k else k
def closeLikeN (S : List Txt) (k : Nat) (x : Txt) : Nat := likeN3 S (likeN2 S (likeN1 S k x) x) x
def withinK (S : List Txt) (s : St) (on : Txt → Bool) (one : Txt) : St :=
  if 0 ≤ findK S on wallB s.1 then (closeToK s.1 (findK S on wallB s.1), s.2) else putK (standK S s) one
/-- Also which one that is. -/
def tabledT (S : List Txt) (k : Nat) (on : Txt → Bool) : Txt := if 0 ≤ findK S on neverB k then topK S (closeToK k (findK S on neverB k)) else xTable
def tabledK (S : List Txt) (s : St) (on : Txt → Bool) : St :=
  if 0 ≤ findK S on neverB s.1 then (closeToK s.1 (findK S on neverB s.1), s.2) else putK (standK S (closePN S s.1, s.2)) xTable
def itemK (S : List Txt) (s : St) : St := withinK S s listB xUl
def termK (S : List Txt) (s : St) : St := withinK S s (isB xDl) xDl
def partK (S : List Txt) (s : St) : St := tabledK S s (isB xTable)
def columnK (S : List Txt) (s : St) : St :=
  if 0 ≤ findK S (isB xColgroup) (isB xTable) s.1 then (closeToK s.1 (findK S (isB xColgroup) (isB xTable) s.1), s.2) else putK (tabledK S s (isB xTable)) xColgroup
def rowK (S : List Txt) (s : St) : St := if tabledT S s.1 bodyB = xTable then putK (tabledK S s bodyB) xTbody else tabledK S s bodyB
def cellK (S : List Txt) (s : St) : St :=
  if tabledT S s.1 rowB = xTable then putK (putK (tabledK S s rowB) xTbody) xTr
  else if groupB (tabledT S s.1 rowB) then putK (tabledK S s rowB) xTr
  else tabledK S s rowB
/-- Which place is a name's own. -/
inductive Own where | item | term | part | column | row | cell | stand
deriving DecidableEq
def ownOf (x : Txt) : Own :=
  if x = xLi then .item else if x = xDt then .term else if x = xDd then .term else if x = xCaption then .part else if x = xColgroup then .part else if x = xThead then .part else if x = xTbody then .part else if x = xTfoot then .part
  else if x = xCol then .column else if x = xTr then .row else if x = xTd then .cell else if x = xTh then .cell else .stand
def ownK (S : List Txt) (s : St) : Own → St
  | .item => itemK S s
  | .term => termK S s
  | .part => partK S s
  | .column => columnK S s
  | .row => rowK S s
  | .cell => cellK S s
  | .stand => standK S s
def areaN (S : List Txt) (k : Nat) : Nat := if topK S k = xArea then k - 1 else k
/-- What a name asks of the first k. -/
def elementK (S : List Txt) (k : Nat) (x : Txt) : St := ownK S (closeLikeN S (areaN S k) x, []) (ownOf x)
def nothingB (k : Nat) (s : St) : Bool := decide (k - s.1 = 0) && decide (s.2.length = 0)
def rightAt (S : List Txt) (k : Nat) : Bool := allowB (S.getD k []) && (!voidB (S.getD k []) && nothingB k (elementK S k (S.getD k [])))
def rightK (S : List Txt) : Nat → Bool
  | 0 => true
  | k + 1 => rightK S k && rightAt S k
def textK (S : List Txt) (k : Nat) : St := standK S (k, [])
def endedK (S : List Txt) (k : Nat) (x : Txt) : Int :=
  if headB x then findK S headB wallB k else if x = xTable then findK S (isB x) neverB k else if inZ 14 x then findK S (isB x) (isB xTable) k else findK S (isB x) wallB k
/-! ### no more is left than there was -/
theorem closeK_le (k : Nat) (z : Int) (h : z < k) : closeK k z ≤ k := by unfold closeK; split <;> omega
theorem closeToK_le (k : Nat) (z : Int) (h : z < k) : closeToK k z ≤ k := by unfold closeToK; split <;> omega
theorem standN_le (S : List Txt) (k : Nat) : standN S k ≤ k := by unfold standN; split <;> omega
theorem closePN_le (S : List Txt) (k : Nat) : closePN S k ≤ k := closeK_le _ _ (findK_lt _ _ _ _)
theorem areaN_le (S : List Txt) (k : Nat) : areaN S k ≤ k := by unfold areaN; split <;> omega
theorem like1_le (S : List Txt) (k : Nat) (x : Txt) : likeN1 S k x ≤ k := by unfold likeN1; split; exact closeK_le _ _ (findK_lt _ _ _ _); exact Nat.le_refl _
theorem like2_le (S : List Txt) (k : Nat) (x : Txt) : likeN2 S k x ≤ k := by unfold likeN2; split; exact closeK_le _ _ (findK_lt _ _ _ _); exact Nat.le_refl _
theorem like3_le (S : List Txt) (k : Nat) (x : Txt) : likeN3 S k x ≤ k := by unfold likeN3; split; exact closePN_le _ _; exact Nat.le_refl _
theorem like_le (S : List Txt) (k : Nat) (x : Txt) : closeLikeN S k x ≤ k := Nat.le_trans (like3_le _ _ _) (Nat.le_trans (like2_le _ _ _) (like1_le _ _ _))
theorem within_le (S : List Txt) (s : St) (on : Txt → Bool) (one : Txt) : (withinK S s on one).1 ≤ s.1 := by
  unfold withinK; split
  · exact closeToK_le _ _ (findK_lt _ _ _ _)
  · exact standN_le _ _
theorem tabled_le (S : List Txt) (s : St) (on : Txt → Bool) : (tabledK S s on).1 ≤ s.1 := by
  unfold tabledK; split
  · exact closeToK_le _ _ (findK_lt _ _ _ _)
  · exact Nat.le_trans (standN_le _ _) (closePN_le _ _)
theorem own_le (S : List Txt) (s : St) : ∀ o, (ownK S s o).1 ≤ s.1
  | .item => within_le _ _ _ _
  | .term => within_le _ _ _ _
  | .part => tabled_le _ _ _
  | .column => by
    show (columnK S s).1 ≤ _
    unfold columnK; split
    · exact closeToK_le _ _ (findK_lt _ _ _ _)
    · exact tabled_le _ _ _
  | .row => by show (rowK S s).1 ≤ _; unfold rowK; split <;> exact tabled_le _ _ _
  | .cell => by show (cellK S s).1 ≤ _; unfold cellK; split; exact tabled_le _ _ _; split <;> exact tabled_le _ _ _
  | .stand => standN_le _ _
theorem element_le (S : List Txt) (k : Nat) (x : Txt) : (elementK S k x).1 ≤ k := Nat.le_trans (own_le _ _ _) (Nat.le_trans (like_le _ _ _) (areaN_le _ _))
theorem ended_lt (S : List Txt) (k : Nat) (x : Txt) : endedK S k x < k := by unfold endedK; split; exact findK_lt _ _ _ _; split; exact findK_lt _ _ _ _; split <;> exact findK_lt _ _ _ _
/-! ### no more is put in than four -/
theorem standI_len (t : Txt) : (standI t).length ≤ 3 := by
  unfold standI; repeat' split
  all_goals simp
theorem stand_len (S : List Txt) (s : St) : (standK S s).2.length ≤ s.2.length + 3 := by
  have := standI_len (topK S s.1)
  simp [standK]; omega
theorem within_len (S : List Txt) (s : St) (on : Txt → Bool) (one : Txt) : (withinK S s on one).2.length ≤ s.2.length + 4 := by
  unfold withinK; split
  · simp
  · have := stand_len S s
    simp [putK]; omega
theorem tabled_len (S : List Txt) (s : St) (on : Txt → Bool) : (tabledK S s on).2.length ≤ s.2.length + 4 := by
  unfold tabledK; split
  · simp
  · have := stand_len S (closePN S s.1, s.2)
    simp [putK]; simp at this; omega
theorem own_len (S : List Txt) (s : St) : ∀ o, (ownK S s o).2.length ≤ s.2.length + 6
  | .item => Nat.le_trans (within_len _ _ _ _) (by omega)
  | .term => Nat.le_trans (within_len _ _ _ _) (by omega)
  | .part => Nat.le_trans (tabled_len _ _ _) (by omega)
  | .column => by
    show (columnK S s).2.length ≤ _
    have := tabled_len S s (isB xTable)
    unfold columnK; split
    · simp
    · simp [putK]; omega
  | .row => by
    show (rowK S s).2.length ≤ _
    have := tabled_len S s bodyB
    unfold rowK; split
    · simp [putK]; omega
    · omega
  | .cell => by
    show (cellK S s).2.length ≤ _
    have := tabled_len S s rowB
    unfold cellK; split
    · simp [putK]; omega
    · split
      · simp [putK]; omega
      · omega
  | .stand => Nat.le_trans (stand_len _ _) (by omega)
theorem element_len (S : List Txt) (k : Nat) (x : Txt) : (elementK S k x).2.length ≤ 6 := own_len S _ _
end Go.Proofs.YtdkcibafbdmajabGreatDoor.E
