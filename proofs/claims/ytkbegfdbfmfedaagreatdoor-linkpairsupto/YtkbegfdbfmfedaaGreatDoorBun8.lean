/- What is proved here: laws and contracts of IPlain, MathI, one behind the other (each says its own). -/
import Derived.WalkKit
import Derived.Below
import Derived.Laws.BitsAllLaws
import Derived.Test.YtkbegfdbfmfedaaGreatDoorProg
import Derived.Test.YtkbegfdbfmfedaaGreatDoorMathV
/- What is proved here: the contracts of input.Plain and sieveref03.Plain (with ValidRune, isNonchar, Char): what they return for any rune, and that it is one and the same. -/
namespace Go.Proofs.YtkbegfdbfmfedaaGreatDoor.U
open Go.RowKit

/-- The rune that stands for a rune. -/
def plainZ (r : Int) : Int :=
  if r = 13 then 10 else if r = 9 ∨ r = 10 ∨ r = 12 then r
  else if r < 32 ∨ (127 ≤ r ∧ r ≤ 159) ∨ (55296 ≤ r ∧ r ≤ 57343) ∨ 1114111 < r ∨ (64976 ≤ r ∧ r ≤ 65007) ∨ 65534 ≤ r % 65536 then 65533 else r
theorem plainZ_idem (r : Int) : plainZ (plainZ r) = plainZ r := by
  unfold plainZ
  repeat' split
  all_goals omega

theorem ret_boolI {a b : Bool} (h : a = b) : Ending.returned (.bool a) = .returned (.bool b) := by rw [h]
theorem ret_i32I {a b : Int} (h : a = b) : Ending.returned (.int .i32 a) = .returned (.int .i32 b) := by rw [h]

def validZ (r : Int) : Bool := decide (0 ≤ r ∧ r < 55296 ∨ 57343 < r ∧ r ≤ 1114111)
set_option maxRecDepth 100000 in
theorem vrune_calls (r : Int) (w : World) : Calls Tryz.prog 148 #[.int .i32 r] w fun e w' => e = .returned (.bool (validZ r)) ∧ w' = w := by
  go_enter Tryz.func148, Tryz.ntmps148
  go_wp2
  all_goals go_ret
  all_goals refine ⟨ret_boolI ?_, rfl⟩
  all_goals unfold validZ
  all_goals simp
  all_goals omega

theorem mask16 (r : Int) (h0 : 0 ≤ r) (h1 : r ≤ 1114111) : bits .and .i32 r 65535 = r % 65536 := by
  obtain ⟨a, rfl⟩ := Int.eq_ofNat_of_zero_le h0
  show IntKind.i32.wrap ((BitVec.ofInt 32 (a : Int) &&& BitVec.ofInt 32 ((65535 : Nat) : Int)).toNat : Int) = _
  rw [BitVec.toNat_and, ofInt_u32 a (by omega), ofInt_u32 65535 (by omega), nat_mask16]
  simp [IntKind.wrap, IntKind.bits, IntKind.signed]
  omega
def noncharZ (r : Int) : Bool := decide ((64976 ≤ r ∧ r ≤ 65007) ∨ 65534 ≤ r % 65536)
set_option maxRecDepth 100000 in
theorem rcharI_calls (r : Int) (w : World) : Calls Tryz.prog 136 #[.int .i32 r] w fun e w' => e = .returned (.bool (validZ r)) ∧ w' = w := by
  go_enter Tryz.func136, Tryz.ntmps136
  go_wp2
  all_goals go_ret
  all_goals refine ⟨ret_boolI ?_, rfl⟩
  all_goals unfold validZ
  all_goals rw [Bool.eq_iff_iff]
  all_goals simp
  all_goals omega

end Go.Proofs.YtkbegfdbfmfedaaGreatDoor.U

/- What is proved here: plain facts on cells: how runes with their places become cells with their places, with no memory in sight. -/
namespace Go.Proofs.YtkbegfdbfmfedaaGreatDoor.U

theorem rune_lt (ds : List UInt8) (h0 : 0 < ds.length) : nextR ds < 1114112 := by
  unfold nextR
  split
  · rename_i h
    obtain ⟨hz, hl, hk⟩ := (all_iff ds h0).1 h
    have l0 := byteAt_lt ds 0
    have k1 : 1 < lead (byteAt ds 0) → lo2 (byteAt ds 0) ≤ byteAt ds 1 ∧ byteAt ds 1 ≤ hi2 (byteAt ds 0) := fun b => by simpa [okAt, loAt, hiAt] using hk 1 (by omega) b
    unfold runeOf
    clear hk h
    generalize byteAt ds 0 = b0 at *
    generalize byteAt ds 1 = b1 at *
    generalize byteAt ds 2 = b2 at *
    generalize byteAt ds 3 = b3 at *
    rcases lead_cases b0 with ⟨c, e⟩ | ⟨c, c', e⟩ | ⟨c, c', e⟩ | ⟨c, c', e⟩ | ⟨c, c', e⟩ | ⟨c, e⟩
    · rw [e, if_pos rfl]; omega
    · exact absurd e hz
    · rw [e, if_neg (by omega), if_pos rfl]; omega
    · rw [e, if_neg (by omega), if_neg (by omega), if_pos rfl]; omega
    · rw [e] at k1
      have s := second_ok (by omega) (by omega) (k1 (by omega)).1 (k1 (by omega)).2
      rw [e, if_neg (by omega), if_neg (by omega), if_neg (by omega)]; omega
    · exact absurd e hz
  · omega

/-- A rune of bytes with its place. -/
abbrev Tok := { x : Nat × Nat // x.1 < 140737488355328 ∧ x.2 < 1114112 }

def plainN (r : Nat) : Nat := (plainZ r).toNat
theorem plainN_eq (r : Nat) : ((plainN r : Nat) : Int) = plainZ r := by
  unfold plainN plainZ
  repeat' split
  all_goals omega
theorem plainN_lt (r : Nat) (h : r < 1114112) : plainN r < 1114112 ∧ ¬ (55296 ≤ plainN r ∧ plainN r ≤ 57343) := by
  have := plainN_eq r
  unfold plainZ at this
  repeat' split at this
  all_goals omega

/-- A cell: its rune, byte, line and column. -/
structure Cl where
  r : Nat
  y : Nat
  l : Nat
  c : Nat
  hr : r < 1114112 ∧ ¬ (55296 ≤ r ∧ r ≤ 57343)
/-- Where a reading stands: the last rune, the spot, and the cells so far. -/
structure St where
  last : Nat
  y : Nat
  l : Nat
  c : Nat
  out : List Cl
def joined (st : St) (x : Tok) : Bool := decide (st.last = 13 ∧ x.1.2 = 10)
def stepT (fr : Nat) (st : St) (x : Tok) : St :=
  if joined st x = true then { st with last := x.1.2 }
  else { last := x.1.2, y := fr + x.1.1, l := if plainN x.1.2 = 10 then st.l + 1 else st.l, c := if plainN x.1.2 = 10 then 1 else st.c + 1,
         out := st.out ++ [⟨plainN x.1.2, fr + x.1.1, st.l, st.c, plainN_lt _ x.2.2⟩] }
def st0 (y l c : Nat) : St := ⟨0, y, l, c, []⟩
def readT (y l c : Nat) (ts : List Tok) : St := ts.foldl (stepT y) (st0 y l c)
theorem readT_snoc (y l c : Nat) (ts : List Tok) (x : Tok) : readT y l c (ts ++ [x]) = stepT y (readT y l c ts) x := by simp [readT]
theorem readT_nil (y l c : Nat) : readT y l c [] = st0 y l c := rfl
/-- Nothing grows faster than the runes. -/
theorem readT_le (y l c : Nat) (ts : List Tok) : ∀ s : St, s.l ≤ l → s.c ≤ c → 1 ≤ c → (ts.foldl (stepT y) s).l ≤ l + ts.length ∧ (ts.foldl (stepT y) s).c ≤ c + ts.length ∧ (ts.foldl (stepT y) s).out.length ≤ s.out.length + ts.length := by
  induction ts generalizing l c with
  | nil => intro s h1 h2 _; exact ⟨h1, h2, Nat.le_refl _⟩
  | cons x ts ih =>
    intro s h1 h2 h3
    have := ih (l + 1) (c + 1) (stepT y s x) (by unfold stepT; repeat' split
                                                 all_goals simp
                                                 all_goals omega) (by unfold stepT; repeat' split
                                                                      all_goals simp
                                                                      all_goals omega) (by omega)
    have hl : (stepT y s x).out.length ≤ s.out.length + 1 := by unfold stepT; split <;> simp
    simp only [List.foldl_cons, List.length_cons]
    omega
theorem readT_bounds (y l c : Nat) (ts : List Tok) (h : 1 ≤ c) : (readT y l c ts).l ≤ l + ts.length ∧ (readT y l c ts).c ≤ c + ts.length ∧ (readT y l c ts).out.length ≤ ts.length := by
  have := readT_le y l c ts (st0 y l c) (Nat.le_refl _) (Nat.le_refl _) h
  simpa [readT, st0] using this

end Go.Proofs.YtkbegfdbfmfedaaGreatDoor.U
