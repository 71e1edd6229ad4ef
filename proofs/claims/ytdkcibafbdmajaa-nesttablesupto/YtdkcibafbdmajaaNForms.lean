/- What is proved here: the contracts of plain, begins, TagName and AttrName of names, and of small, digit, TagName and AttrName of sieveref04: whether a name may be written. -/
import Derived.Test.YtdkcibafbdmajaaNMath
import Derived.Test.YtdkcibafbdmajaaNClass
namespace Go.Proofs.Ytdkcibafbdmajaa.N
open Go.RowKit

theorem at_data (s : ByteArray) (k : Nat) (h : k < s.size) : s[k] = s.data.toList.getD k 0 := by
  obtain ⟨⟨l⟩⟩ := s
  have : k < l.length := h
  simp [this]
  rfl
theorem size_data (s : ByteArray) : s.data.toList.length = s.size := (Lib.size_eq s).symm
/-- A byte of a text. -/
theorem run_byte {P : Program} (w : World) (t : TypeId) (s : ByteArray) (k : IntKind) (i : Int) (j : Nat) (c : UInt8) (h : P.underlying t = some .string) (hi : i = j) (hj : j < s.size) (hc : s.data.toList.getD j 0 = c) :
    (Instr.index t (.string s) (.int k i)).run P w = .ok (.int .u8 c.toNat) w := by
  subst hi
  rw [run_index_string w t s k j h, dif_pos ⟨by omega, by omega⟩, ← hc]
  have := at_data s j hj
  simp only [Int.toNat_natCast]
  rw [this]
theorem all_take_succ (l : List UInt8) (p : UInt8 → Bool) (k : Nat) (h : k < l.length) (h0 : (l.take k).all p = true) (h1 : p (l.getD k 0) = true) : (l.take (k + 1)).all p = true := by
  rw [List.take_succ_eq_append_getElem h, List.all_append, h0]
  simp [List.getD, h] at h1
  simp [h1]
theorem all_not (l : List UInt8) (p : UInt8 → Bool) (k : Nat) (h : k < l.length) (h1 : p (l.getD k 0) = false) : l.all p = false := by
  rw [List.all_eq_false]
  refine ⟨l[k], List.getElem_mem _, ?_⟩
  simp [List.getD, h] at h1
  simp [h1]

def plainB (c : UInt8) : Bool := smallB c || digB c
set_option maxRecDepth 100000 in
theorem nplain_calls (c : UInt8) (w : World) : Calls Try.prog 73 #[.int .u8 c.toNat] w fun e w' => e = .returned (.bool (plainB c)) ∧ w' = w := by
  have hc := c.toNat_lt
  have hw : wrap32 (c.toNat : Int) = c.toNat := by unfold wrap32; omega
  go_enter Try.func73, Try.ntmps73
  go_wp2_with (first
    | (go_at_call 89; refine (digit_calls _ _).mono ?_; rintro e w' ⟨rfl, rfl⟩)
    | (go_at_call 90; refine (letter_calls _ _).mono ?_; rintro e w' ⟨rfl, rfl⟩)
    | (go_at_call 91; refine (upper_calls _ _).mono ?_; rintro e w' ⟨rfl, rfl⟩))
  all_goals go_ret
  all_goals refine ⟨ret_bool ?_, rfl⟩
  all_goals simp only [hw, digitZ, letterZ, upperZ, decide_eq_true_eq] at *
  all_goals unfold plainB smallB digB
  all_goals first | omega | (rw [Bool.eq_iff_iff]; simp; omega)
def beginsN (l : List UInt8) : Bool := decide (1 ≤ l.length ∧ l.length ≤ 100) && smallB (l.getD 0 0)
set_option maxRecDepth 100000 in
theorem begins_calls (s : ByteArray) (w : World) : Calls Try.prog 72 #[.string s] w fun e w' => e = .returned (.bool (beginsN s.data.toList)) ∧ w' = w := by
  have hz := size_data s
  go_enter Try.func72, Try.ntmps72
  by_cases h0 : s.size = 0
  · go_wp2
    all_goals go_ret
    all_goals refine ⟨ret_bool ?_, rfl⟩
    all_goals simp [beginsN, hz, h0]
  by_cases h1 : 100 < s.size
  · go_wp2
    all_goals go_ret
    all_goals refine ⟨ret_bool ?_, rfl⟩
    all_goals simp [beginsN, hz]
    all_goals omega
  have h2 : 0 < s.size := by omega
  obtain ⟨c, hcc⟩ : ∃ c, s.data.toList.getD 0 0 = c := ⟨_, rfl⟩
  have hix : ∀ w, (Instr.index 9 (.string s) (.int .i64 0)).run Try.prog w = .ok (.int .u8 c.toNat) w := fun w => run_byte w _ s _ 0 0 c Try.underlying9 rfl h2 hcc
  have HC : Hid (s.data.toList.getD 0 0 = c) := hcc
  clear hcc
  have hc := c.toNat_lt
  have hw : wrap32 (c.toNat : Int) = c.toNat := by unfold wrap32; omega
  go_wp2_with (first
    | (go_at_call 89; refine (digit_calls _ _).mono ?_; rintro e w' ⟨rfl, rfl⟩)
    | (go_at_call 73; refine (nplain_calls _ _).mono ?_; rintro e w' ⟨rfl, rfl⟩))
  all_goals go_ret
  all_goals refine ⟨ret_bool ?_, rfl⟩
  all_goals simp only [hw, digitZ, decide_eq_true_eq] at *
  all_goals unfold beginsN
  all_goals rw [HC.out]
  all_goals try unfold plainB
  all_goals unfold smallB
  all_goals try unfold digB
  all_goals first | omega | (rw [Bool.eq_iff_iff]; simp [hz]; omega)

end Go.Proofs.Ytdkcibafbdmajaa.N
