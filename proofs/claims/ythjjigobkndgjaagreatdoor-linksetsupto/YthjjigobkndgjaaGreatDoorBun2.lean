/- What is proved here: laws and contracts of NClass, NForms, NFields, one behind the other (each says its own). -/
import Derived.WalkKit
import Derived.Below
import Derived.Test.YthjjigobkndgjaaGreatDoorProg
import Derived.Test.YthjjigobkndgjaaGreatDoorBun1
/- What is proved here: the contracts of Letter, Upper, Digit, Hex, Blank, Value and LowerRune, of names and of sieveref04: what they return for any rune. -/
namespace Go.Proofs.YthjjigobkndgjaaGreatDoor.N
open Go.RowKit

theorem ret_bool {a b : Bool} (h : a = b) : Ending.returned (.bool a) = .returned (.bool b) := by rw [h]
theorem ret_i32 {a b : Int} (h : a = b) : Ending.returned (.int .i32 a) = .returned (.int .i32 b) := by rw [h]
theorem ret_i64 {a b : Int} (h : a = b) : Ending.returned (.int .i64 a) = .returned (.int .i64 b) := by rw [h]

def upperZ (r : Int) : Bool := decide (65 ≤ r ∧ r ≤ 90)
def letterZ (r : Int) : Bool := decide ((65 ≤ r ∧ r ≤ 90) ∨ (97 ≤ r ∧ r ≤ 122))
def digitZ (r : Int) : Bool := decide (48 ≤ r ∧ r ≤ 57)
def blankZ (r : Int) : Bool := decide (r = 9 ∨ r = 10 ∨ r = 12 ∨ r = 32)
def valueZ (r : Int) : Int := if 48 ≤ r ∧ r ≤ 57 then r - 48 else if 65 ≤ r ∧ r ≤ 70 then r - 55 else if 97 ≤ r ∧ r ≤ 102 then r - 87 else -1
def lowZ (r : Int) : Int := if 65 ≤ r ∧ r ≤ 90 then r + 32 else r
theorem lowZ_upper (r : Int) (h : 65 ≤ r ∧ r ≤ 90) : lowZ r = r + 32 := by unfold lowZ; rw [if_pos h]

set_option maxRecDepth 100000 in
theorem upper_calls (r : Int) (w : World) : Calls Tryz.prog 105 #[.int .i32 r] w fun e w' => e = .returned (.bool (upperZ r)) ∧ w' = w := by
  go_enter Tryz.func105, Tryz.ntmps105
  go_wp2
  all_goals go_ret
  all_goals refine ⟨ret_bool ?_, rfl⟩
  all_goals unfold upperZ
  all_goals simp
  all_goals omega
set_option maxRecDepth 100000 in
theorem digit_calls (r : Int) (w : World) : Calls Tryz.prog 75 #[.int .i32 r] w fun e w' => e = .returned (.bool (digitZ r)) ∧ w' = w := by
  go_enter Tryz.func75, Tryz.ntmps75
  go_wp2
  all_goals go_ret
  all_goals refine ⟨ret_bool ?_, rfl⟩
  all_goals unfold digitZ
  all_goals simp
  all_goals omega
set_option maxRecDepth 100000 in
theorem rdigit_calls (r : Int) (w : World) : Calls Tryz.prog 91 #[.int .i32 r] w fun e w' => e = .returned (.bool (digitZ r)) ∧ w' = w := by
  go_enter Tryz.func91, Tryz.ntmps91
  go_wp2
  all_goals go_ret
  all_goals refine ⟨ret_bool ?_, rfl⟩
  all_goals unfold digitZ
  all_goals simp
  all_goals omega
set_option maxRecDepth 100000 in
theorem letter_calls (r : Int) (w : World) : Calls Tryz.prog 74 #[.int .i32 r] w fun e w' => e = .returned (.bool (letterZ r)) ∧ w' = w := by
  go_enter Tryz.func74, Tryz.ntmps74
  go_wp2_with (go_at_call 105; refine (upper_calls _ _).mono ?_; rintro e w' ⟨rfl, rfl⟩)
  all_goals go_ret
  all_goals refine ⟨ret_bool ?_, rfl⟩
  all_goals simp only [upperZ, letterZ, decide_eq_true_eq, decide_eq_false_iff_not] at *
  all_goals first | omega | (rw [Bool.eq_iff_iff]; simp; omega)
set_option maxRecDepth 100000 in
theorem blank_calls (r : Int) (w : World) : Calls Tryz.prog 84 #[.int .i32 r] w fun e w' => e = .returned (.bool (blankZ r)) ∧ w' = w := by
  go_enter Tryz.func84, Tryz.ntmps84
  go_wp2
  all_goals go_ret
  all_goals refine ⟨ret_bool ?_, rfl⟩
  all_goals simp only [blankZ, beq_iff_eq, beq_eq_false_iff_ne, ne_eq] at *
  all_goals first | omega | (rw [Bool.eq_iff_iff]; simp; omega)
set_option maxRecDepth 100000 in
theorem rblank_calls (r : Int) (w : World) : Calls Tryz.prog 59 #[.int .i32 r] w fun e w' => e = .returned (.bool (blankZ r)) ∧ w' = w := by
  go_enter Tryz.func59, Tryz.ntmps59
  go_wp2
  all_goals go_ret
  all_goals refine ⟨ret_bool ?_, rfl⟩
  all_goals simp only [blankZ] at *
  all_goals first | omega | (rw [Bool.eq_iff_iff]; simp; omega)
set_option maxRecDepth 100000 in
theorem lrune_calls (r : Int) (h0 : -2147483648 ≤ r) (h1 : r ≤ 2147483647) (w : World) : Calls Tryz.prog 80 #[.int .i32 r] w fun e w' => e = .returned (.int .i32 (lowZ r)) ∧ w' = w := by
  go_enter Tryz.func80, Tryz.ntmps80
  go_wp2_with (go_at_call 105; refine (upper_calls _ _).mono ?_; rintro e w' ⟨rfl, rfl⟩)
  all_goals go_ret
  all_goals refine ⟨ret_i32 ?_, rfl⟩
  all_goals simp only [upperZ, decide_eq_true_eq, decide_eq_false_iff_not] at *
  all_goals unfold lowZ
  all_goals repeat' split
  all_goals try simp only [wrap32]
  all_goals omega
set_option maxRecDepth 100000 in
theorem value_calls (r : Int) (h0 : -2147483648 ≤ r) (h1 : r ≤ 2147483647) (w : World) : Calls Tryz.prog 103 #[.int .i32 r] w fun e w' => e = .returned (.int .i64 (valueZ r)) ∧ w' = w := by
  go_enter Tryz.func103, Tryz.ntmps103
  go_wp2_with (first
    | (go_at_call 75; refine (digit_calls _ _).mono ?_; rintro e w' ⟨rfl, rfl⟩)
    | (go_at_call 80; refine (lrune_calls _ h0 h1 _).mono ?_; rintro e w' ⟨rfl, rfl⟩; rw [lowZ_upper r (by omega)]))
  all_goals go_ret
  all_goals refine ⟨ret_i64 ?_, rfl⟩
  all_goals simp only [digitZ, decide_eq_true_eq, decide_eq_false_iff_not] at *
  all_goals unfold valueZ
  all_goals repeat' split
  all_goals try simp only [wrap32, wrap64]
  all_goals omega
set_option maxRecDepth 100000 in
theorem hex_calls (r : Int) (h0 : -2147483648 ≤ r) (h1 : r ≤ 2147483647) (w : World) : Calls Tryz.prog 93 #[.int .i32 r] w fun e w' => e = .returned (.bool (decide (0 ≤ valueZ r))) ∧ w' = w := by
  go_enter Tryz.func93, Tryz.ntmps93
  go_wp2_with (go_at_call 103; refine (value_calls _ h0 h1 _).mono ?_; rintro e w' ⟨rfl, rfl⟩)
  all_goals go_ret
  all_goals exact ⟨rfl, rfl⟩
end Go.Proofs.YthjjigobkndgjaaGreatDoor.N

/- What is proved here: the contracts of plain, begins, TagName and AttrName of names, and of small, digit, TagName and AttrName of sieveref04: whether a name may be written. -/
namespace Go.Proofs.YthjjigobkndgjaaGreatDoor.N
open Go.RowKit

theorem at_data (s : ByteArray) (k : Nat) (h : k < s.size) : s[k] = s.data.toList.getD k 0 := by
  obtain ⟨⟨l⟩⟩ := s
  have : k < l.length := h
  simp [this]
  rfl
theorem size_data (s : ByteArray) : s.data.toList.length = s.size := (Lib.size_eq s).symm
/-- A byte of a text. -/
theorem run_byte {P : Program} (w : World) (t : TypeId) (s : ByteArray) (k : IntKind) (i : Int) (j : Nat) (c : UInt8) (h : P.underlying t = some .string) (hi : i = j) (hj : j < s.size) (hc : s.data.toList.getD j 0 = c) :
    (Instr.index t (.string s) (.int k i)).run P w = .ok (.int .u8 c.toNat) w := by
  subst hi
  rw [run_index_string w t s k j h, dif_pos ⟨by omega, by omega⟩, ← hc]
  have := at_data s j hj
  simp only [Int.toNat_natCast]
  rw [this]
theorem all_take_succ (l : List UInt8) (p : UInt8 → Bool) (k : Nat) (h : k < l.length) (h0 : (l.take k).all p = true) (h1 : p (l.getD k 0) = true) : (l.take (k + 1)).all p = true := by
  rw [List.take_succ_eq_append_getElem h, List.all_append, h0]
  simp [List.getD, h] at h1
  simp [h1]
theorem all_not (l : List UInt8) (p : UInt8 → Bool) (k : Nat) (h : k < l.length) (h1 : p (l.getD k 0) = false) : l.all p = false := by
  rw [List.all_eq_false]
  refine ⟨l[k], List.getElem_mem _, ?_⟩
  simp [List.getD, h] at h1
  simp [h1]

def plainB (c : UInt8) : Bool := smallB c || digB c
def beginsN (l : List UInt8) : Bool := decide (1 ≤ l.length ∧ l.length ≤ 100) && smallB (l.getD 0 0)
end Go.Proofs.YthjjigobkndgjaaGreatDoor.N

/- What is proved here: the contract of names.Fields: the fields of any text, in a row of their own. -/
namespace Go.Proofs.YthjjigobkndgjaaGreatDoor.N
open Go.RowKit C

/-- A part of a text. -/
def part (l : List UInt8) (a b : Nat) : List UInt8 := (l.drop a).take (b - a)
theorem part_none (l : List UInt8) (a : Nat) : part l a a = [] := by simp [part]
theorem part_length (l : List UInt8) (a b : Nat) (h : b ≤ l.length) : (part l a b).length = b - a := by simp [part]; omega
theorem part_succ (l : List UInt8) (a k : Nat) (h : a ≤ k) (hk : k < l.length) : part l a (k + 1) = part l a k ++ [l.getD k 0] := by
  unfold part
  have e : k + 1 - a = (k - a) + 1 := by omega
  have hd : k - a < (l.drop a).length := by simp; omega
  rw [e, List.take_succ_eq_append_getElem hd]
  congr 2
  simp [List.getD, hk]
  congr 1
  omega
theorem part_end (l : List UInt8) (a : Nat) : part l a l.length = l.drop a := by
  unfold part
  rw [List.take_of_length_le (by simp)]
theorem part_extract (s : ByteArray) (a b : Nat) : s.extract a b = ⟨(part s.data.toList a b).toArray⟩ := Lib.extract_eq s a b
theorem drop_step (l : List UInt8) (k : Nat) (h : k < l.length) : l.drop k = l.getD k 0 :: l.drop (k + 1) := by
  rw [List.drop_eq_getElem_cons h]
  simp [List.getD, h]
theorem ff_plain (l w : List UInt8) (k : Nat) (h : k < l.length) (hc : blankB (l.getD k 0) = false) : fieldsFrom (l.drop k) w = fieldsFrom (l.drop (k + 1)) (w ++ [l.getD k 0]) := by
  rw [drop_step l k h, ff_cons, if_neg (by rw [hc]; decide)]
theorem ff_blank (l w : List UInt8) (k : Nat) (h : k < l.length) (hc : blankB (l.getD k 0) = true) (hw : w ≠ []) : fieldsFrom (l.drop k) w = w :: fieldsFrom (l.drop (k + 1)) [] := by
  rw [drop_step l k h, ff_cons, if_pos hc, if_neg (by simpa using hw)]
theorem ff_blank0 (l : List UInt8) (k : Nat) (h : k < l.length) (hc : blankB (l.getD k 0) = true) : fieldsFrom (l.drop k) [] = fieldsFrom (l.drop (k + 1)) [] := by
  rw [drop_step l k h, ff_cons, if_pos hc]; rfl
theorem blank_eq (c : UInt8) : blankZ (wrap32 (c.toNat : Int)) = blankB c := by
  have hc := c.toNat_lt
  have hw : wrap32 (c.toNat : Int) = c.toNat := by unfold wrap32; omega
  have hu : ∀ n : Nat, n < 256 → ((c == UInt8.ofNat n) = true ↔ c.toNat = n) := fun n hn => by
    rw [beq_iff_eq]
    constructor
    · intro h; rw [h]; simp; omega
    · intro h; apply UInt8.toNat_inj.1; simp; omega
  rw [hw, Bool.eq_iff_iff]
  unfold blankZ blankB
  rw [show (9 : UInt8) = UInt8.ofNat 9 from rfl, show (10 : UInt8) = UInt8.ofNat 10 from rfl, show (12 : UInt8) = UInt8.ofNat 12 from rfl, show (32 : UInt8) = UInt8.ofNat 32 from rfl]
  simp only [Bool.or_eq_true, decide_eq_true_eq, hu 9 (by omega), hu 10 (by omega), hu 12 (by omega), hu 32 (by omega)]
  omega

/-- Texts as values. -/
def svs (L : List (List UInt8)) : List Value := L.map fun x => .string ⟨x.toArray⟩
theorem svs_append (a b : List (List UInt8)) : svs (a ++ b) = svs a ++ svs b := by simp [svs]
theorem svs_length (a : List (List UInt8)) : (svs a).length = a.length := by simp [svs]
theorem infoStr : (Tryz.prog.info? 9).map (fun i => (i.zero, i.size, i.bytes)) = some (some (.string ⟨#[]⟩), 1, 16) := by kernel_rfl
theorem info_parts {t : TypeId} {z : Value} {n b : Nat} (h : (Tryz.prog.info? t).map (fun i => (i.zero, i.size, i.bytes)) = some (some z, n, b)) : ∃ i, Tryz.prog.info? t = some i ∧ i.zero = some z ∧ i.size = n ∧ i.bytes = b := by
  cases e : Tryz.prog.info? t with
  | none => rw [e] at h; simp at h
  | some i => rw [e] at h; simp at h; exact ⟨i, rfl, h.1, h.2.1, h.2.2⟩
/-- A row of texts of one's own. -/
abbrev OwnT (base : Nat) (w : World) (v : Value) (L : List (List UInt8)) : Prop := w.ownsRow base 9 1 v L.length (svs L)
theorem cell_one (W : World) (a : Value) (t : TypeId) (n : Nat) (hn : n = W.heap.size) : ∀ j u, [a][j]? = some u → (W.alloc (.cells #[a] t)).cell? ((⟨n, 0, none⟩ : Addr).add j) = some u := by
  intro j u h
  subst hn
  rw [add_none, Nat.zero_add]
  have hb := World.alloc_heap_new W (.cells #[a] t)
  simp only [World.cell?, hb]
  simpa using h

end Go.Proofs.YthjjigobkndgjaaGreatDoor.N
