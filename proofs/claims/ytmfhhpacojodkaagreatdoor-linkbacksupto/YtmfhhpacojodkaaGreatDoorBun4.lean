/- What is proved here: laws and contracts of NClass, NForms, NFields, NLower, NFold, NTrim, LkM, one behind the other (each says its own). -/
import Derived.WalkKit
import Derived.Below
import Derived.Test.YtmfhhpacojodkaaGreatDoorProg
import Derived.Test.YtmfhhpacojodkaaGreatDoorBun3
/- What is proved here: the contracts of Letter, Upper, Digit, Hex, Blank, Value and LowerRune, of names and of sieveref04: what they return for any rune. -/
namespace Go.Proofs.YtmfhhpacojodkaaGreatDoor.N
open Go.RowKit

theorem ret_bool {a b : Bool} (h : a = b) : Ending.returned (.bool a) = .returned (.bool b) := by rw [h]
theorem ret_i32 {a b : Int} (h : a = b) : Ending.returned (.int .i32 a) = .returned (.int .i32 b) := by rw [h]
theorem ret_i64 {a b : Int} (h : a = b) : Ending.returned (.int .i64 a) = .returned (.int .i64 b) := by rw [h]

def upperZ (r : Int) : Bool := decide (65 ≤ r ∧ r ≤ 90)
def letterZ (r : Int) : Bool := decide ((65 ≤ r ∧ r ≤ 90) ∨ (97 ≤ r ∧ r ≤ 122))
def digitZ (r : Int) : Bool := decide (48 ≤ r ∧ r ≤ 57)
def blankZ (r : Int) : Bool := decide (r = 9 ∨ r = 10 ∨ r = 12 ∨ r = 32)
def valueZ (r : Int) : Int := if 48 ≤ r ∧ r ≤ 57 then r - 48 else if 65 ≤ r ∧ r ≤ 70 then r - 55 else if 97 ≤ r ∧ r ≤ 102 then r - 87 else -1
def lowZ (r : Int) : Int := if 65 ≤ r ∧ r ≤ 90 then r + 32 else r
theorem lowZ_upper (r : Int) (h : 65 ≤ r ∧ r ≤ 90) : lowZ r = r + 32 := by unfold lowZ; rw [if_pos h]

set_option maxRecDepth 100000 in
theorem upper_calls (r : Int) (w : World) : Calls Tryz.prog 92 #[.int .i32 r] w fun e w' => e = .returned (.bool (upperZ r)) ∧ w' = w := by
  go_enter Tryz.func92, Tryz.ntmps92
  go_wp2
  all_goals go_ret
  all_goals refine ⟨ret_bool ?_, rfl⟩
  all_goals unfold upperZ
  all_goals simp
  all_goals omega
set_option maxRecDepth 100000 in
theorem digit_calls (r : Int) (w : World) : Calls Tryz.prog 61 #[.int .i32 r] w fun e w' => e = .returned (.bool (digitZ r)) ∧ w' = w := by
  go_enter Tryz.func61, Tryz.ntmps61
  go_wp2
  all_goals go_ret
  all_goals refine ⟨ret_bool ?_, rfl⟩
  all_goals unfold digitZ
  all_goals simp
  all_goals omega
set_option maxRecDepth 100000 in
theorem letter_calls (r : Int) (w : World) : Calls Tryz.prog 60 #[.int .i32 r] w fun e w' => e = .returned (.bool (letterZ r)) ∧ w' = w := by
  go_enter Tryz.func60, Tryz.ntmps60
  go_wp2_with (go_at_call 92; refine (upper_calls _ _).mono ?_; rintro e w' ⟨rfl, rfl⟩)
  all_goals go_ret
  all_goals refine ⟨ret_bool ?_, rfl⟩
  all_goals simp only [upperZ, letterZ, decide_eq_true_eq, decide_eq_false_iff_not] at *
  all_goals first | omega | (rw [Bool.eq_iff_iff]; simp; omega)
set_option maxRecDepth 100000 in
theorem blank_calls (r : Int) (w : World) : Calls Tryz.prog 77 #[.int .i32 r] w fun e w' => e = .returned (.bool (blankZ r)) ∧ w' = w := by
  go_enter Tryz.func77, Tryz.ntmps77
  go_wp2
  all_goals go_ret
  all_goals refine ⟨ret_bool ?_, rfl⟩
  all_goals simp only [blankZ, beq_iff_eq, beq_eq_false_iff_ne, ne_eq] at *
  all_goals first | omega | (rw [Bool.eq_iff_iff]; simp; omega)
set_option maxRecDepth 100000 in
theorem lrune_calls (r : Int) (h0 : -2147483648 ≤ r) (h1 : r ≤ 2147483647) (w : World) : Calls Tryz.prog 67 #[.int .i32 r] w fun e w' => e = .returned (.int .i32 (lowZ r)) ∧ w' = w := by
  go_enter Tryz.func67, Tryz.ntmps67
  go_wp2_with (go_at_call 92; refine (upper_calls _ _).mono ?_; rintro e w' ⟨rfl, rfl⟩)
  all_goals go_ret
  all_goals refine ⟨ret_i32 ?_, rfl⟩
  all_goals simp only [upperZ, decide_eq_true_eq, decide_eq_false_iff_not] at *
  all_goals unfold lowZ
  all_goals repeat' split
  all_goals try simp only [wrap32]
  all_goals omega
set_option maxRecDepth 100000 in
theorem value_calls (r : Int) (h0 : -2147483648 ≤ r) (h1 : r ≤ 2147483647) (w : World) : Calls Tryz.prog 90 #[.int .i32 r] w fun e w' => e = .returned (.int .i64 (valueZ r)) ∧ w' = w := by
  go_enter Tryz.func90, Tryz.ntmps90
  go_wp2_with (first
    | (go_at_call 61; refine (digit_calls _ _).mono ?_; rintro e w' ⟨rfl, rfl⟩)
    | (go_at_call 67; refine (lrune_calls _ h0 h1 _).mono ?_; rintro e w' ⟨rfl, rfl⟩; rw [lowZ_upper r (by omega)]))
  all_goals go_ret
  all_goals refine ⟨ret_i64 ?_, rfl⟩
  all_goals simp only [digitZ, decide_eq_true_eq, decide_eq_false_iff_not] at *
  all_goals unfold valueZ
  all_goals repeat' split
  all_goals try simp only [wrap32, wrap64]
  all_goals omega
set_option maxRecDepth 100000 in
theorem hex_calls (r : Int) (h0 : -2147483648 ≤ r) (h1 : r ≤ 2147483647) (w : World) : Calls Tryz.prog 98 #[.int .i32 r] w fun e w' => e = .returned (.bool (decide (0 ≤ valueZ r))) ∧ w' = w := by
  go_enter Tryz.func98, Tryz.ntmps98
  go_wp2_with (go_at_call 90; refine (value_calls _ h0 h1 _).mono ?_; rintro e w' ⟨rfl, rfl⟩)
  all_goals go_ret
  all_goals exact ⟨rfl, rfl⟩
end Go.Proofs.YtmfhhpacojodkaaGreatDoor.N

/- What is proved here: the contracts of plain, begins, TagName and AttrName of names, and of small, digit, TagName and AttrName of sieveref04: whether a name may be written. -/
namespace Go.Proofs.YtmfhhpacojodkaaGreatDoor.N
open Go.RowKit

theorem at_data (s : ByteArray) (k : Nat) (h : k < s.size) : s[k] = s.data.toList.getD k 0 := by
  obtain ⟨⟨l⟩⟩ := s
  have : k < l.length := h
  simp [this]
  rfl
theorem size_data (s : ByteArray) : s.data.toList.length = s.size := (Lib.size_eq s).symm
/-- A byte of a text. -/
theorem run_byte {P : Program} (w : World) (t : TypeId) (s : ByteArray) (k : IntKind) (i : Int) (j : Nat) (c : UInt8) (h : P.underlying t = some .string) (hi : i = j) (hj : j < s.size) (hc : s.data.toList.getD j 0 = c) :
    (Instr.index t (.string s) (.int k i)).run P w = .ok (.int .u8 c.toNat) w := by
  subst hi
  rw [run_index_string w t s k j h, dif_pos ⟨by omega, by omega⟩, ← hc]
  have := at_data s j hj
  simp only [Int.toNat_natCast]
  rw [this]
theorem all_take_succ (l : List UInt8) (p : UInt8 → Bool) (k : Nat) (h : k < l.length) (h0 : (l.take k).all p = true) (h1 : p (l.getD k 0) = true) : (l.take (k + 1)).all p = true := by
  rw [List.take_succ_eq_append_getElem h, List.all_append, h0]
  simp [List.getD, h] at h1
  simp [h1]
theorem all_not (l : List UInt8) (p : UInt8 → Bool) (k : Nat) (h : k < l.length) (h1 : p (l.getD k 0) = false) : l.all p = false := by
  rw [List.all_eq_false]
  refine ⟨l[k], List.getElem_mem _, ?_⟩
  simp [List.getD, h] at h1
  simp [h1]

def plainB (c : UInt8) : Bool := smallB c || digB c
def beginsN (l : List UInt8) : Bool := decide (1 ≤ l.length ∧ l.length ≤ 100) && smallB (l.getD 0 0)
end Go.Proofs.YtmfhhpacojodkaaGreatDoor.N

/- What is proved here: the contract of names.Fields: the fields of any text, in a row of their own. -/
namespace Go.Proofs.YtmfhhpacojodkaaGreatDoor.N
open Go.RowKit C

/-- A part of a text. -/
def part (l : List UInt8) (a b : Nat) : List UInt8 := (l.drop a).take (b - a)
theorem part_none (l : List UInt8) (a : Nat) : part l a a = [] := by simp [part]
theorem part_length (l : List UInt8) (a b : Nat) (h : b ≤ l.length) : (part l a b).length = b - a := by simp [part]; omega
theorem part_succ (l : List UInt8) (a k : Nat) (h : a ≤ k) (hk : k < l.length) : part l a (k + 1) = part l a k ++ [l.getD k 0] := by
  unfold part
  have e : k + 1 - a = (k - a) + 1 := by omega
  have hd : k - a < (l.drop a).length := by simp; omega
  rw [e, List.take_succ_eq_append_getElem hd]
  congr 2
  simp [List.getD, hk]
  congr 1
  omega
theorem part_end (l : List UInt8) (a : Nat) : part l a l.length = l.drop a := by
  unfold part
  rw [List.take_of_length_le (by simp)]
theorem part_extract (s : ByteArray) (a b : Nat) : s.extract a b = ⟨(part s.data.toList a b).toArray⟩ := Lib.extract_eq s a b
theorem drop_step (l : List UInt8) (k : Nat) (h : k < l.length) : l.drop k = l.getD k 0 :: l.drop (k + 1) := by
  rw [List.drop_eq_getElem_cons h]
  simp [List.getD, h]
theorem ff_plain (l w : List UInt8) (k : Nat) (h : k < l.length) (hc : blankB (l.getD k 0) = false) : fieldsFrom (l.drop k) w = fieldsFrom (l.drop (k + 1)) (w ++ [l.getD k 0]) := by
  rw [drop_step l k h, ff_cons, if_neg (by rw [hc]; decide)]
theorem ff_blank (l w : List UInt8) (k : Nat) (h : k < l.length) (hc : blankB (l.getD k 0) = true) (hw : w ≠ []) : fieldsFrom (l.drop k) w = w :: fieldsFrom (l.drop (k + 1)) [] := by
  rw [drop_step l k h, ff_cons, if_pos hc, if_neg (by simpa using hw)]
theorem ff_blank0 (l : List UInt8) (k : Nat) (h : k < l.length) (hc : blankB (l.getD k 0) = true) : fieldsFrom (l.drop k) [] = fieldsFrom (l.drop (k + 1)) [] := by
  rw [drop_step l k h, ff_cons, if_pos hc]; rfl
theorem blank_eq (c : UInt8) : blankZ (wrap32 (c.toNat : Int)) = blankB c := by
  have hc := c.toNat_lt
  have hw : wrap32 (c.toNat : Int) = c.toNat := by unfold wrap32; omega
  have hu : ∀ n : Nat, n < 256 → ((c == UInt8.ofNat n) = true ↔ c.toNat = n) := fun n hn => by
    rw [beq_iff_eq]
    constructor
    · intro h; rw [h]; simp; omega
    · intro h; apply UInt8.toNat_inj.1; simp; omega
  rw [hw, Bool.eq_iff_iff]
  unfold blankZ blankB
  rw [show (9 : UInt8) = UInt8.ofNat 9 from rfl, show (10 : UInt8) = UInt8.ofNat 10 from rfl, show (12 : UInt8) = UInt8.ofNat 12 from rfl, show (32 : UInt8) = UInt8.ofNat 32 from rfl]
  simp only [Bool.or_eq_true, decide_eq_true_eq, hu 9 (by omega), hu 10 (by omega), hu 12 (by omega), hu 32 (by omega)]
  omega

/-- Texts as values. -/
def svs (L : List (List UInt8)) : List Value := L.map fun x => .string ⟨x.toArray⟩
theorem svs_append (a b : List (List UInt8)) : svs (a ++ b) = svs a ++ svs b := by simp [svs]
theorem svs_length (a : List (List UInt8)) : (svs a).length = a.length := by simp [svs]
theorem infoStr : (Tryz.prog.info? 9).map (fun i => (i.zero, i.size, i.bytes)) = some (some (.string ⟨#[]⟩), 1, 16) := by kernel_rfl
theorem info_parts {t : TypeId} {z : Value} {n b : Nat} (h : (Tryz.prog.info? t).map (fun i => (i.zero, i.size, i.bytes)) = some (some z, n, b)) : ∃ i, Tryz.prog.info? t = some i ∧ i.zero = some z ∧ i.size = n ∧ i.bytes = b := by
  cases e : Tryz.prog.info? t with
  | none => rw [e] at h; simp at h
  | some i => rw [e] at h; simp at h; exact ⟨i, rfl, h.1, h.2.1, h.2.2⟩
/-- A row of texts of one's own. -/
abbrev OwnT (base : Nat) (w : World) (v : Value) (L : List (List UInt8)) : Prop := w.ownsRow base 9 1 v L.length (svs L)
theorem cell_one (W : World) (a : Value) (t : TypeId) (n : Nat) (hn : n = W.heap.size) : ∀ j u, [a][j]? = some u → (W.alloc (.cells #[a] t)).cell? ((⟨n, 0, none⟩ : Addr).add j) = some u := by
  intro j u h
  subst hn
  rw [add_none, Nat.zero_add]
  have hb := World.alloc_heap_new W (.cells #[a] t)
  simp only [World.cell?, hb]
  simpa using h

end Go.Proofs.YtmfhhpacojodkaaGreatDoor.N

/- What is proved here: the contracts of Lower, of names and of sieveref04: any text in small letters. -/
namespace Go.Proofs.YtmfhhpacojodkaaGreatDoor.N
open Go.RowKit C

/-- Bytes of one's own that are being made small letters: the first k are. -/
structure Low (w wr : World) (l : List UInt8) (k : Nat) : Prop where
  below : Below w.heap.size w wr
  done : ∀ j, j < k → j < l.length → wr.cell? ⟨w.heap.size, j, none⟩ = some (.int .u8 (lowB (l.getD j 0)).toNat)
  rest : ∀ j, k ≤ j → j < l.length → wr.cell? ⟨w.heap.size, j, none⟩ = some (.int .u8 (l.getD j 0).toNat)
  free : ∀ j, j < l.length → wr.frozen? ⟨w.heap.size, j, none⟩ = false
theorem Low.start (w : World) (e : TypeId) (s : ByteArray) : Low w (Lib.bytesWorld w e s) s.data.toList 0 := by
  refine ⟨bytesWorld_below w e s, fun j h => by omega, fun j _ h => Lib.bytesWorld_cell w e s j (by rw [size_data] at h; exact h), fun j h => ?_⟩
  have hn := Lib.bytesWorld_at_new w e s
  have : j < (Lib.bytesCells w e s).size := by rw [size_data] at h; simp [Lib.bytesCells]; omega
  simp [World.frozen?, hn]
  omega
theorem Low.step {w wr : World} {l : List UInt8} {k : Nat} (h : Low w wr l k) (hk : k < l.length) : Low w (wr.setCell ⟨w.heap.size, k, none⟩ (.int .u8 (lowB (l.getD k 0)).toNat)) l (k + 1) := by
  have hc := h.rest k (Nat.le_refl _) hk
  refine ⟨h.below.setCell (Nat.le_refl _) _, fun j hj hl => ?_, fun j hj hl => ?_, fun j hj => ?_⟩
  · by_cases e : j = k
    · subst e; exact cs_same hc
    · rw [cs_other (by simp; first | done | omega)]; exact h.done j (by omega) hl
  · rw [cs_other (by simp; first | done | omega)]; exact h.rest j (by omega) hl
  · rw [World.frozen?_setCell]; exact h.free j hj
theorem Low.keep {w wr : World} {l : List UInt8} {k : Nat} (h : Low w wr l k) (hk : k < l.length) (hl : lowB (l.getD k 0) = l.getD k 0) : Low w wr l (k + 1) := by
  refine ⟨h.below, fun j hj hl' => ?_, fun j hj hl => h.rest j (by omega) hl, h.free⟩
  by_cases e : j = k
  · subst e; rw [hl]; exact h.rest j (Nat.le_refl _) hk
  · exact h.done j (by omega) hl'
theorem Low.over {w wr : World} {l : List UInt8} (h : Low w wr l l.length) (cap : Nat) : (convert 29 9 (.slice (some ⟨w.heap.size, 0, none⟩) l.length cap)).run Tryz.prog wr = .ok (.string ⟨(lower l).toArray⟩) wr := by
  have := run_convert_bytes_back (P := Tryz.prog) wr 29 9 5 ⟨w.heap.size, 0, none⟩ cap (lower l) Tryz.underlying29 Tryz.underlying5 Tryz.underlying9 (fun j hj => by
    rw [lower_length] at hj
    rw [add_none, Nat.zero_add, h.done j hj hj]
    simp [lower, hj])
  rwa [lower_length] at this
theorem low_eq (c : UInt8) : lowZ (c.toNat : Int) = (lowB c).toNat := by
  rw [lowB_toNat]
  unfold lowZ
  repeat' split
  all_goals omega

set_option maxRecDepth 100000 in
set_option maxHeartbeats 2000000 in
theorem lower_calls (s : ByteArray) (w : World) (hs : s.size ≤ 9223372036854775807) :
    Calls Tryz.prog 34 #[.string s] w fun e w' => e = .returned (.string ⟨(lower s.data.toList).toArray⟩) ∧ Below w.heap.size w w' := by
  have HZ : Hid (s.data.toList.length = s.size) := size_data s
  have hcv : (convert 9 29 (.string s)).run Tryz.prog w = .ok (.slice (some ⟨w.heap.size, 0, none⟩) s.size (grownCap w s.size 0 5)) (Lib.bytesWorld w 5 s) := Lib.run_convert_string_bytes w _ _ _ s Tryz.underlying9 Tryz.underlying29 Tryz.underlying5
  have HS : Hid (Low w (Lib.bytesWorld w 5 s) s.data.toList 0) := Low.start w _ s
  generalize Lib.bytesWorld w 5 s = W0 at hcv HS
  generalize grownCap w s.size 0 5 = cap at hcv
  obtain ⟨l, hl⟩ : ∃ l, s.data.toList = l := ⟨_, rfl⟩
  rw [hl] at HS HZ
  rw [hl]
  clear hl
  go_enter Tryz.func34, Tryz.ntmps34
  go_wp2
  clear hcv
  go_loopw [4, 5, 10] (fun _ _ i wr => ∃ k : Nat, k ≤ s.size ∧ i = .int .i64 k ∧ Hid (Low w wr l k)) (fun _ _ i _ => s.size - (intOf i).toNat)
  case atStart => exact ⟨0, by omega, rfl, HS⟩
  case round =>
    obtain ⟨k, hk, rfl, hL⟩ := hrel
    by_cases hlt : k < s.size
    · have hkl : k < l.length := by have := HZ.out; omega
      have hc := hL.out.rest k (Nat.le_refl _) hkl
      have hfz := hL.out.free k hkl
      have HL2 : Hid (Low w _ l (k + 1)) := hL.out.step hkl
      obtain ⟨c, hcc⟩ : ∃ c, l.getD k 0 = c := ⟨_, rfl⟩
      rw [hcc] at hc HL2
      clear hcc
      have hb := c.toNat_lt
      have hle := low_eq c
      have hb2 := (lowB c).toNat_lt
      go_wp2_with (go_at_call 67; refine (lrune_calls _ (by omega) (by omega) _).mono ?_; rintro e w' ⟨rfl, hw'⟩; have hx' := hw'.symm; subst hx'; rw [hle])
      exact ⟨⟨k + 1, by omega, by go_num, HL2⟩, by simp [intOf]; omega⟩
    · obtain rfl : k = s.size := by omega
      have hcv : ∀ cap, (convert 29 9 (.slice (some ⟨w.heap.size, 0, none⟩) s.size cap)).run Tryz.prog wr = .ok (.string ⟨(lower l).toArray⟩) wr := fun cap => by
        have := hL.out; rw [← HZ.out] at this ⊢; exact this.over cap
      go_wp2
      go_ret
      exact ⟨rfl, hL.out.below⟩

end Go.Proofs.YtmfhhpacojodkaaGreatDoor.N

/- What is proved here: the contracts of Fold and Event, of names and of sieveref04. -/
namespace Go.Proofs.YtmfhhpacojodkaaGreatDoor.N
open Go.RowKit C

theorem acc {w W W' : World} (h : Hid (Below w.heap.size w W)) (h' : Below W.heap.size W W') : Hid (Below w.heap.size w W') := h.out.trans (h'.mono h.out.size)
theorem toList_mk (l : List UInt8) : (⟨l.toArray⟩ : ByteArray).toList = l := by rw [Lib.toList_data]
theorem foldE (a b : List UInt8) (h : a.length ≠ b.length) : decide (lower a = lower b) = false := by
  rw [decide_eq_false_iff_not]
  intro e
  have := congrArg List.length e
  rw [lower_length, lower_length] at this
  exact h this
theorem beq_dec (a b : List UInt8) : (a == b) = decide (a = b) := by rw [Bool.eq_iff_iff]; simp

theorem lower_on : lower (⟨#[111, 110]⟩ : ByteArray).data.toList = [111, 110] := by decide +kernel
theorem event_eq (s : ByteArray) (h : 2 ≤ s.size) : eventN s.data.toList = decide (lower (s.data.toList.take 2) = [111, 110]) := by
  rw [← size_data] at h
  unfold eventN
  rw [beq_dec, decide_eq_true h]
  rfl
theorem event_no (s : ByteArray) (h : ¬ 2 ≤ s.size) : eventN s.data.toList = false := by
  rw [← size_data] at h
  unfold eventN
  rw [decide_eq_false h]
  rfl

end Go.Proofs.YtmfhhpacojodkaaGreatDoor.N

/- What is proved here: the contracts of Trim, of names and of sieveref04, and of sieveref04.blank: any text without the blanks at its ends. -/
namespace Go.Proofs.YtmfhhpacojodkaaGreatDoor.N
open Go.RowKit C

theorem ret_str {a b : ByteArray} (h : a = b) : Ending.returned (.string a) = .returned (.string b) := by rw [h]
def strLen : Value → Nat
  | .string s => s.size
  | _ => 0
theorem head_get (t : List UInt8) (c : UInt8) (h : 0 < t.length) (hc : t.getD 0 0 = c) : t = c :: t.drop 1 := by
  cases t with
  | nil => simp at h
  | cons a r => simp at hc; subst hc; rfl
theorem last_get (t : List UInt8) (c : UInt8) (h : 0 < t.length) (hc : t.getD (t.length - 1) 0 = c) : t = t.take (t.length - 1) ++ [c] := by
  have e : t.length = t.length - 1 + 1 := by omega
  conv => lhs; rw [← List.take_length (l := t), e]
  rw [List.take_succ_eq_append_getElem (by omega)]
  congr 2
  rw [← hc]
  simp [List.getD, show t.length - 1 < t.length by omega]
theorem front_blank (t : List UInt8) (c : UInt8) (h : 0 < t.length) (hc : t.getD 0 0 = c) (hb : blankB c = true) : (t.drop 1).dropWhile blankB = t.dropWhile blankB := by
  conv => rhs; rw [head_get t c h hc]
  rw [List.dropWhile_cons, if_pos hb]
theorem front_plain (t : List UInt8) (c : UInt8) (h : 0 < t.length) (hc : t.getD 0 0 = c) (hb : blankB c = false) : t.dropWhile blankB = t := by
  conv => lhs; rw [head_get t c h hc]
  rw [List.dropWhile_cons, if_neg (by rw [hb]; decide), ← head_get t c h hc]
theorem back_blank (t : List UInt8) (c : UInt8) (h : 0 < t.length) (hc : t.getD (t.length - 1) 0 = c) (hb : blankB c = true) : (t.take (t.length - 1)).reverse.dropWhile blankB = t.reverse.dropWhile blankB := by
  conv => rhs; rw [last_get t c h hc]
  rw [List.reverse_append, List.reverse_singleton, List.singleton_append, List.dropWhile_cons, if_pos hb]
theorem back_plain (t : List UInt8) (c : UInt8) (h : 0 < t.length) (hc : t.getD (t.length - 1) 0 = c) (hb : blankB c = false) : (t.reverse.dropWhile blankB).reverse = t := by
  have e : t.reverse = c :: (t.take (t.length - 1)).reverse := by
    conv => lhs; rw [last_get t c h hc]
    rw [List.reverse_append, List.reverse_singleton, List.singleton_append]
  rw [e, List.dropWhile_cons, if_neg (by rw [hb]; decide), ← e, List.reverse_reverse]
theorem str_of (t : ByteArray) (x : List UInt8) (h : t.data.toList = x) : t = ⟨x.toArray⟩ := by rw [← h, Lib.mk_data]
theorem tail_data (t : ByteArray) : (t.extract 1 t.size).data.toList = t.data.toList.drop 1 := by
  rw [Lib.extract_data, List.take_of_length_le (by rw [List.length_drop, size_data]; omega)]
theorem front_data (t : ByteArray) : (t.extract 0 (t.size - 1)).data.toList = t.data.toList.take (t.data.toList.length - 1) := by
  rw [Lib.extract_data, List.drop_zero, size_data]; rfl
theorem empty_data (t : ByteArray) (h : t.size = 0) : t.data.toList = [] := List.length_eq_zero_iff.1 (by rw [size_data]; exact h)

theorem ne_empty (t : ByteArray) (h : ¬ t.size = 0) : (t.toList == ([] : List UInt8)) = false := by
  rw [Lib.toList_data, beq_eq_false_iff_ne]
  intro e
  apply h
  rw [← size_data, e]
  rfl
end Go.Proofs.YtmfhhpacojodkaaGreatDoor.N

/- What is proved here: plain facts on texts as lists of bytes, for layer 12: what is stripped, the scheme, the kind of a link. -/
namespace Go.Proofs.YtmfhhpacojodkaaGreatDoor.L
open Go.RowKit Go.Proofs.YtmfhhpacojodkaaGreatDoor.N

/-- Bytes up to 0x20. -/
def lowC (c : UInt8) : Bool := decide (c.toNat ≤ 32)
/-- A tab, a line feed, a carriage return. -/
def gapC (c : UInt8) : Bool := c == 9 || c == 10 || c == 13
/-- What is stripped, of a mended text. -/
def stripM (l : List UInt8) : List UInt8 := ((l.dropWhile lowC).reverse.dropWhile lowC).reverse.filter (fun c => !gapC c)
theorem low_front (t : List UInt8) (c : UInt8) (h : 0 < t.length) (hc : t.getD 0 0 = c) (hb : lowC c = true) : (t.drop 1).dropWhile lowC = t.dropWhile lowC := by
  conv => rhs; rw [head_get t c h hc]
  rw [List.dropWhile_cons, if_pos hb]
theorem low_stay (t : List UInt8) (c : UInt8) (h : 0 < t.length) (hc : t.getD 0 0 = c) (hb : lowC c = false) : t.dropWhile lowC = t := by
  conv => lhs; rw [head_get t c h hc]
  rw [List.dropWhile_cons, if_neg (by rw [hb]; decide), ← head_get t c h hc]
theorem low_back (t : List UInt8) (c : UInt8) (h : 0 < t.length) (hc : t.getD (t.length - 1) 0 = c) (hb : lowC c = true) : (t.take (t.length - 1)).reverse.dropWhile lowC = t.reverse.dropWhile lowC := by
  conv => rhs; rw [last_get t c h hc]
  rw [List.reverse_append, List.reverse_singleton, List.singleton_append, List.dropWhile_cons, if_pos hb]
theorem low_end (t : List UInt8) (c : UInt8) (h : 0 < t.length) (hc : t.getD (t.length - 1) 0 = c) (hb : lowC c = false) : (t.reverse.dropWhile lowC).reverse = t := by
  have e : t.reverse = c :: (t.take (t.length - 1)).reverse := by
    conv => lhs; rw [last_get t c h hc]
    rw [List.reverse_append, List.reverse_singleton, List.singleton_append]
  rw [e, List.dropWhile_cons, if_neg (by rw [hb]; decide), ← e, List.reverse_reverse]
/-- May it stand in a scheme? -/
def innerC (c : UInt8) : Bool := letterZ c.toNat || digitZ c.toNat || c == 43 || c == 45 || c == 46
/-- Where the : of the scheme stands. -/
def colonF : List UInt8 → Option Nat
  | [] => none
  | c :: t => if c == 58 then some 0 else if innerC c then (colonF t).map (· + 1) else none
def colonL (l : List UInt8) : Option Nat := if letterZ ((l.getD 0 0).toNat : Int) then colonF l else none
theorem colonF_lt : ∀ (l : List UInt8) (n : Nat), colonF l = some n → n < l.length
  | [], _, h => by simp [colonF] at h
  | c :: t, n, h => by
    unfold colonF at h
    split at h
    · cases h; simp
    · split at h
      · cases e : colonF t with
        | none => rw [e] at h; simp at h
        | some m => rw [e] at h; simp at h; have := colonF_lt t m e; simp; omega
      · cases h
theorem colonL_lt {l : List UInt8} {n : Nat} (h : colonL l = some n) : n < l.length := by
  unfold colonL at h
  split at h
  · exact colonF_lt l n h
  · cases h
/-- What has been passed over without finding one. -/
theorem colonF_step (l : List UInt8) (k : Nat) (hk : k < l.length) (hp : ∀ j, j < k → (l.getD j 0 == 58) = false ∧ innerC (l.getD j 0) = true) : colonF l = (colonF (l.drop k)).map (· + k) := by
  induction k generalizing l with
  | zero => simp
  | succ k ih =>
    cases l with
    | nil => simp at hk
    | cons c t =>
      have h0 := hp 0 (by omega)
      simp only [List.getD_cons_zero] at h0
      have h1 := ih t (by simpa using hk) (fun j hj => by have := hp (j + 1) (by omega); simpa using this)
      have e : colonF (c :: t) = (colonF t).map (· + 1) := by
        conv => lhs; unfold colonF
        rw [if_neg (by rw [h0.1]; decide), if_pos h0.2]
      rw [e, h1, List.drop_succ_cons]
      cases colonF (t.drop k) <;> simp [Nat.add_assoc]
theorem colonF_all (l : List UInt8) (hp : ∀ j, j < l.length → (l.getD j 0 == 58) = false ∧ innerC (l.getD j 0) = true) : colonF l = none := by
  induction l with
  | nil => rfl
  | cons c t ih =>
    have h0 := hp 0 (by simp)
    simp only [List.getD_cons_zero] at h0
    unfold colonF
    rw [if_neg (by rw [h0.1]; decide), if_pos h0.2, ih (fun j hj => by have := hp (j + 1) (by simpa using hj); simpa using this)]
    rfl
theorem colonF_at (l : List UInt8) (k : Nat) (hk : k < l.length) (hp : ∀ j, j < k → (l.getD j 0 == 58) = false ∧ innerC (l.getD j 0) = true) (hc : (l.getD k 0 == 58) = true) : colonF l = some k := by
  rw [colonF_step l k hk hp]
  have e : l.drop k = l.getD k 0 :: l.drop (k + 1) := by rw [List.drop_eq_getElem_cons hk]; simp [hk]
  rw [e]
  unfold colonF
  rw [if_pos hc]
  simp
theorem colonF_no (l : List UInt8) (k : Nat) (hk : k < l.length) (hp : ∀ j, j < k → (l.getD j 0 == 58) = false ∧ innerC (l.getD j 0) = true) (hc : (l.getD k 0 == 58) = false) (hi : innerC (l.getD k 0) = false) : colonF l = none := by
  rw [colonF_step l k hk hp]
  have e : l.drop k = l.getD k 0 :: l.drop (k + 1) := by rw [List.drop_eq_getElem_cons hk]; simp [hk]
  rw [e]
  unfold colonF
  rw [if_neg (by rw [hc]; decide), if_neg (by rw [hi]; decide)]
  rfl
/-- Its scheme, of a stripped text. -/
def schemeL (l : List UInt8) : Option (List UInt8) := (colonL l).map fun n => lower (l.take n)
def slashC (c : UInt8) : Bool := c == 47 || c == 92
/-- Its kind, of a stripped text. -/
def kindL (l : List UInt8) : Nat :=
  if (colonL l).isSome then 1 else if l.length = 0 then 0 else if 1 < l.length ∧ slashC (l.getD 0 0) = true ∧ slashC (l.getD 1 0) = true then 2 else if slashC (l.getD 0 0) = true then 3 else if (l.getD 0 0 == 63) = true then 4 else if (l.getD 0 0 == 35) = true then 5 else 6
end Go.Proofs.YtmfhhpacojodkaaGreatDoor.L
