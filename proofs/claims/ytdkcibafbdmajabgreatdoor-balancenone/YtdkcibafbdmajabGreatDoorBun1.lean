/- What is proved here: laws and contracts of NMath, NClass, NForms, one behind the other (each says its own). -/
import Derived.Lib.Join
import Derived.Lib.IndexMore
import Derived.WalkKit
import Derived.Below
import Derived.Test.YtdkcibafbdmajabGreatDoorProg
/- What is proved here: facts on texts as lists of bytes: small letters, blanks, trimming, fields, collapsing, names that may be written. No program in it. -/
namespace Go.Proofs.YtdkcibafbdmajabGreatDoor.N

def blankB (c : UInt8) : Bool := c == 9 || c == 10 || c == 12 || c == 32
def smallB (c : UInt8) : Bool := decide (97 ≤ c.toNat ∧ c.toNat ≤ 122)
def digB (c : UInt8) : Bool := decide (48 ≤ c.toNat ∧ c.toNat ≤ 57)
def lowB (c : UInt8) : UInt8 := if 65 ≤ c.toNat ∧ c.toNat ≤ 90 then UInt8.ofNat (c.toNat + 32) else c
def lower (l : List UInt8) : List UInt8 := l.map lowB

theorem lowB_toNat (c : UInt8) : (lowB c).toNat = if 65 ≤ c.toNat ∧ c.toNat ≤ 90 then c.toNat + 32 else c.toNat := by
  unfold lowB
  split
  · rw [UInt8.toNat_ofNat']; omega
  · rfl
theorem lowB_idem (c : UInt8) : lowB (lowB c) = lowB c := by
  apply UInt8.toNat_inj.1
  have h1 := lowB_toNat (lowB c)
  have h2 := lowB_toNat c
  split at h2
  · rw [if_neg (by omega)] at h1; exact h1
  · rename_i h; rw [if_neg (by omega)] at h1; exact h1
theorem lowB_small (c : UInt8) (h : ¬ (65 ≤ c.toNat ∧ c.toNat ≤ 90)) : lowB c = c := by unfold lowB; rw [if_neg h]
theorem lower_idem (l : List UInt8) : lower (lower l) = lower l := by
  unfold lower
  rw [List.map_map]
  exact List.map_congr_left fun c _ => lowB_idem c
theorem lower_length (l : List UInt8) : (lower l).length = l.length := by simp [lower]
theorem lower_id (l : List UInt8) (h : ∀ c ∈ l, ¬ (65 ≤ c.toNat ∧ c.toNat ≤ 90)) : lower l = l := by
  unfold lower
  conv => rhs; rw [← List.map_id l]
  exact List.map_congr_left fun c hc => lowB_small c (h c hc)

/-- May a tag's name be written? -/
def tagN (l : List UInt8) : Bool := decide (1 ≤ l.length ∧ l.length ≤ 100) && smallB (l.getD 0 0) && l.all fun c => smallB c || digB c
/-- May an attribute's? -/
def attrN (l : List UInt8) : Bool := decide (1 ≤ l.length ∧ l.length ≤ 100) && smallB (l.getD 0 0) && (l.getD (l.length - 1) 0 != 45) && l.all fun c => smallB c || digB c || c == 45
def eventN (l : List UInt8) : Bool := decide (2 ≤ l.length) && (lower (l.take 2) == [111, 110])
theorem tagN_lower (l : List UInt8) (h : tagN l = true) : lower l = l := by
  refine lower_id l fun c hc => ?_
  simp only [tagN, Bool.and_eq_true, List.all_eq_true] at h
  have := h.2 c hc
  simp [smallB, digB] at this
  omega
theorem attrN_lower (l : List UInt8) (h : attrN l = true) : lower l = l := by
  refine lower_id l fun c hc => ?_
  simp only [attrN, Bool.and_eq_true, List.all_eq_true] at h
  have := h.2 c hc
  simp [smallB, digB] at this
  rcases this with (h | h) | h
  · omega
  · omega
  · subst h; decide

/-- The fields of what is left, a word's beginning at hand. -/
def fieldsFrom : List UInt8 → List UInt8 → List (List UInt8)
  | [], w => if w.isEmpty then [] else [w]
  | c :: r, w => if blankB c then (if w.isEmpty then fieldsFrom r [] else w :: fieldsFrom r []) else fieldsFrom r (w ++ [c])
theorem ff_nil (w : List UInt8) : fieldsFrom [] w = if w.isEmpty then [] else [w] := rfl
theorem ff_cons (c : UInt8) (r w : List UInt8) : fieldsFrom (c :: r) w = if blankB c then (if w.isEmpty then fieldsFrom r [] else w :: fieldsFrom r []) else fieldsFrom r (w ++ [c]) := rfl
def fields (l : List UInt8) : List (List UInt8) := fieldsFrom l []
def Word (w : List UInt8) : Prop := w ≠ [] ∧ ∀ c ∈ w, blankB c = false
def joined (ws : List (List UInt8)) : List UInt8 := Lib.join ws [32]
def collapse (l : List UInt8) : List UInt8 := joined (fields l)
def trim (l : List UInt8) : List UInt8 := ((l.dropWhile blankB).reverse.dropWhile blankB).reverse

theorem fieldsFrom_words : ∀ (l w : List UInt8), (∀ c ∈ w, blankB c = false) → ∀ f ∈ fieldsFrom l w, Word f
  | [], w, hw, f, hf => by
    unfold fieldsFrom at hf
    split at hf
    · cases hf
    · rename_i h
      simp at hf
      subst hf
      exact ⟨by simpa using h, hw⟩
  | c :: r, w, hw, f, hf => by
    unfold fieldsFrom at hf
    split at hf
    · split at hf
      · exact fieldsFrom_words r [] (by simp) f hf
      · rename_i h
        rcases List.mem_cons.1 hf with rfl | hf
        · exact ⟨by simpa using h, hw⟩
        · exact fieldsFrom_words r [] (by simp) f hf
    · rename_i h
      refine fieldsFrom_words r (w ++ [c]) (fun x hx => ?_) f hf
      rcases List.mem_append.1 hx with hx | hx
      · exact hw x hx
      · simp at hx; subst hx; simpa using h
theorem fields_words (l : List UInt8) : ∀ f ∈ fields l, Word f := fieldsFrom_words l [] (by simp)
theorem fieldsFrom_plain : ∀ (l w : List UInt8), (∀ c ∈ l, blankB c = false) → fieldsFrom l w = fieldsFrom [] (w ++ l)
  | [], w, _ => by simp
  | c :: r, w, h => by
    have hc := h c (by simp)
    rw [ff_cons, if_neg (by simp [hc]), fieldsFrom_plain r (w ++ [c]) (fun x hx => h x (by simp [hx])), List.append_assoc]
    rfl
theorem fields_word (w : List UInt8) (h : Word w) : fields w = [w] := by
  unfold fields
  rw [fieldsFrom_plain w [] h.2, List.nil_append, ff_nil, if_neg (by simpa using h.1)]
theorem fieldsFrom_two : ∀ (a w : List UInt8) (c : UInt8) (b : List UInt8), blankB c = true → fieldsFrom (a ++ c :: b) w = fieldsFrom a w ++ fields b
  | [], w, c, b, h => by
    rw [List.nil_append, ff_cons, if_pos h, ff_nil]
    split <;> simp [fields]
  | x :: r, w, c, b, h => by
    rw [List.cons_append, ff_cons, ff_cons]
    split
    · split
      · exact fieldsFrom_two r [] c b h
      · rw [fieldsFrom_two r [] c b h]; rfl
    · exact fieldsFrom_two r _ c b h
theorem fields_two (a : List UInt8) (c : UInt8) (b : List UInt8) (h : blankB c = true) : fields (a ++ c :: b) = fields a ++ fields b := fieldsFrom_two a [] c b h
theorem joined_cons (x y : List UInt8) (r : List (List UInt8)) : joined (x :: y :: r) = x ++ 32 :: joined (y :: r) := by
  unfold joined
  rw [Lib.join_cons, Lib.join_cons]
  simp [Lib.joinTail]
theorem joined_one (x : List UInt8) : joined [x] = x := Lib.join_one x [32]
theorem fields_joined : ∀ (ws : List (List UInt8)), (∀ w ∈ ws, Word w) → fields (joined ws) = ws
  | [], _ => rfl
  | [x], h => by rw [joined_one]; exact fields_word x (h x (by simp))
  | x :: y :: r, h => by
    rw [joined_cons, fields_two _ _ _ (by decide), fields_word x (h x (by simp)), fields_joined (y :: r) (fun w hw => h w (by simp [List.mem_cons.1 hw]))]
    rfl
theorem fields_collapse (l : List UInt8) : fields (collapse l) = fields l := fields_joined _ (fields_words l)
theorem collapse_idem (l : List UInt8) : collapse (collapse l) = collapse l := by
  show joined (fields (collapse l)) = _
  rw [fields_collapse]
  rfl
/-- What begins and ends without a blank is trimmed. -/
theorem trim_id (l : List UInt8) (h0 : ∀ c, l.head? = some c → blankB c = false) (h1 : ∀ c, l.getLast? = some c → blankB c = false) : trim l = l := by
  have e : ∀ m : List UInt8, (∀ c, m.head? = some c → blankB c = false) → m.dropWhile blankB = m := by
    intro m hm
    cases m with
    | nil => rfl
    | cons c r => rw [List.dropWhile_cons, if_neg (by simp [hm c rfl])]
  unfold trim
  rw [e l h0, e l.reverse (fun c hc => h1 c (by rw [List.head?_reverse] at hc; exact hc)), List.reverse_reverse]
theorem joined_ends : ∀ (ws : List (List UInt8)), (∀ w ∈ ws, Word w) → (∀ c, (joined ws).head? = some c → blankB c = false) ∧ (∀ c, (joined ws).getLast? = some c → blankB c = false) ∧ (ws ≠ [] → joined ws ≠ [])
  | [], _ => ⟨fun c h => by simp [joined, Lib.join_nil] at h, fun c h => by simp [joined, Lib.join_nil] at h, fun h => absurd rfl h⟩
  | [x], h => by
    rw [joined_one]
    have hx := h x (by simp)
    exact ⟨fun c hc => hx.2 c (List.mem_of_head? hc), fun c hc => hx.2 c (List.mem_of_getLast? hc), fun _ => hx.1⟩
  | x :: y :: r, h => by
    have ih := joined_ends (y :: r) (fun w hw => h w (by simp [List.mem_cons.1 hw]))
    have hx := h x (by simp)
    rw [joined_cons]
    refine ⟨fun c hc => ?_, fun c hc => ?_, fun _ => by simp⟩
    · cases x with
      | nil => exact absurd rfl hx.1
      | cons a s => simp at hc; subst hc; exact hx.2 _ (by simp)
    · have hne := ih.2.2 (by simp)
      refine ih.2.1 c ?_
      rw [List.getLast?_append, List.getLast?_cons] at hc
      cases hj : joined (y :: r) with
      | nil => exact absurd hj hne
      | cons a s =>
        rw [hj] at hc
        simpa [List.getLast?_cons] using hc
theorem trim_joined (ws : List (List UInt8)) (h : ∀ w ∈ ws, Word w) : trim (joined ws) = joined ws := trim_id _ (joined_ends ws h).1 (joined_ends ws h).2.1
theorem trim_collapse (l : List UInt8) : trim (collapse l) = collapse l := trim_joined _ (fields_words l)
theorem trim_word (w : List UInt8) (h : Word w) : trim w = w := by
  have := trim_joined [w] (by simpa using h)
  rwa [joined_one] at this

/-- How many fields there are at most, and how long they are together. -/
theorem fieldsFrom_count : ∀ (l w : List UInt8), (fieldsFrom l w).length ≤ l.length + 1
  | [], w => by unfold fieldsFrom; split <;> simp
  | c :: r, w => by
    unfold fieldsFrom
    split
    · split
      · have := fieldsFrom_count r []; simp; omega
      · have := fieldsFrom_count r []; simp; omega
    · have := fieldsFrom_count r (w ++ [c]); simp; omega
theorem fields_count (l : List UInt8) : (fields l).length ≤ l.length + 1 := fieldsFrom_count l []
theorem fieldsFrom_sum : ∀ (l w : List UInt8), Lib.lens (fieldsFrom l w) + (fieldsFrom l w).length ≤ l.length + w.length + 1
  | [], w => by
    unfold fieldsFrom
    split <;> simp [Lib.lens]
  | c :: r, w => by
    unfold fieldsFrom
    split
    · split
      · have := fieldsFrom_sum r []; simp at this ⊢; omega
      · have := fieldsFrom_sum r []; simp [Lib.lens] at this ⊢; omega
    · have := fieldsFrom_sum r (w ++ [c]); simp at this ⊢; omega
theorem joined_length : ∀ (ws : List (List UInt8)), (joined ws).length ≤ Lib.lens ws + ws.length
  | [] => by simp [joined, Lib.join_nil]
  | x :: r => by
    unfold joined
    rw [Lib.join_length]
    simp
    omega
theorem collapse_length (l : List UInt8) : (collapse l).length ≤ l.length + 1 := by
  have := fieldsFrom_sum l []
  have := joined_length (fields l)
  unfold collapse fields at *
  simp at *
  omega

end Go.Proofs.YtdkcibafbdmajabGreatDoor.N

/- What is proved here: the contracts of Letter, Upper, Digit, Hex, Blank, Value and LowerRune, of names and of sieveref04: what they return for any rune. -/
namespace Go.Proofs.YtdkcibafbdmajabGreatDoor.N
open Go.RowKit

theorem ret_bool {a b : Bool} (h : a = b) : Ending.returned (.bool a) = .returned (.bool b) := by rw [h]
theorem ret_i32 {a b : Int} (h : a = b) : Ending.returned (.int .i32 a) = .returned (.int .i32 b) := by rw [h]
theorem ret_i64 {a b : Int} (h : a = b) : Ending.returned (.int .i64 a) = .returned (.int .i64 b) := by rw [h]

def upperZ (r : Int) : Bool := decide (65 ≤ r ∧ r ≤ 90)
def letterZ (r : Int) : Bool := decide ((65 ≤ r ∧ r ≤ 90) ∨ (97 ≤ r ∧ r ≤ 122))
def digitZ (r : Int) : Bool := decide (48 ≤ r ∧ r ≤ 57)
def blankZ (r : Int) : Bool := decide (r = 9 ∨ r = 10 ∨ r = 12 ∨ r = 32)
def valueZ (r : Int) : Int := if 48 ≤ r ∧ r ≤ 57 then r - 48 else if 65 ≤ r ∧ r ≤ 70 then r - 55 else if 97 ≤ r ∧ r ≤ 102 then r - 87 else -1
def lowZ (r : Int) : Int := if 65 ≤ r ∧ r ≤ 90 then r + 32 else r
theorem lowZ_upper (r : Int) (h : 65 ≤ r ∧ r ≤ 90) : lowZ r = r + 32 := by unfold lowZ; rw [if_pos h]

set_option maxRecDepth 100000 in
theorem upper_calls (r : Int) (w : World) : Calls Tryz.prog 134 #[.int .i32 r] w fun e w' => e = .returned (.bool (upperZ r)) ∧ w' = w := by
  go_enter Tryz.func134, Tryz.ntmps134
  go_wp2
  all_goals go_ret
  all_goals refine ⟨ret_bool ?_, rfl⟩
  all_goals unfold upperZ
  all_goals simp
  all_goals omega
set_option maxRecDepth 100000 in
theorem digit_calls (r : Int) (w : World) : Calls Tryz.prog 132 #[.int .i32 r] w fun e w' => e = .returned (.bool (digitZ r)) ∧ w' = w := by
  go_enter Tryz.func132, Tryz.ntmps132
  go_wp2
  all_goals go_ret
  all_goals refine ⟨ret_bool ?_, rfl⟩
  all_goals unfold digitZ
  all_goals simp
  all_goals omega
set_option maxRecDepth 100000 in
theorem letter_calls (r : Int) (w : World) : Calls Tryz.prog 133 #[.int .i32 r] w fun e w' => e = .returned (.bool (letterZ r)) ∧ w' = w := by
  go_enter Tryz.func133, Tryz.ntmps133
  go_wp2_with (go_at_call 134; refine (upper_calls _ _).mono ?_; rintro e w' ⟨rfl, rfl⟩)
  all_goals go_ret
  all_goals refine ⟨ret_bool ?_, rfl⟩
  all_goals simp only [upperZ, letterZ, decide_eq_true_eq, decide_eq_false_iff_not] at *
  all_goals first | omega | (rw [Bool.eq_iff_iff]; simp; omega)
set_option maxRecDepth 100000 in
theorem blank_calls (r : Int) (w : World) : Calls Tryz.prog 104 #[.int .i32 r] w fun e w' => e = .returned (.bool (blankZ r)) ∧ w' = w := by
  go_enter Tryz.func104, Tryz.ntmps104
  go_wp2
  all_goals go_ret
  all_goals refine ⟨ret_bool ?_, rfl⟩
  all_goals simp only [blankZ, beq_iff_eq, beq_eq_false_iff_ne, ne_eq] at *
  all_goals first | omega | (rw [Bool.eq_iff_iff]; simp; omega)
set_option maxRecDepth 100000 in
theorem rblank_calls (r : Int) (w : World) : Calls Tryz.prog 107 #[.int .i32 r] w fun e w' => e = .returned (.bool (blankZ r)) ∧ w' = w := by
  go_enter Tryz.func107, Tryz.ntmps107
  go_wp2
  all_goals go_ret
  all_goals refine ⟨ret_bool ?_, rfl⟩
  all_goals simp only [blankZ] at *
  all_goals first | omega | (rw [Bool.eq_iff_iff]; simp; omega)
end Go.Proofs.YtdkcibafbdmajabGreatDoor.N

/- What is proved here: the contracts of plain, begins, TagName and AttrName of names, and of small, digit, TagName and AttrName of sieveref04: whether a name may be written. -/
namespace Go.Proofs.YtdkcibafbdmajabGreatDoor.N
open Go.RowKit

theorem at_data (s : ByteArray) (k : Nat) (h : k < s.size) : s[k] = s.data.toList.getD k 0 := by
  obtain ⟨⟨l⟩⟩ := s
  have : k < l.length := h
  simp [this]
  rfl
theorem size_data (s : ByteArray) : s.data.toList.length = s.size := (Lib.size_eq s).symm
/-- A byte of a text. -/
theorem run_byte {P : Program} (w : World) (t : TypeId) (s : ByteArray) (k : IntKind) (i : Int) (j : Nat) (c : UInt8) (h : P.underlying t = some .string) (hi : i = j) (hj : j < s.size) (hc : s.data.toList.getD j 0 = c) :
    (Instr.index t (.string s) (.int k i)).run P w = .ok (.int .u8 c.toNat) w := by
  subst hi
  rw [run_index_string w t s k j h, dif_pos ⟨by omega, by omega⟩, ← hc]
  have := at_data s j hj
  simp only [Int.toNat_natCast]
  rw [this]
theorem all_take_succ (l : List UInt8) (p : UInt8 → Bool) (k : Nat) (h : k < l.length) (h0 : (l.take k).all p = true) (h1 : p (l.getD k 0) = true) : (l.take (k + 1)).all p = true := by
  rw [List.take_succ_eq_append_getElem h, List.all_append, h0]
  simp [List.getD, h] at h1
  simp [h1]
theorem all_not (l : List UInt8) (p : UInt8 → Bool) (k : Nat) (h : k < l.length) (h1 : p (l.getD k 0) = false) : l.all p = false := by
  rw [List.all_eq_false]
  refine ⟨l[k], List.getElem_mem _, ?_⟩
  simp [List.getD, h] at h1
  simp [h1]

def plainB (c : UInt8) : Bool := smallB c || digB c
set_option maxRecDepth 100000 in
theorem nplain_calls (c : UInt8) (w : World) : Calls Tryz.prog 112 #[.int .u8 c.toNat] w fun e w' => e = .returned (.bool (plainB c)) ∧ w' = w := by
  have hc := c.toNat_lt
  have hw : wrap32 (c.toNat : Int) = c.toNat := by unfold wrap32; omega
  go_enter Tryz.func112, Tryz.ntmps112
  go_wp2_with (first
    | (go_at_call 132; refine (digit_calls _ _).mono ?_; rintro e w' ⟨rfl, rfl⟩)
    | (go_at_call 133; refine (letter_calls _ _).mono ?_; rintro e w' ⟨rfl, rfl⟩)
    | (go_at_call 134; refine (upper_calls _ _).mono ?_; rintro e w' ⟨rfl, rfl⟩))
  all_goals go_ret
  all_goals refine ⟨ret_bool ?_, rfl⟩
  all_goals simp only [hw, digitZ, letterZ, upperZ, decide_eq_true_eq] at *
  all_goals unfold plainB smallB digB
  all_goals first | omega | (rw [Bool.eq_iff_iff]; simp; omega)
def beginsN (l : List UInt8) : Bool := decide (1 ≤ l.length ∧ l.length ≤ 100) && smallB (l.getD 0 0)
set_option maxRecDepth 100000 in
theorem begins_calls (s : ByteArray) (w : World) : Calls Tryz.prog 111 #[.string s] w fun e w' => e = .returned (.bool (beginsN s.data.toList)) ∧ w' = w := by
  have hz := size_data s
  go_enter Tryz.func111, Tryz.ntmps111
  by_cases h0 : s.size = 0
  · go_wp2
    all_goals go_ret
    all_goals refine ⟨ret_bool ?_, rfl⟩
    all_goals simp [beginsN, hz, h0]
  by_cases h1 : 100 < s.size
  · go_wp2
    all_goals go_ret
    all_goals refine ⟨ret_bool ?_, rfl⟩
    all_goals simp [beginsN, hz]
    all_goals omega
  have h2 : 0 < s.size := by omega
  obtain ⟨c, hcc⟩ : ∃ c, s.data.toList.getD 0 0 = c := ⟨_, rfl⟩
  have hix : ∀ w, (Instr.index 9 (.string s) (.int .i64 0)).run Tryz.prog w = .ok (.int .u8 c.toNat) w := fun w => run_byte w _ s _ 0 0 c Tryz.underlying9 rfl h2 hcc
  have HC : Hid (s.data.toList.getD 0 0 = c) := hcc
  clear hcc
  have hc := c.toNat_lt
  have hw : wrap32 (c.toNat : Int) = c.toNat := by unfold wrap32; omega
  go_wp2_with (first
    | (go_at_call 132; refine (digit_calls _ _).mono ?_; rintro e w' ⟨rfl, rfl⟩)
    | (go_at_call 112; refine (nplain_calls _ _).mono ?_; rintro e w' ⟨rfl, rfl⟩))
  all_goals go_ret
  all_goals refine ⟨ret_bool ?_, rfl⟩
  all_goals simp only [hw, digitZ, decide_eq_true_eq] at *
  all_goals unfold beginsN
  all_goals rw [HC.out]
  all_goals try unfold plainB
  all_goals unfold smallB
  all_goals try unfold digB
  all_goals first | omega | (rw [Bool.eq_iff_iff]; simp [hz]; omega)

end Go.Proofs.YtdkcibafbdmajabGreatDoor.N
