/- What is proved here: laws and contracts of NLower, NFold, NTrim, LkM, one behind the other (each says its own). -/
import Derived.Test.YthjjigobkndgjaaGreatDoorBun2
/- What is proved here: the contracts of Lower, of names and of sieveref04: any text in small letters. -/
namespace Go.Proofs.YthjjigobkndgjaaGreatDoor.N
open Go.RowKit C

/-- Bytes of one's own that are being made small letters: the first k are. -/
structure Low (w wr : World) (l : List UInt8) (k : Nat) : Prop where
  below : Below w.heap.size w wr
  done : ∀ j, j < k → j < l.length → wr.cell? ⟨w.heap.size, j, none⟩ = some (.int .u8 (lowB (l.getD j 0)).toNat)
  rest : ∀ j, k ≤ j → j < l.length → wr.cell? ⟨w.heap.size, j, none⟩ = some (.int .u8 (l.getD j 0).toNat)
  free : ∀ j, j < l.length → wr.frozen? ⟨w.heap.size, j, none⟩ = false
theorem Low.start (w : World) (e : TypeId) (s : ByteArray) : Low w (Lib.bytesWorld w e s) s.data.toList 0 := by
  refine ⟨bytesWorld_below w e s, fun j h => by omega, fun j _ h => Lib.bytesWorld_cell w e s j (by rw [size_data] at h; exact h), fun j h => ?_⟩
  have hn := Lib.bytesWorld_at_new w e s
  have : j < (Lib.bytesCells w e s).size := by rw [size_data] at h; simp [Lib.bytesCells]; omega
  simp [World.frozen?, hn]
  omega
theorem Low.step {w wr : World} {l : List UInt8} {k : Nat} (h : Low w wr l k) (hk : k < l.length) : Low w (wr.setCell ⟨w.heap.size, k, none⟩ (.int .u8 (lowB (l.getD k 0)).toNat)) l (k + 1) := by
  have hc := h.rest k (Nat.le_refl _) hk
  refine ⟨h.below.setCell (Nat.le_refl _) _, fun j hj hl => ?_, fun j hj hl => ?_, fun j hj => ?_⟩
  · by_cases e : j = k
    · subst e; exact cs_same hc
    · rw [cs_other (by simp; first | done | omega)]; exact h.done j (by omega) hl
  · rw [cs_other (by simp; first | done | omega)]; exact h.rest j (by omega) hl
  · rw [World.frozen?_setCell]; exact h.free j hj
theorem Low.keep {w wr : World} {l : List UInt8} {k : Nat} (h : Low w wr l k) (hk : k < l.length) (hl : lowB (l.getD k 0) = l.getD k 0) : Low w wr l (k + 1) := by
  refine ⟨h.below, fun j hj hl' => ?_, fun j hj hl => h.rest j (by omega) hl, h.free⟩
  by_cases e : j = k
  · subst e; rw [hl]; exact h.rest j (Nat.le_refl _) hk
  · exact h.done j (by omega) hl'
theorem Low.over {w wr : World} {l : List UInt8} (h : Low w wr l l.length) (cap : Nat) : (convert 36 9 (.slice (some ⟨w.heap.size, 0, none⟩) l.length cap)).run Tryz.prog wr = .ok (.string ⟨(lower l).toArray⟩) wr := by
  have := run_convert_bytes_back (P := Tryz.prog) wr 36 9 5 ⟨w.heap.size, 0, none⟩ cap (lower l) Tryz.underlying36 Tryz.underlying5 Tryz.underlying9 (fun j hj => by
    rw [lower_length] at hj
    rw [add_none, Nat.zero_add, h.done j hj hj]
    simp [lower, hj])
  rwa [lower_length] at this
theorem low_eq (c : UInt8) : lowZ (c.toNat : Int) = (lowB c).toNat := by
  rw [lowB_toNat]
  unfold lowZ
  repeat' split
  all_goals omega

set_option maxRecDepth 100000 in
set_option maxHeartbeats 2000000 in
theorem lower_calls (s : ByteArray) (w : World) (hs : s.size ≤ 9223372036854775807) :
    Calls Tryz.prog 43 #[.string s] w fun e w' => e = .returned (.string ⟨(lower s.data.toList).toArray⟩) ∧ Below w.heap.size w w' := by
  have HZ : Hid (s.data.toList.length = s.size) := size_data s
  have hcv : (convert 9 36 (.string s)).run Tryz.prog w = .ok (.slice (some ⟨w.heap.size, 0, none⟩) s.size (grownCap w s.size 0 5)) (Lib.bytesWorld w 5 s) := Lib.run_convert_string_bytes w _ _ _ s Tryz.underlying9 Tryz.underlying36 Tryz.underlying5
  have HS : Hid (Low w (Lib.bytesWorld w 5 s) s.data.toList 0) := Low.start w _ s
  generalize Lib.bytesWorld w 5 s = W0 at hcv HS
  generalize grownCap w s.size 0 5 = cap at hcv
  obtain ⟨l, hl⟩ : ∃ l, s.data.toList = l := ⟨_, rfl⟩
  rw [hl] at HS HZ
  rw [hl]
  clear hl
  go_enter Tryz.func43, Tryz.ntmps43
  go_wp2
  clear hcv
  go_loopw [4, 5, 10] (fun _ _ i wr => ∃ k : Nat, k ≤ s.size ∧ i = .int .i64 k ∧ Hid (Low w wr l k)) (fun _ _ i _ => s.size - (intOf i).toNat)
  case atStart => exact ⟨0, by omega, rfl, HS⟩
  case round =>
    obtain ⟨k, hk, rfl, hL⟩ := hrel
    by_cases hlt : k < s.size
    · have hkl : k < l.length := by have := HZ.out; omega
      have hc := hL.out.rest k (Nat.le_refl _) hkl
      have hfz := hL.out.free k hkl
      have HL2 : Hid (Low w _ l (k + 1)) := hL.out.step hkl
      obtain ⟨c, hcc⟩ : ∃ c, l.getD k 0 = c := ⟨_, rfl⟩
      rw [hcc] at hc HL2
      clear hcc
      have hb := c.toNat_lt
      have hle := low_eq c
      have hb2 := (lowB c).toNat_lt
      go_wp2_with (go_at_call 80; refine (lrune_calls _ (by omega) (by omega) _).mono ?_; rintro e w' ⟨rfl, hw'⟩; have hx' := hw'.symm; subst hx'; rw [hle])
      exact ⟨⟨k + 1, by omega, by go_num, HL2⟩, by simp [intOf]; omega⟩
    · obtain rfl : k = s.size := by omega
      have hcv : ∀ cap, (convert 36 9 (.slice (some ⟨w.heap.size, 0, none⟩) s.size cap)).run Tryz.prog wr = .ok (.string ⟨(lower l).toArray⟩) wr := fun cap => by
        have := hL.out; rw [← HZ.out] at this ⊢; exact this.over cap
      go_wp2
      go_ret
      exact ⟨rfl, hL.out.below⟩

end Go.Proofs.YthjjigobkndgjaaGreatDoor.N

/- What is proved here: the contracts of Fold and Event, of names and of sieveref04. -/
namespace Go.Proofs.YthjjigobkndgjaaGreatDoor.N
open Go.RowKit C

theorem acc {w W W' : World} (h : Hid (Below w.heap.size w W)) (h' : Below W.heap.size W W') : Hid (Below w.heap.size w W') := h.out.trans (h'.mono h.out.size)
theorem toList_mk (l : List UInt8) : (⟨l.toArray⟩ : ByteArray).toList = l := by rw [Lib.toList_data]
theorem foldE (a b : List UInt8) (h : a.length ≠ b.length) : decide (lower a = lower b) = false := by
  rw [decide_eq_false_iff_not]
  intro e
  have := congrArg List.length e
  rw [lower_length, lower_length] at this
  exact h this
theorem beq_dec (a b : List UInt8) : (a == b) = decide (a = b) := by rw [Bool.eq_iff_iff]; simp

theorem lower_on : lower (⟨#[111, 110]⟩ : ByteArray).data.toList = [111, 110] := by decide +kernel
theorem event_eq (s : ByteArray) (h : 2 ≤ s.size) : eventN s.data.toList = decide (lower (s.data.toList.take 2) = [111, 110]) := by
  rw [← size_data] at h
  unfold eventN
  rw [beq_dec, decide_eq_true h]
  rfl
theorem event_no (s : ByteArray) (h : ¬ 2 ≤ s.size) : eventN s.data.toList = false := by
  rw [← size_data] at h
  unfold eventN
  rw [decide_eq_false h]
  rfl

end Go.Proofs.YthjjigobkndgjaaGreatDoor.N

/- What is proved here: the contracts of Trim, of names and of sieveref04, and of sieveref04.blank: any text without the blanks at its ends. -/
namespace Go.Proofs.YthjjigobkndgjaaGreatDoor.N
open Go.RowKit C

theorem ret_str {a b : ByteArray} (h : a = b) : Ending.returned (.string a) = .returned (.string b) := by rw [h]
def strLen : Value → Nat
  | .string s => s.size
  | _ => 0
theorem head_get (t : List UInt8) (c : UInt8) (h : 0 < t.length) (hc : t.getD 0 0 = c) : t = c :: t.drop 1 := by
  cases t with
  | nil => simp at h
  | cons a r => simp at hc; subst hc; rfl
theorem last_get (t : List UInt8) (c : UInt8) (h : 0 < t.length) (hc : t.getD (t.length - 1) 0 = c) : t = t.take (t.length - 1) ++ [c] := by
  have e : t.length = t.length - 1 + 1 := by omega
  conv => lhs; rw [← List.take_length (l := t), e]
  rw [List.take_succ_eq_append_getElem (by omega)]
  congr 2
  rw [← hc]
  simp [List.getD, show t.length - 1 < t.length by omega]
theorem front_blank (t : List UInt8) (c : UInt8) (h : 0 < t.length) (hc : t.getD 0 0 = c) (hb : blankB c = true) : (t.drop 1).dropWhile blankB = t.dropWhile blankB := by
  conv => rhs; rw [head_get t c h hc]
  rw [List.dropWhile_cons, if_pos hb]
theorem front_plain (t : List UInt8) (c : UInt8) (h : 0 < t.length) (hc : t.getD 0 0 = c) (hb : blankB c = false) : t.dropWhile blankB = t := by
  conv => lhs; rw [head_get t c h hc]
  rw [List.dropWhile_cons, if_neg (by rw [hb]; decide), ← head_get t c h hc]
theorem back_blank (t : List UInt8) (c : UInt8) (h : 0 < t.length) (hc : t.getD (t.length - 1) 0 = c) (hb : blankB c = true) : (t.take (t.length - 1)).reverse.dropWhile blankB = t.reverse.dropWhile blankB := by
  conv => rhs; rw [last_get t c h hc]
  rw [List.reverse_append, List.reverse_singleton, List.singleton_append, List.dropWhile_cons, if_pos hb]
theorem back_plain (t : List UInt8) (c : UInt8) (h : 0 < t.length) (hc : t.getD (t.length - 1) 0 = c) (hb : blankB c = false) : (t.reverse.dropWhile blankB).reverse = t := by
  have e : t.reverse = c :: (t.take (t.length - 1)).reverse := by
    conv => lhs; rw [last_get t c h hc]
    rw [List.reverse_append, List.reverse_singleton, List.singleton_append]
  rw [e, List.dropWhile_cons, if_neg (by rw [hb]; decide), ← e, List.reverse_reverse]
theorem str_of (t : ByteArray) (x : List UInt8) (h : t.data.toList = x) : t = ⟨x.toArray⟩ := by rw [← h, Lib.mk_data]
theorem tail_data (t : ByteArray) : (t.extract 1 t.size).data.toList = t.data.toList.drop 1 := by
  rw [Lib.extract_data, List.take_of_length_le (by rw [List.length_drop, size_data]; omega)]
theorem front_data (t : ByteArray) : (t.extract 0 (t.size - 1)).data.toList = t.data.toList.take (t.data.toList.length - 1) := by
  rw [Lib.extract_data, List.drop_zero, size_data]; rfl
theorem empty_data (t : ByteArray) (h : t.size = 0) : t.data.toList = [] := List.length_eq_zero_iff.1 (by rw [size_data]; exact h)

theorem ne_empty (t : ByteArray) (h : ¬ t.size = 0) : (t.toList == ([] : List UInt8)) = false := by
  rw [Lib.toList_data, beq_eq_false_iff_ne]
  intro e
  apply h
  rw [← size_data, e]
  rfl
end Go.Proofs.YthjjigobkndgjaaGreatDoor.N

/- What is proved here: plain facts on texts as lists of bytes, for layer 12: what is stripped, the scheme, the kind of a link. -/
namespace Go.Proofs.YthjjigobkndgjaaGreatDoor.L
open Go.RowKit Go.Proofs.YthjjigobkndgjaaGreatDoor.N

/-- Bytes up to 0x20. -/
def lowC (c : UInt8) : Bool := decide (c.toNat ≤ 32)
/-- A tab, a line feed, a carriage return. -/
def gapC (c : UInt8) : Bool := c == 9 || c == 10 || c == 13
/-- What is stripped, of a mended text. -/
def stripM (l : List UInt8) : List UInt8 := ((l.dropWhile lowC).reverse.dropWhile lowC).reverse.filter (fun c => !gapC c)
theorem low_front (t : List UInt8) (c : UInt8) (h : 0 < t.length) (hc : t.getD 0 0 = c) (hb : lowC c = true) : (t.drop 1).dropWhile lowC = t.dropWhile lowC := by
  conv => rhs; rw [head_get t c h hc]
  rw [List.dropWhile_cons, if_pos hb]
theorem low_stay (t : List UInt8) (c : UInt8) (h : 0 < t.length) (hc : t.getD 0 0 = c) (hb : lowC c = false) : t.dropWhile lowC = t := by
  conv => lhs; rw [head_get t c h hc]
  rw [List.dropWhile_cons, if_neg (by rw [hb]; decide), ← head_get t c h hc]
theorem low_back (t : List UInt8) (c : UInt8) (h : 0 < t.length) (hc : t.getD (t.length - 1) 0 = c) (hb : lowC c = true) : (t.take (t.length - 1)).reverse.dropWhile lowC = t.reverse.dropWhile lowC := by
  conv => rhs; rw [last_get t c h hc]
  rw [List.reverse_append, List.reverse_singleton, List.singleton_append, List.dropWhile_cons, if_pos hb]
theorem low_end (t : List UInt8) (c : UInt8) (h : 0 < t.length) (hc : t.getD (t.length - 1) 0 = c) (hb : lowC c = false) : (t.reverse.dropWhile lowC).reverse = t := by
  have e : t.reverse = c :: (t.take (t.length - 1)).reverse := by
    conv => lhs; rw [last_get t c h hc]
    rw [List.reverse_append, List.reverse_singleton, List.singleton_append]
  rw [e, List.dropWhile_cons, if_neg (by rw [hb]; decide), ← e, List.reverse_reverse]
/-- May it stand in a scheme? -/
def innerC (c : UInt8) : Bool := letterZ c.toNat || digitZ c.toNat || c == 43 || c == 45 || c == 46
/-- Where the : of the scheme stands. -/
def colonF : List UInt8 → Option Nat
  | [] => none
  | c :: t => if c == 58 then some 0 else if innerC c then (colonF t).map (· + 1) else none
def colonL (l : List UInt8) : Option Nat := if letterZ ((l.getD 0 0).toNat : Int) then colonF l else none
theorem colonF_lt : ∀ (l : List UInt8) (n : Nat), colonF l = some n → n < l.length
  | [], _, h => by simp [colonF] at h
  | c :: t, n, h => by
    unfold colonF at h
    split at h
    · cases h; simp
    · split at h
      · cases e : colonF t with
        | none => rw [e] at h; simp at h
        | some m => rw [e] at h; simp at h; have := colonF_lt t m e; simp; omega
      · cases h
theorem colonL_lt {l : List UInt8} {n : Nat} (h : colonL l = some n) : n < l.length := by
  unfold colonL at h
  split at h
  · exact colonF_lt l n h
  · cases h
/-- What has been passed over without finding one. -/
theorem colonF_step (l : List UInt8) (k : Nat) (hk : k < l.length) (hp : ∀ j, j < k → (l.getD j 0 == 58) = false ∧ innerC (l.getD j 0) = true) : colonF l = (colonF (l.drop k)).map (· + k) := by
  induction k generalizing l with
  | zero => simp
  | succ k ih =>
    cases l with
    | nil => simp at hk
    | cons c t =>
      have h0 := hp 0 (by omega)
      simp only [List.getD_cons_zero] at h0
      have h1 := ih t (by simpa using hk) (fun j hj => by have := hp (j + 1) (by omega); simpa using this)
      have e : colonF (c :: t) = (colonF t).map (· + 1) := by
        conv => lhs; unfold colonF
        rw [if_neg (by rw [h0.1]; decide), if_pos h0.2]
      rw [e, h1, List.drop_succ_cons]
      cases colonF (t.drop k) <;> simp [Nat.add_assoc]
theorem colonF_all (l : List UInt8) (hp : ∀ j, j < l.length → (l.getD j 0 == 58) = false ∧ innerC (l.getD j 0) = true) : colonF l = none := by
  induction l with
  | nil => rfl
  | cons c t ih =>
    have h0 := hp 0 (by simp)
    simp only [List.getD_cons_zero] at h0
    unfold colonF
    rw [if_neg (by rw [h0.1]; decide), if_pos h0.2, ih (fun j hj => by have := hp (j + 1) (by simpa using hj); simpa using this)]
    rfl
theorem colonF_at (l : List UInt8) (k : Nat) (hk : k < l.length) (hp : ∀ j, j < k → (l.getD j 0 == 58) = false ∧ innerC (l.getD j 0) = true) (hc : (l.getD k 0 == 58) = true) : colonF l = some k := by
  rw [colonF_step l k hk hp]
  have e : l.drop k = l.getD k 0 :: l.drop (k + 1) := by rw [List.drop_eq_getElem_cons hk]; simp [hk]
  rw [e]
  unfold colonF
  rw [if_pos hc]
  simp
theorem colonF_no (l : List UInt8) (k : Nat) (hk : k < l.length) (hp : ∀ j, j < k → (l.getD j 0 == 58) = false ∧ innerC (l.getD j 0) = true) (hc : (l.getD k 0 == 58) = false) (hi : innerC (l.getD k 0) = false) : colonF l = none := by
  rw [colonF_step l k hk hp]
  have e : l.drop k = l.getD k 0 :: l.drop (k + 1) := by rw [List.drop_eq_getElem_cons hk]; simp [hk]
  rw [e]
  unfold colonF
  rw [if_neg (by rw [hc]; decide), if_neg (by rw [hi]; decide)]
  rfl
/-- Its scheme, of a stripped text. -/
def schemeL (l : List UInt8) : Option (List UInt8) := (colonL l).map fun n => lower (l.take n)
def slashC (c : UInt8) : Bool := c == 47 || c == 92
/-- Its kind, of a stripped text. -/
def kindL (l : List UInt8) : Nat :=
  if (colonL l).isSome then 1 else if l.length = 0 then 0 else if 1 < l.length ∧ slashC (l.getD 0 0) = true ∧ slashC (l.getD 1 0) = true then 2 else if slashC (l.getD 0 0) = true then 3 else if (l.getD 0 0 == 63) = true then 4 else if (l.getD 0 0 == 35) = true then 5 else 6
end Go.Proofs.YthjjigobkndgjaaGreatDoor.L
