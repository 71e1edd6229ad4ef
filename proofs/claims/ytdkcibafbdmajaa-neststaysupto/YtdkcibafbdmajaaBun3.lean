/- What is proved here: laws and contracts of NAwake, NLower, NFold, one behind the other (each says its own). -/
import Derived.Test.YtdkcibafbdmajaaNShelf
import Derived.Test.YtdkcibafbdmajaaNText
import Derived.Test.YtdkcibafbdmajaaBun2
import Derived.Test.YtdkcibafbdmajaaNFields
/- What is proved here: the contracts of names.Collapse (of texts up to a size) and of names.In at one set, and that the document's example ('awake') holds. -/
namespace Go.Proofs.Ytdkcibafbdmajaa.N
open Go.RowKit Go.Shelf C

/-- The library's variable that strings.Contains reads is a number. -/
abbrev MaxOk (w : World) : Prop := ∃ m, w.cell? ⟨Try.laysM144_ren.g 1, 0, none⟩ = some (.int .i64 m)
theorem MaxOk.below {w w' : World} (h : MaxOk w) (hb : Below w.heap.size w w') : MaxOk w' := by
  obtain ⟨m, hm⟩ := h
  exact ⟨m, (hb.cell (cell_lt hm)).trans hm⟩
theorem svs_get (L : List (List UInt8)) (j : Nat) (x : ByteArray) (h : (L.map fun x => (⟨x.toArray⟩ : ByteArray))[j]? = some x) : (svs L)[j]? = some (.string x) := by
  simp [svs] at h ⊢
  obtain ⟨a, h1, rfl⟩ := h
  exact ⟨a, h1, rfl⟩
theorem map_back (L : List (List UInt8)) : (L.map fun x => (⟨x.toArray⟩ : ByteArray)).map (·.data.toList) = L := by
  rw [List.map_map]
  exact List.map_id' L

theorem sub_data (s : ByteArray) : ((⟨#[32]⟩ : ByteArray) ++ s ++ (⟨#[32]⟩ : ByteArray)).data.toList = 32 :: (s.data.toList ++ [32]) := by
  rw [ByteArray.data_append, ByteArray.data_append, Array.toList_append, Array.toList_append]
  rfl
theorem contains_calls (s sub : ByteArray) (m : Int) (w : World) (hs : s.size < 4294967281) (hm : w.cell? ⟨Try.laysM144_ren.g 1, 0, none⟩ = some (.int .i64 m)) :
    Calls Try.prog 54 #[.string s, .string sub] w fun e w' => e = .returned (.bool (Lib.contains s.data.toList sub.data.toList)) ∧ w' = w := Any.strings_Contains { Try.laysM144 with } s sub m w hs hm
theorem txt6_size : txt6.size < 4294967281 := by decide +kernel
set_option maxRecDepth 100000 in
set_option maxHeartbeats 1000000 in
theorem in6_calls (s : ByteArray) (w : World) (hs : s.size ≤ 9223372036854775807) (hm : MaxOk w) :
    Calls Try.prog 31 #[.string s, .int .i64 6] w fun e w' => e = .returned (.bool (tagN s.data.toList && Lib.contains txt6.data.toList (32 :: (s.data.toList ++ [32])))) ∧ Below w.heap.size w w' := by
  have HZ : Hid (s.data.toList.length = s.size) := size_data s
  obtain ⟨m, hm⟩ := hm
  have HM : Hid (w.cell? ⟨Try.laysM144_ren.g 1, 0, none⟩ = some (.int .i64 m)) := hm
  clear hm
  go_enter Try.func31, Try.ntmps31
  cases ht : tagN s.data.toList with
  | false =>
    go_wp2_with (go_at_call 53; refine (tag_calls _ _ hs).mono ?_; rintro e w' ⟨rfl, hw'⟩; have hx' := hw'.symm; subst hx')
    go_ret
    exact ⟨ret_bool (by simp), Below.refl _ _⟩
  | true =>
    have h100 : s.size ≤ 100 := by have := HZ.out; simp [tagN] at ht; omega
    go_wp2_with (first
      | (go_at_call 53; refine (tag_calls _ _ hs).mono ?_; rintro e w' ⟨rfl, hw'⟩; have hx' := hw'.symm; subst hx')
      | (go_at_call 55; refine (text6_calls _).mono ?_; rintro e w' ⟨rfl, hw'⟩; have hx' := hw'.symm; subst hx'))
    refine (contains_calls txt6 _ m w txt6_size HM.out).mono ?_
    rintro e w' ⟨rfl, hw'⟩
    have hx' := hw'.symm
    subst hx'
    go_wp2
    go_ret
    exact ⟨ret_bool (by first | rfl | (rw [sub_data]; rfl)), Below.refl _ _⟩

theorem in_p : (tagN [112] && Lib.contains txt6.data.toList (32 :: ([112] ++ [32]))) = true := by decide +kernel
theorem in_P : (tagN [80] && Lib.contains txt6.data.toList (32 :: ([80] ++ [32]))) = false := by decide +kernel
theorem collapse_abc : collapse [32, 97, 9, 98, 32, 32, 99, 32] = [97, 32, 98, 32, 99] := by decide +kernel

end Go.Proofs.Ytdkcibafbdmajaa.N

/- What is proved here: the contracts of Lower, of names and of sieveref04: any text in small letters. -/
namespace Go.Proofs.Ytdkcibafbdmajaa.N
open Go.RowKit C

/-- Bytes of one's own that are being made small letters: the first k are. -/
structure Low (w wr : World) (l : List UInt8) (k : Nat) : Prop where
  below : Below w.heap.size w wr
  done : ∀ j, j < k → j < l.length → wr.cell? ⟨w.heap.size, j, none⟩ = some (.int .u8 (lowB (l.getD j 0)).toNat)
  rest : ∀ j, k ≤ j → j < l.length → wr.cell? ⟨w.heap.size, j, none⟩ = some (.int .u8 (l.getD j 0).toNat)
  free : ∀ j, j < l.length → wr.frozen? ⟨w.heap.size, j, none⟩ = false
theorem Low.start (w : World) (e : TypeId) (s : ByteArray) : Low w (Lib.bytesWorld w e s) s.data.toList 0 := by
  refine ⟨bytesWorld_below w e s, fun j h => by omega, fun j _ h => Lib.bytesWorld_cell w e s j (by rw [size_data] at h; exact h), fun j h => ?_⟩
  have hn := Lib.bytesWorld_at_new w e s
  have : j < (Lib.bytesCells w e s).size := by rw [size_data] at h; simp [Lib.bytesCells]; omega
  simp [World.frozen?, hn]
  omega
theorem Low.step {w wr : World} {l : List UInt8} {k : Nat} (h : Low w wr l k) (hk : k < l.length) : Low w (wr.setCell ⟨w.heap.size, k, none⟩ (.int .u8 (lowB (l.getD k 0)).toNat)) l (k + 1) := by
  have hc := h.rest k (Nat.le_refl _) hk
  refine ⟨h.below.setCell (Nat.le_refl _) _, fun j hj hl => ?_, fun j hj hl => ?_, fun j hj => ?_⟩
  · by_cases e : j = k
    · subst e; exact cs_same hc
    · rw [cs_other (by simp; first | done | omega)]; exact h.done j (by omega) hl
  · rw [cs_other (by simp; first | done | omega)]; exact h.rest j (by omega) hl
  · rw [World.frozen?_setCell]; exact h.free j hj
theorem Low.keep {w wr : World} {l : List UInt8} {k : Nat} (h : Low w wr l k) (hk : k < l.length) (hl : lowB (l.getD k 0) = l.getD k 0) : Low w wr l (k + 1) := by
  refine ⟨h.below, fun j hj hl' => ?_, fun j hj hl => h.rest j (by omega) hl, h.free⟩
  by_cases e : j = k
  · subst e; rw [hl]; exact h.rest j (Nat.le_refl _) hk
  · exact h.done j (by omega) hl'
theorem low_eq (c : UInt8) : lowZ (c.toNat : Int) = (lowB c).toNat := by
  rw [lowB_toNat]
  unfold lowZ
  repeat' split
  all_goals omega

end Go.Proofs.Ytdkcibafbdmajaa.N

/- What is proved here: the contracts of Fold and Event, of names and of sieveref04. -/
namespace Go.Proofs.Ytdkcibafbdmajaa.N
open Go.RowKit C

theorem acc {w W W' : World} (h : Hid (Below w.heap.size w W)) (h' : Below W.heap.size W W') : Hid (Below w.heap.size w W') := h.out.trans (h'.mono h.out.size)
theorem toList_mk (l : List UInt8) : (⟨l.toArray⟩ : ByteArray).toList = l := by rw [Lib.toList_data]
theorem foldE (a b : List UInt8) (h : a.length ≠ b.length) : decide (lower a = lower b) = false := by
  rw [decide_eq_false_iff_not]
  intro e
  have := congrArg List.length e
  rw [lower_length, lower_length] at this
  exact h this
theorem beq_dec (a b : List UInt8) : (a == b) = decide (a = b) := by rw [Bool.eq_iff_iff]; simp

theorem lower_on : lower (⟨#[111, 110]⟩ : ByteArray).data.toList = [111, 110] := by decide +kernel
theorem event_eq (s : ByteArray) (h : 2 ≤ s.size) : eventN s.data.toList = decide (lower (s.data.toList.take 2) = [111, 110]) := by
  rw [← size_data] at h
  unfold eventN
  rw [beq_dec, decide_eq_true h]
  rfl
theorem event_no (s : ByteArray) (h : ¬ 2 ≤ s.size) : eventN s.data.toList = false := by
  rw [← size_data] at h
  unfold eventN
  rw [decide_eq_false h]
  rfl

end Go.Proofs.Ytdkcibafbdmajaa.N
