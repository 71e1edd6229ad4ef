/- What is proved here: the contracts of names.Collapse (of texts up to a size) and of names.In at one set, and that the document's example ('awake') holds. -/
import Derived.Test.YtdkcibafbdmajaaNShelf
import Derived.Test.YtdkcibafbdmajaaNText
import Derived.Test.YtdkcibafbdmajaaNTags
import Derived.Test.YtdkcibafbdmajaaNFields
namespace Go.Proofs.Ytdkcibafbdmajaa.N
open Go.RowKit Go.Shelf C

/-- The library's variable that strings.Contains reads is a number. -/
abbrev MaxOk (w : World) : Prop := ∃ m, w.cell? ⟨Try.laysM144_ren.g 1, 0, none⟩ = some (.int .i64 m)
theorem MaxOk.below {w w' : World} (h : MaxOk w) (hb : Below w.heap.size w w') : MaxOk w' := by
  obtain ⟨m, hm⟩ := h
  exact ⟨m, (hb.cell (cell_lt hm)).trans hm⟩
theorem svs_get (L : List (List UInt8)) (j : Nat) (x : ByteArray) (h : (L.map fun x => (⟨x.toArray⟩ : ByteArray))[j]? = some x) : (svs L)[j]? = some (.string x) := by
  simp [svs] at h ⊢
  obtain ⟨a, h1, rfl⟩ := h
  exact ⟨a, h1, rfl⟩
theorem map_back (L : List (List UInt8)) : (L.map fun x => (⟨x.toArray⟩ : ByteArray)).map (·.data.toList) = L := by
  rw [List.map_map]
  exact List.map_id' L

theorem sub_data (s : ByteArray) : ((⟨#[32]⟩ : ByteArray) ++ s ++ (⟨#[32]⟩ : ByteArray)).data.toList = 32 :: (s.data.toList ++ [32]) := by
  rw [ByteArray.data_append, ByteArray.data_append, Array.toList_append, Array.toList_append]
  rfl
theorem contains_calls (s sub : ByteArray) (m : Int) (w : World) (hs : s.size < 4294967281) (hm : w.cell? ⟨Try.laysM144_ren.g 1, 0, none⟩ = some (.int .i64 m)) :
    Calls Try.prog 54 #[.string s, .string sub] w fun e w' => e = .returned (.bool (Lib.contains s.data.toList sub.data.toList)) ∧ w' = w := Any.strings_Contains { Try.laysM144 with } s sub m w hs hm
theorem txt6_size : txt6.size < 4294967281 := by decide +kernel
set_option maxRecDepth 100000 in
set_option maxHeartbeats 1000000 in
theorem in6_calls (s : ByteArray) (w : World) (hs : s.size ≤ 9223372036854775807) (hm : MaxOk w) :
    Calls Try.prog 31 #[.string s, .int .i64 6] w fun e w' => e = .returned (.bool (tagN s.data.toList && Lib.contains txt6.data.toList (32 :: (s.data.toList ++ [32])))) ∧ Below w.heap.size w w' := by
  have HZ : Hid (s.data.toList.length = s.size) := size_data s
  obtain ⟨m, hm⟩ := hm
  have HM : Hid (w.cell? ⟨Try.laysM144_ren.g 1, 0, none⟩ = some (.int .i64 m)) := hm
  clear hm
  go_enter Try.func31, Try.ntmps31
  cases ht : tagN s.data.toList with
  | false =>
    go_wp2_with (go_at_call 53; refine (tag_calls _ _ hs).mono ?_; rintro e w' ⟨rfl, hw'⟩; have hx' := hw'.symm; subst hx')
    go_ret
    exact ⟨ret_bool (by simp), Below.refl _ _⟩
  | true =>
    have h100 : s.size ≤ 100 := by have := HZ.out; simp [tagN] at ht; omega
    go_wp2_with (first
      | (go_at_call 53; refine (tag_calls _ _ hs).mono ?_; rintro e w' ⟨rfl, hw'⟩; have hx' := hw'.symm; subst hx')
      | (go_at_call 55; refine (text6_calls _).mono ?_; rintro e w' ⟨rfl, hw'⟩; have hx' := hw'.symm; subst hx'))
    refine (contains_calls txt6 _ m w txt6_size HM.out).mono ?_
    rintro e w' ⟨rfl, hw'⟩
    have hx' := hw'.symm
    subst hx'
    go_wp2
    go_ret
    exact ⟨ret_bool (by first | rfl | (rw [sub_data]; rfl)), Below.refl _ _⟩

theorem in_p : (tagN [112] && Lib.contains txt6.data.toList (32 :: ([112] ++ [32]))) = true := by decide +kernel
theorem in_P : (tagN [80] && Lib.contains txt6.data.toList (32 :: ([80] ++ [32]))) = false := by decide +kernel
theorem collapse_abc : collapse [32, 97, 9, 98, 32, 32, 99, 32] = [97, 32, 98, 32, 99] := by decide +kernel

end Go.Proofs.Ytdkcibafbdmajaa.N
