/- What is proved here: the contracts of names.Collapse (of texts up to a size) and of names.In at one set, and that the document's example ('awake') holds. -/
import Derived.Test.YtjgppdjbcmadcaaNShelf
import Derived.Test.YtjgppdjbcmadcaaNText
import Derived.Test.YtjgppdjbcmadcaaNTags
import Derived.Test.YtjgppdjbcmadcaaNFields
namespace Go.Proofs.Ytjgppdjbcmadcaa.N
open Go.RowKit Go.Shelf C

/-- The library's variable that strings.Contains reads is a number. -/
abbrev MaxOk (w : World) : Prop := ∃ m, w.cell? ⟨Try.laysM144_ren.g 1, 0, none⟩ = some (.int .i64 m)
theorem MaxOk.below {w w' : World} (h : MaxOk w) (hb : Below w.heap.size w w') : MaxOk w' := by
  obtain ⟨m, hm⟩ := h
  exact ⟨m, (hb.cell (cell_lt hm)).trans hm⟩
theorem svs_get (L : List (List UInt8)) (j : Nat) (x : ByteArray) (h : (L.map fun x => (⟨x.toArray⟩ : ByteArray))[j]? = some x) : (svs L)[j]? = some (.string x) := by
  simp [svs] at h ⊢
  obtain ⟨a, h1, rfl⟩ := h
  exact ⟨a, h1, rfl⟩
theorem map_back (L : List (List UInt8)) : (L.map fun x => (⟨x.toArray⟩ : ByteArray)).map (·.data.toList) = L := by
  rw [List.map_map]
  exact List.map_id' L

set_option maxRecDepth 100000 in
theorem join_calls (base : Nat) (v : Value) (L : List (List UInt8)) (w : World) (hO : OwnT base w v L) (hN : L.length ≤ 100000000000) (hlen : (joined L).length ≤ 140737488355328) :
    Calls Try.prog 26 #[v, .string ⟨#[32]⟩] w fun e w' => e = .returned (.string ⟨(joined L).toArray⟩) ∧ Below w.heap.size w w' := by
  by_cases h0 : L.length = 0
  · obtain rfl : L = [] := List.length_eq_zero_iff.1 h0
    obtain ⟨a, c, rfl⟩ := owns_slice hO
    refine (Any.strings_Join_none Try.lays156 Try.Builder_Extra_156 a c ⟨#[32]⟩ w).mono fun e w' ⟨he, hw⟩ => ⟨he, hw ▸ Below.refl _ _⟩
  · rcases hO.2 with ⟨rfl, e0⟩ | ⟨g, cap, cur, rfl, hb, hg, hcap, _⟩
    · omega
    · have e1 : (L.map fun x => (⟨x.toArray⟩ : ByteArray)).length = L.length := by simp
      have h := Any.strings_Join Try.lays156 Try.Builder_Extra_156 g 0 cap (L.map fun x => (⟨x.toArray⟩ : ByteArray)) ⟨#[32]⟩ w
        (fun j x hx => by
          have hj : j < L.length := by rw [← e1]; exact (List.getElem?_eq_some_iff.1 hx).1
          rw [Nat.zero_add, World.ownsRow.cellAt hO j (by omega)]
          exact svs_get L j x hx) (lt_of_block hg) (by rw [e1]; omega) (by rw [e1]; exact hcap) (by rw [map_back]; exact hlen)
      rw [e1, map_back] at h
      exact h

set_option maxRecDepth 100000 in
set_option maxHeartbeats 1000000 in
theorem collapse_calls (s : ByteArray) (w : World) (hs : (s.size : Int) ≤ 90000000000) :
    Calls Try.prog 19 #[.string s] w fun e w' => e = .returned (.string ⟨(collapse s.data.toList).toArray⟩) ∧ Below w.heap.size w w' := by
  have HZ : Hid (s.data.toList.length = s.size) := size_data s
  go_enter Try.func19, Try.ntmps19
  go_wp2_with fail
  refine (fields_calls s w (by omega)).mono ?_
  rintro e W1 ⟨v, rfl, hO, hB⟩
  have s1 := hB.size
  go_wp2_with fail
  refine (join_calls _ _ _ W1 hO (by have := fields_count s.data.toList; have := HZ.out; omega) (by have := collapse_length s.data.toList; unfold collapse at this; have := HZ.out; omega)).mono ?_
  rintro e W2 ⟨rfl, hB2⟩
  go_wp2
  go_ret
  exact ⟨rfl, hB.trans (hB2.mono s1)⟩

theorem sub_data (s : ByteArray) : ((⟨#[32]⟩ : ByteArray) ++ s ++ (⟨#[32]⟩ : ByteArray)).data.toList = 32 :: (s.data.toList ++ [32]) := by
  rw [ByteArray.data_append, ByteArray.data_append, Array.toList_append, Array.toList_append]
  rfl
theorem contains_calls (s sub : ByteArray) (m : Int) (w : World) (hs : s.size < 4294967281) (hm : w.cell? ⟨Try.laysM144_ren.g 1, 0, none⟩ = some (.int .i64 m)) :
    Calls Try.prog 13 #[.string s, .string sub] w fun e w' => e = .returned (.bool (Lib.contains s.data.toList sub.data.toList)) ∧ w' = w := Any.strings_Contains { Try.laysM144 with } s sub m w hs hm
theorem txt6_size : txt6.size < 4294967281 := by decide +kernel
set_option maxRecDepth 100000 in
set_option maxHeartbeats 1000000 in
theorem in6_calls (s : ByteArray) (w : World) (hs : s.size ≤ 9223372036854775807) (hm : MaxOk w) :
    Calls Try.prog 5 #[.string s, .int .i64 6] w fun e w' => e = .returned (.bool (tagN s.data.toList && Lib.contains txt6.data.toList (32 :: (s.data.toList ++ [32])))) ∧ Below w.heap.size w w' := by
  have HZ : Hid (s.data.toList.length = s.size) := size_data s
  obtain ⟨m, hm⟩ := hm
  have HM : Hid (w.cell? ⟨Try.laysM144_ren.g 1, 0, none⟩ = some (.int .i64 m)) := hm
  clear hm
  go_enter Try.func5, Try.ntmps5
  cases ht : tagN s.data.toList with
  | false =>
    go_wp2_with (go_at_call 12; refine (tag_calls _ _ hs).mono ?_; rintro e w' ⟨rfl, hw'⟩; have hx' := hw'.symm; subst hx')
    go_ret
    exact ⟨ret_bool (by simp), Below.refl _ _⟩
  | true =>
    have h100 : s.size ≤ 100 := by have := HZ.out; simp [tagN] at ht; omega
    go_wp2_with (first
      | (go_at_call 12; refine (tag_calls _ _ hs).mono ?_; rintro e w' ⟨rfl, hw'⟩; have hx' := hw'.symm; subst hx')
      | (go_at_call 14; refine (text6_calls _).mono ?_; rintro e w' ⟨rfl, hw'⟩; have hx' := hw'.symm; subst hx'))
    refine (contains_calls txt6 _ m w txt6_size HM.out).mono ?_
    rintro e w' ⟨rfl, hw'⟩
    have hx' := hw'.symm
    subst hx'
    go_wp2
    go_ret
    exact ⟨ret_bool (by first | rfl | (rw [sub_data]; rfl)), Below.refl _ _⟩

theorem in_p : (tagN [112] && Lib.contains txt6.data.toList (32 :: ([112] ++ [32]))) = true := by decide +kernel
theorem in_P : (tagN [80] && Lib.contains txt6.data.toList (32 :: ([80] ++ [32]))) = false := by decide +kernel
theorem collapse_abc : collapse [32, 97, 9, 98, 32, 32, 99, 32] = [97, 32, 98, 32, 99] := by decide +kernel

set_option maxRecDepth 100000 in
set_option maxHeartbeats 1000000 in
/-- **The document's example holds.** -/
theorem awake_calls (w : World) (hm : MaxOk w) : Calls Try.prog 10 #[] w fun e w' => e = .returned (.bool true) ∧ Below w.heap.size w w' := by
  have HM : Hid (MaxOk w) := hm
  clear hm
  go_enter Try.func10, Try.ntmps10
  go_wp2_with fail
  refine (in6_calls ⟨#[112]⟩ w (by decide) HM.out).mono ?_
  rintro e W1 ⟨rfl, hB1⟩
  have s1 := hB1.size
  have e1 : (tagN (⟨#[112]⟩ : ByteArray).data.toList && Lib.contains txt6.data.toList (32 :: ((⟨#[112]⟩ : ByteArray).data.toList ++ [32]))) = true := in_p
  rw [e1]
  clear e1
  go_wp2_with fail
  refine (in6_calls ⟨#[80]⟩ W1 (by decide) (HM.out.below hB1)).mono ?_
  rintro e W2 ⟨rfl, hB2⟩
  have s2 := hB2.size
  have e2 : (tagN (⟨#[80]⟩ : ByteArray).data.toList && Lib.contains txt6.data.toList (32 :: ((⟨#[80]⟩ : ByteArray).data.toList ++ [32]))) = false := in_P
  rw [e2]
  clear e2
  go_wp2_with fail
  refine (collapse_calls ⟨#[32, 97, 9, 98, 32, 32, 99, 32]⟩ W2 (by decide)).mono ?_
  rintro e W3 ⟨rfl, hB3⟩
  have e3 : collapse (⟨#[32, 97, 9, 98, 32, 32, 99, 32]⟩ : ByteArray).data.toList = [97, 32, 98, 32, 99] := collapse_abc
  rw [e3]
  clear e3
  go_wp2
  go_ret
  exact ⟨rfl, (hB1.trans (hB2.mono s1)).trans (hB3.mono (by omega))⟩

end Go.Proofs.Ytjgppdjbcmadcaa.N
