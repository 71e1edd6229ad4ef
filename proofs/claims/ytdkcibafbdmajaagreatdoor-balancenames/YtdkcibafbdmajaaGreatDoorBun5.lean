/- What is proved here: laws and contracts of NRFields, NIn, one behind the other (each says its own). -/
import Derived.Test.YtdkcibafbdmajaaGreatDoorBun4
import Derived.Test.YtdkcibafbdmajaaGreatDoorBun3
import Derived.Test.YtdkcibafbdmajaaGreatDoorNSetM
/- What is proved here: the contracts of sieveref04.Fields and sieveref04.Collapse: the document's fields of a text. -/
namespace Go.Proofs.YtdkcibafbdmajaaGreatDoor.N
open Go.RowKit C

theorem joinTail_snoc (r : List (List UInt8)) (x : List UInt8) : Lib.joinTail [32] (r ++ [x]) = Lib.joinTail [32] r ++ 32 :: x := by
  simp [Lib.joinTail]
theorem joined_snoc (ws : List (List UInt8)) (x : List UInt8) (h : ws ≠ []) : joined (ws ++ [x]) = joined ws ++ 32 :: x := by
  cases ws with
  | nil => exact absurd rfl h
  | cons y r =>
    unfold joined
    rw [List.cons_append, Lib.join_cons, Lib.join_cons, joinTail_snoc, List.append_assoc]
theorem joined_take_one (L : List (List UInt8)) (h : 0 < L.length) : joined (L.take 1) = L[0] := by
  cases L with
  | nil => simp at h
  | cons x r => exact joined_one x
theorem joined_take (L : List (List UInt8)) (k : Nat) (h : k < L.length) (h0 : 0 < k) : joined (L.take (k + 1)) = joined (L.take k) ++ 32 :: L[k] := by
  rw [List.take_succ_eq_append_getElem h, joined_snoc]
  intro e
  have := congrArg List.length e
  rw [List.length_take, List.length_nil] at this
  omega
theorem joined_take_le (L : List (List UInt8)) (k : Nat) : (joined (L.take k)).length ≤ Lib.lens L + L.length := by
  have h1 := joined_length (L.take k)
  have h2 := Lib.lens_take_le L k
  have : (L.take k).length ≤ L.length := by rw [List.length_take]; omega
  omega
theorem data_two (o f : ByteArray) : (o ++ (⟨#[32]⟩ : ByteArray) ++ f).data.toList = o.data.toList ++ 32 :: f.data.toList := by
  rw [ByteArray.data_append, ByteArray.data_append, Array.toList_append, Array.toList_append]
  simp
theorem data_first (o f : ByteArray) (h : o.data.toList = []) : (o ++ f).data.toList = f.data.toList := by
  rw [ByteArray.data_append, Array.toList_append, h, List.nil_append]

/-- Texts in memory. -/
def HasT (w : World) (v : Value) (L : List (List UInt8)) : Prop :=
  (L = [] ∧ ∃ a cap, v = .slice a 0 cap) ∨ ∃ b cap, v = .slice (some ⟨b, 0, none⟩) L.length cap ∧ L.length ≤ cap ∧ b < w.heap.size ∧ ∀ j (h : j < L.length), w.cell? ⟨b, j, none⟩ = some (.string ⟨L[j].toArray⟩)
theorem HasT.of {base : Nat} {w : World} {v : Value} {L : List (List UInt8)} (h : OwnT base w v L) : HasT w v L := by
  by_cases h0 : L.length = 0
  · obtain ⟨a, c, rfl⟩ := owns_slice h
    exact .inl ⟨List.length_eq_zero_iff.1 h0, a, c, by rw [h0]⟩
  · rcases h.2 with ⟨rfl, e0⟩ | ⟨g, cap, cur, rfl, hb, hg, hcap, _⟩
    · omega
    · refine .inr ⟨g, cap, rfl, hcap, lt_of_block hg, fun j hj => ?_⟩
      rw [World.ownsRow.cellAt h j (by omega)]
      simp [svs, hj]
theorem HasT.below {A B : World} {v : Value} {L : List (List UInt8)} (h : HasT A v L) (hb : Below A.heap.size A B) : HasT B v L := by
  rcases h with h | ⟨b, cap, h1, h2, h3, h4⟩
  · exact .inl h
  · exact .inr ⟨b, cap, h1, h2, Nat.lt_of_lt_of_le h3 hb.size, fun j hj => (hb.cell (p := ⟨b, j, none⟩) h3).trans (h4 j hj)⟩
theorem HasT.slice {w : World} {v : Value} {L : List (List UInt8)} (h : HasT w v L) : ∃ a cap, v = .slice a L.length cap := by
  rcases h with ⟨rfl, a, c, h⟩ | ⟨b, cap, h, _⟩
  · exact ⟨a, c, h⟩
  · exact ⟨_, cap, h⟩
theorem HasT.at {w : World} {a : Option Addr} {n cap : Nat} {L : List (List UInt8)} (h : HasT w (.slice a n cap) L) (h0 : 0 < L.length) : ∃ b, a = some ⟨b, 0, none⟩ ∧ b < w.heap.size ∧ L.length ≤ cap ∧ ∀ j (h : j < L.length), w.cell? ⟨b, j, none⟩ = some (.string ⟨L[j].toArray⟩) := by
  rcases h with ⟨rfl, _⟩ | ⟨b, c, h1, h2, h3, h4⟩
  · simp at h0
  · simp only [Value.slice.injEq] at h1
    obtain ⟨rfl, rfl, rfl⟩ := h1
    exact ⟨b, rfl, h3, h2, h4⟩

end Go.Proofs.YtdkcibafbdmajaaGreatDoor.N

/- What is proved here: the contracts of text and In, of names and of sieveref04, at any number: which names are in which sets. -/
namespace Go.Proofs.YtdkcibafbdmajaaGreatDoor.N
open Go.RowKit C

def txtZ (z : Int) : ByteArray := if 0 ≤ z ∧ z < 16 then txtOf z.toNat else ⟨#[]⟩
def rtxtZ (z : Int) : ByteArray := if 0 ≤ z ∧ z < 16 then rtxtOf z.toNat else ⟨#[]⟩
/-- Is a name in the set of a number? -/
def inZ (z : Int) (l : List UInt8) : Bool := if 0 ≤ z ∧ z < 16 then decide (l ∈ SW z.toNat) else false
theorem ne_empty' (t : ByteArray) (h : ¬ t.size = 0) : (t.toList == ([] : List UInt8)) = false := by
  rw [Lib.toList_data, beq_eq_false_iff_ne]
  intro e
  apply h
  rw [← size_data, e]
  rfl
theorem z_cases (z : Int) (h : 0 ≤ z ∧ z < 16) : z = 0 ∨ z = 1 ∨ z = 2 ∨ z = 3 ∨ z = 4 ∨ z = 5 ∨ z = 6 ∨ z = 7 ∨ z = 8 ∨ z = 9 ∨ z = 10 ∨ z = 11 ∨ z = 12 ∨ z = 13 ∨ z = 14 ∨ z = 15 := by omega

set_option maxRecDepth 100000 in
set_option maxHeartbeats 1000000 in
theorem text_none (z : Int) (w : World) (h : ¬ (0 ≤ z ∧ z < 16)) : Calls Tryz.prog 42 #[.int .i64 z] w fun e w' => e = .returned (.string ⟨#[]⟩) ∧ w' = w := by
  have hz : ∀ n : Nat, n < 16 → (z == (n : Int)) = false := fun n hn => by rw [beq_eq_false_iff_ne]; omega
  have h0 : (z == 0) = false := hz 0 (by omega)
  have h1 : (z == 1) = false := hz 1 (by omega)
  have h2 : (z == 2) = false := hz 2 (by omega)
  have h3 : (z == 3) = false := hz 3 (by omega)
  have h4 : (z == 4) = false := hz 4 (by omega)
  have h5 : (z == 5) = false := hz 5 (by omega)
  have h6 : (z == 6) = false := hz 6 (by omega)
  have h7 : (z == 7) = false := hz 7 (by omega)
  have h8 : (z == 8) = false := hz 8 (by omega)
  have h9 : (z == 9) = false := hz 9 (by omega)
  have h10 : (z == 10) = false := hz 10 (by omega)
  have h11 : (z == 11) = false := hz 11 (by omega)
  have h12 : (z == 12) = false := hz 12 (by omega)
  have h13 : (z == 13) = false := hz 13 (by omega)
  have h14 : (z == 14) = false := hz 14 (by omega)
  have h15 : (z == 15) = false := hz 15 (by omega)
  clear hz h
  go_enter Tryz.func42, Tryz.ntmps42
  go_wp2
  go_ret
  exact ⟨rfl, rfl⟩
theorem text_calls (z : Int) (w : World) : Calls Tryz.prog 42 #[.int .i64 z] w fun e w' => e = .returned (.string (txtZ z)) ∧ w' = w := by
  unfold txtZ
  split
  · rename_i h
    rcases z_cases z h with rfl | rfl | rfl | rfl | rfl | rfl | rfl | rfl | rfl | rfl | rfl | rfl | rfl | rfl | rfl | rfl
    · exact text0_calls w
    · exact text1_calls w
    · exact text2_calls w
    · exact text3_calls w
    · exact text4_calls w
    · exact text5_calls w
    · exact text6_calls w
    · exact text7_calls w
    · exact text8_calls w
    · exact text9_calls w
    · exact text10_calls w
    · exact text11_calls w
    · exact text12_calls w
    · exact text13_calls w
    · exact text14_calls w
    · exact text15_calls w
  · rename_i h
    exact text_none z w h
theorem txtZ_size (z : Int) : (txtZ z).size ≤ 100000 := by
  unfold txtZ
  split
  · exact (set_right z.toNat (by omega)).2.2.2.1
  · decide
theorem rtxtZ_size (z : Int) : (rtxtZ z).size ≤ 100000 := by
  unfold rtxtZ
  split
  · exact (set_right z.toNat (by omega)).2.2.2.2
  · decide
theorem in_z (z : Int) (l : List UInt8) : (tagN l && Lib.contains (txtZ z).data.toList (32 :: (l ++ [32]))) = inZ z l := by
  unfold txtZ inZ
  split
  · exact in_right z.toNat (by omega) l
  · rw [show (⟨#[]⟩ : ByteArray).data.toList = [] from rfl, contains_nil, Bool.and_false]
theorem rin_z (z : Int) (l : List UInt8) : decide (l ∈ fields (rtxtZ z).data.toList) = inZ z l := by
  unfold rtxtZ inZ
  split
  · rw [decide_eq_decide]; exact ((set_right z.toNat (by omega)).2.2.1 l).symm
  · rw [show (⟨#[]⟩ : ByteArray).data.toList = [] from rfl]
    simp [fields, fieldsFrom]

set_option maxRecDepth 100000 in
set_option maxHeartbeats 1000000 in
/-- **In of any name and any number.** -/
theorem in_calls (s : ByteArray) (z : Int) (w : World) (hs : s.size ≤ 9223372036854775807) (hm : MaxOk w) :
    Calls Tryz.prog 23 #[.string s, .int .i64 z] w fun e w' => e = .returned (.bool (inZ z s.data.toList)) ∧ w' = w := by
  have HZ : Hid (s.data.toList.length = s.size) := size_data s
  have HI : Hid ((tagN s.data.toList && Lib.contains (txtZ z).data.toList (32 :: (s.data.toList ++ [32]))) = inZ z s.data.toList) := in_z z _
  have HX : Hid ((txtZ z).size < 4294967281) := by have := txtZ_size z; show _ < _; omega
  have HTC : Hid (∀ w, Calls Tryz.prog 42 #[.int .i64 z] w fun e w' => e = .returned (.string (txtZ z)) ∧ w' = w) := text_calls z
  generalize txtZ z = T at *
  obtain ⟨m, hm⟩ := hm
  have HM : Hid (w.cell? ⟨Tryz.laysM144_ren.g 1, 0, none⟩ = some (.int .i64 m)) := hm
  clear hm
  go_enter Tryz.func23, Tryz.ntmps23
  cases ht : tagN s.data.toList with
  | false =>
    go_wp2_with (go_at_call 40; refine (tag_calls _ _ hs).mono ?_; rintro e w' ⟨rfl, hw'⟩; have hx' := hw'.symm; subst hx')
    go_ret
    exact ⟨ret_bool (by rw [← HI.out, ht]; rfl), rfl⟩
  | true =>
    have h100 : s.size ≤ 100 := by have := HZ.out; simp [tagN] at ht; omega
    go_wp2_with (first
      | (go_at_call 40; refine (tag_calls _ _ hs).mono ?_; rintro e w' ⟨rfl, hw'⟩; have hx' := hw'.symm; subst hx')
      | (go_at_call 42; refine (HTC.out _).mono ?_; rintro e w' ⟨rfl, hw'⟩; have hx' := hw'.symm; subst hx'))
    refine (contains_calls T _ m w HX.out HM.out).mono ?_
    rintro e w' ⟨rfl, hw'⟩
    have hx' := hw'.symm
    subst hx'
    go_wp2
    go_ret
    exact ⟨ret_bool (by rw [← HI.out, ht]; first | rfl | (rw [sub_data]; rfl)), rfl⟩

end Go.Proofs.YtdkcibafbdmajaaGreatDoor.N
