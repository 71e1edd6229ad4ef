/- What is proved here: plan and nothing of the statements of layer 16. -/
import Derived.Test.YtdkcibafbdmajaaNeLaw
namespace Go.Proofs.Ytdkcibafbdmajaa.E
open Go.RowKit Go.Shelf Go.WideMaps Go.Maps Go.Proofs.Ytdkcibafbdmajaa.N Go.Proofs.Ytdkcibafbdmajaa.C

set_option maxRecDepth 100000 in
set_option maxHeartbeats 4000000 in
theorem lplan_calls (z z' : Int) (d d' : Bool) (L L' : List Txt) (a a' : Option Addr) (c c' : Nat) (w : World) (hn : L.length ≤ 1000000000000) (hn' : L'.length ≤ 1000000000000) (h : TextsAt w a L) (h' : TextsAt w a' L') :
    Calls Try.prog 20 #[.agg #[.int .i64 z, .slice a L.length c, .bool d], .agg #[.int .i64 z', .slice a' L'.length c', .bool d']] w fun e w' => e = .returned (.bool (decide (z = z') && (decide (d = d') && decide (L = L')))) ∧ Below w.heap.size w w' := by
  obtain ⟨W1, hW1⟩ : ∃ W, w.alloc (.cells #[.int .i64 z, .slice a L.length c, .bool d] 27) = W := ⟨_, rfl⟩
  obtain ⟨W2, hW2⟩ : ∃ W, W1.alloc (.cells #[.int .i64 z', .slice a' L'.length c', .bool d'] 27) = W := ⟨_, rfl⟩
  have z1 : W1.heap.size = w.heap.size + 1 := by rw [← hW1]; simp
  have b1 : Below w.heap.size w W1 := by rw [← hW1]; exact (Below.refl _ w).alloc (Nat.le_refl _) _
  have b2 : Below w.heap.size w W2 := by rw [← hW2]; exact b1.alloc b1.size _
  have q1 : Blk W2 w.heap.size #[.int .i64 z, .slice a L.length c, .bool d] 27 := by
    have h0 : Blk W1 w.heap.size #[.int .i64 z, .slice a L.length c, .bool d] 27 := by rw [← hW1]; exact Blk.new _ _ _
    rw [← hW2]; exact h0.below ((Below.refl _ _).alloc (Nat.le_refl _) _)
  have q2 : Blk W2 (w.heap.size + 1) #[.int .i64 z', .slice a' L'.length c', .bool d'] 27 := by rw [← hW2, ← z1]; exact Blk.new _ _ _
  have HW : Hid ((w.alloc (.cells #[.int .i64 z, .slice a L.length c, .bool d] 27)).alloc (.cells #[.int .i64 z', .slice a' L'.length c', .bool d'] 27) = W2) := by show _ = _; rw [← hW2, ← hW1]
  have HS := hid_of (same_calls' L L' a a' c c' W2 hn hn' (h.below b2) (h'.below b2))
  have HB2 := hid_of b2
  have c0 : W2.cell? ⟨w.heap.size, 0, none⟩ = some (.int .i64 z) := q1.cell 0
  have c1 : W2.cell? ⟨w.heap.size, 1, none⟩ = some (.slice a L.length c) := q1.cell 1
  have c2 : W2.cell? ⟨w.heap.size, 2, none⟩ = some (.bool d) := q1.cell 2
  have e0 : W2.cell? ⟨w.heap.size + 1, 0, none⟩ = some (.int .i64 z') := q2.cell 0
  have e1 : W2.cell? ⟨w.heap.size + 1, 1, none⟩ = some (.slice a' L'.length c') := q2.cell 1
  have e2 : W2.cell? ⟨w.heap.size + 1, 2, none⟩ = some (.bool d') := q2.cell 2
  have hsh : Hid (decide (L = L') = decide (L = L')) := rfl
  generalize decide (L = L') = eq at *
  clear h h' q1 q2 b1 b2 hW1 hW2 z1 hn hn' hsh
  by_cases hz : z = z'
  · subst hz
    cases d <;> cases d'
    · go_enter Try.func20, Try.ntmps20
      go_upto_region 1 with fail
      rw [HW.out]
      clear HW
      go_wp2_with (go_at_call 17; refine HS.out.mono ?_; rintro e w3 ⟨rfl, hb3⟩)
      go_ret
      exact ⟨by simp, HB2.out.trans (hb3.mono HB2.out.size)⟩
    · go_enter Try.func20, Try.ntmps20
      go_upto_region 1 with fail
      rw [HW.out]
      clear HW
      go_wp2
      go_ret
      exact ⟨by simp, HB2.out⟩
    · go_enter Try.func20, Try.ntmps20
      go_upto_region 1 with fail
      rw [HW.out]
      clear HW
      go_wp2
      go_ret
      exact ⟨by simp, HB2.out⟩
    · go_enter Try.func20, Try.ntmps20
      go_upto_region 1 with fail
      rw [HW.out]
      clear HW
      go_wp2_with (go_at_call 17; refine HS.out.mono ?_; rintro e w3 ⟨rfl, hb3⟩)
      go_ret
      exact ⟨by simp, HB2.out.trans (hb3.mono HB2.out.size)⟩
  · have hzz : (z == z') = false := by rw [beq_eq_false_iff_ne]; exact hz
    rw [decide_eq_false hz]
    clear hz
    go_enter Try.func20, Try.ntmps20
    go_upto_region 1 with fail
    rw [HW.out]
    clear HW
    go_wp2
    go_ret
    exact ⟨by simp, HB2.out⟩
def nothB (z : Int) (d : Bool) (L : List Txt) : Bool := decide (z = 0) && (decide (d = false) && decide (L = []))
set_option maxRecDepth 100000 in
set_option maxHeartbeats 4000000 in
theorem lnothing_calls (z : Int) (d : Bool) (L : List Txt) (a : Option Addr) (c : Nat) (w : World) (hn : L.length ≤ 1000000000000) (h : TextsAt w a L) :
    Calls Try.prog 18 #[.agg #[.int .i64 z, .slice a L.length c, .bool d]] w fun e w' => e = .returned (.bool (nothB z d L)) ∧ Below w.heap.size w w' := by
  have b1 : Below w.heap.size w (w.alloc (.cells #[.int .i64 z, .slice a L.length c, .bool d] 27)) := (Below.refl _ w).alloc (Nat.le_refl _) _
  have HP : Hid (Calls Try.prog 20 #[.agg #[.int .i64 z, .slice a L.length c, .bool d], .agg #[.int .i64 0, .slice none 0 0, .bool false]] (w.alloc (.cells #[.int .i64 z, .slice a L.length c, .bool d] 27)) fun e w' => e = .returned (.bool (nothB z d L)) ∧ Below (w.alloc (.cells #[.int .i64 z, .slice a L.length c, .bool d] 27)).heap.size (w.alloc (.cells #[.int .i64 z, .slice a L.length c, .bool d] 27)) w') := lplan_calls z 0 d false L [] a none c 0 _ hn (by simp) (h.below b1) (fun j hj => absurd hj (by simp))
  have HB1 := hid_of b1
  clear b1 h hn
  generalize nothB z d L = nb at *
  go_enter Try.func18, Try.ntmps18
  go_wp2_with (go_at_call 20; refine HP.out.mono ?_; rintro e w3 ⟨rfl, hb3⟩)
  go_ret
  exact ⟨rfl, HB1.out.trans (hb3.mono HB1.out.size)⟩
end Go.Proofs.Ytdkcibafbdmajaa.E
