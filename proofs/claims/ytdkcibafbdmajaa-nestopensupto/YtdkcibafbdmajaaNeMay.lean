/- What is proved here: May. -/
import Derived.Test.YtdkcibafbdmajaaNeCalls
namespace Go.Proofs.Ytdkcibafbdmajaa.E
open Go.RowKit Go.Shelf Go.WideMaps Go.Maps Go.Proofs.Ytdkcibafbdmajaa.N Go.Proofs.Ytdkcibafbdmajaa.C

def mayB (S : List Txt) (x : Txt) : Bool := decide (openCode S x = 0) && (decide (openZ S x = 0) && decide ((openI S x).length = 0))
set_option maxRecDepth 100000 in
set_option maxHeartbeats 4000000 in
/-- **May.** -/
theorem May_calls (w : World) (hm : MaxOk w) (a : Option Addr) (S : List Txt) (c : Nat) (h : StackAt w a S c) (x : Txt) (hx : x.length ≤ 10000000000) :
    Calls Try.prog 12 #[.slice a S.length c, .string ⟨x.toArray⟩] w fun e w' => e = .returned (.tuple #[.bool (mayB S x), .int .i64 (openCode S x)]) ∧ Below w.heap.size w w' := by
  have HO := hid_of (Open_calls w hm a S c h x hx)
  have HMB : Hid (mayB S x = (decide (openCode S x = 0) && (decide (openZ S x = 0) && decide ((openI S x).length = 0)))) := rfl
  clear hm h hx
  have HNB : Hid (∀ vi ci W, Calls Try.prog 37 #[.agg #[.int .i64 (openZ S x), .slice vi (openI S x).length ci, .bool false]] W fun e w' => e = .returned (.bool (decide (openZ S x = 0) && decide ((openI S x).length = 0))) ∧ Below W.heap.size W w') := fun vi ci W => nothing_calls _ vi _ ci false W
  generalize (decide (openZ S x = 0) && decide ((openI S x).length = 0)) = nb at *
  generalize openCode S x = oc at *
  generalize openZ S x = oz at *
  generalize openI S x = oi at *
  go_enter Try.func12, Try.ntmps12
  go_wp2_with fail
  (go_at_call 11; refine HO.out.mono ?_; rintro e w1 ⟨v1, c1, rfl, ho1, hb1⟩)
  go_upto_region 2 with fail
  obtain ⟨W2, hW2⟩ : ∃ W, w1.alloc (.cells #[.int .i64 oz, .slice v1 oi.length c1, .bool false] 27) = W := ⟨_, rfl⟩
  have b2 : Below w1.heap.size w1 W2 := by rw [← hW2]; exact (Below.refl _ _).alloc (Nat.le_refl _) _
  have q2 : Blk W2 w1.heap.size #[.int .i64 oz, .slice v1 oi.length c1, .bool false] 27 := by rw [← hW2]; exact Blk.new _ _ _
  rw [hW2]
  have HB2 : Hid (Below w.heap.size w W2) := hb1.trans (b2.mono hb1.size)
  have c0 : W2.cell? ⟨w1.heap.size, 0, none⟩ = some (.int .i64 oz) := q2.cell 0
  have d1 : W2.cell? ⟨w1.heap.size, 1, none⟩ = some (.slice v1 oi.length c1) := q2.cell 1
  have d2 : W2.cell? ⟨w1.heap.size, 2, none⟩ = some (.bool false) := q2.cell 2
  clear hW2 b2 q2 ho1 hb1
  by_cases h0 : oc = 0
  · subst h0
    rw [decide_eq_true rfl, Bool.true_and] at HMB
    go_wp2_with (go_at_call 37; refine (HNB.out _ _ _).mono ?_; rintro e w3 ⟨rfl, hb3⟩)
    go_ret2
    exact ⟨by rw [HMB.out]; rfl, HB2.out.trans (hb3.mono HB2.out.size)⟩
  · have he : (oc == 0) = false := by rw [beq_eq_false_iff_ne]; exact h0
    rw [decide_eq_false h0, Bool.false_and] at HMB
    clear h0
    go_wp2_with fail
    go_ret2
    exact ⟨by rw [HMB.out]; rfl, HB2.out⟩
end Go.Proofs.Ytdkcibafbdmajaa.E
