/- What is proved here: the document's Mend. -/
import Derived.Test.YtmlklbbfmggbfaaDoorMend
import Derived.Test.YtmlklbbfmggbfaaDoorMathB
namespace Go.Proofs.YtmlklbbfmggbfaaDoor.R
open Go.RowKit Go.Shelf Go.Proofs.YtmlklbbfmggbfaaDoor.U

set_option maxRecDepth 100000 in
set_option maxHeartbeats 2000000 in
/-- **sieveref01.Mend of any text.** -/
theorem rmend_calls (bs : List UInt8) (w : World) (hl : bs.length ≤ 274877906944) :
    Calls Tryd.prog 29 #[.string ⟨bs.toArray⟩] w fun e W' => e = .returned (.string ⟨(encs (runesI bs)).toArray⟩) ∧ Below w.heap.size w W' := by
  have hcv := Lib.run_convert_string_bytes (P := Tryd.prog) w 9 34 5 ⟨bs.toArray⟩ Tryd.underlying9 Tryd.underlying34 Tryd.underlying5
  rw [byteArr_size] at hcv
  have hbw := bytesWorld_below w 5 ⟨bs.toArray⟩
  have RC : Hid (∀ cap, bs.length ≤ cap → Calls Tryd.prog 15 #[.slice (some ⟨w.heap.size, 0, none⟩) bs.length cap] (Lib.bytesWorld w 5 ⟨bs.toArray⟩) fun e W' => ∃ a cap, e = .returned (.slice a (runesI bs).length cap) ∧ W'.ownsRow (Lib.bytesWorld w 5 ⟨bs.toArray⟩).heap.size 21 1 (.slice a (runesI bs).length cap) (runesI bs).length ((runesI bs).map (Value.int .i32)) ∧ Below (Lib.bytesWorld w 5 ⟨bs.toArray⟩).heap.size (Lib.bytesWorld w 5 ⟨bs.toArray⟩) W') :=
    fun cap hcap => rrunes_calls _ bs (w.heap.size + 1) _ (by omega) (RowB.hasB0 rfl (bytesWorld_row w 5 bs) hcap _ (Nat.lt_succ_self _))
  have HBW : Hid (Below w.heap.size w (Lib.bytesWorld w 5 ⟨bs.toArray⟩)) := hbw
  have hrle : (runesI bs).length ≤ bs.length := by rw [runesI_length]; exact pcs_length bs
  clear hbw
  go_enter Tryd.func29, Tryd.ntmps29
  go_wp2_with (first
    | (go_at_call 15
       refine (RC.out _ (grownCap_ge _ _ _ _)).mono ?_
       rintro e w2 ⟨al, cl, rfl, hown2, hb2⟩
       have hI : HasI .i32 w2 _ (runesI bs) := hasI_owns (e := 21) hown2)
    | (go_at_call 45
       refine (text_calls _ _ _ (by omega) hI).mono ?_
       rintro e w3 ⟨rfl, hb3⟩))
  go_ret
  exact ⟨rfl, (HBW.out.trans (hb2.mono HBW.out.size)).trans (hb3.mono (by have := HBW.out.size; have := hb2.size; omega))⟩
end Go.Proofs.YtmlklbbfmggbfaaDoor.R
