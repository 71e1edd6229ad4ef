/- What is proved here: bytes.Clone and utf.All of any bytes, with the word that the copy lies in new memory. -/
import Derived.Test.YtjhoaepokkaoeaaDoorClone
namespace Go.Proofs.YtjhoaepokkaoeaaDoor.U
open Go.RowKit Go.Shelf

theorem cloneO_calls (v : Value) (bs : List UInt8) (n₀ : Nat) (w : World) (hl : bs.length ≤ 140737488355328) (hH : HasB n₀ w v bs) :
    Calls Tryd.prog 36 #[v] w fun e W' => ∃ a len cap, e = .returned (.slice a len cap) ∧ W'.ownsRow w.heap.size 5 1 (.slice a len cap) bs.length (bvs bs) ∧ Below w.heap.size w W' := by
  have fin : ∀ e W', (∃ v, e = Ending.returned v ∧ W'.ownsRow w.heap.size 5 1 v bs.length (bvs bs) ∧ Below w.heap.size w W') → ∃ a len cap, e = .returned (.slice a len cap) ∧ W'.ownsRow w.heap.size 5 1 (.slice a len cap) bs.length (bvs bs) ∧ Below w.heap.size w W' := by
    rintro e W' ⟨v, rfl, ho, hb⟩
    obtain ⟨hB, a, len, cap, rfl⟩ := hasB_owns ho
    exact ⟨a, len, cap, rfl, ho, hb⟩
  rcases hH with ⟨rfl, a, cap, rfl⟩ | ⟨h0, b, off, cap, rfl, hcap, _, hx⟩
  · cases a with
    | none => exact (clone_nil cap w).mono fun e W' ⟨he, hw⟩ => ⟨none, 0, 0, he, World.ownsRow_nil _ _ _ _, by rw [hw]; exact Below.refl _ _⟩
    | some ad => exact (clone_some [] ad cap w (by simp) (fun j u h => by simp [bvs] at h)).mono fin
  · refine (clone_some bs ⟨b, off, none⟩ cap w (by omega) (fun j u h => ?_)).mono fin
    have hj : j < bs.length := by have := (List.getElem?_eq_some_iff.1 h).1; simpa [bvs] using this
    have ea : (⟨b, off, none⟩ : Addr).add j = ⟨b, off + j, none⟩ := by unfold Addr.add; split <;> simp_all
    rw [ea, hx j hj, ← bvs_get bs j hj, h]

set_option maxRecDepth 100000 in
/-- **utf.All(b)**: the iterator captures a box that holds a copy of the bytes, in new memory. -/
theorem allO_calls (v : Value) (bs : List UInt8) (n₀ : Nat) (w : World) (hl : bs.length ≤ 140737488355328) (hH : HasB n₀ w v bs) :
    Calls Tryd.prog 64 #[v] w fun e W' => ∃ (B : Nat) (u : Value), e = .returned (.func (.func 53) #[] #[.pointer (some ⟨B, 0, none⟩)]) ∧ W'.cell? ⟨B, 0, none⟩ = some u ∧ w.heap.size ≤ B ∧ W'.ownsRow w.heap.size 5 1 u bs.length (bvs bs) ∧ Below w.heap.size w W' := by
  have CC := cloneO_calls v bs n₀ w hl hH
  have HCC : Hid (Calls Tryd.prog 36 #[v] w fun e W' => ∃ a len cap, e = .returned (.slice a len cap) ∧ W'.ownsRow w.heap.size 5 1 (.slice a len cap) bs.length (bvs bs) ∧ Below w.heap.size w W') := CC
  clear CC hH
  go_enter Tryd.func64, Tryd.ntmps64
  go_wp2_with (first | (go_at_call 36; refine HCC.out.mono ?_; rintro e w1 ⟨a, len, cap, rfl, hB, hb⟩) | (go_at_call 40; refine ((callsIn_wide (n := 1)).1 (walk_in 1 _ _ _ _)).mono ?_; rintro e w2 ⟨rfl, rfl⟩))
  go_ret
  have hb2 := (Below.refl w1.heap.size w1).alloc (Nat.le_refl _) (.cells #[.slice a len cap] 22)
  exact ⟨w1.heap.size, .slice a len cap, rfl, by simp, hb.size, hB.alloc _, hb.trans (hb2.mono hb.size)⟩

end Go.Proofs.YtjhoaepokkaoeaaDoor.U
