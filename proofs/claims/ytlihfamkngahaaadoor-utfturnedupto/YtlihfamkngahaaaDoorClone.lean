/- What is proved here: the contract of bytes.Clone at any bytes. -/
import Derived.Lib.SliceRun
import Derived.Test.YtlihfamkngahaaaDoorLend
import Derived.Test.YtlihfamkngahaaaDoorSame
namespace Go.Proofs.YtlihfamkngahaaaDoor.U
open Go.RowKit Go.Shelf

/-- Bytes as values. -/
def bvs (bs : List UInt8) : List Value := bs.map fun c => Value.int .u8 (c.toNat : Int)
theorem bvs_length (bs : List UInt8) : (bvs bs).length = bs.length := by simp [bvs]
theorem bvs_get (bs : List UInt8) (j : Nat) (hj : j < bs.length) : (bvs bs)[j]? = some (.int .u8 (byteAt bs j)) := by simp [bvs, byteAt, hj]
theorem hasB_owns {w : World} {base : Nat} {e : TypeId} {v : Value} {bs : List UInt8} (h : w.ownsRow base e 1 v bs.length (bvs bs)) : HasB w.heap.size w v bs ∧ ∃ a len cap, v = .slice a len cap := by
  have hlt := h.lt
  rcases h.2 with ⟨rfl, h0⟩ | ⟨g, cap, cur, rfl, hb, hg, hcap, _, hsz, ht⟩
  · exact ⟨.inl ⟨List.length_eq_zero_iff.1 h0, none, 0, rfl⟩, _, _, _, rfl⟩
  · refine ⟨?_, _, _, _, rfl⟩
    by_cases hp : bs.length = 0
    · have e0 := List.length_eq_zero_iff.1 hp
      subst e0
      exact .inl ⟨rfl, some ⟨g, 0, none⟩, cap, rfl⟩
    refine .inr ⟨by omega, g, 0, cap, rfl, hcap, lt_of_block hg, fun j hj => ?_⟩
    rw [Nat.zero_add, h.cellAt j (by omega), bvs_get bs j hj]
theorem owns_empty (w : World) (e : TypeId) : (w.alloc (.cells #[] e)).ownsRow w.heap.size e 1 (.slice (some ⟨w.heap.size, 0, none⟩) 0 0) 0 [] :=
  ⟨rfl, .inr ⟨w.heap.size, 0, #[], rfl, Nat.le_refl _, World.alloc_heap_new w _, Nat.le_refl _, Nat.zero_le _, rfl, rfl⟩⟩

set_option maxRecDepth 100000 in
theorem clone_nil (cap : Nat) (w : World) : Calls Tryd.prog 14 #[.slice none 0 cap] w fun e W' => e = .returned (.slice none 0 0) ∧ W' = w := by
  have q23 : ∀ (w : World) (a : Option Addr) (n c n' c' : Nat), (binOp .eql 22 (.slice a n c) (.slice none n' c')).run Tryd.prog w = .ok (.bool a.isNone) w := fun w a n c n' c' => Lib.run_eql_slice_nil w _ _ a n c n' c' Tryd.underlying22
  go_enter Tryd.func14, Tryd.ntmps14
  go_wp2
  go_ret
  exact ⟨rfl, rfl⟩

set_option maxRecDepth 100000 in
set_option maxHeartbeats 1000000 in
theorem clone_some (bs : List UInt8) (ad : Addr) (cap : Nat) (w : World) (hl : (bs.length : Int) ≤ 140737488355328) (hc : ∀ j u, (bvs bs)[j]? = some u → w.cell? (ad.add j) = some u) :
    Calls Tryd.prog 14 #[.slice (some ad) bs.length cap] w fun e W' => ∃ v, e = .returned v ∧ W'.ownsRow w.heap.size 5 1 v bs.length (bvs bs) ∧ Below w.heap.size w W' := by
  obtain ⟨i0, hi, hz0, hz1, hz2⟩ := info_parts infoByte
  have HC : Hid (∀ j u, (bvs bs)[j]? = some u → w.cell? (ad.add j) = some u) := hc
  clear hc
  have q23 : ∀ (w : World) (a : Option Addr) (n c n' c' : Nat), (binOp .eql 22 (.slice a n c) (.slice none n' c')).run Tryd.prog w = .ok (.bool a.isNone) w := fun w a n c n' c' => Lib.run_eql_slice_nil w _ _ a n c n' c' Tryd.underlying22
  go_enter Tryd.func14, Tryd.ntmps14
  go_wp2_with (at_builtin; refine wpList_append_own _ rfl _ _ 22 rfl w.heap.size 5 i0 (.int .u8 0) 1 1 Tryd.underlying22 hi hz0 hz1 hz2 rfl (by decide) _ _ _ rfl (owns_empty w _) ad bs.length cap (bvs bs) rfl (by rw [bvs_length]; omega) (fun j u h => (((Below.refl _ w).alloc (Nat.le_refl _) _).cell (cell_lt (HC.out j u h))).trans (HC.out j u h)) (fun x hx => by simp [bvs] at hx; obtain ⟨c, _, rfl⟩ := hx; rfl) (by unfold maxLen; omega) (by omega) (by simp) ?_; intro v' w4 hown' hgrow _)
  go_ret
  exact ⟨_, rfl, by simpa using hown', ((Below.refl _ w).alloc (Nat.le_refl _) _).grown hgrow (by simp) (fun k hk => ((owns_empty w 5).lt k hk).1)⟩

/-- **bytes.Clone of any bytes.** -/
theorem clone_calls (v : Value) (bs : List UInt8) (n₀ : Nat) (w : World) (hl : bs.length ≤ 140737488355328) (hH : HasB n₀ w v bs) :
    Calls Tryd.prog 14 #[v] w fun e W' => ∃ a len cap, e = .returned (.slice a len cap) ∧ HasB W'.heap.size W' (.slice a len cap) bs ∧ Below w.heap.size w W' := by
  have fin : ∀ e W', (∃ v, e = Ending.returned v ∧ W'.ownsRow w.heap.size 5 1 v bs.length (bvs bs) ∧ Below w.heap.size w W') → ∃ a len cap, e = .returned (.slice a len cap) ∧ HasB W'.heap.size W' (.slice a len cap) bs ∧ Below w.heap.size w W' := by
    rintro e W' ⟨v, rfl, ho, hb⟩
    obtain ⟨hB, a, len, cap, rfl⟩ := hasB_owns ho
    exact ⟨a, len, cap, rfl, hB, hb⟩
  rcases hH with ⟨rfl, a, cap, rfl⟩ | ⟨h0, b, off, cap, rfl, hcap, _, hx⟩
  · cases a with
    | none => exact (clone_nil cap w).mono fun e W' ⟨he, hw⟩ => ⟨none, 0, 0, he, .inl ⟨rfl, none, 0, rfl⟩, by rw [hw]; exact Below.refl _ _⟩
    | some ad => exact (clone_some [] ad cap w (by simp) (fun j u h => by simp [bvs] at h)).mono fin
  · refine (clone_some bs ⟨b, off, none⟩ cap w (by omega) (fun j u h => ?_)).mono fin
    have hj : j < bs.length := by have := (List.getElem?_eq_some_iff.1 h).1; simpa [bvs] using this
    have ea : (⟨b, off, none⟩ : Addr).add j = ⟨b, off + j, none⟩ := by unfold Addr.add; split <;> simp_all
    rw [bvs_get bs j hj] at h; cases h
    rw [ea]; exact hx j hj

end Go.Proofs.YtlihfamkngahaaaDoor.U
