/- What is proved here: contracts of sieveref01.Same, utf.Tail and utf.Width. -/
import Derived.BigQuiet
import Derived.Deep.QuietTactic
import Derived.WalkSmall
import Derived.Test.YtlihfamkngahaaaDoorNext
namespace Go.Proofs.YtlihfamkngahaaaDoor.U
open Go.RowKit Go.Shelf

/-- The number at a place (0 beyond the end). -/
def zAt (zs : List Int) (k : Nat) : Int := zs[k]?.getD 0
theorem zAt_ext {xs ys : List Int} (hl : xs.length = ys.length) (h : ∀ j, j < xs.length → zAt xs j = zAt ys j) : xs = ys := by
  apply List.ext_getElem hl
  intro i h1 h2
  have := h i h1
  simpa [zAt, h1, h2] using this
/-- The numbers that a slice value holds in memory. -/
def HasI (q : IntKind) (w : World) (v : Value) (zs : List Int) : Prop :=
  (zs = [] ∧ ∃ a cap, v = .slice a 0 cap) ∨ (0 < zs.length ∧ ∃ b off cap, v = .slice (some ⟨b, off, none⟩) zs.length cap ∧ zs.length ≤ cap ∧ ∀ j, j < zs.length → w.cell? ⟨b, off + j, none⟩ = some (.int q (zAt zs j)))
theorem HasI.below {q : IntKind} {A B : World} {v : Value} {zs : List Int} (h : Below A.heap.size A B) (hl : HasI q A v zs) : HasI q B v zs := by
  rcases hl with hl | ⟨hp, b, off, cap, hv, hc, hx⟩
  · exact .inl hl
  · exact .inr ⟨hp, b, off, cap, hv, hc, fun j hj => (h.cell (p := ⟨b, off + j, none⟩) (cell_lt (hx j hj))).trans (hx j hj)⟩

set_option maxRecDepth 100000 in
set_option maxHeartbeats 1000000 in
theorem same_ne (a a' : Option Addr) (n n' cap cap' : Nat) (w : World) (h : n ≠ n') :
    Calls Tryd.prog 10 #[.slice a n cap, .slice a' n' cap'] w fun e w' => e = .returned (.bool false) ∧ Below w.heap.size w w' := by
  have hne : ((n : Int) != (n' : Int)) = true := by rw [bne_iff_ne]; omega
  go_enter Tryd.func10, Tryd.ntmps10
  go_wp2
  go_ret
  exact ⟨rfl, Below.refl _ _⟩

set_option maxRecDepth 100000 in
set_option maxHeartbeats 1000000 in
theorem same_zero (a a' : Option Addr) (cap cap' : Nat) (w : World) :
    Calls Tryd.prog 10 #[.slice a 0 cap, .slice a' 0 cap'] w fun e w' => e = .returned (.bool true) ∧ Below w.heap.size w w' := by
  go_enter Tryd.func10, Tryd.ntmps10
  go_wp2
  go_loop [13] (fun i => i = .int .i64 0) (fun _ => 0)
  case atStart => rfl
  case round =>
    subst hrel
    go_wp2
    go_ret
    exact ⟨rfl, Below.refl _ _⟩

set_option maxRecDepth 100000 in
set_option maxHeartbeats 1000000 in
theorem same_pos (b off b' off' cap cap' : Nat) (xs ys : List Int) (w : World) (hl : xs.length = ys.length) (hm : xs.length ≤ 140737488355328)
    (hx : ∀ j, j < xs.length → w.cell? ⟨b, off + j, none⟩ = some (.int .i32 (zAt xs j))) (hy : ∀ j, j < ys.length → w.cell? ⟨b', off' + j, none⟩ = some (.int .i32 (zAt ys j))) :
    Calls Tryd.prog 10 #[.slice (some ⟨b, off, none⟩) xs.length cap, .slice (some ⟨b', off', none⟩) ys.length cap'] w fun e w' => e = .returned (.bool (decide (xs = ys))) ∧ Below w.heap.size w w' := by
  have HX : Hid (∀ j, j < xs.length → w.cell? ⟨b, off + j, none⟩ = some (.int .i32 (zAt xs j))) := hx
  have HY : Hid (∀ j, j < ys.length → w.cell? ⟨b', off' + j, none⟩ = some (.int .i32 (zAt ys j))) := hy
  have HL : Hid (xs.length = ys.length) := hl
  rw [← hl]
  clear hx hy hl
  generalize hn : xs.length = n at *
  have HN : Hid (xs.length = n) := hn
  clear hn
  go_enter Tryd.func10, Tryd.ntmps10
  go_wp2
  go_loopw [13] (fun i wr => ∃ k : Nat, k ≤ n ∧ i = .int .i64 k ∧ Below w.heap.size w wr ∧ Hid (∀ j, j < k → zAt xs j = zAt ys j)) (fun i _ => n - (intOf i).toNat)
  case atStart => exact ⟨0, by omega, rfl, Below.refl _ _, fun j hj => by omega⟩
  case round =>
    obtain ⟨k, hk, rfl, hB, hs⟩ := hrel
    by_cases hlt : k < n
    · have c1 : wr.cell? ⟨b, off + k, none⟩ = some (.int .i32 (zAt xs k)) := (hB.cell (p := ⟨b, off + k, none⟩) (cell_lt (HX.out k hlt))).trans (HX.out k hlt)
      have hky : k < ys.length := by have := HL.out; have := HN.out; omega
      have c2 : wr.cell? ⟨b', off' + k, none⟩ = some (.int .i32 (zAt ys k)) := (hB.cell (p := ⟨b', off' + k, none⟩) (cell_lt (HY.out k hky))).trans (HY.out k hky)
      by_cases he : zAt xs k = zAt ys k
      · have hd : (zAt xs k != zAt ys k) = false := by simp [he]
        have HE : Hid (zAt xs k = zAt ys k) := he
        clear he
        go_wp2
        go_quiet (fail)
        go_wp2
        go_roundw
        case rel => exact ⟨k + 1, by omega, by go_num, below_drewN hB _, fun j hj => by by_cases e : j = k
                                                                                        · subst e; exact HE.out
                                                                                        · exact hs.out j (by omega)⟩
        case measure => simp [intOf]; omega
      · have hd : (zAt xs k != zAt ys k) = true := by simp [he]
        have HE : Hid (zAt xs k ≠ zAt ys k) := he
        clear he
        go_wp2
        go_quiet (fail)
        go_wp2
        go_ret
        refine ⟨?_, below_drewN hB _⟩
        have hne : xs ≠ ys := fun e => HE.out (by rw [e])
        simp [hne]
    · obtain rfl : k = n := by omega
      go_wp2
      go_ret
      refine ⟨?_, hB⟩
      have he : xs = ys := zAt_ext (HN.out.trans HL.out) (fun j hj => hs.out j (by have e := HN.out; rw [e] at hj; exact hj))
      simp [he]

/-- **Same of any two lists of runes.** -/
theorem same_calls (v v' : Value) (xs ys : List Int) (w : World) (hm : xs.length ≤ 140737488355328) (hx : HasI .i32 w v xs) (hy : HasI .i32 w v' ys) :
    Calls Tryd.prog 10 #[v, v'] w fun e w' => e = .returned (.bool (decide (xs = ys))) ∧ Below w.heap.size w w' := by
  rcases hx with ⟨rfl, a, cap, rfl⟩ | ⟨hp, b, off, cap, rfl, hc, hx⟩
  · rcases hy with ⟨rfl, a', cap', rfl⟩ | ⟨hp', b', off', cap', rfl, hc', hy⟩
    · exact same_zero a a' cap cap' w
    · have hd : decide (([] : List Int) = ys) = false := by simp; exact List.length_pos_iff.1 hp'
      rw [hd]
      exact same_ne a (some ⟨b', off', none⟩) 0 ys.length cap cap' w (by omega)
  · rcases hy with ⟨rfl, a', cap', rfl⟩ | ⟨hp', b', off', cap', rfl, hc', hy⟩
    · have hd : decide (xs = []) = false := by simp; exact List.length_pos_iff.1 hp
      rw [hd]
      exact same_ne (some ⟨b, off, none⟩) a' xs.length 0 cap cap' w (by omega)
    · by_cases hl : xs.length = ys.length
      · exact same_pos b off b' off' cap cap' xs ys w hl hm hx hy
      · have hd : decide (xs = ys) = false := by simp; exact fun e => hl (by rw [e])
        rw [hd]
        exact same_ne (some ⟨b, off, none⟩) (some ⟨b', off', none⟩) xs.length ys.length cap cap' w hl

/-- What is owned is held. -/
theorem hasI_owns {q : IntKind} {w : World} {base : Nat} {e : TypeId} {v : Value} {zs : List Int} (h : w.ownsRow base e 1 v zs.length (zs.map (Value.int q))) : HasI q w v zs := by
  rcases h.2 with ⟨rfl, h0⟩ | ⟨g, cap, cur, rfl, hb, hg, hcap, _, hsz, ht⟩
  · exact .inl ⟨List.length_eq_zero_iff.1 h0, none, 0, rfl⟩
  · by_cases hp : zs.length = 0
    · have e0 := List.length_eq_zero_iff.1 hp
      subst e0
      exact .inl ⟨rfl, some ⟨g, 0, none⟩, cap, rfl⟩
    refine .inr ⟨by omega, g, 0, cap, rfl, hcap, fun j hj => ?_⟩
    rw [Nat.zero_add, h.cellAt j (by omega)]
    simp [zAt, hj]

end Go.Proofs.YtlihfamkngahaaaDoor.U
