/- What is proved here: contracts of utf.Tail and utf.Width. -/
import Derived.Test.YtlihfamkngahaaaDoorIter
import Derived.Test.YtlihfamkngahaaaDoorSame
namespace Go.Proofs.YtlihfamkngahaaaDoor.U
open Go.RowKit Go.Shelf

/-- How many bytes at the end may be a rune's beginning, looked for from a place on. -/
def tailF (bs : List UInt8) : Nat → Nat → Nat
  | 0, _ => 0
  | f + 1, k => if k < bs.length then (if nextOpen (bs.drop k) = true then nextN (bs.drop k) else tailF bs f (k + 1)) else 0
def tailN (bs : List UInt8) : Nat := tailF bs 3 (bs.length - 3)
theorem tailF_on {bs : List UInt8} {k m : Nat} (h : k < bs.length) (ho : nextOpen (bs.drop k) = false) (hm : bs.length ≤ k + m) : tailF bs m k = tailF bs (m - 1) (k + 1) := by
  obtain ⟨f, rfl⟩ : ∃ f, m = f + 1 := ⟨m - 1, by omega⟩
  conv => lhs; unfold tailF
  rw [if_pos h, if_neg (by simp [ho])]; rfl
theorem tailF_yes {bs : List UInt8} {k m : Nat} (h : k < bs.length) (ho : nextOpen (bs.drop k) = true) (hm : bs.length ≤ k + m) : tailF bs m k = nextN (bs.drop k) := by
  obtain ⟨f, rfl⟩ : ∃ f, m = f + 1 := ⟨m - 1, by omega⟩
  unfold tailF
  rw [if_pos h, if_pos ho]
theorem tailF_end {bs : List UInt8} {k m : Nat} (h : ¬ k < bs.length) : tailF bs m k = 0 := by
  cases m with
  | zero => rfl
  | succ m => unfold tailF; rw [if_neg h]
theorem ret_i64 {a b : Int} (h : a = b) : Ending.returned (.int .i64 a) = .returned (.int .i64 b) := by rw [h]

set_option maxRecDepth 100000 in
set_option maxHeartbeats 1000000 in
theorem tail_pos (bs : List UInt8) (b off cap : Nat) (w : World) (h0 : 0 < bs.length) (hl : bs.length ≤ 140737488355328) (hcap : bs.length ≤ cap) (hT : Lib.Utf8Tabs (Tryd.lays32_ren.g 2) (Tryd.lays32_ren.g 3) w)
    (hc : ∀ j, j < bs.length → w.cell? ⟨b, off + j, none⟩ = some (.int .u8 (byteAt bs j))) :
    Calls Tryd.prog 19 #[.slice (some ⟨b, off, none⟩) bs.length cap] w fun e w' => e = .returned (.int .i64 (tailN bs)) ∧ Below w.heap.size w w' := by
  have HC : Hid (∀ j, j < bs.length → w.cell? ⟨b, off + j, none⟩ = some (.int .u8 (byteAt bs j))) := hc
  have HT : Hid (Lib.Utf8Tabs (Tryd.lays32_ren.g 2) (Tryd.lays32_ren.g 3) w) := hT
  clear hc hT
  go_enter Tryd.func19, Tryd.ntmps19
  go_wp2
  go_loopw [3] (fun i wr => ∃ (k m : Nat), i = .int .i64 k ∧ k ≤ bs.length ∧ bs.length ≤ k + m ∧ Hid (tailN bs = tailF bs m k) ∧ Below w.heap.size w wr) (fun i _ => bs.length - (intOf i).toNat)
  case atStart => exact ⟨bs.length - 3, 3, by congr 1; omega, by omega, by omega, rfl, Below.refl _ _⟩
  case round =>
    obtain ⟨k, m, rfl, hk, hm, hs, hB⟩ := hrel
    by_cases hlt : k < bs.length
    · have hT' : Hid (Lib.Utf8Tabs (Tryd.lays32_ren.g 2) (Tryd.lays32_ren.g 3) wr) := tabs_below HT.out hB
      have hc' : Hid (∀ j, j < bs.length → wr.cell? ⟨b, off + j, none⟩ = some (.int .u8 (byteAt bs j))) := fun j h => (hB.cell (p := ⟨b, off + j, none⟩) (cell_lt (HC.out j h))).trans (HC.out j h)
      by_cases ho : nextOpen (bs.drop k) = true
      · have hS : Hid (tailN bs = nextN (bs.drop k)) := hs.out.trans (tailF_yes hlt ho hm)
        go_wp2_with (go_at_call 17; refine (next_at bs b off cap k _ hlt hl hcap hT'.out hc'.out).mono ?_; rintro e w1 ⟨rfl, hb1⟩)
        go_ret
        exact ⟨ret_i64 (by rw [hS.out]), (hB.trans (hb1.mono hB.size)).alloc (by have := hB.size; have := hb1.size; omega) _⟩
      · have ho' : nextOpen (bs.drop k) = false := by simpa using ho
        have hS : Hid (tailN bs = tailF bs (m - 1) (k + 1)) := hs.out.trans (tailF_on hlt ho' hm)
        go_wp2_with (go_at_call 17; refine (next_at bs b off cap k _ hlt hl hcap hT'.out hc'.out).mono ?_; rintro e w1 ⟨rfl, hb1⟩)
        go_roundw
        case rel => exact ⟨k + 1, m - 1, by go_num, by omega, by omega, hS, (hB.trans (hb1.mono hB.size)).alloc (by have := hB.size; have := hb1.size; omega) _⟩
        case measure => simp [intOf]; omega
    · have hS : Hid (tailN bs = 0) := hs.out.trans (tailF_end hlt)
      go_wp2
      go_ret
      exact ⟨ret_i64 (by rw [hS.out]; rfl), hB⟩

set_option maxRecDepth 100000 in
set_option maxHeartbeats 1000000 in
theorem tail_zero (a : Option Addr) (cap : Nat) (w : World) :
    Calls Tryd.prog 19 #[.slice a 0 cap] w fun e w' => e = .returned (.int .i64 0) ∧ Below w.heap.size w w' := by
  go_enter Tryd.func19, Tryd.ntmps19
  go_wp2
  go_loop [3] (fun i => i = .int .i64 0) (fun _ => 0)
  case atStart => rfl
  case round =>
    subst hrel
    go_wp2
    go_ret
    exact ⟨rfl, Below.refl _ _⟩

/-- **utf.Tail of any bytes.** -/
theorem tail_calls (v : Value) (bs : List UInt8) (n₀ : Nat) (w : World) (hl : bs.length ≤ 140737488355328) (hH : HasB n₀ w v bs) (hT : Lib.Utf8Tabs (Tryd.lays32_ren.g 2) (Tryd.lays32_ren.g 3) w) :
    Calls Tryd.prog 19 #[v] w fun e w' => e = .returned (.int .i64 (tailN bs)) ∧ Below w.heap.size w w' := by
  rcases hH with ⟨rfl, a, cap, rfl⟩ | ⟨h0, b, off, cap, rfl, hcap, _, hx⟩
  · exact tail_zero a cap w
  · exact tail_pos bs b off cap w h0 hl hcap hT hx

set_option maxRecDepth 100000 in
/-- **utf.Width of any rune.** -/
theorem width_calls (r : Int) (w : World) :
    Calls Tryd.prog 20 #[.int .i32 r] w fun e w' => e = .returned (.int .i64 (Utf8.encode r).size) ∧ w' = w := by
  go_enter Tryd.func20, Tryd.ntmps20
  go_wp2
  go_ret
  exact ⟨rfl, rfl⟩
theorem width_max (w : World) :
    Calls Tryd.prog 20 #[.int .i32 1114111] w fun e w' => e = .returned (.int .i64 4) ∧ w' = w := by
  have h := width_calls 1114111 w
  rw [show (Utf8.encode 1114111).size = 4 by decide +kernel] at h
  exact h

end Go.Proofs.YtlihfamkngahaaaDoor.U
