/- What is proved here: contracts of the stream's methods where it is none, was not made, or is over; and of Place. -/
import Derived.Test.YtjhoaepokkaoeaaDoorILives
namespace Go.Proofs.YtjhoaepokkaoeaaDoor.U
open Go.RowKit Go.Shelf

set_option maxRecDepth 100000 in
theorem sstate_nil (w : World) : Calls Tryd.prog 43 #[.pointer none] w fun e w' => e = .returned (.int .i64 2) ∧ w' = w := by
  go_enter Tryd.func43, Tryd.ntmps43
  go_wp2
  go_ret
  exact ⟨rfl, rfl⟩
set_option maxRecDepth 100000 in
theorem sstate_unmade (b : Nat) (w : World) (h : w.cell? ⟨b, 3, none⟩ = some (.bool false)) : Calls Tryd.prog 43 #[.pointer (some ⟨b, 0, none⟩)] w fun e w' => e = .returned (.int .i64 2) ∧ w' = w := by
  go_enter Tryd.func43, Tryd.ntmps43
  go_wp2
  go_ret
  exact ⟨rfl, rfl⟩
set_option maxRecDepth 100000 in
theorem sstate_over (b : Nat) (w : World) (h : w.cell? ⟨b, 3, none⟩ = some (.bool true)) (h1 : w.cell? ⟨b, 4, none⟩ = some (.bool true)) : Calls Tryd.prog 43 #[.pointer (some ⟨b, 0, none⟩)] w fun e w' => e = .returned (.int .i64 3) ∧ w' = w := by
  go_enter Tryd.func43, Tryd.ntmps43
  go_wp2
  go_ret
  exact ⟨rfl, rfl⟩
set_option maxRecDepth 100000 in
theorem sstate_good (b : Nat) (w : World) (h : w.cell? ⟨b, 3, none⟩ = some (.bool true)) (h1 : w.cell? ⟨b, 4, none⟩ = some (.bool false)) : Calls Tryd.prog 43 #[.pointer (some ⟨b, 0, none⟩)] w fun e w' => e = .returned (.int .i64 0) ∧ w' = w := by
  go_enter Tryd.func43, Tryd.ntmps43
  go_wp2
  go_ret
  exact ⟨rfl, rfl⟩

set_option maxRecDepth 100000 in
set_option maxHeartbeats 1000000 in
/-- Feed, where the state says an error. -/
theorem sfeed_err (p : Option Addr) (v : Value) (n : Int) (w : World) (hn : (n != 0) = true) (hs : ∀ w', w' = w → Calls Tryd.prog 43 #[.pointer p] w' fun e w' => e = .returned (.int .i64 n) ∧ w' = w) :
    Calls Tryd.prog 24 #[.pointer p, v] w fun e w' => e = .returned (.tuple #[.slice none 0 0, .int .i64 n]) ∧ w' = w := by
  have HS : Hid (∀ w', w' = w → Calls Tryd.prog 43 #[.pointer p] w' fun e w' => e = .returned (.int .i64 n) ∧ w' = w) := hs
  clear hs
  go_enter Tryd.func24, Tryd.ntmps24
  go_wp2_with (go_at_call 43; refine (HS.out _ rfl).mono ?_; rintro e w' ⟨rfl, rfl⟩)
  go_ret2
  exact ⟨rfl, rfl⟩
set_option maxRecDepth 100000 in
set_option maxHeartbeats 1000000 in
/-- End, where the state says an error. -/
theorem send_err (p : Option Addr) (n : Int) (w : World) (hn : (n != 0) = true) (hs : ∀ w', w' = w → Calls Tryd.prog 43 #[.pointer p] w' fun e w' => e = .returned (.int .i64 n) ∧ w' = w) :
    Calls Tryd.prog 29 #[.pointer p] w fun e w' => e = .returned (.tuple #[.slice none 0 0, .int .i64 n]) ∧ w' = w := by
  have HS : Hid (∀ w', w' = w → Calls Tryd.prog 43 #[.pointer p] w' fun e w' => e = .returned (.int .i64 n) ∧ w' = w) := hs
  clear hs
  go_enter Tryd.func29, Tryd.ntmps29
  go_wp2_with (go_at_call 43; refine (HS.out _ rfl).mono ?_; rintro e w' ⟨rfl, rfl⟩)
  go_ret2
  exact ⟨rfl, rfl⟩
set_option maxRecDepth 100000 in
theorem place_nil (w : World) : Calls Tryd.prog 28 #[.pointer none] w fun e w' => e = .returned (.agg #[.int .i64 0, .int .i64 0, .int .i64 0]) ∧ w' = w.alloc (.cells #[.int .i64 0, .int .i64 0, .int .i64 0] 59) := by
  go_enter Tryd.func28, Tryd.ntmps28
  go_wp2
  refine bodyPost_ret (v := .agg #[.int .i64 0, .int .i64 0, .int .i64 0]) (by simp [results, Tryd.results28, go_sem]) rfl ⟨rfl, rfl⟩
set_option maxRecDepth 100000 in
theorem place_some (b : Nat) (y l c : Int) (w : World) (h : SpotAt w b y l c) : Calls Tryd.prog 28 #[.pointer (some ⟨b, 0, none⟩)] w fun e w' => e = .returned (.agg #[.int .i64 y, .int .i64 l, .int .i64 c]) ∧ w' = w.alloc (.cells #[.int .i64 y, .int .i64 l, .int .i64 c] 59) := by
  have hlt := h.lt
  have k : ∀ u o, (w.alloc o).cell? ⟨b, u, none⟩ = w.cell? ⟨b, u, none⟩ := fun u o => ((Below.refl _ w).alloc (Nat.le_refl _) o).cell (p := ⟨b, u, none⟩) hlt
  have k0 := fun o => (k 0 o).trans h.c0
  have k1 := fun o => (k 1 o).trans h.c1
  have k2 := fun o => (k 2 o).trans h.c2
  clear k h
  go_enter Tryd.func28, Tryd.ntmps28
  go_wp2
  refine bodyPost_ret (v := .agg #[.int .i64 y, .int .i64 l, .int .i64 c]) (by simp [results, Tryd.results28, go_sem]) rfl ⟨rfl, rfl⟩

/-- Place of a stream that no call made. -/
theorem place_zero (p : Option Addr) (w : World) (h : p = none ∨ ∃ b, p = some ⟨b, 0, none⟩ ∧ SpotAt w b 0 0 0) : Calls Tryd.prog 28 #[.pointer p] w fun e w' => e = .returned (.agg #[.int .i64 0, .int .i64 0, .int .i64 0]) ∧ w' = w.alloc (.cells #[.int .i64 0, .int .i64 0, .int .i64 0] 59) := by
  rcases h with rfl | ⟨b, rfl, h⟩
  · exact place_nil w
  · exact place_some b 0 0 0 w h

theorem placeB (p : Option Addr) (w : World) (h : p = none ∨ ∃ b, p = some ⟨b, 0, none⟩ ∧ SpotAt w b 0 0 0) : Calls Tryd.prog 28 #[.pointer p] w fun e w' => e = .returned (.agg #[.int .i64 0, .int .i64 0, .int .i64 0]) ∧ Below w.heap.size w w' :=
  (place_zero p w h).mono fun _ _ ⟨he, hw⟩ => ⟨he, by rw [hw]; exact (Below.refl _ w).alloc (Nat.le_refl _) _⟩

end Go.Proofs.YtjhoaepokkaoeaaDoor.U
