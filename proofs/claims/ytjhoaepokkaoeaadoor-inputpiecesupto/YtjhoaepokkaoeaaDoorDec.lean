/- What is proved here: contracts of the decoder's methods where it is none, was not made, or is over; and of Held. -/
import Derived.Test.YtjhoaepokkaoeaaDoorLives
namespace Go.Proofs.YtjhoaepokkaoeaaDoor.U
open Go.RowKit Go.Shelf

set_option maxRecDepth 100000 in
theorem state_nil (w : World) : Calls Tryd.prog 32 #[.pointer none] w fun e w' => e = .returned (.int .i64 2) ∧ w' = w := by
  go_enter Tryd.func32, Tryd.ntmps32
  go_wp2
  go_ret
  exact ⟨rfl, rfl⟩
set_option maxRecDepth 100000 in
theorem state_unmade (b : Nat) (w : World) (h : w.cell? ⟨b, 0, none⟩ = some (.bool false)) : Calls Tryd.prog 32 #[.pointer (some ⟨b, 0, none⟩)] w fun e w' => e = .returned (.int .i64 2) ∧ w' = w := by
  go_enter Tryd.func32, Tryd.ntmps32
  go_wp2
  go_ret
  exact ⟨rfl, rfl⟩
set_option maxRecDepth 100000 in
theorem state_over (b : Nat) (w : World) (h : w.cell? ⟨b, 0, none⟩ = some (.bool true)) (h1 : w.cell? ⟨b, 1, none⟩ = some (.bool true)) : Calls Tryd.prog 32 #[.pointer (some ⟨b, 0, none⟩)] w fun e w' => e = .returned (.int .i64 3) ∧ w' = w := by
  go_enter Tryd.func32, Tryd.ntmps32
  go_wp2
  go_ret
  exact ⟨rfl, rfl⟩
set_option maxRecDepth 100000 in
theorem state_good (b : Nat) (w : World) (h : w.cell? ⟨b, 0, none⟩ = some (.bool true)) (h1 : w.cell? ⟨b, 1, none⟩ = some (.bool false)) : Calls Tryd.prog 32 #[.pointer (some ⟨b, 0, none⟩)] w fun e w' => e = .returned (.int .i64 0) ∧ w' = w := by
  go_enter Tryd.func32, Tryd.ntmps32
  go_wp2
  go_ret
  exact ⟨rfl, rfl⟩

set_option maxRecDepth 100000 in
set_option maxHeartbeats 1000000 in
/-- Feed, where the state says an error. -/
theorem feed_err (p : Option Addr) (v : Value) (n : Int) (w : World) (hn : (n != 0) = true) (hs : ∀ w', w' = w → Calls Tryd.prog 32 #[.pointer p] w' fun e w' => e = .returned (.int .i64 n) ∧ w' = w) :
    Calls Tryd.prog 9 #[.pointer p, v] w fun e w' => e = .returned (.tuple #[.slice none 0 0, .int .i64 n]) ∧ w' = w := by
  have HS : Hid (∀ w', w' = w → Calls Tryd.prog 32 #[.pointer p] w' fun e w' => e = .returned (.int .i64 n) ∧ w' = w) := hs
  clear hs
  go_enter Tryd.func9, Tryd.ntmps9
  go_wp2_with (go_at_call 32; refine (HS.out _ rfl).mono ?_; rintro e w' ⟨rfl, rfl⟩)
  go_ret2
  exact ⟨rfl, rfl⟩
set_option maxRecDepth 100000 in
set_option maxHeartbeats 1000000 in
/-- End, where the state says an error. -/
theorem end_err (p : Option Addr) (n : Int) (w : World) (hn : (n != 0) = true) (hs : ∀ w', w' = w → Calls Tryd.prog 32 #[.pointer p] w' fun e w' => e = .returned (.int .i64 n) ∧ w' = w) :
    Calls Tryd.prog 15 #[.pointer p] w fun e w' => e = .returned (.tuple #[.slice none 0 0, .int .i64 n]) ∧ w' = w := by
  have HS : Hid (∀ w', w' = w → Calls Tryd.prog 32 #[.pointer p] w' fun e w' => e = .returned (.int .i64 n) ∧ w' = w) := hs
  clear hs
  go_enter Tryd.func15, Tryd.ntmps15
  go_wp2_with (go_at_call 32; refine (HS.out _ rfl).mono ?_; rintro e w' ⟨rfl, rfl⟩)
  go_ret2
  exact ⟨rfl, rfl⟩
set_option maxRecDepth 100000 in
theorem held_nil (w : World) : Calls Tryd.prog 11 #[.pointer none] w fun e w' => e = .returned (.int .i64 0) ∧ w' = w := by
  go_enter Tryd.func11, Tryd.ntmps11
  go_wp2
  go_ret
  exact ⟨rfl, rfl⟩
set_option maxRecDepth 100000 in
theorem held_some (b : Nat) (n : Int) (w : World) (h : w.cell? ⟨b, 5, none⟩ = some (.int .i64 n)) : Calls Tryd.prog 11 #[.pointer (some ⟨b, 0, none⟩)] w fun e w' => e = .returned (.int .i64 n) ∧ w' = w := by
  go_enter Tryd.func11, Tryd.ntmps11
  go_wp2
  go_ret
  exact ⟨rfl, rfl⟩

end Go.Proofs.YtjhoaepokkaoeaaDoor.U
