/- What is proved here: the contract of chunk.New. -/
import Derived.Test.YtkpjmcoihbebkaaCRNew
namespace Go.Proofs.Ytkpjmcoihbebkaa.C
open Go.RowKit

/-- A script of one's own, all of it below a block. -/
def OwnU (base top : Nat) (e : TypeId) (w : World) (r : Value) (l : List (List UInt8 × Bool)) : Prop :=
  ∃ xs : List (Value × List UInt8 × Bool), xs.map Prod.snd = l ∧ w.ownsRow base e 2 r l.length (xs.flatMap fun x => [x.1, .bool x.2.2]) ∧ (∀ x ∈ xs, w.ownsRow base 5 1 x.1 x.2.1.length (bvs x.2.1)) ∧ xs.Pairwise (fun x y => ∀ k, x.1.ownBlock = some k → y.1.ownBlock ≠ some k) ∧ (∀ k, r.ownBlock = some k → k < top) ∧ ∀ x ∈ xs, ∀ k, x.1.ownBlock = some k → k < top
theorem OwnU.of {base : Nat} {e : TypeId} {w : World} {r : Value} {l : List (List UInt8 × Bool)} (h : OwnS base e w r l) : OwnU base w.heap.size e w r l := by
  obtain ⟨xs, h1, h2, h3, h4⟩ := h
  exact ⟨xs, h1, h2, h3, h4, fun k hk => (h2.lt k hk).2, fun x hx k hk => ((h3 x hx).lt k hk).2⟩
theorem OwnU.own {base top : Nat} {e : TypeId} {w : World} {r : Value} {l : List (List UInt8 × Bool)} (h : OwnU base top e w r l) : OwnS base e w r l := by
  obtain ⟨xs, h1, h2, h3, h4, _, _⟩ := h
  exact ⟨xs, h1, h2, h3, h4⟩
theorem OwnU.below {base top : Nat} {e : TypeId} {A B : World} {r : Value} {l : List (List UInt8 × Bool)} (h : OwnU base top e A r l) (hb : Below A.heap.size A B) : OwnU base top e B r l := by
  obtain ⟨xs, h1, h2, h3, h4, h5, h6⟩ := h
  exact ⟨xs, h1, owns_below h2 hb, fun x hx => owns_below (h3 x hx) hb, h4, h5, h6⟩
theorem OwnU.alloc {base top : Nat} {e : TypeId} {A : World} {r : Value} {l : List (List UInt8 × Bool)} (h : OwnU base top e A r l) (o : Obj) : OwnU base top e (A.alloc o) r l := h.below ((Below.refl _ A).alloc (Nat.le_refl _) o)
/-- .. and behind a write at or above that block. -/
theorem OwnU.set {base top : Nat} {e : TypeId} {w : World} {r : Value} {l : List (List UInt8 × Bool)} (h : OwnU base top e w r l) (g j : Nat) (u : Value) (hg : top ≤ g) : OwnU base top e (w.setCell ⟨g, j, none⟩ u) r l := by
  obtain ⟨xs, h1, h2, h3, h4, h5, h6⟩ := h
  have gr : w.grownBy (w.setCell ⟨g, j, none⟩ u) (some g) := ⟨rfl, rfl, rfl, by simp [World.setCell], fun k _ hk => Below.heap_setCell _ _ _ k (fun e => hk (by rw [e]))⟩
  have ap : ∀ v : Value, (∀ k, v.ownBlock = some k → k < top) → v.ownBlock = none ∨ v.ownBlock ≠ some g := fun v hv => by
    cases e : v.ownBlock with
    | none => exact .inl rfl
    | some k => exact .inr (fun h => by have := hv k e; simp at h; omega)
  exact ⟨xs, h1, h2.kept gr (ap _ h5), fun x hx => (h3 x hx).kept gr (ap _ (h6 x hx)), h4, h5, h6⟩
/-- A source in memory: at the step number i, behind so many of its bytes and of all. -/
def Src (base : Nat) (w : World) (g : Nat) (l : List (List UInt8 × Bool)) (i part told : Nat) : Prop :=
  ∃ v, Blk w g #[.bool true, v, .int .i64 i, .int .i64 part, .int .i64 told] 52 ∧ OwnU base g 55 w v l

set_option maxRecDepth 100000 in
set_option maxHeartbeats 2000000 in
/-- **chunk.New of a script that is too large.** -/
theorem new_large (l : List (List UInt8 × Bool)) (r : Value) (w : World) (hS : HasS w r l) (hl : (l.length : Int) ≤ 1000000000000) (hn : ∀ x ∈ l, x.1.length ≤ 100000000000000) (hb : large l = true) :
    Calls Try.prog 4 #[r] w fun e W' => e = .returned (.tuple #[.pointer none, .int .i64 24]) ∧ Below w.heap.size w W' := by
  have HS : Hid (HasS w r l) := hS
  have HN : Hid (∀ x ∈ l, x.1.length ≤ 100000000000000) := hn
  obtain ⟨ra, rc, rfl⟩ := hS.slice
  clear hS hn
  go_enter Try.func4, Try.ntmps4
  go_wp2_with (go_at_call 15; refine (large_calls l _ _ HS.out hl HN.out).mono ?_; rintro e w1 ⟨rfl, hB1⟩; rw [hb])
  go_ret2
  exact ⟨rfl, hB1⟩
set_option maxRecDepth 100000 in
set_option maxHeartbeats 2000000 in
/-- **chunk.New of a script that is not.** -/
theorem new_small (l : List (List UInt8 × Bool)) (r : Value) (w : World) (hS : HasS w r l) (hl : (l.length : Int) ≤ 1000000000000) (hn : ∀ x ∈ l, x.1.length ≤ 100000000000000) (hb : large l = false) :
    Calls Try.prog 4 #[r] w fun e W' => ∃ g, w.heap.size ≤ g ∧ e = .returned (.tuple #[.pointer (some ⟨g, 0, none⟩), .int .i64 0]) ∧ Src w.heap.size W' g (reach l) 0 0 0 ∧ Below w.heap.size w W' := by
  have HS : Hid (HasS w r l) := hS
  have HN : Hid (∀ x ∈ l, x.1.length ≤ 100000000000000) := hn
  obtain ⟨ra, rc, rfl⟩ := hS.slice
  clear hS hn
  go_enter Try.func4, Try.ntmps4
  go_wp2_with (first
    | (go_at_call 15; refine (large_calls l _ _ HS.out hl HN.out).mono ?_; rintro e w1 ⟨rfl, hB1⟩; rw [hb])
    | (go_at_call 16; refine (reached_calls l _ _ (HS.out.below hB1) hl HN.out).mono ?_; rintro e w2 ⟨v, rfl, hO, hB2⟩; obtain ⟨va, vc, rfl⟩ := hO.slice))
  have z1 := hB1.size
  have z2 := hB2.size
  go_ret2
  exact ⟨w2.heap.size, by omega, rfl, ⟨_, Blk.new _ _ _, (OwnU.of (hO.mono z1)).alloc _⟩, (hB1.trans (hB2.mono z1)).alloc (by omega) _⟩
end Go.Proofs.Ytkpjmcoihbebkaa.C
