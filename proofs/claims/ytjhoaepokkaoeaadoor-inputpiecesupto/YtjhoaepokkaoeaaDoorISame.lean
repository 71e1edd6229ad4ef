/- What is proved here: the law's own comparison of two lists of cells says yes where they are the same; and the document's own Text (sieveref03). -/
import Derived.BigQuiet
import Derived.Deep.QuietTactic
import Derived.WalkSmall
import Derived.Test.YtjhoaepokkaoeaaDoorIRRead
namespace Go.Proofs.YtjhoaepokkaoeaaDoor.U
open Go.RowKit Go.Shelf

theorem cvs_get (l : List Cn) (n i : Nat) (hn : n < l.length) (hi : i < 4) : (l.flatMap cvs)[n * 4 + i]? = (cvs l[n])[i]? := by
  induction l generalizing n with
  | nil => simp at hn
  | cons x l ih =>
    cases n with
    | zero =>
      have h4 : (cvs x).length = 4 := rfl
      rw [List.flatMap_cons, Nat.zero_mul, Nat.zero_add, List.getElem?_append_left (by omega)]; rfl
    | succ n =>
      have h4 : (cvs x).length = 4 := rfl
      rw [List.flatMap_cons, List.getElem?_append_right (by omega), h4, show (n + 1) * 4 + i - 4 = n * 4 + i by omega, ih n (by simpa using hn)]
      rfl
theorem owns_cell {W : World} {base : Nat} {e : TypeId} {l : List Cn} {a : Option Addr} {cap : Nat} (h : W.ownsRow base e 4 (.slice a l.length cap) l.length (l.flatMap cvs)) (n : Nat) (hn : n < l.length) :
    ∃ g, a = some ⟨g, 0, none⟩ ∧ base ≤ g ∧ g < W.heap.size ∧ W.cell? ⟨g, n * 4, none⟩ = some (.int .i32 (l[n].r : Int)) ∧ W.cell? ⟨g, n * 4 + 1, none⟩ = some (.int .i64 (l[n].y : Int)) ∧ W.cell? ⟨g, n * 4 + 2, none⟩ = some (.int .i64 (l[n].l : Int)) ∧ W.cell? ⟨g, n * 4 + 3, none⟩ = some (.int .i64 (l[n].c : Int)) := by
  rcases h.2 with ⟨_, h0⟩ | ⟨g, cap', cur, hv, hb, hg, _⟩
  · omega
  · cases hv
    refine ⟨g, rfl, hb, lt_of_block hg, ?_, ?_, ?_, ?_⟩
    · have := cvs_get l n 0 hn (by omega); rw [h.cellAt _ (by omega)]; simpa [cvs] using this
    · have := cvs_get l n 1 hn (by omega); rw [h.cellAt _ (by omega)]; simpa [cvs] using this
    · have := cvs_get l n 2 hn (by omega); rw [h.cellAt _ (by omega)]; simpa [cvs] using this
    · have := cvs_get l n 3 hn (by omega); rw [h.cellAt _ (by omega)]; simpa [cvs] using this

set_option maxRecDepth 100000 in
set_option maxHeartbeats 2000000 in
theorem csame_calls (u u' : Value) (b b' : Nat) (xs : List Cn) (w : World) (hl : xs.length ≤ 2199023255552) (h : w.ownsRow b 62 4 u xs.length (xs.flatMap cvs)) (h' : w.ownsRow b' 62 4 u' xs.length (xs.flatMap cvs)) :
    Calls Tryd.prog 27 #[u, u'] w fun e w' => e = .returned (.bool true) ∧ Below w.heap.size w w' := by
  obtain ⟨a, cap, rfl⟩ := owns_slice h
  obtain ⟨a', cap', rfl⟩ := owns_slice h'
  have H : Hid (w.ownsRow b 62 4 (.slice a xs.length cap) xs.length (xs.flatMap cvs)) := h
  have H' : Hid (w.ownsRow b' 62 4 (.slice a' xs.length cap') xs.length (xs.flatMap cvs)) := h'
  clear h h'
  have hne : ((xs.length : Int) != (xs.length : Int)) = false := by simp
  go_enter Tryd.func27, Tryd.ntmps27
  go_wp2
  go_loopw [13] (fun i wr => ∃ k : Nat, k ≤ xs.length ∧ i = .int .i64 k ∧ Below w.heap.size w wr) (fun i _ => xs.length - (intOf i).toNat)
  case atStart => exact ⟨0, by omega, rfl, Below.refl _ _⟩
  case round =>
    obtain ⟨k, hk, rfl, hB⟩ := hrel
    by_cases hlt : k < xs.length
    · obtain ⟨g, rfl, _, hg, c0, c1, c2, c3⟩ := owns_cell H.out k hlt
      obtain ⟨g', rfl, _, hg', d0, d1, d2, d3⟩ := owns_cell H'.out k hlt
      obtain ⟨x, hx⟩ : ∃ x, xs[k] = x := ⟨_, rfl⟩
      rw [hx] at c0 c1 c2 c3 d0 d1 d2 d3
      clear hx
      have c0 := (hB.cell (p := ⟨g, k * 4, none⟩) hg).trans c0
      have c1 := (hB.cell (p := ⟨g, k * 4 + 1, none⟩) hg).trans c1
      have c2 := (hB.cell (p := ⟨g, k * 4 + 2, none⟩) hg).trans c2
      have c3 := (hB.cell (p := ⟨g, k * 4 + 3, none⟩) hg).trans c3
      have d0 := (hB.cell (p := ⟨g', k * 4, none⟩) hg').trans d0
      have d1 := (hB.cell (p := ⟨g', k * 4 + 1, none⟩) hg').trans d1
      have d2 := (hB.cell (p := ⟨g', k * 4 + 2, none⟩) hg').trans d2
      have d3 := (hB.cell (p := ⟨g', k * 4 + 3, none⟩) hg').trans d3
      go_wp2
      go_quiet (fail)
      go_wp2
      go_roundw
      case rel => exact ⟨k + 1, by omega, by go_num, below_drewN hB _⟩
      case measure => simp [intOf]; omega
    · obtain rfl : k = xs.length := by omega
      go_wp2
      go_ret
      exact ⟨rfl, hB⟩

end Go.Proofs.YtjhoaepokkaoeaaDoor.U
