/- What is proved here: contracts of sieveref01.Same, utf.Tail and utf.Width. -/
import Derived.BigQuiet
import Derived.Deep.QuietTactic
import Derived.WalkSmall
import Derived.Test.YtckhnkkmcgbabaaDoorNext
namespace Go.Proofs.YtckhnkkmcgbabaaDoor.U
open Go.RowKit Go.Shelf

/-- The number at a place (0 beyond the end). -/
def zAt (zs : List Int) (k : Nat) : Int := zs[k]?.getD 0
theorem zAt_ext {xs ys : List Int} (hl : xs.length = ys.length) (h : ∀ j, j < xs.length → zAt xs j = zAt ys j) : xs = ys := by
  apply List.ext_getElem hl
  intro i h1 h2
  have := h i h1
  simpa [zAt, h1, h2] using this
/-- The numbers that a slice value holds in memory. -/
def HasI (q : IntKind) (w : World) (v : Value) (zs : List Int) : Prop :=
  (zs = [] ∧ ∃ a cap, v = .slice a 0 cap) ∨ (0 < zs.length ∧ ∃ b off cap, v = .slice (some ⟨b, off, none⟩) zs.length cap ∧ zs.length ≤ cap ∧ ∀ j, j < zs.length → w.cell? ⟨b, off + j, none⟩ = some (.int q (zAt zs j)))
theorem HasI.below {q : IntKind} {A B : World} {v : Value} {zs : List Int} (h : Below A.heap.size A B) (hl : HasI q A v zs) : HasI q B v zs := by
  rcases hl with hl | ⟨hp, b, off, cap, hv, hc, hx⟩
  · exact .inl hl
  · exact .inr ⟨hp, b, off, cap, hv, hc, fun j hj => (h.cell (p := ⟨b, off + j, none⟩) (cell_lt (hx j hj))).trans (hx j hj)⟩

/-- What is owned is held. -/
theorem hasI_owns {q : IntKind} {w : World} {base : Nat} {e : TypeId} {v : Value} {zs : List Int} (h : w.ownsRow base e 1 v zs.length (zs.map (Value.int q))) : HasI q w v zs := by
  rcases h.2 with ⟨rfl, h0⟩ | ⟨g, cap, cur, rfl, hb, hg, hcap, _, hsz, ht⟩
  · exact .inl ⟨List.length_eq_zero_iff.1 h0, none, 0, rfl⟩
  · by_cases hp : zs.length = 0
    · have e0 := List.length_eq_zero_iff.1 hp
      subst e0
      exact .inl ⟨rfl, some ⟨g, 0, none⟩, cap, rfl⟩
    refine .inr ⟨by omega, g, 0, cap, rfl, hcap, fun j hj => ?_⟩
    rw [Nat.zero_add, h.cellAt j (by omega)]
    simp [zAt, hj]

end Go.Proofs.YtckhnkkmcgbabaaDoor.U
