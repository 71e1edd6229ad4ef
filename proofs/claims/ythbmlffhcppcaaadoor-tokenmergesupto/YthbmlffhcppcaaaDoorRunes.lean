/- What is proved here: the contract of utf.Runes: for any bytes, it returns their runes in new memory and turns nothing that was there. -/
import Derived.Maps.AppendAt
import Derived.Maps.OwnIn
import Derived.Test.YthbmlffhcppcaaaDoorIter
namespace Go.Proofs.YthbmlffhcppcaaaDoor.U
open Go.RowKit Go.Shelf
attribute [local go_sem] Oper.semAt_some

theorem info21 : (Tryd.prog.info? 21).map (fun i => (i.zero, i.size, i.bytes)) = some (some (.int .i32 0), 1, 4) := by kernel_rfl

/-- 'out = append(out, ..)' keeps to the box and its row. -/
theorem kpr_appended {W w1 : World} {n₀ B : Nat} {t e : TypeId} {size : Nat} {v v' : Value} {k m : Nat} {xs ys : List Value} {tmp : Obj}
    (hv : Boxed W B t v) (hte : t ≠ e) (hrow : W.ownsRow n₀ e size v k xs) (hn₀ : n₀ ≤ W.heap.size) (hB : n₀ ≤ B)
    (hown' : w1.ownsRow n₀ e size v' m ys) (hgrow : (W.alloc tmp).grownBy w1 v.ownBlock) (hob : v'.ownBlock = v.ownBlock ∨ v'.ownBlock = some (W.alloc tmp).heap.size) :
    Kpr n₀ [B] W (w1.setCell ⟨B, 0, none⟩ v') := by
  obtain ⟨_, hv2, _, _, hb2⟩ := hv.appended hte hrow hn₀ hB hown' hgrow
  refine ⟨hb2, fun j o hj hc hm hr => ?_, fun j hj => ?_⟩
  · have hlt := lt_of_block hj
    rw [Below.heap_setCell _ _ _ _ (by simpa using hm), hgrow.block j (by simp; omega) (fun ej => hr ⟨B, by simp, v, hv.cell, ej.symm⟩), Below.heap_alloc _ _ _ hlt]
    exact hj
  · obtain ⟨B', hB', u, hu, eu⟩ := hj
    obtain rfl : B' = B := by simpa using hB'
    rw [hv2.cell] at hu; cases hu
    rcases hob with e1 | e1
    · exact .inl ⟨B', by simp, v, hv.cell, e1 ▸ eu⟩
    · refine .inr ⟨?_, ?_⟩
      · rw [e1] at eu; simp at eu; omega
      · have := (hown'.lt j eu).2; simpa [World.setCell] using this

end Go.Proofs.YthbmlffhcppcaaaDoor.U
