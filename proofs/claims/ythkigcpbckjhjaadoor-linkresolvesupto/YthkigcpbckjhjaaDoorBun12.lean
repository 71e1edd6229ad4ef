/- What is proved here: laws and contracts of LkJoin, LkEq, Tabs, one behind the other (each says its own). -/
import Derived.Test.YthkigcpbckjhjaaDoorBun8
import Derived.Test.YthkigcpbckjhjaaDoorRows
import Derived.Laws.StructEq
import Derived.Test.YthkigcpbckjhjaaDoorIter
import Derived.Test.YthkigcpbckjhjaaDoorBun3
import Derived.PinnedBridge
import Derived.Lib.LaidU8T
import Derived.Lib.LaidTab
import Derived.Deep.DeepHandedRow
/- What is proved here: the contract of the document's Join of layer 12: parts joined; and of the statement's own to. -/
namespace Go.Proofs.YthkigcpbckjhjaaDoor.L
open Go.RowKit Go.Shelf Go.Proofs.YthkigcpbckjhjaaDoor.N Go.Proofs.YthkigcpbckjhjaaDoor.U

theorem results_to {tmps : Array Value} {W : World} {A : Nat} {v0 v1 v2 v3 v4 v5 v6 v7 v8 : Value} {t : TypeId} (h2 : tmps[2]?.getD undef = .pointer (some ⟨A, 0, none⟩)) (h : Blk W A #[v0, v1, v2, v3, v4, v5, v6, v7, v8] t) :
    (results Tryd.f7 tmps).run Tryd.prog W = .ok (.agg #[v0, v1, v2, v3, v4, v5, v6, v7, v8]) W := by
  obtain ⟨c0, c1, c2, c3, c4, c5, c6, c7, c8, -⟩ := h.nine
  simp [results, Tryd.results7, go_sem, h2, c0, c1, c2, c3, c4, c5, c6, c7, c8]
set_option maxRecDepth 100000 in
set_option maxHeartbeats 4000000 in
/-- **to.** -/
theorem to_calls (l : Lk) (w : World) : Calls Tryd.prog 7 #[l.v] w fun e W' => e = .returned l.v ∧ Below w.heap.size w W' := by
  obtain ⟨sc, ho, pa, qu, fr, h1, h2, h3, h4⟩ := l
  unfold Lk.v
  simp only
  have HB0 : Hid (Below w.heap.size w ((w.alloc (.cells #[.string ⟨sc.toArray⟩, .string ⟨ho.toArray⟩, .string ⟨pa.toArray⟩, .string ⟨qu.toArray⟩, .string ⟨fr.toArray⟩, .bool h1, .bool h2, .bool h3, .bool h4] 23)).alloc (.cells #[.string ⟨sc.toArray⟩, .string ⟨ho.toArray⟩, .string ⟨pa.toArray⟩, .string ⟨qu.toArray⟩, .string ⟨fr.toArray⟩, .bool h1, .bool h2, .bool h3, .bool h4] 24))) := ((Below.refl _ w).alloc (Nat.le_refl _) _).alloc (by simp) _
  have HA1 : Hid (Blk ((w.alloc (.cells #[.string ⟨sc.toArray⟩, .string ⟨ho.toArray⟩, .string ⟨pa.toArray⟩, .string ⟨qu.toArray⟩, .string ⟨fr.toArray⟩, .bool h1, .bool h2, .bool h3, .bool h4] 23)).alloc (.cells #[.string ⟨sc.toArray⟩, .string ⟨ho.toArray⟩, .string ⟨pa.toArray⟩, .string ⟨qu.toArray⟩, .string ⟨fr.toArray⟩, .bool h1, .bool h2, .bool h3, .bool h4] 24)) (w.heap.size + 1) #[.string ⟨sc.toArray⟩, .string ⟨ho.toArray⟩, .string ⟨pa.toArray⟩, .string ⟨qu.toArray⟩, .string ⟨fr.toArray⟩, .bool h1, .bool h2, .bool h3, .bool h4] 24) := by
    have := Blk.new (w.alloc (.cells #[.string ⟨sc.toArray⟩, .string ⟨ho.toArray⟩, .string ⟨pa.toArray⟩, .string ⟨qu.toArray⟩, .string ⟨fr.toArray⟩, .bool h1, .bool h2, .bool h3, .bool h4] 23)) #[.string ⟨sc.toArray⟩, .string ⟨ho.toArray⟩, .string ⟨pa.toArray⟩, .string ⟨qu.toArray⟩, .string ⟨fr.toArray⟩, .bool h1, .bool h2, .bool h3, .bool h4] 24
    rw [show (w.alloc (.cells #[.string ⟨sc.toArray⟩, .string ⟨ho.toArray⟩, .string ⟨pa.toArray⟩, .string ⟨qu.toArray⟩, .string ⟨fr.toArray⟩, .bool h1, .bool h2, .bool h3, .bool h4] 23)).heap.size = w.heap.size + 1 from Array.size_push _] at this
    exact this
  go_enter Tryd.func7, Tryd.ntmps7
  go_wp2_with fail
  exact bodyPost_ret (results_to rfl HA1.out) rfl ⟨rfl, HB0.out⟩
end Go.Proofs.YthkigcpbckjhjaaDoor.L

/- What is proved here: two links are the same where all their parts are. -/
namespace Go.Proofs.YthkigcpbckjhjaaDoor.L
open Go.RowKit Go.Shelf Go.Proofs.YthkigcpbckjhjaaDoor.N Go.Proofs.YthkigcpbckjhjaaDoor.U

/-- Are two links the same? -/
def sameK (l m : Lk) : Bool := l.sc == m.sc && (l.ho == m.ho && (l.pa == m.pa && (l.qu == m.qu && (l.fr == m.fr && (l.hs == m.hs && (l.hh == m.hh && (l.hq == m.hq && l.hf == m.hf)))))))
theorem sameK_refl (l : Lk) : sameK l l = true := by unfold sameK; simp
theorem sameK_eq {l m : Lk} (h : sameK l m = true) : l = m := by
  obtain ⟨sc, ho, pa, qu, fr, h1, h2, h3, h4⟩ := l
  obtain ⟨sc', ho', pa', qu', fr', h1', h2', h3', h4'⟩ := m
  unfold sameK at h
  simp at h
  obtain ⟨rfl, rfl, rfl, rfl, rfl, rfl, rfl, rfl, rfl⟩ := h
  rfl
theorem str_toList (x : List UInt8) : (⟨x.toArray⟩ : ByteArray).toList = x := by rw [ByteArray.toList_eq]
set_option maxRecDepth 100000 in
set_option maxHeartbeats 1000000 in
theorem equalIn_links (l m : Lk) (w : World) : (Op.equalIn 10000 24 l.v m.v).run Tryd.prog w = .ok (sameK l m) w := by
  obtain ⟨sc, ho, pa, qu, fr, h1, h2, h3, h4⟩ := l
  obtain ⟨sc', ho', pa', qu', fr', h1', h2', h3', h4'⟩ := m
  unfold Lk.v sameK
  simp only
  rw [run_equalIn_struct w 9999 24 _ _ (by kernel_rfl) (by kernel_rfl)]
  simp [go_sem]
  by_cases hx : sc = sc'
  case neg => simp [hx]
  subst hx
  simp only [if_true, beq_self_eq_true, Bool.true_and]
  by_cases hx : ho = ho'
  case neg => simp [hx]
  subst hx
  simp only [if_true, beq_self_eq_true, Bool.true_and]
  by_cases hx : pa = pa'
  case neg => simp [hx]
  subst hx
  simp only [if_true, beq_self_eq_true, Bool.true_and]
  by_cases hx : qu = qu'
  case neg => simp [hx]
  subst hx
  simp only [if_true, beq_self_eq_true, Bool.true_and]
  by_cases hx : fr = fr'
  case neg => simp [hx]
  subst hx
  simp only [if_true, beq_self_eq_true, Bool.true_and]
  by_cases hx : h1 = h1'
  case neg => simp [hx]
  subst hx
  simp only [if_true, beq_self_eq_true, Bool.true_and]
  by_cases hx : h2 = h2'
  case neg => simp [hx]
  subst hx
  simp only [if_true, beq_self_eq_true, Bool.true_and]
  by_cases hx : h3 = h3'
  case neg => simp [hx]
  subst hx
  simp only [if_true, beq_self_eq_true, Bool.true_and]
  by_cases hx : h4 = h4'
  case neg => simp [hx]
  subst hx
  simp
/-- '==' of two links. -/
theorem eql_links (l m : Lk) (w : World) : (binOp .eql 24 l.v m.v).run Tryd.prog w = .ok (.bool (sameK l m)) w := by
  have h := equalIn_links l m w
  unfold Lk.v at h ⊢
  rw [run_eql_struct, h]
  rfl
theorem eql_guard (l m : Lk) (x y : Operand) (w : World) : (eqGuard .eql 24 x y l.v m.v).run Tryd.prog w = .ok () w := by
  unfold Lk.v
  exact run_eqGuard_agg w .eql 24 x y _ _ (by kernel_rfl)
end Go.Proofs.YthkigcpbckjhjaaDoor.L

/- What is proved here: where the row's list of package-level variables is met, the two tables of unicode/utf8 lie in memory as the contracts ask; and a world in which they lie so. -/
namespace Go.Proofs.YthkigcpbckjhjaaDoor.U
open Go.RowKit Go.Shelf

theorem own : ownKnob Tryd.prog.godebug = none := by kernel_rfl
def u8ren : Ren := ⟨fun x => x, fun n => if n = 5 then 5 else if n = 119 then 100 else if n = 138 then 102 else 103, fun n => if n = 3 then Tryd.lays32_ren.g 2 else Tryd.lays32_ren.g 3⟩
theorem u8types : U8Types Tryd.prog u8ren := ⟨by kernel_rfl, by kernel_rfl, by kernel_rfl, by kernel_rfl⟩
theorem u8extra : U8Extra Tryd.prog u8ren := ⟨by kernel_rfl, by kernel_rfl, by kernel_rfl, by kernel_rfl, by kernel_rfl, by kernel_rfl, by kernel_rfl⟩
/-- What every row of this seat lists. -/
def laidL : List (String × DataW Unit) := [("unicode/utf8.acceptRanges", Rows.laid_unicode_utf8_acceptRanges), ("unicode/utf8.first", Rows.laid_unicode_utf8_first)]
theorem accept_eq : (Rows.laid_unicode_utf8_acceptRanges : DataW Unit) = Lib.acceptData := by kernel_rfl
theorem tabs_of_laid {W : World} (h : laidMet Tryd.prog laidL W) : Lib.Utf8Tabs (Tryd.lays32_ren.g 2) (Tryd.lays32_ren.g 3) W := by
  have h3 : Lib.VarReads Tryd.prog W "unicode/utf8.first" Lib.firstData := by
    have := Lib.laidMet.reads h (n := "unicode/utf8.first") (d := Rows.laid_unicode_utf8_first) (by simp [laidL])
    rw [show Rows.laid_unicode_utf8_first = Lib.firstData from Pinned.utf8First_eq] at this
    exact this
  have h4 : Lib.VarReads Tryd.prog W "unicode/utf8.acceptRanges" Lib.acceptData := by
    have := Lib.laidMet.reads h (n := "unicode/utf8.acceptRanges") (d := Rows.laid_unicode_utf8_acceptRanges) (by simp [laidL])
    rw [accept_eq] at this
    exact this
  exact utf8Tabs_of_readsT (ρ := u8ren) u8types u8extra h3 h4

/-- A world for the witness: the settled one, the two tables holding what their texts lay. -/
def firstCells : Array Value := (Pinned.utf8FirstZ.map fun n : Nat => Value.int .u8 (n : Int)).toArray
def acceptCells : Array Value := ([128, 191, 160, 191, 128, 159, 144, 191, 128, 143, 0, 0, 0, 0, 0, 0, 0, 0, 0, 0, 0, 0, 0, 0, 0, 0, 0, 0, 0, 0, 0, 0].map fun n : Nat => Value.int .u8 (n : Int)).toArray
def withTabs (w : World) : World :=
  { w with heap := (w.heap.modify (Tryd.lays32_ren.g 2) fun
      | .cells _ t frozen => .cells firstCells t frozen
      | o => o).modify (Tryd.lays32_ren.g 3) fun
      | .cells _ t frozen => .cells acceptCells t frozen
      | o => o }

/-- A call that turns nothing that was there, gives back what the specification says and leaves its arguments: what the row asks behind it. -/
theorem post_below {H : Type} {enc : TypeId × Value → H} {P : Program} {f : Func} {s : ChangeSpec} {apart fresh handsOn : Bool} {W W' : World} {args : Array Value} {v : Value} {ds gs : List (DataW H)} {before pa pv : List MemPlace}
    (hW : DataW.Whole enc P f.params.toList s.vars apart W args.toList ds gs before)
    (hres : ∀ (b : Nat) (sp : Nat → Bool) (hd : Bool), DataW.TrodAll enc P W' b sp hd f.resultTypes.toList (v.resultList f.resultTypes.size) (s.fn H (ds ++ gs)).results [])
    (hargs : DataW.TrodAll enc P W' 0 (fun b => decide (b < W.heap.size)) true f.params.toList args.toList (s.fn H (ds ++ gs)).args pa)
    (hvars : DataW.TrodVars enc P W' (fun b => decide (b < W.heap.size)) s.vars (s.fn H (ds ++ gs)).vars pv)
    (hb : Below W.heap.size W W') : s.post enc P f apart fresh handsOn false W args v W' :=
  ⟨ds, gs, before, [], pa, pv, hW, hres _ _ _, hargs, hvars, hb.frame _, fun h => by cases h⟩

end Go.Proofs.YthkigcpbckjhjaaDoor.U
