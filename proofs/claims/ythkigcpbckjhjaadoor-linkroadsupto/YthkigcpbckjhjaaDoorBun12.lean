/- What is proved here: laws and contracts of LkRoadM, LkEq, Tabs, one behind the other (each says its own). -/
import Derived.Test.YthkigcpbckjhjaaDoorLkResM
import Derived.Test.YthkigcpbckjhjaaDoorLkBackM
import Derived.Laws.StructEq
import Derived.Test.YthkigcpbckjhjaaDoorBun8
import Derived.Test.YthkigcpbckjhjaaDoorRows
import Derived.Test.YthkigcpbckjhjaaDoorIter
import Derived.Test.YthkigcpbckjhjaaDoorBun3
import Derived.PinnedBridge
import Derived.Lib.LaidU8T
import Derived.Lib.LaidTab
import Derived.Deep.DeepHandedRow
/- What is proved here: a text of runes without its dot segments is a text of runes. -/
namespace Go.Proofs.YthkigcpbckjhjaaDoor.L
open Go.RowKit Go.Shelf Go.Proofs.YthkigcpbckjhjaaDoor.N Go.Proofs.YthkigcpbckjhjaaDoor.U

theorem Val.drop {i : List UInt8} (h : Val i) : ∀ (k : Nat), (∀ c ∈ i.take k, c.toNat < 128) → Val (i.drop k) := fun k => by
  induction k generalizing i with
  | zero => intro _; exact h
  | succ k ih =>
    intro hk
    cases i with
    | nil => exact val_nil
    | cons c t =>
      have hc := hk c (by simp)
      have ht : Val t := (Val.cut (x := []) (y := t) (c := c) h hc).2
      exact ih ht (fun d hd => hk d (by simp [hd]))
theorem pre_take {p i : List UInt8} (h : p.isPrefixOf i = true) : i.take p.length = p := by
  obtain ⟨t, rfl⟩ := List.isPrefixOf_iff_prefix.1 h
  simp
theorem head_of (q : UInt8 → Bool) (l : List UInt8) : l.dropWhile q = [] ∨ ∃ c t, l.dropWhile q = c :: t ∧ q c = false := by
  induction l with
  | nil => exact .inl rfl
  | cons c t ih =>
    rw [List.dropWhile_cons]
    cases h : q c with
    | true => simpa using ih
    | false => exact .inr ⟨c, t, by simp, h⟩
theorem val_cutLast {o : List UInt8} (h : Val o) : Val (cutLast o) := by
  unfold cutLast
  rcases head_of (fun c => !(c == 47)) o.reverse with e | ⟨c, t, e, hc⟩
  · rw [e]; exact val_nil
  · have hc' : c = 47 := by simpa using hc
    subst hc'
    obtain ⟨x, hx⟩ := List.dropWhile_suffix (fun c => !(c == 47)) (l := o.reverse)
    rw [e] at hx ⊢
    have ho := congrArg List.reverse hx
    rw [List.reverse_reverse] at ho
    have ho2 : o = t.reverse ++ 47 :: x.reverse := by rw [← ho]; simp
    rw [ho2] at h
    show Val t.reverse
    exact (h.cut (by decide)).1
theorem dotStep_val {i o : List UInt8} (hi : Val i) (ho : Val o) (h0 : i ≠ []) : Val (dotStep i o).1 ∧ Val (dotStep i o).2 := by
  have asc : ∀ (p : List UInt8) (k : Nat), p.isPrefixOf i = true → k ≤ p.length → (∀ c ∈ p, c.toNat < 128) → Val (i.drop k) := fun p k hp hk ha => hi.drop k (fun c hc => ha c (by
    rw [← pre_take hp]
    have : i.take k = (i.take p.length).take k := by rw [List.take_take, Nat.min_eq_left hk]
    rw [this] at hc
    exact List.mem_of_mem_take hc))
  unfold dotStep
  split
  · rename_i h; exact ⟨asc _ 3 h (by decide) (by decide), ho⟩
  split
  · rename_i h; exact ⟨asc _ 2 h (by decide) (by decide), ho⟩
  split
  · rename_i h; exact ⟨asc _ 2 h (by decide) (by decide), ho⟩
  split
  · exact ⟨val_one 47 (by decide), ho⟩
  split
  · rename_i h; exact ⟨asc _ 3 h (by decide) (by decide), val_cutLast ho⟩
  split
  · exact ⟨val_one 47 (by decide), val_cutLast ho⟩
  split
  · exact ⟨val_nil, ho⟩
  · cases i with
    | nil => exact absurd rfl h0
    | cons c t =>
      have e1 : segN (c :: t) = upToL [47] t + 1 := by unfold segN; simp; omega
      rw [e1]
      simp only [List.drop_succ_cons, List.take_succ_cons]
      obtain ⟨_, g2⟩ := upToL_cut [47] t
      have e0 : t.take (upToL [47] t) ++ t.drop (upToL [47] t) = t := List.take_append_drop _ _
      rcases g2 with e | ⟨d, u, e, hd⟩
      · rw [e, List.append_nil] at e0
        rw [e, e0]
        exact ⟨val_nil, ho.app hi⟩
      · simp at hd
        subst hd
        rw [e] at e0 ⊢
        rw [← e0] at hi
        obtain ⟨v1, v2⟩ := Val.cut (x := c :: t.take (upToL [47] t)) (y := u) (c := 47) hi (by decide)
        exact ⟨v2.cons (by decide), ho.app v1⟩
theorem dotsF_val : ∀ (f : Nat) (i o : List UInt8), Val i → Val o → Val (dotsF f i o)
  | 0, _, _, _, ho => ho
  | f + 1, i, o, hi, ho => by
    unfold dotsF
    split
    · exact ho
    · rename_i h
      have h0 : i ≠ [] := by simpa using h
      obtain ⟨v1, v2⟩ := dotStep_val hi ho h0
      exact dotsF_val f _ _ v1 v2
theorem dotsM_val {i : List UInt8} (h : Val i) : Val (dotsM i) := dotsF_val _ _ _ h val_nil
/-- The parts of a text of runes. -/
theorem split_vals {s : List UInt8} (h : Val s) : Val (splitK s).sc ∧ Val (splitK s).ho ∧ Val (splitK s).pa ∧ Val (splitK s).qu ∧ Val (splitK s).fr := by
  have e := split_val h
  refine ⟨?_, ?_, ?_, ?_, ?_⟩
  · rw [← e]; exact val_mend _
  · rw [← e]; exact val_mend _
  · rw [← e]; exact val_mend _
  · rw [← e]; exact val_mend _
  · rw [← e]; exact val_mend _
/-- A resolved path stays without dot segments. -/
theorem resolve_dots {b r : Lk} (hb : Val b.pa) (hr : Val r.pa) (h0 : (r.pa == []) = false) : dotsM (mendL (resolveK b r).pa) = (resolveK b r).pa := by
  have key : ∀ x, Val x → dotsM (mendL (dotsM x)) = dotsM x := fun x hx => by rw [(dotsM_val hx).mend, dotsM_again]
  unfold resolveK
  split
  · exact key _ hr
  split
  · exact key _ hr
  rw [if_neg (by rw [h0]; decide)]
  split
  · exact key _ hr
  · exact key _ ((val_folder hb).app hr)
end Go.Proofs.YthkigcpbckjhjaaDoor.L

/- What is proved here: two links are the same where all their parts are. -/
namespace Go.Proofs.YthkigcpbckjhjaaDoor.L
open Go.RowKit Go.Shelf Go.Proofs.YthkigcpbckjhjaaDoor.N Go.Proofs.YthkigcpbckjhjaaDoor.U

/-- Are two links the same? -/
def sameK (l m : Lk) : Bool := l.sc == m.sc && (l.ho == m.ho && (l.pa == m.pa && (l.qu == m.qu && (l.fr == m.fr && (l.hs == m.hs && (l.hh == m.hh && (l.hq == m.hq && l.hf == m.hf)))))))
theorem sameK_refl (l : Lk) : sameK l l = true := by unfold sameK; simp
theorem sameK_eq {l m : Lk} (h : sameK l m = true) : l = m := by
  obtain ⟨sc, ho, pa, qu, fr, h1, h2, h3, h4⟩ := l
  obtain ⟨sc', ho', pa', qu', fr', h1', h2', h3', h4'⟩ := m
  unfold sameK at h
  simp at h
  obtain ⟨rfl, rfl, rfl, rfl, rfl, rfl, rfl, rfl, rfl⟩ := h
  rfl
theorem str_toList (x : List UInt8) : (⟨x.toArray⟩ : ByteArray).toList = x := by rw [ByteArray.toList_eq]
set_option maxRecDepth 100000 in
set_option maxHeartbeats 1000000 in
theorem equalIn_links (l m : Lk) (w : World) : (Op.equalIn 10000 24 l.v m.v).run Tryd.prog w = .ok (sameK l m) w := by
  obtain ⟨sc, ho, pa, qu, fr, h1, h2, h3, h4⟩ := l
  obtain ⟨sc', ho', pa', qu', fr', h1', h2', h3', h4'⟩ := m
  unfold Lk.v sameK
  simp only
  rw [run_equalIn_struct w 9999 24 _ _ (by kernel_rfl) (by kernel_rfl)]
  simp [go_sem]
  by_cases hx : sc = sc'
  case neg => simp [hx]
  subst hx
  simp only [if_true, beq_self_eq_true, Bool.true_and]
  by_cases hx : ho = ho'
  case neg => simp [hx]
  subst hx
  simp only [if_true, beq_self_eq_true, Bool.true_and]
  by_cases hx : pa = pa'
  case neg => simp [hx]
  subst hx
  simp only [if_true, beq_self_eq_true, Bool.true_and]
  by_cases hx : qu = qu'
  case neg => simp [hx]
  subst hx
  simp only [if_true, beq_self_eq_true, Bool.true_and]
  by_cases hx : fr = fr'
  case neg => simp [hx]
  subst hx
  simp only [if_true, beq_self_eq_true, Bool.true_and]
  by_cases hx : h1 = h1'
  case neg => simp [hx]
  subst hx
  simp only [if_true, beq_self_eq_true, Bool.true_and]
  by_cases hx : h2 = h2'
  case neg => simp [hx]
  subst hx
  simp only [if_true, beq_self_eq_true, Bool.true_and]
  by_cases hx : h3 = h3'
  case neg => simp [hx]
  subst hx
  simp only [if_true, beq_self_eq_true, Bool.true_and]
  by_cases hx : h4 = h4'
  case neg => simp [hx]
  subst hx
  simp
/-- '==' of two links. -/
theorem eql_links (l m : Lk) (w : World) : (binOp .eql 24 l.v m.v).run Tryd.prog w = .ok (.bool (sameK l m)) w := by
  have h := equalIn_links l m w
  unfold Lk.v at h ⊢
  rw [run_eql_struct, h]
  rfl
theorem eql_guard (l m : Lk) (x y : Operand) (w : World) : (eqGuard .eql 24 x y l.v m.v).run Tryd.prog w = .ok () w := by
  unfold Lk.v
  exact run_eqGuard_agg w .eql 24 x y _ _ (by kernel_rfl)
end Go.Proofs.YthkigcpbckjhjaaDoor.L

/- What is proved here: where the row's list of package-level variables is met, the two tables of unicode/utf8 lie in memory as the contracts ask; and a world in which they lie so. -/
namespace Go.Proofs.YthkigcpbckjhjaaDoor.U
open Go.RowKit Go.Shelf

theorem own : ownKnob Tryd.prog.godebug = none := by kernel_rfl
def u8ren : Ren := ⟨fun x => x, fun n => if n = 5 then 5 else if n = 119 then 100 else if n = 138 then 102 else 103, fun n => if n = 3 then Tryd.lays32_ren.g 2 else Tryd.lays32_ren.g 3⟩
theorem u8types : U8Types Tryd.prog u8ren := ⟨by kernel_rfl, by kernel_rfl, by kernel_rfl, by kernel_rfl⟩
theorem u8extra : U8Extra Tryd.prog u8ren := ⟨by kernel_rfl, by kernel_rfl, by kernel_rfl, by kernel_rfl, by kernel_rfl, by kernel_rfl, by kernel_rfl⟩
/-- What every row of this seat lists. -/
def laidL : List (String × DataW Unit) := [("unicode/utf8.acceptRanges", Rows.laid_unicode_utf8_acceptRanges), ("unicode/utf8.first", Rows.laid_unicode_utf8_first)]
theorem accept_eq : (Rows.laid_unicode_utf8_acceptRanges : DataW Unit) = Lib.acceptData := by kernel_rfl
theorem tabs_of_laid {W : World} (h : laidMet Tryd.prog laidL W) : Lib.Utf8Tabs (Tryd.lays32_ren.g 2) (Tryd.lays32_ren.g 3) W := by
  have h3 : Lib.VarReads Tryd.prog W "unicode/utf8.first" Lib.firstData := by
    have := Lib.laidMet.reads h (n := "unicode/utf8.first") (d := Rows.laid_unicode_utf8_first) (by simp [laidL])
    rw [show Rows.laid_unicode_utf8_first = Lib.firstData from Pinned.utf8First_eq] at this
    exact this
  have h4 : Lib.VarReads Tryd.prog W "unicode/utf8.acceptRanges" Lib.acceptData := by
    have := Lib.laidMet.reads h (n := "unicode/utf8.acceptRanges") (d := Rows.laid_unicode_utf8_acceptRanges) (by simp [laidL])
    rw [accept_eq] at this
    exact this
  exact utf8Tabs_of_readsT (ρ := u8ren) u8types u8extra h3 h4

/-- A world for the witness: the settled one, the two tables holding what their texts lay. -/
def firstCells : Array Value := (Pinned.utf8FirstZ.map fun n : Nat => Value.int .u8 (n : Int)).toArray
def acceptCells : Array Value := ([128, 191, 160, 191, 128, 159, 144, 191, 128, 143, 0, 0, 0, 0, 0, 0, 0, 0, 0, 0, 0, 0, 0, 0, 0, 0, 0, 0, 0, 0, 0, 0].map fun n : Nat => Value.int .u8 (n : Int)).toArray
def withTabs (w : World) : World :=
  { w with heap := (w.heap.modify (Tryd.lays32_ren.g 2) fun
      | .cells _ t frozen => .cells firstCells t frozen
      | o => o).modify (Tryd.lays32_ren.g 3) fun
      | .cells _ t frozen => .cells acceptCells t frozen
      | o => o }

/-- A call that turns nothing that was there, gives back what the specification says and leaves its arguments: what the row asks behind it. -/
theorem post_below {H : Type} {enc : TypeId × Value → H} {P : Program} {f : Func} {s : ChangeSpec} {apart fresh handsOn : Bool} {W W' : World} {args : Array Value} {v : Value} {ds gs : List (DataW H)} {before pa pv : List MemPlace}
    (hW : DataW.Whole enc P f.params.toList s.vars apart W args.toList ds gs before)
    (hres : ∀ (b : Nat) (sp : Nat → Bool) (hd : Bool), DataW.TrodAll enc P W' b sp hd f.resultTypes.toList (v.resultList f.resultTypes.size) (s.fn H (ds ++ gs)).results [])
    (hargs : DataW.TrodAll enc P W' 0 (fun b => decide (b < W.heap.size)) true f.params.toList args.toList (s.fn H (ds ++ gs)).args pa)
    (hvars : DataW.TrodVars enc P W' (fun b => decide (b < W.heap.size)) s.vars (s.fn H (ds ++ gs)).vars pv)
    (hb : Below W.heap.size W W') : s.post enc P f apart fresh handsOn false W args v W' :=
  ⟨ds, gs, before, [], pa, pv, hW, hres _ _ _, hargs, hvars, hb.frame _, fun h => by cases h⟩

end Go.Proofs.YthkigcpbckjhjaaDoor.U
