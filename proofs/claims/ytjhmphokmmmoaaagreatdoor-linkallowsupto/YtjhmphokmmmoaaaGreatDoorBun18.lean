/- What is proved here: laws and contracts of LpTurn, LpTabs4, one behind the other (each says its own). -/
import Derived.Test.YtjhmphokmmmoaaaGreatDoorBun16
import Derived.Test.YtjhmphokmmmoaaaGreatDoorBun17
import Derived.Test.YtjhmphokmmmoaaaGreatDoorLpChk
import Derived.Lib.QuietBelow
import Derived.BigQuiet
import Derived.Test.YtjhmphokmmmoaaaGreatDoorBun14
/- What is proved here: the contracts of link.readsSlashes, strings.ReplaceAll of one byte, and link.turnSlashes. -/
namespace Go.Proofs.YtjhmphokmmmoaaaGreatDoor.L
open Go.RowKit Go.Shelf Go.Proofs.YtjhmphokmmmoaaaGreatDoor.N Go.Proofs.YtjhmphokmmmoaaaGreatDoor.U

/-- The table of the schemes in whose links browsers read \ as /. -/
def Sla (w : World) : Prop := ∀ j, j < 5 → w.cell? ⟨1, j, none⟩ = some (.string ⟨(slasheds.getD j []).toArray⟩)
theorem Sla.below {w w' : World} (h : Sla w) (hb : Below w.heap.size w w') : Sla w' := fun j hj => (hb.cell (p := ⟨1, j, none⟩) (cell_lt (h j hj))).trans (h j hj)
theorem sla_at (k : Nat) (hk : k < 5) (w : World) : (Instr.index 58 (.agg #[.string ⟨#[104, 116, 116, 112]⟩, .string ⟨#[104, 116, 116, 112, 115]⟩, .string ⟨#[102, 116, 112]⟩, .string ⟨#[119, 115]⟩, .string ⟨#[119, 115, 115]⟩]) (.int .i64 (k : Int))).run Tryz.prog w = .ok (.string ⟨(slasheds.getD k []).toArray⟩) w := by
  obtain ⟨i0, hi, hz⟩ := Option.map_eq_some_iff.1 (show (Tryz.prog.info? 9).map (·.size) = some 1 by kernel_rfl)
  have hks : k = 0 ∨ k = 1 ∨ k = 2 ∨ k = 3 ∨ k = 4 := by omega
  rcases hks with rfl | rfl | rfl | rfl | rfl
  all_goals simp [Instr.index, run_underlying Tryz.underlying58, asIntOf, sizeOf, typeInfo, hi, hz, slasheds, part, Tryz.isAgg9, go_sem]
def readsB (x : List UInt8) : Bool := slasheds.contains x || x == []
set_option maxRecDepth 100000 in
set_option maxHeartbeats 2000000 in
/-- **readsSlashes.** -/
theorem reads_calls (x : List UInt8) (w : World) (hS : Sla w) : Calls Tryz.prog 19 #[.string ⟨x.toArray⟩] w fun e w' => e = .returned (.bool (readsB x)) ∧ w' = w := by
  have n0 := hS 0 (by omega)
  have n1 := hS 1 (by omega)
  have n2 := hS 2 (by omega)
  have n3 := hS 3 (by omega)
  have n4 := hS 4 (by omega)
  simp only [slasheds, List.getD_cons_zero, List.getD_cons_succ] at n0 n1 n2 n3 n4
  have HY : Hid (∀ k, k < 5 → (slasheds.getD k [] == x) = true → readsB x = true) := fun k hk h => by
    unfold readsB
    have hm : slasheds.contains x = true := by
      rw [List.contains_iff_mem, ← beq_iff_eq.1 h]
      have hl : k < slasheds.length := hk
      rw [List.getD_eq_getElem?_getD, List.getElem?_eq_getElem hl]
      exact List.getElem_mem hl
    rw [hm]; rfl
  have HNO : Hid ((∀ k, k < 5 → (slasheds.getD k [] == x) = false) → readsB x = x.isEmpty) := fun h => by
    unfold readsB
    have hm : slasheds.contains x = false := by
      rw [Bool.eq_false_iff, ne_eq, List.contains_iff_mem]
      intro hmem
      obtain ⟨k, hk, e⟩ := List.mem_iff_getElem.1 hmem
      have := h k hk
      rw [List.getD_eq_getElem?_getD, List.getElem?_eq_getElem hk] at this
      simp [e] at this
    rw [hm]
    cases x <;> rfl
  clear hS
  go_enter Tryz.func19, Tryz.ntmps19
  go_wp2_with fail
  clear n0 n1 n2 n3 n4
  go_loopw [4, 6] (fun _ vi wr => ∃ k : Nat, k ≤ 5 ∧ vi = .int .i64 k ∧ wr = w ∧ Hid (∀ j, j < k → (slasheds.getD j [] == x) = false)) (fun _ vi _ => 5 - (intOf vi).toNat)
  case atStart => exact ⟨0, by omega, rfl, by trivial, fun j hj => by omega⟩
  case round =>
    obtain ⟨k, hk5, rfl, hwr, hP⟩ := hrel
    obtain rfl : w = wr := hwr.symm
    clear hwr
    by_cases h5 : k < 5
    · have hix := sla_at k h5
      have h5' : (k : Int) < 5 := by omega
      have HY2 := hid_of (HY.out k h5)
      have HP2 : Hid ((slasheds.getD k [] == x) = false → ∀ j, j < k + 1 → (slasheds.getD j [] == x) = false) := fun h j hj => by
        by_cases e : j = k
        · subst e; exact h
        · exact hP.out j (by omega)
      obtain ⟨u, hu⟩ : ∃ u, slasheds.getD k [] = u := ⟨_, rfl⟩
      rw [hu] at hix HY2 HP2
      clear hu hP
      cases hq : (u == x) with
      | true =>
        have HR := hid_of (HY2.out hq)
        go_wp2_with fail
        go_ret
        exact ⟨by rw [HR.out]; rfl, rfl⟩
      | false =>
        have HP3 := hid_of (HP2.out hq)
        go_wp2_with fail
        exact ⟨⟨k + 1, by omega, by go_num, by trivial, HP3⟩, by simp [intOf]; omega⟩
    · obtain rfl : k = 5 := by omega
      have HR := hid_of (HNO.out hP.out)
      clear hP
      go_wp2_with fail
      go_ret
      refine ⟨?_, rfl⟩
      rw [HR.out]
      cases x <;> rfl
/-- The library's variable that strings.ReplaceAll reads is a number. -/
abbrev MaxR (w : World) : Prop := ∃ m, w.cell? ⟨Tryz.laysM155_ren.g 1, 0, none⟩ = some (.int .i64 m)
theorem MaxR.below {w w' : World} (h : MaxR w) (hb : Below w.heap.size w w') : MaxR w' := by
  obtain ⟨m, hm⟩ := h
  exact ⟨m, (hb.cell (cell_lt hm)).trans hm⟩
theorem builderX155 : Builder.Extra Tryz.prog Tryz.laysM155_ren := {
  sizeBuilder := by kernel_rfl
  liesBuilder := by kernel_rfl
  t5 := Tryz.underlying5
  a5 := Tryz.isAgg5
  z5 := Tryz.sizeOf5
  v5 := Tryz.zeroValue5
  infoByte := by kernel_rfl
  cellsByte := by kernel_rfl
  sizeByte := by kernel_rfl
  neB5 := by decide }
theorem replaceAll_calls (s : List UInt8) (w : World) (hm : MaxR w) (hl : s.length ≤ 1000000000) : Calls Tryz.prog 40 #[.string ⟨s.toArray⟩, .string ⟨#[92]⟩, .string ⟨#[47]⟩] w fun e w' => e = .returned (.string ⟨(s.map slC).toArray⟩) ∧ Below w.heap.size w w' := by
  obtain ⟨m, hm⟩ := hm
  have hc := Lib.countB_le ⟨#[92]⟩ (by decide) (⟨s.toArray⟩ : ByteArray).size ⟨s.toArray⟩ (Nat.le_refl _)
  rw [arr_size] at hc
  have hp : (⟨#[47]⟩ : ByteArray).size = 1 := rfl
  have hq : (⟨#[92]⟩ : ByteArray).size = 1 := rfl
  have h := Any.strings_ReplaceAll { Tryz.laysM155 with } builderX155 ⟨s.toArray⟩ ⟨#[92]⟩ ⟨#[47]⟩ m w (by rw [arr_size]; omega) hm (by decide) (by rw [arr_size, hp]; omega)
  rw [show (⟨s.toArray⟩ : ByteArray).data.toList = s from rfl, show (⟨#[92]⟩ : ByteArray).data.toList = [92] from rfl, show (⟨#[47]⟩ : ByteArray).data.toList = [47] from rfl, replace_all] at h
  exact h
set_option maxRecDepth 100000 in
set_option maxHeartbeats 4000000 in
/-- **turnSlashes of a text of runes.** -/
theorem turn_calls (s : List UInt8) (hs : Val s) (w : World) (hm : MaxR w) (hl : s.length ≤ 1000000000) : Calls Tryz.prog 20 #[.string ⟨s.toArray⟩] w fun e w' => e = .returned (.string ⟨(slL s).toArray⟩) ∧ Below w.heap.size w w' := by
  have mixed : Tryz.prog.follows .mixedOrders = true := by kernel_rfl
  obtain ⟨zs, hV, rfl⟩ := hs
  have HI := hid_of (indexAny_calls zs hV w hl)
  obtain ⟨s, hse⟩ : ∃ s, encs zs = s := ⟨_, rfl⟩
  rw [hse] at HI hl ⊢
  clear hse hV
  have hau := any_up s
  have hle := upToL_le [63, 35] s
  have HSL := hid_of (slL_eq s)
  have hsz := arr_size s
  obtain ⟨p, hp⟩ : ∃ p, upToL [63, 35] s = p := ⟨_, rfl⟩
  rw [hp] at hau hle HSL
  rw [hau] at HI
  have y1 := slice_h s p hle (p : Int) rfl
  have y2 := slice_l s p hle (p : Int) rfl
  have HRE : Hid (∀ W, Below w.heap.size w W → Calls Tryz.prog 40 #[.string ⟨(s.take p).toArray⟩, .string ⟨#[92]⟩, .string ⟨#[47]⟩] W fun e w' => e = .returned (.string ⟨((s.take p).map slC).toArray⟩) ∧ Below W.heap.size W w') := fun W h => replaceAll_calls (s.take p) W (hm.below h) (by rw [List.length_take]; omega)
  have hcat : (⟨((s.take p).map slC).toArray⟩ : ByteArray) ++ ⟨(s.drop p).toArray⟩ = ⟨(slL s).toArray⟩ := by
    rw [HSL.out]
    apply ByteArray.ext
    rw [ByteArray.data_append]
    simp
  have z1 := arr_size ((s.take p).map slC)
  have z2 := arr_size (s.drop p)
  rw [List.length_map, List.length_take] at z1
  rw [List.length_drop] at z2
  have z1' : (⟨((s.take p).map slC).toArray⟩ : ByteArray).size = p := by rw [z1]; omega
  generalize (s.take p).map slC = A at *
  generalize s.take p = B at *
  generalize s.drop p = C at *
  generalize slL s = D at *
  clear hp hau HSL hm z1
  have HIF : ∃ x : Int, (if p < s.length then (p : Int) else -1) = x ∧ ((decide (x < 0) = false ∧ x = (p : Int)) ∨ (decide (x < 0) = true ∧ p = s.length)) := by
    by_cases h : p < s.length
    · exact ⟨p, by rw [if_pos h], .inl ⟨by rw [decide_eq_false_iff_not]; omega, rfl⟩⟩
    · exact ⟨-1, by rw [if_neg h], .inr ⟨by decide, by omega⟩⟩
  obtain ⟨x, hx, hcase⟩ := HIF
  rw [hx] at HI
  clear hx
  rcases hcase with ⟨c0, hxp⟩ | ⟨c0, hps⟩
  case' inl => rw [hxp] at HI c0; clear hxp
  case' inr => subst hps
  all_goals go_enter Tryz.func20, Tryz.ntmps20
  all_goals go_wp2_with fail
  all_goals (go_at_call 39; refine HI.out.mono ?_; rintro e w1 ⟨rfl, hb1⟩)
  all_goals have HB1 := hid_of hb1
  all_goals have D1 : ∀ d os, Below w1.heap.size w1 (Go.Sort.grow (redrawn w1 d) os) := fun d os => below_regrown w1 d os
  all_goals have D' : ∀ d os, Below w.heap.size w (Go.Sort.grow (redrawn w1 d) os) := fun d os => HB1.out.trans ((D1 d os).mono HB1.out.size)
  all_goals have q1 : ∀ d os, Calls Tryz.prog 40 #[.string ⟨B.toArray⟩, .string ⟨#[92]⟩, .string ⟨#[47]⟩] (Go.Sort.grow (redrawn w1 d) os) fun e w'' => e = .returned (.string ⟨A.toArray⟩) ∧ ∃ p : Regrown, w'' = Go.Sort.grow (redrawn w1 p.d) p.os := fun d os => Calls.regrown_of (HRE.out _ (D' d os))
  all_goals go_wp2_with fail
  all_goals refine wp_region_quiet_below mixed (by kernel_rfl) ?_
  all_goals repeat (go_big_quiet_step (with_reducible exact q1 _ _))
  all_goals refine wpQuiet_nil ?_
  all_goals intro _ hw'
  all_goals obtain ⟨⟨dr, osr⟩, hw''⟩ := hw'
  all_goals have hb3 := D' dr osr
  all_goals rw [← hw''] at hb3
  all_goals clear hw'' q1 D1 D'
  all_goals go_wp2_with fail
  all_goals go_ret
  all_goals exact ⟨rfl, hb3⟩
end Go.Proofs.YtjhmphokmmmoaaaGreatDoor.L

/- What is proved here: where the row's list of package-level variables is met, the tables of unicode/utf8, the table of the schemes that may never be and the table of the schemes that read a backslash as a slash lie in memory as the contracts ask; and a world in which they lie so. -/
namespace Go.Proofs.YtjhmphokmmmoaaaGreatDoor.L
open Go.ChangeShapes Go.WideShapes Go.ChangeAt Go.RowKit Go.Shelf Go.Proofs.YtjhmphokmmmoaaaGreatDoor.U

def laidL4 : List (String × DataW Unit) := [("unicode/utf8.acceptRanges", Rows.laid_unicode_utf8_acceptRanges), ("sieve/link.never", Rows.laid_sieve_link_never), ("sieve/link.slashed", Rows.laid_sieve_link_slashed), ("unicode/utf8.first", Rows.laid_unicode_utf8_first)]
set_option maxRecDepth 100000 in
theorem tabs4_of_laid {W : World} (h : laidMet Tryz.prog laidL4 W) : Tb W ∧ Nev W ∧ Sla W := by
  refine ⟨?_, ?_, ?_⟩
  · have h3 : Lib.VarReads Tryz.prog W "unicode/utf8.first" Lib.firstData := by
      have := Lib.laidMet.reads h (n := "unicode/utf8.first") (d := Rows.laid_unicode_utf8_first) (by simp [laidL4])
      rw [show Rows.laid_unicode_utf8_first = Lib.firstData from Pinned.utf8First_eq] at this
      exact this
    have h4 : Lib.VarReads Tryz.prog W "unicode/utf8.acceptRanges" Lib.acceptData := by
      have := Lib.laidMet.reads h (n := "unicode/utf8.acceptRanges") (d := Rows.laid_unicode_utf8_acceptRanges) (by simp [laidL4])
      rw [accept_eq] at this
      exact this
    exact utf8Tabs_of_readsT (ρ := u8ren) u8types u8extra h3 h4
  · obtain ⟨g, t, cs, fuel, p, hg, ht, hv, hd⟩ := Lib.laidMet.reads h (n := "sieve/link.never") (d := Rows.laid_sieve_link_never) (by simp [laidL4])
    obtain rfl : 0 = g := Option.some.inj ((show Tryz.prog.globalNamed "sieve/link.never" = some 0 by kernel_rfl).symm.trans hg)
    obtain rfl : 43 = t := Option.some.inj ((show (Tryz.prog.globals[0]?).map (·.type) = some 43 by kernel_rfl).symm.trans ht)
    obtain ⟨xs, m, _, hx, hl, hxl, hat⟩ := DataW.trod_array Tryz.underlying43 hd
    simp only [Prod.mk.injEq] at hx
    have k9 : Tryz.prog.cellsOf 9 = 1 := by kernel_rfl
    have hcl : cs.size = 7 := by rw [← Array.length_toList, hl]; kernel_rfl
    have hcell : ∀ i (hi : i < 7) (b : List UInt8), (xs.map (·.1))[i]? = some (.lit (.string b)) → W.cell? ⟨0, i, none⟩ = some (.string ⟨b.toArray⟩) := fun i hi b hb => by
      have h1 := hat i hi
      rw [k9, Nat.mul_one] at h1
      obtain ⟨x, hxi⟩ : ∃ x, xs[i]? = some x := ⟨xs[i]'(by omega), List.getElem?_eq_getElem (by omega)⟩
      rw [hxi] at h1
      obtain ⟨s, e1, e2, _⟩ := DataW.trod_string Tryz.underlying9 h1
      rw [List.getElem?_map, hxi, e2] at hb
      simp at hb
      rw [World.var?_cell hg hv i]
      have : cs.toList[i]? = some (.string s) := by
        have h2 : ((cs.toList.drop i).take 1)[0]? = some (.string s) := by rw [e1]; rfl
        simpa [List.getElem?_take, List.getElem?_drop] using h2
      rw [← Array.getElem?_toList, this, str_of hb]
    have hx1 := hx.1
    have get : ∀ (i : Nat) (b : List UInt8) (L : List (DataW Unit)), (Rows.laid_sieve_link_never : DataW Unit) = .agg L → L[i]? = some (DataW.lit (.string b)) → (xs.map (·.1))[i]? = some (DataW.lit (.string b)) := fun i b L hL hb => by
      have h2 := hx1.symm.trans hL
      injection h2 with h2
      rw [h2]; exact hb
    intro j hj
    have hks : j = 0 ∨ j = 1 ∨ j = 2 ∨ j = 3 ∨ j = 4 ∨ j = 5 ∨ j = 6 := by omega
    rcases hks with rfl | rfl | rfl | rfl | rfl | rfl | rfl
    all_goals exact hcell _ hj _ (get _ _ _ rfl rfl)
  · obtain ⟨g, t, cs, fuel, p, hg, ht, hv, hd⟩ := Lib.laidMet.reads h (n := "sieve/link.slashed") (d := Rows.laid_sieve_link_slashed) (by simp [laidL4])
    obtain rfl : 1 = g := Option.some.inj ((show Tryz.prog.globalNamed "sieve/link.slashed" = some 1 by kernel_rfl).symm.trans hg)
    obtain rfl : 58 = t := Option.some.inj ((show (Tryz.prog.globals[1]?).map (·.type) = some 58 by kernel_rfl).symm.trans ht)
    obtain ⟨xs, m, _, hx, hl, hxl, hat⟩ := DataW.trod_array Tryz.underlying58 hd
    simp only [Prod.mk.injEq] at hx
    have k9 : Tryz.prog.cellsOf 9 = 1 := by kernel_rfl
    have hcl : cs.size = 5 := by rw [← Array.length_toList, hl]; kernel_rfl
    have hcell : ∀ i (hi : i < 5) (b : List UInt8), (xs.map (·.1))[i]? = some (.lit (.string b)) → W.cell? ⟨1, i, none⟩ = some (.string ⟨b.toArray⟩) := fun i hi b hb => by
      have h1 := hat i hi
      rw [k9, Nat.mul_one] at h1
      obtain ⟨x, hxi⟩ : ∃ x, xs[i]? = some x := ⟨xs[i]'(by omega), List.getElem?_eq_getElem (by omega)⟩
      rw [hxi] at h1
      obtain ⟨s, e1, e2, _⟩ := DataW.trod_string Tryz.underlying9 h1
      rw [List.getElem?_map, hxi, e2] at hb
      simp at hb
      rw [World.var?_cell hg hv i]
      have : cs.toList[i]? = some (.string s) := by
        have h2 : ((cs.toList.drop i).take 1)[0]? = some (.string s) := by rw [e1]; rfl
        simpa [List.getElem?_take, List.getElem?_drop] using h2
      rw [← Array.getElem?_toList, this, str_of hb]
    have hx1 := hx.1
    have get : ∀ (i : Nat) (b : List UInt8) (L : List (DataW Unit)), (Rows.laid_sieve_link_slashed : DataW Unit) = .agg L → L[i]? = some (DataW.lit (.string b)) → (xs.map (·.1))[i]? = some (DataW.lit (.string b)) := fun i b L hL hb => by
      have h2 := hx1.symm.trans hL
      injection h2 with h2
      rw [h2]; exact hb
    intro j hj
    have hks : j = 0 ∨ j = 1 ∨ j = 2 ∨ j = 3 ∨ j = 4 := by omega
    rcases hks with rfl | rfl | rfl | rfl | rfl
    all_goals exact hcell _ hj _ (get _ _ _ rfl rfl)
def slaCells : Array Value := (slasheds.map fun n => Value.string ⟨n.toArray⟩).toArray
def withTabs4 (w : World) : World :=
  { withTabs3 w with heap := (withTabs3 w).heap.modify 1 fun
      | .cells _ t frozen => .cells slaCells t frozen
      | o => o }
end Go.Proofs.YtjhmphokmmmoaaaGreatDoor.L
