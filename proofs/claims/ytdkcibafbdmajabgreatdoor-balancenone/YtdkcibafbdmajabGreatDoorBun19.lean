/- What is proved here: laws and contracts of BaNone, BaTokR, one behind the other (each says its own). -/
import Derived.Lib.SliceRun
import Derived.Test.YtdkcibafbdmajabGreatDoorBun18
import Derived.Deep.SlicePairs
import Derived.Deep.Strs
import Derived.ProofKit
import Derived.OpenShut
/- What is proved here: what a balancer answers that no call made: Take, End, Open, Ghosts of nil and of the zero one. -/
namespace Go.Proofs.YtdkcibafbdmajabGreatDoor.B
open Go.RowKit Go.Shelf Go.WideMaps Go.Maps Go.Proofs.YtdkcibafbdmajabGreatDoor.N Go.Proofs.YtdkcibafbdmajabGreatDoor.C Go.Proofs.YtdkcibafbdmajabGreatDoor.E
def zeroCells : Array Value := #[.slice none 0 0, .slice none 0 0, .slice none 0 0, .slice none 0 0, .map none, .bool false, .int .i64 0, .bool false]
set_option maxRecDepth 100000 in
theorem clone_nil (w : World) : Calls Tryz.prog 37 #[.slice none 0 0] w fun r w' => r = .returned (.slice none 0 0) ∧ w' = w := by
  have q23 : ∀ (w : World) (a : Option Addr) (n c n' c' : Nat), (binOp .eql 29 (.slice a n c) (.slice none n' c')).run Tryz.prog w = .ok (.bool a.isNone) w := fun w a n c n' c' => Lib.run_eql_slice_nil w _ _ a n c n' c' Tryz.underlying29
  go_enter Tryz.func37, Tryz.ntmps37
  go_wp2
  go_ret
  exact ⟨rfl, rfl⟩
set_option maxRecDepth 100000 in
theorem ready_nil (w : World) : Calls Tryz.prog 26 #[.pointer none] w fun r w' => r = .returned (.int .i64 2) ∧ w' = w := by
  go_enter Tryz.func26, Tryz.ntmps26
  go_wp2
  go_ret
  exact ⟨rfl, rfl⟩
set_option maxRecDepth 100000 in
theorem ready_zero (B : Nat) (w : World) (hb : Blk w B zeroCells 69) : Calls Tryz.prog 26 #[.pointer (some ⟨B, 0, none⟩)] w fun r w' => r = .returned (.int .i64 2) ∧ w' = w := by
  have c6 : w.cell? ⟨B, 6, none⟩ = some (.int .i64 0) := hb.cell 6
  go_enter Tryz.func26, Tryz.ntmps26
  go_wp2
  go_ret
  exact ⟨rfl, rfl⟩
/-- What is asked of the balancer: it is nil, or the zero one. -/
def NoneV (w : World) (v : Value) : Prop := v = .pointer none ∨ ∃ B, v = .pointer (some ⟨B, 0, none⟩) ∧ B < w.heap.size ∧ Blk w B zeroCells 69
theorem NoneV.below {w w' : World} {v : Value} (h : NoneV w v) (hb : Below w.heap.size w w') : NoneV w' v := by
  rcases h with h | ⟨B, h1, h2, h3⟩
  · exact .inl h
  · exact .inr ⟨B, h1, Nat.lt_of_lt_of_le h2 hb.size, h3.below hb⟩
theorem ready_none {w : World} {v : Value} (h : NoneV w v) : Calls Tryz.prog 26 #[v] w fun r w' => r = .returned (.int .i64 2) ∧ w' = w := by
  rcases h with rfl | ⟨B, rfl, _, h3⟩
  · exact ready_nil w
  · exact ready_zero B w h3
set_option maxRecDepth 100000 in
set_option maxHeartbeats 4000000 in
theorem ntake_calls (v : Value) (k : Int) (nm tx : ByteArray) (av : Value) (sf : Bool) (p0 p1 p2 : Int) (w : World) (h : NoneV w v) : Calls Tryz.prog 9 #[v, .agg #[.int .i64 k, .string nm, .string tx, av, .bool sf, .int .i64 p0, .int .i64 p1, .int .i64 p2]] w fun r w' => r = .returned (.tuple #[.slice none 0 0, .slice none 0 0, .int .i64 2]) ∧ Below w.heap.size w w' := by
  have b1 : Below w.heap.size w (w.alloc (.cells #[.int .i64 k, .string nm, .string tx, av, .bool sf, .int .i64 p0, .int .i64 p1, .int .i64 p2] 37)) := (Below.refl _ w).alloc (Nat.le_refl _) _
  have HR := hid_of (ready_none (h.below b1))
  have HB := hid_of b1
  clear h b1
  go_enter Tryz.func9, Tryz.ntmps9
  go_wp2_with fail
  (go_at_call 26; refine HR.out.mono ?_; rintro e w' ⟨rfl, hw'⟩; have hx' := hw'.symm; subst hx')
  go_wp2_with fail
  first | go_ret3 | go_ret
  exact ⟨rfl, HB.out⟩
set_option maxRecDepth 100000 in
set_option maxHeartbeats 4000000 in
theorem nend_calls (v : Value) (w : World) (h : NoneV w v) : Calls Tryz.prog 17 #[v] w fun r w' => r = .returned (.tuple #[.slice none 0 0, .int .i64 2]) ∧ w' = w := by
  have HR := hid_of (ready_none h)
  clear h
  go_enter Tryz.func17, Tryz.ntmps17
  go_wp2_with fail
  (go_at_call 26; refine HR.out.mono ?_; rintro e w' ⟨rfl, hw'⟩; have hx' := hw'.symm; subst hx')
  go_wp2_with fail
  first | go_ret2 | go_ret
  exact ⟨rfl, rfl⟩
set_option maxRecDepth 100000 in
set_option maxHeartbeats 4000000 in
theorem nopen_calls (v : Value) (w : World) (h : NoneV w v) : Calls Tryz.prog 15 #[v] w fun r w' => r = .returned (.slice none 0 0) ∧ w' = w := by
  rcases h with rfl | ⟨B, rfl, _, h3⟩
  · go_enter Tryz.func15, Tryz.ntmps15
    go_wp2_with fail
    go_ret
    exact ⟨rfl, rfl⟩
  · have c2 : w.cell? ⟨B, 2, none⟩ = some (.slice none 0 0) := h3.cell 2
    clear h3
    go_enter Tryz.func15, Tryz.ntmps15
    go_wp2_with fail
    (go_at_call 37; refine (clone_nil _).mono ?_; rintro e w' ⟨rfl, hw'⟩; have hx' := hw'.symm; subst hx')
    go_wp2_with fail
    go_ret
    exact ⟨rfl, rfl⟩
set_option maxRecDepth 100000 in
set_option maxHeartbeats 4000000 in
theorem nghosts_calls (v : Value) (w : World) (h : NoneV w v) : Calls Tryz.prog 16 #[v] w fun r w' => r = .returned (.slice none 0 0) ∧ w' = w := by
  rcases h with rfl | ⟨B, rfl, _, h3⟩
  · go_enter Tryz.func16, Tryz.ntmps16
    go_wp2_with fail
    go_ret
    exact ⟨rfl, rfl⟩
  · have c3 : w.cell? ⟨B, 3, none⟩ = some (.slice none 0 0) := h3.cell 3
    clear h3
    go_enter Tryz.func16, Tryz.ntmps16
    go_wp2_with fail
    (go_at_call 37; refine (clone_nil _).mono ?_; rintro e w' ⟨rfl, hw'⟩; have hx' := hw'.symm; subst hx')
    go_wp2_with fail
    go_ret
    exact ⟨rfl, rfl⟩
end Go.Proofs.YtdkcibafbdmajabGreatDoor.B

/- What is proved here: a token that came in has the shape of a token. -/
namespace Go.Proofs.YtdkcibafbdmajabGreatDoor.B
open Go.ChangeShapes Go.WideShapes Go.ChangeAt Go.RowKit

theorem trod_struct6 {H : Type} {enc : TypeId × Value → H} {P : Program} {w : World} {base : Nat} {spare : Nat → Bool} {held : Bool} {t : TypeId} {f0 f1 f2 f3 f4 f5 : Field} {fuel : Nat} {cs : List Value} {x : DataW H × List MemPlace} (ht : P.underlying t = some (.struct #[f0, f1, f2, f3, f4, f5])) (h : DataW.trod enc P w base spare held fuel t cs = some x) :
    ∃ y0 y1 y2 y3 y4 y5 n, x.1 = .agg [y0.1, y1.1, y2.1, y3.1, y4.1, y5.1] ∧ DataW.trod enc P w base spare held n f0.type ((cs.drop f0.offset).take (P.cellsOf f0.type)) = some y0 ∧
      DataW.trod enc P w base spare held n f1.type ((cs.drop f1.offset).take (P.cellsOf f1.type)) = some y1 ∧ DataW.trod enc P w base spare held n f2.type ((cs.drop f2.offset).take (P.cellsOf f2.type)) = some y2 ∧
      DataW.trod enc P w base spare held n f3.type ((cs.drop f3.offset).take (P.cellsOf f3.type)) = some y3 ∧ DataW.trod enc P w base spare held n f4.type ((cs.drop f4.offset).take (P.cellsOf f4.type)) = some y4 ∧ DataW.trod enc P w base spare held n f5.type ((cs.drop f5.offset).take (P.cellsOf f5.type)) = some y5 := by
  obtain ⟨xs, n, _, rfl, hl, hlen, hf⟩ := DataW.trod_struct ht h
  match xs, hlen with
  | [y0, y1, y2, y3, y4, y5], _ => exact ⟨y0, y1, y2, y3, y4, y5, n, by simp, by simpa using hf 0 f0 rfl, by simpa using hf 1 f1 rfl, by simpa using hf 2 f2 rfl, by simpa using hf 3 f3 rfl, by simpa using hf 4 f4 rfl, by simpa using hf 5 f5 rfl⟩

set_option maxRecDepth 100000 in
theorem tok_cells {H : Type} {enc : TypeId × Value → H} {W : World} {c0 c1 c2 c3 c4 c5 c6 c7 : Value} {d : DataW H} {p : List MemPlace} {fuel : Nat} (hf : DataW.trod enc Tryz.prog W 0 (fun _ => true) true fuel 37 [c0, c1, c2, c3, c4, c5, c6, c7] = some (d, p)) :
    ∃ (k : Int) (nm tx : ByteArray) (sf : Bool) (p0 p1 p2 : Int), [c0, c1, c2, c3, c4, c5, c6, c7] = [.int .i64 k, .string nm, .string tx, c3, .bool sf, .int .i64 p0, .int .i64 p1, .int .i64 p2] := by
  obtain ⟨y0, y1, y2, y3, y4, y5, n, hx, t0, t1, t2, t3, t4, t5⟩ := trod_struct6 Tryz.underlying37 hf
  have k0 : Tryz.prog.cellsOf 32 = 1 := by kernel_rfl
  have k1 : Tryz.prog.cellsOf 9 = 1 := by kernel_rfl
  have k3 : Tryz.prog.cellsOf 33 = 1 := by kernel_rfl
  have k4 : Tryz.prog.cellsOf 4 = 1 := by kernel_rfl
  have k5 : Tryz.prog.cellsOf 35 = 3 := by kernel_rfl
  have k6 : Tryz.prog.cellsOf 3 = 1 := by kernel_rfl
  simp only [k0, k1, k3, k4, k5, List.drop_zero, List.drop_succ_cons, List.take_succ_cons, List.take_zero] at t0 t1 t2 t3 t4 t5
  obtain ⟨kind, e0, x0, _⟩ := DataW.trod_int Tryz.underlying32 t0
  obtain ⟨name, e1, x1, _⟩ := DataW.trod_string Tryz.underlying9 t1
  obtain ⟨text, e2, x2, _⟩ := DataW.trod_string Tryz.underlying9 t2
  obtain ⟨self, e4, x4⟩ := DataW.trod_bool Tryz.underlying4 t4
  obtain ⟨z0, z1, z2, m, _, _, s0, s1, s2⟩ := Deep.trod_struct3 Tryz.underlying35 t5
  simp only [k6, List.drop_zero, List.drop_succ_cons, List.take_succ_cons, List.take_zero] at s0 s1 s2
  obtain ⟨p0, e5, _⟩ := DataW.trod_int Tryz.underlying3 s0
  obtain ⟨p1, e6, _⟩ := DataW.trod_int Tryz.underlying3 s1
  obtain ⟨p2, e7, _⟩ := DataW.trod_int Tryz.underlying3 s2
  refine ⟨kind, name, text, self, p0, p1, p2, ?_⟩
  simp at e0 e1 e2 e4 e5 e6 e7
  rw [e0, e1, e2, e4, e5, e6, e7]
set_option maxRecDepth 100000 in
/-- A token that came in. -/
theorem tok_shape {H : Type} {enc : TypeId × Value → H} {W : World} {r : Reach} {b0 : Nat} {v : Value} {d : DataW H} {p : List MemPlace} (hval : Value.okWide Tryz.prog W r b0 37 v) (h : DataW.Trod enc Tryz.prog W 0 (fun _ => true) true 37 v d p) :
    ∃ (k : Int) (nm tx : ByteArray) (av : Value) (sf : Bool) (p0 p1 p2 : Int), v = .agg #[.int .i64 k, .string nm, .string tx, av, .bool sf, .int .i64 p0, .int .i64 p1, .int .i64 p2] := by
  obtain ⟨cells, rfl, hsz⟩ := okWide_struct Tryz.underlying37 hval
  rw [show Tryz.prog.cellsOf 37 = 8 by kernel_rfl] at hsz
  obtain ⟨c0, c1, c2, c3, c4, c5, c6, c7, rfl⟩ : ∃ c0 c1 c2 c3 c4 c5 c6 c7, cells = #[c0, c1, c2, c3, c4, c5, c6, c7] := by
    match cells, hsz with
    | ⟨[c0, c1, c2, c3, c4, c5, c6, c7]⟩, _ => exact ⟨c0, c1, c2, c3, c4, c5, c6, c7, rfl⟩
  obtain ⟨fuel, hf⟩ := h
  obtain ⟨k, nm, tx, sf, p0, p1, p2, he⟩ := tok_cells hf
  simp only [List.cons.injEq, and_true] at he
  obtain ⟨rfl, rfl, rfl, _, rfl, rfl, rfl, rfl⟩ := he
  exact ⟨k, nm, tx, c3, sf, p0, p1, p2, rfl⟩
end Go.Proofs.YtdkcibafbdmajabGreatDoor.B
