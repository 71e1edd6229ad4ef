/- What is proved here: a text, and an end tag, given to a balancer that they do not make too deep. -/
import Derived.Test.YtdkcibafbdmajabGreatDoorBaTake
import Derived.Test.YtdkcibafbdmajabGreatDoorNTrim
namespace Go.Proofs.YtdkcibafbdmajabGreatDoor.B
open Go.RowKit Go.Shelf Go.WideMaps Go.Maps Go.Proofs.YtdkcibafbdmajabGreatDoor.N Go.Proofs.YtdkcibafbdmajabGreatDoor.C Go.Proofs.YtdkcibafbdmajabGreatDoor.E

theorem wpList_lookup_nil {P : Program} (w : World) {ops : Array Oper} {rest : List Oper} {o : Oper} {a : Act} {Q : Exit → Act → World → Prop} (hg : o.guard = none) (m x : Operand) (t : TypeId) (hop : o.op = Op.lookup t m x false)
    (k e : TypeId) (K : Keyed P k) (ht : P.underlying t = some (.map k e)) {z : Value} (hz : (zeroValue e).run P w = .ok z w) (hm : a.eval m = .map none) (key : Value) (kl : Lit) (hx : a.eval x = key) (hkey : keyOf P k key = some kl)
    (hK : wpList P ops Q rest (a.put o.dst z) w) : wpList P ops Q (o :: rest) a w := by
  refine wpList_plain hg fun K' hK' => ?_
  have hrun := Maps.look_nil (w := w) false K ht hz hkey
  unfold Oper.wp
  simp [execOp, hop, hm, hx, hrun, Result.andThen]
  exact hK' _ _ hK
theorem zeroInt (w : World) : (zeroValue 3).run Tryz.prog w = .ok (.int .i64 0) w := by kernel_rfl
set_option maxRecDepth 100000 in
/-- The end of a ghost, where there are none. -/
theorem gend_calls (n B : Nat) (s : BSt) (x : Txt) (hx : x.length ≤ 10000000000) (w : World) (h : BalAt n B s w) :
    Calls Tryz.prog 81 #[.pointer (some ⟨B, 3, none⟩), .string ⟨x.toArray⟩] w fun r w' => r = .returned (.bool false) ∧ w' = w := by
  obtain ⟨v0, v1, v2, hb, _⟩ := h.blk
  have c4 : w.cell? ⟨B, 4, none⟩ = some (.map none) := hb.cell 4
  have hkey := key_tx x hx
  clear h hb
  go_enter Tryz.func81, Tryz.ntmps81
  go_wp2_with (at_lookup; refine wpList_lookup_nil _ rfl _ _ 63 rfl 9 3 (string_keyed Tryz.underlying9) Tryz.underlying63 (zeroInt _) rfl _ _ rfl hkey ?_)
  go_ret
  exact ⟨rfl, rfl⟩
/-- What an end tag does that closes something. -/
def endS (s : BSt) (x : Txt) : BSt := closedS s (endN s.S x).toNat
set_option maxRecDepth 100000 in
set_option maxHeartbeats 40000000 in
/-- **end**, where something is closed. -/
theorem end_calls (n B : Nat) (s : BSt) (x tx : Txt) (sf : Bool) (p0 p1 p2 : Int) (hcd : endCode s.S = 0) (hz : 0 < endN s.S x) (hf : Few s.S) (hlen : s.S.length ≤ 600) (hx : x.length ≤ 1000000000) (hE : s.E.length ≤ 800000000) (w : World) (h : BalAt n B s w) (hn : n ≤ w.heap.size) (hm : ∀ W, Below n w W → MaxOk W) :
    Calls Tryz.prog 47 #[.pointer (some ⟨B, 0, none⟩), .agg #[.int .i64 2, .string ⟨x.toArray⟩, .string ⟨tx.toArray⟩, .slice none 0 0, .bool sf, .int .i64 p0, .int .i64 p1, .int .i64 p2]] w fun r w' => (∃ v, r = .returned v) ∧ BalAt n B (endS s x) w' ∧ Fr B w w' := by
  obtain ⟨W1, hW1⟩ : ∃ W, w.alloc (.cells #[.int .i64 2, .string ⟨x.toArray⟩, .string ⟨tx.toArray⟩, .slice none 0 0, .bool sf, .int .i64 p0, .int .i64 p1, .int .i64 p2] 37) = W := ⟨_, rfl⟩
  have b1 : Below w.heap.size w W1 := by rw [← hW1]; exact (Below.refl _ w).alloc (Nat.le_refl _) _
  have q1 : Blk W1 w.heap.size #[.int .i64 2, .string ⟨x.toArray⟩, .string ⟨tx.toArray⟩, .slice none 0 0, .bool sf, .int .i64 p0, .int .i64 p1, .int .i64 p2] 37 := by rw [← hW1]; exact Blk.new _ _ _
  have HH1 := hid_of (h.below b1)
  have HNW : Hid (n ≤ W1.heap.size) := Nat.le_trans hn b1.size
  have HF1 : Hid (Fr B w W1) := Fr.of_below h.lt b1
  have HM1 : Hid (∀ W, Below W1.heap.size W1 W → MaxOk W) := fun W hW => hm W ((b1.mono hn).trans (hW.mono HNW.out))
  have HLB := hid_of HH1.out.lt
  have hn1 : endN s.S x ≤ s.S.length := by
    have h1 := ended_ge s.S s.S.length x
    unfold endN
    split
    · split <;> omega
    · omega
  have HES : Hid (endS s x = closedS s (endN s.S x).toNat) := rfl
  have HEN : Hid (∀ W, Below W1.heap.size W1 W → ∃ va vc, W.cell? ⟨B, 2, none⟩ = some (.slice va s.S.length vc) ∧ ∀ W', Below W.heap.size W W' → Calls Tryz.prog 82 #[.slice va s.S.length vc, .string ⟨x.toArray⟩] W' fun e w' => e = .returned (.tuple #[.int .i64 (endN s.S x), .int .i64 0]) ∧ Below W'.heap.size W' w') := fun W hW => by
    obtain ⟨v0, v1, v2, hb, o0, o1, o2⟩ := (HH1.out.below hW).blk
    obtain ⟨va, vc, rfl⟩ := owns_slice o2
    refine ⟨va, vc, hb.cell 2, fun W' hW' => ?_⟩
    have h := End_calls W' (HM1.out W' (hW.trans (hW'.mono hW.size))) va s.S vc ((stack_bal o2 hf hlen).below hW') x (by omega)
    rwa [hcd] at h
  have HGE := hid_of (fun W (hW : BalAt n B s W) => gend_calls n B s x (by omega) W hW)
  have HQ := hid_of q1
  have HW : Hid (w.alloc (.cells #[.int .i64 2, .string ⟨x.toArray⟩, .string ⟨tx.toArray⟩, .slice none 0 0, .bool sf, .int .i64 p0, .int .i64 p1, .int .i64 p2] 37) = W1) := hW1
  have e1 : W1.cell? ⟨w.heap.size, 1, none⟩ = some (.string ⟨x.toArray⟩) := q1.cell 1
  obtain ⟨k, hk⟩ : ∃ k : Nat, endN s.S x = (k : Int) := ⟨(endN s.S x).toNat, by omega⟩
  rw [hk] at HES HEN hz hn1
  rw [show ((k : Int)).toNat = k from rfl] at HES
  have hk0 : ((k : Int) == 0) = false := by rw [beq_eq_false_iff_ne]; omega
  have HCL := hid_of (fun W (hW : BalAt n B s W) (hnW : n ≤ W.heap.size) => close_calls n B s k (by omega) (by omega) (by omega) W hW hnW)
  clear h hm b1 q1 hW1 hf hcd hk
  go_enter Tryz.func47, Tryz.ntmps47
  go_upto_region 1 with fail
  rw [HW.out]
  clear HW
  go_cut [12] from 6 (fun v wx => v = .bool false ∧ Hid (Below W1.heap.size W1 wx))
  case first =>
    go_region_with (go_at_call 81; refine (HGE.out _ (HH1.out.below (by first | exact Below.refl _ _ | exact (Below.refl _ _).drew))).mono ?_; rintro e w' ⟨rfl, hw'⟩; have hx' := hw'.symm; subst hx')
    all_goals go_wp2_with fail
    all_goals go_meet
    all_goals exact ⟨rfl, (by first | exact Below.refl _ _ | exact (Below.refl _ _).drew)⟩
  case rest =>
    obtain ⟨rfl, HB2⟩ := hcut
    obtain ⟨va, vc, c2, HE⟩ := HEN.out _ HB2.out
    have HEC := hid_of HE
    have HQ2 := hid_of (HQ.out.below HB2.out)
    have e1' : wc.cell? ⟨w.heap.size, 1, none⟩ = some (.string ⟨x.toArray⟩) := HQ2.out.cell 1
    have HH2 := hid_of (HH1.out.below HB2.out)
    have HF2 : Hid (Fr B w wc) := HF1.out.trans (Fr.of_below HLB.out HB2.out)
    have HN2 : Hid (n ≤ wc.heap.size) := Nat.le_trans HNW.out HB2.out.size
    clear HE HEN e1 HQ HGE
    rename World => wd
    go_upto_region 2 with fail
    go_cut [4, 5] from 6 (fun v c wx => v = .int .i64 (k : Int) ∧ c = .int .i64 0 ∧ Hid (Below wd.heap.size wd wx))
    case first =>
      go_region_with (go_at_call 82; refine (HEC.out _ (by first | exact Below.refl _ _ | exact (Below.refl _ _).drew)).mono ?_; rintro e w4 ⟨rfl, hb4⟩; have hk4 : Below wd.heap.size wd w4 := (by first | exact hb4 | exact (Below.refl _ wd).drew.trans hb4))
      all_goals go_wp2_with fail
      all_goals go_meet
      all_goals exact ⟨rfl, rfl, hk4⟩
    case rest =>
      obtain ⟨rfl, rfl, HB3⟩ := hcut
      have HH3 := hid_of (HH2.out.below HB3.out)
      have HN3 : Hid (n ≤ wc.heap.size) := Nat.le_trans HN2.out HB3.out.size
      have HF3 : Hid (Fr B w wc) := HF2.out.trans (Fr.of_below HH2.out.lt HB3.out)
      go_wp2_with fail
      (go_at_call 58; refine (HCL.out _ HH3.out HN3.out).mono ?_; rintro e w5 ⟨⟨v5, rfl⟩, hb5, hk5⟩)
      go_wp2_with fail
      go_end0
      exact ⟨⟨_, rfl⟩, by rw [HES.out]; exact hb5, HF3.out.trans hk5⟩
end Go.Proofs.YtdkcibafbdmajabGreatDoor.B
