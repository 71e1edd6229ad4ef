/- What is proved here: the document's Decode of layer 12. -/
import Derived.Deep.RegionHeld3
import Derived.Test.YtkbegfdbfmfedaaGreatDoorBun12
import Derived.Test.YtkbegfdbfmfedaaGreatDoorLpDec
namespace Go.Proofs.YtkbegfdbfmfedaaGreatDoor.L
open Go.RowKit Go.Shelf Go.Proofs.YtkbegfdbfmfedaaGreatDoor.N Go.Proofs.YtkbegfdbfmfedaaGreatDoor.U

theorem step_own {P : Program} {w : World} {ops : Array Oper} {o : Oper} {a : Act} {K : Act → World → Prop} {Q : Exit → Act → World → Prop} {E : Prop} (hg : o.guard = none) (s x : Operand) (t : TypeId)
    (ho : o.op = .call { callee := .builtin .append, args := #[s, x], argTypes := #[t, t] })
    (base : Nat) (e : TypeId) (i : TypeInfo) (z : Value) (size bytes : Nat) (ht : P.underlying t = some (.slice e)) (hi : P.info? e = some i) (hz : i.zero = some z)
    (hsize : i.size = size) (hby : i.bytes = bytes) (hzs : z.cells.size = size) (hsz : 0 < size)
    (v : Value) (n : Nat) (xs : List Value) (hs : a.eval s = v) (hown : w.ownsRow base e size v n xs)
    (ad : Addr) (m c : Nat) (news : List Value) (hx : a.eval x = .slice (some ad) m c) (hl : news.length = m * size) (hnews : ∀ j u, news[j]? = some u → w.cell? (ad.add j) = some u) (h1 : ∀ u ∈ news, u.oneCell' = true)
    (h63 : n + m ≤ maxLen) (hbytes : (n + m) * bytes ≤ 140737488355328) (hbase : base ≤ w.heap.size)
    (h : ∀ v' w', w'.ownsRow base e size v' (n + m) (xs ++ news) → w.grownBy w' v.ownBlock → K (a.put o.dst v') w') :
    if Region.wanted o (yielded ops a.tmps) = true then Oper.wp P o a w K Q else E := by
  rw [if_pos (by simp [Region.wanted, hg])]
  exact wp_append_own w s x t ho base e i z size bytes ht hi hz hsize hby hzs hsz v n xs hs hown ad m c news hx hl hnews h1 h63 hbytes hbase (fun v' w' a b _ => h v' w' a b)
/-- One byte more, as a step of a region that draws. -/
theorem step_byte {w : World} {ops : Array Oper} {o : Oper} {a : Act} {K : Act → World → Prop} {Q : Exit → Act → World → Prop} {E : Prop} (hg : o.guard = none) (s x : Operand)
    (ho : o.op = .call { callee := .builtin .append, args := #[s, x], argTypes := #[45, 45] }) (base : Nat)
    (v : Value) (l : List UInt8) (hs : a.eval s = v) (hown : w.ownsRow base 5 1 v l.length (bvs l)) (B : Nat) (ch : UInt8) (hx : a.eval x = .slice (some ⟨B, 0, none⟩) 1 1) (hc : w.cell? ⟨B, 0, none⟩ = some (.int .u8 ch.toNat))
    (hl : l.length ≤ 100000000000000) (hbase : base ≤ w.heap.size)
    (h : ∀ v' w', w'.ownsRow base 5 1 v' (l ++ [ch]).length (bvs (l ++ [ch])) → w.grownBy w' v.ownBlock → K (a.put o.dst v') w') :
    if Region.wanted o (yielded ops a.tmps) = true then Oper.wp Tryz.prog o a w K Q else E := by
  obtain ⟨i0, hi, hz0, hz1, hz2⟩ := info_parts infoB
  refine step_own hg s x _ ho base _ i0 (.int .u8 0) 1 1 Tryz.underlying45 hi hz0 hz1 hz2 rfl (by decide) v _ _ hs hown ⟨B, 0, none⟩ 1 1 [.int .u8 ch.toNat] hx rfl ?_ (by simp [Value.oneCell']) (by unfold maxLen; omega) (by omega) hbase ?_
  · intro j u hj
    match j, hj with
    | 0, hj => simp at hj; subst hj; simpa [Addr.add] using hc
    | (j + 1), hj => simp at hj
  · intro v' w' h1 h2
    rw [← bvs_snoc] at h1
    exact h v' w' (by simpa using h1) h2
theorem mul_tab : ∀ x y : Fin 16, IntKind.u8.wrap (IntKind.i64.wrap (IntKind.i64.wrap (16 * (x.val : Int)) + (y.val : Int))) = 16 * (x.val : Int) + (y.val : Int) := by decide +kernel
theorem mul_hex (x y : Nat) (hx : x < 16) (hy : y < 16) : IntKind.u8.wrap (IntKind.i64.wrap (IntKind.i64.wrap (16 * (x : Int)) + (y : Int))) = 16 * (x : Int) + (y : Int) := mul_tab ⟨x, hx⟩ ⟨y, hy⟩
theorem rval_byte (c : UInt8) (W : World) : Calls Tryz.prog 112 #[.int .i32 (c.toNat : Int)] W fun e w' => e = .returned (.int .i64 (valueZ c.toNat)) ∧ w' = W := by
  have h := c.toNat_lt
  exact rvalue_calls (c.toNat : Int) (by omega) (by omega) W
theorem esc_at (s : List UInt8) (k : Nat) : escB (s.drop k) = ((s.getD k 0 == 37) && hexL s k) := by
  unfold escB
  rw [hexL_drop s k]
  congr 2
  simp [List.getD_eq_getElem?_getD]
set_option maxRecDepth 100000 in
set_option maxHeartbeats 4000000 in
/-- **Decode.** -/
theorem rdecode_calls (bs : List UInt8) (w : World) (hl : bs.length ≤ 1000000000) : Calls Tryz.prog 81 #[.string ⟨bs.toArray⟩] w fun e W' => e = .returned (.string ⟨(decL bs).toArray⟩) ∧ Below w.heap.size w W' := by
  have HM : Hid (Calls Tryz.prog 21 #[.string ⟨bs.toArray⟩] w fun e W' => e = .returned (.string ⟨(mendL bs).toArray⟩) ∧ Below w.heap.size w W') := R.rmend_calls bs w (by omega)
  have hml := mend_le bs
  have HDL : Hid (decL bs = mendL (decM (mendL bs))) := rfl
  obtain ⟨s, hS⟩ : ∃ s, mendL bs = s := ⟨_, rfl⟩
  rw [hS] at HM hml HDL
  have hss : s.length ≤ 4000000000 := by omega
  clear hS hml hl
  have ss := arr_size s
  go_enter Tryz.func81, Tryz.ntmps81
  go_wp2_with fail
  (go_at_call 21; refine HM.out.mono ?_; rintro e w1 ⟨rfl, hb1⟩)
  have z1 := hb1.size
  go_wp2_with fail
  go_loopw [3, 4] (fun vo vi wr => ∃ (k : Nat) (o : List UInt8) (a : Option Addr) (cap : Nat), k ≤ s.length ∧ vi = .int .i64 k ∧ vo = .slice a o.length cap ∧ Hid (wr.ownsRow w.heap.size 5 1 (.slice a o.length cap) o.length (bvs o)) ∧ Hid (o ++ decM (s.drop k) = decM s) ∧ o.length ≤ k ∧ Hid (Below w.heap.size w wr)) (fun _ vi _ => s.length - (intOf vi).toNat)
  case atStart => exact ⟨0, [], none, 0, by omega, rfl, rfl, World.ownsRow_nil _ _ _ _, rfl, by simp, hb1⟩
  case round =>
    clear hb1
    obtain ⟨k, o, a, cap, hk, rfl, rfl, hO, hD, hok, hB⟩ := hrel
    have zr := hB.out.size
    by_cases hlt : k < s.length
    · obtain ⟨c, hc⟩ : ∃ c, s.getD k 0 = c := ⟨_, rfl⟩
      have hix := byte_at s k c hlt hc (k : Int) rfl
      have HHX := hid_of (hexes_calls s k wr (by omega) hk)
      have e37 : ((c.toNat : Int) == 37) = (c == 37) := eq_byte c 37
      have HEA := hid_of (esc_at s k)
      rw [hc] at HEA
      cases he : escB (s.drop k) with
      | false =>
        have HD2 : Hid ((o ++ [c]) ++ decM (s.drop (k + 1)) = decM s) := by
          have h1 := hD.out
          rw [dec_step_plain s k hlt he, hc] at h1
          show _ = _
          rw [← h1]; simp
        have HOW := hid_of hO.out
        have hcs : (c == 37) = false ∨ ((c == 37) = true ∧ hexL s k = false) := by
          have h := HEA.out
          rw [he] at h
          cases h37 : (c == 37) with
          | false => exact .inl rfl
          | true => rw [h37] at h; exact .inr ⟨rfl, by simpa using h.symm⟩
        clear hc he hD hO HEA
        rcases hcs with x1 | ⟨x1, x2⟩
        all_goals
          rw [x1] at e37
          clear x1
          try (rw [x2] at HHX; clear x2)
          go_wp2_with (first
            | (go_at_call 111; refine HHX.out.mono ?_; rintro e w' ⟨rfl, hx⟩; obtain rfl : wr = w' := hx.symm)
            | (at_builtin; refine append_byte rfl _ _ rfl w.heap.size (.slice a o.length cap) o rfl (HOW.out.alloc _) wr.heap.size c rfl (cell_made _ _ _) (by omega) (by simp; omega) ?_; intro v' w4 hown' hgrow))
          obtain ⟨a2, cap2, rfl⟩ := U.owns_slice hown'
          go_wp2_with fail
          exact ⟨⟨k + 1, o ++ [c], a2, cap2, by omega, by go_num, rfl, hown', HD2, by simp; omega, (hB.out.alloc zr _).grown hgrow (by simp; omega) (fun j hj => (HOW.out.lt j hj).1)⟩, by simp [intOf]; omega⟩
      | true =>
        obtain ⟨hd1, hk2, hx1, hx2⟩ := dec_step_esc s k hlt he
        obtain ⟨c1, hc1⟩ : ∃ c, s.getD (k + 1) 0 = c := ⟨_, rfl⟩
        obtain ⟨c2, hc2⟩ : ∃ c, s.getD (k + 2) 0 = c := ⟨_, rfl⟩
        rw [hc1, hc2] at hd1
        rw [hc1] at hx1
        rw [hc2] at hx2
        have hi1 := byte_at s (k + 1) c1 (by omega) hc1 ((k : Int) + 1) (by omega)
        have hi2 := byte_at s (k + 2) c2 (by omega) hc2 ((k : Int) + 2) (by omega)
        obtain ⟨x, y, ex, ey, hx16, hy16, hxy⟩ := hexV_nat c1 c2 hx1 hx2
        have HD2 : Hid ((o ++ [hexV c1 c2]) ++ decM (s.drop (k + 3)) = decM s) := by
          have h1 := hD.out
          rw [hd1] at h1
          show _ = _
          rw [← h1]; simp
        have l1 := c1.toNat_lt
        have l2 := c2.toNat_lt
        have HV1 : Hid (∀ W, Calls Tryz.prog 112 #[.int .i32 (c1.toNat : Int)] W fun e w' => e = .returned (.int .i64 (x : Int)) ∧ w' = W) := by rw [← ex]; exact rval_byte c1
        have HV2 : Hid (∀ W, Calls Tryz.prog 112 #[.int .i32 (c2.toNat : Int)] W fun e w' => e = .returned (.int .i64 (y : Int)) ∧ w' = W) := by rw [← ey]; exact rval_byte c2
        have hcs : (c == 37) = true ∧ hexL s k = true := by
          have h := HEA.out
          rw [he] at h
          rw [eq_comm, Bool.and_eq_true] at h
          exact h
        rw [hcs.1] at e37
        rw [hcs.2] at HHX
        have HOW := hid_of hO.out
        have HXY := hid_of hxy
        clear hc he hD hO hc1 hc2 hd1 hx1 hx2 ex ey hxy hcs HEA
        go_wp2_with fail
        (go_at_call 111; refine HHX.out.mono ?_; rintro e w' ⟨rfl, hx⟩; obtain rfl : wr = w' := hx.symm)
        go_wp2_with fail
        have W1 : IntKind.i64.wrap ((k : Int) + 1) = (k : Int) + 1 := by rw [IntKind.wrap_i64]; omega
        have W2 : IntKind.i64.wrap ((k : Int) + 2) = (k : Int) + 2 := by rw [IntKind.wrap_i64]; omega
        have P1 : (0 : Int) ≤ (k : Int) + 1 := by omega
        have P2 : (0 : Int) ≤ (k : Int) + 2 := by omega
        have B1 : (k : Int) + 1 < (s.length : Int) := by omega
        have B2 : (k : Int) + 2 < (s.length : Int) := by omega
        have HV3 : Hid (∀ W, Calls Tryz.prog 112 #[.int .i32 (IntKind.i32.wrap (c1.toNat : Int))] W fun e w' => e = .returned (.int .i64 (x : Int)) ∧ w' = W) := by
          have e : IntKind.i32.wrap (c1.toNat : Int) = c1.toNat := by rw [IntKind.wrap_i32]; omega
          rw [e]; exact HV1.out
        have HV4 : Hid (∀ W, Calls Tryz.prog 112 #[.int .i32 (IntKind.i32.wrap (c2.toNat : Int))] W fun e w' => e = .returned (.int .i64 (y : Int)) ∧ w' = W) := by
          have e : IntKind.i32.wrap (c2.toNat : Int) = c2.toNat := by rw [IntKind.wrap_i32]; omega
          rw [e]; exact HV2.out
        have HVAL : Hid (IntKind.u8.wrap (IntKind.i64.wrap (IntKind.i64.wrap (16 * (x : Int)) + (y : Int))) = ((hexV c1 c2).toNat : Int)) := by
          show _ = _
          rw [HXY.out, mul_hex x y hx16 hy16]; omega
        go_region_held3 (fun _ => True) (exact trivial) (first
          | (go_at_call 112; with_reducible refine (HV3.out _).mono ?_; rintro e w' ⟨rfl, hx⟩; subst hx)
          | (go_at_call 112; with_reducible refine (HV4.out _).mono ?_; rintro e w' ⟨rfl, hx⟩; subst hx)
          | (refine step_byte rfl _ _ rfl w.heap.size (.slice a o.length cap) o (by simp [Act.eval]) ((owns_below HOW.out (Below.refl _ _).drew).alloc _) wr.heap.size (hexV c1 c2) (by simp [Act.eval]) (by rw [HVAL.out]; exact cell_made wr _ _) (by omega) (by simp; omega) ?_; intro v' w4 hown' hgrow; obtain ⟨a2, cap2, rfl⟩ := U.owns_slice hown'))
        all_goals go_wp2_with fail
        all_goals first
          | exact ⟨⟨k + 3, o ++ [hexV c1 c2], a2, cap2, by omega, by go_num, by rw [List.length_append]; rfl, hown', HD2, by simp; omega, (hB.out.alloc zr _).drew.grown hgrow (by simp; omega) (fun j hj => (HOW.out.lt j hj).1)⟩, by simp [intOf]; omega⟩
          | exact ⟨⟨k + 3, o ++ [hexV c1 c2], a2, cap2, by omega, by go_num, by rw [List.length_append]; rfl, hown', HD2, by simp; omega, (hB.out.drew.alloc zr _).grown hgrow (by simp; omega) (fun j hj => (HOW.out.lt j hj).1)⟩, by simp [intOf]; omega⟩
          | exact ⟨⟨k + 3, o ++ [hexV c1 c2], a2, cap2, by omega, by go_num, by rw [List.length_append]; rfl, hown', HD2, by simp; omega, (hB.out.drew.alloc zr _).drew.grown hgrow (by simp; omega) (fun j hj => (HOW.out.lt j hj).1)⟩, by simp [intOf]; omega⟩
    · obtain rfl : k = s.length := by omega
      have HV : Hid (o = decM s) := by have := hD.out; rw [List.drop_length, decM_nil, List.append_nil] at this; exact this
      have hcv := conv_bytes (hasB_owns hO.out).1
      have HMM : Hid (Calls Tryz.prog 21 #[.string ⟨o.toArray⟩] wr fun e W' => e = .returned (.string ⟨(mendL o).toArray⟩) ∧ Below wr.heap.size wr W') := R.rmend_calls o wr (by omega)
      go_wp2_with (go_at_call 21; refine HMM.out.mono ?_; rintro e w' ⟨rfl, hb'⟩)
      go_ret
      exact ⟨by rw [HDL.out, ← HV.out]; rfl, hB.out.trans (hb'.mono zr)⟩
end Go.Proofs.YtkbegfdbfmfedaaGreatDoor.L
