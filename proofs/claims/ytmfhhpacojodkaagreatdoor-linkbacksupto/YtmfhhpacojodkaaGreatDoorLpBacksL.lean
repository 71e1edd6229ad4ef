/- What is proved here: the statement LinkBacks (candidates and pairs that are written say themselves again, and so does a link told by a base) holds for texts up to the size that the statement's narrower form names, with no other condition but what the card says of the listed tables. -/
import Derived.Test.YtmfhhpacojodkaaGreatDoorCards
import Derived.Test.YtmfhhpacojodkaaGreatDoorTie
import Derived.Test.YtmfhhpacojodkaaGreatDoorBun18
import Derived.Test.YtmfhhpacojodkaaGreatDoorLpSrc
import Derived.Test.YtmfhhpacojodkaaGreatDoorBun20
import Derived.Test.YtmfhhpacojodkaaGreatDoorBun19
import Derived.Test.YtmfhhpacojodkaaGreatDoorLpQuery
import Derived.Test.YtmfhhpacojodkaaGreatDoorBun21
import Derived.Test.YtmfhhpacojodkaaGreatDoorLkPut2
import Derived.Test.YtmfhhpacojodkaaGreatDoorLpRelative
import Derived.Test.YtmfhhpacojodkaaGreatDoorBun23
import Derived.Test.YtmfhhpacojodkaaGreatDoorLpAwake
import Derived.Lib.QuietBelow
import Derived.Deep.RegionHeld3
import Derived.Deep.CutRange
import Derived.ChangeSame
import Derived.ProofKit
import Derived.OpenShut
namespace Go.Proofs.YtmfhhpacojodkaaGreatDoor.LpBacksL
open Go.ChangeShapes Go.WideShapes Go.ChangeAt Go.RowKit Go.Shelf U N L

theorem set_small (l : List Two) : ∀ k, (cPre l k).length ≤ 4 * ((l.take k).map fun x => x.1.length + x.2.length).sum + 3 * k
  | 0 => by simp [cPre]
  | k + 1 => by
    have ih := set_small l k
    rw [cPre_succ, List.length_append]
    have h1 : (cC l k).length ≤ 4 * ((l.getD k ([], [])).1.length + (l.getD k ([], [])).2.length) + 3 := by
      have h1 := mend_le (l.getD k ([], [])).1
      have h2 := mend_le (l.getD k ([], [])).2
      have hd : (if k = 0 then ([] : List UInt8) else [44, 32]).length ≤ 2 := by split <;> simp
      have hd2 : (if (l.getD k ([], [])).2 == [] then ([] : List UInt8) else [32] ++ mendL (l.getD k ([], [])).2).length ≤ 1 + (mendL (l.getD k ([], [])).2).length := by split <;> simp <;> omega
      unfold cC
      simp only [List.length_append]
      omega
    by_cases hk : k < l.length
    · rw [List.take_succ_eq_append_getElem hk, List.map_append, List.sum_append]
      rw [getD_two l k hk] at h1
      simp only [List.map_cons, List.map_nil, List.sum_cons, List.sum_nil]
      omega
    · have e : l.getD k ([], []) = ([], []) := by rw [List.getD_eq_getElem?_getD, List.getElem?_eq_none (by omega)]; rfl
      rw [e] at h1
      simp only [List.length_nil] at h1
      rw [List.take_of_length_le (by omega : l.length ≤ k + 1)]
      rw [List.take_of_length_le (by omega : l.length ≤ k)] at ih
      omega
where getD_two (l : List Two) (k : Nat) (h : k < l.length) : l.getD k ([], []) = l[k] := by simp [h]
theorem query_small (l : List Two) : ∀ k, (qPre l k).length ≤ 12 * ((l.take k).map fun x => x.1.length + x.2.length).sum + 2 * k
  | 0 => by simp [qPre]
  | k + 1 => by
    have ih := query_small l k
    rw [qPre_succ, List.length_append]
    have h1 : (qC l k).length ≤ 12 * ((l.getD k ([], [])).1.length + (l.getD k ([], [])).2.length) + 2 := by
      have h1 := formL_le (l.getD k ([], [])).1
      have h2 := formL_le (l.getD k ([], [])).2
      have hd : (if k = 0 then ([] : List UInt8) else [38]).length ≤ 1 := by split <;> simp
      unfold qC
      simp only [List.length_append, List.length_singleton]
      omega
    by_cases hk : k < l.length
    · rw [List.take_succ_eq_append_getElem hk, List.map_append, List.sum_append]
      rw [set_small.getD_two l k hk] at h1
      simp only [List.map_cons, List.map_nil, List.sum_cons, List.sum_nil]
      omega
    · have e : l.getD k ([], []) = ([], []) := by rw [List.getD_eq_getElem?_getD, List.getElem?_eq_none (by omega)]; rfl
      rw [e] at h1
      simp only [List.length_nil] at h1
      rw [List.take_of_length_le (by omega : l.length ≤ k + 1)]
      rw [List.take_of_length_le (by omega : l.length ≤ k)] at ih
      omega
theorem setK_small (l : List Two) : (setK l).length ≤ 4 * sumT l + 3 * l.length := by
  have := set_small l l.length
  rw [List.take_length] at this
  exact this
theorem queryK_small (l : List Two) : (queryK l).length ≤ 12 * sumT l + 2 * l.length := by
  have := query_small l l.length
  rw [List.take_length] at this
  exact this
theorem val_of_ok {bs : List UInt8} (h : (pcs bs).all Pc.ok = true) : Val bs := by
  have := again_iff bs
  rw [h, decide_eq_true_eq] at this
  have h2 : mendL bs = bs := this
  rw [← h2]
  exact val_mend bs
theorem same_relative (b t : Lk) (h : sameK (resolveK b t) t = true) : sameK (resolveK b (relativeK b t)) t = true := by
  unfold relativeK
  split
  · assumption
  split
  · assumption
  split
  · assumption
  split
  · assumption
  split
  · assumption
  · exact h
theorem relative_vals {b t : Lk} (h : t.Vals) : (relativeK b t).mend = relativeK b t := by
  obtain ⟨h1, h2, h3, h4, h5⟩ := refs_mend h
  unfold relativeK
  split
  · exact h1
  split
  · exact h2
  split
  · exact h3
  split
  · exact h4
  split
  · exact h5
  · exact h.mend
theorem relative_small {b t : Lk} {n : Nat} (h : t.Small n) : (relativeK b t).Small n := by
  obtain ⟨h1, h2, h3, h4, h5⟩ := refs_small h
  unfold relativeK
  split
  · exact h1
  split
  · exact h2
  split
  · exact h3
  split
  · exact h4
  split
  · exact h5
  · exact h
theorem split_small (s : List UInt8) (n : Nat) (h : s.length ≤ n) : (splitK s).Small n := by
  have host_le : ∀ B : List UInt8, (hostK B).2.1.length ≤ B.length ∧ (hostK B).2.2.length ≤ B.length := fun B => by
    rcases hostK_cases B with ⟨_, k2, k3⟩ | ⟨C, eB, hC⟩
    · rw [k2, k3]; simp
    · rw [hC, eB]; simp; omega
  have parts_small : ∀ (sc : List UInt8) (hb : Bool) (r : List UInt8), sc.length ≤ n → r.length ≤ n → (partsK sc hb r).Small n := fun sc hb r h1 h2 => by
    have hA : (aheadK r).length ≤ r.length := by unfold aheadK; simp; omega
    have hB := host_le ((aheadK r).take (upToL [63] (aheadK r)))
    have hC : ((aheadK r).take (upToL [63] (aheadK r))).length ≤ (aheadK r).length := by simp; omega
    refine ⟨h1, ?_, ?_, ?_, ?_⟩
    · show (hostK ((aheadK r).take (upToL [63] (aheadK r)))).2.1.length ≤ n; omega
    · show (hostK ((aheadK r).take (upToL [63] (aheadK r)))).2.2.length ≤ n; omega
    · show ((aheadK r).drop (upToL [63] (aheadK r) + 1)).length ≤ n; simp; omega
    · show (r.drop (upToL [35] r + 1)).length ≤ n; simp; omega
  cases hc : colonL s with
  | none => rw [split_none hc]; exact parts_small _ _ _ (by simp) h
  | some k => rw [split_some hc]; exact parts_small _ _ _ (by simp [lower]; omega) (by simp; omega)
theorem small_up {l : Lk} {n m : Nat} (h : l.Small n) (hm : n ≤ m) : l.Small m := ⟨Nat.le_trans h.sc hm, Nat.le_trans h.ho hm, Nat.le_trans h.pa hm, Nat.le_trans h.qu hm, Nat.le_trans h.fr hm⟩
theorem cell_regrown {W : World} {B : Nat} {cs : Array Value} {t : TypeId} (h : Blk W B cs t) (j : Nat) (v : Value) (hj : cs[j]? = some v) (d : Nat) (os : Array Obj) : (Go.Sort.grow (redrawn W d) os).cell? ⟨B, j, none⟩ = some v := by
  have := (h.below (below_regrown W d os)).cell j
  rw [this, hj]
theorem step_two {w : World} {ops : Array Oper} {o : Oper} {a : Act} {K : Act → World → Prop} {Q : Exit → Act → World → Prop} {E : Prop} (hg : o.guard = none) (s x : Operand)
    (ho : o.op = .call { callee := .builtin .append, args := #[s, x], argTypes := #[23, 23] }) (base : Nat) (v : Value) (l : List Two) (hs : a.eval s = v) (hown : OwnW 36 base w v l)
    (B : Nat) (t : Two) (hx : a.eval x = .slice (some ⟨B, 0, none⟩) 1 1) (h0 : w.cell? ⟨B, 0, none⟩ = some (.string ⟨t.1.toArray⟩)) (h1 : w.cell? ⟨B, 1, none⟩ = some (.string ⟨t.2.toArray⟩)) (hl : l.length ≤ 100000000000) (hbase : base ≤ w.heap.size)
    (h : ∀ v' w', OwnW 36 base w' v' (l ++ [t]) → w.grownBy w' v.ownBlock → K (a.put o.dst v') w') :
    if Region.wanted o (yielded ops a.tmps) = true then Oper.wp Tryz.prog o a w K Q else E := by
  obtain ⟨i0, hi, hz0, hz1, hz2⟩ := info_parts infoAttr
  rw [if_pos (by simp [Region.wanted, hg])]
  refine wp_append_own w s x _ ho base _ i0 _ 2 32 Tryz.underlying23 hi hz0 hz1 hz2 rfl (by decide) v _ _ hs hown ⟨B, 0, none⟩ 1 1 [.string ⟨t.1.toArray⟩, .string ⟨t.2.toArray⟩] hx rfl ?_ (by simp [Value.oneCell']) (by unfold maxLen; omega) (by omega) hbase ?_
  · intro j u hj
    match j, hj with
    | 0, hj => simp at hj; subst hj; simpa [Addr.add] using h0
    | 1, hj => simp at hj; subst hj; simpa [Addr.add] using h1
    | (j + 2), hj => simp at hj
  · intro v' w' r1 r2 _
    rw [← twv_snoc] at r1
    exact h v' w' (by simpa [OwnW] using r1) r2
theorem below_all {w0 w : World} (hb : Below w0.heap.size w0 w) (o : Obj) : Below w0.heap.size w0 (w.alloc o) := hb.alloc hb.size o
theorem below_drew {w0 w : World} (hb : Below w0.heap.size w0 w) : Below w0.heap.size w0 w.drew := hb.drew
theorem below_on {w0 w w' : World} (hb : Below w0.heap.size w0 w) (h : Below w.heap.size w w') : Below w0.heap.size w0 w' := hb.trans (h.mono hb.size)
theorem below_put {w0 w : World} (hb : Below w0.heap.size w0 w) {g : Nat} (hg : w0.heap.size ≤ g) (i : Nat) (v : Value) : Below w0.heap.size w0 (w.setCell ⟨g, i, none⟩ v) := below_setCell hb hg i v
theorem under2 (W : World) (o1 o2 : Obj) (p : Addr) (v : Value) (hp : p.block < W.heap.size) (h : W.cell? p = some v) : ((W.alloc o1).alloc o2).cell? p = some v := by
  rw [C.cell_under _ _ _ (by simp; omega), C.cell_under _ _ _ hp]
  exact h
def cellsOf (l : Lk) : Array Value := #[.string ⟨l.sc.toArray⟩, .string ⟨l.ho.toArray⟩, .string ⟨l.pa.toArray⟩, .string ⟨l.qu.toArray⟩, .string ⟨l.fr.toArray⟩, .bool l.hs, .bool l.hh, .bool l.hq, .bool l.hf]
theorem neq_links (l m : Lk) (w : World) : (binOp .neq 42 l.v m.v).run Tryz.prog w = .ok (.bool (!sameK l m)) w := by
  have h := equalIn_links l m w
  unfold Lk.v at h ⊢
  rw [run_neq_struct, h]
  rfl
theorem neq_guard (l m : Lk) (x y : Operand) (w : World) : (eqGuard .neq 42 x y l.v m.v).run Tryz.prog w = .ok () w := by
  unfold Lk.v
  exact run_eqGuard_agg w .neq 42 x y _ _ (by kernel_rfl)
set_option maxRecDepth 100000 in
set_option maxHeartbeats 16000000 in
theorem walk_on (w : World) (hT : Tb w) (hM : MaxP w) (hMo : MaxOk w) (a : Option Addr) (cap : Nat) (l : List Two) (hL : TwosAt w a l) (hl : l.length + sumT l ≤ 1048576) (qa : Option Addr) (qcap : Nat) (q : List Two) (hQ : TwosAt w qa q) (hq : q.length + sumT q ≤ 1048576) (pb pt : List UInt8) (hp : pb.length + pt.length ≤ 1048576) :
    Calls Tryz.prog 3 #[.slice a l.length cap, .slice qa q.length qcap, .agg #[.string ⟨pb.toArray⟩, .string ⟨pt.toArray⟩]] w fun e w' => e = .returned (.bool true) ∧ Below w.heap.size w w' := by
  have mixed : Tryz.prog.follows .mixedOrders = true := by kernel_rfl
  obtain ⟨W0, hW0⟩ : ∃ W0, w.alloc (.cells #[.string ⟨pb.toArray⟩, .string ⟨pt.toArray⟩] 25) = W0 := ⟨_, rfl⟩
  have hb0 : Below w.heap.size w W0 := by rw [← hW0]; exact (Below.refl _ w).alloc (Nat.le_refl _) _
  have z0 : w.heap.size < W0.heap.size := by rw [← hW0]; simp
  have HBOX : Hid (W0.heap[w.heap.size]? = some (.cells #[.string ⟨pb.toArray⟩, .string ⟨pt.toArray⟩] 25 (0, 0))) := by rw [← hW0]; exact World.alloc_heap_new w _
  have HT := hid_of (hT.below hb0)
  have HMP := hid_of (hM.below hb0)
  have HMO := hid_of (hMo.below hb0)
  have HA := hid_of (hL.below hb0)
  have HQA := hid_of (hQ.below hb0)
  have HB0 := hid_of hb0
  have HZ0 := hid_of z0
  have HW0 := hid_of hW0
  have HLS : Hid (∀ x ∈ l, x.1.length + x.2.length ≤ 1048576) := fun x hx => by have := sumT_mem hx; omega
  have HQS : Hid (∀ x ∈ q, x.1.length + x.2.length ≤ 1048576) := fun x hx => by have := sumT_mem hx; omega
  have hll : l.length ≤ 1048576 := by omega
  have hql : q.length ≤ 1048576 := by omega
  have HSL : Hid ((setK l).length ≤ 100000000) := by have := setK_small l; show _ ≤ _; omega
  have HQL : Hid ((queryK q).length ≤ 100000000) := by have := queryK_small q; show _ ≤ _; omega
  have HPL : Hid (pb.length ≤ 1048576 ∧ pt.length ≤ 1048576) := ⟨by omega, by omega⟩
  clear hW0 hb0 z0 hT hM hMo hL hQ hl hq hp
  have HSR : Hid (∀ (s : List UInt8) W, Below W0.heap.size W0 W → s.length ≤ 100000000 → Calls Tryz.prog 5 #[.string ⟨s.toArray⟩] W fun e W' => ∃ v, e = .returned (.tuple #[v, .bool (srcK (mendL s)).2]) ∧ OwnW 27 W.heap.size W' v (srcK (mendL s)).1 ∧ Below W.heap.size W W') := fun s W h hs => srcset_calls s W (HT.out.below h) hs
  have HVA : Hid (∀ (t : List UInt8) W cap, t.length ≤ 1048576 → t.length ≤ cap → Calls Tryz.prog 4 #[.slice (some ⟨W.heap.size, 0, none⟩) t.length cap] (Lib.bytesWorld W 5 ⟨t.toArray⟩) fun e w' => e = .returned (.bool ((pcs t).all Pc.ok)) ∧ Below (Lib.bytesWorld W 5 ⟨t.toArray⟩).heap.size (Lib.bytesWorld W 5 ⟨t.toArray⟩) w') := fun t W cap ht hc =>
    rvalid_calls _ t (W.heap.size + 1) _ (by omega) (RowB.hasB0 rfl (bytesWorld_row W 5 t) hc _ (Nat.lt_succ_self _))
  go_enter Tryz.func3, Tryz.ntmps3
  go_wp2_with fail
  rw [HW0.out]
  go_loopw [7, 24] (fun vo vi wr => ∃ (k : Nat) (ok : Bool), k ≤ l.length ∧ vi = .int .i64 k ∧ vo = .bool ok ∧ Hid (ok = true → ∀ j, j < k → GoodC (l.getD j ([], []))) ∧ Hid (Below W0.heap.size W0 wr)) (fun _ vi _ => l.length - (intOf vi).toNat)
  case atStart => exact ⟨0, true, by omega, rfl, rfl, fun _ j hj => by omega, Below.refl _ _⟩
  case round =>
    obtain ⟨k, ok, hk, rfl, rfl, hG, hB⟩ := hrel
    have zr := hB.out.size
    by_cases hlt : k < l.length
    · as_aux_lemma =>
        obtain ⟨b0, o0, rfl, d0, d1⟩ := HA.out.below hB.out k hlt
        have hxx : (l.getD k ([], [])).1.length + (l.getD k ([], [])).2.length ≤ 1048576 := by
          rw [List.getD_eq_getElem?_getD, List.getElem?_eq_getElem hlt]
          exact HLS.out _ (List.getElem_mem hlt)
        obtain ⟨⟨x, y⟩, hxy⟩ : ∃ t, l.getD k ([], []) = t := ⟨_, rfl⟩
        rw [hxy] at d0 d1 hxx
        simp only at d0 d1 hxx
        have hG2 : Hid (∀ ok2 : Bool, (ok2 = true → ok = true ∧ GoodC (x, y)) → ok2 = true → ∀ j, j < k + 1 → GoodC (l.getD j ([], []))) := fun ok2 h h2 j hj => by
          obtain ⟨h3, h4⟩ := h h2
          by_cases e : j = k
          · rw [e, hxy]; exact h4
          · exact hG.out h3 j (by omega)
        have hxl : x.length ≤ 1048576 := by omega
        have hyl : y.length ≤ 1048576 := by omega
        clear hxy hG hxx
        go_upto_region 5 with fail
        obtain ⟨W1, hW1⟩ : ∃ W1, wr.alloc (.cells #[.string ⟨x.toArray⟩, .string ⟨y.toArray⟩] 27) = W1 := ⟨_, rfl⟩
        have HB1 : Hid (Below W0.heap.size W0 W1) := by rw [← hW1]; exact hB.out.alloc zr _
        have HK1 : Hid (W1.heap[wr.heap.size]? = some (.cells #[.string ⟨x.toArray⟩, .string ⟨y.toArray⟩] 27 (0, 0))) := by rw [← hW1]; exact World.alloc_heap_new wr _
        rw [hW1]
        clear hW1 d0 d1
        obtain ⟨A, hA⟩ : ∃ A, wr.heap.size = A := ⟨_, rfl⟩
        rw [hA] at HK1 ⊢
        have HAZ : Hid (W0.heap.size ≤ A) := by show _ ≤ _; rw [← hA]; exact zr
        clear hA hB zr
        have t0 : W1.cell? ⟨A, 0, none⟩ = some (.string ⟨x.toArray⟩) := by rw [cell_of_row _ _ _ _ _ _ HK1.out]; rfl
        have t1 : W1.cell? ⟨A, 1, none⟩ = some (.string ⟨y.toArray⟩) := by rw [cell_of_row _ _ _ _ _ _ HK1.out]; rfl
        have sx := arr_size x
        have sy := arr_size y
        go_upto_region 6 with fail
        go_cut [7] from 31 to 148 (fun vo wx => ∃ ok1 : Bool, vo = .bool ok1 ∧ Hid (ok1 = true → ok = true ∧ (∃ c t, x = c :: t ∧ (c == 44) = false) ∧ (∃ p d, x = p ++ [d] ∧ (d == 44) = false) ∧ Val x) ∧ Hid (wx.heap[A]? = some (.cells #[.string ⟨x.toArray⟩, .string ⟨y.toArray⟩] 27 (0, 0))) ∧ Hid (Below W0.heap.size W0 wx))
        case first =>
          cases ok with
          | false =>
            go_wp2_with fail
            go_meet
            exact ⟨false, rfl, (fun h => by cases h), HK1, HB1⟩
          | true =>
            by_cases hx0 : x = []
            · subst hx0
              go_wp2_with fail
              go_meet
              exact ⟨false, rfl, (fun h => by cases h), HK1, HB1⟩
            · have hpos : 0 < x.length := List.length_pos_iff.2 hx0
              have dk : decide ((x.length : Int) > 0) = true := by rw [decide_eq_true_eq]; omega
              have dk2 : decide (0 < x.length) = true := by rw [decide_eq_true_eq]; omega
              have hi0 := L.byte_at x 0 _ (by omega) rfl 0 rfl
              have hi1 := L.byte_at x (x.length - 1) _ (by omega) rfl ((x.length : Int) - 1) (by omega)
              have hf : ∃ t, x = x.getD 0 0 :: t := by cases x with
                | nil => exact absurd rfl hx0
                | cons c t => exact ⟨t, rfl⟩
              have hla : ∃ p, x = p ++ [x.getD (x.length - 1) 0] := ⟨x.take (x.length - 1), by
                have h1 := List.take_succ_eq_append_getElem (l := x) (i := x.length - 1) (by omega)
                rw [show x.length - 1 + 1 = x.length by omega, List.take_length] at h1
                rw [getD_at x _ (by omega)]
                exact h1⟩
              obtain ⟨c, hc⟩ : ∃ c, x.getD 0 0 = c := ⟨_, rfl⟩
              obtain ⟨d, hd⟩ : ∃ d, x.getD (x.length - 1) 0 = d := ⟨_, rfl⟩
              rw [hc] at hi0 hf
              rw [hd] at hi1 hla
              have HF := hid_of hf
              have HLA := hid_of hla
              clear hc hd hf hla hx0
              have e1 : ((c.toNat : Int) == 44) = (c == 44) := eq_byte c 44
              have n1 : ((c.toNat : Int) != 44) = !(c == 44) := by show (!_) = _; rw [e1]
              have e2 : ((d.toNat : Int) == 44) = (d == 44) := eq_byte d 44
              have n2 : ((d.toNat : Int) != 44) = !(d == 44) := by show (!_) = _; rw [e2]
              cases hc4 : (c == 44) with
              | true =>
                rw [hc4] at e1 n1
                simp only [Bool.not_true] at n1
                clear hc4
                go_wp2_with fail
                go_meet
                exact ⟨false, rfl, (fun h => by cases h), HK1, HB1⟩
              | false =>
                have HC4 := hid_of hc4
                rw [hc4] at e1 n1
                simp only [Bool.not_false] at n1
                clear hc4
                cases hd4 : (d == 44) with
                | true =>
                  rw [hd4] at e2 n2
                  simp only [Bool.not_true] at n2
                  clear hd4
                  go_wp2_with fail
                  go_meet
                  exact ⟨false, rfl, (fun h => by cases h), HK1, HB1⟩
                | false =>
                  have HD4 := hid_of hd4
                  rw [hd4] at e2 n2
                  simp only [Bool.not_false] at n2
                  clear hd4
                  have hbw : Below W1.heap.size W1 (Lib.bytesWorld W1 5 ⟨x.toArray⟩) := bytesWorld_below W1 5 ⟨x.toArray⟩
                  have HBW := hid_of hbw
                  clear hbw
                  have hcv := Lib.run_convert_string_bytes (P := Tryz.prog) W1 9 29 5 ⟨x.toArray⟩ Tryz.underlying9 Tryz.underlying29 Tryz.underlying5
                  rw [arr_size] at hcv
                  go_wp2_with fail
                  (go_at_call 4; refine (HVA.out x _ _ (by omega) (grownCap_ge _ _ _ _)).mono ?_; rintro e w2 ⟨rfl, hb2⟩)
                  have hb3 := HBW.out.trans (hb2.mono HBW.out.size)
                  have HK2 : Hid (w2.heap[A]? = some (.cells #[.string ⟨x.toArray⟩, .string ⟨y.toArray⟩] 27 (0, 0))) := (hb3.block _ (Array.getElem?_eq_some_iff.1 HK1.out).1).trans HK1.out
                  have HB2 := hid_of (HB1.out.trans (hb3.mono HB1.out.size))
                  have HVO : Hid ((pcs x).all Pc.ok = true → Val x) := val_of_ok
                  generalize (pcs x).all Pc.ok = va at *
                  clear hb2 hb3
                  go_wp2_with fail
                  go_meet
                  obtain ⟨tt, htt⟩ := HF.out
                  obtain ⟨pp, hpp⟩ := HLA.out
                  exact ⟨va, rfl, fun h => ⟨by trivial, ⟨c, tt, htt, HC4.out⟩, ⟨pp, d, hpp, HD4.out⟩, HVO.out h⟩, HK2, HB2⟩
        case rest =>
          obtain ⟨ok1, rfl, HO1, HK2, HB2⟩ := hcut
          clear HK1 HB1 t0 t1
          rename World => w2
          have t0 : w2.cell? ⟨A, 0, none⟩ = some (.string ⟨x.toArray⟩) := by rw [cell_of_row _ _ _ _ _ _ HK2.out]; rfl
          have t1 : w2.cell? ⟨A, 1, none⟩ = some (.string ⟨y.toArray⟩) := by rw [cell_of_row _ _ _ _ _ _ HK2.out]; rfl
          go_wp2_with fail
          go_loopw [7, 57] (fun vo vi wr => ∃ (j : Nat) (ok2 : Bool), j ≤ x.length ∧ vi = .int .i64 j ∧ vo = .bool ok2 ∧ Hid (ok2 = true → ok1 = true ∧ ∀ i, i < j → gapS (x.getD i 0) = false) ∧ wr = w2) (fun _ vi _ => x.length - (intOf vi).toNat)
          case atStart => exact ⟨0, ok1, by omega, rfl, rfl, fun h => ⟨h, fun i hi => by omega⟩, by trivial⟩
          case round =>
            obtain ⟨j, ok2, hj, rfl, rfl, hG3, hwr⟩ := hrel
            obtain rfl : w2 = wr := hwr.symm
            clear hwr
            by_cases hjl : j < x.length
            · have hix := L.byte_at x j _ hjl rfl (j : Int) rfl
              obtain ⟨c, hc⟩ : ∃ c, x.getD j 0 = c := ⟨_, rfl⟩
              rw [hc] at hix
              have HN : Hid (gapS c = false → ok2 = true → ok1 = true ∧ ∀ i, i < j + 1 → gapS (x.getD i 0) = false) := fun hg h2 => by
                obtain ⟨h3, h4⟩ := hG3.out h2
                refine ⟨h3, fun i hi => ?_⟩
                by_cases e : i = j
                · rw [e, hc]; exact hg
                · exact h4 i (by omega)
              have HG5 : Hid ((c == 9) = false → (c == 10) = false → (c == 12) = false → (c == 13) = false → (c == 32) = false → gapS c = false) := gap_five
              clear hG3 hc
              cases ok2 with
              | false =>
                go_wp2_with fail
                exact ⟨⟨j + 1, false, by omega, by go_num, rfl, (fun h => by cases h), by trivial⟩, by simp [intOf]; omega⟩
              | true =>
                have e9 : ((c.toNat : Int) == 9) = (c == 9) := eq_byte c 9
                have n9 : ((c.toNat : Int) != 9) = !(c == 9) := by show (!_) = _; rw [e9]
                have e10 : ((c.toNat : Int) == 10) = (c == 10) := eq_byte c 10
                have n10 : ((c.toNat : Int) != 10) = !(c == 10) := by show (!_) = _; rw [e10]
                have e12 : ((c.toNat : Int) == 12) = (c == 12) := eq_byte c 12
                have n12 : ((c.toNat : Int) != 12) = !(c == 12) := by show (!_) = _; rw [e12]
                have e13 : ((c.toNat : Int) == 13) = (c == 13) := eq_byte c 13
                have n13 : ((c.toNat : Int) != 13) = !(c == 13) := by show (!_) = _; rw [e13]
                have e32 : ((c.toNat : Int) == 32) = (c == 32) := eq_byte c 32
                have n32 : ((c.toNat : Int) != 32) = !(c == 32) := by show (!_) = _; rw [e32]
                generalize (c == 9) = f9 at *
                generalize (c == 10) = f10 at *
                generalize (c == 12) = f12 at *
                generalize (c == 13) = f13 at *
                generalize (c == 32) = f32 at *
                have hcs : f9 = true ∨ (f9 = false ∧ f10 = true) ∨ (f9 = false ∧ f10 = false ∧ f12 = true) ∨ (f9 = false ∧ f10 = false ∧ f12 = false ∧ f13 = true) ∨ (f9 = false ∧ f10 = false ∧ f12 = false ∧ f13 = false ∧ f32 = true) ∨ (f9 = false ∧ f10 = false ∧ f12 = false ∧ f13 = false ∧ f32 = false) := by cases f9 <;> cases f10 <;> cases f12 <;> cases f13 <;> cases f32 <;> simp
                rcases hcs with rfl | ⟨rfl, rfl⟩ | ⟨rfl, rfl, rfl⟩ | ⟨rfl, rfl, rfl, rfl⟩ | ⟨rfl, rfl, rfl, rfl, rfl⟩ | ⟨rfl, rfl, rfl, rfl, rfl⟩
                all_goals simp only [Bool.not_true, Bool.not_false] at n9 n10 n12 n13 n32
                · clear e10 n10 e12 n12 e13 n13 e32 n32
                  go_wp2_with fail
                  exact ⟨⟨j + 1, false, by omega, by go_num, rfl, (fun h => by cases h), by trivial⟩, by simp [intOf]; omega⟩
                · clear e12 n12 e13 n13 e32 n32
                  go_wp2_with fail
                  exact ⟨⟨j + 1, false, by omega, by go_num, rfl, (fun h => by cases h), by trivial⟩, by simp [intOf]; omega⟩
                · clear e13 n13 e32 n32
                  go_wp2_with fail
                  exact ⟨⟨j + 1, false, by omega, by go_num, rfl, (fun h => by cases h), by trivial⟩, by simp [intOf]; omega⟩
                · clear e32 n32
                  go_wp2_with fail
                  exact ⟨⟨j + 1, false, by omega, by go_num, rfl, (fun h => by cases h), by trivial⟩, by simp [intOf]; omega⟩
                · go_wp2_with fail
                  exact ⟨⟨j + 1, false, by omega, by go_num, rfl, (fun h => by cases h), by trivial⟩, by simp [intOf]; omega⟩
                · have HOK := hid_of (HN.out (HG5.out rfl rfl rfl rfl rfl))
                  go_wp2_with fail
                  exact ⟨⟨j + 1, true, by omega, by go_num, rfl, HOK, by trivial⟩, by simp [intOf]; omega⟩
            · obtain rfl : j = x.length := by omega
              have t2 := cat_text [97, 32] y
              have sy1 : (⟨([97, 32] ++ y).toArray⟩ : ByteArray).size = 2 + y.length := by rw [arr_size, List.length_append]; simp
              have HS1 := hid_of (HSR.out ([97, 32] ++ y) w2 HB2.out (by simp; omega))
              go_wp2_with fail
              (go_at_call 5; refine HS1.out.mono ?_; rintro e w3 ⟨v3, rfl, -, hb3⟩)
              have HK3 : Hid (w3.heap[A]? = some (.cells #[.string ⟨x.toArray⟩, .string ⟨y.toArray⟩] 27 (0, 0))) := (hb3.block _ (Array.getElem?_eq_some_iff.1 HK2.out).1).trans HK2.out
              have HB3 := hid_of (HB2.out.trans (hb3.mono HB2.out.size))
              obtain ⟨fit, hfit⟩ : ∃ b, (srcK (mendL ([97, 32] ++ y))).2 = b := ⟨_, rfl⟩
              have HFIT : Hid ((srcK (mendL (97 :: 32 :: y))).2 = fit) := hfit
              rw [hfit]
              clear hfit hb3 t0 t1 HK2 HB2 HS1 t2 sy1
              have t1 : w3.cell? ⟨A, 1, none⟩ = some (.string ⟨y.toArray⟩) := by rw [cell_of_row _ _ _ _ _ _ HK3.out]; rfl
              have HOKF : Hid (∀ ok3 : Bool, (ok3 = true → ok2 = true ∧ (y = [] ∨ (fit = true ∧ y.all plainD = true))) → ok3 = true → ∀ j, j < k + 1 → GoodC (l.getD j ([], []))) := fun ok3 h => hG2.out ok3 fun h' => by
                obtain ⟨h1, h2⟩ := h h'
                obtain ⟨h3, h4⟩ := hG3.out h1
                obtain ⟨h5, h6, h7, h8⟩ := HO1.out h3
                exact ⟨h5, good_of HFIT.out h6 h7 h4 h8 h2⟩
              clear hG2 hG3 HO1 HFIT
              cases ok2 with
              | false =>
                go_wp2_with fail
                exact ⟨⟨k + 1, false, by omega, by go_num, rfl, HOKF.out false (fun h => by cases h), HB3⟩, by simp [intOf]; omega⟩
              | true =>
                by_cases hy0 : y = []
                · subst hy0
                  go_wp2_with fail
                  exact ⟨⟨k + 1, true, by omega, by go_num, rfl, HOKF.out true (fun _ => ⟨by trivial, .inl (by trivial)⟩), HB3⟩, by simp [intOf]; omega⟩
                · have hpos : 0 < y.length := List.length_pos_iff.2 hy0
                  have hyb : (y == []) = false := by simpa using hy0
                  cases fit with
                  | false =>
                    go_wp2_with fail
                    exact ⟨⟨k + 1, false, by omega, by go_num, rfl, HOKF.out false (fun h => by cases h), HB3⟩, by simp [intOf]; omega⟩
                  | true =>
                    by_cases hl30 : y.length < 30
                    case neg =>
                      have dk : decide ((y.length : Int) < 30) = false := by rw [decide_eq_false_iff_not]; omega
                      have dk2 : decide (y.length < 30) = false := by rw [decide_eq_false_iff_not]; omega
                      go_wp2_with fail
                      exact ⟨⟨k + 1, false, by omega, by go_num, rfl, HOKF.out false (fun h => by cases h), HB3⟩, by simp [intOf]; omega⟩
                    have dk : decide ((y.length : Int) < 30) = true := by rw [decide_eq_true_eq]; omega
                    have dk2 : decide (y.length < 30) = true := by rw [decide_eq_true_eq]; omega
                    have hi0 := L.byte_at y 0 _ (by omega) rfl 0 rfl
                    obtain ⟨c, hc⟩ : ∃ c, y.getD 0 0 = c := ⟨_, rfl⟩
                    rw [hc] at hi0
                    clear hc hl30
                    have e32 : ((c.toNat : Int) == 32) = (c == 32) := eq_byte c 32
                    have n32 : ((c.toNat : Int) != 32) = !(c == 32) := by show (!_) = _; rw [e32]
                    have e44 : ((c.toNat : Int) == 44) = (c == 44) := eq_byte c 44
                    have n44 : ((c.toNat : Int) != 44) = !(c == 44) := by show (!_) = _; rw [e44]
                    have l1 : decide ((c.toNat : Int) ≥ 48) = !lowD c := by unfold lowD; rw [← decide_not, decide_eq_decide]; omega
                    have l2 : decide (48 ≤ c.toNat) = !lowD c := by unfold lowD; rw [← decide_not, decide_eq_decide]; omega
                    have l3 : decide ((48 : Int) ≤ (c.toNat : Int)) = !lowD c := by unfold lowD; rw [← decide_not, decide_eq_decide]; omega
                    have g1 : decide ((c.toNat : Int) ≤ 57) = !highD c := by unfold highD; rw [← decide_not, decide_eq_decide]; omega
                    have g2 : decide (c.toNat ≤ 57) = !highD c := by unfold highD; rw [← decide_not, decide_eq_decide]; omega
                    generalize (c == 32) = f32 at *
                    generalize (c == 44) = f44 at *
                    generalize lowD c = lo at *
                    generalize highD c = hi at *
                    have hcs : f32 = true ∨ (f32 = false ∧ f44 = true) ∨ (f32 = false ∧ f44 = false ∧ lo = true) ∨ (f32 = false ∧ f44 = false ∧ lo = false ∧ hi = true) ∨ (f32 = false ∧ f44 = false ∧ lo = false ∧ hi = false) := by cases f32 <;> cases f44 <;> cases lo <;> cases hi <;> simp
                    have HPL9 := hid_of (fun W => plain_calls y W (by omega))
                    generalize y.all plainD = py at *
                    rcases hcs with rfl | ⟨rfl, rfl⟩ | ⟨rfl, rfl, rfl⟩ | ⟨rfl, rfl, rfl, rfl⟩ | ⟨rfl, rfl, rfl, rfl⟩
                    all_goals simp only [Bool.not_true, Bool.not_false] at n32 n44 l1 l2 l3 g1 g2
                    · clear e44 n44 l1 l2 l3 g1 g2
                      go_wp2_with fail
                      exact ⟨⟨k + 1, false, by omega, by go_num, rfl, HOKF.out false (fun h => by cases h), HB3⟩, by simp [intOf]; omega⟩
                    · clear l1 l2 l3 g1 g2
                      go_wp2_with fail
                      exact ⟨⟨k + 1, false, by omega, by go_num, rfl, HOKF.out false (fun h => by cases h), HB3⟩, by simp [intOf]; omega⟩
                    · clear g1 g2
                      go_wp2_with fail
                      exact ⟨⟨k + 1, false, by omega, by go_num, rfl, HOKF.out false (fun h => by cases h), HB3⟩, by simp [intOf]; omega⟩
                    · go_wp2_with fail
                      exact ⟨⟨k + 1, false, by omega, by go_num, rfl, HOKF.out false (fun h => by cases h), HB3⟩, by simp [intOf]; omega⟩
                    · go_wp2_with fail
                      (go_at_call 6; refine (HPL9.out _).mono ?_; rintro e w' ⟨rfl, hx⟩; obtain rfl : w3 = w' := hx.symm)
                      go_wp2_with fail
                      exact ⟨⟨k + 1, py, by omega, by go_num, rfl, HOKF.out py (fun h => ⟨by trivial, .inr ⟨by trivial, h⟩⟩), HB3⟩, by simp [intOf]; omega⟩
    · obtain rfl : k = l.length := by omega
      cases ok
      case' false =>
        go_upto_region 19 with fail
        obtain ⟨w5, hw5⟩ : ∃ w5, wr = w5 := ⟨_, rfl⟩
        rw [hw5] at hB ⊢
        have HB5 := hB
        clear hw5 hB hG zr
      case' true =>
        have HSB : srcK (mendL (setK l)) = (l, true) := src_back l fun y hy => by
          obtain ⟨j, hj, e⟩ := List.mem_iff_getElem.1 hy
          have := hG.out rfl j hj
          rw [set_small.getD_two l j hj, e] at this
          exact this
        have HSS : Hid (∀ W, Below W0.heap.size W0 W → Calls Tryz.prog 5 #[.string ⟨(setK l).toArray⟩] W fun e W' => ∃ v, e = .returned (.tuple #[v, .bool true]) ∧ OwnW 27 W.heap.size W' v l ∧ Below W.heap.size W W') := fun W h => by
          have := HSR.out (setK l) W h HSL.out
          rw [HSB] at this
          exact this
        clear HSB hG
        go_wp2_with fail
        (go_at_call 7; refine (set_calls l a cap wr (HT.out.below hB.out) (HA.out.below hB.out) hll HLS.out).mono ?_; rintro e w2 ⟨rfl, hb2⟩)
        have HB2 := hid_of (hB.out.trans (hb2.mono zr))
        clear hb2 hB zr
        go_wp2_with fail
        (go_at_call 5; refine (HSS.out w2 HB2.out).mono ?_; rintro e w3 ⟨v3, rfl, ho3, hb3⟩)
        obtain ⟨a3, c3, rfl, hc3, ht3, -⟩ := OwnW.at ho3
        have HT3 := hid_of ht3
        have HB3 := hid_of (HB2.out.trans (hb3.mono HB2.out.size))
        clear ho3 hb3 ht3 HB2 HSS
        go_wp2_with fail
        (go_at_call 8; refine (cands_calls l a3 a c3 cap w3 HT3.out (HA.out.below HB3.out) (by omega)).mono ?_; rintro e w5 ⟨rfl, hb5⟩)
        have HB5 := hid_of (HB3.out.trans (hb5.mono HB3.out.size))
        clear hb5 HB3 HT3
        go_upto_region 19 with fail
      all_goals
        have z5 := HB5.out.size
        go_wp2_with fail
        go_loopw [16, 166] (fun vo vi wr => ∃ (k : Nat) (o : List Two) (a2 : Option Addr) (c2 : Nat), k ≤ q.length ∧ vi = .int .i64 k ∧ vo = .slice a2 o.length c2 ∧ Hid (o = (q.take k).map fun y => (mendL y.1, mendL y.2)) ∧ Hid (OwnW 36 w5.heap.size wr (.slice a2 o.length c2) o) ∧ Hid (Below w5.heap.size w5 wr)) (fun _ vi _ => q.length - (intOf vi).toNat)
        case atStart => exact ⟨0, [], none, 0, by omega, rfl, rfl, rfl, World.ownsRow_nil _ _ _ _, Below.refl _ _⟩
        case round =>
          obtain ⟨k, o, a2, c2, hk, rfl, rfl, hO, hOw, hB⟩ := hrel
          by_cases hlt : k < q.length
          · as_aux_lemma =>
              obtain ⟨b0, o0, rfl, d0, d1⟩ := (HQA.out.below HB5.out).below hB.out k hlt
              have hxx : (q.getD k ([], [])).1.length + (q.getD k ([], [])).2.length ≤ 1048576 := by
                rw [List.getD_eq_getElem?_getD, List.getElem?_eq_getElem hlt]
                exact HQS.out _ (List.getElem_mem hlt)
              have hON : (q.take (k + 1)).map (fun y => (mendL y.1, mendL y.2)) = o ++ [(mendL (q.getD k ([], [])).1, mendL (q.getD k ([], [])).2)] := by
                rw [List.take_succ_eq_append_getElem hlt, List.map_append, ← hO.out, set_small.getD_two q k hlt]
                rfl
              have hol : o.length = k := by rw [hO.out, List.length_map, List.length_take]; omega
              have HOL : Hid (o.length ≤ 1048576) := by show _ ≤ _; omega
              obtain ⟨⟨x, y⟩, hxy⟩ : ∃ t, q.getD k ([], []) = t := ⟨_, rfl⟩
              rw [hxy] at d0 d1 hxx hON
              simp only at d0 d1 hxx hON
              have HON := hid_of hON
              clear hxy hO hol hON
              go_upto_region 23 with fail
              obtain ⟨W1, hW1⟩ : ∃ W1, wr.alloc (.cells #[.string ⟨x.toArray⟩, .string ⟨y.toArray⟩] 36) = W1 := ⟨_, rfl⟩
              have b1 : Below wr.heap.size wr W1 := by rw [← hW1]; exact (Below.refl _ _).alloc (Nat.le_refl _) _
              have HB1 : Hid (Below w5.heap.size w5 W1) := by rw [← hW1]; exact hB.out.alloc hB.out.size _
              have HK1 : Hid (W1.heap[wr.heap.size]? = some (.cells #[.string ⟨x.toArray⟩, .string ⟨y.toArray⟩] 36 (0, 0))) := by rw [← hW1]; exact World.alloc_heap_new wr _
              have HO1 := hid_of (owns_below hOw.out b1)
              have HNE : Hid (∀ j, (Value.slice a2 o.length c2).ownBlock = some j → j < wr.heap.size) := fun j hj => (hOw.out.lt j hj).2
              rw [hW1]
              clear hW1 d0 d1 b1 hOw
              obtain ⟨A, hA⟩ : ∃ A, wr.heap.size = A := ⟨_, rfl⟩
              rw [hA] at HK1 HNE ⊢
              clear hA hB
              have t0 : W1.cell? ⟨A, 0, none⟩ = some (.string ⟨x.toArray⟩) := by rw [cell_of_row _ _ _ _ _ _ HK1.out]; rfl
              have t1 : W1.cell? ⟨A, 1, none⟩ = some (.string ⟨y.toArray⟩) := by rw [cell_of_row _ _ _ _ _ _ HK1.out]; rfl
              have HAL : Hid (A < W1.heap.size) := (Array.getElem?_eq_some_iff.1 HK1.out).1
              have HM1 : Hid (∀ W, Below W1.heap.size W1 W → Calls Tryz.prog 9 #[.string ⟨x.toArray⟩] W fun e W' => e = .returned (.string ⟨(mendL x).toArray⟩) ∧ Below W1.heap.size W1 W') := fun W h => (R.rmend_calls x W (by omega)).mono fun e W' h' => ⟨h'.1, h.trans (h'.2.mono h.size)⟩
              have HM2 : Hid (∀ W, Below W1.heap.size W1 W → Calls Tryz.prog 9 #[.string ⟨y.toArray⟩] W fun e W' => e = .returned (.string ⟨(mendL y).toArray⟩) ∧ Below W1.heap.size W1 W') := fun W h => (R.rmend_calls y W (by omega)).mono fun e W' h' => ⟨h'.1, h.trans (h'.2.mono h.size)⟩
              obtain ⟨mx, hmx⟩ : ∃ t, mendL x = t := ⟨_, rfl⟩
              obtain ⟨my, hmy⟩ : ∃ t, mendL y = t := ⟨_, rfl⟩
              rw [hmx] at HM1 HON
              rw [hmy] at HM2 HON
              clear hmx hmy hxx
              have HC : Hid (∀ W, Below W1.heap.size W1 W → W.cell? ⟨A, 0, none⟩ = some (.string ⟨x.toArray⟩) ∧ W.cell? ⟨A, 1, none⟩ = some (.string ⟨y.toArray⟩)) := fun W h => by
                have hk := (h.block _ HAL.out).trans HK1.out
                exact ⟨by rw [cell_of_row _ _ _ _ _ _ hk]; rfl, by rw [cell_of_row _ _ _ _ _ _ hk]; rfl⟩
              have HZ1 := hid_of HB1.out.size
              go_region_held3 (fun w' => w'.cell? ⟨A, 0, none⟩ = some (.string ⟨x.toArray⟩) ∧ w'.cell? ⟨A, 1, none⟩ = some (.string ⟨y.toArray⟩)) (first | exact ⟨t0, t1⟩ | exact ⟨g0, g1⟩ | with_reducible exact (HC.out _ hbb) | with_reducible exact (HC.out _ hbc) | go_keep) (first
                | (have hbc9 := hbc; refine step_two rfl _ _ rfl w5.heap.size (.slice a2 o.length c2) o (by first | rfl | simp [Act.eval, Act.put]) (by first | exact HOc.out.alloc _ | exact HOc.out.drew.alloc _) wc.heap.size (mx, my) (by first | rfl | simp [Act.eval, Act.put]) (two_new0 _ _ _ _) (two_new1 _ _ _ _) (by have := HOL.out; omega) (by simp; omega) ?_; intro v' w6 hown' hgrow; have hcc := HC.out _ hbc; have g0 : w6.cell? ⟨A, 0, none⟩ = some (.string ⟨x.toArray⟩) := hgrow.cell (by rw [C.cell_under _ _ _ (cell_lt hcc.1)]; exact hcc.1) (fun e => absurd (HNE.out _ e.symm) (Nat.lt_irrefl _)); have g1 : w6.cell? ⟨A, 1, none⟩ = some (.string ⟨y.toArray⟩) := hgrow.cell (by rw [C.cell_under _ _ _ (cell_lt hcc.2)]; exact hcc.2) (fun e => absurd (HNE.out _ e.symm) (Nat.lt_irrefl _)))
                | (have hbb9 := hbb; go_at_call 9; refine (HM2.out _ (by first | exact hbb | exact hbb.drew)).mono ?_; rintro e wc ⟨rfl, hbc⟩; have HOc := hid_of (owns_below HO1.out hbc); have zc : w5.heap.size ≤ wc.heap.size := Nat.le_trans HZ1.out hbc.size)
                | (go_at_call 9; refine (HM1.out _ (by first | exact Below.refl _ _ | exact (Below.refl _ _).drew)).mono ?_; rintro e wb ⟨rfl, hbb⟩))
              obtain ⟨a6, c6, rfl, -, -, -⟩ := OwnW.at hown'
              have HB6 : Hid (Below w5.heap.size w5 w6) := ((HB1.out.trans (hbc.mono HZ1.out)).alloc zc _).grown hgrow (by simp; omega) (fun j hj => (HOc.out.lt j hj).1)
              go_wp2_with fail
              exact ⟨⟨k + 1, o ++ [(mx, my)], a6, c6, by omega, by go_num, rfl, HON.out.symm, hown', HB6⟩, by simp [intOf]; omega⟩
          · obtain rfl : k = q.length := by omega
            have HOF : Hid (o = q.map fun y => (mendL y.1, mendL y.2)) := by have := hO.out; rw [List.take_length] at this; exact this
            have HB6 := hid_of (HB5.out.trans (hB.out.mono z5))
            have z6 := HB6.out.size
            have HOT : Hid (TwosAt wr a2 o) := by
              obtain ⟨a9, c9, e9, -, ht9, -⟩ := OwnW.at hOw.out
              obtain ⟨rfl, -⟩ : a2 = a9 ∧ c2 = c9 := by injection e9 with e1 e2 e3; exact ⟨e1, e3⟩
              exact ht9
            have hol : o.length ≤ 1048576 := by rw [HOF.out, List.length_map]; omega
            have HPB : Hid (∀ W, Below W0.heap.size W0 W → Calls Tryz.prog 11 #[.string ⟨(queryK q).toArray⟩] W fun e W' => ∃ v, e = .returned v ∧ OwnW 36 W.heap.size W' v o ∧ Below W.heap.size W W') := fun W h => by
              have := pairs_calls (queryK q) W (HT.out.below h) (HMP.out.below h) HQL.out
              rw [pairs_back, ← HOF.out] at this
              exact this
            clear hO hOw hB HOF z5
            rename World => w6
            go_wp2_with fail
            (go_at_call 12; refine (query_calls q qa qcap w6 (HT.out.below HB6.out) (HQA.out.below HB6.out) hql HQS.out).mono ?_; rintro e w7 ⟨rfl, hb7⟩)
            have HB7 := hid_of (HB6.out.trans (hb7.mono z6))
            have HOT7 := hid_of (HOT.out.below hb7)
            clear hb7 HB6 z6 HOT
            go_wp2_with fail
            (go_at_call 11; refine (HPB.out w7 HB7.out).mono ?_; rintro e w8 ⟨v8, rfl, ho8, hb8⟩)
            obtain ⟨a8, c8, rfl, -, ht8, -⟩ := OwnW.at ho8
            have HT8 := hid_of ht8
            have HB8 := hid_of (HB7.out.trans (hb8.mono HB7.out.size))
            have HOT8 := hid_of (HOT7.out.below hb8)
            clear ho8 ht8 hb8 HB7 HOT7 HPB
            go_wp2_with fail
            (go_at_call 10; refine (attrs_calls o a8 a2 c8 c2 w8 HT8.out HOT8.out (by omega)).mono ?_; rintro e w9 ⟨rfl, hb9⟩)
            have HB9 := hid_of (HB8.out.trans (hb9.mono HB8.out.size))
            clear hb9 HB8 HT8 HOT8 hol
            have l1 := stripL_le pb
            have l2 := stripL_le pt
            have hpl := HPL.out
            have H1 : Hid (∀ W, Below w9.heap.size w9 W → Calls Tryz.prog 13 #[.string ⟨pb.toArray⟩] W fun e W' => e = .returned (splitK (stripL pb)).v ∧ Below W.heap.size W W') := fun W h => split_calls pb W (HT.out.below (HB9.out.trans (h.mono HB9.out.size))) (HMO.out.below (HB9.out.trans (h.mono HB9.out.size))) (by omega)
            have H2 : Hid (∀ W, Below w9.heap.size w9 W → Calls Tryz.prog 13 #[.string ⟨pt.toArray⟩] W fun e W' => e = .returned (splitK (stripL pt)).v ∧ Below W.heap.size W W') := fun W h => split_calls pt W (HT.out.below (HB9.out.trans (h.mono HB9.out.size))) (HMO.out.below (HB9.out.trans (h.mono HB9.out.size))) (by omega)
            have m1 := split_small (stripL pb) 4194304 (by omega)
            have m2 := split_small (stripL pt) 4194304 (by omega)
            have e1 := split_val (val_strip pb)
            have e2 := split_val (val_strip pt)
            have vv := split_vals (val_strip pt)
            obtain ⟨b, hbb⟩ : ∃ b, splitK (stripL pb) = b := ⟨_, rfl⟩
            obtain ⟨t, htt⟩ : ∃ t, splitK (stripL pt) = t := ⟨_, rfl⟩
            rw [hbb] at H1 m1 e1
            rw [htt] at H2 m2 e2 vv
            clear hbb htt l1 l2 hpl
            have hv : t.Vals := ⟨vv.1, vv.2.1, vv.2.2.1, vv.2.2.2.1, vv.2.2.2.2⟩
            have rm := relative_vals (b := b) hv
            have rs := relative_small (b := b) m2
            have HRR := hid_of (same_relative b t)
            have H3 : Hid (∀ W, Below w9.heap.size w9 W → Calls Tryz.prog 14 #[b.v, t.v] W fun e W' => e = .returned (relativeK b t).v ∧ Below W.heap.size W W') := fun W h => by
              have := relative_calls b t W (HT.out.below (HB9.out.trans (h.mono HB9.out.size))) (small_up m1 (by omega)) (small_up m2 (by omega))
              rw [e1, e2] at this
              exact this
            have H4 : Hid (∀ W, Below w9.heap.size w9 W → Calls Tryz.prog 15 #[b.v, t.v] W fun e W' => e = .returned (resolveK b t).v ∧ Below W.heap.size W W') := fun W h => by
              have := resolve_calls b t W (HT.out.below (HB9.out.trans (h.mono HB9.out.size))) (small_up m1 (by omega)) (small_up m2 (by omega))
              rw [e1, e2] at this
              exact this
            have H5 : Hid (∀ W, Below w9.heap.size w9 W → Calls Tryz.prog 15 #[b.v, (relativeK b t).v] W fun e W' => e = .returned (resolveK b (relativeK b t)).v ∧ Below W.heap.size W W') := fun W h => by
              have := resolve_calls b (relativeK b t) W (HT.out.below (HB9.out.trans (h.mono HB9.out.size))) (small_up m1 (by omega)) (small_up rs (by omega))
              rw [e1, rm] at this
              exact this
            have H6 : Hid (∀ W, Below w9.heap.size w9 W → Calls Tryz.prog 16 #[] W fun e W' => e = .returned (.bool true) ∧ Below W.heap.size W W') := fun W h => awake_calls W (HT.out.below (HB9.out.trans (h.mono HB9.out.size)))
            clear m1 m2 e1 e2 vv hv rm rs
            obtain ⟨r, hr⟩ : ∃ r, relativeK b t = r := ⟨_, rfl⟩
            rw [hr] at H3 H5 HRR
            clear hr
            obtain ⟨S1, hS1⟩ : ∃ s, resolveK b t = s := ⟨_, rfl⟩
            obtain ⟨S2, hS2⟩ : ∃ s, resolveK b r = s := ⟨_, rfl⟩
            rw [hS1] at H4 HRR
            rw [hS2] at H5 HRR
            clear hS1 hS2
            have HK9 : Hid (w9.heap[w.heap.size]? = some (.cells #[.string ⟨pb.toArray⟩, .string ⟨pt.toArray⟩] 25 (0, 0))) := (HB9.out.block _ HZ0.out).trans HBOX.out
            have HZ9 : Hid (w.heap.size < w9.heap.size) := Nat.lt_of_lt_of_le HZ0.out HB9.out.size
            have t0 : w9.cell? ⟨w.heap.size, 0, none⟩ = some (.string ⟨pb.toArray⟩) := by rw [cell_of_row _ _ _ _ _ _ HK9.out]; rfl
            have t1 : w9.cell? ⟨w.heap.size, 1, none⟩ = some (.string ⟨pt.toArray⟩) := by rw [cell_of_row _ _ _ _ _ _ HK9.out]; rfl
            have HC : Hid (∀ W, Below w9.heap.size w9 W → W.cell? ⟨w.heap.size, 0, none⟩ = some (.string ⟨pb.toArray⟩) ∧ W.cell? ⟨w.heap.size, 1, none⟩ = some (.string ⟨pt.toArray⟩)) := fun W h => by
              have hk := (h.block _ HZ9.out).trans HK9.out
              exact ⟨by rw [cell_of_row _ _ _ _ _ _ hk]; rfl, by rw [cell_of_row _ _ _ _ _ _ hk]; rfl⟩
            go_upto_region 27 with fail
            go_cut [19, 20] from 187 (fun p1 p2 wx => ∃ n1 n2 : Nat, p1 = .pointer (some ⟨n1, 0, none⟩) ∧ p2 = .pointer (some ⟨n2, 0, none⟩) ∧ Hid (Blk wx n1 (cellsOf b) 42) ∧ Hid (Blk wx n2 (cellsOf t) 42) ∧ Hid (Below w9.heap.size w9 wx))
            case first =>
              obtain ⟨bsc, bho, bpa, bqu, bfr, bhs, bhh, bhq, bhf⟩ := b
              obtain ⟨rsc, rho, rpa, rqu, rfr, rhs, rhh, rhq, rhf⟩ := t
              unfold Lk.v at H1 H2
              simp only at H1 H2
              have l9 := HZ9.out
              have n91 := Nat.ne_of_lt l9
              have n92 : w.heap.size ≠ w9.heap.size + 1 := by omega
              have HA1 : Hid (Blk (w9.alloc (.cells #[.string ⟨#[]⟩, .string ⟨#[]⟩, .string ⟨#[]⟩, .string ⟨#[]⟩, .string ⟨#[]⟩, .bool false, .bool false, .bool false, .bool false] 42)) w9.heap.size #[.string ⟨#[]⟩, .string ⟨#[]⟩, .string ⟨#[]⟩, .string ⟨#[]⟩, .string ⟨#[]⟩, .bool false, .bool false, .bool false, .bool false] 42) := Blk.new w9 _ _
              have HA2 : Hid (Blk (w9.drew.alloc (.cells #[.string ⟨#[]⟩, .string ⟨#[]⟩, .string ⟨#[]⟩, .string ⟨#[]⟩, .string ⟨#[]⟩, .bool false, .bool false, .bool false, .bool false] 42)) w9.heap.size #[.string ⟨#[]⟩, .string ⟨#[]⟩, .string ⟨#[]⟩, .string ⟨#[]⟩, .string ⟨#[]⟩, .bool false, .bool false, .bool false, .bool false] 42) := Blk.new w9.drew _ _
              have HB1a : Hid (Blk ((w9.alloc (.cells #[.string ⟨#[]⟩, .string ⟨#[]⟩, .string ⟨#[]⟩, .string ⟨#[]⟩, .string ⟨#[]⟩, .bool false, .bool false, .bool false, .bool false] 42)).alloc (.cells #[.string ⟨#[]⟩, .string ⟨#[]⟩, .string ⟨#[]⟩, .string ⟨#[]⟩, .string ⟨#[]⟩, .bool false, .bool false, .bool false, .bool false] 42)) (w9.heap.size + 1) #[.string ⟨#[]⟩, .string ⟨#[]⟩, .string ⟨#[]⟩, .string ⟨#[]⟩, .string ⟨#[]⟩, .bool false, .bool false, .bool false, .bool false] 42) := by
                have h := Blk.new (w9.alloc (.cells #[.string ⟨#[]⟩, .string ⟨#[]⟩, .string ⟨#[]⟩, .string ⟨#[]⟩, .string ⟨#[]⟩, .bool false, .bool false, .bool false, .bool false] 42)) #[.string ⟨#[]⟩, .string ⟨#[]⟩, .string ⟨#[]⟩, .string ⟨#[]⟩, .string ⟨#[]⟩, .bool false, .bool false, .bool false, .bool false] 42
                rw [World.size_alloc] at h
                exact h
              have HB1b : Hid (Blk ((w9.drew.alloc (.cells #[.string ⟨#[]⟩, .string ⟨#[]⟩, .string ⟨#[]⟩, .string ⟨#[]⟩, .string ⟨#[]⟩, .bool false, .bool false, .bool false, .bool false] 42)).alloc (.cells #[.string ⟨#[]⟩, .string ⟨#[]⟩, .string ⟨#[]⟩, .string ⟨#[]⟩, .string ⟨#[]⟩, .bool false, .bool false, .bool false, .bool false] 42)) (w9.heap.size + 1) #[.string ⟨#[]⟩, .string ⟨#[]⟩, .string ⟨#[]⟩, .string ⟨#[]⟩, .string ⟨#[]⟩, .bool false, .bool false, .bool false, .bool false] 42) := by
                have h := Blk.new (w9.drew.alloc (.cells #[.string ⟨#[]⟩, .string ⟨#[]⟩, .string ⟨#[]⟩, .string ⟨#[]⟩, .string ⟨#[]⟩, .bool false, .bool false, .bool false, .bool false] 42)) #[.string ⟨#[]⟩, .string ⟨#[]⟩, .string ⟨#[]⟩, .string ⟨#[]⟩, .string ⟨#[]⟩, .bool false, .bool false, .bool false, .bool false] 42
                rw [World.size_alloc] at h
                exact h
              have HB1c : Hid (Blk ((w9.alloc (.cells #[.string ⟨#[]⟩, .string ⟨#[]⟩, .string ⟨#[]⟩, .string ⟨#[]⟩, .string ⟨#[]⟩, .bool false, .bool false, .bool false, .bool false] 42)).drew.alloc (.cells #[.string ⟨#[]⟩, .string ⟨#[]⟩, .string ⟨#[]⟩, .string ⟨#[]⟩, .string ⟨#[]⟩, .bool false, .bool false, .bool false, .bool false] 42)) (w9.heap.size + 1) #[.string ⟨#[]⟩, .string ⟨#[]⟩, .string ⟨#[]⟩, .string ⟨#[]⟩, .string ⟨#[]⟩, .bool false, .bool false, .bool false, .bool false] 42) := by
                have h := Blk.new (w9.alloc (.cells #[.string ⟨#[]⟩, .string ⟨#[]⟩, .string ⟨#[]⟩, .string ⟨#[]⟩, .string ⟨#[]⟩, .bool false, .bool false, .bool false, .bool false] 42)).drew #[.string ⟨#[]⟩, .string ⟨#[]⟩, .string ⟨#[]⟩, .string ⟨#[]⟩, .string ⟨#[]⟩, .bool false, .bool false, .bool false, .bool false] 42
                rw [show (w9.alloc (.cells #[.string ⟨#[]⟩, .string ⟨#[]⟩, .string ⟨#[]⟩, .string ⟨#[]⟩, .string ⟨#[]⟩, .bool false, .bool false, .bool false, .bool false] 42)).drew.heap.size = w9.heap.size + 1 from World.size_alloc w9 _] at h
                exact h
              go_region_held3 (fun w' => w'.cell? ⟨w.heap.size, 0, none⟩ = some (.string ⟨pb.toArray⟩) ∧ w'.cell? ⟨w.heap.size, 1, none⟩ = some (.string ⟨pt.toArray⟩)) (((with_reducible refine HC.out _ ?_); repeat' (first | with_reducible exact Below.refl _ _ | with_reducible exact HBb.out | with_reducible exact HBc.out | (with_reducible refine below_all ?_ _) | (with_reducible refine below_drew ?_) | (with_reducible refine below_put ?_ (by first | omega | (simp only [World.size_alloc]; omega)) _ _)))) (first
                | (have hbb9 := HBb; go_at_call 13; refine (H2.out _ (by first | with_reducible exact HBb.out | with_reducible exact below_all HBb.out _ | with_reducible exact below_all (below_all HBb.out _) _)).mono ?_; rintro e wc ⟨rfl, hbc⟩; have HBc := hid_of (show Below w9.heap.size w9 wc from below_on (by first | with_reducible exact HBb.out | with_reducible exact below_all HBb.out _ | with_reducible exact below_all (below_all HBb.out _) _) hbc); have zc := HBc.out.size; (first | (have c2 := hid_of (show Blk wc (w9.heap.size + 1) #[.string ⟨#[]⟩, .string ⟨#[]⟩, .string ⟨#[]⟩, .string ⟨#[]⟩, .string ⟨#[]⟩, .bool false, .bool false, .bool false, .bool false] 42 from Blk.below (by first | with_reducible exact kB.out) hbc); have c1 := hid_of (show Blk wc w9.heap.size #[.string ⟨#[]⟩, .string ⟨#[]⟩, .string ⟨#[]⟩, .string ⟨#[]⟩, .string ⟨#[]⟩, .bool false, .bool false, .bool false, .bool false] 42 from Blk.below (by first | with_reducible exact kA.out) hbc)) | (have c2 := hid_of (show Blk wc wb.heap.size #[.string ⟨#[]⟩, .string ⟨#[]⟩, .string ⟨#[]⟩, .string ⟨#[]⟩, .string ⟨#[]⟩, .bool false, .bool false, .bool false, .bool false] 42 from Blk.below (by first | with_reducible exact kN1.out) hbc); have c1 := hid_of (show Blk wc w9.heap.size #[.string ⟨#[]⟩, .string ⟨#[]⟩, .string ⟨#[]⟩, .string ⟨#[]⟩, .string ⟨#[]⟩, .bool false, .bool false, .bool false, .bool false] 42 from Blk.below (by first | with_reducible exact Blk.alloc kA.out _) hbc); have zz := kA.out.lt) | (have c1 := hid_of (show Blk wc w9.heap.size #[.string ⟨#[]⟩, .string ⟨#[]⟩, .string ⟨#[]⟩, .string ⟨#[]⟩, .string ⟨#[]⟩, .bool false, .bool false, .bool false, .bool false] 42 from Blk.below (by first | with_reducible exact kA.out) hbc)) | (have c2 := hid_of (show Blk wc (wb.heap.size + 1) #[.string ⟨#[]⟩, .string ⟨#[]⟩, .string ⟨#[]⟩, .string ⟨#[]⟩, .string ⟨#[]⟩, .bool false, .bool false, .bool false, .bool false] 42 from Blk.below (by first | with_reducible exact kN2.out) hbc); have c1 := hid_of (show Blk wc wb.heap.size #[.string ⟨#[]⟩, .string ⟨#[]⟩, .string ⟨#[]⟩, .string ⟨#[]⟩, .string ⟨#[]⟩, .bool false, .bool false, .bool false, .bool false] 42 from Blk.below (by first | with_reducible exact Blk.alloc kN1.out _) hbc)) | (have c1 := hid_of (show Blk wc wb.heap.size #[.string ⟨#[]⟩, .string ⟨#[]⟩, .string ⟨#[]⟩, .string ⟨#[]⟩, .string ⟨#[]⟩, .bool false, .bool false, .bool false, .bool false] 42 from Blk.below (by first | with_reducible exact kN1.out) hbc)) | skip); (first | obtain ⟨d0, d1, d2, d3, d4, d5, d6, d7, d8, dz⟩ := c1.out.nine | skip); (first | (have dl := c1.out.lt; have dn := Nat.ne_of_lt dl; have dm := (Nat.ne_of_lt dl).symm; obtain ⟨dp0, dp1, dp2, dp3, dp4, dp5, dp6, dp7, dp8, dpz⟩ := (c1.out.alloc (.cells #[.string ⟨#[]⟩, .string ⟨#[]⟩, .string ⟨#[]⟩, .string ⟨#[]⟩, .string ⟨#[]⟩, .bool false, .bool false, .bool false, .bool false] 42)).nine) | skip); (first | obtain ⟨e0, e1, e2, e3, e4, e5, e6, e7, e8, ez⟩ := c2.out.nine | skip); (first | (have el := c2.out.lt; have en := Nat.ne_of_lt el; have em := (Nat.ne_of_lt el).symm) | skip); clear hbc)
                | (go_at_call 13; refine (H1.out _ (by first | with_reducible exact below_drew (Below.refl _ _) | with_reducible exact below_drew (below_all (Below.refl _ _) _) | with_reducible exact below_drew (below_all (below_all (Below.refl _ _) _) _) | with_reducible exact below_all (below_drew (Below.refl _ _)) _ | with_reducible exact below_all (below_drew (below_all (Below.refl _ _) _)) _ | with_reducible exact below_all (below_all (below_drew (Below.refl _ _)) _) _ | with_reducible exact (Below.refl _ _))).mono ?_; rintro e wb ⟨rfl, hbb⟩; have HBb := hid_of (show Below w9.heap.size w9 wb from below_on (by first | with_reducible exact below_drew (Below.refl _ _) | with_reducible exact below_drew (below_all (Below.refl _ _) _) | with_reducible exact below_drew (below_all (below_all (Below.refl _ _) _) _) | with_reducible exact below_all (below_drew (Below.refl _ _)) _ | with_reducible exact below_all (below_drew (below_all (Below.refl _ _) _)) _ | with_reducible exact below_all (below_all (below_drew (Below.refl _ _)) _) _ | with_reducible exact (Below.refl _ _)) hbb); have zb := HBb.out.size; have kN1 : Hid (Blk (wb.alloc (.cells #[.string ⟨#[]⟩, .string ⟨#[]⟩, .string ⟨#[]⟩, .string ⟨#[]⟩, .string ⟨#[]⟩, .bool false, .bool false, .bool false, .bool false] 42)) wb.heap.size #[.string ⟨#[]⟩, .string ⟨#[]⟩, .string ⟨#[]⟩, .string ⟨#[]⟩, .string ⟨#[]⟩, .bool false, .bool false, .bool false, .bool false] 42) := Blk.new wb _ _; have kN2 : Hid (Blk ((wb.alloc (.cells #[.string ⟨#[]⟩, .string ⟨#[]⟩, .string ⟨#[]⟩, .string ⟨#[]⟩, .string ⟨#[]⟩, .bool false, .bool false, .bool false, .bool false] 42)).alloc (.cells #[.string ⟨#[]⟩, .string ⟨#[]⟩, .string ⟨#[]⟩, .string ⟨#[]⟩, .string ⟨#[]⟩, .bool false, .bool false, .bool false, .bool false] 42)) (wb.heap.size + 1) #[.string ⟨#[]⟩, .string ⟨#[]⟩, .string ⟨#[]⟩, .string ⟨#[]⟩, .string ⟨#[]⟩, .bool false, .bool false, .bool false, .bool false] 42) := (by have h := Blk.new (wb.alloc (.cells #[.string ⟨#[]⟩, .string ⟨#[]⟩, .string ⟨#[]⟩, .string ⟨#[]⟩, .string ⟨#[]⟩, .bool false, .bool false, .bool false, .bool false] 42)) #[.string ⟨#[]⟩, .string ⟨#[]⟩, .string ⟨#[]⟩, .string ⟨#[]⟩, .string ⟨#[]⟩, .bool false, .bool false, .bool false, .bool false] 42; rw [World.size_alloc] at h; exact h); have lb := Nat.lt_of_lt_of_le HZ9.out zb; have nb1 := Nat.ne_of_lt lb; have nb2 : w.heap.size ≠ wb.heap.size + 1 := (by omega); (first | (have kB := hid_of (show Blk wb (w9.heap.size + 1) #[.string ⟨#[]⟩, .string ⟨#[]⟩, .string ⟨#[]⟩, .string ⟨#[]⟩, .string ⟨#[]⟩, .bool false, .bool false, .bool false, .bool false] 42 from Blk.below (by first | with_reducible exact Blk.drew HB1a.out | with_reducible exact HB1b.out | with_reducible exact HB1c.out) hbb); have kA := hid_of (show Blk wb w9.heap.size #[.string ⟨#[]⟩, .string ⟨#[]⟩, .string ⟨#[]⟩, .string ⟨#[]⟩, .string ⟨#[]⟩, .bool false, .bool false, .bool false, .bool false] 42 from Blk.below (by first | with_reducible exact Blk.drew (Blk.alloc HA1.out _) | with_reducible exact Blk.alloc HA2.out _ | with_reducible exact Blk.alloc (Blk.drew HA1.out) _) hbb)) | (have kA := hid_of (show Blk wb w9.heap.size #[.string ⟨#[]⟩, .string ⟨#[]⟩, .string ⟨#[]⟩, .string ⟨#[]⟩, .string ⟨#[]⟩, .bool false, .bool false, .bool false, .bool false] 42 from Blk.below (by first | with_reducible exact Blk.drew HA1.out | with_reducible exact HA2.out) hbb)) | skip); clear hbb))
              all_goals (first | go_meet | (go_wp2_with fail; go_meet))
              all_goals (try simp only [cellsOf])
              all_goals first
                | with_reducible exact put_two c1.out c2.out (by omega) (by omega) (by omega) HBc.out
                | with_reducible exact put_two c2.out c1.out (by omega) (by omega) (by omega) HBc.out
                | with_reducible exact put_two' c1.out c2.out (by omega) (by omega) (by omega) HBc.out
                | with_reducible exact put_two' c2.out c1.out (by omega) (by omega) (by omega) HBc.out
                | with_reducible exact put_one c1.out (by omega) HBc.out zc
                | with_reducible exact put_one' c1.out (by omega) HBc.out zc
                | with_reducible exact put_none HBc.out zc
                | with_reducible exact put_none' HBc.out zc
                | exact put_two c1.out c2.out (by omega) (by omega) (by omega) HBc.out
                | exact put_two c2.out c1.out (by omega) (by omega) (by omega) HBc.out
                | exact put_two' c1.out c2.out (by omega) (by omega) (by omega) HBc.out
                | exact put_two' c2.out c1.out (by omega) (by omega) (by omega) HBc.out
                | exact put_one c1.out (by omega) HBc.out zc
                | exact put_one' c1.out (by omega) HBc.out zc
                | exact put_none HBc.out zc
                | exact put_none' HBc.out zc
            case rest =>
              obtain ⟨n1, n2, rfl, rfl, HK1, HK2, HBx⟩ := hcut
              rename World => w10
              cases hz : sameK S1 t with
              | true =>
                have hz2 := HRR.out hz
                have f1 : ∀ W, (binOp .neq 42 S1.v t.v).run Tryz.prog W = .ok (.bool false) W := fun W => by rw [neq_links, hz]; rfl
                have f2 : ∀ x y W, (eqGuard .neq 42 x y S1.v t.v).run Tryz.prog W = .ok () W := fun x y W => neq_guard _ _ x y W
                have f3 : ∀ W, (binOp .eql 42 S2.v t.v).run Tryz.prog W = .ok (.bool true) W := fun W => by rw [eql_links, hz2]
                have f4 : ∀ x y W, (eqGuard .eql 42 x y S2.v t.v).run Tryz.prog W = .ok () W := fun x y W => eql_guard _ _ x y W
                clear hz hz2 HRR
                obtain ⟨bsc, bho, bpa, bqu, bfr, bhs, bhh, bhq, bhf⟩ := b
                obtain ⟨rsc, rho, rpa, rqu, rfr, rhs, rhh, rhq, rhf⟩ := t
                obtain ⟨csc, cho, cpa, cqu, cfr, chs, chh, chq, chf⟩ := r
                obtain ⟨ssc, sho, spa, squ, sfr, shs, shh, shq, shf⟩ := S1
                obtain ⟨usc, uho, upa, uqu, ufr, uhs, uhh, uhq, uhf⟩ := S2
                unfold Lk.v at H3 H4 H5 f1 f2 f3 f4
                simp only at H3 H4 H5 f1 f2 f3 f4
                have hK1 : Blk w10 n1 #[.string ⟨bsc.toArray⟩, .string ⟨bho.toArray⟩, .string ⟨bpa.toArray⟩, .string ⟨bqu.toArray⟩, .string ⟨bfr.toArray⟩, .bool bhs, .bool bhh, .bool bhq, .bool bhf] 42 := HK1.out
                have hK2 : Blk w10 n2 #[.string ⟨rsc.toArray⟩, .string ⟨rho.toArray⟩, .string ⟨rpa.toArray⟩, .string ⟨rqu.toArray⟩, .string ⟨rfr.toArray⟩, .bool rhs, .bool rhh, .bool rhq, .bool rhf] 42 := HK2.out
                clear HK1 HK2 HC H1 H2 t0 t1
                obtain ⟨c0, c1, c2, c3, c4, c5, c6, c7, c8, cz⟩ := hK1.nine
                obtain ⟨d0, d1, d2, d3, d4, d5, d6, d7, d8, dz⟩ := hK2.nine
                have HK1 := hid_of hK1
                have HK2 := hid_of hK2
                clear hK1 hK2
                go_wp2_with fail
                (go_at_call 14; refine (H3.out w10 HBx.out).mono ?_; rintro e w11 ⟨rfl, g11⟩)
                have hK1b := (HK1.out.below g11).alloc (.cells #[.string ⟨csc.toArray⟩, .string ⟨cho.toArray⟩, .string ⟨cpa.toArray⟩, .string ⟨cqu.toArray⟩, .string ⟨cfr.toArray⟩, .bool chs, .bool chh, .bool chq, .bool chf] 42)
                have hK2b := (HK2.out.below g11).alloc (.cells #[.string ⟨csc.toArray⟩, .string ⟨cho.toArray⟩, .string ⟨cpa.toArray⟩, .string ⟨cqu.toArray⟩, .string ⟨cfr.toArray⟩, .bool chs, .bool chh, .bool chq, .bool chf] 42)
                have hK3 := Blk.new w11 #[.string ⟨csc.toArray⟩, .string ⟨cho.toArray⟩, .string ⟨cpa.toArray⟩, .string ⟨cqu.toArray⟩, .string ⟨cfr.toArray⟩, .bool chs, .bool chh, .bool chq, .bool chf] 42
                have b12 := (HBx.out.trans (g11.mono HBx.out.size)).alloc (HBx.out.trans (g11.mono HBx.out.size)).size (.cells #[.string ⟨csc.toArray⟩, .string ⟨cho.toArray⟩, .string ⟨cpa.toArray⟩, .string ⟨cqu.toArray⟩, .string ⟨cfr.toArray⟩, .bool chs, .bool chh, .bool chq, .bool chf] 42)
                obtain ⟨n3, hn3⟩ : ∃ n3, w11.heap.size = n3 := ⟨_, rfl⟩
                rw [hn3] at hK3
                clear g11 c0 c1 c2 c3 c4 c5 c6 c7 c8 cz d0 d1 d2 d3 d4 d5 d6 d7 d8 dz HK1 HK2 HBx H3
                go_upto_region 29 with fail
                try rw [hn3]
                generalize w11.alloc (.cells #[.string ⟨csc.toArray⟩, .string ⟨cho.toArray⟩, .string ⟨cpa.toArray⟩, .string ⟨cqu.toArray⟩, .string ⟨cfr.toArray⟩, .bool chs, .bool chh, .bool chq, .bool chf] 42) = w12 at *
                clear hn3
                have b0w := HB9.out
                have D : ∀ d os, Below w12.heap.size w12 (Go.Sort.grow (redrawn w12 d) os) := fun d os => below_regrown w12 d os
                have D9 : ∀ d os, Below w9.heap.size w9 (Go.Sort.grow (redrawn w12 d) os) := fun d os => b12.trans ((D d os).mono b12.size)
                have x0 := cell_regrown hK1b 0 _ rfl
                have x1 := cell_regrown hK1b 1 _ rfl
                have x2 := cell_regrown hK1b 2 _ rfl
                have x3 := cell_regrown hK1b 3 _ rfl
                have x4 := cell_regrown hK1b 4 _ rfl
                have x5 := cell_regrown hK1b 5 _ rfl
                have x6 := cell_regrown hK1b 6 _ rfl
                have x7 := cell_regrown hK1b 7 _ rfl
                have x8 := cell_regrown hK1b 8 _ rfl
                have y0 := cell_regrown hK2b 0 _ rfl
                have y1 := cell_regrown hK2b 1 _ rfl
                have y2 := cell_regrown hK2b 2 _ rfl
                have y3 := cell_regrown hK2b 3 _ rfl
                have y4 := cell_regrown hK2b 4 _ rfl
                have y5 := cell_regrown hK2b 5 _ rfl
                have y6 := cell_regrown hK2b 6 _ rfl
                have y7 := cell_regrown hK2b 7 _ rfl
                have y8 := cell_regrown hK2b 8 _ rfl
                have z0 := cell_regrown hK3 0 _ rfl
                have z1 := cell_regrown hK3 1 _ rfl
                have z2 := cell_regrown hK3 2 _ rfl
                have z3 := cell_regrown hK3 3 _ rfl
                have z4 := cell_regrown hK3 4 _ rfl
                have z5 := cell_regrown hK3 5 _ rfl
                have z6 := cell_regrown hK3 6 _ rfl
                have z7 := cell_regrown hK3 7 _ rfl
                have z8 := cell_regrown hK3 8 _ rfl
                have q1 : ∀ d os, Calls Tryz.prog 15 #[.agg #[.string ⟨bsc.toArray⟩, .string ⟨bho.toArray⟩, .string ⟨bpa.toArray⟩, .string ⟨bqu.toArray⟩, .string ⟨bfr.toArray⟩, .bool bhs, .bool bhh, .bool bhq, .bool bhf], .agg #[.string ⟨rsc.toArray⟩, .string ⟨rho.toArray⟩, .string ⟨rpa.toArray⟩, .string ⟨rqu.toArray⟩, .string ⟨rfr.toArray⟩, .bool rhs, .bool rhh, .bool rhq, .bool rhf]] (Go.Sort.grow (redrawn w12 d) os) fun e w'' => e = .returned (.agg #[.string ⟨ssc.toArray⟩, .string ⟨sho.toArray⟩, .string ⟨spa.toArray⟩, .string ⟨squ.toArray⟩, .string ⟨sfr.toArray⟩, .bool shs, .bool shh, .bool shq, .bool shf]) ∧ ∃ p : Regrown, w'' = Go.Sort.grow (redrawn w12 p.d) p.os := fun d os => Calls.regrown_of (H4.out _ (D9 d os))
                have q2 : ∀ d os, Calls Tryz.prog 15 #[.agg #[.string ⟨bsc.toArray⟩, .string ⟨bho.toArray⟩, .string ⟨bpa.toArray⟩, .string ⟨bqu.toArray⟩, .string ⟨bfr.toArray⟩, .bool bhs, .bool bhh, .bool bhq, .bool bhf], .agg #[.string ⟨csc.toArray⟩, .string ⟨cho.toArray⟩, .string ⟨cpa.toArray⟩, .string ⟨cqu.toArray⟩, .string ⟨cfr.toArray⟩, .bool chs, .bool chh, .bool chq, .bool chf]] (Go.Sort.grow (redrawn w12 d) os) fun e w'' => e = .returned (.agg #[.string ⟨usc.toArray⟩, .string ⟨uho.toArray⟩, .string ⟨upa.toArray⟩, .string ⟨uqu.toArray⟩, .string ⟨ufr.toArray⟩, .bool uhs, .bool uhh, .bool uhq, .bool uhf]) ∧ ∃ p : Regrown, w'' = Go.Sort.grow (redrawn w12 p.d) p.os := fun d os => Calls.regrown_of (H5.out _ (D9 d os))
                have q3 : ∀ d os, Calls Tryz.prog 16 #[] (Go.Sort.grow (redrawn w12 d) os) fun e w'' => e = .returned (.bool true) ∧ ∃ p : Regrown, w'' = Go.Sort.grow (redrawn w12 p.d) p.os := fun d os => Calls.regrown_of (H6.out _ (D9 d os))
                refine wp_region_quiet_below mixed (by kernel_rfl) ?_
                repeat (go_big_quiet_step (first | with_reducible exact q1 _ _ | with_reducible exact q2 _ _ | with_reducible exact q3 _ _))
                refine wpQuiet_nil ?_
                intro _ hw'
                obtain ⟨⟨dq, osq⟩, hw''⟩ := hw'
                have hb2 := D9 dq osq
                rw [← hw''] at hb2
                have HFIN := hid_of (b0w.trans (hb2.mono b0w.size))
                clear hw'' D D9 q1 q2 q3 b12 hb2 b0w
                go_wp2_with fail
                go_ret
                exact ⟨rfl, HB0.out.trans (HFIN.out.mono HB0.out.size)⟩

              | false =>
                have f1 : ∀ W, (binOp .neq 42 S1.v t.v).run Tryz.prog W = .ok (.bool true) W := fun W => by rw [neq_links, hz]; rfl
                have f2 : ∀ x y W, (eqGuard .neq 42 x y S1.v t.v).run Tryz.prog W = .ok () W := fun x y W => neq_guard _ _ x y W
                have f3 : ∀ W, (binOp .eql 42 S2.v t.v).run Tryz.prog W = .ok (.bool (sameK S2 t)) W := fun W => by rw [eql_links]
                have f4 : ∀ x y W, (eqGuard .eql 42 x y S2.v t.v).run Tryz.prog W = .ok () W := fun x y W => eql_guard _ _ x y W
                clear hz HRR
                obtain ⟨bsc, bho, bpa, bqu, bfr, bhs, bhh, bhq, bhf⟩ := b
                obtain ⟨rsc, rho, rpa, rqu, rfr, rhs, rhh, rhq, rhf⟩ := t
                obtain ⟨csc, cho, cpa, cqu, cfr, chs, chh, chq, chf⟩ := r
                obtain ⟨ssc, sho, spa, squ, sfr, shs, shh, shq, shf⟩ := S1
                obtain ⟨usc, uho, upa, uqu, ufr, uhs, uhh, uhq, uhf⟩ := S2
                unfold Lk.v at H3 H4 H5 f1 f2 f3 f4
                simp only at H3 H4 H5 f1 f2 f3 f4
                have hK1 : Blk w10 n1 #[.string ⟨bsc.toArray⟩, .string ⟨bho.toArray⟩, .string ⟨bpa.toArray⟩, .string ⟨bqu.toArray⟩, .string ⟨bfr.toArray⟩, .bool bhs, .bool bhh, .bool bhq, .bool bhf] 42 := HK1.out
                have hK2 : Blk w10 n2 #[.string ⟨rsc.toArray⟩, .string ⟨rho.toArray⟩, .string ⟨rpa.toArray⟩, .string ⟨rqu.toArray⟩, .string ⟨rfr.toArray⟩, .bool rhs, .bool rhh, .bool rhq, .bool rhf] 42 := HK2.out
                clear HK1 HK2 HC H1 H2 t0 t1
                obtain ⟨c0, c1, c2, c3, c4, c5, c6, c7, c8, cz⟩ := hK1.nine
                obtain ⟨d0, d1, d2, d3, d4, d5, d6, d7, d8, dz⟩ := hK2.nine
                have HK1 := hid_of hK1
                have HK2 := hid_of hK2
                clear hK1 hK2
                go_wp2_with fail
                (go_at_call 14; refine (H3.out w10 HBx.out).mono ?_; rintro e w11 ⟨rfl, g11⟩)
                have hK1b := (HK1.out.below g11).alloc (.cells #[.string ⟨csc.toArray⟩, .string ⟨cho.toArray⟩, .string ⟨cpa.toArray⟩, .string ⟨cqu.toArray⟩, .string ⟨cfr.toArray⟩, .bool chs, .bool chh, .bool chq, .bool chf] 42)
                have hK2b := (HK2.out.below g11).alloc (.cells #[.string ⟨csc.toArray⟩, .string ⟨cho.toArray⟩, .string ⟨cpa.toArray⟩, .string ⟨cqu.toArray⟩, .string ⟨cfr.toArray⟩, .bool chs, .bool chh, .bool chq, .bool chf] 42)
                have hK3 := Blk.new w11 #[.string ⟨csc.toArray⟩, .string ⟨cho.toArray⟩, .string ⟨cpa.toArray⟩, .string ⟨cqu.toArray⟩, .string ⟨cfr.toArray⟩, .bool chs, .bool chh, .bool chq, .bool chf] 42
                have b12 := (HBx.out.trans (g11.mono HBx.out.size)).alloc (HBx.out.trans (g11.mono HBx.out.size)).size (.cells #[.string ⟨csc.toArray⟩, .string ⟨cho.toArray⟩, .string ⟨cpa.toArray⟩, .string ⟨cqu.toArray⟩, .string ⟨cfr.toArray⟩, .bool chs, .bool chh, .bool chq, .bool chf] 42)
                obtain ⟨n3, hn3⟩ : ∃ n3, w11.heap.size = n3 := ⟨_, rfl⟩
                rw [hn3] at hK3
                clear g11 c0 c1 c2 c3 c4 c5 c6 c7 c8 cz d0 d1 d2 d3 d4 d5 d6 d7 d8 dz HK1 HK2 HBx H3
                go_upto_region 29 with fail
                try rw [hn3]
                generalize w11.alloc (.cells #[.string ⟨csc.toArray⟩, .string ⟨cho.toArray⟩, .string ⟨cpa.toArray⟩, .string ⟨cqu.toArray⟩, .string ⟨cfr.toArray⟩, .bool chs, .bool chh, .bool chq, .bool chf] 42) = w12 at *
                clear hn3
                have b0w := HB9.out
                have D : ∀ d os, Below w12.heap.size w12 (Go.Sort.grow (redrawn w12 d) os) := fun d os => below_regrown w12 d os
                have D9 : ∀ d os, Below w9.heap.size w9 (Go.Sort.grow (redrawn w12 d) os) := fun d os => b12.trans ((D d os).mono b12.size)
                have x0 := cell_regrown hK1b 0 _ rfl
                have x1 := cell_regrown hK1b 1 _ rfl
                have x2 := cell_regrown hK1b 2 _ rfl
                have x3 := cell_regrown hK1b 3 _ rfl
                have x4 := cell_regrown hK1b 4 _ rfl
                have x5 := cell_regrown hK1b 5 _ rfl
                have x6 := cell_regrown hK1b 6 _ rfl
                have x7 := cell_regrown hK1b 7 _ rfl
                have x8 := cell_regrown hK1b 8 _ rfl
                have y0 := cell_regrown hK2b 0 _ rfl
                have y1 := cell_regrown hK2b 1 _ rfl
                have y2 := cell_regrown hK2b 2 _ rfl
                have y3 := cell_regrown hK2b 3 _ rfl
                have y4 := cell_regrown hK2b 4 _ rfl
                have y5 := cell_regrown hK2b 5 _ rfl
                have y6 := cell_regrown hK2b 6 _ rfl
                have y7 := cell_regrown hK2b 7 _ rfl
                have y8 := cell_regrown hK2b 8 _ rfl
                have z0 := cell_regrown hK3 0 _ rfl
                have z1 := cell_regrown hK3 1 _ rfl
                have z2 := cell_regrown hK3 2 _ rfl
                have z3 := cell_regrown hK3 3 _ rfl
                have z4 := cell_regrown hK3 4 _ rfl
                have z5 := cell_regrown hK3 5 _ rfl
                have z6 := cell_regrown hK3 6 _ rfl
                have z7 := cell_regrown hK3 7 _ rfl
                have z8 := cell_regrown hK3 8 _ rfl
                have q1 : ∀ d os, Calls Tryz.prog 15 #[.agg #[.string ⟨bsc.toArray⟩, .string ⟨bho.toArray⟩, .string ⟨bpa.toArray⟩, .string ⟨bqu.toArray⟩, .string ⟨bfr.toArray⟩, .bool bhs, .bool bhh, .bool bhq, .bool bhf], .agg #[.string ⟨rsc.toArray⟩, .string ⟨rho.toArray⟩, .string ⟨rpa.toArray⟩, .string ⟨rqu.toArray⟩, .string ⟨rfr.toArray⟩, .bool rhs, .bool rhh, .bool rhq, .bool rhf]] (Go.Sort.grow (redrawn w12 d) os) fun e w'' => e = .returned (.agg #[.string ⟨ssc.toArray⟩, .string ⟨sho.toArray⟩, .string ⟨spa.toArray⟩, .string ⟨squ.toArray⟩, .string ⟨sfr.toArray⟩, .bool shs, .bool shh, .bool shq, .bool shf]) ∧ ∃ p : Regrown, w'' = Go.Sort.grow (redrawn w12 p.d) p.os := fun d os => Calls.regrown_of (H4.out _ (D9 d os))
                have q2 : ∀ d os, Calls Tryz.prog 15 #[.agg #[.string ⟨bsc.toArray⟩, .string ⟨bho.toArray⟩, .string ⟨bpa.toArray⟩, .string ⟨bqu.toArray⟩, .string ⟨bfr.toArray⟩, .bool bhs, .bool bhh, .bool bhq, .bool bhf], .agg #[.string ⟨csc.toArray⟩, .string ⟨cho.toArray⟩, .string ⟨cpa.toArray⟩, .string ⟨cqu.toArray⟩, .string ⟨cfr.toArray⟩, .bool chs, .bool chh, .bool chq, .bool chf]] (Go.Sort.grow (redrawn w12 d) os) fun e w'' => e = .returned (.agg #[.string ⟨usc.toArray⟩, .string ⟨uho.toArray⟩, .string ⟨upa.toArray⟩, .string ⟨uqu.toArray⟩, .string ⟨ufr.toArray⟩, .bool uhs, .bool uhh, .bool uhq, .bool uhf]) ∧ ∃ p : Regrown, w'' = Go.Sort.grow (redrawn w12 p.d) p.os := fun d os => Calls.regrown_of (H5.out _ (D9 d os))
                have q3 : ∀ d os, Calls Tryz.prog 16 #[] (Go.Sort.grow (redrawn w12 d) os) fun e w'' => e = .returned (.bool true) ∧ ∃ p : Regrown, w'' = Go.Sort.grow (redrawn w12 p.d) p.os := fun d os => Calls.regrown_of (H6.out _ (D9 d os))
                refine wp_region_quiet_below mixed (by kernel_rfl) ?_
                repeat (go_big_quiet_step (first | with_reducible exact q1 _ _ | with_reducible exact q2 _ _ | with_reducible exact q3 _ _))
                refine wpQuiet_nil ?_
                intro _ hw'
                obtain ⟨⟨dq, osq⟩, hw''⟩ := hw'
                have hb2 := D9 dq osq
                rw [← hw''] at hb2
                have HFIN := hid_of (b0w.trans (hb2.mono b0w.size))
                clear hw'' D D9 q1 q2 q3 b12 hb2 b0w
                go_wp2_with fail
                go_ret
                exact ⟨rfl, HB0.out.trans (HFIN.out.mono HB0.out.size)⟩
theorem walk (w : World) (hT : Tb w) (hM : MaxP w) (a : Option Addr) (cap : Nat) (l : List Two) (hL : TwosAt w a l) (hl : l.length + sumT l ≤ 1048576) (qa : Option Addr) (qcap : Nat) (q : List Two) (hQ : TwosAt w qa q) (hq : q.length + sumT q ≤ 1048576) (pb pt : List UInt8) (hp : pb.length + pt.length ≤ 1048576) :
    Calls Tryz.prog 3 #[.slice a l.length cap, .slice qa q.length qcap, .agg #[.string ⟨pb.toArray⟩, .string ⟨pt.toArray⟩]] w fun e w' => e = .returned (.bool true) ∧ Below w.heap.size w w' :=
  walk_on w hT hM hM.ok a cap l hL hl qa qcap q hQ hq pb pt hp

set_option maxRecDepth 100000 in
theorem contract (H : Type) (enc : TypeId × Value → H) (W : World) (base : Nat) (args : Array Value) (ds gs : List (DataW H)) (before : List MemPlace)
    (hval : ∀ (j : Nat) t v, Tryz.f3.params[j]? = some t → args[j]? = some v → Value.okWide Tryz.prog W .any base t v)
    (hW : DataW.Whole enc Tryz.prog Tryz.f3.params.toList Rows.linkBacksSpec.vars false W args.toList ds gs before) (hL : laidMetH Tryz.prog Rows.linkBacksUptoRow.laid W)(hsh : W.ShapedOpen Tryz.prog) (hk : Rows.uptoSmall H (ds ++ gs) = true) :
    Calls Tryz.prog 3 args W fun e W' => ∃ v, e = .returned v ∧ Rows.linkBacksSpec.post enc Tryz.prog Tryz.f3 false true false false W args v W' := by
  have hW' := hW
  have hlt := hW.lt
  obtain ⟨p, q, hA0, hV, rfl, hfz, hnd⟩ := hW
  have hA : DataW.TrodAll enc Tryz.prog W 0 (fun _ => true) true Tryz.f3.params.toList args.toList ds p := hA0
  rw [Tryz.params3] at hA hval
  obtain ⟨v0, vs0, d0, ds0, p0, q0, hargs, rfl, rfl, h0, r0⟩ := trodAll_cons hA
  obtain ⟨v1, vs1, d1, ds1, p1, q1, rfl, rfl, rfl, h1, r1⟩ := trodAll_cons r0
  obtain ⟨v2, vs2, d2, ds2, p2, q2, rfl, rfl, rfl, h2, r2⟩ := trodAll_cons r1
  obtain ⟨rfl, rfl, rfl⟩ := trodAll_nil r2
  obtain rfl : args = #[v0, v1, v2] := by cases args; simp_all
  obtain ⟨rfl, rfl⟩ := trodVars_none hV
  clear hA0
  simp only [List.append_nil] at hW' hlt hk
  have hbulk := of_decide_eq_true hk
  simp only [Rows.uptoBulkAll] at hbulk
  have e0 := okWide_slice Tryz.underlying22 (hval 0 22 v0 rfl rfl)
  obtain ⟨ta0, tc0, ts0, rfl, ct0, ht0, l0⟩ := cands_of_read e0 h0
  have e1 := okWide_slice Tryz.underlying23 (hval 1 23 v1 rfl rfl)
  obtain ⟨ta1, tc1, ts1, rfl, ct1, ht1, l1⟩ := attrs_of_read e1 h1
  obtain ⟨tx2, ty2, rfl, l2⟩ := two_of_read (hval 2 25 v2 rfl rfl) h2
  refine (walk W (tabs_of_laid hL) (Tryz.laysM146.s1_3 W hsh) ta0 tc0 ts0 ht0 (by omega) ta1 tc1 ts1 ht1 (by omega) tx2 ty2 (by omega)).mono fun e W' ⟨he, hb⟩ => ?_
  subst he
  exact ⟨_, rfl, post_below hW' (fun _ _ _ => trodAll_cons_mk (shut_bool Tryz.underlying4 _) trodAll_mk0) (trodAll_cons_mk (stays (by kernel_rfl) (of_decide_eq_true (by kernel_rfl)) h0 hb (fun x hx => hlt x (by simp [hx]))) (trodAll_cons_mk (stays (by kernel_rfl) (of_decide_eq_true (by kernel_rfl)) h1 hb (fun x hx => hlt x (by simp [hx]))) (trodAll_cons_mk (stays (by kernel_rfl) (of_decide_eq_true (by kernel_rfl)) h2 hb (fun x hx => hlt x (by simp [hx]))) trodAll_mk0))) rfl hb⟩

set_option maxRecDepth 100000 in
theorem laid_met (os : Os) : laidMet Tryz.prog Rows.linkBacksUptoRow.laid ((withTabs (World.holding Tryz.prog os ⟨#[], #[], []⟩)).forCall (fun _ _ => 0) ⟨#[], #[Value.slice none 0 0, Value.slice none 0 0, Value.agg #[.string ⟨#[]⟩, .string ⟨#[]⟩]], []⟩).memory :=
  laidMet_of_run' 8 (by kernel_rfl) (by kernel_rfl)
set_option maxRecDepth 100000 in
theorem reads (os : Os) {H : Type} (enc : TypeId × Value → H) : ∃ places, DataW.whole enc Tryz.prog ((withTabs (World.holding Tryz.prog os ⟨#[], #[], []⟩)).forCall (fun _ _ => 0) ⟨#[], #[Value.slice none 0 0, Value.slice none 0 0, Value.agg #[.string ⟨#[]⟩, .string ⟨#[]⟩]], []⟩).memory Tryz.f3.params.toList Rows.linkBacksSpec.vars false #[Value.slice none 0 0, Value.slice none 0 0, Value.agg #[.string ⟨#[]⟩, .string ⟨#[]⟩]].toList 8 = some ([.nil, .nil, .agg [.lit (.string []), .lit (.string [])]], [], places) :=
  ⟨[], by kernel_rfl⟩

set_option maxRecDepth 100000 in
theorem lifted (os : Os) (started : os.Started) (H : Type) (enc : TypeId × Value → H) (F : Stop.Interp) :
    ReturnsInHanded {} Tryz.checked os 3 .any ((Rows.OpenSpec.upto Rows.linkBacksSpec).preRow enc Tryz.prog Tryz.f3 Rows.linkBacksUptoRow.domain false Rows.linkBacksUptoRow.laid) (((Rows.OpenSpec.upto Rows.linkBacksSpec).at F).post enc Tryz.prog Tryz.f3 false true false false) := by
  obtain ⟨places, hx⟩ := reads os enc
  refine returnsInHanded_of_row (C := Tryz.checked) (s := Rows.OpenSpec.upto Rows.linkBacksSpec) own started (by kernel_rfl) Tryz.func3
    (witness_row_at (enc := enc) (C := Tryz.checked) false (withTabs (World.holding Tryz.prog os ⟨#[], #[], []⟩)) #[Value.slice none 0 0, Value.slice none 0 0, Value.agg #[.string ⟨#[]⟩, .string ⟨#[]⟩]] rfl (by kernel_rfl) (by kernel_rfl) (by kernel_rfl)
      (OpenSpec.preRow_of_cond 8 hx (by kernel_rfl) (fun k hk => by cases hk; kernel_rfl) (by kernel_rfl) (laid_met os))) ?_
  intro W base args ds gs before hval hW _ hcond _ hL hsh _
  exact contract H enc W base args ds gs before hval hW hL hsh (hcond _ rfl)

set_option maxRecDepth 100000 in
theorem said : Rows.LinkBacksUptoSaid :=
  OpenClaim.holds_of_cond 3 Tryz.f3 rfl rfl rfl rfl rfl rfl rfl ⟨rfl, rfl, rfl, rfl, rfl⟩ rfl rfl rfl rfl rfl (by kernel_rfl) Tryz.func3 (by kernel_rfl)
    (of_decide_eq_true (by kernel_rfl)) (by unfold Func.isWrapper; first | (rw [if_pos (by decide +kernel)]; kernel_rfl) | (rw [if_neg (by decide +kernel)]; exact ⟨rfl, rfl⟩))
    (fun os started H enc _ F => by rw [OpenClaim.pre_eq_preRow]; exact lifted os started H enc F)

theorem plain (f : FuncId) (fn : Func) (hf : Tryz.pinned.checked.prog.funcNamed "sieve/sievelaw12.LinkBacks" = some f) (hfn : Tryz.pinned.checked.prog.funcs[f]? = some fn) :
    false = Tryz.pinned.checked.prog.looks [] ∧ ∀ (j : Nat) t, fn.params[j]? = some t → Tryz.pinned.checked.prog.wantsStandIn t = false := by
  obtain rfl : f = 3 := Option.some.inj ((show Tryz.prog.funcNamed "sieve/sievelaw12.LinkBacks" = some 3 by kernel_rfl).symm.trans hf) |>.symm
  obtain rfl : fn = Tryz.f3 := (Option.some.inj (Tryz.func3.symm.trans hfn)).symm
  refine ⟨by kernel_rfl, fun j t ht => ?_⟩
  rw [Tryz.params3] at ht
  have hm := Array.mem_of_getElem? ht
  simp only [List.mem_toArray, List.mem_cons, List.not_mem_nil, or_false] at hm
  rcases hm with rfl | rfl | rfl
  · exact (show Tryz.prog.wantsStandIn 22 = false by kernel_rfl)
  · exact (show Tryz.prog.wantsStandIn 23 = false by kernel_rfl)
  · exact (show Tryz.prog.wantsStandIn 25 = false by kernel_rfl)

theorem card : Rows.LinkBacksUptoCardSaid :=
  Claim7.holds_tied_plain_at .later [] _ _ _ _ said (fun _ h => by cases h) (by kernel_rfl) (fun _ h => by cases h) linkBacksUpto_row_tie rfl ⟨rfl, rfl⟩ (by kernel_rfl) rfl plain (by kernel_rfl)

end Go.Proofs.YtmfhhpacojodkaaGreatDoor.LpBacksL
