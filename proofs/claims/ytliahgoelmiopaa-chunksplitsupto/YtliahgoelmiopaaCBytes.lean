/- What is proved here: the contracts of chunk.Bytes and chunk.Same of any script. -/
import Derived.Laws.AppendOwnNone
import Derived.Test.YtliahgoelmiopaaCAwake
namespace Go.Proofs.Ytliahgoelmiopaa.C
open Go.RowKit

/-- A script's bytes, and whether it fails. -/
def bytesOf : List (List UInt8 × Bool) → List UInt8 × Bool
  | [] => ([], false)
  | (d, true) :: _ => (d, true)
  | (d, false) :: r => (d ++ (bytesOf r).1, (bytesOf r).2)
/-- The bytes of the first k steps. -/
def headB (l : List (List UInt8 × Bool)) (k : Nat) : List UInt8 := (l.take k).flatMap Prod.fst
theorem headB_succ (l : List (List UInt8 × Bool)) (k : Nat) (h : k < l.length) : headB l (k + 1) = headB l k ++ l[k].1 := by
  unfold headB
  rw [List.take_succ_eq_append_getElem h, List.flatMap_append]; simp
theorem bytesOf_split : ∀ (l : List (List UInt8 × Bool)) (k : Nat), (∀ x ∈ l.take k, x.2 = false) → bytesOf l = (headB l k ++ (bytesOf (l.drop k)).1, (bytesOf (l.drop k)).2)
  | l, 0, _ => by simp [headB]
  | [], k + 1, _ => by simp [headB, bytesOf]
  | (d, f) :: r, k + 1, h => by
    have hf : f = false := h (d, f) (by simp)
    subst hf
    have := bytesOf_split r k (fun x hx => h x (by simp [hx]))
    simp only [bytesOf, this, List.drop_succ_cons, headB, List.take_succ_cons, List.flatMap_cons, List.append_assoc]
theorem headB_le (l : List (List UInt8 × Bool)) (k : Nat) : (headB l k).length ≤ (l.map fun x => x.1.length).sum := by
  unfold headB
  induction l generalizing k with
  | nil => simp
  | cons x r ih =>
    cases k with
    | zero => simp
    | succ k => simp only [List.take_succ_cons, List.flatMap_cons, List.length_append, List.map_cons, List.sum_cons]; have := ih k; omega

set_option maxRecDepth 100000 in
set_option maxHeartbeats 1000000 in
theorem bytes_calls (l : List (List UInt8 × Bool)) (r : Value) (base : Nat) (w : World) (hS : OwnS base 76 w r l) (hl : (l.length : Int) ≤ 1000000000000) (hn : (l.map fun x => x.1.length).sum ≤ 100000000000000) :
    Calls Try.prog 21 #[r] w fun e W' => ∃ v, e = .returned (.tuple #[v, .bool (bytesOf l).2]) ∧ W'.ownsRow w.heap.size 5 1 v (bytesOf l).1.length (bvs (bytesOf l).1) ∧ Below w.heap.size w W' := by
  obtain ⟨i0, hi, hz0, hz1, hz2⟩ := info_parts infoByte
  obtain ⟨ra, rc, rfl⟩ := hS.slice
  have HS : Hid (OwnS base 76 w (.slice ra l.length rc) l) := hS
  clear hS
  go_enter Try.func21, Try.ntmps21
  go_wp2
  go_loopw [4, 6, 9] (fun v _ i wr => ∃ k : Nat, k ≤ l.length ∧ i = .int .i64 k ∧ Hid (∀ x ∈ l.take k, x.2 = false) ∧ wr.ownsRow w.heap.size 5 1 v (headB l k).length (bvs (headB l k)) ∧ Below w.heap.size w wr) (fun _ _ i _ => l.length - (intOf i).toNat)
  case atStart => exact ⟨0, by omega, rfl, fun x hx => by simp at hx, World.ownsRow_nil _ _ _ _, Below.refl _ _⟩
  case round =>
    obtain ⟨k, hk, rfl, hno, hrow, hB⟩ := hrel
    by_cases hlt : k < l.length
    · obtain ⟨g, cap, er, hcap, -, hg, hat⟩ := HS.out.at (by omega)
      obtain ⟨rfl, rfl⟩ : ra = some ⟨g, 0, none⟩ ∧ rc = cap := by simpa using er
      obtain ⟨a, c, ho, hc0, hc1, -, -⟩ := hat k hlt
      clear hat
      have d0 := (hB.cell (p := ⟨g, k * 2, none⟩) hg).trans hc0
      have d1 := (hB.cell (p := ⟨g, k * 2 + 1, none⟩) hg).trans hc1
      have hsz := headB_le l (k + 1)
      have HH : Hid (headB l (k + 1) = headB l k ++ l[k].1) := headB_succ l k hlt
      rw [HH.out, List.length_append] at hsz
      have s1 := hB.size
      have HSP : Hid (l[k].2 = true → bytesOf l = (headB l (k + 1), true)) := fun h => by
        rw [bytesOf_split l k hno.out, List.drop_eq_getElem_cons hlt, HH.out]
        have : bytesOf (l[k] :: l.drop (k + 1)) = (l[k].1, true) := by
          cases hx : l[k] with
          | mk d f => rw [hx] at h; simp only at h; subst h; rfl
        rw [this]
      have HNX : Hid (l[k].2 = false → ∀ x ∈ l.take (k + 1), x.2 = false) := fun h x hx => by
        rw [List.take_succ_eq_append_getElem hlt] at hx
        rcases List.mem_append.1 hx with hx | hx
        · exact hno.out x hx
        · simp at hx; subst hx; exact h
      clear hc0 hc1 er hno
      rcases hkind : l[k] with ⟨dk, fk⟩
      rw [hkind] at hsz HH HSP HNX ho d0 d1
      simp only at hsz HH HSP HNX ho d0 d1
      have HK : Hid (l[k] = (dk, fk)) := hkind
      clear hkind
      rcases ho.2 with ⟨ev, e0⟩ | ⟨gd, cd, _, ev, _, hgd, _⟩
      · -- nothing to append
        obtain ⟨rfl, e0', rfl⟩ : a = none ∧ dk.length = 0 ∧ c = 0 := by simpa using ev
        have ed : dk = [] := List.length_eq_zero_iff.1 e0
        subst ed
        simp only [List.length_nil, List.append_nil] at HH hsz d0
        clear ev e0 e0' ho
        have HR : Hid (wr.ownsRow w.heap.size 5 1 u4 (headB l (k + 1)).length (bvs (headB l (k + 1)))) := by rw [HH.out]; exact hrow
        cases fk with
        | false =>
          go_wp2_with (at_builtin; refine wpList_append_own_none rfl _ _ 39 rfl w.heap.size 5 i0 1 Try.underlying39 hi _ _ _ rfl (hrow.alloc _) rfl ?_)
          go_roundw
          case rel => exact ⟨k + 1, by omega, by go_num, HNX.out (by simp), HR.out.alloc _, hB.alloc s1 _⟩
          case measure => simp [intOf]; omega
        | true =>
          go_wp2_with (at_builtin; refine wpList_append_own_none rfl _ _ 39 rfl w.heap.size 5 i0 1 Try.underlying39 hi _ _ _ rfl (hrow.alloc _) rfl ?_)
          go_ret2
          refine ⟨u4, ?_, ?_, hB.alloc s1 _⟩
          · show Ending.returned (.tuple #[u4, .bool true]) = _
            rw [HSP.out (by simp)]
          · rw [HSP.out (by simp)]; exact HR.out.alloc _
      · obtain ⟨rfl, -⟩ : a = some ⟨gd, 0, none⟩ ∧ c = cd := by simpa using ev
        have hdn : dk.length ≤ 100000000000000 := by omega
        have HC : Hid (∀ j u, (bvs dk)[j]? = some u → wr.cell? ((⟨gd, 0, none⟩ : Addr).add j) = some u) := fun j u h => by
          have := (hasB_owns ho).below hB
          rcases this with ⟨rfl, _⟩ | ⟨_, b, off, cp, he, _, _, hx⟩
          · simp [bvs] at h
          · obtain ⟨⟨rfl, rfl⟩, -⟩ : (gd = b ∧ 0 = off) ∧ c = cp := by simpa using he
            exact cells_of hx j u h
        clear ev ho
        have HRL : Hid (∀ k, u4.ownBlock = some k → k ≠ wr.heap.size) := fun k e => by have := (hrow.lt k e).2; omega
        generalize hm : (headB l k).length = m at *
        have HM : Hid ((headB l k).length = m) := hm
        clear hm
        cases fk with
        | false =>
          go_wp2_with (at_builtin; refine wpList_append_own _ rfl _ _ 39 rfl w.heap.size 5 i0 (.int .u8 0) 1 1 Try.underlying39 hi hz0 hz1 hz2 rfl (by decide) _ _ _ rfl (hrow.alloc _) ⟨gd, 0, none⟩ dk.length c (bvs dk) rfl (by rw [bvs_length]; omega) (fun j u h => (cell_under _ _ _ (cell_lt (HC.out j u h))).trans (HC.out j u h)) (bvs_one dk) (by unfold maxLen; omega) (by omega) (by simp; omega) ?_; intro v' w4 hown' hgrow _; have hq : w4.cell? ⟨wr.heap.size, 1, none⟩ = some (.bool false) := hgrow.cell (by rw [cell_new]; rfl) (fun e => HRL.out _ e.symm rfl))
          go_roundw
          case rel => exact ⟨k + 1, by omega, by go_num, HNX.out (by simp), by rw [HH.out, List.length_append, HM.out, bvs_append]; exact hown', (hB.alloc s1 _).grown hgrow (by simp; omega) (fun j hj => (hrow.lt j hj).1)⟩
          case measure => simp [intOf]; omega
        | true =>
          go_wp2_with (at_builtin; refine wpList_append_own _ rfl _ _ 39 rfl w.heap.size 5 i0 (.int .u8 0) 1 1 Try.underlying39 hi hz0 hz1 hz2 rfl (by decide) _ _ _ rfl (hrow.alloc _) ⟨gd, 0, none⟩ dk.length c (bvs dk) rfl (by rw [bvs_length]; omega) (fun j u h => (cell_under _ _ _ (cell_lt (HC.out j u h))).trans (HC.out j u h)) (bvs_one dk) (by unfold maxLen; omega) (by omega) (by simp; omega) ?_; intro v' w4 hown' hgrow _; have hq : w4.cell? ⟨wr.heap.size, 1, none⟩ = some (.bool true) := hgrow.cell (by rw [cell_new]; rfl) (fun e => HRL.out _ e.symm rfl))
          go_ret2
          refine ⟨v', ?_, ?_, (hB.alloc s1 _).grown hgrow (by simp; omega) (fun j hj => (hrow.lt j hj).1)⟩
          · show Ending.returned (.tuple #[v', .bool true]) = _
            rw [HSP.out (by simp)]
          · rw [HSP.out (by simp), HH.out, List.length_append, HM.out, bvs_append]; exact hown'
    · obtain rfl : k = l.length := by omega
      have HE : Hid (bytesOf l = (headB l l.length, false)) := by
        show bytesOf l = _
        rw [bytesOf_split l l.length hno.out]; simp [bytesOf]
      go_wp2
      go_ret2
      refine ⟨u4, ?_, ?_, hB⟩
      · show Ending.returned (.tuple #[u4, .bool false]) = _
        rw [HE.out]
      · rw [HE.out]; exact hrow

theorem bytes_beq (xs ys : List UInt8) : (xs == ys) = decide (xs = ys) := by
  by_cases h : xs = ys
  · simp [h]
  · simp [h]
set_option maxRecDepth 100000 in
/-- **bytes.Equal of any bytes.** -/
theorem equal_calls (v v' : Value) (xs ys : List UInt8) (n₀ n₁ : Nat) (w : World) (h : HasB n₀ w v xs) (h' : HasB n₁ w v' ys) :
    Calls Try.prog 42 #[v, v'] w fun e W' => e = .returned (.bool (decide (xs = ys))) ∧ W' = w := by
  have h1 := conv_bytes h
  have h2 := conv_bytes h'
  clear h h'
  go_enter Try.func42, Try.ntmps42
  go_wp2
  go_ret
  simp
  exact bytes_beq xs ys

theorem bytesOf_le : ∀ l : List (List UInt8 × Bool), (bytesOf l).1.length ≤ (l.map fun x => x.1.length).sum
  | [] => by simp [bytesOf]
  | (d, true) :: r => by simp [bytesOf]
  | (d, false) :: r => by have := bytesOf_le r; simp only [bytesOf, List.length_append, List.map_cons, List.sum_cons]; omega

set_option maxRecDepth 100000 in
set_option maxHeartbeats 1000000 in
/-- **chunk.Same of any two scripts.** -/
theorem same_calls (l l' : List (List UInt8 × Bool)) (r r' : Value) (base base' : Nat) (w : World) (hS : OwnS base 76 w r l) (hS' : OwnS base' 76 w r' l') (hl : (l.length : Int) ≤ 1000000000000) (hl' : (l'.length : Int) ≤ 1000000000000) (hn : (l.map fun x => x.1.length).sum ≤ 100000000000000) (hn' : (l'.map fun x => x.1.length).sum ≤ 100000000000000) :
    Calls Try.prog 26 #[r, r'] w fun e W' => e = .returned (.bool (decide (bytesOf l = bytesOf l'))) ∧ Below w.heap.size w W' := by
  have he : decide (bytesOf l = bytesOf l') = (((bytesOf l).2 == (bytesOf l').2) && decide ((bytesOf l).1 = (bytesOf l').1)) := by
    rw [Bool.eq_iff_iff]
    simp only [decide_eq_true_eq, Bool.and_eq_true, beq_iff_eq, Prod.ext_iff]
    exact And.comm
  rw [he]
  clear he
  have HS : Hid (OwnS base 76 w r l) := hS
  have HS' : Hid (OwnS base' 76 w r' l') := hS'
  have HN : Hid ((l.map fun x => x.1.length).sum ≤ 100000000000000 ∧ (l'.map fun x => x.1.length).sum ≤ 100000000000000) := ⟨hn, hn'⟩
  clear hS hS' hn hn'
  go_enter Try.func26, Try.ntmps26
  go_wp2_with fail
  refine (bytes_calls l r base w HS.out hl HN.out.1).mono ?_
  rintro e w1 ⟨v1, rfl, ho1, hb1⟩
  go_wp2_with fail
  refine (bytes_calls l' r' base' w1 (HS'.out.below hb1) hl' HN.out.2).mono ?_
  rintro e w2 ⟨v2, rfl, ho2, hb2⟩
  have hA : Hid (HasB w1.heap.size w2 v1 (bytesOf l).1) := (hasB_owns ho1).below hb2
  have hB : Hid (HasB w2.heap.size w2 v2 (bytesOf l').1) := hasB_owns ho2
  have hb : Below w.heap.size w w2 := hb1.trans (hb2.mono hb1.size)
  clear ho1 ho2 hb1 hb2
  cases e1 : (bytesOf l).2 == (bytesOf l').2 with
  | true =>
    have e2 : (bytesOf l).2 = (bytesOf l').2 := by simpa using e1
    have E1 : Hid (((bytesOf l).2 == (bytesOf l').2) = true) := e1
    rw [e2]
    generalize (bytesOf l').2 = f
    clear e1 e2
    go_wp2_with (go_at_call 42; refine (equal_calls _ _ _ _ _ _ _ hA.out hB.out).mono ?_; rintro e w3 ⟨rfl, hw⟩; obtain rfl : w2 = w3 := hw.symm)
    go_ret
    exact ⟨by rw [E1.out]; simp, hb⟩
  | false =>
    have E1 : Hid (((bytesOf l).2 == (bytesOf l').2) = false) := e1
    go_wp2
    go_ret
    exact ⟨by rw [E1.out]; simp, hb⟩

end Go.Proofs.Ytliahgoelmiopaa.C
