/- What is proved here: the contracts of sieveref04.List and sieveref04.Known: the sets' names and all names, in rising order. -/
import Derived.Laws.AppendOwnNone
import Derived.Test.YtihehkgmlijfgaaNSorted
import Derived.Test.YtihehkgmlijfgaaNKnownM
import Derived.Test.YtihehkgmlijfgaaNMembers
namespace Go.Proofs.Ytihehkgmlijfgaa.N
open Go.RowKit C

theorem svs_one (L : List (List UInt8)) : ∀ u ∈ svs L, u.oneCell' = true := fun x hx => by simp [svs] at hx; obtain ⟨c, _, rfl⟩ := hx; rfl
/-- 'append(s, x...)' of texts in a row to a row of one's own. -/
theorem append_texts {w : World} {ops : Array Oper} {rest : List Oper} {o : Oper} {a : Act} {Q : Exit → Act → World → Prop} (hgd : o.guard = none) (s x : Operand)
    (ho : o.op = .call { callee := .builtin .append, args := #[s, x], argTypes := #[23, 23] }) (base base' : Nat)
    (v : Value) (M : List (List UInt8)) (hs : a.eval s = v) (hown : OwnT base w v M) (xv : Value) (L : List (List UInt8)) (hx : a.eval x = xv) (hX : OwnT base' w xv L)
    (h63 : M.length + L.length ≤ 100000000000) (hbase : base ≤ w.heap.size)
    (h : ∀ v' w', OwnT base w' v' (M ++ L) → w.grownBy w' v.ownBlock → wpList Try.prog ops Q rest (a.put o.dst v') w') : wpList Try.prog ops Q (o :: rest) a w := by
  obtain ⟨i0, hi, hz0, hz1, hz2⟩ := info_parts infoStr
  rcases hX.2 with ⟨rfl, e0⟩ | ⟨g, cap, cur, rfl, hb, hg, hcap, _⟩
  · obtain rfl : L = [] := List.length_eq_zero_iff.1 e0
    exact wpList_append_own_none hgd s x _ ho base _ i0 1 Try.underlying23 hi v _ _ hs hown hx (h v w (by rw [List.append_nil]; exact hown) (World.grownBy.refl _ _))
  · refine wpList_append_own w hgd s x _ ho base _ i0 (.string ⟨#[]⟩) 1 16 Try.underlying23 hi hz0 hz1 hz2 rfl (by decide) v _ _ hs hown ⟨g, 0, none⟩ L.length cap (svs L) hx (by rw [svs_length]; omega) (fun j u hj => ?_) (svs_one L) (by unfold maxLen; omega) (by omega) hbase (fun v' w' h1 h2 _ => h v' w' (by show w'.ownsRow _ _ _ _ _ _; rw [List.length_append, svs_append]; exact h1) h2)
    have hj' : j < L.length := by rw [← svs_length]; exact (List.getElem?_eq_some_iff.1 hj).1
    rw [add_none, Nat.zero_add, World.ownsRow.cellAt hX j (by omega)]
    exact hj

theorem rows_checked : ((List.range 16).all fun k => decide ((SW k).Pairwise (fun a b => a ≤ b)) && decide (fields (rtxtOf k).data.toList).Nodup && decide ((fields (rtxtOf k).data.toList).length ≤ 1000)) = true := by decide +kernel
theorem list_sorted (z : Int) : (fields (txtZ z).data.toList).Pairwise (fun a b => a ≤ b) := by
  unfold txtZ
  split
  · have h := List.all_eq_true.1 rows_checked z.toNat (List.mem_range.2 (by omega))
    simp only [Bool.and_eq_true, decide_eq_true_eq] at h
    exact h.1.1
  · rw [show (⟨#[]⟩ : ByteArray).data.toList = [] from rfl]
    simp [fields, fieldsFrom]
theorem list_perm (z : Int) : (fields (txtZ z).data.toList).Perm (fields (rtxtZ z).data.toList) := by
  unfold txtZ rtxtZ
  split
  · have h := List.all_eq_true.1 rows_checked z.toNat (List.mem_range.2 (by omega))
    simp only [Bool.and_eq_true, decide_eq_true_eq] at h
    have h2 := List.all_eq_true.1 sets_once z.toNat (List.mem_range.2 (by omega))
    rw [decide_eq_true_eq] at h2
    exact (List.perm_ext_iff_of_nodup h2 h.1.2).2 (set_right z.toNat (by omega)).2.2.1
  · exact .refl _
theorem rlist_length (z : Int) : (fields (rtxtZ z).data.toList).length ≤ 1000 := by
  unfold rtxtZ
  split
  · have h := List.all_eq_true.1 rows_checked z.toNat (List.mem_range.2 (by omega))
    simp only [Bool.and_eq_true, decide_eq_true_eq] at h
    exact h.2
  · rw [show (⟨#[]⟩ : ByteArray).data.toList = [] from rfl]
    simp [fields, fieldsFrom]

set_option maxRecDepth 100000 in
set_option maxHeartbeats 1000000 in
/-- **List, as the document has it: the same as names.List's.** -/
theorem rlist_calls (z : Int) (w : World) :
    Calls Try.prog 11 #[.int .i64 z] w fun e w' => ∃ v, e = .returned v ∧ OwnT w.heap.size w' v (fields (txtZ z).data.toList) ∧ Below w.heap.size w w' := by
  have HX : Hid ((rtxtZ z).size ≤ 100000) := rtxtZ_size z
  have HTC : Hid (∀ w, Calls Try.prog 31 #[.int .i64 z] w fun e w' => e = .returned (.string (rtxtZ z)) ∧ w' = w) := rtext_calls z
  have HLS : Hid ((fields (txtZ z).data.toList).Pairwise (fun a b => a ≤ b)) := list_sorted z
  have HLP : Hid ((fields (txtZ z).data.toList).Perm (fields (rtxtZ z).data.toList)) := list_perm z
  have HLL : Hid ((fields (rtxtZ z).data.toList).length ≤ 1000) := rlist_length z
  generalize rtxtZ z = T at *
  generalize fields (txtZ z).data.toList = S at *
  go_enter Try.func11, Try.ntmps11
  go_wp2_with (first
    | (go_at_call 31; refine (HTC.out _).mono ?_; rintro e w' ⟨rfl, hw'⟩; have hx' := hw'.symm; subst hx')
    | (go_at_call 30; refine (rfields_calls T w (by have := HX.out; omega)).mono ?_; rintro e W1 ⟨v, rfl, hO, hB⟩)
    | (go_at_call 32; refine (rsorted_calls _ w.heap.size v W1 (by have := HLL.out; omega) hO).mono ?_; rintro e W2 ⟨rfl, M, hS, hO2, hB2⟩))
  go_ret
  obtain rfl := hS.done S HLS.out HLP.out
  exact ⟨_, rfl, hO2, hB.trans hB2⟩

/-- The texts of the first k sets, one behind the other. -/
def RA : Nat → List (List UInt8)
  | 0 => []
  | k + 1 => RA k ++ fields (rtxtZ (k : Int)).data.toList
theorem RA_length : ∀ k, (RA k).length ≤ 1000 * k
  | 0 => by simp [RA]
  | k + 1 => by
    have := RA_length k
    have := rlist_length (k : Int)
    rw [RA, List.length_append]
    omega
theorem RA_mem (x : List UInt8) : ∀ k, k ≤ 16 → (x ∈ RA k ↔ ∃ j, j < k ∧ x ∈ SW j)
  | 0 => fun _ => by simp [RA]
  | k + 1 => fun h => by
    have e : x ∈ fields (rtxtZ (k : Int)).data.toList ↔ x ∈ SW k := by
      unfold rtxtZ
      rw [if_pos (by omega)]
      simpa using ((set_right k (by omega)).2.2.1 x).symm
    rw [RA, List.mem_append, RA_mem x k (by omega), e]
    constructor
    · rintro (⟨j, h1, h2⟩ | h2)
      · exact ⟨j, by omega, h2⟩
      · exact ⟨k, by omega, h2⟩
    · rintro ⟨j, h1, h2⟩
      by_cases hj : j = k
      · subst hj; exact .inr h2
      · exact .inl ⟨j, by omega, h2⟩
/-- What stands in the first i of a sorted row, each once. -/
def Dd (M O : List (List UInt8)) (i : Nat) : Prop := O.Pairwise (fun a b => a < b) ∧ (∀ x, x ∈ O ↔ x ∈ M.take i) ∧ O.length ≤ i
theorem Dd.start (M : List (List UInt8)) : Dd M [] 0 := ⟨.nil, by simp, by simp⟩
theorem le_take {M : List (List UInt8)} (hM : M.Pairwise (fun a b => a ≤ b)) {i : Nat} (hi : i < M.length) (h0 : 0 < i) {x : List UInt8} (hx : x ∈ M.take i) : x ≤ M[i - 1] := by
  obtain ⟨j, hj, rfl⟩ := List.mem_iff_getElem.1 hx
  rw [List.length_take] at hj
  rw [List.getElem_take]
  by_cases e : j = i - 1
  · subst e; exact List.le_refl _
  · exact List.pairwise_iff_getElem.1 hM j (i - 1) (by omega) (by omega) (by omega)
theorem Dd.more {M O : List (List UInt8)} {i : Nat} (h : Dd M O i) (hM : M.Pairwise (fun a b => a ≤ b)) (hi : i < M.length) (hn : i = 0 ∨ M[i] ≠ M[i - 1]) : Dd M (O ++ [M[i]]) (i + 1) := by
  obtain ⟨h1, h2, h3⟩ := h
  refine ⟨List.pairwise_append.2 ⟨h1, by simp, fun a ha b hb => ?_⟩, fun x => ?_, by simp; omega⟩
  · obtain rfl : b = M[i] := by simpa using hb
    have ha' := (h2 a).1 ha
    have h0 : 0 < i := by
      rcases Nat.eq_zero_or_pos i with rfl | h
      · simp at ha'
      · exact h
    have l1 := le_take hM hi h0 ha'
    have l2 : M[i - 1] ≤ M[i] := List.pairwise_iff_getElem.1 hM (i - 1) i (by omega) hi (by omega)
    have l3 : M[i] ≠ M[i - 1] := hn.resolve_left (by omega)
    have l4 : a ≤ M[i] := List.le_trans l1 l2
    rcases List.le_iff_lt_or_eq.1 l4 with h | h
    · exact h
    · exact absurd (List.le_antisymm (h ▸ l1) l2) l3
  · rw [List.take_succ_eq_append_getElem hi, List.mem_append, List.mem_append, h2 x]
theorem Dd.same {M O : List (List UInt8)} {i : Nat} (h : Dd M O i) (hi : i < M.length) (h0 : ¬ i = 0) (hn : M[i] = M[i - 1]) : Dd M O (i + 1) := by
  obtain ⟨h1, h2, h3⟩ := h
  refine ⟨h1, fun x => ?_, by omega⟩
  rw [List.take_succ_eq_append_getElem hi, List.mem_append, h2 x]
  refine ⟨.inl, fun hx => hx.elim id fun hx => ?_⟩
  obtain rfl : x = M[i] := by simpa using hx
  rw [hn]
  exact List.mem_iff_getElem.2 ⟨i - 1, by rw [List.length_take]; omega, by rw [List.getElem_take]⟩
theorem Dd.done {M O : List (List UInt8)} (h : Dd M O M.length) (hm : ∀ x, x ∈ M ↔ x ∈ KN) : O = KN := by
  obtain ⟨h1, h2, _⟩ := h
  have hd : O.Nodup := h1.imp (fun hab e => by subst e; exact List.lt_irrefl _ hab)
  have hp : O.Perm KN := (List.perm_ext_iff_of_nodup hd kn_nodup).2 fun x => by rw [h2 x, List.take_length, hm x]
  have hk : KN.Pairwise (fun a b => a ≤ b) := kn_pair.imp (fun h => by simpa [leB] using h)
  exact List.Perm.eq_of_pairwise (le := fun a b => a ≤ b) (fun a b _ _ h1 h2 => List.le_antisymm h1 h2) (h1.imp List.le_of_lt) hk hp

set_option maxRecDepth 100000 in
set_option maxHeartbeats 2000000 in
/-- **Known, as the document has it.** -/
theorem rknown_calls (w : World) :
    Calls Try.prog 20 #[] w fun e w' => ∃ v, e = .returned v ∧ OwnT w.heap.size w' v KN ∧ Below w.heap.size w w' := by
  obtain ⟨i0, hi, hz0, hz1, hz2⟩ := info_parts infoStr
  go_enter Try.func20, Try.ntmps20
  go_wp2
  go_loopw [1, 2, 6] (fun v _ i wr => ∃ k : Nat, k ≤ 16 ∧ i = .int .i64 k ∧ Hid (OwnT w.heap.size wr v (RA k)) ∧ Hid (Below w.heap.size w wr)) (fun _ _ i _ => 16 - (intOf i).toNat)
  case atStart => exact ⟨0, by omega, rfl, World.ownsRow_nil _ _ _ _, Below.refl _ _⟩
  case round =>
    obtain ⟨k, hk, rfl, hO, hB⟩ := hrel
    have s1 := hB.out.size
    by_cases hlt : k < 16
    · have HX : Hid ((rtxtZ (k : Int)).size ≤ 100000) := rtxtZ_size k
      have HTC : Hid (∀ w, Calls Try.prog 31 #[.int .i64 k] w fun e w' => e = .returned (.string (rtxtZ k)) ∧ w' = w) := rtext_calls k
      have HLL : Hid ((fields (rtxtZ (k : Int)).data.toList).length ≤ 1000) := rlist_length k
      have HRA : Hid (RA (k + 1) = RA k ++ fields (rtxtZ (k : Int)).data.toList) := rfl
      have HRL : Hid ((RA k).length ≤ 1000 * k) := RA_length k
      generalize rtxtZ (k : Int) = T at *
      have hT : Hid (OwnT w.heap.size wr u1 (RA k)) := hO
      go_wp2_with (first
        | (go_at_call 31; refine (HTC.out _).mono ?_; rintro e w' ⟨rfl, hw'⟩; have hx' := hw'.symm; subst hx')
        | (go_at_call 30; refine (rfields_calls T wr (by have := HX.out; omega)).mono ?_; rintro e W1 ⟨v, rfl, hF, hB1⟩; have s2 := hB1.size)
        | (at_builtin; refine append_texts rfl _ _ rfl w.heap.size wr.heap.size _ (RA k) rfl (owns_below hT.out hB1) _ _ rfl hF (by have := HLL.out; have := HRL.out; omega) (by omega) ?_; intro v' w4 hown' hgrow))
      go_roundw
      case rel => exact ⟨k + 1, by omega, by go_num, by rw [HRA.out]; exact hown', (hB.out.trans (hB1.mono s1)).grown hgrow (by omega) (fun j hj => (hT.out.lt j hj).1)⟩
      case measure => simp [intOf]; omega
    · obtain rfl : k = 16 := by omega
      have HRL : Hid ((RA 16).length ≤ 16000) := RA_length 16
      have HRM : Hid (∀ x, x ∈ RA 16 ↔ x ∈ KN) := fun x => by rw [RA_mem x 16 (by omega), mem_kn]
      have hT : Hid (OwnT w.heap.size wr u1 (RA 16)) := hO
      generalize RA 16 = A at *
      go_wp2_with (go_at_call 32; refine (rsorted_calls A w.heap.size u1 wr (by have := HRL.out; omega) hT.out).mono ?_; rintro e W2 ⟨rfl, M, hS, hO2, hB2⟩; obtain ⟨a, cap, rfl⟩ := owns_slice hO2)
      have HMS : Hid (M.Pairwise (fun a b => a ≤ b)) := by
        have h := hS.2.1
        rw [List.take_length] at h
        exact h
      have HMM : Hid (∀ x, x ∈ M ↔ x ∈ KN) := fun x => (hS.2.2.mem_iff).trans (HRM.out x)
      have hml : (M.length : Int) ≤ 16000 := by have := hS.2.2.length_eq; have := HRL.out; omega
      have HMT : Hid (HasT W2 (.slice a M.length cap) M) := HasT.of hO2
      have HB2 : Hid (Below w.heap.size w W2) := hB.out.trans hB2
      clear hS hO2 hB2 hT HRM HRL hO
      go_loopw [3, 4, 5, 19] (fun v _ _ i wr => ∃ (k : Nat) (O : List (List UInt8)), k ≤ M.length ∧ i = .int .i64 k ∧ Hid (Dd M O k) ∧ Hid (OwnT W2.heap.size wr v O) ∧ Hid (Below W2.heap.size W2 wr)) (fun _ _ _ i _ => M.length - (intOf i).toNat)
      case atStart => exact ⟨0, [], by omega, rfl, Dd.start M, World.ownsRow_nil _ _ _ _, Below.refl _ _⟩
      case round =>
        obtain ⟨k, O, hk, rfl, hD, hO, hB3⟩ := hrel
        have s3 := hB3.out.size
        by_cases hlt : k < M.length
        · obtain ⟨b, rfl, hb, hcap, hcell⟩ := (HMT.out.below hB3.out).at (by omega)
          have hc := hcell k hlt
          have hol := hD.out.2.2
          have hT : Hid (OwnT W2.heap.size wr u3 O) := hO
          by_cases h0 : k = 0
          · have HD2 : Hid (Dd M (O ++ [M[k]]) (k + 1)) := hD.out.more HMS.out hlt (.inl h0)
            clear hcell
            subst h0
            generalize M[0] = x at *
            go_wp2_with (at_builtin; refine wpList_append_own _ rfl _ _ 23 rfl W2.heap.size 9 i0 (.string ⟨#[]⟩) 1 16 Try.underlying23 hi hz0 hz1 hz2 rfl (by decide) _ _ _ rfl (World.ownsRow.alloc hT.out _) ⟨wr.heap.size, 0, none⟩ 1 1 [_] rfl rfl (cell_one _ _ _ _ rfl) (by simp [Value.oneCell']) (by unfold maxLen; omega) (by omega) (by simp; omega) ?_; intro v' w4 hown' hgrow _)
            first
              | exact ⟨⟨0 + 1, _, by omega, by go_num, HD2, by unfold OwnT; rw [List.length_append, svs_append]; exact hown', (hB3.out.alloc s3 _).grown hgrow (by simp; omega) (fun j hj => (hT.out.lt j hj).1)⟩, by simp [intOf]; omega⟩
              | (go_roundw
                 case rel => exact ⟨0 + 1, _, by omega, by go_num, HD2, by unfold OwnT; rw [List.length_append, svs_append]; exact hown', (hB3.out.alloc s3 _).grown hgrow (by simp; omega) (fun j hj => (hT.out.lt j hj).1)⟩
                 case measure => simp [intOf]; omega)
          · have hc1 := hcell (k - 1) (by omega)
            clear hcell
            by_cases hne : M[k] = M[k - 1]
            · have HD2 : Hid (Dd M O (k + 1)) := hD.out.same hlt h0 hne
              have hq : (M[k] == M[k - 1]) = true := beq_iff_eq.2 hne
              go_wp2
              first
                | exact ⟨⟨k + 1, O, by omega, by go_num, HD2, hT, hB3⟩, by simp [intOf]; omega⟩
                | (go_roundw
                   case rel => exact ⟨k + 1, O, by omega, by go_num, HD2, hT, hB3⟩
                   case measure => simp [intOf]; omega)
            · have HD2 : Hid (Dd M (O ++ [M[k]]) (k + 1)) := hD.out.more HMS.out hlt (.inr hne)
              have hq : (M[k] == M[k - 1]) = false := beq_eq_false_iff_ne.2 hne
              go_wp2_with (at_builtin; refine wpList_append_own _ rfl _ _ 23 rfl W2.heap.size 9 i0 (.string ⟨#[]⟩) 1 16 Try.underlying23 hi hz0 hz1 hz2 rfl (by decide) _ _ _ rfl (World.ownsRow.alloc hT.out _) ⟨wr.heap.size, 0, none⟩ 1 1 [_] rfl rfl (cell_one _ _ _ _ rfl) (by simp [Value.oneCell']) (by unfold maxLen; omega) (by omega) (by simp; omega) ?_; intro v' w4 hown' hgrow _)
              first
                | exact ⟨⟨k + 1, _, by omega, by go_num, HD2, by unfold OwnT; rw [List.length_append, svs_append]; exact hown', (hB3.out.alloc s3 _).grown hgrow (by simp; omega) (fun j hj => (hT.out.lt j hj).1)⟩, by simp [intOf]; omega⟩
                | (go_roundw
                   case rel => exact ⟨k + 1, _, by omega, by go_num, HD2, by unfold OwnT; rw [List.length_append, svs_append]; exact hown', (hB3.out.alloc s3 _).grown hgrow (by simp; omega) (fun j hj => (hT.out.lt j hj).1)⟩
                   case measure => simp [intOf]; omega)
        · obtain rfl : k = M.length := by omega
          go_wp2
          go_ret
          obtain rfl := hD.out.done HMM.out
          exact ⟨_, rfl, owns_mono hO.out HB2.out.size, HB2.out.trans (hB3.out.mono HB2.out.size)⟩
end Go.Proofs.Ytihehkgmlijfgaa.N
