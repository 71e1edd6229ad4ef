/- What is proved here: the contracts of sieveref04.List and sieveref04.Known: the sets' names and all names, in rising order. -/
import Derived.Laws.AppendOwnNone
import Derived.Test.YtjgppdjbcmadcaaNSorted
import Derived.Test.YtjgppdjbcmadcaaNKnownM
import Derived.Test.YtjgppdjbcmadcaaNMembers
namespace Go.Proofs.Ytjgppdjbcmadcaa.N
open Go.RowKit C

theorem svs_one (L : List (List UInt8)) : ∀ u ∈ svs L, u.oneCell' = true := fun x hx => by simp [svs] at hx; obtain ⟨c, _, rfl⟩ := hx; rfl
/-- 'append(s, x...)' of texts in a row to a row of one's own. -/
theorem append_texts {w : World} {ops : Array Oper} {rest : List Oper} {o : Oper} {a : Act} {Q : Exit → Act → World → Prop} (hgd : o.guard = none) (s x : Operand)
    (ho : o.op = .call { callee := .builtin .append, args := #[s, x], argTypes := #[23, 23] }) (base base' : Nat)
    (v : Value) (M : List (List UInt8)) (hs : a.eval s = v) (hown : OwnT base w v M) (xv : Value) (L : List (List UInt8)) (hx : a.eval x = xv) (hX : OwnT base' w xv L)
    (h63 : M.length + L.length ≤ 100000000000) (hbase : base ≤ w.heap.size)
    (h : ∀ v' w', OwnT base w' v' (M ++ L) → w.grownBy w' v.ownBlock → wpList Try.prog ops Q rest (a.put o.dst v') w') : wpList Try.prog ops Q (o :: rest) a w := by
  obtain ⟨i0, hi, hz0, hz1, hz2⟩ := info_parts infoStr
  rcases hX.2 with ⟨rfl, e0⟩ | ⟨g, cap, cur, rfl, hb, hg, hcap, _⟩
  · obtain rfl : L = [] := List.length_eq_zero_iff.1 e0
    exact wpList_append_own_none hgd s x _ ho base _ i0 1 Try.underlying23 hi v _ _ hs hown hx (h v w (by rw [List.append_nil]; exact hown) (World.grownBy.refl _ _))
  · refine wpList_append_own w hgd s x _ ho base _ i0 (.string ⟨#[]⟩) 1 16 Try.underlying23 hi hz0 hz1 hz2 rfl (by decide) v _ _ hs hown ⟨g, 0, none⟩ L.length cap (svs L) hx (by rw [svs_length]; omega) (fun j u hj => ?_) (svs_one L) (by unfold maxLen; omega) (by omega) hbase (fun v' w' h1 h2 _ => h v' w' (by show w'.ownsRow _ _ _ _ _ _; rw [List.length_append, svs_append]; exact h1) h2)
    have hj' : j < L.length := by rw [← svs_length]; exact (List.getElem?_eq_some_iff.1 hj).1
    rw [add_none, Nat.zero_add, World.ownsRow.cellAt hX j (by omega)]
    exact hj

theorem rows_checked : ((List.range 16).all fun k => decide ((SW k).Pairwise (fun a b => a ≤ b)) && decide (fields (rtxtOf k).data.toList).Nodup && decide ((fields (rtxtOf k).data.toList).length ≤ 1000)) = true := by decide +kernel
theorem list_sorted (z : Int) : (fields (txtZ z).data.toList).Pairwise (fun a b => a ≤ b) := by
  unfold txtZ
  split
  · have h := List.all_eq_true.1 rows_checked z.toNat (List.mem_range.2 (by omega))
    simp only [Bool.and_eq_true, decide_eq_true_eq] at h
    exact h.1.1
  · rw [show (⟨#[]⟩ : ByteArray).data.toList = [] from rfl]
    simp [fields, fieldsFrom]
theorem list_perm (z : Int) : (fields (txtZ z).data.toList).Perm (fields (rtxtZ z).data.toList) := by
  unfold txtZ rtxtZ
  split
  · have h := List.all_eq_true.1 rows_checked z.toNat (List.mem_range.2 (by omega))
    simp only [Bool.and_eq_true, decide_eq_true_eq] at h
    have h2 := List.all_eq_true.1 sets_once z.toNat (List.mem_range.2 (by omega))
    rw [decide_eq_true_eq] at h2
    exact (List.perm_ext_iff_of_nodup h2 h.1.2).2 (set_right z.toNat (by omega)).2.2.1
  · exact .refl _
theorem rlist_length (z : Int) : (fields (rtxtZ z).data.toList).length ≤ 1000 := by
  unfold rtxtZ
  split
  · have h := List.all_eq_true.1 rows_checked z.toNat (List.mem_range.2 (by omega))
    simp only [Bool.and_eq_true, decide_eq_true_eq] at h
    exact h.2
  · rw [show (⟨#[]⟩ : ByteArray).data.toList = [] from rfl]
    simp [fields, fieldsFrom]

set_option maxRecDepth 100000 in
set_option maxHeartbeats 1000000 in
/-- **List, as the document has it: the same as names.List's.** -/
theorem rlist_calls (z : Int) (w : World) :
    Calls Try.prog 7 #[.int .i64 z] w fun e w' => ∃ v, e = .returned v ∧ OwnT w.heap.size w' v (fields (txtZ z).data.toList) ∧ Below w.heap.size w w' := by
  have HX : Hid ((rtxtZ z).size ≤ 100000) := rtxtZ_size z
  have HTC : Hid (∀ w, Calls Try.prog 16 #[.int .i64 z] w fun e w' => e = .returned (.string (rtxtZ z)) ∧ w' = w) := rtext_calls z
  have HLS : Hid ((fields (txtZ z).data.toList).Pairwise (fun a b => a ≤ b)) := list_sorted z
  have HLP : Hid ((fields (txtZ z).data.toList).Perm (fields (rtxtZ z).data.toList)) := list_perm z
  have HLL : Hid ((fields (rtxtZ z).data.toList).length ≤ 1000) := rlist_length z
  generalize rtxtZ z = T at *
  generalize fields (txtZ z).data.toList = S at *
  go_enter Try.func7, Try.ntmps7
  go_wp2_with (first
    | (go_at_call 16; refine (HTC.out _).mono ?_; rintro e w' ⟨rfl, hw'⟩; have hx' := hw'.symm; subst hx')
    | (go_at_call 15; refine (rfields_calls T w (by have := HX.out; omega)).mono ?_; rintro e W1 ⟨v, rfl, hO, hB⟩)
    | (go_at_call 17; refine (rsorted_calls _ w.heap.size v W1 (by have := HLL.out; omega) hO).mono ?_; rintro e W2 ⟨rfl, M, hS, hO2, hB2⟩))
  go_ret
  obtain rfl := hS.done S HLS.out HLP.out
  exact ⟨_, rfl, hO2, hB.trans hB2⟩

/-- The texts of the first k sets, one behind the other. -/
def RA : Nat → List (List UInt8)
  | 0 => []
  | k + 1 => RA k ++ fields (rtxtZ (k : Int)).data.toList
theorem RA_length : ∀ k, (RA k).length ≤ 1000 * k
  | 0 => by simp [RA]
  | k + 1 => by
    have := RA_length k
    have := rlist_length (k : Int)
    rw [RA, List.length_append]
    omega
theorem RA_mem (x : List UInt8) : ∀ k, k ≤ 16 → (x ∈ RA k ↔ ∃ j, j < k ∧ x ∈ SW j)
  | 0 => fun _ => by simp [RA]
  | k + 1 => fun h => by
    have e : x ∈ fields (rtxtZ (k : Int)).data.toList ↔ x ∈ SW k := by
      unfold rtxtZ
      rw [if_pos (by omega)]
      simpa using ((set_right k (by omega)).2.2.1 x).symm
    rw [RA, List.mem_append, RA_mem x k (by omega), e]
    constructor
    · rintro (⟨j, h1, h2⟩ | h2)
      · exact ⟨j, by omega, h2⟩
      · exact ⟨k, by omega, h2⟩
    · rintro ⟨j, h1, h2⟩
      by_cases hj : j = k
      · subst hj; exact .inr h2
      · exact .inl ⟨j, by omega, h2⟩
/-- What stands in the first i of a sorted row, each once. -/
def Dd (M O : List (List UInt8)) (i : Nat) : Prop := O.Pairwise (fun a b => a < b) ∧ (∀ x, x ∈ O ↔ x ∈ M.take i) ∧ O.length ≤ i
theorem Dd.start (M : List (List UInt8)) : Dd M [] 0 := ⟨.nil, by simp, by simp⟩
theorem le_take {M : List (List UInt8)} (hM : M.Pairwise (fun a b => a ≤ b)) {i : Nat} (hi : i < M.length) (h0 : 0 < i) {x : List UInt8} (hx : x ∈ M.take i) : x ≤ M[i - 1] := by
  obtain ⟨j, hj, rfl⟩ := List.mem_iff_getElem.1 hx
  rw [List.length_take] at hj
  rw [List.getElem_take]
  by_cases e : j = i - 1
  · subst e; exact List.le_refl _
  · exact List.pairwise_iff_getElem.1 hM j (i - 1) (by omega) (by omega) (by omega)
theorem Dd.more {M O : List (List UInt8)} {i : Nat} (h : Dd M O i) (hM : M.Pairwise (fun a b => a ≤ b)) (hi : i < M.length) (hn : i = 0 ∨ M[i] ≠ M[i - 1]) : Dd M (O ++ [M[i]]) (i + 1) := by
  obtain ⟨h1, h2, h3⟩ := h
  refine ⟨List.pairwise_append.2 ⟨h1, by simp, fun a ha b hb => ?_⟩, fun x => ?_, by simp; omega⟩
  · obtain rfl : b = M[i] := by simpa using hb
    have ha' := (h2 a).1 ha
    have h0 : 0 < i := by
      rcases Nat.eq_zero_or_pos i with rfl | h
      · simp at ha'
      · exact h
    have l1 := le_take hM hi h0 ha'
    have l2 : M[i - 1] ≤ M[i] := List.pairwise_iff_getElem.1 hM (i - 1) i (by omega) hi (by omega)
    have l3 : M[i] ≠ M[i - 1] := hn.resolve_left (by omega)
    have l4 : a ≤ M[i] := List.le_trans l1 l2
    rcases List.le_iff_lt_or_eq.1 l4 with h | h
    · exact h
    · exact absurd (List.le_antisymm (h ▸ l1) l2) l3
  · rw [List.take_succ_eq_append_getElem hi, List.mem_append, List.mem_append, h2 x]
theorem Dd.same {M O : List (List UInt8)} {i : Nat} (h : Dd M O i) (hi : i < M.length) (h0 : ¬ i = 0) (hn : M[i] = M[i - 1]) : Dd M O (i + 1) := by
  obtain ⟨h1, h2, h3⟩ := h
  refine ⟨h1, fun x => ?_, by omega⟩
  rw [List.take_succ_eq_append_getElem hi, List.mem_append, h2 x]
  refine ⟨.inl, fun hx => hx.elim id fun hx => ?_⟩
  obtain rfl : x = M[i] := by simpa using hx
  rw [hn]
  exact List.mem_iff_getElem.2 ⟨i - 1, by rw [List.length_take]; omega, by rw [List.getElem_take]⟩
theorem Dd.done {M O : List (List UInt8)} (h : Dd M O M.length) (hm : ∀ x, x ∈ M ↔ x ∈ KN) : O = KN := by
  obtain ⟨h1, h2, _⟩ := h
  have hd : O.Nodup := h1.imp (fun hab e => by subst e; exact List.lt_irrefl _ hab)
  have hp : O.Perm KN := (List.perm_ext_iff_of_nodup hd kn_nodup).2 fun x => by rw [h2 x, List.take_length, hm x]
  have hk : KN.Pairwise (fun a b => a ≤ b) := kn_pair.imp (fun h => by simpa [leB] using h)
  exact List.Perm.eq_of_pairwise (le := fun a b => a ≤ b) (fun a b _ _ h1 h2 => List.le_antisymm h1 h2) (h1.imp List.le_of_lt) hk hp

end Go.Proofs.Ytjgppdjbcmadcaa.N
