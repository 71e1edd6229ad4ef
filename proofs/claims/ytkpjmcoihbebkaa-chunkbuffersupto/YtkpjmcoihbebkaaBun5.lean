/- What is proved here: laws and contracts of CDrop, CKeepM, one behind the other (each says its own). -/
import Derived.Deep.RegionHeld3
import Derived.Test.YtkpjmcoihbebkaaCBuf
import Derived.Test.YtkpjmcoihbebkaaCInv
import Derived.Test.YtkpjmcoihbebkaaBun2
/- What is proved here: the contract of a buffer's drop. -/
namespace Go.Proofs.Ytkpjmcoihbebkaa.CInv
open Go.RowKit C

theorem grown_trans {A B C : World} {row : Option Nat} (h : A.grownBy B row) (k : B.grownBy C row) : A.grownBy C row :=
  ⟨k.os.trans h.os, k.tape.trans h.tape, k.output.trans h.output, Nat.le_trans h.size k.size, fun j hj hne => (k.block j (Nat.lt_of_lt_of_le hj h.size) hne).trans (h.block j hj hne)⟩
theorem slice_from (xa : Option Addr) (len xc c : Nat) (h1 : (c : Int) ≤ (len : Int)) : ∃ a1, (c < xc → a1 = xa.map (fun a => a.add c)) ∧ ∀ w, (Instr.slice 39 (.slice xa len xc) (some (.int .i64 c)) none none).run Try.prog w = .ok (.slice a1 (len - c) (xc - c)) w := by
  refine ⟨if xc = c then xa else xa.map (fun a => a.add c), fun h => if_neg (by omega), fun w => ?_⟩
  have h0 : (0 : Int) ≤ (c : Int) := by omega
  have hs : (sizeOf (Try.prog.elem 39)).run Try.prog w = .ok 1 w := by kernel_rfl
  rw [run_slice_l w _ _ _ _ (by kernel_rfl) _ _ h0 h1, hs]
  simp [Result.andThen, sliced]

set_option maxRecDepth 100000 in
set_option maxHeartbeats 1000000 in
/-- **drop**: the first n bytes are taken. -/
theorem drop_calls (w : World) (b g : Nat) (size : Int) (taken : Nat) (a : Option Addr) (len cap n : Nat) (h : BufAt w b g size taken (.slice a len cap)) (hn : n ≤ len) (ht : taken ≤ 100000000) (hl : len ≤ 100000000) :
    Calls Try.prog 32 #[.pointer (some ⟨b, 0, none⟩), .int .i64 n] w fun e W' => (∃ v, e = .returned v) ∧ ∃ a' cap', BufAt W' b g size (taken + n : Nat) (.slice a' (len - n) cap') ∧ (n < len → n < cap → a' = a.map (fun x => x.add n) ∧ cap' = cap - n) ∧ w.grownBy W' (some b) := by
  have c3 : w.cell? ⟨b, 3, none⟩ = some (.int .i64 taken) := Blk.cell h 3
  have f3 : w.frozen? ⟨b, 3, none⟩ = false := Blk.frozen h 3
  have hb1 := h.set3 ((taken : Int) + n)
  have c2 : (w.setCell ⟨b, 3, none⟩ (.int .i64 ((taken : Int) + n))).cell? ⟨b, 2, none⟩ = some (.slice a len cap) := Blk.cell hb1 2
  have f2 : (w.setCell ⟨b, 3, none⟩ (.int .i64 ((taken : Int) + n))).frozen? ⟨b, 2, none⟩ = false := Blk.frozen hb1 2
  have hwr : IntKind.i64.wrap ((taken : Int) + (n : Int)) = (taken : Int) + (n : Int) := by rw [IntKind.wrap_i64]; omega
  obtain ⟨a1, ha1, hs1⟩ := slice_from a len cap n (by omega)
  have HB1 : Hid (BufAt (w.setCell ⟨b, 3, none⟩ (.int .i64 ((taken : Int) + n))) b g size ((taken : Int) + n) (.slice a len cap)) := hb1
  clear h hb1
  have G1 : Hid (w.grownBy (w.setCell ⟨b, 3, none⟩ (.int .i64 ((taken : Int) + n))) (some b)) := grown_set w b 3 _
  by_cases hz : len - n = 0
  · have t : (((len - n : Nat) : Int) == 0) = true := by simp; omega
    go_enter Try.func32, Try.ntmps32
    go_wp2_with fail
    go_end0
    refine ⟨⟨_, rfl⟩, none, 0, ?_, fun h => by omega, ?_⟩
    · rw [hz]
      exact BufAt.set2 (BufAt.set2 HB1.out _) _
    · exact grown_trans (grown_trans G1.out (grown_set _ b 2 _)) (grown_set _ b 2 _)
  · have t : (((len - n : Nat) : Int) == 0) = false := by simp; omega
    go_enter Try.func32, Try.ntmps32
    go_wp2_with fail
    go_end0
    refine ⟨⟨_, rfl⟩, a1, cap - n, BufAt.set2 HB1.out _, fun _ h => ⟨ha1 h, rfl⟩, ?_⟩
    exact grown_trans G1.out (grown_set _ b 2 _)

end Go.Proofs.Ytkpjmcoihbebkaa.CInv

/- What is proved here: plain facts on scripts: what a read tells is a piece of the script's bytes, at the place that was told so far; where it tells an error all of them were told, and which error it is. -/
namespace Go.Proofs.Ytkpjmcoihbebkaa.CInv
open Go.RowKit C

theorem bytes_reach : ∀ (l : Scr), (bytesOf l).1 = (reach l).flatMap Prod.fst
  | [] => rfl
  | (d, true) :: t => by simp [bytesOf, reach]
  | (d, false) :: t => by simp [bytesOf, reach, bytes_reach t]
theorem fails_reach : ∀ (l : Scr), (bytesOf l).2 = (reach l).any Prod.snd
  | [] => rfl
  | (d, true) :: t => by simp [bytesOf, reach]
  | (d, false) :: t => by simp [bytesOf, reach, fails_reach t]
/-- A step that fails is the last one that is reached. -/
theorem reach_last : ∀ (l : Scr) (i : Nat) (h : i < (reach l).length), (reach l)[i].2 = true → i + 1 = (reach l).length
  | [], i, h, _ => by simp [reach] at h
  | (d, true) :: t, i, h, _ => by
    simp [reach] at h ⊢
    omega
  | (d, false) :: t, 0, h, hf => by simp [reach] at hf
  | (d, false) :: t, i + 1, h, hf => by
    have h' : i < (reach t).length := by simpa [reach] using h
    have hf' : (reach t)[i].2 = true := by simpa [reach] using hf
    have := reach_last t i h' hf'
    simp [reach]
    omega
theorem sizeS_flat (L : Scr) (i : Nat) : sizeS L i = ((L.take i).flatMap Prod.fst).length := by
  simp [sizeS, List.length_flatMap]
theorem flat_drop (L : Scr) (i p : Nat) (h : i < L.length) (hp : p ≤ L[i].1.length) : (L.flatMap Prod.fst).drop (sizeS L i + p) = L[i].1.drop p ++ (L.drop (i + 1)).flatMap Prod.fst := by
  have e : L = L.take i ++ L[i] :: L.drop (i + 1) := by
    conv => lhs; rw [← List.take_append_drop i L, List.drop_eq_getElem_cons h]
  have e2 : L.flatMap Prod.fst = (L.take i).flatMap Prod.fst ++ (L[i].1 ++ (L.drop (i + 1)).flatMap Prod.fst) := by
    have h' := congrArg (List.flatMap Prod.fst) e
    rw [List.flatMap_append, List.flatMap_cons] at h'
    exact h'
  rw [e2, sizeS_flat, ← List.drop_drop, List.drop_left, List.drop_append_of_le_length hp]
/-- **What a read tells.** -/
theorem rdX_bytes {l : Scr} {i p t : Nat} (hI : Inv l i p t) (n : Nat) : rdX l i p n = ((bytesOf l).1.drop t).take (rdK l i p n) := by
  rcases hI.cases with ⟨h1, h2, e⟩ | ⟨h1, e⟩
  · have hp := hI.part_le h1
    have ht := hI.told
    rw [← reach_size l i hI.le] at ht
    rw [bytes_reach, ht, flat_drop (reach l) i p h1 hp]
    simp only [rdX, rdK, dif_pos h2, e]
    rw [List.take_append_of_le_length (by simp; omega)]
  · have h4 : ¬ i < l.length := by omega
    simp only [rdX, rdK, dif_neg h4, List.take_zero]
theorem total (l : Scr) : (bytesOf l).1.length = sizeS (reach l) (reach l).length := by
  rw [bytes_reach, sizeS_flat, List.take_length]
/-- **Where a read tells an error.** -/
theorem rdE_end {l : Scr} {i p t : Nat} (hI : Inv l i p t) (he : rdE l i p ≠ 0) : t = (bytesOf l).1.length ∧ ((rdE l i p = 20 ∧ (bytesOf l).2 = true) ∨ (rdE l i p = 21 ∧ (bytesOf l).2 = false)) := by
  rcases hI.cases with ⟨h1, h2, e⟩ | ⟨h1, e⟩
  · have hp := hI.part_le h1
    have ht := hI.told
    rw [← reach_size l i hI.le] at ht
    simp only [rdE, dif_pos h2] at he ⊢
    by_cases hf : (l[i].2 && decide (p = l[i].1.length)) = true
    · rw [if_pos hf]
      simp only [Bool.and_eq_true, decide_eq_true_eq] at hf
      have hf1 : (reach l)[i].2 = true := by rw [← e]; exact hf.1
      have hl := reach_last l i h1 hf1
      have hs := sizeS_succ (reach l) i h1
      refine ⟨?_, .inl ⟨rfl, ?_⟩⟩
      · rw [total, ← hl, hs, ht, hf.2, e]
      · rw [fails_reach, List.any_eq_true]
        exact ⟨(reach l)[i], List.getElem_mem _, hf1⟩
    · rw [if_neg hf] at he
      exact absurd rfl he
  · have h4 : ¬ i < l.length := by omega
    have h5 := hI.over (by rw [e]; exact h1)
    have ht := hI.told
    refine ⟨?_, .inr ⟨by simp only [rdE, dif_neg h4], ?_⟩⟩
    · rw [total, e, ht, h5, h1, Nat.add_zero]
    · rw [fails_reach, List.any_eq_false]
      intro x hx
      obtain ⟨k, hk, rfl⟩ := List.mem_iff_getElem.1 hx
      have := hI.good k hk (by rw [e] at hk; omega)
      simp [this]
/-- All that was told is a beginning of the script's bytes. -/
theorem told_le {l : Scr} {i p t : Nat} (hI : Inv l i p t) : t ≤ (bytesOf l).1.length := by
  have ht := hI.told
  rcases hI.cases with ⟨h1, h2, e⟩ | ⟨h1, e⟩
  · have hp := hI.part_le h1
    rw [← reach_size l i hI.le] at ht
    have hs := sizeS_succ (reach l) i h1
    have hm := sizeS_mono (reach l) (i + 1) ((reach l).length - (i + 1))
    rw [show i + 1 + ((reach l).length - (i + 1)) = (reach l).length by omega] at hm
    rw [total]
    omega
  · have h5 := hI.over (by rw [e]; exact h1)
    rw [total, e, ht, h5, h1, Nat.add_zero]
    exact Nat.le_refl _
/-- One read more. -/
theorem told_on {l : Scr} {i p t : Nat} (hI : Inv l i p t) (n : Nat) : (bytesOf l).1.take (t + rdK l i p n) = (bytesOf l).1.take t ++ rdX l i p n := by
  rw [rdX_bytes hI, List.take_add]

end Go.Proofs.Ytkpjmcoihbebkaa.CInv
