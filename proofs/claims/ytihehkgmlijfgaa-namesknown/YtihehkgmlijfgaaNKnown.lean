/- What is proved here: the contract of names.Known: all names that are in some set, in rising order, in a row of their own. -/
import Derived.Test.YtihehkgmlijfgaaNIter
import Derived.Test.YtihehkgmlijfgaaNKnownM
namespace Go.Proofs.Ytihehkgmlijfgaa.N
open Go.RowKit Go.Maps Go.Sort Go.Shelf C

theorem sortsS (m : Nat) : AnyZ.SortsIn Try.prog Try.sortedS_ren Fence.wide m :=
  ⟨fun blk off cap ss W hH hblk hsz => callsIn_wide.2 (AnyM.slices_Sort_string Try.sortS blk off cap ss W hH hblk hsz),
   fun p cap W => callsIn_wide.2 (AnyM.slices_Sort_string_none Try.sortS p cap W)⟩
theorem keys_calls (mb : Option Nat) (W : World) : Calls Try.prog 37 #[.map mb] W fun e w' => e = .returned (.func (.func 51) #[] #[.pointer (some ⟨W.heap.size, 0, none⟩)]) ∧ w' = W.alloc (.cells #[.map mb] 51) :=
  (callsIn_wide (n := 5)).1 (AnyZ.keys_in Try.keysK Fence.wide 5 trivial rfl mb W)
set_option maxHeartbeats 1000000 in
/-- slices.Sorted of maps.Keys of a map: its keys in rising order. -/
theorem sorted_calls (b nn : Nat) (D0 : DataW Unit) (R : Value → Option (DataW Unit × List MemPlace)) (w : World) (hown : w.ownsMap Try.prog 9 R b nn D0) (hmax : Maps.size D0 ≤ maxLen) (hbytes : Maps.size D0 * 16 ≤ 140737488355328) :
    Calls Try.prog 36 #[.func (.func 51) #[] #[.pointer (some ⟨w.heap.size, 0, none⟩)]] (w.alloc (.cells #[.map (some b)] 51)) fun e w' => ∃ (v : Value) (ss : List (List UInt8)), e = .returned v ∧ ss.Perm (strKeys D0) ∧
      w'.ownsRow (w.alloc (.cells #[.map (some b)] 51)).heap.size 9 1 v ss.length ((ss.mergeSort (fun x y => decide (x ≤ y))).map encStr) ∧ (v = .slice none 0 0 ↔ ss = []) ∧ Below (w.alloc (.cells #[.map (some b)] 51)).heap.size (w.alloc (.cells #[.map (some b)] 51)) w' := by
  have hbl := hown.lt
  have hseq : SeqGives Fence.wide 2 Try.prog 51 #[.pointer (some ⟨w.heap.size, 0, none⟩)] encStr (fun ss => ss.Perm (strKeys D0)) (Maps.size D0) (w.alloc (.cells #[.map (some b)] 51)) :=
    AnyZ.keys_gives (ρ := Try.keysK_ren) { Try.keysK with } Fence.wide _ trivial rfl (by omega) w.heap.size b nn D0 _ (by simp) (by simp) (by
      obtain ⟨es, clock, hb, Ft, hs, hD⟩ := hown
      exact ⟨es, clock, (Below.heap_alloc _ _ b hbl).trans hb, Ft, hs, hD⟩)
  exact (callsIn_wide (n := 5)).1 (AnyZ.sorted_in Try.sortedS Fence.wide 5 trivial trivial trivial trivial rfl (by omega) (sortsS _) (enters_of Try.func50 (by kernel_rfl) rfl) 51 #[.pointer (some ⟨w.heap.size, 0, none⟩)] trivial (enters_of Try.func51 (by kernel_rfl) rfl) _ _ hmax hbytes _ hseq)
theorem copy_calls (R : Value → Option (DataW Unit × List MemPlace)) (bd bs nd ns : Nat) (Dd Ds : DataW Unit) (w : World) (hd : w.ownsMap Try.prog 9 R bd nd Dd) (hs : w.ownsMap Try.prog 9 R bs ns Ds) (hne : bd ≠ bs) (hroom : nd + Maps.size Ds ≤ maxLen) :
    Calls Try.prog 35 #[.map (some bd), .map (some bs)] w fun e w' => e = .returned (.tuple #[]) ∧ w'.ownsMap Try.prog 9 R bd (nd + Maps.size Ds) (Lib.mergeD Dd Ds) ∧ w.grownBy w' (some bd) :=
  (AnyX.maps_Copy Try.copyM lawS R bd bs nd ns Dd Ds w hd hs hne hroom).mono fun _ _ ⟨he, h1, _, h3⟩ => ⟨he, h1, h3⟩

theorem sizes_small : ((List.range 16).all fun k => decide ((SW k).length ≤ 1000)) = true := by decide +kernel
theorem SW_small (k : Nat) (hk : k < 16) : (SW k).length ≤ 1000 := of_decide_eq_true (List.all_eq_true.1 sizes_small k (List.mem_range.2 hk))
theorem SW_fields (k : Nat) (hk : k < 16) : fields (txtZ (k : Int)).data.toList = SW k := by
  unfold txtZ SW
  rw [if_pos (by omega)]
  simp
theorem SW_once (k : Nat) (hk : k < 16) : Once (SW k) := by rw [← SW_fields k hk]; exact fields_once k
theorem KD_size : ∀ k, k ≤ 16 → Maps.size (KD k) ≤ 1000 * k
  | 0, _ => by simp [KD, Maps.size]
  | k + 1, hk => by
    obtain ⟨es, e, _, h⟩ := strMap_mem (SW k) (SW k).length
    have hl : es.length ≤ 1000 := by
      have h1 := memTo_size (SW k) (SW_once k (by omega)) (SW k).length (Nat.le_refl _)
      rw [e] at h1
      have h2 : Maps.size (DataW.map es) = es.length := rfl
      have := SW_small k (by omega)
      omega
    have ih := KD_size k (by omega)
    rw [KD, e]
    have : ∀ (es : List (Lit × DataW Unit)) (D : DataW Unit), StrMap D → (∀ p ∈ es, ∃ x, p.1 = .string x) → Maps.size (es.foldl (fun D p => D.put p.1 p.2) D) ≤ Maps.size D + es.length := by
      intro es
      induction es with
      | nil => intro D _ _; exact Nat.le_refl _
      | cons p r ih =>
        intro D hD hs
        obtain ⟨x, hx⟩ := hs p (by simp)
        have h1 := ih (D.put p.1 p.2) (by rw [hx]; exact hD.put x _) (fun q hq => hs q (by simp [hq]))
        have h2 := size_put (k := p.1) hD.tidy p.2
        rw [List.foldl_cons, List.length_cons]
        split at h2 <;> omega
    have h3 := this es (KD k) (KD_str k) h
    show Maps.size (es.foldl (fun D p => D.put p.1 p.2) (KD k)) ≤ _
    omega

set_option maxRecDepth 100000 in
set_option maxHeartbeats 2000000 in
/-- **Known.** -/
theorem known_calls (w : World) :
    Calls Try.prog 19 #[] w fun e w' => ∃ v, e = .returned v ∧ OwnT w.heap.size w' v KN ∧ Below w.heap.size w w' := by
  have hmm := @run_makeMap Try.prog
  go_enter Try.func19, Try.ntmps19
  go_wp2
  clear hmm
  go_loopw [2] (fun i wr => ∃ k n : Nat, k ≤ 16 ∧ n ≤ 1000 * k ∧ i = .int .i64 k ∧ Hid (wr.ownsMap Try.prog 9 (plainElem Try.prog 3) w.heap.size n (KD k)) ∧ Hid (Below w.heap.size w wr)) (fun i _ => 16 - (intOf i).toNat)
  case atStart => exact ⟨0, 0, by omega, by omega, rfl, World.ownsMap_made _ _ _ _, (Below.refl _ _).alloc (Nat.le_refl _) _⟩
  case round =>
    obtain ⟨k, n, hk, hn, rfl, hM, hB⟩ := hrel
    have hml := hM.out.lt
    have s1 := hB.out.size
    by_cases hlt : k < 16
    · have hmc := members_calls (k : Int) wr
      rw [SW_fields k hlt] at hmc
      have HMC : Hid (Calls Try.prog 27 #[.int .i64 k] wr fun e w' => e = .returned (.map (some wr.heap.size)) ∧ w'.ownsMap Try.prog 9 (plainElem Try.prog 3) wr.heap.size (SW k).length (memTo (SW k) (SW k).length) ∧ Below wr.heap.size wr w') := hmc
      have hsz := memTo_size (SW k) (SW_once k hlt) (SW k).length (Nat.le_refl _)
      have hsm := SW_small k hlt
      have HSZ : Hid (Maps.size (memTo (SW k) (SW k).length) ≤ 1000) := by rw [hsz]; exact hsm
      have HKD : Hid (KD (k + 1) = Lib.mergeD (KD k) (memTo (SW k) (SW k).length)) := rfl
      clear hmc hsz hsm
      go_wp2_with (first
        | (go_at_call 27; refine Calls.mono HMC.out ?_; rintro e w1 ⟨rfl, hM1, hB1⟩; have s2 := hB1.size)
        | (go_at_call 35; refine (copy_calls (plainElem Try.prog 3) w.heap.size wr.heap.size n (SW k).length (KD k) (memTo (SW k) (SW k).length) w1 (World.ownsMap.kept hM.out (grownBy_of_below hB1) (by simp)) hM1 (by omega) (by have := HSZ.out; unfold maxLen; omega)).mono ?_; rintro e w2 ⟨rfl, hM2, hg2⟩))
      go_roundw
      case rel => exact ⟨k + 1, n + Maps.size (memTo (SW k) (SW k).length), by omega, by have := HSZ.out; omega, by go_num, by rw [HKD.out]; exact hM2, (hB.out.trans (hB1.mono s1)).grown hg2 (by omega) (fun j hj => by cases hj; exact Nat.le_refl _)⟩
      case measure => simp [intOf]; omega
    · obtain rfl : k = 16 := by omega
      have HKS : Hid (Maps.size (KD 16) ≤ 16000) := KD_size 16 (by omega)
      go_wp2_with (first
        | (go_at_call 37; refine (keys_calls _ _).mono ?_; rintro e w' ⟨rfl, rfl⟩)
        | (go_at_call 36; refine (sorted_calls w.heap.size n (KD 16) _ wr hM.out (by have := HKS.out; unfold maxLen; omega) (by have := HKS.out; omega)).mono ?_; rintro e w2 ⟨v, ss, rfl, hS, hrow, hnil, hb⟩))
      go_ret
      refine ⟨v, rfl, ?_, (hB.out.alloc s1 _).trans (hb.mono (by simp; omega))⟩
      have e1 := sorted_known ss hS
      have e2 : ss.length = KN.length := by rw [← e1, List.length_mergeSort]
      have e3 : (ss.mergeSort (fun x y => decide (x ≤ y))).map encStr = svs KN := by
        rw [show (ss.mergeSort (fun x y => decide (x ≤ y))) = KN from e1]
        rfl
      rw [e2, e3] at hrow
      exact owns_mono hrow (by simp; omega)

end Go.Proofs.Ytihehkgmlijfgaa.N
