/- What is proved here: contracts of utf.Cut and of the document's own Cut of sieveref01: the greatest place up to n that parts no rune. -/
import Derived.Test.YtlihfamkngahaaaDoorMathE
import Derived.Test.YtlihfamkngahaaaDoorRef
namespace Go.Proofs.YtlihfamkngahaaaDoor.U
open Go.RowKit Go.Shelf

set_option maxRecDepth 100000 in
set_option maxHeartbeats 1000000 in
theorem cut_out (bs : List UInt8) (a : Option Addr) (cap : Nat) (n : Int) (w : World) (h : n < 0 ∨ (bs.length : Int) ≤ n) :
    Calls Tryd.prog 7 #[.slice a bs.length cap, .int .i64 n] w fun e w' => e = .returned (.int .i64 (cutN bs n)) ∧ Below w.heap.size w w' := by
  by_cases h0 : n < 0
  · have HE : Hid (cutN bs n = 0) := by
      show _ = _
      unfold cutN
      rw [if_neg (by omega), bestTo_neg bs n h0]
    go_enter Tryd.func7, Tryd.ntmps7
    go_wp2
    go_ret
    exact ⟨ret_i64 (by rw [HE.out]; rfl), Below.refl _ _⟩
  · have h1 : (bs.length : Int) ≤ n := by omega
    have HE : Hid (cutN bs n = bs.length) := by
      show _ = _
      unfold cutN
      rw [if_pos h1]
    clear h
    go_enter Tryd.func7, Tryd.ntmps7
    go_wp2
    go_ret
    exact ⟨ret_i64 (by rw [HE.out]), Below.refl _ _⟩

set_option maxRecDepth 100000 in
set_option maxHeartbeats 1000000 in
theorem cut_pos (bs : List UInt8) (b off cap n : Nat) (w : World) (hn : n < bs.length) (hl : bs.length ≤ 140737488355328) (hcap : bs.length ≤ cap) (hT : Lib.Utf8Tabs (Tryd.lays32_ren.g 2) (Tryd.lays32_ren.g 3) w)
    (hc : ∀ j, j < bs.length → w.cell? ⟨b, off + j, none⟩ = some (.int .u8 (byteAt bs j))) :
    Calls Tryd.prog 7 #[.slice (some ⟨b, off, none⟩) bs.length cap, .int .i64 n] w fun e w' => e = .returned (.int .i64 (cutN bs n)) ∧ Below w.heap.size w w' := by
  have HC : Hid (∀ j, j < bs.length → w.cell? ⟨b, off + j, none⟩ = some (.int .u8 (byteAt bs j))) := hc
  have HT : Hid (Lib.Utf8Tabs (Tryd.lays32_ren.g 2) (Tryd.lays32_ren.g 3) w) := hT
  have hd2 : decide (bs.length ≤ n) = false := by simp; omega
  clear hc hT
  have hfd : ∀ (w : World) (r m : Int) (o : Bool), (Instr.field 46 (.agg #[.int .i32 r, .int .i64 m, .bool o]) 1).run Tryd.prog w = .ok (.int .i64 m) w := fun _ _ _ _ => by kernel_rfl
  go_enter Tryd.func7, Tryd.ntmps7
  go_wp2
  go_loopw [5] (fun x wr => ∃ k : Nat, x = .int .i64 k ∧ k ≤ n ∧ Hid (∀ j, n ≤ j + 3 → j < k → j + nextN (bs.drop j) ≤ n) ∧ Below w.heap.size w wr) (fun x _ => n - (intOf x).toNat)
  case atStart => exact ⟨n - 3, by congr 1; omega, by omega, fun j h1 h2 => by omega, Below.refl _ _⟩
  case round =>
    obtain ⟨k, rfl, hk, hs, hB⟩ := hrel
    by_cases hlt : k < n
    · have hkl : k < bs.length := by omega
      have hT' : Hid (Lib.Utf8Tabs (Tryd.lays32_ren.g 2) (Tryd.lays32_ren.g 3) wr) := tabs_below HT.out hB
      have hc' : Hid (∀ j, j < bs.length → wr.cell? ⟨b, off + j, none⟩ = some (.int .u8 (byteAt bs j))) := fun j h => (hB.cell (p := ⟨b, off + j, none⟩) (cell_lt (HC.out j h))).trans (HC.out j h)
      have hN : nextN (bs.drop k) ≤ 4 := nextN_lead _
      by_cases ho : n < k + nextN (bs.drop k)
      · have HE : Hid (cutN bs n = k) := cutN_yes bs n k hn hlt ho
        go_wp2_with (go_at_call 17; refine (next_at bs b off cap k _ hkl hl hcap hT'.out hc'.out).mono ?_; rintro e w1 ⟨rfl, hb1⟩)
        go_ret
        exact ⟨ret_i64 (by rw [HE.out]), (hB.trans (hb1.mono hB.size))⟩
      · have hs' : Hid (∀ j, n ≤ j + 3 → j < k + 1 → j + nextN (bs.drop j) ≤ n) := fun j h1 h2 => by
          by_cases e : j = k
          · subst e; omega
          · exact hs.out j h1 (by omega)
        go_wp2_with (go_at_call 17; refine (next_at bs b off cap k _ hkl hl hcap hT'.out hc'.out).mono ?_; rintro e w1 ⟨rfl, hb1⟩)
        go_roundw
        case rel => exact ⟨k + 1, by go_num, by omega, hs', (hB.trans (hb1.mono hB.size))⟩
        case measure => simp [intOf]; omega
    · obtain rfl : k = n := by omega
      have HE : Hid (cutN bs k = k) := cutN_self bs k hn hs.out
      go_wp2
      go_ret
      exact ⟨ret_i64 (by rw [HE.out]), hB⟩

/-- **utf.Cut of any bytes at any place.** -/
theorem cut_calls (v : Value) (bs : List UInt8) (n : Int) (n₀ : Nat) (w : World) (hl : bs.length ≤ 140737488355328) (hH : HasB n₀ w v bs) (hT : Lib.Utf8Tabs (Tryd.lays32_ren.g 2) (Tryd.lays32_ren.g 3) w) :
    Calls Tryd.prog 7 #[v, .int .i64 n] w fun e w' => e = .returned (.int .i64 (cutN bs n)) ∧ Below w.heap.size w w' := by
  rcases hH with ⟨rfl, a, cap, rfl⟩ | ⟨h0, b, off, cap, rfl, hcap, _, hx⟩
  · exact cut_out [] a cap n w (by simp; omega)
  · by_cases h : n < 0 ∨ (bs.length : Int) ≤ n
    · exact cut_out bs _ cap n w h
    · obtain ⟨m, rfl⟩ : ∃ m : Nat, n = (m : Int) := ⟨n.toNat, by omega⟩
      exact cut_pos bs b off cap m w (by omega) hl hcap hT hx

set_option maxRecDepth 100000 in
set_option maxHeartbeats 2000000 in
/-- **sieveref01.Cut of any bytes at any place.** -/
theorem rcut_calls (v : Value) (bs : List UInt8) (n : Int) (n₀ : Nat) (w : World) (hl : bs.length ≤ 4398046511104) (hH : HasB n₀ w v bs) :
    Calls Tryd.prog 8 #[v, .int .i64 n] w fun e W' => e = .returned (.int .i64 (cutN bs n)) ∧ Below w.heap.size w W' := by
  have HP : Hid (Calls Tryd.prog 5 #[v] w fun e W' => ∃ v, e = .returned v ∧ W'.ownsRow w.heap.size 31 4 v (pcs bs).length ((pcs bs).flatMap pcCells) ∧ Below w.heap.size w W') := pieces_calls v bs n₀ w hl hH
  have hpl := pcs_length bs
  obtain ⟨xa, xc, rfl⟩ : ∃ a cap, v = .slice a bs.length cap := by
    rcases hH with ⟨rfl, a, cap, rfl⟩ | ⟨hp, b, off, cap, rfl, _⟩
    · exact ⟨a, cap, rfl⟩
    · exact ⟨_, cap, rfl⟩
  clear hH
  go_enter Tryd.func8, Tryd.ntmps8
  go_wp2_with (go_at_call 5; refine HP.out.mono ?_; rintro e w2 ⟨vl, rfl, hown2, hb2⟩; obtain ⟨al, cl, rfl⟩ := owns_slice hown2)
  have s2 := hb2.size
  go_loopw [5, 11] (fun x i wr => ∃ k : Nat, k ≤ (pcs bs).length ∧ i = .int .i64 k ∧ x = .int .i64 (bestTo bs n k) ∧ Below w2.heap.size w2 wr) (fun _ i _ => (pcs bs).length - (intOf i).toNat)
  case atStart => exact ⟨0, by omega, rfl, rfl, Below.refl _ _⟩
  case round =>
    obtain ⟨k, hk, rfl, rfl, hB⟩ := hrel
    by_cases hlt : k < (pcs bs).length
    · obtain ⟨gl, rfl, hgb, hgl, r0, p0, q0, o0⟩ := owns_piece hown2 k hlt
      have r1 := (hB.cell (p := ⟨gl, k * 4, none⟩) hgl).trans r0
      have p1 := (hB.cell (p := ⟨gl, k * 4 + 1, none⟩) hgl).trans p0
      have q1 := (hB.cell (p := ⟨gl, k * 4 + 2, none⟩) hgl).trans q0
      have o1 := (hB.cell (p := ⟨gl, k * 4 + 3, none⟩) hgl).trans o0
      have s1 := hB.size
      have hpa := pla_at bs k hlt
      have HPA : Hid (pla bs k = (pcs bs)[k].pos) := hpa
      clear r0 p0 q0 o0 hpa
      by_cases hle : ((pcs bs)[k].pos : Int) ≤ n
      · have HE : Hid (bestTo bs n (k + 1) = (pcs bs)[k].pos) := by
          show _ = _
          conv => lhs; unfold bestTo
          rw [HPA.out, if_pos hle]
        go_wp2
        go_roundw
        case rel => exact ⟨k + 1, by omega, by go_num, by rw [HE.out], hB.alloc (by omega) _⟩
        case measure => simp [intOf]; omega
      · have HE : Hid (bestTo bs n (k + 1) = bestTo bs n k) := by
          show _ = _
          conv => lhs; unfold bestTo
          rw [HPA.out, if_neg hle]
        go_wp2
        go_roundw
        case rel => exact ⟨k + 1, by omega, by go_num, by rw [HE.out], hB.alloc (by omega) _⟩
        case measure => simp [intOf]; omega
    · obtain rfl : k = (pcs bs).length := by omega
      by_cases hge : (bs.length : Int) ≤ n
      · have HE : Hid (cutN bs n = bs.length) := by show _ = _; unfold cutN; rw [if_pos hge]
        go_wp2
        go_ret
        exact ⟨ret_i64 (by rw [HE.out]), hb2.trans (hB.mono s2)⟩
      · have HE : Hid (cutN bs n = bestTo bs n (pcs bs).length) := by show _ = _; unfold cutN; rw [if_neg hge]
        go_wp2
        go_ret
        exact ⟨ret_i64 (by rw [HE.out]), hb2.trans (hB.mono s2)⟩

/-- Parts of bytes in memory. -/
theorem add_zero (x : Addr) : x.add 0 = x := by unfold Addr.add; cases x with | mk b o s => cases s <;> simp
theorem map_zero (x : Option Addr) : x.map (fun a => a.add 0) = x := by cases x <;> simp [add_zero]
theorem slice_to (xa : Option Addr) (len xc c : Nat) (h1 : (c : Int) ≤ (len : Int)) (h2 : (len : Int) ≤ (xc : Int)) : ∀ w, (Instr.slice 22 (.slice xa len xc) none (some (.int .i64 c)) (some (.int .i64 c))).run Tryd.prog w = .ok (.slice xa c c) w := by
  intro w
  have h0 : (0 : Int) ≤ (c : Int) := by omega
  have h3 : (c : Int) ≤ (xc : Int) := by omega
  have hs : (sizeOf (Tryd.prog.elem 22)).run Tryd.prog w = .ok 1 w := by kernel_rfl
  rw [run_slice_hm w _ _ _ _ (by kernel_rfl) _ _ _ _ h0 (Int.le_refl _) h3, hs]
  simp [Result.andThen, sliced, map_zero]
theorem slice_from (xa : Option Addr) (len xc c : Nat) (h1 : (c : Int) ≤ (len : Int)) : ∃ a1, (c < xc → a1 = xa.map (fun a => a.add c)) ∧ ∀ w, (Instr.slice 22 (.slice xa len xc) (some (.int .i64 c)) none none).run Tryd.prog w = .ok (.slice a1 (len - c) (xc - c)) w := by
  refine ⟨if xc = c then xa else xa.map (fun a => a.add c), fun h => if_neg (by omega), fun w => ?_⟩
  have h0 : (0 : Int) ≤ (c : Int) := by omega
  have hs : (sizeOf (Tryd.prog.elem 22)).run Tryd.prog w = .ok 1 w := by kernel_rfl
  rw [run_slice_l w _ _ _ _ (by kernel_rfl) _ _ h0 h1, hs]
  simp [Result.andThen, sliced]
theorem hasB_to {n₀ : Nat} {w : World} {xa : Option Addr} {xc : Nat} {bs : List UInt8} (h : HasB n₀ w (.slice xa bs.length xc) bs) (c : Nat) (hc : c ≤ bs.length) : HasB n₀ w (.slice xa c c) (bs.take c) := by
  by_cases h0 : c = 0
  · subst h0; exact .inl ⟨by simp, _, _, rfl⟩
  rcases h with ⟨rfl, _⟩ | ⟨hp, b, off, cap, hv, hcap, hb, hx⟩
  · simp at hc; omega
  · cases hv
    have hl : (bs.take c).length = c := by simp; omega
    refine .inr ⟨by omega, b, off, c, by rw [hl], by omega, hb, fun j hj => ?_⟩
    rw [hx j (by omega)]
    congr 3
    unfold byteAt
    rw [List.getElem?_take_of_lt (by omega)]
theorem hasB_from {n₀ : Nat} {w : World} {xa a1 : Option Addr} {xc : Nat} {bs : List UInt8} (h : HasB n₀ w (.slice xa bs.length xc) bs) (c : Nat) (hc : c ≤ bs.length) (ha : c < xc → a1 = xa.map (fun a => a.add c)) : HasB n₀ w (.slice a1 (bs.length - c) (xc - c)) (bs.drop c) := by
  by_cases h0 : c = bs.length
  · subst h0; exact .inl ⟨by simp, _, _, by rw [Nat.sub_self]⟩
  rcases h with ⟨rfl, _⟩ | ⟨hp, b, off, cap, hv, hcap, hb, hx⟩
  · simp at hc h0; omega
  · cases hv
    have hl : (bs.drop c).length = bs.length - c := by simp
    refine .inr ⟨by omega, b, off + c, xc - c, ?_, by omega, hb, fun j hj => ?_⟩
    · rw [hl, ha (by omega), Option.map_some, add_none]
    · rw [byteAt_drop, Nat.add_assoc]; exact hx _ (by omega)

end Go.Proofs.YtlihfamkngahaaaDoor.U
