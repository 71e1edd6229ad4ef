/- What is proved here: the contract of link.Check: may a policy allow a scheme? -/
import Derived.Test.YtjhmphokmmmoaaaGreatDoorLpSch
import Derived.Test.YtjhmphokmmmoaaaGreatDoorLkChk
namespace Go.Proofs.YtjhmphokmmmoaaaGreatDoor.L
open Go.RowKit Go.Shelf Go.Proofs.YtjhmphokmmmoaaaGreatDoor.N Go.Proofs.YtjhmphokmmmoaaaGreatDoor.U

/-- The table of the schemes that may never be lies where it must. -/
def Nev (w : World) : Prop := ∀ j, j < 7 → w.cell? ⟨0, j, none⟩ = some (.string ⟨(nevers.getD j []).toArray⟩)
theorem Nev.below {w w' : World} (h : Nev w) (hb : Below w.heap.size w w') : Nev w' := fun j hj => (hb.cell (p := ⟨0, j, none⟩) (cell_lt (h j hj))).trans (h j hj)
set_option maxRecDepth 100000 in
/-- One of the table's schemes. -/
theorem nev_at (k : Nat) (hk : k < 7) (w : World) : (Instr.index 43 (.agg #[.string ⟨#[106, 97, 118, 97, 115, 99, 114, 105, 112, 116]⟩, .string ⟨#[100, 97, 116, 97]⟩, .string ⟨#[118, 98, 115, 99, 114, 105, 112, 116]⟩, .string ⟨#[98, 108, 111, 98]⟩, .string ⟨#[102, 105, 108, 101]⟩, .string ⟨#[102, 105, 108, 101, 115, 121, 115, 116, 101, 109]⟩, .string ⟨#[97, 98, 111, 117, 116]⟩]) (.int .i64 (k : Int))).run Tryz.prog w = .ok (.string ⟨(nevers.getD k []).toArray⟩) w := by
  obtain ⟨i0, hi, hz⟩ := Option.map_eq_some_iff.1 (show (Tryz.prog.info? 9).map (·.size) = some 1 by kernel_rfl)
  have hks : k = 0 ∨ k = 1 ∨ k = 2 ∨ k = 3 ∨ k = 4 ∨ k = 5 ∨ k = 6 := by omega
  rcases hks with rfl | rfl | rfl | rfl | rfl | rfl | rfl
  all_goals simp [Instr.index, run_underlying Tryz.underlying43, asIntOf, sizeOf, typeInfo, hi, hz, nevers, part, Tryz.isAgg9, go_sem]
theorem lower_small (l : List UInt8) : (lower l == l) = l.all (fun c => !upperZ c.toNat) := by
  induction l with
  | nil => rfl
  | cons c t ih =>
    have e : lower (c :: t) = lowB c :: lower t := rfl
    rw [e, List.all_cons, ← ih]
    have hc : (lowB c == c) = !upperZ (c.toNat : Int) := by
      have : ∀ n : Fin 256, (lowB (UInt8.ofNat n.val) == UInt8.ofNat n.val) = !upperZ ((UInt8.ofNat n.val).toNat : Int) := by decide +kernel
      have h := this ⟨c.toNat, c.toNat_lt⟩
      simp only [UInt8.ofNat_toNat] at h
      exact h
    rw [← hc]
    rfl
/-- Is it all of what a scheme may have, up to its end? -/
theorem colon_whole (l : List UInt8) : (colonZ (l ++ [58]) == (l.length : Int)) = (decide (1 ≤ l.length) && letterZ ((l.getD 0 0).toNat : Int) && l.all innerC) := by
  by_cases h0 : l = []
  · subst h0; rfl
  · have hp : 0 < l.length := List.length_pos_iff.2 h0
    have hg : ∀ j, j < l.length → (l ++ [58]).getD j 0 = l.getD j 0 := fun j hj => by
      rw [List.getD_eq_getElem?_getD, List.getD_eq_getElem?_getD, List.getElem?_append_left hj]
    have hl : (l ++ [58]).length = l.length + 1 := by simp
    unfold colonZ colonL
    rw [hg 0 hp, decide_eq_true (by omega : 1 ≤ l.length), Bool.true_and]
    cases hlet : letterZ ((l.getD 0 0).toNat : Int) with
    | false =>
      simp only [Bool.false_eq_true, if_false, Bool.false_and]
      rw [beq_eq_false_iff_ne]; omega
    | true =>
      simp only [if_true, Bool.true_and]
      cases ha : l.all innerC with
      | true =>
        have hall : ∀ c ∈ l, innerC c = true := fun c hc => List.all_eq_true.1 ha c hc
        have hin : ∀ j, j < l.length → innerC (l.getD j 0) = true := fun j hj => by
          have : l.getD j 0 = l[j] := by simp [hj]
          rw [this]; exact hall _ (List.getElem_mem hj)
        have hf : colonF (l ++ [58]) = some l.length := colonF_at (l ++ [58]) l.length (by omega) (fun j hj => by rw [hg j hj]; exact ⟨inner_no (hin j hj), hin j hj⟩) (by
          have : (l ++ [58]).getD l.length 0 = 58 := by rw [List.getD_eq_getElem?_getD, List.getElem?_append_right (by omega)]; simp
          rw [this]; rfl)
        rw [hf]
        simp
      | false =>
        have hn : ∀ (l r : List UInt8), l.all innerC = false → ∀ n, colonF (l ++ r) = some n → n < l.length := by
          intro l
          induction l with
          | nil => intro r h; simp at h
          | cons c t ih =>
            intro r h n hn
            rw [List.cons_append] at hn
            unfold colonF at hn
            split at hn
            · cases hn; simp
            · split at hn
              · rename_i hc
                rw [List.all_cons, hc, Bool.true_and] at h
                cases e : colonF (t ++ r) with
                | none => rw [e] at hn; simp at hn
                | some m => rw [e] at hn; simp at hn; have := ih r h m e; simp; omega
              · cases hn
        cases e : colonF (l ++ [58]) with
        | none => rw [beq_eq_false_iff_ne]; simp only; omega
        | some n =>
          have := hn l [58] ha n e
          rw [beq_eq_false_iff_ne]; simp only; omega
theorem chk_bool : ∀ (x5 d1 d2 l u x4 x1 x2 x3 : Bool), (d1 && d2) = (l && !u) → (true && x5 && d1 && d2 && (x4 && x1 && (!u && x2)) && !x3) = (x5 && (true && l && (x4 && x1)) && (!u && x2) && !x3) := by decide
theorem check_eq (l : List UInt8) : checkOk l = (decide (l.length ≤ 100) && (colonZ (l ++ [58]) == (l.length : Int)) && (lower l == l) && !nevers.contains l) := by
  rw [colon_whole, lower_small]
  unfold checkOk
  have e1 : l.all mayC = (l.all innerC && l.all (fun c => !upperZ c.toNat)) := by
    induction l with
    | nil => rfl
    | cons c t ih => simp only [List.all_cons, ih, mayC]; cases innerC c <;> cases upperZ (c.toNat : Int) <;> simp
  rw [e1]
  cases l with
  | nil => rfl
  | cons c t =>
    simp only [List.getD_cons_zero, List.all_cons]
    have e2 : (decide (97 ≤ c.toNat) && decide (c.toNat ≤ 122)) = (letterZ (c.toNat : Int) && !upperZ (c.toNat : Int)) := by
      have hl := c.toNat_lt
      unfold letterZ upperZ
      rw [Bool.eq_iff_iff]
      simp
      omega
    have e3 : (decide (1 ≤ (c :: t).length)) = true := by simp
    rw [e3]
    exact chk_bool _ _ _ _ _ _ _ _ _ e2
set_option maxRecDepth 100000 in
set_option maxHeartbeats 4000000 in
/-- **Check.** -/
theorem check_calls (l : List UInt8) (w : World) (hN : Nev w) (hl : l.length ≤ 1000000000) : Calls Tryz.prog 10 #[.string ⟨l.toArray⟩] w fun e W' => e = .returned (.int .i64 (checkZ l)) ∧ Below w.heap.size w W' := by
  have sl := arr_size l
  have HOK := hid_of (check_eq l)
  have HZ : Hid (checkZ l = if checkOk l then 0 else 120) := rfl
  by_cases h100 : l.length ≤ 100
  · have d1 : decide ((l.length : Int) > 100) = false := by simp; omega
    have d1' : decide (100 < l.length) = false := by simp; omega
    have HC := hid_of (pcolon_calls (l ++ [58]) w (by simp; omega))
    have HLO := hid_of (lower_calls ⟨l.toArray⟩ w (by rw [arr_size]; omega))
    rw [arr_list] at HLO
    rw [decide_eq_true h100, Bool.true_and] at HOK
    have hcat : (⟨l.toArray⟩ : ByteArray) ++ ⟨#[58]⟩ = ⟨(l ++ [58]).toArray⟩ := by
      apply ByteArray.ext
      rw [ByteArray.data_append]
      simp
    have HNC := hid_of hN
    clear hN h100
    cases hb : (colonZ (l ++ [58]) == (l.length : Int)) with
    | false =>
      have HV : Hid (checkZ l = 120) := by show _ = _; rw [HZ.out, HOK.out, hb]; rfl
      have hb' : (colonZ (l ++ [58]) != (l.length : Int)) = true := by rw [bne, hb]; rfl
      clear hb HOK
      go_enter Tryz.func10, Tryz.ntmps10
      go_wp2_with (go_at_call 17; refine HC.out.mono ?_; rintro e w' ⟨rfl, hx⟩; obtain rfl : w = w' := hx.symm)
      go_ret
      exact ⟨by rw [HV.out]; rfl, Below.refl _ _⟩
    | true =>
      have hb' : (colonZ (l ++ [58]) != (l.length : Int)) = false := by rw [bne, hb]; rfl
      rw [hb, Bool.true_and] at HOK
      clear hb
      cases hs : (lower l == l) with
      | false =>
        have HV : Hid (checkZ l = 120) := by show _ = _; rw [HZ.out, HOK.out, hs]; rfl
        have hs' : (lower l != l) = true := by rw [bne, hs]; rfl
        go_enter Tryz.func10, Tryz.ntmps10
        go_wp2_with (first
          | (go_at_call 17; refine HC.out.mono ?_; rintro e w' ⟨rfl, hx⟩; obtain rfl : w = w' := hx.symm)
          | (go_at_call 18; refine HLO.out.mono ?_; rintro e w2 ⟨rfl, hb2⟩))
        go_ret
        exact ⟨by rw [HV.out]; rfl, hb2⟩
      | true =>
        have hs' : (lower l != l) = false := by rw [bne, hs]; rfl
        rw [hs, Bool.true_and] at HOK
        go_enter Tryz.func10, Tryz.ntmps10
        go_wp2_with fail
        (go_at_call 17; refine HC.out.mono ?_; rintro e w' ⟨rfl, hx⟩; obtain rfl : w = w' := hx.symm)
        go_wp2_with fail
        (go_at_call 18; refine HLO.out.mono ?_; rintro e w2 ⟨rfl, hb2⟩)
        have hN2 := HNC.out.below hb2
        have n0 := hN2 0 (by omega)
        have n1 := hN2 1 (by omega)
        have n2 := hN2 2 (by omega)
        have n3 := hN2 3 (by omega)
        have n4 := hN2 4 (by omega)
        have n5 := hN2 5 (by omega)
        have n6 := hN2 6 (by omega)
        simp only [nevers, List.getD_cons_zero, List.getD_cons_succ] at n0 n1 n2 n3 n4 n5 n6
        clear hN2
        go_wp2_with fail
        clear n0 n1 n2 n3 n4 n5 n6
        go_loopw [23] (fun vi wr => ∃ k : Nat, k ≤ 7 ∧ vi = .int .i64 k ∧ wr = w2 ∧ Hid (∀ j, j < k → (l == nevers.getD j []) = false)) (fun vi _ => 7 - (intOf vi).toNat)
        case atStart => exact ⟨0, by omega, rfl, by trivial, fun j hj => by omega⟩
        case round =>
          obtain ⟨k, hk7, rfl, hwr, hP⟩ := hrel
          obtain rfl : w2 = wr := hwr.symm
          clear hwr
          by_cases h7 : k < 7
          · have HY := hid_of (nev_yes l k h7)
            have hix := nev_at k h7
            have h7' : (k : Int) < 7 := by omega
            obtain ⟨nv, hnv⟩ : ∃ nv, nevers.getD k [] = nv := ⟨_, rfl⟩
            rw [hnv] at HY hix
            have HNV := hid_of hnv
            clear hnv
            cases hE : (nv == l) with
            | true =>
              have HV : Hid (checkZ l = 120) := by
                show _ = _
                rw [HZ.out, HOK.out, HY.out (by rw [← hE]; exact Bool.beq_comm ..)]; rfl
              clear HY hP HOK HZ
              go_wp2
              go_ret
              exact ⟨by rw [HV.out]; rfl, hb2⟩
            | false =>
              have HP2 : Hid (∀ j, j < k + 1 → (l == nevers.getD j []) = false) := fun j hj => by
                by_cases e : j = k
                · rw [e, HNV.out, ← hE]; exact Bool.beq_comm ..
                · exact hP.out j (by omega)
              clear HY hP
              go_wp2
              exact ⟨⟨k + 1, by omega, by go_num, by trivial, HP2⟩, by simp [intOf]; omega⟩
          · obtain rfl : k = 7 := by omega
            have HV : Hid (checkZ l = 0) := by show _ = _; rw [HZ.out, HOK.out, nev_no l hP.out]; rfl
            go_wp2
            go_ret
            exact ⟨by rw [HV.out]; rfl, hb2⟩
  · have d1 : decide ((l.length : Int) > 100) = true := by simp; omega
    have d1' : decide (100 < l.length) = true := by simp; omega
    have HV : Hid (checkZ l = 120) := by show _ = _; rw [HZ.out, HOK.out, decide_eq_false h100]; rfl
    go_enter Tryz.func10, Tryz.ntmps10
    go_wp2
    go_ret
    exact ⟨by rw [HV.out]; rfl, Below.refl _ _⟩
end Go.Proofs.YtjhmphokmmmoaaaGreatDoor.L
