/- What is proved here: the document's unplus and Pairs of layer 12. -/
import Derived.Test.YtkbegfdbfmfedaaGreatDoorBun11
import Derived.Test.YtkbegfdbfmfedaaGreatDoorLkDec
import Derived.Test.YtkbegfdbfmfedaaGreatDoorBun2
namespace Go.Proofs.YtkbegfdbfmfedaaGreatDoor.L
open Go.RowKit Go.Shelf Go.Proofs.YtkbegfdbfmfedaaGreatDoor.N Go.Proofs.YtkbegfdbfmfedaaGreatDoor.U

/-- Bytes in which the first k have no plus any more. -/
structure Plu (w wr : World) (l : List UInt8) (k : Nat) : Prop where
  below : Below w.heap.size w wr
  done : ∀ j, j < k → j < l.length → wr.cell? ⟨w.heap.size, j, none⟩ = some (.int .u8 (plusC (l.getD j 0)).toNat)
  rest : ∀ j, k ≤ j → j < l.length → wr.cell? ⟨w.heap.size, j, none⟩ = some (.int .u8 (l.getD j 0).toNat)
  free : ∀ j, j < l.length → wr.frozen? ⟨w.heap.size, j, none⟩ = false
theorem Plu.start (w : World) (e : TypeId) (s : ByteArray) : Plu w (Lib.bytesWorld w e s) s.data.toList 0 := by
  obtain ⟨h1, _, h3, h4⟩ := Low.start w e s
  exact ⟨h1, fun j h => by omega, h3, h4⟩
theorem Plu.step {w wr : World} {l : List UInt8} {k : Nat} (h : Plu w wr l k) (hk : k < l.length) (hp : plusC (l.getD k 0) = 32) : Plu w (wr.setCell ⟨w.heap.size, k, none⟩ (.int .u8 32)) l (k + 1) := by
  have hc := h.rest k (Nat.le_refl _) hk
  refine ⟨h.below.setCell (Nat.le_refl _) _, fun j hj hl => ?_, fun j hj hl => ?_, fun j hj => ?_⟩
  · by_cases e : j = k
    · subst e; rw [hp]; exact cs_same hc
    · rw [cs_other (by simp; first | done | omega)]; exact h.done j (by omega) hl
  · rw [cs_other (by simp; first | done | omega)]; exact h.rest j (by omega) hl
  · rw [World.frozen?_setCell]; exact h.free j hj
theorem Plu.keep {w wr : World} {l : List UInt8} {k : Nat} (h : Plu w wr l k) (hk : k < l.length) (hl : plusC (l.getD k 0) = l.getD k 0) : Plu w wr l (k + 1) := by
  refine ⟨h.below, fun j hj hl' => ?_, fun j hj hl => h.rest j (by omega) hl, h.free⟩
  by_cases e : j = k
  · subst e; rw [hl]; exact h.rest j (Nat.le_refl _) hk
  · exact h.done j (by omega) hl'
theorem Plu.over {w wr : World} {l : List UInt8} (h : Plu w wr l l.length) (cap : Nat) : (convert 45 9 (.slice (some ⟨w.heap.size, 0, none⟩) l.length cap)).run Tryz.prog wr = .ok (.string ⟨(l.map plusC).toArray⟩) wr := by
  have := run_convert_bytes_back (P := Tryz.prog) wr 45 9 5 ⟨w.heap.size, 0, none⟩ cap (l.map plusC) Tryz.underlying45 Tryz.underlying5 Tryz.underlying9 (fun j hj => by
    rw [List.length_map] at hj
    rw [C.add_none, Nat.zero_add, h.done j hj hj]
    simp [hj])
  rwa [List.length_map] at this
set_option maxRecDepth 100000 in
set_option maxHeartbeats 2000000 in
/-- **unplus.** -/
theorem unplus_calls (l : List UInt8) (w : World) (hl : l.length ≤ 1000000000) : Calls Tryz.prog 42 #[.string ⟨l.toArray⟩] w fun e W' => e = .returned (.string ⟨(unfL l).toArray⟩) ∧ Below w.heap.size w W' := by
  have ss := arr_size l
  have hcv : (convert 9 45 (.string ⟨l.toArray⟩)).run Tryz.prog w = .ok (.slice (some ⟨w.heap.size, 0, none⟩) l.length (grownCap w (⟨l.toArray⟩ : ByteArray).size 0 5)) (Lib.bytesWorld w 5 ⟨l.toArray⟩) := by
    have := Lib.run_convert_string_bytes (P := Tryz.prog) w 9 45 5 ⟨l.toArray⟩ Tryz.underlying9 Tryz.underlying45 Tryz.underlying5
    rw [ss] at this ⊢
    exact this
  have HS : Hid (Plu w (Lib.bytesWorld w 5 ⟨l.toArray⟩) l 0) := Plu.start w _ ⟨l.toArray⟩
  generalize Lib.bytesWorld w 5 ⟨l.toArray⟩ = W0 at hcv HS
  generalize grownCap w (⟨l.toArray⟩ : ByteArray).size 0 5 = cap at hcv
  have HD : Hid (∀ W, Below w.heap.size w W → Calls Tryz.prog 81 #[.string ⟨(l.map plusC).toArray⟩] W fun e W' => e = .returned (.string ⟨(unfL l).toArray⟩) ∧ Below W.heap.size W W') := fun W _ => rdecode_calls (l.map plusC) W (by rw [List.length_map]; exact hl)
  go_enter Tryz.func42, Tryz.ntmps42
  go_wp2_with fail
  clear hcv
  go_loopw [9] (fun i wr => ∃ k : Nat, k ≤ l.length ∧ i = .int .i64 k ∧ Hid (Plu w wr l k)) (fun i _ => l.length - (intOf i).toNat)
  case atStart => exact ⟨0, by omega, rfl, HS⟩
  case round =>
    clear HS
    obtain ⟨k, hk, rfl, hL⟩ := hrel
    by_cases hlt : k < l.length
    · have hc := hL.out.rest k (Nat.le_refl _) hlt
      have hfz := hL.out.free k hlt
      cases hp : (l.getD k 0 == 43) with
      | true =>
        have hpc : plusC (l.getD k 0) = 32 := by unfold plusC; rw [hp]; rfl
        have HL2 : Hid (Plu w _ l (k + 1)) := hL.out.step hlt hpc
        rw [beq_iff_eq.1 hp] at hc
        clear hp hpc
        go_wp2_with fail
        exact ⟨⟨k + 1, by omega, by go_num, HL2⟩, by simp [intOf]; omega⟩
      | false =>
        have hpc : plusC (l.getD k 0) = l.getD k 0 := by unfold plusC; rw [hp]; rfl
        have HL2 : Hid (Plu w wr l (k + 1)) := hL.out.keep hlt hpc
        obtain ⟨c, hcc⟩ : ∃ c, l.getD k 0 = c := ⟨_, rfl⟩
        rw [hcc] at hc hp
        have e43 : ((c.toNat : Int) == 43) = false := by rw [← hp]; exact eq_byte c 43
        clear hp hpc hcc
        go_wp2_with fail
        exact ⟨⟨k + 1, by omega, by go_num, HL2⟩, by simp [intOf]; omega⟩
    · obtain rfl : k = l.length := by omega
      have hcv := fun c => hL.out.over c
      have HB := hid_of hL.out.below
      clear hL
      go_wp2_with fail
      (go_at_call 81; refine (HD.out _ HB.out).mono ?_; rintro e w2 ⟨rfl, hb2⟩)
      go_wp2_with fail
      go_ret
      exact ⟨rfl, HB.out.trans (hb2.mono HB.out.size)⟩
set_option maxRecDepth 100000 in
set_option maxHeartbeats 4000000 in
/-- **Pairs.** -/
theorem rpairs_calls (bs : List UInt8) (w : World) (hl : bs.length ≤ 100000000) : Calls Tryz.prog 13 #[.string ⟨bs.toArray⟩] w fun e W' => ∃ v, e = .returned v ∧ OwnW 36 w.heap.size W' v (pairsK (mendL bs)) ∧ Below w.heap.size w W' := by
  have HM : Hid (Calls Tryz.prog 21 #[.string ⟨bs.toArray⟩] w fun e W' => e = .returned (.string ⟨(mendL bs).toArray⟩) ∧ Below w.heap.size w W') := R.rmend_calls bs w (by omega)
  have hml := mend_le bs
  obtain ⟨s, hS⟩ : ∃ s, mendL bs = s := ⟨_, rfl⟩
  rw [hS] at HM hml ⊢
  have hss : s.length ≤ 400000000 := by omega
  clear hS hml hl
  have HUP : Hid (∀ (q : List UInt8) (so : UInt8) (W : World), q.length ≤ 400000000 → Calls Tryz.prog 41 #[.string ⟨q.toArray⟩, .string ⟨#[so]⟩] W fun e W' => e = .returned (.int .i64 (upToL [so] q : Nat)) ∧ Below W.heap.size W W') := fun q so W h => upTo_calls q [so] W (by omega) (by simp)
  have HUN : Hid (∀ (q : List UInt8) (W : World), q.length ≤ 400000000 → Calls Tryz.prog 42 #[.string ⟨q.toArray⟩] W fun e W' => e = .returned (.string ⟨(unfL q).toArray⟩) ∧ Below W.heap.size W W') := fun q W h => unplus_calls q W (by omega)
  go_enter Tryz.func13, Tryz.ntmps13
  go_wp2_with fail
  (go_at_call 21; refine HM.out.mono ?_; rintro e w1 ⟨rfl, hb1⟩)
  have HB1 := hid_of hb1
  have z1 := hb1.size
  clear hb1 HM
  go_wp2_with fail
  go_loopw [0, 3] (fun vq vo wr => ∃ (q : List UInt8) (o : List Two) (a : Option Addr) (cap : Nat), vq = .string ⟨q.toArray⟩ ∧ vo = .slice a o.length cap ∧ Hid (o ++ pairsK q = pairsK s) ∧ o.length + q.length ≤ s.length ∧ Hid (OwnW 36 w1.heap.size wr (.slice a o.length cap) o) ∧ Hid (Below w1.heap.size w1 wr)) (fun vq _ _ => match vq with | .string b => b.size | _ => 0)
  case atStart => exact ⟨s, [], none, 0, rfl, rfl, rfl, by simp, World.ownsRow_nil _ _ _ _, Below.refl _ _⟩
  case round =>
    obtain ⟨q, o, a, cap, rfl, rfl, hE, hql, hO, hB⟩ := hrel
    have zr := hB.out.size
    cases hq0 : (q == []) with
    | true =>
      obtain rfl : q = [] := by simpa using hq0
      have HE2 : Hid (o = pairsK s) := by have := hE.out; rw [pairsK_nil, List.append_nil] at this; exact this
      clear hE hq0
      go_wp2_with fail
      go_ret
      exact ⟨_, rfl, by rw [← HE2.out]; exact C.owns_mono hO.out z1, HB1.out.trans (hB.out.mono z1)⟩
    | false =>
      have hne : q ≠ [] := fun e => by subst e; simp at hq0
      have hst := pairsK_step q hne
      have hule := upToL_le [38] q
      have hq1 : 0 < q.length := List.length_pos_iff.2 hne
      have sq := arr_size q
      have HU1 := hid_of (fun W => HUP.out q 38 W (by omega))
      obtain ⟨n, hn⟩ : ∃ n, upToL [38] q = n := ⟨_, rfl⟩
      rw [hn] at hst hule HU1
      clear hn
      have y1 := slice_h q n hule (n : Int) rfl
      have y2 := slice_l q n hule (n : Int) rfl
      have htl : (q.take n).length = n := by rw [List.length_take]; omega
      have hdl : (q.drop n).length = q.length - n := List.length_drop
      have hdd : q.drop (n + 1) = (q.drop n).drop 1 := by rw [List.drop_drop]
      have HST := hid_of hst
      clear hst
      obtain ⟨p, hp⟩ : ∃ p, q.take n = p := ⟨_, rfl⟩
      obtain ⟨r, hr⟩ : ∃ r, q.drop n = r := ⟨_, rfl⟩
      rw [hp] at y1 htl HST
      rw [hr] at y2 hdl hdd
      rw [hdd] at HST
      clear hp hr hdd
      have hpl : p.length ≤ 400000000 := by omega
      have hrq : r.length ≤ q.length := by omega
      have HLEN : Hid (p.length + r.length = q.length) := by show _ = _; omega
      go_wp2_with fail
      (go_at_call 41; refine (HU1.out _).mono ?_; rintro e w2 ⟨rfl, hb2⟩)
      have HB2 := hid_of (hB.out.trans (hb2.mono zr))
      have HO2 := hid_of (owns_below hO.out hb2)
      clear hb2 hO hB HU1
      have hrc : ((r == []) = true ∧ r.drop 1 = r) ∨ ((r == []) = false ∧ 1 ≤ r.length) := by
        cases r with
        | nil => exact .inl ⟨rfl, rfl⟩
        | cons c t => exact .inr ⟨by simp, by simp⟩
      have hd1 : (r.drop 1).length = r.length - 1 := List.length_drop
      have sr := arr_size r
      have y3 : 1 ≤ r.length → ∀ W, (Instr.slice 9 (.string ⟨r.toArray⟩) (some (.int .i64 1)) none none).run Tryz.prog W = .ok (.string ⟨(r.drop 1).toArray⟩) W := fun h => slice_l r 1 h 1 rfl
      obtain ⟨r2, hr2⟩ : ∃ r2, r.drop 1 = r2 := ⟨_, rfl⟩
      rw [hr2] at hrc hd1 y3 HST
      clear hr2
      have HR2 : Hid (r2.length + 1 ≤ q.length) := by show _ ≤ _; omega
      have HOL : Hid (o.length + 1 + r2.length ≤ s.length) := by show _ ≤ _; omega
      have HO1 : Hid (o.length ≤ 400000000) := by show _ ≤ _; omega
      have HSQ := hid_of sq
      clear hql hd1 hdl htl hrq hule sq HLEN
      have sp := arr_size p
      have hule2 := upToL_le [61] p
      have HU2 := hid_of (fun W => HUP.out p 61 W hpl)
      have HPO : Hid (pairOf p = (unfL (p.take (upToL [61] p)), unfL (p.drop (upToL [61] p + 1)))) := rfl
      obtain ⟨k, hk⟩ : ∃ k, upToL [61] p = k := ⟨_, rfl⟩
      rw [hk] at hule2 HU2 HPO
      clear hk
      have x1 := slice_h p k hule2 (k : Int) rfl
      have x2 : k < p.length → ∀ W, (Instr.slice 9 (.string ⟨p.toArray⟩) (some (.int .i64 ((k : Int) + 1))) none none).run Tryz.prog W = .ok (.string ⟨(p.drop (k + 1)).toArray⟩) W := fun h => slice_l p (k + 1) h ((k : Int) + 1) (by omega)
      have HN1 := hid_of (fun W => HUN.out (p.take k) W (by rw [List.length_take]; omega))
      have HN2 := hid_of (fun W => HUN.out (p.drop (k + 1)) W (by rw [List.length_drop]; omega))
      have HDE : Hid (¬ k < p.length → unfL (p.drop (k + 1)) = []) := fun h => by rw [List.drop_eq_nil_of_le (by omega)]; rfl
      obtain ⟨t1, ht1⟩ : ∃ t, p.take k = t := ⟨_, rfl⟩
      obtain ⟨t2, ht2⟩ : ∃ t, p.drop (k + 1) = t := ⟨_, rfl⟩
      rw [ht1] at x1 HN1 HPO
      rw [ht2] at x2 HN2 HPO HDE
      clear ht1 ht2
      obtain ⟨f1, hf1⟩ : ∃ t, unfL t1 = t := ⟨_, rfl⟩
      obtain ⟨f2, hf2⟩ : ∃ t, unfL t2 = t := ⟨_, rfl⟩
      rw [hf1] at HN1 HPO
      rw [hf2] at HN2 HPO HDE
      clear hf1 hf2
      rcases hrc with ⟨hr0, hrr⟩ | ⟨hr0, hr1⟩
      case' inl =>
        obtain rfl := hrr
        clear y3
      case' inr => have y3 := y3 hr1
      all_goals
        cases hp0 : (p == []) with
        | true =>
          obtain rfl : p = [] := by simpa using hp0
          have HE2 : Hid (o ++ pairsK r2 = pairsK s) := by
            have h1 := hE.out
            rw [HST.out] at h1
            exact h1
          clear hE hp0
          go_wp2_with fail
          exact ⟨⟨_, o, a, cap, rfl, rfl, HE2, by have := HOL.out; omega, HO2, HB2⟩, by have := HR2.out; simp [arr_size]; omega⟩
        | false =>
          have hpe : p.isEmpty = false := by rw [List.isEmpty_eq_false_iff]; intro e; subst e; simp at hp0
          have HE2 : Hid (o ++ [(f1, f2)] ++ pairsK r2 = pairsK s) := by
            have h1 := hE.out
            rw [HST.out, hpe, HPO.out] at h1
            simp only [Bool.false_eq_true, if_false, ← List.append_assoc] at h1
            exact h1
          clear hE hpe HST HPO
          go_wp2_with fail
          (go_at_call 41; refine (HU2.out _).mono ?_; rintro e w3 ⟨rfl, hb3⟩)
          have z2 := HB2.out.size
          have HB3 := hid_of (HB2.out.trans (hb3.mono z2))
          have HO3 := hid_of (owns_below HO2.out hb3)
          have z3 := HB3.out.size
          clear hb3 HO2 HB2 HU2
          go_wp2_with fail
          (go_at_call 42; refine (HN1.out _).mono ?_; rintro e w4 ⟨rfl, hb4⟩)
          have HB4 := hid_of (HB3.out.trans (hb4.mono z3))
          have HO4 := hid_of (owns_below HO3.out hb4)
          have z4 := HB4.out.size
          clear hb4 HO3 HB3 HN1
          obtain ⟨W5, hW5⟩ : ∃ W, w4.alloc (.cells #[.string ⟨f1.toArray⟩, .string ⟨#[]⟩] 36) = W := ⟨_, rfl⟩
          have b5 : Below w4.heap.size w4 W5 := by rw [← hW5]; exact (Below.refl _ _).alloc (Nat.le_refl _) _
          have HK5 : Hid (W5.heap[w4.heap.size]? = some (.cells #[.string ⟨f1.toArray⟩, .string ⟨#[]⟩] 36 (0, 0))) := by rw [← hW5]; exact World.alloc_heap_new _ _
          have z5 : w4.heap.size < W5.heap.size := by rw [← hW5]; simp
          have HB5 := hid_of (HB4.out.trans (b5.mono z4))
          have HO5 := hid_of (owns_below HO4.out b5)
          have HW5 := hid_of hW5
          have HB45 := hid_of b5
          clear hW5 b5 HB4
          go_upto_region 12 with fail
          rw [HW5.out]
          clear HW5
          by_cases hkp : k < p.length
          · have x2 := x2 hkp
            go_wp2_with fail
            (go_at_call 42; refine (HN2.out _).mono ?_; rintro e w6 ⟨rfl, hb6⟩)
            have HK6 : Hid (w6.heap[w4.heap.size]? = some (.cells #[.string ⟨f1.toArray⟩, .string ⟨#[]⟩] 36 (0, 0))) := (hb6.block _ z5).trans HK5.out
            have c60 : w6.cell? ⟨w4.heap.size, 0, none⟩ = some (.string ⟨f1.toArray⟩) := by rw [cell_of_row _ _ _ _ _ _ HK6.out]; rfl
            have c61 : w6.cell? ⟨w4.heap.size, 1, none⟩ = some (.string ⟨#[]⟩) := by rw [cell_of_row _ _ _ _ _ _ HK6.out]; rfl
            have f61 : w6.frozen? ⟨w4.heap.size, 1, none⟩ = false := by simp [World.frozen?, HK6.out]
            have HB6 := hid_of (HB5.out.trans (hb6.mono HB5.out.size))
            obtain ⟨W7, hW7⟩ : ∃ W, w6.setCell ⟨w4.heap.size, 1, none⟩ (.string ⟨f2.toArray⟩) = W := ⟨_, rfl⟩
            have c70 : W7.cell? ⟨w4.heap.size, 0, none⟩ = some (.string ⟨f1.toArray⟩) := by rw [← hW7, cs_other (by simp)]; exact c60
            have c71 : W7.cell? ⟨w4.heap.size, 1, none⟩ = some (.string ⟨f2.toArray⟩) := by rw [← hW7]; exact cs_same c61
            have HB7 : Hid (Below w1.heap.size w1 W7) := by rw [← hW7]; exact HB6.out.setCell z4 _
            have HO7 : Hid (OwnW 36 w1.heap.size W7 (.slice a o.length cap) o) := by
              have hb7 : Below w4.heap.size w4 W7 := by rw [← hW7]; exact (HB45.out.trans (hb6.mono (Nat.le_of_lt z5))).setCell (Nat.le_refl _) _
              exact owns_below HO4.out hb7
            have HW7 := hid_of hW7
            have z7 := HB7.out.size
            clear hW7 hb6 HB5 HO5 HK5 HK6 HB6
            go_upto_region 14 with fail
            rw [HW7.out]
            clear HW7 c60 c61 f61
            go_wp2_with (at_builtin; refine append_two rfl _ _ 32 36 Tryz.underlying32 infoAttr rfl w1.heap.size (.slice a o.length cap) o rfl (HO7.out.alloc _) W7.heap.size (f1, f2) rfl (two_new0 _ _ _ _) (two_new1 _ _ _ _) (by have := HO1.out; omega) (by simp; omega) ?_; intro v' w8 hown' hgrow)
            obtain ⟨a2, cap2, rfl, hc8, _, _⟩ := OwnW.at hown'
            go_wp2_with fail
            exact ⟨⟨_, o ++ [(f1, f2)], a2, cap2, rfl, rfl, HE2, by have := HOL.out; rw [List.length_append, List.length_singleton]; omega, hown', (HB7.out.alloc z7 _).grown hgrow (by simp; omega) (fun j hj => (HO7.out.lt j hj).1)⟩, by have := HR2.out; simp [arr_size]; omega⟩
          · have HF2 := HDE.out hkp
            subst HF2
            have dk : decide ((k : Int) < (p.length : Int)) = false := by rw [decide_eq_false_iff_not]; omega
            have c50 : W5.cell? ⟨w4.heap.size, 0, none⟩ = some (.string ⟨f1.toArray⟩) := by rw [cell_of_row _ _ _ _ _ _ HK5.out]; rfl
            have c51 : W5.cell? ⟨w4.heap.size, 1, none⟩ = some (.string ⟨#[]⟩) := by rw [cell_of_row _ _ _ _ _ _ HK5.out]; rfl
            have z7 := HB5.out.size
            go_wp2_with (at_builtin; refine append_two rfl _ _ 32 36 Tryz.underlying32 infoAttr rfl w1.heap.size (.slice a o.length cap) o rfl (HO5.out.alloc _) W5.heap.size (f1, []) rfl (two_new0 _ _ _ _) (two_new1 _ _ _ _) (by have := HO1.out; omega) (by simp; omega) ?_; intro v' w8 hown' hgrow)
            obtain ⟨a2, cap2, rfl, hc8, _, _⟩ := OwnW.at hown'
            go_wp2_with fail
            exact ⟨⟨_, o ++ [(f1, [])], a2, cap2, rfl, rfl, HE2, by have := HOL.out; rw [List.length_append, List.length_singleton]; omega, hown', (HB5.out.alloc z7 _).grown hgrow (by simp; omega) (fun j hj => (HO5.out.lt j hj).1)⟩, by have := HR2.out; simp [arr_size]; omega⟩
end Go.Proofs.YtkbegfdbfmfedaaGreatDoor.L
