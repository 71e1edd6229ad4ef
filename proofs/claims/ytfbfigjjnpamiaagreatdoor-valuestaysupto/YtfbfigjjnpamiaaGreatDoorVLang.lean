/- What is proved here: the contracts of value.isLang and of the rule for ValueLang. -/
import Derived.Test.YtfbfigjjnpamiaaGreatDoorVName
namespace Go.Proofs.YtfbfigjjnpamiaaGreatDoor.V
open Go.RowKit Go.Shelf Go.Proofs.YtfbfigjjnpamiaaGreatDoor.N Go.Proofs.YtfbfigjjnpamiaaGreatDoor.U Go.Proofs.YtfbfigjjnpamiaaGreatDoor.L

/-- The library's variable that strings.Split reads is a number. -/
abbrev MaxV (w : World) : Prop := ∃ m, w.cell? ⟨Tryz.laysM146_ren.g 1, 0, none⟩ = some (.int .i64 m)
theorem MaxV.below {w w' : World} (h : MaxV w) (hb : Below w.heap.size w w') : MaxV w' := by
  obtain ⟨m, hm⟩ := h
  exact ⟨m, (hb.cell (cell_lt hm)).trans hm⟩
/-- The groups of a text. -/
def grpB (s : List UInt8) : List ByteArray := Lib.splitB ⟨#[45]⟩ 0 (Lib.countB ⟨s.toArray⟩ ⟨#[45]⟩) ⟨s.toArray⟩
def grp (s : List UInt8) : List (List UInt8) := (grpB s).map (·.data.toList)
theorem split_calls (s : List UInt8) (w : World) (hs : s.length ≤ 1000000000) (hm : MaxV w) : Calls Tryz.prog 92 #[.string ⟨s.toArray⟩, .string ⟨#[45]⟩] w fun e w' => e = .returned (.slice (some ⟨w.heap.size, 0, none⟩) (grp s).length (grp s).length) ∧ Below w.heap.size w w' ∧ w.heap.size < w'.heap.size ∧ ∀ j, j < (grp s).length → w'.cell? ⟨w.heap.size, j, none⟩ = some (.string ⟨((grp s).getD j []).toArray⟩) := by
  obtain ⟨m, hm⟩ := hm
  have hlen : (grp s).length = Lib.countB ⟨s.toArray⟩ ⟨#[45]⟩ + 1 := by
    unfold grp grpB
    rw [List.length_map]
    exact Lib.splitB_all ⟨#[45]⟩ (by decide) 0 _ ⟨s.toArray⟩ rfl
  refine (Any.strings_Split { Tryz.laysM146 with } Tryz.laysM146.i9 ⟨s.toArray⟩ ⟨#[45]⟩ m w (by rw [L.arr_size]; omega) hm (by decide)).mono fun e w' ⟨h1, h2⟩ => ⟨by rw [h1, hlen], ?_, ?_, fun j hj => ?_⟩
  · rw [h2]; exact (Below.refl _ w).alloc (Nat.le_refl _) _
  · rw [h2]; simp
  · rw [h2, cell_of_row _ _ _ _ _ _ (World.alloc_heap_new w _)]
    have hj2 : j < (grpB s).length := by unfold grp at hj; simpa using hj
    show (((grpB s).map Value.string).toArray)[j]? = _
    unfold grp
    simp [hj2]
def okL (first : Bool) (c : UInt8) : Bool := letC c || (!first && digC c)
def groupOk (first : Bool) (g : List UInt8) : Bool := decide (1 ≤ g.length ∧ g.length ≤ 8) && (List.range g.length).all fun i => okL first (g.getD i 0)
/-- Whether a text can stand for a language. -/
def langB (s : List UInt8) : Bool := decide (s.length ≤ 100) && (List.range (grp s).length).all fun i => groupOk (i == 0) ((grp s).getD i [])
theorem okL_high (f : Bool) (c : UInt8) (h : 128 ≤ c.toNat) : okL f c = false := by
  have hl : letC c = false := by unfold letC letterZ; rw [decide_eq_false_iff_not]; omega
  have hd : digC c = false := by unfold digC; rw [Bool.eq_false_iff]; simp; omega
  unfold okL
  rw [hl, hd]
  cases f <;> rfl
theorem group_bad (f : Bool) (g : List UInt8) (k : Nat) (h : k < g.length) (hc : okL f (g.getD k 0) = false) : groupOk f g = false := by
  unfold groupOk
  rw [Bool.and_eq_false_iff]
  right
  rw [Bool.eq_false_iff]
  intro ha
  rw [List.all_eq_true] at ha
  have := ha k (List.mem_range.2 h)
  rw [hc] at this
  cases this
theorem lang_bad (s : List UInt8) (k : Nat) (h : k < (grp s).length) (hc : groupOk (k == 0) ((grp s).getD k []) = false) : langB s = false := by
  unfold langB
  rw [Bool.and_eq_false_iff]
  right
  rw [Bool.eq_false_iff]
  intro ha
  rw [List.all_eq_true] at ha
  have := ha k (List.mem_range.2 h)
  rw [hc] at this
  cases this
set_option maxRecDepth 100000 in
set_option maxHeartbeats 8000000 in
/-- **isLang of any bytes.** -/
theorem isLang_calls (l : List UInt8) (w : World) (hm : MaxV w) (hl : l.length ≤ 1000000000) : Calls Tryz.prog 70 #[.string ⟨l.toArray⟩] w fun e W' => e = .returned (.bool (langB l)) ∧ Below w.heap.size w W' := by
  have hsz := byteArr_size l
  by_cases h1 : 100 < l.length
  · have HN : Hid (langB l = false) := by show _ = _; unfold langB; rw [decide_eq_false (by omega)]; rfl
    have c1 : decide ((l.length : Int) > 100) = true := by rw [decide_eq_true_eq]; omega
    go_enter Tryz.func70, Tryz.ntmps70
    go_wp2
    go_ret
    exact ⟨by rw [HN.out]; rfl, Below.refl _ _⟩
  have c1 : decide ((l.length : Int) > 100) = false := by rw [decide_eq_false_iff_not]; omega
  have HS := hid_of (split_calls l w hl hm)
  have HBAD : Hid (∀ k, k < (grp l).length → groupOk (k == 0) ((grp l).getD k []) = false → langB l = false) := fun k h hc => lang_bad l k h hc
  have HGOOD : Hid ((∀ i, i < (grp l).length → groupOk (i == 0) ((grp l).getD i []) = true) → langB l = true) := fun h => by
    unfold langB
    rw [decide_eq_true (by omega), Bool.true_and, List.all_eq_true]
    exact fun i hi => h i (List.mem_range.1 hi)
  have hgl : (grp l).length ≤ 1000000001 := by
    unfold grp grpB
    rw [List.length_map, Lib.splitB_all ⟨#[45]⟩ (by decide) 0 _ ⟨l.toArray⟩ rfl]
    have := Lib.countB_le ⟨#[45]⟩ (by decide) (⟨l.toArray⟩ : ByteArray).size ⟨l.toArray⟩ (Nat.le_refl _)
    rw [L.arr_size] at this
    have h2 : (⟨#[45]⟩ : ByteArray).size = 1 := rfl
    omega
  obtain ⟨R, hR⟩ : ∃ R, langB l = R := ⟨_, rfl⟩
  rw [hR] at HBAD HGOOD ⊢
  obtain ⟨G, hG⟩ : ∃ G, grp l = G := ⟨_, rfl⟩
  rw [hG] at HS HBAD HGOOD hgl
  clear hR hG hm
  go_enter Tryz.func70, Tryz.ntmps70
  go_wp2_with fail
  (go_at_call 92; refine HS.out.mono ?_; rintro e w1 ⟨rfl, hb1, hz1, hcells⟩)
  have HCE := hid_of hcells
  clear HS hcells
  go_wp2_with fail
  go_loopw [3, 4, 6, 13] (fun _ _ _ vi wr => ∃ k : Nat, k ≤ G.length ∧ vi = .int .i64 k ∧ Hid (∀ i, i < k → groupOk (i == 0) (G.getD i []) = true) ∧ Hid (Below w1.heap.size w1 wr)) (fun _ _ _ vi _ => G.length - (intOf vi).toNat)
  case atStart => exact ⟨0, by omega, rfl, (fun i hi => by omega), Below.refl _ _⟩
  case round =>
    obtain ⟨k, hk, rfl, hD, hB⟩ := hrel
    by_cases hlt : k < G.length
    · have hlt' : decide ((k : Int) < (G.length : Int)) = true := by rw [decide_eq_true_eq]; omega
      have hcell := (hB.out.cell (p := ⟨w.heap.size, k, none⟩) hz1).trans (HCE.out k hlt)
      have HBK : Hid (groupOk (k == 0) (G.getD k []) = false → R = false) := fun h => HBAD.out k hlt h
      have HGK : Hid (groupOk (k == 0) (G.getD k []) = true → ∀ i, i < k + 1 → groupOk (i == 0) (G.getD i []) = true) := fun h i hi => by
        by_cases e : i = k
        · subst e; exact h
        · exact hD.out i (by omega)
      obtain ⟨g, hg⟩ : ∃ g, G.getD k [] = g := ⟨_, rfl⟩
      rw [hg] at hcell HBK HGK
      have hsg := byteArr_size g
      have hbw : Below w.heap.size w wr := hb1.trans (hB.out.mono hb1.size)
      clear hg hD
      by_cases hlen : 1 ≤ g.length ∧ g.length ≤ 8
      case' neg =>
        have HN := hid_of (HBK.out (by unfold groupOk; rw [decide_eq_false hlen]; rfl))
        have c8 : decide ((g.length : Int) < 1) = true ∨ (decide ((g.length : Int) < 1) = false ∧ decide ((g.length : Int) > 8) = true) := by
          simp only [decide_eq_true_eq, decide_eq_false_iff_not]; omega
        clear HBK HGK hlen
        rcases c8 with c8 | ⟨c8, c9⟩
        all_goals go_wp2_with fail
        all_goals go_ret
        all_goals exact ⟨by rw [HN.out]; rfl, hbw⟩
      have c8 : decide ((g.length : Int) < 1) = false := by rw [decide_eq_false_iff_not]; omega
      have c9 : decide ((g.length : Int) > 8) = false := by rw [decide_eq_false_iff_not]; omega
      have HGG : Hid (∀ f, (∀ i, i < g.length → okL f (g.getD i 0) = true) → groupOk f g = true) := fun f h => by
        unfold groupOk
        rw [decide_eq_true hlen, Bool.true_and, List.all_eq_true]
        exact fun i hi => h i (List.mem_range.1 hi)
      have hk0 : ((k : Int) == 0) = (k == 0) := by rw [Bool.eq_iff_iff, beq_iff_eq, beq_iff_eq]; omega
      obtain ⟨b0, hb0⟩ : ∃ b0, (k == 0) = b0 := ⟨_, rfl⟩
      rw [hb0] at hk0 HBK HGK
      have HBW := hid_of hbw
      clear hb0 hbw
      go_wp2_with fail
      have hZ1 := hB.out.size
      obtain ⟨Z, hZ⟩ : ∃ Z, wr.heap.size = Z := ⟨_, rfl⟩
      have HZ := hid_of hZ
      rw [hZ] at hZ1 ⊢
      clear hZ
      go_loopw [6] (fun _ wi => ∃ j : Nat, j ≤ g.length ∧ Hid (∀ i, i < j → okL b0 (g.getD i 0) = true) ∧ wi.heap[Z]? = some (.stringIter ⟨g.toArray⟩ j) ∧ Hid (Below w1.heap.size w1 wi) ∧ Z < wi.heap.size) (fun _ wi => g.length - wi.iterPos Z)
      case atStart => exact ⟨0, by omega, (fun i hi => by omega), by rw [← HZ.out]; exact World.iter_heap _ _ _, hB.out.alloc hB.out.size _, by rw [← HZ.out]; simp [World.iter]⟩
      case round =>
        obtain ⟨j, hj, hDi, hit, hBi, hzi⟩ := hrel
        by_cases hlj : j < g.length
        · obtain ⟨c, hc⟩ : ∃ c, g.getD j 0 = c := ⟨_, rfl⟩
          have hnx : ∀ ty, (Instr.next (.pointer (some ⟨Z, 0, none⟩)) true ty).run Tryz.prog wr = _ := fun ty => Lib.run_next_any_at wr Z ⟨g.toArray⟩ j ty hit (by rw [hsg]; exact hlj)
          have HBC : Hid (okL b0 c = false → R = false) := fun h => HBK.out (group_bad b0 g j hlj (by rw [hc]; exact h))
          by_cases ha : c.toNat < 128
          · rw [dec_low g j c hc ha] at hnx
            simp only at hnx
            have hitX := Lib.iterAt_heap wr Z ⟨g.toArray⟩ j (j + 1) hit
            have hgX := iterAt_grownV wr Z ⟨g.toArray⟩ (j + 1)
            have HIT : Hid (wr.heap[Z]? = some (.stringIter ⟨g.toArray⟩ j)) := hit
            obtain ⟨X, hX⟩ : ∃ X, wr.iterAt Z ⟨g.toArray⟩ (j + 1) = X := ⟨_, rfl⟩
            rw [hX] at hnx hitX hgX
            have HBX : Hid (Below w1.heap.size w1 X) := hBi.out.grown hgX hBi.out.size (fun i hi => by cases hi; exact hZ1)
            have hzX := hgX.size
            have HITX : Hid (X.heap[Z]? = some (.stringIter ⟨g.toArray⟩ (j + 1))) := hitX
            have HGO : Hid (okL b0 c = true → ∀ i, i < j + 1 → okL b0 (g.getD i 0) = true) := fun h i hi => by
              by_cases e : i = j
              · subst e; rw [hc]; exact h
              · exact hDi.out i (by omega)
            have HL := hid_of (isLetter_calls (c.toNat : Int) X)
            have HDI := hid_of (isDigit_calls (c.toNat : Int) X)
            rw [digC_Z c] at HDI
            have HOK : Hid (okL b0 c = (letterZ (c.toNat : Int) || (!b0 && digC c))) := rfl
            generalize letterZ (c.toNat : Int) = b1 at *
            generalize digC c = b2 at *
            generalize okL b0 c = ok at *
            clear hX hit hitX hgX hc hDi hBi
            cases b1 <;> cases b0 <;> cases b2
            all_goals go_wp2_with (first
              | (go_at_call 82; refine HL.out.mono ?_; rintro e w' ⟨rfl, hw'⟩; obtain rfl : X = w' := hw'.symm)
              | (go_at_call 42; refine HDI.out.mono ?_; rintro e w' ⟨rfl, hw'⟩; obtain rfl : X = w' := hw'.symm))
            all_goals first
              | (go_ret
                 exact ⟨by rw [HBC.out HOK.out]; rfl, hb1.trans (HBX.out.mono hb1.size)⟩)
              | exact ⟨⟨j + 1, by omega, HGO.out HOK.out, HITX.out, HBX, by omega⟩, by rw [iterPos_ofV HITX.out, iterPos_ofV HIT.out]; omega⟩
          · obtain ⟨r, n, hdec, hr0, hrv⟩ := dec_highV g j c hc hlj (by omega)
            have HN := hid_of (HBC.out (okL_high _ c (by omega)))
            rw [hdec] at hnx
            simp only at hnx
            have hgX := iterAt_grownV wr Z ⟨g.toArray⟩ (j + n)
            obtain ⟨X, hX⟩ : ∃ X, wr.iterAt Z ⟨g.toArray⟩ (j + n) = X := ⟨_, rfl⟩
            rw [hX] at hnx hgX
            have HBX : Hid (Below w1.heap.size w1 X) := hBi.out.grown hgX hBi.out.size (fun i hi => by cases hi; exact hZ1)
            have HL := hid_of (isLetter_calls (r : Int) X)
            have HDI := hid_of (isDigit_calls (r : Int) X)
            rw [show letterZ (r : Int) = false by unfold letterZ; rw [decide_eq_false_iff_not]; omega] at HL
            rw [digZ_high r hr0] at HDI
            clear hX hit hgX hc hdec hDi HBC hrv hBi
            cases b0
            all_goals go_wp2_with (first
              | (go_at_call 82; refine HL.out.mono ?_; rintro e w' ⟨rfl, hw'⟩; obtain rfl : X = w' := hw'.symm)
              | (go_at_call 42; refine HDI.out.mono ?_; rintro e w' ⟨rfl, hw'⟩; obtain rfl : X = w' := hw'.symm))
            all_goals go_ret
            all_goals exact ⟨by rw [HN.out]; rfl, hb1.trans (HBX.out.mono hb1.size)⟩
        · obtain rfl : j = g.length := by omega
          have hnx : ∀ ty, (Instr.next (.pointer (some ⟨Z, 0, none⟩)) true ty).run Tryz.prog wr = _ := fun ty => Lib.run_next_end_at wr Z ⟨g.toArray⟩ g.length ty hit (by rw [hsg]; exact hlj)
          have HGO := hid_of (HGK.out (HGG.out b0 (fun i hi => hDi.out i hi)))
          clear hDi HBK HGK HGG
          go_wp2_with fail
          exact ⟨⟨k + 1, by omega, by go_num, HGO, hBi⟩, by simp [intOf]; omega⟩
    · obtain rfl : k = G.length := by omega
      have hlt' : decide ((G.length : Int) < (G.length : Int)) = false := by rw [decide_eq_false_iff_not]; omega
      have HN := hid_of (HGOOD.out (fun i hi => hD.out i hi))
      clear hD
      go_wp2_with fail
      go_ret
      exact ⟨by rw [HN.out]; rfl, hb1.trans (hB.out.mono hb1.size)⟩
set_option maxRecDepth 100000 in
set_option maxHeartbeats 2000000 in
/-- **The rule for ValueLang.** -/
theorem rlang_calls (s : List UInt8) (wa sa : Option Addr) (wn wc sn sc : Nat) (rel : Bool) (w : World) (hm : MaxV w) (hs : s.length ≤ 1000000000) : Calls Tryz.prog 51 #[askV s wa sa wn wc sn sc rel] w fun e W' => e = .returned (saysV (if langB s then some s else none)) ∧ Below w.heap.size w W' := by
  obtain ⟨W, hW, hb, hz, x0, x1, x2, x3⟩ := ask_new w s wa sa wn wc sn sc rel
  have HW := hid_of hW
  have HB := hid_of hb
  have HN := hid_of (isLang_calls s W (hm.below hb) hs)
  generalize langB s = ok at *
  clear hW hb
  unfold askV
  cases ok
  all_goals go_enter Tryz.func51, Tryz.ntmps51
  all_goals go_upto_region 1 with fail
  all_goals rw [HW.out]
  all_goals go_wp2_with fail
  all_goals (go_at_call 70; refine HN.out.mono ?_; rintro e w2 ⟨rfl, hb2⟩)
  all_goals have HB2 := hid_of (HB.out.trans (hb2.mono HB.out.size))
  all_goals have y0 := cell_keeps x0 hb2
  all_goals clear hb2
  all_goals go_wp2_with fail
  all_goals go_ret2
  all_goals exact ⟨rfl, HB2.out⟩
end Go.Proofs.YtfbfigjjnpamiaaGreatDoor.V
