/- What is proved here: the contracts of value.isName and of the rule for ValueName. -/
import Derived.Test.YtfbfigjjnpamiaaGreatDoorVRune
import Derived.Test.YtfbfigjjnpamiaaGreatDoorVKinds1
namespace Go.Proofs.YtfbfigjjnpamiaaGreatDoor.V
open Go.RowKit Go.Shelf Go.Proofs.YtfbfigjjnpamiaaGreatDoor.N Go.Proofs.YtfbfigjjnpamiaaGreatDoor.U Go.Proofs.YtfbfigjjnpamiaaGreatDoor.L

/-- What Go reads at a byte beyond ASCII is a rune beyond ASCII. -/
theorem dec_highV (bs : List UInt8) (k : Nat) (c : UInt8) (hc : bs.getD k 0 = c) (hk : k < bs.length) (h : 128 ≤ c.toNat) : ∃ r n : Nat, Utf8.decode ⟨bs.toArray⟩ k = (r, n) ∧ 128 ≤ r ∧ Utf8.valid (r : Int) = true := by
  obtain ⟨r, n, h1, h2, h3⟩ := dec_high bs k c hc hk h
  refine ⟨r, n, h1, h2, ?_⟩
  have hd := decode_drop bs k
  have h0 : 0 < (bs.drop k).length := by simp; omega
  rw [h1] at hd
  generalize bs.drop k = B at *
  cases ha : nextAll B with
  | true =>
    rw [decode_right B h0 ha] at hd
    simp only [Prod.mk.injEq] at hd
    rw [hd.1]
    exact rune_valid B h0 ha
  | false =>
    rw [decode_wrong B h0 ha] at hd
    simp only [Prod.mk.injEq] at hd
    rw [hd.1]
    rfl
def letC (c : UInt8) : Bool := letterZ (c.toNat : Int)
def okN (first : Bool) (c : UInt8) : Bool := letC c || (!first && (digC c || markC c))
/-- Whether a text can stand as a name. -/
def nameB (s : List UInt8) : Bool := decide (1 ≤ s.length ∧ s.length ≤ 100) && (List.range s.length).all fun i => okN (i == 0) (s.getD i 0)
theorem okN_high (f : Bool) (c : UInt8) (h : 128 ≤ c.toNat) : okN f c = false := by
  have hl : letC c = false := by unfold letC letterZ; rw [decide_eq_false_iff_not]; omega
  have hd : digC c = false := by unfold digC; rw [Bool.eq_false_iff]; simp; omega
  have hm : markC c = false := by
    have : ∀ n : Fin 256, 128 ≤ n.val → markC (UInt8.ofNat n.val) = false := by decide +kernel
    have h2 := this ⟨c.toNat, c.toNat_lt⟩ h
    simpa using h2
  unfold okN
  rw [hl, hd, hm]
  cases f <;> rfl
theorem nameB_bad (s : List UInt8) (k : Nat) (h : k < s.length) (hc : okN (k == 0) (s.getD k 0) = false) : nameB s = false := by
  unfold nameB
  rw [Bool.and_eq_false_iff]
  right
  rw [Bool.eq_false_iff]
  intro ha
  rw [List.all_eq_true] at ha
  have := ha k (List.mem_range.2 h)
  rw [hc] at this
  cases this
set_option maxRecDepth 100000 in
set_option maxHeartbeats 4000000 in
/-- **isName of any bytes.** -/
theorem isName_calls (l : List UInt8) (w : World) (hl : l.length ≤ 100000000000) : Calls Tryz.prog 65 #[.string ⟨l.toArray⟩] w fun e W' => e = .returned (.bool (nameB l)) ∧ Below w.heap.size w W' := by
  have hsz := byteArr_size l
  by_cases h0 : l.length = 0
  · obtain rfl : l = [] := List.length_eq_zero_iff.1 h0
    go_enter Tryz.func65, Tryz.ntmps65
    go_wp2
    go_ret
    exact ⟨rfl, Below.refl _ _⟩
  have he : l.isEmpty = false := by cases l with | nil => exact absurd rfl h0 | cons _ _ => rfl
  by_cases h1 : 100 < l.length
  · have HN : Hid (nameB l = false) := by show _ = _; unfold nameB; rw [decide_eq_false (by omega)]; rfl
    have c1 : decide ((l.length : Int) > 100) = true := by rw [decide_eq_true_eq]; omega
    go_enter Tryz.func65, Tryz.ntmps65
    go_wp2
    go_ret
    exact ⟨by rw [HN.out]; rfl, Below.refl _ _⟩
  have c1 : decide ((l.length : Int) > 100) = false := by rw [decide_eq_false_iff_not]; omega
  obtain ⟨R, hR⟩ : ∃ R, nameB l = R := ⟨_, rfl⟩
  have HR := hid_of hR
  rw [hR]
  clear hR
  go_enter Tryz.func65, Tryz.ntmps65
  go_wp2
  go_loopw [3, 4] (fun _ _ wr => ∃ k : Nat, k ≤ l.length ∧ Hid (∀ i, i < k → okN (i == 0) (l.getD i 0) = true) ∧ wr.heap[w.heap.size]? = some (.stringIter ⟨l.toArray⟩ k) ∧ Below w.heap.size w wr ∧ w.heap.size < wr.heap.size) (fun _ _ wr => l.length - wr.iterPos w.heap.size)
  case atStart => exact ⟨0, by omega, (fun i hi => by omega), World.iter_heap _ _ _, (Below.refl _ w).alloc (Nat.le_refl _) _, by simp [World.iter]⟩
  case round =>
    obtain ⟨k, hk, hD, hit, hB, hz⟩ := hrel
    by_cases hlt : k < l.length
    · obtain ⟨c, hc⟩ : ∃ c, l.getD k 0 = c := ⟨_, rfl⟩
      have hnx : ∀ ty, (Instr.next (.pointer (some ⟨w.heap.size, 0, none⟩)) true ty).run Tryz.prog wr = _ := fun ty => Lib.run_next_any_at wr w.heap.size ⟨l.toArray⟩ k ty hit (by rw [hsz]; exact hlt)
      have HBAD : Hid (okN (k == 0) c = false → R = false) := fun h => by rw [← HR.out]; exact nameB_bad l k hlt (by rw [hc]; exact h)
      by_cases ha : c.toNat < 128
      · rw [dec_low l k c hc ha] at hnx
        simp only at hnx
        have hitX := Lib.iterAt_heap wr w.heap.size ⟨l.toArray⟩ k (k + 1) hit
        have hgX := iterAt_grownV wr w.heap.size ⟨l.toArray⟩ (k + 1)
        have HIT : Hid (wr.heap[w.heap.size]? = some (.stringIter ⟨l.toArray⟩ k)) := hit
        obtain ⟨X, hX⟩ : ∃ X, wr.iterAt w.heap.size ⟨l.toArray⟩ (k + 1) = X := ⟨_, rfl⟩
        rw [hX] at hnx hitX hgX
        have hBX : Below w.heap.size w X := hB.grown hgX hB.size (fun j hj => by cases hj; exact Nat.le_refl _)
        have hzX := hgX.size
        have HITX : Hid (X.heap[w.heap.size]? = some (.stringIter ⟨l.toArray⟩ (k + 1))) := hitX
        have HGO : Hid (okN (k == 0) c = true → ∀ i, i < k + 1 → okN (i == 0) (l.getD i 0) = true) := fun h i hi => by
          by_cases e : i = k
          · subst e; rw [hc]; exact h
          · exact hD.out i (by omega)
        have HL := hid_of (isLetter_calls (c.toNat : Int) X)
        have HDI := hid_of (isDigit_calls (c.toNat : Int) X)
        have HCR := hid_of (contains_ascii c ha X)
        rw [digC_Z c] at HDI
        have HOK : Hid (okN (k == 0) c = (letterZ (c.toNat : Int) || (!(k == 0) && (digC c || markC c)))) := rfl
        have hk0 : ((k : Int) == 0) = (k == 0) := by
          rw [Bool.eq_iff_iff, beq_iff_eq, beq_iff_eq]; omega
        generalize letterZ (c.toNat : Int) = b1 at *
        generalize digC c = b2 at *
        generalize markC c = b3 at *
        obtain ⟨b0, hb0⟩ : ∃ b0, (k == 0) = b0 := ⟨_, rfl⟩
        rw [hb0] at hk0 HOK HBAD HGO
        generalize okN b0 c = ok at *
        clear hX hit hitX hgX hc hD hb0
        cases b1 <;> cases b0 <;> cases b2 <;> cases b3
        all_goals go_wp2_with (first
          | (go_at_call 82; refine HL.out.mono ?_; rintro e w' ⟨rfl, hw'⟩; obtain rfl : X = w' := hw'.symm)
          | (go_at_call 42; refine HDI.out.mono ?_; rintro e w' ⟨rfl, hw'⟩; obtain rfl : X = w' := hw'.symm)
          | (go_at_call 83; refine HCR.out.mono ?_; rintro e w' ⟨rfl, hw'⟩; obtain rfl : X = w' := hw'.symm))
        all_goals first
          | (go_ret
             exact ⟨by rw [HBAD.out HOK.out]; rfl, hBX⟩)
          | exact ⟨⟨k + 1, by omega, HGO.out HOK.out, HITX.out, hBX, by omega⟩, by rw [iterPos_ofV HITX.out, iterPos_ofV HIT.out]; omega⟩
      · obtain ⟨r, n, hdec, hr0, hrv⟩ := dec_highV l k c hc hlt (by omega)
        have hbad := HBAD.out (okN_high _ c (by omega))
        have HN := hid_of hbad
        rw [hdec] at hnx
        simp only at hnx
        have hgX := iterAt_grownV wr w.heap.size ⟨l.toArray⟩ (k + n)
        obtain ⟨X, hX⟩ : ∃ X, wr.iterAt w.heap.size ⟨l.toArray⟩ (k + n) = X := ⟨_, rfl⟩
        rw [hX] at hnx hgX
        have hBX : Below w.heap.size w X := hB.grown hgX hB.size (fun j hj => by cases hj; exact Nat.le_refl _)
        have HL := hid_of (isLetter_calls (r : Int) X)
        have HDI := hid_of (isDigit_calls (r : Int) X)
        have HCR := hid_of (contains_more (r : Int) hrv (by omega) X)
        rw [show letterZ (r : Int) = false by unfold letterZ; rw [decide_eq_false_iff_not]; omega] at HL
        rw [digZ_high r hr0] at HDI
        have hk0 : ((k : Int) == 0) = true ∨ ((k : Int) == 0) = false := by cases ((k : Int) == 0) <;> simp
        clear hX hit hgX hc hdec hD hbad HBAD hrv
        rcases hk0 with hk0 | hk0
        · go_wp2_with (first
            | (go_at_call 82; refine HL.out.mono ?_; rintro e w' ⟨rfl, hw'⟩; obtain rfl : X = w' := hw'.symm))
          go_ret
          exact ⟨by rw [HN.out]; rfl, hBX⟩
        · go_wp2_with (first
            | (go_at_call 82; refine HL.out.mono ?_; rintro e w' ⟨rfl, hw'⟩; obtain rfl : X = w' := hw'.symm)
            | (go_at_call 42; refine HDI.out.mono ?_; rintro e w' ⟨rfl, hw'⟩; obtain rfl : X = w' := hw'.symm)
            | (go_at_call 83; refine HCR.out.mono ?_; rintro e w9 ⟨rfl, hb9⟩))
          go_ret
          exact ⟨by rw [HN.out]; rfl, hBX.trans (hb9.mono hBX.size)⟩
    · obtain rfl : k = l.length := by omega
      have hnx : ∀ ty, (Instr.next (.pointer (some ⟨w.heap.size, 0, none⟩)) true ty).run Tryz.prog wr = _ := fun ty => Lib.run_next_end_at wr w.heap.size ⟨l.toArray⟩ l.length ty hit (by rw [hsz]; exact hlt)
      have HN : Hid (R = true) := by
        show R = true
        rw [← HR.out]
        unfold nameB
        rw [decide_eq_true (by omega), Bool.true_and, List.all_eq_true]
        intro i hi
        exact hD.out i (List.mem_range.1 hi)
      clear hD
      go_wp2
      go_ret
      exact ⟨by rw [HN.out]; rfl, hB⟩
set_option maxRecDepth 100000 in
set_option maxHeartbeats 2000000 in
/-- **The rule for ValueName.** -/
theorem rname_calls (s : List UInt8) (wa sa : Option Addr) (wn wc sn sc : Nat) (rel : Bool) (w : World) (hs : s.length ≤ 100000000000) : Calls Tryz.prog 47 #[askV s wa sa wn wc sn sc rel] w fun e W' => e = .returned (saysV (if nameB s then some s else none)) ∧ Below w.heap.size w W' := by
  obtain ⟨W, hW, hb, hz, x0, x1, x2, x3⟩ := ask_new w s wa sa wn wc sn sc rel
  have HW := hid_of hW
  have HB := hid_of hb
  have HN := hid_of (isName_calls s W hs)
  generalize nameB s = ok at *
  clear hW hb
  unfold askV
  cases ok
  all_goals go_enter Tryz.func47, Tryz.ntmps47
  all_goals go_upto_region 1 with fail
  all_goals rw [HW.out]
  all_goals go_wp2_with fail
  all_goals (go_at_call 65; refine HN.out.mono ?_; rintro e w2 ⟨rfl, hb2⟩)
  all_goals have HB2 := hid_of (HB.out.trans (hb2.mono HB.out.size))
  all_goals have y0 := cell_keeps x0 hb2
  all_goals clear hb2
  all_goals go_wp2_with fail
  all_goals go_ret2
  all_goals exact ⟨rfl, HB2.out⟩
end Go.Proofs.YtfbfigjjnpamiaaGreatDoor.V
