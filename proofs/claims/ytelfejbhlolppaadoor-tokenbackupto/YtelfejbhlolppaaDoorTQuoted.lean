/- What is proved here: the contract of quoted of token's reader. -/
import Derived.Test.YtelfejbhlolppaaDoorTReader
import Derived.Test.YtelfejbhlolppaaDoorTList
namespace Go.Proofs.YtelfejbhlolppaaDoor.T
open Go.RowKit N

theorem Bld.low {B b g : Nat} {l : List UInt8} {w : World} (h : Bld B b l w) (hg : g < B) (j : Nat) (u : Value) : Bld B b l (w.setCell ⟨g, j, none⟩ u) := by
  have go : ∀ p, Lib.BuilderAtF 62 5 B b p (Lib.byteCells l) w → Lib.BuilderAtF 62 5 B b p (Lib.byteCells l) (w.setCell ⟨g, j, none⟩ u) := by
    rintro p ⟨hB, v, hb, ho, hne⟩
    refine ⟨hB, v, ?_, ho.kept (grown_set w g j u) ?_, hne⟩
    · rw [← hb]; exact Below.heap_setCell _ _ _ b (fun e => by have : b = g := e; omega)
    · rcases hv : v.ownBlock with _ | k
      · exact .inl rfl
      · right; intro e; simp at e; have := ho.lt k hv; omega
  rcases h with h | h
  · exact .inl (go _ h)
  · exact .inr (go _ h)
theorem KeepP.then {P : Nat → Prop} {w A B : World} (h : KeepP P w A) (hb : Below w.heap.size A B) : KeepP P w B :=
  ⟨hb.os.trans h.os, hb.tape.trans h.tape, hb.output.trans h.output, Nat.le_trans h.size hb.size, fun k hk hp => (hb.block k hk).trans (h.block k hk hp)⟩
theorem unq_esc (acc r : List UInt8) (d : UInt8) : unq acc (92 :: d :: r) = match escB d with | some x => unq (acc ++ [x]) r | none => none := by
  unfold escB
  by_cases d1 : d = 110
  · subst d1; rw [unq_n]; rfl
  · by_cases d2 : d = 116
    · subst d2; rw [unq_t]; rfl
    · by_cases d3 : d = 34 ∨ d = 92
      · rw [unq_c _ _ _ d3, if_neg d1, if_neg d2, if_pos d3]
      · rw [unq_escBad _ _ _ d1 d2 (fun e => d3 (.inl e)) (fun e => d3 (.inr e)), if_neg d1, if_neg d2, if_neg d3]
/-- How much of the line is left. -/
def restLen (g : Nat) (w : World) : Nat := match w.cell? ⟨g, 0, none⟩ with
  | some (.string s) => s.size
  | _ => 0

set_option maxRecDepth 100000 in
set_option maxHeartbeats 2000000 in
/-- **quoted, behind the mark.** -/
theorem quoted_calls (g : Nat) (s : List UInt8) (w : World) (hg : g < w.heap.size) (hl : s.length < 4398046511104) (h10 : (10 : UInt8) ∉ s) (hc : w.cell? ⟨g, 0, none⟩ = some (.string ⟨s.toArray⟩)) (hf : w.frozen? ⟨g, 0, none⟩ = false) :
    Calls Tryd.prog 66 #[.pointer (some ⟨g, 0, none⟩)] w fun e w' => ((∃ a r, unqd s = some (a, r) ∧ e = .returned (.string ⟨a.toArray⟩) ∧ w'.cell? ⟨g, 0, none⟩ = some (.string ⟨r.toArray⟩) ∧ w'.frozen? ⟨g, 0, none⟩ = false) ∨ (unqd s = none ∧ e = Ending.panicked [{ v := Value.iface 29 (Value.int IntKind.i64 70), recovered := false }])) ∧ KeepP (fun k => k = g) w w' := by
  by_cases hh : s.head? = some 34
  · obtain ⟨t, rfl⟩ : ∃ t, s = 34 :: t := by
      cases s with
      | nil => simp at hh
      | cons c t => simp at hh; exact ⟨t, by rw [hh]⟩
    simp only [List.length_cons] at hl
    have WC : Hid (Calls Tryd.prog 65 #[.pointer (some ⟨g, 0, none⟩), .string ⟨#[34]⟩] w fun e w' => e = .returned (.tuple #[]) ∧ w.setCell ⟨g, 0, none⟩ (.string ⟨t.toArray⟩) = w') := (want_yes g 34 t w (by omega) hc hf).mono fun e w' h => ⟨h.1, h.2.symm⟩
    obtain ⟨W1, hW1⟩ : ∃ W1, w.setCell ⟨g, 0, none⟩ (.string ⟨t.toArray⟩) = W1 := ⟨_, rfl⟩
    rw [hW1] at WC
    have hg1 : g < W1.heap.size := by rw [← hW1]; simpa [World.setCell] using hg
    have HK1 : Hid (KeepP (fun k => k = g) w W1) := by rw [← hW1]; exact (KeepP.refl _ w).setCell g 0 _ rfl
    have hc1 : W1.cell? ⟨g, 0, none⟩ = some (.string ⟨t.toArray⟩) := by rw [← hW1]; exact C.cs_same hc
    have hf1 : W1.frozen? ⟨g, 0, none⟩ = false := by rw [← hW1]; rw [World.frozen?_setCell]; exact hf
    have H10 : Hid ((10 : UInt8) ∉ t) := fun h => h10 (List.mem_cons_of_mem _ h)
    clear hc hf hh h10 hg hW1
    obtain ⟨W0, hW0⟩ : ∃ W0, W1.alloc (.cells #[.pointer none, .slice none 0 0] 62) = W0 := ⟨_, rfl⟩
    have b0 : Below W1.heap.size W1 W0 := by rw [← hW0]; exact (Below.refl _ W1).alloc (Nat.le_refl _) _
    have H0 : Hid (Bld W1.heap.size W1.heap.size [] W0) := by rw [← hW0]; exact Bld.new W1
    have HK0 : Hid (KeepP (fun k => k = g) W1 W0) := (KeepP.refl _ W1).then b0
    have hc0 : W0.cell? ⟨g, 0, none⟩ = some (.string ⟨t.toArray⟩) := (b0.cell (p := ⟨g, 0, none⟩) hg1).trans hc1
    have hf0 : W0.frozen? ⟨g, 0, none⟩ = false := (b0.frozen (p := ⟨g, 0, none⟩) hg1).trans hf1
    have HR : Hid (unqd (34 :: t) = unq [] t) := rfl
    clear b0 hc1 hf1
    go_enter Tryd.func66, Tryd.ntmps66
    go_wp2_with (go_at_call 65; refine WC.out.mono ?_; rintro e w2 ⟨rfl, rfl⟩)
    go_loopw [4] (fun _ wr => ∃ (x l : List UInt8), Hid (wr.cell? ⟨g, 0, none⟩ = some (.string ⟨x.toArray⟩)) ∧ Hid (wr.frozen? ⟨g, 0, none⟩ = false) ∧ Hid (Bld W1.heap.size W1.heap.size l wr) ∧ Hid (KeepP (fun k => k = g) W1 wr) ∧ Hid (unq l x = unq [] t) ∧ Hid (l.length + x.length ≤ t.length) ∧ Hid ((10 : UInt8) ∉ x)) (fun _ wr => restLen g wr)
    case atStart => exact ⟨t, [], hc0, hf0, H0, HK0, rfl, by show _ ≤ _; simp, H10⟩
    case round =>
      obtain ⟨x, l, hcx, hfx, hB, hK, hU, hL, hN⟩ := hrel
      have hcx' := hcx.out
      have hfx' := hfx.out
      have hsz := hK.out.size
      cases x with
      | nil =>
        have NC : Hid (Calls Tryd.prog 78 #[.pointer (some ⟨g, 0, none⟩)] wr fun e w' => e = Ending.panicked [{ v := Value.iface 29 (Value.int IntKind.i64 70), recovered := false }] ∧ wr = w') := (next_none g wr hcx').mono fun e w' h => ⟨h.1, h.2.symm⟩
        have HF : Hid (unqd (34 :: t) = none) := by show _ = _; rw [HR.out, ← hU.out, unq_nil]
        clear hcx' hfx'
        go_wp2_with (go_at_call 78; refine NC.out.mono ?_; rintro e w2 ⟨rfl, rfl⟩)
        exact ⟨rfl, .inr ⟨HF.out, rfl⟩, HK1.out.trans hK.out⟩
      | cons c r =>
        have hl2 := hL.out
        simp only [List.length_cons] at hl2
        have NC : Hid (Calls Tryd.prog 78 #[.pointer (some ⟨g, 0, none⟩)] wr fun e w' => e = .returned (.int .u8 c.toNat) ∧ wr.setCell ⟨g, 0, none⟩ (.string ⟨r.toArray⟩) = w') := (next_some g c r wr (by omega) hcx' hfx').mono fun e w' h => ⟨h.1, h.2.symm⟩
        obtain ⟨W2, hW2⟩ : ∃ W2, wr.setCell ⟨g, 0, none⟩ (.string ⟨r.toArray⟩) = W2 := ⟨_, rfl⟩
        have hr0 : restLen g wr = r.length + 1 := by unfold restLen; rw [hcx']; simp [ByteArray.size]
        have hc2 : W2.cell? ⟨g, 0, none⟩ = some (.string ⟨r.toArray⟩) := by rw [← hW2]; exact C.cs_same hcx'
        have hf2 : W2.frozen? ⟨g, 0, none⟩ = false := by rw [← hW2]; rw [World.frozen?_setCell]; exact hfx'
        have hB2 : Hid (Bld W1.heap.size W1.heap.size l W2) := by rw [← hW2]; exact hB.out.low hg1 0 _
        have hK2 : Hid (KeepP (fun k => k = g) W1 W2) := by rw [← hW2]; exact hK.out.setCell g 0 _ rfl
        rw [hW2] at NC
        clear hW2 hcx' hfx' hsz
        have hsz2 := hK2.out.size
        have HN2 : Hid ((10 : UInt8) ∉ r) := fun h => hN.out (List.mem_cons_of_mem _ h)
        have hc10 : c ≠ 10 := fun h => hN.out (by rw [h]; simp)
        have e9 := u8_beq c 9 (by omega)
        have e34 := u8_beq c 34 (by omega)
        have e92 := u8_beq c 92 (by omega)
        have HR0 : Hid (restLen g wr = r.length + 1) := hr0
        clear hr0
        by_cases c34 : c = 34
        · have q34 : ((c.toNat : Int) == 34) = true := by rw [show (34 : Int) = ((34 : Nat) : Int) from rfl, e34]; simpa using c34
          have HF : Hid (unqd (34 :: t) = some (l, r)) := by show _ = _; rw [HR.out, ← hU.out, c34, unq_end]
          have SC : Hid (Calls Tryd.prog 36 #[.pointer (some ⟨W1.heap.size, 0, none⟩)] W2 fun e w' => e = .returned (.string ⟨l.toArray⟩) ∧ Below W1.heap.size W2 w') := (string_calls W1.heap.size W1.heap.size l W2 hB2.out hsz2).mono fun e w' h => ⟨h.1, h.2.2.1⟩
          have HC2 : Hid (W2.cell? ⟨g, 0, none⟩ = some (.string ⟨r.toArray⟩) ∧ W2.frozen? ⟨g, 0, none⟩ = false) := ⟨hc2, hf2⟩
          clear e9 e34 e92 c34 hc10 hc2 hf2
          go_wp2_with (first | (go_at_call 78; refine NC.out.mono ?_; rintro e w2 ⟨rfl, rfl⟩) | (go_at_call 36; refine SC.out.mono ?_; rintro e w3 ⟨rfl, hb3⟩))
          all_goals go_ret
          all_goals exact ⟨.inl ⟨l, r, HF.out, rfl, (hb3.cell (p := ⟨g, 0, none⟩) hg1).trans HC2.out.1, (hb3.frozen (p := ⟨g, 0, none⟩) hg1).trans HC2.out.2⟩, (HK1.out.trans hK2.out).then (hb3.mono HK1.out.size)⟩
        have q34 : ((c.toNat : Int) == 34) = false := by rw [show (34 : Int) = ((34 : Nat) : Int) from rfl, e34]; simpa using c34
        by_cases c92 : c = 92
        · have q92 : ((c.toNat : Int) == 92) = true := by rw [show (92 : Int) = ((92 : Nat) : Int) from rfl, e92]; simpa using c92
          cases r with
          | nil =>
            have HF : Hid (unqd (34 :: t) = none) := by show _ = _; rw [HR.out, ← hU.out, c92, unq_escNil]
            have EC : Hid (Calls Tryd.prog 79 #[.pointer (some ⟨g, 0, none⟩)] W2 fun e w' => e = Ending.panicked [{ v := Value.iface 29 (Value.int IntKind.i64 70), recovered := false }] ∧ W2 = w') := (escaped_none g W2 hc2).mono fun e w' h => ⟨h.1, h.2.symm⟩
            clear e9 e34 e92 c34 hc10 hc2 hf2 c92
            go_wp2_with (first | (go_at_call 78; refine NC.out.mono ?_; rintro e w2 ⟨rfl, rfl⟩) | (go_at_call 79; refine EC.out.mono ?_; rintro e w2 ⟨rfl, rfl⟩))
            all_goals exact ⟨rfl, .inr ⟨HF.out, rfl⟩, HK1.out.trans hK2.out⟩
          | cons d r =>
            simp only [List.length_cons] at hl2
            have EC : Hid (Calls Tryd.prog 79 #[.pointer (some ⟨g, 0, none⟩)] W2 fun e w' => ((∃ x, escB d = some x ∧ e = .returned (.int .u8 x.toNat)) ∨ (escB d = none ∧ e = Ending.panicked [{ v := Value.iface 29 (Value.int IntKind.i64 70), recovered := false }])) ∧ W2.setCell ⟨g, 0, none⟩ (.string ⟨r.toArray⟩) = w') := (escaped_some g d r W2 (by omega) hc2 hf2).mono fun e w' h => ⟨h.1, h.2.symm⟩
            obtain ⟨W3, hW3⟩ : ∃ W3, W2.setCell ⟨g, 0, none⟩ (.string ⟨r.toArray⟩) = W3 := ⟨_, rfl⟩
            have hc3 : W3.cell? ⟨g, 0, none⟩ = some (.string ⟨r.toArray⟩) := by rw [← hW3]; exact C.cs_same hc2
            have hf3 : W3.frozen? ⟨g, 0, none⟩ = false := by rw [← hW3]; rw [World.frozen?_setCell]; exact hf2
            have hB3 : Hid (Bld W1.heap.size W1.heap.size l W3) := by rw [← hW3]; exact hB2.out.low hg1 0 _
            have hK3 : Hid (KeepP (fun k => k = g) W1 W3) := by rw [← hW3]; exact hK2.out.setCell g 0 _ rfl
            rw [hW3] at EC
            clear hW3
            have hsz3 := hK3.out.size
            cases hE : escB d with
            | none =>
              have HF : Hid (unqd (34 :: t) = none) := by show _ = _; rw [HR.out, ← hU.out, c92, unq_esc, hE]
              have EC' : Hid (Calls Tryd.prog 79 #[.pointer (some ⟨g, 0, none⟩)] W2 fun e w' => e = Ending.panicked [{ v := Value.iface 29 (Value.int IntKind.i64 70), recovered := false }] ∧ W3 = w') := EC.out.mono fun e w' h => ⟨by rcases h.1 with ⟨x, h1, _⟩ | ⟨_, h2⟩; (rw [hE] at h1; cases h1); exact h2, h.2⟩
              clear e9 e34 e92 c34 hc10 hc2 hf2 c92 EC
              go_wp2_with (first | (go_at_call 78; refine NC.out.mono ?_; rintro e w2 ⟨rfl, rfl⟩) | (go_at_call 79; refine EC'.out.mono ?_; rintro e w2 ⟨rfl, rfl⟩))
              all_goals exact ⟨rfl, .inr ⟨HF.out, rfl⟩, HK1.out.trans hK3.out⟩
            | some z =>
              have HU3 : Hid (unq (l ++ [z]) r = unq [] t) := by show _ = _; rw [← hU.out, c92, unq_esc, hE]
              have EC' : Hid (Calls Tryd.prog 79 #[.pointer (some ⟨g, 0, none⟩)] W2 fun e w' => e = .returned (.int .u8 z.toNat) ∧ W3 = w') := EC.out.mono fun e w' h => ⟨by rcases h.1 with ⟨x, h1, h2⟩ | ⟨h1, _⟩; (rw [hE] at h1; cases h1; exact h2); (rw [hE] at h1; cases h1), h.2⟩
              have SC : Hid (Calls Tryd.prog 38 #[.pointer (some ⟨W1.heap.size, 0, none⟩), .int .u8 z.toNat] W3 fun e w' => e = .returned .nilIface ∧ Bld W1.heap.size W1.heap.size (l ++ [z]) w' ∧ Below W1.heap.size W3 w') := (writeByte_calls W1.heap.size W1.heap.size l z _ rfl W3 hB3.out (by omega) hsz3).mono fun e w' h => ⟨h.1, h.2.1, h.2.2.1⟩
              have HC3 : Hid (W3.cell? ⟨g, 0, none⟩ = some (.string ⟨r.toArray⟩) ∧ W3.frozen? ⟨g, 0, none⟩ = false) := ⟨hc3, hf3⟩
              have HL3 : Hid ((l ++ [z]).length + r.length ≤ t.length) := by show _ ≤ _; simp; omega
              have HN3 : Hid ((10 : UInt8) ∉ r) := fun h => HN2.out (List.mem_cons_of_mem _ h)
              clear e9 e34 e92 c34 hc10 hc2 hf2 c92 EC hc3 hf3 hE
              go_wp2_with (first | (go_at_call 78; refine NC.out.mono ?_; rintro e w2 ⟨rfl, rfl⟩) | (go_at_call 79; refine EC'.out.mono ?_; rintro e w2 ⟨rfl, rfl⟩) | (go_at_call 38; refine SC.out.mono ?_; rintro e w4 ⟨rfl, hB4, hb4⟩))
              have hc4 := (hb4.cell (p := ⟨g, 0, none⟩) hg1).trans HC3.out.1
              have HM : Hid (restLen g w4 < restLen g wr) := by show _ < _; rw [HR0.out]; unfold restLen; rw [hc4]; simp [ByteArray.size]; omega
              have HREL : Hid (∃ (x l : List UInt8), Hid (w4.cell? ⟨g, 0, none⟩ = some (.string ⟨x.toArray⟩)) ∧ Hid (w4.frozen? ⟨g, 0, none⟩ = false) ∧ Hid (Bld W1.heap.size W1.heap.size l w4) ∧ Hid (KeepP (fun k => k = g) W1 w4) ∧ Hid (unq l x = unq [] t) ∧ Hid (l.length + x.length ≤ t.length) ∧ Hid ((10 : UInt8) ∉ x)) := ⟨r, l ++ [z], hc4, (hb4.frozen (p := ⟨g, 0, none⟩) hg1).trans HC3.out.2, hB4, hK3.out.then hb4, HU3, HL3, HN3⟩
              clear hc4 hB4 hb4
              all_goals first
                | exact ⟨HREL.out, HM.out⟩
                | (go_roundw
                   case rel => exact HREL.out
                   case measure => exact HM.out)
        have q92 : ((c.toNat : Int) == 92) = false := by rw [show (92 : Int) = ((92 : Nat) : Int) from rfl, e92]; simpa using c92
        by_cases c9 : c = 9
        · have q9 : ((c.toNat : Int) == 9) = true := by rw [show (9 : Int) = ((9 : Nat) : Int) from rfl, e9]; simpa using c9
          have HF : Hid (unqd (34 :: t) = none) := by show _ = _; rw [HR.out, ← hU.out, unq_bad _ _ _ (.inl c9)]
          clear e9 e34 e92 c34 hc10 hc2 hf2 c9 c92
          go_wp2_with (first | (go_at_call 78; refine NC.out.mono ?_; rintro e w2 ⟨rfl, rfl⟩) | (go_at_call 68; refine (giveUp_calls _).mono ?_; rintro e w2 ⟨rfl, h2⟩; obtain rfl := h2.symm))
          all_goals exact ⟨rfl, .inr ⟨HF.out, rfl⟩, HK1.out.trans hK2.out⟩
        have q9 : ((c.toNat : Int) == 9) = false := by rw [show (9 : Int) = ((9 : Nat) : Int) from rfl, e9]; simpa using c9
        have HU2 : Hid (unq (l ++ [c]) r = unq [] t) := by show _ = _; rw [← hU.out, unq_else _ _ _ c34 c9 hc10 c92]
        have SC : Hid (Calls Tryd.prog 38 #[.pointer (some ⟨W1.heap.size, 0, none⟩), .int .u8 c.toNat] W2 fun e w' => e = .returned .nilIface ∧ Bld W1.heap.size W1.heap.size (l ++ [c]) w' ∧ Below W1.heap.size W2 w') := (writeByte_calls W1.heap.size W1.heap.size l c _ rfl W2 hB2.out (by omega) hsz2).mono fun e w' h => ⟨h.1, h.2.1, h.2.2.1⟩
        have HC2 : Hid (W2.cell? ⟨g, 0, none⟩ = some (.string ⟨r.toArray⟩) ∧ W2.frozen? ⟨g, 0, none⟩ = false) := ⟨hc2, hf2⟩
        have HL2 : Hid ((l ++ [c]).length + r.length ≤ t.length) := by show _ ≤ _; simp; omega
        clear e9 e34 e92 c34 hc10 hc2 hf2 c9 c92
        go_wp2_with (first | (go_at_call 78; refine NC.out.mono ?_; rintro e w2 ⟨rfl, rfl⟩) | (go_at_call 38; refine SC.out.mono ?_; rintro e w3 ⟨rfl, hB3, hb3⟩))
        have hc3 := (hb3.cell (p := ⟨g, 0, none⟩) hg1).trans HC2.out.1
        have HM : Hid (restLen g w3 < restLen g wr) := by show _ < _; rw [HR0.out]; unfold restLen; rw [hc3]; simp [ByteArray.size]
        have HREL : Hid (∃ (x l : List UInt8), Hid (w3.cell? ⟨g, 0, none⟩ = some (.string ⟨x.toArray⟩)) ∧ Hid (w3.frozen? ⟨g, 0, none⟩ = false) ∧ Hid (Bld W1.heap.size W1.heap.size l w3) ∧ Hid (KeepP (fun k => k = g) W1 w3) ∧ Hid (unq l x = unq [] t) ∧ Hid (l.length + x.length ≤ t.length) ∧ Hid ((10 : UInt8) ∉ x)) := ⟨r, l ++ [c], hc3, (hb3.frozen (p := ⟨g, 0, none⟩) hg1).trans HC2.out.2, hB3, hK2.out.then hb3, HU2, HL2, HN2⟩
        clear hc3 hB3 hb3
        all_goals first
          | exact ⟨HREL.out, HM.out⟩
          | (go_roundw
             case rel => exact HREL.out
             case measure => exact HM.out)
  · go_enter Tryd.func66, Tryd.ntmps66
    go_wp2_with (go_at_call 65; refine (want_no g 34 s w hl hh hc hf).mono ?_; rintro e w2 ⟨rfl, rfl⟩)
    exact ⟨rfl, .inr ⟨unqd_no s hh, rfl⟩, (KeepP.refl _ w).setCell g 0 _ rfl⟩
end Go.Proofs.YtelfejbhlolppaaDoor.T
