/- What is proved here: the contract of behindName of token's reader. -/
import Derived.Test.YtelfejbhlolppaaDoorTQuoted
namespace Go.Proofs.YtelfejbhlolppaaDoor.T
open Go.RowKit N

theorem KeepP.gb {g : Nat} {w w' : World} (h : KeepP (fun k => k = g) w w') : w.grownBy w' (some g) := ⟨h.os, h.tape, h.output, h.size, fun k hk hn => h.block k hk (fun e => hn (by rw [e]))⟩

/-- A start tag's attributes, and whether it ends with the sign. -/
def attrsP : Nat → AL → List UInt8 → Option (AL × Bool × List UInt8)
  | 0, _, _ => none
  | n + 1, l, s =>
    if s.head? = some 32 then
      if s.tail.head? = some 47 then some (l, true, s.tail.tail)
      else match unqd s.tail with
        | none => none
        | some (a, r1) =>
          if r1.head? = some 61 then
            match unqd r1.tail with
            | none => none
            | some (b, r2) => attrsP n (l ++ [(⟨a.toArray⟩, ⟨b.toArray⟩)]) r2
          else none
    else some (l, false, s)
theorem attrsP_end (n : Nat) (l : AL) (s : List UInt8) (h : s.head? ≠ some 32) : attrsP (n + 1) l s = some (l, false, s) := by rw [attrsP, if_neg h]
theorem attrsP_self (n : Nat) (l : AL) (r : List UInt8) : attrsP (n + 1) l (32 :: 47 :: r) = some (l, true, r) := by rw [attrsP]; simp
theorem attrsP_attr (n : Nat) (l : AL) (r : List UInt8) (h : r.head? ≠ some 47) : attrsP (n + 1) l (32 :: r) = match unqd r with
    | none => none
    | some (a, r1) => if r1.head? = some 61 then match unqd r1.tail with | none => none | some (b, r2) => attrsP n (l ++ [(⟨a.toArray⟩, ⟨b.toArray⟩)]) r2 else none := by
  rw [attrsP]; simp [h]
theorem unqd_len {s a r : List UInt8} (h : unqd s = some (a, r)) : r.length < s.length ∧ a.length + r.length ≤ s.length ∧ (∀ c ∈ r, c ∈ s) := by
  cases s with
  | nil => cases h
  | cons c t =>
    by_cases hc : c = 34
    · subst hc
      obtain ⟨h1, h2, h3⟩ := unq_len t.length [] t a r (Nat.le_refl _) h
      simp at h2 ⊢
      exact ⟨by omega, by omega, fun c hc => .inr (h3 c hc)⟩
    · rw [unqd_no _ (by simpa using hc)] at h; cases h

theorem own_far {w0 w : World} {v : Value} {l : AL} {g : Nat} (h : OwnA w0.heap.size w v l) (hg : g < w0.heap.size) : v.ownBlock = none ∨ v.ownBlock ≠ some g := by
  rcases hv : v.ownBlock with _ | k
  · exact .inl rfl
  · right; intro e; simp at e; have := World.ownsRow.lt h k hv; omega
/-- The reader at a rest of the line; all else is as it was. -/
structure Fr (g : Nat) (w W : World) (s : List UInt8) : Prop where
  cell : W.cell? ⟨g, 0, none⟩ = some (.string ⟨s.toArray⟩)
  fz : W.frozen? ⟨g, 0, none⟩ = false
  keep : KeepP (fun k => k = g) w W
theorem Fr.set {g : Nat} {w W : World} {s : List UInt8} (h : Fr g w W s) (r : List UInt8) : Fr g w (W.setCell ⟨g, 0, none⟩ (.string ⟨r.toArray⟩)) r :=
  ⟨C.cs_same h.cell, by rw [World.frozen?_setCell]; exact h.fz, h.keep.setCell g 0 _ rfl⟩
theorem KeepP.gt {g : Nat} {w A B : World} (h : KeepP (fun k => k = g) w A) {row : Option Nat} (k : A.grownBy B row) (hr : ∀ j, row = some j → w.heap.size ≤ j) : KeepP (fun k => k = g) w B :=
  ⟨k.os.trans h.os, k.tape.trans h.tape, k.output.trans h.output, Nat.le_trans h.size k.size, fun j hj hp => (k.block j (Nat.lt_of_lt_of_le hj h.size) (fun e => by have := hr j e.symm; omega)).trans (h.block j hj hp)⟩
theorem Fr.gt {g : Nat} {w A B : World} {s : List UInt8} (h : Fr g w A s) (hg : g < w.heap.size) {row : Option Nat} (k : A.grownBy B row) (hr : ∀ j, row = some j → w.heap.size ≤ j) : Fr g w B s := by
  have hne : row ≠ some g := fun e => by have := hr g e; omega
  have hb : B.heap[g]? = A.heap[g]? := k.block g (Nat.lt_of_lt_of_le hg h.keep.size) (fun e => hne e.symm)
  refine ⟨?_, ?_, h.keep.gt k hr⟩
  · rw [← h.cell]; exact World.cell?_of_block hb
  · rw [← h.fz]; exact World.frozen?_of_block hb
theorem set_block {w : World} {g : Nat} {cs : Array Value} {ty : TypeId} {fz : Nat × Nat} (h : w.heap[g]? = some (.cells cs ty fz)) (j : Nat) (u : Value) : (w.setCell ⟨g, j, none⟩ u).heap[g]? = some (.cells (cs.setIfInBounds j u) ty fz) := by
  simp [World.setCell, Array.getElem?_modify, h]
theorem cells_two (W : World) (a b : ByteArray) (ty : TypeId) (n : Nat) (hn : n = W.heap.size) : ∀ j u, [Value.string a, .string b][j]? = some u → (W.alloc (.cells #[.string a, .string b] ty)).cell? ((⟨n, 0, none⟩ : Addr).add j) = some u := by
  intro j u h
  subst hn
  rw [C.add_none, Nat.zero_add, C.cell_new]
  rw [← h]; simp
theorem avs_snoc (l : AL) (a b : ByteArray) : avs (l ++ [(a, b)]) = avs l ++ [.string a, .string b] := by unfold avs; simp

set_option maxRecDepth 100000 in
set_option maxHeartbeats 4000000 in
/-- **behindName.** -/
theorem behind_calls (g : Nat) (s : List UInt8) (w : World) (hg : g < w.heap.size) (hl : s.length ≤ 100000000) (h10 : (10 : UInt8) ∉ s) (hc : w.cell? ⟨g, 0, none⟩ = some (.string ⟨s.toArray⟩)) (hf : w.frozen? ⟨g, 0, none⟩ = false) :
    Calls Tryd.prog 67 #[.pointer (some ⟨g, 0, none⟩)] w fun e w' => (∃ l b r v, attrsP (s.length + 1) [] s = some (l, b, r) ∧ e = .returned (.tuple #[v, .bool b]) ∧ OwnA w.heap.size w' v l ∧ Fr g w w' r) ∨ (attrsP (s.length + 1) [] s = none ∧ e = Ending.panicked [{ v := Value.iface 29 (Value.int IntKind.i64 70), recovered := false }] ∧ KeepP (fun k => k = g) w w') := by
  obtain ⟨i0, hi, hz0, hz1, hz2⟩ := info_parts infoAttr
  have HI : Hid (Tryd.prog.info? 36 = some i0 ∧ i0.zero = some (.agg #[.string ⟨#[]⟩, .string ⟨#[]⟩]) ∧ i0.size = 2 ∧ i0.bytes = 32) := ⟨hi, hz0, hz1, hz2⟩
  clear hi hz0 hz1 hz2
  have HF0 : Hid (Fr g w w s) := ⟨hc, hf, KeepP.refl _ _⟩
  have H10 : Hid ((10 : UInt8) ∉ s) := h10
  have HG : Hid (g < w.heap.size) := hg
  obtain ⟨R, hR⟩ : ∃ R, attrsP (s.length + 1) [] s = R := ⟨_, rfl⟩
  have HR : Hid (attrsP (s.length + 1) [] s = R) := hR
  rw [hR]
  clear hc hf h10 hR
  go_enter Tryd.func67, Tryd.ntmps67
  go_wp2_with fail
  go_loopw [2, 4] (fun v2 _ wr => ∃ (n : Nat) (l : AL) (x : List UInt8), Hid (OwnA w.heap.size wr v2 l) ∧ Hid (Fr g w wr x) ∧ Hid (attrsP n l x = R) ∧ Hid (x.length < n ∧ l.length + x.length ≤ s.length) ∧ Hid ((10 : UInt8) ∉ x)) (fun _ _ wr => restLen g wr)
  case atStart => exact ⟨s.length + 1, [], s, World.ownsRow_nil _ _ _ _, HF0, HR, ⟨by omega, by simp⟩, H10⟩
  case round =>
    obtain ⟨n, l, x, hO, hF, hE, hL, hN⟩ := hrel
    obtain ⟨m, rfl⟩ : ∃ m, n = m + 1 := ⟨n - 1, by have := hL.out; omega⟩
    obtain ⟨va, vc, rfl⟩ := C.owns_slice hO.out
    have hl2 := hL.out.2
    have HM0 : Hid (restLen g wr = x.length) := by show _ = _; unfold restLen; rw [hF.out.cell]; simp [ByteArray.size]
    by_cases hx : x.head? = some 32
    · obtain ⟨y, rfl⟩ : ∃ y, x = 32 :: y := by
        cases x with
        | nil => simp at hx
        | cons c y => simp at hx; exact ⟨y, by rw [hx]⟩
      simp only [List.length_cons] at hl2
      have HN1 : Hid ((10 : UInt8) ∉ y) := fun h => hN.out (List.mem_cons_of_mem _ h)
      have T1 : Hid (Calls Tryd.prog 77 #[.pointer (some ⟨g, 0, none⟩), .string ⟨#[32]⟩] wr fun e w' => e = .returned (.bool true) ∧ wr.setCell ⟨g, 0, none⟩ (.string ⟨y.toArray⟩) = w') := (take_yes g 32 y wr (by omega) hF.out.cell hF.out.fz).mono fun e w' h => ⟨h.1, h.2.symm⟩
      obtain ⟨W1, hW1⟩ : ∃ W1, wr.setCell ⟨g, 0, none⟩ (.string ⟨y.toArray⟩) = W1 := ⟨_, rfl⟩
      have HF1 : Hid (Fr g w W1 y) := by rw [← hW1]; exact hF.out.set y
      have HO1 : Hid (OwnA w.heap.size W1 (.slice va l.length vc) l) := by rw [← hW1]; exact World.ownsRow.kept hO.out (grown_set wr g 0 _) (own_far hO.out HG.out)
      rw [hW1] at T1
      clear hW1 hx
      by_cases hy : y.head? = some 47
      · obtain ⟨r, rfl⟩ : ∃ r, y = 47 :: r := by
          cases y with
          | nil => simp at hy
          | cons c r => simp at hy; exact ⟨r, by rw [hy]⟩
        simp only [List.length_cons] at hl2
        have T2 : Hid (Calls Tryd.prog 77 #[.pointer (some ⟨g, 0, none⟩), .string ⟨#[47]⟩] W1 fun e w' => e = .returned (.bool true) ∧ W1.setCell ⟨g, 0, none⟩ (.string ⟨r.toArray⟩) = w') := (take_yes g 47 r W1 (by omega) HF1.out.cell HF1.out.fz).mono fun e w' h => ⟨h.1, h.2.symm⟩
        obtain ⟨W2, hW2⟩ : ∃ W2, W1.setCell ⟨g, 0, none⟩ (.string ⟨r.toArray⟩) = W2 := ⟨_, rfl⟩
        have HF2 : Hid (Fr g w W2 r) := by rw [← hW2]; exact HF1.out.set r
        have HO2 : Hid (OwnA w.heap.size W2 (.slice va l.length vc) l) := by rw [← hW2]; exact World.ownsRow.kept HO1.out (grown_set W1 g 0 _) (own_far HO1.out HG.out)
        have HE2 : Hid (R = some (l, true, r)) := by show _ = _; rw [← hE.out, attrsP_self]
        rw [hW2] at T2
        clear hW2 hy
        go_wp2_with fail
        refine T1.out.mono ?_
        rintro e w2 ⟨rfl, rfl⟩
        go_wp2_with fail
        refine T2.out.mono ?_
        rintro e w3 ⟨rfl, rfl⟩
        go_wp2
        all_goals go_ret2
        all_goals exact .inl ⟨l, true, r, _, HE2.out, rfl, HO2.out, HF2.out⟩
      · have T2 : Hid (Calls Tryd.prog 77 #[.pointer (some ⟨g, 0, none⟩), .string ⟨#[47]⟩] W1 fun e w' => e = .returned (.bool false) ∧ W1.setCell ⟨g, 0, none⟩ (.string ⟨y.toArray⟩) = w') := (take_no g 47 y W1 (by omega) hy HF1.out.cell HF1.out.fz).mono fun e w' h => ⟨h.1, h.2.symm⟩
        obtain ⟨W2, hW2⟩ : ∃ W2, W1.setCell ⟨g, 0, none⟩ (.string ⟨y.toArray⟩) = W2 := ⟨_, rfl⟩
        have HF2 : Hid (Fr g w W2 y) := by rw [← hW2]; exact HF1.out.set y
        have HO2 : Hid (OwnA w.heap.size W2 (.slice va l.length vc) l) := by rw [← hW2]; exact World.ownsRow.kept HO1.out (grown_set W1 g 0 _) (own_far HO1.out HG.out)
        have HE2 := hE.out
        rw [attrsP_attr _ _ _ hy] at HE2
        rw [hW2] at T2
        clear hW2 hy
        obtain ⟨W3, hW3⟩ : ∃ W3, W2.alloc (.cells #[.string ⟨#[]⟩, .string ⟨#[]⟩] 36) = W3 := ⟨_, rfl⟩
        have hT3 : W3.heap[W2.heap.size]? = some (.cells #[.string ⟨#[]⟩, .string ⟨#[]⟩] 36 (0, 0)) := by rw [← hW3]; exact new_at _ _ _
        have HF3 : Hid (Fr g w W3 y) := by rw [← hW3]; exact HF2.out.gt HG.out (row := none) (World.grownBy_alloc _ _ _) (fun _ e => by cases e)
        have HO3 : Hid (OwnA w.heap.size W3 (.slice va l.length vc) l) := by rw [← hW3]; exact World.ownsRow.alloc HO2.out _
        have s2 := HF2.out.keep.size
        have s23 : W2.heap.size < W3.heap.size := by rw [← hW3]; simp
        have hgw3 : g < W3.heap.size := by have := HG.out; omega
        have QC := quoted_calls g y W3 hgw3 (by omega) HN1.out HF3.out.cell HF3.out.fz
        cases hq : unqd y with
        | none =>
          have HQ : Hid (Calls Tryd.prog 66 #[.pointer (some ⟨g, 0, none⟩)] W3 fun e w' => e = Ending.panicked [{ v := Value.iface 29 (Value.int IntKind.i64 70), recovered := false }] ∧ KeepP (fun k => k = g) W3 w') := QC.mono fun e w' h => ⟨by rcases h.1 with ⟨a, r, h1, _⟩ | ⟨_, h2⟩; (rw [hq] at h1; cases h1); exact h2, h.2⟩
          have HE3 : Hid (R = none) := by show _ = _; rw [← HE2, hq]
          clear QC HE2 hT3 hq
          go_wp2_with fail
          refine T1.out.mono ?_
          rintro e w2 ⟨rfl, rfl⟩
          go_wp2_with fail
          refine T2.out.mono ?_
          rintro e w3 ⟨rfl, rfl⟩
          go_wp2_with fail
          refine HQ.out.mono ?_
          rintro e w4 ⟨rfl, hk4⟩
          go_wp2
          all_goals exact ⟨rfl, .inr ⟨HE3.out, rfl, HF3.out.keep.trans hk4⟩⟩
        | some ar =>
          obtain ⟨a, r1⟩ := ar
          have hu1 := unqd_len hq
          have HQ : Hid (Calls Tryd.prog 66 #[.pointer (some ⟨g, 0, none⟩)] W3 fun e w' => e = .returned (.string ⟨a.toArray⟩) ∧ Fr g W3 w' r1) := QC.mono fun e w' h => by
            rcases h.1 with ⟨a', r', h1, h2, h3, h4⟩ | ⟨h1, _⟩
            · rw [hq] at h1; cases h1; exact ⟨h2, h3, h4, h.2⟩
            · rw [hq] at h1; cases h1
          rw [hq] at HE2
          simp only at HE2
          have HN2 : Hid ((10 : UInt8) ∉ r1) := fun h => HN1.out (hu1.2.2 _ h)
          clear QC hq
          obtain ⟨A, hA⟩ : ∃ A : ByteArray, (⟨a.toArray⟩ : ByteArray) = A := ⟨_, rfl⟩
          rw [hA] at HQ HE2
          clear hA
          go_wp2_with fail
          refine T1.out.mono ?_
          rintro e w2 ⟨rfl, rfl⟩
          go_wp2_with fail
          refine T2.out.mono ?_
          rintro e w3 ⟨rfl, rfl⟩
          go_wp2_with fail
          refine HQ.out.mono ?_
          rintro e w4 ⟨rfl, hF4⟩
          have hgb4 := hF4.keep.gb
          have hT4 : w4.heap[W2.heap.size]? = some (.cells #[.string ⟨#[]⟩, .string ⟨#[]⟩] 36 (0, 0)) := (hF4.keep.block _ s23 (by show ¬ _ = _; have := HG.out; omega)).trans hT3
          have z0 : w4.cell? ⟨W2.heap.size, 0, none⟩ = some (.string ⟨#[]⟩) := cell_at hT4
          have f0 : w4.frozen? ⟨W2.heap.size, 0, none⟩ = false := frozen_at hT4
          have HO4 : Hid (OwnA w.heap.size w4 (.slice va l.length vc) l) := World.ownsRow.kept HO3.out hgb4 (own_far HO3.out HG.out)
          have HF4 : Hid (Fr g w w4 r1) := ⟨hF4.cell, hF4.fz, HF3.out.keep.trans hF4.keep⟩
          have s4 := hF4.keep.size
          clear hF4 hgb4 hT3
          obtain ⟨W5, hW5⟩ : ∃ W5, w4.setCell ⟨W2.heap.size, 0, none⟩ (.string A) = W5 := ⟨_, rfl⟩
          have hg5 : w4.grownBy W5 (some W2.heap.size) := by rw [← hW5]; exact grown_set _ _ _ _
          have HF5 : Hid (Fr g w W5 r1) := HF4.out.gt HG.out hg5 (fun j e => by cases e; omega)
          have hne5 : va = none ∨ (Value.slice va l.length vc).ownBlock ≠ some W2.heap.size := by
            rcases hv : (Value.slice va l.length vc).ownBlock with _ | k
            · right; simp
            · right; intro e; simp at e; have := World.ownsRow.lt HO2.out k hv; omega
          have hne6 : (Value.slice va l.length vc).ownBlock ≠ some W2.heap.size := by
            rcases hv : (Value.slice va l.length vc).ownBlock with _ | k
            · simp
            · intro e; simp at e; have := World.ownsRow.lt HO2.out k hv; omega
          have HNE : Hid ((Value.slice va l.length vc).ownBlock ≠ some W2.heap.size) := hne6
          clear hne5 hne6
          have HO5 : Hid (OwnA w.heap.size W5 (.slice va l.length vc) l) := World.ownsRow.kept HO4.out hg5 (.inr HNE.out)
          have hT5 : W5.heap[W2.heap.size]? = some (.cells #[.string A, .string ⟨#[]⟩] 36 (0, 0)) := by rw [← hW5]; exact set_block hT4 0 _
          have s5 := hg5.size
          by_cases hr : r1.head? = some 61
          · obtain ⟨r, rfl⟩ : ∃ r, r1 = 61 :: r := by
              cases r1 with
              | nil => simp at hr
              | cons c r => simp at hr; exact ⟨r, by rw [hr]⟩
            simp only [List.length_cons] at hu1
            rw [if_pos hr] at HE2
            simp only [List.tail_cons] at HE2
            have HN3 : Hid ((10 : UInt8) ∉ r) := fun h => HN2.out (List.mem_cons_of_mem _ h)
            have T3 : Hid (Calls Tryd.prog 65 #[.pointer (some ⟨g, 0, none⟩), .string ⟨#[61]⟩] W5 fun e w' => e = .returned (.tuple #[]) ∧ W5.setCell ⟨g, 0, none⟩ (.string ⟨r.toArray⟩) = w') := (want_yes g 61 r W5 (by omega) HF5.out.cell HF5.out.fz).mono fun e w' h => ⟨h.1, h.2.symm⟩
            obtain ⟨W6, hW6⟩ : ∃ W6, W5.setCell ⟨g, 0, none⟩ (.string ⟨r.toArray⟩) = W6 := ⟨_, rfl⟩
            have HF6 : Hid (Fr g w W6 r) := by rw [← hW6]; exact HF5.out.set r
            have hg6 : W5.grownBy W6 (some g) := by rw [← hW6]; exact grown_set _ _ _ _
            have HO6 : Hid (OwnA w.heap.size W6 (.slice va l.length vc) l) := World.ownsRow.kept HO5.out hg6 (own_far HO5.out HG.out)
            have hT6 : W6.heap[W2.heap.size]? = some (.cells #[.string A, .string ⟨#[]⟩] 36 (0, 0)) := (hg6.block _ (by omega) (by simp; have := HG.out; omega)).trans hT5
            have s6 := hg6.size
            rw [hW6] at T3
            have QC := quoted_calls g r W6 (by omega) (by omega) HN3.out HF6.out.cell HF6.out.fz
            clear hW6 hr hg6 hg5 hT5 hT4
            cases hq : unqd r with
            | none =>
              have HQ2 : Hid (Calls Tryd.prog 66 #[.pointer (some ⟨g, 0, none⟩)] W6 fun e w' => e = Ending.panicked [{ v := Value.iface 29 (Value.int IntKind.i64 70), recovered := false }] ∧ KeepP (fun k => k = g) W6 w') := QC.mono fun e w' h => ⟨by rcases h.1 with ⟨a, r, h1, _⟩ | ⟨_, h2⟩; (rw [hq] at h1; cases h1); exact h2, h.2⟩
              have HE3 : Hid (R = none) := by show _ = _; rw [← HE2, hq]
              clear QC HE2 hT6 hq
              go_wp2_with fail
              refine T3.out.mono ?_
              rintro e w6 ⟨rfl, rfl⟩
              go_wp2_with fail
              refine HQ2.out.mono ?_
              rintro e w7 ⟨rfl, hk7⟩
              go_wp2
              all_goals exact ⟨rfl, .inr ⟨HE3.out, rfl, HF6.out.keep.trans hk7⟩⟩
            | some br =>
              obtain ⟨b, r2⟩ := br
              have hu2 := unqd_len hq
              have HQ2 : Hid (Calls Tryd.prog 66 #[.pointer (some ⟨g, 0, none⟩)] W6 fun e w' => e = .returned (.string ⟨b.toArray⟩) ∧ Fr g W6 w' r2) := QC.mono fun e w' h => by
                rcases h.1 with ⟨a', r', h1, h2, h3, h4⟩ | ⟨h1, _⟩
                · rw [hq] at h1; cases h1; exact ⟨h2, h3, h4, h.2⟩
                · rw [hq] at h1; cases h1
              rw [hq] at HE2
              simp only at HE2
              have HN4 : Hid ((10 : UInt8) ∉ r2) := fun h => HN3.out (hu2.2.2 _ h)
              obtain ⟨B, hB⟩ : ∃ B : ByteArray, (⟨b.toArray⟩ : ByteArray) = B := ⟨_, rfl⟩
              rw [hB] at HQ2 HE2
              have HE3 : Hid (attrsP m (l ++ [(A, B)]) r2 = R) := HE2
              have HL3 : Hid (r2.length < m ∧ (l ++ [(A, B)]).length + r2.length ≤ s.length) := by
                have := hL.out
                simp only [List.length_cons] at this
                refine ⟨by omega, ?_⟩
                simp only [List.length_append, List.length_cons, List.length_nil]; omega
              clear QC hB hq HE2
              go_wp2_with fail
              refine T3.out.mono ?_
              rintro e w6 ⟨rfl, rfl⟩
              go_wp2_with fail
              refine HQ2.out.mono ?_
              rintro e w7 ⟨rfl, hF7⟩
              have hgb7 := hF7.keep.gb
              have hT7 : w7.heap[W2.heap.size]? = some (.cells #[.string A, .string ⟨#[]⟩] 36 (0, 0)) := (hF7.keep.block _ (by omega) (by show ¬ _ = _; have := HG.out; omega)).trans hT6
              have z0 : w7.cell? ⟨W2.heap.size, 0, none⟩ = some (.string A) := cell_at hT7
              have z1 : w7.cell? ⟨W2.heap.size, 1, none⟩ = some (.string ⟨#[]⟩) := cell_at hT7
              have f1 : w7.frozen? ⟨W2.heap.size, 1, none⟩ = false := frozen_at hT7
              have HO7 : Hid (OwnA w.heap.size w7 (.slice va l.length vc) l) := World.ownsRow.kept HO6.out hgb7 (own_far HO6.out HG.out)
              have HF7 : Hid (Fr g w w7 r2) := ⟨hF7.cell, hF7.fz, HF6.out.keep.trans hF7.keep⟩
              have s7 := hF7.keep.size
              clear hF7 hgb7
              obtain ⟨W8, hW8⟩ : ∃ W8, w7.setCell ⟨W2.heap.size, 1, none⟩ (.string B) = W8 := ⟨_, rfl⟩
              have hg8 : w7.grownBy W8 (some W2.heap.size) := by rw [← hW8]; exact grown_set _ _ _ _
              have HF8 : Hid (Fr g w W8 r2) := HF7.out.gt HG.out hg8 (fun j e => by cases e; omega)
              have HO8 : Hid (OwnA w.heap.size W8 (.slice va l.length vc) l) := World.ownsRow.kept HO7.out hg8 (.inr HNE.out)
              have hT8 : W8.heap[W2.heap.size]? = some (.cells #[.string A, .string B] 36 (0, 0)) := by rw [← hW8]; exact set_block hT7 1 _
              have y0 : W8.cell? ⟨W2.heap.size, 0, none⟩ = some (.string A) := cell_at hT8
              have y1 : W8.cell? ⟨W2.heap.size, 1, none⟩ = some (.string B) := cell_at hT8
              have s8 := hg8.size
              clear hg8 hT8 hT7 hT6
              go_wp2_with (at_builtin; refine wpList_append_own _ rfl _ _ 24 rfl w.heap.size 36 i0 (.agg #[.string ⟨#[]⟩, .string ⟨#[]⟩]) 2 32 Tryd.underlying24 HI.out.1 HI.out.2.1 HI.out.2.2.1 HI.out.2.2.2 rfl (by decide) _ _ _ rfl (World.ownsRow.alloc HO8.out _) ⟨W8.heap.size, 0, none⟩ 1 1 [.string A, .string B] rfl rfl (cells_two _ A B _ _ rfl) (by intro u hu; simp at hu; rcases hu with rfl | rfl <;> rfl) (by unfold maxLen; omega) (by omega) (by simp; omega) ?_; intro v9 w9 ho9 hg9 _; obtain ⟨a9, c9, rfl⟩ := C.owns_slice ho9)
              have HO9 : Hid (OwnA w.heap.size w9 (.slice a9 (l.length + 1) c9) (l ++ [(A, B)])) := by
                show World.ownsRow _ _ _ _ _ _ _
                rw [avs_snoc]
                simpa using ho9
              have HF9 : Hid (Fr g w w9 r2) := (HF8.out.gt HG.out (row := none) (World.grownBy_alloc _ _ _) (fun _ e => by cases e)).gt HG.out hg9 (fun j e => (World.ownsRow.lt HO8.out j e).1)
              have HM9 : Hid (restLen g w9 < restLen g wr) := by
                show _ < _
                rw [HM0.out]
                unfold restLen
                rw [HF9.out.cell]
                simp [ByteArray.size]
                omega
              clear ho9 hg9
              all_goals first
                | exact ⟨⟨m, l ++ [(A, B)], r2, HO9, HF9, HE3, HL3, HN4⟩, HM9.out⟩
                | (go_roundw
                   case rel => exact ⟨m, l ++ [(A, B)], r2, HO9, HF9, HE3, HL3, HN4⟩
                   case measure => exact HM9.out)
          · rw [if_neg hr] at HE2
            have HE3 : Hid (R = none) := HE2.symm
            have T3 : Hid (Calls Tryd.prog 65 #[.pointer (some ⟨g, 0, none⟩), .string ⟨#[61]⟩] W5 fun e w' => e = Ending.panicked [{ v := Value.iface 29 (Value.int IntKind.i64 70), recovered := false }] ∧ W5.setCell ⟨g, 0, none⟩ (.string ⟨r1.toArray⟩) = w') := (want_no g 61 r1 W5 (by omega) hr HF5.out.cell HF5.out.fz).mono fun e w' h => ⟨h.1, h.2.symm⟩
            have HF6 : Hid (Fr g w (W5.setCell ⟨g, 0, none⟩ (.string ⟨r1.toArray⟩)) r1) := HF5.out.set r1
            clear HE2 hr hT5 hT4 hg5
            go_wp2_with fail
            refine T3.out.mono ?_
            rintro e w6 ⟨rfl, rfl⟩
            go_wp2
            all_goals exact ⟨rfl, .inr ⟨HE3.out, rfl, HF6.out.keep⟩⟩
    · have T1 : Hid (Calls Tryd.prog 77 #[.pointer (some ⟨g, 0, none⟩), .string ⟨#[32]⟩] wr fun e w' => e = .returned (.bool false) ∧ wr.setCell ⟨g, 0, none⟩ (.string ⟨x.toArray⟩) = w') := (take_no g 32 x wr (by omega) hx hF.out.cell hF.out.fz).mono fun e w' h => ⟨h.1, h.2.symm⟩
      obtain ⟨W1, hW1⟩ : ∃ W1, wr.setCell ⟨g, 0, none⟩ (.string ⟨x.toArray⟩) = W1 := ⟨_, rfl⟩
      have HF1 : Hid (Fr g w W1 x) := by rw [← hW1]; exact hF.out.set x
      have HO1 : Hid (OwnA w.heap.size W1 (.slice va l.length vc) l) := by rw [← hW1]; exact World.ownsRow.kept hO.out (grown_set wr g 0 _) (own_far hO.out HG.out)
      have HE2 : Hid (R = some (l, false, x)) := by show _ = _; rw [← hE.out, attrsP_end _ _ _ hx]
      rw [hW1] at T1
      clear hW1 hx
      go_wp2_with fail
      refine T1.out.mono ?_
      rintro e w2 ⟨rfl, rfl⟩
      go_wp2
      all_goals go_ret2
      all_goals exact .inl ⟨l, false, x, _, HE2.out, rfl, HO1.out, HF1.out⟩
end Go.Proofs.YtelfejbhlolppaaDoor.T
