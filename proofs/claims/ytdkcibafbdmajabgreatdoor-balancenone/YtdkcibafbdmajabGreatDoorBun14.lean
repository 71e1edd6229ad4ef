/- What is proved here: laws and contracts of Lend, Same, Clone, Good, one behind the other (each says its own). -/
import Derived.BigQuiet
import Derived.Deep.QuietTactic
import Derived.WalkSmall
import Derived.Test.YtdkcibafbdmajabGreatDoorBun13
import Derived.Lib.SliceRun
/- What is proved here: contracts of Lend and Kept of sieveref01: bytes handed out in the middle of greater memory, and whether that memory is as it was. -/
namespace Go.Proofs.YtdkcibafbdmajabGreatDoor.U
open Go.RowKit Go.Shelf

theorem infoByte : (Tryz.prog.info? 5).map (fun i => (i.zero, i.size, i.bytes)) = some (some (.int .u8 0), 1, 1) := by kernel_rfl

/-- Block g holds N bytes, by a function of the place; none is frozen. -/
def RowB (g N : Nat) (f : Nat → Nat) (w : World) : Prop := (∀ j, j < N → w.cell? ⟨g, j, none⟩ = some (.int .u8 (f j))) ∧ ∀ j, j < N → w.frozen? ⟨g, j, none⟩ = false
theorem RowB.set {g N : Nat} {f : Nat → Nat} {w : World} (h : RowB g N f w) (i x : Nat) (hi : i < N) : RowB g N (fun j => if j = i then x else f j) (w.setCell ⟨g, i, none⟩ (.int .u8 x)) := by
  refine ⟨fun j hj => ?_, fun j hj => by rw [World.frozen?_setCell]; exact h.2 j hj⟩
  show _ = some (Value.int .u8 ((if j = i then x else f j : Nat) : Int))
  by_cases e : j = i
  · rw [if_pos e, e]; exact cs_same (h.1 i hi)
  · rw [if_neg e, cs_other (a := ⟨g, i, none⟩) (b := ⟨g, j, none⟩) (fun h => e (by cases h; rfl))]; exact h.1 j hj
theorem upto_set {f : Nat → Nat} {k x : Nat} (h : ∀ j, j < k → f j = x) : ∀ j, j < k + 1 → (if j = k then x else f j) = x := fun j hj => by
  by_cases e : j = k
  · rw [if_pos e]
  · rw [if_neg e]; exact h j (by omega)
theorem RowB.congr {g N : Nat} {f f' : Nat → Nat} {w : World} (h : RowB g N f w) (he : ∀ j, j < N → f j = f' j) : RowB g N f' w := ⟨fun j hj => by rw [← he j hj]; exact h.1 j hj, h.2⟩
theorem RowB.below {g N n : Nat} {f : Nat → Nat} {w w' : World} (h : RowB g N f w) (hb : Below n w w') (hg : g < n) : RowB g N f w' := ⟨fun j hj => (hb.cell (p := ⟨g, j, none⟩) hg).trans (h.1 j hj), fun j hj => (hb.frozen (p := ⟨g, j, none⟩) hg).trans (h.2 j hj)⟩

/-- New memory of N bytes. -/
def madeW (w : World) (N : Nat) : World := w.alloc (.cells (madeCells (Value.int .u8 0).cells N) 5)
theorem madeW_below (w : World) (N : Nat) : Below w.heap.size w (madeW w N) := (Below.refl _ w).alloc (Nat.le_refl _) _
theorem madeW_size (w : World) (N : Nat) : (madeW w N).heap.size = w.heap.size + 1 := by simp [madeW]
theorem madeW_row (w : World) (N : Nat) : RowB w.heap.size N (fun _ => 0) (madeW w N) := by
  have hb := World.alloc_heap_new w (.cells (madeCells (Value.int .u8 0).cells N) 5)
  refine ⟨fun j hj => ?_, fun j _ => ?_⟩
  · unfold madeW; simp only [World.cell?, hb]; simp [madeCells, Value.cells, hj, Nat.mod_one]
  · unfold madeW; simp only [World.frozen?, hb]; simp
theorem run_made (w : World) (N : Nat) (k : Int) (hk : k = (N : Int)) (h : N ≤ 281474976710656) : (Instr.makeSlice 90 (.int .i64 k) (.int .i64 k)).run Tryz.prog w = .ok (.slice (some ⟨w.heap.size, 0, none⟩) N N) (madeW w N) := by
  subst hk
  obtain ⟨i0, hi, hz0, hz1, hz2⟩ := info_parts infoByte
  have := run_make (P := Tryz.prog) w 90 5 i0 (.int .u8 0) Tryz.underlying90 hi hz0 .i64 .i64 N N (by omega) (by omega) (by rw [hz2]; omega) (by omega)
  rw [this, hz1]; simp [madeW]

/-- The bytes with two of 165 on either side. -/
def lent (bs : List UInt8) : List UInt8 := 165 :: 165 :: (bs ++ [165, 165])
theorem lent_length (bs : List UInt8) : (lent bs).length = bs.length + 4 := by simp [lent]
theorem byteAt_lent (bs : List UInt8) (j : Nat) (hj : j < bs.length + 4) : byteAt (lent bs) j = if 2 ≤ j ∧ j < bs.length + 2 then byteAt bs (j - 2) else 165 := by
  unfold byteAt lent
  match j with
  | 0 => rfl
  | 1 => rfl
  | j + 2 =>
    simp only [List.getElem?_cons_succ, List.getElem?_append]
    by_cases h : j < bs.length
    · rw [if_pos h, if_pos (by omega)]; rfl
    · rw [if_neg h, if_neg (by omega)]
      have : j - bs.length = 0 ∨ j - bs.length = 1 := by omega
      rcases this with e | e <;> rw [e] <;> rfl

theorem RowB.hasB {g : Nat} {bs : List UInt8} {w : World} (h : RowB g (bs.length + 4) (byteAt (lent bs)) w) (n₀ : Nat) (hg : g < n₀) : HasB n₀ w (.slice (some ⟨g, 2, none⟩) bs.length (bs.length + 2)) bs := by
  by_cases h0 : bs.length = 0
  · have e := List.length_eq_zero_iff.1 h0
    subst e; exact .inl ⟨rfl, _, _, rfl⟩
  · refine .inr ⟨by omega, g, 2, _, rfl, by omega, hg, fun j hj => ?_⟩
    rw [h.1 (2 + j) (by omega), byteAt_lent bs _ (by omega), if_pos (by omega)]
    rw [show 2 + j - 2 = j by omega]

end Go.Proofs.YtdkcibafbdmajabGreatDoor.U

/- What is proved here: contracts of sieveref01.Same, utf.Tail and utf.Width. -/
namespace Go.Proofs.YtdkcibafbdmajabGreatDoor.U
open Go.RowKit Go.Shelf

/-- The number at a place (0 beyond the end). -/
def zAt (zs : List Int) (k : Nat) : Int := zs[k]?.getD 0
theorem zAt_ext {xs ys : List Int} (hl : xs.length = ys.length) (h : ∀ j, j < xs.length → zAt xs j = zAt ys j) : xs = ys := by
  apply List.ext_getElem hl
  intro i h1 h2
  have := h i h1
  simpa [zAt, h1, h2] using this
/-- The numbers that a slice value holds in memory. -/
def HasI (q : IntKind) (w : World) (v : Value) (zs : List Int) : Prop :=
  (zs = [] ∧ ∃ a cap, v = .slice a 0 cap) ∨ (0 < zs.length ∧ ∃ b off cap, v = .slice (some ⟨b, off, none⟩) zs.length cap ∧ zs.length ≤ cap ∧ ∀ j, j < zs.length → w.cell? ⟨b, off + j, none⟩ = some (.int q (zAt zs j)))
theorem HasI.below {q : IntKind} {A B : World} {v : Value} {zs : List Int} (h : Below A.heap.size A B) (hl : HasI q A v zs) : HasI q B v zs := by
  rcases hl with hl | ⟨hp, b, off, cap, hv, hc, hx⟩
  · exact .inl hl
  · exact .inr ⟨hp, b, off, cap, hv, hc, fun j hj => (h.cell (p := ⟨b, off + j, none⟩) (cell_lt (hx j hj))).trans (hx j hj)⟩

/-- What is owned is held. -/
theorem hasI_owns {q : IntKind} {w : World} {base : Nat} {e : TypeId} {v : Value} {zs : List Int} (h : w.ownsRow base e 1 v zs.length (zs.map (Value.int q))) : HasI q w v zs := by
  rcases h.2 with ⟨rfl, h0⟩ | ⟨g, cap, cur, rfl, hb, hg, hcap, _, hsz, ht⟩
  · exact .inl ⟨List.length_eq_zero_iff.1 h0, none, 0, rfl⟩
  · by_cases hp : zs.length = 0
    · have e0 := List.length_eq_zero_iff.1 hp
      subst e0
      exact .inl ⟨rfl, some ⟨g, 0, none⟩, cap, rfl⟩
    refine .inr ⟨by omega, g, 0, cap, rfl, hcap, fun j hj => ?_⟩
    rw [Nat.zero_add, h.cellAt j (by omega)]
    simp [zAt, hj]

end Go.Proofs.YtdkcibafbdmajabGreatDoor.U

/- What is proved here: the contract of bytes.Clone at any bytes. -/
namespace Go.Proofs.YtdkcibafbdmajabGreatDoor.U
open Go.RowKit Go.Shelf

/-- Bytes as values. -/
def bvs (bs : List UInt8) : List Value := bs.map fun c => Value.int .u8 (c.toNat : Int)
theorem bvs_length (bs : List UInt8) : (bvs bs).length = bs.length := by simp [bvs]
theorem bvs_get (bs : List UInt8) (j : Nat) (hj : j < bs.length) : (bvs bs)[j]? = some (.int .u8 (byteAt bs j)) := by simp [bvs, byteAt, hj]
theorem hasB_owns {w : World} {base : Nat} {e : TypeId} {v : Value} {bs : List UInt8} (h : w.ownsRow base e 1 v bs.length (bvs bs)) : HasB w.heap.size w v bs ∧ ∃ a len cap, v = .slice a len cap := by
  have hlt := h.lt
  rcases h.2 with ⟨rfl, h0⟩ | ⟨g, cap, cur, rfl, hb, hg, hcap, _, hsz, ht⟩
  · exact ⟨.inl ⟨List.length_eq_zero_iff.1 h0, none, 0, rfl⟩, _, _, _, rfl⟩
  · refine ⟨?_, _, _, _, rfl⟩
    by_cases hp : bs.length = 0
    · have e0 := List.length_eq_zero_iff.1 hp
      subst e0
      exact .inl ⟨rfl, some ⟨g, 0, none⟩, cap, rfl⟩
    refine .inr ⟨by omega, g, 0, cap, rfl, hcap, lt_of_block hg, fun j hj => ?_⟩
    rw [Nat.zero_add, h.cellAt j (by omega), bvs_get bs j hj]
theorem owns_empty (w : World) (e : TypeId) : (w.alloc (.cells #[] e)).ownsRow w.heap.size e 1 (.slice (some ⟨w.heap.size, 0, none⟩) 0 0) 0 [] :=
  ⟨rfl, .inr ⟨w.heap.size, 0, #[], rfl, Nat.le_refl _, World.alloc_heap_new w _, Nat.le_refl _, Nat.zero_le _, rfl, rfl⟩⟩

end Go.Proofs.YtdkcibafbdmajabGreatDoor.U

/- What is proved here: contracts of the document's own functions size, second and good of sieveref01. -/
namespace Go.Proofs.YtdkcibafbdmajabGreatDoor.U
open Go.RowKit Go.Shelf

theorem ret_i64' {a b : Int} (h : a = b) : Ending.returned (.int .i64 a) = .returned (.int .i64 b) := by rw [h]
theorem ret_bool {a b : Bool} (h : a = b) : Ending.returned (.bool a) = .returned (.bool b) := by rw [h]

set_option maxRecDepth 100000 in
set_option maxHeartbeats 1000000 in
theorem size_calls (c : Nat) (hc : (c : Int) < 256) (w : World) :
    Calls Tryz.prog 128 #[.int .u8 c] w fun e w' => e = .returned (.int .i64 (lead c)) ∧ w' = w := by
  rcases lead_cases c with ⟨h, e⟩ | ⟨h, h', e⟩ | ⟨h, h', e⟩ | ⟨h, h', e⟩ | ⟨h, h', e⟩ | ⟨h, e⟩
  all_goals rw [e]; clear e
  all_goals go_enter Tryz.func128, Tryz.ntmps128
  all_goals go_wp2
  all_goals go_ret
  all_goals exact ⟨rfl, rfl⟩

set_option maxRecDepth 100000 in
set_option maxHeartbeats 1000000 in
theorem second_calls (c d : Nat) (hc : 194 ≤ c) (hc' : c < 245) (hd : d < 256) (w : World) :
    Calls Tryz.prog 129 #[.int .u8 c, .int .u8 d] w fun e w' => e = .returned (.bool (decide (lo2 c ≤ d) && decide (d ≤ hi2 c))) ∧ w' = w := by
  have hcase : (c = 224 ∧ lo2 c = 160 ∧ hi2 c = 191) ∨ (c = 237 ∧ lo2 c = 128 ∧ hi2 c = 159) ∨ (c = 240 ∧ lo2 c = 144 ∧ hi2 c = 191) ∨ (c = 244 ∧ lo2 c = 128 ∧ hi2 c = 143) ∨ (c ≠ 224 ∧ c ≠ 237 ∧ c ≠ 240 ∧ c ≠ 244 ∧ lo2 c = 128 ∧ hi2 c = 191) := by
    unfold lo2 hi2; repeat' split
    all_goals omega
  rcases hcase with ⟨h, e, e'⟩ | ⟨h, e, e'⟩ | ⟨h, e, e'⟩ | ⟨h, e, e'⟩ | ⟨h1, h2, h3, h4, e, e'⟩
  all_goals rw [e, e']; clear e e'
  all_goals go_enter Tryz.func129, Tryz.ntmps129
  all_goals go_wp2
  all_goals go_ret
  all_goals refine ⟨ret_bool ?_, rfl⟩
  all_goals (rw [Bool.eq_iff_iff]; simp; try omega)

theorem ret_good {a b : Int} {x y : Bool} (h : a = b) (h' : x = y) : Ending.returned (.tuple #[.int .i64 a, .bool x]) = .returned (.tuple #[.int .i64 b, .bool y]) := by rw [h, h']
theorem okAt_one (bs : List UInt8) : okAt bs 1 = (decide (lo2 (byteAt bs 0) ≤ byteAt bs 1) && decide (byteAt bs 1 ≤ hi2 (byteAt bs 0))) := rfl
theorem okAt_two (bs : List UInt8) (k : Nat) (h : k ≠ 1) : okAt bs k = (decide (128 ≤ byteAt bs k) && decide (byteAt bs k ≤ 191)) := by unfold okAt loAt hiAt; rw [if_neg h, if_neg h]
theorem lead_two {c : Nat} (h : 1 < lead c) : 194 ≤ c ∧ c < 245 := by
  rcases lead_cases c with ⟨a, e⟩ | ⟨a, b, e⟩ | ⟨a, b, e⟩ | ⟨a, b, e⟩ | ⟨a, b, e⟩ | ⟨a, e⟩ <;> omega

set_option maxRecDepth 100000 in
set_option maxHeartbeats 2000000 in
theorem good_zero (bs : List UInt8) (b off cap : Nat) (w : World) (h0 : (0 : Int) < (bs.length : Int)) (hn : lead (byteAt bs 0) = 0)
    (hc : w.cell? ⟨b, off, none⟩ = some (.int .u8 (byteAt bs 0))) :
    Calls Tryz.prog 106 #[.slice (some ⟨b, off, none⟩) bs.length cap] w fun e w' => e = .returned (.tuple #[.int .i64 0, .bool false]) ∧ Below w.heap.size w w' := by
  have hlt := byteAt_lt bs 0
  have FC : Hid (∀ w, Calls Tryz.prog 128 #[.int .u8 (byteAt bs 0)] w fun e w' => e = .returned (.int .i64 0) ∧ w' = w) := fun w => by
    have := size_calls (byteAt bs 0) (by omega) w; rw [hn] at this; exact this
  clear hn
  go_enter Tryz.func106, Tryz.ntmps106
  go_wp2_with (go_at_call 128; refine (FC.out _).mono ?_; rintro e w' ⟨rfl, rfl⟩)
  go_ret2
  exact ⟨rfl, Below.refl _ _⟩

set_option maxRecDepth 100000 in
set_option maxHeartbeats 2000000 in
theorem good_pos (bs : List UInt8) (b off cap : Nat) (w : World) (h0 : (0 : Int) < (bs.length : Int)) (hl : (bs.length : Int) ≤ 140737488355328) (hn : lead (byteAt bs 0) ≠ 0)
    (hc : ∀ j, j < bs.length → w.cell? ⟨b, off + j, none⟩ = some (.int .u8 (byteAt bs j))) :
    Calls Tryz.prog 106 #[.slice (some ⟨b, off, none⟩) bs.length cap] w fun e w' => e = .returned (.tuple #[.int .i64 (nextN bs), .bool (nextAll bs)]) ∧ Below w.heap.size w w' := by
  have c0 : w.cell? ⟨b, off, none⟩ = some (.int .u8 (byteAt bs 0)) := hc 0 (by omega)
  have HC : Hid (∀ j, j < bs.length → w.cell? ⟨b, off + j, none⟩ = some (.int .u8 (byteAt bs j))) := hc
  have hlt := byteAt_lt bs 0
  have hL := lead_le (byteAt bs 0)
  have hs1 : Hid (nextN bs = scan bs (lead (byteAt bs 0) - 1) 1) := nextN_scan bs hn
  have hn1 : 1 ≤ lead (byteAt bs 0) := by omega
  have hn0 : ((lead (byteAt bs 0) : Int) == 0) = false := beq_eq_false_iff_ne.2 (by omega)
  clear hc hn
  go_enter Tryz.func106, Tryz.ntmps106
  go_wp2_with (go_at_call 128; refine (size_calls _ (by omega) _).mono ?_; rintro e w' ⟨rfl, hw⟩; obtain rfl : w = w' := hw.symm)
  go_loopw [5] (fun i wr => ∃ k : Nat, 1 ≤ k ∧ k ≤ lead (byteAt bs 0) ∧ k ≤ bs.length ∧ i = .int .i64 k ∧ Below w.heap.size w wr ∧ Hid (nextN bs = scan bs (lead (byteAt bs 0) - k) k)) (fun i _ => 4 - (intOf i).toNat)
  case atStart => exact ⟨1, by omega, by omega, by omega, rfl, Below.refl _ _, hs1⟩
  case round =>
    obtain ⟨k, hk1, hkn, hkl, rfl, hB, hs⟩ := hrel
    have fin : Hid (¬ (k < lead (byteAt bs 0)) ∨ ¬ (k < bs.length) ∨ okAt bs k = false → nextN bs = k ∧ nextAll bs = ((k : Int) == (lead (byteAt bs 0) : Int))) := fun h => by
      have e : nextN bs = k := hs.out.trans (scan_out h)
      refine ⟨e, ?_⟩
      unfold nextAll; rw [e, Bool.eq_iff_iff]; simp; omega
    by_cases hlt2 : k < lead (byteAt bs 0)
    · by_cases hlen : k < bs.length
      · have ck : wr.cell? ⟨b, off + k, none⟩ = some (.int .u8 (byteAt bs k)) := (hB.cell (p := ⟨b, off + k, none⟩) (cell_lt (HC.out k hlen))).trans (HC.out k hlen)
        have ck0 : wr.cell? ⟨b, off, none⟩ = some (.int .u8 (byteAt bs 0)) := (hB.cell (p := ⟨b, off, none⟩) (cell_lt c0)).trans c0
        have hbk := byteAt_lt bs k
        by_cases hone : k = 1
        · subst hone
          have h2 := lead_two hlt2
          by_cases ho : okAt bs 1 = true
          · have hs2 : Hid (nextN bs = scan bs (lead (byteAt bs 0) - 2) 2) := hs.out.trans (scan_on hlt2 hlen ho)
            have SC : Hid (∀ w, Calls Tryz.prog 129 #[.int .u8 (byteAt bs 0), .int .u8 (byteAt bs 1)] w fun e w' => e = .returned (.bool true) ∧ w' = w) := fun w => by
              have := second_calls (byteAt bs 0) (byteAt bs 1) h2.1 h2.2 hbk w; rw [← okAt_one, ho] at this; exact this
            clear ho
            go_wp2
            go_quiet ((go_at_call 129; exact Calls.quiet_of_same (SC.out _)))
            go_wp2
            go_roundw
            case rel => exact ⟨2, by omega, by omega, by omega, by go_num, _root_.Go.below_drewN hB _, hs2⟩
            case measure => simp [intOf]
          · have ho' : okAt bs 1 = false := by simpa using ho
            have E := fin.out (.inr (.inr ho'))
            have HE : Hid (nextN bs = 1 ∧ nextAll bs = (((1 : Nat) : Int) == (lead (byteAt bs 0) : Int))) := E
            have SC : Hid (∀ w, Calls Tryz.prog 129 #[.int .u8 (byteAt bs 0), .int .u8 (byteAt bs 1)] w fun e w' => e = .returned (.bool false) ∧ w' = w) := fun w => by
              have := second_calls (byteAt bs 0) (byteAt bs 1) h2.1 h2.2 hbk w; rw [← okAt_one, ho'] at this; exact this
            clear ho E ho'
            go_wp2
            go_quiet ((go_at_call 129; exact Calls.quiet_of_same (SC.out _)))
            go_wp2
            go_ret2
            exact ⟨ret_good (by rw [HE.out.1]; rfl) (by rw [HE.out.2]; rfl), _root_.Go.below_drewN hB _⟩
        · have hne : ((k : Int) == 1) = false := beq_eq_false_iff_ne.2 (by omega)
          have hgt : (1 : Int) < (k : Int) := by omega
          by_cases hlo : (byteAt bs k : Int) < 128
          · have E := fin.out (.inr (.inr (by rw [okAt_two bs k hone]; simp; omega)))
            have HE : Hid (nextN bs = k ∧ nextAll bs = ((k : Int) == (lead (byteAt bs 0) : Int))) := E
            clear E
            go_wp2
            go_quiet (fail)
            go_wp2
            go_ret2
            exact ⟨ret_good (by rw [HE.out.1]) (by rw [HE.out.2]), _root_.Go.below_drewN hB _⟩
          · have hlo' : (128 : Int) ≤ (byteAt bs k : Int) := by omega
            have hdl : decide ((byteAt bs k : Int) < 128) = false := by simp; omega
            by_cases hhi : (191 : Int) < (byteAt bs k : Int)
            · have E := fin.out (.inr (.inr (by rw [okAt_two bs k hone]; simp; omega)))
              have HE : Hid (nextN bs = k ∧ nextAll bs = ((k : Int) == (lead (byteAt bs 0) : Int))) := E
              clear E
              go_wp2
              go_quiet (fail)
              go_wp2
              go_ret2
              exact ⟨ret_good (by rw [HE.out.1]) (by rw [HE.out.2]), _root_.Go.below_drewN hB _⟩
            · have hs2 : Hid (nextN bs = scan bs (lead (byteAt bs 0) - (k + 1)) (k + 1)) := hs.out.trans (scan_on hlt2 hlen (by rw [okAt_two bs k hone]; simp; omega))
              have hdh : decide ((191 : Int) < (byteAt bs k : Int)) = false := by simp; omega
              go_wp2
              go_quiet (fail)
              go_wp2
              go_roundw
              case rel => exact ⟨k + 1, by omega, by omega, by omega, by go_num, _root_.Go.below_drewN hB _, hs2⟩
              case measure => simp [intOf]; omega
      · have E := fin.out (.inr (.inl hlen))
        have HE : Hid (nextN bs = k ∧ nextAll bs = ((k : Int) == (lead (byteAt bs 0) : Int))) := E
        clear E
        go_wp2
        go_ret2
        exact ⟨ret_good (by rw [HE.out.1]) (by rw [HE.out.2]), hB⟩
    · have E := fin.out (.inl hlt2)
      have HE : Hid (nextN bs = k ∧ nextAll bs = ((k : Int) == (lead (byteAt bs 0) : Int))) := E
      clear E
      go_wp2
      go_ret2
      exact ⟨ret_good (by rw [HE.out.1]) (by rw [HE.out.2]), hB⟩

/-- **good of any bytes that are not empty.** -/
theorem good_calls (bs : List UInt8) (b off cap : Nat) (w : World) (h0 : 0 < bs.length) (hl : bs.length ≤ 140737488355328)
    (hc : ∀ j, j < bs.length → w.cell? ⟨b, off + j, none⟩ = some (.int .u8 (byteAt bs j))) :
    Calls Tryz.prog 106 #[.slice (some ⟨b, off, none⟩) bs.length cap] w fun e w' => e = .returned (.tuple #[.int .i64 (glen bs), .bool (nextAll bs)]) ∧ Below w.heap.size w w' := by
  by_cases hn : lead (byteAt bs 0) = 0
  · have e1 : glen bs = 0 := by unfold glen; rw [if_pos hn]
    have e2 : nextAll bs = false := by unfold nextAll; rw [nextN_zero bs hn, hn]; rfl
    rw [e1, e2]
    exact good_zero bs b off cap w (by omega) hn (hc 0 h0)
  · have e1 : glen bs = nextN bs := by unfold glen nextN; rw [if_neg hn, if_neg hn]
    rw [e1]
    exact good_pos bs b off cap w (by omega) (by omega) hn hc
theorem good_at (bs : List UInt8) (b off cap k : Nat) (w : World) (h0 : k < bs.length) (hl : bs.length ≤ 140737488355328)
    (hc : ∀ j, j < bs.length → w.cell? ⟨b, off + j, none⟩ = some (.int .u8 (byteAt bs j))) :
    Calls Tryz.prog 106 #[.slice (some ⟨b, off + k, none⟩) (bs.length - k) (cap - k)] w fun e w' => e = .returned (.tuple #[.int .i64 (glen (bs.drop k)), .bool (nextAll (bs.drop k))]) ∧ Below w.heap.size w w' := by
  have h := good_calls (bs.drop k) b (off + k) (cap - k) w (by simp; omega) (by simp; omega) (fun j hj => by rw [byteAt_drop, Nat.add_assoc]; exact hc (k + j) (by simp at hj; omega))
  rw [List.length_drop] at h
  exact h

end Go.Proofs.YtdkcibafbdmajabGreatDoor.U
