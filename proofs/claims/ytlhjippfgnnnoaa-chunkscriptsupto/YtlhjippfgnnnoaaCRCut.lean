/- What is proved here: the contract of Cut of sieveref02. -/
import Derived.Test.YtlhjippfgnnnoaaCAlike
namespace Go.Proofs.Ytlhjippfgnnnoaa.C
open Go.RowKit

theorem infoRStep : (Try.prog.info? 85).map (fun i => (i.zero, i.size, i.bytes)) = some (some (.agg #[.slice none 0 0, .bool false]), 2, 32) := by kernel_rfl
theorem byt_of {w : World} {a : Option Addr} {m c : Nat} {xs : List UInt8} (h : HasB w.heap.size w (.slice a m c) xs) (hc : a = none → c = 0) : Byt w (.slice a m c) xs := by
  refine ⟨h, ?_⟩
  cases a with
  | none =>
    left
    rcases h with ⟨_, a', c', e⟩ | ⟨_, b, off, c', e, _⟩
    · simp at e; rw [hc rfl, e.2.1]
    · simp at e
  | some ad => exact .inr ⟨_, _, _, rfl⟩

theorem part_if {w : World} {a : Option Addr} {b off cap : Nat} {bs : List UInt8} (ha : 0 < bs.length → a = some ⟨b, off, none⟩) (hb : 0 < bs.length → b < w.heap.size) (hcap : bs.length ≤ cap) (hx : ∀ j, j < bs.length → w.cell? ⟨b, off + j, none⟩ = some (.int .u8 (byteAt bs j)))
    (lo hi m : Nat) (h1 : lo ≤ hi) (h2 : hi ≤ bs.length) (hm : m = hi - lo) (hn : a = none → cap = 0) : Byt w (.slice (if cap = lo then a else a.map fun p => p.add lo) m (cap - lo)) ((bs.drop lo).take (hi - lo)) := by
  by_cases h : cap = lo
  · rw [if_pos h]
    exact byt_of (part_zero (by omega) (by simp; omega)) (fun _ => by omega)
  · rw [if_neg h]
    exact byt_of (part_pos ha hb hcap hx lo hi m h1 h2 hm) (fun e => by have := hn (by simpa using e); omega)

set_option maxRecDepth 100000 in
set_option maxHeartbeats 1000000 in
theorem rcut_calls1 (bs : List UInt8) (cs : List Int) (a a' : Option Addr) (b off cap b' off' cap' : Nat) (fail : Bool) (w : World) (hl : (bs.length : Int) ≤ 100000000000000) (hm : (cs.length : Int) ≤ 1000000000000)
    (ha : 0 < bs.length → a = some ⟨b, off, none⟩) (hcap : (bs.length : Int) ≤ cap) (hnil : a = none → cap = 0) (hbs : ∀ j, j < bs.length → w.cell? ⟨b, off + j, none⟩ = some (.int .u8 (byteAt bs j)))
    (ha' : 0 < cs.length → a' = some ⟨b', off', none⟩) (hcs : ∀ j, j < cs.length → w.cell? ⟨b', off' + j, none⟩ = some (.int .i64 (zAt cs j))) :
    Calls Try.prog 28 #[.slice a bs.length cap, .slice a' cs.length cap', .bool fail] w fun e W' => ∃ v, e = .returned v ∧ OwnS w.heap.size 85 W' v (cut bs cs fail) ∧ Below w.heap.size w W' := by
  obtain ⟨i0, hi, hz0, hz1, hz2⟩ := info_parts infoRStep
  have HX : Hid (∀ j, j < bs.length → w.cell? ⟨b, off + j, none⟩ = some (.int .u8 (byteAt bs j))) := hbs
  have HC : Hid (∀ j, j < cs.length → w.cell? ⟨b', off' + j, none⟩ = some (.int .i64 (zAt cs j))) := hcs
  have HA : Hid (0 < bs.length → a = some ⟨b, off, none⟩) := ha
  have HNIL : Hid (a = none → cap = 0) := hnil
  have HA' : Hid (0 < cs.length → a' = some ⟨b', off', none⟩) := ha'
  clear hbs hcs ha ha' hnil
  go_enter Try.func28, Try.ntmps28
  go_wp2
  go_loopw [7, 8, 10, 13] (fun v f _ i wr => ∃ k : Nat, k ≤ cs.length ∧ i = .int .i64 k ∧ f = .int .i64 (cutAt bs.length cs k) ∧ OwnS w.heap.size 85 wr v (cutL bs cs k) ∧ Below w.heap.size w wr) (fun _ _ _ i _ => cs.length - (intOf i).toNat)
  case atStart => exact ⟨0, by omega, rfl, rfl, ⟨[], rfl, World.ownsRow_nil _ _ _ _, (fun x hx => by cases hx), List.Pairwise.nil⟩, Below.refl _ _⟩
  case round =>
    obtain ⟨k, hk, rfl, rfl, hS, hB⟩ := hrel
    obtain ⟨xs, x1, x2, x3, x4⟩ := hS
    have s1 := hB.size
    have HXS : Hid ((∀ x ∈ xs, wr.ownsRow w.heap.size 5 1 x.1 x.2.1.length (bvs x.2.1)) ∧ xs.Pairwise (fun x y => ∀ k, x.1.ownBlock = some k → y.1.ownBlock ≠ some k)) := ⟨x3, x4⟩
    rw [cutL_length] at x2
    have HNE : Hid (u7.ownBlock = none ∨ u7.ownBlock ≠ some wr.heap.size) := by
      cases e : u7.ownBlock with
      | none => exact .inl rfl
      | some j => exact .inr (fun e' => by have := (x2.lt j e).2; simp at e'; omega)
    clear x3 x4
    by_cases hlt : k < cs.length
    · have e' := HA'.out (by omega)
      subst e'
      have hc1 : wr.cell? ⟨b', off' + k, none⟩ = some (.int .i64 (zAt cs k)) := (hB.cell (p := ⟨b', off' + k, none⟩) (cell_lt (HC.out k hlt))).trans (HC.out k hlt)
      have hle := cutAt_le bs.length cs k
      have hle1 := cutAt_le bs.length cs (k + 1)
      have hmo := cutAt_mono bs.length cs k
      have HL : Hid ((cutS bs cs k).length = cutAt bs.length cs (k + 1) - cutAt bs.length cs k) := cutS_length bs cs k
      have hmm : (cutAt bs.length cs (k + 1) : Int) = min (max (zAt cs k) (cutAt bs.length cs k)) (bs.length : Int) := by simp only [cutAt]; omega
      by_cases q1 : zAt cs k < (cutAt bs.length cs k : Int)
      · have q3 : Hid (cutAt bs.length cs (k + 1) = cutAt bs.length cs k) := by show cutAt bs.length cs (k + 1) = _; omega
        clear hmm
        go_wp2_with (first
          | (at_builtin; refine append_bytes rfl _ _ rfl wr.heap.size _ _ _ rfl (owns_empty wr _ 1) _ (cutS bs cs k) rfl (part_if (cap := cap) HA.out (fun h => by have := cell_lt (HX.out 0 h); simp at this ⊢; omega) (by omega) (fun j hj => ((hB.alloc s1 _).cell (p := ⟨b, off + j, none⟩) (cell_lt (HX.out j hj))).trans (HX.out j hj)) _ _ _ hmo hle1 (by have := HL.out; have := q3.out; omega) HNIL.out) (by have := HL.out; have := q3.out; omega) (by simp) ?_; intro d w1 ho hg1; rw [Nat.zero_add, List.nil_append] at ho; obtain ⟨da, dc, rfl⟩ := owns_slice ho)
          | (at_builtin; refine wpList_append_own _ rfl _ _ 25 rfl w.heap.size 85 i0 (.agg #[.slice none 0 0, .bool false]) 2 32 Try.underlying25 hi hz0 hz1 hz2 rfl (by decide) _ _ _ rfl (((x2.alloc _).kept hg1 (HNE.out)).alloc _) ⟨w1.heap.size, 0, none⟩ 1 1 [.slice da (cutS bs cs k).length dc, .bool false] rfl rfl (cells_two _ _ _ _ _ rfl) (by simp [Value.oneCell']) (by unfold maxLen; omega) (by omega) (by have := hg1.size; simp at this ⊢; omega) ?_; intro v' w4 hown' hgrow _))
        all_goals
          have bw : Below wr.heap.size wr w1 := ((Below.refl _ wr).alloc (Nat.le_refl _) _).grown hg1 (by simp) (fun j hj => ((owns_empty wr 5 1).lt j hj).1)
          have zw := bw.size
          go_roundw
          case rel =>
            have H : OwnS w.heap.size 85 w4 v' (cutL bs cs (k + 1)) ∧ Below w.heap.size w w4 := by
              rw [cutL_succ]
              exact ⟨OwnS.snoc (by decide) x1 (by rw [cutL_length]; exact (owns_below x2 bw).alloc _) (fun x hx => ((owns_below (HXS.out.1 x hx) bw).alloc _)) ((owns_mono ho s1).alloc _) (by rw [cutL_length]; exact hown') hgrow HXS.out.2 (fun x hx j e e' => by have := ((HXS.out.1 x hx).lt j e).2; have := (ho.lt j e').1; omega), ((hB.trans (bw.mono s1)).alloc (by omega) _).grown hgrow (by simp; omega) (fun j hj => (x2.lt j hj).1)⟩
            have := q3.out
            first
              | exact ⟨k + 1, by omega, by go_num, by congr 1; omega, H⟩
              | exact ⟨_, _, _, _, ⟨k + 1, by omega, by go_num, by congr 1; omega, H⟩, rfl, rfl, rfl, rfl⟩
          case measure => simp [intOf]; omega
      · have q1' : decide (zAt cs k < (cutAt bs.length cs k : Int)) = false := by simp; omega
        by_cases q2 : (bs.length : Int) < zAt cs k
        · have q3 : Hid (cutAt bs.length cs (k + 1) = bs.length) := by show cutAt bs.length cs (k + 1) = _; omega
          clear hmm
          go_wp2_with (first
            | (at_builtin; refine append_bytes rfl _ _ rfl wr.heap.size _ _ _ rfl (owns_empty wr _ 1) _ (cutS bs cs k) rfl (part_if (cap := cap) HA.out (fun h => by have := cell_lt (HX.out 0 h); simp at this ⊢; omega) (by omega) (fun j hj => ((hB.alloc s1 _).cell (p := ⟨b, off + j, none⟩) (cell_lt (HX.out j hj))).trans (HX.out j hj)) _ _ _ hmo hle1 (by have := HL.out; have := q3.out; omega) HNIL.out) (by have := HL.out; have := q3.out; omega) (by simp) ?_; intro d w1 ho hg1; rw [Nat.zero_add, List.nil_append] at ho; obtain ⟨da, dc, rfl⟩ := owns_slice ho)
            | (at_builtin; refine wpList_append_own _ rfl _ _ 25 rfl w.heap.size 85 i0 (.agg #[.slice none 0 0, .bool false]) 2 32 Try.underlying25 hi hz0 hz1 hz2 rfl (by decide) _ _ _ rfl (((x2.alloc _).kept hg1 (HNE.out)).alloc _) ⟨w1.heap.size, 0, none⟩ 1 1 [.slice da (cutS bs cs k).length dc, .bool false] rfl rfl (cells_two _ _ _ _ _ rfl) (by simp [Value.oneCell']) (by unfold maxLen; omega) (by omega) (by have := hg1.size; simp at this ⊢; omega) ?_; intro v' w4 hown' hgrow _))
          all_goals
            have bw : Below wr.heap.size wr w1 := ((Below.refl _ wr).alloc (Nat.le_refl _) _).grown hg1 (by simp) (fun j hj => ((owns_empty wr 5 1).lt j hj).1)
            have zw := bw.size
            go_roundw
            case rel =>
              have H : OwnS w.heap.size 85 w4 v' (cutL bs cs (k + 1)) ∧ Below w.heap.size w w4 := by
                rw [cutL_succ]
                exact ⟨OwnS.snoc (by decide) x1 (by rw [cutL_length]; exact (owns_below x2 bw).alloc _) (fun x hx => ((owns_below (HXS.out.1 x hx) bw).alloc _)) ((owns_mono ho s1).alloc _) (by rw [cutL_length]; exact hown') hgrow HXS.out.2 (fun x hx j e e' => by have := ((HXS.out.1 x hx).lt j e).2; have := (ho.lt j e').1; omega), ((hB.trans (bw.mono s1)).alloc (by omega) _).grown hgrow (by simp; omega) (fun j hj => (x2.lt j hj).1)⟩
              have := q3.out
              first
                | exact ⟨k + 1, by omega, by go_num, by congr 1; omega, H⟩
                | exact ⟨_, _, _, _, ⟨k + 1, by omega, by go_num, by congr 1; omega, H⟩, rfl, rfl, rfl, rfl⟩
            case measure => simp [intOf]; omega
        · have q3 : Hid ((cutAt bs.length cs (k + 1) : Int) = zAt cs k) := by show (cutAt bs.length cs (k + 1) : Int) = _; omega
          have q2' : decide ((bs.length : Int) < zAt cs k) = false := by simp; omega
          clear hmm
          go_wp2_with (first
            | (at_builtin; refine append_bytes rfl _ _ rfl wr.heap.size _ _ _ rfl (owns_empty wr _ 1) _ (cutS bs cs k) rfl (part_if (cap := cap) HA.out (fun h => by have := cell_lt (HX.out 0 h); simp at this ⊢; omega) (by omega) (fun j hj => ((hB.alloc s1 _).cell (p := ⟨b, off + j, none⟩) (cell_lt (HX.out j hj))).trans (HX.out j hj)) _ _ _ hmo hle1 (by have := HL.out; have := q3.out; omega) HNIL.out) (by have := HL.out; have := q3.out; omega) (by simp) ?_; intro d w1 ho hg1; rw [Nat.zero_add, List.nil_append] at ho; obtain ⟨da, dc, rfl⟩ := owns_slice ho)
            | (at_builtin; refine wpList_append_own _ rfl _ _ 25 rfl w.heap.size 85 i0 (.agg #[.slice none 0 0, .bool false]) 2 32 Try.underlying25 hi hz0 hz1 hz2 rfl (by decide) _ _ _ rfl (((x2.alloc _).kept hg1 (HNE.out)).alloc _) ⟨w1.heap.size, 0, none⟩ 1 1 [.slice da (cutS bs cs k).length dc, .bool false] rfl rfl (cells_two _ _ _ _ _ rfl) (by simp [Value.oneCell']) (by unfold maxLen; omega) (by omega) (by have := hg1.size; simp at this ⊢; omega) ?_; intro v' w4 hown' hgrow _))
          all_goals
            have bw : Below wr.heap.size wr w1 := ((Below.refl _ wr).alloc (Nat.le_refl _) _).grown hg1 (by simp) (fun j hj => ((owns_empty wr 5 1).lt j hj).1)
            have zw := bw.size
            go_roundw
            case rel =>
              have H : OwnS w.heap.size 85 w4 v' (cutL bs cs (k + 1)) ∧ Below w.heap.size w w4 := by
                rw [cutL_succ]
                exact ⟨OwnS.snoc (by decide) x1 (by rw [cutL_length]; exact (owns_below x2 bw).alloc _) (fun x hx => ((owns_below (HXS.out.1 x hx) bw).alloc _)) ((owns_mono ho s1).alloc _) (by rw [cutL_length]; exact hown') hgrow HXS.out.2 (fun x hx j e e' => by have := ((HXS.out.1 x hx).lt j e).2; have := (ho.lt j e').1; omega), ((hB.trans (bw.mono s1)).alloc (by omega) _).grown hgrow (by simp; omega) (fun j hj => (x2.lt j hj).1)⟩
              have := q3.out
              first
                | exact ⟨k + 1, by omega, by go_num, by congr 1; omega, H⟩
                | exact ⟨_, _, _, _, ⟨k + 1, by omega, by go_num, by congr 1; omega, H⟩, rfl, rfl, rfl, rfl⟩
            case measure => simp [intOf]; omega
    · obtain rfl : k = cs.length := by omega
      have hle := cutAt_le bs.length cs cs.length
      have HL : Hid ((bs.drop (cutAt bs.length cs cs.length)).length = bs.length - cutAt bs.length cs cs.length) := List.length_drop ..
      have HT : Hid ((bs.drop (cutAt bs.length cs cs.length)).take (bs.length - cutAt bs.length cs cs.length) = bs.drop (cutAt bs.length cs cs.length)) := List.take_of_length_le (by simp)
      go_wp2_with (first
        | (at_builtin; refine append_bytes rfl _ _ rfl wr.heap.size _ _ _ rfl (owns_empty wr _ 1) _ (bs.drop (cutAt bs.length cs cs.length)) rfl (HT.out ▸ part_if (cap := cap) HA.out (fun h => by have := cell_lt (HX.out 0 h); simp at this ⊢; omega) (by omega) (fun j hj => ((hB.alloc s1 _).cell (p := ⟨b, off + j, none⟩) (cell_lt (HX.out j hj))).trans (HX.out j hj)) _ _ _ hle (Nat.le_refl _) (by have := HL.out; omega) HNIL.out) (by have := HL.out; omega) (by simp) ?_; intro d w1 ho hg1; rw [Nat.zero_add, List.nil_append] at ho; obtain ⟨da, dc, rfl⟩ := owns_slice ho; generalize hlen : (bs.drop (cutAt bs.length cs cs.length)).length = len at *)
        | (at_builtin; refine wpList_append_own _ rfl _ _ 25 rfl w.heap.size 85 i0 (.agg #[.slice none 0 0, .bool false]) 2 32 Try.underlying25 hi hz0 hz1 hz2 rfl (by decide) _ _ _ rfl (((x2.alloc _).kept hg1 (HNE.out)).alloc _) ⟨w1.heap.size, 0, none⟩ 1 1 [.slice da len dc, .bool fail] rfl rfl (cells_two _ _ _ _ _ rfl) (by simp [Value.oneCell']) (by unfold maxLen; omega) (by omega) (by have := hg1.size; simp at this ⊢; omega) ?_; intro v' w4 hown' hgrow _))
      all_goals
        have bw : Below wr.heap.size wr w1 := ((Below.refl _ wr).alloc (Nat.le_refl _) _).grown hg1 (by simp) (fun j hj => ((owns_empty wr 5 1).lt j hj).1)
        have zw := bw.size
        go_ret
        exact ⟨_, rfl, by
            unfold cut
            exact OwnS.snoc (by decide) x1 (by rw [cutL_length]; exact (owns_below x2 bw).alloc _) (fun x hx => ((owns_below (HXS.out.1 x hx) bw).alloc _)) ((owns_mono (by rw [hlen]; exact ho) s1).alloc _) (by rw [cutL_length]; exact hown') hgrow HXS.out.2 (fun x hx j e e' => by have := ((HXS.out.1 x hx).lt j e).2; have := (ho.lt j e').1; omega), ((hB.trans (bw.mono s1)).alloc (by omega) _).grown hgrow (by simp; omega) (fun j hj => (x2.lt j hj).1)⟩

/-- **The document's Cut of any bytes at any places.** -/
theorem rcut_calls (v v' : Value) (bs : List UInt8) (cs : List Int) (fail : Bool) (w : World) (hl : bs.length ≤ 100000000000000) (hm : cs.length ≤ 1000000000000) (hb : Byt w v bs) (hc : HasI .i64 w v' cs) :
    Calls Try.prog 28 #[v, v', .bool fail] w fun e W' => ∃ v, e = .returned v ∧ OwnS w.heap.size 85 W' v (cut bs cs fail) ∧ Below w.heap.size w W' := by
  have B : ∃ a b off cap, v = .slice a bs.length cap ∧ (bs.length : Int) ≤ cap ∧ (a = none → cap = 0) ∧ (0 < bs.length → a = some ⟨b, off, none⟩) ∧ ∀ j, j < bs.length → w.cell? ⟨b, off + j, none⟩ = some (.int .u8 (byteAt bs j)) := by
    obtain ⟨hB, hn⟩ := hb
    rcases hB with ⟨rfl, a, cap, rfl⟩ | ⟨hp, b, off, cap, rfl, hcap, _, hx⟩
    · refine ⟨a, 0, 0, cap, rfl, by simp, fun e => ?_, fun h => by simp at h, fun j hj => by simp at hj⟩
      rcases hn with e' | ⟨ad, n, c, e'⟩
      · simp at e'; exact e'.2
      · simp at e'; rw [e] at e'; cases e'.1
    · exact ⟨_, b, off, cap, rfl, by omega, (fun e => by cases e), fun _ => rfl, hx⟩
  have C : ∃ a b off cap, v' = .slice a cs.length cap ∧ (0 < cs.length → a = some ⟨b, off, none⟩) ∧ ∀ j, j < cs.length → w.cell? ⟨b, off + j, none⟩ = some (.int .i64 (zAt cs j)) := by
    rcases hc with ⟨rfl, a, cap, rfl⟩ | ⟨hp, b, off, cap, rfl, hcap, hx⟩
    · exact ⟨a, 0, 0, cap, rfl, fun h => by simp at h, fun j hj => by simp at hj⟩
    · exact ⟨_, b, off, cap, rfl, fun _ => rfl, hx⟩
  obtain ⟨a, b, off, cap, rfl, h1, hnil, h2, h3⟩ := B
  obtain ⟨a', b', off', cap', rfl, g2, g3⟩ := C
  exact rcut_calls1 bs cs a a' b off cap b' off' cap' fail w (by omega) (by omega) h2 h1 hnil h3 g2 g3

end Go.Proofs.Ytlhjippfgnnnoaa.C
