/- What is proved here: the contract of chunk.Cut. -/
import Derived.Laws.MakeOwn
import Derived.Test.YtkpjmcoihbebkaaCBase
namespace Go.Proofs.Ytkpjmcoihbebkaa.C
open Go.RowKit

theorem infoStep : (Try.prog.info? 55).map (fun i => (i.zero, i.size, i.bytes)) = some (some (.agg #[.slice none 0 0, .bool false]), 2, 32) := by kernel_rfl

/-- A script in memory of its own: its row, and each step's bytes. -/
def OwnS (base : Nat) (e : TypeId) (w : World) (r : Value) (l : List (List UInt8 × Bool)) : Prop :=
  ∃ xs : List (Value × List UInt8 × Bool), xs.map Prod.snd = l ∧ w.ownsRow base e 2 r l.length (xs.flatMap fun x => [x.1, .bool x.2.2]) ∧ (∀ x ∈ xs, w.ownsRow base 5 1 x.1 x.2.1.length (bvs x.2.1)) ∧ xs.Pairwise (fun x y => ∀ k, x.1.ownBlock = some k → y.1.ownBlock ≠ some k)
theorem OwnS.below {base : Nat} {e : TypeId} {A B : World} {r : Value} {l : List (List UInt8 × Bool)} (h : OwnS base e A r l) (hb : Below A.heap.size A B) : OwnS base e B r l := by
  obtain ⟨xs, h1, h2, h3, h4⟩ := h
  exact ⟨xs, h1, owns_below h2 hb, fun x hx => owns_below (h3 x hx) hb, h4⟩
theorem OwnS.mono {base base' : Nat} {e : TypeId} {w : World} {r : Value} {l : List (List UInt8 × Bool)} (h : OwnS base e w r l) (hb : base' ≤ base) : OwnS base' e w r l := by
  obtain ⟨xs, h1, h2, h3, h4⟩ := h
  exact ⟨xs, h1, owns_mono h2 hb, fun x hx => owns_mono (h3 x hx) hb, h4⟩
theorem OwnS.slice {base : Nat} {e : TypeId} {w : World} {r : Value} {l : List (List UInt8 × Bool)} (h : OwnS base e w r l) : ∃ a cap, r = .slice a l.length cap := by
  obtain ⟨xs, h1, h2, h3, -⟩ := h
  exact owns_slice h2

/-- Where the k-th cut ends. -/
def cutAt (n : Nat) (cs : List Int) : Nat → Nat
  | 0 => 0
  | k + 1 => (min (max (zAt cs k) (cutAt n cs k)) n).toNat
theorem cutAt_le (n : Nat) (cs : List Int) (k : Nat) : cutAt n cs k ≤ n := by
  cases k with
  | zero => exact Nat.zero_le _
  | succ k => simp only [cutAt]; omega
theorem cutAt_mono (n : Nat) (cs : List Int) (k : Nat) : cutAt n cs k ≤ cutAt n cs (k + 1) := by
  have := cutAt_le n cs k
  simp only [cutAt]; omega
/-- The k-th step of what is cut. -/
def cutS (bs : List UInt8) (cs : List Int) (k : Nat) : List UInt8 := (bs.drop (cutAt bs.length cs k)).take (cutAt bs.length cs (k + 1) - cutAt bs.length cs k)
/-- The first k steps. -/
def cutL (bs : List UInt8) (cs : List Int) (k : Nat) : List (List UInt8 × Bool) := (List.range k).map fun i => (cutS bs cs i, false)
theorem cutL_length (bs : List UInt8) (cs : List Int) (k : Nat) : (cutL bs cs k).length = k := by simp [cutL]
theorem cutL_succ (bs : List UInt8) (cs : List Int) (k : Nat) : cutL bs cs (k + 1) = cutL bs cs k ++ [(cutS bs cs k, false)] := by simp [cutL, List.range_succ]
/-- **What Cut answers.** -/
def cut (bs : List UInt8) (cs : List Int) (fail : Bool) : List (List UInt8 × Bool) := cutL bs cs cs.length ++ [(bs.drop (cutAt bs.length cs cs.length), fail)]

/-- A part of bytes in memory, as slicing answers it. -/
theorem part_pos {n₀ : Nat} {w : World} {a : Option Addr} {b off cap : Nat} {bs : List UInt8} (ha : 0 < bs.length → a = some ⟨b, off, none⟩) (hb : 0 < bs.length → b < n₀) (hcap : bs.length ≤ cap) (hx : ∀ j, j < bs.length → w.cell? ⟨b, off + j, none⟩ = some (.int .u8 (byteAt bs j)))
    (lo hi m : Nat) (h1 : lo ≤ hi) (h2 : hi ≤ bs.length) (hm : m = hi - lo) : HasB n₀ w (.slice (a.map fun p => p.add lo) m (cap - lo)) ((bs.drop lo).take (hi - lo)) := by
  have hlen : ((bs.drop lo).take (hi - lo)).length = hi - lo := by simp; omega
  subst hm
  by_cases h0 : hi - lo = 0
  · refine .inl ⟨List.length_eq_zero_iff.1 (by omega), _, _, by rw [h0]⟩
  · have h := ha (by omega)
    subst h
    refine .inr ⟨by omega, b, off + lo, cap - lo, by rw [hlen, Option.map_some, add_none], by omega, hb (by omega), fun j hj => ?_⟩
    rw [hlen] at hj
    rw [byteAt_take _ _ _ hj, byteAt_drop, Nat.add_assoc]
    exact hx (lo + j) (by omega)
theorem part_zero {n₀ : Nat} {w : World} {a : Option Addr} {c m : Nat} {bs : List UInt8} (hm : m = 0) (h : bs.length = 0) : HasB n₀ w (.slice a m c) bs := by
  subst hm
  exact .inl ⟨List.length_eq_zero_iff.1 h, _, _, rfl⟩
theorem cutS_length (bs : List UInt8) (cs : List Int) (k : Nat) : (cutS bs cs k).length = cutAt bs.length cs (k + 1) - cutAt bs.length cs k := by
  have := cutAt_le bs.length cs (k + 1)
  have := cutAt_mono bs.length cs k
  simp [cutS]; omega
/-- One step more behind a script. -/
theorem OwnS.snoc {base : Nat} {e : TypeId} {w w' : World} {r r' d : Value} {l : List (List UInt8 × Bool)} {xs : List (Value × List UInt8 × Bool)} {bs : List UInt8} {f : Bool} (he : e ≠ 5)
    (h1 : xs.map Prod.snd = l) (h2 : w.ownsRow base e 2 r l.length (xs.flatMap fun x => [x.1, .bool x.2.2])) (h3 : ∀ x ∈ xs, w.ownsRow base 5 1 x.1 x.2.1.length (bvs x.2.1))
    (hd : w.ownsRow base 5 1 d bs.length (bvs bs)) (hr : w'.ownsRow base e 2 r' (l.length + 1) ((xs.flatMap fun x => [x.1, .bool x.2.2]) ++ [d, .bool f])) (hg : w.grownBy w' r.ownBlock) (h4 : xs.Pairwise (fun x y => ∀ k, x.1.ownBlock = some k → y.1.ownBlock ≠ some k)) (hf : ∀ x ∈ xs, ∀ k, x.1.ownBlock = some k → d.ownBlock ≠ some k) : OwnS base e w' r' (l ++ [(bs, f)]) := by
  refine ⟨xs ++ [(d, bs, f)], by simp [h1], by simpa using hr, fun x hx => ?_, List.pairwise_append.2 ⟨h4, List.pairwise_singleton _ _, fun x hx y hy => by simp at hy; subst hy; exact hf x hx⟩⟩
  rcases List.mem_append.1 hx with hx | hx
  · exact (h3 x hx).kept hg (owns_apart (h3 x hx) h2 (Ne.symm he))
  · simp at hx; subst hx
    exact hd.kept hg (owns_apart hd h2 (Ne.symm he))
theorem cells_two (W : World) (a b : Value) (t : TypeId) (n : Nat) (hn : n = W.heap.size) : ∀ j u, [a, b][j]? = some u → (W.alloc (.cells #[a, b] t)).cell? ((⟨n, 0, none⟩ : Addr).add j) = some u := by
  intro j u h
  subst hn
  rw [add_none, Nat.zero_add]
  have hb := World.alloc_heap_new W (.cells #[a, b] t)
  simp only [World.cell?, hb]
  simpa using h

set_option maxRecDepth 100000 in
set_option maxHeartbeats 1000000 in
theorem cut_calls1 (bs : List UInt8) (cs : List Int) (a a' : Option Addr) (b off cap b' off' cap' : Nat) (fail : Bool) (w : World) (hl : (bs.length : Int) ≤ 140737488355328) (hm : (cs.length : Int) ≤ 1000000000000)
    (ha : 0 < bs.length → a = some ⟨b, off, none⟩) (hcap : (bs.length : Int) ≤ cap) (hbs : ∀ j, j < bs.length → w.cell? ⟨b, off + j, none⟩ = some (.int .u8 (byteAt bs j)))
    (ha' : 0 < cs.length → a' = some ⟨b', off', none⟩) (hcs : ∀ j, j < cs.length → w.cell? ⟨b', off' + j, none⟩ = some (.int .i64 (zAt cs j))) :
    Calls Try.prog 18 #[.slice a bs.length cap, .slice a' cs.length cap', .bool fail] w fun e W' => ∃ v, e = .returned v ∧ OwnS w.heap.size 55 W' v (cut bs cs fail) ∧ Below w.heap.size w W' := by
  obtain ⟨i0, hi, hz0, hz1, hz2⟩ := info_parts infoStep
  have hmk : ∀ w, (Instr.makeSlice 28 (.int .i64 0) (.int .i64 ((cs.length : Int) + 1))).run Try.prog w = .ok (.slice (some ⟨w.heap.size, 0, none⟩) 0 (cs.length + 1)) (w.alloc (.cells (madeCells (Value.agg #[.slice none 0 0, .bool false]).cells ((cs.length + 1) * 2)) 55)) := fun w => by
    have := run_make (P := Try.prog) w 28 55 i0 _ Try.underlying28 hi hz0 .i64 .i64 0 ((cs.length : Int) + 1) (by omega) (by omega) (by rw [hz2]; omega) (by omega)
    rw [this, hz1]
    rfl
  have HX : Hid (∀ j, j < bs.length → w.cell? ⟨b, off + j, none⟩ = some (.int .u8 (byteAt bs j))) := hbs
  have HC : Hid (∀ j, j < cs.length → w.cell? ⟨b', off' + j, none⟩ = some (.int .i64 (zAt cs j))) := hcs
  have HA : Hid (0 < bs.length → a = some ⟨b, off, none⟩) := ha
  have HA' : Hid (0 < cs.length → a' = some ⟨b', off', none⟩) := ha'
  clear hbs hcs ha ha'
  go_enter Try.func18, Try.ntmps18
  go_wp2
  clear hmk
  go_loopw [7, 8, 10, 11, 18] (fun v f _ _ i wr => ∃ k : Nat, k ≤ cs.length ∧ i = .int .i64 k ∧ f = .int .i64 (cutAt bs.length cs k) ∧ OwnS w.heap.size 55 wr v (cutL bs cs k) ∧ Below w.heap.size w wr) (fun _ _ _ _ i _ => cs.length - (intOf i).toNat)
  case atStart => exact ⟨0, by omega, rfl, rfl, ⟨[], rfl, World.ownsRow_made _ _ _ (Nat.le_refl _) (by unfold maxLen; omega) (by simp [madeCells]), (fun x hx => by cases hx), List.Pairwise.nil⟩, (Below.refl _ w).alloc (Nat.le_refl _) _⟩
  case round =>
    obtain ⟨k, hk, rfl, rfl, hS, hB⟩ := hrel
    by_cases hlt : k < cs.length
    · have e' := HA'.out (by omega)
      subst e'
      have hc1 : wr.cell? ⟨b', off' + k, none⟩ = some (.int .i64 (zAt cs k)) := (hB.cell (p := ⟨b', off' + k, none⟩) (cell_lt (HC.out k hlt))).trans (HC.out k hlt)
      have hle := cutAt_le bs.length cs k
      have hle1 := cutAt_le bs.length cs (k + 1)
      have hmo := cutAt_mono bs.length cs k
      have hmm : min (max (zAt cs k) (cutAt bs.length cs k)) (bs.length : Int) = (cutAt bs.length cs (k + 1) : Int) := by simp only [cutAt]; omega
      obtain ⟨xs, x1, x2, x3, x4⟩ := hS
      have s1 := hB.size
      have HXS : Hid (∀ x ∈ xs, wr.ownsRow w.heap.size 5 1 x.1 x.2.1.length (bvs x.2.1)) := x3
      have HL : Hid ((cutS bs cs k).length = cutAt bs.length cs (k + 1) - cutAt bs.length cs k) := cutS_length bs cs k
      have hxk : xs.length = k := by have := congrArg List.length x1; simpa [cutL_length] using this
      rw [cutL_length] at x2
      have HF4 : Hid (xs.Pairwise (fun x y => ∀ k, x.1.ownBlock = some k → y.1.ownBlock ≠ some k)) := x4
      clear x3 x4
      go_wp2_with (first
        | (go_at_call 29; refine (clone_calls _ (cutS bs cs k) w.heap.size _ (by have := HL.out; omega) (by have := HL.out; first | exact part_zero (by omega) (by omega) | exact part_pos HA.out (fun h => cell_lt (HX.out 0 h)) (by omega) (fun j hj => (hB.cell (p := ⟨b, off + j, none⟩) (cell_lt (HX.out j hj))).trans (HX.out j hj)) _ _ _ hmo hle1 (by omega))).mono ?_; rintro e w1 ⟨d, rfl, ho, hb1⟩; obtain ⟨da, dc, rfl⟩ := owns_slice ho)
        | (at_builtin; refine wpList_append_own _ rfl _ _ 28 rfl w.heap.size 55 i0 (.agg #[.slice none 0 0, .bool false]) 2 32 Try.underlying28 hi hz0 hz1 hz2 rfl (by decide) _ _ _ rfl ((owns_below x2 hb1).alloc _) ⟨w1.heap.size, 0, none⟩ 1 1 [.slice da (cutS bs cs k).length dc, .bool false] rfl rfl (cells_two _ _ _ _ _ rfl) (by simp [Value.oneCell']) (by unfold maxLen; omega) (by omega) (by have := hb1.size; simp; omega) ?_; intro v' w4 hown' hgrow _))
      all_goals
        go_roundw
        case rel =>
          have H : OwnS w.heap.size 55 w4 v' (cutL bs cs (k + 1)) ∧ Below w.heap.size w w4 := by
            rw [cutL_succ]
            exact ⟨OwnS.snoc (by decide) x1 (by rw [cutL_length]; exact (owns_below x2 hb1).alloc _) (fun x hx => ((owns_below (HXS.out x hx) hb1).alloc _)) ((owns_mono ho s1).alloc _) (by rw [cutL_length]; exact hown') hgrow HF4.out (fun x hx k e e' => by have := ((HXS.out x hx).lt k e).2; have := (ho.lt k e').1; omega), ((hB.trans (hb1.mono s1)).alloc (by have := hb1.size; omega) _).grown hgrow (by have := hb1.size; simp; omega) (fun j hj => (x2.lt j hj).1)⟩
          first
            | exact ⟨k + 1, by omega, by go_num, by congr 1; omega, H⟩
            | exact ⟨_, _, _, _, _, ⟨k + 1, by omega, by go_num, by congr 1; omega, H⟩, rfl, rfl, rfl, rfl, rfl⟩
        case measure => simp [intOf]; omega
    · obtain rfl : k = cs.length := by omega
      obtain ⟨xs, x1, x2, x3, x4⟩ := hS
      have s1 := hB.size
      have hle := cutAt_le bs.length cs cs.length
      have HXS : Hid (∀ x ∈ xs, wr.ownsRow w.heap.size 5 1 x.1 x.2.1.length (bvs x.2.1)) := x3
      have HL : Hid ((bs.drop (cutAt bs.length cs cs.length)).length = bs.length - cutAt bs.length cs cs.length) := List.length_drop ..
      have HT : Hid ((bs.drop (cutAt bs.length cs cs.length)).take (bs.length - cutAt bs.length cs cs.length) = bs.drop (cutAt bs.length cs cs.length)) := List.take_of_length_le (by simp)
      rw [cutL_length] at x2
      have HF4 : Hid (xs.Pairwise (fun x y => ∀ k, x.1.ownBlock = some k → y.1.ownBlock ≠ some k)) := x4
      clear x3 x4
      go_wp2_with (first
        | (go_at_call 29; refine (clone_calls _ (bs.drop (cutAt bs.length cs cs.length)) w.heap.size _ (by have := HL.out; omega) (by have := HL.out; first | exact part_zero (by omega) (by omega) | (have h := HT.out; rw [← h]; exact part_pos HA.out (fun h => cell_lt (HX.out 0 h)) (by omega) (fun j hj => (hB.cell (p := ⟨b, off + j, none⟩) (cell_lt (HX.out j hj))).trans (HX.out j hj)) _ _ _ hle (Nat.le_refl _) (by omega)))).mono ?_; rintro e w1 ⟨d, rfl, ho, hb1⟩; obtain ⟨da, dc, rfl⟩ := owns_slice ho; generalize hlen : (bs.drop (cutAt bs.length cs cs.length)).length = len at *)
        | (at_builtin; refine wpList_append_own _ rfl _ _ 28 rfl w.heap.size 55 i0 (.agg #[.slice none 0 0, .bool false]) 2 32 Try.underlying28 hi hz0 hz1 hz2 rfl (by decide) _ _ _ rfl ((owns_below x2 hb1).alloc _) ⟨w1.heap.size, 0, none⟩ 1 1 [.slice da len dc, .bool fail] rfl rfl (cells_two _ _ _ _ _ rfl) (by simp [Value.oneCell']) (by unfold maxLen; omega) (by omega) (by have := hb1.size; simp; omega) ?_; intro v' w4 hown' hgrow _))
      all_goals go_ret
      all_goals exact ⟨_, rfl, by
            unfold cut
            exact OwnS.snoc (by decide) x1 (by rw [cutL_length]; exact (owns_below x2 hb1).alloc _) (fun x hx => ((owns_below (HXS.out x hx) hb1).alloc _)) ((owns_mono (by rw [hlen]; exact ho) s1).alloc _) (by rw [cutL_length]; exact hown') hgrow HF4.out (fun x hx k e e' => by have := ((HXS.out x hx).lt k e).2; have := (ho.lt k e').1; omega), ((hB.trans (hb1.mono s1)).alloc (by have := hb1.size; omega) _).grown hgrow (by have := hb1.size; simp; omega) (fun j hj => (x2.lt j hj).1)⟩

/-- **Cut of any bytes at any places.** -/
theorem cut_calls (v v' : Value) (bs : List UInt8) (cs : List Int) (n₀ : Nat) (fail : Bool) (w : World) (hl : bs.length ≤ 140737488355328) (hm : cs.length ≤ 1000000000000) (hb : HasB n₀ w v bs) (hc : HasI .i64 w v' cs) :
    Calls Try.prog 18 #[v, v', .bool fail] w fun e W' => ∃ v, e = .returned v ∧ OwnS w.heap.size 55 W' v (cut bs cs fail) ∧ Below w.heap.size w W' := by
  have B : ∃ a b off cap, v = .slice a bs.length cap ∧ (bs.length : Int) ≤ cap ∧ (0 < bs.length → a = some ⟨b, off, none⟩) ∧ ∀ j, j < bs.length → w.cell? ⟨b, off + j, none⟩ = some (.int .u8 (byteAt bs j)) := by
    rcases hb with ⟨rfl, a, cap, rfl⟩ | ⟨hp, b, off, cap, rfl, hcap, _, hx⟩
    · exact ⟨a, 0, 0, cap, rfl, by simp, fun h => by simp at h, fun j hj => by simp at hj⟩
    · exact ⟨_, b, off, cap, rfl, by omega, fun _ => rfl, hx⟩
  have C : ∃ a b off cap, v' = .slice a cs.length cap ∧ (0 < cs.length → a = some ⟨b, off, none⟩) ∧ ∀ j, j < cs.length → w.cell? ⟨b, off + j, none⟩ = some (.int .i64 (zAt cs j)) := by
    rcases hc with ⟨rfl, a, cap, rfl⟩ | ⟨hp, b, off, cap, rfl, hcap, hx⟩
    · exact ⟨a, 0, 0, cap, rfl, fun h => by simp at h, fun j hj => by simp at hj⟩
    · exact ⟨_, b, off, cap, rfl, fun _ => rfl, hx⟩
  obtain ⟨a, b, off, cap, rfl, h1, h2, h3⟩ := B
  obtain ⟨a', b', off', cap', rfl, g2, g3⟩ := C
  exact cut_calls1 bs cs a a' b off cap b' off' cap' fail w (by omega) (by omega) h2 h1 h3 g2 g3
end Go.Proofs.Ytkpjmcoihbebkaa.C
