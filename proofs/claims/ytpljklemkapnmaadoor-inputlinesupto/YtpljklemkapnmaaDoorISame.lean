/- What is proved here: the law's own comparison of two lists of cells says yes where they are the same; and the document's own Text (sieveref03). -/
import Derived.BigQuiet
import Derived.Deep.QuietTactic
import Derived.WalkSmall
import Derived.Test.YtpljklemkapnmaaDoorIRRead
namespace Go.Proofs.YtpljklemkapnmaaDoor.U
open Go.RowKit Go.Shelf

theorem cvs_get (l : List Cn) (n i : Nat) (hn : n < l.length) (hi : i < 4) : (l.flatMap cvs)[n * 4 + i]? = (cvs l[n])[i]? := by
  induction l generalizing n with
  | nil => simp at hn
  | cons x l ih =>
    cases n with
    | zero =>
      have h4 : (cvs x).length = 4 := rfl
      rw [List.flatMap_cons, Nat.zero_mul, Nat.zero_add, List.getElem?_append_left (by omega)]; rfl
    | succ n =>
      have h4 : (cvs x).length = 4 := rfl
      rw [List.flatMap_cons, List.getElem?_append_right (by omega), h4, show (n + 1) * 4 + i - 4 = n * 4 + i by omega, ih n (by simpa using hn)]
      rfl
theorem owns_cell {W : World} {base : Nat} {e : TypeId} {l : List Cn} {a : Option Addr} {cap : Nat} (h : W.ownsRow base e 4 (.slice a l.length cap) l.length (l.flatMap cvs)) (n : Nat) (hn : n < l.length) :
    ∃ g, a = some ⟨g, 0, none⟩ ∧ base ≤ g ∧ g < W.heap.size ∧ W.cell? ⟨g, n * 4, none⟩ = some (.int .i32 (l[n].r : Int)) ∧ W.cell? ⟨g, n * 4 + 1, none⟩ = some (.int .i64 (l[n].y : Int)) ∧ W.cell? ⟨g, n * 4 + 2, none⟩ = some (.int .i64 (l[n].l : Int)) ∧ W.cell? ⟨g, n * 4 + 3, none⟩ = some (.int .i64 (l[n].c : Int)) := by
  rcases h.2 with ⟨_, h0⟩ | ⟨g, cap', cur, hv, hb, hg, _⟩
  · omega
  · cases hv
    refine ⟨g, rfl, hb, lt_of_block hg, ?_, ?_, ?_, ?_⟩
    · have := cvs_get l n 0 hn (by omega); rw [h.cellAt _ (by omega)]; simpa [cvs] using this
    · have := cvs_get l n 1 hn (by omega); rw [h.cellAt _ (by omega)]; simpa [cvs] using this
    · have := cvs_get l n 2 hn (by omega); rw [h.cellAt _ (by omega)]; simpa [cvs] using this
    · have := cvs_get l n 3 hn (by omega); rw [h.cellAt _ (by omega)]; simpa [cvs] using this

set_option maxRecDepth 100000 in
set_option maxHeartbeats 2000000 in
theorem csame_calls (u u' : Value) (b b' : Nat) (xs : List Cn) (w : World) (hl : xs.length ≤ 2199023255552) (h : w.ownsRow b 36 4 u xs.length (xs.flatMap cvs)) (h' : w.ownsRow b' 36 4 u' xs.length (xs.flatMap cvs)) :
    Calls Tryd.prog 15 #[u, u'] w fun e w' => e = .returned (.bool true) ∧ Below w.heap.size w w' := by
  obtain ⟨a, cap, rfl⟩ := owns_slice h
  obtain ⟨a', cap', rfl⟩ := owns_slice h'
  have H : Hid (w.ownsRow b 36 4 (.slice a xs.length cap) xs.length (xs.flatMap cvs)) := h
  have H' : Hid (w.ownsRow b' 36 4 (.slice a' xs.length cap') xs.length (xs.flatMap cvs)) := h'
  clear h h'
  have hne : ((xs.length : Int) != (xs.length : Int)) = false := by simp
  go_enter Tryd.func15, Tryd.ntmps15
  go_wp2
  go_loopw [13] (fun i wr => ∃ k : Nat, k ≤ xs.length ∧ i = .int .i64 k ∧ Below w.heap.size w wr) (fun i _ => xs.length - (intOf i).toNat)
  case atStart => exact ⟨0, by omega, rfl, Below.refl _ _⟩
  case round =>
    obtain ⟨k, hk, rfl, hB⟩ := hrel
    by_cases hlt : k < xs.length
    · obtain ⟨g, rfl, _, hg, c0, c1, c2, c3⟩ := owns_cell H.out k hlt
      obtain ⟨g', rfl, _, hg', d0, d1, d2, d3⟩ := owns_cell H'.out k hlt
      obtain ⟨x, hx⟩ : ∃ x, xs[k] = x := ⟨_, rfl⟩
      rw [hx] at c0 c1 c2 c3 d0 d1 d2 d3
      clear hx
      have c0 := (hB.cell (p := ⟨g, k * 4, none⟩) hg).trans c0
      have c1 := (hB.cell (p := ⟨g, k * 4 + 1, none⟩) hg).trans c1
      have c2 := (hB.cell (p := ⟨g, k * 4 + 2, none⟩) hg).trans c2
      have c3 := (hB.cell (p := ⟨g, k * 4 + 3, none⟩) hg).trans c3
      have d0 := (hB.cell (p := ⟨g', k * 4, none⟩) hg').trans d0
      have d1 := (hB.cell (p := ⟨g', k * 4 + 1, none⟩) hg').trans d1
      have d2 := (hB.cell (p := ⟨g', k * 4 + 2, none⟩) hg').trans d2
      have d3 := (hB.cell (p := ⟨g', k * 4 + 3, none⟩) hg').trans d3
      go_wp2
      go_quiet (fail)
      go_wp2
      go_roundw
      case rel => exact ⟨k + 1, by omega, by go_num, below_drewN hB _⟩
      case measure => simp [intOf]; omega
    · obtain rfl : k = xs.length := by omega
      go_wp2
      go_ret
      exact ⟨rfl, hB⟩

set_option maxRecDepth 100000 in
set_option maxHeartbeats 2000000 in
/-- **sieveref03.Text of any bytes.** -/
theorem rtext_calls (v : Value) (bs : List UInt8) (n₀ : Nat) (w : World) (hl : bs.length ≤ 274877906944) (hlen : (cellsOf bs).length ≤ bs.length) (hH : HasB n₀ w v bs) :
    Calls Tryd.prog 17 #[v] w fun e W' => e = .returned (.string ⟨(encs ((cellsOf bs).map fun x => (x.r : Int))).toArray⟩) ∧ Below w.heap.size w W' := by
  obtain ⟨i0, hi, hz0, hz1, hz2⟩ := info_parts info21
  have HP : Hid (Calls Tryd.prog 14 #[v] w fun e W' => ∃ u, e = .returned u ∧ W'.ownsRow w.heap.size 36 4 u (cellsOf bs).length ((cellsOf bs).flatMap cvs) ∧ Below w.heap.size w W') := rread_calls v bs n₀ w (by omega) hH
  clear hH
  obtain ⟨xs, hxs⟩ : ∃ xs, cellsOf bs = xs := ⟨_, rfl⟩
  rw [hxs] at HP hlen ⊢
  clear hxs
  go_enter Tryd.func17, Tryd.ntmps17
  go_wp2_with (go_at_call 14; refine HP.out.mono ?_; rintro e w2 ⟨vl, rfl, hown2, hb2⟩; obtain ⟨al, cl, rfl⟩ := owns_slice hown2)
  have s2 := hb2.size
  go_loopw [3, 9] (fun v i wr => ∃ k : Nat, k ≤ xs.length ∧ i = .int .i64 k ∧ wr.ownsRow w2.heap.size 21 1 v k (((xs.take k).map fun x => (x.r : Int)).map (Value.int .i32)) ∧ Below w2.heap.size w2 wr) (fun _ i _ => xs.length - (intOf i).toNat)
  case atStart => exact ⟨0, by omega, rfl, World.ownsRow_nil _ _ _ _, Below.refl _ _⟩
  case round =>
    obtain ⟨k, hk, rfl, hrow, hB⟩ := hrel
    by_cases hlt : k < xs.length
    · obtain ⟨g, rfl, _, hg, c0, c1, c2, c3⟩ := owns_cell hown2 k hlt
      have HG : Hid (xs.take (k + 1) = xs.take k ++ [xs[k]]) := List.take_succ_eq_append_getElem hlt
      obtain ⟨x, hx⟩ : ∃ x, xs[k] = x := ⟨_, rfl⟩
      rw [hx] at c0 c1 c2 c3 HG
      clear hx
      have c0 := (hB.cell (p := ⟨g, k * 4, none⟩) hg).trans c0
      have c1 := (hB.cell (p := ⟨g, k * 4 + 1, none⟩) hg).trans c1
      have c2 := (hB.cell (p := ⟨g, k * 4 + 2, none⟩) hg).trans c2
      have c3 := (hB.cell (p := ⟨g, k * 4 + 3, none⟩) hg).trans c3
      have s1 := hB.size
      go_wp2_with (at_builtin; refine wpList_append_own _ rfl _ _ 79 rfl w2.heap.size 21 i0 (.int .i32 0) 1 4 Tryd.underlying79 hi hz0 hz1 hz2 rfl (by decide) _ _ _ rfl ((hrow.alloc _).alloc _) ⟨wr.heap.size + 1, 0, none⟩ 1 1 [.int .i32 (x.r : Int)] rfl rfl (cell_one_at _ _ _ _ (by simp)) (by simp [Value.oneCell']) (by unfold maxLen; omega) (by omega) (by simp; omega) ?_; intro v' w4 hown' hgrow _)
      go_roundw
      case rel => exact ⟨k + 1, by omega, by go_num, by rw [HG.out]; simpa using hown', ((hB.alloc (by omega) _).alloc (by simp; omega) _).grown hgrow (by simp; omega) (fun j hj => (hrow.lt j hj).1)⟩
      case measure => simp [intOf]; omega
    · obtain rfl : k = xs.length := by omega
      rw [List.take_length] at hrow
      have hI : HasI .i32 wr _ (xs.map fun x => (x.r : Int)) := hasI_owns (e := 21) (by simpa using hrow)
      obtain ⟨ga, gc, hg⟩ := owns_slice hrow
      subst hg
      go_wp2_with (go_at_call 42; refine (text_calls _ _ _ (by simp; omega) hI).mono ?_; rintro e w5 ⟨rfl, hb5⟩)
      go_ret
      exact ⟨rfl, (hb2.trans (hB.mono s2)).trans (hb5.mono (by have := hB.size; omega))⟩

end Go.Proofs.YtpljklemkapnmaaDoor.U
