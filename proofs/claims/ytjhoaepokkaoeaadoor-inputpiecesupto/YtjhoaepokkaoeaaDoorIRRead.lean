/- What is proved here: the contract of the document's own Read (sieveref03): for any bytes, it returns the same cells in new memory. -/
import Derived.Test.YtjhoaepokkaoeaaDoorMathK
import Derived.Test.YtjhoaepokkaoeaaDoorRef
import Derived.Test.YtjhoaepokkaoeaaDoorIRead
namespace Go.Proofs.YtjhoaepokkaoeaaDoor.U
open Go.RowKit Go.Shelf

theorem pcsF_lt : ∀ f at0 (bs : List UInt8), ∀ p ∈ pcsF f at0 bs, p.r < 1114112 ∧ p.pos < at0 + bs.length
  | 0, _, _, p, hp => by simp [pcsF] at hp
  | f + 1, at0, bs, p, hp => by
    unfold pcsF at hp
    split at hp
    · simp at hp
    · rename_i h0
      rcases List.mem_cons.1 hp with rfl | hp
      · exact ⟨rune_lt bs (by omega), by simp only; omega⟩
      · have := pcsF_lt f _ _ p hp
        have h1 := nextN_len bs (by omega)
        simp only [List.length_drop] at this
        exact ⟨this.1, by omega⟩
theorem toks_drop (bs : List UInt8) (k : Nat) (h : k < (pcs bs).length) : (toks bs).drop k = ((pcs bs)[k].pos, (pcs bs)[k].r) :: (toks bs).drop (k + 1) := by
  have hl : k < (toks bs).length := by rw [toks_pcs]; simpa using h
  rw [List.drop_eq_getElem_cons hl]
  congr 1
  simp [toks_pcs]
theorem refN_plain (l c p r : Nat) (ts : List (Nat × Nat)) (h : ¬ (r = 13 ∧ ∃ q, ts.head? = some (q, 10))) : refN l c ((p, r) :: ts) = ⟨plainN r, p, l, c⟩ :: refN (if plainN r = 10 then l + 1 else l) (if plainN r = 10 then 1 else c + 1) ts := by
  match ts, h with
  | [], _ => simp [refN]
  | (q, s) :: ts, h =>
    rw [refN, if_neg (fun ⟨a, b⟩ => h ⟨a, q, by rw [b]; rfl⟩)]
theorem refN_join (l c p q : Nat) (ts : List (Nat × Nat)) : refN l c ((p, 13) :: (q, 10) :: ts) = ⟨10, p, l, c⟩ :: refN (l + 1) 1 ts := by
  rw [refN, if_pos ⟨rfl, rfl⟩, plain_10]

theorem rplainN_calls (r : Nat) (h : r < 1114112) (w : World) : Calls Tryd.prog 42 #[.int .i32 (r : Int)] w fun e w' => e = .returned (.int .i32 ((plainN r : Nat) : Int)) ∧ w' = w := by
  rw [plainN_eq]
  exact rplain_calls r (by omega) (by omega) w
theorem cvs_snoc (out : List Cn) (r y l c : Nat) : (out ++ [(⟨r, y, l, c⟩ : Cn)]).flatMap cvs = out.flatMap cvs ++ [.int .i32 (r : Int), .int .i64 (y : Int), .int .i64 (l : Int), .int .i64 (c : Int)] := by simp [cvs]

set_option maxRecDepth 100000 in
set_option maxHeartbeats 4000000 in
/-- **sieveref03.Read of any bytes.** -/
theorem rread_calls (v : Value) (bs : List UInt8) (n₀ : Nat) (w : World) (hl : bs.length ≤ 2199023255552) (hH : HasB n₀ w v bs) :
    Calls Tryd.prog 23 #[v] w fun e W' => ∃ u, e = .returned u ∧ W'.ownsRow w.heap.size 62 4 u (cellsOf bs).length ((cellsOf bs).flatMap cvs) ∧ Below w.heap.size w W' := by
  obtain ⟨i0, hi, hz0, hz1, hz2⟩ := info_parts infoCell
  have HP : Hid (Calls Tryd.prog 17 #[v] w fun e W' => ∃ v, e = .returned v ∧ W'.ownsRow w.heap.size 48 4 v (pcs bs).length ((pcs bs).flatMap pcCells) ∧ Below w.heap.size w W') := pieces_calls v bs n₀ w (by omega) hH
  have hpl := pcs_length bs
  clear hH
  go_enter Tryd.func23, Tryd.ntmps23
  go_wp2_with (go_at_call 17; refine HP.out.mono ?_; rintro e w2 ⟨vl, rfl, hown2, hb2⟩; obtain ⟨al, cl, rfl⟩ := owns_slice hown2)
  have s2 := hb2.size
  go_loopw [3, 4, 5, 7] (fun v li co i wr => ∃ (k l c : Nat) (out : List Cn), k ≤ (pcs bs).length ∧ i = .int .i64 k ∧ li = .int .i64 l ∧ co = .int .i64 c ∧ l ≤ k + 1 ∧ c ≤ k + 1 ∧ out.length ≤ k ∧ Hid (cellsOf bs = out ++ refN l c ((toks bs).drop k)) ∧ wr.ownsRow w2.heap.size 62 4 v out.length (out.flatMap cvs) ∧ Below w2.heap.size w2 wr) (fun _ _ _ i _ => (pcs bs).length - (intOf i).toNat)
  case atStart => exact ⟨0, 1, 1, [], by omega, rfl, rfl, rfl, by omega, by omega, by simp, by show _ = _; rw [cells_ref]; simp, World.ownsRow_nil _ _ _ _, Below.refl _ _⟩
  case round =>
    obtain ⟨k, l, c, out, hk, rfl, rfl, rfl, hlk, hck, hok, hx, hrow, hB⟩ := hrel
    by_cases hlt : k < (pcs bs).length
    · obtain ⟨gl, rfl, hgb, hgl, r0, p0, q0, o0⟩ := owns_piece hown2 k hlt
      have r1 := (hB.cell (p := ⟨gl, k * 4, none⟩) hgl).trans r0
      have p1 := (hB.cell (p := ⟨gl, k * 4 + 1, none⟩) hgl).trans p0
      have s1 := hB.size
      have hd : Hid ((toks bs).drop k = ((pcs bs)[k].pos, (pcs bs)[k].r) :: (toks bs).drop (k + 1)) := toks_drop bs k hlt
      obtain ⟨hr1, hr2⟩ := pcsF_lt _ _ _ (pcs bs)[k] (List.getElem_mem hlt)
      obtain ⟨pr, hpr⟩ : ∃ pr, (pcs bs)[k] = pr := ⟨_, rfl⟩
      rw [hpr] at r1 p1 hd hr1 hr2
      clear r0 p0 q0 o0 hpr
      by_cases h13 : pr.r = 13
      · have e13 : plainN pr.r = 10 := by rw [h13]; exact plain_13
        have t13 : ((pr.r : Int) == 13) = true := by simp [h13]
        have t10 : ((plainN pr.r : Int) == 10) = true := by simp [e13]
        by_cases hnx : k + 1 < (pcs bs).length
        · obtain ⟨gl', hgl', _, _, r0', _, _, _⟩ := owns_piece hown2 (k + 1) hnx
          obtain rfl : gl = gl' := by cases hgl'; rfl
          have r2 := (hB.cell (p := ⟨gl, (k + 1) * 4, none⟩) hgl).trans r0'
          have hd2 : Hid ((toks bs).drop (k + 1) = ((pcs bs)[k + 1].pos, (pcs bs)[k + 1].r) :: (toks bs).drop (k + 2)) := toks_drop bs (k + 1) hnx
          obtain ⟨hr3, _⟩ := pcsF_lt _ _ _ (pcs bs)[k + 1] (List.getElem_mem hnx)
          obtain ⟨ps, hps⟩ : ∃ ps, (pcs bs)[k + 1] = ps := ⟨_, rfl⟩
          rw [hps] at r2 hd2 hr3
          clear hps r0' hgl'
          by_cases hs10 : ps.r = 10
          · have es : plainN ps.r = 10 := by rw [hs10]; exact plain_10
            have u10 : ((ps.r : Int) == 10) = true := by simp [hs10]
            have v10 : ((plainN ps.r : Int) == 10) = true := by simp [es]
            have hn : Hid (cellsOf bs = (out ++ [⟨plainN ps.r, pr.pos, l, c⟩]) ++ refN (l + 1) 1 ((toks bs).drop (k + 2))) := by
              show _ = _
              rw [hx.out, hd.out, hd2.out, h13, hs10, refN_join]
              simp [plain_10]
            have H13 : Hid (pr.r = 13) := h13
            have H10 : Hid (ps.r = 10) := hs10
            have E1 : Hid (plainN pr.r = 10) := e13
            have E2 : Hid (plainN ps.r = 10) := es
            clear h13 hs10 e13 es
            go_wp2_with (first | (go_at_call 42; refine (rplainN_calls _ (by omega) _).mono ?_; rintro e w' ⟨rfl, hw'⟩; obtain rfl : wr = w' := hw'.symm) | (at_builtin; refine wpList_append_own _ rfl _ _ 53 rfl w2.heap.size 62 i0 (.agg #[.int .i32 0, .int .i64 0, .int .i64 0, .int .i64 0]) 4 32 Tryd.underlying53 hi hz0 hz1 hz2 rfl (by decide) _ _ _ rfl (hrow.alloc _) ⟨wr.heap.size, 0, none⟩ 1 1 [.int .i32 ((plainN ps.r : Nat) : Int), .int .i64 (pr.pos : Int), .int .i64 (l : Int), .int .i64 (c : Int)] rfl rfl (cell_four _ _ _ _ _ _) (fun u hu => by simp at hu; rcases hu with rfl | rfl | rfl | rfl <;> rfl) (by unfold maxLen; omega) (by omega) (by simp; omega) ?_; intro v' w4 hown' hgrow _))
            go_roundw
            case rel => exact ⟨k + 2, l + 1, 1, out ++ [⟨plainN ps.r, pr.pos, l, c⟩], by omega, by go_num, by go_num, by go_num, by omega, by omega, by simp; omega, hn, by rw [cvs_snoc, List.length_append]; exact hown', ((hB.alloc (by omega) _).grown hgrow (by simp; omega) (fun j hj => (hrow.lt j hj).1))⟩
            case measure => simp [intOf]; omega
          · have u10 : ((ps.r : Int) == 10) = false := by simp; omega
            have noj : Hid (¬ (pr.r = 13 ∧ ∃ q, ((toks bs).drop (k + 1)).head? = some (q, 10))) := fun ⟨_, q, hq⟩ => by rw [hd2.out] at hq; simp at hq; exact hs10 hq.2
            have E1 : Hid (plainN pr.r = 10) := e13
            clear h13 e13
            have hn : Hid (cellsOf bs = (out ++ [⟨plainN pr.r, pr.pos, l, c⟩]) ++ refN (l + 1) (1) ((toks bs).drop (k + 1))) := by
              show _ = _
              rw [hx.out, hd.out, refN_plain _ _ _ _ _ noj.out]
              simp [E1.out]
            go_wp2_with (first | (go_at_call 42; refine (rplainN_calls _ (by omega) _).mono ?_; rintro e w' ⟨rfl, hw'⟩; obtain rfl : wr = w' := hw'.symm) | (at_builtin; refine wpList_append_own _ rfl _ _ 53 rfl w2.heap.size 62 i0 (.agg #[.int .i32 0, .int .i64 0, .int .i64 0, .int .i64 0]) 4 32 Tryd.underlying53 hi hz0 hz1 hz2 rfl (by decide) _ _ _ rfl (hrow.alloc _) ⟨wr.heap.size, 0, none⟩ 1 1 [.int .i32 ((plainN pr.r : Nat) : Int), .int .i64 (pr.pos : Int), .int .i64 (l : Int), .int .i64 (c : Int)] rfl rfl (cell_four _ _ _ _ _ _) (fun u hu => by simp at hu; rcases hu with rfl | rfl | rfl | rfl <;> rfl) (by unfold maxLen; omega) (by omega) (by simp; omega) ?_; intro v' w4 hown' hgrow _))
            go_roundw
            case rel => exact ⟨k + 1, l + 1, 1, out ++ [⟨plainN pr.r, pr.pos, l, c⟩], by omega, by go_num, by go_num, by go_num, by omega, by omega, by simp; omega, hn, by rw [cvs_snoc, List.length_append]; exact hown', ((hB.alloc (by omega) _).grown hgrow (by simp; omega) (fun j hj => (hrow.lt j hj).1))⟩
            case measure => simp [intOf]; omega
        · have ht : (toks bs).drop (k + 1) = [] := by rw [toks_pcs]; simp; omega
          have noj : Hid (¬ (pr.r = 13 ∧ ∃ q, ((toks bs).drop (k + 1)).head? = some (q, 10))) := fun ⟨_, q, hq⟩ => by rw [ht] at hq; simp at hq
          have E1 : Hid (plainN pr.r = 10) := e13
          clear h13 e13 ht
          have hn : Hid (cellsOf bs = (out ++ [⟨plainN pr.r, pr.pos, l, c⟩]) ++ refN (l + 1) (1) ((toks bs).drop (k + 1))) := by
            show _ = _
            rw [hx.out, hd.out, refN_plain _ _ _ _ _ noj.out]
            simp [E1.out]
          go_wp2_with (first | (go_at_call 42; refine (rplainN_calls _ (by omega) _).mono ?_; rintro e w' ⟨rfl, hw'⟩; obtain rfl : wr = w' := hw'.symm) | (at_builtin; refine wpList_append_own _ rfl _ _ 53 rfl w2.heap.size 62 i0 (.agg #[.int .i32 0, .int .i64 0, .int .i64 0, .int .i64 0]) 4 32 Tryd.underlying53 hi hz0 hz1 hz2 rfl (by decide) _ _ _ rfl (hrow.alloc _) ⟨wr.heap.size, 0, none⟩ 1 1 [.int .i32 ((plainN pr.r : Nat) : Int), .int .i64 (pr.pos : Int), .int .i64 (l : Int), .int .i64 (c : Int)] rfl rfl (cell_four _ _ _ _ _ _) (fun u hu => by simp at hu; rcases hu with rfl | rfl | rfl | rfl <;> rfl) (by unfold maxLen; omega) (by omega) (by simp; omega) ?_; intro v' w4 hown' hgrow _))
          go_roundw
          case rel => exact ⟨k + 1, l + 1, 1, out ++ [⟨plainN pr.r, pr.pos, l, c⟩], by omega, by go_num, by go_num, by go_num, by omega, by omega, by simp; omega, hn, by rw [cvs_snoc, List.length_append]; exact hown', ((hB.alloc (by omega) _).grown hgrow (by simp; omega) (fun j hj => (hrow.lt j hj).1))⟩
          case measure => simp [intOf]; omega
      · have t13 : ((pr.r : Int) == 13) = false := by simp; omega
        have noj : Hid (¬ (pr.r = 13 ∧ ∃ q, ((toks bs).drop (k + 1)).head? = some (q, 10))) := fun ⟨h, _⟩ => h13 h
        by_cases e10 : plainN pr.r = 10
        · have t10 : ((plainN pr.r : Int) == 10) = true := by simp [e10]
          have E1 : Hid (plainN pr.r = 10) := e10
          clear h13 e10
          have hn : Hid (cellsOf bs = (out ++ [⟨plainN pr.r, pr.pos, l, c⟩]) ++ refN (l + 1) (1) ((toks bs).drop (k + 1))) := by
            show _ = _
            rw [hx.out, hd.out, refN_plain _ _ _ _ _ noj.out]
            simp [E1.out]
          go_wp2_with (first | (go_at_call 42; refine (rplainN_calls _ (by omega) _).mono ?_; rintro e w' ⟨rfl, hw'⟩; obtain rfl : wr = w' := hw'.symm) | (at_builtin; refine wpList_append_own _ rfl _ _ 53 rfl w2.heap.size 62 i0 (.agg #[.int .i32 0, .int .i64 0, .int .i64 0, .int .i64 0]) 4 32 Tryd.underlying53 hi hz0 hz1 hz2 rfl (by decide) _ _ _ rfl (hrow.alloc _) ⟨wr.heap.size, 0, none⟩ 1 1 [.int .i32 ((plainN pr.r : Nat) : Int), .int .i64 (pr.pos : Int), .int .i64 (l : Int), .int .i64 (c : Int)] rfl rfl (cell_four _ _ _ _ _ _) (fun u hu => by simp at hu; rcases hu with rfl | rfl | rfl | rfl <;> rfl) (by unfold maxLen; omega) (by omega) (by simp; omega) ?_; intro v' w4 hown' hgrow _))
          go_roundw
          case rel => exact ⟨k + 1, l + 1, 1, out ++ [⟨plainN pr.r, pr.pos, l, c⟩], by omega, by go_num, by go_num, by go_num, by omega, by omega, by simp; omega, hn, by rw [cvs_snoc, List.length_append]; exact hown', ((hB.alloc (by omega) _).grown hgrow (by simp; omega) (fun j hj => (hrow.lt j hj).1))⟩
          case measure => simp [intOf]; omega
        · have t10 : ((plainN pr.r : Int) == 10) = false := by simp; omega
          have E1 : Hid (¬ plainN pr.r = 10) := e10
          clear h13 e10
          have hn : Hid (cellsOf bs = (out ++ [⟨plainN pr.r, pr.pos, l, c⟩]) ++ refN (l) (c + 1) ((toks bs).drop (k + 1))) := by
            show _ = _
            rw [hx.out, hd.out, refN_plain _ _ _ _ _ noj.out]
            simp [E1.out]
          go_wp2_with (first | (go_at_call 42; refine (rplainN_calls _ (by omega) _).mono ?_; rintro e w' ⟨rfl, hw'⟩; obtain rfl : wr = w' := hw'.symm) | (at_builtin; refine wpList_append_own _ rfl _ _ 53 rfl w2.heap.size 62 i0 (.agg #[.int .i32 0, .int .i64 0, .int .i64 0, .int .i64 0]) 4 32 Tryd.underlying53 hi hz0 hz1 hz2 rfl (by decide) _ _ _ rfl (hrow.alloc _) ⟨wr.heap.size, 0, none⟩ 1 1 [.int .i32 ((plainN pr.r : Nat) : Int), .int .i64 (pr.pos : Int), .int .i64 (l : Int), .int .i64 (c : Int)] rfl rfl (cell_four _ _ _ _ _ _) (fun u hu => by simp at hu; rcases hu with rfl | rfl | rfl | rfl <;> rfl) (by unfold maxLen; omega) (by omega) (by simp; omega) ?_; intro v' w4 hown' hgrow _))
          go_roundw
          case rel => exact ⟨k + 1, l, c + 1, out ++ [⟨plainN pr.r, pr.pos, l, c⟩], by omega, by go_num, by go_num, by go_num, by omega, by omega, by simp; omega, hn, by rw [cvs_snoc, List.length_append]; exact hown', ((hB.alloc (by omega) _).grown hgrow (by simp; omega) (fun j hj => (hrow.lt j hj).1))⟩
          case measure => simp [intOf]; omega
    · obtain rfl : k = (pcs bs).length := by omega
      have ht : (toks bs).drop (pcs bs).length = [] := by rw [toks_pcs]; simp
      have hout : cellsOf bs = out := by rw [hx.out, ht]; simp [refN]
      have HO : Hid (cellsOf bs = out) := hout
      obtain ⟨ga, gc, hg⟩ := owns_slice hrow
      subst hg
      clear hout ht
      go_wp2
      go_ret
      refine ⟨_, rfl, ?_, hb2.trans (hB.mono s2)⟩
      rw [HO.out]
      exact ⟨hrow.1, hrow.2.imp id (fun ⟨g, cap, cur, e1, e2, e3⟩ => ⟨g, cap, cur, e1, by omega, e3⟩)⟩

end Go.Proofs.YtjhoaepokkaoeaaDoor.U
