/- What is proved here: appending texts in a region that draws its order; Apply of the document; spoil of the statements of layer 16. -/
import Derived.Deep.RegionHeld3
import Derived.Maps.AppendAt
import Derived.Test.YtdkcibafbdmajaaNeApply
namespace Go.Proofs.Ytdkcibafbdmajaa.E
open Go.RowKit Go.Shelf Go.WideMaps Go.Maps Go.Proofs.Ytdkcibafbdmajaa.N Go.Proofs.Ytdkcibafbdmajaa.C

theorem step_texts {w : World} {ops : Array Oper} {o : Oper} {a : Act} {K : Act → World → Prop} {Q : Exit → Act → World → Prop} {E : Prop} (hgd : o.guard = none) (s x : Operand)
    (ho : o.op = .call { callee := .builtin .append, args := #[s, x], argTypes := #[22, 22] }) (base : Nat)
    (v : Value) (L0 : List Txt) (hs : a.eval s = v) (hown : OwnT base w v L0) (xa : Option Addr) (cap : Nat) (L : List Txt) (hx : a.eval x = .slice xa L.length cap) (hX : Txts w xa L cap)
    (h63 : L0.length + L.length ≤ 1000000000000) (hbase : base ≤ w.heap.size)
    (h : ∀ v' w', OwnT base w' v' (L0 ++ L) → w.grownBy w' v.ownBlock → K (a.put o.dst v') w') :
    if Region.wanted o (yielded ops a.tmps) = true then Oper.wp Try.prog o a w K Q else E := by
  have hw : Region.wanted o (yielded ops a.tmps) = true := by simp [Region.wanted, hgd]
  rw [if_pos hw]
  obtain ⟨i0, hi, hz0, hz1, hz2⟩ := info_parts infoStr
  cases xa with
  | none =>
    obtain rfl := hX.nil rfl
    obtain rfl : L = [] := List.eq_nil_of_length_eq_zero (by have := hX.cap; omega)
    have hrun := run_append_owned_none (P := Try.prog) (w := w) base 22 o.type _ i0 1 Try.underlying22 hi v _ _ hown
    have hK := h v w (by rw [List.append_nil]; exact hown) (World.grownBy.refl _ _)
    unfold Oper.wp
    simp [execOp, ho, resolve, invoke, builtin, hs, hx, hrun, Result.andThen]
    exact hK
  | some ad =>
    have hc : ∀ j u, (svs L)[j]? = some u → w.cell? (ad.add j) = some u := fun j u hj => by
      have hj' : j < L.length := by rw [← svs_len]; exact (List.getElem?_eq_some_iff.1 hj).1
      obtain ⟨b, off, e, hcell⟩ := hX.txt j hj'
      obtain rfl : ad = ⟨b, off, none⟩ := Option.some.inj e
      rw [C.add_none, hcell, ← hj]
      simp [svs, hj', List.getD]
    exact wp_append_own w s x _ ho base _ i0 (.string ⟨#[]⟩) 1 16 Try.underlying22 hi hz0 hz1 hz2 rfl (by decide) v _ _ hs hown ad L.length cap (svs L) hx (by rw [svs_len]; omega) hc (svs_one' L) (by unfold maxLen; omega) (by omega) hbase (fun v' w' h1 h2 _ => h v' w' (by
      show w'.ownsRow base _ 1 v' (L0 ++ L).length (svs (L0 ++ L))
      rw [svs_append, List.length_append]
      exact h1) h2)
/-- Texts that are written over. -/
theorem own_store {base g n cap j : Nat} {w : World} {L : List Txt} (hl : L.length = n) (h : OwnT base w (.slice (some ⟨g, 0, none⟩) n cap) L) (x : Txt) : OwnT base (w.setCell ⟨g, j, none⟩ (.string ⟨x.toArray⟩)) (.slice (some ⟨g, 0, none⟩) n cap) (L.set j x) ∧ w.grownBy (w.setCell ⟨g, j, none⟩ (.string ⟨x.toArray⟩)) (some g) := by
  subst hl
  obtain ⟨h1, h2⟩ := World.ownsRow.stored h j (.string ⟨x.toArray⟩)
  refine ⟨?_, h2⟩
  show World.ownsRow _ _ _ _ _ (L.set j x).length (svs (L.set j x))
  have e : svs (L.set j x) = (svs L).set j (.string ⟨x.toArray⟩) := by simp [svs, List.map_set]
  rw [e, List.length_set]
  exact h1
def wSpoilt : Txt := [115, 112, 111, 105, 108, 116]
set_option maxRecDepth 100000 in
set_option maxHeartbeats 2000000 in
theorem spoil_some (base g n cap : Nat) (L : List Txt) (w : World) (hl : L.length = n) (hn : n ≤ 1000000000000) (hO : OwnT base w (.slice (some ⟨g, 0, none⟩) n cap) L) :
    Calls Try.prog 21 #[.slice (some ⟨g, 0, none⟩) n cap] w fun e w' => (∃ v, e = .returned v) ∧ ∃ L', L'.length = n ∧ OwnT base w' (.slice (some ⟨g, 0, none⟩) n cap) L' ∧ w.grownBy w' (some g) := by
  have HL : Hid (L.length = n) := hl
  have HO := hid_of hO
  clear hl hO
  go_enter Try.func21, Try.ntmps21
  go_wp2
  go_loopw [2, 5] (fun _ i wr => ∃ k : Nat, k ≤ n ∧ i = .int .i64 k ∧ Hid (∃ L', L'.length = n ∧ OwnT base wr (.slice (some ⟨g, 0, none⟩) n cap) L' ∧ w.grownBy wr (some g))) (fun _ i _ => n - (intOf i).toNat)
  case atStart => exact ⟨0, by omega, rfl, L, HL.out, HO.out, World.grownBy.refl _ _⟩
  case round =>
    obtain ⟨k, hk, rfl, hS⟩ := hrel
    by_cases hlt : k < n
    · obtain ⟨L', hl', hO', hg'⟩ := hS.out
      have hc : ∃ u, wr.cell? ⟨g, k, none⟩ = some u := by
        subst hl'
        exact ⟨(svs L')[k]'(by rw [svs_len]; exact hlt), by rw [World.ownsRow.cellAt hO' k (by omega), List.getElem?_eq_getElem]⟩
      obtain ⟨u, hcell⟩ := hc
      have hfr := (show wr.frozen? ⟨g, k, none⟩ = false by subst hl'; exact World.ownsRow.frozenAt hO' k)
      obtain ⟨s1, s2⟩ := own_store (j := k) hl' hO' wSpoilt
      have HN : Hid (∃ L'', L''.length = n ∧ OwnT base (wr.setCell ⟨g, k, none⟩ (.string ⟨#[115, 112, 111, 105, 108, 116]⟩)) (.slice (some ⟨g, 0, none⟩) n cap) L'' ∧ w.grownBy (wr.setCell ⟨g, k, none⟩ (.string ⟨#[115, 112, 111, 105, 108, 116]⟩)) (some g)) := ⟨_, by rw [List.length_set]; exact hl', s1, hg'.trans s2⟩
      clear s1 s2 hO' hg' hl'
      go_wp2
      all_goals first
        | exact ⟨⟨k + 1, by omega, by go_num, HN⟩, by simp [intOf]; omega⟩
        | (go_roundw
           case rel => exact ⟨k + 1, by omega, by go_num, HN⟩
           case measure => simp [intOf]; omega)
    · go_wp2
      go_end0
      exact ⟨⟨_, rfl⟩, hS.out⟩
set_option maxRecDepth 100000 in
theorem spoil_none (a : Option Addr) (c : Nat) (w : World) : Calls Try.prog 21 #[.slice a 0 c] w fun e W' => (∃ v, e = .returned v) ∧ W' = w := by
  go_enter Try.func21, Try.ntmps21
  go_wp2
  go_loopw [2, 5] (fun _ i wr => i = .int .i64 0 ∧ wr = w) (fun _ _ _ => 0)
  case atStart => exact ⟨rfl, rfl⟩
  case round =>
    obtain ⟨rfl, rfl⟩ := hrel
    go_wp2
    go_end0
    exact ⟨⟨_, rfl⟩, rfl⟩
/-- **spoil.** -/
theorem spoil_calls (base : Nat) (v : Value) (L : List Txt) (w : World) (hn : L.length ≤ 1000000000000) (hO : OwnT base w v L) :
    Calls Try.prog 21 #[v] w fun e w' => (∃ v, e = .returned v) ∧ ∃ L', L'.length = L.length ∧ OwnT base w' v L' ∧ w.grownBy w' v.ownBlock := by
  obtain ⟨a, c, rfl⟩ := owns_slice hO
  by_cases h0 : L.length = 0
  · rw [h0] at hO ⊢
    exact (spoil_none a c w).mono fun e W' ⟨h1, h2⟩ => ⟨h1, L, h0, by rw [h2]; exact hO, by rw [h2]; exact World.grownBy.refl _ _⟩
  · rcases hO.2 with ⟨_, e0⟩ | ⟨g, cap, cur, e, _⟩
    · exact absurd e0 h0
    · injection e with e1 _ e2
      subst e1 e2
      exact spoil_some base g _ _ L w rfl hn hO
set_option maxRecDepth 100000 in
set_option maxHeartbeats 4000000 in
/-- **Apply** of the document. -/
theorem LApply_calls (S L : List Txt) (z : Int) (d : Bool) (ad : Addr) (la : Option Addr) (c lc : Nat) (w : World) (hT : Txts w (some ad) S c) (hQ : Txts w la L lc) (hS : S.length ≤ 10000000) (hL : L.length ≤ 10000000) (hz0 : 0 ≤ z) (hz1 : z ≤ S.length) :
    Calls Try.prog 51 #[.slice (some ad) S.length c, .agg #[.int .i64 z, .slice la L.length lc, .bool d]] w fun e w' =>
      ∃ v cv, e = .returned (.slice v (applyL S z L).length cv) ∧ OwnT w.heap.size w' (.slice v (applyL S z L).length cv) (applyL S z L) ∧ Below w.heap.size w w' := by
  obtain ⟨W1, hW1⟩ : ∃ W, w.alloc (.cells #[.int .i64 z, .slice la L.length lc, .bool d] 27) = W := ⟨_, rfl⟩
  have b1 : Below w.heap.size w W1 := by rw [← hW1]; exact (Below.refl _ w).alloc (Nat.le_refl _) _
  have q1 : Blk W1 w.heap.size #[.int .i64 z, .slice la L.length lc, .bool d] 27 := by rw [← hW1]; exact Blk.new _ _ _
  have HW : Hid (w.alloc (.cells #[.int .i64 z, .slice la L.length lc, .bool d] 27) = W1) := hW1
  have c0 : W1.cell? ⟨w.heap.size, 0, none⟩ = some (.int .i64 z) := q1.cell 0
  have c1 : W1.cell? ⟨w.heap.size, 1, none⟩ = some (.slice la L.length lc) := q1.cell 1
  have HB1 := hid_of b1
  have HQ1 := hid_of q1
  have HT1 := hid_of (hT.below b1)
  have HL1 := hid_of (hQ.below b1)
  clear hT hQ b1 q1 hW1
  obtain ⟨q, hq⟩ : ∃ q : Nat, (S.length : Int) - z = (q : Int) := ⟨((S.length : Int) - z).toNat, by omega⟩
  have hqs : q ≤ S.length := by omega
  have HAP : Hid (applyL S z L = S.take q ++ L) := by show _ = _; unfold applyL; congr 2; omega
  have hw : IntKind.i64.wrap ((S.length : Int) - z) = (q : Int) := by rw [IntKind.wrap_i64]; omega
  have hqi : (q : Int) ≤ (c : Int) := by have := HT1.out.cap; omega
  have hqc : q ≤ c := by have := HT1.out.cap; omega
  have hq0 : (0 : Int) ≤ (q : Int) := by omega
  have hln : (S.take q).length = q := by rw [List.length_take]; omega
  have HLN := hid_of hln
  have HTK : Hid (Txts W1 (some ad) (S.take q) c) := txts_take HT1.out q hqs (.inl (by simp))
  rw [HAP.out]
  clear hz0 hz1 hq hln
  go_enter Try.func51, Try.ntmps51
  go_upto_region 1 with fail
  rw [HW.out]
  clear HW
  have HLIT : Hid (∀ W : World, W.heap.size = W1.heap.size → OwnT W1.heap.size (W.alloc (.cells #[] 9)) (.slice (some ⟨W1.heap.size, 0, none⟩) 0 0) []) := fun W e => by
    have h := World.ownsRow_lit (e := 9) (size := 1) W #[] 0 (by rw [e]; exact Nat.le_refl _) (by unfold maxLen; omega) (by simp)
    rw [e] at h
    exact h
  go_region_held3 (fun w' => w'.cell? ⟨w.heap.size, 0, none⟩ = some (.int .i64 z) ∧ w'.cell? ⟨w.heap.size, 1, none⟩ = some (.slice la L.length lc)) (first | exact ⟨c0, c1⟩ | exact ⟨d0, d1⟩ | exact ⟨g0, g1⟩ | go_keep) (first
    | (refine step_texts rfl _ _ rfl W1.heap.size (.slice (some ⟨W1.heap.size, 0, none⟩) 0 0) [] (by simp [Act.eval]) (by first | exact HLIT.out W1 rfl | exact HLIT.out W1.drew rfl | exact HLIT.out _ rfl) (some ad) c (S.take q) (by rw [HLN.out]; simp [Act.eval]) (HTK.out.below (by first | exact (Below.refl _ W1).drew.alloc (by simp) _ | exact (Below.refl _ W1).alloc (by simp) _)) (by simp; omega) (by simp) ?_; intro v' w4 hown' hgrow; rw [List.nil_append] at hown'; obtain ⟨a2, c2, rfl⟩ := owns_slice hown'; have HO4 : Hid (OwnT W1.heap.size w4 (.slice a2 q c2) (S.take q)) := (by have h := hown'; rwa [HLN.out] at h); have hk4 : Below W1.heap.size W1 w4 := (by first | exact ((Below.refl _ W1).drew.alloc (by simp) _).grown hgrow (by simp) (fun j hj => by cases hj; simp) | exact ((Below.refl _ W1).alloc (by simp) _).grown hgrow (by simp) (fun j hj => by cases hj; simp)); have HK4 := hid_of hk4; have HB4 : Hid (Below w.heap.size w w4) := HB1.out.trans (hk4.mono HB1.out.size); have q4 := HQ1.out.below hk4; have d0 : w4.cell? ⟨w.heap.size, 0, none⟩ = some (.int .i64 z) := q4.cell 0; have d1 : w4.cell? ⟨w.heap.size, 1, none⟩ = some (.slice la L.length lc) := q4.cell 1; have HL4 : Hid (Txts w4 la L lc) := HL1.out.below hk4; clear hk4 q4 hown' hgrow)
    | (refine step_texts rfl _ _ rfl W1.heap.size (.slice a2 q c2) (S.take q) (by simp [Act.eval]; omega) HO4.out la lc L (by simp [Act.eval]) HL4.out (by rw [HLN.out]; omega) HK4.out.size ?_; intro v' w5 hown5 hgrow5; obtain ⟨a3, c3, rfl⟩ := owns_slice hown5; have hk5 := HK4.out.grown hgrow5 HK4.out.size (fun j hj => (HO4.out.lt j hj).1); have q5 := HQ1.out.below hk5; have g0 : w5.cell? ⟨w.heap.size, 0, none⟩ = some (.int .i64 z) := q5.cell 0; have g1 : w5.cell? ⟨w.heap.size, 1, none⟩ = some (.slice la L.length lc) := q5.cell 1; clear hk5 q5))
  go_wp2
  go_ret
  exact ⟨a3, c3, (by rw [List.length_append, HLN.out]; rfl), own_low hown5 HB1.out.size, HB4.out.grown hgrow5 HB4.out.size (fun j hj => Nat.le_trans HB1.out.size (HO4.out.lt j hj).1)⟩
end Go.Proofs.Ytdkcibafbdmajaa.E
