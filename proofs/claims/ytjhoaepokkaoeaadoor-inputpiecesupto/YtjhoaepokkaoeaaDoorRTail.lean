/- What is proved here: the contract of the document's own Tail of sieveref01. -/
import Derived.Test.YtjhoaepokkaoeaaDoorMathT
import Derived.Test.YtjhoaepokkaoeaaDoorRef
namespace Go.Proofs.YtjhoaepokkaoeaaDoor.U
open Go.RowKit Go.Shelf

set_option maxRecDepth 100000 in
set_option maxHeartbeats 2000000 in
/-- **sieveref01.Tail of any bytes.** -/
theorem rtail_calls (v : Value) (bs : List UInt8) (n₀ : Nat) (w : World) (hl : bs.length ≤ 4398046511104) (hH : HasB n₀ w v bs) :
    Calls Tryd.prog 10 #[v] w fun e W' => e = .returned (.int .i64 (tailN bs)) ∧ Below w.heap.size w W' := by
  have HP : Hid (Calls Tryd.prog 17 #[v] w fun e W' => ∃ v, e = .returned v ∧ W'.ownsRow w.heap.size 48 4 v (pcs bs).length ((pcs bs).flatMap pcCells) ∧ Below w.heap.size w W') := pieces_calls v bs n₀ w hl hH
  have hpl := pcs_length bs
  rw [tail_eq]
  by_cases h0 : bs.length = 0
  · have hp0 : (pcs bs).length = 0 := by omega
    have hR : Hid (tailR bs = 0) := by
      have e := List.length_eq_zero_iff.1 h0
      subst e; rfl
    rw [hp0] at HP
    clear hH hp0 hpl h0
    go_enter Tryd.func10, Tryd.ntmps10
    go_wp2_with (go_at_call 17; refine HP.out.mono ?_; rintro e w2 ⟨vl, rfl, hown2, hb2⟩; obtain ⟨al, cl, rfl⟩ := owns_slice hown2)
    go_ret
    exact ⟨by rw [hR.out]; rfl, hb2⟩
  · obtain ⟨p, hp, hlt, hsz, hok, hend⟩ := last_end bs bs.length 0 (by omega) (by omega)
    rw [List.drop_zero] at hp
    have hp' : (pcs bs).getLast? = some p := hp
    have hne : 0 < (pcs bs).length := by
      cases e : pcs bs with
      | nil => rw [e] at hp'; cases hp'
      | cons x l => simp
    have hgl : (pcs bs)[(pcs bs).length - 1]'(by omega) = p := by
      have := List.getLast?_eq_getElem? (l := pcs bs)
      rw [hp', List.getElem?_eq_getElem (by omega)] at this
      exact (Option.some.inj this).symm
    have hR : tailR bs = if p.ok = true ∨ lead (byteAt (bs.drop p.pos) 0) = 0 then 0 else p.sz := by unfold tailR; rw [hp']
    rcases hH with ⟨rfl, _⟩ | ⟨_, b, off, cap, rfl, hcap, _, hx⟩
    · simp at h0
    have HX : Hid (∀ j, j < bs.length → w.cell? ⟨b, off + j, none⟩ = some (.int .u8 (byteAt bs j))) := hx
    clear hx hp
    have h1 : ((pcs bs).length : Int) - 1 = (((pcs bs).length - 1 : Nat) : Int) := by omega
    have GG : Hid (∀ w', Below w.heap.size w w' → Calls Tryd.prog 34 #[.slice (some ⟨b, off + p.pos, none⟩) (bs.length - p.pos) (cap - p.pos)] w' fun e w'' => e = .returned (.tuple #[.int .i64 (glen (bs.drop p.pos)), .bool (nextAll (bs.drop p.pos))]) ∧ Below w'.heap.size w' w'') :=
      fun w' hb => good_at bs b off cap p.pos w' hlt (by omega) (fun j h => (hb.cell (p := ⟨b, off + j, none⟩) (cell_lt (HX.out j h))).trans (HX.out j h))
    have hm : (pcs bs).length - 1 < (pcs bs).length := by omega
    have hz1 : (((pcs bs).length : Int) == 0) = false := beq_eq_false_iff_ne.2 (by omega)
    cases hall : nextAll (bs.drop p.pos) with
    | true =>
      have hS : Hid (tailR bs = 0) := by rw [hR, if_pos (.inl (hok.trans hall))]; rfl
      rw [hall] at GG
      clear hR hall hok hsz hp'
      go_enter Tryd.func10, Tryd.ntmps10
      go_wp2_with (first | (go_at_call 17; refine HP.out.mono ?_; rintro e w2 ⟨vl, rfl, hown2, hb2⟩; obtain ⟨al, cl, rfl⟩ := owns_slice hown2; obtain ⟨gl, rfl, hgb, hgl2, r0, p0, q0, o0⟩ := owns_piece hown2 ((pcs bs).length - 1) hm; rw [hgl] at r0 p0 q0 o0) | (go_at_call 34; refine (GG.out _ (hb2.alloc hb2.size _)).mono ?_; rintro e w3 ⟨rfl, hb3⟩))
      go_ret
      exact ⟨by rw [hS.out]; rfl, (hb2.alloc hb2.size _).trans (hb3.mono (by have := hb2.size; simp; omega))⟩
    | false =>
      by_cases hz : lead (byteAt (bs.drop p.pos) 0) = 0
      · have hS : Hid (tailR bs = 0) := by rw [hR, if_pos (.inr hz)]; rfl
        have e1 : glen (bs.drop p.pos) = 0 := by unfold glen; rw [if_pos hz]
        rw [hall, e1] at GG
        clear hR hall hok hsz hp' hz e1
        go_enter Tryd.func10, Tryd.ntmps10
        go_wp2_with (first | (go_at_call 17; refine HP.out.mono ?_; rintro e w2 ⟨vl, rfl, hown2, hb2⟩; obtain ⟨al, cl, rfl⟩ := owns_slice hown2; obtain ⟨gl, rfl, hgb, hgl2, r0, p0, q0, o0⟩ := owns_piece hown2 ((pcs bs).length - 1) hm; rw [hgl] at r0 p0 q0 o0) | (go_at_call 34; refine (GG.out _ (hb2.alloc hb2.size _)).mono ?_; rintro e w3 ⟨rfl, hb3⟩))
        go_ret
        exact ⟨by rw [hS.out]; rfl, (hb2.alloc hb2.size _).trans (hb3.mono (by have := hb2.size; simp; omega))⟩
      · have hS : Hid (tailR bs = nextN (bs.drop p.pos)) := by
          show tailR bs = _
          rw [hR, if_neg, hsz]
          rintro (a | a)
          · rw [hok, hall] at a; cases a
          · exact hz a
        have e1 : glen (bs.drop p.pos) = nextN (bs.drop p.pos) := by unfold glen nextN; rw [if_neg hz, if_neg hz]
        have hn0 : ((nextN (bs.drop p.pos) : Int) == 0) = false := beq_eq_false_iff_ne.2 (by have := nextN_pos (bs.drop p.pos); omega)
        have hnl : decide ((p.pos : Int) + (nextN (bs.drop p.pos) : Int) < (bs.length : Int)) = false := by simp; omega
        rw [hall, e1] at GG
        rw [hsz] at hend
        clear hR hall hok hsz hp' hz e1
        go_enter Tryd.func10, Tryd.ntmps10
        go_wp2_with (first | (go_at_call 17; refine HP.out.mono ?_; rintro e w2 ⟨vl, rfl, hown2, hb2⟩; obtain ⟨al, cl, rfl⟩ := owns_slice hown2; obtain ⟨gl, rfl, hgb, hgl2, r0, p0, q0, o0⟩ := owns_piece hown2 ((pcs bs).length - 1) hm; rw [hgl] at r0 p0 q0 o0) | (go_at_call 34; refine (GG.out _ (hb2.alloc hb2.size _)).mono ?_; rintro e w3 ⟨rfl, hb3⟩; have hc3 : w3.cell? ⟨w2.heap.size, 1, none⟩ = some (.int .i64 (p.pos : Int)) := (hb3.cell (p := ⟨w2.heap.size, 1, none⟩) (by simp)).trans (by simp)))
        go_ret
        exact ⟨by rw [hS.out]; rfl, (hb2.alloc hb2.size _).trans (hb3.mono (by have := hb2.size; simp; omega))⟩

end Go.Proofs.YtjhoaepokkaoeaaDoor.U
