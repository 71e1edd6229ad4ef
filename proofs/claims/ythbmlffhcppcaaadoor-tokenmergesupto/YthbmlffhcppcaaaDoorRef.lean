/- What is proved here: contracts of the document's own Runes, Valid and Text of sieveref01. -/
import Derived.Test.YthbmlffhcppcaaaDoorPieces
import Derived.Test.YthbmlffhcppcaaaDoorEnc
namespace Go.Proofs.YthbmlffhcppcaaaDoor.U
open Go.RowKit Go.Shelf

/-- The runes as numbers. -/
def runesI (bs : List UInt8) : List Int := (pcs bs).map fun p => (p.r : Int)
theorem runesI_length (bs : List UInt8) : (runesI bs).length = (pcs bs).length := by simp [runesI]
theorem runesI_get (bs : List UInt8) (k : Nat) (h : k < (pcs bs).length) : (runesI bs).take (k + 1) = (runesI bs).take k ++ [((pcs bs)[k].r : Int)] := by
  rw [List.take_succ_eq_append_getElem (by simpa [runesI] using h)]; simp [runesI]
theorem cell_one_at (W : World) (a : Value) (t : TypeId) (n : Nat) (hn : n = W.heap.size) : ∀ j u, [a][j]? = some u → (W.alloc (.cells #[a] t)).cell? ((⟨n, 0, none⟩ : Addr).add j) = some u := by
  intro j u h
  subst hn
  rw [add_none, Nat.zero_add]
  have hb := World.alloc_heap_new W (.cells #[a] t)
  simp only [World.cell?, hb]
  simpa using h

set_option maxRecDepth 100000 in
set_option maxHeartbeats 2000000 in
/-- **sieveref01.Valid of any bytes.** -/
theorem rvalid_calls (v : Value) (bs : List UInt8) (n₀ : Nat) (w : World) (hl : bs.length ≤ 4398046511104) (hH : HasB n₀ w v bs) :
    Calls Tryd.prog 46 #[v] w fun e W' => e = .returned (.bool ((pcs bs).all Pc.ok)) ∧ Below w.heap.size w W' := by
  have HP : Hid (Calls Tryd.prog 61 #[v] w fun e W' => ∃ v, e = .returned v ∧ W'.ownsRow w.heap.size 95 4 v (pcs bs).length ((pcs bs).flatMap pcCells) ∧ Below w.heap.size w W') := pieces_calls v bs n₀ w hl hH
  have hpl := pcs_length bs
  clear hH
  go_enter Tryd.func46, Tryd.ntmps46
  go_wp2_with (go_at_call 61; refine HP.out.mono ?_; rintro e w2 ⟨vl, rfl, hown2, hb2⟩; obtain ⟨al, cl, rfl⟩ := owns_slice hown2)
  have s2 := hb2.size
  go_loopw [8] (fun i wr => ∃ k : Nat, k ≤ (pcs bs).length ∧ i = .int .i64 k ∧ Hid (((pcs bs).take k).all Pc.ok = true) ∧ Below w2.heap.size w2 wr) (fun i _ => (pcs bs).length - (intOf i).toNat)
  case atStart => exact ⟨0, by omega, rfl, rfl, Below.refl _ _⟩
  case round =>
    obtain ⟨k, hk, rfl, hall, hB⟩ := hrel
    by_cases hlt : k < (pcs bs).length
    · obtain ⟨gl, rfl, hgb, hgl, r0, p0, q0, o0⟩ := owns_piece hown2 k hlt
      have r1 := (hB.cell (p := ⟨gl, k * 4, none⟩) hgl).trans r0
      have p1 := (hB.cell (p := ⟨gl, k * 4 + 1, none⟩) hgl).trans p0
      have q1 := (hB.cell (p := ⟨gl, k * 4 + 2, none⟩) hgl).trans q0
      have o1 := (hB.cell (p := ⟨gl, k * 4 + 3, none⟩) hgl).trans o0
      have s1 := hB.size
      have hsn : (pcs bs).take (k + 1) = (pcs bs).take k ++ [(pcs bs)[k]] := List.take_succ_eq_append_getElem hlt
      cases ho : (pcs bs)[k].ok with
      | true =>
        have hall2 : Hid (((pcs bs).take (k + 1)).all Pc.ok = true) := by show _ = true; rw [hsn, List.all_append, hall.out]; simp [ho]
        rw [ho] at o1
        clear r0 p0 q0 o0 hsn ho
        go_wp2
        go_roundw
        case rel => exact ⟨k + 1, by omega, by go_num, hall2, hB.alloc (by omega) _⟩
        case measure => simp [intOf]; omega
      | false =>
        have hF : Hid ((pcs bs).all Pc.ok = false) := by
          show _ = false
          rw [List.all_eq_false]; exact ⟨(pcs bs)[k], List.getElem_mem hlt, by simp [ho]⟩
        rw [ho] at o1
        clear r0 p0 q0 o0 hsn ho
        go_wp2
        go_ret
        exact ⟨ret_bool hF.out.symm, hb2.trans ((hB.alloc (by omega) _).mono s2)⟩
    · obtain rfl : k = (pcs bs).length := by omega
      have hT : Hid ((pcs bs).all Pc.ok = true) := by have := hall.out; rw [List.take_length] at this; exact this
      go_wp2
      go_ret
      exact ⟨ret_bool hT.out.symm, hb2.trans (hB.mono s2)⟩

end Go.Proofs.YthbmlffhcppcaaaDoor.U
