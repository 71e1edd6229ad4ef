/- What is proved here: laws and contracts of LpAwake, LkOpen, one behind the other (each says its own). -/
import Derived.Test.YtnnajpdliokodaaDoorLpEnc
import Derived.Test.YtnnajpdliokodaaDoorLpDots
import Derived.Test.YtnnajpdliokodaaDoorRows
import Derived.Deep.SlicePairs
import Derived.Deep.Strs
import Derived.Test.YtnnajpdliokodaaDoorBun16
import Derived.Test.YtnnajpdliokodaaDoorBun8
/- What is proved here: the examples of the document that every statement of layer 12 asks first, and the error's number. -/
namespace Go.Proofs.YtnnajpdliokodaaDoor.L
open Go.RowKit Go.Shelf Go.Proofs.YtnnajpdliokodaaDoor.N Go.Proofs.YtnnajpdliokodaaDoor.U

theorem awake_scheme : schemeV (stripL [32, 74, 97, 86, 97, 9, 115, 99, 114, 105, 112, 116, 58, 120]) = .tuple #[.string ⟨#[106, 97, 118, 97, 115, 99, 114, 105, 112, 116]⟩, .bool true] := by
  have h1 : colonL (stripL [32, 74, 97, 86, 97, 9, 115, 99, 114, 105, 112, 116, 58, 120]) = some 10 := by decide +kernel
  have h2 : lower ((stripL [32, 74, 97, 86, 97, 9, 115, 99, 114, 105, 112, 116, 58, 120]).take 10) = [106, 97, 118, 97, 115, 99, 114, 105, 112, 116] := by decide +kernel
  unfold schemeV
  rw [h1]
  simp only
  rw [h2]
theorem awake_encode : encodeM (mendL [97, 32, 98, 37, 50, 103, 34, 195, 169]) = [97, 37, 50, 48, 98, 37, 50, 53, 50, 103, 37, 50, 50, 37, 67, 51, 37, 65, 57] := by decide +kernel
theorem awake_dots : dotsM (mendL [47, 97, 47, 98, 47, 99, 47, 46, 47, 46, 46, 47, 46, 46, 47, 103]) = [47, 97, 47, 103] := by decide +kernel
set_option maxRecDepth 100000 in
set_option maxHeartbeats 2000000 in
/-- **awake.** -/
theorem awake_calls (w : World) (hT : Tb w) : Calls Tryd.prog 10 #[] w fun e w' => e = .returned (.bool true) ∧ Below w.heap.size w w' := by
  have H1 : Hid (Calls Tryd.prog 19 #[.string ⟨#[32, 74, 97, 86, 97, 9, 115, 99, 114, 105, 112, 116, 58, 120]⟩] w fun e W' => e = .returned (.tuple #[.string ⟨#[106, 97, 118, 97, 115, 99, 114, 105, 112, 116]⟩, .bool true]) ∧ Below w.heap.size w W') := by
    have h := scheme_calls [32, 74, 97, 86, 97, 9, 115, 99, 114, 105, 112, 116, 58, 120] w hT (by decide)
    rw [awake_scheme] at h
    exact h
  have H2 : Hid (∀ W, Below w.heap.size w W → Calls Tryd.prog 20 #[.string ⟨#[97, 32, 98, 37, 50, 103, 34, 195, 169]⟩] W fun e W' => e = .returned (.string ⟨#[97, 37, 50, 48, 98, 37, 50, 53, 50, 103, 37, 50, 50, 37, 67, 51, 37, 65, 57]⟩) ∧ Below W.heap.size W W') := fun W hb => by
    have h := encode_calls [97, 32, 98, 37, 50, 103, 34, 195, 169] W (hT.below hb) (by decide)
    rw [awake_encode] at h
    exact h
  have H3 : Hid (∀ W, Below w.heap.size w W → Calls Tryd.prog 12 #[.string ⟨#[47, 97, 47, 98, 47, 99, 47, 46, 47, 46, 46, 47, 46, 46, 47, 103]⟩] W fun e W' => e = .returned (.string ⟨#[47, 97, 47, 103]⟩) ∧ Below W.heap.size W W') := fun W hb => by
    have h := dots_calls [47, 97, 47, 98, 47, 99, 47, 46, 47, 46, 46, 47, 46, 46, 47, 103] W (hT.below hb) (by decide)
    rw [awake_dots] at h
    exact h
  clear hT
  go_enter Tryd.func10, Tryd.ntmps10
  go_wp2_with fail
  (go_at_call 19; refine H1.out.mono ?_; rintro e w1 ⟨rfl, hb1⟩)
  go_wp2_with fail
  (go_at_call 20; refine (H2.out _ hb1).mono ?_; rintro e w2 ⟨rfl, hb2⟩)
  have hb12 := hb1.trans (hb2.mono hb1.size)
  go_wp2_with fail
  (go_at_call 12; refine (H3.out _ hb12).mono ?_; rintro e w3 ⟨rfl, hb3⟩)
  go_wp2_with fail
  go_ret
  exact ⟨rfl, hb12.trans (hb3.mono hb12.size)⟩
theorem bulk_str {H : Type} (b : List UInt8) : Rows.uptoBulk (H := H) (.lit (.string b)) = b.length + 1 := rfl
end Go.Proofs.YtnnajpdliokodaaDoor.L

/- What is proved here: what a link that was handed in reads as in memory, and how many values its datum holds at least. -/
namespace Go.Proofs.YtnnajpdliokodaaDoor.L
open Go.ChangeShapes Go.WideShapes Go.ChangeAt Go.RowKit Go.Shelf Go.Proofs.YtnnajpdliokodaaDoor.N Go.Proofs.YtnnajpdliokodaaDoor.U

theorem trod_struct9 {H : Type} {enc : TypeId × Value → H} {P : Program} {w : World} {base : Nat} {spare : Nat → Bool} {held : Bool} {t : TypeId} {f0 f1 f2 f3 f4 f5 f6 f7 f8 : Field} {fuel : Nat} {cs : List Value} {x : DataW H × List MemPlace} (ht : P.underlying t = some (.struct #[f0, f1, f2, f3, f4, f5, f6, f7, f8])) (h : DataW.trod enc P w base spare held fuel t cs = some x) :
    ∃ y0 y1 y2 y3 y4 y5 y6 y7 y8 n, x.1 = .agg [y0.1, y1.1, y2.1, y3.1, y4.1, y5.1, y6.1, y7.1, y8.1] ∧ DataW.trod enc P w base spare held n f0.type ((cs.drop f0.offset).take (P.cellsOf f0.type)) = some y0 ∧ DataW.trod enc P w base spare held n f1.type ((cs.drop f1.offset).take (P.cellsOf f1.type)) = some y1 ∧ DataW.trod enc P w base spare held n f2.type ((cs.drop f2.offset).take (P.cellsOf f2.type)) = some y2 ∧ DataW.trod enc P w base spare held n f3.type ((cs.drop f3.offset).take (P.cellsOf f3.type)) = some y3 ∧ DataW.trod enc P w base spare held n f4.type ((cs.drop f4.offset).take (P.cellsOf f4.type)) = some y4 ∧ DataW.trod enc P w base spare held n f5.type ((cs.drop f5.offset).take (P.cellsOf f5.type)) = some y5 ∧ DataW.trod enc P w base spare held n f6.type ((cs.drop f6.offset).take (P.cellsOf f6.type)) = some y6 ∧ DataW.trod enc P w base spare held n f7.type ((cs.drop f7.offset).take (P.cellsOf f7.type)) = some y7 ∧ DataW.trod enc P w base spare held n f8.type ((cs.drop f8.offset).take (P.cellsOf f8.type)) = some y8 := by
  obtain ⟨xs, n, _, rfl, hl, hlen, hf⟩ := DataW.trod_struct ht h
  match xs, hlen with
  | [y0, y1, y2, y3, y4, y5, y6, y7, y8], _ => exact ⟨y0, y1, y2, y3, y4, y5, y6, y7, y8, n, by simp, by simpa using hf 0 f0 rfl, by simpa using hf 1 f1 rfl, by simpa using hf 2 f2 rfl, by simpa using hf 3 f3 rfl, by simpa using hf 4 f4 rfl, by simpa using hf 5 f5 rfl, by simpa using hf 6 f6 rfl, by simpa using hf 7 f7 rfl, by simpa using hf 8 f8 rfl⟩
set_option maxRecDepth 100000 in
theorem link_of_read {H : Type} {enc : TypeId × Value → H} {W : World} {r : Reach} {b0 : Nat} {v : Value} {d : DataW H} {p : List MemPlace} (hval : Value.okWide Tryd.prog W r b0 23 v) (h : DataW.Trod enc Tryd.prog W 0 (fun _ => true) true 23 v d p) :
    ∃ l : Lk, v = l.v ∧ l.sc.length + l.ho.length + l.pa.length + l.qu.length + l.fr.length ≤ Rows.uptoBulk d := by
  obtain ⟨cells, rfl, hsz⟩ := okWide_struct Tryd.underlying23 hval
  rw [show Tryd.prog.cellsOf 23 = 9 by kernel_rfl] at hsz
  obtain ⟨c0, c1, c2, c3, c4, c5, c6, c7, c8, rfl⟩ : ∃ c0 c1 c2 c3 c4 c5 c6 c7 c8, cells = #[c0, c1, c2, c3, c4, c5, c6, c7, c8] := by
    match cells, hsz with
    | ⟨[c0, c1, c2, c3, c4, c5, c6, c7, c8]⟩, _ => exact ⟨c0, c1, c2, c3, c4, c5, c6, c7, c8, rfl⟩
  obtain ⟨fuel, hf0⟩ := h
  have hf : DataW.trod enc Tryd.prog W 0 (fun _ => true) true fuel 23 [c0, c1, c2, c3, c4, c5, c6, c7, c8] = some (d, p) := hf0
  obtain ⟨y0, y1, y2, y3, y4, y5, y6, y7, y8, n, hx, t0, t1, t2, t3, t4, t5, t6, t7, t8⟩ := trod_struct9 Tryd.underlying23 hf
  have k1 : Tryd.prog.cellsOf 9 = 1 := by kernel_rfl
  have k4 : Tryd.prog.cellsOf 4 = 1 := by kernel_rfl
  simp only [k1, k4, List.drop_zero, List.drop_succ_cons, List.take_succ_cons, List.take_zero] at t0 t1 t2 t3 t4 t5 t6 t7 t8
  obtain ⟨s0, e0, x0, _⟩ := DataW.trod_string Tryd.underlying9 t0
  obtain ⟨s1, e1, x1, _⟩ := DataW.trod_string Tryd.underlying9 t1
  obtain ⟨s2, e2, x2, _⟩ := DataW.trod_string Tryd.underlying9 t2
  obtain ⟨s3, e3, x3, _⟩ := DataW.trod_string Tryd.underlying9 t3
  obtain ⟨s4, e4, x4, _⟩ := DataW.trod_string Tryd.underlying9 t4
  obtain ⟨s5, e5, x5⟩ := DataW.trod_bool Tryd.underlying4 t5
  obtain ⟨s6, e6, x6⟩ := DataW.trod_bool Tryd.underlying4 t6
  obtain ⟨s7, e7, x7⟩ := DataW.trod_bool Tryd.underlying4 t7
  obtain ⟨s8, e8, x8⟩ := DataW.trod_bool Tryd.underlying4 t8
  refine ⟨⟨s0.data.toList, s1.data.toList, s2.data.toList, s3.data.toList, s4.data.toList, s5, s6, s7, s8⟩, ?_, ?_⟩
  · simp at e0 e1 e2 e3 e4 e5 e6 e7 e8
    unfold Lk.v
    simp only [Lib.mk_data]
    rw [e0, e1, e2, e3, e4, e5, e6, e7, e8]
  · simp only at hx
    rw [hx, x0, x1, x2, x3, x4]
    simp only [Rows.uptoBulk, Rows.uptoBulkAll]
    omega
end Go.Proofs.YtnnajpdliokodaaDoor.L
