/- What is proved here: laws and contracts of CAwake, CFrame, one behind the other (each says its own). -/
import Derived.Lib.SlBytesConst
import Derived.Test.YtkpjmcoihbebkaaCCut
import Derived.Test.YtkpjmcoihbebkaaRows
import Derived.PinnedBridge
import Derived.ProofKit
import Derived.OpenShut
import Derived.Deep.DeepHandedRow
/- What is proved here: the example of the document that every statement of layer 2 asks for ('awake') holds. -/
namespace Go.Proofs.Ytkpjmcoihbebkaa.C
open Go.RowKit

theorem flat_get (xs : List (Value × List UInt8 × Bool)) : ∀ i (h : i < xs.length), (xs.flatMap fun x => [x.1, Value.bool x.2.2])[2 * i]? = some xs[i].1 ∧ (xs.flatMap fun x => [x.1, Value.bool x.2.2])[2 * i + 1]? = some (.bool xs[i].2.2) := by
  induction xs with
  | nil => intro i h; simp at h
  | cons x r ih =>
    intro i h
    cases i with
    | zero => simp
    | succ i =>
      have := ih i (by simpa using h)
      simp only [List.flatMap_cons, Nat.mul_add, List.getElem_cons_succ]
      constructor
      · rw [show 2 * i + 2 * 1 = (2 * i) + 1 + 1 by omega]; simpa using this.1
      · rw [show 2 * i + 2 * 1 + 1 = (2 * i + 1) + 1 + 1 by omega]; simpa using this.2
/-- A script's cells. -/
theorem OwnS.at {base : Nat} {e : TypeId} {w : World} {r : Value} {l : List (List UInt8 × Bool)} (h : OwnS base e w r l) (h0 : 0 < l.length) :
    ∃ g cap, r = .slice (some ⟨g, 0, none⟩) l.length cap ∧ l.length ≤ cap ∧ base ≤ g ∧ g < w.heap.size ∧ ∀ i (hi : i < l.length), ∃ a c, w.ownsRow base 5 1 (.slice a l[i].1.length c) l[i].1.length (bvs l[i].1) ∧ w.cell? ⟨g, i * 2, none⟩ = some (.slice a l[i].1.length c) ∧ w.cell? ⟨g, i * 2 + 1, none⟩ = some (.bool l[i].2) ∧ w.frozen? ⟨g, i * 2, none⟩ = false ∧ w.frozen? ⟨g, i * 2 + 1, none⟩ = false := by
  obtain ⟨xs, rfl, h2, h3, -⟩ := h
  have hxl : (xs.map Prod.snd).length = xs.length := by simp
  rcases h2.2 with ⟨rfl, e0⟩ | ⟨g, cap, cur, rfl, hb, hg, hcap, _⟩
  · omega
  · refine ⟨g, cap, rfl, hcap, hb, lt_of_block hg, fun i hi => ?_⟩
    have hix : i < xs.length := by omega
    obtain ⟨c1, c2⟩ := flat_get xs i hix
    have ho := h3 xs[i] (List.getElem_mem _)
    obtain ⟨a, c, ea⟩ := owns_slice ho
    have eg : (xs.map Prod.snd)[i] = xs[i].2 := by simp
    rw [eg]
    refine ⟨a, c, by rw [← ea]; exact ho, ?_, ?_, h2.frozenAt _, h2.frozenAt _⟩
    · rw [Nat.mul_comm i 2, h2.cellAt _ (by omega), c1, ea]
    · rw [Nat.mul_comm i 2, h2.cellAt _ (by omega), c2]

set_option maxRecDepth 100000 in
theorem num_calls (z : Int) (w : World) : Calls Try.prog 8 #[.int .i64 z] w fun e w' => e = .returned (.int .i64 z) ∧ w' = w := by
  go_enter Try.func8, Try.ntmps8
  go_wp2
  go_ret
  exact ⟨rfl, rfl⟩

theorem cut_example : cut [97, 98, 99] [1, 1, 9] false = [([97], false), ([], false), ([98, 99], false), ([], false)] := by decide +kernel

set_option maxRecDepth 100000 in
set_option maxHeartbeats 2000000 in
theorem awake_calls (w : World) : Calls Try.prog 9 #[] w fun e w' => e = .returned (.bool true) ∧ Below w.heap.size w w' := by
  go_enter Try.func9, Try.ntmps9
  have hk := Lib.run_convert_bytes_const (P := Try.prog) w 39 5 #[.int .u8 97, .int .u8 98, .int .u8 99] 3 3 Try.underlying39 Try.underlying5
  go_wp2_with fail
  clear hk
  have hb0 : Below w.heap.size w ((w.alloc (.cells #[.int .u8 97, .int .u8 98, .int .u8 99] 5 (3, 4))).alloc (.cells #[.int .i64 1, .int .i64 1, .int .i64 9] 3)) := ((Below.refl _ w).alloc (Nat.le_refl _) _).alloc (by simp) _
  refine (cut_calls _ _ [97, 98, 99] [1, 1, 9] (w.heap.size + 2) false _ (by simp) (by simp) (.inr ⟨by simp, w.heap.size, 0, 3, rfl, by simp, by omega, fun j hj => ?_⟩) (.inr ⟨by simp, w.heap.size + 1, 0, 3, rfl, by simp, fun j hj => ?_⟩)).mono ?_
  · have : j = 0 ∨ j = 1 ∨ j = 2 := by simp at hj; omega
    rw [cell_under _ _ _ (by simp), Nat.zero_add, cell_new]
    rcases this with rfl | rfl | rfl <;> simp [byteAt]
  · have : j = 0 ∨ j = 1 ∨ j = 2 := by simp at hj; omega
    rw [Nat.zero_add, show w.heap.size + 1 = (w.alloc (.cells #[.int .u8 97, .int .u8 98, .int .u8 99] 5 (3, 4))).heap.size by simp, cell_new]
    rcases this with rfl | rfl | rfl <;> simp [zAt]
  rintro e w1 ⟨v, rfl, hS, hb1⟩
  rw [cut_example] at hS
  have hb : Below w.heap.size w w1 := hb0.trans (hb1.mono (by simp; omega))
  obtain ⟨g, cap, rfl, hcap, -, hg, hat⟩ := hS.at (by simp)
  obtain ⟨a0, c0, o0, p0, -, -⟩ := hat 0 (by simp)
  obtain ⟨a1, c1, o1, p1, -, -⟩ := hat 1 (by simp)
  obtain ⟨a2, c2, o2, p2, -, -⟩ := hat 2 (by simp)
  obtain ⟨a3, c3, o3, p3, -, -⟩ := hat 3 (by simp)
  have q0 := conv_bytes (hasB_owns o0)
  have q2 := conv_bytes (hasB_owns o2)
  clear hat hS hb0 hb1 o0 o1 o2 o3
  simp only [List.getElem_cons_zero, List.getElem_cons_succ, List.length_cons, List.length_nil, Nat.zero_mul, Nat.one_mul, Nat.reduceMul, Nat.zero_add, Nat.reduceAdd] at p0 p1 p2 p3 q0 q2
  go_wp2
  go_ret
  exact ⟨rfl, hb⟩

end Go.Proofs.Ytkpjmcoihbebkaa.C

/- What is proved here: plain facts that lift a call's contract to a statement of the rows. -/
namespace Go.Proofs.Ytkpjmcoihbebkaa.C
open Go.ChangeShapes Go.WideShapes Go.ChangeAt Go.RowKit

theorem own : ownKnob Try.prog.godebug = none := by kernel_rfl
theorem laidOut : laidOutB Try.prog = true := by kernel_rfl
/-- A call that turns nothing that was there, gives back what the specification says and leaves its arguments: what the row asks behind it. -/
theorem post_below {H : Type} {enc : TypeId × Value → H} {P : Program} {f : Func} {s : ChangeSpec} {apart fresh handsOn : Bool} {W W' : World} {args : Array Value} {v : Value} {ds gs : List (DataW H)} {before pa pv : List MemPlace}
    (hW : DataW.Whole enc P f.params.toList s.vars apart W args.toList ds gs before)
    (hres : ∀ (b : Nat) (sp : Nat → Bool) (hd : Bool), DataW.TrodAll enc P W' b sp hd f.resultTypes.toList (v.resultList f.resultTypes.size) (s.fn H (ds ++ gs)).results [])
    (hargs : DataW.TrodAll enc P W' 0 (fun b => decide (b < W.heap.size)) true f.params.toList args.toList (s.fn H (ds ++ gs)).args pa)
    (hvars : DataW.TrodVars enc P W' (fun b => decide (b < W.heap.size)) s.vars (s.fn H (ds ++ gs)).vars pv)
    (hb : Below W.heap.size W W') : s.post enc P f apart fresh handsOn false W args v W' :=
  ⟨ds, gs, before, [], pa, pv, hW, hres _ _ _, hargs, hvars, hb.frame _, fun h => by cases h⟩
/-- What was handed in reads as it did. -/
theorem stays {H : Type} {enc : TypeId × Value → H} {W W' : World} {t : TypeId} {v : Value} {d : DataW H} {ps : List MemPlace} (hr : Try.prog.readableRec t = true) (hrow : t < Try.prog.types.size)
    (h : DataW.Trod enc Try.prog W 0 (fun _ => true) true t v d ps) (hb : Below W.heap.size W W') (hlt : ∀ x ∈ ps, x.block < W.heap.size) : DataW.Trod enc Try.prog W' 0 (fun b => decide (b < W.heap.size)) true t v d ps :=
  Below.trod laidOut hr hrow h hb hlt

end Go.Proofs.Ytkpjmcoihbebkaa.C
