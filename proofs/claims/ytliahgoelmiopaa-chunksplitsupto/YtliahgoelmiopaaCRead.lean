/- What is proved here: what a script that was handed in reads as in memory, and how many values its datum holds at least. -/
import Derived.Test.YtliahgoelmiopaaCOpen
import Derived.Test.YtliahgoelmiopaaCScript
import Derived.Test.YtliahgoelmiopaaCRCut
namespace Go.Proofs.Ytliahgoelmiopaa.C
open Go.ChangeShapes Go.WideShapes Go.ChangeAt Go.RowKit

theorem bulk_pairs {H : Type} (D0 D1 : Nat → DataW H) (B : Nat → List UInt8) : ∀ L : List Nat, (∀ i ∈ L, (B i).length ≤ Rows.uptoBulk (D0 i)) → L.length + (L.map fun i => (B i).length).sum ≤ Rows.uptoBulkAll (L.map fun i => DataW.agg [D0 i, D1 i])
  | [], _ => by simp [Rows.uptoBulkAll]
  | i :: r, h => by
    have h1 := bulk_pairs D0 D1 B r (fun j hj => h j (by simp [hj]))
    have h2 := h i (by simp)
    simp only [List.map_cons, List.sum_cons, List.length_cons, Rows.uptoBulkAll, Rows.uptoBulk]
    omega

set_option maxRecDepth 100000 in
theorem script_of_read {H : Type} {enc : TypeId × Value → H} {W : World} {v : Value} {d : DataW H} {p : List MemPlace} (hv : ∃ a len cap, v = .slice a len cap) (h : DataW.Trod enc Try.prog W 0 (fun _ => true) true 22 v d p) :
    ∃ l : List (List UInt8 × Bool), HasS W v l ∧ l.length + (l.map fun x => x.1.length).sum ≤ Rows.uptoBulk d := by
  obtain ⟨a0, len0, cap0, rfl⟩ := hv
  obtain ⟨fuel, hf⟩ := h
  rcases Deep.open_slice_pairs Try.underlying22 Try.underlying75 (by kernel_rfl) rfl rfl (by kernel_rfl) (by kernel_rfl) hf with ⟨hcs, hx⟩ | ⟨a, len, cap, m, n, V0, V1, D0, D1, P0, P1, hcs, _, hl, _, hm, hx, hat⟩
  · have : Value.slice a0 len0 cap0 = .slice none 0 0 := by simpa [Value.cells] using hcs
    rw [this]
    exact ⟨[], .inl ⟨rfl, none, 0, rfl⟩, by simp⟩
  · have : Value.slice a0 len0 cap0 = .slice (some a) len cap := by simpa [Value.cells] using hcs
    rw [this]
    simp only [if_true] at hm
    simp only [Prod.mk.injEq] at hx
    have each : ∀ i, i < len → ∃ q : List UInt8 × Bool, Byt W (V0 i) q.1 ∧ V1 i = .bool q.2 ∧ q.1.length ≤ Rows.uptoBulk (D0 i) := fun i hi => by
      obtain ⟨_, _, t0, t1⟩ := hat i (by omega)
      obtain ⟨bs, hb, lb⟩ := bytes_of_trod (by kernel_rfl) t0
      obtain ⟨f, hf2, -⟩ := DataW.trod_bool Try.underlying4 t1
      refine ⟨(bs, f), ⟨hb, ?_⟩, by simpa using hf2, lb⟩
      rcases open_ints Try.underlying39 Try.underlying5 (by kernel_rfl) t0 with ⟨e, _⟩ | ⟨a', len', cap', zs, e, _⟩
      · left; simpa using e
      · right; exact ⟨a', len', cap', by simpa using e⟩
    obtain ⟨q, hq⟩ := Deep.choose_lt each
    refine ⟨(List.range len).map q, ?_, ?_⟩
    · by_cases h0 : len = 0
      · subst h0; exact .inl ⟨by simp, some a, cap, rfl⟩
      · obtain ⟨b, off, spot⟩ := a
        have hsp : spot = none := by
          have := (hat 0 (by omega)).1
          cases spot with
          | none => rfl
          | some s => simp [World.cell?, Addr.add] at this; split at this <;> cases this
        subst hsp
        refine .inr ⟨by simp; omega, b, off, cap, by simp, by simpa using hl, fun i hi => ?_⟩
        have hi' : i < len := by simpa using hi
        obtain ⟨g0, g1, _, _⟩ := hat i (by omega)
        rw [add_none] at g0 g1
        obtain ⟨q1, q2, _⟩ := hq i hi'
        refine ⟨V0 i, g0, by simpa using q1, ?_⟩
        rw [show off + i * 2 + 1 = off + (i * 2 + 1) by omega, g1, q2]
        simp
    · rw [hx.1]
      have hb := bulk_pairs D0 D1 (fun i => (q i).1) (List.range len) (fun i hi => (hq i (by simpa using hi)).2.2)
      simp only [Rows.uptoBulk]
      simp only [List.length_map, List.map_map, List.length_range, Function.comp_def] at hb ⊢
      omega

set_option maxRecDepth 100000 in
/-- Bytes, places and a truth value that came in, with how their slices look. -/
theorem cuts_of_read2 {H : Type} {enc : TypeId × Value → H} {W : World} {r : Reach} {b0 : Nat} {v : Value} {d : DataW H} {p : List MemPlace} (hval : Value.okWide Try.prog W r b0 62 v) (h : DataW.Trod enc Try.prog W 0 (fun _ => true) true 62 v d p) :
    ∃ (dv av : Value) (f : Bool) (bs : List UInt8) (cs : List Int), v = .agg #[dv, av, .bool f] ∧ Byt W dv bs ∧ HasI .i64 W av cs ∧ (av = .slice none 0 0 ∨ ∃ ad n c, av = .slice (some ad) n c) ∧ bs.length + cs.length ≤ Rows.uptoBulk d := by
  obtain ⟨cells, rfl, hsz⟩ := okWide_struct Try.underlying62 hval
  rw [show Try.prog.cellsOf 62 = 3 by kernel_rfl] at hsz
  obtain ⟨c0, c1, c2, rfl⟩ : ∃ c0 c1 c2, cells = #[c0, c1, c2] := by
    match cells, hsz with
    | ⟨[c0, c1, c2]⟩, _ => exact ⟨c0, c1, c2, rfl⟩
  obtain ⟨fuel, hf⟩ := h
  obtain ⟨y0, y1, y2, n, hx, -, t0, t1, t2⟩ := Deep.trod_struct3 Try.underlying62 hf
  have k0 : Try.prog.cellsOf 39 = 1 := by kernel_rfl
  have k1 : Try.prog.cellsOf 60 = 1 := by kernel_rfl
  have k2 : Try.prog.cellsOf 4 = 1 := by kernel_rfl
  simp only [Value.cells, k0, k1, k2, List.drop_zero, List.drop_succ_cons, List.take_succ_cons, List.take_zero] at t0 t1 t2
  obtain ⟨d0, p0⟩ := y0
  obtain ⟨d1, p1⟩ := y1
  obtain ⟨d2, p2⟩ := y2
  obtain ⟨bs, hb, lb⟩ := bytes_of_trod (by kernel_rfl) t0
  obtain ⟨cs, hc, lc, -⟩ := ints_of_trod Try.underlying60 Try.underlying3 (by kernel_rfl) t1
  obtain ⟨f, hf2, -⟩ := DataW.trod_bool Try.underlying4 t2
  obtain rfl : c2 = .bool f := by simpa using hf2
  simp only [Prod.mk.injEq] at hx
  refine ⟨c0, c1, f, bs, cs, rfl, ⟨hb, ?_⟩, hc, ?_, ?_⟩
  · rcases open_ints Try.underlying39 Try.underlying5 (by kernel_rfl) t0 with ⟨e, _⟩ | ⟨a', len', cap', zs, e, _⟩
    · left; simpa using e
    · right; exact ⟨a', len', cap', by simpa using e⟩
  · rcases open_ints Try.underlying60 Try.underlying3 (by kernel_rfl) t1 with ⟨e, _⟩ | ⟨a', len', cap', zs, e, _⟩
    · left; simpa using e
    · right; exact ⟨a', len', cap', by simpa using e⟩
  · rw [hx.1]
    simp only [Rows.uptoBulk, Rows.uptoBulkAll]
    omega

end Go.Proofs.Ytliahgoelmiopaa.C
