/- What is proved here: tokens in memory, and what tokens that were handed in read as. -/
import Derived.Test.YtelfejbhlolppaaDoorBun8
namespace Go.Proofs.YtelfejbhlolppaaDoor.T
open Go.ChangeShapes Go.WideShapes Go.ChangeAt Go.RowKit N

abbrev TL := List (T.Tok × AL)
/-- A token in memory. -/
def TokAt (w : World) (b off : Nat) (t : T.Tok) (l : AL) : Prop :=
  ∃ av, w.cell? ⟨b, off, none⟩ = some (.int .i64 t.kind) ∧ w.cell? ⟨b, off + 1, none⟩ = some (.string t.name) ∧ w.cell? ⟨b, off + 2, none⟩ = some (.string t.text) ∧ w.cell? ⟨b, off + 3, none⟩ = some av ∧ w.cell? ⟨b, off + 4, none⟩ = some (.bool t.self) ∧
    w.cell? ⟨b, off + 5, none⟩ = some (.int .i64 t.p0) ∧ w.cell? ⟨b, off + 6, none⟩ = some (.int .i64 t.p1) ∧ w.cell? ⟨b, off + 7, none⟩ = some (.int .i64 t.p2) ∧ HasA w av l
theorem TokAt.below {w w' : World} {b off : Nat} {t : T.Tok} {l : AL} (h : TokAt w b off t l) (hb : Below w.heap.size w w') : TokAt w' b off t l := by
  obtain ⟨av, h0, h1, h2, h3, h4, h5, h6, h7, hA⟩ := h
  exact ⟨av, (hb.cell (p := ⟨b, off, none⟩) (C.cell_lt h0)).trans h0, (hb.cell (p := ⟨b, off + 1, none⟩) (C.cell_lt h1)).trans h1, (hb.cell (p := ⟨b, off + 2, none⟩) (C.cell_lt h2)).trans h2, (hb.cell (p := ⟨b, off + 3, none⟩) (C.cell_lt h3)).trans h3, (hb.cell (p := ⟨b, off + 4, none⟩) (C.cell_lt h4)).trans h4, (hb.cell (p := ⟨b, off + 5, none⟩) (C.cell_lt h5)).trans h5, (hb.cell (p := ⟨b, off + 6, none⟩) (C.cell_lt h6)).trans h6, (hb.cell (p := ⟨b, off + 7, none⟩) (C.cell_lt h7)).trans h7, hA.below hb⟩
/-- Tokens in memory. -/
def HasT (w : World) (v : Value) (L : TL) : Prop :=
  (L = [] ∧ ∃ a cap, v = .slice a 0 cap) ∨ (0 < L.length ∧ ∃ b off cap, v = .slice (some ⟨b, off, none⟩) L.length cap ∧ L.length ≤ cap ∧ ∀ i (_ : i < L.length), TokAt w b (off + i * 8) L[i].1 L[i].2)
theorem HasT.below {w w' : World} {r : Value} {L : TL} (h : HasT w r L) (hb : Below w.heap.size w w') : HasT w' r L := by
  rcases h with h | ⟨hp, b, off, cap, hr, hc, hx⟩
  · exact .inl h
  · exact .inr ⟨hp, b, off, cap, hr, hc, fun i hi => (hx i hi).below hb⟩
theorem HasT.slice {w : World} {r : Value} {L : TL} (h : HasT w r L) : ∃ a cap, r = .slice a L.length cap := by
  rcases h with ⟨rfl, a, cap, rfl⟩ | ⟨hp, b, off, cap, rfl, _⟩
  · exact ⟨a, cap, rfl⟩
  · exact ⟨_, cap, rfl⟩
theorem HasT.at {w : World} {a : Option Addr} {n cap : Nat} {L : TL} (h : HasT w (.slice a n cap) L) (i : Nat) (hi : i < L.length) : ∃ b off, a = some ⟨b, off, none⟩ ∧ TokAt w b (off + i * 8) L[i].1 L[i].2 := by
  rcases h with ⟨rfl, _⟩ | ⟨hp, b, off, cap', hr, hc, hx⟩
  · simp at hi
  · have : a = some ⟨b, off, none⟩ := by simp at hr; exact hr.1
    exact ⟨b, off, this, hx i hi⟩

/-- How many values a token has at least. -/
def bulkT (x : T.Tok × AL) : Nat := x.1.name.size + x.1.text.size + (x.2.length + sumA x.2) + 1
def bulkL (L : TL) : Nat := (L.map bulkT).sum
theorem bulkL_take (L : TL) (k : Nat) : bulkL (L.take k) ≤ bulkL L := by
  unfold bulkL
  conv => rhs; rw [← List.take_append_drop k L, List.map_append, List.sum_append]
  omega
theorem bulkL_succ (L : TL) (k : Nat) (h : k < L.length) : bulkL (L.take (k + 1)) = bulkL (L.take k) + bulkT L[k] := by
  unfold bulkL
  rw [List.take_succ_eq_append_getElem h, List.map_append, List.sum_append]; simp
theorem bulkL_len (L : TL) : L.length ≤ bulkL L := by
  unfold bulkL
  induction L with
  | nil => simp
  | cons x r ih => have : 1 ≤ bulkT x := by unfold bulkT; omega
                   simp only [List.map_cons, List.sum_cons, List.length_cons]; omega
theorem bulkL_at (L : TL) (k : Nat) (h : k < L.length) : bulkT L[k] ≤ bulkL L := by
  have h1 := bulkL_succ L k h
  have h2 := bulkL_take L (k + 1)
  omega
theorem bulk_toks {H : Type} (D : Nat → DataW H) (q : Nat → T.Tok × AL) : ∀ I : List Nat, (∀ i ∈ I, bulkT (q i) ≤ Rows.uptoBulk (D i)) → bulkL (I.map q) ≤ Rows.uptoBulkAll (I.map D)
  | [], _ => by simp [Rows.uptoBulkAll, bulkL]
  | i :: r, h => by
    have h1 := bulk_toks D q r (fun j hj => h j (by simp [hj]))
    have h2 := h i (by simp)
    simp only [bulkL, List.map_cons, List.sum_cons, Rows.uptoBulkAll] at h1 ⊢
    omega

set_option maxRecDepth 100000 in
/-- Tokens that came in. -/
theorem toks_of_read {H : Type} {enc : TypeId × Value → H} {W : World} {v : Value} {d : DataW H} {p : List MemPlace} (hv : ∃ a len cap, v = .slice a len cap) (h : DataW.Trod enc Tryd.prog W 0 (fun _ => true) true 38 v d p) :
    ∃ L : TL, HasT W v L ∧ bulkL L ≤ Rows.uptoBulk d := by
  obtain ⟨a0, len0, cap0, rfl⟩ := hv
  obtain ⟨fuel, hf⟩ := h
  rcases Deep.open_slice Tryd.underlying38 hf with ⟨hcs, hx⟩ | ⟨a, len, cap, m, n, D, Pl, hcs, _, hl, _, hm, hx, hat⟩
  · have : Value.slice a0 len0 cap0 = .slice none 0 0 := by simpa [Value.cells] using hcs
    rw [this]
    exact ⟨[], .inl ⟨rfl, none, 0, rfl⟩, by simp [bulkL]⟩
  · have : Value.slice a0 len0 cap0 = .slice (some a) len cap := by simpa [Value.cells] using hcs
    rw [this]
    simp only [if_true] at hm
    simp only [Prod.mk.injEq] at hx
    have ce : Tryd.prog.cellsOf 28 = 8 := by kernel_rfl
    rw [ce] at hat
    have each : ∀ i, i < len → ∃ q : T.Tok × AL, ∃ av, (∀ b off, a = ⟨b, off, none⟩ → W.cell? ⟨b, off + i * 8, none⟩ = some (.int .i64 q.1.kind) ∧ W.cell? ⟨b, off + i * 8 + 1, none⟩ = some (.string q.1.name) ∧ W.cell? ⟨b, off + i * 8 + 2, none⟩ = some (.string q.1.text) ∧ W.cell? ⟨b, off + i * 8 + 3, none⟩ = some av ∧ W.cell? ⟨b, off + i * 8 + 4, none⟩ = some (.bool q.1.self) ∧ W.cell? ⟨b, off + i * 8 + 5, none⟩ = some (.int .i64 q.1.p0) ∧ W.cell? ⟨b, off + i * 8 + 6, none⟩ = some (.int .i64 q.1.p1) ∧ W.cell? ⟨b, off + i * 8 + 7, none⟩ = some (.int .i64 q.1.p2)) ∧ HasA W av q.2 ∧ bulkT q ≤ Rows.uptoBulk (D i) ∧ ∃ x, W.cell? (a.add (i * 8)) = some x := fun i hi => by
      obtain ⟨cs', h1, h2⟩ := hat i (by omega)
      obtain ⟨_, hlen, hcell⟩ := World.cells?_some h1
      match cs', hlen with
      | [c0, c1, c2, c3, c4, c5, c6, c7], _ =>
        obtain ⟨t, l, he, hA, hb⟩ := tok_of_trod h2
        simp only [List.cons.injEq, and_true] at he
        obtain ⟨rfl, rfl, rfl, _, rfl, rfl, rfl, rfl⟩ := he
        have hc : ∀ j (hj : j < 8), W.cell? (a.add (i * 8 + j)) = [Value.int .i64 t.kind, .string t.name, .string t.text, c3, .bool t.self, .int .i64 t.p0, .int .i64 t.p1, .int .i64 t.p2][j]? := fun j hj => by
          have := hcell j hj
          rw [Deep.add_add] at this
          exact this
        refine ⟨(t, l), c3, fun b off e => ?_, hA, hb, _, hc 0 (by omega)⟩
        subst e
        have hc' : ∀ j (hj : j < 8), W.cell? ⟨b, off + i * 8 + j, none⟩ = [Value.int .i64 t.kind, .string t.name, .string t.text, c3, .bool t.self, .int .i64 t.p0, .int .i64 t.p1, .int .i64 t.p2][j]? := fun j hj => by
          have := hc j hj
          rw [C.add_none, ← Nat.add_assoc] at this
          exact this
        exact ⟨hc' 0 (by omega), hc' 1 (by omega), hc' 2 (by omega), hc' 3 (by omega), hc' 4 (by omega), hc' 5 (by omega), hc' 6 (by omega), hc' 7 (by omega)⟩
    haveI : Inhabited (T.Tok × AL) := ⟨(⟨0, ⟨#[]⟩, ⟨#[]⟩, false, 0, 0, 0⟩, [])⟩
    obtain ⟨q, hq⟩ := Deep.choose_lt each
    refine ⟨(List.range len).map q, ?_, ?_⟩
    · by_cases h0 : len = 0
      · subst h0; exact .inl ⟨by simp, some a, cap, rfl⟩
      · obtain ⟨b, off, spot⟩ := a
        have hsp : spot = none := by
          obtain ⟨_, _, _, _, x, hx0⟩ := hq 0 (by omega)
          cases spot with
          | none => rfl
          | some s => simp [World.cell?, Addr.add] at hx0; split at hx0 <;> cases hx0
        subst hsp
        refine .inr ⟨by simp; omega, b, off, cap, by simp, by simpa using hl, fun i hi => ?_⟩
        have hi' : i < len := by simpa using hi
        obtain ⟨av, hc, hA, _⟩ := hq i hi'
        obtain ⟨g0, g1, g2, g3, g4, g5, g6, g7⟩ := hc b off rfl
        simp only [List.getElem_map, List.getElem_range]
        exact ⟨av, g0, g1, g2, g3, g4, g5, g6, g7, hA⟩
    · rw [hx.1]
      have hb := bulk_toks D q (List.range len) (fun i hi => by obtain ⟨av, _, _, hb, _⟩ := hq i (by simpa using hi); exact hb)
      simp only [Rows.uptoBulk]
      omega
end Go.Proofs.YtelfejbhlolppaaDoor.T
