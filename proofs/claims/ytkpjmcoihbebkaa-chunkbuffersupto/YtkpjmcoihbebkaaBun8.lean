/- What is proved here: laws and contracts of BTurn, CPair, one behind the other (each says its own). -/
import Derived.Lib.QuietBelow
import Derived.BigQuiet
import Derived.RegionTactic
import Derived.Deep.SlicePairs
import Derived.Test.YtkpjmcoihbebkaaCOpen
import Derived.Test.YtkpjmcoihbebkaaBun3
/- What is proved here: a region that draws its order, from a place on where all that is left only reads: one walk in the order of the text serves every order. -/
namespace Go.Proofs.Ytkpjmcoihbebkaa.C
open Go Go.Sort Go.RowKit

theorem hid_of {p : Prop} (h : p) : Hid p := h
/-- What is left, from number k on. -/
theorem any_quiet_from {P : Program} {Q : Exit → Act → World → Prop} {a : Act} {w : World} {l : List Oper} (k : Nat) {n : Nat} {listed : Array Bool} (hn : (l.drop k).length = n) (hs : Region.noSelect l.toArray = true) (hB : Region.lexFrom .any l.toArray n k listed = true)
    (h : wpQuiet P l.toArray (fun w' => ∃ p : Regrown, w' = grow (redrawn w p.d) p.os) (fun a' => ∀ w', (∃ p : Regrown, w' = grow (redrawn w p.d) p.os) → Q .normal a' w') (l.drop k) a) : wpAny P .any l.toArray Q n listed a w := by
  subst hn
  refine wpAny_of_quiet (C := fun w' => ∃ p : Regrown, w' = grow (redrawn w p.d) p.os) (Q := fun a' => ∀ w', (∃ p : Regrown, w' = grow (redrawn w p.d) p.os) → Q .normal a' w') (fun _ w' hw' h => h w' hw') _ _ _ _ ⟨⟨w.drawn, #[]⟩, by rw [grow_empty]; rfl⟩ ?_
  exact wpAnyQ_lex hs (l.drop k) k listed a (fun j => by simp [List.getElem?_drop]) hB h
/-- One alone may come up. -/
theorem any_only {P : Program} {ops : Array Oper} {Q : Exit → Act → World → Prop} {a : Act} {w : World} {fuel : Nat} {listed : Array Bool} (i : Nat) {o : Oper} (hr : Region.ready .any ops listed = [i]) (ho : ops[i]? = some o) (hg : o.guard = none)
    (h : ∀ K' : Act → World → Prop, (∀ a w, wpAny P .any ops Q fuel (listed.setIfInBounds i true) a w → K' a w) → Oper.wp P o a w K' Q) : wpAny P .any ops Q (fuel + 1) listed a w := by
  refine wpAny_ready hr (by simp) (AllReady.cons ho (fun K' hK => ?_) AllReady.nil)
  rw [if_pos (by simp [Region.wanted, hg])]
  exact h K' hK
end Go.Proofs.Ytkpjmcoihbebkaa.C

/- What is proved here: nothing of the program: how a pair of sizes and calls that came in is read. -/
namespace Go.Proofs.Ytkpjmcoihbebkaa.CSplits
open Go.ChangeShapes Go.WideShapes Go.ChangeAt Go.RowKit C

/-- Calls that came in. -/
def HasAct (w : World) (v : Value) (xs : List (Int × Int)) : Prop :=
  (xs = [] ∧ ∃ a cap, v = .slice a 0 cap) ∨ (0 < xs.length ∧ ∃ b off cap, v = .slice (some ⟨b, off, none⟩) xs.length cap ∧ xs.length ≤ cap ∧ ∀ j (hj : j < xs.length), w.cell? ⟨b, off + j * 2, none⟩ = some (.int .i64 xs[j].1) ∧ w.cell? ⟨b, off + j * 2 + 1, none⟩ = some (.int .i64 xs[j].2))
theorem HasAct.slice {w : World} {v : Value} {xs : List (Int × Int)} (h : HasAct w v xs) : ∃ a cap, v = .slice a xs.length cap := by
  rcases h with ⟨rfl, a, cap, rfl⟩ | ⟨_, b, off, cap, rfl, _⟩
  · exact ⟨a, cap, rfl⟩
  · exact ⟨_, cap, rfl⟩
theorem HasAct.at {w : World} {a : Option Addr} {n cap : Nat} {xs : List (Int × Int)} (h : HasAct w (.slice a n cap) xs) (j : Nat) (hj : j < xs.length) : ∃ b off, a = some ⟨b, off, none⟩ ∧ n = xs.length ∧ xs.length ≤ cap ∧ w.cell? ⟨b, off + j * 2, none⟩ = some (.int .i64 xs[j].1) ∧ w.cell? ⟨b, off + j * 2 + 1, none⟩ = some (.int .i64 xs[j].2) := by
  rcases h with ⟨rfl, _⟩ | ⟨_, b, off, cap', e, hc, hx⟩
  · simp at hj
  · cases e
    exact ⟨b, off, rfl, rfl, hc, (hx j hj).1, (hx j hj).2⟩
set_option maxRecDepth 100000 in
theorem acts_of_trod {H : Type} {enc : TypeId × Value → H} {W : World} {v : Value} {d : DataW H} {p : List MemPlace} {fuel : Nat} (h : DataW.trod enc Try.prog W 0 (fun _ => true) true fuel 23 [v] = some (d, p)) :
    ∃ xs : List (Int × Int), HasAct W v xs ∧ xs.length ≤ Rows.uptoBulk d ∧ ∀ x ∈ xs, (Lit.int .i64 x.1).wf = true ∧ (Lit.int .i64 x.2).wf = true := by
  rcases Deep.open_slice_pairs Try.underlying23 Try.underlying43 (by kernel_rfl) rfl rfl (by kernel_rfl) (by kernel_rfl) h with ⟨hcs, hx⟩ | ⟨a, len, cap, m, n, V0, V1, D0, D1, P0, P1, hcs, _, hl, _, hm, hx, hat⟩
  · obtain rfl : v = .slice none 0 0 := by simpa using hcs
    exact ⟨[], .inl ⟨rfl, none, 0, rfl⟩, by simp, fun x hx => by cases hx⟩
  · obtain rfl : v = .slice (some a) len cap := by simpa using hcs
    simp only [if_true] at hm
    simp only [Prod.mk.injEq] at hx
    have each : ∀ i, i < len → ∃ q : Int × Int, V0 i = .int .i64 q.1 ∧ V1 i = .int .i64 q.2 ∧ (Lit.int .i64 q.1).wf = true ∧ (Lit.int .i64 q.2).wf = true := fun i hi => by
      obtain ⟨_, _, t0, t1⟩ := hat i (by omega)
      obtain ⟨x, e0, -, w0⟩ := DataW.trod_int Try.underlying3 t0
      obtain ⟨y, e1, -, w1⟩ := DataW.trod_int Try.underlying3 t1
      exact ⟨(x, y), by simpa using e0, by simpa using e1, w0, w1⟩
    obtain ⟨q, hq⟩ := Deep.choose_lt each
    refine ⟨(List.range len).map q, ?_, ?_, fun x hx => ?_⟩
    · by_cases h0 : len = 0
      · subst h0; exact .inl ⟨by simp, some a, cap, rfl⟩
      · obtain ⟨b, off, spot⟩ := a
        have hsp : spot = none := by
          have := (hat 0 (by omega)).1
          cases spot with
          | none => rfl
          | some s => simp [World.cell?, Addr.add] at this; split at this <;> cases this
        subst hsp
        refine .inr ⟨by simp; omega, b, off, cap, by simp, by simpa using hl, fun i hi => ?_⟩
        have hi' : i < len := by simpa using hi
        obtain ⟨g0, g1, _, _⟩ := hat i (by omega)
        rw [add_none] at g0 g1
        obtain ⟨q1, q2, _⟩ := hq i hi'
        refine ⟨by rw [g0, q1]; simp, ?_⟩
        rw [show off + i * 2 + 1 = off + (i * 2 + 1) by omega, g1, q2]
        simp
    · rw [hx.1]
      have hb := bulk_pairs D0 D1 (fun _ => []) (List.range len) (fun i hi => by simp)
      simp only [Rows.uptoBulk]
      simp only [List.length_map, List.length_range] at hb ⊢
      omega
    · obtain ⟨i, hi, rfl⟩ := List.mem_map.1 hx
      obtain ⟨_, _, w0, w1⟩ := hq i (by simpa using hi)
      exact ⟨w0, w1⟩
set_option maxRecDepth 100000 in
theorem acts_of_read {H : Type} {enc : TypeId × Value → H} {W : World} {v : Value} {d : DataW H} {p : List MemPlace} (hv : ∃ a len cap, v = .slice a len cap) (h : DataW.Trod enc Try.prog W 0 (fun _ => true) true 23 v d p) :
    ∃ xs : List (Int × Int), HasAct W v xs ∧ xs.length ≤ Rows.uptoBulk d ∧ ∀ x ∈ xs, (Lit.int .i64 x.1).wf = true ∧ (Lit.int .i64 x.2).wf = true := by
  obtain ⟨a0, len0, cap0, rfl⟩ := hv
  obtain ⟨fuel, hf⟩ := h
  exact acts_of_trod hf
end Go.Proofs.Ytkpjmcoihbebkaa.CSplits
