/- What is proved here: what a rule and schemes that were handed in read as in memory, and how many values their data hold at least. -/
import Derived.Deep.SlicePairs
import Derived.Deep.Strs
import Derived.ChangeSame
import Derived.Test.YtfbfigjjnpamiaaGreatDoorBun1
import Derived.Test.YtfbfigjjnpamiaaGreatDoorVLang
import Derived.Test.YtfbfigjjnpamiaaGreatDoorVOne
namespace Go.Proofs.YtfbfigjjnpamiaaGreatDoor.V
open Go.ChangeShapes Go.WideShapes Go.ChangeAt Go.RowKit Go.Shelf Go.Proofs.YtfbfigjjnpamiaaGreatDoor.N Go.Proofs.YtfbfigjjnpamiaaGreatDoor.U Go.Proofs.YtfbfigjjnpamiaaGreatDoor.L

theorem bulk_words {H : Type} (S : Nat → ByteArray) : ∀ L : List Nat, L.length ≤ Rows.uptoBulkAll (H := H) (L.map fun i => DataW.lit (.string (S i).data.toList)) ∧ ∀ i ∈ L, (S i).data.toList.length ≤ Rows.uptoBulkAll (H := H) (L.map fun i => DataW.lit (.string (S i).data.toList))
  | [] => ⟨by simp, fun i hi => absurd hi (by simp)⟩
  | i :: r => by
    obtain ⟨h1, h2⟩ := bulk_words (H := H) S r
    simp only [List.map_cons, List.length_cons, Rows.uptoBulkAll, Rows.uptoBulk]
    refine ⟨by omega, fun j hj => ?_⟩
    rcases List.mem_cons.1 hj with rfl | hj
    · omega
    · have := h2 j hj; omega
set_option maxRecDepth 100000 in
/-- A row of words that came in. -/
theorem words_of_trod {H : Type} {enc : TypeId × Value → H} {W : World} {c : Value} {d : DataW H} {p : List MemPlace} {fuel : Nat} (hf : DataW.trod enc Tryz.prog W 0 (fun _ => true) true fuel 23 [c] = some (d, p)) :
    ∃ (a : Option Addr) (cap : Nat) (L : List (List UInt8)), c = .slice a L.length cap ∧ L.length ≤ cap ∧ TextsAt W a L ∧ L.length ≤ Rows.uptoBulk d ∧ ∀ x ∈ L, x.length ≤ Rows.uptoBulk d := by
  rcases Deep.open_strs Tryz.underlying23 Tryz.underlying9 (by kernel_rfl) hf with ⟨hcs, hx⟩ | ⟨a, len, cap, m, S, hcs, _, hl, hmx, hm, hx, hat⟩
  · simp only [List.cons.injEq, and_true] at hcs
    exact ⟨none, 0, [], hcs, by simp, fun j hj => absurd hj (by simp), by simp, fun x hx => absurd hx (by simp)⟩
  · simp only [List.cons.injEq, and_true] at hcs
    simp only [if_true] at hm
    simp only [Prod.mk.injEq] at hx
    obtain ⟨b1, b2⟩ := bulk_words (H := H) S (List.range len)
    rw [List.length_range] at b1
    refine ⟨some a, cap, (List.range len).map fun i => (S i).data.toList, by rw [hcs]; simp, by simpa using hl, fun j hj => ?_, ?_, fun x hx' => ?_⟩
    · have hj' : j < len := by simpa using hj
      obtain ⟨b, off, spot⟩ := a
      have hsp : spot = none := by
        have := (hat 0 (by omega)).1
        cases spot with
        | none => rfl
        | some s => simp [World.cell?, Addr.add] at this; split at this <;> cases this
      subst hsp
      refine ⟨b, off, rfl, ?_⟩
      have g := (hat j (by omega)).1
      rw [add_none] at g
      rw [g]
      simp [hj']
    · rw [hx.1]
      simp only [Rows.uptoBulk, List.length_map, List.length_range]
      omega
    · obtain ⟨i, hi, rfl⟩ := List.mem_map.1 hx'
      have := b2 i hi
      rw [hx.1]
      simp only [Rows.uptoBulk]
      omega
set_option maxRecDepth 100000 in
/-- A rule that came in. -/
theorem rule_of_read {H : Type} {enc : TypeId × Value → H} {W : World} {r : Reach} {b0 : Nat} {v : Value} {d : DataW H} {p : List MemPlace} (hval : Value.okWide Tryz.prog W r b0 39 v) (h : DataW.Trod enc Tryz.prog W 0 (fun _ => true) true 39 v d p) :
    ∃ (nm : ByteArray) (k : Int) (a : Option Addr) (cap : Nat) (L : List (List UInt8)), v = .agg #[.string nm, .int .i64 k, .slice a L.length cap] ∧ L.length ≤ cap ∧ TextsAt W a L ∧ L.length ≤ Rows.uptoBulk d ∧ ∀ x ∈ L, x.length ≤ Rows.uptoBulk d := by
  obtain ⟨cells, rfl, hsz⟩ := okWide_struct Tryz.underlying39 hval
  rw [show Tryz.prog.cellsOf 39 = 3 by kernel_rfl] at hsz
  obtain ⟨c0, c1, c2, rfl⟩ : ∃ c0 c1 c2, cells = #[c0, c1, c2] := by
    match cells, hsz with
    | ⟨[c0, c1, c2]⟩, _ => exact ⟨c0, c1, c2, rfl⟩
  obtain ⟨fuel, hf0⟩ := h
  have hf : DataW.trod enc Tryz.prog W 0 (fun _ => true) true fuel 39 [c0, c1, c2] = some (d, p) := hf0
  obtain ⟨y0, y1, y2, n, hx, _, t0, t1, t2⟩ := Deep.trod_struct3 Tryz.underlying39 hf
  have k0 : Tryz.prog.cellsOf 9 = 1 := by kernel_rfl
  have k1 : Tryz.prog.cellsOf 37 = 1 := by kernel_rfl
  have k2 : Tryz.prog.cellsOf 23 = 1 := by kernel_rfl
  simp only [k0, k1, k2, List.drop_zero, List.drop_succ_cons, List.take_succ_cons, List.take_zero] at t0 t1 t2
  obtain ⟨nm, e0, x0, _⟩ := DataW.trod_string Tryz.underlying9 t0
  obtain ⟨k, e1, x1, _⟩ := DataW.trod_int Tryz.underlying37 t1
  obtain ⟨d2, p2⟩ := y2
  obtain ⟨a, cap, L, e2, h1, h2, h3, h4⟩ := words_of_trod t2
  simp only [Prod.mk.injEq] at hx
  have hbk : Rows.uptoBulk d2 ≤ Rows.uptoBulk d := by
    rw [hx.1]
    simp only [Rows.uptoBulk, Rows.uptoBulkAll]
    omega
  simp at e0 e1
  exact ⟨nm, k, a, cap, L, by rw [e0, e1, e2], h1, h2, by omega, fun x hx' => by have := h4 x hx'; omega⟩
set_option maxRecDepth 100000 in
/-- Schemes that came in. -/
theorem schemes_of_read {H : Type} {enc : TypeId × Value → H} {W : World} {r : Reach} {b0 : Nat} {v : Value} {d : DataW H} {p : List MemPlace} (hval : Value.okWide Tryz.prog W r b0 41 v) (h : DataW.Trod enc Tryz.prog W 0 (fun _ => true) true 41 v d p) :
    ∃ (a : Option Addr) (cap : Nat) (L : List (List UInt8)) (rel : Bool), v = .agg #[.slice a L.length cap, .bool rel] ∧ L.length ≤ cap ∧ TextsAt W a L ∧ L.length ≤ Rows.uptoBulk d ∧ ∀ x ∈ L, x.length ≤ Rows.uptoBulk d := by
  obtain ⟨cells, rfl, hsz⟩ := okWide_struct Tryz.underlying41 hval
  rw [show Tryz.prog.cellsOf 41 = 2 by kernel_rfl] at hsz
  obtain ⟨c0, c1, rfl⟩ : ∃ c0 c1, cells = #[c0, c1] := by
    match cells, hsz with
    | ⟨[c0, c1]⟩, _ => exact ⟨c0, c1, rfl⟩
  obtain ⟨fuel, hf0⟩ := h
  have hf : DataW.trod enc Tryz.prog W 0 (fun _ => true) true fuel 41 [c0, c1] = some (d, p) := hf0
  obtain ⟨y0, y1, n, hx, _, t0, t1⟩ := trod_struct2 Tryz.underlying41 hf
  have k0 : Tryz.prog.cellsOf 23 = 1 := by kernel_rfl
  have k1 : Tryz.prog.cellsOf 4 = 1 := by kernel_rfl
  simp only [k0, k1, List.drop_zero, List.drop_succ_cons, List.take_succ_cons, List.take_zero] at t0 t1
  obtain ⟨d0, p0⟩ := y0
  obtain ⟨a, cap, L, e0, h1, h2, h3, h4⟩ := words_of_trod t0
  obtain ⟨rel, e1, x1⟩ := DataW.trod_bool Tryz.underlying4 t1
  simp only [Prod.mk.injEq] at hx
  have hbk : Rows.uptoBulk d0 ≤ Rows.uptoBulk d := by
    rw [hx.1]
    simp only [Rows.uptoBulk, Rows.uptoBulkAll]
    omega
  simp at e1
  exact ⟨a, cap, L, rel, by rw [e0, e1], h1, h2, by omega, fun x hx' => by have := h4 x hx'; omega⟩
end Go.Proofs.YtfbfigjjnpamiaaGreatDoor.V
