/- What is proved here: laws and contracts of TAttrF, TOpen, one behind the other (each says its own). -/
import Derived.Test.YtelfejbhlolppaaDoorTEqual
import Derived.Deep.SlicePairs
import Derived.Deep.Strs
import Derived.Test.YtelfejbhlolppaaDoorBun6
/- What is proved here: the contract of Attr of token: an attribute's value. -/
namespace Go.Proofs.YtelfejbhlolppaaDoor.T
open Go.RowKit N

def attrV (l : AL) (n : ByteArray) : ByteArray × Bool := match l.find? fun a => decide (a.1 = n) with | some a => (a.2, true) | none => (⟨#[]⟩, false)
theorem find_at (l : AL) (n : ByteArray) : ∀ k, (hk : k < l.length) → (∀ j (h : j < l.length), j < k → l[j].1 ≠ n) → l[k].1 = n → (l.find? fun a => decide (a.1 = n)) = some l[k] := by
  induction l with
  | nil => intro k hk; simp at hk
  | cons a r ih =>
    intro k hk h he
    cases k with
    | zero => simp only [List.getElem_cons_zero] at he; rw [List.find?_cons_of_pos (by simpa using he)]; rfl
    | succ k =>
      have h0 := h 0 (by simp) (by omega)
      simp only [List.getElem_cons_zero] at h0
      rw [List.find?_cons_of_neg (by simpa using h0)]
      simp only [List.getElem_cons_succ] at he ⊢
      exact ih k (by simpa using hk) (fun j hj hjk => by have := h (j + 1) (by simp; omega) (by omega); simpa using this) he
theorem attrV_at (l : AL) (n : ByteArray) (k : Nat) (hk : k < l.length) (h : ∀ j (h : j < l.length), j < k → l[j].1 ≠ n) (he : l[k].1 = n) : attrV l n = (l[k].2, true) := by
  unfold attrV
  rw [find_at l n k hk h he]
theorem attrV_none (l : AL) (n : ByteArray) (h : ∀ j (h : j < l.length), l[j].1 ≠ n) : attrV l n = (⟨#[]⟩, false) := by
  unfold attrV
  rw [List.find?_eq_none.2 (fun a ha => by obtain ⟨j, hj, rfl⟩ := List.mem_iff_getElem.1 ha; simpa using h j hj)]

set_option maxRecDepth 100000 in
set_option maxHeartbeats 2000000 in
theorem attr_calls (t : Tok) (l : AL) (av : Value) (name : ByteArray) (w : World) (hH : HasA w av l) (hl : (l.length : Int) ≤ 1000000000000) :
    Calls Tryd.prog 14 #[t.val av, .string name] w fun e w' => e = .returned (.tuple #[.string (attrV l name).1, .bool (attrV l name).2]) ∧ Below w.heap.size w w' := by
  obtain ⟨la, lc, rfl⟩ := hH.slice
  obtain ⟨kind, tname, text, self, p0, p1, p2⟩ := t
  unfold Tok.val
  simp only
  obtain ⟨W0, hW0⟩ : ∃ W0, w.alloc (.cells #[.int .i64 kind, .string tname, .string text, .slice la l.length lc, .bool self, .int .i64 p0, .int .i64 p1, .int .i64 p2] 28) = W0 := ⟨_, rfl⟩
  have b0 : Below w.heap.size w W0 := by rw [← hW0]; exact (Below.refl _ w).alloc (Nat.le_refl _) _
  have t3 : W0.cell? ⟨w.heap.size, 3, none⟩ = some (.slice la l.length lc) := by rw [← hW0, C.cell_new]; rfl
  have HB0 : Hid (Below w.heap.size w W0) := b0
  have HS : Hid (HasA W0 (.slice la l.length lc) l) := hH.below b0
  clear b0 hH
  go_enter Tryd.func14, Tryd.ntmps14
  go_wp2
  go_loopw [7, 11] (fun _ i wr => ∃ k : Nat, k ≤ l.length ∧ i = .int .i64 k ∧ Hid (Below W0.heap.size W0 wr) ∧ Hid (∀ j (h : j < l.length), j < k → l[j].1 ≠ name)) (fun _ i _ => l.length - (intOf i).toNat)
  case atStart => exact ⟨0, by omega, rfl, Below.refl _ _, fun j _ hj => by omega⟩
  case round =>
    obtain ⟨k, hk, rfl, hB, hne⟩ := hrel
    have s1 := hB.out.size
    by_cases hlt : k < l.length
    · obtain ⟨b, off, rfl, d0, d1⟩ := (HS.out.below hB.out).at k hlt
      rcases hx : l[k] with ⟨n, x⟩
      rw [hx] at d0 d1
      simp only at d0 d1
      have HX : Hid (l[k] = (n, x)) := hx
      clear hx
      obtain ⟨W1, hW1⟩ : ∃ W1, wr.alloc (.cells #[.string n, .string x] 36) = W1 := ⟨_, rfl⟩
      have b1 : Below wr.heap.size wr W1 := by rw [← hW1]; exact (Below.refl _ wr).alloc (Nat.le_refl _) _
      have u0 : W1.cell? ⟨wr.heap.size, 0, none⟩ = some (.string n) := by rw [← hW1, C.cell_new]; rfl
      have u1 : W1.cell? ⟨wr.heap.size, 1, none⟩ = some (.string x) := by rw [← hW1, C.cell_new]; rfl
      have HB1 : Hid (Below W0.heap.size W0 W1) := hB.out.trans (b1.mono s1)
      clear b1
      by_cases hn : n = name
      · have q1 : (n.toList == name.toList) = true := by rw [beq_bytes]; simpa using hn
        have HV := attrV_at l name k hlt hne.out (by rw [HX.out]; exact hn)
        rw [HX.out] at HV
        have HV' : Hid (attrV l name = (x, true)) := HV
        clear HV hn
        go_wp2
        all_goals go_ret2
        all_goals exact ⟨by rw [HV'.out]; rfl, HB0.out.trans (HB1.out.mono HB0.out.size)⟩
      · have q1 : (n.toList == name.toList) = false := by rw [beq_bytes]; simpa using hn
        have HN : Hid (∀ j (h : j < l.length), j < k + 1 → l[j].1 ≠ name) := fun j h hj => by
          by_cases e : j = k
          · subst e; rw [HX.out]; exact hn
          · exact hne.out j h (by omega)
        clear hn
        go_wp2
        go_roundw
        case rel => exact ⟨k + 1, by omega, by go_num, HB1, HN⟩
        case measure => simp [intOf]; omega
    · obtain rfl : k = l.length := by omega
      have HV : Hid (attrV l name = (⟨#[]⟩, false)) := attrV_none l name (fun j h => hne.out j h h)
      go_wp2
      go_ret2
      exact ⟨by rw [HV.out]; rfl, HB0.out.trans (hB.out.mono HB0.out.size)⟩
end Go.Proofs.YtelfejbhlolppaaDoor.T

/- What is proved here: what a token that was handed in reads as in memory, and how many values its datum holds at least. -/
namespace Go.Proofs.YtelfejbhlolppaaDoor.T
open Go.ChangeShapes Go.WideShapes Go.ChangeAt Go.RowKit N

theorem bulk_str {H : Type} (l : List UInt8) : Rows.uptoBulk (H := H) (.lit (.string l)) = l.length + 1 := rfl
theorem bulk_one {H : Type} (d : DataW H) : 1 ≤ Rows.uptoBulk d := by
  cases d with
  | lit l => cases l <;> simp [Rows.uptoBulk]
  | nil => simp [Rows.uptoBulk]
  | ptr d => simp [Rows.uptoBulk]
  | slice elems spare => simp [Rows.uptoBulk]
  | agg parts => simp [Rows.uptoBulk]
  | iface t d => simp [Rows.uptoBulk]
  | map entries => simp [Rows.uptoBulk]
  | held h => simp [Rows.uptoBulk]
theorem bulk_two {H : Type} (D0 D1 : Nat → DataW H) (q : Nat → ByteArray × ByteArray) : ∀ L : List Nat, (∀ i ∈ L, (q i).1.size ≤ Rows.uptoBulk (D0 i) ∧ (q i).2.size ≤ Rows.uptoBulk (D1 i)) → L.length + sumA (L.map q) ≤ Rows.uptoBulkAll (L.map fun i => DataW.agg [D0 i, D1 i])
  | [], _ => by simp [Rows.uptoBulkAll, sumA]
  | i :: r, h => by
    have h1 := bulk_two D0 D1 q r (fun j hj => h j (by simp [hj]))
    have h2 := h i (by simp)
    simp only [sumA, List.map_cons, List.sum_cons, List.length_cons, Rows.uptoBulkAll, Rows.uptoBulk] at h1 ⊢
    omega

set_option maxRecDepth 100000 in
/-- Attributes that came in. -/
theorem attrs_of_trod {H : Type} {enc : TypeId × Value → H} {W : World} {v : Value} {d : DataW H} {p : List MemPlace} {fuel : Nat} (hf : DataW.trod enc Tryd.prog W 0 (fun _ => true) true fuel 24 [v] = some (d, p)) :
    ∃ l : AL, HasA W v l ∧ l.length + sumA l ≤ Rows.uptoBulk d := by
  rcases Deep.open_slice_pairs Tryd.underlying24 Tryd.underlying36 (by kernel_rfl) rfl rfl (by kernel_rfl) (by kernel_rfl) hf with ⟨hcs, hx⟩ | ⟨a, len, cap, m, n, V0, V1, D0, D1, P0, P1, hcs, _, hl, _, hm, hx, hat⟩
  · obtain rfl : v = .slice none 0 0 := by simpa using hcs
    exact ⟨[], .inl ⟨rfl, .inl rfl⟩, by simp [sumA]⟩
  · obtain rfl : v = .slice (some a) len cap := by simpa using hcs
    simp only [if_true] at hm
    simp only [Prod.mk.injEq] at hx
    have each : ∀ i, i < len → ∃ q : ByteArray × ByteArray, V0 i = .string q.1 ∧ V1 i = .string q.2 ∧ q.1.size ≤ Rows.uptoBulk (D0 i) ∧ q.2.size ≤ Rows.uptoBulk (D1 i) := fun i hi => by
      obtain ⟨_, _, t0, t1⟩ := hat i (by omega)
      obtain ⟨s0, e0, x0, _⟩ := DataW.trod_string Tryd.underlying9 t0
      obtain ⟨s1, e1, x1, _⟩ := DataW.trod_string Tryd.underlying9 t1
      simp only [Prod.mk.injEq] at x0 x1
      refine ⟨(s0, s1), by simpa using e0, by simpa using e1, ?_, ?_⟩
      · show s0.size ≤ _; rw [x0.1, bulk_str, size_data]; omega
      · show s1.size ≤ _; rw [x1.1, bulk_str, size_data]; omega
    obtain ⟨q, hq⟩ := Deep.choose_lt each
    refine ⟨(List.range len).map q, ?_, ?_⟩
    · by_cases h0 : len = 0
      · subst h0; exact .inl ⟨by simp, .inr ⟨a, cap, rfl⟩⟩
      · obtain ⟨b, off, spot⟩ := a
        have hsp : spot = none := by
          have := (hat 0 (by omega)).1
          cases spot with
          | none => rfl
          | some s => simp [World.cell?, Addr.add] at this; split at this <;> cases this
        subst hsp
        refine .inr ⟨by simp; omega, b, off, cap, by simp, by simpa using hl, fun i hi => ?_⟩
        have hi' : i < len := by simpa using hi
        obtain ⟨g0, g1, _, _⟩ := hat i (by omega)
        rw [C.add_none] at g0 g1
        obtain ⟨q1, q2, _⟩ := hq i hi'
        refine ⟨?_, ?_⟩
        · rw [g0, q1]; simp
        · rw [show off + i * 2 + 1 = off + (i * 2 + 1) by omega, g1, q2]; simp
    · rw [hx.1]
      have hb := bulk_two D0 D1 q (List.range len) (fun i hi => (hq i (by simpa using hi)).2.2)
      simp only [Rows.uptoBulk]
      simp only [List.length_map, List.length_range] at hb ⊢
      omega

theorem trod_struct6 {H : Type} {enc : TypeId × Value → H} {P : Program} {w : World} {base : Nat} {spare : Nat → Bool} {held : Bool} {t : TypeId} {f0 f1 f2 f3 f4 f5 : Field} {fuel : Nat} {cs : List Value} {x : DataW H × List MemPlace} (ht : P.underlying t = some (.struct #[f0, f1, f2, f3, f4, f5])) (h : DataW.trod enc P w base spare held fuel t cs = some x) :
    ∃ y0 y1 y2 y3 y4 y5 n, x.1 = .agg [y0.1, y1.1, y2.1, y3.1, y4.1, y5.1] ∧ DataW.trod enc P w base spare held n f0.type ((cs.drop f0.offset).take (P.cellsOf f0.type)) = some y0 ∧
      DataW.trod enc P w base spare held n f1.type ((cs.drop f1.offset).take (P.cellsOf f1.type)) = some y1 ∧ DataW.trod enc P w base spare held n f2.type ((cs.drop f2.offset).take (P.cellsOf f2.type)) = some y2 ∧
      DataW.trod enc P w base spare held n f3.type ((cs.drop f3.offset).take (P.cellsOf f3.type)) = some y3 ∧ DataW.trod enc P w base spare held n f4.type ((cs.drop f4.offset).take (P.cellsOf f4.type)) = some y4 ∧ DataW.trod enc P w base spare held n f5.type ((cs.drop f5.offset).take (P.cellsOf f5.type)) = some y5 := by
  obtain ⟨xs, n, _, rfl, hl, hlen, hf⟩ := DataW.trod_struct ht h
  match xs, hlen with
  | [y0, y1, y2, y3, y4, y5], _ => exact ⟨y0, y1, y2, y3, y4, y5, n, by simp, by simpa using hf 0 f0 rfl, by simpa using hf 1 f1 rfl, by simpa using hf 2 f2 rfl, by simpa using hf 3 f3 rfl, by simpa using hf 4 f4 rfl, by simpa using hf 5 f5 rfl⟩

set_option maxRecDepth 100000 in
/-- A token that came in, by its cells. -/
theorem tok_of_trod {H : Type} {enc : TypeId × Value → H} {W : World} {c0 c1 c2 c3 c4 c5 c6 c7 : Value} {d : DataW H} {p : List MemPlace} {fuel : Nat} (hf : DataW.trod enc Tryd.prog W 0 (fun _ => true) true fuel 28 [c0, c1, c2, c3, c4, c5, c6, c7] = some (d, p)) :
    ∃ (t : Tok) (l : AL), [c0, c1, c2, c3, c4, c5, c6, c7] = [.int .i64 t.kind, .string t.name, .string t.text, c3, .bool t.self, .int .i64 t.p0, .int .i64 t.p1, .int .i64 t.p2] ∧ HasA W c3 l ∧ t.name.size + t.text.size + (l.length + sumA l) + 1 ≤ Rows.uptoBulk d := by
  obtain ⟨y0, y1, y2, y3, y4, y5, n, hx, t0, t1, t2, t3, t4, t5⟩ := trod_struct6 Tryd.underlying28 hf
  have k0 : Tryd.prog.cellsOf 23 = 1 := by kernel_rfl
  have k1 : Tryd.prog.cellsOf 9 = 1 := by kernel_rfl
  have k3 : Tryd.prog.cellsOf 24 = 1 := by kernel_rfl
  have k4 : Tryd.prog.cellsOf 4 = 1 := by kernel_rfl
  have k5 : Tryd.prog.cellsOf 26 = 3 := by kernel_rfl
  have k6 : Tryd.prog.cellsOf 3 = 1 := by kernel_rfl
  simp only [k0, k1, k3, k4, k5, List.drop_zero, List.drop_succ_cons, List.take_succ_cons, List.take_zero] at t0 t1 t2 t3 t4 t5
  obtain ⟨kind, e0, x0, _⟩ := DataW.trod_int Tryd.underlying23 t0
  obtain ⟨name, e1, x1, _⟩ := DataW.trod_string Tryd.underlying9 t1
  obtain ⟨text, e2, x2, _⟩ := DataW.trod_string Tryd.underlying9 t2
  obtain ⟨d3, p3⟩ := y3
  obtain ⟨l, hA, hl⟩ := attrs_of_trod t3
  obtain ⟨self, e4, x4⟩ := DataW.trod_bool Tryd.underlying4 t4
  obtain ⟨z0, z1, z2, m, _, _, s0, s1, s2⟩ := Deep.trod_struct3 Tryd.underlying26 t5
  simp only [k6, List.drop_zero, List.drop_succ_cons, List.take_succ_cons, List.take_zero] at s0 s1 s2
  obtain ⟨p0, e5, _⟩ := DataW.trod_int Tryd.underlying3 s0
  obtain ⟨p1, e6, _⟩ := DataW.trod_int Tryd.underlying3 s1
  obtain ⟨p2, e7, _⟩ := DataW.trod_int Tryd.underlying3 s2
  refine ⟨⟨kind, name, text, self, p0, p1, p2⟩, l, ?_, hA, ?_⟩
  · simp at e0 e1 e2 e4 e5 e6 e7
    rw [e0, e1, e2, e4, e5, e6, e7]
  · simp only at hx
    rw [hx, x0, x1, x2, x4]
    simp only [Rows.uptoBulk, Rows.uptoBulkAll, size_data]
    omega

set_option maxRecDepth 100000 in
/-- A token that came in. -/
theorem tok_of_read {H : Type} {enc : TypeId × Value → H} {W : World} {r : Reach} {b0 : Nat} {v : Value} {d : DataW H} {p : List MemPlace} (hval : Value.okWide Tryd.prog W r b0 28 v) (h : DataW.Trod enc Tryd.prog W 0 (fun _ => true) true 28 v d p) :
    ∃ (t : Tok) (l : AL) (av : Value), v = t.val av ∧ HasA W av l ∧ t.name.size + t.text.size + (l.length + sumA l) + 1 ≤ Rows.uptoBulk d := by
  obtain ⟨cells, rfl, hsz⟩ := okWide_struct Tryd.underlying28 hval
  rw [show Tryd.prog.cellsOf 28 = 8 by kernel_rfl] at hsz
  obtain ⟨c0, c1, c2, c3, c4, c5, c6, c7, rfl⟩ : ∃ c0 c1 c2 c3 c4 c5 c6 c7, cells = #[c0, c1, c2, c3, c4, c5, c6, c7] := by
    match cells, hsz with
    | ⟨[c0, c1, c2, c3, c4, c5, c6, c7]⟩, _ => exact ⟨c0, c1, c2, c3, c4, c5, c6, c7, rfl⟩
  obtain ⟨fuel, hf⟩ := h
  obtain ⟨t, l, he, hA, hb⟩ := tok_of_trod hf
  simp only [List.cons.injEq, and_true] at he
  obtain ⟨rfl, rfl, rfl, _, rfl, rfl, rfl, rfl⟩ := he
  exact ⟨t, l, c3, rfl, hA, hb⟩
theorem sizes_of {t : Tok} {l : AL} {n : Nat} (hn : n ≤ 1048576) (h : t.name.size + t.text.size + (l.length + sumA l) + 1 ≤ n) : SizesA l ∧ t.Sizes ∧ sizeT t l ≤ 100000000 := by
  refine ⟨⟨by omega, fun x hx => ?_⟩, ⟨by omega, by omega⟩, by unfold sizeT; omega⟩
  obtain ⟨j, hj, rfl⟩ := List.mem_iff_getElem.1 hx
  have h1 := sumA_succ l j hj
  have h2 := sumA_take l (j + 1)
  omega
end Go.Proofs.YtelfejbhlolppaaDoor.T
