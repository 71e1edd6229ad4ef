/- What is proved here: laws and contracts of CSame, CAlike, CRCut, CRead, one behind the other (each says its own). -/
import Derived.Test.YtkpjmcoihbebkaaCSteps
import Derived.Test.YtkpjmcoihbebkaaCOpen
import Derived.Test.YtkpjmcoihbebkaaBun2
/- What is proved here: the contract of same of sievelaw02: whether two scripts in memory are the same. -/
namespace Go.Proofs.Ytkpjmcoihbebkaa.C
open Go.RowKit

theorem list_ext_pairs {l l' : List (List UInt8 × Bool)} (hl : l.length = l'.length) (h : ∀ j (h : j < l.length), l[j] = l'[j]'(by omega)) : l = l' := List.ext_getElem hl (fun i h1 _ => h i h1)

end Go.Proofs.Ytkpjmcoihbebkaa.C

/- What is proved here: the contracts of alike of sievelaw02, and of Same of chunk and of sieveref02 of any scripts. -/
namespace Go.Proofs.Ytkpjmcoihbebkaa.C
open Go.RowKit

theorem grown_trans {A B C : World} {row : Option Nat} (h : A.grownBy B row) (k : B.grownBy C row) : A.grownBy C row :=
  ⟨k.os.trans h.os, k.tape.trans h.tape, k.output.trans h.output, Nat.le_trans h.size k.size, fun j hj hne => (k.block j (Nat.lt_of_lt_of_le hj h.size) hne).trans (h.block j hj hne)⟩
theorem grown_below {A B : World} {row : Option Nat} (h : Below A.heap.size A B) : A.grownBy B row := ⟨h.os, h.tape, h.output, h.size, fun k hk _ => h.block k hk⟩

set_option maxRecDepth 100000 in
set_option maxHeartbeats 1000000 in
theorem alike_calls (xs ys : List UInt8) (av wv : Value) (e f : Int) (base n₁ : Nat) (w : World) (hl : (xs.length : Int) ≤ 100000000000000) (ho : w.ownsRow base 5 1 av xs.length (bvs xs)) (hw : HasB n₁ w wv ys) :
    Calls Try.prog 20 #[av, .int .i64 e, wv, .int .i64 f] w fun r W' => r = .returned (.bool (decide (e = f) && decide (xs = ys))) ∧ w.grownBy W' av.ownBlock := by
  obtain ⟨aa, ac, rfl⟩ := owns_slice ho
  have q1 := conv_bytes (hasB_owns ho)
  have q2 := conv_bytes hw
  have HO : Hid (w.ownsRow base 5 1 (.slice aa xs.length ac) xs.length (bvs xs)) := ho
  clear ho hw
  have hx := bytes_beq xs ys
  by_cases hef : e = f
  · rw [decide_eq_true hef, Bool.true_and]
    subst hef
    generalize decide (xs = ys) = dx at *
    go_enter Try.func20, Try.ntmps20
    go_wp2_with (go_at_call 8; refine (num_calls _ _).mono ?_; rintro e w' ⟨rfl, hw⟩; obtain rfl : w = w' := hw.symm)
    go_loopw [10, 24] (fun _ i wr => ∃ k : Nat, k ≤ xs.length ∧ i = .int .i64 k ∧ w.grownBy wr (Value.slice aa xs.length ac).ownBlock ∧ ∃ zs, wr.ownsRow base 5 1 (.slice aa xs.length ac) xs.length zs) (fun _ i _ => xs.length - (intOf i).toNat)
    case atStart => exact ⟨0, by omega, rfl, World.grownBy.refl _ _, _, HO.out⟩
    case round =>
      obtain ⟨k, hk, rfl, hgr, zs, hzs⟩ := hrel
      by_cases hlt : k < xs.length
      · obtain ⟨g, rfl⟩ : ∃ g, aa = some ⟨g, 0, none⟩ := by
          rcases hzs.2 with ⟨e, _⟩ | ⟨g, _, _, e, _⟩
          · simp at e; omega
          · simp at e; exact ⟨g, e.1⟩
        have hzl : zs.length = xs.length := by have := hzs.1; omega
        obtain ⟨u, hcell⟩ : ∃ u, wr.cell? ⟨g, k, none⟩ = some u := ⟨zs[k]'(by omega), by rw [hzs.cellAt k (by omega), List.getElem?_eq_getElem (by omega)]⟩
        clear hzl
        have hfr := hzs.frozenAt k
        obtain ⟨st1, st2⟩ := hzs.stored k (.int .u8 121)
        go_wp2
        go_roundw
        case rel => exact ⟨k + 1, by omega, by go_num, grown_trans hgr st2, _, st1⟩
        case measure => simp [intOf]; omega
      · go_wp2
        go_ret
        exact ⟨rfl, hgr⟩
  · rw [decide_eq_false hef, Bool.false_and]
    have he : (e == f) = false := by rw [beq_eq_false_iff_ne]; exact hef
    clear hef
    go_enter Try.func20, Try.ntmps20
    go_wp2_with (go_at_call 8; refine (num_calls _ _).mono ?_; rintro e w' ⟨rfl, hw⟩; obtain rfl : w = w' := hw.symm)
    go_loopw [10, 24] (fun _ i wr => ∃ k : Nat, k ≤ xs.length ∧ i = .int .i64 k ∧ w.grownBy wr (Value.slice aa xs.length ac).ownBlock ∧ ∃ zs, wr.ownsRow base 5 1 (.slice aa xs.length ac) xs.length zs) (fun _ i _ => xs.length - (intOf i).toNat)
    case atStart => exact ⟨0, by omega, rfl, World.grownBy.refl _ _, _, HO.out⟩
    case round =>
      obtain ⟨k, hk, rfl, hgr, zs, hzs⟩ := hrel
      by_cases hlt : k < xs.length
      · obtain ⟨g, rfl⟩ : ∃ g, aa = some ⟨g, 0, none⟩ := by
          rcases hzs.2 with ⟨e, _⟩ | ⟨g, _, _, e, _⟩
          · simp at e; omega
          · simp at e; exact ⟨g, e.1⟩
        have hzl : zs.length = xs.length := by have := hzs.1; omega
        obtain ⟨u, hcell⟩ : ∃ u, wr.cell? ⟨g, k, none⟩ = some u := ⟨zs[k]'(by omega), by rw [hzs.cellAt k (by omega), List.getElem?_eq_getElem (by omega)]⟩
        clear hzl
        have hfr := hzs.frozenAt k
        obtain ⟨st1, st2⟩ := hzs.stored k (.int .u8 121)
        go_wp2
        go_roundw
        case rel => exact ⟨k + 1, by omega, by go_num, grown_trans hgr st2, _, st1⟩
        case measure => simp [intOf]; omega
      · go_wp2
        go_ret
        exact ⟨rfl, hgr⟩

end Go.Proofs.Ytkpjmcoihbebkaa.C

/- What is proved here: the contract of Cut of sieveref02. -/
namespace Go.Proofs.Ytkpjmcoihbebkaa.C
open Go.RowKit

theorem infoRStep : (Try.prog.info? 54).map (fun i => (i.zero, i.size, i.bytes)) = some (some (.agg #[.slice none 0 0, .bool false]), 2, 32) := by kernel_rfl
theorem byt_of {w : World} {a : Option Addr} {m c : Nat} {xs : List UInt8} (h : HasB w.heap.size w (.slice a m c) xs) (hc : a = none → c = 0) : Byt w (.slice a m c) xs := by
  refine ⟨h, ?_⟩
  cases a with
  | none =>
    left
    rcases h with ⟨_, a', c', e⟩ | ⟨_, b, off, c', e, _⟩
    · simp at e; rw [hc rfl, e.2.1]
    · simp at e
  | some ad => exact .inr ⟨_, _, _, rfl⟩

theorem part_if {w : World} {a : Option Addr} {b off cap : Nat} {bs : List UInt8} (ha : 0 < bs.length → a = some ⟨b, off, none⟩) (hb : 0 < bs.length → b < w.heap.size) (hcap : bs.length ≤ cap) (hx : ∀ j, j < bs.length → w.cell? ⟨b, off + j, none⟩ = some (.int .u8 (byteAt bs j)))
    (lo hi m : Nat) (h1 : lo ≤ hi) (h2 : hi ≤ bs.length) (hm : m = hi - lo) (hn : a = none → cap = 0) : Byt w (.slice (if cap = lo then a else a.map fun p => p.add lo) m (cap - lo)) ((bs.drop lo).take (hi - lo)) := by
  by_cases h : cap = lo
  · rw [if_pos h]
    exact byt_of (part_zero (by omega) (by simp; omega)) (fun _ => by omega)
  · rw [if_neg h]
    exact byt_of (part_pos ha hb hcap hx lo hi m h1 h2 hm) (fun e => by have := hn (by simpa using e); omega)

end Go.Proofs.Ytkpjmcoihbebkaa.C

/- What is proved here: what a script that was handed in reads as in memory, and how many values its datum holds at least. -/
namespace Go.Proofs.Ytkpjmcoihbebkaa.C
open Go.ChangeShapes Go.WideShapes Go.ChangeAt Go.RowKit

theorem bulk_pairs {H : Type} (D0 D1 : Nat → DataW H) (B : Nat → List UInt8) : ∀ L : List Nat, (∀ i ∈ L, (B i).length ≤ Rows.uptoBulk (D0 i)) → L.length + (L.map fun i => (B i).length).sum ≤ Rows.uptoBulkAll (L.map fun i => DataW.agg [D0 i, D1 i])
  | [], _ => by simp [Rows.uptoBulkAll]
  | i :: r, h => by
    have h1 := bulk_pairs D0 D1 B r (fun j hj => h j (by simp [hj]))
    have h2 := h i (by simp)
    simp only [List.map_cons, List.sum_cons, List.length_cons, Rows.uptoBulkAll, Rows.uptoBulk]
    omega

set_option maxRecDepth 100000 in
theorem script_of_read {H : Type} {enc : TypeId × Value → H} {W : World} {v : Value} {d : DataW H} {p : List MemPlace} (hv : ∃ a len cap, v = .slice a len cap) (h : DataW.Trod enc Try.prog W 0 (fun _ => true) true 22 v d p) :
    ∃ l : List (List UInt8 × Bool), HasS W v l ∧ l.length + (l.map fun x => x.1.length).sum ≤ Rows.uptoBulk d := by
  obtain ⟨a0, len0, cap0, rfl⟩ := hv
  obtain ⟨fuel, hf⟩ := h
  rcases Deep.open_slice_pairs Try.underlying22 Try.underlying54 (by kernel_rfl) rfl rfl (by kernel_rfl) (by kernel_rfl) hf with ⟨hcs, hx⟩ | ⟨a, len, cap, m, n, V0, V1, D0, D1, P0, P1, hcs, _, hl, _, hm, hx, hat⟩
  · have : Value.slice a0 len0 cap0 = .slice none 0 0 := by simpa [Value.cells] using hcs
    rw [this]
    exact ⟨[], .inl ⟨rfl, none, 0, rfl⟩, by simp⟩
  · have : Value.slice a0 len0 cap0 = .slice (some a) len cap := by simpa [Value.cells] using hcs
    rw [this]
    simp only [if_true] at hm
    simp only [Prod.mk.injEq] at hx
    have each : ∀ i, i < len → ∃ q : List UInt8 × Bool, Byt W (V0 i) q.1 ∧ V1 i = .bool q.2 ∧ q.1.length ≤ Rows.uptoBulk (D0 i) := fun i hi => by
      obtain ⟨_, _, t0, t1⟩ := hat i (by omega)
      obtain ⟨bs, hb, lb⟩ := bytes_of_trod (by kernel_rfl) t0
      obtain ⟨f, hf2, -⟩ := DataW.trod_bool Try.underlying4 t1
      refine ⟨(bs, f), ⟨hb, ?_⟩, by simpa using hf2, lb⟩
      rcases open_ints Try.underlying39 Try.underlying5 (by kernel_rfl) t0 with ⟨e, _⟩ | ⟨a', len', cap', zs, e, _⟩
      · left; simpa using e
      · right; exact ⟨a', len', cap', by simpa using e⟩
    obtain ⟨q, hq⟩ := Deep.choose_lt each
    refine ⟨(List.range len).map q, ?_, ?_⟩
    · by_cases h0 : len = 0
      · subst h0; exact .inl ⟨by simp, some a, cap, rfl⟩
      · obtain ⟨b, off, spot⟩ := a
        have hsp : spot = none := by
          have := (hat 0 (by omega)).1
          cases spot with
          | none => rfl
          | some s => simp [World.cell?, Addr.add] at this; split at this <;> cases this
        subst hsp
        refine .inr ⟨by simp; omega, b, off, cap, by simp, by simpa using hl, fun i hi => ?_⟩
        have hi' : i < len := by simpa using hi
        obtain ⟨g0, g1, _, _⟩ := hat i (by omega)
        rw [add_none] at g0 g1
        obtain ⟨q1, q2, _⟩ := hq i hi'
        refine ⟨V0 i, g0, by simpa using q1, ?_⟩
        rw [show off + i * 2 + 1 = off + (i * 2 + 1) by omega, g1, q2]
        simp
    · rw [hx.1]
      have hb := bulk_pairs D0 D1 (fun i => (q i).1) (List.range len) (fun i hi => (hq i (by simpa using hi)).2.2)
      simp only [Rows.uptoBulk]
      simp only [List.length_map, List.map_map, List.length_range, Function.comp_def] at hb ⊢
      omega

end Go.Proofs.Ytkpjmcoihbebkaa.C
