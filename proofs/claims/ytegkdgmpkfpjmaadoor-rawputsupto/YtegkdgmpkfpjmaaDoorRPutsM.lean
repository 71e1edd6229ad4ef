/- What is proved here: plain facts for the statement RawPuts: the machine behind each rune, with what was taken of it; parts of runes in memory. -/
import Derived.Test.YtegkdgmpkfpjmaaDoorBun15
import Derived.Test.YtegkdgmpkfpjmaaDoorRFirstM
import Derived.Test.YtegkdgmpkfpjmaaDoorRRWhole
namespace Go.Proofs.YtegkdgmpkfpjmaaDoor.R
open Go.RowKit Go.Shelf Go.Proofs.YtegkdgmpkfpjmaaDoor.U Go.Proofs.YtegkdgmpkfpjmaaDoor.N

/-- The machine behind so many runes. -/
def Dk (nm : List Int) (p : Nat) (ys : List Int) (k : Nat) : St := (s0 p).run nm (ys.take k)
theorem dk_open {nm : List Int} {p : Nat} (h1 : 1 ≤ p) (h3 : p ≤ 3) (ys : List Int) (k : Nat) (h6 : (Dk nm p ys k).p ≠ 6) : Ok nm (Dk nm p ys k) ∧ (Dk nm p ys k).o ++ (Dk nm p ys k).h = ys.take k ∧ (Dk nm p ys k).e = 0 := by
  rcases run_keeps nm (ys.take k) (s0 p) (s0_ok nm h1 (by omega)) with h | ⟨a, b, c⟩
  · exact absurd h h6
  · have e : (s0 p).o ++ (s0 p).h ++ ys.take k = ys.take k := by simp [s0]
    rw [e] at b
    exact ⟨a, b, c⟩
theorem dk_none {nm : List Int} (hnm : NmOk nm) {p : Nat} (h1 : 1 ≤ p) (h3 : p ≤ 3) {ys : List Int} (h : refR nm p ys = none) (k : Nat) : (Dk nm p ys k).p ≠ 6 := by
  have h9 := ref_none hnm h1 h3 h
  rw [← List.take_append_drop k ys] at h9
  exact not_prefix h9
theorem dk_some {nm : List Int} (hnm : NmOk nm) {p : Nat} (h1 : 1 ≤ p) (h3 : p ≤ 3) {ys : List Int} {n : Nat} (h : refR nm p ys = some n) :
    n + 2 + nm.length < ys.length ∧ (∀ k, k ≤ n + 2 + nm.length → (Dk nm p ys k).p ≠ 6) ∧ ∃ m, ∀ k, n + 2 + nm.length < k → Dk nm p ys k = ⟨6, 0, m, ys.take n, [], ys.getD (n + 2 + nm.length) 0⟩ := by
  obtain ⟨l1, r, l2, m, e, a1, a2, a3⟩ := ref_some hnm h1 h3 h
  have hl : ys.length = l1.length + 1 + l2.length := by rw [e]; simp; omega
  refine ⟨by omega, fun k hk => ?_, m, fun k hk => ?_⟩
  · have : ys.take k = l1.take k := by rw [e, List.take_append_of_le_length (by omega)]
    unfold Dk
    rw [this]
    rw [← List.take_append_drop k l1] at a1
    exact not_prefix a1
  · have : ys.take k = (l1 ++ [r]) ++ l2.take (k - l1.length - 1) := by
      rw [e, show l1 ++ r :: l2 = (l1 ++ [r]) ++ l2 by simp, List.take_append, List.take_of_length_le (by simp; omega)]
      congr 2
      simp
      omega
    unfold Dk
    rw [this, run_append, a2, run_over nm _ rfl]
    congr 1
    rw [e, ← a3]
    simp
theorem dk_succ {nm : List Int} {p : Nat} {ys : List Int} {k : Nat} (hk : k < ys.length) : Dk nm p ys (k + 1) = (Dk nm p ys k).next nm (ys.getD k 0) := by
  unfold Dk
  rw [List.take_succ_eq_append_getElem hk, run_snoc]
  simp [hk]
theorem dk_o {nm : List Int} (hnm : NmOk nm) {p : Nat} (h1 : 1 ≤ p) (h3 : p ≤ 3) (ys : List Int) (k : Nat) : (Dk nm p ys k).o = ys.take (Dk nm p ys k).o.length ∧ (Dk nm p ys k).o.length ≤ ys.length := by
  by_cases h6 : (Dk nm p ys k).p = 6
  · cases hr : refR nm p ys with
    | none => exact absurd h6 (dk_none hnm h1 h3 hr k)
    | some n =>
      obtain ⟨b1, b2, m, b3⟩ := dk_some hnm h1 h3 hr
      by_cases hk : k ≤ n + 2 + nm.length
      · exact absurd h6 (b2 k hk)
      · rw [b3 k (by omega)]
        have : (ys.take n).length = n := by simp; omega
        show ys.take n = ys.take (ys.take n).length ∧ (ys.take n).length ≤ _
        rw [this]
        exact ⟨rfl, by omega⟩
  · obtain ⟨_, e, _⟩ := dk_open h1 h3 ys k h6
    have hl := congrArg List.length e
    rw [List.length_append, List.length_take] at hl
    refine ⟨?_, by omega⟩
    have h9 := congrArg (fun x => x.take (Dk nm p ys k).o.length) e
    simp only [List.take_left, List.take_take] at h9
    rw [Nat.min_eq_left (by omega)] at h9
    exact h9
/-- A scanner's state, of which so many runes were taken. -/
structure AtK (nm : List Int) (p : Nat) (ys : List Int) (k td : Nat) (s : St) : Prop where
  pre : s.pre (ys.take td) = Dk nm p ys k
  td : td ≤ ys.length
theorem AtK.start (nm : List Int) (p : Nat) (ys : List Int) : AtK nm p ys 0 0 (s0 p) := ⟨by simp [Dk, St.pre, s0, run_nil], Nat.zero_le _⟩
theorem AtK.p {nm : List Int} {p : Nat} {ys : List Int} {k td : Nat} {s : St} (h : AtK nm p ys k td s) : s.p = (Dk nm p ys k).p := by rw [← h.pre]; rfl
theorem AtK.b {nm : List Int} {p : Nat} {ys : List Int} {k td : Nat} {s : St} (h : AtK nm p ys k td s) : s.b = (Dk nm p ys k).b := by rw [← h.pre]; rfl
theorem AtK.n {nm : List Int} {p : Nat} {ys : List Int} {k td : Nat} {s : St} (h : AtK nm p ys k td s) : s.n = (Dk nm p ys k).n := by rw [← h.pre]; rfl
theorem AtK.h {nm : List Int} {p : Nat} {ys : List Int} {k td : Nat} {s : St} (h : AtK nm p ys k td s) : s.h = (Dk nm p ys k).h := by rw [← h.pre]; rfl
theorem AtK.e {nm : List Int} {p : Nat} {ys : List Int} {k td : Nat} {s : St} (h : AtK nm p ys k td s) : s.e = (Dk nm p ys k).e := by rw [← h.pre]; rfl
theorem AtK.o {nm : List Int} {p : Nat} {ys : List Int} {k td : Nat} {s : St} (h : AtK nm p ys k td s) : (Dk nm p ys k).o = ys.take td ++ s.o := by rw [← h.pre]; rfl
theorem AtK.step {nm : List Int} {p : Nat} {ys : List Int} {k td : Nat} {s : St} (h : AtK nm p ys k td s) (hk : k < ys.length) (h6 : (Dk nm p ys k).p ≠ 6) : AtK nm p ys (k + 1) td (s.step nm (ys.getD k 0)) :=
  ⟨by rw [← pre_step, h.pre, dk_succ hk]; unfold St.next; rw [if_neg h6], h.td⟩
theorem AtK.over {nm : List Int} {p : Nat} {ys : List Int} {k td : Nat} {s : St} (h : AtK nm p ys k td s) (hk : k < ys.length) (h6 : (Dk nm p ys k).p = 6) : AtK nm p ys (k + 1) td s :=
  ⟨by rw [h.pre, dk_succ hk]; unfold St.next; rw [if_pos h6], h.td⟩
theorem AtK.text {nm : List Int} (hnm : NmOk nm) {p : Nat} (h1 : 1 ≤ p) (h3 : p ≤ 3) {ys : List Int} {k td : Nat} {s : St} (h : AtK nm p ys k td s) : td ≤ (Dk nm p ys k).o.length ∧ s.o = (ys.take (Dk nm p ys k).o.length).drop td := by
  have e := h.o
  have ht : (ys.take td).length = td := by have := h.td; simp; omega
  have hl := congrArg List.length e
  rw [List.length_append, ht] at hl
  refine ⟨by omega, ?_⟩
  rw [← (dk_o hnm h1 h3 ys k).1, e]
  conv => rhs; rw [← ht]
  rw [ht, List.drop_left' ht]
theorem AtK.took {nm : List Int} (hnm : NmOk nm) {p : Nat} (h1 : 1 ≤ p) (h3 : p ≤ 3) {ys : List Int} {k td : Nat} {s : St} (h : AtK nm p ys k td s) : AtK nm p ys k (Dk nm p ys k).o.length { s with o := [] } := by
  obtain ⟨e1, e2⟩ := dk_o hnm h1 h3 ys k
  refine ⟨?_, e2⟩
  rw [← e1]
  conv => rhs; rw [← h.pre]
  unfold St.pre
  rw [← h.o]
  simp
theorem AtK.ok {nm : List Int} {p : Nat} (h1 : 1 ≤ p) (h3 : p ≤ 3) {ys : List Int} {k td : Nat} {s : St} (h : AtK nm p ys k td s) (hy : ys.length ≤ 100000000) (h6 : (Dk nm p ys k).p ≠ 6) : Ok nm s ∧ Fits s := by
  obtain ⟨⟨a1, a2, a3, a4⟩, e, _⟩ := dk_open h1 h3 ys k h6
  refine ⟨⟨by rw [h.p]; exact a1, by rw [h.p]; exact a2, by rw [h.b]; exact a3, by rw [h.n]; exact a4⟩, ?_⟩
  have hl := congrArg List.length e
  rw [h.o, ← h.h] at hl
  simp only [List.length_append, List.length_take] at hl
  unfold Fits
  omega
/-- How many are sure, and how many are held, where the content has not ended. -/
theorem dk_sure {nm : List Int} {p : Nat} (h1 : 1 ≤ p) (h3 : p ≤ 3) {ys : List Int} {k : Nat} (hk : k ≤ ys.length) (h6 : (Dk nm p ys k).p ≠ 6) : sureN nm p (ys.take k) = (Dk nm p ys k).o.length ∧ (Dk nm p ys k).o.length + (Dk nm p ys k).h.length = k := by
  obtain ⟨_, e, _⟩ := dk_open h1 h3 ys k h6
  have hl := congrArg List.length e
  rw [List.length_append, List.length_take, Nat.min_eq_left hk] at hl
  refine ⟨?_, hl⟩
  have : sureN nm p (ys.take k) = (ys.take k).length - (Dk nm p ys k).h.length := rfl
  rw [this, List.length_take, Nat.min_eq_left hk]
  omega
/-- A part of runes in memory. -/
theorem slice_part {a : Option Addr} {cap : Nat} {ys : List Int} {w : World} (h : HasR w a ys.length cap ys) (lo hi : Nat) (h1 : lo ≤ hi) (h2 : hi ≤ ys.length) (hc : ys.length ≤ cap) : ∃ a1, (∀ W, (Instr.slice 32 (.slice a ys.length cap) (some (.int .i64 lo)) (some (.int .i64 hi)) none).run Tryd.prog W = .ok (.slice a1 (hi - lo) (cap - lo)) W) ∧ ∀ W, Below w.heap.size w W → (convert 32 9 (.slice a1 (hi - lo) (cap - lo))).run Tryd.prog W = .ok (.string ⟨(encs ((ys.take hi).drop lo)).toArray⟩) W := by
  refine ⟨if cap = lo then a else a.map (fun x => x.add lo), fun W => ?_, fun W hb => conv_runes ?_⟩
  · have hs : (sizeOf (Tryd.prog.elem 32)).run Tryd.prog W = .ok 1 W := by kernel_rfl
    rw [run_slice_lh W _ _ _ _ (by kernel_rfl) _ _ _ _ (by omega) (by omega) (by omega), hs]
    simp [Result.andThen, sliced]
  · by_cases h0 : lo = hi
    · subst h0
      exact .inl ⟨by simp, _, _, by rw [Nat.sub_self]⟩
    · rw [if_neg (by omega)]
      rcases h with ⟨e, _⟩ | ⟨hp, b, off, cap', e, hcap, hx⟩
      · subst e; simp at h2; omega
      · simp only [Value.slice.injEq] at e
        obtain ⟨rfl, _, rfl⟩ := e
        have hl : ((ys.take hi).drop lo).length = hi - lo := by simp; omega
        refine .inr ⟨by omega, b, off + lo, cap - lo, ?_, by omega, fun j hj => ?_⟩
        · rw [hl, Option.map_some]; congr 2; unfold Addr.add; split <;> simp_all
        · rw [show zAt ((ys.take hi).drop lo) j = zAt ys (lo + j) by simp [zAt, List.getElem?_take_of_lt (show lo + j < hi by omega)], Nat.add_assoc]
          exact (hb.cell (p := ⟨b, off + (lo + j), none⟩) (cell_lt (hx (lo + j) (by omega)))).trans (hx (lo + j) (by omega))
/-- **Put of the next rune**, whatever was taken. -/
theorem put_round {nm : List Int} {p : Nat} (h1 : 1 ≤ p) (h3 : p ≤ 3) {ys : List Int} {k td : Nat} {s : St} {g sc : Nat} {wr : World} (hS : ScAt wr g sc nm s) (hA : AtK nm p ys k td s) (hk : k < ys.length) (hy : ys.length ≤ 100000000) (hz : InR (ys.getD k 0)) (hn : nm.length ≤ 1000) :
    ∃ s4, AtK nm p ys (k + 1) td s4 ∧ Calls Tryd.prog 20 #[.pointer (some ⟨g + 1, 0, none⟩), .int .i32 (ys.getD k 0)] wr fun e W' => e = .returned (.tuple #[.bool (decide ((Dk nm p ys k).p ≠ 6 ∧ (Dk nm p ys (k + 1)).p = 6)), .int .i64 (if (Dk nm p ys k).p = 6 then 3 else 0)]) ∧ ScAt W' g sc nm s4 ∧ R.Leaves g wr W' := by
  by_cases h6 : (Dk nm p ys k).p = 6
  · refine ⟨s, hA.over hk h6, ?_⟩
    rw [if_pos h6, decide_eq_false (by simp [h6])]
    refine (put_refused _ 3 _ wr (by decide) (ready_over g sc nm s wr hS (.inl (by rw [hA.p]; exact h6)))).mono ?_
    rintro e W' ⟨rfl, rfl⟩
    exact ⟨rfl, hS, leaves_refl _ _⟩
  · refine ⟨_, hA.step hk h6, ?_⟩
    rw [if_neg h6]
    obtain ⟨o1, o2⟩ := hA.ok h1 h3 hy h6
    have h := put_calls g sc nm s (ys.getD k 0) wr hS o2 hz o1 hn
    have hd : decide ((s.step nm (ys.getD k 0)).p = 6) = decide ((Dk nm p ys k).p ≠ 6 ∧ (Dk nm p ys (k + 1)).p = 6) := by rw [(hA.step hk h6).p]; simp [h6]
    rw [hd] at h
    exact h
/-- **What a scanner answers**: how many it holds, whether it has ended, its rune, and what is taken of it. -/
def AskL (nm : List Int) (p : Nat) (ys : List Int) (k td g sc so hl : Nat) (dn : Bool) (ev : Int) (W : World) : Prop :=
    (Calls Tryd.prog 22 #[.pointer (some ⟨g + 1, 0, none⟩)] W fun e W' => e = .returned (.int .i64 hl) ∧ W' = W) ∧
    (Calls Tryd.prog 23 #[.pointer (some ⟨g + 1, 0, none⟩)] W fun e W' => e = .returned (.bool dn) ∧ W' = W) ∧
    (Calls Tryd.prog 24 #[.pointer (some ⟨g + 1, 0, none⟩)] W fun e W' => e = .returned (.int .i32 ev) ∧ W' = W) ∧
    (Calls Tryd.prog 25 #[.pointer (some ⟨g + 1, 0, none⟩)] W fun e W' => e = .returned (.string ⟨(encs ((ys.take so).drop td)).toArray⟩) ∧ (∃ s', ScAt W' g sc nm s' ∧ AtK nm p ys k so s') ∧ R.Leaves g W W')
theorem asks_round {nm : List Int} (hnm : NmOk nm) {p : Nat} (h1 : 1 ≤ p) (h3 : p ≤ 3) {ys : List Int} {k td : Nat} {s : St} {g sc : Nat} {W : World} (hS : ScAt W g sc nm s) (hA : AtK nm p ys k td s) :
    AskL nm p ys k td g sc (Dk nm p ys k).o.length (Dk nm p ys k).h.length (decide ((Dk nm p ys k).p = 6)) (Dk nm p ys k).e W := by
  obtain ⟨t1, t2⟩ := hA.text hnm h1 h3
  refine ⟨?_, ?_, ?_, ?_⟩
  · rw [← hA.h]; exact held_calls g sc nm s W hS
  · rw [← hA.p]; exact ended_calls g sc nm s W hS
  · rw [← hA.e]; exact rune_calls g sc nm s W hS
  · rw [← t2]
    refine (take_calls g sc nm s W hS).mono ?_
    rintro e W' ⟨rfl, a, b⟩
    exact ⟨rfl, ⟨_, a, hA.took hnm h1 h3⟩, b⟩
/-- Where the content has not ended. -/
theorem ask_open {nm : List Int} (hnm : NmOk nm) {p : Nat} (h1 : 1 ≤ p) (h3 : p ≤ 3) {ys : List Int} {k td : Nat} {s : St} {g sc : Nat} {W : World} (hS : ScAt W g sc nm s) (hA : AtK nm p ys k td s) (hk : k ≤ ys.length) (h6 : (Dk nm p ys k).p ≠ 6) :
    ∃ so hl, so + hl = k ∧ td ≤ so ∧ so ≤ ys.length ∧ (Dk nm p ys k).o.length = so ∧ (Dk nm p ys k).h.length = hl ∧ ∀ W', Below W.heap.size W W' → AskL nm p ys k td g sc so hl false 0 W' := by
  refine ⟨_, _, (dk_sure h1 h3 hk h6).2, (hA.text hnm h1 h3).1, (dk_o hnm h1 h3 ys k).2, rfl, rfl, fun W' hb => ?_⟩
  have h := asks_round hnm h1 h3 (hS.below hb) hA
  rw [decide_eq_false h6, (dk_open h1 h3 ys k h6).2.2] at h
  exact h
/-- Where it has. -/
theorem ask_over {nm : List Int} (hnm : NmOk nm) {p : Nat} (h1 : 1 ≤ p) (h3 : p ≤ 3) {ys : List Int} {k td : Nat} {s : St} {g sc : Nat} {W : World} (hS : ScAt W g sc nm s) (hA : AtK nm p ys k td s) {n : Nat} (hr : refR nm p ys = some n) (hk : n + 2 + nm.length < k) :
    td ≤ n ∧ n ≤ ys.length ∧ (Dk nm p ys k).o.length = n ∧ (Dk nm p ys k).h.length = 0 ∧ ∀ W', Below W.heap.size W W' → AskL nm p ys k td g sc n 0 true (zAt ys (n + 2 + nm.length)) W' := by
  obtain ⟨b1, _, m, b3⟩ := dk_some hnm h1 h3 hr
  have e := b3 k hk
  have hl : (ys.take n).length = n := by simp; omega
  have h9 := (hA.text hnm h1 h3).1
  rw [e] at h9
  simp only [hl] at h9
  refine ⟨h9, by omega, by rw [e]; exact hl, by rw [e]; rfl, fun W' hb => ?_⟩
  have h := asks_round hnm h1 h3 (hS.below hb) hA
  rw [e] at h
  simp only [hl, List.length_nil, decide_true] at h
  exact h
/-- A second Take, and what is held behind it. -/
theorem again_round {nm : List Int} (hnm : NmOk nm) {p : Nat} (h1 : 1 ≤ p) (h3 : p ≤ 3) {ys : List Int} {k so hl : Nat} {g sc : Nat} {W : World} (hX : ∃ s, ScAt W g sc nm s ∧ AtK nm p ys k so s) (hso : (Dk nm p ys k).o.length = so) (hhl : (Dk nm p ys k).h.length = hl) :
    (Calls Tryd.prog 25 #[.pointer (some ⟨g + 1, 0, none⟩)] W fun e W' => e = .returned (.string ⟨#[]⟩) ∧ (∃ s', ScAt W' g sc nm s' ∧ AtK nm p ys k so s') ∧ R.Leaves g W W') ∧
    (Calls Tryd.prog 22 #[.pointer (some ⟨g + 1, 0, none⟩)] W fun e W' => e = .returned (.int .i64 hl) ∧ W' = W) := by
  obtain ⟨s, hS, hA⟩ := hX
  obtain ⟨q1, q2, q3, q4⟩ := asks_round hnm h1 h3 hS hA
  rw [hso] at q4
  rw [hhl] at q1
  have e : (ys.take so).drop so = [] := List.drop_eq_nil_of_le (by simp; omega)
  rw [e] at q4
  exact ⟨q4, q1⟩
/-- What is over: all further calls are refused, and nothing is taken. -/
theorem over_round {nm : List Int} {g sc : Nat} {W : World} {s : St} (hS : ScAt W g sc nm s) (hp : s.p = 6 ∨ s.p = 7) (ho : s.o = []) (r : Int) :
    (Calls Tryd.prog 20 #[.pointer (some ⟨g + 1, 0, none⟩), .int .i32 r] W fun e W' => e = .returned (.tuple #[.bool false, .int .i64 3]) ∧ W' = W) ∧
    (Calls Tryd.prog 26 #[.pointer (some ⟨g + 1, 0, none⟩)] W fun e W' => e = .returned (.int .i64 3) ∧ W' = W) ∧
    (Calls Tryd.prog 25 #[.pointer (some ⟨g + 1, 0, none⟩)] W fun e W' => e = .returned (.string ⟨#[]⟩) ∧ R.Leaves g W W') := by
  have hR := ready_over g sc nm s W hS hp
  refine ⟨put_refused _ 3 r W (by decide) hR, end_refused _ 3 W (by decide) hR, ?_⟩
  refine (take_calls g sc nm s W hS).mono ?_
  rintro e W' ⟨rfl, _, b⟩
  rw [ho]
  exact ⟨rfl, b⟩
/-- The last Take of what has ended. -/
theorem last_over {nm : List Int} (hnm : NmOk nm) {p : Nat} (h1 : 1 ≤ p) (h3 : p ≤ 3) {ys : List Int} {td n : Nat} {g sc : Nat} {W : World} {s : St} (hS : ScAt W g sc nm s) (hA : AtK nm p ys ys.length td s) (hr : refR nm p ys = some n) :
    td ≤ n ∧ n ≤ ys.length ∧ ∀ W', Below W.heap.size W W' → Calls Tryd.prog 25 #[.pointer (some ⟨g + 1, 0, none⟩)] W' fun e W2 => e = .returned (.string ⟨(encs ((ys.take n).drop td)).toArray⟩) ∧ (∃ s', ScAt W2 g sc nm s' ∧ (s'.p = 6 ∨ s'.p = 7) ∧ s'.o = []) ∧ R.Leaves g W' W2 := by
  obtain ⟨b1, _, m, b3⟩ := dk_some hnm h1 h3 hr
  obtain ⟨e2, e3, e4, _, _⟩ := ask_over hnm h1 h3 hS hA hr b1
  refine ⟨e2, e3, fun W' hb => ?_⟩
  have ht := (hA.text hnm h1 h3).2
  rw [e4] at ht
  rw [← ht]
  refine (take_calls g sc nm s W' (hS.below hb)).mono ?_
  rintro e W2 ⟨rfl, a, b⟩
  refine ⟨rfl, ⟨_, a, .inl ?_, rfl⟩, b⟩
  show s.p = 6
  rw [hA.p, b3 ys.length b1]
/-- End, and the last Take, of what has not ended. -/
theorem last_open {nm : List Int} {p : Nat} (h1 : 1 ≤ p) (h3 : p ≤ 3) {ys : List Int} {td : Nat} {g sc : Nat} {W : World} {s : St} (hS : ScAt W g sc nm s) (hA : AtK nm p ys ys.length td s) (hy : ys.length ≤ 100000000) (h6 : (Dk nm p ys ys.length).p ≠ 6) :
    ∃ s7, Calls Tryd.prog 26 #[.pointer (some ⟨g + 1, 0, none⟩)] W (fun e W' => e = .returned (.int .i64 0) ∧ ScAt W' g sc nm s7 ∧ R.Leaves g W W') ∧ ∀ W7, ScAt W7 g sc nm s7 →
      (Calls Tryd.prog 23 #[.pointer (some ⟨g + 1, 0, none⟩)] W7 fun e W' => e = .returned (.bool false) ∧ W' = W7) ∧
      (Calls Tryd.prog 22 #[.pointer (some ⟨g + 1, 0, none⟩)] W7 fun e W' => e = .returned (.int .i64 0) ∧ W' = W7) ∧
      ∀ W', Below W7.heap.size W7 W' → Calls Tryd.prog 25 #[.pointer (some ⟨g + 1, 0, none⟩)] W' fun e W2 => e = .returned (.string ⟨(encs ((ys.take ys.length).drop td)).toArray⟩) ∧ (∃ s', ScAt W2 g sc nm s' ∧ (s'.p = 6 ∨ s'.p = 7) ∧ s'.o = []) ∧ R.Leaves g W' W2 := by
  obtain ⟨⟨k1, k2, _, _⟩, hF⟩ := hA.ok h1 h3 hy h6
  refine ⟨_, end_calls g sc nm s W hS hF k1 k2, fun W7 h7 => ?_⟩
  refine ⟨ended_calls g sc nm _ W7 h7, held_calls g sc nm _ W7 h7, fun W' hb => ?_⟩
  have ht : s.o ++ s.h = (ys.take ys.length).drop td := by
    have e := (dk_open h1 h3 ys ys.length h6).2.1
    rw [hA.o, ← hA.h, List.append_assoc] at e
    rw [← e]
    have hl : (ys.take td).length = td := by have := hA.td; simp; omega
    rw [List.drop_left' hl]
  refine (take_calls g sc nm _ W' (h7.below hb)).mono ?_
  rintro e W2 ⟨rfl, a, b⟩
  refine ⟨?_, ⟨_, a, .inr rfl, rfl⟩, b⟩
  rw [← ht]
end Go.Proofs.YtegkdgmpkfpjmaaDoor.R
