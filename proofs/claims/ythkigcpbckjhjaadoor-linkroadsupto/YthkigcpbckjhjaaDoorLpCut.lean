/- What is proved here: strings.Cut at one byte and strings.CutPrefix of two slashes, by where the first byte of that kind stands. -/
import Derived.Test.YthkigcpbckjhjaaDoorLpShelfC
import Derived.Test.YthkigcpbckjhjaaDoorLkSplM
import Derived.Test.YthkigcpbckjhjaaDoorLpSch
namespace Go.Proofs.YthkigcpbckjhjaaDoor.L
open Go.RowKit Go.Shelf Go.Proofs.YthkigcpbckjhjaaDoor.N Go.Proofs.YthkigcpbckjhjaaDoor.U

abbrev MaxOk (w : World) : Prop := ∃ m, w.cell? ⟨Tryd.lays145_ren.g 1, 0, none⟩ = some (.int .i64 m)
theorem MaxOk.below {w w' : World} (h : MaxOk w) (hb : Below w.heap.size w w') : MaxOk w' := by
  obtain ⟨m, h⟩ := h
  exact ⟨m, (hb.cell (cell_lt h)).trans h⟩
theorem cut_at (p : UInt8) : ∀ (s : List UInt8), Lib.cut s [p] = (s.take (upToL [p] s), s.drop (upToL [p] s + 1), decide (upToL [p] s < s.length))
  | [] => by simp [Lib.cut, Lib.index, upToL]
  | b :: l => by
    have hg := Lib.index_ge l [p]
    rw [upToL_cons]
    by_cases h : b = p
    · subst h
      simp [Lib.cut, Lib.index, List.isPrefixOf]
    · have hp : ([p].isPrefixOf (b :: l)) = false := by simp [List.isPrefixOf]; exact fun e => h e.symm
      have hb : ([p].contains b) = false := by simp; exact h
      have hix : Lib.index (b :: l) [p] = if Lib.index l [p] == -1 then -1 else Lib.index l [p] + 1 := by
        rw [Lib.index, hp]; simp
      have ih := cut_at p l
      unfold Lib.cut at ih ⊢
      rw [hix, hb]
      simp only [Bool.false_eq_true, if_false]
      by_cases h1 : Lib.index l [p] = -1
      · rw [h1] at ih ⊢
        simp only [show ¬ (0 : Int) ≤ -1 by omega, if_false, Prod.mk.injEq] at ih
        simp only [beq_self_eq_true, if_true, show ¬ (0 : Int) ≤ -1 by omega, if_false, Prod.mk.injEq]
        refine ⟨by rw [List.take_succ_cons, ← ih.1], by rw [List.drop_succ_cons]; exact ih.2.1, ?_⟩
        rw [ih.2.2, decide_eq_decide]
        simp
      · have h0 : 0 ≤ Lib.index l [p] := by omega
        obtain ⟨k, hk⟩ : ∃ k : Nat, Lib.index l [p] = k := ⟨(Lib.index l [p]).toNat, by omega⟩
        rw [hk] at ih ⊢
        have hne : ((k : Int) == -1) = false := by rw [beq_eq_false_iff_ne]; omega
        simp only [show (0 : Int) ≤ (k : Int) by omega, if_true, Prod.mk.injEq, Int.toNat_natCast] at ih
        simp only [hne, Bool.false_eq_true, if_false, show (0 : Int) ≤ (k : Int) + 1 by omega, if_true, Prod.mk.injEq]
        rw [show ((k : Int) + 1).toNat = k + 1 by omega]
        refine ⟨by rw [List.take_succ_cons, ih.1, List.take_succ_cons], by rw [show k + 1 + [p].length = (k + [p].length) + 1 by omega, List.drop_succ_cons, ih.2.1, List.drop_succ_cons], ?_⟩
        rw [ih.2.2, decide_eq_decide]
        simp
theorem cut_calls (s : List UInt8) (p : UInt8) (w : World) (hs : s.length < 4294967281) (hm : MaxOk w) :
    Calls Tryd.prog 24 #[.string ⟨s.toArray⟩, .string ⟨#[p]⟩] w fun e w' => e = .returned (.tuple #[.string ⟨(s.take (upToL [p] s)).toArray⟩, .string ⟨(s.drop (upToL [p] s + 1)).toArray⟩, .bool (decide (upToL [p] s < s.length))]) ∧ Below w.heap.size w w' := by
  obtain ⟨m, hm⟩ := hm
  refine (Any.strings_Cut Tryd.lays145 ⟨s.toArray⟩ ⟨#[p]⟩ m w (by rw [arr_size]; exact hs) hm).mono ?_
  rintro e w' ⟨rfl, n, rfl⟩
  refine ⟨?_, rfl, rfl, rfl, Nat.le_refl _, fun _ _ => rfl⟩
  have := cut_at p s
  simp only [this]
theorem host_calls (c : List UInt8) (w : World) : Calls Tryd.prog 25 #[.string ⟨(47 :: 47 :: c).toArray⟩, .string ⟨#[47, 47]⟩] w fun e w' => e = .returned (.tuple #[.string ⟨c.toArray⟩, .bool true]) ∧ w' = w :=
  Any.strings_CutPrefix Tryd.lays103 ⟨(47 :: 47 :: c).toArray⟩ ⟨#[47, 47]⟩ w
theorem nohost (B : List UInt8) (h : (hostK B).1 = false) : [47, 47].isPrefixOf B = false := by
  cases B with
  | nil => rfl
  | cons a t =>
    cases t with
    | nil => simp [List.isPrefixOf]
    | cons b u =>
      have h' : (if (a == 47 && b == 47) = true then (true, u.take (upToL [47] u), u.drop (upToL [47] u)) else (false, [], a :: b :: u)).1 = false := h
      cases hc : (a == 47 && b == 47) with
      | true => rw [hc] at h'; simp at h'
      | false =>
        simp [List.isPrefixOf]
        intro e1 e2
        subst e1; subst e2
        simp at hc
theorem nohost_calls (B : List UInt8) (h : (hostK B).1 = false) (w : World) : Calls Tryd.prog 25 #[.string ⟨B.toArray⟩, .string ⟨#[47, 47]⟩] w fun e w' => e = .returned (.tuple #[.string ⟨B.toArray⟩, .bool false]) ∧ w' = w := by
  have := Any.strings_CutPrefix Tryd.lays103 ⟨B.toArray⟩ ⟨#[47, 47]⟩ w
  have e : Lib.hasPrefix B [47, 47] = false := nohost B h
  simp only [Lib.trimPrefix, e] at this
  exact this
end Go.Proofs.YthkigcpbckjhjaaDoor.L
