/- What is proved here: laws and contracts of TSame, TSame2, one behind the other (each says its own). -/
import Derived.Test.YtelfejbhlolppaaDoorTMay2
/- What is proved here: the contracts of slices.Equal of attributes, of SameAttrs and Equal of sieveref07, and of Equal and Attr of token. -/
namespace Go.Proofs.YtelfejbhlolppaaDoor.T
open Go.RowKit N

theorem ext_pairs {l l' : AL} (hl : l.length = l'.length) (h : ∀ j (h : j < l.length), l[j] = l'[j]'(by omega)) : l = l' := List.ext_getElem hl (fun i h1 _ => h i h1)
theorem data_inj {x y : ByteArray} (h : x.data.toList = y.data.toList) : x = y := by rw [← byteArr_eta x, ← byteArr_eta y, h]
theorem beq_bytes (x y : ByteArray) : (x.toList == y.toList) = decide (x = y) := by
  rw [beq_names, Bool.eq_iff_iff]
  simp only [decide_eq_true_eq]
  exact ⟨data_inj, fun h => by rw [h]⟩

set_option maxRecDepth 100000 in
set_option maxHeartbeats 1000000 in
theorem same_ne (a a' : Option Addr) (n n' cap cap' : Nat) (w : World) (h : n ≠ n') :
    Calls Tryd.prog 31 #[.slice a n cap, .slice a' n' cap'] w fun e w' => e = .returned (.bool false) ∧ Below w.heap.size w w' := by
  have hne : ((n : Int) != (n' : Int)) = true := by rw [bne_iff_ne]; omega
  go_enter Tryd.func31, Tryd.ntmps31
  go_wp2
  go_ret
  exact ⟨rfl, Below.refl _ _⟩
set_option maxRecDepth 100000 in
set_option maxHeartbeats 1000000 in
theorem equal_ne (a a' : Option Addr) (n n' cap cap' : Nat) (w : World) (h : n ≠ n') :
    Calls Tryd.prog 30 #[.slice a n cap, .slice a' n' cap'] w fun e w' => e = .returned (.bool false) ∧ Below w.heap.size w w' := by
  have hne : ((n : Int) != (n' : Int)) = true := by rw [bne_iff_ne]; omega
  go_enter Tryd.func30, Tryd.ntmps30
  go_wp2
  go_ret
  exact ⟨rfl, Below.refl _ _⟩

set_option maxRecDepth 100000 in
set_option maxHeartbeats 2000000 in
theorem same_eq (l l' : AL) (n : Nat) (a a' : Option Addr) (cap cap' : Nat) (w : World) (hll : l.length = n) (hl' : l'.length = n) (hn : (n : Int) ≤ 1000000000000) (h : HasA w (.slice a n cap) l) (h' : HasA w (.slice a' n cap') l') :
    Calls Tryd.prog 31 #[.slice a n cap, .slice a' n cap'] w fun e w' => e = .returned (.bool (decide (l = l'))) ∧ Below w.heap.size w w' := by
  have HS : Hid (HasA w (.slice a n cap) l) := h
  have HS' : Hid (HasA w (.slice a' n cap') l') := h'
  have HL : Hid (l.length = n ∧ l'.length = n) := ⟨hll, hl'⟩
  clear h h' hll hl'
  go_enter Tryd.func31, Tryd.ntmps31
  go_wp2
  go_loopw [5, 13] (fun _ i wr => ∃ k : Nat, k ≤ n ∧ i = .int .i64 k ∧ Below w.heap.size w wr ∧ Hid (∀ j (h : j < l.length) (h' : j < l'.length), j < k → l[j] = l'[j])) (fun _ i _ => n - (intOf i).toNat)
  case atStart => exact ⟨0, by omega, rfl, Below.refl _ _, fun j _ _ hj => by omega⟩
  case round =>
    obtain ⟨k, hk, rfl, hB, hs⟩ := hrel
    have s1 := hB.size
    by_cases hlt : k < n
    · have k1 : k < l.length := by have := HL.out.1; omega
      have k2 : k < l'.length := by have := HL.out.2; omega
      obtain ⟨b, off, rfl, d0, d1⟩ := (HS.out.below hB).at k k1
      obtain ⟨b', off', rfl, e0, e1⟩ := (HS'.out.below hB).at k k2
      rcases hx : l[k] with ⟨x, f⟩
      rcases hy : l'[k] with ⟨y, g⟩
      have HXY : Hid (l[k] = (x, f) ∧ l'[k] = (y, g)) := ⟨hx, hy⟩
      rw [hx] at d0 d1
      rw [hy] at e0 e1
      simp only at d0 d1 e0 e1
      clear hx hy
      have HNE : Hid ((x, f) ≠ (y, g) → decide (l = l') = false) := fun hne => by
        rw [decide_eq_false_iff_not]
        intro e
        have h1 := HXY.out.1
        have h2 := HXY.out.2
        subst e
        rw [h1] at h2
        exact hne h2
      by_cases hxy : x = y
      · have q1 : (x.toList == y.toList) = true := by rw [beq_bytes]; simpa using hxy
        have q1' : (x.toList != y.toList) = false := by rw [bne, q1]; rfl
        by_cases hfg : f = g
        · have q2 : (f.toList == g.toList) = true := by rw [beq_bytes]; simpa using hfg
          have q2' : (f.toList != g.toList) = false := by rw [bne, q2]; rfl
          have hn2 : Hid (∀ j (h : j < l.length) (h' : j < l'.length), j < k + 1 → l[j] = l'[j]) := fun j h h' hj => by
            by_cases e : j = k
            · subst e; rw [HXY.out.1, HXY.out.2, hxy, hfg]
            · exact hs.out j h h' (by omega)
          clear hxy hfg
          go_wp2
          go_quiet (fail)
          go_wp2
          all_goals first
            | exact ⟨⟨k + 1, by omega, by go_num, below_drewN hB _, hn2⟩, by simp [intOf]; omega⟩
            | (go_roundw
               case rel => exact ⟨k + 1, by omega, by go_num, below_drewN hB _, hn2⟩
               case measure => simp [intOf]; omega)
        · have q2 : (f.toList == g.toList) = false := by rw [beq_bytes]; simpa using hfg
          have q2' : (f.toList != g.toList) = true := by rw [bne, q2]; rfl
          have HF := HNE.out (fun e => hfg (by injection e))
          clear hxy hfg
          go_wp2
          go_quiet (fail)
          go_wp2
          all_goals go_ret
          all_goals exact ⟨ret_bool HF.symm, below_drewN hB _⟩
      · have q1 : (x.toList == y.toList) = false := by rw [beq_bytes]; simpa using hxy
        have q1' : (x.toList != y.toList) = true := by rw [bne, q1]; rfl
        have HF := HNE.out (fun e => hxy (by injection e))
        clear hxy
        go_wp2
        go_quiet (fail)
        go_wp2
        all_goals go_ret
        all_goals exact ⟨ret_bool HF.symm, below_drewN hB _⟩
    · obtain rfl : k = n := by omega
      have HEQ : Hid (decide (l = l') = true) := by
        show decide (l = l') = true
        rw [decide_eq_true_eq]
        obtain ⟨g1, g2⟩ := HL.out
        exact ext_pairs (by omega) (fun j hj => hs.out j hj (by omega) (by omega))
      go_wp2
      go_ret
      exact ⟨by rw [HEQ.out]; rfl, hB⟩
end Go.Proofs.YtelfejbhlolppaaDoor.T

/- What is proved here: the contract of slices.Equal of attributes. -/
namespace Go.Proofs.YtelfejbhlolppaaDoor.T
open Go.RowKit N

theorem two_of {α : Type} {l : List α} (h : l.length = 2) : ∃ a b, l = [a, b] := by
  match l, h with
  | [a, b], _ => exact ⟨a, b, rfl⟩
theorem part_str {cs : Array Value} {k : Nat} {v : Value} (w : World) (h : cs[k]? = some v) : (part 9 cs k).run Tryd.prog w = .ok v w := by
  have ha : (isAgg 9).run Tryd.prog w = .ok false w := by kernel_rfl
  simp [part, ha, Result.andThen, h]
theorem eq_attr_in (d : Nat) (x f y g : ByteArray) (w : World) : (Op.equalIn (d + 2) 36 (.agg #[.string x, .string f]) (.agg #[.string y, .string g])).run Tryd.prog w = .ok ((x.toList == y.toList) && (f.toList == g.toList)) w := by
  have e1 : ((Tryd.prog.fieldsOf 36).toList.map fun f => (f.type, f.offset)) = [(9, 0), (9, 1)] := by kernel_rfl
  have e2 : ((Tryd.prog.fieldsOf 36).toList.map fun f => (f.name == "_")) = [false, false] := by kernel_rfl
  obtain ⟨f0, f1, hf⟩ : ∃ f0 f1 : Field, (Tryd.prog.fieldsOf 36).toList = [f0, f1] := by
    have h2 : (Tryd.prog.fieldsOf 36).toList.length = 2 := by kernel_rfl
    exact two_of h2
  rw [hf] at e1 e2
  simp only [List.map_cons, List.map_nil, List.cons.injEq, Prod.mk.injEq, and_true, beq_eq_false_iff_ne] at e1 e2
  obtain ⟨⟨h0, o0⟩, h1, o1⟩ := e1
  obtain ⟨m0, m1⟩ := e2
  rw [run_equalIn_struct w (d + 1) 36 _ _ (by kernel_rfl) (by kernel_rfl), hf]
  unfold Op.eqFields
  rw [if_pos m0, h0, o0]
  simp only [Sem.run_bind]
  rw [part_str w (v := .string x) rfl]
  simp only [Result.andThen_ok]
  rw [part_str w (v := .string y) rfl]
  simp only [Result.andThen_ok]
  rw [run_equalIn_string w d 9 x y Tryd.underlying9]
  simp only [Result.andThen_ok]
  cases hxy : (x.toList == y.toList) with
  | false => simp
  | true =>
    simp only [Bool.not_true, Bool.false_eq_true, if_false, Bool.true_and]
    unfold Op.eqFields
    rw [if_pos m1, h1, o1]
    simp only [Sem.run_bind]
    rw [part_str w (v := .string f) rfl]
    simp only [Result.andThen_ok]
    rw [part_str w (v := .string g) rfl]
    simp only [Result.andThen_ok]
    rw [run_equalIn_string w d 9 f g Tryd.underlying9]
    simp only [Result.andThen_ok]
    unfold Op.eqFields
    cases hfg : (f.toList == g.toList) <;> simp
theorem neq_attr (x f y g : ByteArray) (w : World) : (binOp .neq 36 (.agg #[.string x, .string f]) (.agg #[.string y, .string g])).run Tryd.prog w = .ok (.bool (!((x.toList == y.toList) && (f.toList == g.toList)))) w := by
  rw [run_neq_struct, eq_attr_in 9998 x f y g w]; rfl

set_option maxRecDepth 100000 in
set_option maxHeartbeats 2000000 in
theorem equal_eq (l l' : AL) (n : Nat) (a a' : Option Addr) (cap cap' : Nat) (w : World) (hll : l.length = n) (hl' : l'.length = n) (hn : (n : Int) ≤ 1000000000000) (h : HasA w (.slice a n cap) l) (h' : HasA w (.slice a' n cap') l') :
    Calls Tryd.prog 30 #[.slice a n cap, .slice a' n cap'] w fun e w' => e = .returned (.bool (decide (l = l'))) ∧ Below w.heap.size w w' := by
  have HS : Hid (HasA w (.slice a n cap) l) := h
  have HS' : Hid (HasA w (.slice a' n cap') l') := h'
  have HL : Hid (l.length = n ∧ l'.length = n) := ⟨hll, hl'⟩
  clear h h' hll hl'
  go_enter Tryd.func30, Tryd.ntmps30
  go_wp2
  go_loopw [5, 13] (fun _ i wr => ∃ k : Nat, k ≤ n ∧ i = .int .i64 k ∧ Below w.heap.size w wr ∧ Hid (∀ j (h : j < l.length) (h' : j < l'.length), j < k → l[j] = l'[j])) (fun _ i _ => n - (intOf i).toNat)
  case atStart => exact ⟨0, by omega, rfl, Below.refl _ _, fun j _ _ hj => by omega⟩
  case round =>
    obtain ⟨k, hk, rfl, hB, hs⟩ := hrel
    have s1 := hB.size
    by_cases hlt : k < n
    · have k1 : k < l.length := by have := HL.out.1; omega
      have k2 : k < l'.length := by have := HL.out.2; omega
      obtain ⟨b, off, rfl, d0, d1⟩ := (HS.out.below hB).at k k1
      obtain ⟨b', off', rfl, e0, e1⟩ := (HS'.out.below hB).at k k2
      rcases hx : l[k] with ⟨x, f⟩
      rcases hy : l'[k] with ⟨y, g⟩
      have HXY : Hid (l[k] = (x, f) ∧ l'[k] = (y, g)) := ⟨hx, hy⟩
      rw [hx] at d0 d1
      rw [hy] at e0 e1
      simp only at d0 d1 e0 e1
      clear hx hy
      have HNE : Hid ((x, f) ≠ (y, g) → decide (l = l') = false) := fun hne => by
        rw [decide_eq_false_iff_not]
        intro e
        have h1 := HXY.out.1
        have h2 := HXY.out.2
        subst e
        rw [h1] at h2
        exact hne h2
      have hgd : Tryd.prog.eqGuardType Tryd.prog.depth 36 = false := by kernel_rfl
      by_cases hxy : x = y ∧ f = g
      · have hne : ∀ w, (binOp .neq 36 (.agg #[.string x, .string f]) (.agg #[.string y, .string g])).run Tryd.prog w = .ok (.bool false) w := fun w => by rw [neq_attr, show ((x.toList == y.toList) && (f.toList == g.toList)) = true by rw [beq_bytes, beq_bytes]; simpa using hxy]; rfl
        have hn2 : Hid (∀ j (h : j < l.length) (h' : j < l'.length), j < k + 1 → l[j] = l'[j]) := fun j h h' hj => by
          by_cases e : j = k
          · subst e; rw [HXY.out.1, HXY.out.2, hxy.1, hxy.2]
          · exact hs.out j h h' (by omega)
        clear hxy
        go_wp2
        go_quiet (fail)
        go_wp2
        all_goals first
          | exact ⟨⟨k + 1, by omega, by go_num, below_drewN hB _, hn2⟩, by simp [intOf]; omega⟩
          | (go_roundw
             case rel => exact ⟨k + 1, by omega, by go_num, below_drewN hB _, hn2⟩
             case measure => simp [intOf]; omega)
      · have hb : ((x.toList == y.toList) && (f.toList == g.toList)) = false := by
          rw [beq_bytes, beq_bytes, Bool.and_eq_false_iff]
          simp only [decide_eq_false_iff_not]
          by_cases h : x = y
          · right; exact fun h' => hxy ⟨h, h'⟩
          · left; exact h
        have hne : ∀ w, (binOp .neq 36 (.agg #[.string x, .string f]) (.agg #[.string y, .string g])).run Tryd.prog w = .ok (.bool true) w := fun w => by rw [neq_attr, hb]; rfl
        clear hb
        have HF := HNE.out (fun e => hxy (by injection e with e1 e2; exact ⟨e1, e2⟩))
        clear hxy
        go_wp2
        go_quiet (fail)
        go_wp2
        all_goals go_ret
        all_goals exact ⟨ret_bool HF.symm, below_drewN hB _⟩
    · obtain rfl : k = n := by omega
      have HEQ : Hid (decide (l = l') = true) := by
        show decide (l = l') = true
        rw [decide_eq_true_eq]
        obtain ⟨g1, g2⟩ := HL.out
        exact ext_pairs (by omega) (fun j hj => hs.out j hj (by omega) (by omega))
      go_wp2
      go_ret
      exact ⟨by rw [HEQ.out]; rfl, hB⟩
end Go.Proofs.YtelfejbhlolppaaDoor.T
