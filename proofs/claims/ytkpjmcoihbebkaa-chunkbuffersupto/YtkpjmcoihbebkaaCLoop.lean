/- What is proved here: a loop over an iterator that has a state of its own, by what one round does to whatever the iterator and the loop know together: no list of what is told, no program in sight. -/
import Derived.RangeFuncNested
namespace Go.Proofs.Ytkpjmcoihbebkaa.C
open Go.RowKit

/-- How a round may end, and what the iterator is told then. -/
def ByPost (L : Nat) (oR oB : Obj) (oX : Code → Obj) (R : Ending → World → Prop) : Exit → Act → World → Prop
  | .normal, _, W => W.heap[L]? = some oB ∧ R (.returned (.bool true)) (W.putObj L oR)
  | .ret, _, W => W.heap[L]? = some oB ∧ R (.returned (.bool false)) (W.putObj L (oX .ret))
  | .exit id, _, W => W.heap[L]? = some oB ∧ R (.returned (.bool false)) (W.putObj L (oX (.exit id)))
  | .goto t, _, W => W.heap[L]? = some oB ∧ R (.returned (.bool false)) (W.putObj L (oX (.goto t)))
  | .panic _, _, _ => False
  | .outgrown, _, _ => False

/-- **A LOOP OVER AN ITERATOR, BY ITS ROUNDS.** -/
theorem wpIn_rangeFunc_by {F : Fence} {n : Nat} {P : Program} {g : Operand} {ps : Array Tmp} {assign body : Code} {Q : Exit → Act → World → Prop} {a : Act} {w : World}
    (hro : F.round = none) (h1 : 1 ≤ n) {gf : Nat} {lb : Array Value} (hg : a.eval g = .func (.func gf) #[] lb) (hFg : F.fn gf) (eg : ∀ args w, (callFunc gf args).run P w = .ok (.enter gf args) w)
    (Jd : World → Prop) (Jx : Code → World → Prop)
    (h : ∀ (oR oB : Obj) (oX : Code → Obj) (W1 : World), oR.isCells = false → oB.isCells = false → (∀ c, (oX c).isCells = false) → Below w.heap.size w W1 → W1.heap.size = w.heap.size + 2 →
      W1.heap[w.heap.size]? = some (.deferred (some [])) → W1.heap[w.heap.size + 1]? = some oR →
      (∀ (args : Array Value) (Wa : World) (R : Ending → World → Prop), args.size = ps.size → Wa.heap[w.heap.size + 1]? = some oR →
        assign.wpIn (F.inRound (w.heap.size + 1)) (n - 1 - 1) P (Exit.then (fun a' Wb => Wb.heap[w.heap.size + 1]? = some oR ∧ body.wpIn (F.inRound (w.heap.size + 1)) (n - 1 - 1) P (ByPost (w.heap.size + 1) oR oB oX R) a' (Wb.putObj (w.heap.size + 1) oB)) (fun _ _ _ => False))
          { tmps := (ps.zip args).foldl (fun t (p, v) => t.setIfInBounds p v) a.tmps, defers := [] } Wa →
        YieldAt F (n - 1 - 1) P (w.heap.size + 1) args Wa R) →
      CallsIn F (n - 1) P gf (#[.func (.yield (w.heap.size + 1)) #[] #[]] ++ lb) W1 fun e W' => (∃ v, e = .returned v) ∧ W'.heap[w.heap.size]? = some (.deferred (some [])) ∧
        ((W'.heap[w.heap.size + 1]? = some oR ∧ ∀ o', Jd (W'.putObj (w.heap.size + 1) o')) ∨ ∃ c, W'.heap[w.heap.size + 1]? = some (oX c) ∧ ∀ o', Jx c (W'.putObj (w.heap.size + 1) o')))
    (hdone : ∀ (W : World), Jd W → W.heap[w.heap.size]? = some (.deferred (some [])) → Q .normal { a with defers := { target := .collected w.heap.size, args := #[] } :: a.defers } W)
    (hstop : ∀ (c : Code) (W : World), Jx c W → W.heap[w.heap.size]? = some (.deferred (some [])) → c.wpIn F n P Q { a with defers := { target := .collected w.heap.size, args := #[] } :: a.defers } W) :
    (Code.rangeFunc g ps assign body).wpIn F n P Q a w := by
  refine wpIn_rangeFunc fun fn hfn => ?_
  rw [hro]
  obtain ⟨R, hR⟩ : ∃ R : LoopState → Option Code → Loop, R = fun st pe => { state := st, pending := pe, fn, tmps := a.tmps, params := ps, assign, body, defers := w.heap.size } := ⟨_, rfl⟩
  obtain ⟨W1, hW1⟩ : ∃ W1, (w.alloc (.deferred (some []))).alloc (.loop (R .ready none)) = W1 := ⟨_, rfl⟩
  have hz : W1.heap.size = w.heap.size + 2 := by rw [← hW1]; simp
  have hD1 : W1.heap[w.heap.size]? = some (.deferred (some [])) := by rw [← hW1]; exact (Below.heap_alloc _ _ _ (by simp)).trans (World.alloc_heap_new w _)
  have hL1 : W1.heap[w.heap.size + 1]? = some (.loop (R .ready none)) := by rw [← hW1]; have := World.alloc_heap_new (w.alloc (.deferred (some []))) (.loop (R .ready none)); rwa [World.size_alloc] at this
  have hB1 : Below w.heap.size w W1 := by rw [← hW1]; exact ((Below.refl _ w).alloc (Nat.le_refl _) _).alloc (by simp) _
  have lt_of : ∀ {A : World} {k : Nat} {o : Obj}, A.heap[k]? = some o → k < A.heap.size := fun h => (Array.getElem?_eq_some_iff.1 h).1
  refine ⟨w.heap.size + 1, [{ target := .collected w.heap.size, args := #[] }], W1, { target := .fn (.func gf) lb, args := #[.func (.yield (w.heap.size + 1)) #[] #[]] }, W1, gf,
    #[.func (.yield (w.heap.size + 1)) #[] #[]] ++ lb, W1, by rw [← hW1, hR]; exact run_enterLoop_outer _ _ _ _ _, by simp only [resolve, hg]; simp [go_sem], fun f' hf' => by simp [Target.leads] at hf'; subst hf'; exact hFg, by simp [invoke, go_sem, eg], fun _ => h1, ?_⟩
  refine (h (.loop (R .ready none)) (.loop { R .ready none with state := .busy }) (fun c => .loop (R .done (some c))) W1 rfl rfl (fun _ => rfl) hB1 hz hD1 hL1 ?round).mono ?behind
  case round =>
    intro args Wa R' hsz hla hass
    have hy := run_yield (P := P) (args := args) hla (by rw [hR]; exact hsz)
    rw [hR] at hy
    refine ⟨fn, _, assign, body, hy, roundIn_of_wpIn hfn (wpIn_mono hass ?_)⟩
    intro e a' Wb hb
    match e, hb with
    | .normal, ⟨hlb, hbody⟩ =>
      refine ⟨_, run_beginRound hlb (by rw [hR]), ?_⟩
      refine wpIn_mono hbody ?_
      intro e a3 W3 hp
      have fin : ∀ (j : Option Code), W3.heap[w.heap.size + 1]? = some (.loop { R .ready none with state := .busy }) → (Instr.endRound (w.heap.size + 1) j).run P W3 = .ok (.bool j.isNone) (W3.putObj (w.heap.size + 1) (.loop (R (if j.isNone then .ready else .done) j))) := fun j hl3 => by
        have := run_endRound (P := P) j hl3
        rw [hR] at this ⊢
        exact this
      match e, hp with
      | .normal, ⟨hl3, hr⟩ => exact ⟨_, _, fin none hl3, hr⟩
      | .ret, ⟨hl3, hr⟩ => exact ⟨_, _, fin (some .ret) hl3, hr⟩
      | .exit id, ⟨hl3, hr⟩ => exact ⟨_, _, fin (some (.exit id)) hl3, hr⟩
      | .goto t, ⟨hl3, hr⟩ => exact ⟨_, _, fin (some (.goto t)) hl3, hr⟩
  case behind =>
    rintro e W2 ⟨⟨v, rfl⟩, hd, (⟨hl, hj⟩ | ⟨c, hl, hj⟩)⟩
    · refine ⟨none, _, by have := run_endLoop (P := P) hl (by rw [hR]; simp); rw [hR] at this; exact this, ?_⟩
      exact hdone _ (hj _) ((World.putObj_heap_other (by omega)).trans hd)
    · refine ⟨some c, _, by have := run_endLoop (P := P) hl (by rw [hR]; simp); rw [hR] at this; exact this, ?_⟩
      exact hstop c _ (hj _) ((World.putObj_heap_other (by omega)).trans hd)

end Go.Proofs.Ytkpjmcoihbebkaa.C
