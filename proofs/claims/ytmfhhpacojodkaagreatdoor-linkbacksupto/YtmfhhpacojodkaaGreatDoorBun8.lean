/- What is proved here: laws and contracts of Turns, IPlain, MathI, one behind the other (each says its own). -/
import Derived.RangeFuncNested
import Derived.WalkKit
import Derived.Below
import Derived.Laws.BitsAllLaws
import Derived.Test.YtmfhhpacojodkaaGreatDoorProg
import Derived.Test.YtmfhhpacojodkaaGreatDoorMathV
/- What is proved here: a loop over an iterator that has state of its own and loops over another iterator itself: its contract ('SeqTurns': it turns blocks of its own, one at a time) and the law for a loop over it. No program in sight. -/
namespace Go.Proofs.YtmfhhpacojodkaaGreatDoor.U
open Go.RowKit

/-- A step of an iterator's: new blocks; at most one block that lay is turned: its own, or one of a fine kind that was laid since B. -/
def Step (own : Nat → Prop) (fine : Obj → Prop) (B : Nat) (A A' : World) : Prop :=
  ∃ row, A.grownBy A' row ∧ ∀ r, row = some r → own r ∨ (B ≤ r ∧ ∃ o, A.heap[r]? = some o ∧ fine o)
/-- What does not mind such steps. -/
def Bears {β : Type} (own : Nat → Prop) (fine : Obj → Prop) (B : Nat) (J : β → World → Prop) : Prop := ∀ s A A', J s A → Step own fine B A A' → J s A'

theorem Step.alloc {own : Nat → Prop} {fine : Obj → Prop} {B : Nat} (A : World) (o : Obj) : Step own fine B A (A.alloc o) := ⟨none, World.grownBy_alloc A o none, fun r e => by cases e⟩
theorem Step.put {own : Nat → Prop} {fine : Obj → Prop} {B : Nat} {A : World} {l : Nat} {o : Obj} (o' : Obj) (hB : B ≤ l) (hl : A.heap[l]? = some o) (hf : fine o) : Step own fine B A (A.putObj l o') :=
  ⟨some l, grownBy_putObj' A l o', fun r e => by cases e; exact .inr ⟨hB, o, hl, hf⟩⟩
theorem Step.own {own : Nat → Prop} {fine : Obj → Prop} {B : Nat} {A : World} {b k : Nat} (h : own b) (v : Value) : Step own fine B A (A.setCell ⟨b, k, none⟩ v) :=
  ⟨some b, ⟨rfl, rfl, rfl, by simp [World.setCell], fun j _ hj => Below.heap_setCell _ _ _ j (fun e => hj (by rw [e]))⟩, fun r e => by cases e; exact .inl h⟩
theorem Step.fine {own : Nat → Prop} {fine : Obj → Prop} {B : Nat} {A : World} {b k : Nat} {o : Obj} (hB : B ≤ b) (hl : A.heap[b]? = some o) (hf : fine o) (v : Value) : Step own fine B A (A.setCell ⟨b, k, none⟩ v) :=
  ⟨some b, ⟨rfl, rfl, rfl, by simp [World.setCell], fun j _ hj => Below.heap_setCell _ _ _ j (fun e => hj (by rw [e]))⟩, fun r e => by cases e; exact .inr ⟨hB, o, hl, hf⟩⟩
theorem Step.grown {own : Nat → Prop} {fine : Obj → Prop} {B : Nat} {A A' : World} (h : Below A.heap.size A A') : Step own fine B A A' :=
  ⟨none, ⟨h.os, h.tape, h.output, h.size, fun k hk _ => h.block k hk⟩, fun r e => by cases e⟩
/-- What lies below B and is not the iterator's own lies as it lay. -/
theorem Step.block {own : Nat → Prop} {fine : Obj → Prop} {B : Nat} {A A' : World} (h : Step own fine B A A') {k : Nat} (hk : k < A.heap.size) (hB : k < B) (ho : ¬ own k) : A'.heap[k]? = A.heap[k]? := by
  obtain ⟨row, hg, hr⟩ := h
  refine hg.block k hk (fun e => ?_)
  rcases hr k e.symm with h | ⟨h, _⟩
  · exact ho h
  · omega
theorem Bears.and {β : Type} {own : Nat → Prop} {fine : Obj → Prop} {B : Nat} {J K : β → World → Prop} (h : Bears own fine B J) (k : Bears own fine B K) : Bears own fine B (fun s W => J s W ∧ K s W) :=
  fun s A A' hs ht => ⟨h s A A' hs.1 ht, k s A A' hs.2 ht⟩
theorem Bears.pure {β : Type} {own : Nat → Prop} {fine : Obj → Prop} {B : Nat} (p : β → Prop) : Bears own fine B (fun s (_ : World) => p s) := fun _ _ _ hs _ => hs
theorem Bears.mono {β : Type} {own : Nat → Prop} {fine : Obj → Prop} {B B' : Nat} {J : β → World → Prop} (h : Bears own fine B J) (hB : B ≤ B') : Bears own fine B' J := fun s A A' hs ⟨row, hg, hr⟩ =>
  h s A A' hs ⟨row, hg, fun r e => (hr r e).imp id (fun ⟨a, b⟩ => ⟨by omega, b⟩)⟩

/-- **THE CONTRACT**: as 'SeqStopsK', but for what the caller's invariant must bear, and what is known of the world where all have come. -/
def SeqTurns {α : Type} (F : Fence) (n : Nat) (P : Program) (g : Nat) (lb : Array Value) (encs : α → Array Value) (own : Nat → Prop) (fine : Obj → Prop) (Kp : World → World → Prop) (S : List α → World → Prop) (Sp : List α → Prop) (N : Nat) (w : World) : Prop :=
  ∀ (l : Nat) (J Jx : List α → World → Prop) (W : World), Below w.heap.size w W → Bears own fine W.heap.size J → Bears own fine W.heap.size Jx →
    (∀ pre x W1, J pre W1 → pre.length < N → YieldAt F (n - 1) P l (encs x) W1 fun e W' =>
      (e = .returned (.bool true) ∧ J (pre ++ [x]) W' ∧ Kp W1 W' ∧ KeepsFrom W.heap.size W1 W') ∨ (e = .returned (.bool false) ∧ Jx (pre ++ [x]) W' ∧ KeepsFrom W.heap.size W1 W')) →
    J [] W →
    CallsIn F n P g (#[.func (.yield l) #[] #[]] ++ lb) W fun e W' => (∃ v, e = .returned v) ∧ ((∃ xs, S xs W' ∧ J xs W') ∨ (∃ pre, Sp pre ∧ Jx pre W'))

/-- **A LOOP OVER SUCH AN ITERATOR.** -/
theorem wpIn_rangeFunc_turns {F : Fence} {n : Nat} {P : Program} {α : Type} {g : Operand} {ps : Array Tmp} {assign body : Code} {Q : Exit → Act → World → Prop} {a : Act} {w : World}
    (hro : F.round = none) (h1 : 1 ≤ n) {gf : Nat} {lb : Array Value} (hg : a.eval g = .func (.func gf) #[] lb) (hFg : F.fn gf) (eg : ∀ args w, (callFunc gf args).run P w = .ok (.enter gf args) w)
    {encs : α → Array Value} {own : Nat → Prop} {fine : Obj → Prop} {Kp : World → World → Prop} {S : List α → World → Prop} {Sp : List α → Prop} {N : Nat} {w0 : World}
    (hseq : SeqTurns F (n - 1) P gf lb encs own fine Kp S Sp N w0) (hfine : ∀ o : Obj, o.isCells = false → fine o) (hown : ∀ r, own r → r < w.heap.size)
    (hKt : ∀ {A B C : World}, Kp A B → Kp B C → Kp A C) (hKb : ∀ (W : World) (l : Nat) (o o' : Obj), w.heap.size ≤ l → W.heap[l]? = some o → o.isCells = false → o.isWalk = false → Kp W (W.putObj l o'))
    (hSb : ∀ (xs : List α) (W : World) (l : Nat) (o o' : Obj), w.heap.size ≤ l → W.heap[l]? = some o → o.isCells = false → S xs W → S xs (W.putObj l o'))
    (hb0 : Below w0.heap.size w0 w) (hps : ∀ x, (encs x).size = ps.size)
    (I : List α → World → Prop) (Ix : Code → List α → World → Prop) (hI : Bears own fine w.heap.size I) (hIx : ∀ c, Bears own fine w.heap.size (Ix c)) (h0 : I [] w) (Ax : α → Act → World → Prop)
    (hAx : ∀ (x : α) (a' : Act) (W : World) (l : Nat) (o o' : Obj), w.heap.size ≤ l → W.heap[l]? = some o → o.isCells = false → Ax x a' W → Ax x a' (W.putObj l o'))
    (hassign : ∀ (l : Nat) (pre : List α) (x : α) (W : World) (K : Act → World → Prop), I pre W → (∀ a' W', KeepsFrom w.heap.size W W' → Kp W W' → I pre W' → Ax x a' W' → K a' W') →
      assign.wpIn (F.inRound l) (n - 1 - 1) P (Exit.then K (fun _ _ _ => False)) { tmps := (ps.zip (encs x)).foldl (fun t (p, v) => t.setIfInBounds p v) a.tmps, defers := [] } W)
    (hbody : ∀ (l : Nat) (pre : List α) (x : α) (a' : Act) (W : World), I pre W → Ax x a' W → pre.length < N → body.wpIn (F.inRound l) (n - 1 - 1) P (ownPostG w.heap.size Kp I Ix (pre ++ [x]) W) a' W)
    (hdone : ∀ (D : Nat) (xs : List α) (W : World), w.heap.size ≤ D → S xs W → I xs W → W.heap[D]? = some (.deferred (some [])) → Q .normal { a with defers := { target := .collected D, args := #[] } :: a.defers } W)
    (hstop : ∀ (D : Nat) (c : Code) (pre : List α) (W : World), w.heap.size ≤ D → Sp pre → Ix c pre W → W.heap[D]? = some (.deferred (some [])) → c.wpIn F n P Q { a with defers := { target := .collected D, args := #[] } :: a.defers } W) :
    (Code.rangeFunc g ps assign body).wpIn F n P Q a w := by
  refine wpIn_rangeFunc fun fn hfn => ?_
  rw [hro]
  obtain ⟨R, hR⟩ : ∃ R : LoopState → Option Code → Loop, R = fun st pe => { state := st, pending := pe, fn, tmps := a.tmps, params := ps, assign, body, defers := w.heap.size } := ⟨_, rfl⟩
  obtain ⟨W1, hW1⟩ : ∃ W1, (w.alloc (.deferred (some []))).alloc (.loop (R .ready none)) = W1 := ⟨_, rfl⟩
  have hz : W1.heap.size = w.heap.size + 2 := by rw [← hW1]; simp
  have hD1 : W1.heap[w.heap.size]? = some (.deferred (some [])) := by rw [← hW1]; exact (Below.heap_alloc _ _ _ (by simp)).trans (World.alloc_heap_new w _)
  have hL1 : W1.heap[w.heap.size + 1]? = some (.loop (R .ready none)) := by rw [← hW1]; have := World.alloc_heap_new (w.alloc (.deferred (some []))) (.loop (R .ready none)); rwa [World.size_alloc] at this
  have hB1 : Below w.heap.size w W1 := by rw [← hW1]; exact ((Below.refl _ w).alloc (Nat.le_refl _) _).alloc (by simp) _
  have hI1 : I [] W1 := hI _ _ _ h0 (Step.grown hB1)
  -- whatever the iterator turns, the loop's two blocks stay
  have stay : ∀ {A A' : World} {k : Nat}, Step own fine W1.heap.size A A' → w.heap.size ≤ k → k < W1.heap.size → k < A.heap.size → A'.heap[k]? = A.heap[k]? :=
    fun hs h h' h'' => hs.block h'' h' (fun ho => by have := hown _ ho; omega)
  have lt_of : ∀ {A : World} {k : Nat} {o : Obj}, A.heap[k]? = some o → k < A.heap.size := fun h => (Array.getElem?_eq_some_iff.1 h).1
  refine ⟨w.heap.size + 1, [{ target := .collected w.heap.size, args := #[] }], W1, { target := .fn (.func gf) lb, args := #[.func (.yield (w.heap.size + 1)) #[] #[]] }, W1, gf,
    #[.func (.yield (w.heap.size + 1)) #[] #[]] ++ lb, W1, by rw [← hW1, hR]; exact run_enterLoop_outer _ _ _ _ _, by simp only [resolve, hg]; simp [go_sem], fun f' hf' => by simp [Target.leads] at hf'; subst hf'; exact hFg, by simp [invoke, go_sem, eg], fun _ => h1, ?_⟩
  refine (hseq (w.heap.size + 1)
    (fun pre W => I pre W ∧ W.heap[w.heap.size + 1]? = some (.loop (R .ready none)) ∧ W.heap[w.heap.size]? = some (.deferred (some [])))
    (fun pre W => ∃ c, Ix c pre W ∧ W.heap[w.heap.size + 1]? = some (.loop (R .done (some c))) ∧ W.heap[w.heap.size]? = some (.deferred (some [])))
    W1 (hb0.trans (hB1.mono hb0.size))
    (fun s A A' hs ht => ⟨hI.mono (by omega) s A A' hs.1 ht, (stay ht (by omega) (by omega) (lt_of hs.2.1)).trans hs.2.1, (stay ht (by omega) (by omega) (lt_of hs.2.2)).trans hs.2.2⟩)
    (fun s A A' ⟨c, hc, hl, hd⟩ ht => ⟨c, (hIx c).mono (by omega) s A A' hc ht, (stay ht (by omega) (by omega) (lt_of hl)).trans hl, (stay ht (by omega) (by omega) (lt_of hd)).trans hd⟩)
    ?round ⟨hI1, hL1, hD1⟩).mono ?behind
  case round =>
    rintro pre x Wa ⟨hia, hla, hda⟩ hlen
    have hy := run_yield (P := P) (args := encs x) hla (by rw [hR]; exact hps x)
    rw [hR] at hy
    refine ⟨fn, _, assign, body, hy, roundIn_of_wpIn hfn (hassign _ pre x Wa _ hia fun a' W hkfa hka hi hax => ?_)⟩
    have hl := hkfa.same _ _ (by omega) hla rfl
    have hd := hkfa.same _ _ (Nat.le_refl _) hda rfl
    have hlt := lt_of hl
    refine ⟨_, run_beginRound hl (by rw [hR]), ?_⟩
    have hl2 : (W.putObj (w.heap.size + 1) (.loop { R .ready none with state := .busy })).heap[w.heap.size + 1]? = some (.loop { R .ready none with state := .busy }) := World.putObj_heap_same hlt
    have hd2 : (W.putObj (w.heap.size + 1) (.loop { R .ready none with state := .busy })).heap[w.heap.size]? = some (.deferred (some [])) := (World.putObj_heap_other (by omega)).trans hd
    have hi2 := hI _ _ _ hi (Step.put (.loop { R .ready none with state := .busy }) (by omega) hl (hfine _ rfl))
    have hk2 : Kp W (W.putObj (w.heap.size + 1) (.loop { R .ready none with state := .busy })) := hKb _ _ _ _ (by omega) hl rfl rfl
    refine wpIn_mono (hbody _ pre x a' _ hi2 (hAx x a' W _ _ _ (by omega) hl rfl hax) hlen) ?_
    have fin : ∀ (j : Option Code) (W3 : World), KeepsFrom w.heap.size (W.putObj (w.heap.size + 1) (.loop { R .ready none with state := .busy })) W3 → ∃ W4, W4 = W3.putObj (w.heap.size + 1) (.loop (R (if j.isNone then .ready else .done) j)) ∧
        (Instr.endRound (w.heap.size + 1) j).run P W3 = .ok (.bool j.isNone) W4 ∧ W3.heap[w.heap.size + 1]? = some (.loop { R .ready none with state := .busy }) ∧
        W4.heap[w.heap.size + 1]? = some (.loop (R (if j.isNone then .ready else .done) j)) ∧ W4.heap[w.heap.size]? = some (.deferred (some [])) := fun j W3 hkf => by
      have hl3 := hkf.same _ _ (by omega) hl2 rfl
      have hd3 := hkf.same _ _ (Nat.le_refl _) hd2 rfl
      refine ⟨_, rfl, ?_, hl3, World.putObj_heap_same (lt_of hl3), (World.putObj_heap_other (by omega)).trans hd3⟩
      have := run_endRound (P := P) j hl3
      rw [hR] at this ⊢
      exact this
    have put : ∀ (A : World) (o : Obj), KeepsFrom W1.heap.size A (A.putObj (w.heap.size + 1) o) := fun A o => ⟨by simp [World.putObj], fun k o' hk hA _ => (World.putObj_heap_other (by omega)).trans hA⟩
    have less : ∀ {A A' : World}, KeepsFrom w.heap.size A A' → KeepsFrom W1.heap.size A A' := fun h => ⟨h.size, fun k o hk hA ho => h.same k o (by omega) hA ho⟩
    have keep : ∀ (W3 : World) (o : Obj), KeepsFrom w.heap.size (W.putObj (w.heap.size + 1) (.loop { R .ready none with state := .busy })) W3 → KeepsFrom W1.heap.size Wa (W3.putObj (w.heap.size + 1) o) :=
      fun W3 o h => (((less hkfa).trans (put W _)).trans (less h)).trans (put W3 o)
    have out : ∀ (c : Code) (W3 : World), KeepsFrom w.heap.size (W.putObj (w.heap.size + 1) (.loop { R .ready none with state := .busy })) W3 → Ix c (pre ++ [x]) W3 →
        ∃ v w', (Instr.endRound (w.heap.size + 1) (some c)).run P W3 = .ok v w' ∧ ((Ending.returned v = .returned (.bool true) ∧ (I (pre ++ [x]) w' ∧ w'.heap[w.heap.size + 1]? = some (.loop (R .ready none)) ∧ w'.heap[w.heap.size]? = some (.deferred (some []))) ∧ Kp Wa w' ∧ KeepsFrom W1.heap.size Wa w') ∨
          (Ending.returned v = .returned (.bool false) ∧ (∃ c, Ix c (pre ++ [x]) w' ∧ w'.heap[w.heap.size + 1]? = some (.loop (R .done (some c))) ∧ w'.heap[w.heap.size]? = some (.deferred (some []))) ∧ KeepsFrom W1.heap.size Wa w')) := fun c W3 hkf hx => by
      obtain ⟨W4, e4, hr, hl3, hl4, hd4⟩ := fin (some c) W3 hkf
      exact ⟨_, W4, hr, .inr ⟨rfl, ⟨c, by rw [e4]; exact hIx c _ _ _ hx (Step.put _ (by omega) hl3 (hfine _ rfl)), hl4, hd4⟩, by rw [e4]; exact keep W3 _ hkf⟩⟩
    intro e a3 W3 hp
    match e, hp with
    | .normal, ⟨hkf, hkp, hi3⟩ =>
      obtain ⟨W4, e4, hr, hl3, hl4, hd4⟩ := fin none W3 hkf
      exact ⟨_, W4, hr, .inl ⟨rfl, ⟨by rw [e4]; exact hI _ _ _ hi3 (Step.put _ (by omega) hl3 (hfine _ rfl)), hl4, hd4⟩, by rw [e4]; exact hKt (hKt (hKt hka hk2) hkp) (hKb _ _ _ _ (by omega) hl3 rfl rfl), by rw [e4]; exact keep W3 _ hkf⟩⟩
    | .ret, ⟨hkf, hx⟩ => exact out .ret W3 hkf hx
    | .exit id, ⟨hkf, hx⟩ => exact out (.exit id) W3 hkf hx
    | .goto t, ⟨hkf, hx⟩ => exact out (.goto t) W3 hkf hx
  case behind =>
    rintro e W2 ⟨⟨v, rfl⟩, (⟨xs, hS, hi, hl, hd⟩ | ⟨pre, hSp, c, hi, hl, hd⟩)⟩
    · refine ⟨none, _, by have := run_endLoop (P := P) hl (by rw [hR]; simp); rw [hR] at this; exact this, ?_⟩
      exact hdone _ xs _ (Nat.le_refl _) (hSb _ _ _ _ _ (by omega) hl rfl hS) (hI _ _ _ hi (Step.put _ (by omega) hl (hfine _ rfl))) ((World.putObj_heap_other (by omega)).trans hd)
    · refine ⟨some c, _, by have := run_endLoop (P := P) hl (by rw [hR]; simp); rw [hR] at this; exact this, ?_⟩
      exact hstop _ c pre _ (Nat.le_refl _) hSp (hIx c _ _ _ hi (Step.put _ (by omega) hl (hfine _ rfl))) ((World.putObj_heap_other (by omega)).trans hd)

end Go.Proofs.YtmfhhpacojodkaaGreatDoor.U

/- What is proved here: the contracts of input.Plain and sieveref03.Plain (with ValidRune, isNonchar, Char): what they return for any rune, and that it is one and the same. -/
namespace Go.Proofs.YtmfhhpacojodkaaGreatDoor.U
open Go.RowKit

/-- The rune that stands for a rune. -/
def plainZ (r : Int) : Int :=
  if r = 13 then 10 else if r = 9 ∨ r = 10 ∨ r = 12 then r
  else if r < 32 ∨ (127 ≤ r ∧ r ≤ 159) ∨ (55296 ≤ r ∧ r ≤ 57343) ∨ 1114111 < r ∨ (64976 ≤ r ∧ r ≤ 65007) ∨ 65534 ≤ r % 65536 then 65533 else r
theorem plainZ_idem (r : Int) : plainZ (plainZ r) = plainZ r := by
  unfold plainZ
  repeat' split
  all_goals omega

theorem ret_boolI {a b : Bool} (h : a = b) : Ending.returned (.bool a) = .returned (.bool b) := by rw [h]
theorem ret_i32I {a b : Int} (h : a = b) : Ending.returned (.int .i32 a) = .returned (.int .i32 b) := by rw [h]

def validZ (r : Int) : Bool := decide (0 ≤ r ∧ r < 55296 ∨ 57343 < r ∧ r ≤ 1114111)
set_option maxRecDepth 100000 in
theorem vrune_calls (r : Int) (w : World) : Calls Tryz.prog 125 #[.int .i32 r] w fun e w' => e = .returned (.bool (validZ r)) ∧ w' = w := by
  go_enter Tryz.func125, Tryz.ntmps125
  go_wp2
  all_goals go_ret
  all_goals refine ⟨ret_boolI ?_, rfl⟩
  all_goals unfold validZ
  all_goals simp
  all_goals omega

theorem mask16 (r : Int) (h0 : 0 ≤ r) (h1 : r ≤ 1114111) : bits .and .i32 r 65535 = r % 65536 := by
  obtain ⟨a, rfl⟩ := Int.eq_ofNat_of_zero_le h0
  show IntKind.i32.wrap ((BitVec.ofInt 32 (a : Int) &&& BitVec.ofInt 32 ((65535 : Nat) : Int)).toNat : Int) = _
  rw [BitVec.toNat_and, ofInt_u32 a (by omega), ofInt_u32 65535 (by omega), nat_mask16]
  simp [IntKind.wrap, IntKind.bits, IntKind.signed]
  omega
def noncharZ (r : Int) : Bool := decide ((64976 ≤ r ∧ r ≤ 65007) ∨ 65534 ≤ r % 65536)
set_option maxRecDepth 100000 in
theorem rcharI_calls (r : Int) (w : World) : Calls Tryz.prog 105 #[.int .i32 r] w fun e w' => e = .returned (.bool (validZ r)) ∧ w' = w := by
  go_enter Tryz.func105, Tryz.ntmps105
  go_wp2
  all_goals go_ret
  all_goals refine ⟨ret_boolI ?_, rfl⟩
  all_goals unfold validZ
  all_goals rw [Bool.eq_iff_iff]
  all_goals simp
  all_goals omega

end Go.Proofs.YtmfhhpacojodkaaGreatDoor.U

/- What is proved here: plain facts on cells: how runes with their places become cells with their places, with no memory in sight. -/
namespace Go.Proofs.YtmfhhpacojodkaaGreatDoor.U

theorem rune_lt (ds : List UInt8) (h0 : 0 < ds.length) : nextR ds < 1114112 := by
  unfold nextR
  split
  · rename_i h
    obtain ⟨hz, hl, hk⟩ := (all_iff ds h0).1 h
    have l0 := byteAt_lt ds 0
    have k1 : 1 < lead (byteAt ds 0) → lo2 (byteAt ds 0) ≤ byteAt ds 1 ∧ byteAt ds 1 ≤ hi2 (byteAt ds 0) := fun b => by simpa [okAt, loAt, hiAt] using hk 1 (by omega) b
    unfold runeOf
    clear hk h
    generalize byteAt ds 0 = b0 at *
    generalize byteAt ds 1 = b1 at *
    generalize byteAt ds 2 = b2 at *
    generalize byteAt ds 3 = b3 at *
    rcases lead_cases b0 with ⟨c, e⟩ | ⟨c, c', e⟩ | ⟨c, c', e⟩ | ⟨c, c', e⟩ | ⟨c, c', e⟩ | ⟨c, e⟩
    · rw [e, if_pos rfl]; omega
    · exact absurd e hz
    · rw [e, if_neg (by omega), if_pos rfl]; omega
    · rw [e, if_neg (by omega), if_neg (by omega), if_pos rfl]; omega
    · rw [e] at k1
      have s := second_ok (by omega) (by omega) (k1 (by omega)).1 (k1 (by omega)).2
      rw [e, if_neg (by omega), if_neg (by omega), if_neg (by omega)]; omega
    · exact absurd e hz
  · omega

/-- A rune of bytes with its place. -/
abbrev Tok := { x : Nat × Nat // x.1 < 140737488355328 ∧ x.2 < 1114112 }

def plainN (r : Nat) : Nat := (plainZ r).toNat
theorem plainN_eq (r : Nat) : ((plainN r : Nat) : Int) = plainZ r := by
  unfold plainN plainZ
  repeat' split
  all_goals omega
theorem plainN_lt (r : Nat) (h : r < 1114112) : plainN r < 1114112 ∧ ¬ (55296 ≤ plainN r ∧ plainN r ≤ 57343) := by
  have := plainN_eq r
  unfold plainZ at this
  repeat' split at this
  all_goals omega

/-- A cell: its rune, byte, line and column. -/
structure Cl where
  r : Nat
  y : Nat
  l : Nat
  c : Nat
  hr : r < 1114112 ∧ ¬ (55296 ≤ r ∧ r ≤ 57343)
/-- Where a reading stands: the last rune, the spot, and the cells so far. -/
structure St where
  last : Nat
  y : Nat
  l : Nat
  c : Nat
  out : List Cl
def joined (st : St) (x : Tok) : Bool := decide (st.last = 13 ∧ x.1.2 = 10)
def stepT (fr : Nat) (st : St) (x : Tok) : St :=
  if joined st x = true then { st with last := x.1.2 }
  else { last := x.1.2, y := fr + x.1.1, l := if plainN x.1.2 = 10 then st.l + 1 else st.l, c := if plainN x.1.2 = 10 then 1 else st.c + 1,
         out := st.out ++ [⟨plainN x.1.2, fr + x.1.1, st.l, st.c, plainN_lt _ x.2.2⟩] }
def st0 (y l c : Nat) : St := ⟨0, y, l, c, []⟩
def readT (y l c : Nat) (ts : List Tok) : St := ts.foldl (stepT y) (st0 y l c)
theorem readT_snoc (y l c : Nat) (ts : List Tok) (x : Tok) : readT y l c (ts ++ [x]) = stepT y (readT y l c ts) x := by simp [readT]
theorem readT_nil (y l c : Nat) : readT y l c [] = st0 y l c := rfl
/-- Nothing grows faster than the runes. -/
theorem readT_le (y l c : Nat) (ts : List Tok) : ∀ s : St, s.l ≤ l → s.c ≤ c → 1 ≤ c → (ts.foldl (stepT y) s).l ≤ l + ts.length ∧ (ts.foldl (stepT y) s).c ≤ c + ts.length ∧ (ts.foldl (stepT y) s).out.length ≤ s.out.length + ts.length := by
  induction ts generalizing l c with
  | nil => intro s h1 h2 _; exact ⟨h1, h2, Nat.le_refl _⟩
  | cons x ts ih =>
    intro s h1 h2 h3
    have := ih (l + 1) (c + 1) (stepT y s x) (by unfold stepT; repeat' split
                                                 all_goals simp
                                                 all_goals omega) (by unfold stepT; repeat' split
                                                                      all_goals simp
                                                                      all_goals omega) (by omega)
    have hl : (stepT y s x).out.length ≤ s.out.length + 1 := by unfold stepT; split <;> simp
    simp only [List.foldl_cons, List.length_cons]
    omega
theorem readT_bounds (y l c : Nat) (ts : List Tok) (h : 1 ≤ c) : (readT y l c ts).l ≤ l + ts.length ∧ (readT y l c ts).c ≤ c + ts.length ∧ (readT y l c ts).out.length ≤ ts.length := by
  have := readT_le y l c ts (st0 y l c) (Nat.le_refl _) (Nat.le_refl _) h
  simpa [readT, st0] using this

end Go.Proofs.YtmfhhpacojodkaaGreatDoor.U
