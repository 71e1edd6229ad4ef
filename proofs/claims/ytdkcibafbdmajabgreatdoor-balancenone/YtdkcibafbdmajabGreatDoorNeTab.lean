/- What is proved here: the nesting table in memory: the map of places, the map of looks, what is left of a stack and what is put in. -/
import Derived.Maps.OwnSet
import Derived.Maps.Views
import Derived.StringKeys
import Derived.RangeFuncOwn
import Derived.Test.YtdkcibafbdmajabGreatDoorNeM
namespace Go.Proofs.YtdkcibafbdmajabGreatDoor.E
open Go.RowKit Go.Shelf Go.WideMaps Go.Maps Go.Proofs.YtdkcibafbdmajabGreatDoor.N Go.Proofs.YtdkcibafbdmajabGreatDoor.C

theorem lawE : Keyed Tryz.prog 9 := string_keyed Tryz.underlying9
theorem key_tx (x : Txt) (h : x.length ≤ 10000000000) : keyOf Tryz.prog 9 (.string ⟨x.toArray⟩) = some (.string x) :=
  keyOf_string_mk (P := Tryz.prog) (k := 9) (s := ⟨x.toArray⟩) Tryz.underlying9 (by rw [← size_data]; unfold maxLen; show x.length ≤ _; omega)
/-- Texts that lie one behind the other, wherever that is; of no texts nothing is said. -/
def TextsAt (w : World) (a : Option Addr) (L : List Txt) : Prop := ∀ j, j < L.length → ∃ b off, a = some ⟨b, off, none⟩ ∧ w.cell? ⟨b, off + j, none⟩ = some (.string ⟨(L.getD j []).toArray⟩)
theorem TextsAt.below {w w' : World} {a : Option Addr} {L : List Txt} (h : TextsAt w a L) (hb : Below w.heap.size w w') : TextsAt w' a L := fun j hj => by
  obtain ⟨b, off, e, hc⟩ := h j hj
  exact ⟨b, off, e, (hb.cell (p := ⟨b, off + j, none⟩) (cell_lt hc)).trans hc⟩
/-! ### what lies in the maps -/
def ownFn : Own → Nat
  | .item => 136
  | .term => 137
  | .part => 138
  | .column => 139
  | .row => 140
  | .cell => 141
  | .stand => 115
def fnV (n : Nat) : Value := .func (.func n) #[] #[]
def lookV (x : Txt) : Value := .agg #[.string ⟨x.toArray⟩, .bool (allowB x), .bool (voidB x), .bool (headB x), .bool (blockB x), fnV (ownFn (ownOf x))]
def zeroLook : Value := .agg #[.string ⟨#[]⟩, .bool false, .bool false, .bool false, .bool false, .nilFunc]
theorem look_inj {x y : Txt} (h : lookV x = lookV y) : x = y := by
  unfold lookV at h
  injection h with h
  simp at h
  exact h.1
theorem look_not_zero (x : Txt) : zeroLook ≠ lookV x := by
  intro h
  unfold zeroLook lookV fnV at h
  injection h with h
  simp at h
/-- How a place reads. -/
def codeP : Value → Option (DataW Unit × List MemPlace)
  | .func (.func k) ⟨[]⟩ ⟨[]⟩ => some (.lit (.int .i64 k), [])
  | .nilFunc => some (.nil, [])
  | _ => none
theorem codeP_fn (k : Nat) : codeP (fnV k) = some (.lit (.int .i64 k), []) := rfl
theorem codeP_inv {v : Value} {k : Nat} {ps : List MemPlace} (h : codeP v = some (.lit (.int .i64 (k : Int)), ps)) : v = fnV k := by
  unfold codeP at h
  split at h
  · rename_i j
    simp only [Option.some.injEq, Prod.mk.injEq] at h
    have : (j : Int) = k := by have := h.1; simpa using this
    have : j = k := Int.ofNat.inj this
    subst this
    rfl
  · simp at h
  · cases h
theorem codeP_nil {v : Value} {ps : List MemPlace} (h : codeP v = some (.nil, ps)) : v = .nilFunc := by
  unfold codeP at h
  split at h
  · simp at h
  · rfl
  · cases h
/-- How a look reads: by its name. -/
def codeL (v : Value) : Option (DataW Unit × List MemPlace) :=
  match v with
  | .agg ⟨[.string n, .bool a, .bool b, .bool c, .bool d, .func (.func k) ⟨[]⟩ ⟨[]⟩]⟩ => if a = allowB n.data.toList ∧ b = voidB n.data.toList ∧ c = headB n.data.toList ∧ d = blockB n.data.toList ∧ k = ownFn (ownOf n.data.toList) then some (.lit (.string n.data.toList), []) else none
  | .agg ⟨[.string n, .bool a, .bool b, .bool c, .bool d, .nilFunc]⟩ => if n.size = 0 ∧ a = false ∧ b = false ∧ c = false ∧ d = false then some (.nil, []) else none
  | _ => none
theorem codeL_look (x : Txt) : codeL (lookV x) = some (.lit (.string x), []) := by
  simp [codeL, lookV, fnV]
theorem codeL_zero : codeL zeroLook = some (.nil, []) := by
  simp [codeL, zeroLook]
  try rfl
theorem codeL_inv {v : Value} {x : Txt} {ps : List MemPlace} (h : codeL v = some (.lit (.string x), ps)) : v = lookV x := by
  unfold codeL at h
  split at h
  · split at h
    · rename_i n a b c d k hc
      obtain ⟨rfl, rfl, rfl, rfl, rfl⟩ := hc
      simp only [Option.some.injEq, Prod.mk.injEq] at h
      have e : n.data.toList = x := by have := h.1; simpa using this
      subst e
      rfl
    · cases h
  · split at h
    · simp at h
    · cases h
  · cases h
theorem codeL_nil {v : Value} {ps : List MemPlace} (h : codeL v = some (.nil, ps)) : v = zeroLook := by
  unfold codeL at h
  split at h
  · split at h
    · simp at h
    · cases h
  · split at h
    · rename_i n a b c d hc
      obtain ⟨h1, rfl, rfl, rfl, rfl⟩ := hc
      have : n = ⟨#[]⟩ := by
        cases n with | mk d0 => simp [ByteArray.size] at h1; rw [h1]
      subst this
      rfl
    · cases h
  · cases h
/-- The looks, at block b, n at most. -/
def LM (b n : Nat) (W : World) : Prop := ∃ D : DataW Unit, W.ownsMap Tryz.prog 9 codeL b n D ∧ ∀ s, D.atKey (.string s) .nil = if Maps.has D (.string s) then .lit (.string s) else .nil
theorem LM.new (w : World) : LM w.heap.size 0 (w.alloc (.map #[] 0)) := ⟨_, World.ownsMap_made _ _ _ _, fun _ => rfl⟩
theorem LM.mono {b n m : Nat} {W : World} (h : LM b n W) (hm : n ≤ m) : LM b m W := by
  obtain ⟨D, h1, h2⟩ := h
  exact ⟨D, h1.mono hm, h2⟩
theorem LM.lt {b n : Nat} {W : World} (h : LM b n W) : b < W.heap.size := by
  obtain ⟨D, h1, _⟩ := h
  exact h1.lt
theorem LM.kind {b n : Nat} {W : World} (h : LM b n W) : ∀ r, some b = some r → ∃ o : Obj, W.heap[r]? = some o ∧ o.isCells = false := by
  obtain ⟨D, ⟨es, clock, ho, _⟩, _⟩ := h
  intro r e
  cases e
  exact ⟨_, ho, rfl⟩
/-- It stays where its block stays. -/
theorem LM.same {b n : Nat} {W W' : World} (h : LM b n W) (hb : W'.heap[b]? = W.heap[b]?) : LM b n W' := by
  obtain ⟨D, ⟨es, clock, ho, h1⟩, h2⟩ := h
  exact ⟨D, ⟨es, clock, hb.trans ho, h1⟩, h2⟩
theorem LM.put {b n : Nat} {W w' : World} {D : DataW Unit} (hm : W.ownsMap Tryz.prog 9 codeL b n D) (h : ∀ s, D.atKey (.string s) .nil = if Maps.has D (.string s) then .lit (.string s) else .nil) (k : Txt)
    (hown : w'.ownsMap Tryz.prog 9 codeL b (n + 1) (D.put (.string k) (.lit (.string k)))) : LM b (n + 1) w' := ⟨_, hown, fun s => by
  by_cases e : s = k
  · subst e
    rw [atKey_put_same (k := .string s) hm.isMap trivial, has_put_same (k := .string s) hm.isMap trivial]
    rfl
  · have hne : (Lit.string s) ≠ .string k := by intro h; injection h with h; exact e h
    rw [atKey_put_other hne, has_put_other hne, h s]⟩
/-- What stands in a map that was made from behind. -/
def lookP : List (Txt × Nat) → Txt → Option Nat
  | [], _ => none
  | (k, f) :: t, s => if s == k then some f else lookP t s
structure PT (b n : Nat) (W : World) (T : List (Txt × Nat)) (D : DataW Unit) : Prop where
  own : W.ownsMap Tryz.prog 9 codeP b n D
  has' : ∀ s, Maps.has D (.string s) = (lookP T s).isSome
  at' : ∀ s, D.atKey (.string s) .nil = match lookP T s with | some f => .lit (.int .i64 (f : Int)) | none => .nil
theorem PT.new (w : World) : PT w.heap.size 0 (w.alloc (.map #[] 0)) [] (.map []) := ⟨World.ownsMap_made _ _ _ _, fun _ => rfl, fun _ => rfl⟩
theorem PT.put {b n : Nat} {W w' : World} {T : List (Txt × Nat)} {D : DataW Unit} (h : PT b n W T D) (k : Txt) (f : Nat)
    (hown : w'.ownsMap Tryz.prog 9 codeP b (n + 1) (D.put (.string k) (.lit (.int .i64 (f : Int))))) : PT b (n + 1) w' ((k, f) :: T) (D.put (.string k) (.lit (.int .i64 (f : Int)))) := ⟨hown, fun s => by
  by_cases e : s = k
  · subst e
    rw [has_put_same (k := .string s) h.own.isMap trivial]
    simp [lookP]
  · have hne : (Lit.string s) ≠ .string k := by intro h; injection h with h; exact e h
    rw [has_put_other hne, h.has' s]
    simp [lookP, e], fun s => by
  by_cases e : s = k
  · subst e
    rw [atKey_put_same (k := .string s) h.own.isMap trivial]
    simp [lookP]
  · have hne : (Lit.string s) ≠ .string k := by intro h; injection h with h; exact e h
    rw [atKey_put_other hne, h.at' s]
    simp [lookP, e]⟩
def placeT : List (Txt × Nat) := [(xTh, ownFn .cell), (xTd, ownFn .cell), (xTr, ownFn .row), (xCol, ownFn .column), (xTfoot, ownFn .part), (xTbody, ownFn .part), (xThead, ownFn .part), (xColgroup, ownFn .part), (xCaption, ownFn .part), (xDd, ownFn .term), (xDt, ownFn .term), (xLi, ownFn .item)]
theorem place_own (s : Txt) : lookP placeT s = if ownOf s = .stand then none else some (ownFn (ownOf s)) := by
  by_cases h1 : s = xLi; subst h1; rfl
  by_cases h2 : s = xDt; subst h2; rfl
  by_cases h3 : s = xDd; subst h3; rfl
  by_cases h4 : s = xCaption; subst h4; rfl
  by_cases h5 : s = xColgroup; subst h5; rfl
  by_cases h6 : s = xThead; subst h6; rfl
  by_cases h7 : s = xTbody; subst h7; rfl
  by_cases h8 : s = xTfoot; subst h8; rfl
  by_cases h9 : s = xCol; subst h9; rfl
  by_cases h10 : s = xTr; subst h10; rfl
  by_cases h11 : s = xTd; subst h11; rfl
  by_cases h12 : s = xTh; subst h12; rfl
  have : ownOf s = .stand := by simp [ownOf, h1, h2, h3, h4, h5, h6, h7, h8, h9, h10, h11, h12]
  simp [this, placeT, lookP, h1, h2, h3, h4, h5, h6, h7, h8, h9, h10, h11, h12]
/-- The places, at block b. -/
def PM (b : Nat) (W : World) : Prop := ∃ D : DataW Unit, W.ownsMap Tryz.prog 9 codeP b 12 D ∧ ∀ s, Maps.has D (.string s) = (!decide (ownOf s = .stand)) ∧ D.atKey (.string s) .nil = if ownOf s = .stand then .nil else .lit (.int .i64 (ownFn (ownOf s) : Int))
theorem PT.pm {b : Nat} {W : World} {D : DataW Unit} (h : PT b 12 W placeT D) : PM b W := ⟨D, h.own, fun s => by
  rw [h.has', h.at', place_own]
  by_cases e : ownOf s = .stand <;> simp [e]⟩
theorem PM.same {b : Nat} {W W' : World} (h : PM b W) (hb : W'.heap[b]? = W.heap[b]?) : PM b W' := by
  obtain ⟨D, ⟨es, clock, ho, h1⟩, h2⟩ := h
  exact ⟨D, ⟨es, clock, hb.trans ho, h1⟩, h2⟩
theorem PM.lt {b : Nat} {W : World} (h : PM b W) : b < W.heap.size := by
  obtain ⟨D, h1, _⟩ := h
  exact h1.lt
theorem PM.kind {b : Nat} {W : World} (h : PM b W) : ∃ o : Obj, W.heap[b]? = some o ∧ o.isCells = false := by
  obtain ⟨D, ⟨es, clock, ho, _⟩, _⟩ := h
  exact ⟨_, ho, rfl⟩
/-! ### the table -/
/-- What stays, below n: all but two blocks. -/
structure Keep (n B lb : Nat) (w w' : World) : Prop where
  os : w'.os = w.os
  tape : w'.tape = w.tape
  output : w'.output = w.output
  size : w.heap.size ≤ w'.heap.size
  block : ∀ k, k < n → k ≠ B → k ≠ lb → w'.heap[k]? = w.heap[k]?
theorem Keep.refl (n B lb : Nat) (w : World) : Keep n B lb w w := ⟨rfl, rfl, rfl, Nat.le_refl _, fun _ _ _ _ => rfl⟩
theorem Keep.trans {n B lb : Nat} {a b c : World} (h : Keep n B lb a b) (k : Keep n B lb b c) : Keep n B lb a c :=
  ⟨k.os.trans h.os, k.tape.trans h.tape, k.output.trans h.output, Nat.le_trans h.size k.size, fun j hj h1 h2 => (k.block j hj h1 h2).trans (h.block j hj h1 h2)⟩
theorem Keep.mono {n m B lb : Nat} {a b : World} (h : Keep n B lb a b) (hm : m ≤ n) : Keep m B lb a b := ⟨h.os, h.tape, h.output, h.size, fun j hj h1 h2 => h.block j (by omega) h1 h2⟩
theorem Keep.grown {n B lb : Nat} {w w' : World} (hg : w.grownBy w' (some lb)) (hn : n ≤ w.heap.size) : Keep n B lb w w' := ⟨hg.os, hg.tape, hg.output, hg.size, fun k hk _ h2 => hg.block k (by omega) (fun e => by cases e; exact h2 rfl)⟩
theorem Keep.below {n B lb : Nat} {w w' : World} (hg : Below n w w') : Keep n B lb w w' := ⟨hg.os, hg.tape, hg.output, hg.size, fun k hk _ _ => hg.block k hk⟩
theorem Keep.toBelow {n m B lb : Nat} {w w' : World} (h : Keep n B lb w w') (hm : m ≤ n) (hB : m ≤ B) (hl : m ≤ lb) : Below m w w' := ⟨h.os, h.tape, h.output, h.size, fun k hk => h.block k (by omega) (by omega) (by omega)⟩
theorem Keep.set {n B lb : Nat} {w : World} (j : Nat) (v : Value) : Keep n B lb w (w.setCell ⟨B, j, none⟩ v) := ⟨rfl, rfl, rfl, by simp [World.setCell], fun k _ h1 _ => Below.heap_setCell _ _ _ _ (fun e => h1 (by rw [e]))⟩
/-- The table at block B: the maps at pb and lb; of the stack S, which lies at a, the first k are left; ins is put in, in a row that was laid since n. -/
structure TabW (n B pb lb m : Nat) (a : Option Addr) (S : List Txt) (k : Nat) (ins : List Txt) (W : World) : Prop where
  blk : ∃ c vin, k ≤ c ∧ W.heap[B]? = some (.cells #[.map (some pb), .map (some lb), .slice a k c, vin] 155) ∧ OwnT n W vin ins
  pm : PM pb W
  lm : LM lb m W
  txt : TextsAt W a S
  hk : k ≤ S.length
  hB : B < n
  hp : pb < n
  hl : lb < n
  hne : pb ≠ lb
  hn : n ≤ W.heap.size
  low : ∀ b off, a = some ⟨b, off, none⟩ → 0 < S.length → b < n
theorem map_ne_cells {W : World} {b B : Nat} {o : Obj} {cs : Array Value} {t : TypeId} (h : W.heap[b]? = some o) (ho : o.isCells = false) (hB : W.heap[B]? = some (.cells cs t)) : B ≠ b := by
  rintro rfl
  rw [h] at hB
  cases hB
  cases ho
theorem TabW.neB {n B pb lb m : Nat} {a : Option Addr} {S : List Txt} {k : Nat} {ins : List Txt} {W : World} (h : TabW n B pb lb m a S k ins W) : B ≠ lb ∧ B ≠ pb := by
  obtain ⟨c, vin, _, hb, _⟩ := h.blk
  obtain ⟨o, h1, h2⟩ := h.lm.kind lb rfl
  obtain ⟨o', h3, h4⟩ := h.pm.kind
  exact ⟨map_ne_cells h1 h2 hb, map_ne_cells h3 h4 hb⟩
/-- What a look does to it. -/
theorem TabW.grown {n B pb lb m m' : Nat} {a : Option Addr} {S : List Txt} {k : Nat} {ins : List Txt} {W W' : World} (h : TabW n B pb lb m a S k ins W) (hg : W.grownBy W' (some lb)) (hl : LM lb m' W') : TabW n B pb lb m' a S k ins W' := by
  obtain ⟨nB, nP⟩ := h.neB
  obtain ⟨c, vin, hc, hb, hv⟩ := h.blk
  refine ⟨⟨c, vin, hc, (hg.block B (by have := h.hB; have := h.hn; omega) (fun e => by cases e; exact nB rfl)).trans hb, ?_⟩, h.pm.same (hg.block pb h.pm.lt (fun e => by cases e; exact h.hne rfl)), hl, fun j hj => ?_, h.hk, h.hB, h.hp, h.hl, h.hne, Nat.le_trans h.hn hg.size, h.low⟩
  · refine hv.kept hg ?_
    cases e : vin.ownBlock with
    | none => exact .inl rfl
    | some g => exact .inr (fun e' => by cases e'; have := (hv.lt _ e).1; have := h.hl; omega)
  · obtain ⟨b, off, e, hcell⟩ := h.txt j hj
    exact ⟨b, off, e, cell_kept hcell hg h.lm.kind⟩
theorem TabW.below {n B pb lb m : Nat} {a : Option Addr} {S : List Txt} {k : Nat} {ins : List Txt} {W W' : World} (h : TabW n B pb lb m a S k ins W) (hb : Below W.heap.size W W') : TabW n B pb lb m a S k ins W' := by
  obtain ⟨c, vin, hc, hbk, hv⟩ := h.blk
  have hz := h.hn
  have := h.hB
  exact ⟨⟨c, vin, hc, (hb.block B (by omega)).trans hbk, owns_below hv hb⟩, h.pm.same (hb.block pb h.pm.lt), h.lm.same (hb.block lb h.lm.lt), h.txt.below hb, h.hk, h.hB, h.hp, h.hl, h.hne, Nat.le_trans h.hn hb.size, h.low⟩
end Go.Proofs.YtdkcibafbdmajabGreatDoor.E
