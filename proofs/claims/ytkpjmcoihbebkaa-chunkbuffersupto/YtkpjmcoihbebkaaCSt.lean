/- What is proved here: what a loop over a source knows together with its iterator: where both sources stand, the count, whether it is over, the loop's own record; and that each step of a round keeps it. -/
import Derived.Test.YtkpjmcoihbebkaaBun6
import Derived.Test.YtkpjmcoihbebkaaCLoop
namespace Go.Proofs.Ytkpjmcoihbebkaa.CInv
open Go.RowKit C

/-- Where the blocks lie. -/
structure Geo (base g rb top Bk Bo : Nat) (V : World) : Prop where
  a : base ≤ g
  b : g < rb
  c : rb < top
  d : top ≤ Bk
  e : Bk < Bo
  f : Bo < V.heap.size
/-- What the loop knows. -/
structure St (rv : Value) (base g rb top Bk Bo : Nat) (l : Scr) (V : World) (i p t i' p' t' : Nat) (kk : Int) (ov : Bool) (o : Obj) (W : World) : Prop where
  inv : Inv l i p t
  src : Src base W g (reach l) i p t
  ref : RSu rv (rb + 1) top W rb l i' p' t'
  cnt : Boxed W Bk 3 (.int .i64 kk)
  ovr : Boxed W Bo 4 (.bool ov)
  keep : KeepP (fun j => j = g ∨ j = rb ∨ j = Bk ∨ j = Bo ∨ V.heap.size ≤ j) V W
  dfr : W.heap[V.heap.size]? = some (.deferred (some []))
  lp : W.heap[V.heap.size + 1]? = some o

theorem lt_of_at {A : World} {k : Nat} {o : Obj} (h : A.heap[k]? = some o) : k < A.heap.size := (Array.getElem?_eq_some_iff.1 h).1
theorem own_kept {A B : World} {b : Nat} {e : TypeId} {s n : Nat} {v : Value} {xs : List Value} {row : Option Nat} (ho : A.ownsRow b e s v n xs) (hg : A.grownBy B row) (hr : ∀ j, row = some j → j < b) : B.ownsRow b e s v n xs :=
  ho.kept hg (by
    cases h : v.ownBlock with
    | none => exact .inl rfl
    | some j => exact .inr (fun e' => by have := (ho.lt j h).1; have := hr j e'.symm; omega))

theorem St.size {rv : Value} {base g rb top Bk Bo : Nat} {l : Scr} {V : World} {i p t i' p' t' : Nat} {kk : Int} {ov : Bool} {o : Obj} {W : World} (h : St rv base g rb top Bk Bo l V i p t i' p' t' kk ov o W) : V.heap.size + 2 ≤ W.heap.size := lt_of_at h.lp
theorem St.grown {rv : Value} {base g rb top Bk Bo : Nat} {l : Scr} {V : World} {i p t i' p' t' : Nat} {kk : Int} {ov : Bool} {o : Obj} {W W' : World} (hG : Geo base g rb top Bk Bo V) (h : St rv base g rb top Bk Bo l V i p t i' p' t' kk ov o W) {row : Option Nat} (hg : W.grownBy W' row) (hr : ∀ j, row = some j → V.heap.size + 2 ≤ j) : St rv base g rb top Bk Bo l V i p t i' p' t' kk ov o W' := by
  obtain ⟨a, b, c, d, e, f⟩ := hG
  refine ⟨h.inv, Src.kept h.src hg (fun k e => ?_), RSu.kept h.ref hg (fun k e => ?_), h.cnt.kept hg (fun e => ?_), h.ovr.kept hg (fun e => ?_), h.keep.grown hg (fun j e => ?_), (hg.block _ (lt_of_at h.dfr) (fun e => ?_)).trans h.dfr, (hg.block _ (lt_of_at h.lp) (fun e => ?_)).trans h.lp⟩
  · have := hr k e; exact ⟨by omega, .inr (by omega)⟩
  · have := hr k e; exact ⟨by omega, .inr (by omega)⟩
  · have := hr _ e.symm; omega
  · have := hr _ e.symm; omega
  · have := hr j e; exact .inr (.inr (.inr (.inr (by omega))))
  · have := hr _ e.symm; omega
  · have := hr _ e.symm; omega
theorem St.below {rv : Value} {base g rb top Bk Bo : Nat} {l : Scr} {V : World} {i p t i' p' t' : Nat} {kk : Int} {ov : Bool} {o : Obj} {W W' : World} (hG : Geo base g rb top Bk Bo V) (h : St rv base g rb top Bk Bo l V i p t i' p' t' kk ov o W) (hb : Below W.heap.size W W') : St rv base g rb top Bk Bo l V i p t i' p' t' kk ov o W' :=
  h.grown hG (grown_below (row := none) hb) (fun _ e => by cases e)
/-- The loop's record is turned. -/
theorem St.put {rv : Value} {base g rb top Bk Bo : Nat} {l : Scr} {V : World} {i p t i' p' t' : Nat} {kk : Int} {ov : Bool} {o : Obj} {W : World} (hG : Geo base g rb top Bk Bo V) (h : St rv base g rb top Bk Bo l V i p t i' p' t' kk ov o W) (o' : Obj) : St rv base g rb top Bk Bo l V i p t i' p' t' kk ov o' (W.putObj (V.heap.size + 1) o') := by
  obtain ⟨a, b, c, d, e, f⟩ := hG
  have hg := grownBy_putObj' W (V.heap.size + 1) o'
  refine ⟨h.inv, Src.kept h.src hg (fun k e => ?_), RSu.kept h.ref hg (fun k e => ?_), h.cnt.kept hg (fun e => ?_), h.ovr.kept hg (fun e => ?_), h.keep.grown hg (fun j e => ?_), (hg.block _ (lt_of_at h.dfr) (fun e => ?_)).trans h.dfr, World.putObj_heap_same (lt_of_at h.lp)⟩
  · cases e; exact ⟨by omega, .inr (by omega)⟩
  · cases e; exact ⟨by omega, .inr (by omega)⟩
  · cases e; omega
  · cases e; omega
  · cases e; exact .inr (.inr (.inr (.inr (by omega))))
  · simp at e
theorem St.setO {rv : Value} {base g rb top Bk Bo : Nat} {l : Scr} {V : World} {i p t i' p' t' : Nat} {kk : Int} {ov : Bool} {o : Obj} {W : World} (hG : Geo base g rb top Bk Bo V) (h : St rv base g rb top Bk Bo l V i p t i' p' t' kk ov o W) (ov' : Bool) : St rv base g rb top Bk Bo l V i p t i' p' t' kk ov' o (W.setCell ⟨Bo, 0, none⟩ (.bool ov')) := by
  obtain ⟨a, b, c, d, e, f⟩ := hG
  have hg := grown_set W Bo 0 (.bool ov')
  refine ⟨h.inv, Src.kept h.src hg (fun k e => ?_), RSu.kept h.ref hg (fun k e => ?_), h.cnt.kept hg (fun e => ?_), h.ovr.set _, h.keep.grown hg (fun j e => ?_), (hg.block _ (lt_of_at h.dfr) (fun e => ?_)).trans h.dfr, (hg.block _ (lt_of_at h.lp) (fun e => ?_)).trans h.lp⟩
  · cases e; exact ⟨by omega, .inr (by omega)⟩
  · cases e; exact ⟨by omega, .inr (by omega)⟩
  · cases e; omega
  · cases e; exact .inr (.inr (.inr (.inl rfl)))
  · cases e; omega
  · cases e; omega
theorem St.setK {rv : Value} {base g rb top Bk Bo : Nat} {l : Scr} {V : World} {i p t i' p' t' : Nat} {kk : Int} {ov : Bool} {o : Obj} {W : World} (hG : Geo base g rb top Bk Bo V) (h : St rv base g rb top Bk Bo l V i p t i' p' t' kk ov o W) (kk' : Int) : St rv base g rb top Bk Bo l V i p t i' p' t' kk' ov o (W.setCell ⟨Bk, 0, none⟩ (.int .i64 kk')) := by
  obtain ⟨a, b, c, d, e, f⟩ := hG
  have hg := grown_set W Bk 0 (.int .i64 kk')
  refine ⟨h.inv, Src.kept h.src hg (fun k e => ?_), RSu.kept h.ref hg (fun k e => ?_), h.cnt.set _, h.ovr.kept hg (fun e => ?_), h.keep.grown hg (fun j e => ?_), (hg.block _ (lt_of_at h.dfr) (fun e => ?_)).trans h.dfr, (hg.block _ (lt_of_at h.lp) (fun e => ?_)).trans h.lp⟩
  · cases e; exact ⟨by omega, .inr (by omega)⟩
  · cases e; exact ⟨by omega, .inr (by omega)⟩
  · cases e; omega
  · cases e; exact .inr (.inr (.inl rfl))
  · cases e; omega
  · cases e; omega
/-- The program's source was read. -/
theorem St.read {rv : Value} {base g rb top Bk Bo : Nat} {l : Scr} {V : World} {i p t i' p' t' : Nat} {kk : Int} {ov : Bool} {o : Obj} {W W' : World} (hG : Geo base g rb top Bk Bo V) (h : St rv base g rb top Bk Bo l V i p t i' p' t' kk ov o W) {i2 p2 t2 : Nat} (hI : Inv l i2 p2 t2) (hS : Src base W' g (reach l) i2 p2 t2) (hg : W.grownBy W' (some g)) : St rv base g rb top Bk Bo l V i2 p2 t2 i' p' t' kk ov o W' := by
  obtain ⟨a, b, c, d, e, f⟩ := hG
  refine ⟨hI, hS, RSu.kept h.ref hg (fun k e => ?_), h.cnt.kept hg (fun e => ?_), h.ovr.kept hg (fun e => ?_), h.keep.grown hg (fun j e => ?_), (hg.block _ (lt_of_at h.dfr) (fun e => ?_)).trans h.dfr, (hg.block _ (lt_of_at h.lp) (fun e => ?_)).trans h.lp⟩
  · cases e; exact ⟨by omega, .inl (by omega)⟩
  · cases e; omega
  · cases e; omega
  · cases e; exact .inl rfl
  · cases e; omega
  · cases e; omega
/-- The document's source was read. -/
theorem St.rref {rv : Value} {base g rb top Bk Bo : Nat} {l : Scr} {V : World} {i p t i' p' t' : Nat} {kk : Int} {ov : Bool} {o : Obj} {W W' : World} (hG : Geo base g rb top Bk Bo V) (h : St rv base g rb top Bk Bo l V i p t i' p' t' kk ov o W) {i2 p2 t2 : Nat} (hV : RSv rv (rb + 1) W' rb l i2 p2 t2) (hg : W.grownBy W' (some rb)) : St rv base g rb top Bk Bo l V i p t i2 p2 t2 kk ov o W' := by
  obtain ⟨a, b, c, d, e, f⟩ := hG
  refine ⟨h.inv, Src.kept h.src hg (fun k e => ?_), RSu.read h.ref hV hg, h.cnt.kept hg (fun e => ?_), h.ovr.kept hg (fun e => ?_), h.keep.grown hg (fun j e => ?_), (hg.block _ (lt_of_at h.dfr) (fun e => ?_)).trans h.dfr, (hg.block _ (lt_of_at h.lp) (fun e => ?_)).trans h.lp⟩
  · cases e; exact ⟨by omega, .inr (by omega)⟩
  · cases e; omega
  · cases e; omega
  · cases e; exact .inr (.inl rfl)
  · cases e; omega
  · cases e; omega
/-- A block that none of the steps turns. -/
theorem St.box {rv : Value} {base g rb top Bk Bo : Nat} {l : Scr} {V : World} {i p t i' p' t' : Nat} {kk : Int} {ov : Bool} {o : Obj} {W : World} (h : St rv base g rb top Bk Bo l V i p t i' p' t' kk ov o W) {B : Nat} {ty : TypeId} {u : Value} (hb : Boxed V B ty u) (h1 : B ≠ g) (h2 : B ≠ rb) (h3 : B ≠ Bk) (h4 : B ≠ Bo) : Boxed W B ty u :=
  (h.keep.block B hb.lt (fun hx => by
    have := hb.lt
    rcases hx with hx | hx | hx | hx | hx
    · exact h1 hx
    · exact h2 hx
    · exact h3 hx
    · exact h4 hx
    · omega)).trans hb
/-- What never is. -/
def Never (_ : World) : Prop := False
/-- It is over, or it was left where the count is a number. -/
def StE (rv : Value) (base g rb top Bk Bo : Nat) (l : Scr) (V : World) (o : Obj) (W : World) : Prop := ∃ i p t kk, St rv base g rb top Bk Bo l V i p t i p t kk true o W
def StX (rv : Value) (base g rb top Bk Bo : Nat) (l : Scr) (V : World) (stop : Int) (o : Obj) (W : World) : Prop := ∃ i p t ov, St rv base g rb top Bk Bo l V i p t i p t stop ov o W
/-- Where the loop begins. -/
theorem St.start {rv : Value} {base g rb top Bk Bo : Nat} {l : Scr} {V : World} {i p t : Nat} {kk : Int} {ov : Bool} {o : Obj} {W : World} (hI : Inv l i p t) (hS : Src base V g (reach l) i p t) (hR : RSu rv (rb + 1) top V rb l i p t) (hk : Boxed V Bk 3 (.int .i64 kk)) (ho : Boxed V Bo 4 (.bool ov)) (hb : Below V.heap.size V W) (hd : W.heap[V.heap.size]? = some (.deferred (some []))) (hl : W.heap[V.heap.size + 1]? = some o) :
    St rv base g rb top Bk Bo l V i p t i p t kk ov o W :=
  ⟨hI, hS.below hb, RSu.kept hR (grown_below (row := none) hb) (fun _ e => by cases e), (hb.block _ hk.lt).trans hk, (hb.block _ ho.lt).trans ho, ⟨hb.os, hb.tape, hb.output, hb.size, fun j hj _ => hb.block j hj⟩, hd, hl⟩

end Go.Proofs.Ytkpjmcoihbebkaa.CInv
