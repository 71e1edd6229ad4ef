/- What is proved here: a buffer and the document's beside it in memory: what a call of the one leaves of the other; that both come to the same. -/
import Derived.Test.YtkpjmcoihbebkaaBTake
import Derived.Test.YtkpjmcoihbebkaaBUntil
import Derived.Test.YtkpjmcoihbebkaaBRest
import Derived.Test.YtkpjmcoihbebkaaBRRest
namespace Go.Proofs.Ytkpjmcoihbebkaa.CInv
open Go.RowKit C

theorem OwnU.keep {base top : Nat} {e : TypeId} {A B : World} {r : Value} {l : Scr} {P : Nat → Prop} (h : OwnU base top e A r l) (hk : KeepP P A B) (hp : ∀ k, base ≤ k → k < top → ¬ P k) : OwnU base top e B r l := by
  obtain ⟨xs, x1, x2, x3, x4, x5, x6⟩ := h
  exact ⟨xs, x1, hk.owns x2 (fun k e => hp k (x2.lt k e).1 (x5 k e)), fun x hx => hk.owns (x3 x hx) (fun k e => hp k ((x3 x hx).lt k e).1 (x6 x hx k e)), x4, x5, x6⟩
theorem Src.keep {P : Nat → Prop} {base : Nat} {A B : World} {g : Nat} {l : Scr} {i part told : Nat} (h : Src base A g l i part told) (hk : KeepP P A B) (hp : ∀ k, k ≤ g → ¬ P k) : Src base B g l i part told := by
  obtain ⟨v, hB, hO⟩ := h
  exact ⟨v, (hk.block g hB.lt (hp g (Nat.le_refl _))).trans hB, OwnU.keep hO hk (fun k _ h2 => hp k (by omega))⟩
theorem RSu.keep {v : Value} {base top : Nat} {A B : World} {g : Nat} {l : Scr} {i part told : Nat} {P : Nat → Prop} (h : RSu v base top A g l i part told) (hk : KeepP P A B) (hg : ¬ P g) (hp : ∀ k, base ≤ k → k < top → ¬ P k) : RSu v base top B g l i part told := by
  have hU := OwnU.keep h.2 hk hp
  exact ⟨⟨(hk.block g h.1.1.lt hg).trans h.1.1, h.1.2.1, hU.own⟩, hU⟩
theorem RB.keep {v : Value} {base top rg rb size : Nat} {l : Scr} {H : List UInt8} {i p t taken : Nat} {hv : Value} {W W' : World} {P : Nat → Prop} (h : RB v base top rg rb size l H i p t taken hv W) (hk : KeepP P W W') (h1 : ¬ P rg) (h2 : ¬ P rb) (h3 : ∀ k, hv.ownBlock = some k → ¬ P k) (h4 : ∀ k, base ≤ k → k < top → ¬ P k) : RB v base top rg rb size l H i p t taken hv W' :=
  ⟨h.src.keep hk h1 h4, (hk.block rb (Blk.lt h.buf) h2).trans h.buf, hk.owns h.row h3⟩
theorem HasP.keep {P P' R : Nat → Prop} {W W' : World} {v : Value} {H : List UInt8} (h : HasP P W v H) (hk : KeepP R W W') (hr : ∀ j, P j → ¬ R j) (hp : ∀ j, j < W.heap.size → P j → P' j) : HasP P' W' v H := by
  obtain ⟨a2, cap2, e, ec, e1, e2⟩ := h
  refine ⟨a2, cap2, e, ec, e1, fun ad e' j u hu => ?_⟩
  obtain ⟨c1, c2⟩ := e2 ad e' j u hu
  refine ⟨?_, hp _ (cell_lt c1) c2⟩
  rw [World.cell?_of_block (w := W) (hk.block _ (cell_lt c1) (hr _ c2))]
  exact c1
/-- Which blocks are not the document's. -/
def Nd (base top rg rb : Nat) (hv : Value) (j : Nat) : Prop := j ≠ rg ∧ j ≠ rb ∧ some j ≠ hv.ownBlock ∧ (j < base ∨ top ≤ j)
/-- Where all lies. -/
structure Lie (g b base top rg rb size : Nat) (l : Scr) : Prop where
  gb : g < b
  bg : b < rg
  bb : b < base
  gr : rg < rb
  tb : top ≤ rb
  s1 : 1 ≤ size
  size : size ≤ 16777216
  bytes : (bytesOf l).1.length ≤ 16777216
  steps : l.length ≤ 16777216
  each : ∀ x ∈ l, x.1.length ≤ 100000000000000
/-- **A buffer, and the document's beside it.** -/
structure J (sb g b : Nat) (v : Value) (base top rg rb size : Nat) (l : Scr) (H : List UInt8) (i p t taken : Nat) (a : Option Addr) (cap : Nat) (hv : Value) (W : World) : Prop where
  inv : Inv l i p t
  src : Src sb W g (reach l) i p t
  buf : BufAt W b g size taken (.slice a H.length cap)
  held : HasP (fun j => j ≠ g ∧ j ≠ b ∧ Nd base top rg rb hv j) W (.slice a H.length cap) H
  doc : RB v base top rg rb size l H i p t taken hv W
  room : H.length ≤ size
  told : taken + H.length = t
theorem J.cap {sb g b : Nat} {v : Value} {base top rg rb size : Nat} {l : Scr} {H : List UInt8} {i p t taken : Nat} {a : Option Addr} {cap : Nat} {hv : Value} {W : World} (h : J sb g b v base top rg rb size l H i p t taken a cap hv W) : H.length ≤ cap := by
  obtain ⟨_, _, e, ec, _⟩ := h.held
  cases e
  exact ec
theorem J.new {sb g b : Nat} {v : Value} {base top rg rb size : Nat} {l : Scr} {H : List UInt8} {i p t taken : Nat} {a : Option Addr} {cap : Nat} {hv : Value} {W : World} (h : J sb g b v base top rg rb size l H i p t taken a cap hv W) (L : Lie g b base top rg rb size l) : ∀ j, W.heap.size ≤ j → Nd base top rg rb hv j := fun j hj => by
  have h1 := h.doc.lt
  have h2 := L.gr
  have h3 := L.tb
  exact ⟨by omega, by omega, fun e => by have := (h.doc.row.lt j e.symm).2; omega, .inr (by omega)⟩
/-- What a call of the program leaves of the document's. -/
theorem J.prog {sb g b : Nat} {v : Value} {base top rg rb size : Nat} {l : Scr} {H : List UInt8} {i p t taken : Nat} {a : Option Addr} {cap : Nat} {hv : Value} {w W : World} (h : J sb g b v base top rg rb size l H i p t taken a cap hv w) (L : Lie g b base top rg rb size l) (hk : KeepP (fun j => j = g ∨ j = b ∨ w.heap.size ≤ j) w W) : RB v base top rg rb size l H i p t taken hv W := by
  have h1 := h.doc.lt
  have h2 := L.gr
  have h3 := L.tb
  have h4 := L.gb
  have h5 := L.bg
  have h6 := L.bb
  refine h.doc.keep hk ?_ ?_ (fun k hk => ?_) (fun k h1 h2 => ?_)
  · show ¬ (_ ∨ _ ∨ _); omega
  · show ¬ (_ ∨ _ ∨ _); omega
  · have := h.doc.row.lt k hk
    show ¬ (_ ∨ _ ∨ _); omega
  · show ¬ (_ ∨ _ ∨ _); omega
/-- What a call of the document's leaves of the program's. -/
theorem J.both {sb g b : Nat} {v : Value} {base top rg rb size : Nat} {l : Scr} {H : List UInt8} {i p t taken : Nat} {hv hv' hp : Value} {d : Value} {w W : World} (L : Lie g b base top rg rb size l) (hrow : ∀ k, hv.ownBlock = some k → rb < k)
    (hI : Inv l i p t) (hS : Src sb w g (reach l) i p t) (hB : BufAt w b g size taken hp) (hP : HasP (fun j => j ≠ g ∧ j ≠ b ∧ Nd base top rg rb hv j ∧ some j ≠ d.ownBlock) w hp H) (hr : H.length ≤ size) (ht : taken + H.length = t)
    (hk : KB rg rb hv w W) (hm : Moved w hv hv') (hD : RB v base top rg rb size l H i p t taken hv' W) (W' : World) (hg : W.grownBy W' d.ownBlock) (hd : ∀ k, d.ownBlock = some k → rb < k ∧ hv'.ownBlock ≠ some k) :
    ∃ a cap, J sb g b v base top rg rb size l H i p t taken a cap hv' W' := by
  have h2 := L.gr
  have h3 := L.tb
  have h4 := L.gb
  have h5 := L.bg
  obtain ⟨a, cap, rfl, _, _⟩ := id hP
  refine ⟨a, cap, hI, ?_, ?_, ?_, ?_, hr, ht⟩
  · refine Src.kept (Src.keep hS hk (fun k hk hx => ?_)) hg (fun k e => ⟨by have := (hd k e).1; omega, .inr (by have := (hd k e).1; omega)⟩)
    rcases hx with e | e | e
    · omega
    · omega
    · have := hrow k e.symm; omega
  · have hlt := Blk.lt hB
    have : BufAt W b g size taken (.slice a H.length cap) := (hk.block b hlt (fun hx => by
      rcases hx with e | e | e
      · omega
      · omega
      · have := hrow b e.symm; omega)).trans hB
    exact (hg.block b (Blk.lt this) (fun e => by have := (hd b e.symm).1; omega)).trans this
  · have h9 : HasP (fun j => j ≠ g ∧ j ≠ b ∧ Nd base top rg rb hv' j ∧ some j ≠ d.ownBlock) W (.slice a H.length cap) H := hP.keep hk (fun j hj hx => by
      obtain ⟨j1, j2, ⟨j3, j4, j5, j6⟩, j7⟩ := hj
      rcases hx with e | e | e
      · exact j3 e
      · exact j4 e
      · exact j5 e) (fun j hlt hj => by
      obtain ⟨j1, j2, ⟨j3, j4, j5, j6⟩, j7⟩ := hj
      refine ⟨j1, j2, ⟨j3, j4, fun e => ?_, j6⟩, j7⟩
      rcases hm j e.symm with e' | e'
      · exact j5 e'.symm
      · omega)
    exact HasP.than (HasP.below h9 hg (fun j e hx => hx.2.2.2 e.symm)) (fun j hj _ => ⟨hj.1, hj.2.1, hj.2.2.1⟩)
  · refine ⟨RSu.kept hD.src hg (fun k e => ⟨by have := (hd k e).1; omega, .inr (by have := (hd k e).1; omega)⟩), (hg.block rb (Blk.lt hD.buf) (fun e => by have := (hd rb e.symm).1; omega)).trans hD.buf, hD.row.kept hg ?_⟩
    cases hk : hv'.ownBlock with
    | none => exact .inl rfl
    | some k => exact .inr (fun e => (hd k e.symm).2 hk)
theorem J.below {sb g b : Nat} {v : Value} {base top rg rb size : Nat} {l : Scr} {H : List UInt8} {i p t taken : Nat} {a : Option Addr} {cap : Nat} {hv : Value} {W W' : World} (h : J sb g b v base top rg rb size l H i p t taken a cap hv W) (hb : Below W.heap.size W W') : J sb g b v base top rg rb size l H i p t taken a cap hv W' :=
  ⟨h.inv, C.Src.below h.src hb, Blk.below h.buf hb, HasP.below h.held (grown_below (row := none) hb) (fun _ e => by cases e), h.doc.below hb, h.room, h.told⟩
/-- **One call of both, and what it told compared**: both stand alike again. -/
theorem J.step {sb g b : Nat} {v : Value} {base top rg rb size : Nat} {l : Scr} {H : List UInt8} {i p t taken : Nat} {a : Option Addr} {cap : Nat} {hv : Value} {w W1 W2 W3 : World} (h : J sb g b v base top rg rb size l H i p t taken a cap hv w) (L : Lie g b base top rg rb size l)
    {H' : List UInt8} {i' p' t' taken' : Nat} {hp hv' d : Value} (hI : Inv l i' p' t') (hS : Src sb W1 g (reach l) i' p' t') (hB : BufAt W1 b g size taken' hp) (hP : HasP (fun j => j ≠ g ∧ j ≠ b ∧ Nd base top rg rb hv j ∧ some j ≠ d.ownBlock) W1 hp H') (hr : H'.length ≤ size) (ht : taken' + H'.length = t')
    (hk1 : KeepP (fun j => j = g ∨ j = b ∨ w.heap.size ≤ j) w W1) (hod : ∀ k, d.ownBlock = some k → w.heap.size ≤ k ∧ k < W1.heap.size) (hk : KB rg rb hv W1 W2) (hm : Moved W1 hv hv') (hD : RB v base top rg rb size l H' i' p' t' taken' hv' W2) (hg : W2.grownBy W3 d.ownBlock) :
    (∃ (H' : List UInt8) (i' p' t' taken' : Nat) (a : Option Addr) (cap : Nat) (hv' : Value), J sb g b v base top rg rb size l H' i' p' t' taken' a cap hv' W3) ∧ KeepP (fun j => g ≤ j) w W3 := by
  have h1 := h.doc.lt
  have h2 := L.gr
  have h3 := L.gb
  have h4 := L.bg
  have hrow : ∀ k, hv.ownBlock = some k → rb < k ∧ k < w.heap.size := fun k e => ⟨(h.doc.row.lt k e).1, (h.doc.row.lt k e).2⟩
  constructor
  · obtain ⟨a', cap', hJ⟩ := J.both (hv := hv) L (fun k e => (hrow k e).1) hI hS hB hP hr ht hk hm hD W3 hg (fun k e => ⟨by have := (hod k e).1; omega, fun e' => by
      rcases hm k e' with e2 | e2
      · have := (hrow k e2).2; have := (hod k e).1; omega
      · have := (hod k e).2; omega⟩)
    exact ⟨H', i', p', t', taken', a', cap', hv', hJ⟩
  · have z1 := hk1.size
    have z2 := hk.size
    refine ⟨hg.os.trans (hk.os.trans hk1.os), hg.tape.trans (hk.tape.trans hk1.tape), hg.output.trans (hk.output.trans hk1.output), Nat.le_trans (Nat.le_trans z1 z2) hg.size, fun k hlt hn => ?_⟩
    have hn' : k < g := Nat.lt_of_not_le hn
    refine (hg.block k (by omega) (fun e => by have := (hod k e.symm).1; omega)).trans ((hk.block k (by omega) (fun hx => ?_)).trans (hk1.block k hlt (by show ¬ (_ ∨ _ ∨ _); omega)))
    rcases hx with e | e | e
    · omega
    · omega
    · have := (hrow k e.symm).1; omega
end Go.Proofs.Ytkpjmcoihbebkaa.CInv
