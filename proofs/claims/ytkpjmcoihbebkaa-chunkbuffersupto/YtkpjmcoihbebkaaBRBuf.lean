/- What is proved here: the document's buffer in memory (sieveref02.Buffer); its fill: one read more. -/
import Derived.Deep.RegionHeld3
import Derived.Test.YtkpjmcoihbebkaaBun7
import Derived.Test.YtkpjmcoihbebkaaCBuf
import Derived.Test.YtkpjmcoihbebkaaBun5
import Derived.Test.YtkpjmcoihbebkaaBun6
import Derived.Test.YtkpjmcoihbebkaaCPeek
import Derived.Test.YtkpjmcoihbebkaaCFill
import Derived.Test.YtkpjmcoihbebkaaCSt
namespace Go.Proofs.Ytkpjmcoihbebkaa.CInv
open Go.RowKit C

/-- **A row is appended to a row of one's own**: where the new one lies. -/
theorem append_ownB {w : World} {ops : Array Oper} {rest : List Oper} {o : Oper} {a : Act} {Q : Exit → Act → World → Prop} (hgd : o.guard = none) (s x : Operand)
    (ho : o.op = .call { callee := .builtin .append, args := #[s, x], argTypes := #[39, 39] }) (s0 : Nat) (v : Value) (H : List UInt8) (hs : a.eval s = v) (hown : w.ownsRow s0 5 1 v H.length (bvs H))
    (xv : Value) (X : List UInt8) (hx : a.eval x = xv) (base : Nat) (hX : w.ownsRow base 5 1 xv X.length (bvs X)) (hs0 : s0 ≤ w.heap.size) (hl : H.length + X.length ≤ 100000000000000)
    (h : ∀ v' w', w'.ownsRow s0 5 1 v' (H ++ X).length (bvs (H ++ X)) → w.grownBy w' v.ownBlock → (v'.ownBlock = v.ownBlock ∨ v'.ownBlock = some w.heap.size) → wpList Try.prog ops Q rest (a.put o.dst v') w') : wpList Try.prog ops Q (o :: rest) a w := by
  obtain ⟨i0, hi, hz0, hz1, hz2⟩ := info_parts infoByte
  have hbv : bvs (H ++ X) = bvs H ++ bvs X := by simp [bvs]
  have key : ∀ ad m c, xv = .slice (some ad) m c → m = X.length ∧ ∀ j u, (bvs X)[j]? = some u → w.cell? (ad.add j) = some u := fun ad m c e => by
    rcases hX.2 with ⟨e', e0⟩ | ⟨g, cap, cur, e', _⟩
    · rw [e] at e'; cases e'
    · have hX' := hX
      rw [e'] at hX'
      rw [e] at e'
      cases e'
      refine ⟨rfl, fun j u hu => ?_⟩
      have hj : j < (bvs X).length := (List.getElem?_eq_some_iff.1 hu).1
      rw [bvs_length] at hj
      rw [add_none, Nat.zero_add, hX'.cellAt j (by omega)]
      exact hu
  obtain ⟨ax, cx, hxv⟩ := owns_slice hX
  cases ax with
  | none =>
    rcases hX.2 with ⟨e', e0⟩ | ⟨g, cap, cur, e', _⟩
    · have e1 : X = [] := List.length_eq_zero_iff.1 e0
      subst e1
      exact wpList_append_own_none hgd s x _ ho s0 _ i0 1 Try.underlying39 hi v _ _ hs hown (hx.trans e') (h v w (by simpa [bvs] using hown) (World.grownBy.refl _ _) (.inl rfl))
    · rw [hxv] at e'; cases e'
  | some ad =>
    obtain ⟨_, hc⟩ := key ad _ _ hxv
    exact wpList_append_own_at w hgd s x _ ho s0 _ i0 (.int .u8 0) 1 1 Try.underlying39 hi hz0 hz1 hz2 rfl (by decide) v _ _ hs hown ad X.length cx (bvs X) (hx.trans hxv) (by rw [bvs_length]; omega) hc (bvs_one X) (by unfold maxLen; omega) (by omega) hs0 (fun v' w' r1 r2 _ r4 => h v' w' (by rw [List.length_append, hbv]; exact r1) r2 r4)
/-- The document's buffer in memory. -/
structure RB (v : Value) (base top rg rb size : Nat) (l : Scr) (H : List UInt8) (i p t taken : Nat) (hv : Value) (W : World) : Prop where
  src : RSu v base top W rg l i p t
  buf : Blk W rb #[.pointer (some ⟨rg, 0, none⟩), .int .i64 size, hv, .int .i64 taken] 41
  row : W.ownsRow (rb + 1) 5 1 hv H.length (bvs H)
/-- Which blocks a call of it may turn. -/
abbrev KB (rg rb : Nat) (hv : Value) (w W : World) : Prop := KeepP (fun j => j = rg ∨ j = rb ∨ some j = hv.ownBlock) w W
/-- Where its row may lie then. -/
def Moved (w : World) (hv hv' : Value) : Prop := ∀ k, hv'.ownBlock = some k → hv.ownBlock = some k ∨ w.heap.size ≤ k
theorem Moved.refl (w : World) (hv : Value) : Moved w hv hv := fun _ h => .inl h
theorem Moved.trans {w W : World} {a b c : Value} (h : Moved w a b) (hz : w.heap.size ≤ W.heap.size) (h' : Moved W b c) : Moved w a c := fun k hk => by
  rcases h' k hk with e | e
  · exact h k e
  · exact .inr (Nat.le_trans hz e)
theorem KB.trans {rg rb : Nat} {a b : Value} {A B C : World} (h : KB rg rb a A B) (hm : Moved A a b) (h' : KB rg rb b B C) : KB rg rb a A C :=
  ⟨h'.os.trans h.os, h'.tape.trans h.tape, h'.output.trans h.output, Nat.le_trans h.size h'.size, fun k hk hn => (h'.block k (Nat.lt_of_lt_of_le hk h.size) (fun hx => hn (by
    rcases hx with e | e | e
    · exact .inl e
    · exact .inr (.inl e)
    · rcases hm k e.symm with e' | e'
      · exact .inr (.inr e'.symm)
      · omega))).trans (h.block k hk hn)⟩
theorem RB.lt {v : Value} {base top rg rb size : Nat} {l : Scr} {H : List UInt8} {i p t taken : Nat} {hv : Value} {W : World} (h : RB v base top rg rb size l H i p t taken hv W) : rb < W.heap.size := Blk.lt h.buf
theorem KB.below {rg rb : Nat} {hv : Value} {w W : World} (h : Below w.heap.size w W) : KB rg rb hv w W := ⟨h.os, h.tape, h.output, h.size, fun k hk _ => h.block k hk⟩
theorem RB.below {v : Value} {base top rg rb size : Nat} {l : Scr} {H : List UInt8} {i p t taken : Nat} {hv : Value} {W W' : World} (h : RB v base top rg rb size l H i p t taken hv W) (hb : Below W.heap.size W W') : RB v base top rg rb size l H i p t taken hv W' :=
  ⟨RSu.kept h.src (grown_below (row := none) hb) (fun _ e => by cases e), (hb.block rb (Blk.lt h.buf)).trans h.buf, C.owns_below h.row hb⟩
/-- What a fill answers, and leaves. -/
def RFill (v : Value) (base top rg rb size : Nat) (l : Scr) (H : List UInt8) (i p t taken em : Nat) (hv : Value) (w : World) (e : Ending) (W : World) : Prop :=
  ∃ (hv' : Value) (s : FS) (E : Int), e = .returned (.tuple #[.int .i64 (s.2.2.2.2 : Nat), .int .i64 E]) ∧ RB v base top rg rb size l s.1 s.2.1 s.2.2.1 s.2.2.2.1 taken hv' W ∧ KB rg rb hv w W ∧ Moved w hv hv' ∧
    ((em = 100 ∧ E = 22 ∧ s = (H, i, p, t, em)) ∨ (em ≠ 100 ∧ rdE l i p ≠ 0 ∧ E = rdE l i p ∧ s = (H, i, p, t, em)) ∨ (em ≠ 100 ∧ rdE l i p = 0 ∧ E = 0 ∧ s = nextFS size l (H, i, p, t, em)))

set_option maxRecDepth 100000 in
set_option maxHeartbeats 4000000 in
/-- **The document's fill.** -/
theorem rfill_calls (v : Value) (base top rg rb size : Nat) (l : Scr) (H : List UInt8) (i p t taken em : Nat) (hv : Value) (w : World) (h : RB v base top rg rb size l H i p t taken hv w) (hI : Inv l i p t) (hem : em ≤ 100) (hsz : H.length < size) (hsize : size ≤ 16777216) (hbd : (bytesOf l).1.length ≤ 16777216) (hll : l.length ≤ 16777216) (hd : ∀ x ∈ l, x.1.length ≤ 100000000000000) (hgb : rg < rb) (htb : top ≤ rb) :
    Calls Try.prog 33 #[.pointer (some ⟨rb, 0, none⟩), .int .i64 em] w (RFill v base top rg rb size l H i p t taken em hv w) := by
  obtain ⟨ha, hc, rfl⟩ := C.owns_slice h.row
  by_cases hem1 : em = 100
  · subst hem1
    have HR : Hid (RB v base top rg rb size l H i p t taken (.slice ha H.length hc) w) := h
    clear h hI
    go_enter Try.func33, Try.ntmps33
    go_wp2
    go_ret2
    exact ⟨_, (H, i, p, t, 100), 22, rfl, HR.out, KeepP.refl _ _, Moved.refl _ _, .inl ⟨rfl, rfl, rfl⟩⟩
  · have te : ((em : Int) == 100) = false := by simp; omega
    have cb0 : w.cell? ⟨rb, 0, none⟩ = some (.pointer (some ⟨rg, 0, none⟩)) := Blk.cell h.buf 0
    have cb1 : w.cell? ⟨rb, 1, none⟩ = some (.int .i64 size) := Blk.cell h.buf 1
    have cb2 : w.cell? ⟨rb, 2, none⟩ = some (.slice ha H.length hc) := Blk.cell h.buf 2
    obtain ⟨n, hn⟩ : ∃ n : Nat, size - H.length = n := ⟨_, rfl⟩
    have hn1 : 1 ≤ n := by omega
    have HSUB : Hid ((size : Int) - (H.length : Int) = (n : Int)) := by show _ = _; omega
    have hwr : IntKind.i64.wrap ((size : Int) - (H.length : Int)) = (n : Int) := by rw [IntKind.wrap_i64]; omega
    have hpl1 : ∀ h : i < l.length, p ≤ l[i].1.length := fun h => by
      rcases hI.cases with ⟨h1, h2, e⟩ | ⟨h1, _⟩
      · rw [e]; exact hI.part_le h1
      · omega
    have RC : Hid (∀ W2, Below w.heap.size w W2 → Calls Try.prog 39 #[.pointer (some ⟨rg, 0, none⟩), .int .i64 n] W2 fun e W' => ∃ d, e = .returned (.tuple #[d, .int .i64 (rdE l i p)]) ∧ W'.ownsRow W2.heap.size 5 1 d (rdX l i p n).length (bvs (rdX l i p n)) ∧ RSu v base top W' rg l (rdN l i p n).1 (rdN l i p n).2 (t + rdK l i p n) ∧ W2.grownBy W' (some rg)) := fun W2 hb2 => by
      have hs2 := (h.below hb2).src
      refine (rdread_calls W2 rg l i p t n hs2.1 hn1 hI.le_l hpl1 hd (by have := told_le hI; omega) (by omega) (by omega)).mono ?_
      rintro e W' ⟨d, h1, h2, h3, h4⟩
      exact ⟨d, h1, h2, hs2.read h3 h4, h4⟩
    have HR : Hid (RB v base top rg rb size l H i p t taken (.slice ha H.length hc) w) := h
    have hrl := h.lt
    have HN : Hid (size - H.length = n) := hn
    have hKle : rdK l i p n ≤ n := by unfold rdK; split <;> omega
    clear h hI hn hpl1
    go_enter Try.func33, Try.ntmps33
    go_wp2_with fail
    go_region_held3 (fun w' => w'.cell? ⟨rb, 0, none⟩ = some (.pointer (some ⟨rg, 0, none⟩)) ∧ w'.cell? ⟨rb, 1, none⟩ = some (.int .i64 size) ∧ w'.cell? ⟨rb, 2, none⟩ = some (.slice ha H.length hc)) (first | exact ⟨cb0, cb1, cb2⟩ | exact ⟨d0, d1, d2⟩ | go_keep) (first
      | (go_at_call 39; refine (RC.out _ (Below.refl _ _).drew).mono ?_; rintro e w2 ⟨d, rfl, ho2, hS2, hg2⟩; have d0 : w2.cell? ⟨rb, 0, none⟩ = some (.pointer (some ⟨rg, 0, none⟩)) := hg2.cell cb0 (by simp; omega); have d1 : w2.cell? ⟨rb, 1, none⟩ = some (.int .i64 size) := hg2.cell cb1 (by simp; omega); have d2 : w2.cell? ⟨rb, 2, none⟩ = some (.slice ha H.length hc) := hg2.cell cb2 (by simp; omega)))
    have hg2' : w.grownBy w2 (some rg) := ⟨hg2.os, hg2.tape, hg2.output, hg2.size, hg2.block⟩
    have hz2 := hg2'.size
    obtain ⟨R1, R2, R3⟩ := HR.out
    have hrowne : ∀ k, (Value.slice ha H.length hc).ownBlock = some k → rb + 1 ≤ k ∧ k < w.heap.size := fun k hk => ⟨(R3.lt k hk).1, (R3.lt k hk).2⟩
    have HRow2 : Hid (w2.ownsRow (rb + 1) 5 1 (.slice ha H.length hc) H.length (bvs H)) := by
      refine R3.kept hg2' ?_
      cases hk : (Value.slice ha H.length hc).ownBlock with
      | none => exact .inl rfl
      | some k => exact .inr (fun e => by cases e; have := hrowne rg hk; omega)
    have HBuf2 : Hid (Blk w2 rb #[.pointer (some ⟨rg, 0, none⟩), .int .i64 size, .slice ha H.length hc, .int .i64 taken] 41) := (hg2'.block rb hrl (by simp; omega)).trans R2
    obtain ⟨da, dc, rfl⟩ := C.owns_slice ho2
    by_cases he : rdE l i p = 0
    · obtain ⟨X, hX⟩ : ∃ X, rdX l i p n = X := ⟨_, rfl⟩
      have hXl : Hid (X.length = rdK l i p n) := by show _ = _; rw [← hX]; exact rdX_length l i p n
      rw [hX] at ho2
      have HS : Hid ((H ++ X, (rdN l i p n).1, (rdN l i p n).2, t + rdK l i p n, if X.length = 0 then em + 1 else 0) = nextFS size l (H, i, p, t, em)) := by
        show _ = _
        unfold nextFS
        simp only [HN.out, hX, hXl.out]
      have HS2 : Hid (RSu v base top w2 rg l (rdN l i p n).1 (rdN l i p n).2 (t + rdK l i p n)) := hS2
      obtain ⟨xl, hxl⟩ : ∃ xl, X.length = xl := ⟨_, rfl⟩
      have HXL : Hid (X.length = xl) := hxl
      have ho2' := ho2
      rw [hX, hxl]
      have HO2 : Hid (w2.ownsRow w.drew.heap.size 5 1 (.slice da xl dc) X.length (bvs X)) := by rw [← hxl]; exact ho2
      have hxb : xl ≤ 16777216 := by have := hXl.out; have := HXL.out; have := HN.out; omega
      have tE : (rdE l i p != 0) = false := by rw [he]; rfl
      have hwe : IntKind.i64.wrap ((em : Int) + 1) = (em : Int) + 1 := by rw [IntKind.wrap_i64]; omega
      have hg2a : Hid (w.grownBy w2 (some rg)) := hg2'
      clear hS2 ho2 ho2' hX hxl hg2 hg2' hwr
      rw [he]
      by_cases hx0 : xl = 0
      · have tx : ((xl : Int) == 0) = true := by rw [hx0]; rfl
        have HX0 : Hid (X.length = 0) := HXL.out.trans hx0
        clear hx0
        go_wp2_with (
          at_builtin
          refine append_ownB rfl _ _ rfl (rb + 1) (.slice ha H.length hc) H rfl HRow2.out (.slice da xl dc) X rfl _ HO2.out (by omega) (by have := HXL.out; omega) ?_
          intro v3 w3 ho3 hg3 hob
          have HB3 : Hid (Blk w3 rb #[.pointer (some ⟨rg, 0, none⟩), .int .i64 size, .slice ha H.length hc, .int .i64 taken] 41) := (hg3.block rb (by omega) (fun e => by have := hrowne rb e.symm; omega)).trans HBuf2.out
          have f3 : w3.frozen? ⟨rb, 2, none⟩ = false := Blk.frozen HB3.out 2
          have c3 : w3.cell? ⟨rb, 2, none⟩ = some (.slice ha H.length hc) := Blk.cell HB3.out 2
          obtain ⟨a3, cc3, rfl⟩ := C.owns_slice ho3
          have FIN : Hid (∀ em2 : Nat, em2 = (if X.length = 0 then em + 1 else 0) → RFill v base top rg rb size l H i p t taken em (.slice ha H.length hc) w (.returned (.tuple #[.int .i64 em2, .int .i64 0])) (w3.setCell ⟨rb, 2, none⟩ (.slice a3 (H ++ X).length cc3))) := fun em2 hem2 => by
            have hg4 := grown_set w3 rb 2 (.slice a3 (H ++ X).length cc3)
            have k12 : KB rg rb (.slice ha H.length hc) w w3 := ⟨hg3.os.trans hg2a.out.os, hg3.tape.trans hg2a.out.tape, hg3.output.trans hg2a.out.output, Nat.le_trans hz2 hg3.size, fun k hk hn => (hg3.block k (by omega) (fun e => hn (.inr (.inr e)))).trans (hg2a.out.block k hk (fun e => hn (.inl (by cases e; rfl))))⟩
            refine ⟨.slice a3 (H ++ X).length cc3, (H ++ X, (rdN l i p n).1, (rdN l i p n).2, t + rdK l i p n, em2), 0, rfl, ⟨?_, ?_, ?_⟩, ?_, ?_, .inr (.inr ⟨hem1, he, rfl, ?_⟩)⟩
            · exact RSu.kept (RSu.kept HS2.out hg3 (fun k e => by have := hrowne k e; exact ⟨by omega, .inr (by omega)⟩)) hg4 (fun k e => by cases e; exact ⟨by omega, .inr htb⟩)
            · exact Blk.set HB3.out 2 (.slice a3 (H ++ X).length cc3)
            · exact own_kept ho3 hg4 (fun j e => by cases e; omega)
            · exact ⟨hg4.os.trans k12.os, hg4.tape.trans k12.tape, hg4.output.trans k12.output, Nat.le_trans k12.size hg4.size, fun k hk hn => (hg4.block k (Nat.lt_of_lt_of_le hk k12.size) (fun e => hn (.inr (.inl (by cases e; rfl))))).trans (k12.block k hk hn)⟩
            · intro k hk
              rcases hob with e | e
              · exact .inl (e.symm.trans hk)
              · rw [hk] at e; cases e; exact .inr hz2
            · rw [hem2]; exact HS.out)
        go_ret2
        have h9 := FIN.out (em + 1) (by rw [if_pos HX0.out])
        rw [List.length_append] at h9
        exact h9
      · have tx : ((xl : Int) == 0) = false := by simpa using hx0
        have HX0 : Hid (¬ X.length = 0) := by show ¬ _; rw [HXL.out]; exact hx0
        clear hx0
        go_wp2_with (
          at_builtin
          refine append_ownB rfl _ _ rfl (rb + 1) (.slice ha H.length hc) H rfl HRow2.out (.slice da xl dc) X rfl _ HO2.out (by omega) (by have := HXL.out; omega) ?_
          intro v3 w3 ho3 hg3 hob
          have HB3 : Hid (Blk w3 rb #[.pointer (some ⟨rg, 0, none⟩), .int .i64 size, .slice ha H.length hc, .int .i64 taken] 41) := (hg3.block rb (by omega) (fun e => by have := hrowne rb e.symm; omega)).trans HBuf2.out
          have f3 : w3.frozen? ⟨rb, 2, none⟩ = false := Blk.frozen HB3.out 2
          have c3 : w3.cell? ⟨rb, 2, none⟩ = some (.slice ha H.length hc) := Blk.cell HB3.out 2
          obtain ⟨a3, cc3, rfl⟩ := C.owns_slice ho3
          have FIN : Hid (∀ em2 : Nat, em2 = (if X.length = 0 then em + 1 else 0) → RFill v base top rg rb size l H i p t taken em (.slice ha H.length hc) w (.returned (.tuple #[.int .i64 em2, .int .i64 0])) (w3.setCell ⟨rb, 2, none⟩ (.slice a3 (H ++ X).length cc3))) := fun em2 hem2 => by
            have hg4 := grown_set w3 rb 2 (.slice a3 (H ++ X).length cc3)
            have k12 : KB rg rb (.slice ha H.length hc) w w3 := ⟨hg3.os.trans hg2a.out.os, hg3.tape.trans hg2a.out.tape, hg3.output.trans hg2a.out.output, Nat.le_trans hz2 hg3.size, fun k hk hn => (hg3.block k (by omega) (fun e => hn (.inr (.inr e)))).trans (hg2a.out.block k hk (fun e => hn (.inl (by cases e; rfl))))⟩
            refine ⟨.slice a3 (H ++ X).length cc3, (H ++ X, (rdN l i p n).1, (rdN l i p n).2, t + rdK l i p n, em2), 0, rfl, ⟨?_, ?_, ?_⟩, ?_, ?_, .inr (.inr ⟨hem1, he, rfl, ?_⟩)⟩
            · exact RSu.kept (RSu.kept HS2.out hg3 (fun k e => by have := hrowne k e; exact ⟨by omega, .inr (by omega)⟩)) hg4 (fun k e => by cases e; exact ⟨by omega, .inr htb⟩)
            · exact Blk.set HB3.out 2 (.slice a3 (H ++ X).length cc3)
            · exact own_kept ho3 hg4 (fun j e => by cases e; omega)
            · exact ⟨hg4.os.trans k12.os, hg4.tape.trans k12.tape, hg4.output.trans k12.output, Nat.le_trans k12.size hg4.size, fun k hk hn => (hg4.block k (Nat.lt_of_lt_of_le hk k12.size) (fun e => hn (.inr (.inl (by cases e; rfl))))).trans (k12.block k hk hn)⟩
            · intro k hk
              rcases hob with e | e
              · exact .inl (e.symm.trans hk)
              · rw [hk] at e; cases e; exact .inr hz2
            · rw [hem2]; exact HS.out)
        go_ret2
        have h9 := FIN.out 0 (by rw [if_neg HX0.out])
        rw [List.length_append] at h9
        exact h9
    · have te2 : (rdE l i p != 0) = true := by simpa using he
      go_wp2
      go_ret2
      have e1 := rdE_stays l i p n he
      have e2 := rdK_none l i p n he
      rw [e1.1, e1.2, e2, Nat.add_zero] at hS2
      exact ⟨_, (H, i, p, t, em), rdE l i p, rfl, ⟨hS2, HBuf2.out, HRow2.out⟩, ⟨hg2'.os, hg2'.tape, hg2'.output, hz2, fun k hk hn => hg2'.block k hk (fun e => hn (.inl (by cases e; rfl)))⟩, Moved.refl _ _, .inr (.inl ⟨hem1, he, rfl, rfl⟩)⟩
end Go.Proofs.Ytkpjmcoihbebkaa.CInv
