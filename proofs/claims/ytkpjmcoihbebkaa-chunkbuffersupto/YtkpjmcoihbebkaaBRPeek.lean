/- What is proved here: the document's buffer: Peek, take, Take, with the path of their reads. -/
import Derived.Test.YtkpjmcoihbebkaaBRBuf
import Derived.Test.YtkpjmcoihbebkaaBFill
import Derived.Test.YtkpjmcoihbebkaaBun7
namespace Go.Proofs.Ytkpjmcoihbebkaa.CInv
open Go.RowKit C

theorem hasP_owns {W : World} {base : Nat} {a : Option Addr} {cap : Nat} {H : List UInt8} (h : W.ownsRow base 5 1 (.slice a H.length cap) H.length (bvs H)) : HasP (fun _ => True) W (.slice a H.length cap) H := by
  rcases h.2 with ⟨e, e0⟩ | ⟨g, cap', cur, e, _, hg, hle, _⟩
  · simp only [Value.slice.injEq] at e
    exact ⟨a, cap, rfl, by omega, fun _ => e0, fun ad e' => by rw [e.1] at e'; cases e'⟩
  · simp only [Value.slice.injEq] at e
    obtain ⟨rfl, _, rfl⟩ := e
    refine ⟨_, cap, rfl, hle, (fun e' => by cases e'), fun ad e' j u hu => ?_⟩
    cases e'
    refine ⟨?_, trivial⟩
    have hj : j < H.length := by have := (List.getElem?_eq_some_iff.1 hu).1; simpa [bvs] using this
    rw [C.add_none, Nat.zero_add, h.cellAt j (by omega)]
    exact hu
theorem byt_take {W : World} {base : Nat} {a : Option Addr} {cap : Nat} {H : List UInt8} (h : W.ownsRow base 5 1 (.slice a H.length cap) H.length (bvs H)) (k : Nat) (hk : k ≤ H.length) : Byt W (.slice a k cap) (H.take k) := by
  have hP := hasP_owns h
  have hle : H.length ≤ cap := by obtain ⟨_, _, e, ec, _⟩ := hP; cases e; exact ec
  refine ⟨hP.take k cap hk (by omega), ?_⟩
  rcases h.2 with ⟨e, e0⟩ | ⟨g, cap', cur, e, _⟩
  · simp only [Value.slice.injEq] at e
    left
    rw [e.1, e.2.2, show k = 0 by omega]
  · simp only [Value.slice.injEq] at e
    right
    exact ⟨_, _, _, by rw [e.1]⟩
/-- What Peek answers, and leaves. -/
def RPeek (ok : List UInt8 → Bool) (v : Value) (base top rg rb size : Nat) (l : Scr) (H : List UInt8) (i p t taken : Nat) (hv : Value) (w : World) (hv' : Value) (s : FS) (E : Int) (W : World) : Prop :=
  RB v base top rg rb size l s.1 s.2.1 s.2.2.1 s.2.2.2.1 taken hv' W ∧ Inv l s.2.1 s.2.2.1 s.2.2.2.1 ∧ s.1.length ≤ size ∧ KB rg rb hv w W ∧ Moved w hv hv' ∧ Path ok size l (H, i, p, t, 0) s ∧ Fin ok size l s E
/-- How a Peek ends. -/
def RPEnd (need : Nat) (v : Value) (base top rg rb size : Nat) (l : Scr) (H : List UInt8) (i p t taken : Nat) (hv : Value) (w : World) (e : Ending) (W : World) : Prop :=
  ∃ d hv' s E bd, e = .returned (.tuple #[d, .int .i64 E]) ∧ W.ownsRow bd 5 1 d (s.1.take need).length (bvs (s.1.take need)) ∧ w.heap.size ≤ bd ∧ (∀ k, Value.ownBlock hv' = some k → k < bd) ∧ RPeek (okP need) v base top rg rb size l H i p t taken hv w hv' s E W
theorem nextFS_len (size : Nat) (l : Scr) (s : FS) (h : s.1.length ≤ size) : (nextFS size l s).1.length ≤ size := by
  unfold nextFS
  simp only [List.length_append, rdX_length]
  have : rdK l s.2.1 s.2.2.1 (size - s.1.length) ≤ size - s.1.length := by unfold rdK; split <;> omega
  omega
set_option maxRecDepth 100000 in
set_option maxHeartbeats 4000000 in
/-- **The document's Peek.** -/
theorem rpeek_calls (v : Value) (base top rg rb size need : Nat) (l : Scr) (H : List UInt8) (i p t taken : Nat) (hv : Value) (w : World) (h : RB v base top rg rb size l H i p t taken hv w) (hI : Inv l i p t) (hsz : H.length ≤ size) (hneed : need ≤ size) (hsize : size ≤ 16777216) (hbd : (bytesOf l).1.length ≤ 16777216) (hll : l.length ≤ 16777216) (hd : ∀ x ∈ l, x.1.length ≤ 100000000000000) (hgb : rg < rb) (htb : top ≤ rb) :
    Calls Try.prog 22 #[.pointer (some ⟨rb, 0, none⟩), .int .i64 need] w (RPEnd need v base top rg rb size l H i p t taken hv w) := by
  have HR : Hid (RB v base top rg rb size l H i p t taken hv w) := h
  have HI : Hid (Inv l i p t) := hI
  clear h hI
  go_enter Try.func22, Try.ntmps22
  go_wp2
  go_loopw [6, 7] (fun ve vE wr => ∃ (s : FS) (E : Int) (hv' : Value), ve = .int .i64 (s.2.2.2.2 : Nat) ∧ vE = .int .i64 E ∧ s.2.2.2.2 ≤ 100 ∧ Hid (RB v base top rg rb size l s.1 s.2.1 s.2.2.1 s.2.2.2.1 taken hv' wr ∧ Inv l s.2.1 s.2.2.1 s.2.2.2.1 ∧ s.1.length ≤ size ∧ KB rg rb hv w wr ∧ Moved w hv hv' ∧ Path (okP need) size l (H, i, p, t, 0) s ∧ (E ≠ 0 → Fin (okP need) size l s E)))
    (fun _ vE wr => 2 * (sizeS l l.length + l.length - (intOf ((wr.cell? ⟨rg, 1, none⟩).getD (.int .i64 0))).toNat - (intOf ((wr.cell? ⟨rg, 3, none⟩).getD (.int .i64 0))).toNat) + (if intOf vE = 0 then 1 else 0))
  case atStart => exact ⟨(H, i, p, t, 0), 0, hv, rfl, rfl, by simp, HR.out, HI.out, hsz, KeepP.refl _ _, Moved.refl _ _, Path.refl, fun h => absurd rfl h⟩
  case round =>
    obtain ⟨s, E, hv', rfl, rfl, hem, hst⟩ := hrel
    obtain ⟨H1, i1, p1, t1, em1⟩ := s
    simp only at hem hst
    obtain ⟨ha, hc, rfl⟩ := C.owns_slice hst.out.1.row
    have cb2 : wr.cell? ⟨rb, 2, none⟩ = some (.slice ha H1.length hc) := Blk.cell hst.out.1.buf 2
    by_cases hgo : H1.length < need ∧ E = 0
    · obtain ⟨hlt, hE0⟩ := hgo
      subst hE0
      have l1 : decide ((H1.length : Int) < (need : Int)) = true := by rw [decide_eq_true_eq]; omega
      have FC : Hid (Calls Try.prog 33 #[.pointer (some ⟨rb, 0, none⟩), .int .i64 em1] wr (RFill v base top rg rb size l H1 i1 p1 t1 taken em1 (.slice ha H1.length hc) wr)) := rfill_calls v base top rg rb size l H1 i1 p1 t1 taken em1 _ wr hst.out.1 hst.out.2.1 hem (by omega) hsize hbd hll hd hgb htb
      have HC : Hid (wr.cell? ⟨rg, 1, none⟩ = some (.int .i64 i1) ∧ wr.cell? ⟨rg, 3, none⟩ = some (.int .i64 t1)) := ⟨Blk.cell hst.out.1.src.1.1 1, Blk.cell hst.out.1.src.1.1 3⟩
      go_wp2_with fail
      (go_at_call 33; refine FC.out.mono ?_; rintro e w2 ⟨hv2, s2, E2, rfl, r1, r2, r3, r4⟩)
      obtain ⟨H2, i2, p2, t2, em2⟩ := s2
      obtain ⟨q1, q2, q3, q4, q5, q6, _⟩ := hst.out
      have HC2 : Hid (w2.cell? ⟨rg, 1, none⟩ = some (.int .i64 i2) ∧ w2.cell? ⟨rg, 3, none⟩ = some (.int .i64 t2)) := ⟨Blk.cell r1.src.1.1 1, Blk.cell r1.src.1.1 3⟩
      have hof : okP need H1 = false := decide_eq_false (by omega)
      have hne1 : H1.length ≠ size := by omega
      have HN : Hid (em2 ≤ 100 ∧ Inv l i2 p2 t2 ∧ H2.length ≤ size ∧ Path (okP need) size l (H, i, p, t, 0) (H2, i2, p2, t2, em2) ∧ (E2 ≠ 0 → Fin (okP need) size l (H2, i2, p2, t2, em2) E2) ∧ ((E2 ≠ 0 ∧ i2 = i1 ∧ t2 = t1) ∨ (E2 = 0 ∧ i1 + t1 < i2 + t2))) := by
        rcases r4 with ⟨a1, a2, a3⟩ | ⟨a1, a2, a3, a4⟩ | ⟨a1, a2, a3, a4⟩
        · simp only [Prod.mk.injEq] at a3
          obtain ⟨rfl, rfl, rfl, rfl, rfl⟩ := a3
          exact ⟨hem, q2, q3, q6, fun _ => .inr (.inr (.inl ⟨hof, hne1, a1, a2⟩)), .inl ⟨by omega, rfl, rfl⟩⟩
        · simp only [Prod.mk.injEq] at a4
          obtain ⟨rfl, rfl, rfl, rfl, rfl⟩ := a4
          exact ⟨hem, q2, q3, q6, fun _ => .inr (.inr (.inr ⟨hof, hne1, a1, a2, a3⟩)), .inl ⟨by rw [a3]; exact a2, rfl, rfl⟩⟩
        · have hpl1 : ∀ h : i1 < l.length, p1 ≤ l[i1].1.length := fun h => by
            rcases q2.cases with ⟨h1, h2, e⟩ | ⟨h1, _⟩
            · rw [e]; exact q2.part_le h1
            · omega
          have hgo := rd_goes l i1 p1 (size - H1.length) (by omega) hpl1 a2
          have hP := Path.step q6 ⟨hof, hne1, a1, a2⟩
          have hlen := nextFS_len size l (H1, i1, p1, t1, em1) q3
          rw [← a4] at hP hlen
          unfold nextFS at a4
          simp only [Prod.mk.injEq] at a4
          obtain ⟨e1, e2, e3, e4, e5⟩ := a4
          have hst2 := q2.step (size - H1.length)
          refine ⟨?_, ?_, hlen, hP, fun h => absurd a3 h, .inr ⟨a3, ?_⟩⟩
          · rw [e5]; split <;> omega
          · rw [e2, e3, e4]; exact hst2
          · rw [e2, e4]; omega
      have hb1 := HN.out.2.1.le_l
      have hb2 := HN.out.2.1.bound
      have HRR : Hid (RB v base top rg rb size l H2 i2 p2 t2 taken hv2 w2 ∧ KB rg rb hv w w2 ∧ Moved w hv hv2) := ⟨r1, q4.trans q5 r2, q5.trans q4.size r3⟩
      clear r1 r2 r3 r4 q1 q2 q3 q4 q5 q6 hof hne1
      go_wp2_with fail
      go_roundw
      case rel => exact ⟨(H2, i2, p2, t2, em2), E2, hv2, rfl, rfl, HN.out.1, HRR.out.1, HN.out.2.1, HN.out.2.2.1, HRR.out.2.1, HRR.out.2.2, HN.out.2.2.2.1, HN.out.2.2.2.2.1⟩
      case measure =>
        rw [HC.out.1, HC.out.2, HC2.out.1, HC2.out.2]
        have h9 := HN.out.2.2.2.2.2
        simp only [intOf, Option.getD_some, Int.toNat_natCast]
        rcases h9 with ⟨e1, e2, e3⟩ | ⟨e1, e2⟩
        · rw [e2, e3]; simp [e1]
        · rw [e1]; simp; omega
    · have HF : Hid (Fin (okP need) size l (H1, i1, p1, t1, em1) E ∧ (need ≤ H1.length → E = 0)) := by
        by_cases hn : need ≤ H1.length
        · have hE : E = 0 := by
            by_cases h0 : E = 0
            · exact h0
            · have := hst.out.2.2.2.2.2.2 h0
              rcases this with ⟨_, e⟩ | ⟨e, _⟩ | ⟨e, _⟩ | ⟨e, _⟩
              · exact e
              · rw [show okP need H1 = true from decide_eq_true hn] at e; cases e
              · rw [show okP need H1 = true from decide_eq_true hn] at e; cases e
              · rw [show okP need H1 = true from decide_eq_true hn] at e; cases e
          exact ⟨.inl ⟨decide_eq_true hn, hE⟩, fun _ => hE⟩
        · exact ⟨hst.out.2.2.2.2.2.2 (fun h0 => hgo ⟨by omega, h0⟩), fun h => absurd h hn⟩
      have hbase : ∀ W' : World, w.heap.size ≤ W'.heap.size → w.heap.size ≤ W'.heap.size := fun _ h => h
      have hzw := hst.out.2.2.2.1.size
      have hl16 : H1.length ≤ 16777216 := by have := hst.out.2.2.1; omega
      have hend : Hid (∀ (d : Value) (W : World) (X : List UInt8), X = H1.take need → W.ownsRow wr.heap.size 5 1 d X.length (bvs X) → Below wr.heap.size wr W → RPEnd need v base top rg rb size l H i p t taken hv w (.returned (.tuple #[d, .int .i64 E])) W) := fun d W X hX ho hb => by
        obtain ⟨q1, q2, q3, q4, q5, q6, _⟩ := hst.out
        subst hX
        refine ⟨d, .slice ha H1.length hc, (H1, i1, p1, t1, em1), E, wr.heap.size, rfl, ho, hzw, fun k hk => (q1.row.lt k hk).2, q1.below hb, q2, q3, q4.trans q5 (KB.below hb), q5, q6, HF.out.1⟩
      by_cases hn : need ≤ H1.length
      · have hE : E = 0 := HF.out.2 hn
        have l1 : decide ((H1.length : Int) < (need : Int)) = false := by rw [decide_eq_false_iff_not]; omega
        have l2 : decide ((H1.length : Int) ≥ (need : Int)) = true := by rw [decide_eq_true_eq]; omega
        have l3 : decide ((need : Int) ≤ (H1.length : Int)) = true := by rw [decide_eq_true_eq]; omega
        have hc1 : H1.length ≤ hc := by obtain ⟨_, _, e, ec, _⟩ := hasP_owns hst.out.1.row; cases e; exact ec
        have hsl := slice_to ha H1.length hc need need rfl (by omega)
        have HBy : Hid (Byt wr (.slice ha need hc) (H1.take need)) := byt_take hst.out.1.row need hn
        have hTl : (H1.take need).length = need := by rw [List.length_take]; omega
        have c2a : (wr.alloc (.cells #[] 5)).cell? ⟨rb, 2, none⟩ = some (.slice ha H1.length hc) := by rw [C.cell_under _ _ _ hst.out.1.lt]; exact cb2
        subst hE
        clear hgo
        go_wp2_with (at_builtin; refine append_bytes rfl _ _ rfl wr.heap.size (.slice (some ⟨wr.heap.size, 0, none⟩) 0 0) 0 [] rfl (owns_empty wr _ 1) (.slice ha need hc) (H1.take need) rfl (HBy.out.below ((Below.refl _ wr).alloc (Nat.le_refl _) _)) (by omega) (by simp) ?_; intro v5 w5 ho5 hg5)
        go_ret2
        have ho6 : w5.ownsRow wr.heap.size 5 1 v5 (H1.take need).length (bvs (H1.take need)) := by simpa using ho5
        exact hend.out v5 w5 _ rfl ho6 (((Below.refl _ wr).alloc (Nat.le_refl _) _).grown hg5 (by simp) (fun k hk => by simp [Value.ownBlock] at hk; omega))
      · have hE0 : E ≠ 0 := fun h0 => hgo ⟨by omega, h0⟩
        have tE : (E == 0) = false := by simpa using hE0
        have l1 : decide ((H1.length : Int) < (need : Int)) = true := by rw [decide_eq_true_eq]; omega
        have l2 : decide ((H1.length : Int) ≥ (need : Int)) = false := by rw [decide_eq_false_iff_not]; omega
        have l3 : decide ((need : Int) ≤ (H1.length : Int)) = false := by rw [decide_eq_false_iff_not]; omega
        have HBy : Hid (Byt wr (.slice ha H1.length hc) H1) := by
          have := byt_take hst.out.1.row H1.length (Nat.le_refl _)
          rw [List.take_length] at this
          exact this
        have c2a : (wr.alloc (.cells #[] 5)).cell? ⟨rb, 2, none⟩ = some (.slice ha H1.length hc) := by rw [C.cell_under _ _ _ hst.out.1.lt]; exact cb2
        clear hgo hE0
        go_wp2_with (at_builtin; refine append_bytes rfl _ _ rfl wr.heap.size (.slice (some ⟨wr.heap.size, 0, none⟩) 0 0) 0 [] rfl (owns_empty wr _ 1) (.slice ha H1.length hc) H1 rfl (HBy.out.below ((Below.refl _ wr).alloc (Nat.le_refl _) _)) (by omega) (by simp) ?_; intro v5 w5 ho5 hg5)
        go_ret2
        have ho6 : w5.ownsRow wr.heap.size 5 1 v5 H1.length (bvs H1) := by simpa using ho5
        exact hend.out v5 w5 H1 (List.take_of_length_le (by omega)).symm ho6 (((Below.refl _ wr).alloc (Nat.le_refl _) _).grown hg5 (by simp) (fun k hk => by simp [Value.ownBlock] at hk; omega))

/-- What take answers, and leaves. -/
def RTk (n : Nat) (v : Value) (base top rg rb size : Nat) (l : Scr) (H : List UInt8) (i p t taken : Nat) (hv : Value) (w : World) (e : Ending) (W : World) : Prop :=
  ∃ d hv', e = .returned d ∧ W.ownsRow w.heap.size 5 1 d (H.take n).length (bvs (H.take n)) ∧ RB v base top rg rb size l (H.drop n) i p t (taken + n) hv' W ∧ KB rg rb hv w W ∧ Moved w hv hv'
theorem byt_drop {W : World} {base : Nat} {a : Option Addr} {cap : Nat} {H : List UInt8} (h : W.ownsRow base 5 1 (.slice a H.length cap) H.length (bvs H)) (n : Nat) (hn : n ≤ H.length) : ∃ a1, (∀ w, (Instr.slice 39 (.slice a H.length cap) (some (.int .i64 n)) none none).run Try.prog w = .ok (.slice a1 (H.length - n) (cap - n)) w) ∧ Byt W (.slice a1 (H.length - n) (cap - n)) (H.drop n) := by
  have hP := hasP_owns h
  have hle : H.length ≤ cap := by obtain ⟨_, _, e, ec, _⟩ := hP; cases e; exact ec
  have hs : ∀ w, (sizeOf (Try.prog.elem 39)).run Try.prog w = .ok 1 w := fun w => by kernel_rfl
  refine ⟨if cap = n then a else a.map (fun x => x.add n), fun w => ?_, ?_, ?_⟩
  · rw [run_slice_l w _ _ _ _ (by kernel_rfl) _ _ (by omega) (by omega), hs]
    simp [Result.andThen, sliced]
  · have hd := hP.drop (a' := if cap = n then a else a.map (fun x => x.add n)) (cap' := cap - n) hn (fun _ h2 => ⟨if_neg (by omega), rfl⟩) (by omega) (fun h1 _ => by omega)
    have hl : (H.drop n).length = H.length - n := by simp
    rw [← hl] at hd ⊢
    have := hd.take (H.drop n).length (cap - n) (Nat.le_refl _) (by omega)
    rw [List.take_length] at this
    exact this
  · rcases h.2 with ⟨e, e0⟩ | ⟨g, cap', cur, e, _⟩
    · simp only [Value.slice.injEq] at e
      left
      rw [e.1, e.2.2, show n = 0 by omega, e0]; simp
    · simp only [Value.slice.injEq] at e
      right
      rw [e.1]
      split
      · exact ⟨_, _, _, rfl⟩
      · exact ⟨_, _, _, rfl⟩
set_option maxRecDepth 100000 in
set_option maxHeartbeats 4000000 in
/-- **The document's take.** -/
theorem rtake_calls (v : Value) (base top rg rb size n : Nat) (l : Scr) (H : List UInt8) (i p t taken : Nat) (hv : Value) (w : World) (h : RB v base top rg rb size l H i p t taken hv w) (hn : n ≤ H.length) (hl : H.length ≤ 16777216) (ht : taken ≤ 100000000) (hgb : rg < rb) (htb : top ≤ rb) :
    Calls Try.prog 34 #[.pointer (some ⟨rb, 0, none⟩), .int .i64 n] w (RTk n v base top rg rb size l H i p t taken hv w) := by
  obtain ⟨ha, hc, rfl⟩ := C.owns_slice h.row
  have HR : Hid (RB v base top rg rb size l H i p t taken (.slice ha H.length hc) w) := h
  have hc1 : H.length ≤ hc := by obtain ⟨_, _, e, ec, _⟩ := hasP_owns h.row; cases e; exact ec
  have hrl := h.lt
  have cb2 : w.cell? ⟨rb, 2, none⟩ = some (.slice ha H.length hc) := Blk.cell h.buf 2
  have c2a : (w.alloc (.cells #[] 5)).cell? ⟨rb, 2, none⟩ = some (.slice ha H.length hc) := by rw [C.cell_under _ _ _ hrl]; exact cb2
  have hsl := slice_to ha H.length hc n n rfl (by omega)
  have HBy : Hid (Byt w (.slice ha n hc) (H.take n)) := byt_take h.row n hn
  have hTl : Hid ((H.take n).length = n) := by show _ = _; rw [List.length_take]; omega
  clear h
  go_enter Try.func34, Try.ntmps34
  have HTb : Hid (0 + (H.take n).length ≤ 100000000000000) := by show _ ≤ _; have := hTl.out; omega
  obtain ⟨a1, hslF, hByD⟩ := byt_drop HR.out.row n hn
  have HByD : Hid (Byt w (.slice a1 (H.length - n) (hc - n)) (H.drop n)) := hByD
  have HDb : Hid (0 + (H.drop n).length ≤ 100000000000000) := by show _ ≤ _; rw [List.length_drop]; omega
  have hwt : IntKind.i64.wrap ((taken : Int) + (n : Int)) = (taken : Int) + (n : Int) := by rw [IntKind.wrap_i64]; omega
  clear hByD
  go_wp2_with (first
    | (at_builtin; refine append_bytes rfl _ _ rfl w.heap.size (.slice (some ⟨w.heap.size, 0, none⟩) 0 0) 0 [] rfl (owns_empty w _ 1) (.slice ha n hc) (H.take n) rfl (HBy.out.below ((Below.refl _ w).alloc (Nat.le_refl _) _)) HTb.out (by simp) ?_; intro v5 w5 ho5 hg5; have hb5 : Below w.heap.size w w5 := ((Below.refl _ w).alloc (Nat.le_refl _) _).grown hg5 (by simp) (fun k hk => by simp [Value.ownBlock] at hk; omega); have HR5 : Hid (RB v base top rg rb size l H i p t taken (.slice ha H.length hc) w5) := HR.out.below hb5; have d2 : w5.cell? ⟨rb, 2, none⟩ = some (.slice ha H.length hc) := Blk.cell HR5.out.buf 2; have hrl5 := HR5.out.lt; have d2a : (w5.alloc (.cells #[] 5)).cell? ⟨rb, 2, none⟩ = some (.slice ha H.length hc) := (C.cell_under _ _ _ hrl5).trans d2)
    | (at_builtin; refine append_bytes rfl _ _ rfl w5.heap.size (.slice (some ⟨w5.heap.size, 0, none⟩) 0 0) 0 [] rfl (owns_empty w5 _ 1) (.slice a1 (H.length - n) (hc - n)) (H.drop n) rfl ((HByD.out.below hb5).below ((Below.refl _ w5).alloc (Nat.le_refl _) _)) HDb.out (by simp) ?_; intro v6 w6 ho6 hg6; have hb6 : Below w5.heap.size w5 w6 := ((Below.refl _ w5).alloc (Nat.le_refl _) _).grown hg6 (by simp) (fun k hk => by simp [Value.ownBlock] at hk; omega); have HR6 : Hid (RB v base top rg rb size l H i p t taken (.slice ha H.length hc) w6) := HR5.out.below hb6; have e2 : w6.cell? ⟨rb, 2, none⟩ = some (.slice ha H.length hc) := Blk.cell HR6.out.buf 2; have e3 : w6.cell? ⟨rb, 3, none⟩ = some (.int .i64 taken) := Blk.cell HR6.out.buf 3; have g2 : w6.frozen? ⟨rb, 2, none⟩ = false := Blk.frozen HR6.out.buf 2; have g3 : w6.frozen? ⟨rb, 3, none⟩ = false := Blk.frozen HR6.out.buf 3; have ho7 : w6.ownsRow w5.heap.size 5 1 v6 (H.drop n).length (bvs (H.drop n)) := (by rw [Nat.zero_add, List.nil_append] at ho6; exact ho6); obtain ⟨a6, c6, rfl⟩ := C.owns_slice ho7; have HB6 : Hid (Blk (w6.setCell ⟨rb, 2, none⟩ (.slice a6 (H.drop n).length c6)) rb #[.pointer (some ⟨rg, 0, none⟩), .int .i64 size, .slice a6 (H.drop n).length c6, .int .i64 taken] 41) := Blk.set HR6.out.buf 2 _; have k3 : (w6.setCell ⟨rb, 2, none⟩ (.slice a6 (H.drop n).length c6)).cell? ⟨rb, 3, none⟩ = some (.int .i64 taken) := Blk.cell HB6.out 3; have k4 : (w6.setCell ⟨rb, 2, none⟩ (.slice a6 (H.drop n).length c6)).frozen? ⟨rb, 3, none⟩ = false := Blk.frozen HB6.out 3))
  go_ret
  have hgA := grown_set w6 rb 2 (.slice a6 (H.drop n).length c6)
  have hgB := grown_set (w6.setCell ⟨rb, 2, none⟩ (.slice a6 (H.drop n).length c6)) rb 3 (.int .i64 ((taken : Int) + (n : Int)))
  have hz5 := hb5.size
  have hz6 := hb6.size
  have hbw : Below w.heap.size w w6 := hb5.trans (hb6.mono hz5)
  have ho5' : w5.ownsRow w.heap.size 5 1 v5 (H.take n).length (bvs (H.take n)) := by rw [Nat.zero_add, List.nil_append] at ho5; exact ho5
  have HN9 : Blk ((w6.setCell ⟨rb, 2, none⟩ (.slice a6 (H.drop n).length c6)).setCell ⟨rb, 3, none⟩ (.int .i64 ((taken : Int) + (n : Int)))) rb #[.pointer (some ⟨rg, 0, none⟩), .int .i64 size, .slice a6 (H.drop n).length c6, .int .i64 (taken + n : Nat)] 41 := by
    have := Blk.set HB6.out 3 (.int .i64 ((taken : Int) + (n : Int)))
    rw [show ((taken + n : Nat) : Int) = (taken : Int) + (n : Int) by omega]
    exact this
  have fin : RTk n v base top rg rb size l H i p t taken (.slice ha H.length hc) w (.returned v5) ((w6.setCell ⟨rb, 2, none⟩ (.slice a6 (H.drop n).length c6)).setCell ⟨rb, 3, none⟩ (.int .i64 ((taken : Int) + (n : Int)))) := by
    refine ⟨v5, .slice a6 (H.drop n).length c6, rfl, ?_, ⟨?_, HN9, ?_⟩, ?_, ?_⟩
    · exact own_kept (own_kept (C.owns_below ho5' hb6) hgA (fun j e => by cases e; exact hrl)) hgB (fun j e => by cases e; exact hrl)
    · exact RSu.kept (RSu.kept HR6.out.src hgA (fun k e => by cases e; exact ⟨by omega, .inr htb⟩)) hgB (fun k e => by cases e; exact ⟨by omega, .inr htb⟩)
    · have h9 := own_kept (own_kept ho7 hgA (fun j e => by cases e; exact hrl5)) hgB (fun j e => by cases e; exact hrl5)
      exact ⟨h9.1, h9.2.imp id (fun ⟨g, cap, cur, e1, e2, e3⟩ => ⟨g, cap, cur, e1, by omega, e3⟩)⟩
    · exact ⟨hgB.os.trans (hgA.os.trans hbw.os), hgB.tape.trans (hgA.tape.trans hbw.tape), hgB.output.trans (hgA.output.trans hbw.output), Nat.le_trans hbw.size (Nat.le_trans hgA.size hgB.size), fun k hk hx => (hgB.block k (Nat.lt_of_lt_of_le hk (Nat.le_trans hbw.size hgA.size)) (fun e => hx (.inr (.inl (by cases e; rfl))))).trans ((hgA.block k (Nat.lt_of_lt_of_le hk hbw.size) (fun e => hx (.inr (.inl (by cases e; rfl))))).trans (hbw.block k hk))⟩
    · intro k hk
      have := (ho7.lt k hk).1
      exact .inr (by omega)
  simpa [List.length_drop] using fin
end Go.Proofs.Ytkpjmcoihbebkaa.CInv
