/- What is proved here: the contract of spoil of sievelaw02: a script of one's own is written over, and nothing else. -/
import Derived.Lib.SlBytesConst
import Derived.Test.YtanfnalapablfaaCRCut
namespace Go.Proofs.Ytanfnalapablfaa.C
open Go.RowKit

theorem grown_set (w : World) (g j : Nat) (u : Value) : w.grownBy (w.setCell ⟨g, j, none⟩ u) (some g) := ⟨rfl, rfl, rfl, by simp [World.setCell], fun k _ hk => Below.heap_setCell _ _ _ k (fun e => hk (by rw [show k = g from e]))⟩
theorem own_any_set {w : World} {base : Nat} {e : TypeId} {size : Nat} {v : Value} {n : Nat} {ys : List Value} (h : w.ownsRow base e size v n ys) (g j : Nat) (u : Value) : ∃ ys', (w.setCell ⟨g, j, none⟩ u).ownsRow base e size v n ys' := by
  have h' := h
  rcases h.2 with ⟨rfl, rfl⟩ | ⟨g', cap, cur, rfl, hb, hg, _⟩
  · exact ⟨ys, h.kept (grown_set w g j u) (.inl rfl)⟩
  · by_cases e : g' = g
    · subst e; exact ⟨_, (h'.stored j u).1⟩
    · exact ⟨ys, h.kept (grown_set w g j u) (.inr (by simp [Value.ownBlock]; exact e))⟩

/-- Only blocks of a kind may have turned, of those that were there. -/
structure KeepP (P : Nat → Prop) (w w' : World) : Prop where
  os : w'.os = w.os
  tape : w'.tape = w.tape
  output : w'.output = w.output
  size : w.heap.size ≤ w'.heap.size
  block : ∀ k, k < w.heap.size → ¬ P k → w'.heap[k]? = w.heap[k]?
theorem KeepP.refl (P : Nat → Prop) (w : World) : KeepP P w w := ⟨rfl, rfl, rfl, Nat.le_refl _, fun _ _ _ => rfl⟩
theorem KeepP.trans {P : Nat → Prop} {A B C : World} (h : KeepP P A B) (k : KeepP P B C) : KeepP P A C :=
  ⟨k.os.trans h.os, k.tape.trans h.tape, k.output.trans h.output, Nat.le_trans h.size k.size, fun j hj hp => (k.block j (Nat.lt_of_lt_of_le hj h.size) hp).trans (h.block j hj hp)⟩
theorem KeepP.grown {P : Nat → Prop} {A B C : World} {row : Option Nat} (h : KeepP P A B) (k : B.grownBy C row) (hr : ∀ j, row = some j → P j) : KeepP P A C :=
  h.trans ⟨k.os, k.tape, k.output, k.size, fun j hj hp => k.block j hj (fun e => hp (hr j e.symm))⟩
theorem KeepP.setCell {P : Nat → Prop} {A B : World} (h : KeepP P A B) (g j : Nat) (u : Value) (hg : P g) : KeepP P A (B.setCell ⟨g, j, none⟩ u) := h.grown (grown_set B g j u) (fun k e => by cases e; exact hg)
theorem KeepP.alloc {P : Nat → Prop} {A B : World} (h : KeepP P A B) (o : Obj) : KeepP P A (B.alloc o) := h.grown (row := none) (World.grownBy_alloc _ _ _) (fun _ e => by cases e)
theorem KeepP.below {P : Nat → Prop} {n : Nat} {w w' : World} (h : KeepP P w w') (hn : n ≤ w.heap.size) (hp : ∀ k, k < n → ¬ P k) : Below n w w' := ⟨h.os, h.tape, h.output, h.size, fun k hk => h.block k (by omega) (hp k hk)⟩
theorem KeepP.owns {P : Nat → Prop} {w w' : World} {base : Nat} {e : TypeId} {size : Nat} {v : Value} {n : Nat} {xs : List Value} (h : KeepP P w w') (ho : w.ownsRow base e size v n xs) (hp : ∀ k, v.ownBlock = some k → ¬ P k) : w'.ownsRow base e size v n xs := by
  refine ⟨ho.1, ?_⟩
  rcases ho.2 with hn | ⟨g, cap, cur, rfl, hb, hg, rest⟩
  · exact .inl hn
  · refine .inr ⟨g, cap, cur, rfl, hb, ?_, rest⟩
    rw [h.block g (lt_of_block hg) (hp g rfl)]; exact hg

/-- What is left of a script while it is written over, from step i on. -/
def Left (base g n cap : Nat) (xs : List (Value × List UInt8 × Bool)) (i : Nat) (w : World) : Prop :=
  (∃ cs : List Value, w.ownsRow base 58 2 (.slice (some ⟨g, 0, none⟩) n cap) n cs ∧ ∀ j (_ : i ≤ j) (h : j < xs.length), cs[j * 2]? = some xs[j].1 ∧ ∃ f, cs[j * 2 + 1]? = some (.bool f)) ∧ (∀ x ∈ xs, ∃ ys, w.ownsRow base 5 1 x.1 x.2.1.length ys)
theorem Left.byte {base g n cap : Nat} {xs : List (Value × List UInt8 × Bool)} {i : Nat} {w : World} (h : Left base g n cap xs i w) {g' : Nat} {k : Nat} {v : Value} {m c : Nat} {ys : List Value} (hv : v = .slice (some ⟨g', 0, none⟩) m c) (ho : w.ownsRow base 5 1 v m ys) (u : Value) : Left base g n cap xs i (w.setCell ⟨g', k, none⟩ u) := by
  obtain ⟨⟨cs, h1, h2⟩, h3⟩ := h
  subst hv
  refine ⟨⟨cs, h1.kept (grown_set w g' k u) ?_, h2⟩, fun x hx => ?_⟩
  · exact owns_apart h1 ho (by decide)
  · obtain ⟨zs, hz⟩ := h3 x hx
    exact own_any_set hz g' k u
theorem Left.alloc {base g n cap : Nat} {xs : List (Value × List UInt8 × Bool)} {i : Nat} {w : World} (h : Left base g n cap xs i w) (o : Obj) : Left base g n cap xs i (w.alloc o) := by
  obtain ⟨⟨cs, h1, h2⟩, h3⟩ := h
  exact ⟨⟨cs, h1.alloc _, h2⟩, fun x hx => by obtain ⟨zs, hz⟩ := h3 x hx; exact ⟨zs, hz.alloc _⟩⟩
theorem Left.step {base g n cap : Nat} {xs : List (Value × List UInt8 × Bool)} {i : Nat} {w : World} (h : Left base g n cap xs i w) (u u' : Value) : Left base g n cap xs (i + 1) ((w.setCell ⟨g, i * 2, none⟩ u).setCell ⟨g, i * 2 + 1, none⟩ u') := by
  obtain ⟨⟨cs, h1, h2⟩, h3⟩ := h
  have s1 := (h1.stored (i * 2) u).1
  have s2 := (s1.stored (i * 2 + 1) u').1
  refine ⟨⟨_, s2, fun j hj hlt => ?_⟩, fun x hx => ?_⟩
  · obtain ⟨a, f, b⟩ := h2 j (by omega) hlt
    rw [List.getElem?_set_ne (by omega), List.getElem?_set_ne (by omega), List.getElem?_set_ne (by omega), List.getElem?_set_ne (by omega)]
    exact ⟨a, f, b⟩
  · obtain ⟨zs, hz⟩ := h3 x hx
    obtain ⟨z1, hz1⟩ := own_any_set hz g (i * 2) u
    exact own_any_set hz1 g (i * 2 + 1) u'

theorem Left.get {base g n cap : Nat} {xs : List (Value × List UInt8 × Bool)} {k : Nat} {w : World} (h : Left base g n cap xs k w) (hx : xs.length = n) (hk : k < xs.length) {da : Option Addr} {m dc : Nat} (hv : xs[k].1 = .slice da m dc ∧ xs[k].2.1.length = m) :
    w.cell? ⟨g, k * 2, none⟩ = some (.slice da m dc) ∧ (∃ f, w.cell? ⟨g, k * 2 + 1, none⟩ = some (.bool f)) ∧ w.frozen? ⟨g, k * 2, none⟩ = false ∧ w.frozen? ⟨g, k * 2 + 1, none⟩ = false ∧ ∃ ys, w.ownsRow base 5 1 (.slice da m dc) m ys := by
  obtain ⟨⟨cs, r1, r2⟩, r3⟩ := h
  obtain ⟨c0, f, c1⟩ := r2 k (Nat.le_refl _) hk
  obtain ⟨ys, ho⟩ := r3 _ (List.getElem_mem hk)
  rw [hv.1, hv.2] at ho
  refine ⟨by rw [r1.cellAt _ (by omega), c0, hv.1], ⟨f, by rw [r1.cellAt _ (by omega), c1]⟩, r1.frozenAt _, r1.frozenAt _, ys, ho⟩
theorem frozen_under (W : World) (o : Obj) (p : Addr) (h : p.block < W.heap.size) : (W.alloc o).frozen? p = W.frozen? p := ((Below.refl _ W).alloc (Nat.le_refl _) o).frozen h

set_option maxRecDepth 100000 in
set_option maxHeartbeats 2000000 in
theorem spoil_some (P : Nat → Prop) (base g n cap : Nat) (xs : List (Value × List UInt8 × Bool)) (w : World) (hx : xs.length = n) (hn : (n : Int) ≤ 1000000000000) (hd : ∀ x ∈ xs, x.2.1.length ≤ 100000000000000) (hL : Left base g n cap xs 0 w) (hPg : P g) (hP : ∀ x ∈ xs, ∀ k, x.1.ownBlock = some k → P k) :
    Calls Try.prog 12 #[.slice (some ⟨g, 0, none⟩) n cap] w fun e W' => (∃ v, e = .returned v) ∧ KeepP P w W' := by
  have HX : Hid (xs.length = n) := hx
  have HPG : Hid (P g) := hPg
  have HP : Hid (∀ x ∈ xs, ∀ k, x.1.ownBlock = some k → P k) := hP
  clear hPg hP
  have HD : Hid (∀ x ∈ xs, x.2.1.length ≤ 100000000000000) := hd
  clear hx hd
  go_enter Try.func12, Try.ntmps12
  go_wp2
  go_loopw [6] (fun i wr => ∃ k : Nat, k ≤ n ∧ i = .int .i64 k ∧ Left base g n cap xs k wr ∧ KeepP P w wr) (fun i _ => n - (intOf i).toNat)
  case atStart => exact ⟨0, by omega, rfl, hL, KeepP.refl _ _⟩
  case round =>
    obtain ⟨k, hk, rfl, hS, hB⟩ := hrel
    have s1 := hB.size
    by_cases hlt : k < n
    · have hkx : k < xs.length := by have := HX.out; omega
      obtain ⟨da, m, dc, hv⟩ : ∃ da m dc, xs[k].1 = .slice da m dc ∧ xs[k].2.1.length = m := by
        obtain ⟨ys, ho⟩ := hS.2 _ (List.getElem_mem hkx)
        obtain ⟨da, dc, e⟩ := owns_slice ho
        exact ⟨da, _, dc, e, rfl⟩
      have HV : Hid (xs[k].1 = .slice da m dc ∧ xs[k].2.1.length = m) := hv
      have hdl : m ≤ 100000000000000 := by rw [← hv.2]; exact HD.out _ (List.getElem_mem hkx)
      obtain ⟨d0, -, -, -, -⟩ := hS.get HX.out hkx hv
      have HS : Hid (Left base g n cap xs k wr) := hS
      clear hv hS
      go_wp2
      clear d0
      go_loopw [15] (fun i wi => ∃ t : Nat, t ≤ m ∧ i = .int .i64 t ∧ Left base g n cap xs k wi ∧ KeepP P w wi) (fun i _ => m - (intOf i).toNat)
      case atStart => exact ⟨0, by omega, rfl, HS.out, hB⟩
      case round =>
        obtain ⟨t, ht, rfl, hSi, hBi⟩ := hrel
        obtain ⟨d0, ⟨f, d1⟩, f0, f1, ys, ho⟩ := hSi.get HX.out hkx HV.out
        have hbs := hBi.size
        by_cases hti : t < m
        · obtain ⟨gd, rfl⟩ : ∃ gd, da = some ⟨gd, 0, none⟩ := by
            rcases ho.2 with ⟨e, _⟩ | ⟨gd, _, _, e, _⟩
            · simp at e; omega
            · simp at e; exact ⟨gd, e.1⟩
          have hyl : ys.length = m := by have := ho.1; omega
          obtain ⟨u, hcell⟩ : ∃ u, wr.cell? ⟨gd, t, none⟩ = some u := ⟨ys[t]'(by omega), by rw [ho.cellAt t (by omega), List.getElem?_eq_getElem (by omega)]⟩
          have hfr := ho.frozenAt t
          have HGD : Hid (P gd) := HP.out _ (List.getElem_mem hkx) gd (by rw [HV.out.1]; rfl)
          have hSn : Hid (Left base g n cap xs k (wr.setCell ⟨gd, t, none⟩ (.int .u8 122))) := hSi.byte rfl ho _
          clear hyl hSi ho d1 f0 f1
          go_wp2
          go_roundw
          case rel => exact ⟨t + 1, by omega, by go_num, hSn.out, hBi.setCell gd t _ HGD.out⟩
          case measure => simp [intOf]; omega
        · have hg : g < wr.heap.size := cell_lt d0
          have hk2 := Lib.run_convert_bytes_const (P := Try.prog) wr 37 5 #[.int .u8 115, .int .u8 112, .int .u8 111, .int .u8 105, .int .u8 108, .int .u8 116] 6 6 Try.underlying37 Try.underlying5
          obtain ⟨W3, hW3⟩ : ∃ W3, wr.alloc (.cells #[.int .u8 115, .int .u8 112, .int .u8 111, .int .u8 105, .int .u8 108, .int .u8 116] 5 (6, 7)) = W3 := ⟨_, rfl⟩
          have e0 : W3.cell? ⟨g, k * 2, none⟩ = some (.slice da m dc) := by rw [← hW3]; exact (cell_under _ _ _ hg).trans d0
          have e1 : W3.cell? ⟨g, k * 2 + 1, none⟩ = some (.bool f) := by rw [← hW3]; exact (cell_under _ _ _ hg).trans d1
          have g0 : W3.frozen? ⟨g, k * 2, none⟩ = false := by rw [← hW3]; exact (frozen_under _ _ _ hg).trans f0
          have g1 : W3.frozen? ⟨g, k * 2 + 1, none⟩ = false := by rw [← hW3]; exact (frozen_under _ _ _ hg).trans f1
          have SL : Hid (Left base g n cap xs k W3) := by rw [← hW3]; exact hSi.alloc _
          have b3 : KeepP P w W3 := by rw [← hW3]; exact hBi.alloc _
          rw [show (wr.alloc (.cells #[.int .u8 115, .int .u8 112, .int .u8 111, .int .u8 105, .int .u8 108, .int .u8 116] 5 (#[Value.int .u8 115, .int .u8 112, .int .u8 111, .int .u8 105, .int .u8 108, .int .u8 116].size, #[Value.int .u8 115, .int .u8 112, .int .u8 111, .int .u8 105, .int .u8 108, .int .u8 116].size + 1))) = W3 from hW3] at hk2
          clear hW3 hSi ho d0 d1 f0 f1
          go_wp2
          exact ⟨⟨k + 1, by omega, by go_num, SL.out.step _ _, (b3.setCell g (k * 2) _ HPG.out).setCell g (k * 2 + 1) _ HPG.out⟩, by simp [intOf]; omega⟩
    · go_wp2
      go_end0
      exact ⟨⟨_, rfl⟩, hB⟩

set_option maxRecDepth 100000 in
theorem spoil_none (a : Option Addr) (c : Nat) (w : World) : Calls Try.prog 12 #[.slice a 0 c] w fun e W' => (∃ v, e = .returned v) ∧ W' = w := by
  go_enter Try.func12, Try.ntmps12
  go_wp2
  go_loopw [6] (fun i wr => i = .int .i64 0 ∧ wr = w) (fun _ _ => 0)
  case atStart => exact ⟨rfl, rfl⟩
  case round =>
    obtain ⟨rfl, rfl⟩ := hrel
    go_wp2
    go_end0
    exact ⟨⟨_, rfl⟩, rfl⟩

/-- **spoil of a script of one's own.** -/
theorem spoil_calls (P : Nat → Prop) (base g n cap : Nat) (r : Value) (xs : List (Value × List UInt8 × Bool)) (w : World) (hx : xs.length = n) (hn : n ≤ 1000000000000) (hd : ∀ x ∈ xs, x.2.1.length ≤ 100000000000000) (hr : n = 0 ∨ r = .slice (some ⟨g, 0, none⟩) n cap ∧ Left base g n cap xs 0 w) (hs : ∃ a c, r = .slice a n c) (hPg : n ≠ 0 → P g) (hP : ∀ x ∈ xs, ∀ k, x.1.ownBlock = some k → P k) :
    Calls Try.prog 12 #[r] w fun e W' => (∃ v, e = .returned v) ∧ KeepP P w W' := by
  rcases hr with rfl | ⟨rfl, hL⟩
  · obtain ⟨a, c, rfl⟩ := hs
    exact (spoil_none a c w).mono fun e W' ⟨h1, h2⟩ => ⟨h1, by rw [h2]; exact KeepP.refl _ _⟩
  · by_cases h0 : n = 0
    · subst h0
      exact (spoil_none _ cap w).mono fun e W' ⟨h1, h2⟩ => ⟨h1, by rw [h2]; exact KeepP.refl _ _⟩
    · exact spoil_some P base g n cap xs w hx (by omega) hd hL (hPg h0) hP
/-- What is one's own is what spoil asks for. -/
theorem left_of {base : Nat} {w : World} {r : Value} {l : List (List UInt8 × Bool)} (h : OwnS base 58 w r l) : ∃ (g cap : Nat) (xs : List (Value × List UInt8 × Bool)), xs.map Prod.snd = l ∧ xs.length = l.length ∧ (l.length = 0 ∨ r = .slice (some ⟨g, 0, none⟩) l.length cap ∧ Left base g l.length cap xs 0 w) := by
  obtain ⟨xs, h1, h2, h3, _⟩ := h
  have hl : xs.length = l.length := by rw [← h1]; simp
  have h2' := h2
  rcases h2.2 with ⟨_, e0⟩ | ⟨g, cap, cur, rfl, hb, hg, hcap, _⟩
  · exact ⟨0, 0, xs, h1, hl, .inl e0⟩
  · refine ⟨g, cap, xs, h1, hl, .inr ⟨rfl, ⟨_, h2', fun j _ hj => ?_⟩, fun x hx => ⟨_, h3 x hx⟩⟩⟩
    obtain ⟨c1, c2⟩ := flat_get xs j hj
    rw [Nat.mul_comm j 2]
    exact ⟨c1, _, c2⟩

end Go.Proofs.Ytanfnalapablfaa.C
