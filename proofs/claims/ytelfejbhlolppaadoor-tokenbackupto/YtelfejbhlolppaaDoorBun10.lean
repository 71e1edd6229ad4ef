/- What is proved here: laws and contracts of TParseM, TSpoil, one behind the other (each says its own). -/
import Derived.Test.YtelfejbhlolppaaDoorBun9
import Derived.Test.YtelfejbhlolppaaDoorTRMerge
/- What is proved here: nothing of the program: what the document's Parse reads, as lists of bytes. -/
namespace Go.Proofs.YtelfejbhlolppaaDoor.T
open Go.RowKit N

/-- What stands behind an opening mark: the text, and the rest. -/
def unq : List UInt8 → List UInt8 → Option (List UInt8 × List UInt8)
  | _, [] => none
  | acc, c :: r =>
    if c = 34 then some (acc, r)
    else if c = 9 ∨ c = 10 then none
    else if c = 92 then
      match r with
      | [] => none
      | d :: r' => if d = 110 then unq (acc ++ [10]) r' else if d = 116 then unq (acc ++ [9]) r' else if d = 34 ∨ d = 92 then unq (acc ++ [d]) r' else none
    else unq (acc ++ [c]) r
def unqd (s : List UInt8) : Option (List UInt8 × List UInt8) := match s with
  | 34 :: r => unq [] r
  | _ => none
theorem unq_nil (acc : List UInt8) : unq acc [] = none := by unfold unq; rfl
theorem unq_end (acc r : List UInt8) : unq acc (34 :: r) = some (acc, r) := by unfold unq; simp
theorem unq_bad (acc r : List UInt8) (c : UInt8) (h : c = 9 ∨ c = 10) : unq acc (c :: r) = none := by
  unfold unq
  rw [if_neg (by rcases h with rfl | rfl <;> decide), if_pos h]
theorem unq_escNil (acc : List UInt8) : unq acc [92] = none := by unfold unq; simp
theorem unq_n (acc r : List UInt8) : unq acc (92 :: 110 :: r) = unq (acc ++ [10]) r := by rw [unq.eq_def]; simp
theorem unq_t (acc r : List UInt8) : unq acc (92 :: 116 :: r) = unq (acc ++ [9]) r := by rw [unq.eq_def]; simp
theorem unq_c (acc r : List UInt8) (d : UInt8) (h : d = 34 ∨ d = 92) : unq acc (92 :: d :: r) = unq (acc ++ [d]) r := by
  rw [unq.eq_def]; rcases h with rfl | rfl <;> simp
theorem unq_escBad (acc r : List UInt8) (d : UInt8) (h1 : d ≠ 110) (h2 : d ≠ 116) (h3 : d ≠ 34) (h4 : d ≠ 92) : unq acc (92 :: d :: r) = none := by
  rw [unq.eq_def]; simp [h1, h2, h3, h4]
theorem unq_else (acc r : List UInt8) (c : UInt8) (h1 : c ≠ 34) (h2 : c ≠ 9) (h3 : c ≠ 10) (h4 : c ≠ 92) : unq acc (c :: r) = unq (acc ++ [c]) r := by
  rw [unq.eq_def]; simp [h1, h2, h3, h4]
theorem unqd_no (s : List UInt8) (h : s.head? ≠ some 34) : unqd s = none := by
  cases s with
  | nil => rfl
  | cons c r =>
    simp at h
    unfold unqd
    split
    · rename_i e; simp at e; exact absurd e.1 h
    · rfl
theorem drop_cons (l : List UInt8) (k : Nat) (h : k < l.length) : l.drop k = l.getD k 0 :: l.drop (k + 1) := by
  rw [List.drop_eq_getElem_cons h]; simp [List.getD, h]
/-- What is left is shorter. -/
theorem unq_len : ∀ (n : Nat) (acc s a r : List UInt8), s.length ≤ n → unq acc s = some (a, r) → r.length < s.length ∧ a.length + r.length ≤ acc.length + s.length ∧ (∀ c ∈ r, c ∈ s) := by
  intro n
  induction n with
  | zero =>
    intro acc s a r hs h
    obtain rfl : s = [] := List.length_eq_zero_iff.1 (by omega)
    rw [unq_nil] at h; cases h
  | succ n ih =>
    intro acc s a r hs h
    cases s with
    | nil => rw [unq_nil] at h; cases h
    | cons c s =>
      simp only [List.length_cons] at hs ⊢
      by_cases h34 : c = 34
      · subst h34; rw [unq_end] at h; cases h
        exact ⟨by omega, by omega, fun c hc => List.mem_cons_of_mem _ hc⟩
      · by_cases hb : c = 9 ∨ c = 10
        · rw [unq_bad _ _ _ hb] at h; cases h
        · by_cases h92 : c = 92
          · subst h92
            cases s with
            | nil => rw [unq_escNil] at h; cases h
            | cons d s =>
              simp only [List.length_cons] at hs ⊢
              have go : ∀ x, unq (acc ++ [x]) s = some (a, r) → r.length < s.length + 1 + 1 ∧ a.length + r.length ≤ acc.length + (s.length + 1 + 1) ∧ (∀ c ∈ r, c ∈ 92 :: d :: s) := fun x hx => by
                obtain ⟨i1, i2, i3⟩ := ih _ s a r (by omega) hx
                simp at i2
                exact ⟨by omega, by omega, fun c hc => List.mem_cons_of_mem _ (List.mem_cons_of_mem _ (i3 c hc))⟩
              by_cases d1 : d = 110
              · subst d1; rw [unq_n] at h; exact go _ h
              · by_cases d2 : d = 116
                · subst d2; rw [unq_t] at h; exact go _ h
                · by_cases d3 : d = 34 ∨ d = 92
                  · rw [unq_c _ _ _ d3] at h; exact go _ h
                  · rw [unq_escBad _ _ _ d1 d2 (fun e => d3 (.inl e)) (fun e => d3 (.inr e))] at h; cases h
          · rw [unq_else _ _ _ h34 (fun e => hb (.inl e)) (fun e => hb (.inr e)) h92] at h
            obtain ⟨i1, i2, i3⟩ := ih _ s a r (by omega) h
            simp at i2
            exact ⟨by omega, by omega, fun c hc => List.mem_cons_of_mem _ (i3 c hc)⟩
end Go.Proofs.YtelfejbhlolppaaDoor.T

/- What is proved here: the contract of spoil of sievelaw07: tokens of one's own are written over, and nothing else. -/
namespace Go.Proofs.YtelfejbhlolppaaDoor.T
open Go.RowKit N

theorem own_any_set {w : World} {base : Nat} {e : TypeId} {size : Nat} {v : Value} {n : Nat} {ys : List Value} (h : w.ownsRow base e size v n ys) (g j : Nat) (u : Value) : ∃ ys', (w.setCell ⟨g, j, none⟩ u).ownsRow base e size v n ys' := by
  have h' := h
  rcases h.2 with ⟨rfl, rfl⟩ | ⟨g', cap, cur, rfl, hb, hg, _⟩
  · exact ⟨ys, h.kept (grown_set w g j u) (.inl rfl)⟩
  · by_cases e : g' = g
    · subst e; exact ⟨_, (h'.stored j u).1⟩
    · exact ⟨ys, h.kept (grown_set w g j u) (.inr (by simp [Value.ownBlock]; exact e))⟩
/-- Only blocks of a kind may have turned, of those that were there. -/
structure KeepP (P : Nat → Prop) (w w' : World) : Prop where
  os : w'.os = w.os
  tape : w'.tape = w.tape
  output : w'.output = w.output
  size : w.heap.size ≤ w'.heap.size
  block : ∀ k, k < w.heap.size → ¬ P k → w'.heap[k]? = w.heap[k]?
theorem KeepP.refl (P : Nat → Prop) (w : World) : KeepP P w w := ⟨rfl, rfl, rfl, Nat.le_refl _, fun _ _ _ => rfl⟩
theorem KeepP.trans {P : Nat → Prop} {A B C : World} (h : KeepP P A B) (k : KeepP P B C) : KeepP P A C :=
  ⟨k.os.trans h.os, k.tape.trans h.tape, k.output.trans h.output, Nat.le_trans h.size k.size, fun j hj hp => (k.block j (Nat.lt_of_lt_of_le hj h.size) hp).trans (h.block j hj hp)⟩
theorem KeepP.grown {P : Nat → Prop} {A B C : World} {row : Option Nat} (h : KeepP P A B) (k : B.grownBy C row) (hr : ∀ j, row = some j → P j) : KeepP P A C :=
  h.trans ⟨k.os, k.tape, k.output, k.size, fun j hj hp => k.block j hj (fun e => hp (hr j e.symm))⟩
theorem KeepP.setCell {P : Nat → Prop} {A B : World} (h : KeepP P A B) (g j : Nat) (u : Value) (hg : P g) : KeepP P A (B.setCell ⟨g, j, none⟩ u) := h.grown (grown_set B g j u) (fun k e => by cases e; exact hg)
theorem KeepP.owns {P : Nat → Prop} {w w' : World} {base : Nat} {e : TypeId} {size : Nat} {v : Value} {n : Nat} {xs : List Value} (h : KeepP P w w') (ho : w.ownsRow base e size v n xs) (hp : ∀ k, base ≤ k → ¬ P k) : w'.ownsRow base e size v n xs := by
  refine ⟨ho.1, ?_⟩
  have hlt := ho.lt
  rcases ho.2 with hn | ⟨g, cap, cur, rfl, hb, hg, rest⟩
  · exact .inl hn
  · refine .inr ⟨g, cap, cur, rfl, hb, ?_, rest⟩
    rw [h.block g (hlt g rfl).2 (hp g (hlt g rfl).1)]; exact hg
theorem KeepP.ownT {P : Nat → Prop} {w w' : World} {base : Nat} {v : Value} {L : TL} (h : KeepP P w w') (ho : OwnT base w v L) (hp : ∀ k, base ≤ k → ¬ P k) : OwnT base w' v L := by
  obtain ⟨xs, h1, h2, h3⟩ := ho
  exact ⟨xs, h1, h.owns h2 hp, fun x hx => h.owns (h3 x hx) hp⟩
theorem KeepP.below {P : Nat → Prop} {n : Nat} {w w' : World} (h : KeepP P w w') (hn : n ≤ w.heap.size) (hp : ∀ k, k < n → ¬ P k) : Below n w w' := ⟨h.os, h.tape, h.output, h.size, fun k hk => h.block k (by omega) (hp k hk)⟩

/-- What is left of tokens while they are written over. -/
def Left (base g n cap : Nat) (xs : List (Value × (T.Tok × AL))) (w : World) : Prop :=
  (∃ cs : List Value, w.ownsRow base 28 8 (.slice (some ⟨g, 0, none⟩) n cap) n cs ∧ ∀ j (h : j < xs.length), cs[j * 8 + 3]? = some xs[j].1) ∧ (∀ x ∈ xs, ∃ ys, w.ownsRow base 36 2 x.1 x.2.2.length ys)
theorem Left.name {base g n cap : Nat} {xs : List (Value × (T.Tok × AL))} {w : World} (h : Left base g n cap xs w) {g' k : Nat} {m c : Nat} {ys : List Value} (ho : w.ownsRow base 36 2 (.slice (some ⟨g', 0, none⟩) m c) m ys) (u : Value) : Left base g n cap xs (w.setCell ⟨g', k, none⟩ u) := by
  obtain ⟨⟨cs, h1, h2⟩, h3⟩ := h
  refine ⟨⟨cs, h1.kept (grown_set w g' k u) ?_, h2⟩, fun x hx => ?_⟩
  · exact C.owns_apart h1 ho (by decide)
  · obtain ⟨zs, hz⟩ := h3 x hx
    exact own_any_set hz g' k u
theorem Left.text {base g n cap : Nat} {xs : List (Value × (T.Tok × AL))} {w : World} (h : Left base g n cap xs w) (i : Nat) (u : Value) : Left base g n cap xs (w.setCell ⟨g, i * 8 + 2, none⟩ u) := by
  obtain ⟨⟨cs, h1, h2⟩, h3⟩ := h
  refine ⟨⟨_, (h1.stored (i * 8 + 2) u).1, fun j hlt => ?_⟩, fun x hx => ?_⟩
  · rw [List.getElem?_set_ne (by omega)]
    exact h2 j hlt
  · obtain ⟨zs, hz⟩ := h3 x hx
    exact own_any_set hz g (i * 8 + 2) u
theorem Left.get {base g n cap : Nat} {xs : List (Value × (T.Tok × AL))} {k : Nat} {w : World} (h : Left base g n cap xs w) (hx : xs.length = n) (hk : k < xs.length) {da : Option Addr} {m dc : Nat} (hv : xs[k].1 = .slice da m dc ∧ xs[k].2.2.length = m) :
    w.cell? ⟨g, k * 8 + 3, none⟩ = some (.slice da m dc) ∧ (∃ u, w.cell? ⟨g, k * 8 + 2, none⟩ = some u) ∧ w.frozen? ⟨g, k * 8 + 2, none⟩ = false ∧ ∃ ys, w.ownsRow base 36 2 (.slice da m dc) m ys := by
  obtain ⟨⟨cs, r1, r2⟩, r3⟩ := h
  have c0 := r2 k hk
  obtain ⟨ys, ho⟩ := r3 _ (List.getElem_mem hk)
  rw [hv.1, hv.2] at ho
  have hl := r1.1
  refine ⟨by rw [r1.cellAt _ (by omega), c0, hv.1], ⟨cs[k * 8 + 2]'(by omega), by rw [r1.cellAt _ (by omega), List.getElem?_eq_getElem]⟩, r1.frozenAt _, ys, ho⟩

set_option maxRecDepth 100000 in
set_option maxHeartbeats 2000000 in
theorem spoil_some (P : Nat → Prop) (base g n cap : Nat) (xs : List (Value × (T.Tok × AL))) (w : World) (hx : xs.length = n) (hn : (n : Int) ≤ 1000000000000) (hd : ∀ x ∈ xs, x.2.2.length ≤ 100000000000000) (hL : Left base g n cap xs w) (hPg : P g) (hP : ∀ x ∈ xs, ∀ k, x.1.ownBlock = some k → P k) :
    Calls Tryd.prog 19 #[.slice (some ⟨g, 0, none⟩) n cap] w fun e W' => (∃ v, e = .returned v) ∧ KeepP P w W' := by
  have HX : Hid (xs.length = n) := hx
  have HPG : Hid (P g) := hPg
  have HP : Hid (∀ x ∈ xs, ∀ k, x.1.ownBlock = some k → P k) := hP
  clear hPg hP
  have HD : Hid (∀ x ∈ xs, x.2.2.length ≤ 100000000000000) := hd
  clear hx hd
  go_enter Tryd.func19, Tryd.ntmps19
  go_wp2
  go_loopw [2, 6] (fun _ i wr => ∃ k : Nat, k ≤ n ∧ i = .int .i64 k ∧ Hid (Left base g n cap xs wr) ∧ Hid (KeepP P w wr)) (fun _ i _ => n - (intOf i).toNat)
  case atStart => exact ⟨0, by omega, rfl, hL, KeepP.refl _ _⟩
  case round =>
    obtain ⟨k, hk, rfl, hS, hB⟩ := hrel
    have s1 := hB.out.size
    by_cases hlt : k < n
    · have hkx : k < xs.length := by have := HX.out; omega
      obtain ⟨da, m, dc, hv⟩ : ∃ da m dc, xs[k].1 = .slice da m dc ∧ xs[k].2.2.length = m := by
        obtain ⟨ys, ho⟩ := hS.out.2 _ (List.getElem_mem hkx)
        obtain ⟨da, dc, e⟩ := C.owns_slice ho
        exact ⟨da, _, dc, e, rfl⟩
      have HV : Hid (xs[k].1 = .slice da m dc ∧ xs[k].2.2.length = m) := hv
      have hdl : m ≤ 100000000000000 := by rw [← hv.2]; exact HD.out _ (List.getElem_mem hkx)
      obtain ⟨d0, -, -, -⟩ := hS.out.get HX.out hkx hv
      clear hv
      go_wp2
      clear d0
      go_loopw [3, 15] (fun _ i wi => ∃ t : Nat, t ≤ m ∧ i = .int .i64 t ∧ Hid (Left base g n cap xs wi) ∧ Hid (KeepP P w wi)) (fun _ i _ => m - (intOf i).toNat)
      case atStart => exact ⟨0, by omega, rfl, hS, hB⟩
      case round =>
        obtain ⟨t, ht, rfl, hSi, hBi⟩ := hrel
        obtain ⟨d0, ⟨u2, d2⟩, f2, ys, ho⟩ := hSi.out.get HX.out hkx HV.out
        have hbs := hBi.out.size
        by_cases hti : t < m
        · obtain ⟨gd, rfl⟩ : ∃ gd, da = some ⟨gd, 0, none⟩ := by
            rcases ho.2 with ⟨e, _⟩ | ⟨gd, _, _, e, _⟩
            · simp at e; omega
            · simp at e; exact ⟨gd, e.1⟩
          have hyl : ys.length = m * 2 := by have := ho.1; omega
          obtain ⟨u, hcell⟩ : ∃ u, wr.cell? ⟨gd, t * 2, none⟩ = some u := ⟨ys[t * 2]'(by omega), by rw [ho.cellAt (t * 2) (by omega), List.getElem?_eq_getElem (by omega)]⟩
          have hfr := ho.frozenAt (t * 2)
          have HGD : Hid (P gd) := HP.out _ (List.getElem_mem hkx) gd (by rw [HV.out.1]; rfl)
          have hSn : Hid (Left base g n cap xs (wr.setCell ⟨gd, t * 2, none⟩ (.string ⟨#[63]⟩))) := hSi.out.name ho _
          have hBn : Hid (KeepP P w (wr.setCell ⟨gd, t * 2, none⟩ (.string ⟨#[63]⟩))) := hBi.out.setCell gd (t * 2) _ HGD.out
          clear hyl ho d2 f2
          go_wp2
          go_roundw
          case rel => exact ⟨t + 1, by omega, by go_num, hSn, hBn⟩
          case measure => simp [intOf]; omega
        · have hSn : Hid (Left base g n cap xs (wr.setCell ⟨g, k * 8 + 2, none⟩ (.string ⟨#[63]⟩))) := hSi.out.text k _
          have hBn : Hid (KeepP P w (wr.setCell ⟨g, k * 8 + 2, none⟩ (.string ⟨#[63]⟩))) := hBi.out.setCell g (k * 8 + 2) _ HPG.out
          clear ho
          go_wp2
          all_goals first
            | exact ⟨⟨k + 1, by omega, by go_num, hSn, hBn⟩, by simp [intOf]; omega⟩
            | (go_roundw
               case rel => exact ⟨k + 1, by omega, by go_num, hSn, hBn⟩
               case measure => simp [intOf]; omega)
    · go_wp2
      go_end0
      exact ⟨⟨_, rfl⟩, hB.out⟩

set_option maxRecDepth 100000 in
theorem spoil_none (a : Option Addr) (c : Nat) (w : World) : Calls Tryd.prog 19 #[.slice a 0 c] w fun e W' => (∃ v, e = .returned v) ∧ W' = w := by
  go_enter Tryd.func19, Tryd.ntmps19
  go_wp2
  go_loopw [2, 6] (fun _ i wr => i = .int .i64 0 ∧ wr = w) (fun _ _ _ => 0)
  case atStart => exact ⟨rfl, rfl⟩
  case round =>
    obtain ⟨rfl, rfl⟩ := hrel
    go_wp2
    go_end0
    exact ⟨⟨_, rfl⟩, rfl⟩
/-- **spoil of tokens of one's own.** -/
theorem spoil_calls (base : Nat) (v : Value) (L : TL) (A w : World) (hO : OwnT base A v L) (hA : Below A.heap.size A w) (hbk : bulkL L ≤ 1048576) :
    Calls Tryd.prog 19 #[v] w fun e W' => (∃ v, e = .returned v) ∧ KeepP (fun k => base ≤ k ∧ k < A.heap.size) w W' := by
  have hLn := bulkL_len L
  by_cases h0 : L.length = 0
  · obtain ⟨a, c, rfl⟩ := hO.slice
    rw [h0]
    exact (spoil_none a c w).mono fun e W' ⟨h1, h2⟩ => ⟨h1, by rw [h2]; exact KeepP.refl _ _⟩
  · obtain ⟨xs, h1, h2, h3⟩ := hO
    have hl : xs.length = L.length := by rw [← h1]; simp
    have h2' := h2
    rcases h2.2 with ⟨_, e0⟩ | ⟨g, cap, cur, rfl, hb, hg, hcap, _⟩
    · exact absurd e0 h0
    · have hlt := h2'.lt g rfl
      refine spoil_some _ base g L.length cap xs w hl (by omega) (fun x hx => ?_) ⟨⟨_, C.owns_below h2' hA, fun j hj => ?_⟩, fun x hx => ⟨_, C.owns_below (h3 x hx) hA⟩⟩ hlt (fun x hx k e => (h3 x hx).lt k e)
      · obtain ⟨j, hj, rfl⟩ := List.getElem_of_mem hx
        have := bulkL_at L j (by omega)
        have e : L[j]'(by omega) = xs[j].2 := by simp [← h1]
        rw [e] at this
        unfold bulkT at this
        omega
      · rw [flat8 xs j 3 hj (by omega)]; rfl
/-- What attributes a row of one's own has. -/
theorem OwnT.attrs {base : Nat} {w : World} {v : Value} {L : TL} (h : OwnT base w v L) : ∀ k (hk : k < L.length) tb off n cap av, v = .slice (some ⟨tb, off, none⟩) n cap → w.cell? ⟨tb, off + k * 8 + 3, none⟩ = some av → OwnA base w av L[k].2 := by
  intro k hk tb off n cap av hv hc
  obtain ⟨xs, h1, h2, h3⟩ := h
  subst h1
  have h2' := h2
  have hk' : k < xs.length := by simpa using hk
  rcases h2.2 with ⟨e, e0⟩ | ⟨g, cap', cur, e, hb, hg, hcap, _⟩
  · omega
  · subst e
    simp at hv
    obtain ⟨⟨rfl, rfl⟩, _, _⟩ := hv
    have h4 := World.ownsRow.cellAt h2' (k * 8 + 3) (by omega)
    rw [Nat.zero_add] at hc
    rw [flat8 xs k 3 hk' (by omega), hc] at h4
    have e3 : av = xs[k].1 := by simpa [tvs] using h4
    rw [e3]
    simpa using h3 xs[k] (List.getElem_mem _)
end Go.Proofs.YtelfejbhlolppaaDoor.T
