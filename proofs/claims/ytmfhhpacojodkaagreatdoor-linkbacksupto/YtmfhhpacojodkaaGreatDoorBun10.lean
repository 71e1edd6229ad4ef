/- What is proved here: laws and contracts of LpBWrite, MathJ, MathK, MathL, one behind the other (each says its own). -/
import Derived.Test.YtmfhhpacojodkaaGreatDoorBun9
import Derived.Test.YtmfhhpacojodkaaGreatDoorBun8
import Derived.Lib.RuneBytes
import Derived.Test.YtmfhhpacojodkaaGreatDoorBun6
/- What is proved here: (*strings.Builder).WriteRune of any character and String, with what they keep. -/
namespace Go.Proofs.YtmfhhpacojodkaaGreatDoor.U
open Go.RowKit Go.Shelf

set_option maxHeartbeats 1000000 in
set_option maxRecDepth 100000 in
theorem copyCheck_used (b : Nat) (w : World) (h0 : w.cell? ⟨b, 0, none⟩ = some (.pointer (some ⟨b, 0, none⟩))) :
    Calls Tryz.prog 54 #[.pointer (some ⟨b, 0, none⟩)] w fun e w' => e = .returned (.tuple #[]) ∧ w' = w := by
  obtain ⟨j, hj, _⟩ := Option.map_eq_some_iff.1 (show (Tryz.prog.info? 57).map (·.size) = some 2 by kernel_rfl)
  go_enter Tryz.func54, Tryz.ntmps54
  go_wp2
  rw [Lib.run_neq_ptr_same w _ Tryz.underlying55 hj]
  go_wp2
  go_end0
  exact ⟨rfl, rfl⟩

set_option maxHeartbeats 1000000 in
set_option maxRecDepth 100000 in
theorem copyCheck_fresh (b : Nat) (w : World) (h0 : w.cell? ⟨b, 0, none⟩ = some (.pointer none)) (hsh : w.shape? b = some (57, 2)) (hfz : w.frozen? ⟨b, 0, none⟩ = false) :
    Calls Tryz.prog 54 #[.pointer (some ⟨b, 0, none⟩)] w fun e w' => e = .returned (.tuple #[]) ∧ w' = w.setCell ⟨b, 0, none⟩ (.pointer (some ⟨b, 0, none⟩)) := by
  obtain ⟨j, hj, hjs⟩ := Option.map_eq_some_iff.1 (show (Tryz.prog.info? 57).map (·.size) = some 2 by kernel_rfl)
  have lies : liesAt Tryz.prog Tryz.prog.depth 57 (2 / Tryz.prog.cellsOf 57) 0 57 1 = true := by kernel_rfl
  go_enter Tryz.func54, Tryz.ntmps54
  go_wp2
  rw [Lib.run_to_unsafe w ⟨b, 0, none⟩ Tryz.underlying55 Tryz.underlying113 hj (by rw [hjs]; decide) hsh (Nat.zero_lt_succ 1)]
  simp only [Result.andThen]
  rw [Oper.upon_value]
  go_wp2
  rw [run_callFunc_extern Tryz.func84 (by kernel_rfl) (by kernel_rfl) (by kernel_rfl) (e := Extern.AbiNoEscape.same) (by kernel_rfl)]
  rw [Lib.run_noEscape]
  simp only [Result.andThen]
  rw [Oper.upon_value]
  go_wp2
  rw [Lib.run_from_unsafe w ⟨b, 0, none⟩ Tryz.underlying113 Tryz.underlying55 hj hsh lies]
  simp only [Result.andThen]
  rw [Oper.upon_value]
  go_wp2
  go_end0
  exact ⟨rfl, rfl⟩

/-- **copyCheck of any builder that is where it was made.** -/
theorem copyCheck_calls (B b : Nat) (bs : List Value) (w : World) (h : Lib.IsBuilder 57 5 B b bs w) :
    Calls Tryz.prog 54 #[.pointer (some ⟨b, 0, none⟩)] w fun e w' => e = .returned (.tuple #[]) ∧ Lib.BuilderAt 57 5 B b (.pointer (some ⟨b, 0, none⟩)) bs w' ∧ KprG B [b] w w' ∧ KeepsOthers w w' := by
  rcases h with h | h
  · refine (copyCheck_fresh b w h.cell0 h.shape h.frozen0).mono ?_
    rintro e w' ⟨rfl, rfl⟩
    exact ⟨rfl, h.used _, KprG.store (by simp) h.1 rfl, KeepsOthers.setCell _ _ _⟩
  · refine (copyCheck_used b w h.cell0).mono ?_
    rintro e w' ⟨rfl, rfl⟩
    exact ⟨rfl, h, KprG.refl _ _ _, KeepsOthers.refl _⟩

theorem row_cells {w : World} {B : Nat} {e : TypeId} {v : Value} {n : Nat} {xs : List Value} (h : w.ownsRow B e 1 v n xs) {k : Nat} (hk : v.ownBlock = some k) : ∃ cs fz, w.heap[k]? = some (.cells cs e fz) := by
  rcases h.2 with ⟨rfl, _⟩ | ⟨g, cap, cur, rfl, _, hg, _⟩
  · cases hk
  · cases hk; exact ⟨_, _, hg⟩
theorem kprG_append {w w2 : World} {B b n m : Nat} {p v v' : Value} {xs ys : List Value} {o : Obj} (hb : w.heap[b]? = some (.cells #[p, v] 57 (0, 0))) (hp : p.ownBlock = none) (hB : B ≤ b) (hBw : B ≤ w.heap.size)
    (hown : w.ownsRow B 5 1 v n xs) (hg : (w.alloc o).grownBy w2 v.ownBlock) (hown' : w2.ownsRow B 5 1 v' m ys) (hob : v'.ownBlock = v.ownBlock ∨ v'.ownBlock = some (w.heap.size + 1)) :
    KprG B [b] w (w2.setCell ⟨b, 1, none⟩ v') ∧ KeepsOthers w (w2.setCell ⟨b, 1, none⟩ v') := by
  have hlt := lt_of_block hb
  have hne : ∀ k, v.ownBlock = some k → k ≠ b := fun k hk e => by
    subst e
    obtain ⟨cs, fz, h1⟩ := row_cells hown hk
    rw [hb] at h1; cases h1
  have hz := hg.size
  rw [World.size_alloc] at hz
  have hb2 : w2.heap[b]? = some (.cells #[p, v] 57 (0, 0)) := by
    rw [hg.block b (by simp; omega) (fun e => hne b e.symm rfl), Below.heap_alloc _ _ _ hlt]; exact hb
  refine ⟨⟨?_, fun k ok hk hc hm hr => ?_, fun k hk => ?_⟩, ⟨by simp [World.setCell]; omega, fun k ok hk hc => ?_⟩⟩
  · exact (((Below.refl B w).alloc hBw o).grown hg (by simp; omega) (fun k hk => (hown.lt k hk).1)).setCell (p := ⟨b, 1, none⟩) hB _
  · have hkb : k ≠ b := by simpa using hm
    rw [Below.heap_setCell _ _ _ _ hkb, hg.block k (by have := lt_of_block hk; simp; omega) (fun e => hr ⟨b, by simp, 1, v, by simp [World.cell?, hb], e.symm⟩), Below.heap_alloc _ _ _ (lt_of_block hk)]
    exact hk
  · obtain ⟨B', hB', u, x, hx, e⟩ := hk
    obtain rfl : B' = b := by simpa using hB'
    have hx' : x = p ∨ x = v' := by
      simp only [World.cell?, World.setCell, Array.getElem?_modify, hb2] at hx
      match u, hx with
      | 0, hx => left; simpa using hx.symm
      | 1, hx => right; simpa using hx.symm
      | u + 2, hx => simp at hx
    rcases hx' with rfl | rfl
    · rw [hp] at e; cases e
    · rcases hob with h | h
      · exact .inl ⟨B', by simp, 1, v, by simp [World.cell?, hb], h ▸ e⟩
      · rw [h] at e; cases e
        exact .inr ⟨by omega, by have := (hown'.lt _ h).2; simpa [World.setCell] using this⟩
  · have hkb : k ≠ b := by rintro rfl; rw [hb] at hk; cases hk; cases hc
    rw [Below.heap_setCell _ _ _ _ hkb, hg.block k (by have := lt_of_block hk; simp; omega) (fun e => by
      obtain ⟨cs, fz, h1⟩ := row_cells hown e.symm
      rw [hk] at h1; cases h1; cases hc), Below.heap_alloc _ _ _ (lt_of_block hk)]
    exact hk

set_option maxHeartbeats 4000000 in
set_option maxRecDepth 100000 in
/-- **WriteRune of any character.** -/
theorem writeRune_calls (B b : Nat) (bs : List Value) (r : Int) (hr : 0 ≤ r ∧ r ≤ 1114111 ∧ ¬ (55296 ≤ r ∧ r ≤ 57343)) (w : World) (h : Lib.IsBuilder 57 5 B b bs w) (hlen : bs.length + 4 ≤ 140737488355328) (hBw : B ≤ w.heap.size) :
    Calls Tryz.prog 66 #[.pointer (some ⟨b, 0, none⟩), .int .i32 r] w fun e w' => (∃ v, e = .returned v) ∧ Lib.IsBuilder 57 5 B b (bs ++ Lib.runeCells r) w' ∧ KprG B [b] w w' ∧ KeepsOthers w w' := by
  have HR : Hid (0 ≤ r ∧ r ≤ 1114111 ∧ ¬ (55296 ≤ r ∧ r ≤ 57343)) := hr
  have hk4 := Lib.runeCells_le r
  clear hr
  go_enter Tryz.func66, Tryz.ntmps66
  go_wp2_with (go_at_call 54; refine (copyCheck_calls B b bs _ h).mono ?_)
  rintro e w1 ⟨rfl, h1, hk1, ho1⟩
  have hA := h1
  obtain ⟨hB, v, hbk, hown, hne⟩ := h1
  obtain ⟨ao, cap, rfl⟩ := owns_slice hown
  have c0 : w1.cell? ⟨b, 0, none⟩ = some (.pointer (some ⟨b, 0, none⟩)) := by simp [World.cell?, hbk]
  have c1 : w1.cell? ⟨b, 1, none⟩ = some (.slice ao bs.length cap) := by simp [World.cell?, hbk]
  have hz1 := hk1.1.size
  go_wp2_with (go_at_call 95; refine (arune_calls B _ bs.length bs r HR.out _ hown hlen (by omega)).mono ?_)
  rintro e w2 ⟨v', rfl, hown', ⟨o, hgrow⟩, hob⟩
  have hlt : b < w1.heap.size := lt_of_block hbk
  have hb2 : w2.heap[b]? = some (.cells #[.pointer (some ⟨b, 0, none⟩), .slice ao bs.length cap] 57 (0, 0)) := by
    rw [hgrow.block b (by simp; omega) (fun e => hne e.symm), Below.heap_alloc _ _ _ hlt]
    exact hbk
  have d1 : w2.cell? ⟨b, 1, none⟩ = some (.slice ao bs.length cap) := by simp [World.cell?, hb2]
  have f1 : w2.frozen? ⟨b, 1, none⟩ = false := by simp [World.frozen?, hb2]
  obtain ⟨hkp, hko⟩ := kprG_append hbk rfl hB (by omega) hown hgrow hown' hob
  have hne' : v'.ownBlock ≠ some b := fun e => by
    obtain ⟨cs, fz, hh⟩ := row_cells hown' e
    rw [hb2] at hh; cases hh
  have hfin : Hid (Lib.IsBuilder 57 5 B b (bs ++ Lib.runeCells r) (w2.setCell ⟨b, 1, none⟩ v')) := by
    refine .inr ⟨hB, v', ?_, ?_, hne'⟩
    · simp [World.setCell, Array.getElem?_modify, hb2]
    · have := hown'.kept (w' := w2.setCell ⟨b, 1, none⟩ v') (row := some b) ⟨rfl, rfl, rfl, by simp [World.setCell], fun k _ hk => Below.heap_setCell _ _ _ k (fun e => hk (by rw [e]))⟩ (.inr hne')
      simpa using this
  obtain ⟨a2, c2, rfl⟩ := owns_slice hown'
  go_wp2
  go_ret2
  exact ⟨⟨_, rfl⟩, hfin.out, hk1.trans hkp, ho1.trans hko⟩

end Go.Proofs.YtmfhhpacojodkaaGreatDoor.U

/- What is proved here: plain facts on cells: their numbers alone, read off runes with their places. -/
namespace Go.Proofs.YtmfhhpacojodkaaGreatDoor.U

/-- The same, with no word on what the numbers are. -/
structure Cn where
  r : Nat
  y : Nat
  l : Nat
  c : Nat
structure Sn where
  last : Nat
  y : Nat
  l : Nat
  c : Nat
  out : List Cn
def Cl.n (x : Cl) : Cn := ⟨x.r, x.y, x.l, x.c⟩
def St.n (s : St) : Sn := ⟨s.last, s.y, s.l, s.c, s.out.map Cl.n⟩
def stepN (fr : Nat) (st : Sn) (x : Nat × Nat) : Sn :=
  if st.last = 13 ∧ x.2 = 10 then { st with last := x.2 }
  else { last := x.2, y := fr + x.1, l := if plainN x.2 = 10 then st.l + 1 else st.l, c := if plainN x.2 = 10 then 1 else st.c + 1,
         out := st.out ++ [⟨plainN x.2, fr + x.1, st.l, st.c⟩] }
def readN (y l c : Nat) (ts : List (Nat × Nat)) : Sn := ts.foldl (stepN y) ⟨0, y, l, c, []⟩
theorem step_n (fr : Nat) (st : St) (x : Tok) : (stepT fr st x).n = stepN fr st.n x.1 := by
  unfold stepT stepN joined
  by_cases h : st.last = 13 ∧ x.1.2 = 10
  · rw [if_pos (by simp only [decide_eq_true_eq]; exact h), if_pos (show st.n.last = 13 ∧ x.1.2 = 10 from h)]; rfl
  · rw [if_neg (by simp only [decide_eq_true_eq]; exact h), if_neg (show ¬ (st.n.last = 13 ∧ x.1.2 = 10) from h)]; simp [St.n, Cl.n]
theorem fold_n (y : Nat) (ts : List Tok) : ∀ s : St, (ts.foldl (stepT y) s).n = (ts.map Subtype.val).foldl (stepN y) s.n := by
  induction ts with
  | nil => intro s; rfl
  | cons x ts ih => intro s; simp only [List.foldl_cons, List.map_cons]; rw [ih, step_n]
theorem readT_n (y l c : Nat) (ts : List Tok) : (readT y l c ts).n = readN y l c (ts.map Subtype.val) := fold_n y ts _
/-- The cells of bytes. -/
def cellsOf (bs : List UInt8) : List Cn := (readN 0 1 1 (toks bs)).out
theorem readT_cells {y l c : Nat} {ts : List Tok} {bs : List UInt8} (h : ts.map Subtype.val = toks bs) : (readT y l c ts).out.map Cl.n = (readN y l c (toks bs)).out := by
  have := readT_n y l c ts
  rw [h] at this
  exact congrArg Sn.out this
theorem readT_l {y l c : Nat} {ts : List Tok} {bs : List UInt8} (h : ts.map Subtype.val = toks bs) : (readT y l c ts).l = (readN y l c (toks bs)).l ∧ (readT y l c ts).c = (readN y l c (toks bs)).c := by
  have := readT_n y l c ts
  rw [h] at this
  exact ⟨congrArg Sn.l this, congrArg Sn.c this⟩

end Go.Proofs.YtmfhhpacojodkaaGreatDoor.U

/- What is proved here: plain facts on cells: the document's way to read them (looking one rune ahead) and the program's (keeping the last rune) are one. -/
namespace Go.Proofs.YtmfhhpacojodkaaGreatDoor.U

/-- The document's cells of runes with their places, from a line and a column on. -/
def refN (l c : Nat) : List (Nat × Nat) → List Cn
  | [] => []
  | [(p, r)] => [⟨plainN r, p, l, c⟩]
  | (p, r) :: (q, s) :: ts =>
    if r = 13 ∧ s = 10 then ⟨plainN s, p, l, c⟩ :: refN (l + 1) 1 ts
    else ⟨plainN r, p, l, c⟩ :: refN (if plainN r = 10 then l + 1 else l) (if plainN r = 10 then 1 else c + 1) ((q, s) :: ts)
theorem plain_13 : plainN 13 = 10 := by decide
theorem plain_10 : plainN 10 = 10 := by decide
theorem stepN_not (s : Sn) (x : Nat × Nat) (h : ¬ (s.last = 13 ∧ x.2 = 10)) : stepN 0 s x = ⟨x.2, x.1, if plainN x.2 = 10 then s.l + 1 else s.l, if plainN x.2 = 10 then 1 else s.c + 1, s.out ++ [⟨plainN x.2, x.1, s.l, s.c⟩]⟩ := by
  unfold stepN
  rw [if_neg h]
  simp
theorem fold_ref : ∀ (n : Nat) (ts : List (Nat × Nat)), ts.length ≤ n → ∀ s : Sn, (s.last ≠ 13 ∨ ∀ x, ts.head? = some x → x.2 ≠ 10) → (ts.foldl (stepN 0) s).out = s.out ++ refN s.l s.c ts
  | _, [], _, s, _ => by simp [refN]
  | n + 1, [(p, r)], _, s, h => by
    have hn : ¬ (s.last = 13 ∧ r = 10) := fun ⟨a, b⟩ => h.elim (fun h => h a) (fun h => h (p, r) rfl b)
    simp only [List.foldl_cons, List.foldl_nil]
    rw [stepN_not s (p, r) hn]
    simp [refN]
  | n + 1, (p, r) :: (q, t) :: ts, hl, s, h => by
    have hn : ¬ (s.last = 13 ∧ r = 10) := fun ⟨a, b⟩ => h.elim (fun h => h a) (fun h => h (p, r) rfl b)
    simp only [List.length_cons] at hl
    rw [List.foldl_cons, stepN_not s (p, r) hn]
    by_cases hj : r = 13 ∧ t = 10
    · obtain ⟨rfl, rfl⟩ := hj
      rw [List.foldl_cons]
      have e : stepN 0 ⟨13, p, if plainN 13 = 10 then s.l + 1 else s.l, if plainN 13 = 10 then 1 else s.c + 1, s.out ++ [⟨plainN 13, p, s.l, s.c⟩]⟩ (q, 10) = ⟨10, p, s.l + 1, 1, s.out ++ [⟨plainN 13, p, s.l, s.c⟩]⟩ := by
        unfold stepN
        rw [if_pos ⟨rfl, rfl⟩]
        simp [plain_13]
      rw [e, fold_ref n ts (by omega) _ (.inl (by simp))]
      simp [refN, plain_13, plain_10]
    · rw [fold_ref n ((q, t) :: ts) (by simp only [List.length_cons]; omega) _ (by
        by_cases hr : r = 13
        · exact .inr (fun x hx => by simp at hx; subst hx; exact fun ht => hj ⟨hr, ht⟩)
        · exact .inl hr)]
      simp only [refN, if_neg hj, List.append_assoc, List.singleton_append]
/-- **Both ways are one.** -/
theorem cells_ref (bs : List UInt8) : cellsOf bs = refN 1 1 (toks bs) := by
  have := fold_ref (toks bs).length (toks bs) (Nat.le_refl _) ⟨0, 0, 1, 1, []⟩ (.inl (by simp))
  simpa [cellsOf, readN] using this

end Go.Proofs.YtmfhhpacojodkaaGreatDoor.U

/- What is proved here: plain facts: the model's bytes of a rune and the shelf's are one; what Plain leaves is a character. -/
namespace Go.Proofs.YtmfhhpacojodkaaGreatDoor.U

theorem enc_shelf (r : Int) (h : 0 ≤ r ∧ r ≤ 1114111 ∧ ¬ (55296 ≤ r ∧ r ≤ 57343)) : enc r = Lib.encodeRune r := by
  obtain ⟨h0, h1, h2⟩ := h
  have hv : Utf8.valid r = true := (valid_iff r).2 ⟨h0, h1, h2⟩
  obtain ⟨n, rfl⟩ : ∃ n : Nat, r = (n : Int) := ⟨r.toNat, by omega⟩
  have ea : ∀ (x : Int) (m : Nat), x = (m : Int) → x.toNat.toUInt8 = UInt8.ofNat m := fun x m e => by subst e; rfl
  unfold Lib.encodeRune
  by_cases c1 : n < 128
  · rw [enc_one (by omega) (by omega), Lib.encodeRuneZ_one (by omega) (by omega)]
    simp
  · by_cases c2 : n < 2048
    · rw [enc_two (by omega) (by omega), Lib.encodeRuneZ_two (by omega) (by omega)]
      simp only [List.map_cons, List.map_nil, Int.toNat_natCast]
      rw [ea _ (192 + n / 64) (by omega), ea _ (128 + n % 64) (by omega)]
    · by_cases c3 : n < 65536
      · rw [enc_three hv (by omega) (by omega), Lib.encodeRuneZ_three (by omega)]
        simp only [List.map_cons, List.map_nil, Int.toNat_natCast]
        rw [ea _ (224 + n / 4096) (by omega), ea _ (128 + n / 64 % 64) (by omega), ea _ (128 + n % 64) (by omega)]
      · rw [enc_four (by omega) (by omega), Lib.encodeRuneZ_four (by omega) (by omega)]
        simp only [List.map_cons, List.map_nil, Int.toNat_natCast]
        rw [ea _ (240 + n / 262144) (by omega), ea _ (128 + n / 4096 % 64) (by omega), ea _ (128 + n / 64 % 64) (by omega), ea _ (128 + n % 64) (by omega)]
theorem encs_shelf (zs : List Int) (h : ∀ z ∈ zs, 0 ≤ z ∧ z ≤ 1114111 ∧ ¬ (55296 ≤ z ∧ z ≤ 57343)) : encs zs = zs.flatMap Lib.encodeRune := by
  induction zs with
  | nil => rfl
  | cons z zs ih =>
    show enc z ++ encs zs = Lib.encodeRune z ++ zs.flatMap Lib.encodeRune
    rw [enc_shelf z (h z (by simp)), ih (fun x hx => h x (by simp [hx]))]
/-- Every rune of a cell is a character. -/
theorem refN_ok : ∀ (n : Nat) (ts : List (Nat × Nat)), ts.length ≤ n → (∀ t ∈ ts, t.2 < 1114112) → ∀ l c, ∀ x ∈ refN l c ts, (0 : Int) ≤ (x.r : Int) ∧ (x.r : Int) ≤ 1114111 ∧ ¬ (55296 ≤ (x.r : Int) ∧ (x.r : Int) ≤ 57343)
  | _, [], _, _, _, _, x, hx => by simp [refN] at hx
  | n + 1, [(p, r)], _, ht, l, c, x, hx => by
    simp only [refN, List.mem_singleton] at hx
    subst hx
    have := plainN_lt r (ht (p, r) (by simp))
    simp only; omega
  | n + 1, (p, r) :: (q, s) :: ts, hl, ht, l, c, x, hx => by
    simp only [List.length_cons] at hl
    rw [refN] at hx
    split at hx
    · rcases List.mem_cons.1 hx with rfl | hx
      · have := plainN_lt s (ht (q, s) (by simp))
        simp only; omega
      · exact refN_ok n ts (by omega) (fun t h => ht t (by simp [h])) _ _ x hx
    · rcases List.mem_cons.1 hx with rfl | hx
      · have := plainN_lt r (ht (p, r) (by simp))
        simp only; omega
      · exact refN_ok n ((q, s) :: ts) (by simp only [List.length_cons]; omega) (fun t h => ht t (List.mem_cons_of_mem _ h)) _ _ x hx
theorem refN_len : ∀ (n : Nat) (ts : List (Nat × Nat)), ts.length ≤ n → ∀ l c, (refN l c ts).length ≤ ts.length
  | _, [], _, _, _ => by simp [refN]
  | n + 1, [(p, r)], _, l, c => by simp [refN]
  | n + 1, (p, r) :: (q, s) :: ts, hl, l, c => by
    simp only [List.length_cons] at hl
    rw [refN]
    split
    · have := refN_len n ts (by omega) (l + 1) 1
      simp only [List.length_cons]; omega
    · have := refN_len n ((q, s) :: ts) (by simp only [List.length_cons]; omega) (if plainN r = 10 then l + 1 else l) (if plainN r = 10 then 1 else c + 1)
      simp only [List.length_cons] at this ⊢; omega
theorem cellsOf_len (bs : List UInt8) : (cellsOf bs).length ≤ bs.length := by
  rw [cells_ref]
  exact Nat.le_trans (refN_len _ _ (Nat.le_refl _) _ _) (toks_length bs)
theorem plainZ_ok (z : Int) (h0 : 0 ≤ z) (h1 : z ≤ 1114111) : 0 ≤ plainZ z ∧ plainZ z ≤ 1114111 ∧ ¬ (55296 ≤ plainZ z ∧ plainZ z ≤ 57343) := by
  unfold plainZ
  repeat' split
  all_goals omega
end Go.Proofs.YtmfhhpacojodkaaGreatDoor.U
