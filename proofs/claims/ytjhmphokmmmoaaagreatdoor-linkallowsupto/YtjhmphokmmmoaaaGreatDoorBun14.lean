/- What is proved here: laws and contracts of LpAwake, LpTabs, LkSplM, one behind the other (each says its own). -/
import Derived.Test.YtjhmphokmmmoaaaGreatDoorLpEnc
import Derived.Test.YtjhmphokmmmoaaaGreatDoorLpDots
import Derived.Test.YtjhmphokmmmoaaaGreatDoorRows
import Derived.Test.YtjhmphokmmmoaaaGreatDoorBun1
import Derived.Test.YtjhmphokmmmoaaaGreatDoorLpChk
import Derived.Test.YtjhmphokmmmoaaaGreatDoorBun13
/- What is proved here: the examples of the document that every statement of layer 12 asks first, and the error's number. -/
namespace Go.Proofs.YtjhmphokmmmoaaaGreatDoor.L
open Go.RowKit Go.Shelf Go.Proofs.YtjhmphokmmmoaaaGreatDoor.N Go.Proofs.YtjhmphokmmmoaaaGreatDoor.U

theorem num_calls (z : Int) (w : World) : Calls Tryz.prog 8 #[.int .i64 z] w fun e w' => e = .returned (.int .i64 z) ∧ w' = w := by
  go_enter Tryz.func8, Tryz.ntmps8
  go_wp2
  go_ret
  exact ⟨rfl, rfl⟩
theorem awake_scheme : schemeV (stripL [32, 74, 97, 86, 97, 9, 115, 99, 114, 105, 112, 116, 58, 120]) = .tuple #[.string ⟨#[106, 97, 118, 97, 115, 99, 114, 105, 112, 116]⟩, .bool true] := by
  have h1 : colonL (stripL [32, 74, 97, 86, 97, 9, 115, 99, 114, 105, 112, 116, 58, 120]) = some 10 := by decide +kernel
  have h2 : lower ((stripL [32, 74, 97, 86, 97, 9, 115, 99, 114, 105, 112, 116, 58, 120]).take 10) = [106, 97, 118, 97, 115, 99, 114, 105, 112, 116] := by decide +kernel
  unfold schemeV
  rw [h1]
  simp only
  rw [h2]
theorem awake_encode : encodeM (mendL [97, 32, 98, 37, 50, 103, 34, 195, 169]) = [97, 37, 50, 48, 98, 37, 50, 53, 50, 103, 37, 50, 50, 37, 67, 51, 37, 65, 57] := by decide +kernel
theorem awake_dots : dotsM (mendL [47, 97, 47, 98, 47, 99, 47, 46, 47, 46, 46, 47, 46, 46, 47, 103]) = [47, 97, 47, 103] := by decide +kernel
set_option maxRecDepth 100000 in
set_option maxHeartbeats 2000000 in
/-- **awake.** -/
theorem awake_calls (w : World) (hT : Tb w) : Calls Tryz.prog 9 #[] w fun e w' => e = .returned (.bool true) ∧ Below w.heap.size w w' := by
  have H1 : Hid (Calls Tryz.prog 11 #[.string ⟨#[32, 74, 97, 86, 97, 9, 115, 99, 114, 105, 112, 116, 58, 120]⟩] w fun e W' => e = .returned (.tuple #[.string ⟨#[106, 97, 118, 97, 115, 99, 114, 105, 112, 116]⟩, .bool true]) ∧ Below w.heap.size w W') := by
    have h := scheme_calls [32, 74, 97, 86, 97, 9, 115, 99, 114, 105, 112, 116, 58, 120] w hT (by decide)
    rw [awake_scheme] at h
    exact h
  have H2 : Hid (∀ W, Below w.heap.size w W → Calls Tryz.prog 21 #[.string ⟨#[97, 32, 98, 37, 50, 103, 34, 195, 169]⟩] W fun e W' => e = .returned (.string ⟨#[97, 37, 50, 48, 98, 37, 50, 53, 50, 103, 37, 50, 50, 37, 67, 51, 37, 65, 57]⟩) ∧ Below W.heap.size W W') := fun W hb => by
    have h := encode_calls [97, 32, 98, 37, 50, 103, 34, 195, 169] W (hT.below hb) (by decide)
    rw [awake_encode] at h
    exact h
  have H3 : Hid (∀ W, Below w.heap.size w W → Calls Tryz.prog 27 #[.string ⟨#[47, 97, 47, 98, 47, 99, 47, 46, 47, 46, 46, 47, 46, 46, 47, 103]⟩] W fun e W' => e = .returned (.string ⟨#[47, 97, 47, 103]⟩) ∧ Below W.heap.size W W') := fun W hb => by
    have h := dots_calls [47, 97, 47, 98, 47, 99, 47, 46, 47, 46, 46, 47, 46, 46, 47, 103] W (hT.below hb) (by decide)
    rw [awake_dots] at h
    exact h
  clear hT
  go_enter Tryz.func9, Tryz.ntmps9
  go_wp2_with fail
  (go_at_call 11; refine H1.out.mono ?_; rintro e w1 ⟨rfl, hb1⟩)
  go_wp2_with fail
  (go_at_call 21; refine (H2.out _ hb1).mono ?_; rintro e w2 ⟨rfl, hb2⟩)
  have hb12 := hb1.trans (hb2.mono hb1.size)
  go_wp2_with fail
  (go_at_call 27; refine (H3.out _ hb12).mono ?_; rintro e w3 ⟨rfl, hb3⟩)
  go_wp2_with fail
  go_ret
  exact ⟨rfl, hb12.trans (hb3.mono hb12.size)⟩
theorem bulk_str {H : Type} (b : List UInt8) : Rows.uptoBulk (H := H) (.lit (.string b)) = b.length + 1 := rfl
end Go.Proofs.YtjhmphokmmmoaaaGreatDoor.L

/- What is proved here: where the row's list of package-level variables is met, the tables of unicode/utf8 and the table of the schemes that may never be lie in memory as the contracts ask; and a world in which they lie so. -/
namespace Go.Proofs.YtjhmphokmmmoaaaGreatDoor.L
open Go.ChangeShapes Go.WideShapes Go.ChangeAt Go.RowKit Go.Shelf Go.Proofs.YtjhmphokmmmoaaaGreatDoor.U

def laidL3 : List (String × DataW Unit) := [("unicode/utf8.acceptRanges", Rows.laid_unicode_utf8_acceptRanges), ("sieve/link.never", Rows.laid_sieve_link_never), ("unicode/utf8.first", Rows.laid_unicode_utf8_first)]
theorem str_of {s : ByteArray} {l : List UInt8} (h : s.data.toList = l) : s = ⟨l.toArray⟩ := by subst h; exact (Lib.mk_data s).symm
set_option maxRecDepth 100000 in
theorem tabs3_of_laid {W : World} (h : laidMet Tryz.prog laidL3 W) : Tb W ∧ Nev W := by
  constructor
  · have h3 : Lib.VarReads Tryz.prog W "unicode/utf8.first" Lib.firstData := by
      have := Lib.laidMet.reads h (n := "unicode/utf8.first") (d := Rows.laid_unicode_utf8_first) (by simp [laidL3])
      rw [show Rows.laid_unicode_utf8_first = Lib.firstData from Pinned.utf8First_eq] at this
      exact this
    have h4 : Lib.VarReads Tryz.prog W "unicode/utf8.acceptRanges" Lib.acceptData := by
      have := Lib.laidMet.reads h (n := "unicode/utf8.acceptRanges") (d := Rows.laid_unicode_utf8_acceptRanges) (by simp [laidL3])
      rw [accept_eq] at this
      exact this
    exact utf8Tabs_of_readsT (ρ := u8ren) u8types u8extra h3 h4
  · obtain ⟨g, t, cs, fuel, p, hg, ht, hv, hd⟩ := Lib.laidMet.reads h (n := "sieve/link.never") (d := Rows.laid_sieve_link_never) (by simp [laidL3])
    obtain rfl : 0 = g := Option.some.inj ((show Tryz.prog.globalNamed "sieve/link.never" = some 0 by kernel_rfl).symm.trans hg)
    obtain rfl : 43 = t := Option.some.inj ((show (Tryz.prog.globals[0]?).map (·.type) = some 43 by kernel_rfl).symm.trans ht)
    obtain ⟨xs, m, _, hx, hl, hxl, hat⟩ := DataW.trod_array Tryz.underlying43 hd
    simp only [Prod.mk.injEq] at hx
    have k9 : Tryz.prog.cellsOf 9 = 1 := by kernel_rfl
    have hcl : cs.size = 7 := by rw [← Array.length_toList, hl]; kernel_rfl
    have hcell : ∀ i (hi : i < 7) (b : List UInt8), (xs.map (·.1))[i]? = some (.lit (.string b)) → W.cell? ⟨0, i, none⟩ = some (.string ⟨b.toArray⟩) := fun i hi b hb => by
      have h1 := hat i hi
      rw [k9, Nat.mul_one] at h1
      obtain ⟨x, hxi⟩ : ∃ x, xs[i]? = some x := ⟨xs[i]'(by omega), List.getElem?_eq_getElem (by omega)⟩
      rw [hxi] at h1
      obtain ⟨s, e1, e2, _⟩ := DataW.trod_string Tryz.underlying9 h1
      rw [List.getElem?_map, hxi, e2] at hb
      simp at hb
      rw [World.var?_cell hg hv i]
      have : cs.toList[i]? = some (.string s) := by
        have h2 : ((cs.toList.drop i).take 1)[0]? = some (.string s) := by rw [e1]; rfl
        simpa [List.getElem?_take, List.getElem?_drop] using h2
      rw [← Array.getElem?_toList, this, str_of hb]
    have hx1 := hx.1
    have get : ∀ (i : Nat) (b : List UInt8) (L : List (DataW Unit)), (Rows.laid_sieve_link_never : DataW Unit) = .agg L → L[i]? = some (DataW.lit (.string b)) → (xs.map (·.1))[i]? = some (DataW.lit (.string b)) := fun i b L hL hb => by
      have h2 := hx1.symm.trans hL
      injection h2 with h2
      rw [h2]; exact hb
    intro j hj
    have hks : j = 0 ∨ j = 1 ∨ j = 2 ∨ j = 3 ∨ j = 4 ∨ j = 5 ∨ j = 6 := by omega
    rcases hks with rfl | rfl | rfl | rfl | rfl | rfl | rfl
    all_goals exact hcell _ hj _ (get _ _ _ rfl rfl)
def nevCells : Array Value := (nevers.map fun n => Value.string ⟨n.toArray⟩).toArray
def withTabs3 (w : World) : World :=
  { withTabs w with heap := (withTabs w).heap.modify 0 fun
      | .cells _ t frozen => .cells nevCells t frozen
      | o => o }
end Go.Proofs.YtjhmphokmmmoaaaGreatDoor.L

/- What is proved here: a link's parts as lists of bytes: parted, by the document's words and by the program's, and joined. -/
namespace Go.Proofs.YtjhmphokmmmoaaaGreatDoor.L
open Go.RowKit Go.Shelf Go.Proofs.YtjhmphokmmmoaaaGreatDoor.N Go.Proofs.YtjhmphokmmmoaaaGreatDoor.U

theorem upToL_nil (so : List UInt8) : upToL so [] = 0 := rfl
theorem upToL_cons (so : List UInt8) (c : UInt8) (t : List UInt8) : upToL so (c :: t) = if so.contains c then 0 else upToL so t + 1 := by
  unfold upToL
  rw [List.takeWhile_cons]
  cases so.contains c <;> simp
theorem upToL_app (so : List UInt8) : ∀ (X Y : List UInt8), (∀ c ∈ X, so.contains c = false) → upToL so (X ++ Y) = X.length + upToL so Y
  | [], Y, _ => by simp
  | c :: t, Y, h => by
    rw [List.cons_append, upToL_cons, h c (by simp), upToL_app so t Y (fun d hd => h d (by simp [hd]))]
    simp; omega
theorem upToL_all (so X : List UInt8) (h : ∀ c ∈ X, so.contains c = false) : upToL so X = X.length := by
  have := upToL_app so X [] h
  rw [List.append_nil] at this
  rw [this]; rfl
/-- Cut at the first byte of some kind. -/
theorem upToL_cut (so : List UInt8) : ∀ (s : List UInt8), (∀ c ∈ s.take (upToL so s), so.contains c = false) ∧ (s.drop (upToL so s) = [] ∨ ∃ c t, s.drop (upToL so s) = c :: t ∧ so.contains c = true)
  | [] => ⟨by simp, .inl (by simp)⟩
  | c :: t => by
    rw [upToL_cons]
    cases h : so.contains c with
    | true => exact ⟨by simp, .inr ⟨c, t, by simp, h⟩⟩
    | false =>
      obtain ⟨h1, h2⟩ := upToL_cut so t
      refine ⟨fun d hd => ?_, ?_⟩
      · simp only [Bool.false_eq_true, if_false, List.take_succ_cons, List.mem_cons] at hd
        rcases hd with rfl | hd
        · exact h
        · exact h1 d hd
      · simpa using h2
/-- What is left of a stripped text behind its scheme: what stands ahead of the query and the fragment, the query with its mark, the fragment with its. -/
structure Three (r B Q F : List UInt8) : Prop where
  all : r = B ++ (Q ++ F)
  noB : ∀ c ∈ B, ((63 : UInt8) == c) = false ∧ ((35 : UInt8) == c) = false
  noQ : ∀ c ∈ Q, ((35 : UInt8) == c) = false
  isQ : Q = [] ∨ ∃ q, Q = 63 :: q
  isF : F = [] ∨ ∃ f, F = 35 :: f
theorem three (r : List UInt8) : ∃ B Q F, Three r B Q F ∧ B ++ Q = r.take (upToL [35] r) ∧ F = r.drop (upToL [35] r) ∧ B = (B ++ Q).take (upToL [63] (B ++ Q)) ∧ Q = (B ++ Q).drop (upToL [63] (B ++ Q)) := by
  obtain ⟨h1, h2⟩ := upToL_cut [35] r
  obtain ⟨A, hA⟩ : ∃ A, r.take (upToL [35] r) = A := ⟨_, rfl⟩
  obtain ⟨F, hF⟩ : ∃ F, r.drop (upToL [35] r) = F := ⟨_, rfl⟩
  have e : r = A ++ F := by rw [← hA, ← hF, List.take_append_drop]
  rw [hA] at h1
  rw [hF] at h2
  obtain ⟨g1, g2⟩ := upToL_cut [63] A
  obtain ⟨B, hB⟩ : ∃ B, A.take (upToL [63] A) = B := ⟨_, rfl⟩
  obtain ⟨Q, hQ⟩ : ∃ Q, A.drop (upToL [63] A) = Q := ⟨_, rfl⟩
  have e2 : A = B ++ Q := by rw [← hB, ← hQ, List.take_append_drop]
  rw [hB] at g1
  rw [hQ] at g2
  have n35 : ∀ c ∈ A, ((35 : UInt8) == c) = false := fun c hc => by
    have := h1 c hc
    simp at this ⊢
    exact fun e => this e.symm
  have n63 : ∀ c ∈ B, ((63 : UInt8) == c) = false := fun c hc => by
    have := g1 c hc
    simp at this ⊢
    exact fun e => this e.symm
  refine ⟨B, Q, F, ⟨?_, ?_, ?_, ?_, ?_⟩, ?_, ?_, ?_, ?_⟩
  · rw [e, e2, List.append_assoc]
  · exact fun c hc => ⟨n63 c hc, n35 c (by rw [e2]; simp [hc])⟩
  · exact fun c hc => n35 c (by rw [e2]; simp [hc])
  · rcases g2 with h | ⟨c, t, h, hc⟩
    · exact .inl h
    · simp at hc; subst hc; exact .inr ⟨t, h⟩
  · rcases h2 with h | ⟨c, t, h, hc⟩
    · exact .inl h
    · simp at hc; subst hc; exact .inr ⟨t, h⟩
  · rw [hA, e2]
  · exact hF.symm
  · rw [← e2]; exact hB.symm
  · rw [← e2]; exact hQ.symm
/-- A link's parts. -/
structure Lk where
  sc : List UInt8
  ho : List UInt8
  pa : List UInt8
  qu : List UInt8
  fr : List UInt8
  hs : Bool
  hh : Bool
  hq : Bool
  hf : Bool
/-- What is told ahead of the query: is there a host, which, and the path. -/
def hostK : List UInt8 → Bool × List UInt8 × List UInt8
  | c :: d :: C => if c == 47 && d == 47 then (true, C.take (upToL [47] C), C.drop (upToL [47] C)) else (false, [], c :: d :: C)
  | B => (false, [], B)
/-- What stands behind the scheme of a stripped text. -/
def restK (s : List UInt8) : List UInt8 := match colonL s with | some n => s.drop (n + 1) | none => s
def aheadK (r : List UInt8) : List UInt8 := r.take (upToL [35] r)
def splitK (s : List UInt8) : Lk where
  sc := match colonL s with | some n => lower (s.take n) | none => []
  hs := (colonL s).isSome
  fr := (restK s).drop (upToL [35] (restK s) + 1)
  hf := decide (upToL [35] (restK s) < (restK s).length)
  qu := (aheadK (restK s)).drop (upToL [63] (aheadK (restK s)) + 1)
  hq := decide (upToL [63] (aheadK (restK s)) < (aheadK (restK s)).length)
  hh := (hostK ((aheadK (restK s)).take (upToL [63] (aheadK (restK s))))).1
  ho := (hostK ((aheadK (restK s)).take (upToL [63] (aheadK (restK s))))).2.1
  pa := (hostK ((aheadK (restK s)).take (upToL [63] (aheadK (restK s))))).2.2
/-- The parts, by what stands ahead of the query, the query with its mark and the fragment with its. -/
def threeK (s B Q F : List UInt8) : Lk where
  sc := match colonL s with | some n => lower (s.take n) | none => []
  hs := (colonL s).isSome
  fr := F.drop 1
  hf := decide (0 < F.length)
  qu := Q.drop 1
  hq := decide (0 < Q.length)
  hh := (hostK B).1
  ho := (hostK B).2.1
  pa := (hostK B).2.2
theorem split_three (s : List UInt8) : ∃ B Q F, Three (restK s) B Q F ∧ splitK s = threeK s B Q F := by
  obtain ⟨B, Q, F, h, h1, h2, h3, h4⟩ := three (restK s)
  refine ⟨B, Q, F, h, ?_⟩
  have hA : aheadK (restK s) = B ++ Q := h1.symm
  unfold splitK threeK
  rw [hA, ← h3]
  congr 1
  · have : (B ++ Q).drop (upToL [63] (B ++ Q) + 1) = ((B ++ Q).drop (upToL [63] (B ++ Q))).drop 1 := by rw [List.drop_drop]
    rw [this, ← h4]
  · have : (restK s).drop (upToL [35] (restK s) + 1) = ((restK s).drop (upToL [35] (restK s))).drop 1 := by rw [List.drop_drop]
    rw [this, ← h2]
  · have e := congrArg List.length h4
    rw [List.length_drop] at e
    rw [decide_eq_decide]
    omega
  · have e := congrArg List.length h2
    rw [List.length_drop] at e
    rw [decide_eq_decide]
    omega
theorem in63 {so : List UInt8} {c : UInt8} (h : ∀ d ∈ so, (d == c) = false) : so.contains c = false := by
  rw [List.contains_eq_mem, decide_eq_false_iff_not]
  intro hm
  have := h c hm
  simp at this
theorem stop_at (so : List UInt8) (Y : List UInt8) (h : Y = [] ∨ ∃ c t, Y = c :: t ∧ so.contains c = true) : upToL so Y = 0 := by
  rcases h with rfl | ⟨c, t, rfl, h⟩
  · rfl
  · rw [upToL_cons, h]; rfl
theorem Three.tail {r B Q F : List UInt8} (h : Three r B Q F) : Q ++ F = [] ∨ ∃ c t, Q ++ F = c :: t ∧ (c = 63 ∨ c = 35) := by
  rcases h.isQ with e | ⟨q, e⟩ <;> rcases h.isF with e' | ⟨f, e'⟩ <;> subst e <;> subst e'
  · exact .inl rfl
  · exact .inr ⟨35, f, rfl, .inr rfl⟩
  · exact .inr ⟨63, q ++ [], rfl, .inl rfl⟩
  · exact .inr ⟨63, q ++ 35 :: f, rfl, .inl rfl⟩
/-- Where the path ends. -/
theorem Three.path {r B Q F : List UInt8} (h : Three r B Q F) (P : List UInt8) (hP : ∀ c ∈ P, c ∈ B) : upToL [63, 35] (P ++ (Q ++ F)) = P.length := by
  rw [upToL_app _ P _ (fun c hc => in63 (fun d hd => by
    have := h.noB c (hP c hc)
    simp only [List.mem_cons, List.not_mem_nil, or_false] at hd
    rcases hd with rfl | rfl
    · exact this.1
    · exact this.2)), stop_at _ _ (by
    rcases h.tail with e | ⟨c, t, e, hc⟩
    · exact .inl e
    · exact .inr ⟨c, t, e, by rcases hc with rfl | rfl <;> decide⟩)]
  rfl
/-- Where the host ends. -/
theorem Three.host {r B Q F : List UInt8} (h : Three r B Q F) (C : List UInt8) (hC : ∀ c ∈ C, c ∈ B) : upToL [47, 63, 35] (C ++ (Q ++ F)) = upToL [47] C := by
  obtain ⟨h1, h2⟩ := upToL_cut [47] C
  have hle : (C.take (upToL [47] C)).length = upToL [47] C := by have := upToL_le [47] C; rw [List.length_take]; omega
  have e0 : C.take (upToL [47] C) ++ C.drop (upToL [47] C) = C := List.take_append_drop _ _
  rw [← hle]
  generalize C.take (upToL [47] C) = H at *
  generalize C.drop (upToL [47] C) = P at *
  subst e0
  rw [List.append_assoc, upToL_app _ _ _ (fun c hc => in63 (fun d hd => by
    have h0 := h1 c hc
    have := h.noB c (hC c (by simp [hc]))
    simp only [List.mem_cons, List.not_mem_nil, or_false] at hd
    rcases hd with rfl | rfl | rfl
    · simp at h0 ⊢; exact fun e => h0 e.symm
    · exact this.1
    · exact this.2)), stop_at _ _ (by
    rcases h2 with e | ⟨c, t, e, hc⟩
    · rw [e, List.nil_append]
      rcases h.tail with e | ⟨c, t, e, hc⟩
      · exact .inl e
      · exact .inr ⟨c, t, e, by rcases hc with rfl | rfl <;> decide⟩
    · refine .inr ⟨c, t ++ (Q ++ F), by rw [e]; rfl, ?_⟩
      simp at hc; subst hc; decide)]
  rfl
/-- Where the query ends. -/
theorem Three.query {r B F q : List UInt8} (h : Three r B (63 :: q) F) : upToL [35] (63 :: (q ++ F)) = q.length + 1 := by
  have := upToL_app [35] (63 :: q) F (fun c hc => in63 (fun d hd => by
    simp only [List.mem_cons, List.not_mem_nil, or_false] at hd
    subst hd
    exact h.noQ c hc))
  rw [List.cons_append] at this
  rw [this, stop_at _ _ (by
    rcases h.isF with e | ⟨f, e⟩
    · exact .inl e
    · exact .inr ⟨35, f, e, by decide⟩)]
  rfl
/-- Parts joined. -/
def joinK (l : Lk) : List UInt8 := (if l.hs then l.sc ++ [58] else []) ++ ((if l.hh then 47 :: 47 :: l.ho else []) ++ (l.pa ++ ((if l.hq then 63 :: l.qu else []) ++ if l.hf then 35 :: l.fr else [])))
theorem host_join (B : List UInt8) : (if (hostK B).1 then 47 :: 47 :: (hostK B).2.1 else []) ++ (hostK B).2.2 = B := by
  unfold hostK
  split
  · next c d C =>
    cases h : (c == 47 && d == 47) with
    | true =>
      simp at h
      obtain ⟨rfl, rfl⟩ := h
      simp
    | false => simp
  · simp
theorem join_three {s B Q F : List UInt8} (h : Three (restK s) B Q F) : joinK (threeK s B Q F) = (match colonL s with | some n => lower (s.take n) ++ [58] | none => []) ++ restK s := by
  have e := host_join B
  unfold joinK threeK
  simp only
  rw [h.all, ← List.append_assoc (if (hostK B).1 = true then _ else _), e]
  have e1 : (if decide (0 < Q.length) = true then 63 :: Q.drop 1 else []) = Q := by
    rcases h.isQ with e | ⟨q, e⟩ <;> subst e <;> rfl
  have e2 : (if decide (0 < F.length) = true then 35 :: F.drop 1 else []) = F := by
    rcases h.isF with e | ⟨q, e⟩ <;> subst e <;> rfl
  rw [e1, e2]
  cases colonL s <;> rfl

def Lk.v (l : Lk) : Value := .agg #[.string ⟨l.sc.toArray⟩, .string ⟨l.ho.toArray⟩, .string ⟨l.pa.toArray⟩, .string ⟨l.qu.toArray⟩, .string ⟨l.fr.toArray⟩, .bool l.hs, .bool l.hh, .bool l.hq, .bool l.hf]
end Go.Proofs.YtjhmphokmmmoaaaGreatDoor.L
