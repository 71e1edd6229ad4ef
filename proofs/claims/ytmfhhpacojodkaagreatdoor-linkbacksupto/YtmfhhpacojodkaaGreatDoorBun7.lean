/- What is proved here: laws and contracts of LkChk, LkUp, LkSplM, LkVal, one behind the other (each says its own). -/
import Derived.Test.YtmfhhpacojodkaaGreatDoorBun6
import Derived.Test.YtmfhhpacojodkaaGreatDoorLpTrim
/- What is proved here: the document's Check and upTo of layer 12. -/
namespace Go.Proofs.YtmfhhpacojodkaaGreatDoor.L
open Go.RowKit Go.Shelf Go.Proofs.YtmfhhpacojodkaaGreatDoor.N Go.Proofs.YtmfhhpacojodkaaGreatDoor.U

/-- The schemes that may never be. -/
def nevers : List (List UInt8) := [[106, 97, 118, 97, 115, 99, 114, 105, 112, 116], [100, 97, 116, 97], [118, 98, 115, 99, 114, 105, 112, 116], [98, 108, 111, 98], [102, 105, 108, 101], [102, 105, 108, 101, 115, 121, 115, 116, 101, 109], [97, 98, 111, 117, 116]]
def mayC (c : UInt8) : Bool := innerC c && !upperZ c.toNat
/-- May a scheme be allowed? -/
def checkOk (l : List UInt8) : Bool := decide (1 ≤ l.length) && decide (l.length ≤ 100) && decide (97 ≤ (l.getD 0 0).toNat) && decide ((l.getD 0 0).toNat ≤ 122) && l.all mayC && !nevers.contains l
def checkZ (l : List UInt8) : Int := if checkOk l then 0 else 120
theorem nev_cells (w : World) (t : TypeId) : ∀ j, j < 7 → (w.alloc (.cells (nevers.map fun n => Value.string ⟨n.toArray⟩).toArray t)).cell? ⟨w.heap.size, j, none⟩ = some (.string ⟨(nevers.getD j []).toArray⟩) := fun j hj => by
  rw [cell_of_row _ _ _ _ _ _ (World.alloc_heap_new w _)]
  match j, hj with
  | 0, _ => rfl
  | 1, _ => rfl
  | 2, _ => rfl
  | 3, _ => rfl
  | 4, _ => rfl
  | 5, _ => rfl
  | 6, _ => rfl
  | (n + 7), h => exact absurd h (by omega)
theorem nev_no (l : List UInt8) (h : ∀ j, j < 7 → (l == nevers.getD j []) = false) : nevers.contains l = false := by
  have h0 := h 0 (by omega)
  have h1 := h 1 (by omega)
  have h2 := h 2 (by omega)
  have h3 := h 3 (by omega)
  have h4 := h 4 (by omega)
  have h5 := h 5 (by omega)
  have h6 := h 6 (by omega)
  simp only [nevers, List.getD_cons_zero, List.getD_cons_succ] at h0 h1 h2 h3 h4 h5 h6
  simp only [nevers, List.contains_cons, h0, h1, h2, h3, h4, h5, h6, Bool.or_false, List.contains_nil]
theorem nev_yes (l : List UInt8) (j : Nat) (hj : j < 7) (h : (l == nevers.getD j []) = true) : nevers.contains l = true := by
  have e : l = nevers.getD j [] := by simpa using h
  rw [e]
  match j, hj with
  | 0, _ => rfl
  | 1, _ => rfl
  | 2, _ => rfl
  | 3, _ => rfl
  | 4, _ => rfl
  | 5, _ => rfl
  | 6, _ => rfl
  | (n + 7), h => exact absurd h (by omega)
end Go.Proofs.YtmfhhpacojodkaaGreatDoor.L

/- What is proved here: the document's upTo of layer 12: where the first one of some bytes stands. -/
namespace Go.Proofs.YtmfhhpacojodkaaGreatDoor.L
open Go.RowKit Go.Shelf Go.Proofs.YtmfhhpacojodkaaGreatDoor.N Go.Proofs.YtmfhhpacojodkaaGreatDoor.U

/-- Where the first one of some bytes stands, or the end. -/
def upToL (so s : List UInt8) : Nat := (s.takeWhile fun c => !so.contains c).length
theorem upToL_le (so s : List UInt8) : upToL so s ≤ s.length := (List.takeWhile_sublist _).length_le
theorem upTo_none (so : List UInt8) : ∀ (s : List UInt8), (∀ j, j < s.length → so.contains (s.getD j 0) = false) → upToL so s = s.length
  | [], _ => rfl
  | c :: t, h => by
    have h0 := h 0 (by simp)
    simp only [List.getD_cons_zero] at h0
    have h1 := upTo_none so t (fun j hj => by have := h (j + 1) (by simpa using hj); simpa using this)
    unfold upToL at h1 ⊢
    rw [List.takeWhile_cons, if_pos (by rw [h0]; rfl), List.length_cons, h1, List.length_cons]
theorem upTo_at (so : List UInt8) : ∀ (s : List UInt8) (i : Nat), i < s.length → (∀ j, j < i → so.contains (s.getD j 0) = false) → so.contains (s.getD i 0) = true → upToL so s = i
  | [], _, h, _, _ => by simp at h
  | c :: t, 0, _, _, h => by
    simp only [List.getD_cons_zero] at h
    unfold upToL
    rw [List.takeWhile_cons, if_neg (by rw [h]; decide)]; rfl
  | c :: t, i + 1, hi, hp, h => by
    have h0 := hp 0 (by omega)
    simp only [List.getD_cons_zero] at h0
    have h1 := upTo_at so t i (by simpa using hi) (fun j hj => by have := hp (j + 1) (by omega); simpa using this) (by simpa using h)
    unfold upToL at h1 ⊢
    rw [List.takeWhile_cons, if_pos (by rw [h0]; rfl), List.length_cons, h1]
theorem has_no (so : List UInt8) (c : UInt8) (h : ∀ j, j < so.length → (c == so.getD j 0) = false) : so.contains c = false := by
  rw [List.contains_eq_mem, decide_eq_false_iff_not]
  intro hm
  obtain ⟨j, hj, e⟩ := List.getElem_of_mem hm
  have h9 := h j hj
  have e9 : so.getD j 0 = c := by simp [hj, e]
  rw [e9] at h9
  simp at h9
theorem has_yes (so : List UInt8) (c : UInt8) (j : Nat) (hj : j < so.length) (h : (c == so.getD j 0) = true) : so.contains c = true := by
  have e : c = so.getD j 0 := by simpa using h
  rw [List.contains_eq_mem, decide_eq_true_iff, e]
  have e9 : so.getD j 0 = so[j] := by simp [hj]
  rw [e9]
  exact List.getElem_mem hj
end Go.Proofs.YtmfhhpacojodkaaGreatDoor.L

/- What is proved here: a link's parts as lists of bytes: parted, by the document's words and by the program's, and joined. -/
namespace Go.Proofs.YtmfhhpacojodkaaGreatDoor.L
open Go.RowKit Go.Shelf Go.Proofs.YtmfhhpacojodkaaGreatDoor.N Go.Proofs.YtmfhhpacojodkaaGreatDoor.U

theorem upToL_nil (so : List UInt8) : upToL so [] = 0 := rfl
theorem upToL_cons (so : List UInt8) (c : UInt8) (t : List UInt8) : upToL so (c :: t) = if so.contains c then 0 else upToL so t + 1 := by
  unfold upToL
  rw [List.takeWhile_cons]
  cases so.contains c <;> simp
theorem upToL_app (so : List UInt8) : ∀ (X Y : List UInt8), (∀ c ∈ X, so.contains c = false) → upToL so (X ++ Y) = X.length + upToL so Y
  | [], Y, _ => by simp
  | c :: t, Y, h => by
    rw [List.cons_append, upToL_cons, h c (by simp), upToL_app so t Y (fun d hd => h d (by simp [hd]))]
    simp; omega
theorem upToL_all (so X : List UInt8) (h : ∀ c ∈ X, so.contains c = false) : upToL so X = X.length := by
  have := upToL_app so X [] h
  rw [List.append_nil] at this
  rw [this]; rfl
/-- Cut at the first byte of some kind. -/
theorem upToL_cut (so : List UInt8) : ∀ (s : List UInt8), (∀ c ∈ s.take (upToL so s), so.contains c = false) ∧ (s.drop (upToL so s) = [] ∨ ∃ c t, s.drop (upToL so s) = c :: t ∧ so.contains c = true)
  | [] => ⟨by simp, .inl (by simp)⟩
  | c :: t => by
    rw [upToL_cons]
    cases h : so.contains c with
    | true => exact ⟨by simp, .inr ⟨c, t, by simp, h⟩⟩
    | false =>
      obtain ⟨h1, h2⟩ := upToL_cut so t
      refine ⟨fun d hd => ?_, ?_⟩
      · simp only [Bool.false_eq_true, if_false, List.take_succ_cons, List.mem_cons] at hd
        rcases hd with rfl | hd
        · exact h
        · exact h1 d hd
      · simpa using h2
/-- What is left of a stripped text behind its scheme: what stands ahead of the query and the fragment, the query with its mark, the fragment with its. -/
structure Three (r B Q F : List UInt8) : Prop where
  all : r = B ++ (Q ++ F)
  noB : ∀ c ∈ B, ((63 : UInt8) == c) = false ∧ ((35 : UInt8) == c) = false
  noQ : ∀ c ∈ Q, ((35 : UInt8) == c) = false
  isQ : Q = [] ∨ ∃ q, Q = 63 :: q
  isF : F = [] ∨ ∃ f, F = 35 :: f
theorem three (r : List UInt8) : ∃ B Q F, Three r B Q F ∧ B ++ Q = r.take (upToL [35] r) ∧ F = r.drop (upToL [35] r) ∧ B = (B ++ Q).take (upToL [63] (B ++ Q)) ∧ Q = (B ++ Q).drop (upToL [63] (B ++ Q)) := by
  obtain ⟨h1, h2⟩ := upToL_cut [35] r
  obtain ⟨A, hA⟩ : ∃ A, r.take (upToL [35] r) = A := ⟨_, rfl⟩
  obtain ⟨F, hF⟩ : ∃ F, r.drop (upToL [35] r) = F := ⟨_, rfl⟩
  have e : r = A ++ F := by rw [← hA, ← hF, List.take_append_drop]
  rw [hA] at h1
  rw [hF] at h2
  obtain ⟨g1, g2⟩ := upToL_cut [63] A
  obtain ⟨B, hB⟩ : ∃ B, A.take (upToL [63] A) = B := ⟨_, rfl⟩
  obtain ⟨Q, hQ⟩ : ∃ Q, A.drop (upToL [63] A) = Q := ⟨_, rfl⟩
  have e2 : A = B ++ Q := by rw [← hB, ← hQ, List.take_append_drop]
  rw [hB] at g1
  rw [hQ] at g2
  have n35 : ∀ c ∈ A, ((35 : UInt8) == c) = false := fun c hc => by
    have := h1 c hc
    simp at this ⊢
    exact fun e => this e.symm
  have n63 : ∀ c ∈ B, ((63 : UInt8) == c) = false := fun c hc => by
    have := g1 c hc
    simp at this ⊢
    exact fun e => this e.symm
  refine ⟨B, Q, F, ⟨?_, ?_, ?_, ?_, ?_⟩, ?_, ?_, ?_, ?_⟩
  · rw [e, e2, List.append_assoc]
  · exact fun c hc => ⟨n63 c hc, n35 c (by rw [e2]; simp [hc])⟩
  · exact fun c hc => n35 c (by rw [e2]; simp [hc])
  · rcases g2 with h | ⟨c, t, h, hc⟩
    · exact .inl h
    · simp at hc; subst hc; exact .inr ⟨t, h⟩
  · rcases h2 with h | ⟨c, t, h, hc⟩
    · exact .inl h
    · simp at hc; subst hc; exact .inr ⟨t, h⟩
  · rw [hA, e2]
  · exact hF.symm
  · rw [← e2]; exact hB.symm
  · rw [← e2]; exact hQ.symm
/-- A link's parts. -/
structure Lk where
  sc : List UInt8
  ho : List UInt8
  pa : List UInt8
  qu : List UInt8
  fr : List UInt8
  hs : Bool
  hh : Bool
  hq : Bool
  hf : Bool
/-- What is told ahead of the query: is there a host, which, and the path. -/
def hostK : List UInt8 → Bool × List UInt8 × List UInt8
  | c :: d :: C => if c == 47 && d == 47 then (true, C.take (upToL [47] C), C.drop (upToL [47] C)) else (false, [], c :: d :: C)
  | B => (false, [], B)
/-- What stands behind the scheme of a stripped text. -/
def restK (s : List UInt8) : List UInt8 := match colonL s with | some n => s.drop (n + 1) | none => s
def aheadK (r : List UInt8) : List UInt8 := r.take (upToL [35] r)
def splitK (s : List UInt8) : Lk where
  sc := match colonL s with | some n => lower (s.take n) | none => []
  hs := (colonL s).isSome
  fr := (restK s).drop (upToL [35] (restK s) + 1)
  hf := decide (upToL [35] (restK s) < (restK s).length)
  qu := (aheadK (restK s)).drop (upToL [63] (aheadK (restK s)) + 1)
  hq := decide (upToL [63] (aheadK (restK s)) < (aheadK (restK s)).length)
  hh := (hostK ((aheadK (restK s)).take (upToL [63] (aheadK (restK s))))).1
  ho := (hostK ((aheadK (restK s)).take (upToL [63] (aheadK (restK s))))).2.1
  pa := (hostK ((aheadK (restK s)).take (upToL [63] (aheadK (restK s))))).2.2
/-- The parts, by what stands ahead of the query, the query with its mark and the fragment with its. -/
def threeK (s B Q F : List UInt8) : Lk where
  sc := match colonL s with | some n => lower (s.take n) | none => []
  hs := (colonL s).isSome
  fr := F.drop 1
  hf := decide (0 < F.length)
  qu := Q.drop 1
  hq := decide (0 < Q.length)
  hh := (hostK B).1
  ho := (hostK B).2.1
  pa := (hostK B).2.2
theorem split_three (s : List UInt8) : ∃ B Q F, Three (restK s) B Q F ∧ splitK s = threeK s B Q F := by
  obtain ⟨B, Q, F, h, h1, h2, h3, h4⟩ := three (restK s)
  refine ⟨B, Q, F, h, ?_⟩
  have hA : aheadK (restK s) = B ++ Q := h1.symm
  unfold splitK threeK
  rw [hA, ← h3]
  congr 1
  · have : (B ++ Q).drop (upToL [63] (B ++ Q) + 1) = ((B ++ Q).drop (upToL [63] (B ++ Q))).drop 1 := by rw [List.drop_drop]
    rw [this, ← h4]
  · have : (restK s).drop (upToL [35] (restK s) + 1) = ((restK s).drop (upToL [35] (restK s))).drop 1 := by rw [List.drop_drop]
    rw [this, ← h2]
  · have e := congrArg List.length h4
    rw [List.length_drop] at e
    rw [decide_eq_decide]
    omega
  · have e := congrArg List.length h2
    rw [List.length_drop] at e
    rw [decide_eq_decide]
    omega
theorem in63 {so : List UInt8} {c : UInt8} (h : ∀ d ∈ so, (d == c) = false) : so.contains c = false := by
  rw [List.contains_eq_mem, decide_eq_false_iff_not]
  intro hm
  have := h c hm
  simp at this
theorem stop_at (so : List UInt8) (Y : List UInt8) (h : Y = [] ∨ ∃ c t, Y = c :: t ∧ so.contains c = true) : upToL so Y = 0 := by
  rcases h with rfl | ⟨c, t, rfl, h⟩
  · rfl
  · rw [upToL_cons, h]; rfl
theorem Three.tail {r B Q F : List UInt8} (h : Three r B Q F) : Q ++ F = [] ∨ ∃ c t, Q ++ F = c :: t ∧ (c = 63 ∨ c = 35) := by
  rcases h.isQ with e | ⟨q, e⟩ <;> rcases h.isF with e' | ⟨f, e'⟩ <;> subst e <;> subst e'
  · exact .inl rfl
  · exact .inr ⟨35, f, rfl, .inr rfl⟩
  · exact .inr ⟨63, q ++ [], rfl, .inl rfl⟩
  · exact .inr ⟨63, q ++ 35 :: f, rfl, .inl rfl⟩
/-- Where the path ends. -/
theorem Three.path {r B Q F : List UInt8} (h : Three r B Q F) (P : List UInt8) (hP : ∀ c ∈ P, c ∈ B) : upToL [63, 35] (P ++ (Q ++ F)) = P.length := by
  rw [upToL_app _ P _ (fun c hc => in63 (fun d hd => by
    have := h.noB c (hP c hc)
    simp only [List.mem_cons, List.not_mem_nil, or_false] at hd
    rcases hd with rfl | rfl
    · exact this.1
    · exact this.2)), stop_at _ _ (by
    rcases h.tail with e | ⟨c, t, e, hc⟩
    · exact .inl e
    · exact .inr ⟨c, t, e, by rcases hc with rfl | rfl <;> decide⟩)]
  rfl
/-- Where the host ends. -/
theorem Three.host {r B Q F : List UInt8} (h : Three r B Q F) (C : List UInt8) (hC : ∀ c ∈ C, c ∈ B) : upToL [47, 63, 35] (C ++ (Q ++ F)) = upToL [47] C := by
  obtain ⟨h1, h2⟩ := upToL_cut [47] C
  have hle : (C.take (upToL [47] C)).length = upToL [47] C := by have := upToL_le [47] C; rw [List.length_take]; omega
  have e0 : C.take (upToL [47] C) ++ C.drop (upToL [47] C) = C := List.take_append_drop _ _
  rw [← hle]
  generalize C.take (upToL [47] C) = H at *
  generalize C.drop (upToL [47] C) = P at *
  subst e0
  rw [List.append_assoc, upToL_app _ _ _ (fun c hc => in63 (fun d hd => by
    have h0 := h1 c hc
    have := h.noB c (hC c (by simp [hc]))
    simp only [List.mem_cons, List.not_mem_nil, or_false] at hd
    rcases hd with rfl | rfl | rfl
    · simp at h0 ⊢; exact fun e => h0 e.symm
    · exact this.1
    · exact this.2)), stop_at _ _ (by
    rcases h2 with e | ⟨c, t, e, hc⟩
    · rw [e, List.nil_append]
      rcases h.tail with e | ⟨c, t, e, hc⟩
      · exact .inl e
      · exact .inr ⟨c, t, e, by rcases hc with rfl | rfl <;> decide⟩
    · refine .inr ⟨c, t ++ (Q ++ F), by rw [e]; rfl, ?_⟩
      simp at hc; subst hc; decide)]
  rfl
/-- Where the query ends. -/
theorem Three.query {r B F q : List UInt8} (h : Three r B (63 :: q) F) : upToL [35] (63 :: (q ++ F)) = q.length + 1 := by
  have := upToL_app [35] (63 :: q) F (fun c hc => in63 (fun d hd => by
    simp only [List.mem_cons, List.not_mem_nil, or_false] at hd
    subst hd
    exact h.noQ c hc))
  rw [List.cons_append] at this
  rw [this, stop_at _ _ (by
    rcases h.isF with e | ⟨f, e⟩
    · exact .inl e
    · exact .inr ⟨35, f, e, by decide⟩)]
  rfl
/-- Parts joined. -/
def joinK (l : Lk) : List UInt8 := (if l.hs then l.sc ++ [58] else []) ++ ((if l.hh then 47 :: 47 :: l.ho else []) ++ (l.pa ++ ((if l.hq then 63 :: l.qu else []) ++ if l.hf then 35 :: l.fr else [])))
theorem host_join (B : List UInt8) : (if (hostK B).1 then 47 :: 47 :: (hostK B).2.1 else []) ++ (hostK B).2.2 = B := by
  unfold hostK
  split
  · next c d C =>
    cases h : (c == 47 && d == 47) with
    | true =>
      simp at h
      obtain ⟨rfl, rfl⟩ := h
      simp
    | false => simp
  · simp
theorem join_three {s B Q F : List UInt8} (h : Three (restK s) B Q F) : joinK (threeK s B Q F) = (match colonL s with | some n => lower (s.take n) ++ [58] | none => []) ++ restK s := by
  have e := host_join B
  unfold joinK threeK
  simp only
  rw [h.all, ← List.append_assoc (if (hostK B).1 = true then _ else _), e]
  have e1 : (if decide (0 < Q.length) = true then 63 :: Q.drop 1 else []) = Q := by
    rcases h.isQ with e | ⟨q, e⟩ <;> subst e <;> rfl
  have e2 : (if decide (0 < F.length) = true then 35 :: F.drop 1 else []) = F := by
    rcases h.isF with e | ⟨q, e⟩ <;> subst e <;> rfl
  rw [e1, e2]
  cases colonL s <;> rfl

def Lk.v (l : Lk) : Value := .agg #[.string ⟨l.sc.toArray⟩, .string ⟨l.ho.toArray⟩, .string ⟨l.pa.toArray⟩, .string ⟨l.qu.toArray⟩, .string ⟨l.fr.toArray⟩, .bool l.hs, .bool l.hh, .bool l.hq, .bool l.hf]
end Go.Proofs.YtmfhhpacojodkaaGreatDoor.L

/- What is proved here: texts that are UTF-8: mended they stay; what is stripped is such a text, and so are its parts. -/
namespace Go.Proofs.YtmfhhpacojodkaaGreatDoor.L
open Go.RowKit Go.Shelf Go.Proofs.YtmfhhpacojodkaaGreatDoor.N Go.Proofs.YtmfhhpacojodkaaGreatDoor.U

/-- A text of runes. -/
def Val (s : List UInt8) : Prop := ∃ zs, AllV zs ∧ s = encs zs
theorem Val.mend {s : List UInt8} (h : Val s) : mendL s = s := by
  obtain ⟨zs, hV, rfl⟩ := h
  have hm : zs.map mendR = zs := by
    have : ∀ z ∈ zs, mendR z = z := fun z hz => by unfold mendR; rw [if_pos (hV z hz)]
    exact (List.map_congr_left this).trans (List.map_id zs)
  unfold mendL
  rw [(runesI_encs zs).1, hm]
theorem val_mend (bs : List UInt8) : Val (mendL bs) := ⟨runesI bs, runesI_valid bs, rfl⟩
theorem val_strip (bs : List UInt8) : Val (stripL bs) := by
  have hV := runesI_valid bs
  refine ⟨stripR (runesI bs), fun z hz => trimR_valid hV z (List.mem_filter.1 hz).1, ?_⟩
  unfold stripL mendL
  exact strip_enc _ hV
theorem Val.app {x y : List UInt8} (hx : Val x) (hy : Val y) : Val (x ++ y) := by
  obtain ⟨a, ha, rfl⟩ := hx
  obtain ⟨b, hb, rfl⟩ := hy
  exact ⟨a ++ b, fun z hz => by rcases List.mem_append.1 hz with h | h; exact ha z h; exact hb z h, (encs_app a b).symm⟩
theorem val_nil : Val [] := ⟨[], fun z hz => absurd hz (by simp), rfl⟩
theorem cut_runes : ∀ (zs : List Int), AllV zs → ∀ (x : List UInt8) (c : UInt8) (y : List UInt8), encs zs = x ++ c :: y → c.toNat < 128 → Val x ∧ Val y
  | [], _, x, c, y, h, _ => by simp [encs] at h
  | z :: t, hV, x, c, y, h, hc => by
    have hT : AllV t := fun u hu => hV u (by simp [hu])
    have hz : AllV [z] := fun u hu => by simp at hu; subst hu; exact hV _ (by simp)
    rw [encs_cons] at h
    by_cases hl : (enc z).length ≤ x.length
    · obtain ⟨x', rfl⟩ : ∃ x', x = enc z ++ x' := by
        refine ⟨x.drop (enc z).length, ?_⟩
        have h1 := congrArg (List.take (enc z).length) h
        rw [List.take_left, List.take_append_of_le_length hl] at h1
        have h2 := List.take_append_drop (enc z).length x
        rw [← h1] at h2
        exact h2.symm
      rw [List.append_assoc] at h
      have h2 := List.append_cancel_left h
      obtain ⟨g1, g2⟩ := cut_runes t hT x' c y h2 hc
      exact ⟨Val.app ⟨[z], hz, (encs_one z).symm⟩ g1, g2⟩
    · have hmem : c ∈ enc z := by
        have h1 : (enc z ++ encs t)[x.length]? = some c := by rw [h]; simp
        rw [List.getElem?_append_left (by omega)] at h1
        exact List.mem_of_getElem? h1
      have hr : 0 ≤ z ∧ z < 128 := by
        by_cases hn : 0 ≤ z ∧ z < 128
        · exact hn
        · have := enc_high hn c hmem; omega
      have hd := enc_one hr.1 hr.2
      have hen : (enc z).length = 1 := by rw [hd]; rfl
      have hx0 : x = [] := List.eq_nil_of_length_eq_zero (by omega)
      subst hx0
      rw [hd] at h
      simp at h
      rw [← h.2]
      exact ⟨val_nil, t, hT, rfl⟩
theorem Val.cut {x y : List UInt8} {c : UInt8} (h : Val (x ++ c :: y)) (hc : c.toNat < 128) : Val x ∧ Val y := by
  obtain ⟨zs, hV, e⟩ := h
  exact cut_runes zs hV x c y e.symm hc
theorem val_one (c : UInt8) (hc : c.toNat < 128) : Val [c] := by
  refine ⟨[(c.toNat : Int)], fun z hz => ?_, ?_⟩
  · simp at hz; subst hz; exact (valid_iff _).2 (by omega)
  · rw [encs_one, enc_one (by omega) (by omega)]
    simp
theorem val_ascii : ∀ (l : List UInt8), (∀ c ∈ l, c.toNat < 128) → Val l
  | [], _ => val_nil
  | c :: t, h => (val_one c (h c (by simp))).app (val_ascii t (fun d hd => h d (by simp [hd])))
theorem Val.cons {c : UInt8} {t : List UInt8} (hc : c.toNat < 128) (h : Val t) : Val (c :: t) := (val_one c hc).app h
/-- Bytes stripped: first without gaps, then without low ones at the ends. -/
theorem gapC_low {c : UInt8} (h : gapC c = true) : lowC c = true := by
  unfold gapC at h
  simp at h
  rcases h with (rfl | rfl) | rfl <;> decide
theorem dropB_filter : ∀ (l : List UInt8), (l.dropWhile lowC).filter (fun c => !gapC c) = (l.filter fun c => !gapC c).dropWhile lowC
  | [] => rfl
  | z :: t => by
    have ih := dropB_filter t
    cases hl : lowC z with
    | true =>
      rw [List.dropWhile_cons, if_pos hl, ih, List.filter_cons]
      cases hg : gapC z with
      | true => rw [if_neg (by decide)]
      | false => rw [if_pos (by decide), List.dropWhile_cons, if_pos hl]
    | false =>
      have hg : gapC z = false := by
        cases h : gapC z with
        | true => rw [gapC_low h] at hl; cases hl
        | false => rfl
      rw [List.dropWhile_cons, if_neg (by rw [hl]; decide), List.filter_cons, if_pos (by rw [hg]; decide), List.dropWhile_cons, if_neg (by rw [hl]; decide)]
def trimB (l : List UInt8) : List UInt8 := ((l.dropWhile lowC).reverse.dropWhile lowC).reverse
theorem stripB_filter (l : List UInt8) : stripM l = trimB (l.filter fun c => !gapC c) := by
  unfold stripM trimB
  rw [List.filter_reverse, dropB_filter, List.filter_reverse, dropB_filter]
theorem drop_head (l : List UInt8) : l.dropWhile lowC = [] ∨ ∃ c t, l.dropWhile lowC = c :: t ∧ lowC c = false := by
  induction l with
  | nil => exact .inl rfl
  | cons c t ih =>
    rw [List.dropWhile_cons]
    cases h : lowC c with
    | true => simpa using ih
    | false => exact .inr ⟨c, t, by simp, h⟩
/-- A text that stripping leaves. -/
def Bare (s : List UInt8) : Prop := (∀ c ∈ s, gapC c = false) ∧ (s = [] ∨ ((∃ c t, s = c :: t ∧ lowC c = false) ∧ ∃ c t, s.reverse = c :: t ∧ lowC c = false))
theorem Bare.strip {s : List UInt8} (h : Bare s) : stripM s = s := by
  have hf : s.filter (fun c => !gapC c) = s := List.filter_eq_self.2 (fun c hc => by rw [h.1 c hc]; rfl)
  rw [stripB_filter, hf]
  rcases h.2 with rfl | ⟨⟨c, t, e, hc⟩, d, u, e2, hd⟩
  · rfl
  · unfold trimB
    have h1 : s.dropWhile lowC = s := by rw [e, List.dropWhile_cons, if_neg (by rw [hc]; decide)]
    have h2 : s.reverse.dropWhile lowC = s.reverse := by rw [e2, List.dropWhile_cons, if_neg (by rw [hd]; decide)]
    rw [h1, h2, List.reverse_reverse]
theorem bare_strip (l : List UInt8) : Bare (stripM l) := by
  refine ⟨fun c hc => by have := (List.mem_filter.1 (show c ∈ ((l.dropWhile lowC).reverse.dropWhile lowC).reverse.filter (fun c => !gapC c) from hc)).2; simpa using this, ?_⟩
  rw [stripB_filter]
  generalize l.filter (fun c => !gapC c) = m
  unfold trimB
  rcases drop_head (m.dropWhile lowC).reverse with e | ⟨c, t, e, hc⟩
  · rw [e]; exact .inl rfl
  · right
    refine ⟨?_, c, t, by rw [List.reverse_reverse, e], hc⟩
    rcases drop_head m with e3 | ⟨d, u, e3, hd⟩
    · rw [e3] at e; simp at e
    · refine ⟨d, ?_⟩
      have hs : (m.dropWhile lowC).reverse.dropWhile lowC <:+ (m.dropWhile lowC).reverse := List.dropWhile_suffix _
      obtain ⟨x, hx⟩ := hs
      have hr := congrArg List.reverse hx
      rw [List.reverse_append, List.reverse_reverse, e, e3] at hr
      rw [e]
      cases hq : (c :: t).reverse with
      | nil => simp at hq
      | cons a v =>
        rw [hq] at hr
        simp at hr
        exact ⟨v, by rw [hr.1], hd⟩
theorem strip_again (bs : List UInt8) : stripL (stripL bs) = stripL bs := by
  have h1 := (val_strip bs).mend
  show stripM (mendL (stripL bs)) = _
  rw [h1]
  exact (bare_strip (mendL bs)).strip
/-- A text of runes that stripping leaves, stripped. -/
theorem strip_bare {s : List UInt8} (hv : Val s) (hb : Bare s) : stripL s = s := by
  show stripM (mendL s) = s
  rw [hv.mend, hb.strip]
end Go.Proofs.YtmfhhpacojodkaaGreatDoor.L
