/- What is proved here: laws and contracts of LkBackM, LkTidM, one behind the other (each says its own). -/
import Derived.Test.YtjhmphokmmmoaaaGreatDoorLkVal
import Derived.Test.YtjhmphokmmmoaaaGreatDoorLkBlk
import Derived.Test.YtjhmphokmmmoaaaGreatDoorLkEncM
/- What is proved here: a link's parts joined are the link, but for the scheme's capitals; parted again they are the parts; they are texts of runes. -/
namespace Go.Proofs.YtjhmphokmmmoaaaGreatDoor.L
open Go.RowKit Go.Shelf Go.Proofs.YtjhmphokmmmoaaaGreatDoor.N Go.Proofs.YtjhmphokmmmoaaaGreatDoor.U

theorem byte_all (p : UInt8 → Bool) (h : ∀ n, n < 256 → p (UInt8.ofNat n) = true) (c : UInt8) : p c = true := by
  have := h c.toNat c.toNat_lt
  rwa [UInt8.ofNat_toNat] at this
theorem inner_facts (c : UInt8) : (!innerC c || (decide (c.toNat < 128) && !gapC c && !lowC c && innerC (lowB c) && !(lowB c == 58) && !(c == 58) && decide ((lowB c).toNat < 128) && !gapC (lowB c) && !lowC (lowB c) && (lowB (lowB c) == lowB c))) = true :=
  byte_all (fun c => !innerC c || (decide (c.toNat < 128) && !gapC c && !lowC c && innerC (lowB c) && !(lowB c == 58) && !(c == 58) && decide ((lowB c).toNat < 128) && !gapC (lowB c) && !lowC (lowB c) && (lowB (lowB c) == lowB c))) (by decide +kernel) c
theorem letter_facts (c : UInt8) : (!letterZ (c.toNat : Int) || (letterZ ((lowB c).toNat : Int) && !(c == 58))) = true :=
  byte_all (fun c => !letterZ (c.toNat : Int) || (letterZ ((lowB c).toNat : Int) && !(c == 58))) (by decide +kernel) c
theorem inner_open {c : UInt8} (h : innerC c = true) : c.toNat < 128 ∧ gapC c = false ∧ lowC c = false ∧ innerC (lowB c) = true ∧ (lowB c == 58) = false ∧ (c == 58) = false ∧ (lowB c).toNat < 128 ∧ gapC (lowB c) = false ∧ lowC (lowB c) = false ∧ lowB (lowB c) = lowB c := by
  have := inner_facts c
  rw [h] at this
  simp at this
  obtain ⟨⟨⟨⟨⟨⟨⟨⟨⟨a1, a2⟩, a3⟩, a4⟩, a5⟩, a6⟩, a7⟩, a8⟩, a9⟩, a10⟩ := this
  exact ⟨a1, a2, a3, a4, by simpa using a5, by simpa using a6, a7, a8, a9, a10⟩
theorem colonF_parts : ∀ (s : List UInt8) (n : Nat), colonF s = some n → ∃ X R, s = X ++ 58 :: R ∧ X.length = n ∧ ∀ c ∈ X, innerC c = true
  | [], _, h => by simp [colonF] at h
  | c :: t, n, h => by
    unfold colonF at h
    split at h
    · rename_i hc
      have hc' : c = 58 := by simpa using hc
      cases h
      exact ⟨[], t, by rw [hc']; rfl, rfl, fun d hd => by cases hd⟩
    · split at h
      · rename_i hi
        cases e : colonF t with
        | none => rw [e] at h; simp at h
        | some m =>
          rw [e] at h
          simp at h
          obtain ⟨X, R, e1, e2, e3⟩ := colonF_parts t m e
          refine ⟨c :: X, R, by rw [e1]; rfl, by simp [e2, h], fun d hd => ?_⟩
          rcases List.mem_cons.1 hd with rfl | hd
          · exact hi
          · exact e3 d hd
      · cases h
theorem colonF_make : ∀ (X R : List UInt8), (∀ c ∈ X, innerC c = true) → colonF (X ++ 58 :: R) = some X.length
  | [], R, _ => by simp [colonF]
  | c :: X, R, h => by
    have hc := h c (by simp)
    have ih := colonF_make X R (fun d hd => h d (by simp [hd]))
    rw [List.cons_append]
    unfold colonF
    rw [if_neg (by rw [(inner_open hc).2.2.2.2.2.1]; decide), if_pos hc, ih]
    simp
/-- A scheme and what stands behind it. -/
structure Sch (s X R : List UInt8) : Prop where
  all : s = X ++ 58 :: R
  inner : ∀ c ∈ X, innerC c = true
  letter : ∃ c t, X = c :: t ∧ letterZ (c.toNat : Int) = true
theorem colon_parts {s : List UInt8} {n : Nat} (h : colonL s = some n) : ∃ X R, Sch s X R ∧ X.length = n := by
  unfold colonL at h
  split at h
  · rename_i hl
    obtain ⟨X, R, e1, e2, e3⟩ := colonF_parts s n h
    refine ⟨X, R, ⟨e1, e3, ?_⟩, e2⟩
    cases X with
    | nil =>
      rw [e1] at hl
      have h58 : letterZ ((58 : UInt8).toNat : Int) = true := hl
      exact absurd h58 (by decide)
    | cons c t => exact ⟨c, t, rfl, by rw [e1] at hl; exact hl⟩
  · cases h
theorem Sch.colon {s X R : List UInt8} (h : Sch s X R) : colonL s = some X.length := by
  obtain ⟨c, t, rfl, hl⟩ := h.letter
  unfold colonL
  rw [h.all]
  rw [if_pos (by exact hl)]
  exact colonF_make _ _ h.inner
theorem Sch.low {s X R : List UInt8} (h : Sch s X R) : Sch (lower X ++ 58 :: R) (lower X) R := by
  refine ⟨rfl, fun c hc => ?_, ?_⟩
  · obtain ⟨d, hd, rfl⟩ := List.mem_map.1 hc
    exact (inner_open (h.inner d hd)).2.2.2.1
  · obtain ⟨c, t, rfl, hl⟩ := h.letter
    refine ⟨lowB c, t.map lowB, rfl, ?_⟩
    have := letter_facts c
    rw [hl] at this
    simp at this
    exact this.1
theorem lower_again {X : List UInt8} (h : ∀ c ∈ X, innerC c = true) : lower (lower X) = lower X := by
  unfold lower
  rw [List.map_map]
  exact List.map_congr_left (fun c hc => (inner_open (h c hc)).2.2.2.2.2.2.2.2.2)
theorem Sch.rest {s X R : List UInt8} (h : Sch s X R) : restK s = R := by
  unfold restK
  rw [h.colon]
  simp only
  rw [h.all]
  simp
theorem Sch.take {s X R : List UInt8} (h : Sch s X R) : s.take X.length = X := by rw [h.all]; simp
theorem Sch.split {s X R : List UInt8} (h : Sch s X R) : splitK s = partsK (lower X) true R := by
  rw [split_some h.colon, h.take]
  congr 1
  rw [h.all]
  simp
/-- Parted again: the same parts. -/
theorem Sch.split_lower {s X R : List UInt8} (h : Sch s X R) : splitK (lower X ++ 58 :: R) = splitK s := by
  rw [h.low.split, h.split, lower_again h.inner]
theorem Sch.join {s X R : List UInt8} (h : Sch s X R) : joinK (splitK s) = lower X ++ 58 :: R := by
  obtain ⟨B, Q, F, h3, e⟩ := split_three s
  rw [e, join_three h3, h.colon, h.rest]
  simp only
  rw [h.take]
  simp
theorem join_none {s : List UInt8} (h : colonL s = none) : joinK (splitK s) = s := by
  obtain ⟨B, Q, F, h3, e⟩ := split_three s
  rw [e, join_three h3, h]
  have : restK s = s := by unfold restK; rw [h]
  rw [this]
  rfl
/-- The joined text is one that stripping leaves. -/
theorem Sch.val {s X R : List UInt8} (h : Sch s X R) (hv : Val s) : Val (lower X ++ 58 :: R) := by
  have hR : Val R := by
    rw [h.all] at hv
    exact (hv.cut (by decide)).2
  exact (val_ascii _ (fun c hc => by obtain ⟨d, hd, rfl⟩ := List.mem_map.1 hc; exact (inner_open (h.inner d hd)).2.2.2.2.2.2.1)).app (hR.cons (by decide))
theorem Sch.bare {s X R : List UInt8} (h : Sch s X R) (hb : Bare s) : Bare (lower X ++ 58 :: R) := by
  refine ⟨fun c hc => ?_, .inr ⟨?_, ?_⟩⟩
  · rcases List.mem_append.1 hc with hc | hc
    · obtain ⟨d, hd, rfl⟩ := List.mem_map.1 hc
      exact (inner_open (h.inner d hd)).2.2.2.2.2.2.2.1
    · exact hb.1 c (by rw [h.all]; exact List.mem_append_right _ hc)
  · obtain ⟨c, t, rfl, _⟩ := h.letter
    exact ⟨lowB c, t.map lowB ++ 58 :: R, rfl, (inner_open (h.inner c (by simp))).2.2.2.2.2.2.2.2.1⟩
  · rcases hb.2 with e | ⟨_, c, t, e, hc⟩
    · rw [h.all] at e; simp at e
    · rw [h.all] at e
      rw [List.reverse_append] at e ⊢
      cases hr : (58 :: R).reverse with
      | nil => simp at hr
      | cons d u =>
        rw [hr] at e
        rw [List.cons_append] at e ⊢
        obtain ⟨e1, _⟩ := List.cons.inj e
        exact ⟨d, _, rfl, by rw [e1]; exact hc⟩
theorem bare_stripL (bs : List UInt8) : Bare (stripL bs) := bare_strip (mendL bs)
/-- The parts of a text of runes are such texts. -/
theorem parts_val (sc : List UInt8) (hb : Bool) (r : List UInt8) (hs : Val sc) (hr : Val r) : Val (partsK sc hb r).sc ∧ Val (partsK sc hb r).ho ∧ Val (partsK sc hb r).pa ∧ Val (partsK sc hb r).qu ∧ Val (partsK sc hb r).fr := by
  obtain ⟨B, Q, F, h, h1, h2, h3, h4⟩ := three r
  have hA : aheadK r = B ++ Q := h1.symm
  have e1 : (B ++ Q).drop (upToL [63] (B ++ Q) + 1) = Q.drop 1 := by
    have : (B ++ Q).drop (upToL [63] (B ++ Q) + 1) = ((B ++ Q).drop (upToL [63] (B ++ Q))).drop 1 := by rw [List.drop_drop]
    rw [this, ← h4]
  have e2 : r.drop (upToL [35] r + 1) = F.drop 1 := by
    have : r.drop (upToL [35] r + 1) = (r.drop (upToL [35] r)).drop 1 := by rw [List.drop_drop]
    rw [this, ← h2]
  have hBQ : Val (B ++ Q) ∧ Val (F.drop 1) := by
    have ha := h.all
    rw [← List.append_assoc] at ha
    rcases h.isF with e | ⟨f, e⟩
    · subst e
      rw [List.append_nil] at ha
      rw [← ha]
      exact ⟨hr, val_nil⟩
    · subst e
      rw [ha] at hr
      exact hr.cut (by decide)
  have hB : Val B ∧ Val (Q.drop 1) := by
    rcases h.isQ with e | ⟨q, e⟩
    · subst e
      rw [List.append_nil] at hBQ
      exact ⟨hBQ.1, val_nil⟩
    · subst e
      exact hBQ.1.cut (by decide)
  have hH : Val (hostK B).2.1 ∧ Val (hostK B).2.2 := by
    rcases hostK_cases B with ⟨_, k2, k3⟩ | ⟨C, eB, hC⟩
    · rw [k2, k3]; exact ⟨val_nil, hB.1⟩
    · have hCv : Val C := by
        have h5 := hB.1
        rw [eB] at h5
        exact (Val.cut (x := [47]) (y := C) (c := 47) h5 (by decide)).2
      rw [hC]
      simp only
      obtain ⟨_, g2⟩ := upToL_cut [47] C
      have e0 : C.take (upToL [47] C) ++ C.drop (upToL [47] C) = C := List.take_append_drop _ _
      rcases g2 with e | ⟨c, t, e, hc⟩
      · rw [e, List.append_nil] at e0
        rw [e, e0]
        exact ⟨hCv, val_nil⟩
      · simp at hc
        subst hc
        rw [e] at e0 ⊢
        rw [← e0] at hCv
        obtain ⟨v1, v2⟩ := hCv.cut (by decide)
        exact ⟨v1, v2.cons (by decide)⟩
  unfold partsK
  simp only
  rw [hA, ← h3, e1, e2]
  exact ⟨hs, hH.1, hH.2, hB.2, hBQ.2⟩
theorem split_val {s : List UInt8} (h : Val s) : (splitK s).mend = splitK s := by
  have key : ∀ sc hb r, Val sc → Val r → (partsK sc hb r).mend = partsK sc hb r := fun sc hb r hs hr => by
    obtain ⟨v0, v1, v2, v3, v4⟩ := parts_val sc hb r hs hr
    unfold Lk.mend
    rw [v0.mend, v1.mend, v2.mend, v3.mend, v4.mend]
  cases hc : colonL s with
  | none => rw [split_none hc]; exact key _ _ _ val_nil h
  | some n =>
    obtain ⟨X, R, hS, _⟩ := colon_parts hc
    rw [hS.split]
    refine key _ _ _ (val_ascii _ (fun c hc => by obtain ⟨d, hd, rfl⟩ := List.mem_map.1 hc; exact (inner_open (hS.inner d hd)).2.2.2.2.2.2.1)) ?_
    rw [hS.all] at h
    exact (h.cut (by decide)).2
end Go.Proofs.YtjhmphokmmmoaaaGreatDoor.L

/- What is proved here: a link with its backslashes turned ahead of its query and its fragment, as lists; escaped once, a text stays. -/
namespace Go.Proofs.YtjhmphokmmmoaaaGreatDoor.L
open Go.RowKit Go.Shelf Go.Proofs.YtjhmphokmmmoaaaGreatDoor.N Go.Proofs.YtjhmphokmmmoaaaGreatDoor.U

def slC (c : UInt8) : UInt8 := if c == 92 then 47 else c
/-- Each backslash as a slash, up to the query or the fragment. -/
def slL : List UInt8 → List UInt8
  | [] => []
  | c :: t => if c == 63 || c == 35 then c :: t else slC c :: slL t
theorem slL_length : ∀ s : List UInt8, (slL s).length = s.length
  | [] => rfl
  | c :: t => by
    unfold slL
    split
    · rfl
    · simp [slL_length t]
/-- What is neither ? nor # nor a backslash is passed over. -/
theorem slL_app : ∀ (x r : List UInt8), (∀ c ∈ x, (c == 63) = false ∧ (c == 35) = false ∧ (c == 92) = false) → slL (x ++ r) = x ++ slL r
  | [], _, _ => rfl
  | c :: t, r, h => by
    obtain ⟨h1, h2, h3⟩ := h c (by simp)
    rw [List.cons_append]
    show (if (c == 63 || c == 35) = true then c :: (t ++ r) else slC c :: slL (t ++ r)) = _
    rw [if_neg (by rw [h1, h2]; decide), slL_app t r (fun d hd => h d (by simp [hd]))]
    have e : slC c = c := by unfold slC; rw [if_neg (by rw [h3]; decide)]
    rw [e]
    rfl
theorem slL_eq : ∀ s : List UInt8, slL s = (s.take (upToL [63, 35] s)).map slC ++ s.drop (upToL [63, 35] s)
  | [] => rfl
  | c :: t => by
    rw [upToL_cons]
    unfold slL
    have hc : [63, 35].contains c = (c == 63 || c == 35) := by simp only [List.contains_cons, List.contains_nil, Bool.or_false]
    rw [hc]
    cases h : (c == 63 || c == 35) with
    | true => simp
    | false =>
      simp only [Bool.false_eq_true, if_false, List.take_succ_cons, List.drop_succ_cons, List.map_cons, List.cons_append]
      rw [slL_eq t]
/-- Byte by byte, as the document goes. -/
theorem slL_at : ∀ (s : List UInt8) (i : Nat), i < s.length → (slL s).getD i 0 = if (s.getD i 0 == 92) && decide (i < upToL [63, 35] s) then 47 else s.getD i 0
  | [], _, h => by simp at h
  | c :: t, i, h => by
    rw [upToL_cons]
    have hc : [63, 35].contains c = (c == 63 || c == 35) := by simp only [List.contains_cons, List.contains_nil, Bool.or_false]
    rw [hc]
    unfold slL
    cases hq : (c == 63 || c == 35) with
    | true => simp
    | false =>
      simp only [Bool.false_eq_true, if_false]
      cases i with
      | zero =>
        simp only [List.getD_cons_zero]
        unfold slC
        cases (c == 92) <;> simp
      | succ i =>
        simp only [List.getD_cons_succ]
        rw [slL_at t i (by simpa using h)]
        have : decide (i + 1 < upToL [63, 35] t + 1) = decide (i < upToL [63, 35] t) := by rw [decide_eq_decide]; omega
        rw [this]
theorem inner_turn (c : UInt8) : (!innerC c || (!(c == 63) && !(c == 35) && !(c == 92) && !(lowB c == 63) && !(lowB c == 35) && !(lowB c == 92))) = true :=
  byte_all (fun c => !innerC c || (!(c == 63) && !(c == 35) && !(c == 92) && !(lowB c == 63) && !(lowB c == 35) && !(lowB c == 92))) (by decide +kernel) c
/-- A scheme in small letters ahead of what is turned. -/
theorem slL_scheme {x r : List UInt8} (h : ∀ c ∈ x, innerC c = true) : slL (lower x ++ r) = lower x ++ slL r := by
  refine slL_app _ _ (fun c hc => ?_)
  obtain ⟨d, hd, rfl⟩ := List.mem_map.1 hc
  have := inner_turn d
  rw [h d hd] at this
  simp at this
  obtain ⟨⟨⟨_, h1⟩, h2⟩, h3⟩ := this
  exact ⟨by simpa using h1, by simpa using h2, by simpa using h3⟩
theorem hexD_hex : ∀ n, n < 16 → hexC (hexD n) = true := by decide +kernel
theorem hexL_two (c a b : UInt8) (t : List UInt8) (ha : hexC a = true) (hb : hexC b = true) : hexL (c :: a :: b :: t) 0 = true := by
  unfold hexL
  simp [ha, hb]
theorem hexL_open {c : UInt8} {t : List UInt8} (h : hexL (c :: t) 0 = true) : ∃ a b u, t = a :: b :: u ∧ hexC a = true ∧ hexC b = true := by
  unfold hexL at h
  simp only [Bool.and_eq_true, decide_eq_true_eq] at h
  obtain ⟨⟨h1, h2⟩, h3⟩ := h
  match t, h1 with
  | a :: b :: u, _ => exact ⟨a, b, u, rfl, h2, h3⟩
  | [_], h1 => simp at h1
  | [], h1 => simp at h1
/-- Escaped once, a text stays. -/
theorem enc_again : ∀ s : List UInt8, encS (encS s) = encS s
  | [] => rfl
  | c :: t => by
    have ih := enc_again t
    have hcl := c.toNat_lt
    have e : encS (c :: t) = (if badC (c :: t) 0 c then escC c else [c]) ++ encS t := rfl
    rw [e]
    cases hb : badC (c :: t) 0 c with
    | true =>
      rw [if_pos rfl]
      have h1 := hexD_hex (c.toNat / 16) (by omega)
      have h2 := hexD_hex (c.toNat % 16) (by omega)
      have e2 : escC c ++ encS t = 37 :: hexD (c.toNat / 16) :: hexD (c.toNat % 16) :: encS t := rfl
      rw [e2]
      generalize hexD (c.toNat / 16) = a at h1
      generalize hexD (c.toNat % 16) = b at h2
      have nb : badC (37 :: a :: b :: encS t) 0 37 = false := by
        unfold badC bad0
        rw [hexL_two 37 a b _ h1 h2]
        decide
      have e3 : encS (37 :: a :: b :: encS t) = (if badC (37 :: a :: b :: encS t) 0 37 then escC 37 else [37]) ++ encS (a :: b :: encS t) := rfl
      rw [e3, nb, if_neg (by decide), encS_hex a _ h1, encS_hex b _ h2, ih]
      rfl
    | false =>
      rw [if_neg (by decide)]
      have e2 : [c] ++ encS t = c :: encS t := rfl
      rw [e2]
      have nb : badC (c :: encS t) 0 c = false := by
        unfold badC bad0 at hb ⊢
        simp only [Bool.or_eq_false_iff] at hb ⊢
        obtain ⟨⟨⟨b1, b2⟩, b3⟩, b4⟩ := hb
        refine ⟨⟨⟨b1, b2⟩, ?_⟩, b4⟩
        cases hc : (c == 37) with
        | false => rfl
        | true =>
          rw [hc] at b3
          have hx : hexL (c :: t) 0 = true := by simpa using b3
          obtain ⟨a, b, u, rfl, ha, hbb⟩ := hexL_open hx
          rw [encS_hex a _ ha, encS_hex b _ hbb, hexL_two c a b _ ha hbb]
          rfl
      have e3 : encS (c :: encS t) = (if badC (c :: encS t) 0 c then escC c else [c]) ++ encS (encS t) := rfl
      rw [e3, nb, if_neg (by decide), ih]
      rfl
theorem inner_good (c : UInt8) : (!(innerC c || c == 58) || (!lowC c && !decide (127 ≤ c.toNat) && !(c == 37) && !marks.contains c)) = true :=
  byte_all (fun c => !(innerC c || c == 58) || (!lowC c && !decide (127 ≤ c.toNat) && !(c == 37) && !marks.contains c)) (by decide +kernel) c
/-- What may stand in a scheme, and its colon, is never escaped. -/
theorem good_not {c : UInt8} (h : (innerC c || c == 58) = true) (s : List UInt8) : badC s 0 c = false := by
  have := inner_good c
  rw [h] at this
  simp only [Bool.not_true, Bool.false_or, Bool.and_eq_true, Bool.not_eq_true'] at this
  obtain ⟨⟨⟨h1, h2⟩, h3⟩, h4⟩ := this
  unfold badC bad0
  rw [h1, h2, h3, h4]
  rfl
theorem encS_inner : ∀ (x r : List UInt8), (∀ c ∈ x, (innerC c || c == 58) = true) → encS (x ++ r) = x ++ encS r
  | [], _, _ => rfl
  | c :: t, r, h => by
    have e : encS (c :: (t ++ r)) = (if badC (c :: (t ++ r)) 0 c then escC c else [c]) ++ encS (t ++ r) := rfl
    rw [List.cons_append, e, good_not (h c (by simp)), if_neg (by decide), encS_inner t r (fun d hd => h d (by simp [hd]))]
    rfl
theorem slL_same : ∀ s : List UInt8, (∀ c ∈ s, (c == 92) = false) → slL s = s
  | [], _ => rfl
  | c :: t, h => by
    have hc := h c (by simp)
    show (if (c == 63 || c == 35) = true then c :: t else slC c :: slL t) = _
    split
    · rfl
    · rw [slL_same t (fun d hd => h d (by simp [hd]))]
      unfold slC
      rw [if_neg (by rw [hc]; decide)]
/-- A scheme's signs that come out were there. -/
theorem scheme_back : ∀ (X R s : List UInt8), encS (slL s) = X ++ 58 :: R → (∀ c ∈ X, innerC c = true) → ∃ R', s = X ++ 58 :: R'
  | X, R, [], h, _ => by
    have h' : ([] : List UInt8) = X ++ 58 :: R := h
    cases X <;> simp at h'
  | X, R, c :: t, h, hX => by
    -- what comes out first
    have key : ∀ (d : UInt8) (u : List UInt8), X ++ 58 :: R = d :: u → (innerC d || d == 58) = true := fun d u e => by
      cases X with
      | nil =>
        rw [List.nil_append] at e
        obtain ⟨rfl, _⟩ := List.cons.inj e
        decide
      | cons x X' =>
        rw [List.cons_append] at e
        obtain ⟨rfl, _⟩ := List.cons.inj e
        rw [hX _ (by simp)]; rfl
    have n37 : (innerC 37 || (37 : UInt8) == 58) = false := by decide
    have n63 : ∀ d : UInt8, (d == 63 || d == 35) = true → (innerC d || d == 58) = false := fun d hd => by
      simp at hd
      rcases hd with rfl | rfl <;> decide
    have sl : slL (c :: t) = if (c == 63 || c == 35) = true then c :: t else slC c :: slL t := rfl
    rw [sl] at h
    split at h
    · rename_i hq
      have e : encS (c :: t) = (if badC (c :: t) 0 c then escC c else [c]) ++ encS t := rfl
      rw [e] at h
      split at h
      · have := key 37 _ h.symm
        rw [n37] at this; cases this
      · have := key c _ h.symm
        rw [n63 c hq] at this; cases this
    · have e : encS (slC c :: slL t) = (if badC (slC c :: slL t) 0 (slC c) then escC (slC c) else [slC c]) ++ encS (slL t) := rfl
      rw [e] at h
      split at h
      · have := key 37 _ h.symm
        rw [n37] at this; cases this
      · have hk := key (slC c) _ h.symm
        have hc : slC c = c := by
          unfold slC at hk ⊢
          split
          · rename_i h92
            rw [if_pos h92] at hk
            exact absurd hk (by decide)
          · rfl
        rw [hc] at h
        have h' : c :: encS (slL t) = X ++ 58 :: R := h
        cases X with
        | nil =>
          rw [List.nil_append] at h'
          obtain ⟨rfl, _⟩ := List.cons.inj h'
          exact ⟨t, rfl⟩
        | cons x X' =>
          rw [List.cons_append] at h'
          obtain ⟨rfl, h2⟩ := List.cons.inj h'
          obtain ⟨R', rfl⟩ := scheme_back X' R t h2 (fun d hd => hX d (by simp [hd]))
          exact ⟨R', rfl⟩
/-- Without a scheme it stays without one. -/
theorem colon_stays {s : List UInt8} (h : colonL s = none) : colonL (encS (slL s)) = none := by
  cases hc : colonL (encS (slL s)) with
  | none => rfl
  | some n =>
    obtain ⟨X, R, hS, _⟩ := colon_parts hc
    obtain ⟨R', e⟩ := scheme_back X R s hS.all hS.inner
    have : Sch s X R' := ⟨e, hS.inner, hS.letter⟩
    rw [this.colon] at h
    cases h
end Go.Proofs.YtjhmphokmmmoaaaGreatDoor.L
