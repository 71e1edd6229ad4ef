/- What is proved here: laws and contracts of LkResM, LkBackM, one behind the other (each says its own). -/
import Derived.Test.YtmfhhpacojodkaaGreatDoorBun7
import Derived.Test.YtmfhhpacojodkaaGreatDoorBun20
import Derived.Test.YtmfhhpacojodkaaGreatDoorLkDotM
/- What is proved here: a reference resolved, as lists: what the document says. -/
namespace Go.Proofs.YtmfhhpacojodkaaGreatDoor.L
open Go.RowKit Go.Shelf Go.Proofs.YtmfhhpacojodkaaGreatDoor.N Go.Proofs.YtmfhhpacojodkaaGreatDoor.U

/-- How long a path is up to its last slash, that one too. -/
def folderN (p : List UInt8) : Nat := (p.reverse.dropWhile fun c => !(c == 47)).length
theorem drop_none (q : UInt8 → Bool) : ∀ (a b : List UInt8), (∀ c ∈ a, q c = true) → (a ++ b).dropWhile q = b.dropWhile q
  | [], _, _ => rfl
  | c :: t, b, h => by rw [List.cons_append, List.dropWhile_cons, if_pos (h c (by simp)), drop_none q t b (fun d hd => h d (by simp [hd]))]
theorem folderN_at (p : List UInt8) (k : Nat) (hk : k ≤ p.length) (h1 : ∀ j, k ≤ j → j < p.length → (p.getD j 0 == 47) = false) (h2 : k = 0 ∨ (p.getD (k - 1) 0 == 47) = true) : folderN p = k := by
  have e : p.reverse = (p.drop k).reverse ++ (p.take k).reverse := by rw [← List.reverse_append, List.take_append_drop]
  unfold folderN
  rw [e, drop_none _ _ _ (fun c hc => by
    rw [List.mem_reverse] at hc
    obtain ⟨j, hj, rfl⟩ := List.getElem_of_mem hc
    have hj' : k + j < p.length := by simpa using (by simpa using hj : j < p.length - k) |> fun h => (by omega : k + j < p.length)
    have := h1 (k + j) (by omega) hj'
    have e2 : p.getD (k + j) 0 = (p.drop k)[j] := by simp [hj']
    rw [e2] at this
    rw [this]; rfl)]
  rcases h2 with rfl | h2
  · simp
  · have hk0 : 0 < k := by
      rcases Nat.eq_zero_or_pos k with e | e
      · subst e
        by_cases hl : 0 < p.length
        · have := h1 0 (Nat.le_refl _) hl; rw [Nat.zero_sub] at h2; rw [h2] at this; cases this
        · have : p = [] := List.eq_nil_of_length_eq_zero (by omega)
          subst this; exact absurd h2 (by decide)
      · exact e
    obtain ⟨t, ht⟩ : ∃ t, p.take k = t ++ [47] := by
      refine ⟨p.take (k - 1), ?_⟩
      have h3 : p.getD (k - 1) 0 = 47 := by simpa using h2
      have h4 : k - 1 < p.length := by omega
      have h5 := List.take_succ_eq_append_getElem h4
      rw [show k - 1 + 1 = k by omega] at h5
      rw [h5]
      have e2 : p.getD (k - 1) 0 = p[k - 1] := by simp [h4]
      rw [← e2, h3]
    have hl := congrArg List.length ht
    rw [List.length_take, List.length_append] at hl
    rw [ht, List.reverse_append, List.reverse_cons, List.reverse_nil, List.nil_append, List.cons_append, List.dropWhile_cons, if_neg (by decide)]
    simp at hl ⊢
    omega
theorem folderN_cases (p : List UInt8) : (folderN p = 0 ∨ (p.getD (folderN p - 1) 0 == 47) = true) ∧ folderN p ≤ p.length ∧ ∀ j, folderN p ≤ j → j < p.length → (p.getD j 0 == 47) = false := by
  induction hn : p.length generalizing p with
  | zero =>
    have : p = [] := List.eq_nil_of_length_eq_zero hn
    subst this
    exact ⟨.inl rfl, by simp [folderN], fun j _ hj => by omega⟩
  | succ n ih =>
    have h4 : n < p.length := by omega
    have e2 : p.getD n 0 = p[n] := by simp [h4]
    have hp : p = p.take n ++ [p[n]] := by
      have := List.take_succ_eq_append_getElem h4
      rw [show n + 1 = p.length by omega, List.take_length] at this
      exact this
    cases hc : (p.getD n 0 == 47) with
    | true =>
      have : folderN p = n + 1 := folderN_at p (n + 1) (by omega) (fun j h1 h2 => by omega) (.inr (by simpa using hc))
      rw [this]
      exact ⟨.inr (by simpa using hc), by omega, fun j h1 h2 => by omega⟩
    | false =>
      have ht : (p.take n).length = n := by simp; omega
      obtain ⟨i1, i2, i3⟩ := ih (p.take n) ht
      have g : ∀ j, j < n → (p.take n).getD j 0 = p.getD j 0 := fun j hj => by simp [hj]
      have hF : folderN p = folderN (p.take n) := by
        refine folderN_at p _ (by omega) (fun j h1 h2 => ?_) ?_
        · by_cases e : j = n
          · rw [e]; exact hc
          · rw [← g j (by omega)]; exact i3 j h1 (by omega)
        · rcases i1 with h | h
          · exact .inl h
          · by_cases e : folderN (p.take n) = 0
            · exact .inl e
            · right; rw [← g _ (by omega)]; exact h
      rw [hF]
      refine ⟨?_, by omega, fun j h1 h2 => ?_⟩
      · rcases i1 with h | h
        · exact .inl h
        · by_cases e : folderN (p.take n) = 0
          · exact .inl e
          · right; rw [← g _ (by omega)]; exact h
      · by_cases e : j = n
        · rw [e]; exact hc
        · rw [← g j (by omega)]; exact i3 j h1 (by omega)
def folderK (b : Lk) : List UInt8 := if b.hh && (b.pa == []) then [47] else b.pa.take (folderN b.pa)
/-- What a reference says in a place that a base names. -/
def resolveK (b r : Lk) : Lk :=
  if r.hs then { r with pa := dotsM r.pa }
  else if r.hh then { r with pa := dotsM r.pa, sc := b.sc, hs := b.hs }
  else if r.pa == [] then { r with pa := b.pa, qu := if r.hq then r.qu else b.qu, hq := if r.hq then r.hq else b.hq, sc := b.sc, hs := b.hs, ho := b.ho, hh := b.hh }
  else if r.pa.getD 0 0 == 47 then { r with pa := dotsM r.pa, sc := b.sc, hs := b.hs, ho := b.ho, hh := b.hh }
  else { r with pa := dotsM (folderK b ++ r.pa), sc := b.sc, hs := b.hs, ho := b.ho, hh := b.hh }
theorem val_folder {b : Lk} (h : Val b.pa) : Val (folderK b) := by
  unfold folderK
  split
  · exact val_one 47 (by decide)
  · obtain ⟨h1, h2, _⟩ := folderN_cases b.pa
    rcases h1 with e | e
    · rw [e]; exact val_nil
    · by_cases e0 : folderN b.pa = 0
      · rw [e0]; exact val_nil
      · have h4 : folderN b.pa - 1 < b.pa.length := by omega
        have h5 := List.take_succ_eq_append_getElem h4
        rw [show folderN b.pa - 1 + 1 = folderN b.pa by omega] at h5
        have e2 : b.pa.getD (folderN b.pa - 1) 0 = b.pa[folderN b.pa - 1] := by simp [h4]
        have e3 : b.pa[folderN b.pa - 1] = 47 := by rw [← e2]; simpa using e
        rw [h5, e3]
        have h6 : b.pa = b.pa.take (folderN b.pa - 1) ++ 47 :: b.pa.drop (folderN b.pa) := by
          have h7 := List.take_append_drop (folderN b.pa) b.pa
          rw [h5, e3] at h7
          rw [List.append_assoc] at h7
          exact h7.symm
        rw [h6] at h
        exact (h.cut (by decide)).1.app (val_one 47 (by decide))
theorem folder_le (b : Lk) : (folderK b).length ≤ b.pa.length + 1 := by
  unfold folderK
  split
  · simp
  · simp; omega
end Go.Proofs.YtmfhhpacojodkaaGreatDoor.L

/- What is proved here: a link's parts joined are the link, but for the scheme's capitals; parted again they are the parts; they are texts of runes. -/
namespace Go.Proofs.YtmfhhpacojodkaaGreatDoor.L
open Go.RowKit Go.Shelf Go.Proofs.YtmfhhpacojodkaaGreatDoor.N Go.Proofs.YtmfhhpacojodkaaGreatDoor.U

theorem byte_all (p : UInt8 → Bool) (h : ∀ n, n < 256 → p (UInt8.ofNat n) = true) (c : UInt8) : p c = true := by
  have := h c.toNat c.toNat_lt
  rwa [UInt8.ofNat_toNat] at this
theorem inner_facts (c : UInt8) : (!innerC c || (decide (c.toNat < 128) && !gapC c && !lowC c && innerC (lowB c) && !(lowB c == 58) && !(c == 58) && decide ((lowB c).toNat < 128) && !gapC (lowB c) && !lowC (lowB c) && (lowB (lowB c) == lowB c))) = true :=
  byte_all (fun c => !innerC c || (decide (c.toNat < 128) && !gapC c && !lowC c && innerC (lowB c) && !(lowB c == 58) && !(c == 58) && decide ((lowB c).toNat < 128) && !gapC (lowB c) && !lowC (lowB c) && (lowB (lowB c) == lowB c))) (by decide +kernel) c
theorem letter_facts (c : UInt8) : (!letterZ (c.toNat : Int) || (letterZ ((lowB c).toNat : Int) && !(c == 58))) = true :=
  byte_all (fun c => !letterZ (c.toNat : Int) || (letterZ ((lowB c).toNat : Int) && !(c == 58))) (by decide +kernel) c
theorem inner_open {c : UInt8} (h : innerC c = true) : c.toNat < 128 ∧ gapC c = false ∧ lowC c = false ∧ innerC (lowB c) = true ∧ (lowB c == 58) = false ∧ (c == 58) = false ∧ (lowB c).toNat < 128 ∧ gapC (lowB c) = false ∧ lowC (lowB c) = false ∧ lowB (lowB c) = lowB c := by
  have := inner_facts c
  rw [h] at this
  simp at this
  obtain ⟨⟨⟨⟨⟨⟨⟨⟨⟨a1, a2⟩, a3⟩, a4⟩, a5⟩, a6⟩, a7⟩, a8⟩, a9⟩, a10⟩ := this
  exact ⟨a1, a2, a3, a4, by simpa using a5, by simpa using a6, a7, a8, a9, a10⟩
theorem colonF_parts : ∀ (s : List UInt8) (n : Nat), colonF s = some n → ∃ X R, s = X ++ 58 :: R ∧ X.length = n ∧ ∀ c ∈ X, innerC c = true
  | [], _, h => by simp [colonF] at h
  | c :: t, n, h => by
    unfold colonF at h
    split at h
    · rename_i hc
      have hc' : c = 58 := by simpa using hc
      cases h
      exact ⟨[], t, by rw [hc']; rfl, rfl, fun d hd => by cases hd⟩
    · split at h
      · rename_i hi
        cases e : colonF t with
        | none => rw [e] at h; simp at h
        | some m =>
          rw [e] at h
          simp at h
          obtain ⟨X, R, e1, e2, e3⟩ := colonF_parts t m e
          refine ⟨c :: X, R, by rw [e1]; rfl, by simp [e2, h], fun d hd => ?_⟩
          rcases List.mem_cons.1 hd with rfl | hd
          · exact hi
          · exact e3 d hd
      · cases h
theorem colonF_make : ∀ (X R : List UInt8), (∀ c ∈ X, innerC c = true) → colonF (X ++ 58 :: R) = some X.length
  | [], R, _ => by simp [colonF]
  | c :: X, R, h => by
    have hc := h c (by simp)
    have ih := colonF_make X R (fun d hd => h d (by simp [hd]))
    rw [List.cons_append]
    unfold colonF
    rw [if_neg (by rw [(inner_open hc).2.2.2.2.2.1]; decide), if_pos hc, ih]
    simp
/-- A scheme and what stands behind it. -/
structure Sch (s X R : List UInt8) : Prop where
  all : s = X ++ 58 :: R
  inner : ∀ c ∈ X, innerC c = true
  letter : ∃ c t, X = c :: t ∧ letterZ (c.toNat : Int) = true
theorem colon_parts {s : List UInt8} {n : Nat} (h : colonL s = some n) : ∃ X R, Sch s X R ∧ X.length = n := by
  unfold colonL at h
  split at h
  · rename_i hl
    obtain ⟨X, R, e1, e2, e3⟩ := colonF_parts s n h
    refine ⟨X, R, ⟨e1, e3, ?_⟩, e2⟩
    cases X with
    | nil =>
      rw [e1] at hl
      have h58 : letterZ ((58 : UInt8).toNat : Int) = true := hl
      exact absurd h58 (by decide)
    | cons c t => exact ⟨c, t, rfl, by rw [e1] at hl; exact hl⟩
  · cases h
theorem Sch.colon {s X R : List UInt8} (h : Sch s X R) : colonL s = some X.length := by
  obtain ⟨c, t, rfl, hl⟩ := h.letter
  unfold colonL
  rw [h.all]
  rw [if_pos (by exact hl)]
  exact colonF_make _ _ h.inner
theorem Sch.low {s X R : List UInt8} (h : Sch s X R) : Sch (lower X ++ 58 :: R) (lower X) R := by
  refine ⟨rfl, fun c hc => ?_, ?_⟩
  · obtain ⟨d, hd, rfl⟩ := List.mem_map.1 hc
    exact (inner_open (h.inner d hd)).2.2.2.1
  · obtain ⟨c, t, rfl, hl⟩ := h.letter
    refine ⟨lowB c, t.map lowB, rfl, ?_⟩
    have := letter_facts c
    rw [hl] at this
    simp at this
    exact this.1
theorem lower_again {X : List UInt8} (h : ∀ c ∈ X, innerC c = true) : lower (lower X) = lower X := by
  unfold lower
  rw [List.map_map]
  exact List.map_congr_left (fun c hc => (inner_open (h c hc)).2.2.2.2.2.2.2.2.2)
theorem Sch.rest {s X R : List UInt8} (h : Sch s X R) : restK s = R := by
  unfold restK
  rw [h.colon]
  simp only
  rw [h.all]
  simp
theorem Sch.take {s X R : List UInt8} (h : Sch s X R) : s.take X.length = X := by rw [h.all]; simp
theorem Sch.split {s X R : List UInt8} (h : Sch s X R) : splitK s = partsK (lower X) true R := by
  rw [split_some h.colon, h.take]
  congr 1
  rw [h.all]
  simp
/-- Parted again: the same parts. -/
theorem Sch.split_lower {s X R : List UInt8} (h : Sch s X R) : splitK (lower X ++ 58 :: R) = splitK s := by
  rw [h.low.split, h.split, lower_again h.inner]
theorem Sch.join {s X R : List UInt8} (h : Sch s X R) : joinK (splitK s) = lower X ++ 58 :: R := by
  obtain ⟨B, Q, F, h3, e⟩ := split_three s
  rw [e, join_three h3, h.colon, h.rest]
  simp only
  rw [h.take]
  simp
theorem join_none {s : List UInt8} (h : colonL s = none) : joinK (splitK s) = s := by
  obtain ⟨B, Q, F, h3, e⟩ := split_three s
  rw [e, join_three h3, h]
  have : restK s = s := by unfold restK; rw [h]
  rw [this]
  rfl
/-- The joined text is one that stripping leaves. -/
theorem Sch.val {s X R : List UInt8} (h : Sch s X R) (hv : Val s) : Val (lower X ++ 58 :: R) := by
  have hR : Val R := by
    rw [h.all] at hv
    exact (hv.cut (by decide)).2
  exact (val_ascii _ (fun c hc => by obtain ⟨d, hd, rfl⟩ := List.mem_map.1 hc; exact (inner_open (h.inner d hd)).2.2.2.2.2.2.1)).app (hR.cons (by decide))
theorem Sch.bare {s X R : List UInt8} (h : Sch s X R) (hb : Bare s) : Bare (lower X ++ 58 :: R) := by
  refine ⟨fun c hc => ?_, .inr ⟨?_, ?_⟩⟩
  · rcases List.mem_append.1 hc with hc | hc
    · obtain ⟨d, hd, rfl⟩ := List.mem_map.1 hc
      exact (inner_open (h.inner d hd)).2.2.2.2.2.2.2.1
    · exact hb.1 c (by rw [h.all]; exact List.mem_append_right _ hc)
  · obtain ⟨c, t, rfl, _⟩ := h.letter
    exact ⟨lowB c, t.map lowB ++ 58 :: R, rfl, (inner_open (h.inner c (by simp))).2.2.2.2.2.2.2.2.1⟩
  · rcases hb.2 with e | ⟨_, c, t, e, hc⟩
    · rw [h.all] at e; simp at e
    · rw [h.all] at e
      rw [List.reverse_append] at e ⊢
      cases hr : (58 :: R).reverse with
      | nil => simp at hr
      | cons d u =>
        rw [hr] at e
        rw [List.cons_append] at e ⊢
        obtain ⟨e1, _⟩ := List.cons.inj e
        exact ⟨d, _, rfl, by rw [e1]; exact hc⟩
theorem bare_stripL (bs : List UInt8) : Bare (stripL bs) := bare_strip (mendL bs)
/-- The parts of a text of runes are such texts. -/
theorem parts_val (sc : List UInt8) (hb : Bool) (r : List UInt8) (hs : Val sc) (hr : Val r) : Val (partsK sc hb r).sc ∧ Val (partsK sc hb r).ho ∧ Val (partsK sc hb r).pa ∧ Val (partsK sc hb r).qu ∧ Val (partsK sc hb r).fr := by
  obtain ⟨B, Q, F, h, h1, h2, h3, h4⟩ := three r
  have hA : aheadK r = B ++ Q := h1.symm
  have e1 : (B ++ Q).drop (upToL [63] (B ++ Q) + 1) = Q.drop 1 := by
    have : (B ++ Q).drop (upToL [63] (B ++ Q) + 1) = ((B ++ Q).drop (upToL [63] (B ++ Q))).drop 1 := by rw [List.drop_drop]
    rw [this, ← h4]
  have e2 : r.drop (upToL [35] r + 1) = F.drop 1 := by
    have : r.drop (upToL [35] r + 1) = (r.drop (upToL [35] r)).drop 1 := by rw [List.drop_drop]
    rw [this, ← h2]
  have hBQ : Val (B ++ Q) ∧ Val (F.drop 1) := by
    have ha := h.all
    rw [← List.append_assoc] at ha
    rcases h.isF with e | ⟨f, e⟩
    · subst e
      rw [List.append_nil] at ha
      rw [← ha]
      exact ⟨hr, val_nil⟩
    · subst e
      rw [ha] at hr
      exact hr.cut (by decide)
  have hB : Val B ∧ Val (Q.drop 1) := by
    rcases h.isQ with e | ⟨q, e⟩
    · subst e
      rw [List.append_nil] at hBQ
      exact ⟨hBQ.1, val_nil⟩
    · subst e
      exact hBQ.1.cut (by decide)
  have hH : Val (hostK B).2.1 ∧ Val (hostK B).2.2 := by
    rcases hostK_cases B with ⟨_, k2, k3⟩ | ⟨C, eB, hC⟩
    · rw [k2, k3]; exact ⟨val_nil, hB.1⟩
    · have hCv : Val C := by
        have h5 := hB.1
        rw [eB] at h5
        exact (Val.cut (x := [47]) (y := C) (c := 47) h5 (by decide)).2
      rw [hC]
      simp only
      obtain ⟨_, g2⟩ := upToL_cut [47] C
      have e0 : C.take (upToL [47] C) ++ C.drop (upToL [47] C) = C := List.take_append_drop _ _
      rcases g2 with e | ⟨c, t, e, hc⟩
      · rw [e, List.append_nil] at e0
        rw [e, e0]
        exact ⟨hCv, val_nil⟩
      · simp at hc
        subst hc
        rw [e] at e0 ⊢
        rw [← e0] at hCv
        obtain ⟨v1, v2⟩ := hCv.cut (by decide)
        exact ⟨v1, v2.cons (by decide)⟩
  unfold partsK
  simp only
  rw [hA, ← h3, e1, e2]
  exact ⟨hs, hH.1, hH.2, hB.2, hBQ.2⟩
theorem split_val {s : List UInt8} (h : Val s) : (splitK s).mend = splitK s := by
  have key : ∀ sc hb r, Val sc → Val r → (partsK sc hb r).mend = partsK sc hb r := fun sc hb r hs hr => by
    obtain ⟨v0, v1, v2, v3, v4⟩ := parts_val sc hb r hs hr
    unfold Lk.mend
    rw [v0.mend, v1.mend, v2.mend, v3.mend, v4.mend]
  cases hc : colonL s with
  | none => rw [split_none hc]; exact key _ _ _ val_nil h
  | some n =>
    obtain ⟨X, R, hS, _⟩ := colon_parts hc
    rw [hS.split]
    refine key _ _ _ (val_ascii _ (fun c hc => by obtain ⟨d, hd, rfl⟩ := List.mem_map.1 hc; exact (inner_open (hS.inner d hd)).2.2.2.2.2.2.1)) ?_
    rw [hS.all] at h
    exact (h.cut (by decide)).2
end Go.Proofs.YtmfhhpacojodkaaGreatDoor.L
