/- What is proved here: laws and contracts of LkTidK, LkTidA, one behind the other (each says its own). -/
import Derived.Test.YtjhmphokmmmoaaaGreatDoorBun15
/- What is proved here: a tidy link is of the same kind and scheme, a text of runes, and tidied again it is itself: plain facts. -/
namespace Go.Proofs.YtjhmphokmmmoaaaGreatDoor.L
open Go.RowKit Go.Shelf Go.Proofs.YtjhmphokmmmoaaaGreatDoor.N Go.Proofs.YtjhmphokmmmoaaaGreatDoor.U

/-- The schemes whose links browsers read with \ as /. -/
def slasheds : List (List UInt8) := [[104, 116, 116, 112], [104, 116, 116, 112, 115], [102, 116, 112], [119, 115], [119, 115, 115]]
/-- A stripped link as it is written, ahead of its escapes. -/
def tidyX (s : List UInt8) : List UInt8 := match colonL s with | none => slL s | some n => lower (s.take n) ++ (if slasheds.contains (lower (s.take n)) then slL (s.drop n) else s.drop n)
theorem slC_ascii {c : UInt8} (h : c.toNat < 128) : (slC c).toNat < 128 := by
  unfold slC
  split
  · decide
  · exact h
theorem slL_val : ∀ (zs : List Int), AllV zs → Val (slL (encs zs))
  | [], _ => val_nil
  | z :: t, hV => by
    have hT : AllV t := fun u hu => hV u (by simp [hu])
    have ih := slL_val t hT
    rw [encs_cons]
    by_cases hr : 0 ≤ z ∧ z < 128
    · rw [enc_one hr.1 hr.2]
      have hc : (UInt8.ofNat z.toNat).toNat < 128 := by simp; omega
      generalize UInt8.ofNat z.toNat = c at hc
      show Val (if (c == 63 || c == 35) = true then c :: encs t else slC c :: slL (encs t))
      split
      · exact Val.cons hc ⟨t, hT, rfl⟩
      · exact ih.cons (slC_ascii hc)
    · have hz : AllV [z] := fun u hu => by simp at hu; subst hu; exact hV _ (by simp)
      rw [slL_app (enc z) (encs t) (fun c hc => by
        have h := enc_high hr c hc
        have ne : ∀ m : UInt8, m.toNat < 128 → (c == m) = false := fun m hm => by
          rw [beq_eq_false_iff_ne]
          intro e
          rw [e] at h
          omega
        exact ⟨ne 63 (by decide), ne 35 (by decide), ne 92 (by decide)⟩)]
      exact Val.app ⟨[z], hz, (encs_one z).symm⟩ ih
theorem Val.sl {s : List UInt8} (h : Val s) : Val (slL s) := by
  obtain ⟨zs, hV, rfl⟩ := h
  exact slL_val zs hV
theorem lower_val {X : List UInt8} (h : ∀ c ∈ X, innerC c = true) : Val (lower X) := val_ascii _ (fun c hc => by obtain ⟨d, hd, rfl⟩ := List.mem_map.1 hc; exact (inner_open (h d hd)).2.2.2.2.2.2.1)
theorem Sch.drop {s X R : List UInt8} (h : Sch s X R) : s.drop X.length = 58 :: R := by rw [h.all]; simp
theorem Sch.tidy {s X R : List UInt8} (h : Sch s X R) : tidyX s = lower X ++ 58 :: (if slasheds.contains (lower X) then slL R else R) := by
  unfold tidyX
  rw [h.colon]
  simp only
  rw [h.take, h.drop]
  cases slasheds.contains (lower X) <;> rfl
theorem tidy_val {s : List UInt8} (h : Val s) : Val (tidyX s) := by
  cases hc : colonL s with
  | none => unfold tidyX; rw [hc]; exact h.sl
  | some n =>
    obtain ⟨X, R, hS, _⟩ := colon_parts hc
    rw [hS.tidy]
    have hR : Val R := by rw [hS.all] at h; exact (h.cut (by decide)).2
    refine (lower_val hS.inner).app (Val.cons (by decide) ?_)
    split
    · exact hR.sl
    · exact hR
/-- What comes out first. -/
theorem head_out (c : UInt8) (u : List UInt8) : ∃ o v, encS (slL (c :: u)) = o :: v ∧ slashC o = slashC c ∧ (o == 63) = (c == 63) ∧ (o == 35) = (c == 35) ∧ (slashC c = true → v = encS (slL u)) := by
  have sl : slL (c :: u) = if (c == 63 || c == 35) = true then c :: u else slC c :: slL u := rfl
  have en : ∀ (d : UInt8) (t : List UInt8), encS (d :: t) = (if badC (d :: t) 0 d then escC d else [d]) ++ encS t := fun _ _ => rfl
  have nb : ∀ (d : UInt8), d = 63 ∨ d = 35 ∨ d = 47 → ∀ s, badC s 0 d = false := fun d hd s => by
    rcases hd with rfl | rfl | rfl <;> (unfold badC bad0; rfl)
  rw [sl]
  split
  · rename_i hq
    have hd : c = 63 ∨ c = 35 := by simpa using hq
    rw [en, nb c (by rcases hd with h | h <;> simp [h]), if_neg (by decide)]
    refine ⟨c, encS u, rfl, rfl, rfl, rfl, fun h => ?_⟩
    rcases hd with rfl | rfl <;> exact absurd h (by decide)
  · rename_i hq
    have hq' : (c == 63) = false ∧ (c == 35) = false := by simpa using hq
    rw [hq'.1, hq'.2]
    cases hs : slashC c with
    | true =>
      have hc : slC c = 47 := by
        unfold slashC at hs
        unfold slC
        simp at hs
        rcases hs with rfl | rfl <;> decide
      rw [hc, en, nb 47 (by simp), if_neg (by decide)]
      exact ⟨47, encS (slL u), rfl, rfl, rfl, rfl, fun _ => rfl⟩
    | false =>
      have hc : slC c = c := by
        unfold slashC at hs
        unfold slC
        simp at hs
        rw [if_neg (by simpa using hs.2)]
      rw [hc, en]
      cases hb : badC (c :: slL u) 0 c with
      | true =>
        rw [if_pos rfl]
        exact ⟨37, _, rfl, rfl, rfl, rfl, fun h => absurd h (by decide)⟩
      | false =>
        rw [if_neg (by decide)]
        exact ⟨c, encS (slL u), rfl, hs, hq'.1, hq'.2, fun h => absurd h (by decide)⟩
theorem kind_none {s : List UInt8} (h : colonL s = none) : kindL (encS (slL s)) = kindL s := by
  have h2 := colon_stays h
  unfold kindL
  rw [h, h2]
  simp only [Option.isSome_none, Bool.false_eq_true, if_false]
  cases s with
  | nil => rfl
  | cons c u =>
    obtain ⟨o, v, e, e1, e2, e3, e4⟩ := head_out c u
    rw [e]
    have l1 : ¬ (o :: v).length = 0 := by simp
    have l2 : ¬ (c :: u).length = 0 := by simp
    rw [if_neg l1, if_neg l2]
    simp only [List.getD_cons_zero, e1, e2, e3]
    have two : (1 < (o :: v).length ∧ slashC c = true ∧ slashC ((o :: v).getD 1 0) = true) ↔ (1 < (c :: u).length ∧ slashC c = true ∧ slashC ((c :: u).getD 1 0) = true) := by
      cases hs : slashC c with
      | false => simp
      | true =>
        have hv := e4 hs
        subst hv
        cases u with
        | nil =>
          have : encS (slL []) = [] := rfl
          rw [this]
          simp
        | cons d w =>
          obtain ⟨o2, v2, f, f1, _⟩ := head_out d w
          rw [f]
          simp [f1]
    by_cases ht : 1 < (c :: u).length ∧ slashC c = true ∧ slashC ((c :: u).getD 1 0) = true
    · rw [if_pos ht, if_pos (two.2 ht)]
    · rw [if_neg ht, if_neg (fun h => ht (two.1 h))]
end Go.Proofs.YtjhmphokmmmoaaaGreatDoor.L

/- What is proved here: a tidy link, tidied again, is itself; it is stripped, and has the same scheme and kind: plain facts. -/
namespace Go.Proofs.YtjhmphokmmmoaaaGreatDoor.L
open Go.RowKit Go.Shelf Go.Proofs.YtjhmphokmmmoaaaGreatDoor.N Go.Proofs.YtjhmphokmmmoaaaGreatDoor.U

/-- A stripped link as it is written. -/
def tidyT (s : List UInt8) : List UInt8 := encS (tidyX s)
theorem ascii_parts {c : UInt8} (h : asciiC c = true) : 32 < c.toNat ∧ c.toNat < 127 ∧ (c == 92) = false := by
  unfold asciiC at h
  simp only [Bool.and_eq_true, decide_eq_true_eq, Bool.not_eq_true'] at h
  refine ⟨h.1.1, h.1.2, ?_⟩
  cases e : (c == 92) with
  | false => rfl
  | true =>
    have : c = 92 := by simpa using e
    subst this
    exact absurd h.2 (by decide)
theorem tidy_ascii (s : List UInt8) : ∀ c ∈ tidyT s, 32 < c.toNat ∧ c.toNat < 127 ∧ (c == 92) = false := fun c hc => ascii_parts (encS_ascii _ c hc)
theorem tidyT_val (s : List UInt8) : Val (tidyT s) := val_ascii _ (fun c hc => by have := (tidy_ascii s c hc).2.1; omega)
theorem not_low {c : UInt8} (h : 32 < c.toNat) : lowC c = false ∧ gapC c = false := by
  have h1 : lowC c = false := by unfold lowC; simp; omega
  refine ⟨h1, ?_⟩
  cases e : gapC c with
  | false => rfl
  | true => rw [gapC_low e] at h1; cases h1
theorem tidyT_bare (s : List UInt8) : Bare (tidyT s) := by
  have ha := tidy_ascii s
  generalize tidyT s = t at ha
  refine ⟨fun c hc => (not_low (ha c hc).1).2, ?_⟩
  cases t with
  | nil => exact .inl rfl
  | cons c u =>
    right
    refine ⟨⟨c, u, rfl, (not_low (ha c (by simp)).1).1⟩, ?_⟩
    cases hr : (c :: u).reverse with
    | nil => simp at hr
    | cons d v =>
      refine ⟨d, v, rfl, (not_low (ha d ?_).1).1⟩
      have : d ∈ (c :: u).reverse := by rw [hr]; simp
      exact List.mem_reverse.1 this
theorem tidyT_strip (s : List UInt8) : stripL (tidyT s) = tidyT s := strip_bare (tidyT_val s) (tidyT_bare s)
theorem tidyT_none {s : List UInt8} (h : colonL s = none) : tidyT s = encS (slL s) := by unfold tidyT tidyX; rw [h]
/-- Its scheme, and what stands behind it. -/
theorem Sch.tidyT {s X R : List UInt8} (h : Sch s X R) : tidyT s = lower X ++ 58 :: encS (if slasheds.contains (lower X) then slL R else R) := by
  show encS (tidyX s) = _
  rw [h.tidy, encS_inner (lower X) _ (fun c hc => by
    obtain ⟨d, hd, rfl⟩ := List.mem_map.1 hc
    rw [(inner_open (h.inner d hd)).2.2.2.1]; rfl)]
  have := encS_inner [58] (if slasheds.contains (lower X) = true then slL R else R) (fun c hc => by simp at hc; subst hc; decide)
  rw [List.cons_append, List.nil_append] at this
  rw [this]
  rfl
theorem Sch.tidySch {s X R : List UInt8} (h : Sch s X R) : Sch (L.tidyT s) (lower X) (encS (if slasheds.contains (lower X) then slL R else R)) := by
  rw [h.tidyT]
  exact ⟨rfl, h.low.inner, h.low.letter⟩
/-- Tidied again. -/
theorem tidyT_again (s : List UInt8) : tidyT (tidyT s) = tidyT s := by
  cases hc : colonL s with
  | none =>
    have h2 : colonL (tidyT s) = none := by rw [tidyT_none hc]; exact colon_stays hc
    rw [tidyT_none h2, slL_same _ (fun c hc => (tidy_ascii s c hc).2.2)]
    unfold tidyT
    exact enc_again _
  | some n =>
    obtain ⟨X, R, hS, _⟩ := colon_parts hc
    have h2 := hS.tidySch
    have hl := lower_again hS.inner
    rw [h2.tidyT, hl]
    have ha := tidy_ascii s
    rw [hS.tidyT] at ha ⊢
    generalize hY : encS (if slasheds.contains (lower X) then slL R else R) = Y at ha ⊢
    have hYs : slL Y = Y := slL_same _ (fun c hc => (ha c (by simp [hc])).2.2)
    have hYe : encS Y = Y := by rw [← hY]; exact enc_again _
    cases slasheds.contains (lower X) <;> simp [hYs, hYe]
theorem tidyT_scheme (s : List UInt8) : schemeV (tidyT s) = schemeV s ∧ schemeL (tidyT s) = schemeL s := by
  cases hc : colonL s with
  | none =>
    have h2 : colonL (tidyT s) = none := by rw [tidyT_none hc]; exact colon_stays hc
    unfold schemeV schemeL
    rw [hc, h2]
    exact ⟨rfl, rfl⟩
  | some n =>
    obtain ⟨X, R, hS, hX⟩ := colon_parts hc
    have h2 := hS.tidySch
    unfold schemeV schemeL
    rw [hS.colon, h2.colon]
    simp only [Option.map_some]
    rw [h2.take, hS.take, lower_again hS.inner]
    exact ⟨rfl, rfl⟩
theorem tidyT_kind (s : List UInt8) : kindL (tidyT s) = kindL s := by
  cases hc : colonL s with
  | none => rw [tidyT_none hc]; exact kind_none hc
  | some n =>
    obtain ⟨X, R, hS, _⟩ := colon_parts hc
    have h2 := hS.tidySch
    unfold kindL
    rw [hS.colon, h2.colon]
    rfl
end Go.Proofs.YtjhmphokmmmoaaaGreatDoor.L
