/- What is proved here: texts that are UTF-8: mended they stay; what is stripped is such a text, and so are its parts. -/
import Derived.Test.YtjhmphokmmmoaaaGreatDoorLpTrim
import Derived.Test.YtjhmphokmmmoaaaGreatDoorBun14
namespace Go.Proofs.YtjhmphokmmmoaaaGreatDoor.L
open Go.RowKit Go.Shelf Go.Proofs.YtjhmphokmmmoaaaGreatDoor.N Go.Proofs.YtjhmphokmmmoaaaGreatDoor.U

/-- A text of runes. -/
def Val (s : List UInt8) : Prop := ∃ zs, AllV zs ∧ s = encs zs
theorem Val.mend {s : List UInt8} (h : Val s) : mendL s = s := by
  obtain ⟨zs, hV, rfl⟩ := h
  have hm : zs.map mendR = zs := by
    have : ∀ z ∈ zs, mendR z = z := fun z hz => by unfold mendR; rw [if_pos (hV z hz)]
    exact (List.map_congr_left this).trans (List.map_id zs)
  unfold mendL
  rw [(runesI_encs zs).1, hm]
theorem val_mend (bs : List UInt8) : Val (mendL bs) := ⟨runesI bs, runesI_valid bs, rfl⟩
theorem val_strip (bs : List UInt8) : Val (stripL bs) := by
  have hV := runesI_valid bs
  refine ⟨stripR (runesI bs), fun z hz => trimR_valid hV z (List.mem_filter.1 hz).1, ?_⟩
  unfold stripL mendL
  exact strip_enc _ hV
theorem Val.app {x y : List UInt8} (hx : Val x) (hy : Val y) : Val (x ++ y) := by
  obtain ⟨a, ha, rfl⟩ := hx
  obtain ⟨b, hb, rfl⟩ := hy
  exact ⟨a ++ b, fun z hz => by rcases List.mem_append.1 hz with h | h; exact ha z h; exact hb z h, (encs_app a b).symm⟩
theorem val_nil : Val [] := ⟨[], fun z hz => absurd hz (by simp), rfl⟩
theorem cut_runes : ∀ (zs : List Int), AllV zs → ∀ (x : List UInt8) (c : UInt8) (y : List UInt8), encs zs = x ++ c :: y → c.toNat < 128 → Val x ∧ Val y
  | [], _, x, c, y, h, _ => by simp [encs] at h
  | z :: t, hV, x, c, y, h, hc => by
    have hT : AllV t := fun u hu => hV u (by simp [hu])
    have hz : AllV [z] := fun u hu => by simp at hu; subst hu; exact hV _ (by simp)
    rw [encs_cons] at h
    by_cases hl : (enc z).length ≤ x.length
    · obtain ⟨x', rfl⟩ : ∃ x', x = enc z ++ x' := by
        refine ⟨x.drop (enc z).length, ?_⟩
        have h1 := congrArg (List.take (enc z).length) h
        rw [List.take_left, List.take_append_of_le_length hl] at h1
        have h2 := List.take_append_drop (enc z).length x
        rw [← h1] at h2
        exact h2.symm
      rw [List.append_assoc] at h
      have h2 := List.append_cancel_left h
      obtain ⟨g1, g2⟩ := cut_runes t hT x' c y h2 hc
      exact ⟨Val.app ⟨[z], hz, (encs_one z).symm⟩ g1, g2⟩
    · have hmem : c ∈ enc z := by
        have h1 : (enc z ++ encs t)[x.length]? = some c := by rw [h]; simp
        rw [List.getElem?_append_left (by omega)] at h1
        exact List.mem_of_getElem? h1
      have hr : 0 ≤ z ∧ z < 128 := by
        by_cases hn : 0 ≤ z ∧ z < 128
        · exact hn
        · have := enc_high hn c hmem; omega
      have hd := enc_one hr.1 hr.2
      have hen : (enc z).length = 1 := by rw [hd]; rfl
      have hx0 : x = [] := List.eq_nil_of_length_eq_zero (by omega)
      subst hx0
      rw [hd] at h
      simp at h
      rw [← h.2]
      exact ⟨val_nil, t, hT, rfl⟩
theorem Val.cut {x y : List UInt8} {c : UInt8} (h : Val (x ++ c :: y)) (hc : c.toNat < 128) : Val x ∧ Val y := by
  obtain ⟨zs, hV, e⟩ := h
  exact cut_runes zs hV x c y e.symm hc
theorem val_one (c : UInt8) (hc : c.toNat < 128) : Val [c] := by
  refine ⟨[(c.toNat : Int)], fun z hz => ?_, ?_⟩
  · simp at hz; subst hz; exact (valid_iff _).2 (by omega)
  · rw [encs_one, enc_one (by omega) (by omega)]
    simp
theorem val_ascii : ∀ (l : List UInt8), (∀ c ∈ l, c.toNat < 128) → Val l
  | [], _ => val_nil
  | c :: t, h => (val_one c (h c (by simp))).app (val_ascii t (fun d hd => h d (by simp [hd])))
theorem Val.cons {c : UInt8} {t : List UInt8} (hc : c.toNat < 128) (h : Val t) : Val (c :: t) := (val_one c hc).app h
/-- Bytes stripped: first without gaps, then without low ones at the ends. -/
theorem gapC_low {c : UInt8} (h : gapC c = true) : lowC c = true := by
  unfold gapC at h
  simp at h
  rcases h with (rfl | rfl) | rfl <;> decide
theorem dropB_filter : ∀ (l : List UInt8), (l.dropWhile lowC).filter (fun c => !gapC c) = (l.filter fun c => !gapC c).dropWhile lowC
  | [] => rfl
  | z :: t => by
    have ih := dropB_filter t
    cases hl : lowC z with
    | true =>
      rw [List.dropWhile_cons, if_pos hl, ih, List.filter_cons]
      cases hg : gapC z with
      | true => rw [if_neg (by decide)]
      | false => rw [if_pos (by decide), List.dropWhile_cons, if_pos hl]
    | false =>
      have hg : gapC z = false := by
        cases h : gapC z with
        | true => rw [gapC_low h] at hl; cases hl
        | false => rfl
      rw [List.dropWhile_cons, if_neg (by rw [hl]; decide), List.filter_cons, if_pos (by rw [hg]; decide), List.dropWhile_cons, if_neg (by rw [hl]; decide)]
def trimB (l : List UInt8) : List UInt8 := ((l.dropWhile lowC).reverse.dropWhile lowC).reverse
theorem stripB_filter (l : List UInt8) : stripM l = trimB (l.filter fun c => !gapC c) := by
  unfold stripM trimB
  rw [List.filter_reverse, dropB_filter, List.filter_reverse, dropB_filter]
theorem drop_head (l : List UInt8) : l.dropWhile lowC = [] ∨ ∃ c t, l.dropWhile lowC = c :: t ∧ lowC c = false := by
  induction l with
  | nil => exact .inl rfl
  | cons c t ih =>
    rw [List.dropWhile_cons]
    cases h : lowC c with
    | true => simpa using ih
    | false => exact .inr ⟨c, t, by simp, h⟩
/-- A text that stripping leaves. -/
def Bare (s : List UInt8) : Prop := (∀ c ∈ s, gapC c = false) ∧ (s = [] ∨ ((∃ c t, s = c :: t ∧ lowC c = false) ∧ ∃ c t, s.reverse = c :: t ∧ lowC c = false))
theorem Bare.strip {s : List UInt8} (h : Bare s) : stripM s = s := by
  have hf : s.filter (fun c => !gapC c) = s := List.filter_eq_self.2 (fun c hc => by rw [h.1 c hc]; rfl)
  rw [stripB_filter, hf]
  rcases h.2 with rfl | ⟨⟨c, t, e, hc⟩, d, u, e2, hd⟩
  · rfl
  · unfold trimB
    have h1 : s.dropWhile lowC = s := by rw [e, List.dropWhile_cons, if_neg (by rw [hc]; decide)]
    have h2 : s.reverse.dropWhile lowC = s.reverse := by rw [e2, List.dropWhile_cons, if_neg (by rw [hd]; decide)]
    rw [h1, h2, List.reverse_reverse]
theorem bare_strip (l : List UInt8) : Bare (stripM l) := by
  refine ⟨fun c hc => by have := (List.mem_filter.1 (show c ∈ ((l.dropWhile lowC).reverse.dropWhile lowC).reverse.filter (fun c => !gapC c) from hc)).2; simpa using this, ?_⟩
  rw [stripB_filter]
  generalize l.filter (fun c => !gapC c) = m
  unfold trimB
  rcases drop_head (m.dropWhile lowC).reverse with e | ⟨c, t, e, hc⟩
  · rw [e]; exact .inl rfl
  · right
    refine ⟨?_, c, t, by rw [List.reverse_reverse, e], hc⟩
    rcases drop_head m with e3 | ⟨d, u, e3, hd⟩
    · rw [e3] at e; simp at e
    · refine ⟨d, ?_⟩
      have hs : (m.dropWhile lowC).reverse.dropWhile lowC <:+ (m.dropWhile lowC).reverse := List.dropWhile_suffix _
      obtain ⟨x, hx⟩ := hs
      have hr := congrArg List.reverse hx
      rw [List.reverse_append, List.reverse_reverse, e, e3] at hr
      rw [e]
      cases hq : (c :: t).reverse with
      | nil => simp at hq
      | cons a v =>
        rw [hq] at hr
        simp at hr
        exact ⟨v, by rw [hr.1], hd⟩
theorem strip_again (bs : List UInt8) : stripL (stripL bs) = stripL bs := by
  have h1 := (val_strip bs).mend
  show stripM (mendL (stripL bs)) = _
  rw [h1]
  exact (bare_strip (mendL bs)).strip
/-- A text of runes that stripping leaves, stripped. -/
theorem strip_bare {s : List UInt8} (hv : Val s) (hb : Bare s) : stripL s = s := by
  show stripM (mendL s) = s
  rw [hv.mend, hb.strip]
end Go.Proofs.YtjhmphokmmmoaaaGreatDoor.L
