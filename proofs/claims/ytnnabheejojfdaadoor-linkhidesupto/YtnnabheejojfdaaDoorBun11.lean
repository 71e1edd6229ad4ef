/- What is proved here: laws and contracts of LpHideM, LpHideR, one behind the other (each says its own). -/
import Derived.Test.YtnnabheejojfdaaDoorLpTrim
import Derived.Laws.IdiomStrings
/- What is proved here: plain facts for the statement that nothing hides: low runes at the ends, and tabs and line ends anywhere, change nothing of what is stripped. -/
namespace Go.Proofs.YtnnabheejojfdaaDoor.L
open Go.RowKit Go.Shelf Go.Proofs.YtnnabheejojfdaaDoor.N Go.Proofs.YtnnabheejojfdaaDoor.U

theorem gap_low {z : Int} (h : gapR z = true) : lowR z = true := by
  unfold gapR at h
  unfold lowR
  simp at h ⊢
  omega
def noGap (z : Int) : Bool := !gapR z
/-- Leaving gaps out and taking low ones away at the front go together. -/
theorem drop_filter : ∀ (rs : List Int), (rs.dropWhile lowR).filter noGap = (rs.filter noGap).dropWhile lowR
  | [] => rfl
  | z :: t => by
    have ih := drop_filter t
    cases hl : lowR z with
    | true =>
      rw [List.dropWhile_cons, if_pos hl, ih, List.filter_cons]
      cases hg : noGap z with
      | true => rw [if_pos rfl, List.dropWhile_cons, if_pos hl]
      | false => rw [if_neg (by decide)]
    | false =>
      have hg : noGap z = true := by
        cases h : gapR z with
        | true => rw [gap_low h] at hl; cases hl
        | false => unfold noGap; rw [h]; rfl
      rw [List.dropWhile_cons, if_neg (by rw [hl]; decide), List.filter_cons, if_pos hg, List.dropWhile_cons, if_neg (by rw [hl]; decide)]
/-- Stripped: first without gaps, then without low ones at the ends. -/
theorem strip_filter (rs : List Int) : stripR rs = trimR (rs.filter noGap) := by
  show (trimR rs).filter noGap = _
  unfold trimR
  rw [List.filter_reverse, drop_filter, List.filter_reverse, drop_filter]
theorem drop_low (X C : List Int) (h : ∀ z ∈ X, lowR z = true) : (X ++ C).dropWhile lowR = C.dropWhile lowR := by
  induction X with
  | nil => rfl
  | cons z t ih => rw [List.cons_append, List.dropWhile_cons, if_pos (h z (by simp)), ih (fun y hy => h y (by simp [hy]))]
theorem drop_keep : ∀ (C Y : List Int), (∀ z ∈ C, lowR z = true) ∨ (C ++ Y).dropWhile lowR = C.dropWhile lowR ++ Y
  | [], _ => .inl (by simp)
  | z :: t, Y => by
    cases hl : lowR z with
    | true =>
      rcases drop_keep t Y with h | h
      · left; intro y hy
        rcases List.mem_cons.1 hy with rfl | hy
        · exact hl
        · exact h y hy
      · right; rw [List.cons_append, List.dropWhile_cons, if_pos hl, h, List.dropWhile_cons, if_pos hl]
    | false => right; rw [List.cons_append, List.dropWhile_cons, if_neg (by rw [hl]; decide), List.dropWhile_cons, if_neg (by rw [hl]; decide), List.cons_append]
theorem drop_nil (C : List Int) (h : ∀ z ∈ C, lowR z = true) : C.dropWhile lowR = [] := by
  have := drop_low C [] h
  rw [List.append_nil] at this
  exact this
theorem trim_ends (X C Y : List Int) (hX : ∀ z ∈ X, lowR z = true) (hY : ∀ z ∈ Y, lowR z = true) : trimR (X ++ (C ++ Y)) = trimR C := by
  unfold trimR
  rw [drop_low X _ hX]
  rcases drop_keep C Y with h | h
  · rw [drop_nil (C ++ Y) (fun z hz => by rcases List.mem_append.1 hz with hz | hz; exact h z hz; exact hY z hz), drop_nil C h]
  · rw [h, List.reverse_append, drop_low Y.reverse _ (fun z hz => hY z (by simpa using hz))]
/-- **Nothing hides.** -/
theorem strip_hides (X A P B Y : List Int) (hX : ∀ z ∈ X, lowR z = true) (hP : ∀ z ∈ P, gapR z = true) (hY : ∀ z ∈ Y, lowR z = true) : stripR (X ++ (A ++ (P ++ (B ++ Y)))) = stripR (A ++ B) := by
  have hPn : P.filter noGap = [] := by
    rw [List.filter_eq_nil_iff]
    intro z hz
    unfold noGap
    rw [hP z hz]
    decide
  rw [strip_filter, strip_filter]
  have e : (X ++ (A ++ (P ++ (B ++ Y)))).filter noGap = X.filter noGap ++ ((A ++ B).filter noGap ++ Y.filter noGap) := by
    simp only [List.filter_append, hPn, List.nil_append, List.append_assoc]
  rw [e, trim_ends _ _ _ (fun z hz => hX z (List.mem_filter.1 hz).1) (fun z hz => hY z (List.mem_filter.1 hz).1)]
/-- A link of runes, stripped. -/
theorem stripL_encs (rs : List Int) (hV : AllV rs) : stripL (encs rs) = encs (stripR rs) := by
  have hm : rs.map mendR = rs := by
    have : ∀ z ∈ rs, mendR z = z := fun z hz => by unfold mendR; rw [if_pos (hV z hz)]
    exact (List.map_congr_left this).trans (List.map_id rs)
  unfold stripL mendL
  rw [(runesI_encs rs).1, hm, strip_enc rs hV]
/-- What is stripped holds no gap. -/
theorem stripL_plain (bs : List UInt8) : ∀ c ∈ stripL bs, gapC c = false := fun c hc => by
  unfold stripL stripM at hc
  have := (List.mem_filter.1 hc).2
  simpa using this
end Go.Proofs.YtnnabheejojfdaaDoor.L

/- What is proved here: the runes of a text of runes, as a conversion lays them in memory; parts of such a row, turned into texts again. -/
namespace Go.Proofs.YtnnabheejojfdaaDoor.L
open Go.RowKit Go.Shelf Go.Proofs.YtnnabheejojfdaaDoor.N Go.Proofs.YtnnabheejojfdaaDoor.U

theorem runesFrom_encs : ∀ (rs : List Int) (pre : List UInt8) (f : Nat) (acc : Array Value), AllV rs → (encs rs).length ≤ f →
    Conv.runesFrom ⟨(pre ++ encs rs).toArray⟩ f pre.length acc = acc ++ (rs.map (Value.int .i32)).toArray
  | [], pre, f, acc, _, _ => by
    cases f with
    | zero => simp [Conv.runesFrom]
    | succ f =>
      have : ¬ pre.length < (⟨(pre ++ encs []).toArray⟩ : ByteArray).size := by rw [arr_size]; simp [encs]
      rw [Conv.runesFrom, if_neg this]
      simp
  | z :: t, pre, f, acc, hV, hf => by
    have hz := hV z (by simp)
    have hp := enc_pos z
    rw [encs_cons] at hf ⊢
    rw [List.length_append] at hf
    cases f with
    | zero => omega
    | succ f =>
      have : pre.length < (⟨(pre ++ (enc z ++ encs t)).toArray⟩ : ByteArray).size := by rw [arr_size]; simp; omega
      rw [Conv.runesFrom, if_pos this, decode_enc pre z hz (encs t)]
      have ih := runesFrom_encs t (pre ++ enc z) f (acc.push (.int .i32 (Int.ofNat z.toNat))) (fun u hu => hV u (by simp [hu])) (by omega)
      rw [List.append_assoc, List.length_append] at ih
      simp only
      rw [ih]
      have e : Int.ofNat z.toNat = z := by have := ((valid_iff z).1 hz).1; simp; omega
      rw [e]
      simp
/-- '[]rune(s)' of a text of runes. -/
theorem conv_to_runes (rs : List Int) (hV : AllV rs) (hl : rs.length ≤ 100000000) : ∃ (gc : World → Nat) (more : World → Array Value), (∀ W, rs.length ≤ gc W) ∧ ∀ W, (convert 9 23 (.string ⟨(encs rs).toArray⟩)).run Tryd.prog W = .ok (.slice (some ⟨W.heap.size, 0, none⟩) rs.length (gc W)) (W.drew.alloc (.cells ((rs.map (Value.int .i32)).toArray ++ more W) 21)) := by
  have htr : Conv.runesFrom ⟨(encs rs).toArray⟩ (⟨(encs rs).toArray⟩ : ByteArray).size 0 #[] = (rs.map (Value.int .i32)).toArray := by
    have := runesFrom_encs rs [] (encs rs).length #[] hV (Nat.le_refl _)
    rw [List.nil_append] at this
    rw [arr_size]
    simpa using this
  refine ⟨fun W => grownCap W rs.length 0 21, fun W => Array.replicate (grownCap W rs.length 0 21 - rs.length) (.int .i32 0), fun W => grownCap_ge W _ _ _, fun W => ?_⟩
  have := run_runes_of_string (P := Tryd.prog) W 9 23 21 ⟨(encs rs).toArray⟩ Tryd.underlying9 Tryd.underlying23 Tryd.underlying21 (by rw [htr]; simp; omega)
  rw [htr, show ((rs.map (Value.int .i32)).toArray).size = rs.length by simp] at this
  exact this
theorem conv_has {W : World} {B : Nat} {zs : List Int} {more : Array Value} {cap : Nat} (hc : zs.length ≤ cap) (h : W.heap[B]? = some (.cells ((zs.map (Value.int .i32)).toArray ++ more) 21 (0, 0))) : HasI .i32 W (.slice (some ⟨B, 0, none⟩) zs.length cap) zs := by
  by_cases h0 : 0 < zs.length
  · refine .inr ⟨h0, B, 0, cap, rfl, hc, fun j hj => ?_⟩
    rw [Nat.zero_add, cell_of_row W B j _ _ _ h, Array.getElem?_append_left (by simpa using hj)]
    simp [hj, zAt]
  · obtain rfl : zs = [] := List.eq_nil_of_length_eq_zero (by omega)
    exact .inl ⟨rfl, _, _, rfl⟩
theorem hasI_front {w : World} {B n cap : Nat} {zs : List Int} (h : HasI .i32 w (.slice (some ⟨B, 0, none⟩) n cap) zs) (k : Nat) (hk : k ≤ zs.length) : HasI .i32 w (.slice (some ⟨B, 0, none⟩) k cap) (zs.take k) := by
  by_cases h0 : 0 < k
  · rcases h with ⟨rfl, _⟩ | ⟨hp, b, off, c, e, hc, hx⟩
    · simp at hk; omega
    · simp only [Value.slice.injEq, Option.some.injEq, Addr.mk.injEq, and_true] at e
      obtain ⟨⟨rfl, rfl⟩, rfl, rfl⟩ := e
      have hl : (zs.take k).length = k := by simp; omega
      refine .inr ⟨by omega, B, 0, cap, by rw [hl], by omega, fun j hj => ?_⟩
      rw [hl] at hj
      rw [show zAt (zs.take k) j = zAt zs j by simp [zAt, hj]]
      exact hx j (by omega)
  · obtain rfl : k = 0 := by omega
    exact .inl ⟨by simp, _, _, rfl⟩
theorem hasI_back {w : World} {B n cap : Nat} {zs : List Int} (h : HasI .i32 w (.slice (some ⟨B, 0, none⟩) n cap) zs) (hn : n = zs.length) (k : Nat) (hk : k ≤ zs.length) : HasI .i32 w (.slice (some ⟨B, k, none⟩) (n - k) (cap - k)) (zs.drop k) := by
  have hl : (zs.drop k).length = zs.length - k := by simp
  by_cases h0 : k < zs.length
  · rcases h with ⟨rfl, _⟩ | ⟨hp, b, off, c, e, hc, hx⟩
    · simp at h0
    · simp only [Value.slice.injEq, Option.some.injEq, Addr.mk.injEq, and_true] at e
      obtain ⟨⟨rfl, rfl⟩, _, rfl⟩ := e
      refine .inr ⟨by omega, B, k, cap - k, by rw [hl, hn], by omega, fun j hj => ?_⟩
      rw [hl] at hj
      rw [show zAt (zs.drop k) j = zAt zs (k + j) by simp [zAt]]
      have := hx (k + j) (by omega)
      rw [Nat.zero_add] at this
      exact this
  · have e : zs.drop k = [] := List.eq_nil_of_length_eq_zero (by omega)
    refine .inl ⟨e, some ⟨B, k, none⟩, cap - k, ?_⟩
    rw [show n - k = 0 by omega]
end Go.Proofs.YtnnabheejojfdaaDoor.L
