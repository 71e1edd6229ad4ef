/- What is proved here: plain facts: the model's bytes of a rune and the shelf's are one; what Plain leaves is a character. -/
import Derived.Lib.RuneBytes
import Derived.Test.YtjhoaepokkaoeaaDoorMathB
import Derived.Test.YtjhoaepokkaoeaaDoorMathK
namespace Go.Proofs.YtjhoaepokkaoeaaDoor.U

theorem enc_shelf (r : Int) (h : 0 ≤ r ∧ r ≤ 1114111 ∧ ¬ (55296 ≤ r ∧ r ≤ 57343)) : enc r = Lib.encodeRune r := by
  obtain ⟨h0, h1, h2⟩ := h
  have hv : Utf8.valid r = true := (valid_iff r).2 ⟨h0, h1, h2⟩
  obtain ⟨n, rfl⟩ : ∃ n : Nat, r = (n : Int) := ⟨r.toNat, by omega⟩
  have ea : ∀ (x : Int) (m : Nat), x = (m : Int) → x.toNat.toUInt8 = UInt8.ofNat m := fun x m e => by subst e; rfl
  unfold Lib.encodeRune
  by_cases c1 : n < 128
  · rw [enc_one (by omega) (by omega), Lib.encodeRuneZ_one (by omega) (by omega)]
    simp
  · by_cases c2 : n < 2048
    · rw [enc_two (by omega) (by omega), Lib.encodeRuneZ_two (by omega) (by omega)]
      simp only [List.map_cons, List.map_nil, Int.toNat_natCast]
      rw [ea _ (192 + n / 64) (by omega), ea _ (128 + n % 64) (by omega)]
    · by_cases c3 : n < 65536
      · rw [enc_three hv (by omega) (by omega), Lib.encodeRuneZ_three (by omega)]
        simp only [List.map_cons, List.map_nil, Int.toNat_natCast]
        rw [ea _ (224 + n / 4096) (by omega), ea _ (128 + n / 64 % 64) (by omega), ea _ (128 + n % 64) (by omega)]
      · rw [enc_four (by omega) (by omega), Lib.encodeRuneZ_four (by omega) (by omega)]
        simp only [List.map_cons, List.map_nil, Int.toNat_natCast]
        rw [ea _ (240 + n / 262144) (by omega), ea _ (128 + n / 4096 % 64) (by omega), ea _ (128 + n / 64 % 64) (by omega), ea _ (128 + n % 64) (by omega)]
theorem encs_shelf (zs : List Int) (h : ∀ z ∈ zs, 0 ≤ z ∧ z ≤ 1114111 ∧ ¬ (55296 ≤ z ∧ z ≤ 57343)) : encs zs = zs.flatMap Lib.encodeRune := by
  induction zs with
  | nil => rfl
  | cons z zs ih =>
    show enc z ++ encs zs = Lib.encodeRune z ++ zs.flatMap Lib.encodeRune
    rw [enc_shelf z (h z (by simp)), ih (fun x hx => h x (by simp [hx]))]
/-- Every rune of a cell is a character. -/
theorem refN_ok : ∀ (n : Nat) (ts : List (Nat × Nat)), ts.length ≤ n → (∀ t ∈ ts, t.2 < 1114112) → ∀ l c, ∀ x ∈ refN l c ts, (0 : Int) ≤ (x.r : Int) ∧ (x.r : Int) ≤ 1114111 ∧ ¬ (55296 ≤ (x.r : Int) ∧ (x.r : Int) ≤ 57343)
  | _, [], _, _, _, _, x, hx => by simp [refN] at hx
  | n + 1, [(p, r)], _, ht, l, c, x, hx => by
    simp only [refN, List.mem_singleton] at hx
    subst hx
    have := plainN_lt r (ht (p, r) (by simp))
    simp only; omega
  | n + 1, (p, r) :: (q, s) :: ts, hl, ht, l, c, x, hx => by
    simp only [List.length_cons] at hl
    rw [refN] at hx
    split at hx
    · rcases List.mem_cons.1 hx with rfl | hx
      · have := plainN_lt s (ht (q, s) (by simp))
        simp only; omega
      · exact refN_ok n ts (by omega) (fun t h => ht t (by simp [h])) _ _ x hx
    · rcases List.mem_cons.1 hx with rfl | hx
      · have := plainN_lt r (ht (p, r) (by simp))
        simp only; omega
      · exact refN_ok n ((q, s) :: ts) (by simp only [List.length_cons]; omega) (fun t h => ht t (List.mem_cons_of_mem _ h)) _ _ x hx
theorem refN_len : ∀ (n : Nat) (ts : List (Nat × Nat)), ts.length ≤ n → ∀ l c, (refN l c ts).length ≤ ts.length
  | _, [], _, _, _ => by simp [refN]
  | n + 1, [(p, r)], _, l, c => by simp [refN]
  | n + 1, (p, r) :: (q, s) :: ts, hl, l, c => by
    simp only [List.length_cons] at hl
    rw [refN]
    split
    · have := refN_len n ts (by omega) (l + 1) 1
      simp only [List.length_cons]; omega
    · have := refN_len n ((q, s) :: ts) (by simp only [List.length_cons]; omega) (if plainN r = 10 then l + 1 else l) (if plainN r = 10 then 1 else c + 1)
      simp only [List.length_cons] at this ⊢; omega
theorem cellsOf_len (bs : List UInt8) : (cellsOf bs).length ≤ bs.length := by
  rw [cells_ref]
  exact Nat.le_trans (refN_len _ _ (Nat.le_refl _) _ _) (toks_length bs)
theorem plainZ_ok (z : Int) (h0 : 0 ≤ z) (h1 : z ≤ 1114111) : 0 ≤ plainZ z ∧ plainZ z ≤ 1114111 ∧ ¬ (55296 ≤ plainZ z ∧ plainZ z ≤ 57343) := by
  unfold plainZ
  repeat' split
  all_goals omega
end Go.Proofs.YtjhoaepokkaoeaaDoor.U
