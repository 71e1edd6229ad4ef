/- What is proved here: plain facts: runes that are written and read again are themselves (those that are no characters U+FFFD); bytes that are read and written again are themselves just if they are right. -/
import Derived.Test.YtkbegfdbfmfedaaGreatDoorBun5
namespace Go.Proofs.YtkbegfdbfmfedaaGreatDoor.U

theorem byteAt_zero (a : Nat) (h : a < 256) (l : List UInt8) : byteAt (UInt8.ofNat a :: l) 0 = a := by
  simp only [byteAt, List.getElem?_cons_zero, Option.getD_some, UInt8.toNat_ofNat']; omega
theorem byteAt_succ (x : UInt8) (l : List UInt8) (k : Nat) : byteAt (x :: l) (k + 1) = byteAt l k := by simp [byteAt]

/-- A character's bytes, whatever is behind them, are read as it. -/
theorem dec_of (ds : List UInt8) (n : Nat) (r : Int) (h0 : 0 < ds.length) (hn : lead (byteAt ds 0) = n) (hz : n ≠ 0) (hl : n ≤ ds.length) (hk : ∀ j, 1 ≤ j → j < n → okAt ds j = true) (hr : (runeOf ds : Int) = r) : nextAll ds = true ∧ nextN ds = n ∧ (runeOf ds : Int) = r := by
  have ha := (all_iff ds h0).2 ⟨by omega, by omega, by rw [hn]; exact hk⟩
  refine ⟨ha, ?_, hr⟩
  have : nextN ds = lead (byteAt ds 0) := by simpa [nextAll] using ha
  omega
theorem lead_is1 {c : Nat} (h : c < 128) : lead c = 1 := by unfold lead; rw [if_pos h]
theorem lead_is2 {c : Nat} (h : 194 ≤ c) (h' : c < 224) : lead c = 2 := by unfold lead; rw [if_neg (by omega), if_neg (by omega), if_pos h']
theorem lead_is3 {c : Nat} (h : 224 ≤ c) (h' : c < 240) : lead c = 3 := by unfold lead; rw [if_neg (by omega), if_neg (by omega), if_neg (by omega), if_pos h']
theorem lead_is4 {c : Nat} (h : 240 ≤ c) (h' : c < 245) : lead c = 4 := by unfold lead; rw [if_neg (by omega), if_neg (by omega), if_neg (by omega), if_neg (by omega), if_pos h']
theorem valid_iff (r : Int) : Utf8.valid r = true ↔ 0 ≤ r ∧ r ≤ 1114111 ∧ ¬ (55296 ≤ r ∧ r ≤ 57343) := by
  simp only [Utf8.valid]
  constructor <;> intro h <;> (simp at h ⊢; omega)
theorem lo2_le {c d : Nat} (h : 194 ≤ c) (h' : c < 245) (hd : 128 ≤ d) (a : c = 224 → 160 ≤ d) (b : c = 240 → 144 ≤ d) : lo2 c ≤ d := by
  unfold lo2
  repeat' split
  all_goals omega
theorem le_hi2 {c d : Nat} (h : 194 ≤ c) (h' : c < 245) (hd : d ≤ 191) (a : c = 237 → d ≤ 159) (b : c = 244 → d ≤ 143) : d ≤ hi2 c := by
  unfold hi2
  repeat' split
  all_goals omega
theorem ok_one {ds : List UInt8} {c d : Nat} (h0 : byteAt ds 0 = c) (h1 : byteAt ds 1 = d) (l : lo2 c ≤ d) (u : d ≤ hi2 c) : okAt ds 1 = true := by
  simp only [okAt, loAt, hiAt, if_true, h0, h1, l, u, decide_true, Bool.and_self]
theorem ok_more {ds : List UInt8} {k d : Nat} (hk : 2 ≤ k) (h1 : byteAt ds k = d) (l : 128 ≤ d) (u : d ≤ 191) : okAt ds k = true := by
  simp only [okAt, loAt, hiAt, show ¬ (k = 1) by omega, if_false, h1, l, u, decide_true, Bool.and_self]

set_option maxHeartbeats 2000000 in
theorem dec_enc (r : Int) (hv : Utf8.valid r = true) (rest : List UInt8) : nextAll (enc r ++ rest) = true ∧ nextN (enc r ++ rest) = (enc r).length ∧ (runeOf (enc r ++ rest) : Int) = r := by
  obtain ⟨v0, v1, v2⟩ := (valid_iff r).1 hv
  obtain ⟨n, rfl⟩ : ∃ n : Nat, r = (n : Int) := ⟨r.toNat, by omega⟩
  by_cases c1 : n < 128
  · rw [enc_one (by omega) (by omega)]
    simp only [Int.toNat_natCast, List.cons_append, List.nil_append]
    have b0 := byteAt_zero n (by omega) rest
    refine dec_of _ 1 _ (by simp) (by rw [b0]; exact lead_is1 c1) (by omega) (by simp) (fun j _ _ => by omega) ?_
    unfold runeOf; rw [b0, if_pos (lead_is1 c1)]
  · by_cases c2 : n < 2048
    · rw [enc_two (by omega) (by omega)]
      simp only [Int.toNat_natCast, List.cons_append, List.nil_append]
      have b0 := byteAt_zero (192 + n / 64) (by omega) (UInt8.ofNat (128 + n % 64) :: rest)
      have b1 : byteAt (UInt8.ofNat (192 + n / 64) :: UInt8.ofNat (128 + n % 64) :: rest) 1 = 128 + n % 64 := by rw [byteAt_succ, byteAt_zero _ (by omega)]
      have l0 := lead_is2 (c := 192 + n / 64) (by omega) (by omega)
      refine dec_of _ 2 _ (by simp) (by rw [b0]; exact l0) (by omega) (by simp) (fun j h1 h2 => ?_) ?_
      · obtain rfl : j = 1 := by omega
        exact ok_one b0 b1 (lo2_le (by omega) (by omega) (by omega) (by omega) (by omega)) (le_hi2 (by omega) (by omega) (by omega) (by omega) (by omega))
      · unfold runeOf; rw [b0, b1, l0, if_neg (by omega), if_pos rfl]; omega
    · by_cases c3 : n < 65536
      · rw [enc_three hv (by omega) (by omega)]
        simp only [Int.toNat_natCast, List.cons_append, List.nil_append]
        have b0 := byteAt_zero (224 + n / 4096) (by omega) (UInt8.ofNat (128 + n / 64 % 64) :: UInt8.ofNat (128 + n % 64) :: rest)
        have b1 : byteAt (UInt8.ofNat (224 + n / 4096) :: UInt8.ofNat (128 + n / 64 % 64) :: UInt8.ofNat (128 + n % 64) :: rest) 1 = 128 + n / 64 % 64 := by rw [byteAt_succ, byteAt_zero _ (by omega)]
        have b2 : byteAt (UInt8.ofNat (224 + n / 4096) :: UInt8.ofNat (128 + n / 64 % 64) :: UInt8.ofNat (128 + n % 64) :: rest) 2 = 128 + n % 64 := by rw [byteAt_succ, byteAt_succ, byteAt_zero _ (by omega)]
        have l0 := lead_is3 (c := 224 + n / 4096) (by omega) (by omega)
        refine dec_of _ 3 _ (by simp) (by rw [b0]; exact l0) (by omega) (by simp) (fun j h1 h2 => ?_) ?_
        · have : j = 1 ∨ j = 2 := by omega
          rcases this with rfl | rfl
          · exact ok_one b0 b1 (lo2_le (by omega) (by omega) (by omega) (by omega) (by omega)) (le_hi2 (by omega) (by omega) (by omega) (by omega) (by omega))
          · exact ok_more (by omega) b2 (by omega) (by omega)
        · unfold runeOf; rw [b0, b1, b2, l0, if_neg (by omega), if_neg (by omega), if_pos rfl]; omega
      · rw [enc_four hv (by omega)]
        simp only [Int.toNat_natCast, List.cons_append, List.nil_append]
        have b0 := byteAt_zero (240 + n / 262144) (by omega) (UInt8.ofNat (128 + n / 4096 % 64) :: UInt8.ofNat (128 + n / 64 % 64) :: UInt8.ofNat (128 + n % 64) :: rest)
        have b1 : byteAt (UInt8.ofNat (240 + n / 262144) :: UInt8.ofNat (128 + n / 4096 % 64) :: UInt8.ofNat (128 + n / 64 % 64) :: UInt8.ofNat (128 + n % 64) :: rest) 1 = 128 + n / 4096 % 64 := by rw [byteAt_succ, byteAt_zero _ (by omega)]
        have b2 : byteAt (UInt8.ofNat (240 + n / 262144) :: UInt8.ofNat (128 + n / 4096 % 64) :: UInt8.ofNat (128 + n / 64 % 64) :: UInt8.ofNat (128 + n % 64) :: rest) 2 = 128 + n / 64 % 64 := by rw [byteAt_succ, byteAt_succ, byteAt_zero _ (by omega)]
        have b3 : byteAt (UInt8.ofNat (240 + n / 262144) :: UInt8.ofNat (128 + n / 4096 % 64) :: UInt8.ofNat (128 + n / 64 % 64) :: UInt8.ofNat (128 + n % 64) :: rest) 3 = 128 + n % 64 := by rw [byteAt_succ, byteAt_succ, byteAt_succ, byteAt_zero _ (by omega)]
        have l0 := lead_is4 (c := 240 + n / 262144) (by omega) (by omega)
        refine dec_of _ 4 _ (by simp) (by rw [b0]; exact l0) (by omega) (by simp) (fun j h1 h2 => ?_) ?_
        · have : j = 1 ∨ j = 2 ∨ j = 3 := by omega
          rcases this with rfl | rfl | rfl
          · exact ok_one b0 b1 (lo2_le (by omega) (by omega) (by omega) (by omega) (by omega)) (le_hi2 (by omega) (by omega) (by omega) (by omega) (by omega))
          · exact ok_more (by omega) b2 (by omega) (by omega)
          · exact ok_more (by omega) b3 (by omega) (by omega)
        · unfold runeOf; rw [b0, b1, b2, b3, l0, if_neg (by omega), if_neg (by omega), if_neg (by omega)]; omega

theorem pcs_encs : ∀ (zs : List Int), (∀ z ∈ zs, Utf8.valid z = true) → ∀ f at0, (encs zs).length ≤ f → (pcsF f at0 (encs zs)).map (fun p => (p.r : Int)) = zs ∧ (pcsF f at0 (encs zs)).all Pc.ok = true
  | [], _, f, at0, _ => by cases f <;> simp [pcsF, encs]
  | z :: r, hv, f, at0, hf => by
    obtain ⟨d1, d2, d3⟩ := dec_enc z (hv z (by simp)) (encs r)
    have he : encs (z :: r) = enc z ++ encs r := rfl
    have hp := nextN_pos (enc z ++ encs r)
    rw [he] at hf ⊢
    rw [List.length_append] at hf
    obtain ⟨g, rfl⟩ : ∃ g, f = g + 1 := ⟨f - 1, by omega⟩
    unfold pcsF
    rw [if_neg (by rw [List.length_append]; omega), d2, List.drop_left]
    obtain ⟨i1, i2⟩ := pcs_encs r (fun x hx => hv x (by simp [hx])) g (at0 + (enc z).length) (by omega)
    refine ⟨?_, ?_⟩
    · rw [List.map_cons, i1]
      simp only [nextR, d1, if_true, d3]
    · rw [List.all_cons, i2, d1]; rfl
/-- What is no character is U+FFFD. -/
def mendR (r : Int) : Int := if Utf8.valid r = true then r else 65533
theorem mendR_valid (r : Int) : Utf8.valid (mendR r) = true := by
  unfold mendR; split
  · assumption
  · decide
theorem enc_mendR (r : Int) : enc (mendR r) = enc r := by
  unfold mendR; split
  · rfl
  · rename_i h
    rw [enc_wrong (r := r) (by simpa using h)]
    decide
theorem encs_mendR (zs : List Int) : encs (zs.map mendR) = encs zs := by
  unfold encs
  rw [List.flatMap_map]
  congr 1
  funext r
  exact enc_mendR r
/-- **Runes written and read.** -/
theorem runesI_encs (zs : List Int) : runesI (encs zs) = zs.map mendR ∧ (pcs (encs zs)).all Pc.ok = true := by
  have h := pcs_encs (zs.map mendR) (fun z hz => by obtain ⟨r, _, rfl⟩ := List.mem_map.1 hz; exact mendR_valid r) (encs zs).length 0 (by rw [encs_mendR]; exact Nat.le_refl _)
  rw [encs_mendR] at h
  exact h

theorem rune_valid (ds : List UInt8) (h0 : 0 < ds.length) (h : nextAll ds = true) : Utf8.valid (runeOf ds : Int) = true := by
  obtain ⟨hz, hl, hk⟩ := (all_iff ds h0).1 h
  have l0 := byteAt_lt ds 0
  have k1 : 1 < lead (byteAt ds 0) → lo2 (byteAt ds 0) ≤ byteAt ds 1 ∧ byteAt ds 1 ≤ hi2 (byteAt ds 0) := fun b => by simpa [okAt, loAt, hiAt] using hk 1 (by omega) b
  have k2 : 2 < lead (byteAt ds 0) → 128 ≤ byteAt ds 2 ∧ byteAt ds 2 ≤ 191 := fun b => by simpa [okAt, loAt, hiAt] using hk 2 (by omega) b
  have k3 : 3 < lead (byteAt ds 0) → 128 ≤ byteAt ds 3 ∧ byteAt ds 3 ≤ 191 := fun b => by simpa [okAt, loAt, hiAt] using hk 3 (by omega) b
  rw [valid_iff]
  unfold runeOf
  clear hk h
  generalize byteAt ds 0 = b0 at *
  generalize byteAt ds 1 = b1 at *
  generalize byteAt ds 2 = b2 at *
  generalize byteAt ds 3 = b3 at *
  rcases lead_cases b0 with ⟨c, e⟩ | ⟨c, c', e⟩ | ⟨c, c', e⟩ | ⟨c, c', e⟩ | ⟨c, c', e⟩ | ⟨c, e⟩
  · rw [e, if_pos rfl]; omega
  · exact absurd e hz
  · rw [e] at k1
    have s := second_ok c (by omega) (k1 (by omega)).1 (k1 (by omega)).2
    rw [e, if_neg (by omega), if_pos rfl]; omega
  · rw [e] at k1 k2
    have s := second_ok (by omega) (by omega) (k1 (by omega)).1 (k1 (by omega)).2
    have t := k2 (by omega)
    rw [e, if_neg (by omega), if_neg (by omega), if_pos rfl]; omega
  · rw [e] at k1 k2 k3
    have s := second_ok (by omega) (by omega) (k1 (by omega)).1 (k1 (by omega)).2
    have t := k2 (by omega)
    have u := k3 (by omega)
    rw [e, if_neg (by omega), if_neg (by omega), if_neg (by omega)]; omega
  · exact absurd e hz
theorem pcsF_valid : ∀ f at0 (bs : List UInt8), ∀ p ∈ pcsF f at0 bs, Utf8.valid (p.r : Int) = true
  | 0, _, _, p, hp => by simp [pcsF] at hp
  | f + 1, at0, bs, p, hp => by
    unfold pcsF at hp
    split at hp
    · simp at hp
    · rename_i h0
      rcases List.mem_cons.1 hp with rfl | hp
      · show Utf8.valid (nextR bs : Int) = true
        unfold nextR; split
        · rename_i ha; exact rune_valid bs (by omega) ha
        · decide
      · exact pcsF_valid f _ _ p hp
theorem runesI_mend (bs : List UInt8) : (runesI bs).map mendR = runesI bs := by
  conv => rhs; rw [← List.map_id (runesI bs)]
  apply List.map_congr_left
  intro z hz
  obtain ⟨p, hp, rfl⟩ := List.mem_map.1 hz
  show mendR _ = _
  unfold mendR
  rw [if_pos (pcsF_valid _ _ _ p hp)]; rfl
/-- **Bytes read and written are themselves just if they are right.** -/
theorem again_iff (bs : List UInt8) : decide (encs (runesI bs) = bs) = (pcs bs).all Pc.ok := by
  by_cases h : (pcs bs).all Pc.ok = true
  · rw [h, decide_eq_true_eq]
    have hf : fw bs = bs.length := by have := fw_all bs; rw [h] at this; exact of_decide_eq_true this
    have := mend_eq bs
    rw [hf, List.take_length, List.drop_length] at this
    rw [← this]
    simp [runesI, pcs, pcsF, encs]
  · have h' : (pcs bs).all Pc.ok = false := by simpa using h
    rw [h', decide_eq_false_iff_not]
    intro e
    have := (runesI_encs (runesI bs)).2
    rw [e, h'] at this
    cases this
theorem pcsF_four : ∀ f at0 (bs : List UInt8), bs.length ≤ f → bs.length ≤ 4 * (pcsF f at0 bs).length
  | 0, _, bs, h => by omega
  | f + 1, at0, bs, h => by
    unfold pcsF
    split
    · omega
    · have h1 := nextN_pos bs
      have h2 := nextN_lead bs
      have := pcsF_four f (at0 + nextN bs) (bs.drop (nextN bs)) (by simp; omega)
      simp only [List.length_drop] at this
      simp only [List.length_cons]
      omega
theorem pcs_four (bs : List UInt8) : bs.length ≤ 4 * (pcs bs).length := pcsF_four _ _ _ (Nat.le_refl _)

end Go.Proofs.YtkbegfdbfmfedaaGreatDoor.U
