/- What is proved here: laws and contracts of MathB, RRMend, LkB, LkStrip, LkKind, LkSch, one behind the other (each says its own). -/
import Derived.Test.YtmfhhpacojodkaaGreatDoorBun5
import Derived.Laws.IdiomStrings
import Derived.Maps.AppendAt
import Derived.Test.YtmfhhpacojodkaaGreatDoorBun4
/- What is proved here: plain facts: runes that are written and read again are themselves (those that are no characters U+FFFD); bytes that are read and written again are themselves just if they are right. -/
namespace Go.Proofs.YtmfhhpacojodkaaGreatDoor.U

theorem byteAt_zero (a : Nat) (h : a < 256) (l : List UInt8) : byteAt (UInt8.ofNat a :: l) 0 = a := by
  simp only [byteAt, List.getElem?_cons_zero, Option.getD_some, UInt8.toNat_ofNat']; omega
theorem byteAt_succ (x : UInt8) (l : List UInt8) (k : Nat) : byteAt (x :: l) (k + 1) = byteAt l k := by simp [byteAt]

/-- A character's bytes, whatever is behind them, are read as it. -/
theorem dec_of (ds : List UInt8) (n : Nat) (r : Int) (h0 : 0 < ds.length) (hn : lead (byteAt ds 0) = n) (hz : n ≠ 0) (hl : n ≤ ds.length) (hk : ∀ j, 1 ≤ j → j < n → okAt ds j = true) (hr : (runeOf ds : Int) = r) : nextAll ds = true ∧ nextN ds = n ∧ (runeOf ds : Int) = r := by
  have ha := (all_iff ds h0).2 ⟨by omega, by omega, by rw [hn]; exact hk⟩
  refine ⟨ha, ?_, hr⟩
  have : nextN ds = lead (byteAt ds 0) := by simpa [nextAll] using ha
  omega
theorem lead_is1 {c : Nat} (h : c < 128) : lead c = 1 := by unfold lead; rw [if_pos h]
theorem lead_is2 {c : Nat} (h : 194 ≤ c) (h' : c < 224) : lead c = 2 := by unfold lead; rw [if_neg (by omega), if_neg (by omega), if_pos h']
theorem lead_is3 {c : Nat} (h : 224 ≤ c) (h' : c < 240) : lead c = 3 := by unfold lead; rw [if_neg (by omega), if_neg (by omega), if_neg (by omega), if_pos h']
theorem lead_is4 {c : Nat} (h : 240 ≤ c) (h' : c < 245) : lead c = 4 := by unfold lead; rw [if_neg (by omega), if_neg (by omega), if_neg (by omega), if_neg (by omega), if_pos h']
theorem valid_iff (r : Int) : Utf8.valid r = true ↔ 0 ≤ r ∧ r ≤ 1114111 ∧ ¬ (55296 ≤ r ∧ r ≤ 57343) := by
  simp only [Utf8.valid]
  constructor <;> intro h <;> (simp at h ⊢; omega)
theorem lo2_le {c d : Nat} (h : 194 ≤ c) (h' : c < 245) (hd : 128 ≤ d) (a : c = 224 → 160 ≤ d) (b : c = 240 → 144 ≤ d) : lo2 c ≤ d := by
  unfold lo2
  repeat' split
  all_goals omega
theorem le_hi2 {c d : Nat} (h : 194 ≤ c) (h' : c < 245) (hd : d ≤ 191) (a : c = 237 → d ≤ 159) (b : c = 244 → d ≤ 143) : d ≤ hi2 c := by
  unfold hi2
  repeat' split
  all_goals omega
theorem ok_one {ds : List UInt8} {c d : Nat} (h0 : byteAt ds 0 = c) (h1 : byteAt ds 1 = d) (l : lo2 c ≤ d) (u : d ≤ hi2 c) : okAt ds 1 = true := by
  simp only [okAt, loAt, hiAt, if_true, h0, h1, l, u, decide_true, Bool.and_self]
theorem ok_more {ds : List UInt8} {k d : Nat} (hk : 2 ≤ k) (h1 : byteAt ds k = d) (l : 128 ≤ d) (u : d ≤ 191) : okAt ds k = true := by
  simp only [okAt, loAt, hiAt, show ¬ (k = 1) by omega, if_false, h1, l, u, decide_true, Bool.and_self]

set_option maxHeartbeats 2000000 in
theorem dec_enc (r : Int) (hv : Utf8.valid r = true) (rest : List UInt8) : nextAll (enc r ++ rest) = true ∧ nextN (enc r ++ rest) = (enc r).length ∧ (runeOf (enc r ++ rest) : Int) = r := by
  obtain ⟨v0, v1, v2⟩ := (valid_iff r).1 hv
  obtain ⟨n, rfl⟩ : ∃ n : Nat, r = (n : Int) := ⟨r.toNat, by omega⟩
  by_cases c1 : n < 128
  · rw [enc_one (by omega) (by omega)]
    simp only [Int.toNat_natCast, List.cons_append, List.nil_append]
    have b0 := byteAt_zero n (by omega) rest
    refine dec_of _ 1 _ (by simp) (by rw [b0]; exact lead_is1 c1) (by omega) (by simp) (fun j _ _ => by omega) ?_
    unfold runeOf; rw [b0, if_pos (lead_is1 c1)]
  · by_cases c2 : n < 2048
    · rw [enc_two (by omega) (by omega)]
      simp only [Int.toNat_natCast, List.cons_append, List.nil_append]
      have b0 := byteAt_zero (192 + n / 64) (by omega) (UInt8.ofNat (128 + n % 64) :: rest)
      have b1 : byteAt (UInt8.ofNat (192 + n / 64) :: UInt8.ofNat (128 + n % 64) :: rest) 1 = 128 + n % 64 := by rw [byteAt_succ, byteAt_zero _ (by omega)]
      have l0 := lead_is2 (c := 192 + n / 64) (by omega) (by omega)
      refine dec_of _ 2 _ (by simp) (by rw [b0]; exact l0) (by omega) (by simp) (fun j h1 h2 => ?_) ?_
      · obtain rfl : j = 1 := by omega
        exact ok_one b0 b1 (lo2_le (by omega) (by omega) (by omega) (by omega) (by omega)) (le_hi2 (by omega) (by omega) (by omega) (by omega) (by omega))
      · unfold runeOf; rw [b0, b1, l0, if_neg (by omega), if_pos rfl]; omega
    · by_cases c3 : n < 65536
      · rw [enc_three hv (by omega) (by omega)]
        simp only [Int.toNat_natCast, List.cons_append, List.nil_append]
        have b0 := byteAt_zero (224 + n / 4096) (by omega) (UInt8.ofNat (128 + n / 64 % 64) :: UInt8.ofNat (128 + n % 64) :: rest)
        have b1 : byteAt (UInt8.ofNat (224 + n / 4096) :: UInt8.ofNat (128 + n / 64 % 64) :: UInt8.ofNat (128 + n % 64) :: rest) 1 = 128 + n / 64 % 64 := by rw [byteAt_succ, byteAt_zero _ (by omega)]
        have b2 : byteAt (UInt8.ofNat (224 + n / 4096) :: UInt8.ofNat (128 + n / 64 % 64) :: UInt8.ofNat (128 + n % 64) :: rest) 2 = 128 + n % 64 := by rw [byteAt_succ, byteAt_succ, byteAt_zero _ (by omega)]
        have l0 := lead_is3 (c := 224 + n / 4096) (by omega) (by omega)
        refine dec_of _ 3 _ (by simp) (by rw [b0]; exact l0) (by omega) (by simp) (fun j h1 h2 => ?_) ?_
        · have : j = 1 ∨ j = 2 := by omega
          rcases this with rfl | rfl
          · exact ok_one b0 b1 (lo2_le (by omega) (by omega) (by omega) (by omega) (by omega)) (le_hi2 (by omega) (by omega) (by omega) (by omega) (by omega))
          · exact ok_more (by omega) b2 (by omega) (by omega)
        · unfold runeOf; rw [b0, b1, b2, l0, if_neg (by omega), if_neg (by omega), if_pos rfl]; omega
      · rw [enc_four hv (by omega)]
        simp only [Int.toNat_natCast, List.cons_append, List.nil_append]
        have b0 := byteAt_zero (240 + n / 262144) (by omega) (UInt8.ofNat (128 + n / 4096 % 64) :: UInt8.ofNat (128 + n / 64 % 64) :: UInt8.ofNat (128 + n % 64) :: rest)
        have b1 : byteAt (UInt8.ofNat (240 + n / 262144) :: UInt8.ofNat (128 + n / 4096 % 64) :: UInt8.ofNat (128 + n / 64 % 64) :: UInt8.ofNat (128 + n % 64) :: rest) 1 = 128 + n / 4096 % 64 := by rw [byteAt_succ, byteAt_zero _ (by omega)]
        have b2 : byteAt (UInt8.ofNat (240 + n / 262144) :: UInt8.ofNat (128 + n / 4096 % 64) :: UInt8.ofNat (128 + n / 64 % 64) :: UInt8.ofNat (128 + n % 64) :: rest) 2 = 128 + n / 64 % 64 := by rw [byteAt_succ, byteAt_succ, byteAt_zero _ (by omega)]
        have b3 : byteAt (UInt8.ofNat (240 + n / 262144) :: UInt8.ofNat (128 + n / 4096 % 64) :: UInt8.ofNat (128 + n / 64 % 64) :: UInt8.ofNat (128 + n % 64) :: rest) 3 = 128 + n % 64 := by rw [byteAt_succ, byteAt_succ, byteAt_succ, byteAt_zero _ (by omega)]
        have l0 := lead_is4 (c := 240 + n / 262144) (by omega) (by omega)
        refine dec_of _ 4 _ (by simp) (by rw [b0]; exact l0) (by omega) (by simp) (fun j h1 h2 => ?_) ?_
        · have : j = 1 ∨ j = 2 ∨ j = 3 := by omega
          rcases this with rfl | rfl | rfl
          · exact ok_one b0 b1 (lo2_le (by omega) (by omega) (by omega) (by omega) (by omega)) (le_hi2 (by omega) (by omega) (by omega) (by omega) (by omega))
          · exact ok_more (by omega) b2 (by omega) (by omega)
          · exact ok_more (by omega) b3 (by omega) (by omega)
        · unfold runeOf; rw [b0, b1, b2, b3, l0, if_neg (by omega), if_neg (by omega), if_neg (by omega)]; omega

theorem pcs_encs : ∀ (zs : List Int), (∀ z ∈ zs, Utf8.valid z = true) → ∀ f at0, (encs zs).length ≤ f → (pcsF f at0 (encs zs)).map (fun p => (p.r : Int)) = zs ∧ (pcsF f at0 (encs zs)).all Pc.ok = true
  | [], _, f, at0, _ => by cases f <;> simp [pcsF, encs]
  | z :: r, hv, f, at0, hf => by
    obtain ⟨d1, d2, d3⟩ := dec_enc z (hv z (by simp)) (encs r)
    have he : encs (z :: r) = enc z ++ encs r := rfl
    have hp := nextN_pos (enc z ++ encs r)
    rw [he] at hf ⊢
    rw [List.length_append] at hf
    obtain ⟨g, rfl⟩ : ∃ g, f = g + 1 := ⟨f - 1, by omega⟩
    unfold pcsF
    rw [if_neg (by rw [List.length_append]; omega), d2, List.drop_left]
    obtain ⟨i1, i2⟩ := pcs_encs r (fun x hx => hv x (by simp [hx])) g (at0 + (enc z).length) (by omega)
    refine ⟨?_, ?_⟩
    · rw [List.map_cons, i1]
      simp only [nextR, d1, if_true, d3]
    · rw [List.all_cons, i2, d1]; rfl
/-- What is no character is U+FFFD. -/
def mendR (r : Int) : Int := if Utf8.valid r = true then r else 65533
theorem mendR_valid (r : Int) : Utf8.valid (mendR r) = true := by
  unfold mendR; split
  · assumption
  · decide
theorem enc_mendR (r : Int) : enc (mendR r) = enc r := by
  unfold mendR; split
  · rfl
  · rename_i h
    rw [enc_wrong (r := r) (by simpa using h)]
    decide
theorem encs_mendR (zs : List Int) : encs (zs.map mendR) = encs zs := by
  unfold encs
  rw [List.flatMap_map]
  congr 1
  funext r
  exact enc_mendR r
/-- **Runes written and read.** -/
theorem runesI_encs (zs : List Int) : runesI (encs zs) = zs.map mendR ∧ (pcs (encs zs)).all Pc.ok = true := by
  have h := pcs_encs (zs.map mendR) (fun z hz => by obtain ⟨r, _, rfl⟩ := List.mem_map.1 hz; exact mendR_valid r) (encs zs).length 0 (by rw [encs_mendR]; exact Nat.le_refl _)
  rw [encs_mendR] at h
  exact h

theorem rune_valid (ds : List UInt8) (h0 : 0 < ds.length) (h : nextAll ds = true) : Utf8.valid (runeOf ds : Int) = true := by
  obtain ⟨hz, hl, hk⟩ := (all_iff ds h0).1 h
  have l0 := byteAt_lt ds 0
  have k1 : 1 < lead (byteAt ds 0) → lo2 (byteAt ds 0) ≤ byteAt ds 1 ∧ byteAt ds 1 ≤ hi2 (byteAt ds 0) := fun b => by simpa [okAt, loAt, hiAt] using hk 1 (by omega) b
  have k2 : 2 < lead (byteAt ds 0) → 128 ≤ byteAt ds 2 ∧ byteAt ds 2 ≤ 191 := fun b => by simpa [okAt, loAt, hiAt] using hk 2 (by omega) b
  have k3 : 3 < lead (byteAt ds 0) → 128 ≤ byteAt ds 3 ∧ byteAt ds 3 ≤ 191 := fun b => by simpa [okAt, loAt, hiAt] using hk 3 (by omega) b
  rw [valid_iff]
  unfold runeOf
  clear hk h
  generalize byteAt ds 0 = b0 at *
  generalize byteAt ds 1 = b1 at *
  generalize byteAt ds 2 = b2 at *
  generalize byteAt ds 3 = b3 at *
  rcases lead_cases b0 with ⟨c, e⟩ | ⟨c, c', e⟩ | ⟨c, c', e⟩ | ⟨c, c', e⟩ | ⟨c, c', e⟩ | ⟨c, e⟩
  · rw [e, if_pos rfl]; omega
  · exact absurd e hz
  · rw [e] at k1
    have s := second_ok c (by omega) (k1 (by omega)).1 (k1 (by omega)).2
    rw [e, if_neg (by omega), if_pos rfl]; omega
  · rw [e] at k1 k2
    have s := second_ok (by omega) (by omega) (k1 (by omega)).1 (k1 (by omega)).2
    have t := k2 (by omega)
    rw [e, if_neg (by omega), if_neg (by omega), if_pos rfl]; omega
  · rw [e] at k1 k2 k3
    have s := second_ok (by omega) (by omega) (k1 (by omega)).1 (k1 (by omega)).2
    have t := k2 (by omega)
    have u := k3 (by omega)
    rw [e, if_neg (by omega), if_neg (by omega), if_neg (by omega)]; omega
  · exact absurd e hz
theorem pcsF_valid : ∀ f at0 (bs : List UInt8), ∀ p ∈ pcsF f at0 bs, Utf8.valid (p.r : Int) = true
  | 0, _, _, p, hp => by simp [pcsF] at hp
  | f + 1, at0, bs, p, hp => by
    unfold pcsF at hp
    split at hp
    · simp at hp
    · rename_i h0
      rcases List.mem_cons.1 hp with rfl | hp
      · show Utf8.valid (nextR bs : Int) = true
        unfold nextR; split
        · rename_i ha; exact rune_valid bs (by omega) ha
        · decide
      · exact pcsF_valid f _ _ p hp
theorem runesI_mend (bs : List UInt8) : (runesI bs).map mendR = runesI bs := by
  conv => rhs; rw [← List.map_id (runesI bs)]
  apply List.map_congr_left
  intro z hz
  obtain ⟨p, hp, rfl⟩ := List.mem_map.1 hz
  show mendR _ = _
  unfold mendR
  rw [if_pos (pcsF_valid _ _ _ p hp)]; rfl
/-- **Bytes read and written are themselves just if they are right.** -/
theorem again_iff (bs : List UInt8) : decide (encs (runesI bs) = bs) = (pcs bs).all Pc.ok := by
  by_cases h : (pcs bs).all Pc.ok = true
  · rw [h, decide_eq_true_eq]
    have hf : fw bs = bs.length := by have := fw_all bs; rw [h] at this; exact of_decide_eq_true this
    have := mend_eq bs
    rw [hf, List.take_length, List.drop_length] at this
    rw [← this]
    simp [runesI, pcs, pcsF, encs]
  · have h' : (pcs bs).all Pc.ok = false := by simpa using h
    rw [h', decide_eq_false_iff_not]
    intro e
    have := (runesI_encs (runesI bs)).2
    rw [e, h'] at this
    cases this
theorem pcsF_four : ∀ f at0 (bs : List UInt8), bs.length ≤ f → bs.length ≤ 4 * (pcsF f at0 bs).length
  | 0, _, bs, h => by omega
  | f + 1, at0, bs, h => by
    unfold pcsF
    split
    · omega
    · have h1 := nextN_pos bs
      have h2 := nextN_lead bs
      have := pcsF_four f (at0 + nextN bs) (bs.drop (nextN bs)) (by simp; omega)
      simp only [List.length_drop] at this
      simp only [List.length_cons]
      omega
theorem pcs_four (bs : List UInt8) : bs.length ≤ 4 * (pcs bs).length := pcsF_four _ _ _ (Nat.le_refl _)

end Go.Proofs.YtmfhhpacojodkaaGreatDoor.U

/- What is proved here: the document's Mend. -/
namespace Go.Proofs.YtmfhhpacojodkaaGreatDoor.R
open Go.RowKit Go.Shelf Go.Proofs.YtmfhhpacojodkaaGreatDoor.U

set_option maxRecDepth 100000 in
set_option maxHeartbeats 2000000 in
/-- **sieveref01.Mend of any text.** -/
theorem rmend_calls (bs : List UInt8) (w : World) (hl : bs.length ≤ 274877906944) :
    Calls Tryz.prog 9 #[.string ⟨bs.toArray⟩] w fun e W' => e = .returned (.string ⟨(encs (runesI bs)).toArray⟩) ∧ Below w.heap.size w W' := by
  have hcv := Lib.run_convert_string_bytes (P := Tryz.prog) w 9 29 5 ⟨bs.toArray⟩ Tryz.underlying9 Tryz.underlying29 Tryz.underlying5
  rw [byteArr_size] at hcv
  have hbw := bytesWorld_below w 5 ⟨bs.toArray⟩
  have RC : Hid (∀ cap, bs.length ≤ cap → Calls Tryz.prog 26 #[.slice (some ⟨w.heap.size, 0, none⟩) bs.length cap] (Lib.bytesWorld w 5 ⟨bs.toArray⟩) fun e W' => ∃ a cap, e = .returned (.slice a (runesI bs).length cap) ∧ W'.ownsRow (Lib.bytesWorld w 5 ⟨bs.toArray⟩).heap.size 21 1 (.slice a (runesI bs).length cap) (runesI bs).length ((runesI bs).map (Value.int .i32)) ∧ Below (Lib.bytesWorld w 5 ⟨bs.toArray⟩).heap.size (Lib.bytesWorld w 5 ⟨bs.toArray⟩) W') :=
    fun cap hcap => rrunes_calls _ bs (w.heap.size + 1) _ (by omega) (RowB.hasB0 rfl (bytesWorld_row w 5 bs) hcap _ (Nat.lt_succ_self _))
  have HBW : Hid (Below w.heap.size w (Lib.bytesWorld w 5 ⟨bs.toArray⟩)) := hbw
  have hrle : (runesI bs).length ≤ bs.length := by rw [runesI_length]; exact pcs_length bs
  clear hbw
  go_enter Tryz.func9, Tryz.ntmps9
  go_wp2_with (first
    | (go_at_call 26
       refine (RC.out _ (grownCap_ge _ _ _ _)).mono ?_
       rintro e w2 ⟨al, cl, rfl, hown2, hb2⟩
       have hI : HasI .i32 w2 _ (runesI bs) := hasI_owns (e := 21) hown2)
    | (go_at_call 25
       refine (text_calls _ _ _ (by omega) hI).mono ?_
       rintro e w3 ⟨rfl, hb3⟩))
  go_ret
  exact ⟨rfl, (HBW.out.trans (hb2.mono HBW.out.size)).trans (hb3.mono (by have := HBW.out.size; have := hb2.size; omega))⟩
end Go.Proofs.YtmfhhpacojodkaaGreatDoor.R

/- What is proved here: texts as lists of bytes: a byte of one, parts of one, and one byte more behind bytes of one's own. -/
namespace Go.Proofs.YtmfhhpacojodkaaGreatDoor.L
open Go.RowKit Go.Shelf Go.Proofs.YtmfhhpacojodkaaGreatDoor.N Go.Proofs.YtmfhhpacojodkaaGreatDoor.U

theorem hid_of {p : Prop} (h : p) : Hid p := h
theorem arr_size (l : List UInt8) : (⟨l.toArray⟩ : ByteArray).size = l.length := by simp [ByteArray.size]
theorem arr_list (l : List UInt8) : (⟨l.toArray⟩ : ByteArray).data.toList = l := by simp
theorem byte_at (l : List UInt8) (k : Nat) (c : UInt8) (hk : k < l.length) (hc : l.getD k 0 = c) (i : Int) (hi : i = k) (w : World) : (Instr.index 9 (.string ⟨l.toArray⟩) (.int .i64 i)).run Tryz.prog w = .ok (.int .u8 c.toNat) w :=
  run_byte w _ _ _ i k c Tryz.underlying9 hi (by rw [arr_size]; exact hk) (by rw [arr_list]; exact hc)
theorem slice_h (bs : List UInt8) (k : Nat) (hk : k ≤ bs.length) (K : Int) (hK : K = k) (w : World) : (Instr.slice 9 (.string ⟨bs.toArray⟩) none (some (.int .i64 K)) none).run Tryz.prog w = .ok (.string ⟨(bs.take k).toArray⟩) w := by
  subst hK
  rw [run_slice_string_h w 9 ⟨bs.toArray⟩ Tryz.underlying9 .i64 k (by omega) (by rw [arr_size]; omega)]
  congr 2
  apply ByteArray.ext
  simp
theorem slice_l (bs : List UInt8) (k : Nat) (hk : k ≤ bs.length) (K : Int) (hK : K = k) (w : World) : (Instr.slice 9 (.string ⟨bs.toArray⟩) (some (.int .i64 K)) none none).run Tryz.prog w = .ok (.string ⟨(bs.drop k).toArray⟩) w := by
  subst hK
  have hsz := arr_size bs
  rw [run_slice_string_l w 9 ⟨bs.toArray⟩ Tryz.underlying9 .i64 k (by omega) (by rw [hsz]; omega)]
  congr 2
  apply ByteArray.ext
  simp
  rw [hsz]
  exact List.take_of_length_le (by simp)
theorem run_slice_lhS {P : Program} (w : World) (t : TypeId) (s : ByteArray) (ht : P.underlying t = some .string) (l h : Int) (h0 : 0 ≤ l) (h1 : l ≤ h) (h2 : h ≤ s.size) :
    (Instr.slice t (.string s) (some (.int .i64 l)) (some (.int .i64 h)) none).run P w = .ok (.string (s.extract l.toNat h.toNat)) w := by
  have eh : (h.toNat : Int) = h := Int.toNat_of_nonneg (by omega)
  simp [Instr.slice, run_underlying ht, Instr.sliceBounds, run_sliceBound, *, (by omega : 0 ≤ h)]
theorem slice_lh (bs : List UInt8) (j k : Nat) (hj : j ≤ k) (hk : k ≤ bs.length) (J K : Int) (hJ : J = j) (hK : K = k) (w : World) : (Instr.slice 9 (.string ⟨bs.toArray⟩) (some (.int .i64 J)) (some (.int .i64 K)) none).run Tryz.prog w = .ok (.string ⟨((bs.take k).drop j).toArray⟩) w := by
  subst hJ hK
  have hsz := arr_size bs
  rw [run_slice_lhS w 9 ⟨bs.toArray⟩ Tryz.underlying9 j k (by omega) (by omega) (by rw [hsz]; omega)]
  congr 2
  apply ByteArray.ext
  simp [List.drop_take]
theorem infoB : (Tryz.prog.info? 5).map (fun i => (i.zero, i.size, i.bytes)) = some (some (.int .u8 0), 1, 1) := by kernel_rfl
theorem bvs_snoc (l : List UInt8) (c : UInt8) : bvs (l ++ [c]) = bvs l ++ [.int .u8 c.toNat] := by simp [bvs]
theorem bvs_len (l : List UInt8) : (bvs l).length = l.length := by simp [bvs]
theorem cell_made (w : World) (c : Value) (e : TypeId) : (w.alloc (.cells #[c] e)).cell? ⟨w.heap.size, 0, none⟩ = some c := by
  rw [cell_of_row _ _ _ _ _ _ (World.alloc_heap_new w _)]; rfl
/-- One byte more, behind bytes of one's own. -/
theorem append_byte {w : World} {ops : Array Oper} {rest : List Oper} {o : Oper} {a : Act} {Q : Exit → Act → World → Prop} (hgd : o.guard = none) (s x : Operand)
    (ho : o.op = .call { callee := .builtin .append, args := #[s, x], argTypes := #[29, 29] }) (base : Nat) (v : Value) (l : List UInt8) (hs : a.eval s = v) (hown : w.ownsRow base 5 1 v l.length (bvs l))
    (B : Nat) (ch : UInt8) (hx : a.eval x = .slice (some ⟨B, 0, none⟩) 1 1) (hc : w.cell? ⟨B, 0, none⟩ = some (.int .u8 ch.toNat)) (hl : l.length ≤ 100000000000000) (hbase : base ≤ w.heap.size)
    (h : ∀ v' w', w'.ownsRow base 5 1 v' (l ++ [ch]).length (bvs (l ++ [ch])) → w.grownBy w' v.ownBlock → wpList Tryz.prog ops Q rest (a.put o.dst v') w') : wpList Tryz.prog ops Q (o :: rest) a w := by
  obtain ⟨i0, hi, hz0, hz1, hz2⟩ := info_parts infoB
  refine wpList_append_own w hgd s x _ ho base _ i0 (.int .u8 0) 1 1 Tryz.underlying29 hi hz0 hz1 hz2 rfl (by decide) v _ _ hs hown ⟨B, 0, none⟩ 1 1 [.int .u8 ch.toNat] hx rfl ?_ (by simp [Value.oneCell']) (by unfold maxLen; omega) (by omega) hbase ?_
  · intro j u hj
    match j, hj with
    | 0, hj => simp at hj; subst hj; simpa [Addr.add] using hc
    | (j + 1), hj => simp at hj
  · intro v' w' h1 h2 _
    rw [← bvs_snoc] at h1
    exact h v' w' (by simpa using h1) h2
end Go.Proofs.YtmfhhpacojodkaaGreatDoor.L

/- What is proved here: the document's Strip, inner, colon, Scheme, slash and Kind of layer 12. -/
namespace Go.Proofs.YtmfhhpacojodkaaGreatDoor.L
open Go.RowKit Go.Shelf Go.Proofs.YtmfhhpacojodkaaGreatDoor.N Go.Proofs.YtmfhhpacojodkaaGreatDoor.U

def strN : Value → Nat
  | .string s => s.size
  | _ => 0
/-- A text, mended. -/
def mendL (bs : List UInt8) : List UInt8 := encs (runesI bs)
theorem mend_le (bs : List UInt8) : (mendL bs).length ≤ 4 * bs.length := by
  have h1 := encs_length (runesI bs)
  have h2 : (runesI bs).length ≤ bs.length := by rw [runesI_length]; exact pcs_length bs
  unfold mendL
  omega
theorem filter_snoc (l : List UInt8) (p : UInt8 → Bool) (k : Nat) (h : k < l.length) : (l.take (k + 1)).filter p = if p (l.getD k 0) then (l.take k).filter p ++ [l.getD k 0] else (l.take k).filter p := by
  have e : l.getD k 0 = l[k] := by simp [h]
  rw [List.take_succ_eq_append_getElem h, List.filter_append, e]
  cases hp : p l[k] <;> simp [hp]
theorem filter_len (l : List UInt8) (p : UInt8 → Bool) (k : Nat) : ((l.take k).filter p).length ≤ l.length := by
  have h1 := List.length_filter_le p (l.take k)
  have h2 : (l.take k).length ≤ l.length := by simp; omega
  omega
theorem gap_no {c : UInt8} (h : gapC c = false) (z : UInt8) (hz : z = 9 ∨ z = 10 ∨ z = 13) : ((c.toNat : Int) != (z.toNat : Int)) = true := by
  unfold gapC at h
  simp at h
  rw [bne_iff_ne]
  intro e
  have e' : c = z := UInt8.toNat_inj.1 (by omega)
  rcases hz with rfl | rfl | rfl <;> simp_all
end Go.Proofs.YtmfhhpacojodkaaGreatDoor.L

/- What is proved here: the document's inner, colon, Scheme, slash, Kind and Check of layer 12. -/
namespace Go.Proofs.YtmfhhpacojodkaaGreatDoor.L
open Go.RowKit Go.Shelf Go.Proofs.YtmfhhpacojodkaaGreatDoor.N Go.Proofs.YtmfhhpacojodkaaGreatDoor.U

theorem eq_byte (c z : UInt8) : ((c.toNat : Int) == (z.toNat : Int)) = (c == z) := by
  by_cases h : c = z
  · subst h; simp
  · have : c.toNat ≠ z.toNat := fun e => h (UInt8.toNat_inj.1 e)
    rw [beq_eq_false_iff_ne.2 h, beq_eq_false_iff_ne]
    omega
/-- Where the : stands, as the document tells it. -/
def colonZ (l : List UInt8) : Int := match colonL l with | some n => n | none => -1
end Go.Proofs.YtmfhhpacojodkaaGreatDoor.L

/- What is proved here: the document's Scheme, Kind and Check of layer 12. -/
namespace Go.Proofs.YtmfhhpacojodkaaGreatDoor.L
open Go.RowKit Go.Shelf Go.Proofs.YtmfhhpacojodkaaGreatDoor.N Go.Proofs.YtmfhhpacojodkaaGreatDoor.U

theorem strip_le (l : List UInt8) : (stripM l).length ≤ l.length := by
  unfold stripM
  have h1 := List.length_filter_le (fun c => !gapC c) ((l.dropWhile lowC).reverse.dropWhile lowC).reverse
  have h2 := (List.dropWhile_sublist lowC (l := (l.dropWhile lowC).reverse)).length_le
  have h3 := (List.dropWhile_sublist lowC (l := l)).length_le
  simp only [List.length_reverse] at h1 h2
  omega
/-- A link, stripped. -/
def stripL (bs : List UInt8) : List UInt8 := stripM (mendL bs)
theorem stripL_le (bs : List UInt8) : (stripL bs).length ≤ 4 * bs.length := by
  have h1 := strip_le (mendL bs)
  have h2 := mend_le bs
  unfold stripL
  omega
/-- What Scheme tells of a stripped text. -/
def schemeV (l : List UInt8) : Value := match colonL l with | some n => .tuple #[.string ⟨(lower (l.take n)).toArray⟩, .bool true] | none => .tuple #[.string ⟨#[]⟩, .bool false]
end Go.Proofs.YtmfhhpacojodkaaGreatDoor.L
