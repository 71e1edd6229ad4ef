/- What is proved here: laws and contracts of Ref, MathM, Mend, one behind the other (each says its own). -/
import Derived.Test.YtmfhhpacojodkaaGreatDoorPieces
import Derived.Test.YtmfhhpacojodkaaGreatDoorEnc
import Derived.Test.YtmfhhpacojodkaaGreatDoorMathV
import Derived.Deep.RegionWith
import Derived.Test.YtmfhhpacojodkaaGreatDoorBun2
/- What is proved here: contracts of the document's own Runes, Valid and Text of sieveref01. -/
namespace Go.Proofs.YtmfhhpacojodkaaGreatDoor.U
open Go.RowKit Go.Shelf

/-- The runes as numbers. -/
def runesI (bs : List UInt8) : List Int := (pcs bs).map fun p => (p.r : Int)
theorem runesI_length (bs : List UInt8) : (runesI bs).length = (pcs bs).length := by simp [runesI]
theorem runesI_get (bs : List UInt8) (k : Nat) (h : k < (pcs bs).length) : (runesI bs).take (k + 1) = (runesI bs).take k ++ [((pcs bs)[k].r : Int)] := by
  rw [List.take_succ_eq_append_getElem (by simpa [runesI] using h)]; simp [runesI]
theorem cell_one_at (W : World) (a : Value) (t : TypeId) (n : Nat) (hn : n = W.heap.size) : ∀ j u, [a][j]? = some u → (W.alloc (.cells #[a] t)).cell? ((⟨n, 0, none⟩ : Addr).add j) = some u := by
  intro j u h
  subst hn
  rw [add_none, Nat.zero_add]
  have hb := World.alloc_heap_new W (.cells #[a] t)
  simp only [World.cell?, hb]
  simpa using h

set_option maxRecDepth 100000 in
set_option maxHeartbeats 2000000 in
/-- **sieveref01.Runes of any bytes.** -/
theorem rrunes_calls (v : Value) (bs : List UInt8) (n₀ : Nat) (w : World) (hl : bs.length ≤ 4398046511104) (hH : HasB n₀ w v bs) :
    Calls Tryz.prog 26 #[v] w fun e W' => ∃ a cap, e = .returned (.slice a (runesI bs).length cap) ∧ W'.ownsRow w.heap.size 21 1 (.slice a (runesI bs).length cap) (runesI bs).length ((runesI bs).map (Value.int .i32)) ∧ Below w.heap.size w W' := by
  obtain ⟨i0, hi, hz0, hz1, hz2⟩ := info_parts info21
  have HP : Hid (Calls Tryz.prog 17 #[v] w fun e W' => ∃ v, e = .returned v ∧ W'.ownsRow w.heap.size 50 4 v (pcs bs).length ((pcs bs).flatMap pcCells) ∧ Below w.heap.size w W') := pieces_calls v bs n₀ w hl hH
  have hpl := pcs_length bs
  clear hH
  go_enter Tryz.func26, Tryz.ntmps26
  go_wp2_with (go_at_call 17; refine HP.out.mono ?_; rintro e w2 ⟨vl, rfl, hown2, hb2⟩; obtain ⟨al, cl, rfl⟩ := owns_slice hown2)
  have s2 := hb2.size
  go_loopw [3, 9] (fun v i wr => ∃ k : Nat, k ≤ (pcs bs).length ∧ i = .int .i64 k ∧ wr.ownsRow w2.heap.size 21 1 v ((runesI bs).take k).length (((runesI bs).take k).map (Value.int .i32)) ∧ Below w2.heap.size w2 wr) (fun _ i _ => (pcs bs).length - (intOf i).toNat)
  case atStart => exact ⟨0, by omega, rfl, World.ownsRow_nil _ _ _ _, Below.refl _ _⟩
  case round =>
    obtain ⟨k, hk, rfl, hrow, hB⟩ := hrel
    by_cases hlt : k < (pcs bs).length
    · obtain ⟨gl, rfl, hgb, hgl, r0, p0, q0, o0⟩ := owns_piece hown2 k hlt
      have r1 := (hB.cell (p := ⟨gl, k * 4, none⟩) hgl).trans r0
      have p1 := (hB.cell (p := ⟨gl, k * 4 + 1, none⟩) hgl).trans p0
      have q1 := (hB.cell (p := ⟨gl, k * 4 + 2, none⟩) hgl).trans q0
      have o1 := (hB.cell (p := ⟨gl, k * 4 + 3, none⟩) hgl).trans o0
      have s1 := hB.size
      have htk : ((runesI bs).take k).length = k := by rw [List.length_take, runesI_length]; omega
      have HG : Hid ((runesI bs).take (k + 1) = (runesI bs).take k ++ [((pcs bs)[k].r : Int)]) := runesI_get bs k hlt
      clear r0 p0 q0 o0
      rw [htk] at hrow
      go_wp2_with (at_builtin; refine wpList_append_own _ rfl _ _ 64 rfl w2.heap.size 21 i0 (.int .i32 0) 1 4 Tryz.underlying64 hi hz0 hz1 hz2 rfl (by decide) _ _ _ rfl ((hrow.alloc _).alloc _) ⟨wr.heap.size + 1, 0, none⟩ 1 1 [.int .i32 ((pcs bs)[k].r : Int)] rfl rfl (cell_one_at _ _ _ _ (by simp)) (by simp [Value.oneCell']) (by unfold maxLen; omega) (by omega) (by simp; omega) ?_; intro v' w4 hown' hgrow _)
      go_roundw
      case rel => exact ⟨k + 1, by omega, by go_num, by rw [HG.out, List.length_append, htk]; simpa using hown', ((hB.alloc (by omega) _).alloc (by simp; omega) _).grown hgrow (by simp; omega) (fun j hj => (hrow.lt j hj).1)⟩
      case measure => simp [intOf]; omega
    · obtain rfl : k = (pcs bs).length := by omega
      rw [List.take_of_length_le (by rw [runesI_length]; exact Nat.le_refl _)] at hrow
      obtain ⟨ga, gc, hg⟩ := owns_slice hrow
      subst hg
      go_wp2
      go_ret
      refine ⟨ga, gc, rfl, ⟨hrow.1, ?_⟩, hb2.trans (hB.mono s2)⟩
      rcases hrow.2 with h | ⟨g, cap, cur, e1, e2, e3⟩
      · exact .inl h
      · exact .inr ⟨g, cap, cur, e1, by omega, e3⟩

set_option maxRecDepth 100000 in
set_option maxHeartbeats 2000000 in
/-- **sieveref01.Valid of any bytes.** -/
theorem rvalid_calls (v : Value) (bs : List UInt8) (n₀ : Nat) (w : World) (hl : bs.length ≤ 4398046511104) (hH : HasB n₀ w v bs) :
    Calls Tryz.prog 4 #[v] w fun e W' => e = .returned (.bool ((pcs bs).all Pc.ok)) ∧ Below w.heap.size w W' := by
  have HP : Hid (Calls Tryz.prog 17 #[v] w fun e W' => ∃ v, e = .returned v ∧ W'.ownsRow w.heap.size 50 4 v (pcs bs).length ((pcs bs).flatMap pcCells) ∧ Below w.heap.size w W') := pieces_calls v bs n₀ w hl hH
  have hpl := pcs_length bs
  clear hH
  go_enter Tryz.func4, Tryz.ntmps4
  go_wp2_with (go_at_call 17; refine HP.out.mono ?_; rintro e w2 ⟨vl, rfl, hown2, hb2⟩; obtain ⟨al, cl, rfl⟩ := owns_slice hown2)
  have s2 := hb2.size
  go_loopw [8] (fun i wr => ∃ k : Nat, k ≤ (pcs bs).length ∧ i = .int .i64 k ∧ Hid (((pcs bs).take k).all Pc.ok = true) ∧ Below w2.heap.size w2 wr) (fun i _ => (pcs bs).length - (intOf i).toNat)
  case atStart => exact ⟨0, by omega, rfl, rfl, Below.refl _ _⟩
  case round =>
    obtain ⟨k, hk, rfl, hall, hB⟩ := hrel
    by_cases hlt : k < (pcs bs).length
    · obtain ⟨gl, rfl, hgb, hgl, r0, p0, q0, o0⟩ := owns_piece hown2 k hlt
      have r1 := (hB.cell (p := ⟨gl, k * 4, none⟩) hgl).trans r0
      have p1 := (hB.cell (p := ⟨gl, k * 4 + 1, none⟩) hgl).trans p0
      have q1 := (hB.cell (p := ⟨gl, k * 4 + 2, none⟩) hgl).trans q0
      have o1 := (hB.cell (p := ⟨gl, k * 4 + 3, none⟩) hgl).trans o0
      have s1 := hB.size
      have hsn : (pcs bs).take (k + 1) = (pcs bs).take k ++ [(pcs bs)[k]] := List.take_succ_eq_append_getElem hlt
      cases ho : (pcs bs)[k].ok with
      | true =>
        have hall2 : Hid (((pcs bs).take (k + 1)).all Pc.ok = true) := by show _ = true; rw [hsn, List.all_append, hall.out]; simp [ho]
        rw [ho] at o1
        clear r0 p0 q0 o0 hsn ho
        go_wp2
        go_roundw
        case rel => exact ⟨k + 1, by omega, by go_num, hall2, hB.alloc (by omega) _⟩
        case measure => simp [intOf]; omega
      | false =>
        have hF : Hid ((pcs bs).all Pc.ok = false) := by
          show _ = false
          rw [List.all_eq_false]; exact ⟨(pcs bs)[k], List.getElem_mem hlt, by simp [ho]⟩
        rw [ho] at o1
        clear r0 p0 q0 o0 hsn ho
        go_wp2
        go_ret
        exact ⟨ret_bool hF.out.symm, hb2.trans ((hB.alloc (by omega) _).mono s2)⟩
    · obtain rfl : k = (pcs bs).length := by omega
      have hT : Hid ((pcs bs).all Pc.ok = true) := by have := hall.out; rw [List.take_length] at this; exact this
      go_wp2
      go_ret
      exact ⟨ret_bool hT.out.symm, hb2.trans (hB.mono s2)⟩

set_option maxRecDepth 100000 in
/-- **sieveref01.Text of any runes.** -/
theorem text_calls (v : Value) (zs : List Int) (w : World) (hl : zs.length ≤ 1099511627776) (h : HasI .i32 w v zs) :
    Calls Tryz.prog 25 #[v] w fun e W' => e = .returned (.string ⟨(encs zs).toArray⟩) ∧ Below w.heap.size w W' := by
  have HP : Hid (Calls Tryz.prog 55 #[v] w fun e W' => ∃ v, e = .returned v ∧ W'.ownsRow w.heap.size 5 1 v (encs zs).length (bvs (encs zs)) ∧ Below w.heap.size w W') := rbytes_calls v zs w hl h
  clear h
  go_enter Tryz.func25, Tryz.ntmps25
  go_wp2_with (go_at_call 55; refine HP.out.mono ?_; rintro e w2 ⟨vl, rfl, hown2, hb2⟩; have hcv := conv_bytes (hasB_owns hown2).1; obtain ⟨al, cl, rfl⟩ := owns_slice hown2)
  go_ret
  exact ⟨rfl, hb2⟩

end Go.Proofs.YtmfhhpacojodkaaGreatDoor.U

/- What is proved here: plain facts: a right piece's bytes are its rune's; so the text of the runes is the text itself up to the first wrong byte. -/
namespace Go.Proofs.YtmfhhpacojodkaaGreatDoor.U

theorem take_bytes (ds : List UInt8) : ∀ n, n ≤ ds.length → ds.take n = (List.range n).map fun j => UInt8.ofNat (byteAt ds j) := by
  intro n hn
  apply List.ext_getElem
  · simp; omega
  · intro i h1 h2
    simp at h1
    simp [byteAt, show i < ds.length by omega]
set_option maxHeartbeats 1000000 in
theorem enc_rune (ds : List UInt8) (h0 : 0 < ds.length) (h : nextAll ds = true) : enc (runeOf ds : Int) = ds.take (nextN ds) := by
  obtain ⟨hz, hl, hk⟩ := (all_iff ds h0).1 h
  have hn : nextN ds = lead (byteAt ds 0) := by simpa [nextAll] using h
  have l0 := byteAt_lt ds 0
  have k1 : 1 < lead (byteAt ds 0) → lo2 (byteAt ds 0) ≤ byteAt ds 1 ∧ byteAt ds 1 ≤ hi2 (byteAt ds 0) := fun b => by simpa [okAt, loAt, hiAt] using hk 1 (by omega) b
  have k2 : 2 < lead (byteAt ds 0) → 128 ≤ byteAt ds 2 ∧ byteAt ds 2 ≤ 191 := fun b => by simpa [okAt, loAt, hiAt] using hk 2 (by omega) b
  have k3 : 3 < lead (byteAt ds 0) → 128 ≤ byteAt ds 3 ∧ byteAt ds 3 ≤ 191 := fun b => by simpa [okAt, loAt, hiAt] using hk 3 (by omega) b
  rw [hn, take_bytes ds _ hl]
  unfold runeOf
  clear hk hn h
  generalize hb0 : byteAt ds 0 = b0 at *
  generalize hb1 : byteAt ds 1 = b1 at *
  generalize hb2 : byteAt ds 2 = b2 at *
  generalize hb3 : byteAt ds 3 = b3 at *
  rcases lead_cases b0 with ⟨c, e⟩ | ⟨c, c', e⟩ | ⟨c, c', e⟩ | ⟨c, c', e⟩ | ⟨c, c', e⟩ | ⟨c, e⟩
  · rw [e, if_pos rfl, enc_one (by omega) (by omega)]
    show _ = [UInt8.ofNat (byteAt ds 0)]
    rw [hb0, Int.toNat_natCast]
  · exact absurd e hz
  · rw [e] at k1
    have s := second_ok c (by omega) (k1 (by omega)).1 (k1 (by omega)).2
    rw [e, if_neg (by omega), if_pos rfl, enc_two (by omega) (by omega)]
    show _ = [UInt8.ofNat (byteAt ds 0), UInt8.ofNat (byteAt ds 1)]
    rw [hb0, hb1, Int.toNat_natCast]
    rw [show 192 + (b0 % 32 * 64 + b1 % 64) / 64 = b0 by omega, show 128 + (b0 % 32 * 64 + b1 % 64) % 64 = b1 by omega]
  · rw [e] at k1 k2
    have s := second_ok (by omega) (by omega) (k1 (by omega)).1 (k1 (by omega)).2
    have t := k2 (by omega)
    rw [e, if_neg (by omega), if_neg (by omega), if_pos rfl, enc_three (by simp [Utf8.valid]; omega) (by omega) (by omega)]
    show _ = [UInt8.ofNat (byteAt ds 0), UInt8.ofNat (byteAt ds 1), UInt8.ofNat (byteAt ds 2)]
    rw [hb0, hb1, hb2, Int.toNat_natCast]
    rw [show 224 + (b0 % 16 * 4096 + b1 % 64 * 64 + b2 % 64) / 4096 = b0 by omega, show 128 + (b0 % 16 * 4096 + b1 % 64 * 64 + b2 % 64) / 64 % 64 = b1 by omega, show 128 + (b0 % 16 * 4096 + b1 % 64 * 64 + b2 % 64) % 64 = b2 by omega]
  · rw [e] at k1 k2 k3
    have s := second_ok (by omega) (by omega) (k1 (by omega)).1 (k1 (by omega)).2
    have t := k2 (by omega)
    have u := k3 (by omega)
    rw [e, if_neg (by omega), if_neg (by omega), if_neg (by omega), enc_four (by simp [Utf8.valid]; omega) (by omega)]
    show _ = [UInt8.ofNat (byteAt ds 0), UInt8.ofNat (byteAt ds 1), UInt8.ofNat (byteAt ds 2), UInt8.ofNat (byteAt ds 3)]
    rw [hb0, hb1, hb2, hb3, Int.toNat_natCast]
    rw [show 240 + (b0 % 8 * 262144 + b1 % 64 * 4096 + b2 % 64 * 64 + b3 % 64) / 262144 = b0 by omega, show 128 + (b0 % 8 * 262144 + b1 % 64 * 4096 + b2 % 64 * 64 + b3 % 64) / 4096 % 64 = b1 by omega, show 128 + (b0 % 8 * 262144 + b1 % 64 * 4096 + b2 % 64 * 64 + b3 % 64) / 64 % 64 = b2 by omega, show 128 + (b0 % 8 * 262144 + b1 % 64 * 4096 + b2 % 64 * 64 + b3 % 64) % 64 = b3 by omega]
  · exact absurd e hz

theorem pcsF_r : ∀ f g a b (ds : List UInt8), ds.length ≤ f → ds.length ≤ g → (pcsF f a ds).map Pc.r = (pcsF g b ds).map Pc.r
  | 0, 0, _, _, _, _, _ => rfl
  | 0, g + 1, a, b, ds, h, _ => by have : ds.length = 0 := by omega
                                   simp [pcsF, this]
  | f + 1, 0, a, b, ds, _, h => by have : ds.length = 0 := by omega
                                   simp [pcsF, this]
  | f + 1, g + 1, a, b, ds, hf, hg => by
    unfold pcsF
    split
    · rfl
    · have := nextN_pos ds
      simp only [List.map_cons]
      rw [pcsF_r f g _ (b + nextN ds) _ (by simp; omega) (by simp; omega)]
/-- The runes from a place on. -/
def rI (bs : List UInt8) (k : Nat) : List Int := (pcsF bs.length k (bs.drop k)).map fun p => (p.r : Int)
theorem rI_drop (bs : List UInt8) (k : Nat) : rI bs k = runesI (bs.drop k) := by
  have h := pcsF_r bs.length (bs.drop k).length k 0 (bs.drop k) (by simp) (Nat.le_refl _)
  have : ∀ l : List Pc, (l.map fun p => (p.r : Int)) = (l.map Pc.r).map (fun r : Nat => (r : Int)) := fun l => by simp
  unfold rI runesI pcs
  rw [this, this, h]
theorem mendF (bs : List UInt8) : ∀ f k, k ≤ bs.length → bs.length < k + f → (bs.drop k).take (fwF bs f k - k) ++ encs (rI bs (fwF bs f k)) = encs (rI bs k) ∧ k ≤ fwF bs f k
  | 0, k, h, h' => by omega
  | f + 1, k, h, h' => by
    by_cases hk : k < bs.length
    · have hd0 : 0 < (bs.drop k).length := by simp; omega
      have hp := nextN_pos (bs.drop k)
      have hl := nextN_len (bs.drop k) hd0
      simp only [List.length_drop] at hl
      cases ha : nextAll (bs.drop k) with
      | false => rw [fwF_hit hk ha]; simp
      | true =>
        rw [fwF_on hk ha]
        obtain ⟨ih, hle⟩ := mendF bs f (k + nextN (bs.drop k)) (by omega) (by omega)
        refine ⟨?_, by omega⟩
        have hst : rI bs k = (runeOf (bs.drop k) : Int) :: rI bs (k + nextN (bs.drop k)) := by
          unfold rI; rw [pcs_step bs k hk]; simp [nextR, ha]
        rw [hst]
        have he : encs ((runeOf (bs.drop k) : Int) :: rI bs (k + nextN (bs.drop k))) = enc (runeOf (bs.drop k) : Int) ++ encs (rI bs (k + nextN (bs.drop k))) := rfl
        have ht : (bs.drop k).take (fwF bs f (k + nextN (bs.drop k)) - k) = (bs.drop k).take (nextN (bs.drop k)) ++ (bs.drop (k + nextN (bs.drop k))).take (fwF bs f (k + nextN (bs.drop k)) - (k + nextN (bs.drop k))) := by
          rw [← List.drop_drop, ← List.take_add]
          exact congrArg (fun m => (bs.drop k).take m) (by omega)
        rw [he, ← ih, enc_rune _ hd0 ha, ht, List.append_assoc]
    · rw [fwF_end hk]
      obtain rfl : k = bs.length := by omega
      simp
theorem mend_eq (bs : List UInt8) : bs.take (fw bs) ++ encs (runesI (bs.drop (fw bs))) = encs (runesI bs) := by
  have h := (mendF bs (bs.length + 1) 0 (by omega) (by omega)).1
  rw [rI_drop, rI_drop, List.drop_zero, Nat.sub_zero] at h
  exact h

end Go.Proofs.YtmfhhpacojodkaaGreatDoor.U

/- What is proved here: the contract of utf.Mend: the text of the runes of a text's bytes. -/
namespace Go.Proofs.YtmfhhpacojodkaaGreatDoor.U
open Go.RowKit Go.Shelf

theorem bytes_ext {a : ByteArray} {l : List UInt8} (h : a.data.toList = l) : a = ⟨l.toArray⟩ := by
  cases a with
  | mk d => simp only at h; rw [← h]
theorem extract_eq (bs : List UInt8) (k : Nat) : (⟨bs.toArray⟩ : ByteArray).extract k bs.length = ⟨(bs.drop k).toArray⟩ := bytes_ext (extract_drop bs k)
theorem extract_take (bs : List UInt8) (k : Nat) : (⟨bs.toArray⟩ : ByteArray).extract 0 k = ⟨(bs.take k).toArray⟩ := bytes_ext (by
  rw [ByteArray.data_extract, Array.toList_extract]; simp)
theorem fw_le (bs : List UInt8) : fw bs ≤ bs.length := fwF_le bs _ _
theorem runesI_map (bs : List UInt8) : ((runes bs).map fun r : Nat => Value.int .i32 (r : Int)) = (runesI bs).map (Value.int .i32) := by rw [runes_pcs]; simp [runesI]
theorem runes_len (bs : List UInt8) : (runes bs).length = (runesI bs).length := by rw [runes_pcs]; simp [runesI]

theorem mend_add (bs : List UInt8) (X : ByteArray) (hX : X = ⟨(bs.take (fw bs)).toArray⟩) (hl : (bs.length : Int) ≤ 35184372088832) {w : World} {v : Value} (h : (convert 64 9 v).run Tryz.prog w = .ok (.string ⟨(encs (runesI (bs.drop (fw bs)))).toArray⟩) w) :
    ∃ Y : ByteArray, Y = ⟨(encs (runesI (bs.drop (fw bs)))).toArray⟩ ∧ (convert 64 9 v).run Tryz.prog w = .ok (.string Y) w ∧ X.size + Y.size ≤ 9223372036854775807 := by
  refine ⟨_, rfl, h, ?_⟩
  subst hX
  have h1 := encs_length (runesI (bs.drop (fw bs)))
  have h2 := pcs_length (bs.drop (fw bs))
  rw [runesI_length] at h1
  rw [byteArr_size, byteArr_size, List.length_take]
  simp only [List.length_drop] at h2
  omega

set_option maxRecDepth 100000 in
set_option maxHeartbeats 4000000 in
theorem mend_calls (bs : List UInt8) (w : World) (hl : (bs.length : Int) ≤ 35184372088832) (hT : Lib.Utf8Tabs (Tryz.lays32_ren.g 2) (Tryz.lays32_ren.g 3) w) :
    Calls Tryz.prog 18 #[.string ⟨bs.toArray⟩] w fun e W' => e = .returned (.string ⟨(encs (runesI bs)).toArray⟩) ∧ Below w.heap.size w W' := by
  have HT : Hid (Lib.Utf8Tabs (Tryz.lays32_ren.g 2) (Tryz.lays32_ren.g 3) w) := hT
  have hsz := byteArr_size bs
  have hf := fw_le bs
  have e1 := extract_eq bs (fw bs)
  obtain ⟨X, hX⟩ : ∃ X : ByteArray, X = ⟨(bs.take (fw bs)).toArray⟩ := ⟨_, rfl⟩
  have e2 : (⟨bs.toArray⟩ : ByteArray).extract 0 (fw bs) = X := (extract_take bs (fw bs)).trans hX.symm
  have HX : Hid (X = ⟨(bs.take (fw bs)).toArray⟩) := hX
  clear hX
  have hcv : ∀ w, (convert 9 29 (.string ⟨(bs.drop (fw bs)).toArray⟩)).run Tryz.prog w = .ok (.slice (some ⟨w.heap.size, 0, none⟩) (bs.drop (fw bs)).length (grownCap w (bs.drop (fw bs)).length 0 5)) (Lib.bytesWorld w 5 ⟨(bs.drop (fw bs)).toArray⟩) := fun w => by
    have := Lib.run_convert_string_bytes (P := Tryz.prog) w 9 29 5 ⟨(bs.drop (fw bs)).toArray⟩ Tryz.underlying9 Tryz.underlying29 Tryz.underlying5
    rw [byteArr_size] at this
    exact this
  clear hT
  go_enter Tryz.func18, Tryz.ntmps18
  go_wp2_with (go_at_call 44; refine (firstWrong_calls bs _ (by omega)).mono ?_; rintro e w1 ⟨rfl, hb1⟩)
  have s1 := hb1.size
  have hbw : Below w.heap.size w (Lib.bytesWorld w1.drew 5 ⟨(bs.drop (fw bs)).toArray⟩) := hb1.drew.trans ((bytesWorld_below w1.drew _ _).mono s1)
  have RC : Hid (Calls Tryz.prog 45 #[.slice (some ⟨w1.heap.size, 0, none⟩) (bs.length - fw bs) (grownCap w1.drew (bs.length - fw bs) 0 5)] (Lib.bytesWorld w1.drew 5 ⟨(bs.drop (fw bs)).toArray⟩) fun e W' => ∃ v, e = .returned v ∧ W'.ownsRow (Lib.bytesWorld w1.drew 5 ⟨(bs.drop (fw bs)).toArray⟩).heap.size 21 1 v (runesI (bs.drop (fw bs))).length ((runesI (bs.drop (fw bs))).map (Value.int .i32)) ∧ Below (Lib.bytesWorld w1.drew 5 ⟨(bs.drop (fw bs)).toArray⟩).heap.size (Lib.bytesWorld w1.drew 5 ⟨(bs.drop (fw bs)).toArray⟩) W') := by
    have hrow := bytesWorld_row w1.drew 5 (bs.drop (fw bs))
    rw [List.length_drop] at hrow
    have h := runes_calls (some ⟨w1.heap.size, 0, none⟩) (bs.length - fw bs) (grownCap w1.drew (bs.length - fw bs) 0 5) (bs.drop (fw bs)) (Lib.bytesWorld w1.drew 5 ⟨(bs.drop (fw bs)).toArray⟩) (by simp; omega) (RowB.hasB0 (by simp) hrow (grownCap_ge _ _ _ _) _ (by rw [Lib.bytesWorld_size]; exact Nat.lt_succ_self _)) (tabs_below HT.out hbw)
    rw [runes_len, runesI_map] at h
    exact h
  have HBW : Hid (Below w.heap.size w (Lib.bytesWorld w1.drew 5 ⟨(bs.drop (fw bs)).toArray⟩)) := hbw
  clear hbw
  go_region_with (go_at_call 45; refine RC.out.mono ?_; rintro e w2 ⟨v, rfl, ho, hb2⟩; obtain ⟨ga, gc, rfl⟩ := owns_slice ho; obtain ⟨Y, hY, hcr, hbd⟩ := mend_add bs X HX.out hl (conv_runes (hasI_owns ho)); have HY : Hid (Y = ⟨(encs (runesI (bs.drop (fw bs)))).toArray⟩) := hY; clear hY)
  go_wp2
  go_ret
  refine ⟨?_, HBW.out.trans (hb2.mono HBW.out.size)⟩
  show Ending.returned (Value.string (X ++ Y)) = _
  rw [HX.out, HY.out]
  congr 2
  apply ByteArray.ext
  rw [ByteArray.data_append]
  apply Array.toList_inj.1
  have := mend_eq bs
  simpa using this

end Go.Proofs.YtmfhhpacojodkaaGreatDoor.U
