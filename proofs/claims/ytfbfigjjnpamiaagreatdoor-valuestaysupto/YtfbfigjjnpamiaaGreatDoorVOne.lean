/- What is proved here: the contracts of value.small, value.isPlain and of the rule for ValueOneOf. -/
import Derived.Test.YtfbfigjjnpamiaaGreatDoorVKinds1
import Derived.Lib.MapLaws
namespace Go.Proofs.YtfbfigjjnpamiaaGreatDoor.V
open Go.RowKit Go.Shelf Go.Proofs.YtfbfigjjnpamiaaGreatDoor.N Go.Proofs.YtfbfigjjnpamiaaGreatDoor.U Go.Proofs.YtfbfigjjnpamiaaGreatDoor.L

def smallZ (z : Int) : Int := if 65 ≤ z ∧ z ≤ 90 then z + 32 else z
/-- A text with its capitals as small letters, as Go maps it. -/
def smallB (s : List UInt8) : List UInt8 := Lib.mapD smallZ s
theorem small_valid {z : Int} (h : Utf8.valid z = true) : Utf8.valid (smallZ z) = true := by
  have := (valid_iff z).1 h
  rw [valid_iff]
  unfold smallZ
  split <;> omega
theorem mapD_enc : ∀ (zs : List Int), AllV zs → smallB (encs zs) = encs (zs.map smallZ)
  | [], _ => rfl
  | z :: t, hV => by
    have hz := hV z (by simp)
    have hT : AllV t := fun u hu => hV u (by simp [hu])
    have hb := (valid_iff z).1 hz
    have hd : Lib.decodeL (encs (z :: t)) = (z.toNat, (enc z).length) := by
      rw [encs_cons]
      exact decode_enc0 z hz _
    have hne : encs (z :: t) ≠ [] := by
      rw [encs_cons]
      intro e
      have h1 := congrArg List.length e
      rw [List.length_append, List.length_nil] at h1
      have := enc_pos z
      omega
    have hs := small_valid hz
    have hsb := (valid_iff _).1 hs
    unfold smallB
    rw [Lib.mapD_step _ _ hne, hd]
    simp only
    rw [show (z.toNat : Int) = z by omega, if_pos hsb.1, ← enc_shelf _ hsb]
    have hdr : (encs (z :: t)).drop (enc z).length = encs t := by rw [encs_cons, List.drop_left]
    rw [hdr]
    have ih := mapD_enc t hT
    unfold smallB at ih
    rw [ih, List.map_cons, encs_cons]
theorem small_plain {z : Int} (hp : plainZ z = z) : plainZ (smallZ z) = smallZ z := by
  unfold smallZ
  split
  · rename_i h
    have : ∀ n : Fin 26, plainZ ((n.val : Int) + 97) = (n.val : Int) + 97 := by decide +kernel
    have h2 := this ⟨(z - 65).toNat, by omega⟩
    rw [show (((z - 65).toNat : Nat) : Int) + 97 = z + 32 by omega] at h2
    exact h2
  · exact hp
theorem small_twice (z : Int) : smallZ (smallZ z) = smallZ z := by
  unfold smallZ
  by_cases h : 65 ≤ z ∧ z ≤ 90
  · rw [if_pos h, if_neg (by omega)]
  · rw [if_neg h, if_neg h]
theorem small_pl {s : List UInt8} (h : Pl s) : Pl (smallB s) ∧ smallB (smallB s) = smallB s := by
  obtain ⟨zs, hV, hp, rfl⟩ := h
  have hV2 : AllV (zs.map smallZ) := fun u hu => by obtain ⟨z, hz, rfl⟩ := List.mem_map.1 hu; exact small_valid (hV z hz)
  rw [mapD_enc zs hV]
  refine ⟨⟨_, hV2, fun u hu => by obtain ⟨z, hz, rfl⟩ := List.mem_map.1 hu; exact small_plain (hp z hz), rfl⟩, ?_⟩
  rw [mapD_enc _ hV2, List.map_map]
  congr 1
  exact List.map_congr_left (fun z _ => small_twice z)
theorem small_len {s : List UInt8} (h : Pl s) : (smallB s).length ≤ 4 * s.length := by
  obtain ⟨zs, hV, hp, rfl⟩ := h
  rw [mapD_enc zs hV]
  have h1 := encs_length (zs.map smallZ)
  have h2 : zs.length ≤ (encs zs).length := by
    clear hp hV h1
    induction zs with
    | nil => simp
    | cons z t ih => rw [encs_cons, List.length_append, List.length_cons]; have := enc_pos z; omega
  simp at h1
  omega
set_option maxRecDepth 100000 in
theorem small1_calls (x : Nat) (hx : x ≤ 1114111) (w : World) : Calls Tryz.prog 94 #[.int .i32 (x : Int)] w fun e w' => e = .returned (.int .i32 (smallZ (x : Int))) ∧ w' = w := by
  by_cases h : 65 ≤ x ∧ x ≤ 90
  · have hs : smallZ (x : Int) = (x : Int) + 32 := by unfold smallZ; rw [if_pos (by omega)]
    have c1 : decide ((x : Int) ≥ 65) = true := by rw [decide_eq_true_eq]; omega
    have c2 : decide ((x : Int) ≤ 90) = true := by rw [decide_eq_true_eq]; omega
    rw [hs]
    clear hs
    go_enter Tryz.func94, Tryz.ntmps94
    go_wp2
    go_ret
    exact ⟨rfl, rfl⟩
  · have hs : smallZ (x : Int) = (x : Int) := by unfold smallZ; rw [if_neg (by omega)]
    have c1 : decide ((x : Int) ≥ 65) = false ∨ (decide ((x : Int) ≥ 65) = true ∧ decide ((x : Int) ≤ 90) = false) := by
      simp only [decide_eq_false_iff_not, decide_eq_true_eq]; omega
    rw [hs]
    clear hs h
    rcases c1 with c1 | ⟨c1, c2⟩
    all_goals go_enter Tryz.func94, Tryz.ntmps94
    all_goals go_wp2
    all_goals go_ret
    all_goals exact ⟨rfl, rfl⟩
theorem builderX230 : Builder.Extra Tryz.prog Tryz.lays230_ren := {
  sizeBuilder := by kernel_rfl
  liesBuilder := by kernel_rfl
  t5 := Tryz.underlying5
  a5 := Tryz.isAgg5
  z5 := Tryz.sizeOf5
  v5 := Tryz.zeroValue5
  infoByte := by kernel_rfl
  cellsByte := by kernel_rfl
  sizeByte := by kernel_rfl
  neB5 := by decide }
theorem tb230 {w : World} (h : Tb w) : Lib.Utf8Tabs (Tryz.lays230_ren.g 3) (Tryz.lays230_ren.g 4) w := h
theorem map_calls (s : List UInt8) (w : World) (hT : Tb w) (hs : s.length ≤ 10000000000) : Calls Tryz.prog 93 #[.func (.func 94) #[] #[], .string ⟨s.toArray⟩] w fun e w' => e = .returned (.string ⟨(smallB s).toArray⟩) ∧ Below w.heap.size w w' :=
  Any.strings_Map_grows Tryz.lays230 builderX230 94 #[] (enters_of Tryz.func94 (by kernel_rfl) rfl) smallZ ⟨s.toArray⟩ w (by rw [L.arr_size]; omega)
    (fun W x hx _ => (small1_calls x hx W).mono fun e w' ⟨h1, h2⟩ => ⟨h1, h2 ▸ Below.refl _ _⟩)
    (fun x hx => by unfold smallZ; split <;> omega) (tb230 hT)
set_option maxRecDepth 100000 in
set_option maxHeartbeats 1000000 in
theorem small_calls (s : List UInt8) (w : World) (hT : Tb w) (hs : s.length ≤ 10000000000) : Calls Tryz.prog 71 #[.string ⟨s.toArray⟩] w fun e w' => e = .returned (.string ⟨(smallB s).toArray⟩) ∧ Below w.heap.size w w' := by
  have HM := hid_of (map_calls s w hT hs)
  clear hT
  go_enter Tryz.func71, Tryz.ntmps71
  go_wp2_with (go_at_call 93; refine HM.out.mono ?_; rintro e w' ⟨rfl, hb'⟩)
  go_ret
  exact ⟨rfl, hb'⟩
/-- What Go reads at any place of any bytes. -/
theorem dec_any (bs : List UInt8) (k : Nat) (hk : k < bs.length) : ∃ r n : Nat, Utf8.decode ⟨bs.toArray⟩ k = (r, n) ∧ r ≤ 1114111 ∧ 1 ≤ n ∧ k + n ≤ bs.length := by
  have hd := decode_drop bs k
  have h0 : 0 < (bs.drop k).length := by simp; omega
  have hl : (bs.drop k).length = bs.length - k := by simp
  generalize bs.drop k = B at *
  cases ha : nextAll B with
  | true =>
    have h1 := nextN_pos B
    have h2 := nextN_len B h0
    have h3 := ((valid_iff _).1 (rune_valid B h0 ha)).2.1
    exact ⟨_, _, hd.trans (decode_right B h0 ha), by omega, h1, by omega⟩
  | false => exact ⟨65533, 1, hd.trans (decode_wrong B h0 ha), by omega, by omega, by omega⟩
def plainF (l : List UInt8) : Nat → Nat → Bool
  | 0, _ => true
  | f + 1, k => if k < l.length then (if plainZ (Utf8.decode ⟨l.toArray⟩ k).1 = (Utf8.decode ⟨l.toArray⟩ k).1 then plainF l f (k + (Utf8.decode ⟨l.toArray⟩ k).2) else false) else true
def plainB (l : List UInt8) : Bool := plainF l l.length 0
set_option maxRecDepth 100000 in
set_option maxHeartbeats 2000000 in
theorem isPlain_calls (l : List UInt8) (w : World) (hl : l.length ≤ 100000000000) : Calls Tryz.prog 72 #[.string ⟨l.toArray⟩] w fun e W' => e = .returned (.bool (plainB l)) ∧ Below w.heap.size w W' := by
  have hsz := byteArr_size l
  obtain ⟨R, hR⟩ : ∃ R, plainB l = R := ⟨_, rfl⟩
  have HR : Hid (plainF l l.length 0 = R) := hR
  rw [hR]
  clear hR
  go_enter Tryz.func72, Tryz.ntmps72
  go_wp2
  go_loopw [4] (fun _ wr => ∃ k f : Nat, k ≤ l.length ∧ l.length ≤ k + f ∧ Hid (plainF l f k = R) ∧ wr.heap[w.heap.size]? = some (.stringIter ⟨l.toArray⟩ k) ∧ Below w.heap.size w wr ∧ w.heap.size < wr.heap.size) (fun _ wr => l.length - wr.iterPos w.heap.size)
  case atStart => exact ⟨0, l.length, by omega, by omega, HR, World.iter_heap _ _ _, (Below.refl _ w).alloc (Nat.le_refl _) _, by simp [World.iter]⟩
  case round =>
    obtain ⟨k, f, hk, hf, hF, hit, hB, hz⟩ := hrel
    by_cases hlt : k < l.length
    · obtain ⟨r, n, hdec, hr, hn1, hn2⟩ := dec_any l k hlt
      obtain ⟨g, rfl⟩ : ∃ g, f = g + 1 := ⟨f - 1, by omega⟩
      have hnx : ∀ ty, (Instr.next (.pointer (some ⟨w.heap.size, 0, none⟩)) true ty).run Tryz.prog wr = _ := fun ty => Lib.run_next_any_at wr w.heap.size ⟨l.toArray⟩ k ty hit (by rw [hsz]; exact hlt)
      have hF2 := hF.out
      unfold plainF at hF2
      rw [if_pos hlt, hdec] at hF2
      rw [hdec] at hnx
      simp only at hnx hF2
      have hitX := Lib.iterAt_heap wr w.heap.size ⟨l.toArray⟩ k (k + n) hit
      have hgX := iterAt_grownV wr w.heap.size ⟨l.toArray⟩ (k + n)
      have HIT : Hid (wr.heap[w.heap.size]? = some (.stringIter ⟨l.toArray⟩ k)) := hit
      obtain ⟨X, hX⟩ : ∃ X, wr.iterAt w.heap.size ⟨l.toArray⟩ (k + n) = X := ⟨_, rfl⟩
      rw [hX] at hnx hitX hgX
      have hBX : Below w.heap.size w X := hB.grown hgX hB.size (fun j hj => by cases hj; exact Nat.le_refl _)
      have hzX := hgX.size
      have HITX : Hid (X.heap[w.heap.size]? = some (.stringIter ⟨l.toArray⟩ (k + n))) := hitX
      have HP := hid_of (plain_calls (r : Int) (by omega) (by omega) X)
      by_cases hpl : plainZ (r : Int) = (r : Int)
      · rw [if_pos hpl] at hF2
        have HF2 := hid_of hF2
        rw [hpl] at HP
        clear hX hit hitX hgX hdec hF hF2 hpl
        go_wp2_with (go_at_call 40; refine HP.out.mono ?_; rintro e w' ⟨rfl, hw'⟩; obtain rfl : X = w' := hw'.symm)
        go_roundw
        case rel => exact ⟨k + n, g, by omega, by omega, HF2, HITX.out, hBX, by omega⟩
        case measure => rw [iterPos_ofV HITX.out, iterPos_ofV HIT.out]; omega
      · rw [if_neg hpl] at hF2
        have HF2 := hid_of hF2
        have hne : (plainZ (r : Int) != (r : Int)) = true := by rw [bne_iff_ne]; exact hpl
        generalize plainZ (r : Int) = q at *
        clear hX hit hitX hgX hdec hF hF2 hpl
        go_wp2_with (go_at_call 40; refine HP.out.mono ?_; rintro e w' ⟨rfl, hw'⟩; obtain rfl : X = w' := hw'.symm)
        go_ret
        exact ⟨by rw [← HF2.out]; rfl, hBX⟩
    · obtain rfl : k = l.length := by omega
      have hnx : ∀ ty, (Instr.next (.pointer (some ⟨w.heap.size, 0, none⟩)) true ty).run Tryz.prog wr = _ := fun ty => Lib.run_next_end_at wr w.heap.size ⟨l.toArray⟩ l.length ty hit (by rw [hsz]; exact hlt)
      have HN : Hid (R = true) := by
        show R = true
        rw [← hF.out]
        cases f with
        | zero => rfl
        | succ f => unfold plainF; rw [if_neg (by omega)]
      clear hF
      go_wp2
      go_ret
      exact ⟨by rw [HN.out]; rfl, hB⟩
/-- Whether a word is a value's, but for capitals. -/
def oneOk (t x : List UInt8) : Bool := plainB x && (smallB (clB x) == t)
def oneB (ws : List (List UInt8)) (s : List UInt8) : Option (List UInt8) := if ws.any (oneOk (smallB s)) then some (smallB s) else none
set_option maxRecDepth 100000 in
set_option maxHeartbeats 4000000 in
/-- **The rule for ValueOneOf.** -/
theorem rone_calls (s : List UInt8) (wa sa : Option Addr) (wc sn sc : Nat) (ws : List (List UInt8)) (rel : Bool) (w : World) (hT : Tb w) (hW : TextsAt w wa ws) (hl : s.length ≤ 1000000000) (hn : ws.length ≤ 100000000) (hx : ∀ x ∈ ws, x.length ≤ 1000000000) :
    Calls Tryz.prog 52 #[askV s wa sa ws.length wc sn sc rel] w fun e W' => e = .returned (saysV (oneB ws s)) ∧ Below w.heap.size w W' := by
  obtain ⟨W, hW0, hb, hz, x0, x1, x2, x3⟩ := ask_new w s wa sa ws.length wc sn sc rel
  have HW := hid_of hW0
  have HB := hid_of hb
  have HSM := hid_of (small_calls s W (hT.below hb) (by omega))
  have HR : Hid (oneB ws s = if ws.any (oneOk (smallB s)) then some (smallB s) else none) := rfl
  obtain ⟨R, hR⟩ : ∃ R, oneB ws s = R := ⟨_, rfl⟩
  rw [hR] at HR ⊢
  obtain ⟨t, ht⟩ : ∃ t, smallB s = t := ⟨_, rfl⟩
  rw [ht] at HSM HR
  have HTX := hid_of hW
  have HT := hid_of hT
  have HX := hid_of hx
  clear hW0 hT hW hR ht hb hx
  unfold askV
  go_enter Tryz.func52, Tryz.ntmps52
  go_upto_region 1 with fail
  rw [HW.out]
  go_wp2_with fail
  (go_at_call 71; refine HSM.out.mono ?_; rintro e w2 ⟨rfl, hb2⟩)
  have HB2 := hid_of (HB.out.trans (hb2.mono HB.out.size))
  have y1 := cell_keeps x1 hb2
  clear hb2 x0 x1 x2 x3 HSM
  go_wp2_with fail
  go_loopw [6, 13] (fun _ vi wr => ∃ k : Nat, k ≤ ws.length ∧ vi = .int .i64 k ∧ Hid (Below w.heap.size w wr) ∧ Hid ((ws.take k).any (oneOk t) = false)) (fun _ vi _ => ws.length - (intOf vi).toNat)
  case atStart => exact ⟨0, by omega, rfl, HB2, by show _ = _; simp⟩
  case round =>
    obtain ⟨k, hk, rfl, hB, hP⟩ := hrel
    clear y1
    by_cases hlt : k < ws.length
    · obtain ⟨b, off, rfl, hcell⟩ := HTX.out.below hB.out k hlt
      have hlt' : decide ((k : Int) < (ws.length : Int)) = true := by rw [decide_eq_true_eq]; omega
      have hxl : (ws.getD k []).length ≤ 1000000000 := by
        have e : ws.getD k [] = ws[k] := by simp [hlt]
        rw [e]; exact HX.out _ (List.getElem_mem hlt)
      have HTK : Hid ((ws.take (k + 1)).any (oneOk t) = oneOk t (ws.getD k [])) := by
        show _ = _
        rw [List.take_succ_eq_append_getElem hlt, List.any_append, hP.out]
        simp [hlt]
      have HAN : Hid (oneOk t (ws.getD k []) = true → ws.any (oneOk t) = true) := fun h => by
        rw [List.any_eq_true]
        have e : ws.getD k [] = ws[k] := by simp [hlt]
        rw [e] at h
        exact ⟨ws[k], List.getElem_mem hlt, h⟩
      obtain ⟨x, hx⟩ : ∃ x, ws.getD k [] = x := ⟨_, rfl⟩
      rw [hx] at hcell hxl HTK HAN
      have hcx := clB_len x
      have HPL := hid_of (isPlain_calls x wr (by omega))
      have HCL : Hid (∀ W, Below w.heap.size w W → Calls Tryz.prog 24 #[.string ⟨x.toArray⟩] W fun e W' => e = .returned (.string ⟨(clB x).toArray⟩) ∧ Below W.heap.size W W') := fun W h => clean_calls x W (HT.out.below h) (by omega)
      have HS2 : Hid (∀ W, Below w.heap.size w W → Calls Tryz.prog 71 #[.string ⟨(clB x).toArray⟩] W fun e W' => e = .returned (.string ⟨(smallB (clB x)).toArray⟩) ∧ Below W.heap.size W W') := fun W h => small_calls (clB x) W (HT.out.below h) (by omega)
      have HOK : Hid (oneOk t x = (plainB x && (smallB (clB x) == t))) := rfl
      generalize clB x = cx at *
      obtain ⟨u, hu⟩ : ∃ u, smallB cx = u := ⟨_, rfl⟩
      rw [hu] at HS2 HOK
      generalize plainB x = pb at *
      clear hx hP hu
      cases pb with
      | false =>
        have HO2 : Hid (oneOk t x = false) := HOK.out
        rw [HO2.out] at HTK
        go_wp2_with (go_at_call 72; refine HPL.out.mono ?_; rintro e w3 ⟨rfl, hb3⟩)
        exact ⟨⟨k + 1, by omega, by go_num, hB.out.trans (hb3.mono hB.out.size), HTK⟩, by simp [intOf]; omega⟩
      | true =>
        obtain ⟨q, hq⟩ : ∃ q, (u == t) = q := ⟨_, rfl⟩
        rw [hq] at HOK
        cases q with
        | false =>
          have HO2 : Hid (oneOk t x = false) := HOK.out
          rw [HO2.out] at HTK
          go_wp2_with fail
          (go_at_call 72; refine HPL.out.mono ?_; rintro e w3 ⟨rfl, hb3⟩)
          have HB3 := hid_of (hB.out.trans (hb3.mono hB.out.size))
          clear hb3
          go_wp2_with fail
          (go_at_call 24; refine (HCL.out _ HB3.out).mono ?_; rintro e w4 ⟨rfl, hb4⟩)
          have HB4 := hid_of (HB3.out.trans (hb4.mono HB3.out.size))
          clear hb4
          go_wp2_with fail
          (go_at_call 71; refine (HS2.out _ HB4.out).mono ?_; rintro e w5 ⟨rfl, hb5⟩)
          have HB5 := hid_of (HB4.out.trans (hb5.mono HB4.out.size))
          clear hb5
          go_wp2_with fail
          exact ⟨⟨k + 1, by omega, by go_num, HB5, HTK⟩, by simp [intOf]; omega⟩
        | true =>
          have HO2 := hid_of (HAN.out HOK.out)
          rw [HO2.out, if_pos rfl] at HR
          go_wp2_with fail
          (go_at_call 72; refine HPL.out.mono ?_; rintro e w3 ⟨rfl, hb3⟩)
          have HB3 := hid_of (hB.out.trans (hb3.mono hB.out.size))
          clear hb3
          go_wp2_with fail
          (go_at_call 24; refine (HCL.out _ HB3.out).mono ?_; rintro e w4 ⟨rfl, hb4⟩)
          have HB4 := hid_of (HB3.out.trans (hb4.mono HB3.out.size))
          clear hb4
          go_wp2_with fail
          (go_at_call 71; refine (HS2.out _ HB4.out).mono ?_; rintro e w5 ⟨rfl, hb5⟩)
          have HB5 := hid_of (HB4.out.trans (hb5.mono HB4.out.size))
          clear hb5
          go_wp2_with fail
          go_ret2
          exact ⟨by rw [HR.out]; rfl, HB5.out⟩
    · obtain rfl : k = ws.length := by omega
      have hlt' : decide ((ws.length : Int) < (ws.length : Int)) = false := by rw [decide_eq_false_iff_not]; omega
      have hPn := hP.out
      rw [List.take_length] at hPn
      rw [hPn, if_neg (by decide)] at HR
      clear hP hPn
      go_wp2_with fail
      go_ret2
      exact ⟨by rw [HR.out]; rfl, hB.out⟩
end Go.Proofs.YtfbfigjjnpamiaaGreatDoor.V
