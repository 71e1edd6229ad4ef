/- What is proved here: the document's Place of layer 8, as layer 10 asks for it: where the rune of a number begins; and that it is where a piece ends that a sign of ASCII ends. -/
import Derived.Test.YtegkdgmpkfpjmaaDoorBun13
import Derived.Test.YtegkdgmpkfpjmaaDoorREndM
import Derived.Test.YtegkdgmpkfpjmaaDoorBun4
namespace Go.Proofs.YtegkdgmpkfpjmaaDoor.R
open Go.RowKit Go.Shelf Go.Proofs.YtegkdgmpkfpjmaaDoor.U Go.Proofs.YtegkdgmpkfpjmaaDoor.N

/-- Where the piece of a number begins. -/
def plN : Nat → List UInt8 → Nat
  | 0, _ => 0
  | j + 1, bs => if bs.length = 0 then 0 else nextN bs + plN j (bs.drop (nextN bs))
theorem pcs_pos (bs : List UInt8) : ∀ (j k : Nat), k ≤ bs.length → (hj : j < (pcsF bs.length k (bs.drop k)).length) → ((pcsF bs.length k (bs.drop k))[j]).pos = k + plN j (bs.drop k)
  | 0, k, hk, hj => by
    by_cases h : k < bs.length
    · have := pcs_step bs k h
      simp only [this, List.getElem_cons_zero, plN, Nat.add_zero]
    · obtain rfl : k = bs.length := by omega
      have : (pcsF bs.length bs.length (bs.drop bs.length)).length = 0 := by rw [List.drop_length]; cases bs.length <;> rfl
      omega
  | j + 1, k, hk, hj => by
    by_cases h : k < bs.length
    · have hs := pcs_step bs k h
      have hp := nextN_pos (bs.drop k)
      have hl := nextN_len (bs.drop k) (by simp; omega)
      simp only [List.length_drop] at hl
      rw [hs] at hj
      simp only [List.length_cons] at hj
      have ih := pcs_pos bs j (k + nextN (bs.drop k)) (by omega) (by omega)
      simp only [hs, List.getElem_cons_succ]
      rw [ih, plN, if_neg (by simp; omega), List.drop_drop]
      omega
    · obtain rfl : k = bs.length := by omega
      have : (pcsF bs.length bs.length (bs.drop bs.length)).length = 0 := by rw [List.drop_length]; cases bs.length <;> rfl
      omega
theorem pcs_pos0 (bs : List UInt8) (j : Nat) (hj : j < (pcs bs).length) : ((pcs bs)[j]).pos = plN j bs := by
  have h := pcs_pos bs j 0 (by omega) (by simpa [pcs] using hj)
  simpa [pcs] using h
theorem plN_ascii (c : UInt8) (hc : c.toNat < 128) (Y : List UInt8) : ∀ n (X : List UInt8), X.length ≤ n → plN (runesI X).length (X ++ c :: Y) = X.length
  | 0, X, h => by
    obtain rfl : X = [] := List.length_eq_zero_iff.1 (by omega)
    rfl
  | n + 1, X, h => by
    by_cases h0 : X.length = 0
    · obtain rfl : X = [] := List.length_eq_zero_iff.1 h0
      rfl
    · have hp := nextN_pos X
      have hlen := nextN_len X (by omega)
      have hcc : nextOpen X = false ∨ (c :: Y) = [] ∨ lead (byteAt (c :: Y) 0) ≠ 0 := .inr (.inr (by rw [show byteAt (c :: Y) 0 = c.toNat from rfl, lead_is1 hc]; decide))
      rw [runesI_cons X (by omega), List.length_cons, plN, if_neg (by simp), nextN_agree X (c :: Y) (by omega) hcc, List.drop_append_of_le_length hlen, plN_ascii c hc Y n (X.drop (nextN X)) (by simp; omega)]
      simp; omega
theorem plN_succ : ∀ (j : Nat) (bs : List UInt8), plN j bs < bs.length → plN (j + 1) bs = plN j bs + nextN (bs.drop (plN j bs))
  | 0, bs, h => by
    simp only [plN] at h ⊢
    rw [if_neg (by omega)]; simp
  | j + 1, bs, h => by
    rw [plN] at h ⊢
    by_cases h0 : bs.length = 0
    · rw [if_pos h0] at h; omega
    · rw [if_neg h0] at h ⊢
      rw [plN_succ j (bs.drop (nextN bs)) (by simp; omega)]
      conv => rhs; rw [plN, if_neg h0]
      rw [List.drop_drop]
      omega
/-- What Place tells. -/
def placeV (bs : List UInt8) (n : Nat) : Nat := if n < (pcs bs).length then plN n bs else bs.length
theorem place_right (bs X : List UInt8) (c : UInt8) (m : Nat) (hc : c.toNat < 128) (hX : bs.take m = X ++ [c]) (hm : m ≤ bs.length) : placeV bs (runesI (bs.take m)).length = m := by
  have hml : m = X.length + 1 := by
    have := congrArg List.length hX
    simp at this; omega
  have hb : bs = X ++ c :: bs.drop m := by
    have := List.take_append_drop m bs
    rw [hX, List.append_assoc] at this
    exact this.symm
  have hr : (runesI (bs.take m)).length = (runesI X).length + 1 := by rw [hX, runesI_append X [c] (.inr (by simpa [byteAt] using hc)), runesI_ascii c [] hc]; simp [runesI_nil]
  rw [hr]
  unfold placeV
  have hp : plN (runesI X).length bs = X.length := by
    have := plN_ascii c hc (bs.drop m) X.length X (Nat.le_refl _)
    rwa [← hb] at this
  split
  · rw [plN_succ _ _ (by rw [hp]; omega), hp]
    have hd : bs.drop X.length = c :: bs.drop m := by
      conv => lhs; rw [hb]
      simp
    have h1 := nextN_pos (bs.drop X.length)
    have h2 := nextN_le_lead (bs.drop X.length) (by rw [hd, show byteAt (c :: bs.drop m) 0 = c.toNat from rfl, lead_is1 hc]; omega)
    rw [hd, show byteAt (c :: bs.drop m) 0 = c.toNat from rfl, lead_is1 hc, ← hd] at h2
    omega
  · rename_i hn
    have hl : (runesI bs).length = (pcs bs).length := runesI_length bs
    have hr2 : (runesI bs).length = (runesI X).length + 1 + (runesI (bs.drop m)).length := by
      conv => lhs; rw [hb]
      rw [runesI_append X (c :: bs.drop m) (.inr (by simpa [byteAt] using hc)), runesI_ascii c _ hc]
      simp; omega
    have h0 : (runesI (bs.drop m)).length = 0 := by omega
    rw [runesI_length] at h0
    have h4 := pcs_four (bs.drop m)
    simp at h4
    omega
theorem place_all (bs : List UInt8) : placeV bs (runesI bs).length = bs.length := by unfold placeV; rw [if_neg (by rw [runesI_length]; omega)]
/-- The last rune of bytes, where it is of ASCII, is their last byte. -/
theorem last_ascii (r : Int) (h0 : 0 ≤ r) (h1 : r < 128) : ∀ n (Z : List UInt8) (l : List Int), Z.length ≤ n → runesI Z = l ++ [r] → ∃ X c, Z = X ++ [c] ∧ c.toNat < 128
  | 0, Z, l, hn, h => by
    obtain rfl : Z = [] := List.length_eq_zero_iff.1 (by omega)
    rw [runesI_nil] at h
    exact absurd (congrArg List.length h) (by simp)
  | n + 1, Z, l, hn, h => by
    by_cases hz : 0 < Z.length
    · have hp := nextN_pos Z
      have hln := nextN_len Z hz
      rw [runesI_cons Z hz] at h
      by_cases hd : (Z.drop (nextN Z)).length = 0
      · have hd' : Z.drop (nextN Z) = [] := List.length_eq_zero_iff.1 hd
        rw [hd', runesI_nil] at h
        have hl : l = [] := by
          have := congrArg List.length h
          simp at this
          exact this
        subst hl
        have hr : (nextR Z : Int) = r := by simpa using h
        rcases Nat.lt_or_ge (byteAt Z 0) 128 with hb | hb
        · have h2 := nextN_le_lead Z (by rw [lead_is1 hb]; omega)
          rw [lead_is1 hb] at h2
          have hlen : Z.length = 1 := by simp at hd; omega
          obtain ⟨c, rfl⟩ := List.length_eq_one_iff.1 hlen
          exact ⟨[], c, rfl, by simpa [byteAt] using hb⟩
        · have := (next_high Z hz hb).1
          omega
      · obtain ⟨q, l', rfl⟩ : ∃ q l', l = q :: l' := by
          cases l with
          | nil =>
            exfalso
            have := congrArg List.length h
            simp at this
            have h5 : (runesI (Z.drop (nextN Z))).length = 0 := by rw [this]; rfl
            rw [runesI_length] at h5
            have h4 := pcs_four (Z.drop (nextN Z))
            omega
          | cons q l' => exact ⟨q, l', rfl⟩
        rw [List.cons_append] at h
        injection h with _ h
        obtain ⟨X, c, e, hc⟩ := last_ascii r h0 h1 n (Z.drop (nextN Z)) l' (by simp; omega) h
        exact ⟨Z.take (nextN Z) ++ X, c, by rw [List.append_assoc, ← e, List.take_append_drop], hc⟩
    · obtain rfl : Z = [] := List.length_eq_zero_iff.1 (by omega)
      rw [runesI_nil] at h
      exact absurd (congrArg List.length h) (by simp)
/-- **Where Whole's end is, in bytes.** -/
theorem whole_place {nm : List Int} {p : Nat} (h1 : 1 ≤ p) (h5 : p ≤ 5) {bs t : List UInt8} {n : Nat} (hW : WholeIs nm p bs t n true) : placeV bs (runesI (bs.take n)).length = n := by
  rcases hW with ⟨_, w2, w3, m1, q, w4, w5, w6, w7⟩ | ⟨w1, _⟩
  · have hk : Ok nm ((s0 p).run nm m1) := by
      rcases run_keeps nm m1 (s0 p) (s0_ok nm h1 h5) with h | h
      · exact absurd h w5
      · exact h.1
    have hst : stopZ q = true := by
      rw [run_snoc, next_ok hk] at w6
      rcases step_keeps nm _ q hk with ⟨_, h, _⟩ | ⟨h, _⟩
      · exact h
      · exact absurd w6 (ok_ne h)
    have hq := stop_low hst
    obtain ⟨X, c, hX, hc⟩ := last_ascii q hq.1 hq.2 _ (bs.take n) m1 (Nat.le_refl _) w4
    exact place_right bs X c n hc hX w2
  · cases w1
set_option maxRecDepth 100000 in
set_option maxHeartbeats 2000000 in
/-- **Place.** -/
theorem rplace_calls (v : Value) (bs : List UInt8) (n₀ n : Nat) (w : World) (hl : bs.length ≤ 4398046511104) (hH : HasB n₀ w v bs) :
    Calls Tryd.prog 34 #[v, .int .i64 n] w fun e W' => e = .returned (.int .i64 (placeV bs n)) ∧ Below w.heap.size w W' := by
  have HP : Hid (Calls Tryd.prog 33 #[v] w fun e W' => ∃ v, e = .returned v ∧ W'.ownsRow w.heap.size 65 4 v (pcs bs).length ((pcs bs).flatMap pcCells) ∧ Below w.heap.size w W') := pieces_calls v bs n₀ w hl hH
  have hpl := pcs_length bs
  obtain ⟨av, cv, rfl⟩ : ∃ a c, v = .slice a bs.length c := by
    rcases hH with ⟨rfl, a, cap, rfl⟩ | ⟨_, b, off, cap, rfl, _⟩
    · exact ⟨a, cap, rfl⟩
    · exact ⟨_, cap, rfl⟩
  clear hH
  go_enter Tryd.func34, Tryd.ntmps34
  go_wp2_with fail
  (go_at_call 33; refine HP.out.mono ?_; rintro e w2 ⟨vl, rfl, hown2, hb2⟩; obtain ⟨al, cl, rfl⟩ := owns_slice hown2)
  have s2 := hb2.size
  go_wp2_with fail
  go_loopw [10] (fun i wr => ∃ k : Nat, k ≤ (pcs bs).length ∧ i = .int .i64 k ∧ Hid (k ≤ n) ∧ Below w2.heap.size w2 wr) (fun i _ => (pcs bs).length - (intOf i).toNat)
  case atStart => exact ⟨0, by omega, rfl, Nat.zero_le _, Below.refl _ _⟩
  case round =>
    obtain ⟨k, hk, rfl, hkn, hB⟩ := hrel
    by_cases hlt : k < (pcs bs).length
    · obtain ⟨gl, rfl, hgb, hgl, r0, p0, q0, o0⟩ := owns_piece hown2 k hlt
      have r1 := (hB.cell (p := ⟨gl, k * 4, none⟩) hgl).trans r0
      have p1 := (hB.cell (p := ⟨gl, k * 4 + 1, none⟩) hgl).trans p0
      have q1 := (hB.cell (p := ⟨gl, k * 4 + 2, none⟩) hgl).trans q0
      have o1 := (hB.cell (p := ⟨gl, k * 4 + 3, none⟩) hgl).trans o0
      have HPOS := hid_of (pcs_pos0 bs k hlt)
      have s1 := hB.size
      clear r0 p0 q0 o0
      by_cases hkn2 : k = n
      · subst hkn2
        have HV : Hid (placeV bs k = (pcs bs)[k].pos) := by show placeV bs k = _; unfold placeV; rw [if_pos hlt, HPOS.out]
        generalize (pcs bs)[k].pos = pp at *
        go_wp2_with fail
        go_ret
        exact ⟨ret_is (by rw [HV.out]; rfl), (hb2.trans (hB.mono s2)).alloc (by omega) _⟩
      · have e1 : ((k : Int) == (n : Int)) = false := by simp; omega
        have HKN : Hid (k + 1 ≤ n) := by have := hkn.out; show k + 1 ≤ n; omega
        go_wp2_with fail
        go_roundw
        case rel => exact ⟨k + 1, by omega, by go_num, HKN.out, hB.alloc (by omega) _⟩
        case measure => simp [intOf]; omega
    · obtain rfl : k = (pcs bs).length := by omega
      have HV : Hid (placeV bs n = bs.length) := by show placeV bs n = bs.length; unfold placeV; rw [if_neg (by have := hkn.out; omega)]
      go_wp2_with fail
      go_ret
      exact ⟨ret_is (by rw [HV.out]; rfl), hb2.trans (hB.mono s2)⟩
set_option maxRecDepth 100000 in
set_option maxHeartbeats 1000000 in
/-- **Bytes.** -/
theorem bytes_calls (bs : List UInt8) (n : Nat) (w : World) (hl : bs.length ≤ 4398046511104) :
    Calls Tryd.prog 17 #[.string ⟨bs.toArray⟩, .int .i64 n] w fun e W' => e = .returned (.int .i64 (placeV bs n)) ∧ Below w.heap.size w W' := by
  have hcv := Lib.run_convert_string_bytes (P := Tryd.prog) w 9 34 5 ⟨bs.toArray⟩ Tryd.underlying9 Tryd.underlying34 Tryd.underlying5
  rw [byteArr_size] at hcv
  have HBW := hid_of (bytesWorld_below w 5 ⟨bs.toArray⟩)
  have RC : Hid (∀ cap, bs.length ≤ cap → Calls Tryd.prog 34 #[.slice (some ⟨w.heap.size, 0, none⟩) bs.length cap, .int .i64 n] (Lib.bytesWorld w 5 ⟨bs.toArray⟩) fun e W' => e = .returned (.int .i64 (placeV bs n)) ∧ Below (Lib.bytesWorld w 5 ⟨bs.toArray⟩).heap.size (Lib.bytesWorld w 5 ⟨bs.toArray⟩) W') :=
    fun cap hcap => rplace_calls _ bs (w.heap.size + 1) n _ (by omega) (RowB.hasB0 rfl (bytesWorld_row w 5 bs) hcap _ (Nat.lt_succ_self _))
  go_enter Tryd.func17, Tryd.ntmps17
  go_wp2_with fail
  (go_at_call 34; refine (RC.out _ (grownCap_ge _ _ _ _)).mono ?_; rintro e w2 ⟨rfl, hb2⟩)
  go_wp2_with fail
  go_ret
  exact ⟨rfl, HBW.out.trans (hb2.mono HBW.out.size)⟩
end Go.Proofs.YtegkdgmpkfpjmaaDoor.R
