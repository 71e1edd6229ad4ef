/- What is proved here: contracts of what writes runes as bytes: utf.Bytes, sieveref01.Char, Width, bytesOf and Bytes, and the comparison of two byte slices. -/
import Derived.Laws.Cover4
import Derived.Laws.IdiomStrings
import Derived.Lib.BufferRead
import Derived.Lib.ConvBytes
import Derived.Test.YtmfhhpacojodkaaGreatDoorBun1
namespace Go.Proofs.YtmfhhpacojodkaaGreatDoor.U
open Go.RowKit Go.Shelf

/-- A rune's bytes; the bytes of runes. -/
def enc (r : Int) : List UInt8 := (Utf8.encode r).data.toList
def encs (zs : List Int) : List UInt8 := zs.flatMap enc
theorem foldl_enc (zs : List Int) : ∀ s : ByteArray, (zs.foldl (fun r n => r ++ Utf8.encode n) s).data.toList = s.data.toList ++ encs zs := by
  induction zs with
  | nil => intro s; simp [encs]
  | cons z zs ih => intro s; simp only [List.foldl_cons]; rw [ih]; simp [encs, enc, ByteArray.data_append]
theorem runesBytes_data (zs : List Int) : (runesBytes zs).data.toList = encs zs := by
  unfold runesBytes; rw [foldl_enc]; rfl
theorem runesBytes_eq (zs : List Int) : runesBytes zs = ⟨(encs zs).toArray⟩ := by
  rw [← runesBytes_data]
theorem enc_length (r : Int) : (enc r).length ≤ 4 := encode_size_le r
theorem encs_length (zs : List Int) : (encs zs).length ≤ 4 * zs.length := by
  induction zs with
  | nil => simp [encs]
  | cons z zs ih => have := enc_length z; simp only [encs, List.flatMap_cons, List.length_append, List.length_cons] at ih ⊢; omega
theorem add_none (b off j : Nat) : (⟨b, off, none⟩ : Addr).add j = ⟨b, off + j, none⟩ := by unfold Addr.add; split <;> simp_all

/-- 'string(l)' of runes in memory. -/
theorem conv_runes {w : World} {v : Value} {zs : List Int} (h : HasI .i32 w v zs) : (convert 64 9 v).run Tryz.prog w = .ok (.string ⟨(encs zs).toArray⟩) w := by
  rw [← runesBytes_eq]
  rcases h with ⟨rfl, a, cap, rfl⟩ | ⟨hp, b, off, cap, rfl, hcap, hx⟩
  · cases a with
    | none => exact run_convert_runes_nil w _ _ 21 0 cap Tryz.underlying64 Tryz.underlying21 Tryz.underlying9
    | some ad => exact run_convert_runes w _ _ 21 ad 0 cap [] (Nat.le_refl _) Tryz.underlying64 Tryz.underlying21 Tryz.underlying9 (fun j hj => by simp at hj)
  · have := run_convert_runes (P := Tryz.prog) w 64 9 21 ⟨b, off, none⟩ zs.length cap zs (Nat.le_refl _) Tryz.underlying64 Tryz.underlying21 Tryz.underlying9 (fun j hj => by rw [add_none, hx j hj]; simp [zAt])
    rw [List.take_length] at this
    exact this
/-- 'string(b)' of bytes in memory. -/
theorem conv_bytes {w : World} {v : Value} {bs : List UInt8} {n₀ : Nat} (h : HasB n₀ w v bs) : (convert 29 9 v).run Tryz.prog w = .ok (.string ⟨bs.toArray⟩) w := by
  rcases h with ⟨rfl, a, cap, rfl⟩ | ⟨hp, b, off, cap, rfl, hcap, _, hx⟩
  · cases a with
    | none => exact Lib.run_convert_nil_bytes w _ _ 5 cap Tryz.underlying29 Tryz.underlying5 Tryz.underlying9
    | some ad => exact run_convert_bytes_back w _ _ 5 ad cap [] Tryz.underlying29 Tryz.underlying5 Tryz.underlying9 (fun j hj => by simp at hj)
  · exact run_convert_bytes_back w _ _ 5 ⟨b, off, none⟩ cap bs Tryz.underlying29 Tryz.underlying5 Tryz.underlying9 (fun j hj => by rw [add_none, hx j hj]; simp [byteAt, hj])

theorem RowB.hasB0 {g n cap : Nat} {bs : List UInt8} {w : World} (hn : n = bs.length) (h : RowB g n (byteAt bs) w) (hcap : n ≤ cap) (n₀ : Nat) (hg : g < n₀) : HasB n₀ w (.slice (some ⟨g, 0, none⟩) n cap) bs := by
  subst hn
  by_cases h0 : bs.length = 0
  · have e := List.length_eq_zero_iff.1 h0
    subst e; exact .inl ⟨rfl, _, _, rfl⟩
  · exact .inr ⟨by omega, g, 0, cap, rfl, hcap, hg, fun j hj => by rw [Nat.zero_add]; exact h.1 j hj⟩
/-- Behind '[]byte(s)': new memory that holds the bytes. -/
theorem bytesWorld_below (w : World) (e : TypeId) (s : ByteArray) : Below w.heap.size w (Lib.bytesWorld w e s) :=
  ⟨rfl, rfl, rfl, by rw [Lib.bytesWorld_size]; omega, fun k hk => Lib.bytesWorld_at_old w e s k hk⟩
theorem bytesWorld_row (w : World) (e : TypeId) (bs : List UInt8) : RowB w.heap.size bs.length (byteAt bs) (Lib.bytesWorld w e ⟨bs.toArray⟩) := by
  refine ⟨fun j hj => ?_, fun j hj => ?_⟩
  · rw [Lib.bytesWorld_cell w e ⟨bs.toArray⟩ j (by simpa [ByteArray.size] using hj)]
    simp [byteAt, hj, List.getD]
  · have h := Lib.bytesWorld_at_new w e ⟨bs.toArray⟩
    have hz : bs.length ≤ (Lib.bytesCells w e ⟨bs.toArray⟩).size := by simp [Lib.bytesCells]
    simp only [World.frozen?, h]
    simp; omega

theorem bytes_beq (xs ys : List UInt8) : (xs == ys) = decide (xs = ys) := by
  rw [Bool.eq_iff_iff]; simp
set_option maxRecDepth 100000 in
/-- **Char of any rune.** -/
theorem char_calls (r : Int) (w : World) : Calls Tryz.prog 105 #[.int .i32 r] w fun e W' => e = .returned (.bool (Utf8.valid r)) ∧ W' = w := by
  by_cases h0 : 0 ≤ r
  · by_cases h1 : r ≤ 1114111
    · by_cases h2 : r < 55296
      · go_enter Tryz.func105, Tryz.ntmps105
        go_wp2
        go_ret
        exact ⟨ret_bool (by simp [Utf8.valid]; omega), rfl⟩
      · have h2' : decide (r < 55296) = false := by simp; omega
        go_enter Tryz.func105, Tryz.ntmps105
        go_wp2
        go_ret
        refine ⟨ret_bool ?_, rfl⟩
        rw [Bool.eq_iff_iff]; simp [Utf8.valid]; omega
    · have h1' : decide (r ≤ 1114111) = false := by simp; omega
      go_enter Tryz.func105, Tryz.ntmps105
      go_wp2
      go_ret
      refine ⟨ret_bool ?_, rfl⟩
      rw [Bool.eq_iff_iff]; simp [Utf8.valid]; omega
  · have h0' : decide (0 ≤ r) = false := by simp; omega
    go_enter Tryz.func105, Tryz.ntmps105
    go_wp2
    go_ret
    refine ⟨ret_bool ?_, rfl⟩
    rw [Bool.eq_iff_iff]; simp [Utf8.valid]; omega

theorem enc_wrong {r : Int} (h : Utf8.valid r = false) : enc r = [239, 191, 189] := by
  unfold enc Utf8.encode; simp only [h, Bool.false_eq_true, if_false]; decide
theorem enc_one {r : Int} (h0 : 0 ≤ r) (h : r < 128) : enc r = [UInt8.ofNat r.toNat] := by
  have hv : Utf8.valid r = true := by simp [Utf8.valid]; omega
  unfold enc Utf8.encode; simp only [hv, if_true]; rw [if_pos (by omega)]
theorem enc_two {r : Int} (h0 : 128 ≤ r) (h : r < 2048) : enc r = [UInt8.ofNat (192 + r.toNat / 64), UInt8.ofNat (128 + r.toNat % 64)] := by
  have hv : Utf8.valid r = true := by simp [Utf8.valid]; omega
  unfold enc Utf8.encode; simp only [hv, if_true]; rw [if_neg (by omega), if_pos (by omega)]
theorem enc_three {r : Int} (hv : Utf8.valid r = true) (h0 : 2048 ≤ r) (h : r < 65536) : enc r = [UInt8.ofNat (224 + r.toNat / 4096), UInt8.ofNat (128 + r.toNat / 64 % 64), UInt8.ofNat (128 + r.toNat % 64)] := by
  unfold enc Utf8.encode; simp only [hv, if_true]; rw [if_neg (by omega), if_neg (by omega), if_pos (by omega)]
theorem enc_four {r : Int} (hv : Utf8.valid r = true) (h0 : 65536 ≤ r) : enc r = [UInt8.ofNat (240 + r.toNat / 262144), UInt8.ofNat (128 + r.toNat / 4096 % 64), UInt8.ofNat (128 + r.toNat / 64 % 64), UInt8.ofNat (128 + r.toNat % 64)] := by
  unfold enc Utf8.encode; simp only [hv, if_true]; rw [if_neg (by omega), if_neg (by omega), if_neg (by omega)]
theorem valid_bounds {r : Int} (h : Utf8.valid r = true) : 0 ≤ r ∧ r ≤ 1114111 := by simp [Utf8.valid] at h; omega

set_option maxRecDepth 100000 in
set_option maxHeartbeats 1000000 in
/-- **sieveref01.Width of any rune.** -/
theorem rwidth_calls (r : Int) (w : World) : Calls Tryz.prog 106 #[.int .i32 r] w fun e W' => e = .returned (.int .i64 (enc r).length) ∧ W' = w := by
  have CC : Hid (∀ w, Calls Tryz.prog 105 #[.int .i32 r] w fun e W' => e = .returned (.bool (Utf8.valid r)) ∧ W' = w) := fun w => char_calls r w
  cases hv : Utf8.valid r with
  | false =>
    rw [hv] at CC
    rw [enc_wrong hv]
    clear hv
    go_enter Tryz.func106, Tryz.ntmps106
    go_wp2_with (go_at_call 105; refine (CC.out _).mono ?_; rintro e w' ⟨rfl, rfl⟩)
    go_ret
    exact ⟨rfl, rfl⟩
  | true =>
    rw [hv] at CC
    obtain ⟨h0, h1⟩ := valid_bounds hv
    by_cases c1 : r < 128
    · rw [enc_one h0 c1]
      clear hv
      go_enter Tryz.func106, Tryz.ntmps106
      go_wp2_with (go_at_call 105; refine (CC.out _).mono ?_; rintro e w' ⟨rfl, rfl⟩)
      go_ret
      exact ⟨rfl, rfl⟩
    · by_cases c2 : r < 2048
      · rw [enc_two (by omega) c2]
        clear hv
        go_enter Tryz.func106, Tryz.ntmps106
        go_wp2_with (go_at_call 105; refine (CC.out _).mono ?_; rintro e w' ⟨rfl, rfl⟩)
        go_ret
        exact ⟨rfl, rfl⟩
      · by_cases c3 : r < 65536
        · rw [enc_three hv (by omega) c3]
          clear hv
          go_enter Tryz.func106, Tryz.ntmps106
          go_wp2_with (go_at_call 105; refine (CC.out _).mono ?_; rintro e w' ⟨rfl, rfl⟩)
          go_ret
          exact ⟨rfl, rfl⟩
        · rw [enc_four hv (by omega)]
          clear hv
          go_enter Tryz.func106, Tryz.ntmps106
          go_wp2_with (go_at_call 105; refine (CC.out _).mono ?_; rintro e w' ⟨rfl, rfl⟩)
          go_ret
          exact ⟨rfl, rfl⟩

/-- What new memory holds the bytes of one rune. -/
def NewB (w : World) (bs : List UInt8) (W' : World) : Prop := Below w.heap.size w W' ∧ ∀ j u, (bvs bs)[j]? = some u → W'.cell? ((⟨w.heap.size, 0, none⟩ : Addr).add j) = some u
theorem newB_alloc (w : World) (bs : List UInt8) (c : Array Value) (t : TypeId) (h : c = (bvs bs).toArray) : NewB w bs (w.alloc (.cells c t)) := by
  refine ⟨(Below.refl _ w).alloc (Nat.le_refl _) _, fun j u hj => ?_⟩
  have hb := World.alloc_heap_new w (.cells c t)
  rw [add_none, Nat.zero_add]
  simp only [World.cell?, hb]
  rw [h]; simpa using hj
theorem u8_val {n : Nat} {a : Int} (h : n < 256) (e : a = (n : Int)) : Value.int .u8 a = .int .u8 ((UInt8.ofNat n).toNat : Int) := by rw [e]; simp; omega
theorem bvs1 {a : Int} {m : Nat} (h : m < 256 ∧ a = (m : Int)) : #[Value.int .u8 a] = (bvs [UInt8.ofNat m]).toArray := by rw [u8_val h.1 h.2]; rfl
theorem bvs2 {a b : Int} {m n : Nat} (h : m < 256 ∧ a = (m : Int)) (k : n < 256 ∧ b = (n : Int)) : #[Value.int .u8 a, .int .u8 b] = (bvs [UInt8.ofNat m, UInt8.ofNat n]).toArray := by rw [u8_val h.1 h.2, u8_val k.1 k.2]; rfl
theorem bvs3 {a b c : Int} {m n o : Nat} (h : m < 256 ∧ a = (m : Int)) (k : n < 256 ∧ b = (n : Int)) (l : o < 256 ∧ c = (o : Int)) : #[Value.int .u8 a, .int .u8 b, .int .u8 c] = (bvs [UInt8.ofNat m, UInt8.ofNat n, UInt8.ofNat o]).toArray := by rw [u8_val h.1 h.2, u8_val k.1 k.2, u8_val l.1 l.2]; rfl
theorem bvs4 {a b c d : Int} {m n o p : Nat} (h : m < 256 ∧ a = (m : Int)) (k : n < 256 ∧ b = (n : Int)) (l : o < 256 ∧ c = (o : Int)) (q : p < 256 ∧ d = (p : Int)) : #[Value.int .u8 a, .int .u8 b, .int .u8 c, .int .u8 d] = (bvs [UInt8.ofNat m, UInt8.ofNat n, UInt8.ofNat o, UInt8.ofNat p]).toArray := by rw [u8_val h.1 h.2, u8_val k.1 k.2, u8_val l.1 l.2, u8_val q.1 q.2]; rfl

set_option maxRecDepth 100000 in
set_option maxHeartbeats 2000000 in
theorem bytesOf_calls (r : Int) (w : World) : Calls Tryz.prog 85 #[.int .i32 r] w fun e W' => e = .returned (.slice (some ⟨w.heap.size, 0, none⟩) (enc r).length (enc r).length) ∧ NewB w (enc r) W' := by
  have CC : Hid (∀ w, Calls Tryz.prog 105 #[.int .i32 r] w fun e W' => e = .returned (.bool (Utf8.valid r)) ∧ W' = w) := fun w => char_calls r w
  have WC : Hid (∀ w, Calls Tryz.prog 106 #[.int .i32 r] w fun e W' => e = .returned (.int .i64 (enc r).length) ∧ W' = w) := fun w => rwidth_calls r w
  cases hv : Utf8.valid r with
  | false =>
    have W3 : Hid (∀ w, Calls Tryz.prog 106 #[.int .i32 65533] w fun e W' => e = .returned (.int .i64 3) ∧ W' = w) := fun w => by
      have := rwidth_calls 65533 w; rw [show (enc 65533).length = 3 by decide +kernel] at this; exact this
    rw [hv] at CC
    rw [enc_wrong hv]
    clear hv WC
    go_enter Tryz.func85, Tryz.ntmps85
    go_wp2_with (first | (go_at_call 105; refine (CC.out _).mono ?_; rintro e w' ⟨rfl, rfl⟩) | (go_at_call 106; refine (W3.out _).mono ?_; rintro e w' ⟨rfl, rfl⟩))
    go_ret
    exact ⟨rfl, newB_alloc _ _ _ _ rfl⟩
  | true =>
    rw [hv] at CC
    obtain ⟨h0, h1⟩ := valid_bounds hv
    by_cases c1 : r < 128
    · rw [enc_one h0 c1] at WC ⊢
      clear hv
      go_enter Tryz.func85, Tryz.ntmps85
      go_wp2_with (first | (go_at_call 105; refine (CC.out _).mono ?_; rintro e w' ⟨rfl, rfl⟩) | (go_at_call 106; refine (WC.out _).mono ?_; rintro e w' ⟨rfl, rfl⟩))
      go_ret
      exact ⟨rfl, newB_alloc _ _ _ _ (bvs1 (by omega))⟩
    · by_cases c2 : r < 2048
      · rw [enc_two (by omega) c2] at WC ⊢
        clear hv
        go_enter Tryz.func85, Tryz.ntmps85
        go_wp2_with (first | (go_at_call 105; refine (CC.out _).mono ?_; rintro e w' ⟨rfl, rfl⟩) | (go_at_call 106; refine (WC.out _).mono ?_; rintro e w' ⟨rfl, rfl⟩))
        go_ret
        exact ⟨rfl, newB_alloc _ _ _ _ (bvs2 (by omega) (by omega))⟩
      · by_cases c3 : r < 65536
        · rw [enc_three hv (by omega) c3] at WC ⊢
          clear hv
          go_enter Tryz.func85, Tryz.ntmps85
          go_wp2_with (first | (go_at_call 105; refine (CC.out _).mono ?_; rintro e w' ⟨rfl, rfl⟩) | (go_at_call 106; refine (WC.out _).mono ?_; rintro e w' ⟨rfl, rfl⟩))
          go_ret
          exact ⟨rfl, newB_alloc _ _ _ _ (bvs3 (by omega) (by omega) (by omega))⟩
        · rw [enc_four hv (by omega)] at WC ⊢
          clear hv
          go_enter Tryz.func85, Tryz.ntmps85
          go_wp2_with (first | (go_at_call 105; refine (CC.out _).mono ?_; rintro e w' ⟨rfl, rfl⟩) | (go_at_call 106; refine (WC.out _).mono ?_; rintro e w' ⟨rfl, rfl⟩))
          go_ret
          exact ⟨rfl, newB_alloc _ _ _ _ (bvs4 (by omega) (by omega) (by omega) (by omega))⟩

theorem bvs_append (xs ys : List UInt8) : bvs (xs ++ ys) = bvs xs ++ bvs ys := by simp [bvs]
theorem encs_take (zs : List Int) (k : Nat) (h : k < zs.length) : encs (zs.take (k + 1)) = encs (zs.take k) ++ enc (zAt zs k) := by
  have hz : zAt zs k = zs[k] := by simp [zAt, h]
  unfold encs
  rw [List.take_succ_eq_append_getElem h, List.flatMap_append, hz]; simp
set_option maxRecDepth 100000 in
set_option maxHeartbeats 2000000 in
theorem rbytes_walk (zs : List Int) (a : Option Addr) (b off cap : Nat) (w : World) (ha : 0 < zs.length → a = some ⟨b, off, none⟩) (hl : (zs.length : Int) ≤ 1099511627776)
    (hc : ∀ j, j < zs.length → w.cell? ⟨b, off + j, none⟩ = some (.int .i32 (zAt zs j))) :
    Calls Tryz.prog 55 #[.slice a zs.length cap] w fun e W' => ∃ v, e = .returned v ∧ W'.ownsRow w.heap.size 5 1 v (encs zs).length (bvs (encs zs)) ∧ Below w.heap.size w W' := by
  obtain ⟨i0, hi, hz0, hz1, hz2⟩ := info_parts infoByte
  have HC : Hid (∀ j, j < zs.length → w.cell? ⟨b, off + j, none⟩ = some (.int .i32 (zAt zs j))) := hc
  have HA : Hid (0 < zs.length → a = some ⟨b, off, none⟩) := ha
  clear hc ha
  go_enter Tryz.func55, Tryz.ntmps55
  go_wp2
  go_loopw [3, 8] (fun v i wr => ∃ k : Nat, k ≤ zs.length ∧ i = .int .i64 k ∧ wr.ownsRow w.heap.size 5 1 v (encs (zs.take k)).length (bvs (encs (zs.take k))) ∧ Below w.heap.size w wr) (fun _ i _ => zs.length - (intOf i).toNat)
  case atStart => exact ⟨0, by omega, rfl, World.ownsRow_nil _ _ _ _, Below.refl _ _⟩
  case round =>
    obtain ⟨k, hk, rfl, hrow, hB⟩ := hrel
    by_cases hlt : k < zs.length
    · have ck := (hB.cell (p := ⟨b, off + k, none⟩) (cell_lt (HC.out k hlt))).trans (HC.out k hlt)
      have ea := HA.out (by omega)
      subst ea
      have hlen := encs_length (zs.take k)
      have hl1 := enc_length (zAt zs k)
      have s1 := hB.size
      have htk : (zs.take k).length = k := by simp; omega
      rw [htk] at hlen
      have HT : Hid (encs (zs.take (k + 1)) = encs (zs.take k) ++ enc (zAt zs k)) := encs_take zs k hlt
      clear htk
      go_wp2_with (first | (go_at_call 85; refine (bytesOf_calls _ _).mono ?_; rintro e w1 ⟨rfl, hN⟩) | (at_builtin; refine wpList_append_own _ rfl _ _ 29 rfl w.heap.size 5 i0 (.int .u8 0) 1 1 Tryz.underlying29 hi hz0 hz1 hz2 rfl (by decide) _ _ _ rfl (owns_below hrow hN.1) ⟨wr.heap.size, 0, none⟩ (enc (zAt zs k)).length (enc (zAt zs k)).length (bvs (enc (zAt zs k))) rfl (by rw [bvs_length]; omega) hN.2 (fun x hx => by simp [bvs] at hx; obtain ⟨c, _, rfl⟩ := hx; rfl) (by unfold maxLen; omega) (by omega) (by have := hN.1.size; omega) ?_; intro v' w4 hown' hgrow _))
      go_roundw
      case rel => exact ⟨k + 1, by omega, by go_num, by rw [HT.out, bvs_append, List.length_append]; exact hown', (hB.trans (hN.1.mono s1)).grown hgrow (by have := hN.1.size; omega) (fun j hj => (hrow.lt j hj).1)⟩
      case measure => simp [intOf]; omega
    · obtain rfl : k = zs.length := by omega
      go_wp2
      go_ret
      rw [List.take_length] at hrow
      exact ⟨_, rfl, hrow, hB⟩
/-- **sieveref01.Bytes of any runes.** -/
theorem rbytes_calls (v : Value) (zs : List Int) (w : World) (hl : zs.length ≤ 1099511627776) (h : HasI .i32 w v zs) :
    Calls Tryz.prog 55 #[v] w fun e W' => ∃ v, e = .returned v ∧ W'.ownsRow w.heap.size 5 1 v (encs zs).length (bvs (encs zs)) ∧ Below w.heap.size w W' := by
  rcases h with ⟨rfl, a, cap, rfl⟩ | ⟨hp, b, off, cap, rfl, hcap, hx⟩
  · exact rbytes_walk [] a 0 0 cap w (fun h => by simp at h) (by simp) (fun j hj => by simp at hj)
  · exact rbytes_walk zs _ b off cap w (fun _ => rfl) (by omega) hx

end Go.Proofs.YtmfhhpacojodkaaGreatDoor.U
