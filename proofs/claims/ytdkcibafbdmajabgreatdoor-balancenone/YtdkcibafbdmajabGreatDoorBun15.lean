/- What is proved here: laws and contracts of Enc, Runes, Valid, one behind the other (each says its own). -/
import Derived.Laws.Cover4
import Derived.Laws.IdiomStrings
import Derived.Lib.BufferRead
import Derived.Lib.ConvBytes
import Derived.Test.YtdkcibafbdmajabGreatDoorBun14
import Derived.Maps.AppendAt
import Derived.Maps.OwnIn
import Derived.Test.YtdkcibafbdmajabGreatDoorBun13
import Derived.Test.YtdkcibafbdmajabGreatDoorMathV
import Derived.Test.YtdkcibafbdmajabGreatDoorShelf2
import Derived.Laws.RangeAny
/- What is proved here: contracts of what writes runes as bytes: utf.Bytes, sieveref01.Char, Width, bytesOf and Bytes, and the comparison of two byte slices. -/
namespace Go.Proofs.YtdkcibafbdmajabGreatDoor.U
open Go.RowKit Go.Shelf

/-- A rune's bytes; the bytes of runes. -/
def enc (r : Int) : List UInt8 := (Utf8.encode r).data.toList
def encs (zs : List Int) : List UInt8 := zs.flatMap enc
theorem foldl_enc (zs : List Int) : ∀ s : ByteArray, (zs.foldl (fun r n => r ++ Utf8.encode n) s).data.toList = s.data.toList ++ encs zs := by
  induction zs with
  | nil => intro s; simp [encs]
  | cons z zs ih => intro s; simp only [List.foldl_cons]; rw [ih]; simp [encs, enc, ByteArray.data_append]
theorem runesBytes_data (zs : List Int) : (runesBytes zs).data.toList = encs zs := by
  unfold runesBytes; rw [foldl_enc]; rfl
theorem runesBytes_eq (zs : List Int) : runesBytes zs = ⟨(encs zs).toArray⟩ := by
  rw [← runesBytes_data]
theorem enc_length (r : Int) : (enc r).length ≤ 4 := encode_size_le r
theorem encs_length (zs : List Int) : (encs zs).length ≤ 4 * zs.length := by
  induction zs with
  | nil => simp [encs]
  | cons z zs ih => have := enc_length z; simp only [encs, List.flatMap_cons, List.length_append, List.length_cons] at ih ⊢; omega
theorem add_none (b off j : Nat) : (⟨b, off, none⟩ : Addr).add j = ⟨b, off + j, none⟩ := by unfold Addr.add; split <;> simp_all

/-- 'string(b)' of bytes in memory. -/
theorem conv_bytes {w : World} {v : Value} {bs : List UInt8} {n₀ : Nat} (h : HasB n₀ w v bs) : (convert 90 9 v).run Tryz.prog w = .ok (.string ⟨bs.toArray⟩) w := by
  rcases h with ⟨rfl, a, cap, rfl⟩ | ⟨hp, b, off, cap, rfl, hcap, _, hx⟩
  · cases a with
    | none => exact Lib.run_convert_nil_bytes w _ _ 5 cap Tryz.underlying90 Tryz.underlying5 Tryz.underlying9
    | some ad => exact run_convert_bytes_back w _ _ 5 ad cap [] Tryz.underlying90 Tryz.underlying5 Tryz.underlying9 (fun j hj => by simp at hj)
  · exact run_convert_bytes_back w _ _ 5 ⟨b, off, none⟩ cap bs Tryz.underlying90 Tryz.underlying5 Tryz.underlying9 (fun j hj => by rw [add_none, hx j hj]; simp [byteAt, hj])

theorem RowB.hasB0 {g n cap : Nat} {bs : List UInt8} {w : World} (hn : n = bs.length) (h : RowB g n (byteAt bs) w) (hcap : n ≤ cap) (n₀ : Nat) (hg : g < n₀) : HasB n₀ w (.slice (some ⟨g, 0, none⟩) n cap) bs := by
  subst hn
  by_cases h0 : bs.length = 0
  · have e := List.length_eq_zero_iff.1 h0
    subst e; exact .inl ⟨rfl, _, _, rfl⟩
  · exact .inr ⟨by omega, g, 0, cap, rfl, hcap, hg, fun j hj => by rw [Nat.zero_add]; exact h.1 j hj⟩
/-- Behind '[]byte(s)': new memory that holds the bytes. -/
theorem bytesWorld_below (w : World) (e : TypeId) (s : ByteArray) : Below w.heap.size w (Lib.bytesWorld w e s) :=
  ⟨rfl, rfl, rfl, by rw [Lib.bytesWorld_size]; omega, fun k hk => Lib.bytesWorld_at_old w e s k hk⟩
theorem bytesWorld_row (w : World) (e : TypeId) (bs : List UInt8) : RowB w.heap.size bs.length (byteAt bs) (Lib.bytesWorld w e ⟨bs.toArray⟩) := by
  refine ⟨fun j hj => ?_, fun j hj => ?_⟩
  · rw [Lib.bytesWorld_cell w e ⟨bs.toArray⟩ j (by simpa [ByteArray.size] using hj)]
    simp [byteAt, hj, List.getD]
  · have h := Lib.bytesWorld_at_new w e ⟨bs.toArray⟩
    have hz : bs.length ≤ (Lib.bytesCells w e ⟨bs.toArray⟩).size := by simp [Lib.bytesCells]
    simp only [World.frozen?, h]
    simp; omega

theorem bytes_beq (xs ys : List UInt8) : (xs == ys) = decide (xs = ys) := by
  rw [Bool.eq_iff_iff]; simp
theorem enc_wrong {r : Int} (h : Utf8.valid r = false) : enc r = [239, 191, 189] := by
  unfold enc Utf8.encode; simp only [h, Bool.false_eq_true, if_false]; decide
theorem enc_one {r : Int} (h0 : 0 ≤ r) (h : r < 128) : enc r = [UInt8.ofNat r.toNat] := by
  have hv : Utf8.valid r = true := by simp [Utf8.valid]; omega
  unfold enc Utf8.encode; simp only [hv, if_true]; rw [if_pos (by omega)]
theorem enc_two {r : Int} (h0 : 128 ≤ r) (h : r < 2048) : enc r = [UInt8.ofNat (192 + r.toNat / 64), UInt8.ofNat (128 + r.toNat % 64)] := by
  have hv : Utf8.valid r = true := by simp [Utf8.valid]; omega
  unfold enc Utf8.encode; simp only [hv, if_true]; rw [if_neg (by omega), if_pos (by omega)]
theorem enc_three {r : Int} (hv : Utf8.valid r = true) (h0 : 2048 ≤ r) (h : r < 65536) : enc r = [UInt8.ofNat (224 + r.toNat / 4096), UInt8.ofNat (128 + r.toNat / 64 % 64), UInt8.ofNat (128 + r.toNat % 64)] := by
  unfold enc Utf8.encode; simp only [hv, if_true]; rw [if_neg (by omega), if_neg (by omega), if_pos (by omega)]
theorem enc_four {r : Int} (hv : Utf8.valid r = true) (h0 : 65536 ≤ r) : enc r = [UInt8.ofNat (240 + r.toNat / 262144), UInt8.ofNat (128 + r.toNat / 4096 % 64), UInt8.ofNat (128 + r.toNat / 64 % 64), UInt8.ofNat (128 + r.toNat % 64)] := by
  unfold enc Utf8.encode; simp only [hv, if_true]; rw [if_neg (by omega), if_neg (by omega), if_neg (by omega)]
theorem valid_bounds {r : Int} (h : Utf8.valid r = true) : 0 ≤ r ∧ r ≤ 1114111 := by simp [Utf8.valid] at h; omega

/-- What new memory holds the bytes of one rune. -/
def NewB (w : World) (bs : List UInt8) (W' : World) : Prop := Below w.heap.size w W' ∧ ∀ j u, (bvs bs)[j]? = some u → W'.cell? ((⟨w.heap.size, 0, none⟩ : Addr).add j) = some u
theorem newB_alloc (w : World) (bs : List UInt8) (c : Array Value) (t : TypeId) (h : c = (bvs bs).toArray) : NewB w bs (w.alloc (.cells c t)) := by
  refine ⟨(Below.refl _ w).alloc (Nat.le_refl _) _, fun j u hj => ?_⟩
  have hb := World.alloc_heap_new w (.cells c t)
  rw [add_none, Nat.zero_add]
  simp only [World.cell?, hb]
  rw [h]; simpa using hj
theorem u8_val {n : Nat} {a : Int} (h : n < 256) (e : a = (n : Int)) : Value.int .u8 a = .int .u8 ((UInt8.ofNat n).toNat : Int) := by rw [e]; simp; omega
theorem bvs1 {a : Int} {m : Nat} (h : m < 256 ∧ a = (m : Int)) : #[Value.int .u8 a] = (bvs [UInt8.ofNat m]).toArray := by rw [u8_val h.1 h.2]; rfl
theorem bvs2 {a b : Int} {m n : Nat} (h : m < 256 ∧ a = (m : Int)) (k : n < 256 ∧ b = (n : Int)) : #[Value.int .u8 a, .int .u8 b] = (bvs [UInt8.ofNat m, UInt8.ofNat n]).toArray := by rw [u8_val h.1 h.2, u8_val k.1 k.2]; rfl
theorem bvs3 {a b c : Int} {m n o : Nat} (h : m < 256 ∧ a = (m : Int)) (k : n < 256 ∧ b = (n : Int)) (l : o < 256 ∧ c = (o : Int)) : #[Value.int .u8 a, .int .u8 b, .int .u8 c] = (bvs [UInt8.ofNat m, UInt8.ofNat n, UInt8.ofNat o]).toArray := by rw [u8_val h.1 h.2, u8_val k.1 k.2, u8_val l.1 l.2]; rfl
theorem bvs4 {a b c d : Int} {m n o p : Nat} (h : m < 256 ∧ a = (m : Int)) (k : n < 256 ∧ b = (n : Int)) (l : o < 256 ∧ c = (o : Int)) (q : p < 256 ∧ d = (p : Int)) : #[Value.int .u8 a, .int .u8 b, .int .u8 c, .int .u8 d] = (bvs [UInt8.ofNat m, UInt8.ofNat n, UInt8.ofNat o, UInt8.ofNat p]).toArray := by rw [u8_val h.1 h.2, u8_val k.1 k.2, u8_val l.1 l.2, u8_val q.1 q.2]; rfl

theorem bvs_append (xs ys : List UInt8) : bvs (xs ++ ys) = bvs xs ++ bvs ys := by simp [bvs]
theorem encs_take (zs : List Int) (k : Nat) (h : k < zs.length) : encs (zs.take (k + 1)) = encs (zs.take k) ++ enc (zAt zs k) := by
  have hz : zAt zs k = zs[k] := by simp [zAt, h]
  unfold encs
  rw [List.take_succ_eq_append_getElem h, List.flatMap_append, hz]; simp
end Go.Proofs.YtdkcibafbdmajabGreatDoor.U

/- What is proved here: the contract of utf.Runes: for any bytes, it returns their runes in new memory and turns nothing that was there. -/
namespace Go.Proofs.YtdkcibafbdmajabGreatDoor.U
open Go.RowKit Go.Shelf
attribute [local go_sem] Oper.semAt_some

theorem info21 : (Tryz.prog.info? 21).map (fun i => (i.zero, i.size, i.bytes)) = some (some (.int .i32 0), 1, 4) := by kernel_rfl

/-- 'out = append(out, ..)' keeps to the box and its row. -/
theorem kpr_appended {W w1 : World} {n₀ B : Nat} {t e : TypeId} {size : Nat} {v v' : Value} {k m : Nat} {xs ys : List Value} {tmp : Obj}
    (hv : Boxed W B t v) (hte : t ≠ e) (hrow : W.ownsRow n₀ e size v k xs) (hn₀ : n₀ ≤ W.heap.size) (hB : n₀ ≤ B)
    (hown' : w1.ownsRow n₀ e size v' m ys) (hgrow : (W.alloc tmp).grownBy w1 v.ownBlock) (hob : v'.ownBlock = v.ownBlock ∨ v'.ownBlock = some (W.alloc tmp).heap.size) :
    Kpr n₀ [B] W (w1.setCell ⟨B, 0, none⟩ v') := by
  obtain ⟨_, hv2, _, _, hb2⟩ := hv.appended hte hrow hn₀ hB hown' hgrow
  refine ⟨hb2, fun j o hj hc hm hr => ?_, fun j hj => ?_⟩
  · have hlt := lt_of_block hj
    rw [Below.heap_setCell _ _ _ _ (by simpa using hm), hgrow.block j (by simp; omega) (fun ej => hr ⟨B, by simp, v, hv.cell, ej.symm⟩), Below.heap_alloc _ _ _ hlt]
    exact hj
  · obtain ⟨B', hB', u, hu, eu⟩ := hj
    obtain rfl : B' = B := by simpa using hB'
    rw [hv2.cell] at hu; cases hu
    rcases hob with e1 | e1
    · exact .inl ⟨B', by simp, v, hv.cell, e1 ▸ eu⟩
    · refine .inr ⟨?_, ?_⟩
      · rw [e1] at eu; simp at eu; omega
      · have := (hown'.lt j eu).2; simpa [World.setCell] using this

end Go.Proofs.YtdkcibafbdmajabGreatDoor.U

/- What is proved here: contracts of utf.firstWrong, Valid and Mend: where the first wrong byte stands, whether there is none, and the text of the runes. -/
namespace Go.Proofs.YtdkcibafbdmajabGreatDoor.U
open Go.RowKit Go.Shelf

theorem byteArr_size (bs : List UInt8) : (⟨bs.toArray⟩ : ByteArray).size = bs.length := by simp [ByteArray.size]
theorem byteArr_get (bs : List UInt8) (j : Nat) : ((⟨bs.toArray⟩ : ByteArray).get! j).toNat = byteAt bs j := by
  show (bs.toArray[j]!).toNat = _
  unfold byteAt
  by_cases h : j < bs.length
  · rw [getElem!_pos bs.toArray j (by simpa using h)]; simp [h]
  · rw [getElem!_neg bs.toArray j (by simpa using h)]; simp [h]; rfl
theorem extract_drop (bs : List UInt8) (k : Nat) : ((⟨bs.toArray⟩ : ByteArray).extract k bs.length).data.toList = bs.drop k := by
  rw [ByteArray.data_extract, Array.toList_extract]
  simp [List.take_of_length_le]
theorem decode_drop (bs : List UInt8) (k : Nat) : Utf8.decode ⟨bs.toArray⟩ k = Lib.decodeN (bs.drop k).length (byteAt (bs.drop k) 0) (byteAt (bs.drop k) 1) (byteAt (bs.drop k) 2) (byteAt (bs.drop k) 3) := by
  rw [Lib.decode_at, byteArr_size]
  simp only [byteArr_get, byteAt_drop, List.length_drop, Nat.add_zero]
theorem hasPrefix_fffd (bs : List UInt8) : Lib.hasPrefix bs [239, 191, 189] = decide (3 ≤ bs.length ∧ byteAt bs 0 = 239 ∧ byteAt bs 1 = 191 ∧ byteAt bs 2 = 189) := by
  have hu : ∀ (a : UInt8) (n : Nat), n < 256 → ((UInt8.ofNat n == a) = true ↔ a.toNat = n) := fun a n hn => by
    rw [beq_iff_eq]
    constructor
    · intro h; rw [← h]; simp; omega
    · intro h; apply UInt8.toNat_inj.1; simp; omega
  rw [Bool.eq_iff_iff]
  unfold Lib.hasPrefix
  match bs with
  | [] => simp
  | [a] => simp [List.isPrefixOf]
  | [a, b] => simp [List.isPrefixOf]
  | a :: b :: c :: r =>
    have h1 := hu a 239 (by omega)
    have h2 := hu b 191 (by omega)
    have h3 := hu c 189 (by omega)
    simp only [List.isPrefixOf, Bool.and_eq_true, decide_eq_true_eq, Bool.and_true]
    rw [show ((239 : UInt8) == a) = (UInt8.ofNat 239 == a) from rfl, show ((191 : UInt8) == b) = (UInt8.ofNat 191 == b) from rfl, show ((189 : UInt8) == c) = (UInt8.ofNat 189 == c) from rfl, h1, h2, h3]
    simp [byteAt]

set_option maxRecDepth 100000 in
set_option maxHeartbeats 2000000 in
theorem firstWrong_calls (bs : List UInt8) (w : World) (hl : (bs.length : Int) ≤ 140737488355328) :
    Calls Tryz.prog 110 #[.string ⟨bs.toArray⟩] w fun e w' => e = .returned (.int .i64 (fw bs)) ∧ Below w.heap.size w w' := by
  have hsz := byteArr_size bs
  go_enter Tryz.func110, Tryz.ntmps110
  go_wp2
  go_loopw [] (fun w' => ∃ (k f : Nat), w' = w.iter ⟨bs.toArray⟩ k ∧ k ≤ bs.length ∧ bs.length < k + f ∧ Hid (fw bs = fwF bs f k)) (fun w' => bs.length - w'.iterPos w.heap.size)
  case atStart => exact ⟨0, bs.length + 1, rfl, by omega, by omega, rfl⟩
  case round =>
    obtain ⟨k, f, rfl, hk, hf, hs⟩ := hrel
    by_cases hlt : k < bs.length
    · have hd0 : 0 < (bs.drop k).length := by simp; omega
      obtain ⟨f', rfl⟩ : ∃ f', f = f' + 1 := ⟨f - 1, by omega⟩
      cases ha : nextAll (bs.drop k) with
      | true =>
        have hdec : Utf8.decode ⟨bs.toArray⟩ k = (runeOf (bs.drop k), nextN (bs.drop k)) := by rw [decode_drop]; exact decode_right _ hd0 ha
        have hnx : ∀ ty, (Instr.next (.pointer (some ⟨w.heap.size, 0, none⟩)) true ty).run Tryz.prog (w.iter ⟨bs.toArray⟩ k) = _ := fun ty => run_next_any w ⟨bs.toArray⟩ k ty (by rw [hsz]; exact hlt)
        rw [hdec] at hnx
        simp only at hnx
        have hs2 : Hid (fw bs = fwF bs f' (k + nextN (bs.drop k))) := hs.out.trans (fwF_on hlt ha)
        have hp1 := nextN_pos (bs.drop k)
        have hp2 := nextN_len (bs.drop k) hd0
        simp only [List.length_drop] at hp2
        by_cases hr : runeOf (bs.drop k) = 65533
        · obtain ⟨a, b, c, d⟩ := right_fffd _ hd0 ha hr
          have hq : ((runeOf (bs.drop k) : Int) == 65533) = true := by rw [hr]; rfl
          have PC : Hid (∀ w, Calls Tryz.prog 131 #[.string ((⟨bs.toArray⟩ : ByteArray).extract k bs.length), .string ⟨#[239, 191, 189]⟩] w fun e w' => e = .returned (.bool true) ∧ w' = w) := fun w => by
            have h := Any.strings_HasPrefix Tryz.lays99 ((⟨bs.toArray⟩ : ByteArray).extract k bs.length) ⟨#[239, 191, 189]⟩ w
            rw [extract_drop, show Lib.hasPrefix (bs.drop k) (⟨#[239, 191, 189]⟩ : ByteArray).data.toList = true by
              show Lib.hasPrefix (bs.drop k) [239, 191, 189] = true
              rw [hasPrefix_fffd]; simp only [decide_eq_true_eq]; exact ⟨d, a, b, c⟩] at h
            exact h
          clear hdec ha hr a b c d hs
          go_wp2_with (go_at_call 131; refine (PC.out _).mono ?_; rintro e w' ⟨rfl, rfl⟩)
          go_roundw
          case rel => exact ⟨k + nextN (bs.drop k), f', rfl, by omega, by omega, hs2⟩
          case measure => simp; omega
        · have hq : ((runeOf (bs.drop k) : Int) == 65533) = false := by simp; omega
          clear hdec ha hr hs
          go_wp2
          go_roundw
          case rel => exact ⟨k + nextN (bs.drop k), f', rfl, by omega, by omega, hs2⟩
          case measure => simp; omega
      | false =>
        have hdec : Utf8.decode ⟨bs.toArray⟩ k = (65533, 1) := by rw [decode_drop]; exact decode_wrong _ hd0 ha
        have hnx : ∀ ty, (Instr.next (.pointer (some ⟨w.heap.size, 0, none⟩)) true ty).run Tryz.prog (w.iter ⟨bs.toArray⟩ k) = _ := fun ty => run_next_any w ⟨bs.toArray⟩ k ty (by rw [hsz]; exact hlt)
        rw [hdec] at hnx
        simp only at hnx
        have hS : Hid (fw bs = k) := hs.out.trans (fwF_hit hlt ha)
        have PC : Hid (∀ w, Calls Tryz.prog 131 #[.string ((⟨bs.toArray⟩ : ByteArray).extract k bs.length), .string ⟨#[239, 191, 189]⟩] w fun e w' => e = .returned (.bool false) ∧ w' = w) := fun w => by
          have h := Any.strings_HasPrefix Tryz.lays99 ((⟨bs.toArray⟩ : ByteArray).extract k bs.length) ⟨#[239, 191, 189]⟩ w
          rw [extract_drop, show Lib.hasPrefix (bs.drop k) (⟨#[239, 191, 189]⟩ : ByteArray).data.toList = false by
            show Lib.hasPrefix (bs.drop k) [239, 191, 189] = false
            rw [hasPrefix_fffd]; simp only [decide_eq_false_iff_not]; rintro ⟨d, a, b, c⟩
            rw [fffd_right _ d a b c] at ha; cases ha] at h
          exact h
        clear hdec ha hs
        go_wp2_with (go_at_call 131; refine (PC.out _).mono ?_; rintro e w' ⟨rfl, rfl⟩)
        go_ret
        exact ⟨by rw [hS.out]; rfl, (Below.refl _ w).alloc (Nat.le_refl _) _⟩
    · have hnx : ∀ ty, (Instr.next (.pointer (some ⟨w.heap.size, 0, none⟩)) true ty).run Tryz.prog (w.iter ⟨bs.toArray⟩ k) = _ := fun ty => run_next_end w ⟨bs.toArray⟩ k ty (by rw [hsz]; exact hlt)
      have hS : Hid (fw bs = bs.length) := hs.out.trans (fwF_end hlt)
      go_wp2
      go_ret
      exact ⟨by rw [hS.out]; rfl, (Below.refl _ w).alloc (Nat.le_refl _) _⟩

set_option maxRecDepth 100000 in
/-- **utf.Valid of any bytes.** -/
theorem valid_calls (v : Value) (bs : List UInt8) (n₀ : Nat) (w : World) (hl : bs.length ≤ 140737488355328) (hH : HasB n₀ w v bs) :
    Calls Tryz.prog 89 #[v] w fun e w' => e = .returned (.bool ((pcs bs).all Pc.ok)) ∧ Below w.heap.size w w' := by
  have h1 := conv_bytes hH
  obtain ⟨a, cap, rfl⟩ : ∃ a cap, v = .slice a bs.length cap := by
    rcases hH with ⟨rfl, a, cap, rfl⟩ | ⟨_, b, off, cap, rfl, _⟩
    · exact ⟨a, cap, rfl⟩
    · exact ⟨_, cap, rfl⟩
  clear hH
  have hd : ((fw bs : Int) == (bs.length : Int)) = (pcs bs).all Pc.ok := by rw [← fw_all, Bool.eq_iff_iff]; simp; omega
  have HD : Hid (((fw bs : Int) == (bs.length : Int)) = (pcs bs).all Pc.ok) := hd
  clear hd
  go_enter Tryz.func89, Tryz.ntmps89
  go_wp2_with (go_at_call 110; refine (firstWrong_calls bs _ (by omega)).mono ?_; rintro e w1 ⟨rfl, hb1⟩)
  go_ret
  exact ⟨ret_bool HD.out, hb1⟩

end Go.Proofs.YtdkcibafbdmajabGreatDoor.U
