/- What is proved here: contracts of what writes runes as bytes: utf.Bytes, sieveref01.Char, Width, bytesOf and Bytes, and the comparison of two byte slices. -/
import Derived.Laws.Cover4
import Derived.Laws.IdiomStrings
import Derived.Lib.BufferRead
import Derived.Lib.ConvBytes
import Derived.Test.YthbmlffhcppcaaaDoorClone
import Derived.Test.YthbmlffhcppcaaaDoorGood
namespace Go.Proofs.YthbmlffhcppcaaaDoor.U
open Go.RowKit Go.Shelf

/-- A rune's bytes; the bytes of runes. -/
def enc (r : Int) : List UInt8 := (Utf8.encode r).data.toList
def encs (zs : List Int) : List UInt8 := zs.flatMap enc
theorem foldl_enc (zs : List Int) : ∀ s : ByteArray, (zs.foldl (fun r n => r ++ Utf8.encode n) s).data.toList = s.data.toList ++ encs zs := by
  induction zs with
  | nil => intro s; simp [encs]
  | cons z zs ih => intro s; simp only [List.foldl_cons]; rw [ih]; simp [encs, enc, ByteArray.data_append]
theorem runesBytes_data (zs : List Int) : (runesBytes zs).data.toList = encs zs := by
  unfold runesBytes; rw [foldl_enc]; rfl
theorem runesBytes_eq (zs : List Int) : runesBytes zs = ⟨(encs zs).toArray⟩ := by
  rw [← runesBytes_data]
theorem enc_length (r : Int) : (enc r).length ≤ 4 := encode_size_le r
theorem encs_length (zs : List Int) : (encs zs).length ≤ 4 * zs.length := by
  induction zs with
  | nil => simp [encs]
  | cons z zs ih => have := enc_length z; simp only [encs, List.flatMap_cons, List.length_append, List.length_cons] at ih ⊢; omega
theorem add_none (b off j : Nat) : (⟨b, off, none⟩ : Addr).add j = ⟨b, off + j, none⟩ := by unfold Addr.add; split <;> simp_all

/-- 'string(b)' of bytes in memory. -/
theorem conv_bytes {w : World} {v : Value} {bs : List UInt8} {n₀ : Nat} (h : HasB n₀ w v bs) : (convert 60 9 v).run Tryd.prog w = .ok (.string ⟨bs.toArray⟩) w := by
  rcases h with ⟨rfl, a, cap, rfl⟩ | ⟨hp, b, off, cap, rfl, hcap, _, hx⟩
  · cases a with
    | none => exact Lib.run_convert_nil_bytes w _ _ 5 cap Tryd.underlying60 Tryd.underlying5 Tryd.underlying9
    | some ad => exact run_convert_bytes_back w _ _ 5 ad cap [] Tryd.underlying60 Tryd.underlying5 Tryd.underlying9 (fun j hj => by simp at hj)
  · exact run_convert_bytes_back w _ _ 5 ⟨b, off, none⟩ cap bs Tryd.underlying60 Tryd.underlying5 Tryd.underlying9 (fun j hj => by rw [add_none, hx j hj]; simp [byteAt, hj])

theorem RowB.hasB0 {g n cap : Nat} {bs : List UInt8} {w : World} (hn : n = bs.length) (h : RowB g n (byteAt bs) w) (hcap : n ≤ cap) (n₀ : Nat) (hg : g < n₀) : HasB n₀ w (.slice (some ⟨g, 0, none⟩) n cap) bs := by
  subst hn
  by_cases h0 : bs.length = 0
  · have e := List.length_eq_zero_iff.1 h0
    subst e; exact .inl ⟨rfl, _, _, rfl⟩
  · exact .inr ⟨by omega, g, 0, cap, rfl, hcap, hg, fun j hj => by rw [Nat.zero_add]; exact h.1 j hj⟩
/-- Behind '[]byte(s)': new memory that holds the bytes. -/
theorem bytesWorld_below (w : World) (e : TypeId) (s : ByteArray) : Below w.heap.size w (Lib.bytesWorld w e s) :=
  ⟨rfl, rfl, rfl, by rw [Lib.bytesWorld_size]; omega, fun k hk => Lib.bytesWorld_at_old w e s k hk⟩
theorem bytesWorld_row (w : World) (e : TypeId) (bs : List UInt8) : RowB w.heap.size bs.length (byteAt bs) (Lib.bytesWorld w e ⟨bs.toArray⟩) := by
  refine ⟨fun j hj => ?_, fun j hj => ?_⟩
  · rw [Lib.bytesWorld_cell w e ⟨bs.toArray⟩ j (by simpa [ByteArray.size] using hj)]
    simp [byteAt, hj, List.getD]
  · have h := Lib.bytesWorld_at_new w e ⟨bs.toArray⟩
    have hz : bs.length ≤ (Lib.bytesCells w e ⟨bs.toArray⟩).size := by simp [Lib.bytesCells]
    simp only [World.frozen?, h]
    simp; omega

theorem bytes_beq (xs ys : List UInt8) : (xs == ys) = decide (xs = ys) := by
  rw [Bool.eq_iff_iff]; simp
theorem enc_wrong {r : Int} (h : Utf8.valid r = false) : enc r = [239, 191, 189] := by
  unfold enc Utf8.encode; simp only [h, Bool.false_eq_true, if_false]; decide
theorem enc_one {r : Int} (h0 : 0 ≤ r) (h : r < 128) : enc r = [UInt8.ofNat r.toNat] := by
  have hv : Utf8.valid r = true := by simp [Utf8.valid]; omega
  unfold enc Utf8.encode; simp only [hv, if_true]; rw [if_pos (by omega)]
theorem enc_two {r : Int} (h0 : 128 ≤ r) (h : r < 2048) : enc r = [UInt8.ofNat (192 + r.toNat / 64), UInt8.ofNat (128 + r.toNat % 64)] := by
  have hv : Utf8.valid r = true := by simp [Utf8.valid]; omega
  unfold enc Utf8.encode; simp only [hv, if_true]; rw [if_neg (by omega), if_pos (by omega)]
theorem enc_three {r : Int} (hv : Utf8.valid r = true) (h0 : 2048 ≤ r) (h : r < 65536) : enc r = [UInt8.ofNat (224 + r.toNat / 4096), UInt8.ofNat (128 + r.toNat / 64 % 64), UInt8.ofNat (128 + r.toNat % 64)] := by
  unfold enc Utf8.encode; simp only [hv, if_true]; rw [if_neg (by omega), if_neg (by omega), if_pos (by omega)]
theorem enc_four {r : Int} (hv : Utf8.valid r = true) (h0 : 65536 ≤ r) : enc r = [UInt8.ofNat (240 + r.toNat / 262144), UInt8.ofNat (128 + r.toNat / 4096 % 64), UInt8.ofNat (128 + r.toNat / 64 % 64), UInt8.ofNat (128 + r.toNat % 64)] := by
  unfold enc Utf8.encode; simp only [hv, if_true]; rw [if_neg (by omega), if_neg (by omega), if_neg (by omega)]
theorem valid_bounds {r : Int} (h : Utf8.valid r = true) : 0 ≤ r ∧ r ≤ 1114111 := by simp [Utf8.valid] at h; omega

/-- What new memory holds the bytes of one rune. -/
def NewB (w : World) (bs : List UInt8) (W' : World) : Prop := Below w.heap.size w W' ∧ ∀ j u, (bvs bs)[j]? = some u → W'.cell? ((⟨w.heap.size, 0, none⟩ : Addr).add j) = some u
theorem newB_alloc (w : World) (bs : List UInt8) (c : Array Value) (t : TypeId) (h : c = (bvs bs).toArray) : NewB w bs (w.alloc (.cells c t)) := by
  refine ⟨(Below.refl _ w).alloc (Nat.le_refl _) _, fun j u hj => ?_⟩
  have hb := World.alloc_heap_new w (.cells c t)
  rw [add_none, Nat.zero_add]
  simp only [World.cell?, hb]
  rw [h]; simpa using hj
theorem u8_val {n : Nat} {a : Int} (h : n < 256) (e : a = (n : Int)) : Value.int .u8 a = .int .u8 ((UInt8.ofNat n).toNat : Int) := by rw [e]; simp; omega
theorem bvs1 {a : Int} {m : Nat} (h : m < 256 ∧ a = (m : Int)) : #[Value.int .u8 a] = (bvs [UInt8.ofNat m]).toArray := by rw [u8_val h.1 h.2]; rfl
theorem bvs2 {a b : Int} {m n : Nat} (h : m < 256 ∧ a = (m : Int)) (k : n < 256 ∧ b = (n : Int)) : #[Value.int .u8 a, .int .u8 b] = (bvs [UInt8.ofNat m, UInt8.ofNat n]).toArray := by rw [u8_val h.1 h.2, u8_val k.1 k.2]; rfl
theorem bvs3 {a b c : Int} {m n o : Nat} (h : m < 256 ∧ a = (m : Int)) (k : n < 256 ∧ b = (n : Int)) (l : o < 256 ∧ c = (o : Int)) : #[Value.int .u8 a, .int .u8 b, .int .u8 c] = (bvs [UInt8.ofNat m, UInt8.ofNat n, UInt8.ofNat o]).toArray := by rw [u8_val h.1 h.2, u8_val k.1 k.2, u8_val l.1 l.2]; rfl
theorem bvs4 {a b c d : Int} {m n o p : Nat} (h : m < 256 ∧ a = (m : Int)) (k : n < 256 ∧ b = (n : Int)) (l : o < 256 ∧ c = (o : Int)) (q : p < 256 ∧ d = (p : Int)) : #[Value.int .u8 a, .int .u8 b, .int .u8 c, .int .u8 d] = (bvs [UInt8.ofNat m, UInt8.ofNat n, UInt8.ofNat o, UInt8.ofNat p]).toArray := by rw [u8_val h.1 h.2, u8_val k.1 k.2, u8_val l.1 l.2, u8_val q.1 q.2]; rfl

theorem bvs_append (xs ys : List UInt8) : bvs (xs ++ ys) = bvs xs ++ bvs ys := by simp [bvs]
theorem encs_take (zs : List Int) (k : Nat) (h : k < zs.length) : encs (zs.take (k + 1)) = encs (zs.take k) ++ enc (zAt zs k) := by
  have hz : zAt zs k = zs[k] := by simp [zAt, h]
  unfold encs
  rw [List.take_succ_eq_append_getElem h, List.flatMap_append, hz]; simp
end Go.Proofs.YthbmlffhcppcaaaDoor.U
