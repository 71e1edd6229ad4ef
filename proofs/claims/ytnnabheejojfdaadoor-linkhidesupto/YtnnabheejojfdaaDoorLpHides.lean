/- What is proved here: the statement LinkHides (low bytes at the ends, tabs and line ends anywhere change nothing of a link) holds for texts up to the size that the statement's narrower form names, with no other condition but what the card says of the listed tables. -/
import Derived.Test.YtnnabheejojfdaaDoorCards
import Derived.Test.YtnnabheejojfdaaDoorTie
import Derived.Test.YtnnabheejojfdaaDoorBun10
import Derived.Test.YtnnabheejojfdaaDoorLpAllow
import Derived.Test.YtnnabheejojfdaaDoorBun11
import Derived.Test.YtnnabheejojfdaaDoorBun5
import Derived.Deep.RegionHeld3
import Derived.ProofKit
import Derived.OpenShut
namespace Go.Proofs.YtnnabheejojfdaaDoor.LpHides
open Go.ChangeShapes Go.WideShapes Go.ChangeAt Go.RowKit U N L

theorem cat_text (a b : List UInt8) : (⟨a.toArray⟩ : ByteArray) ++ ⟨b.toArray⟩ = ⟨(a ++ b).toArray⟩ := by
  apply ByteArray.ext
  rw [ByteArray.data_append]
  simp
theorem rem_two (x : Int) (L : Nat) (hL : L ≤ 1048576) : ∃ j : Nat, j ≤ L ∧ (x.tmod ((L : Int) + 1) + (L : Int) + 1).tmod ((L : Int) + 1) = (j : Int) ∧ -(L : Int) ≤ x.tmod ((L : Int) + 1) ∧ x.tmod ((L : Int) + 1) ≤ (L : Int) := by
  have h1 : x.tmod ((L : Int) + 1) < (L : Int) + 1 := Int.tmod_lt_of_pos x (by omega)
  have h2 : -((L : Int) + 1) < x.tmod ((L : Int) + 1) := Int.lt_tmod_of_pos x (by omega)
  generalize x.tmod ((L : Int) + 1) = y at *
  have h3 : 0 ≤ (y + (L : Int) + 1).tmod ((L : Int) + 1) := Int.tmod_nonneg _ (by omega)
  have h4 : (y + (L : Int) + 1).tmod ((L : Int) + 1) < (L : Int) + 1 := Int.tmod_lt_of_pos _ (by omega)
  exact ⟨((y + (L : Int) + 1).tmod ((L : Int) + 1)).toNat, by omega, by omega, by omega, by omega⟩
theorem rem_four (x : Int) : 0 ≤ (wrap64 (x.tmod 4 + 4)).tmod 4 ∧ (wrap64 (x.tmod 4 + 4)).tmod 4 < 4 := by
  have h1 : x.tmod 4 < 4 := Int.tmod_lt_of_pos x (by decide)
  have h2 : -4 < x.tmod 4 := Int.lt_tmod_of_pos x (by decide)
  generalize x.tmod 4 = y at *
  have h3 : wrap64 (y + 4) = y + 4 := by unfold wrap64; omega
  rw [h3, Int.tmod_eq_emod_of_nonneg (by omega)]
  omega
theorem put (q : Nat) (hq : q < 4) : ∃ (P : List UInt8) (p : List Int), (∀ h, ([.string ⟨#[9]⟩, .string ⟨#[10]⟩, .string ⟨#[13]⟩, .string ⟨#[10, 9]⟩] : List Value)[q]'h = .string ⟨P.toArray⟩) ∧ P = encs p ∧ AllV p ∧ (∀ z ∈ p, gapR z = true) ∧ P.length ≤ 2 := by
  have : q = 0 ∨ q = 1 ∨ q = 2 ∨ q = 3 := by omega
  rcases this with rfl | rfl | rfl | rfl
  · exact ⟨[9], [9], fun _ => rfl, by decide +kernel, by unfold AllV; decide +kernel, by decide +kernel, by decide⟩
  · exact ⟨[10], [10], fun _ => rfl, by decide +kernel, by unfold AllV; decide +kernel, by decide +kernel, by decide⟩
  · exact ⟨[13], [13], fun _ => rfl, by decide +kernel, by unfold AllV; decide +kernel, by decide +kernel, by decide⟩
  · exact ⟨[10, 9], [10, 9], fun _ => rfl, by decide +kernel, by unfold AllV; decide +kernel, by decide +kernel, by decide⟩
theorem ends_ok : encs [1, 32] = [1, 32] ∧ encs [31, 32, 0] = [31, 32, 0] ∧ AllV [1, 32] ∧ AllV [31, 32, 0] ∧ (∀ z ∈ ([1, 32] : List Int), lowR z = true) ∧ ∀ z ∈ ([31, 32, 0] : List Int), lowR z = true :=
  ⟨by decide +kernel, by decide +kernel, by unfold AllV; decide +kernel, by unfold AllV; decide +kernel, by decide +kernel, by decide +kernel⟩
theorem AllV.app {a b : List Int} (ha : AllV a) (hb : AllV b) : AllV (a ++ b) := fun z hz => by
  rcases List.mem_append.1 hz with h | h
  · exact ha z h
  · exact hb z h
/-- What is put around and into a text of runes is not seen. -/
theorem hidden (rs p : List Int) (k : Nat) (hV : AllV rs) (hp : AllV p) (hg : ∀ z ∈ p, gapR z = true) : stripL ([1, 32] ++ (encs (rs.take k) ++ (encs p ++ (encs (rs.drop k) ++ [31, 32, 0])))) = stripL (encs rs) := by
  obtain ⟨e1, e2, v1, v2, l1, l2⟩ := ends_ok
  have ht : AllV (rs.take k) := fun z hz => hV z (List.mem_of_mem_take hz)
  have hd : AllV (rs.drop k) := fun z hz => hV z (List.mem_of_mem_drop hz)
  have e : [1, 32] ++ (encs (rs.take k) ++ (encs p ++ (encs (rs.drop k) ++ [31, 32, 0]))) = encs ([1, 32] ++ (rs.take k ++ (p ++ (rs.drop k ++ [31, 32, 0])))) := by
    simp only [encs_app]
    rw [e1, e2]
  rw [e, stripL_encs _ (AllV.app v1 (AllV.app ht (AllV.app hp (AllV.app hd v2)))), strip_hides _ _ _ _ _ l1 hg l2, List.take_append_drop, stripL_encs _ hV]
theorem scheme_open (l : List UInt8) : ∃ s b, schemeV l = .tuple #[.string s, .bool b] := by
  unfold schemeV
  cases colonL l with
  | none => exact ⟨_, _, rfl⟩
  | some n => exact ⟨_, _, rfl⟩
def two : List (List UInt8) := [[104, 116, 116, 112, 115], [109, 97, 105, 108, 116, 111]]
theorem allow_open (l : List UInt8) (r : Bool) : ∃ b, allowV two l r = .tuple #[.bool b, .int .i64 0] := by
  have h : two.all checkOk = true := by decide +kernel
  unfold allowV
  rw [h]
  cases schemeL l with
  | none => exact ⟨_, rfl⟩
  | some s => exact ⟨_, rfl⟩
theorem two_at (w : World) : TextsAt (w.alloc (.cells #[.string ⟨#[104, 116, 116, 112, 115]⟩, .string ⟨#[109, 97, 105, 108, 116, 111]⟩] 9)) (some ⟨w.heap.size, 0, none⟩) two := fun j hj => by
  have h : (w.alloc (.cells #[.string ⟨#[104, 116, 116, 112, 115]⟩, .string ⟨#[109, 97, 105, 108, 116, 111]⟩] 9)).heap[w.heap.size]? = some (.cells #[.string ⟨#[104, 116, 116, 112, 115]⟩, .string ⟨#[109, 97, 105, 108, 116, 111]⟩] 9 (0, 0)) := by show (w.heap.push _)[w.heap.size]? = _; simp
  have hj2 : j < 2 := hj
  refine ⟨_, _, rfl, ?_⟩
  rw [Nat.zero_add, cell_of_row _ _ j _ _ _ h]
  rcases (show j = 0 ∨ j = 1 by omega) with rfl | rfl <;> rfl
theorem bools_at (w : World) : (w.alloc (.cells #[.bool false, .bool true] 4)).cell? ⟨w.heap.size, 0, none⟩ = some (.bool false) ∧ (w.alloc (.cells #[.bool false, .bool true] 4)).cell? ⟨w.heap.size, 1, none⟩ = some (.bool true) := by
  have h : (w.alloc (.cells #[.bool false, .bool true] 4)).heap[w.heap.size]? = some (.cells #[.bool false, .bool true] 4 (0, 0)) := by show (w.heap.push _)[w.heap.size]? = _; simp
  exact ⟨by rw [cell_of_row _ _ 0 _ _ _ h]; rfl, by rw [cell_of_row _ _ 1 _ _ _ h]; rfl⟩
theorem slice_back (B n cap k : Nat) (hk : k ≤ n) (hc : n ≤ cap) : ∃ a1, (∀ W, (Instr.slice 23 (.slice (some ⟨B, 0, none⟩) n cap) (some (.int .i64 k)) none none).run Tryd.prog W = .ok (.slice a1 (n - k) (cap - k)) W) ∧ ∀ W zs, zs.length = n → HasI .i32 W (.slice (some ⟨B, 0, none⟩) n cap) zs → HasI .i32 W (.slice a1 (n - k) (cap - k)) (zs.drop k) := by
  refine ⟨if cap = k then some ⟨B, 0, none⟩ else some ⟨B, k, none⟩, fun W => ?_, fun W zs hz h => ?_⟩
  · have hs : (sizeOf (Tryd.prog.elem 23)).run Tryd.prog W = .ok 1 W := by kernel_rfl
    rw [run_slice_l W _ _ _ _ (by kernel_rfl) _ _ (by omega) (by omega), hs]
    by_cases h0 : k = 0
    · subst h0; simp [Result.andThen, sliced, Addr.add]
    · simp [Result.andThen, sliced, Addr.add, h0]
  · by_cases e : cap = k
    · rw [if_pos e]
      refine .inl ⟨List.eq_nil_of_length_eq_zero (by simp; omega), some ⟨B, 0, none⟩, cap - k, ?_⟩
      rw [show n - k = 0 by omega]
    · rw [if_neg e]
      exact hasI_back h hz.symm k (by omega)
theorem slice_front (B n cap k : Nat) (hk : k ≤ n) (hc : n ≤ cap) : ∀ W, (Instr.slice 23 (.slice (some ⟨B, 0, none⟩) n cap) none (some (.int .i64 k)) none).run Tryd.prog W = .ok (.slice (some ⟨B, 0, none⟩) k cap) W := fun W => by
  have hs : (sizeOf (Tryd.prog.elem 23)).run Tryd.prog W = .ok 1 W := by kernel_rfl
  rw [run_slice_h W _ _ _ _ (by kernel_rfl) _ _ (by omega) (by omega), hs]
  simp [Result.andThen, sliced, Addr.add]
theorem not_gap {c : UInt8} (h : gapC c = false) : ((c.toNat : Int) == 9) = false ∧ ((c.toNat : Int) == 10) = false ∧ ((c.toNat : Int) == 13) = false := by
  unfold gapC at h
  simp only [Bool.or_eq_false_iff] at h
  have e1 : ((c.toNat : Int) == 9) = (c == 9) := L.eq_byte c 9
  have e2 : ((c.toNat : Int) == 10) = (c == 10) := L.eq_byte c 10
  have e3 : ((c.toNat : Int) == 13) = (c == 13) := L.eq_byte c 13
  rw [e1, e2, e3]
  exact ⟨h.1.1, h.1.2, h.2⟩
set_option maxRecDepth 100000 in
set_option maxHeartbeats 4000000 in
theorem walk_on (w : World) (hT : Tb w ∧ Nev w) (bs : List UInt8) (hb : bs.length ≤ 1048576) (x y : Int) (_hx : (Lit.int .i64 x).wf = true) (_hy : (Lit.int .i64 y).wf = true) : Calls Tryd.prog 3 #[.string ⟨bs.toArray⟩, .int .i64 x, .int .i64 y] w fun e w' => e = .returned (.bool true) ∧ Below w.heap.size w w' := by
  obtain ⟨hT, hN⟩ := hT
  have HL : Hid (∀ W, Below w.heap.size w W → Calls Tryd.prog 13 #[] W fun e w' => e = .returned (.bool true) ∧ Below W.heap.size W w') := fun W h => awake_calls W (hT.below h)
  have HM : Hid (Calls Tryd.prog 7 #[.string ⟨bs.toArray⟩] w fun e W' => e = .returned (.string ⟨(encs (runesI bs)).toArray⟩) ∧ Below w.heap.size w W') := R.rmend_calls bs w (by omega)
  have hV := runesI_valid bs
  have hrl : (runesI bs).length ≤ 1048576 := by rw [runesI_length]; have := pcs_length bs; omega
  have hel : (encs (runesI bs)).length ≤ 4194304 := by have := mend_le bs; unfold mendL at this; omega
  obtain ⟨rs, hrs⟩ : ∃ rs, runesI bs = rs := ⟨_, rfl⟩
  rw [hrs] at HM hV hrl hel
  clear hrs hb
  obtain ⟨k, hk, hkk, hm1, hm2⟩ := rem_two x rs.length hrl
  obtain ⟨q, hq⟩ : ∃ q : Nat, (wrap64 (y.tmod 4 + 4)).tmod 4 = (q : Int) := ⟨_, (Int.toNat_of_nonneg (rem_four y).1).symm⟩
  have hq4 : q < 4 := by have := (rem_four y).2; omega
  obtain ⟨P, p, hP, hPe, hPv, hPg, hPl⟩ := put q hq4
  have HH := hid_of (hidden rs p k hV hPv hPg)
  rw [← hPe] at HH
  obtain ⟨gc, more, hgc, hcv⟩ := conv_to_runes rs hV (by omega)
  have HGC := hid_of hgc
  clear hgc
  have HV := hid_of hV
  obtain ⟨v, hv⟩ : ∃ v, encs rs = v := ⟨_, rfl⟩
  have hAl : (encs (rs.take k)).length ≤ 4194304 := by have := enc_take_le rs k; omega
  have hBl : (encs (rs.drop k)).length ≤ 4194304 := by
    have e := congrArg List.length (encs_app (rs.take k) (rs.drop k))
    rw [List.take_append_drop, List.length_append] at e
    omega
  obtain ⟨A, hA⟩ : ∃ A, encs (rs.take k) = A := ⟨_, rfl⟩
  obtain ⟨Bx, hBx⟩ : ∃ Bx, encs (rs.drop k) = Bx := ⟨_, rfl⟩
  rw [hA, hBx, hv] at HH
  rw [hA] at hAl
  rw [hBx] at hBl
  rw [hv] at HM hcv hel
  have HA := hid_of hA
  have HBX := hid_of hBx
  obtain ⟨S, hS⟩ : ∃ S, stripL v = S := ⟨_, rfl⟩
  have HS1 : Hid (∀ W, Below w.heap.size w W → Calls Tryd.prog 8 #[.string ⟨v.toArray⟩] W fun e W' => e = .returned (.string ⟨S.toArray⟩) ∧ Below W.heap.size W W') := fun W h => by
    have := strip_calls v W (hT.below h) (by omega)
    rw [hS] at this; exact this
  have HPL : Hid (∀ j, j < S.length → gapC (S.getD j 0) = false) := fun j hj => by
    have e : S.getD j 0 = S[j] := by simp [hj]
    rw [e]
    have hm := List.getElem_mem hj
    generalize S[j] = c at hm
    rw [← hS] at hm
    exact stripL_plain v _ hm
  have hSl : S.length ≤ 16777216 := by rw [← hS]; have := stripL_le v; omega
  rw [hS] at HH
  obtain ⟨W1, hW1⟩ : ∃ W1, [1, 32] ++ A = W1 := ⟨_, rfl⟩
  obtain ⟨W2, hW2⟩ : ∃ W2, W1 ++ P = W2 := ⟨_, rfl⟩
  obtain ⟨W3, hW3⟩ : ∃ W3, W2 ++ Bx = W3 := ⟨_, rfl⟩
  obtain ⟨W4, hW4⟩ : ∃ W4, W3 ++ [31, 32, 0] = W4 := ⟨_, rfl⟩
  have eW : [1, 32] ++ (A ++ (P ++ (Bx ++ [31, 32, 0]))) = W4 := by
    rw [← hW4, ← hW3, ← hW2, ← hW1]; simp only [List.append_assoc]
  rw [eW] at HH
  have l1 : W1.length = A.length + 2 := by rw [← hW1]; simp
  have l2 : W2.length = A.length + 2 + P.length := by rw [← hW2]; simp; omega
  have l3 : W3.length = A.length + 2 + P.length + Bx.length := by rw [← hW3]; simp; omega
  have l4 : W4.length = A.length + 5 + P.length + Bx.length := by rw [← hW4]; simp; omega
  have cc1 : (⟨#[1, 32]⟩ : ByteArray) ++ ⟨A.toArray⟩ = ⟨W1.toArray⟩ := by rw [← hW1]; exact cat_text [1, 32] A
  have cc2 : (⟨W1.toArray⟩ : ByteArray) ++ ⟨P.toArray⟩ = ⟨W2.toArray⟩ := by rw [← hW2]; exact cat_text W1 P
  have cc3 : (⟨W2.toArray⟩ : ByteArray) ++ ⟨Bx.toArray⟩ = ⟨W3.toArray⟩ := by rw [← hW3]; exact cat_text W2 Bx
  have cc4 : (⟨W3.toArray⟩ : ByteArray) ++ ⟨#[31, 32, 0]⟩ = ⟨W4.toArray⟩ := by rw [← hW4]; exact cat_text W3 [31, 32, 0]
  clear hW1 hW2 hW3 hW4 eW hA hBx hv
  have h4l : W4.length ≤ 10000000 := by omega
  have HS2 : Hid (∀ W, Below w.heap.size w W → Calls Tryd.prog 8 #[.string ⟨W4.toArray⟩] W fun e W' => e = .returned (.string ⟨S.toArray⟩) ∧ Below W.heap.size W W') := fun W h => by
    have := strip_calls W4 W (hT.below h) (by omega)
    rw [HH.out] at this; exact this
  obtain ⟨sc, sb, hsc⟩ := scheme_open S
  have HC1 : Hid (∀ W, Below w.heap.size w W → Calls Tryd.prog 9 #[.string ⟨v.toArray⟩] W fun e W' => e = .returned (.tuple #[.string sc, .bool sb]) ∧ Below W.heap.size W W') := fun W h => by
    have := scheme_calls v W (hT.below h) (by omega)
    rw [hS, hsc] at this; exact this
  have HC2 : Hid (∀ W, Below w.heap.size w W → Calls Tryd.prog 9 #[.string ⟨W4.toArray⟩] W fun e W' => e = .returned (.tuple #[.string sc, .bool sb]) ∧ Below W.heap.size W W') := fun W h => by
    have := scheme_calls W4 W (hT.below h) (by omega)
    rw [HH.out, hsc] at this; exact this
  obtain ⟨K, hK⟩ : ∃ K : Nat, kindL S = K := ⟨_, rfl⟩
  have HK1 : Hid (∀ W, Below w.heap.size w W → Calls Tryd.prog 12 #[.string ⟨v.toArray⟩] W fun e W' => e = .returned (.int .i64 K) ∧ Below W.heap.size W W') := fun W h => by
    have := kind_calls v W (hT.below h) (by omega)
    rw [hS, hK] at this; exact this
  have HK2 : Hid (∀ W, Below w.heap.size w W → Calls Tryd.prog 12 #[.string ⟨W4.toArray⟩] W fun e W' => e = .returned (.int .i64 K) ∧ Below W.heap.size W W') := fun W h => by
    have := kind_calls W4 W (hT.below h) (by omega)
    rw [HH.out, hK] at this; exact this
  have HAO : Hid (∀ r, ∃ b, ∀ W g, Below w.heap.size w W → TextsAt W (some ⟨g, 0, none⟩) two → (Calls Tryd.prog 10 #[.string ⟨v.toArray⟩, .slice (some ⟨g, 0, none⟩) 2 2, .bool r] W fun e W' => e = .returned (.tuple #[.bool b, .int .i64 0]) ∧ Below W.heap.size W W') ∧ Calls Tryd.prog 10 #[.string ⟨W4.toArray⟩, .slice (some ⟨g, 0, none⟩) 2 2, .bool r] W fun e W' => e = .returned (.tuple #[.bool b, .int .i64 0]) ∧ Below W.heap.size W W') := fun r => by
    obtain ⟨b, hb⟩ := allow_open S r
    refine ⟨b, fun W g h ht => ?_⟩
    have hxx : ∀ x ∈ two, x.length ≤ 1000000000 := by decide
    have h1 := allowed_calls v two (some ⟨g, 0, none⟩) 2 r W (hT.below h) (hN.below h) ht (by omega) (by decide) (by decide) hxx
    have h2 := allowed_calls W4 two (some ⟨g, 0, none⟩) 2 r W (hT.below h) (hN.below h) ht (by omega) (by decide) (by decide) hxx
    rw [hS, hb] at h1
    rw [HH.out, hb] at h2
    exact ⟨h1, h2⟩
  clear hS hsc hK hT hN HH hPe hPv hPg hV
  have sS := L.arr_size S
  have hwa : IntKind.i64.wrap ((rs.length : Int) + 1) = (rs.length : Int) + 1 := by rw [IntKind.wrap_i64]; omega
  have hwb : IntKind.i64.wrap (x.tmod ((rs.length : Int) + 1) + (rs.length : Int)) = x.tmod ((rs.length : Int) + 1) + (rs.length : Int) := by rw [IntKind.wrap_i64]; omega
  have hwc : IntKind.i64.wrap (x.tmod ((rs.length : Int) + 1) + (rs.length : Int) + 1) = x.tmod ((rs.length : Int) + 1) + (rs.length : Int) + 1 := by rw [IntKind.wrap_i64]; omega
  go_enter Tryd.func3, Tryd.ntmps3
  go_wp2_with fail
  (go_at_call 7; refine HM.out.mono ?_; rintro e w1 ⟨rfl, b1⟩)
  go_wp2_with fail
  (go_at_call 8; refine (HS1.out _ b1).mono ?_; rintro e w2 ⟨rfl, h2⟩)
  have b2 := b1.trans (h2.mono b1.size)
  clear b1 h2
  go_wp2_with fail
  go_loopw [30] (fun vi wr => ∃ k : Nat, k ≤ S.length ∧ vi = .int .i64 k ∧ wr = w2) (fun vi _ => S.length - (intOf vi).toNat)
  case atStart => exact ⟨0, by omega, rfl, by trivial⟩
  case round =>
    obtain ⟨i, hi, rfl, hwr⟩ := hrel
    obtain rfl : w2 = wr := hwr.symm
    clear hwr
    by_cases hlt : i < S.length
    · obtain ⟨c, hc⟩ : ∃ c, S.getD i 0 = c := ⟨_, rfl⟩
      have hix := L.byte_at S i c hlt hc (i : Int) rfl
      have ha := HPL.out i hlt
      rw [hc] at ha
      obtain ⟨e9, e10, e13⟩ := not_gap ha
      clear hc ha
      go_wp2
      exact ⟨⟨i + 1, by omega, by go_num, by trivial⟩, by simp [intOf]; omega⟩
    · obtain rfl : i = S.length := by omega
      go_wp2_with fail
      have z2 := b2.size
      have HI0 := hid_of (conv_has (HGC.out w2) (W := w2.alloc (.cells ((rs.map (Value.int .i32)).toArray ++ more w2) 21)) (B := w2.heap.size) (zs := rs) (more := more w2) (by show (w2.heap.push _)[w2.heap.size]? = _; simp))
      have hB2' := (Below.refl _ (w2.alloc (.cells ((rs.map (Value.int .i32)).toArray ++ more w2) 21))).alloc (Nat.le_refl _) (.cells #[.string ⟨#[9]⟩, .string ⟨#[10]⟩, .string ⟨#[13]⟩, .string ⟨#[10, 9]⟩] 9)
      have HI3 := hid_of (HI0.out.below hB2'.drew)
      have HB3 := hid_of ((b2.alloc z2 (.cells ((rs.map (Value.int .i32)).toArray ++ more w2) 21)).trans (hB2'.drew.mono (by show _ ≤ (w2.heap.push _).size; rw [Array.size_push]; omega)))
      have hcap := HGC.out w2
      clear HI0 hB2' HGC hcv
      generalize ((w2.alloc (.cells ((rs.map (Value.int .i32)).toArray ++ more w2) 21)).alloc (.cells #[.string ⟨#[9]⟩, .string ⟨#[10]⟩, .string ⟨#[13]⟩, .string ⟨#[10, 9]⟩] 9)).drew = w3 at HI3 HB3 ⊢
      generalize w2.heap.size = g at HI3 ⊢
      generalize gc w2 = cap at HI3 hcap ⊢
      have hsf := slice_front g rs.length cap k hk hcap
      obtain ⟨a1, hsb, hsh⟩ := slice_back g rs.length cap k hk hcap
      have HCV : Hid (∀ W, Below w3.heap.size w3 W → (convert 23 9 (.slice (some ⟨g, 0, none⟩) k cap)).run Tryd.prog W = .ok (.string ⟨A.toArray⟩) W ∧ (convert 23 9 (.slice a1 (rs.length - k) (cap - k))).run Tryd.prog W = .ok (.string ⟨Bx.toArray⟩) W) := fun W hW => by
        have h1 := conv_runes (hasI_front (HI3.out.below hW) k hk)
        have h2 := conv_runes (hsh W rs rfl (HI3.out.below hW))
        rw [HA.out] at h1
        rw [HBX.out] at h2
        exact ⟨h1, h2⟩
      have hcvA := HCV.out w3.drew (Below.refl _ _).drew
      clear hsh hwa hwb hwc hkk hm1 hm2 hq hP
      have g1 : ¬ 9223372036854775807 < 2 + A.length := by omega
      have g2 : ¬ 9223372036854775807 < W1.length + P.length := by omega
      have g3 : ¬ 9223372036854775807 < W2.length + Bx.length := by omega
      have g4 : ¬ 9223372036854775807 < W3.length + 3 := by omega
      clear l1 l2 l3 l4
      go_region_held3 (fun w' => (convert 23 9 (.slice (some ⟨g, 0, none⟩) k cap)).run Tryd.prog w' = .ok (.string ⟨A.toArray⟩) w' ∧ (convert 23 9 (.slice a1 (rs.length - k) (cap - k))).run Tryd.prog w' = .ok (.string ⟨Bx.toArray⟩) w') (exact hcvA) (fail)
      clear g1 g2 g3 g4 cc1 cc2 cc3 cc4 hsf hsb hcvA HCV
      have b3 := HB3.out.drew
      go_wp2_with fail
      (go_at_call 9; refine (HC1.out _ b3).mono ?_; rintro e w4 ⟨rfl, h4⟩)
      have b4 := b3.trans (h4.mono b3.size)
      clear h4
      go_wp2_with fail
      (go_at_call 9; refine (HC2.out _ b4).mono ?_; rintro e w5 ⟨rfl, h5⟩)
      have b5 := b4.trans (h5.mono b4.size)
      clear h5
      go_wp2_with fail
      have z5 := b5.size
      have hb6 := (Below.refl _ (w5.alloc (.cells #[.string ⟨#[104, 116, 116, 112, 115]⟩, .string ⟨#[109, 97, 105, 108, 116, 111]⟩] 9))).alloc (Nat.le_refl _) (.cells #[.bool false, .bool true] 4)
      have HTA := hid_of ((two_at w5).below hb6)
      have HB6 := hid_of ((b5.alloc z5 (.cells #[.string ⟨#[104, 116, 116, 112, 115]⟩, .string ⟨#[109, 97, 105, 108, 116, 111]⟩] 9)).trans (hb6.mono (by show _ ≤ (w5.heap.push _).size; rw [Array.size_push]; omega)))
      have HC6 := hid_of (bools_at (w5.alloc (.cells #[.string ⟨#[104, 116, 116, 112, 115]⟩, .string ⟨#[109, 97, 105, 108, 116, 111]⟩] 9)))
      rw [show (w5.alloc (.cells #[.string ⟨#[104, 116, 116, 112, 115]⟩, .string ⟨#[109, 97, 105, 108, 116, 111]⟩] 9)).heap.size = w5.heap.size + 1 from Array.size_push _] at HC6
      clear hb6
      generalize (w5.alloc (.cells #[.string ⟨#[104, 116, 116, 112, 115]⟩, .string ⟨#[109, 97, 105, 108, 116, 111]⟩] 9)).alloc (.cells #[.bool false, .bool true] 4) = w6 at HTA HB6 HC6 ⊢
      go_loopw [98] (fun vi wr => ∃ i : Nat, i ≤ 2 ∧ vi = .int .i64 i ∧ Hid (Below w6.heap.size w6 wr)) (fun vi _ => 2 - (intOf vi).toNat)
      case atStart => exact ⟨0, by omega, rfl, Below.refl _ _⟩
      case round =>
        obtain ⟨i, hi, rfl, hB⟩ := hrel
        have HBw := hid_of (HB6.out.trans (hB.out.mono HB6.out.size))
        by_cases hlt : i < 2
        · have hj : ∃ r : Bool, wr.cell? ⟨w5.heap.size + 1, i, none⟩ = some (.bool r) := by
            rcases (show i = 0 ∨ i = 1 by omega) with rfl | rfl
            · exact ⟨false, (hB.out.cell (p := ⟨w5.heap.size + 1, 0, none⟩) (cell_lt HC6.out.1)).trans HC6.out.1⟩
            · exact ⟨true, (hB.out.cell (p := ⟨w5.heap.size + 1, 1, none⟩) (cell_lt HC6.out.2)).trans HC6.out.2⟩
          obtain ⟨r, hc⟩ := hj
          obtain ⟨ab, hab⟩ := HAO.out r
          have HAB := hid_of hab
          clear hab
          go_wp2_with fail
          (go_at_call 10; refine (HAB.out _ _ HBw.out (HTA.out.below hB.out)).1.mono ?_; rintro e w7 ⟨rfl, h7⟩)
          have HB7 := hid_of (hB.out.trans (h7.mono hB.out.size))
          have HBw7 := hid_of (HB6.out.trans (HB7.out.mono HB6.out.size))
          clear h7
          go_wp2_with fail
          (go_at_call 10; refine (HAB.out _ _ HBw7.out (HTA.out.below HB7.out)).2.mono ?_; rintro e w8 ⟨rfl, h8⟩)
          have HB8 := hid_of (HB7.out.trans (h8.mono HB7.out.size))
          clear h8
          have hne : (ab != ab) = false := by simp
          go_wp2_with fail
          (go_at_call 11; refine (L.num_calls 0 _).mono ?_; rintro e w' ⟨rfl, hx⟩; obtain rfl : w8 = w' := hx.symm)
          go_wp2_with fail
          (go_at_call 11; refine (L.num_calls 0 _).mono ?_; rintro e w' ⟨rfl, hx⟩; obtain rfl : w8 = w' := hx.symm)
          go_wp2_with fail
          exact ⟨⟨i + 1, by omega, by go_num, HB8⟩, by simp [intOf]; omega⟩
        · obtain rfl : i = 2 := by omega
          go_wp2_with fail
          (go_at_call 8; refine (HS2.out _ HBw.out).mono ?_; rintro e w7 ⟨rfl, h7⟩)
          have b7 := HBw.out.trans (h7.mono HBw.out.size)
          clear h7
          go_wp2_with fail
          (go_at_call 12; refine (HK1.out _ b7).mono ?_; rintro e w8 ⟨rfl, h8⟩)
          have b8 := b7.trans (h8.mono b7.size)
          clear h8
          go_wp2_with fail
          (go_at_call 12; refine (HK2.out _ b8).mono ?_; rintro e w9 ⟨rfl, h9⟩)
          have b9 := b8.trans (h9.mono b8.size)
          clear h9
          go_wp2_with fail
          (go_at_call 13; refine (HL.out _ b9).mono ?_; rintro e w10 ⟨rfl, h10⟩)
          go_wp2_with fail
          go_ret
          exact ⟨rfl, b9.trans (h10.mono b9.size)⟩
theorem walk (w : World) (hT : Tb w ∧ Nev w) (s : ByteArray) (_hs0 : s.size ≤ 9223372036854775807) (hs : s.size ≤ 1048576) (x : Int) (wx : (Lit.int .i64 x).wf = true) (y : Int) (wy : (Lit.int .i64 y).wf = true) :
    Calls Tryd.prog 3 #[.string s, .int .i64 x, .int .i64 y] w fun e w' => e = .returned (.bool true) ∧ Below w.heap.size w w' := by
  have h := walk_on w hT s.data.toList (by rw [N.size_data]; exact hs) x y wx wy
  rw [Lib.mk_data] at h
  exact h

set_option maxRecDepth 100000 in
theorem contract (H : Type) (enc : TypeId × Value → H) (W : World) (base : Nat) (args : Array Value) (ds gs : List (DataW H)) (before : List MemPlace)
    (hval : ∀ (j : Nat) t v, Tryd.f3.params[j]? = some t → args[j]? = some v → Value.okWide Tryd.prog W .any base t v)
    (hW : DataW.Whole enc Tryd.prog Tryd.f3.params.toList Rows.linkHidesSpec.vars false W args.toList ds gs before) (hL : laidMetH Tryd.prog Rows.linkHidesUptoRow.laid W) (hk : Rows.uptoSmall H (ds ++ gs) = true) :
    Calls Tryd.prog 3 args W fun e W' => ∃ v, e = .returned v ∧ Rows.linkHidesSpec.post enc Tryd.prog Tryd.f3 false true false false W args v W' := by
  have hW' := hW
  have hlt := hW.lt
  obtain ⟨p, q, hA0, hV, rfl, hfz, hnd⟩ := hW
  have hA : DataW.TrodAll enc Tryd.prog W 0 (fun _ => true) true Tryd.f3.params.toList args.toList ds p := hA0
  rw [Tryd.params3] at hA hval
  obtain ⟨v0, vs0, d0, ds0, p0, q0, hargs, rfl, rfl, h0, r0⟩ := trodAll_cons hA
  obtain ⟨v1, vs1, d1, ds1, p1, q1, rfl, rfl, rfl, h1, r1⟩ := trodAll_cons r0
  obtain ⟨v2, vs2, d2, ds2, p2, q2, rfl, rfl, rfl, h2, r2⟩ := trodAll_cons r1
  obtain ⟨rfl, rfl, rfl⟩ := trodAll_nil r2
  obtain rfl : args = #[v0, v1, v2] := by cases args; simp_all
  obtain ⟨rfl, rfl⟩ := trodVars_none hV
  clear hA0
  simp only [List.append_nil] at hW' hlt hk
  have hbulk := of_decide_eq_true hk
  simp only [Rows.uptoBulkAll] at hbulk
  have h0' := h0
  obtain ⟨s0, rfl, rfl, e0, ws0⟩ := Go.ChangeMaps.open_string Tryd.underlying9 (hval 0 9 v0 rfl rfl) h0
  have h1' := h1
  obtain ⟨x1, rfl, e1, -, w1⟩ := open_int Tryd.underlying3 (hval 1 3 v1 rfl rfl) h1
  have h2' := h2
  obtain ⟨x2, rfl, e2, -, w2⟩ := open_int Tryd.underlying3 (hval 2 3 v2 rfl rfl) h2
  refine (walk W (tabs3_of_laid hL) s0 ws0 (by simp only [L.bulk_str, N.size_data] at hbulk; omega) x1 w1 x2 w2).mono fun e W' ⟨he, hb⟩ => ?_
  subst he
  exact ⟨_, rfl, post_below hW' (fun _ _ _ => trodAll_cons_mk (shut_bool Tryd.underlying4 _) trodAll_mk0) (trodAll_cons_mk (stays (by kernel_rfl) (of_decide_eq_true (by kernel_rfl)) h0' hb (fun x hx => hlt x (by simp [hx]))) (trodAll_cons_mk (stays (by kernel_rfl) (of_decide_eq_true (by kernel_rfl)) h1' hb (fun x hx => hlt x (by simp [hx]))) (trodAll_cons_mk (stays (by kernel_rfl) (of_decide_eq_true (by kernel_rfl)) h2' hb (fun x hx => hlt x (by simp [hx]))) trodAll_mk0))) rfl hb⟩

set_option maxRecDepth 100000 in
theorem laid_met (os : Os) : laidMet Tryd.prog Rows.linkHidesUptoRow.laid ((withTabs3 (World.holding Tryd.prog os ⟨#[], #[], []⟩)).forCall (fun _ _ => 0) ⟨#[], #[Value.string ⟨#[]⟩, Value.int .i64 0, Value.int .i64 0], []⟩).memory :=
  laidMet_of_run' 8 (by kernel_rfl) (by kernel_rfl)
set_option maxRecDepth 100000 in
theorem reads (os : Os) {H : Type} (enc : TypeId × Value → H) : ∃ places, DataW.whole enc Tryd.prog ((withTabs3 (World.holding Tryd.prog os ⟨#[], #[], []⟩)).forCall (fun _ _ => 0) ⟨#[], #[Value.string ⟨#[]⟩, Value.int .i64 0, Value.int .i64 0], []⟩).memory Tryd.f3.params.toList Rows.linkHidesSpec.vars false #[Value.string ⟨#[]⟩, Value.int .i64 0, Value.int .i64 0].toList 8 = some ([.lit (.string []), .lit (.int .i64 0), .lit (.int .i64 0)], [], places) :=
  ⟨[], by kernel_rfl⟩

set_option maxRecDepth 100000 in
theorem lifted (os : Os) (started : os.Started) (H : Type) (enc : TypeId × Value → H) (F : Stop.Interp) :
    ReturnsInHanded {} Tryd.checked os 3 .any ((Rows.OpenSpec.upto Rows.linkHidesSpec).preRow enc Tryd.prog Tryd.f3 Rows.linkHidesUptoRow.domain false Rows.linkHidesUptoRow.laid) (((Rows.OpenSpec.upto Rows.linkHidesSpec).at F).post enc Tryd.prog Tryd.f3 false true false false) := by
  obtain ⟨places, hx⟩ := reads os enc
  refine returnsInHanded_of_row (C := Tryd.checked) (s := Rows.OpenSpec.upto Rows.linkHidesSpec) own started (by kernel_rfl) Tryd.func3
    (witness_row_at (enc := enc) (C := Tryd.checked) false (withTabs3 (World.holding Tryd.prog os ⟨#[], #[], []⟩)) #[Value.string ⟨#[]⟩, Value.int .i64 0, Value.int .i64 0] rfl (by kernel_rfl) (by kernel_rfl) (by kernel_rfl)
      (OpenSpec.preRow_of_cond 8 hx (by kernel_rfl) (fun k hk => by cases hk; kernel_rfl) (by kernel_rfl) (laid_met os))) ?_
  intro W base args ds gs before hval hW _ hcond _ hL _ _
  exact contract H enc W base args ds gs before hval hW hL (hcond _ rfl)

set_option maxRecDepth 100000 in
theorem said : Rows.LinkHidesUptoSaid :=
  OpenClaim.holds_of_cond 3 Tryd.f3 rfl rfl rfl rfl rfl rfl rfl ⟨rfl, rfl, rfl, rfl, rfl⟩ rfl rfl rfl rfl rfl (by kernel_rfl) Tryd.func3 (by kernel_rfl)
    (of_decide_eq_true (by kernel_rfl)) (by unfold Func.isWrapper; first | (rw [if_pos (by decide +kernel)]; kernel_rfl) | (rw [if_neg (by decide +kernel)]; exact ⟨rfl, rfl⟩))
    (fun os started H enc _ F => by rw [OpenClaim.pre_eq_preRow]; exact lifted os started H enc F)

theorem plain (f : FuncId) (fn : Func) (hf : Tryd.pinned.checked.prog.funcNamed "sieve/sievelaw12.LinkHides" = some f) (hfn : Tryd.pinned.checked.prog.funcs[f]? = some fn) :
    false = Tryd.pinned.checked.prog.looks [] ∧ ∀ (j : Nat) t, fn.params[j]? = some t → Tryd.pinned.checked.prog.wantsStandIn t = false := by
  obtain rfl : f = 3 := Option.some.inj ((show Tryd.prog.funcNamed "sieve/sievelaw12.LinkHides" = some 3 by kernel_rfl).symm.trans hf) |>.symm
  obtain rfl : fn = Tryd.f3 := (Option.some.inj (Tryd.func3.symm.trans hfn)).symm
  refine ⟨by kernel_rfl, fun j t ht => ?_⟩
  rw [Tryd.params3] at ht
  have hm := Array.mem_of_getElem? ht
  simp only [List.mem_toArray, List.mem_cons, List.not_mem_nil, or_false] at hm
  rcases hm with rfl | rfl | rfl
  · exact (show Tryd.prog.wantsStandIn 9 = false by kernel_rfl)
  · exact (show Tryd.prog.wantsStandIn 3 = false by kernel_rfl)
  · exact (show Tryd.prog.wantsStandIn 3 = false by kernel_rfl)

theorem card : Rows.LinkHidesUptoCardSaid :=
  Claim7.holds_tied_plain_at .later [] _ _ _ _ said (fun _ h => by cases h) (by kernel_rfl) (fun _ h => by cases h) linkHidesUpto_row_tie rfl ⟨rfl, rfl⟩ (by kernel_rfl) rfl plain (by kernel_rfl)

end Go.Proofs.YtnnabheejojfdaaDoor.LpHides
