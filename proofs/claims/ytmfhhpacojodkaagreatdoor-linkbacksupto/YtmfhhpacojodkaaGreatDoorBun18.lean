/- What is proved here: laws and contracts of LpGood, LkEnc, LkGood, LkBkP, one behind the other (each says its own). -/
import Derived.Test.YtmfhhpacojodkaaGreatDoorBun14
import Derived.Lib.QuietBelow
import Derived.BigQuiet
import Derived.Lib.SlBytesConst
import Derived.Test.YtmfhhpacojodkaaGreatDoorBun12
import Derived.Test.YtmfhhpacojodkaaGreatDoorBun16
import Derived.Test.YtmfhhpacojodkaaGreatDoorBun17
/- What is proved here: the contracts of link.goodDesc and of the document's numeral and good. -/
namespace Go.Proofs.YtmfhhpacojodkaaGreatDoor.L
open Go.RowKit Go.Shelf Go.Proofs.YtmfhhpacojodkaaGreatDoor.N Go.Proofs.YtmfhhpacojodkaaGreatDoor.U

theorem dot_calls (f : List UInt8) (w : World) : Calls Tryz.prog 35 #[.string ⟨(46 :: f).toArray⟩, .string ⟨#[46]⟩] w fun e w' => e = .returned (.tuple #[.string ⟨f.toArray⟩, .bool true]) ∧ w' = w :=
  Any.strings_CutPrefix Tryz.lays103 ⟨(46 :: f).toArray⟩ ⟨#[46]⟩ w
theorem nodot_calls (u : List UInt8) (h : ([46] : List UInt8).isPrefixOf u = false) (w : World) : Calls Tryz.prog 35 #[.string ⟨u.toArray⟩, .string ⟨#[46]⟩] w fun e w' => e = .returned (.tuple #[.string ⟨u.toArray⟩, .bool false]) ∧ w' = w := by
  have := Any.strings_CutPrefix Tryz.lays103 ⟨u.toArray⟩ ⟨#[46]⟩ w
  have e : Lib.hasPrefix u [46] = false := h
  simp only [Lib.trimPrefix, e] at this
  exact this
theorem dot_open (u : List UInt8) : ([46].isPrefixOf u = false) ∨ ∃ f, u = 46 :: f ∧ ([46] : List UInt8).isPrefixOf u = true := by
  cases u with
  | nil => exact .inl rfl
  | cons a t =>
    by_cases h : a = 46
    · subst h; exact .inr ⟨t, rfl, by simp [List.isPrefixOf]⟩
    · left; simp [List.isPrefixOf]; exact fun e => h e.symm
set_option maxRecDepth 100000 in
set_option maxHeartbeats 4000000 in
/-- **goodDesc.** -/
theorem goodDesc_calls (d : List UInt8) (w : World) (hl : d.length ≤ 100000000000) : Calls Tryz.prog 22 #[.string ⟨d.toArray⟩] w fun e w' => e = .returned (.bool (goodP d)) ∧ w' = w := by
  cases hd : (d == []) with
  | true =>
    have HV : Hid (goodP d = true) := by show _ = _; unfold goodP; rw [hd]; rfl
    go_enter Tryz.func22, Tryz.ntmps22
    go_wp2_with fail
    go_ret
    exact ⟨by rw [HV.out]; rfl, rfl⟩
  | false =>
    have HN := hid_of (number_calls d w hl)
    have hdl : (d.drop (digitsN d)).length ≤ 100000000000 := by rw [List.length_drop]; omega
    have HV : Hid (goodP d = if numOk d && [46].isPrefixOf (d.drop (digitsN d)) then numOk ((d.drop (digitsN d)).drop 1) && (((d.drop (digitsN d)).drop 1).drop (digitsN ((d.drop (digitsN d)).drop 1)) == [120])
      else numOk d && (d.drop (digitsN d) == [119] || d.drop (digitsN d) == [120])) := by show _ = _; unfold goodP; rw [hd]; rfl
    obtain ⟨u, hu⟩ : ∃ u, d.drop (digitsN d) = u := ⟨_, rfl⟩
    rw [hu] at HN HV hdl
    obtain ⟨ok, hok⟩ : ∃ b, numOk d = b := ⟨_, rfl⟩
    rw [hok] at HN HV
    clear hu hok
    rcases dot_open u with hpf | ⟨f, rfl, hpf⟩
    · have HC := hid_of (nodot_calls u hpf w)
      rw [hpf, Bool.and_false] at HV
      clear hpf
      cases ok with
      | false =>
        have HV2 : Hid (goodP d = false) := by show _ = _; rw [HV.out]; rfl
        clear HV
        go_enter Tryz.func22, Tryz.ntmps22
        go_wp2_with fail
        (go_at_call 53; refine HN.out.mono ?_; rintro e w' ⟨rfl, hx⟩; obtain rfl : w = w' := hx.symm)
        go_wp2_with fail
        (go_at_call 35; refine HC.out.mono ?_; rintro e w' ⟨rfl, hx⟩; obtain rfl : w = w' := hx.symm)
        go_wp2_with fail
        go_ret
        exact ⟨by rw [HV2.out]; rfl, rfl⟩
      | true =>
        have HV2 : Hid (goodP d = (u == [119] || u == [120])) := by show _ = _; rw [HV.out]; rfl
        clear HV
        cases h1 : (u == [119]) with
        | true =>
          rw [h1] at HV2
          go_enter Tryz.func22, Tryz.ntmps22
          go_wp2_with fail
          (go_at_call 53; refine HN.out.mono ?_; rintro e w' ⟨rfl, hx⟩; obtain rfl : w = w' := hx.symm)
          go_wp2_with fail
          (go_at_call 35; refine HC.out.mono ?_; rintro e w' ⟨rfl, hx⟩; obtain rfl : w = w' := hx.symm)
          go_wp2_with fail
          go_ret
          exact ⟨by rw [HV2.out]; rfl, rfl⟩
        | false =>
          rw [h1] at HV2
          cases h2 : (u == [120]) with
          | true =>
            rw [h2] at HV2
            go_enter Tryz.func22, Tryz.ntmps22
            go_wp2_with fail
            (go_at_call 53; refine HN.out.mono ?_; rintro e w' ⟨rfl, hx⟩; obtain rfl : w = w' := hx.symm)
            go_wp2_with fail
            (go_at_call 35; refine HC.out.mono ?_; rintro e w' ⟨rfl, hx⟩; obtain rfl : w = w' := hx.symm)
            go_wp2_with fail
            go_ret
            exact ⟨by rw [HV2.out]; rfl, rfl⟩
          | false =>
            rw [h2] at HV2
            go_enter Tryz.func22, Tryz.ntmps22
            go_wp2_with fail
            (go_at_call 53; refine HN.out.mono ?_; rintro e w' ⟨rfl, hx⟩; obtain rfl : w = w' := hx.symm)
            go_wp2_with fail
            (go_at_call 35; refine HC.out.mono ?_; rintro e w' ⟨rfl, hx⟩; obtain rfl : w = w' := hx.symm)
            go_wp2_with fail
            go_ret
            exact ⟨by rw [HV2.out]; rfl, rfl⟩
    · have HC := hid_of (dot_calls f w)
      rw [hpf, Bool.and_true] at HV
      have hfl : f.length ≤ 100000000000 := by simp at hdl; omega
      have HN2 := hid_of (number_calls f w hfl)
      clear hpf hdl
      cases ok with
      | false =>
        have HV2 : Hid (goodP d = false) := by show _ = _; rw [HV.out]; rfl
        clear HV
        generalize 46 :: f = u at *
        go_enter Tryz.func22, Tryz.ntmps22
        go_wp2_with fail
        (go_at_call 53; refine HN.out.mono ?_; rintro e w' ⟨rfl, hx⟩; obtain rfl : w = w' := hx.symm)
        go_wp2_with fail
        (go_at_call 35; refine HC.out.mono ?_; rintro e w' ⟨rfl, hx⟩; obtain rfl : w = w' := hx.symm)
        go_wp2_with fail
        go_ret
        exact ⟨by rw [HV2.out]; rfl, rfl⟩
      | true =>
        have HV2 : Hid (goodP d = (numOk f && (f.drop (digitsN f) == [120]))) := by show _ = _; rw [HV.out]; rfl
        clear HV
        generalize 46 :: f = u at *
        generalize f.drop (digitsN f) = v at *
        generalize numOk f = ok2 at *
        cases ok2 with
        | false =>
          go_enter Tryz.func22, Tryz.ntmps22
          go_wp2_with fail
          (go_at_call 53; refine HN.out.mono ?_; rintro e w' ⟨rfl, hx⟩; obtain rfl : w = w' := hx.symm)
          go_wp2_with fail
          (go_at_call 35; refine HC.out.mono ?_; rintro e w' ⟨rfl, hx⟩; obtain rfl : w = w' := hx.symm)
          go_wp2_with fail
          (go_at_call 53; refine HN2.out.mono ?_; rintro e w' ⟨rfl, hx⟩; obtain rfl : w = w' := hx.symm)
          go_wp2_with fail
          go_ret
          exact ⟨by rw [HV2.out]; rfl, rfl⟩
        | true =>
          cases h2 : (v == [120]) with
          | true =>
            rw [h2] at HV2
            go_enter Tryz.func22, Tryz.ntmps22
            go_wp2_with fail
            (go_at_call 53; refine HN.out.mono ?_; rintro e w' ⟨rfl, hx⟩; obtain rfl : w = w' := hx.symm)
            go_wp2_with fail
            (go_at_call 35; refine HC.out.mono ?_; rintro e w' ⟨rfl, hx⟩; obtain rfl : w = w' := hx.symm)
            go_wp2_with fail
            (go_at_call 53; refine HN2.out.mono ?_; rintro e w' ⟨rfl, hx⟩; obtain rfl : w = w' := hx.symm)
            go_wp2_with fail
            go_ret
            exact ⟨by rw [HV2.out]; rfl, rfl⟩
          | false =>
            rw [h2] at HV2
            go_enter Tryz.func22, Tryz.ntmps22
            go_wp2_with fail
            (go_at_call 53; refine HN.out.mono ?_; rintro e w' ⟨rfl, hx⟩; obtain rfl : w = w' := hx.symm)
            go_wp2_with fail
            (go_at_call 35; refine HC.out.mono ?_; rintro e w' ⟨rfl, hx⟩; obtain rfl : w = w' := hx.symm)
            go_wp2_with fail
            (go_at_call 53; refine HN2.out.mono ?_; rintro e w' ⟨rfl, hx⟩; obtain rfl : w = w' := hx.symm)
            go_wp2_with fail
            go_ret
            exact ⟨by rw [HV2.out]; rfl, rfl⟩
end Go.Proofs.YtmfhhpacojodkaaGreatDoor.L

/- What is proved here: the document's Encode of layer 12. -/
namespace Go.Proofs.YtmfhhpacojodkaaGreatDoor.L
open Go.RowKit Go.Shelf Go.Proofs.YtmfhhpacojodkaaGreatDoor.N Go.Proofs.YtmfhhpacojodkaaGreatDoor.U

theorem mark_cells (w : World) (t : TypeId) : ∀ j, j < 9 → (w.alloc (.cells (marks.map fun c => Value.int .u8 (c.toNat : Int)).toArray t (9, 10))).cell? ⟨w.heap.size, j, none⟩ = some (.int .u8 ((marks.getD j 0).toNat : Int)) := fun j hj => by
  rw [cell_of_row _ _ _ _ _ _ (World.alloc_heap_new w _)]
  match j, hj with
  | 0, _ => rfl
  | 1, _ => rfl
  | 2, _ => rfl
  | 3, _ => rfl
  | 4, _ => rfl
  | 5, _ => rfl
  | 6, _ => rfl
  | 7, _ => rfl
  | 8, _ => rfl
  | (n + 9), h => exact absurd h (by omega)
theorem mark_step (c : UInt8) (j : Nat) (hj : j < 9) : (marks.take (j + 1)).contains c = ((marks.take j).contains c || c == marks.getD j 0) := by
  have hb : ∀ z : UInt8, (c == z) = decide (c = z) := fun z => by by_cases h : c = z <;> simp [h]
  match j, hj with
  | 0, _ => simp [marks, hb]
  | 1, _ => simp [marks, hb]
  | 2, _ => simp [marks, Bool.or_assoc, hb]
  | 3, _ => simp [marks, Bool.or_assoc, hb]
  | 4, _ => simp [marks, Bool.or_assoc, hb]
  | 5, _ => simp [marks, Bool.or_assoc, hb]
  | 6, _ => simp [marks, Bool.or_assoc, hb]
  | 7, _ => simp [marks, Bool.or_assoc, hb]
  | 8, _ => simp [marks, Bool.or_assoc, hb]
  | (n + 9), h => exact absurd h (by omega)
theorem enc_byte (c : UInt8) (h : c.toNat < 128) : enc (c.toNat : Int) = [c] := by
  have h1 : (0 : Int) ≤ (c.toNat : Int) := Int.natCast_nonneg _
  have h2 : (c.toNat : Int) < 128 := by omega
  rw [enc_one h1 h2, Int.toNat_natCast, UInt8.ofNat_toNat]
theorem enc_is (r : Int) (c : UInt8) (h : enc r = [c]) : Utf8.encode r = ⟨[c].toArray⟩ := by
  unfold enc at h
  exact bytes_ext h
theorem conv_byte (c : UInt8) (h : c.toNat < 128) : Utf8.encode (c.toNat : Int) = ⟨[c].toArray⟩ := enc_is _ c (enc_byte c h)
theorem cat_text (a b : List UInt8) : (⟨a.toArray⟩ : ByteArray) ++ ⟨b.toArray⟩ = ⟨(a ++ b).toArray⟩ := by
  apply ByteArray.ext
  rw [ByteArray.data_append]
  simp
theorem hex_slice (n : Nat) (h : n < 16) (i j : Int) (hi : i = n) (hj : j = n + 1) (w : World) : (Instr.slice 9 (.string ⟨#[48, 49, 50, 51, 52, 53, 54, 55, 56, 57, 65, 66, 67, 68, 69, 70]⟩) (some (.int .u8 i)) (some (.int .u8 j)) none).run Tryz.prog w = .ok (.string ⟨[hexD n].toArray⟩) w := by
  subst hi hj
  have e : (⟨#[48, 49, 50, 51, 52, 53, 54, 55, 56, 57, 65, 66, 67, 68, 69, 70]⟩ : ByteArray).extract n (n + 1) = ⟨[hexD n].toArray⟩ := by
    have : ∀ k : Fin 16, ((⟨#[48, 49, 50, 51, 52, 53, 54, 55, 56, 57, 65, 66, 67, 68, 69, 70]⟩ : ByteArray).extract k.val (k.val + 1)).data.toList = [hexD k.val] := by decide +kernel
    exact bytes_ext (this ⟨n, h⟩)
  have h1 : (n : Int) ≤ 16 := by omega
  have h2 : (n : Int) + 1 ≤ 16 := by omega
  have h3 : ((n : Int) + 1).toNat = n + 1 := by omega
  simp [Instr.slice, run_underlying Tryz.underlying9, Instr.sliceBounds, run_sliceBound, h2, h3, e, (by omega : (0 : Int) ≤ (n : Int) + 1), go_sem]

end Go.Proofs.YtmfhhpacojodkaaGreatDoor.L

/- What is proved here: the document's gap, squeezed and good of layer 12. -/
namespace Go.Proofs.YtmfhhpacojodkaaGreatDoor.L
open Go.RowKit Go.Shelf Go.Proofs.YtmfhhpacojodkaaGreatDoor.N Go.Proofs.YtmfhhpacojodkaaGreatDoor.U

end Go.Proofs.YtmfhhpacojodkaaGreatDoor.L

/- What is proved here: the contract of the law's plain of layer 12 (a text of digits, points, w and x alone), and what the law asks of a candidate. -/
namespace Go.Proofs.YtmfhhpacojodkaaGreatDoor.L
open Go.RowKit Go.Shelf Go.Proofs.YtmfhhpacojodkaaGreatDoor.N Go.Proofs.YtmfhhpacojodkaaGreatDoor.U

def plainD (c : UInt8) : Bool := (decide (48 ≤ c.toNat) && decide (c.toNat ≤ 57)) || c == 46 || c == 119 || c == 120
def lowD (c : UInt8) : Bool := decide (c.toNat < 48)
def highD (c : UInt8) : Bool := decide (57 < c.toNat)
theorem plain_tab : ∀ n : Fin 256, plainD (UInt8.ofNat n.val) = !((lowD (UInt8.ofNat n.val) || highD (UInt8.ofNat n.val)) && (!(UInt8.ofNat n.val == 46) && (!(UInt8.ofNat n.val == 119) && !(UInt8.ofNat n.val == 120)))) := by decide +kernel
theorem plainD_eq (c : UInt8) : plainD c = !((lowD c || highD c) && (!(c == 46) && (!(c == 119) && !(c == 120)))) := by
  have h := plain_tab ⟨c.toNat, c.toNat_lt⟩
  simp only [UInt8.ofNat_toNat] at h
  exact h
theorem plain_tab2 : ∀ n : Fin 256, (!plainD (UInt8.ofNat n.val) || (!gapS (UInt8.ofNat n.val) && !(UInt8.ofNat n.val == 44) && !(UInt8.ofNat n.val == 40) && !(UInt8.ofNat n.val == 41) && decide ((UInt8.ofNat n.val).toNat < 128))) = true := by decide +kernel
theorem plainD_safe {c : UInt8} (hp : plainD c = true) : gapS c = false ∧ (c == 44) = false ∧ (c == 40) = false ∧ (c == 41) = false ∧ c.toNat < 128 := by
  have h := plain_tab2 ⟨c.toNat, c.toNat_lt⟩
  simp only [UInt8.ofNat_toNat] at h
  rw [hp] at h
  simp only [Bool.not_true, Bool.false_or, Bool.and_eq_true, Bool.not_eq_true', decide_eq_true_eq] at h
  exact ⟨h.1.1.1.1, h.1.1.1.2, h.1.1.2, h.1.2, h.2⟩
theorem gap_tab5 : ∀ n : Fin 256, ((UInt8.ofNat n.val == 9) || (UInt8.ofNat n.val == 10) || (UInt8.ofNat n.val == 12) || (UInt8.ofNat n.val == 13) || (UInt8.ofNat n.val == 32) || !gapS (UInt8.ofNat n.val)) = true := by decide +kernel
theorem gap_five {c : UInt8} (h9 : (c == 9) = false) (h10 : (c == 10) = false) (h12 : (c == 12) = false) (h13 : (c == 13) = false) (h32 : (c == 32) = false) : gapS c = false := by
  have h := gap_tab5 ⟨c.toNat, c.toNat_lt⟩
  simp only [UInt8.ofNat_toNat] at h
  rw [h9, h10, h12, h13, h32] at h
  simpa using h
theorem plain_tab3 : ∀ n : Fin 256, ((lowD (UInt8.ofNat n.val) && highD (UInt8.ofNat n.val)) || ((UInt8.ofNat n.val == 46) && !lowD (UInt8.ofNat n.val)) || ((UInt8.ofNat n.val == 119) && (!highD (UInt8.ofNat n.val) || (UInt8.ofNat n.val == 120) || (UInt8.ofNat n.val == 46))) || ((UInt8.ofNat n.val == 120) && (!highD (UInt8.ofNat n.val) || (UInt8.ofNat n.val == 46)))) = false := by decide +kernel
theorem plain_apart (c : UInt8) : ((lowD c && highD c) || ((c == 46) && !lowD c) || ((c == 119) && (!highD c || (c == 120) || (c == 46))) || ((c == 120) && (!highD c || (c == 46)))) = false := by
  have h := plain_tab3 ⟨c.toNat, c.toNat_lt⟩
  simp only [UInt8.ofNat_toNat] at h
  exact h
/-- What the law asks of a candidate. -/
def GoodC (y : Two) : Prop := Fine y ∧ goodP y.2 = true ∧ Val y.1 ∧ Val y.2
theorem good_of {x y : List UInt8} {g : Bool} (hg : (srcK (mendL (97 :: 32 :: y))).2 = g) (h1 : ∃ c t, x = c :: t ∧ (c == 44) = false) (h2 : ∃ p d, x = p ++ [d] ∧ (d == 44) = false) (h3 : ∀ i, i < x.length → gapS (x.getD i 0) = false) (h4 : Val x)
    (h5 : y = [] ∨ (g = true ∧ y.all plainD = true)) : GoodC (x, y) := by
  have hx : ∀ c ∈ x, gapS c = false := fun c hc => by
    obtain ⟨i, hi, e⟩ := List.mem_iff_getElem.1 hc
    have := h3 i hi
    rw [getD_at x i hi, e] at this
    exact this
  rcases h5 with rfl | ⟨rfl, hp⟩
  · exact ⟨⟨hx, h1, h2, fun c hc => by simp at hc⟩, goodP_nil, h4, val_nil⟩
  · have hs : ∀ c ∈ y, gapS c = false ∧ (c == 44) = false ∧ (c == 40) = false ∧ (c == 41) = false ∧ c.toNat < 128 := fun c hc => plainD_safe (List.all_eq_true.1 hp c hc)
    have hd : ∀ c ∈ y, gapS c = false ∧ (c == 44) = false ∧ (c == 40) = false ∧ (c == 41) = false := fun c hc => ⟨(hs c hc).1, (hs c hc).2.1, (hs c hc).2.2.1, (hs c hc).2.2.2.1⟩
    have hv : Val y := val_ascii _ fun c hc => (hs c hc).2.2.2.2
    refine ⟨⟨hx, h1, h2, hd⟩, ?_, h4, hv⟩
    by_cases h0 : y = []
    · subst h0; exact goodP_nil
    · rw [← desc_alone y h0 hd hv]; exact hg
set_option maxRecDepth 100000 in
set_option maxHeartbeats 4000000 in
/-- **plain.** -/
theorem plain_calls (s : List UInt8) (w : World) (hl : s.length ≤ 100000000000) : Calls Tryz.prog 6 #[.string ⟨s.toArray⟩] w fun e w' => e = .returned (.bool (s.all plainD)) ∧ w' = w := by
  have ss := arr_size s
  go_enter Tryz.func6, Tryz.ntmps6
  go_wp2_with fail
  go_loop [6] (fun vi => ∃ k : Nat, k ≤ s.length ∧ vi = .int .i64 k ∧ Hid ((s.take k).all plainD = true)) (fun vi => s.length - (intOf vi).toNat)
  case atStart => exact ⟨0, by omega, rfl, rfl⟩
  case round =>
    obtain ⟨k, hk, rfl, hP⟩ := hrel
    by_cases hlt : k < s.length
    · have hix := byte_at s k _ hlt rfl (k : Int) rfl
      have hsn : (s.take (k + 1)).all plainD = plainD (s.getD k 0) := by
        rw [List.take_succ_eq_append_getElem hlt, List.all_append, hP.out, getD_at s k hlt]; simp
      have hno : plainD (s.getD k 0) = false → s.all plainD = false := fun h => by
        rw [Bool.eq_false_iff]
        intro h9
        have := List.all_eq_true.1 h9 (s.getD k 0) (by rw [getD_at s k hlt]; exact List.getElem_mem hlt)
        rw [h] at this
        cases this
      obtain ⟨c, hc⟩ : ∃ c, s.getD k 0 = c := ⟨_, rfl⟩
      rw [hc] at hix hsn hno
      have hpd := plainD_eq c
      have hap := plain_apart c
      have e46 : ((c.toNat : Int) == 46) = (c == 46) := eq_byte c 46
      have e119 : ((c.toNat : Int) == 119) = (c == 119) := eq_byte c 119
      have e120 : ((c.toNat : Int) == 120) = (c == 120) := eq_byte c 120
      have n46 : ((c.toNat : Int) != 46) = !(c == 46) := by show (!_) = _; rw [e46]
      have n119 : ((c.toNat : Int) != 119) = !(c == 119) := by show (!_) = _; rw [e119]
      have n120 : ((c.toNat : Int) != 120) = !(c == 120) := by show (!_) = _; rw [e120]
      have l1 : decide ((c.toNat : Int) < 48) = lowD c := by unfold lowD; rw [decide_eq_decide]; omega
      have l2 : decide (c.toNat < 48) = lowD c := rfl
      have g1 : decide ((c.toNat : Int) > 57) = highD c := by unfold highD; rw [decide_eq_decide]; omega
      have g2 : decide (57 < c.toNat) = highD c := rfl
      have g3 : decide ((57 : Int) < (c.toNat : Int)) = highD c := by unfold highD; rw [decide_eq_decide]; omega
      clear hc hP
      generalize lowD c = lo at *
      generalize highD c = hi at *
      generalize (c == 46) = f1 at *
      generalize (c == 119) = f2 at *
      generalize (c == 120) = f3 at *
      rw [hpd] at hsn hno
      clear hpd
      cases lo <;> cases hi <;> cases f1 <;> cases f2 <;> cases f3
      all_goals simp only [Bool.not_true, Bool.not_false] at n46 n119 n120
      all_goals first
        | (exfalso; revert hap; decide)
        | (clear hap
           have HS : Hid ((s.take (k + 1)).all plainD = true) := hsn
           clear hsn hno
           go_wp2_with fail
           go_round
           case rel => exact ⟨k + 1, by omega, by go_num, HS⟩
           case measure => simp [intOf]; omega)
        | (clear hap
           have HS : Hid (s.all plainD = false) := hno rfl
           clear hsn hno
           go_wp2_with fail
           go_ret
           exact ⟨by rw [HS.out]; rfl, by trivial⟩)
    · obtain rfl : k = s.length := by omega
      have HS : Hid (s.all plainD = true) := by have := hP.out; rw [List.take_length] at this; exact this
      clear hP
      go_wp2_with fail
      go_ret
      exact ⟨by rw [HS.out]; rfl, by trivial⟩
end Go.Proofs.YtmfhhpacojodkaaGreatDoor.L
