/- What is proved here: the document's End of layer 10: where it finds the end of a content. (Written by wip/gen_rend.py.) -/
import Derived.Test.YtegkdgmpkfpjmaaDoorREndM
import Derived.Test.YtegkdgmpkfpjmaaDoorBun13
import Derived.Test.YtegkdgmpkfpjmaaDoorRWhole
namespace Go.Proofs.YtegkdgmpkfpjmaaDoor.R
open Go.RowKit Go.Shelf Go.Proofs.YtegkdgmpkfpjmaaDoor.U Go.Proofs.YtegkdgmpkfpjmaaDoor.N

theorem HasR.below {w W : World} {a : Option Addr} {n cap : Nat} {zs : List Int} (h : HasR w a n cap zs) (hb : Below w.heap.size w W) : HasR W a n cap zs := HasI.below hb h
theorem cell_keep {w W : World} {p : Addr} {v : Value} (h : w.cell? p = some v) (hb : Below w.heap.size w W) : W.cell? p = some v := (hb.cell (p := p) (cell_lt h)).trans h
/-- What End tells. -/
def endV (r : Option Nat) (n : Nat) : Value := .tuple #[.int .i64 ((r.getD n : Nat) : Int), .bool r.isSome]
set_option maxRecDepth 100000 in
set_option maxHeartbeats 4000000 in
/-- **The document's End**, of a content that is no plain text. -/
theorem rend_most (sc : Bool) (l : List UInt8) (how : Nat) (hh : whZ l = how) (h4 : how ≠ 4) (hsc : sc = decide (how = 3)) (hscr : how = 3 → l = script) (hln : l.length ≤ 9) (a : Option Addr) (n cap : Nat) (zs : List Int) (w : World) (hI : HasR w a n cap zs) (hz : ∀ z ∈ zs, -2147483648 ≤ z ∧ z ≤ 2147483647) (hl : zs.length ≤ 1000000000) :
    Calls Tryd.prog 19 #[.string ⟨l.toArray⟩, .slice a n cap] w fun e w' => e = .returned (endV (refF sc (R.zs l) 0 0 zs) zs.length) ∧ Below w.heap.size w w' := by
  obtain rfl := hasR_len hI
  have HI := hid_of hI
  have HWH := hid_of (rwhere_calls l w)
  rw [hh] at HWH
  have HW : Hid (∀ W (at0 : Nat), Below w.heap.size w W → at0 ≤ 100000000000 → Calls Tryd.prog 36 #[.slice a zs.length cap, .int .i64 at0, .string ⟨l.toArray⟩] W fun e w' => e = .returned (.bool (wordR (R.zs l) (zs.drop at0))) ∧ Below W.heap.size W w') := fun W at0 hb h0 => word_calls a zs.length cap zs at0 l W (hI.below hb) hz (by omega) (by omega) (by omega)
  have HT : Hid (∀ W (at0 : Nat) nb, Below w.heap.size w W → at0 ≤ 100000000000 → nb.length ≤ 10 → 0 < nb.length → Calls Tryd.prog 35 #[.slice a zs.length cap, .int .i64 at0, .string ⟨List.toArray nb⟩] W fun e w' => e = .returned (.bool (textR zs at0 nb)) ∧ Below W.heap.size W w') := fun W at0 nb hb h0 h1 h2 => text_calls a zs.length cap zs at0 nb W (hI.below hb) (by omega) (by omega) (by omega) h2
  have HWS : Hid (how = 3 → ∀ W (at0 : Nat), Below w.heap.size w W → at0 ≤ 100000000000 → Calls Tryd.prog 36 #[.slice a zs.length cap, .int .i64 at0, .string ⟨#[115, 99, 114, 105, 112, 116]⟩] W fun e w' => e = .returned (.bool (wordR (R.zs l) (zs.drop at0))) ∧ Below W.heap.size W w') := fun h3 W at0 hb h0 => by
    have := HW.out W at0 hb h0
    rw [hscr h3] at this ⊢
    exact this
  have h4b : ((how : Int) == 4) = false := by simp; omega
  have h3b : ((how : Int) != 3) = !sc := by
    rw [hsc]
    by_cases h : how = 3
    · subst h; rfl
    · have e1 : ((how : Int) == 3) = false := by simp; omega
      simp [bne, e1, h]
  have H3 : Hid (sc = true → how = 3) := fun h => by rw [hsc] at h; simpa using h
  obtain ⟨nm, hnm⟩ : ∃ nm, R.zs l = nm := ⟨_, rfl⟩
  rw [hnm] at HW HWS ⊢
  obtain ⟨F, hF⟩ : ∃ F, refF sc nm 0 0 zs = F := ⟨_, rfl⟩
  rw [hF]
  have HF := hid_of hF
  have HS := hid_of (rel_start sc nm zs)
  clear hI hz hh hsc hscr hnm hF h4
  go_enter Tryd.func19, Tryd.ntmps19
  go_wp2_with fail
  (go_at_call 11; refine HWH.out.mono ?_; rintro e w1 ⟨rfl, hb1⟩)
  go_wp2_with fail
  go_loopw [7, 8, 18] (fun x y i wr => ∃ k esc fr : Nat, k ≤ zs.length ∧ x = .int .i64 esc ∧ y = .int .i64 fr ∧ i = .int .i64 k ∧ Hid (Rel sc nm zs k esc fr) ∧ Below w.heap.size w wr) (fun _ _ i _ => zs.length - (intOf i).toNat)
  case atStart => exact ⟨0, 0, 0, by omega, rfl, rfl, rfl, HS.out, hb1⟩
  case round =>
    obtain ⟨k, esc, fr, hk, rfl, rfl, rfl, hR, hB⟩ := hrel
    by_cases hlt : k < zs.length
    · obtain ⟨b, off, hab, hc⟩ := hasR_cell HI.out k hlt
      subst hab
      have hcw : ∀ j, j < zs.length → wr.cell? ⟨b, off + j, none⟩ = some (.int .i32 (zAt zs j)) := fun j hj => (hB.cell (p := ⟨b, off + j, none⟩) (cell_lt (hc j hj))).trans (hc j hj)
      have cz := hcw k hlt
      have HCW := hid_of hcw
      clear hcw
      have HN := hid_of (fun h => round_none hR.out hlt h)
      have HO := hid_of (fun e' f' h => round_some (e' := e') (f' := f') hR.out hlt h)
      obtain ⟨g1, g2, g3, g4, d, g5, g6⟩ := hR.out
      have HG := hid_of g3
      have hfr : fr ≤ 1000000002 := by omega
      clear g3 g4 g5 g6 hc hR
      obtain ⟨i1, hi1⟩ : ∃ i1, k + 1 = i1 := ⟨_, rfl⟩
      obtain ⟨i2, hi2⟩ : ∃ i2, k + 2 = i2 := ⟨_, rfl⟩
      have hw1 : IntKind.i64.wrap ((k : Int) + 1) = (i1 : Int) := by rw [IntKind.wrap_i64]; omega
      have hw2 : IntKind.i64.wrap ((k : Int) + 2) = (i2 : Int) := by rw [IntKind.wrap_i64]; omega
      have HE0 := hid_of (isEnd_no nm zs k)
      have HE1 := hid_of (isEnd_yes nm zs k)
      have HTB := hid_of (text_bang zs k hlt)
      have HTD := hid_of (fun h => text_dash zs k h hlt)
      rw [hi1] at HE0 HE1 HTB HO
      rw [hi2] at HE1
      have HI1 := hid_of hi1
      have HI2 := hid_of hi2
      obtain ⟨z, hzk⟩ : ∃ z, zAt zs k = z := ⟨_, rfl⟩
      have HZK := hid_of hzk
      rw [hzk] at cz
      clear hzk hi1 hi2
      by_cases h60 : z = 60
      · have n60 : (z != 60) = false := by rw [h60]; rfl
        have n62 : (z == 62) = false := by rw [h60]; rfl
        have HZ60 : Hid (zAt zs k = 60) := by show zAt zs k = 60; rw [HZK.out, h60]
        clear h60 HZK
        cases sc with
        | false =>
          obtain rfl : esc = 0 := by rcases HG.out with h | h; exact h; cases h
          simp only [Bool.not_false] at h3b
          by_cases hl1 : i1 < zs.length
          · have hd1 : decide ((i1 : Int) < (zs.length : Int)) = true := by simp; omega
            have cz1 := HCW.out i1 hl1
            obtain ⟨z1, hz1⟩ : ∃ z1, zAt zs i1 = z1 := ⟨_, rfl⟩
            have HZ1 := hid_of hz1
            rw [hz1] at cz1
            clear hz1
            by_cases h47 : z1 = 47
            · have n47 : (z1 == 47) = true := by rw [h47]; rfl
              have HIE := hid_of (HE1.out hl1 (by rw [HZ1.out, h47]))
              clear h47
              cases hwd : wordR nm (zs.drop i2) with
              | true =>
                rw [hwd] at HIE
                go_wp2_with fail
                (go_at_call 36; refine (HW.out _ i2 hB (by have := HI1.out; have := HI2.out; omega)).mono ?_; rintro e w2 ⟨rfl, hb2⟩; rw [hwd])
                have hB2 := hB.trans (hb2.mono hB.size)
                go_wp2_with fail
                have HFK := hid_of (HF.out.symm.trans (HN.out (by have h := rnd_text (b := true) (esc := 0) (fr := fr) HZ60.out (by rw [HI1.out]; exact HIE.out); first | exact h | simpa using h)))
                (try simp only [Exit.inBlock, Exit.then])
                go_ret2
                exact ⟨ret_is (by rw [HFK.out]; rfl), hB2⟩
              | false =>
                rw [hwd] at HIE
                go_wp2_with fail
                (go_at_call 36; refine (HW.out _ i2 hB (by have := HI1.out; have := HI2.out; omega)).mono ?_; rintro e w2 ⟨rfl, hb2⟩; rw [hwd])
                have hB2 := hB.trans (hb2.mono hB.size)
                go_wp2_with fail
                go_roundw
                case rel => exact ⟨i1, 0, fr, by have := HI1.out; omega, by first | rfl | trivial | go_num, by first | rfl | trivial | go_num, by first | rfl | trivial | go_num, HO.out 0 fr (by have h := rnd_text (b := false) (esc := 0) (fr := fr) HZ60.out (by rw [HI1.out]; exact HIE.out); first | exact h | simpa using h), hB2⟩
                case measure => have := HI1.out; simp [intOf]; omega
            · have n47 : (z1 == 47) = false := by simpa using h47
              have HIE := hid_of (HE0.out (.inr (by rw [HZ1.out]; exact h47)))
              clear h47
              go_wp2_with fail
              go_roundw
              case rel => exact ⟨i1, 0, fr, by have := HI1.out; omega, by first | rfl | trivial | go_num, by first | rfl | trivial | go_num, by first | rfl | trivial | go_num, HO.out 0 fr (by have h := rnd_text (b := false) (esc := 0) (fr := fr) HZ60.out (by rw [HI1.out]; exact HIE.out); first | exact h | simpa using h), hB⟩
              case measure => have := HI1.out; simp [intOf]; omega
          · have hd1 : decide ((i1 : Int) < (zs.length : Int)) = false := by simp; omega
            have HIE := hid_of (HE0.out (.inl hl1))
            go_wp2_with fail
            go_roundw
            case rel => exact ⟨i1, 0, fr, by have := HI1.out; omega, by first | rfl | trivial | go_num, by first | rfl | trivial | go_num, by first | rfl | trivial | go_num, HO.out 0 fr (by have h := rnd_text (b := false) (esc := 0) (fr := fr) HZ60.out (by rw [HI1.out]; exact HIE.out); first | exact h | simpa using h), hB⟩
            case measure => have := HI1.out; simp [intOf]; omega
        | true =>
          simp only [Bool.not_true] at h3b
          have hesc : esc = 0 ∨ esc = 1 ∨ esc = 2 := by omega
          rcases hesc with rfl | rfl | rfl
          · have HTB2 := hid_of (HTB.out HZ60.out)
            cases htb : textR zs k [60, 33, 45, 45] with
            | true =>
              have HPX : Hid (([33, 45, 45] : List Int).isPrefixOf (zs.drop i1) = true) := by have h := HTB2.out; rw [htb] at h; exact h.symm
              go_wp2_with fail
              (go_at_call 35; refine (HT.out _ k [60, 33, 45, 45] hB (by omega) (by decide) (by decide)).mono ?_; rintro e w2 ⟨rfl, hb2⟩; rw [htb])
              have hB2 := hB.trans (hb2.mono hB.size)
              go_wp2_with fail
              go_roundw
              case rel => exact ⟨i1, 1, i2, by have := HI1.out; omega, by first | rfl | trivial | go_num, by first | rfl | trivial | go_num, by first | rfl | trivial | go_num, HO.out 1 i2 (by rw [← HI2.out]; exact rnd_bang (fr := fr) HZ60.out (by rw [HI1.out]; exact HPX.out)), hB2⟩
              case measure => have := HI1.out; simp [intOf]; omega
            | false =>
              have HPX : Hid (([33, 45, 45] : List Int).isPrefixOf (zs.drop i1) = false) := by have h := HTB2.out; rw [htb] at h; exact h.symm
              by_cases hl1 : i1 < zs.length
              · have hd1 : decide ((i1 : Int) < (zs.length : Int)) = true := by simp; omega
                have cz1 := HCW.out i1 hl1
                obtain ⟨z1, hz1⟩ : ∃ z1, zAt zs i1 = z1 := ⟨_, rfl⟩
                have HZ1 := hid_of hz1
                rw [hz1] at cz1
                clear hz1
                by_cases h47 : z1 = 47
                · have n47 : (z1 == 47) = true := by rw [h47]; rfl
                  have HIE := hid_of (HE1.out hl1 (by rw [HZ1.out, h47]))
                  clear h47
                  cases hwd : wordR nm (zs.drop i2) with
                  | true =>
                    rw [hwd] at HIE
                    go_wp2_with fail
                    (go_at_call 35; refine (HT.out _ k [60, 33, 45, 45] hB (by omega) (by decide) (by decide)).mono ?_; rintro e w2 ⟨rfl, hb2⟩; rw [htb])
                    have hB2 := hB.trans (hb2.mono hB.size)
                    (try have cz2 := cell_keep cz1 hb2)
                    go_wp2_with fail
                    (go_at_call 36; refine (HW.out _ i2 hB2 (by have := HI1.out; have := HI2.out; omega)).mono ?_; rintro e w3 ⟨rfl, hb3⟩; rw [hwd])
                    have hB3 := hB2.trans (hb3.mono hB2.size)
                    go_wp2_with fail
                    have HFK := hid_of (HF.out.symm.trans (HN.out (by have h := rnd_zero (b := true) (fr := fr) HZ60.out (by rw [HI1.out]; exact HPX.out) (by rw [HI1.out]; exact HIE.out); first | exact h | simpa using h)))
                    (try simp only [Exit.inBlock, Exit.then])
                    go_ret2
                    exact ⟨ret_is (by rw [HFK.out]; rfl), hB3⟩
                  | false =>
                    rw [hwd] at HIE
                    go_wp2_with fail
                    (go_at_call 35; refine (HT.out _ k [60, 33, 45, 45] hB (by omega) (by decide) (by decide)).mono ?_; rintro e w2 ⟨rfl, hb2⟩; rw [htb])
                    have hB2 := hB.trans (hb2.mono hB.size)
                    (try have cz2 := cell_keep cz1 hb2)
                    go_wp2_with fail
                    (go_at_call 36; refine (HW.out _ i2 hB2 (by have := HI1.out; have := HI2.out; omega)).mono ?_; rintro e w3 ⟨rfl, hb3⟩; rw [hwd])
                    have hB3 := hB2.trans (hb3.mono hB2.size)
                    go_wp2_with fail
                    go_roundw
                    case rel => exact ⟨i1, 0, fr, by have := HI1.out; omega, by first | rfl | trivial | go_num, by first | rfl | trivial | go_num, by first | rfl | trivial | go_num, HO.out 0 fr (by have h := rnd_zero (b := false) (fr := fr) HZ60.out (by rw [HI1.out]; exact HPX.out) (by rw [HI1.out]; exact HIE.out); first | exact h | simpa using h), hB3⟩
                    case measure => have := HI1.out; simp [intOf]; omega
                · have n47 : (z1 == 47) = false := by simpa using h47
                  have HIE := hid_of (HE0.out (.inr (by rw [HZ1.out]; exact h47)))
                  clear h47
                  go_wp2_with fail
                  (go_at_call 35; refine (HT.out _ k [60, 33, 45, 45] hB (by omega) (by decide) (by decide)).mono ?_; rintro e w2 ⟨rfl, hb2⟩; rw [htb])
                  have hB2 := hB.trans (hb2.mono hB.size)
                  (try have cz2 := cell_keep cz1 hb2)
                  go_wp2_with fail
                  go_roundw
                  case rel => exact ⟨i1, 0, fr, by have := HI1.out; omega, by first | rfl | trivial | go_num, by first | rfl | trivial | go_num, by first | rfl | trivial | go_num, HO.out 0 fr (by have h := rnd_zero (b := false) (fr := fr) HZ60.out (by rw [HI1.out]; exact HPX.out) (by rw [HI1.out]; exact HIE.out); first | exact h | simpa using h), hB2⟩
                  case measure => have := HI1.out; simp [intOf]; omega
              · have hd1 : decide ((i1 : Int) < (zs.length : Int)) = false := by simp; omega
                have HIE := hid_of (HE0.out (.inl hl1))
                go_wp2_with fail
                (go_at_call 35; refine (HT.out _ k [60, 33, 45, 45] hB (by omega) (by decide) (by decide)).mono ?_; rintro e w2 ⟨rfl, hb2⟩; rw [htb])
                have hB2 := hB.trans (hb2.mono hB.size)
                (try have cz2 := cell_keep cz1 hb2)
                go_wp2_with fail
                go_roundw
                case rel => exact ⟨i1, 0, fr, by have := HI1.out; omega, by first | rfl | trivial | go_num, by first | rfl | trivial | go_num, by first | rfl | trivial | go_num, HO.out 0 fr (by have h := rnd_zero (b := false) (fr := fr) HZ60.out (by rw [HI1.out]; exact HPX.out) (by rw [HI1.out]; exact HIE.out); first | exact h | simpa using h), hB2⟩
                case measure => have := HI1.out; simp [intOf]; omega
          · skip
            by_cases hl1 : i1 < zs.length
            · have hd1 : decide ((i1 : Int) < (zs.length : Int)) = true := by simp; omega
              have cz1 := HCW.out i1 hl1
              obtain ⟨z1, hz1⟩ : ∃ z1, zAt zs i1 = z1 := ⟨_, rfl⟩
              have HZ1 := hid_of hz1
              rw [hz1] at cz1
              clear hz1
              by_cases h47 : z1 = 47
              · have n47 : (z1 == 47) = true := by rw [h47]; rfl
                have HIE := hid_of (HE1.out hl1 (by rw [HZ1.out, h47]))
                clear h47
                cases hwd : wordR nm (zs.drop i2) with
                | true =>
                  rw [hwd] at HIE
                  go_wp2_with fail
                  (go_at_call 36; refine (HW.out _ i2 hB (by have := HI1.out; have := HI2.out; omega)).mono ?_; rintro e w2 ⟨rfl, hb2⟩; rw [hwd])
                  have hB2 := hB.trans (hb2.mono hB.size)
                  go_wp2_with fail
                  have HFK := hid_of (HF.out.symm.trans (HN.out (by have h := rnd_one (b := true) (fr := fr) HZ60.out (by rw [HI1.out]; exact HIE.out) rfl; first | exact h | simpa using h)))
                  (try simp only [Exit.inBlock, Exit.then])
                  go_ret2
                  exact ⟨ret_is (by rw [HFK.out]; rfl), hB2⟩
                | false =>
                  rw [hwd] at HIE
                  cases hw1d : wordR nm (zs.drop i1) with
                  | true =>
                    have HW1 : Hid (wordR nm (zs.drop (k + 1)) = true) := by show wordR nm (zs.drop (k + 1)) = true; rw [HI1.out]; exact hw1d
                    go_wp2_with fail
                    (go_at_call 36; refine (HW.out _ i2 hB (by have := HI1.out; have := HI2.out; omega)).mono ?_; rintro e w2 ⟨rfl, hb2⟩; rw [hwd])
                    have hB2 := hB.trans (hb2.mono hB.size)
                    go_wp2_with fail
                    (go_at_call 36; refine (HWS.out (H3.out (by first | rfl | trivial)) _ i1 hB2 (by have := HI1.out; have := HI2.out; omega)).mono ?_; rintro e w4 ⟨rfl, hb4⟩; rw [hw1d])
                    have hB4 := hB2.trans (hb4.mono hB2.size)
                    go_wp2_with fail
                    go_roundw
                    case rel => exact ⟨i1, 2, fr, by have := HI1.out; omega, by first | rfl | trivial | go_num, by first | rfl | trivial | go_num, by first | rfl | trivial | go_num, HO.out 2 fr (by have h := rnd_one (b := false) (fr := fr) HZ60.out (by rw [HI1.out]; exact HIE.out) HW1.out; first | exact h | simpa using h), hB4⟩
                    case measure => have := HI1.out; simp [intOf]; omega
                  | false =>
                    have HW1 : Hid (wordR nm (zs.drop (k + 1)) = false) := by show wordR nm (zs.drop (k + 1)) = false; rw [HI1.out]; exact hw1d
                    go_wp2_with fail
                    (go_at_call 36; refine (HW.out _ i2 hB (by have := HI1.out; have := HI2.out; omega)).mono ?_; rintro e w2 ⟨rfl, hb2⟩; rw [hwd])
                    have hB2 := hB.trans (hb2.mono hB.size)
                    go_wp2_with fail
                    (go_at_call 36; refine (HWS.out (H3.out (by first | rfl | trivial)) _ i1 hB2 (by have := HI1.out; have := HI2.out; omega)).mono ?_; rintro e w4 ⟨rfl, hb4⟩; rw [hw1d])
                    have hB4 := hB2.trans (hb4.mono hB2.size)
                    go_wp2_with fail
                    go_roundw
                    case rel => exact ⟨i1, 1, fr, by have := HI1.out; omega, by first | rfl | trivial | go_num, by first | rfl | trivial | go_num, by first | rfl | trivial | go_num, HO.out 1 fr (by have h := rnd_one (b := false) (fr := fr) HZ60.out (by rw [HI1.out]; exact HIE.out) HW1.out; first | exact h | simpa using h), hB4⟩
                    case measure => have := HI1.out; simp [intOf]; omega
              · have n47 : (z1 == 47) = false := by simpa using h47
                have HIE := hid_of (HE0.out (.inr (by rw [HZ1.out]; exact h47)))
                clear h47
                cases hw1d : wordR nm (zs.drop i1) with
                | true =>
                  have HW1 : Hid (wordR nm (zs.drop (k + 1)) = true) := by show wordR nm (zs.drop (k + 1)) = true; rw [HI1.out]; exact hw1d
                  go_wp2_with fail
                  (go_at_call 36; refine (HWS.out (H3.out (by first | rfl | trivial)) _ i1 hB (by have := HI1.out; have := HI2.out; omega)).mono ?_; rintro e w4 ⟨rfl, hb4⟩; rw [hw1d])
                  have hB4 := hB.trans (hb4.mono hB.size)
                  go_wp2_with fail
                  go_roundw
                  case rel => exact ⟨i1, 2, fr, by have := HI1.out; omega, by first | rfl | trivial | go_num, by first | rfl | trivial | go_num, by first | rfl | trivial | go_num, HO.out 2 fr (by have h := rnd_one (b := false) (fr := fr) HZ60.out (by rw [HI1.out]; exact HIE.out) HW1.out; first | exact h | simpa using h), hB4⟩
                  case measure => have := HI1.out; simp [intOf]; omega
                | false =>
                  have HW1 : Hid (wordR nm (zs.drop (k + 1)) = false) := by show wordR nm (zs.drop (k + 1)) = false; rw [HI1.out]; exact hw1d
                  go_wp2_with fail
                  (go_at_call 36; refine (HWS.out (H3.out (by first | rfl | trivial)) _ i1 hB (by have := HI1.out; have := HI2.out; omega)).mono ?_; rintro e w4 ⟨rfl, hb4⟩; rw [hw1d])
                  have hB4 := hB.trans (hb4.mono hB.size)
                  go_wp2_with fail
                  go_roundw
                  case rel => exact ⟨i1, 1, fr, by have := HI1.out; omega, by first | rfl | trivial | go_num, by first | rfl | trivial | go_num, by first | rfl | trivial | go_num, HO.out 1 fr (by have h := rnd_one (b := false) (fr := fr) HZ60.out (by rw [HI1.out]; exact HIE.out) HW1.out; first | exact h | simpa using h), hB4⟩
                  case measure => have := HI1.out; simp [intOf]; omega
            · have hd1 : decide ((i1 : Int) < (zs.length : Int)) = false := by simp; omega
              have HIE := hid_of (HE0.out (.inl hl1))
              cases hw1d : wordR nm (zs.drop i1) with
              | true =>
                have HW1 : Hid (wordR nm (zs.drop (k + 1)) = true) := by show wordR nm (zs.drop (k + 1)) = true; rw [HI1.out]; exact hw1d
                go_wp2_with fail
                (go_at_call 36; refine (HWS.out (H3.out (by first | rfl | trivial)) _ i1 hB (by have := HI1.out; have := HI2.out; omega)).mono ?_; rintro e w4 ⟨rfl, hb4⟩; rw [hw1d])
                have hB4 := hB.trans (hb4.mono hB.size)
                go_wp2_with fail
                go_roundw
                case rel => exact ⟨i1, 2, fr, by have := HI1.out; omega, by first | rfl | trivial | go_num, by first | rfl | trivial | go_num, by first | rfl | trivial | go_num, HO.out 2 fr (by have h := rnd_one (b := false) (fr := fr) HZ60.out (by rw [HI1.out]; exact HIE.out) HW1.out; first | exact h | simpa using h), hB4⟩
                case measure => have := HI1.out; simp [intOf]; omega
              | false =>
                have HW1 : Hid (wordR nm (zs.drop (k + 1)) = false) := by show wordR nm (zs.drop (k + 1)) = false; rw [HI1.out]; exact hw1d
                go_wp2_with fail
                (go_at_call 36; refine (HWS.out (H3.out (by first | rfl | trivial)) _ i1 hB (by have := HI1.out; have := HI2.out; omega)).mono ?_; rintro e w4 ⟨rfl, hb4⟩; rw [hw1d])
                have hB4 := hB.trans (hb4.mono hB.size)
                go_wp2_with fail
                go_roundw
                case rel => exact ⟨i1, 1, fr, by have := HI1.out; omega, by first | rfl | trivial | go_num, by first | rfl | trivial | go_num, by first | rfl | trivial | go_num, HO.out 1 fr (by have h := rnd_one (b := false) (fr := fr) HZ60.out (by rw [HI1.out]; exact HIE.out) HW1.out; first | exact h | simpa using h), hB4⟩
                case measure => have := HI1.out; simp [intOf]; omega
          · skip
            by_cases hl1 : i1 < zs.length
            · have hd1 : decide ((i1 : Int) < (zs.length : Int)) = true := by simp; omega
              have cz1 := HCW.out i1 hl1
              obtain ⟨z1, hz1⟩ : ∃ z1, zAt zs i1 = z1 := ⟨_, rfl⟩
              have HZ1 := hid_of hz1
              rw [hz1] at cz1
              clear hz1
              by_cases h47 : z1 = 47
              · have n47 : (z1 == 47) = true := by rw [h47]; rfl
                have HIE := hid_of (HE1.out hl1 (by rw [HZ1.out, h47]))
                clear h47
                cases hwd : wordR nm (zs.drop i2) with
                | true =>
                  rw [hwd] at HIE
                  go_wp2_with fail
                  (go_at_call 36; refine (HWS.out (H3.out (by first | rfl | trivial)) _ i2 hB (by have := HI1.out; have := HI2.out; omega)).mono ?_; rintro e w2 ⟨rfl, hb2⟩; rw [hwd])
                  have hB2 := hB.trans (hb2.mono hB.size)
                  go_wp2_with fail
                  go_roundw
                  case rel => exact ⟨i1, 1, fr, by have := HI1.out; omega, by first | rfl | trivial | go_num, by first | rfl | trivial | go_num, by first | rfl | trivial | go_num, HO.out 1 fr (by have h := rnd_two (b := true) (fr := fr) HZ60.out (by rw [HI1.out]; exact HIE.out); first | exact h | simpa using h), hB2⟩
                  case measure => have := HI1.out; simp [intOf]; omega
                | false =>
                  rw [hwd] at HIE
                  go_wp2_with fail
                  (go_at_call 36; refine (HWS.out (H3.out (by first | rfl | trivial)) _ i2 hB (by have := HI1.out; have := HI2.out; omega)).mono ?_; rintro e w2 ⟨rfl, hb2⟩; rw [hwd])
                  have hB2 := hB.trans (hb2.mono hB.size)
                  go_wp2_with fail
                  go_roundw
                  case rel => exact ⟨i1, 2, fr, by have := HI1.out; omega, by first | rfl | trivial | go_num, by first | rfl | trivial | go_num, by first | rfl | trivial | go_num, HO.out 2 fr (by have h := rnd_two (b := false) (fr := fr) HZ60.out (by rw [HI1.out]; exact HIE.out); first | exact h | simpa using h), hB2⟩
                  case measure => have := HI1.out; simp [intOf]; omega
              · have n47 : (z1 == 47) = false := by simpa using h47
                have HIE := hid_of (HE0.out (.inr (by rw [HZ1.out]; exact h47)))
                clear h47
                go_wp2_with fail
                go_roundw
                case rel => exact ⟨i1, 2, fr, by have := HI1.out; omega, by first | rfl | trivial | go_num, by first | rfl | trivial | go_num, by first | rfl | trivial | go_num, HO.out 2 fr (by have h := rnd_two (b := false) (fr := fr) HZ60.out (by rw [HI1.out]; exact HIE.out); first | exact h | simpa using h), hB⟩
                case measure => have := HI1.out; simp [intOf]; omega
            · have hd1 : decide ((i1 : Int) < (zs.length : Int)) = false := by simp; omega
              have HIE := hid_of (HE0.out (.inl hl1))
              go_wp2_with fail
              go_roundw
              case rel => exact ⟨i1, 2, fr, by have := HI1.out; omega, by first | rfl | trivial | go_num, by first | rfl | trivial | go_num, by first | rfl | trivial | go_num, HO.out 2 fr (by have h := rnd_two (b := false) (fr := fr) HZ60.out (by rw [HI1.out]; exact HIE.out); first | exact h | simpa using h), hB⟩
              case measure => have := HI1.out; simp [intOf]; omega
      · have n60 : (z != 60) = true := by simpa using h60
        have HP := hid_of (fun hn => rnd_plain (sc := sc) (nm := nm) (k := k) (esc := esc) (fr := fr) (zs := zs) (by rw [HZK.out]; exact h60) hn)
        clear h60
        by_cases he : 0 < esc
        · have e0 : decide ((esc : Int) > 0) = true := by simp; omega
          by_cases h62 : z = 62
          · have n62 : (z == 62) = true := by rw [h62]; rfl
            have HZ62 : Hid (zAt zs k = 62) := by show zAt zs k = 62; rw [HZK.out, h62]
            clear h62
            by_cases hf2 : fr + 2 ≤ k
            · obtain ⟨j2, hj2⟩ : ∃ j2, k - 2 = j2 := ⟨_, rfl⟩
              have hwm : IntKind.i64.wrap ((k : Int) - 2) = (j2 : Int) := by rw [IntKind.wrap_i64]; omega
              have hge : fr ≤ j2 := by omega
              have HTX := hid_of (HTD.out (by omega))
              rw [hj2] at HTX
              have HJ2 := hid_of hj2
              have hj2l : j2 ≤ 1000000000 := by omega
              clear hj2
              cases htx : textR zs j2 [45, 45] with
              | true =>
                have HQ : Hid (rnd sc nm zs k esc fr = some (0, fr)) := by
                  have h := HTX.out; rw [htx, eq_comm, Bool.and_eq_true, decide_eq_true_eq, decide_eq_true_eq] at h
                  exact rnd_close ⟨he, HZ62.out, hf2, h.1, by rw [HJ2.out]; exact h.2⟩
                go_wp2_with fail
                (go_at_call 35; refine (HT.out _ j2 [45, 45] hB (by omega) (by decide) (by decide)).mono ?_; rintro e w2 ⟨rfl, hb2⟩; rw [htx])
                have hB2 := hB.trans (hb2.mono hB.size)
                go_wp2_with fail
                go_roundw
                case rel => exact ⟨i1, 0, fr, by have := HI1.out; omega, by first | rfl | trivial | go_num, by first | rfl | trivial | go_num, by first | rfl | trivial | go_num, HO.out 0 fr (HQ.out), hB2⟩
                case measure => have := HI1.out; simp [intOf]; omega
              | false =>
                have HQ : Hid (rnd sc nm zs k esc fr = some (esc, fr)) := by
                  refine HP.out (fun hx => ?_)
                  have h := HTX.out
                  rw [htx, hx.2.2.2.1, ← HJ2.out, hx.2.2.2.2] at h
                  simp at h
                go_wp2_with fail
                (go_at_call 35; refine (HT.out _ j2 [45, 45] hB (by omega) (by decide) (by decide)).mono ?_; rintro e w2 ⟨rfl, hb2⟩; rw [htx])
                have hB2 := hB.trans (hb2.mono hB.size)
                have cz2 := cell_keep cz hb2
                go_wp2_with fail
                go_roundw
                case rel => exact ⟨i1, esc, fr, by have := HI1.out; omega, by first | rfl | trivial | go_num, by first | rfl | trivial | go_num, by first | rfl | trivial | go_num, HO.out esc fr (HQ.out), hB2⟩
                case measure => have := HI1.out; simp [intOf]; omega
            · have hge : decide (IntKind.i64.wrap ((k : Int) - 2) ≥ (fr : Int)) = false := by rw [IntKind.wrap_i64]; simp; omega
              have hwm : IntKind.i64.wrap ((k : Int) - 2) = (k : Int) - 2 := by rw [IntKind.wrap_i64]; omega
              rw [hwm] at hge
              go_wp2_with fail
              go_roundw
              case rel => exact ⟨i1, esc, fr, by have := HI1.out; omega, by first | rfl | trivial | go_num, by first | rfl | trivial | go_num, by first | rfl | trivial | go_num, HO.out esc fr (HP.out (fun hx => hf2 hx.2.2.1)), hB⟩
              case measure => have := HI1.out; simp [intOf]; omega
          · have n62 : (z == 62) = false := by simpa using h62
            have HX62 := hid_of h62
            clear h62
            go_wp2_with fail
            go_roundw
            case rel => exact ⟨i1, esc, fr, by have := HI1.out; omega, by first | rfl | trivial | go_num, by first | rfl | trivial | go_num, by first | rfl | trivial | go_num, HO.out esc fr (HP.out (fun hx => HX62.out (by rw [← HZK.out]; exact hx.2.1))), hB⟩
            case measure => have := HI1.out; simp [intOf]; omega
        · obtain rfl : esc = 0 := by omega
          go_wp2_with fail
          go_roundw
          case rel => exact ⟨i1, 0, fr, by have := HI1.out; omega, by first | rfl | trivial | go_num, by first | rfl | trivial | go_num, by first | rfl | trivial | go_num, HO.out 0 fr (HP.out (fun hx => by omega)), hB⟩
          case measure => have := HI1.out; simp [intOf]; omega
    · obtain rfl : k = zs.length := by omega
      have HFK := hid_of (HF.out.symm.trans (rel_end hR.out))
      go_wp2_with fail
      (try simp only [Exit.inBlock, Exit.then])
      go_ret2
      exact ⟨ret_is (by rw [HFK.out]; rfl), hB⟩
end Go.Proofs.YtegkdgmpkfpjmaaDoor.R
