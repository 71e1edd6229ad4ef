/- What is proved here: the statement NestTables (in a right stack each part of a table, each item stands where it must; no p around a block, no a around an a, no heading around a heading, but behind a wall) holds for stacks up to the size that the statement's narrower form names, with no other condition. -/
import Derived.Test.YtdkcibafbdmajaaNeRead
import Derived.Test.YtdkcibafbdmajaaNeLast
import Derived.Test.YtdkcibafbdmajaaNeTFacts
import Derived.Deep.CutBlock
namespace Go.Proofs.Ytdkcibafbdmajaa.NeTables
open Go.ChangeShapes Go.WideShapes Go.ChangeAt Go.RowKit Go.Shelf N C E

theorem sw5 : SW 5 = [[104, 49], [104, 50], [104, 51], [104, 52], [104, 53], [104, 54]] := by decide +kernel
theorem inL_walls : inL [[116, 100], [116, 104], [99, 97, 112, 116, 105, 111, 110], [116, 97, 98, 108, 101]] = wallB := by
  funext y
  rw [Bool.eq_iff_iff]
  simp [inL, wallB, cellB, xTd, xTh, xCaption, xTable, or_assoc]
theorem inL_cells : inL [[116, 100], [116, 104], [99, 97, 112, 116, 105, 111, 110]] = cellB := by
  funext y
  rw [Bool.eq_iff_iff]
  simp [inL, cellB, xTd, xTh, xCaption]
theorem inL_p : inL [[112]] = isB xP := by
  funext y
  rw [Bool.eq_iff_iff]
  simp [inL, isB, xP]
theorem inL_a : inL [[97]] = isB xA := by
  funext y
  rw [Bool.eq_iff_iff]
  simp [inL, isB, xA]
theorem inL_heads : inL [[104, 49], [104, 50], [104, 51], [104, 52], [104, 53], [104, 54]] = headB := by
  funext y
  unfold headB inZ
  rw [if_pos (by decide), show (5 : Int).toNat = 5 from rfl, sw5]
  unfold inL
  rw [Bool.eq_iff_iff, List.contains_iff_mem, decide_eq_true_eq]
/-- What is known of a place of a right stack. -/
theorem f_a {S : List Txt} {L k : Nat} (hr : rightK S L = true) (hk : k < L) (h : S.getD k [] = [97]) : decide (lastK S [[97]] k > lastK S [[116, 100], [116, 104], [99, 97, 112, 116, 105, 111, 110]] k) = false := by
  have := ra_of (right_take hr hk)
  rw [h] at this
  have h1 := last_below (RA.noA this)
  unfold lastK
  rw [inL_a, inL_cells]
  exact decide_eq_false h1
theorem f_p {S : List Txt} {L k : Nat} (hr : rightK S L = true) (hk : k < L) (h : blockB (S.getD k []) = true) : decide (lastK S [[112]] k > lastK S [[116, 100], [116, 104], [99, 97, 112, 116, 105, 111, 110], [116, 97, 98, 108, 101]] k) = false := by
  have h1 := last_below (no_p hr hk h)
  unfold lastK
  rw [inL_p, inL_walls]
  exact decide_eq_false h1
theorem f_h {S : List Txt} {L k : Nat} (hr : rightK S L = true) (hk : k < L) (h : headB (S.getD k []) = true) : decide (lastK S [[104, 49], [104, 50], [104, 51], [104, 52], [104, 53], [104, 54]] k > lastK S [[116, 100], [116, 104], [99, 97, 112, 116, 105, 111, 110], [116, 97, 98, 108, 101]] k) = false := by
  have h1 := last_below ((ra_of (right_take hr hk)).noHead h)
  unfold lastK
  rw [inL_heads, inL_walls]
  exact decide_eq_false h1
theorem bal {w X : World} (h : Below w.heap.size w X) (o : Obj) : Below w.heap.size w (X.alloc o) := h.alloc h.size o
set_option maxRecDepth 100000 in
set_option maxHeartbeats 40000000 in
theorem walk (w : World) (hm : MaxOk w) (a : Option Addr) (c : Nat) (S : List Txt) (hc : S.length ≤ c) (hT : TextsAt w a S) (hl : S.length ≤ 1048576) (hx : ∀ x ∈ S, x.length ≤ 1048576) :
    Calls Try.prog 7 #[.slice a S.length c] w fun e w' => e = .returned (.bool true) ∧ Below w.heap.size w w' := by
  have HAW : Hid (∀ W, Below w.heap.size w W → Calls Try.prog 9 #[] W fun e w' => e = .returned (.bool true) ∧ Below W.heap.size W w') := fun W hW => awake_calls W (hm.below hW)
  have HM := hid_of hm
  have HLG : Hid (∀ W, Calls Try.prog 8 #[.slice a S.length c] W fun e w' => e = .returned (.bool (decide (600 < S.length))) ∧ w' = W) := fun W => long_calls a S.length c (by omega) W
  by_cases hlong : 600 < S.length
  · rw [decide_eq_true hlong] at HLG
    clear hm hT hx hlong
    go_enter Try.func7, Try.ntmps7
    go_wp2_with (first
      | (go_at_call 8; refine (HLG.out _).mono ?_; rintro e w' ⟨rfl, rfl⟩)
      | (go_at_call 9; refine (HAW.out _ (Below.refl _ _)).mono ?_; rintro e w2 ⟨rfl, hb2⟩))
    go_ret
    exact ⟨rfl, hb2⟩
  · rw [decide_eq_false hlong] at HLG
    have hst := stack_of hc hT (by omega) hx
    have HST := hid_of hst
    have HR := hid_of (Right_calls w hm a S c hst)
    have hfew := hst.few.each
    clear hm hT hx hlong hst
    cases hr : rightK S S.length
    · rw [hr] at HR
      clear hr
      go_enter Try.func7, Try.ntmps7
      go_wp2_with (first
        | (go_at_call 8; refine (HLG.out _).mono ?_; rintro e w' ⟨rfl, rfl⟩)
        | (go_at_call 15; refine HR.out.mono ?_; rintro e w1 ⟨rfl, hb1⟩)
        | (go_at_call 9; refine (HAW.out _ hb1).mono ?_; rintro e w2 ⟨rfl, hb2⟩))
      go_ret
      exact ⟨rfl, hb1.trans (hb2.mono hb1.size)⟩
    · rw [hr] at HR
      have HRR := hid_of hr
      clear hr
      go_enter Try.func7, Try.ntmps7
      go_wp2_with fail
      (go_at_call 8; refine (HLG.out _).mono ?_; rintro e w' ⟨rfl, hw'⟩; have hx' := hw'.symm; subst hx')
      go_wp2_with fail
      (go_at_call 15; refine HR.out.mono ?_; rintro e w1 ⟨rfl, hb1⟩)
      have HB1 := hid_of hb1
      clear hb1
      go_wp2_with fail
      go_loopw [2, 18] (fun _ i wr => ∃ k : Nat, k ≤ S.length ∧ i = .int .i64 k ∧ Hid (Below w.heap.size w wr)) (fun _ i _ => S.length - (intOf i).toNat)
      case atStart => exact ⟨0, by omega, rfl, HB1.out⟩
      case round =>
        obtain ⟨k, hk, rfl, hB⟩ := hrel
        by_cases hlt : k < S.length
        · obtain ⟨b, off, rfl, hcx⟩ := (HST.out.below hB.out).txt k hlt
          have HRA := hid_of (ra_of (right_take HRR.out hlt))
          have FA := hid_of (fun h => f_a HRR.out hlt (h : S.getD k [] = [97]))
          have FP := hid_of (fun h => f_p HRR.out hlt (h : blockB (S.getD k []) = true))
          have FH := hid_of (fun h => f_h HRR.out hlt (h : headB (S.getD k []) = true))
          have FROW : Hid (0 < k → S.getD (k - 1) [] = xTr → S.getD k [] = xTd ∨ S.getD k [] = xTh) := fun h0 => on_row HRR.out hlt h0
          have hcu : 0 < k → wr.cell? ⟨b, off + (k - 1), none⟩ = some (.string ⟨(S.getD (k - 1) []).toArray⟩) := fun h0 => by
            obtain ⟨b', off', e, h⟩ := (HST.out.below hB.out).txt (k - 1) (by omega)
            cases e
            exact h
          have hxl := hfew k
          obtain ⟨x, hx⟩ : ∃ x, S.getD k [] = x := ⟨_, rfl⟩
          rw [hx] at hcx HRA FA FP FH FROW hxl
          have HIN : Hid (∀ z W, Below w.heap.size w W → Calls Try.prog 31 #[.string ⟨x.toArray⟩, .int .i64 z] W fun e w' => e = .returned (.bool (inZ z x)) ∧ w' = W) := fun z W hW => by
            have := in_calls ⟨x.toArray⟩ z W (by show x.toArray.size ≤ _; simp; omega) (HM.out.below hW)
            rwa [show (⟨x.toArray⟩ : ByteArray).data.toList = x from rfl] at this
          have HLA : Hid (∀ (X : World) (P : List Txt) (cs : Array Value), Below w.heap.size w X → cs = (P.map fun x => Value.string ⟨x.toArray⟩).toArray → P.length ≤ 100 → Calls Try.prog 32 #[.slice (some ⟨b, off, none⟩) S.length c, .int .i64 (k : Int), .slice (some ⟨X.heap.size, 0, none⟩) P.length P.length] (X.alloc (.cells cs 9)) fun e w' => e = .returned (.int .i64 (lastK S P k)) ∧ w' = X.alloc (.cells cs 9)) := fun X P cs hX hcs hP =>
            last_calls' S P _ _ c P.length k _ (by have := HST.out.len; omega) (by omega) hk ((HST.out.below hX).txt.below ((Below.refl _ X).alloc (Nat.le_refl _) _)) (lit_texts X P cs hcs)
          have hvo : inZ 0 x = false := HRA.out.void
          obtain ⟨lw, hlw⟩ : ∃ z, lastK S [[116, 100], [116, 104], [99, 97, 112, 116, 105, 111, 110], [116, 97, 98, 108, 101]] k = z := ⟨_, rfl⟩
          obtain ⟨lp, hlp⟩ : ∃ z, lastK S [[112]] k = z := ⟨_, rfl⟩
          obtain ⟨la, hla⟩ : ∃ z, lastK S [[97]] k = z := ⟨_, rfl⟩
          obtain ⟨lc, hlc⟩ : ∃ z, lastK S [[116, 100], [116, 104], [99, 97, 112, 116, 105, 111, 110]] k = z := ⟨_, rfl⟩
          obtain ⟨lh, hlh⟩ : ∃ z, lastK S [[104, 49], [104, 50], [104, 51], [104, 52], [104, 53], [104, 54]] k = z := ⟨_, rfl⟩
          rw [hla, hlc] at FA
          rw [hlp, hlw] at FP
          rw [hlh, hlw] at FH
          have HLW : Hid (∀ (X : World) (n : Nat), X.heap.size = n → Below w.heap.size w X → Calls Try.prog 32 #[.slice (some ⟨b, off, none⟩) S.length c, .int .i64 (k : Int), .slice (some ⟨n, 0, none⟩) 4 4] (X.alloc (.cells #[.string ⟨#[116, 100]⟩, .string ⟨#[116, 104]⟩, .string ⟨#[99, 97, 112, 116, 105, 111, 110]⟩, .string ⟨#[116, 97, 98, 108, 101]⟩] 9)) fun e w' => e = .returned (.int .i64 lw) ∧ w' = X.alloc (.cells #[.string ⟨#[116, 100]⟩, .string ⟨#[116, 104]⟩, .string ⟨#[99, 97, 112, 116, 105, 111, 110]⟩, .string ⟨#[116, 97, 98, 108, 101]⟩] 9)) := fun X n hn hX => by
            subst hn
            have h := HLA.out X [[116, 100], [116, 104], [99, 97, 112, 116, 105, 111, 110], [116, 97, 98, 108, 101]] #[.string ⟨#[116, 100]⟩, .string ⟨#[116, 104]⟩, .string ⟨#[99, 97, 112, 116, 105, 111, 110]⟩, .string ⟨#[116, 97, 98, 108, 101]⟩] hX rfl (by decide)
            rw [hlw] at h
            exact h
          have HLP : Hid (∀ (X : World) (n : Nat), X.heap.size = n → Below w.heap.size w X → Calls Try.prog 32 #[.slice (some ⟨b, off, none⟩) S.length c, .int .i64 (k : Int), .slice (some ⟨n, 0, none⟩) 1 1] (X.alloc (.cells #[.string ⟨#[112]⟩] 9)) fun e w' => e = .returned (.int .i64 lp) ∧ w' = X.alloc (.cells #[.string ⟨#[112]⟩] 9)) := fun X n hn hX => by
            subst hn
            have h := HLA.out X [[112]] #[.string ⟨#[112]⟩] hX rfl (by decide)
            rw [hlp] at h
            exact h
          have HLAA : Hid (∀ (X : World) (n : Nat), X.heap.size = n → Below w.heap.size w X → Calls Try.prog 32 #[.slice (some ⟨b, off, none⟩) S.length c, .int .i64 (k : Int), .slice (some ⟨n, 0, none⟩) 1 1] (X.alloc (.cells #[.string ⟨#[97]⟩] 9)) fun e w' => e = .returned (.int .i64 la) ∧ w' = X.alloc (.cells #[.string ⟨#[97]⟩] 9)) := fun X n hn hX => by
            subst hn
            have h := HLA.out X [[97]] #[.string ⟨#[97]⟩] hX rfl (by decide)
            rw [hla] at h
            exact h
          have HLC : Hid (∀ (X : World) (n : Nat), X.heap.size = n → Below w.heap.size w X → Calls Try.prog 32 #[.slice (some ⟨b, off, none⟩) S.length c, .int .i64 (k : Int), .slice (some ⟨n, 0, none⟩) 3 3] (X.alloc (.cells #[.string ⟨#[116, 100]⟩, .string ⟨#[116, 104]⟩, .string ⟨#[99, 97, 112, 116, 105, 111, 110]⟩] 9)) fun e w' => e = .returned (.int .i64 lc) ∧ w' = X.alloc (.cells #[.string ⟨#[116, 100]⟩, .string ⟨#[116, 104]⟩, .string ⟨#[99, 97, 112, 116, 105, 111, 110]⟩] 9)) := fun X n hn hX => by
            subst hn
            have h := HLA.out X [[116, 100], [116, 104], [99, 97, 112, 116, 105, 111, 110]] #[.string ⟨#[116, 100]⟩, .string ⟨#[116, 104]⟩, .string ⟨#[99, 97, 112, 116, 105, 111, 110]⟩] hX rfl (by decide)
            rw [hlc] at h
            exact h
          have HLH : Hid (∀ (X : World) (n : Nat), X.heap.size = n → Below w.heap.size w X → Calls Try.prog 32 #[.slice (some ⟨b, off, none⟩) S.length c, .int .i64 (k : Int), .slice (some ⟨n, 0, none⟩) 6 6] (X.alloc (.cells #[.string ⟨#[104, 49]⟩, .string ⟨#[104, 50]⟩, .string ⟨#[104, 51]⟩, .string ⟨#[104, 52]⟩, .string ⟨#[104, 53]⟩, .string ⟨#[104, 54]⟩] 9)) fun e w' => e = .returned (.int .i64 lh) ∧ w' = X.alloc (.cells #[.string ⟨#[104, 49]⟩, .string ⟨#[104, 50]⟩, .string ⟨#[104, 51]⟩, .string ⟨#[104, 52]⟩, .string ⟨#[104, 53]⟩, .string ⟨#[104, 54]⟩] 9)) := fun X n hn hX => by
            subst hn
            have h := HLA.out X [[104, 49], [104, 50], [104, 51], [104, 52], [104, 53], [104, 54]] #[.string ⟨#[104, 49]⟩, .string ⟨#[104, 50]⟩, .string ⟨#[104, 51]⟩, .string ⟨#[104, 52]⟩, .string ⟨#[104, 53]⟩, .string ⟨#[104, 54]⟩] hX rfl (by decide)
            rw [hlh] at h
            exact h
          clear hx hxl hlw hlp hla hlc hlh HLA
          have hb' := hB.out
          obtain ⟨up, hup⟩ : ∃ u, (if 0 < k then S.getD (k - 1) [] else []) = u := ⟨_, rfl⟩
          have hup1 : 0 < k → S.getD (k - 1) [] = up := fun h => by rw [← hup, if_pos h]
          have hup0 : ¬ 0 < k → up = [] := fun h => by rw [← hup, if_neg h]
          have U1 : Hid (partB x = true → up = [116, 97, 98, 108, 101]) := fun h => by
            obtain ⟨h0, h1⟩ := HRA.out.part (own_part h)
            rw [← hup1 h0]; exact h1
          have U2 : Hid (x = [116, 114] → groupB up = true) := fun h => by
            subst h
            obtain ⟨h0, h1⟩ := HRA.out.row
            rw [← hup1 h0]; exact h1
          have U3 : Hid (x = [116, 100] ∨ x = [116, 104] → up = [116, 114]) := fun h => by
            obtain ⟨h0, h1⟩ := HRA.out.cell (by rcases h with rfl | rfl <;> rfl)
            rw [← hup1 h0]; exact h1
          have U4 : Hid (x = [108, 105] → listB up = true) := fun h => by
            subst h
            obtain ⟨h0, h1⟩ := HRA.out.item
            rw [← hup1 h0]; exact h1
          have U5 : Hid (x = [100, 116] ∨ x = [100, 100] → up = [100, 108]) := fun h => by
            obtain ⟨h0, h1⟩ := HRA.out.term (by rcases h with rfl | rfl <;> rfl)
            rw [← hup1 h0]; exact h1
          have U6 : Hid (up = [116, 97, 98, 108, 101] → partB x = true) := fun h => by
            by_cases h0 : 0 < k
            · exact HRA.out.onTable h0 ((hup1 h0).trans h)
            · rw [hup0 h0] at h; cases h
          have U7 : Hid (up = [116, 114] → x = [116, 100] ∨ x = [116, 104]) := fun h => by
            by_cases h0 : 0 < k
            · exact FROW.out h0 ((hup1 h0).trans h)
            · rw [hup0 h0] at h; cases h
          have U8 : Hid (up ≠ [116, 101, 120, 116, 97, 114, 101, 97]) := fun h => by
            by_cases h0 : 0 < k
            · exact HRA.out.notArea h0 ((hup1 h0).trans h)
            · rw [hup0 h0] at h; cases h
          have HCU : Hid (0 < k → wr.cell? ⟨b, off + (k - 1), none⟩ = some (.string ⟨up.toArray⟩)) := fun h => by rw [← hup1 h]; exact hcu h
          have HUP0 := hid_of hup0
          clear FROW hcu hup hup1 hup0 HRA HRR
          go_upto_if 24 with fail
          go_cut [5] from 19 to 157 (fun v wx => v = .string ⟨up.toArray⟩ ∧ wx = wr)
          case first =>
            by_cases h0 : 0 < k
            · have hcu1 := HCU.out h0
              have hk0 : decide ((k : Int) > 0) = true := decide_eq_true (by omega)
              have hki : IntKind.i64.wrap ((k : Int) - 1) = ((k - 1 : Nat) : Int) := by rw [IntKind.wrap_i64]; omega
              have hkn : (0 : Int) ≤ ((k - 1 : Nat) : Int) := by omega
              have hkl : ((k - 1 : Nat) : Int) < (S.length : Int) := by omega
              go_wp2_with fail
              go_meet
              all_goals exact ⟨rfl, rfl⟩
            · have hk0 : decide ((k : Int) > 0) = false := decide_eq_false (by omega)
              have hu := hid_of (HUP0.out h0)
              go_wp2_with fail
              go_meet
              all_goals exact ⟨by rw [hu.out], rfl⟩
          case rest =>
            obtain ⟨rfl, hwc⟩ := hcut
            have hwc' := hwc.symm
            subst hwc'
            clear hwc HCU HUP0 hcx
            go_upto_block 2 with (go_at_call 32; refine (HLW.out _ _ (by simp) hB.out).mono ?_; rintro e w' ⟨rfl, hw'⟩; have hx' := hw'.symm; subst hx')
            obtain ⟨W3, hW3⟩ : ∃ W, wr.alloc (.cells #[.string ⟨#[116, 100]⟩, .string ⟨#[116, 104]⟩, .string ⟨#[99, 97, 112, 116, 105, 111, 110]⟩, .string ⟨#[116, 97, 98, 108, 101]⟩] 9) = W := ⟨_, rfl⟩
            have HB3 : Hid (Below w.heap.size w W3) := by rw [← hW3]; exact hB.out.alloc hB.out.size _
            rw [hW3]
            clear hW3 HLW hb'
            go_cut [7] from 19 to 157 (fun _ wx => Hid (Below w.heap.size w wx))
            case first =>
              ·
                clear FP FH HIN HLP HLH hvo
                by_cases ecaption : x = [99, 97, 112, 116, 105, 111, 110]
                · as_aux_lemma =>
                  subst ecaption
                  have hu := U1.out (by decide)
                  subst hu
                  clear U1 U2 U3 U4 U5 U6 U7 U8
                  go_wp2_with fail
                  go_meet
                  all_goals exact HB3.out
                have gcaption : (x == [99, 97, 112, 116, 105, 111, 110]) = false := by rw [beq_eq_false_iff_ne]; exact ecaption
                by_cases ecolgroup : x = [99, 111, 108, 103, 114, 111, 117, 112]
                · as_aux_lemma =>
                  subst ecolgroup
                  have hu := U1.out (by decide)
                  subst hu
                  clear U1 U2 U3 U4 U5 U6 U7 U8
                  go_wp2_with fail
                  go_meet
                  all_goals exact HB3.out
                have gcolgroup : (x == [99, 111, 108, 103, 114, 111, 117, 112]) = false := by rw [beq_eq_false_iff_ne]; exact ecolgroup
                by_cases ethead : x = [116, 104, 101, 97, 100]
                · as_aux_lemma =>
                  subst ethead
                  have hu := U1.out (by decide)
                  subst hu
                  clear U1 U2 U3 U4 U5 U6 U7 U8
                  go_wp2_with fail
                  go_meet
                  all_goals exact HB3.out
                have gthead : (x == [116, 104, 101, 97, 100]) = false := by rw [beq_eq_false_iff_ne]; exact ethead
                by_cases etbody : x = [116, 98, 111, 100, 121]
                · as_aux_lemma =>
                  subst etbody
                  have hu := U1.out (by decide)
                  subst hu
                  clear U1 U2 U3 U4 U5 U6 U7 U8
                  go_wp2_with fail
                  go_meet
                  all_goals exact HB3.out
                have gtbody : (x == [116, 98, 111, 100, 121]) = false := by rw [beq_eq_false_iff_ne]; exact etbody
                by_cases etfoot : x = [116, 102, 111, 111, 116]
                · as_aux_lemma =>
                  subst etfoot
                  have hu := U1.out (by decide)
                  subst hu
                  clear U1 U2 U3 U4 U5 U6 U7 U8
                  go_wp2_with fail
                  go_meet
                  all_goals exact HB3.out
                have gtfoot : (x == [116, 102, 111, 111, 116]) = false := by rw [beq_eq_false_iff_ne]; exact etfoot
                by_cases etr : x = [116, 114]
                · as_aux_lemma =>
                  subst etr
                  have hg : up = [116, 104, 101, 97, 100] ∨ up = [116, 98, 111, 100, 121] ∨ up = [116, 102, 111, 111, 116] := by simpa [groupB, xThead, xTbody, xTfoot] using U2.out rfl
                  clear U1 U2 U3 U4 U5 U6 U7 U8
                  rcases hg with hu | hu | hu
                  all_goals subst hu
                  all_goals go_wp2_with fail
                  all_goals go_meet
                  all_goals exact HB3.out
                have gtr : (x == [116, 114]) = false := by rw [beq_eq_false_iff_ne]; exact etr
                by_cases etd : x = [116, 100]
                · as_aux_lemma =>
                  subst etd
                  have hu := U3.out (.inl rfl)
                  subst hu
                  clear U1 U2 U3 U4 U5 U6 U7 U8
                  go_wp2_with fail
                  go_meet
                  all_goals exact HB3.out
                have gtd : (x == [116, 100]) = false := by rw [beq_eq_false_iff_ne]; exact etd
                by_cases eth : x = [116, 104]
                · as_aux_lemma =>
                  subst eth
                  have hu := U3.out (.inr rfl)
                  subst hu
                  clear U1 U2 U3 U4 U5 U6 U7 U8
                  go_wp2_with fail
                  go_meet
                  all_goals exact HB3.out
                have gth : (x == [116, 104]) = false := by rw [beq_eq_false_iff_ne]; exact eth
                by_cases eli : x = [108, 105]
                · as_aux_lemma =>
                  subst eli
                  have hg : up = [117, 108] ∨ up = [111, 108] ∨ up = [109, 101, 110, 117] := by simpa [listB, xUl, xOl, xMenu] using U4.out rfl
                  clear U1 U2 U3 U4 U5 U6 U7 U8
                  rcases hg with hu | hu | hu
                  all_goals subst hu
                  all_goals go_wp2_with fail
                  all_goals go_meet
                  all_goals exact HB3.out
                have gli : (x == [108, 105]) = false := by rw [beq_eq_false_iff_ne]; exact eli
                by_cases edt : x = [100, 116]
                · as_aux_lemma =>
                  subst edt
                  have hu := U5.out (.inl rfl)
                  subst hu
                  clear U1 U2 U3 U4 U5 U6 U7 U8
                  go_wp2_with fail
                  go_meet
                  all_goals exact HB3.out
                have gdt : (x == [100, 116]) = false := by rw [beq_eq_false_iff_ne]; exact edt
                by_cases edd : x = [100, 100]
                · as_aux_lemma =>
                  subst edd
                  have hu := U5.out (.inr rfl)
                  subst hu
                  clear U1 U2 U3 U4 U5 U6 U7 U8
                  go_wp2_with fail
                  go_meet
                  all_goals exact HB3.out
                have gdd : (x == [100, 100]) = false := by rw [beq_eq_false_iff_ne]; exact edd
                by_cases ea : x = [97]
                · as_aux_lemma =>
                  subst ea
                  have fa := FA.out rfl
                  clear U1 U2 U3 U4 U5 U6 U7 U8
                  by_cases ha0 : la ≥ 0
                  · have hd : decide (la ≥ 0) = true := decide_eq_true ha0
                    clear ha0
                    go_wp2_with fail
                    (go_at_call 32; refine (HLAA.out _ _ (by simp) (by repeat (first | with_reducible exact HB3.out | with_reducible refine bal ?_ _))).mono ?_; rintro e w' ⟨rfl, hw'⟩; have hx' := hw'.symm; subst hx')
                    go_wp2_with fail
                    (go_at_call 32; refine (HLC.out _ _ (by simp) (by repeat (first | with_reducible exact HB3.out | with_reducible refine bal ?_ _))).mono ?_; rintro e w' ⟨rfl, hw'⟩; have hx' := hw'.symm; subst hx')
                    go_wp2_with fail
                    go_meet
                    all_goals exact bal (bal HB3.out _) _
                  · have hd : decide (la ≥ 0) = false := decide_eq_false ha0
                    clear ha0
                    go_wp2_with fail
                    (go_at_call 32; refine (HLAA.out _ _ (by simp) (by repeat (first | with_reducible exact HB3.out | with_reducible refine bal ?_ _))).mono ?_; rintro e w' ⟨rfl, hw'⟩; have hx' := hw'.symm; subst hx')
                    go_wp2_with fail
                    go_meet
                    all_goals exact bal HB3.out _
                have ga : (x == [97]) = false := by rw [beq_eq_false_iff_ne]; exact ea
                as_aux_lemma =>
                clear U1 U2 U3 U4 U5 U6 U7 U8 FA
                go_wp2_with fail
                go_meet
                all_goals exact HB3.out
            case rest =>
              have HB4 := hcut
              clear hcut HB3 HLAA HLC FA U1 U2 U3 U4 U5
              go_upto_region 36 with fail
              go_cut [114] from 19 to 157 (fun v wx => v = .bool false ∧ Hid (Below w.heap.size w wx))
              case first =>
                ·
                  clear U6 U7 U8 hvo
                  cases hbk : blockB x
                  · have h6 : inZ 6 x = false := hbk
                    cases hhd : headB x
                    · have h5 : inZ 5 x = false := hhd
                      clear FP FH hbk hhd
                      go_wp2_with fail
                      (go_at_call 31; refine (HIN.out _ _ (by repeat (first | with_reducible exact HB4.out | with_reducible refine bal ?_ _))).mono ?_; rintro e w' ⟨rfl, hw'⟩; have hx' := hw'.symm; subst hx'; rw [h6])
                      go_wp2_with fail
                      (go_at_call 31; refine (HIN.out _ _ (by repeat (first | with_reducible exact HB4.out | with_reducible refine bal ?_ _))).mono ?_; rintro e w' ⟨rfl, hw'⟩; have hx' := hw'.symm; subst hx'; rw [h5])
                      go_wp2_with fail
                      go_meet
                      all_goals exact ⟨rfl, HB4.out⟩
                    · have h5 : inZ 5 x = true := hhd
                      have fh := FH.out hhd
                      clear FP FH hbk hhd
                      go_wp2_with fail
                      (go_at_call 31; refine (HIN.out _ _ (by repeat (first | with_reducible exact HB4.out | with_reducible refine bal ?_ _))).mono ?_; rintro e w' ⟨rfl, hw'⟩; have hx' := hw'.symm; subst hx'; rw [h6])
                      go_wp2_with fail
                      (go_at_call 31; refine (HIN.out _ _ (by repeat (first | with_reducible exact HB4.out | with_reducible refine bal ?_ _))).mono ?_; rintro e w' ⟨rfl, hw'⟩; have hx' := hw'.symm; subst hx'; rw [h5])
                      go_wp2_with fail
                      (go_at_call 32; refine (HLH.out _ _ (by simp) (by repeat (first | with_reducible exact HB4.out | with_reducible refine bal ?_ _))).mono ?_; rintro e w' ⟨rfl, hw'⟩; have hx' := hw'.symm; subst hx')
                      go_wp2_with fail
                      go_meet
                      all_goals exact ⟨rfl, bal HB4.out _⟩
                  · have fp := FP.out hbk
                    have h6 : inZ 6 x = true := hbk
                    cases hhd : headB x
                    · have h5 : inZ 5 x = false := hhd
                      clear FP FH hbk hhd
                      go_wp2_with fail
                      (go_at_call 31; refine (HIN.out _ _ (by repeat (first | with_reducible exact HB4.out | with_reducible refine bal ?_ _))).mono ?_; rintro e w' ⟨rfl, hw'⟩; have hx' := hw'.symm; subst hx'; rw [h6])
                      go_wp2_with fail
                      (go_at_call 32; refine (HLP.out _ _ (by simp) (by repeat (first | with_reducible exact HB4.out | with_reducible refine bal ?_ _))).mono ?_; rintro e w' ⟨rfl, hw'⟩; have hx' := hw'.symm; subst hx')
                      go_wp2_with fail
                      (go_at_call 31; refine (HIN.out _ _ (by repeat (first | with_reducible exact HB4.out | with_reducible refine bal ?_ _))).mono ?_; rintro e w' ⟨rfl, hw'⟩; have hx' := hw'.symm; subst hx'; rw [h5])
                      go_wp2_with fail
                      go_meet
                      all_goals exact ⟨rfl, bal HB4.out _⟩
                    · have h5 : inZ 5 x = true := hhd
                      have fh := FH.out hhd
                      clear FP FH hbk hhd
                      go_wp2_with fail
                      (go_at_call 31; refine (HIN.out _ _ (by repeat (first | with_reducible exact HB4.out | with_reducible refine bal ?_ _))).mono ?_; rintro e w' ⟨rfl, hw'⟩; have hx' := hw'.symm; subst hx'; rw [h6])
                      go_wp2_with fail
                      (go_at_call 32; refine (HLP.out _ _ (by simp) (by repeat (first | with_reducible exact HB4.out | with_reducible refine bal ?_ _))).mono ?_; rintro e w' ⟨rfl, hw'⟩; have hx' := hw'.symm; subst hx')
                      go_wp2_with fail
                      (go_at_call 31; refine (HIN.out _ _ (by repeat (first | with_reducible exact HB4.out | with_reducible refine bal ?_ _))).mono ?_; rintro e w' ⟨rfl, hw'⟩; have hx' := hw'.symm; subst hx'; rw [h5])
                      go_wp2_with fail
                      (go_at_call 32; refine (HLH.out _ _ (by simp) (by repeat (first | with_reducible exact HB4.out | with_reducible refine bal ?_ _))).mono ?_; rintro e w' ⟨rfl, hw'⟩; have hx' := hw'.symm; subst hx')
                      go_wp2_with fail
                      go_meet
                      all_goals exact ⟨rfl, bal (bal HB4.out _) _⟩
              case rest =>
                obtain ⟨rfl, HB5⟩ := hcut
                clear HB4 FP FH HLP HLH
                go_upto_region 38 with fail
                go_cut [156] from 19 to 157 (fun v wx => v = .bool false ∧ wx = wc)
                case first =>
                  ·
                    by_cases h1 : up = [116, 97, 98, 108, 101]
                    · have hp := U6.out h1
                      have hq : x = [99, 97, 112, 116, 105, 111, 110] ∨ x = [99, 111, 108, 103, 114, 111, 117, 112] ∨ x = [116, 104, 101, 97, 100] ∨ x = [116, 98, 111, 100, 121] ∨ x = [116, 102, 111, 111, 116] := by simpa [partB, groupB, xCaption, xColgroup, xThead, xTbody, xTfoot] using hp
                      clear hp U6 U7 U8
                      subst h1
                      rcases hq with e | e | e | e | e
                      all_goals subst e
                      all_goals go_wp2_with fail
                      all_goals (go_at_call 31; refine (HIN.out _ _ HB5.out).mono ?_; rintro e w' ⟨rfl, hw'⟩; have hx' := hw'.symm; subst hx'; rw [hvo])
                      all_goals go_wp2_with fail
                      all_goals go_meet
                      all_goals exact ⟨rfl, rfl⟩
                    · have y1 : (up == [116, 97, 98, 108, 101]) = false := by rw [beq_eq_false_iff_ne]; exact h1
                      have y3 : (up == [116, 101, 120, 116, 97, 114, 101, 97]) = false := by rw [beq_eq_false_iff_ne]; exact U8.out
                      by_cases h2 : up = [116, 114]
                      · have hq := U7.out h2
                        clear U6 U7 U8 h1 y1 y3
                        subst h2
                        rcases hq with e | e
                        all_goals subst e
                        all_goals go_wp2_with fail
                        all_goals (go_at_call 31; refine (HIN.out _ _ HB5.out).mono ?_; rintro e w' ⟨rfl, hw'⟩; have hx' := hw'.symm; subst hx'; rw [hvo])
                        all_goals go_wp2_with fail
                        all_goals go_meet
                        all_goals exact ⟨rfl, rfl⟩
                      · have y2 : (up == [116, 114]) = false := by rw [beq_eq_false_iff_ne]; exact h2
                        clear U6 U7 U8 h1 h2
                        go_wp2_with fail
                        (go_at_call 31; refine (HIN.out _ _ HB5.out).mono ?_; rintro e w' ⟨rfl, hw'⟩; have hx' := hw'.symm; subst hx'; rw [hvo])
                        go_wp2_with fail
                        go_meet
                        all_goals exact ⟨rfl, rfl⟩
                case rest =>
                  obtain ⟨rfl, hwc⟩ := hcut
                  rw [hwc]
                  clear hwc U6 U7 U8
                  go_wp2_with fail
                  go_roundw
                  case rel => first
                    | exact ⟨k + 1, by omega, by go_num, HB5⟩
                    | repeat (first | exact ⟨⟨k + 1, by omega, by go_num, HB5⟩, rfl⟩ | apply Exists.intro)
                  case measure => simp [intOf]; omega
        · obtain rfl : k = S.length := by omega
          go_wp2_with (go_at_call 9; refine (HAW.out _ hB.out).mono ?_; rintro e w2 ⟨rfl, hb2⟩)
          go_ret
          exact ⟨rfl, hB.out.trans (hb2.mono hB.out.size)⟩
set_option maxRecDepth 100000 in
theorem contract (H : Type) (enc : TypeId × Value → H) (W : World) (base : Nat) (args : Array Value) (ds gs : List (DataW H)) (before : List MemPlace)
    (hval : ∀ (j : Nat) t v, Try.f7.params[j]? = some t → args[j]? = some v → Value.okWide Try.prog W .any base t v)
    (hW : DataW.Whole enc Try.prog Try.f7.params.toList Rows.nestTablesSpec.vars false W args.toList ds gs before) (hsh : W.ShapedOpen Try.prog) (hk : Rows.uptoSmall H (ds ++ gs) = true) :
    Calls Try.prog 7 args W fun e W' => ∃ v, e = .returned v ∧ Rows.nestTablesSpec.post enc Try.prog Try.f7 false true false false W args v W' := by
  have hW' := hW
  have hlt := hW.lt
  obtain ⟨p, q, hA0, hV, rfl, hfz, hnd⟩ := hW
  have hA : DataW.TrodAll enc Try.prog W 0 (fun _ => true) true Try.f7.params.toList args.toList ds p := hA0
  rw [Try.params7] at hA hval
  obtain ⟨v0, vs0, d0, ds0, p0, q0, hargs, rfl, rfl, h0, r0⟩ := trodAll_cons hA
  obtain ⟨rfl, rfl, rfl⟩ := trodAll_nil r0
  obtain rfl : args = #[v0] := by cases args; simp_all
  obtain ⟨rfl, rfl⟩ := trodVars_none hV
  clear hA0
  simp only [List.append_nil] at hW' hlt hk
  have hbulk := of_decide_eq_true hk
  simp only [Rows.uptoBulkAll] at hbulk
  have e0 := okWide_slice Try.underlying22 (hval 0 22 v0 rfl rfl)
  obtain ⟨wa0, wc0, ws0, rfl, cw0, hw0, l0, lx0⟩ := words_of_read e0 h0
  refine (walk W (Try.laysM144.s1_3 W hsh) wa0 wc0 ws0 cw0 hw0 (by omega) (fun x hx => by have := lx0 x hx; omega)).mono fun e W' ⟨he, hb⟩ => ?_
  subst he
  exact ⟨_, rfl, post_below hW' (fun _ _ _ => trodAll_cons_mk (shut_bool Try.underlying4 _) trodAll_mk0) (trodAll_cons_mk (stays (by kernel_rfl) (of_decide_eq_true (by kernel_rfl)) h0 hb (fun x hx => hlt x (by simp [hx]))) trodAll_mk0) rfl hb⟩

set_option maxRecDepth 100000 in
theorem laid_met (os : Os) : laidMet Try.prog Rows.nestTablesUptoRow.laid ((World.holding Try.prog os ⟨#[], #[], []⟩).forCall (fun _ _ => 0) ⟨#[], #[Value.slice none 0 0], []⟩).memory :=
  laidMet_of_run' 8 (by kernel_rfl) (by kernel_rfl)
set_option maxRecDepth 100000 in
theorem reads (os : Os) {H : Type} (enc : TypeId × Value → H) : ∃ places, DataW.whole enc Try.prog ((World.holding Try.prog os ⟨#[], #[], []⟩).forCall (fun _ _ => 0) ⟨#[], #[Value.slice none 0 0], []⟩).memory Try.f7.params.toList Rows.nestTablesSpec.vars false #[Value.slice none 0 0].toList 8 = some ([.nil], [], places) :=
  ⟨[], by kernel_rfl⟩

set_option maxRecDepth 100000 in
theorem lifted (os : Os) (started : os.Started) (H : Type) (enc : TypeId × Value → H) (F : Stop.Interp) :
    ReturnsInHanded {} Try.checked os 7 .any ((Rows.OpenSpec.upto Rows.nestTablesSpec).preRow enc Try.prog Try.f7 Rows.nestTablesUptoRow.domain false Rows.nestTablesUptoRow.laid) (((Rows.OpenSpec.upto Rows.nestTablesSpec).at F).post enc Try.prog Try.f7 false true false false) := by
  obtain ⟨places, hx⟩ := reads os enc
  refine returnsInHanded_of_row (C := Try.checked) (s := Rows.OpenSpec.upto Rows.nestTablesSpec) own started (by kernel_rfl) Try.func7
    (witness_row_at (enc := enc) (C := Try.checked) false (World.holding Try.prog os ⟨#[], #[], []⟩) #[Value.slice none 0 0] rfl (by kernel_rfl) (by kernel_rfl) (by kernel_rfl)
      (OpenSpec.preRow_of_cond 8 hx (by kernel_rfl) (fun k hk => by cases hk; kernel_rfl) (by kernel_rfl) (laid_met os))) ?_
  intro W base args ds gs before hval hW _ hcond _ hL hsh _
  exact contract H enc W base args ds gs before hval hW hsh (hcond _ rfl)

set_option maxRecDepth 100000 in
theorem said : Rows.NestTablesUptoSaid :=
  OpenClaim.holds_of_cond 7 Try.f7 rfl rfl rfl rfl rfl rfl rfl ⟨rfl, rfl, rfl, rfl, rfl⟩ rfl rfl rfl rfl rfl (by kernel_rfl) Try.func7 (by kernel_rfl)
    (of_decide_eq_true (by kernel_rfl)) (by unfold Func.isWrapper; first | (rw [if_pos (by decide +kernel)]; kernel_rfl) | (rw [if_neg (by decide +kernel)]; exact ⟨rfl, rfl⟩))
    (fun os started H enc _ F => by rw [OpenClaim.pre_eq_preRow]; exact lifted os started H enc F)


end Go.Proofs.Ytdkcibafbdmajaa.NeTables
