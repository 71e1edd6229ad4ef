/- What is proved here: the statement RawPuts (any runes, one by one, with what is sure taken now and then: each answer of the scanner is the document's, and so is what it holds) holds where the name and the runes have no more than 2^20 bytes together with what else the row counts, with no other condition but what the card says of the listed tables. -/
import Derived.Lib.QuietBelow
import Derived.BigQuiet
import Derived.Test.YtegkdgmpkfpjmaaDoorCards
import Derived.Test.YtegkdgmpkfpjmaaDoorTie
import Derived.Test.YtegkdgmpkfpjmaaDoorBun1
import Derived.Test.YtegkdgmpkfpjmaaDoorBun13
import Derived.Test.YtegkdgmpkfpjmaaDoorRSure
import Derived.Test.YtegkdgmpkfpjmaaDoorRPutsM
import Derived.ProofKit
import Derived.OpenShut
namespace Go.Proofs.YtegkdgmpkfpjmaaDoor.RPutsL
open Go.ChangeShapes Go.WideShapes Go.ChangeAt Go.RowKit U N R

set_option maxRecDepth 100000 in
set_option maxHeartbeats 2000000 in
/-- Of a name whose content is data. -/
theorem walk_data (w : World) (hT : Tb w) (hm : MaxOk w) (l : List UInt8) (v : Value) (k : Int) (hl : l.length ≤ 1048576) (hw : whZ l = 0) :
    Calls Tryd.prog 5 #[.string ⟨l.toArray⟩, v, .int .i64 k] w fun e w' => e = .returned (.bool true) ∧ Below w.heap.size w w' := by
  have HL : Hid (∀ W, Below w.heap.size w W → Calls Tryd.prog 10 #[] W fun e w' => e = .returned (.bool true) ∧ Below W.heap.size W w') := fun W h => awake_calls W (tabs_below hT h) (max_below hm h)
  have HN := hid_of (new_data l w hw (by omega) hm)
  have HW := hid_of (rwhere_calls l w)
  rw [hw] at HW
  clear hT hm hw
  go_enter Tryd.func5, Tryd.ntmps5
  go_wp2_with fail
  (go_at_call 18; refine HN.out.mono ?_; rintro e w2 ⟨rfl, h2⟩; obtain rfl : w = w2 := h2.symm)
  go_wp2_with fail
  (go_at_call 11; refine HW.out.mono ?_; rintro e w3 ⟨rfl, hb3⟩)
  go_wp2_with fail
  (go_at_call 9; refine (num_calls 100 _ (by decide) (by decide)).mono ?_; rintro e w2 ⟨rfl, h2⟩; obtain rfl : w3 = w2 := h2.symm)
  go_wp2_with fail
  (go_at_call 10; refine (HL.out _ hb3).mono ?_; rintro e w9 ⟨rfl, hb9⟩)
  go_wp2_with fail
  go_ret
  exact ⟨rfl, hb3.trans (hb9.mono hb3.size)⟩

theorem getD_zAt (ys : List Int) (k : Nat) : ys.getD k 0 = zAt ys k := by simp [zAt]
theorem getD_mem (ys : List Int) (k : Nat) (h : k < ys.length) : ys.getD k 0 ∈ ys := by
  have e : ys.getD k 0 = ys[k] := by simp [h]
  rw [e]; exact List.getElem_mem h
set_option maxRecDepth 100000 in
set_option maxHeartbeats 8000000 in
theorem walk_some (w : World) (hT : Tb w) (hm : MaxOk w) (l : List UInt8) (hw : whZ l ≠ 0) (a : Option Addr) (cap : Nat) (ys : List Int) (hI : HasR w a ys.length cap ys) (hc : ys.length ≤ cap) (hz : ∀ z ∈ ys, -2147483648 ≤ z ∧ z ≤ 2147483647) (hy : ys.length ≤ 1048576) (mask : Int) (_hk : (Lit.int .i64 mask).wf = true) :
    Calls Tryd.prog 5 #[.string ⟨l.toArray⟩, .slice a ys.length cap, .int .i64 mask] w fun e w' => e = .returned (.bool true) ∧ Below w.heap.size w w' := by
  have HL : Hid (∀ W, Below w.heap.size w W → Calls Tryd.prog 10 #[] W fun e w' => e = .returned (.bool true) ∧ Below W.heap.size W w') := fun W h => awake_calls W (tabs_below hT h) (max_below hm h)
  have hln := wh_len l hw
  have sl := arr_size l
  have HNEW : Hid (Calls Tryd.prog 18 #[.string ⟨l.toArray⟩] w (NewEnd w l)) := new_calls l w hw hm
  have HWH := hid_of (fun W => rwhere_calls l W)
  have HEND : Hid (∀ W, Below w.heap.size w W → Calls Tryd.prog 19 #[.string ⟨l.toArray⟩, .slice a ys.length cap] W fun e w' => e = .returned (endV (refR (R.zs l) (p0 l) ys) ys.length) ∧ Below W.heap.size W w') := fun W hb => rend_calls l hw a ys.length cap ys W (hI.below hb) hz (by omega)
  have HSURE : Hid (∀ k W, k ≤ ys.length → (Dk (R.zs l) (p0 l) ys k).p ≠ 6 → Below w.heap.size w W → Calls Tryd.prog 21 #[.string ⟨l.toArray⟩, .slice a k cap] W fun e w' => e = .returned (.int .i64 ((Dk (R.zs l) (p0 l) ys k).o.length : Nat)) ∧ Below W.heap.size W w') := fun k W hk h6 hb => by
    have h := sure_calls l hw a k cap (ys.take k) W (hasI_take (hI.below hb) k hk) (fun z hz' => hz z (List.mem_of_mem_take hz')) (by simp; omega) h6
    rw [(dk_sure (p0_range l).1 (p0_range l).2 hk h6).1] at h
    exact h
  have HP := hid_of (p0_range l)
  have HNM := hid_of (wh_ok l hw)
  have hzl : (R.zs l).length = l.length := by simp
  have HI := hid_of hI
  have HZ := hid_of hz
  have HC := hid_of hc
  have hwn : ((whZ l : Int) == 0) = false := by simp; omega
  have mixed : Tryd.prog.follows .mixedOrders = true := by kernel_rfl
  obtain ⟨nm, hnm⟩ : ∃ nm, R.zs l = nm := ⟨_, rfl⟩
  obtain ⟨p, hp⟩ : ∃ p, p0 l = p := ⟨_, rfl⟩
  have HNE : Hid (∀ e W', NewEnd w l e W' → ∃ sc, e = .returned (.tuple #[.pointer (some ⟨w.heap.size + 1, 0, none⟩), .int .i64 0]) ∧ ScAt W' w.heap.size sc nm (s0 p) ∧ Below w.heap.size w W') := fun e W' h => by rw [← hnm, ← hp]; exact h
  rw [hnm, hp] at HEND HSURE
  rw [hnm] at HNM hzl
  rw [hp] at HP
  obtain ⟨wz, hwz⟩ : ∃ wz, whZ l = wz := ⟨_, rfl⟩
  rw [hwz] at HWH hwn
  clear hT hm hw hI hz hnm hp hwz hc
  go_enter Tryd.func5, Tryd.ntmps5
  go_wp2_with fail
  (go_at_call 18; refine HNEW.out.mono ?_; rintro e w1 hne; obtain ⟨sc, rfl, hS1, hb1⟩ := HNE.out _ _ hne)
  have hs1 := hS1.lt
  obtain ⟨g, hg⟩ : ∃ g, w.heap.size = g := ⟨_, rfl⟩
  rw [hg] at hS1 hs1 ⊢
  have HG := hid_of hg
  have HS1 := hid_of hS1
  have HB1 := hid_of hb1
  clear hne hS1 hg hb1
  go_wp2_with fail
  (go_at_call 11; refine (HWH.out _).mono ?_; rintro e w2 ⟨rfl, hb2⟩)
  have HS2 := hid_of (HS1.out.below hb2)
  have HB2 := hid_of (HB1.out.trans (hb2.mono HB1.out.size))
  clear HS1 HB1 hb2
  go_wp2_with fail
  (go_at_call 9; refine (num_calls 0 _ (by decide) (by decide)).mono ?_; rintro e w3 ⟨rfl, h2'⟩; obtain rfl : w2 = w3 := h2'.symm)
  go_wp2_with fail
  (go_at_call 19; refine (HEND.out _ HB2.out).mono ?_; rintro e w3 ⟨rfl, hb3⟩)
  have HS3 := hid_of (HS2.out.below hb3)
  have HB3 := hid_of (HB2.out.trans (hb3.mono HB2.out.size))
  clear HS2 HB2 hb3 HEND HNEW HNE HWH
  cases hr : refR nm p ys with
  | none =>
    have hv : endV none ys.length = .tuple #[.int .i64 (ys.length : Nat), .bool false] := rfl
    rw [hv]
    have H6 : Hid (∀ k, (Dk nm p ys k).p ≠ 6) := fun k => dk_none HNM.out HP.out.1 HP.out.2 hr k
    obtain ⟨lst, hlst⟩ : ∃ lst : Nat, (ys.length : Int) + 2 + (l.length : Int) = (lst : Int) := ⟨ys.length + 2 + l.length, by omega⟩
    have HLST : Hid (ys.length + 2 + l.length = lst) := by show _ = _; omega
    clear hv hr
    go_wp2_with fail
    clear hlst
    go_loopw [12, 60] (fun vt vi wr => ∃ k td : Nat, k ≤ ys.length ∧ vt = .int .i64 td ∧ vi = .int .i64 k ∧ Hid (∃ s, ScAt wr g sc nm s ∧ AtK nm p ys k td s) ∧ Hid (Below w.heap.size w wr)) (fun _ vi _ => ys.length - (intOf vi).toNat)
    case atStart => exact ⟨0, 0, by omega, rfl, rfl, ⟨_, HS3.out, AtK.start _ _ _⟩, HB3.out⟩
    case round =>
      obtain ⟨k, td, hk, rfl, rfl, hSe, hBr⟩ := hrel
      obtain ⟨sr, hSr, hAr⟩ := hSe.out
      clear HS3 HB3
      by_cases hlt : k < ys.length
      · obtain ⟨b, off, hab, hcell⟩ := hasR_cell HI.out k hlt
        subst hab
        have cz : wr.cell? ⟨b, off + k, none⟩ = some (.int .i32 (zAt ys k)) := (hBr.out.cell (p := ⟨b, off + k, none⟩) (cell_lt (hcell k hlt))).trans (hcell k hlt)
        have HCELL := hid_of hcell
        clear hcell
        have h6k := H6.out k
        have h6 := H6.out (k + 1)
        have dg : decide ((k : Int) > (lst : Int)) = false := by have := HLST.out; simp; omega
        have dg' : decide (lst < k) = false := by have := HLST.out; simp; omega
        obtain ⟨s4, hA4, hPut⟩ := put_round HP.out.1 HP.out.2 hSr hAr hlt (by omega) (HZ.out _ (getD_mem ys k hlt)) (by omega)
        rw [getD_zAt, decide_eq_false (fun h => h6 h.2), if_neg h6k] at hPut
        have HPUT := hid_of hPut
        have HA4 := hid_of hA4
        have HBR := hid_of hBr.out
        have H6' := hid_of h6
        clear hPut hA4 hBr hSr hAr hSe h6k h6
        generalize zAt ys k = z at *
        go_wp2_with fail
        (go_at_call 20; refine HPUT.out.mono ?_; rintro e w4 ⟨rfl, hS4, hL4⟩)
        have HB4 : Hid (Below w.heap.size w w4) := HBR.out.trans (hL4.1.mono (by have := HG.out; omega))
        obtain ⟨so, hl, e1, e2, e3, e4, e5, hask⟩ := ask_open HNM.out HP.out.1 HP.out.2 hS4 HA4.out (by omega) H6'.out
        have HASK := hid_of hask
        have HSU := hid_of (HSURE.out (k + 1) w4 (by omega) H6'.out HB4.out)
        rw [e4] at HSU
        have hx : (k : Int) + 1 - (so : Int) = (hl : Int) := by omega
        have hsl : ∀ W, (Instr.slice 32 (.slice (some ⟨b, off, none⟩) ys.length cap) none (some (.int .i64 ((k : Int) + 1))) none).run Tryd.prog W = .ok (.slice (some ⟨b, off, none⟩) (k + 1) cap) W := fun W => by rw [show (k : Int) + 1 = ((k + 1 : Nat) : Int) by omega]; exact slice_runes (some ⟨b, off, none⟩) ys.length cap (k + 1) (by have := HC.out; omega) W
        have HS4 := hid_of hS4
        have HE4 := hid_of e4
        have HE5 := hid_of e5
        clear hask hS4 hL4 HPUT HBR H6' e4 e5
        go_wp2_with fail
        (go_at_call 9; refine (num_calls 0 _ (by decide) (by decide)).mono ?_; rintro e wn ⟨rfl, h2'⟩; obtain rfl : w4 = wn := h2'.symm; clear h2')
        go_wp2_with fail
        (go_at_call 21; refine HSU.out.mono ?_; rintro e w5 ⟨rfl, hb5⟩)
        have HB45 := hid_of hb5
        clear hb5 hsl HSU
        go_wp2_with fail
        have qh : ∀ d os, Calls Tryd.prog 22 #[.pointer (some ⟨g + 1, 0, none⟩)] (Go.Sort.grow (redrawn w5 d) os) fun e w'' => e = .returned (.int .i64 (hl : Nat)) ∧ ∃ p : Regrown, w'' = Go.Sort.grow (redrawn w5 p.d) p.os := fun d os => Calls.regrown_of (((HASK.out _ (HB45.out.trans ((below_regrown w5 d os).mono HB45.out.size))).1).mono (fun _ _ h => ⟨h.1, by rw [h.2]; exact Below.refl _ _⟩))
        have qe : ∀ d os, Calls Tryd.prog 23 #[.pointer (some ⟨g + 1, 0, none⟩)] (Go.Sort.grow (redrawn w5 d) os) fun e w'' => e = .returned (.bool false) ∧ ∃ p : Regrown, w'' = Go.Sort.grow (redrawn w5 p.d) p.os := fun d os => Calls.regrown_of (((HASK.out _ (HB45.out.trans ((below_regrown w5 d os).mono HB45.out.size))).2.1).mono (fun _ _ h => ⟨h.1, by rw [h.2]; exact Below.refl _ _⟩))
        have qr : ∀ d os, Calls Tryd.prog 24 #[.pointer (some ⟨g + 1, 0, none⟩)] (Go.Sort.grow (redrawn w5 d) os) fun e w'' => e = .returned (.int .i32 0) ∧ ∃ p : Regrown, w'' = Go.Sort.grow (redrawn w5 p.d) p.os := fun d os => Calls.regrown_of (((HASK.out _ (HB45.out.trans ((below_regrown w5 d os).mono HB45.out.size))).2.2.1).mono (fun _ _ h => ⟨h.1, by rw [h.2]; exact Below.refl _ _⟩))
        have hhh : ((hl : Int) != (hl : Int)) = false := by simp
        refine wp_region_quiet_below mixed (by kernel_rfl) ?_
        repeat (go_big_quiet_step (first | with_reducible exact qh _ _ | with_reducible exact qe _ _ | with_reducible exact qr _ _))
        refine wpQuiet_nil ?_
        intro _ hw'
        obtain ⟨⟨dq, osq⟩, hw''⟩ := hw'
        have hb6 : Below w5.heap.size w5 (Go.Sort.grow (redrawn w5 dq) osq) := below_regrown w5 dq osq
        rw [← hw''] at hb6
        clear hw'' qh qe qr hhh
        rename_i w6
        have HB46 : Hid (Below w4.heap.size w4 w6) := HB45.out.trans (hb6.mono HB45.out.size)
        have HB6 : Hid (Below w.heap.size w w6) := HB4.out.trans (HB46.out.mono HB4.out.size)
        clear hb6
        go_wp2_with fail
        · obtain ⟨a1, hsl2, hcv2⟩ := slice_part HI.out td so e2 e3 HC.out
          have HTK := hid_of (HASK.out _ HB46.out.drew).2.2.2
          have HCV2 := hid_of hcv2
          obtain ⟨tx, htx⟩ : ∃ tx, encs ((ys.take so).drop td) = tx := ⟨_, rfl⟩
          rw [htx] at HTK HCV2
          clear hcv2 htx
          have hcvA := HCV2.out _ HB6.out.drew
          have hne2 : ((hl : Int) != (hl : Int)) = false := by simp
          have t0 : (0 : Int) ≤ (td : Int) := by omega
          have t1 : (td : Int) ≤ (so : Int) := by omega
          have t2 : (so : Int) ≤ (cap : Int) := by have := HC.out; omega
          go_region_held3 (fun w' => (convert 32 9 (.slice a1 (so - td) (cap - td))).run Tryd.prog w' = .ok (.string ⟨tx.toArray⟩) w') (first | with_reducible exact hcvC | with_reducible exact hcvB | with_reducible exact hcvA) (first
            | (go_at_call 25; refine HTK2.out.mono ?_; rintro e w8 ⟨rfl, hx8, hL8⟩; have HX8 := hid_of hx8; have HB8 : Hid (Below w.heap.size w w8) := HB7.out.trans (hL8.1.mono (by have := HG.out; omega)); have hcvC := HCV2.out _ HB8.out; have HHD := hid_of (again_round HNM.out HP.out.1 HP.out.2 hx8 HE4.out HE5.out).2; clear hx8 hL8)
            | (go_at_call 25; refine HTK.out.mono ?_; rintro e w7 ⟨rfl, hx7, hL7⟩; have HB7 : Hid (Below w.heap.size w w7) := HB6.out.drew.trans (hL7.1.mono (by have := HG.out; omega)); have hcvB := HCV2.out _ HB7.out; have HTK2 := hid_of (again_round HNM.out HP.out.1 HP.out.2 hx7 HE4.out HE5.out).1; clear hx7 hL7)
            | (go_at_call 22; refine HHD.out.mono ?_; rintro e wn ⟨rfl, h2'⟩; obtain rfl : w8 = wn := h2'.symm; clear h2'))
          all_goals go_wp2_with fail
          all_goals exact ⟨⟨k + 1, so, by omega, rfl, by go_num, HX8.out, HB8.out⟩, by simp [intOf]; omega⟩
        · exact ⟨⟨k + 1, td, by omega, rfl, by go_num, ⟨_, HS4.out.below HB46.out, HA4.out⟩, HB6.out⟩, by simp [intOf]; omega⟩
      · obtain rfl : k = ys.length := by omega
        obtain ⟨s7, hEnd, h7⟩ := last_open HP.out.1 HP.out.2 hSr hAr (by omega) (H6.out _)
        have HEN := hid_of hEnd
        have H7 := hid_of h7
        have htd := hAr.td
        have HBR := hid_of hBr.out
        clear hEnd h7 hSr hAr hSe hBr
        go_wp2_with fail
        (go_at_call 26; refine HEN.out.mono ?_; rintro e w4 ⟨rfl, hS4, hL4⟩)
        have HB4 : Hid (Below w.heap.size w w4) := HBR.out.trans (hL4.1.mono (by have := HG.out; omega))
        obtain ⟨q1, q2, q3⟩ := H7.out w4 hS4
        have Q1 := hid_of q1
        have Q2 := hid_of q2
        have Q3 := hid_of q3
        clear hS4 hL4 q1 q2 q3 HBR
        go_wp2_with fail
        (go_at_call 9; refine (num_calls 0 _ (by decide) (by decide)).mono ?_; rintro e wn ⟨rfl, h2'⟩; obtain rfl : w4 = wn := h2'.symm; clear h2')
        go_wp2_with fail
        (go_at_call 23; refine Q1.out.mono ?_; rintro e wn ⟨rfl, h2'⟩; obtain rfl : w4 = wn := h2'.symm; clear h2')
        go_wp2_with fail
        (go_at_call 22; refine Q2.out.mono ?_; rintro e wn ⟨rfl, h2'⟩; obtain rfl : w4 = wn := h2'.symm; clear h2')
        have e2 : td ≤ ys.length := htd
        have e3 : ys.length ≤ ys.length := Nat.le_refl _
        obtain ⟨a1, hsl2, hcv2⟩ := slice_part HI.out td ys.length e2 e3 HC.out
        have HTK := hid_of (Q3.out w4.drew (Below.refl _ w4).drew)
        have HCV2 := hid_of hcv2
        obtain ⟨tx, htx⟩ : ∃ tx, encs ((ys.take ys.length).drop td) = tx := ⟨_, rfl⟩
        rw [htx] at HTK HCV2
        clear hcv2 htx Q3
        have hcvA := HCV2.out _ HB4.out.drew
        have t0 : (0 : Int) ≤ (td : Int) := by omega
        have t1 : (td : Int) ≤ (ys.length : Int) := by omega
        have t2 : (ys.length : Int) ≤ (cap : Int) := by have := HC.out; omega
        go_wp2_with fail
        go_region_held3 (fun w' => (convert 32 9 (.slice a1 (ys.length - td) (cap - td))).run Tryd.prog w' = .ok (.string ⟨tx.toArray⟩) w') (first | with_reducible exact hcvB | with_reducible exact hcvA) (first
          | (go_at_call 25; refine HTK.out.mono ?_; rintro e w7 ⟨rfl, hx7, hL7⟩; have HX7 := hid_of hx7; have HB7 : Hid (Below w.heap.size w w7) := HB4.out.drew.trans (hL7.1.mono (by have := HG.out; omega)); have hcvB := HCV2.out _ HB7.out; clear hx7 hL7))
        all_goals
          obtain ⟨s9, a9, b9, c9⟩ := HX7.out
          obtain ⟨q1, q2, q3⟩ := over_round a9 b9 c9 120
          have Q1 := hid_of q1
          have Q2 := hid_of q2
          have Q3 := hid_of q3
          clear a9 b9 c9 q1 q2 q3
          go_wp2_with fail
          (go_at_call 20; refine Q1.out.mono ?_; rintro e wn ⟨rfl, h2'⟩; obtain rfl : w7 = wn := h2'.symm; clear h2')
          go_wp2_with fail
          (go_at_call 9; refine (num_calls 3 _ (by decide) (by decide)).mono ?_; rintro e wn ⟨rfl, h2'⟩; obtain rfl : w7 = wn := h2'.symm; clear h2')
          go_wp2_with fail
          (go_at_call 26; refine Q2.out.mono ?_; rintro e wn ⟨rfl, h2'⟩; obtain rfl : w7 = wn := h2'.symm; clear h2')
          go_wp2_with fail
          (go_at_call 9; refine (num_calls 3 _ (by decide) (by decide)).mono ?_; rintro e wn ⟨rfl, h2'⟩; obtain rfl : w7 = wn := h2'.symm; clear h2')
          go_wp2_with fail
          (go_at_call 25; refine Q3.out.mono ?_; rintro e w8 ⟨rfl, hL8⟩; have hb8 : Below w.heap.size w w8 := HB7.out.trans (hL8.1.mono (by have := HG.out; omega)))
          go_wp2_with fail
          (go_at_call 10; refine (HL.out _ hb8).mono ?_; rintro e w9 ⟨rfl, hb9⟩)
          go_wp2_with fail
          go_ret
          exact ⟨rfl, hb8.trans (hb9.mono hb8.size)⟩
  | some n =>
    have hv : endV (some n) ys.length = .tuple #[.int .i64 (n : Nat), .bool true] := rfl
    rw [hv]
    have HSM := hid_of (dk_some HNM.out HP.out.1 HP.out.2 hr)
    rw [hzl] at HSM
    have HRR := hid_of hr
    have hnl := HSM.out.1
    obtain ⟨lst, hlst⟩ : ∃ lst : Nat, (n : Int) + 2 + (l.length : Int) = (lst : Int) := ⟨n + 2 + l.length, by omega⟩
    have HLST : Hid (n + 2 + l.length = lst) := by show _ = _; omega
    have hll : lst < ys.length := by omega
    clear hv hr hnl
    go_wp2_with fail
    clear hlst
    go_loopw [12, 60] (fun vt vi wr => ∃ k td : Nat, k ≤ ys.length ∧ vt = .int .i64 td ∧ vi = .int .i64 k ∧ Hid (∃ s, ScAt wr g sc nm s ∧ AtK nm p ys k td s) ∧ Hid (Below w.heap.size w wr)) (fun _ vi _ => ys.length - (intOf vi).toNat)
    case atStart => exact ⟨0, 0, by omega, rfl, rfl, ⟨_, HS3.out, AtK.start _ _ _⟩, HB3.out⟩
    case round =>
      obtain ⟨k, td, hk, rfl, rfl, hSe, hBr⟩ := hrel
      obtain ⟨sr, hSr, hAr⟩ := hSe.out
      clear HS3 HB3
      by_cases hlt : k < ys.length
      · obtain ⟨b, off, hab, hcell⟩ := hasR_cell HI.out k hlt
        subst hab
        have cz : wr.cell? ⟨b, off + k, none⟩ = some (.int .i32 (zAt ys k)) := (hBr.out.cell (p := ⟨b, off + k, none⟩) (cell_lt (hcell k hlt))).trans (hcell k hlt)
        have HCELL := hid_of hcell
        clear hcell
        rcases Nat.lt_trichotomy k lst with hkl | hkl | hkl
        · have h6k := (HSM.out.2.1) k (by have := HLST.out; omega)
          have h6 := (HSM.out.2.1) (k + 1) (by have := HLST.out; omega)
          have dg : decide ((k : Int) > (lst : Int)) = false := by simp; omega
          have dg' : decide (lst < k) = false := by simp; omega
          have dge : decide ((k : Int) ≥ (lst : Int)) = false := by simp; omega
          have dge' : decide (lst ≤ k) = false := by simp; omega
          obtain ⟨s4, hA4, hPut⟩ := put_round HP.out.1 HP.out.2 hSr hAr hlt (by omega) (HZ.out _ (getD_mem ys k hlt)) (by omega)
          rw [getD_zAt, decide_eq_false (fun h => h6 h.2), if_neg h6k] at hPut
          have HPUT := hid_of hPut
          have HA4 := hid_of hA4
          have HBR := hid_of hBr.out
          have H6' := hid_of h6
          clear hPut hA4 hBr hSr hAr hSe h6k h6
          generalize zAt ys k = z at *
          go_wp2_with fail
          (go_at_call 20; refine HPUT.out.mono ?_; rintro e w4 ⟨rfl, hS4, hL4⟩)
          have HB4 : Hid (Below w.heap.size w w4) := HBR.out.trans (hL4.1.mono (by have := HG.out; omega))
          obtain ⟨so, hl, e1, e2, e3, e4, e5, hask⟩ := ask_open HNM.out HP.out.1 HP.out.2 hS4 HA4.out (by omega) H6'.out
          have HASK := hid_of hask
          have HSU := hid_of (HSURE.out (k + 1) w4 (by omega) H6'.out HB4.out)
          rw [e4] at HSU
          have hx : (k : Int) + 1 - (so : Int) = (hl : Int) := by omega
          have hsl : ∀ W, (Instr.slice 32 (.slice (some ⟨b, off, none⟩) ys.length cap) none (some (.int .i64 ((k : Int) + 1))) none).run Tryd.prog W = .ok (.slice (some ⟨b, off, none⟩) (k + 1) cap) W := fun W => by rw [show (k : Int) + 1 = ((k + 1 : Nat) : Int) by omega]; exact slice_runes (some ⟨b, off, none⟩) ys.length cap (k + 1) (by have := HC.out; omega) W
          have HS4 := hid_of hS4
          have HE4 := hid_of e4
          have HE5 := hid_of e5
          clear hask hS4 hL4 HPUT HBR H6' e4 e5
          go_wp2_with fail
          (go_at_call 9; refine (num_calls 0 _ (by decide) (by decide)).mono ?_; rintro e wn ⟨rfl, h2'⟩; obtain rfl : w4 = wn := h2'.symm; clear h2')
          go_wp2_with fail
          (go_at_call 21; refine HSU.out.mono ?_; rintro e w5 ⟨rfl, hb5⟩)
          have HB45 := hid_of hb5
          clear hb5 hsl HSU
          go_wp2_with fail
          have qh : ∀ d os, Calls Tryd.prog 22 #[.pointer (some ⟨g + 1, 0, none⟩)] (Go.Sort.grow (redrawn w5 d) os) fun e w'' => e = .returned (.int .i64 (hl : Nat)) ∧ ∃ p : Regrown, w'' = Go.Sort.grow (redrawn w5 p.d) p.os := fun d os => Calls.regrown_of (((HASK.out _ (HB45.out.trans ((below_regrown w5 d os).mono HB45.out.size))).1).mono (fun _ _ h => ⟨h.1, by rw [h.2]; exact Below.refl _ _⟩))
          have qe : ∀ d os, Calls Tryd.prog 23 #[.pointer (some ⟨g + 1, 0, none⟩)] (Go.Sort.grow (redrawn w5 d) os) fun e w'' => e = .returned (.bool false) ∧ ∃ p : Regrown, w'' = Go.Sort.grow (redrawn w5 p.d) p.os := fun d os => Calls.regrown_of (((HASK.out _ (HB45.out.trans ((below_regrown w5 d os).mono HB45.out.size))).2.1).mono (fun _ _ h => ⟨h.1, by rw [h.2]; exact Below.refl _ _⟩))
          have qr : ∀ d os, Calls Tryd.prog 24 #[.pointer (some ⟨g + 1, 0, none⟩)] (Go.Sort.grow (redrawn w5 d) os) fun e w'' => e = .returned (.int .i32 0) ∧ ∃ p : Regrown, w'' = Go.Sort.grow (redrawn w5 p.d) p.os := fun d os => Calls.regrown_of (((HASK.out _ (HB45.out.trans ((below_regrown w5 d os).mono HB45.out.size))).2.2.1).mono (fun _ _ h => ⟨h.1, by rw [h.2]; exact Below.refl _ _⟩))
          have hhh : ((hl : Int) != (hl : Int)) = false := by simp
          refine wp_region_quiet_below mixed (by kernel_rfl) ?_
          repeat (go_big_quiet_step (first | with_reducible exact qh _ _ | with_reducible exact qe _ _ | with_reducible exact qr _ _))
          refine wpQuiet_nil ?_
          intro _ hw'
          obtain ⟨⟨dq, osq⟩, hw''⟩ := hw'
          have hb6 : Below w5.heap.size w5 (Go.Sort.grow (redrawn w5 dq) osq) := below_regrown w5 dq osq
          rw [← hw''] at hb6
          clear hw'' qh qe qr hhh
          rename_i w6
          have HB46 : Hid (Below w4.heap.size w4 w6) := HB45.out.trans (hb6.mono HB45.out.size)
          have HB6 : Hid (Below w.heap.size w w6) := HB4.out.trans (HB46.out.mono HB4.out.size)
          clear hb6
          go_wp2_with fail
          · obtain ⟨a1, hsl2, hcv2⟩ := slice_part HI.out td so e2 e3 HC.out
            have HTK := hid_of (HASK.out _ HB46.out.drew).2.2.2
            have HCV2 := hid_of hcv2
            obtain ⟨tx, htx⟩ : ∃ tx, encs ((ys.take so).drop td) = tx := ⟨_, rfl⟩
            rw [htx] at HTK HCV2
            clear hcv2 htx
            have hcvA := HCV2.out _ HB6.out.drew
            have hne2 : ((hl : Int) != (hl : Int)) = false := by simp
            have t0 : (0 : Int) ≤ (td : Int) := by omega
            have t1 : (td : Int) ≤ (so : Int) := by omega
            have t2 : (so : Int) ≤ (cap : Int) := by have := HC.out; omega
            go_region_held3 (fun w' => (convert 32 9 (.slice a1 (so - td) (cap - td))).run Tryd.prog w' = .ok (.string ⟨tx.toArray⟩) w') (first | with_reducible exact hcvC | with_reducible exact hcvB | with_reducible exact hcvA) (first
              | (go_at_call 25; refine HTK2.out.mono ?_; rintro e w8 ⟨rfl, hx8, hL8⟩; have HX8 := hid_of hx8; have HB8 : Hid (Below w.heap.size w w8) := HB7.out.trans (hL8.1.mono (by have := HG.out; omega)); have hcvC := HCV2.out _ HB8.out; have HHD := hid_of (again_round HNM.out HP.out.1 HP.out.2 hx8 HE4.out HE5.out).2; clear hx8 hL8)
              | (go_at_call 25; refine HTK.out.mono ?_; rintro e w7 ⟨rfl, hx7, hL7⟩; have HB7 : Hid (Below w.heap.size w w7) := HB6.out.drew.trans (hL7.1.mono (by have := HG.out; omega)); have hcvB := HCV2.out _ HB7.out; have HTK2 := hid_of (again_round HNM.out HP.out.1 HP.out.2 hx7 HE4.out HE5.out).1; clear hx7 hL7)
              | (go_at_call 22; refine HHD.out.mono ?_; rintro e wn ⟨rfl, h2'⟩; obtain rfl : w8 = wn := h2'.symm; clear h2'))
            all_goals go_wp2_with fail
            all_goals exact ⟨⟨k + 1, so, by omega, rfl, by go_num, HX8.out, HB8.out⟩, by simp [intOf]; omega⟩
          · exact ⟨⟨k + 1, td, by omega, rfl, by go_num, ⟨_, HS4.out.below HB46.out, HA4.out⟩, HB6.out⟩, by simp [intOf]; omega⟩
        · have hkl1 : k ≤ lst := by omega
          have hkl2 : lst ≤ k := by omega
          clear hkl
          have h6k := (HSM.out.2.1) k (by have := HLST.out; omega)
          have h6 : (Dk nm p ys (k + 1)).p = 6 := by obtain ⟨_, _, m, h⟩ := HSM.out; rw [h (k + 1) (by have := HLST.out; omega)]
          have dg : decide ((k : Int) > (lst : Int)) = false := by simp; omega
          have dg' : decide (lst < k) = false := by simp; omega
          have dge : decide ((k : Int) ≥ (lst : Int)) = true := by simp; omega
          have dge' : decide (lst ≤ k) = true := by simp; omega
          obtain ⟨s4, hA4, hPut⟩ := put_round HP.out.1 HP.out.2 hSr hAr hlt (by omega) (HZ.out _ (getD_mem ys k hlt)) (by omega)
          rw [getD_zAt, decide_eq_true ⟨h6k, h6⟩, if_neg h6k] at hPut
          have HPUT := hid_of hPut
          have HA4 := hid_of hA4
          have HBR := hid_of hBr.out
          have H6' := hid_of h6
          clear hPut hA4 hBr hSr hAr hSe h6k h6
          generalize zAt ys k = z at *
          go_wp2_with fail
          (go_at_call 20; refine HPUT.out.mono ?_; rintro e w4 ⟨rfl, hS4, hL4⟩)
          have HB4 : Hid (Below w.heap.size w w4) := HBR.out.trans (hL4.1.mono (by have := HG.out; omega))
          obtain ⟨e2, e3, e4, e5, hask⟩ := ask_over HNM.out HP.out.1 HP.out.2 hS4 HA4.out HRR.out (by have := HLST.out; omega)
          rw [hzl, HLST.out] at hask
          have HASK := hid_of hask
          have HS4 := hid_of hS4
          have HE4 := hid_of e4
          have HE5 := hid_of e5
          clear hask hS4 hL4 HPUT HBR H6' e4 e5
          go_wp2_with fail
          (go_at_call 9; refine (num_calls 0 _ (by decide) (by decide)).mono ?_; rintro e wn ⟨rfl, h2'⟩; obtain rfl : w4 = wn := h2'.symm; clear h2')
          go_wp2_with fail
          have HB45 : Hid (Below w4.heap.size w4 w4) := Below.refl _ _
          have HC9 : w4.cell? ⟨b, off + lst, none⟩ = some (.int .i32 (zAt ys lst)) := (HB4.out.cell (p := ⟨b, off + lst, none⟩) (cell_lt (HCELL.out lst (by omega)))).trans (HCELL.out lst (by omega))
          have hc9 : ∀ d os, (Go.Sort.grow (redrawn w4 d) os).cell? ⟨b, off + lst, none⟩ = some (.int .i32 (zAt ys lst)) := fun d os => cell_regrown HC9 d os
          generalize zAt ys lst = zl at *
          have hzz : (zl != zl) = false := by simp
          have i0 : (0 : Int) ≤ (lst : Int) := by omega
          have i1 : (lst : Int) < (ys.length : Int) := by omega
          clear HC9
          have qh : ∀ d os, Calls Tryd.prog 22 #[.pointer (some ⟨g + 1, 0, none⟩)] (Go.Sort.grow (redrawn w4 d) os) fun e w'' => e = .returned (.int .i64 (0 : Nat)) ∧ ∃ p : Regrown, w'' = Go.Sort.grow (redrawn w4 p.d) p.os := fun d os => Calls.regrown_of (((HASK.out _ (HB45.out.trans ((below_regrown w4 d os).mono HB45.out.size))).1).mono (fun _ _ h => ⟨h.1, by rw [h.2]; exact Below.refl _ _⟩))
          have qe : ∀ d os, Calls Tryd.prog 23 #[.pointer (some ⟨g + 1, 0, none⟩)] (Go.Sort.grow (redrawn w4 d) os) fun e w'' => e = .returned (.bool true) ∧ ∃ p : Regrown, w'' = Go.Sort.grow (redrawn w4 p.d) p.os := fun d os => Calls.regrown_of (((HASK.out _ (HB45.out.trans ((below_regrown w4 d os).mono HB45.out.size))).2.1).mono (fun _ _ h => ⟨h.1, by rw [h.2]; exact Below.refl _ _⟩))
          have qr : ∀ d os, Calls Tryd.prog 24 #[.pointer (some ⟨g + 1, 0, none⟩)] (Go.Sort.grow (redrawn w4 d) os) fun e w'' => e = .returned (.int .i32 zl) ∧ ∃ p : Regrown, w'' = Go.Sort.grow (redrawn w4 p.d) p.os := fun d os => Calls.regrown_of (((HASK.out _ (HB45.out.trans ((below_regrown w4 d os).mono HB45.out.size))).2.2.1).mono (fun _ _ h => ⟨h.1, by rw [h.2]; exact Below.refl _ _⟩))
          have hhh : ((0 : Int) != (0 : Int)) = false := by simp
          refine wp_region_quiet_below mixed (by kernel_rfl) ?_
          repeat (go_big_quiet_step (first | with_reducible exact qh _ _ | with_reducible exact qe _ _ | with_reducible exact qr _ _))
          refine wpQuiet_nil ?_
          intro _ hw'
          obtain ⟨⟨dq, osq⟩, hw''⟩ := hw'
          have hb6 : Below w4.heap.size w4 (Go.Sort.grow (redrawn w4 dq) osq) := below_regrown w4 dq osq
          rw [← hw''] at hb6
          clear hw'' qh qe qr hhh
          rename_i w6
          have HB46 : Hid (Below w4.heap.size w4 w6) := HB45.out.trans (hb6.mono HB45.out.size)
          have HB6 : Hid (Below w.heap.size w w6) := HB4.out.trans (HB46.out.mono HB4.out.size)
          clear hb6
          go_wp2_with fail
          · obtain ⟨a1, hsl2, hcv2⟩ := slice_part HI.out td n e2 e3 HC.out
            have HTK := hid_of (HASK.out _ HB46.out.drew).2.2.2
            have HCV2 := hid_of hcv2
            obtain ⟨tx, htx⟩ : ∃ tx, encs ((ys.take n).drop td) = tx := ⟨_, rfl⟩
            rw [htx] at HTK HCV2
            clear hcv2 htx
            have hcvA := HCV2.out _ HB6.out.drew
            have hne2 : ((0 : Int) != (0 : Int)) = false := by simp
            have t0 : (0 : Int) ≤ (td : Int) := by omega
            have t1 : (td : Int) ≤ (n : Int) := by omega
            have t2 : (n : Int) ≤ (cap : Int) := by have := HC.out; omega
            go_region_held3 (fun w' => (convert 32 9 (.slice a1 (n - td) (cap - td))).run Tryd.prog w' = .ok (.string ⟨tx.toArray⟩) w') (first | with_reducible exact hcvC | with_reducible exact hcvB | with_reducible exact hcvA) (first
              | (go_at_call 25; refine HTK2.out.mono ?_; rintro e w8 ⟨rfl, hx8, hL8⟩; have HX8 := hid_of hx8; have HB8 : Hid (Below w.heap.size w w8) := HB7.out.trans (hL8.1.mono (by have := HG.out; omega)); have hcvC := HCV2.out _ HB8.out; have HHD := hid_of (again_round HNM.out HP.out.1 HP.out.2 hx8 HE4.out HE5.out).2; clear hx8 hL8)
              | (go_at_call 25; refine HTK.out.mono ?_; rintro e w7 ⟨rfl, hx7, hL7⟩; have HB7 : Hid (Below w.heap.size w w7) := HB6.out.drew.trans (hL7.1.mono (by have := HG.out; omega)); have hcvB := HCV2.out _ HB7.out; have HTK2 := hid_of (again_round HNM.out HP.out.1 HP.out.2 hx7 HE4.out HE5.out).1; clear hx7 hL7)
              | (go_at_call 22; refine HHD.out.mono ?_; rintro e wn ⟨rfl, h2'⟩; obtain rfl : w8 = wn := h2'.symm; clear h2'))
            all_goals go_wp2_with fail
            all_goals exact ⟨⟨k + 1, n, by omega, rfl, by go_num, HX8.out, HB8.out⟩, by simp [intOf]; omega⟩
          · exact ⟨⟨k + 1, td, by omega, rfl, by go_num, ⟨_, HS4.out.below HB46.out, HA4.out⟩, HB6.out⟩, by simp [intOf]; omega⟩
        · have h6k : (Dk nm p ys k).p = 6 := by obtain ⟨_, _, m, h⟩ := HSM.out; rw [h k (by have := HLST.out; omega)]
          have h6 : (Dk nm p ys (k + 1)).p = 6 := by obtain ⟨_, _, m, h⟩ := HSM.out; rw [h (k + 1) (by have := HLST.out; omega)]
          have dg : decide ((k : Int) > (lst : Int)) = true := by simp; omega
          have dg' : decide (lst < k) = true := by simp; omega
          have dge : decide ((k : Int) ≥ (lst : Int)) = true := by simp; omega
          have dge' : decide (lst ≤ k) = true := by simp; omega
          obtain ⟨s4, hA4, hPut⟩ := put_round HP.out.1 HP.out.2 hSr hAr hlt (by omega) (HZ.out _ (getD_mem ys k hlt)) (by omega)
          rw [getD_zAt, decide_eq_false (fun h => h.1 h6k), if_pos h6k] at hPut
          have HPUT := hid_of hPut
          have HA4 := hid_of hA4
          have HBR := hid_of hBr.out
          have H6' := hid_of h6
          clear hPut hA4 hBr hSr hAr hSe h6k h6
          generalize zAt ys k = z at *
          go_wp2_with fail
          (go_at_call 20; refine HPUT.out.mono ?_; rintro e w4 ⟨rfl, hS4, hL4⟩)
          have HB4 : Hid (Below w.heap.size w w4) := HBR.out.trans (hL4.1.mono (by have := HG.out; omega))
          obtain ⟨e2, e3, e4, e5, hask⟩ := ask_over HNM.out HP.out.1 HP.out.2 hS4 HA4.out HRR.out (by have := HLST.out; omega)
          rw [hzl, HLST.out] at hask
          have HASK := hid_of hask
          have HS4 := hid_of hS4
          have HE4 := hid_of e4
          have HE5 := hid_of e5
          clear hask hS4 hL4 HPUT HBR H6' e4 e5
          go_wp2_with fail
          (go_at_call 9; refine (num_calls 3 _ (by decide) (by decide)).mono ?_; rintro e wn ⟨rfl, h2'⟩; obtain rfl : w4 = wn := h2'.symm; clear h2')
          go_wp2_with fail
          have HB45 : Hid (Below w4.heap.size w4 w4) := Below.refl _ _
          have HC9 : w4.cell? ⟨b, off + lst, none⟩ = some (.int .i32 (zAt ys lst)) := (HB4.out.cell (p := ⟨b, off + lst, none⟩) (cell_lt (HCELL.out lst (by omega)))).trans (HCELL.out lst (by omega))
          have hc9 : ∀ d os, (Go.Sort.grow (redrawn w4 d) os).cell? ⟨b, off + lst, none⟩ = some (.int .i32 (zAt ys lst)) := fun d os => cell_regrown HC9 d os
          generalize zAt ys lst = zl at *
          have hzz : (zl != zl) = false := by simp
          have i0 : (0 : Int) ≤ (lst : Int) := by omega
          have i1 : (lst : Int) < (ys.length : Int) := by omega
          clear HC9
          have qh : ∀ d os, Calls Tryd.prog 22 #[.pointer (some ⟨g + 1, 0, none⟩)] (Go.Sort.grow (redrawn w4 d) os) fun e w'' => e = .returned (.int .i64 (0 : Nat)) ∧ ∃ p : Regrown, w'' = Go.Sort.grow (redrawn w4 p.d) p.os := fun d os => Calls.regrown_of (((HASK.out _ (HB45.out.trans ((below_regrown w4 d os).mono HB45.out.size))).1).mono (fun _ _ h => ⟨h.1, by rw [h.2]; exact Below.refl _ _⟩))
          have qe : ∀ d os, Calls Tryd.prog 23 #[.pointer (some ⟨g + 1, 0, none⟩)] (Go.Sort.grow (redrawn w4 d) os) fun e w'' => e = .returned (.bool true) ∧ ∃ p : Regrown, w'' = Go.Sort.grow (redrawn w4 p.d) p.os := fun d os => Calls.regrown_of (((HASK.out _ (HB45.out.trans ((below_regrown w4 d os).mono HB45.out.size))).2.1).mono (fun _ _ h => ⟨h.1, by rw [h.2]; exact Below.refl _ _⟩))
          have qr : ∀ d os, Calls Tryd.prog 24 #[.pointer (some ⟨g + 1, 0, none⟩)] (Go.Sort.grow (redrawn w4 d) os) fun e w'' => e = .returned (.int .i32 zl) ∧ ∃ p : Regrown, w'' = Go.Sort.grow (redrawn w4 p.d) p.os := fun d os => Calls.regrown_of (((HASK.out _ (HB45.out.trans ((below_regrown w4 d os).mono HB45.out.size))).2.2.1).mono (fun _ _ h => ⟨h.1, by rw [h.2]; exact Below.refl _ _⟩))
          have hhh : ((0 : Int) != (0 : Int)) = false := by simp
          refine wp_region_quiet_below mixed (by kernel_rfl) ?_
          repeat (go_big_quiet_step (first | with_reducible exact qh _ _ | with_reducible exact qe _ _ | with_reducible exact qr _ _))
          refine wpQuiet_nil ?_
          intro _ hw'
          obtain ⟨⟨dq, osq⟩, hw''⟩ := hw'
          have hb6 : Below w4.heap.size w4 (Go.Sort.grow (redrawn w4 dq) osq) := below_regrown w4 dq osq
          rw [← hw''] at hb6
          clear hw'' qh qe qr hhh
          rename_i w6
          have HB46 : Hid (Below w4.heap.size w4 w6) := HB45.out.trans (hb6.mono HB45.out.size)
          have HB6 : Hid (Below w.heap.size w w6) := HB4.out.trans (HB46.out.mono HB4.out.size)
          clear hb6
          go_wp2_with fail
          · obtain ⟨a1, hsl2, hcv2⟩ := slice_part HI.out td n e2 e3 HC.out
            have HTK := hid_of (HASK.out _ HB46.out.drew).2.2.2
            have HCV2 := hid_of hcv2
            obtain ⟨tx, htx⟩ : ∃ tx, encs ((ys.take n).drop td) = tx := ⟨_, rfl⟩
            rw [htx] at HTK HCV2
            clear hcv2 htx
            have hcvA := HCV2.out _ HB6.out.drew
            have hne2 : ((0 : Int) != (0 : Int)) = false := by simp
            have t0 : (0 : Int) ≤ (td : Int) := by omega
            have t1 : (td : Int) ≤ (n : Int) := by omega
            have t2 : (n : Int) ≤ (cap : Int) := by have := HC.out; omega
            go_region_held3 (fun w' => (convert 32 9 (.slice a1 (n - td) (cap - td))).run Tryd.prog w' = .ok (.string ⟨tx.toArray⟩) w') (first | with_reducible exact hcvC | with_reducible exact hcvB | with_reducible exact hcvA) (first
              | (go_at_call 25; refine HTK2.out.mono ?_; rintro e w8 ⟨rfl, hx8, hL8⟩; have HX8 := hid_of hx8; have HB8 : Hid (Below w.heap.size w w8) := HB7.out.trans (hL8.1.mono (by have := HG.out; omega)); have hcvC := HCV2.out _ HB8.out; have HHD := hid_of (again_round HNM.out HP.out.1 HP.out.2 hx8 HE4.out HE5.out).2; clear hx8 hL8)
              | (go_at_call 25; refine HTK.out.mono ?_; rintro e w7 ⟨rfl, hx7, hL7⟩; have HB7 : Hid (Below w.heap.size w w7) := HB6.out.drew.trans (hL7.1.mono (by have := HG.out; omega)); have hcvB := HCV2.out _ HB7.out; have HTK2 := hid_of (again_round HNM.out HP.out.1 HP.out.2 hx7 HE4.out HE5.out).1; clear hx7 hL7)
              | (go_at_call 22; refine HHD.out.mono ?_; rintro e wn ⟨rfl, h2'⟩; obtain rfl : w8 = wn := h2'.symm; clear h2'))
            all_goals go_wp2_with fail
            all_goals exact ⟨⟨k + 1, n, by omega, rfl, by go_num, HX8.out, HB8.out⟩, by simp [intOf]; omega⟩
          · exact ⟨⟨k + 1, td, by omega, rfl, by go_num, ⟨_, HS4.out.below HB46.out, HA4.out⟩, HB6.out⟩, by simp [intOf]; omega⟩
      · obtain rfl : k = ys.length := by omega
        obtain ⟨e2, e3, q3⟩ := last_over HNM.out HP.out.1 HP.out.2 hSr hAr HRR.out
        have Q3 := hid_of q3
        have HB4 := hid_of hBr.out
        clear q3 hSr hAr hSe hBr
        obtain ⟨a1, hsl2, hcv2⟩ := slice_part HI.out td n e2 e3 HC.out
        have HTK := hid_of (Q3.out wr.drew (Below.refl _ wr).drew)
        have HCV2 := hid_of hcv2
        obtain ⟨tx, htx⟩ : ∃ tx, encs ((ys.take n).drop td) = tx := ⟨_, rfl⟩
        rw [htx] at HTK HCV2
        clear hcv2 htx Q3
        have hcvA := HCV2.out _ HB4.out.drew
        have t0 : (0 : Int) ≤ (td : Int) := by omega
        have t1 : (td : Int) ≤ (n : Int) := by omega
        have t2 : (n : Int) ≤ (cap : Int) := by have := HC.out; omega
        go_wp2_with fail
        go_region_held3 (fun w' => (convert 32 9 (.slice a1 (n - td) (cap - td))).run Tryd.prog w' = .ok (.string ⟨tx.toArray⟩) w') (first | with_reducible exact hcvB | with_reducible exact hcvA) (first
          | (go_at_call 25; refine HTK.out.mono ?_; rintro e w7 ⟨rfl, hx7, hL7⟩; have HX7 := hid_of hx7; have HB7 : Hid (Below w.heap.size w w7) := HB4.out.drew.trans (hL7.1.mono (by have := HG.out; omega)); have hcvB := HCV2.out _ HB7.out; clear hx7 hL7))
        all_goals
          obtain ⟨s9, a9, b9, c9⟩ := HX7.out
          obtain ⟨q1, q2, q3⟩ := over_round a9 b9 c9 120
          have Q1 := hid_of q1
          have Q2 := hid_of q2
          have Q3 := hid_of q3
          clear a9 b9 c9 q1 q2 q3
          go_wp2_with fail
          (go_at_call 20; refine Q1.out.mono ?_; rintro e wn ⟨rfl, h2'⟩; obtain rfl : w7 = wn := h2'.symm; clear h2')
          go_wp2_with fail
          (go_at_call 9; refine (num_calls 3 _ (by decide) (by decide)).mono ?_; rintro e wn ⟨rfl, h2'⟩; obtain rfl : w7 = wn := h2'.symm; clear h2')
          go_wp2_with fail
          (go_at_call 26; refine Q2.out.mono ?_; rintro e wn ⟨rfl, h2'⟩; obtain rfl : w7 = wn := h2'.symm; clear h2')
          go_wp2_with fail
          (go_at_call 9; refine (num_calls 3 _ (by decide) (by decide)).mono ?_; rintro e wn ⟨rfl, h2'⟩; obtain rfl : w7 = wn := h2'.symm; clear h2')
          go_wp2_with fail
          (go_at_call 25; refine Q3.out.mono ?_; rintro e w8 ⟨rfl, hL8⟩; have hb8 : Below w.heap.size w w8 := HB7.out.trans (hL8.1.mono (by have := HG.out; omega)))
          go_wp2_with fail
          (go_at_call 10; refine (HL.out _ hb8).mono ?_; rintro e w9 ⟨rfl, hb9⟩)
          go_wp2_with fail
          go_ret
          exact ⟨rfl, hb8.trans (hb9.mono hb8.size)⟩
theorem walk (w : World) (hT : Tb w) (hm : MaxOk w) (s : ByteArray) (_hs0 : s.size ≤ 9223372036854775807) (hs : s.size ≤ 1048576) (v : Value) (zs : List Int) (hI : HasI .i32 w v zs) (hz : ∀ z ∈ zs, (Lit.int .i32 z).wf = true) (hl : zs.length ≤ 1048576) (k : Int) (hk : (Lit.int .i64 k).wf = true) :
    Calls Tryd.prog 5 #[.string s, v, .int .i64 k] w fun e w' => e = .returned (.bool true) ∧ Below w.heap.size w w' := by
  have hl' : s.data.toList.length ≤ 1048576 := by rw [size_data]; exact hs
  rw [← arr_eta s]
  by_cases h : whZ s.data.toList = 0
  · exact walk_data w hT hm _ _ k (by omega) h
  · have hz' : ∀ z ∈ zs, -2147483648 ≤ z ∧ z ≤ 2147483647 := fun z hz9 => by
      have h9 : IntKind.i32.min ≤ z ∧ z ≤ IntKind.i32.max := by simpa [Lit.wf] using hz z hz9
      exact h9
    have hv : ∃ a cap, v = .slice a zs.length cap ∧ zs.length ≤ cap := by
      rcases hI with ⟨rfl, a, cap, rfl⟩ | ⟨_, b, off, cap, rfl, hc, _⟩
      · exact ⟨a, cap, rfl, Nat.zero_le _⟩
      · exact ⟨_, cap, rfl, hc⟩
    obtain ⟨a, cap, rfl, hc⟩ := hv
    exact walk_some w hT hm _ h a cap zs hI hc hz' hl k hk

set_option maxRecDepth 100000 in
theorem contract (H : Type) (enc : TypeId × Value → H) (W : World) (base : Nat) (args : Array Value) (ds gs : List (DataW H)) (before : List MemPlace)
    (hval : ∀ (j : Nat) t v, Tryd.f5.params[j]? = some t → args[j]? = some v → Value.okWide Tryd.prog W .any base t v)
    (hW : DataW.Whole enc Tryd.prog Tryd.f5.params.toList Rows.rawPutsSpec.vars false W args.toList ds gs before) (hL : laidMetH Tryd.prog Rows.rawPutsUptoRow.laid W)(hsh : W.ShapedOpen Tryd.prog) (hk : Rows.uptoSmall H (ds ++ gs) = true) :
    Calls Tryd.prog 5 args W fun e W' => ∃ v, e = .returned v ∧ Rows.rawPutsSpec.post enc Tryd.prog Tryd.f5 false true false false W args v W' := by
  have hW' := hW
  have hlt := hW.lt
  obtain ⟨p, q, hA0, hV, rfl, hfz, hnd⟩ := hW
  have hA : DataW.TrodAll enc Tryd.prog W 0 (fun _ => true) true Tryd.f5.params.toList args.toList ds p := hA0
  rw [Tryd.params5] at hA hval
  obtain ⟨v0, vs0, d0, ds0, p0, q0, hargs, rfl, rfl, h0, r0⟩ := trodAll_cons hA
  obtain ⟨v1, vs1, d1, ds1, p1, q1, rfl, rfl, rfl, h1, r1⟩ := trodAll_cons r0
  obtain ⟨v2, vs2, d2, ds2, p2, q2, rfl, rfl, rfl, h2, r2⟩ := trodAll_cons r1
  obtain ⟨rfl, rfl, rfl⟩ := trodAll_nil r2
  obtain rfl : args = #[v0, v1, v2] := by cases args; simp_all
  obtain ⟨rfl, rfl⟩ := trodVars_none hV
  clear hA0
  simp only [List.append_nil] at hW' hlt hk
  have hbulk := of_decide_eq_true hk
  simp only [Rows.uptoBulkAll] at hbulk
  have h0' := h0
  obtain ⟨s0, rfl, rfl, e0, ws0⟩ := Go.ChangeMaps.open_string Tryd.underlying9 (hval 0 9 v0 rfl rfl) h0
  have e1 := okWide_slice Tryd.underlying32 (hval 1 32 v1 rfl rfl)
  obtain ⟨z1, hb1, l1, w1⟩ := ints_of_read Tryd.underlying32 Tryd.underlying21 (by kernel_rfl) e1 h1
  have h2' := h2
  obtain ⟨x2, rfl, e2, -, w2⟩ := open_int Tryd.underlying3 (hval 2 3 v2 rfl rfl) h2
  refine (walk W (tabs_of_laid hL) (Tryd.laysM144.s1_3 W hsh) s0 ws0 (by simp only [R.bulk_str, N.size_data] at hbulk; omega) v1 z1 hb1 w1 (by omega) x2 w2).mono fun e W' ⟨he, hb⟩ => ?_
  subst he
  exact ⟨_, rfl, post_below hW' (fun _ _ _ => trodAll_cons_mk (shut_bool Tryd.underlying4 _) trodAll_mk0) (trodAll_cons_mk (stays (by kernel_rfl) (of_decide_eq_true (by kernel_rfl)) h0' hb (fun x hx => hlt x (by simp [hx]))) (trodAll_cons_mk (stays (by kernel_rfl) (of_decide_eq_true (by kernel_rfl)) h1 hb (fun x hx => hlt x (by simp [hx]))) (trodAll_cons_mk (stays (by kernel_rfl) (of_decide_eq_true (by kernel_rfl)) h2' hb (fun x hx => hlt x (by simp [hx]))) trodAll_mk0))) rfl hb⟩

set_option maxRecDepth 100000 in
theorem laid_met (os : Os) : laidMet Tryd.prog Rows.rawPutsUptoRow.laid ((withTabs (World.holding Tryd.prog os ⟨#[], #[], []⟩)).forCall (fun _ _ => 0) ⟨#[], #[Value.string ⟨#[]⟩, Value.slice none 0 0, Value.int .i64 0], []⟩).memory :=
  laidMet_of_run' 8 (by kernel_rfl) (by kernel_rfl)
set_option maxRecDepth 100000 in
theorem reads (os : Os) {H : Type} (enc : TypeId × Value → H) : ∃ places, DataW.whole enc Tryd.prog ((withTabs (World.holding Tryd.prog os ⟨#[], #[], []⟩)).forCall (fun _ _ => 0) ⟨#[], #[Value.string ⟨#[]⟩, Value.slice none 0 0, Value.int .i64 0], []⟩).memory Tryd.f5.params.toList Rows.rawPutsSpec.vars false #[Value.string ⟨#[]⟩, Value.slice none 0 0, Value.int .i64 0].toList 8 = some ([.lit (.string []), .nil, .lit (.int .i64 0)], [], places) :=
  ⟨[], by kernel_rfl⟩

set_option maxRecDepth 100000 in
theorem lifted (os : Os) (started : os.Started) (H : Type) (enc : TypeId × Value → H) (F : Stop.Interp) :
    ReturnsInHanded {} Tryd.checked os 5 .any ((Rows.OpenSpec.upto Rows.rawPutsSpec).preRow enc Tryd.prog Tryd.f5 Rows.rawPutsUptoRow.domain false Rows.rawPutsUptoRow.laid) (((Rows.OpenSpec.upto Rows.rawPutsSpec).at F).post enc Tryd.prog Tryd.f5 false true false false) := by
  obtain ⟨places, hx⟩ := reads os enc
  refine returnsInHanded_of_row (C := Tryd.checked) (s := Rows.OpenSpec.upto Rows.rawPutsSpec) own started (by kernel_rfl) Tryd.func5
    (witness_row_at (enc := enc) (C := Tryd.checked) false (withTabs (World.holding Tryd.prog os ⟨#[], #[], []⟩)) #[Value.string ⟨#[]⟩, Value.slice none 0 0, Value.int .i64 0] rfl (by kernel_rfl) (by kernel_rfl) (by kernel_rfl)
      (OpenSpec.preRow_of_cond 8 hx (by kernel_rfl) (fun k hk => by cases hk; kernel_rfl) (by kernel_rfl) (laid_met os))) ?_
  intro W base args ds gs before hval hW _ hcond _ hL hsh _
  exact contract H enc W base args ds gs before hval hW hL hsh (hcond _ rfl)

set_option maxRecDepth 100000 in
theorem said : Rows.RawPutsUptoSaid :=
  OpenClaim.holds_of_cond 5 Tryd.f5 rfl rfl rfl rfl rfl rfl rfl ⟨rfl, rfl, rfl, rfl, rfl⟩ rfl rfl rfl rfl rfl (by kernel_rfl) Tryd.func5 (by kernel_rfl)
    (of_decide_eq_true (by kernel_rfl)) (by unfold Func.isWrapper; first | (rw [if_pos (by decide +kernel)]; kernel_rfl) | (rw [if_neg (by decide +kernel)]; exact ⟨rfl, rfl⟩))
    (fun os started H enc _ F => by rw [OpenClaim.pre_eq_preRow]; exact lifted os started H enc F)

theorem plain (f : FuncId) (fn : Func) (hf : Tryd.pinned.checked.prog.funcNamed "sieve/sievelaw10.RawPuts" = some f) (hfn : Tryd.pinned.checked.prog.funcs[f]? = some fn) :
    false = Tryd.pinned.checked.prog.looks [] ∧ ∀ (j : Nat) t, fn.params[j]? = some t → Tryd.pinned.checked.prog.wantsStandIn t = false := by
  obtain rfl : f = 5 := Option.some.inj ((show Tryd.prog.funcNamed "sieve/sievelaw10.RawPuts" = some 5 by kernel_rfl).symm.trans hf) |>.symm
  obtain rfl : fn = Tryd.f5 := (Option.some.inj (Tryd.func5.symm.trans hfn)).symm
  refine ⟨by kernel_rfl, fun j t ht => ?_⟩
  rw [Tryd.params5] at ht
  have hm := Array.mem_of_getElem? ht
  simp only [List.mem_toArray, List.mem_cons, List.not_mem_nil, or_false] at hm
  rcases hm with rfl | rfl | rfl
  · exact (show Tryd.prog.wantsStandIn 9 = false by kernel_rfl)
  · exact (show Tryd.prog.wantsStandIn 32 = false by kernel_rfl)
  · exact (show Tryd.prog.wantsStandIn 3 = false by kernel_rfl)

theorem card : Rows.RawPutsUptoCardSaid :=
  Claim7.holds_tied_plain_at .later [] _ _ _ _ said (fun _ h => by cases h) (by kernel_rfl) (fun _ h => by cases h) rawPutsUpto_row_tie rfl ⟨rfl, rfl⟩ (by kernel_rfl) rfl plain (by kernel_rfl)

end Go.Proofs.YtegkdgmpkfpjmaaDoor.RPutsL
