/- What is proved here: ended, End. -/
import Derived.Test.YtdkcibafbdmajabGreatDoorNeCalls
namespace Go.Proofs.YtdkcibafbdmajabGreatDoor.E
open Go.RowKit Go.Shelf Go.WideMaps Go.Maps Go.Proofs.YtdkcibafbdmajabGreatDoor.N Go.Proofs.YtdkcibafbdmajabGreatDoor.C

theorem SomeTb.get {n B pb lb m : Nat} {W : World} (h : SomeTb n B pb lb m W) : ∃ a S k ins, Tb n B pb lb a S k ins m W := h
/-- What find leaves. -/
structure Found (n B pb lb m : Nat) (w w' : World) : Prop where
  tb : SomeTb n B pb lb m w'
  keep : Keep w.heap.size B lb w w'
/-- find over a stack that need not be the table's. -/
theorem find_any {n B pb lb : Nat} {a a0 : Option Addr} {S S0 : List Txt} {k0 : Nat} {ins0 : List Txt} {m : Nat} (hS : Few S) {f1 f2 : Nat} {b1 c1 b2 c2 : Array Value} {p q : Txt → Bool} (cap : Nat) (w : World) (h : Tb n B pb lb a0 S0 k0 ins0 m w) (hT : TextsAt w a S) (hm : m + 2 * S.length ≤ 1000000000000)
    (h1 : Asks lb f1 b1 c1 p (TbI w.heap.size n B pb lb a0 S0 k0 ins0)) (h2 : Asks lb f2 b2 c2 q (TbI w.heap.size n B pb lb a0 S0 k0 ins0)) :
    Calls Tryz.prog 124 #[.slice a S.length cap, .func (.func f1) b1 c1, .func (.func f2) b2 c2] w fun e w' => e = .returned (.int .i64 (findK S p q S.length)) ∧ Keep w.heap.size B lb w w' :=
  (find_calls S (by have := hS.len; omega) hS.each S.length (Nat.le_refl _) a cap lb f1 f2 b1 c1 b2 c2 p q _ m w (minds_tb h.tab.hn h.tab.hl) h1 h2 h.toI hT (by omega)).mono fun e w' ⟨e1, _, e3⟩ => ⟨e1, Keep.grown e3 (Nat.le_refl _)⟩
theorem find_any_is {n B pb lb : Nat} {a a0 : Option Addr} {S S0 : List Txt} {k0 : Nat} {ins0 : List Txt} {m : Nat} (hS : Few S) {f2 : Nat} {b2 c2 : Array Value} {q : Txt → Bool} (y : Txt) (Bx cap : Nat) (w : World) (h : Tb n B pb lb a0 S0 k0 ins0 m w) (hT : TextsAt w a S) (hm : m + 2 * S.length ≤ 1000000000000)
    (hB : w.cell? ⟨Bx, 0, none⟩ = some (.string ⟨y.toArray⟩)) (h2 : Asks lb f2 b2 c2 q (fun m W => TbI w.heap.size n B pb lb a0 S0 k0 ins0 m W ∧ W.cell? ⟨Bx, 0, none⟩ = some (.string ⟨y.toArray⟩))) :
    Calls Tryz.prog 124 #[.slice a S.length cap, .func (.func 148) #[] #[.pointer (some ⟨Bx, 0, none⟩)], .func (.func f2) b2 c2] w fun e w' => e = .returned (.int .i64 (findK S (isB y) q S.length)) ∧ Keep w.heap.size B lb w w' :=
  (find_calls S (by have := hS.len; omega) hS.each S.length (Nat.le_refl _) a cap lb _ f2 #[] _ b2 c2 (isB y) q _ m w ((minds_tb h.tab.hn h.tab.hl).box (cell_lt hB)) (asks_is fun m W hi => ⟨⟨hi.1.next, hi.2⟩, hi.2⟩) h2 ⟨h.toI, hB⟩ hT (by omega)).mono fun e w' ⟨e1, _, e3⟩ => ⟨e1, Keep.grown e3 (Nat.le_refl _)⟩
theorem find_any_is2 {n B pb lb : Nat} {a a0 : Option Addr} {S S0 : List Txt} {k0 : Nat} {ins0 : List Txt} {m : Nat} (hS : Few S) (y z : Txt) (Bx Bz cap : Nat) (w : World) (h : Tb n B pb lb a0 S0 k0 ins0 m w) (hT : TextsAt w a S) (hm : m + 2 * S.length ≤ 1000000000000)
    (hB : w.cell? ⟨Bx, 0, none⟩ = some (.string ⟨y.toArray⟩)) (hZ : w.cell? ⟨Bz, 0, none⟩ = some (.string ⟨z.toArray⟩)) :
    Calls Tryz.prog 124 #[.slice a S.length cap, .func (.func 148) #[] #[.pointer (some ⟨Bx, 0, none⟩)], .func (.func 148) #[] #[.pointer (some ⟨Bz, 0, none⟩)]] w fun e w' => e = .returned (.int .i64 (findK S (isB y) (isB z) S.length)) ∧ Keep w.heap.size B lb w w' :=
  (find_calls S (by have := hS.len; omega) hS.each S.length (Nat.le_refl _) a cap lb _ _ #[] _ #[] _ (isB y) (isB z) (fun m W => (TbI w.heap.size n B pb lb a0 S0 k0 ins0 m W ∧ W.cell? ⟨Bx, 0, none⟩ = some (.string ⟨y.toArray⟩)) ∧ W.cell? ⟨Bz, 0, none⟩ = some (.string ⟨z.toArray⟩)) m w
    (((minds_tb h.tab.hn h.tab.hl).box (cell_lt hB)).box (cell_lt hZ)) (asks_is fun m W hi => ⟨⟨⟨hi.1.1.next, hi.1.2⟩, hi.2⟩, hi.1.2⟩) (asks_is fun m W hi => ⟨⟨⟨hi.1.1.next, hi.1.2⟩, hi.2⟩, hi.2⟩) ⟨⟨h.toI, hB⟩, hZ⟩ hT (by omega)).mono fun e w' ⟨e1, _, e3⟩ => ⟨e1, Keep.grown e3 (Nat.le_refl _)⟩
set_option maxRecDepth 100000 in
set_option maxHeartbeats 4000000 in
/-- **ended.** -/
theorem ended_calls {n B pb lb : Nat} {a a0 : Option Addr} {S S0 : List Txt} {k0 c : Nat} {ins0 : List Txt} {m : Nat} (hS : Few S) (x : Txt) (hx : x.length ≤ 10000000000) (w : World) (h : Tb n B pb lb a0 S0 k0 ins0 m w) (hT : TextsAt w a S) (hlow : ∀ b off, a = some ⟨b, off, none⟩ → 0 < S.length → b < n) (hm : m ≤ 900000000000) :
    Calls Tryz.prog 105 #[.pointer (some ⟨B, 0, none⟩), .slice a S.length c, .string ⟨x.toArray⟩] w fun e w' => e = .returned (.int .i64 (endedK S S.length x)) ∧ Keep w.heap.size B lb w w' := by
  have hL := hS.len
  have HHC := hid_of (heading_calls x hx (by omega) w h)
  have HKT : Hid (∀ W, Keep w.heap.size B lb w W → TextsAt W a S) := fun W hk => keep_texts h hT hlow hk h.tab.hn
  have HS := hid_of hS
  have HEK : Hid (endedK S S.length x = if headB x then findK S headB wallB S.length else if x = xTable then findK S (isB x) neverB S.length else if inZ 14 x then findK S (isB x) (isB xTable) S.length else findK S (isB x) wallB S.length) := rfl
  have HIN : Hid (∀ W, MaxOk W → Calls Tryz.prog 69 #[.string ⟨x.toArray⟩, .int .i64 14] W fun e w' => e = .returned (.bool (inZ 14 x)) ∧ w' = W) := fun W hm => by
    have := in_calls ⟨x.toArray⟩ 14 W (by show x.toArray.size ≤ _; simp; omega) hm
    rwa [show (⟨x.toArray⟩ : ByteArray).data.toList = x from rfl] at this
  clear hx h hT hlow hS
  go_enter Tryz.func105, Tryz.ntmps105
  go_wp2_with fail
  (go_at_call 123; refine HHC.out.mono ?_; rintro e w1 ⟨rfl, ht1, hg1⟩)
  have HT1 := hid_of ht1
  have HK1 : Hid (Keep w.heap.size B lb w w1) := Keep.grown hg1 (Nat.le_refl _)
  have HX1 := hid_of (HKT.out _ HK1.out)
  clear ht1 hg1
  cases hh : headB x
  · rw [hh] at HEK
    simp only [Bool.false_eq_true, if_false] at HEK
    clear hh
    by_cases hxt : x = xTable
    · rw [if_pos hxt] at HEK
      subst hxt
      unfold xTable
      have b2 : Below w1.heap.size w1 (w1.alloc (.cells #[.string ⟨#[116, 97, 98, 108, 101]⟩] 9)) := (Below.refl _ _).alloc (Nat.le_refl _) _
      have HF := hid_of (find_any_is HS.out xTable w1.heap.size c _ (HT1.out.below b2) (HX1.out.below b2) (by omega) (box_cell _ _ _) (asks_plain_box ent_never never_calls))
      have HB2 := hid_of b2
      clear b2
      go_wp2_with fail
      (go_at_call 126; refine (is_calls _ _).mono ?_; rintro e w2 ⟨rfl, rfl⟩)
      go_wp2_with fail
      (go_at_call 124; refine HF.out.mono ?_; rintro e w3 ⟨rfl, hk3⟩)
      go_wp2_with fail
      go_ret
      exact ⟨by rw [HEK.out]; rfl, HK1.out.trans ((Keep.below (HB2.out.mono HK1.out.size)).trans (hk3.mono (by have := HK1.out.size; simp; omega)))⟩
    · rw [if_neg hxt] at HEK
      have hxf : (x == [116, 97, 98, 108, 101]) = false := by rw [beq_eq_false_iff_ne]; exact hxt
      clear hxt
      cases hz : inZ 14 x
      · rw [hz] at HIN HEK
        simp only [Bool.false_eq_true, if_false] at HEK
        clear hz
        have b2 : Below w1.heap.size w1 (w1.alloc (.cells #[.string ⟨x.toArray⟩] 9)) := (Below.refl _ _).alloc (Nat.le_refl _) _
        have HF := hid_of (find_any_is HS.out x w1.heap.size c _ (HT1.out.below b2) (HX1.out.below b2) (by omega) (box_cell _ _ _) (asks_plain_box ent_wall wall_calls))
        have HB2 := hid_of b2
        clear b2
        go_wp2_with fail
        (go_at_call 69; refine (HIN.out w1 HT1.out.mx).mono ?_; rintro e w' ⟨rfl, hw'⟩; have hx' := hw'.symm; subst hx')
        go_wp2_with fail
        (go_at_call 126; refine (is_calls _ _).mono ?_; rintro e w2 ⟨rfl, rfl⟩)
        go_wp2_with fail
        (go_at_call 124; refine HF.out.mono ?_; rintro e w3 ⟨rfl, hk3⟩)
        go_wp2_with fail
        go_ret
        exact ⟨by rw [HEK.out]; rfl, HK1.out.trans ((Keep.below (HB2.out.mono HK1.out.size)).trans (hk3.mono (by have := HK1.out.size; simp; omega)))⟩
      · rw [hz] at HIN HEK
        simp only [if_true] at HEK
        clear hz
        have b2 : Below w1.heap.size w1 ((w1.alloc (.cells #[.string ⟨x.toArray⟩] 9)).alloc (.cells #[.string ⟨#[116, 97, 98, 108, 101]⟩] 9)) := ((Below.refl _ _).alloc (Nat.le_refl _) _).alloc (by simp) _
        have g2 : ((w1.alloc (.cells #[.string ⟨x.toArray⟩] 9)).alloc (.cells #[.string ⟨#[116, 97, 98, 108, 101]⟩] 9)).cell? ⟨w1.heap.size + 1, 0, none⟩ = some (.string ⟨#[116, 97, 98, 108, 101]⟩) := by
          have := box_cell (w1.alloc (.cells #[.string ⟨x.toArray⟩] 9)) (.string ⟨#[116, 97, 98, 108, 101]⟩) 9
          rwa [World.size_alloc] at this
        have HF := hid_of (find_any_is2 HS.out x xTable w1.heap.size (w1.heap.size + 1) c _ (HT1.out.below b2) (HX1.out.below b2) (by omega) (old_cell _ (box_cell _ _ _)) g2)
        have HB2 := hid_of b2
        clear b2 g2
        go_wp2_with fail
        (go_at_call 69; refine (HIN.out w1 HT1.out.mx).mono ?_; rintro e w' ⟨rfl, hw'⟩; have hx' := hw'.symm; subst hx')
        go_wp2_with fail
        (go_at_call 126; refine (is_calls _ _).mono ?_; rintro e w2 ⟨rfl, rfl⟩)
        go_wp2_with fail
        (go_at_call 126; refine (is_calls _ _).mono ?_; rintro e w2 ⟨rfl, rfl⟩)
        go_wp2_with fail
        (go_at_call 124; refine HF.out.mono ?_; rintro e w3 ⟨rfl, hk3⟩)
        go_wp2_with fail
        go_ret
        exact ⟨by rw [HEK.out]; rfl, HK1.out.trans ((Keep.below (HB2.out.mono HK1.out.size)).trans (hk3.mono (by have := HK1.out.size; simp; omega)))⟩
  · rw [hh] at HEK
    simp only [if_true] at HEK
    clear hh
    have HF := hid_of (find_any HS.out c w1 HT1.out HX1.out (by omega) asks_heading (asks_plain_tb ent_wall wall_calls))
    go_wp2_with fail
    (go_at_call 124; refine HF.out.mono ?_; rintro e w3 ⟨rfl, hk3⟩)
    go_wp2_with fail
    go_ret
    exact ⟨by rw [HEK.out]; rfl, HK1.out.trans (hk3.mono HK1.out.size)⟩
def endCode (S : List Txt) : Int := if rightK S S.length then 0 else 161
def endN (S : List Txt) (x : Txt) : Int := if rightK S S.length then (if endedK S S.length x < 0 then 0 else (S.length : Int) - endedK S S.length x) else 0
theorem ended_ge (S : List Txt) (k : Nat) (x : Txt) : -1 ≤ endedK S k x := by unfold endedK; split; exact findK_ge _ _ _ _; split; exact findK_ge _ _ _ _; split <;> exact findK_ge _ _ _ _
set_option maxRecDepth 100000 in
set_option maxHeartbeats 4000000 in
/-- **End.** -/
theorem End_calls (w : World) (hm : MaxOk w) (a : Option Addr) (S : List Txt) (c : Nat) (h : StackAt w a S c) (x : Txt) (hx : x.length ≤ 10000000000) :
    Calls Tryz.prog 82 #[.slice a S.length c, .string ⟨x.toArray⟩] w fun e w' => e = .returned (.tuple #[.int .i64 (endN S x), .int .i64 (endCode S)]) ∧ Below w.heap.size w w' := by
  have HM := hid_of hm
  have HH := hid_of h
  have HX := hid_of hx
  have hlt := ended_lt S S.length x
  have hge := ended_ge S S.length x
  have hlen := h.len
  have HEC : Hid (endCode S = if rightK S S.length then 0 else 161) := rfl
  have HEN : Hid (endN S x = if rightK S S.length then (if endedK S S.length x < 0 then 0 else (S.length : Int) - endedK S S.length x) else 0) := rfl
  clear hm h hx
  go_enter Tryz.func82, Tryz.ntmps82
  go_wp2_with fail
  (go_at_call 93; refine (newTable_calls w HM.out).mono ?_; rintro e w1 ⟨B, pb, lb, rfl, ht, hb1, hB, hl⟩)
  go_wp2_with fail
  (go_at_call 94; refine (newRight w w1 HH.out hb1 ht).mono ?_; rintro e w2 ⟨rfl, hs2, hk2⟩)
  have HB2 : Hid (Below w.heap.size w w2) := hb1.trans (hk2.toBelow hb1.size hB hl)
  have HBL : Hid (w.heap.size ≤ B ∧ w.heap.size ≤ lb) := ⟨hB, hl⟩
  have HLW : Hid (∀ b off, a = some ⟨b, off, none⟩ → 0 < S.length → b < w1.heap.size) := fun b off e h0 => Nat.lt_of_lt_of_le (HH.out.low b off e h0) hb1.size
  obtain ⟨a2, S2, k2, i2, ht2⟩ := hs2
  have HE := hid_of (ended_calls (c := c) HH.out.few x HX.out w2 ht2 (HH.out.below HB2.out).txt HLW.out (by omega))
  clear ht hb1 hk2 ht2 hB hl
  cases hr : rightK S S.length
  · rw [hr] at HEC HEN
    simp only [Bool.false_eq_true, if_false] at HEC HEN
    clear hr
    go_wp2_with fail
    go_ret2
    exact ⟨by rw [HEC.out, HEN.out]; rfl, HB2.out⟩
  · rw [hr] at HEC HEN
    simp only [if_true] at HEC HEN
    clear hr
    generalize endedK S S.length x = z at *
    go_wp2_with fail
    (go_at_call 105; refine HE.out.mono ?_; rintro e w3 ⟨rfl, hk3⟩)
    have HB3 : Hid (Below w.heap.size w w3) := HB2.out.trans (hk3.toBelow HB2.out.size HBL.out.1 HBL.out.2)
    clear hk3
    by_cases hz : z < 0
    · rw [if_pos hz] at HEN
      have hd : decide (z < 0) = true := decide_eq_true hz
      clear hz
      go_wp2_with fail
      go_ret2
      exact ⟨by rw [HEC.out, HEN.out]; rfl, HB3.out⟩
    · rw [if_neg hz] at HEN
      have hd : decide (z < 0) = false := decide_eq_false hz
      have hw : IntKind.i64.wrap ((S.length : Int) - z) = (S.length : Int) - z := by rw [IntKind.wrap_i64]; omega
      clear hz
      go_wp2_with fail
      go_ret2
      exact ⟨by rw [HEC.out, HEN.out]; rfl, HB3.out⟩
end Go.Proofs.YtdkcibafbdmajabGreatDoor.E
