/- What is proved here: the statement LinkSets (a text as a srcset, candidates as a text) holds for texts up to the size that the statement's narrower form names, with no other condition but what the card says of the listed tables. -/
import Derived.Test.YthjjigobkndgjaaGreatDoorCards
import Derived.Test.YthjjigobkndgjaaGreatDoorTie
import Derived.Test.YthjjigobkndgjaaGreatDoorBun13
import Derived.Test.YthjjigobkndgjaaGreatDoorLkSrc
import Derived.Test.YthjjigobkndgjaaGreatDoorBun19
import Derived.Test.YthjjigobkndgjaaGreatDoorLpSetW
import Derived.Test.YthjjigobkndgjaaGreatDoorBun20
import Derived.ChangeSame
import Derived.ProofKit
import Derived.OpenShut
namespace Go.Proofs.YthjjigobkndgjaaGreatDoor.LpSetsL
open Go.ChangeShapes Go.WideShapes Go.ChangeAt Go.RowKit Go.Shelf U N L

/-- A world that has turned no block but one. -/
def But (g : Nat) (w w' : World) : Prop := w'.heap.size = w.heap.size ∧ ∀ k, k ≠ g → w'.heap[k]? = w.heap[k]?
theorem But.refl (g : Nat) (w : World) : But g w w := ⟨rfl, fun _ _ => rfl⟩
theorem But.set {g : Nat} {w w' : World} (h : But g w w') (i : Nat) (v : Value) : But g w (w'.setCell ⟨g, i, none⟩ v) := by
  refine ⟨by rw [← h.1]; simp [World.setCell], fun k hk => ?_⟩
  rw [← h.2 k hk]
  simp [World.setCell, Array.getElem?_modify, Ne.symm hk]
theorem But.cell {g : Nat} {w w' : World} (h : But g w w') (b o : Nat) (hb : b ≠ g) : w'.cell? ⟨b, o, none⟩ = w.cell? ⟨b, o, none⟩ := by
  simp only [World.cell?, h.2 b hb]
theorem But.twos {g : Nat} {w w' : World} (h : But g w w') {a : Option Addr} {l : List Two} (ha : TwosAt w a l) (hb : ∀ b off, a = some ⟨b, off, none⟩ → 0 < l.length → b ≠ g) : TwosAt w' a l := fun j hj => by
  obtain ⟨b, off, e, h1, h2⟩ := ha j hj
  have hn := hb b off e (by omega)
  exact ⟨b, off, e, by rw [h.cell b _ hn]; exact h1, by rw [h.cell b _ hn]; exact h2⟩
theorem own_block {e : TypeId} {base : Nat} {w : World} {a : Option Addr} {c : Nat} {l : List Two} (h : OwnW e base w (.slice a l.length c) l) (h0 : 0 < l.length) : ∃ g cur, a = some ⟨g, 0, none⟩ ∧ base ≤ g ∧ w.heap[g]? = some (.cells cur e (0, 0)) ∧ l.length * 2 ≤ cur.size := by
  rcases h.2 with ⟨_, e0⟩ | ⟨g, cap, cur, e1, hb, hg, hc, _, hcs, _⟩
  · omega
  · refine ⟨g, cur, ?_, hb, hg, by rw [hcs]; omega⟩
    injection e1
theorem block_cell {w : World} {g : Nat} {cur : Array Value} {e : TypeId} (h : w.heap[g]? = some (.cells cur e (0, 0))) (i : Nat) (hi : i < cur.size) : (∃ v, w.cell? ⟨g, i, none⟩ = some v) ∧ w.frozen? ⟨g, i, none⟩ = false := by
  refine ⟨⟨cur[i], ?_⟩, by simp [World.frozen?, h]⟩
  rw [cell_of_row _ _ _ _ _ _ h]
  simp [hi]
theorem block_set {w : World} {g : Nat} {cur : Array Value} {e : TypeId} (h : w.heap[g]? = some (.cells cur e (0, 0))) (i : Nat) (v : Value) : ∃ cur', (w.setCell ⟨g, i, none⟩ v).heap[g]? = some (.cells cur' e (0, 0)) ∧ cur'.size = cur.size := by
  refine ⟨cur.setIfInBounds i v, ?_, by simp⟩
  exact Lib.heap_setCell_same (i := i) h v
set_option maxRecDepth 100000 in
set_option maxHeartbeats 4000000 in
theorem walk_on (w : World) (hT : Tb w) (q : List UInt8) (hq : q.length ≤ 1048576) (a : Option Addr) (cap : Nat) (l : List Two) (hL : TwosAt w a l) (hl : l.length ≤ 1048576) (hx : ∀ x ∈ l, x.1.length + x.2.length ≤ 1048576) : Calls Tryz.prog 3 #[.string ⟨q.toArray⟩, .slice a l.length cap] w fun e w' => e = .returned (.bool true) ∧ Below w.heap.size w w' := by
  have HW : Hid (∀ W, Below w.heap.size w W → Calls Tryz.prog 10 #[] W fun e w' => e = .returned (.bool true) ∧ Below W.heap.size W w') := fun W h => awake_calls W (hT.below h)
  have HP : Hid (∀ W, Below w.heap.size w W → Calls Tryz.prog 5 #[.string ⟨q.toArray⟩] W fun e W' => ∃ v, e = .returned (.tuple #[v, .bool (srcK (mendL q)).2]) ∧ OwnW 27 W.heap.size W' v (srcK (mendL q)).1 ∧ Below W.heap.size W W') := fun W h => srcset_calls q W (hT.below h) (by omega)
  have HR : Hid (∀ W, Calls Tryz.prog 6 #[.string ⟨q.toArray⟩] W fun e W' => ∃ v, e = .returned (.tuple #[v, .bool (srcK (mendL q)).2]) ∧ OwnW 27 W.heap.size W' v (srcK (mendL q)).1 ∧ Below W.heap.size W W') := fun W => rsrcset_calls q W (by omega)
  have hpk : (srcK (mendL q)).1.length ≤ 100000000 := by
    have h2 := srcF_le ((mendL q).length + 1) (mendL q)
    have h3 := mend_le q
    unfold srcK
    omega
  obtain ⟨⟨K, G⟩, hK⟩ : ∃ K, srcK (mendL q) = K := ⟨_, rfl⟩
  rw [hK] at HP HR hpk
  simp only at HP HR hpk
  clear hK
  have HQ1 : Hid (∀ W, Below w.heap.size w W → Calls Tryz.prog 8 #[.slice a l.length cap] W fun e W' => e = .returned (.string ⟨(setK l).toArray⟩) ∧ Below W.heap.size W W') := fun W hb => set_calls l a cap W (hT.below hb) (hL.below hb) hl hx
  have HQ2 : Hid (∀ W, Below w.heap.size w W → Calls Tryz.prog 9 #[.slice a l.length cap] W fun e W' => e = .returned (.string ⟨(setK l).toArray⟩) ∧ Below W.heap.size W W') := fun W hb => rset_calls l a cap W (hL.below hb) hl hx
  have HEQ : Hid (∀ (a b : Option Addr) (ca cb : Nat) (W : World), TwosAt W a K → TwosAt W b K → Calls Tryz.prog 7 #[.slice a K.length ca, .slice b K.length cb] W fun e W' => e = .returned (.bool true) ∧ Below W.heap.size W W') := fun a b ca cb W h1 h2 => cands_calls K a b ca cb W h1 h2 (by omega)
  generalize (⟨(setK l).toArray⟩ : ByteArray) = Q at *
  have hq1 : (Q.toList == Q.toList) = true := by simp
  have hG1 : (G != G) = false := by cases G <;> rfl
  have hG2 : (G == G) = true := by cases G <;> rfl
  clear hT hL hx hq hl
  go_enter Tryz.func3, Tryz.ntmps3
  go_wp2_with fail
  (go_at_call 5; refine (HP.out w (Below.refl _ _)).mono ?_; rintro e w1 ⟨v1, rfl, ho1, hb1⟩)
  obtain ⟨a1, c1, rfl, hc1, ht1, hg1⟩ := OwnW.at ho1
  have HO1 := hid_of ho1
  have HT1 := hid_of ht1
  have HG1 := hid_of hg1
  have HB1 := hid_of hb1
  clear ho1 ht1 hg1 hb1
  go_wp2_with fail
  (go_at_call 5; refine (HP.out w1 HB1.out).mono ?_; rintro e w2 ⟨v2, rfl, ho2, hb2⟩)
  obtain ⟨a2, c2, rfl, hc2, ht2, hg2⟩ := OwnW.at ho2
  have HO2 := hid_of (owns_below HO1.out hb2)
  have HT12 := hid_of (HT1.out.below hb2)
  have HT22 := hid_of ht2
  have HG2 := hid_of hg2
  have HB2 := hid_of (HB1.out.trans (hb2.mono HB1.out.size))
  have HZ2 := hid_of hb2.size
  clear ho2 ht2 hg2 hb2 HT1 HO1
  go_wp2_with fail
  (go_at_call 6; refine (HR.out w2).mono ?_; rintro e w3 ⟨v3, rfl, ho3, hb3⟩)
  obtain ⟨a3, c3, rfl, hc3, ht3, hg3⟩ := OwnW.at ho3
  have HO3 := hid_of (owns_below HO2.out hb3)
  have HT13 := hid_of (HT12.out.below hb3)
  have HT23 := hid_of (HT22.out.below hb3)
  have HT33 := hid_of ht3
  have HG3 := hid_of hg3
  have HB3 := hid_of (HB2.out.trans (hb3.mono HB2.out.size))
  have HZ3 := hid_of hb3.size
  clear ho3 ht3 hg3 hb3 HT12 HT22 HO2 HB1
  go_wp2_with fail
  (go_at_call 7; refine (HEQ.out _ _ _ _ w3 HT13.out HT33.out).mono ?_; rintro e w4 ⟨rfl, hb4⟩)
  have HO4 := hid_of (owns_below HO3.out hb4)
  have HT24 := hid_of (HT23.out.below hb4)
  have HT34 := hid_of (HT33.out.below hb4)
  have HB4 := hid_of (HB3.out.trans (hb4.mono HB3.out.size))
  have HZ4 := hid_of hb4.size
  clear hb4 HT13 HT23 HT33 HO3 HB3
  go_wp2_with fail
  go_loopw [38] (fun vi wr => ∃ k : Nat, k ≤ K.length ∧ vi = .int .i64 k ∧ Hid (∀ b, a1 = some ⟨b, 0, none⟩ → But b w4 wr) ∧ Hid (a1 = none → wr = w4) ∧ Hid (0 < K.length → ∃ g cur, a1 = some ⟨g, 0, none⟩ ∧ w.heap.size ≤ g ∧ wr.heap[g]? = some (.cells cur 27 (0, 0)) ∧ K.length * 2 ≤ cur.size) ∧ Hid (Below w.heap.size w wr)) (fun vi _ => K.length - (intOf vi).toNat)
  case atStart => exact ⟨0, by omega, rfl, fun b _ => But.refl _ _, fun _ => rfl, fun h0 => own_block HO4.out h0, HB4⟩
  case round =>
    obtain ⟨k, hk, rfl, hBut, hNo, hOw, hB⟩ := hrel
    by_cases hlt : k < K.length
    · obtain ⟨g, cur, rfl, hgb, hgc, hcs⟩ := hOw.out (by omega)
      obtain ⟨⟨v0, cc0⟩, f0⟩ := block_cell hgc (k * 2) (by omega)
      obtain ⟨⟨v9, cc1⟩, f1⟩ := block_cell hgc (k * 2 + 1) (by omega)
      obtain ⟨cur2, hg2, hs2⟩ := block_set hgc (k * 2) (.string ⟨#[115, 112, 111, 105, 108, 116]⟩)
      obtain ⟨cur3, hg3, hs3⟩ := block_set hg2 (k * 2 + 1) (.string ⟨#[]⟩)
      have HN : Hid (∀ b, some (⟨g, 0, none⟩ : Addr) = some ⟨b, 0, none⟩ → But b w4 ((wr.setCell ⟨g, k * 2, none⟩ (.string ⟨#[115, 112, 111, 105, 108, 116]⟩)).setCell ⟨g, k * 2 + 1, none⟩ (.string ⟨#[]⟩))) := fun b e => by
        have eb : g = b := by injection e with e; injection e
        subst eb
        exact ((hBut.out g rfl).set _ _).set _ _
      have HBN : Hid (Below w.heap.size w ((wr.setCell ⟨g, k * 2, none⟩ (.string ⟨#[115, 112, 111, 105, 108, 116]⟩)).setCell ⟨g, k * 2 + 1, none⟩ (.string ⟨#[]⟩))) := (hB.out.setCell hgb _).setCell hgb _
      have HGN := hid_of hg3
      have HSN : Hid (K.length * 2 ≤ cur3.size) := by show _ ≤ _; omega
      have HGB := hid_of hgb
      clear hg2 hg3 hs2 hs3 hcs hgc hBut hOw hB hgb
      go_wp2_with fail
      exact ⟨⟨k + 1, by omega, by go_num, HN, fun e => (by cases e), fun _ => ⟨g, cur3, rfl, HGB.out, HGN.out, HSN.out⟩, HBN⟩, by simp [intOf]; omega⟩
    · obtain rfl : k = K.length := by omega
      have HT2r : Hid (TwosAt wr a2 K) := by
        by_cases h0 : 0 < K.length
        · obtain ⟨g, cur, rfl, hgb, hgc, hcs⟩ := hOw.out h0
          refine (hBut.out g rfl).twos HT24.out (fun b off e h => ?_)
          have h1 := (HG1.out g 0 rfl h0).2
          have h2 := (HG2.out b off e h).1
          omega
        · intro j hj; omega
      have HT3r : Hid (TwosAt wr a3 K) := by
        by_cases h0 : 0 < K.length
        · obtain ⟨g, cur, rfl, hgb, hgc, hcs⟩ := hOw.out h0
          refine (hBut.out g rfl).twos HT34.out (fun b off e h => ?_)
          have h1 := (HG1.out g 0 rfl h0).2
          have h2 := (HG3.out b off e h).1
          have h3 := HZ2.out
          omega
        · intro j hj; omega
      clear hBut hNo hOw HT24 HT34 HG1 HG2 HG3
      go_wp2_with fail
      (go_at_call 7; refine (HEQ.out _ _ _ _ _ HT2r.out HT3r.out).mono ?_; rintro e w7 ⟨rfl, hb7⟩)
      have HB7 := hid_of (hB.out.trans (hb7.mono hB.out.size))
      clear hb7 HT2r HT3r hB
      go_wp2_with fail
      (go_at_call 8; refine (HQ1.out _ HB7.out).mono ?_; rintro e w8 ⟨rfl, hb8⟩)
      have HB8 := hid_of (HB7.out.trans (hb8.mono HB7.out.size))
      clear hb8 HB7
      go_wp2_with fail
      (go_at_call 9; refine (HQ2.out _ HB8.out).mono ?_; rintro e w9 ⟨rfl, hb9⟩)
      have HB9 := hid_of (HB8.out.trans (hb9.mono HB8.out.size))
      clear hb9 HB8
      go_wp2_with fail
      (go_at_call 10; refine (HW.out _ HB9.out).mono ?_; rintro e w10 ⟨rfl, h10⟩)
      go_wp2_with fail
      go_ret
      exact ⟨rfl, HB9.out.trans (h10.mono HB9.out.size)⟩
theorem walk (w : World) (hT : Tb w) (s : ByteArray) (_hs0 : s.size ≤ 9223372036854775807) (hs : s.size ≤ 1048576) (a : Option Addr) (cap : Nat) (l : List Two) (hL : TwosAt w a l) (hl : l.length ≤ 1048576) (hx : ∀ x ∈ l, x.1.length + x.2.length ≤ 1048576) :
    Calls Tryz.prog 3 #[.string s, .slice a l.length cap] w fun e w' => e = .returned (.bool true) ∧ Below w.heap.size w w' := by
  have h9 := walk_on w hT s.data.toList (by rw [N.size_data]; exact hs) a cap l hL hl hx
  rw [Lib.mk_data] at h9
  exact h9

set_option maxRecDepth 100000 in
theorem contract (H : Type) (enc : TypeId × Value → H) (W : World) (base : Nat) (args : Array Value) (ds gs : List (DataW H)) (before : List MemPlace)
    (hval : ∀ (j : Nat) t v, Tryz.f3.params[j]? = some t → args[j]? = some v → Value.okWide Tryz.prog W .any base t v)
    (hW : DataW.Whole enc Tryz.prog Tryz.f3.params.toList Rows.linkSetsSpec.vars false W args.toList ds gs before) (hL : laidMetH Tryz.prog Rows.linkSetsUptoRow.laid W) (hk : Rows.uptoSmall H (ds ++ gs) = true) :
    Calls Tryz.prog 3 args W fun e W' => ∃ v, e = .returned v ∧ Rows.linkSetsSpec.post enc Tryz.prog Tryz.f3 false true false false W args v W' := by
  have hW' := hW
  have hlt := hW.lt
  obtain ⟨p, q, hA0, hV, rfl, hfz, hnd⟩ := hW
  have hA : DataW.TrodAll enc Tryz.prog W 0 (fun _ => true) true Tryz.f3.params.toList args.toList ds p := hA0
  rw [Tryz.params3] at hA hval
  obtain ⟨v0, vs0, d0, ds0, p0, q0, hargs, rfl, rfl, h0, r0⟩ := trodAll_cons hA
  obtain ⟨v1, vs1, d1, ds1, p1, q1, rfl, rfl, rfl, h1, r1⟩ := trodAll_cons r0
  obtain ⟨rfl, rfl, rfl⟩ := trodAll_nil r1
  obtain rfl : args = #[v0, v1] := by cases args; simp_all
  obtain ⟨rfl, rfl⟩ := trodVars_none hV
  clear hA0
  simp only [List.append_nil] at hW' hlt hk
  have hbulk := of_decide_eq_true hk
  simp only [Rows.uptoBulkAll] at hbulk
  have h0' := h0
  obtain ⟨s0, rfl, rfl, e0, ws0⟩ := Go.ChangeMaps.open_string Tryz.underlying9 (hval 0 9 v0 rfl rfl) h0
  have e1 := okWide_slice Tryz.underlying22 (hval 1 22 v1 rfl rfl)
  obtain ⟨ta1, tc1, ts1, rfl, ct1, ht1, l1, lx1⟩ := cands_of_read e1 h1
  refine (walk W (tabs_of_laid hL) s0 ws0 (by simp only [L.bulk_str, N.size_data] at hbulk; omega) ta1 tc1 ts1 ht1 (by omega) (fun x hx => by have := lx1 x hx; omega)).mono fun e W' ⟨he, hb⟩ => ?_
  subst he
  exact ⟨_, rfl, post_below hW' (fun _ _ _ => trodAll_cons_mk (shut_bool Tryz.underlying4 _) trodAll_mk0) (trodAll_cons_mk (stays (by kernel_rfl) (of_decide_eq_true (by kernel_rfl)) h0' hb (fun x hx => hlt x (by simp [hx]))) (trodAll_cons_mk (stays (by kernel_rfl) (of_decide_eq_true (by kernel_rfl)) h1 hb (fun x hx => hlt x (by simp [hx]))) trodAll_mk0)) rfl hb⟩

set_option maxRecDepth 100000 in
theorem laid_met (os : Os) : laidMet Tryz.prog Rows.linkSetsUptoRow.laid ((withTabs (World.holding Tryz.prog os ⟨#[], #[], []⟩)).forCall (fun _ _ => 0) ⟨#[], #[Value.string ⟨#[]⟩, Value.slice none 0 0], []⟩).memory :=
  laidMet_of_run' 8 (by kernel_rfl) (by kernel_rfl)
set_option maxRecDepth 100000 in
theorem reads (os : Os) {H : Type} (enc : TypeId × Value → H) : ∃ places, DataW.whole enc Tryz.prog ((withTabs (World.holding Tryz.prog os ⟨#[], #[], []⟩)).forCall (fun _ _ => 0) ⟨#[], #[Value.string ⟨#[]⟩, Value.slice none 0 0], []⟩).memory Tryz.f3.params.toList Rows.linkSetsSpec.vars false #[Value.string ⟨#[]⟩, Value.slice none 0 0].toList 8 = some ([.lit (.string []), .nil], [], places) :=
  ⟨[], by kernel_rfl⟩

set_option maxRecDepth 100000 in
theorem lifted (os : Os) (started : os.Started) (H : Type) (enc : TypeId × Value → H) (F : Stop.Interp) :
    ReturnsInHanded {} Tryz.checked os 3 .any ((Rows.OpenSpec.upto Rows.linkSetsSpec).preRow enc Tryz.prog Tryz.f3 Rows.linkSetsUptoRow.domain false Rows.linkSetsUptoRow.laid) (((Rows.OpenSpec.upto Rows.linkSetsSpec).at F).post enc Tryz.prog Tryz.f3 false true false false) := by
  obtain ⟨places, hx⟩ := reads os enc
  refine returnsInHanded_of_row (C := Tryz.checked) (s := Rows.OpenSpec.upto Rows.linkSetsSpec) own started (by kernel_rfl) Tryz.func3
    (witness_row_at (enc := enc) (C := Tryz.checked) false (withTabs (World.holding Tryz.prog os ⟨#[], #[], []⟩)) #[Value.string ⟨#[]⟩, Value.slice none 0 0] rfl (by kernel_rfl) (by kernel_rfl) (by kernel_rfl)
      (OpenSpec.preRow_of_cond 8 hx (by kernel_rfl) (fun k hk => by cases hk; kernel_rfl) (by kernel_rfl) (laid_met os))) ?_
  intro W base args ds gs before hval hW _ hcond _ hL _ _
  exact contract H enc W base args ds gs before hval hW hL (hcond _ rfl)

set_option maxRecDepth 100000 in
theorem said : Rows.LinkSetsUptoSaid :=
  OpenClaim.holds_of_cond 3 Tryz.f3 rfl rfl rfl rfl rfl rfl rfl ⟨rfl, rfl, rfl, rfl, rfl⟩ rfl rfl rfl rfl rfl (by kernel_rfl) Tryz.func3 (by kernel_rfl)
    (of_decide_eq_true (by kernel_rfl)) (by unfold Func.isWrapper; first | (rw [if_pos (by decide +kernel)]; kernel_rfl) | (rw [if_neg (by decide +kernel)]; exact ⟨rfl, rfl⟩))
    (fun os started H enc _ F => by rw [OpenClaim.pre_eq_preRow]; exact lifted os started H enc F)

theorem plain (f : FuncId) (fn : Func) (hf : Tryz.pinned.checked.prog.funcNamed "sieve/sievelaw12.LinkSets" = some f) (hfn : Tryz.pinned.checked.prog.funcs[f]? = some fn) :
    false = Tryz.pinned.checked.prog.looks [] ∧ ∀ (j : Nat) t, fn.params[j]? = some t → Tryz.pinned.checked.prog.wantsStandIn t = false := by
  obtain rfl : f = 3 := Option.some.inj ((show Tryz.prog.funcNamed "sieve/sievelaw12.LinkSets" = some 3 by kernel_rfl).symm.trans hf) |>.symm
  obtain rfl : fn = Tryz.f3 := (Option.some.inj (Tryz.func3.symm.trans hfn)).symm
  refine ⟨by kernel_rfl, fun j t ht => ?_⟩
  rw [Tryz.params3] at ht
  have hm := Array.mem_of_getElem? ht
  simp only [List.mem_toArray, List.mem_cons, List.not_mem_nil, or_false] at hm
  rcases hm with rfl | rfl
  · exact (show Tryz.prog.wantsStandIn 9 = false by kernel_rfl)
  · exact (show Tryz.prog.wantsStandIn 22 = false by kernel_rfl)

theorem card : Rows.LinkSetsUptoCardSaid :=
  Claim7.holds_tied_plain_at .later [] _ _ _ _ said (fun _ h => by cases h) (by kernel_rfl) (fun _ h => by cases h) linkSetsUpto_row_tie rfl ⟨rfl, rfl⟩ (by kernel_rfl) rfl plain (by kernel_rfl)

end Go.Proofs.YthjjigobkndgjaaGreatDoor.LpSetsL
