/- What is proved here: stand. -/
import Derived.Test.YtdkcibafbdmajabGreatDoorBun6
namespace Go.Proofs.YtdkcibafbdmajabGreatDoor.E
open Go.RowKit Go.Shelf Go.WideMaps Go.Maps Go.Proofs.YtdkcibafbdmajabGreatDoor.N Go.Proofs.YtdkcibafbdmajabGreatDoor.C

set_option maxRecDepth 100000 in
set_option maxHeartbeats 2000000 in
theorem stand_colgroup {n B pb lb : Nat} {a : Option Addr} {S : List Txt} {k : Nat} {ins : List Txt} {m : Nat} (hS : S.length ≤ 100000) (hi : ins.length ≤ 900) (w : World) (h : Tb n B pb lb a S k ins m w) (ht : topK S k = xColgroup) :
    Calls Tryz.prog 115 #[.pointer (some ⟨B, 0, none⟩)] w fun e w' => (∃ v, e = .returned v) ∧ PL n B pb lb a S (standN S k) (ins ++ standI (topK S k)) m w w' := by
  have HTC := hid_of (top_calls hS w h)
  rw [ht] at HTC
  have hk0 : k ≠ 0 := by rintro rfl; cases ht
  obtain ⟨j, rfl⟩ : ∃ j, k = j + 1 := ⟨k - 1, by omega⟩
  have HE : Hid (standN S (j + 1) = j ∧ standI (topK S (j + 1)) = [xTbody, xTr, xTd]) := by rw [ht]; exact ⟨by unfold standN; rw [ht]; rfl, by rfl⟩
  have HT := hid_of h
  have hjk := h.tab.hk
  clear ht h hk0
  go_enter Tryz.func115, Tryz.ntmps115
  go_wp2_with fail
  (go_at_call 116; refine HTC.out.mono ?_; rintro e w1 ⟨rfl, hb1⟩)
  have hp0 : PL n B pb lb a S (j + 1) ins m w w1 := (PL.refl HT.out).below hb1
  obtain ⟨c, vin, hc, hb, hv⟩ := hp0.tb.tab.blk
  have hB : Blk w1 B #[.map (some pb), .map (some lb), .slice a (j + 1) c, vin] 155 := hb
  have k2 : w1.cell? ⟨B, 2, none⟩ = some (.slice a (j + 1) c) := hB.cell 2
  clear hB hb hv hc
  have HP0 := hid_of hp0
  clear hp0
  have hw1 : IntKind.i64.wrap ((j : Int) + 1 - 1) = (j : Int) := by rw [IntKind.wrap_i64]; omega
  have hw2 : IntKind.i64.wrap (j : Int) = (j : Int) := by rw [IntKind.wrap_i64]; omega
  go_wp2_with fail
  (go_at_call 117; refine (closeWith_calls hS (j : Int) (fun _ => ⟨by omega, by omega⟩) w1 HP0.out.tb).mono ?_; rintro e w2 ⟨rfl, hcl⟩)
  rw [show closeK (j + 1) (j : Int) = j by unfold closeK; rw [if_pos (by omega)]; simp] at hcl
  have hp1 := HP0.out.trans (hcl.pl HP0.out.tb.tab.hn)
  clear hcl k2 HP0
  go_wp2_with fail
  (go_at_call 142; refine (put_calls xTbody (by first | omega | (simp; omega)) _ hp1.tb).mono ?_; rintro e v0 ⟨⟨vr0, rfl⟩, hq0⟩)
  have hr0 := hp1.trans hq0
  clear hp1 hq0
  go_wp2_with fail
  (go_at_call 142; refine (put_calls xTr (by first | omega | (simp; omega)) _ hr0.tb).mono ?_; rintro e v1 ⟨⟨vr1, rfl⟩, hq1⟩)
  have hr1 := hr0.trans hq1
  clear hr0 hq1
  go_wp2_with fail
  (go_at_call 142; refine (put_calls xTd (by first | omega | (simp; omega)) _ hr1.tb).mono ?_; rintro e v2 ⟨⟨vr2, rfl⟩, hq2⟩)
  have hr2 := hr1.trans hq2
  clear hr1 hq2
  go_wp2_with fail
  go_end0
  exact ⟨⟨_, rfl⟩, by rw [HE.out.1, HE.out.2]; simpa using hr2⟩
set_option maxRecDepth 100000 in
set_option maxHeartbeats 2000000 in
theorem stand_table {n B pb lb : Nat} {a : Option Addr} {S : List Txt} {k : Nat} {ins : List Txt} {m : Nat} (hS : S.length ≤ 100000) (hi : ins.length ≤ 900) (w : World) (h : Tb n B pb lb a S k ins m w) (ht : topK S k = xTable) :
    Calls Tryz.prog 115 #[.pointer (some ⟨B, 0, none⟩)] w fun e w' => (∃ v, e = .returned v) ∧ PL n B pb lb a S (standN S k) (ins ++ standI (topK S k)) m w w' := by
  have HTC := hid_of (top_calls hS w h)
  rw [ht] at HTC
  have hk0 : k ≠ 0 := by rintro rfl; cases ht
  obtain ⟨j, rfl⟩ : ∃ j, k = j + 1 := ⟨k - 1, by omega⟩
  have HE : Hid (standN S (j + 1) = j + 1 ∧ standI (topK S (j + 1)) = [xTbody, xTr, xTd]) := by rw [ht]; exact ⟨by unfold standN; rw [ht]; rfl, by rfl⟩
  have HT := hid_of h
  have hjk := h.tab.hk
  clear ht h hk0
  go_enter Tryz.func115, Tryz.ntmps115
  go_wp2_with fail
  (go_at_call 116; refine HTC.out.mono ?_; rintro e w1 ⟨rfl, hb1⟩)
  have hp0 : PL n B pb lb a S (j + 1) ins m w w1 := (PL.refl HT.out).below hb1
  go_wp2_with fail
  (go_at_call 142; refine (put_calls xTbody (by first | omega | (simp; omega)) _ hp0.tb).mono ?_; rintro e v0 ⟨⟨vr0, rfl⟩, hq0⟩)
  have hr0 := hp0.trans hq0
  clear hp0 hq0
  go_wp2_with fail
  (go_at_call 142; refine (put_calls xTr (by first | omega | (simp; omega)) _ hr0.tb).mono ?_; rintro e v1 ⟨⟨vr1, rfl⟩, hq1⟩)
  have hr1 := hr0.trans hq1
  clear hr0 hq1
  go_wp2_with fail
  (go_at_call 142; refine (put_calls xTd (by first | omega | (simp; omega)) _ hr1.tb).mono ?_; rintro e v2 ⟨⟨vr2, rfl⟩, hq2⟩)
  have hr2 := hr1.trans hq2
  clear hr1 hq2
  go_wp2_with fail
  go_end0
  exact ⟨⟨_, rfl⟩, by rw [HE.out.1, HE.out.2]; simpa using hr2⟩
set_option maxRecDepth 100000 in
set_option maxHeartbeats 2000000 in
theorem stand_thead {n B pb lb : Nat} {a : Option Addr} {S : List Txt} {k : Nat} {ins : List Txt} {m : Nat} (hS : S.length ≤ 100000) (hi : ins.length ≤ 900) (w : World) (h : Tb n B pb lb a S k ins m w) (ht : topK S k = xThead) :
    Calls Tryz.prog 115 #[.pointer (some ⟨B, 0, none⟩)] w fun e w' => (∃ v, e = .returned v) ∧ PL n B pb lb a S (standN S k) (ins ++ standI (topK S k)) m w w' := by
  have HTC := hid_of (top_calls hS w h)
  rw [ht] at HTC
  have hk0 : k ≠ 0 := by rintro rfl; cases ht
  obtain ⟨j, rfl⟩ : ∃ j, k = j + 1 := ⟨k - 1, by omega⟩
  have HE : Hid (standN S (j + 1) = j + 1 ∧ standI (topK S (j + 1)) = [xTr, xTd]) := by rw [ht]; exact ⟨by unfold standN; rw [ht]; rfl, by rfl⟩
  have HT := hid_of h
  have hjk := h.tab.hk
  clear ht h hk0
  go_enter Tryz.func115, Tryz.ntmps115
  go_wp2_with fail
  (go_at_call 116; refine HTC.out.mono ?_; rintro e w1 ⟨rfl, hb1⟩)
  have hp0 : PL n B pb lb a S (j + 1) ins m w w1 := (PL.refl HT.out).below hb1
  go_wp2_with fail
  (go_at_call 142; refine (put_calls xTr (by first | omega | (simp; omega)) _ hp0.tb).mono ?_; rintro e v0 ⟨⟨vr0, rfl⟩, hq0⟩)
  have hr0 := hp0.trans hq0
  clear hp0 hq0
  go_wp2_with fail
  (go_at_call 142; refine (put_calls xTd (by first | omega | (simp; omega)) _ hr0.tb).mono ?_; rintro e v1 ⟨⟨vr1, rfl⟩, hq1⟩)
  have hr1 := hr0.trans hq1
  clear hr0 hq1
  go_wp2_with fail
  go_end0
  exact ⟨⟨_, rfl⟩, by rw [HE.out.1, HE.out.2]; simpa using hr1⟩
set_option maxRecDepth 100000 in
set_option maxHeartbeats 2000000 in
theorem stand_tbody {n B pb lb : Nat} {a : Option Addr} {S : List Txt} {k : Nat} {ins : List Txt} {m : Nat} (hS : S.length ≤ 100000) (hi : ins.length ≤ 900) (w : World) (h : Tb n B pb lb a S k ins m w) (ht : topK S k = xTbody) :
    Calls Tryz.prog 115 #[.pointer (some ⟨B, 0, none⟩)] w fun e w' => (∃ v, e = .returned v) ∧ PL n B pb lb a S (standN S k) (ins ++ standI (topK S k)) m w w' := by
  have HTC := hid_of (top_calls hS w h)
  rw [ht] at HTC
  have hk0 : k ≠ 0 := by rintro rfl; cases ht
  obtain ⟨j, rfl⟩ : ∃ j, k = j + 1 := ⟨k - 1, by omega⟩
  have HE : Hid (standN S (j + 1) = j + 1 ∧ standI (topK S (j + 1)) = [xTr, xTd]) := by rw [ht]; exact ⟨by unfold standN; rw [ht]; rfl, by rfl⟩
  have HT := hid_of h
  have hjk := h.tab.hk
  clear ht h hk0
  go_enter Tryz.func115, Tryz.ntmps115
  go_wp2_with fail
  (go_at_call 116; refine HTC.out.mono ?_; rintro e w1 ⟨rfl, hb1⟩)
  have hp0 : PL n B pb lb a S (j + 1) ins m w w1 := (PL.refl HT.out).below hb1
  go_wp2_with fail
  (go_at_call 142; refine (put_calls xTr (by first | omega | (simp; omega)) _ hp0.tb).mono ?_; rintro e v0 ⟨⟨vr0, rfl⟩, hq0⟩)
  have hr0 := hp0.trans hq0
  clear hp0 hq0
  go_wp2_with fail
  (go_at_call 142; refine (put_calls xTd (by first | omega | (simp; omega)) _ hr0.tb).mono ?_; rintro e v1 ⟨⟨vr1, rfl⟩, hq1⟩)
  have hr1 := hr0.trans hq1
  clear hr0 hq1
  go_wp2_with fail
  go_end0
  exact ⟨⟨_, rfl⟩, by rw [HE.out.1, HE.out.2]; simpa using hr1⟩
set_option maxRecDepth 100000 in
set_option maxHeartbeats 2000000 in
theorem stand_tfoot {n B pb lb : Nat} {a : Option Addr} {S : List Txt} {k : Nat} {ins : List Txt} {m : Nat} (hS : S.length ≤ 100000) (hi : ins.length ≤ 900) (w : World) (h : Tb n B pb lb a S k ins m w) (ht : topK S k = xTfoot) :
    Calls Tryz.prog 115 #[.pointer (some ⟨B, 0, none⟩)] w fun e w' => (∃ v, e = .returned v) ∧ PL n B pb lb a S (standN S k) (ins ++ standI (topK S k)) m w w' := by
  have HTC := hid_of (top_calls hS w h)
  rw [ht] at HTC
  have hk0 : k ≠ 0 := by rintro rfl; cases ht
  obtain ⟨j, rfl⟩ : ∃ j, k = j + 1 := ⟨k - 1, by omega⟩
  have HE : Hid (standN S (j + 1) = j + 1 ∧ standI (topK S (j + 1)) = [xTr, xTd]) := by rw [ht]; exact ⟨by unfold standN; rw [ht]; rfl, by rfl⟩
  have HT := hid_of h
  have hjk := h.tab.hk
  clear ht h hk0
  go_enter Tryz.func115, Tryz.ntmps115
  go_wp2_with fail
  (go_at_call 116; refine HTC.out.mono ?_; rintro e w1 ⟨rfl, hb1⟩)
  have hp0 : PL n B pb lb a S (j + 1) ins m w w1 := (PL.refl HT.out).below hb1
  go_wp2_with fail
  (go_at_call 142; refine (put_calls xTr (by first | omega | (simp; omega)) _ hp0.tb).mono ?_; rintro e v0 ⟨⟨vr0, rfl⟩, hq0⟩)
  have hr0 := hp0.trans hq0
  clear hp0 hq0
  go_wp2_with fail
  (go_at_call 142; refine (put_calls xTd (by first | omega | (simp; omega)) _ hr0.tb).mono ?_; rintro e v1 ⟨⟨vr1, rfl⟩, hq1⟩)
  have hr1 := hr0.trans hq1
  clear hr0 hq1
  go_wp2_with fail
  go_end0
  exact ⟨⟨_, rfl⟩, by rw [HE.out.1, HE.out.2]; simpa using hr1⟩
set_option maxRecDepth 100000 in
set_option maxHeartbeats 2000000 in
theorem stand_tr {n B pb lb : Nat} {a : Option Addr} {S : List Txt} {k : Nat} {ins : List Txt} {m : Nat} (hS : S.length ≤ 100000) (hi : ins.length ≤ 900) (w : World) (h : Tb n B pb lb a S k ins m w) (ht : topK S k = xTr) :
    Calls Tryz.prog 115 #[.pointer (some ⟨B, 0, none⟩)] w fun e w' => (∃ v, e = .returned v) ∧ PL n B pb lb a S (standN S k) (ins ++ standI (topK S k)) m w w' := by
  have HTC := hid_of (top_calls hS w h)
  rw [ht] at HTC
  have hk0 : k ≠ 0 := by rintro rfl; cases ht
  obtain ⟨j, rfl⟩ : ∃ j, k = j + 1 := ⟨k - 1, by omega⟩
  have HE : Hid (standN S (j + 1) = j + 1 ∧ standI (topK S (j + 1)) = [xTd]) := by rw [ht]; exact ⟨by unfold standN; rw [ht]; rfl, by rfl⟩
  have HT := hid_of h
  have hjk := h.tab.hk
  clear ht h hk0
  go_enter Tryz.func115, Tryz.ntmps115
  go_wp2_with fail
  (go_at_call 116; refine HTC.out.mono ?_; rintro e w1 ⟨rfl, hb1⟩)
  have hp0 : PL n B pb lb a S (j + 1) ins m w w1 := (PL.refl HT.out).below hb1
  go_wp2_with fail
  (go_at_call 142; refine (put_calls xTd (by first | omega | (simp; omega)) _ hp0.tb).mono ?_; rintro e v0 ⟨⟨vr0, rfl⟩, hq0⟩)
  have hr0 := hp0.trans hq0
  clear hp0 hq0
  go_wp2_with fail
  go_end0
  exact ⟨⟨_, rfl⟩, by rw [HE.out.1, HE.out.2]; simpa using hr0⟩
set_option maxRecDepth 100000 in
set_option maxHeartbeats 2000000 in
theorem stand_ul {n B pb lb : Nat} {a : Option Addr} {S : List Txt} {k : Nat} {ins : List Txt} {m : Nat} (hS : S.length ≤ 100000) (hi : ins.length ≤ 900) (w : World) (h : Tb n B pb lb a S k ins m w) (ht : topK S k = xUl) :
    Calls Tryz.prog 115 #[.pointer (some ⟨B, 0, none⟩)] w fun e w' => (∃ v, e = .returned v) ∧ PL n B pb lb a S (standN S k) (ins ++ standI (topK S k)) m w w' := by
  have HTC := hid_of (top_calls hS w h)
  rw [ht] at HTC
  have hk0 : k ≠ 0 := by rintro rfl; cases ht
  obtain ⟨j, rfl⟩ : ∃ j, k = j + 1 := ⟨k - 1, by omega⟩
  have HE : Hid (standN S (j + 1) = j + 1 ∧ standI (topK S (j + 1)) = [xLi]) := by rw [ht]; exact ⟨by unfold standN; rw [ht]; rfl, by rfl⟩
  have HT := hid_of h
  have hjk := h.tab.hk
  clear ht h hk0
  go_enter Tryz.func115, Tryz.ntmps115
  go_wp2_with fail
  (go_at_call 116; refine HTC.out.mono ?_; rintro e w1 ⟨rfl, hb1⟩)
  have hp0 : PL n B pb lb a S (j + 1) ins m w w1 := (PL.refl HT.out).below hb1
  go_wp2_with fail
  (go_at_call 142; refine (put_calls xLi (by first | omega | (simp; omega)) _ hp0.tb).mono ?_; rintro e v0 ⟨⟨vr0, rfl⟩, hq0⟩)
  have hr0 := hp0.trans hq0
  clear hp0 hq0
  go_wp2_with fail
  go_end0
  exact ⟨⟨_, rfl⟩, by rw [HE.out.1, HE.out.2]; simpa using hr0⟩
set_option maxRecDepth 100000 in
set_option maxHeartbeats 2000000 in
theorem stand_ol {n B pb lb : Nat} {a : Option Addr} {S : List Txt} {k : Nat} {ins : List Txt} {m : Nat} (hS : S.length ≤ 100000) (hi : ins.length ≤ 900) (w : World) (h : Tb n B pb lb a S k ins m w) (ht : topK S k = xOl) :
    Calls Tryz.prog 115 #[.pointer (some ⟨B, 0, none⟩)] w fun e w' => (∃ v, e = .returned v) ∧ PL n B pb lb a S (standN S k) (ins ++ standI (topK S k)) m w w' := by
  have HTC := hid_of (top_calls hS w h)
  rw [ht] at HTC
  have hk0 : k ≠ 0 := by rintro rfl; cases ht
  obtain ⟨j, rfl⟩ : ∃ j, k = j + 1 := ⟨k - 1, by omega⟩
  have HE : Hid (standN S (j + 1) = j + 1 ∧ standI (topK S (j + 1)) = [xLi]) := by rw [ht]; exact ⟨by unfold standN; rw [ht]; rfl, by rfl⟩
  have HT := hid_of h
  have hjk := h.tab.hk
  clear ht h hk0
  go_enter Tryz.func115, Tryz.ntmps115
  go_wp2_with fail
  (go_at_call 116; refine HTC.out.mono ?_; rintro e w1 ⟨rfl, hb1⟩)
  have hp0 : PL n B pb lb a S (j + 1) ins m w w1 := (PL.refl HT.out).below hb1
  go_wp2_with fail
  (go_at_call 142; refine (put_calls xLi (by first | omega | (simp; omega)) _ hp0.tb).mono ?_; rintro e v0 ⟨⟨vr0, rfl⟩, hq0⟩)
  have hr0 := hp0.trans hq0
  clear hp0 hq0
  go_wp2_with fail
  go_end0
  exact ⟨⟨_, rfl⟩, by rw [HE.out.1, HE.out.2]; simpa using hr0⟩
set_option maxRecDepth 100000 in
set_option maxHeartbeats 2000000 in
theorem stand_menu {n B pb lb : Nat} {a : Option Addr} {S : List Txt} {k : Nat} {ins : List Txt} {m : Nat} (hS : S.length ≤ 100000) (hi : ins.length ≤ 900) (w : World) (h : Tb n B pb lb a S k ins m w) (ht : topK S k = xMenu) :
    Calls Tryz.prog 115 #[.pointer (some ⟨B, 0, none⟩)] w fun e w' => (∃ v, e = .returned v) ∧ PL n B pb lb a S (standN S k) (ins ++ standI (topK S k)) m w w' := by
  have HTC := hid_of (top_calls hS w h)
  rw [ht] at HTC
  have hk0 : k ≠ 0 := by rintro rfl; cases ht
  obtain ⟨j, rfl⟩ : ∃ j, k = j + 1 := ⟨k - 1, by omega⟩
  have HE : Hid (standN S (j + 1) = j + 1 ∧ standI (topK S (j + 1)) = [xLi]) := by rw [ht]; exact ⟨by unfold standN; rw [ht]; rfl, by rfl⟩
  have HT := hid_of h
  have hjk := h.tab.hk
  clear ht h hk0
  go_enter Tryz.func115, Tryz.ntmps115
  go_wp2_with fail
  (go_at_call 116; refine HTC.out.mono ?_; rintro e w1 ⟨rfl, hb1⟩)
  have hp0 : PL n B pb lb a S (j + 1) ins m w w1 := (PL.refl HT.out).below hb1
  go_wp2_with fail
  (go_at_call 142; refine (put_calls xLi (by first | omega | (simp; omega)) _ hp0.tb).mono ?_; rintro e v0 ⟨⟨vr0, rfl⟩, hq0⟩)
  have hr0 := hp0.trans hq0
  clear hp0 hq0
  go_wp2_with fail
  go_end0
  exact ⟨⟨_, rfl⟩, by rw [HE.out.1, HE.out.2]; simpa using hr0⟩
set_option maxRecDepth 100000 in
set_option maxHeartbeats 2000000 in
theorem stand_dl {n B pb lb : Nat} {a : Option Addr} {S : List Txt} {k : Nat} {ins : List Txt} {m : Nat} (hS : S.length ≤ 100000) (hi : ins.length ≤ 900) (w : World) (h : Tb n B pb lb a S k ins m w) (ht : topK S k = xDl) :
    Calls Tryz.prog 115 #[.pointer (some ⟨B, 0, none⟩)] w fun e w' => (∃ v, e = .returned v) ∧ PL n B pb lb a S (standN S k) (ins ++ standI (topK S k)) m w w' := by
  have HTC := hid_of (top_calls hS w h)
  rw [ht] at HTC
  have hk0 : k ≠ 0 := by rintro rfl; cases ht
  obtain ⟨j, rfl⟩ : ∃ j, k = j + 1 := ⟨k - 1, by omega⟩
  have HE : Hid (standN S (j + 1) = j + 1 ∧ standI (topK S (j + 1)) = [xDd]) := by rw [ht]; exact ⟨by unfold standN; rw [ht]; rfl, by rfl⟩
  have HT := hid_of h
  have hjk := h.tab.hk
  clear ht h hk0
  go_enter Tryz.func115, Tryz.ntmps115
  go_wp2_with fail
  (go_at_call 116; refine HTC.out.mono ?_; rintro e w1 ⟨rfl, hb1⟩)
  have hp0 : PL n B pb lb a S (j + 1) ins m w w1 := (PL.refl HT.out).below hb1
  go_wp2_with fail
  (go_at_call 142; refine (put_calls xDd (by first | omega | (simp; omega)) _ hp0.tb).mono ?_; rintro e v0 ⟨⟨vr0, rfl⟩, hq0⟩)
  have hr0 := hp0.trans hq0
  clear hp0 hq0
  go_wp2_with fail
  go_end0
  exact ⟨⟨_, rfl⟩, by rw [HE.out.1, HE.out.2]; simpa using hr0⟩
set_option maxRecDepth 100000 in
set_option maxHeartbeats 2000000 in
theorem stand_none {n B pb lb : Nat} {a : Option Addr} {S : List Txt} {k : Nat} {ins : List Txt} {m : Nat} (hS : S.length ≤ 100000) (w : World) (h : Tb n B pb lb a S k ins m w) (T : Txt) (ht : topK S k = T)
    (h0 : (T == [99, 111, 108, 103, 114, 111, 117, 112]) = false) (h1 : (T == [116, 97, 98, 108, 101]) = false) (h2 : (T == [116, 104, 101, 97, 100]) = false) (h3 : (T == [116, 98, 111, 100, 121]) = false) (h4 : (T == [116, 102, 111, 111, 116]) = false) (h5 : (T == [116, 114]) = false) (h6 : (T == [117, 108]) = false) (h7 : (T == [111, 108]) = false) (h8 : (T == [109, 101, 110, 117]) = false) (h9 : (T == [100, 108]) = false) :
    Calls Tryz.prog 115 #[.pointer (some ⟨B, 0, none⟩)] w fun e w' => (∃ v, e = .returned v) ∧ PL n B pb lb a S (standN S k) (ins ++ standI (topK S k)) m w w' := by
  have HTC := hid_of (top_calls hS w h)
  rw [ht] at HTC
  have HE : Hid (standN S k = k ∧ standI (topK S k) = []) := by
    rw [beq_eq_false_iff_ne] at h0 h1 h2 h3 h4 h5 h6 h7 h8 h9
    constructor
    · unfold standN; rw [ht, if_neg (by simpa [xColgroup] using h0)]
    · rw [ht]
      simp [standI, groupB, listB, xColgroup, xTable, xThead, xTbody, xTfoot, xTr, xUl, xOl, xMenu, xDl, h0, h1, h2, h3, h4, h5, h6, h7, h8, h9]
  have HT := hid_of h
  clear ht h
  go_enter Tryz.func115, Tryz.ntmps115
  go_wp2_with fail
  (go_at_call 116; refine HTC.out.mono ?_; rintro e w1 ⟨rfl, hb1⟩)
  have hp0 : PL n B pb lb a S k ins m w w1 := (PL.refl HT.out).below hb1
  go_wp2_with fail
  go_end0
  exact ⟨⟨_, rfl⟩, by rw [HE.out.1, HE.out.2]; simpa using hp0⟩
/-- **stand.** -/
theorem stand_calls {n B pb lb : Nat} {a : Option Addr} {S : List Txt} {k : Nat} {ins : List Txt} {m : Nat} (hS : S.length ≤ 100000) (hi : ins.length ≤ 900) (w : World) (h : Tb n B pb lb a S k ins m w) :
    Calls Tryz.prog 115 #[.pointer (some ⟨B, 0, none⟩)] w fun e w' => (∃ v, e = .returned v) ∧ PL n B pb lb a S (standN S k) (ins ++ standI (topK S k)) m w w' := by
  by_cases h_colgroup : topK S k = xColgroup
  · exact stand_colgroup hS hi w h h_colgroup
  by_cases h_table : topK S k = xTable
  · exact stand_table hS hi w h h_table
  by_cases h_thead : topK S k = xThead
  · exact stand_thead hS hi w h h_thead
  by_cases h_tbody : topK S k = xTbody
  · exact stand_tbody hS hi w h h_tbody
  by_cases h_tfoot : topK S k = xTfoot
  · exact stand_tfoot hS hi w h h_tfoot
  by_cases h_tr : topK S k = xTr
  · exact stand_tr hS hi w h h_tr
  by_cases h_ul : topK S k = xUl
  · exact stand_ul hS hi w h h_ul
  by_cases h_ol : topK S k = xOl
  · exact stand_ol hS hi w h h_ol
  by_cases h_menu : topK S k = xMenu
  · exact stand_menu hS hi w h h_menu
  by_cases h_dl : topK S k = xDl
  · exact stand_dl hS hi w h h_dl
  exact stand_none hS w h _ rfl (by rw [beq_eq_false_iff_ne]; exact h_colgroup) (by rw [beq_eq_false_iff_ne]; exact h_table) (by rw [beq_eq_false_iff_ne]; exact h_thead) (by rw [beq_eq_false_iff_ne]; exact h_tbody) (by rw [beq_eq_false_iff_ne]; exact h_tfoot) (by rw [beq_eq_false_iff_ne]; exact h_tr) (by rw [beq_eq_false_iff_ne]; exact h_ul) (by rw [beq_eq_false_iff_ne]; exact h_ol) (by rw [beq_eq_false_iff_ne]; exact h_menu) (by rw [beq_eq_false_iff_ne]; exact h_dl)
end Go.Proofs.YtdkcibafbdmajabGreatDoor.E
