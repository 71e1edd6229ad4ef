/- What is proved here: laws and contracts of BaAll, BaAll2, one behind the other (each says its own). -/
import Derived.Test.YtdkcibafbdmajabGreatDoorBun11
import Derived.Test.YtdkcibafbdmajabGreatDoorTCheck2
/- What is proved here: New; take of a token without attributes that does not go too deep and is no stray end; All of such tokens. -/
namespace Go.Proofs.YtdkcibafbdmajabGreatDoor.B
open Go.RowKit Go.Shelf Go.WideMaps Go.Maps Go.Proofs.YtdkcibafbdmajabGreatDoor.N Go.Proofs.YtdkcibafbdmajabGreatDoor.C Go.Proofs.YtdkcibafbdmajabGreatDoor.E

/-- A token without attributes and place. -/
structure BTok where
  k : Int
  nm : Txt
  tx : Txt
def BTok.tok (t : BTok) : T.Tok := ⟨t.k, ⟨t.nm.toArray⟩, ⟨t.tx.toArray⟩, false, 0, 0, 0⟩
def BTok.arr (t : BTok) : Array Value := #[.int .i64 t.k, .string ⟨t.nm.toArray⟩, .string ⟨t.tx.toArray⟩, .slice none 0 0, .bool false, .int .i64 0, .int .i64 0, .int .i64 0]
/-- What a token does. -/
def stepS (s : BSt) (t : BTok) : BSt := if t.k = 1 then startS s t.nm (0, 0, 0) else if t.k = 0 then textS s t.tx (0, 0, 0) else endS s t.nm
/-- A token that does not go too deep, is allowed, is no stray end, a text that stands. -/
structure OkS (s : BSt) (t : BTok) : Prop where
  len : s.S.length ≤ 600
  few : Few s.S
  ev : s.E.length ≤ 800000000
  fi : s.F.length ≤ 800000000
  nm : t.nm.length ≤ 1000000
  tx : t.tx.length ≤ 1000000
  way : (t.k = 1 ∧ allowB t.nm = true ∧ openCode s.S t.nm = 0 ∧ (s.S.length : Int) - openZ s.S t.nm + ((openI s.S t.nm).length : Int) + 1 ≤ s.d) ∨ (t.k = 0 ∧ s.fr = false ∧ t.tx ≠ [] ∧ endCode s.S = 0 ∧ (textP s.S (trim t.tx).isEmpty).2.2 = false ∧ (s.S.length : Int) - (textP s.S (trim t.tx).isEmpty).1 + ((textP s.S (trim t.tx).isEmpty).2.1.length : Int) ≤ s.d) ∨ (t.k = 2 ∧ endCode s.S = 0 ∧ 0 < endN s.S t.nm)
/-- **take.** -/
theorem take_calls (n B : Nat) (s : BSt) (t : BTok) (ok : OkS s t) (w : World) (h : BalAt n B s w) (hn : n ≤ w.heap.size) (hm : ∀ W, Below n w W → MaxOk W) :
    Calls Tryz.prog 28 #[.pointer (some ⟨B, 0, none⟩), .agg t.arr] w fun r w' => (∃ v, r = .returned v) ∧ BalAt n B (stepS s t) w' ∧ Fr B w w' := by
  obtain ⟨k, nm, tx⟩ := t
  obtain ⟨hl, hf, hE, hF, hnm, htx, hw⟩ := ok
  have HN : ∀ W, Below w.heap.size w W → n ≤ W.heap.size := fun W hW => Nat.le_trans hn hW.size
  have HM : ∀ W, Below w.heap.size w W → ∀ W', Below n W W' → MaxOk W' := fun W hW W' hW' => hm W' ((hW.mono hn).trans hW')
  simp only at hnm htx hw
  rcases hw with ⟨rfl, h1, h2, h3⟩ | ⟨rfl, h1, h2, h3, h4, h5⟩ | ⟨rfl, h1, h2⟩
  · exact take_start n B s (startS s nm (0, 0, 0)) nm tx _ false 0 0 0 w h (fun W hW hb => start_calls n B s nm tx false 0 0 0 h1 h2 hf hl (by omega) h3 hE hF W hb (HN W hW) (HM W hW))
  · exact take_text n B s (textS s tx (0, 0, 0)) nm tx _ false 0 0 0 w h (fun W hW hb => text_calls n B s nm tx false 0 0 0 h1 h2 h3 h4 hf hl (by omega) h5 hE hF W hb (HN W hW) (HM W hW))
  · exact take_end n B s (endS s nm) nm tx _ false 0 0 0 w h (fun W hW hb => end_calls n B s nm tx false 0 0 0 h1 h2 hf hl (by omega) hE W hb (HN W hW) (HM W hW))
set_option maxRecDepth 100000 in
set_option maxHeartbeats 4000000 in
/-- **New.** -/
theorem new_calls' (d : Int) (h1 : 1 ≤ d) (h2 : d ≤ 512) (w : World) :
    Calls Tryz.prog 7 #[.int .i64 d] w fun r w' => r = .returned (.tuple #[.pointer (some ⟨w.heap.size, 0, none⟩), .int .i64 0]) ∧ w' = w.alloc (.cells #[.slice none 0 0, .slice none 0 0, .slice none 0 0, .slice none 0 0, .map none, .bool false, .int .i64 d, .bool false] 69) := by
  have e1 : decide (d < 1) = false := decide_eq_false (by omega)
  have e2 : decide (d > 512) = false := decide_eq_false (by omega)
  go_enter Tryz.func7, Tryz.ntmps7
  go_wp2_with fail
  first | go_ret2 | go_ret
  exact ⟨rfl, rfl⟩
/-- One that has seen nothing. -/
def zeroS (d : Int) : BSt := ⟨[], [], [], false, d, false⟩
theorem bal_new (d : Int) (w : World) : BalAt w.heap.size w.heap.size (zeroS d) (w.alloc (.cells #[.slice none 0 0, .slice none 0 0, .slice none 0 0, .slice none 0 0, .map none, .bool false, .int .i64 d, .bool false] 69)) :=
  ⟨⟨_, _, _, Blk.new _ _ _, ⟨rfl, .inl ⟨rfl, rfl⟩⟩, ⟨rfl, .inl ⟨rfl, rfl⟩⟩, ⟨rfl, .inl ⟨rfl, rfl⟩⟩⟩, Nat.le_refl _⟩
/-- What stands behind i tokens. -/
def runS (d : Int) (T : List BTok) (i : Nat) : BSt := (T.take i).foldl stepS (zeroS d)
theorem run_succ (d : Int) (T : List BTok) (i : Nat) (hi : i < T.length) : runS d T (i + 1) = stepS (runS d T i) (T.getD i ⟨0, [], []⟩) := by
  unfold runS
  rw [List.take_succ_eq_append_getElem hi, List.foldl_append]
  simp [List.getD, List.getElem?_eq_getElem hi]
end Go.Proofs.YtdkcibafbdmajabGreatDoor.B

/- What is proved here: All of tokens that each do not go too deep and are no stray end. -/
namespace Go.Proofs.YtdkcibafbdmajabGreatDoor.B
open Go.RowKit Go.Shelf Go.WideMaps Go.Maps Go.Proofs.YtdkcibafbdmajabGreatDoor.N Go.Proofs.YtdkcibafbdmajabGreatDoor.C Go.Proofs.YtdkcibafbdmajabGreatDoor.E
/-- Tokens in memory. -/
def ToksAt (w : World) (b : Nat) (L : List BTok) : Prop := ∀ i, i < L.length → ∀ j, j < 8 → w.cell? ⟨b, i * 8 + j, none⟩ = (L.getD i ⟨0, [], []⟩).arr[j]?
theorem ToksAt.below {n b : Nat} {w w' : World} {L : List BTok} (h : ToksAt w b L) (hb : Below n w w') (hl : b < n) : ToksAt w' b L := fun i hi j hj => (hb.cell (p := ⟨b, i * 8 + j, none⟩) hl).trans (h i hi j hj)
theorem row_cap {w : World} {base size n cap g : Nat} {e : TypeId} {xs : List Value} (h : w.ownsRow base e size (.slice (some ⟨g, 0, none⟩) n cap) n xs) : n ≤ cap := by
  rcases h.2 with ⟨h1, _⟩ | ⟨_, _, _, h1, _, _, h2, _⟩
  · cases h1
  · injection h1 with _ _ h3; omega
set_option maxRecDepth 100000 in
set_option maxHeartbeats 40000000 in
/-- **All.** -/
theorem all_calls (d : Int) (h1 : 1 ≤ d) (h2 : d ≤ 512) (L : List BTok) (tb c : Nat) (hc : L.length ≤ c) (hc2 : c ≤ 1000000) (w : World) (hT : ToksAt w tb L) (htb : tb < w.heap.size) (hm : MaxOk w)
    (hok : ∀ i, i < L.length → OkS (runS d L i) (L.getD i ⟨0, [], []⟩)) (hck : ∀ i, i < L.length → T.checkB (L.getD i ⟨0, [], []⟩).tok [] = true) (hlE : (runS d L L.length).E.length ≤ 800000000) (hlS : (runS d L L.length).S.length ≤ 600)
    (hE : 0 < (finS (runS d L L.length)).E.length) (hF : 0 < (finS (runS d L L.length)).F.length) :
    Calls Tryz.prog 20 #[.int .i64 d, .slice (some ⟨tb, 0, none⟩) L.length c] w fun r w' => ∃ g0 g1, r = .returned (.tuple #[.slice (some ⟨g0, 0, none⟩) (finS (runS d L L.length)).E.length (finS (runS d L L.length)).E.length, .slice (some ⟨g1, 0, none⟩) (finS (runS d L L.length)).F.length (finS (runS d L L.length)).F.length, .int .i64 0]) ∧ (∀ j, j < (finS (runS d L L.length)).E.length * 4 → w'.cell? ⟨g0, j, none⟩ = (evv (finS (runS d L L.length)).E)[j]?) ∧ (∀ j, j < (finS (runS d L L.length)).F.length * 5 → w'.cell? ⟨g1, j, none⟩ = (fiv (finS (runS d L L.length)).F)[j]?) ∧ Below w.heap.size w w' := by
  have HN := hid_of (new_calls' d h1 h2 w)
  obtain ⟨w1, hw1⟩ : ∃ W, w.alloc (.cells #[.slice none 0 0, .slice none 0 0, .slice none 0 0, .slice none 0 0, .map none, .bool false, .int .i64 d, .bool false] 69) = W := ⟨_, rfl⟩
  have hB1 := bal_new d w
  have b1 : Below w.heap.size w w1 := by rw [← hw1]; exact (Below.refl _ w).alloc (Nat.le_refl _) _
  rw [hw1] at HN hB1
  have HBA := hid_of hB1
  have HBL := hid_of b1
  have HM : Hid (∀ W, Below w.heap.size w W → MaxOk W) := fun W hW => hm.below hW
  have HT := hid_of hT
  have HCK : Hid (∀ i, i < L.length → ∀ W, Calls Tryz.prog 27 #[.agg (L.getD i ⟨0, [], []⟩).arr] W fun e w' => e = .returned (.int .i64 0) ∧ Below W.heap.size W w') := fun i hi W => by
    have ok := hok i hi
    have h := T.check_calls (L.getD i ⟨0, [], []⟩).tok [] (.slice none 0 0) W (.inl ⟨rfl, .inl rfl⟩) ⟨by simp, fun x hx => by cases hx⟩ ⟨by have := ok.nm; show ((L.getD i ⟨0, [], []⟩).nm.toArray).size ≤ 4398046511104; rw [List.size_toArray]; omega, by have := ok.tx; show ((L.getD i ⟨0, [], []⟩).tx.toArray).size ≤ 4398046511104; rw [List.size_toArray]; omega⟩
    rw [hck i hi] at h
    exact h
  have HTK : Hid (∀ i, i < L.length → ∀ W, BalAt w.heap.size w.heap.size (runS d L i) W → Below w.heap.size w W → Calls Tryz.prog 28 #[.pointer (some ⟨w.heap.size, 0, none⟩), .agg (L.getD i ⟨0, [], []⟩).arr] W fun r w' => (∃ v, r = .returned v) ∧ BalAt w.heap.size w.heap.size (runS d L (i + 1)) w' ∧ Fr w.heap.size W w') := fun i hi W hb hW => by
    rw [run_succ d L i hi]
    exact take_calls w.heap.size w.heap.size (runS d L i) _ (hok i hi) W hb hW.size (fun W' hW' => hm.below (hW.trans hW'))
  have HFI : Hid (∀ W, BalAt w.heap.size w.heap.size (runS d L L.length) W → Below w.heap.size w W → Calls Tryz.prog 38 #[.pointer (some ⟨w.heap.size, 0, none⟩)] W fun r w' => (∃ v, r = .returned v) ∧ BalAt w.heap.size w.heap.size (finS (runS d L L.length)) w' ∧ Fr w.heap.size W w') := fun W hb hW => finish_calls w.heap.size w.heap.size (runS d L L.length) hlE hlS W hb hW.size
  generalize hfs : finS (runS d L L.length) = fs at *
  have HE := hid_of hE
  have HF := hid_of hF
  have hwz : w.heap.size ≤ w.heap.size := Nat.le_refl _
  clear hT hm hok hck hlE hlS hE hF hw1 hB1 b1 hfs
  go_enter Tryz.func20, Tryz.ntmps20
  go_wp2_with (go_at_call 7; refine HN.out.mono ?_; rintro e w' ⟨rfl, hw'⟩; have hx' := hw'.symm; subst hx')
  go_loopw [10, 11, 24] (fun _ _ ix wr => ∃ i : Nat, i ≤ L.length ∧ ix = .int .i64 i ∧ Hid (BalAt w.heap.size w.heap.size (runS d L i) wr) ∧ Hid (Below w.heap.size w wr)) (fun _ _ ix _ => L.length - (intOf ix).toNat)
  case atStart => exact ⟨0, by omega, rfl, HBA, HBL⟩
  case round =>
    obtain ⟨i, hi, rfl, HB, HL⟩ := hrel
    by_cases hlt : i < L.length
    · have HCKi := hid_of (HCK.out i hlt)
      have HTKi := hid_of (HTK.out i hlt)
      have HTi := hid_of (HT.out.below HL.out htb i hlt)
      generalize L.getD i ⟨0, [], []⟩ = t at *
      obtain ⟨k, nm, tx⟩ := t
      have t0 : wr.cell? ⟨tb, i * 8, none⟩ = some (.int .i64 k) := HTi.out 0 (by decide)
      have t1 : wr.cell? ⟨tb, i * 8 + 1, none⟩ = some (.string ⟨nm.toArray⟩) := HTi.out 1 (by decide)
      have t2 : wr.cell? ⟨tb, i * 8 + 2, none⟩ = some (.string ⟨tx.toArray⟩) := HTi.out 2 (by decide)
      have t3 : wr.cell? ⟨tb, i * 8 + 3, none⟩ = some (.slice none 0 0) := HTi.out 3 (by decide)
      have t4 : wr.cell? ⟨tb, i * 8 + 4, none⟩ = some (.bool false) := HTi.out 4 (by decide)
      have t5 : wr.cell? ⟨tb, i * 8 + 5, none⟩ = some (.int .i64 0) := HTi.out 5 (by decide)
      have t6 : wr.cell? ⟨tb, i * 8 + 6, none⟩ = some (.int .i64 0) := HTi.out 6 (by decide)
      have t7 : wr.cell? ⟨tb, i * 8 + 7, none⟩ = some (.int .i64 0) := HTi.out 7 (by decide)
      go_upto_region 7 with fail
      obtain ⟨W2, hW2⟩ : ∃ W, wr.alloc (.cells #[.int .i64 k, .string ⟨nm.toArray⟩, .string ⟨tx.toArray⟩, .slice none 0 0, .bool false, .int .i64 0, .int .i64 0, .int .i64 0] 37) = W := ⟨_, rfl⟩
      have b2 : Below wr.heap.size wr W2 := by rw [← hW2]; exact (Below.refl _ wr).alloc (Nat.le_refl _) _
      have q2 : Blk W2 wr.heap.size #[.int .i64 k, .string ⟨nm.toArray⟩, .string ⟨tx.toArray⟩, .slice none 0 0, .bool false, .int .i64 0, .int .i64 0, .int .i64 0] 37 := by rw [← hW2]; exact Blk.new _ _ _
      rw [hW2]
      have HB2 := hid_of (HB.out.below b2)
      have HL2 : Hid (Below w.heap.size w W2) := HL.out.trans (b2.mono HL.out.size)
      have HQ2 := hid_of q2
      have e0 : W2.cell? ⟨wr.heap.size, 0, none⟩ = some (.int .i64 k) := q2.cell 0
      have e1 : W2.cell? ⟨wr.heap.size, 1, none⟩ = some (.string ⟨nm.toArray⟩) := q2.cell 1
      have e2 : W2.cell? ⟨wr.heap.size, 2, none⟩ = some (.string ⟨tx.toArray⟩) := q2.cell 2
      have e3 : W2.cell? ⟨wr.heap.size, 3, none⟩ = some (.slice none 0 0) := q2.cell 3
      have e4 : W2.cell? ⟨wr.heap.size, 4, none⟩ = some (.bool false) := q2.cell 4
      have e5 : W2.cell? ⟨wr.heap.size, 5, none⟩ = some (.int .i64 0) := q2.cell 5
      have e6 : W2.cell? ⟨wr.heap.size, 6, none⟩ = some (.int .i64 0) := q2.cell 6
      have e7 : W2.cell? ⟨wr.heap.size, 7, none⟩ = some (.int .i64 0) := q2.cell 7
      clear hW2 b2 q2 t0 t1 t2 t3 t4 t5 t6 t7 HTi HB HL
      go_wp2_with fail
      (go_at_call 27; refine (HCKi.out _).mono ?_; rintro e w3 ⟨rfl, hb3⟩)
      have HB3 := hid_of (HB2.out.below hb3)
      have HL3 : Hid (Below w.heap.size w w3) := HL2.out.trans (hb3.mono HL2.out.size)
      have q3 := HQ2.out.below hb3
      have d0 : w3.cell? ⟨wr.heap.size, 0, none⟩ = some (.int .i64 k) := q3.cell 0
      have d1 : w3.cell? ⟨wr.heap.size, 1, none⟩ = some (.string ⟨nm.toArray⟩) := q3.cell 1
      have d2 : w3.cell? ⟨wr.heap.size, 2, none⟩ = some (.string ⟨tx.toArray⟩) := q3.cell 2
      have d3 : w3.cell? ⟨wr.heap.size, 3, none⟩ = some (.slice none 0 0) := q3.cell 3
      have d4 : w3.cell? ⟨wr.heap.size, 4, none⟩ = some (.bool false) := q3.cell 4
      have d5 : w3.cell? ⟨wr.heap.size, 5, none⟩ = some (.int .i64 0) := q3.cell 5
      have d6 : w3.cell? ⟨wr.heap.size, 6, none⟩ = some (.int .i64 0) := q3.cell 6
      have d7 : w3.cell? ⟨wr.heap.size, 7, none⟩ = some (.int .i64 0) := q3.cell 7
      clear q3 e0 e1 e2 e3 e4 e5 e6 e7 HB2 HL2 HQ2 hb3
      go_wp2_with fail
      (go_at_call 28; refine (HTKi.out _ HB3.out HL3.out).mono ?_; rintro e w4 ⟨⟨v4, rfl⟩, hb4, hk4⟩)
      have HB4 := hid_of hb4
      have HL4 : Hid (Below w.heap.size w w4) := HL3.out.trans (hk4.below HB3.out HL3.out.size)
      clear d0 d1 d2 d3 d4 d5 d6 d7 hb4 hk4
      go_wp2_with fail
      exact ⟨⟨i + 1, by omega, by go_num, HB4, HL4⟩, by simp [intOf]; omega⟩
    · obtain rfl : i = L.length := by omega
      have HFIi := hid_of (HFI.out _ HB.out HL.out)
      go_wp2_with fail
      (go_at_call 38; refine HFIi.out.mono ?_; rintro e w5 ⟨⟨v5, rfl⟩, hb5, hk5⟩)
      have HB5 := hid_of hb5
      have HL5 : Hid (Below w.heap.size w w5) := HL.out.trans (hk5.below HB.out HL.out.size)
      obtain ⟨x0, x1, x2, hbl, r0, r1, r2⟩ := hb5.blk
      obtain ⟨g0, c0, rfl, hg0, hc0⟩ := r0.form HE.out
      obtain ⟨g1, c1, rfl, hg1, hc1⟩ := r1.form HF.out
      have hn0 := row_not r0 hbl (by decide)
      have hn1 := row_not r1 hbl (by decide)
      have hg0B : g0 ≠ w.heap.size := fun e => hn0 (by rw [← e]; rfl)
      have hg1B : g1 ≠ w.heap.size := fun e => hn1 (by rw [← e]; rfl)
      have k0 := hid_of (row_cap r0)
      have k1 := hid_of (row_cap r1)
      have HOUT := hid_of (out_calls w.heap.size g0 c0 g1 c1 fs.E.length fs.F.length _ _ _ _ _ _ k0.out k1.out w5 hbl)
      have HR0 : Hid (∀ j, j < fs.E.length * 4 → w5.cell? ⟨g0, j, none⟩ = (evv fs.E)[j]?) := fun j hj => World.ownsRow.cellAt r0 j hj
      have HR1 : Hid (∀ j, j < fs.F.length * 5 → w5.cell? ⟨g1, j, none⟩ = (fiv fs.F)[j]?) := fun j hj => World.ownsRow.cellAt r1 j hj
      clear hb5 hk5 hbl r0 r1 r2 hn0 hn1 k0 k1
      go_wp2_with fail
      (go_at_call 29; refine HOUT.out.mono ?_; rintro e w6 ⟨rfl, hb6, hk6⟩)
      have HL6 : Hid (Below w.heap.size w w6) := HL5.out.trans hb6
      have HK6 := hid_of hk6
      clear hb6 hk6
      go_wp2_with fail
      first | go_ret3 | go_ret
      exact ⟨g0, g1, rfl, fun j hj => (World.cell?_of_block (a := ⟨g0, j, none⟩) (HK6.out g0 hg0B)).trans (HR0.out j hj), fun j hj => (World.cell?_of_block (a := ⟨g1, j, none⟩) (HK6.out g1 hg1B)).trans (HR1.out j hj), HL6.out⟩
end Go.Proofs.YtdkcibafbdmajabGreatDoor.B
