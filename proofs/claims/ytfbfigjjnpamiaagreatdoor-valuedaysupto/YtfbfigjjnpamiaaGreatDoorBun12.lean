/- What is proved here: laws and contracts of VTok, VDate, one behind the other (each says its own). -/
import Derived.Test.YtfbfigjjnpamiaaGreatDoorVTidy
import Derived.Test.YtfbfigjjnpamiaaGreatDoorVShelf
import Derived.Test.YtfbfigjjnpamiaaGreatDoorVNum
import Derived.Test.YtfbfigjjnpamiaaGreatDoorLkBlk
/- What is proved here: the contracts of strings.Join (of a value's words) and of the rule for ValueTokens, and that the document's examples ('lives') hold. -/
namespace Go.Proofs.YtfbfigjjnpamiaaGreatDoor.V
open Go.RowKit Go.Shelf Go.Proofs.YtfbfigjjnpamiaaGreatDoor.N Go.Proofs.YtfbfigjjnpamiaaGreatDoor.U Go.Proofs.YtfbfigjjnpamiaaGreatDoor.L

theorem svs_get (L : List (List UInt8)) (j : Nat) (x : ByteArray) (h : (L.map fun x => (⟨x.toArray⟩ : ByteArray))[j]? = some x) : (svs L)[j]? = some (.string x) := by
  simp [svs] at h ⊢
  obtain ⟨a, h1, rfl⟩ := h
  exact ⟨a, h1, rfl⟩
theorem map_back (L : List (List UInt8)) : (L.map fun x => (⟨x.toArray⟩ : ByteArray)).map (·.data.toList) = L := by
  rw [List.map_map]
  exact List.map_id' L
set_option maxRecDepth 100000 in
theorem join_calls (base : Nat) (v : Value) (L : List (List UInt8)) (w : World) (hO : OwnT base w v L) (hN : L.length ≤ 100000000000) (hlen : (joined L).length ≤ 140737488355328) :
    Calls Tryz.prog 64 #[v, .string ⟨#[32]⟩] w fun e w' => e = .returned (.string ⟨(joined L).toArray⟩) ∧ Below w.heap.size w w' := by
  by_cases h0 : L.length = 0
  · obtain rfl : L = [] := List.length_eq_zero_iff.1 h0
    obtain ⟨a, c, rfl⟩ := owns_slice hO
    refine (Any.strings_Join_none Tryz.lays156 Tryz.Builder_Extra_156 a c ⟨#[32]⟩ w).mono fun e w' ⟨he, hw⟩ => ⟨he, hw ▸ Below.refl _ _⟩
  · rcases hO.2 with ⟨rfl, e0⟩ | ⟨g, cap, cur, rfl, hb, hg, hcap, _⟩
    · omega
    · have e1 : (L.map fun x => (⟨x.toArray⟩ : ByteArray)).length = L.length := by simp
      have h := Any.strings_Join Tryz.lays156 Tryz.Builder_Extra_156 g 0 cap (L.map fun x => (⟨x.toArray⟩ : ByteArray)) ⟨#[32]⟩ w
        (fun j x hx => by
          have hj : j < L.length := by rw [← e1]; exact (List.getElem?_eq_some_iff.1 hx).1
          rw [Nat.zero_add, World.ownsRow.cellAt hO j (by omega)]
          exact svs_get L j x hx) (lt_of_block hg) (by rw [e1]; omega) (by rw [e1]; exact hcap) (by rw [map_back]; exact hlen)
      rw [e1, map_back] at h
      exact h
set_option maxRecDepth 100000 in
set_option maxHeartbeats 2000000 in
/-- **The rule for ValueTokens.** -/
theorem tokens_calls (ts : List Int) (hV : AllV ts) (wa sa : Option Addr) (wn wc sn sc : Nat) (rel : Bool) (w : World) (hl : (encs ts).length ≤ 90000000000) :
    Calls Tryz.prog 46 #[.agg #[.string ⟨(encs ts).toArray⟩, .slice wa wn wc, .slice sa sn sc, .bool rel]] w fun e W' => e = .returned (.tuple #[.string ⟨(collapse (encs ts)).toArray⟩, .bool true]) ∧ Below w.heap.size w W' := by
  obtain ⟨W1, hW1⟩ : ∃ W1, w.alloc (.cells #[.string ⟨(encs ts).toArray⟩, .slice wa wn wc, .slice sa sn sc, .bool rel] 61) = W1 := ⟨_, rfl⟩
  have HB1 : Hid (Below w.heap.size w W1) := by rw [← hW1]; exact (Below.refl _ w).alloc (Nat.le_refl _) _
  have HK1 : Blk W1 w.heap.size #[.string ⟨(encs ts).toArray⟩, .slice wa wn wc, .slice sa sn sc, .bool rel] 61 := by rw [← hW1]; exact Blk.new w _ _
  have x0 : W1.cell? ⟨w.heap.size, 0, none⟩ = some (.string ⟨(encs ts).toArray⟩) := HK1.cell 0
  have HW := hid_of (words_calls ts hV W1 (by omega))
  have hfc := fields_count (encs ts)
  have hco := collapse_length (encs ts)
  have HW1 := hid_of hW1
  clear hW1 HK1
  go_enter Tryz.func46, Tryz.ntmps46
  go_upto_region 1 with fail
  rw [HW1.out]
  go_wp2_with fail
  go_at_call 23
  refine HW.out.mono ?_
  rintro e w2 ⟨v, rfl, hO, hb2⟩
  go_wp2_with fail
  go_at_call 64
  refine (join_calls _ v _ w2 hO (by omega) (by unfold collapse at hco; omega)).mono ?_
  rintro e w3 ⟨rfl, hb3⟩
  go_wp2
  go_ret2
  exact ⟨rfl, (HB1.out.trans (hb2.mono HB1.out.size)).trans (hb3.mono (by have := HB1.out.size; have := hb2.size; omega))⟩
def liveT : List UInt8 := [32, 97, 9, 98, 32, 32, 97, 32]
theorem live_cl : clB liveT = liveT := (pl_ascii liveT (by decide)).cl
theorem live_one : clB [45, 49] = [45, 49] := (pl_ascii [45, 49] (by decide)).cl
set_option maxRecDepth 100000 in
set_option maxHeartbeats 2000000 in
/-- **The document's examples.** -/
theorem lives_calls (w : World) (hT : Tb w) : Calls Tryz.prog 8 #[] w fun e W' => e = .returned (.bool true) ∧ Below w.heap.size w W' := by
  have HC := hid_of (tidy_at 1 46 rfl ⟨#[]⟩ none none 0 0 0 0 false liveT w hT (by decide) ⟨#[97, 32, 98, 32, 97]⟩ true (enters_of Tryz.func46 (by kernel_rfl) rfl) (fun W _ => by
    have h := tokens_calls (clR liveT) (clR_valid liveT) none none 0 0 0 0 false W (by show (clB liveT).length ≤ _; rw [live_cl]; decide)
    rw [show encs (clR liveT) = liveT from live_cl] at h
    rw [live_cl]
    exact h))
  have HN : Hid (∀ W, Below w.heap.size w W → Calls Tryz.prog 11 #[.string ⟨#[45, 49]⟩] W fun e W' => e = .returned (.tuple #[.int .i64 0, .bool false]) ∧ Below W.heap.size W W') := fun W hb => by
    have h := Number_calls [45, 49] W (hT.below hb) (by decide)
    rw [live_one] at h
    exact h
  clear hT
  go_enter Tryz.func8, Tryz.ntmps8
  go_wp2_with fail
  go_at_call 20
  refine HC.out.mono ?_
  rintro e w1 ⟨rfl, hb1⟩
  go_wp2_with fail
  go_at_call 11
  refine (HN.out _ hb1).mono ?_
  rintro e w2 ⟨rfl, hb2⟩
  go_wp2
  go_ret
  exact ⟨rfl, hb1.trans (hb2.mono hb1.size)⟩
end Go.Proofs.YtfbfigjjnpamiaaGreatDoor.V

/- What is proved here: the contracts of value.days, isDay, Date and of the document's digitsAt and Date: the day that a value says, if there is one. -/
namespace Go.Proofs.YtfbfigjjnpamiaaGreatDoor.V
open Go.RowKit Go.Shelf Go.Proofs.YtfbfigjjnpamiaaGreatDoor.N Go.Proofs.YtfbfigjjnpamiaaGreatDoor.U Go.Proofs.YtfbfigjjnpamiaaGreatDoor.L

def leapN (y : Nat) : Bool := (decide (y % 4 = 0) && decide (y % 100 ≠ 0)) || decide (y % 400 = 0)
def daysN (y m : Nat) : Nat := if m = 4 ∨ m = 6 ∨ m = 9 ∨ m = 11 then 30 else if m = 2 then (if leapN y then 29 else 28) else 31
def isDayN (y m d : Nat) : Bool := decide (1 ≤ y) && decide (1 ≤ m) && decide (m ≤ 12) && decide (1 ≤ d) && decide (d ≤ daysN y m)
theorem ret_i64 {a b : Int} (h : a = b) : Ending.returned (.int .i64 a) = .returned (.int .i64 b) := by rw [h]
set_option maxRecDepth 100000 in
set_option maxHeartbeats 2000000 in
theorem days_calls (y m : Nat) (w : World) : Calls Tryz.prog 43 #[.int .i64 y, .int .i64 m] w fun e w' => e = .returned (.int .i64 (daysN y m : Nat)) ∧ w' = w := by
  have t4 : (y : Int).tmod 4 = ((y % 4 : Nat) : Int) := rfl
  have t100 : (y : Int).tmod 100 = ((y % 100 : Nat) : Int) := rfl
  have t400 : (y : Int).tmod 400 = ((y % 400 : Nat) : Int) := rfl
  go_enter Tryz.func43, Tryz.ntmps43
  go_wp2
  all_goals go_ret
  all_goals refine ⟨ret_i64 ?_, rfl⟩
  all_goals unfold daysN leapN
  all_goals simp only [beq_iff_eq, beq_eq_false_iff_ne, ne_eq, Bool.or_eq_true, Bool.and_eq_true, decide_eq_true_eq] at *
  all_goals repeat' split
  all_goals omega
theorem results_four {fn : Func} {t u v x : Tmp} (h : fn.results = #[.tmp t, .tmp u, .tmp v, .tmp x]) (tmps : Array Value) (P : Program) (w : World) :
    (results fn tmps).run P w = .ok (.tuple #[tmps.getD t undef, tmps.getD u undef, tmps.getD v undef, tmps.getD x undef]) w := by
  simp [results, h]
set_option maxRecDepth 100000 in
set_option maxHeartbeats 2000000 in
theorem isDay_calls (y m d : Nat) (w : World) : Calls Tryz.prog 28 #[.int .i64 y, .int .i64 m, .int .i64 d] w fun e w' => e = .returned (.bool (isDayN y m d)) ∧ w' = w := by
  have HD := hid_of (days_calls y m w)
  go_enter Tryz.func28, Tryz.ntmps28
  go_wp2_with (go_at_call 43; refine HD.out.mono ?_; rintro e w' ⟨rfl, hw'⟩; obtain rfl : w = w' := hw'.symm)
  all_goals go_ret
  all_goals refine ⟨N.ret_bool ?_, rfl⟩
  all_goals unfold isDayN
  all_goals generalize daysN y m = D at *
  all_goals first | omega | (rw [Bool.eq_iff_iff]; simp; omega)
/-- The day that a plain text says. -/
def dateB (l : List UInt8) : Option (Nat × Nat × Nat) :=
  if l.length = 10 ∧ l.getD 4 0 = 45 ∧ l.getD 7 0 = 45 then
    match numB (l.take 4), numB ((l.take 7).drop 5), numB (l.drop 8) with
    | some y, some m, some d => if isDayN y m d then some (y, m, d) else none
    | _, _, _ => none
  else none
def dateV (o : Option (Nat × Nat × Nat)) : Value := .tuple #[.int .i64 ((o.getD (0, 0, 0)).1 : Nat), .int .i64 ((o.getD (0, 0, 0)).2.1 : Nat), .int .i64 ((o.getD (0, 0, 0)).2.2 : Nat), .bool o.isSome]
theorem eq_dash (c : UInt8) : ((c.toNat : Int) != 45) = (c != 45) := by
  have : ∀ n : Fin 256, (((UInt8.ofNat n.val).toNat : Int) != 45) = (UInt8.ofNat n.val != 45) := by decide +kernel
  have h := this ⟨c.toNat, c.toNat_lt⟩
  simpa using h
set_option maxRecDepth 100000 in
set_option maxHeartbeats 4000000 in
/-- **Date.** -/
theorem Date_calls (bs : List UInt8) (w : World) (hT : Tb w) (hl : bs.length ≤ 10000000000) :
    Calls Tryz.prog 14 #[.string ⟨bs.toArray⟩] w fun e W' => e = .returned (dateV (dateB (clB bs))) ∧ Below w.heap.size w W' := by
  have HC := hid_of (clean_calls bs w hT hl)
  have hcl := clB_len bs
  obtain ⟨l, hL⟩ : ∃ l, clB bs = l := ⟨_, rfl⟩
  rw [hL] at HC hcl ⊢
  have hsz := byteArr_size l
  obtain ⟨R, hR⟩ : ∃ R, dateV (dateB l) = R := ⟨_, rfl⟩
  rw [hR]
  clear hL hT
  by_cases h10 : l.length = 10
  case' neg =>
    have HR : Hid (R = dateV none) := by show _ = _; rw [← hR]; unfold dateB; rw [if_neg (by omega)]
    have e10 : ((l.length : Int) != 10) = true := by rw [bne_iff_ne]; omega
    clear hR
    go_enter Tryz.func14, Tryz.ntmps14
    go_wp2_with (go_at_call 24; refine HC.out.mono ?_; rintro e w1 ⟨rfl, hb1⟩)
    refine bodyPost_ret (results_four rfl _ _ _) rfl ?_
    exact ⟨by rw [HR.out]; rfl, hb1⟩
  have e10 : ((l.length : Int) != 10) = false := by rw [bne_eq_false_iff_eq]; omega
  obtain ⟨c4, h4⟩ : ∃ c, l.getD 4 0 = c := ⟨_, rfl⟩
  obtain ⟨c7, h7⟩ : ∃ c, l.getD 7 0 = c := ⟨_, rfl⟩
  have i4 := L.byte_at l 4 c4 (by omega) h4 4 rfl
  have i7 := L.byte_at l 7 c7 (by omega) h7 7 rfl
  have d4 := eq_dash c4
  have d7 := eq_dash c7
  by_cases hd : c4 = 45 ∧ c7 = 45
  case' neg =>
    have HR : Hid (R = dateV none) := by show _ = _; rw [← hR]; unfold dateB; rw [if_neg (by rw [h4, h7]; intro h; exact hd h.2)]
    have hd2 : (c4 != 45) = true ∨ (c4 != 45) = false ∧ (c7 != 45) = true := by
      by_cases h : c4 = 45
      · exact .inr ⟨by rw [h]; rfl, by rw [bne_iff_ne]; exact fun e => hd ⟨h, e⟩⟩
      · exact .inl (by rw [bne_iff_ne]; exact h)
    clear hR hd h4 h7
    rcases hd2 with x4 | ⟨x4, x7⟩
    case' inl => rw [x4] at d4; clear x4 d7
    case' inr => rw [x4] at d4; rw [x7] at d7; clear x4 x7
    all_goals go_enter Tryz.func14, Tryz.ntmps14
    all_goals go_wp2_with (go_at_call 24; refine HC.out.mono ?_; rintro e w1 ⟨rfl, hb1⟩)
    all_goals refine bodyPost_ret (results_four rfl _ _ _) rfl ?_
    all_goals exact ⟨by rw [HR.out]; rfl, hb1⟩
  obtain ⟨rfl, rfl⟩ := hd
  have y1 := slice_h l 4 (by omega) 4 rfl
  have y2 := slice_lh l 5 7 (by omega) (by omega) 5 7 rfl rfl
  have y3 := slice_l l 8 (by omega) 8 rfl
  have HR : Hid (R = dateV (match numB (l.take 4), numB ((l.take 7).drop 5), numB (l.drop 8) with
    | some y, some m, some d => if isDayN y m d then some (y, m, d) else none
    | _, _, _ => none)) := by show _ = _; rw [← hR]; unfold dateB; rw [if_pos ⟨h10, h4, h7⟩]
  have HN1 := hid_of (fun W => number_calls (l.take 4) W (by rw [List.length_take]; omega))
  have HN2 := hid_of (fun W => number_calls ((l.take 7).drop 5) W (by rw [List.length_drop, List.length_take]; omega))
  have HN3 := hid_of (fun W => number_calls (l.drop 8) W (by rw [List.length_drop]; omega))
  obtain ⟨l1, hl1⟩ : ∃ x, l.take 4 = x := ⟨_, rfl⟩
  obtain ⟨l2, hl2⟩ : ∃ x, (l.take 7).drop 5 = x := ⟨_, rfl⟩
  obtain ⟨l3, hl3⟩ : ∃ x, l.drop 8 = x := ⟨_, rfl⟩
  rw [hl1] at y1 HR HN1
  rw [hl2] at y2 HR HN2
  rw [hl3] at y3 HR HN3
  clear hl1 hl2 hl3 hR h4 h7
  go_enter Tryz.func14, Tryz.ntmps14
  go_wp2_with fail
  (go_at_call 24; refine HC.out.mono ?_; rintro e w1 ⟨rfl, hb1⟩)
  have HB1 := hid_of hb1
  clear hb1 HC
  go_wp2_with fail
  (go_at_call 26; refine (HN1.out _).mono ?_; rintro e w2 ⟨rfl, hb2⟩)
  have HB2 := hid_of (HB1.out.trans (hb2.mono HB1.out.size))
  clear hb2 HN1 HB1
  go_wp2_with fail
  (go_at_call 26; refine (HN2.out _).mono ?_; rintro e w3 ⟨rfl, hb3⟩)
  have HB3 := hid_of (HB2.out.trans (hb3.mono HB2.out.size))
  clear hb3 HN2 HB2
  go_wp2_with fail
  (go_at_call 26; refine (HN3.out _).mono ?_; rintro e w4 ⟨rfl, hb4⟩)
  have HB4 := hid_of (HB3.out.trans (hb4.mono HB3.out.size))
  clear hb4 HN3 HB3
  cases n1 : numB l1
  case' some y =>
    cases n2 : numB l2
    case' some m =>
      cases n3 : numB l3
      case' some d =>
        have HI := hid_of (isDay_calls y m d w4)
        have HR2 : Hid (R = dateV (if isDayN y m d then some (y, m, d) else none)) := by show _ = _; rw [HR.out, n1, n2, n3]
        clear HR
        rename Hid (R = _) => HR
        cases hi : isDayN y m d
        all_goals rw [hi] at HI HR
  all_goals try rw [n1] at HR
  all_goals try rw [n2] at HR
  all_goals try rw [n3] at HR
  all_goals go_wp2_with (go_at_call 28; refine HI.out.mono ?_; rintro e w' ⟨rfl, hw'⟩; obtain rfl : w4 = w' := hw'.symm)
  all_goals refine bodyPost_ret (results_four rfl _ _ _) rfl ?_
  all_goals exact ⟨by rw [HR.out]; rfl, HB4.out⟩
end Go.Proofs.YtfbfigjjnpamiaaGreatDoor.V
