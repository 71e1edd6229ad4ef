/- What is proved here: the statement RawFirst (in RCDATA and raw text the content has no fitting end tag, whatever piece of the text is taken; no more is held than an end tag has) holds where the two texts have no more than 2^20 bytes together with what else the row counts, with no other condition but what the card says of the listed tables. -/
import Derived.Test.YtmlklbbfmggbfaaDoorCards
import Derived.Test.YtmlklbbfmggbfaaDoorTie
import Derived.Test.YtmlklbbfmggbfaaDoorBun2
import Derived.Test.YtmlklbbfmggbfaaDoorBun10
import Derived.Test.YtmlklbbfmggbfaaDoorRSafeC
import Derived.Test.YtmlklbbfmggbfaaDoorRFirstM
import Derived.ProofKit
import Derived.OpenShut
namespace Go.Proofs.YtmlklbbfmggbfaaDoor.RFirstL
open Go.ChangeShapes Go.WideShapes Go.ChangeAt Go.RowKit U N R

set_option maxRecDepth 100000 in
set_option maxHeartbeats 2000000 in
/-- Of a name whose content is data. -/
theorem walk_data (w : World) (hT : Tb w) (hm : MaxOk w) (l bs : List UInt8) (k : Int) (hl : l.length ≤ 1048576) (hw : whZ l = 0) :
    Calls Tryd.prog 7 #[.string ⟨l.toArray⟩, .string ⟨bs.toArray⟩, .int .i64 k] w fun e w' => e = .returned (.bool true) ∧ Below w.heap.size w w' := by
  have HL := hid_of (awake_calls w hT hm)
  have HW := hid_of (whole_data l bs w hw (by omega) hm)
  clear hT hm hw
  go_enter Tryd.func7, Tryd.ntmps7
  go_wp2_with fail
  (go_at_call 13; refine HW.out.mono ?_; rintro e w2 ⟨rfl, h2⟩; obtain rfl : w = w2 := h2.symm)
  go_wp2_with fail
  (go_at_call 9; refine (num_calls 100 _ (by decide) (by decide)).mono ?_; rintro e w2 ⟨rfl, h2⟩; obtain rfl : w = w2 := h2.symm)
  go_wp2_with fail
  (go_at_call 10; refine HL.out.mono ?_; rintro e w9 ⟨rfl, hb9⟩)
  go_wp2_with fail
  go_ret
  exact ⟨rfl, hb9⟩
theorem wholeIs_le {nm : List Int} {p : Nat} {bs t : List UInt8} {n : Nat} {ok : Bool} (h : WholeIs nm p bs t n ok) : n ≤ bs.length ∧ (ok = false → n = bs.length) := by
  rcases h with ⟨w1, w2, _⟩ | ⟨w1, w2, _⟩
  · exact ⟨w2, fun e => by rw [w1] at e; cases e⟩
  · exact ⟨by omega, fun _ => w2⟩
set_option maxRecDepth 100000 in
set_option maxHeartbeats 2000000 in
/-- Of script and plaintext. -/
theorem walk_other (w : World) (hT : Tb w) (hm : MaxOk w) (l bs : List UInt8) (k : Int) (hb : bs.length ≤ 1048576) (hw : whZ l ≠ 0) (h2 : inZ 2 l = false) (h3 : inZ 3 l = false) :
    Calls Tryd.prog 7 #[.string ⟨l.toArray⟩, .string ⟨bs.toArray⟩, .int .i64 k] w fun e w' => e = .returned (.bool true) ∧ Below w.heap.size w w' := by
  have HL : Hid (∀ W, Below w.heap.size w W → Calls Tryd.prog 10 #[] W fun e w' => e = .returned (.bool true) ∧ Below W.heap.size W w') := fun W h => awake_calls W (tabs_below hT h) (max_below hm h)
  have hln := wh_len l hw
  have sl := arr_size l
  have sb := arr_size bs
  have HI : Hid (∀ z W, Below w.heap.size w W → Calls Tryd.prog 27 #[.string ⟨l.toArray⟩, .int .i64 z] W fun e w' => e = .returned (.bool (inZ z l)) ∧ w' = W) := fun z W h => in_calls ⟨l.toArray⟩ z W (by omega) (max_below hm h)
  have HW := hid_of (whole_calls l hw bs w (by omega) hT hm)
  clear hT hm hw
  go_enter Tryd.func7, Tryd.ntmps7
  go_wp2_with fail
  go_at_call 13
  refine HW.out.mono ?_
  rintro e w1 ⟨t, n, ok, rfl, hW, hb1⟩
  obtain ⟨n1, n2⟩ := wholeIs_le hW
  have HN2 := hid_of n2
  have g1 : decide ((n : Int) > (bs.length : Int)) = false := by simp; omega
  clear hW n2
  go_wp2_with fail
  (go_at_call 9; refine (num_calls 0 _ (by decide) (by decide)).mono ?_; rintro e w2 ⟨rfl, h2'⟩; obtain rfl : w1 = w2 := h2'.symm)
  cases ok with
  | true =>
    go_wp2_with fail
    (go_at_call 27; refine (HI.out _ _ hb1).mono ?_; rintro e w2 ⟨rfl, h2'⟩; obtain rfl : w1 = w2 := h2'.symm; rw [h2])
    go_wp2_with fail
    (go_at_call 27; refine (HI.out _ _ hb1).mono ?_; rintro e w2 ⟨rfl, h2'⟩; obtain rfl : w1 = w2 := h2'.symm; rw [h3])
    go_wp2_with fail
    (go_at_call 10; refine (HL.out _ hb1).mono ?_; rintro e w9 ⟨rfl, hb9⟩)
    go_wp2_with fail
    go_ret
    exact ⟨rfl, hb1.trans (hb9.mono hb1.size)⟩
  | false =>
    obtain rfl := HN2.out rfl
    go_wp2_with fail
    (go_at_call 27; refine (HI.out _ _ hb1).mono ?_; rintro e w2 ⟨rfl, h2'⟩; obtain rfl : w1 = w2 := h2'.symm; rw [h2])
    go_wp2_with fail
    (go_at_call 27; refine (HI.out _ _ hb1).mono ?_; rintro e w2 ⟨rfl, h2'⟩; obtain rfl : w1 = w2 := h2'.symm; rw [h3])
    go_wp2_with fail
    (go_at_call 10; refine (HL.out _ hb1).mono ?_; rintro e w9 ⟨rfl, hb9⟩)
    go_wp2_with fail
    go_ret
    exact ⟨rfl, hb1.trans (hb9.mono hb1.size)⟩
theorem content_len {nm : List Int} (hnm : NmOk nm) {p : Nat} (h1 : 1 ≤ p) (h3 : p ≤ 3) {bs t : List UInt8} {n : Nat} {ok : Bool} (hW : WholeIs nm p bs t n ok) (hb : bs.length ≤ 1048576) : t.length ≤ 4194304 := by
  have key : ∀ (C : List Int), C.length ≤ bs.length → (encs C).length ≤ 4194304 := fun C h => by have := encs_length C; omega
  have hr : (runesI bs).length ≤ bs.length := by rw [runesI_length]; exact pcs_length bs
  cases e : refR nm p (runesI bs) with
  | none => rw [(whole_none hnm h1 h3 hW e).2.2]; exact key _ hr
  | some k => rw [(whole_some hnm h1 h3 hW e).2.1]; exact key _ (by simp; omega)
/-- The place that is looked at, whatever number is given. -/
theorem rem_two (x : Int) (L : Nat) (hL : L ≤ 1048576) : ∃ j : Nat, j ≤ L ∧ (x.tmod ((L : Int) + 1) + (L : Int) + 1).tmod ((L : Int) + 1) = (j : Int) ∧ -(L : Int) ≤ x.tmod ((L : Int) + 1) ∧ x.tmod ((L : Int) + 1) ≤ (L : Int) := by
  have h1 : x.tmod ((L : Int) + 1) < (L : Int) + 1 := Int.tmod_lt_of_pos x (by omega)
  have h2 : -((L : Int) + 1) < x.tmod ((L : Int) + 1) := Int.lt_tmod_of_pos x (by omega)
  generalize x.tmod ((L : Int) + 1) = y at *
  have h3 : 0 ≤ (y + (L : Int) + 1).tmod ((L : Int) + 1) := Int.tmod_nonneg _ (by omega)
  have h4 : (y + (L : Int) + 1).tmod ((L : Int) + 1) < (L : Int) + 1 := Int.tmod_lt_of_pos _ (by omega)
  exact ⟨((y + (L : Int) + 1).tmod ((L : Int) + 1)).toNat, by omega, by omega, by omega, by omega⟩
set_option maxRecDepth 100000 in
set_option maxHeartbeats 4000000 in
/-- In RCDATA and raw text. -/
theorem walk_text (w : World) (hT : Tb w) (hm : MaxOk w) (l bs : List UInt8) (x : Int) (_hx : (Lit.int .i64 x).wf = true) (hb : bs.length ≤ 1048576) (hw : whZ l ≠ 0) (h23 : inZ 2 l = true ∨ inZ 3 l = true) :
    Calls Tryd.prog 7 #[.string ⟨l.toArray⟩, .string ⟨bs.toArray⟩, .int .i64 x] w fun e w' => e = .returned (.bool true) ∧ Below w.heap.size w w' := by
  have hp2 : p0 l = 2 := by
    unfold p0 whZ
    cases h2 : inZ 2 l with
    | true => rfl
    | false =>
      cases h3 : inZ 3 l with
      | true => rfl
      | false => rcases h23 with h | h <;> simp_all
  have HL : Hid (∀ W, Below w.heap.size w W → Calls Tryd.prog 10 #[] W fun e w' => e = .returned (.bool true) ∧ Below W.heap.size W w') := fun W h => awake_calls W (tabs_below hT h) (max_below hm h)
  have HM : Hid (∀ W, Below w.heap.size w W → MaxOk W) := fun W h => max_below hm h
  have HTB : Hid (∀ W, Below w.heap.size w W → Tb W) := fun W h => tabs_below hT h
  have hln := wh_len l hw
  have sl := arr_size l
  have sb := arr_size bs
  have HI : Hid (∀ z W, Below w.heap.size w W → Calls Tryd.prog 27 #[.string ⟨l.toArray⟩, .int .i64 z] W fun e w' => e = .returned (.bool (inZ z l)) ∧ w' = W) := fun z W h => in_calls ⟨l.toArray⟩ z W (by omega) (max_below hm h)
  have HW := hid_of (whole_calls l hw bs w (by omega) hT hm)
  have HNM := hid_of (wh_ok l hw)
  have HW0 := hid_of hw
  have H23 := hid_of h23
  have HP2 := hid_of hp2
  have hzl : (R.zs l).length = l.length := by simp
  obtain ⟨j, hj, hrem, hr1, hr2⟩ := rem_two x bs.length hb
  clear hT hm hw h23 hp2
  go_enter Tryd.func7, Tryd.ntmps7
  go_wp2_with fail
  go_at_call 13
  refine HW.out.mono ?_
  rintro e w1 ⟨t, n, ok, rfl, hW, hb1⟩
  obtain ⟨n1, n2⟩ := wholeIs_le hW
  have HN2 := hid_of n2
  have g1 : decide ((n : Int) > (bs.length : Int)) = false := by simp; omega
  obtain ⟨C, hC1, hC2, hC3, hC4⟩ := content_open HNM.out (p0_range l).1 (p0_range l).2 hW
  have HC := hid_of (show t = encs C ∧ C.map mendR = C ∧ ((s0 (p0 l)).run (R.zs l) C).p ≠ 6 ∧ runesI t = C from ⟨hC1, hC2, hC3, hC4⟩)
  have HWI := hid_of hW
  have htl : t.length ≤ 4194304 := content_len HNM.out (p0_range l).1 (p0_range l).2 hW hb
  clear hW n2 hC1 hC2 hC3 hC4
  go_wp2_with fail
  (go_at_call 9; refine (num_calls 0 _ (by decide) (by decide)).mono ?_; rintro e w2 ⟨rfl, h2'⟩; obtain rfl : w1 = w2 := h2'.symm)
  have g3 : (!ok && ((n : Int) != (bs.length : Int))) = false := by
    cases ok with
    | true => rfl
    | false => rw [HN2.out rfl]; simp
  have hcases : (ok = true ∧ True) ∨ (ok = false ∧ n = bs.length) := by
    cases ok with
    | true => exact .inl ⟨rfl, trivial⟩
    | false => exact .inr ⟨rfl, HN2.out rfl⟩
  have HWT := hid_of (fun W (h : Below w.heap.size w W) => whole_calls l HW0.out t W (by omega) (HTB.out _ h) (HM.out _ h))
  have HNEW := hid_of (fun W (h : Below w.heap.size w W) => new_calls l W HW0.out (HM.out _ h))
  have HWK := hid_of (fun W (h : Below w.heap.size w W) => whole_calls l HW0.out (bs.take j) W (by simp; omega) (HTB.out _ h) (HM.out _ h))
  have hsz := arr_size t
  obtain ⟨nm, hnm⟩ : ∃ nm, R.zs l = nm := ⟨_, rfl⟩
  have HNE : Hid (∀ W e W', NewEnd W l e W' → ∃ cap, e = .returned (.tuple #[.pointer (some ⟨W.heap.size + 1, 0, none⟩), .int .i64 0]) ∧ ScAt W' W.heap.size cap nm (s0 2) ∧ Below W.heap.size W W') := fun W e W' h => by rw [← hnm, ← HP2.out]; exact h
  rw [HP2.out, hnm] at HC HWI
  rw [hnm] at HNM hzl
  have HAG : Hid (∀ u m again, WholeIs (R.zs l) (p0 l) t u m again → again = false ∧ m = t.length ∧ u = t) := fun u m again h => by
    rw [hnm, HP2.out] at h
    exact content_again HNM.out (by omega) (by omega) HC.out.1 HC.out.2.2.2 HC.out.2.2.1 h
  have HSO : Hid (j < n → ok = true → ∀ t' n' ok', WholeIs (R.zs l) (p0 l) (bs.take j) t' n' ok' → ok' = false) := fun hjn hok t' n' ok' h => by
    rw [hnm, HP2.out] at h
    have h1 := HWI.out
    rw [hok] at h1
    exact no_sooner (by omega) (by omega) hjn h1 h
  clear hnm
  have hok : ∀ W, Below w.heap.size w W → True := fun _ _ => trivial
  clear hok
  have hwa : IntKind.i64.wrap ((bs.length : Int) + 1) = (bs.length : Int) + 1 := by rw [IntKind.wrap_i64]; omega
  have hwb : IntKind.i64.wrap (x.tmod ((bs.length : Int) + 1) + (bs.length : Int)) = x.tmod ((bs.length : Int) + 1) + (bs.length : Int) := by rw [IntKind.wrap_i64]; omega
  have hwc : IntKind.i64.wrap (x.tmod ((bs.length : Int) + 1) + (bs.length : Int) + 1) = x.tmod ((bs.length : Int) + 1) + (bs.length : Int) + 1 := by rw [IntKind.wrap_i64]; omega
  have hwl : IntKind.i64.wrap ((l.length : Int) + 2) = (l.length : Int) + 2 := by rw [IntKind.wrap_i64]; omega
  have hsl := slice_h bs j hj (j : Int) rfl
  have HOK := hid_of (s0_ok nm (p := 2) (by omega) (by omega))
  have HALL := hid_of (show (pcs t).all Pc.ok = true by rw [HC.out.1]; exact (runesI_encs C).2)
  have hCl : C.length ≤ 4194304 := by rw [← HC.out.2.2.2, runesI_length]; have := pcs_length t; omega
  rcases hcases with ⟨rfl, -⟩ | ⟨rfl, rfl⟩
  all_goals
    go_wp2_with fail
    (go_at_call 27; refine (HI.out _ _ hb1).mono ?_; rintro e w2 ⟨rfl, h2'⟩; obtain rfl : w1 = w2 := h2'.symm)
    cases h2 : inZ 2 l
    case' false =>
      have h3 : inZ 3 l = true := by
        rcases H23.out with h | h
        · rw [h2] at h; cases h
        · exact h
      go_wp2_with fail
      (go_at_call 27; refine (HI.out _ _ hb1).mono ?_; rintro e w2 ⟨rfl, h2''⟩; obtain rfl : w1 = w2 := h2''.symm; rw [h3])
    all_goals go_wp2_with fail
    all_goals
      go_at_call 13
      refine (HWT.out _ hb1).mono ?_
      rintro e w2 ⟨u, m, again, rfl, hW2, hb2'⟩
      obtain ⟨rfl, rfl, rfl⟩ := HAG.out _ _ _ hW2
      have hb2 := hb1.trans (hb2'.mono hb1.size)
      clear hW2 hb2'
      go_wp2_with fail
      (go_at_call 9; refine (num_calls 0 _ (by decide) (by decide)).mono ?_; rintro e w3 ⟨rfl, h2'⟩; obtain rfl : w2 = w3 := h2'.symm)
      go_wp2_with fail
      go_at_call 18
      refine (HNEW.out _ hb2).mono ?_
      intro e w3 hne
      obtain ⟨cap, rfl, hS3, hb3'⟩ := HNE.out _ _ _ hne
      have hb3 := hb2.trans (hb3'.mono hb2.size)
      have hs2 := hb2.size
      have hs3 := hS3.lt
      obtain ⟨g, hg⟩ : ∃ g, w2.heap.size = g := ⟨_, rfl⟩
      rw [hg] at hS3 hs2 hs3 ⊢
      have HS3 := hid_of hS3
      clear hne hb3' hS3 hg
      go_wp2_with fail
      (go_at_call 9; refine (num_calls 0 _ (by decide) (by decide)).mono ?_; rintro e w4 ⟨rfl, h2'⟩; obtain rfl : w3 = w4 := h2'.symm)
      go_wp2_with fail
      have HSi : Hid (ScAt (w3.iter ⟨u.toArray⟩ 0) g cap nm (s0 2)) := HS3.out.below ((Below.refl _ w3).alloc (Nat.le_refl _) _)
      go_loopw [] (fun wi => ∃ (q : Nat) (pre : List Int), q ≤ u.length ∧ pre.length ≤ q ∧ wi.heap[w3.heap.size]? = some (.stringIter ⟨u.toArray⟩ q) ∧ Hid (runesI u = pre ++ rI u q ∧ (pcsF u.length q (u.drop q)).all Pc.ok = true) ∧ Hid (ScAt wi g cap nm ((s0 2).run nm pre)) ∧ Below w.heap.size w wi ∧ w3.heap.size < wi.heap.size) (fun wi => u.length - wi.iterPos w3.heap.size)
      case atStart => exact ⟨0, [], by omega, by simp, World.iter_heap _ _ _, ⟨by rw [rI_drop, List.drop_zero]; rfl, HALL.out⟩, HSi.out, hb3.alloc hb3.size _, by simp [World.iter]⟩
      case round =>
        obtain ⟨q, pre, hq, hpq, hit, hH, hSc, hBi, hzi⟩ := hrel
        by_cases hql : q < u.length
        · have hd0 : 0 < (u.drop q).length := by simp; omega
          have hst := pcs_step u q hql
          have hal := hH.out.2
          rw [hst, List.all_cons, Bool.and_eq_true] at hal
          have hna : nextAll (u.drop q) = true := hal.1
          have hri : rI u q = (runeOf (u.drop q) : Int) :: rI u (q + nextN (u.drop q)) := by unfold rI; rw [hst]; simp [nextR, hna]
          have hdec : Utf8.decode ⟨u.toArray⟩ q = (runeOf (u.drop q), nextN (u.drop q)) := by rw [decode_drop]; exact decode_right _ hd0 hna
          have hnx : ∀ ty, (Instr.next (.pointer (some ⟨w3.heap.size, 0, none⟩)) true ty).run Tryd.prog wr = _ := fun ty => Lib.run_next_any_at wr w3.heap.size ⟨u.toArray⟩ q ty hit (by rw [hsz]; exact hql)
          rw [hdec] at hnx
          simp only at hnx
          have hp1 := nextN_pos (u.drop q)
          have hp2 := nextN_len (u.drop q) hd0
          simp only [List.length_drop] at hp2
          have hvd := rune_valid (u.drop q) hd0 hna
          have HH2 : Hid (runesI u = (pre ++ [(runeOf (u.drop q) : Int)]) ++ rI u (q + nextN (u.drop q)) ∧ (pcsF u.length (q + nextN (u.drop q)) (u.drop (q + nextN (u.drop q)))).all Pc.ok = true) := ⟨by rw [hH.out.1, hri]; simp, hal.2⟩
          have HIT : Hid (wr.heap[w3.heap.size]? = some (.stringIter ⟨u.toArray⟩ q)) := hit
          have hScX := ScAt.iter hit hSc.out (q + nextN (u.drop q))
          have hitX := Lib.iterAt_heap wr w3.heap.size ⟨u.toArray⟩ q (q + nextN (u.drop q)) hit
          have hgX := iterAt_grown wr w3.heap.size ⟨u.toArray⟩ (q + nextN (u.drop q))
          obtain ⟨X, hX⟩ : ∃ X, wr.iterAt w3.heap.size ⟨u.toArray⟩ (q + nextN (u.drop q)) = X := ⟨_, rfl⟩
          rw [hX] at hnx hScX hitX hgX
          have hBX : Below w.heap.size w X := hBi.grown hgX (by have := hBi.size; omega) (fun b hb => by cases hb; have := hb3.size; omega)
          have HITX : Hid (X.heap[w3.heap.size]? = some (.stringIter ⟨u.toArray⟩ (q + nextN (u.drop q)))) := hitX
          have hzX := hgX.size
          have HNP : Hid (((s0 2).run nm (pre ++ [(runeOf (u.drop q) : Int)])).p ≠ 6) := by
            have h6 := HC.out.2.2.1
            rw [← HC.out.2.2.2, HH2.out.1] at h6
            exact not_prefix h6
          clear hst hal hna hri hdec hX hit hH hSc hitX hgX
          generalize hz : (runeOf (u.drop q) : Int) = z at *
          generalize nextN (u.drop q) = n' at *
          obtain ⟨v0, v1, v2⟩ := (valid_iff z).1 hvd
          have hkk : Ok nm ((s0 2).run nm pre) ∧ Fits ((s0 2).run nm pre) := by
            rcases run_keeps nm pre (s0 2) HOK.out with h | ⟨h1, h2, _⟩
            · exact absurd h (not_prefix HNP.out)
            · refine ⟨h1, ?_⟩
              have := congrArg List.length h2
              simp only [List.length_append, s0, List.length_nil] at this
              unfold Fits
              simp only [s0]
              omega
          have HPUT : Hid (Calls Tryd.prog 20 #[.pointer (some ⟨g + 1, 0, none⟩), .int .i32 z] X fun e W' => e = .returned (.tuple #[.bool false, .int .i64 0]) ∧ ScAt W' g cap nm ((s0 2).run nm (pre ++ [z])) ∧ R.Leaves g X W') := by
            have h := put_calls g cap nm _ z X hScX hkk.2 ⟨by omega, by omega⟩ hkk.1 (by omega)
            have hn := HNP.out
            rw [run_snoc, next_ok hkk.1] at hn
            rw [decide_eq_false hn, ← next_ok hkk.1, ← run_snoc] at h
            exact h
          have hhl := held_le HNM.out _ HNP.out
          have HHL : Hid (((s0 2).run nm (pre ++ [z])).h.length ≤ nm.length + 2) := hhl
          clear hz hvd v2 hScX hkk hhl
          go_wp2_with fail
          go_at_call 20
          refine HPUT.out.mono ?_
          rintro e w4 ⟨rfl, hS4, hB4⟩
          have hz4 := hB4.1.size
          have hit4 := hB4.2 _ _ HITX.out (by omega) (fun c fz e => by cases e) (fun c fz e => by cases e)
          have HS4 := hid_of hS4
          have HHC := hid_of (held_calls g cap nm _ w4 hS4)
          have hgt : decide ((((s0 2).run nm (pre ++ [z])).h.length : Int) > (l.length : Int) + 2) = false := by have := HHL.out; simp; omega
          generalize ((s0 2).run nm (pre ++ [z])).h.length = hl9 at *
          clear hS4
          go_wp2_with fail
          (go_at_call 9; refine (num_calls 0 _ (by decide) (by decide)).mono ?_; rintro e w5 ⟨rfl, h2'⟩; obtain rfl : w4 = w5 := h2'.symm)
          go_wp2_with fail
          (go_at_call 22; refine HHC.out.mono ?_; rintro e w5 ⟨rfl, h2'⟩; obtain rfl : w4 = w5 := h2'.symm)
          go_wp2_with fail
          go_roundw
          case rel => exact ⟨q + n', pre ++ [z], by omega, by simp; omega, hit4, HH2.out, HS4.out, hBX.trans (hB4.1.mono (by omega)), by omega⟩
          case measure => rw [iterPos_of hit4, iterPos_of HIT.out]; omega
        · obtain rfl : q = u.length := by omega
          have hnx : ∀ ty, (Instr.next (.pointer (some ⟨w3.heap.size, 0, none⟩)) true ty).run Tryd.prog wr = _ := fun ty => Lib.run_next_end_at wr w3.heap.size ⟨u.toArray⟩ u.length ty hit (by rw [hsz]; exact hql)
          clear hH hSc HSi hit
          first
            | (by_cases hjn : j < n
               · have hd : decide ((j : Int) < (n : Int)) = true := by simp; omega
                 go_wp2_with fail
                 go_at_call 13
                 refine (HWK.out _ hBi).mono ?_
                 rintro e w5 ⟨u5, m5, ok5, rfl, hW5, hb5'⟩
                 obtain rfl := HSO.out hjn (by first | rfl | trivial) _ _ _ hW5
                 have hb5 := hBi.trans (hb5'.mono hBi.size)
                 go_wp2_with fail
                 (go_at_call 10; refine (HL.out _ hb5).mono ?_; rintro e w9 ⟨rfl, hb9⟩)
                 go_wp2_with fail
                 go_ret
                 exact ⟨rfl, hb5.trans (hb9.mono hb5.size)⟩
               · have hd : decide ((j : Int) < (n : Int)) = false := by simp; omega
                 go_wp2_with fail
                 (go_at_call 10; refine (HL.out _ hBi).mono ?_; rintro e w9 ⟨rfl, hb9⟩)
                 go_wp2_with fail
                 go_ret
                 exact ⟨rfl, hBi.trans (hb9.mono hBi.size)⟩)
            | (by_cases hjn : j < bs.length
               · have hd : decide ((j : Int) < (bs.length : Int)) = true := by simp; omega
                 go_wp2_with fail
                 (go_at_call 10; refine (HL.out _ hBi).mono ?_; rintro e w9 ⟨rfl, hb9⟩)
                 go_wp2_with fail
                 go_ret
                 exact ⟨rfl, hBi.trans (hb9.mono hBi.size)⟩
               · have hd : decide ((j : Int) < (bs.length : Int)) = false := by simp; omega
                 go_wp2_with fail
                 (go_at_call 10; refine (HL.out _ hBi).mono ?_; rintro e w9 ⟨rfl, hb9⟩)
                 go_wp2_with fail
                 go_ret
                 exact ⟨rfl, hBi.trans (hb9.mono hBi.size)⟩)
theorem walk (w : World) (hT : Tb w) (hm : MaxOk w) (s : ByteArray) (_hs0 : s.size ≤ 9223372036854775807) (hs : s.size ≤ 1048576) (t : ByteArray) (_ht0 : t.size ≤ 9223372036854775807) (ht : t.size ≤ 1048576) (k : Int) (hk : (Lit.int .i64 k).wf = true) :
    Calls Tryd.prog 7 #[.string s, .string t, .int .i64 k] w fun e w' => e = .returned (.bool true) ∧ Below w.heap.size w w' := by
  have hl : s.data.toList.length ≤ 1048576 := by rw [size_data]; exact hs
  have hb : t.data.toList.length ≤ 1048576 := by rw [size_data]; exact ht
  rw [← arr_eta s, ← arr_eta t]
  by_cases h : whZ s.data.toList = 0
  · exact walk_data w hT hm _ _ k (by omega) h
  · cases h2 : inZ 2 s.data.toList with
    | true => exact walk_text w hT hm _ _ k hk hb h (.inl h2)
    | false =>
      cases h3 : inZ 3 s.data.toList with
      | true => exact walk_text w hT hm _ _ k hk hb h (.inr h3)
      | false => exact walk_other w hT hm _ _ k hb h h2 h3

set_option maxRecDepth 100000 in
theorem contract (H : Type) (enc : TypeId × Value → H) (W : World) (base : Nat) (args : Array Value) (ds gs : List (DataW H)) (before : List MemPlace)
    (hval : ∀ (j : Nat) t v, Tryd.f7.params[j]? = some t → args[j]? = some v → Value.okWide Tryd.prog W .any base t v)
    (hW : DataW.Whole enc Tryd.prog Tryd.f7.params.toList Rows.rawFirstSpec.vars false W args.toList ds gs before) (hL : laidMetH Tryd.prog Rows.rawFirstUptoRow.laid W)(hsh : W.ShapedOpen Tryd.prog) (hk : Rows.uptoSmall H (ds ++ gs) = true) :
    Calls Tryd.prog 7 args W fun e W' => ∃ v, e = .returned v ∧ Rows.rawFirstSpec.post enc Tryd.prog Tryd.f7 false true false false W args v W' := by
  have hW' := hW
  have hlt := hW.lt
  obtain ⟨p, q, hA0, hV, rfl, hfz, hnd⟩ := hW
  have hA : DataW.TrodAll enc Tryd.prog W 0 (fun _ => true) true Tryd.f7.params.toList args.toList ds p := hA0
  rw [Tryd.params7] at hA hval
  obtain ⟨v0, vs0, d0, ds0, p0, q0, hargs, rfl, rfl, h0, r0⟩ := trodAll_cons hA
  obtain ⟨v1, vs1, d1, ds1, p1, q1, rfl, rfl, rfl, h1, r1⟩ := trodAll_cons r0
  obtain ⟨v2, vs2, d2, ds2, p2, q2, rfl, rfl, rfl, h2, r2⟩ := trodAll_cons r1
  obtain ⟨rfl, rfl, rfl⟩ := trodAll_nil r2
  obtain rfl : args = #[v0, v1, v2] := by cases args; simp_all
  obtain ⟨rfl, rfl⟩ := trodVars_none hV
  clear hA0
  simp only [List.append_nil] at hW' hlt hk
  have hbulk := of_decide_eq_true hk
  simp only [Rows.uptoBulkAll] at hbulk
  have h0' := h0
  obtain ⟨s0, rfl, rfl, e0, ws0⟩ := Go.ChangeMaps.open_string Tryd.underlying9 (hval 0 9 v0 rfl rfl) h0
  have h1' := h1
  obtain ⟨s1, rfl, rfl, e1, ws1⟩ := Go.ChangeMaps.open_string Tryd.underlying9 (hval 1 9 v1 rfl rfl) h1
  have h2' := h2
  obtain ⟨x2, rfl, e2, -, w2⟩ := open_int Tryd.underlying3 (hval 2 3 v2 rfl rfl) h2
  refine (walk W (tabs_of_laid hL) (Tryd.laysM144.s1_3 W hsh) s0 ws0 (by simp only [R.bulk_str, N.size_data] at hbulk; omega) s1 ws1 (by simp only [R.bulk_str, N.size_data] at hbulk; omega) x2 w2).mono fun e W' ⟨he, hb⟩ => ?_
  subst he
  exact ⟨_, rfl, post_below hW' (fun _ _ _ => trodAll_cons_mk (shut_bool Tryd.underlying4 _) trodAll_mk0) (trodAll_cons_mk (stays (by kernel_rfl) (of_decide_eq_true (by kernel_rfl)) h0' hb (fun x hx => hlt x (by simp [hx]))) (trodAll_cons_mk (stays (by kernel_rfl) (of_decide_eq_true (by kernel_rfl)) h1' hb (fun x hx => hlt x (by simp [hx]))) (trodAll_cons_mk (stays (by kernel_rfl) (of_decide_eq_true (by kernel_rfl)) h2' hb (fun x hx => hlt x (by simp [hx]))) trodAll_mk0))) rfl hb⟩

set_option maxRecDepth 100000 in
theorem laid_met (os : Os) : laidMet Tryd.prog Rows.rawFirstUptoRow.laid ((withTabs (World.holding Tryd.prog os ⟨#[], #[], []⟩)).forCall (fun _ _ => 0) ⟨#[], #[Value.string ⟨#[]⟩, Value.string ⟨#[]⟩, Value.int .i64 0], []⟩).memory :=
  laidMet_of_run' 8 (by kernel_rfl) (by kernel_rfl)
set_option maxRecDepth 100000 in
theorem reads (os : Os) {H : Type} (enc : TypeId × Value → H) : ∃ places, DataW.whole enc Tryd.prog ((withTabs (World.holding Tryd.prog os ⟨#[], #[], []⟩)).forCall (fun _ _ => 0) ⟨#[], #[Value.string ⟨#[]⟩, Value.string ⟨#[]⟩, Value.int .i64 0], []⟩).memory Tryd.f7.params.toList Rows.rawFirstSpec.vars false #[Value.string ⟨#[]⟩, Value.string ⟨#[]⟩, Value.int .i64 0].toList 8 = some ([.lit (.string []), .lit (.string []), .lit (.int .i64 0)], [], places) :=
  ⟨[], by kernel_rfl⟩

set_option maxRecDepth 100000 in
theorem lifted (os : Os) (started : os.Started) (H : Type) (enc : TypeId × Value → H) (F : Stop.Interp) :
    ReturnsInHanded {} Tryd.checked os 7 .any ((Rows.OpenSpec.upto Rows.rawFirstSpec).preRow enc Tryd.prog Tryd.f7 Rows.rawFirstUptoRow.domain false Rows.rawFirstUptoRow.laid) (((Rows.OpenSpec.upto Rows.rawFirstSpec).at F).post enc Tryd.prog Tryd.f7 false true false false) := by
  obtain ⟨places, hx⟩ := reads os enc
  refine returnsInHanded_of_row (C := Tryd.checked) (s := Rows.OpenSpec.upto Rows.rawFirstSpec) own started (by kernel_rfl) Tryd.func7
    (witness_row_at (enc := enc) (C := Tryd.checked) false (withTabs (World.holding Tryd.prog os ⟨#[], #[], []⟩)) #[Value.string ⟨#[]⟩, Value.string ⟨#[]⟩, Value.int .i64 0] rfl (by kernel_rfl) (by kernel_rfl) (by kernel_rfl)
      (OpenSpec.preRow_of_cond 8 hx (by kernel_rfl) (fun k hk => by cases hk; kernel_rfl) (by kernel_rfl) (laid_met os))) ?_
  intro W base args ds gs before hval hW _ hcond _ hL hsh _
  exact contract H enc W base args ds gs before hval hW hL hsh (hcond _ rfl)

set_option maxRecDepth 100000 in
theorem said : Rows.RawFirstUptoSaid :=
  OpenClaim.holds_of_cond 7 Tryd.f7 rfl rfl rfl rfl rfl rfl rfl ⟨rfl, rfl, rfl, rfl, rfl⟩ rfl rfl rfl rfl rfl (by kernel_rfl) Tryd.func7 (by kernel_rfl)
    (of_decide_eq_true (by kernel_rfl)) (by unfold Func.isWrapper; first | (rw [if_pos (by decide +kernel)]; kernel_rfl) | (rw [if_neg (by decide +kernel)]; exact ⟨rfl, rfl⟩))
    (fun os started H enc _ F => by rw [OpenClaim.pre_eq_preRow]; exact lifted os started H enc F)

theorem plain (f : FuncId) (fn : Func) (hf : Tryd.pinned.checked.prog.funcNamed "sieve/sievelaw10.RawFirst" = some f) (hfn : Tryd.pinned.checked.prog.funcs[f]? = some fn) :
    false = Tryd.pinned.checked.prog.looks [] ∧ ∀ (j : Nat) t, fn.params[j]? = some t → Tryd.pinned.checked.prog.wantsStandIn t = false := by
  obtain rfl : f = 7 := Option.some.inj ((show Tryd.prog.funcNamed "sieve/sievelaw10.RawFirst" = some 7 by kernel_rfl).symm.trans hf) |>.symm
  obtain rfl : fn = Tryd.f7 := (Option.some.inj (Tryd.func7.symm.trans hfn)).symm
  refine ⟨by kernel_rfl, fun j t ht => ?_⟩
  rw [Tryd.params7] at ht
  have hm := Array.mem_of_getElem? ht
  simp only [List.mem_toArray, List.mem_cons, List.not_mem_nil, or_false] at hm
  rcases hm with rfl | rfl | rfl
  · exact (show Tryd.prog.wantsStandIn 9 = false by kernel_rfl)
  · exact (show Tryd.prog.wantsStandIn 9 = false by kernel_rfl)
  · exact (show Tryd.prog.wantsStandIn 3 = false by kernel_rfl)

theorem card : Rows.RawFirstUptoCardSaid :=
  Claim7.holds_tied_plain_at .later [] _ _ _ _ said (fun _ h => by cases h) (by kernel_rfl) (fun _ h => by cases h) rawFirstUpto_row_tie rfl ⟨rfl, rfl⟩ (by kernel_rfl) rfl plain (by kernel_rfl)

end Go.Proofs.YtmlklbbfmggbfaaDoor.RFirstL
