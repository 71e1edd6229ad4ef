/- What is proved here: the statement TokenParses (any text as lines of tokens: Parse's answer is the document's, and what it gives is its caller's own) holds for any text, where the arguments hold at most 1048576 values together, with no other condition but what the card says of the table of words. -/
import Derived.Test.YtelfejbhlolppaaDoorCards
import Derived.Test.YtelfejbhlolppaaDoorTie
import Derived.Test.YtelfejbhlolppaaDoorBun11
import Derived.Test.YtelfejbhlolppaaDoorTSameL
import Derived.Test.YtelfejbhlolppaaDoorTSpoil
import Derived.Test.YtelfejbhlolppaaDoorTShelfM
import Derived.Test.YtelfejbhlolppaaDoorTRParse
namespace Go.Proofs.YtelfejbhlolppaaDoor.TParses
open Go.ChangeShapes Go.WideShapes Go.ChangeAt Go.RowKit T N

/-- A token is no more than its line. -/
theorem bulk_read (x : List UInt8) (t : T.Tok) (l : AL) (h : readP x = some (t, l)) : bulkT (t, l) ≤ x.length := by
  unfold readP at h
  cases hk : kindP (firstW x) with
  | none => rw [hk] at h; cases h
  | some k =>
    rw [hk] at h
    simp only at h
    have hw : (wordS k).data.toList = firstW x := by
      unfold kindP at hk
      have := List.find?_some hk
      simpa using this
    have hk5 : k < 5 := by
      unfold kindP at hk
      have := List.mem_of_find?_eq_some hk
      simpa using this
    have h3 : 3 ≤ (firstW x).length := by
      rw [← hw]
      obtain rfl | rfl | rfl | rfl | rfl : k = 0 ∨ k = 1 ∨ k = 2 ∨ k = 3 ∨ k = 4 := by omega
      all_goals decide
    have hl : (x.drop (firstW x).length).length + (firstW x).length = x.length := by
      have h1 : (firstW x).length ≤ x.length := by unfold firstW; exact (List.takeWhile_sublist _).length_le
      rw [List.length_drop]; omega
    generalize x.drop (firstW x).length = d at h hl
    have hq : ∀ a r, qd d = some (a, r) → a.length + r.length + 1 ≤ d.length := fun a r e => by
      unfold qd at e
      split at e
      · have := unqd_len e
        cases d with
        | nil => rename_i h32; simp at h32
        | cons c y => simp only [List.tail_cons, List.length_cons] at this ⊢; omega
      · cases e
    have zs : ∀ a : List UInt8, (⟨a.toArray⟩ : ByteArray).size = a.length := fun a => by simp [ByteArray.size]
    have sn : sumA [] = 0 := rfl
    obtain rfl | rfl | rfl | rfl | rfl : k = 0 ∨ k = 1 ∨ k = 2 ∨ k = 3 ∨ k = 4 := by omega
    · cases hd : qd d with
      | none => simp [bodyP, hd] at h
      | some ar =>
        obtain ⟨a, r⟩ := ar
        have := hq a r hd
        simp [bodyP, hd] at h
        obtain ⟨_, rfl, rfl⟩ := h
        show 0 + (⟨a.toArray⟩ : ByteArray).size + (0 + 0) + 1 ≤ _
        rw [zs]; omega
    · cases hd : qd d with
      | none => simp [bodyP, hd] at h
      | some ar =>
        obtain ⟨a, r⟩ := ar
        have h1 := hq a r hd
        cases ha : attrsP (r.length + 1) [] r with
        | none => simp [bodyP, hd, ha] at h
        | some lbr =>
          obtain ⟨l', b, rr⟩ := lbr
          have h2 := attrsP_len _ _ _ _ _ _ ha
          rw [sn, List.length_nil] at h2
          simp [bodyP, hd, ha] at h
          obtain ⟨_, rfl, rfl⟩ := h
          show (⟨a.toArray⟩ : ByteArray).size + 0 + (l'.length + sumA l') + 1 ≤ _
          rw [zs]; omega
    · cases hd : qd d with
      | none => simp [bodyP, hd] at h
      | some ar =>
        obtain ⟨a, r⟩ := ar
        have := hq a r hd
        simp [bodyP, hd] at h
        obtain ⟨_, rfl, rfl⟩ := h
        show (⟨a.toArray⟩ : ByteArray).size + 0 + (0 + 0) + 1 ≤ _
        rw [zs]; omega
    · cases hd : qd d with
      | none => simp [bodyP, hd] at h
      | some ar =>
        obtain ⟨a, r⟩ := ar
        have := hq a r hd
        simp [bodyP, hd] at h
        obtain ⟨_, rfl, rfl⟩ := h
        show 0 + (⟨a.toArray⟩ : ByteArray).size + (0 + 0) + 1 ≤ _
        rw [zs]; omega
    · simp [bodyP] at h
      obtain ⟨_, rfl, rfl⟩ := h
      show 0 + 0 + (0 + 0) + 1 ≤ _
      omega
theorem bulk_lines : ∀ (M : List (List UInt8)) (n : Nat) (L L' : TL) (z : Nat), parseL n L M = (some L', z) → bulkL L' ≤ bulkL L + (M.map List.length).sum := by
  intro M
  induction M with
  | nil => intro n L L' z h; simp [parseL] at h; rw [h.1]; simp
  | cons x r ih =>
    intro n L L' z h
    rw [parseL] at h
    cases hq : readP x with
    | none => rw [hq] at h; simp at h
    | some t =>
      rw [hq] at h
      have h1 := ih _ _ _ _ h
      have h2 : bulkL (L ++ [t]) = bulkL L + bulkT t := by unfold bulkL; simp
      have h3 : bulkT t ≤ x.length := bulk_read x t.1 t.2 hq
      simp only [List.map_cons, List.sum_cons]
      omega
theorem bulk_parse (s : List UInt8) (L : TL) (z : Nat) (h : parseL 1 [] (linesOf s) = (some L, z)) : bulkL L ≤ s.length := by
  have h1 := bulk_lines _ _ _ _ _ h
  have h2 : ((linesOf s).map List.length).sum ≤ s.length := (linesF_sum _ _).1
  have h3 : bulkL [] = 0 := rfl
  omega

set_option maxRecDepth 100000 in
set_option maxHeartbeats 4000000 in
theorem walk (w : World) (hW : Words w) (hm : MaxOk w) (s : ByteArray) (_ws : s.size ≤ maxLen) (hs : s.size ≤ 1048576) :
    Calls Tryd.prog 7 #[.string s] w fun e w' => e = .returned (.bool true) ∧ Below w.heap.size w w' := by
  have HW : Hid (Words w) := hW
  have HM : Hid (MaxOk w) := hm
  have PE : parseP (s.size + 1) 1 [] s.data.toList = parseL 1 [] (linesOf s.data.toList) := by rw [← size_data, parseP_of]
  cases hR : parseL 1 [] (linesOf s.data.toList) with
  | mk o n =>
    cases o with
    | none =>
      have HP : Hid (∀ W, Below w.heap.size w W → Calls Tryd.prog 23 #[.string s] W fun e w' => e = .returned (.tuple #[.slice none 0 0, .int .i64 n, .int .i64 70]) ∧ Below W.heap.size W w') := fun W hb => (parse_calls s W (HW.out.below hb) (HM.out.below hb) hs).mono fun e w' h => by
        rw [PE, hR] at h
        rcases h with ⟨L, v, h1, _⟩ | ⟨n', h1, h2, h3⟩
        · cases h1
        · cases h1; exact ⟨h2, h3⟩
      have HQ : Hid (∀ W, Calls Tryd.prog 24 #[.string s] W fun e w' => e = .returned (.tuple #[.slice none 0 0, .int .i64 n]) ∧ Below W.heap.size W w' ∧ 1 ≤ n ∧ n ≤ s.size + 1) := fun W => (rparse_calls s W hs).mono fun e w' h => by
        unfold RParse at h
        rw [hR] at h
        rcases h with ⟨L, v, h1, _⟩ | ⟨n', h0, h00, h1, h2, h3⟩
        · cases h1
        · cases h1; exact ⟨h2, h3, h0, h00⟩
      clear PE hR hW hm
      go_enter Tryd.func7, Tryd.ntmps7
      go_wp2_with fail
      refine (HP.out w (Below.refl _ _)).mono ?_
      rintro e w1 ⟨rfl, hb1⟩
      have HB1 : Hid (Below w.heap.size w w1) := hb1
      clear hb1
      go_wp2_with fail
      refine (HP.out w1 HB1.out).mono ?_
      rintro e w2 ⟨rfl, hb2⟩
      have HB2 : Hid (Below w.heap.size w w2) := HB1.out.trans (hb2.mono HB1.out.size)
      clear hb2
      go_wp2_with fail
      refine (HQ.out w2).mono ?_
      rintro e w3 ⟨rfl, hb3, hn1, hn2⟩
      have HB3 : Hid (Below w.heap.size w w3) := HB2.out.trans (hb3.mono HB2.out.size)
      clear hb3
      have q1 : decide ((0 : Int) < (n : Int)) = true := by rw [decide_eq_true_eq]; omega
      go_wp2_with fail
      refine (lives_calls w3 (HW.out.below HB3.out)).mono ?_
      rintro e w4 ⟨rfl, hb4⟩
      have HB4 : Hid (Below w.heap.size w w4) := HB3.out.trans (hb4.mono HB3.out.size)
      clear hb4
      go_wp2
      all_goals go_ret
      all_goals exact ⟨rfl, HB4.out⟩
    | some L =>
      have hbk : bulkL L ≤ 1048576 := Nat.le_trans (bulk_parse _ _ _ hR) (by rw [size_data]; exact hs)
      have HP : Hid (∀ W, Below w.heap.size w W → Calls Tryd.prog 23 #[.string s] W fun e w' => ∃ v, e = .returned (.tuple #[v, .int .i64 0, .int .i64 0]) ∧ OwnT W.heap.size w' v L ∧ Below W.heap.size W w') := fun W hb => (parse_calls s W (HW.out.below hb) (HM.out.below hb) hs).mono fun e w' h => by
        rw [PE, hR] at h
        rcases h with ⟨L', v, h1, h2⟩ | ⟨n', h1, _⟩
        · cases h1; exact ⟨v, h2⟩
        · cases h1
      have HQ : Hid (∀ W, Calls Tryd.prog 24 #[.string s] W fun e w' => ∃ v, e = .returned (.tuple #[v, .int .i64 0]) ∧ OwnT W.heap.size w' v L ∧ Below W.heap.size W w') := fun W => (rparse_calls s W hs).mono fun e w' h => by
        unfold RParse at h
        rw [hR] at h
        rcases h with ⟨L', v, h1, h2⟩ | ⟨n', _, _, h1, _⟩
        · cases h1; exact ⟨v, h2⟩
        · cases h1
      clear PE hR hW hm
      go_enter Tryd.func7, Tryd.ntmps7
      go_wp2_with fail
      refine (HP.out w (Below.refl _ _)).mono ?_
      rintro e w1 ⟨v1, rfl, ho1, hb1⟩
      have HO1 : Hid (OwnT w.heap.size w1 v1 L) := ho1
      have HB1 : Hid (Below w.heap.size w w1) := hb1
      obtain ⟨a1, c1, rfl⟩ := ho1.slice
      clear ho1 hb1
      go_wp2_with fail
      refine (HP.out w1 HB1.out).mono ?_
      rintro e w2 ⟨v2, rfl, ho2, hb2⟩
      have HO2 : Hid (OwnT w1.heap.size w2 v2 L) := ho2
      have HB2 : Hid (Below w1.heap.size w1 w2) := hb2
      obtain ⟨a2, c2, rfl⟩ := ho2.slice
      clear ho2 hb2
      go_wp2_with fail
      refine (HQ.out w2).mono ?_
      rintro e w3 ⟨v3, rfl, ho3, hb3⟩
      have HO3 : Hid (OwnT w2.heap.size w3 v3 L) := ho3
      have HB3 : Hid (Below w2.heap.size w2 w3) := hb3
      obtain ⟨a3, c3, rfl⟩ := ho3.slice
      clear ho3 hb3
      have HB13 : Hid (Below w1.heap.size w1 w3) := HB2.out.trans (HB3.out.mono HB2.out.size)
      have HB03 : Hid (Below w.heap.size w w3) := HB1.out.trans (HB13.out.mono HB1.out.size)
      go_wp2_with fail
      refine (samel_calls L _ _ w3 _ (HO1.out.has.below HB13.out) HO3.out.has hbk).mono ?_
      rintro e w4 ⟨rfl, hb4⟩
      have HB4 : Hid (Below w3.heap.size w3 w4) := hb4
      clear hb4
      go_wp2_with fail
      refine (spoil_calls w.heap.size _ L w1 w4 HO1.out (HB13.out.trans (HB4.out.mono HB13.out.size)) hbk).mono ?_
      rintro e w5 ⟨⟨_, rfl⟩, hk5⟩
      have HU5 : Hid (OwnT w1.heap.size w5 (.slice a2 L.length c2) L) := hk5.ownT ((HO2.out.below HB3.out).below HB4.out) (fun k hk h => by omega)
      have HN5 : Hid (OwnT w2.heap.size w5 (.slice a3 L.length c3) L) := hk5.ownT (HO3.out.below HB4.out) (fun k hk h => by have := HB2.out.size; omega)
      have HB5 : Hid (Below w.heap.size w w5) := (HB03.out.trans (HB4.out.mono HB03.out.size)).trans (hk5.below (by have := HB03.out.size; have := HB4.out.size; omega) (fun k hk h => by omega))
      clear hk5
      go_wp2_with fail
      refine (samel_calls L _ _ w5 _ HU5.out.has HN5.out.has hbk).mono ?_
      rintro e w6 ⟨rfl, hb6⟩
      have HB6 : Hid (Below w.heap.size w w6) := HB5.out.trans (hb6.mono HB5.out.size)
      clear hb6
      go_wp2_with fail
      refine (lives_calls w6 (HW.out.below HB6.out)).mono ?_
      rintro e w7 ⟨rfl, hb7⟩
      have HB7 : Hid (Below w.heap.size w w7) := HB6.out.trans (hb7.mono HB6.out.size)
      clear hb7
      go_wp2
      all_goals go_ret
      all_goals exact ⟨rfl, HB7.out⟩

set_option maxRecDepth 100000 in
theorem contract (H : Type) (enc : TypeId × Value → H) (W : World) (base : Nat) (args : Array Value) (ds gs : List (DataW H)) (before : List MemPlace)
    (hval : ∀ (j : Nat) t v, Tryd.f7.params[j]? = some t → args[j]? = some v → Value.okWide Tryd.prog W .any base t v)
    (hW : DataW.Whole enc Tryd.prog Tryd.f7.params.toList Rows.tokenParsesSpec.vars false W args.toList ds gs before) (hL : laidMetH Tryd.prog Rows.tokenParsesUptoRow.laid W)(hsh : W.ShapedOpen Tryd.prog) (hk : Rows.uptoSmall H (ds ++ gs) = true) :
    Calls Tryd.prog 7 args W fun e W' => ∃ v, e = .returned v ∧ Rows.tokenParsesSpec.post enc Tryd.prog Tryd.f7 false true false false W args v W' := by
  have hW' := hW
  have hlt := hW.lt
  obtain ⟨p, q, hA0, hV, rfl, hfz, hnd⟩ := hW
  have hA : DataW.TrodAll enc Tryd.prog W 0 (fun _ => true) true Tryd.f7.params.toList args.toList ds p := hA0
  rw [Tryd.params7] at hA hval
  obtain ⟨v0, vs0, d0, ds0, p0, q0, hargs, rfl, rfl, h0, r0⟩ := trodAll_cons hA
  obtain ⟨rfl, rfl, rfl⟩ := trodAll_nil r0
  obtain rfl : args = #[v0] := by cases args; simp_all
  obtain ⟨rfl, rfl⟩ := trodVars_none hV
  clear hA0
  simp only [List.append_nil] at hW' hlt hk
  have hbulk := of_decide_eq_true hk
  simp only [Rows.uptoBulkAll] at hbulk
  have h0' := h0
  obtain ⟨s0, rfl, rfl, e0, ws0⟩ := Go.ChangeMaps.open_string Tryd.underlying9 (hval 0 9 v0 rfl rfl) h0
  refine (walk W (tabs_of_laid hL) (Tryd.laysM145.s1_3 W hsh) s0 ws0 (by simp only [T.bulk_str, N.size_data] at hbulk; omega)).mono fun e W' ⟨he, hb⟩ => ?_
  subst he
  exact ⟨_, rfl, post_below hW' (fun _ _ _ => trodAll_cons_mk (shut_bool Tryd.underlying4 _) trodAll_mk0) (trodAll_cons_mk (stays (by kernel_rfl) (of_decide_eq_true (by kernel_rfl)) h0' hb (fun x hx => hlt x (by simp [hx]))) trodAll_mk0) rfl hb⟩

set_option maxRecDepth 100000 in
theorem laid_met (os : Os) : laidMet Tryd.prog Rows.tokenParsesUptoRow.laid ((withTabs (World.holding Tryd.prog os ⟨#[], #[], []⟩)).forCall (fun _ _ => 0) ⟨#[], #[Value.string ⟨#[]⟩], []⟩).memory :=
  laidMet_of_run' 8 (by kernel_rfl) (by kernel_rfl)
set_option maxRecDepth 100000 in
theorem reads (os : Os) {H : Type} (enc : TypeId × Value → H) : ∃ places, DataW.whole enc Tryd.prog ((withTabs (World.holding Tryd.prog os ⟨#[], #[], []⟩)).forCall (fun _ _ => 0) ⟨#[], #[Value.string ⟨#[]⟩], []⟩).memory Tryd.f7.params.toList Rows.tokenParsesSpec.vars false #[Value.string ⟨#[]⟩].toList 8 = some ([.lit (.string [])], [], places) :=
  ⟨[], by kernel_rfl⟩

set_option maxRecDepth 100000 in
theorem lifted (os : Os) (started : os.Started) (H : Type) (enc : TypeId × Value → H) (F : Stop.Interp) :
    ReturnsInHanded {} Tryd.checked os 7 .any ((Rows.OpenSpec.upto Rows.tokenParsesSpec).preRow enc Tryd.prog Tryd.f7 Rows.tokenParsesUptoRow.domain false Rows.tokenParsesUptoRow.laid) (((Rows.OpenSpec.upto Rows.tokenParsesSpec).at F).post enc Tryd.prog Tryd.f7 false true false false) := by
  obtain ⟨places, hx⟩ := reads os enc
  refine returnsInHanded_of_row (C := Tryd.checked) (s := Rows.OpenSpec.upto Rows.tokenParsesSpec) own started (by kernel_rfl) Tryd.func7
    (witness_row_at (enc := enc) (C := Tryd.checked) false (withTabs (World.holding Tryd.prog os ⟨#[], #[], []⟩)) #[Value.string ⟨#[]⟩] rfl (by kernel_rfl) (by kernel_rfl) (by kernel_rfl)
      (OpenSpec.preRow_of_cond 8 hx (by kernel_rfl) (fun k hk => by cases hk; kernel_rfl) (by kernel_rfl) (laid_met os))) ?_
  intro W base args ds gs before hval hW _ hcond _ hL hsh _
  exact contract H enc W base args ds gs before hval hW hL hsh (hcond _ rfl)

set_option maxRecDepth 100000 in
theorem said : Rows.TokenParsesUptoSaid :=
  OpenClaim.holds_of_cond 7 Tryd.f7 rfl rfl rfl rfl rfl rfl rfl ⟨rfl, rfl, rfl, rfl, rfl⟩ rfl rfl rfl rfl rfl (by kernel_rfl) Tryd.func7 (by kernel_rfl)
    (of_decide_eq_true (by kernel_rfl)) (by unfold Func.isWrapper; first | (rw [if_pos (by decide +kernel)]; kernel_rfl) | (rw [if_neg (by decide +kernel)]; exact ⟨rfl, rfl⟩))
    (fun os started H enc _ F => by rw [OpenClaim.pre_eq_preRow]; exact lifted os started H enc F)

theorem plain (f : FuncId) (fn : Func) (hf : Tryd.pinned.checked.prog.funcNamed "sieve/sievelaw07.TokenParses" = some f) (hfn : Tryd.pinned.checked.prog.funcs[f]? = some fn) :
    false = Tryd.pinned.checked.prog.looks [] ∧ ∀ (j : Nat) t, fn.params[j]? = some t → Tryd.pinned.checked.prog.wantsStandIn t = false := by
  obtain rfl : f = 7 := Option.some.inj ((show Tryd.prog.funcNamed "sieve/sievelaw07.TokenParses" = some 7 by kernel_rfl).symm.trans hf) |>.symm
  obtain rfl : fn = Tryd.f7 := (Option.some.inj (Tryd.func7.symm.trans hfn)).symm
  refine ⟨by kernel_rfl, fun j t ht => ?_⟩
  rw [Tryd.params7] at ht
  have hm := Array.mem_of_getElem? ht
  simp only [List.mem_toArray, List.mem_cons, List.not_mem_nil, or_false] at hm
  subst hm
  · exact (show Tryd.prog.wantsStandIn 9 = false by kernel_rfl)

theorem card : Rows.TokenParsesUptoCardSaid :=
  Claim7.holds_tied_plain_at .later [] _ _ _ _ said (fun _ h => by cases h) (by kernel_rfl) (fun _ h => by cases h) tokenParsesUpto_row_tie rfl ⟨rfl, rfl⟩ (by kernel_rfl) rfl plain (by kernel_rfl)

end Go.Proofs.YtelfejbhlolppaaDoor.TParses
