/- What is proved here: the contract of Whole of package raw, of every name and every text. -/
import Derived.Test.YtegkdgmpkfpjmaaDoorBun11
import Derived.Test.YtegkdgmpkfpjmaaDoorBun12
namespace Go.Proofs.YtegkdgmpkfpjmaaDoor.R
open Go.RowKit Go.Shelf Go.Proofs.YtegkdgmpkfpjmaaDoor.U Go.Proofs.YtegkdgmpkfpjmaaDoor.N

theorem results_tmp4 {fn : Func} {t u v x : Tmp} (h : fn.results = #[.tmp t, .tmp u, .tmp v, .tmp x]) (tmps : Array Value) (P : Program) (w : World) :
    (results fn tmps).run P w = .ok (.tuple #[tmps.getD t undef, tmps.getD u undef, tmps.getD v undef, tmps.getD x undef]) w := by
  simp [results, h]
theorem iterAt_grown (w : World) (k : Nat) (s : ByteArray) (p : Nat) : w.grownBy (w.iterAt k s p) (some k) := by
  refine ⟨rfl, rfl, rfl, by simp [World.iterAt], fun j hj hne => ?_⟩
  have hjk : k ≠ j := fun e => hne (by rw [e])
  simp [World.iterAt, hjk]
theorem iterPos_of {w : World} {k : Nat} {s : ByteArray} {p : Nat} (h : w.heap[k]? = some (.stringIter s p)) : w.iterPos k = p := by unfold World.iterPos; rw [h]
theorem ScAt.iter {W : World} {g cap k p : Nat} {nm : List Int} {s : ByteArray} {st : St} (hk : W.heap[k]? = some (.stringIter s p)) (h : ScAt W g cap nm st) (p' : Nat) : ScAt (W.iterAt k s p') g cap nm st := by
  obtain ⟨vs, vh, ⟨c, fz, n0, n1⟩, h2, h3, h4, h5⟩ := h
  have hg := iterAt_grown W k s p'
  refine ⟨vs, vh, ⟨c, fz, ?_, n1⟩, ?_, h3.kept hg ?_, h4.kept hg ?_, h5⟩
  · rw [hg.block g (lt_of_blk n0) (fun e => by cases e; rw [n0] at hk; cases hk)]; exact n0
  · rw [hg.block _ (lt_of_blk h2) (fun e => by cases e; rw [h2] at hk; cases hk)]; exact h2
  · cases hv : vs.ownBlock with
    | none => exact .inl rfl
    | some b =>
      refine .inr (fun e => ?_)
      obtain ⟨cs, fz, hc⟩ := row_kind h3 b hv
      cases e; rw [hc] at hk; cases hk
  · cases hv : vh.ownBlock with
    | none => exact .inl rfl
    | some b =>
      refine .inr (fun e => ?_)
      obtain ⟨cs, fz, hc⟩ := row_kind h4 b hv
      cases e; rw [hc] at hk; cases hk
theorem ext_drop (bs : List UInt8) (k : Nat) (hk : k ≤ bs.length) (w : World) : (Instr.slice 9 (.string ⟨bs.toArray⟩) (some (.int .i64 k)) none none).run Tryd.prog w = .ok (.string ⟨(bs.drop k).toArray⟩) w := by
  rw [run_slice_string_l w 9 ⟨bs.toArray⟩ Tryd.underlying9 .i64 k (by omega) (by rw [byteArr_size]; omega), byteArr_size]
  exact congrArg (fun x => Result.ok (Value.string x) w) (extract_eq bs k)
/-- **Put**, whatever has come. -/
theorem put_any (g cap : Nat) (nm : List Int) (s : St) (r : Int) (w : World) (hS : ScAt w g cap nm s) (hk : s.p = 6 ∨ (Ok nm s ∧ Fits s)) (hr : InR r) (hm : nm.length ≤ 1000) :
    Calls Tryd.prog 20 #[.pointer (some ⟨g + 1, 0, none⟩), .int .i32 r] w fun e W' => (∃ v, e = .returned v) ∧ ScAt W' g cap nm (s.next nm r) ∧ Leaves g w W' := by
  rcases hk with h6 | ⟨hk, hl⟩
  · refine (put_refused _ 3 r w (by decide) (ready_over g cap nm s w hS (.inl h6))).mono ?_
    rintro e W' ⟨rfl, rfl⟩
    exact ⟨⟨_, rfl⟩, by rw [show s.next nm r = s by unfold St.next; rw [if_pos h6]]; exact hS, leaves_refl _ _⟩
  · refine (put_calls g cap nm s r w hS hl hr hk hm).mono ?_
    rintro e W' ⟨rfl, h1, h2⟩
    exact ⟨⟨_, rfl⟩, by rw [next_ok hk]; exact h1, h2⟩
/-- What Whole leaves. -/
def WEnd (w : World) (l bs : List UInt8) (e : Ending) (W' : World) : Prop := ∃ t n ok, e = .returned (.tuple #[.string ⟨List.toArray t⟩, .int .i64 (n : Nat), .bool ok, .int .i64 0]) ∧ WholeIs (zs l) (p0 l) bs t n ok ∧ Below w.heap.size w W'
theorem p0_range (l : List UInt8) : 1 ≤ p0 l ∧ p0 l ≤ 3 := by unfold p0; split; omega; split <;> omega
set_option maxRecDepth 100000 in
set_option maxHeartbeats 4000000 in
/-- **Whole.** -/
theorem whole_calls (l : List UInt8) (hw : whZ l ≠ 0) (bs : List UInt8) (w : World) (hs : bs.length ≤ 10000000) (hT : Lib.Utf8Tabs (Tryd.lays32_ren.g 2) (Tryd.lays32_ren.g 3) w) (hm : MaxOk w) :
    Calls Tryd.prog 13 #[.string ⟨l.toArray⟩, .string ⟨bs.toArray⟩] w (WEnd w l bs) := by
  have HT : Hid (Lib.Utf8Tabs (Tryd.lays32_ren.g 2) (Tryd.lays32_ren.g 3) w) := hT
  have hz1 := byteArr_size bs
  have HN : Hid (Calls Tryd.prog 18 #[.string ⟨l.toArray⟩] w (NewEnd w l)) := new_calls l w hw hm
  have hnl : (zs l).length ≤ 1000 := by have := wh_len l hw; simp; omega
  have hpr := p0_range l
  have HF : Hid (∀ e W', WEnd w l bs e W' = ∃ t n ok, e = .returned (.tuple #[.string ⟨List.toArray t⟩, .int .i64 (n : Nat), .bool ok, .int .i64 0]) ∧ WholeIs (zs l) (p0 l) bs t n ok ∧ Below w.heap.size w W') := fun _ _ => rfl
  obtain ⟨nm, hnm⟩ : ∃ nm, zs l = nm := ⟨_, rfl⟩
  obtain ⟨p, hp⟩ : ∃ p, p0 l = p := ⟨_, rfl⟩
  have HNE : Hid (∀ e W', NewEnd w l e W' → ∃ cap, e = .returned (.tuple #[.pointer (some ⟨w.heap.size + 1, 0, none⟩), .int .i64 0]) ∧ ScAt W' w.heap.size cap nm (s0 p) ∧ Below w.heap.size w W') := fun e W' h => by rw [← hnm, ← hp]; exact h
  rw [hnm] at hnl HF
  rw [hp] at hpr HF
  have HOK := hid_of (s0_ok nm (p := p) hpr.1 (by omega))
  clear hT hnm hp hw hm
  obtain ⟨g, hg⟩ : ∃ g, w.heap.size = g := ⟨_, rfl⟩
  have HA : Hid (w.heap.size = g) := hg
  rw [hg] at HNE HF
  clear hg
  go_enter Tryd.func13, Tryd.ntmps13
  go_wp2_with fail
  go_at_call 18
  refine HN.out.mono ?_
  intro e w1 hne
  obtain ⟨cap, rfl, hS1, hb1⟩ := HNE.out e w1 hne
  clear hne HN HNE
  go_wp2_with fail
  go_loopw [10] (fun i wr => ∃ k : Nat, k ≤ bs.length ∧ i = .int .i64 k ∧ Hid ((Cut (bs.take k) ∨ k = bs.length) ∧ ((s0 p).run nm (runesI (bs.take k))).p ≠ 6 ∧ ScAt wr g cap nm ((s0 p).run nm (runesI (bs.take k)))) ∧ Below g w wr) (fun i _ => bs.length - (intOf i).toNat)
  case atStart => exact ⟨0, by omega, rfl, ⟨.inl cut_nil, ok_ne HOK.out, hS1⟩, hb1⟩
  case round =>
    obtain ⟨k, hk, rfl, hR, hB⟩ := hrel
    by_cases hlt : k < bs.length
    · have hcut : Cut (bs.take k) := by
        rcases hR.out.1 with h | h
        · exact h
        · omega
      obtain ⟨P, hP⟩ : ∃ P, P = (bs.drop k).take (upTo (bs.drop k)) := ⟨_, rfl⟩
      obtain ⟨q0, q1, q2, q3, q4, q5⟩ := piece_step nm p hpr.1 (by omega) bs P k hlt hP hcut hR.out.2.1
      have hsl := ext_drop bs k hk
      have HU : Hid (∀ w, Calls Tryd.prog 31 #[.string ⟨(bs.drop k).toArray⟩] w fun e w' => e = .returned (.string ⟨P.toArray⟩) ∧ Below w.heap.size w w') := fun w => by
        rw [hP]; exact upto_calls (bs.drop k) w (by simp; omega)
      obtain ⟨D, hD⟩ : ∃ D, bs.drop k = D := ⟨_, rfl⟩
      rw [hD] at hsl HU
      have hPz := byteArr_size P
      have hsB := hB.size
      rw [HA.out] at hsB
      have HQ : Hid (runesI (bs.take (k + P.length)) = runesI (bs.take k) ++ runesI P ∧ (Cut (bs.take (k + P.length)) ∨ k + P.length = bs.length) ∧ (((s0 p).run nm (runesI (bs.take (k + P.length)))).p = 6 → WholeIs nm p bs (encs ((s0 p).run nm (runesI (bs.take (k + P.length)))).o) (k + P.length) true)) := ⟨q3, q4, q5⟩
      have hwr : IntKind.i64.wrap ((k : Int) + (P.length : Int)) = (k : Int) + (P.length : Int) := by rw [IntKind.wrap_i64]; omega
      clear q2 q3 q4 q5 hcut hP hD
      go_wp2_with fail
      go_at_call 31
      refine (HU.out _).mono ?_
      rintro e w2 ⟨rfl, hb2⟩
      have hB2 : Below g w w2 := hB.trans (hb2.mono hsB)
      have hS2 := hid_of (hR.out.2.2.below hb2)
      have hs2 := hB2.size
      rw [HA.out] at hs2
      have HM : Hid (Calls Tryd.prog 32 #[.string ⟨P.toArray⟩] w2 fun e W' => e = .returned (.string ⟨(encs (runesI P)).toArray⟩) ∧ Below w2.heap.size w2 W') := mend_calls P w2 (by omega) (tabs_below HT.out (by rw [HA.out]; exact hB2))
      clear hB hb2
      go_wp2_with fail
      go_at_call 32
      refine HM.out.mono ?_
      rintro e w3 ⟨rfl, hb3⟩
      obtain ⟨R0, hR0⟩ : ∃ R0, runesI (bs.take k) = R0 := ⟨_, rfl⟩
      have hRl : R0.length ≤ 10000000 := by
        rw [← hR0, runesI_length]
        have := pcs_length (bs.take k)
        have h3 : (bs.take k).length ≤ bs.length := by simp; omega
        omega
      have HL : Hid (runesI (encs (runesI P)) = runesI P ∧ (pcs (encs (runesI P))).all Pc.ok = true) := ⟨(runesI_encs (runesI P)).1.trans (runesI_mend P), (runesI_encs (runesI P)).2⟩
      have hml : (encs (runesI P)).length ≤ 4 * P.length := by
        have h1 := encs_length (runesI P)
        have h2 := pcs_length P
        rw [runesI_length] at h1
        omega
      have HS3 := hid_of (hS2.out.below hb3)
      rw [hR0] at HS3 HQ
      have hB3 : Below g w w3 := hB2.trans (hb3.mono hs2)
      have hs3 := hB3.size
      rw [HA.out] at hs3
      obtain ⟨ms, hms⟩ : ∃ ms, encs (runesI P) = ms := ⟨_, rfl⟩
      rw [hms] at HL hml
      rw [hms]
      have hsz := byteArr_size ms
      have hg3 := HS3.out.lt
      have HSi : Hid (ScAt (w3.iter ⟨ms.toArray⟩ 0) g cap nm ((s0 p).run nm R0)) := HS3.out.below ((Below.refl _ w3).alloc (Nat.le_refl _) _)
      clear HS3 hS2 hms hR hR0 HM HU hb3 hsl hB2
      go_wp2_with fail
      go_loopw [] (fun wi => ∃ (j : Nat) (pre : List Int), j ≤ ms.length ∧ pre.length ≤ j ∧ wi.heap[w3.heap.size]? = some (.stringIter ⟨ms.toArray⟩ j) ∧ Hid (runesI ms = pre ++ rI ms j ∧ (pcsF ms.length j (ms.drop j)).all Pc.ok = true) ∧ Hid (ScAt wi g cap nm ((s0 p).run nm (R0 ++ pre))) ∧ Below g w wi ∧ w3.heap.size < wi.heap.size) (fun wi => ms.length - wi.iterPos w3.heap.size)
      case atStart => exact ⟨0, [], by omega, by simp, World.iter_heap _ _ _, ⟨by rw [rI_drop, List.drop_zero]; rfl, HL.out.2⟩, by show ScAt _ _ _ _ _; rw [List.append_nil]; exact HSi.out, hB3.alloc hs3 _, by simp [World.iter]⟩
      case round =>
        obtain ⟨j, pre, hj, hpj, hit, hH, hSc, hBi, hzi⟩ := hrel
        by_cases hjl : j < ms.length
        · have hd0 : 0 < (ms.drop j).length := by simp; omega
          have hst := pcs_step ms j hjl
          have hal := hH.out.2
          rw [hst, List.all_cons, Bool.and_eq_true] at hal
          have hna : nextAll (ms.drop j) = true := hal.1
          have hri : rI ms j = (runeOf (ms.drop j) : Int) :: rI ms (j + nextN (ms.drop j)) := by unfold rI; rw [hst]; simp [nextR, hna]
          have hdec : Utf8.decode ⟨ms.toArray⟩ j = (runeOf (ms.drop j), nextN (ms.drop j)) := by rw [decode_drop]; exact decode_right _ hd0 hna
          have hnx : ∀ ty, (Instr.next (.pointer (some ⟨w3.heap.size, 0, none⟩)) true ty).run Tryd.prog wr = _ := fun ty => Lib.run_next_any_at wr w3.heap.size ⟨ms.toArray⟩ j ty hit (by rw [hsz]; exact hjl)
          rw [hdec] at hnx
          simp only at hnx
          have hp1 := nextN_pos (ms.drop j)
          have hp2 := nextN_len (ms.drop j) hd0
          simp only [List.length_drop] at hp2
          have hvd := rune_valid (ms.drop j) hd0 hna
          have HH2 : Hid (runesI ms = (pre ++ [(runeOf (ms.drop j) : Int)]) ++ rI ms (j + nextN (ms.drop j)) ∧ (pcsF ms.length (j + nextN (ms.drop j)) (ms.drop (j + nextN (ms.drop j)))).all Pc.ok = true) := ⟨by rw [hH.out.1, hri]; simp, hal.2⟩
          have HIT : Hid (wr.heap[w3.heap.size]? = some (.stringIter ⟨ms.toArray⟩ j)) := hit
          have hScX := ScAt.iter hit hSc.out (j + nextN (ms.drop j))
          have hitX := Lib.iterAt_heap wr w3.heap.size ⟨ms.toArray⟩ j (j + nextN (ms.drop j)) hit
          have hgX := iterAt_grown wr w3.heap.size ⟨ms.toArray⟩ (j + nextN (ms.drop j))
          obtain ⟨X, hX⟩ : ∃ X, wr.iterAt w3.heap.size ⟨ms.toArray⟩ (j + nextN (ms.drop j)) = X := ⟨_, rfl⟩
          rw [hX] at hnx hScX hitX hgX
          have hBX : Below g w X := hBi.grown hgX (by have := hBi.size; omega) (fun b hb => by cases hb; omega)
          have HITX : Hid (X.heap[w3.heap.size]? = some (.stringIter ⟨ms.toArray⟩ (j + nextN (ms.drop j)))) := hitX
          have hzX := hgX.size
          clear hst hal hna hri hdec hX hit hH hSc hitX hgX
          generalize hz : (runeOf (ms.drop j) : Int) = z at *
          generalize nextN (ms.drop j) = n at *
          obtain ⟨v0, v1, v2⟩ := (valid_iff z).1 hvd
          have hkk : ((s0 p).run nm (R0 ++ pre)).p = 6 ∨ (Ok nm ((s0 p).run nm (R0 ++ pre)) ∧ Fits ((s0 p).run nm (R0 ++ pre))) := by
            rcases run_keeps nm (R0 ++ pre) (s0 p) HOK.out with h | ⟨h1, h2, _⟩
            · exact .inl h
            · refine .inr ⟨h1, ?_⟩
              have := congrArg List.length h2
              simp only [List.length_append, s0, List.length_nil] at this
              unfold Fits
              simp only [s0]
              omega
          have HPUT : Hid (Calls Tryd.prog 20 #[.pointer (some ⟨g + 1, 0, none⟩), .int .i32 z] X fun e W' => (∃ v, e = .returned v) ∧ ScAt W' g cap nm ((s0 p).run nm (R0 ++ (pre ++ [z]))) ∧ Leaves g X W') := by
            have h := put_any g cap nm _ z X hScX hkk ⟨by omega, by omega⟩ hnl
            rw [← run_snoc, List.append_assoc] at h
            exact h
          clear hz hvd v2 hScX hkk
          go_wp2_with fail
          go_at_call 20
          refine HPUT.out.mono ?_
          rintro e w4 ⟨⟨v, rfl⟩, hS4, hB4⟩
          have hz4 := hB4.1.size
          have hit4 := hB4.2 _ _ HITX.out (by omega) (fun c fz e => by cases e) (fun c fz e => by cases e)
          have HS4 := hid_of hS4
          clear hS4
          go_wp2_with fail
          go_roundw
          case rel => exact ⟨j + n, pre ++ [z], by omega, by simp; omega, hit4, HH2.out, HS4.out, hBX.trans (hB4.1.mono (by omega)), by omega⟩
          case measure => rw [iterPos_of hit4, iterPos_of HIT.out]; omega
        · obtain rfl : j = ms.length := by omega
          have hnx : ∀ ty, (Instr.next (.pointer (some ⟨w3.heap.size, 0, none⟩)) true ty).run Tryd.prog wr = _ := fun ty => Lib.run_next_end_at wr w3.heap.size ⟨ms.toArray⟩ ms.length ty hit (by rw [hsz]; exact hjl)
          have hpre : pre = runesI P := by
            have := hH.out.1
            rw [HL.out.1, rI_drop, List.drop_length, show runesI [] = [] from rfl, List.append_nil] at this
            exact this.symm
          subst hpre
          have HRP : Hid (R0 ++ runesI P = runesI (bs.take (k + P.length))) := HQ.out.1.symm
          rw [HRP.out] at hSc
          clear hH
          have HE : Hid (Calls Tryd.prog 23 #[.pointer (some ⟨g + 1, 0, none⟩)] wr fun e W' => e = .returned (.bool (decide (((s0 p).run nm (runesI (bs.take (k + P.length)))).p = 6))) ∧ W' = wr) := ended_calls g cap nm _ wr hSc.out
          by_cases hc : ((s0 p).run nm (runesI (bs.take (k + P.length)))).p = 6
          · have hcb : decide (((s0 p).run nm (runesI (bs.take (k + P.length)))).p = 6) = true := decide_eq_true hc
            rw [hcb] at HE
            have HV := hid_of (HQ.out.2.2 hc)
            clear hc hcb
            go_wp2_with fail
            (go_at_call 23; refine HE.out.mono ?_; rintro e w5 ⟨rfl, hw5⟩; obtain rfl : wr = w5 := hw5.symm)
            go_wp2_with fail
            (go_at_call 25; refine (take_calls g cap nm _ _ hSc.out).mono ?_; rintro e w6 ⟨rfl, hS6, hB6⟩)
            go_wp2_with fail
            (try simp only [Exit.inBlock, Exit.then])
            refine bodyPost_ret (results_tmp4 rfl _ _ _) rfl ?_
            rw [HF.out]
            exact ⟨_, k + P.length, true, rfl, HV.out, hBi.trans (hB6.1.mono (by omega))⟩
          · have hcb : decide (((s0 p).run nm (runesI (bs.take (k + P.length)))).p = 6) = false := decide_eq_false hc
            rw [hcb] at HE
            have HC := hid_of hc
            clear hc hcb
            go_wp2_with fail
            (go_at_call 23; refine HE.out.mono ?_; rintro e w5 ⟨rfl, hw5⟩; obtain rfl : wr = w5 := hw5.symm)
            go_wp2_with fail
            go_roundw
            case rel => exact ⟨k + P.length, by omega, by go_num, ⟨HQ.out.2.1, HC.out, hSc.out⟩, hBi⟩
            case measure => simp [intOf]; omega
    · obtain rfl : k = bs.length := by omega
      have hRo := hR.out.2
      rw [List.take_length] at hRo
      obtain ⟨T, hT⟩ : ∃ T, (s0 p).run nm (runesI bs) = T := ⟨_, rfl⟩
      have hkk := run_keeps nm (runesI bs) (s0 p) HOK.out
      rw [hT] at hRo hkk
      rcases hkk with h | ⟨m1, m2, _⟩
      · exact absurd h hRo.1
      · have hle : T.o.length + T.h.length ≤ 10000000 := by
          have := congrArg List.length m2
          have h2 := pcs_length bs
          simp only [List.length_append, s0, List.length_nil, runesI_length] at this
          omega
        have HEND : Hid (Calls Tryd.prog 26 #[.pointer (some ⟨g + 1, 0, none⟩)] wr fun e W' => e = .returned (.int .i64 0) ∧ ScAt W' g cap nm { T with o := T.o ++ T.h, h := [], p := 7 } ∧ Leaves g wr W') := end_calls g cap nm T wr hRo.2 (by unfold Fits; omega) m1.1 m1.2.1
        have HV : Hid (WholeIs nm p bs (encs (T.o ++ T.h)) bs.length false) := by
          rw [m2]
          exact whole_open nm p bs (by rw [hT]; exact hRo.1)
        clear hR hRo m1 m2 hT
        go_wp2_with fail
        (go_at_call 26; refine HEND.out.mono ?_; rintro e w5 ⟨rfl, hS5, hB5⟩)
        go_wp2_with fail
        (go_at_call 25; refine (take_calls g cap nm _ _ hS5).mono ?_; rintro e w6 ⟨rfl, hS6, hB6⟩)
        go_wp2_with fail
        (try simp only [Exit.inBlock, Exit.then])
        refine bodyPost_ret (results_tmp4 rfl _ _ _) rfl ?_
        rw [HF.out]
        exact ⟨_, bs.length, false, rfl, HV.out, hB.trans ((hB5.1.trans hB6.1).mono (by omega))⟩
end Go.Proofs.YtegkdgmpkfpjmaaDoor.R
