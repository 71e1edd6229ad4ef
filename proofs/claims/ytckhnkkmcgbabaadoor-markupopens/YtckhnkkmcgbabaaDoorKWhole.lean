/- What is proved here: the contract of Whole of package markup, of any kind and text. -/
import Derived.Lib.OthersKept
import Derived.Test.YtckhnkkmcgbabaaDoorKPut
import Derived.Test.YtckhnkkmcgbabaaDoorKWMath
import Derived.Test.YtckhnkkmcgbabaaDoorKRWhole
namespace Go.Proofs.YtckhnkkmcgbabaaDoor.K
open Go.RowKit Go.Shelf Go.Proofs.YtckhnkkmcgbabaaDoor.U

set_option maxRecDepth 100000 in
set_option maxHeartbeats 2000000 in
/-- **upToClose.** -/
theorem upto_calls (bs : List UInt8) (w : World) (hs : bs.length ≤ 100000000) :
    Calls Tryd.prog 23 #[.string ⟨bs.toArray⟩] w fun e w' => e = .returned (.string ⟨(bs.take (upTo bs)).toArray⟩) ∧ w' = w := by
  have hle := upTo_le bs
  have HI : Hid (Calls Tryd.prog 35 #[.string ⟨bs.toArray⟩, .int .u8 62] w fun e w' => e = .returned (.int .i64 (Lib.indexByte bs 62)) ∧ w' = w) := Any.strings_IndexByte Tryd.lays137 ⟨bs.toArray⟩ 62 w
  rcases upTo_index bs with ⟨h1, h2⟩ | ⟨h1, h2⟩
  · rw [h1] at HI
    have HT : Hid (bs.take (upTo bs) = bs) := by show bs.take (upTo bs) = bs; rw [h2, List.take_length]
    clear h1 h2
    go_enter Tryd.func23, Tryd.ntmps23
    go_wp2_with (go_at_call 35; refine HI.out.mono ?_; rintro e w1 ⟨rfl, rfl⟩)
    go_ret
    exact ⟨ret_is (by rw [HT.out]; rfl), rfl⟩
  · rw [h1] at HI
    obtain ⟨n, hn⟩ : ∃ n, upTo bs = n + 1 := ⟨upTo bs - 1, by omega⟩
    rw [hn] at HI ⊢
    rw [show (((n + 1 : Nat) : Int) - 1) = (n : Int) by omega] at HI
    have hsl := slice_h bs (n + 1) (by omega) ((n : Int) + 1) (by omega)
    have hlt : decide ((n : Int) < 0) = false := by rw [decide_eq_false_iff_not]; omega
    have hwr : IntKind.i64.wrap ((n : Int) + 1) = (n : Int) + 1 := by rw [IntKind.wrap_i64]; omega
    clear h1 h2 hn
    go_enter Tryd.func23, Tryd.ntmps23
    go_wp2_with (go_at_call 35; refine HI.out.mono ?_; rintro e w1 ⟨rfl, rfl⟩)
    go_ret
    exact ⟨rfl, rfl⟩

theorem iterAt_grown (w : World) (k : Nat) (s : ByteArray) (p : Nat) : w.grownBy (w.iterAt k s p) (some k) := by
  refine ⟨rfl, rfl, rfl, by simp [World.iterAt], fun j hj hne => ?_⟩
  have hjk : k ≠ j := fun e => hne (by rw [e])
  simp [World.iterAt, hjk]
theorem iterPos_of {w : World} {k : Nat} {s : ByteArray} {p : Nat} (h : w.heap[k]? = some (.stringIter s p)) : w.iterPos k = p := by unfold World.iterPos; rw [h]
theorem ScAt.iter {W : World} {a k p : Nat} {s : ByteArray} {q : Int} {bs : List UInt8} (hk : W.heap[k]? = some (.stringIter s p)) (h : ScAt W a q bs) (p' : Nat) : ScAt (W.iterAt k s p') a q bs := by
  obtain ⟨v, hb, ho⟩ := h
  have hg := iterAt_grown W k s p'
  refine ⟨v, ?_, ho.kept hg ?_⟩
  · rw [hg.block a (lt_of_blk hb) (fun e => by cases e; rw [hb] at hk; cases hk)]; exact hb
  · cases hv : v.ownBlock with
    | none => exact .inl rfl
    | some g =>
      refine .inr (fun e => ?_)
      obtain ⟨cs, fz, hc⟩ := row_kind ho g hv
      cases e; rw [hc] at hk; cases hk
theorem ext_drop (bs : List UInt8) (k : Nat) (hk : k ≤ bs.length) (w : World) : (Instr.slice 9 (.string ⟨bs.toArray⟩) (some (.int .i64 k)) none none).run Tryd.prog w = .ok (.string ⟨(bs.drop k).toArray⟩) w := by
  rw [run_slice_string_l w 9 ⟨bs.toArray⟩ Tryd.underlying9 .i64 k (by omega) (by rw [byteArr_size]; omega), byteArr_size]
  exact congrArg (fun x => Result.ok (Value.string x) w) (extract_eq bs k)

set_option maxRecDepth 100000 in
set_option maxHeartbeats 4000000 in
/-- **Whole of any kind that there is, of any text.** -/
theorem whole_calls (kind : Int) (h0 : 0 ≤ kind) (h2 : kind ≤ 2) (bs : List UInt8) (w : World) (hs : bs.length ≤ 10000000) (hT : Lib.Utf8Tabs (Tryd.lays32_ren.g 2) (Tryd.lays32_ren.g 3) w) :
    Calls Tryd.prog 11 #[.int .i64 kind, .string ⟨bs.toArray⟩] w fun e w' => e = .returned (wV kind bs) ∧ Below w.heap.size w w' := by
  have HT : Hid (Lib.Utf8Tabs (Tryd.lays32_ren.g 2) (Tryd.lays32_ren.g 3) w) := hT
  have hz1 := byteArr_size bs
  have HN : Hid (Calls Tryd.prog 13 #[.int .i64 kind] w fun e W' => e = .returned (.tuple #[.pointer (some ⟨w.heap.size, 0, none⟩), .int .i64 0]) ∧ ScAt W' w.heap.size (start kind : Nat) [] ∧ Below w.heap.size w W') := new_calls kind w h0 h2
  obtain ⟨a, ha⟩ : ∃ a, w.heap.size = a := ⟨_, rfl⟩
  have HA : Hid (w.heap.size = a) := ha
  rw [ha] at HN ⊢
  clear hT ha
  go_enter Tryd.func11, Tryd.ntmps11
  go_wp2_with (go_at_call 13; refine HN.out.mono ?_; rintro e w1 ⟨rfl, hS1, hb1⟩)
  clear HN
  go_loopw [10] (fun i wr => ∃ k : Nat, k ≤ bs.length ∧ i = .int .i64 k ∧ Hid ((Cut (bs.take k) ∨ k = bs.length) ∧ run (start kind) (runesI (bs.take k)) ≠ 9 ∧ ScAt wr a (run (start kind) (runesI (bs.take k)) : Nat) (encs (sayAll (start kind) (runesI (bs.take k))))) ∧ Below a w wr) (fun i _ => bs.length - (intOf i).toNat)
  case atStart => exact ⟨0, by omega, rfl, ⟨.inl cut_nil, start_ne kind, hS1⟩, hb1⟩
  case round =>
    obtain ⟨k, hk, rfl, hR, hB⟩ := hrel
    by_cases hlt : k < bs.length
    · have hcut : Cut (bs.take k) := by
        rcases hR.out.1 with h | h
        · exact h
        · omega
      obtain ⟨P, hP⟩ : ∃ P, P = (bs.drop k).take (upTo (bs.drop k)) := ⟨_, rfl⟩
      obtain ⟨p0, p1, p2, p3, p4, p5, p6⟩ := piece_step kind h0 h2 bs P k hlt hP hcut hR.out.2.1
      have hsl := ext_drop bs k hk
      have HU : Hid (∀ w, Calls Tryd.prog 23 #[.string ⟨(bs.drop k).toArray⟩] w fun e w' => e = .returned (.string ⟨P.toArray⟩) ∧ w' = w) := fun w => by
        rw [hP]; exact upto_calls (bs.drop k) w (by simp; omega)
      obtain ⟨D, hD⟩ : ∃ D, bs.drop k = D := ⟨_, rfl⟩
      rw [hD] at hsl HU
      have hPz := byteArr_size P
      have hsB := hB.size
      rw [HA.out] at hsB
      have HM : Hid (Calls Tryd.prog 24 #[.string ⟨P.toArray⟩] wr fun e W' => e = .returned (.string ⟨(encs (runesI P)).toArray⟩) ∧ Below wr.heap.size wr W') := mend_calls P wr (by omega) (tabs_below HT.out (by rw [HA.out]; exact hB))
      have HP : Hid (bs.take (k + P.length) = bs.take k ++ P ∧ runesI (bs.take (k + P.length)) = runesI (bs.take k) ++ runesI P ∧
        (∀ pre rest, runesI P = pre ++ rest → rest ≠ [] → run (start kind) (runesI (bs.take k) ++ pre) ≠ 9) ∧
        (Cut (bs.take (k + P.length)) ∨ k + P.length = bs.length) ∧
        (run (start kind) (runesI (bs.take (k + P.length))) = 9 → wN kind bs = k + P.length ∧ wC kind bs = true ∧ sayAll (start kind) (runesI (bs.take (k + P.length))) = runesI (wText kind bs))) := ⟨p2, p3, p4, p5, p6⟩
      have hwr : IntKind.i64.wrap ((k : Int) + (P.length : Int)) = (k : Int) + (P.length : Int) := by rw [IntKind.wrap_i64]; omega
      clear p2 p3 p4 p5 p6 hcut hP hD
      go_wp2_with (first
        | (go_at_call 23; refine (HU.out _).mono ?_; rintro e w2 ⟨rfl, hw2⟩; obtain rfl : wr = w2 := hw2.symm)
        | (go_at_call 24; refine HM.out.mono ?_; rintro e w3 ⟨rfl, hb3⟩))
      obtain ⟨s0, hs0⟩ : ∃ s0, start kind = s0 := ⟨_, rfl⟩
      obtain ⟨R0, hR0⟩ : ∃ R0, runesI (bs.take k) = R0 := ⟨_, rfl⟩
      have HQ : Hid (isQ s0) := by rw [← hs0]; exact start_isQ kind
      have hRl : R0.length ≤ 10000000 := by
        rw [← hR0, runesI_length]
        have := pcs_length (bs.take k)
        have h3 : (bs.take k).length ≤ bs.length := by simp; omega
        omega
      have HL : Hid (runesI (encs (runesI P)) = runesI P ∧ (pcs (encs (runesI P))).all Pc.ok = true) := ⟨(runesI_encs (runesI P)).1.trans (runesI_mend P), (runesI_encs (runesI P)).2⟩
      have hml : (encs (runesI P)).length ≤ 4 * P.length := by
        have h1 := encs_length (runesI P)
        have h2 := pcs_length P
        rw [runesI_length] at h1
        omega
      have hS3 : ScAt w3 a (run s0 R0 : Nat) (encs (sayAll s0 R0)) := by
        have h := hR.out.2.2.below hb3
        rw [hs0, hR0] at h
        exact h
      have h9 : run s0 R0 ≠ 9 := by rw [← hs0, ← hR0]; exact hR.out.2.1
      have HP2 : Hid ((∀ pre rest, runesI P = pre ++ rest → rest ≠ [] → run s0 (R0 ++ pre) ≠ 9) ∧ runesI (bs.take (k + P.length)) = R0 ++ runesI P) := by
        refine ⟨?_, ?_⟩
        · rw [← hs0, ← hR0]; exact HP.out.2.2.1
        · rw [← hR0]; exact HP.out.2.1
      have hB3 : Below a w w3 := hB.trans (hb3.mono hsB)
      have hs3 := hB3.size
      rw [HA.out] at hs3
      obtain ⟨ms, hms⟩ : ∃ ms, encs (runesI P) = ms := ⟨_, rfl⟩
      rw [hms] at HL hml
      rw [hms]
      have hsz := byteArr_size ms
      have hSi : ScAt (w3.iter ⟨ms.toArray⟩ 0) a (run s0 R0 : Nat) (encs (sayAll s0 R0)) := hS3.below ((Below.refl _ w3).alloc (Nat.le_refl _) _)
      have ha3 := hS3.lt
      have h9b : decide (run s0 R0 = 9) = false := decide_eq_false h9
      have HS0 : Hid (start kind = s0) := hs0
      clear hS3 hms hs0 hR hR0 HM HU hb3 hsl
      go_loopw [12] (fun c wi => ∃ (j : Nat) (pre : List Int), j ≤ ms.length ∧ pre.length ≤ j ∧ wi.heap[w3.heap.size]? = some (.stringIter ⟨ms.toArray⟩ j) ∧ c = .bool (decide (run s0 (R0 ++ pre) = 9)) ∧ Hid (runesI ms = pre ++ rI ms j ∧ (pcsF ms.length j (ms.drop j)).all Pc.ok = true) ∧ Hid (ScAt wi a (run s0 (R0 ++ pre) : Nat) (encs (sayAll s0 (R0 ++ pre)))) ∧ Below a w wi ∧ w3.heap.size < wi.heap.size) (fun _ wi => ms.length - wi.iterPos w3.heap.size)
      case atStart => exact ⟨0, [], by omega, by simp, World.iter_heap _ _ _, by rw [List.append_nil, h9b], ⟨by rw [rI_drop, List.drop_zero]; rfl, HL.out.2⟩, by show ScAt _ _ _ _; rw [List.append_nil]; exact hSi, hB3.alloc hs3 _, by simp [World.iter]⟩
      case round =>
        obtain ⟨j, pre, hj, hpj, hit, rfl, hH, hSc, hBi, hzi⟩ := hrel
        by_cases hjl : j < ms.length
        · have hd0 : 0 < (ms.drop j).length := by simp; omega
          have hst := pcs_step ms j hjl
          have hal := hH.out.2
          rw [hst, List.all_cons, Bool.and_eq_true] at hal
          have hna : nextAll (ms.drop j) = true := hal.1
          have hri : rI ms j = (runeOf (ms.drop j) : Int) :: rI ms (j + nextN (ms.drop j)) := by unfold rI; rw [hst]; simp [nextR, hna]
          have hdec : Utf8.decode ⟨ms.toArray⟩ j = (runeOf (ms.drop j), nextN (ms.drop j)) := by rw [decode_drop]; exact decode_right _ hd0 hna
          have hnx : ∀ ty, (Instr.next (.pointer (some ⟨w3.heap.size, 0, none⟩)) true ty).run Tryd.prog wr = _ := fun ty => Lib.run_next_any_at wr w3.heap.size ⟨ms.toArray⟩ j ty hit (by rw [hsz]; exact hjl)
          rw [hdec] at hnx
          simp only at hnx
          have hp1 := nextN_pos (ms.drop j)
          have hp2 := nextN_len (ms.drop j) hd0
          simp only [List.length_drop] at hp2
          have hvd := rune_valid (ms.drop j) hd0 hna
          have HH2 : Hid (runesI ms = (pre ++ [(runeOf (ms.drop j) : Int)]) ++ rI ms (j + nextN (ms.drop j)) ∧ (pcsF ms.length (j + nextN (ms.drop j)) (ms.drop (j + nextN (ms.drop j)))).all Pc.ok = true) := ⟨by rw [hH.out.1, hri]; simp, hal.2⟩
          have h9p : run s0 (R0 ++ pre) ≠ 9 := HP2.out.1 pre (rI ms j) (by rw [← HL.out.1]; exact hH.out.1) (by rw [hri]; simp)
          have HIT : Hid (wr.heap[w3.heap.size]? = some (.stringIter ⟨ms.toArray⟩ j)) := hit
          have hScX := ScAt.iter hit hSc.out (j + nextN (ms.drop j))
          have hitX := Lib.iterAt_heap wr w3.heap.size ⟨ms.toArray⟩ j (j + nextN (ms.drop j)) hit
          have hgX := iterAt_grown wr w3.heap.size ⟨ms.toArray⟩ (j + nextN (ms.drop j))
          obtain ⟨X, hX⟩ : ∃ X, wr.iterAt w3.heap.size ⟨ms.toArray⟩ (j + nextN (ms.drop j)) = X := ⟨_, rfl⟩
          rw [hX] at hnx hScX hitX hgX
          have hBX : Below a w X := hBi.grown hgX (by have := hBi.size; omega) (fun g hg => by cases hg; omega)
          have HITX : Hid (X.heap[w3.heap.size]? = some (.stringIter ⟨ms.toArray⟩ (j + nextN (ms.drop j)))) := hitX
          have hzX := hgX.size
          clear hst hal hna hri hdec hX hit hH hSc hitX hgX
          generalize hz : (runeOf (ms.drop j) : Int) = z at *
          generalize nextN (ms.drop j) = n at *
          obtain ⟨v0, v1, v2⟩ := (valid_iff z).1 hvd
          have hcl : (encs (sayAll s0 (R0 ++ pre))).length ≤ 16 * (R0.length + pre.length) := by
            have h1 := encs_length (sayAll s0 (R0 ++ pre))
            have h2 := sayAll_len (R0 ++ pre) s0
            rw [List.length_append] at h2
            omega
          have HPUT : Hid (Calls Tryd.prog 14 #[.pointer (some ⟨a, 0, none⟩), .int .i32 z] X fun e W' => e = .returned (.tuple #[.bool (decide (run s0 (R0 ++ (pre ++ [z])) = 9)), .int .i64 0]) ∧ ScAt W' a (run s0 (R0 ++ (pre ++ [z])) : Nat) (encs (sayAll s0 (R0 ++ (pre ++ [z])))) ∧ Below a X W' ∧ Kept a X W') := by
            have h := put_calls a (run s0 (R0 ++ pre)) _ z X (run_isQ _ _ HQ.out) h9p hScX (by omega) (by omega)
            rw [← run_snoc, ← encs_app, ← sayAll_snoc, List.append_assoc] at h
            exact h
          clear hz hvd v2 hScX h9p hcl
          go_wp2_with (go_at_call 14; refine HPUT.out.mono ?_; rintro e w4 ⟨rfl, hS4, hB4, hK4⟩)
          have hz4 := hB4.size
          have hit4 := hK4 _ _ HITX.out (fun e => by cases e; omega) (fun c fz e => by cases e)
          go_roundw
          case rel => exact ⟨j + n, pre ++ [z], by omega, by simp; omega, hit4, rfl, HH2.out, hS4, hBX.trans hB4, by omega⟩
          case measure => rw [iterPos_of hit4, iterPos_of HIT.out]; omega
        · obtain rfl : j = ms.length := by omega
          have hnx : ∀ ty, (Instr.next (.pointer (some ⟨w3.heap.size, 0, none⟩)) true ty).run Tryd.prog wr = _ := fun ty => Lib.run_next_end_at wr w3.heap.size ⟨ms.toArray⟩ ms.length ty hit (by rw [hsz]; exact hjl)
          have hpre : pre = runesI P := by
            have := hH.out.1
            rw [HL.out.1, rI_drop, List.drop_length, show runesI [] = [] from rfl, List.append_nil] at this
            exact this.symm
          subst hpre
          have HRP : Hid (R0 ++ runesI P = runesI (bs.take (k + P.length))) := HP2.out.2.symm
          rw [HRP.out] at hSc
          rw [HRP.out]
          clear hH
          by_cases hc : run s0 (runesI (bs.take (k + P.length))) = 9
          · have hcb : decide (run s0 (runesI (bs.take (k + P.length))) = 9) = true := decide_eq_true hc
            obtain ⟨r1, r2, r3⟩ := HP.out.2.2.2.2 (by rw [HS0.out]; exact hc)
            have HV : Hid (wV kind bs = .tuple #[.string ⟨(encs (sayAll s0 (runesI (bs.take (k + P.length))))).toArray⟩, .int .i64 (k + P.length : Nat), .bool true, .int .i64 0]) := by
              show wV kind bs = _
              unfold wV
              rw [r1, r2, ← r3, HS0.out]
            rw [hcb]
            clear r1 r2 r3 hc
            go_wp2_with (go_at_call 16; refine (text_of a _ _ _ hSc.out).mono ?_; rintro e w5 ⟨rfl, hw5⟩; obtain rfl : wr = w5 := hw5.symm)
            (try simp only [Exit.inBlock, Exit.then])
            refine bodyPost_ret (results_tmp4 rfl _ _ _) rfl ?_
            exact ⟨ret_is (by rw [HV.out]; simp), hBi⟩
          · have hcb : decide (run s0 (runesI (bs.take (k + P.length))) = 9) = false := decide_eq_false hc
            rw [hcb]
            go_wp2
            go_roundw
            case rel => exact ⟨k + P.length, by omega, by go_num, ⟨HP.out.2.2.2.1, by rw [HS0.out]; exact hc, by rw [HS0.out]; exact hSc.out⟩, hBi⟩
            case measure => simp [intOf]; omega
    · obtain rfl : k = bs.length := by omega
      have hRo := hR.out.2
      rw [List.take_length] at hRo
      obtain ⟨r1, r2, r3⟩ := whole_open kind h0 h2 bs (by rw [run_bytes (start_isQ kind)]; exact hRo.1)
      have hS5 := hRo.2
      rw [r3] at hS5
      have HV : Hid (wV kind bs = .tuple #[.string ⟨(encs (runesI (wText kind bs))).toArray⟩, .int .i64 bs.length, .bool false, .int .i64 0]) := by
        show wV kind bs = _
        unfold wV
        rw [r1, r2]
      clear hR hRo r1 r2 r3
      go_wp2_with (go_at_call 16; refine (text_of a _ _ _ hS5).mono ?_; rintro e w5 ⟨rfl, hw5⟩; obtain rfl : wr = w5 := hw5.symm)
      (try simp only [Exit.inBlock, Exit.then])
      refine bodyPost_ret (results_tmp4 rfl _ _ _) rfl ?_
      exact ⟨ret_is (by rw [HV.out]; rfl), hB⟩
end Go.Proofs.YtckhnkkmcgbabaaDoor.K
