/- What is proved here: the statement RawPlain (a script without a comment's beginning ends at the first fitting end tag) holds where the text has no more than 2^20 bytes together with what else the row counts, with no other condition but what the card says of the listed tables. -/
import Derived.Test.YtmlklbbfmggbfaaDoorCards
import Derived.Test.YtmlklbbfmggbfaaDoorTie
import Derived.Test.YtmlklbbfmggbfaaDoorBun2
import Derived.Test.YtmlklbbfmggbfaaDoorBun10
import Derived.Test.YtmlklbbfmggbfaaDoorRPlainM
import Derived.Test.YtmlklbbfmggbfaaDoorRRMend
import Derived.ProofKit
import Derived.OpenShut
namespace Go.Proofs.YtmlklbbfmggbfaaDoor.RPlainL
open Go.ChangeShapes Go.WideShapes Go.ChangeAt Go.RowKit U N R

theorem slice_mid (bs : List UInt8) (a b : Nat) (A B : Int) (hA : A = a) (hB : B = b) (h : a ≤ b) (hb : b ≤ bs.length) (w : World) : (Instr.slice 9 (.string ⟨bs.toArray⟩) (some (.int .i64 A)) (some (.int .i64 B)) none).run Tryd.prog w = .ok (.string ⟨((bs.drop a).take (b - a)).toArray⟩) w := by
  subst hA hB
  rw [run_slice_string w 9 ⟨bs.toArray⟩ .i64 .i64 a b Tryd.underlying9 (by omega) (by omega) (by rw [byteArr_size]; omega)]
  simp only [Int.toNat_natCast, extract_mid]
theorem byte_eq (c : UInt8) (n : Nat) : ((c.toNat : Int) == (n : Int)) = decide (c.toNat = n) := by
  by_cases h : c.toNat = n
  · simp [h]
  · simp [h]; omega
set_option maxRecDepth 100000 in
set_option maxHeartbeats 4000000 in
theorem walk_on (w : World) (hT : Tb w) (hm : MaxOk w) (bs : List UInt8) (hb : bs.length ≤ 1048576) :
    Calls Tryd.prog 8 #[.string ⟨bs.toArray⟩] w fun e w' => e = .returned (.bool true) ∧ Below w.heap.size w w' := by
  have HL : Hid (∀ W, Below w.heap.size w W → Calls Tryd.prog 10 #[] W fun e w' => e = .returned (.bool true) ∧ Below W.heap.size W w') := fun W h => awake_calls W (tabs_below hT h) (max_below hm h)
  have hws : whZ script ≠ 0 := by decide +kernel
  have HW : Hid (∀ W, Below w.heap.size w W → Calls Tryd.prog 13 #[.string ⟨#[115, 99, 114, 105, 112, 116]⟩, .string ⟨bs.toArray⟩] W (WEnd W script bs)) := fun W h => whole_calls script hws bs W (by omega) (tabs_below hT h) (max_below hm h)
  have HWE : Hid (∀ W e W', WEnd W script bs e W' → ∃ t n ok, e = .returned (.tuple #[.string ⟨List.toArray t⟩, .int .i64 (n : Nat), .bool ok, .int .i64 0]) ∧ WholeIs scZ 3 bs t n ok ∧ Below W.heap.size W W') := fun W e W' h => by
    have e1 : p0 script = 3 := by decide +kernel
    obtain ⟨t, n, ok, h1, h2, h3⟩ := h
    rw [e1] at h2
    exact ⟨t, n, ok, h1, h2, h3⟩
  have sb := arr_size bs
  clear hT hm hws
  go_enter Tryd.func8, Tryd.ntmps8
  go_wp2_with fail
  go_loopw [] (fun wi => ∃ q : Nat, q ≤ bs.length ∧ wi.heap[w.heap.size]? = some (.stringIter ⟨bs.toArray⟩ q) ∧ Hid (∀ i, i < q → (bs.drop i).take 4 ≠ [60, 33, 45, 45]) ∧ Below w.heap.size w wi ∧ w.heap.size < wi.heap.size) (fun wi => bs.length - wi.iterPos w.heap.size)
  case atStart => exact ⟨0, by omega, World.iter_heap _ _ _, fun i hi => by omega, (Below.refl _ w).alloc (Nat.le_refl _) _, by simp [World.iter]⟩
  case round =>
    obtain ⟨q, hq, hit, hH, hBi, hzi⟩ := hrel
    by_cases hql : q < bs.length
    · obtain ⟨r, wd, hdec, hw1, hw2, hsk⟩ := dec_skip bs q hql
      have hnx : ∀ ty, (Instr.next (.pointer (some ⟨w.heap.size, 0, none⟩)) true ty).run Tryd.prog wr = _ := fun ty => Lib.run_next_any_at wr w.heap.size ⟨bs.toArray⟩ q ty hit (by rw [sb]; exact hql)
      rw [hdec] at hnx
      simp only at hnx
      have HIT := hid_of hit
      have hitX := Lib.iterAt_heap wr w.heap.size ⟨bs.toArray⟩ q (q + wd) hit
      have hgX := iterAt_grown wr w.heap.size ⟨bs.toArray⟩ (q + wd)
      obtain ⟨X, hX⟩ : ∃ X, wr.iterAt w.heap.size ⟨bs.toArray⟩ (q + wd) = X := ⟨_, rfl⟩
      rw [hX] at hnx hitX hgX
      have hBX : Below w.heap.size w X := hBi.grown hgX hBi.size (fun b hb => by cases hb; omega)
      have HITX := hid_of hitX
      have hzX := hgX.size
      have HSK := hid_of hsk
      have hws : IntKind.i64.wrap ((bs.length : Int) - (q : Int)) = (bs.length : Int) - (q : Int) := by rw [IntKind.wrap_i64]; omega
      have hw4 : IntKind.i64.wrap ((q : Int) + 4) = (q : Int) + 4 := by rw [IntKind.wrap_i64]; omega
      clear hdec hsk hit hitX hgX hX
      by_cases h4 : q + 4 ≤ bs.length
      · have hd4 : decide ((bs.length : Int) - (q : Int) ≥ 4) = true := by simp; omega
        have hsl := slice_mid bs q (q + 4) (q : Int) ((q : Int) + 4) rfl (by omega) (by omega) h4
        rw [show q + 4 - q = 4 by omega] at hsl
        have HH := hid_of hH.out
        obtain ⟨V, hV⟩ : ∃ V, (bs.drop q).take 4 = V := ⟨_, rfl⟩
        rw [hV] at hsl
        by_cases hv : V = [60, 33, 45, 45]
        · subst hv
          go_wp2_with fail
          (go_at_call 10; refine (HL.out _ hBX).mono ?_; rintro e w9 ⟨rfl, hb9⟩)
          go_wp2_with fail
          go_ret
          exact ⟨rfl, hBX.trans (hb9.mono hBX.size)⟩
        · have hvb : (V == [60, 33, 45, 45]) = false := by simpa using hv
          have HH2 : Hid (∀ i, i < q + wd → (bs.drop i).take 4 ≠ [60, 33, 45, 45]) := fun i hi => by
            rcases Nat.lt_trichotomy i q with h | h | h
            · exact HH.out i h
            · rw [h, hV]; exact hv
            · exact HSK.out i h hi
          clear hH hv hV HH
          go_wp2_with fail
          go_roundw
          case rel => exact ⟨q + wd, by omega, HITX.out, HH2.out, hBX, by omega⟩
          case measure => rw [iterPos_of HITX.out, iterPos_of HIT.out]; omega
      · have hd4 : decide ((bs.length : Int) - (q : Int) ≥ 4) = false := by simp; omega
        have HH2 : Hid (∀ i, i < q + wd → (bs.drop i).take 4 ≠ [60, 33, 45, 45]) := fun i hi => by
          rcases Nat.lt_trichotomy i q with h | h | h
          · exact hH.out i h
          · intro e
            have := congrArg List.length e
            simp at this
            omega
          · exact HSK.out i h hi
        clear hH
        go_wp2_with fail
        go_roundw
        case rel => exact ⟨q + wd, by omega, HITX.out, HH2.out, hBX, by omega⟩
        case measure => rw [iterPos_of HITX.out, iterPos_of HIT.out]; omega
    · obtain rfl : q = bs.length := by omega
      have hnx : ∀ ty, (Instr.next (.pointer (some ⟨w.heap.size, 0, none⟩)) true ty).run Tryd.prog wr = _ := fun ty => Lib.run_next_end_at wr w.heap.size ⟨bs.toArray⟩ bs.length ty hit (by rw [sb]; exact hql)
      have HNB : Hid (∀ i, (bs.drop i).take 4 ≠ [60, 33, 45, 45]) := fun i => by
        by_cases h : i < bs.length
        · exact hH.out i h
        · intro e
          rw [List.drop_eq_nil_of_le (by omega)] at e
          simp at e
      clear hH hit
      go_wp2_with fail
      go_at_call 13
      refine (HW.out _ hBi).mono ?_
      intro e w2 hne
      obtain ⟨t, n, ok, rfl, hW, hb2'⟩ := HWE.out _ e w2 hne
      have hb2 := hBi.trans (hb2'.mono hBi.size)
      have HPR := hid_of (plain_right bs t n ok hW HNB.out)
      clear hne hW hb2' HW HWE
      go_wp2_with fail
      (go_at_call 9; refine (num_calls 0 _ (by decide) (by decide)).mono ?_; rintro e w3 ⟨rfl, h2⟩; obtain rfl : w2 = w3 := h2.symm)
      go_wp2_with fail
      (go_at_call 28; refine (lower_calls ⟨bs.toArray⟩ _ (by omega)).mono ?_; rintro e w3 ⟨rfl, hb3'⟩)
      have hb3 := hb2.trans (hb3'.mono hb2.size)
      have hll : (lower bs).length = bs.length := lower_length bs
      obtain ⟨low, hlow⟩ : ∃ low, lower bs = low := ⟨_, rfl⟩
      have ed : (⟨bs.toArray⟩ : ByteArray).data.toList = bs := by simp
      rw [ed, hlow]
      rw [hlow] at HPR hll
      have sl := arr_size low
      clear ed hlow hb3' hnx
      go_wp2_with fail
      go_loopw [9, 10] (fun x y wr => ∃ i : Nat, y = .int .i64 i ∧ i ≤ 2000000 ∧ ((x = .int .i64 (-1) ∧ Hid (∀ j, j < i → ¬ GAt low j)) ∨ ∃ a : Nat, x = .int .i64 a ∧ a + 9 ≤ bs.length ∧ Hid (GAt low a ∧ ∀ j, j < a → ¬ GAt low j)) ∧ Below w.heap.size w wr) (fun x y _ => 2000000 - (intOf y).toNat)
      case atStart => exact ⟨0, rfl, by omega, .inl ⟨rfl, fun j hj => by omega⟩, hb3⟩
      case round =>
        obtain ⟨i, rfl, hi2, hx, hB⟩ := hrel
        have hw8 : IntKind.i64.wrap ((i : Int) + 8) = (i : Int) + 8 := by rw [IntKind.wrap_i64]; omega
        have hw9 : IntKind.i64.wrap ((i : Int) + 9) = (i : Int) + 9 := by rw [IntKind.wrap_i64]; omega
        have hw1 : IntKind.i64.wrap ((i : Int) + 1) = (i : Int) + 1 := by rw [IntKind.wrap_i64]; omega
        rcases hx with ⟨rfl, hinv⟩ | ⟨a, rfl, ha9, hga⟩
        · by_cases h9 : i + 9 ≤ bs.length
          · have hd9 : decide ((i : Int) + 9 ≤ (bs.length : Int)) = true := by simp; omega
            obtain ⟨c, hc⟩ : ∃ c, low.getD (i + 8) 0 = c := ⟨_, rfl⟩
            have hrb : ∀ W, (Instr.index 9 (.string ⟨low.toArray⟩) (.int .i64 ((i : Int) + 8))).run Tryd.prog W = .ok (.int .u8 (c.toNat : Int)) W := fun W => run_byte W 9 ⟨low.toArray⟩ .i64 _ (i + 8) c Tryd.underlying9 (by omega) (by rw [arr_size, hll]; omega) hc
            have hsl := slice_mid low i (i + 8) (i : Int) ((i : Int) + 8) rfl (by omega) (by omega) (by rw [hll]; omega)
            rw [show i + 8 - i = 8 by omega] at hsl
            obtain ⟨V, hV⟩ : ∃ V, (low.drop i).take 8 = V := ⟨_, rfl⟩
            rw [hV] at hsl
            have HG : Hid (GAt low i ↔ V = [60, 47, 115, 99, 114, 105, 112, 116] ∧ stopB c = true) := by
              show GAt low i ↔ _
              unfold GAt
              rw [hV, hc, hll]
              exact ⟨fun h => h.2, fun h => ⟨h9, h⟩⟩
            have HINV := hid_of hinv.out
            have HNX : Hid (¬ GAt low i → ∀ j, j < i + 1 → ¬ GAt low j) := fun hn j hj => by
              by_cases h : j = i
              · rw [h]; exact hn
              · exact HINV.out j (by omega)
            clear hinv hc hV
            by_cases hv : V = [60, 47, 115, 99, 114, 105, 112, 116]
            · cases hs : stopB c with
              | true =>
                have HGI : Hid (GAt low i) := HG.out.2 ⟨hv, hs⟩
                have hz : (c.toNat : Int) = 9 ∨ (c.toNat : Int) = 10 ∨ (c.toNat : Int) = 12 ∨ (c.toNat : Int) = 32 ∨ (c.toNat : Int) = 47 ∨ (c.toNat : Int) = 62 := by
                  unfold stopB stopZ blankZ at hs
                  simp only [Bool.or_eq_true, decide_eq_true_eq, beq_iff_eq] at hs
                  omega
                subst hv
                clear HG HNX hs
                generalize (c.toNat : Int) = z at *
                rcases hz with rfl | rfl | rfl | rfl | rfl | rfl
                all_goals
                  go_wp2_with fail
                  go_roundw
                  case rel => exact ⟨i + 1, by go_num, by omega, .inr ⟨i, rfl, h9, ⟨HGI.out, HINV.out⟩⟩, hB⟩
                  case measure => simp [intOf]; omega
              | false =>
                have HGI := hid_of (HNX.out (fun h => by have := (HG.out.1 h).2; rw [hs] at this; cases this))
                have hz : ((c.toNat : Int) == 9) = false ∧ ((c.toNat : Int) == 10) = false ∧ ((c.toNat : Int) == 12) = false ∧ ((c.toNat : Int) == 32) = false ∧ ((c.toNat : Int) == 47) = false ∧ ((c.toNat : Int) == 62) = false := by
                  unfold stopB stopZ blankZ at hs
                  simp only [Bool.or_eq_false_iff, decide_eq_false_iff_not, beq_eq_false_iff_ne] at hs ⊢
                  omega
                subst hv
                clear HG HNX hs HINV
                generalize (c.toNat : Int) = z at *
                obtain ⟨z1, z2, z3, z4, z5, z6⟩ := hz
                go_wp2_with fail
                go_roundw
                case rel => exact ⟨i + 1, by go_num, by omega, .inl ⟨rfl, HGI.out⟩, hB⟩
                case measure => simp [intOf]; omega
            · have HGI := hid_of (HNX.out (fun h => hv (HG.out.1 h).1))
              have hvb : (V == [60, 47, 115, 99, 114, 105, 112, 116]) = false := by simpa using hv
              clear HG HNX hv HINV
              generalize (c.toNat : Int) = z at *
              go_wp2_with fail
              go_roundw
              case rel => exact ⟨i + 1, by go_num, by omega, .inl ⟨rfl, HGI.out⟩, hB⟩
              case measure => simp [intOf]; omega
          · have hd9 : decide ((i : Int) + 9 ≤ (bs.length : Int)) = false := by simp; omega
            obtain ⟨rfl, rfl, rfl⟩ := HPR.out.1 (fun j => by
              by_cases hj : j < i
              · exact hinv.out j hj
              · rintro ⟨h1, _⟩; omega)
            clear HPR hinv
            go_wp2_with fail
            (go_at_call 29; refine (rmend_calls bs _ (by omega)).mono ?_; rintro e w5 ⟨rfl, hb5'⟩)
            have hb5 := hB.trans (hb5'.mono hB.size)
            go_wp2_with fail
            (go_at_call 10; refine (HL.out _ hb5).mono ?_; rintro e w9 ⟨rfl, hb9⟩)
            go_wp2_with fail
            go_ret
            exact ⟨rfl, hb5.trans (hb9.mono hb5.size)⟩
        · obtain ⟨rfl, rfl, rfl⟩ := HPR.out.2 a hga.out.1 hga.out.2
          have hwa : IntKind.i64.wrap ((a : Int) + 9) = (a : Int) + 9 := by rw [IntKind.wrap_i64]; omega
          have hsa := slice_h bs a (by omega) (a : Int) rfl
          have ha0 : decide ((a : Int) < 0) = false := by simp
          clear HPR hga
          by_cases h9 : i + 9 ≤ bs.length
          · have hd9 : decide ((i : Int) + 9 ≤ (bs.length : Int)) = true := by simp; omega
            go_wp2_with fail
            (go_at_call 29; refine (rmend_calls (bs.take a) _ (by simp; omega)).mono ?_; rintro e w5 ⟨rfl, hb5'⟩)
            have hb5 := hB.trans (hb5'.mono hB.size)
            go_wp2_with fail
            (go_at_call 10; refine (HL.out _ hb5).mono ?_; rintro e w9 ⟨rfl, hb9⟩)
            go_wp2_with fail
            go_ret
            exact ⟨rfl, hb5.trans (hb9.mono hb5.size)⟩
          · have hd9 : decide ((i : Int) + 9 ≤ (bs.length : Int)) = false := by simp; omega
            go_wp2_with fail
            (go_at_call 29; refine (rmend_calls (bs.take a) _ (by simp; omega)).mono ?_; rintro e w5 ⟨rfl, hb5'⟩)
            have hb5 := hB.trans (hb5'.mono hB.size)
            go_wp2_with fail
            (go_at_call 10; refine (HL.out _ hb5).mono ?_; rintro e w9 ⟨rfl, hb9⟩)
            go_wp2_with fail
            go_ret
            exact ⟨rfl, hb5.trans (hb9.mono hb5.size)⟩
theorem walk (w : World) (hT : Tb w) (hm : MaxOk w) (s : ByteArray) (_hs0 : s.size ≤ 9223372036854775807) (hs : s.size ≤ 1048576) :
    Calls Tryd.prog 8 #[.string s] w fun e w' => e = .returned (.bool true) ∧ Below w.heap.size w w' := by
  have hl : s.data.toList.length ≤ 1048576 := by rw [size_data]; exact hs
  rw [← arr_eta s]
  exact walk_on w hT hm _ hl

set_option maxRecDepth 100000 in
theorem contract (H : Type) (enc : TypeId × Value → H) (W : World) (base : Nat) (args : Array Value) (ds gs : List (DataW H)) (before : List MemPlace)
    (hval : ∀ (j : Nat) t v, Tryd.f8.params[j]? = some t → args[j]? = some v → Value.okWide Tryd.prog W .any base t v)
    (hW : DataW.Whole enc Tryd.prog Tryd.f8.params.toList Rows.rawPlainSpec.vars false W args.toList ds gs before) (hL : laidMetH Tryd.prog Rows.rawPlainUptoRow.laid W)(hsh : W.ShapedOpen Tryd.prog) (hk : Rows.uptoSmall H (ds ++ gs) = true) :
    Calls Tryd.prog 8 args W fun e W' => ∃ v, e = .returned v ∧ Rows.rawPlainSpec.post enc Tryd.prog Tryd.f8 false true false false W args v W' := by
  have hW' := hW
  have hlt := hW.lt
  obtain ⟨p, q, hA0, hV, rfl, hfz, hnd⟩ := hW
  have hA : DataW.TrodAll enc Tryd.prog W 0 (fun _ => true) true Tryd.f8.params.toList args.toList ds p := hA0
  rw [Tryd.params8] at hA hval
  obtain ⟨v0, vs0, d0, ds0, p0, q0, hargs, rfl, rfl, h0, r0⟩ := trodAll_cons hA
  obtain ⟨rfl, rfl, rfl⟩ := trodAll_nil r0
  obtain rfl : args = #[v0] := by cases args; simp_all
  obtain ⟨rfl, rfl⟩ := trodVars_none hV
  clear hA0
  simp only [List.append_nil] at hW' hlt hk
  have hbulk := of_decide_eq_true hk
  simp only [Rows.uptoBulkAll] at hbulk
  have h0' := h0
  obtain ⟨s0, rfl, rfl, e0, ws0⟩ := Go.ChangeMaps.open_string Tryd.underlying9 (hval 0 9 v0 rfl rfl) h0
  refine (walk W (tabs_of_laid hL) (Tryd.laysM144.s1_3 W hsh) s0 ws0 (by simp only [R.bulk_str, N.size_data] at hbulk; omega)).mono fun e W' ⟨he, hb⟩ => ?_
  subst he
  exact ⟨_, rfl, post_below hW' (fun _ _ _ => trodAll_cons_mk (shut_bool Tryd.underlying4 _) trodAll_mk0) (trodAll_cons_mk (stays (by kernel_rfl) (of_decide_eq_true (by kernel_rfl)) h0' hb (fun x hx => hlt x (by simp [hx]))) trodAll_mk0) rfl hb⟩

set_option maxRecDepth 100000 in
theorem laid_met (os : Os) : laidMet Tryd.prog Rows.rawPlainUptoRow.laid ((withTabs (World.holding Tryd.prog os ⟨#[], #[], []⟩)).forCall (fun _ _ => 0) ⟨#[], #[Value.string ⟨#[]⟩], []⟩).memory :=
  laidMet_of_run' 8 (by kernel_rfl) (by kernel_rfl)
set_option maxRecDepth 100000 in
theorem reads (os : Os) {H : Type} (enc : TypeId × Value → H) : ∃ places, DataW.whole enc Tryd.prog ((withTabs (World.holding Tryd.prog os ⟨#[], #[], []⟩)).forCall (fun _ _ => 0) ⟨#[], #[Value.string ⟨#[]⟩], []⟩).memory Tryd.f8.params.toList Rows.rawPlainSpec.vars false #[Value.string ⟨#[]⟩].toList 8 = some ([.lit (.string [])], [], places) :=
  ⟨[], by kernel_rfl⟩

set_option maxRecDepth 100000 in
theorem lifted (os : Os) (started : os.Started) (H : Type) (enc : TypeId × Value → H) (F : Stop.Interp) :
    ReturnsInHanded {} Tryd.checked os 8 .any ((Rows.OpenSpec.upto Rows.rawPlainSpec).preRow enc Tryd.prog Tryd.f8 Rows.rawPlainUptoRow.domain false Rows.rawPlainUptoRow.laid) (((Rows.OpenSpec.upto Rows.rawPlainSpec).at F).post enc Tryd.prog Tryd.f8 false true false false) := by
  obtain ⟨places, hx⟩ := reads os enc
  refine returnsInHanded_of_row (C := Tryd.checked) (s := Rows.OpenSpec.upto Rows.rawPlainSpec) own started (by kernel_rfl) Tryd.func8
    (witness_row_at (enc := enc) (C := Tryd.checked) false (withTabs (World.holding Tryd.prog os ⟨#[], #[], []⟩)) #[Value.string ⟨#[]⟩] rfl (by kernel_rfl) (by kernel_rfl) (by kernel_rfl)
      (OpenSpec.preRow_of_cond 8 hx (by kernel_rfl) (fun k hk => by cases hk; kernel_rfl) (by kernel_rfl) (laid_met os))) ?_
  intro W base args ds gs before hval hW _ hcond _ hL hsh _
  exact contract H enc W base args ds gs before hval hW hL hsh (hcond _ rfl)

set_option maxRecDepth 100000 in
theorem said : Rows.RawPlainUptoSaid :=
  OpenClaim.holds_of_cond 8 Tryd.f8 rfl rfl rfl rfl rfl rfl rfl ⟨rfl, rfl, rfl, rfl, rfl⟩ rfl rfl rfl rfl rfl (by kernel_rfl) Tryd.func8 (by kernel_rfl)
    (of_decide_eq_true (by kernel_rfl)) (by unfold Func.isWrapper; first | (rw [if_pos (by decide +kernel)]; kernel_rfl) | (rw [if_neg (by decide +kernel)]; exact ⟨rfl, rfl⟩))
    (fun os started H enc _ F => by rw [OpenClaim.pre_eq_preRow]; exact lifted os started H enc F)

theorem plain (f : FuncId) (fn : Func) (hf : Tryd.pinned.checked.prog.funcNamed "sieve/sievelaw10.RawPlain" = some f) (hfn : Tryd.pinned.checked.prog.funcs[f]? = some fn) :
    false = Tryd.pinned.checked.prog.looks [] ∧ ∀ (j : Nat) t, fn.params[j]? = some t → Tryd.pinned.checked.prog.wantsStandIn t = false := by
  obtain rfl : f = 8 := Option.some.inj ((show Tryd.prog.funcNamed "sieve/sievelaw10.RawPlain" = some 8 by kernel_rfl).symm.trans hf) |>.symm
  obtain rfl : fn = Tryd.f8 := (Option.some.inj (Tryd.func8.symm.trans hfn)).symm
  refine ⟨by kernel_rfl, fun j t ht => ?_⟩
  rw [Tryd.params8] at ht
  have hm := Array.mem_of_getElem? ht
  simp only [List.mem_toArray, List.mem_cons, List.not_mem_nil, or_false] at hm
  subst hm
  · exact (show Tryd.prog.wantsStandIn 9 = false by kernel_rfl)

theorem card : Rows.RawPlainUptoCardSaid :=
  Claim7.holds_tied_plain_at .later [] _ _ _ _ said (fun _ h => by cases h) (by kernel_rfl) (fun _ h => by cases h) rawPlainUpto_row_tie rfl ⟨rfl, rfl⟩ (by kernel_rfl) rfl plain (by kernel_rfl)

end Go.Proofs.YtmlklbbfmggbfaaDoor.RPlainL
