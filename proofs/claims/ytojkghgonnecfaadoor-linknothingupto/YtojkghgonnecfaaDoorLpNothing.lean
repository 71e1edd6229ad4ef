/- What is proved here: the statement LinkNothing (escaping hides nothing; what is escaped is ASCII without blanks) holds for texts up to the size that the statement's narrower form names, with no other condition but what the card says of the listed tables. -/
import Derived.Test.YtojkghgonnecfaaDoorCards
import Derived.Test.YtojkghgonnecfaaDoorTie
import Derived.Test.YtojkghgonnecfaaDoorOpen
import Derived.Test.YtojkghgonnecfaaDoorLpAwake
import Derived.Test.YtojkghgonnecfaaDoorLpDec
import Derived.ProofKit
import Derived.OpenShut
namespace Go.Proofs.YtojkghgonnecfaaDoor.LpNothing
open Go.ChangeShapes Go.WideShapes Go.ChangeAt Go.RowKit U N L

theorem ascii_encs : ∀ (l : List UInt8), (∀ c ∈ l, c.toNat < 128) → encs (l.map fun c => (c.toNat : Int)) = l
  | [], _ => rfl
  | c :: t, h => by
    rw [List.map_cons, encs_cons, ascii_encs t (fun d hd => h d (by simp [hd])), enc_one (by omega) (by have := h c (by simp); omega)]
    simp
theorem mend_encs (zs : List Int) : mendL (encs zs) = encs zs := by
  unfold mendL
  rw [(runesI_encs zs).1, encs_mendR]
theorem mend_ascii (l : List UInt8) (h : ∀ c ∈ l, c.toNat < 128) : mendL l = l := by
  rw [← ascii_encs l h, mend_encs]
theorem ascii_open {c : UInt8} (h : asciiC c = true) : 32 < c.toNat ∧ c.toNat < 127 ∧ (c == 34) = false ∧ (c == 60) = false ∧ (c == 62) = false := by
  unfold asciiC at h
  simp only [Bool.and_eq_true, decide_eq_true_eq] at h
  obtain ⟨⟨h1, h2⟩, h3⟩ := h
  have key : ∀ m ∈ marks, (c == m) = false := fun m hm => by
    cases e : (c == m) with
    | false => rfl
    | true =>
      have : c = m := by simpa using e
      subst this
      have : marks.contains c = true := by simpa using hm
      rw [this] at h3
      simp at h3
  exact ⟨h1, h2, key 34 (by decide), key 60 (by decide), key 62 (by decide)⟩
theorem dec_same (bs : List UInt8) : decL (encodeM (mendL bs)) = decL bs := by
  unfold decL
  rw [encodeM_eq, mend_ascii (encS (mendL bs)) (fun c hc => by have := (ascii_open (encS_ascii _ c hc)).2.1; omega), dec_enc_eq _ _ (Nat.le_refl _)]
set_option maxRecDepth 100000 in
set_option maxHeartbeats 4000000 in
theorem walk_on (w : World) (hT : Tb w) (bs : List UInt8) (hb : bs.length ≤ 1048576) : Calls Tryd.prog 7 #[.string ⟨bs.toArray⟩] w fun e w' => e = .returned (.bool true) ∧ Below w.heap.size w w' := by
  have HL : Hid (∀ W, Below w.heap.size w W → Calls Tryd.prog 9 #[] W fun e w' => e = .returned (.bool true) ∧ Below W.heap.size W w') := fun W h => awake_calls W (hT.below h)
  have HE := hid_of (encode_calls bs w hT (by omega))
  have hel := encodeM_le (mendL bs)
  have hml := mend_le bs
  have HD1 : Hid (∀ W, Below w.heap.size w W → Calls Tryd.prog 26 #[.string ⟨(encodeM (mendL bs)).toArray⟩] W fun e W' => e = .returned (.string ⟨(decL bs).toArray⟩) ∧ Below W.heap.size W W') := fun W h => by
    have := decode_calls (encodeM (mendL bs)) W (hT.below h) (by omega)
    rw [dec_same] at this
    exact this
  have HD2 : Hid (∀ W, Below w.heap.size w W → Calls Tryd.prog 26 #[.string ⟨bs.toArray⟩] W fun e W' => e = .returned (.string ⟨(decL bs).toArray⟩) ∧ Below W.heap.size W W') := fun W h => decode_calls bs W (hT.below h) (by omega)
  have HA : Hid (∀ k, k < (encodeM (mendL bs)).length → asciiC ((encodeM (mendL bs)).getD k 0) = true) := fun k hk => by
    have e : (encodeM (mendL bs)).getD k 0 = (encodeM (mendL bs))[k] := by simp [hk]
    rw [e]
    have hm := List.getElem_mem hk
    generalize (encodeM (mendL bs))[k] = d at hm
    rw [encodeM_eq] at hm
    exact encS_ascii _ _ hm
  obtain ⟨E, hE⟩ : ∃ E, encodeM (mendL bs) = E := ⟨_, rfl⟩
  rw [hE] at HE HD1 HA hel
  obtain ⟨D, hD⟩ : ∃ D, decL bs = D := ⟨_, rfl⟩
  rw [hD] at HD1 HD2
  have hEl : E.length ≤ 20000000 := by omega
  clear hE hel hml hT hD
  have sE := L.arr_size E
  go_enter Tryd.func7, Tryd.ntmps7
  go_wp2_with fail
  (go_at_call 24; refine HE.out.mono ?_; rintro e w1 ⟨rfl, hb1⟩)
  go_wp2_with fail
  go_loopw [9] (fun vi wr => ∃ k : Nat, k ≤ E.length ∧ vi = .int .i64 k ∧ wr = w1) (fun vi _ => E.length - (intOf vi).toNat)
  case atStart => exact ⟨0, by omega, rfl, by trivial⟩
  case round =>
    obtain ⟨k, hk, rfl, hwr⟩ := hrel
    obtain rfl : w1 = wr := hwr.symm
    clear hwr
    by_cases hlt : k < E.length
    · obtain ⟨c, hc⟩ : ∃ c, E.getD k 0 = c := ⟨_, rfl⟩
      have hix := L.byte_at E k c hlt hc (k : Int) rfl
      have ha := HA.out k hlt
      rw [hc] at ha
      obtain ⟨a1, a2, a3, a4, a5⟩ := ascii_open ha
      have d1 : decide ((c.toNat : Int) ≤ 32) = false := by simp; omega
      have d2 : decide ((c.toNat : Int) ≥ 127) = false := by simp; omega
      have e34 : ((c.toNat : Int) == 34) = false := by rw [← a3]; exact L.eq_byte c 34
      have e60 : ((c.toNat : Int) == 60) = false := by rw [← a4]; exact L.eq_byte c 60
      have e62 : ((c.toNat : Int) == 62) = false := by rw [← a5]; exact L.eq_byte c 62
      clear hc ha a3 a4 a5
      go_wp2
      exact ⟨⟨k + 1, by omega, by go_num, by trivial⟩, by simp [intOf]; omega⟩
    · obtain rfl : k = E.length := by omega
      go_wp2_with fail
      (go_at_call 26; refine (HD1.out _ hb1).mono ?_; rintro e w2 ⟨rfl, hb2⟩)
      have hb12 := hb1.trans (hb2.mono hb1.size)
      go_wp2_with fail
      (go_at_call 26; refine (HD2.out _ hb12).mono ?_; rintro e w3 ⟨rfl, hb3⟩)
      have hb13 := hb12.trans (hb3.mono hb12.size)
      go_wp2_with fail
      (go_at_call 9; refine (HL.out _ hb13).mono ?_; rintro e w4 ⟨rfl, hb4⟩)
      go_wp2_with fail
      go_ret
      exact ⟨rfl, hb13.trans (hb4.mono hb13.size)⟩
theorem walk (w : World) (hT : Tb w) (s : ByteArray) (_hs0 : s.size ≤ 9223372036854775807) (hs : s.size ≤ 1048576) :
    Calls Tryd.prog 7 #[.string s] w fun e w' => e = .returned (.bool true) ∧ Below w.heap.size w w' := by
  have h := walk_on w hT s.data.toList (by rw [N.size_data]; exact hs)
  rw [Lib.mk_data] at h
  exact h

set_option maxRecDepth 100000 in
theorem contract (H : Type) (enc : TypeId × Value → H) (W : World) (base : Nat) (args : Array Value) (ds gs : List (DataW H)) (before : List MemPlace)
    (hval : ∀ (j : Nat) t v, Tryd.f7.params[j]? = some t → args[j]? = some v → Value.okWide Tryd.prog W .any base t v)
    (hW : DataW.Whole enc Tryd.prog Tryd.f7.params.toList Rows.linkNothingSpec.vars false W args.toList ds gs before) (hL : laidMetH Tryd.prog Rows.linkNothingUptoRow.laid W) (hk : Rows.uptoSmall H (ds ++ gs) = true) :
    Calls Tryd.prog 7 args W fun e W' => ∃ v, e = .returned v ∧ Rows.linkNothingSpec.post enc Tryd.prog Tryd.f7 false true false false W args v W' := by
  have hW' := hW
  have hlt := hW.lt
  obtain ⟨p, q, hA0, hV, rfl, hfz, hnd⟩ := hW
  have hA : DataW.TrodAll enc Tryd.prog W 0 (fun _ => true) true Tryd.f7.params.toList args.toList ds p := hA0
  rw [Tryd.params7] at hA hval
  obtain ⟨v0, vs0, d0, ds0, p0, q0, hargs, rfl, rfl, h0, r0⟩ := trodAll_cons hA
  obtain ⟨rfl, rfl, rfl⟩ := trodAll_nil r0
  obtain rfl : args = #[v0] := by cases args; simp_all
  obtain ⟨rfl, rfl⟩ := trodVars_none hV
  clear hA0
  simp only [List.append_nil] at hW' hlt hk
  have hbulk := of_decide_eq_true hk
  simp only [Rows.uptoBulkAll] at hbulk
  have h0' := h0
  obtain ⟨s0, rfl, rfl, e0, ws0⟩ := Go.ChangeMaps.open_string Tryd.underlying9 (hval 0 9 v0 rfl rfl) h0
  refine (walk W (tabs_of_laid hL) s0 ws0 (by simp only [L.bulk_str, N.size_data] at hbulk; omega)).mono fun e W' ⟨he, hb⟩ => ?_
  subst he
  exact ⟨_, rfl, post_below hW' (fun _ _ _ => trodAll_cons_mk (shut_bool Tryd.underlying4 _) trodAll_mk0) (trodAll_cons_mk (stays (by kernel_rfl) (of_decide_eq_true (by kernel_rfl)) h0' hb (fun x hx => hlt x (by simp [hx]))) trodAll_mk0) rfl hb⟩

set_option maxRecDepth 100000 in
theorem laid_met (os : Os) : laidMet Tryd.prog Rows.linkNothingUptoRow.laid ((withTabs (World.holding Tryd.prog os ⟨#[], #[], []⟩)).forCall (fun _ _ => 0) ⟨#[], #[Value.string ⟨#[]⟩], []⟩).memory :=
  laidMet_of_run' 8 (by kernel_rfl) (by kernel_rfl)
set_option maxRecDepth 100000 in
theorem reads (os : Os) {H : Type} (enc : TypeId × Value → H) : ∃ places, DataW.whole enc Tryd.prog ((withTabs (World.holding Tryd.prog os ⟨#[], #[], []⟩)).forCall (fun _ _ => 0) ⟨#[], #[Value.string ⟨#[]⟩], []⟩).memory Tryd.f7.params.toList Rows.linkNothingSpec.vars false #[Value.string ⟨#[]⟩].toList 8 = some ([.lit (.string [])], [], places) :=
  ⟨[], by kernel_rfl⟩

set_option maxRecDepth 100000 in
theorem lifted (os : Os) (started : os.Started) (H : Type) (enc : TypeId × Value → H) (F : Stop.Interp) :
    ReturnsInHanded {} Tryd.checked os 7 .any ((Rows.OpenSpec.upto Rows.linkNothingSpec).preRow enc Tryd.prog Tryd.f7 Rows.linkNothingUptoRow.domain false Rows.linkNothingUptoRow.laid) (((Rows.OpenSpec.upto Rows.linkNothingSpec).at F).post enc Tryd.prog Tryd.f7 false true false false) := by
  obtain ⟨places, hx⟩ := reads os enc
  refine returnsInHanded_of_row (C := Tryd.checked) (s := Rows.OpenSpec.upto Rows.linkNothingSpec) own started (by kernel_rfl) Tryd.func7
    (witness_row_at (enc := enc) (C := Tryd.checked) false (withTabs (World.holding Tryd.prog os ⟨#[], #[], []⟩)) #[Value.string ⟨#[]⟩] rfl (by kernel_rfl) (by kernel_rfl) (by kernel_rfl)
      (OpenSpec.preRow_of_cond 8 hx (by kernel_rfl) (fun k hk => by cases hk; kernel_rfl) (by kernel_rfl) (laid_met os))) ?_
  intro W base args ds gs before hval hW _ hcond _ hL _ _
  exact contract H enc W base args ds gs before hval hW hL (hcond _ rfl)

set_option maxRecDepth 100000 in
theorem said : Rows.LinkNothingUptoSaid :=
  OpenClaim.holds_of_cond 7 Tryd.f7 rfl rfl rfl rfl rfl rfl rfl ⟨rfl, rfl, rfl, rfl, rfl⟩ rfl rfl rfl rfl rfl (by kernel_rfl) Tryd.func7 (by kernel_rfl)
    (of_decide_eq_true (by kernel_rfl)) (by unfold Func.isWrapper; first | (rw [if_pos (by decide +kernel)]; kernel_rfl) | (rw [if_neg (by decide +kernel)]; exact ⟨rfl, rfl⟩))
    (fun os started H enc _ F => by rw [OpenClaim.pre_eq_preRow]; exact lifted os started H enc F)

theorem plain (f : FuncId) (fn : Func) (hf : Tryd.pinned.checked.prog.funcNamed "sieve/sievelaw12.LinkNothing" = some f) (hfn : Tryd.pinned.checked.prog.funcs[f]? = some fn) :
    false = Tryd.pinned.checked.prog.looks [] ∧ ∀ (j : Nat) t, fn.params[j]? = some t → Tryd.pinned.checked.prog.wantsStandIn t = false := by
  obtain rfl : f = 7 := Option.some.inj ((show Tryd.prog.funcNamed "sieve/sievelaw12.LinkNothing" = some 7 by kernel_rfl).symm.trans hf) |>.symm
  obtain rfl : fn = Tryd.f7 := (Option.some.inj (Tryd.func7.symm.trans hfn)).symm
  refine ⟨by kernel_rfl, fun j t ht => ?_⟩
  rw [Tryd.params7] at ht
  have hm := Array.mem_of_getElem? ht
  simp only [List.mem_toArray, List.mem_cons, List.not_mem_nil, or_false] at hm
  subst hm
  · exact (show Tryd.prog.wantsStandIn 9 = false by kernel_rfl)

theorem card : Rows.LinkNothingUptoCardSaid :=
  Claim7.holds_tied_plain_at .later [] _ _ _ _ said (fun _ h => by cases h) (by kernel_rfl) (fun _ h => by cases h) linkNothingUpto_row_tie rfl ⟨rfl, rfl⟩ (by kernel_rfl) rfl plain (by kernel_rfl)

end Go.Proofs.YtojkghgonnecfaaDoor.LpNothing
