/- What is proved here: the statement LinkAllows (which links are allowed, and how they are written) holds for texts up to the size that the statement's narrower form names, with no other condition but what the card says of the listed tables. -/
import Derived.Test.YtjhmphokmmmoaaaGreatDoorCards
import Derived.Test.YtjhmphokmmmoaaaGreatDoorTie
import Derived.Test.YtjhmphokmmmoaaaGreatDoorBun18
import Derived.Test.YtjhmphokmmmoaaaGreatDoorLkTid
import Derived.Test.YtjhmphokmmmoaaaGreatDoorBun3
import Derived.Laws.AppendOwnNone
import Derived.BigQuiet
import Derived.Deep.SlicePairs
import Derived.Deep.Strs
import Derived.ChangeSame
import Derived.ProofKit
import Derived.OpenShut
namespace Go.Proofs.YtjhmphokmmmoaaaGreatDoor.LpAllows
open Go.ChangeShapes Go.WideShapes Go.ChangeAt Go.RowKit Go.Shelf U N L

theorem bulk_words {H : Type} (S : Nat → ByteArray) : ∀ L : List Nat, L.length ≤ Rows.uptoBulkAll (H := H) (L.map fun i => DataW.lit (.string (S i).data.toList)) ∧ ∀ i ∈ L, (S i).data.toList.length ≤ Rows.uptoBulkAll (H := H) (L.map fun i => DataW.lit (.string (S i).data.toList))
  | [] => ⟨by simp, fun i hi => absurd hi (by simp)⟩
  | i :: r => by
    obtain ⟨h1, h2⟩ := bulk_words (H := H) S r
    simp only [List.map_cons, List.length_cons, Rows.uptoBulkAll, Rows.uptoBulk]
    refine ⟨by omega, fun j hj => ?_⟩
    rcases List.mem_cons.1 hj with rfl | hj
    · omega
    · have := h2 j hj; omega
set_option maxRecDepth 100000 in
/-- A row of words that came in. -/
theorem words_of_trod {H : Type} {enc : TypeId × Value → H} {W : World} {c : Value} {d : DataW H} {p : List MemPlace} {fuel : Nat} (hf : DataW.trod enc Tryz.prog W 0 (fun _ => true) true fuel 22 [c] = some (d, p)) :
    ∃ (a : Option Addr) (cap : Nat) (L : List (List UInt8)), c = .slice a L.length cap ∧ L.length ≤ cap ∧ TextsAt W a L ∧ L.length ≤ Rows.uptoBulk d ∧ (∀ x ∈ L, x.length ≤ Rows.uptoBulk d) ∧ (a = none → cap = 0) := by
  rcases Deep.open_strs Tryz.underlying22 Tryz.underlying9 (by kernel_rfl) hf with ⟨hcs, hx⟩ | ⟨a, len, cap, m, S, hcs, _, hl, hmx, hm, hx, hat⟩
  · simp only [List.cons.injEq, and_true] at hcs
    exact ⟨none, 0, [], hcs, by simp, fun j hj => absurd hj (by simp), by simp, fun x hx => absurd hx (by simp), fun _ => rfl⟩
  · simp only [List.cons.injEq, and_true] at hcs
    simp only [if_true] at hm
    simp only [Prod.mk.injEq] at hx
    obtain ⟨b1, b2⟩ := bulk_words (H := H) S (List.range len)
    rw [List.length_range] at b1
    refine ⟨some a, cap, (List.range len).map fun i => (S i).data.toList, by rw [hcs]; simp, by simpa using hl, fun j hj => ?_, ?_, fun x hx' => ?_, fun h => by cases h⟩
    · have hj' : j < len := by simpa using hj
      obtain ⟨b, off, spot⟩ := a
      have hsp : spot = none := by
        have := (hat 0 (by omega)).1
        cases spot with
        | none => rfl
        | some s => simp [World.cell?, Addr.add] at this; split at this <;> cases this
      subst hsp
      refine ⟨b, off, rfl, ?_⟩
      have g := (hat j (by omega)).1
      rw [add_none] at g
      rw [g]
      simp [hj']
    · rw [hx.1]
      simp only [Rows.uptoBulk, List.length_map, List.length_range]
      omega
    · obtain ⟨i, hi, rfl⟩ := List.mem_map.1 hx'
      have := b2 i hi
      rw [hx.1]
      simp only [Rows.uptoBulk]
      omega
set_option maxRecDepth 100000 in
theorem words_of_read {H : Type} {enc : TypeId × Value → H} {W : World} {v : Value} {d : DataW H} {p : List MemPlace} (hv : ∃ a len cap, v = .slice a len cap) (h : DataW.Trod enc Tryz.prog W 0 (fun _ => true) true 22 v d p) :
    ∃ (a : Option Addr) (cap : Nat) (L : List (List UInt8)), v = .slice a L.length cap ∧ L.length ≤ cap ∧ TextsAt W a L ∧ L.length ≤ Rows.uptoBulk d ∧ (∀ x ∈ L, x.length ≤ Rows.uptoBulk d) ∧ (a = none → cap = 0) := by
  obtain ⟨a0, len0, cap0, rfl⟩ := hv
  obtain ⟨fuel, hf0⟩ := h
  have hf : DataW.trod enc Tryz.prog W 0 (fun _ => true) true fuel 22 [.slice a0 len0 cap0] = some (d, p) := hf0
  exact words_of_trod hf
theorem svs_one (L : List (List UInt8)) : ∀ u ∈ svs L, u.oneCell' = true := fun x hx => by simp [svs] at hx; obtain ⟨c, _, rfl⟩ := hx; rfl
/-- 'append(s, x...)' of texts that came in to a row of one's own that holds nothing. -/
theorem append_given {w : World} {ops : Array Oper} {rest : List Oper} {o : Oper} {a : Act} {Q : Exit → Act → World → Prop} (hgd : o.guard = none) (s x : Operand)
    (ho : o.op = .call { callee := .builtin .append, args := #[s, x], argTypes := #[22, 22] }) (base : Nat)
    (v : Value) (hs : a.eval s = v) (hown : OwnT base w v []) (xa : Option Addr) (cap : Nat) (L : List (List UInt8)) (hx : a.eval x = .slice xa L.length cap) (hX : TextsAt w xa L) (hc0 : L.length ≤ cap) (hnil : xa = none → cap = 0)
    (h63 : L.length ≤ 8796093022208) (hbase : base ≤ w.heap.size)
    (h : ∀ v' w', OwnT base w' v' L → w.grownBy w' v.ownBlock → wpList Tryz.prog ops Q rest (a.put o.dst v') w') : wpList Tryz.prog ops Q (o :: rest) a w := by
  obtain ⟨i0, hi, hz0, hz1, hz2⟩ := info_parts infoStr
  cases xa with
  | none =>
    obtain rfl := hnil rfl
    obtain rfl : L = [] := List.eq_nil_of_length_eq_zero (by omega)
    exact wpList_append_own_none hgd s x _ ho base _ i0 1 Tryz.underlying22 hi v _ _ hs hown hx (h v w hown (World.grownBy.refl _ _))
  | some ad =>
    have hc : ∀ j u, (svs L)[j]? = some u → w.cell? (ad.add j) = some u := fun j u hj => by
      have hj' : j < L.length := by rw [← svs_length]; exact (List.getElem?_eq_some_iff.1 hj).1
      obtain ⟨b, off, e, hcell⟩ := hX j hj'
      obtain rfl : ad = ⟨b, off, none⟩ := Option.some.inj e
      rw [C.add_none, hcell, ← hj]
      simp [svs, hj']
    exact wpList_append_own w hgd s x _ ho base _ i0 (.string ⟨#[]⟩) 1 16 Tryz.underlying22 hi hz0 hz1 hz2 rfl (by decide) v _ _ hs hown ad L.length cap (svs L) hx (by rw [svs_length]; omega) hc (svs_one L) (by unfold maxLen; simp; omega) (by simp; omega) hbase (fun v' w' h1 h2 _ => h v' w' (by have h1' := h1; simp only [svs, List.map_nil, List.nil_append, List.length_nil, Nat.zero_add] at h1'; exact h1') h2)
theorem own_texts {base : Nat} {w : World} {v : Value} {L : List (List UInt8)} (h : OwnT base w v L) : ∃ a cap, v = .slice a L.length cap ∧ L.length ≤ cap ∧ TextsAt w a L := by
  by_cases h0 : L.length = 0
  · obtain ⟨a, c, rfl⟩ := C.owns_slice h
    exact ⟨a, c, rfl, by omega, fun j hj => by omega⟩
  · rcases h.2 with ⟨rfl, e0⟩ | ⟨g, cap, cur, rfl, hb, hg, hcap, _⟩
    · omega
    · refine ⟨_, cap, rfl, hcap, fun j hj => ⟨g, 0, rfl, ?_⟩⟩
      rw [Nat.zero_add, h.cellAt j (by omega)]
      simp [svs, hj]
theorem tid_open (b : Bool) (n : Nat) (T : List UInt8) (h : b = true → n = 0) : ∃ t, tidV b n T = .tuple #[.string t, .bool b, .int .i64 (n : Int)] := by
  unfold tidV
  cases b with
  | false => exact ⟨_, rfl⟩
  | true => obtain rfl := h rfl; exact ⟨_, rfl⟩
theorem allow_nat (ss : List (List UInt8)) (x : List UInt8) (rel : Bool) : ∃ (b : Bool) (n : Nat), allowV ss x rel = .tuple #[.bool b, .int .i64 (n : Int)] ∧ (n = 0 ∨ n = 120) ∧ (b = true → n = 0) := by
  unfold allowV
  split
  · cases schemeL x with
    | none => exact ⟨rel, 0, rfl, .inl rfl, fun _ => rfl⟩
    | some s => exact ⟨ss.contains s, 0, rfl, .inl rfl, fun _ => rfl⟩
  · exact ⟨false, 120, rfl, .inr rfl, fun h => by cases h⟩
set_option maxRecDepth 100000 in
set_option maxHeartbeats 4000000 in
theorem walk_on (w : World) (hT : Tb w) (hN : Nev w) (hS : Sla w) (hM : MaxR w) (v : List UInt8) (hv : v.length ≤ 1048576) (ss : List (List UInt8)) (a : Option Addr) (cap : Nat) (rel : Bool) (hL : TextsAt w a ss) (hl : ss.length ≤ 1048576) (hcap : ss.length ≤ cap) (hx : ∀ x ∈ ss, x.length ≤ 1048576) (hnil : a = none → cap = 0) : Calls Tryz.prog 3 #[.string ⟨v.toArray⟩, .slice a ss.length cap, .bool rel] w fun e w' => e = .returned (.bool true) ∧ Below w.heap.size w w' := by
  have hx' : ∀ x ∈ ss, x.length ≤ 1000000000 := fun x h => by have := hx x h; omega
  have HW : Hid (∀ W, Below w.heap.size w W → Calls Tryz.prog 9 #[] W fun e w' => e = .returned (.bool true) ∧ Below W.heap.size W w') := fun W h => awake_calls W (hT.below h)
  obtain ⟨b, n, hab, hn, hbn⟩ := allow_nat ss (stripL v) rel
  obtain ⟨t, htv⟩ := tid_open b n (tidyT (stripL v)) hbn
  have HA1 : Hid (∀ W a' c', ss.length ≤ c' → TextsAt W a' ss → Below w.heap.size w W → Calls Tryz.prog 4 #[.string ⟨v.toArray⟩, .slice a' ss.length c', .bool rel] W fun e W' => e = .returned (.tuple #[.bool b, .int .i64 (n : Int)]) ∧ Below W.heap.size W W') := fun W a' c' hc ht h => by
    have := allowed_calls v ss a' c' rel W (hT.below h) (hN.below h) ht (by omega) (by omega) hc hx'
    rw [hab] at this; exact this
  have HA2 : Hid (∀ W, Below w.heap.size w W → Calls Tryz.prog 5 #[.string ⟨v.toArray⟩, .slice a ss.length cap, .bool rel] W fun e W' => e = .returned (.tuple #[.bool b, .int .i64 (n : Int)]) ∧ Below W.heap.size W W') := fun W h => by
    have := rallows_calls v ss a cap rel W (hL.below h) (by omega) (by omega) hx'
    rw [hab] at this; exact this
  have HT1 : Hid (∀ W a' c', ss.length ≤ c' → TextsAt W a' ss → Below w.heap.size w W → Calls Tryz.prog 6 #[.string ⟨v.toArray⟩, .slice a' ss.length c', .bool rel] W fun e W' => e = .returned (.tuple #[.string t, .bool b, .int .i64 (n : Int)]) ∧ Below W.heap.size W W') := fun W a' c' hc ht h => by
    have := tidy_calls v ss a' c' rel b n hab W (hT.below h) (hN.below h) (hS.below h) (hM.below h) ht (by omega) (by omega) hc hx'
    rw [htv] at this; exact this
  have HT2 : Hid (∀ W, Below w.heap.size w W → Calls Tryz.prog 7 #[.string ⟨v.toArray⟩, .slice a ss.length cap, .bool rel] W fun e W' => e = .returned (.tuple #[.string t, .bool b, .int .i64 (n : Int)]) ∧ Below W.heap.size W W') := fun W h => by
    have := rtidy_calls v ss a cap rel b n hab hn hbn W (hL.below h) (by omega) (by omega) hx'
    rw [htv] at this; exact this
  have HL := hid_of hL
  have HNL := hid_of hnil
  clear hab htv hn hbn hT hN hS hM hL hx hx' hnil hv
  go_enter Tryz.func3, Tryz.ntmps3
  go_wp2_with (at_builtin; refine append_given rfl _ _ rfl w.heap.size (.slice (some ⟨w.heap.size, 0, none⟩) 0 0) rfl (C.owns_empty w _ 1) a cap ss rfl (HL.out.below ((Below.refl _ w).alloc (Nat.le_refl _) _)) hcap HNL.out (by omega) (by simp) ?_; intro v5 w5 hown5 hgrow5)
  obtain ⟨ga, gc, rfl, hgc, hG⟩ := own_texts hown5
  have HG := hid_of hG
  have HB5 : Hid (Below w.heap.size w w5) := ((Below.refl _ w).alloc (Nat.le_refl _) _).grown hgrow5 (by simp) (fun j hj => by simp [Value.ownBlock] at hj; omega)
  clear hown5 hgrow5 hG
  go_wp2_with fail
  (go_at_call 4; refine (HA1.out _ _ _ hgc HG.out HB5.out).mono ?_; rintro e w6 ⟨rfl, h6⟩)
  have HB6 := hid_of (HB5.out.trans (h6.mono HB5.out.size))
  have HG6 := hid_of (HG.out.below h6)
  clear h6 HB5 HG
  go_wp2_with fail
  (go_at_call 5; refine (HA2.out _ HB6.out).mono ?_; rintro e w7 ⟨rfl, h7⟩)
  have HB7 := hid_of (HB6.out.trans (h7.mono HB6.out.size))
  have HG7 := hid_of (HG6.out.below h7)
  clear h7 HB6 HG6
  go_wp2_with fail
  (go_at_call 6; refine (HT1.out _ _ _ hgc HG7.out HB7.out).mono ?_; rintro e w8 ⟨rfl, h8⟩)
  have HB8 := hid_of (HB7.out.trans (h8.mono HB7.out.size))
  have HG8 := hid_of (HG7.out.below h8)
  clear h8 HB7 HG7
  go_wp2_with fail
  (go_at_call 7; refine (HT2.out _ HB8.out).mono ?_; rintro e w9 ⟨rfl, h9⟩)
  have HB9 := hid_of (HB8.out.trans (h9.mono HB8.out.size))
  have HG9 := hid_of (HG8.out.below h9)
  clear h9 HB8 HG8 HA1 HA2 HT1 HT2
  go_wp2_with fail
  go_loopw [54] (fun vi wr => ∃ k : Nat, k ≤ ss.length ∧ vi = .int .i64 k ∧ Hid (Below w9.heap.size w9 wr)) (fun vi _ => ss.length - (intOf vi).toNat)
  case atStart => exact ⟨0, by omega, rfl, Below.refl _ _⟩
  case round =>
    obtain ⟨k, hk, rfl, hB⟩ := hrel
    by_cases hlt : k < ss.length
    · obtain ⟨b1, o1, rfl, h1⟩ := HG9.out.below hB.out k hlt
      obtain ⟨b2, o2, rfl, h2⟩ := (HL.out.below HB9.out).below hB.out k hlt
      generalize (⟨(ss.getD k []).toArray⟩ : ByteArray) = f at *
      have hf : (f.toList == f.toList) = true := by simp
      go_wp2
      go_quiet (fail)
      go_wp2
      exact ⟨⟨k + 1, by omega, by go_num, hB.out.trans ((below_drewN _ _).mono hB.out.size)⟩, by simp [intOf]; omega⟩
    · obtain rfl : k = ss.length := by omega
      have HBr := hid_of (HB9.out.trans (hB.out.mono HB9.out.size))
      clear hB
      go_wp2_with fail
      (go_at_call 8; refine (L.num_calls _ _).mono ?_; rintro e w' ⟨rfl, hx⟩; obtain rfl : wr = w' := hx.symm)
      go_wp2_with fail
      (go_at_call 8; refine (L.num_calls _ _).mono ?_; rintro e w' ⟨rfl, hx⟩; obtain rfl : wr = w' := hx.symm)
      go_wp2_with fail
      (go_at_call 9; refine (HW.out _ HBr.out).mono ?_; rintro e w10 ⟨rfl, h10⟩)
      go_wp2_with fail
      go_ret
      exact ⟨rfl, HBr.out.trans (h10.mono HBr.out.size)⟩
theorem walk (w : World) (hT : Tb w ∧ Nev w ∧ Sla w) (hM : MaxR w) (s : ByteArray) (_hs0 : s.size ≤ 9223372036854775807) (hs : s.size ≤ 1048576) (a : Option Addr) (cap : Nat) (ss : List (List UInt8)) (hcap : ss.length ≤ cap) (hL : TextsAt w a ss) (hl : ss.length ≤ 1048576) (hx : ∀ x ∈ ss, x.length ≤ 1048576) (hnil : a = none → cap = 0) (rel : Bool) :
    Calls Tryz.prog 3 #[.string s, .slice a ss.length cap, .bool rel] w fun e w' => e = .returned (.bool true) ∧ Below w.heap.size w w' := by
  have h := walk_on w hT.1 hT.2.1 hT.2.2 hM s.data.toList (by rw [N.size_data]; exact hs) ss a cap rel hL hl hcap hx hnil
  rw [Lib.mk_data] at h
  exact h

set_option maxRecDepth 100000 in
theorem contract (H : Type) (enc : TypeId × Value → H) (W : World) (base : Nat) (args : Array Value) (ds gs : List (DataW H)) (before : List MemPlace)
    (hval : ∀ (j : Nat) t v, Tryz.f3.params[j]? = some t → args[j]? = some v → Value.okWide Tryz.prog W .any base t v)
    (hW : DataW.Whole enc Tryz.prog Tryz.f3.params.toList Rows.linkAllowsSpec.vars false W args.toList ds gs before) (hL : laidMetH Tryz.prog Rows.linkAllowsUptoRow.laid W)(hsh : W.ShapedOpen Tryz.prog) (hk : Rows.uptoSmall H (ds ++ gs) = true) :
    Calls Tryz.prog 3 args W fun e W' => ∃ v, e = .returned v ∧ Rows.linkAllowsSpec.post enc Tryz.prog Tryz.f3 false true false false W args v W' := by
  have hW' := hW
  have hlt := hW.lt
  obtain ⟨p, q, hA0, hV, rfl, hfz, hnd⟩ := hW
  have hA : DataW.TrodAll enc Tryz.prog W 0 (fun _ => true) true Tryz.f3.params.toList args.toList ds p := hA0
  rw [Tryz.params3] at hA hval
  obtain ⟨v0, vs0, d0, ds0, p0, q0, hargs, rfl, rfl, h0, r0⟩ := trodAll_cons hA
  obtain ⟨v1, vs1, d1, ds1, p1, q1, rfl, rfl, rfl, h1, r1⟩ := trodAll_cons r0
  obtain ⟨v2, vs2, d2, ds2, p2, q2, rfl, rfl, rfl, h2, r2⟩ := trodAll_cons r1
  obtain ⟨rfl, rfl, rfl⟩ := trodAll_nil r2
  obtain rfl : args = #[v0, v1, v2] := by cases args; simp_all
  obtain ⟨rfl, rfl⟩ := trodVars_none hV
  clear hA0
  simp only [List.append_nil] at hW' hlt hk
  have hbulk := of_decide_eq_true hk
  simp only [Rows.uptoBulkAll] at hbulk
  have h0' := h0
  obtain ⟨s0, rfl, rfl, e0, ws0⟩ := Go.ChangeMaps.open_string Tryz.underlying9 (hval 0 9 v0 rfl rfl) h0
  have e1 := okWide_slice Tryz.underlying22 (hval 1 22 v1 rfl rfl)
  obtain ⟨wa1, wc1, ws1, rfl, cw1, hw1, l1, lx1, nl1⟩ := words_of_read e1 h1
  have h2' := h2
  obtain ⟨z2, rfl, e2, -⟩ := open_bool Tryz.underlying4 (hval 2 4 v2 rfl rfl) h2
  refine (walk W (tabs4_of_laid hL) (Tryz.laysM155.s1_3 W hsh) s0 ws0 (by simp only [L.bulk_str, N.size_data] at hbulk; omega) wa1 wc1 ws1 cw1 hw1 (by omega) (fun x hx => by have := lx1 x hx; omega) nl1 z2).mono fun e W' ⟨he, hb⟩ => ?_
  subst he
  exact ⟨_, rfl, post_below hW' (fun _ _ _ => trodAll_cons_mk (shut_bool Tryz.underlying4 _) trodAll_mk0) (trodAll_cons_mk (stays (by kernel_rfl) (of_decide_eq_true (by kernel_rfl)) h0' hb (fun x hx => hlt x (by simp [hx]))) (trodAll_cons_mk (stays (by kernel_rfl) (of_decide_eq_true (by kernel_rfl)) h1 hb (fun x hx => hlt x (by simp [hx]))) (trodAll_cons_mk (stays (by kernel_rfl) (of_decide_eq_true (by kernel_rfl)) h2' hb (fun x hx => hlt x (by simp [hx]))) trodAll_mk0))) rfl hb⟩

set_option maxRecDepth 100000 in
theorem laid_met (os : Os) : laidMet Tryz.prog Rows.linkAllowsUptoRow.laid ((withTabs4 (World.holding Tryz.prog os ⟨#[], #[], []⟩)).forCall (fun _ _ => 0) ⟨#[], #[Value.string ⟨#[]⟩, Value.slice none 0 0, Value.bool false], []⟩).memory :=
  laidMet_of_run' 8 (by kernel_rfl) (by kernel_rfl)
set_option maxRecDepth 100000 in
theorem reads (os : Os) {H : Type} (enc : TypeId × Value → H) : ∃ places, DataW.whole enc Tryz.prog ((withTabs4 (World.holding Tryz.prog os ⟨#[], #[], []⟩)).forCall (fun _ _ => 0) ⟨#[], #[Value.string ⟨#[]⟩, Value.slice none 0 0, Value.bool false], []⟩).memory Tryz.f3.params.toList Rows.linkAllowsSpec.vars false #[Value.string ⟨#[]⟩, Value.slice none 0 0, Value.bool false].toList 8 = some ([.lit (.string []), .nil, .lit (.bool false)], [], places) :=
  ⟨[], by kernel_rfl⟩

set_option maxRecDepth 100000 in
theorem lifted (os : Os) (started : os.Started) (H : Type) (enc : TypeId × Value → H) (F : Stop.Interp) :
    ReturnsInHanded {} Tryz.checked os 3 .any ((Rows.OpenSpec.upto Rows.linkAllowsSpec).preRow enc Tryz.prog Tryz.f3 Rows.linkAllowsUptoRow.domain false Rows.linkAllowsUptoRow.laid) (((Rows.OpenSpec.upto Rows.linkAllowsSpec).at F).post enc Tryz.prog Tryz.f3 false true false false) := by
  obtain ⟨places, hx⟩ := reads os enc
  refine returnsInHanded_of_row (C := Tryz.checked) (s := Rows.OpenSpec.upto Rows.linkAllowsSpec) own started (by kernel_rfl) Tryz.func3
    (witness_row_at (enc := enc) (C := Tryz.checked) false (withTabs4 (World.holding Tryz.prog os ⟨#[], #[], []⟩)) #[Value.string ⟨#[]⟩, Value.slice none 0 0, Value.bool false] rfl (by kernel_rfl) (by kernel_rfl) (by kernel_rfl)
      (OpenSpec.preRow_of_cond 8 hx (by kernel_rfl) (fun k hk => by cases hk; kernel_rfl) (by kernel_rfl) (laid_met os))) ?_
  intro W base args ds gs before hval hW _ hcond _ hL hsh _
  exact contract H enc W base args ds gs before hval hW hL hsh (hcond _ rfl)

set_option maxRecDepth 100000 in
theorem said : Rows.LinkAllowsUptoSaid :=
  OpenClaim.holds_of_cond 3 Tryz.f3 rfl rfl rfl rfl rfl rfl rfl ⟨rfl, rfl, rfl, rfl, rfl⟩ rfl rfl rfl rfl rfl (by kernel_rfl) Tryz.func3 (by kernel_rfl)
    (of_decide_eq_true (by kernel_rfl)) (by unfold Func.isWrapper; first | (rw [if_pos (by decide +kernel)]; kernel_rfl) | (rw [if_neg (by decide +kernel)]; exact ⟨rfl, rfl⟩))
    (fun os started H enc _ F => by rw [OpenClaim.pre_eq_preRow]; exact lifted os started H enc F)

theorem plain (f : FuncId) (fn : Func) (hf : Tryz.pinned.checked.prog.funcNamed "sieve/sievelaw12.LinkAllows" = some f) (hfn : Tryz.pinned.checked.prog.funcs[f]? = some fn) :
    false = Tryz.pinned.checked.prog.looks [] ∧ ∀ (j : Nat) t, fn.params[j]? = some t → Tryz.pinned.checked.prog.wantsStandIn t = false := by
  obtain rfl : f = 3 := Option.some.inj ((show Tryz.prog.funcNamed "sieve/sievelaw12.LinkAllows" = some 3 by kernel_rfl).symm.trans hf) |>.symm
  obtain rfl : fn = Tryz.f3 := (Option.some.inj (Tryz.func3.symm.trans hfn)).symm
  refine ⟨by kernel_rfl, fun j t ht => ?_⟩
  rw [Tryz.params3] at ht
  have hm := Array.mem_of_getElem? ht
  simp only [List.mem_toArray, List.mem_cons, List.not_mem_nil, or_false] at hm
  rcases hm with rfl | rfl | rfl
  · exact (show Tryz.prog.wantsStandIn 9 = false by kernel_rfl)
  · exact (show Tryz.prog.wantsStandIn 22 = false by kernel_rfl)
  · exact (show Tryz.prog.wantsStandIn 4 = false by kernel_rfl)

theorem card : Rows.LinkAllowsUptoCardSaid :=
  Claim7.holds_tied_plain_at .later [] _ _ _ _ said (fun _ h => by cases h) (by kernel_rfl) (fun _ h => by cases h) linkAllowsUpto_row_tie rfl ⟨rfl, rfl⟩ (by kernel_rfl) rfl plain (by kernel_rfl)

end Go.Proofs.YtjhmphokmmmoaaaGreatDoor.LpAllows
