/- What is proved here: the contract of value.Tidy of any kind; that what is written stays and is plain; and the contract of the statement's own 'right'. -/
import Derived.Test.YtfbfigjjnpamiaaGreatDoorVTok
import Derived.Test.YtfbfigjjnpamiaaGreatDoorVOpenR
namespace Go.Proofs.YtfbfigjjnpamiaaGreatDoor.V
open Go.RowKit Go.Shelf Go.Proofs.YtfbfigjjnpamiaaGreatDoor.N Go.Proofs.YtfbfigjjnpamiaaGreatDoor.U Go.Proofs.YtfbfigjjnpamiaaGreatDoor.L

/-- How a plain value is written, by its rule's kind. -/
def tidyK (k : Nat) (ws ss : List (List UInt8)) (rel : Bool) (s : List UInt8) : Option (List UInt8) :=
  match k with
  | 0 => some s
  | 1 => some (collapse s)
  | 2 => if nameB s then some s else none
  | 3 => (numB s).map Lib.decDigits
  | 4 => lenB s
  | 5 => linkB ss rel s
  | 6 => if langB s then some s else none
  | 7 => oneB ws s
  | _ => some []
theorem strip_pl {s : List UInt8} (h : Pl s) : Pl (stripL s) := by
  obtain ⟨zs, hV, hp, rfl⟩ := h
  have e : stripL (encs zs) = encs (stripR zs) := by
    show stripM (mendL (encs zs)) = _
    unfold mendL
    rw [runesI_val zs hV]
    exact strip_enc zs hV
  rw [e]
  have hsub : ∀ z ∈ stripR zs, z ∈ zs := fun z hz => by
    have h1 := (List.mem_filter.1 hz).1
    unfold trimR at h1
    have h2 := (List.dropWhile_sublist lowR).subset (List.mem_reverse.1 h1)
    exact (List.dropWhile_sublist lowR).subset (List.mem_reverse.1 h2)
  exact ⟨stripR zs, fun z hz => hV z (hsub z hz), fun z hz => hp z (hsub z hz), rfl⟩
/-- What is written stays, and is plain. -/
theorem tidy_stays (k : Nat) (ws ss : List (List UInt8)) (rel : Bool) (s t : List UInt8) (hs : Pl s) (h : tidyK k ws ss rel s = some t) : Pl t ∧ tidyK k ws ss rel t = some t := by
  unfold tidyK at h ⊢
  split at h
  · cases h; exact ⟨hs, rfl⟩
  · cases h; exact ⟨collapse_pl hs, by simp only [collapse_idem]⟩
  · split at h
    · rename_i hb
      cases h
      exact ⟨hs, by simp only [hb, if_true]⟩
    · cases h
  · cases hn : numB s with
    | none => rw [hn] at h; cases h
    | some n =>
      rw [hn] at h
      cases h
      exact ⟨dec_pl n, by simp only [numB_dec n (numB_lt hn), Option.map_some]⟩
  · exact lenB_again h
  · unfold linkB at h
    split at h
    · rename_i hb
      cases h
      exact ⟨strip_pl hs, by simp only [linkB, strip_again, hb, if_true]⟩
    · cases h
  · split at h
    · rename_i hb
      cases h
      exact ⟨hs, by simp only [hb, if_true]⟩
    · cases h
  · unfold oneB at h
    split at h
    · rename_i hb
      cases h
      obtain ⟨h1, h2⟩ := small_pl hs
      exact ⟨h1, by simp only [oneB, h2, hb, if_true]⟩
    · cases h
  · cases h; exact ⟨pl_nil, rfl⟩
theorem tidy_len (k : Nat) (ws ss : List (List UInt8)) (rel : Bool) (s t : List UInt8) (hs : Pl s) (h : tidyK k ws ss rel s = some t) : t.length ≤ 4 * s.length + 16 := by
  have hd : ∀ n, n < 1000000000 → (Lib.decDigits n).length ≤ 9 := fun n hn => (dec_len 8 n (by simpa using hn)).2
  unfold tidyK at h
  split at h
  · cases h; omega
  · cases h; have := collapse_length s; omega
  · split at h
    · cases h; omega
    · cases h
  · cases hn : numB s with
    | none => rw [hn] at h; cases h
    | some n => rw [hn] at h; cases h; have := hd n (numB_lt hn); omega
  · unfold lenB at h
    cases hn : numB (Lib.trimSuffix s [37]) with
    | none => rw [hn] at h; cases h
    | some n =>
      rw [hn] at h
      cases h
      have := hd n (numB_lt hn)
      rw [List.length_append]
      split <;> simp <;> omega
  · unfold linkB at h
    split at h
    · cases h; have := stripL_le s; omega
    · cases h
  · split at h
    · cases h; omega
    · cases h
  · unfold oneB at h
    split at h
    · cases h; have := small_len hs; omega
    · cases h
  · cases h; simp
/-- **Tidy of any kind that there is.** -/
theorem Tidy_calls (k : Nat) (hk : k < 9) (nm : ByteArray) (wa sa : Option Addr) (wc sc : Nat) (ws ss : List (List UInt8)) (rel : Bool) (v : List UInt8) (w : World) (hT : Vt w) (hm : MaxV w) (hv : v.length ≤ 100000000)
    (hw : TextsAt w wa ws) (hs : TextsAt w sa ss) (hwl : ws.length ≤ 100000000) (hsl : ss.length ≤ 100000000) (hsc : ss.length ≤ sc) (hwx : ∀ x ∈ ws, x.length ≤ 1000000000) (hsx : ∀ x ∈ ss, x.length ≤ 1000000000) :
    Calls Tryz.prog 20 #[.agg #[.string nm, .int .i64 k, .slice wa ws.length wc], .slice sa ss.length sc, .bool rel, .string ⟨v.toArray⟩] w fun e W' => e = .returned (.tuple #[.string ⟨((tidyK k ws ss rel (clB v)).getD []).toArray⟩, .bool (tidyK k ws ss rel (clB v)).isSome, .int .i64 0]) ∧ Below w.heap.size w W' := by
  have hcl := clB_len v
  have hks : k = 0 ∨ k = 1 ∨ k = 2 ∨ k = 3 ∨ k = 4 ∨ k = 5 ∨ k = 6 ∨ k = 7 ∨ k = 8 := by omega
  rcases hks with rfl | rfl | rfl | rfl | rfl | rfl | rfl | rfl | rfl
  · exact tidy_at 0 45 rfl nm wa sa ws.length wc ss.length sc rel v w hT.1 (by omega) _ _ (enters_of Tryz.func45 (by kernel_rfl) rfl) (fun W h => itself_calls (clB v) wa sa ws.length wc ss.length sc rel W)
  · exact tidy_at 1 46 rfl nm wa sa ws.length wc ss.length sc rel v w hT.1 (by omega) _ _ (enters_of Tryz.func46 (by kernel_rfl) rfl) (fun W h => tokens_calls (clR v) (clR_valid v) wa sa ws.length wc ss.length sc rel W (by show (clB v).length ≤ _; omega))
  · exact tidy_at 2 47 rfl nm wa sa ws.length wc ss.length sc rel v w hT.1 (by omega) _ _ (enters_of Tryz.func47 (by kernel_rfl) rfl) (fun W h => rname_calls (clB v) wa sa ws.length wc ss.length sc rel W (by omega))
  · exact tidy_at 3 48 rfl nm wa sa ws.length wc ss.length sc rel v w hT.1 (by omega) _ _ (enters_of Tryz.func48 (by kernel_rfl) rfl) (fun W h => rnum_calls (clB v) wa sa ws.length wc ss.length sc rel W (pow_below hT.2.2 h) (by omega))
  · exact tidy_at 4 49 rfl nm wa sa ws.length wc ss.length sc rel v w hT.1 (by omega) _ _ (enters_of Tryz.func49 (by kernel_rfl) rfl) (fun W h => rlen_calls (clB v) wa sa ws.length wc ss.length sc rel W (pow_below hT.2.2 h) (by omega))
  · exact tidy_at 5 50 rfl nm wa sa ws.length wc ss.length sc rel v w hT.1 (by omega) _ _ (enters_of Tryz.func50 (by kernel_rfl) rfl) (fun W h => rlink_calls (clB v) wa sa ws.length wc sc ss rel W (hT.1.below h) (hT.2.1.below h) (hs.below h) (by omega) hsl hsc hsx)
  · exact tidy_at 6 51 rfl nm wa sa ws.length wc ss.length sc rel v w hT.1 (by omega) _ _ (enters_of Tryz.func51 (by kernel_rfl) rfl) (fun W h => rlang_calls (clB v) wa sa ws.length wc ss.length sc rel W (hm.below h) (by omega))
  · exact tidy_at 7 52 rfl nm wa sa ws.length wc ss.length sc rel v w hT.1 (by omega) _ _ (enters_of Tryz.func52 (by kernel_rfl) rfl) (fun W h => rone_calls (clB v) wa sa wc ss.length sc ws rel W (hT.1.below h) (hw.below h) (by omega) hwl hwx)
  · exact tidy_at 8 53 rfl nm wa sa ws.length wc ss.length sc rel v w hT.1 (by omega) _ _ (enters_of Tryz.func53 (by kernel_rfl) rfl) (fun W h => flag_calls (clB v) wa sa ws.length wc ss.length sc rel W)
set_option maxRecDepth 100000 in
set_option maxHeartbeats 2000000 in
/-- **Tidy of a kind that there is not.** -/
theorem Tidy_none (k : Int) (hk : k < 0 ∨ 8 < k) (nm : ByteArray) (wa sa : Option Addr) (wn wc sn sc : Nat) (rel : Bool) (v : List UInt8) (w : World) :
    Calls Tryz.prog 20 #[.agg #[.string nm, .int .i64 k, .slice wa wn wc], .slice sa sn sc, .bool rel, .string ⟨v.toArray⟩] w fun e W' => e = .returned (.tuple #[.string ⟨#[]⟩, .bool false, .int .i64 130]) ∧ Below w.heap.size w W' := by
  obtain ⟨W1, hW1⟩ : ∃ W1, w.alloc (.cells #[.string nm, .int .i64 k, .slice wa wn wc] 39) = W1 := ⟨_, rfl⟩
  have HB1 : Hid (Below w.heap.size w W1) := by rw [← hW1]; exact (Below.refl _ w).alloc (Nat.le_refl _) _
  have HK1 : Blk W1 w.heap.size #[.string nm, .int .i64 k, .slice wa wn wc] 39 := by rw [← hW1]; exact Blk.new w _ _
  have x1 : W1.cell? ⟨w.heap.size, 1, none⟩ = some (.int .i64 k) := HK1.cell 1
  have HW1 := hid_of hW1
  have hc : decide (k < 0) = true ∨ (decide (k < 0) = false ∧ decide (k > 8) = true) := by
    simp only [decide_eq_true_eq, decide_eq_false_iff_not]; omega
  clear hW1 HK1 hk
  rcases hc with c0 | ⟨c0, c8⟩
  all_goals go_enter Tryz.func20, Tryz.ntmps20
  all_goals go_upto_region 1 with fail
  all_goals rw [HW1.out]
  all_goals go_wp2_with fail
  all_goals go_ret3
  all_goals exact ⟨rfl, HB1.out⟩
/-- Schemes that may be. -/
def rightC (x : List UInt8) : Bool := x == [104, 116, 116, 112] || x == [104, 116, 116, 112, 115] || x == [109, 97, 105, 108, 116, 111] || x == [102, 116, 112] || x == [116, 101, 108]
theorem right_ways (x : List UInt8) : (rightC x = true ∧ ((x == [104, 116, 116, 112]) = true ∨ ((x == [104, 116, 116, 112]) = false ∧ (x == [104, 116, 116, 112, 115]) = true) ∨ ((x == [104, 116, 116, 112]) = false ∧ (x == [104, 116, 116, 112, 115]) = false ∧ (x == [109, 97, 105, 108, 116, 111]) = true)
    ∨ ((x == [104, 116, 116, 112]) = false ∧ (x == [104, 116, 116, 112, 115]) = false ∧ (x == [109, 97, 105, 108, 116, 111]) = false ∧ (x == [102, 116, 112]) = true)
    ∨ ((x == [104, 116, 116, 112]) = false ∧ (x == [104, 116, 116, 112, 115]) = false ∧ (x == [109, 97, 105, 108, 116, 111]) = false ∧ (x == [102, 116, 112]) = false ∧ (x == [116, 101, 108]) = true)))
    ∨ (rightC x = false ∧ (x == [104, 116, 116, 112]) = false ∧ (x == [104, 116, 116, 112, 115]) = false ∧ (x == [109, 97, 105, 108, 116, 111]) = false ∧ (x == [102, 116, 112]) = false ∧ (x == [116, 101, 108]) = false) := by
  unfold rightC
  generalize (x == [104, 116, 116, 112]) = b1
  generalize (x == [104, 116, 116, 112, 115]) = b2
  generalize (x == [109, 97, 105, 108, 116, 111]) = b3
  generalize (x == [102, 116, 112]) = b4
  generalize (x == [116, 101, 108]) = b5
  cases b1 <;> cases b2 <;> cases b3 <;> cases b4 <;> cases b5 <;> simp
set_option maxRecDepth 100000 in
set_option maxHeartbeats 4000000 in
/-- **right.** -/
theorem right_calls (a : Option Addr) (cap : Nat) (L : List (List UInt8)) (w : World) (hL : TextsAt w a L) (hl : L.length ≤ 100000000) :
    Calls Tryz.prog 19 #[.slice a L.length cap] w fun e W' => ∃ v, e = .returned v ∧ OwnT w.heap.size W' v (L.filter rightC) ∧ Below w.heap.size w W' := by
  obtain ⟨i0, hi, hz0, hz1, hz2⟩ := N.info_parts N.infoStr
  have HTX := hid_of hL
  clear hL
  go_enter Tryz.func19, Tryz.ntmps19
  go_wp2_with fail
  go_loopw [3, 5, 8] (fun vl _ vi wr => ∃ k : Nat, k ≤ L.length ∧ vi = .int .i64 k ∧ Hid (OwnT w.heap.size wr vl ((L.take k).filter rightC)) ∧ Hid (Below w.heap.size w wr)) (fun _ _ vi _ => L.length - (intOf vi).toNat)
  case atStart => exact ⟨0, by omega, rfl, World.ownsRow_nil _ _ _ _, Below.refl _ _⟩
  case round =>
    obtain ⟨k, hk, rfl, hO, hB⟩ := hrel
    have zr := hB.out.size
    by_cases hlt : k < L.length
    · obtain ⟨b, off, rfl, hcell⟩ := HTX.out.below hB.out k hlt
      have hlt' : decide ((k : Int) < (L.length : Int)) = true := by rw [decide_eq_true_eq]; omega
      have HTK : Hid ((L.take (k + 1)).filter rightC = (L.take k).filter rightC ++ if rightC (L.getD k []) then [L.getD k []] else []) := by
        show _ = _
        rw [List.take_succ_eq_append_getElem hlt, List.filter_append]
        have e : L.getD k [] = L[k] := by simp [hlt]
        rw [e]
        cases h : rightC L[k] <;> simp [h]
      have hfl : ((L.take k).filter rightC).length ≤ k := Nat.le_trans (List.length_filter_le _ _) (by rw [List.length_take]; omega)
      obtain ⟨x, hx⟩ : ∃ x, L.getD k [] = x := ⟨_, rfl⟩
      rw [hx] at hcell HTK
      obtain ⟨F, hF⟩ : ∃ F, (L.take k).filter rightC = F := ⟨_, rfl⟩
      rw [hF] at hO HTK hfl
      have hT : Hid (OwnT w.heap.size wr u3 F) := hO
      clear hx hF
      rcases right_ways x with ⟨hr, hw⟩ | ⟨hr, e1, e2, e3, e4, e5⟩
      · rw [hr, if_pos rfl] at HTK
        clear hr
        rcases hw with e1 | ⟨e1, e2⟩ | ⟨e1, e2, e3⟩ | ⟨e1, e2, e3, e4⟩ | ⟨e1, e2, e3, e4, e5⟩
        all_goals go_wp2_with (at_builtin; refine wpList_append_own _ rfl _ _ 23 rfl w.heap.size 9 i0 (.string ⟨#[]⟩) 1 16 Tryz.underlying23 hi hz0 hz1 hz2 rfl (by decide) _ _ _ rfl (World.ownsRow.alloc hT.out _) ⟨wr.heap.size, 0, none⟩ 1 1 [_] rfl rfl (N.cell_one _ _ _ _ rfl) (by simp [Value.oneCell']) (by unfold maxLen; omega) (by omega) (by simp; omega) ?_; intro v' w4 hown' hgrow _)
        all_goals exact ⟨⟨k + 1, by omega, by go_num, by
          rw [HTK.out]
          show w4.ownsRow _ _ _ _ _ _
          rw [svs_append, List.length_append]
          exact hown', (hB.out.alloc (by omega) _).grown hgrow (by simp; omega) (fun j hj => (World.ownsRow.lt hT.out j hj).1)⟩, by simp [intOf]; omega⟩
      · rw [hr, if_neg (by decide), List.append_nil] at HTK
        clear hr
        go_wp2_with fail
        exact ⟨⟨k + 1, by omega, by go_num, by rw [HTK.out]; exact hT, hB⟩, by simp [intOf]; omega⟩
    · obtain rfl : k = L.length := by omega
      have hlt' : decide ((L.length : Int) < (L.length : Int)) = false := by rw [decide_eq_false_iff_not]; omega
      rw [List.take_length] at hO
      go_wp2_with fail
      go_ret
      exact ⟨_, rfl, hO.out, hB.out⟩
theorem textsAt_own {base : Nat} {w : World} {a : Option Addr} {n cap : Nat} {L : List (List UInt8)} (h : OwnT base w (.slice a n cap) L) : TextsAt w a L ∧ n = L.length ∧ L.length ≤ cap := by
  have hn := h.1
  rcases h.2 with ⟨e, e0⟩ | ⟨g, cap', cur, e, hb, hg, hc, _⟩
  · simp only [Value.slice.injEq] at e
    exact ⟨fun j hj => by omega, by omega, by omega⟩
  · simp only [Value.slice.injEq] at e
    obtain ⟨rfl, rfl, rfl⟩ := e
    refine ⟨fun j hj => ⟨g, 0, rfl, ?_⟩, rfl, hc⟩
    rw [Nat.zero_add, World.ownsRow.cellAt h j (by omega)]
    simp [svs, hj]
end Go.Proofs.YtfbfigjjnpamiaaGreatDoor.V
