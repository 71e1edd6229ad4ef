/- What is proved here: laws and contracts of LpTurnM, LpIxA, one behind the other (each says its own). -/
import Derived.Lib.IndexAny
import Derived.Lib.IndexLaws
import Derived.Lib.IndexBytes
import Derived.Lib.CountLaws
import Derived.Lib.Replace
import Derived.Test.YtjhmphokmmmoaaaGreatDoorBun15
import Derived.Test.YtjhmphokmmmoaaaGreatDoorLpIxQ
import Derived.Test.YtjhmphokmmmoaaaGreatDoorLpStrip
/- What is proved here: what strings.IndexAny and strings.ReplaceAll answer of a link's text, as lists. No program in it. -/
namespace Go.Proofs.YtjhmphokmmmoaaaGreatDoor.L
open Go.RowKit Go.Shelf Go.Proofs.YtjhmphokmmmoaaaGreatDoor.N Go.Proofs.YtjhmphokmmmoaaaGreatDoor.U

theorem map_same (s : List UInt8) (h : ∀ c ∈ s, (c == 92) = false) : s.map slC = s := by
  have : ∀ c ∈ s, slC c = c := fun c hc => by unfold slC; rw [h c hc]; rfl
  exact (List.map_congr_left this).trans (List.map_id s)
theorem rep_map : ∀ (n : Nat) (s : List UInt8), s.length ≤ n → Lib.replaceK [92] [47] (Lib.count s [92]) s = s.map slC
  | n, s, hn => by
    have hio := Lib.index_one s 92
    by_cases h : Lib.index s [92] = -1
    · rw [Lib.count_miss h]
      rw [h] at hio
      have hno := Lib.indexByte_none hio.symm
      rw [map_same s (fun c hc => by
        rw [beq_eq_false_iff_ne]
        rintro rfl
        obtain ⟨k, hk, e⟩ := List.mem_iff_getElem.1 hc
        exact hno k (by rw [List.getElem?_eq_getElem hk, e]))]
      rfl
    · have hge := Lib.indexByte_ge s 92
      obtain ⟨i, hi⟩ : ∃ i : Nat, Lib.index s [92] = i := ⟨(Lib.index s [92]).toNat, by omega⟩
      rw [hi] at hio
      obtain ⟨h1, h2⟩ := Lib.indexByte_some hio.symm
      obtain ⟨hil, hg⟩ := List.getElem?_eq_some_iff.1 h1
      have hs : s = s.take i ++ 92 :: s.drop (i + 1) := by
        conv => lhs; rw [← List.take_append_drop i s, List.drop_eq_getElem_cons hil, hg]
      have hpre : (s.take i).map slC = s.take i := map_same _ (fun c hc => by
        rw [beq_eq_false_iff_ne]
        rintro rfl
        obtain ⟨k, hk, e⟩ := List.mem_iff_getElem.1 hc
        rw [List.length_take] at hk
        rw [List.getElem_take] at e
        exact h2 k (by omega) (by rw [List.getElem?_eq_getElem (by omega), e]))
      cases n with
      | zero => omega
      | succ n =>
        rw [Lib.count_hit (by simp) hi, Nat.add_comm 1, Lib.replaceK_hit _ _ _ _ _ hi]
        show s.take i ++ [47] ++ Lib.replaceK [92] [47] (Lib.count (s.drop (i + 1)) [92]) (s.drop (i + 1)) = _
        rw [rep_map n (s.drop (i + 1)) (by rw [List.length_drop]; omega)]
        conv => rhs; rw [hs]
        rw [List.map_append, hpre, List.map_cons]
        simp [slC]
theorem replace_all (s : List UInt8) : Lib.replaceAll s [92] [47] = s.map slC := by
  unfold Lib.replaceAll Lib.replace Lib.replaceNum
  rw [if_neg (by decide), if_pos (by left; decide)]
  exact rep_map s.length s (Nat.le_refl _)
/-- Where the first ? or # stands. -/
theorem upTo_cons (b : UInt8) (l : List UInt8) : upToL [63, 35] (b :: l) = if ([63, 35] : List UInt8).contains b then 0 else upToL [63, 35] l + 1 := by
  unfold upToL
  rw [List.takeWhile_cons]
  cases h : ([63, 35] : List UInt8).contains b <;> simp
theorem any_up : ∀ (s : List UInt8), Lib.indexAny s [63, 35] = if upToL [63, 35] s < s.length then (upToL [63, 35] s : Int) else -1
  | [] => rfl
  | b :: l => by
    have ih := any_up l
    rw [Lib.indexAny, ih, upTo_cons]
    cases h : ([63, 35] : List UInt8).contains b with
    | true => simp
    | false =>
      simp only [Bool.false_eq_true, if_false, List.length_cons]
      by_cases hl : upToL [63, 35] l < l.length
      · have h1 : ¬ ((if upToL [63, 35] l < l.length then (upToL [63, 35] l : Int) else -1) == -1) = true := by rw [if_pos hl, beq_iff_eq]; omega
        rw [if_neg h1, if_pos hl, if_pos (by omega)]
        omega
      · have h1 : ((if upToL [63, 35] l < l.length then (upToL [63, 35] l : Int) else -1) == -1) = true := by rw [if_neg hl]; rfl
        rw [if_pos h1, if_neg (show ¬ upToL [63, 35] l + 1 < l.length + 1 by omega)]
end Go.Proofs.YtjhmphokmmmoaaaGreatDoor.L

/- What is proved here: the contract of strings.IndexAny of a text of runes, for ? and #. -/
namespace Go.Proofs.YtjhmphokmmmoaaaGreatDoor.L
open Go.RowKit Go.Shelf Go.Proofs.YtjhmphokmmmoaaaGreatDoor.N Go.Proofs.YtjhmphokmmmoaaaGreatDoor.U

theorem noAny_more {s : List UInt8} {p : Nat} (h : Lib.NoAny s [63, 35] p) (e t : List UInt8) (hs : s.drop p = e ++ t) (he : ∀ c ∈ e, ([63, 35] : List UInt8).contains c = false) : Lib.NoAny s [63, 35] (p + e.length) := fun j b hj hb => by
  by_cases hjp : j < p
  · exact h j b hjp hb
  · have h1 : (s.drop p)[j - p]? = some b := by rw [List.getElem?_drop, show p + (j - p) = j by omega]; exact hb
    rw [hs, List.getElem?_append_left (by omega)] at h1
    exact he b (List.mem_of_getElem? h1)
theorem drop_encs (ts : List Int) (k : Nat) : (encs ts).drop (encs (ts.take k)).length = encs (ts.drop k) := by
  conv => lhs; rw [← List.take_append_drop k ts]
  rw [List.take_append_drop, show encs ts = encs (ts.take k) ++ encs (ts.drop k) by rw [← encs_app, List.take_append_drop], List.drop_left]
set_option maxRecDepth 100000 in
set_option maxHeartbeats 4000000 in
theorem indexAny_short (ts : List Int) (hV : AllV ts) (w : World) (h8 : (encs ts).length ≤ 8) : Calls Tryz.prog 39 #[.string ⟨(encs ts).toArray⟩, .string ⟨#[63, 35]⟩] w fun e w' => e = .returned (.int .i64 (Lib.indexAny (encs ts) [63, 35])) ∧ Below w.heap.size w w' := by
  have hsz := arr_size (encs ts)
  have HU : Hid (Calls Tryz.prog 60 #[.int .i64 ((encs ts).length : Int)] w fun e w' => e = .returned (.bool false) ∧ w' = w) := by
    have h := Any.strings_shouldUseASCIISet { Tryz.lays153 with } ((encs ts).length : Int) w
    rw [decide_eq_false (by omega)] at h
    exact h
  have HHIT : Hid (∀ (p : Nat) (x : UInt8), Lib.NoAny (encs ts) [63, 35] p → (encs ts)[p]? = some x → ([63, 35] : List UInt8).contains x = true → Lib.indexAny (encs ts) [63, 35] = p) := fun p x h1 h2 h3 => Lib.indexAny_hit h1 h2 h3
  have HNO : Hid (Lib.NoAny (encs ts) [63, 35] (encs ts).length → Lib.indexAny (encs ts) [63, 35] = -1) := fun h => Lib.indexAny_none h
  obtain ⟨R, hR⟩ : ∃ R, Lib.indexAny (encs ts) [63, 35] = R := ⟨_, rfl⟩
  rw [hR] at HHIT HNO ⊢
  clear hR
  go_enter Tryz.func39, Tryz.ntmps39
  go_wp2_with (go_at_call 60; refine HU.out.mono ?_; rintro e w' ⟨rfl, hw'⟩; obtain rfl : w = w' := hw'.symm)
  go_loopw [9, 10] (fun _ _ wr => ∃ k : Nat, k ≤ ts.length ∧ Hid (Lib.NoAny (encs ts) [63, 35] (encs (ts.take k)).length) ∧ wr.heap[w.heap.size]? = some (.stringIter ⟨(encs ts).toArray⟩ (encs (ts.take k)).length) ∧ Below w.heap.size w wr ∧ w.heap.size < wr.heap.size) (fun _ _ wr => (encs ts).length - wr.iterPos w.heap.size)
  case atStart => exact ⟨0, by omega, Lib.NoAny.zero _ _, World.iter_heap _ _ _, (Below.refl _ w).alloc (Nat.le_refl _) _, by simp [World.iter]⟩
  case round =>
    obtain ⟨k, hk, hN, hit, hB, hz⟩ := hrel
    have hpl := enc_take_le ts k
    by_cases hlt : k < ts.length
    · obtain ⟨r, hr⟩ : ∃ r, ts[k] = r := ⟨_, rfl⟩
      have hvr : Utf8.valid r = true := by rw [← hr]; exact hV _ (List.getElem_mem hlt)
      have hbr := (valid_iff r).1 hvr
      have hdec : Utf8.decode ⟨(encs ts).toArray⟩ (encs (ts.take k)).length = (r.toNat, (enc r).length) := by
        rw [split_enc ts k hlt, hr]; exact decode_enc _ r hvr _
      have hnx : ∀ ty, (Instr.next (.pointer (some ⟨w.heap.size, 0, none⟩)) true ty).run Tryz.prog wr = _ := fun ty => Lib.run_next_any_at wr w.heap.size ⟨(encs ts).toArray⟩ (encs (ts.take k)).length ty hit (by rw [arr_size]; exact enc_lt hlt)
      rw [hdec] at hnx
      simp only at hnx
      have hpos : (encs (ts.take k)).length + (enc r).length = (encs (ts.take (k + 1))).length := by rw [take_enc ts k hlt, hr, List.length_append]
      have hdrop : (encs ts).drop (encs (ts.take k)).length = enc r ++ encs (ts.drop (k + 1)) := by rw [drop_encs, List.drop_eq_getElem_cons hlt, encs_cons, hr]
      have HGO : Hid ((∀ c ∈ enc r, ([63, 35] : List UInt8).contains c = false) → Lib.NoAny (encs ts) [63, 35] (encs (ts.take (k + 1))).length) := fun h => by
        rw [← hpos]; exact noAny_more hN.out _ _ hdrop h
      rw [hpos] at hnx
      have hpl2 := enc_take_le ts (k + 1)
      have hep := enc_pos r
      have hitX := Lib.iterAt_heap wr w.heap.size ⟨(encs ts).toArray⟩ (encs (ts.take k)).length (encs (ts.take (k + 1))).length hit
      have hgX := iterAt_grownV wr w.heap.size ⟨(encs ts).toArray⟩ (encs (ts.take (k + 1))).length
      have HIT : Hid (wr.heap[w.heap.size]? = some (.stringIter ⟨(encs ts).toArray⟩ (encs (ts.take k)).length)) := hit
      obtain ⟨X, hX⟩ : ∃ X, wr.iterAt w.heap.size ⟨(encs ts).toArray⟩ (encs (ts.take (k + 1))).length = X := ⟨_, rfl⟩
      rw [hX] at hnx hitX hgX
      have hBX : Below w.heap.size w X := hB.grown hgX hB.size (fun j hj => by cases hj; exact Nat.le_refl _)
      have HITX : Hid (X.heap[w.heap.size]? = some (.stringIter ⟨(encs ts).toArray⟩ (encs (ts.take (k + 1))).length)) := hitX
      have hzX := hgX.size
      have hrn : (r.toNat : Int) = r := by omega
      rw [hrn] at hnx
      by_cases ha : r < 128
      · obtain ⟨c, hc, hcr⟩ : ∃ c : UInt8, enc r = [c] ∧ r = (c.toNat : Int) := ⟨UInt8.ofNat r.toNat, enc_one (by omega) ha, by simp; omega⟩
        have hat : (encs ts)[(encs (ts.take k)).length]? = some c := by
          have h1 : ((encs ts).drop (encs (ts.take k)).length)[0]? = some c := by rw [hdrop, hc]; rfl
          rw [List.getElem?_drop, Nat.add_zero] at h1
          exact h1
        have HC := hid_of (indexRune_ascii c (by omega) X)
        have hi2 := index_two c
        have HH : Hid (([63, 35] : List UInt8).contains c = true → R = ((encs (ts.take k)).length : Int)) := fun h => HHIT.out _ c hN.out hat h
        rw [hc] at HGO
        have HG2 : Hid (([63, 35] : List UInt8).contains c = false → Lib.NoAny (encs ts) [63, 35] (encs (ts.take (k + 1))).length) := fun h => HGO.out (fun d hd => by simp at hd; subst hd; exact h)
        subst hcr
        obtain ⟨q, hq⟩ : ∃ q, ([63, 35] : List UInt8).contains c = q := ⟨_, rfl⟩
        have HQ := hid_of hq
        rw [hq] at hi2
        clear hq
        generalize Lib.indexByte [63, 35] c = ib at *
        clear hX hit hitX hgX hdec hrn hN hr hdrop hat HGO hc
        cases q
        · go_wp2_with (go_at_call 59; refine HC.out.mono ?_; rintro e w' ⟨rfl, hw'⟩; obtain rfl : X = w' := hw'.symm)
          go_roundw
          case rel => exact ⟨k + 1, by omega, HG2.out HQ.out, HITX.out, hBX, by omega⟩
          case measure => rw [iterPos_ofV HITX.out, iterPos_ofV HIT.out]; omega
        · go_wp2_with (go_at_call 59; refine HC.out.mono ?_; rintro e w' ⟨rfl, hw'⟩; obtain rfl : X = w' := hw'.symm)
          go_ret
          exact ⟨by rw [HH.out HQ.out]; rfl, hBX⟩
      · have HC := hid_of (indexRune_any r hvr (by omega) X)
        have HG2 := hid_of (HGO.out (fun d hd => by
          have h1 := enc_high (r := r) (by omega) d hd
          have : ∀ n : Fin 256, 128 ≤ n.val → ([63, 35] : List UInt8).contains (UInt8.ofNat n.val) = false := by decide +kernel
          have h2 := this ⟨d.toNat, d.toNat_lt⟩ h1
          simpa using h2))
        clear hX hit hitX hgX hdec hrn hN hr hdrop HGO
        go_wp2_with (go_at_call 59; refine HC.out.mono ?_; rintro e w5 ⟨rfl, hb5⟩)
        have hit5 := (hb5.block _ (by omega)).trans HITX.out
        have hz5 := hb5.size
        go_roundw
        case rel => exact ⟨k + 1, by omega, HG2, hit5, hBX.trans (hb5.mono hBX.size), by omega⟩
        case measure => rw [iterPos_ofV hit5, iterPos_ofV HIT.out]; omega
    · obtain rfl : k = ts.length := by omega
      rw [List.take_length] at hN hit
      have hnx : ∀ ty, (Instr.next (.pointer (some ⟨w.heap.size, 0, none⟩)) true ty).run Tryz.prog wr = _ := fun ty => Lib.run_next_end_at wr w.heap.size ⟨(encs ts).toArray⟩ (encs ts).length ty hit (by rw [arr_size]; omega)
      have HN := hid_of (HNO.out hN.out)
      clear hN
      go_wp2
      go_ret
      exact ⟨by rw [HN.out]; rfl, hB⟩
theorem indexAny_calls (ts : List Int) (hV : AllV ts) (w : World) (hl : (encs ts).length ≤ 1000000000) : Calls Tryz.prog 39 #[.string ⟨(encs ts).toArray⟩, .string ⟨#[63, 35]⟩] w fun e w' => e = .returned (.int .i64 (Lib.indexAny (encs ts) [63, 35])) ∧ Below w.heap.size w w' := by
  by_cases h8 : (encs ts).length ≤ 8
  · exact indexAny_short ts hV w h8
  · have h116 : (Tryz.prog.info? (Tryz.lays153_ren.t 116)).map (fun i => (i.zero, i.size)) = some (some (.agg (Array.replicate 256 (.bool false))), 256) := by kernel_rfl
    refine (Any.strings_IndexAny_long Tryz.lays153 (zero_of_info h116).1 (zero_of_info h116).2 ⟨(encs ts).toArray⟩ ⟨#[63, 35]⟩ w (by decide) (by rw [arr_size]; omega) (by rw [arr_size]; omega) (by decide) (fun j b hj => ?_)).mono fun e w' ⟨h1, h2⟩ => ⟨h1, ?_⟩
    · have hm : b ∈ ([63, 35] : List UInt8) := List.mem_of_getElem? hj
      simp at hm
      rcases hm with rfl | rfl <;> decide
    · rw [h2]
      exact ((Below.refl _ w).alloc (Nat.le_refl _) _).alloc (by simp) _
end Go.Proofs.YtjhmphokmmmoaaaGreatDoor.L
