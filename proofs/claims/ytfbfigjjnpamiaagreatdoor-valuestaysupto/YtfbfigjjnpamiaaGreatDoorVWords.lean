/- What is proved here: the contracts of value.words, value.Tokens and of the document's Tokens: the words of a value, in a row of their own. -/
import Derived.Test.YtfbfigjjnpamiaaGreatDoorVNum
import Derived.Test.YtfbfigjjnpamiaaGreatDoorVSame
namespace Go.Proofs.YtfbfigjjnpamiaaGreatDoor.V
open Go.RowKit Go.Shelf Go.Proofs.YtfbfigjjnpamiaaGreatDoor.N Go.Proofs.YtfbfigjjnpamiaaGreatDoor.U Go.Proofs.YtfbfigjjnpamiaaGreatDoor.L

theorem blank_enc (r : Int) (_hv : Utf8.valid r = true) (h : blankZ r = true) : ∃ c, enc r = [c] ∧ blankB c = true := by
  have hr : r = 9 ∨ r = 10 ∨ r = 12 ∨ r = 32 := by unfold blankZ at h; simpa using h
  refine ⟨UInt8.ofNat r.toNat, enc_one (by omega) (by omega), ?_⟩
  rcases hr with rfl | rfl | rfl | rfl <;> decide
theorem plain_enc (r : Int) (h : blankZ r = false) : ∀ c ∈ enc r, blankB c = false := fun c hc => by
  have hr : ¬ (r = 9 ∨ r = 10 ∨ r = 12 ∨ r = 32) := by unfold blankZ at h; simpa using h
  by_cases ha : 0 ≤ r ∧ r < 128
  · rw [enc_one ha.1 ha.2] at hc
    simp at hc
    subst hc
    rw [blankB_nat, decide_eq_false_iff_not]
    have : (UInt8.ofNat r.toNat).toNat = r.toNat := by simp; omega
    rw [this]
    omega
  · have := enc_high ha c hc
    rw [blankB_nat, decide_eq_false_iff_not]
    omega
theorem drop_enc (ts : List Int) (k : Nat) (h : k < ts.length) : encs (ts.drop k) = enc ts[k] ++ encs (ts.drop (k + 1)) := by
  rw [List.drop_eq_getElem_cons h, encs_cons]
theorem part_enc (ts : List Int) (k fr : Nat) (h : k < ts.length) (hf : fr ≤ (encs (ts.take k)).length) : N.part (encs ts) fr (encs (ts.take (k + 1))).length = N.part (encs ts) fr (encs (ts.take k)).length ++ enc ts[k] := by
  have e := split_enc ts k h
  rw [take_enc ts k h, List.length_append]
  generalize encs (ts.take k) = A at *
  generalize enc ts[k] = E at *
  generalize encs (ts.drop (k + 1)) = B at *
  rw [e]
  unfold N.part
  rw [List.drop_append_of_le_length hf]
  have h1 : (A.drop fr).length = A.length - fr := by simp
  have h2 : A.length + E.length - fr = (A.drop fr).length + E.length := by rw [h1]; omega
  rw [h2, ← h1, List.take_left, List.take_append, List.take_of_length_le (by omega)]
  congr 1
  rw [Nat.add_sub_cancel_left, List.take_left]
theorem part_full {l : List UInt8} {a b : Nat} (h : b ≤ l.length) (hab : a < b) : N.part l a b ≠ [] := fun e => by
  have := part_length l a b h
  rw [e] at this
  simp at this
  omega
theorem own_less {a b : Nat} {w : World} {v : Value} {L : List (List UInt8)} (h : OwnT b w v L) (hab : a ≤ b) : OwnT a w v L :=
  ⟨h.1, h.2.imp id (fun ⟨g, cap, cur, e1, e2, e3⟩ => ⟨g, cap, cur, e1, by omega, e3⟩)⟩
set_option maxRecDepth 100000 in
set_option maxHeartbeats 4000000 in
/-- **words of a text of runes.** -/
theorem words_calls (ts : List Int) (hV : AllV ts) (w : World) (hl : (encs ts).length ≤ 100000000000) :
    Calls Tryz.prog 23 #[.string ⟨(encs ts).toArray⟩] w fun e W' => ∃ v, e = .returned v ∧ OwnT w.heap.size W' v (fields (encs ts)) ∧ Below w.heap.size w W' := by
  obtain ⟨i0, hi, hz0, hz1, hz2⟩ := N.info_parts N.infoStr
  have hsz := byteArr_size (encs ts)
  go_enter Tryz.func23, Tryz.ntmps23
  go_wp2
  go_loopw [3, 4, 5, 6] (fun v f _ _ wr => ∃ (k fr : Nat) (L : List (List UInt8)), k ≤ ts.length ∧ fr ≤ (encs (ts.take k)).length ∧ L.length ≤ (encs (ts.take k)).length ∧ f = .int .i64 fr ∧ wr.heap[w.heap.size]? = some (.stringIter ⟨(encs ts).toArray⟩ (encs (ts.take k)).length) ∧ Hid (OwnT (w.heap.size + 1) wr v L) ∧ Below w.heap.size w wr ∧ w.heap.size < wr.heap.size ∧ Hid (L ++ fieldsFrom (encs (ts.drop k)) (N.part (encs ts) fr (encs (ts.take k)).length) = fields (encs ts))) (fun _ _ _ _ wr => (encs ts).length - wr.iterPos w.heap.size)
  case atStart => exact ⟨0, 0, [], by omega, by omega, by simp, rfl, World.iter_heap _ _ _, World.ownsRow_nil _ _ _ _, (Below.refl _ w).alloc (Nat.le_refl _) _, by simp [World.iter], by simp [Hid, N.part, fields, encs]⟩
  case round =>
    obtain ⟨k, fr, L, hk, hf, hL, rfl, hit, hO, hB, hz, hF⟩ := hrel
    have hpl := enc_take_le ts k
    by_cases hlt : k < ts.length
    · obtain ⟨r, hr⟩ : ∃ r, ts[k] = r := ⟨_, rfl⟩
      have hvr : Utf8.valid r = true := by rw [← hr]; exact hV _ (List.getElem_mem hlt)
      have hbr := (valid_iff r).1 hvr
      have hdec : Utf8.decode ⟨(encs ts).toArray⟩ (encs (ts.take k)).length = (r.toNat, (enc r).length) := by
        rw [split_enc ts k hlt, hr]; exact decode_enc _ r hvr _
      have hnx : ∀ ty, (Instr.next (.pointer (some ⟨w.heap.size, 0, none⟩)) true ty).run Tryz.prog wr = _ := fun ty => Lib.run_next_any_at wr w.heap.size ⟨(encs ts).toArray⟩ (encs (ts.take k)).length ty hit (by rw [hsz]; exact enc_lt hlt)
      rw [hdec] at hnx
      simp only at hnx
      have hpos : (encs (ts.take k)).length + (enc r).length = (encs (ts.take (k + 1))).length := by rw [take_enc ts k hlt, hr, List.length_append]
      rw [hpos] at hnx
      have hpl2 := enc_take_le ts (k + 1)
      have hep := enc_pos r
      have hitX := Lib.iterAt_heap wr w.heap.size ⟨(encs ts).toArray⟩ (encs (ts.take k)).length (encs (ts.take (k + 1))).length hit
      have hgX := iterAt_grownV wr w.heap.size ⟨(encs ts).toArray⟩ (encs (ts.take (k + 1))).length
      have HIT : Hid (wr.heap[w.heap.size]? = some (.stringIter ⟨(encs ts).toArray⟩ (encs (ts.take k)).length)) := hit
      obtain ⟨X, hX⟩ : ∃ X, wr.iterAt w.heap.size ⟨(encs ts).toArray⟩ (encs (ts.take (k + 1))).length = X := ⟨_, rfl⟩
      rw [hX] at hnx hitX hgX
      have hBX : Below w.heap.size w X := hB.grown hgX hB.size (fun j hj => by cases hj; exact Nat.le_refl _)
      have HITX : Hid (X.heap[w.heap.size]? = some (.stringIter ⟨(encs ts).toArray⟩ (encs (ts.take (k + 1))).length)) := hitX
      have hzX := hgX.size
      have HOX : Hid (OwnT (w.heap.size + 1) X u3 L) := World.ownsRow.kept hO.out hgX (by
        cases e : Value.ownBlock _ with
        | none => exact .inl rfl
        | some j => exact .inr (fun e' => by cases e'; have := (World.ownsRow.lt hO.out _ e).1; omega))
      have hrn : (r.toNat : Int) = r := by omega
      rw [hrn] at hnx
      have hde := drop_enc ts k hlt
      rw [hr] at hde
      have hpe := part_enc ts k fr hlt hf
      rw [hr] at hpe
      have hFk := hF.out
      rw [hde] at hFk
      have HS := byteArr_size (encs ts)
      have HX : Hid (∀ a b, (⟨(encs ts).toArray⟩ : ByteArray).extract a b = ⟨(N.part (encs ts) a b).toArray⟩) := fun a b => by rw [part_extract]
      clear hX hit hitX hgX hdec hrn hde hO hF hr
      cases hb : blankZ r with
      | false =>
        have HF2 : Hid (L ++ fieldsFrom (encs (ts.drop (k + 1))) (N.part (encs ts) fr (encs (ts.take (k + 1))).length) = fields (encs ts)) := by
          show _ = _
          rw [hpe, ← ff_run _ _ _ (plain_enc r hb)]
          exact hFk
        clear hFk hpe hvr
        go_wp2_with (go_at_call 37; refine (isBlank_calls _ _).mono ?_; rintro e w' ⟨rfl, hw'⟩; obtain rfl : X = w' := hw'.symm)
        go_roundw
        case rel => exact ⟨k + 1, fr, L, by omega, by omega, by omega, rfl, by exact HITX.out, HOX, hBX, by omega, by exact HF2⟩
        case measure => rw [iterPos_ofV HITX.out, iterPos_ofV HIT.out]; omega
      | true =>
        obtain ⟨c, hec, hcb⟩ := blank_enc r hvr hb
        rw [hec, List.singleton_append, ff_cons, if_pos hcb] at hFk
        have hp1 : (encs (ts.take (k + 1))).length = (encs (ts.take k)).length + 1 := by rw [hec] at hpos; simpa using hpos.symm
        by_cases hfk : fr < (encs (ts.take k)).length
        · have HF2 : Hid ((L ++ [N.part (encs ts) fr (encs (ts.take k)).length]) ++ fieldsFrom (encs (ts.drop (k + 1))) (N.part (encs ts) ((encs (ts.take k)).length + 1) (encs (ts.take (k + 1))).length) = fields (encs ts)) := by
            show _ = _
            rw [hp1, part_none, List.append_assoc, List.singleton_append]
            rw [if_neg (by rw [List.isEmpty_iff]; exact part_full hpl hfk)] at hFk
            exact hFk
          have hlt2 : decide ((fr : Int) < ((encs (ts.take k)).length : Int)) = true := by rw [decide_eq_true_eq]; omega
          clear hFk hpe hvr hec hpos
          go_wp2_with (first
            | (go_at_call 37; refine (isBlank_calls _ _).mono ?_; rintro e w' ⟨rfl, hw'⟩; obtain rfl : X = w' := hw'.symm)
            | (at_builtin; refine wpList_append_own _ rfl _ _ 23 rfl (w.heap.size + 1) 9 i0 (.string ⟨#[]⟩) 1 16 Tryz.underlying23 hi hz0 hz1 hz2 rfl (by decide) _ _ _ rfl (World.ownsRow.alloc HOX.out _) ⟨X.heap.size, 0, none⟩ 1 1 [_] rfl rfl (N.cell_one _ _ _ _ rfl) (by simp [Value.oneCell']) (by unfold maxLen; omega) (by omega) (by simp; omega) ?_; intro v' w4 hown' hgrow _))
          have hz4 := hgrow.size
          have hit4 : w4.heap[w.heap.size]? = some (.stringIter ⟨(encs ts).toArray⟩ (encs (ts.take (k + 1))).length) := by
            rw [hgrow.block _ (by simp; omega) (fun e => by have := (World.ownsRow.lt HOX.out _ e.symm).1; omega), Below.heap_alloc _ _ _ (by omega)]
            exact HITX.out
          simp at hz4
          go_roundw
          case rel => exact ⟨k + 1, (encs (ts.take k)).length + 1, L ++ [N.part (encs ts) fr (encs (ts.take k)).length], by omega, by omega, by simp; omega, by go_num, by exact hit4, by
            show w4.ownsRow _ _ _ _ _ _
            rw [svs_append, List.length_append]
            first | exact hown' | (rw [HX.out] at hown'; exact hown'), (hBX.alloc hBX.size _).grown hgrow (by have := hBX.size; simp; omega) (fun j hj => by have := (World.ownsRow.lt HOX.out j hj).1; omega), by omega, by exact HF2⟩
          case measure => rw [iterPos_ofV hit4, iterPos_ofV HIT.out]; omega
        · have hfp : fr = (encs (ts.take k)).length := by omega
          have HF2 : Hid (L ++ fieldsFrom (encs (ts.drop (k + 1))) (N.part (encs ts) (fr + 1) (encs (ts.take (k + 1))).length) = fields (encs ts)) := by
            show _ = _
            rw [hp1, hfp, part_none]
            rw [hfp, part_none, if_pos (by rfl)] at hFk
            exact hFk
          have hlt2 : decide ((fr : Int) < ((encs (ts.take k)).length : Int)) = false := by rw [decide_eq_false_iff_not]; omega
          clear hFk hpe hvr hec hpos
          go_wp2_with (go_at_call 37; refine (isBlank_calls _ _).mono ?_; rintro e w' ⟨rfl, hw'⟩; obtain rfl : X = w' := hw'.symm)
          go_roundw
          case rel => exact ⟨k + 1, fr + 1, L, by omega, by omega, by omega, by go_num, by exact HITX.out, HOX, hBX, by omega, by exact HF2⟩
          case measure => rw [iterPos_ofV HITX.out, iterPos_ofV HIT.out]; omega
    · obtain rfl : k = ts.length := by omega
      rw [List.take_length] at hf hL hit
      have hFk := hF.out
      rw [List.take_length, List.drop_length, show encs [] = [] from rfl, ff_nil] at hFk
      have HS := byteArr_size (encs ts)
      have HX : Hid (∀ a b, (⟨(encs ts).toArray⟩ : ByteArray).extract a b = ⟨(N.part (encs ts) a b).toArray⟩) := fun a b => by rw [part_extract]
      have hnx : ∀ ty, (Instr.next (.pointer (some ⟨w.heap.size, 0, none⟩)) true ty).run Tryz.prog wr = _ := fun ty => Lib.run_next_end_at wr w.heap.size ⟨(encs ts).toArray⟩ (encs ts).length ty hit (by rw [HS]; omega)
      clear hF
      by_cases hfr : fr < (encs ts).length
      · have HF2 : Hid (fields (encs ts) = L ++ [N.part (encs ts) fr (encs ts).length]) := by
          rw [if_neg (by rw [List.isEmpty_iff]; exact part_full (Nat.le_refl _) hfr)] at hFk
          exact hFk.symm
        have hlt2 : decide ((fr : Int) < ((encs ts).length : Int)) = true := by rw [decide_eq_true_eq]; omega
        clear hFk
        go_wp2_with (at_builtin; refine wpList_append_own _ rfl _ _ 23 rfl (w.heap.size + 1) 9 i0 (.string ⟨#[]⟩) 1 16 Tryz.underlying23 hi hz0 hz1 hz2 rfl (by decide) _ _ _ rfl (World.ownsRow.alloc hO.out _) ⟨wr.heap.size, 0, none⟩ 1 1 [_] rfl rfl (N.cell_one _ _ _ _ rfl) (by simp [Value.oneCell']) (by unfold maxLen; omega) (by omega) (by simp; omega) ?_; intro v' w4 hown' hgrow _)
        go_ret
        refine ⟨_, rfl, own_less (b := w.heap.size + 1) ?_ (by omega), (hB.alloc hB.size _).grown hgrow (by have := hB.size; simp; omega) (fun j hj => by have := (World.ownsRow.lt hO.out j hj).1; omega)⟩
        rw [HF2.out]
        show w4.ownsRow _ _ _ _ _ _
        rw [svs_append, List.length_append]
        first | exact hown' | (rw [HX.out] at hown'; exact hown')
      · have hfp : fr = (encs ts).length := by omega
        have HF2 : Hid (fields (encs ts) = L) := by
          rw [hfp, part_none, if_pos (by rfl), List.append_nil] at hFk
          exact hFk.symm
        have hlt2 : decide ((fr : Int) < ((encs ts).length : Int)) = false := by rw [decide_eq_false_iff_not]; omega
        clear hFk
        go_wp2
        go_ret
        exact ⟨_, rfl, by rw [HF2.out]; exact own_less hO.out (by omega), hB⟩
set_option maxRecDepth 100000 in
set_option maxHeartbeats 1000000 in
/-- **Tokens.** -/
theorem Tokens_calls (bs : List UInt8) (w : World) (hT : Tb w) (hl : bs.length ≤ 10000000000) :
    Calls Tryz.prog 9 #[.string ⟨bs.toArray⟩] w fun e W' => ∃ v, e = .returned v ∧ OwnT w.heap.size W' v (fields (clB bs)) ∧ Below w.heap.size w W' := by
  have HC := hid_of (clean_calls bs w hT hl)
  have hcl := clB_len bs
  clear hT
  go_enter Tryz.func9, Tryz.ntmps9
  go_wp2_with fail
  go_at_call 24
  refine HC.out.mono ?_
  rintro e w1 ⟨rfl, hb1⟩
  go_wp2_with fail
  go_at_call 23
  refine (words_calls (clR bs) (clR_valid bs) w1 (by show (clB bs).length ≤ _; omega)).mono ?_
  rintro e w2 ⟨v, rfl, hO, hb2⟩
  go_wp2
  go_ret
  exact ⟨_, rfl, own_less hO hb1.size, hb1.trans (hb2.mono hb1.size)⟩
end Go.Proofs.YtfbfigjjnpamiaaGreatDoor.V
