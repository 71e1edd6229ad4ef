/- What is proved here: the contract of the document's Tokens: the words of a value, in a row of their own. -/
import Derived.Test.YtfbfigjjnpamiaaGreatDoorVWords
namespace Go.Proofs.YtfbfigjjnpamiaaGreatDoor.V
open Go.RowKit Go.Shelf Go.Proofs.YtfbfigjjnpamiaaGreatDoor.N Go.Proofs.YtfbfigjjnpamiaaGreatDoor.U Go.Proofs.YtfbfigjjnpamiaaGreatDoor.L

set_option maxRecDepth 100000 in
set_option maxHeartbeats 4000000 in
/-- **The document's Tokens.** -/
theorem rTokens_calls (bs : List UInt8) (w : World) (hl : bs.length ≤ 10000000000) :
    Calls Tryz.prog 10 #[.string ⟨bs.toArray⟩] w fun e W' => ∃ v, e = .returned v ∧ OwnT w.heap.size W' v (fields (clB bs)) ∧ Below w.heap.size w W' := by
  obtain ⟨i0, hi, hz0, hz1, hz2⟩ := N.info_parts N.infoStr
  have HC := hid_of (rclean_calls bs w (by omega))
  have hcl := clB_len bs
  obtain ⟨l, hL⟩ : ∃ l, clB bs = l := ⟨_, rfl⟩
  rw [hL] at HC hcl ⊢
  have hsz := byteArr_size l
  clear hL
  go_enter Tryz.func10, Tryz.ntmps10
  go_wp2_with (go_at_call 22; refine HC.out.mono ?_; rintro e w1 ⟨rfl, hb1⟩)
  clear HC
  have s1 := hb1.size
  go_loopw [4, 5, 6] (fun v wd i wr => ∃ (k : Nat) (W : List UInt8) (L : List (List UInt8)), k ≤ l.length + 1 ∧ L.length ≤ k ∧ W.length ≤ k ∧ i = .int .i64 k ∧ wd = .string ⟨W.toArray⟩ ∧ Hid (OwnT w.heap.size wr v L) ∧ Below w.heap.size w wr ∧ Hid (k ≤ l.length → L ++ fieldsFrom (l.drop k) W = fields l) ∧ Hid (k = l.length + 1 → L = fields l)) (fun _ _ i _ => l.length + 1 - (intOf i).toNat)
  case atStart => exact ⟨0, [], [], by omega, by simp, by simp, rfl, rfl, World.ownsRow_nil _ _ _ _, hb1, fun _ => rfl, fun h => by omega⟩
  case round =>
    obtain ⟨k, W, L, hk, hLk, hWk, rfl, rfl, hO, hB, hF, hE⟩ := hrel
    have s2 := hB.size
    by_cases hle : k ≤ l.length
    · have hFk := hF.out hle
      have hle' : decide ((k : Int) ≤ (l.length : Int)) = true := by rw [decide_eq_true_eq]; omega
      clear hF hE
      by_cases hlt : k < l.length
      · obtain ⟨c, hc⟩ : ∃ c, l.getD k 0 = c := ⟨_, rfl⟩
        have hix : ∀ w, (Instr.index 9 (.string ⟨l.toArray⟩) (.int .i64 k)).run Tryz.prog w = .ok (.int .u8 c.toNat) w := fun w => Go.Proofs.YtfbfigjjnpamiaaGreatDoor.L.byte_at l k c hlt hc k rfl w
        have hlt' : decide ((k : Int) < (l.length : Int)) = true := by rw [decide_eq_true_eq]; omega
        rw [drop_step l k hlt, hc, ff_cons] at hFk
        cases hb : blankB c with
        | false =>
          rw [hb, if_neg (by decide)] at hFk
          have HF2 : Hid (L ++ fieldsFrom (l.drop (k + 1)) (W ++ [c]) = fields l) := hFk
          have hsl : ∀ w, (Instr.slice 9 (.string ⟨l.toArray⟩) (some (.int .i64 k)) (some (.int .i64 ((k : Int) + 1))) none).run Tryz.prog w = .ok (.string ⟨#[c]⟩) w := fun w => by
            rw [slice_lh l k (k + 1) (by omega) (by omega) k ((k : Int) + 1) rfl (by omega) w]
            have e : (l.drop k).take (k + 1 - k) = [c] := by
              have := N.part_succ l k k (Nat.le_refl _) hlt
              rw [N.part_none, hc] at this
              exact this
            rw [List.drop_take, e]
          have HCAT : Hid ((⟨W.toArray⟩ : ByteArray) ++ (⟨#[c]⟩ : ByteArray) = ⟨(W ++ [c]).toArray⟩) := by
            show _ = _
            apply ByteArray.ext
            rw [ByteArray.data_append]
            simp
          clear hFk hc
          go_wp2_with (go_at_call 25; refine (rblank_calls _ _).mono ?_; rintro e w' ⟨rfl, hw'⟩; have hx' := hw'.symm; subst hx')
          go_roundw
          case rel => exact ⟨k + 1, W ++ [c], L, by omega, by omega, by simp; omega, by go_num, by rw [← HCAT.out], hO, hB, fun _ => HF2.out, fun h => by omega⟩
          case measure => simp [intOf]; omega
        | true =>
          rw [hb, if_pos (by decide)] at hFk
          clear hc
          cases W with
          | nil =>
            rw [if_pos (by rfl)] at hFk
            have HF2 : Hid (L ++ fieldsFrom (l.drop (k + 1)) [] = fields l) := hFk
            clear hFk
            go_wp2_with (go_at_call 25; refine (rblank_calls _ _).mono ?_; rintro e w' ⟨rfl, hw'⟩; have hx' := hw'.symm; subst hx')
            go_roundw
            case rel => exact ⟨k + 1, [], L, by omega, by omega, by simp, by go_num, rfl, hO, hB, fun _ => HF2.out, fun h => by omega⟩
            case measure => simp [intOf]; omega
          | cons y t =>
            rw [if_neg (by simp)] at hFk
            have HF2 : Hid ((L ++ [y :: t]) ++ fieldsFrom (l.drop (k + 1)) [] = fields l) := by show _ = _; rw [List.append_assoc]; exact hFk
            have hT : Hid (OwnT w.heap.size wr u4 L) := hO
            have hne : ((⟨(y :: t).toArray⟩ : ByteArray).toList != (⟨#[]⟩ : ByteArray).toList) = true := by
              rw [show (⟨(y :: t).toArray⟩ : ByteArray).toList = y :: t from toList_mk (y :: t), show (⟨#[]⟩ : ByteArray).toList = [] from toList_mk []]; rfl
            clear hFk
            generalize y :: t = W at *
            have he : W.isEmpty = false := by
              have := hne
              rw [show (⟨W.toArray⟩ : ByteArray).toList = W from toList_mk W, show (⟨#[]⟩ : ByteArray).toList = [] from toList_mk []] at this
              cases W with | nil => simp at this | cons _ _ => rfl
            clear hne
            go_wp2_with (first
              | (go_at_call 25; refine (rblank_calls _ _).mono ?_; rintro e w' ⟨rfl, hw'⟩; have hx' := hw'.symm; subst hx')
              | (at_builtin; refine wpList_append_own _ rfl _ _ 23 rfl w.heap.size 9 i0 (.string ⟨#[]⟩) 1 16 Tryz.underlying23 hi hz0 hz1 hz2 rfl (by decide) _ _ _ rfl (World.ownsRow.alloc hT.out _) ⟨wr.heap.size, 0, none⟩ 1 1 [_] rfl rfl (N.cell_one _ _ _ _ rfl) (by simp [Value.oneCell']) (by unfold maxLen; omega) (by omega) (by simp; omega) ?_; intro v' w4 hown' hgrow _))
            go_roundw
            case rel => exact ⟨k + 1, [], L ++ [W], by omega, by simp; omega, by simp, by go_num, rfl, by
              show w4.ownsRow _ _ _ _ _ _
              rw [svs_append, List.length_append]
              exact hown', (hB.alloc (by omega) _).grown hgrow (by simp; omega) (fun j hj => (World.ownsRow.lt hT.out j hj).1), fun _ => HF2.out, fun h => by omega⟩
            case measure => simp [intOf]; omega
      · obtain rfl : k = l.length := by omega
        have hlt' : decide ((l.length : Int) < (l.length : Int)) = false := by rw [decide_eq_false_iff_not]; omega
        rw [List.drop_length, ff_nil] at hFk
        cases W with
        | nil =>
          rw [if_pos (by rfl), List.append_nil] at hFk
          have HF2 : Hid (L = fields l) := hFk
          clear hFk
          go_wp2
          go_roundw
          case rel => exact ⟨l.length + 1, [], L, by omega, by omega, by simp, by go_num, rfl, hO, hB, fun h => by omega, fun _ => HF2.out⟩
          case measure => simp [intOf]
        | cons y t =>
          rw [if_neg (by simp)] at hFk
          have HF2 : Hid (L ++ [y :: t] = fields l) := hFk
          have hT : Hid (OwnT w.heap.size wr u4 L) := hO
          obtain ⟨W, hW⟩ : ∃ W, y :: t = W := ⟨_, rfl⟩
          have he : W.isEmpty = false := by rw [← hW]; rfl
          rw [hW] at HF2 hWk ⊢
          clear hFk hW
          go_wp2_with (at_builtin; refine wpList_append_own _ rfl _ _ 23 rfl w.heap.size 9 i0 (.string ⟨#[]⟩) 1 16 Tryz.underlying23 hi hz0 hz1 hz2 rfl (by decide) _ _ _ rfl (World.ownsRow.alloc hT.out _) ⟨wr.heap.size, 0, none⟩ 1 1 [_] rfl rfl (N.cell_one _ _ _ _ rfl) (by simp [Value.oneCell']) (by unfold maxLen; omega) (by omega) (by simp; omega) ?_; intro v' w4 hown' hgrow _)
          go_roundw
          case rel => exact ⟨l.length + 1, [], L ++ [W], by omega, by simp; omega, by simp, by go_num, rfl, by
            show w4.ownsRow _ _ _ _ _ _
            rw [svs_append, List.length_append]
            exact hown', (hB.alloc (by omega) _).grown hgrow (by simp; omega) (fun j hj => (World.ownsRow.lt hT.out j hj).1), fun h => by omega, fun _ => HF2.out⟩
          case measure => simp [intOf]
    · obtain rfl : k = l.length + 1 := by omega
      have HF2 := hid_of (hE.out rfl)
      have hle' : decide (((l.length + 1 : Nat) : Int) ≤ (l.length : Int)) = false := by rw [decide_eq_false_iff_not]; omega
      clear hF hE
      go_wp2
      go_ret
      exact ⟨_, rfl, by rw [← HF2.out]; exact hO, hB⟩
end Go.Proofs.YtfbfigjjnpamiaaGreatDoor.V
