/- What is proved here: the contracts of sieveref04.Fields and sieveref04.Collapse: the document's fields of a text. -/
import Derived.Test.YtdkcibafbdmajabGreatDoorNTrim
import Derived.Test.YtdkcibafbdmajabGreatDoorBun3
namespace Go.Proofs.YtdkcibafbdmajabGreatDoor.N
open Go.RowKit C

set_option maxRecDepth 100000 in
set_option maxHeartbeats 2000000 in
theorem rfields_calls (s : ByteArray) (w : World) (hs : (s.size : Int) ≤ 8000000000000) :
    Calls Tryz.prog 59 #[.string s] w fun e W' => ∃ v, e = .returned v ∧ OwnT w.heap.size W' v (fields s.data.toList) ∧ Below w.heap.size w W' := by
  obtain ⟨i0, hi, hz0, hz1, hz2⟩ := info_parts infoStr
  have HZ : Hid (s.data.toList.length = s.size) := size_data s
  obtain ⟨l, hl⟩ : ∃ l, s.data.toList = l := ⟨_, rfl⟩
  have HL : Hid (s.data.toList = l) := hl
  have HN : Hid (l.length = s.size) := by rw [← hl]; exact HZ.out
  rw [hl]
  clear hl
  go_enter Tryz.func59, Tryz.ntmps59
  go_wp2
  go_loopw [3, 4, 5] (fun v f i wr => ∃ (k fr : Nat) (L : List (List UInt8)), k ≤ s.size + 1 ∧ L.length ≤ k ∧ i = .int .i64 k ∧ f = .int .i64 fr ∧ Hid (OwnT w.heap.size wr v L) ∧ Below w.heap.size w wr ∧ Hid (k ≤ s.size → fr ≤ k ∧ L ++ fieldsFrom (l.drop k) (part l fr k) = fields l) ∧ Hid (k = s.size + 1 → L = fields l)) (fun _ _ i _ => s.size + 1 - (intOf i).toNat)
  case atStart => exact ⟨0, 0, [], by omega, by simp, rfl, rfl, World.ownsRow_nil _ _ _ _, Below.refl _ _, fun _ => ⟨Nat.le_refl _, by simp [part_none, fields]⟩, fun h => by omega⟩
  case round =>
    obtain ⟨k, fr, L, hk, hL, rfl, rfl, hO, hB, hF, hE⟩ := hrel
    have s1 := hB.size
    by_cases hlt : k < s.size
    · obtain ⟨hf, hF⟩ := hF.out (by omega)
      have hF : Hid (L ++ fieldsFrom (l.drop k) (part l fr k) = fields l) := hF
      clear hE
      obtain ⟨c, hcc⟩ : ∃ c, l.getD k 0 = c := ⟨_, rfl⟩
      have hix : ∀ w, (Instr.index 9 (.string s) (.int .i64 k)).run Tryz.prog w = .ok (.int .u8 c.toNat) w := fun w => run_byte w _ s _ k k c Tryz.underlying9 rfl hlt (by rw [HL.out]; exact hcc)
      have HC : Hid (l.getD k 0 = c) := hcc
      have hkl : Hid (k < l.length) := by have := HN.out; show k < l.length; omega
      clear hcc
      cases hb : blankB c with
      | false =>
        go_wp2_with (go_at_call 86; refine (rblankB_calls _ _).mono ?_; rintro e w' ⟨rfl, hw'⟩; have hx' := hw'.symm; subst hx')
        go_roundw
        case rel => exact ⟨k + 1, fr, L, by omega, by omega, by go_num, rfl, hO, hB, fun _ => ⟨by omega, by
          rw [part_succ l fr k hf hkl.out, ← ff_plain l _ k hkl.out (by rw [HC.out]; exact hb)]; exact hF.out⟩, fun h => by omega⟩
        case measure => simp [intOf]; omega
      | true =>
        by_cases hfk : fr < k
        · have hT : Hid (OwnT w.heap.size wr u3 L) := hO
          go_wp2_with (first
            | (go_at_call 86; refine (rblankB_calls _ _).mono ?_; rintro e w' ⟨rfl, hw'⟩; have hx' := hw'.symm; subst hx')
            | (at_builtin; refine wpList_append_own _ rfl _ _ 29 rfl w.heap.size 9 i0 (.string ⟨#[]⟩) 1 16 Tryz.underlying29 hi hz0 hz1 hz2 rfl (by decide) _ _ _ rfl (World.ownsRow.alloc hT.out _) ⟨wr.heap.size, 0, none⟩ 1 1 [_] rfl rfl (cell_one _ _ _ _ rfl) (by simp [Value.oneCell']) (by unfold maxLen; omega) (by omega) (by simp; omega) ?_; intro v' w4 hown' hgrow _))
          go_roundw
          case rel => exact ⟨k + 1, k + 1, L ++ [part l fr k], by omega, by simp; omega, by go_num, by go_num, by
            show w4.ownsRow _ _ _ _ _ _
            rw [svs_append, List.length_append]
            rw [part_extract, HL.out] at hown'
            exact hown', (hB.alloc (by omega) _).grown hgrow (by simp; omega) (fun j hj => (hT.out.lt j hj).1), fun _ => ⟨by omega, by
            rw [part_none, List.append_assoc, List.singleton_append, ← ff_blank l _ k hkl.out (by rw [HC.out]; exact hb) (fun e => by have := part_length l fr k (by have := hkl.out; omega); rw [e] at this; simp at this; omega)]; exact hF.out⟩, fun h => by omega⟩
          case measure => simp [intOf]; omega
        · obtain rfl : fr = k := by omega
          go_wp2_with (go_at_call 86; refine (rblankB_calls _ _).mono ?_; rintro e w' ⟨rfl, hw'⟩; have hx' := hw'.symm; subst hx')
          go_roundw
          case rel => exact ⟨fr + 1, fr + 1, L, by omega, by omega, by go_num, by go_num, hO, hB, fun _ => ⟨by omega, by
            have h := hF.out
            rw [part_none] at h ⊢
            rw [← ff_blank0 l fr hkl.out (by rw [HC.out]; exact hb)]; exact h⟩, fun h => by omega⟩
          case measure => simp [intOf]; omega
    · by_cases hle : k ≤ s.size
      · obtain rfl : k = s.size := by omega
        obtain ⟨hf, hF⟩ := hF.out (by omega)
        have hF : Hid (L ++ fieldsFrom (l.drop s.size) (part l fr s.size) = fields l) := hF
        clear hE
        by_cases hfk : fr < s.size
        · have hT : Hid (OwnT w.heap.size wr u3 L) := hO
          have HF2 : Hid (L ++ [part l fr s.size] = fields l) := by
            have h := hF.out
            rw [← HN.out, List.drop_length, ff_nil, if_neg (by rw [List.isEmpty_iff]; intro e; have := part_length l fr l.length (by omega); rw [e] at this; have := HN.out; simp at *; omega), HN.out] at h
            exact h
          go_wp2_with (at_builtin; refine wpList_append_own _ rfl _ _ 29 rfl w.heap.size 9 i0 (.string ⟨#[]⟩) 1 16 Tryz.underlying29 hi hz0 hz1 hz2 rfl (by decide) _ _ _ rfl (World.ownsRow.alloc hT.out _) ⟨wr.heap.size, 0, none⟩ 1 1 [_] rfl rfl (cell_one _ _ _ _ rfl) (by simp [Value.oneCell']) (by unfold maxLen; omega) (by omega) (by simp; omega) ?_; intro v' w4 hown' hgrow _)
          go_roundw
          case rel => exact ⟨s.size + 1, s.size + 1, L ++ [part l fr s.size], by omega, by simp; omega, by go_num, by go_num, by
            show w4.ownsRow _ _ _ _ _ _
            rw [svs_append, List.length_append]
            rw [part_extract, HL.out] at hown'
            exact hown', (hB.alloc (by omega) _).grown hgrow (by simp; omega) (fun j hj => (hT.out.lt j hj).1), fun h => by omega, fun _ => HF2.out⟩
          case measure => simp [intOf]
        · obtain rfl : fr = s.size := by omega
          have HF2 : Hid (L = fields l) := by
            have h := hF.out
            rw [part_none, ← HN.out, List.drop_length, ff_nil] at h
            show L = fields l
            simpa using h
          go_wp2
          go_roundw
          case rel => exact ⟨s.size + 1, s.size + 1, L, by omega, by omega, by go_num, by go_num, hO, hB, fun h => by omega, fun _ => HF2.out⟩
          case measure => simp [intOf]
      · obtain rfl : k = s.size + 1 := by omega
        have HE := hE.out rfl
        go_wp2
        go_ret
        exact ⟨_, rfl, by rw [← HE]; exact hO, hB⟩

theorem joinTail_snoc (r : List (List UInt8)) (x : List UInt8) : Lib.joinTail [32] (r ++ [x]) = Lib.joinTail [32] r ++ 32 :: x := by
  simp [Lib.joinTail]
theorem joined_snoc (ws : List (List UInt8)) (x : List UInt8) (h : ws ≠ []) : joined (ws ++ [x]) = joined ws ++ 32 :: x := by
  cases ws with
  | nil => exact absurd rfl h
  | cons y r =>
    unfold joined
    rw [List.cons_append, Lib.join_cons, Lib.join_cons, joinTail_snoc, List.append_assoc]
theorem joined_take_one (L : List (List UInt8)) (h : 0 < L.length) : joined (L.take 1) = L[0] := by
  cases L with
  | nil => simp at h
  | cons x r => exact joined_one x
theorem joined_take (L : List (List UInt8)) (k : Nat) (h : k < L.length) (h0 : 0 < k) : joined (L.take (k + 1)) = joined (L.take k) ++ 32 :: L[k] := by
  rw [List.take_succ_eq_append_getElem h, joined_snoc]
  intro e
  have := congrArg List.length e
  rw [List.length_take, List.length_nil] at this
  omega
theorem joined_take_le (L : List (List UInt8)) (k : Nat) : (joined (L.take k)).length ≤ Lib.lens L + L.length := by
  have h1 := joined_length (L.take k)
  have h2 := Lib.lens_take_le L k
  have : (L.take k).length ≤ L.length := by rw [List.length_take]; omega
  omega
theorem data_two (o f : ByteArray) : (o ++ (⟨#[32]⟩ : ByteArray) ++ f).data.toList = o.data.toList ++ 32 :: f.data.toList := by
  rw [ByteArray.data_append, ByteArray.data_append, Array.toList_append, Array.toList_append]
  simp
theorem data_first (o f : ByteArray) (h : o.data.toList = []) : (o ++ f).data.toList = f.data.toList := by
  rw [ByteArray.data_append, Array.toList_append, h, List.nil_append]

/-- Texts in memory. -/
def HasT (w : World) (v : Value) (L : List (List UInt8)) : Prop :=
  (L = [] ∧ ∃ a cap, v = .slice a 0 cap) ∨ ∃ b cap, v = .slice (some ⟨b, 0, none⟩) L.length cap ∧ L.length ≤ cap ∧ b < w.heap.size ∧ ∀ j (h : j < L.length), w.cell? ⟨b, j, none⟩ = some (.string ⟨L[j].toArray⟩)
theorem HasT.of {base : Nat} {w : World} {v : Value} {L : List (List UInt8)} (h : OwnT base w v L) : HasT w v L := by
  by_cases h0 : L.length = 0
  · obtain ⟨a, c, rfl⟩ := owns_slice h
    exact .inl ⟨List.length_eq_zero_iff.1 h0, a, c, by rw [h0]⟩
  · rcases h.2 with ⟨rfl, e0⟩ | ⟨g, cap, cur, rfl, hb, hg, hcap, _⟩
    · omega
    · refine .inr ⟨g, cap, rfl, hcap, lt_of_block hg, fun j hj => ?_⟩
      rw [World.ownsRow.cellAt h j (by omega)]
      simp [svs, hj]
theorem HasT.below {A B : World} {v : Value} {L : List (List UInt8)} (h : HasT A v L) (hb : Below A.heap.size A B) : HasT B v L := by
  rcases h with h | ⟨b, cap, h1, h2, h3, h4⟩
  · exact .inl h
  · exact .inr ⟨b, cap, h1, h2, Nat.lt_of_lt_of_le h3 hb.size, fun j hj => (hb.cell (p := ⟨b, j, none⟩) h3).trans (h4 j hj)⟩
theorem HasT.slice {w : World} {v : Value} {L : List (List UInt8)} (h : HasT w v L) : ∃ a cap, v = .slice a L.length cap := by
  rcases h with ⟨rfl, a, c, h⟩ | ⟨b, cap, h, _⟩
  · exact ⟨a, c, h⟩
  · exact ⟨_, cap, h⟩
theorem HasT.at {w : World} {a : Option Addr} {n cap : Nat} {L : List (List UInt8)} (h : HasT w (.slice a n cap) L) (h0 : 0 < L.length) : ∃ b, a = some ⟨b, 0, none⟩ ∧ b < w.heap.size ∧ L.length ≤ cap ∧ ∀ j (h : j < L.length), w.cell? ⟨b, j, none⟩ = some (.string ⟨L[j].toArray⟩) := by
  rcases h with ⟨rfl, _⟩ | ⟨b, c, h1, h2, h3, h4⟩
  · simp at h0
  · simp only [Value.slice.injEq] at h1
    obtain ⟨rfl, rfl, rfl⟩ := h1
    exact ⟨b, rfl, h3, h2, h4⟩

end Go.Proofs.YtdkcibafbdmajabGreatDoor.N
