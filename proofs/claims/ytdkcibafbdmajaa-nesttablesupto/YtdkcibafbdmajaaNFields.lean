/- What is proved here: the contract of names.Fields: the fields of any text, in a row of their own. -/
import Derived.Test.YtdkcibafbdmajaaCBase
import Derived.Test.YtdkcibafbdmajaaNForms
namespace Go.Proofs.Ytdkcibafbdmajaa.N
open Go.RowKit C

/-- A part of a text. -/
def part (l : List UInt8) (a b : Nat) : List UInt8 := (l.drop a).take (b - a)
theorem part_none (l : List UInt8) (a : Nat) : part l a a = [] := by simp [part]
theorem part_length (l : List UInt8) (a b : Nat) (h : b ≤ l.length) : (part l a b).length = b - a := by simp [part]; omega
theorem part_succ (l : List UInt8) (a k : Nat) (h : a ≤ k) (hk : k < l.length) : part l a (k + 1) = part l a k ++ [l.getD k 0] := by
  unfold part
  have e : k + 1 - a = (k - a) + 1 := by omega
  have hd : k - a < (l.drop a).length := by simp; omega
  rw [e, List.take_succ_eq_append_getElem hd]
  congr 2
  simp [List.getD, hk]
  congr 1
  omega
theorem part_end (l : List UInt8) (a : Nat) : part l a l.length = l.drop a := by
  unfold part
  rw [List.take_of_length_le (by simp)]
theorem part_extract (s : ByteArray) (a b : Nat) : s.extract a b = ⟨(part s.data.toList a b).toArray⟩ := Lib.extract_eq s a b
theorem drop_step (l : List UInt8) (k : Nat) (h : k < l.length) : l.drop k = l.getD k 0 :: l.drop (k + 1) := by
  rw [List.drop_eq_getElem_cons h]
  simp [List.getD, h]
theorem ff_plain (l w : List UInt8) (k : Nat) (h : k < l.length) (hc : blankB (l.getD k 0) = false) : fieldsFrom (l.drop k) w = fieldsFrom (l.drop (k + 1)) (w ++ [l.getD k 0]) := by
  rw [drop_step l k h, ff_cons, if_neg (by rw [hc]; decide)]
theorem ff_blank (l w : List UInt8) (k : Nat) (h : k < l.length) (hc : blankB (l.getD k 0) = true) (hw : w ≠ []) : fieldsFrom (l.drop k) w = w :: fieldsFrom (l.drop (k + 1)) [] := by
  rw [drop_step l k h, ff_cons, if_pos hc, if_neg (by simpa using hw)]
theorem ff_blank0 (l : List UInt8) (k : Nat) (h : k < l.length) (hc : blankB (l.getD k 0) = true) : fieldsFrom (l.drop k) [] = fieldsFrom (l.drop (k + 1)) [] := by
  rw [drop_step l k h, ff_cons, if_pos hc]; rfl
theorem blank_eq (c : UInt8) : blankZ (wrap32 (c.toNat : Int)) = blankB c := by
  have hc := c.toNat_lt
  have hw : wrap32 (c.toNat : Int) = c.toNat := by unfold wrap32; omega
  have hu : ∀ n : Nat, n < 256 → ((c == UInt8.ofNat n) = true ↔ c.toNat = n) := fun n hn => by
    rw [beq_iff_eq]
    constructor
    · intro h; rw [h]; simp; omega
    · intro h; apply UInt8.toNat_inj.1; simp; omega
  rw [hw, Bool.eq_iff_iff]
  unfold blankZ blankB
  rw [show (9 : UInt8) = UInt8.ofNat 9 from rfl, show (10 : UInt8) = UInt8.ofNat 10 from rfl, show (12 : UInt8) = UInt8.ofNat 12 from rfl, show (32 : UInt8) = UInt8.ofNat 32 from rfl]
  simp only [Bool.or_eq_true, decide_eq_true_eq, hu 9 (by omega), hu 10 (by omega), hu 12 (by omega), hu 32 (by omega)]
  omega

/-- Texts as values. -/
def svs (L : List (List UInt8)) : List Value := L.map fun x => .string ⟨x.toArray⟩
theorem svs_append (a b : List (List UInt8)) : svs (a ++ b) = svs a ++ svs b := by simp [svs]
theorem svs_length (a : List (List UInt8)) : (svs a).length = a.length := by simp [svs]
theorem infoStr : (Try.prog.info? 9).map (fun i => (i.zero, i.size, i.bytes)) = some (some (.string ⟨#[]⟩), 1, 16) := by kernel_rfl
theorem info_parts {t : TypeId} {z : Value} {n b : Nat} (h : (Try.prog.info? t).map (fun i => (i.zero, i.size, i.bytes)) = some (some z, n, b)) : ∃ i, Try.prog.info? t = some i ∧ i.zero = some z ∧ i.size = n ∧ i.bytes = b := by
  cases e : Try.prog.info? t with
  | none => rw [e] at h; simp at h
  | some i => rw [e] at h; simp at h; exact ⟨i, rfl, h.1, h.2.1, h.2.2⟩
/-- A row of texts of one's own. -/
abbrev OwnT (base : Nat) (w : World) (v : Value) (L : List (List UInt8)) : Prop := w.ownsRow base 9 1 v L.length (svs L)
theorem cell_one (W : World) (a : Value) (t : TypeId) (n : Nat) (hn : n = W.heap.size) : ∀ j u, [a][j]? = some u → (W.alloc (.cells #[a] t)).cell? ((⟨n, 0, none⟩ : Addr).add j) = some u := by
  intro j u h
  subst hn
  rw [add_none, Nat.zero_add]
  have hb := World.alloc_heap_new W (.cells #[a] t)
  simp only [World.cell?, hb]
  simpa using h

set_option maxRecDepth 100000 in
set_option maxHeartbeats 2000000 in
theorem fields_calls (s : ByteArray) (w : World) (hs : (s.size : Int) ≤ 8000000000000) :
    Calls Try.prog 101 #[.string s] w fun e W' => ∃ v, e = .returned v ∧ OwnT w.heap.size W' v (fields s.data.toList) ∧ Below w.heap.size w W' := by
  obtain ⟨i0, hi, hz0, hz1, hz2⟩ := info_parts infoStr
  have HZ : Hid (s.data.toList.length = s.size) := size_data s
  obtain ⟨l, hl⟩ : ∃ l, s.data.toList = l := ⟨_, rfl⟩
  have HL : Hid (s.data.toList = l) := hl
  have HN : Hid (l.length = s.size) := by rw [← hl]; exact HZ.out
  rw [hl]
  clear hl
  go_enter Try.func101, Try.ntmps101
  go_wp2
  go_loopw [3, 4, 5, 8] (fun v f _ i wr => ∃ (k fr : Nat) (L : List (List UInt8)), k ≤ s.size ∧ fr ≤ k ∧ L.length ≤ k ∧ i = .int .i64 k ∧ f = .int .i64 fr ∧ Hid (OwnT w.heap.size wr v L) ∧ Below w.heap.size w wr ∧ Hid (L ++ fieldsFrom (l.drop k) (part l fr k) = fields l)) (fun _ _ _ i _ => s.size - (intOf i).toNat)
  case atStart => exact ⟨0, 0, [], by omega, by omega, by simp, rfl, rfl, World.ownsRow_nil _ _ _ _, Below.refl _ _, by simp [Hid, part_none, fields]⟩
  case round =>
    obtain ⟨k, fr, L, hk, hf, hL, rfl, rfl, hO, hB, hF⟩ := hrel
    have s1 := hB.size
    by_cases hlt : k < s.size
    · obtain ⟨c, hcc⟩ : ∃ c, l.getD k 0 = c := ⟨_, rfl⟩
      have hix : ∀ w, (Instr.index 9 (.string s) (.int .i64 k)).run Try.prog w = .ok (.int .u8 c.toNat) w := fun w => run_byte w _ s _ k k c Try.underlying9 rfl hlt (by rw [HL.out]; exact hcc)
      have HC : Hid (l.getD k 0 = c) := hcc
      have hkl : Hid (k < l.length) := by have := HN.out; show k < l.length; omega
      clear hcc
      have hbe := blank_eq c
      cases hb : blankB c with
      | false =>
        rw [hb] at hbe
        go_wp2_with (go_at_call 106; refine (blank_calls _ _).mono ?_; rintro e w' ⟨rfl, hw'⟩; have hx' := hw'.symm; subst hx')
        go_roundw
        case rel => exact ⟨k + 1, fr, L, by omega, by omega, by omega, by go_num, rfl, hO, hB, by
          rw [part_succ l fr k hf hkl.out, ← ff_plain l _ k hkl.out (by rw [HC.out]; exact hb)]; exact hF.out⟩
        case measure => simp [intOf]; omega
      | true =>
        rw [hb] at hbe
        by_cases hfk : fr < k
        · have hT : Hid (OwnT w.heap.size wr u3 L) := hO
          go_wp2_with (first
            | (go_at_call 106; refine (blank_calls _ _).mono ?_; rintro e w' ⟨rfl, hw'⟩; have hx' := hw'.symm; subst hx')
            | (at_builtin; refine wpList_append_own _ rfl _ _ 22 rfl w.heap.size 9 i0 (.string ⟨#[]⟩) 1 16 Try.underlying22 hi hz0 hz1 hz2 rfl (by decide) _ _ _ rfl (World.ownsRow.alloc hT.out _) ⟨wr.heap.size, 0, none⟩ 1 1 [_] rfl rfl (cell_one _ _ _ _ rfl) (by simp [Value.oneCell']) (by unfold maxLen; omega) (by omega) (by simp; omega) ?_; intro v' w4 hown' hgrow _))
          go_roundw
          case rel => exact ⟨k + 1, k + 1, L ++ [part l fr k], by omega, by omega, by simp; omega, by go_num, by go_num, by
            show w4.ownsRow _ _ _ _ _ _
            rw [svs_append, List.length_append]
            rw [part_extract, HL.out] at hown'
            exact hown', (hB.alloc (by omega) _).grown hgrow (by simp; omega) (fun j hj => (hT.out.lt j hj).1), by
            rw [part_none, List.append_assoc, List.singleton_append, ← ff_blank l _ k hkl.out (by rw [HC.out]; exact hb) (fun e => by have := part_length l fr k (by have := hkl.out; omega); rw [e] at this; simp at this; omega)]; exact hF.out⟩
          case measure => simp [intOf]; omega
        · obtain rfl : fr = k := by omega
          go_wp2_with (go_at_call 106; refine (blank_calls _ _).mono ?_; rintro e w' ⟨rfl, hw'⟩; have hx' := hw'.symm; subst hx')
          go_roundw
          case rel => exact ⟨fr + 1, fr + 1, L, by omega, by omega, by omega, by go_num, by go_num, hO, hB, by
            have h := hF.out
            rw [part_none] at h ⊢
            rw [← ff_blank0 l fr hkl.out (by rw [HC.out]; exact hb)]; exact h⟩
          case measure => simp [intOf]; omega
    · obtain rfl : k = s.size := by omega
      by_cases hfk : fr < s.size
      · have hT : Hid (OwnT w.heap.size wr u3 L) := hO
        have HF2 : Hid (fields l = L ++ [part l fr s.size]) := by
          have h := hF.out
          rw [← HN.out, List.drop_length, ff_nil, if_neg (by rw [List.isEmpty_iff]; intro e; have := part_length l fr l.length (by omega); rw [e] at this; have := HN.out; simp at *; omega), HN.out] at h
          exact h.symm
        go_wp2_with (at_builtin; refine wpList_append_own _ rfl _ _ 22 rfl w.heap.size 9 i0 (.string ⟨#[]⟩) 1 16 Try.underlying22 hi hz0 hz1 hz2 rfl (by decide) _ _ _ rfl (World.ownsRow.alloc hT.out _) ⟨wr.heap.size, 0, none⟩ 1 1 [_] rfl rfl (cell_one _ _ _ _ rfl) (by simp [Value.oneCell']) (by unfold maxLen; omega) (by omega) (by simp; omega) ?_; intro v' w4 hown' hgrow _)
        go_ret
        exact ⟨_, rfl, by
          rw [HF2.out]
          show w4.ownsRow _ _ _ _ _ _
          rw [svs_append, List.length_append]
          rw [part_extract, HL.out] at hown'
          exact hown', (hB.alloc (by omega) _).grown hgrow (by simp; omega) (fun j hj => (hT.out.lt j hj).1)⟩
      · obtain rfl : fr = s.size := by omega
        have HF2 : Hid (fields l = L) := by
          have h := hF.out
          rw [part_none, ← HN.out, List.drop_length, ff_nil] at h
          show fields l = L
          simpa using h.symm
        go_wp2
        go_ret
        exact ⟨_, rfl, by rw [HF2.out]; exact hO, hB⟩

end Go.Proofs.Ytdkcibafbdmajaa.N
