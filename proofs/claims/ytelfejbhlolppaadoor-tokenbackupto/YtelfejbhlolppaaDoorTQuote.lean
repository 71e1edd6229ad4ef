/- What is proved here: the contract of quote of token: what it adds to a builder. -/
import Derived.Test.YtelfejbhlolppaaDoorTBuild
import Derived.Test.YtelfejbhlolppaaDoorTName
namespace Go.Proofs.YtelfejbhlolppaaDoor.T
open Go.RowKit N

def qB (c : UInt8) : List UInt8 := if c = 10 then [92, 110] else if c = 9 then [92, 116] else if c = 34 ∨ c = 92 then [92, c] else [c]
def qL (l : List UInt8) : List UInt8 := l.flatMap qB
def quoteB (l : List UInt8) : List UInt8 := [34] ++ qL l ++ [34]
theorem qB_len (c : UInt8) : (qB c).length ≤ 2 := by unfold qB; split; · simp
                                                     split; · simp
                                                     split <;> simp
theorem qL_len (l : List UInt8) : (qL l).length ≤ 2 * l.length := by
  unfold qL
  induction l with
  | nil => simp
  | cons c r ih => have := qB_len c; simp only [List.flatMap_cons, List.length_append, List.length_cons]; omega
theorem qL_succ (l : List UInt8) (k : Nat) (h : k < l.length) : qL (l.take (k + 1)) = qL (l.take k) ++ qB (l.getD k 0) := by
  unfold qL
  rw [List.take_succ_eq_append_getElem h, List.flatMap_append]
  simp [List.getD, h]
theorem quoteB_len (l : List UInt8) : (quoteB l).length ≤ 2 * l.length + 2 := by
  have := qL_len l
  simp only [quoteB, List.length_append, List.length_cons, List.length_nil]; omega
theorem u8_beq (c : UInt8) (n : Nat) (hn : n < 256) : ((c.toNat : Int) == (n : Int)) = decide (c = UInt8.ofNat n) := by
  rw [Bool.eq_iff_iff]
  simp only [beq_iff_eq, decide_eq_true_eq]
  constructor
  · intro h; apply UInt8.toNat_inj.1; simp; omega
  · intro h; rw [h]; simp; omega

set_option maxRecDepth 100000 in
set_option maxHeartbeats 2000000 in
theorem quote_calls (B b : Nat) (l : List UInt8) (s : ByteArray) (w : World) (h : Bld B b l w) (hlen : l.length + 2 * s.size + 2 ≤ 140737488355328) (hBw : B ≤ w.heap.size) :
    Calls Tryd.prog 51 #[.pointer (some ⟨b, 0, none⟩), .string s] w fun e w' => e = .returned (.tuple #[]) ∧ Bld B b (l ++ quoteB s.data.toList) w' ∧ Below B w w' ∧ Kept b w w' := by
  have HZ : Hid (s.data.toList.length = s.size) := size_data s
  have HB : Hid (Bld B b l w) := h
  clear h
  go_enter Tryd.func51, Tryd.ntmps51
  go_wp2_with fail
  refine (writeByte_calls B b l 34 _ rfl w HB.out (by omega) hBw).mono ?_
  rintro e w1 ⟨rfl, h1, b1, k1⟩
  have H1 : Hid (Bld B b (l ++ [34] ++ qL (s.data.toList.take 0)) w1) := by show Bld _ _ _ _; simpa [qL] using h1
  have B1 : Hid (Below B w w1) := b1
  have K1 : Hid (Kept b w w1) := k1
  clear h1 b1 k1
  go_wp2
  go_loopw [4, 5, 10] (fun _ _ i wr => ∃ k : Nat, k ≤ s.size ∧ i = .int .i64 k ∧ Hid (Bld B b (l ++ [34] ++ qL (s.data.toList.take k)) wr) ∧ Hid (Below B w wr) ∧ Hid (Kept b w wr)) (fun _ _ i _ => s.size - (intOf i).toNat)
  case atStart => exact ⟨0, by omega, rfl, H1, B1, K1⟩
  case round =>
    obtain ⟨k, hk, rfl, hb, hbe, hke⟩ := hrel
    have hz := hbe.out.size
    have hbw : B ≤ wr.heap.size := by omega
    have HLQ : Hid ((l ++ [34] ++ qL (s.data.toList.take k)).length ≤ l.length + 1 + 2 * k) := by
      have := qL_len (s.data.toList.take k)
      show _ ≤ _
      simp only [List.length_append, List.length_cons, List.length_nil, List.length_take] at this ⊢
      omega
    obtain ⟨L, hL⟩ : ∃ L, l ++ [34] ++ qL (s.data.toList.take k) = L := ⟨_, rfl⟩
    rw [hL] at hb HLQ
    have hlq := HLQ.out
    clear HLQ
    by_cases hlt : k < s.size
    · obtain ⟨c, hcc⟩ : ∃ c, s.data.toList.getD k 0 = c := ⟨_, rfl⟩
      have hix : ∀ w, (Instr.index 9 (.string s) (.int .i64 k)).run Tryd.prog w = .ok (.int .u8 c.toNat) w := fun w => run_byte w _ s _ k k c Tryd.underlying9 rfl hlt hcc
      have HN : Hid (l ++ [34] ++ qL (s.data.toList.take (k + 1)) = L ++ qB c) := by
        show _ = _
        rw [qL_succ _ k (by have := HZ.out; omega), hcc, ← List.append_assoc, hL]
      clear hcc hL
      have e10 := u8_beq c 10 (by omega)
      have e9 := u8_beq c 9 (by omega)
      have e34 := u8_beq c 34 (by omega)
      have e92 := u8_beq c 92 (by omega)
      by_cases c10 : c = 10
      · have q10 : ((c.toNat : Int) == 10) = true := by rw [show (10 : Int) = ((10 : Nat) : Int) from rfl, e10]; simpa using c10
        have HQ : Hid (qB c = [92, 110]) := by show _ = _; unfold qB; rw [if_pos c10]
        clear e10 e9 e34 e92 c10
        go_wp2_with fail
        refine (writeString_calls B b L ⟨#[92, 110]⟩ wr hb.out (by rw [show (⟨#[92, 110]⟩ : ByteArray).size = 2 from rfl]; omega) hbw).mono ?_
        rintro e w2 ⟨⟨v2, rfl⟩, h2, b2, k2⟩
        have H2 : Hid (Bld B b (l ++ [34] ++ qL (s.data.toList.take (k + 1))) w2) := by rw [HN.out, HQ.out]; exact h2
        have B2 : Hid (Below B w w2) := hbe.out.trans b2
        have K2 : Hid (Kept b w w2) := hke.out.trans k2
        clear h2 b2 k2
        go_wp2
        go_roundw
        case rel => exact ⟨k + 1, by omega, by go_num, H2, B2, K2⟩
        case measure => simp [intOf]; omega
      have q10 : ((c.toNat : Int) == 10) = false := by rw [show (10 : Int) = ((10 : Nat) : Int) from rfl, e10]; simpa using c10
      by_cases c9 : c = 9
      · have q9 : ((c.toNat : Int) == 9) = true := by rw [show (9 : Int) = ((9 : Nat) : Int) from rfl, e9]; simpa using c9
        have HQ : Hid (qB c = [92, 116]) := by show _ = _; unfold qB; rw [if_neg c10, if_pos c9]
        clear e10 e9 e34 e92 c10 c9
        go_wp2_with fail
        refine (writeString_calls B b L ⟨#[92, 116]⟩ wr hb.out (by rw [show (⟨#[92, 116]⟩ : ByteArray).size = 2 from rfl]; omega) hbw).mono ?_
        rintro e w2 ⟨⟨v2, rfl⟩, h2, b2, k2⟩
        have H2 : Hid (Bld B b (l ++ [34] ++ qL (s.data.toList.take (k + 1))) w2) := by rw [HN.out, HQ.out]; exact h2
        have B2 : Hid (Below B w w2) := hbe.out.trans b2
        have K2 : Hid (Kept b w w2) := hke.out.trans k2
        clear h2 b2 k2
        go_wp2
        go_roundw
        case rel => exact ⟨k + 1, by omega, by go_num, H2, B2, K2⟩
        case measure => simp [intOf]; omega
      have q9 : ((c.toNat : Int) == 9) = false := by rw [show (9 : Int) = ((9 : Nat) : Int) from rfl, e9]; simpa using c9
      by_cases c3 : c = 34 ∨ c = 92
      · have HQ : Hid (qB c = [92, c]) := by show _ = _; unfold qB; rw [if_neg c10, if_neg c9, if_pos c3]
        have q3 : (((c.toNat : Int) == 34) = true) ∨ (((c.toNat : Int) == 34) = false ∧ ((c.toNat : Int) == 92) = true) := by
          rw [show (34 : Int) = ((34 : Nat) : Int) from rfl, show (92 : Int) = ((92 : Nat) : Int) from rfl, e34, e92]
          by_cases h : c = 34
          · left; simpa using h
          · right
            rcases c3 with h' | h'
            · exact absurd h' h
            · exact ⟨by simpa using h, by simpa using h'⟩
        clear e10 e9 e34 e92 c10 c9 c3
        rcases q3 with q34 | ⟨q34, q92⟩
        · go_wp2_with fail
          refine (writeByte_calls B b L 92 _ rfl wr hb.out (by omega) hbw).mono ?_
          rintro e w2 ⟨rfl, h2, b2, k2⟩
          have hz2 := b2.size
          go_wp2_with fail
          refine (writeByte_calls B b (L ++ [92]) c _ rfl w2 h2 (by simp; omega) (by omega)).mono ?_
          rintro e w3 ⟨rfl, h3, b3, k3⟩
          have H2 : Hid (Bld B b (l ++ [34] ++ qL (s.data.toList.take (k + 1))) w3) := by show Bld B b _ w3; rw [HN.out, HQ.out]; simpa using h3
          have B2 : Hid (Below B w w3) := (hbe.out.trans b2).trans b3
          have K2 : Hid (Kept b w w3) := (hke.out.trans k2).trans k3
          clear h2 b2 k2 h3 b3 k3
          go_wp2
          go_roundw
          case rel => exact ⟨k + 1, by omega, by go_num, H2, B2, K2⟩
          case measure => simp [intOf]; omega
        · go_wp2_with fail
          refine (writeByte_calls B b L 92 _ rfl wr hb.out (by omega) hbw).mono ?_
          rintro e w2 ⟨rfl, h2, b2, k2⟩
          have hz2 := b2.size
          go_wp2_with fail
          refine (writeByte_calls B b (L ++ [92]) c _ rfl w2 h2 (by simp; omega) (by omega)).mono ?_
          rintro e w3 ⟨rfl, h3, b3, k3⟩
          have H2 : Hid (Bld B b (l ++ [34] ++ qL (s.data.toList.take (k + 1))) w3) := by show Bld B b _ w3; rw [HN.out, HQ.out]; simpa using h3
          have B2 : Hid (Below B w w3) := (hbe.out.trans b2).trans b3
          have K2 : Hid (Kept b w w3) := (hke.out.trans k2).trans k3
          clear h2 b2 k2 h3 b3 k3
          go_wp2
          go_roundw
          case rel => exact ⟨k + 1, by omega, by go_num, H2, B2, K2⟩
          case measure => simp [intOf]; omega
      · have HQ : Hid (qB c = [c]) := by show _ = _; unfold qB; rw [if_neg c10, if_neg c9, if_neg c3]
        have q34 : ((c.toNat : Int) == 34) = false := by rw [show (34 : Int) = ((34 : Nat) : Int) from rfl, e34]; simp; intro h; exact c3 (.inl h)
        have q92 : ((c.toNat : Int) == 92) = false := by rw [show (92 : Int) = ((92 : Nat) : Int) from rfl, e92]; simp; intro h; exact c3 (.inr h)
        clear e10 e9 e34 e92 c10 c9 c3
        go_wp2_with fail
        refine (writeByte_calls B b L c _ rfl wr hb.out (by omega) hbw).mono ?_
        rintro e w2 ⟨rfl, h2, b2, k2⟩
        have H2 : Hid (Bld B b (l ++ [34] ++ qL (s.data.toList.take (k + 1))) w2) := by rw [HN.out, HQ.out]; exact h2
        have B2 : Hid (Below B w w2) := hbe.out.trans b2
        have K2 : Hid (Kept b w w2) := hke.out.trans k2
        clear h2 b2 k2
        go_wp2
        go_roundw
        case rel => exact ⟨k + 1, by omega, by go_num, H2, B2, K2⟩
        case measure => simp [intOf]; omega
    · obtain rfl : k = s.size := by omega
      have HF : Hid (L ++ [34] = l ++ quoteB s.data.toList) := by
        show _ = _
        rw [← hL, ← HZ.out, List.take_length]; simp [quoteB]
      clear hL
      go_wp2_with fail
      refine (writeByte_calls B b L 34 _ rfl wr hb.out (by omega) hbw).mono ?_
      rintro e w2 ⟨rfl, h2, b2, k2⟩
      rw [HF.out] at h2
      go_wp2
      go_end0
      exact ⟨rfl, h2, hbe.out.trans b2, hke.out.trans k2⟩
end Go.Proofs.YtelfejbhlolppaaDoor.T
