/- What is proved here: plain facts for the program's Whole: what every step keeps, where a content can end, and reading up to each sign that may end a tag. -/
import Derived.Lib.Bytealg
import Derived.Shelf.Strings.FuncGrows
import Derived.Test.YtegkdgmpkfpjmaaDoorRMach
import Derived.Test.YtegkdgmpkfpjmaaDoorMathU
import Derived.Test.YtegkdgmpkfpjmaaDoorMathB
import Derived.Test.YtegkdgmpkfpjmaaDoorValid
namespace Go.Proofs.YtegkdgmpkfpjmaaDoor.R
open Go.RowKit Go.Shelf Go.Proofs.YtegkdgmpkfpjmaaDoor.U Go.Proofs.YtegkdgmpkfpjmaaDoor.N

/-- What the machine's states have in common. -/
def Ok (nm : List Int) (s : St) : Prop := 1 ≤ s.p ∧ s.p ≤ 5 ∧ s.b ≤ 7 ∧ s.n ≤ nm.length
theorem begin_ok (nm : List Int) (s : St) (r : Int) (h1 : 1 ≤ s.p) (h5 : s.p ≤ 5) : Ok nm (s.begin r) ∧ (s.begin r).o ++ (s.begin r).h = s.o ++ s.h ++ [r] ∧ (s.begin r).e = s.e := by
  unfold St.begin St.tell St.hold Ok
  split
  · simp; omega
  · split
    · simp; omega
    · split
      · simp; omega
      · simp; omega
theorem again_ok (nm : List Int) (s : St) (r : Int) (h1 : 1 ≤ s.p) (h5 : s.p ≤ 5) : Ok nm (s.again r) ∧ (s.again r).o ++ (s.again r).h = s.o ++ s.h ++ [r] ∧ (s.again r).e = s.e := by
  have := begin_ok nm s.freed r h1 h5
  simpa [St.again, St.freed] using this
theorem spell_lt {nm : List Int} {n : Nat} {r : Int} (h : spellZ nm n r = true) : n < nm.length := by unfold spellZ at h; simp at h; exact h.1
theorem word_ok (nm : List Int) (s : St) (r : Int) (h1 : 1 ≤ s.p) (h5 : s.p ≤ 5) (hn : s.n ≤ nm.length) : Ok nm (s.word nm r) ∧ (s.word nm r).o ++ (s.word nm r).h = s.o ++ s.h ++ [r] ∧ (s.word nm r).e = s.e := by
  unfold St.word
  split
  · rename_i h
    have := spell_lt h
    unfold St.tell Ok
    simp; omega
  · split
    · unfold St.tell Ok
      simp
      constructor
      · split <;> omega
      · constructor
        · split <;> omega
        · omega
    · exact again_ok nm s r h1 h5
theorem tell_ok (nm : List Int) (s : St) (r : Int) (b : Nat) (h1 : 1 ≤ s.p) (h5 : s.p ≤ 5) (hb : b ≤ 7) (hn : s.n ≤ nm.length) : Ok nm (s.tell r b) ∧ (s.tell r b).o ++ (s.tell r b).h = s.o ++ s.h ++ [r] ∧ (s.tell r b).e = s.e := by
  unfold St.tell Ok; simp; omega
theorem dash_ok (nm : List Int) (s : St) (r : Int) (h1 : 1 ≤ s.p) (h5 : s.p ≤ 5) (hn : s.n ≤ nm.length) : Ok nm (s.dash r) ∧ (s.dash r).o ++ (s.dash r).h = s.o ++ s.h ++ [r] ∧ (s.dash r).e = s.e := by
  unfold St.dash
  split
  · exact tell_ok nm s r 7 h1 h5 (by omega) hn
  · exact again_ok nm s r h1 h5
/-- **A step ends the content, at a sign that may end a tag, or keeps all.** -/
theorem step_keeps (nm : List Int) (s : St) (r : Int) (hk : Ok nm s) : ((s.step nm r).p = 6 ∧ stopZ r = true ∧ (s.step nm r).e = r ∧ (s.step nm r).h = []) ∨ (Ok nm (s.step nm r) ∧ (s.step nm r).o ++ (s.step nm r).h = s.o ++ s.h ++ [r] ∧ (s.step nm r).e = s.e) := by
  obtain ⟨h1, h5, hb, hn⟩ := hk
  unfold St.step
  split
  · exact .inr (begin_ok nm s r h1 h5)
  · split
    · split
      · rename_i h
        have := spell_lt h
        right; unfold St.hold Ok; simp; omega
      · split
        · rename_i h
          exact .inl ⟨rfl, (close_at h).2, rfl, rfl⟩
        · exact .inr (again_ok nm s r h1 h5)
    · split
      · split
        · exact .inr (tell_ok nm s r 3 h1 h5 (by omega) hn)
        · split
          · right; unfold St.hold Ok; simp; omega
          · split
            · exact .inr (tell_ok nm s r 4 h1 h5 (by omega) hn)
            · split
              · exact .inr (word_ok nm s r h1 h5 hn)
              · exact .inr (again_ok nm s r h1 h5)
      · split
        · exact .inr (word_ok nm s r h1 h5 hn)
        · split
          · split
            · exact .inr (tell_ok nm s r 5 h1 h5 (by omega) hn)
            · exact .inr (again_ok nm s r h1 h5)
          · split
            · split
              · right; unfold St.tell Ok; simp; omega
              · exact .inr (again_ok nm s r h1 h5)
            · split
              · split
                · right; unfold St.tell Ok; simp; omega
                · exact .inr (dash_ok nm s r h1 h5 hn)
              · exact .inr (dash_ok nm s r h1 h5 hn)
theorem ok_ne {nm : List Int} {s : St} (h : Ok nm s) : s.p ≠ 6 := by have := h.2.1; omega
theorem next_ok {nm : List Int} {s : St} (h : Ok nm s) (r : Int) : s.next nm r = s.step nm r := by unfold St.next; rw [if_neg (ok_ne h)]
/-- Runes that do not end the content. -/
theorem run_keeps (nm : List Int) : ∀ (l : List Int) (s : St), Ok nm s → (s.run nm l).p = 6 ∨ (Ok nm (s.run nm l) ∧ (s.run nm l).o ++ (s.run nm l).h = s.o ++ s.h ++ l ∧ (s.run nm l).e = s.e)
  | [], s, h => .inr ⟨h, by simp [run_nil], rfl⟩
  | r :: l, s, h => by
    rw [run_cons, next_ok h]
    rcases step_keeps nm s r h with ⟨e, _⟩ | ⟨k1, k2, k3⟩
    · left; rw [run_over nm _ e]; exact e
    · rcases run_keeps nm l _ k1 with e | ⟨m1, m2, m3⟩
      · exact .inl e
      · exact .inr ⟨m1, by rw [m2, k2]; simp, by rw [m3, k3]⟩
theorem run_not (nm : List Int) : ∀ (l : List Int) (s : St), Ok nm s → (∀ z ∈ l, stopZ z = false) → (s.run nm l).p ≠ 6
  | [], s, h, _ => ok_ne h
  | r :: l, s, h, hl => by
    rw [run_cons, next_ok h]
    rcases step_keeps nm s r h with ⟨_, e, _⟩ | ⟨k1, _, _⟩
    · rw [hl r (by simp)] at e; cases e
    · exact run_not nm l _ k1 (fun z hz => hl z (by simp [hz]))
/-- Where it begins. -/
def s0 (p : Nat) : St := ⟨p, 0, 0, [], [], 0⟩
theorem s0_ok (nm : List Int) {p : Nat} (h1 : 1 ≤ p) (h5 : p ≤ 5) : Ok nm (s0 p) := ⟨h1, h5, by simp [s0], by simp [s0]⟩

theorem runesI_eq (bs : List UInt8) : runesI bs = (runes bs).map fun r : Nat => (r : Int) := by rw [runes_pcs]; simp [runesI]
theorem runesI_cons (bs : List UInt8) (h : 0 < bs.length) : runesI bs = (nextR bs : Int) :: runesI (bs.drop (nextN bs)) := by
  rw [runesI_eq, runes_cons bs h, List.map_cons, ← runesI_eq]
theorem runesI_append (X Y : List UInt8) (h : Y = [] ∨ byteAt Y 0 < 128) : runesI (X ++ Y) = runesI X ++ runesI Y := by
  rw [runesI_eq, runes_append Y X.length X (Nat.le_refl _) (by
    rcases h with h | h
    · exact .inr (.inl h)
    · exact .inr (.inr (by rw [lead_is1 h]; decide))), List.map_append, ← runesI_eq, ← runesI_eq]
theorem runesI_nil : runesI [] = [] := rfl
theorem runesI_ascii (c : UInt8) (Y : List UInt8) (h : c.toNat < 128) : runesI (c :: Y) = (c.toNat : Int) :: runesI Y := by
  have hb : byteAt (c :: Y) 0 = c.toNat := by simp [byteAt]
  have hl : lead (byteAt (c :: Y) 0) = 1 := by rw [hb]; exact lead_is1 h
  have h1 := nextN_pos (c :: Y)
  have h2 := nextN_le_lead (c :: Y) (by omega)
  have hn : nextN (c :: Y) = 1 := by omega
  rw [runesI_cons _ (by simp), hn]
  have hr : nextR (c :: Y) = c.toNat := by
    unfold nextR
    rw [if_pos (by unfold nextAll; rw [hn, hl]; rfl)]
    unfold runeOf
    rw [if_pos hl, hb]
  rw [hr]; rfl
theorem runesI_behind (X Y : List UInt8) (c : UInt8) (h : c.toNat < 128) : runesI ((X ++ [c]) ++ Y) = runesI (X ++ [c]) ++ runesI Y := by
  rw [List.append_assoc, List.singleton_append, runesI_append X (c :: Y) (.inr (by simpa [byteAt] using h)), runesI_append X [c] (.inr (by simpa [byteAt] using h)), runesI_ascii c Y h, runesI_ascii c [] h, runesI_nil]
  simp
def Cut (X : List UInt8) : Prop := ∀ Y, runesI (X ++ Y) = runesI X ++ runesI Y
theorem cut_nil : Cut [] := fun _ => rfl

/-- May a byte end a tag? -/
def stopB (b : UInt8) : Bool := stopZ (b.toNat : Int)
theorem stop_low {z : Int} (h : stopZ z = true) : 0 ≤ z ∧ z < 128 := by
  unfold stopZ blankZ at h; simp only [Bool.or_eq_true, decide_eq_true_eq, beq_iff_eq] at h; omega
theorem stopB_low {b : UInt8} (h : stopB b = true) : b.toNat < 128 := by have := stop_low h; omega
theorem stop_high {z : Int} (h : 128 ≤ z) : stopZ z = false := by
  cases e : stopZ z with
  | false => rfl
  | true => have := stop_low e; omega
theorem stopB_high {b : UInt8} (h : 128 ≤ b.toNat) : stopB b = false := stop_high (by omega)
def upTo : List UInt8 → Nat
  | [] => 0
  | b :: t => if stopB b then 1 else upTo t + 1
theorem upTo_le : ∀ l : List UInt8, upTo l ≤ l.length
  | [] => Nat.le_refl _
  | b :: t => by unfold upTo; split
                 · simp
                 · have := upTo_le t; simp; omega
theorem upTo_pos (l : List UInt8) (h : 0 < l.length) : 0 < upTo l := by
  cases l with
  | nil => simp at h
  | cons b t => unfold upTo; split <;> omega
theorem upTo_cases : ∀ l : List UInt8, (∃ X c, l.take (upTo l) = X ++ [c] ∧ stopB c = true ∧ ∀ b ∈ X, stopB b = false) ∨ (upTo l = l.length ∧ ∀ b ∈ l, stopB b = false)
  | [] => .inr ⟨rfl, by simp⟩
  | b :: t => by
    unfold upTo
    cases h : stopB b with
    | true => exact .inl ⟨[], b, by simp, h, by simp⟩
    | false =>
      simp only [Bool.false_eq_true, if_false]
      rcases upTo_cases t with ⟨X, c, h1, h2, h3⟩ | ⟨h1, h2⟩
      · exact .inl ⟨b :: X, c, by simp [h1], h2, fun y hy => by
          rcases List.mem_cons.1 hy with e | hy
          · rw [e]; exact h
          · exact h3 y hy⟩
      · exact .inr ⟨by simp [h1], fun y hy => by
          rcases List.mem_cons.1 hy with e | hy
          · rw [e]; exact h
          · exact h2 y hy⟩
theorem upTo_skip : ∀ (n : Nat) (l : List UInt8), n ≤ l.length → (∀ b ∈ l.take n, stopB b = false) → upTo l = n + upTo (l.drop n)
  | 0, l, _, _ => by simp
  | n + 1, [], h, _ => by simp at h
  | n + 1, b :: t, h, hl => by
    have hb := hl b (by simp)
    rw [upTo, hb]
    simp only [Bool.false_eq_true, if_false, List.drop_succ_cons]
    rw [upTo_skip n t (by simpa using h) (fun y hy => hl y (by simp [hy]))]
    omega
theorem enc_high {r : Int} (h : ¬ (0 ≤ r ∧ r < 128)) : ∀ b ∈ enc r, 128 ≤ b.toNat := by
  cases hv : Utf8.valid r with
  | false => rw [enc_wrong hv]; decide
  | true =>
    have hb := (valid_iff r).1 hv
    by_cases c2 : r < 2048
    · rw [enc_two (by omega) c2]; simp; omega
    · by_cases c3 : r < 65536
      · rw [enc_three hv (by omega) c3]; simp; omega
      · rw [enc_four hv (by omega)]; simp; omega
/-- The first piece of bytes that begin high: its rune and its bytes are high. -/
theorem next_high (bs : List UInt8) (h0 : 0 < bs.length) (h : 128 ≤ byteAt bs 0) : 128 ≤ nextR bs ∧ (nextAll bs = true → ∀ b ∈ bs.take (nextN bs), 128 ≤ b.toNat) := by
  cases ha : nextAll bs with
  | false => exact ⟨by unfold nextR; rw [if_neg (by rw [ha]; simp)]; omega, fun h => by cases h⟩
  | true =>
    have he := enc_rune bs h0 ha
    have hr : nextR bs = runeOf bs := by unfold nextR; rw [if_pos ha]
    have hge : ¬ (0 ≤ (runeOf bs : Int) ∧ (runeOf bs : Int) < 128) := by
      intro hlt
      rw [enc_one hlt.1 hlt.2] at he
      have hn : nextN bs = 1 := by
        have := congrArg List.length he
        have h2 := nextN_len bs h0
        simp at this
        omega
      rw [hn] at he
      have hb : byteAt bs 0 = (runeOf bs : Int).toNat % 256 := by
        cases bs with
        | nil => simp at h0
        | cons c t => simp only [List.take_succ_cons, List.take_zero] at he; injection he with he _; have h5 := congrArg UInt8.toNat he; show c.toNat = _; rw [← h5]; simp
      omega
    refine ⟨by rw [hr]; omega, fun _ => ?_⟩
    rw [← he]
    exact enc_high hge
theorem runes_nostop : ∀ n (bs : List UInt8), bs.length ≤ n → (∀ b ∈ bs, stopB b = false) → ∀ z ∈ runesI bs, stopZ z = false
  | 0, bs, h, _ => by
    obtain rfl : bs = [] := List.length_eq_zero_iff.1 (by omega)
    simp [runesI_nil]
  | n + 1, bs, h, hs => by
    by_cases h0 : 0 < bs.length
    · have hp := nextN_pos bs
      rw [runesI_cons bs h0]
      intro z hz
      rcases List.mem_cons.1 hz with rfl | hz
      · rcases Nat.lt_or_ge (byteAt bs 0) 128 with hl | hl
        · cases bs with
          | nil => simp at h0
          | cons c t =>
            have hc : c.toNat < 128 := by simpa [byteAt] using hl
            have e1 := runesI_ascii c t hc
            rw [runesI_cons _ h0] at e1
            injection e1 with e1 _
            rw [e1]
            exact hs c (by simp)
        · exact stop_high (by have := (next_high bs h0 hl).1; omega)
      · exact runes_nostop n (bs.drop (nextN bs)) (by simp; omega) (fun b hb => hs b (List.mem_of_mem_drop hb)) z hz
    · obtain rfl : bs = [] := List.length_eq_zero_iff.1 (by omega)
      simp [runesI_nil]
/-- What strings.IndexFunc finds. -/
theorem decodeN_low (n b0 b1 b2 b3 : Nat) (h : b0 < 128) : Lib.decodeN n b0 b1 b2 b3 = (b0, 1) := by simp [Lib.decodeN, h]
theorem idx_from (bs : List UInt8) : ∀ (f pos : Nat), pos ≤ bs.length → bs.length ≤ pos + f →
    ((∀ b ∈ bs.drop pos, stopB b = false) ∧ Lib.idxFuncFrom (fun x => stopZ (x : Int)) true ⟨bs.toArray⟩ f pos = -1) ∨ (¬ (∀ b ∈ bs.drop pos, stopB b = false) ∧ Lib.idxFuncFrom (fun x => stopZ (x : Int)) true ⟨bs.toArray⟩ f pos = (pos : Int) + upTo (bs.drop pos) - 1)
  | 0, pos, h1, h2 => by
    left
    rw [List.drop_eq_nil_of_le (by omega)]
    exact ⟨by simp, rfl⟩
  | f + 1, pos, h1, h2 => by
    have hsz : (⟨bs.toArray⟩ : ByteArray).size = bs.length := by simp [ByteArray.size]
    unfold Lib.idxFuncFrom
    rw [hsz]
    by_cases hlt : pos < bs.length
    · rw [if_pos hlt]
      have hd0 : 0 < (bs.drop pos).length := by simp; omega
      have key : ∀ n, 1 ≤ n → n ≤ (bs.drop pos).length → (∀ b ∈ (bs.drop pos).take n, stopB b = false) → stopZ (((Utf8.decode ⟨bs.toArray⟩ pos).1 : Nat) : Int) = false → (Utf8.decode ⟨bs.toArray⟩ pos).2 = n →
          ((∀ b ∈ bs.drop pos, stopB b = false) ∧ (if stopZ (((Utf8.decode ⟨bs.toArray⟩ pos).1 : Nat) : Int) = true then (pos : Int) else Lib.idxFuncFrom (fun x => stopZ (x : Int)) true ⟨bs.toArray⟩ f (pos + (Utf8.decode ⟨bs.toArray⟩ pos).2)) = -1) ∨ (¬ (∀ b ∈ bs.drop pos, stopB b = false) ∧ (if stopZ (((Utf8.decode ⟨bs.toArray⟩ pos).1 : Nat) : Int) = true then (pos : Int) else Lib.idxFuncFrom (fun x => stopZ (x : Int)) true ⟨bs.toArray⟩ f (pos + (Utf8.decode ⟨bs.toArray⟩ pos).2)) = (pos : Int) + upTo (bs.drop pos) - 1) := by
        intro n hn1 hn2 hn3 hs hd2
        rw [hs, if_neg (by simp), hd2]
        have hnl : n ≤ bs.length - pos := by simpa using hn2
        have hsplit : bs.drop (pos + n) = (bs.drop pos).drop n := by rw [List.drop_drop]
        have hall : (∀ b ∈ bs.drop pos, stopB b = false) ↔ (∀ b ∈ bs.drop (pos + n), stopB b = false) := by
          constructor
          · intro h b hb; rw [hsplit] at hb; exact h b (List.mem_of_mem_drop hb)
          · intro h b hb
            rw [← List.take_append_drop n (bs.drop pos)] at hb
            rcases List.mem_append.1 hb with hb | hb
            · exact hn3 b hb
            · rw [← hsplit] at hb; exact h b hb
        rcases idx_from bs f (pos + n) (by omega) (by omega) with ⟨e1, e2⟩ | ⟨e1, e2⟩
        · exact .inl ⟨hall.2 e1, e2⟩
        · refine .inr ⟨fun h => e1 (hall.1 h), ?_⟩
          rw [e2, upTo_skip n (bs.drop pos) hn2 hn3, hsplit]
          omega
      have hdec := decode_drop bs pos
      rcases Nat.lt_or_ge (byteAt (bs.drop pos) 0) 128 with hl | hl
      · rw [decodeN_low _ _ _ _ _ hl] at hdec
        obtain ⟨c, t, hD⟩ : ∃ c t, bs.drop pos = c :: t := by
          cases hc : bs.drop pos with
          | nil => rw [hc] at hd0; simp at hd0
          | cons c t => exact ⟨c, t, rfl⟩
        have hb0 : byteAt (bs.drop pos) 0 = c.toNat := by rw [hD]; rfl
        rw [hb0] at hdec
        cases hs : stopB c with
        | true =>
          right
          refine ⟨fun h => absurd (h c (by rw [hD]; simp)) (by rw [hs]; simp), ?_⟩
          rw [hdec]
          simp only
          rw [if_pos (show stopZ (c.toNat : Int) = true from hs), hD, upTo, hs]
          simp
        | false =>
          refine key 1 (Nat.le_refl _) (by omega) (by rw [hD]; simp [hs]) (by rw [hdec]; exact hs) (by rw [hdec])
      · cases ha : nextAll (bs.drop pos) with
        | true =>
          rw [decode_right _ hd0 ha] at hdec
          have hh := next_high _ hd0 hl
          have hr : nextR (bs.drop pos) = runeOf (bs.drop pos) := by unfold nextR; rw [if_pos ha]
          exact key (nextN (bs.drop pos)) (nextN_pos _) (nextN_len _ hd0) (fun b hb => stopB_high (hh.2 ha b hb)) (by rw [hdec]; exact stop_high (by have := hh.1; rw [hr] at this; simp only; omega)) (by rw [hdec])
        | false =>
          rw [decode_wrong _ hd0 ha] at hdec
          refine key 1 (Nat.le_refl _) (by omega) (fun b hb => ?_) (by rw [hdec]; decide) (by rw [hdec])
          cases hc : bs.drop pos with
          | nil => rw [hc] at hd0; simp at hd0
          | cons c t =>
            rw [hc] at hb hl
            simp at hb
            subst hb
            exact stopB_high hl
    · rw [if_neg hlt]
      left
      rw [List.drop_eq_nil_of_le (by omega)]
      exact ⟨by simp, rfl⟩
theorem idx_upTo (bs : List UInt8) : (Lib.idxFunc (fun x => stopZ (x : Int)) true ⟨bs.toArray⟩ = -1 ∧ bs.take (upTo bs) = bs) ∨ (Lib.idxFunc (fun x => stopZ (x : Int)) true ⟨bs.toArray⟩ = (upTo bs : Int) - 1 ∧ 1 ≤ upTo bs) := by
  have hsz : (⟨bs.toArray⟩ : ByteArray).size = bs.length := by simp [ByteArray.size]
  unfold Lib.idxFunc
  rw [hsz]
  rcases idx_from bs bs.length 0 (by omega) (by omega) with ⟨e1, e2⟩ | ⟨e1, e2⟩
  · left
    refine ⟨e2, ?_⟩
    rw [List.drop_zero] at e1
    rcases upTo_cases bs with ⟨X, c, h1, h2, h3⟩ | ⟨h1, h2⟩
    · exfalso
      have : c ∈ bs := List.mem_of_mem_take (by rw [h1]; simp)
      rw [e1 c this] at h2; cases h2
    · rw [h1, List.take_length]
  · right
    rw [List.drop_zero] at e1 e2
    refine ⟨by rw [e2]; simp, ?_⟩
    cases bs with
    | nil => exact absurd (by simp) e1
    | cons b t => exact upTo_pos _ (by simp)
end Go.Proofs.YtegkdgmpkfpjmaaDoor.R
