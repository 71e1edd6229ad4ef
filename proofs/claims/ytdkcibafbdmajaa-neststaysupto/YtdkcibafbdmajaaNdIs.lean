/- What is proved here: is, topmost and above of the document of layer 16. -/
import Derived.Test.YtdkcibafbdmajaaBun5
import Derived.Test.YtdkcibafbdmajaaNeFacts
namespace Go.Proofs.Ytdkcibafbdmajaa.E
open Go.RowKit Go.Shelf Go.WideMaps Go.Maps Go.Proofs.Ytdkcibafbdmajaa.N Go.Proofs.Ytdkcibafbdmajaa.C

/-- Is a name one of those that a text lists? -/
def isT (T : ByteArray) (x : Txt) : Bool := decide (x ∈ fields T.data.toList)
set_option maxRecDepth 100000 in
set_option maxHeartbeats 2000000 in
/-- **is.** -/
theorem dis_calls (x : Txt) (T : ByteArray) (hT : T.size ≤ 1000000000) (w : World) :
    Calls Try.prog 43 #[.string ⟨x.toArray⟩, .string T] w fun e w' => e = .returned (.bool (isT T x)) ∧ Below w.heap.size w w' := by
  have HI : Hid (decide (x ∈ fields T.data.toList) = isT T x) := rfl
  have hcnt : (fields T.data.toList).length ≤ 1000000001 := by have := fields_count T.data.toList; rw [size_data] at this; omega
  go_enter Try.func43, Try.ntmps43
  go_wp2_with fail
  refine (rfields_calls T w (by omega)).mono ?_
  rintro e W1 ⟨v, rfl, hO, hB⟩
  obtain ⟨a, cap, rfl⟩ := owns_slice hO
  have HT : Hid (TextsAt W1 a (fields T.data.toList)) := (texts_own hO).1
  have HB : Hid (Below w.heap.size w W1) := hB
  clear hO hB
  generalize fields T.data.toList = L at *
  go_wp2
  go_loopw [6, 10] (fun _ i wr => ∃ k : Nat, k ≤ L.length ∧ i = .int .i64 k ∧ wr = W1 ∧ Hid (x ∉ L.take k)) (fun _ i _ => L.length - (intOf i).toNat)
  case atStart => exact ⟨0, by omega, rfl, by trivial, by simp [Hid]⟩
  case round =>
    obtain ⟨k, hk, rfl, hwr, hN⟩ := hrel
    have hwr' := hwr.symm
    subst hwr'
    clear hwr
    by_cases hlt : k < L.length
    · obtain ⟨b, off, rfl, hc⟩ := HT.out k hlt
      have HTK : Hid (L.take (k + 1) = L.take k ++ [L[k]]) := List.take_succ_eq_append_getElem hlt
      have hgd : L.getD k [] = L[k] := by simp [hlt]
      rw [hgd] at hc
      clear hgd
      by_cases hxy : L[k] = x
      · have hq : (L[k] == x) = true := by rw [beq_iff_eq]; exact hxy
        have HR : Hid (isT T x = true) := by
          rw [← HI.out]
          show _ = _
          rw [decide_eq_true_eq, ← hxy]
          exact List.getElem_mem _
        generalize L[k] = y at *
        clear hxy
        go_wp2
        go_ret
        exact ⟨ret_bool HR.out.symm, HB.out⟩
      · have hq : (L[k] == x) = false := by rw [beq_eq_false_iff_ne]; exact hxy
        have HN2 : Hid (x ∉ L.take (k + 1)) := by
          rw [HTK.out]
          show _ ∉ _
          rw [List.mem_append, List.mem_singleton]
          intro h
          rcases h with h | h
          · exact hN.out h
          · exact hxy h.symm
        generalize L[k] = y at *
        clear hxy
        go_wp2
        go_roundw
        case rel => exact ⟨k + 1, by omega, by go_num, by trivial, HN2⟩
        case measure => simp [intOf]; omega
    · obtain rfl : k = L.length := by omega
      have HR : Hid (isT T x = false) := by
        have h := hN.out
        rw [List.take_length] at h
        rw [← HI.out]
        show _ = _
        rw [decide_eq_false_iff_not]
        exact h
      go_wp2
      go_ret
      exact ⟨ret_bool HR.out.symm, HB.out⟩
/-- Where the topmost of some stands; none stops. -/
abbrev topI (S : List Txt) (T : ByteArray) (k : Nat) : Int := findK S (isT T) neverB k
set_option maxRecDepth 100000 in
set_option maxHeartbeats 2000000 in
/-- **topmost.** -/
theorem dtop_calls (S : List Txt) (T : ByteArray) (hT : T.size ≤ 1000000000) (a : Option Addr) (n c : Nat) (hn : n ≤ S.length) (hs : S.length ≤ 1000000000) (w : World) (h : TextsAt w a S) :
    Calls Try.prog 45 #[.slice a n c, .string T] w fun e w' => e = .returned (.int .i64 (topI S T n)) ∧ Below w.heap.size w w' := by
  have HT := hid_of h
  clear h
  go_enter Try.func45, Try.ntmps45
  go_wp2
  go_loopw [5] (fun i wr => ∃ k : Nat, k ≤ n ∧ i = .int .i64 ((k : Int) - 1) ∧ Hid (topI S T n = topI S T k) ∧ Hid (Below w.heap.size w wr)) (fun i _ => (intOf i + 1).toNat)
  case atStart => exact ⟨n, Nat.le_refl _, by first | rfl | (congr 1; rw [IntKind.wrap_i64]; omega), rfl, Below.refl _ _⟩
  case round =>
    obtain ⟨k, hk, rfl, hE, hB⟩ := hrel
    cases k with
    | zero =>
      have HE0 : Hid (topI S T n = -1) := hE.out.trans rfl
      rw [show ((0 : Nat) : Int) - 1 = -1 from rfl]
      go_wp2
      go_ret
      exact ⟨by rw [HE0.out]; rfl, hB.out⟩
    | succ j =>
      have ej : ((j + 1 : Nat) : Int) - 1 = (j : Int) := by omega
      rw [ej]
      clear ej
      obtain ⟨b, off, rfl, hcx⟩ := (HT.out.below hB.out) j (by omega)
      have HIS := hid_of (fun W => dis_calls (S.getD j []) T hT W)
      have hst : topI S T (j + 1) = if isT T (S.getD j []) then (j : Int) else topI S T j := by rw [show topI S T (j + 1) = findK S (isT T) neverB (j + 1) from rfl, findK]; simp [neverB]
      rw [hst] at hE
      clear hst
      generalize S.getD j [] = x at *
      have hjj : (j : Int) ≥ 0 := by omega
      have hjl : (j : Int) < (n : Int) := by omega
      have hjw : IntKind.i64.wrap ((j : Int) - 1) = (j : Int) - 1 := by rw [IntKind.wrap_i64]; omega
      cases hq : isT T x
      · rw [hq] at hE HIS
        have HE2 : Hid (topI S T n = topI S T j) := hE.out
        go_wp2_with (go_at_call 43; refine (HIS.out _).mono ?_; rintro e w2 ⟨rfl, hb2⟩)
        have HB2 : Hid (Below w.heap.size w w2) := hB.out.trans (hb2.mono hB.out.size)
        all_goals first
          | exact ⟨⟨j, by omega, rfl, HE2, HB2⟩, by simp [intOf]⟩
          | (go_roundw
             case rel => exact ⟨j, by omega, rfl, HE2, HB2⟩
             case measure => simp [intOf])
      · rw [hq] at hE HIS
        have HE2 : Hid (topI S T n = (j : Int)) := hE.out
        go_wp2_with (go_at_call 43; refine (HIS.out _).mono ?_; rintro e w2 ⟨rfl, hb2⟩)
        go_ret
        exact ⟨by rw [HE2.out]; rfl, hB.out.trans (hb2.mono hB.out.size)⟩
/-- Above: where no name is sought that stops. -/
theorem above_find (S : List Txt) (p q : Txt → Bool) (hd : ∀ x, p x = true → q x = false) : ∀ k, (if findK S p neverB k > findK S q neverB k then findK S p neverB k else -1) = findK S p q k
  | 0 => by simp [findK]
  | k + 1 => by
    have ih := above_find S p q hd k
    have h1 := findK_lt S p neverB k
    have h2 := findK_lt S q neverB k
    cases hp : p (S.getD k [])
    · cases hq : q (S.getD k [])
      · rw [findK, findK, findK, hp, hq]; simpa [neverB] using ih
      · rw [findK, findK, findK, hp, hq]
        simp only [neverB]
        simp
        omega
    · have hq := hd _ hp
      rw [findK, findK, findK, hp, hq]
      simp only [neverB]
      simp
      omega
set_option maxRecDepth 100000 in
/-- **above.** -/
theorem dabove_calls (S : List Txt) (T U : ByteArray) (hT : T.size ≤ 1000000000) (hU : U.size ≤ 1000000000) (hd : ∀ x, isT T x = true → isT U x = false) (a : Option Addr) (n c : Nat) (hn : n ≤ S.length) (hs : S.length ≤ 1000000000) (w : World) (h : TextsAt w a S) :
    Calls Try.prog 44 #[.slice a n c, .string T, .string U] w fun e w' => e = .returned (.int .i64 (findK S (isT T) (isT U) n)) ∧ Below w.heap.size w w' := by
  have HF : Hid ((if topI S T n > topI S U n then topI S T n else -1) = findK S (isT T) (isT U) n) := above_find S (isT T) (isT U) hd n
  have HT := hid_of (fun W hW => dtop_calls S T hT a n c hn hs W (h.below (w' := W) hW))
  have HU := hid_of (fun W hW => dtop_calls S U hU a n c hn hs W (h.below (w' := W) hW))
  clear h
  generalize topI S T n = i at *
  generalize topI S U n = j at *
  by_cases hij : i > j
  · have hdj : decide (i > j) = true := decide_eq_true hij
    have HF : Hid (findK S (isT T) (isT U) n = i) := by have h := HF.out; rw [if_pos hij] at h; exact h.symm
    clear hij
    go_enter Try.func44, Try.ntmps44
    go_wp2_with fail
    (go_at_call 45; refine (HT.out _ (Below.refl _ _)).mono ?_; rintro e w1 ⟨rfl, hb1⟩)
    have HB1 := hid_of hb1
    clear hb1
    go_wp2_with fail
    (go_at_call 45; refine (HU.out _ HB1.out).mono ?_; rintro e w2 ⟨rfl, hb2⟩)
    go_wp2
    go_ret
    exact ⟨by rw [HF.out]; rfl, HB1.out.trans (hb2.mono HB1.out.size)⟩
  · have hdj : decide (i > j) = false := decide_eq_false hij
    have HF : Hid (findK S (isT T) (isT U) n = -1) := by have h := HF.out; rw [if_neg hij] at h; exact h.symm
    clear hij
    go_enter Try.func44, Try.ntmps44
    go_wp2_with fail
    (go_at_call 45; refine (HT.out _ (Below.refl _ _)).mono ?_; rintro e w1 ⟨rfl, hb1⟩)
    have HB1 := hid_of hb1
    clear hb1
    go_wp2_with fail
    (go_at_call 45; refine (HU.out _ HB1.out).mono ?_; rintro e w2 ⟨rfl, hb2⟩)
    go_wp2
    go_ret
    exact ⟨by rw [HF.out]; rfl, HB1.out.trans (hb2.mono HB1.out.size)⟩
end Go.Proofs.Ytdkcibafbdmajaa.E
