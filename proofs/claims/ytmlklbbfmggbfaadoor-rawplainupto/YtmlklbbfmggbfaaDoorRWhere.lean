/- What is proved here: the contract of raw.Where: which names have a content without tags. -/
import Derived.Laws.IdiomStrings
import Derived.Test.YtmlklbbfmggbfaaDoorRWMath
import Derived.Test.YtmlklbbfmggbfaaDoorNIn
namespace Go.Proofs.YtmlklbbfmggbfaaDoor.R
open Go.RowKit Go.Shelf Go.Proofs.YtmlklbbfmggbfaaDoor.U Go.Proofs.YtmlklbbfmggbfaaDoor.N

abbrev script : List UInt8 := [115, 99, 114, 105, 112, 116]
abbrev plaintext : List UInt8 := [112, 108, 97, 105, 110, 116, 101, 120, 116]
/-- How the content of an element is read. -/
def whZ (l : List UInt8) : Nat := if inZ 2 l then 1 else if inZ 3 l then 2 else if l = script then 3 else if l = plaintext then 4 else 0
/-- A name's letters. -/
abbrev zs (l : List UInt8) : List Int := l.map fun c : UInt8 => (c.toNat : Int)
/-- Where a scanner begins. -/
def p0 (l : List UInt8) : Nat := if whZ l = 3 then 3 else if whZ l = 4 then 1 else 2
theorem sw2 : SW 2 = [[116, 101, 120, 116, 97, 114, 101, 97], [116, 105, 116, 108, 101]] := by decide +kernel
theorem sw3 : SW 3 = [[105, 102, 114, 97, 109, 101], [110, 111, 101, 109, 98, 101, 100], [110, 111, 102, 114, 97, 109, 101, 115], [110, 111, 115, 99, 114, 105, 112, 116], [115, 116, 121, 108, 101], [120, 109, 112]] := by decide +kernel
theorem in2 (l : List UInt8) : inZ 2 l = decide (l ∈ SW 2) := rfl
theorem in3 (l : List UInt8) : inZ 3 l = decide (l ∈ SW 3) := rfl
/-- The names whose content has no tags. -/
theorem wh_names (l : List UInt8) (h : whZ l ≠ 0) : l = [116, 101, 120, 116, 97, 114, 101, 97] ∨ l = [116, 105, 116, 108, 101] ∨ l = [105, 102, 114, 97, 109, 101] ∨ l = [110, 111, 101, 109, 98, 101, 100] ∨ l = [110, 111, 102, 114, 97, 109, 101, 115] ∨ l = [110, 111, 115, 99, 114, 105, 112, 116] ∨ l = [115, 116, 121, 108, 101] ∨ l = [120, 109, 112] ∨ l = [115, 99, 114, 105, 112, 116] ∨ l = [112, 108, 97, 105, 110, 116, 101, 120, 116] := by
  unfold whZ at h
  rw [in2, in3, sw2, sw3] at h
  by_cases h1 : l ∈ [[116, 101, 120, 116, 97, 114, 101, 97], [116, 105, 116, 108, 101]]
  · simp only [List.mem_cons, List.not_mem_nil, or_false] at h1
    rcases h1 with h1 | h1 <;> simp [h1]
  · rw [if_neg (by simpa using h1)] at h
    by_cases h2 : l ∈ [[105, 102, 114, 97, 109, 101], [110, 111, 101, 109, 98, 101, 100], [110, 111, 102, 114, 97, 109, 101, 115], [110, 111, 115, 99, 114, 105, 112, 116], [115, 116, 121, 108, 101], [120, 109, 112]]
    · simp only [List.mem_cons, List.not_mem_nil, or_false] at h2
      rcases h2 with h2 | h2 | h2 | h2 | h2 | h2 <;> simp [h2]
    · rw [if_neg (by simpa using h2)] at h
      by_cases h3 : l = script
      · simp [h3]
      · rw [if_neg h3] at h
        by_cases h4 : l = plaintext
        · simp [h4]
        · rw [if_neg h4] at h; exact absurd rfl h
theorem wh_cases (l : List UInt8) (h : whZ l ≠ 0) (P : List UInt8 → Prop) (h0 : P [116, 101, 120, 116, 97, 114, 101, 97]) (h1 : P [116, 105, 116, 108, 101]) (h2 : P [105, 102, 114, 97, 109, 101]) (h3 : P [110, 111, 101, 109, 98, 101, 100]) (h4 : P [110, 111, 102, 114, 97, 109, 101, 115]) (h5 : P [110, 111, 115, 99, 114, 105, 112, 116]) (h6 : P [115, 116, 121, 108, 101]) (h7 : P [120, 109, 112]) (h8 : P [115, 99, 114, 105, 112, 116]) (h9 : P [112, 108, 97, 105, 110, 116, 101, 120, 116]) : P l := by
  rcases wh_names l h with rfl | rfl | rfl | rfl | rfl | rfl | rfl | rfl | rfl | rfl <;> assumption
theorem wh_ok (l : List UInt8) (h : whZ l ≠ 0) : NmOk (zs l) := wh_cases l h (fun l => NmOk (zs l)) ⟨by decide, by decide⟩ ⟨by decide, by decide⟩ ⟨by decide, by decide⟩ ⟨by decide, by decide⟩ ⟨by decide, by decide⟩ ⟨by decide, by decide⟩ ⟨by decide, by decide⟩ ⟨by decide, by decide⟩ ⟨by decide, by decide⟩ ⟨by decide, by decide⟩
theorem wh_len (l : List UInt8) (h : whZ l ≠ 0) : l.length ≤ 9 := wh_cases l h (fun l => l.length ≤ 9) (by decide) (by decide) (by decide) (by decide) (by decide) (by decide) (by decide) (by decide) (by decide) (by decide)
theorem wh_low (l : List UInt8) (h : whZ l ≠ 0) : ∀ c ∈ l, 97 ≤ c.toNat ∧ c.toNat ≤ 122 := wh_cases l h (fun l => ∀ c ∈ l, 97 ≤ c.toNat ∧ c.toNat ≤ 122) (by decide) (by decide) (by decide) (by decide) (by decide) (by decide) (by decide) (by decide) (by decide) (by decide)
theorem wh_runes (l : List UInt8) (h : whZ l ≠ 0) : Conv.runesFrom ⟨l.toArray⟩ (⟨l.toArray⟩ : ByteArray).size 0 #[] = ((zs l).map (Value.int .i32)).toArray := wh_cases l h (fun l => Conv.runesFrom ⟨l.toArray⟩ (⟨l.toArray⟩ : ByteArray).size 0 #[] = ((zs l).map (Value.int .i32)).toArray) (by rfl) (by rfl) (by rfl) (by rfl) (by rfl) (by rfl) (by rfl) (by rfl) (by rfl) (by rfl)
theorem toList_arr (l : List UInt8) : (⟨l.toArray⟩ : ByteArray).toList = l := by rw [Lib.toList_data]
theorem arr_size (l : List UInt8) : (⟨l.toArray⟩ : ByteArray).size = l.length := by simp [ByteArray.size]
set_option maxRecDepth 100000 in
set_option maxHeartbeats 1000000 in
/-- **Where.** -/
theorem where_calls (l : List UInt8) (w : World) (hs : l.length ≤ 1000000000000) (hm : MaxOk w) :
    Calls Tryd.prog 12 #[.string ⟨l.toArray⟩] w fun e w' => e = .returned (.int .i64 (whZ l)) ∧ w' = w := by
  have hz := arr_size l
  have HI : Hid (∀ z, Calls Tryd.prog 27 #[.string ⟨l.toArray⟩, .int .i64 z] w fun e w' => e = .returned (.bool (inZ z l)) ∧ w' = w) := fun z => in_calls ⟨l.toArray⟩ z w (by omega) hm
  clear hm
  cases h1 : inZ 2 l with
  | true =>
    rw [show whZ l = 1 by unfold whZ; rw [h1]; rfl]
    go_enter Tryd.func12, Tryd.ntmps12
    go_wp2_with (go_at_call 27; refine (HI.out _).mono ?_; rintro e w' ⟨rfl, hw'⟩; have hx' := hw'.symm; subst hx'; rw [h1])
    go_ret
    exact ⟨rfl, rfl⟩
  | false =>
    cases h2 : inZ 3 l with
    | true =>
      rw [show whZ l = 2 by unfold whZ; rw [h1, h2]; rfl]
      go_enter Tryd.func12, Tryd.ntmps12
      go_wp2_with (go_at_call 27; refine (HI.out _).mono ?_; rintro e w' ⟨rfl, hw'⟩; have hx' := hw'.symm; subst hx'; first | rw [h1] | rw [h2])
      go_ret
      exact ⟨rfl, rfl⟩
    | false =>
      by_cases h3 : l = script
      · have e3 : (l == [115, 99, 114, 105, 112, 116]) = true := by rw [h3]; rfl
        rw [show whZ l = 3 by unfold whZ; rw [h1, h2, if_pos h3]; rfl]
        clear h3
        go_enter Tryd.func12, Tryd.ntmps12
        go_wp2_with (go_at_call 27; refine (HI.out _).mono ?_; rintro e w' ⟨rfl, hw'⟩; have hx' := hw'.symm; subst hx'; first | rw [h1] | rw [h2])
        go_ret
        exact ⟨rfl, rfl⟩
      · have e3 : (l == [115, 99, 114, 105, 112, 116]) = false := by simpa using h3
        by_cases h4 : l = plaintext
        · have e4 : (l == [112, 108, 97, 105, 110, 116, 101, 120, 116]) = true := by rw [h4]; rfl
          rw [show whZ l = 4 by unfold whZ; rw [h1, h2, if_neg h3, if_pos h4]; rfl]
          clear h3 h4
          go_enter Tryd.func12, Tryd.ntmps12
          go_wp2_with (go_at_call 27; refine (HI.out _).mono ?_; rintro e w' ⟨rfl, hw'⟩; have hx' := hw'.symm; subst hx'; first | rw [h1] | rw [h2])
          go_ret
          exact ⟨rfl, rfl⟩
        · have e4 : (l == [112, 108, 97, 105, 110, 116, 101, 120, 116]) = false := by simpa using h4
          rw [show whZ l = 0 by unfold whZ; rw [h1, h2, if_neg h3, if_neg h4]; rfl]
          clear h3 h4
          go_enter Tryd.func12, Tryd.ntmps12
          go_wp2_with (go_at_call 27; refine (HI.out _).mono ?_; rintro e w' ⟨rfl, hw'⟩; have hx' := hw'.symm; subst hx'; first | rw [h1] | rw [h2])
          go_ret
          exact ⟨rfl, rfl⟩
end Go.Proofs.YtmlklbbfmggbfaaDoor.R
