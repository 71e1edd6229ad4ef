/- What is proved here: laws and contracts of RWhere, RNew, one behind the other (each says its own). -/
import Derived.Laws.IdiomStrings
import Derived.Test.YtegkdgmpkfpjmaaDoorRWMath
import Derived.Test.YtegkdgmpkfpjmaaDoorNIn
import Derived.Test.YtegkdgmpkfpjmaaDoorRPut
/- What is proved here: the contract of raw.Where: which names have a content without tags. -/
namespace Go.Proofs.YtegkdgmpkfpjmaaDoor.R
open Go.RowKit Go.Shelf Go.Proofs.YtegkdgmpkfpjmaaDoor.U Go.Proofs.YtegkdgmpkfpjmaaDoor.N

abbrev script : List UInt8 := [115, 99, 114, 105, 112, 116]
abbrev plaintext : List UInt8 := [112, 108, 97, 105, 110, 116, 101, 120, 116]
/-- How the content of an element is read. -/
def whZ (l : List UInt8) : Nat := if inZ 2 l then 1 else if inZ 3 l then 2 else if l = script then 3 else if l = plaintext then 4 else 0
/-- A name's letters. -/
abbrev zs (l : List UInt8) : List Int := l.map fun c : UInt8 => (c.toNat : Int)
/-- Where a scanner begins. -/
def p0 (l : List UInt8) : Nat := if whZ l = 3 then 3 else if whZ l = 4 then 1 else 2
theorem sw2 : SW 2 = [[116, 101, 120, 116, 97, 114, 101, 97], [116, 105, 116, 108, 101]] := by decide +kernel
theorem sw3 : SW 3 = [[105, 102, 114, 97, 109, 101], [110, 111, 101, 109, 98, 101, 100], [110, 111, 102, 114, 97, 109, 101, 115], [110, 111, 115, 99, 114, 105, 112, 116], [115, 116, 121, 108, 101], [120, 109, 112]] := by decide +kernel
theorem in2 (l : List UInt8) : inZ 2 l = decide (l ∈ SW 2) := rfl
theorem in3 (l : List UInt8) : inZ 3 l = decide (l ∈ SW 3) := rfl
/-- The names whose content has no tags. -/
theorem wh_names (l : List UInt8) (h : whZ l ≠ 0) : l = [116, 101, 120, 116, 97, 114, 101, 97] ∨ l = [116, 105, 116, 108, 101] ∨ l = [105, 102, 114, 97, 109, 101] ∨ l = [110, 111, 101, 109, 98, 101, 100] ∨ l = [110, 111, 102, 114, 97, 109, 101, 115] ∨ l = [110, 111, 115, 99, 114, 105, 112, 116] ∨ l = [115, 116, 121, 108, 101] ∨ l = [120, 109, 112] ∨ l = [115, 99, 114, 105, 112, 116] ∨ l = [112, 108, 97, 105, 110, 116, 101, 120, 116] := by
  unfold whZ at h
  rw [in2, in3, sw2, sw3] at h
  by_cases h1 : l ∈ [[116, 101, 120, 116, 97, 114, 101, 97], [116, 105, 116, 108, 101]]
  · simp only [List.mem_cons, List.not_mem_nil, or_false] at h1
    rcases h1 with h1 | h1 <;> simp [h1]
  · rw [if_neg (by simpa using h1)] at h
    by_cases h2 : l ∈ [[105, 102, 114, 97, 109, 101], [110, 111, 101, 109, 98, 101, 100], [110, 111, 102, 114, 97, 109, 101, 115], [110, 111, 115, 99, 114, 105, 112, 116], [115, 116, 121, 108, 101], [120, 109, 112]]
    · simp only [List.mem_cons, List.not_mem_nil, or_false] at h2
      rcases h2 with h2 | h2 | h2 | h2 | h2 | h2 <;> simp [h2]
    · rw [if_neg (by simpa using h2)] at h
      by_cases h3 : l = script
      · simp [h3]
      · rw [if_neg h3] at h
        by_cases h4 : l = plaintext
        · simp [h4]
        · rw [if_neg h4] at h; exact absurd rfl h
theorem wh_cases (l : List UInt8) (h : whZ l ≠ 0) (P : List UInt8 → Prop) (h0 : P [116, 101, 120, 116, 97, 114, 101, 97]) (h1 : P [116, 105, 116, 108, 101]) (h2 : P [105, 102, 114, 97, 109, 101]) (h3 : P [110, 111, 101, 109, 98, 101, 100]) (h4 : P [110, 111, 102, 114, 97, 109, 101, 115]) (h5 : P [110, 111, 115, 99, 114, 105, 112, 116]) (h6 : P [115, 116, 121, 108, 101]) (h7 : P [120, 109, 112]) (h8 : P [115, 99, 114, 105, 112, 116]) (h9 : P [112, 108, 97, 105, 110, 116, 101, 120, 116]) : P l := by
  rcases wh_names l h with rfl | rfl | rfl | rfl | rfl | rfl | rfl | rfl | rfl | rfl <;> assumption
theorem wh_ok (l : List UInt8) (h : whZ l ≠ 0) : NmOk (zs l) := wh_cases l h (fun l => NmOk (zs l)) ⟨by decide, by decide⟩ ⟨by decide, by decide⟩ ⟨by decide, by decide⟩ ⟨by decide, by decide⟩ ⟨by decide, by decide⟩ ⟨by decide, by decide⟩ ⟨by decide, by decide⟩ ⟨by decide, by decide⟩ ⟨by decide, by decide⟩ ⟨by decide, by decide⟩
theorem wh_len (l : List UInt8) (h : whZ l ≠ 0) : l.length ≤ 9 := wh_cases l h (fun l => l.length ≤ 9) (by decide) (by decide) (by decide) (by decide) (by decide) (by decide) (by decide) (by decide) (by decide) (by decide)
theorem wh_low (l : List UInt8) (h : whZ l ≠ 0) : ∀ c ∈ l, 97 ≤ c.toNat ∧ c.toNat ≤ 122 := wh_cases l h (fun l => ∀ c ∈ l, 97 ≤ c.toNat ∧ c.toNat ≤ 122) (by decide) (by decide) (by decide) (by decide) (by decide) (by decide) (by decide) (by decide) (by decide) (by decide)
theorem wh_runes (l : List UInt8) (h : whZ l ≠ 0) : Conv.runesFrom ⟨l.toArray⟩ (⟨l.toArray⟩ : ByteArray).size 0 #[] = ((zs l).map (Value.int .i32)).toArray := wh_cases l h (fun l => Conv.runesFrom ⟨l.toArray⟩ (⟨l.toArray⟩ : ByteArray).size 0 #[] = ((zs l).map (Value.int .i32)).toArray) (by rfl) (by rfl) (by rfl) (by rfl) (by rfl) (by rfl) (by rfl) (by rfl) (by rfl) (by rfl)
theorem toList_arr (l : List UInt8) : (⟨l.toArray⟩ : ByteArray).toList = l := by rw [Lib.toList_data]
theorem arr_size (l : List UInt8) : (⟨l.toArray⟩ : ByteArray).size = l.length := by simp [ByteArray.size]
set_option maxRecDepth 100000 in
set_option maxHeartbeats 1000000 in
/-- **Where.** -/
theorem where_calls (l : List UInt8) (w : World) (hs : l.length ≤ 1000000000000) (hm : MaxOk w) :
    Calls Tryd.prog 12 #[.string ⟨l.toArray⟩] w fun e w' => e = .returned (.int .i64 (whZ l)) ∧ w' = w := by
  have hz := arr_size l
  have HI : Hid (∀ z, Calls Tryd.prog 27 #[.string ⟨l.toArray⟩, .int .i64 z] w fun e w' => e = .returned (.bool (inZ z l)) ∧ w' = w) := fun z => in_calls ⟨l.toArray⟩ z w (by omega) hm
  clear hm
  cases h1 : inZ 2 l with
  | true =>
    rw [show whZ l = 1 by unfold whZ; rw [h1]; rfl]
    go_enter Tryd.func12, Tryd.ntmps12
    go_wp2_with (go_at_call 27; refine (HI.out _).mono ?_; rintro e w' ⟨rfl, hw'⟩; have hx' := hw'.symm; subst hx'; rw [h1])
    go_ret
    exact ⟨rfl, rfl⟩
  | false =>
    cases h2 : inZ 3 l with
    | true =>
      rw [show whZ l = 2 by unfold whZ; rw [h1, h2]; rfl]
      go_enter Tryd.func12, Tryd.ntmps12
      go_wp2_with (go_at_call 27; refine (HI.out _).mono ?_; rintro e w' ⟨rfl, hw'⟩; have hx' := hw'.symm; subst hx'; first | rw [h1] | rw [h2])
      go_ret
      exact ⟨rfl, rfl⟩
    | false =>
      by_cases h3 : l = script
      · have e3 : (l == [115, 99, 114, 105, 112, 116]) = true := by rw [h3]; rfl
        rw [show whZ l = 3 by unfold whZ; rw [h1, h2, if_pos h3]; rfl]
        clear h3
        go_enter Tryd.func12, Tryd.ntmps12
        go_wp2_with (go_at_call 27; refine (HI.out _).mono ?_; rintro e w' ⟨rfl, hw'⟩; have hx' := hw'.symm; subst hx'; first | rw [h1] | rw [h2])
        go_ret
        exact ⟨rfl, rfl⟩
      · have e3 : (l == [115, 99, 114, 105, 112, 116]) = false := by simpa using h3
        by_cases h4 : l = plaintext
        · have e4 : (l == [112, 108, 97, 105, 110, 116, 101, 120, 116]) = true := by rw [h4]; rfl
          rw [show whZ l = 4 by unfold whZ; rw [h1, h2, if_neg h3, if_pos h4]; rfl]
          clear h3 h4
          go_enter Tryd.func12, Tryd.ntmps12
          go_wp2_with (go_at_call 27; refine (HI.out _).mono ?_; rintro e w' ⟨rfl, hw'⟩; have hx' := hw'.symm; subst hx'; first | rw [h1] | rw [h2])
          go_ret
          exact ⟨rfl, rfl⟩
        · have e4 : (l == [112, 108, 97, 105, 110, 116, 101, 120, 116]) = false := by simpa using h4
          rw [show whZ l = 0 by unfold whZ; rw [h1, h2, if_neg h3, if_neg h4]; rfl]
          clear h3 h4
          go_enter Tryd.func12, Tryd.ntmps12
          go_wp2_with (go_at_call 27; refine (HI.out _).mono ?_; rintro e w' ⟨rfl, hw'⟩; have hx' := hw'.symm; subst hx'; first | rw [h1] | rw [h2])
          go_ret
          exact ⟨rfl, rfl⟩
end Go.Proofs.YtegkdgmpkfpjmaaDoor.R

/- What is proved here: the contract of raw.New, of every name. -/
namespace Go.Proofs.YtegkdgmpkfpjmaaDoor.R
open Go.RowKit Go.Shelf Go.Proofs.YtegkdgmpkfpjmaaDoor.U Go.Proofs.YtegkdgmpkfpjmaaDoor.N

theorem zs_length (l : List UInt8) : (zs l).length = l.length := by simp
/-- What New leaves. -/
theorem sc_new (w : World) (l : List UInt8) (p cap : Nat) (more : Array Value) :
    ScAt ((w.alloc (.cells (((zs l).map (Value.int .i32)).toArray ++ more) 21)).alloc (.cells #[.int .i64 p, .int .i64 0, .slice (some ⟨w.heap.size, 0, none⟩) l.length cap, .int .i64 0, .slice none 0 0, .slice none 0 0, .int .i32 0] 54)) w.heap.size cap (zs l) (s0 p) := by
  refine ⟨.slice none 0 0, .slice none 0 0, ⟨((zs l).map (Value.int .i32)).toArray ++ more, (0, 0), ?_, ?_⟩, ?_, World.ownsRow_nil _ _ _ _, World.ownsRow_nil _ _ _ _, by simp [s0]⟩
  · rw [Lib.alloc_old _ _ _ (by simp)]
    exact World.alloc_heap_new w _
  · intro k hk
    rw [zs_length] at hk
    rw [Array.getElem?_append_left (by simp; omega)]
    simp [hk]
  · have e : scells w.heap.size cap (zs l) (s0 p) (.slice none 0 0) (.slice none 0 0) = #[.int .i64 p, .int .i64 0, .slice (some ⟨w.heap.size, 0, none⟩) l.length cap, .int .i64 0, .slice none 0 0, .slice none 0 0, .int .i32 0] := by simp [scells, s0]
    rw [e]
    have h := World.alloc_heap_new (w.alloc (.cells (((zs l).map (Value.int .i32)).toArray ++ more) 21)) (.cells #[.int .i64 p, .int .i64 0, .slice (some ⟨w.heap.size, 0, none⟩) l.length cap, .int .i64 0, .slice none 0 0, .slice none 0 0, .int .i32 0] 54)
    have hz : (w.alloc (.cells (((zs l).map (Value.int .i32)).toArray ++ more) 21)).heap.size = w.heap.size + 1 := by simp
    rw [hz] at h
    exact h
/-- The same, to be told behind a call. -/
def NewEnd (w : World) (l : List UInt8) (e : Ending) (W' : World) : Prop := ∃ cap, e = .returned (.tuple #[.pointer (some ⟨w.heap.size + 1, 0, none⟩), .int .i64 0]) ∧ ScAt W' w.heap.size cap (zs l) (s0 (p0 l)) ∧ Below w.heap.size w W'
set_option maxRecDepth 100000 in
set_option maxHeartbeats 1000000 in
/-- **New** of a name whose content has no tags. -/
theorem new_calls (l : List UInt8) (w : World) (hw : whZ l ≠ 0) (hm : MaxOk w) :
    Calls Tryd.prog 18 #[.string ⟨l.toArray⟩] w (NewEnd w l) := by
  have hlen := wh_len l hw
  have HW : Hid (Calls Tryd.prog 12 #[.string ⟨l.toArray⟩] w fun e w' => e = .returned (.int .i64 (whZ l)) ∧ w' = w) := where_calls l w (by omega) hm
  have hr := wh_runes l hw
  have hcv := fun w => run_runes_of_string (P := Tryd.prog) w 9 32 21 ⟨l.toArray⟩ Tryd.underlying9 Tryd.underlying32 Tryd.underlying21 (by rw [hr]; simp; omega)
  rw [hr] at hcv
  have hsz : ((zs l).map (Value.int .i32)).toArray.size = l.length := by simp
  rw [hsz] at hcv
  have hx : whZ l = 1 ∨ whZ l = 2 ∨ whZ l = 3 ∨ whZ l = 4 := by
    unfold whZ at hw ⊢
    split
    · simp
    · split
      · simp
      · split
        · simp
        · split
          · simp
          · rename_i a b c d; rw [if_neg a, if_neg b, if_neg c, if_neg d] at hw; exact absurd rfl hw
  have HSC := hid_of (sc_new w l)
  obtain ⟨zz, hzz⟩ : ∃ zz, ((zs l).map (Value.int .i32)).toArray = zz := ⟨_, rfl⟩
  rw [hzz] at hcv HSC
  clear hr hm hzz hsz
  rcases hx with hx | hx | hx | hx
  all_goals
    first
      | have HP : Hid (p0 l = 2) := by show p0 l = 2; unfold p0; rw [hx]; rfl
      | have HP : Hid (p0 l = 3) := by show p0 l = 3; unfold p0; rw [hx]; rfl
      | have HP : Hid (p0 l = 1) := by show p0 l = 1; unfold p0; rw [hx]; rfl
    rw [hx] at HW
    clear hx hw
    go_enter Tryd.func18, Tryd.ntmps18
    go_wp2_with (go_at_call 12; refine HW.out.mono ?_; rintro e w1 ⟨rfl, hw1⟩; have hx1 := hw1.symm; subst hx1)
    go_ret2
    exact ⟨_, rfl, by rw [HP.out]; exact HSC.out _ _ _, ((((Below.refl _ w).alloc (Nat.le_refl _) _).alloc (by simp) _).drew)⟩
set_option maxRecDepth 100000 in
set_option maxHeartbeats 1000000 in
/-- **New** of any other. -/
theorem new_data (l : List UInt8) (w : World) (hw : whZ l = 0) (hs : l.length ≤ 1000000000000) (hm : MaxOk w) :
    Calls Tryd.prog 18 #[.string ⟨l.toArray⟩] w fun e W' => e = .returned (.tuple #[.pointer none, .int .i64 100]) ∧ W' = w := by
  have HW : Hid (Calls Tryd.prog 12 #[.string ⟨l.toArray⟩] w fun e w' => e = .returned (.int .i64 (whZ l)) ∧ w' = w) := where_calls l w hs hm
  rw [hw] at HW
  clear hm hw
  go_enter Tryd.func18, Tryd.ntmps18
  go_wp2_with (go_at_call 12; refine HW.out.mono ?_; rintro e w1 ⟨rfl, hw1⟩; have hx1 := hw1.symm; subst hx1)
  go_ret2
  exact ⟨rfl, rfl⟩
end Go.Proofs.YtegkdgmpkfpjmaaDoor.R
