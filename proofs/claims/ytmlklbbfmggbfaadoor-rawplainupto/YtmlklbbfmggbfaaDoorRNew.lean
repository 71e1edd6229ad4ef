/- What is proved here: the contract of raw.New, of every name. -/
import Derived.Laws.IdiomStrings
import Derived.Test.YtmlklbbfmggbfaaDoorRPut
import Derived.Test.YtmlklbbfmggbfaaDoorRWhere
namespace Go.Proofs.YtmlklbbfmggbfaaDoor.R
open Go.RowKit Go.Shelf Go.Proofs.YtmlklbbfmggbfaaDoor.U Go.Proofs.YtmlklbbfmggbfaaDoor.N

theorem zs_length (l : List UInt8) : (zs l).length = l.length := by simp
/-- What New leaves. -/
theorem sc_new (w : World) (l : List UInt8) (p cap : Nat) (more : Array Value) :
    ScAt ((w.alloc (.cells (((zs l).map (Value.int .i32)).toArray ++ more) 21)).alloc (.cells #[.int .i64 p, .int .i64 0, .slice (some ⟨w.heap.size, 0, none⟩) l.length cap, .int .i64 0, .slice none 0 0, .slice none 0 0, .int .i32 0] 54)) w.heap.size cap (zs l) (s0 p) := by
  refine ⟨.slice none 0 0, .slice none 0 0, ⟨((zs l).map (Value.int .i32)).toArray ++ more, (0, 0), ?_, ?_⟩, ?_, World.ownsRow_nil _ _ _ _, World.ownsRow_nil _ _ _ _, by simp [s0]⟩
  · rw [Lib.alloc_old _ _ _ (by simp)]
    exact World.alloc_heap_new w _
  · intro k hk
    rw [zs_length] at hk
    rw [Array.getElem?_append_left (by simp; omega)]
    simp [hk]
  · have e : scells w.heap.size cap (zs l) (s0 p) (.slice none 0 0) (.slice none 0 0) = #[.int .i64 p, .int .i64 0, .slice (some ⟨w.heap.size, 0, none⟩) l.length cap, .int .i64 0, .slice none 0 0, .slice none 0 0, .int .i32 0] := by simp [scells, s0]
    rw [e]
    have h := World.alloc_heap_new (w.alloc (.cells (((zs l).map (Value.int .i32)).toArray ++ more) 21)) (.cells #[.int .i64 p, .int .i64 0, .slice (some ⟨w.heap.size, 0, none⟩) l.length cap, .int .i64 0, .slice none 0 0, .slice none 0 0, .int .i32 0] 54)
    have hz : (w.alloc (.cells (((zs l).map (Value.int .i32)).toArray ++ more) 21)).heap.size = w.heap.size + 1 := by simp
    rw [hz] at h
    exact h
/-- The same, to be told behind a call. -/
def NewEnd (w : World) (l : List UInt8) (e : Ending) (W' : World) : Prop := ∃ cap, e = .returned (.tuple #[.pointer (some ⟨w.heap.size + 1, 0, none⟩), .int .i64 0]) ∧ ScAt W' w.heap.size cap (zs l) (s0 (p0 l)) ∧ Below w.heap.size w W'
set_option maxRecDepth 100000 in
set_option maxHeartbeats 1000000 in
/-- **New** of a name whose content has no tags. -/
theorem new_calls (l : List UInt8) (w : World) (hw : whZ l ≠ 0) (hm : MaxOk w) :
    Calls Tryd.prog 18 #[.string ⟨l.toArray⟩] w (NewEnd w l) := by
  have hlen := wh_len l hw
  have HW : Hid (Calls Tryd.prog 12 #[.string ⟨l.toArray⟩] w fun e w' => e = .returned (.int .i64 (whZ l)) ∧ w' = w) := where_calls l w (by omega) hm
  have hr := wh_runes l hw
  have hcv := fun w => run_runes_of_string (P := Tryd.prog) w 9 32 21 ⟨l.toArray⟩ Tryd.underlying9 Tryd.underlying32 Tryd.underlying21 (by rw [hr]; simp; omega)
  rw [hr] at hcv
  have hsz : ((zs l).map (Value.int .i32)).toArray.size = l.length := by simp
  rw [hsz] at hcv
  have hx : whZ l = 1 ∨ whZ l = 2 ∨ whZ l = 3 ∨ whZ l = 4 := by
    unfold whZ at hw ⊢
    split
    · simp
    · split
      · simp
      · split
        · simp
        · split
          · simp
          · rename_i a b c d; rw [if_neg a, if_neg b, if_neg c, if_neg d] at hw; exact absurd rfl hw
  have HSC := hid_of (sc_new w l)
  obtain ⟨zz, hzz⟩ : ∃ zz, ((zs l).map (Value.int .i32)).toArray = zz := ⟨_, rfl⟩
  rw [hzz] at hcv HSC
  clear hr hm hzz hsz
  rcases hx with hx | hx | hx | hx
  all_goals
    first
      | have HP : Hid (p0 l = 2) := by show p0 l = 2; unfold p0; rw [hx]; rfl
      | have HP : Hid (p0 l = 3) := by show p0 l = 3; unfold p0; rw [hx]; rfl
      | have HP : Hid (p0 l = 1) := by show p0 l = 1; unfold p0; rw [hx]; rfl
    rw [hx] at HW
    clear hx hw
    go_enter Tryd.func18, Tryd.ntmps18
    go_wp2_with (go_at_call 12; refine HW.out.mono ?_; rintro e w1 ⟨rfl, hw1⟩; have hx1 := hw1.symm; subst hx1)
    go_ret2
    exact ⟨_, rfl, by rw [HP.out]; exact HSC.out _ _ _, ((((Below.refl _ w).alloc (Nat.le_refl _) _).alloc (by simp) _).drew)⟩
set_option maxRecDepth 100000 in
set_option maxHeartbeats 1000000 in
/-- **New** of any other. -/
theorem new_data (l : List UInt8) (w : World) (hw : whZ l = 0) (hs : l.length ≤ 1000000000000) (hm : MaxOk w) :
    Calls Tryd.prog 18 #[.string ⟨l.toArray⟩] w fun e W' => e = .returned (.tuple #[.pointer none, .int .i64 100]) ∧ W' = w := by
  have HW : Hid (Calls Tryd.prog 12 #[.string ⟨l.toArray⟩] w fun e w' => e = .returned (.int .i64 (whZ l)) ∧ w' = w) := where_calls l w hs hm
  rw [hw] at HW
  clear hm hw
  go_enter Tryd.func18, Tryd.ntmps18
  go_wp2_with (go_at_call 12; refine HW.out.mono ?_; rintro e w1 ⟨rfl, hw1⟩; have hx1 := hw1.symm; subst hx1)
  go_ret2
  exact ⟨rfl, rfl⟩
end Go.Proofs.YtmlklbbfmggbfaaDoor.R
