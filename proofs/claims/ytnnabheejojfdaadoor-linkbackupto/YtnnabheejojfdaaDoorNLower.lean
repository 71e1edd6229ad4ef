/- What is proved here: the contracts of Lower, of names and of sieveref04: any text in small letters. -/
import Derived.Test.YtnnabheejojfdaaDoorBun1
namespace Go.Proofs.YtnnabheejojfdaaDoor.N
open Go.RowKit C

/-- Bytes of one's own that are being made small letters: the first k are. -/
structure Low (w wr : World) (l : List UInt8) (k : Nat) : Prop where
  below : Below w.heap.size w wr
  done : ∀ j, j < k → j < l.length → wr.cell? ⟨w.heap.size, j, none⟩ = some (.int .u8 (lowB (l.getD j 0)).toNat)
  rest : ∀ j, k ≤ j → j < l.length → wr.cell? ⟨w.heap.size, j, none⟩ = some (.int .u8 (l.getD j 0).toNat)
  free : ∀ j, j < l.length → wr.frozen? ⟨w.heap.size, j, none⟩ = false
theorem Low.start (w : World) (e : TypeId) (s : ByteArray) : Low w (Lib.bytesWorld w e s) s.data.toList 0 := by
  refine ⟨bytesWorld_below w e s, fun j h => by omega, fun j _ h => Lib.bytesWorld_cell w e s j (by rw [size_data] at h; exact h), fun j h => ?_⟩
  have hn := Lib.bytesWorld_at_new w e s
  have : j < (Lib.bytesCells w e s).size := by rw [size_data] at h; simp [Lib.bytesCells]; omega
  simp [World.frozen?, hn]
  omega
theorem Low.step {w wr : World} {l : List UInt8} {k : Nat} (h : Low w wr l k) (hk : k < l.length) : Low w (wr.setCell ⟨w.heap.size, k, none⟩ (.int .u8 (lowB (l.getD k 0)).toNat)) l (k + 1) := by
  have hc := h.rest k (Nat.le_refl _) hk
  refine ⟨h.below.setCell (Nat.le_refl _) _, fun j hj hl => ?_, fun j hj hl => ?_, fun j hj => ?_⟩
  · by_cases e : j = k
    · subst e; exact cs_same hc
    · rw [cs_other (by simp; first | done | omega)]; exact h.done j (by omega) hl
  · rw [cs_other (by simp; first | done | omega)]; exact h.rest j (by omega) hl
  · rw [World.frozen?_setCell]; exact h.free j hj
theorem Low.keep {w wr : World} {l : List UInt8} {k : Nat} (h : Low w wr l k) (hk : k < l.length) (hl : lowB (l.getD k 0) = l.getD k 0) : Low w wr l (k + 1) := by
  refine ⟨h.below, fun j hj hl' => ?_, fun j hj hl => h.rest j (by omega) hl, h.free⟩
  by_cases e : j = k
  · subst e; rw [hl]; exact h.rest j (Nat.le_refl _) hk
  · exact h.done j (by omega) hl'
theorem Low.over {w wr : World} {l : List UInt8} (h : Low w wr l l.length) (cap : Nat) : (convert 52 9 (.slice (some ⟨w.heap.size, 0, none⟩) l.length cap)).run Tryd.prog wr = .ok (.string ⟨(lower l).toArray⟩) wr := by
  have := run_convert_bytes_back (P := Tryd.prog) wr 52 9 5 ⟨w.heap.size, 0, none⟩ cap (lower l) Tryd.underlying52 Tryd.underlying5 Tryd.underlying9 (fun j hj => by
    rw [lower_length] at hj
    rw [add_none, Nat.zero_add, h.done j hj hj]
    simp [lower, hj])
  rwa [lower_length] at this
theorem low_eq (c : UInt8) : lowZ (c.toNat : Int) = (lowB c).toNat := by
  rw [lowB_toNat]
  unfold lowZ
  repeat' split
  all_goals omega

set_option maxRecDepth 100000 in
set_option maxHeartbeats 2000000 in
theorem lower_calls (s : ByteArray) (w : World) (hs : s.size ≤ 9223372036854775807) :
    Calls Tryd.prog 23 #[.string s] w fun e w' => e = .returned (.string ⟨(lower s.data.toList).toArray⟩) ∧ Below w.heap.size w w' := by
  have HZ : Hid (s.data.toList.length = s.size) := size_data s
  have hcv : (convert 9 52 (.string s)).run Tryd.prog w = .ok (.slice (some ⟨w.heap.size, 0, none⟩) s.size (grownCap w s.size 0 5)) (Lib.bytesWorld w 5 s) := Lib.run_convert_string_bytes w _ _ _ s Tryd.underlying9 Tryd.underlying52 Tryd.underlying5
  have HS : Hid (Low w (Lib.bytesWorld w 5 s) s.data.toList 0) := Low.start w _ s
  generalize Lib.bytesWorld w 5 s = W0 at hcv HS
  generalize grownCap w s.size 0 5 = cap at hcv
  obtain ⟨l, hl⟩ : ∃ l, s.data.toList = l := ⟨_, rfl⟩
  rw [hl] at HS HZ
  rw [hl]
  clear hl
  go_enter Tryd.func23, Tryd.ntmps23
  go_wp2
  clear hcv
  go_loopw [4, 5, 10] (fun _ _ i wr => ∃ k : Nat, k ≤ s.size ∧ i = .int .i64 k ∧ Hid (Low w wr l k)) (fun _ _ i _ => s.size - (intOf i).toNat)
  case atStart => exact ⟨0, by omega, rfl, HS⟩
  case round =>
    obtain ⟨k, hk, rfl, hL⟩ := hrel
    by_cases hlt : k < s.size
    · have hkl : k < l.length := by have := HZ.out; omega
      have hc := hL.out.rest k (Nat.le_refl _) hkl
      have hfz := hL.out.free k hkl
      have HL2 : Hid (Low w _ l (k + 1)) := hL.out.step hkl
      obtain ⟨c, hcc⟩ : ∃ c, l.getD k 0 = c := ⟨_, rfl⟩
      rw [hcc] at hc HL2
      clear hcc
      have hb := c.toNat_lt
      have hle := low_eq c
      have hb2 := (lowB c).toNat_lt
      go_wp2_with (go_at_call 53; refine (lrune_calls _ (by omega) (by omega) _).mono ?_; rintro e w' ⟨rfl, hw'⟩; have hx' := hw'.symm; subst hx'; rw [hle])
      exact ⟨⟨k + 1, by omega, by go_num, HL2⟩, by simp [intOf]; omega⟩
    · obtain rfl : k = s.size := by omega
      have hcv : ∀ cap, (convert 52 9 (.slice (some ⟨w.heap.size, 0, none⟩) s.size cap)).run Tryd.prog wr = .ok (.string ⟨(lower l).toArray⟩) wr := fun cap => by
        have := hL.out; rw [← HZ.out] at this ⊢; exact this.over cap
      go_wp2
      go_ret
      exact ⟨rfl, hL.out.below⟩

set_option maxRecDepth 100000 in
set_option maxHeartbeats 2000000 in
theorem rlower_calls (s : ByteArray) (w : World) (hs : s.size ≤ 9223372036854775807) :
    Calls Tryd.prog 49 #[.string s] w fun e w' => e = .returned (.string ⟨(lower s.data.toList).toArray⟩) ∧ Below w.heap.size w w' := by
  have HZ : Hid (s.data.toList.length = s.size) := size_data s
  have hcv : (convert 9 52 (.string s)).run Tryd.prog w = .ok (.slice (some ⟨w.heap.size, 0, none⟩) s.size (grownCap w s.size 0 5)) (Lib.bytesWorld w 5 s) := Lib.run_convert_string_bytes w _ _ _ s Tryd.underlying9 Tryd.underlying52 Tryd.underlying5
  have HS : Hid (Low w (Lib.bytesWorld w 5 s) s.data.toList 0) := Low.start w _ s
  generalize Lib.bytesWorld w 5 s = W0 at hcv HS
  generalize grownCap w s.size 0 5 = cap at hcv
  obtain ⟨l, hl⟩ : ∃ l, s.data.toList = l := ⟨_, rfl⟩
  rw [hl] at HS HZ
  rw [hl]
  clear hl
  go_enter Tryd.func49, Tryd.ntmps49
  go_wp2
  clear hcv
  go_loopw [4, 9] (fun _ i wr => ∃ k : Nat, k ≤ s.size ∧ i = .int .i64 k ∧ Hid (Low w wr l k)) (fun _ i _ => s.size - (intOf i).toNat)
  case atStart => exact ⟨0, by omega, rfl, HS⟩
  case round =>
    obtain ⟨k, hk, rfl, hL⟩ := hrel
    by_cases hlt : k < s.size
    · have hkl : k < l.length := by have := HZ.out; omega
      have hc := hL.out.rest k (Nat.le_refl _) hkl
      have hfz := hL.out.free k hkl
      have HL2 : Hid (Low w _ l (k + 1)) := hL.out.step hkl
      have HL3 : Hid (lowB (l.getD k 0) = l.getD k 0 → Low w wr l (k + 1)) := fun h => hL.out.keep hkl h
      obtain ⟨c, hcc⟩ : ∃ c, l.getD k 0 = c := ⟨_, rfl⟩
      rw [hcc] at hc HL2 HL3
      clear hcc
      have hb := c.toNat_lt
      by_cases h65 : 65 ≤ c.toNat ∧ c.toNat ≤ 90
      · have hlb : ((lowB c).toNat : Int) = c.toNat + 32 := by rw [lowB_toNat, if_pos h65]; omega
        rw [hlb] at HL2
        clear hlb
        obtain ⟨h65a, h65b⟩ := h65
        go_wp2
        first
          | exact ⟨⟨k + 1, by omega, by go_num, HL2⟩, by simp [intOf]; omega⟩
          | (go_roundw
             case rel => exact ⟨k + 1, by omega, by go_num, HL2⟩
             case measure => simp [intOf]; omega)
      · have hlb : lowB c = c := lowB_small c h65
        have HL4 := HL3.out hlb
        clear hlb
        by_cases h1 : 65 ≤ c.toNat
        · have h2 : 90 < c.toNat := by omega
          clear h65
          go_wp2
          first
            | exact ⟨⟨k + 1, by omega, by go_num, HL4⟩, by simp [intOf]; omega⟩
            | (go_roundw
               case rel => exact ⟨k + 1, by omega, by go_num, HL4⟩
               case measure => simp [intOf]; omega)
        · clear h65
          go_wp2
          first
            | exact ⟨⟨k + 1, by omega, by go_num, HL4⟩, by simp [intOf]; omega⟩
            | (go_roundw
               case rel => exact ⟨k + 1, by omega, by go_num, HL4⟩
               case measure => simp [intOf]; omega)
    · obtain rfl : k = s.size := by omega
      have hcv : ∀ cap, (convert 52 9 (.slice (some ⟨w.heap.size, 0, none⟩) s.size cap)).run Tryd.prog wr = .ok (.string ⟨(lower l).toArray⟩) wr := fun cap => by
        have := hL.out; rw [← HZ.out] at this ⊢; exact this.over cap
      go_wp2
      go_ret
      exact ⟨rfl, hL.out.below⟩

end Go.Proofs.YtnnabheejojfdaaDoor.N
