/- What is proved here: the contracts of Attrs and May of sieveref07: whether a token may be, by the document; it is what Check says. -/
import Derived.Test.YtelfejbhlolppaaDoorTRef
namespace Go.Proofs.YtelfejbhlolppaaDoor.T
open Go.RowKit N

theorem below_drewT {B : Nat} {w W : World} (h : Below B w W) (n : Nat) : Below B w (W.drewN n) := below_drewN h n
def oneB (a : ByteArray × ByteArray) : Bool := utfB a.1.data.toList && attrN a.1.data.toList && utfB a.2.data.toList
theorem oneB_all (l : AL) : (l.all oneB && decide ((l.map nameOf).Nodup)) = (attrsB l && validA l) := by
  unfold attrsB validA oneB
  have h : (l.all fun a => utfB a.1.data.toList && attrN a.1.data.toList && utfB a.2.data.toList) = ((l.all fun a => attrN (nameOf a)) && l.all fun a => utfB a.1.data.toList && utfB a.2.data.toList) := by
    rw [Bool.eq_iff_iff]
    simp only [Bool.and_eq_true, List.all_eq_true, nameOf]
    constructor
    · intro h; exact ⟨fun x hx => (h x hx).1.2, fun x hx => ⟨(h x hx).1.1, (h x hx).2⟩⟩
    · rintro ⟨h1, h2⟩ x hx; exact ⟨⟨(h2 x hx).1, h1 x hx⟩, (h2 x hx).2⟩
  rw [h, Bool.and_assoc, Bool.and_assoc]
  congr 1
  exact Bool.and_comm _ _
theorem beq_names (x y : ByteArray) : (x.toList == y.toList) = decide (x.data.toList = y.data.toList) := by
  rw [Lib.toList_data, Lib.toList_data, Bool.eq_iff_iff]; simp
theorem nodup_take_succ (l : AL) (k : Nat) (h : k < l.length) (h0 : ((l.take k).map nameOf).Nodup) (h1 : ∀ j (hj : j < l.length), j < k → nameOf l[j] ≠ nameOf l[k]) : ((l.take (k + 1)).map nameOf).Nodup := by
  rw [List.take_succ_eq_append_getElem h, List.map_append, List.nodup_append]
  refine ⟨h0, by simp, fun a ha b hb => ?_⟩
  simp at hb
  subst hb
  obtain ⟨x, hx, rfl⟩ := List.mem_map.1 ha
  obtain ⟨j, hj, rfl⟩ := List.mem_iff_getElem.1 hx
  simp only [List.length_take] at hj
  rw [List.getElem_take]
  exact h1 j (by omega) (by omega)
theorem not_nodup (l : AL) (j k : Nat) (hk : k < l.length) (hj : j < k) (h : nameOf l[j] = nameOf l[k]) : decide ((l.map nameOf).Nodup) = false := by
  rw [decide_eq_false_iff_not]
  intro hn
  have := List.pairwise_iff_getElem.1 hn j k (by simp; omega) (by simpa using hk) hj
  simp only [List.getElem_map] at this
  exact this h

set_option maxRecDepth 100000 in
set_option maxHeartbeats 2000000 in
theorem rattrs_calls (l : AL) (v : Value) (w : World) (hH : HasA w v l) (hl : SizesA l) :
    Calls Tryd.prog 29 #[v] w fun e w' => e = .returned (.bool (attrsB l && validA l)) ∧ Below w.heap.size w w' := by
  rw [← oneB_all]
  obtain ⟨la, lc, rfl⟩ := hH.slice
  have HS : Hid (HasA w (.slice la l.length lc) l) := hH
  have HL : Hid (SizesA l) := hl
  have hll := hl.1
  clear hH hl
  go_enter Tryd.func29, Tryd.ntmps29
  go_wp2
  go_loopw [3, 4, 5, 8] (fun _ _ _ i wr => ∃ k : Nat, k ≤ l.length ∧ i = .int .i64 k ∧ Hid (Below w.heap.size w wr) ∧ Hid ((l.take k).all oneB = true) ∧ Hid (((l.take k).map nameOf).Nodup)) (fun _ _ _ i _ => l.length - (intOf i).toNat)
  case atStart => exact ⟨0, by omega, rfl, Below.refl _ _, by simp [Hid], by simp [Hid]⟩
  case round =>
    obtain ⟨k, hk, rfl, hB, ha, hn⟩ := hrel
    have s1 := hB.out.size
    by_cases hlt : k < l.length
    · obtain ⟨ab, off, rfl, d0, d1⟩ := (HS.out.below hB.out).at k hlt
      have hz1 := HL.out.2 l[k] (List.getElem_mem _)
      rcases hx : l[k] with ⟨n, x⟩
      rw [hx] at d0 d1 hz1
      simp only at d0 d1 hz1
      have hzn := hz1.1
      have hzx := hz1.2
      have HNM : Hid (nameOf l[k] = n.data.toList) := by rw [hx]; rfl
      have HON : Hid (oneB l[k] = ((utfB n.data.toList && attrN n.data.toList) && utfB x.data.toList)) := by show _ = _; rw [hx]; rfl
      clear hx hz1
      obtain ⟨W1, hW1⟩ : ∃ W1, wr.alloc (.cells #[.string n, .string x] 36) = W1 := ⟨_, rfl⟩
      have b1 : Below wr.heap.size wr W1 := by rw [← hW1]; exact (Below.refl _ wr).alloc (Nat.le_refl _) _
      have u0 : W1.cell? ⟨wr.heap.size, 0, none⟩ = some (.string n) := by rw [← hW1, C.cell_new]; rfl
      have u1 : W1.cell? ⟨wr.heap.size, 1, none⟩ = some (.string x) := by rw [← hW1, C.cell_new]; rfl
      have hzw : wr.heap.size < W1.heap.size := by rw [← hW1]; simp
      have HB1 : Hid (Below w.heap.size w W1) := hB.out.trans (b1.mono s1)
      clear b1
      obtain ⟨P, hP⟩ : ∃ P, (utfB n.data.toList && attrN n.data.toList) = P := ⟨_, rfl⟩
      obtain ⟨R, hR⟩ : ∃ R, utfB x.data.toList = R := ⟨_, rfl⟩
      have C1 : Hid (Calls Tryd.prog 48 #[.string n] W1 fun e w' => e = .returned (.bool P) ∧ Below W1.heap.size W1 w') := by rw [← hP]; exact rattr_calls n W1 hzn
      have C2 : Hid (∀ W, Calls Tryd.prog 27 #[.string x] W fun e w' => e = .returned (.bool R) ∧ Below W.heap.size W w') := fun W => by rw [← hR]; exact rutf_calls x W hzx
      rw [hP, hR] at HON
      clear hP hR
      have HF : Hid (oneB l[k] = false → (l.all oneB && decide ((l.map nameOf).Nodup)) = false) := fun h => by
        rw [show l.all oneB = false from List.all_eq_false.2 ⟨l[k], List.getElem_mem _, by rw [h]; simp⟩]; rfl
      cases P with
      | false =>
        have HH := HF.out (by rw [HON.out]; rfl)
        go_wp2_with (go_at_call 48; refine C1.out.mono ?_; rintro e w2 ⟨rfl, hb2⟩)
        all_goals go_ret
        all_goals exact ⟨ret_bool HH.symm, HB1.out.trans (hb2.mono HB1.out.size)⟩
      | true =>
        go_wp2_with fail
        refine C1.out.mono ?_
        rintro e w2 ⟨rfl, hb2⟩
        have u1' := (hb2.cell (p := ⟨wr.heap.size, 1, none⟩) hzw).trans u1
        have u0' := (hb2.cell (p := ⟨wr.heap.size, 0, none⟩) hzw).trans u0
        have HB2 : Hid (Below w.heap.size w w2) := HB1.out.trans (hb2.mono HB1.out.size)
        have hz2 := hb2.size
        clear hb2
        cases R with
        | false =>
          have HH := HF.out (by rw [HON.out]; rfl)
          go_wp2_with (go_at_call 27; refine (C2.out _).mono ?_; rintro e w3 ⟨rfl, hb3⟩)
          all_goals go_ret
          all_goals exact ⟨ret_bool HH.symm, HB2.out.trans (hb3.mono HB2.out.size)⟩
        | true =>
          go_wp2_with (go_at_call 27; refine (C2.out _).mono ?_; rintro e w3 ⟨rfl, hb3⟩)
          have u0'' := (hb3.cell (p := ⟨wr.heap.size, 0, none⟩) (by show wr.heap.size < _; omega)).trans u0'
          have HB3 : Hid (Below w.heap.size w w3) := HB2.out.trans (hb3.mono HB2.out.size)
          have hz3 := hb3.size
          have HA2 : Hid ((l.take (k + 1)).all oneB = true) := by
            show _ = _
            rw [List.take_succ_eq_append_getElem hlt, List.all_append, ha.out]
            simp [HON.out]
          clear hb3 u1' u0' u1 u0 d0 d1 ha HON HF C1 C2
          go_loopw [5] (fun vj wq => ∃ j : Nat, j ≤ k ∧ vj = .int .i64 j ∧ Hid (Below w3.heap.size w3 wq) ∧ Hid (∀ i (hi : i < l.length), i < j → nameOf l[i] ≠ nameOf l[k])) (fun vj _ => k - (intOf vj).toNat)
          case atStart => exact ⟨0, by omega, rfl, Below.refl _ _, fun i _ hi => by omega⟩
          case round =>
            obtain ⟨j, hj, rfl, hBq, hne⟩ := hrel
            have sq := hBq.out.size
            by_cases hjk : j < k
            · have hBw : Below w.heap.size w wr := HB3.out.trans (hBq.out.mono HB3.out.size)
              obtain ⟨ab', off', e', g0, _⟩ := (HS.out.below hBw).at j (by omega)
              cases e'
              have g1 := (hBq.out.cell (p := ⟨_, 0, none⟩) (by exact C.cell_lt u0'')).trans u0''
              rcases hy : l[j]'(by omega) with ⟨m, y⟩
              rw [hy] at g0
              simp only at g0
              have HNJ : Hid (nameOf (l[j]'(by omega)) = m.data.toList) := by rw [hy]; rfl
              clear hy
              by_cases heq : m.data.toList = n.data.toList
              · have q1 : (m.toList == n.toList) = true := by rw [beq_names]; simpa using heq
                have HH : Hid ((l.all oneB && decide ((l.map nameOf).Nodup)) = false) := by
                  show _ = _
                  rw [not_nodup l j k hlt hjk (by rw [HNJ.out, HNM.out, heq])]
                  exact Bool.and_false _
                clear heq
                go_wp2
                go_quiet (fail)
                go_wp2
                all_goals go_ret
                all_goals exact ⟨ret_bool HH.out.symm, below_drewT hBw _⟩
              · have q1 : (m.toList == n.toList) = false := by rw [beq_names]; simpa using heq
                have HN2 : Hid (∀ i (hi : i < l.length), i < j + 1 → nameOf l[i] ≠ nameOf l[k]) := fun i hi hij => by
                  by_cases e : i = j
                  · subst e; rw [HNJ.out, HNM.out]; exact heq
                  · exact hne.out i hi (by omega)
                clear heq
                go_wp2
                go_quiet (fail)
                go_wp2
                all_goals first
                  | exact ⟨⟨j + 1, by omega, by go_num, below_drewT hBq.out _, HN2⟩, by simp [intOf]; omega⟩
                  | (go_roundw
                     case rel => exact ⟨j + 1, by omega, by go_num, below_drewT hBq.out _, HN2⟩
                     case measure => simp [intOf]; omega)
            · obtain rfl : j = k := by omega
              have HN3 : Hid (((l.take (j + 1)).map nameOf).Nodup) := nodup_take_succ l j hlt hn.out (fun i hi hij => hne.out i hi hij)
              go_wp2
              go_roundw
              case rel => exact ⟨j + 1, by omega, by go_num, HB3.out.trans (hBq.out.mono HB3.out.size), HA2, HN3⟩
              case measure => simp [intOf]; omega
    · obtain rfl : k = l.length := by omega
      have HH : Hid ((l.all oneB && decide ((l.map nameOf).Nodup)) = true) := by
        have h1 := ha.out
        have h2 := hn.out
        rw [List.take_length] at h1 h2
        show _ = _
        rw [h1, decide_eq_true h2]; rfl
      go_wp2
      go_ret
      exact ⟨ret_bool HH.out.symm, hB.out⟩
end Go.Proofs.YtelfejbhlolppaaDoor.T
