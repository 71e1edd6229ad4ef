/- What is proved here: laws and contracts of Good, Runes, one behind the other (each says its own). -/
import Derived.BigQuiet
import Derived.Deep.QuietTactic
import Derived.WalkSmall
import Derived.Test.YthjjigobkndgjaaGreatDoorIter
import Derived.Maps.AppendAt
import Derived.Maps.OwnIn
/- What is proved here: contracts of the document's own functions size, second and good of sieveref01. -/
namespace Go.Proofs.YthjjigobkndgjaaGreatDoor.U
open Go.RowKit Go.Shelf

theorem ret_i64' {a b : Int} (h : a = b) : Ending.returned (.int .i64 a) = .returned (.int .i64 b) := by rw [h]
theorem ret_bool {a b : Bool} (h : a = b) : Ending.returned (.bool a) = .returned (.bool b) := by rw [h]

set_option maxRecDepth 100000 in
set_option maxHeartbeats 1000000 in
theorem size_calls (c : Nat) (hc : (c : Int) < 256) (w : World) :
    Calls Tryz.prog 96 #[.int .u8 c] w fun e w' => e = .returned (.int .i64 (lead c)) ∧ w' = w := by
  rcases lead_cases c with ⟨h, e⟩ | ⟨h, h', e⟩ | ⟨h, h', e⟩ | ⟨h, h', e⟩ | ⟨h, h', e⟩ | ⟨h, e⟩
  all_goals rw [e]; clear e
  all_goals go_enter Tryz.func96, Tryz.ntmps96
  all_goals go_wp2
  all_goals go_ret
  all_goals exact ⟨rfl, rfl⟩

set_option maxRecDepth 100000 in
set_option maxHeartbeats 1000000 in
theorem second_calls (c d : Nat) (hc : 194 ≤ c) (hc' : c < 245) (hd : d < 256) (w : World) :
    Calls Tryz.prog 97 #[.int .u8 c, .int .u8 d] w fun e w' => e = .returned (.bool (decide (lo2 c ≤ d) && decide (d ≤ hi2 c))) ∧ w' = w := by
  have hcase : (c = 224 ∧ lo2 c = 160 ∧ hi2 c = 191) ∨ (c = 237 ∧ lo2 c = 128 ∧ hi2 c = 159) ∨ (c = 240 ∧ lo2 c = 144 ∧ hi2 c = 191) ∨ (c = 244 ∧ lo2 c = 128 ∧ hi2 c = 143) ∨ (c ≠ 224 ∧ c ≠ 237 ∧ c ≠ 240 ∧ c ≠ 244 ∧ lo2 c = 128 ∧ hi2 c = 191) := by
    unfold lo2 hi2; repeat' split
    all_goals omega
  rcases hcase with ⟨h, e, e'⟩ | ⟨h, e, e'⟩ | ⟨h, e, e'⟩ | ⟨h, e, e'⟩ | ⟨h1, h2, h3, h4, e, e'⟩
  all_goals rw [e, e']; clear e e'
  all_goals go_enter Tryz.func97, Tryz.ntmps97
  all_goals go_wp2
  all_goals go_ret
  all_goals refine ⟨ret_bool ?_, rfl⟩
  all_goals (rw [Bool.eq_iff_iff]; simp; try omega)

theorem ret_good {a b : Int} {x y : Bool} (h : a = b) (h' : x = y) : Ending.returned (.tuple #[.int .i64 a, .bool x]) = .returned (.tuple #[.int .i64 b, .bool y]) := by rw [h, h']
theorem okAt_one (bs : List UInt8) : okAt bs 1 = (decide (lo2 (byteAt bs 0) ≤ byteAt bs 1) && decide (byteAt bs 1 ≤ hi2 (byteAt bs 0))) := rfl
theorem okAt_two (bs : List UInt8) (k : Nat) (h : k ≠ 1) : okAt bs k = (decide (128 ≤ byteAt bs k) && decide (byteAt bs k ≤ 191)) := by unfold okAt loAt hiAt; rw [if_neg h, if_neg h]
theorem lead_two {c : Nat} (h : 1 < lead c) : 194 ≤ c ∧ c < 245 := by
  rcases lead_cases c with ⟨a, e⟩ | ⟨a, b, e⟩ | ⟨a, b, e⟩ | ⟨a, b, e⟩ | ⟨a, b, e⟩ | ⟨a, e⟩ <;> omega

set_option maxRecDepth 100000 in
set_option maxHeartbeats 2000000 in
theorem good_zero (bs : List UInt8) (b off cap : Nat) (w : World) (h0 : (0 : Int) < (bs.length : Int)) (hn : lead (byteAt bs 0) = 0)
    (hc : w.cell? ⟨b, off, none⟩ = some (.int .u8 (byteAt bs 0))) :
    Calls Tryz.prog 68 #[.slice (some ⟨b, off, none⟩) bs.length cap] w fun e w' => e = .returned (.tuple #[.int .i64 0, .bool false]) ∧ Below w.heap.size w w' := by
  have hlt := byteAt_lt bs 0
  have FC : Hid (∀ w, Calls Tryz.prog 96 #[.int .u8 (byteAt bs 0)] w fun e w' => e = .returned (.int .i64 0) ∧ w' = w) := fun w => by
    have := size_calls (byteAt bs 0) (by omega) w; rw [hn] at this; exact this
  clear hn
  go_enter Tryz.func68, Tryz.ntmps68
  go_wp2_with (go_at_call 96; refine (FC.out _).mono ?_; rintro e w' ⟨rfl, rfl⟩)
  go_ret2
  exact ⟨rfl, Below.refl _ _⟩

set_option maxRecDepth 100000 in
set_option maxHeartbeats 2000000 in
theorem good_pos (bs : List UInt8) (b off cap : Nat) (w : World) (h0 : (0 : Int) < (bs.length : Int)) (hl : (bs.length : Int) ≤ 140737488355328) (hn : lead (byteAt bs 0) ≠ 0)
    (hc : ∀ j, j < bs.length → w.cell? ⟨b, off + j, none⟩ = some (.int .u8 (byteAt bs j))) :
    Calls Tryz.prog 68 #[.slice (some ⟨b, off, none⟩) bs.length cap] w fun e w' => e = .returned (.tuple #[.int .i64 (nextN bs), .bool (nextAll bs)]) ∧ Below w.heap.size w w' := by
  have c0 : w.cell? ⟨b, off, none⟩ = some (.int .u8 (byteAt bs 0)) := hc 0 (by omega)
  have HC : Hid (∀ j, j < bs.length → w.cell? ⟨b, off + j, none⟩ = some (.int .u8 (byteAt bs j))) := hc
  have hlt := byteAt_lt bs 0
  have hL := lead_le (byteAt bs 0)
  have hs1 : Hid (nextN bs = scan bs (lead (byteAt bs 0) - 1) 1) := nextN_scan bs hn
  have hn1 : 1 ≤ lead (byteAt bs 0) := by omega
  have hn0 : ((lead (byteAt bs 0) : Int) == 0) = false := beq_eq_false_iff_ne.2 (by omega)
  clear hc hn
  go_enter Tryz.func68, Tryz.ntmps68
  go_wp2_with (go_at_call 96; refine (size_calls _ (by omega) _).mono ?_; rintro e w' ⟨rfl, hw⟩; obtain rfl : w = w' := hw.symm)
  go_loopw [5] (fun i wr => ∃ k : Nat, 1 ≤ k ∧ k ≤ lead (byteAt bs 0) ∧ k ≤ bs.length ∧ i = .int .i64 k ∧ Below w.heap.size w wr ∧ Hid (nextN bs = scan bs (lead (byteAt bs 0) - k) k)) (fun i _ => 4 - (intOf i).toNat)
  case atStart => exact ⟨1, by omega, by omega, by omega, rfl, Below.refl _ _, hs1⟩
  case round =>
    obtain ⟨k, hk1, hkn, hkl, rfl, hB, hs⟩ := hrel
    have fin : Hid (¬ (k < lead (byteAt bs 0)) ∨ ¬ (k < bs.length) ∨ okAt bs k = false → nextN bs = k ∧ nextAll bs = ((k : Int) == (lead (byteAt bs 0) : Int))) := fun h => by
      have e : nextN bs = k := hs.out.trans (scan_out h)
      refine ⟨e, ?_⟩
      unfold nextAll; rw [e, Bool.eq_iff_iff]; simp; omega
    by_cases hlt2 : k < lead (byteAt bs 0)
    · by_cases hlen : k < bs.length
      · have ck : wr.cell? ⟨b, off + k, none⟩ = some (.int .u8 (byteAt bs k)) := (hB.cell (p := ⟨b, off + k, none⟩) (cell_lt (HC.out k hlen))).trans (HC.out k hlen)
        have ck0 : wr.cell? ⟨b, off, none⟩ = some (.int .u8 (byteAt bs 0)) := (hB.cell (p := ⟨b, off, none⟩) (cell_lt c0)).trans c0
        have hbk := byteAt_lt bs k
        by_cases hone : k = 1
        · subst hone
          have h2 := lead_two hlt2
          by_cases ho : okAt bs 1 = true
          · have hs2 : Hid (nextN bs = scan bs (lead (byteAt bs 0) - 2) 2) := hs.out.trans (scan_on hlt2 hlen ho)
            have SC : Hid (∀ w, Calls Tryz.prog 97 #[.int .u8 (byteAt bs 0), .int .u8 (byteAt bs 1)] w fun e w' => e = .returned (.bool true) ∧ w' = w) := fun w => by
              have := second_calls (byteAt bs 0) (byteAt bs 1) h2.1 h2.2 hbk w; rw [← okAt_one, ho] at this; exact this
            clear ho
            go_wp2
            go_quiet ((go_at_call 97; exact Calls.quiet_of_same (SC.out _)))
            go_wp2
            go_roundw
            case rel => exact ⟨2, by omega, by omega, by omega, by go_num, below_drewN hB _, hs2⟩
            case measure => simp [intOf]
          · have ho' : okAt bs 1 = false := by simpa using ho
            have E := fin.out (.inr (.inr ho'))
            have HE : Hid (nextN bs = 1 ∧ nextAll bs = (((1 : Nat) : Int) == (lead (byteAt bs 0) : Int))) := E
            have SC : Hid (∀ w, Calls Tryz.prog 97 #[.int .u8 (byteAt bs 0), .int .u8 (byteAt bs 1)] w fun e w' => e = .returned (.bool false) ∧ w' = w) := fun w => by
              have := second_calls (byteAt bs 0) (byteAt bs 1) h2.1 h2.2 hbk w; rw [← okAt_one, ho'] at this; exact this
            clear ho E ho'
            go_wp2
            go_quiet ((go_at_call 97; exact Calls.quiet_of_same (SC.out _)))
            go_wp2
            go_ret2
            exact ⟨ret_good (by rw [HE.out.1]; rfl) (by rw [HE.out.2]; rfl), below_drewN hB _⟩
        · have hne : ((k : Int) == 1) = false := beq_eq_false_iff_ne.2 (by omega)
          have hgt : (1 : Int) < (k : Int) := by omega
          by_cases hlo : (byteAt bs k : Int) < 128
          · have E := fin.out (.inr (.inr (by rw [okAt_two bs k hone]; simp; omega)))
            have HE : Hid (nextN bs = k ∧ nextAll bs = ((k : Int) == (lead (byteAt bs 0) : Int))) := E
            clear E
            go_wp2
            go_quiet (fail)
            go_wp2
            go_ret2
            exact ⟨ret_good (by rw [HE.out.1]) (by rw [HE.out.2]), below_drewN hB _⟩
          · have hlo' : (128 : Int) ≤ (byteAt bs k : Int) := by omega
            have hdl : decide ((byteAt bs k : Int) < 128) = false := by simp; omega
            by_cases hhi : (191 : Int) < (byteAt bs k : Int)
            · have E := fin.out (.inr (.inr (by rw [okAt_two bs k hone]; simp; omega)))
              have HE : Hid (nextN bs = k ∧ nextAll bs = ((k : Int) == (lead (byteAt bs 0) : Int))) := E
              clear E
              go_wp2
              go_quiet (fail)
              go_wp2
              go_ret2
              exact ⟨ret_good (by rw [HE.out.1]) (by rw [HE.out.2]), below_drewN hB _⟩
            · have hs2 : Hid (nextN bs = scan bs (lead (byteAt bs 0) - (k + 1)) (k + 1)) := hs.out.trans (scan_on hlt2 hlen (by rw [okAt_two bs k hone]; simp; omega))
              have hdh : decide ((191 : Int) < (byteAt bs k : Int)) = false := by simp; omega
              go_wp2
              go_quiet (fail)
              go_wp2
              go_roundw
              case rel => exact ⟨k + 1, by omega, by omega, by omega, by go_num, below_drewN hB _, hs2⟩
              case measure => simp [intOf]; omega
      · have E := fin.out (.inr (.inl hlen))
        have HE : Hid (nextN bs = k ∧ nextAll bs = ((k : Int) == (lead (byteAt bs 0) : Int))) := E
        clear E
        go_wp2
        go_ret2
        exact ⟨ret_good (by rw [HE.out.1]) (by rw [HE.out.2]), hB⟩
    · have E := fin.out (.inl hlt2)
      have HE : Hid (nextN bs = k ∧ nextAll bs = ((k : Int) == (lead (byteAt bs 0) : Int))) := E
      clear E
      go_wp2
      go_ret2
      exact ⟨ret_good (by rw [HE.out.1]) (by rw [HE.out.2]), hB⟩

/-- **good of any bytes that are not empty.** -/
theorem good_calls (bs : List UInt8) (b off cap : Nat) (w : World) (h0 : 0 < bs.length) (hl : bs.length ≤ 140737488355328)
    (hc : ∀ j, j < bs.length → w.cell? ⟨b, off + j, none⟩ = some (.int .u8 (byteAt bs j))) :
    Calls Tryz.prog 68 #[.slice (some ⟨b, off, none⟩) bs.length cap] w fun e w' => e = .returned (.tuple #[.int .i64 (glen bs), .bool (nextAll bs)]) ∧ Below w.heap.size w w' := by
  by_cases hn : lead (byteAt bs 0) = 0
  · have e1 : glen bs = 0 := by unfold glen; rw [if_pos hn]
    have e2 : nextAll bs = false := by unfold nextAll; rw [nextN_zero bs hn, hn]; rfl
    rw [e1, e2]
    exact good_zero bs b off cap w (by omega) hn (hc 0 h0)
  · have e1 : glen bs = nextN bs := by unfold glen nextN; rw [if_neg hn, if_neg hn]
    rw [e1]
    exact good_pos bs b off cap w (by omega) (by omega) hn hc
theorem good_at (bs : List UInt8) (b off cap k : Nat) (w : World) (h0 : k < bs.length) (hl : bs.length ≤ 140737488355328)
    (hc : ∀ j, j < bs.length → w.cell? ⟨b, off + j, none⟩ = some (.int .u8 (byteAt bs j))) :
    Calls Tryz.prog 68 #[.slice (some ⟨b, off + k, none⟩) (bs.length - k) (cap - k)] w fun e w' => e = .returned (.tuple #[.int .i64 (glen (bs.drop k)), .bool (nextAll (bs.drop k))]) ∧ Below w.heap.size w w' := by
  have h := good_calls (bs.drop k) b (off + k) (cap - k) w (by simp; omega) (by simp; omega) (fun j hj => by rw [byteAt_drop, Nat.add_assoc]; exact hc (k + j) (by simp at hj; omega))
  rw [List.length_drop] at h
  exact h

end Go.Proofs.YthjjigobkndgjaaGreatDoor.U

/- What is proved here: the contract of utf.Runes: for any bytes, it returns their runes in new memory and turns nothing that was there. -/
namespace Go.Proofs.YthjjigobkndgjaaGreatDoor.U
open Go.RowKit Go.Shelf
attribute [local go_sem] Oper.semAt_some

theorem info21 : (Tryz.prog.info? 21).map (fun i => (i.zero, i.size, i.bytes)) = some (some (.int .i32 0), 1, 4) := by kernel_rfl

/-- 'out = append(out, ..)' keeps to the box and its row. -/
theorem kpr_appended {W w1 : World} {n₀ B : Nat} {t e : TypeId} {size : Nat} {v v' : Value} {k m : Nat} {xs ys : List Value} {tmp : Obj}
    (hv : Boxed W B t v) (hte : t ≠ e) (hrow : W.ownsRow n₀ e size v k xs) (hn₀ : n₀ ≤ W.heap.size) (hB : n₀ ≤ B)
    (hown' : w1.ownsRow n₀ e size v' m ys) (hgrow : (W.alloc tmp).grownBy w1 v.ownBlock) (hob : v'.ownBlock = v.ownBlock ∨ v'.ownBlock = some (W.alloc tmp).heap.size) :
    Kpr n₀ [B] W (w1.setCell ⟨B, 0, none⟩ v') := by
  obtain ⟨_, hv2, _, _, hb2⟩ := hv.appended hte hrow hn₀ hB hown' hgrow
  refine ⟨hb2, fun j o hj hc hm hr => ?_, fun j hj => ?_⟩
  · have hlt := lt_of_block hj
    rw [Below.heap_setCell _ _ _ _ (by simpa using hm), hgrow.block j (by simp; omega) (fun ej => hr ⟨B, by simp, v, hv.cell, ej.symm⟩), Below.heap_alloc _ _ _ hlt]
    exact hj
  · obtain ⟨B', hB', u, hu, eu⟩ := hj
    obtain rfl : B' = B := by simpa using hB'
    rw [hv2.cell] at hu; cases hu
    rcases hob with e1 | e1
    · exact .inl ⟨B', by simp, v, hv.cell, e1 ▸ eu⟩
    · refine .inr ⟨?_, ?_⟩
      · rw [e1] at eu; simp at eu; omega
      · have := (hown'.lt j eu).2; simpa [World.setCell] using this

set_option maxRecDepth 100000 in
set_option maxHeartbeats 2000000 in
/-- **utf.Runes of any bytes.** -/
theorem runes_calls (a : Option Addr) (len cap : Nat) (bs : List UInt8) (w : World) (hl : bs.length ≤ 35184372088832) (hH : HasB w.heap.size w (.slice a len cap) bs) (hT : Lib.Utf8Tabs (Tryz.lays32_ren.g 2) (Tryz.lays32_ren.g 3) w) :
    Calls Tryz.prog 50 #[.slice a len cap] w fun e W' => ∃ v, e = .returned v ∧ W'.ownsRow w.heap.size 21 1 v (runes bs).length ((runes bs).map fun r : Nat => Value.int .i32 (r : Int)) ∧ Below w.heap.size w W' := by
  refine (callsIn_wide (n := 3)).1 ?_
  obtain ⟨i0, hi, hz0, hz1, hz2⟩ := info_parts info21
  refine callsIn_of_wp_marks Tryz.func50 rfl trivial ?_ rfl
  simp only [Tryz.ntmps50, List.size_toArray, List.length_cons, List.length_nil, Nat.reduceAdd, Nat.reduceSub, Array.replicate_succ, Array.replicate_zero, List.push_toArray, List.append_toArray, List.nil_append, List.cons_append]
  gi_wp2_with (refine ⟨trivial, ?_⟩; gi_at_call 83; refine (walk_in _ _ _ _ _).mono ?_; rintro e w' ⟨rfl, rfl⟩)
  have bO := Boxed.new w 69 (.slice none 0 0)
  have bN := Boxed.new (w.alloc (.cells #[.slice none 0 0] 69)) 36 (.slice a len cap)
  rw [World.size_alloc] at bN
  have hB0 : Below w.heap.size w ((w.alloc (.cells #[.slice none 0 0] 69)).alloc (.cells #[.slice a len cap] 36)) := ((Below.refl _ w).alloc (Nat.le_refl _) _).alloc (by simp) _
  have hbo := (bO.alloc (.cells #[.slice a len cap] 36)).cell
  refine wpIn_rangeFunc_ownG rfl (by omega) (gf := 109) (lb := #[.pointer (some ⟨w.heap.size + 1, 0, none⟩)]) rfl trivial (enters_of Tryz.func109 (by kernel_rfl) rfl)
    (walk_stops _ (by omega) (w.heap.size + 1) w.heap.size _ bs [w.heap.size] _ (by omega) (hH.below hB0) (by omega) bN.cell (fun B hB => by simp at hB; subst hB; exact ⟨Nat.le_refl _, by omega, by simp; omega⟩) (fun k hk => by obtain ⟨B, hB, v, hv, e⟩ := hk; simp at hB; subst hB; rw [hbo] at hv; cases hv; cases e) (tabs_below hT hB0) ⟨cell_lt (hT.1 0 (by omega)), cell_lt (hT.2 0 (by omega)).1⟩)
    Kpr.trans (Kpr.book (by simp; omega) (fun B hB => by simp at hB; subst hB; simp; omega)) (Below.refl _ _) (fun _ => rfl)
    (fun (pre : List (Nat × Nat)) W => (∃ v, Boxed W w.heap.size 69 v ∧ W.ownsRow w.heap.size 21 1 v pre.length (pre.map fun x => Value.int .i32 (x.2 : Int)) ∧ True) ∧ Below w.heap.size w W)
    (fun _ _ _ => False)
    (OwnFrom.and (Own.from (holdsRow_own w.heap.size w.heap.size 69 21 1 (fun pre : List (Nat × Nat) => pre.length) (fun pre : List (Nat × Nat) => pre.map fun x => Value.int .i32 (x.2 : Int)) (fun _ _ => True)) _) (ownFrom_below (Nat.le_refl _) (by simp; omega)))
    (fun _ _ _ _ _ hs _ _ => hs)
    ⟨⟨_, bO.alloc _, World.ownsRow_nil _ _ _ _, trivial⟩, hB0⟩
    (fun x => { tmps := #[.slice a len cap, undef, .slice none 0 0, .pointer (some ⟨w.heap.size, 0, none⟩), undef, .int .i32 (x.2 : Int), .slice a len cap, .func (.func 109) #[] #[.pointer (some ⟨w.heap.size + 1, 0, none⟩)], .int .i64 (x.1 : Int), .int .i32 (x.2 : Int), undef, undef, undef, undef, undef], defers := [] }) ?assign ?body ?done ?stop
  case assign =>
    intro l x W K hK
    gi_wp2
    exact hK
  case body =>
    rintro l pre x W ⟨⟨v, hv, hrow, _⟩, hB⟩ hlt
    have hc := hv.cell
    gi_wp2_with (gi_at_builtin; refine wpListIn_append_own_at _ rfl _ _ 69 rfl w.heap.size 21 i0 (.int .i32 0) 1 4 Tryz.underlying69 hi hz0 hz1 hz2 rfl (by decide) _ _ _ rfl (hrow.alloc _) ⟨W.heap.size, 0, none⟩ 1 1 [.int .i32 (x.2 : Int)] rfl rfl (cell_one_new _ _ _) (by simp [Value.oneCell']) (by unfold maxLen; omega) (by omega) (by have := hB.size; simp; omega) ?_; intro v' w1 hown' hgrow _ hob; obtain ⟨g', cap', rfl⟩ := ownsRow_succ hown'; have hkp := kpr_appended hv (by decide) hrow hB.size (Nat.le_refl _) hown' hgrow hob; obtain ⟨hv1, hv2, hr2, hk2, hb2⟩ := hv.appended (by decide) hrow hB.size (Nat.le_refl _) hown' hgrow; have hc1 := hv1.cell; have hf1 := hv1.frozen)
    exact ⟨hk2.from _, hkp, ⟨_, hv2, by simpa using hr2, trivial⟩, hB.trans hb2⟩
  case done =>
    rintro D ys W hD rfl ⟨⟨v, hv, hrow, _⟩, hB⟩ hK
    have hc := hv.cell
    gi_wp2
    refine ⟨by simp, .inl ⟨_, _, rfl, run_takeDeferred hK, ?_⟩⟩
    refine ⟨_, results_tmp rfl _ _ _, v, rfl, ?_, hB.trans (belowK_b (w := w) (Nat.le_refl _) W D _ _ (by simp at hD; omega) hK rfl rfl)⟩
    have := ownsRow_putObj hrow (.deferred none) hK rfl
    rw [show (runes bs).length = (toks bs).length by simp [runes], show ((runes bs).map fun r : Nat => Value.int .i32 (r : Int)) = (toks bs).map (fun x => Value.int .i32 (x.2 : Int)) by simp [runes]]
    exact this
  case stop =>
    rintro D c pre W _ _ h _
    exact h.elim

end Go.Proofs.YthjjigobkndgjaaGreatDoor.U
