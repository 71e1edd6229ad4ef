/- What is proved here: laws and contracts of Runes, Valid, one behind the other (each says its own). -/
import Derived.Maps.AppendAt
import Derived.Maps.OwnIn
import Derived.Test.YtmfhhpacojodkaaGreatDoorIter
import Derived.Test.YtmfhhpacojodkaaGreatDoorMathV
import Derived.Test.YtmfhhpacojodkaaGreatDoorShelf2
import Derived.Test.YtmfhhpacojodkaaGreatDoorEnc
import Derived.Laws.RangeAny
/- What is proved here: the contract of utf.Runes: for any bytes, it returns their runes in new memory and turns nothing that was there. -/
namespace Go.Proofs.YtmfhhpacojodkaaGreatDoor.U
open Go.RowKit Go.Shelf
attribute [local go_sem] Oper.semAt_some

theorem info21 : (Tryz.prog.info? 21).map (fun i => (i.zero, i.size, i.bytes)) = some (some (.int .i32 0), 1, 4) := by kernel_rfl

/-- 'out = append(out, ..)' keeps to the box and its row. -/
theorem kpr_appended {W w1 : World} {n₀ B : Nat} {t e : TypeId} {size : Nat} {v v' : Value} {k m : Nat} {xs ys : List Value} {tmp : Obj}
    (hv : Boxed W B t v) (hte : t ≠ e) (hrow : W.ownsRow n₀ e size v k xs) (hn₀ : n₀ ≤ W.heap.size) (hB : n₀ ≤ B)
    (hown' : w1.ownsRow n₀ e size v' m ys) (hgrow : (W.alloc tmp).grownBy w1 v.ownBlock) (hob : v'.ownBlock = v.ownBlock ∨ v'.ownBlock = some (W.alloc tmp).heap.size) :
    Kpr n₀ [B] W (w1.setCell ⟨B, 0, none⟩ v') := by
  obtain ⟨_, hv2, _, _, hb2⟩ := hv.appended hte hrow hn₀ hB hown' hgrow
  refine ⟨hb2, fun j o hj hc hm hr => ?_, fun j hj => ?_⟩
  · have hlt := lt_of_block hj
    rw [Below.heap_setCell _ _ _ _ (by simpa using hm), hgrow.block j (by simp; omega) (fun ej => hr ⟨B, by simp, v, hv.cell, ej.symm⟩), Below.heap_alloc _ _ _ hlt]
    exact hj
  · obtain ⟨B', hB', u, hu, eu⟩ := hj
    obtain rfl : B' = B := by simpa using hB'
    rw [hv2.cell] at hu; cases hu
    rcases hob with e1 | e1
    · exact .inl ⟨B', by simp, v, hv.cell, e1 ▸ eu⟩
    · refine .inr ⟨?_, ?_⟩
      · rw [e1] at eu; simp at eu; omega
      · have := (hown'.lt j eu).2; simpa [World.setCell] using this

set_option maxRecDepth 100000 in
set_option maxHeartbeats 2000000 in
/-- **utf.Runes of any bytes.** -/
theorem runes_calls (a : Option Addr) (len cap : Nat) (bs : List UInt8) (w : World) (hl : bs.length ≤ 35184372088832) (hH : HasB w.heap.size w (.slice a len cap) bs) (hT : Lib.Utf8Tabs (Tryz.lays32_ren.g 2) (Tryz.lays32_ren.g 3) w) :
    Calls Tryz.prog 45 #[.slice a len cap] w fun e W' => ∃ v, e = .returned v ∧ W'.ownsRow w.heap.size 21 1 v (runes bs).length ((runes bs).map fun r : Nat => Value.int .i32 (r : Int)) ∧ Below w.heap.size w W' := by
  refine (callsIn_wide (n := 3)).1 ?_
  obtain ⟨i0, hi, hz0, hz1, hz2⟩ := info_parts info21
  refine callsIn_of_wp_marks Tryz.func45 rfl trivial ?_ rfl
  simp only [Tryz.ntmps45, List.size_toArray, List.length_cons, List.length_nil, Nat.reduceAdd, Nat.reduceSub, Array.replicate_succ, Array.replicate_zero, List.push_toArray, List.append_toArray, List.nil_append, List.cons_append]
  gi_wp2_with (refine ⟨trivial, ?_⟩; gi_at_call 76; refine (walk_in _ _ _ _ _).mono ?_; rintro e w' ⟨rfl, rfl⟩)
  have bO := Boxed.new w 64 (.slice none 0 0)
  have bN := Boxed.new (w.alloc (.cells #[.slice none 0 0] 64)) 29 (.slice a len cap)
  rw [World.size_alloc] at bN
  have hB0 : Below w.heap.size w ((w.alloc (.cells #[.slice none 0 0] 64)).alloc (.cells #[.slice a len cap] 29)) := ((Below.refl _ w).alloc (Nat.le_refl _) _).alloc (by simp) _
  have hbo := (bO.alloc (.cells #[.slice a len cap] 29)).cell
  refine wpIn_rangeFunc_ownG rfl (by omega) (gf := 99) (lb := #[.pointer (some ⟨w.heap.size + 1, 0, none⟩)]) rfl trivial (enters_of Tryz.func99 (by kernel_rfl) rfl)
    (walk_stops _ (by omega) (w.heap.size + 1) w.heap.size _ bs [w.heap.size] _ (by omega) (hH.below hB0) (by omega) bN.cell (fun B hB => by simp at hB; subst hB; exact ⟨Nat.le_refl _, by omega, by simp; omega⟩) (fun k hk => by obtain ⟨B, hB, v, hv, e⟩ := hk; simp at hB; subst hB; rw [hbo] at hv; cases hv; cases e) (tabs_below hT hB0) ⟨cell_lt (hT.1 0 (by omega)), cell_lt (hT.2 0 (by omega)).1⟩)
    Kpr.trans (Kpr.book (by simp; omega) (fun B hB => by simp at hB; subst hB; simp; omega)) (Below.refl _ _) (fun _ => rfl)
    (fun (pre : List (Nat × Nat)) W => (∃ v, Boxed W w.heap.size 64 v ∧ W.ownsRow w.heap.size 21 1 v pre.length (pre.map fun x => Value.int .i32 (x.2 : Int)) ∧ True) ∧ Below w.heap.size w W)
    (fun _ _ _ => False)
    (OwnFrom.and (Own.from (holdsRow_own w.heap.size w.heap.size 64 21 1 (fun pre : List (Nat × Nat) => pre.length) (fun pre : List (Nat × Nat) => pre.map fun x => Value.int .i32 (x.2 : Int)) (fun _ _ => True)) _) (ownFrom_below (Nat.le_refl _) (by simp; omega)))
    (fun _ _ _ _ _ hs _ _ => hs)
    ⟨⟨_, bO.alloc _, World.ownsRow_nil _ _ _ _, trivial⟩, hB0⟩
    (fun x => { tmps := #[.slice a len cap, undef, .slice none 0 0, .pointer (some ⟨w.heap.size, 0, none⟩), undef, .int .i32 (x.2 : Int), .slice a len cap, .func (.func 99) #[] #[.pointer (some ⟨w.heap.size + 1, 0, none⟩)], .int .i64 (x.1 : Int), .int .i32 (x.2 : Int), undef, undef, undef, undef, undef], defers := [] }) ?assign ?body ?done ?stop
  case assign =>
    intro l x W K hK
    gi_wp2
    exact hK
  case body =>
    rintro l pre x W ⟨⟨v, hv, hrow, _⟩, hB⟩ hlt
    have hc := hv.cell
    gi_wp2_with (gi_at_builtin; refine wpListIn_append_own_at _ rfl _ _ 64 rfl w.heap.size 21 i0 (.int .i32 0) 1 4 Tryz.underlying64 hi hz0 hz1 hz2 rfl (by decide) _ _ _ rfl (hrow.alloc _) ⟨W.heap.size, 0, none⟩ 1 1 [.int .i32 (x.2 : Int)] rfl rfl (cell_one_new _ _ _) (by simp [Value.oneCell']) (by unfold maxLen; omega) (by omega) (by have := hB.size; simp; omega) ?_; intro v' w1 hown' hgrow _ hob; obtain ⟨g', cap', rfl⟩ := ownsRow_succ hown'; have hkp := kpr_appended hv (by decide) hrow hB.size (Nat.le_refl _) hown' hgrow hob; obtain ⟨hv1, hv2, hr2, hk2, hb2⟩ := hv.appended (by decide) hrow hB.size (Nat.le_refl _) hown' hgrow; have hc1 := hv1.cell; have hf1 := hv1.frozen)
    exact ⟨hk2.from _, hkp, ⟨_, hv2, by simpa using hr2, trivial⟩, hB.trans hb2⟩
  case done =>
    rintro D ys W hD rfl ⟨⟨v, hv, hrow, _⟩, hB⟩ hK
    have hc := hv.cell
    gi_wp2
    refine ⟨by simp, .inl ⟨_, _, rfl, run_takeDeferred hK, ?_⟩⟩
    refine ⟨_, results_tmp rfl _ _ _, v, rfl, ?_, hB.trans (belowK_b (w := w) (Nat.le_refl _) W D _ _ (by simp at hD; omega) hK rfl rfl)⟩
    have := ownsRow_putObj hrow (.deferred none) hK rfl
    rw [show (runes bs).length = (toks bs).length by simp [runes], show ((runes bs).map fun r : Nat => Value.int .i32 (r : Int)) = (toks bs).map (fun x => Value.int .i32 (x.2 : Int)) by simp [runes]]
    exact this
  case stop =>
    rintro D c pre W _ _ h _
    exact h.elim

end Go.Proofs.YtmfhhpacojodkaaGreatDoor.U

/- What is proved here: contracts of utf.firstWrong, Valid and Mend: where the first wrong byte stands, whether there is none, and the text of the runes. -/
namespace Go.Proofs.YtmfhhpacojodkaaGreatDoor.U
open Go.RowKit Go.Shelf

theorem byteArr_size (bs : List UInt8) : (⟨bs.toArray⟩ : ByteArray).size = bs.length := by simp [ByteArray.size]
theorem byteArr_get (bs : List UInt8) (j : Nat) : ((⟨bs.toArray⟩ : ByteArray).get! j).toNat = byteAt bs j := by
  show (bs.toArray[j]!).toNat = _
  unfold byteAt
  by_cases h : j < bs.length
  · rw [getElem!_pos bs.toArray j (by simpa using h)]; simp [h]
  · rw [getElem!_neg bs.toArray j (by simpa using h)]; simp [h]; rfl
theorem extract_drop (bs : List UInt8) (k : Nat) : ((⟨bs.toArray⟩ : ByteArray).extract k bs.length).data.toList = bs.drop k := by
  rw [ByteArray.data_extract, Array.toList_extract]
  simp [List.take_of_length_le]
theorem decode_drop (bs : List UInt8) (k : Nat) : Utf8.decode ⟨bs.toArray⟩ k = Lib.decodeN (bs.drop k).length (byteAt (bs.drop k) 0) (byteAt (bs.drop k) 1) (byteAt (bs.drop k) 2) (byteAt (bs.drop k) 3) := by
  rw [Lib.decode_at, byteArr_size]
  simp only [byteArr_get, byteAt_drop, List.length_drop, Nat.add_zero]
theorem hasPrefix_fffd (bs : List UInt8) : Lib.hasPrefix bs [239, 191, 189] = decide (3 ≤ bs.length ∧ byteAt bs 0 = 239 ∧ byteAt bs 1 = 191 ∧ byteAt bs 2 = 189) := by
  have hu : ∀ (a : UInt8) (n : Nat), n < 256 → ((UInt8.ofNat n == a) = true ↔ a.toNat = n) := fun a n hn => by
    rw [beq_iff_eq]
    constructor
    · intro h; rw [← h]; simp; omega
    · intro h; apply UInt8.toNat_inj.1; simp; omega
  rw [Bool.eq_iff_iff]
  unfold Lib.hasPrefix
  match bs with
  | [] => simp
  | [a] => simp [List.isPrefixOf]
  | [a, b] => simp [List.isPrefixOf]
  | a :: b :: c :: r =>
    have h1 := hu a 239 (by omega)
    have h2 := hu b 191 (by omega)
    have h3 := hu c 189 (by omega)
    simp only [List.isPrefixOf, Bool.and_eq_true, decide_eq_true_eq, Bool.and_true]
    rw [show ((239 : UInt8) == a) = (UInt8.ofNat 239 == a) from rfl, show ((191 : UInt8) == b) = (UInt8.ofNat 191 == b) from rfl, show ((189 : UInt8) == c) = (UInt8.ofNat 189 == c) from rfl, h1, h2, h3]
    simp [byteAt]

set_option maxRecDepth 100000 in
set_option maxHeartbeats 2000000 in
theorem firstWrong_calls (bs : List UInt8) (w : World) (hl : (bs.length : Int) ≤ 140737488355328) :
    Calls Tryz.prog 44 #[.string ⟨bs.toArray⟩] w fun e w' => e = .returned (.int .i64 (fw bs)) ∧ Below w.heap.size w w' := by
  have hsz := byteArr_size bs
  go_enter Tryz.func44, Tryz.ntmps44
  go_wp2
  go_loopw [] (fun w' => ∃ (k f : Nat), w' = w.iter ⟨bs.toArray⟩ k ∧ k ≤ bs.length ∧ bs.length < k + f ∧ Hid (fw bs = fwF bs f k)) (fun w' => bs.length - w'.iterPos w.heap.size)
  case atStart => exact ⟨0, bs.length + 1, rfl, by omega, by omega, rfl⟩
  case round =>
    obtain ⟨k, f, rfl, hk, hf, hs⟩ := hrel
    by_cases hlt : k < bs.length
    · have hd0 : 0 < (bs.drop k).length := by simp; omega
      obtain ⟨f', rfl⟩ : ∃ f', f = f' + 1 := ⟨f - 1, by omega⟩
      cases ha : nextAll (bs.drop k) with
      | true =>
        have hdec : Utf8.decode ⟨bs.toArray⟩ k = (runeOf (bs.drop k), nextN (bs.drop k)) := by rw [decode_drop]; exact decode_right _ hd0 ha
        have hnx : ∀ ty, (Instr.next (.pointer (some ⟨w.heap.size, 0, none⟩)) true ty).run Tryz.prog (w.iter ⟨bs.toArray⟩ k) = _ := fun ty => run_next_any w ⟨bs.toArray⟩ k ty (by rw [hsz]; exact hlt)
        rw [hdec] at hnx
        simp only at hnx
        have hs2 : Hid (fw bs = fwF bs f' (k + nextN (bs.drop k))) := hs.out.trans (fwF_on hlt ha)
        have hp1 := nextN_pos (bs.drop k)
        have hp2 := nextN_len (bs.drop k) hd0
        simp only [List.length_drop] at hp2
        by_cases hr : runeOf (bs.drop k) = 65533
        · obtain ⟨a, b, c, d⟩ := right_fffd _ hd0 ha hr
          have hq : ((runeOf (bs.drop k) : Int) == 65533) = true := by rw [hr]; rfl
          have PC : Hid (∀ w, Calls Tryz.prog 70 #[.string ((⟨bs.toArray⟩ : ByteArray).extract k bs.length), .string ⟨#[239, 191, 189]⟩] w fun e w' => e = .returned (.bool true) ∧ w' = w) := fun w => by
            have h := Any.strings_HasPrefix Tryz.lays99 ((⟨bs.toArray⟩ : ByteArray).extract k bs.length) ⟨#[239, 191, 189]⟩ w
            rw [extract_drop, show Lib.hasPrefix (bs.drop k) (⟨#[239, 191, 189]⟩ : ByteArray).data.toList = true by
              show Lib.hasPrefix (bs.drop k) [239, 191, 189] = true
              rw [hasPrefix_fffd]; simp only [decide_eq_true_eq]; exact ⟨d, a, b, c⟩] at h
            exact h
          clear hdec ha hr a b c d hs
          go_wp2_with (go_at_call 70; refine (PC.out _).mono ?_; rintro e w' ⟨rfl, rfl⟩)
          go_roundw
          case rel => exact ⟨k + nextN (bs.drop k), f', rfl, by omega, by omega, hs2⟩
          case measure => simp; omega
        · have hq : ((runeOf (bs.drop k) : Int) == 65533) = false := by simp; omega
          clear hdec ha hr hs
          go_wp2
          go_roundw
          case rel => exact ⟨k + nextN (bs.drop k), f', rfl, by omega, by omega, hs2⟩
          case measure => simp; omega
      | false =>
        have hdec : Utf8.decode ⟨bs.toArray⟩ k = (65533, 1) := by rw [decode_drop]; exact decode_wrong _ hd0 ha
        have hnx : ∀ ty, (Instr.next (.pointer (some ⟨w.heap.size, 0, none⟩)) true ty).run Tryz.prog (w.iter ⟨bs.toArray⟩ k) = _ := fun ty => run_next_any w ⟨bs.toArray⟩ k ty (by rw [hsz]; exact hlt)
        rw [hdec] at hnx
        simp only at hnx
        have hS : Hid (fw bs = k) := hs.out.trans (fwF_hit hlt ha)
        have PC : Hid (∀ w, Calls Tryz.prog 70 #[.string ((⟨bs.toArray⟩ : ByteArray).extract k bs.length), .string ⟨#[239, 191, 189]⟩] w fun e w' => e = .returned (.bool false) ∧ w' = w) := fun w => by
          have h := Any.strings_HasPrefix Tryz.lays99 ((⟨bs.toArray⟩ : ByteArray).extract k bs.length) ⟨#[239, 191, 189]⟩ w
          rw [extract_drop, show Lib.hasPrefix (bs.drop k) (⟨#[239, 191, 189]⟩ : ByteArray).data.toList = false by
            show Lib.hasPrefix (bs.drop k) [239, 191, 189] = false
            rw [hasPrefix_fffd]; simp only [decide_eq_false_iff_not]; rintro ⟨d, a, b, c⟩
            rw [fffd_right _ d a b c] at ha; cases ha] at h
          exact h
        clear hdec ha hs
        go_wp2_with (go_at_call 70; refine (PC.out _).mono ?_; rintro e w' ⟨rfl, rfl⟩)
        go_ret
        exact ⟨by rw [hS.out]; rfl, (Below.refl _ w).alloc (Nat.le_refl _) _⟩
    · have hnx : ∀ ty, (Instr.next (.pointer (some ⟨w.heap.size, 0, none⟩)) true ty).run Tryz.prog (w.iter ⟨bs.toArray⟩ k) = _ := fun ty => run_next_end w ⟨bs.toArray⟩ k ty (by rw [hsz]; exact hlt)
      have hS : Hid (fw bs = bs.length) := hs.out.trans (fwF_end hlt)
      go_wp2
      go_ret
      exact ⟨by rw [hS.out]; rfl, (Below.refl _ w).alloc (Nat.le_refl _) _⟩

end Go.Proofs.YtmfhhpacojodkaaGreatDoor.U
