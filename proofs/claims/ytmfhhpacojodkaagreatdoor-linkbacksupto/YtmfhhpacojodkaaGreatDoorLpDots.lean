/- What is proved here: the contract of link.Dots: a path without dot segments. -/
import Derived.Lib.AppendStr
import Derived.Laws.MakeOwn
import Derived.Test.YtmfhhpacojodkaaGreatDoorBun21
import Derived.Test.YtmfhhpacojodkaaGreatDoorShelf2
namespace Go.Proofs.YtmfhhpacojodkaaGreatDoor.L
open Go.RowKit Go.Shelf Go.Proofs.YtmfhhpacojodkaaGreatDoor.N Go.Proofs.YtmfhhpacojodkaaGreatDoor.U

theorem prefix_calls (s p : List UInt8) (w : World) : Calls Tryz.prog 70 #[.string ⟨s.toArray⟩, .string ⟨p.toArray⟩] w fun e w' => e = .returned (.bool (p.isPrefixOf s)) ∧ w' = w := by
  have h := Any.strings_HasPrefix Tryz.lays99 ⟨s.toArray⟩ ⟨p.toArray⟩ w
  rw [arr_list, arr_list] at h
  have e : Lib.hasPrefix s p = p.isPrefixOf s := by
    induction p generalizing s with
    | nil => cases s <;> rfl
    | cons a p ih =>
      cases s with
      | nil => rfl
      | cons b s => simp [Lib.hasPrefix, List.isPrefixOf]
  rw [e] at h
  exact h
/-- Where the loop stands, by the plain steps. -/
def DotAt (m i o : List UInt8) : Prop := dotsF i.length i o = dotsM m ∧ i.length + o.length ≤ m.length
theorem DotAt.next {m i o : List UInt8} (h : DotAt m i o) (h0 : 0 < i.length) {i' o' : List UInt8} (e : dotStep i o = (i', o')) : DotAt m i' o' ∧ i'.length < i.length := by
  have h1 := dotStep_lt i o h0
  have h2 := dots_step i o h0
  rw [e] at h1 h2
  simp only at h1 h2
  exact ⟨⟨h2.symm.trans h.1, by have := h.2; omega⟩, h1.1⟩
/-- One text more behind bytes of one's own. -/
theorem append_text {w : World} {ops : Array Oper} {rest : List Oper} {o : Oper} {a : Act} {Q : Exit → Act → World → Prop} (hgd : o.guard = none) (s x : Operand)
    (ho : o.op = .call { callee := .builtin .append, args := #[s, x], argTypes := #[29, 9] }) (base : Nat) (v : Value) (l t : List UInt8) (hs : a.eval s = v) (hown : w.ownsRow base 5 1 v l.length (bvs l))
    (hx : a.eval x = .string ⟨t.toArray⟩) (hl : l.length + t.length ≤ 100000000000000) (hbase : base ≤ w.heap.size)
    (h : ∀ v' w', w'.ownsRow base 5 1 v' (l ++ t).length (bvs (l ++ t)) → w.grownBy w' v.ownBlock → wpList Tryz.prog ops Q rest (a.put o.dst v') w') : wpList Tryz.prog ops Q (o :: rest) a w := by
  obtain ⟨i0, hi, hz0, hz1, hz2⟩ := info_parts infoB
  have st := arr_size t
  refine Lib.wpList_append_own_string w hgd s x _ _ ho base _ i0 Tryz.underlying29 Tryz.underlying9 hi hz0 hz1 hz2 v _ _ hs hown ⟨t.toArray⟩ hx (by rw [st]; unfold maxLen; omega) (by rw [st]; omega) hbase ?_
  intro v' w' h1 h2 _
  refine h v' w' ?_ h2
  rw [st] at h1
  have e : bvs l ++ Lib.strCells ⟨t.toArray⟩ = bvs (l ++ t) := by simp [bvs, Lib.strCells_eq, Lib.byteCells]
  rw [e] at h1
  rw [List.length_append]
  exact h1
set_option maxRecDepth 100000 in
set_option maxHeartbeats 4000000 in
theorem dots_calls (bs : List UInt8) (w : World) (hT : Tb w) (hl : bs.length ≤ 10000000000) : Calls Tryz.prog 39 #[.string ⟨bs.toArray⟩] w fun e W' => e = .returned (.string ⟨(dotsM (mendL bs)).toArray⟩) ∧ Below w.heap.size w W' := by
  obtain ⟨i0, hi0, hz0, hz1, hz2⟩ := info_parts infoB
  have HM : Hid (Calls Tryz.prog 18 #[.string ⟨bs.toArray⟩] w fun e W' => e = .returned (.string ⟨(mendL bs).toArray⟩) ∧ Below w.heap.size w W') := mend_calls bs w (by omega) hT
  have hml := mend_le bs
  obtain ⟨m, hS⟩ : ∃ s, mendL bs = s := ⟨_, rfl⟩
  rw [hS] at HM hml ⊢
  have hss : m.length ≤ 40000000000 := by omega
  clear hS hml hl hT
  have sm := arr_size m
  go_enter Tryz.func39, Tryz.ntmps39
  go_wp2_with fail
  (go_at_call 18; refine HM.out.mono ?_; rintro e w1 ⟨rfl, hb1⟩)
  have z1 := hb1.size
  obtain ⟨w2, hmk, hown2, hgr2⟩ := run_make_own (P := Tryz.prog) w1 w.heap.size 29 5 i0 (.int .u8 0) 1 Tryz.underlying29 hi0 hz0 hz1 .i64 .i64 m.length (by rw [hz2]; omega) (by unfold maxLen; omega) z1
  have HOW2 := hid_of hown2
  have HB2 : Hid (Below w.heap.size w w2) := hb1.grown hgr2 z1 (fun k hk => by cases hk)
  clear hown2 hgr2
  go_wp2_with fail
  go_loopw [3, 4] (fun vi vo wr => ∃ (i o : List UInt8) (a : Option Addr) (cap : Nat), vi = .string ⟨i.toArray⟩ ∧ vo = .slice a o.length cap ∧ Hid (wr.ownsRow w.heap.size 5 1 (.slice a o.length cap) o.length (bvs o)) ∧ Hid (DotAt m i o) ∧ Hid (Below w.heap.size w wr)) (fun vi _ _ => strN vi)
  case atStart => exact ⟨m, [], some ⟨w1.heap.size, 0, none⟩, m.length, rfl, rfl, HOW2, ⟨rfl, by simp⟩, HB2⟩
  case round =>
    clear hmk HOW2 HB2 hb1
    obtain ⟨i, o, a, cap, rfl, rfl, hO, hD, hB⟩ := hrel
    have si := arr_size i
    have hle := hD.out.2
    have zr := hB.out.size
    by_cases h0 : i = []
    · subst h0
      have hcv := conv_bytes (hasB_owns hO.out).1
      have HV : Hid (o = dotsM m) := hD.out.1
      go_wp2
      go_ret
      exact ⟨by rw [← HV.out]; rfl, hB.out⟩
    · have hp : 0 < i.length := List.length_pos_iff.2 h0
      have hne : (i == []) = false := by simpa using h0
      clear h0
      cases x1 : ([46, 46, 47] : List UInt8).isPrefixOf i with
      | true =>
        have HN := hid_of (hD.out.next hp (i' := i.drop 3) (o' := o) (by unfold dotStep; rw [x1]; rfl))
        have hs3 := slice_l i 3 (prefix_len x1) 3 rfl
        go_wp2_with (first
          | (go_at_call 70; refine (prefix_calls i _ wr).mono ?_; rintro e w' ⟨rfl, hx⟩; obtain rfl : wr = w' := hx.symm))
        exact ⟨⟨i.drop 3, o, a, cap, rfl, rfl, hO, HN.out.1, hB⟩, by have := HN.out.2; simp [strN, arr_size] at this ⊢; omega⟩
      | false =>
      cases x2 : ([46, 47] : List UInt8).isPrefixOf i with
      | true =>
        have HN := hid_of (hD.out.next hp (i' := i.drop 2) (o' := o) (by unfold dotStep; rw [x1, x2]; rfl))
        have hs3 := slice_l i 2 (prefix_len x2) 2 rfl
        go_wp2_with (first
          | (go_at_call 70; refine (prefix_calls i _ wr).mono ?_; rintro e w' ⟨rfl, hx⟩; obtain rfl : wr = w' := hx.symm))
        exact ⟨⟨i.drop 2, o, a, cap, rfl, rfl, hO, HN.out.1, hB⟩, by have := HN.out.2; simp [strN, arr_size] at this ⊢; omega⟩
      | false =>
      cases x3 : ([47, 46, 47] : List UInt8).isPrefixOf i with
      | true =>
        have HN := hid_of (hD.out.next hp (i' := i.drop 2) (o' := o) (by unfold dotStep; rw [x1, x2, x3]; rfl))
        have hs3 := slice_l i 2 (by have := prefix_len x3; simp at this; omega) 2 rfl
        go_wp2_with (first
          | (go_at_call 70; refine (prefix_calls i _ wr).mono ?_; rintro e w' ⟨rfl, hx⟩; obtain rfl : wr = w' := hx.symm))
        exact ⟨⟨i.drop 2, o, a, cap, rfl, rfl, hO, HN.out.1, hB⟩, by have := HN.out.2; simp [strN, arr_size] at this ⊢; omega⟩
      | false =>
      cases x4 : (i == [47, 46]) with
      | true =>
        have HN := hid_of (hD.out.next hp (i' := [47]) (o' := o) (by unfold dotStep; rw [x1, x2, x3, x4]; rfl))
        go_wp2_with (first
          | (go_at_call 70; refine (prefix_calls i _ wr).mono ?_; rintro e w' ⟨rfl, hx⟩; obtain rfl : wr = w' := hx.symm))
        exact ⟨⟨[47], o, a, cap, rfl, rfl, hO, HN.out.1, hB⟩, by have := HN.out.2; simp [strN, arr_size] at this ⊢; omega⟩
      | false =>
      have HWL := hid_of (withoutLast_calls w.heap.size a cap o wr hO.out (by omega))
      have HCO : Hid (wr.ownsRow w.heap.size 5 1 (.slice a (cutLast o).length cap) (cutLast o).length (bvs (cutLast o))) := by
        have h := own_shorter hO.out (lastP o - 1) (by have := lastP_le o; omega)
        rw [← lastP_cut] at h
        have e : (cutLast o).length = lastP o - 1 := by rw [lastP_cut]; have := lastP_le o; simp; omega
        rw [e] at h ⊢
        exact h
      have HWD := hid_of (withoutLast_calls w.heap.size a cap o wr.drew (owns_below hO.out (Below.refl _ _).drew) (by omega))
      cases x5 : ([47, 46, 46, 47] : List UInt8).isPrefixOf i with
      | true =>
        have HN := hid_of (hD.out.next hp (i' := i.drop 3) (o' := cutLast o) (by unfold dotStep; rw [x1, x2, x3, x4, x5]; rfl))
        have hs3 := slice_l i 3 (by have := prefix_len x5; simp at this; omega) 3 rfl
        go_wp2_with (first
          | (go_at_call 70; refine (prefix_calls i _ wr).mono ?_; rintro e w' ⟨rfl, hx⟩; obtain rfl : wr = w' := hx.symm))
        go_region_with (go_at_call 71; refine HWD.out.mono ?_; rintro e w' ⟨rfl, hx⟩; subst hx)
        go_simp
        go_roundw
        case rel => exact ⟨_, _, _, _, _, _, _, _, _, _, _, _, _, _, _, _, _, _, _, _, _, _, _, _, _, _, _, _, _, _, _, _, _, _, _, _, _, _, _, _, _, _, _, _, _, _, _, _, _, _, _, _, _, _, ⟨i.drop 3, cutLast o, a, cap, rfl, rfl, owns_below HCO.out (Below.refl _ _).drew, HN.out.1, hB.out.drew⟩, rfl⟩
        case measure => have := HN.out.2; simp [strN, arr_size] at this ⊢; omega
      | false =>
      cases x6 : (i == [47, 46, 46]) with
      | true =>
        have HN := hid_of (hD.out.next hp (i' := [47]) (o' := cutLast o) (by unfold dotStep; rw [x1, x2, x3, x4, x5, x6]; rfl))
        go_wp2_with (first
          | (go_at_call 70; refine (prefix_calls i _ wr).mono ?_; rintro e w' ⟨rfl, hx⟩; obtain rfl : wr = w' := hx.symm))
        (go_at_call 71; refine HWL.out.mono ?_; rintro e w' ⟨rfl, hx⟩; obtain rfl : wr = w' := hx.symm)
        go_wp2_with fail
        exact ⟨⟨[47], cutLast o, a, cap, rfl, rfl, HCO, HN.out.1, hB⟩, by have := HN.out.2; simp [strN, arr_size] at this ⊢; omega⟩
      | false =>
      clear HWL HCO HWD
      cases x7 : (i == [46]) with
      | true =>
        have HN := hid_of (hD.out.next hp (i' := []) (o' := o) (by unfold dotStep; rw [x1, x2, x3, x4, x5, x6, x7]; rfl))
        go_wp2_with (first
          | (go_at_call 70; refine (prefix_calls i _ wr).mono ?_; rintro e w' ⟨rfl, hx⟩; obtain rfl : wr = w' := hx.symm))
        exact ⟨⟨[], o, a, cap, rfl, rfl, hO, HN.out.1, hB⟩, by have := HN.out.2; simp [strN, arr_size] at this ⊢; omega⟩
      | false =>
      cases x8 : (i == [46, 46]) with
      | true =>
        have HN := hid_of (hD.out.next hp (i' := []) (o' := o) (by unfold dotStep; rw [x1, x2, x3, x4, x5, x6, x7, x8]; rfl))
        go_wp2_with (first
          | (go_at_call 70; refine (prefix_calls i _ wr).mono ?_; rintro e w' ⟨rfl, hx⟩; obtain rfl : wr = w' := hx.symm))
        exact ⟨⟨[], o, a, cap, rfl, rfl, hO, HN.out.1, hB⟩, by have := HN.out.2; simp [strN, arr_size] at this ⊢; omega⟩
      | false =>
        have hsg := segN_le i hp
        obtain ⟨n, hn⟩ : ∃ n, segN i = n := ⟨_, rfl⟩
        have HN := hid_of (hD.out.next hp (i' := i.drop n) (o' := o ++ i.take n) (by unfold dotStep; rw [x1, x2, x3, x4, x5, x6, x7, x8, hn]; rfl))
        have HSA := hid_of (slashAt_calls (i.drop 1) wr (by simp; omega))
        have hup : (upToL [47] (i.drop 1) : Int) = (n : Int) - 1 := by rw [← hn]; unfold segN; omega
        rw [hup] at HSA
        obtain ⟨t1, ht1⟩ : ∃ t1, i.drop 1 = t1 := ⟨_, rfl⟩
        rw [hn] at hsg
        have hs1 := slice_l i 1 (by omega) 1 rfl
        rw [ht1] at HSA hs1
        clear ht1
        have hs2 := slice_h i n hsg (n : Int) rfl
        have hs3 := slice_l i n hsg (n : Int) rfl
        have hn1 : (1 : Int) + ((n : Int) - 1) = (n : Int) := by omega
        have hOd := hO.out
        have HOB := hid_of (fun k hk => (hOd.lt k hk).1)
        clear hn hup hOd
        go_wp2_with (first
          | (go_at_call 70; refine (prefix_calls i _ wr).mono ?_; rintro e w' ⟨rfl, hx⟩; obtain rfl : wr = w' := hx.symm)
          | (go_at_call 36; refine HSA.out.mono ?_; rintro e w' ⟨rfl, hx⟩; obtain rfl : wr = w' := hx.symm)
          | (at_builtin; refine append_text rfl _ _ rfl w.heap.size (.slice a o.length cap) o (i.take n) rfl hO.out rfl (by simp; omega) zr ?_; intro v' w4 hown' hgrow))
        obtain ⟨a2, cap2, rfl⟩ := U.owns_slice hown'
        go_wp2_with fail
        exact ⟨⟨i.drop n, o ++ i.take n, a2, cap2, rfl, rfl, hown', HN.out.1, hB.out.grown hgrow zr HOB.out⟩, by have := HN.out.2; simp [strN, arr_size] at this ⊢; omega⟩
end Go.Proofs.YtmfhhpacojodkaaGreatDoor.L
