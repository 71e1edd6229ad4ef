/- What is proved here: laws and contracts of LkKind, LkSch, LkChk, LkUp, one behind the other (each says its own). -/
import Derived.Test.YtnnabheejojfdaaDoorLkStrip
/- What is proved here: the document's inner, colon, Scheme, slash, Kind and Check of layer 12. -/
namespace Go.Proofs.YtnnabheejojfdaaDoor.L
open Go.RowKit Go.Shelf Go.Proofs.YtnnabheejojfdaaDoor.N Go.Proofs.YtnnabheejojfdaaDoor.U

theorem eq_byte (c z : UInt8) : ((c.toNat : Int) == (z.toNat : Int)) = (c == z) := by
  by_cases h : c = z
  · subst h; simp
  · have : c.toNat ≠ z.toNat := fun e => h (UInt8.toNat_inj.1 e)
    rw [beq_eq_false_iff_ne.2 h, beq_eq_false_iff_ne]
    omega
set_option maxRecDepth 100000 in
set_option maxHeartbeats 1000000 in
theorem inner_calls (c : UInt8) (w : World) : Calls Tryd.prog 74 #[.int .u8 c.toNat] w fun e w' => e = .returned (.bool (innerC c)) ∧ w' = w := by
  have hc := c.toNat_lt
  have hw : wrap32 (c.toNat : Int) = c.toNat := by unfold wrap32; omega
  have e1 : ((c.toNat : Int) == 43) = (c == 43) := eq_byte c 43
  have e2 : ((c.toNat : Int) == 45) = (c == 45) := eq_byte c 45
  have e3 : ((c.toNat : Int) == 46) = (c == 46) := eq_byte c 46
  have HL := hid_of (rletter_calls (c.toNat : Int) w)
  have HD := hid_of (rdigit_calls (c.toNat : Int) w)
  have HE : Hid (innerC c = (letterZ c.toNat || digitZ c.toNat || c == 43 || c == 45 || c == 46)) := rfl
  generalize letterZ (c.toNat : Int) = b1 at *
  generalize digitZ (c.toNat : Int) = b2 at *
  generalize (c == 43) = b3 at *
  generalize (c == 45) = b4 at *
  generalize (c == 46) = b5 at *
  cases b1 <;> cases b2 <;> cases b3 <;> cases b4
  all_goals
    go_enter Tryd.func74, Tryd.ntmps74
    go_wp2_with (first
      | (go_at_call 73; refine HL.out.mono ?_; rintro e w' ⟨rfl, hx⟩; obtain rfl : w = w' := hx.symm)
      | (go_at_call 94; refine HD.out.mono ?_; rintro e w' ⟨rfl, hx⟩; obtain rfl : w = w' := hx.symm))
    go_ret
    exact ⟨by rw [HE.out]; rfl, rfl⟩
/-- Where the : stands, as the document tells it. -/
def colonZ (l : List UInt8) : Int := match colonL l with | some n => n | none => -1
set_option maxRecDepth 100000 in
set_option maxHeartbeats 2000000 in
theorem colon_calls (l : List UInt8) (w : World) (hl : l.length ≤ 1000000000000) : Calls Tryd.prog 48 #[.string ⟨l.toArray⟩] w fun e w' => e = .returned (.int .i64 (colonZ l)) ∧ w' = w := by
  have sl := arr_size l
  by_cases h0 : l = []
  · subst h0
    go_enter Tryd.func48, Tryd.ntmps48
    go_wp2
    go_ret
    exact ⟨rfl, rfl⟩
  · have hp : 0 < l.length := List.length_pos_iff.2 h0
    have hne : (l == []) = false := by simpa using h0
    obtain ⟨c0, hc0⟩ : ∃ c0, l.getD 0 0 = c0 := ⟨_, rfl⟩
    have hix := byte_at l 0 c0 hp hc0 0 rfl
    have hcl := c0.toNat_lt
    have hw : wrap32 (c0.toNat : Int) = c0.toNat := by unfold wrap32; omega
    have HLE := hid_of (rletter_calls (c0.toNat : Int) w)
    have HC0 := hid_of hc0
    clear hc0 h0
    cases hlet : letterZ (c0.toNat : Int) with
    | false =>
      have HZ : Hid (colonZ l = -1) := by show _ = _; unfold colonZ colonL; rw [HC0.out, hlet]; rfl
      rw [hlet] at HLE
      clear hlet
      go_enter Tryd.func48, Tryd.ntmps48
      go_wp2_with (go_at_call 73; refine HLE.out.mono ?_; rintro e w' ⟨rfl, hx⟩; obtain rfl : w = w' := hx.symm)
      go_ret
      exact ⟨by rw [HZ.out]; rfl, rfl⟩
    | true =>
      have HCL : Hid (colonL l = colonF l) := by show _ = _; unfold colonL; rw [HC0.out, hlet]; rfl
      rw [hlet] at HLE
      clear hlet
      go_enter Tryd.func48, Tryd.ntmps48
      go_wp2_with (go_at_call 73; refine HLE.out.mono ?_; rintro e w' ⟨rfl, hx⟩; obtain rfl : w = w' := hx.symm)
      clear hix
      go_loopw [15] (fun vi wr => ∃ k : Nat, k ≤ l.length ∧ vi = .int .i64 k ∧ wr = w ∧ Hid (∀ j, j < k → (l.getD j 0 == 58) = false ∧ innerC (l.getD j 0) = true)) (fun vi _ => l.length - (intOf vi).toNat)
      case atStart => exact ⟨0, by omega, rfl, by trivial, fun j hj => by omega⟩
      case round =>
        obtain ⟨k, hk, rfl, hwr, hP⟩ := hrel
        obtain rfl : w = wr := hwr.symm
        clear hwr
        by_cases hlt : k < l.length
        · obtain ⟨c, hc⟩ : ∃ c, l.getD k 0 = c := ⟨_, rfl⟩
          have hik := byte_at l k c hlt hc (k : Int) rfl
          have HIC := hid_of (inner_calls c w)
          have HC := hid_of hc
          have e58 : ((c.toNat : Int) == 58) = (c == 58) := eq_byte c 58
          clear hc
          cases h58 : (c == 58) with
          | true =>
            have HZ : Hid (colonZ l = k) := by show _ = _; unfold colonZ; rw [HCL.out, colonF_at l k hlt hP.out (by rw [HC.out]; exact h58)]
            rw [h58] at e58
            clear h58
            go_wp2
            go_ret
            exact ⟨by rw [HZ.out]; rfl, rfl⟩
          | false =>
            cases hin : innerC c with
            | true =>
              have HP2 : Hid (∀ j, j < k + 1 → (l.getD j 0 == 58) = false ∧ innerC (l.getD j 0) = true) := fun j hj => by
                by_cases e : j = k
                · rw [e, HC.out]; exact ⟨h58, hin⟩
                · exact hP.out j (by omega)
              rw [h58] at e58
              rw [hin] at HIC
              clear h58 hin
              go_wp2_with (go_at_call 74; refine HIC.out.mono ?_; rintro e w' ⟨rfl, hx⟩; obtain rfl : w = w' := hx.symm)
              exact ⟨⟨k + 1, by omega, by go_num, by trivial, HP2⟩, by simp [intOf]; omega⟩
            | false =>
              have HZ : Hid (colonZ l = -1) := by show _ = _; unfold colonZ; rw [HCL.out, colonF_no l k hlt hP.out (by rw [HC.out]; exact h58) (by rw [HC.out]; exact hin)]
              rw [h58] at e58
              rw [hin] at HIC
              clear h58 hin
              go_wp2_with (go_at_call 74; refine HIC.out.mono ?_; rintro e w' ⟨rfl, hx⟩; obtain rfl : w = w' := hx.symm)
              go_ret
              exact ⟨by rw [HZ.out]; rfl, rfl⟩
        · obtain rfl : k = l.length := by omega
          have HZ : Hid (colonZ l = -1) := by show _ = _; unfold colonZ; rw [HCL.out, colonF_all l hP.out]
          go_wp2
          go_ret
          exact ⟨by rw [HZ.out]; rfl, rfl⟩
end Go.Proofs.YtnnabheejojfdaaDoor.L

/- What is proved here: the document's Scheme, Kind and Check of layer 12. -/
namespace Go.Proofs.YtnnabheejojfdaaDoor.L
open Go.RowKit Go.Shelf Go.Proofs.YtnnabheejojfdaaDoor.N Go.Proofs.YtnnabheejojfdaaDoor.U

theorem strip_le (l : List UInt8) : (stripM l).length ≤ l.length := by
  unfold stripM
  have h1 := List.length_filter_le (fun c => !gapC c) ((l.dropWhile lowC).reverse.dropWhile lowC).reverse
  have h2 := (List.dropWhile_sublist lowC (l := (l.dropWhile lowC).reverse)).length_le
  have h3 := (List.dropWhile_sublist lowC (l := l)).length_le
  simp only [List.length_reverse] at h1 h2
  omega
/-- A link, stripped. -/
def stripL (bs : List UInt8) : List UInt8 := stripM (mendL bs)
theorem stripL_le (bs : List UInt8) : (stripL bs).length ≤ 4 * bs.length := by
  have h1 := strip_le (mendL bs)
  have h2 := mend_le bs
  unfold stripL
  omega
/-- What Scheme tells of a stripped text. -/
def schemeV (l : List UInt8) : Value := match colonL l with | some n => .tuple #[.string ⟨(lower (l.take n)).toArray⟩, .bool true] | none => .tuple #[.string ⟨#[]⟩, .bool false]
end Go.Proofs.YtnnabheejojfdaaDoor.L

/- What is proved here: the document's Check and upTo of layer 12. -/
namespace Go.Proofs.YtnnabheejojfdaaDoor.L
open Go.RowKit Go.Shelf Go.Proofs.YtnnabheejojfdaaDoor.N Go.Proofs.YtnnabheejojfdaaDoor.U

/-- The schemes that may never be. -/
def nevers : List (List UInt8) := [[106, 97, 118, 97, 115, 99, 114, 105, 112, 116], [100, 97, 116, 97], [118, 98, 115, 99, 114, 105, 112, 116], [98, 108, 111, 98], [102, 105, 108, 101], [102, 105, 108, 101, 115, 121, 115, 116, 101, 109], [97, 98, 111, 117, 116]]
def mayC (c : UInt8) : Bool := innerC c && !upperZ c.toNat
/-- May a scheme be allowed? -/
def checkOk (l : List UInt8) : Bool := decide (1 ≤ l.length) && decide (l.length ≤ 100) && decide (97 ≤ (l.getD 0 0).toNat) && decide ((l.getD 0 0).toNat ≤ 122) && l.all mayC && !nevers.contains l
def checkZ (l : List UInt8) : Int := if checkOk l then 0 else 120
theorem nev_cells (w : World) (t : TypeId) : ∀ j, j < 7 → (w.alloc (.cells (nevers.map fun n => Value.string ⟨n.toArray⟩).toArray t)).cell? ⟨w.heap.size, j, none⟩ = some (.string ⟨(nevers.getD j []).toArray⟩) := fun j hj => by
  rw [cell_of_row _ _ _ _ _ _ (World.alloc_heap_new w _)]
  match j, hj with
  | 0, _ => rfl
  | 1, _ => rfl
  | 2, _ => rfl
  | 3, _ => rfl
  | 4, _ => rfl
  | 5, _ => rfl
  | 6, _ => rfl
  | (n + 7), h => exact absurd h (by omega)
theorem nev_no (l : List UInt8) (h : ∀ j, j < 7 → (l == nevers.getD j []) = false) : nevers.contains l = false := by
  have h0 := h 0 (by omega)
  have h1 := h 1 (by omega)
  have h2 := h 2 (by omega)
  have h3 := h 3 (by omega)
  have h4 := h 4 (by omega)
  have h5 := h 5 (by omega)
  have h6 := h 6 (by omega)
  simp only [nevers, List.getD_cons_zero, List.getD_cons_succ] at h0 h1 h2 h3 h4 h5 h6
  simp only [nevers, List.contains_cons, h0, h1, h2, h3, h4, h5, h6, Bool.or_false, List.contains_nil]
theorem nev_yes (l : List UInt8) (j : Nat) (hj : j < 7) (h : (l == nevers.getD j []) = true) : nevers.contains l = true := by
  have e : l = nevers.getD j [] := by simpa using h
  rw [e]
  match j, hj with
  | 0, _ => rfl
  | 1, _ => rfl
  | 2, _ => rfl
  | 3, _ => rfl
  | 4, _ => rfl
  | 5, _ => rfl
  | 6, _ => rfl
  | (n + 7), h => exact absurd h (by omega)
end Go.Proofs.YtnnabheejojfdaaDoor.L

/- What is proved here: the document's upTo of layer 12: where the first one of some bytes stands. -/
namespace Go.Proofs.YtnnabheejojfdaaDoor.L
open Go.RowKit Go.Shelf Go.Proofs.YtnnabheejojfdaaDoor.N Go.Proofs.YtnnabheejojfdaaDoor.U

/-- Where the first one of some bytes stands, or the end. -/
def upToL (so s : List UInt8) : Nat := (s.takeWhile fun c => !so.contains c).length
theorem upToL_le (so s : List UInt8) : upToL so s ≤ s.length := (List.takeWhile_sublist _).length_le
theorem upTo_none (so : List UInt8) : ∀ (s : List UInt8), (∀ j, j < s.length → so.contains (s.getD j 0) = false) → upToL so s = s.length
  | [], _ => rfl
  | c :: t, h => by
    have h0 := h 0 (by simp)
    simp only [List.getD_cons_zero] at h0
    have h1 := upTo_none so t (fun j hj => by have := h (j + 1) (by simpa using hj); simpa using this)
    unfold upToL at h1 ⊢
    rw [List.takeWhile_cons, if_pos (by rw [h0]; rfl), List.length_cons, h1, List.length_cons]
theorem upTo_at (so : List UInt8) : ∀ (s : List UInt8) (i : Nat), i < s.length → (∀ j, j < i → so.contains (s.getD j 0) = false) → so.contains (s.getD i 0) = true → upToL so s = i
  | [], _, h, _, _ => by simp at h
  | c :: t, 0, _, _, h => by
    simp only [List.getD_cons_zero] at h
    unfold upToL
    rw [List.takeWhile_cons, if_neg (by rw [h]; decide)]; rfl
  | c :: t, i + 1, hi, hp, h => by
    have h0 := hp 0 (by omega)
    simp only [List.getD_cons_zero] at h0
    have h1 := upTo_at so t i (by simpa using hi) (fun j hj => by have := hp (j + 1) (by omega); simpa using this) (by simpa using h)
    unfold upToL at h1 ⊢
    rw [List.takeWhile_cons, if_pos (by rw [h0]; rfl), List.length_cons, h1]
theorem has_no (so : List UInt8) (c : UInt8) (h : ∀ j, j < so.length → (c == so.getD j 0) = false) : so.contains c = false := by
  rw [List.contains_eq_mem, decide_eq_false_iff_not]
  intro hm
  obtain ⟨j, hj, e⟩ := List.getElem_of_mem hm
  have h9 := h j hj
  have e9 : so.getD j 0 = c := by simp [hj, e]
  rw [e9] at h9
  simp at h9
theorem has_yes (so : List UInt8) (c : UInt8) (j : Nat) (hj : j < so.length) (h : (c == so.getD j 0) = true) : so.contains c = true := by
  have e : c = so.getD j 0 := by simpa using h
  rw [List.contains_eq_mem, decide_eq_true_iff, e]
  have e9 : so.getD j 0 = so[j] := by simp [hj]
  rw [e9]
  exact List.getElem_mem hj
set_option maxRecDepth 100000 in
set_option maxHeartbeats 2000000 in
/-- **upTo.** -/
theorem upTo_calls (s so : List UInt8) (w : World) (hs : s.length ≤ 1000000000000) (ho : so.length ≤ 1000) : Calls Tryd.prog 50 #[.string ⟨s.toArray⟩, .string ⟨so.toArray⟩] w fun e W' => e = .returned (.int .i64 (upToL so s : Nat)) ∧ Below w.heap.size w W' := by
  have ss := arr_size s
  have sq := arr_size so
  go_enter Tryd.func50, Tryd.ntmps50
  go_wp2
  go_loopw [9] (fun vi wr => ∃ i : Nat, i ≤ s.length ∧ vi = .int .i64 i ∧ Hid (Below w.heap.size w wr) ∧ Hid (∀ j, j < i → so.contains (s.getD j 0) = false)) (fun vi _ => s.length - (intOf vi).toNat)
  case atStart => exact ⟨0, by omega, rfl, Below.refl _ _, fun j hj => by omega⟩
  case round =>
    obtain ⟨i, hi, rfl, hB, hP⟩ := hrel
    by_cases hlt : i < s.length
    · obtain ⟨c, hc⟩ : ∃ c, s.getD i 0 = c := ⟨_, rfl⟩
      have hix := byte_at s i c hlt hc (i : Int) rfl
      have HC := hid_of hc
      clear hc
      go_wp2
      go_loopw [14] (fun vk wr => ∃ k : Nat, k ≤ so.length ∧ vk = .int .i64 k ∧ Hid (Below w.heap.size w wr) ∧ Hid (∀ j, j < k → (c == so.getD j 0) = false)) (fun vk _ => so.length - (intOf vk).toNat)
      case atStart => exact ⟨0, by omega, rfl, hB, fun j hj => by omega⟩
      case round =>
        clear hB
        obtain ⟨k, hk, rfl, hB, hN⟩ := hrel
        by_cases hk2 : k < so.length
        · obtain ⟨d, hd⟩ : ∃ d, so.getD k 0 = d := ⟨_, rfl⟩
          have hik := byte_at so k d hk2 hd (k : Int) rfl
          have HD := hid_of hd
          have ecd : ((c.toNat : Int) == (d.toNat : Int)) = (c == d) := eq_byte c d
          clear hd
          cases hb : (c == d) with
          | true =>
            have HZ : Hid (upToL so s = i) := upTo_at so s i hlt hP.out (by rw [HC.out]; exact has_yes so c k hk2 (by rw [HD.out]; exact hb))
            rw [hb] at ecd
            clear hb
            go_wp2_with fail
            go_region
            all_goals go_wp2_with fail
            all_goals go_ret
            all_goals exact ⟨by rw [HZ.out]; rfl, hB.out.drew⟩
          | false =>
            have HN2 : Hid (∀ j, j < k + 1 → (c == so.getD j 0) = false) := fun j hj => by
              by_cases e : j = k
              · rw [e, HD.out]; exact hb
              · exact hN.out j (by omega)
            rw [hb] at ecd
            clear hb
            go_wp2_with fail
            go_region
            all_goals go_wp2_with fail
            all_goals exact ⟨⟨k + 1, by omega, by go_num, hB.out.drew, HN2⟩, by simp [intOf]; omega⟩
        · obtain rfl : k = so.length := by omega
          have HP2 : Hid (∀ j, j < i + 1 → so.contains (s.getD j 0) = false) := fun j hj => by
            by_cases e : j = i
            · rw [e, HC.out]; exact has_no so c hN.out
            · exact hP.out j (by omega)
          clear hix
          go_wp2
          exact ⟨⟨i + 1, by omega, by go_num, hB, HP2⟩, by simp [intOf]; omega⟩
    · obtain rfl : i = s.length := by omega
      have HZ : Hid (upToL so s = s.length) := upTo_none so s hP.out
      go_wp2
      go_ret
      exact ⟨by rw [HZ.out]; rfl, hB.out⟩
end Go.Proofs.YtnnabheejojfdaaDoor.L
