/- What is proved here: laws and contracts of TBuild, LkChk, LkUp, LkHex, one behind the other (each says its own). -/
import Derived.Lib.UnsafeStr
import Derived.Lib.OthersKept
import Derived.Laws.Externs
import Derived.Test.YthjjigobkndgjaaGreatDoorBun1
import Derived.Test.YthjjigobkndgjaaGreatDoorTShelf
import Derived.Test.YthjjigobkndgjaaGreatDoorBun8
/- What is proved here: the contracts of (*strings.Builder).copyCheck, WriteByte, WriteString, String and Len: what a builder holds then, and what they keep. -/
namespace Go.Proofs.YthjjigobkndgjaaGreatDoor.T
open Go.RowKit

/-- A builder of one's own that holds these bytes. -/
abbrev Bld (B b : Nat) (l : List UInt8) (w : World) : Prop := Lib.IsBuilderF 56 5 B b (Lib.byteCells l) w
abbrev Kept (b : Nat) (w w' : World) : Prop := Lib.OthersKept 5 (some b) w w'

theorem infoByteT : (Tryz.prog.info? 5).map (fun i => (i.zero, i.size, i.bytes)) = some (some (.int .u8 0), 1, 1) := by kernel_rfl

set_option maxHeartbeats 1000000 in
set_option maxRecDepth 100000 in
theorem copyCheck_used (b : Nat) (w : World) (h0 : w.cell? ⟨b, 0, none⟩ = some (.pointer (some ⟨b, 0, none⟩))) :
    Calls Tryz.prog 62 #[.pointer (some ⟨b, 0, none⟩)] w fun e w' => e = .returned (.tuple #[]) ∧ w' = w := by
  obtain ⟨j, hj, _⟩ := Option.map_eq_some_iff.1 (show (Tryz.prog.info? 56).map (·.size) = some 2 by kernel_rfl)
  go_enter Tryz.func62, Tryz.ntmps62
  go_wp2
  rw [Lib.run_neq_ptr_same w _ Tryz.underlying54 hj]
  go_wp2
  go_end0
  exact ⟨rfl, rfl⟩

set_option maxHeartbeats 1000000 in
set_option maxRecDepth 100000 in
theorem copyCheck_fresh (b : Nat) (w : World) (h0 : w.cell? ⟨b, 0, none⟩ = some (.pointer none)) (hsh : w.shape? b = some (56, 2)) (hfz : w.frozen? ⟨b, 0, none⟩ = false) :
    Calls Tryz.prog 62 #[.pointer (some ⟨b, 0, none⟩)] w fun e w' => e = .returned (.tuple #[]) ∧ w' = w.setCell ⟨b, 0, none⟩ (.pointer (some ⟨b, 0, none⟩)) := by
  obtain ⟨j, hj, hjs⟩ := Option.map_eq_some_iff.1 (show (Tryz.prog.info? 56).map (·.size) = some 2 by kernel_rfl)
  have lies : liesAt Tryz.prog Tryz.prog.depth 56 (2 / Tryz.prog.cellsOf 56) 0 56 1 = true := by kernel_rfl
  go_enter Tryz.func62, Tryz.ntmps62
  go_wp2
  rw [Lib.run_to_unsafe w ⟨b, 0, none⟩ Tryz.underlying54 Tryz.underlying114 hj (by rw [hjs]; decide) hsh (Nat.zero_lt_succ 1)]
  simp only [Result.andThen]
  rw [Oper.upon_value]
  go_wp2
  rw [run_callFunc_extern Tryz.func92 (by kernel_rfl) (by kernel_rfl) (by kernel_rfl) (e := Extern.AbiNoEscape.same) (by kernel_rfl)]
  rw [Lib.run_noEscape]
  simp only [Result.andThen]
  rw [Oper.upon_value]
  go_wp2
  rw [Lib.run_from_unsafe w ⟨b, 0, none⟩ Tryz.underlying114 Tryz.underlying54 hj hsh lies]
  simp only [Result.andThen]
  rw [Oper.upon_value]
  go_wp2
  go_end0
  exact ⟨rfl, rfl⟩

/-- **copyCheck of any builder that is where it was made.** -/
theorem copyCheck_calls (B b : Nat) (bs : List Value) (w : World) (h : Lib.IsBuilderF 56 5 B b bs w) :
    Calls Tryz.prog 62 #[.pointer (some ⟨b, 0, none⟩)] w fun e w' => e = .returned (.tuple #[]) ∧ Lib.BuilderAtF 56 5 B b (.pointer (some ⟨b, 0, none⟩)) bs w' ∧ Below B w w' ∧ Kept b w w' := by
  rcases h with h | h
  · refine (copyCheck_fresh b w h.cell0 h.shape h.frozen0).mono ?_
    rintro e w' ⟨rfl, rfl⟩
    exact ⟨rfl, h.used _, (Below.refl B w).setCell (p := ⟨b, 0, none⟩) h.1 _, (Lib.OthersKept.refl _ _ w).setCell ⟨b, 0, none⟩ rfl _⟩
  · refine (copyCheck_used b w h.cell0).mono ?_
    rintro e w' ⟨rfl, rfl⟩
    exact ⟨rfl, h, Below.refl _ _, Lib.OthersKept.refl _ _ _⟩

set_option maxHeartbeats 2000000 in
set_option maxRecDepth 100000 in
/-- **WriteByte.** -/
theorem writeByte_calls (B b : Nat) (l : List UInt8) (c : UInt8) (z : Int) (hzc : z = (c.toNat : Int)) (w : World) (h : Bld B b l w) (hlen : l.length + 1 ≤ 140737488355328) (hBw : B ≤ w.heap.size) :
    Calls Tryz.prog 39 #[.pointer (some ⟨b, 0, none⟩), .int .u8 z] w fun e w' => e = .returned .nilIface ∧ Bld B b (l ++ [c]) w' ∧ Below B w w' ∧ Kept b w w' := by
  subst hzc
  obtain ⟨i0, hi, hz0, hz1, hz2⟩ := info_parts infoByteT
  go_enter Tryz.func39, Tryz.ntmps39
  go_wp2_with (go_at_call 62; refine (copyCheck_calls B b _ _ h).mono ?_)
  rintro e w1 ⟨rfl, h1, hb1, hk1⟩
  obtain ⟨hB, v, hbk, hown, hne⟩ := h1
  have c0 : w1.cell? ⟨b, 0, none⟩ = some (.pointer (some ⟨b, 0, none⟩)) := by rw [Lib.cell_of_heap hbk]; rfl
  have c1 : w1.cell? ⟨b, 1, none⟩ = some v := by rw [Lib.cell_of_heap hbk]; rfl
  have hll := Lib.byteCells_length l
  go_wp2_with (at_builtin; refine wpList_append_ownF _ rfl _ _ 36 rfl B 5 i0 (.int .u8 0) 1 1 Tryz.underlying36 hi hz0 hz1 hz2 rfl (by decide) _ _ _ rfl (hown.alloc _) ⟨w1.heap.size, 0, none⟩ 1 1 [.int .u8 c.toNat] rfl rfl ?c1 ?c2 ?c3 ?c4 ?c5 ?_)
  case c1 =>
    intro j u hj
    match j, hj with
    | 0, hj => simp at hj; subst hj; simp [Addr.add]
  case c2 => intro u hu; simp at hu; subst hu; rfl
  case c3 => unfold maxLen; omega
  case c4 => omega
  case c5 => have := hb1.size; simp; omega
  intro v' w2 hown' hgrow _
  have hlt : b < w1.heap.size := C.lt_of_block hbk
  have hb2 : w2.heap[b]? = some (.cells #[.pointer (some ⟨b, 0, none⟩), v] 56 (0, 0)) := by
    rw [hgrow.block b (by simp; omega) (fun e => hne e.symm), Lib.alloc_old w1 _ b hlt]
    exact hbk
  have d1 : w2.cell? ⟨b, 1, none⟩ = some v := by rw [Lib.cell_of_heap hb2]; rfl
  have f1 : w2.frozen? ⟨b, 1, none⟩ = false := Lib.frozen_of_heap hb2 1
  obtain ⟨g, n', cap, rfl⟩ : ∃ g n' cap, v' = .slice g n' cap := by
    rcases hown'.2 with ⟨hv, _⟩ | ⟨g, cap, cur, fz, hv, _⟩
    · exact ⟨_, _, _, hv⟩
    · exact ⟨_, _, _, hv⟩
  go_wp2
  go_ret
  refine ⟨rfl, .inr ?_, ?_, ((hk1.alloc _).grown hgrow (Lib.ownsRowF_kind (hown.alloc _))).setCell ⟨b, 1, none⟩ rfl _⟩
  · rw [Lib.byteCells_append]
    exact Lib.BuilderAtF.put (T := 56) (e := 5) hB hb2 (bs' := Lib.byteCells l ++ Lib.byteCells [c]) (by simpa [Lib.byteCells] using hown') (by decide)
  · exact ((hb1.alloc (by have := hb1.size; omega) _).grown hgrow (by have := hb1.size; simp; omega) (fun k hk => (hown.lt k hk).1)).setCell (p := ⟨b, 1, none⟩) hB _

set_option maxHeartbeats 2000000 in
set_option maxRecDepth 100000 in
/-- **WriteString.** -/
theorem writeString_calls (B b : Nat) (l : List UInt8) (s : ByteArray) (w : World) (h : Bld B b l w) (hlen : l.length + s.size ≤ 140737488355328) (hBw : B ≤ w.heap.size) :
    Calls Tryz.prog 28 #[.pointer (some ⟨b, 0, none⟩), .string s] w fun e w' => (∃ v, e = .returned v) ∧ Bld B b (l ++ s.data.toList) w' ∧ Below B w w' ∧ Kept b w w' := by
  obtain ⟨i0, hi, hz0, hz1, hz2⟩ := info_parts infoByteT
  go_enter Tryz.func28, Tryz.ntmps28
  go_wp2_with (go_at_call 62; refine (copyCheck_calls B b _ _ h).mono ?_)
  rintro e w1 ⟨rfl, h1, hb1, hk1⟩
  obtain ⟨hB, v, hbk, hown, hne⟩ := h1
  have c0 : w1.cell? ⟨b, 0, none⟩ = some (.pointer (some ⟨b, 0, none⟩)) := by rw [Lib.cell_of_heap hbk]; rfl
  have c1 : w1.cell? ⟨b, 1, none⟩ = some v := by rw [Lib.cell_of_heap hbk]; rfl
  have hll := Lib.byteCells_length l
  go_wp2_with (at_builtin; refine Lib.wpList_append_own_stringF _ rfl _ _ 36 9 rfl B 5 i0 Tryz.underlying36 Tryz.underlying9 hi hz0 hz1 hz2 _ _ _ rfl hown s rfl ?c3 ?c4 ?c5 ?_)
  case c3 => unfold maxLen; omega
  case c4 => omega
  case c5 => have := hb1.size; omega
  intro v' w2 hown' hgrow _
  have hlt : b < w1.heap.size := C.lt_of_block hbk
  have hb2 : w2.heap[b]? = some (.cells #[.pointer (some ⟨b, 0, none⟩), v] 56 (0, 0)) := by
    rw [hgrow.block b hlt (fun e => hne e.symm)]
    exact hbk
  have d1 : w2.cell? ⟨b, 1, none⟩ = some v := by rw [Lib.cell_of_heap hb2]; rfl
  have f1 : w2.frozen? ⟨b, 1, none⟩ = false := Lib.frozen_of_heap hb2 1
  obtain ⟨g, n', cap, rfl⟩ : ∃ g n' cap, v' = .slice g n' cap := by
    rcases hown'.2 with ⟨hv, _⟩ | ⟨g, cap, cur, fz, hv, _⟩
    · exact ⟨_, _, _, hv⟩
    · exact ⟨_, _, _, hv⟩
  go_wp2
  go_ret2
  refine ⟨⟨_, rfl⟩, .inr ?_, ?_, (hk1.grown hgrow (Lib.ownsRowF_kind hown)).setCell ⟨b, 1, none⟩ rfl _⟩
  · rw [Lib.byteCells_append, ← Lib.strCells_eq]
    exact Lib.BuilderAtF.put (T := 56) (e := 5) hB hb2 (bs' := Lib.byteCells l ++ Lib.strCells s) (by rw [List.length_append, Lib.strCells_length, Lib.byteCells_length]; exact hown') (by decide)
  · exact (hb1.grown hgrow (by have := hb1.size; omega) (fun k hk => (hown.lt k hk).1)).setCell (p := ⟨b, 1, none⟩) hB _

/-- **String.** -/
theorem string_calls (B b : Nat) (l : List UInt8) (w : World) (h : Bld B b l w) (hBw : B ≤ w.heap.size) :
    Calls Tryz.prog 29 #[.pointer (some ⟨b, 0, none⟩)] w fun e w' => e = .returned (.string ⟨l.toArray⟩) ∧ Bld B b l w' ∧ Below B w w' ∧ Kept b w w' :=
  Any.Builder_String_any_k Tryz.lays169 Tryz.Builder_Extra_169 B b l w h hBw
end Go.Proofs.YthjjigobkndgjaaGreatDoor.T

/- What is proved here: the document's Check and upTo of layer 12. -/
namespace Go.Proofs.YthjjigobkndgjaaGreatDoor.L
open Go.RowKit Go.Shelf Go.Proofs.YthjjigobkndgjaaGreatDoor.N Go.Proofs.YthjjigobkndgjaaGreatDoor.U

/-- The schemes that may never be. -/
def nevers : List (List UInt8) := [[106, 97, 118, 97, 115, 99, 114, 105, 112, 116], [100, 97, 116, 97], [118, 98, 115, 99, 114, 105, 112, 116], [98, 108, 111, 98], [102, 105, 108, 101], [102, 105, 108, 101, 115, 121, 115, 116, 101, 109], [97, 98, 111, 117, 116]]
def mayC (c : UInt8) : Bool := innerC c && !upperZ c.toNat
/-- May a scheme be allowed? -/
def checkOk (l : List UInt8) : Bool := decide (1 ≤ l.length) && decide (l.length ≤ 100) && decide (97 ≤ (l.getD 0 0).toNat) && decide ((l.getD 0 0).toNat ≤ 122) && l.all mayC && !nevers.contains l
def checkZ (l : List UInt8) : Int := if checkOk l then 0 else 120
theorem nev_cells (w : World) (t : TypeId) : ∀ j, j < 7 → (w.alloc (.cells (nevers.map fun n => Value.string ⟨n.toArray⟩).toArray t)).cell? ⟨w.heap.size, j, none⟩ = some (.string ⟨(nevers.getD j []).toArray⟩) := fun j hj => by
  rw [cell_of_row _ _ _ _ _ _ (World.alloc_heap_new w _)]
  match j, hj with
  | 0, _ => rfl
  | 1, _ => rfl
  | 2, _ => rfl
  | 3, _ => rfl
  | 4, _ => rfl
  | 5, _ => rfl
  | 6, _ => rfl
  | (n + 7), h => exact absurd h (by omega)
theorem nev_no (l : List UInt8) (h : ∀ j, j < 7 → (l == nevers.getD j []) = false) : nevers.contains l = false := by
  have h0 := h 0 (by omega)
  have h1 := h 1 (by omega)
  have h2 := h 2 (by omega)
  have h3 := h 3 (by omega)
  have h4 := h 4 (by omega)
  have h5 := h 5 (by omega)
  have h6 := h 6 (by omega)
  simp only [nevers, List.getD_cons_zero, List.getD_cons_succ] at h0 h1 h2 h3 h4 h5 h6
  simp only [nevers, List.contains_cons, h0, h1, h2, h3, h4, h5, h6, Bool.or_false, List.contains_nil]
theorem nev_yes (l : List UInt8) (j : Nat) (hj : j < 7) (h : (l == nevers.getD j []) = true) : nevers.contains l = true := by
  have e : l = nevers.getD j [] := by simpa using h
  rw [e]
  match j, hj with
  | 0, _ => rfl
  | 1, _ => rfl
  | 2, _ => rfl
  | 3, _ => rfl
  | 4, _ => rfl
  | 5, _ => rfl
  | 6, _ => rfl
  | (n + 7), h => exact absurd h (by omega)
end Go.Proofs.YthjjigobkndgjaaGreatDoor.L

/- What is proved here: the document's upTo of layer 12: where the first one of some bytes stands. -/
namespace Go.Proofs.YthjjigobkndgjaaGreatDoor.L
open Go.RowKit Go.Shelf Go.Proofs.YthjjigobkndgjaaGreatDoor.N Go.Proofs.YthjjigobkndgjaaGreatDoor.U

/-- Where the first one of some bytes stands, or the end. -/
def upToL (so s : List UInt8) : Nat := (s.takeWhile fun c => !so.contains c).length
theorem upToL_le (so s : List UInt8) : upToL so s ≤ s.length := (List.takeWhile_sublist _).length_le
theorem upTo_none (so : List UInt8) : ∀ (s : List UInt8), (∀ j, j < s.length → so.contains (s.getD j 0) = false) → upToL so s = s.length
  | [], _ => rfl
  | c :: t, h => by
    have h0 := h 0 (by simp)
    simp only [List.getD_cons_zero] at h0
    have h1 := upTo_none so t (fun j hj => by have := h (j + 1) (by simpa using hj); simpa using this)
    unfold upToL at h1 ⊢
    rw [List.takeWhile_cons, if_pos (by rw [h0]; rfl), List.length_cons, h1, List.length_cons]
theorem upTo_at (so : List UInt8) : ∀ (s : List UInt8) (i : Nat), i < s.length → (∀ j, j < i → so.contains (s.getD j 0) = false) → so.contains (s.getD i 0) = true → upToL so s = i
  | [], _, h, _, _ => by simp at h
  | c :: t, 0, _, _, h => by
    simp only [List.getD_cons_zero] at h
    unfold upToL
    rw [List.takeWhile_cons, if_neg (by rw [h]; decide)]; rfl
  | c :: t, i + 1, hi, hp, h => by
    have h0 := hp 0 (by omega)
    simp only [List.getD_cons_zero] at h0
    have h1 := upTo_at so t i (by simpa using hi) (fun j hj => by have := hp (j + 1) (by omega); simpa using this) (by simpa using h)
    unfold upToL at h1 ⊢
    rw [List.takeWhile_cons, if_pos (by rw [h0]; rfl), List.length_cons, h1]
theorem has_no (so : List UInt8) (c : UInt8) (h : ∀ j, j < so.length → (c == so.getD j 0) = false) : so.contains c = false := by
  rw [List.contains_eq_mem, decide_eq_false_iff_not]
  intro hm
  obtain ⟨j, hj, e⟩ := List.getElem_of_mem hm
  have h9 := h j hj
  have e9 : so.getD j 0 = c := by simp [hj, e]
  rw [e9] at h9
  simp at h9
theorem has_yes (so : List UInt8) (c : UInt8) (j : Nat) (hj : j < so.length) (h : (c == so.getD j 0) = true) : so.contains c = true := by
  have e : c = so.getD j 0 := by simpa using h
  rw [List.contains_eq_mem, decide_eq_true_iff, e]
  have e9 : so.getD j 0 = so[j] := by simp [hj]
  rw [e9]
  exact List.getElem_mem hj
set_option maxRecDepth 100000 in
set_option maxHeartbeats 2000000 in
/-- **upTo.** -/
theorem upTo_calls (s so : List UInt8) (w : World) (hs : s.length ≤ 1000000000000) (ho : so.length ≤ 1000) : Calls Tryz.prog 61 #[.string ⟨s.toArray⟩, .string ⟨so.toArray⟩] w fun e W' => e = .returned (.int .i64 (upToL so s : Nat)) ∧ Below w.heap.size w W' := by
  have ss := arr_size s
  have sq := arr_size so
  go_enter Tryz.func61, Tryz.ntmps61
  go_wp2
  go_loopw [9] (fun vi wr => ∃ i : Nat, i ≤ s.length ∧ vi = .int .i64 i ∧ Hid (Below w.heap.size w wr) ∧ Hid (∀ j, j < i → so.contains (s.getD j 0) = false)) (fun vi _ => s.length - (intOf vi).toNat)
  case atStart => exact ⟨0, by omega, rfl, Below.refl _ _, fun j hj => by omega⟩
  case round =>
    obtain ⟨i, hi, rfl, hB, hP⟩ := hrel
    by_cases hlt : i < s.length
    · obtain ⟨c, hc⟩ : ∃ c, s.getD i 0 = c := ⟨_, rfl⟩
      have hix := byte_at s i c hlt hc (i : Int) rfl
      have HC := hid_of hc
      clear hc
      go_wp2
      go_loopw [14] (fun vk wr => ∃ k : Nat, k ≤ so.length ∧ vk = .int .i64 k ∧ Hid (Below w.heap.size w wr) ∧ Hid (∀ j, j < k → (c == so.getD j 0) = false)) (fun vk _ => so.length - (intOf vk).toNat)
      case atStart => exact ⟨0, by omega, rfl, hB, fun j hj => by omega⟩
      case round =>
        clear hB
        obtain ⟨k, hk, rfl, hB, hN⟩ := hrel
        by_cases hk2 : k < so.length
        · obtain ⟨d, hd⟩ : ∃ d, so.getD k 0 = d := ⟨_, rfl⟩
          have hik := byte_at so k d hk2 hd (k : Int) rfl
          have HD := hid_of hd
          have ecd : ((c.toNat : Int) == (d.toNat : Int)) = (c == d) := eq_byte c d
          clear hd
          cases hb : (c == d) with
          | true =>
            have HZ : Hid (upToL so s = i) := upTo_at so s i hlt hP.out (by rw [HC.out]; exact has_yes so c k hk2 (by rw [HD.out]; exact hb))
            rw [hb] at ecd
            clear hb
            go_wp2_with fail
            go_region
            all_goals go_wp2_with fail
            all_goals go_ret
            all_goals exact ⟨by rw [HZ.out]; rfl, hB.out.drew⟩
          | false =>
            have HN2 : Hid (∀ j, j < k + 1 → (c == so.getD j 0) = false) := fun j hj => by
              by_cases e : j = k
              · rw [e, HD.out]; exact hb
              · exact hN.out j (by omega)
            rw [hb] at ecd
            clear hb
            go_wp2_with fail
            go_region
            all_goals go_wp2_with fail
            all_goals exact ⟨⟨k + 1, by omega, by go_num, hB.out.drew, HN2⟩, by simp [intOf]; omega⟩
        · obtain rfl : k = so.length := by omega
          have HP2 : Hid (∀ j, j < i + 1 → so.contains (s.getD j 0) = false) := fun j hj => by
            by_cases e : j = i
            · rw [e, HC.out]; exact has_no so c hN.out
            · exact hP.out j (by omega)
          clear hix
          go_wp2
          exact ⟨⟨i + 1, by omega, by go_num, hB, HP2⟩, by simp [intOf]; omega⟩
    · obtain rfl : i = s.length := by omega
      have HZ : Hid (upToL so s = s.length) := upTo_none so s hP.out
      go_wp2
      go_ret
      exact ⟨by rw [HZ.out]; rfl, hB.out⟩
end Go.Proofs.YthjjigobkndgjaaGreatDoor.L

/- What is proved here: the document's hexes and begins of layer 12. -/
namespace Go.Proofs.YthjjigobkndgjaaGreatDoor.L
open Go.RowKit Go.Shelf Go.Proofs.YthjjigobkndgjaaGreatDoor.N Go.Proofs.YthjjigobkndgjaaGreatDoor.U

def hexC (c : UInt8) : Bool := decide (0 ≤ valueZ c.toNat)
/-- Do two hexadecimal digits stand behind a place? -/
def hexL (s : List UInt8) (k : Nat) : Bool := decide (k + 2 < s.length) && hexC (s.getD (k + 1) 0) && hexC (s.getD (k + 2) 0)
end Go.Proofs.YthjjigobkndgjaaGreatDoor.L
