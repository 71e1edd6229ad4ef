/- What is proved here: laws and contracts of TBuild, LkHex, LkEncM, one behind the other (each says its own). -/
import Derived.Lib.UnsafeStr
import Derived.Lib.OthersKept
import Derived.Laws.Externs
import Derived.Test.YtmfhhpacojodkaaGreatDoorBun3
import Derived.Test.YtmfhhpacojodkaaGreatDoorTShelf
import Derived.Test.YtmfhhpacojodkaaGreatDoorBun7
/- What is proved here: the contracts of (*strings.Builder).copyCheck, WriteByte, WriteString, String and Len: what a builder holds then, and what they keep. -/
namespace Go.Proofs.YtmfhhpacojodkaaGreatDoor.T
open Go.RowKit

/-- A builder of one's own that holds these bytes. -/
abbrev Bld (B b : Nat) (l : List UInt8) (w : World) : Prop := Lib.IsBuilderF 57 5 B b (Lib.byteCells l) w
abbrev Kept (b : Nat) (w w' : World) : Prop := Lib.OthersKept 5 (some b) w w'

theorem infoByteT : (Tryz.prog.info? 5).map (fun i => (i.zero, i.size, i.bytes)) = some (some (.int .u8 0), 1, 1) := by kernel_rfl

set_option maxHeartbeats 1000000 in
set_option maxRecDepth 100000 in
theorem copyCheck_used (b : Nat) (w : World) (h0 : w.cell? ⟨b, 0, none⟩ = some (.pointer (some ⟨b, 0, none⟩))) :
    Calls Tryz.prog 54 #[.pointer (some ⟨b, 0, none⟩)] w fun e w' => e = .returned (.tuple #[]) ∧ w' = w := by
  obtain ⟨j, hj, _⟩ := Option.map_eq_some_iff.1 (show (Tryz.prog.info? 57).map (·.size) = some 2 by kernel_rfl)
  go_enter Tryz.func54, Tryz.ntmps54
  go_wp2
  rw [Lib.run_neq_ptr_same w _ Tryz.underlying55 hj]
  go_wp2
  go_end0
  exact ⟨rfl, rfl⟩

set_option maxHeartbeats 1000000 in
set_option maxRecDepth 100000 in
theorem copyCheck_fresh (b : Nat) (w : World) (h0 : w.cell? ⟨b, 0, none⟩ = some (.pointer none)) (hsh : w.shape? b = some (57, 2)) (hfz : w.frozen? ⟨b, 0, none⟩ = false) :
    Calls Tryz.prog 54 #[.pointer (some ⟨b, 0, none⟩)] w fun e w' => e = .returned (.tuple #[]) ∧ w' = w.setCell ⟨b, 0, none⟩ (.pointer (some ⟨b, 0, none⟩)) := by
  obtain ⟨j, hj, hjs⟩ := Option.map_eq_some_iff.1 (show (Tryz.prog.info? 57).map (·.size) = some 2 by kernel_rfl)
  have lies : liesAt Tryz.prog Tryz.prog.depth 57 (2 / Tryz.prog.cellsOf 57) 0 57 1 = true := by kernel_rfl
  go_enter Tryz.func54, Tryz.ntmps54
  go_wp2
  rw [Lib.run_to_unsafe w ⟨b, 0, none⟩ Tryz.underlying55 Tryz.underlying113 hj (by rw [hjs]; decide) hsh (Nat.zero_lt_succ 1)]
  simp only [Result.andThen]
  rw [Oper.upon_value]
  go_wp2
  rw [run_callFunc_extern Tryz.func84 (by kernel_rfl) (by kernel_rfl) (by kernel_rfl) (e := Extern.AbiNoEscape.same) (by kernel_rfl)]
  rw [Lib.run_noEscape]
  simp only [Result.andThen]
  rw [Oper.upon_value]
  go_wp2
  rw [Lib.run_from_unsafe w ⟨b, 0, none⟩ Tryz.underlying113 Tryz.underlying55 hj hsh lies]
  simp only [Result.andThen]
  rw [Oper.upon_value]
  go_wp2
  go_end0
  exact ⟨rfl, rfl⟩

/-- **copyCheck of any builder that is where it was made.** -/
theorem copyCheck_calls (B b : Nat) (bs : List Value) (w : World) (h : Lib.IsBuilderF 57 5 B b bs w) :
    Calls Tryz.prog 54 #[.pointer (some ⟨b, 0, none⟩)] w fun e w' => e = .returned (.tuple #[]) ∧ Lib.BuilderAtF 57 5 B b (.pointer (some ⟨b, 0, none⟩)) bs w' ∧ Below B w w' ∧ Kept b w w' := by
  rcases h with h | h
  · refine (copyCheck_fresh b w h.cell0 h.shape h.frozen0).mono ?_
    rintro e w' ⟨rfl, rfl⟩
    exact ⟨rfl, h.used _, (Below.refl B w).setCell (p := ⟨b, 0, none⟩) h.1 _, (Lib.OthersKept.refl _ _ w).setCell ⟨b, 0, none⟩ rfl _⟩
  · refine (copyCheck_used b w h.cell0).mono ?_
    rintro e w' ⟨rfl, rfl⟩
    exact ⟨rfl, h, Below.refl _ _, Lib.OthersKept.refl _ _ _⟩

set_option maxHeartbeats 2000000 in
set_option maxRecDepth 100000 in
/-- **WriteByte.** -/
theorem writeByte_calls (B b : Nat) (l : List UInt8) (c : UInt8) (z : Int) (hzc : z = (c.toNat : Int)) (w : World) (h : Bld B b l w) (hlen : l.length + 1 ≤ 140737488355328) (hBw : B ≤ w.heap.size) :
    Calls Tryz.prog 30 #[.pointer (some ⟨b, 0, none⟩), .int .u8 z] w fun e w' => e = .returned .nilIface ∧ Bld B b (l ++ [c]) w' ∧ Below B w w' ∧ Kept b w w' := by
  subst hzc
  obtain ⟨i0, hi, hz0, hz1, hz2⟩ := info_parts infoByteT
  go_enter Tryz.func30, Tryz.ntmps30
  go_wp2_with (go_at_call 54; refine (copyCheck_calls B b _ _ h).mono ?_)
  rintro e w1 ⟨rfl, h1, hb1, hk1⟩
  obtain ⟨hB, v, hbk, hown, hne⟩ := h1
  have c0 : w1.cell? ⟨b, 0, none⟩ = some (.pointer (some ⟨b, 0, none⟩)) := by rw [Lib.cell_of_heap hbk]; rfl
  have c1 : w1.cell? ⟨b, 1, none⟩ = some v := by rw [Lib.cell_of_heap hbk]; rfl
  have hll := Lib.byteCells_length l
  go_wp2_with (at_builtin; refine wpList_append_ownF _ rfl _ _ 29 rfl B 5 i0 (.int .u8 0) 1 1 Tryz.underlying29 hi hz0 hz1 hz2 rfl (by decide) _ _ _ rfl (hown.alloc _) ⟨w1.heap.size, 0, none⟩ 1 1 [.int .u8 c.toNat] rfl rfl ?c1 ?c2 ?c3 ?c4 ?c5 ?_)
  case c1 =>
    intro j u hj
    match j, hj with
    | 0, hj => simp at hj; subst hj; simp [Addr.add]
  case c2 => intro u hu; simp at hu; subst hu; rfl
  case c3 => unfold maxLen; omega
  case c4 => omega
  case c5 => have := hb1.size; simp; omega
  intro v' w2 hown' hgrow _
  have hlt : b < w1.heap.size := C.lt_of_block hbk
  have hb2 : w2.heap[b]? = some (.cells #[.pointer (some ⟨b, 0, none⟩), v] 57 (0, 0)) := by
    rw [hgrow.block b (by simp; omega) (fun e => hne e.symm), Lib.alloc_old w1 _ b hlt]
    exact hbk
  have d1 : w2.cell? ⟨b, 1, none⟩ = some v := by rw [Lib.cell_of_heap hb2]; rfl
  have f1 : w2.frozen? ⟨b, 1, none⟩ = false := Lib.frozen_of_heap hb2 1
  obtain ⟨g, n', cap, rfl⟩ : ∃ g n' cap, v' = .slice g n' cap := by
    rcases hown'.2 with ⟨hv, _⟩ | ⟨g, cap, cur, fz, hv, _⟩
    · exact ⟨_, _, _, hv⟩
    · exact ⟨_, _, _, hv⟩
  go_wp2
  go_ret
  refine ⟨rfl, .inr ?_, ?_, ((hk1.alloc _).grown hgrow (Lib.ownsRowF_kind (hown.alloc _))).setCell ⟨b, 1, none⟩ rfl _⟩
  · rw [Lib.byteCells_append]
    exact Lib.BuilderAtF.put (T := 57) (e := 5) hB hb2 (bs' := Lib.byteCells l ++ Lib.byteCells [c]) (by simpa [Lib.byteCells] using hown') (by decide)
  · exact ((hb1.alloc (by have := hb1.size; omega) _).grown hgrow (by have := hb1.size; simp; omega) (fun k hk => (hown.lt k hk).1)).setCell (p := ⟨b, 1, none⟩) hB _

set_option maxHeartbeats 2000000 in
set_option maxRecDepth 100000 in
/-- **WriteString.** -/
theorem writeString_calls (B b : Nat) (l : List UInt8) (s : ByteArray) (w : World) (h : Bld B b l w) (hlen : l.length + s.size ≤ 140737488355328) (hBw : B ≤ w.heap.size) :
    Calls Tryz.prog 23 #[.pointer (some ⟨b, 0, none⟩), .string s] w fun e w' => (∃ v, e = .returned v) ∧ Bld B b (l ++ s.data.toList) w' ∧ Below B w w' ∧ Kept b w w' := by
  obtain ⟨i0, hi, hz0, hz1, hz2⟩ := info_parts infoByteT
  go_enter Tryz.func23, Tryz.ntmps23
  go_wp2_with (go_at_call 54; refine (copyCheck_calls B b _ _ h).mono ?_)
  rintro e w1 ⟨rfl, h1, hb1, hk1⟩
  obtain ⟨hB, v, hbk, hown, hne⟩ := h1
  have c0 : w1.cell? ⟨b, 0, none⟩ = some (.pointer (some ⟨b, 0, none⟩)) := by rw [Lib.cell_of_heap hbk]; rfl
  have c1 : w1.cell? ⟨b, 1, none⟩ = some v := by rw [Lib.cell_of_heap hbk]; rfl
  have hll := Lib.byteCells_length l
  go_wp2_with (at_builtin; refine Lib.wpList_append_own_stringF _ rfl _ _ 29 9 rfl B 5 i0 Tryz.underlying29 Tryz.underlying9 hi hz0 hz1 hz2 _ _ _ rfl hown s rfl ?c3 ?c4 ?c5 ?_)
  case c3 => unfold maxLen; omega
  case c4 => omega
  case c5 => have := hb1.size; omega
  intro v' w2 hown' hgrow _
  have hlt : b < w1.heap.size := C.lt_of_block hbk
  have hb2 : w2.heap[b]? = some (.cells #[.pointer (some ⟨b, 0, none⟩), v] 57 (0, 0)) := by
    rw [hgrow.block b hlt (fun e => hne e.symm)]
    exact hbk
  have d1 : w2.cell? ⟨b, 1, none⟩ = some v := by rw [Lib.cell_of_heap hb2]; rfl
  have f1 : w2.frozen? ⟨b, 1, none⟩ = false := Lib.frozen_of_heap hb2 1
  obtain ⟨g, n', cap, rfl⟩ : ∃ g n' cap, v' = .slice g n' cap := by
    rcases hown'.2 with ⟨hv, _⟩ | ⟨g, cap, cur, fz, hv, _⟩
    · exact ⟨_, _, _, hv⟩
    · exact ⟨_, _, _, hv⟩
  go_wp2
  go_ret2
  refine ⟨⟨_, rfl⟩, .inr ?_, ?_, (hk1.grown hgrow (Lib.ownsRowF_kind hown)).setCell ⟨b, 1, none⟩ rfl _⟩
  · rw [Lib.byteCells_append, ← Lib.strCells_eq]
    exact Lib.BuilderAtF.put (T := 57) (e := 5) hB hb2 (bs' := Lib.byteCells l ++ Lib.strCells s) (by rw [List.length_append, Lib.strCells_length, Lib.byteCells_length]; exact hown') (by decide)
  · exact (hb1.grown hgrow (by have := hb1.size; omega) (fun k hk => (hown.lt k hk).1)).setCell (p := ⟨b, 1, none⟩) hB _

/-- **String.** -/
theorem string_calls (B b : Nat) (l : List UInt8) (w : World) (h : Bld B b l w) (hBw : B ≤ w.heap.size) :
    Calls Tryz.prog 24 #[.pointer (some ⟨b, 0, none⟩)] w fun e w' => e = .returned (.string ⟨l.toArray⟩) ∧ Bld B b l w' ∧ Below B w w' ∧ Kept b w w' :=
  Any.Builder_String_any_k Tryz.lays169 Tryz.Builder_Extra_169 B b l w h hBw
end Go.Proofs.YtmfhhpacojodkaaGreatDoor.T

/- What is proved here: the document's hexes and begins of layer 12. -/
namespace Go.Proofs.YtmfhhpacojodkaaGreatDoor.L
open Go.RowKit Go.Shelf Go.Proofs.YtmfhhpacojodkaaGreatDoor.N Go.Proofs.YtmfhhpacojodkaaGreatDoor.U

def hexC (c : UInt8) : Bool := decide (0 ≤ valueZ c.toNat)
/-- Do two hexadecimal digits stand behind a place? -/
def hexL (s : List UInt8) (k : Nat) : Bool := decide (k + 2 < s.length) && hexC (s.getD (k + 1) 0) && hexC (s.getD (k + 2) 0)
end Go.Proofs.YtmfhhpacojodkaaGreatDoor.L

/- What is proved here: plain facts on percent escapes: what Encode and Decode say of a text, and that Decode undoes what Encode does. -/
namespace Go.Proofs.YtmfhhpacojodkaaGreatDoor.L
open Go.RowKit Go.Shelf Go.Proofs.YtmfhhpacojodkaaGreatDoor.N Go.Proofs.YtmfhhpacojodkaaGreatDoor.U

/-- The signs that are always escaped. -/
def marks : List UInt8 := [34, 60, 62, 92, 94, 96, 123, 124, 125]
def turnC (c : UInt8) : Bool := lowC c || decide (127 ≤ c.toNat) || marks.contains c
def bad0 (s : List UInt8) (k : Nat) (c : UInt8) : Bool := lowC c || decide (127 ≤ c.toNat) || (c == 37 && !hexL s k)
def badC (s : List UInt8) (k : Nat) (c : UInt8) : Bool := bad0 s k c || marks.contains c
def hexD (n : Nat) : UInt8 := [48, 49, 50, 51, 52, 53, 54, 55, 56, 57, 65, 66, 67, 68, 69, 70].getD n 0
def escC (c : UInt8) : List UInt8 := [37, hexD (c.toNat / 16), hexD (c.toNat % 16)]
def encC (s : List UInt8) (k : Nat) : List UInt8 := if badC s k (s.getD k 0) then escC (s.getD k 0) else [s.getD k 0]
/-- With percent escapes, of a mended text. -/
def encodeM (s : List UInt8) : List UInt8 := (List.range s.length).flatMap (encC s)
theorem encC_le (s : List UInt8) (k : Nat) : (encC s k).length ≤ 3 := by unfold encC; split <;> simp [escC]
theorem enc_pre_le (s : List UInt8) : ∀ k, ((List.range k).flatMap (encC s)).length ≤ 3 * k
  | 0 => by simp
  | k + 1 => by
    have h1 := enc_pre_le s k
    have h2 := encC_le s k
    rw [List.range_succ, List.flatMap_append, List.length_append]
    simp only [List.flatMap_cons, List.flatMap_nil, List.append_nil]
    omega
theorem enc_pre_succ (s : List UInt8) (k : Nat) : (List.range (k + 1)).flatMap (encC s) = (List.range k).flatMap (encC s) ++ encC s k := by
  rw [List.range_succ, List.flatMap_append]
  simp only [List.flatMap_cons, List.flatMap_nil, List.append_nil]
theorem encodeM_le (s : List UInt8) : (encodeM s).length ≤ 3 * s.length := enc_pre_le s s.length
theorem hexL_drop (s : List UInt8) (k : Nat) : hexL s k = hexL (s.drop k) 0 := by
  unfold hexL
  simp only [List.length_drop, List.getD_eq_getElem?_getD, List.getElem?_drop, Nat.zero_add]
  congr 2
  exact decide_eq_decide.2 (by omega)
/-- Does a text begin with a percent escape? -/
def escB (s : List UInt8) : Bool := (s.getD 0 0 == 37) && hexL s 0
/-- Escapes, from what is left. -/
def encS : List UInt8 → List UInt8
  | [] => []
  | c :: t => (if badC (c :: t) 0 c then escC c else [c]) ++ encS t
theorem encC_drop (s : List UInt8) (k : Nat) (c : UInt8) (hc : s.getD k 0 = c) : encC s k = if badC (s.drop k) 0 c then escC c else [c] := by
  unfold encC badC bad0
  rw [hexL_drop s k, hc]
theorem encS_drop : ∀ (n : Nat) (s : List UInt8) (k : Nat), s.length = k + n → (List.range' k n).flatMap (encC s) = encS (s.drop k)
  | 0, s, k, h => by
    rw [List.drop_eq_nil_of_le (by omega)]
    rfl
  | n + 1, s, k, h => by
    have e : s.drop k = s.getD k 0 :: s.drop (k + 1) := by rw [List.drop_eq_getElem_cons (by omega : k < s.length)]; simp [show k < s.length by omega]
    rw [List.range'_succ, List.flatMap_cons, encS_drop n s (k + 1) (by omega), e, encS, encC_drop s k _ rfl, e]
theorem encodeM_eq (s : List UInt8) : encodeM s = encS s := by
  unfold encodeM
  rw [List.range_eq_range', encS_drop s.length s 0 (by omega), List.drop_zero]
/-- What two hexadecimal digits say. -/
def hexV (a b : UInt8) : UInt8 := UInt8.ofNat (16 * (valueZ a.toNat).toNat + (valueZ b.toNat).toNat)
def decF : Nat → List UInt8 → List UInt8
  | 0, _ => []
  | _ + 1, [] => []
  | f + 1, c :: t => if escB (c :: t) then hexV (t.getD 0 0) (t.getD 1 0) :: decF f (t.drop 2) else c :: decF f t
/-- Without percent escapes, of a mended text (not mended again). -/
def decM (s : List UInt8) : List UInt8 := decF s.length s
theorem decF_fuel : ∀ (f g : Nat) (s : List UInt8), s.length ≤ f → s.length ≤ g → decF f s = decF g s
  | 0, g, s, h, _ => by
    obtain rfl : s = [] := List.length_eq_zero_iff.1 (by omega)
    cases g <;> rfl
  | f + 1, g, [], _, _ => by cases g <;> rfl
  | f + 1, 0, c :: t, _, h => by simp at h
  | f + 1, g + 1, c :: t, h1, h2 => by
    simp only [List.length_cons] at h1 h2
    unfold decF
    split
    · rw [decF_fuel f g (t.drop 2) (by simp; omega) (by simp; omega)]
    · rw [decF_fuel f g t (by omega) (by omega)]
theorem decM_nil : decM [] = [] := rfl
theorem decM_esc (c : UInt8) (t : List UInt8) (h : escB (c :: t) = true) : decM (c :: t) = hexV (t.getD 0 0) (t.getD 1 0) :: decM (t.drop 2) := by
  unfold decM
  rw [List.length_cons, decF, if_pos h, decF_fuel t.length (t.drop 2).length (t.drop 2) (by simp) (Nat.le_refl _)]
theorem decM_plain (c : UInt8) (t : List UInt8) (h : escB (c :: t) = false) : decM (c :: t) = c :: decM t := by
  unfold decM
  rw [List.length_cons, decF, if_neg (by rw [h]; decide)]
theorem decF_le : ∀ (f : Nat) (s : List UInt8), (decF f s).length ≤ s.length
  | 0, s => by simp [decF]
  | f + 1, [] => by simp [decF]
  | f + 1, c :: t => by
    unfold decF
    split
    · have := decF_le f (t.drop 2); simp at this ⊢; omega
    · have := decF_le f t; simp; omega
theorem decM_le (s : List UInt8) : (decM s).length ≤ s.length := decF_le _ _
theorem hex_tab : (∀ n : Fin 16, hexC (hexD n.val) = true ∧ (valueZ (hexD n.val).toNat).toNat = n.val ∧ (hexD n.val).toNat < 127 ∧ 32 < (hexD n.val).toNat ∧ marks.contains (hexD n.val) = false ∧ (hexD n.val == 37) = false) := by decide
theorem hexV_esc (c : UInt8) : hexV (hexD (c.toNat / 16)) (hexD (c.toNat % 16)) = c := by
  have hc := c.toNat_lt
  have h1 := (hex_tab ⟨c.toNat / 16, by omega⟩).2.1
  have h2 := (hex_tab ⟨c.toNat % 16, by omega⟩).2.1
  simp only at h1 h2
  unfold hexV
  rw [h1, h2, show 16 * (c.toNat / 16) + c.toNat % 16 = c.toNat by omega]
  simp
theorem hexL_cons (c a b : UInt8) (t : List UInt8) : hexL (c :: a :: b :: t) 0 = (hexC a && hexC b) := by
  unfold hexL
  rw [decide_eq_true (by simp)]
  simp
theorem escB_esc (c : UInt8) (t : List UInt8) : escB (37 :: hexD (c.toNat / 16) :: hexD (c.toNat % 16) :: t) = true := by
  have hc := c.toNat_lt
  unfold escB
  rw [hexL_cons, (hex_tab ⟨c.toNat / 16, by omega⟩).1, (hex_tab ⟨c.toNat % 16, by omega⟩).1]
  rfl
/-- Hexadecimal digits stay. -/
theorem hex_stays : ∀ n : Fin 256, hexC (UInt8.ofNat n.val) = true → lowC (UInt8.ofNat n.val) = false ∧ (UInt8.ofNat n.val).toNat < 127 ∧ ((UInt8.ofNat n.val) == 37) = false ∧ marks.contains (UInt8.ofNat n.val) = false := by decide +kernel
theorem hex_keep (c : UInt8) (h : hexC c = true) : lowC c = false ∧ c.toNat < 127 ∧ (c == 37) = false ∧ marks.contains c = false := by
  have := hex_stays ⟨c.toNat, c.toNat_lt⟩
  simp only [UInt8.ofNat_toNat] at this
  exact this h
theorem keep_bad (s : List UInt8) (k : Nat) (c : UInt8) (h : hexC c = true) : badC s k c = false := by
  obtain ⟨h1, h2, h3, h4⟩ := hex_keep c h
  unfold badC bad0
  rw [h1, h3, h4, decide_eq_false (by omega)]
  rfl
theorem encS_hex (a : UInt8) (t : List UInt8) (h : hexC a = true) : encS (a :: t) = a :: encS t := by
  rw [encS, keep_bad _ _ _ h, if_neg (by decide)]; rfl
theorem esc_open (c : UInt8) (t : List UInt8) (h : escB (c :: t) = true) : ∃ a b r, t = a :: b :: r ∧ c = 37 ∧ hexC a = true ∧ hexC b = true := by
  unfold escB at h
  rw [Bool.and_eq_true] at h
  obtain ⟨h1, h2⟩ := h
  have hc : c = 37 := by simpa using h1
  match t, h2 with
  | [], h2 => simp [hexL] at h2
  | [a], h2 => simp [hexL] at h2
  | a :: b :: r, h2 =>
    rw [hexL_cons, Bool.and_eq_true] at h2
    exact ⟨a, b, r, rfl, hc, h2.1, h2.2⟩
/-- **Decode undoes what Encode does.** -/
theorem dec_enc_eq : ∀ (n : Nat) (s : List UInt8), s.length ≤ n → decM (encS s) = decM s
  | 0, s, h => by
    obtain rfl : s = [] := List.length_eq_zero_iff.1 (by omega)
    rfl
  | n + 1, [], _ => rfl
  | n + 1, c :: t, h => by
    simp only [List.length_cons] at h
    cases he : escB (c :: t) with
    | true =>
      obtain ⟨a, b, r, rfl, rfl, ha, hb⟩ := esc_open c t he
      have hbad : badC (37 :: a :: b :: r) 0 37 = false := by
        unfold badC bad0
        rw [hexL_cons, ha, hb]
        decide
      rw [encS, hbad, if_neg (by decide), encS_hex a _ ha, encS_hex b _ hb, List.singleton_append, decM_esc _ _ (by unfold escB; rw [hexL_cons, ha, hb]; rfl), decM_esc _ _ he]
      simp only [List.getD_cons_zero, List.getD_cons_succ, List.drop_succ_cons, List.drop_zero]
      rw [dec_enc_eq n r (by simp only [List.length_cons] at h; omega)]
    | false =>
      rw [decM_plain c t he, encS]
      cases hb : badC (c :: t) 0 c with
      | true =>
        rw [if_pos rfl]
        have e : escC c ++ encS t = 37 :: hexD (c.toNat / 16) :: hexD (c.toNat % 16) :: encS t := rfl
        rw [e, decM_esc _ _ (escB_esc c _)]
        simp only [List.getD_cons_zero, List.getD_cons_succ, List.drop_succ_cons, List.drop_zero]
        rw [hexV_esc, dec_enc_eq n t (by omega)]
      | false =>
        rw [if_neg (by decide), List.singleton_append]
        have hn : (c == 37) = false := by
          cases h37 : (c == 37) with
          | false => rfl
          | true =>
            exfalso
            have hc : c = 37 := by simpa using h37
            unfold badC bad0 at hb
            unfold escB at he
            rw [hc] at hb he
            rw [List.getD_cons_zero] at he
            simp only [beq_self_eq_true, Bool.true_and] at hb he
            rw [he] at hb
            simp at hb
        rw [decM_plain c _ (by unfold escB; rw [List.getD_cons_zero, hn]; rfl), dec_enc_eq n t (by omega)]
/-- What is escaped is ASCII without blanks, and no mark. -/
def asciiC (c : UInt8) : Bool := decide (32 < c.toNat) && decide (c.toNat < 127) && !marks.contains c
theorem ascii_esc (c : UInt8) : ∀ d ∈ escC c, asciiC d = true := by
  have hc := c.toNat_lt
  intro d hd
  have key : ∀ n, n < 16 → asciiC (hexD n) = true := fun n hn => by
    obtain ⟨_, _, h1, h2, h3, _⟩ := hex_tab ⟨n, hn⟩
    simp only at h1 h2 h3
    unfold asciiC
    rw [h3, decide_eq_true h1, decide_eq_true h2]
    rfl
  simp only [escC, List.mem_cons, List.not_mem_nil, or_false] at hd
  rcases hd with rfl | rfl | rfl
  · decide
  · exact key _ (by omega)
  · exact key _ (by omega)
theorem encS_ascii : ∀ (s : List UInt8), ∀ d ∈ encS s, asciiC d = true
  | [], d, h => by simp [encS] at h
  | c :: t, d, h => by
    rw [encS, List.mem_append] at h
    rcases h with h | h
    · cases hb : badC (c :: t) 0 c with
      | true => rw [hb, if_pos rfl] at h; exact ascii_esc c d h
      | false =>
        rw [hb, if_neg (by decide)] at h
        have e : d = c := by simpa using h
        subst e
        unfold badC bad0 at hb
        simp only [Bool.or_eq_false_iff] at hb
        obtain ⟨⟨⟨h1, h2⟩, _⟩, h4⟩ := hb
        have h1' : 32 < d.toNat := by simpa [lowC] using h1
        have h2' : d.toNat < 127 := by simpa using h2
        unfold asciiC
        rw [h4, decide_eq_true h1', decide_eq_true h2']
        rfl
    · exact encS_ascii t d h
end Go.Proofs.YtmfhhpacojodkaaGreatDoor.L
