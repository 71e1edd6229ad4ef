/- What is proved here: laws and contracts of NFields, NAwake, NFrame, BaTabs, one behind the other (each says its own). -/
import Derived.Test.YtdkcibafbdmajabGreatDoorBun2
import Derived.Test.YtdkcibafbdmajabGreatDoorBun1
import Derived.Test.YtdkcibafbdmajabGreatDoorNShelf
import Derived.Test.YtdkcibafbdmajabGreatDoorNText
import Derived.Test.YtdkcibafbdmajabGreatDoorRows
import Derived.PinnedBridge
import Derived.ProofKit
import Derived.OpenShut
import Derived.Deep.DeepHandedRow
import Derived.Lib.LaidTab
/- What is proved here: the contract of names.Fields: the fields of any text, in a row of their own. -/
namespace Go.Proofs.YtdkcibafbdmajabGreatDoor.N
open Go.RowKit C

/-- A part of a text. -/
def part (l : List UInt8) (a b : Nat) : List UInt8 := (l.drop a).take (b - a)
theorem part_none (l : List UInt8) (a : Nat) : part l a a = [] := by simp [part]
theorem part_length (l : List UInt8) (a b : Nat) (h : b ≤ l.length) : (part l a b).length = b - a := by simp [part]; omega
theorem part_succ (l : List UInt8) (a k : Nat) (h : a ≤ k) (hk : k < l.length) : part l a (k + 1) = part l a k ++ [l.getD k 0] := by
  unfold part
  have e : k + 1 - a = (k - a) + 1 := by omega
  have hd : k - a < (l.drop a).length := by simp; omega
  rw [e, List.take_succ_eq_append_getElem hd]
  congr 2
  simp [List.getD, hk]
  congr 1
  omega
theorem part_end (l : List UInt8) (a : Nat) : part l a l.length = l.drop a := by
  unfold part
  rw [List.take_of_length_le (by simp)]
theorem part_extract (s : ByteArray) (a b : Nat) : s.extract a b = ⟨(part s.data.toList a b).toArray⟩ := Lib.extract_eq s a b
theorem drop_step (l : List UInt8) (k : Nat) (h : k < l.length) : l.drop k = l.getD k 0 :: l.drop (k + 1) := by
  rw [List.drop_eq_getElem_cons h]
  simp [List.getD, h]
theorem ff_plain (l w : List UInt8) (k : Nat) (h : k < l.length) (hc : blankB (l.getD k 0) = false) : fieldsFrom (l.drop k) w = fieldsFrom (l.drop (k + 1)) (w ++ [l.getD k 0]) := by
  rw [drop_step l k h, ff_cons, if_neg (by rw [hc]; decide)]
theorem ff_blank (l w : List UInt8) (k : Nat) (h : k < l.length) (hc : blankB (l.getD k 0) = true) (hw : w ≠ []) : fieldsFrom (l.drop k) w = w :: fieldsFrom (l.drop (k + 1)) [] := by
  rw [drop_step l k h, ff_cons, if_pos hc, if_neg (by simpa using hw)]
theorem ff_blank0 (l : List UInt8) (k : Nat) (h : k < l.length) (hc : blankB (l.getD k 0) = true) : fieldsFrom (l.drop k) [] = fieldsFrom (l.drop (k + 1)) [] := by
  rw [drop_step l k h, ff_cons, if_pos hc]; rfl
theorem blank_eq (c : UInt8) : blankZ (wrap32 (c.toNat : Int)) = blankB c := by
  have hc := c.toNat_lt
  have hw : wrap32 (c.toNat : Int) = c.toNat := by unfold wrap32; omega
  have hu : ∀ n : Nat, n < 256 → ((c == UInt8.ofNat n) = true ↔ c.toNat = n) := fun n hn => by
    rw [beq_iff_eq]
    constructor
    · intro h; rw [h]; simp; omega
    · intro h; apply UInt8.toNat_inj.1; simp; omega
  rw [hw, Bool.eq_iff_iff]
  unfold blankZ blankB
  rw [show (9 : UInt8) = UInt8.ofNat 9 from rfl, show (10 : UInt8) = UInt8.ofNat 10 from rfl, show (12 : UInt8) = UInt8.ofNat 12 from rfl, show (32 : UInt8) = UInt8.ofNat 32 from rfl]
  simp only [Bool.or_eq_true, decide_eq_true_eq, hu 9 (by omega), hu 10 (by omega), hu 12 (by omega), hu 32 (by omega)]
  omega

/-- Texts as values. -/
def svs (L : List (List UInt8)) : List Value := L.map fun x => .string ⟨x.toArray⟩
theorem svs_append (a b : List (List UInt8)) : svs (a ++ b) = svs a ++ svs b := by simp [svs]
theorem svs_length (a : List (List UInt8)) : (svs a).length = a.length := by simp [svs]
theorem infoStr : (Tryz.prog.info? 9).map (fun i => (i.zero, i.size, i.bytes)) = some (some (.string ⟨#[]⟩), 1, 16) := by kernel_rfl
theorem info_parts {t : TypeId} {z : Value} {n b : Nat} (h : (Tryz.prog.info? t).map (fun i => (i.zero, i.size, i.bytes)) = some (some z, n, b)) : ∃ i, Tryz.prog.info? t = some i ∧ i.zero = some z ∧ i.size = n ∧ i.bytes = b := by
  cases e : Tryz.prog.info? t with
  | none => rw [e] at h; simp at h
  | some i => rw [e] at h; simp at h; exact ⟨i, rfl, h.1, h.2.1, h.2.2⟩
/-- A row of texts of one's own. -/
abbrev OwnT (base : Nat) (w : World) (v : Value) (L : List (List UInt8)) : Prop := w.ownsRow base 9 1 v L.length (svs L)
theorem cell_one (W : World) (a : Value) (t : TypeId) (n : Nat) (hn : n = W.heap.size) : ∀ j u, [a][j]? = some u → (W.alloc (.cells #[a] t)).cell? ((⟨n, 0, none⟩ : Addr).add j) = some u := by
  intro j u h
  subst hn
  rw [add_none, Nat.zero_add]
  have hb := World.alloc_heap_new W (.cells #[a] t)
  simp only [World.cell?, hb]
  simpa using h

end Go.Proofs.YtdkcibafbdmajabGreatDoor.N

/- What is proved here: the contracts of names.Collapse (of texts up to a size) and of names.In at one set, and that the document's example ('awake') holds. -/
namespace Go.Proofs.YtdkcibafbdmajabGreatDoor.N
open Go.RowKit Go.Shelf C

/-- The library's variable that strings.Contains reads is a number. -/
abbrev MaxOk (w : World) : Prop := ∃ m, w.cell? ⟨Tryz.laysM144_ren.g 1, 0, none⟩ = some (.int .i64 m)
theorem MaxOk.below {w w' : World} (h : MaxOk w) (hb : Below w.heap.size w w') : MaxOk w' := by
  obtain ⟨m, hm⟩ := h
  exact ⟨m, (hb.cell (cell_lt hm)).trans hm⟩
theorem svs_get (L : List (List UInt8)) (j : Nat) (x : ByteArray) (h : (L.map fun x => (⟨x.toArray⟩ : ByteArray))[j]? = some x) : (svs L)[j]? = some (.string x) := by
  simp [svs] at h ⊢
  obtain ⟨a, h1, rfl⟩ := h
  exact ⟨a, h1, rfl⟩
theorem map_back (L : List (List UInt8)) : (L.map fun x => (⟨x.toArray⟩ : ByteArray)).map (·.data.toList) = L := by
  rw [List.map_map]
  exact List.map_id' L

theorem sub_data (s : ByteArray) : ((⟨#[32]⟩ : ByteArray) ++ s ++ (⟨#[32]⟩ : ByteArray)).data.toList = 32 :: (s.data.toList ++ [32]) := by
  rw [ByteArray.data_append, ByteArray.data_append, Array.toList_append, Array.toList_append]
  rfl
theorem contains_calls (s sub : ByteArray) (m : Int) (w : World) (hs : s.size < 4294967281) (hm : w.cell? ⟨Tryz.laysM144_ren.g 1, 0, none⟩ = some (.int .i64 m)) :
    Calls Tryz.prog 91 #[.string s, .string sub] w fun e w' => e = .returned (.bool (Lib.contains s.data.toList sub.data.toList)) ∧ w' = w := Any.strings_Contains { Tryz.laysM144 with } s sub m w hs hm
theorem txt6_size : txt6.size < 4294967281 := by decide +kernel
set_option maxRecDepth 100000 in
set_option maxHeartbeats 1000000 in
theorem in6_calls (s : ByteArray) (w : World) (hs : s.size ≤ 9223372036854775807) (hm : MaxOk w) :
    Calls Tryz.prog 69 #[.string s, .int .i64 6] w fun e w' => e = .returned (.bool (tagN s.data.toList && Lib.contains txt6.data.toList (32 :: (s.data.toList ++ [32])))) ∧ Below w.heap.size w w' := by
  have HZ : Hid (s.data.toList.length = s.size) := size_data s
  obtain ⟨m, hm⟩ := hm
  have HM : Hid (w.cell? ⟨Tryz.laysM144_ren.g 1, 0, none⟩ = some (.int .i64 m)) := hm
  clear hm
  go_enter Tryz.func69, Tryz.ntmps69
  cases ht : tagN s.data.toList with
  | false =>
    go_wp2_with (go_at_call 90; refine (tag_calls _ _ hs).mono ?_; rintro e w' ⟨rfl, hw'⟩; have hx' := hw'.symm; subst hx')
    go_ret
    exact ⟨ret_bool (by simp), Below.refl _ _⟩
  | true =>
    have h100 : s.size ≤ 100 := by have := HZ.out; simp [tagN] at ht; omega
    go_wp2_with (first
      | (go_at_call 90; refine (tag_calls _ _ hs).mono ?_; rintro e w' ⟨rfl, hw'⟩; have hx' := hw'.symm; subst hx')
      | (go_at_call 92; refine (text6_calls _).mono ?_; rintro e w' ⟨rfl, hw'⟩; have hx' := hw'.symm; subst hx'))
    refine (contains_calls txt6 _ m w txt6_size HM.out).mono ?_
    rintro e w' ⟨rfl, hw'⟩
    have hx' := hw'.symm
    subst hx'
    go_wp2
    go_ret
    exact ⟨ret_bool (by first | rfl | (rw [sub_data]; rfl)), Below.refl _ _⟩

theorem in_p : (tagN [112] && Lib.contains txt6.data.toList (32 :: ([112] ++ [32]))) = true := by decide +kernel
theorem in_P : (tagN [80] && Lib.contains txt6.data.toList (32 :: ([80] ++ [32]))) = false := by decide +kernel
theorem collapse_abc : collapse [32, 97, 9, 98, 32, 32, 99, 32] = [97, 32, 98, 32, 99] := by decide +kernel

end Go.Proofs.YtdkcibafbdmajabGreatDoor.N

/- What is proved here: plain facts that lift a call's contract to a statement of the rows. -/
namespace Go.Proofs.YtdkcibafbdmajabGreatDoor.N
open Go.ChangeShapes Go.WideShapes Go.ChangeAt Go.RowKit C

theorem own : ownKnob Tryz.prog.godebug = none := by kernel_rfl
theorem laidOut : laidOutB Tryz.prog = true := by kernel_rfl
/-- A call that turns nothing that was there, gives back what the specification says and leaves its arguments: what the row asks behind it. -/
theorem post_below {H : Type} {enc : TypeId × Value → H} {P : Program} {f : Func} {s : ChangeSpec} {apart fresh handsOn : Bool} {W W' : World} {args : Array Value} {v : Value} {ds gs : List (DataW H)} {before pa pv : List MemPlace}
    (hW : DataW.Whole enc P f.params.toList s.vars apart W args.toList ds gs before)
    (hres : ∀ (b : Nat) (sp : Nat → Bool) (hd : Bool), DataW.TrodAll enc P W' b sp hd f.resultTypes.toList (v.resultList f.resultTypes.size) (s.fn H (ds ++ gs)).results [])
    (hargs : DataW.TrodAll enc P W' 0 (fun b => decide (b < W.heap.size)) true f.params.toList args.toList (s.fn H (ds ++ gs)).args pa)
    (hvars : DataW.TrodVars enc P W' (fun b => decide (b < W.heap.size)) s.vars (s.fn H (ds ++ gs)).vars pv)
    (hb : Below W.heap.size W W') : s.post enc P f apart fresh handsOn false W args v W' :=
  ⟨ds, gs, before, [], pa, pv, hW, hres _ _ _, hargs, hvars, hb.frame _, fun h => by cases h⟩
/-- What was handed in reads as it did. -/
theorem stays {H : Type} {enc : TypeId × Value → H} {W W' : World} {t : TypeId} {v : Value} {d : DataW H} {ps : List MemPlace} (hr : Tryz.prog.readableRec t = true) (hrow : t < Tryz.prog.types.size)
    (h : DataW.Trod enc Tryz.prog W 0 (fun _ => true) true t v d ps) (hb : Below W.heap.size W W') (hlt : ∀ x ∈ ps, x.block < W.heap.size) : DataW.Trod enc Tryz.prog W' 0 (fun b => decide (b < W.heap.size)) true t v d ps :=
  Below.trod laidOut hr hrow h hb hlt
theorem wf_bounds {k : IntKind} {z : Int} (h : (Lit.int k z).wf = true) : k.min ≤ z ∧ z ≤ k.max := by
  simpa [Lit.wf] using h
theorem bulk_str {H : Type} (l : List UInt8) : Rows.uptoBulk (H := H) (.lit (.string l)) = l.length + 1 := rfl

end Go.Proofs.YtdkcibafbdmajabGreatDoor.N

/- What is proved here: a world for the witness in which the two tables of unicode/utf8 lie. -/
namespace Go.Proofs.YtdkcibafbdmajabGreatDoor.Bt
open Go.RowKit Go.Shelf
def firstCells : Array Value := (Pinned.utf8FirstZ.map fun n : Nat => Value.int .u8 (n : Int)).toArray
def acceptCells : Array Value := ([128, 191, 160, 191, 128, 159, 144, 191, 128, 143, 0, 0, 0, 0, 0, 0, 0, 0, 0, 0, 0, 0, 0, 0, 0, 0, 0, 0, 0, 0, 0, 0].map fun n : Nat => Value.int .u8 (n : Int)).toArray
def withTabs (w : World) : World :=
  { w with heap := (w.heap.modify 1 fun
      | .cells _ t frozen => .cells firstCells t frozen
      | o => o).modify 2 fun
      | .cells _ t frozen => .cells acceptCells t frozen
      | o => o }
end Go.Proofs.YtdkcibafbdmajabGreatDoor.Bt
