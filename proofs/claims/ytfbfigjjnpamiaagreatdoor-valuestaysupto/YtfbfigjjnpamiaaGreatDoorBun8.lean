/- What is proved here: laws and contracts of RRMend, LkB, LkStrip, LkKind, LkSch, LkChk, LkUp, one behind the other (each says its own). -/
import Derived.Test.YtfbfigjjnpamiaaGreatDoorBun7
import Derived.Test.YtfbfigjjnpamiaaGreatDoorMathB
import Derived.Laws.IdiomStrings
import Derived.Maps.AppendAt
import Derived.Test.YtfbfigjjnpamiaaGreatDoorBun3
/- What is proved here: the document's Mend. -/
namespace Go.Proofs.YtfbfigjjnpamiaaGreatDoor.R
open Go.RowKit Go.Shelf Go.Proofs.YtfbfigjjnpamiaaGreatDoor.U

end Go.Proofs.YtfbfigjjnpamiaaGreatDoor.R

/- What is proved here: texts as lists of bytes: a byte of one, parts of one, and one byte more behind bytes of one's own. -/
namespace Go.Proofs.YtfbfigjjnpamiaaGreatDoor.L
open Go.RowKit Go.Shelf Go.Proofs.YtfbfigjjnpamiaaGreatDoor.N Go.Proofs.YtfbfigjjnpamiaaGreatDoor.U

theorem hid_of {p : Prop} (h : p) : Hid p := h
theorem arr_size (l : List UInt8) : (⟨l.toArray⟩ : ByteArray).size = l.length := by simp [ByteArray.size]
theorem arr_list (l : List UInt8) : (⟨l.toArray⟩ : ByteArray).data.toList = l := by simp
theorem byte_at (l : List UInt8) (k : Nat) (c : UInt8) (hk : k < l.length) (hc : l.getD k 0 = c) (i : Int) (hi : i = k) (w : World) : (Instr.index 9 (.string ⟨l.toArray⟩) (.int .i64 i)).run Tryz.prog w = .ok (.int .u8 c.toNat) w :=
  run_byte w _ _ _ i k c Tryz.underlying9 hi (by rw [arr_size]; exact hk) (by rw [arr_list]; exact hc)
theorem slice_h (bs : List UInt8) (k : Nat) (hk : k ≤ bs.length) (K : Int) (hK : K = k) (w : World) : (Instr.slice 9 (.string ⟨bs.toArray⟩) none (some (.int .i64 K)) none).run Tryz.prog w = .ok (.string ⟨(bs.take k).toArray⟩) w := by
  subst hK
  rw [run_slice_string_h w 9 ⟨bs.toArray⟩ Tryz.underlying9 .i64 k (by omega) (by rw [arr_size]; omega)]
  congr 2
  apply ByteArray.ext
  simp
theorem slice_l (bs : List UInt8) (k : Nat) (hk : k ≤ bs.length) (K : Int) (hK : K = k) (w : World) : (Instr.slice 9 (.string ⟨bs.toArray⟩) (some (.int .i64 K)) none none).run Tryz.prog w = .ok (.string ⟨(bs.drop k).toArray⟩) w := by
  subst hK
  have hsz := arr_size bs
  rw [run_slice_string_l w 9 ⟨bs.toArray⟩ Tryz.underlying9 .i64 k (by omega) (by rw [hsz]; omega)]
  congr 2
  apply ByteArray.ext
  simp
  rw [hsz]
  exact List.take_of_length_le (by simp)
theorem run_slice_lhS {P : Program} (w : World) (t : TypeId) (s : ByteArray) (ht : P.underlying t = some .string) (l h : Int) (h0 : 0 ≤ l) (h1 : l ≤ h) (h2 : h ≤ s.size) :
    (Instr.slice t (.string s) (some (.int .i64 l)) (some (.int .i64 h)) none).run P w = .ok (.string (s.extract l.toNat h.toNat)) w := by
  have eh : (h.toNat : Int) = h := Int.toNat_of_nonneg (by omega)
  simp [Instr.slice, run_underlying ht, Instr.sliceBounds, run_sliceBound, *, (by omega : 0 ≤ h)]
theorem slice_lh (bs : List UInt8) (j k : Nat) (hj : j ≤ k) (hk : k ≤ bs.length) (J K : Int) (hJ : J = j) (hK : K = k) (w : World) : (Instr.slice 9 (.string ⟨bs.toArray⟩) (some (.int .i64 J)) (some (.int .i64 K)) none).run Tryz.prog w = .ok (.string ⟨((bs.take k).drop j).toArray⟩) w := by
  subst hJ hK
  have hsz := arr_size bs
  rw [run_slice_lhS w 9 ⟨bs.toArray⟩ Tryz.underlying9 j k (by omega) (by omega) (by rw [hsz]; omega)]
  congr 2
  apply ByteArray.ext
  simp [List.drop_take]
theorem infoB : (Tryz.prog.info? 5).map (fun i => (i.zero, i.size, i.bytes)) = some (some (.int .u8 0), 1, 1) := by kernel_rfl
theorem bvs_snoc (l : List UInt8) (c : UInt8) : bvs (l ++ [c]) = bvs l ++ [.int .u8 c.toNat] := by simp [bvs]
theorem bvs_len (l : List UInt8) : (bvs l).length = l.length := by simp [bvs]
theorem cell_made (w : World) (c : Value) (e : TypeId) : (w.alloc (.cells #[c] e)).cell? ⟨w.heap.size, 0, none⟩ = some c := by
  rw [cell_of_row _ _ _ _ _ _ (World.alloc_heap_new w _)]; rfl
/-- One byte more, behind bytes of one's own. -/
theorem append_byte {w : World} {ops : Array Oper} {rest : List Oper} {o : Oper} {a : Act} {Q : Exit → Act → World → Prop} (hgd : o.guard = none) (s x : Operand)
    (ho : o.op = .call { callee := .builtin .append, args := #[s, x], argTypes := #[47, 47] }) (base : Nat) (v : Value) (l : List UInt8) (hs : a.eval s = v) (hown : w.ownsRow base 5 1 v l.length (bvs l))
    (B : Nat) (ch : UInt8) (hx : a.eval x = .slice (some ⟨B, 0, none⟩) 1 1) (hc : w.cell? ⟨B, 0, none⟩ = some (.int .u8 ch.toNat)) (hl : l.length ≤ 100000000000000) (hbase : base ≤ w.heap.size)
    (h : ∀ v' w', w'.ownsRow base 5 1 v' (l ++ [ch]).length (bvs (l ++ [ch])) → w.grownBy w' v.ownBlock → wpList Tryz.prog ops Q rest (a.put o.dst v') w') : wpList Tryz.prog ops Q (o :: rest) a w := by
  obtain ⟨i0, hi, hz0, hz1, hz2⟩ := info_parts infoB
  refine wpList_append_own w hgd s x _ ho base _ i0 (.int .u8 0) 1 1 Tryz.underlying47 hi hz0 hz1 hz2 rfl (by decide) v _ _ hs hown ⟨B, 0, none⟩ 1 1 [.int .u8 ch.toNat] hx rfl ?_ (by simp [Value.oneCell']) (by unfold maxLen; omega) (by omega) hbase ?_
  · intro j u hj
    match j, hj with
    | 0, hj => simp at hj; subst hj; simpa [Addr.add] using hc
    | (j + 1), hj => simp at hj
  · intro v' w' h1 h2 _
    rw [← bvs_snoc] at h1
    exact h v' w' (by simpa using h1) h2
end Go.Proofs.YtfbfigjjnpamiaaGreatDoor.L

/- What is proved here: the document's Strip, inner, colon, Scheme, slash and Kind of layer 12. -/
namespace Go.Proofs.YtfbfigjjnpamiaaGreatDoor.L
open Go.RowKit Go.Shelf Go.Proofs.YtfbfigjjnpamiaaGreatDoor.N Go.Proofs.YtfbfigjjnpamiaaGreatDoor.U

def strN : Value → Nat
  | .string s => s.size
  | _ => 0
/-- A text, mended. -/
def mendL (bs : List UInt8) : List UInt8 := encs (runesI bs)
theorem mend_le (bs : List UInt8) : (mendL bs).length ≤ 4 * bs.length := by
  have h1 := encs_length (runesI bs)
  have h2 : (runesI bs).length ≤ bs.length := by rw [runesI_length]; exact pcs_length bs
  unfold mendL
  omega
theorem filter_snoc (l : List UInt8) (p : UInt8 → Bool) (k : Nat) (h : k < l.length) : (l.take (k + 1)).filter p = if p (l.getD k 0) then (l.take k).filter p ++ [l.getD k 0] else (l.take k).filter p := by
  have e : l.getD k 0 = l[k] := by simp [h]
  rw [List.take_succ_eq_append_getElem h, List.filter_append, e]
  cases hp : p l[k] <;> simp [hp]
theorem filter_len (l : List UInt8) (p : UInt8 → Bool) (k : Nat) : ((l.take k).filter p).length ≤ l.length := by
  have h1 := List.length_filter_le p (l.take k)
  have h2 : (l.take k).length ≤ l.length := by simp; omega
  omega
theorem gap_no {c : UInt8} (h : gapC c = false) (z : UInt8) (hz : z = 9 ∨ z = 10 ∨ z = 13) : ((c.toNat : Int) != (z.toNat : Int)) = true := by
  unfold gapC at h
  simp at h
  rw [bne_iff_ne]
  intro e
  have e' : c = z := UInt8.toNat_inj.1 (by omega)
  rcases hz with rfl | rfl | rfl <;> simp_all
end Go.Proofs.YtfbfigjjnpamiaaGreatDoor.L

/- What is proved here: the document's inner, colon, Scheme, slash, Kind and Check of layer 12. -/
namespace Go.Proofs.YtfbfigjjnpamiaaGreatDoor.L
open Go.RowKit Go.Shelf Go.Proofs.YtfbfigjjnpamiaaGreatDoor.N Go.Proofs.YtfbfigjjnpamiaaGreatDoor.U

theorem eq_byte (c z : UInt8) : ((c.toNat : Int) == (z.toNat : Int)) = (c == z) := by
  by_cases h : c = z
  · subst h; simp
  · have : c.toNat ≠ z.toNat := fun e => h (UInt8.toNat_inj.1 e)
    rw [beq_eq_false_iff_ne.2 h, beq_eq_false_iff_ne]
    omega
/-- Where the : stands, as the document tells it. -/
def colonZ (l : List UInt8) : Int := match colonL l with | some n => n | none => -1
end Go.Proofs.YtfbfigjjnpamiaaGreatDoor.L

/- What is proved here: the document's Scheme, Kind and Check of layer 12. -/
namespace Go.Proofs.YtfbfigjjnpamiaaGreatDoor.L
open Go.RowKit Go.Shelf Go.Proofs.YtfbfigjjnpamiaaGreatDoor.N Go.Proofs.YtfbfigjjnpamiaaGreatDoor.U

theorem strip_le (l : List UInt8) : (stripM l).length ≤ l.length := by
  unfold stripM
  have h1 := List.length_filter_le (fun c => !gapC c) ((l.dropWhile lowC).reverse.dropWhile lowC).reverse
  have h2 := (List.dropWhile_sublist lowC (l := (l.dropWhile lowC).reverse)).length_le
  have h3 := (List.dropWhile_sublist lowC (l := l)).length_le
  simp only [List.length_reverse] at h1 h2
  omega
/-- A link, stripped. -/
def stripL (bs : List UInt8) : List UInt8 := stripM (mendL bs)
theorem stripL_le (bs : List UInt8) : (stripL bs).length ≤ 4 * bs.length := by
  have h1 := strip_le (mendL bs)
  have h2 := mend_le bs
  unfold stripL
  omega
/-- What Scheme tells of a stripped text. -/
def schemeV (l : List UInt8) : Value := match colonL l with | some n => .tuple #[.string ⟨(lower (l.take n)).toArray⟩, .bool true] | none => .tuple #[.string ⟨#[]⟩, .bool false]
end Go.Proofs.YtfbfigjjnpamiaaGreatDoor.L

/- What is proved here: the document's Check and upTo of layer 12. -/
namespace Go.Proofs.YtfbfigjjnpamiaaGreatDoor.L
open Go.RowKit Go.Shelf Go.Proofs.YtfbfigjjnpamiaaGreatDoor.N Go.Proofs.YtfbfigjjnpamiaaGreatDoor.U

/-- The schemes that may never be. -/
def nevers : List (List UInt8) := [[106, 97, 118, 97, 115, 99, 114, 105, 112, 116], [100, 97, 116, 97], [118, 98, 115, 99, 114, 105, 112, 116], [98, 108, 111, 98], [102, 105, 108, 101], [102, 105, 108, 101, 115, 121, 115, 116, 101, 109], [97, 98, 111, 117, 116]]
def mayC (c : UInt8) : Bool := innerC c && !upperZ c.toNat
/-- May a scheme be allowed? -/
def checkOk (l : List UInt8) : Bool := decide (1 ≤ l.length) && decide (l.length ≤ 100) && decide (97 ≤ (l.getD 0 0).toNat) && decide ((l.getD 0 0).toNat ≤ 122) && l.all mayC && !nevers.contains l
def checkZ (l : List UInt8) : Int := if checkOk l then 0 else 120
theorem nev_cells (w : World) (t : TypeId) : ∀ j, j < 7 → (w.alloc (.cells (nevers.map fun n => Value.string ⟨n.toArray⟩).toArray t)).cell? ⟨w.heap.size, j, none⟩ = some (.string ⟨(nevers.getD j []).toArray⟩) := fun j hj => by
  rw [cell_of_row _ _ _ _ _ _ (World.alloc_heap_new w _)]
  match j, hj with
  | 0, _ => rfl
  | 1, _ => rfl
  | 2, _ => rfl
  | 3, _ => rfl
  | 4, _ => rfl
  | 5, _ => rfl
  | 6, _ => rfl
  | (n + 7), h => exact absurd h (by omega)
theorem nev_no (l : List UInt8) (h : ∀ j, j < 7 → (l == nevers.getD j []) = false) : nevers.contains l = false := by
  have h0 := h 0 (by omega)
  have h1 := h 1 (by omega)
  have h2 := h 2 (by omega)
  have h3 := h 3 (by omega)
  have h4 := h 4 (by omega)
  have h5 := h 5 (by omega)
  have h6 := h 6 (by omega)
  simp only [nevers, List.getD_cons_zero, List.getD_cons_succ] at h0 h1 h2 h3 h4 h5 h6
  simp only [nevers, List.contains_cons, h0, h1, h2, h3, h4, h5, h6, Bool.or_false, List.contains_nil]
theorem nev_yes (l : List UInt8) (j : Nat) (hj : j < 7) (h : (l == nevers.getD j []) = true) : nevers.contains l = true := by
  have e : l = nevers.getD j [] := by simpa using h
  rw [e]
  match j, hj with
  | 0, _ => rfl
  | 1, _ => rfl
  | 2, _ => rfl
  | 3, _ => rfl
  | 4, _ => rfl
  | 5, _ => rfl
  | 6, _ => rfl
  | (n + 7), h => exact absurd h (by omega)
end Go.Proofs.YtfbfigjjnpamiaaGreatDoor.L

/- What is proved here: the document's upTo of layer 12: where the first one of some bytes stands. -/
namespace Go.Proofs.YtfbfigjjnpamiaaGreatDoor.L
open Go.RowKit Go.Shelf Go.Proofs.YtfbfigjjnpamiaaGreatDoor.N Go.Proofs.YtfbfigjjnpamiaaGreatDoor.U

/-- Where the first one of some bytes stands, or the end. -/
def upToL (so s : List UInt8) : Nat := (s.takeWhile fun c => !so.contains c).length
theorem upToL_le (so s : List UInt8) : upToL so s ≤ s.length := (List.takeWhile_sublist _).length_le
theorem upTo_none (so : List UInt8) : ∀ (s : List UInt8), (∀ j, j < s.length → so.contains (s.getD j 0) = false) → upToL so s = s.length
  | [], _ => rfl
  | c :: t, h => by
    have h0 := h 0 (by simp)
    simp only [List.getD_cons_zero] at h0
    have h1 := upTo_none so t (fun j hj => by have := h (j + 1) (by simpa using hj); simpa using this)
    unfold upToL at h1 ⊢
    rw [List.takeWhile_cons, if_pos (by rw [h0]; rfl), List.length_cons, h1, List.length_cons]
theorem upTo_at (so : List UInt8) : ∀ (s : List UInt8) (i : Nat), i < s.length → (∀ j, j < i → so.contains (s.getD j 0) = false) → so.contains (s.getD i 0) = true → upToL so s = i
  | [], _, h, _, _ => by simp at h
  | c :: t, 0, _, _, h => by
    simp only [List.getD_cons_zero] at h
    unfold upToL
    rw [List.takeWhile_cons, if_neg (by rw [h]; decide)]; rfl
  | c :: t, i + 1, hi, hp, h => by
    have h0 := hp 0 (by omega)
    simp only [List.getD_cons_zero] at h0
    have h1 := upTo_at so t i (by simpa using hi) (fun j hj => by have := hp (j + 1) (by omega); simpa using this) (by simpa using h)
    unfold upToL at h1 ⊢
    rw [List.takeWhile_cons, if_pos (by rw [h0]; rfl), List.length_cons, h1]
theorem has_no (so : List UInt8) (c : UInt8) (h : ∀ j, j < so.length → (c == so.getD j 0) = false) : so.contains c = false := by
  rw [List.contains_eq_mem, decide_eq_false_iff_not]
  intro hm
  obtain ⟨j, hj, e⟩ := List.getElem_of_mem hm
  have h9 := h j hj
  have e9 : so.getD j 0 = c := by simp [hj, e]
  rw [e9] at h9
  simp at h9
theorem has_yes (so : List UInt8) (c : UInt8) (j : Nat) (hj : j < so.length) (h : (c == so.getD j 0) = true) : so.contains c = true := by
  have e : c = so.getD j 0 := by simpa using h
  rw [List.contains_eq_mem, decide_eq_true_iff, e]
  have e9 : so.getD j 0 = so[j] := by simp [hj]
  rw [e9]
  exact List.getElem_mem hj
end Go.Proofs.YtfbfigjjnpamiaaGreatDoor.L
