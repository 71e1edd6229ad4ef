/- What is proved here: laws and contracts of RRMend, LkB, LkStrip, LkKind, LkSch, one behind the other (each says its own). -/
import Derived.Test.YtkbegfdbfmfedaaGreatDoorBun6
import Derived.Test.YtkbegfdbfmfedaaGreatDoorMathB
import Derived.Laws.IdiomStrings
import Derived.Maps.AppendAt
import Derived.Test.YtkbegfdbfmfedaaGreatDoorBun2
/- What is proved here: the document's Mend. -/
namespace Go.Proofs.YtkbegfdbfmfedaaGreatDoor.R
open Go.RowKit Go.Shelf Go.Proofs.YtkbegfdbfmfedaaGreatDoor.U

set_option maxRecDepth 100000 in
set_option maxHeartbeats 2000000 in
/-- **sieveref01.Mend of any text.** -/
theorem rmend_calls (bs : List UInt8) (w : World) (hl : bs.length ≤ 274877906944) :
    Calls Tryz.prog 21 #[.string ⟨bs.toArray⟩] w fun e W' => e = .returned (.string ⟨(encs (runesI bs)).toArray⟩) ∧ Below w.heap.size w W' := by
  have hcv := Lib.run_convert_string_bytes (P := Tryz.prog) w 9 45 5 ⟨bs.toArray⟩ Tryz.underlying9 Tryz.underlying45 Tryz.underlying5
  rw [byteArr_size] at hcv
  have hbw := bytesWorld_below w 5 ⟨bs.toArray⟩
  have RC : Hid (∀ cap, bs.length ≤ cap → Calls Tryz.prog 51 #[.slice (some ⟨w.heap.size, 0, none⟩) bs.length cap] (Lib.bytesWorld w 5 ⟨bs.toArray⟩) fun e W' => ∃ a cap, e = .returned (.slice a (runesI bs).length cap) ∧ W'.ownsRow (Lib.bytesWorld w 5 ⟨bs.toArray⟩).heap.size 21 1 (.slice a (runesI bs).length cap) (runesI bs).length ((runesI bs).map (Value.int .i32)) ∧ Below (Lib.bytesWorld w 5 ⟨bs.toArray⟩).heap.size (Lib.bytesWorld w 5 ⟨bs.toArray⟩) W') :=
    fun cap hcap => rrunes_calls _ bs (w.heap.size + 1) _ (by omega) (RowB.hasB0 rfl (bytesWorld_row w 5 bs) hcap _ (Nat.lt_succ_self _))
  have HBW : Hid (Below w.heap.size w (Lib.bytesWorld w 5 ⟨bs.toArray⟩)) := hbw
  have hrle : (runesI bs).length ≤ bs.length := by rw [runesI_length]; exact pcs_length bs
  clear hbw
  go_enter Tryz.func21, Tryz.ntmps21
  go_wp2_with (first
    | (go_at_call 51
       refine (RC.out _ (grownCap_ge _ _ _ _)).mono ?_
       rintro e w2 ⟨al, cl, rfl, hown2, hb2⟩
       have hI : HasI .i32 w2 _ (runesI bs) := hasI_owns (e := 21) hown2)
    | (go_at_call 50
       refine (text_calls _ _ _ (by omega) hI).mono ?_
       rintro e w3 ⟨rfl, hb3⟩))
  go_ret
  exact ⟨rfl, (HBW.out.trans (hb2.mono HBW.out.size)).trans (hb3.mono (by have := HBW.out.size; have := hb2.size; omega))⟩
end Go.Proofs.YtkbegfdbfmfedaaGreatDoor.R

/- What is proved here: texts as lists of bytes: a byte of one, parts of one, and one byte more behind bytes of one's own. -/
namespace Go.Proofs.YtkbegfdbfmfedaaGreatDoor.L
open Go.RowKit Go.Shelf Go.Proofs.YtkbegfdbfmfedaaGreatDoor.N Go.Proofs.YtkbegfdbfmfedaaGreatDoor.U

theorem hid_of {p : Prop} (h : p) : Hid p := h
theorem arr_size (l : List UInt8) : (⟨l.toArray⟩ : ByteArray).size = l.length := by simp [ByteArray.size]
theorem arr_list (l : List UInt8) : (⟨l.toArray⟩ : ByteArray).data.toList = l := by simp
theorem byte_at (l : List UInt8) (k : Nat) (c : UInt8) (hk : k < l.length) (hc : l.getD k 0 = c) (i : Int) (hi : i = k) (w : World) : (Instr.index 9 (.string ⟨l.toArray⟩) (.int .i64 i)).run Tryz.prog w = .ok (.int .u8 c.toNat) w :=
  run_byte w _ _ _ i k c Tryz.underlying9 hi (by rw [arr_size]; exact hk) (by rw [arr_list]; exact hc)
theorem slice_h (bs : List UInt8) (k : Nat) (hk : k ≤ bs.length) (K : Int) (hK : K = k) (w : World) : (Instr.slice 9 (.string ⟨bs.toArray⟩) none (some (.int .i64 K)) none).run Tryz.prog w = .ok (.string ⟨(bs.take k).toArray⟩) w := by
  subst hK
  rw [run_slice_string_h w 9 ⟨bs.toArray⟩ Tryz.underlying9 .i64 k (by omega) (by rw [arr_size]; omega)]
  congr 2
  apply ByteArray.ext
  simp
theorem slice_l (bs : List UInt8) (k : Nat) (hk : k ≤ bs.length) (K : Int) (hK : K = k) (w : World) : (Instr.slice 9 (.string ⟨bs.toArray⟩) (some (.int .i64 K)) none none).run Tryz.prog w = .ok (.string ⟨(bs.drop k).toArray⟩) w := by
  subst hK
  have hsz := arr_size bs
  rw [run_slice_string_l w 9 ⟨bs.toArray⟩ Tryz.underlying9 .i64 k (by omega) (by rw [hsz]; omega)]
  congr 2
  apply ByteArray.ext
  simp
  rw [hsz]
  exact List.take_of_length_le (by simp)
theorem run_slice_lhS {P : Program} (w : World) (t : TypeId) (s : ByteArray) (ht : P.underlying t = some .string) (l h : Int) (h0 : 0 ≤ l) (h1 : l ≤ h) (h2 : h ≤ s.size) :
    (Instr.slice t (.string s) (some (.int .i64 l)) (some (.int .i64 h)) none).run P w = .ok (.string (s.extract l.toNat h.toNat)) w := by
  have eh : (h.toNat : Int) = h := Int.toNat_of_nonneg (by omega)
  simp [Instr.slice, run_underlying ht, Instr.sliceBounds, run_sliceBound, *, (by omega : 0 ≤ h)]
theorem slice_lh (bs : List UInt8) (j k : Nat) (hj : j ≤ k) (hk : k ≤ bs.length) (J K : Int) (hJ : J = j) (hK : K = k) (w : World) : (Instr.slice 9 (.string ⟨bs.toArray⟩) (some (.int .i64 J)) (some (.int .i64 K)) none).run Tryz.prog w = .ok (.string ⟨((bs.take k).drop j).toArray⟩) w := by
  subst hJ hK
  have hsz := arr_size bs
  rw [run_slice_lhS w 9 ⟨bs.toArray⟩ Tryz.underlying9 j k (by omega) (by omega) (by rw [hsz]; omega)]
  congr 2
  apply ByteArray.ext
  simp [List.drop_take]
theorem infoB : (Tryz.prog.info? 5).map (fun i => (i.zero, i.size, i.bytes)) = some (some (.int .u8 0), 1, 1) := by kernel_rfl
theorem bvs_snoc (l : List UInt8) (c : UInt8) : bvs (l ++ [c]) = bvs l ++ [.int .u8 c.toNat] := by simp [bvs]
theorem bvs_len (l : List UInt8) : (bvs l).length = l.length := by simp [bvs]
theorem cell_made (w : World) (c : Value) (e : TypeId) : (w.alloc (.cells #[c] e)).cell? ⟨w.heap.size, 0, none⟩ = some c := by
  rw [cell_of_row _ _ _ _ _ _ (World.alloc_heap_new w _)]; rfl
/-- One byte more, behind bytes of one's own. -/
theorem append_byte {w : World} {ops : Array Oper} {rest : List Oper} {o : Oper} {a : Act} {Q : Exit → Act → World → Prop} (hgd : o.guard = none) (s x : Operand)
    (ho : o.op = .call { callee := .builtin .append, args := #[s, x], argTypes := #[45, 45] }) (base : Nat) (v : Value) (l : List UInt8) (hs : a.eval s = v) (hown : w.ownsRow base 5 1 v l.length (bvs l))
    (B : Nat) (ch : UInt8) (hx : a.eval x = .slice (some ⟨B, 0, none⟩) 1 1) (hc : w.cell? ⟨B, 0, none⟩ = some (.int .u8 ch.toNat)) (hl : l.length ≤ 100000000000000) (hbase : base ≤ w.heap.size)
    (h : ∀ v' w', w'.ownsRow base 5 1 v' (l ++ [ch]).length (bvs (l ++ [ch])) → w.grownBy w' v.ownBlock → wpList Tryz.prog ops Q rest (a.put o.dst v') w') : wpList Tryz.prog ops Q (o :: rest) a w := by
  obtain ⟨i0, hi, hz0, hz1, hz2⟩ := info_parts infoB
  refine wpList_append_own w hgd s x _ ho base _ i0 (.int .u8 0) 1 1 Tryz.underlying45 hi hz0 hz1 hz2 rfl (by decide) v _ _ hs hown ⟨B, 0, none⟩ 1 1 [.int .u8 ch.toNat] hx rfl ?_ (by simp [Value.oneCell']) (by unfold maxLen; omega) (by omega) hbase ?_
  · intro j u hj
    match j, hj with
    | 0, hj => simp at hj; subst hj; simpa [Addr.add] using hc
    | (j + 1), hj => simp at hj
  · intro v' w' h1 h2 _
    rw [← bvs_snoc] at h1
    exact h v' w' (by simpa using h1) h2
end Go.Proofs.YtkbegfdbfmfedaaGreatDoor.L

/- What is proved here: the document's Strip, inner, colon, Scheme, slash and Kind of layer 12. -/
namespace Go.Proofs.YtkbegfdbfmfedaaGreatDoor.L
open Go.RowKit Go.Shelf Go.Proofs.YtkbegfdbfmfedaaGreatDoor.N Go.Proofs.YtkbegfdbfmfedaaGreatDoor.U

def strN : Value → Nat
  | .string s => s.size
  | _ => 0
/-- A text, mended. -/
def mendL (bs : List UInt8) : List UInt8 := encs (runesI bs)
theorem mend_le (bs : List UInt8) : (mendL bs).length ≤ 4 * bs.length := by
  have h1 := encs_length (runesI bs)
  have h2 : (runesI bs).length ≤ bs.length := by rw [runesI_length]; exact pcs_length bs
  unfold mendL
  omega
theorem filter_snoc (l : List UInt8) (p : UInt8 → Bool) (k : Nat) (h : k < l.length) : (l.take (k + 1)).filter p = if p (l.getD k 0) then (l.take k).filter p ++ [l.getD k 0] else (l.take k).filter p := by
  have e : l.getD k 0 = l[k] := by simp [h]
  rw [List.take_succ_eq_append_getElem h, List.filter_append, e]
  cases hp : p l[k] <;> simp [hp]
theorem filter_len (l : List UInt8) (p : UInt8 → Bool) (k : Nat) : ((l.take k).filter p).length ≤ l.length := by
  have h1 := List.length_filter_le p (l.take k)
  have h2 : (l.take k).length ≤ l.length := by simp; omega
  omega
theorem gap_no {c : UInt8} (h : gapC c = false) (z : UInt8) (hz : z = 9 ∨ z = 10 ∨ z = 13) : ((c.toNat : Int) != (z.toNat : Int)) = true := by
  unfold gapC at h
  simp at h
  rw [bne_iff_ne]
  intro e
  have e' : c = z := UInt8.toNat_inj.1 (by omega)
  rcases hz with rfl | rfl | rfl <;> simp_all
end Go.Proofs.YtkbegfdbfmfedaaGreatDoor.L

/- What is proved here: the document's inner, colon, Scheme, slash, Kind and Check of layer 12. -/
namespace Go.Proofs.YtkbegfdbfmfedaaGreatDoor.L
open Go.RowKit Go.Shelf Go.Proofs.YtkbegfdbfmfedaaGreatDoor.N Go.Proofs.YtkbegfdbfmfedaaGreatDoor.U

theorem eq_byte (c z : UInt8) : ((c.toNat : Int) == (z.toNat : Int)) = (c == z) := by
  by_cases h : c = z
  · subst h; simp
  · have : c.toNat ≠ z.toNat := fun e => h (UInt8.toNat_inj.1 e)
    rw [beq_eq_false_iff_ne.2 h, beq_eq_false_iff_ne]
    omega
/-- Where the : stands, as the document tells it. -/
def colonZ (l : List UInt8) : Int := match colonL l with | some n => n | none => -1
end Go.Proofs.YtkbegfdbfmfedaaGreatDoor.L

/- What is proved here: the document's Scheme, Kind and Check of layer 12. -/
namespace Go.Proofs.YtkbegfdbfmfedaaGreatDoor.L
open Go.RowKit Go.Shelf Go.Proofs.YtkbegfdbfmfedaaGreatDoor.N Go.Proofs.YtkbegfdbfmfedaaGreatDoor.U

theorem strip_le (l : List UInt8) : (stripM l).length ≤ l.length := by
  unfold stripM
  have h1 := List.length_filter_le (fun c => !gapC c) ((l.dropWhile lowC).reverse.dropWhile lowC).reverse
  have h2 := (List.dropWhile_sublist lowC (l := (l.dropWhile lowC).reverse)).length_le
  have h3 := (List.dropWhile_sublist lowC (l := l)).length_le
  simp only [List.length_reverse] at h1 h2
  omega
/-- A link, stripped. -/
def stripL (bs : List UInt8) : List UInt8 := stripM (mendL bs)
theorem stripL_le (bs : List UInt8) : (stripL bs).length ≤ 4 * bs.length := by
  have h1 := strip_le (mendL bs)
  have h2 := mend_le bs
  unfold stripL
  omega
/-- What Scheme tells of a stripped text. -/
def schemeV (l : List UInt8) : Value := match colonL l with | some n => .tuple #[.string ⟨(lower (l.take n)).toArray⟩, .bool true] | none => .tuple #[.string ⟨#[]⟩, .bool false]
end Go.Proofs.YtkbegfdbfmfedaaGreatDoor.L
