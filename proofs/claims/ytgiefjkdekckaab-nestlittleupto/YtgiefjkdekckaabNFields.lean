/- What is proved here: the contract of names.Fields: the fields of any text, in a row of their own. -/
import Derived.Test.YtgiefjkdekckaabCBase
import Derived.Test.YtgiefjkdekckaabNForms
namespace Go.Proofs.Ytgiefjkdekckaab.N
open Go.RowKit C

/-- A part of a text. -/
def part (l : List UInt8) (a b : Nat) : List UInt8 := (l.drop a).take (b - a)
theorem part_none (l : List UInt8) (a : Nat) : part l a a = [] := by simp [part]
theorem part_length (l : List UInt8) (a b : Nat) (h : b ≤ l.length) : (part l a b).length = b - a := by simp [part]; omega
theorem part_succ (l : List UInt8) (a k : Nat) (h : a ≤ k) (hk : k < l.length) : part l a (k + 1) = part l a k ++ [l.getD k 0] := by
  unfold part
  have e : k + 1 - a = (k - a) + 1 := by omega
  have hd : k - a < (l.drop a).length := by simp; omega
  rw [e, List.take_succ_eq_append_getElem hd]
  congr 2
  simp [List.getD, hk]
  congr 1
  omega
theorem part_end (l : List UInt8) (a : Nat) : part l a l.length = l.drop a := by
  unfold part
  rw [List.take_of_length_le (by simp)]
theorem part_extract (s : ByteArray) (a b : Nat) : s.extract a b = ⟨(part s.data.toList a b).toArray⟩ := Lib.extract_eq s a b
theorem drop_step (l : List UInt8) (k : Nat) (h : k < l.length) : l.drop k = l.getD k 0 :: l.drop (k + 1) := by
  rw [List.drop_eq_getElem_cons h]
  simp [List.getD, h]
theorem ff_plain (l w : List UInt8) (k : Nat) (h : k < l.length) (hc : blankB (l.getD k 0) = false) : fieldsFrom (l.drop k) w = fieldsFrom (l.drop (k + 1)) (w ++ [l.getD k 0]) := by
  rw [drop_step l k h, ff_cons, if_neg (by rw [hc]; decide)]
theorem ff_blank (l w : List UInt8) (k : Nat) (h : k < l.length) (hc : blankB (l.getD k 0) = true) (hw : w ≠ []) : fieldsFrom (l.drop k) w = w :: fieldsFrom (l.drop (k + 1)) [] := by
  rw [drop_step l k h, ff_cons, if_pos hc, if_neg (by simpa using hw)]
theorem ff_blank0 (l : List UInt8) (k : Nat) (h : k < l.length) (hc : blankB (l.getD k 0) = true) : fieldsFrom (l.drop k) [] = fieldsFrom (l.drop (k + 1)) [] := by
  rw [drop_step l k h, ff_cons, if_pos hc]; rfl
theorem blank_eq (c : UInt8) : blankZ (wrap32 (c.toNat : Int)) = blankB c := by
  have hc := c.toNat_lt
  have hw : wrap32 (c.toNat : Int) = c.toNat := by unfold wrap32; omega
  have hu : ∀ n : Nat, n < 256 → ((c == UInt8.ofNat n) = true ↔ c.toNat = n) := fun n hn => by
    rw [beq_iff_eq]
    constructor
    · intro h; rw [h]; simp; omega
    · intro h; apply UInt8.toNat_inj.1; simp; omega
  rw [hw, Bool.eq_iff_iff]
  unfold blankZ blankB
  rw [show (9 : UInt8) = UInt8.ofNat 9 from rfl, show (10 : UInt8) = UInt8.ofNat 10 from rfl, show (12 : UInt8) = UInt8.ofNat 12 from rfl, show (32 : UInt8) = UInt8.ofNat 32 from rfl]
  simp only [Bool.or_eq_true, decide_eq_true_eq, hu 9 (by omega), hu 10 (by omega), hu 12 (by omega), hu 32 (by omega)]
  omega

/-- Texts as values. -/
def svs (L : List (List UInt8)) : List Value := L.map fun x => .string ⟨x.toArray⟩
theorem svs_append (a b : List (List UInt8)) : svs (a ++ b) = svs a ++ svs b := by simp [svs]
theorem svs_length (a : List (List UInt8)) : (svs a).length = a.length := by simp [svs]
theorem infoStr : (Try.prog.info? 9).map (fun i => (i.zero, i.size, i.bytes)) = some (some (.string ⟨#[]⟩), 1, 16) := by kernel_rfl
theorem info_parts {t : TypeId} {z : Value} {n b : Nat} (h : (Try.prog.info? t).map (fun i => (i.zero, i.size, i.bytes)) = some (some z, n, b)) : ∃ i, Try.prog.info? t = some i ∧ i.zero = some z ∧ i.size = n ∧ i.bytes = b := by
  cases e : Try.prog.info? t with
  | none => rw [e] at h; simp at h
  | some i => rw [e] at h; simp at h; exact ⟨i, rfl, h.1, h.2.1, h.2.2⟩
/-- A row of texts of one's own. -/
abbrev OwnT (base : Nat) (w : World) (v : Value) (L : List (List UInt8)) : Prop := w.ownsRow base 9 1 v L.length (svs L)
theorem cell_one (W : World) (a : Value) (t : TypeId) (n : Nat) (hn : n = W.heap.size) : ∀ j u, [a][j]? = some u → (W.alloc (.cells #[a] t)).cell? ((⟨n, 0, none⟩ : Addr).add j) = some u := by
  intro j u h
  subst hn
  rw [add_none, Nat.zero_add]
  have hb := World.alloc_heap_new W (.cells #[a] t)
  simp only [World.cell?, hb]
  simpa using h

end Go.Proofs.Ytgiefjkdekckaab.N
