/- What is proved here: the contract of Attr of token: an attribute's value. -/
import Derived.Test.YthbmlffhcppcaaaDoorTEqual
namespace Go.Proofs.YthbmlffhcppcaaaDoor.T
open Go.RowKit N

def attrV (l : AL) (n : ByteArray) : ByteArray × Bool := match l.find? fun a => decide (a.1 = n) with | some a => (a.2, true) | none => (⟨#[]⟩, false)
theorem find_at (l : AL) (n : ByteArray) : ∀ k, (hk : k < l.length) → (∀ j (h : j < l.length), j < k → l[j].1 ≠ n) → l[k].1 = n → (l.find? fun a => decide (a.1 = n)) = some l[k] := by
  induction l with
  | nil => intro k hk; simp at hk
  | cons a r ih =>
    intro k hk h he
    cases k with
    | zero => simp only [List.getElem_cons_zero] at he; rw [List.find?_cons_of_pos (by simpa using he)]; rfl
    | succ k =>
      have h0 := h 0 (by simp) (by omega)
      simp only [List.getElem_cons_zero] at h0
      rw [List.find?_cons_of_neg (by simpa using h0)]
      simp only [List.getElem_cons_succ] at he ⊢
      exact ih k (by simpa using hk) (fun j hj hjk => by have := h (j + 1) (by simp; omega) (by omega); simpa using this) he
theorem attrV_at (l : AL) (n : ByteArray) (k : Nat) (hk : k < l.length) (h : ∀ j (h : j < l.length), j < k → l[j].1 ≠ n) (he : l[k].1 = n) : attrV l n = (l[k].2, true) := by
  unfold attrV
  rw [find_at l n k hk h he]
theorem attrV_none (l : AL) (n : ByteArray) (h : ∀ j (h : j < l.length), l[j].1 ≠ n) : attrV l n = (⟨#[]⟩, false) := by
  unfold attrV
  rw [List.find?_eq_none.2 (fun a ha => by obtain ⟨j, hj, rfl⟩ := List.mem_iff_getElem.1 ha; simpa using h j hj)]

set_option maxRecDepth 100000 in
set_option maxHeartbeats 2000000 in
theorem attr_calls (t : Tok) (l : AL) (av : Value) (name : ByteArray) (w : World) (hH : HasA w av l) (hl : (l.length : Int) ≤ 1000000000000) :
    Calls Tryd.prog 14 #[t.val av, .string name] w fun e w' => e = .returned (.tuple #[.string (attrV l name).1, .bool (attrV l name).2]) ∧ Below w.heap.size w w' := by
  obtain ⟨la, lc, rfl⟩ := hH.slice
  obtain ⟨kind, tname, text, self, p0, p1, p2⟩ := t
  unfold Tok.val
  simp only
  obtain ⟨W0, hW0⟩ : ∃ W0, w.alloc (.cells #[.int .i64 kind, .string tname, .string text, .slice la l.length lc, .bool self, .int .i64 p0, .int .i64 p1, .int .i64 p2] 28) = W0 := ⟨_, rfl⟩
  have b0 : Below w.heap.size w W0 := by rw [← hW0]; exact (Below.refl _ w).alloc (Nat.le_refl _) _
  have t3 : W0.cell? ⟨w.heap.size, 3, none⟩ = some (.slice la l.length lc) := by rw [← hW0, C.cell_new]; rfl
  have HB0 : Hid (Below w.heap.size w W0) := b0
  have HS : Hid (HasA W0 (.slice la l.length lc) l) := hH.below b0
  clear b0 hH
  go_enter Tryd.func14, Tryd.ntmps14
  go_wp2
  go_loopw [7, 11] (fun _ i wr => ∃ k : Nat, k ≤ l.length ∧ i = .int .i64 k ∧ Hid (Below W0.heap.size W0 wr) ∧ Hid (∀ j (h : j < l.length), j < k → l[j].1 ≠ name)) (fun _ i _ => l.length - (intOf i).toNat)
  case atStart => exact ⟨0, by omega, rfl, Below.refl _ _, fun j _ hj => by omega⟩
  case round =>
    obtain ⟨k, hk, rfl, hB, hne⟩ := hrel
    have s1 := hB.out.size
    by_cases hlt : k < l.length
    · obtain ⟨b, off, rfl, d0, d1⟩ := (HS.out.below hB.out).at k hlt
      rcases hx : l[k] with ⟨n, x⟩
      rw [hx] at d0 d1
      simp only at d0 d1
      have HX : Hid (l[k] = (n, x)) := hx
      clear hx
      obtain ⟨W1, hW1⟩ : ∃ W1, wr.alloc (.cells #[.string n, .string x] 36) = W1 := ⟨_, rfl⟩
      have b1 : Below wr.heap.size wr W1 := by rw [← hW1]; exact (Below.refl _ wr).alloc (Nat.le_refl _) _
      have u0 : W1.cell? ⟨wr.heap.size, 0, none⟩ = some (.string n) := by rw [← hW1, C.cell_new]; rfl
      have u1 : W1.cell? ⟨wr.heap.size, 1, none⟩ = some (.string x) := by rw [← hW1, C.cell_new]; rfl
      have HB1 : Hid (Below W0.heap.size W0 W1) := hB.out.trans (b1.mono s1)
      clear b1
      by_cases hn : n = name
      · have q1 : (n.toList == name.toList) = true := by rw [beq_bytes]; simpa using hn
        have HV := attrV_at l name k hlt hne.out (by rw [HX.out]; exact hn)
        rw [HX.out] at HV
        have HV' : Hid (attrV l name = (x, true)) := HV
        clear HV hn
        go_wp2
        all_goals go_ret2
        all_goals exact ⟨by rw [HV'.out]; rfl, HB0.out.trans (HB1.out.mono HB0.out.size)⟩
      · have q1 : (n.toList == name.toList) = false := by rw [beq_bytes]; simpa using hn
        have HN : Hid (∀ j (h : j < l.length), j < k + 1 → l[j].1 ≠ name) := fun j h hj => by
          by_cases e : j = k
          · subst e; rw [HX.out]; exact hn
          · exact hne.out j h (by omega)
        clear hn
        go_wp2
        go_roundw
        case rel => exact ⟨k + 1, by omega, by go_num, HB1, HN⟩
        case measure => simp [intOf]; omega
    · obtain rfl : k = l.length := by omega
      have HV : Hid (attrV l name = (⟨#[]⟩, false)) := attrV_none l name (fun j h => hne.out j h h)
      go_wp2
      go_ret2
      exact ⟨by rw [HV.out]; rfl, HB0.out.trans (hB.out.mono HB0.out.size)⟩
end Go.Proofs.YthbmlffhcppcaaaDoor.T
