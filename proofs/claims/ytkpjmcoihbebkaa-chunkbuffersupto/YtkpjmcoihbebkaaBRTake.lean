/- What is proved here: the document's buffer: Take, with the path of its reads. -/
import Derived.Test.YtkpjmcoihbebkaaBRPeek
namespace Go.Proofs.Ytkpjmcoihbebkaa.CInv
open Go.RowKit C

/-- How a Take ends. -/
def RTEnd (need : Nat) (v : Value) (base top rg rb size : Nat) (l : Scr) (H : List UInt8) (i p t taken : Nat) (hv : Value) (w : World) (e : Ending) (W : World) : Prop :=
  ∃ d hv' s E, e = .returned (.tuple #[d, .int .i64 E]) ∧ W.ownsRow w.heap.size 5 1 d (s.1.take need).length (bvs (s.1.take need)) ∧ RB v base top rg rb size l (s.1.drop need) s.2.1 s.2.2.1 s.2.2.2.1 (taken + (s.1.take need).length) hv' W ∧ Inv l s.2.1 s.2.2.1 s.2.2.2.1 ∧ s.1.length ≤ size ∧ KB rg rb hv w W ∧ Moved w hv hv' ∧ Path (okP need) size l (H, i, p, t, 0) s ∧ Fin (okP need) size l s E
set_option maxRecDepth 100000 in
set_option maxHeartbeats 4000000 in
/-- **The document's Take.** -/
theorem rTake_calls (v : Value) (base top rg rb size need : Nat) (l : Scr) (H : List UInt8) (i p t taken : Nat) (hv : Value) (w : World) (h : RB v base top rg rb size l H i p t taken hv w) (hI : Inv l i p t) (hsz : H.length ≤ size) (hneed : need ≤ size) (hsize : size ≤ 16777216) (hbd : (bytesOf l).1.length ≤ 16777216) (hll : l.length ≤ 16777216) (hd : ∀ x ∈ l, x.1.length ≤ 100000000000000) (hgb : rg < rb) (htb : top ≤ rb) (ht : taken ≤ 100000000) :
    Calls Try.prog 23 #[.pointer (some ⟨rb, 0, none⟩), .int .i64 need] w (RTEnd need v base top rg rb size l H i p t taken hv w) := by
  have PC : Hid (Calls Try.prog 22 #[.pointer (some ⟨rb, 0, none⟩), .int .i64 need] w (RPEnd need v base top rg rb size l H i p t taken hv w)) := rpeek_calls v base top rg rb size need l H i p t taken hv w h hI hsz hneed hsize hbd hll hd hgb htb
  have hrl := h.lt
  clear h hI
  go_enter Try.func23, Try.ntmps23
  go_wp2_with fail
  (go_at_call 22; refine PC.out.mono ?_; rintro e w1 ⟨d, hv1, s, E, bd, rfl, ho, hbd1, hbd2, r1, r2, r3, r4, r5, r6, r7⟩)
  obtain ⟨da, dc, rfl⟩ := C.owns_slice ho
  obtain ⟨k, hk⟩ : ∃ k, (s.1.take need).length = k := ⟨_, rfl⟩
  have hkl : k ≤ s.1.length := by rw [← hk]; simp; omega
  have HDK : Hid (s.1.drop k = s.1.drop need) := by
    show _ = _
    rw [← hk, List.length_take]
    by_cases hle : need ≤ s.1.length
    · rw [Nat.min_eq_left hle]
    · rw [Nat.min_eq_right (by omega), List.drop_length, List.drop_eq_nil_of_le (by omega)]
  have TC : Hid (Calls Try.prog 34 #[.pointer (some ⟨rb, 0, none⟩), .int .i64 k] w1 (RTk k v base top rg rb size l s.1 s.2.1 s.2.2.1 s.2.2.2.1 taken hv1 w1)) := rtake_calls v base top rg rb size k l s.1 _ _ _ taken hv1 w1 r1 hkl (by omega) ht hgb htb
  have HO : Hid (w1.ownsRow bd 5 1 (.slice da k dc) (s.1.take need).length (bvs (s.1.take need))) := by rw [← hk]; exact ho
  have HK : Hid ((s.1.take need).length = k) := hk
  have HR : Hid (Inv l s.2.1 s.2.2.1 s.2.2.2.1 ∧ s.1.length ≤ size ∧ KB rg rb hv w w1 ∧ Moved w hv hv1 ∧ Path (okP need) size l (H, i, p, t, 0) s ∧ Fin (okP need) size l s E) := ⟨r2, r3, r4, r5, r6, r7⟩
  have HB2 : Hid (∀ k, Value.ownBlock hv1 = some k → k < bd) := hbd2
  have hw1 := r4.size
  rw [hk]
  clear ho hk r1 r2 r3 r4 r5 r6 r7 hbd2
  go_wp2_with fail
  (go_at_call 34; refine TC.out.mono ?_; rintro e w2 ⟨d2, hv2, rfl, ho2, q1, q2, q3⟩)
  have HO3 : Hid (w2.ownsRow w.heap.size 5 1 (.slice da k dc) (s.1.take need).length (bvs (s.1.take need))) := by
    have h9 := q2.owns HO.out (fun j hj hx => by
      have h1 := (HO.out.lt j hj).1
      rcases hx with e | e | e
      · omega
      · omega
      · have := HB2.out j e.symm; omega)
    exact ⟨h9.1, h9.2.imp id (fun ⟨g, cap, cur, e1, e2, e3⟩ => ⟨g, cap, cur, e1, by omega, e3⟩)⟩
  have HQ : Hid (RB v base top rg rb size l (s.1.drop need) s.2.1 s.2.2.1 s.2.2.2.1 (taken + (s.1.take need).length) hv2 w2 ∧ KB rg rb hv w w2 ∧ Moved w hv hv2) := ⟨by rw [← HDK.out, HK.out]; exact q1, HR.out.2.2.1.trans HR.out.2.2.2.1 q2, HR.out.2.2.2.1.trans HR.out.2.2.1.size q3⟩
  clear ho2 q1 q2 q3
  go_wp2_with fail
  go_ret2
  exact ⟨.slice da k dc, hv2, s, E, rfl, HO3.out, HQ.out.1, HR.out.1, HR.out.2.1, HQ.out.2.1, HQ.out.2.2, HR.out.2.2.2.2.1, HR.out.2.2.2.2.2⟩
end Go.Proofs.Ytkpjmcoihbebkaa.CInv
