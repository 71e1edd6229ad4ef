/- What is proved here: Apply of layer 16, of the program and of the document. -/
import Derived.Test.YtdkcibafbdmajaaBun4
namespace Go.Proofs.Ytdkcibafbdmajaa.E
open Go.RowKit Go.Shelf Go.WideMaps Go.Maps Go.Proofs.Ytdkcibafbdmajaa.N Go.Proofs.Ytdkcibafbdmajaa.C

/-- The stack behind a plan. -/
def applyL (S : List Txt) (z : Int) (L : List Txt) : List Txt := S.take (S.length - z.toNat) ++ L
theorem txts_take {w : World} {a : Option Addr} {S : List Txt} {c : Nat} (h : Txts w a S c) (k : Nat) (hk : k ≤ S.length) (_ : a ≠ none ∨ k = S.length) : Txts w a (S.take k) c := ⟨fun j hj => by
  have hj' : j < k := by rw [List.length_take] at hj; omega
  obtain ⟨b, off, e, hc⟩ := h.txt j (by omega)
  refine ⟨b, off, e, ?_⟩
  rw [hc]
  simp [List.getD, hj'], by rw [List.length_take]; have := h.cap; omega, h.nil⟩
set_option maxRecDepth 100000 in
set_option maxHeartbeats 4000000 in
/-- **Apply**, where the plan closes too much or too little. -/
theorem Apply_bad (S L : List Txt) (z : Int) (d : Bool) (a la : Option Addr) (c lc : Nat) (w : World) (hz : z < 0 ∨ (S.length : Int) < z) :
    Calls Try.prog 52 #[.slice a S.length c, .agg #[.int .i64 z, .slice la L.length lc, .bool d]] w fun e w' => e = .returned (.tuple #[.slice none 0 0, .int .i64 1]) ∧ Below w.heap.size w w' := by
  obtain ⟨W1, hW1⟩ : ∃ W, w.alloc (.cells #[.int .i64 z, .slice la L.length lc, .bool d] 27) = W := ⟨_, rfl⟩
  have b1 : Below w.heap.size w W1 := by rw [← hW1]; exact (Below.refl _ w).alloc (Nat.le_refl _) _
  have q1 : Blk W1 w.heap.size #[.int .i64 z, .slice la L.length lc, .bool d] 27 := by rw [← hW1]; exact Blk.new _ _ _
  have HW : Hid (w.alloc (.cells #[.int .i64 z, .slice la L.length lc, .bool d] 27) = W1) := hW1
  have c0 : W1.cell? ⟨w.heap.size, 0, none⟩ = some (.int .i64 z) := q1.cell 0
  have c1 : W1.cell? ⟨w.heap.size, 1, none⟩ = some (.slice la L.length lc) := q1.cell 1
  have HB1 := hid_of b1
  clear b1 q1 hW1
  by_cases hz0 : z < 0
  · have hd : decide (z < 0) = true := decide_eq_true hz0
    clear hz0 hz
    go_enter Try.func52, Try.ntmps52
    go_upto_region 1 with fail
    rw [HW.out]
    clear HW
    go_wp2
    go_ret2
    exact ⟨rfl, HB1.out⟩
  · have hd : decide (z < 0) = false := decide_eq_false hz0
    have hd2 : decide (z > (S.length : Int)) = true := decide_eq_true (by omega)
    clear hz0 hz
    go_enter Try.func52, Try.ntmps52
    go_upto_region 1 with fail
    rw [HW.out]
    clear HW
    go_wp2
    go_ret2
    exact ⟨rfl, HB1.out⟩
set_option maxRecDepth 100000 in
set_option maxHeartbeats 4000000 in
/-- **Apply.** -/
theorem Apply_calls (S L : List Txt) (z : Int) (d : Bool) (ad : Addr) (la : Option Addr) (c lc : Nat) (w : World) (hT : Txts w (some ad) S c) (hQ : Txts w la L lc) (hS : S.length ≤ 10000000) (hL : L.length ≤ 10000000) (hz0 : 0 ≤ z) (hz1 : z ≤ S.length) :
    Calls Try.prog 52 #[.slice (some ad) S.length c, .agg #[.int .i64 z, .slice la L.length lc, .bool d]] w fun e w' =>
      ∃ v cv, e = .returned (.tuple #[.slice v (applyL S z L).length cv, .int .i64 0]) ∧ OwnT w.heap.size w' (.slice v (applyL S z L).length cv) (applyL S z L) ∧ Below w.heap.size w w' := by
  obtain ⟨W1, hW1⟩ : ∃ W, w.alloc (.cells #[.int .i64 z, .slice la L.length lc, .bool d] 27) = W := ⟨_, rfl⟩
  have b1 : Below w.heap.size w W1 := by rw [← hW1]; exact (Below.refl _ w).alloc (Nat.le_refl _) _
  have q1 : Blk W1 w.heap.size #[.int .i64 z, .slice la L.length lc, .bool d] 27 := by rw [← hW1]; exact Blk.new _ _ _
  have HW : Hid (w.alloc (.cells #[.int .i64 z, .slice la L.length lc, .bool d] 27) = W1) := hW1
  have c0 : W1.cell? ⟨w.heap.size, 0, none⟩ = some (.int .i64 z) := q1.cell 0
  have c1 : W1.cell? ⟨w.heap.size, 1, none⟩ = some (.slice la L.length lc) := q1.cell 1
  have HB1 := hid_of b1
  have HQ1 := hid_of q1
  have HT1 := hid_of (hT.below b1)
  have HL1 := hid_of (hQ.below b1)
  clear hT hQ b1 q1 hW1
  have hd : decide (z < 0) = false := decide_eq_false (by omega)
  have hd2 : decide (z > (S.length : Int)) = false := decide_eq_false (by omega)
  obtain ⟨q, hq⟩ : ∃ q : Nat, (S.length : Int) - z = (q : Int) := ⟨((S.length : Int) - z).toNat, by omega⟩
  have hqs : q ≤ S.length := by omega
  have HAP : Hid (applyL S z L = S.take q ++ L) := by show _ = _; unfold applyL; congr 2; omega
  have hw : IntKind.i64.wrap ((S.length : Int) - z) = (q : Int) := by rw [IntKind.wrap_i64]; omega
  have hqi : (q : Int) ≤ (c : Int) := by have := HT1.out.cap; omega
  have hqc : q ≤ c := by have := HT1.out.cap; omega
  have hq0 : (0 : Int) ≤ (q : Int) := by omega
  have hln : (S.take q).length = q := by rw [List.length_take]; omega
  have HLN := hid_of hln
  have HTK : Hid (Txts W1 (some ad) (S.take q) c) := txts_take HT1.out q hqs (.inl (by simp))
  rw [HAP.out]
  clear hz0 hz1 hq hln
  have HO0 : Hid (OwnT w.heap.size W1 (.slice none 0 0) []) := World.ownsRow_nil _ _ _ _
  go_enter Try.func52, Try.ntmps52
  go_upto_region 1 with fail
  rw [HW.out]
  clear HW
  go_upto_region 5 with (at_builtin; refine append_texts rfl _ _ rfl w.heap.size _ [] rfl HO0.out (some ad) c (S.take q) (by rw [HLN.out]; rfl) HTK.out (by simp; omega) HB1.out.size ?_; intro v' w4 hown' hgrow; rw [List.nil_append] at hown'; obtain ⟨a2, c2, rfl⟩ := owns_slice hown'; have HO4 : Hid (OwnT w.heap.size w4 (.slice a2 q c2) (S.take q)) := (by have h := hown'; rwa [HLN.out] at h); have HB4 : Hid (Below w.heap.size w w4) := HB1.out.grown hgrow HB1.out.size (fun j hj => (HO0.out.lt j hj).1); have q4 : Blk w4 w.heap.size #[.int .i64 z, .slice la L.length lc, .bool d] 27 := HQ1.out.grown hgrow (by rintro ⟨⟩); have d1 : w4.cell? ⟨w.heap.size, 1, none⟩ = some (.slice la L.length lc) := q4.cell 1; have HL4 : Hid (Txts w4 la L lc) := HL1.out.below ⟨hgrow.os, hgrow.tape, hgrow.output, hgrow.size, fun j hj => hgrow.block j hj (by rintro ⟨⟩)⟩; clear q4 hown' hgrow)
  go_wp2_with (at_builtin; refine append_texts rfl _ _ rfl w.heap.size _ (S.take q) rfl HO4.out la lc L rfl HL4.out (by rw [HLN.out]; omega) HB4.out.size ?_; intro v' w5 hown5 hgrow5; obtain ⟨a3, c3, rfl⟩ := owns_slice hown5)
  go_ret2
  exact ⟨a3, c3, (by rw [List.length_append, HLN.out]; rfl), hown5, HB4.out.grown hgrow5 HB4.out.size (fun j hj => (HO4.out.lt j hj).1)⟩
end Go.Proofs.Ytdkcibafbdmajaa.E
