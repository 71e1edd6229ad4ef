/- What is proved here: the contracts of strings.Join (of a value's words) and of the rule for ValueTokens, and that the document's examples ('lives') hold. -/
import Derived.Test.YtfbfigjjnpamiaaGreatDoorVTidy
import Derived.Test.YtfbfigjjnpamiaaGreatDoorVShelf
namespace Go.Proofs.YtfbfigjjnpamiaaGreatDoor.V
open Go.RowKit Go.Shelf Go.Proofs.YtfbfigjjnpamiaaGreatDoor.N Go.Proofs.YtfbfigjjnpamiaaGreatDoor.U Go.Proofs.YtfbfigjjnpamiaaGreatDoor.L

theorem svs_get (L : List (List UInt8)) (j : Nat) (x : ByteArray) (h : (L.map fun x => (⟨x.toArray⟩ : ByteArray))[j]? = some x) : (svs L)[j]? = some (.string x) := by
  simp [svs] at h ⊢
  obtain ⟨a, h1, rfl⟩ := h
  exact ⟨a, h1, rfl⟩
theorem map_back (L : List (List UInt8)) : (L.map fun x => (⟨x.toArray⟩ : ByteArray)).map (·.data.toList) = L := by
  rw [List.map_map]
  exact List.map_id' L
set_option maxRecDepth 100000 in
theorem join_calls (base : Nat) (v : Value) (L : List (List UInt8)) (w : World) (hO : OwnT base w v L) (hN : L.length ≤ 100000000000) (hlen : (joined L).length ≤ 140737488355328) :
    Calls Tryz.prog 64 #[v, .string ⟨#[32]⟩] w fun e w' => e = .returned (.string ⟨(joined L).toArray⟩) ∧ Below w.heap.size w w' := by
  by_cases h0 : L.length = 0
  · obtain rfl : L = [] := List.length_eq_zero_iff.1 h0
    obtain ⟨a, c, rfl⟩ := owns_slice hO
    refine (Any.strings_Join_none Tryz.lays156 Tryz.Builder_Extra_156 a c ⟨#[32]⟩ w).mono fun e w' ⟨he, hw⟩ => ⟨he, hw ▸ Below.refl _ _⟩
  · rcases hO.2 with ⟨rfl, e0⟩ | ⟨g, cap, cur, rfl, hb, hg, hcap, _⟩
    · omega
    · have e1 : (L.map fun x => (⟨x.toArray⟩ : ByteArray)).length = L.length := by simp
      have h := Any.strings_Join Tryz.lays156 Tryz.Builder_Extra_156 g 0 cap (L.map fun x => (⟨x.toArray⟩ : ByteArray)) ⟨#[32]⟩ w
        (fun j x hx => by
          have hj : j < L.length := by rw [← e1]; exact (List.getElem?_eq_some_iff.1 hx).1
          rw [Nat.zero_add, World.ownsRow.cellAt hO j (by omega)]
          exact svs_get L j x hx) (lt_of_block hg) (by rw [e1]; omega) (by rw [e1]; exact hcap) (by rw [map_back]; exact hlen)
      rw [e1, map_back] at h
      exact h
set_option maxRecDepth 100000 in
set_option maxHeartbeats 2000000 in
/-- **The rule for ValueTokens.** -/
theorem tokens_calls (ts : List Int) (hV : AllV ts) (wa sa : Option Addr) (wn wc sn sc : Nat) (rel : Bool) (w : World) (hl : (encs ts).length ≤ 90000000000) :
    Calls Tryz.prog 46 #[.agg #[.string ⟨(encs ts).toArray⟩, .slice wa wn wc, .slice sa sn sc, .bool rel]] w fun e W' => e = .returned (.tuple #[.string ⟨(collapse (encs ts)).toArray⟩, .bool true]) ∧ Below w.heap.size w W' := by
  obtain ⟨W1, hW1⟩ : ∃ W1, w.alloc (.cells #[.string ⟨(encs ts).toArray⟩, .slice wa wn wc, .slice sa sn sc, .bool rel] 61) = W1 := ⟨_, rfl⟩
  have HB1 : Hid (Below w.heap.size w W1) := by rw [← hW1]; exact (Below.refl _ w).alloc (Nat.le_refl _) _
  have HK1 : Blk W1 w.heap.size #[.string ⟨(encs ts).toArray⟩, .slice wa wn wc, .slice sa sn sc, .bool rel] 61 := by rw [← hW1]; exact Blk.new w _ _
  have x0 : W1.cell? ⟨w.heap.size, 0, none⟩ = some (.string ⟨(encs ts).toArray⟩) := HK1.cell 0
  have HW := hid_of (words_calls ts hV W1 (by omega))
  have hfc := fields_count (encs ts)
  have hco := collapse_length (encs ts)
  have HW1 := hid_of hW1
  clear hW1 HK1
  go_enter Tryz.func46, Tryz.ntmps46
  go_upto_region 1 with fail
  rw [HW1.out]
  go_wp2_with fail
  go_at_call 23
  refine HW.out.mono ?_
  rintro e w2 ⟨v, rfl, hO, hb2⟩
  go_wp2_with fail
  go_at_call 64
  refine (join_calls _ v _ w2 hO (by omega) (by unfold collapse at hco; omega)).mono ?_
  rintro e w3 ⟨rfl, hb3⟩
  go_wp2
  go_ret2
  exact ⟨rfl, (HB1.out.trans (hb2.mono HB1.out.size)).trans (hb3.mono (by have := HB1.out.size; have := hb2.size; omega))⟩
def liveT : List UInt8 := [32, 97, 9, 98, 32, 32, 97, 32]
theorem live_cl : clB liveT = liveT := (pl_ascii liveT (by decide)).cl
theorem live_one : clB [45, 49] = [45, 49] := (pl_ascii [45, 49] (by decide)).cl
set_option maxRecDepth 100000 in
set_option maxHeartbeats 2000000 in
/-- **The document's examples.** -/
theorem lives_calls (w : World) (hT : Tb w) : Calls Tryz.prog 8 #[] w fun e W' => e = .returned (.bool true) ∧ Below w.heap.size w W' := by
  have HC := hid_of (tidy_at 1 46 rfl ⟨#[]⟩ none none 0 0 0 0 false liveT w hT (by decide) ⟨#[97, 32, 98, 32, 97]⟩ true (enters_of Tryz.func46 (by kernel_rfl) rfl) (fun W _ => by
    have h := tokens_calls (clR liveT) (clR_valid liveT) none none 0 0 0 0 false W (by show (clB liveT).length ≤ _; rw [live_cl]; decide)
    rw [show encs (clR liveT) = liveT from live_cl] at h
    rw [live_cl]
    exact h))
  have HN : Hid (∀ W, Below w.heap.size w W → Calls Tryz.prog 11 #[.string ⟨#[45, 49]⟩] W fun e W' => e = .returned (.tuple #[.int .i64 0, .bool false]) ∧ Below W.heap.size W W') := fun W hb => by
    have h := Number_calls [45, 49] W (hT.below hb) (by decide)
    rw [live_one] at h
    exact h
  clear hT
  go_enter Tryz.func8, Tryz.ntmps8
  go_wp2_with fail
  go_at_call 20
  refine HC.out.mono ?_
  rintro e w1 ⟨rfl, hb1⟩
  go_wp2_with fail
  go_at_call 11
  refine (HN.out _ hb1).mono ?_
  rintro e w2 ⟨rfl, hb2⟩
  go_wp2
  go_ret
  exact ⟨rfl, hb1.trans (hb2.mono hb1.size)⟩
end Go.Proofs.YtfbfigjjnpamiaaGreatDoor.V
