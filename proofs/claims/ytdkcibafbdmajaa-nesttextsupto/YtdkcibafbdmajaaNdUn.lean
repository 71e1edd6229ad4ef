/- What is proved here: the lists of names that the document of layer 16 reads; unblocked. -/
import Derived.Test.YtdkcibafbdmajaaNdIs
namespace Go.Proofs.Ytdkcibafbdmajaa.E
open Go.RowKit Go.Shelf Go.WideMaps Go.Maps Go.Proofs.Ytdkcibafbdmajaa.N Go.Proofs.Ytdkcibafbdmajaa.C

def tP : ByteArray := ⟨#[112]⟩
def tWalls : ByteArray := ⟨#[116, 100, 32, 116, 104, 32, 99, 97, 112, 116, 105, 111, 110, 32, 116, 97, 98, 108, 101]⟩
def tGroups : ByteArray := ⟨#[116, 104, 101, 97, 100, 32, 116, 98, 111, 100, 121, 32, 116, 102, 111, 111, 116]⟩
def tLists : ByteArray := ⟨#[117, 108, 32, 111, 108, 32, 109, 101, 110, 117]⟩
theorem isT_of {T : ByteArray} {L : List Txt} (h : fields T.data.toList = L) : isT T = fun x => decide (x ∈ L) := by funext x; unfold isT; rw [h]
theorem isT_p : isT tP = isB xP := by
  rw [isT_of (L := [xP]) (by decide +kernel)]
  funext x
  rw [Bool.eq_iff_iff]
  simp [isB]
theorem isT_walls : isT tWalls = wallB := by
  rw [isT_of (L := [xTd, xTh, xCaption, xTable]) (by decide +kernel)]
  funext x
  rw [Bool.eq_iff_iff]
  simp [wallB, cellB, or_assoc]
theorem isT_groups : isT tGroups = groupB := by
  rw [isT_of (L := [xThead, xTbody, xTfoot]) (by decide +kernel)]
  funext x
  rw [Bool.eq_iff_iff]
  simp [groupB]
theorem isT_lists : isT tLists = listB := by
  rw [isT_of (L := [xUl, xOl, xMenu]) (by decide +kernel)]
  funext x
  rw [Bool.eq_iff_iff]
  simp [listB]
/-- Closed with the topmost p above the topmost wall. -/
def unblockN (S : List Txt) (n : Nat) : Nat := closeK n (findK S (isB xP) wallB n)
set_option maxRecDepth 100000 in
/-- **unblocked.** -/
theorem unblocked_calls (S : List Txt) (a : Option Addr) (n c : Nat) (hn : n ≤ S.length) (hc : n ≤ c) (hs : S.length ≤ 1000000000) (w : World) (h : TextsAt w a S) :
    Calls Try.prog 62 #[.slice a n c] w fun e w' => e = .returned (.slice a (unblockN S n) c) ∧ Below w.heap.size w w' := by
  have HA := hid_of (dabove_calls S tP tWalls (by decide) (by decide) (fun x hx => by
    rw [isT_p] at hx
    rw [isT_walls]
    obtain rfl : x = xP := by simpa [isB] using hx
    decide) a n c hn hs w h)
  rw [isT_p, isT_walls] at HA
  have hlt := findK_lt S (isB xP) wallB n
  have HU : Hid (unblockN S n = closeK n (findK S (isB xP) wallB n)) := rfl
  cases a with
  | none =>
    have hn0 : n = 0 ∨ 0 < n := by omega
    rcases hn0 with rfl | h0
    · rw [show findK S (isB xP) wallB 0 = -1 from rfl] at HA
      have HU0 : Hid (unblockN S 0 = 0) := rfl
      clear HU hlt h
      go_enter Try.func62, Try.ntmps62
      go_wp2_with (go_at_call 44; refine HA.out.mono ?_; rintro e w1 ⟨rfl, hb1⟩)
      go_ret
      exact ⟨by rw [HU0.out]; rfl, hb1⟩
    · obtain ⟨b, off, e, _⟩ := h 0 (by omega)
      cases e
  | some ad =>
    generalize findK S (isB xP) wallB n = i at *
    by_cases h0 : 0 ≤ i
    · obtain ⟨q, rfl⟩ : ∃ q : Nat, i = (q : Int) := ⟨i.toNat, by omega⟩
      have HU1 : Hid (unblockN S n = q) := by rw [HU.out]; show closeK _ _ = _; unfold closeK; rw [if_pos h0]; simp
      have hg : decide ((q : Int) ≥ 0) = true := decide_eq_true (by omega)
      have hq0 : (0 : Int) ≤ (q : Int) := by omega
      have hqc : (q : Int) ≤ (c : Int) := by omega
      clear HU h hlt h0
      go_enter Try.func62, Try.ntmps62
      go_wp2_with (go_at_call 44; refine HA.out.mono ?_; rintro e w1 ⟨rfl, hb1⟩)
      go_ret
      exact ⟨by rw [HU1.out]; rfl, hb1⟩
    · have HU1 : Hid (unblockN S n = n) := by rw [HU.out]; show closeK _ _ = _; unfold closeK; rw [if_neg h0]
      have hg : decide (i ≥ 0) = false := decide_eq_false (by omega)
      clear HU h hlt h0
      go_enter Try.func62, Try.ntmps62
      go_wp2_with (go_at_call 44; refine HA.out.mono ?_; rintro e w1 ⟨rfl, hb1⟩)
      go_ret
      exact ⟨by rw [HU1.out]; rfl, hb1⟩
end Go.Proofs.Ytdkcibafbdmajaa.E
