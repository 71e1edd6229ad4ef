/- What is proved here: laws and contracts of NdUn, NdInner, one behind the other (each says its own). -/
import Derived.Test.YtdkcibafbdmajaaNdIs
import Derived.Test.YtdkcibafbdmajaaBun4
/- What is proved here: the lists of names that the document of layer 16 reads; unblocked. -/
namespace Go.Proofs.Ytdkcibafbdmajaa.E
open Go.RowKit Go.Shelf Go.WideMaps Go.Maps Go.Proofs.Ytdkcibafbdmajaa.N Go.Proofs.Ytdkcibafbdmajaa.C

def tP : ByteArray := ⟨#[112]⟩
def tWalls : ByteArray := ⟨#[116, 100, 32, 116, 104, 32, 99, 97, 112, 116, 105, 111, 110, 32, 116, 97, 98, 108, 101]⟩
def tGroups : ByteArray := ⟨#[116, 104, 101, 97, 100, 32, 116, 98, 111, 100, 121, 32, 116, 102, 111, 111, 116]⟩
def tLists : ByteArray := ⟨#[117, 108, 32, 111, 108, 32, 109, 101, 110, 117]⟩
theorem isT_of {T : ByteArray} {L : List Txt} (h : fields T.data.toList = L) : isT T = fun x => decide (x ∈ L) := by funext x; unfold isT; rw [h]
theorem isT_p : isT tP = isB xP := by
  rw [isT_of (L := [xP]) (by decide +kernel)]
  funext x
  rw [Bool.eq_iff_iff]
  simp [isB]
theorem isT_walls : isT tWalls = wallB := by
  rw [isT_of (L := [xTd, xTh, xCaption, xTable]) (by decide +kernel)]
  funext x
  rw [Bool.eq_iff_iff]
  simp [wallB, cellB, or_assoc]
theorem isT_groups : isT tGroups = groupB := by
  rw [isT_of (L := [xThead, xTbody, xTfoot]) (by decide +kernel)]
  funext x
  rw [Bool.eq_iff_iff]
  simp [groupB]
theorem isT_lists : isT tLists = listB := by
  rw [isT_of (L := [xUl, xOl, xMenu]) (by decide +kernel)]
  funext x
  rw [Bool.eq_iff_iff]
  simp [listB]
/-- Closed with the topmost p above the topmost wall. -/
def unblockN (S : List Txt) (n : Nat) : Nat := closeK n (findK S (isB xP) wallB n)
set_option maxRecDepth 100000 in
/-- **unblocked.** -/
theorem unblocked_calls (S : List Txt) (a : Option Addr) (n c : Nat) (hn : n ≤ S.length) (hc : n ≤ c) (hs : S.length ≤ 1000000000) (w : World) (h : TextsAt w a S) :
    Calls Try.prog 62 #[.slice a n c] w fun e w' => e = .returned (.slice a (unblockN S n) c) ∧ Below w.heap.size w w' := by
  have HA := hid_of (dabove_calls S tP tWalls (by decide) (by decide) (fun x hx => by
    rw [isT_p] at hx
    rw [isT_walls]
    obtain rfl : x = xP := by simpa [isB] using hx
    decide) a n c hn hs w h)
  rw [isT_p, isT_walls] at HA
  have hlt := findK_lt S (isB xP) wallB n
  have HU : Hid (unblockN S n = closeK n (findK S (isB xP) wallB n)) := rfl
  cases a with
  | none =>
    have hn0 : n = 0 ∨ 0 < n := by omega
    rcases hn0 with rfl | h0
    · rw [show findK S (isB xP) wallB 0 = -1 from rfl] at HA
      have HU0 : Hid (unblockN S 0 = 0) := rfl
      clear HU hlt h
      go_enter Try.func62, Try.ntmps62
      go_wp2_with (go_at_call 44; refine HA.out.mono ?_; rintro e w1 ⟨rfl, hb1⟩)
      go_ret
      exact ⟨by rw [HU0.out]; rfl, hb1⟩
    · obtain ⟨b, off, e, _⟩ := h 0 (by omega)
      cases e
  | some ad =>
    generalize findK S (isB xP) wallB n = i at *
    by_cases h0 : 0 ≤ i
    · obtain ⟨q, rfl⟩ : ∃ q : Nat, i = (q : Int) := ⟨i.toNat, by omega⟩
      have HU1 : Hid (unblockN S n = q) := by rw [HU.out]; show closeK _ _ = _; unfold closeK; rw [if_pos h0]; simp
      have hg : decide ((q : Int) ≥ 0) = true := decide_eq_true (by omega)
      have hq0 : (0 : Int) ≤ (q : Int) := by omega
      have hqc : (q : Int) ≤ (c : Int) := by omega
      clear HU h hlt h0
      go_enter Try.func62, Try.ntmps62
      go_wp2_with (go_at_call 44; refine HA.out.mono ?_; rintro e w1 ⟨rfl, hb1⟩)
      go_ret
      exact ⟨by rw [HU1.out]; rfl, hb1⟩
    · have HU1 : Hid (unblockN S n = n) := by rw [HU.out]; show closeK _ _ = _; unfold closeK; rw [if_neg h0]
      have hg : decide (i ≥ 0) = false := decide_eq_false (by omega)
      clear HU h hlt h0
      go_enter Try.func62, Try.ntmps62
      go_wp2_with (go_at_call 44; refine HA.out.mono ?_; rintro e w1 ⟨rfl, hb1⟩)
      go_ret
      exact ⟨by rw [HU1.out]; rfl, hb1⟩
end Go.Proofs.Ytdkcibafbdmajaa.E

/- What is proved here: inner of the document of layer 16. -/
namespace Go.Proofs.Ytdkcibafbdmajaa.E
open Go.RowKit Go.Shelf Go.WideMaps Go.Maps Go.Proofs.Ytdkcibafbdmajaa.N Go.Proofs.Ytdkcibafbdmajaa.C

/-- What is put in ahead of what is no part of the top. -/
def innI (t : Txt) : List Txt :=
  if t = xTable then [xTbody, xTr, xTd] else if groupB t then [xTr, xTd] else if t = xTr then [xTd] else if listB t then [xLi] else if t = xDl then [xDd] else []
def innerK (S : List Txt) : Nat → St
  | 0 => (0, [])
  | k + 1 => if S.getD k [] = xColgroup then innerK S k else (k + 1, innI (S.getD k []))
theorem inner_le (S : List Txt) : ∀ k, (innerK S k).1 ≤ k
  | 0 => Nat.le_refl _
  | k + 1 => by unfold innerK; split; exact Nat.le_succ_of_le (inner_le S k); exact Nat.le_refl _
/-- A row that a literal makes. -/
theorem own_lit' (W : World) (cs : Array Value) (L : List Txt) (n : Nat) (hn : L.length = n) (hc : cs.toList = svs L) (hl : n ≤ 100) : OwnT W.heap.size (W.alloc (.cells cs 9)) (.slice (some ⟨W.heap.size, 0, none⟩) n n) L := by
  subst hn
  have h1 : cs.toList.length = (svs L).length := congrArg _ hc
  rw [svs_len] at h1
  have h := World.ownsRow_lit (e := 9) (size := 1) W cs L.length (Nat.le_refl _) (by unfold maxLen; omega) (by simpa using h1)
  rw [hc] at h
  exact h
set_option maxRecDepth 100000 in
set_option maxHeartbeats 4000000 in
/-- **inner.** -/
theorem inner_calls (S : List Txt) (a : Option Addr) (c : Nat) (hs : S.length ≤ 1000000000) : ∀ (n : Nat) (w : World), n ≤ S.length → n ≤ c → TextsAt w a S →
    Calls Try.prog 42 #[.slice a n c] w fun e w' => ∃ v cv, e = .returned (.tuple #[.slice a (innerK S n).1 c, .slice v (innerK S n).2.length cv]) ∧ OwnT w.heap.size w' (.slice v (innerK S n).2.length cv) (innerK S n).2 ∧ Below w.heap.size w w' := by
  intro n
  induction n with
  | zero =>
    intro w _ _ _
    go_enter Try.func42, Try.ntmps42
    go_wp2
    go_ret2
    exact ⟨none, 0, rfl, World.ownsRow_nil _ _ _ _, Below.refl _ _⟩
  | succ k ih =>
    intro w hn hc h
    obtain ⟨b, off, rfl, hcx⟩ := h k (by omega)
    have HIH := hid_of (ih w (by omega) (by omega) h)
    have HK : Hid (innerK S (k + 1) = if S.getD k [] = xColgroup then innerK S k else (k + 1, innI (S.getD k []))) := rfl
    have hne : (((k + 1 : Nat) : Int) == 0) = false := by rw [beq_eq_false_iff_ne]; omega
    have hwk : IntKind.i64.wrap (((k + 1 : Nat) : Int) - 1) = (k : Int) := by rw [IntKind.wrap_i64]; omega
    have hk0 : (0 : Int) ≤ (k : Int) := by omega
    have hkl : (k : Int) < ((k + 1 : Nat) : Int) := by omega
    have hkc : (k : Int) ≤ (c : Int) := by omega
    have HG := hid_of (fun W => dis_calls (S.getD k []) tGroups (by decide) W)
    have HL := hid_of (fun W => dis_calls (S.getD k []) tLists (by decide) W)
    rw [isT_groups] at HG
    rw [isT_lists] at HL
    clear h ih
    generalize S.getD k [] = x at *
    generalize innerK S (k + 1) = r at *
    by_cases e1 : x = xColgroup
    · have HR : Hid (r = innerK S k) := by rw [HK.out]; show ite _ _ _ = _; rw [if_pos e1]
      rw [HR.out]
      have hcx1 : w.cell? ⟨b, off + k, none⟩ = some (.string ⟨#[99, 111, 108, 103, 114, 111, 117, 112]⟩) := by rw [hcx, e1]; rfl
      clear e1 HK hcx HG HL
      generalize innerK S k = z at *
      go_enter Try.func42, Try.ntmps42
      go_wp2_with fail
      (go_at_call 42; refine HIH.out.mono ?_; rintro e w1 ⟨v1, c1, rfl, ho1, hb1⟩)
      go_wp2
      go_ret2
      exact ⟨v1, c1, rfl, ho1, hb1⟩
    have g1 : (x == [99, 111, 108, 103, 114, 111, 117, 112]) = false := by rw [beq_eq_false_iff_ne]; exact e1
    have HR : Hid (r = (k + 1, innI x)) := by rw [HK.out]; show ite _ _ _ = _; rw [if_neg e1]
    rw [HR.out]
    clear HK HIH HR e1
    by_cases e2 : x = [116, 97, 98, 108, 101]
    · subst e2
      have HI : Hid (innI [116, 97, 98, 108, 101] = [[116, 98, 111, 100, 121], [116, 114], [116, 100]]) := by show _ = _; decide +kernel
      rw [HI.out]
      go_enter Try.func42, Try.ntmps42
      go_wp2_with fail
      go_ret2
      exact ⟨some ⟨w.heap.size, 0, none⟩, 3, rfl, own_low (own_lit' w _ [[116, 98, 111, 100, 121], [116, 114], [116, 100]] 3 rfl rfl (by decide)) (Nat.le_refl _), Below.alloc (Below.refl _ _) (Nat.le_refl _) _⟩
    have g2 : (x == [116, 97, 98, 108, 101]) = false := by rw [beq_eq_false_iff_ne]; exact e2
    cases e3 : groupB x
    rotate_left
    · have HI : Hid (innI x = [[116, 114], [116, 100]]) := by show innI x = _; unfold innI; rw [if_neg (show ¬ x = xTable from e2), if_pos e3]; rfl
      rw [HI.out]
      rw [e3] at HG
      clear e2 e3
      go_enter Try.func42, Try.ntmps42
      go_wp2_with fail
      (go_at_call 43; refine (HG.out _).mono ?_; rintro e w1 ⟨rfl, hb1⟩)
      go_wp2_with fail
      go_ret2
      exact ⟨some ⟨w1.heap.size, 0, none⟩, 2, rfl, own_low (own_lit' w1 _ [[116, 114], [116, 100]] 2 rfl rfl (by decide)) hb1.size, Below.alloc hb1 hb1.size _⟩
    rw [e3] at HG
    by_cases e4 : x = [116, 114]
    · subst e4
      have HI : Hid (innI [116, 114] = [[116, 100]]) := by show _ = _; decide +kernel
      rw [HI.out]
      go_enter Try.func42, Try.ntmps42
      go_wp2_with fail
      (go_at_call 43; refine (HG.out _).mono ?_; rintro e w1 ⟨rfl, hb1⟩)
      go_wp2_with fail
      go_ret2
      exact ⟨some ⟨w1.heap.size, 0, none⟩, 1, rfl, own_low (own_lit' w1 _ [[116, 100]] 1 rfl rfl (by decide)) hb1.size, Below.alloc hb1 hb1.size _⟩
    have g4 : (x == [116, 114]) = false := by rw [beq_eq_false_iff_ne]; exact e4
    cases e5 : listB x
    rotate_left
    · have HI : Hid (innI x = [[108, 105]]) := by show innI x = _; unfold innI; rw [if_neg (show ¬ x = xTable from e2), if_neg (by rw [e3]; decide), if_neg (show ¬ x = xTr from e4), if_pos e5]; rfl
      rw [HI.out]
      rw [e5] at HL
      clear e2 e3 e4 e5
      go_enter Try.func42, Try.ntmps42
      go_wp2_with fail
      (go_at_call 43; refine (HG.out _).mono ?_; rintro e w1 ⟨rfl, hb1⟩)
      go_wp2_with fail
      (go_at_call 43; refine (HL.out _).mono ?_; rintro e w2 ⟨rfl, hb2⟩)
      go_wp2_with fail
      go_ret2
      exact ⟨some ⟨w2.heap.size, 0, none⟩, 1, rfl, own_low (own_lit' w2 _ [[108, 105]] 1 rfl rfl (by decide)) (Nat.le_trans hb1.size hb2.size), Below.alloc (hb1.trans (hb2.mono hb1.size)) (Nat.le_trans hb1.size hb2.size) _⟩
    rw [e5] at HL
    by_cases e6 : x = [100, 108]
    · subst e6
      have HI : Hid (innI [100, 108] = [[100, 100]]) := by show _ = _; decide +kernel
      rw [HI.out]
      go_enter Try.func42, Try.ntmps42
      go_wp2_with fail
      (go_at_call 43; refine (HG.out _).mono ?_; rintro e w1 ⟨rfl, hb1⟩)
      go_wp2_with fail
      (go_at_call 43; refine (HL.out _).mono ?_; rintro e w2 ⟨rfl, hb2⟩)
      go_wp2_with fail
      go_ret2
      exact ⟨some ⟨w2.heap.size, 0, none⟩, 1, rfl, own_low (own_lit' w2 _ [[100, 100]] 1 rfl rfl (by decide)) (Nat.le_trans hb1.size hb2.size), Below.alloc (hb1.trans (hb2.mono hb1.size)) (Nat.le_trans hb1.size hb2.size) _⟩
    have g6 : (x == [100, 108]) = false := by rw [beq_eq_false_iff_ne]; exact e6
    have HI : Hid (innI x = []) := by show innI x = _; unfold innI; rw [if_neg (show ¬ x = xTable from e2), if_neg (by rw [e3]; decide), if_neg (show ¬ x = xTr from e4), if_neg (by rw [e5]; decide), if_neg (show ¬ x = xDl from e6)]
    rw [HI.out]
    clear e2 e3 e4 e5 e6
    go_enter Try.func42, Try.ntmps42
    go_wp2_with fail
    (go_at_call 43; refine (HG.out _).mono ?_; rintro e w1 ⟨rfl, hb1⟩)
    go_wp2_with fail
    (go_at_call 43; refine (HL.out _).mono ?_; rintro e w2 ⟨rfl, hb2⟩)
    go_wp2_with fail
    go_ret2
    exact ⟨none, 0, rfl, World.ownsRow_nil _ _ _ _, (hb1.trans (hb2.mono hb1.size))⟩
end Go.Proofs.Ytdkcibafbdmajaa.E
