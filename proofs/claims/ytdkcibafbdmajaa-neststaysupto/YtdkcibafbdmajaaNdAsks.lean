/- What is proved here: asks of the document of layer 16. -/
import Derived.Test.YtdkcibafbdmajaaNdText
import Derived.Test.YtdkcibafbdmajaaNeRFacts
namespace Go.Proofs.Ytdkcibafbdmajaa.E
open Go.RowKit Go.Shelf Go.WideMaps Go.Maps Go.Proofs.Ytdkcibafbdmajaa.N Go.Proofs.Ytdkcibafbdmajaa.C

def tHeads : ByteArray := ⟨#[104, 49, 32, 104, 50, 32, 104, 51, 32, 104, 52, 32, 104, 53, 32, 104, 54]⟩
def tCells : ByteArray := ⟨#[116, 100, 32, 116, 104, 32, 99, 97, 112, 116, 105, 111, 110]⟩
def tA : ByteArray := ⟨#[97]⟩
def tDl : ByteArray := ⟨#[100, 108]⟩
def tParts : ByteArray := ⟨#[99, 97, 112, 116, 105, 111, 110, 32, 99, 111, 108, 103, 114, 111, 117, 112, 32, 116, 104, 101, 97, 100, 32, 116, 98, 111, 100, 121, 32, 116, 102, 111, 111, 116]⟩
def tTable : ByteArray := ⟨#[116, 97, 98, 108, 101]⟩
def tTabCol : ByteArray := ⟨#[116, 97, 98, 108, 101, 32, 99, 111, 108, 103, 114, 111, 117, 112]⟩
def tBody : ByteArray := ⟨#[116, 97, 98, 108, 101, 32, 116, 104, 101, 97, 100, 32, 116, 98, 111, 100, 121, 32, 116, 102, 111, 111, 116]⟩
def tRow : ByteArray := ⟨#[116, 97, 98, 108, 101, 32, 116, 104, 101, 97, 100, 32, 116, 98, 111, 100, 121, 32, 116, 102, 111, 111, 116, 32, 116, 114]⟩
def tabColB (x : Txt) : Bool := x == xTable || x == xColgroup
theorem isT_a : isT tA = isB xA := by
  rw [isT_of (L := [xA]) (by decide +kernel)]
  funext x
  rw [Bool.eq_iff_iff]
  simp [isB]
theorem isT_dl : isT tDl = isB xDl := by
  rw [isT_of (L := [xDl]) (by decide +kernel)]
  funext x
  rw [Bool.eq_iff_iff]
  simp [isB]
theorem isT_table : isT tTable = isB xTable := by
  rw [isT_of (L := [xTable]) (by decide +kernel)]
  funext x
  rw [Bool.eq_iff_iff]
  simp [isB]
theorem isT_cells : isT tCells = cellB := by
  rw [isT_of (L := [xTd, xTh, xCaption]) (by decide +kernel)]
  funext x
  rw [Bool.eq_iff_iff]
  simp [cellB]
theorem isT_heads : isT tHeads = headB := by
  rw [isT_of (L := SW 5) (by decide +kernel)]
  funext x
  rw [Bool.eq_iff_iff]
  simp [headB, inZ]
theorem isT_parts : isT tParts = partB := by
  rw [isT_of (L := [xCaption, xColgroup, xThead, xTbody, xTfoot]) (by decide +kernel)]
  funext x
  rw [Bool.eq_iff_iff]
  simp [partB, groupB]
theorem isT_tabcol : isT tTabCol = tabColB := by
  rw [isT_of (L := [xTable, xColgroup]) (by decide +kernel)]
  funext x
  rw [Bool.eq_iff_iff]
  simp [tabColB]
theorem isT_body : isT tBody = bodyB := by
  rw [isT_of (L := [xTable, xThead, xTbody, xTfoot]) (by decide +kernel)]
  funext x
  rw [Bool.eq_iff_iff]
  simp [bodyB]
  constructor
  · rintro (h | h | h | h) <;> simp [h]
  · rintro (h | h | h | h) <;> simp [h]
theorem isT_row : isT tRow = rowB := by
  rw [isT_of (L := [xTable, xThead, xTbody, xTfoot, xTr]) (by decide +kernel)]
  funext x
  rw [Bool.eq_iff_iff]
  simp [rowB, bodyB]
  constructor
  · rintro (h | h | h | h | h) <;> simp [h]
  · rintro (h | h | h | h | h) <;> simp [h]
theorem not_of {L : List Txt} {q : Txt → Bool} (h : ∀ y ∈ L, q y = false) (x : Txt) (hx : x ∈ L) : q x = false := h x hx
theorem no_a (x : Txt) (h : isB xA x = true) : cellB x = false := by
  obtain rfl : x = xA := by simpa [isB] using h
  decide
theorem no_dl (x : Txt) (h : isB xDl x = true) : wallB x = false := by
  obtain rfl : x = xDl := by simpa [isB] using h
  decide
theorem no_list (x : Txt) (h : listB x = true) : wallB x = false := by
  have : x = xUl ∨ x = xOl ∨ x = xMenu := by simpa [listB] using h
  rcases this with rfl | rfl | rfl <;> decide
theorem no_heads (x : Txt) (h : headB x = true) : wallB x = false := by
  have h1 : x ∈ SW 5 := by simpa [headB, inZ] using h
  have h2 : ∀ y ∈ SW 5, wallB y = false := by decide +kernel
  exact h2 x h1
def dlikeN3 (S : List Txt) (k : Nat) (x : Txt) : Nat := if blockB x then unblockN S k else k
/-- What is closed with what is like a name. -/
def dlikeN (S : List Txt) (k : Nat) (x : Txt) : Nat := dlikeN3 S (likeN2 S (likeN1 S k x) x) x
def homeK (S : List Txt) (k : Nat) (p : Txt → Bool) (put : Txt) : St :=
  if 0 ≤ findK S p wallB k then ((findK S p wallB k + 1).toNat, []) else ((innerK S k).1, (innerK S k).2 ++ [put])
/-- What a name asks of its own place. -/
def downK (S : List Txt) (k : Nat) (x : Txt) : St :=
  if x = xLi then homeK S k listB xUl
  else if x = xDt ∨ x = xDd then homeK S k (isB xDl) xDl
  else if partB x then placeK S (isB xTable) k [] []
  else if x = xCol then placeK S tabColB k [xColgroup] []
  else if x = xTr then placeK S bodyB k [xTbody] []
  else if x = xTd ∨ x = xTh then placeK S rowB k [xTbody, xTr] [xTr]
  else innerK S k
def asksD (S : List Txt) (n : Nat) (x : Txt) : St := downK S (dlikeN S (areaN S n) x) x
set_option maxRecDepth 100000 in
set_option maxHeartbeats 40000000 in
/-- **asks.** -/
theorem dasks_calls (S : List Txt) (x : Txt) (a : Option Addr) (n c : Nat) (hn : n ≤ S.length) (hc : n ≤ c) (hs : S.length ≤ 1000000000) (w : World) (h : TextsAt w a S) :
    Calls Try.prog 39 #[.slice a n c, .string ⟨x.toArray⟩] w fun e w' => ∃ v cv, e = .returned (.tuple #[.slice a (asksD S n x).1 c, .slice v (asksD S n x).2.length cv]) ∧ Txts w' v (asksD S n x).2 cv ∧ Below w.heap.size w w' ∧ AboveA w.heap.size v := by
  have HT := hid_of h
  have HD : Hid (asksD S n x = downK S (dlikeN3 S (likeN2 S (likeN1 S (areaN S n) x) x) x) x) := rfl
  generalize asksD S n x = R at *
  have HIS := hid_of (fun (T : ByteArray) (hT : T.size ≤ 1000000000) W => dis_calls x T hT W)
  have HABV := hid_of (fun (T U : ByteArray) (hT : T.size ≤ 1000000000) (hU : U.size ≤ 1000000000) (hd : ∀ x, isT T x = true → isT U x = false) (k : Nat) (hk : k ≤ S.length) W (hW : Below w.heap.size w W) => dabove_calls S T U hT hU hd a k c hk hs W (h.below hW))
  have HARE := areaN_le S n
  have HTOP : Hid (topK S n = if n = 0 then [] else S.getD (n - 1) []) := rfl
  have HAR : Hid (areaN S n = if topK S n = xArea then n - 1 else n) := rfl
  clear h
  go_enter Try.func39, Try.ntmps39
  go_upto_region 2 with fail
  go_cut [26] from 14 (fun v wx => v = .bool (decide (topK S n = xArea)) ∧ wx = w)
  case first =>
    by_cases h0 : n = 0
    · subst h0
      have HF : Hid (decide (topK S 0 = xArea) = false) := by show _ = _; rw [show topK S 0 = [] from rfl]; decide
      go_wp2_with fail
      go_meet
      all_goals exact ⟨by rw [HF.out], rfl⟩
    · obtain ⟨b, off, rfl, hcx⟩ := HT.out (n - 1) (by omega)
      have hgt : decide ((n : Int) > 0) = true := decide_eq_true (by omega)
      have hwk : IntKind.i64.wrap ((n : Int) - 1) = ((n - 1 : Nat) : Int) := by rw [IntKind.wrap_i64]; omega
      have hk0 : (0 : Int) ≤ ((n - 1 : Nat) : Int) := by omega
      have hkl : ((n - 1 : Nat) : Int) < (n : Int) := by omega
      have HTP : Hid (topK S n = S.getD (n - 1) []) := by show _ = _; rw [HTOP.out]; exact if_neg h0
      clear HTOP HAR HARE HD HABV HIS HT h0
      generalize S.getD (n - 1) [] = y at *
      by_cases e1 : y = [116, 101, 120, 116, 97, 114, 101, 97]
      · subst e1
        have HF : Hid (decide (topK S n = xArea) = true) := by show _ = _; rw [HTP.out]; decide
        go_wp2_with fail
        go_meet
        all_goals exact ⟨by rw [HF.out], rfl⟩
      · have g1 : (y == [116, 101, 120, 116, 97, 114, 101, 97]) = false := by rw [beq_eq_false_iff_ne]; exact e1
        have HF : Hid (decide (topK S n = xArea) = false) := by show _ = _; rw [HTP.out]; exact decide_eq_false e1
        clear e1
        go_wp2_with fail
        go_meet
        all_goals exact ⟨by rw [HF.out], rfl⟩
  case rest =>
    obtain ⟨rfl, hwc⟩ := hcut
    have hwc' := hwc.symm
    subst hwc'
    clear hwc
    have HAX : Hid (topK S n = xArea → n ≠ 0) := fun e h0 => by subst h0; cases e
    go_upto_if 26 with fail
    go_cut [6] from 14 (fun v wx => v = .slice a (areaN S n) c ∧ wx = w)
    case first =>
      by_cases hta : topK S n = xArea
      · have h0 : n ≠ 0 := HAX.out hta
        obtain ⟨b, off, rfl, -⟩ := HT.out (n - 1) (by omega)
        have HA1 : Hid (areaN S n = n - 1) := by show _ = _; rw [HAR.out]; exact if_pos hta
        rw [decide_eq_true hta]
        have hwk : IntKind.i64.wrap ((n : Int) - 1) = ((n - 1 : Nat) : Int) := by rw [IntKind.wrap_i64]; omega
        have hk0 : (0 : Int) ≤ ((n - 1 : Nat) : Int) := by omega
        have hkc : ((n - 1 : Nat) : Int) ≤ (c : Int) := by omega
        clear hta HTOP HAR HD HAX
        go_wp2_with fail
        go_meet
        all_goals exact ⟨by rw [HA1.out], rfl⟩
      · have HA1 : Hid (areaN S n = n) := by show _ = _; rw [HAR.out]; exact if_neg hta
        rw [decide_eq_false hta]
        clear hta HTOP HAR HD HAX
        go_wp2_with fail
        go_meet
        all_goals exact ⟨by rw [HA1.out], rfl⟩
    case rest =>
      obtain ⟨rfl, hwc⟩ := hcut
      have hwc' := hwc.symm
      subst hwc'
      clear hwc HAX HTOP HAR
      generalize areaN S n = k1 at *
      have HL1 : Hid (likeN1 S k1 x = if x = xA then closeK k1 (findK S (isB xA) cellB k1) else k1) := rfl
      have HAB1 := hid_of (fun W hW => HABV.out tA tCells (by decide) (by decide) (fun y hy => by rw [isT_a] at hy; rw [isT_cells]; exact no_a y hy) k1 (by omega) W hW)
      rw [isT_a, isT_cells] at HAB1
      have hlt1 := findK_lt S (isB xA) cellB k1
      go_upto_if 33 with fail
      go_cut [6, 7] from 14 (fun v _ wx => v = .slice a (likeN1 S k1 x) c ∧ Hid (Below w.heap.size w wx))
      case first =>
        by_cases hxa : x = [97]
        · have HL2 : Hid (likeN1 S k1 x = closeK k1 (findK S (isB xA) cellB k1)) := by show _ = _; rw [HL1.out]; exact if_pos hxa
          have g1 : (x == [97]) = true := by rw [beq_iff_eq]; exact hxa
          rw [g1]
          generalize findK S (isB xA) cellB k1 = i at *
          clear HL1 HD hxa
          by_cases hi : 0 ≤ i
          · obtain ⟨q, rfl⟩ : ∃ q : Nat, i = (q : Int) := ⟨i.toNat, by omega⟩
            have HCK : Hid (closeK k1 (q : Int) = q) := by show closeK _ _ = _; unfold closeK; rw [if_pos (by omega)]; simp
            obtain ⟨b, off, rfl, -⟩ := HT.out q (by omega)
            have hg : decide ((q : Int) ≥ 0) = true := decide_eq_true (by omega)
            have hq0 : (0 : Int) ≤ (q : Int) := by omega
            have hqc : (q : Int) ≤ (c : Int) := by omega
            clear hi
            go_wp2_with (go_at_call 44; refine (HAB1.out _ (Below.refl _ _)).mono ?_; rintro e w1 ⟨rfl, hb1⟩)
            go_meet
            all_goals exact ⟨by rw [HL2.out, HCK.out], hb1⟩
          · have HCK : Hid (closeK k1 i = k1) := by show closeK _ _ = _; unfold closeK; rw [if_neg hi]
            have hg : decide (i ≥ 0) = false := decide_eq_false (by omega)
            clear hi
            go_wp2_with (go_at_call 44; refine (HAB1.out _ (Below.refl _ _)).mono ?_; rintro e w1 ⟨rfl, hb1⟩)
            go_meet
            all_goals exact ⟨by rw [HL2.out, HCK.out], hb1⟩
        · have HL2 : Hid (likeN1 S k1 x = k1) := by show _ = _; rw [HL1.out]; exact if_neg hxa
          have g1 : (x == [97]) = false := by rw [beq_eq_false_iff_ne]; exact hxa
          rw [g1]
          clear HL1 HD hxa HAB1
          go_wp2_with fail
          go_meet
          all_goals exact ⟨by rw [HL2.out], Below.refl _ _⟩
      case rest =>
        obtain ⟨rfl, HB1⟩ := hcut
        have hle2 := like1_le S k1 x
        clear HL1 HAB1 hlt1
        generalize likeN1 S k1 x = k2 at *
        have HL1 : Hid (likeN2 S k2 x = if headB x then closeK k2 (findK S headB wallB k2) else k2) := rfl
        have HAB1 := hid_of (fun W hW => HABV.out tHeads tWalls (by decide) (by decide) (fun y hy => by rw [isT_heads] at hy; rw [isT_walls]; exact no_heads y hy) k2 (by omega) W hW)
        rw [isT_heads, isT_walls] at HAB1
        have HIH := hid_of (HIS.out tHeads (by decide))
        rw [isT_heads] at HIH
        have hlt1 := findK_lt S headB wallB k2
        go_upto_region 8 with fail
        go_wp2_with fail
        (go_at_call 43; refine (HIH.out _).mono ?_; rintro e w2 ⟨rfl, hb2⟩)
        have HB2 : Hid (Below w.heap.size w w2) := HB1.out.trans (hb2.mono HB1.out.size)
        clear hb2 HB1 HIH
        go_upto_if 42 with fail
        go_cut [6, 8] from 14 (fun v _ wx => v = .slice a (likeN2 S k2 x) c ∧ Hid (Below w.heap.size w wx))
        case first =>
          cases hxa : headB x
          rotate_left
          · have HL2 : Hid (likeN2 S k2 x = closeK k2 (findK S headB wallB k2)) := by show _ = _; rw [HL1.out]; exact if_pos hxa
            generalize findK S headB wallB k2 = i at *
            clear HL1 HD
            by_cases hi : 0 ≤ i
            · obtain ⟨q, rfl⟩ : ∃ q : Nat, i = (q : Int) := ⟨i.toNat, by omega⟩
              have HCK : Hid (closeK k2 (q : Int) = q) := by show closeK _ _ = _; unfold closeK; rw [if_pos (by omega)]; simp
              obtain ⟨b, off, rfl, -⟩ := HT.out q (by omega)
              have hg : decide ((q : Int) ≥ 0) = true := decide_eq_true (by omega)
              have hq0 : (0 : Int) ≤ (q : Int) := by omega
              have hqc : (q : Int) ≤ (c : Int) := by omega
              clear hi
              go_wp2_with (go_at_call 44; refine (HAB1.out _ HB2.out).mono ?_; rintro e w3 ⟨rfl, hb3⟩)
              go_meet
              all_goals exact ⟨by rw [HL2.out, HCK.out], HB2.out.trans (hb3.mono HB2.out.size)⟩
            · have HCK : Hid (closeK k2 i = k2) := by show closeK _ _ = _; unfold closeK; rw [if_neg hi]
              have hg : decide (i ≥ 0) = false := decide_eq_false (by omega)
              clear hi
              go_wp2_with (go_at_call 44; refine (HAB1.out _ HB2.out).mono ?_; rintro e w3 ⟨rfl, hb3⟩)
              go_meet
              all_goals exact ⟨by rw [HL2.out, HCK.out], HB2.out.trans (hb3.mono HB2.out.size)⟩
          · have HL2 : Hid (likeN2 S k2 x = k2) := by show _ = _; rw [HL1.out]; exact if_neg (by rw [hxa]; decide)
            clear HL1 HD HAB1
            go_wp2_with fail
            go_meet
            all_goals exact ⟨by rw [HL2.out], HB2.out⟩
        case rest =>
          obtain ⟨rfl, HB3⟩ := hcut
          have hle3 := like2_le S k2 x
          clear HL1 HAB1 hlt1 HB2
          generalize likeN2 S k2 x = k3 at *
          have HL1 : Hid (dlikeN3 S k3 x = if blockB x then unblockN S k3 else k3) := rfl
          have HIN4 := hid_of (fun W => rin_calls ⟨x.toArray⟩ 6 W)
          have HIB : Hid (inZ 6 x = blockB x) := rfl
          have HUN := hid_of (fun W hW => unblocked_calls S a k3 c (by omega) (by omega) hs W (HT.out.below (w' := W) hW))
          go_upto_region 12 with fail
          go_wp2_with fail
          (go_at_call 38; refine (HIN4.out _).mono ?_; rintro e w4 ⟨rfl, hb4⟩; rw [HIB.out])
          have HB4 : Hid (Below w.heap.size w w4) := HB3.out.trans (hb4.mono HB3.out.size)
          clear hb4 HB3 HIN4 HIB
          go_upto_if 51 with fail
          go_cut [6] from 14 (fun v wx => v = .slice a (dlikeN3 S k3 x) c ∧ Hid (Below w.heap.size w wx))
          case first =>
            cases hxa : blockB x
            · have HL2 : Hid (dlikeN3 S k3 x = k3) := by show _ = _; rw [HL1.out]; exact if_neg (by rw [hxa]; decide)
              clear HL1 HD HUN
              go_wp2_with fail
              go_meet
              all_goals exact ⟨by rw [HL2.out], HB4.out⟩
            · have HL2 : Hid (dlikeN3 S k3 x = unblockN S k3) := by show _ = _; rw [HL1.out]; exact if_pos hxa
              clear HL1 HD
              go_wp2_with (go_at_call 62; refine (HUN.out _ HB4.out).mono ?_; rintro e w5 ⟨rfl, hb5⟩)
              go_meet
              all_goals exact ⟨by rw [HL2.out], HB4.out.trans (hb5.mono HB4.out.size)⟩
          case rest =>
            obtain ⟨rfl, HB5⟩ := hcut
            have hle4 : dlikeN3 S k3 x ≤ k3 := by unfold dlikeN3; split; exact unblock_le _ _; exact Nat.le_refl _
            clear HL1 HUN HB4
            generalize dlikeN3 S k3 x = k at *
            have hkS : k ≤ S.length := by omega
            have hkc : k ≤ c := by omega
            clear hle4 hle3 hle2 HARE
            clear k1 k2 k3
            have HIN := hid_of (fun W hW => inner_calls S a c hs k W hkS hkc (HT.out.below (w' := W) hW))
            have HPL := hid_of (fun (U : ByteArray) (hU : U.size ≤ 1000000000) (ta ga : Option Addr) (T G : List Txt) (tc gc : Nat) (hTl : T.length ≤ 1000) (hTB : AboveA w.heap.size ta) (hGB : AboveA w.heap.size ga) (W : World) (hW : Below w.heap.size w W) (hT : Txts W ta T tc) (hG : Txts W ga G gc) => place_calls S U hU a k c hkS hkc hs ta ga T G tc gc hTl w.heap.size hTB hGB W hW.size (HT.out.below hW) hT hG)
            have HIP := hid_of (HIS.out tParts (by decide))
            rw [isT_parts] at HIP
            have HDK : Hid (downK S k x = if x = xLi then homeK S k listB xUl
              else if x = xDt ∨ x = xDd then homeK S k (isB xDl) xDl
              else if partB x then placeK S (isB xTable) k [] []
              else if x = xCol then placeK S tabColB k [xColgroup] []
              else if x = xTr then placeK S bodyB k [xTbody] []
              else if x = xTd ∨ x = xTh then placeK S rowB k [xTbody, xTr] [xTr]
              else innerK S k) := rfl
            rw [HDK.out] at HD
            clear HDK HIS
            by_cases e1 : x = [108, 105]
            · subst e1
              have HR : Hid (R = homeK S k listB xUl) := by rw [HD.out]; exact if_pos rfl
              clear HD HPL HIP
              have HAB1 := hid_of (fun W hW => HABV.out tLists tWalls (by decide) (by decide) (fun y hy => by rw [isT_lists] at hy; rw [isT_walls]; exact no_list y hy) k hkS W hW)
              rw [isT_lists, isT_walls] at HAB1
              have hlt1 := findK_lt S listB wallB k
              have HHK : Hid (homeK S k listB xUl = if 0 ≤ findK S listB wallB k then ((findK S listB wallB k + 1).toNat, []) else ((innerK S k).1, (innerK S k).2 ++ [xUl])) := rfl
              have hil := inner_len S k
              generalize findK S listB wallB k = i at *
              by_cases hi : 0 ≤ i
              · obtain ⟨q, rfl⟩ : ∃ q : Nat, i = (q : Int) := ⟨i.toNat, by omega⟩
                obtain ⟨b, off, rfl, -⟩ := HT.out q (by omega)
                have HR2 : Hid (R = (q + 1, [])) := by rw [HR.out, HHK.out]; exact if_pos hi
                have hg : decide ((q : Int) ≥ 0) = true := decide_eq_true (by omega)
                have hw1 : IntKind.i64.wrap ((q : Int) + 1) = ((q + 1 : Nat) : Int) := by rw [IntKind.wrap_i64]; omega
                have h10 : (0 : Int) ≤ ((q + 1 : Nat) : Int) := by omega
                have h1c : ((q + 1 : Nat) : Int) ≤ (c : Int) := by omega
                clear HR HHK hi HIN
                go_wp2_with (go_at_call 44; refine (HAB1.out _ HB5.out).mono ?_; rintro e w6 ⟨rfl, hb6⟩)
                go_ret2
                rw [HR2.out]
                exact ⟨none, 0, rfl, txts_nil' _, HB5.out.trans (hb6.mono HB5.out.size), above_none _⟩
              · have HR2 : Hid (R = ((innerK S k).1, (innerK S k).2 ++ [xUl])) := by rw [HR.out, HHK.out]; exact if_neg hi
                have hg : decide (i ≥ 0) = false := decide_eq_false (by omega)
                clear HR HHK hi HT
                generalize innerK S k = r at *
                obtain ⟨r1, r2⟩ := r
                simp only at hil
                go_wp2_with fail
                (go_at_call 44; refine (HAB1.out _ HB5.out).mono ?_; rintro e w6 ⟨rfl, hb6⟩)
                have HB6 : Hid (Below w.heap.size w w6) := HB5.out.trans (hb6.mono HB5.out.size)
                clear hb6
                go_wp2_with fail
                (go_at_call 42; refine (HIN.out _ HB6.out).mono ?_; rintro e w3 ⟨v3, c3, rfl, ho3, hb3⟩)
                have HB3 : Hid (Below w.heap.size w w3) := HB6.out.trans (hb3.mono HB6.out.size)
                have HO3A : Hid (Txts (w3.alloc (.cells #[] 9)) v3 r2 c3) := (txts_own ho3).below ((Below.refl _ w3).alloc (Nat.le_refl _) _)
                have HB3A : Hid (Below w.heap.size w (w3.alloc (.cells #[] 9))) := HB3.out.alloc HB3.out.size _
                have HLIT : Hid (OwnT w3.heap.size (w3.alloc (.cells #[] 9)) (.slice (some ⟨w3.heap.size, 0, none⟩) 0 0) []) := own_lit' w3 #[] [] 0 rfl rfl (by decide)
                clear ho3 hb3
                go_wp2_with (first
                  | (at_builtin; refine append_texts rfl _ _ rfl w3.heap.size _ [] rfl HLIT.out v3 c3 r2 rfl HO3A.out (by simp; omega) (by simp) ?_; intro v' w4 hown4 hgrow4; rw [List.nil_append] at hown4; obtain ⟨a4, c4, rfl⟩ := owns_slice hown4; have HB4 : Hid (Below w.heap.size w w4) := HB3A.out.grown hgrow4 HB3A.out.size (fun j hj => by cases hj; exact HB3.out.size); have HO4A : Hid (OwnT w3.heap.size (w4.alloc (.cells #[.string ⟨#[117, 108]⟩] 9)) (.slice a4 r2.length c4) r2) := World.ownsRow.alloc hown4 _; have HX4 : Hid (Txts (w4.alloc (.cells #[.string ⟨#[117, 108]⟩] 9)) (some ⟨w4.heap.size, 0, none⟩) [xUl] 1) := ⟨lit_texts w4 [xUl] _ rfl, Nat.le_refl _, fun e => by cases e⟩; have HB4A : Hid (Below w.heap.size w (w4.alloc (.cells #[.string ⟨#[117, 108]⟩] 9))) := HB4.out.alloc HB4.out.size _; have HS4 : Hid (w3.heap.size ≤ w4.heap.size) := Nat.le_trans (by simp) hgrow4.size; clear hown4 hgrow4)
                  | (at_builtin; refine append_texts rfl _ _ rfl w3.heap.size _ r2 rfl HO4A.out (some ⟨w4.heap.size, 0, none⟩) 1 [xUl] rfl HX4.out (by simp; omega) (by have := HS4.out; simp; omega) ?_; intro v' w5 hown5 hgrow5; obtain ⟨a5, c5, rfl⟩ := owns_slice hown5))
                go_ret2
                rw [HR2.out]
                have e6 : (r2 ++ [xUl]).length = r2.length + 1 := by simp
                exact ⟨a5, c5, (by rw [e6]; rfl), txts_own hown5, HB4A.out.grown hgrow5 HB4A.out.size (fun j hj => Nat.le_trans HB3.out.size (HO4A.out.lt j hj).1), (above_own hown5).mono HB3.out.size⟩
            have g1 : (x == [108, 105]) = false := by rw [beq_eq_false_iff_ne]; exact e1
            rw [if_neg (show ¬ x = xLi from e1)] at HD
            by_cases e2 : x = xDt ∨ x = xDd
            · have HR : Hid (R = homeK S k (isB xDl) xDl) := by rw [HD.out]; exact if_pos e2
              clear HD HPL HIP e1
              have gne : (x != [108, 105]) = true := by simp [bne, g1]
              rcases e2 with rfl | rfl
              · have gne : (xDt != [108, 105]) = true := by decide
                have HAB1 := hid_of (fun W hW => HABV.out tDl tWalls (by decide) (by decide) (fun y hy => by rw [isT_dl] at hy; rw [isT_walls]; exact no_dl y hy) k hkS W hW)
                rw [isT_dl, isT_walls] at HAB1
                have hlt1 := findK_lt S (isB xDl) wallB k
                have HHK : Hid (homeK S k (isB xDl) xDl = if 0 ≤ findK S (isB xDl) wallB k then ((findK S (isB xDl) wallB k + 1).toNat, []) else ((innerK S k).1, (innerK S k).2 ++ [xDl])) := rfl
                have hil := inner_len S k
                generalize findK S (isB xDl) wallB k = i at *
                by_cases hi : 0 ≤ i
                · obtain ⟨q, rfl⟩ : ∃ q : Nat, i = (q : Int) := ⟨i.toNat, by omega⟩
                  obtain ⟨b, off, rfl, -⟩ := HT.out q (by omega)
                  have HR2 : Hid (R = (q + 1, [])) := by rw [HR.out, HHK.out]; exact if_pos hi
                  have hg : decide ((q : Int) ≥ 0) = true := decide_eq_true (by omega)
                  have hw1 : IntKind.i64.wrap ((q : Int) + 1) = ((q + 1 : Nat) : Int) := by rw [IntKind.wrap_i64]; omega
                  have h10 : (0 : Int) ≤ ((q + 1 : Nat) : Int) := by omega
                  have h1c : ((q + 1 : Nat) : Int) ≤ (c : Int) := by omega
                  clear HR HHK hi HIN
                  go_wp2_with (go_at_call 44; refine (HAB1.out _ HB5.out).mono ?_; rintro e w6 ⟨rfl, hb6⟩)
                  go_ret2
                  rw [HR2.out]
                  exact ⟨none, 0, rfl, txts_nil' _, HB5.out.trans (hb6.mono HB5.out.size), above_none _⟩
                · have HR2 : Hid (R = ((innerK S k).1, (innerK S k).2 ++ [xDl])) := by rw [HR.out, HHK.out]; exact if_neg hi
                  have hg : decide (i ≥ 0) = false := decide_eq_false (by omega)
                  clear HR HHK hi HT
                  generalize innerK S k = r at *
                  obtain ⟨r1, r2⟩ := r
                  simp only at hil
                  go_wp2_with fail
                  (go_at_call 44; refine (HAB1.out _ HB5.out).mono ?_; rintro e w6 ⟨rfl, hb6⟩)
                  have HB6 : Hid (Below w.heap.size w w6) := HB5.out.trans (hb6.mono HB5.out.size)
                  clear hb6
                  go_wp2_with fail
                  (go_at_call 42; refine (HIN.out _ HB6.out).mono ?_; rintro e w3 ⟨v3, c3, rfl, ho3, hb3⟩)
                  have HB3 : Hid (Below w.heap.size w w3) := HB6.out.trans (hb3.mono HB6.out.size)
                  have HO3A : Hid (Txts (w3.alloc (.cells #[] 9)) v3 r2 c3) := (txts_own ho3).below ((Below.refl _ w3).alloc (Nat.le_refl _) _)
                  have HB3A : Hid (Below w.heap.size w (w3.alloc (.cells #[] 9))) := HB3.out.alloc HB3.out.size _
                  have HLIT : Hid (OwnT w3.heap.size (w3.alloc (.cells #[] 9)) (.slice (some ⟨w3.heap.size, 0, none⟩) 0 0) []) := own_lit' w3 #[] [] 0 rfl rfl (by decide)
                  clear ho3 hb3
                  go_wp2_with (first
                    | (at_builtin; refine append_texts rfl _ _ rfl w3.heap.size _ [] rfl HLIT.out v3 c3 r2 rfl HO3A.out (by simp; omega) (by simp) ?_; intro v' w4 hown4 hgrow4; rw [List.nil_append] at hown4; obtain ⟨a4, c4, rfl⟩ := owns_slice hown4; have HB4 : Hid (Below w.heap.size w w4) := HB3A.out.grown hgrow4 HB3A.out.size (fun j hj => by cases hj; exact HB3.out.size); have HO4A : Hid (OwnT w3.heap.size (w4.alloc (.cells #[.string ⟨#[100, 108]⟩] 9)) (.slice a4 r2.length c4) r2) := World.ownsRow.alloc hown4 _; have HX4 : Hid (Txts (w4.alloc (.cells #[.string ⟨#[100, 108]⟩] 9)) (some ⟨w4.heap.size, 0, none⟩) [xDl] 1) := ⟨lit_texts w4 [xDl] _ rfl, Nat.le_refl _, fun e => by cases e⟩; have HB4A : Hid (Below w.heap.size w (w4.alloc (.cells #[.string ⟨#[100, 108]⟩] 9))) := HB4.out.alloc HB4.out.size _; have HS4 : Hid (w3.heap.size ≤ w4.heap.size) := Nat.le_trans (by simp) hgrow4.size; clear hown4 hgrow4)
                    | (at_builtin; refine append_texts rfl _ _ rfl w3.heap.size _ r2 rfl HO4A.out (some ⟨w4.heap.size, 0, none⟩) 1 [xDl] rfl HX4.out (by simp; omega) (by have := HS4.out; simp; omega) ?_; intro v' w5 hown5 hgrow5; obtain ⟨a5, c5, rfl⟩ := owns_slice hown5))
                  go_ret2
                  rw [HR2.out]
                  have e6 : (r2 ++ [xDl]).length = r2.length + 1 := by simp
                  exact ⟨a5, c5, (by rw [e6]; rfl), txts_own hown5, HB4A.out.grown hgrow5 HB4A.out.size (fun j hj => Nat.le_trans HB3.out.size (HO4A.out.lt j hj).1), (above_own hown5).mono HB3.out.size⟩
              · have gne : (xDd != [108, 105]) = true := by decide
                have HAB1 := hid_of (fun W hW => HABV.out tDl tWalls (by decide) (by decide) (fun y hy => by rw [isT_dl] at hy; rw [isT_walls]; exact no_dl y hy) k hkS W hW)
                rw [isT_dl, isT_walls] at HAB1
                have hlt1 := findK_lt S (isB xDl) wallB k
                have HHK : Hid (homeK S k (isB xDl) xDl = if 0 ≤ findK S (isB xDl) wallB k then ((findK S (isB xDl) wallB k + 1).toNat, []) else ((innerK S k).1, (innerK S k).2 ++ [xDl])) := rfl
                have hil := inner_len S k
                generalize findK S (isB xDl) wallB k = i at *
                by_cases hi : 0 ≤ i
                · obtain ⟨q, rfl⟩ : ∃ q : Nat, i = (q : Int) := ⟨i.toNat, by omega⟩
                  obtain ⟨b, off, rfl, -⟩ := HT.out q (by omega)
                  have HR2 : Hid (R = (q + 1, [])) := by rw [HR.out, HHK.out]; exact if_pos hi
                  have hg : decide ((q : Int) ≥ 0) = true := decide_eq_true (by omega)
                  have hw1 : IntKind.i64.wrap ((q : Int) + 1) = ((q + 1 : Nat) : Int) := by rw [IntKind.wrap_i64]; omega
                  have h10 : (0 : Int) ≤ ((q + 1 : Nat) : Int) := by omega
                  have h1c : ((q + 1 : Nat) : Int) ≤ (c : Int) := by omega
                  clear HR HHK hi HIN
                  go_wp2_with (go_at_call 44; refine (HAB1.out _ HB5.out).mono ?_; rintro e w6 ⟨rfl, hb6⟩)
                  go_ret2
                  rw [HR2.out]
                  exact ⟨none, 0, rfl, txts_nil' _, HB5.out.trans (hb6.mono HB5.out.size), above_none _⟩
                · have HR2 : Hid (R = ((innerK S k).1, (innerK S k).2 ++ [xDl])) := by rw [HR.out, HHK.out]; exact if_neg hi
                  have hg : decide (i ≥ 0) = false := decide_eq_false (by omega)
                  clear HR HHK hi HT
                  generalize innerK S k = r at *
                  obtain ⟨r1, r2⟩ := r
                  simp only at hil
                  go_wp2_with fail
                  (go_at_call 44; refine (HAB1.out _ HB5.out).mono ?_; rintro e w6 ⟨rfl, hb6⟩)
                  have HB6 : Hid (Below w.heap.size w w6) := HB5.out.trans (hb6.mono HB5.out.size)
                  clear hb6
                  go_wp2_with fail
                  (go_at_call 42; refine (HIN.out _ HB6.out).mono ?_; rintro e w3 ⟨v3, c3, rfl, ho3, hb3⟩)
                  have HB3 : Hid (Below w.heap.size w w3) := HB6.out.trans (hb3.mono HB6.out.size)
                  have HO3A : Hid (Txts (w3.alloc (.cells #[] 9)) v3 r2 c3) := (txts_own ho3).below ((Below.refl _ w3).alloc (Nat.le_refl _) _)
                  have HB3A : Hid (Below w.heap.size w (w3.alloc (.cells #[] 9))) := HB3.out.alloc HB3.out.size _
                  have HLIT : Hid (OwnT w3.heap.size (w3.alloc (.cells #[] 9)) (.slice (some ⟨w3.heap.size, 0, none⟩) 0 0) []) := own_lit' w3 #[] [] 0 rfl rfl (by decide)
                  clear ho3 hb3
                  go_wp2_with (first
                    | (at_builtin; refine append_texts rfl _ _ rfl w3.heap.size _ [] rfl HLIT.out v3 c3 r2 rfl HO3A.out (by simp; omega) (by simp) ?_; intro v' w4 hown4 hgrow4; rw [List.nil_append] at hown4; obtain ⟨a4, c4, rfl⟩ := owns_slice hown4; have HB4 : Hid (Below w.heap.size w w4) := HB3A.out.grown hgrow4 HB3A.out.size (fun j hj => by cases hj; exact HB3.out.size); have HO4A : Hid (OwnT w3.heap.size (w4.alloc (.cells #[.string ⟨#[100, 108]⟩] 9)) (.slice a4 r2.length c4) r2) := World.ownsRow.alloc hown4 _; have HX4 : Hid (Txts (w4.alloc (.cells #[.string ⟨#[100, 108]⟩] 9)) (some ⟨w4.heap.size, 0, none⟩) [xDl] 1) := ⟨lit_texts w4 [xDl] _ rfl, Nat.le_refl _, fun e => by cases e⟩; have HB4A : Hid (Below w.heap.size w (w4.alloc (.cells #[.string ⟨#[100, 108]⟩] 9))) := HB4.out.alloc HB4.out.size _; have HS4 : Hid (w3.heap.size ≤ w4.heap.size) := Nat.le_trans (by simp) hgrow4.size; clear hown4 hgrow4)
                    | (at_builtin; refine append_texts rfl _ _ rfl w3.heap.size _ r2 rfl HO4A.out (some ⟨w4.heap.size, 0, none⟩) 1 [xDl] rfl HX4.out (by simp; omega) (by have := HS4.out; simp; omega) ?_; intro v' w5 hown5 hgrow5; obtain ⟨a5, c5, rfl⟩ := owns_slice hown5))
                  go_ret2
                  rw [HR2.out]
                  have e6 : (r2 ++ [xDl]).length = r2.length + 1 := by simp
                  exact ⟨a5, c5, (by rw [e6]; rfl), txts_own hown5, HB4A.out.grown hgrow5 HB4A.out.size (fun j hj => Nat.le_trans HB3.out.size (HO4A.out.lt j hj).1), (above_own hown5).mono HB3.out.size⟩
            have e2' : ¬ x = xDt ∧ ¬ x = xDd := ⟨fun e => e2 (.inl e), fun e => e2 (.inr e)⟩
            have g2 : (x == [100, 116]) = false := by rw [beq_eq_false_iff_ne]; exact e2'.1
            have g3 : (x == [100, 100]) = false := by rw [beq_eq_false_iff_ne]; exact e2'.2
            rw [if_neg e2] at HD
            clear e2 e2' e1
            cases e3 : partB x
            rotate_left
            · have HR : Hid (R = placeK S (isB xTable) k [] []) := by rw [HD.out]; exact if_pos e3
              rw [e3] at HIP
              have HP := hid_of (fun (W : World) hW => HPL.out tTable (by decide) none none [] [] 0 0 (by simp) (above_none _) (above_none _) W hW (txts_nil' W) (txts_nil' W))
              rw [isT_table] at HP
              clear HD HPL HIN
              go_wp2_with fail
              (go_at_call 43; refine (HIP.out _).mono ?_; rintro e w6 ⟨rfl, hb6⟩)
              have HB6 : Hid (Below w.heap.size w w6) := HB5.out.trans (hb6.mono HB5.out.size)
              clear hb6
              go_wp2_with fail
              (go_at_call 63; refine (HP.out _ HB6.out).mono ?_; rintro e w7 ⟨v7, c7, rfl, ho7, hb7, ha7⟩)
              go_wp2_with fail
              go_ret2
              rw [HR.out]
              exact ⟨v7, c7, rfl, ho7, HB6.out.trans (hb7.mono HB6.out.size), ha7⟩
            rw [e3] at HIP
            rw [if_neg (show ¬ partB x = true by rw [e3]; decide)] at HD
            clear e3
            by_cases e4 : x = [99, 111, 108]
            · have HR : Hid (R = placeK S tabColB k [xColgroup] []) := by rw [HD.out]; exact if_pos e4
              subst e4
              have HP := hid_of (fun (W : World) (hW : Below w.heap.size w W) => HPL.out tTabCol (by decide) (some ⟨W.heap.size, 0, none⟩) none [xColgroup] [] 1 0 (by simp) (fun ad e => by cases e; exact hW.size) (above_none _) (W.alloc (.cells #[.string ⟨#[99, 111, 108, 103, 114, 111, 117, 112]⟩] 9)) (hW.alloc hW.size _) ⟨lit_texts W [xColgroup] _ rfl, Nat.le_refl _, fun e => by cases e⟩ (txts_nil' _))
              rw [isT_tabcol] at HP
              clear HD HPL HIN
              go_wp2_with fail
              (go_at_call 43; refine (HIP.out _).mono ?_; rintro e w6 ⟨rfl, hb6⟩)
              have HB6 : Hid (Below w.heap.size w w6) := HB5.out.trans (hb6.mono HB5.out.size)
              clear hb6
              go_wp2_with fail
              (go_at_call 63; refine (HP.out _ HB6.out).mono ?_; rintro e w7 ⟨v7, c7, rfl, ho7, hb7, ha7⟩)
              go_wp2_with fail
              go_ret2
              rw [HR.out]
              exact ⟨v7, c7, rfl, ho7, (HB6.out.alloc HB6.out.size _).trans (hb7.mono (by simpa using Nat.le_succ_of_le HB6.out.size)), ha7⟩
            have g4 : (x == [99, 111, 108]) = false := by rw [beq_eq_false_iff_ne]; exact e4
            rw [if_neg (show ¬ x = xCol from e4)] at HD
            clear e4
            by_cases e5 : x = [116, 114]
            · have HR : Hid (R = placeK S bodyB k [xTbody] []) := by rw [HD.out]; exact if_pos e5
              subst e5
              have HP := hid_of (fun (W : World) (hW : Below w.heap.size w W) => HPL.out tBody (by decide) (some ⟨W.heap.size, 0, none⟩) none [xTbody] [] 1 0 (by simp) (fun ad e => by cases e; exact hW.size) (above_none _) (W.alloc (.cells #[.string ⟨#[116, 98, 111, 100, 121]⟩] 9)) (hW.alloc hW.size _) ⟨lit_texts W [xTbody] _ rfl, Nat.le_refl _, fun e => by cases e⟩ (txts_nil' _))
              rw [isT_body] at HP
              clear HD HPL HIN
              go_wp2_with fail
              (go_at_call 43; refine (HIP.out _).mono ?_; rintro e w6 ⟨rfl, hb6⟩)
              have HB6 : Hid (Below w.heap.size w w6) := HB5.out.trans (hb6.mono HB5.out.size)
              clear hb6
              go_wp2_with fail
              (go_at_call 63; refine (HP.out _ HB6.out).mono ?_; rintro e w7 ⟨v7, c7, rfl, ho7, hb7, ha7⟩)
              go_wp2_with fail
              go_ret2
              rw [HR.out]
              exact ⟨v7, c7, rfl, ho7, (HB6.out.alloc HB6.out.size _).trans (hb7.mono (by simpa using Nat.le_succ_of_le HB6.out.size)), ha7⟩
            have g5 : (x == [116, 114]) = false := by rw [beq_eq_false_iff_ne]; exact e5
            rw [if_neg (show ¬ x = xTr from e5)] at HD
            clear e5
            by_cases e6 : x = xTd ∨ x = xTh
            · have HR : Hid (R = placeK S rowB k [xTbody, xTr] [xTr]) := by rw [HD.out]; exact if_pos e6
              have HP := hid_of (fun (W : World) (hW : Below w.heap.size w W) => HPL.out tRow (by decide) (some ⟨W.heap.size, 0, none⟩) (some ⟨W.heap.size + 1, 0, none⟩) [xTbody, xTr] [xTr] 2 1 (by simp) (fun ad e => by cases e; exact hW.size) (fun ad e => by cases e; exact Nat.le_succ_of_le hW.size) ((W.alloc (.cells #[.string ⟨#[116, 98, 111, 100, 121]⟩, .string ⟨#[116, 114]⟩] 9)).alloc (.cells #[.string ⟨#[116, 114]⟩] 9)) ((hW.alloc hW.size _).alloc (by simpa using Nat.le_succ_of_le hW.size) _) ⟨(lit_texts W [xTbody, xTr] _ rfl).below ((Below.refl _ _).alloc (Nat.le_refl _) _), Nat.le_refl _, fun e => by cases e⟩ ⟨by
                have h := lit_texts (W.alloc (.cells #[.string ⟨#[116, 98, 111, 100, 121]⟩, .string ⟨#[116, 114]⟩] 9)) [xTr] _ rfl
                rw [show (W.alloc (.cells #[.string ⟨#[116, 98, 111, 100, 121]⟩, .string ⟨#[116, 114]⟩] 9)).heap.size = W.heap.size + 1 by simp] at h
                exact h, Nat.le_refl _, fun e => by cases e⟩)
              rw [isT_row] at HP
              clear HD HPL HIN
              rcases e6 with rfl | rfl
              · go_wp2_with fail
                (go_at_call 43; refine (HIP.out _).mono ?_; rintro e w6 ⟨rfl, hb6⟩)
                have HB6 : Hid (Below w.heap.size w w6) := HB5.out.trans (hb6.mono HB5.out.size)
                clear hb6
                go_wp2_with fail
                (go_at_call 63; refine (HP.out _ HB6.out).mono ?_; rintro e w7 ⟨v7, c7, rfl, ho7, hb7, ha7⟩)
                go_wp2_with fail
                go_ret2
                rw [HR.out]
                exact ⟨v7, c7, rfl, ho7, ((HB6.out.alloc HB6.out.size _).alloc (by simpa using Nat.le_succ_of_le HB6.out.size) _).trans (hb7.mono (by have := HB6.out.size; simp; omega)), ha7⟩
              · go_wp2_with fail
                (go_at_call 43; refine (HIP.out _).mono ?_; rintro e w6 ⟨rfl, hb6⟩)
                have HB6 : Hid (Below w.heap.size w w6) := HB5.out.trans (hb6.mono HB5.out.size)
                clear hb6
                go_wp2_with fail
                (go_at_call 63; refine (HP.out _ HB6.out).mono ?_; rintro e w7 ⟨v7, c7, rfl, ho7, hb7, ha7⟩)
                go_wp2_with fail
                go_ret2
                rw [HR.out]
                exact ⟨v7, c7, rfl, ho7, ((HB6.out.alloc HB6.out.size _).alloc (by simpa using Nat.le_succ_of_le HB6.out.size) _).trans (hb7.mono (by have := HB6.out.size; simp; omega)), ha7⟩
            have e6' : ¬ x = xTd ∧ ¬ x = xTh := ⟨fun e => e6 (.inl e), fun e => e6 (.inr e)⟩
            have g6 : (x == [116, 100]) = false := by rw [beq_eq_false_iff_ne]; exact e6'.1
            have g7 : (x == [116, 104]) = false := by rw [beq_eq_false_iff_ne]; exact e6'.2
            rw [if_neg e6] at HD
            clear e6 e6' HPL
            generalize innerK S k = r at *
            go_wp2_with fail
            (go_at_call 43; refine (HIP.out _).mono ?_; rintro e w6 ⟨rfl, hb6⟩)
            have HB6 : Hid (Below w.heap.size w w6) := HB5.out.trans (hb6.mono HB5.out.size)
            clear hb6
            go_wp2_with fail
            (go_at_call 42; refine (HIN.out _ HB6.out).mono ?_; rintro e w7 ⟨v7, c7, rfl, ho7, hb7⟩)
            go_wp2_with fail
            go_ret2
            rw [HD.out]
            exact ⟨v7, c7, rfl, txts_own ho7, HB6.out.trans (hb7.mono HB6.out.size), (above_own ho7).mono HB6.out.size⟩
end Go.Proofs.Ytdkcibafbdmajaa.E
