/- What is proved here: End of the document of layer 16; of a right stack it says what the program's table says. -/
import Derived.Test.YtdkcibafbdmajaaNdFacts
import Derived.Test.YtdkcibafbdmajaaNeEnd
namespace Go.Proofs.Ytdkcibafbdmajaa.E
open Go.RowKit Go.Shelf Go.WideMaps Go.Maps Go.Proofs.Ytdkcibafbdmajaa.N Go.Proofs.Ytdkcibafbdmajaa.C

def tEnds : ByteArray := ⟨#[99, 97, 112, 116, 105, 111, 110, 32, 99, 111, 108, 103, 114, 111, 117, 112, 32, 116, 104, 101, 97, 100, 32, 116, 98, 111, 100, 121, 32, 116, 102, 111, 111, 116, 32, 116, 114, 32, 116, 100, 32, 116, 104]⟩
def endsL : List Txt := [xCaption, xColgroup, xThead, xTbody, xTfoot, xTr, xTd, xTh]
def endPartB (x : Txt) : Bool := decide (x ∈ endsL)
theorem isT_ends : isT tEnds = endPartB := isT_of (L := endsL) (by decide +kernel)
/-- A name of one field with no blank around. -/
def cleanB (x : Txt) : Bool := decide (trim x = x) && (decide ((fields x).length = 1) && !voidB x)
def dendK (S : List Txt) (k : Nat) (x : Txt) : Int :=
  if headB x then findK S headB wallB k else if x = xTable then findK S (isB xTable) neverB k else if endPartB x then findK S (isB x) (isB xTable) k else if cleanB x then findK S (isB x) wallB k else -1
def dendZ (S : List Txt) (k : Nat) (x : Txt) : Int := if dendK S k x < 0 then 0 else (k : Int) - dendK S k x
/-! ### fields of a text with no blank around -/
theorem ff_ne : ∀ (l w : Txt), (w ≠ [] ∨ ∃ c ∈ l, blankB c = false) → fieldsFrom l w ≠ []
  | [], w, h => by
    rcases h with h | ⟨c, hc, _⟩
    · rw [ff_nil]
      have : w.isEmpty = false := by cases w; exact absurd rfl h; rfl
      rw [this]
      simp
    · cases hc
  | c :: r, w, h => by
    rw [ff_cons]
    cases hb : blankB c
    · rw [if_neg (by decide)]
      exact ff_ne r _ (.inl (by simp))
    · rw [if_pos rfl]
      cases w with
      | nil =>
        rcases h with h | ⟨d, hd, hdb⟩
        · exact absurd rfl h
        · rcases List.mem_cons.1 hd with rfl | hd
          · rw [hb] at hdb; cases hdb
          · exact ff_ne r [] (.inr ⟨d, hd, hdb⟩)
      | cons y ys => simp
theorem drop_len (p : UInt8 → Bool) : ∀ l : Txt, (l.dropWhile p).length ≤ l.length
  | [] => Nat.le_refl _
  | c :: r => by
    rw [List.dropWhile_cons]
    split
    · exact Nat.le_succ_of_le (drop_len p r)
    · exact Nat.le_refl _
theorem drop_head {p : UInt8 → Bool} {c : UInt8} {r : Txt} (h : (c :: r).dropWhile p = c :: r) : p c = false := by
  cases hp : p c
  · rfl
  · rw [List.dropWhile_cons, if_pos hp] at h
    have := drop_len p r
    rw [h] at this
    simp only [List.length_cons] at this
    omega
theorem trim_drop {x : Txt} (h : trim x = x) : x.dropWhile blankB = x ∧ x.reverse.dropWhile blankB = x.reverse := by
  unfold trim at h
  have h1 := drop_len blankB x
  have h2 := drop_len blankB (x.dropWhile blankB).reverse
  have h3 : ((x.dropWhile blankB).reverse.dropWhile blankB).reverse.length = x.length := by rw [h]
  rw [List.length_reverse] at h3 h2
  have h4 : x.dropWhile blankB = x := by
    cases x with
    | nil => rfl
    | cons c r =>
      rw [List.dropWhile_cons]
      split
      · rename_i hp
        rw [List.dropWhile_cons, if_pos hp] at h2 h3
        have h5 := drop_len blankB r
        simp only [List.length_cons] at h3
        omega
      · rfl
  refine ⟨h4, ?_⟩
  rw [h4] at h
  exact List.reverse_inj.1 (by rw [h, List.reverse_reverse])
theorem clean_fields {x : Txt} (h : trim x = x) (h1 : (fields x).length = 1) : fields x = [x] := by
  obtain ⟨d1, d2⟩ := trim_drop h
  have hw : ∀ c ∈ x, blankB c = false := fun c hc => by
    cases hb : blankB c
    · rfl
    exfalso
    obtain ⟨a, b, rfl⟩ := List.append_of_mem hc
    have ha : ∃ e ∈ a, blankB e = false := by
      cases a with
      | nil => exact absurd (drop_head (p := blankB) d1) (by rw [hb]; decide)
      | cons e r => exact ⟨e, by simp, drop_head (p := blankB) d1⟩
    have hbb : ∃ e ∈ b, blankB e = false := by
      rcases List.eq_nil_or_concat b with rfl | ⟨b', e, rfl⟩
      · rw [List.reverse_append, List.reverse_cons, List.reverse_nil, List.nil_append, List.singleton_append] at d2
        exact absurd (drop_head (p := blankB) d2) (by rw [hb]; decide)
      · refine ⟨e, by simp, ?_⟩
        have e1 : (a ++ c :: b'.concat e).reverse = e :: (b'.reverse ++ c :: a.reverse) := by simp
        rw [e1] at d2
        exact drop_head (p := blankB) d2
    have n1 := ff_ne a [] (.inr ha)
    have n2 := ff_ne b [] (.inr hbb)
    rw [fields_two a c b hb, List.length_append] at h1
    have l1 : 0 < (fields a).length := List.length_pos_iff.2 n1
    have l2 : 0 < (fields b).length := List.length_pos_iff.2 n2
    omega
  exact fields_word x ⟨fun e => by subst e; simp [fields, ff_nil] at h1, hw⟩
theorem only_name {x y : Txt} (h : isB x y = true) : y = x := by simpa [isB] using h
theorem isT_name {x : Txt} (h : fields x = [x]) : isT ⟨x.toArray⟩ = isB x := by
  rw [isT_of (L := [x]) (by simpa using h)]
  funext y
  rw [Bool.eq_iff_iff]
  simp [isB]
theorem ends_facts {x : Txt} (h : endPartB x = true) : fields x = [x] ∧ inZ 14 x = true ∧ isB xTable x = false := by
  have hx : x ∈ endsL := of_decide_eq_true h
  have : ∀ y ∈ endsL, fields y = [y] ∧ inZ 14 y = true ∧ isB xTable y = false := by decide +kernel
  exact this x hx
theorem col_only {x : Txt} (h : inZ 14 x = true) (h2 : endPartB x = false) : x = xCol := by
  have hx : x ∈ SW 14 := by simpa [inZ] using h
  have : ∀ y ∈ SW 14, endPartB y = false → y = xCol := by decide +kernel
  exact this x hx h2
theorem walls_ends {x : Txt} (h1 : ¬ x = xTable) (h2 : endPartB x = false) : wallB x = false := by
  cases hw : wallB x
  · rfl
  exfalso
  have : ((x = xTd ∨ x = xTh ∨ x = xCaption) ∨ x = xTable) := by simpa [wallB, cellB] using hw
  rcases this with (rfl | rfl | rfl) | rfl
  · exact absurd h2 (by decide)
  · exact absurd h2 (by decide)
  · exact absurd h2 (by decide)
  · exact h1 rfl
theorem allow_clean {x : Txt} (h : allowB x = true) (hv : voidB x = false) : cleanB x = true := by
  have hx : x ∈ SW 15 := by simpa [allowB, inZ] using h
  have : ∀ y ∈ SW 15, trim y = y ∧ (fields y).length = 1 := by decide +kernel
  obtain ⟨h1, h2⟩ := this x hx
  unfold cleanB
  rw [decide_eq_true h1, decide_eq_true h2, hv]
  rfl
theorem not_there {S : List Txt} {L : Nat} (hr : rightK S L = true) {x : Txt} (h : cleanB x = false) (q : Txt → Bool) : findK S (isB x) q L = -1 := findK_none fun j hj => by
  cases hb : isB x (S.getD j [])
  · rfl
  exfalso
  have e : S.getD j [] = x := by simpa [isB] using hb
  have ra := ra_of (right_take hr hj)
  rw [e] at ra
  have := allow_clean ra.allow ra.void
  rw [h] at this
  cases this
/-- Of a right stack both say the same. -/
theorem dend_ended {S : List Txt} {L : Nat} (hr : rightK S L = true) (x : Txt) : dendK S L x = endedK S L x := by
  unfold dendK endedK
  split
  · rfl
  · split
    · rename_i h; rw [h]
    · rename_i hne
      cases he : endPartB x
      · rw [if_neg (by decide)]
        cases hc : cleanB x
        · rw [if_neg (by decide), not_there hr hc, not_there hr hc]
          split <;> rfl
        · rw [if_pos rfl]
          cases hz : inZ 14 x
          · rfl
          · obtain rfl := col_only hz he
            exact absurd hc (by decide +kernel)
      · rw [if_pos rfl, if_pos (ends_facts he).2.1]
theorem dendK_lt (S : List Txt) (k : Nat) (x : Txt) : dendK S k x < k := by
  unfold dendK
  split
  · exact findK_lt _ _ _ _
  · split
    · exact findK_lt _ _ _ _
    · split
      · exact findK_lt _ _ _ _
      · split
        · exact findK_lt _ _ _ _
        · omega
theorem dendK_ge (S : List Txt) (k : Nat) (x : Txt) : -1 ≤ dendK S k x := by
  unfold dendK
  split
  · exact findK_ge _ _ _ _
  · split
    · exact findK_ge _ _ _ _
    · split
      · exact findK_ge _ _ _ _
      · split
        · exact findK_ge _ _ _ _
        · omega
set_option maxRecDepth 100000 in
set_option maxHeartbeats 8000000 in
/-- **End**, of the document. -/
theorem dEnd_calls (S : List Txt) (x : Txt) (hx : x.length ≤ 1000000000) (a : Option Addr) (c : Nat) (hs : S.length ≤ 1000000000) (w : World) (h : TextsAt w a S) :
    Calls Try.prog 25 #[.slice a S.length c, .string ⟨x.toArray⟩] w fun e w' => e = .returned (.int .i64 (dendZ S S.length x)) ∧ Below w.heap.size w w' := by
  have HIS := hid_of (fun (T : ByteArray) (hT : T.size ≤ 1000000000) W => dis_calls x T hT W)
  have HABV := hid_of (fun (T U : ByteArray) (hT : T.size ≤ 1000000000) (hU : U.size ≤ 1000000000) (hd : ∀ x, isT T x = true → isT U x = false) W (hW : Below w.heap.size w W) => dabove_calls S T U hT hU hd a S.length c (Nat.le_refl _) hs W (h.below hW))
  have HIH := hid_of (HIS.out tHeads (by decide))
  have HIE := hid_of (HIS.out tEnds (by decide))
  rw [isT_heads] at HIH
  rw [isT_ends] at HIE
  have HD : Hid (dendK S S.length x = if headB x then findK S headB wallB S.length else if x = xTable then findK S (isB xTable) neverB S.length else if endPartB x then findK S (isB x) (isB xTable) S.length else if cleanB x then findK S (isB x) wallB S.length else -1) := rfl
  have hlt := dendK_lt S S.length x
  have hge := dendK_ge S S.length x
  have HZ : Hid (dendZ S S.length x = if dendK S S.length x < 0 then 0 else (S.length : Int) - dendK S S.length x) := rfl
  have HTR := hid_of (fun W => rtrim_calls ⟨x.toArray⟩ W (by show x.toArray.size ≤ _; simp; omega))
  have HFI := hid_of (fun W => rfields_calls ⟨x.toArray⟩ W (by show (x.toArray.size : Int) ≤ _; simp; omega))
  have HVO := hid_of (fun W => rin_calls ⟨x.toArray⟩ 0 W)
  have HXS : Hid ((⟨x.toArray⟩ : ByteArray).size ≤ 1000000000) := by show x.toArray.size ≤ _; simp; omega
  have hdl : (⟨x.toArray⟩ : ByteArray).data.toList = x := rfl
  rw [hdl] at HTR HFI HVO
  have HVB : Hid (inZ 0 x = voidB x) := rfl
  have HTT := hid_of (fun W (hW : Below w.heap.size w W) => dtop_calls S tTable (by decide) a S.length c (Nat.le_refl _) hs W (h.below hW))
  have hfl := fields_count x
  generalize dendZ S S.length x = z at *
  generalize dendK S S.length x = i at *
  have hwi : IntKind.i64.wrap ((S.length : Int) - i) = (S.length : Int) - i := by rw [IntKind.wrap_i64]; omega
  clear HIS h hdl hx
  by_cases hi : i < 0
  · have hd : decide (i < 0) = true := decide_eq_true hi
    have HZ2 : Hid (z = 0) := by rw [HZ.out]; exact if_pos hi
    clear HZ
    cases hh : headB x
    rotate_left
    · have HE : Hid (i = findK S headB wallB S.length) := by rw [HD.out]; exact if_pos hh
      have HA := hid_of (HABV.out tHeads tWalls (by decide) (by decide) (fun y hy => by rw [isT_heads] at hy; rw [isT_walls]; exact no_heads y hy))
      rw [isT_heads, isT_walls, ← HE.out] at HA
      rw [hh] at HIH
      clear HD HE hh HABV HIE HTR HFI HVO HTT
      go_enter Try.func25, Try.ntmps25
      go_wp2_with fail
      (go_at_call 43; refine (HIH.out _).mono ?_; rintro e w1 ⟨rfl, hb1⟩)
      have HB1 := hid_of hb1
      clear hb1
      go_wp2_with fail
      (go_at_call 44; refine (HA.out _ HB1.out).mono ?_; rintro e w9 ⟨rfl, hb9⟩)
      go_wp2_with fail
      go_ret
      exact ⟨by rw [HZ2.out]; rfl, HB1.out.trans (hb9.mono HB1.out.size)⟩
    rw [hh] at HIH
    rw [if_neg (show ¬ headB x = true by rw [hh]; decide)] at HD
    clear hh
    by_cases ht : x = [116, 97, 98, 108, 101]
    · have HE : Hid (i = topI S tTable S.length) := by rw [HD.out]; show _ = findK S (isT tTable) neverB S.length; rw [isT_table]; exact if_pos ht
      rw [← HE.out] at HTT
      subst ht
      clear HD HE HABV HIE HTR HFI HVO
      go_enter Try.func25, Try.ntmps25
      go_wp2_with fail
      (go_at_call 43; refine (HIH.out _).mono ?_; rintro e w1 ⟨rfl, hb1⟩)
      have HB1 := hid_of hb1
      clear hb1
      go_wp2_with fail
      (go_at_call 45; refine (HTT.out _ HB1.out).mono ?_; rintro e w9 ⟨rfl, hb9⟩)
      go_wp2_with fail
      go_ret
      exact ⟨by rw [HZ2.out]; rfl, HB1.out.trans (hb9.mono HB1.out.size)⟩
    have g1 : (x == [116, 97, 98, 108, 101]) = false := by rw [beq_eq_false_iff_ne]; exact ht
    rw [if_neg (show ¬ x = xTable from ht)] at HD
    cases he : endPartB x
    rotate_left
    · have HE : Hid (i = findK S (isB x) (isB xTable) S.length) := by rw [HD.out]; exact if_pos he
      obtain ⟨f1, -, f3⟩ := ends_facts he
      have HA := hid_of (HABV.out ⟨x.toArray⟩ tTable HXS.out (by decide) (fun y hy => by rw [isT_name f1] at hy; rw [isT_table, only_name hy]; exact f3))
      rw [isT_name f1, isT_table, ← HE.out] at HA
      rw [he] at HIE
      clear HD HE he HABV HTR HFI HVO HTT f1 f3 ht
      go_enter Try.func25, Try.ntmps25
      go_wp2_with fail
      (go_at_call 43; refine (HIH.out _).mono ?_; rintro e w1 ⟨rfl, hb1⟩)
      have HB1 := hid_of hb1
      clear hb1
      go_wp2_with fail
      (go_at_call 43; refine (HIE.out _).mono ?_; rintro e w2 ⟨rfl, hb2⟩)
      have HB2 : Hid (Below w.heap.size w w2) := HB1.out.trans (hb2.mono HB1.out.size)
      clear hb2
      go_wp2_with fail
      (go_at_call 44; refine (HA.out _ HB2.out).mono ?_; rintro e w9 ⟨rfl, hb9⟩)
      go_wp2_with fail
      go_ret
      exact ⟨by rw [HZ2.out]; rfl, HB2.out.trans (hb9.mono HB2.out.size)⟩
    rw [he] at HIE
    rw [if_neg (show ¬ endPartB x = true by rw [he]; decide)] at HD
    have HWL := hid_of (walls_ends ht he)
    clear he ht HTT
    by_cases h1 : trim x = x
    · rw [h1] at HTR
      have g2 : (x == x) = true := by simp
      by_cases h2 : (fields x).length = 1
      · have g3 : (((fields x).length : Int) == 1) = true := by rw [h2]; rfl
        cases h3 : voidB x
        · have HCL : Hid (cleanB x = true) := by show _ = _; unfold cleanB; rw [decide_eq_true h1, decide_eq_true h2, h3]; rfl
          have HE : Hid (i = findK S (isB x) wallB S.length) := by rw [HD.out]; exact if_pos HCL.out
          have HA := hid_of (HABV.out ⟨x.toArray⟩ tWalls HXS.out (by decide) (fun y hy => by rw [isT_name (clean_fields h1 h2)] at hy; rw [isT_walls, only_name hy]; exact HWL.out))
          rw [isT_name (clean_fields h1 h2), isT_walls, ← HE.out] at HA
          rw [← HVB.out] at h3
          clear HD HE HABV HCL HWL h1 h2
          generalize fields x = fx at *
          go_enter Try.func25, Try.ntmps25
          go_wp2_with fail
          (go_at_call 43; refine (HIH.out _).mono ?_; rintro e w1 ⟨rfl, hb1⟩)
          have HB1 := hid_of hb1
          clear hb1
          go_wp2_with fail
          (go_at_call 43; refine (HIE.out _).mono ?_; rintro e w2 ⟨rfl, hb2⟩)
          have HB2 : Hid (Below w.heap.size w w2) := HB1.out.trans (hb2.mono HB1.out.size)
          clear hb2
          go_wp2_with fail
          (go_at_call 46; refine (HTR.out _).mono ?_; rintro e w' ⟨rfl, hw'⟩; have hx' := hw'.symm; subst hx')
          go_wp2_with fail
          (go_at_call 47; refine (HFI.out _).mono ?_; rintro e w4 ⟨v4, rfl, ho4, hb4⟩; obtain ⟨a4, c4, rfl⟩ := owns_slice ho4)
          have HB4 : Hid (Below w.heap.size w w4) := HB2.out.trans (hb4.mono HB2.out.size)
          clear hb4 ho4
          go_wp2_with fail
          (go_at_call 38; refine (HVO.out _).mono ?_; rintro e w5 ⟨rfl, hb5⟩; rw [h3])
          have HB5 : Hid (Below w.heap.size w w5) := HB4.out.trans (hb5.mono HB4.out.size)
          clear hb5
          go_wp2_with fail
          (go_at_call 44; refine (HA.out _ HB5.out).mono ?_; rintro e w9 ⟨rfl, hb9⟩)
          go_wp2_with fail
          go_ret
          exact ⟨by rw [HZ2.out]; rfl, HB5.out.trans (hb9.mono HB5.out.size)⟩
        · have HCL : Hid (cleanB x = false) := by show _ = _; unfold cleanB; rw [h3]; simp
          have HE : Hid (i = -1) := by rw [HD.out]; exact if_neg (by rw [HCL.out]; decide)
          rw [← HVB.out] at h3
          clear HD HABV HCL HWL h1 h2
          generalize fields x = fx at *
          obtain rfl : i = -1 := HE.out
          go_enter Try.func25, Try.ntmps25
          go_wp2_with fail
          (go_at_call 43; refine (HIH.out _).mono ?_; rintro e w1 ⟨rfl, hb1⟩)
          have HB1 := hid_of hb1
          clear hb1
          go_wp2_with fail
          (go_at_call 43; refine (HIE.out _).mono ?_; rintro e w2 ⟨rfl, hb2⟩)
          have HB2 : Hid (Below w.heap.size w w2) := HB1.out.trans (hb2.mono HB1.out.size)
          clear hb2
          go_wp2_with fail
          (go_at_call 46; refine (HTR.out _).mono ?_; rintro e w' ⟨rfl, hw'⟩; have hx' := hw'.symm; subst hx')
          go_wp2_with fail
          (go_at_call 47; refine (HFI.out _).mono ?_; rintro e w4 ⟨v4, rfl, ho4, hb4⟩; obtain ⟨a4, c4, rfl⟩ := owns_slice ho4)
          have HB4 : Hid (Below w.heap.size w w4) := HB2.out.trans (hb4.mono HB2.out.size)
          clear hb4 ho4
          go_wp2_with fail
          (go_at_call 38; refine (HVO.out _).mono ?_; rintro e w5 ⟨rfl, hb5⟩; rw [h3])
          have HB5 : Hid (Below w.heap.size w w5) := HB4.out.trans (hb5.mono HB4.out.size)
          clear hb5
          go_wp2_with fail
          go_ret
          exact ⟨by rw [HZ2.out]; rfl, HB5.out⟩
      · have g3 : (((fields x).length : Int) == 1) = false := by rw [beq_eq_false_iff_ne]; omega
        have HCL : Hid (cleanB x = false) := by show _ = _; unfold cleanB; rw [decide_eq_false h2]; simp
        have HE : Hid (i = -1) := by rw [HD.out]; exact if_neg (by rw [HCL.out]; decide)
        clear HD HABV HCL HWL h1 h2 HVO
        generalize fields x = fx at *
        obtain rfl : i = -1 := HE.out
        go_enter Try.func25, Try.ntmps25
        go_wp2_with fail
        (go_at_call 43; refine (HIH.out _).mono ?_; rintro e w1 ⟨rfl, hb1⟩)
        have HB1 := hid_of hb1
        clear hb1
        go_wp2_with fail
        (go_at_call 43; refine (HIE.out _).mono ?_; rintro e w2 ⟨rfl, hb2⟩)
        have HB2 : Hid (Below w.heap.size w w2) := HB1.out.trans (hb2.mono HB1.out.size)
        clear hb2
        go_wp2_with fail
        (go_at_call 46; refine (HTR.out _).mono ?_; rintro e w' ⟨rfl, hw'⟩; have hx' := hw'.symm; subst hx')
        go_wp2_with fail
        (go_at_call 47; refine (HFI.out _).mono ?_; rintro e w4 ⟨v4, rfl, ho4, hb4⟩; obtain ⟨a4, c4, rfl⟩ := owns_slice ho4)
        have HB4 : Hid (Below w.heap.size w w4) := HB2.out.trans (hb4.mono HB2.out.size)
        clear hb4 ho4
        go_wp2_with fail
        go_ret
        exact ⟨by rw [HZ2.out]; rfl, HB4.out⟩
    · have g2 : (trim x == x) = false := by rw [beq_eq_false_iff_ne]; exact h1
      have HCL : Hid (cleanB x = false) := by show _ = _; unfold cleanB; rw [decide_eq_false h1]; rfl
      have HE : Hid (i = -1) := by rw [HD.out]; exact if_neg (by rw [HCL.out]; decide)
      clear HD HABV HCL HWL h1 HVO HFI
      generalize trim x = tx at *
      obtain rfl : i = -1 := HE.out
      go_enter Try.func25, Try.ntmps25
      go_wp2_with fail
      (go_at_call 43; refine (HIH.out _).mono ?_; rintro e w1 ⟨rfl, hb1⟩)
      have HB1 := hid_of hb1
      clear hb1
      go_wp2_with fail
      (go_at_call 43; refine (HIE.out _).mono ?_; rintro e w2 ⟨rfl, hb2⟩)
      have HB2 : Hid (Below w.heap.size w w2) := HB1.out.trans (hb2.mono HB1.out.size)
      clear hb2
      go_wp2_with fail
      (go_at_call 46; refine (HTR.out _).mono ?_; rintro e w' ⟨rfl, hw'⟩; have hx' := hw'.symm; subst hx')
      go_wp2_with fail
      go_ret
      exact ⟨by rw [HZ2.out]; rfl, HB2.out⟩
  · have hd : decide (i < 0) = false := decide_eq_false hi
    have HZ2 : Hid (z = (S.length : Int) - i) := by rw [HZ.out]; exact if_neg hi
    clear HZ
    cases hh : headB x
    rotate_left
    · have HE : Hid (i = findK S headB wallB S.length) := by rw [HD.out]; exact if_pos hh
      have HA := hid_of (HABV.out tHeads tWalls (by decide) (by decide) (fun y hy => by rw [isT_heads] at hy; rw [isT_walls]; exact no_heads y hy))
      rw [isT_heads, isT_walls, ← HE.out] at HA
      rw [hh] at HIH
      clear HD HE hh HABV HIE HTR HFI HVO HTT
      go_enter Try.func25, Try.ntmps25
      go_wp2_with fail
      (go_at_call 43; refine (HIH.out _).mono ?_; rintro e w1 ⟨rfl, hb1⟩)
      have HB1 := hid_of hb1
      clear hb1
      go_wp2_with fail
      (go_at_call 44; refine (HA.out _ HB1.out).mono ?_; rintro e w9 ⟨rfl, hb9⟩)
      go_wp2_with fail
      go_ret
      exact ⟨by rw [HZ2.out]; rfl, HB1.out.trans (hb9.mono HB1.out.size)⟩
    rw [hh] at HIH
    rw [if_neg (show ¬ headB x = true by rw [hh]; decide)] at HD
    clear hh
    by_cases ht : x = [116, 97, 98, 108, 101]
    · have HE : Hid (i = topI S tTable S.length) := by rw [HD.out]; show _ = findK S (isT tTable) neverB S.length; rw [isT_table]; exact if_pos ht
      rw [← HE.out] at HTT
      subst ht
      clear HD HE HABV HIE HTR HFI HVO
      go_enter Try.func25, Try.ntmps25
      go_wp2_with fail
      (go_at_call 43; refine (HIH.out _).mono ?_; rintro e w1 ⟨rfl, hb1⟩)
      have HB1 := hid_of hb1
      clear hb1
      go_wp2_with fail
      (go_at_call 45; refine (HTT.out _ HB1.out).mono ?_; rintro e w9 ⟨rfl, hb9⟩)
      go_wp2_with fail
      go_ret
      exact ⟨by rw [HZ2.out]; rfl, HB1.out.trans (hb9.mono HB1.out.size)⟩
    have g1 : (x == [116, 97, 98, 108, 101]) = false := by rw [beq_eq_false_iff_ne]; exact ht
    rw [if_neg (show ¬ x = xTable from ht)] at HD
    cases he : endPartB x
    rotate_left
    · have HE : Hid (i = findK S (isB x) (isB xTable) S.length) := by rw [HD.out]; exact if_pos he
      obtain ⟨f1, -, f3⟩ := ends_facts he
      have HA := hid_of (HABV.out ⟨x.toArray⟩ tTable HXS.out (by decide) (fun y hy => by rw [isT_name f1] at hy; rw [isT_table, only_name hy]; exact f3))
      rw [isT_name f1, isT_table, ← HE.out] at HA
      rw [he] at HIE
      clear HD HE he HABV HTR HFI HVO HTT f1 f3 ht
      go_enter Try.func25, Try.ntmps25
      go_wp2_with fail
      (go_at_call 43; refine (HIH.out _).mono ?_; rintro e w1 ⟨rfl, hb1⟩)
      have HB1 := hid_of hb1
      clear hb1
      go_wp2_with fail
      (go_at_call 43; refine (HIE.out _).mono ?_; rintro e w2 ⟨rfl, hb2⟩)
      have HB2 : Hid (Below w.heap.size w w2) := HB1.out.trans (hb2.mono HB1.out.size)
      clear hb2
      go_wp2_with fail
      (go_at_call 44; refine (HA.out _ HB2.out).mono ?_; rintro e w9 ⟨rfl, hb9⟩)
      go_wp2_with fail
      go_ret
      exact ⟨by rw [HZ2.out]; rfl, HB2.out.trans (hb9.mono HB2.out.size)⟩
    rw [he] at HIE
    rw [if_neg (show ¬ endPartB x = true by rw [he]; decide)] at HD
    have HWL := hid_of (walls_ends ht he)
    clear he ht HTT
    by_cases h1 : trim x = x
    · rw [h1] at HTR
      have g2 : (x == x) = true := by simp
      by_cases h2 : (fields x).length = 1
      · have g3 : (((fields x).length : Int) == 1) = true := by rw [h2]; rfl
        cases h3 : voidB x
        · have HCL : Hid (cleanB x = true) := by show _ = _; unfold cleanB; rw [decide_eq_true h1, decide_eq_true h2, h3]; rfl
          have HE : Hid (i = findK S (isB x) wallB S.length) := by rw [HD.out]; exact if_pos HCL.out
          have HA := hid_of (HABV.out ⟨x.toArray⟩ tWalls HXS.out (by decide) (fun y hy => by rw [isT_name (clean_fields h1 h2)] at hy; rw [isT_walls, only_name hy]; exact HWL.out))
          rw [isT_name (clean_fields h1 h2), isT_walls, ← HE.out] at HA
          rw [← HVB.out] at h3
          clear HD HE HABV HCL HWL h1 h2
          generalize fields x = fx at *
          go_enter Try.func25, Try.ntmps25
          go_wp2_with fail
          (go_at_call 43; refine (HIH.out _).mono ?_; rintro e w1 ⟨rfl, hb1⟩)
          have HB1 := hid_of hb1
          clear hb1
          go_wp2_with fail
          (go_at_call 43; refine (HIE.out _).mono ?_; rintro e w2 ⟨rfl, hb2⟩)
          have HB2 : Hid (Below w.heap.size w w2) := HB1.out.trans (hb2.mono HB1.out.size)
          clear hb2
          go_wp2_with fail
          (go_at_call 46; refine (HTR.out _).mono ?_; rintro e w' ⟨rfl, hw'⟩; have hx' := hw'.symm; subst hx')
          go_wp2_with fail
          (go_at_call 47; refine (HFI.out _).mono ?_; rintro e w4 ⟨v4, rfl, ho4, hb4⟩; obtain ⟨a4, c4, rfl⟩ := owns_slice ho4)
          have HB4 : Hid (Below w.heap.size w w4) := HB2.out.trans (hb4.mono HB2.out.size)
          clear hb4 ho4
          go_wp2_with fail
          (go_at_call 38; refine (HVO.out _).mono ?_; rintro e w5 ⟨rfl, hb5⟩; rw [h3])
          have HB5 : Hid (Below w.heap.size w w5) := HB4.out.trans (hb5.mono HB4.out.size)
          clear hb5
          go_wp2_with fail
          (go_at_call 44; refine (HA.out _ HB5.out).mono ?_; rintro e w9 ⟨rfl, hb9⟩)
          go_wp2_with fail
          go_ret
          exact ⟨by rw [HZ2.out]; rfl, HB5.out.trans (hb9.mono HB5.out.size)⟩
        · have HCL : Hid (cleanB x = false) := by show _ = _; unfold cleanB; rw [h3]; simp
          have HE : Hid (i = -1) := by rw [HD.out]; exact if_neg (by rw [HCL.out]; decide)
          rw [← HVB.out] at h3
          clear HD HABV HCL HWL h1 h2
          generalize fields x = fx at *
          exact absurd HE.out (by omega)
      · have g3 : (((fields x).length : Int) == 1) = false := by rw [beq_eq_false_iff_ne]; omega
        have HCL : Hid (cleanB x = false) := by show _ = _; unfold cleanB; rw [decide_eq_false h2]; simp
        have HE : Hid (i = -1) := by rw [HD.out]; exact if_neg (by rw [HCL.out]; decide)
        clear HD HABV HCL HWL h1 h2 HVO
        generalize fields x = fx at *
        exact absurd HE.out (by omega)
    · have g2 : (trim x == x) = false := by rw [beq_eq_false_iff_ne]; exact h1
      have HCL : Hid (cleanB x = false) := by show _ = _; unfold cleanB; rw [decide_eq_false h1]; rfl
      have HE : Hid (i = -1) := by rw [HD.out]; exact if_neg (by rw [HCL.out]; decide)
      clear HD HABV HCL HWL h1 HVO HFI
      generalize trim x = tx at *
      exact absurd HE.out (by omega)
end Go.Proofs.Ytdkcibafbdmajaa.E
