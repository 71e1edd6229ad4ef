/- What is proved here: laws and contracts of RSafeC, RSafeM, one behind the other (each says its own). -/
import Derived.Test.YtegkdgmpkfpjmaaDoorRWhole
import Derived.Test.YtegkdgmpkfpjmaaDoorBun13
import Derived.Test.YtegkdgmpkfpjmaaDoorRWord
import Derived.Test.YtegkdgmpkfpjmaaDoorRPlace
/- What is proved here: Whole and Safe of package raw of any name, and the document's Mend. -/
namespace Go.Proofs.YtegkdgmpkfpjmaaDoor.R
open Go.RowKit Go.Shelf Go.Proofs.YtegkdgmpkfpjmaaDoor.U Go.Proofs.YtegkdgmpkfpjmaaDoor.N

set_option maxRecDepth 100000 in
set_option maxHeartbeats 1000000 in
/-- **Whole** of a name whose content is data. -/
theorem whole_data (l bs : List UInt8) (w : World) (hw : whZ l = 0) (hs : l.length ≤ 1000000000000) (hm : MaxOk w) :
    Calls Tryd.prog 13 #[.string ⟨l.toArray⟩, .string ⟨bs.toArray⟩] w fun e W' => e = .returned (.tuple #[.string ⟨#[]⟩, .int .i64 0, .bool false, .int .i64 100]) ∧ W' = w := by
  have HN := hid_of (new_data l w hw hs hm)
  clear hm hw
  go_enter Tryd.func13, Tryd.ntmps13
  go_wp2_with fail
  (go_at_call 18; refine HN.out.mono ?_; rintro e w1 ⟨rfl, h1⟩; obtain rfl : w = w1 := h1.symm)
  go_wp2_with fail
  (try simp only [Exit.inBlock, Exit.then])
  refine bodyPost_ret (results_tmp4 rfl _ _ _) rfl ?_
  exact ⟨rfl, rfl⟩
/-- The end tag of a name. -/
abbrev endB (l : List UInt8) : List UInt8 := [60, 47] ++ l ++ [62]
theorem str_add (x y : List UInt8) : (⟨x.toArray⟩ : ByteArray) ++ ⟨y.toArray⟩ = ⟨(x ++ y).toArray⟩ := by
  apply ByteArray.ext
  simp
/-- What Safe leaves. -/
def SEnd (w : World) (l bs : List UInt8) (e : Ending) (W' : World) : Prop := ∃ t n ok, e = .returned (.tuple #[.bool (decide (t = encs (runesI bs))), .int .i64 0]) ∧ WholeIs (zs l) (p0 l) (bs ++ endB l) t n ok ∧ Below w.heap.size w W'
set_option maxRecDepth 100000 in
set_option maxHeartbeats 1000000 in
/-- **Safe.** -/
theorem safe_calls (l : List UInt8) (hw : whZ l ≠ 0) (bs : List UInt8) (w : World) (hs : bs.length ≤ 9000000) (hT : Lib.Utf8Tabs (Tryd.lays32_ren.g 2) (Tryd.lays32_ren.g 3) w) (hm : MaxOk w) :
    Calls Tryd.prog 14 #[.string ⟨l.toArray⟩, .string ⟨bs.toArray⟩] w (SEnd w l bs) := by
  have hln := wh_len l hw
  have HW := hid_of (whole_calls l hw (bs ++ endB l) w (by simp; omega) hT hm)
  have HM : Hid (∀ W, Below w.heap.size w W → Calls Tryd.prog 32 #[.string ⟨bs.toArray⟩] W fun e W' => e = .returned (.string ⟨(encs (runesI bs)).toArray⟩) ∧ Below W.heap.size W W') := fun W hb => mend_calls bs W (by omega) (tabs_below hT hb)
  have HF : Hid (∀ e W', (∃ t n ok, e = .returned (.tuple #[.bool (decide (t = encs (runesI bs))), .int .i64 0]) ∧ WholeIs (zs l) (p0 l) (bs ++ endB l) t n ok ∧ Below w.heap.size w W') → SEnd w l bs e W') := fun _ _ h => h
  have a1 : (⟨bs.toArray⟩ : ByteArray) ++ ⟨#[60, 47]⟩ = ⟨(bs ++ [60, 47]).toArray⟩ := str_add bs [60, 47]
  have a2 : (⟨(bs ++ [60, 47]).toArray⟩ : ByteArray) ++ ⟨l.toArray⟩ = ⟨(bs ++ [60, 47] ++ l).toArray⟩ := str_add _ _
  have a3 : (⟨(bs ++ [60, 47] ++ l).toArray⟩ : ByteArray) ++ ⟨#[62]⟩ = ⟨(bs ++ endB l).toArray⟩ := by rw [str_add _ [62]]; simp
  obtain ⟨x1, hx1⟩ : ∃ x1 : ByteArray, ⟨(bs ++ [60, 47]).toArray⟩ = x1 := ⟨_, rfl⟩
  obtain ⟨x2, hx2⟩ : ∃ x2 : ByteArray, ⟨(bs ++ [60, 47] ++ l).toArray⟩ = x2 := ⟨_, rfl⟩
  obtain ⟨x3, hx3⟩ : ∃ x3 : ByteArray, ⟨(bs ++ endB l).toArray⟩ = x3 := ⟨_, rfl⟩
  obtain ⟨ms, hms⟩ : ∃ ms, encs (runesI bs) = ms := ⟨_, rfl⟩
  have sb := arr_size bs
  have sl := arr_size l
  have s1 : x1.size = bs.length + 2 := by rw [← hx1, arr_size]; simp
  have s2 : x2.size = bs.length + 2 + l.length := by rw [← hx2, arr_size]; simp; omega
  rw [hx1] at a1 a2
  rw [hx2] at a2 a3
  rw [hx3] at a3 HW
  rw [hms] at HM HF
  have HWE : Hid (∀ e W', WEnd w l (bs ++ endB l) e W' → ∃ t n ok, e = .returned (.tuple #[.string ⟨List.toArray t⟩, .int .i64 (n : Nat), .bool ok, .int .i64 0]) ∧ WholeIs (zs l) (p0 l) (bs ++ endB l) t n ok ∧ Below w.heap.size w W') := fun _ _ h => h
  clear hT hm hw hx1 hx2 hx3 hms
  go_enter Tryd.func14, Tryd.ntmps14
  go_wp2_with fail
  go_at_call 13
  refine HW.out.mono ?_
  intro e w1 hne
  obtain ⟨t, n, ok, rfl, hW, hb1⟩ := HWE.out e w1 hne
  clear hne
  have HWW := hid_of hW
  have heq : (t == ms) = decide (t = ms) := by
    by_cases h : t = ms
    · subst h; simp
    · simp [h]
  clear hW
  go_wp2_with fail
  (go_at_call 32; refine (HM.out _ hb1).mono ?_; rintro e w2 ⟨rfl, hb2⟩)
  go_wp2_with fail
  go_ret2
  exact HF.out _ _ ⟨t, n, ok, by first | rfl | (rw [← heq]; rfl), HWW.out, hb1.trans (hb2.mono hb1.size)⟩
set_option maxRecDepth 100000 in
set_option maxHeartbeats 1000000 in
/-- **Safe** of a name whose content is data. -/
theorem safe_data (l bs : List UInt8) (w : World) (hw : whZ l = 0) (hs : l.length ≤ 1048576) (hb : bs.length ≤ 1048576) (hm : MaxOk w) :
    Calls Tryd.prog 14 #[.string ⟨l.toArray⟩, .string ⟨bs.toArray⟩] w fun e W' => e = .returned (.tuple #[.bool false, .int .i64 100]) ∧ W' = w := by
  have HW := hid_of (whole_data l (bs ++ endB l) w hw (by omega) hm)
  have a1 : (⟨bs.toArray⟩ : ByteArray) ++ ⟨#[60, 47]⟩ = ⟨(bs ++ [60, 47]).toArray⟩ := str_add bs [60, 47]
  have a2 : (⟨(bs ++ [60, 47]).toArray⟩ : ByteArray) ++ ⟨l.toArray⟩ = ⟨(bs ++ [60, 47] ++ l).toArray⟩ := str_add _ _
  have a3 : (⟨(bs ++ [60, 47] ++ l).toArray⟩ : ByteArray) ++ ⟨#[62]⟩ = ⟨(bs ++ endB l).toArray⟩ := by rw [str_add _ [62]]; simp
  obtain ⟨x1, hx1⟩ : ∃ x1 : ByteArray, ⟨(bs ++ [60, 47]).toArray⟩ = x1 := ⟨_, rfl⟩
  obtain ⟨x2, hx2⟩ : ∃ x2 : ByteArray, ⟨(bs ++ [60, 47] ++ l).toArray⟩ = x2 := ⟨_, rfl⟩
  obtain ⟨x3, hx3⟩ : ∃ x3 : ByteArray, ⟨(bs ++ endB l).toArray⟩ = x3 := ⟨_, rfl⟩
  have sb := arr_size bs
  have sl := arr_size l
  have s1 : x1.size = bs.length + 2 := by rw [← hx1, arr_size]; simp
  have s2 : x2.size = bs.length + 2 + l.length := by rw [← hx2, arr_size]; simp; omega
  rw [hx1] at a1 a2
  rw [hx2] at a2 a3
  rw [hx3] at a3 HW
  clear hm hw hx1 hx2 hx3
  go_enter Tryd.func14, Tryd.ntmps14
  go_wp2_with fail
  (go_at_call 13; refine HW.out.mono ?_; rintro e w1 ⟨rfl, h1⟩; obtain rfl : w = w1 := h1.symm)
  go_wp2_with fail
  go_ret2
  exact ⟨rfl, rfl⟩
end Go.Proofs.YtegkdgmpkfpjmaaDoor.R

/- What is proved here: plain facts: what Safe tells is what the document asks. -/
namespace Go.Proofs.YtegkdgmpkfpjmaaDoor.R
open Go.RowKit Go.Shelf Go.Proofs.YtegkdgmpkfpjmaaDoor.U Go.Proofs.YtegkdgmpkfpjmaaDoor.N

theorem endB_eq (l : List UInt8) : endB l = 60 :: 47 :: (l ++ [62]) := by simp
theorem endB_runes (l : List UInt8) (hw : whZ l ≠ 0) : runesI (endB l) = 60 :: 47 :: (zs l ++ [62]) := by
  have hlow := wh_low l hw
  have : ∀ (m : List UInt8), (∀ c ∈ m, 97 ≤ c.toNat ∧ c.toNat ≤ 122) → runesI (m ++ [62]) = zs m ++ [62] := by
    intro m
    induction m with
    | nil => intro _; rw [List.nil_append, runesI_ascii 62 [] (by decide)]; rfl
    | cons c t ih =>
      intro h
      rw [List.cons_append, runesI_ascii c _ (by have := h c (by simp); omega), ih (fun x hx => h x (by simp [hx]))]
      rfl
  have h60 : ((60 : UInt8).toNat : Int) = 60 := rfl
  have h47 : ((47 : UInt8).toNat : Int) = 47 := rfl
  rw [endB_eq, runesI_ascii 60 _ (by decide), runesI_ascii 47 _ (by decide), this l hlow, h60, h47]
theorem with_end (l : List UInt8) (hw : whZ l ≠ 0) (bs : List UInt8) : runesI (bs ++ endB l) = runesI bs ++ (60 :: 47 :: (zs l ++ [62])) := by
  rw [runesI_append bs (endB l) (.inr (by rw [endB_eq]; show (60 : UInt8).toNat < 128; decide)), endB_runes l hw]
theorem encs_inj {x y : List Int} (hx : x.map mendR = x) (hy : y.map mendR = y) (h : encs x = encs y) : x = y := by
  have h1 := (runesI_encs x).1
  have h2 := (runesI_encs y).1
  rw [hx] at h1
  rw [hy] at h2
  rw [← h1, ← h2, h]
theorem take_mend (bs : List UInt8) (k : Nat) : ((runesI bs).take k).map mendR = (runesI bs).take k := by rw [List.map_take, runesI_mend]
/-- **Safe, as the document says it.** -/
theorem safe_right (l : List UInt8) (hw : whZ l ≠ 0) (bs t : List UInt8) (n : Nat) (ok : Bool) (hW : WholeIs (zs l) (p0 l) (bs ++ endB l) t n ok) :
    match refR (zs l) (p0 l) (runesI (bs ++ endB l)) with
    | none => decide (t = encs (runesI bs)) = false
    | some k => decide (t = encs (runesI bs)) = (decide (encs ((runesI (bs ++ endB l)).take k) = encs (runesI bs)) && decide (placeV (bs ++ endB l) (k + 2 + l.length + 1) = (bs ++ endB l).length)) := by
  have hnm := wh_ok l hw
  have hp := p0_range l
  have hlr : (runesI (bs ++ endB l)).length = (runesI bs).length + (l.length + 3) := by rw [with_end l hw]; simp
  cases hr : refR (zs l) (p0 l) (runesI (bs ++ endB l)) with
  | none =>
    obtain ⟨_, _, h3⟩ := whole_none hnm hp.1 hp.2 hW hr
    show decide (t = encs (runesI bs)) = false
    rw [decide_eq_false_iff_not, h3]
    intro h
    have := congrArg List.length (encs_inj (runesI_mend _) (runesI_mend _) h)
    omega
  | some k =>
    obtain ⟨rfl, h2, h3, h4, h5⟩ := whole_some hnm hp.1 hp.2 hW hr
    show decide (t = encs (runesI bs)) = (decide (encs ((runesI (bs ++ endB l)).take k) = encs (runesI bs)) && decide (placeV (bs ++ endB l) (k + 2 + l.length + 1) = (bs ++ endB l).length))
    rw [h2]
    by_cases he : encs ((runesI (bs ++ endB l)).take k) = encs (runesI bs)
    · have hpl := whole_place hp.1 (by omega) hW
      rw [h5, show (zs l).length = l.length by simp] at hpl
      have hk : k = (runesI bs).length := by
        have h6 := congrArg List.length (encs_inj (take_mend _ _) (runesI_mend _) he)
        have h7 : k ≤ (runesI (bs ++ endB l)).length := by
          have h8 : runesI (bs ++ endB l) = runesI ((bs ++ endB l).take n) ++ runesI ((bs ++ endB l).drop n) := by
            have := h4 ((bs ++ endB l).drop n)
            rwa [List.take_append_drop] at this
          have := congrArg List.length h8
          rw [List.length_append, h5] at this
          omega
        rw [List.length_take] at h6
        omega
      have hn : n = (bs ++ endB l).length := by
        have h8 : runesI (bs ++ endB l) = runesI ((bs ++ endB l).take n) ++ runesI ((bs ++ endB l).drop n) := by
          have := h4 ((bs ++ endB l).drop n)
          rwa [List.take_append_drop] at this
        have h9 := congrArg List.length h8
        rw [List.length_append, h5, hlr, show (zs l).length = l.length by simp, runesI_length ((bs ++ endB l).drop n)] at h9
        have h10 := pcs_four ((bs ++ endB l).drop n)
        simp only [List.length_drop] at h10
        omega
      rw [show k + 2 + l.length + 1 = k + 3 + l.length by omega, hpl, decide_eq_true he, decide_eq_true hn]
      rfl
    · rw [decide_eq_false he]
      rfl
end Go.Proofs.YtegkdgmpkfpjmaaDoor.R
