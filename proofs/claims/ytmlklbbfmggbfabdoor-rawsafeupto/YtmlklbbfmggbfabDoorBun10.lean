/- What is proved here: laws and contracts of RSafeM, RRMend, one behind the other (each says its own). -/
import Derived.Test.YtmlklbbfmggbfabDoorRPlace
import Derived.Test.YtmlklbbfmggbfabDoorRSafeC
import Derived.Test.YtmlklbbfmggbfabDoorMend
import Derived.Test.YtmlklbbfmggbfabDoorMathB
/- What is proved here: plain facts: what Safe tells is what the document asks. -/
namespace Go.Proofs.YtmlklbbfmggbfabDoor.R
open Go.RowKit Go.Shelf Go.Proofs.YtmlklbbfmggbfabDoor.U Go.Proofs.YtmlklbbfmggbfabDoor.N

theorem endB_eq (l : List UInt8) : endB l = 60 :: 47 :: (l ++ [62]) := by simp
theorem endB_runes (l : List UInt8) (hw : whZ l ≠ 0) : runesI (endB l) = 60 :: 47 :: (zs l ++ [62]) := by
  have hlow := wh_low l hw
  have : ∀ (m : List UInt8), (∀ c ∈ m, 97 ≤ c.toNat ∧ c.toNat ≤ 122) → runesI (m ++ [62]) = zs m ++ [62] := by
    intro m
    induction m with
    | nil => intro _; rw [List.nil_append, runesI_ascii 62 [] (by decide)]; rfl
    | cons c t ih =>
      intro h
      rw [List.cons_append, runesI_ascii c _ (by have := h c (by simp); omega), ih (fun x hx => h x (by simp [hx]))]
      rfl
  have h60 : ((60 : UInt8).toNat : Int) = 60 := rfl
  have h47 : ((47 : UInt8).toNat : Int) = 47 := rfl
  rw [endB_eq, runesI_ascii 60 _ (by decide), runesI_ascii 47 _ (by decide), this l hlow, h60, h47]
theorem with_end (l : List UInt8) (hw : whZ l ≠ 0) (bs : List UInt8) : runesI (bs ++ endB l) = runesI bs ++ (60 :: 47 :: (zs l ++ [62])) := by
  rw [runesI_append bs (endB l) (.inr (by rw [endB_eq]; show (60 : UInt8).toNat < 128; decide)), endB_runes l hw]
theorem encs_inj {x y : List Int} (hx : x.map mendR = x) (hy : y.map mendR = y) (h : encs x = encs y) : x = y := by
  have h1 := (runesI_encs x).1
  have h2 := (runesI_encs y).1
  rw [hx] at h1
  rw [hy] at h2
  rw [← h1, ← h2, h]
theorem take_mend (bs : List UInt8) (k : Nat) : ((runesI bs).take k).map mendR = (runesI bs).take k := by rw [List.map_take, runesI_mend]
/-- **Safe, as the document says it.** -/
theorem safe_right (l : List UInt8) (hw : whZ l ≠ 0) (bs t : List UInt8) (n : Nat) (ok : Bool) (hW : WholeIs (zs l) (p0 l) (bs ++ endB l) t n ok) :
    match refR (zs l) (p0 l) (runesI (bs ++ endB l)) with
    | none => decide (t = encs (runesI bs)) = false
    | some k => decide (t = encs (runesI bs)) = (decide (encs ((runesI (bs ++ endB l)).take k) = encs (runesI bs)) && decide (placeV (bs ++ endB l) (k + 2 + l.length + 1) = (bs ++ endB l).length)) := by
  have hnm := wh_ok l hw
  have hp := p0_range l
  have hlr : (runesI (bs ++ endB l)).length = (runesI bs).length + (l.length + 3) := by rw [with_end l hw]; simp
  cases hr : refR (zs l) (p0 l) (runesI (bs ++ endB l)) with
  | none =>
    obtain ⟨_, _, h3⟩ := whole_none hnm hp.1 hp.2 hW hr
    show decide (t = encs (runesI bs)) = false
    rw [decide_eq_false_iff_not, h3]
    intro h
    have := congrArg List.length (encs_inj (runesI_mend _) (runesI_mend _) h)
    omega
  | some k =>
    obtain ⟨rfl, h2, h3, h4, h5⟩ := whole_some hnm hp.1 hp.2 hW hr
    show decide (t = encs (runesI bs)) = (decide (encs ((runesI (bs ++ endB l)).take k) = encs (runesI bs)) && decide (placeV (bs ++ endB l) (k + 2 + l.length + 1) = (bs ++ endB l).length))
    rw [h2]
    by_cases he : encs ((runesI (bs ++ endB l)).take k) = encs (runesI bs)
    · have hpl := whole_place hp.1 (by omega) hW
      rw [h5, show (zs l).length = l.length by simp] at hpl
      have hk : k = (runesI bs).length := by
        have h6 := congrArg List.length (encs_inj (take_mend _ _) (runesI_mend _) he)
        have h7 : k ≤ (runesI (bs ++ endB l)).length := by
          have h8 : runesI (bs ++ endB l) = runesI ((bs ++ endB l).take n) ++ runesI ((bs ++ endB l).drop n) := by
            have := h4 ((bs ++ endB l).drop n)
            rwa [List.take_append_drop] at this
          have := congrArg List.length h8
          rw [List.length_append, h5] at this
          omega
        rw [List.length_take] at h6
        omega
      have hn : n = (bs ++ endB l).length := by
        have h8 : runesI (bs ++ endB l) = runesI ((bs ++ endB l).take n) ++ runesI ((bs ++ endB l).drop n) := by
          have := h4 ((bs ++ endB l).drop n)
          rwa [List.take_append_drop] at this
        have h9 := congrArg List.length h8
        rw [List.length_append, h5, hlr, show (zs l).length = l.length by simp, runesI_length ((bs ++ endB l).drop n)] at h9
        have h10 := pcs_four ((bs ++ endB l).drop n)
        simp only [List.length_drop] at h10
        omega
      rw [show k + 2 + l.length + 1 = k + 3 + l.length by omega, hpl, decide_eq_true he, decide_eq_true hn]
      rfl
    · rw [decide_eq_false he]
      rfl
end Go.Proofs.YtmlklbbfmggbfabDoor.R

/- What is proved here: the document's Mend. -/
namespace Go.Proofs.YtmlklbbfmggbfabDoor.R
open Go.RowKit Go.Shelf Go.Proofs.YtmlklbbfmggbfabDoor.U

set_option maxRecDepth 100000 in
set_option maxHeartbeats 2000000 in
/-- **sieveref01.Mend of any text.** -/
theorem rmend_calls (bs : List UInt8) (w : World) (hl : bs.length ≤ 274877906944) :
    Calls Tryd.prog 8 #[.string ⟨bs.toArray⟩] w fun e W' => e = .returned (.string ⟨(encs (runesI bs)).toArray⟩) ∧ Below w.heap.size w W' := by
  have hcv := Lib.run_convert_string_bytes (P := Tryd.prog) w 9 40 5 ⟨bs.toArray⟩ Tryd.underlying9 Tryd.underlying40 Tryd.underlying5
  rw [byteArr_size] at hcv
  have hbw := bytesWorld_below w 5 ⟨bs.toArray⟩
  have RC : Hid (∀ cap, bs.length ≤ cap → Calls Tryd.prog 17 #[.slice (some ⟨w.heap.size, 0, none⟩) bs.length cap] (Lib.bytesWorld w 5 ⟨bs.toArray⟩) fun e W' => ∃ a cap, e = .returned (.slice a (runesI bs).length cap) ∧ W'.ownsRow (Lib.bytesWorld w 5 ⟨bs.toArray⟩).heap.size 21 1 (.slice a (runesI bs).length cap) (runesI bs).length ((runesI bs).map (Value.int .i32)) ∧ Below (Lib.bytesWorld w 5 ⟨bs.toArray⟩).heap.size (Lib.bytesWorld w 5 ⟨bs.toArray⟩) W') :=
    fun cap hcap => rrunes_calls _ bs (w.heap.size + 1) _ (by omega) (RowB.hasB0 rfl (bytesWorld_row w 5 bs) hcap _ (Nat.lt_succ_self _))
  have HBW : Hid (Below w.heap.size w (Lib.bytesWorld w 5 ⟨bs.toArray⟩)) := hbw
  have hrle : (runesI bs).length ≤ bs.length := by rw [runesI_length]; exact pcs_length bs
  clear hbw
  go_enter Tryd.func8, Tryd.ntmps8
  go_wp2_with (first
    | (go_at_call 17
       refine (RC.out _ (grownCap_ge _ _ _ _)).mono ?_
       rintro e w2 ⟨al, cl, rfl, hown2, hb2⟩
       have hI : HasI .i32 w2 _ (runesI bs) := hasI_owns (e := 21) hown2)
    | (go_at_call 16
       refine (text_calls _ _ _ (by omega) hI).mono ?_
       rintro e w3 ⟨rfl, hb3⟩))
  go_ret
  exact ⟨rfl, (HBW.out.trans (hb2.mono HBW.out.size)).trans (hb3.mono (by have := HBW.out.size; have := hb2.size; omega))⟩
end Go.Proofs.YtmlklbbfmggbfabDoor.R
