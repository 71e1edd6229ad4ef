/- What is proved here: the contracts of input.Clean and of the document's own Clean (sieveref03): for any text, both return the text of Plain of each rune. -/
import Derived.Lib.OthersKept
import Derived.Test.YtpljklemkapnmaaDoorMend
import Derived.Test.YtpljklemkapnmaaDoorMathL
import Derived.Test.YtpljklemkapnmaaDoorISame
namespace Go.Proofs.YtpljklemkapnmaaDoor.U
open Go.RowKit Go.Shelf

set_option maxRecDepth 100000 in
set_option maxHeartbeats 2000000 in
/-- **sieveref03.Clean of any text.** -/
theorem rclean_calls (bs : List UInt8) (w : World) (hl : bs.length ≤ 274877906944) :
    Calls Tryd.prog 19 #[.string ⟨bs.toArray⟩] w fun e W' => e = .returned (.string ⟨(encs ((runesI bs).map plainZ)).toArray⟩) ∧ Below w.heap.size w W' := by
  obtain ⟨i0, hi, hz0, hz1, hz2⟩ := info_parts info21
  have hcv := Lib.run_convert_string_bytes (P := Tryd.prog) w 9 25 5 ⟨bs.toArray⟩ Tryd.underlying9 Tryd.underlying25 Tryd.underlying5
  rw [byteArr_size] at hcv
  have hbw := bytesWorld_below w 5 ⟨bs.toArray⟩
  have hwz : (Lib.bytesWorld w 5 ⟨bs.toArray⟩).heap.size = w.heap.size + 1 := Lib.bytesWorld_size w 5 ⟨bs.toArray⟩
  have RC : Hid (∀ cap, bs.length ≤ cap → Calls Tryd.prog 44 #[.slice (some ⟨w.heap.size, 0, none⟩) bs.length cap] (Lib.bytesWorld w 5 ⟨bs.toArray⟩) fun e W' => ∃ a cap, e = .returned (.slice a (runesI bs).length cap) ∧ W'.ownsRow (Lib.bytesWorld w 5 ⟨bs.toArray⟩).heap.size 21 1 (.slice a (runesI bs).length cap) (runesI bs).length ((runesI bs).map (Value.int .i32)) ∧ Below (Lib.bytesWorld w 5 ⟨bs.toArray⟩).heap.size (Lib.bytesWorld w 5 ⟨bs.toArray⟩) W') :=
    fun cap hcap => rrunes_calls _ bs (w.heap.size + 1) _ (by omega) (RowB.hasB0 rfl (bytesWorld_row w 5 bs) hcap _ (Nat.lt_succ_self _))
  have HBW : Hid (Below w.heap.size w (Lib.bytesWorld w 5 ⟨bs.toArray⟩)) := hbw
  have HRL : Hid ((runesI bs).length = (pcs bs).length) := runesI_length bs
  have hrle : (runesI bs).length ≤ bs.length := by rw [runesI_length]; exact pcs_length bs
  clear hbw
  go_enter Tryd.func19, Tryd.ntmps19
  go_wp2_with (go_at_call 44; refine (RC.out _ (grownCap_ge _ _ _ _)).mono ?_; rintro e w2 ⟨al, cl, rfl, hown2, hb2⟩)
  clear hcv
  have s2 := hb2.size
  go_loopw [3, 10] (fun v i wr => ∃ k : Nat, k ≤ (runesI bs).length ∧ i = .int .i64 k ∧ wr.ownsRow w2.heap.size 21 1 v k ((((runesI bs).take k).map plainZ).map (Value.int .i32)) ∧ Below w2.heap.size w2 wr) (fun _ i _ => (runesI bs).length - (intOf i).toNat)
  case atStart => exact ⟨0, by omega, rfl, World.ownsRow_nil _ _ _ _, Below.refl _ _⟩
  case round =>
    obtain ⟨k, hk, rfl, hrow, hB⟩ := hrel
    by_cases hlt : k < (runesI bs).length
    · have hcell : ∃ g, al = some ⟨g, 0, none⟩ ∧ g < w2.heap.size ∧ w2.cell? ⟨g, k, none⟩ = some (.int .i32 (runesI bs)[k]) := by
        rcases hown2.2 with ⟨_, h0⟩ | ⟨g, cap', cur, hv, _, hg, _⟩
        · omega
        · cases hv
          refine ⟨g, rfl, lt_of_block hg, ?_⟩
          rw [hown2.cellAt k (by omega)]
          simp [hlt]
      obtain ⟨g, rfl, hg, c0⟩ := hcell
      have c0 := (hB.cell (p := ⟨g, k, none⟩) hg).trans c0
      have HG : Hid ((runesI bs).take (k + 1) = (runesI bs).take k ++ [(runesI bs)[k]]) := List.take_succ_eq_append_getElem hlt
      have hrb : ∃ n : Nat, (runesI bs)[k] = (n : Int) ∧ n < 1114112 := by
        have hk' : k < (pcs bs).length := by rw [← HRL.out]; exact hlt
        exact ⟨(pcs bs)[k].r, by simp [runesI], (pcsF_lt _ _ _ (pcs bs)[k] (List.getElem_mem hk')).1⟩
      obtain ⟨n, hn, hn1⟩ := hrb
      rw [hn] at c0 HG
      have s1 := hB.size
      clear hn
      go_wp2_with (first | (go_at_call 10; refine (rplain_calls _ (by omega) (by omega) _).mono ?_; rintro e w' ⟨rfl, hw'⟩; obtain rfl : wr = w' := hw'.symm) | (at_builtin; refine wpList_append_own _ rfl _ _ 79 rfl w2.heap.size 21 i0 (.int .i32 0) 1 4 Tryd.underlying79 hi hz0 hz1 hz2 rfl (by decide) _ _ _ rfl (hrow.alloc _) ⟨wr.heap.size, 0, none⟩ 1 1 [.int .i32 (plainZ n)] rfl rfl (cell_one_at _ _ _ _ rfl) (by simp [Value.oneCell']) (by unfold maxLen; omega) (by omega) (by simp; omega) ?_; intro v' w4 hown' hgrow _))
      go_roundw
      case rel => exact ⟨k + 1, by omega, by go_num, by rw [HG.out]; simpa using hown', (hB.alloc (by omega) _).grown hgrow (by simp; omega) (fun j hj => (hrow.lt j hj).1)⟩
      case measure => simp [intOf]; omega
    · obtain rfl : k = (runesI bs).length := by omega
      rw [List.take_length] at hrow
      have hI : HasI .i32 wr _ ((runesI bs).map plainZ) := hasI_owns (e := 21) (by simpa using hrow)
      obtain ⟨ga, gc, hg⟩ := owns_slice hrow
      subst hg
      have s1 := hB.size
      go_wp2_with (go_at_call 42; refine (text_calls _ _ _ (by simp; omega) hI).mono ?_; rintro e w5 ⟨rfl, hb5⟩)
      go_ret
      exact ⟨rfl, ((HBW.out.trans (hb2.mono HBW.out.size)).trans (hB.mono (by have := HBW.out.size; omega))).trans (hb5.mono (by have := HBW.out.size; omega))⟩

theorem iterAt_grownI (w : World) (k : Nat) (s : ByteArray) (p : Nat) : w.grownBy (w.iterAt k s p) (some k) := by
  refine ⟨rfl, rfl, rfl, by simp [World.iterAt], fun j hj hne => ?_⟩
  have hjk : k ≠ j := fun e => hne (by rw [e])
  simp [World.iterAt, hjk]
theorem iterPos_ofI {w : World} {k : Nat} {s : ByteArray} {p : Nat} (h : w.heap[k]? = some (.stringIter s p)) : w.iterPos k = p := by unfold World.iterPos; rw [h]
theorem builder_iter {b : Nat} {bs : List Value} {w : World} {k : Nat} {s : ByteArray} {p p' : Nat} (hk : w.heap[k]? = some (.stringIter s p)) (h : Lib.IsBuilder 70 5 b b bs w) : Lib.IsBuilder 70 5 b b bs (w.iterAt k s p') := by
  have hg := iterAt_grownI w k s p'
  have one : ∀ q, Lib.BuilderAt 70 5 b b q bs w → Lib.BuilderAt 70 5 b b q bs (w.iterAt k s p') := fun q ⟨h1, v, hb, hown, hne⟩ => by
    refine ⟨h1, v, ?_, hown.kept hg ?_, hne⟩
    · rw [hg.block b (lt_of_block hb) (fun e => by cases e; rw [hb] at hk; cases hk)]; exact hb
    · cases hv : v.ownBlock with
      | none => exact .inl rfl
      | some g =>
        refine .inr (fun e => ?_)
        obtain ⟨cs, fz, hc⟩ := row_cells hown hv
        cases e; rw [hc] at hk; cases hk
  exact h.imp (one _) (one _)

theorem builder_grown {b : Nat} {bs : List Value} {w w' : World} (hB : Below w.heap.size w w') (h : Lib.IsBuilder 70 5 b b bs w) : Lib.IsBuilder 70 5 b b bs w' := by
  have one : ∀ q, Lib.BuilderAt 70 5 b b q bs w → Lib.BuilderAt 70 5 b b q bs w' := fun q ⟨h1, v, hb, hown, hne⟩ => ⟨h1, v, (hB.block b (lt_of_block hb)).trans hb, owns_below hown hB, hne⟩
  exact h.imp (one _) (one _)

def cleanB (zs : List Int) : List UInt8 := zs.flatMap fun z => Lib.encodeRune (plainZ z)
theorem cleanB_snoc (zs : List Int) (z : Int) : cleanB (zs ++ [z]) = cleanB zs ++ Lib.encodeRune (plainZ z) := by simp [cleanB]
theorem cleanB_le (zs : List Int) : (cleanB zs).length ≤ 4 * zs.length := by
  induction zs with
  | nil => simp [cleanB]
  | cons x xs ih =>
    have := (Lib.runeCells_le (plainZ x)).2
    rw [Lib.runeCells_length] at this
    simp [cleanB] at ih ⊢
    omega

set_option maxRecDepth 100000 in
set_option maxHeartbeats 4000000 in
/-- **input.Clean of any text.** -/
theorem clean_calls (bs : List UInt8) (w : World) (hl : (bs.length : Int) ≤ 274877906944) (hT : Lib.Utf8Tabs (Tryd.lays32_ren.g 2) (Tryd.lays32_ren.g 3) w) :
    Calls Tryd.prog 18 #[.string ⟨bs.toArray⟩] w fun e W' => e = .returned (.string ⟨(cleanB (runesI bs)).toArray⟩) ∧ Below w.heap.size w W' := by
  have HT : Hid (Lib.Utf8Tabs (Tryd.lays32_ren.g 2) (Tryd.lays32_ren.g 3) w) := hT
  clear hT
  have HR : Hid (runesI (encs (runesI bs)) = runesI bs ∧ (pcs (encs (runesI bs))).all Pc.ok = true) := ⟨(runesI_encs (runesI bs)).1.trans (runesI_mend bs), (runesI_encs (runesI bs)).2⟩
  have hml : (encs (runesI bs)).length ≤ 4 * bs.length := by
    have h1 := encs_length (runesI bs)
    have h2 := pcs_length bs
    rw [runesI_length] at h1
    omega
  obtain ⟨b0, hb0⟩ : ∃ b0, b0 = w.heap.size := ⟨_, rfl⟩
  have hba := (Below.refl w.heap.size w).alloc (Nat.le_refl _) (.cells #[.pointer none, .slice none 0 0] 70)
  have MC : Hid (Calls Tryd.prog 43 #[.string ⟨bs.toArray⟩] (w.alloc (.cells #[.pointer none, .slice none 0 0] 70)) fun e W' => e = .returned (.string ⟨(encs (runesI bs)).toArray⟩) ∧ Below (w.alloc (.cells #[.pointer none, .slice none 0 0] 70)).heap.size (w.alloc (.cells #[.pointer none, .slice none 0 0] 70)) W') := mend_calls bs _ (by omega) (tabs_below HT.out hba)
  have hbn := World.alloc_heap_new w (.cells #[.pointer none, .slice none 0 0] 70)
  obtain ⟨ms, hms⟩ : ∃ ms, encs (runesI bs) = ms := ⟨_, rfl⟩
  rw [hms] at HR hml MC
  clear hms
  have hsz := byteArr_size ms
  have HBA : Hid (Below w.heap.size w (w.alloc (.cells #[.pointer none, .slice none 0 0] 70))) := hba
  have HBN : Hid ((w.alloc (.cells #[.pointer none, .slice none 0 0] 70)).heap[w.heap.size]? = some (.cells #[.pointer none, .slice none 0 0] 70)) := hbn
  clear hba hbn hb0 b0
  go_enter Tryd.func18, Tryd.ntmps18
  go_wp2_with (go_at_call 43; refine MC.out.mono ?_; rintro e w1 ⟨rfl, hb1⟩)
  have s1 := hb1.size
  rw [World.size_alloc] at s1
  have hBW1 : Below w.heap.size w w1 := HBA.out.trans (hb1.mono (by simp))
  have hbi : w1.heap[w.heap.size]? = some (.cells #[.pointer none, .slice none 0 0] 70) := (hb1.block _ (by simp)).trans HBN.out
  have hib : Lib.IsBuilder 70 5 w.heap.size w.heap.size (Lib.byteCells (cleanB [])) w1 := .inl ⟨Nat.le_refl _, .slice none 0 0, hbi, World.ownsRow_nil _ _ _ _, by simp [Value.ownBlock]⟩
  have hiw : Lib.IsBuilder 70 5 w.heap.size w.heap.size (Lib.byteCells (cleanB [])) (w1.iter ⟨ms.toArray⟩ 0) := builder_grown ((Below.refl _ w1).alloc (Nat.le_refl _) _) hib
  clear hib hbi
  go_loopw [5] (fun _ wr => ∃ (k : Nat) (pre : List Int), k ≤ ms.length ∧ pre.length ≤ k ∧ wr.heap[w1.heap.size]? = some (.stringIter ⟨ms.toArray⟩ k) ∧ Hid (runesI ms = pre ++ rI ms k ∧ (pcsF ms.length k (ms.drop k)).all Pc.ok = true) ∧ Hid (Lib.IsBuilder 70 5 w.heap.size w.heap.size (Lib.byteCells (cleanB pre)) wr) ∧ Below w.heap.size w wr ∧ w1.heap.size < wr.heap.size) (fun _ wr => ms.length - wr.iterPos w1.heap.size)
  case atStart => exact ⟨0, [], by omega, by simp, World.iter_heap _ _ _, ⟨by rw [rI_drop, List.drop_zero]; rfl, HR.out.2⟩, hiw, hBW1.alloc hBW1.size _, by simp [World.iter]⟩
  case round =>
    obtain ⟨k, pre, hk, hpk, hit, hs, hib, hB, hzr⟩ := hrel
    by_cases hlt : k < ms.length
    · have hd0 : 0 < (ms.drop k).length := by simp; omega
      have hst := pcs_step ms k hlt
      have hal := hs.out.2
      rw [hst, List.all_cons, Bool.and_eq_true] at hal
      have ha : nextAll (ms.drop k) = true := hal.1
      have hri : rI ms k = (runeOf (ms.drop k) : Int) :: rI ms (k + nextN (ms.drop k)) := by unfold rI; rw [hst]; simp [nextR, ha]
      have hdec : Utf8.decode ⟨ms.toArray⟩ k = (runeOf (ms.drop k), nextN (ms.drop k)) := by rw [decode_drop]; exact decode_right _ hd0 ha
      have hnx : ∀ ty, (Instr.next (.pointer (some ⟨w1.heap.size, 0, none⟩)) true ty).run Tryd.prog wr = _ := fun ty => Lib.run_next_any_at wr w1.heap.size ⟨ms.toArray⟩ k ty hit (by rw [hsz]; exact hlt)
      rw [hdec] at hnx
      simp only at hnx
      have hp1 := nextN_pos (ms.drop k)
      have hp2 := nextN_len (ms.drop k) hd0
      simp only [List.length_drop] at hp2
      have hvd := rune_valid (ms.drop k) hd0 ha
      have HS2 : Hid (runesI ms = (pre ++ [(runeOf (ms.drop k) : Int)]) ++ rI ms (k + nextN (ms.drop k)) ∧ (pcsF ms.length (k + nextN (ms.drop k)) (ms.drop (k + nextN (ms.drop k)))).all Pc.ok = true) := ⟨by rw [hs.out.1, hri]; simp, hal.2⟩
      have HIT : Hid (wr.heap[w1.heap.size]? = some (.stringIter ⟨ms.toArray⟩ k)) := hit
      have hiX := builder_iter (p' := k + nextN (ms.drop k)) hit hib.out
      have hitX := Lib.iterAt_heap wr w1.heap.size ⟨ms.toArray⟩ k (k + nextN (ms.drop k)) hit
      have hgX := iterAt_grownI wr w1.heap.size ⟨ms.toArray⟩ (k + nextN (ms.drop k))
      obtain ⟨X, hX⟩ : ∃ X, wr.iterAt w1.heap.size ⟨ms.toArray⟩ (k + nextN (ms.drop k)) = X := ⟨_, rfl⟩
      rw [hX] at hnx hiX hitX hgX
      have hBX : Below w.heap.size w X := hB.grown hgX hB.size (fun j hj => by cases hj; exact hBW1.size)
      have HIX : Hid (Lib.IsBuilder 70 5 w.heap.size w.heap.size (Lib.byteCells (cleanB pre)) X) := hiX
      have HITX : Hid (X.heap[w1.heap.size]? = some (.stringIter ⟨ms.toArray⟩ (k + nextN (ms.drop k)))) := hitX
      have hzX := hgX.size
      have hcl := cleanB_le pre
      clear hst hal ha hri hdec hX hit hs hib hiX hitX hgX
      generalize hz : (runeOf (ms.drop k) : Int) = z at *
      generalize nextN (ms.drop k) = n at *
      obtain ⟨v0, v1, v2⟩ := (valid_iff z).1 hvd
      have hpo := plainZ_ok z v0 v1
      have HPO : Hid (0 ≤ plainZ z ∧ plainZ z ≤ 1114111 ∧ ¬ (55296 ≤ plainZ z ∧ plainZ z ≤ 57343)) := hpo
      clear hz hvd v2 hpo
      go_wp2_with (first | (go_at_call 9; refine (plain_calls z (by omega) (by omega) _).mono ?_; rintro e w' ⟨rfl, hw'⟩; obtain rfl : X = w' := hw'.symm) | (go_at_call 40; refine (writeRune_calls w.heap.size w.heap.size _ (plainZ z) HPO.out _ HIX.out (by rw [Lib.byteCells_length]; omega) (by omega)).mono ?_; rintro e w4 ⟨⟨vr, rfl⟩, hi', hk', ho'⟩))
      have hz4 := hk'.1.size
      have hit4 := ho'.same _ _ HITX.out rfl
      go_roundw
      case rel => exact ⟨k + n, pre ++ [z], by omega, by simp; omega, hit4, HS2.out, (by show Lib.IsBuilder _ _ _ _ _ _; rw [cleanB_snoc, byteCells_append, Lib.byteCells_encodeRune]; exact hi'), hBX.trans hk'.1, by omega⟩
      case measure => rw [iterPos_ofI hit4, iterPos_ofI HIT.out]; omega
    · obtain rfl : k = ms.length := by omega
      have hnx : ∀ ty, (Instr.next (.pointer (some ⟨w1.heap.size, 0, none⟩)) true ty).run Tryd.prog wr = _ := fun ty => Lib.run_next_end_at wr w1.heap.size ⟨ms.toArray⟩ ms.length ty hit (by rw [hsz]; exact hlt)
      have HE : Hid (pre = runesI bs) := by
        have := hs.out.1
        rw [HR.out.1, rI_drop, List.drop_length, show runesI [] = [] from rfl, List.append_nil] at this
        exact this.symm
      have HI : Hid (Lib.IsBuilder 70 5 w.heap.size w.heap.size (Lib.byteCells (cleanB (runesI bs))) wr) := by have := hib.out; rw [HE.out] at this; exact this
      clear hib hs
      go_wp2_with (go_at_call 41; refine (bstring_calls w.heap.size _ _ _ HI.out (by omega)).mono ?_; rintro e w5 ⟨rfl, hb5, _⟩)
      go_ret
      exact ⟨rfl, hB.trans hb5⟩

end Go.Proofs.YtpljklemkapnmaaDoor.U
