/- What is proved here: the contract of strings.IndexRune of the text of ? and #, for any rune. -/
import Derived.Test.YtjhmphokmmmoaaaGreatDoorLkVal
import Derived.Test.YtjhmphokmmmoaaaGreatDoorBun8
import Derived.Test.YtjhmphokmmmoaaaGreatDoorLpShelfT
import Derived.BigQuiet
import Derived.Lib.QuietBelow
import Derived.Deep.QuietTactic
namespace Go.Proofs.YtjhmphokmmmoaaaGreatDoor.L
open Go.RowKit Go.Shelf Go.Proofs.YtjhmphokmmmoaaaGreatDoor.N Go.Proofs.YtjhmphokmmmoaaaGreatDoor.U

/-- What Go reads at a byte of ASCII, and at another one. -/
theorem dec_low (bs : List UInt8) (k : Nat) (c : UInt8) (hc : bs.getD k 0 = c) (h : c.toNat < 128) : Utf8.decode ⟨bs.toArray⟩ k = (c.toNat, 1) := by
  have hb : U.byteAt (bs.drop k) 0 = c.toNat := by
    unfold U.byteAt
    rw [List.getElem?_drop, Nat.add_zero, ← hc, List.getD_eq_getElem?_getD]
  rw [decode_drop, hb]
  unfold Lib.decodeN
  rw [if_pos h]
theorem iterAt_grownV (w : World) (k : Nat) (s : ByteArray) (p : Nat) : w.grownBy (w.iterAt k s p) (some k) := by
  refine ⟨rfl, rfl, rfl, by simp [World.iterAt], fun j hj hne => ?_⟩
  have hjk : k ≠ j := fun e => hne (by rw [e])
  simp [World.iterAt, hjk]
theorem iterPos_ofV {w : World} {k : Nat} {s : ByteArray} {p : Nat} (h : w.heap[k]? = some (.stringIter s p)) : w.iterPos k = p := by unfold World.iterPos; rw [h]
set_option maxRecDepth 100000 in
set_option maxHeartbeats 2000000 in
theorem validRune_calls (r : Int) (hv : Utf8.valid r = true) (w : World) : Calls Tryz.prog 77 #[.int .i32 r] w fun e w' => e = .returned (.bool true) ∧ w' = w := by
  have hb := (valid_iff r).1 hv
  have c0 : decide ((0 : Int) ≤ r) = true := by simp; omega
  by_cases h : r < 55296
  · have c1 : decide (r < 55296) = true := by simpa using h
    go_enter Tryz.func77, Tryz.ntmps77
    go_wp2
    go_ret
    exact ⟨rfl, rfl⟩
  · have c1 : decide (r < 55296) = false := by simp; omega
    have c2 : decide ((57343 : Int) < r) = true := by simp; omega
    have c3 : decide (r ≤ 1114111) = true := by simp; omega
    go_enter Tryz.func77, Tryz.ntmps77
    go_wp2
    go_ret
    exact ⟨rfl, rfl⟩
/-- What a rune beyond ASCII is written as: two to four bytes, the last one beyond ASCII. -/
theorem enc_more (r : Int) (hv : Utf8.valid r = true) (h : 128 ≤ r) : ∃ (E : List UInt8) (b : UInt8), Utf8.encode r = ⟨E.toArray⟩ ∧ 128 ≤ b.toNat ∧ ((E.length = 2 ∧ E.getD 1 0 = b) ∨ (E.length = 3 ∧ E.getD 2 0 = b) ∨ (E.length = 4 ∧ E.getD 3 0 = b)) := by
  have he : Utf8.encode r = ⟨(enc r).toArray⟩ := by unfold enc; simp
  have hb := (valid_iff r).1 hv
  have hh := enc_high (r := r) (by omega)
  rcases (show r < 2048 ∨ (2048 ≤ r ∧ r < 65536) ∨ 65536 ≤ r by omega) with h2 | ⟨h3, h4⟩ | h5
  · have e := enc_two h h2
    refine ⟨enc r, (enc r).getD 1 0, he, ?_, .inl ⟨by rw [e]; rfl, rfl⟩⟩
    exact hh _ (by rw [e]; simp)
  · have e := enc_three hv h3 h4
    refine ⟨enc r, (enc r).getD 2 0, he, ?_, .inr (.inl ⟨by rw [e]; rfl, rfl⟩)⟩
    exact hh _ (by rw [e]; simp)
  · have e := enc_four hv h5
    refine ⟨enc r, (enc r).getD 3 0, he, ?_, .inr (.inr ⟨by rw [e]; rfl, rfl⟩)⟩
    exact hh _ (by rw [e]; simp)
theorem no_byte (b : UInt8) (hb : 128 ≤ b.toNat) : ∀ (l : List UInt8), (∀ c ∈ l, c.toNat < 128) → Lib.indexByte l b = -1
  | [], _ => rfl
  | c :: t, h => by
    have hc : (c == b) = false := by rw [beq_eq_false_iff_ne]; rintro rfl; have := h c (by simp); omega
    rw [Lib.indexByte, hc, if_neg (by decide), no_byte b hb t (fun d hd => h d (by simp [hd]))]
    rfl
theorem ixByte_calls (s : List UInt8) (b : UInt8) (hb : 128 ≤ b.toNat) (hs : ∀ c ∈ s, c.toNat < 128) (w : World) : Calls Tryz.prog 64 #[.string ⟨s.toArray⟩, .int .u8 b.toNat] w fun e w' => e = .returned (.int .i64 (-1)) ∧ w' = w := by
  have h := Any.strings_IndexByte { Tryz.lays152 with } ⟨s.toArray⟩ (b.toNat : Int) w
  rw [show (⟨s.toArray⟩ : ByteArray).data.toList = s from rfl, show ((b.toNat : Int).toNat.toUInt8) = b by simp, no_byte b hb s hs] at h
  exact h
set_option maxRecDepth 100000 in
set_option maxHeartbeats 4000000 in
theorem indexRune_more (r : Int) (hv : Utf8.valid r = true) (h : 128 ≤ r) (hne : r ≠ 65533) (w : World) : Calls Tryz.prog 59 #[.string ⟨#[63, 35]⟩, .int .i32 r] w fun e w' => e = .returned (.int .i64 (-1)) ∧ Below w.heap.size w w' := by
  have mixed : Tryz.prog.follows .mixedOrders = true := by kernel_rfl
  obtain ⟨E, b, he, hb, hE⟩ := enc_more r hv h
  have hbr := (valid_iff r).1 hv
  have c0 : decide ((0 : Int) ≤ r) = true := by rw [decide_eq_true_eq]; omega
  have c1 : decide (r < 128) = false := by rw [decide_eq_false_iff_not]; omega
  have c2 : (r == 65533) = false := by rw [beq_eq_false_iff_ne]; exact hne
  have HV := hid_of (validRune_calls r hv w)
  have sz := Go.Proofs.YtjhmphokmmmoaaaGreatDoor.L.arr_size E
  have HB := hid_of hb
  clear hv h hne hbr hb
  rcases hE with ⟨hl, hg⟩ | ⟨hl, hg⟩ | ⟨hl, hg⟩
  · have ix := Go.Proofs.YtjhmphokmmmoaaaGreatDoor.L.byte_at E 1 b (by omega) hg 1 rfl
    have ixs : ∀ w, (Instr.index 9 (.string ⟨#[63, 35]⟩) (.int .i64 1)).run Tryz.prog w = .ok (.int .u8 35) w := Go.Proofs.YtjhmphokmmmoaaaGreatDoor.L.byte_at [63, 35] 1 35 (by decide) rfl 1 rfl
    rw [hl] at sz
    have sl : ∀ w, (Instr.slice 9 (.string ⟨#[63, 35]⟩) (some (.int .i64 2)) none none).run Tryz.prog w = .ok (.string ⟨#[]⟩) w := slice_l [63, 35] 2 (by decide) 2 rfl
    have nb : ((35 : Int) != (b.toNat : Int)) = true := by rw [bne_iff_ne]; have := HB.out; omega
    have HX : Hid (∀ W, Calls Tryz.prog 64 #[.string ⟨#[]⟩, .int .u8 b.toNat] W fun e w' => e = .returned (.int .i64 (-1)) ∧ w' = W) := fun W => ixByte_calls [] b HB.out (by decide) W
    clear hl hg
    go_enter Tryz.func59, Tryz.ntmps59
    go_wp2_with (go_at_call 77; refine HV.out.mono ?_; rintro e w' ⟨rfl, hw'⟩; obtain rfl : w = w' := hw'.symm)
    go_step3
    go_wp2_with fail
    go_loopw [9, 10, 11, 12] (fun i _ _ _ wr => i = .int .i64 1 ∧ wr = w) (fun _ _ _ _ _ => 0)
    case atStart => exact ⟨rfl, rfl⟩
    case round =>
      obtain ⟨rfl, hwr⟩ := hrel
      obtain rfl : w = wr := hwr.symm
      clear hwr
      go_wp2_with fail
      go_step3
      go_wp2_with fail
      go_quiet (fail)
      go_wp2_with fail
      have hbq : Below w.heap.size w (w.drewN nq) := (Below.refl _ w).trans ⟨rfl, rfl, rfl, Nat.le_refl _, fun _ _ => rfl⟩
      generalize w.drewN nq = W1 at *
      have q1 : ∀ d os, Calls Tryz.prog 64 #[.string ⟨#[]⟩, .int .u8 b.toNat] (Go.Sort.grow (redrawn W1 d) os) fun e w'' => e = .returned (.int .i64 (-1)) ∧ ∃ p : Regrown, w'' = Go.Sort.grow (redrawn W1 p.d) p.os := fun d os => Calls.regrown_of ((HX.out _).mono fun e w' ⟨h1, h2⟩ => ⟨h1, h2 ▸ Below.refl _ _⟩)
      have D : ∀ d os, Below W1.heap.size W1 (Go.Sort.grow (redrawn W1 d) os) := fun d os => below_regrown W1 d os
      refine wp_region_quiet_below mixed (by kernel_rfl) ?_
      repeat (go_big_quiet_step (with_reducible exact q1 _ _))
      refine wpQuiet_nil ?_
      intro _ hw'
      obtain ⟨⟨dr, osr⟩, hw''⟩ := hw'
      have hb3 := hbq.trans ((D dr osr).mono hbq.size)
      rw [← hw''] at hb3
      clear hw'' q1 D
      go_wp2_with fail
      rw [Exit.noGoto_ret]
      simp only [Exit.inBlock]
      rename Exit → Act → World → Prop => QQ
      simp only [QQ, Exit.then, Exit.inBlock]
      rw [Exit.noGoto_ret]
      go_ret
      exact ⟨rfl, hb3⟩
  · have sz2 := sz
    rw [hl] at sz2
    clear hl hg sz
    go_enter Tryz.func59, Tryz.ntmps59
    go_wp2_with (go_at_call 77; refine HV.out.mono ?_; rintro e w' ⟨rfl, hw'⟩; obtain rfl : w = w' := hw'.symm)
    go_step3
    go_wp2_with fail
    go_loopw [9, 10, 11, 12] (fun i _ _ _ wr => i = .int .i64 2 ∧ wr = w) (fun _ _ _ _ _ => 0)
    case atStart => exact ⟨rfl, rfl⟩
    case round =>
      obtain ⟨rfl, hwr⟩ := hrel
      obtain rfl : w = wr := hwr.symm
      clear hwr
      go_wp2_with fail
      rw [Exit.noGoto_ret]
      go_ret
      exact ⟨rfl, Below.refl _ _⟩
  · have sz2 := sz
    rw [hl] at sz2
    clear hl hg sz
    go_enter Tryz.func59, Tryz.ntmps59
    go_wp2_with (go_at_call 77; refine HV.out.mono ?_; rintro e w' ⟨rfl, hw'⟩; obtain rfl : w = w' := hw'.symm)
    go_step3
    go_wp2_with fail
    go_loopw [9, 10, 11, 12] (fun i _ _ _ wr => i = .int .i64 3 ∧ wr = w) (fun _ _ _ _ _ => 0)
    case atStart => exact ⟨rfl, rfl⟩
    case round =>
      obtain ⟨rfl, hwr⟩ := hrel
      obtain rfl : w = wr := hwr.symm
      clear hwr
      go_wp2_with fail
      rw [Exit.noGoto_ret]
      go_ret
      exact ⟨rfl, Below.refl _ _⟩
set_option maxRecDepth 100000 in
set_option maxHeartbeats 4000000 in
theorem indexRune_bad (w : World) : Calls Tryz.prog 59 #[.string ⟨#[63, 35]⟩, .int .i32 65533] w fun e w' => e = .returned (.int .i64 (-1)) ∧ Below w.heap.size w w' := by
  have hdec : ∀ k, k < 2 → ∃ n : Nat, Utf8.decode ⟨[63, 35].toArray⟩ k = (n, 1) ∧ n < 128 := fun k hk => by
    rcases (show k = 0 ∨ k = 1 by omega) with rfl | rfl
    · exact ⟨63, dec_low [63, 35] 0 63 rfl (by decide), by decide⟩
    · exact ⟨35, dec_low [63, 35] 1 35 rfl (by decide), by decide⟩
  have HD := hid_of hdec
  clear hdec
  go_enter Tryz.func59, Tryz.ntmps59
  go_wp2_with fail
  go_loopw [5, 6] (fun _ _ wr => ∃ k : Nat, k ≤ 2 ∧ wr.heap[w.heap.size]? = some (.stringIter ⟨#[63, 35]⟩ k) ∧ Below w.heap.size w wr ∧ w.heap.size < wr.heap.size) (fun _ _ wr => 2 - wr.iterPos w.heap.size)
  case atStart => exact ⟨0, by omega, World.iter_heap _ _ _, (Below.refl _ w).alloc (Nat.le_refl _) _, by simp [World.iter]⟩
  case round =>
    obtain ⟨k, hk, hit, hB, hz⟩ := hrel
    by_cases hlt : k < 2
    · obtain ⟨n, hdec, hn⟩ := HD.out k hlt
      have hnx : ∀ ty, (Instr.next (.pointer (some ⟨w.heap.size, 0, none⟩)) true ty).run Tryz.prog wr = _ := fun ty => Lib.run_next_any_at wr w.heap.size ⟨#[63, 35]⟩ k ty hit hlt
      rw [show Utf8.decode ⟨#[63, 35]⟩ k = (n, 1) from hdec] at hnx
      simp only at hnx
      have hitX := Lib.iterAt_heap wr w.heap.size ⟨#[63, 35]⟩ k (k + 1) hit
      have hgX := iterAt_grownV wr w.heap.size ⟨#[63, 35]⟩ (k + 1)
      have HIT : Hid (wr.heap[w.heap.size]? = some (.stringIter ⟨#[63, 35]⟩ k)) := hit
      obtain ⟨X, hX⟩ : ∃ X, wr.iterAt w.heap.size ⟨#[63, 35]⟩ (k + 1) = X := ⟨_, rfl⟩
      rw [hX] at hnx hitX hgX
      have hBX : Below w.heap.size w X := hB.grown hgX hB.size (fun j hj => by cases hj; exact Nat.le_refl _)
      have hzX := hgX.size
      have HITX : Hid (X.heap[w.heap.size]? = some (.stringIter ⟨#[63, 35]⟩ (k + 1))) := hitX
      have hne : ((n : Int) == 65533) = false := by rw [beq_eq_false_iff_ne]; omega
      clear hX hit hitX hgX hdec
      go_wp2
      go_roundw
      case rel => exact ⟨k + 1, by omega, HITX.out, hBX, by omega⟩
      case measure => rw [iterPos_ofV HITX.out, iterPos_ofV HIT.out]; omega
    · obtain rfl : k = 2 := by omega
      have hnx : ∀ ty, (Instr.next (.pointer (some ⟨w.heap.size, 0, none⟩)) true ty).run Tryz.prog wr = _ := fun ty => Lib.run_next_end_at wr w.heap.size ⟨#[63, 35]⟩ 2 ty hit (by decide)
      go_wp2
      go_ret
      exact ⟨rfl, hB⟩
theorem indexRune_any (r : Int) (hv : Utf8.valid r = true) (h : 128 ≤ r) (w : World) : Calls Tryz.prog 59 #[.string ⟨#[63, 35]⟩, .int .i32 r] w fun e w' => e = .returned (.int .i64 (-1)) ∧ Below w.heap.size w w' := by
  by_cases hne : r = 65533
  · subst hne; exact indexRune_bad w
  · exact indexRune_more r hv h hne w
theorem indexRune_ascii (c : UInt8) (h : c.toNat < 128) (w : World) : Calls Tryz.prog 59 #[.string ⟨#[63, 35]⟩, .int .i32 (c.toNat : Int)] w fun e w' => e = .returned (.int .i64 (Lib.indexByte [63, 35] c)) ∧ w' = w := by
  refine (Any.strings_IndexRune_ascii Tryz.lays152 ⟨#[63, 35]⟩ (c.toNat : Int) w (by omega) (by omega)).mono fun e w' ⟨h1, h2⟩ => ⟨?_, h2⟩
  rw [h1, show ((c.toNat : Int).toNat.toUInt8) = c by simp]
theorem index_two (c : UInt8) : decide (Lib.indexByte [63, 35] c ≥ 0) = ([63, 35] : List UInt8).contains c := by
  have : ∀ n : Fin 256, decide (Lib.indexByte [63, 35] (UInt8.ofNat n.val) ≥ 0) = ([63, 35] : List UInt8).contains (UInt8.ofNat n.val) := by decide +kernel
  have h := this ⟨c.toNat, c.toNat_lt⟩
  simpa using h
end Go.Proofs.YtjhmphokmmmoaaaGreatDoor.L
