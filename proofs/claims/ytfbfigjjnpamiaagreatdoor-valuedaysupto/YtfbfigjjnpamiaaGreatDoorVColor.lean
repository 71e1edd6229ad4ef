/- What is proved here: the contracts of value.hexDigit, value.Color and of the document's Color: the color that a value says, if it is one. -/
import Derived.Test.YtfbfigjjnpamiaaGreatDoorVNum
import Derived.Test.YtfbfigjjnpamiaaGreatDoorLpShelfC
namespace Go.Proofs.YtfbfigjjnpamiaaGreatDoor.V
open Go.RowKit Go.Shelf Go.Proofs.YtfbfigjjnpamiaaGreatDoor.N Go.Proofs.YtfbfigjjnpamiaaGreatDoor.U Go.Proofs.YtfbfigjjnpamiaaGreatDoor.L

/-- What a hexadecimal digit says. -/
def hexC (c : Nat) : Option Nat := if 48 ≤ c ∧ c ≤ 57 then some (c - 48) else if 97 ≤ c ∧ c ≤ 102 then some (c - 87) else if 65 ≤ c ∧ c ≤ 70 then some (c - 55) else none
theorem hexC_lt {c v : Nat} (h : hexC c = some v) : v < 16 := by
  unfold hexC at h
  split at h
  · cases h; omega
  · split at h
    · cases h; omega
    · split at h
      · cases h; omega
      · cases h
theorem hexC_high (r : Nat) (h : 128 ≤ r) : hexC r = none := by
  unfold hexC
  rw [if_neg (by omega), if_neg (by omega), if_neg (by omega)]
theorem ret_two {a b : Int} {c d : Bool} (h : a = b) (h' : c = d) : Ending.returned (.tuple #[.int .u32 a, .bool c]) = .returned (.tuple #[.int .u32 b, .bool d]) := by rw [h, h']
set_option maxRecDepth 100000 in
set_option maxHeartbeats 2000000 in
theorem hexDigit_calls (r : Nat) (hr : r ≤ 1114111) (w : World) : Calls Tryz.prog 31 #[.int .i32 r] w fun e w' => e = .returned (.tuple #[.int .u32 ((hexC r).getD 0 : Nat), .bool (hexC r).isSome]) ∧ w' = w := by
  go_enter Tryz.func31, Tryz.ntmps31
  go_wp2_with (go_at_call 42; refine (isDigit_calls _ _).mono ?_; rintro e w' ⟨rfl, hw'⟩; obtain rfl : w = w' := hw'.symm)
  all_goals go_ret2
  all_goals refine ⟨ret_two ?_ ?_, rfl⟩
  all_goals simp only [digitZ, decide_eq_true_eq, decide_eq_false_iff_not] at *
  all_goals unfold hexC
  all_goals repeat' split
  all_goals simp only [Option.getD_some, Option.getD_none, Option.isSome_some, Option.isSome_none]
  all_goals first | omega | rfl | (exfalso; omega)
theorem or_nib (m v : Nat) (hm : m < 16777216) (hv : v < 16) : bits .or .u32 ((m : Int) * 16) (v : Int) = ((16 * m + v : Nat) : Int) := by
  rw [show (m : Int) * 16 = ((16 * m : Nat) : Int) by omega, u32_or_nat (16 * m) v (by omega) (by omega)]
  have := Nat.two_pow_add_eq_or_of_lt (i := 4) (b := v) (by simpa using hv) m
  simp only [Nat.reducePow] at this
  rw [← this]
theorem or_nib2 (m v : Nat) (hm : m < 16777216) (hv : v < 16) : bits .or .u32 ((m : Int) * 16 % 4294967296) (v : Int) = ((16 * m + v : Nat) : Int) := by
  rw [show (m : Int) * 16 % 4294967296 = (m : Int) * 16 by omega]
  exact or_nib m v hm hv
/-- One digit more. -/
def colF (sh : Bool) (n v : Nat) : Nat := if sh then 16 * (16 * n + v) + v else 16 * n + v
def colV (sh : Bool) (l : List UInt8) : Nat := l.foldl (fun n c => colF sh n ((hexC c.toNat).getD 0)) 0
theorem colV_snoc (sh : Bool) (l : List UInt8) (c : UInt8) : colV sh (l ++ [c]) = colF sh (colV sh l) ((hexC c.toNat).getD 0) := by simp [colV]
def hexB (c : UInt8) : Bool := (hexC c.toNat).isSome
theorem hexV_lt (c : UInt8) : (hexC c.toNat).getD 0 < 16 := by
  cases h : hexC c.toNat with
  | none => decide
  | some v => exact hexC_lt h
theorem colV_lt (sh : Bool) (l : List UInt8) : ∀ k, k ≤ l.length → colV sh (l.take k) < (if sh then 256 else 16) ^ k := fun k => by
  induction k with
  | zero => intro _; simp [colV]
  | succ k ih =>
    intro h
    have h1 := ih (by omega)
    rw [take_snoc l k (by omega), colV_snoc]
    have h2 := hexV_lt (l.getD k 0)
    cases sh with
    | false =>
      have h3 : colV false (l.take k) < 16 ^ k := h1
      show 16 * colV false (l.take k) + (hexC (l.getD k 0).toNat).getD 0 < 16 ^ (k + 1)
      rw [Nat.pow_succ]
      omega
    | true =>
      have h3 : colV true (l.take k) < 256 ^ k := h1
      show 16 * (16 * colV true (l.take k) + (hexC (l.getD k 0).toNat).getD 0) + (hexC (l.getD k 0).toNat).getD 0 < 256 ^ (k + 1)
      rw [Nat.pow_succ]
      omega
/-- The color that a plain text says. -/
def colB (l : List UInt8) : Option Nat := if (l.length = 4 ∨ l.length = 7) ∧ l.getD 0 0 = 35 ∧ (l.drop 1).all hexB = true then some (colV (decide (l.length = 4)) (l.drop 1)) else none
def colR (o : Option Nat) : Value := .tuple #[.int .u32 (o.getD 0 : Nat), .bool o.isSome]
set_option maxRecDepth 100000 in
set_option maxHeartbeats 4000000 in
/-- **Color.** -/
theorem Color_calls (bs : List UInt8) (w : World) (hT : Tb w) (hl : bs.length ≤ 10000000000) :
    Calls Tryz.prog 16 #[.string ⟨bs.toArray⟩] w fun e W' => e = .returned (colR (colB (clB bs))) ∧ Below w.heap.size w W' := by
  have HC := hid_of (clean_calls bs w hT hl)
  have hcl := clB_len bs
  obtain ⟨l, hL⟩ : ∃ l, clB bs = l := ⟨_, rfl⟩
  rw [hL] at HC hcl ⊢
  obtain ⟨R, hR⟩ : ∃ R, colB l = R := ⟨_, rfl⟩
  rw [hR]
  clear hL hT
  have HCP := hid_of (fun W => Any.strings_CutPrefix Tryz.lays103 ⟨l.toArray⟩ ⟨#[35]⟩ W)
  by_cases hp : l.getD 0 0 = 35 ∧ l ≠ []
  case' neg =>
    have HR : Hid (R = none) := by
      show R = none
      rw [← hR]
      unfold colB
      rw [if_neg]
      rintro ⟨h1, h2, _⟩
      exact hp ⟨h2, fun e => by rw [e] at h1; simp at h1⟩
    have hpre : Lib.hasPrefix l [35] = false := by
      unfold Lib.hasPrefix
      cases l with
      | nil => rfl
      | cons c t =>
        have hc : c ≠ 35 := fun e => hp ⟨by rw [e]; rfl, by simp⟩
        show (35 == c && [].isPrefixOf t) = false
        rw [show ((35 : UInt8) == c) = false from beq_eq_false_iff_ne.2 (fun e => hc e.symm)]
        rfl
    have HCP2 : Hid (∀ W, Calls Tryz.prog 30 #[.string ⟨l.toArray⟩, .string ⟨#[35]⟩] W fun e w' => e = .returned (.tuple #[.string ⟨l.toArray⟩, .bool false]) ∧ w' = W) := fun W => by
      have h := HCP.out W
      rw [show (⟨l.toArray⟩ : ByteArray).data.toList = l from rfl, show (⟨#[35]⟩ : ByteArray).data.toList = [35] from rfl, hpre] at h
      unfold Lib.trimPrefix at h
      rw [hpre] at h
      exact h
    clear hR hp hpre HCP
    go_enter Tryz.func16, Tryz.ntmps16
    go_wp2_with fail
    (go_at_call 24; refine HC.out.mono ?_; rintro e w1 ⟨rfl, hb1⟩)
    go_wp2_with fail
    (go_at_call 30; refine (HCP2.out _).mono ?_; rintro e w' ⟨rfl, hw'⟩; obtain rfl : w1 = w' := hw'.symm)
    go_wp2_with fail
    go_ret2
    exact ⟨by rw [HR.out]; rfl, hb1⟩
  obtain ⟨ds, rfl⟩ : ∃ ds, l = 35 :: ds := by
    cases l with
    | nil => exact absurd rfl hp.2
    | cons c t => exact ⟨t, by rw [show c = 35 from hp.1]⟩
  have HCP2 : Hid (∀ W, Calls Tryz.prog 30 #[.string ⟨(35 :: ds).toArray⟩, .string ⟨#[35]⟩] W fun e w' => e = .returned (.tuple #[.string ⟨ds.toArray⟩, .bool true]) ∧ w' = W) := fun W => HCP.out W
  rw [List.length_cons] at hcl
  clear hp HCP
  have hsz := byteArr_size ds
  by_cases h36 : ds.length = 3 ∨ ds.length = 6
  case' neg =>
    have HR : Hid (R = none) := by
      show R = none
      rw [← hR]
      unfold colB
      rw [if_neg]
      rintro ⟨h1, _⟩
      simp at h1
      exact h36 h1
    have e3 : ((ds.length : Int) == 3) = false := by rw [beq_eq_false_iff_ne]; omega
    have e6 : ((ds.length : Int) != 6) = true := by rw [bne_iff_ne]; omega
    clear hR h36
    go_enter Tryz.func16, Tryz.ntmps16
    go_wp2_with fail
    (go_at_call 24; refine HC.out.mono ?_; rintro e w1 ⟨rfl, hb1⟩)
    go_wp2_with fail
    (go_at_call 30; refine (HCP2.out _).mono ?_; rintro e w' ⟨rfl, hw'⟩; obtain rfl : w1 = w' := hw'.symm)
    go_wp2_with fail
    go_ret2
    exact ⟨by rw [HR.out]; rfl, hb1⟩
  have HR : Hid (R = if ds.all hexB = true then some (colV (decide (ds.length = 3)) ds) else none) := by
    show _ = _
    rw [← hR]
    unfold colB
    by_cases ha : ds.all hexB = true
    · rw [if_pos ha, if_pos ⟨by simp; exact h36, rfl, ha⟩]
      congr 2
      simp
    · rw [if_neg ha, if_neg (fun h => ha h.2.2)]
  obtain ⟨sh, hsh⟩ : ∃ sh, decide (ds.length = 3) = sh := ⟨_, rfl⟩
  rw [hsh] at HR
  have e3 : ((ds.length : Int) == 3) = sh := by
    rw [← hsh, Bool.eq_iff_iff, beq_iff_eq, decide_eq_true_eq]; omega
  have e6 : sh = false → ((ds.length : Int) != 6) = false := fun h => by
    rw [h] at hsh
    rw [decide_eq_false_iff_not] at hsh
    rw [bne_eq_false_iff_eq]; omega
  have hbig : ∀ k, k ≤ ds.length → (if sh then 256 else 16) ^ k ≤ 16777216 := fun k hk => by
    have h1 : ∀ (b : Nat), 0 < b → b ^ k ≤ b ^ ds.length := fun b hb => Nat.pow_le_pow_right hb hk
    cases hs : sh with
    | true =>
      rw [hs] at hsh
      have : ds.length = 3 := of_decide_eq_true hsh
      have h2 := h1 256 (by decide)
      rw [this] at h2
      exact h2
    | false =>
      rw [hs] at hsh
      have : ds.length = 6 := by have := of_decide_eq_false hsh; omega
      have h2 := h1 16 (by decide)
      rw [this] at h2
      exact h2
  have HBIG := hid_of hbig
  clear hR hbig hsh
  cases sh
  case' false => have e6' := e6 rfl
  all_goals clear e6
  all_goals go_enter Tryz.func16, Tryz.ntmps16
  all_goals go_wp2_with fail
  all_goals (go_at_call 24; refine HC.out.mono ?_; rintro e w1 ⟨rfl, hb1⟩)
  all_goals go_wp2_with fail
  all_goals (go_at_call 30; refine (HCP2.out _).mono ?_; rintro e w' ⟨rfl, hw'⟩; obtain rfl : w1 = w' := hw'.symm)
  all_goals clear HC HCP2
  all_goals go_wp2_with fail
  · have HF : Hid (∀ n v, colF false n v = 16 * n + v) := fun n v => rfl
    go_loopw [7, 9, 10, 11] (fun n _ _ _ wr => ∃ k : Nat, k ≤ ds.length ∧ n = .int .u32 ((colV false (ds.take k) : Nat) : Int) ∧ Hid (∀ c ∈ ds.take k, hexB c = true) ∧ wr.heap[w1.heap.size]? = some (.stringIter ⟨ds.toArray⟩ k) ∧ Below w.heap.size w wr ∧ w1.heap.size < wr.heap.size) (fun _ _ _ _ wr => ds.length - wr.iterPos w1.heap.size)
    case atStart => exact ⟨0, by omega, rfl, (fun c hc => absurd hc (by simp)), World.iter_heap _ _ _, hb1.alloc hb1.size _, by simp [World.iter]⟩
    case round =>
      obtain ⟨k, hk, rfl, hD, hit, hB, hz⟩ := hrel
      by_cases hlt : k < ds.length
      · obtain ⟨c, hc⟩ : ∃ c, ds.getD k 0 = c := ⟨_, rfl⟩
        have hnum := Nat.lt_of_lt_of_le (colV_lt false ds (k + 1) (by omega)) (HBIG.out (k + 1) (by omega))
        rw [take_snoc ds k hlt, hc, colV_snoc, HF.out] at hnum
        have hnx : ∀ ty, (Instr.next (.pointer (some ⟨w1.heap.size, 0, none⟩)) true ty).run Tryz.prog wr = _ := fun ty => Lib.run_next_any_at wr w1.heap.size ⟨ds.toArray⟩ k ty hit (by rw [hsz]; exact hlt)
        cases hd : hexC c.toNat with
        | some v =>
          have hv := hexC_lt hd
          have ha : c.toNat < 128 := by
            rcases Nat.lt_or_ge c.toNat 128 with h | h
            · exact h
            · rw [hexC_high _ h] at hd; cases hd
          rw [dec_low ds k c hc ha] at hnx
          simp only at hnx
          have hitX := Lib.iterAt_heap wr w1.heap.size ⟨ds.toArray⟩ k (k + 1) hit
          have hgX := iterAt_grownV wr w1.heap.size ⟨ds.toArray⟩ (k + 1)
          have HIT : Hid (wr.heap[w1.heap.size]? = some (.stringIter ⟨ds.toArray⟩ k)) := hit
          obtain ⟨X, hX⟩ : ∃ X, wr.iterAt w1.heap.size ⟨ds.toArray⟩ (k + 1) = X := ⟨_, rfl⟩
          rw [hX] at hnx hitX hgX
          have hBX : Below w.heap.size w X := hB.grown hgX hB.size (fun j hj => by cases hj; exact hb1.size)
          have hzX := hgX.size
          have HS : Hid (colV false (ds.take (k + 1)) = colF false (colV false (ds.take k)) v) := by show _ = _; rw [take_snoc ds k hlt, hc, colV_snoc, hd]; rfl
          have HD : Hid (∀ d ∈ ds.take (k + 1), hexB d = true) := fun d hdm => by
            rw [take_snoc ds k hlt, hc] at hdm
            rcases List.mem_append.1 hdm with h | h
            · exact hD.out d h
            · simp at h; subst h; unfold hexB; rw [hd]; rfl
          have HITX : Hid (X.heap[w1.heap.size]? = some (.stringIter ⟨ds.toArray⟩ (k + 1))) := hitX
          have HX := hid_of (hexDigit_calls c.toNat (by omega) X)
          rw [hd] at HX hnum
          simp only [Option.getD_some, Option.isSome_some] at HX hnum
          obtain ⟨m, hm⟩ : ∃ m, colV false (ds.take k) = m := ⟨_, rfl⟩
          rw [hm] at hnum HS ⊢
          rw [HF.out] at HS
          clear hX hit hitX hgX hc hd hm hD ha
          go_wp2_with (go_at_call 31; refine HX.out.mono ?_; rintro e w' ⟨rfl, hw'⟩; obtain rfl : X = w' := hw'.symm)
          have O1 := hid_of (or_nib m v (by omega) hv)
          go_roundw
          case rel => exact ⟨k + 1, by omega, by rw [HS.out, O1.out], HD, HITX.out, hBX, by omega⟩
          case measure => rw [iterPos_ofV HITX.out, iterPos_ofV HIT.out]; omega
        | none =>
          have HN : Hid (R = none) := by
            show R = none
            rw [HR.out, if_neg]
            intro h
            rw [List.all_eq_true] at h
            have := h c (by rw [← hc, List.getD_eq_getElem?_getD, List.getElem?_eq_getElem hlt]; exact List.getElem_mem hlt)
            unfold hexB at this
            rw [hd] at this
            cases this
          obtain ⟨r, n, hdec, hr0, hz0⟩ : ∃ r n : Nat, Utf8.decode ⟨ds.toArray⟩ k = (r, n) ∧ r ≤ 1114111 ∧ hexC r = none := by
            by_cases ha : c.toNat < 128
            · exact ⟨_, _, dec_low ds k c hc ha, by omega, hd⟩
            · obtain ⟨r, n, h1, h2, h3⟩ := dec_high ds k c hc hlt (by omega)
              exact ⟨r, n, h1, h3, hexC_high r h2⟩
          rw [hdec] at hnx
          simp only at hnx
          have hgX := iterAt_grownV wr w1.heap.size ⟨ds.toArray⟩ (k + n)
          obtain ⟨X, hX⟩ : ∃ X, wr.iterAt w1.heap.size ⟨ds.toArray⟩ (k + n) = X := ⟨_, rfl⟩
          rw [hX] at hnx hgX
          have hBX : Below w.heap.size w X := hB.grown hgX hB.size (fun j hj => by cases hj; exact hb1.size)
          have HX := hid_of (hexDigit_calls r hr0 X)
          rw [hz0] at HX
          clear hX hit hgX hc hd hdec hnum hD hz0
          go_wp2_with (go_at_call 31; refine HX.out.mono ?_; rintro e w' ⟨rfl, hw'⟩; obtain rfl : X = w' := hw'.symm)
          go_ret2
          exact ⟨by rw [HN.out]; rfl, hBX⟩
      · obtain rfl : k = ds.length := by omega
        have hnx : ∀ ty, (Instr.next (.pointer (some ⟨w1.heap.size, 0, none⟩)) true ty).run Tryz.prog wr = _ := fun ty => Lib.run_next_end_at wr w1.heap.size ⟨ds.toArray⟩ ds.length ty hit (by rw [hsz]; exact hlt)
        have HN : Hid (R = some (colV false ds)) := by
          have := hD.out
          rw [List.take_length] at this
          show R = _
          rw [HR.out, if_pos (by rw [List.all_eq_true]; exact this)]
        rw [List.take_length]
        clear hD
        go_wp2
        go_ret2
        exact ⟨by rw [HN.out]; rfl, hB⟩
  · have HF : Hid (∀ n v, colF true n v = 16 * (16 * n + v) + v) := fun n v => rfl
    go_loopw [7, 9, 10, 11] (fun n _ _ _ wr => ∃ k : Nat, k ≤ ds.length ∧ n = .int .u32 ((colV true (ds.take k) : Nat) : Int) ∧ Hid (∀ c ∈ ds.take k, hexB c = true) ∧ wr.heap[w1.heap.size]? = some (.stringIter ⟨ds.toArray⟩ k) ∧ Below w.heap.size w wr ∧ w1.heap.size < wr.heap.size) (fun _ _ _ _ wr => ds.length - wr.iterPos w1.heap.size)
    case atStart => exact ⟨0, by omega, rfl, (fun c hc => absurd hc (by simp)), World.iter_heap _ _ _, hb1.alloc hb1.size _, by simp [World.iter]⟩
    case round =>
      obtain ⟨k, hk, rfl, hD, hit, hB, hz⟩ := hrel
      by_cases hlt : k < ds.length
      · obtain ⟨c, hc⟩ : ∃ c, ds.getD k 0 = c := ⟨_, rfl⟩
        have hnum := Nat.lt_of_lt_of_le (colV_lt true ds (k + 1) (by omega)) (HBIG.out (k + 1) (by omega))
        rw [take_snoc ds k hlt, hc, colV_snoc, HF.out] at hnum
        have hnx : ∀ ty, (Instr.next (.pointer (some ⟨w1.heap.size, 0, none⟩)) true ty).run Tryz.prog wr = _ := fun ty => Lib.run_next_any_at wr w1.heap.size ⟨ds.toArray⟩ k ty hit (by rw [hsz]; exact hlt)
        cases hd : hexC c.toNat with
        | some v =>
          have hv := hexC_lt hd
          have ha : c.toNat < 128 := by
            rcases Nat.lt_or_ge c.toNat 128 with h | h
            · exact h
            · rw [hexC_high _ h] at hd; cases hd
          rw [dec_low ds k c hc ha] at hnx
          simp only at hnx
          have hitX := Lib.iterAt_heap wr w1.heap.size ⟨ds.toArray⟩ k (k + 1) hit
          have hgX := iterAt_grownV wr w1.heap.size ⟨ds.toArray⟩ (k + 1)
          have HIT : Hid (wr.heap[w1.heap.size]? = some (.stringIter ⟨ds.toArray⟩ k)) := hit
          obtain ⟨X, hX⟩ : ∃ X, wr.iterAt w1.heap.size ⟨ds.toArray⟩ (k + 1) = X := ⟨_, rfl⟩
          rw [hX] at hnx hitX hgX
          have hBX : Below w.heap.size w X := hB.grown hgX hB.size (fun j hj => by cases hj; exact hb1.size)
          have hzX := hgX.size
          have HS : Hid (colV true (ds.take (k + 1)) = colF true (colV true (ds.take k)) v) := by show _ = _; rw [take_snoc ds k hlt, hc, colV_snoc, hd]; rfl
          have HD : Hid (∀ d ∈ ds.take (k + 1), hexB d = true) := fun d hdm => by
            rw [take_snoc ds k hlt, hc] at hdm
            rcases List.mem_append.1 hdm with h | h
            · exact hD.out d h
            · simp at h; subst h; unfold hexB; rw [hd]; rfl
          have HITX : Hid (X.heap[w1.heap.size]? = some (.stringIter ⟨ds.toArray⟩ (k + 1))) := hitX
          have HX := hid_of (hexDigit_calls c.toNat (by omega) X)
          rw [hd] at HX hnum
          simp only [Option.getD_some, Option.isSome_some] at HX hnum
          obtain ⟨m, hm⟩ : ∃ m, colV true (ds.take k) = m := ⟨_, rfl⟩
          rw [hm] at hnum HS ⊢
          rw [HF.out] at HS
          clear hX hit hitX hgX hc hd hm hD ha
          go_wp2_with (go_at_call 31; refine HX.out.mono ?_; rintro e w' ⟨rfl, hw'⟩; obtain rfl : X = w' := hw'.symm)
          have O1 := hid_of (or_nib m v (by omega) hv)
          have O2 := hid_of (or_nib2 (16 * m + v) v (by omega) hv)
          go_roundw
          case rel => exact ⟨k + 1, by omega, by rw [HS.out, O1.out, O2.out], HD, HITX.out, hBX, by omega⟩
          case measure => rw [iterPos_ofV HITX.out, iterPos_ofV HIT.out]; omega
        | none =>
          have HN : Hid (R = none) := by
            show R = none
            rw [HR.out, if_neg]
            intro h
            rw [List.all_eq_true] at h
            have := h c (by rw [← hc, List.getD_eq_getElem?_getD, List.getElem?_eq_getElem hlt]; exact List.getElem_mem hlt)
            unfold hexB at this
            rw [hd] at this
            cases this
          obtain ⟨r, n, hdec, hr0, hz0⟩ : ∃ r n : Nat, Utf8.decode ⟨ds.toArray⟩ k = (r, n) ∧ r ≤ 1114111 ∧ hexC r = none := by
            by_cases ha : c.toNat < 128
            · exact ⟨_, _, dec_low ds k c hc ha, by omega, hd⟩
            · obtain ⟨r, n, h1, h2, h3⟩ := dec_high ds k c hc hlt (by omega)
              exact ⟨r, n, h1, h3, hexC_high r h2⟩
          rw [hdec] at hnx
          simp only at hnx
          have hgX := iterAt_grownV wr w1.heap.size ⟨ds.toArray⟩ (k + n)
          obtain ⟨X, hX⟩ : ∃ X, wr.iterAt w1.heap.size ⟨ds.toArray⟩ (k + n) = X := ⟨_, rfl⟩
          rw [hX] at hnx hgX
          have hBX : Below w.heap.size w X := hB.grown hgX hB.size (fun j hj => by cases hj; exact hb1.size)
          have HX := hid_of (hexDigit_calls r hr0 X)
          rw [hz0] at HX
          clear hX hit hgX hc hd hdec hnum hD hz0
          go_wp2_with (go_at_call 31; refine HX.out.mono ?_; rintro e w' ⟨rfl, hw'⟩; obtain rfl : X = w' := hw'.symm)
          go_ret2
          exact ⟨by rw [HN.out]; rfl, hBX⟩
      · obtain rfl : k = ds.length := by omega
        have hnx : ∀ ty, (Instr.next (.pointer (some ⟨w1.heap.size, 0, none⟩)) true ty).run Tryz.prog wr = _ := fun ty => Lib.run_next_end_at wr w1.heap.size ⟨ds.toArray⟩ ds.length ty hit (by rw [hsz]; exact hlt)
        have HN : Hid (R = some (colV true ds)) := by
          have := hD.out
          rw [List.take_length] at this
          show R = _
          rw [HR.out, if_pos (by rw [List.all_eq_true]; exact this)]
        rw [List.take_length]
        clear hD
        go_wp2
        go_ret2
        exact ⟨by rw [HN.out]; rfl, hB⟩
end Go.Proofs.YtfbfigjjnpamiaaGreatDoor.V
