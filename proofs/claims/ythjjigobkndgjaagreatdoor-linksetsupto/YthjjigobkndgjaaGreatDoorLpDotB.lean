/- What is proved here: the contracts of bytes.LastIndexByte, link.withoutLast and link.slashAt. -/
import Derived.Test.YthjjigobkndgjaaGreatDoorLpSch
import Derived.Test.YthjjigobkndgjaaGreatDoorTShelf
import Derived.Test.YthjjigobkndgjaaGreatDoorLkDotM
namespace Go.Proofs.YthjjigobkndgjaaGreatDoor.L
open Go.RowKit Go.Shelf Go.Proofs.YthjjigobkndgjaaGreatDoor.N Go.Proofs.YthjjigobkndgjaaGreatDoor.U

/-- Where the last / stands, plus one; 0, if there is none. -/
def lastP : List UInt8 → Nat
  | [] => 0
  | c :: t => if lastP t ≠ 0 then lastP t + 1 else if c == 47 then 1 else 0
theorem lastP_le : ∀ l : List UInt8, lastP l ≤ l.length
  | [] => by simp [lastP]
  | c :: t => by
    have := lastP_le t
    unfold lastP
    split
    · simp; omega
    · split <;> simp
theorem lastP_snoc : ∀ (l : List UInt8) (c : UInt8), lastP (l ++ [c]) = if c == 47 then l.length + 1 else lastP l
  | [], c => by simp [lastP]
  | d :: t, c => by
    have h := lastP_snoc t c
    rw [List.cons_append, lastP, h]
    cases hc : (c == 47) with
    | true => simp
    | false => simp only [Bool.false_eq_true, if_false]; rfl
theorem lastP_cutN : ∀ (n : Nat) (l : List UInt8), l.length = n → cutLast l = l.take (lastP l - 1)
  | 0, l, h => by
    obtain rfl : l = [] := List.length_eq_zero_iff.1 h
    rfl
  | n + 1, l, h => by
    obtain ⟨t, c, rfl⟩ : ∃ t c, l = t ++ [c] := by
      rcases List.eq_nil_or_concat l with h0 | ⟨t, c, e⟩
      · rw [h0] at h; simp at h
      · exact ⟨t, c, by rw [e]; simp⟩
    have ih := lastP_cutN n t (by simpa using h)
    rw [lastP_snoc]
    cases hc : (c == 47) with
    | true =>
      have e : c = 47 := by simpa using hc
      subst e
      rw [if_pos rfl, Nat.add_sub_cancel, List.take_left]
      exact cutLast_more t [] (by simp)
    | false =>
      rw [if_neg (by decide)]
      have h1 : cutLast (t ++ [c]) = cutLast t := by
        unfold cutLast
        rw [List.reverse_append, List.reverse_singleton, List.singleton_append, List.dropWhile_cons, if_pos (by rw [hc]; rfl)]
      have h2 := lastP_le t
      rw [h1, ih, List.take_append_of_le_length (by omega)]
theorem lastP_cut (l : List UInt8) : cutLast l = l.take (lastP l - 1) := lastP_cutN _ l rfl
/-- The bytes of a row of one's own, one by one. -/
theorem own_byte {w : World} {base : Nat} {l : List UInt8} {a : Option Addr} {cap : Nat} (h : w.ownsRow base 5 1 (.slice a l.length cap) l.length (bvs l)) (j : Nat) (hj : j < l.length) : ∃ g, a = some ⟨g, 0, none⟩ ∧ w.cell? ⟨g, j, none⟩ = some (.int .u8 ((l.getD j 0).toNat : Int)) := by
  rcases h.2 with ⟨hv, h0⟩ | ⟨g, cp, cur, hv, _, hb, hn, _, hsz, ht⟩
  · omega
  · cases hv
    refine ⟨g, rfl, ?_⟩
    have e : (cur.toList.take (l.length * 1))[j]? = some (.int .u8 ((l.getD j 0).toNat : Int)) := by
      rw [ht]; simp [bvs, hj]
    rw [List.getElem?_take, if_pos (by omega), Array.getElem?_toList] at e
    simp [World.cell?, hb, e]
set_option maxRecDepth 100000 in
set_option maxHeartbeats 1000000 in
theorem lastIndexB_calls (base : Nat) (a : Option Addr) (cap : Nat) (l : List UInt8) (w : World) (h : w.ownsRow base 5 1 (.slice a l.length cap) l.length (bvs l)) (hl : l.length ≤ 1000000000000) :
    Calls Tryz.prog 115 #[.slice a l.length cap, .int .u8 47] w fun e w' => e = .returned (.int .i64 ((lastP l : Int) - 1)) ∧ w' = w := by
  have HO := hid_of (own_byte h)
  have hcp : l.length ≤ cap := by
    rcases h.2 with ⟨hv, h0⟩ | ⟨g, cp, cur, hv, _, hb, hn, _⟩
    · omega
    · cases hv; exact hn
  clear h
  go_enter Tryz.func115, Tryz.ntmps115
  go_wp2
  go_loopw [5] (fun vi wr => ∃ k : Nat, k ≤ l.length ∧ vi = .int .i64 ((k : Int) - 1) ∧ wr = w ∧ Hid (lastP (l.take k) = lastP l)) (fun vi _ => ((intOf vi) + 1).toNat)
  case atStart => exact ⟨l.length, by omega, rfl, by trivial, by show _ = _; rw [List.take_length]⟩
  case round =>
    obtain ⟨k, hk, rfl, hwr, hP⟩ := hrel
    obtain rfl : w = wr := hwr.symm
    clear hwr
    by_cases h0 : k = 0
    · subst h0
      have HZ : Hid (lastP l = 0) := hP.out.symm
      go_wp2
      go_ret
      exact ⟨by rw [HZ.out]; rfl, rfl⟩
    · obtain ⟨j, rfl⟩ : ∃ j, k = j + 1 := ⟨k - 1, by omega⟩
      obtain ⟨g, rfl, hcell⟩ := HO.out j (by omega)
      obtain ⟨c, hc⟩ : ∃ c, l.getD j 0 = c := ⟨_, rfl⟩
      rw [hc] at hcell
      have e : l.take (j + 1) = l.take j ++ [c] := by
        rw [List.take_succ_eq_append_getElem (by omega), ← hc]; simp [show j < l.length by omega]
      have HS : Hid (lastP l = if c == 47 then j + 1 else lastP (l.take j)) := by
        have := hP.out
        rw [e, lastP_snoc, List.length_take, Nat.min_eq_left (by omega)] at this
        exact this.symm
      have e47 : ((c.toNat : Int) == 47) = (c == 47) := eq_byte c 47
      have hj1 : ((j + 1 : Nat) : Int) - 1 = (j : Int) := by omega
      have hjl : j < l.length := by omega
      rw [hj1]
      clear hc e hP h0
      cases hb : (c == 47) with
      | true =>
        rw [hb] at e47 HS
        go_wp2
        go_ret
        exact ⟨by rw [HS.out]; simp, rfl⟩
      | false =>
        rw [hb] at e47 HS
        go_wp2
        exact ⟨⟨j, by omega, by go_num, by trivial, HS.out.symm⟩, by simp [intOf]⟩
set_option maxRecDepth 100000 in
theorem blast_calls (base : Nat) (a : Option Addr) (cap : Nat) (l : List UInt8) (w : World) (h : w.ownsRow base 5 1 (.slice a l.length cap) l.length (bvs l)) (hl : l.length ≤ 1000000000000) :
    Calls Tryz.prog 95 #[.slice a l.length cap, .int .u8 47] w fun e w' => e = .returned (.int .i64 ((lastP l : Int) - 1)) ∧ w' = w := by
  have HL := hid_of (lastIndexB_calls base a cap l w h hl)
  clear h
  go_enter Tryz.func95, Tryz.ntmps95
  go_wp2_with (go_at_call 115; refine HL.out.mono ?_; rintro e w' ⟨rfl, hx⟩; obtain rfl : w = w' := hx.symm)
  go_ret
  exact ⟨rfl, rfl⟩
/-- A shorter slice of a row of one's own. -/
theorem own_shorter {w : World} {base : Nat} {l : List UInt8} {a : Option Addr} {cap : Nat} (h : w.ownsRow base 5 1 (.slice a l.length cap) l.length (bvs l)) (m : Nat) (hm : m ≤ l.length) : w.ownsRow base 5 1 (.slice a m cap) (l.take m).length (bvs (l.take m)) := by
  have hlm : (l.take m).length = m := by simp; omega
  rw [hlm]
  refine ⟨by simp [bvs]; omega, ?_⟩
  rcases h.2 with ⟨hv, h0⟩ | ⟨g, cp, cur, hv, hb, hblk, hn, hx, hsz, ht⟩
  · rw [h0] at hv
    cases hv
    obtain rfl : m = 0 := by omega
    exact .inl ⟨rfl, rfl⟩
  · cases hv
    refine .inr ⟨g, cap, cur, rfl, hb, hblk, by omega, hx, hsz, ?_⟩
    have : cur.toList.take (m * 1) = (cur.toList.take (l.length * 1)).take (m * 1) := by rw [List.take_take]; congr 1; omega
    rw [this, ht]
    simp [bvs, List.map_take]
set_option maxRecDepth 100000 in
set_option maxHeartbeats 1000000 in
theorem withoutLast_calls (base : Nat) (a : Option Addr) (cap : Nat) (l : List UInt8) (w : World) (h : w.ownsRow base 5 1 (.slice a l.length cap) l.length (bvs l)) (hl : l.length ≤ 1000000000000) :
    Calls Tryz.prog 67 #[.slice a l.length cap] w fun e w' => e = .returned (.slice a (cutLast l).length cap) ∧ w' = w := by
  have HL := hid_of (blast_calls base a cap l w h hl)
  have hcp : l.length ≤ cap := by
    rcases h.2 with ⟨hv, h0⟩ | ⟨g, cp, cur, hv, _, hb, hn, _⟩
    · omega
    · cases hv; exact hn
  have hsp : a = none ∨ ∃ g, a = some ⟨g, 0, none⟩ := by
    rcases h.2 with ⟨hv, h0⟩ | ⟨g, cp, cur, hv, _⟩
    · rw [h0] at hv; cases hv; exact .inl rfl
    · cases hv; exact .inr ⟨g, rfl⟩
  have hP := lastP_le l
  have HC : Hid ((cutLast l).length = lastP l - 1) := by show _ = _; rw [lastP_cut]; simp; omega
  clear h
  go_enter Tryz.func67, Tryz.ntmps67
  go_wp2_with (go_at_call 95; refine HL.out.mono ?_; rintro e w' ⟨rfl, hx⟩; obtain rfl : w = w' := hx.symm)
  go_ret
  have e : (max 0 ((lastP l : Int) - 1)).toNat = (cutLast l).length := by rw [HC.out]; omega
  exact ⟨by rw [← e]; rfl, rfl⟩
theorem index_up (l : List UInt8) : (0 ≤ Lib.indexByte l 47 → Lib.indexByte l 47 = (upToL [47] l : Nat)) ∧ (¬ 0 ≤ Lib.indexByte l 47 → upToL [47] l = l.length) := by
  induction l with
  | nil => exact ⟨fun h => by simp [Lib.indexByte] at h, fun _ => rfl⟩
  | cons c t ih =>
    cases hc : (c == 47) with
    | true =>
      have e : upToL [47] (c :: t) = 0 := by
        unfold upToL
        rw [List.takeWhile_cons, if_neg (by simpa using hc)]; rfl
      have ei : Lib.indexByte (c :: t) 47 = 0 := by unfold Lib.indexByte; rw [if_pos hc]
      rw [e, ei]
      exact ⟨fun _ => rfl, fun h => absurd (Int.le_refl _) h⟩
    | false =>
      have e : upToL [47] (c :: t) = upToL [47] t + 1 := by
        unfold upToL
        rw [List.takeWhile_cons, if_pos (by simpa using hc)]; rfl
      by_cases h1 : Lib.indexByte t 47 = -1
      · have ei : Lib.indexByte (c :: t) 47 = -1 := by
          conv => lhs; unfold Lib.indexByte
          rw [if_neg (by rw [hc]; decide), if_pos (by rw [h1]; rfl)]
        rw [ei, e, ih.2 (by omega)]
        exact ⟨fun h => by omega, fun _ => rfl⟩
      · have ei : Lib.indexByte (c :: t) 47 = Lib.indexByte t 47 + 1 := by
          conv => lhs; unfold Lib.indexByte
          rw [if_neg (by rw [hc]; decide), if_neg (by simpa using h1)]
        rw [ei, e]
        by_cases h2 : 0 ≤ Lib.indexByte t 47
        · have := ih.1 h2
          exact ⟨fun _ => by omega, fun h => by omega⟩
        · have := ih.2 h2
          have hr := Lib.indexByte_ge t 47
          exact ⟨fun h => by omega, fun h => by rw [List.length_cons]; omega⟩
theorem slashIndex_calls (l : List UInt8) (w : World) : Calls Tryz.prog 76 #[.string ⟨l.toArray⟩, .int .u8 47] w fun e w' => e = .returned (.int .i64 (Lib.indexByte l 47)) ∧ w' = w := by
  have h := Any.strings_IndexByte Tryz.lays137 ⟨l.toArray⟩ (47 : Int) w
  rw [arr_list] at h
  exact h
set_option maxRecDepth 100000 in
theorem slashAt_calls (l : List UInt8) (w : World) (_hl : l.length ≤ 1000000000000) : Calls Tryz.prog 45 #[.string ⟨l.toArray⟩] w fun e w' => e = .returned (.int .i64 (upToL [47] l : Nat)) ∧ w' = w := by
  have sl := arr_size l
  have HI := hid_of (slashIndex_calls l w)
  have HU := hid_of (index_up l)
  obtain ⟨I, hI⟩ : ∃ I, Lib.indexByte l 47 = I := ⟨_, rfl⟩
  rw [hI] at HI HU
  clear hI
  by_cases h : 0 ≤ I
  · have HV := hid_of (HU.out.1 h)
    go_enter Tryz.func45, Tryz.ntmps45
    go_wp2_with (go_at_call 76; refine HI.out.mono ?_; rintro e w' ⟨rfl, hx⟩; obtain rfl : w = w' := hx.symm)
    go_ret
    exact ⟨by rw [← HV.out]; rfl, rfl⟩
  · have HV := hid_of (HU.out.2 h)
    go_enter Tryz.func45, Tryz.ntmps45
    go_wp2_with (go_at_call 76; refine HI.out.mono ?_; rintro e w' ⟨rfl, hx⟩; obtain rfl : w = w' := hx.symm)
    go_ret
    exact ⟨by rw [HV.out]; rfl, rfl⟩
end Go.Proofs.YthjjigobkndgjaaGreatDoor.L
