/- What is proved here: laws and contracts of LpDotB, LpSplit, one behind the other (each says its own). -/
import Derived.Test.YtmfhhpacojodkaaGreatDoorBun11
import Derived.Test.YtmfhhpacojodkaaGreatDoorTShelf
import Derived.Test.YtmfhhpacojodkaaGreatDoorLkDotM
import Derived.Test.YtmfhhpacojodkaaGreatDoorBun20
import Derived.Test.YtmfhhpacojodkaaGreatDoorBun19
/- What is proved here: the contracts of bytes.LastIndexByte, link.withoutLast and link.slashAt. -/
namespace Go.Proofs.YtmfhhpacojodkaaGreatDoor.L
open Go.RowKit Go.Shelf Go.Proofs.YtmfhhpacojodkaaGreatDoor.N Go.Proofs.YtmfhhpacojodkaaGreatDoor.U

/-- Where the last / stands, plus one; 0, if there is none. -/
def lastP : List UInt8 → Nat
  | [] => 0
  | c :: t => if lastP t ≠ 0 then lastP t + 1 else if c == 47 then 1 else 0
theorem lastP_le : ∀ l : List UInt8, lastP l ≤ l.length
  | [] => by simp [lastP]
  | c :: t => by
    have := lastP_le t
    unfold lastP
    split
    · simp; omega
    · split <;> simp
theorem lastP_snoc : ∀ (l : List UInt8) (c : UInt8), lastP (l ++ [c]) = if c == 47 then l.length + 1 else lastP l
  | [], c => by simp [lastP]
  | d :: t, c => by
    have h := lastP_snoc t c
    rw [List.cons_append, lastP, h]
    cases hc : (c == 47) with
    | true => simp
    | false => simp only [Bool.false_eq_true, if_false]; rfl
theorem lastP_cutN : ∀ (n : Nat) (l : List UInt8), l.length = n → cutLast l = l.take (lastP l - 1)
  | 0, l, h => by
    obtain rfl : l = [] := List.length_eq_zero_iff.1 h
    rfl
  | n + 1, l, h => by
    obtain ⟨t, c, rfl⟩ : ∃ t c, l = t ++ [c] := by
      rcases List.eq_nil_or_concat l with h0 | ⟨t, c, e⟩
      · rw [h0] at h; simp at h
      · exact ⟨t, c, by rw [e]; simp⟩
    have ih := lastP_cutN n t (by simpa using h)
    rw [lastP_snoc]
    cases hc : (c == 47) with
    | true =>
      have e : c = 47 := by simpa using hc
      subst e
      rw [if_pos rfl, Nat.add_sub_cancel, List.take_left]
      exact cutLast_more t [] (by simp)
    | false =>
      rw [if_neg (by decide)]
      have h1 : cutLast (t ++ [c]) = cutLast t := by
        unfold cutLast
        rw [List.reverse_append, List.reverse_singleton, List.singleton_append, List.dropWhile_cons, if_pos (by rw [hc]; rfl)]
      have h2 := lastP_le t
      rw [h1, ih, List.take_append_of_le_length (by omega)]
theorem lastP_cut (l : List UInt8) : cutLast l = l.take (lastP l - 1) := lastP_cutN _ l rfl
/-- The bytes of a row of one's own, one by one. -/
theorem own_byte {w : World} {base : Nat} {l : List UInt8} {a : Option Addr} {cap : Nat} (h : w.ownsRow base 5 1 (.slice a l.length cap) l.length (bvs l)) (j : Nat) (hj : j < l.length) : ∃ g, a = some ⟨g, 0, none⟩ ∧ w.cell? ⟨g, j, none⟩ = some (.int .u8 ((l.getD j 0).toNat : Int)) := by
  rcases h.2 with ⟨hv, h0⟩ | ⟨g, cp, cur, hv, _, hb, hn, _, hsz, ht⟩
  · omega
  · cases hv
    refine ⟨g, rfl, ?_⟩
    have e : (cur.toList.take (l.length * 1))[j]? = some (.int .u8 ((l.getD j 0).toNat : Int)) := by
      rw [ht]; simp [bvs, hj]
    rw [List.getElem?_take, if_pos (by omega), Array.getElem?_toList] at e
    simp [World.cell?, hb, e]
set_option maxRecDepth 100000 in
set_option maxHeartbeats 1000000 in
theorem lastIndexB_calls (base : Nat) (a : Option Addr) (cap : Nat) (l : List UInt8) (w : World) (h : w.ownsRow base 5 1 (.slice a l.length cap) l.length (bvs l)) (hl : l.length ≤ 1000000000000) :
    Calls Tryz.prog 116 #[.slice a l.length cap, .int .u8 47] w fun e w' => e = .returned (.int .i64 ((lastP l : Int) - 1)) ∧ w' = w := by
  have HO := hid_of (own_byte h)
  have hcp : l.length ≤ cap := by
    rcases h.2 with ⟨hv, h0⟩ | ⟨g, cp, cur, hv, _, hb, hn, _⟩
    · omega
    · cases hv; exact hn
  clear h
  go_enter Tryz.func116, Tryz.ntmps116
  go_wp2
  go_loopw [5] (fun vi wr => ∃ k : Nat, k ≤ l.length ∧ vi = .int .i64 ((k : Int) - 1) ∧ wr = w ∧ Hid (lastP (l.take k) = lastP l)) (fun vi _ => ((intOf vi) + 1).toNat)
  case atStart => exact ⟨l.length, by omega, rfl, by trivial, by show _ = _; rw [List.take_length]⟩
  case round =>
    obtain ⟨k, hk, rfl, hwr, hP⟩ := hrel
    obtain rfl : w = wr := hwr.symm
    clear hwr
    by_cases h0 : k = 0
    · subst h0
      have HZ : Hid (lastP l = 0) := hP.out.symm
      go_wp2
      go_ret
      exact ⟨by rw [HZ.out]; rfl, rfl⟩
    · obtain ⟨j, rfl⟩ : ∃ j, k = j + 1 := ⟨k - 1, by omega⟩
      obtain ⟨g, rfl, hcell⟩ := HO.out j (by omega)
      obtain ⟨c, hc⟩ : ∃ c, l.getD j 0 = c := ⟨_, rfl⟩
      rw [hc] at hcell
      have e : l.take (j + 1) = l.take j ++ [c] := by
        rw [List.take_succ_eq_append_getElem (by omega), ← hc]; simp [show j < l.length by omega]
      have HS : Hid (lastP l = if c == 47 then j + 1 else lastP (l.take j)) := by
        have := hP.out
        rw [e, lastP_snoc, List.length_take, Nat.min_eq_left (by omega)] at this
        exact this.symm
      have e47 : ((c.toNat : Int) == 47) = (c == 47) := eq_byte c 47
      have hj1 : ((j + 1 : Nat) : Int) - 1 = (j : Int) := by omega
      have hjl : j < l.length := by omega
      rw [hj1]
      clear hc e hP h0
      cases hb : (c == 47) with
      | true =>
        rw [hb] at e47 HS
        go_wp2
        go_ret
        exact ⟨by rw [HS.out]; simp, rfl⟩
      | false =>
        rw [hb] at e47 HS
        go_wp2
        exact ⟨⟨j, by omega, by go_num, by trivial, HS.out.symm⟩, by simp [intOf]⟩
set_option maxRecDepth 100000 in
theorem blast_calls (base : Nat) (a : Option Addr) (cap : Nat) (l : List UInt8) (w : World) (h : w.ownsRow base 5 1 (.slice a l.length cap) l.length (bvs l)) (hl : l.length ≤ 1000000000000) :
    Calls Tryz.prog 97 #[.slice a l.length cap, .int .u8 47] w fun e w' => e = .returned (.int .i64 ((lastP l : Int) - 1)) ∧ w' = w := by
  have HL := hid_of (lastIndexB_calls base a cap l w h hl)
  clear h
  go_enter Tryz.func97, Tryz.ntmps97
  go_wp2_with (go_at_call 116; refine HL.out.mono ?_; rintro e w' ⟨rfl, hx⟩; obtain rfl : w = w' := hx.symm)
  go_ret
  exact ⟨rfl, rfl⟩
/-- A shorter slice of a row of one's own. -/
theorem own_shorter {w : World} {base : Nat} {l : List UInt8} {a : Option Addr} {cap : Nat} (h : w.ownsRow base 5 1 (.slice a l.length cap) l.length (bvs l)) (m : Nat) (hm : m ≤ l.length) : w.ownsRow base 5 1 (.slice a m cap) (l.take m).length (bvs (l.take m)) := by
  have hlm : (l.take m).length = m := by simp; omega
  rw [hlm]
  refine ⟨by simp [bvs]; omega, ?_⟩
  rcases h.2 with ⟨hv, h0⟩ | ⟨g, cp, cur, hv, hb, hblk, hn, hx, hsz, ht⟩
  · rw [h0] at hv
    cases hv
    obtain rfl : m = 0 := by omega
    exact .inl ⟨rfl, rfl⟩
  · cases hv
    refine .inr ⟨g, cap, cur, rfl, hb, hblk, by omega, hx, hsz, ?_⟩
    have : cur.toList.take (m * 1) = (cur.toList.take (l.length * 1)).take (m * 1) := by rw [List.take_take]; congr 1; omega
    rw [this, ht]
    simp [bvs, List.map_take]
set_option maxRecDepth 100000 in
set_option maxHeartbeats 1000000 in
theorem withoutLast_calls (base : Nat) (a : Option Addr) (cap : Nat) (l : List UInt8) (w : World) (h : w.ownsRow base 5 1 (.slice a l.length cap) l.length (bvs l)) (hl : l.length ≤ 1000000000000) :
    Calls Tryz.prog 71 #[.slice a l.length cap] w fun e w' => e = .returned (.slice a (cutLast l).length cap) ∧ w' = w := by
  have HL := hid_of (blast_calls base a cap l w h hl)
  have hcp : l.length ≤ cap := by
    rcases h.2 with ⟨hv, h0⟩ | ⟨g, cp, cur, hv, _, hb, hn, _⟩
    · omega
    · cases hv; exact hn
  have hsp : a = none ∨ ∃ g, a = some ⟨g, 0, none⟩ := by
    rcases h.2 with ⟨hv, h0⟩ | ⟨g, cp, cur, hv, _⟩
    · rw [h0] at hv; cases hv; exact .inl rfl
    · cases hv; exact .inr ⟨g, rfl⟩
  have hP := lastP_le l
  have HC : Hid ((cutLast l).length = lastP l - 1) := by show _ = _; rw [lastP_cut]; simp; omega
  clear h
  go_enter Tryz.func71, Tryz.ntmps71
  go_wp2_with (go_at_call 97; refine HL.out.mono ?_; rintro e w' ⟨rfl, hx⟩; obtain rfl : w = w' := hx.symm)
  go_ret
  have e : (max 0 ((lastP l : Int) - 1)).toNat = (cutLast l).length := by rw [HC.out]; omega
  exact ⟨by rw [← e]; rfl, rfl⟩
theorem index_up (l : List UInt8) : (0 ≤ Lib.indexByte l 47 → Lib.indexByte l 47 = (upToL [47] l : Nat)) ∧ (¬ 0 ≤ Lib.indexByte l 47 → upToL [47] l = l.length) := by
  induction l with
  | nil => exact ⟨fun h => by simp [Lib.indexByte] at h, fun _ => rfl⟩
  | cons c t ih =>
    cases hc : (c == 47) with
    | true =>
      have e : upToL [47] (c :: t) = 0 := by
        unfold upToL
        rw [List.takeWhile_cons, if_neg (by simpa using hc)]; rfl
      have ei : Lib.indexByte (c :: t) 47 = 0 := by unfold Lib.indexByte; rw [if_pos hc]
      rw [e, ei]
      exact ⟨fun _ => rfl, fun h => absurd (Int.le_refl _) h⟩
    | false =>
      have e : upToL [47] (c :: t) = upToL [47] t + 1 := by
        unfold upToL
        rw [List.takeWhile_cons, if_pos (by simpa using hc)]; rfl
      by_cases h1 : Lib.indexByte t 47 = -1
      · have ei : Lib.indexByte (c :: t) 47 = -1 := by
          conv => lhs; unfold Lib.indexByte
          rw [if_neg (by rw [hc]; decide), if_pos (by rw [h1]; rfl)]
        rw [ei, e, ih.2 (by omega)]
        exact ⟨fun h => by omega, fun _ => rfl⟩
      · have ei : Lib.indexByte (c :: t) 47 = Lib.indexByte t 47 + 1 := by
          conv => lhs; unfold Lib.indexByte
          rw [if_neg (by rw [hc]; decide), if_neg (by simpa using h1)]
        rw [ei, e]
        by_cases h2 : 0 ≤ Lib.indexByte t 47
        · have := ih.1 h2
          exact ⟨fun _ => by omega, fun h => by omega⟩
        · have := ih.2 h2
          have hr := Lib.indexByte_ge t 47
          exact ⟨fun h => by omega, fun h => by rw [List.length_cons]; omega⟩
theorem slashIndex_calls (l : List UInt8) (w : World) : Calls Tryz.prog 62 #[.string ⟨l.toArray⟩, .int .u8 47] w fun e w' => e = .returned (.int .i64 (Lib.indexByte l 47)) ∧ w' = w := by
  have h := Any.strings_IndexByte Tryz.lays137 ⟨l.toArray⟩ (47 : Int) w
  rw [arr_list] at h
  exact h
set_option maxRecDepth 100000 in
theorem slashAt_calls (l : List UInt8) (w : World) (_hl : l.length ≤ 1000000000000) : Calls Tryz.prog 36 #[.string ⟨l.toArray⟩] w fun e w' => e = .returned (.int .i64 (upToL [47] l : Nat)) ∧ w' = w := by
  have sl := arr_size l
  have HI := hid_of (slashIndex_calls l w)
  have HU := hid_of (index_up l)
  obtain ⟨I, hI⟩ : ∃ I, Lib.indexByte l 47 = I := ⟨_, rfl⟩
  rw [hI] at HI HU
  clear hI
  by_cases h : 0 ≤ I
  · have HV := hid_of (HU.out.1 h)
    go_enter Tryz.func36, Tryz.ntmps36
    go_wp2_with (go_at_call 62; refine HI.out.mono ?_; rintro e w' ⟨rfl, hx⟩; obtain rfl : w = w' := hx.symm)
    go_ret
    exact ⟨by rw [← HV.out]; rfl, rfl⟩
  · have HV := hid_of (HU.out.2 h)
    go_enter Tryz.func36, Tryz.ntmps36
    go_wp2_with (go_at_call 62; refine HI.out.mono ?_; rintro e w' ⟨rfl, hx⟩; obtain rfl : w = w' := hx.symm)
    go_ret
    exact ⟨by rw [HV.out]; rfl, rfl⟩
end Go.Proofs.YtmfhhpacojodkaaGreatDoor.L

/- What is proved here: the contract of link.Split: a link in its parts. -/
namespace Go.Proofs.YtmfhhpacojodkaaGreatDoor.L
open Go.RowKit Go.Shelf Go.Proofs.YtmfhhpacojodkaaGreatDoor.N Go.Proofs.YtmfhhpacojodkaaGreatDoor.U

theorem results_split {tmps : Array Value} {W : World} {A : Nat} {v0 v1 v2 v3 v4 v5 v6 v7 v8 : Value} {t : TypeId} (h2 : tmps[2]?.getD undef = .pointer (some ⟨A, 0, none⟩)) (h : Blk W A #[v0, v1, v2, v3, v4, v5, v6, v7, v8] t) :
    (results Tryz.f13 tmps).run Tryz.prog W = .ok (.agg #[v0, v1, v2, v3, v4, v5, v6, v7, v8]) W := by
  obtain ⟨c0, c1, c2, c3, c4, c5, c6, c7, c8, -⟩ := h.nine
  simp [results, Tryz.results13, go_sem, h2, c0, c1, c2, c3, c4, c5, c6, c7, c8]
theorem lower_text (x : List UInt8) (W : World) (hx : x.length ≤ 4000000000) : Calls Tryz.prog 34 #[.string ⟨x.toArray⟩] W fun e W' => e = .returned (.string ⟨(lower x).toArray⟩) ∧ Below W.heap.size W W' :=
  N.lower_calls ⟨x.toArray⟩ W (by rw [arr_size]; omega)
set_option maxRecDepth 100000 in
set_option maxHeartbeats 4000000 in
/-- **Split.** -/
theorem split_calls (bs : List UInt8) (w : World) (hT : Tb w) (hm : MaxOk w) (hl : bs.length ≤ 1000000000) : Calls Tryz.prog 13 #[.string ⟨bs.toArray⟩] w fun e W' => e = .returned (splitK (stripL bs)).v ∧ Below w.heap.size w W' := by
  have HT := hid_of hT
  have HM := hid_of hm
  have HS : Hid (∀ W, Below w.heap.size w W → Calls Tryz.prog 32 #[.string ⟨bs.toArray⟩] W fun e W' => e = .returned (.string ⟨(stripL bs).toArray⟩) ∧ Below W.heap.size W W') := fun W h => strip_calls bs W (hT.below h) (by omega)
  have hsl := stripL_le bs
  obtain ⟨s, hs⟩ : ∃ s, stripL bs = s := ⟨_, rfl⟩
  rw [hs] at HS hsl ⊢
  clear hs hT hm
  have hsl4 : s.length ≤ 4000000000 := by omega
  have HCO := hid_of (fun W => pcolon_calls s W (by omega))
  have HLO : Hid (∀ (x : List UInt8) W, x.length ≤ 4000000000 → Calls Tryz.prog 34 #[.string ⟨x.toArray⟩] W fun e W' => e = .returned (.string ⟨(lower x).toArray⟩) ∧ Below W.heap.size W W') := fun x W hx => lower_text x W hx
  have HCU : Hid (∀ (x : List UInt8) (p : UInt8) W, Below w.heap.size w W → x.length ≤ 4000000000 → Calls Tryz.prog 28 #[.string ⟨x.toArray⟩, .string ⟨#[p]⟩] W fun e w' => e = .returned (.tuple #[.string ⟨(x.take (upToL [p] x)).toArray⟩, .string ⟨(x.drop (upToL [p] x + 1)).toArray⟩, .bool (decide (upToL [p] x < x.length))]) ∧ Below W.heap.size W w') := fun x p W h hx => cut_calls x p W (by omega) (HM.out.below h)
  have hb0 : Below w.heap.size w ((w.alloc (.cells noLink 42)).alloc (.cells noLink 42)) := ((Below.refl _ w).alloc (Nat.le_refl _) _).alloc (by simp) _
  have HA0 : Hid (Blk ((w.alloc (.cells noLink 42)).alloc (.cells noLink 42)) w.heap.size noLink 42) := (Blk.new w _ _).alloc _
  have HA1 : Hid (Blk ((w.alloc (.cells noLink 42)).alloc (.cells noLink 42)) (w.heap.size + 1) noLink 42) := by
    have := Blk.new (w.alloc (.cells noLink 42)) noLink 42
    rw [show (w.alloc (.cells noLink 42)).heap.size = w.heap.size + 1 from Array.size_push _] at this
    exact this
  unfold noLink at hb0 HA0 HA1
  obtain ⟨V, hV⟩ : ∃ V, (splitK s).v = V := ⟨_, rfl⟩
  rw [hV]
  cases hc : colonL s
  case' none =>
    have ecz : colonZ s = -1 := by unfold colonZ; rw [hc]
    rw [ecz] at HCO
    have HV : Hid (V = (partsK [] false s).v) := by show _ = _; rw [← hV, split_none hc]
    obtain ⟨r, rfl⟩ : ∃ r, r = s := ⟨_, rfl⟩
    have hrl : r.length ≤ 4000000000 := hsl4
    clear ecz hc hsl hV HLO
    go_enter Tryz.func13, Tryz.ntmps13
    go_wp2_with fail
    (go_at_call 32; refine (HS.out _ hb0).mono ?_; rintro e w2 ⟨rfl, h1⟩)
    have HK0 := hid_of (HA0.out.below h1)
    have HK1 := hid_of (HA1.out.below h1)
    have HB := hid_of (hb0.trans (h1.mono hb0.size))
    clear h1 hb0 HA0 HA1
    go_wp2_with fail
    (go_at_call 33; refine (HCO.out _).mono ?_; rintro e w' ⟨rfl, hx⟩; obtain rfl : w2 = w' := hx.symm)
    go_wp2_with fail
    obtain ⟨sc, hsc⟩ : ∃ sc : List UInt8, [] = sc := ⟨_, rfl⟩
    obtain ⟨hb, hhb⟩ : ∃ hb, false = hb := ⟨_, rfl⟩
    have HK : Hid (Blk w2 (w.heap.size + 1) #[.string ⟨sc.toArray⟩, .string ⟨#[]⟩, .string ⟨#[]⟩, .string ⟨#[]⟩, .string ⟨#[]⟩, .bool hb, .bool false, .bool false, .bool false] 42) := by rw [← hsc, ← hhb]; exact HK1
    rw [hsc, hhb] at HV
    clear hsc hhb HK1
  case' some n =>
    have ecz : colonZ s = n := by unfold colonZ; rw [hc]
    rw [ecz] at HCO
    have HV0 : Hid (V = (partsK (lower (s.take n)) true (s.drop (n + 1))).v) := by show _ = _; rw [← hV, split_some hc]
    have hn := colonL_lt hc
    have hlo := HLO.out (s.take n)
    have hs1 := slice_h s n (by omega) (n : Int) rfl
    have hs2 := slice_l s (n + 1) (by omega) ((n : Int) + 1) (by omega)
    have hrl : (s.drop (n + 1)).length ≤ 4000000000 := by simp; omega
    have htl : (s.take n).length ≤ 4000000000 := by simp; omega
    obtain ⟨r, hr⟩ : ∃ r, s.drop (n + 1) = r := ⟨_, rfl⟩
    obtain ⟨x, hx⟩ : ∃ x, s.take n = x := ⟨_, rfl⟩
    obtain ⟨sc, hsc⟩ : ∃ sc, lower x = sc := ⟨_, rfl⟩
    rw [hr] at HV0 hs2 hrl
    rw [hx] at HV0 hlo hs1 htl
    rw [hsc] at HV0 hlo
    have HLW := hid_of hlo
    have n0 : (0 : Int) ≤ (n : Int) := by omega
    clear ecz hc hsl hV HLO hr hx hsc hlo
    go_enter Tryz.func13, Tryz.ntmps13
    go_wp2_with fail
    (go_at_call 32; refine (HS.out _ hb0).mono ?_; rintro e w1 ⟨rfl, h1⟩)
    have HK0 := hid_of (HA0.out.below h1)
    have HK1 := hid_of (HA1.out.below h1)
    have HB := hid_of (hb0.trans (h1.mono hb0.size))
    clear h1 hb0 HA0 HA1
    go_wp2_with fail
    (go_at_call 33; refine (HCO.out _).mono ?_; rintro e w' ⟨rfl, hx⟩; obtain rfl : w1 = w' := hx.symm)
    go_wp2_with fail
    (go_at_call 34; refine (HLW.out _ htl).mono ?_; rintro e w3 ⟨rfl, h3⟩)
    have HK01 := hid_of (HK0.out.below h3)
    have HK11 := hid_of (HK1.out.below h3)
    have HB1 := hid_of (HB.out.trans (h3.mono HB.out.size))
    clear HK0 HK1 HB h3
    obtain ⟨c0, c1, c2, c3, c4, c5, c6, c7, c8, fz⟩ := HK11.out.nine
    go_wp2_with fail
    have HB := hid_of (below_setCell (below_setCell HB1.out (show w.heap.size ≤ w.heap.size + 1 by omega) 0 (.string ⟨sc.toArray⟩)) (show w.heap.size ≤ w.heap.size + 1 by omega) 5 (.bool true))
    have HK0 := hid_of ((HK01.out.other (show w.heap.size ≠ w.heap.size + 1 by omega) 0 (.string ⟨sc.toArray⟩)).other (show w.heap.size ≠ w.heap.size + 1 by omega) 5 (.bool true))
    have HK : Hid (Blk _ (w.heap.size + 1) #[.string ⟨sc.toArray⟩, .string ⟨#[]⟩, .string ⟨#[]⟩, .string ⟨#[]⟩, .string ⟨#[]⟩, .bool true, .bool false, .bool false, .bool false] 42) := (HK11.out.set 0 (.string ⟨sc.toArray⟩)).set 5 (.bool true)
    clear HB1 HK01 HK11 c0 c1 c2 c3 c4 c5 c6 c7 c8 fz hs1 hs2 n0 hn HCO
    generalize ((w3.setCell ⟨w.heap.size + 1, 0, none⟩ (.string ⟨sc.toArray⟩)).setCell ⟨w.heap.size + 1, 5, none⟩ (.bool true)) = w2 at *
    obtain ⟨hb, hhb⟩ : ∃ hb, true = hb := ⟨_, rfl⟩
    rw [hhb] at HK
    have HV : Hid (V = (partsK sc hb r).v) := by rw [← hhb]; exact HV0
    clear hhb HV0
  all_goals
    obtain ⟨A, F, hf, B, Q, hq, eA, eF, ehf, eB, eQ, ehq, eV, lA, lB⟩ := parts_v sc hb r
    have HVV := hid_of (HV.out.trans eV)
    have HC1 := hid_of (HCU.out r 35 w2 HB.out hrl)
    have HC2 : Hid (∀ W, Below w.heap.size w W → Calls Tryz.prog 28 #[.string ⟨A.toArray⟩, .string ⟨#[63]⟩] W fun e w' => e = .returned (.tuple #[.string ⟨B.toArray⟩, .string ⟨Q.toArray⟩, .bool hq]) ∧ Below W.heap.size W w') := fun W h => by
      have := HCU.out A 63 W h (by omega)
      rw [eB, eQ, ehq] at this
      exact this
    rw [eA, eF, ehf] at HC1
    have hBl : B.length ≤ 4000000000 := by omega
    clear eA eF ehf eB eQ ehq eV lA lB HV HCU hrl
    (go_at_call 28; refine HC1.out.mono ?_; rintro e w4 ⟨rfl, h4⟩)
    have HK04 := hid_of (HK0.out.below h4)
    have HK4 := hid_of (HK.out.below h4)
    have HB4 := hid_of (HB.out.trans (h4.mono HB.out.size))
    clear HK0 HK HB h4
    obtain ⟨c0, c1, c2, c3, c4, c5, c6, c7, c8, fz⟩ := HK4.out.nine
    go_wp2_with fail
    have HB5 := hid_of (below_setCell (below_setCell HB4.out (show w.heap.size ≤ w.heap.size + 1 by omega) 4 (.string ⟨F.toArray⟩)) (show w.heap.size ≤ w.heap.size + 1 by omega) 8 (.bool hf))
    have HK05 := hid_of ((HK04.out.other (show w.heap.size ≠ w.heap.size + 1 by omega) 4 (.string ⟨F.toArray⟩)).other (show w.heap.size ≠ w.heap.size + 1 by omega) 8 (.bool hf))
    have HK5 : Hid (Blk _ (w.heap.size + 1) #[.string ⟨sc.toArray⟩, .string ⟨#[]⟩, .string ⟨#[]⟩, .string ⟨#[]⟩, .string ⟨F.toArray⟩, .bool hb, .bool false, .bool false, .bool hf] 42) := (HK4.out.set 4 (.string ⟨F.toArray⟩)).set 8 (.bool hf)
    clear HB4 HK04 HK4 c0 c1 c2 c3 c4 c5 c6 c7 c8 fz
    generalize ((w4.setCell ⟨w.heap.size + 1, 4, none⟩ (.string ⟨F.toArray⟩)).setCell ⟨w.heap.size + 1, 8, none⟩ (.bool hf)) = w5 at *
    (go_at_call 28; refine (HC2.out _ HB5.out).mono ?_; rintro e w6 ⟨rfl, h6⟩)
    have HK06 := hid_of (HK05.out.below h6)
    have HK6 := hid_of (HK5.out.below h6)
    have HB6 := hid_of (HB5.out.trans (h6.mono HB5.out.size))
    clear HK05 HK5 HB5 h6
    obtain ⟨c0, c1, c2, c3, c4, c5, c6, c7, c8, fz⟩ := HK6.out.nine
    go_wp2_with fail
    have HB7 := hid_of (below_setCell (below_setCell HB6.out (show w.heap.size ≤ w.heap.size + 1 by omega) 3 (.string ⟨Q.toArray⟩)) (show w.heap.size ≤ w.heap.size + 1 by omega) 7 (.bool hq))
    have HK07 := hid_of ((HK06.out.other (show w.heap.size ≠ w.heap.size + 1 by omega) 3 (.string ⟨Q.toArray⟩)).other (show w.heap.size ≠ w.heap.size + 1 by omega) 7 (.bool hq))
    have HK7 : Hid (Blk _ (w.heap.size + 1) #[.string ⟨sc.toArray⟩, .string ⟨#[]⟩, .string ⟨#[]⟩, .string ⟨Q.toArray⟩, .string ⟨F.toArray⟩, .bool hb, .bool false, .bool hq, .bool hf] 42) := (HK6.out.set 3 (.string ⟨Q.toArray⟩)).set 7 (.bool hq)
    clear HB6 HK06 HK6 c0 c1 c2 c3 c4 c5 c6 c7 c8 fz
    generalize ((w6.setCell ⟨w.heap.size + 1, 3, none⟩ (.string ⟨Q.toArray⟩)).setCell ⟨w.heap.size + 1, 7, none⟩ (.bool hq)) = w7 at *
    obtain ⟨c0, c1, c2, c3, c4, c5, c6, c7, c8, fz⟩ := HK7.out.nine
    obtain ⟨d0, d1, d2, d3, d4, d5, d6, d7, d8, dz⟩ := HK07.out.nine
    rcases hostK_cases B with ⟨h1, h2, h3⟩ | ⟨C, rfl, hC⟩
    · have HCP := hid_of (nohost_calls B h1 w7)
      rw [h1, h2, h3] at HVV
      clear h1 h2 h3
      (go_at_call 35; refine HCP.out.mono ?_; rintro e w' ⟨rfl, hx⟩; obtain rfl : w7 = w' := hx.symm)
      go_wp2_with fail
      exact bodyPost_ret (results_split rfl (Blk.put9 (HK07.out.other (show w.heap.size ≠ w.heap.size + 1 by omega) 2 _) _ _ _ _ _ _ _ _ _)) rfl ⟨by rw [HVV.out], below_put9 (below_setCell HB7.out (show w.heap.size ≤ w.heap.size + 1 by omega) 2 _) (Nat.le_refl _) _ _ _ _ _ _ _ _ _⟩
    · have HCP := hid_of (host_calls C w7)
      have HSA := hid_of (slashAt_calls C w7 (by simp at hBl; omega))
      have hle := upToL_le [47] C
      obtain ⟨m, hmm⟩ : ∃ m, upToL [47] C = m := ⟨_, rfl⟩
      rw [hC] at HVV
      rw [hmm] at HVV HSA hle
      have q1 := slice_h C m hle (m : Int) rfl
      have q2 := slice_l C m hle (m : Int) rfl
      obtain ⟨H, hH⟩ : ∃ H, C.take m = H := ⟨_, rfl⟩
      obtain ⟨P, hP⟩ : ∃ P, C.drop m = P := ⟨_, rfl⟩
      simp only [hH, hP] at HVV q1 q2
      clear hH hP hmm hC
      (go_at_call 35; refine HCP.out.mono ?_; rintro e w' ⟨rfl, hx⟩; obtain rfl : w7 = w' := hx.symm)
      go_wp2_with fail
      (go_at_call 36; refine HSA.out.mono ?_; rintro e w' ⟨rfl, hx⟩; obtain rfl : w7 = w' := hx.symm)
      go_wp2_with fail
      exact bodyPost_ret (results_split rfl (Blk.put9 (((HK07.out.other (show w.heap.size ≠ w.heap.size + 1 by omega) 1 _).other (show w.heap.size ≠ w.heap.size + 1 by omega) 6 _).other (show w.heap.size ≠ w.heap.size + 1 by omega) 2 _) _ _ _ _ _ _ _ _ _)) rfl ⟨by rw [HVV.out], below_put9 (below_setCell (below_setCell (below_setCell HB7.out (show w.heap.size ≤ w.heap.size + 1 by omega) 1 _) (show w.heap.size ≤ w.heap.size + 1 by omega) 6 _) (show w.heap.size ≤ w.heap.size + 1 by omega) 2 _) (Nat.le_refl _) _ _ _ _ _ _ _ _ _⟩
end Go.Proofs.YtmfhhpacojodkaaGreatDoor.L
