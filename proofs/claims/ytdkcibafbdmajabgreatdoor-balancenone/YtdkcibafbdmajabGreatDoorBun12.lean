/- What is proved here: laws and contracts of TName, TAttrs, one behind the other (each says its own). -/
import Derived.Test.YtdkcibafbdmajabGreatDoorBun2
import Derived.Test.YtdkcibafbdmajabGreatDoorBun1
import Derived.Test.YtdkcibafbdmajabGreatDoorTShelf
import Derived.Maps.OwnSet
import Derived.Maps.Views
import Derived.StringKeys
/- What is proved here: the contracts of lasting and tagName of token, and of stop and TagName's loop of sieveref07: which names a lexer reads whole. -/
namespace Go.Proofs.YtdkcibafbdmajabGreatDoor.T
open Go.RowKit N

def endB (c : UInt8) : Bool := c == 9 || c == 10 || c == 12 || c == 32 || c == 47 || c == 62 || c == 0
def upB (c : UInt8) : Bool := decide (65 ≤ (c.toNat : Int) ∧ (c.toNat : Int) ≤ 90)
def stopB (c : UInt8) : Bool := upB c || endB c
def lastB (l : List UInt8) : Bool := l.all fun c => !stopB c

theorem ofNat_u8 (c : UInt8) : ((c.toNat : Int)).toNat.toUInt8 = c := by simp
theorem index_ends (c : UInt8) : decide (0 ≤ Lib.indexByte [9, 10, 12, 32, 47, 62, 0] c) = endB c := by
  have h : ∀ n : Fin 256, decide (0 ≤ Lib.indexByte [9, 10, 12, 32, 47, 62, 0] (UInt8.ofNat n.val)) = endB (UInt8.ofNat n.val) := by decide +kernel
  have := h ⟨c.toNat, c.toNat_lt⟩
  simpa using this
theorem ends_calls (c : UInt8) (w : World) : Calls Tryz.prog 108 #[.string ⟨#[9, 10, 12, 32, 47, 62, 0]⟩, .int .u8 c.toNat] w fun e w' => ∃ z : Int, decide (0 ≤ z) = endB c ∧ e = .returned (.int .i64 z) ∧ w = w' := by
  refine (Any.strings_IndexByte Tryz.lays137 ⟨#[9, 10, 12, 32, 47, 62, 0]⟩ (c.toNat : Int) w).mono ?_
  rintro e w' ⟨rfl, hw⟩
  exact ⟨_, index_ends c, by rw [ofNat_u8], hw.symm⟩

set_option maxRecDepth 100000 in
set_option maxHeartbeats 1000000 in
theorem lasting_calls (s : ByteArray) (w : World) (hs : s.size ≤ 9223372036854775807) : Calls Tryz.prog 87 #[.string s] w fun e w' => e = .returned (.bool (lastB s.data.toList)) ∧ w' = w := by
  have HZ : Hid (s.data.toList.length = s.size) := size_data s
  go_enter Tryz.func87, Tryz.ntmps87
  go_wp2
  go_loopw [3, 4, 7] (fun _ _ i wr => ∃ k : Nat, k ≤ s.size ∧ i = .int .i64 k ∧ wr = w ∧ Hid ((s.data.toList.take k).all (fun c => !stopB c) = true)) (fun _ _ i _ => s.size - (intOf i).toNat)
  case atStart => exact ⟨0, by omega, rfl, rfl, by simp [Hid]⟩
  case round =>
    obtain ⟨k, hk, rfl, rfl, hp⟩ := hrel
    by_cases hlt : k < s.size
    · obtain ⟨c, hcc⟩ : ∃ c, s.data.toList.getD k 0 = c := ⟨_, rfl⟩
      have hix : ∀ w, (Instr.index 9 (.string s) (.int .i64 k)).run Tryz.prog w = .ok (.int .u8 c.toNat) w := fun w => run_byte w _ s _ k k c Tryz.underlying9 rfl hlt hcc
      have HC : Hid (s.data.toList.getD k 0 = c) := hcc
      clear hcc
      have HN : Hid (∀ h : stopB c = false, (s.data.toList.take (k + 1)).all (fun c => !stopB c) = true) := fun h => all_take_succ _ _ k (by have := HZ.out; omega) hp.out (by rw [HC.out, h]; rfl)
      have HY : Hid (∀ h : stopB c = true, lastB s.data.toList = false) := fun h => all_not _ _ k (by have := HZ.out; omega) (by rw [HC.out, h]; rfl)
      clear hp
      cases hu : upB c with
      | true =>
        have hu' : 65 ≤ (c.toNat : Int) ∧ (c.toNat : Int) ≤ 90 := by simpa [upB] using hu
        have q1 : decide ((65 : Int) ≤ (c.toNat : Int)) = true := by simpa using hu'.1
        have q2 : decide ((c.toNat : Int) ≤ 90) = true := by simpa using hu'.2
        clear hu'
        go_wp2
        all_goals go_ret
        exact ⟨ret_bool (HY.out (by rw [stopB, hu]; rfl)).symm, rfl⟩
      | false =>
        have hu' : (c.toNat : Int) < 65 ∨ 90 < (c.toNat : Int) := by simp [upB] at hu; omega
        cases he : endB c with
        | true =>
          have HH := HY.out (by rw [stopB, hu, he]; rfl)
          rcases hu' with hu' | hu'
          · have q1 : decide ((65 : Int) ≤ (c.toNat : Int)) = false := by simpa using hu'
            clear hu' hu
            go_wp2_with (go_at_call 108; refine (ends_calls _ _).mono ?_; rintro e w' ⟨z, hz, rfl, rfl⟩; rw [he] at hz)
            all_goals go_ret
            exact ⟨ret_bool HH.symm, rfl⟩
          · have q1 : decide ((65 : Int) ≤ (c.toNat : Int)) = true := by simp; omega
            have q2 : decide ((c.toNat : Int) ≤ 90) = false := by simp; omega
            clear hu' hu
            go_wp2_with (go_at_call 108; refine (ends_calls _ _).mono ?_; rintro e w' ⟨z, hz, rfl, rfl⟩; rw [he] at hz)
            all_goals go_ret
            exact ⟨ret_bool HH.symm, rfl⟩
        | false =>
          have HH := HN.out (by rw [stopB, hu, he]; rfl)
          have HHH : Hid ((s.data.toList.take (k + 1)).all (fun c => !stopB c) = true) := HH
          clear HH
          rcases hu' with hu' | hu'
          · have q1 : decide ((65 : Int) ≤ (c.toNat : Int)) = false := by simpa using hu'
            clear hu' hu
            go_wp2_with (go_at_call 108; refine (ends_calls _ _).mono ?_; rintro e w' ⟨z, hz, rfl, rfl⟩; rw [he] at hz)
            go_roundw
            case rel => exact ⟨k + 1, by omega, by go_num, by trivial, HHH⟩
            case measure => simp [intOf]; omega
          · have q1 : decide ((65 : Int) ≤ (c.toNat : Int)) = true := by simp; omega
            have q2 : decide ((c.toNat : Int) ≤ 90) = false := by simp; omega
            clear hu' hu
            go_wp2_with (go_at_call 108; refine (ends_calls _ _).mono ?_; rintro e w' ⟨z, hz, rfl, rfl⟩; rw [he] at hz)
            go_roundw
            case rel => exact ⟨k + 1, by omega, by go_num, by trivial, HHH⟩
            case measure => simp [intOf]; omega
    · obtain rfl : k = s.size := by omega
      go_wp2
      go_ret
      exact ⟨ret_bool (by have h := hp.out; rw [← HZ.out, List.take_length] at h; exact h.symm), rfl⟩

def tagB (l : List UInt8) : Bool := decide (0 < l.length) && smallB (l.getD 0 0) && lastB l
end Go.Proofs.YtdkcibafbdmajabGreatDoor.T

/- What is proved here: the contract of attrNames of token: whether a tag may have attributes of these names. -/
namespace Go.Proofs.YtdkcibafbdmajabGreatDoor.T
open Go.RowKit Go.WideMaps Go.Maps N

abbrev AL := List (ByteArray × ByteArray)
/-- Attributes in memory. -/
def HasA (w : World) (v : Value) (l : AL) : Prop :=
  (l = [] ∧ (v = .slice none 0 0 ∨ ∃ ad cap, v = .slice (some ad) 0 cap)) ∨ (0 < l.length ∧ ∃ b off cap, v = .slice (some ⟨b, off, none⟩) l.length cap ∧ l.length ≤ cap ∧ ∀ i (_ : i < l.length), w.cell? ⟨b, off + i * 2, none⟩ = some (.string l[i].1) ∧ w.cell? ⟨b, off + i * 2 + 1, none⟩ = some (.string l[i].2))
theorem HasA.below {w w' : World} {r : Value} {l : AL} (h : HasA w r l) (hb : Below w.heap.size w w') : HasA w' r l := by
  rcases h with h | ⟨hp, b, off, cap, hr, hc, hx⟩
  · exact .inl h
  · refine .inr ⟨hp, b, off, cap, hr, hc, fun i hi => ?_⟩
    obtain ⟨h1, h3⟩ := hx i hi
    exact ⟨(hb.cell (p := ⟨b, off + i * 2, none⟩) (C.cell_lt h1)).trans h1, (hb.cell (p := ⟨b, off + i * 2 + 1, none⟩) (C.cell_lt h3)).trans h3⟩
theorem HasA.slice {w : World} {r : Value} {l : AL} (h : HasA w r l) : ∃ a cap, r = .slice a l.length cap := by
  rcases h with ⟨rfl, rfl | ⟨ad, cap, rfl⟩⟩ | ⟨hp, b, off, cap, rfl, _⟩
  · exact ⟨none, 0, rfl⟩
  · exact ⟨_, cap, rfl⟩
  · exact ⟨_, cap, rfl⟩
theorem HasA.at {w : World} {a : Option Addr} {n cap : Nat} {l : AL} (h : HasA w (.slice a n cap) l) (i : Nat) (hi : i < l.length) : ∃ b off, a = some ⟨b, off, none⟩ ∧ w.cell? ⟨b, off + i * 2, none⟩ = some (.string l[i].1) ∧ w.cell? ⟨b, off + i * 2 + 1, none⟩ = some (.string l[i].2) := by
  rcases h with ⟨rfl, _⟩ | ⟨hp, b, off, cap', hr, hc, hx⟩
  · simp at hi
  · obtain ⟨h1, h3⟩ := hx i hi
    have : a = some ⟨b, off, none⟩ := by simp at hr; exact hr.1
    exact ⟨b, off, this, h1, h3⟩

def eqB (l : List UInt8) : Bool := (l.drop 1).all fun c => c != 61
def attrN (l : List UInt8) : Bool := !l.isEmpty && lastB l && eqB l
def nameOf (a : ByteArray × ByteArray) : List UInt8 := a.1.data.toList
def attrsB (l : AL) : Bool := (l.all fun a => attrN (nameOf a)) && decide ((l.map nameOf).Nodup)

theorem data_get (s : ByteArray) (j : Nat) (h : j < s.data.toList.length) : s.data[j]! = s.data.toList[j] := by
  obtain ⟨⟨l⟩⟩ := s
  have h' : j < l.length := h
  simp [h']
theorem last61 (s : ByteArray) : decide (0 < Lib.lastIndexByte s 61) = !eqB s.data.toList := by
  have hz := size_data s
  have h61 : ∀ c : UInt8, ((c.toNat : Int) = 61) ↔ c = 61 := fun c => by
    constructor
    · intro h; apply UInt8.toNat_inj.1; rw [show (61 : UInt8).toNat = 61 from rfl]; omega
    · rintro rfl; rfl
  unfold Lib.lastIndexByte
  rcases Lib.lastIdx_spec s 61 s.size with ⟨e, hn⟩ | ⟨i, hi, e, h1, hn⟩
  · have : eqB s.data.toList = true := by
      unfold eqB
      rw [List.all_eq_true]
      intro c hc
      obtain ⟨j, hj, rfl⟩ := List.mem_iff_getElem.1 hc
      simp only [List.length_drop] at hj
      have h2 := hn (1 + j) (by omega)
      rw [data_get s _ (by omega), Ne, h61] at h2
      rw [List.getElem_drop]
      simpa using h2
    rw [e, this]; rfl
  · by_cases h0 : i = 0
    · subst h0
      have : eqB s.data.toList = true := by
        unfold eqB
        rw [List.all_eq_true]
        intro c hc
        obtain ⟨j, hj, rfl⟩ := List.mem_iff_getElem.1 hc
        simp only [List.length_drop] at hj
        have h2 := hn (1 + j) (by omega) (by omega)
        rw [data_get s _ (by omega), Ne, h61] at h2
        rw [List.getElem_drop]
        simpa using h2
      rw [e, this]; rfl
    · have : eqB s.data.toList = false := by
        unfold eqB
        rw [List.all_eq_false]
        rw [data_get s _ (by omega), h61] at h1
        refine ⟨(s.data.toList.drop 1)[i - 1]'(by simp only [List.length_drop]; omega), List.getElem_mem _, ?_⟩
        rw [List.getElem_drop]
        simp only [show 1 + (i - 1) = i by omega, h1]
        decide
      rw [e, this]
      simp; omega
theorem last_calls (s : ByteArray) (w : World) (hs : s.size ≤ 140737488355328) : Calls Tryz.prog 88 #[.string s, .int .u8 61] w fun e w' => ∃ z : Int, decide (0 < z) = !eqB s.data.toList ∧ e = .returned (.int .i64 z) ∧ w = w' := by
  refine (Any.strings_LastIndexByte Tryz.lays149 s 61 (by omega) w).mono ?_
  rintro e w' ⟨rfl, hw⟩
  exact ⟨_, last61 s, rfl, hw.symm⟩

theorem lawS : Keyed Tryz.prog 9 := string_keyed Tryz.underlying9
theorem zeroI (w : World) : (zeroValue 3).run Tryz.prog w = .ok (.int .i64 0) w := by kernel_rfl
/-- The map of the names seen so far. -/
def Seen (D : DataW Unit) (ns : List (List UInt8)) : Prop := Maps.size D ≤ ns.length ∧ (Maps.size D = ns.length ↔ ns.Nodup) ∧ ∀ s, Maps.has D (.string s) = decide (s ∈ ns)
theorem Seen.nil : Seen (.map []) [] := ⟨by simp [Maps.size], by simp [Maps.size], fun s => by simp [Maps.has]⟩
theorem Seen.put {D : DataW Unit} {ns : List (List UInt8)} (h : Seen D ns) (ht : Tidy D) (hm : IsMap D) (s : List UInt8) (d : DataW Unit) : Seen (D.put (.string s) d) (ns ++ [s]) := by
  obtain ⟨h1, h2, h3⟩ := h
  have hz := Maps.size_put (k := .string s) ht d
  have hs := h3 s
  refine ⟨?_, ?_, fun s' => ?_⟩
  · rw [hz, List.length_append]; split <;> simp <;> omega
  · rw [hz, List.nodup_append]
    by_cases hx : s ∈ ns
    · rw [hs, decide_eq_true hx, if_pos rfl]
      simp only [List.length_append, List.length_cons, List.length_nil]
      constructor
      · intro h; omega
      · rintro ⟨_, _, h⟩; exact absurd rfl (h s hx s (by simp))
    · rw [hs, decide_eq_false hx]
      simp only [List.length_append, List.length_cons, List.length_nil]
      constructor
      · intro h
        refine ⟨h2.1 (by simpa using h), by simp, fun a ha b hb e => ?_⟩
        simp at hb; subst hb; subst e; exact hx ha
      · rintro ⟨h, _, _⟩; have := h2.2 h; simp; omega
  · by_cases e : s' = s
    · subst e
      rw [has_put_same (k := .string s') hm trivial]; simp
    · rw [has_put_other (by intro h; injection h with h; exact e h), h3]
      simp [e]

set_option maxRecDepth 100000 in
set_option maxHeartbeats 2000000 in
theorem attrNames_calls (l : AL) (v : Value) (w : World) (hH : HasA w v l) (hl : (l.length : Int) ≤ 1000000000000) (hz : ∀ x ∈ l, x.1.size ≤ 140737488355328) :
    Calls Tryz.prog 67 #[v] w fun e w' => e = .returned (.bool (attrsB l)) ∧ Below w.heap.size w w' := by
  obtain ⟨la, lc, rfl⟩ := hH.slice
  have HS : Hid (HasA w (.slice la l.length lc) l) := hH
  have HZ : Hid (∀ x ∈ l, x.1.size ≤ 140737488355328) := hz
  clear hH hz
  have hmm := @run_makeMap Tryz.prog
  go_enter Tryz.func67, Tryz.ntmps67
  go_wp2
  go_loopw [5, 9] (fun _ i wr => ∃ (k : Nat) (D : DataW Unit), k ≤ l.length ∧ i = .int .i64 k ∧ Hid (wr.ownsMap Tryz.prog 9 (plainElem Tryz.prog 3) w.heap.size k D) ∧ Hid (Below w.heap.size w wr) ∧ Hid (Seen D ((l.take k).map nameOf)) ∧ Hid ((l.take k).all (fun a => attrN (nameOf a)) = true)) (fun _ i _ => l.length - (intOf i).toNat)
  case atStart => exact ⟨0, .map [], by omega, rfl, World.ownsMap_made _ _ _ _, (Below.refl _ _).alloc (Nat.le_refl _) _, Seen.nil, by simp [Hid]⟩
  case round =>
    obtain ⟨k, D, hk, rfl, hown, hB, hse, hal⟩ := hrel
    have s1 := hB.out.size
    by_cases hlt : k < l.length
    · obtain ⟨b, off, rfl, d0, d1⟩ := (HS.out.below hB.out).at k hlt
      have hz1 := HZ.out l[k] (List.getElem_mem _)
      rcases hx : l[k] with ⟨n, x⟩
      rw [hx] at d0 d1 hz1
      simp only at d0 d1 hz1
      have hnm : nameOf l[k] = n.data.toList := by rw [hx]; rfl
      have HT : Hid ((l.take (k + 1)).map nameOf = (l.take k).map nameOf ++ [n.data.toList]) := by
        show _ = _
        rw [List.take_succ_eq_append_getElem hlt, List.map_append, List.map_singleton, hnm]
      have HA : Hid ((l.take (k + 1)).all (fun a => attrN (nameOf a)) = attrN n.data.toList) := by
        show _ = _
        rw [List.take_succ_eq_append_getElem hlt, List.all_append, hal.out]
        simp [hnm]
      have HF : Hid (attrN n.data.toList = false → attrsB l = false) := fun h => by
        show attrsB l = false
        unfold attrsB
        rw [show (l.all fun a => attrN (nameOf a)) = false from List.all_eq_false.2 ⟨l[k], List.getElem_mem _, by rw [hnm, h]; simp⟩]
        rfl
      clear hx hnm hal
      obtain ⟨W0, hW0⟩ : ∃ W0, wr.alloc (.cells #[.string n, .string x] 53) = W0 := ⟨_, rfl⟩
      have b0 : Below wr.heap.size wr W0 := by rw [← hW0]; exact (Below.refl _ wr).alloc (Nat.le_refl _) _
      have t0 : W0.cell? ⟨wr.heap.size, 0, none⟩ = some (.string n) := by rw [← hW0, C.cell_new]; rfl
      have hown0 : W0.ownsMap Tryz.prog 9 (plainElem Tryz.prog 3) w.heap.size k D := by rw [← hW0]; exact hown.out.alloc _
      have hB0 : Below w.heap.size w W0 := hB.out.trans (b0.mono s1)
      have HB0 : Hid (Below w.heap.size w W0) := hB0
      have hkey : keyOf Tryz.prog 9 (.string n) = some (.string n.data.toList) := keyOf_string_mk Tryz.underlying9 (by unfold maxLen; omega)
      obtain ⟨c, hrun, _, _⟩ := hown0.lookup_int lawS Tryz.underlying63 Tryz.underlying3 (zeroI _) hkey
      have HO : Hid (W0.ownsMap Tryz.prog 9 (plainElem Tryz.prog 3) w.heap.size k D) := hown0
      have HSE : Hid (∀ d, Seen (D.put (.string n.data.toList) d) ((l.take (k + 1)).map nameOf)) := fun d => by
        rw [HT.out]; exact hse.out.put (hown0.tidy lawS) hown0.isMap _ d
      clear hown0 hB0 hse
      cases h1 : n.data.toList.isEmpty with
      | true =>
        have e1 : n = ByteArray.empty := by
          have : n.data.toList = [] := by simpa using h1
          have h2 : n.data = #[] := by simpa using this
          cases n; simp at h2; subst h2; rfl
        have HH := HF.out (by unfold attrN; rw [h1]; rfl)
        clear hrun hkey
        subst e1
        go_wp2
        all_goals go_ret
        all_goals exact ⟨ret_bool HH.symm, HB0.out⟩
      | false =>
        have e1 : n.toList.isEmpty = false := by rw [Lib.toList_data]; exact h1
        cases h2 : lastB n.data.toList with
        | false =>
          have HH := HF.out (by unfold attrN; rw [h1, h2]; rfl)
          clear hrun hkey
          go_wp2_with (first
            | (go_at_call 87; refine (lasting_calls n _ (by omega)).mono ?_; rintro e w' ⟨rfl, hw⟩; have hx' := hw.symm; subst hx'; rw [h2])
            | (go_at_call 88; refine (last_calls n _ hz1).mono ?_; rintro e w' ⟨z, hz, rfl, rfl⟩))
          all_goals go_ret
          all_goals exact ⟨ret_bool HH.symm, HB0.out⟩
        | true =>
          cases h3 : eqB n.data.toList with
          | false =>
            have HH := HF.out (by unfold attrN; rw [h1, h2, h3]; rfl)
            clear hrun hkey
            go_wp2_with (first
              | (go_at_call 87; refine (lasting_calls n _ (by omega)).mono ?_; rintro e w' ⟨rfl, hw⟩; have hx' := hw.symm; subst hx'; rw [h2])
              | (go_at_call 88; refine (last_calls n _ hz1).mono ?_; rintro e w' ⟨z, hz, rfl, rfl⟩; rw [h3] at hz))
            all_goals go_ret
            all_goals exact ⟨ret_bool HH.symm, HB0.out⟩
          | true =>
            have HAL : Hid ((l.take (k + 1)).all (fun a => attrN (nameOf a)) = true) := by rw [HA.out]; show attrN _ = true; unfold attrN; rw [h1, h2, h3]; rfl
            go_wp2_with (first
              | (go_at_call 87; refine (lasting_calls n _ (by omega)).mono ?_; rintro e w' ⟨rfl, hw⟩; have hx' := hw.symm; subst hx'; rw [h2])
              | (go_at_call 88; refine (last_calls n _ hz1).mono ?_; rintro e w' ⟨z, hz, rfl, rfl⟩; rw [h3] at hz)
              | (at_mapUpdate; refine wpList_mapUpdate_own _ rfl _ _ _ 63 rfl 9 3 lawS Tryz.underlying63 _ w.heap.size k _ rfl HO.out (by unfold maxLen; omega) _ _ _ rfl rfl hkey _ [] (plainElem_int Tryz.underlying3 (wrap64_wf _)) ?_; intro w1 hown1 hgrow1))
            have R1 := HSE.out (.lit (.int .i64 (wrap64 (c + 1))))
            have R2 : Hid (Below w.heap.size w w1) := HB0.out.grown hgrow1 HB0.out.size (fun j hj => by cases hj; exact Nat.le_refl _)
            have R3 : Hid (w1.ownsMap Tryz.prog 9 (plainElem Tryz.prog 3) w.heap.size (k + 1) (D.put (.string n.data.toList) (.lit (.int .i64 (wrap64 (c + 1)))))) := hown1
            have R4 : Hid (Seen (D.put (.string n.data.toList) (.lit (.int .i64 (wrap64 (c + 1))))) ((l.take (k + 1)).map nameOf)) := R1
            clear hown1 hgrow1 hrun R1
            go_wp2
            go_roundw
            case rel => exact ⟨k + 1, _, by omega, by go_num, R3, R2, R4, HAL⟩
            case measure => simp [intOf]; omega
    · obtain rfl : k = l.length := by omega
      have HF : Hid (((Maps.size D : Int) == (l.length : Int)) = attrsB l) := by
        have h1 := hse.out
        have h2 := hal.out
        rw [List.take_length] at h1 h2
        show _ = attrsB l
        unfold attrsB
        rw [h2, Bool.true_and, Bool.eq_iff_iff]
        have h3 := h1.2.1
        rw [List.length_map] at h3
        simp only [beq_iff_eq, decide_eq_true_eq, ← h3]
        omega
      go_wp2_with (first
        | (at_len; refine wpList_len_own _ rfl _ 63 rfl 9 3 Tryz.underlying63 _ w.heap.size l.length _ rfl hown.out ?_)
        | go_in)
      go_ret
      exact ⟨ret_bool HF.out, hB.out⟩
end Go.Proofs.YtdkcibafbdmajabGreatDoor.T
