/- What is proved here: the contract of kind of token's reader. -/
import Derived.Test.YtelfejbhlolppaaDoorTBehind
import Derived.Test.YtelfejbhlolppaaDoorTShelfC
namespace Go.Proofs.YtelfejbhlolppaaDoor.T
open Go.RowKit N

abbrev MaxOk (w : World) : Prop := ∃ m, w.cell? ⟨Tryd.lays145_ren.g 1, 0, none⟩ = some (.int .i64 m)
theorem MaxOk.below {w w' : World} (h : MaxOk w) (hb : Below w.heap.size w w') : MaxOk w' := by
  obtain ⟨m, h⟩ := h
  exact ⟨m, (hb.cell (C.cell_lt h)).trans h⟩
theorem cut_calls (s : ByteArray) (p : UInt8) (w : World) (hs : s.size < 4294967281) (hm : MaxOk w) :
    Calls Tryd.prog 39 #[.string s, .string ⟨#[p]⟩] w fun e w' => e = .returned (.tuple #[.string ⟨(Lib.cut s.data.toList [p]).1.toArray⟩, .string ⟨(Lib.cut s.data.toList [p]).2.1.toArray⟩, .bool (Lib.cut s.data.toList [p]).2.2]) ∧ ∃ n, w' = w.drewN n := by
  obtain ⟨m, hm⟩ := hm
  exact Any.strings_Cut Tryd.lays145 s ⟨#[p]⟩ m w hs hm

theorem cut_one (p : UInt8) (s : List UInt8) : Lib.cut s [p] = (s.takeWhile (fun c => c != p), (s.dropWhile (fun c => c != p)).tail, s.contains p) := by
  induction s with
  | nil => simp [Lib.cut, Lib.index]
  | cons b l ih =>
    have hg := Lib.index_ge l [p]
    by_cases h : b = p
    · subst h
      simp [Lib.cut, Lib.index, List.isPrefixOf]
    · have hp : ([p].isPrefixOf (b :: l)) = false := by simp [List.isPrefixOf]; exact fun e => h e.symm
      have hb : (b != p) = true := by simpa using h
      have hix : Lib.index (b :: l) [p] = if Lib.index l [p] == -1 then -1 else Lib.index l [p] + 1 := by
        rw [Lib.index, hp]; simp
      rw [List.takeWhile_cons, List.dropWhile_cons, hb]
      simp only [if_true]
      unfold Lib.cut at ih ⊢
      rw [hix]
      by_cases h1 : Lib.index l [p] = -1
      · rw [h1] at ih ⊢
        simp only [show ¬ (0 : Int) ≤ -1 by omega, if_false, Prod.mk.injEq] at ih
        simp only [beq_self_eq_true, if_true, show ¬ (0 : Int) ≤ -1 by omega, if_false, Prod.mk.injEq]
        refine ⟨by rw [← ih.1], ih.2.1, ?_⟩
        rw [List.contains_cons, ← ih.2.2]
        simp; exact fun e => h e.symm
      · have h0 : 0 ≤ Lib.index l [p] := by omega
        obtain ⟨k, hk⟩ : ∃ k : Nat, Lib.index l [p] = k := ⟨(Lib.index l [p]).toNat, by omega⟩
        rw [hk] at ih ⊢
        have hne : ((k : Int) == -1) = false := by rw [beq_eq_false_iff_ne]; omega
        simp only [show (0 : Int) ≤ (k : Int) by omega, if_true, Prod.mk.injEq, Int.toNat_natCast] at ih
        simp only [hne, Bool.false_eq_true, if_false, show (0 : Int) ≤ (k : Int) + 1 by omega, if_true, Prod.mk.injEq]
        rw [show ((k : Int) + 1).toNat = k + 1 by omega]
        refine ⟨by rw [List.take_succ_cons, ih.1], by rw [show k + 1 + [p].length = (k + [p].length) + 1 by omega, List.drop_succ_cons, ih.2.1], ?_⟩
        rw [List.contains_cons, ← ih.2.2]; simp

theorem keep_drewN (g : Nat) (w : World) (n : Nat) : KeepP (fun k => k = g) w (w.drewN n) := ⟨rfl, rfl, rfl, Nat.le_refl _, fun _ _ _ => rfl⟩
def wordS (k : Nat) : ByteArray := match k with
  | 0 => ⟨#[116, 101, 120, 116]⟩
  | 1 => ⟨#[115, 116, 97, 114, 116]⟩
  | 2 => ⟨#[101, 110, 100]⟩
  | 3 => ⟨#[99, 111, 109, 109, 101, 110, 116]⟩
  | _ => ⟨#[100, 111, 99, 116, 121, 112, 101]⟩
/-- What a line begins with. -/
def firstW (s : List UInt8) : List UInt8 := s.takeWhile (fun c => c != 32)
/-- The kind of a word. -/
def kindP (f : List UInt8) : Option Nat := (List.range 5).find? fun k => (wordS k).data.toList == f
theorem kindP_at (f : List UInt8) (k : Nat) (hk : k < 5) (h : (wordS k).data.toList = f) (hn : ∀ j, j < k → (wordS j).data.toList ≠ f) : kindP f = some k := by
  subst h
  match k, hk with
  | 0, _ => rfl
  | 1, _ => rfl
  | 2, _ => rfl
  | 3, _ => rfl
  | 4, _ => rfl
theorem kindP_none (f : List UInt8) (hn : ∀ j, j < 5 → (wordS j).data.toList ≠ f) : kindP f = none := by
  unfold kindP
  rw [List.find?_eq_none]
  intro k hk
  simp only [List.mem_range] at hk
  simpa using hn k hk

set_option maxRecDepth 100000 in
set_option maxHeartbeats 4000000 in
/-- **kind.** -/
theorem kind_calls (g : Nat) (s : List UInt8) (w : World) (hW : Words w) (hm : MaxOk w) (_hg : g < w.heap.size) (hl : s.length ≤ 100000000) (hc : w.cell? ⟨g, 0, none⟩ = some (.string ⟨s.toArray⟩)) (hf : w.frozen? ⟨g, 0, none⟩ = false) :
    Calls Tryd.prog 64 #[.pointer (some ⟨g, 0, none⟩)] w fun e w' => (∃ k, kindP (firstW s) = some k ∧ e = .returned (.int .i64 k) ∧ Fr g w w' (s.drop (firstW s).length)) ∨ (kindP (firstW s) = none ∧ e = Ending.panicked [{ v := Value.iface 29 (Value.int IntKind.i64 70), recovered := false }] ∧ KeepP (fun k => k = g) w w') := by
  obtain ⟨S, hS⟩ : ∃ S : ByteArray, (⟨s.toArray⟩ : ByteArray) = S := ⟨_, rfl⟩
  have hd : S.data.toList = s := by rw [← hS]
  have hsz : S.size = s.length := by rw [← size_data, hd]
  have hFl : (firstW s).length ≤ s.length := by unfold firstW; exact (List.takeWhile_sublist _).length_le
  obtain ⟨F, hF⟩ : ∃ F : ByteArray, (⟨(firstW s).toArray⟩ : ByteArray) = F := ⟨_, rfl⟩
  have hFd : F.data.toList = firstW s := by rw [← hF]
  have hFz : F.size = (firstW s).length := by rw [← size_data, hFd]
  have CC := cut_calls S 32 w (by omega) hm
  rw [cut_one, hd] at CC
  change Calls _ _ _ _ (fun e w' => e = .returned (.tuple #[.string ⟨(firstW s).toArray⟩, _, _]) ∧ _) at CC
  rw [hF] at CC
  obtain ⟨X2, hX2⟩ : ∃ X : ByteArray, (⟨((s.dropWhile (fun c => c != 32)).tail).toArray⟩ : ByteArray) = X := ⟨_, rfl⟩
  obtain ⟨X3, hX3⟩ : ∃ X : Bool, s.contains 32 = X := ⟨_, rfl⟩
  rw [show (⟨(s.takeWhile (fun c => c != 32), (s.dropWhile (fun c => c != 32)).tail, s.contains 32).2.1.toArray⟩ : ByteArray) = X2 from hX2, show (s.takeWhile (fun c => c != 32), (s.dropWhile (fun c => c != 32)).tail, s.contains 32).2.2 = X3 from hX3] at CC
  have HCC : Hid (Calls Tryd.prog 39 #[.string S, .string ⟨#[32]⟩] w fun e w' => e = .returned (.tuple #[.string F, .string X2, .bool X3]) ∧ ∃ n, w' = w.drewN n) := CC
  clear hX2 hX3 CC
  have HFd : Hid (F.data.toList = firstW s) := hFd
  have hdr : S.extract F.size S.size = ⟨(s.drop (firstW s).length).toArray⟩ := by
    apply data_inj
    rw [ByteArray.data_extract, Array.toList_extract, hd, hFz, hsz]
    simp only [List.extract_eq_take_drop]
    rw [List.take_of_length_le (by rw [List.length_drop]; omega)]
  rw [hFz, hsz] at hdr
  have HDR : Hid (S.extract (firstW s).length s.length = ⟨(s.drop (firstW s).length).toArray⟩) := hdr
  rw [hS] at hc
  obtain ⟨h0, w0, w1, w2, w3, w4⟩ := hW
  have HF0 : Hid (∀ n, Fr g w ((w.drewN n).setCell ⟨g, 0, none⟩ (.string ⟨(s.drop (firstW s).length).toArray⟩)) (s.drop (firstW s).length)) := fun n =>
    Fr.set (g := g) (w := w) (W := w.drewN n) (s := s) ⟨by rw [hS]; exact hc, hf, keep_drewN g w n⟩ _
  have HK0 : Hid (∀ n, KeepP (fun k => k = g) w (w.drewN n)) := fun n => keep_drewN g w n
  have hne : g ≠ 0 ∨ g = 0 := by omega
  clear hd hS hF hFd hdr hne
  go_enter Tryd.func64, Tryd.ntmps64
  go_wp2_with fail
  refine HCC.out.mono ?_
  rintro e w2 ⟨rfl, n, rfl⟩
  go_wp2_with fail
  have hixk : ∀ k : Nat, k < 5 → ∀ w, (Instr.index 82 (.agg #[.string ⟨#[116, 101, 120, 116]⟩, .string ⟨#[115, 116, 97, 114, 116]⟩, .string ⟨#[101, 110, 100]⟩, .string ⟨#[99, 111, 109, 109, 101, 110, 116]⟩, .string ⟨#[100, 111, 99, 116, 121, 112, 101]⟩]) (.int .i64 k)).run Tryd.prog w = .ok (.string (wordS k)) w := by
    intro k hk w
    obtain rfl | rfl | rfl | rfl | rfl : k = 0 ∨ k = 1 ∨ k = 2 ∨ k = 3 ∨ k = 4 := by omega
    all_goals show _ = _
    all_goals kernel_rfl
  have HIX : Hid (∀ k : Nat, k < 5 → ∀ w, (Instr.index 82 (.agg #[.string ⟨#[116, 101, 120, 116]⟩, .string ⟨#[115, 116, 97, 114, 116]⟩, .string ⟨#[101, 110, 100]⟩, .string ⟨#[99, 111, 109, 109, 101, 110, 116]⟩, .string ⟨#[100, 111, 99, 116, 121, 112, 101]⟩]) (.int .i64 k)).run Tryd.prog w = .ok (.string (wordS k)) w) := hixk
  clear hixk
  go_loopw [6, 7, 18] (fun _ _ i wr => ∃ k : Nat, k ≤ 5 ∧ i = .int .i64 k ∧ wr = w.drewN n ∧ Hid (∀ j, j < k → (wordS j).data.toList ≠ firstW s)) (fun _ _ i _ => 5 - (intOf i).toNat)
  case atStart => exact ⟨0, by omega, rfl, rfl, fun j hj => by omega⟩
  case round =>
    obtain ⟨k, hk, rfl, rfl, hN⟩ := hrel
    by_cases hlt : k < 5
    · have hix := HIX.out k hlt
      obtain ⟨b, hb⟩ : ∃ b, ((wordS k).toList == F.toList) = b := ⟨_, rfl⟩
      have hbv : b = decide ((wordS k).data.toList = firstW s) := by
        rw [← hb, Lib.toList_data, Lib.toList_data, HFd.out]
        by_cases h : (wordS k).data.toList = firstW s <;> simp [h]
      generalize wordS k = X at hix hb
      cases b with
      | true =>
        have HE : Hid (kindP (firstW s) = some k) := kindP_at _ k hlt (by simpa using hbv.symm) hN.out
        clear hbv
        go_wp2
        all_goals go_ret
        all_goals exact .inl ⟨k, HE.out, rfl, by rw [HDR.out]; exact HF0.out n⟩
      | false =>
        have HN2 : Hid (∀ j, j < k + 1 → (wordS j).data.toList ≠ firstW s) := fun j hj => by
          by_cases e : j = k
          · subst e; simpa using hbv.symm
          · exact hN.out j (by omega)
        clear hbv
        go_wp2
        all_goals first
          | exact ⟨⟨k + 1, by omega, by go_num, by trivial, HN2⟩, by simp [intOf]; omega⟩
          | (go_roundw
             case rel => exact ⟨k + 1, by omega, by go_num, by trivial, HN2⟩
             case measure => simp [intOf]; omega)
    · obtain rfl : k = 5 := by omega
      have HE : Hid (kindP (firstW s) = none) := kindP_none _ hN.out
      go_wp2_with (go_at_call 68; refine (giveUp_calls _).mono ?_; rintro e w2 ⟨rfl, h2⟩; obtain rfl := h2.symm)
      all_goals exact ⟨rfl, .inr ⟨HE.out, rfl, HK0.out n⟩⟩
end Go.Proofs.YtelfejbhlolppaaDoor.T
