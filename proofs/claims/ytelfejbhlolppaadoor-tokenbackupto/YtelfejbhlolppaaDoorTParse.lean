/- What is proved here: the contract of Parse of token. -/
import Derived.Test.YtelfejbhlolppaaDoorTReadF
import Derived.Test.YtelfejbhlolppaaDoorTCopied
namespace Go.Proofs.YtelfejbhlolppaaDoor.T
open Go.RowKit N

def lineP (s : List UInt8) : List UInt8 := s.takeWhile (fun c => c != 10)
def restP (s : List UInt8) : List UInt8 := (s.dropWhile (fun c => c != 10)).tail
/-- The tokens of lines, or which line is none. -/
def parseP : Nat → Nat → TL → List UInt8 → Option TL × Nat
  | 0, _, L, _ => (some L, 0)
  | f + 1, n, L, s => if s = [] then (some L, 0) else match readP (lineP s) with
    | none => (none, n)
    | some x => parseP f (n + 1) (L ++ [x]) (restP s)

theorem parseP_nil (f n : Nat) (L : TL) : parseP (f + 1) n L [] = (some L, 0) := by simp [parseP]
theorem parseP_none (f n : Nat) (L : TL) (s : List UInt8) (hs : s ≠ []) (h : readP (lineP s) = none) : parseP (f + 1) n L s = (none, n) := by simp [parseP, hs, h]
theorem parseP_some (f n : Nat) (L : TL) (s : List UInt8) (x : T.Tok × AL) (hs : s ≠ []) (h : readP (lineP s) = some x) : parseP (f + 1) n L s = parseP f (n + 1) (L ++ [x]) (restP s) := by simp [parseP, hs, h]
theorem lineP_len (s : List UInt8) : (lineP s).length ≤ s.length := (List.takeWhile_sublist _).length_le
theorem lineP_no (s : List UInt8) : (10 : UInt8) ∉ lineP s := by
  unfold lineP
  induction s with
  | nil => simp
  | cons c r ih =>
    rw [List.takeWhile_cons]
    by_cases hc : c = 10
    · simp [hc]
    · simp [hc]
      exact ⟨fun e => hc e.symm, by simpa using ih⟩
theorem restP_len (s : List UInt8) (h : s ≠ []) : (restP s).length < s.length := by
  unfold restP
  have h1 : (s.dropWhile (fun c => c != 10)).length ≤ s.length := (List.dropWhile_sublist _).length_le
  have h2 : 0 < s.length := List.length_pos_iff.2 h
  rw [List.length_tail]; omega

def strLen : Value → Nat
  | .string s => s.size
  | _ => 0
set_option maxRecDepth 100000 in
set_option maxHeartbeats 4000000 in
/-- **Parse.** -/
theorem parse_calls (s : ByteArray) (w : World) (hW : Words w) (hm : MaxOk w) (hl : s.size ≤ 100000000) :
    Calls Tryd.prog 23 #[.string s] w fun e w' => (∃ L v, parseP (s.size + 1) 1 [] s.data.toList = (some L, 0) ∧ e = .returned (.tuple #[v, .int .i64 0, .int .i64 0]) ∧ OwnT w.heap.size w' v L ∧ Below w.heap.size w w') ∨ (∃ n : Nat, parseP (s.size + 1) 1 [] s.data.toList = (none, n) ∧ e = .returned (.tuple #[.slice none 0 0, .int .i64 n, .int .i64 70]) ∧ Below w.heap.size w w') := by
  obtain ⟨i0, hi, hz0, hz1, hz2⟩ := info_parts infoTok
  have HI : Hid (Tryd.prog.info? 28 = some i0 ∧ i0.zero = some (.agg #[.int .i64 0, .string ⟨#[]⟩, .string ⟨#[]⟩, .slice none 0 0, .bool false, .int .i64 0, .int .i64 0, .int .i64 0]) ∧ i0.size = 8 ∧ i0.bytes = 96) := ⟨hi, hz0, hz1, hz2⟩
  clear hi hz0 hz1 hz2
  have HW : Hid (Words w) := hW
  have HM : Hid (MaxOk w) := hm
  obtain ⟨R, hR⟩ : ∃ R, parseP (s.size + 1) 1 [] s.data.toList = R := ⟨_, rfl⟩
  have HR : Hid (parseP (s.size + 1) 1 [] s.data.toList = R) := hR
  have HZ : Hid (s.data.toList.length = s.size) := size_data s
  rw [hR]
  clear hW hm hR
  go_enter Tryd.func23, Tryd.ntmps23
  go_wp2_with fail
  go_loopw [0, 5, 6, 7, 8, 9, 10, 11] (fun v0 v5 v6 _ _ _ _ _ wr => ∃ (f n : Nat) (L : TL) (S : ByteArray), v0 = .string S ∧ v6 = .int .i64 n ∧ n + S.size ≤ s.size + 1 ∧ Hid (S.size < f) ∧ Hid (parseP f n L S.data.toList = R) ∧ Hid (L.length + S.size ≤ s.size) ∧ Hid (OwnT w.heap.size wr v5 L) ∧ Hid (Below w.heap.size w wr)) (fun v0 _ _ _ _ _ _ _ _ => strLen v0)
  case atStart => exact ⟨s.size + 1, 1, [], s, rfl, rfl, by omega, by show _ < _; omega, HR, by show _ ≤ _; simp, OwnT.nil _ _, Below.refl _ _⟩
  case round =>
    obtain ⟨f, n, L, S, rfl, rfl, hn, hf, hE, hL, hO, hB⟩ := hrel
    obtain ⟨va3, vc3, rfl⟩ := hO.out.slice
    obtain ⟨m, rfl⟩ : ∃ m, f = m + 1 := ⟨f - 1, by have := hf.out; omega⟩
    by_cases hS : S.data.toList = []
    · have q0 : S.toList.isEmpty = true := by rw [Lib.toList_data, hS]; rfl
      have HE2 : Hid (R = (some L, 0)) := by show _ = _; rw [← hE.out, hS, parseP_nil]
      clear hS
      go_wp2_with fail
      go_ret3
      exact .inl ⟨L, _, HE2.out, rfl, hO.out, hB.out⟩
    · have q0 : S.toList.isEmpty = false := by rw [Lib.toList_data]; simpa using hS
      have hz := size_data S
      have hl2 := hL.out
      have CC := cut_calls S 10 wr (by omega) (HM.out.below hB.out)
      rw [cut_one] at CC
      obtain ⟨X1, hX1⟩ : ∃ X : ByteArray, (⟨(lineP S.data.toList).toArray⟩ : ByteArray) = X := ⟨_, rfl⟩
      obtain ⟨X2, hX2⟩ : ∃ X : ByteArray, (⟨(restP S.data.toList).toArray⟩ : ByteArray) = X := ⟨_, rfl⟩
      obtain ⟨X3, hX3⟩ : ∃ X : Bool, S.data.toList.contains 10 = X := ⟨_, rfl⟩
      have HCC : Hid (Calls Tryd.prog 39 #[.string S, .string ⟨#[10]⟩] wr fun e w' => e = .returned (.tuple #[.string X1, .string X2, .bool X3]) ∧ ∃ n, w' = wr.drewN n) := by rw [← hX1, ← hX2, ← hX3]; exact CC
      have h1d : X1.data.toList = lineP S.data.toList := by rw [← hX1]
      have h2d : X2.data.toList = restP S.data.toList := by rw [← hX2]
      have h1z : X1.size ≤ S.size := by rw [← size_data, h1d, ← hz]; exact lineP_len _
      have h2z : X2.size < S.size := by rw [← size_data, h2d, ← hz]; exact restP_len _ hS
      have RC : Hid (∀ W, Below w.heap.size w W → Calls Tryd.prog 40 #[.string X1] W fun e w' => (∃ t l v, readP X1.data.toList = some (t, l) ∧ e = .returned (.tuple #[t.val v, .int .i64 0]) ∧ OwnA W.heap.size w' v l ∧ Below W.heap.size W w') ∨ (readP X1.data.toList = none ∧ e = .returned (.tuple #[.agg #[.int .i64 0, .string ⟨#[]⟩, .string ⟨#[]⟩, .slice none 0 0, .bool false, .int .i64 0, .int .i64 0, .int .i64 0], .int .i64 70]) ∧ Below W.heap.size W w')) := fun W hb => read_calls X1 W (HW.out.below hb) (HM.out.below hb) (by omega) (by rw [h1d]; exact lineP_no _)
      have H2d : Hid (X2.data.toList = restP S.data.toList) := h2d
      rw [h1d] at RC
      clear CC hX1 hX2 hX3 h1d h2d
      go_wp2_with fail
      refine HCC.out.mono ?_
      rintro e w2 ⟨rfl, k2, rfl⟩
      have HB2 : Hid (Below w.heap.size w (wr.drewN k2)) := ⟨hB.out.os, hB.out.tape, hB.out.output, hB.out.size, hB.out.block⟩
      have HO2 : Hid (OwnT w.heap.size (wr.drewN k2) (.slice va3 L.length vc3) L) := hO.out
      generalize wr.drewN k2 = w2 at HB2 HO2 ⊢
      have RC2 := RC.out w2 HB2.out
      cases hr : readP (lineP S.data.toList) with
      | none =>
        have HRC : Hid (Calls Tryd.prog 40 #[.string X1] w2 fun e w' => e = .returned (.tuple #[.agg #[.int .i64 0, .string ⟨#[]⟩, .string ⟨#[]⟩, .slice none 0 0, .bool false, .int .i64 0, .int .i64 0, .int .i64 0], .int .i64 70]) ∧ Below w2.heap.size w2 w') := RC2.mono fun e w' h => by
          rcases h with ⟨_, _, _, h1, _⟩ | ⟨_, h2⟩
          · rw [hr] at h1; cases h1
          · exact h2
        have HE2 : Hid (R = (none, n)) := by show _ = _; rw [← hE.out, parseP_none _ _ _ _ hS hr]
        clear RC2 hr hS RC
        go_wp2_with fail
        refine HRC.out.mono ?_
        rintro e w3 ⟨rfl, hb3⟩
        go_wp2
        all_goals go_ret3
        all_goals exact .inr ⟨n, HE2.out, rfl, (HB2.out.trans (hb3.mono HB2.out.size)).alloc (by have := HB2.out.size; have := hb3.size; omega) _⟩
      | some tl =>
        obtain ⟨t, l⟩ := tl
        have HRC : Hid (Calls Tryd.prog 40 #[.string X1] w2 fun e w' => ∃ v, e = .returned (.tuple #[t.val v, .int .i64 0]) ∧ OwnA w2.heap.size w' v l ∧ Below w2.heap.size w2 w') := RC2.mono fun e w' h => by
          rcases h with ⟨_, _, v, h1, h2, h3, h4⟩ | ⟨h1, _⟩
          · rw [hr] at h1; cases h1; exact ⟨v, h2, h3, h4⟩
          · rw [hr] at h1; cases h1
        have HE2 : Hid (parseP m (n + 1) (L ++ [(t, l)]) X2.data.toList = R) := by show _ = _; rw [← hE.out, parseP_some _ _ _ _ _ hS hr, H2d.out]
        clear RC2 hr hS RC
        go_wp2_with fail
        refine HRC.out.mono ?_
        rintro e w3 ⟨v, rfl, ho3, hb3⟩
        obtain ⟨aa, ac, rfl⟩ := C.owns_slice ho3
        unfold T.Tok.val
        have s2 := HB2.out.size
        have s3 := hb3.size
        obtain ⟨W4, hW4⟩ : ∃ W4, w3.alloc (.cells #[.int .i64 t.kind, .string t.name, .string t.text, .slice aa l.length ac, .bool t.self, .int .i64 t.p0, .int .i64 t.p1, .int .i64 t.p2] 28) = W4 := ⟨_, rfl⟩
        have hz4 : W4.heap.size = w3.heap.size + 1 := by rw [← hW4]; simp
        have HB4 : Hid (Below w.heap.size w W4) := by rw [← hW4]; exact (HB2.out.trans (hb3.mono s2)).alloc (by omega) _
        have HO4 : Hid (OwnT w.heap.size W4 (.slice va3 L.length vc3) L) := by rw [← hW4]; exact (HO2.out.below hb3).below ((Below.refl _ w3).alloc (Nat.le_refl _) _)
        have HA4 : Hid (OwnA w.heap.size W4 (.slice aa l.length ac) l) := by rw [← hW4]; exact World.ownsRow.alloc (C.owns_mono ho3 s2) _
        have hT4 : W4.heap[w3.heap.size]? = some (.cells #[.int .i64 t.kind, .string t.name, .string t.text, .slice aa l.length ac, .bool t.self, .int .i64 t.p0, .int .i64 t.p1, .int .i64 t.p2] 28 (0, 0)) := by rw [← hW4]; exact new_at _ _ _
        have HW4 : Hid (w3.alloc (.cells #[.int .i64 t.kind, .string t.name, .string t.text, .slice aa l.length ac, .bool t.self, .int .i64 t.p0, .int .i64 t.p1, .int .i64 t.p2] 28) = W4) := hW4
        obtain ⟨xs, x1, x2, x3⟩ := HO4.out
        have HX : Hid (xs.map Prod.snd = L ∧ ∀ x ∈ xs, OwnA w.heap.size W4 x.1 x.2.2) := ⟨x1, x3⟩
        have HX4 : Hid (W4.ownsRow w.heap.size 28 8 (.slice va3 L.length vc3) L.length (xs.flatMap fun x => tvs x.2.1 x.1)) := x2
        have HX2 : Hid ((w3.alloc (.cells #[.int .i64 t.kind, .string t.name, .string t.text, .slice aa l.length ac, .bool t.self, .int .i64 t.p0, .int .i64 t.p1, .int .i64 t.p2] 28)).ownsRow w.heap.size 28 8 (.slice va3 L.length vc3) L.length (xs.flatMap fun x => tvs x.2.1 x.1)) := by rw [hW4]; exact x2
        have HL2 : Hid ((L ++ [(t, l)]).length + X2.size ≤ s.size) := by show _ ≤ _; simp only [List.length_append, List.length_cons, List.length_nil]; omega
        have HF2 : Hid (X2.size < m) := by have := hf.out; show _ < _; omega
        clear hW4 x1 x2 x3 ho3 hb3 hT4 hz4
        go_wp2_with (at_builtin; refine wpList_append_own _ rfl _ _ 38 rfl w.heap.size 28 i0 (.agg #[.int .i64 0, .string ⟨#[]⟩, .string ⟨#[]⟩, .slice none 0 0, .bool false, .int .i64 0, .int .i64 0, .int .i64 0]) 8 96 Tryd.underlying38 HI.out.1 HI.out.2.1 HI.out.2.2.1 HI.out.2.2.2 rfl (by decide) _ _ _ rfl (World.ownsRow.alloc HX2.out _) ⟨w3.heap.size + 1, 0, none⟩ 1 1 (tvs t (.slice aa l.length ac)) rfl rfl (cells_eight _ t _ _ _ (by simp)) (tvs_one _ _ _ _) (by unfold maxLen; omega) (by omega) (by simp; omega) ?_; intro v6 w6 ho6 hg6 _; obtain ⟨a6, c6, rfl⟩ := C.owns_slice ho6)
        rw [HW4.out] at hg6
        have HO6 : Hid (OwnT w.heap.size w6 (.slice a6 (L.length + 1) c6) (L ++ [(t, l)])) := OwnT.snoc HX.out.1 HX4.out HX.out.2 HA4.out ho6 hg6
        have HB6 : Hid (Below w.heap.size w w6) := (HB4.out.alloc HB4.out.size _).grown hg6 (by simp; have := HB4.out.size; omega) (fun k e => (HX4.out.lt k e).1)
        clear ho6 hg6
        all_goals first
          | exact ⟨⟨m, n + 1, L ++ [(t, l)], X2, rfl, by go_num, by omega, HF2, HE2, HL2, HO6, HB6⟩, by simp [strLen]; omega⟩
          | (go_roundw
             case rel => exact ⟨m, n + 1, L ++ [(t, l)], X2, rfl, by go_num, by omega, HF2, HE2, HL2, HO6, HB6⟩
             case measure => simp [strLen]; omega)
          | trace_state
end Go.Proofs.YtelfejbhlolppaaDoor.T
