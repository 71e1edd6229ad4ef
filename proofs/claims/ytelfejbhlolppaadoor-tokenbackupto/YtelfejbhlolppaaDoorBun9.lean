/- What is proved here: laws and contracts of TLine, TMergeM, one behind the other (each says its own). -/
import Derived.Test.YtelfejbhlolppaaDoorBun6
import Derived.Test.YtelfejbhlolppaaDoorTEqual
import Derived.Test.YtelfejbhlolppaaDoorTToks
/- What is proved here: the contract of Quote of sieveref07. -/
namespace Go.Proofs.YtelfejbhlolppaaDoor.T
open Go.RowKit N

theorem app_data (a b : ByteArray) : (a ++ b).data.toList = a.data.toList ++ b.data.toList := by simp [ByteArray.data_append]
theorem ext1_data (s : ByteArray) (k : Nat) (h : k < s.size) : (s.extract k (k + 1)).data.toList = [s.data.toList.getD k 0] := by
  rw [ByteArray.data_extract, Array.toList_extract]
  have h' : k < s.data.toList.length := by rw [size_data]; exact h
  apply List.ext_getElem
  · simp; simp at h'; omega
  · intro i h1 h2
    simp at h2
    subst h2
    simp at h'
    simp [List.getD, h']

set_option maxRecDepth 100000 in
set_option maxHeartbeats 2000000 in
theorem rquote_calls (s : ByteArray) (w : World) (hs : s.size ≤ 4398046511104) :
    Calls Tryd.prog 37 #[.string s] w fun e w' => e = .returned (.string ⟨(quoteB s.data.toList).toArray⟩) ∧ w' = w := by
  have HZ : Hid (s.data.toList.length = s.size) := size_data s
  go_enter Tryd.func37, Tryd.ntmps37
  go_wp2
  go_loopw [3, 4] (fun v i wr => ∃ (k : Nat) (B : ByteArray), k ≤ s.size ∧ v = .string B ∧ i = .int .i64 k ∧ wr = w ∧ Hid (B.data.toList = [34] ++ qL (s.data.toList.take k))) (fun _ i _ => s.size - (intOf i).toNat)
  case atStart => exact ⟨0, ⟨#[34]⟩, by omega, rfl, rfl, rfl, by show _ = _; simp [qL]⟩
  case round =>
    obtain ⟨k, B, hk, rfl, rfl, rfl, hb⟩ := hrel
    have hq := qL_len (s.data.toList.take k)
    have hBs : B.size ≤ 1 + 2 * k := by
      rw [← size_data, hb.out, List.length_append]
      simp only [List.length_take] at hq
      simp only [List.length_cons, List.length_nil]; omega
    clear hq
    have r2 : B.size + 2 ≤ 9223372036854775807 := by omega
    have r1 : B.size + 1 ≤ 9223372036854775807 := by omega
    by_cases hlt : k < s.size
    · obtain ⟨c, hcc⟩ : ∃ c, s.data.toList.getD k 0 = c := ⟨_, rfl⟩
      have hix : ∀ w, (Instr.index 9 (.string s) (.int .i64 k)).run Tryd.prog w = .ok (.int .u8 c.toNat) w := fun w => run_byte w _ s _ k k c Tryd.underlying9 rfl hlt hcc
      have HN : Hid ([34] ++ qL (s.data.toList.take (k + 1)) = B.data.toList ++ qB c) := by
        show _ = _
        rw [qL_succ _ k (by have := HZ.out; omega), hcc, hb.out, List.append_assoc]
      have HX : Hid ((s.extract k (k + 1)).data.toList = [c]) := by show _ = _; rw [ext1_data s k hlt, hcc]
      clear hcc
      have e10 := u8_beq c 10 (by omega)
      have e9 := u8_beq c 9 (by omega)
      have e34 := u8_beq c 34 (by omega)
      have e92 := u8_beq c 92 (by omega)
      by_cases c10 : c = 10
      · have q10 : ((c.toNat : Int) == 10) = true := by rw [show (10 : Int) = ((10 : Nat) : Int) from rfl, e10]; simpa using c10
        have HQ : Hid (qB c = [92, 110]) := by show _ = _; unfold qB; rw [if_pos c10]
        clear e10 e9 e34 e92 c10
        go_wp2
        go_roundw
        case rel => exact ⟨k + 1, B ++ ⟨#[92, 110]⟩, by omega, rfl, by go_num, by trivial, by show _ = _; rw [HN.out, HQ.out, app_data]⟩
        case measure => simp [intOf]; omega
      have q10 : ((c.toNat : Int) == 10) = false := by rw [show (10 : Int) = ((10 : Nat) : Int) from rfl, e10]; simpa using c10
      by_cases c9 : c = 9
      · have q9 : ((c.toNat : Int) == 9) = true := by rw [show (9 : Int) = ((9 : Nat) : Int) from rfl, e9]; simpa using c9
        have HQ : Hid (qB c = [92, 116]) := by show _ = _; unfold qB; rw [if_neg c10, if_pos c9]
        clear e10 e9 e34 e92 c10 c9
        go_wp2
        go_roundw
        case rel => exact ⟨k + 1, B ++ ⟨#[92, 116]⟩, by omega, rfl, by go_num, by trivial, by show _ = _; rw [HN.out, HQ.out, app_data]⟩
        case measure => simp [intOf]; omega
      have q9 : ((c.toNat : Int) == 9) = false := by rw [show (9 : Int) = ((9 : Nat) : Int) from rfl, e9]; simpa using c9
      by_cases c34 : c = 34
      · have q34 : ((c.toNat : Int) == 34) = true := by rw [show (34 : Int) = ((34 : Nat) : Int) from rfl, e34]; simpa using c34
        have HQ : Hid (qB c = [92, 34]) := by show _ = _; unfold qB; rw [if_neg c10, if_neg c9, if_pos (.inl c34), c34]
        clear e10 e9 e34 e92 c10 c9 c34
        go_wp2
        go_roundw
        case rel => exact ⟨k + 1, B ++ ⟨#[92, 34]⟩, by omega, rfl, by go_num, by trivial, by show _ = _; rw [HN.out, HQ.out, app_data]⟩
        case measure => simp [intOf]; omega
      have q34 : ((c.toNat : Int) == 34) = false := by rw [show (34 : Int) = ((34 : Nat) : Int) from rfl, e34]; simpa using c34
      by_cases c92 : c = 92
      · have q92 : ((c.toNat : Int) == 92) = true := by rw [show (92 : Int) = ((92 : Nat) : Int) from rfl, e92]; simpa using c92
        have HQ : Hid (qB c = [92, 92]) := by show _ = _; unfold qB; rw [if_neg c10, if_neg c9, if_pos (.inr c92), c92]
        clear e10 e9 e34 e92 c10 c9 c34 c92
        go_wp2
        go_roundw
        case rel => exact ⟨k + 1, B ++ ⟨#[92, 92]⟩, by omega, rfl, by go_num, by trivial, by show _ = _; rw [HN.out, HQ.out, app_data]⟩
        case measure => simp [intOf]; omega
      have q92 : ((c.toNat : Int) == 92) = false := by rw [show (92 : Int) = ((92 : Nat) : Int) from rfl, e92]; simpa using c92
      have HQ : Hid (qB c = [c]) := by show _ = _; unfold qB; rw [if_neg c10, if_neg c9, if_neg (fun h => h.elim c34 c92)]
      clear e10 e9 e34 e92 c10 c9 c34 c92
      have hxs : (s.extract k (k + 1)).size = 1 := by rw [← size_data, HX.out]; rfl
      have hsl : ∀ w, (Instr.slice 9 (.string s) (some (.int .i64 k)) (some (.int .i64 ((k : Int) + 1))) none).run Tryd.prog w = .ok (.string (s.extract k (k + 1))) w := fun w => by
        rw [run_slice_string w 9 s .i64 .i64 k ((k : Int) + 1) Tryd.underlying9 (by omega) (by omega) (by omega)]
        rw [show ((k : Int) + 1).toNat = k + 1 by omega, show ((k : Int)).toNat = k by omega]
      obtain ⟨X, hX⟩ : ∃ X, s.extract k (k + 1) = X := ⟨_, rfl⟩
      rw [hX] at hxs hsl HX
      clear hX
      have r3 : B.size + X.size ≤ 9223372036854775807 := by omega
      go_wp2
      go_roundw
      case rel => exact ⟨k + 1, B ++ X, by omega, rfl, by go_num, by trivial, by show _ = _; rw [HN.out, HQ.out, app_data, HX.out]⟩
      case measure => simp [intOf]; omega
    · obtain rfl : k = s.size := by omega
      have HF : Hid (B ++ ⟨#[34]⟩ = ⟨(quoteB s.data.toList).toArray⟩) := by
        apply data_inj
        rw [app_data, hb.out, ← HZ.out, List.take_length]; simp [quoteB]
      go_wp2
      go_ret
      exact ⟨by rw [← HF.out]; rfl, rfl⟩
end Go.Proofs.YtelfejbhlolppaaDoor.T

/- What is proved here: plain facts on lists of tokens: merging by runs is merging one by one. -/
namespace Go.Proofs.YtelfejbhlolppaaDoor.T
open N

def addText (y : T.Tok × AL) (s : ByteArray) : T.Tok × AL := ({ y.1 with text := y.1.text ++ s }, y.2)
def stepM (out : TL) (x : T.Tok × AL) : TL :=
  if x.1.kind ≠ 0 then out ++ [x]
  else if x.1.text.data.toList = [] then out
  else match out.getLast? with
    | some y => if y.1.kind = 0 then out.dropLast ++ [addText y x.1.text] else out ++ [x]
    | none => out ++ [x]
/-- The document's Merge. -/
def refM (L : TL) : TL := L.foldl stepM []
theorem refM_succ (L : TL) (k : Nat) (h : k < L.length) : refM (L.take (k + 1)) = stepM (refM (L.take k)) L[k] := by
  unfold refM
  rw [List.take_succ_eq_append_getElem h, List.foldl_append]; rfl
def zeroT : T.Tok × AL := (⟨0, ⟨#[]⟩, ⟨#[]⟩, false, 0, 0, 0⟩, [])
def joinStep (acc : (T.Tok × AL) × List UInt8) (x : T.Tok × AL) : (T.Tok × AL) × List UInt8 := (if acc.2 = [] then x else acc.1, acc.2 ++ x.1.text.data.toList)
/-- The first token with a text, and all texts. -/
def joinAcc (R : TL) : (T.Tok × AL) × List UInt8 := R.foldl joinStep (zeroT, [])
theorem joinAcc_snoc (R : TL) (x : T.Tok × AL) : joinAcc (R ++ [x]) = joinStep (joinAcc R) x := by unfold joinAcc; rw [List.foldl_append]; rfl
theorem joinAcc_succ (R : TL) (k : Nat) (h : k < R.length) : joinAcc (R.take (k + 1)) = joinStep (joinAcc (R.take k)) R[k] := by
  rw [List.take_succ_eq_append_getElem h, joinAcc_snoc]
def joined (R : TL) : T.Tok × AL := ({ (joinAcc R).1.1 with text := ⟨(joinAcc R).2.toArray⟩ }, (joinAcc R).1.2)
def LastNot (out : TL) : Prop := ∀ y, out.getLast? = some y → y.1.kind ≠ 0
theorem snoc_ind {P : TL → Prop} (h0 : P []) (h1 : ∀ R x, P R → P (R ++ [x])) : ∀ R, P R := fun R => by
  have : ∀ n, P (R.take n) := fun n => by
    induction n with
    | zero => simpa using h0
    | succ n ih =>
      by_cases h : n < R.length
      · rw [List.take_succ_eq_append_getElem h]; exact h1 _ _ ih
      · rw [List.take_of_length_le (by omega)] at ih ⊢; exact ih
  have h := this R.length
  rwa [List.take_length] at h
theorem join_kind (R : TL) : (∀ x ∈ R, x.1.kind = 0) → (joinAcc R).1.1.kind = 0 := by
  refine snoc_ind (P := fun R => (∀ x ∈ R, x.1.kind = 0) → (joinAcc R).1.1.kind = 0) (fun _ => rfl) (fun R x ih h => ?_) R
  rw [joinAcc_snoc]
  unfold joinStep
  simp only
  split
  · exact h x (by simp)
  · exact ih (fun y hy => h y (by simp [hy]))
theorem mk_text (s : ByteArray) : (⟨s.data.toList.toArray⟩ : ByteArray) = s := byteArr_eta s
theorem run_merge (out : TL) (hn : LastNot out) (R : TL) : (∀ x ∈ R, x.1.kind = 0) → R.foldl stepM out = if (joinAcc R).2 = [] then out else out ++ [joined R] := by
  refine snoc_ind (P := fun R => (∀ x ∈ R, x.1.kind = 0) → R.foldl stepM out = if (joinAcc R).2 = [] then out else out ++ [joined R]) (fun _ => rfl) (fun R x ih h => ?_) R
  have ih := ih (fun y hy => h y (by simp [hy]))
  have hx := h x (by simp)
  rw [List.foldl_append, ih]
  simp only [List.foldl_cons, List.foldl_nil]
  have hj : joined (R ++ [x]) = ({ (joinStep (joinAcc R) x).1.1 with text := ⟨(joinStep (joinAcc R) x).2.toArray⟩ }, (joinStep (joinAcc R) x).1.2) := by unfold joined; rw [joinAcc_snoc]
  rw [hj, joinAcc_snoc]
  by_cases he : (joinAcc R).2 = []
  · rw [if_pos he]
    unfold joinStep
    simp only [he, if_true, List.nil_append]
    unfold stepM
    rw [if_neg (by simp [hx])]
    by_cases hxe : x.1.text.data.toList = []
    · rw [if_pos hxe, if_pos hxe]
    · rw [if_neg hxe, if_neg hxe, mk_text]
      cases hl : out.getLast? with
      | none => rfl
      | some y => simp only [if_neg (hn y hl)]
  · rw [if_neg he]
    unfold joinStep
    simp only [if_neg he]
    have hk := join_kind R (fun y hy => h y (by simp [hy]))
    unfold stepM
    rw [if_neg (by simp [hx])]
    by_cases hxe : x.1.text.data.toList = []
    · rw [if_pos hxe, hxe, List.append_nil, if_neg he]
      rfl
    · rw [if_neg hxe, if_neg (by simp [he])]
      have hlast : (out ++ [joined R]).getLast? = some (joined R) := by simp
      rw [hlast]
      have hk' : (joined R).1.kind = 0 := hk
      simp only [if_pos hk', List.dropLast_concat]
      have ha : addText (joined R) x.1.text = ({ (joinAcc R).1.1 with text := ⟨((joinAcc R).2 ++ x.1.text.data.toList).toArray⟩ }, (joinAcc R).1.2) := by
        have hd : (⟨(joinAcc R).2.toArray⟩ : ByteArray) ++ x.1.text = ⟨((joinAcc R).2 ++ x.1.text.data.toList).toArray⟩ := data_inj (by rw [app_data])
        unfold addText joined
        simp only [hd]
      rw [ha]
/-- Where the program's Merge stands. -/
def CanGo (L : TL) (j : Nat) : Prop := ∀ h : j < L.length, L[j].1.kind = 0 → LastNot (refM (L.take j))
theorem CanGo.zero (L : TL) : CanGo L 0 := fun _ _ y hy => by simp [refM] at hy
theorem CanGo.other (L : TL) (j : Nat) (h : j < L.length) (hk : L[j].1.kind ≠ 0) : refM (L.take (j + 1)) = refM (L.take j) ++ [L[j]] ∧ CanGo L (j + 1) := by
  have e : refM (L.take (j + 1)) = refM (L.take j) ++ [L[j]] := by rw [refM_succ L j h]; unfold stepM; rw [if_pos hk]
  refine ⟨e, fun _ _ y hy => ?_⟩
  rw [e] at hy
  simp at hy
  rw [← hy]; exact hk
theorem CanGo.run (L : TL) (j n : Nat) (hn : 0 < n) (h : j + n ≤ L.length) (hc : CanGo L j) (hk : ∀ i (hi : i < L.length), j ≤ i → i < j + n → L[i].1.kind = 0) (he : ∀ hi : j + n < L.length, L[j + n].1.kind ≠ 0) :
    refM (L.take (j + n)) = (if (joinAcc ((L.drop j).take n)).2 = [] then refM (L.take j) else refM (L.take j) ++ [joined ((L.drop j).take n)]) ∧ CanGo L (j + n) := by
  refine ⟨?_, fun hi hk' => absurd hk' (he hi)⟩
  rw [List.take_add]
  have e : refM (L.take j ++ (L.drop j).take n) = ((L.drop j).take n).foldl stepM (refM (L.take j)) := by unfold refM; rw [List.foldl_append]
  rw [e]
  refine run_merge _ (hc (by omega) (hk j (by omega) (Nat.le_refl _) (by omega))) _ (fun x hx => ?_)
  obtain ⟨i, hi, rfl⟩ := List.mem_iff_getElem.1 hx
  simp only [List.length_take, List.length_drop] at hi
  rw [List.getElem_take, List.getElem_drop]
  exact hk (j + i) (by omega) (by omega) (by omega)
end Go.Proofs.YtelfejbhlolppaaDoor.T
