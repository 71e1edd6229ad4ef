/- What is proved here: plain facts: what the document's Whole says of the bytes of runes is what the machine says of the runes. -/
import Derived.Test.YtckhnkkmcgbabaaDoorKWMath
import Derived.Test.YtckhnkkmcgbabaaDoorKRWhole
namespace Go.Proofs.YtckhnkkmcgbabaaDoor.K
open Go.RowKit Go.Shelf Go.Proofs.YtckhnkkmcgbabaaDoor.U

theorem cl_mendR (z : Int) : cl (mendR z) = cl z := by
  unfold mendR
  split
  · rfl
  · rename_i h
    have : ¬ (0 ≤ z ∧ z ≤ 1114111 ∧ ¬ (55296 ≤ z ∧ z ≤ 57343)) := fun h' => h ((valid_iff z).2 h')
    rw [show cl 65533 = 0 from rfl]
    by_cases h0 : z < 0
    · exact (cl_low h0).symm
    · exact (cl_high (by omega)).symm
theorem encs_says (q : Nat) (z : Int) : encs (says q (mendR z)) = encs (says q z) := by
  have he := enc_mendR z
  by_cases hq : isQ q
  · rcases isQ_cases hq with rfl | rfl | rfl | rfl | rfl | rfl | rfl | rfl | rfl <;> rcases cl_cases z with ⟨_, k⟩ | ⟨_, k⟩ | ⟨_, k⟩ | ⟨_, _, _, k⟩ <;> simp [says, cl_mendR, k, encs, he]
  · unfold isQ at hq
    have e : ∀ r, says q r = [] := fun r => by
      unfold says
      rw [if_neg (by omega), if_neg (by omega), if_neg (by omega), if_neg (by omega), if_neg (by omega), if_neg (by omega), if_neg (by omega), if_neg (by omega)]
    rw [e, e]
theorem encs_sayAll : ∀ (l : List Int) (q : Nat), encs (sayAll q (l.map mendR)) = encs (sayAll q l)
  | [], _ => rfl
  | z :: l, q => by
    simp only [List.map_cons, sayAll]
    have app : ∀ x y : List Int, encs (x ++ y) = encs x ++ encs y := fun x y => by simp [encs]
    rw [app, app, encs_says, cl_mendR, encs_sayAll l]
/-- Where the runes leave it open. -/
theorem runes_open (kind : Int) (h0 : 0 ≤ kind) (h2 : kind ≤ 2) (l : List Int) (h9 : run (start kind) l ≠ 9) :
    wC kind (encs l) = false ∧ encs (runesI (wText kind (encs l))) = encs (sayAll (start kind) l) := by
  have h := whole_open kind h0 h2 (encs l) (by rw [run_encs l _ (start_isQ kind)]; exact h9)
  refine ⟨h.2.1, ?_⟩
  rw [← h.2.2, (runesI_encs l).1, encs_sayAll]
/-- Where the last rune closes it. -/
theorem runes_closed (kind : Int) (h0 : 0 ≤ kind) (h2 : kind ≤ 2) (pre : List Int) (z : Int) (h9 : run (start kind) pre ≠ 9) (hc : run (start kind) (pre ++ [z]) = 9) :
    wC kind (encs (pre ++ [z])) = true ∧ wN kind (encs (pre ++ [z])) = (encs (pre ++ [z])).length ∧ encs (runesI (wText kind (encs (pre ++ [z])))) = encs (sayAll (start kind) (pre ++ [z])) := by
  rw [run_snoc] at hc
  have h3 := nine_cl (run_isQ _ _ (start_isQ kind)) h9 hc
  obtain rfl : z = 62 := by
    rcases cl_cases z with ⟨_, k⟩ | ⟨_, k⟩ | ⟨e, _⟩ | ⟨_, _, _, k⟩
    · omega
    · omega
    · exact e
    · omega
  have hz : encs (pre ++ [62]) = encs pre ++ [62] := by
    have : enc 62 = [62] := by kernel_rfl
    simp [encs, this]
  have hT : (encs (pre ++ [62])).take (encs (pre ++ [62])).length = encs pre ++ [62] := by rw [List.take_length]; exact hz
  have h := whole_closed kind h0 h2 (encs (pre ++ [62])) (encs pre) _ (Nat.le_refl _) hT (by rw [run_encs _ _ (start_isQ kind)]; exact h9) (by rw [List.take_length, run_encs _ _ (start_isQ kind), run_snoc]; exact hc)
  rw [List.take_length] at h
  refine ⟨h.2.1, h.1, ?_⟩
  rw [← h.2.2, (runesI_encs _).1, encs_sayAll]
theorem hasI_take {q : IntKind} {w : World} {a : Option Addr} {n cap : Nat} {zs : List Int} (h : HasI q w (.slice a n cap) zs) (k : Nat) (h0 : 0 < k) (hk : k ≤ zs.length) : HasI q w (.slice a k cap) (zs.take k) := by
  rcases h with ⟨e, _⟩ | ⟨hp, b, off, cap', e, hcap, hx⟩
  · subst e; simp at hk; omega
  · simp only [Value.slice.injEq] at e
    obtain ⟨rfl, _, rfl⟩ := e
    have hl : (zs.take k).length = k := by simp; omega
    refine .inr ⟨by omega, b, off, cap, by rw [hl], by omega, fun j hj => ?_⟩
    rw [hl] at hj
    rw [show zAt (zs.take k) j = zAt zs j by simp [zAt, hj]]
    exact hx j (by omega)
theorem slice_runes (a : Option Addr) (n cap k : Nat) (i : Int) (hi : i = (k : Int)) (h1 : k ≤ n) (h2 : n ≤ cap) (w : World) : (Instr.slice 32 (.slice a n cap) none (some (.int .i64 i)) none).run Tryd.prog w = .ok (.slice a k cap) w := by
  subst hi
  have hs : (sizeOf (Tryd.prog.elem 32)).run Tryd.prog w = .ok 1 w := by kernel_rfl
  rw [run_slice_h w _ _ _ _ (by kernel_rfl) _ _ (by omega) (by omega), hs]
  have hz : ∀ o : Option Addr, o.map (fun x => x.add 0) = o := fun o => by
    cases o with
    | none => rfl
    | some x => obtain ⟨b, off, sp⟩ := x; cases sp <;> simp [Addr.add]
  simp [Result.andThen, sliced, hz]
theorem hasI_cell {q : IntKind} {w : World} {a : Option Addr} {cap : Nat} {zs : List Int} {n : Nat} (hl : HasI q w (.slice a n cap) zs) (k : Nat) (hk : k < zs.length) : ∃ b off, a = some ⟨b, off, none⟩ ∧ w.cell? ⟨b, off + k, none⟩ = some (.int q (zAt zs k)) := by
  rcases hl with ⟨e, _⟩ | ⟨hp, b, off, cap', e, hcap, hx⟩
  · subst e; simp at hk
  · simp only [Value.slice.injEq] at e
    exact ⟨b, off, e.1, hx k hk⟩
end Go.Proofs.YtckhnkkmcgbabaaDoor.K
