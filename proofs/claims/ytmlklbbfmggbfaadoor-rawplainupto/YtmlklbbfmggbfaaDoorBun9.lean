/- What is proved here: laws and contracts of RUpTo, RPiece, one behind the other (each says its own). -/
import Derived.Test.YtmlklbbfmggbfaaDoorBun5
import Derived.Test.YtmlklbbfmggbfaaDoorRWMath
/- What is proved here: upToStop of package raw: a text up to its first sign that may end a tag. -/
namespace Go.Proofs.YtmlklbbfmggbfaaDoor.R
open Go.RowKit Go.Shelf Go.Proofs.YtmlklbbfmggbfaaDoor.U Go.Proofs.YtmlklbbfmggbfaaDoor.N

theorem enters_stops : ∀ args w, (callFunc 49 args).run Tryd.prog w = .ok (.enter 49 args) w := enters_of Tryd.func49 (by kernel_rfl) rfl
theorem pred_stops (w : World) : PredGrows Tryd.prog 49 #[] (fun x => stopZ (x : Int)) w := fun W x _ _ => (stops_calls (x : Int) W).mono fun _ _ h => ⟨h.1, by rw [h.2]; exact Below.refl _ _⟩
theorem indexf_calls (bs : List UInt8) (w : World) :
    Calls Tryd.prog 69 #[.string ⟨bs.toArray⟩, .func (.func 49) #[] #[], .bool true] w fun e w' => e = .returned (.int .i64 (Lib.idxFunc (fun x => stopZ (x : Int)) true ⟨bs.toArray⟩)) ∧ Below w.heap.size w w' :=
  Any.strings_indexFunc_grows Tryd.lays315 49 #[] enters_stops (fun x => stopZ (x : Int)) true ⟨bs.toArray⟩ w (pred_stops w)
set_option maxRecDepth 100000 in
set_option maxHeartbeats 1000000 in
theorem index_calls (bs : List UInt8) (w : World) :
    Calls Tryd.prog 48 #[.string ⟨bs.toArray⟩, .func (.func 49) #[] #[]] w fun e w' => e = .returned (.int .i64 (Lib.idxFunc (fun x => stopZ (x : Int)) true ⟨bs.toArray⟩)) ∧ Below w.heap.size w w' := by
  have HI := indexf_calls bs w
  generalize Lib.idxFunc (fun x => stopZ (x : Int)) true ⟨bs.toArray⟩ = I at *
  have HI : Hid (Calls Tryd.prog 69 #[.string ⟨bs.toArray⟩, .func (.func 49) #[] #[], .bool true] w fun e w' => e = .returned (.int .i64 I) ∧ Below w.heap.size w w') := HI
  go_enter Tryd.func48, Tryd.ntmps48
  go_wp2_with fail
  (go_at_call 69; refine HI.out.mono ?_; rintro e w1 ⟨rfl, hb⟩)
  go_wp2_with fail
  go_ret
  exact ⟨rfl, hb⟩
theorem slice_h (bs : List UInt8) (k : Nat) (hk : k ≤ bs.length) (K : Int) (hK : K = k) (w : World) : (Instr.slice 9 (.string ⟨bs.toArray⟩) none (some (.int .i64 K)) none).run Tryd.prog w = .ok (.string ⟨(bs.take k).toArray⟩) w := by
  subst hK
  have hsz : (⟨bs.toArray⟩ : ByteArray).size = bs.length := by simp [ByteArray.size]
  rw [run_slice_string_h w 9 ⟨bs.toArray⟩ Tryd.underlying9 .i64 k (by omega) (by rw [hsz]; omega)]
  congr 2
  apply ByteArray.ext
  simp
set_option maxRecDepth 100000 in
set_option maxHeartbeats 2000000 in
/-- **upToStop.** -/
theorem upto_calls (bs : List UInt8) (w : World) (hs : bs.length ≤ 100000000) :
    Calls Tryd.prog 31 #[.string ⟨bs.toArray⟩] w fun e w' => e = .returned (.string ⟨(bs.take (upTo bs)).toArray⟩) ∧ Below w.heap.size w w' := by
  have hle := upTo_le bs
  have HI : Hid (Calls Tryd.prog 48 #[.string ⟨bs.toArray⟩, .func (.func 49) #[] #[]] w fun e w' => e = .returned (.int .i64 (Lib.idxFunc (fun x => stopZ (x : Int)) true ⟨bs.toArray⟩)) ∧ Below w.heap.size w w') := index_calls bs w
  rcases idx_upTo bs with ⟨h1, h2⟩ | ⟨h1, h2⟩
  · rw [h1] at HI
    rw [h2]
    clear h1 h2
    go_enter Tryd.func31, Tryd.ntmps31
    go_wp2_with fail
    (go_at_call 48; refine HI.out.mono ?_; rintro e w1 ⟨rfl, hb⟩)
    go_wp2_with fail
    go_ret
    exact ⟨rfl, hb⟩
  · rw [h1] at HI
    obtain ⟨n, hn⟩ : ∃ n, upTo bs = n + 1 := ⟨upTo bs - 1, by omega⟩
    rw [hn] at HI ⊢
    rw [show (((n + 1 : Nat) : Int) - 1) = (n : Int) by omega] at HI
    have hsl := slice_h bs (n + 1) (by omega) ((n : Int) + 1) (by omega)
    have hlt : decide ((n : Int) < 0) = false := by rw [decide_eq_false_iff_not]; omega
    have hwr : IntKind.i64.wrap ((n : Int) + 1) = (n : Int) + 1 := by rw [IntKind.wrap_i64]; omega
    clear h1 h2 hn
    go_enter Tryd.func31, Tryd.ntmps31
    go_wp2_with fail
    (go_at_call 48; refine HI.out.mono ?_; rintro e w1 ⟨rfl, hb⟩)
    go_wp2_with fail
    go_ret
    exact ⟨rfl, hb⟩
end Go.Proofs.YtmlklbbfmggbfaaDoor.R

/- What is proved here: plain facts: reading a text up to each sign that may end a tag; what Whole answers, by the machine. -/
namespace Go.Proofs.YtmlklbbfmggbfaaDoor.R
open Go.RowKit Go.Shelf Go.Proofs.YtmlklbbfmggbfaaDoor.U Go.Proofs.YtmlklbbfmggbfaaDoor.N

theorem cut_behind (X : List UInt8) (c : UInt8) (h : stopB c = true) : Cut (X ++ [c]) := fun Y => runesI_behind X Y c (stopB_low h)
/-- **What Whole answers**, by the machine: t the content's bytes, n how many bytes are told, ok whether the end tag has come. -/
def WholeIs (nm : List Int) (p : Nat) (bs t : List UInt8) (n : Nat) (ok : Bool) : Prop :=
  (ok = true ∧ n ≤ bs.length ∧ Cut (bs.take n) ∧ ∃ l1 r, runesI (bs.take n) = l1 ++ [r] ∧ ((s0 p).run nm l1).p ≠ 6 ∧ ((s0 p).run nm (l1 ++ [r])).p = 6 ∧ t = encs ((s0 p).run nm (l1 ++ [r])).o) ∨
  (ok = false ∧ n = bs.length ∧ ((s0 p).run nm (runesI bs)).p ≠ 6 ∧ t = encs (runesI bs))
/-- **One piece more.** -/
theorem piece_step (nm : List Int) (p : Nat) (h1 : 1 ≤ p) (h5 : p ≤ 5) (bs P : List UInt8) (k : Nat) (hk : k < bs.length) (hP : P = (bs.drop k).take (upTo (bs.drop k))) (hcut : Cut (bs.take k)) (h6 : ((s0 p).run nm (runesI (bs.take k))).p ≠ 6) :
    0 < P.length ∧ k + P.length ≤ bs.length ∧ bs.take (k + P.length) = bs.take k ++ P ∧ runesI (bs.take (k + P.length)) = runesI (bs.take k) ++ runesI P ∧
    (Cut (bs.take (k + P.length)) ∨ k + P.length = bs.length) ∧
    (((s0 p).run nm (runesI (bs.take (k + P.length)))).p = 6 → WholeIs nm p bs (encs ((s0 p).run nm (runesI (bs.take (k + P.length)))).o) (k + P.length) true) := by
  have hd : 0 < (bs.drop k).length := by simp; omega
  have hu := upTo_le (bs.drop k)
  have hu0 := upTo_pos (bs.drop k) hd
  have hPl : P.length = upTo (bs.drop k) := by rw [hP, List.length_take]; omega
  have hdl : (bs.drop k).length = bs.length - k := by simp
  have ht : bs.take (k + P.length) = bs.take k ++ P := by rw [hPl, List.take_add, ← hP]
  have hr : runesI (bs.take (k + P.length)) = runesI (bs.take k) ++ runesI P := by rw [ht]; exact hcut P
  have hkp : Ok nm ((s0 p).run nm (runesI (bs.take k))) := by
    rcases run_keeps nm (runesI (bs.take k)) (s0 p) (s0_ok nm h1 h5) with h | h
    · exact absurd h h6
    · exact h.1
  refine ⟨by omega, by omega, ht, hr, ?_, fun hc => ?_⟩
  · rcases upTo_cases (bs.drop k) with ⟨X, c, e1, e2, e3⟩ | ⟨e1, e2⟩
    · left
      rw [ht, hP, e1, ← List.append_assoc]
      exact cut_behind _ c e2
    · right; omega
  · rcases upTo_cases (bs.drop k) with ⟨X, c, e1, e2, e3⟩ | ⟨e1, e2⟩
    · have hlow := stopB_low e2
      have hRP : runesI P = runesI X ++ [(c.toNat : Int)] := by rw [hP, e1, runesI_append X [c] (.inr (by simpa [byteAt] using hlow)), runesI_ascii c [] hlow]; rfl
      left
      refine ⟨rfl, by omega, by rw [ht, hP, e1, ← List.append_assoc]; exact cut_behind _ c e2, runesI (bs.take k) ++ runesI X, (c.toNat : Int), by rw [hr, hRP, List.append_assoc], ?_, ?_, ?_⟩
      · rw [run_append]
        exact run_not nm _ _ hkp (runes_nostop X.length X (Nat.le_refl _) e3)
      · rw [List.append_assoc, ← hRP, ← hr]; exact hc
      · rw [List.append_assoc, ← hRP, ← hr]
    · exfalso
      rw [hr, run_append] at hc
      refine run_not nm _ _ hkp (runes_nostop P.length P (Nat.le_refl _) ?_) hc
      rw [hP]
      exact fun b hb => e2 b (List.mem_of_mem_take hb)
theorem whole_open (nm : List Int) (p : Nat) (bs : List UInt8) (h6 : ((s0 p).run nm (runesI bs)).p ≠ 6) : WholeIs nm p bs (encs (runesI bs)) bs.length false := .inr ⟨rfl, rfl, h6, rfl⟩
end Go.Proofs.YtmlklbbfmggbfaaDoor.R
