/- What is proved here: last of the statements of layer 16: where the last of some names stands. -/
import Derived.Test.YtdkcibafbdmajaaNeAwake
import Derived.Test.YtdkcibafbdmajaaNeFacts
namespace Go.Proofs.Ytdkcibafbdmajaa.E
open Go.RowKit Go.Shelf Go.WideMaps Go.Maps Go.Proofs.Ytdkcibafbdmajaa.N Go.Proofs.Ytdkcibafbdmajaa.C

def inL (P : List Txt) (y : Txt) : Bool := P.contains y
def lastK (S P : List Txt) (k : Nat) : Int := findK S (inL P) neverB k
theorem inL_hit {P : List Txt} {y : Txt} {j : Nat} (hj : j < P.length) (h : y = P.getD j []) : inL P y = true := by
  unfold inL
  rw [List.contains_iff_mem, h, List.getD_eq_getElem?_getD, List.getElem?_eq_getElem hj]
  exact List.getElem_mem hj
theorem inL_none {P : List Txt} {y : Txt} (h : ∀ j, j < P.length → y ≠ P.getD j []) : inL P y = false := by
  unfold inL
  rw [Bool.eq_false_iff]
  intro hc
  rw [List.contains_iff_mem] at hc
  obtain ⟨j, hj, e⟩ := List.mem_iff_getElem.1 hc
  apply h j hj
  rw [List.getD_eq_getElem?_getD, List.getElem?_eq_getElem hj]
  exact e.symm
theorem last_pass {S P : List Txt} {k : Nat} (h : inL P (S.getD k []) = false) : lastK S P (k + 1) = lastK S P k := by
  unfold lastK
  show (if inL P (S.getD k []) then _ else if neverB (S.getD k []) then _ else _) = _
  rw [h]
  rfl
set_option maxRecDepth 100000 in
set_option maxHeartbeats 4000000 in
theorem last_calls' (S P : List Txt) (a pa : Option Addr) (c pc : Nat) (at0 : Nat) (w : World) (hS : S.length ≤ 1000000) (hP : P.length ≤ 1000000) (hat : at0 ≤ S.length) (hT : TextsAt w a S) (hQ : TextsAt w pa P) :
    Calls Try.prog 32 #[.slice a S.length c, .int .i64 (at0 : Int), .slice pa P.length pc] w fun e w' => e = .returned (.int .i64 (lastK S P at0)) ∧ w' = w := by
  have HT := hid_of hT
  have HQ := hid_of hQ
  clear hT hQ
  go_enter Try.func32, Try.ntmps32
  go_wp2
  go_loopw [6, 7] (fun _ i wr => wr = w ∧ ∃ k : Nat, k ≤ at0 ∧ i = .int .i64 ((k : Int) - 1) ∧ Hid (lastK S P at0 = lastK S P k)) (fun _ i _ => (intOf i + 1).toNat)
  case atStart => exact ⟨rfl, at0, Nat.le_refl _, by first | rfl | (congr 1; rw [IntKind.wrap_i64]; omega), rfl⟩
  case round =>
    obtain ⟨rfl, k, hk, rfl, hE⟩ := hrel
    cases k with
    | zero =>
      have HE0 : Hid (lastK S P at0 = -1) := hE.out.trans rfl
      rw [show ((0 : Nat) : Int) - 1 = -1 from rfl]
      go_wp2
      go_ret
      exact ⟨by rw [HE0.out]; rfl, rfl⟩
    | succ j =>
      have ej : ((j + 1 : Nat) : Int) - 1 = (j : Int) := by omega
      rw [ej]
      clear ej
      obtain ⟨b, off, rfl, hcx⟩ := HT.out j (by omega)
      have HX : Hid (∀ i, i < P.length → S.getD j [] = P.getD i [] → lastK S P at0 = j) := fun i hi h => by rw [hE.out]; exact findK_top (inL_hit hi h)
      have HN : Hid ((∀ i, i < P.length → S.getD j [] ≠ P.getD i []) → lastK S P at0 = lastK S P j) := fun h => by rw [hE.out]; exact last_pass (inL_none h)
      obtain ⟨x, hx⟩ : ∃ x, S.getD j [] = x := ⟨_, rfl⟩
      rw [hx] at hcx HX HN
      clear hx
      have hjj : (j : Int) ≥ 0 := by omega
      have hjl : (j : Int) < (S.length : Int) := by omega
      go_wp2
      go_loopw [6, 18] (fun _ i w2 => w2 = wr ∧ ∃ q : Nat, q ≤ P.length ∧ i = .int .i64 q ∧ Hid (∀ i, i < q → x ≠ P.getD i [])) (fun _ i _ => P.length - (intOf i).toNat)
      case atStart => exact ⟨rfl, 0, by omega, rfl, fun i hi => by omega⟩
      case round =>
        obtain ⟨rfl, q, hq, rfl, hNE⟩ := hrel
        by_cases hlt : q < P.length
        · obtain ⟨b2, off2, rfl, hcy⟩ := HQ.out q hlt
          by_cases hxy : x = P.getD q []
          · have HF := hid_of (HX.out q hlt hxy)
            rw [← hxy] at hcy
            have hf : (x == x) = true := by simp
            clear hxy
            go_wp2
            go_ret
            exact ⟨by rw [HF.out]; rfl, rfl⟩
          · have HNE2 : Hid (∀ i, i < q + 1 → x ≠ P.getD i []) := fun i hi => by
              by_cases e : i = q
              · subst e; exact hxy
              · exact hNE.out i (by omega)
            have hf : (x == P.getD q []) = false := by rw [beq_eq_false_iff_ne]; exact hxy
            generalize P.getD q [] = y at *
            clear hxy
            go_wp2
            exact ⟨⟨trivial, q + 1, by omega, by go_num, HNE2⟩, by simp [intOf]; omega⟩
        · obtain rfl : q = P.length := by omega
          have HL := hid_of (HN.out hNE.out)
          go_wp2
          exact ⟨⟨trivial, j, by omega, rfl, HL⟩, by simp [intOf] <;> omega⟩
end Go.Proofs.Ytdkcibafbdmajaa.E
