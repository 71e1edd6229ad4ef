/- What is proved here: laws and contracts of Tail, MathT, one behind the other (each says its own). -/
import Derived.Test.YtegkdgmpkfpjmaaDoorIter
import Derived.Test.YtegkdgmpkfpjmaaDoorBun1
/- What is proved here: contracts of utf.Tail and utf.Width. -/
namespace Go.Proofs.YtegkdgmpkfpjmaaDoor.U
open Go.RowKit Go.Shelf

/-- How many bytes at the end may be a rune's beginning, looked for from a place on. -/
def tailF (bs : List UInt8) : Nat → Nat → Nat
  | 0, _ => 0
  | f + 1, k => if k < bs.length then (if nextOpen (bs.drop k) = true then nextN (bs.drop k) else tailF bs f (k + 1)) else 0
def tailN (bs : List UInt8) : Nat := tailF bs 3 (bs.length - 3)
theorem tailF_on {bs : List UInt8} {k m : Nat} (h : k < bs.length) (ho : nextOpen (bs.drop k) = false) (hm : bs.length ≤ k + m) : tailF bs m k = tailF bs (m - 1) (k + 1) := by
  obtain ⟨f, rfl⟩ : ∃ f, m = f + 1 := ⟨m - 1, by omega⟩
  conv => lhs; unfold tailF
  rw [if_pos h, if_neg (by simp [ho])]; rfl
theorem tailF_yes {bs : List UInt8} {k m : Nat} (h : k < bs.length) (ho : nextOpen (bs.drop k) = true) (hm : bs.length ≤ k + m) : tailF bs m k = nextN (bs.drop k) := by
  obtain ⟨f, rfl⟩ : ∃ f, m = f + 1 := ⟨m - 1, by omega⟩
  unfold tailF
  rw [if_pos h, if_pos ho]
theorem tailF_end {bs : List UInt8} {k m : Nat} (h : ¬ k < bs.length) : tailF bs m k = 0 := by
  cases m with
  | zero => rfl
  | succ m => unfold tailF; rw [if_neg h]
theorem ret_i64 {a b : Int} (h : a = b) : Ending.returned (.int .i64 a) = .returned (.int .i64 b) := by rw [h]

end Go.Proofs.YtegkdgmpkfpjmaaDoor.U

/- What is proved here: plain facts on bytes: what is left open at the end is the last piece, wherever it is looked for. -/
namespace Go.Proofs.YtegkdgmpkfpjmaaDoor.U

theorem ok_cont {bs : List UInt8} {j : Nat} (hj : 1 ≤ j) (hl : 1 < lead (byteAt bs 0)) (h : okAt bs j = true) : lead (byteAt bs j) = 0 := by
  have hb : 128 ≤ byteAt bs j ∧ byteAt bs j ≤ 191 := by
    by_cases e : j = 1
    · subst e
      have h' : lo2 (byteAt bs 0) ≤ byteAt bs 1 ∧ byteAt bs 1 ≤ hi2 (byteAt bs 0) := by simpa [okAt, loAt, hiAt] using h
      have hc : 194 ≤ byteAt bs 0 ∧ byteAt bs 0 < 245 := by
        rcases lead_cases (byteAt bs 0) with ⟨a, e⟩ | ⟨a, b, e⟩ | ⟨a, b, e⟩ | ⟨a, b, e⟩ | ⟨a, b, e⟩ | ⟨a, e⟩ <;> omega
      have := second_ok hc.1 hc.2 h'.1 h'.2
      omega
    · have h' : 128 ≤ byteAt bs j ∧ byteAt bs j ≤ 191 := by simpa [okAt, loAt, hiAt, e] using h
      exact h'
  rcases lead_cases (byteAt bs j) with ⟨a, e⟩ | ⟨a, b, e⟩ | ⟨a, b, e⟩ | ⟨a, b, e⟩ | ⟨a, b, e⟩ | ⟨a, e⟩ <;> omega
/-- No first byte stands inside a piece. -/
theorem inside_zero (bs : List UInt8) (j : Nat) (h1 : 1 ≤ j) (h2 : j < nextN bs) : lead (byteAt bs j) = 0 := by
  by_cases hz : lead (byteAt bs 0) = 0
  · rw [nextN_zero bs hz] at h2; omega
  · have hle := nextN_le_lead bs hz
    refine ok_cont h1 (by omega) ?_
    exact scan_ok bs (lead (byteAt bs 0) - 1) 1 j h1 (by rw [← nextN_scan bs hz]; exact h2)
theorem open_facts {bs : List UInt8} (h : nextOpen bs = true) : nextN bs < lead (byteAt bs 0) ∧ nextN bs = bs.length := by simpa [nextOpen] using h

/-- What is open is the last piece. -/
theorem open_last (bs : List UInt8) (k : Nat) (hk : k < bs.length) (ho : nextOpen (bs.drop k) = true) : ∀ f k0, k0 ≤ k → bs.length ≤ k0 + f → ((pcsF bs.length k0 (bs.drop k0)).getLast?).map Pc.pos = some k
  | 0, k0, h, h' => by omega
  | f + 1, k0, h, h' => by
    obtain ⟨o1, o2⟩ := open_facts ho
    have hp := nextN_pos (bs.drop k0)
    simp only [List.length_drop] at o2
    rw [pcs_step bs k0 (by omega)]
    by_cases e : k = k0
    · subst e
      rw [pcs_end bs (k + nextN (bs.drop k)) (by omega)]
      simp
    · by_cases hin : k < k0 + nextN (bs.drop k0)
      · have := inside_zero (bs.drop k0) (k - k0) (by omega) (by omega)
        rw [byteAt_drop, show k0 + (k - k0) = k by omega] at this
        rw [byteAt_drop, Nat.add_zero, this] at o1
        omega
      · have ih := open_last bs k hk ho f (k0 + nextN (bs.drop k0)) (by omega) (by omega)
        rw [List.getLast?_cons]
        cases hg : (pcsF bs.length (k0 + nextN (bs.drop k0)) (bs.drop (k0 + nextN (bs.drop k0)))).getLast? with
        | none => rw [hg] at ih; simp at ih
        | some p => rw [hg] at ih; simpa using ih
/-- The last piece ends where the bytes do, and is read at its place. -/
theorem last_end (bs : List UInt8) : ∀ f k0, k0 < bs.length → bs.length ≤ k0 + f → ∃ p, (pcsF bs.length k0 (bs.drop k0)).getLast? = some p ∧ p.pos < bs.length ∧ p.sz = nextN (bs.drop p.pos) ∧ p.ok = nextAll (bs.drop p.pos) ∧ p.pos + p.sz = bs.length
  | 0, k0, h, h' => by omega
  | f + 1, k0, h, h' => by
    have hp := nextN_pos (bs.drop k0)
    have hl := nextN_len (bs.drop k0) (by simp; omega)
    simp only [List.length_drop] at hl
    rw [pcs_step bs k0 h]
    by_cases e : k0 + nextN (bs.drop k0) < bs.length
    · obtain ⟨p, hp1, hp2⟩ := last_end bs f _ e (by omega)
      refine ⟨p, ?_, hp2⟩
      rw [List.getLast?_cons, hp1]; rfl
    · rw [pcs_end bs _ (by omega)]
      exact ⟨_, rfl, h, rfl, rfl, by show k0 + nextN (bs.drop k0) = bs.length; omega⟩

/-- What the document's Tail makes of the last piece. -/
def tailR (bs : List UInt8) : Nat := match (pcs bs).getLast? with
  | none => 0
  | some p => if p.ok = true ∨ lead (byteAt (bs.drop p.pos) 0) = 0 then 0 else p.sz
theorem tailF_none {bs : List UInt8} (h : ∀ k, k < bs.length → nextOpen (bs.drop k) = false) : ∀ m k, tailF bs m k = 0
  | 0, _ => rfl
  | m + 1, k => by
    unfold tailF
    split
    · rename_i hk; rw [if_neg (by simp [h k hk])]; exact tailF_none h m _
    · rfl
theorem tailF_some {bs : List UInt8} {p : Nat} (hp : p < bs.length) (ho : nextOpen (bs.drop p) = true) (h : ∀ k, k < bs.length → nextOpen (bs.drop k) = true → k = p) : ∀ m k, k ≤ p → bs.length ≤ k + m → tailF bs m k = nextN (bs.drop p)
  | 0, k, h1, h2 => by omega
  | m + 1, k, h1, h2 => by
    by_cases e : k = p
    · subst e; exact tailF_yes hp ho (by omega)
    · have hn : nextOpen (bs.drop k) = false := by
        cases hh : nextOpen (bs.drop k) with
        | false => rfl
        | true => exact absurd (h k (by omega) hh) e
      rw [tailF_on (by omega) hn (by omega)]
      exact tailF_some hp ho h m (k + 1) (by omega) (by omega)
theorem tail_eq (bs : List UInt8) : tailN bs = tailR bs := by
  by_cases h0 : bs.length = 0
  · have e := List.length_eq_zero_iff.1 h0
    subst e; rfl
  · obtain ⟨p, hp, hlt, hsz, hok, hend⟩ := last_end bs bs.length 0 (by omega) (by omega)
    rw [List.drop_zero] at hp
    have huniq : ∀ k, k < bs.length → nextOpen (bs.drop k) = true → k = p.pos := fun k hk ho => by
      have := open_last bs k hk ho bs.length 0 (by omega) (by omega)
      rw [List.drop_zero, hp] at this
      simpa using this.symm
    have hlen : nextN (bs.drop p.pos) = (bs.drop p.pos).length := by rw [List.length_drop, ← hsz]; omega
    unfold tailR pcs
    rw [hp]
    simp only
    cases ho : nextOpen (bs.drop p.pos) with
    | true =>
      obtain ⟨o1, _⟩ := open_facts ho
      have hle := nextN_lead (bs.drop p.pos)
      have hL := lead_le (byteAt (bs.drop p.pos) 0)
      unfold tailN
      rw [tailF_some hlt ho huniq 3 _ (by rw [List.length_drop] at hlen; omega) (by omega)]
      rw [if_neg, hsz]
      rintro (a | a)
      · rw [hok] at a; have : nextN (bs.drop p.pos) = lead (byteAt (bs.drop p.pos) 0) := by simpa [nextAll] using a
        omega
      · omega
    | false =>
      unfold tailN
      rw [tailF_none (fun k hk => by
        cases hh : nextOpen (bs.drop k) with
        | false => rfl
        | true => rw [huniq k hk hh, ho] at hh; cases hh)]
      rw [if_pos]
      by_cases hz : lead (byteAt (bs.drop p.pos) 0) = 0
      · exact .inr hz
      · have hle := nextN_le_lead _ hz
        left
        rw [hok]
        have hno : ¬ (nextN (bs.drop p.pos) < lead (byteAt (bs.drop p.pos) 0)) := fun a => by
          have : nextOpen (bs.drop p.pos) = true := by simp only [nextOpen, Bool.and_eq_true, decide_eq_true_eq]; exact ⟨a, hlen⟩
          rw [ho] at this; cases this
        simp only [nextAll, decide_eq_true_eq]; omega

end Go.Proofs.YtegkdgmpkfpjmaaDoor.U
