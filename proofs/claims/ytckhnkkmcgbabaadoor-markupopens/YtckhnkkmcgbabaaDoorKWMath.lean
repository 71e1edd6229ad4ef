/- What is proved here: plain facts for the program's Whole: what is said rune by rune, and reading up to each closing sign. -/
import Derived.Lib.Bytealg
import Derived.Test.YtckhnkkmcgbabaaDoorKMath
namespace Go.Proofs.YtckhnkkmcgbabaaDoor.K
open Go.RowKit Go.Shelf Go.Proofs.YtckhnkkmcgbabaaDoor.U

/-- All that runes make said. -/
def sayAll : Nat → List Int → List Int
  | _, [] => []
  | q, z :: l => says q z ++ sayAll (dl q (cl z)) l
theorem sayAll_append : ∀ (l m : List Int) (q : Nat), sayAll q (l ++ m) = sayAll q l ++ sayAll (run q l) m
  | [], _, _ => rfl
  | z :: l, m, q => by rw [List.cons_append, sayAll, sayAll, sayAll_append l m, run_cons, List.append_assoc]
theorem sayAll_snoc (l : List Int) (z : Int) (q : Nat) : sayAll q (l ++ [z]) = sayAll q l ++ says (run q l) z := by rw [sayAll_append]; simp [sayAll]
theorem sayAll_said {q : Nat} (hq : isQ q) (hp : pb q = []) : ∀ n (l : List Int), l.length = n → run q l ≠ 9 → sayAll q l = said (run q l) l
  | 0, l, hl, _ => by
    obtain rfl : l = [] := List.length_eq_zero_iff.1 hl
    simp [sayAll, said]
  | n + 1, l, hl, h9 => by
    obtain ⟨m, z, rfl⟩ : ∃ m z, l = m ++ [z] := ⟨l.dropLast, l.getLast (by intro h; rw [h] at hl; cases hl), (List.dropLast_concat_getLast _).symm⟩
    rw [run_snoc] at h9 ⊢
    have hm : run q m ≠ 9 := fun h => h9 (by rw [h, dl_nine])
    have hml : m.length = n := by simpa using hl
    rw [sayAll_snoc, sayAll_said hq hp n m hml hm, says_on (run_isQ _ _ hq) (tail_run hq hp n m hml hm) h9]
theorem says_len (q : Nat) (z : Int) : (says q z).length ≤ 4 := by
  unfold says; repeat' split
  all_goals simp
theorem sayAll_len : ∀ (l : List Int) (q : Nat), (sayAll q l).length ≤ 4 * l.length
  | [], _ => by simp [sayAll]
  | z :: l, q => by
    have h1 := says_len q z
    have h2 := sayAll_len l (dl q (cl z))
    simp only [sayAll, List.length_append, List.length_cons]
    omega
theorem one_iff : ∀ (l : List Int), run 1 l = 9 ↔ (62 : Int) ∈ l
  | [] => by simp [run_nil]
  | z :: l => by
    rw [run_cons]
    have e : dl 1 (cl z) = if cl z = 3 then 9 else 1 := rfl
    rcases cl_cases z with ⟨rfl, k⟩ | ⟨rfl, k⟩ | ⟨rfl, k⟩ | ⟨h1, h2, h3, k⟩ <;> rw [e, k]
    · simp only [show ¬ (1 : Nat) = 3 by decide, if_false, one_iff l]; simp
    · simp only [show ¬ (2 : Nat) = 3 by decide, if_false, one_iff l]; simp
    · simp [run_nine]
    · simp only [show ¬ (0 : Nat) = 3 by decide, if_false, one_iff l]
      simp only [List.mem_cons]
      constructor
      · exact .inr
      · rintro (h | h)
        · exact absurd h.symm h3
        · exact h
theorem mem_zs (bs : List UInt8) : (62 : Int) ∈ zs bs ↔ (62 : UInt8) ∈ bs := by
  simp only [zs, List.mem_map]
  constructor
  · rintro ⟨b, hb, h⟩
    have : b = 62 := UInt8.toNat_inj.1 (by have : (62 : UInt8).toNat = 62 := rfl
                                           omega)
    rwa [this] at hb
  · intro h; exact ⟨62, h, rfl⟩
/-- The closing sign is a rune just where it is a byte. -/
theorem mem_runes (bs : List UInt8) : (62 : Int) ∈ runesI bs ↔ (62 : UInt8) ∈ bs := by
  rw [← one_iff, ← run_bytes ⟨by omega, by omega⟩, one_iff, mem_zs]
theorem run_not : ∀ (l : List Int) (q : Nat), isQ q → q ≠ 9 → (62 : Int) ∉ l → run q l ≠ 9
  | [], _, _, h, _ => h
  | z :: l, q, hq, h9, hm => by
    rw [run_cons]
    refine run_not l _ (dl_isQ _ _) (fun h => ?_) (fun h => hm (by simp [h]))
    have := nine_cl hq h9 h
    rcases cl_cases z with ⟨_, k⟩ | ⟨_, k⟩ | ⟨rfl, k⟩ | ⟨_, _, _, k⟩
    · omega
    · omega
    · exact hm (by simp)
    · omega

/-- How many bytes there are up to the first closing sign, with it. -/
def upTo : List UInt8 → Nat
  | [] => 0
  | b :: t => if b = 62 then 1 else upTo t + 1
theorem upTo_le : ∀ l : List UInt8, upTo l ≤ l.length
  | [] => Nat.le_refl _
  | b :: t => by unfold upTo; split
                 · simp
                 · have := upTo_le t; simp; omega
theorem upTo_index : ∀ l : List UInt8, (Lib.indexByte l 62 = -1 ∧ upTo l = l.length) ∨ (Lib.indexByte l 62 = (upTo l : Int) - 1 ∧ 1 ≤ upTo l)
  | [] => .inl ⟨rfl, rfl⟩
  | b :: t => by
    unfold Lib.indexByte upTo
    by_cases h : b = 62
    · subst h; exact .inr ⟨rfl, by simp⟩
    · have hb : (b == 62) = false := by simpa using h
      rw [hb, if_neg h]
      rcases upTo_index t with ⟨h1, h2⟩ | ⟨h1, h2⟩
      · rw [h1]; exact .inl ⟨rfl, by simp [h2]⟩
      · rw [h1]
        have : ((upTo t : Int) - 1 == -1) = false := by simp; omega
        rw [this]
        exact .inr ⟨by simp, by omega⟩
theorem upTo_cases : ∀ l : List UInt8, (∃ X, l.take (upTo l) = X ++ [62] ∧ (62 : UInt8) ∉ X) ∨ (l.take (upTo l) = l ∧ (62 : UInt8) ∉ l)
  | [] => .inr ⟨rfl, by simp⟩
  | b :: t => by
    unfold upTo
    by_cases h : b = 62
    · rw [if_pos h, h]; exact .inl ⟨[], rfl, by simp⟩
    · rw [if_neg h]
      rcases upTo_cases t with ⟨X, h1, h2⟩ | ⟨h1, h2⟩
      · exact .inl ⟨b :: X, by simp [h1], by simp; exact ⟨fun e => h e.symm, h2⟩⟩
      · exact .inr ⟨by simp [h1], by simp; exact ⟨fun e => h e.symm, h2⟩⟩
theorem upTo_pos (l : List UInt8) (h : 0 < l.length) : 0 < upTo l := by
  cases l with
  | nil => simp at h
  | cons b t => unfold upTo; split <;> omega

/-- Bytes behind which the runes begin anew. -/
def Cut (X : List UInt8) : Prop := ∀ Y, runesI (X ++ Y) = runesI X ++ runesI Y
theorem cut_nil : Cut [] := fun _ => rfl
theorem cut_behind (X : List UInt8) : Cut (X ++ [62]) := fun Y => runesI_behind X Y 62 (by decide)
theorem start_one (kind : Int) (h0 : 0 ≤ kind) (h2 : kind ≤ 2) (l : List Int) (h9 : run (start kind) l ≠ 9) : run (start kind) l = 1 ↔ kind = 1 := by
  have hk : kind = 0 ∨ kind = 1 ∨ kind = 2 := by omega
  rcases hk with rfl | rfl | rfl
  · have : Q3 (run 3 l) := run_Q3 l 3 ⟨by omega, by omega⟩
    show run 3 l = 1 ↔ _
    have := this.1
    omega
  · have : ∀ (l : List Int), run 1 l = 1 ∨ run 1 l = 9 := by
      intro l
      induction l with
      | nil => exact .inl rfl
      | cons z l ih =>
        rw [run_cons]
        have e : dl 1 (cl z) = if cl z = 3 then 9 else 1 := rfl
        rw [e]
        split
        · exact .inr (run_nine l)
        · exact ih
    rcases this l with h | h
    · exact ⟨fun _ => rfl, fun _ => h⟩
    · exact absurd h h9
  · have : ∀ (l : List Int), run 2 l = 2 ∨ run 2 l = 9 := by
      intro l
      induction l with
      | nil => exact .inl rfl
      | cons z l ih =>
        rw [run_cons]
        have e : dl 2 (cl z) = if cl z = 3 then 9 else 2 := rfl
        rw [e]
        split
        · exact .inr (run_nine l)
        · exact ih
    show run 2 l = 1 ↔ _
    rcases this l with h | h <;> rw [h] <;> decide
theorem sayAll_text (kind : Int) (h0 : 0 ≤ kind) (h2 : kind ≤ 2) (Z : List UInt8) (h9 : run (start kind) (zs Z) ≠ 9) :
    sayAll (start kind) (runesI Z) = runesI (if kind = 1 then [] else Z.take (Z.length - pend (run (start kind) (zs Z)))) := by
  have h9' : run (start kind) (runesI Z) ≠ 9 := by rw [← run_bytes (start_isQ kind)]; exact h9
  rw [sayAll_said (start_isQ kind) (start_pb kind) _ _ rfl h9', ← run_bytes (start_isQ kind), said_bytes (start_isQ kind) (start_pb kind) Z h9]
  have h1 := start_one kind h0 h2 (zs Z) h9
  by_cases hk : kind = 1
  · rw [if_pos (h1.2 hk), if_pos hk]; rfl
  · rw [if_neg (fun e => hk (h1.1 e)), if_neg hk]
/-- Where nothing closes it. -/
theorem whole_open (kind : Int) (h0 : 0 ≤ kind) (h2 : kind ≤ 2) (bs : List UInt8) (h9 : run (start kind) (zs bs) ≠ 9) :
    wN kind bs = bs.length ∧ wC kind bs = false ∧ sayAll (start kind) (runesI bs) = runesI (wText kind bs) := by
  have he : endK kind bs = none := by rw [← endK_R]; exact R_none _ _ _ h9
  refine ⟨by unfold wN; rw [he], by unfold wC; rw [he]; rfl, ?_⟩
  rw [sayAll_text kind h0 h2 bs h9]
  unfold wText wTo
  rw [he]
/-- Where a sign closes it. -/
theorem whole_closed (kind : Int) (h0 : 0 ≤ kind) (h2 : kind ≤ 2) (bs Z : List UInt8) (k : Nat) (hk : k ≤ bs.length) (hZ : bs.take k = Z ++ [62]) (hn : run (start kind) (zs Z) ≠ 9) (h9 : run (start kind) (zs (bs.take k)) = 9) :
    wN kind bs = k ∧ wC kind bs = true ∧ sayAll (start kind) (runesI (bs.take k)) = runesI (wText kind bs) := by
  have hc : dl (run (start kind) (zs Z)) (cl 62) = 9 := by
    rw [hZ, zs_append, run_append] at h9
    exact h9
  have hbs : bs = Z ++ 62 :: bs.drop k := by
    conv => lhs; rw [← List.take_append_drop k bs, hZ]
    simp
  have hkl : k = Z.length + 1 := by
    have h := congrArg List.length hZ
    simp only [List.length_take, List.length_append, List.length_cons, List.length_nil] at h
    omega
  have he : endK kind bs = some (Z.length - pend (run (start kind) (zs Z)), k) := by
    rw [← endK_R]
    conv => lhs; rw [hbs, zs_append, zs_cons]
    rw [show ((62 : UInt8).toNat : Int) = 62 from rfl, R_close (zs Z) (start kind) 0 62 _ hn hc, zs_length]
    simp only [Nat.zero_add]
    rw [hkl]
  refine ⟨by unfold wN; rw [he], by unfold wC; rw [he]; rfl, ?_⟩
  have hr : runesI (Z ++ [62]) = runesI Z ++ [62] := by
    rw [runesI_append Z [62] (.inr (by decide))]; rfl
  have hs : says (run (start kind) (runesI Z)) 62 = [] := says_nine (run_isQ _ _ (start_isQ kind)) (by rw [← run_bytes (start_isQ kind)]; exact hc)
  rw [hZ, hr, sayAll_snoc, hs, List.append_nil, sayAll_text kind h0 h2 Z hn]
  unfold wText wTo
  rw [he]
  have : bs.take (Z.length - pend (run (start kind) (zs Z))) = Z.take (Z.length - pend (run (start kind) (zs Z))) := by
    rw [hbs, List.take_append_of_le_length (by omega)]
  simp only [this]
/-- **One piece more**: what reading up to the next closing sign does. -/
theorem piece_step (kind : Int) (h0 : 0 ≤ kind) (h2 : kind ≤ 2) (bs P : List UInt8) (k : Nat) (hk : k < bs.length) (hP : P = (bs.drop k).take (upTo (bs.drop k))) (hcut : Cut (bs.take k)) (h9 : run (start kind) (runesI (bs.take k)) ≠ 9) :
    0 < P.length ∧ k + P.length ≤ bs.length ∧ bs.take (k + P.length) = bs.take k ++ P ∧ runesI (bs.take (k + P.length)) = runesI (bs.take k) ++ runesI P ∧
    (∀ pre rest, runesI P = pre ++ rest → rest ≠ [] → run (start kind) (runesI (bs.take k) ++ pre) ≠ 9) ∧
    (Cut (bs.take (k + P.length)) ∨ k + P.length = bs.length) ∧
    (run (start kind) (runesI (bs.take (k + P.length))) = 9 → wN kind bs = k + P.length ∧ wC kind bs = true ∧ sayAll (start kind) (runesI (bs.take (k + P.length))) = runesI (wText kind bs)) := by
  have hd : 0 < (bs.drop k).length := by simp; omega
  have hu := upTo_le (bs.drop k)
  have hu0 := upTo_pos (bs.drop k) hd
  have hPl : P.length = upTo (bs.drop k) := by rw [hP, List.length_take]; omega
  have hdl : (bs.drop k).length = bs.length - k := by simp
  have ht : bs.take (k + P.length) = bs.take k ++ P := by rw [hPl, List.take_add, ← hP]
  have hr : runesI (bs.take (k + P.length)) = runesI (bs.take k) ++ runesI P := by rw [ht]; exact hcut P
  have hq := start_isQ kind
  have key : (∀ pre rest, runesI P = pre ++ rest → rest ≠ [] → run (start kind) (runesI (bs.take k) ++ pre) ≠ 9) := by
    intro pre rest he hne
    rw [run_append]
    refine run_not pre _ (run_isQ _ _ hq) h9 (fun hm => ?_)
    rcases upTo_cases (bs.drop k) with ⟨X, e1, e2⟩ | ⟨e1, e2⟩
    · have e3 : runesI P = runesI X ++ [62] := by
        rw [hP, e1, runesI_append X [62] (.inr (by decide))]; rfl
      obtain ⟨m, z, rfl⟩ : ∃ m z, rest = m ++ [z] := ⟨rest.dropLast, rest.getLast hne, (List.dropLast_concat_getLast _).symm⟩
      rw [he, ← List.append_assoc] at e3
      have e4 := (List.append_inj' e3 rfl).1
      exact e2 ((mem_runes X).1 (by rw [← e4]; simp [hm]))
    · have : (62 : Int) ∈ runesI P := by rw [he]; simp [hm]
      rw [mem_runes, hP, e1] at this
      exact e2 this
  refine ⟨by omega, by omega, ht, hr, key, ?_, ?_⟩
  · rcases upTo_cases (bs.drop k) with ⟨X, e1, e2⟩ | ⟨e1, e2⟩
    · left
      rw [ht, hP, e1, ← List.append_assoc]
      exact cut_behind _
    · right
      have := congrArg List.length e1
      rw [← hP] at this
      omega
  · intro hc
    rcases upTo_cases (bs.drop k) with ⟨X, e1, e2⟩ | ⟨e1, e2⟩
    · have hZ : bs.take (k + P.length) = (bs.take k ++ X) ++ [62] := by rw [ht, hP, e1, List.append_assoc]
      have hn : run (start kind) (zs (bs.take k ++ X)) ≠ 9 := by
        rw [run_bytes hq, hcut X, run_append]
        exact run_not _ _ (run_isQ _ _ hq) h9 (fun h => e2 ((mem_runes X).1 h))
      exact whole_closed kind h0 h2 bs _ _ (by omega) hZ hn (by rw [run_bytes hq]; exact hc)
    · exfalso
      rw [hr, run_append] at hc
      refine run_not _ _ (run_isQ _ _ hq) h9 (fun h => ?_) hc
      rw [mem_runes, hP, e1] at h
      exact e2 h
end Go.Proofs.YtckhnkkmcgbabaaDoor.K
