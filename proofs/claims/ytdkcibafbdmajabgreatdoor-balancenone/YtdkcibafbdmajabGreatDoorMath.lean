/- What is proved here: plain facts on lists of bytes: how bytes are read as runes by the longest good beginning, with no program in sight. -/
import Derived.Lib.DecodeN
namespace Go.Proofs.YtdkcibafbdmajabGreatDoor.U

/-- The byte at a place (0 beyond the end), as a number. -/
def byteAt (bs : List UInt8) (k : Nat) : Nat := (bs[k]?.getD 0).toNat
theorem byteAt_lt (bs : List UInt8) (k : Nat) : byteAt bs k < 256 := UInt8.toNat_lt _
theorem byteAt_drop (bs : List UInt8) (k j : Nat) : byteAt (bs.drop k) j = byteAt bs (k + j) := by simp [byteAt]

/-- How many bytes a character has that begins with c; 0: none does. -/
def lead (c : Nat) : Nat := if c < 128 then 1 else if c < 194 then 0 else if c < 224 then 2 else if c < 240 then 3 else if c < 245 then 4 else 0
def lo2 (c : Nat) : Nat := if c < 194 then 0 else if c = 224 then 160 else if c = 240 then 144 else if c < 245 then 128 else 0
def hi2 (c : Nat) : Nat := if c < 194 then 0 else if c = 237 then 159 else if c = 244 then 143 else if c < 245 then 191 else 0
theorem lead_le (c : Nat) : lead c ≤ 4 := by unfold lead; repeat' split
                                             all_goals omega
/-- The bounds of the byte at k, k ≥ 1. -/
def loAt (bs : List UInt8) (k : Nat) : Nat := if k = 1 then lo2 (byteAt bs 0) else 128
def hiAt (bs : List UInt8) (k : Nat) : Nat := if k = 1 then hi2 (byteAt bs 0) else 191
theorem loAt_two (bs : List UInt8) (k : Nat) (h : 1 ≤ k) : loAt bs (k + 1) = 128 := by unfold loAt; rw [if_neg (by omega)]
theorem hiAt_two (bs : List UInt8) (k : Nat) (h : 1 ≤ k) : hiAt bs (k + 1) = 191 := by unfold hiAt; rw [if_neg (by omega)]
theorem loAt_lt (bs : List UInt8) (k : Nat) : loAt bs k < 256 := by unfold loAt lo2; repeat' split
                                                                    all_goals omega
theorem hiAt_lt (bs : List UInt8) (k : Nat) : hiAt bs k < 256 := by unfold hiAt hi2; repeat' split
                                                                    all_goals omega
/-- May the byte at k go on? -/
def okAt (bs : List UInt8) (k : Nat) : Bool := decide (loAt bs k ≤ byteAt bs k) && decide (byteAt bs k ≤ hiAt bs k)

def scan (bs : List UInt8) : Nat → Nat → Nat
  | 0, k => k
  | f + 1, k => if k < bs.length ∧ okAt bs k = true then scan bs f (k + 1) else k
theorem scan_ge (bs : List UInt8) : ∀ f k, k ≤ scan bs f k
  | 0, k => Nat.le_refl _
  | f + 1, k => by unfold scan; split
                   · exact Nat.le_trans (Nat.le_succ k) (scan_ge bs f (k + 1))
                   · exact Nat.le_refl _
theorem scan_le (bs : List UInt8) : ∀ f k, scan bs f k ≤ k + f
  | 0, k => Nat.le_refl _
  | f + 1, k => by unfold scan; split
                   · have := scan_le bs f (k + 1); omega
                   · omega
theorem scan_len (bs : List UInt8) : ∀ f k, k ≤ bs.length → scan bs f k ≤ bs.length
  | 0, k, h => h
  | f + 1, k, h => by unfold scan; split
                      · exact scan_len bs f (k + 1) (by omega)
                      · exact h
theorem scan_ok (bs : List UInt8) : ∀ f k j, k ≤ j → j < scan bs f k → okAt bs j = true
  | 0, k, j, h, h' => by unfold scan at h'; omega
  | f + 1, k, j, h, h' => by
    unfold scan at h'
    split at h'
    · by_cases e : j = k
      · subst e; rename_i hk; exact hk.2
      · exact scan_ok bs f (k + 1) j (by omega) h'
    · omega

/-- The longest good beginning: how many bytes it has. -/
def glen (bs : List UInt8) : Nat := if lead (byteAt bs 0) = 0 then 0 else scan bs (lead (byteAt bs 0) - 1) 1
/-- How many bytes one step of reading takes. -/
def nextN (bs : List UInt8) : Nat := if lead (byteAt bs 0) = 0 then 1 else scan bs (lead (byteAt bs 0) - 1) 1
/-- Is it all of a character's? -/
def nextAll (bs : List UInt8) : Bool := decide (nextN bs = lead (byteAt bs 0))
/-- Did the bytes run out inside a good beginning? -/
def nextOpen (bs : List UInt8) : Bool := decide (nextN bs < lead (byteAt bs 0)) && decide (nextN bs = bs.length)
def runeOf (bs : List UInt8) : Nat :=
  if lead (byteAt bs 0) = 1 then byteAt bs 0
  else if lead (byteAt bs 0) = 2 then byteAt bs 0 % 32 * 64 + byteAt bs 1 % 64
  else if lead (byteAt bs 0) = 3 then byteAt bs 0 % 16 * 4096 + byteAt bs 1 % 64 * 64 + byteAt bs 2 % 64
  else byteAt bs 0 % 8 * 262144 + byteAt bs 1 % 64 * 4096 + byteAt bs 2 % 64 * 64 + byteAt bs 3 % 64
/-- Its rune. -/
def nextR (bs : List UInt8) : Nat := if nextAll bs = true then runeOf bs else 65533

theorem nextN_pos (bs : List UInt8) : 1 ≤ nextN bs := by
  unfold nextN; split
  · omega
  · exact scan_ge _ _ _
theorem nextN_len (bs : List UInt8) (h : 0 < bs.length) : nextN bs ≤ bs.length := by
  unfold nextN; split
  · omega
  · exact scan_len _ _ _ (by omega)
theorem nextN_lead (bs : List UInt8) : nextN bs ≤ 4 := by
  unfold nextN; split
  · omega
  · have := scan_le bs (lead (byteAt bs 0) - 1) 1; have := lead_le (byteAt bs 0); omega
theorem nextN_zero (bs : List UInt8) (h : lead (byteAt bs 0) = 0) : nextN bs = 1 := by unfold nextN; rw [if_pos h]
theorem nextN_scan (bs : List UInt8) (h : lead (byteAt bs 0) ≠ 0) : nextN bs = scan bs (lead (byteAt bs 0) - 1) 1 := by unfold nextN; rw [if_neg h]
theorem nextN_le_lead (bs : List UInt8) (h : lead (byteAt bs 0) ≠ 0) : nextN bs ≤ lead (byteAt bs 0) := by
  rw [nextN_scan bs h]; have := scan_le bs (lead (byteAt bs 0) - 1) 1; omega
/-- The loop's three ways out, and its one way on. -/
theorem scan_on {bs : List UInt8} {n k : Nat} (hk : k < n) (hl : k < bs.length) (ho : okAt bs k = true) : scan bs (n - k) k = scan bs (n - (k + 1)) (k + 1) := by
  obtain ⟨f, hf⟩ : ∃ f, n - k = f + 1 := ⟨n - k - 1, by omega⟩
  rw [hf, show n - (k + 1) = f by omega]; conv => lhs; unfold scan
  rw [if_pos ⟨hl, ho⟩]
theorem scan_out {bs : List UInt8} {n k : Nat} (h : ¬ (k < n) ∨ ¬ (k < bs.length) ∨ okAt bs k = false) : scan bs (n - k) k = k := by
  by_cases hk : k < n
  · obtain ⟨f, hf⟩ : ∃ f, n - k = f + 1 := ⟨n - k - 1, by omega⟩
    rw [hf]; unfold scan
    rw [if_neg]
    rintro ⟨a, b⟩
    rcases h with h | h | h
    · exact h hk
    · exact h a
    · rw [h] at b; cases b
  · rw [show n - k = 0 by omega]; rfl

theorem lead_cases (c : Nat) : (c < 128 ∧ lead c = 1) ∨ (128 ≤ c ∧ c < 194 ∧ lead c = 0) ∨ (194 ≤ c ∧ c < 224 ∧ lead c = 2) ∨ (224 ≤ c ∧ c < 240 ∧ lead c = 3) ∨ (240 ≤ c ∧ c < 245 ∧ lead c = 4) ∨ (245 ≤ c ∧ lead c = 0) := by
  unfold lead; repeat' split
  all_goals omega
theorem second_ok {c d : Nat} (h : 194 ≤ c) (h' : c < 245) (l : lo2 c ≤ d) (u : d ≤ hi2 c) : 128 ≤ d ∧ d ≤ 191 ∧ (c = 224 → 160 ≤ d) ∧ (c = 237 → d ≤ 159) ∧ (c = 240 → 144 ≤ d) ∧ (c = 244 → d ≤ 143) := by
  unfold lo2 at l; unfold hi2 at u
  repeat' split at l
  all_goals repeat' split at u
  all_goals omega

/-- A whole character's bytes decode, by the model's own way, to its rune. -/
theorem decode_all {bs : List UInt8} (h : nextAll bs = true) :
    Lib.decodeN (lead (byteAt bs 0)) (byteAt bs 0) (byteAt bs 1) (byteAt bs 2) (byteAt bs 3) = (runeOf bs, lead (byteAt bs 0)) := by
  have hn : nextN bs = lead (byteAt bs 0) := by simpa [nextAll] using h
  have h0 : lead (byteAt bs 0) ≠ 0 := by have := nextN_pos bs; omega
  have hk : ∀ j, 1 ≤ j → j < lead (byteAt bs 0) → okAt bs j = true := fun j a b => scan_ok bs (lead (byteAt bs 0) - 1) 1 j a (by rw [← nextN_scan bs h0, hn]; exact b)
  have k1 : 1 < lead (byteAt bs 0) → lo2 (byteAt bs 0) ≤ byteAt bs 1 ∧ byteAt bs 1 ≤ hi2 (byteAt bs 0) := fun b => by simpa [okAt, loAt, hiAt] using hk 1 (by omega) b
  have k2 : 2 < lead (byteAt bs 0) → 128 ≤ byteAt bs 2 ∧ byteAt bs 2 ≤ 191 := fun b => by simpa [okAt, loAt, hiAt] using hk 2 (by omega) b
  have k3 : 3 < lead (byteAt bs 0) → 128 ≤ byteAt bs 3 ∧ byteAt bs 3 ≤ 191 := fun b => by simpa [okAt, loAt, hiAt] using hk 3 (by omega) b
  unfold runeOf
  generalize byteAt bs 0 = b0 at *
  generalize byteAt bs 1 = b1 at *
  generalize byteAt bs 2 = b2 at *
  generalize byteAt bs 3 = b3 at *
  clear hk hn h
  rcases lead_cases b0 with ⟨c, e⟩ | ⟨c, c', e⟩ | ⟨c, c', e⟩ | ⟨c, c', e⟩ | ⟨c, c', e⟩ | ⟨c, e⟩
  · rw [e]; unfold Lib.decodeN; rw [if_pos c, if_pos rfl]
  · exact absurd e h0
  · rw [e] at k1 ⊢
    obtain ⟨a, b⟩ := k1 (by omega)
    have s := second_ok c (by omega) a b
    clear k1 k2 k3 a b
    unfold Lib.decodeN
    rw [if_neg (by omega), if_pos (by omega), if_pos (by omega)]
    rw [if_neg (by omega), if_pos rfl]
  · rw [e] at k1 k2 ⊢
    obtain ⟨a, b⟩ := k1 (by omega)
    have s := second_ok (by omega) (by omega) a b
    have t := k2 (by omega)
    clear k1 k2 k3 a b
    unfold Lib.decodeN
    rw [if_neg (by omega), if_neg (by omega), if_pos (by omega), if_pos (by omega)]
    rw [if_neg (by omega), if_neg (by omega), if_pos rfl]
  · rw [e] at k1 k2 k3 ⊢
    obtain ⟨a, b⟩ := k1 (by omega)
    have s := second_ok (by omega) (by omega) a b
    have t := k2 (by omega)
    have u := k3 (by omega)
    clear k1 k2 k3 a b
    unfold Lib.decodeN
    rw [if_neg (by omega), if_neg (by omega), if_neg (by omega), if_pos (by omega), if_pos (by omega)]
    rw [if_neg (by omega), if_neg (by omega), if_neg (by omega)]
  · exact absurd e h0

/-- The runes with their places, read from a place on. -/
def toksF : Nat → Nat → List UInt8 → List (Nat × Nat)
  | 0, _, _ => []
  | f + 1, at0, bs => if bs.length = 0 then [] else (at0, nextR bs) :: toksF f (at0 + nextN bs) (bs.drop (nextN bs))
def toks (bs : List UInt8) : List (Nat × Nat) := toksF bs.length 0 bs
def runes (bs : List UInt8) : List Nat := (toks bs).map Prod.snd
theorem toksF_fuel : ∀ f g at0 (bs : List UInt8), bs.length ≤ f → bs.length ≤ g → toksF f at0 bs = toksF g at0 bs
  | 0, 0, _, _, _, _ => rfl
  | 0, g + 1, at0, bs, h, _ => by have : bs.length = 0 := by omega
                                  simp [toksF, this]
  | f + 1, 0, at0, bs, _, h => by have : bs.length = 0 := by omega
                                  simp [toksF, this]
  | f + 1, g + 1, at0, bs, hf, hg => by
    unfold toksF
    split
    · rfl
    · have := nextN_pos bs
      rw [toksF_fuel f g _ _ (by simp; omega) (by simp; omega)]
/-- One step more. -/
theorem toks_step (bs : List UInt8) (k : Nat) (hk : k < bs.length) : toksF bs.length k (bs.drop k) = (k, nextR (bs.drop k)) :: toksF bs.length (k + nextN (bs.drop k)) (bs.drop (k + nextN (bs.drop k))) := by
  obtain ⟨f, hf⟩ : ∃ f, bs.length = f + 1 := ⟨bs.length - 1, by omega⟩
  have hp := nextN_pos (bs.drop k)
  conv => lhs; rw [hf]; unfold toksF
  rw [if_neg (by simp; omega)]
  rw [List.drop_drop, toksF_fuel f bs.length _ _ (by simp; omega) (by simp)]
theorem toks_end (bs : List UInt8) (k : Nat) (hk : bs.length ≤ k) (f : Nat) : toksF f k (bs.drop k) = [] := by
  cases f with
  | zero => rfl
  | succ f => unfold toksF; rw [if_pos (by simp; omega)]
theorem toksF_length : ∀ f at0 (bs : List UInt8), (toksF f at0 bs).length ≤ bs.length
  | 0, _, _ => by simp [toksF]
  | f + 1, at0, bs => by
    unfold toksF
    split
    · simp
    · have := nextN_pos bs
      have h := toksF_length f (at0 + nextN bs) (bs.drop (nextN bs))
      simp at h ⊢
      omega
theorem toks_length (bs : List UInt8) : (toks bs).length ≤ bs.length := toksF_length _ _ _

/-- A rune of bytes: itself, where it begins, of how many bytes, and whether they are right. -/
structure Pc where
  r : Nat
  pos : Nat
  sz : Nat
  ok : Bool
def pcsF : Nat → Nat → List UInt8 → List Pc
  | 0, _, _ => []
  | f + 1, at0, bs => if bs.length = 0 then [] else ⟨nextR bs, at0, nextN bs, nextAll bs⟩ :: pcsF f (at0 + nextN bs) (bs.drop (nextN bs))
def pcs (bs : List UInt8) : List Pc := pcsF bs.length 0 bs
theorem toksF_pcs : ∀ f at0 (bs : List UInt8), toksF f at0 bs = (pcsF f at0 bs).map fun p => (p.pos, p.r)
  | 0, _, _ => rfl
  | f + 1, at0, bs => by
    unfold toksF pcsF
    split
    · rfl
    · rw [toksF_pcs f]; rfl
theorem toks_pcs (bs : List UInt8) : toks bs = (pcs bs).map fun p => (p.pos, p.r) := toksF_pcs _ _ _
theorem runes_pcs (bs : List UInt8) : runes bs = (pcs bs).map Pc.r := by unfold runes; rw [toks_pcs]; simp
theorem pcs_length (bs : List UInt8) : (pcs bs).length ≤ bs.length := by have := toks_length bs; rw [toks_pcs] at this; simpa using this
theorem pcsF_fuel : ∀ f g at0 (bs : List UInt8), bs.length ≤ f → bs.length ≤ g → pcsF f at0 bs = pcsF g at0 bs
  | 0, 0, _, _, _, _ => rfl
  | 0, g + 1, at0, bs, h, _ => by have : bs.length = 0 := by omega
                                  simp [pcsF, this]
  | f + 1, 0, at0, bs, _, h => by have : bs.length = 0 := by omega
                                  simp [pcsF, this]
  | f + 1, g + 1, at0, bs, hf, hg => by
    unfold pcsF
    split
    · rfl
    · have := nextN_pos bs
      rw [pcsF_fuel f g _ _ (by simp; omega) (by simp; omega)]
theorem pcs_step (bs : List UInt8) (k : Nat) (hk : k < bs.length) : pcsF bs.length k (bs.drop k) = ⟨nextR (bs.drop k), k, nextN (bs.drop k), nextAll (bs.drop k)⟩ :: pcsF bs.length (k + nextN (bs.drop k)) (bs.drop (k + nextN (bs.drop k))) := by
  obtain ⟨f, hf⟩ : ∃ f, bs.length = f + 1 := ⟨bs.length - 1, by omega⟩
  have hp := nextN_pos (bs.drop k)
  conv => lhs; rw [hf]; unfold pcsF
  rw [if_neg (by simp; omega)]
  rw [List.drop_drop, pcsF_fuel f bs.length _ _ (by simp; omega) (by simp)]
theorem pcs_end (bs : List UInt8) (k : Nat) (hk : bs.length ≤ k) (f : Nat) : pcsF f k (bs.drop k) = [] := by
  cases f with
  | zero => rfl
  | succ f => unfold pcsF; rw [if_pos (by simp; omega)]

/-- The rune of a character's bytes, put together byte by byte. -/
def maskOf (bs : List UInt8) : Nat := if lead (byteAt bs 0) = 2 then byteAt bs 0 % 32 else if lead (byteAt bs 0) = 3 then byteAt bs 0 % 16 else if lead (byteAt bs 0) = 4 then byteAt bs 0 % 8 else byteAt bs 0
def prF (bs : List UInt8) : Nat → Nat
  | 0 => maskOf bs
  | i + 1 => prF bs i * 64 + byteAt bs (i + 1) % 64
theorem prF_final (bs : List UInt8) (h : lead (byteAt bs 0) ≠ 0) : prF bs (lead (byteAt bs 0) - 1) = runeOf bs := by
  have hL := lead_le (byteAt bs 0)
  unfold runeOf
  have : lead (byteAt bs 0) = 1 ∨ lead (byteAt bs 0) = 2 ∨ lead (byteAt bs 0) = 3 ∨ lead (byteAt bs 0) = 4 := by omega
  rcases this with e | e | e | e <;> simp [e, prF, maskOf] <;> omega
theorem prF_lt (bs : List UInt8) (m : Nat) (h : m + 1 < lead (byteAt bs 0)) : prF bs m < 32768 := by
  have hL := lead_le (byteAt bs 0)
  have : lead (byteAt bs 0) = 2 ∨ lead (byteAt bs 0) = 3 ∨ lead (byteAt bs 0) = 4 := by omega
  have hm : m = 0 ∨ m = 1 ∨ m = 2 := by omega
  rcases this with e | e | e <;> rcases hm with rfl | rfl | rfl <;> simp [e, prF, maskOf] at h ⊢ <;> omega

end Go.Proofs.YtdkcibafbdmajabGreatDoor.U
