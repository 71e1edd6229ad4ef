/- What is proved here: laws and contracts of CBase, NMath, one behind the other (each says its own). -/
import Derived.BigQuiet
import Derived.Deep.QuietTactic
import Derived.Deep.RegionWith
import Derived.WalkSmall
import Derived.WalkKit
import Derived.OwnWalk
import Derived.Below
import Derived.Lib.SliceRun
import Derived.Lib.ConvBytes
import Derived.Laws.Cover4
import Derived.Laws.OwnMore
import Derived.Laws.IdiomStrings
import Derived.Lib.BufferRead
import Derived.OwnWalkIn
import Derived.RangeFuncRecord
import Derived.Test.YtmfhhpacojodkaaGreatDoorProg
import Derived.Lib.Join
import Derived.Lib.IndexMore
/- What is proved here: plain facts of bytes, numbers and rows in memory, and the contract of bytes.Clone. -/
namespace Go.Proofs.YtmfhhpacojodkaaGreatDoor.C
open Go.RowKit

def byteAt (bs : List UInt8) (k : Nat) : Nat := (bs[k]?.getD 0).toNat
theorem byteAt_lt (bs : List UInt8) (k : Nat) : byteAt bs k < 256 := UInt8.toNat_lt _
theorem byteAt_drop (bs : List UInt8) (k j : Nat) : byteAt (bs.drop k) j = byteAt bs (k + j) := by simp [byteAt]
theorem byteAt_take (bs : List UInt8) (k j : Nat) (h : j < k) : byteAt (bs.take k) j = byteAt bs j := by simp [byteAt, h]
def zAt (zs : List Int) (k : Nat) : Int := zs[k]?.getD 0

theorem cell_lt {w : World} {p : Addr} {v : Value} (h : w.cell? p = some v) : p.block < w.heap.size := by
  unfold World.cell? at h
  cases e : w.heap[p.block]? with
  | none => rw [e] at h; simp at h
  | some o => exact (Array.getElem?_eq_some_iff.1 e).1
theorem lt_of_block {W : World} {k : Nat} {o : Obj} (h : W.heap[k]? = some o) : k < W.heap.size := (Array.getElem?_eq_some_iff.1 h).1
theorem cs_other {X : World} {a b : Addr} {v : Value} (h : a ≠ b) : (X.setCell a v).cell? b = X.cell? b := by apply World.cell?_setCell_other; exact h
theorem cs_same {X : World} {a : Addr} {v u : Value} (h : X.cell? a = some u) : (X.setCell a v).cell? a = some v := by apply World.cell?_setCell_same; exact h
theorem add_none (b off j : Nat) : (⟨b, off, none⟩ : Addr).add j = ⟨b, off + j, none⟩ := by unfold Addr.add; split <;> simp_all

theorem cell_new (W : World) (c : Array Value) (t : TypeId) (fr : Nat × Nat) (k : Nat) : (W.alloc (.cells c t fr)).cell? ⟨W.heap.size, k, none⟩ = c[k]? := by
  have hb := World.alloc_heap_new W (.cells c t fr)
  simp only [World.cell?, hb]; simp
theorem cell_under (W : World) (o : Obj) (p : Addr) (h : p.block < W.heap.size) : (W.alloc o).cell? p = W.cell? p := ((Below.refl _ W).alloc (Nat.le_refl _) o).cell h

/-- The bytes that a slice value holds in memory, below n₀. -/
def HasB (n₀ : Nat) (w : World) (v : Value) (bs : List UInt8) : Prop :=
  (bs = [] ∧ ∃ a cap, v = .slice a 0 cap) ∨ (0 < bs.length ∧ ∃ b off cap, v = .slice (some ⟨b, off, none⟩) bs.length cap ∧ bs.length ≤ cap ∧ b < n₀ ∧ ∀ j, j < bs.length → w.cell? ⟨b, off + j, none⟩ = some (.int .u8 (byteAt bs j)))
theorem HasB.below {n₀ : Nat} {A B : World} {v : Value} {bs : List UInt8} (hl : HasB n₀ A v bs) (h : Below n₀ A B) : HasB n₀ B v bs := by
  rcases hl with hl | ⟨hp, b, off, cap, hv, hc, hb, hx⟩
  · exact .inl hl
  · exact .inr ⟨hp, b, off, cap, hv, hc, hb, fun j hj => (h.cell (p := ⟨b, off + j, none⟩) hb).trans (hx j hj)⟩
theorem HasB.mono {n₀ n₁ : Nat} {w : World} {v : Value} {bs : List UInt8} (hl : HasB n₀ w v bs) (h : n₀ ≤ n₁) : HasB n₁ w v bs := by
  rcases hl with hl | ⟨hp, b, off, cap, hv, hc, hb, hx⟩
  · exact .inl hl
  · exact .inr ⟨hp, b, off, cap, hv, hc, by omega, hx⟩
theorem HasB.slice {n₀ : Nat} {w : World} {v : Value} {bs : List UInt8} (hl : HasB n₀ w v bs) : ∃ a cap, v = .slice a bs.length cap := by
  rcases hl with ⟨rfl, a, cap, rfl⟩ | ⟨hp, b, off, cap, rfl, _⟩
  · exact ⟨a, cap, rfl⟩
  · exact ⟨_, cap, rfl⟩
/-- The numbers that a slice value holds in memory. -/
def HasI (q : IntKind) (w : World) (v : Value) (zs : List Int) : Prop :=
  (zs = [] ∧ ∃ a cap, v = .slice a 0 cap) ∨ (0 < zs.length ∧ ∃ b off cap, v = .slice (some ⟨b, off, none⟩) zs.length cap ∧ zs.length ≤ cap ∧ ∀ j, j < zs.length → w.cell? ⟨b, off + j, none⟩ = some (.int q (zAt zs j)))
theorem HasI.below {q : IntKind} {A B : World} {v : Value} {zs : List Int} (hl : HasI q A v zs) (h : Below A.heap.size A B) : HasI q B v zs := by
  rcases hl with hl | ⟨hp, b, off, cap, hv, hc, hx⟩
  · exact .inl hl
  · exact .inr ⟨hp, b, off, cap, hv, hc, fun j hj => (h.cell (p := ⟨b, off + j, none⟩) (cell_lt (hx j hj))).trans (hx j hj)⟩

theorem grownBy_of_below {W W' : World} (h : Below W.heap.size W W') : W.grownBy W' none := ⟨h.os, h.tape, h.output, h.size, fun k hk _ => h.block k hk⟩
theorem owns_below {A B : World} {base : Nat} {e : TypeId} {size : Nat} {v : Value} {n : Nat} {xs : List Value} (h : A.ownsRow base e size v n xs) (hb : Below A.heap.size A B) : B.ownsRow base e size v n xs :=
  h.kept (grownBy_of_below hb) (by cases v.ownBlock <;> simp)
theorem owns_slice {W : World} {base : Nat} {e : TypeId} {size : Nat} {v : Value} {n : Nat} {xs : List Value} (h : W.ownsRow base e size v n xs) : ∃ a cap, v = .slice a n cap := by
  rcases h.2 with ⟨rfl, rfl⟩ | ⟨g, cap, cur, rfl, _⟩
  · exact ⟨none, 0, rfl⟩
  · exact ⟨_, cap, rfl⟩
theorem owns_mono {W : World} {base base' : Nat} {e : TypeId} {size : Nat} {v : Value} {n : Nat} {xs : List Value} (h : W.ownsRow base e size v n xs) (hb : base' ≤ base) : W.ownsRow base' e size v n xs := by
  refine ⟨h.1, ?_⟩
  rcases h.2 with h | ⟨g, cap, cur, e1, e2, e3⟩
  · exact .inl h
  · exact .inr ⟨g, cap, cur, e1, by omega, e3⟩
/-- Rows of two types lie in two blocks. -/
theorem owns_apart {W : World} {base base' : Nat} {e e' : TypeId} {size size' : Nat} {v v' : Value} {n n' : Nat} {xs xs' : List Value} (h : W.ownsRow base e size v n xs) (h' : W.ownsRow base' e' size' v' n' xs') (hne : e ≠ e') :
    v.ownBlock = none ∨ v.ownBlock ≠ v'.ownBlock := by
  rcases h.2 with ⟨rfl, _⟩ | ⟨g, cap, cur, rfl, _, hg, _⟩
  · exact .inl rfl
  · right
    rcases h'.2 with ⟨rfl, _⟩ | ⟨g', cap', cur', rfl, _, hg', _⟩
    · simp [Value.ownBlock]
    · intro e
      simp [Value.ownBlock] at e
      subst e
      rw [hg] at hg'
      simp at hg'
      exact hne hg'.2

/-- Bytes as values. -/
def bvs (bs : List UInt8) : List Value := bs.map fun c => Value.int .u8 (c.toNat : Int)
theorem bvs_length (bs : List UInt8) : (bvs bs).length = bs.length := by simp [bvs]
theorem bvs_append (a b : List UInt8) : bvs (a ++ b) = bvs a ++ bvs b := by simp [bvs]
theorem bvs_get (bs : List UInt8) (j : Nat) (hj : j < bs.length) : (bvs bs)[j]? = some (.int .u8 (byteAt bs j)) := by simp [bvs, byteAt, hj]
theorem bvs_one (bs : List UInt8) : ∀ u ∈ bvs bs, u.oneCell' = true := fun x hx => by simp [bvs] at hx; obtain ⟨c, _, rfl⟩ := hx; rfl
theorem hasB_owns {w : World} {base : Nat} {e : TypeId} {v : Value} {bs : List UInt8} (h : w.ownsRow base e 1 v bs.length (bvs bs)) : HasB w.heap.size w v bs := by
  rcases h.2 with ⟨rfl, h0⟩ | ⟨g, cap, cur, rfl, hb, hg, hcap, _, hsz, ht⟩
  · exact .inl ⟨List.length_eq_zero_iff.1 h0, none, 0, rfl⟩
  · by_cases hp : bs.length = 0
    · have e0 := List.length_eq_zero_iff.1 hp
      subst e0
      exact .inl ⟨rfl, some ⟨g, 0, none⟩, cap, rfl⟩
    refine .inr ⟨by omega, g, 0, cap, rfl, hcap, lt_of_block hg, fun j hj => ?_⟩
    rw [Nat.zero_add, h.cellAt j (by omega), bvs_get bs j hj]
theorem owns_empty (w : World) (e : TypeId) (size : Nat) : (w.alloc (.cells #[] e)).ownsRow w.heap.size e size (.slice (some ⟨w.heap.size, 0, none⟩) 0 0) 0 [] :=
  ⟨by simp, .inr ⟨w.heap.size, 0, #[], rfl, Nat.le_refl _, World.alloc_heap_new w _, Nat.le_refl _, Nat.zero_le _, by simp, by simp⟩⟩
theorem cells_of {w : World} {b off : Nat} {bs : List UInt8} (hx : ∀ j, j < bs.length → w.cell? ⟨b, off + j, none⟩ = some (.int .u8 (byteAt bs j))) : ∀ j u, (bvs bs)[j]? = some u → w.cell? ((⟨b, off, none⟩ : Addr).add j) = some u := fun j u h => by
  have hj : j < bs.length := by have := (List.getElem?_eq_some_iff.1 h).1; simpa [bvs] using this
  rw [bvs_get bs j hj] at h; cases h
  rw [add_none]; exact hx j hj

theorem infoByte : (Tryz.prog.info? 5).map (fun i => (i.zero, i.size, i.bytes)) = some (some (.int .u8 0), 1, 1) := by kernel_rfl

/-- string(b) of bytes in memory. -/
theorem conv_bytes {w : World} {v : Value} {bs : List UInt8} {n₀ : Nat} (h : HasB n₀ w v bs) : (convert 29 9 v).run Tryz.prog w = .ok (.string ⟨bs.toArray⟩) w := by
  rcases h with ⟨rfl, a, cap, rfl⟩ | ⟨hp, b, off, cap, rfl, hcap, _, hx⟩
  · cases a with
    | none => exact Lib.run_convert_nil_bytes w _ _ 5 cap Tryz.underlying29 Tryz.underlying5 Tryz.underlying9
    | some ad => exact run_convert_bytes_back w _ _ 5 ad cap [] Tryz.underlying29 Tryz.underlying5 Tryz.underlying9 (fun j hj => by simp at hj)
  · exact run_convert_bytes_back w _ _ 5 ⟨b, off, none⟩ cap bs Tryz.underlying29 Tryz.underlying5 Tryz.underlying9 (fun j hj => by rw [add_none, hx j hj]; simp [byteAt, hj])
theorem bytesWorld_below (w : World) (e : TypeId) (s : ByteArray) : Below w.heap.size w (Lib.bytesWorld w e s) :=
  ⟨rfl, rfl, rfl, by rw [Lib.bytesWorld_size]; omega, fun k hk => Lib.bytesWorld_at_old w e s k hk⟩
theorem bytesWorld_hasB (w : World) (e : TypeId) (bs : List UInt8) : HasB (w.heap.size + 1) (Lib.bytesWorld w e ⟨bs.toArray⟩) (.slice (some ⟨w.heap.size, 0, none⟩) bs.length (grownCap w bs.length 0 e)) bs := by
  by_cases h0 : bs.length = 0
  · refine .inl ⟨List.length_eq_zero_iff.1 h0, _, _, by rw [h0]⟩
  · refine .inr ⟨by omega, w.heap.size, 0, _, rfl, grownCap_ge _ _ _ _, by omega, fun j hj => ?_⟩
    rw [Nat.zero_add, Lib.bytesWorld_cell w e ⟨bs.toArray⟩ j (by simpa [ByteArray.size] using hj)]
    simp [byteAt, hj, List.getD]

end Go.Proofs.YtmfhhpacojodkaaGreatDoor.C

/- What is proved here: facts on texts as lists of bytes: small letters, blanks, trimming, fields, collapsing, names that may be written. No program in it. -/
namespace Go.Proofs.YtmfhhpacojodkaaGreatDoor.N

def blankB (c : UInt8) : Bool := c == 9 || c == 10 || c == 12 || c == 32
def smallB (c : UInt8) : Bool := decide (97 ≤ c.toNat ∧ c.toNat ≤ 122)
def digB (c : UInt8) : Bool := decide (48 ≤ c.toNat ∧ c.toNat ≤ 57)
def lowB (c : UInt8) : UInt8 := if 65 ≤ c.toNat ∧ c.toNat ≤ 90 then UInt8.ofNat (c.toNat + 32) else c
def lower (l : List UInt8) : List UInt8 := l.map lowB

theorem lowB_toNat (c : UInt8) : (lowB c).toNat = if 65 ≤ c.toNat ∧ c.toNat ≤ 90 then c.toNat + 32 else c.toNat := by
  unfold lowB
  split
  · rw [UInt8.toNat_ofNat']; omega
  · rfl
theorem lowB_idem (c : UInt8) : lowB (lowB c) = lowB c := by
  apply UInt8.toNat_inj.1
  have h1 := lowB_toNat (lowB c)
  have h2 := lowB_toNat c
  split at h2
  · rw [if_neg (by omega)] at h1; exact h1
  · rename_i h; rw [if_neg (by omega)] at h1; exact h1
theorem lowB_small (c : UInt8) (h : ¬ (65 ≤ c.toNat ∧ c.toNat ≤ 90)) : lowB c = c := by unfold lowB; rw [if_neg h]
theorem lower_idem (l : List UInt8) : lower (lower l) = lower l := by
  unfold lower
  rw [List.map_map]
  exact List.map_congr_left fun c _ => lowB_idem c
theorem lower_length (l : List UInt8) : (lower l).length = l.length := by simp [lower]
theorem lower_id (l : List UInt8) (h : ∀ c ∈ l, ¬ (65 ≤ c.toNat ∧ c.toNat ≤ 90)) : lower l = l := by
  unfold lower
  conv => rhs; rw [← List.map_id l]
  exact List.map_congr_left fun c hc => lowB_small c (h c hc)

/-- May a tag's name be written? -/
def tagN (l : List UInt8) : Bool := decide (1 ≤ l.length ∧ l.length ≤ 100) && smallB (l.getD 0 0) && l.all fun c => smallB c || digB c
/-- May an attribute's? -/
def attrN (l : List UInt8) : Bool := decide (1 ≤ l.length ∧ l.length ≤ 100) && smallB (l.getD 0 0) && (l.getD (l.length - 1) 0 != 45) && l.all fun c => smallB c || digB c || c == 45
def eventN (l : List UInt8) : Bool := decide (2 ≤ l.length) && (lower (l.take 2) == [111, 110])
theorem tagN_lower (l : List UInt8) (h : tagN l = true) : lower l = l := by
  refine lower_id l fun c hc => ?_
  simp only [tagN, Bool.and_eq_true, List.all_eq_true] at h
  have := h.2 c hc
  simp [smallB, digB] at this
  omega
theorem attrN_lower (l : List UInt8) (h : attrN l = true) : lower l = l := by
  refine lower_id l fun c hc => ?_
  simp only [attrN, Bool.and_eq_true, List.all_eq_true] at h
  have := h.2 c hc
  simp [smallB, digB] at this
  rcases this with (h | h) | h
  · omega
  · omega
  · subst h; decide

/-- The fields of what is left, a word's beginning at hand. -/
def fieldsFrom : List UInt8 → List UInt8 → List (List UInt8)
  | [], w => if w.isEmpty then [] else [w]
  | c :: r, w => if blankB c then (if w.isEmpty then fieldsFrom r [] else w :: fieldsFrom r []) else fieldsFrom r (w ++ [c])
theorem ff_nil (w : List UInt8) : fieldsFrom [] w = if w.isEmpty then [] else [w] := rfl
theorem ff_cons (c : UInt8) (r w : List UInt8) : fieldsFrom (c :: r) w = if blankB c then (if w.isEmpty then fieldsFrom r [] else w :: fieldsFrom r []) else fieldsFrom r (w ++ [c]) := rfl
def fields (l : List UInt8) : List (List UInt8) := fieldsFrom l []
def Word (w : List UInt8) : Prop := w ≠ [] ∧ ∀ c ∈ w, blankB c = false
def joined (ws : List (List UInt8)) : List UInt8 := Lib.join ws [32]
def collapse (l : List UInt8) : List UInt8 := joined (fields l)
def trim (l : List UInt8) : List UInt8 := ((l.dropWhile blankB).reverse.dropWhile blankB).reverse

theorem fieldsFrom_words : ∀ (l w : List UInt8), (∀ c ∈ w, blankB c = false) → ∀ f ∈ fieldsFrom l w, Word f
  | [], w, hw, f, hf => by
    unfold fieldsFrom at hf
    split at hf
    · cases hf
    · rename_i h
      simp at hf
      subst hf
      exact ⟨by simpa using h, hw⟩
  | c :: r, w, hw, f, hf => by
    unfold fieldsFrom at hf
    split at hf
    · split at hf
      · exact fieldsFrom_words r [] (by simp) f hf
      · rename_i h
        rcases List.mem_cons.1 hf with rfl | hf
        · exact ⟨by simpa using h, hw⟩
        · exact fieldsFrom_words r [] (by simp) f hf
    · rename_i h
      refine fieldsFrom_words r (w ++ [c]) (fun x hx => ?_) f hf
      rcases List.mem_append.1 hx with hx | hx
      · exact hw x hx
      · simp at hx; subst hx; simpa using h
theorem fields_words (l : List UInt8) : ∀ f ∈ fields l, Word f := fieldsFrom_words l [] (by simp)
theorem fieldsFrom_plain : ∀ (l w : List UInt8), (∀ c ∈ l, blankB c = false) → fieldsFrom l w = fieldsFrom [] (w ++ l)
  | [], w, _ => by simp
  | c :: r, w, h => by
    have hc := h c (by simp)
    rw [ff_cons, if_neg (by simp [hc]), fieldsFrom_plain r (w ++ [c]) (fun x hx => h x (by simp [hx])), List.append_assoc]
    rfl
theorem fields_word (w : List UInt8) (h : Word w) : fields w = [w] := by
  unfold fields
  rw [fieldsFrom_plain w [] h.2, List.nil_append, ff_nil, if_neg (by simpa using h.1)]
theorem fieldsFrom_two : ∀ (a w : List UInt8) (c : UInt8) (b : List UInt8), blankB c = true → fieldsFrom (a ++ c :: b) w = fieldsFrom a w ++ fields b
  | [], w, c, b, h => by
    rw [List.nil_append, ff_cons, if_pos h, ff_nil]
    split <;> simp [fields]
  | x :: r, w, c, b, h => by
    rw [List.cons_append, ff_cons, ff_cons]
    split
    · split
      · exact fieldsFrom_two r [] c b h
      · rw [fieldsFrom_two r [] c b h]; rfl
    · exact fieldsFrom_two r _ c b h
theorem fields_two (a : List UInt8) (c : UInt8) (b : List UInt8) (h : blankB c = true) : fields (a ++ c :: b) = fields a ++ fields b := fieldsFrom_two a [] c b h
theorem joined_cons (x y : List UInt8) (r : List (List UInt8)) : joined (x :: y :: r) = x ++ 32 :: joined (y :: r) := by
  unfold joined
  rw [Lib.join_cons, Lib.join_cons]
  simp [Lib.joinTail]
theorem joined_one (x : List UInt8) : joined [x] = x := Lib.join_one x [32]
theorem fields_joined : ∀ (ws : List (List UInt8)), (∀ w ∈ ws, Word w) → fields (joined ws) = ws
  | [], _ => rfl
  | [x], h => by rw [joined_one]; exact fields_word x (h x (by simp))
  | x :: y :: r, h => by
    rw [joined_cons, fields_two _ _ _ (by decide), fields_word x (h x (by simp)), fields_joined (y :: r) (fun w hw => h w (by simp [List.mem_cons.1 hw]))]
    rfl
theorem fields_collapse (l : List UInt8) : fields (collapse l) = fields l := fields_joined _ (fields_words l)
theorem collapse_idem (l : List UInt8) : collapse (collapse l) = collapse l := by
  show joined (fields (collapse l)) = _
  rw [fields_collapse]
  rfl
/-- What begins and ends without a blank is trimmed. -/
theorem trim_id (l : List UInt8) (h0 : ∀ c, l.head? = some c → blankB c = false) (h1 : ∀ c, l.getLast? = some c → blankB c = false) : trim l = l := by
  have e : ∀ m : List UInt8, (∀ c, m.head? = some c → blankB c = false) → m.dropWhile blankB = m := by
    intro m hm
    cases m with
    | nil => rfl
    | cons c r => rw [List.dropWhile_cons, if_neg (by simp [hm c rfl])]
  unfold trim
  rw [e l h0, e l.reverse (fun c hc => h1 c (by rw [List.head?_reverse] at hc; exact hc)), List.reverse_reverse]
theorem joined_ends : ∀ (ws : List (List UInt8)), (∀ w ∈ ws, Word w) → (∀ c, (joined ws).head? = some c → blankB c = false) ∧ (∀ c, (joined ws).getLast? = some c → blankB c = false) ∧ (ws ≠ [] → joined ws ≠ [])
  | [], _ => ⟨fun c h => by simp [joined, Lib.join_nil] at h, fun c h => by simp [joined, Lib.join_nil] at h, fun h => absurd rfl h⟩
  | [x], h => by
    rw [joined_one]
    have hx := h x (by simp)
    exact ⟨fun c hc => hx.2 c (List.mem_of_head? hc), fun c hc => hx.2 c (List.mem_of_getLast? hc), fun _ => hx.1⟩
  | x :: y :: r, h => by
    have ih := joined_ends (y :: r) (fun w hw => h w (by simp [List.mem_cons.1 hw]))
    have hx := h x (by simp)
    rw [joined_cons]
    refine ⟨fun c hc => ?_, fun c hc => ?_, fun _ => by simp⟩
    · cases x with
      | nil => exact absurd rfl hx.1
      | cons a s => simp at hc; subst hc; exact hx.2 _ (by simp)
    · have hne := ih.2.2 (by simp)
      refine ih.2.1 c ?_
      rw [List.getLast?_append, List.getLast?_cons] at hc
      cases hj : joined (y :: r) with
      | nil => exact absurd hj hne
      | cons a s =>
        rw [hj] at hc
        simpa [List.getLast?_cons] using hc
theorem trim_joined (ws : List (List UInt8)) (h : ∀ w ∈ ws, Word w) : trim (joined ws) = joined ws := trim_id _ (joined_ends ws h).1 (joined_ends ws h).2.1
theorem trim_collapse (l : List UInt8) : trim (collapse l) = collapse l := trim_joined _ (fields_words l)
theorem trim_word (w : List UInt8) (h : Word w) : trim w = w := by
  have := trim_joined [w] (by simpa using h)
  rwa [joined_one] at this

/-- How many fields there are at most, and how long they are together. -/
theorem fieldsFrom_count : ∀ (l w : List UInt8), (fieldsFrom l w).length ≤ l.length + 1
  | [], w => by unfold fieldsFrom; split <;> simp
  | c :: r, w => by
    unfold fieldsFrom
    split
    · split
      · have := fieldsFrom_count r []; simp; omega
      · have := fieldsFrom_count r []; simp; omega
    · have := fieldsFrom_count r (w ++ [c]); simp; omega
theorem fields_count (l : List UInt8) : (fields l).length ≤ l.length + 1 := fieldsFrom_count l []
theorem fieldsFrom_sum : ∀ (l w : List UInt8), Lib.lens (fieldsFrom l w) + (fieldsFrom l w).length ≤ l.length + w.length + 1
  | [], w => by
    unfold fieldsFrom
    split <;> simp [Lib.lens]
  | c :: r, w => by
    unfold fieldsFrom
    split
    · split
      · have := fieldsFrom_sum r []; simp at this ⊢; omega
      · have := fieldsFrom_sum r []; simp [Lib.lens] at this ⊢; omega
    · have := fieldsFrom_sum r (w ++ [c]); simp at this ⊢; omega
theorem joined_length : ∀ (ws : List (List UInt8)), (joined ws).length ≤ Lib.lens ws + ws.length
  | [] => by simp [joined, Lib.join_nil]
  | x :: r => by
    unfold joined
    rw [Lib.join_length]
    simp
    omega
theorem collapse_length (l : List UInt8) : (collapse l).length ≤ l.length + 1 := by
  have := fieldsFrom_sum l []
  have := joined_length (fields l)
  unfold collapse fields at *
  simp at *
  omega

end Go.Proofs.YtmfhhpacojodkaaGreatDoor.N
