/- What is proved here: the contract of Read of a sieveref02.Source. -/
import Derived.Test.YtkpjmcoihbebkaaCSOk
import Derived.Test.YtkpjmcoihbebkaaCROver
import Derived.Test.YtkpjmcoihbebkaaBun3
import Derived.Test.YtkpjmcoihbebkaaCSteps
namespace Go.Proofs.Ytkpjmcoihbebkaa.C
open Go.RowKit

/-- The document's source in memory, with the value that holds its script. -/
def RSv (v : Value) (base : Nat) (w : World) (g : Nat) (l : List (List UInt8 × Bool)) (i part told : Nat) : Prop :=
  Blk w g #[v, .int .i64 i, .int .i64 part, .int .i64 told] 47 ∧ g < base ∧ OwnS base 54 w v l
theorem RSv.src {v : Value} {base : Nat} {w : World} {g : Nat} {l : List (List UInt8 × Bool)} {i part told : Nat} (h : RSv v base w g l i part told) : RSrc base w g l i part told := ⟨v, h⟩
theorem RSv.below {v : Value} {base : Nat} {w w' : World} {g : Nat} {l : List (List UInt8 × Bool)} {i part told : Nat} (h : RSv v base w g l i part told) (hb : Below w.heap.size w w') : RSv v base w' g l i part told := ⟨h.1.below hb, h.2.1, h.2.2.below hb⟩

set_option maxRecDepth 100000 in
set_option maxHeartbeats 1000000 in
/-- Read at the end. -/
theorem rread_end {base : Nat} (w : World) (g : Nat) (l : List (List UInt8 × Bool)) (part told : Nat) (n : Int) (h : RSrc base w g l l.length part told) :
    Calls Try.prog 39 #[.pointer (some ⟨g, 0, none⟩), .int .i64 n] w fun e W' => e = .returned (.tuple #[.slice none 0 0, .int .i64 21]) ∧ Below w.heap.size w W' := by
  obtain ⟨v, hB, _, hO⟩ := h
  obtain ⟨va, vc, rfl⟩ := hO.slice
  have h1 : w.cell? ⟨g, 0, none⟩ = some (.slice va l.length vc) := hB.cell 0
  have h2 : w.cell? ⟨g, 1, none⟩ = some (.int .i64 l.length) := hB.cell 1
  clear hB hO
  go_enter Try.func39, Try.ntmps39
  go_wp2
  go_region_held3 (fun w' => w'.cell? ⟨g, 0, none⟩ = some (.slice va l.length vc) ∧ w'.cell? ⟨g, 1, none⟩ = some (.int .i64 l.length)) (go_keep) (fail)
  all_goals go_wp2
  all_goals go_ret2
  all_goals exact ⟨rfl, (Below.refl _ _).drew⟩

set_option maxRecDepth 100000 in
set_option maxHeartbeats 4000000 in
/-- Read behind all bytes of a step that fails. -/
theorem rread_fail {base : Nat} (w : World) (g : Nat) (l : List (List UInt8 × Bool)) (i part told : Nat) (n : Nat) (h : RSrc base w g l i part told) (hlt : i < l.length) (hf : l[i].2 = true) (hz : part = l[i].1.length)
    (hp : part ≤ l[i].1.length) (hd : l[i].1.length ≤ 100000000000000) :
    Calls Try.prog 39 #[.pointer (some ⟨g, 0, none⟩), .int .i64 n] w fun e W' => e = .returned (.tuple #[.slice none 0 0, .int .i64 20]) ∧ Below w.heap.size w W' := by
  obtain ⟨v, hB, hgb, hO⟩ := h
  have hS := hasS_owns hO
  obtain ⟨va, vc, rfl⟩ := hS.slice
  have h1 : w.cell? ⟨g, 0, none⟩ = some (.slice va l.length vc) := hB.cell 0
  have h2 : w.cell? ⟨g, 1, none⟩ = some (.int .i64 i) := hB.cell 1
  have h3 : w.cell? ⟨g, 2, none⟩ = some (.int .i64 part) := hB.cell 2
  have hgl := hB.lt
  have hne : ¬ (i : Int) = l.length := by omega
  have hne' : ((i : Int) == (l.length : Int)) = false := by simp; omega
  have HB : Hid (Blk w g #[.slice va l.length vc, .int .i64 i, .int .i64 part, .int .i64 told] 47) := hB
  have HO : Hid (OwnS base 54 w (.slice va l.length vc) l) := hO
  clear hB hO
  obtain ⟨b, off, a, c, rfl, d0, hby, d1⟩ := hS.at i hlt
  have HBy : Hid (Byt w (.slice a l[i].1.length c) l[i].1) := hby
  clear hS hby
  rcases hkind : l[i] with ⟨dk, fk⟩
  rw [hkind] at d0 d1 hd hp HBy hf hz
  simp only at d0 d1 hd hp HBy hf hz
  have HF : Hid (fk = true) := hf
  have HZ : Hid (part = dk.length) := hz
  clear hf hz
  have hi0 : (0 : Int) ≤ (i : Int) := by omega
  have hil : (i : Int) < l.length := by omega
  have n1 := World.new_ne w _ h1
  have n2 := World.new_ne w _ h2
  have n3 := World.new_ne w _ h3
  have n4 := World.new_ne w _ d0
  have n5 := World.new_ne w _ d1
  go_enter Try.func39, Try.ntmps39
  go_wp2
  go_region_held3 (fun w' => w'.cell? ⟨g, 0, none⟩ = some (.slice (some ⟨b, off, none⟩) l.length vc) ∧ w'.cell? ⟨g, 1, none⟩ = some (.int .i64 i) ∧ w'.cell? ⟨b, off + i * 2, none⟩ = some (.slice a dk.length c) ∧ w'.cell? ⟨b, off + i * 2 + 1, none⟩ = some (.bool fk)) (go_keep) (fail)
  go_wp2
  go_region_held3 (fun w' => w'.cell? ⟨g, 0, none⟩ = some (.slice (some ⟨b, off, none⟩) l.length vc) ∧ w'.cell? ⟨g, 1, none⟩ = some (.int .i64 i) ∧ w'.cell? ⟨b, off + i * 2, none⟩ = some (.slice a dk.length c) ∧ w'.cell? ⟨b, off + i * 2 + 1, none⟩ = some (.bool fk)) (go_keep) (fail)
  go_wp2
  obtain ⟨W3, hW3⟩ : ∃ W3, (w.alloc (.cells #[.slice a dk.length c, .bool fk] 54)).drew.drew = W3 := ⟨_, rfl⟩
  have b3 : Below w.heap.size w W3 := by rw [← hW3]; exact (((Below.refl _ w).alloc (Nat.le_refl _) _).drew).drew
  have z3 : W3.heap.size = w.heap.size + 1 := by rw [← hW3]; show (w.alloc _).heap.size = _; simp
  have e0 : W3.cell? ⟨w.heap.size, 0, none⟩ = some (.slice a dk.length c) := by rw [← hW3]; exact (cell_new w _ _ _ _).trans rfl
  have e1 : W3.cell? ⟨w.heap.size, 1, none⟩ = some (.bool fk) := by rw [← hW3]; exact (cell_new w _ _ _ _).trans rfl
  have HB3 : Hid (Blk W3 g #[.slice (some ⟨b, off, none⟩) l.length vc, .int .i64 i, .int .i64 part, .int .i64 told] 47) := HB.out.below b3
  have HO3 : Hid (OwnS base 54 W3 (.slice (some ⟨b, off, none⟩) l.length vc) l) := HO.out.below b3
  have HBy3 : Hid (Byt W3 (.slice a dk.length c) dk) := HBy.out.below b3
  have f1 : W3.cell? ⟨g, 1, none⟩ = some (.int .i64 i) := HB3.out.cell 1
  have f2 : W3.cell? ⟨g, 2, none⟩ = some (.int .i64 part) := HB3.out.cell 2
  rw [hW3]
  clear hW3 h1 h2 h3 d0 d1 n1 n2 n3 n4 n5 HB HO HBy
  have hp0 : (0 : Int) ≤ (part : Int) := by omega
  have hpl : (part : Int) ≤ (dk.length : Int) := by omega
  have HK0 : Hid (l[i] = (dk, fk)) := hkind
  clear hkind
  have g1z : W3.frozen? ⟨g, 1, none⟩ = false := HB3.out.frozen 1
  have g2z : W3.frozen? ⟨g, 2, none⟩ = false := HB3.out.frozen 2
  obtain ⟨L0, HL0⟩ : ∃ L0, Hid (L0 = dk.length - part) := ⟨_, rfl⟩
  have hsub : (dk.length : Int) - (part : Int) = (L0 : Int) := by have := HL0.out; omega
  have hLb : (L0 : Int) ≤ 100000000000000 := by have := HL0.out; omega
  have hwr : IntKind.i64.wrap (L0 : Int) = (L0 : Int) := by rw [IntKind.wrap_i64]; omega
  go_region_held3 (fun w' => w'.cell? ⟨w.heap.size, 0, none⟩ = some (.slice a dk.length c) ∧ w'.cell? ⟨g, 2, none⟩ = some (.int .i64 part)) (go_keep) (fail)
  have hf := HF.out
  subst hf
  have hz0 : L0 = 0 := by have := HL0.out; have := HZ.out; omega
  have hzb : ((L0 : Int) == 0) = true := by simp [hz0]
  clear hz0
  go_wp2
  go_ret2
  exact ⟨rfl, b3.drew⟩

set_option maxRecDepth 100000 in
set_option maxHeartbeats 4000000 in
/-- Read at a step that has no bytes left. -/
theorem rread_skip {v : Value} {base : Nat} (w : World) (g : Nat) (l : List (List UInt8 × Bool)) (i part told : Nat) (n : Nat) (h : RSv v base w g l i part told) (hlt : i < l.length) (hf : l[i].2 = false) (hz : part = l[i].1.length)
    (hp : part ≤ l[i].1.length) (hd : l[i].1.length ≤ 100000000000000) (hl : l.length ≤ 1000000000000) :
    Calls Try.prog 39 #[.pointer (some ⟨g, 0, none⟩), .int .i64 n] w fun e W' => e = .returned (.tuple #[.slice none 0 0, .int .i64 0]) ∧ RSv v base W' g l (i + 1) 0 told ∧ w.grownBy W' (some g) := by
  obtain ⟨hB, hgb, hO⟩ := h
  have hS := hasS_owns hO
  obtain ⟨va, vc, rfl⟩ := hS.slice
  have h1 : w.cell? ⟨g, 0, none⟩ = some (.slice va l.length vc) := hB.cell 0
  have h2 : w.cell? ⟨g, 1, none⟩ = some (.int .i64 i) := hB.cell 1
  have h3 : w.cell? ⟨g, 2, none⟩ = some (.int .i64 part) := hB.cell 2
  have hgl := hB.lt
  have hne : ¬ (i : Int) = l.length := by omega
  have hne' : ((i : Int) == (l.length : Int)) = false := by simp; omega
  have HB : Hid (Blk w g #[.slice va l.length vc, .int .i64 i, .int .i64 part, .int .i64 told] 47) := hB
  have HO : Hid (OwnS base 54 w (.slice va l.length vc) l) := hO
  clear hB hO
  obtain ⟨b, off, a, c, rfl, d0, hby, d1⟩ := hS.at i hlt
  have HBy : Hid (Byt w (.slice a l[i].1.length c) l[i].1) := hby
  clear hS hby
  rcases hkind : l[i] with ⟨dk, fk⟩
  rw [hkind] at d0 d1 hd hp HBy hf hz
  simp only at d0 d1 hd hp HBy hf hz
  have HF : Hid (fk = false) := hf
  have HZ : Hid (part = dk.length) := hz
  clear hf hz
  have hi0 : (0 : Int) ≤ (i : Int) := by omega
  have hil : (i : Int) < l.length := by omega
  have n1 := World.new_ne w _ h1
  have n2 := World.new_ne w _ h2
  have n3 := World.new_ne w _ h3
  have n4 := World.new_ne w _ d0
  have n5 := World.new_ne w _ d1
  go_enter Try.func39, Try.ntmps39
  go_wp2
  go_region_held3 (fun w' => w'.cell? ⟨g, 0, none⟩ = some (.slice (some ⟨b, off, none⟩) l.length vc) ∧ w'.cell? ⟨g, 1, none⟩ = some (.int .i64 i) ∧ w'.cell? ⟨b, off + i * 2, none⟩ = some (.slice a dk.length c) ∧ w'.cell? ⟨b, off + i * 2 + 1, none⟩ = some (.bool fk)) (go_keep) (fail)
  go_wp2
  go_region_held3 (fun w' => w'.cell? ⟨g, 0, none⟩ = some (.slice (some ⟨b, off, none⟩) l.length vc) ∧ w'.cell? ⟨g, 1, none⟩ = some (.int .i64 i) ∧ w'.cell? ⟨b, off + i * 2, none⟩ = some (.slice a dk.length c) ∧ w'.cell? ⟨b, off + i * 2 + 1, none⟩ = some (.bool fk)) (go_keep) (fail)
  go_wp2
  obtain ⟨W3, hW3⟩ : ∃ W3, (w.alloc (.cells #[.slice a dk.length c, .bool fk] 54)).drew.drew = W3 := ⟨_, rfl⟩
  have b3 : Below w.heap.size w W3 := by rw [← hW3]; exact (((Below.refl _ w).alloc (Nat.le_refl _) _).drew).drew
  have z3 : W3.heap.size = w.heap.size + 1 := by rw [← hW3]; show (w.alloc _).heap.size = _; simp
  have e0 : W3.cell? ⟨w.heap.size, 0, none⟩ = some (.slice a dk.length c) := by rw [← hW3]; exact (cell_new w _ _ _ _).trans rfl
  have e1 : W3.cell? ⟨w.heap.size, 1, none⟩ = some (.bool fk) := by rw [← hW3]; exact (cell_new w _ _ _ _).trans rfl
  have HB3 : Hid (Blk W3 g #[.slice (some ⟨b, off, none⟩) l.length vc, .int .i64 i, .int .i64 part, .int .i64 told] 47) := HB.out.below b3
  have HO3 : Hid (OwnS base 54 W3 (.slice (some ⟨b, off, none⟩) l.length vc) l) := HO.out.below b3
  have HBy3 : Hid (Byt W3 (.slice a dk.length c) dk) := HBy.out.below b3
  have f1 : W3.cell? ⟨g, 1, none⟩ = some (.int .i64 i) := HB3.out.cell 1
  have f2 : W3.cell? ⟨g, 2, none⟩ = some (.int .i64 part) := HB3.out.cell 2
  rw [hW3]
  clear hW3 h1 h2 h3 d0 d1 n1 n2 n3 n4 n5 HB HO HBy
  have hp0 : (0 : Int) ≤ (part : Int) := by omega
  have hpl : (part : Int) ≤ (dk.length : Int) := by omega
  have HK0 : Hid (l[i] = (dk, fk)) := hkind
  clear hkind
  have g1z : W3.frozen? ⟨g, 1, none⟩ = false := HB3.out.frozen 1
  have g2z : W3.frozen? ⟨g, 2, none⟩ = false := HB3.out.frozen 2
  obtain ⟨L0, HL0⟩ : ∃ L0, Hid (L0 = dk.length - part) := ⟨_, rfl⟩
  have hsub : (dk.length : Int) - (part : Int) = (L0 : Int) := by have := HL0.out; omega
  have hLb : (L0 : Int) ≤ 100000000000000 := by have := HL0.out; omega
  have hwr : IntKind.i64.wrap (L0 : Int) = (L0 : Int) := by rw [IntKind.wrap_i64]; omega
  go_region_held3 (fun w' => w'.cell? ⟨w.heap.size, 0, none⟩ = some (.slice a dk.length c) ∧ w'.cell? ⟨g, 2, none⟩ = some (.int .i64 part)) (go_keep) (fail)
  have hf := HF.out
  subst hf
  have hz0 : L0 = 0 := by have := HL0.out; have := HZ.out; omega
  have hzb : ((L0 : Int) == 0) = true := by simp [hz0]
  have hib : (i : Int) + 1 ≤ 1000000000001 := by omega
  clear hz0
  go_wp2
  go_ret2
  exact ⟨rfl, ⟨(HB3.out.drew.set 1 _).set 2 _, hgb, (OwnS.set (OwnS.set (HO3.out.below (Below.refl _ _).drew) g 1 _ hgb) g 2 _ hgb)⟩, gset (gset (grown_below b3.drew) 1 _) 2 _⟩

theorem OwnS.grown_new {base : Nat} {e : TypeId} {A A' B : World} {r : Value} {l : List (List UInt8 × Bool)} (h : OwnS base e A r l) (hb : Below A.heap.size A A') {k : Nat} (hk : A.heap.size ≤ k) (hg : A'.grownBy B (some k)) : OwnS base e B r l := by
  obtain ⟨xs, x1, x2, x3, x4⟩ := h
  have ap : ∀ {e' : TypeId} {size n : Nat} {v : Value} {ys : List Value}, A.ownsRow base e' size v n ys → v.ownBlock = none ∨ v.ownBlock ≠ some k := fun {e' size n v ys} h => by
    cases e'' : v.ownBlock with
    | none => exact .inl rfl
    | some j => exact .inr (fun e3 => by have := (h.lt j e'').2; simp at e3; omega)
  exact ⟨xs, x1, (owns_below x2 hb).kept hg (ap x2), fun x hx => (owns_below (x3 x hx) hb).kept hg (ap (x3 x hx)), x4⟩
/-- A part of a row of bytes. -/
theorem run_mid (a : Option Addr) (n cap lo K : Nat) (h : lo + K ≤ cap) (w : World) : (Instr.slice 39 (.slice a n cap) (some (.int .i64 (lo : Int))) (some (.int .i64 ((lo : Int) + (K : Int)))) none).run Try.prog w = .ok (.slice (if cap = lo then a else a.map fun p => p.add lo) K (cap - lo)) w := by
  rw [run_slice_lh (P := Try.prog) w 39 a n cap (by kernel_rfl) .i64 .i64 (lo : Int) ((lo : Int) + (K : Int)) (by omega) (by omega) (by omega)]
  rw [show (sizeOf (Try.prog.elem 39)).run Try.prog w = .ok 1 w from by kernel_rfl]
  simp only [Result.andThen, sliced, Int.toNat_natCast, Nat.mul_one, show ((lo : Int) + (K : Int)).toNat = lo + K by omega]
  rw [show lo + K - lo = K by omega]

set_option maxRecDepth 100000 in
set_option maxHeartbeats 4000000 in
/-- Read that tells bytes. -/
theorem rread_ok {v : Value} {base : Nat} (w : World) (g : Nat) (l : List (List UInt8 × Bool)) (i part told : Nat) (n : Nat) (h : RSv v base w g l i part told) (hn : 1 ≤ n) (hlt : i < l.length) (hz : part < l[i].1.length)
    (hp : part ≤ l[i].1.length) (hd : l[i].1.length ≤ 100000000000000) (ht : told ≤ 100000000000000) (hl : l.length ≤ 1000000000000) (hn' : n ≤ 9223372036854775807) :
    Calls Try.prog 39 #[.pointer (some ⟨g, 0, none⟩), .int .i64 n] w fun e W' => ∃ d K, e = .returned (.tuple #[d, .int .i64 0]) ∧ K = min n (l[i].1.length - part) ∧ W'.ownsRow w.heap.size 5 1 d K (bvs ((l[i].1.drop part).take K)) ∧ RSv v base W' g l (nxt l[i] i part K).1 (nxt l[i] i part K).2 (told + K) ∧ w.grownBy W' (some g) := by
  obtain ⟨hB, hgb, hO⟩ := h
  have hS := hasS_owns hO
  obtain ⟨va, vc, rfl⟩ := hS.slice
  have h1 : w.cell? ⟨g, 0, none⟩ = some (.slice va l.length vc) := hB.cell 0
  have h2 : w.cell? ⟨g, 1, none⟩ = some (.int .i64 i) := hB.cell 1
  have h3 : w.cell? ⟨g, 2, none⟩ = some (.int .i64 part) := hB.cell 2
  have hgl := hB.lt
  have hne : ¬ (i : Int) = l.length := by omega
  have hne' : ((i : Int) == (l.length : Int)) = false := by simp; omega
  have HB : Hid (Blk w g #[.slice va l.length vc, .int .i64 i, .int .i64 part, .int .i64 told] 47) := hB
  have HO : Hid (OwnS base 54 w (.slice va l.length vc) l) := hO
  clear hB hO
  obtain ⟨b, off, a, c, rfl, d0, hby, d1⟩ := hS.at i hlt
  have HBy : Hid (Byt w (.slice a l[i].1.length c) l[i].1) := hby
  clear hS hby
  rcases hkind : l[i] with ⟨dk, fk⟩
  rw [hkind] at d0 d1 hd hp HBy hz
  simp only at d0 d1 hd hp HBy hz
  have HZ : Hid (part < dk.length) := hz
  clear hz
  have hi0 : (0 : Int) ≤ (i : Int) := by omega
  have hil : (i : Int) < l.length := by omega
  have n1 := World.new_ne w _ h1
  have n2 := World.new_ne w _ h2
  have n3 := World.new_ne w _ h3
  have n4 := World.new_ne w _ d0
  have n5 := World.new_ne w _ d1
  go_enter Try.func39, Try.ntmps39
  go_wp2
  go_region_held3 (fun w' => w'.cell? ⟨g, 0, none⟩ = some (.slice (some ⟨b, off, none⟩) l.length vc) ∧ w'.cell? ⟨g, 1, none⟩ = some (.int .i64 i) ∧ w'.cell? ⟨b, off + i * 2, none⟩ = some (.slice a dk.length c) ∧ w'.cell? ⟨b, off + i * 2 + 1, none⟩ = some (.bool fk)) (go_keep) (fail)
  go_wp2
  go_region_held3 (fun w' => w'.cell? ⟨g, 0, none⟩ = some (.slice (some ⟨b, off, none⟩) l.length vc) ∧ w'.cell? ⟨g, 1, none⟩ = some (.int .i64 i) ∧ w'.cell? ⟨b, off + i * 2, none⟩ = some (.slice a dk.length c) ∧ w'.cell? ⟨b, off + i * 2 + 1, none⟩ = some (.bool fk)) (go_keep) (fail)
  go_wp2
  obtain ⟨W3, hW3⟩ : ∃ W3, (w.alloc (.cells #[.slice a dk.length c, .bool fk] 54)).drew.drew = W3 := ⟨_, rfl⟩
  have b3 : Below w.heap.size w W3 := by rw [← hW3]; exact (((Below.refl _ w).alloc (Nat.le_refl _) _).drew).drew
  have z3 : W3.heap.size = w.heap.size + 1 := by rw [← hW3]; show (w.alloc _).heap.size = _; simp
  have e0 : W3.cell? ⟨w.heap.size, 0, none⟩ = some (.slice a dk.length c) := by rw [← hW3]; exact (cell_new w _ _ _ _).trans rfl
  have e1 : W3.cell? ⟨w.heap.size, 1, none⟩ = some (.bool fk) := by rw [← hW3]; exact (cell_new w _ _ _ _).trans rfl
  have HB3 : Hid (Blk W3 g #[.slice (some ⟨b, off, none⟩) l.length vc, .int .i64 i, .int .i64 part, .int .i64 told] 47) := HB.out.below b3
  have HO3 : Hid (OwnS base 54 W3 (.slice (some ⟨b, off, none⟩) l.length vc) l) := HO.out.below b3
  have HBy3 : Hid (Byt W3 (.slice a dk.length c) dk) := HBy.out.below b3
  have f1 : W3.cell? ⟨g, 1, none⟩ = some (.int .i64 i) := HB3.out.cell 1
  have f2 : W3.cell? ⟨g, 2, none⟩ = some (.int .i64 part) := HB3.out.cell 2
  rw [hW3]
  clear hW3 h1 h2 h3 d0 d1 n1 n2 n3 n4 n5 HB HO HBy
  have hp0 : (0 : Int) ≤ (part : Int) := by omega
  have hpl : (part : Int) ≤ (dk.length : Int) := by omega
  have HK0 : Hid (l[i] = (dk, fk)) := hkind
  clear hkind
  have g1z : W3.frozen? ⟨g, 1, none⟩ = false := HB3.out.frozen 1
  have g2z : W3.frozen? ⟨g, 2, none⟩ = false := HB3.out.frozen 2
  obtain ⟨L0, HL0⟩ : ∃ L0, Hid (L0 = dk.length - part) := ⟨_, rfl⟩
  have hsub : (dk.length : Int) - (part : Int) = (L0 : Int) := by have := HL0.out; omega
  have hLb : (L0 : Int) ≤ 100000000000000 := by have := HL0.out; omega
  have hwr : IntKind.i64.wrap (L0 : Int) = (L0 : Int) := by rw [IntKind.wrap_i64]; omega
  go_region_held3 (fun w' => w'.cell? ⟨w.heap.size, 0, none⟩ = some (.slice a dk.length c) ∧ w'.cell? ⟨g, 2, none⟩ = some (.int .i64 part)) (go_keep) (fail)
  have hz0 : 0 < L0 := by have := HL0.out; have := HZ.out; omega
  have hzb : ((L0 : Int) == 0) = false := by simp; omega
  obtain ⟨K, HK⟩ : ∃ K, Hid (K = min n L0) := ⟨_, rfl⟩
  have hcap : dk.length ≤ c := by
    rcases HBy3.out.1 with ⟨rfl, _⟩ | ⟨_, b', off', cap', e, hc, _⟩
    · simp
    · simp at e; omega
  have hKb : (K : Int) ≤ 100000000000000 := by have := HK.out; omega
  have hK1 : 1 ≤ K := by have := HK.out; omega
  have HPK : Hid (part + K ≤ dk.length) := by have := HK.out; have := HL0.out; show _ ≤ _; omega
  have hpb : (part : Int) ≤ 100000000000000 := by omega
  have htb : (told : Int) ≤ 100000000000000 := by omega
  have HBX : Hid (∀ W, Below W3.heap.size W3 W → Byt W (.slice (if c = part then a else a.map fun p => p.add part) K (c - part)) ((dk.drop part).take K)) := fun W hW => by
    obtain ⟨hB0, hn0⟩ := HBy3.out
    rcases hB0 with ⟨e, _⟩ | ⟨_, b', off', cap', e, hc, hb', hx⟩
    · have := HPK.out; rw [e] at this; simp at this; omega
    · simp only [Value.slice.injEq] at e
      obtain ⟨rfl, _, rfl⟩ := e
      have h := part_if (w := W) (a := some ⟨b', off', none⟩) (b := b') (off := off') (cap := c) (bs := dk) (fun _ => rfl) (fun _ => Nat.lt_of_lt_of_le hb' hW.size) hc (fun j hj => (hW.cell (p := ⟨b', off' + j, none⟩) hb').trans (hx j hj)) part (part + K) K (by omega) HPK.out (by omega) (fun e => by cases e)
      rwa [Nat.add_sub_cancel_left] at h
  have hmid := fun w => run_mid a dk.length c part K (by have := HPK.out; omega) w
  have HLX : Hid (((dk.drop part).take K).length = K) := by have := HPK.out; show _ = _; simp; omega
  have hKn : ((L0 : Int) < (n : Int) ∧ K = L0) ∨ (¬ (L0 : Int) < (n : Int) ∧ K = n) := by have := HK.out; omega
  generalize (if c = part then a else a.map fun p => p.add part) = ap at *
  generalize c - part = cp at *
  obtain ⟨q1, q2⟩ | ⟨q1, q2⟩ := hKn
  · have q2' : (L0 : Int) = (K : Int) := by omega
    clear q2 hLb hz0 hwr
    go_wp2
    obtain ⟨W4, hW4⟩ : ∃ W4, W3.drew = W4 := ⟨_, rfl⟩
    have b4 : Below W3.heap.size W3 W4 := by rw [← hW4]; exact (Below.refl _ _).drew
    have z4 : W4.heap.size = W3.heap.size := by rw [← hW4]; rfl
    have e04 := (b4.cell (p := ⟨w.heap.size, 0, none⟩) (by show w.heap.size < _; omega)).trans e0
    have e14 := (b4.cell (p := ⟨w.heap.size, 1, none⟩) (by show w.heap.size < _; omega)).trans e1
    have f24 := (b4.cell (p := ⟨g, 2, none⟩) (by show g < _; omega)).trans f2
    have m0 := World.new_ne W4 _ e04
    have m2 := World.new_ne W4 _ f24
    have HB4 : Hid (Blk W4 g #[.slice (some ⟨b, off, none⟩) l.length vc, .int .i64 i, .int .i64 part, .int .i64 told] 47) := HB3.out.below b4
    have HO4 : Hid (OwnS base 54 W4 (.slice (some ⟨b, off, none⟩) l.length vc) l) := HO3.out.below b4
    have hwr2 : IntKind.i64.wrap ((part : Int) + (K : Int)) = (part : Int) + (K : Int) := by rw [IntKind.wrap_i64]; omega
    rw [hW4]
    clear hW4
    go_region_held3 (fun w' => w'.cell? ⟨w.heap.size, 0, none⟩ = some (.slice a dk.length c) ∧ w'.cell? ⟨g, 2, none⟩ = some (.int .i64 part))
      (first | exact ⟨e04, f24⟩ | exact ⟨(cell_under _ _ _ (by show w.heap.size < W4.heap.size; omega)).trans e04, (cell_under _ _ _ (by show g < W4.heap.size; omega)).trans f24⟩ | exact ⟨p0, p2⟩ | go_keep)
      (first | (refine step_bytes (by rfl) _ _ (by rfl) W4.heap.size (.slice (some ⟨W4.heap.size, 0, none⟩) 0 0) 0 [] (by simp [Act.eval]) (owns_empty W4.drew _ 1) (.slice ap K cp) ((dk.drop part).take K) (by simp [Act.eval]) (HBX.out _ (b4.drew.alloc (by show W3.heap.size ≤ W4.heap.size; omega) _)) (by rw [HLX.out]; omega) (by simp) ?_; intro v5 w5 ho5 hg5; rw [Nat.zero_add, List.nil_append, HLX.out] at ho5; have p0 : w5.cell? ⟨w.heap.size, 0, none⟩ = some (.slice a dk.length c) := hg5.cell ((cell_under _ _ _ (by show w.heap.size < W4.heap.size; omega)).trans e04) (by simp [Value.ownBlock]; omega); have p2 : w5.cell? ⟨g, 2, none⟩ = some (.int .i64 part) := hg5.cell ((cell_under _ _ _ (by show g < W4.heap.size; omega)).trans f24) (by simp [Value.ownBlock]; omega)))
    have hw45 : W4.heap.size < w5.heap.size := by have := hg5.size; simp at this; omega
    have HB5 : Hid (Blk w5 g #[.slice (some ⟨b, off, none⟩) l.length vc, .int .i64 i, .int .i64 part, .int .i64 told] 47) := (HB4.out.drew.alloc _).grown hg5 (by simp [Value.ownBlock]; omega)
    have p1 : w5.cell? ⟨w.heap.size, 1, none⟩ = some (.bool fk) := hg5.cell ((cell_under _ _ _ (by show w.heap.size < W4.heap.size; omega)).trans e14) (by simp [Value.ownBlock]; omega)
    have k1 : w5.cell? ⟨g, 1, none⟩ = some (.int .i64 i) := HB5.out.cell 1
    have k3 : w5.cell? ⟨g, 3, none⟩ = some (.int .i64 told) := HB5.out.cell 3
    have y1 : w5.frozen? ⟨g, 1, none⟩ = false := HB5.out.frozen 1
    have y2 : w5.frozen? ⟨g, 2, none⟩ = false := HB5.out.frozen 2
    have y3 : w5.frozen? ⟨g, 3, none⟩ = false := HB5.out.frozen 3
    have b5 : Below w.heap.size w w5 := (((b3.trans (b4.mono (by omega))).drew).alloc (by show w.heap.size ≤ W4.heap.size; omega) _).grown hg5 (by simp; omega) (fun j hj => by simp [Value.ownBlock] at hj; omega)
    have HO5 : Hid (OwnS base 54 w5 (.slice (some ⟨b, off, none⟩) l.length vc) l) := OwnS.grown_new HO4.out ((Below.refl _ W4).drew.alloc (Nat.le_refl _) (.cells #[] 5)) (Nat.le_refl _) hg5
    obtain ⟨va5, vc5, rfl⟩ := owns_slice ho5
    have HD5 : Hid (w5.ownsRow w.heap.size 5 1 (.slice va5 K vc5) K (bvs ((dk.drop part).take K))) := owns_mono ho5 (by omega)
    have HG5 : Hid (w.grownBy w5 (some g)) := grown_below b5
    clear ho5 hg5 b5 HB4 HO4 HB3 HO3 HBX e04 e14 f24 m0 m2 e0 e1 f1 f2 b4 hmid
    go_wp2
    obtain ⟨W6, hW6⟩ : ∃ W6, (w5.setCell ⟨g, 2, none⟩ (.int .i64 ((part : Int) + K))).setCell ⟨g, 3, none⟩ (.int .i64 ((told : Int) + K)) = W6 := ⟨_, rfl⟩
    have HB6 : Hid (Blk W6 g #[.slice (some ⟨b, off, none⟩) l.length vc, .int .i64 i, .int .i64 ((part : Int) + K), .int .i64 ((told : Int) + K)] 47) := by rw [← hW6]; exact (HB5.out.set 2 _).set 3 _
    have q0 : W6.cell? ⟨w.heap.size, 0, none⟩ = some (.slice a dk.length c) := by rw [← hW6]; exact ((World.cell?_setCell_far _ _ _ _ (by show g ≠ w.heap.size; omega)).trans (World.cell?_setCell_far _ _ _ _ (by show g ≠ w.heap.size; omega))).trans p0
    have q1' : W6.cell? ⟨w.heap.size, 1, none⟩ = some (.bool fk) := by rw [← hW6]; exact ((World.cell?_setCell_far _ _ _ _ (by show g ≠ w.heap.size; omega)).trans (World.cell?_setCell_far _ _ _ _ (by show g ≠ w.heap.size; omega))).trans p1
    have r1 : W6.cell? ⟨g, 1, none⟩ = some (.int .i64 i) := HB6.out.cell 1
    have r2 : W6.cell? ⟨g, 2, none⟩ = some (.int .i64 ((part : Int) + K)) := HB6.out.cell 2
    have x1 : W6.frozen? ⟨g, 1, none⟩ = false := HB6.out.frozen 1
    have x2 : W6.frozen? ⟨g, 2, none⟩ = false := HB6.out.frozen 2
    have HW : Hid (W6.ownsRow w.heap.size 5 1 (.slice va5 K vc5) K (bvs ((dk.drop part).take K)) ∧ OwnS base 54 W6 (.slice (some ⟨b, off, none⟩) l.length vc) l ∧ w.grownBy W6 (some g)) := by
      rw [← hW6]
      exact ⟨owns_set (owns_set HD5.out g 2 _ hgl) g 3 _ hgl, OwnS.set (OwnS.set HO5.out g 2 _ hgb) g 3 _ hgb, gset (gset HG5.out 2 _) 3 _⟩
    rw [hW6]
    clear hW6 HB5 HO5 HD5 HG5 p0 p1 p2 k1 k3 y1 y2 y3
    have HKF : Hid (K = min n (dk.length - part)) := by have := HK.out; have := HL0.out; have := HPK.out; show _ = _; omega
    have hib : (i : Int) + 1 ≤ 1000000000001 := by omega
    by_cases hend : part + K = dk.length
    · have hend' : (part : Int) + K = dk.length := by omega
      have hendb : ((part : Int) + K == (dk.length : Int)) = true := by simp [hend']
      cases fk
      all_goals first
        | (go_region_held3 (fun w' => w'.cell? ⟨g, 2, none⟩ = some (.int .i64 ((part : Int) + K)) ∧ w'.cell? ⟨w.heap.size, 0, none⟩ = some (.slice a dk.length c) ∧ w'.cell? ⟨w.heap.size, 1, none⟩ = some (.bool _)) (go_keep) (fail))
        | go_region
      all_goals go_wp2
      all_goals go_ret2
      all_goals first
        | exact ⟨.slice va5 K vc5, K, rfl, HKF.out, HW.out.1, by simp only [nxt, hend, reduceCtorEq, and_false, if_false]; rw [← hend]; exact ⟨HB6.out, hgb, HW.out.2.1⟩, gdrew HW.out.2.2⟩
        | exact ⟨.slice va5 K vc5, K, rfl, HKF.out, owns_set (owns_set (w := W6.drew) HW.out.1 g 1 _ hgl) g 2 _ hgl, by simp only [nxt, hend, and_self, if_true]; exact ⟨(HB6.out.drew.set 1 _).set 2 _, hgb, OwnS.set (OwnS.set (HW.out.2.1.below (Below.refl _ _).drew) g 1 _ hgb) g 2 _ hgb⟩, gset (gset (gdrew HW.out.2.2) 1 _) 2 _⟩
    · exfalso
      have h1 := HL0.out
      have h2 := HPK.out
      omega
  · have q2' : (n : Int) = (K : Int) := by omega
    clear q2 hz0
    go_wp2
    obtain ⟨W4, hW4⟩ : ∃ W4, W3.drew = W4 := ⟨_, rfl⟩
    have b4 : Below W3.heap.size W3 W4 := by rw [← hW4]; exact (Below.refl _ _).drew
    have z4 : W4.heap.size = W3.heap.size := by rw [← hW4]; rfl
    have e04 := (b4.cell (p := ⟨w.heap.size, 0, none⟩) (by show w.heap.size < _; omega)).trans e0
    have e14 := (b4.cell (p := ⟨w.heap.size, 1, none⟩) (by show w.heap.size < _; omega)).trans e1
    have f24 := (b4.cell (p := ⟨g, 2, none⟩) (by show g < _; omega)).trans f2
    have m0 := World.new_ne W4 _ e04
    have m2 := World.new_ne W4 _ f24
    have HB4 : Hid (Blk W4 g #[.slice (some ⟨b, off, none⟩) l.length vc, .int .i64 i, .int .i64 part, .int .i64 told] 47) := HB3.out.below b4
    have HO4 : Hid (OwnS base 54 W4 (.slice (some ⟨b, off, none⟩) l.length vc) l) := HO3.out.below b4
    have hwr2 : IntKind.i64.wrap ((part : Int) + (K : Int)) = (part : Int) + (K : Int) := by rw [IntKind.wrap_i64]; omega
    rw [hW4]
    clear hW4
    go_region_held3 (fun w' => w'.cell? ⟨w.heap.size, 0, none⟩ = some (.slice a dk.length c) ∧ w'.cell? ⟨g, 2, none⟩ = some (.int .i64 part))
      (first | exact ⟨e04, f24⟩ | exact ⟨(cell_under _ _ _ (by show w.heap.size < W4.heap.size; omega)).trans e04, (cell_under _ _ _ (by show g < W4.heap.size; omega)).trans f24⟩ | exact ⟨p0, p2⟩ | go_keep)
      (first | (refine step_bytes (by rfl) _ _ (by rfl) W4.heap.size (.slice (some ⟨W4.heap.size, 0, none⟩) 0 0) 0 [] (by simp [Act.eval]) (owns_empty W4.drew _ 1) (.slice ap K cp) ((dk.drop part).take K) (by simp [Act.eval]) (HBX.out _ (b4.drew.alloc (by show W3.heap.size ≤ W4.heap.size; omega) _)) (by rw [HLX.out]; omega) (by simp) ?_; intro v5 w5 ho5 hg5; rw [Nat.zero_add, List.nil_append, HLX.out] at ho5; have p0 : w5.cell? ⟨w.heap.size, 0, none⟩ = some (.slice a dk.length c) := hg5.cell ((cell_under _ _ _ (by show w.heap.size < W4.heap.size; omega)).trans e04) (by simp [Value.ownBlock]; omega); have p2 : w5.cell? ⟨g, 2, none⟩ = some (.int .i64 part) := hg5.cell ((cell_under _ _ _ (by show g < W4.heap.size; omega)).trans f24) (by simp [Value.ownBlock]; omega)))
    have hw45 : W4.heap.size < w5.heap.size := by have := hg5.size; simp at this; omega
    have HB5 : Hid (Blk w5 g #[.slice (some ⟨b, off, none⟩) l.length vc, .int .i64 i, .int .i64 part, .int .i64 told] 47) := (HB4.out.drew.alloc _).grown hg5 (by simp [Value.ownBlock]; omega)
    have p1 : w5.cell? ⟨w.heap.size, 1, none⟩ = some (.bool fk) := hg5.cell ((cell_under _ _ _ (by show w.heap.size < W4.heap.size; omega)).trans e14) (by simp [Value.ownBlock]; omega)
    have k1 : w5.cell? ⟨g, 1, none⟩ = some (.int .i64 i) := HB5.out.cell 1
    have k3 : w5.cell? ⟨g, 3, none⟩ = some (.int .i64 told) := HB5.out.cell 3
    have y1 : w5.frozen? ⟨g, 1, none⟩ = false := HB5.out.frozen 1
    have y2 : w5.frozen? ⟨g, 2, none⟩ = false := HB5.out.frozen 2
    have y3 : w5.frozen? ⟨g, 3, none⟩ = false := HB5.out.frozen 3
    have b5 : Below w.heap.size w w5 := (((b3.trans (b4.mono (by omega))).drew).alloc (by show w.heap.size ≤ W4.heap.size; omega) _).grown hg5 (by simp; omega) (fun j hj => by simp [Value.ownBlock] at hj; omega)
    have HO5 : Hid (OwnS base 54 w5 (.slice (some ⟨b, off, none⟩) l.length vc) l) := OwnS.grown_new HO4.out ((Below.refl _ W4).drew.alloc (Nat.le_refl _) (.cells #[] 5)) (Nat.le_refl _) hg5
    obtain ⟨va5, vc5, rfl⟩ := owns_slice ho5
    have HD5 : Hid (w5.ownsRow w.heap.size 5 1 (.slice va5 K vc5) K (bvs ((dk.drop part).take K))) := owns_mono ho5 (by omega)
    have HG5 : Hid (w.grownBy w5 (some g)) := grown_below b5
    clear ho5 hg5 b5 HB4 HO4 HB3 HO3 HBX e04 e14 f24 m0 m2 e0 e1 f1 f2 b4 hmid
    go_wp2
    obtain ⟨W6, hW6⟩ : ∃ W6, (w5.setCell ⟨g, 2, none⟩ (.int .i64 ((part : Int) + K))).setCell ⟨g, 3, none⟩ (.int .i64 ((told : Int) + K)) = W6 := ⟨_, rfl⟩
    have HB6 : Hid (Blk W6 g #[.slice (some ⟨b, off, none⟩) l.length vc, .int .i64 i, .int .i64 ((part : Int) + K), .int .i64 ((told : Int) + K)] 47) := by rw [← hW6]; exact (HB5.out.set 2 _).set 3 _
    have q0 : W6.cell? ⟨w.heap.size, 0, none⟩ = some (.slice a dk.length c) := by rw [← hW6]; exact ((World.cell?_setCell_far _ _ _ _ (by show g ≠ w.heap.size; omega)).trans (World.cell?_setCell_far _ _ _ _ (by show g ≠ w.heap.size; omega))).trans p0
    have q1' : W6.cell? ⟨w.heap.size, 1, none⟩ = some (.bool fk) := by rw [← hW6]; exact ((World.cell?_setCell_far _ _ _ _ (by show g ≠ w.heap.size; omega)).trans (World.cell?_setCell_far _ _ _ _ (by show g ≠ w.heap.size; omega))).trans p1
    have r1 : W6.cell? ⟨g, 1, none⟩ = some (.int .i64 i) := HB6.out.cell 1
    have r2 : W6.cell? ⟨g, 2, none⟩ = some (.int .i64 ((part : Int) + K)) := HB6.out.cell 2
    have x1 : W6.frozen? ⟨g, 1, none⟩ = false := HB6.out.frozen 1
    have x2 : W6.frozen? ⟨g, 2, none⟩ = false := HB6.out.frozen 2
    have HW : Hid (W6.ownsRow w.heap.size 5 1 (.slice va5 K vc5) K (bvs ((dk.drop part).take K)) ∧ OwnS base 54 W6 (.slice (some ⟨b, off, none⟩) l.length vc) l ∧ w.grownBy W6 (some g)) := by
      rw [← hW6]
      exact ⟨owns_set (owns_set HD5.out g 2 _ hgl) g 3 _ hgl, OwnS.set (OwnS.set HO5.out g 2 _ hgb) g 3 _ hgb, gset (gset HG5.out 2 _) 3 _⟩
    rw [hW6]
    clear hW6 HB5 HO5 HD5 HG5 p0 p1 p2 k1 k3 y1 y2 y3
    have HKF : Hid (K = min n (dk.length - part)) := by have := HK.out; have := HL0.out; have := HPK.out; show _ = _; omega
    have hib : (i : Int) + 1 ≤ 1000000000001 := by omega
    by_cases hend : part + K = dk.length
    · have hend' : (part : Int) + K = dk.length := by omega
      have hendb : ((part : Int) + K == (dk.length : Int)) = true := by simp [hend']
      cases fk
      all_goals first
        | (go_region_held3 (fun w' => w'.cell? ⟨g, 2, none⟩ = some (.int .i64 ((part : Int) + K)) ∧ w'.cell? ⟨w.heap.size, 0, none⟩ = some (.slice a dk.length c) ∧ w'.cell? ⟨w.heap.size, 1, none⟩ = some (.bool _)) (go_keep) (fail))
        | go_region
      all_goals go_wp2
      all_goals go_ret2
      all_goals first
        | exact ⟨.slice va5 K vc5, K, rfl, HKF.out, HW.out.1, by simp only [nxt, hend, reduceCtorEq, and_false, if_false]; rw [← hend]; exact ⟨HB6.out, hgb, HW.out.2.1⟩, gdrew HW.out.2.2⟩
        | exact ⟨.slice va5 K vc5, K, rfl, HKF.out, owns_set (owns_set (w := W6.drew) HW.out.1 g 1 _ hgl) g 2 _ hgl, by simp only [nxt, hend, and_self, if_true]; exact ⟨(HB6.out.drew.set 1 _).set 2 _, hgb, OwnS.set (OwnS.set (HW.out.2.1.below (Below.refl _ _).drew) g 1 _ hgb) g 2 _ hgb⟩, gset (gset (gdrew HW.out.2.2) 1 _) 2 _⟩
    · have hend' : ¬ (part : Int) + K = dk.length := by omega
      have hendb : ((part : Int) + K == (dk.length : Int)) = false := by simp; omega
      cases fk
      all_goals first
        | go_region
        | fail
      all_goals go_wp2
      all_goals go_ret2
      all_goals exact ⟨.slice va5 K vc5, K, rfl, HKF.out, HW.out.1, by simp only [nxt, hend, false_and, if_false]; exact ⟨HB6.out, hgb, HW.out.2.1⟩, gdrew HW.out.2.2⟩
end Go.Proofs.Ytkpjmcoihbebkaa.C
