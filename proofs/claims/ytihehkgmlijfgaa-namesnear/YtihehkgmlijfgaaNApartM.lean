/- What is proved here: what Near, Distance and Sets have to do with each other (for NamesApart). -/
import Derived.Test.YtihehkgmlijfgaaNAwake
import Derived.Test.YtihehkgmlijfgaaNSets
import Derived.Test.YtihehkgmlijfgaaNNear
namespace Go.Proofs.Ytihehkgmlijfgaa.N
open Go.RowKit C

theorem dist_b {w W : World} (hb : Below w.heap.size w W) (s t : ByteArray) (hs : s.size ≤ 9223372036854775807) (ht : t.size ≤ 9223372036854775807) :
    Calls Try.prog 24 #[.string s, .string t] W fun e w' => e = .returned (.int .i64 (dist s.data.toList t.data.toList)) ∧ Below w.heap.size w w' := (dist_calls s t W hs ht).mono fun _ _ h => ⟨h.1, hb.trans (h.2.mono hb.size)⟩
theorem near_b {w W : World} (hb : Below w.heap.size w W) (s : ByteArray) (hs : s.size ≤ 9223372036854775807) :
    Calls Try.prog 22 #[.string s] W fun e w' => e = .returned (.tuple #[.string ⟨(nearTo (lower s.data.toList) KN).1.toArray⟩, .int .i64 (nearTo (lower s.data.toList) KN).2]) ∧ Below w.heap.size w w' := (near_calls s W hs).mono fun _ _ h => ⟨h.1, hb.trans (h.2.mono hb.size)⟩
theorem lower_b {w W : World} (hb : Below w.heap.size w W) (s : ByteArray) (hs : s.size ≤ 9223372036854775807) :
    Calls Try.prog 26 #[.string s] W fun e w' => e = .returned (.string ⟨(lower s.data.toList).toArray⟩) ∧ Below w.heap.size w w' := (lower_calls s W hs).mono fun _ _ h => ⟨h.1, hb.trans (h.2.mono hb.size)⟩
theorem sets_b {w W : World} (hb : Below w.heap.size w W) (s : ByteArray) (hs : s.size ≤ 9223372036854775807) (hm : MaxOk w) :
    Calls Try.prog 15 #[.string s] W fun e w' => ∃ a cap, e = .returned (.slice a (setsOf s.data.toList).length cap) ∧ Below w.heap.size w w' := (sets_calls s W hs (hm.below hb)).mono fun _ _ ⟨v, h1, h2, h3⟩ => by
  obtain ⟨a, cap, rfl⟩ := owns_slice h2
  exact ⟨a, cap, h1, hb.trans (h3.mono hb.size)⟩
theorem awake_b {w W : World} (hb : Below w.heap.size w W) (hm : MaxOk w) : Calls Try.prog 14 #[] W fun e w' => e = .returned (.bool true) ∧ Below w.heap.size w w' := (awake_calls W (hm.below hb)).mono fun _ _ h => ⟨h.1, hb.trans (h.2.mono hb.size)⟩

theorem dist_is {w W : World} (hb : Below w.heap.size w W) (s t : ByteArray) (hs : s.size ≤ 9223372036854775807) (ht : t.size ≤ 9223372036854775807) (X : Nat) (h : dist s.data.toList t.data.toList = X) :
    Calls Try.prog 24 #[.string s, .string t] W fun e w' => e = .returned (.int .i64 X) ∧ Below w.heap.size w w' := by subst h; exact dist_b hb s t hs ht
theorem sets_is {w W : World} (hb : Below w.heap.size w W) (s : ByteArray) (hs : s.size ≤ 9223372036854775807) (hm : MaxOk w) (P : Nat) (h : (setsOf s.data.toList).length = P) :
    Calls Try.prog 15 #[.string s] W fun e w' => ∃ a cap, e = .returned (.slice a P cap) ∧ Below w.heap.size w w' := by subst h; exact sets_b hb s hs hm

theorem dist_comm (a b : List UInt8) : dist a b = dist b a := lev_comm _ _
theorem dist_tri (a b c : List UInt8) : dist a c ≤ dist a b + dist b c := lev_tri _ _ _
theorem dist_max (a b : List UInt8) : dist a b ≤ max a.length b.length := by
  have := lev_max (a.take 100).reverse (b.take 100).reverse
  simp only [List.length_reverse, List.length_take] at this
  unfold dist
  omega
theorem dist_low (a b : List UInt8) (ha : a.length ≤ 100) : a.length ≤ dist a b + b.length := by
  have := lev_low (a.take 100).reverse (b.take 100).reverse
  simp only [List.length_reverse, List.length_take] at this
  unfold dist
  omega
theorem dist_iff (a b : List UInt8) (ha : a.length ≤ 100) (hb : b.length ≤ 100) : dist a b = 0 ↔ a = b := ⟨fun h => dist_zero h ha hb, fun h => by rw [h]; exact dist_self b⟩
/-- What Near says of a text. -/
structure NearOf (l N : List UInt8) (D : Nat) : Prop where
  eq : nearTo (lower l) KN = (N, D)
  mem : N ∈ KN
  far : dist (lower l) N = D
theorem near_of_l (l : List UInt8) : ∃ N D, NearOf l N D := by
  obtain ⟨h1, h2, -⟩ := nearTo_all (lower l) KN (by decide)
  obtain ⟨⟨N, D⟩, hp⟩ : ∃ p, nearTo (lower l) KN = p := ⟨_, rfl⟩
  rw [hp] at h1 h2
  exact ⟨N, D, hp, h1, h2.symm⟩
theorem NearOf.again {l N : List UInt8} {D : Nat} (h : NearOf l N D) : NearOf N N 0 :=
  ⟨by rw [kn_lower N h.mem]; exact nearTo_self N KN h.mem kn_short, h.mem, by rw [kn_lower N h.mem]; exact dist_self N⟩
theorem NearOf.self {l N : List UInt8} {D : Nat} (h : NearOf l N D) (hp : 0 < (setsOf l).length) : N = l := by
  obtain ⟨k, hk⟩ := List.length_pos_iff_exists_mem.1 hp
  have hl : l ∈ KN := (mem_kn l).2 ⟨k, (mem_setsOf l k).1 hk⟩
  have he := h.eq
  rw [kn_lower l hl, nearTo_self l KN hl kn_short] at he
  exact (Prod.mk.inj he).1.symm
theorem near_is {w W : World} (hb : Below w.heap.size w W) (s : ByteArray) (hs : s.size ≤ 9223372036854775807) (N : List UInt8) (D : Nat) (h : NearOf s.data.toList N D) :
    Calls Try.prog 22 #[.string s] W fun e w' => e = .returned (.tuple #[.string ⟨N.toArray⟩, .int .i64 D]) ∧ Below w.heap.size w w' := by
  have h1 := near_b hb s hs
  rw [h.eq] at h1
  exact h1
theorem data_mk (N : List UInt8) : (⟨N.toArray⟩ : ByteArray).data.toList = N := rfl
theorem size_mk (N : List UInt8) : (⟨N.toArray⟩ : ByteArray).size = N.length := by rw [← size_data, data_mk]

end Go.Proofs.Ytihehkgmlijfgaa.N
