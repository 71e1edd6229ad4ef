/- What is proved here: the contract of names.Known: all names that are in some set, in rising order. -/
import Derived.Lib.SlMapMerge
import Derived.Sort.KeysCollected
import Derived.Test.YtjgppdjbcmadcaaNSets
namespace Go.Proofs.Ytjgppdjbcmadcaa.N
open Go.RowKit Go.Maps Go.Sort Go.Shelf C

/-- All names, in rising order. -/
def KN : List (List UInt8) := [[97], [97, 98, 98, 114], [97, 100, 100, 114, 101, 115, 115], [97, 112, 112, 108, 101, 116], [97, 114, 101, 97], [97, 114, 116, 105, 99, 108, 101], [97, 115, 105, 100, 101], [98], [98, 97, 115, 101], [98, 97, 115, 101, 102, 111, 110, 116], [98, 100, 105], [98, 100, 111], [98, 103, 115, 111, 117, 110, 100], [98, 105, 103], [98, 108, 111, 99, 107, 113, 117, 111, 116, 101], [98, 111, 100, 121], [98, 114], [98, 117, 116, 116, 111, 110], [99, 97, 112, 116, 105, 111, 110], [99, 101, 110, 116, 101, 114], [99, 105, 116, 101], [99, 111, 100, 101], [99, 111, 108], [99, 111, 108, 103, 114, 111, 117, 112], [100, 97, 116, 97], [100, 100], [100, 101, 108], [100, 101, 116, 97, 105, 108, 115], [100, 102, 110], [100, 105, 97, 108, 111, 103], [100, 105, 114], [100, 105, 118], [100, 108], [100, 116], [101, 109], [101, 109, 98, 101, 100], [102, 105, 101, 108, 100, 115, 101, 116], [102, 105, 103, 99, 97, 112, 116, 105, 111, 110], [102, 105, 103, 117, 114, 101], [102, 111, 110, 116], [102, 111, 111, 116, 101, 114], [102, 111, 114, 109], [102, 114, 97, 109, 101], [102, 114, 97, 109, 101, 115, 101, 116], [104, 49], [104, 50], [104, 51], [104, 52], [104, 53], [104, 54], [104, 101, 97, 100], [104, 101, 97, 100, 101, 114], [104, 103, 114, 111, 117, 112], [104, 114], [104, 116, 109, 108], [105], [105, 102, 114, 97, 109, 101], [105, 109, 103], [105, 110, 112, 117, 116], [105, 110, 115], [107, 98, 100], [107, 101, 121, 103, 101, 110], [108, 97, 98, 101, 108], [108, 105], [108, 105, 110, 107], [108, 105, 115, 116, 105, 110, 103], [109, 97, 105, 110], [109, 97, 114, 107], [109, 97, 114, 113, 117, 101, 101], [109, 101, 110, 117], [109, 101, 116, 97], [110, 97, 118], [110, 111, 98, 114], [110, 111, 101, 109, 98, 101, 100], [110, 111, 102, 114, 97, 109, 101, 115], [110, 111, 115, 99, 114, 105, 112, 116], [111, 98, 106, 101, 99, 116], [111, 108], [111, 112, 116, 103, 114, 111, 117, 112], [111, 112, 116, 105, 111, 110], [112], [112, 97, 114, 97, 109], [112, 108, 97, 105, 110, 116, 101, 120, 116], [112, 114, 101], [113], [114, 98], [114, 112], [114, 116], [114, 116, 99], [115], [115, 97, 109, 112], [115, 99, 114, 105, 112, 116], [115, 101, 97, 114, 99, 104], [115, 101, 99, 116, 105, 111, 110], [115, 101, 108, 101, 99, 116], [115, 109, 97, 108, 108], [115, 111, 117, 114, 99, 101], [115, 112, 97, 110], [115, 116, 114, 105, 107, 101], [115, 116, 114, 111, 110, 103], [115, 116, 121, 108, 101], [115, 117, 98], [115, 117, 109, 109, 97, 114, 121], [115, 117, 112], [116, 97, 98, 108, 101], [116, 98, 111, 100, 121], [116, 100], [116, 101, 109, 112, 108, 97, 116, 101], [116, 101, 120, 116, 97, 114, 101, 97], [116, 102, 111, 111, 116], [116, 104], [116, 104, 101, 97, 100], [116, 105, 109, 101], [116, 105, 116, 108, 101], [116, 114], [116, 114, 97, 99, 107], [116, 116], [117], [117, 108], [118, 97, 114], [119, 98, 114], [120, 109, 112]]
theorem kn_checked : (((List.range 16).all fun k => (SW k).all fun w => KN.contains w) && KN.all (fun w => (List.range 16).any fun k => (SW k).contains w)) = true := by decide +kernel
theorem kn_pair : KN.Pairwise (fun a b => leB a b = true) := by decide +kernel
theorem kn_nodup : KN.Nodup := by decide +kernel
theorem mem_kn (x : List UInt8) : x ∈ KN ↔ ∃ k, k < 16 ∧ x ∈ SW k := by
  have h := kn_checked
  simp only [Bool.and_eq_true, List.all_eq_true, List.any_eq_true, List.contains_iff_mem, List.mem_range] at h
  exact ⟨fun hx => h.2 x hx, fun ⟨k, hk, hx⟩ => h.1 k hk x hx⟩
theorem mem_insertD (x p : Lit × DataW Unit) (l : List (Lit × DataW Unit)) : p ∈ DataW.insert x l ↔ p = x ∨ p ∈ l := (WideShapes.insert_perm x l).mem_iff.trans List.mem_cons
/-- A map whose keys are texts, no key twice. -/
def StrMap (D : DataW Unit) : Prop := ∃ es, D = .map es ∧ es.Pairwise (fun p q => p.1 ≠ q.1) ∧ ∀ p ∈ es, ∃ x, p.1 = .string x
theorem StrMap.tidy {D : DataW Unit} (h : StrMap D) : Tidy D := let ⟨es, e, hp, _⟩ := h; ⟨es, e, hp⟩
theorem StrMap.put {D : DataW Unit} (h : StrMap D) (x : List UInt8) (d : DataW Unit) : StrMap (D.put (.string x) d) := by
  obtain ⟨es', e', hp'⟩ := Tidy.put (k := .string x) h.tidy trivial d
  obtain ⟨es, e, _, hs⟩ := h
  refine ⟨es', e', hp', fun p hp => ?_⟩
  rw [e] at e'
  have e2 : DataW.map (DataW.insert (.string x, d) (es.filter fun p => !p.1.sameKey (.string x))) = .map es' := e'
  injection e2 with e2
  subst e2
  rcases (mem_insertD _ _ _).1 hp with rfl | hp
  · exact ⟨_, rfl⟩
  · exact hs p (List.mem_filter.1 hp).1
theorem StrMap.fold : ∀ (es : List (Lit × DataW Unit)) (D : DataW Unit), StrMap D → (∀ p ∈ es, ∃ x, p.1 = .string x) → StrMap (es.foldl (fun D p => D.put p.1 p.2) D)
  | [], D, h, _ => h
  | p :: r, D, h, hs => by
    obtain ⟨x, hx⟩ := hs p (by simp)
    rw [List.foldl_cons, hx]
    exact StrMap.fold r _ (h.put x _) (fun q hq => hs q (by simp [hq]))
theorem strMap_mem (L : List (List UInt8)) : ∀ k, StrMap (memTo L k)
  | 0 => ⟨[], rfl, List.Pairwise.nil, fun p hp => by cases hp⟩
  | k + 1 => (strMap_mem L k).put _ _
/-- The map of all names, those of the first k sets. -/
def KD : Nat → DataW Unit
  | 0 => .map []
  | k + 1 => Lib.mergeD (KD k) (memTo (SW k) (SW k).length)
theorem KD_str : ∀ k, StrMap (KD k)
  | 0 => ⟨[], rfl, List.Pairwise.nil, fun p hp => by cases hp⟩
  | k + 1 => by
    obtain ⟨es, e, _, h⟩ := strMap_mem (SW k) (SW k).length
    rw [KD, e]
    exact StrMap.fold es _ (KD_str k) h
theorem KD_has (x : List UInt8) : ∀ k, Maps.has (KD k) (.string x) = true ↔ ∃ j, j < k ∧ x ∈ SW j
  | 0 => by simp [KD, Maps.has]
  | k + 1 => by
    obtain ⟨es, e, _, h⟩ := strMap_mem (SW k) (SW k).length
    have hm := memTo_has (SW k) x (SW k).length
    rw [e] at hm
    have hp : ∀ p ∈ es, WideAt.IsKeyLit p.1 := fun p hp => by obtain ⟨y, hy⟩ := h p hp; rw [hy]; exact trivial
    rw [KD, e]
    show Maps.has (es.foldl (fun D p => D.put p.1 p.2) (KD k)) (.string x) = true ↔ _
    rw [has_foldPut _ es _ (KD_str k).tidy.isMap hp, Bool.or_eq_true, KD_has x k, ← has_eq, hm]
    constructor
    · rintro (⟨j, hj, hx⟩ | ⟨j, hj, hx⟩)
      · exact ⟨j, by omega, hx⟩
      · exact ⟨k, by omega, by rw [← hx]; simp [List.getD, hj]⟩
    · rintro ⟨j, hj, hx⟩
      by_cases ejk : j = k
      · subst ejk
        obtain ⟨i, hi, ei⟩ := List.mem_iff_getElem.1 hx
        exact .inr ⟨i, hi, by simp [List.getD, hi, ei]⟩
      · exact .inl ⟨j, by omega, hx⟩
theorem known_perm : KN.Perm (strKeys (KD 16)) := by
  obtain ⟨es, e, h1, h2⟩ := KD_str 16
  rw [e]
  refine perm_strKeys h1 h2 kn_nodup fun x => ?_
  rw [← e, KD_has, mem_kn]
theorem sorted_known (ss : List (List UInt8)) (h : ss.Perm (strKeys (KD 16))) : ss.mergeSort leB = KN := by
  have tr : ∀ a b c : List UInt8, leB a b = true → leB b c = true → leB a c = true := fun a b c h1 h2 => by simp only [leB, decide_eq_true_eq] at *; exact List.le_trans h1 h2
  have to : ∀ a b : List UInt8, (leB a b || leB b a) = true := fun a b => by simp only [leB, Bool.or_eq_true, decide_eq_true_eq]; exact List.le_total a b
  refine List.Perm.eq_of_pairwise (le := fun a b => leB a b = true) (fun a b _ _ h1 h2 => ?_) (List.pairwise_mergeSort tr to ss) kn_pair ((List.mergeSort_perm ss leB).trans (h.trans known_perm.symm))
  simp only [leB, decide_eq_true_eq] at h1 h2
  exact List.le_antisymm h1 h2

end Go.Proofs.Ytjgppdjbcmadcaa.N
