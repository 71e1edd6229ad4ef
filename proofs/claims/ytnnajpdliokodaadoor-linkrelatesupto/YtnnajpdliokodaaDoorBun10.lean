/- What is proved here: laws and contracts of LkRoadM, LkEq, LkRelM, one behind the other (each says its own). -/
import Derived.Test.YtnnajpdliokodaaDoorBun9
import Derived.Laws.StructEq
import Derived.Test.YtnnajpdliokodaaDoorBun8
/- What is proved here: a text of runes without its dot segments is a text of runes. -/
namespace Go.Proofs.YtnnajpdliokodaaDoor.L
open Go.RowKit Go.Shelf Go.Proofs.YtnnajpdliokodaaDoor.N Go.Proofs.YtnnajpdliokodaaDoor.U

theorem Val.drop {i : List UInt8} (h : Val i) : ∀ (k : Nat), (∀ c ∈ i.take k, c.toNat < 128) → Val (i.drop k) := fun k => by
  induction k generalizing i with
  | zero => intro _; exact h
  | succ k ih =>
    intro hk
    cases i with
    | nil => exact val_nil
    | cons c t =>
      have hc := hk c (by simp)
      have ht : Val t := (Val.cut (x := []) (y := t) (c := c) h hc).2
      exact ih ht (fun d hd => hk d (by simp [hd]))
theorem pre_take {p i : List UInt8} (h : p.isPrefixOf i = true) : i.take p.length = p := by
  obtain ⟨t, rfl⟩ := List.isPrefixOf_iff_prefix.1 h
  simp
theorem head_of (q : UInt8 → Bool) (l : List UInt8) : l.dropWhile q = [] ∨ ∃ c t, l.dropWhile q = c :: t ∧ q c = false := by
  induction l with
  | nil => exact .inl rfl
  | cons c t ih =>
    rw [List.dropWhile_cons]
    cases h : q c with
    | true => simpa using ih
    | false => exact .inr ⟨c, t, by simp, h⟩
theorem val_cutLast {o : List UInt8} (h : Val o) : Val (cutLast o) := by
  unfold cutLast
  rcases head_of (fun c => !(c == 47)) o.reverse with e | ⟨c, t, e, hc⟩
  · rw [e]; exact val_nil
  · have hc' : c = 47 := by simpa using hc
    subst hc'
    obtain ⟨x, hx⟩ := List.dropWhile_suffix (fun c => !(c == 47)) (l := o.reverse)
    rw [e] at hx ⊢
    have ho := congrArg List.reverse hx
    rw [List.reverse_reverse] at ho
    have ho2 : o = t.reverse ++ 47 :: x.reverse := by rw [← ho]; simp
    rw [ho2] at h
    show Val t.reverse
    exact (h.cut (by decide)).1
theorem dotStep_val {i o : List UInt8} (hi : Val i) (ho : Val o) (h0 : i ≠ []) : Val (dotStep i o).1 ∧ Val (dotStep i o).2 := by
  have asc : ∀ (p : List UInt8) (k : Nat), p.isPrefixOf i = true → k ≤ p.length → (∀ c ∈ p, c.toNat < 128) → Val (i.drop k) := fun p k hp hk ha => hi.drop k (fun c hc => ha c (by
    rw [← pre_take hp]
    have : i.take k = (i.take p.length).take k := by rw [List.take_take, Nat.min_eq_left hk]
    rw [this] at hc
    exact List.mem_of_mem_take hc))
  unfold dotStep
  split
  · rename_i h; exact ⟨asc _ 3 h (by decide) (by decide), ho⟩
  split
  · rename_i h; exact ⟨asc _ 2 h (by decide) (by decide), ho⟩
  split
  · rename_i h; exact ⟨asc _ 2 h (by decide) (by decide), ho⟩
  split
  · exact ⟨val_one 47 (by decide), ho⟩
  split
  · rename_i h; exact ⟨asc _ 3 h (by decide) (by decide), val_cutLast ho⟩
  split
  · exact ⟨val_one 47 (by decide), val_cutLast ho⟩
  split
  · exact ⟨val_nil, ho⟩
  · cases i with
    | nil => exact absurd rfl h0
    | cons c t =>
      have e1 : segN (c :: t) = upToL [47] t + 1 := by unfold segN; simp; omega
      rw [e1]
      simp only [List.drop_succ_cons, List.take_succ_cons]
      obtain ⟨_, g2⟩ := upToL_cut [47] t
      have e0 : t.take (upToL [47] t) ++ t.drop (upToL [47] t) = t := List.take_append_drop _ _
      rcases g2 with e | ⟨d, u, e, hd⟩
      · rw [e, List.append_nil] at e0
        rw [e, e0]
        exact ⟨val_nil, ho.app hi⟩
      · simp at hd
        subst hd
        rw [e] at e0 ⊢
        rw [← e0] at hi
        obtain ⟨v1, v2⟩ := Val.cut (x := c :: t.take (upToL [47] t)) (y := u) (c := 47) hi (by decide)
        exact ⟨v2.cons (by decide), ho.app v1⟩
theorem dotsF_val : ∀ (f : Nat) (i o : List UInt8), Val i → Val o → Val (dotsF f i o)
  | 0, _, _, _, ho => ho
  | f + 1, i, o, hi, ho => by
    unfold dotsF
    split
    · exact ho
    · rename_i h
      have h0 : i ≠ [] := by simpa using h
      obtain ⟨v1, v2⟩ := dotStep_val hi ho h0
      exact dotsF_val f _ _ v1 v2
theorem dotsM_val {i : List UInt8} (h : Val i) : Val (dotsM i) := dotsF_val _ _ _ h val_nil
/-- The parts of a text of runes. -/
theorem split_vals {s : List UInt8} (h : Val s) : Val (splitK s).sc ∧ Val (splitK s).ho ∧ Val (splitK s).pa ∧ Val (splitK s).qu ∧ Val (splitK s).fr := by
  have e := split_val h
  refine ⟨?_, ?_, ?_, ?_, ?_⟩
  · rw [← e]; exact val_mend _
  · rw [← e]; exact val_mend _
  · rw [← e]; exact val_mend _
  · rw [← e]; exact val_mend _
  · rw [← e]; exact val_mend _
/-- A resolved path stays without dot segments. -/
theorem resolve_dots {b r : Lk} (hb : Val b.pa) (hr : Val r.pa) (h0 : (r.pa == []) = false) : dotsM (mendL (resolveK b r).pa) = (resolveK b r).pa := by
  have key : ∀ x, Val x → dotsM (mendL (dotsM x)) = dotsM x := fun x hx => by rw [(dotsM_val hx).mend, dotsM_again]
  unfold resolveK
  split
  · exact key _ hr
  split
  · exact key _ hr
  rw [if_neg (by rw [h0]; decide)]
  split
  · exact key _ hr
  · exact key _ ((val_folder hb).app hr)
end Go.Proofs.YtnnajpdliokodaaDoor.L

/- What is proved here: two links are the same where all their parts are. -/
namespace Go.Proofs.YtnnajpdliokodaaDoor.L
open Go.RowKit Go.Shelf Go.Proofs.YtnnajpdliokodaaDoor.N Go.Proofs.YtnnajpdliokodaaDoor.U

/-- Are two links the same? -/
def sameK (l m : Lk) : Bool := l.sc == m.sc && (l.ho == m.ho && (l.pa == m.pa && (l.qu == m.qu && (l.fr == m.fr && (l.hs == m.hs && (l.hh == m.hh && (l.hq == m.hq && l.hf == m.hf)))))))
theorem sameK_refl (l : Lk) : sameK l l = true := by unfold sameK; simp
theorem sameK_eq {l m : Lk} (h : sameK l m = true) : l = m := by
  obtain ⟨sc, ho, pa, qu, fr, h1, h2, h3, h4⟩ := l
  obtain ⟨sc', ho', pa', qu', fr', h1', h2', h3', h4'⟩ := m
  unfold sameK at h
  simp at h
  obtain ⟨rfl, rfl, rfl, rfl, rfl, rfl, rfl, rfl, rfl⟩ := h
  rfl
theorem str_toList (x : List UInt8) : (⟨x.toArray⟩ : ByteArray).toList = x := by rw [ByteArray.toList_eq]
set_option maxRecDepth 100000 in
set_option maxHeartbeats 1000000 in
theorem equalIn_links (l m : Lk) (w : World) : (Op.equalIn 10000 24 l.v m.v).run Tryd.prog w = .ok (sameK l m) w := by
  obtain ⟨sc, ho, pa, qu, fr, h1, h2, h3, h4⟩ := l
  obtain ⟨sc', ho', pa', qu', fr', h1', h2', h3', h4'⟩ := m
  unfold Lk.v sameK
  simp only
  rw [run_equalIn_struct w 9999 24 _ _ (by kernel_rfl) (by kernel_rfl)]
  simp [go_sem]
  by_cases hx : sc = sc'
  case neg => simp [hx]
  subst hx
  simp only [if_true, beq_self_eq_true, Bool.true_and]
  by_cases hx : ho = ho'
  case neg => simp [hx]
  subst hx
  simp only [if_true, beq_self_eq_true, Bool.true_and]
  by_cases hx : pa = pa'
  case neg => simp [hx]
  subst hx
  simp only [if_true, beq_self_eq_true, Bool.true_and]
  by_cases hx : qu = qu'
  case neg => simp [hx]
  subst hx
  simp only [if_true, beq_self_eq_true, Bool.true_and]
  by_cases hx : fr = fr'
  case neg => simp [hx]
  subst hx
  simp only [if_true, beq_self_eq_true, Bool.true_and]
  by_cases hx : h1 = h1'
  case neg => simp [hx]
  subst hx
  simp only [if_true, beq_self_eq_true, Bool.true_and]
  by_cases hx : h2 = h2'
  case neg => simp [hx]
  subst hx
  simp only [if_true, beq_self_eq_true, Bool.true_and]
  by_cases hx : h3 = h3'
  case neg => simp [hx]
  subst hx
  simp only [if_true, beq_self_eq_true, Bool.true_and]
  by_cases hx : h4 = h4'
  case neg => simp [hx]
  subst hx
  simp
/-- '==' of two links. -/
theorem eql_links (l m : Lk) (w : World) : (binOp .eql 24 l.v m.v).run Tryd.prog w = .ok (.bool (sameK l m)) w := by
  have h := equalIn_links l m w
  unfold Lk.v at h ⊢
  rw [run_eql_struct, h]
  rfl
theorem eql_guard (l m : Lk) (x y : Operand) (w : World) : (eqGuard .eql 24 x y l.v m.v).run Tryd.prog w = .ok () w := by
  unfold Lk.v
  exact run_eqGuard_agg w .eql 24 x y _ _ (by kernel_rfl)
end Go.Proofs.YtnnajpdliokodaaDoor.L

/- What is proved here: a link told by a base, as lists: what the document says. -/
namespace Go.Proofs.YtnnajpdliokodaaDoor.L
open Go.RowKit Go.Shelf Go.Proofs.YtnnajpdliokodaaDoor.N Go.Proofs.YtnnajpdliokodaaDoor.U

def refFrag (t : Lk) : Lk := ⟨[], [], [], [], t.fr, false, false, false, t.hf⟩
def refQuery (t : Lk) : Lk := ⟨[], [], [], t.qu, t.fr, false, false, t.hq, t.hf⟩
def refLast (t : Lk) : Lk := ⟨[], [], t.pa.drop (folderN t.pa), t.qu, t.fr, false, false, t.hq, t.hf⟩
def refPath (t : Lk) : Lk := ⟨[], [], t.pa, t.qu, t.fr, false, false, t.hq, t.hf⟩
def refHost (t : Lk) : Lk := ⟨[], t.ho, t.pa, t.qu, t.fr, false, t.hh, t.hq, t.hf⟩
/-- As few of a link's parts as say it in a place that a base names. -/
def relativeK (b t : Lk) : Lk :=
  if sameK (resolveK b (refFrag t)) t then refFrag t
  else if sameK (resolveK b (refQuery t)) t then refQuery t
  else if sameK (resolveK b (refLast t)) t then refLast t
  else if sameK (resolveK b (refPath t)) t then refPath t
  else if sameK (resolveK b (refHost t)) t then refHost t
  else t
theorem val_last {p : List UInt8} (h : Val p) : Val (p.drop (folderN p)) := by
  obtain ⟨h1, h2, _⟩ := folderN_cases p
  by_cases e0 : folderN p = 0
  · rw [e0]; exact h
  · rcases h1 with e | e
    · exact absurd e e0
    · have h4 : folderN p - 1 < p.length := by omega
      have h5 := List.take_succ_eq_append_getElem h4
      rw [show folderN p - 1 + 1 = folderN p by omega] at h5
      have e2 : p.getD (folderN p - 1) 0 = p[folderN p - 1] := by simp [h4]
      have e3 : p[folderN p - 1] = 47 := by rw [← e2]; simpa using e
      have h7 := List.take_append_drop (folderN p) p
      rw [h5, e3, List.append_assoc] at h7
      have h8 : p = p.take (folderN p - 1) ++ 47 :: p.drop (folderN p) := h7.symm
      rw [h8] at h
      exact (h.cut (by decide)).2
/-- A link all of whose texts are texts of runes. -/
structure Lk.Vals (l : Lk) : Prop where
  sc : Val l.sc
  ho : Val l.ho
  pa : Val l.pa
  qu : Val l.qu
  fr : Val l.fr
theorem Lk.Vals.mend {l : Lk} (h : l.Vals) : l.mend = l := by
  unfold Lk.mend
  rw [h.sc.mend, h.ho.mend, h.pa.mend, h.qu.mend, h.fr.mend]
theorem mend_vals (l : Lk) : l.mend.Vals := ⟨val_mend _, val_mend _, val_mend _, val_mend _, val_mend _⟩
theorem refs_mend {t : Lk} (h : t.Vals) : (refFrag t).mend = refFrag t ∧ (refQuery t).mend = refQuery t ∧ (refLast t).mend = refLast t ∧ (refPath t).mend = refPath t ∧ (refHost t).mend = refHost t :=
  ⟨Lk.Vals.mend ⟨val_nil, val_nil, val_nil, val_nil, h.fr⟩, Lk.Vals.mend ⟨val_nil, val_nil, val_nil, h.qu, h.fr⟩, Lk.Vals.mend ⟨val_nil, val_nil, val_last h.pa, h.qu, h.fr⟩, Lk.Vals.mend ⟨val_nil, val_nil, h.pa, h.qu, h.fr⟩, Lk.Vals.mend ⟨val_nil, h.ho, h.pa, h.qu, h.fr⟩⟩
theorem refs_small {t : Lk} {n : Nat} (h : t.Small n) : (refFrag t).Small n ∧ (refQuery t).Small n ∧ (refLast t).Small n ∧ (refPath t).Small n ∧ (refHost t).Small n := by
  have z : ([] : List UInt8).length ≤ n := Nat.zero_le _
  refine ⟨⟨z, z, z, z, h.fr⟩, ⟨z, z, z, h.qu, h.fr⟩, ⟨z, z, ?_, h.qu, h.fr⟩, ⟨z, z, h.pa, h.qu, h.fr⟩, ⟨z, h.ho, h.pa, h.qu, h.fr⟩⟩
  have := h.pa
  show (t.pa.drop (folderN t.pa)).length ≤ n
  rw [List.length_drop]
  omega
end Go.Proofs.YtnnajpdliokodaaDoor.L
