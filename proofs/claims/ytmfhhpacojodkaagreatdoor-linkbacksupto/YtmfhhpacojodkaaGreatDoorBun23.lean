/- What is proved here: laws and contracts of LkRoadM, LkEq, LkRelM, LpFold, LpMended, one behind the other (each says its own). -/
import Derived.Test.YtmfhhpacojodkaaGreatDoorBun22
import Derived.Laws.StructEq
import Derived.Test.YtmfhhpacojodkaaGreatDoorBun20
import Derived.Test.YtmfhhpacojodkaaGreatDoorBun11
import Derived.Test.YtmfhhpacojodkaaGreatDoorTShelf
import Derived.Lib.QuietBelow
import Derived.BigQuiet
import Derived.Deep.RegionWith
import Derived.Deep.CutRange
/- What is proved here: a text of runes without its dot segments is a text of runes. -/
namespace Go.Proofs.YtmfhhpacojodkaaGreatDoor.L
open Go.RowKit Go.Shelf Go.Proofs.YtmfhhpacojodkaaGreatDoor.N Go.Proofs.YtmfhhpacojodkaaGreatDoor.U

theorem Val.drop {i : List UInt8} (h : Val i) : ∀ (k : Nat), (∀ c ∈ i.take k, c.toNat < 128) → Val (i.drop k) := fun k => by
  induction k generalizing i with
  | zero => intro _; exact h
  | succ k ih =>
    intro hk
    cases i with
    | nil => exact val_nil
    | cons c t =>
      have hc := hk c (by simp)
      have ht : Val t := (Val.cut (x := []) (y := t) (c := c) h hc).2
      exact ih ht (fun d hd => hk d (by simp [hd]))
theorem pre_take {p i : List UInt8} (h : p.isPrefixOf i = true) : i.take p.length = p := by
  obtain ⟨t, rfl⟩ := List.isPrefixOf_iff_prefix.1 h
  simp
theorem head_of (q : UInt8 → Bool) (l : List UInt8) : l.dropWhile q = [] ∨ ∃ c t, l.dropWhile q = c :: t ∧ q c = false := by
  induction l with
  | nil => exact .inl rfl
  | cons c t ih =>
    rw [List.dropWhile_cons]
    cases h : q c with
    | true => simpa using ih
    | false => exact .inr ⟨c, t, by simp, h⟩
theorem val_cutLast {o : List UInt8} (h : Val o) : Val (cutLast o) := by
  unfold cutLast
  rcases head_of (fun c => !(c == 47)) o.reverse with e | ⟨c, t, e, hc⟩
  · rw [e]; exact val_nil
  · have hc' : c = 47 := by simpa using hc
    subst hc'
    obtain ⟨x, hx⟩ := List.dropWhile_suffix (fun c => !(c == 47)) (l := o.reverse)
    rw [e] at hx ⊢
    have ho := congrArg List.reverse hx
    rw [List.reverse_reverse] at ho
    have ho2 : o = t.reverse ++ 47 :: x.reverse := by rw [← ho]; simp
    rw [ho2] at h
    show Val t.reverse
    exact (h.cut (by decide)).1
theorem dotStep_val {i o : List UInt8} (hi : Val i) (ho : Val o) (h0 : i ≠ []) : Val (dotStep i o).1 ∧ Val (dotStep i o).2 := by
  have asc : ∀ (p : List UInt8) (k : Nat), p.isPrefixOf i = true → k ≤ p.length → (∀ c ∈ p, c.toNat < 128) → Val (i.drop k) := fun p k hp hk ha => hi.drop k (fun c hc => ha c (by
    rw [← pre_take hp]
    have : i.take k = (i.take p.length).take k := by rw [List.take_take, Nat.min_eq_left hk]
    rw [this] at hc
    exact List.mem_of_mem_take hc))
  unfold dotStep
  split
  · rename_i h; exact ⟨asc _ 3 h (by decide) (by decide), ho⟩
  split
  · rename_i h; exact ⟨asc _ 2 h (by decide) (by decide), ho⟩
  split
  · rename_i h; exact ⟨asc _ 2 h (by decide) (by decide), ho⟩
  split
  · exact ⟨val_one 47 (by decide), ho⟩
  split
  · rename_i h; exact ⟨asc _ 3 h (by decide) (by decide), val_cutLast ho⟩
  split
  · exact ⟨val_one 47 (by decide), val_cutLast ho⟩
  split
  · exact ⟨val_nil, ho⟩
  · cases i with
    | nil => exact absurd rfl h0
    | cons c t =>
      have e1 : segN (c :: t) = upToL [47] t + 1 := by unfold segN; simp; omega
      rw [e1]
      simp only [List.drop_succ_cons, List.take_succ_cons]
      obtain ⟨_, g2⟩ := upToL_cut [47] t
      have e0 : t.take (upToL [47] t) ++ t.drop (upToL [47] t) = t := List.take_append_drop _ _
      rcases g2 with e | ⟨d, u, e, hd⟩
      · rw [e, List.append_nil] at e0
        rw [e, e0]
        exact ⟨val_nil, ho.app hi⟩
      · simp at hd
        subst hd
        rw [e] at e0 ⊢
        rw [← e0] at hi
        obtain ⟨v1, v2⟩ := Val.cut (x := c :: t.take (upToL [47] t)) (y := u) (c := 47) hi (by decide)
        exact ⟨v2.cons (by decide), ho.app v1⟩
theorem dotsF_val : ∀ (f : Nat) (i o : List UInt8), Val i → Val o → Val (dotsF f i o)
  | 0, _, _, _, ho => ho
  | f + 1, i, o, hi, ho => by
    unfold dotsF
    split
    · exact ho
    · rename_i h
      have h0 : i ≠ [] := by simpa using h
      obtain ⟨v1, v2⟩ := dotStep_val hi ho h0
      exact dotsF_val f _ _ v1 v2
theorem dotsM_val {i : List UInt8} (h : Val i) : Val (dotsM i) := dotsF_val _ _ _ h val_nil
/-- The parts of a text of runes. -/
theorem split_vals {s : List UInt8} (h : Val s) : Val (splitK s).sc ∧ Val (splitK s).ho ∧ Val (splitK s).pa ∧ Val (splitK s).qu ∧ Val (splitK s).fr := by
  have e := split_val h
  refine ⟨?_, ?_, ?_, ?_, ?_⟩
  · rw [← e]; exact val_mend _
  · rw [← e]; exact val_mend _
  · rw [← e]; exact val_mend _
  · rw [← e]; exact val_mend _
  · rw [← e]; exact val_mend _
/-- A resolved path stays without dot segments. -/
theorem resolve_dots {b r : Lk} (hb : Val b.pa) (hr : Val r.pa) (h0 : (r.pa == []) = false) : dotsM (mendL (resolveK b r).pa) = (resolveK b r).pa := by
  have key : ∀ x, Val x → dotsM (mendL (dotsM x)) = dotsM x := fun x hx => by rw [(dotsM_val hx).mend, dotsM_again]
  unfold resolveK
  split
  · exact key _ hr
  split
  · exact key _ hr
  rw [if_neg (by rw [h0]; decide)]
  split
  · exact key _ hr
  · exact key _ ((val_folder hb).app hr)
end Go.Proofs.YtmfhhpacojodkaaGreatDoor.L

/- What is proved here: two links are the same where all their parts are. -/
namespace Go.Proofs.YtmfhhpacojodkaaGreatDoor.L
open Go.RowKit Go.Shelf Go.Proofs.YtmfhhpacojodkaaGreatDoor.N Go.Proofs.YtmfhhpacojodkaaGreatDoor.U

/-- Are two links the same? -/
def sameK (l m : Lk) : Bool := l.sc == m.sc && (l.ho == m.ho && (l.pa == m.pa && (l.qu == m.qu && (l.fr == m.fr && (l.hs == m.hs && (l.hh == m.hh && (l.hq == m.hq && l.hf == m.hf)))))))
theorem sameK_refl (l : Lk) : sameK l l = true := by unfold sameK; simp
theorem sameK_eq {l m : Lk} (h : sameK l m = true) : l = m := by
  obtain ⟨sc, ho, pa, qu, fr, h1, h2, h3, h4⟩ := l
  obtain ⟨sc', ho', pa', qu', fr', h1', h2', h3', h4'⟩ := m
  unfold sameK at h
  simp at h
  obtain ⟨rfl, rfl, rfl, rfl, rfl, rfl, rfl, rfl, rfl⟩ := h
  rfl
theorem str_toList (x : List UInt8) : (⟨x.toArray⟩ : ByteArray).toList = x := by rw [ByteArray.toList_eq]
set_option maxRecDepth 100000 in
set_option maxHeartbeats 1000000 in
theorem equalIn_links (l m : Lk) (w : World) : (Op.equalIn 10000 42 l.v m.v).run Tryz.prog w = .ok (sameK l m) w := by
  obtain ⟨sc, ho, pa, qu, fr, h1, h2, h3, h4⟩ := l
  obtain ⟨sc', ho', pa', qu', fr', h1', h2', h3', h4'⟩ := m
  unfold Lk.v sameK
  simp only
  rw [run_equalIn_struct w 9999 42 _ _ (by kernel_rfl) (by kernel_rfl)]
  simp [go_sem]
  by_cases hx : sc = sc'
  case neg => simp [hx]
  subst hx
  simp only [if_true, beq_self_eq_true, Bool.true_and]
  by_cases hx : ho = ho'
  case neg => simp [hx]
  subst hx
  simp only [if_true, beq_self_eq_true, Bool.true_and]
  by_cases hx : pa = pa'
  case neg => simp [hx]
  subst hx
  simp only [if_true, beq_self_eq_true, Bool.true_and]
  by_cases hx : qu = qu'
  case neg => simp [hx]
  subst hx
  simp only [if_true, beq_self_eq_true, Bool.true_and]
  by_cases hx : fr = fr'
  case neg => simp [hx]
  subst hx
  simp only [if_true, beq_self_eq_true, Bool.true_and]
  by_cases hx : h1 = h1'
  case neg => simp [hx]
  subst hx
  simp only [if_true, beq_self_eq_true, Bool.true_and]
  by_cases hx : h2 = h2'
  case neg => simp [hx]
  subst hx
  simp only [if_true, beq_self_eq_true, Bool.true_and]
  by_cases hx : h3 = h3'
  case neg => simp [hx]
  subst hx
  simp only [if_true, beq_self_eq_true, Bool.true_and]
  by_cases hx : h4 = h4'
  case neg => simp [hx]
  subst hx
  simp
/-- '==' of two links. -/
theorem eql_links (l m : Lk) (w : World) : (binOp .eql 42 l.v m.v).run Tryz.prog w = .ok (.bool (sameK l m)) w := by
  have h := equalIn_links l m w
  unfold Lk.v at h ⊢
  rw [run_eql_struct, h]
  rfl
theorem eql_guard (l m : Lk) (x y : Operand) (w : World) : (eqGuard .eql 42 x y l.v m.v).run Tryz.prog w = .ok () w := by
  unfold Lk.v
  exact run_eqGuard_agg w .eql 42 x y _ _ (by kernel_rfl)
end Go.Proofs.YtmfhhpacojodkaaGreatDoor.L

/- What is proved here: a link told by a base, as lists: what the document says. -/
namespace Go.Proofs.YtmfhhpacojodkaaGreatDoor.L
open Go.RowKit Go.Shelf Go.Proofs.YtmfhhpacojodkaaGreatDoor.N Go.Proofs.YtmfhhpacojodkaaGreatDoor.U

def refFrag (t : Lk) : Lk := ⟨[], [], [], [], t.fr, false, false, false, t.hf⟩
def refQuery (t : Lk) : Lk := ⟨[], [], [], t.qu, t.fr, false, false, t.hq, t.hf⟩
def refLast (t : Lk) : Lk := ⟨[], [], t.pa.drop (folderN t.pa), t.qu, t.fr, false, false, t.hq, t.hf⟩
def refPath (t : Lk) : Lk := ⟨[], [], t.pa, t.qu, t.fr, false, false, t.hq, t.hf⟩
def refHost (t : Lk) : Lk := ⟨[], t.ho, t.pa, t.qu, t.fr, false, t.hh, t.hq, t.hf⟩
/-- As few of a link's parts as say it in a place that a base names. -/
def relativeK (b t : Lk) : Lk :=
  if sameK (resolveK b (refFrag t)) t then refFrag t
  else if sameK (resolveK b (refQuery t)) t then refQuery t
  else if sameK (resolveK b (refLast t)) t then refLast t
  else if sameK (resolveK b (refPath t)) t then refPath t
  else if sameK (resolveK b (refHost t)) t then refHost t
  else t
theorem val_last {p : List UInt8} (h : Val p) : Val (p.drop (folderN p)) := by
  obtain ⟨h1, h2, _⟩ := folderN_cases p
  by_cases e0 : folderN p = 0
  · rw [e0]; exact h
  · rcases h1 with e | e
    · exact absurd e e0
    · have h4 : folderN p - 1 < p.length := by omega
      have h5 := List.take_succ_eq_append_getElem h4
      rw [show folderN p - 1 + 1 = folderN p by omega] at h5
      have e2 : p.getD (folderN p - 1) 0 = p[folderN p - 1] := by simp [h4]
      have e3 : p[folderN p - 1] = 47 := by rw [← e2]; simpa using e
      have h7 := List.take_append_drop (folderN p) p
      rw [h5, e3, List.append_assoc] at h7
      have h8 : p = p.take (folderN p - 1) ++ 47 :: p.drop (folderN p) := h7.symm
      rw [h8] at h
      exact (h.cut (by decide)).2
/-- A link all of whose texts are texts of runes. -/
structure Lk.Vals (l : Lk) : Prop where
  sc : Val l.sc
  ho : Val l.ho
  pa : Val l.pa
  qu : Val l.qu
  fr : Val l.fr
theorem Lk.Vals.mend {l : Lk} (h : l.Vals) : l.mend = l := by
  unfold Lk.mend
  rw [h.sc.mend, h.ho.mend, h.pa.mend, h.qu.mend, h.fr.mend]
theorem mend_vals (l : Lk) : l.mend.Vals := ⟨val_mend _, val_mend _, val_mend _, val_mend _, val_mend _⟩
theorem refs_mend {t : Lk} (h : t.Vals) : (refFrag t).mend = refFrag t ∧ (refQuery t).mend = refQuery t ∧ (refLast t).mend = refLast t ∧ (refPath t).mend = refPath t ∧ (refHost t).mend = refHost t :=
  ⟨Lk.Vals.mend ⟨val_nil, val_nil, val_nil, val_nil, h.fr⟩, Lk.Vals.mend ⟨val_nil, val_nil, val_nil, h.qu, h.fr⟩, Lk.Vals.mend ⟨val_nil, val_nil, val_last h.pa, h.qu, h.fr⟩, Lk.Vals.mend ⟨val_nil, val_nil, h.pa, h.qu, h.fr⟩, Lk.Vals.mend ⟨val_nil, h.ho, h.pa, h.qu, h.fr⟩⟩
theorem refs_small {t : Lk} {n : Nat} (h : t.Small n) : (refFrag t).Small n ∧ (refQuery t).Small n ∧ (refLast t).Small n ∧ (refPath t).Small n ∧ (refHost t).Small n := by
  have z : ([] : List UInt8).length ≤ n := Nat.zero_le _
  refine ⟨⟨z, z, z, z, h.fr⟩, ⟨z, z, z, h.qu, h.fr⟩, ⟨z, z, ?_, h.qu, h.fr⟩, ⟨z, z, h.pa, h.qu, h.fr⟩, ⟨z, h.ho, h.pa, h.qu, h.fr⟩⟩
  have := h.pa
  show (t.pa.drop (folderN t.pa)).length ≤ n
  rw [List.length_drop]
  omega
end Go.Proofs.YtmfhhpacojodkaaGreatDoor.L

/- What is proved here: the contract of link.folder: what a base puts ahead of a path that begins with no slash. -/
namespace Go.Proofs.YtmfhhpacojodkaaGreatDoor.L
open Go.RowKit Go.Shelf Go.Proofs.YtmfhhpacojodkaaGreatDoor.N Go.Proofs.YtmfhhpacojodkaaGreatDoor.U

theorem get_data (l : List UInt8) (j : Nat) (hj : j < l.length) : (⟨l.toArray⟩ : ByteArray).data[j]! = l.getD j 0 := by
  simp [hj]
theorem last_slash (p : List UInt8) : Lib.lastIndexByte ⟨p.toArray⟩ 47 = (folderN p : Int) - 1 := by
  have hz : (⟨p.toArray⟩ : ByteArray).size = p.length := arr_size p
  have key : ∀ j, j < p.length → ((⟨p.toArray⟩ : ByteArray).data[j]!.toNat : Int) ≠ 47 → (p.getD j 0 == 47) = false := fun j hj h => by
    rw [get_data p j hj] at h
    rw [← eq_byte]
    exact beq_eq_false_iff_ne.2 h
  unfold Lib.lastIndexByte
  rw [hz]
  rcases Lib.lastIdx_spec ⟨p.toArray⟩ 47 p.length with ⟨e, h⟩ | ⟨i, hi, e, h1, h2⟩
  · rw [e, folderN_at p 0 (by omega) (fun j _ hj => key j hj (h j hj)) (.inl rfl)]
    rfl
  · rw [e, folderN_at p (i + 1) (by omega) (fun j hj1 hj2 => key j hj2 (h2 j (by omega) hj2)) (.inr (by
      rw [get_data p i hi] at h1
      rw [show i + 1 - 1 = i by omega, ← eq_byte]
      exact beq_iff_eq.2 h1))]
    omega
theorem lastByte_calls (p : List UInt8) (w : World) (hp : p.length ≤ 100000000000) : Calls Tryz.prog 38 #[.string ⟨p.toArray⟩, .int .u8 47] w fun e w' => e = .returned (.int .i64 ((folderN p : Int) - 1)) ∧ w' = w := by
  have := Any.strings_LastIndexByte Tryz.lays149 ⟨p.toArray⟩ 47 (by rw [arr_size]; omega) w
  rw [last_slash] at this
  exact this
set_option maxRecDepth 100000 in
set_option maxHeartbeats 4000000 in
/-- **folder.** -/
theorem folder_calls (l : Lk) (w : World) (hl : l.pa.length ≤ 100000000000) : Calls Tryz.prog 40 #[l.v] w fun e W' => e = .returned (.string ⟨(folderK l).toArray⟩) ∧ Below w.heap.size w W' := by
  have mixed : Tryz.prog.follows .mixedOrders = true := by kernel_rfl
  obtain ⟨sc, ho, pa, qu, fr, h1, h2, h3, h4⟩ := l
  simp only at hl
  obtain ⟨W1, hW1⟩ : ∃ W1, w.alloc (.cells #[.string ⟨sc.toArray⟩, .string ⟨ho.toArray⟩, .string ⟨pa.toArray⟩, .string ⟨qu.toArray⟩, .string ⟨fr.toArray⟩, .bool h1, .bool h2, .bool h3, .bool h4] 42) = W1 := ⟨_, rfl⟩
  have HB1 : Hid (Below w.heap.size w W1) := by rw [← hW1]; exact (Below.refl _ w).alloc (Nat.le_refl _) _
  have HK1 : Hid (Blk W1 w.heap.size #[.string ⟨sc.toArray⟩, .string ⟨ho.toArray⟩, .string ⟨pa.toArray⟩, .string ⟨qu.toArray⟩, .string ⟨fr.toArray⟩, .bool h1, .bool h2, .bool h3, .bool h4] 42) := by rw [← hW1]; exact Blk.new w _ _
  have D : ∀ d os, Below W1.heap.size W1 (Go.Sort.grow (redrawn W1 d) os) := fun d os => below_regrown W1 d os
  have D' : ∀ d os, Below w.heap.size w (Go.Sort.grow (redrawn W1 d) os) := fun d os => HB1.out.trans ((D d os).mono HB1.out.size)
  have hF := (folderN_cases pa).2.1
  have q1 : ∀ d os, Calls Tryz.prog 38 #[.string ⟨pa.toArray⟩, .int .u8 47] (Go.Sort.grow (redrawn W1 d) os) fun e w'' => e = .returned (.int .i64 ((folderN pa : Int) - 1)) ∧ ∃ p : Regrown, w'' = Go.Sort.grow (redrawn W1 p.d) p.os := fun d os => Calls.regrown_of ((lastByte_calls pa _ hl).mono fun e w' ⟨h1, h2⟩ => ⟨h1, by rw [h2]; exact Below.refl _ _⟩)
  have y2 : ∀ d os, (Go.Sort.grow (redrawn W1 d) os).cell? ⟨w.heap.size, 2, none⟩ = some (.string ⟨pa.toArray⟩) := fun d os => ((HK1.out.below (D d os)).cell 2)
  have sl := slice_h pa (folderN pa) hF (folderN pa : Int) rfl
  have HV : Hid (folderK ⟨sc, ho, pa, qu, fr, h1, h2, h3, h4⟩ = if h2 && (pa == []) then [47] else pa.take (folderN pa)) := rfl
  obtain ⟨V, hV⟩ : ∃ V, folderK ⟨sc, ho, pa, qu, fr, h1, h2, h3, h4⟩ = V := ⟨_, rfl⟩
  rw [hV] at HV ⊢
  clear hV
  generalize folderN pa = n at *
  have wn : IntKind.i64.wrap ((n : Int) - 1 + 1) = (n : Int) - 1 + 1 := by rw [IntKind.wrap_i64]; omega
  obtain ⟨T, hT⟩ : ∃ T, pa.take n = T := ⟨_, rfl⟩
  rw [hT] at sl HV
  clear hT
  have HW1 := hid_of hW1
  clear hW1
  unfold Lk.v
  simp only
  cases h2 with
  | true =>
    cases he : (pa == []) with
    | true =>
      rw [he] at HV
      go_enter Tryz.func40, Tryz.ntmps40
      go_wp2_with fail
      rw [HW1.out]
      go_ret
      exact ⟨by rw [HV.out]; rfl, HB1.out⟩
    | false =>
      rw [he] at HV
      go_enter Tryz.func40, Tryz.ntmps40
      go_wp2_with fail
      rw [HW1.out]
      refine wp_region_quiet_below mixed (by kernel_rfl) ?_
      repeat (go_big_quiet_step (first | with_reducible exact q1 _ _))
      refine wpQuiet_nil ?_
      intro _ hw'
      obtain ⟨⟨dq, osq⟩, hw''⟩ := hw'
      have hb2 := D' dq osq
      rw [← hw''] at hb2
      clear hw'' q1 D D' y2
      go_wp2_with fail
      go_ret
      exact ⟨by rw [HV.out]; rfl, hb2⟩
  | false =>
    go_enter Tryz.func40, Tryz.ntmps40
    go_wp2_with fail
    rw [HW1.out]
    refine wp_region_quiet_below mixed (by kernel_rfl) ?_
    repeat (go_big_quiet_step (first | with_reducible exact q1 _ _))
    refine wpQuiet_nil ?_
    intro _ hw'
    obtain ⟨⟨dq, osq⟩, hw''⟩ := hw'
    have hb2 := D' dq osq
    rw [← hw''] at hb2
    clear hw'' q1 D D' y2
    go_wp2_with fail
    go_ret
    exact ⟨by rw [HV.out]; rfl, hb2⟩
end Go.Proofs.YtmfhhpacojodkaaGreatDoor.L

/- What is proved here: the contract of link.mended: a link whose texts are mended. -/
namespace Go.Proofs.YtmfhhpacojodkaaGreatDoor.L
open Go.RowKit Go.Shelf Go.Proofs.YtmfhhpacojodkaaGreatDoor.N Go.Proofs.YtmfhhpacojodkaaGreatDoor.U

theorem results_mended {tmps : Array Value} {W : World} {A : Nat} {v0 v1 v2 v3 v4 v5 v6 v7 v8 : Value} {t : TypeId} (h2 : tmps[2]?.getD undef = .pointer (some ⟨A, 0, none⟩)) (h : Blk W A #[v0, v1, v2, v3, v4, v5, v6, v7, v8] t) :
    (results Tryz.f37 tmps).run Tryz.prog W = .ok (.agg #[v0, v1, v2, v3, v4, v5, v6, v7, v8]) W := by
  obtain ⟨c0, c1, c2, c3, c4, c5, c6, c7, c8, -⟩ := h.nine
  simp [results, Tryz.results37, go_sem, h2, c0, c1, c2, c3, c4, c5, c6, c7, c8]
set_option maxRecDepth 100000 in
set_option maxHeartbeats 8000000 in
/-- **mended.** -/
theorem mended_calls (l : Lk) (w : World) (hT : Tb w) (hl : l.Small 1000000000) : Calls Tryz.prog 37 #[l.v] w fun e W' => e = .returned l.mend.v ∧ Below w.heap.size w W' := by
  obtain ⟨sc, ho, pa, qu, fr, h1, h2, h3, h4⟩ := l
  have HM : Hid (∀ (x : List UInt8) W, Below w.heap.size w W → x.length ≤ 1000000000 → Calls Tryz.prog 18 #[.string ⟨x.toArray⟩] W fun e W' => e = .returned (.string ⟨(mendL x).toArray⟩) ∧ Below W.heap.size W W') := fun x W h hx => mend_calls x W (by omega) (hT.below h)
  obtain ⟨l0, l1, l2, l3, l4⟩ := hl
  have HM0 := hid_of (fun W h => HM.out sc W h l0)
  have HM1 := hid_of (fun W h => HM.out ho W h l1)
  have HM2 := hid_of (fun W h => HM.out pa W h l2)
  have HM3 := hid_of (fun W h => HM.out qu W h l3)
  have HM4 := hid_of (fun W h => HM.out fr W h l4)
  unfold Lk.v Lk.mend
  simp only
  generalize mendL sc = sc' at *
  generalize mendL ho = ho' at *
  generalize mendL pa = pa' at *
  generalize mendL qu = qu' at *
  generalize mendL fr = fr' at *
  clear HM hT l0 l1 l2 l3 l4
  have hgn : w.heap.size + 1 ≠ w.heap.size := by omega
  have mixed : Tryz.prog.follows .mixedOrders = true := by kernel_rfl
  have HB0 : Hid (Below w.heap.size w ((w.alloc (.cells #[.string ⟨sc.toArray⟩, .string ⟨ho.toArray⟩, .string ⟨pa.toArray⟩, .string ⟨qu.toArray⟩, .string ⟨fr.toArray⟩, .bool h1, .bool h2, .bool h3, .bool h4] 42)).alloc (.cells noLink 42))) := ((Below.refl _ w).alloc (Nat.le_refl _) _).alloc (by simp) _
  have HA0 : Hid (Blk ((w.alloc (.cells #[.string ⟨sc.toArray⟩, .string ⟨ho.toArray⟩, .string ⟨pa.toArray⟩, .string ⟨qu.toArray⟩, .string ⟨fr.toArray⟩, .bool h1, .bool h2, .bool h3, .bool h4] 42)).alloc (.cells noLink 42)) w.heap.size _ 42) := (Blk.new w _ _).alloc _
  have HA1 : Hid (Blk ((w.alloc (.cells #[.string ⟨sc.toArray⟩, .string ⟨ho.toArray⟩, .string ⟨pa.toArray⟩, .string ⟨qu.toArray⟩, .string ⟨fr.toArray⟩, .bool h1, .bool h2, .bool h3, .bool h4] 42)).alloc (.cells noLink 42)) (w.heap.size + 1) noLink 42) := by
    have := Blk.new (w.alloc (.cells #[.string ⟨sc.toArray⟩, .string ⟨ho.toArray⟩, .string ⟨pa.toArray⟩, .string ⟨qu.toArray⟩, .string ⟨fr.toArray⟩, .bool h1, .bool h2, .bool h3, .bool h4] 42)) noLink 42
    rw [show (w.alloc (.cells #[.string ⟨sc.toArray⟩, .string ⟨ho.toArray⟩, .string ⟨pa.toArray⟩, .string ⟨qu.toArray⟩, .string ⟨fr.toArray⟩, .bool h1, .bool h2, .bool h3, .bool h4] 42)).heap.size = w.heap.size + 1 from Array.size_push _] at this
    exact this
  unfold noLink at HB0 HA0 HA1
  go_enter Tryz.func37, Tryz.ntmps37
  go_wp2_with fail
  generalize ((w.alloc (.cells #[.string ⟨sc.toArray⟩, .string ⟨ho.toArray⟩, .string ⟨pa.toArray⟩, .string ⟨qu.toArray⟩, .string ⟨fr.toArray⟩, .bool h1, .bool h2, .bool h3, .bool h4] 42)).alloc (.cells #[.string ⟨#[]⟩, .string ⟨#[]⟩, .string ⟨#[]⟩, .string ⟨#[]⟩, .string ⟨#[]⟩, .bool false, .bool false, .bool false, .bool false] 42)) = w1 at *
  obtain ⟨c0, c1, c2, c3, c4, c5, c6, c7, c8, fz⟩ := HA0.out.nine
  go_cut [] from 3 (fun wx => Hid (Blk wx w.heap.size #[.string ⟨sc'.toArray⟩, .string ⟨ho'.toArray⟩, .string ⟨pa'.toArray⟩, .string ⟨qu.toArray⟩, .string ⟨fr.toArray⟩, .bool h1, .bool h2, .bool h3, .bool h4] 42) ∧ Hid (Blk wx (w.heap.size + 1) noLink 42) ∧ Hid (Below w.heap.size w wx))
  case first =>
    go_region_with (first
      | (go_at_call 18; refine (HM2.out _ HBb.out).mono ?_; rintro e wc ⟨rfl, hbc⟩; have HBc := hid_of (HBb.out.trans (hbc.mono HBb.out.size)); have HKc := hid_of (HKb.out.below hbc); have HRc := hid_of (HRb.out.below hbc); obtain ⟨e0, e1, e2, e3, e4, e5, e6, e7, e8, ez⟩ := HKc.out.nine; clear hbc)
      | (go_at_call 18; refine (HM1.out _ HBa.out).mono ?_; rintro e wb ⟨rfl, hbb⟩; have HBb := hid_of (HBa.out.trans (hbb.mono HBa.out.size)); have HKb := hid_of (HKa.out.below hbb); have HRb := hid_of (HRa.out.below hbb); obtain ⟨b0, b1, b2, b3, b4, b5, b6, b7, b8, bz⟩ := HKb.out.nine; clear hbb)
      | (go_at_call 18; refine (HM0.out _ HB0.out.drew).mono ?_; rintro e wa ⟨rfl, hba⟩; have HBa := hid_of (HB0.out.drew.trans (hba.mono HB0.out.drew.size)); have HKa := hid_of (HA0.out.drew.below hba); have HRa := hid_of (HA1.out.drew.below hba); obtain ⟨a0, a1, a2, a3, a4, a5, a6, a7, a8, az⟩ := HKa.out.nine; clear hba))
    all_goals go_wp2_with fail
    all_goals go_meet
    all_goals exact ⟨((HKc.out.set 0 _).set 1 _).set 2 _, ((HRc.out.other hgn 0 _).other hgn 1 _).other hgn 2 _, below_setCell (below_setCell (below_setCell HBc.out (Nat.le_refl _) 0 _) (Nat.le_refl _) 1 _) (Nat.le_refl _) 2 _⟩
  case rest =>
    obtain ⟨HK, HR, HB⟩ := hcut
    clear HB0 HA0 HA1 c0 c1 c2 c3 c4 c5 c6 c7 c8 fz HM0 HM1 HM2
    obtain ⟨c0, c1, c2, c3, c4, c5, c6, c7, c8, fz⟩ := HK.out.nine
    go_wp2_with fail
    go_region_with (first
      | (go_at_call 18; refine (HM4.out _ HBa.out).mono ?_; rintro e wb ⟨rfl, hbb⟩; have HBb := hid_of (HBa.out.trans (hbb.mono HBa.out.size)); have HKb := hid_of (HKa.out.below hbb); have HRb := hid_of (HRa.out.below hbb); obtain ⟨b0, b1, b2, b3, b4, b5, b6, b7, b8, bz⟩ := HKb.out.nine; clear hbb)
      | (go_at_call 18; refine (HM3.out _ HB.out.drew).mono ?_; rintro e wa ⟨rfl, hba⟩; have HBa := hid_of (HB.out.drew.trans (hba.mono HB.out.drew.size)); have HKa := hid_of (HK.out.drew.below hba); have HRa := hid_of (HR.out.drew.below hba); obtain ⟨a0, a1, a2, a3, a4, a5, a6, a7, a8, az⟩ := HKa.out.nine; clear hba))
    all_goals unfold noLink at HRb
    all_goals obtain ⟨d0, d1, d2, d3, d4, d5, d6, d7, d8, dz⟩ := HRb.out.nine
    all_goals go_wp2_with fail
    all_goals exact bodyPost_ret (results_mended rfl (Blk.put9 ((HRb.out.other hgn 3 _).other hgn 4 _) _ _ _ _ _ _ _ _ _)) rfl ⟨rfl, below_put9 (below_setCell (below_setCell HBb.out (Nat.le_refl _) 3 _) (Nat.le_refl _) 4 _) (show w.heap.size ≤ w.heap.size + 1 by omega) _ _ _ _ _ _ _ _ _⟩
end Go.Proofs.YtmfhhpacojodkaaGreatDoor.L
