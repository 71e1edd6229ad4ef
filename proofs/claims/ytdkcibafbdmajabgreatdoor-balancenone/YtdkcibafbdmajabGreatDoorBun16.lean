/- What is proved here: laws and contracts of Ref, TUtf, TCheck, one behind the other (each says its own). -/
import Derived.Test.YtdkcibafbdmajabGreatDoorPieces
import Derived.Test.YtdkcibafbdmajabGreatDoorBun15
import Derived.Test.YtdkcibafbdmajabGreatDoorBun12
/- What is proved here: contracts of the document's own Runes, Valid and Text of sieveref01. -/
namespace Go.Proofs.YtdkcibafbdmajabGreatDoor.U
open Go.RowKit Go.Shelf

/-- The runes as numbers. -/
def runesI (bs : List UInt8) : List Int := (pcs bs).map fun p => (p.r : Int)
theorem runesI_length (bs : List UInt8) : (runesI bs).length = (pcs bs).length := by simp [runesI]
theorem runesI_get (bs : List UInt8) (k : Nat) (h : k < (pcs bs).length) : (runesI bs).take (k + 1) = (runesI bs).take k ++ [((pcs bs)[k].r : Int)] := by
  rw [List.take_succ_eq_append_getElem (by simpa [runesI] using h)]; simp [runesI]
theorem cell_one_at (W : World) (a : Value) (t : TypeId) (n : Nat) (hn : n = W.heap.size) : ∀ j u, [a][j]? = some u → (W.alloc (.cells #[a] t)).cell? ((⟨n, 0, none⟩ : Addr).add j) = some u := by
  intro j u h
  subst hn
  rw [add_none, Nat.zero_add]
  have hb := World.alloc_heap_new W (.cells #[a] t)
  simp only [World.cell?, hb]
  simpa using h

set_option maxRecDepth 100000 in
set_option maxHeartbeats 2000000 in
/-- **sieveref01.Valid of any bytes.** -/
theorem rvalid_calls (v : Value) (bs : List UInt8) (n₀ : Nat) (w : World) (hl : bs.length ≤ 4398046511104) (hH : HasB n₀ w v bs) :
    Calls Tryz.prog 48 #[v] w fun e W' => e = .returned (.bool ((pcs bs).all Pc.ok)) ∧ Below w.heap.size w W' := by
  have HP : Hid (Calls Tryz.prog 83 #[v] w fun e W' => ∃ v, e = .returned v ∧ W'.ownsRow w.heap.size 124 4 v (pcs bs).length ((pcs bs).flatMap pcCells) ∧ Below w.heap.size w W') := pieces_calls v bs n₀ w hl hH
  have hpl := pcs_length bs
  clear hH
  go_enter Tryz.func48, Tryz.ntmps48
  go_wp2_with (go_at_call 83; refine HP.out.mono ?_; rintro e w2 ⟨vl, rfl, hown2, hb2⟩; obtain ⟨al, cl, rfl⟩ := owns_slice hown2)
  have s2 := hb2.size
  go_loopw [8] (fun i wr => ∃ k : Nat, k ≤ (pcs bs).length ∧ i = .int .i64 k ∧ Hid (((pcs bs).take k).all Pc.ok = true) ∧ Below w2.heap.size w2 wr) (fun i _ => (pcs bs).length - (intOf i).toNat)
  case atStart => exact ⟨0, by omega, rfl, rfl, Below.refl _ _⟩
  case round =>
    obtain ⟨k, hk, rfl, hall, hB⟩ := hrel
    by_cases hlt : k < (pcs bs).length
    · obtain ⟨gl, rfl, hgb, hgl, r0, p0, q0, o0⟩ := owns_piece hown2 k hlt
      have r1 := (hB.cell (p := ⟨gl, k * 4, none⟩) hgl).trans r0
      have p1 := (hB.cell (p := ⟨gl, k * 4 + 1, none⟩) hgl).trans p0
      have q1 := (hB.cell (p := ⟨gl, k * 4 + 2, none⟩) hgl).trans q0
      have o1 := (hB.cell (p := ⟨gl, k * 4 + 3, none⟩) hgl).trans o0
      have s1 := hB.size
      have hsn : (pcs bs).take (k + 1) = (pcs bs).take k ++ [(pcs bs)[k]] := List.take_succ_eq_append_getElem hlt
      cases ho : (pcs bs)[k].ok with
      | true =>
        have hall2 : Hid (((pcs bs).take (k + 1)).all Pc.ok = true) := by show _ = true; rw [hsn, List.all_append, hall.out]; simp [ho]
        rw [ho] at o1
        clear r0 p0 q0 o0 hsn ho
        go_wp2
        go_roundw
        case rel => exact ⟨k + 1, by omega, by go_num, hall2, hB.alloc (by omega) _⟩
        case measure => simp [intOf]; omega
      | false =>
        have hF : Hid ((pcs bs).all Pc.ok = false) := by
          show _ = false
          rw [List.all_eq_false]; exact ⟨(pcs bs)[k], List.getElem_mem hlt, by simp [ho]⟩
        rw [ho] at o1
        clear r0 p0 q0 o0 hsn ho
        go_wp2
        go_ret
        exact ⟨ret_bool hF.out.symm, hb2.trans ((hB.alloc (by omega) _).mono s2)⟩
    · obtain rfl : k = (pcs bs).length := by omega
      have hT : Hid ((pcs bs).all Pc.ok = true) := by have := hall.out; rw [List.take_length] at this; exact this
      go_wp2
      go_ret
      exact ⟨ret_bool hT.out.symm, hb2.trans (hB.mono s2)⟩

end Go.Proofs.YtdkcibafbdmajabGreatDoor.U

/- What is proved here: the contracts of isUtf and tagName of token, and of valid of sieveref07: whether a text is UTF-8, and whether it may be the name of a tag. -/
namespace Go.Proofs.YtdkcibafbdmajabGreatDoor.T
open Go.RowKit N

def utfB (l : List UInt8) : Bool := (U.pcs l).all U.Pc.ok

theorem byteArr_eta (s : ByteArray) : (⟨s.data.toList.toArray⟩ : ByteArray) = s := by cases s; simp
set_option maxRecDepth 100000 in
theorem conv_new (s : ByteArray) (w : World) : ∃ cap w', (convert 9 90 (.string s)).run Tryz.prog w = .ok (.slice (some ⟨w.heap.size, 0, none⟩) s.size cap) w' ∧ U.HasB w'.heap.size w' (.slice (some ⟨w.heap.size, 0, none⟩) s.size cap) s.data.toList ∧ Below w.heap.size w w' := by
  have h2 := Lib.run_convert_string_bytes (P := Tryz.prog) w 9 90 5 s Tryz.underlying9 Tryz.underlying90 Tryz.underlying5
  have hrow := U.bytesWorld_row w 5 s.data.toList
  rw [byteArr_eta] at hrow
  refine ⟨_, _, h2, U.RowB.hasB0 (size_data s).symm (by rw [← size_data s]; exact hrow) (grownCap_ge _ _ _ _) _ (by rw [Lib.bytesWorld_size]; omega), U.bytesWorld_below w 5 s⟩

set_option maxRecDepth 100000 in
theorem isUtf_calls (s : ByteArray) (w : World) (hs : s.size ≤ 140737488355328) : Calls Tryz.prog 68 #[.string s] w fun e w' => e = .returned (.bool (utfB s.data.toList)) ∧ Below w.heap.size w w' := by
  obtain ⟨cap, w', hc, hH, hb⟩ := conv_new s w
  have VC : Hid (Calls Tryz.prog 89 #[.slice (some ⟨w.heap.size, 0, none⟩) s.size cap] w' fun e w'' => e = .returned (.bool (utfB s.data.toList)) ∧ Below w'.heap.size w' w'') := U.valid_calls _ _ _ w' (by rw [size_data]; exact hs) hH
  clear hH
  go_enter Tryz.func68, Tryz.ntmps68
  go_wp2_with (go_at_call 89; refine VC.out.mono ?_; rintro e w2 ⟨rfl, hb2⟩)
  go_ret
  exact ⟨rfl, hb.trans (hb2.mono hb.size)⟩
set_option maxRecDepth 100000 in
theorem rutf_calls (s : ByteArray) (w : World) (hs : s.size ≤ 4398046511104) : Calls Tryz.prog 30 #[.string s] w fun e w' => e = .returned (.bool (utfB s.data.toList)) ∧ Below w.heap.size w w' := by
  obtain ⟨cap, w', hc, hH, hb⟩ := conv_new s w
  have VC : Hid (Calls Tryz.prog 48 #[.slice (some ⟨w.heap.size, 0, none⟩) s.size cap] w' fun e w'' => e = .returned (.bool (utfB s.data.toList)) ∧ Below w'.heap.size w' w'') := U.rvalid_calls _ _ _ w' (by rw [size_data]; exact hs) hH
  clear hH
  go_enter Tryz.func30, Tryz.ntmps30
  go_wp2_with (go_at_call 48; refine VC.out.mono ?_; rintro e w2 ⟨rfl, hb2⟩)
  go_ret
  exact ⟨rfl, hb.trans (hb2.mono hb.size)⟩

set_option maxRecDepth 100000 in
set_option maxHeartbeats 1000000 in
theorem tagName_calls (s : ByteArray) (w : World) (hs : s.size ≤ 9223372036854775807) : Calls Tryz.prog 66 #[.string s] w fun e w' => e = .returned (.bool (tagB s.data.toList)) ∧ w' = w := by
  have HZ : Hid (s.data.toList.length = s.size) := size_data s
  by_cases h0 : s.size = 0
  · have e0 : s = ByteArray.empty := by
      have : s.data.toList = [] := List.length_eq_zero_iff.1 (by rw [HZ.out]; exact h0)
      have h2 : s.data = #[] := by simpa using this
      cases s; simp at h2; subst h2; rfl
    subst e0
    go_enter Tryz.func66, Tryz.ntmps66
    go_wp2
    all_goals go_ret
    exact ⟨ret_bool rfl, rfl⟩
  · have e1 : s.toList.isEmpty = false := by
      rw [Lib.toList_data, List.isEmpty_eq_false_iff]
      intro h; rw [← List.length_eq_zero_iff, HZ.out] at h; exact h0 h
    obtain ⟨c, hcc⟩ : ∃ c, s.data.toList.getD 0 0 = c := ⟨_, rfl⟩
    have hix : ∀ w, (Instr.index 9 (.string s) (.int .i64 0)).run Tryz.prog w = .ok (.int .u8 c.toNat) w := fun w => run_byte w _ s _ 0 0 c Tryz.underlying9 rfl (by omega) hcc
    have HT : Hid (tagB s.data.toList = (smallB c && lastB s.data.toList)) := by
      show _ = _
      unfold tagB
      rw [hcc, HZ.out, decide_eq_true (by omega : 0 < s.size), Bool.true_and]
    clear hcc
    go_enter Tryz.func66, Tryz.ntmps66
    cases hc : smallB c with
    | true =>
      have hc' : 97 ≤ (c.toNat : Int) ∧ (c.toNat : Int) ≤ 122 := by simp [smallB] at hc; omega
      have q1 : decide ((97 : Int) ≤ (c.toNat : Int)) = true := by simpa using hc'.1
      have q2 : decide ((c.toNat : Int) ≤ 122) = true := by simpa using hc'.2
      go_wp2_with (go_at_call 87; refine (lasting_calls s _ hs).mono ?_; rintro e w' ⟨rfl, hw⟩; have hx' := hw.symm; subst hx')
      all_goals go_ret
      exact ⟨ret_bool (by rw [HT.out, hc]; rfl), rfl⟩
    | false =>
      have hc' : (c.toNat : Int) < 97 ∨ 122 < (c.toNat : Int) := by simp [smallB] at hc; omega
      rcases hc' with hc' | hc'
      · have q1 : decide ((97 : Int) ≤ (c.toNat : Int)) = false := by simpa using hc'
        go_wp2
        all_goals go_ret
        exact ⟨ret_bool (by rw [HT.out, hc]; rfl), rfl⟩
      · have q1 : decide ((97 : Int) ≤ (c.toNat : Int)) = true := by simp; omega
        have q2 : decide ((c.toNat : Int) ≤ 122) = false := by simpa using hc'
        go_wp2
        all_goals go_ret
        exact ⟨ret_bool (by rw [HT.out, hc]; rfl), rfl⟩
end Go.Proofs.YtdkcibafbdmajabGreatDoor.T

/- What is proved here: the contracts of valid, fits and Check of token: whether a token may be. -/
namespace Go.Proofs.YtdkcibafbdmajabGreatDoor.T
open Go.RowKit N

/-- A token, without its attributes' list. -/
structure Tok where
  kind : Int
  name : ByteArray
  text : ByteArray
  self : Bool
  p0 : Int
  p1 : Int
  p2 : Int
/-- A token as a value. -/
def Tok.val (t : Tok) (av : Value) : Value := .agg #[.int .i64 t.kind, .string t.name, .string t.text, av, .bool t.self, .int .i64 t.p0, .int .i64 t.p1, .int .i64 t.p2]
def SizesA (l : AL) : Prop := (l.length : Int) ≤ 1000000000000 ∧ ∀ x ∈ l, x.1.size ≤ 4398046511104 ∧ x.2.size ≤ 4398046511104
def Tok.Sizes (t : Tok) : Prop := t.name.size ≤ 4398046511104 ∧ t.text.size ≤ 4398046511104

def bareB (t : Tok) (l : AL) : Bool := l.isEmpty && !t.self
def fitsB (t : Tok) (l : AL) : Bool :=
  if t.kind = 0 then bareB t l && t.name.toList.isEmpty && !t.text.toList.isEmpty
  else if t.kind = 1 then tagB t.name.data.toList && t.text.toList.isEmpty && attrsB l
  else if t.kind = 2 then bareB t l && tagB t.name.data.toList && t.text.toList.isEmpty
  else if t.kind = 3 then bareB t l && t.name.toList.isEmpty
  else if t.kind = 4 then bareB t l && t.name.toList.isEmpty && t.text.toList.isEmpty
  else false
def validA (l : AL) : Bool := l.all fun a => utfB a.1.data.toList && utfB a.2.data.toList
def validB (t : Tok) (l : AL) : Bool := validA l && utfB t.name.data.toList && utfB t.text.data.toList
def checkB (t : Tok) (l : AL) : Bool := fitsB t l && validB t l

set_option maxRecDepth 100000 in
set_option maxHeartbeats 2000000 in
theorem fits_calls (t : Tok) (l : AL) (av : Value) (w : World) (hH : HasA w av l) (hl : SizesA l) (ht : t.Sizes) :
    Calls Tryz.prog 43 #[t.val av] w fun e w' => e = .returned (.bool (fitsB t l)) ∧ Below w.heap.size w w' := by
  obtain ⟨la, lc, rfl⟩ := hH.slice
  have HS : Hid (HasA w (.slice la l.length lc) l) := hH
  have HL : Hid (SizesA l) := hl
  have HT : Hid t.Sizes := ht
  have hnz := ht.1
  have q0 : ((l.length : Int) == 0) = l.isEmpty := by cases l <;> simp; omega
  clear hH hl ht
  obtain ⟨kind, name, text, self, p0, p1, p2⟩ := t
  unfold Tok.val
  simp only at hnz ⊢
  obtain ⟨W0, hW0⟩ : ∃ W0, w.alloc (.cells #[.int .i64 kind, .string name, .string text, .slice la l.length lc, .bool self, .int .i64 p0, .int .i64 p1, .int .i64 p2] 37) = W0 := ⟨_, rfl⟩
  have b0 : Below w.heap.size w W0 := by rw [← hW0]; exact (Below.refl _ w).alloc (Nat.le_refl _) _
  have t0 : W0.cell? ⟨w.heap.size, 0, none⟩ = some (.int .i64 kind) := by rw [← hW0, C.cell_new]; rfl
  have t1 : W0.cell? ⟨w.heap.size, 1, none⟩ = some (.string name) := by rw [← hW0, C.cell_new]; rfl
  have t2 : W0.cell? ⟨w.heap.size, 2, none⟩ = some (.string text) := by rw [← hW0, C.cell_new]; rfl
  have t3 : W0.cell? ⟨w.heap.size, 3, none⟩ = some (.slice la l.length lc) := by rw [← hW0, C.cell_new]; rfl
  have t4 : W0.cell? ⟨w.heap.size, 4, none⟩ = some (.bool self) := by rw [← hW0, C.cell_new]; rfl
  have HB0 : Hid (Below w.heap.size w W0) := b0
  have AN : Hid (Calls Tryz.prog 67 #[.slice la l.length lc] W0 fun e w' => e = .returned (.bool (attrsB l)) ∧ Below W0.heap.size W0 w') := attrNames_calls l _ W0 (HS.out.below b0) HL.out.1 (fun x hx => by have := (HL.out.2 x hx).1; omega)
  have TN : Hid (Calls Tryz.prog 66 #[.string name] W0 fun e w' => e = .returned (.bool (tagB name.data.toList)) ∧ w' = W0) := tagName_calls name W0 (by omega)
  clear b0
  obtain ⟨A, hA⟩ : ∃ A, attrsB l = A := ⟨_, rfl⟩
  obtain ⟨N, hN⟩ : ∃ N, tagB name.data.toList = N := ⟨_, rfl⟩
  obtain ⟨E, hE⟩ : ∃ E, l.isEmpty = E := ⟨_, rfl⟩
  obtain ⟨X, hX⟩ : ∃ X, name.toList.isEmpty = X := ⟨_, rfl⟩
  obtain ⟨Y, hY⟩ : ∃ Y, text.toList.isEmpty = Y := ⟨_, rfl⟩
  have HF : Hid (fitsB ⟨kind, name, text, self, p0, p1, p2⟩ l = if kind = 0 then E && !self && X && !Y else if kind = 1 then N && Y && A else if kind = 2 then E && !self && N && Y else if kind = 3 then E && !self && X else if kind = 4 then E && !self && X && Y else false) := by
    show _ = _
    unfold fitsB bareB
    simp only [hA, hN, hE, hX, hY]
  rw [hA] at AN
  rw [hN] at TN
  rw [hE] at q0
  clear hA hN hE
  go_enter Tryz.func43, Tryz.ntmps43
  by_cases k0 : kind = 0
  · subst k0
    rw [if_pos rfl] at HF
    go_wp2
    all_goals go_ret
    all_goals exact ⟨ret_bool (by rw [HF.out]; simp_all), HB0.out⟩
  have z0 : (kind == 0) = false := by simpa using k0
  rw [if_neg k0] at HF
  by_cases k1 : kind = 1
  · subst k1
    rw [if_pos rfl] at HF
    go_wp2_with (first
      | (go_at_call 66; refine TN.out.mono ?_; rintro e w' ⟨rfl, hw⟩; have hx' := hw.symm; subst hx')
      | (go_at_call 67; refine AN.out.mono ?_; rintro e w2 ⟨rfl, hb2⟩))
    all_goals go_ret
    all_goals first
      | exact ⟨ret_bool (by rw [HF.out]; simp_all), HB0.out⟩
      | exact ⟨ret_bool (by rw [HF.out]; simp_all), HB0.out.trans (hb2.mono HB0.out.size)⟩
  have z1 : (kind == 1) = false := by simpa using k1
  rw [if_neg k1] at HF
  by_cases k2 : kind = 2
  · subst k2
    rw [if_pos rfl] at HF
    go_wp2_with (first
      | (go_at_call 66; refine TN.out.mono ?_; rintro e w' ⟨rfl, hw⟩; have hx' := hw.symm; subst hx'))
    all_goals go_ret
    all_goals exact ⟨ret_bool (by rw [HF.out]; simp_all), HB0.out⟩
  have z2 : (kind == 2) = false := by simpa using k2
  rw [if_neg k2] at HF
  by_cases k3 : kind = 3
  · subst k3
    rw [if_pos rfl] at HF
    go_wp2
    all_goals go_ret
    all_goals exact ⟨ret_bool (by rw [HF.out]; simp_all), HB0.out⟩
  have z3 : (kind == 3) = false := by simpa using k3
  rw [if_neg k3] at HF
  by_cases k4 : kind = 4
  · subst k4
    rw [if_pos rfl] at HF
    go_wp2
    all_goals go_ret
    all_goals exact ⟨ret_bool (by rw [HF.out]; simp_all), HB0.out⟩
  have z4 : (kind == 4) = false := by simpa using k4
  rw [if_neg k4] at HF
  go_wp2
  all_goals go_ret
  all_goals exact ⟨ret_bool HF.out.symm, HB0.out⟩
end Go.Proofs.YtdkcibafbdmajabGreatDoor.T
