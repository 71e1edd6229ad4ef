/- What is proved here: laws and contracts of Pieces, Ref, TUtf, TCheck, one behind the other (each says its own). -/
import Derived.Test.YtdkcibafbdmajaaGreatDoorBun12
import Derived.Test.YtdkcibafbdmajaaGreatDoorBun13
import Derived.Test.YtdkcibafbdmajaaGreatDoorTAttrs
/- What is proved here: the contract of the document's own sieveref01.Pieces: the runes of any bytes, with their places, how many bytes each was made of and whether they were right. -/
namespace Go.Proofs.YtdkcibafbdmajaaGreatDoor.U
open Go.RowKit Go.Shelf

/-- A piece's cells. -/
def pcCells (p : Pc) : List Value := [.int .i32 (p.r : Int), .int .i64 (p.pos : Int), .int .i64 (p.sz : Int), .bool p.ok]
theorem pcCells_len (l : List Pc) : (l.flatMap pcCells).length = l.length * 4 := by
  induction l with
  | nil => rfl
  | cons p l ih => simp [List.flatMap_cons, pcCells, ih]; omega
theorem cell_four_new (W : World) (a b c d : Value) (t : TypeId) (n : Nat) (hn : n = W.heap.size) : ∀ j u, [a, b, c, d][j]? = some u → (W.alloc (.cells #[a, b, c, d] t)).cell? ((⟨n, 0, none⟩ : Addr).add j) = some u := by
  intro j u h
  subst hn
  have ea : (⟨W.heap.size, 0, none⟩ : Addr).add j = ⟨W.heap.size, j, none⟩ := by unfold Addr.add; split <;> simp_all
  rw [ea]
  have hb := World.alloc_heap_new W (.cells #[a, b, c, d] t)
  simp only [World.cell?, hb]
  simpa using h
theorem flat_get (l : List Pc) (n i : Nat) (hn : n < l.length) (hi : i < 4) : (l.flatMap pcCells)[n * 4 + i]? = (pcCells l[n])[i]? := by
  induction l generalizing n with
  | nil => simp at hn
  | cons p l ih =>
    cases n with
    | zero => simp only [List.flatMap_cons, List.getElem_cons_zero]; rw [Nat.zero_mul, Nat.zero_add, List.getElem?_append_left (by simp [pcCells]; omega)]
    | succ n =>
      simp only [List.flatMap_cons, List.getElem_cons_succ]
      rw [List.getElem?_append_right (by simp [pcCells]; omega)]
      have : (n + 1) * 4 + i - (pcCells p).length = n * 4 + i := by simp [pcCells]; omega
      rw [this]
      exact ih n (by simpa using hn)
/-- What a list of pieces holds in memory. -/
theorem owns_piece {W : World} {base : Nat} {e : TypeId} {l : List Pc} {a : Option Addr} {cap : Nat} (h : W.ownsRow base e 4 (.slice a l.length cap) l.length (l.flatMap pcCells)) (n : Nat) (hn : n < l.length) :
    ∃ g, a = some ⟨g, 0, none⟩ ∧ base ≤ g ∧ g < W.heap.size ∧ W.cell? ⟨g, n * 4, none⟩ = some (.int .i32 (l[n].r : Int)) ∧ W.cell? ⟨g, n * 4 + 1, none⟩ = some (.int .i64 (l[n].pos : Int)) ∧ W.cell? ⟨g, n * 4 + 2, none⟩ = some (.int .i64 (l[n].sz : Int)) ∧ W.cell? ⟨g, n * 4 + 3, none⟩ = some (.bool l[n].ok) := by
  rcases h.2 with ⟨_, h0⟩ | ⟨g, cap', cur, hv, hb, hg, _⟩
  · omega
  · cases hv
    refine ⟨g, rfl, hb, lt_of_block hg, ?_, ?_, ?_, ?_⟩
    · have := flat_get l n 0 hn (by omega); rw [h.cellAt _ (by omega)]; simpa [pcCells] using this
    · have := flat_get l n 1 hn (by omega); rw [h.cellAt _ (by omega)]; simpa [pcCells] using this
    · have := flat_get l n 2 hn (by omega); rw [h.cellAt _ (by omega)]; simpa [pcCells] using this
    · have := flat_get l n 3 hn (by omega); rw [h.cellAt _ (by omega)]; simpa [pcCells] using this

end Go.Proofs.YtdkcibafbdmajaaGreatDoor.U

/- What is proved here: contracts of the document's own Runes, Valid and Text of sieveref01. -/
namespace Go.Proofs.YtdkcibafbdmajaaGreatDoor.U
open Go.RowKit Go.Shelf

/-- The runes as numbers. -/
def runesI (bs : List UInt8) : List Int := (pcs bs).map fun p => (p.r : Int)
theorem runesI_length (bs : List UInt8) : (runesI bs).length = (pcs bs).length := by simp [runesI]
theorem runesI_get (bs : List UInt8) (k : Nat) (h : k < (pcs bs).length) : (runesI bs).take (k + 1) = (runesI bs).take k ++ [((pcs bs)[k].r : Int)] := by
  rw [List.take_succ_eq_append_getElem (by simpa [runesI] using h)]; simp [runesI]
theorem cell_one_at (W : World) (a : Value) (t : TypeId) (n : Nat) (hn : n = W.heap.size) : ∀ j u, [a][j]? = some u → (W.alloc (.cells #[a] t)).cell? ((⟨n, 0, none⟩ : Addr).add j) = some u := by
  intro j u h
  subst hn
  rw [add_none, Nat.zero_add]
  have hb := World.alloc_heap_new W (.cells #[a] t)
  simp only [World.cell?, hb]
  simpa using h

end Go.Proofs.YtdkcibafbdmajaaGreatDoor.U

/- What is proved here: the contracts of isUtf and tagName of token, and of valid of sieveref07: whether a text is UTF-8, and whether it may be the name of a tag. -/
namespace Go.Proofs.YtdkcibafbdmajaaGreatDoor.T
open Go.RowKit N

def utfB (l : List UInt8) : Bool := (U.pcs l).all U.Pc.ok

theorem byteArr_eta (s : ByteArray) : (⟨s.data.toList.toArray⟩ : ByteArray) = s := by cases s; simp
set_option maxRecDepth 100000 in
theorem conv_new (s : ByteArray) (w : World) : ∃ cap w', (convert 9 87 (.string s)).run Tryz.prog w = .ok (.slice (some ⟨w.heap.size, 0, none⟩) s.size cap) w' ∧ U.HasB w'.heap.size w' (.slice (some ⟨w.heap.size, 0, none⟩) s.size cap) s.data.toList ∧ Below w.heap.size w w' := by
  have h2 := Lib.run_convert_string_bytes (P := Tryz.prog) w 9 87 5 s Tryz.underlying9 Tryz.underlying87 Tryz.underlying5
  have hrow := U.bytesWorld_row w 5 s.data.toList
  rw [byteArr_eta] at hrow
  refine ⟨_, _, h2, U.RowB.hasB0 (size_data s).symm (by rw [← size_data s]; exact hrow) (grownCap_ge _ _ _ _) _ (by rw [Lib.bytesWorld_size]; omega), U.bytesWorld_below w 5 s⟩

set_option maxRecDepth 100000 in
theorem isUtf_calls (s : ByteArray) (w : World) (hs : s.size ≤ 140737488355328) : Calls Tryz.prog 22 #[.string s] w fun e w' => e = .returned (.bool (utfB s.data.toList)) ∧ Below w.heap.size w w' := by
  obtain ⟨cap, w', hc, hH, hb⟩ := conv_new s w
  have VC : Hid (Calls Tryz.prog 39 #[.slice (some ⟨w.heap.size, 0, none⟩) s.size cap] w' fun e w'' => e = .returned (.bool (utfB s.data.toList)) ∧ Below w'.heap.size w' w'') := U.valid_calls _ _ _ w' (by rw [size_data]; exact hs) hH
  clear hH
  go_enter Tryz.func22, Tryz.ntmps22
  go_wp2_with (go_at_call 39; refine VC.out.mono ?_; rintro e w2 ⟨rfl, hb2⟩)
  go_ret
  exact ⟨rfl, hb.trans (hb2.mono hb.size)⟩
set_option maxRecDepth 100000 in
set_option maxHeartbeats 1000000 in
theorem tagName_calls (s : ByteArray) (w : World) (hs : s.size ≤ 9223372036854775807) : Calls Tryz.prog 20 #[.string s] w fun e w' => e = .returned (.bool (tagB s.data.toList)) ∧ w' = w := by
  have HZ : Hid (s.data.toList.length = s.size) := size_data s
  by_cases h0 : s.size = 0
  · have e0 : s = ByteArray.empty := by
      have : s.data.toList = [] := List.length_eq_zero_iff.1 (by rw [HZ.out]; exact h0)
      have h2 : s.data = #[] := by simpa using this
      cases s; simp at h2; subst h2; rfl
    subst e0
    go_enter Tryz.func20, Tryz.ntmps20
    go_wp2
    all_goals go_ret
    exact ⟨ret_bool rfl, rfl⟩
  · have e1 : s.toList.isEmpty = false := by
      rw [Lib.toList_data, List.isEmpty_eq_false_iff]
      intro h; rw [← List.length_eq_zero_iff, HZ.out] at h; exact h0 h
    obtain ⟨c, hcc⟩ : ∃ c, s.data.toList.getD 0 0 = c := ⟨_, rfl⟩
    have hix : ∀ w, (Instr.index 9 (.string s) (.int .i64 0)).run Tryz.prog w = .ok (.int .u8 c.toNat) w := fun w => run_byte w _ s _ 0 0 c Tryz.underlying9 rfl (by omega) hcc
    have HT : Hid (tagB s.data.toList = (smallB c && lastB s.data.toList)) := by
      show _ = _
      unfold tagB
      rw [hcc, HZ.out, decide_eq_true (by omega : 0 < s.size), Bool.true_and]
    clear hcc
    go_enter Tryz.func20, Tryz.ntmps20
    cases hc : smallB c with
    | true =>
      have hc' : 97 ≤ (c.toNat : Int) ∧ (c.toNat : Int) ≤ 122 := by simp [smallB] at hc; omega
      have q1 : decide ((97 : Int) ≤ (c.toNat : Int)) = true := by simpa using hc'.1
      have q2 : decide ((c.toNat : Int) ≤ 122) = true := by simpa using hc'.2
      go_wp2_with (go_at_call 37; refine (lasting_calls s _ hs).mono ?_; rintro e w' ⟨rfl, hw⟩; have hx' := hw.symm; subst hx')
      all_goals go_ret
      exact ⟨ret_bool (by rw [HT.out, hc]; rfl), rfl⟩
    | false =>
      have hc' : (c.toNat : Int) < 97 ∨ 122 < (c.toNat : Int) := by simp [smallB] at hc; omega
      rcases hc' with hc' | hc'
      · have q1 : decide ((97 : Int) ≤ (c.toNat : Int)) = false := by simpa using hc'
        go_wp2
        all_goals go_ret
        exact ⟨ret_bool (by rw [HT.out, hc]; rfl), rfl⟩
      · have q1 : decide ((97 : Int) ≤ (c.toNat : Int)) = true := by simp; omega
        have q2 : decide ((c.toNat : Int) ≤ 122) = false := by simpa using hc'
        go_wp2
        all_goals go_ret
        exact ⟨ret_bool (by rw [HT.out, hc]; rfl), rfl⟩
end Go.Proofs.YtdkcibafbdmajaaGreatDoor.T

/- What is proved here: the contracts of valid, fits and Check of token: whether a token may be. -/
namespace Go.Proofs.YtdkcibafbdmajaaGreatDoor.T
open Go.RowKit N

/-- A token, without its attributes' list. -/
structure Tok where
  kind : Int
  name : ByteArray
  text : ByteArray
  self : Bool
  p0 : Int
  p1 : Int
  p2 : Int
/-- A token as a value. -/
def Tok.val (t : Tok) (av : Value) : Value := .agg #[.int .i64 t.kind, .string t.name, .string t.text, av, .bool t.self, .int .i64 t.p0, .int .i64 t.p1, .int .i64 t.p2]
def SizesA (l : AL) : Prop := (l.length : Int) ≤ 1000000000000 ∧ ∀ x ∈ l, x.1.size ≤ 4398046511104 ∧ x.2.size ≤ 4398046511104
def Tok.Sizes (t : Tok) : Prop := t.name.size ≤ 4398046511104 ∧ t.text.size ≤ 4398046511104

def bareB (t : Tok) (l : AL) : Bool := l.isEmpty && !t.self
def fitsB (t : Tok) (l : AL) : Bool :=
  if t.kind = 0 then bareB t l && t.name.toList.isEmpty && !t.text.toList.isEmpty
  else if t.kind = 1 then tagB t.name.data.toList && t.text.toList.isEmpty && attrsB l
  else if t.kind = 2 then bareB t l && tagB t.name.data.toList && t.text.toList.isEmpty
  else if t.kind = 3 then bareB t l && t.name.toList.isEmpty
  else if t.kind = 4 then bareB t l && t.name.toList.isEmpty && t.text.toList.isEmpty
  else false
def validA (l : AL) : Bool := l.all fun a => utfB a.1.data.toList && utfB a.2.data.toList
def validB (t : Tok) (l : AL) : Bool := validA l && utfB t.name.data.toList && utfB t.text.data.toList
def checkB (t : Tok) (l : AL) : Bool := fitsB t l && validB t l

set_option maxRecDepth 100000 in
set_option maxHeartbeats 2000000 in
theorem fits_calls (t : Tok) (l : AL) (av : Value) (w : World) (hH : HasA w av l) (hl : SizesA l) (ht : t.Sizes) :
    Calls Tryz.prog 14 #[t.val av] w fun e w' => e = .returned (.bool (fitsB t l)) ∧ Below w.heap.size w w' := by
  obtain ⟨la, lc, rfl⟩ := hH.slice
  have HS : Hid (HasA w (.slice la l.length lc) l) := hH
  have HL : Hid (SizesA l) := hl
  have HT : Hid t.Sizes := ht
  have hnz := ht.1
  have q0 : ((l.length : Int) == 0) = l.isEmpty := by cases l <;> simp; omega
  clear hH hl ht
  obtain ⟨kind, name, text, self, p0, p1, p2⟩ := t
  unfold Tok.val
  simp only at hnz ⊢
  obtain ⟨W0, hW0⟩ : ∃ W0, w.alloc (.cells #[.int .i64 kind, .string name, .string text, .slice la l.length lc, .bool self, .int .i64 p0, .int .i64 p1, .int .i64 p2] 33) = W0 := ⟨_, rfl⟩
  have b0 : Below w.heap.size w W0 := by rw [← hW0]; exact (Below.refl _ w).alloc (Nat.le_refl _) _
  have t0 : W0.cell? ⟨w.heap.size, 0, none⟩ = some (.int .i64 kind) := by rw [← hW0, C.cell_new]; rfl
  have t1 : W0.cell? ⟨w.heap.size, 1, none⟩ = some (.string name) := by rw [← hW0, C.cell_new]; rfl
  have t2 : W0.cell? ⟨w.heap.size, 2, none⟩ = some (.string text) := by rw [← hW0, C.cell_new]; rfl
  have t3 : W0.cell? ⟨w.heap.size, 3, none⟩ = some (.slice la l.length lc) := by rw [← hW0, C.cell_new]; rfl
  have t4 : W0.cell? ⟨w.heap.size, 4, none⟩ = some (.bool self) := by rw [← hW0, C.cell_new]; rfl
  have HB0 : Hid (Below w.heap.size w W0) := b0
  have AN : Hid (Calls Tryz.prog 21 #[.slice la l.length lc] W0 fun e w' => e = .returned (.bool (attrsB l)) ∧ Below W0.heap.size W0 w') := attrNames_calls l _ W0 (HS.out.below b0) HL.out.1 (fun x hx => by have := (HL.out.2 x hx).1; omega)
  have TN : Hid (Calls Tryz.prog 20 #[.string name] W0 fun e w' => e = .returned (.bool (tagB name.data.toList)) ∧ w' = W0) := tagName_calls name W0 (by omega)
  clear b0
  obtain ⟨A, hA⟩ : ∃ A, attrsB l = A := ⟨_, rfl⟩
  obtain ⟨N, hN⟩ : ∃ N, tagB name.data.toList = N := ⟨_, rfl⟩
  obtain ⟨E, hE⟩ : ∃ E, l.isEmpty = E := ⟨_, rfl⟩
  obtain ⟨X, hX⟩ : ∃ X, name.toList.isEmpty = X := ⟨_, rfl⟩
  obtain ⟨Y, hY⟩ : ∃ Y, text.toList.isEmpty = Y := ⟨_, rfl⟩
  have HF : Hid (fitsB ⟨kind, name, text, self, p0, p1, p2⟩ l = if kind = 0 then E && !self && X && !Y else if kind = 1 then N && Y && A else if kind = 2 then E && !self && N && Y else if kind = 3 then E && !self && X else if kind = 4 then E && !self && X && Y else false) := by
    show _ = _
    unfold fitsB bareB
    simp only [hA, hN, hE, hX, hY]
  rw [hA] at AN
  rw [hN] at TN
  rw [hE] at q0
  clear hA hN hE
  go_enter Tryz.func14, Tryz.ntmps14
  by_cases k0 : kind = 0
  · subst k0
    rw [if_pos rfl] at HF
    go_wp2
    all_goals go_ret
    all_goals exact ⟨ret_bool (by rw [HF.out]; simp_all), HB0.out⟩
  have z0 : (kind == 0) = false := by simpa using k0
  rw [if_neg k0] at HF
  by_cases k1 : kind = 1
  · subst k1
    rw [if_pos rfl] at HF
    go_wp2_with (first
      | (go_at_call 20; refine TN.out.mono ?_; rintro e w' ⟨rfl, hw⟩; have hx' := hw.symm; subst hx')
      | (go_at_call 21; refine AN.out.mono ?_; rintro e w2 ⟨rfl, hb2⟩))
    all_goals go_ret
    all_goals first
      | exact ⟨ret_bool (by rw [HF.out]; simp_all), HB0.out⟩
      | exact ⟨ret_bool (by rw [HF.out]; simp_all), HB0.out.trans (hb2.mono HB0.out.size)⟩
  have z1 : (kind == 1) = false := by simpa using k1
  rw [if_neg k1] at HF
  by_cases k2 : kind = 2
  · subst k2
    rw [if_pos rfl] at HF
    go_wp2_with (first
      | (go_at_call 20; refine TN.out.mono ?_; rintro e w' ⟨rfl, hw⟩; have hx' := hw.symm; subst hx'))
    all_goals go_ret
    all_goals exact ⟨ret_bool (by rw [HF.out]; simp_all), HB0.out⟩
  have z2 : (kind == 2) = false := by simpa using k2
  rw [if_neg k2] at HF
  by_cases k3 : kind = 3
  · subst k3
    rw [if_pos rfl] at HF
    go_wp2
    all_goals go_ret
    all_goals exact ⟨ret_bool (by rw [HF.out]; simp_all), HB0.out⟩
  have z3 : (kind == 3) = false := by simpa using k3
  rw [if_neg k3] at HF
  by_cases k4 : kind = 4
  · subst k4
    rw [if_pos rfl] at HF
    go_wp2
    all_goals go_ret
    all_goals exact ⟨ret_bool (by rw [HF.out]; simp_all), HB0.out⟩
  have z4 : (kind == 4) = false := by simpa using k4
  rw [if_neg k4] at HF
  go_wp2
  all_goals go_ret
  all_goals exact ⟨ret_bool HF.out.symm, HB0.out⟩
end Go.Proofs.YtdkcibafbdmajaaGreatDoor.T
