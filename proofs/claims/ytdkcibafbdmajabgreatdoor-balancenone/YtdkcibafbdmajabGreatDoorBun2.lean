/- What is proved here: laws and contracts of NTags, CBase, one behind the other (each says its own). -/
import Derived.Test.YtdkcibafbdmajabGreatDoorBun1
import Derived.BigQuiet
import Derived.Deep.QuietTactic
import Derived.Deep.RegionWith
import Derived.WalkSmall
import Derived.WalkKit
import Derived.OwnWalk
import Derived.Below
import Derived.Lib.SliceRun
import Derived.Lib.ConvBytes
import Derived.Laws.Cover4
import Derived.Laws.OwnMore
import Derived.Laws.IdiomStrings
import Derived.Lib.BufferRead
import Derived.OwnWalkIn
import Derived.RangeFuncRecord
import Derived.Test.YtdkcibafbdmajabGreatDoorProg
/- What is proved here: the contracts of TagName and AttrName, of names and of sieveref04: whether a name may be written. -/
namespace Go.Proofs.YtdkcibafbdmajabGreatDoor.N
open Go.RowKit

set_option maxRecDepth 100000 in
set_option maxHeartbeats 1000000 in
theorem tag_calls (s : ByteArray) (w : World) (hs : s.size ≤ 9223372036854775807) : Calls Tryz.prog 90 #[.string s] w fun e w' => e = .returned (.bool (tagN s.data.toList)) ∧ w' = w := by
  have hz := size_data s
  have HZ : Hid (s.data.toList.length = s.size) := hz
  have HT : Hid (tagN s.data.toList = (beginsN s.data.toList && s.data.toList.all plainB)) := rfl
  clear hz
  go_enter Tryz.func90, Tryz.ntmps90
  go_wp2_with fail
  refine (begins_calls _ _).mono ?_
  rintro e w' ⟨rfl, hw'⟩
  obtain rfl : w = w' := hw'.symm
  cases hb : beginsN s.data.toList with
  | false =>
    go_wp2
    all_goals go_ret
    exact ⟨ret_bool (by rw [HT.out, hb]; rfl), rfl⟩
  | true =>
    have h100 : s.size ≤ 100 := by have := HZ.out; simp [beginsN] at hb; omega
    go_wp2
    go_loopw [3, 9] (fun _ i wr => ∃ k : Nat, k ≤ s.size ∧ i = .int .i64 k ∧ wr = w ∧ Hid ((s.data.toList.take k).all plainB = true)) (fun _ i _ => s.size - (intOf i).toNat)
    case atStart => exact ⟨0, by omega, rfl, rfl, by simp [Hid]⟩
    case round =>
      obtain ⟨k, hk, rfl, rfl, hp⟩ := hrel
      by_cases hlt : k < s.size
      · obtain ⟨c, hcc⟩ : ∃ c, s.data.toList.getD k 0 = c := ⟨_, rfl⟩
        have hix : ∀ w, (Instr.index 9 (.string s) (.int .i64 k)).run Tryz.prog w = .ok (.int .u8 c.toNat) w := fun w => run_byte w _ s _ k k c Tryz.underlying9 rfl hlt hcc
        have HC : Hid (s.data.toList.getD k 0 = c) := hcc
        clear hcc
        cases hpc : plainB c with
        | true =>
          go_wp2_with (go_at_call 112; refine (nplain_calls _ _).mono ?_; rintro e w' ⟨rfl, hw'⟩; have hx' := hw'.symm; subst hx')
          go_roundw
          case rel => exact ⟨k + 1, by omega, by go_num, by trivial, all_take_succ _ _ k (by have := HZ.out; omega) hp.out (by rw [HC.out]; exact hpc)⟩
          case measure => simp [intOf]; omega
        | false =>
          go_wp2_with (go_at_call 112; refine (nplain_calls _ _).mono ?_; rintro e w' ⟨rfl, hw'⟩; have hx' := hw'.symm; subst hx')
          go_ret
          exact ⟨ret_bool (by rw [HT.out, all_not _ _ k (by have := HZ.out; omega) (by rw [HC.out]; exact hpc)]; simp), rfl⟩
      · obtain rfl : k = s.size := by omega
        go_wp2
        go_ret
        exact ⟨ret_bool (by have h := hp.out; rw [← HZ.out, List.take_length] at h; rw [HT.out, hb, h]; rfl), rfl⟩

end Go.Proofs.YtdkcibafbdmajabGreatDoor.N

/- What is proved here: plain facts of bytes, numbers and rows in memory, and the contract of bytes.Clone. -/
namespace Go.Proofs.YtdkcibafbdmajabGreatDoor.C
open Go.RowKit

def byteAt (bs : List UInt8) (k : Nat) : Nat := (bs[k]?.getD 0).toNat
theorem byteAt_lt (bs : List UInt8) (k : Nat) : byteAt bs k < 256 := UInt8.toNat_lt _
theorem byteAt_drop (bs : List UInt8) (k j : Nat) : byteAt (bs.drop k) j = byteAt bs (k + j) := by simp [byteAt]
theorem byteAt_take (bs : List UInt8) (k j : Nat) (h : j < k) : byteAt (bs.take k) j = byteAt bs j := by simp [byteAt, h]
def zAt (zs : List Int) (k : Nat) : Int := zs[k]?.getD 0

theorem cell_lt {w : World} {p : Addr} {v : Value} (h : w.cell? p = some v) : p.block < w.heap.size := by
  unfold World.cell? at h
  cases e : w.heap[p.block]? with
  | none => rw [e] at h; simp at h
  | some o => exact (Array.getElem?_eq_some_iff.1 e).1
theorem lt_of_block {W : World} {k : Nat} {o : Obj} (h : W.heap[k]? = some o) : k < W.heap.size := (Array.getElem?_eq_some_iff.1 h).1
theorem cs_other {X : World} {a b : Addr} {v : Value} (h : a ≠ b) : (X.setCell a v).cell? b = X.cell? b := by apply World.cell?_setCell_other; exact h
theorem cs_same {X : World} {a : Addr} {v u : Value} (h : X.cell? a = some u) : (X.setCell a v).cell? a = some v := by apply World.cell?_setCell_same; exact h
theorem add_none (b off j : Nat) : (⟨b, off, none⟩ : Addr).add j = ⟨b, off + j, none⟩ := by unfold Addr.add; split <;> simp_all

theorem cell_new (W : World) (c : Array Value) (t : TypeId) (fr : Nat × Nat) (k : Nat) : (W.alloc (.cells c t fr)).cell? ⟨W.heap.size, k, none⟩ = c[k]? := by
  have hb := World.alloc_heap_new W (.cells c t fr)
  simp only [World.cell?, hb]; simp
theorem cell_under (W : World) (o : Obj) (p : Addr) (h : p.block < W.heap.size) : (W.alloc o).cell? p = W.cell? p := ((Below.refl _ W).alloc (Nat.le_refl _) o).cell h

/-- The bytes that a slice value holds in memory, below n₀. -/
def HasB (n₀ : Nat) (w : World) (v : Value) (bs : List UInt8) : Prop :=
  (bs = [] ∧ ∃ a cap, v = .slice a 0 cap) ∨ (0 < bs.length ∧ ∃ b off cap, v = .slice (some ⟨b, off, none⟩) bs.length cap ∧ bs.length ≤ cap ∧ b < n₀ ∧ ∀ j, j < bs.length → w.cell? ⟨b, off + j, none⟩ = some (.int .u8 (byteAt bs j)))
theorem HasB.below {n₀ : Nat} {A B : World} {v : Value} {bs : List UInt8} (hl : HasB n₀ A v bs) (h : Below n₀ A B) : HasB n₀ B v bs := by
  rcases hl with hl | ⟨hp, b, off, cap, hv, hc, hb, hx⟩
  · exact .inl hl
  · exact .inr ⟨hp, b, off, cap, hv, hc, hb, fun j hj => (h.cell (p := ⟨b, off + j, none⟩) hb).trans (hx j hj)⟩
theorem HasB.mono {n₀ n₁ : Nat} {w : World} {v : Value} {bs : List UInt8} (hl : HasB n₀ w v bs) (h : n₀ ≤ n₁) : HasB n₁ w v bs := by
  rcases hl with hl | ⟨hp, b, off, cap, hv, hc, hb, hx⟩
  · exact .inl hl
  · exact .inr ⟨hp, b, off, cap, hv, hc, by omega, hx⟩
theorem HasB.slice {n₀ : Nat} {w : World} {v : Value} {bs : List UInt8} (hl : HasB n₀ w v bs) : ∃ a cap, v = .slice a bs.length cap := by
  rcases hl with ⟨rfl, a, cap, rfl⟩ | ⟨hp, b, off, cap, rfl, _⟩
  · exact ⟨a, cap, rfl⟩
  · exact ⟨_, cap, rfl⟩
/-- The numbers that a slice value holds in memory. -/
def HasI (q : IntKind) (w : World) (v : Value) (zs : List Int) : Prop :=
  (zs = [] ∧ ∃ a cap, v = .slice a 0 cap) ∨ (0 < zs.length ∧ ∃ b off cap, v = .slice (some ⟨b, off, none⟩) zs.length cap ∧ zs.length ≤ cap ∧ ∀ j, j < zs.length → w.cell? ⟨b, off + j, none⟩ = some (.int q (zAt zs j)))
theorem HasI.below {q : IntKind} {A B : World} {v : Value} {zs : List Int} (hl : HasI q A v zs) (h : Below A.heap.size A B) : HasI q B v zs := by
  rcases hl with hl | ⟨hp, b, off, cap, hv, hc, hx⟩
  · exact .inl hl
  · exact .inr ⟨hp, b, off, cap, hv, hc, fun j hj => (h.cell (p := ⟨b, off + j, none⟩) (cell_lt (hx j hj))).trans (hx j hj)⟩

theorem grownBy_of_below {W W' : World} (h : Below W.heap.size W W') : W.grownBy W' none := ⟨h.os, h.tape, h.output, h.size, fun k hk _ => h.block k hk⟩
theorem owns_below {A B : World} {base : Nat} {e : TypeId} {size : Nat} {v : Value} {n : Nat} {xs : List Value} (h : A.ownsRow base e size v n xs) (hb : Below A.heap.size A B) : B.ownsRow base e size v n xs :=
  h.kept (grownBy_of_below hb) (by cases v.ownBlock <;> simp)
theorem owns_slice {W : World} {base : Nat} {e : TypeId} {size : Nat} {v : Value} {n : Nat} {xs : List Value} (h : W.ownsRow base e size v n xs) : ∃ a cap, v = .slice a n cap := by
  rcases h.2 with ⟨rfl, rfl⟩ | ⟨g, cap, cur, rfl, _⟩
  · exact ⟨none, 0, rfl⟩
  · exact ⟨_, cap, rfl⟩
theorem owns_mono {W : World} {base base' : Nat} {e : TypeId} {size : Nat} {v : Value} {n : Nat} {xs : List Value} (h : W.ownsRow base e size v n xs) (hb : base' ≤ base) : W.ownsRow base' e size v n xs := by
  refine ⟨h.1, ?_⟩
  rcases h.2 with h | ⟨g, cap, cur, e1, e2, e3⟩
  · exact .inl h
  · exact .inr ⟨g, cap, cur, e1, by omega, e3⟩
/-- Rows of two types lie in two blocks. -/
theorem owns_apart {W : World} {base base' : Nat} {e e' : TypeId} {size size' : Nat} {v v' : Value} {n n' : Nat} {xs xs' : List Value} (h : W.ownsRow base e size v n xs) (h' : W.ownsRow base' e' size' v' n' xs') (hne : e ≠ e') :
    v.ownBlock = none ∨ v.ownBlock ≠ v'.ownBlock := by
  rcases h.2 with ⟨rfl, _⟩ | ⟨g, cap, cur, rfl, _, hg, _⟩
  · exact .inl rfl
  · right
    rcases h'.2 with ⟨rfl, _⟩ | ⟨g', cap', cur', rfl, _, hg', _⟩
    · simp [Value.ownBlock]
    · intro e
      simp [Value.ownBlock] at e
      subst e
      rw [hg] at hg'
      simp at hg'
      exact hne hg'.2

/-- Bytes as values. -/
def bvs (bs : List UInt8) : List Value := bs.map fun c => Value.int .u8 (c.toNat : Int)
theorem bvs_length (bs : List UInt8) : (bvs bs).length = bs.length := by simp [bvs]
theorem bvs_append (a b : List UInt8) : bvs (a ++ b) = bvs a ++ bvs b := by simp [bvs]
theorem bvs_get (bs : List UInt8) (j : Nat) (hj : j < bs.length) : (bvs bs)[j]? = some (.int .u8 (byteAt bs j)) := by simp [bvs, byteAt, hj]
theorem bvs_one (bs : List UInt8) : ∀ u ∈ bvs bs, u.oneCell' = true := fun x hx => by simp [bvs] at hx; obtain ⟨c, _, rfl⟩ := hx; rfl
theorem hasB_owns {w : World} {base : Nat} {e : TypeId} {v : Value} {bs : List UInt8} (h : w.ownsRow base e 1 v bs.length (bvs bs)) : HasB w.heap.size w v bs := by
  rcases h.2 with ⟨rfl, h0⟩ | ⟨g, cap, cur, rfl, hb, hg, hcap, _, hsz, ht⟩
  · exact .inl ⟨List.length_eq_zero_iff.1 h0, none, 0, rfl⟩
  · by_cases hp : bs.length = 0
    · have e0 := List.length_eq_zero_iff.1 hp
      subst e0
      exact .inl ⟨rfl, some ⟨g, 0, none⟩, cap, rfl⟩
    refine .inr ⟨by omega, g, 0, cap, rfl, hcap, lt_of_block hg, fun j hj => ?_⟩
    rw [Nat.zero_add, h.cellAt j (by omega), bvs_get bs j hj]
theorem owns_empty (w : World) (e : TypeId) (size : Nat) : (w.alloc (.cells #[] e)).ownsRow w.heap.size e size (.slice (some ⟨w.heap.size, 0, none⟩) 0 0) 0 [] :=
  ⟨by simp, .inr ⟨w.heap.size, 0, #[], rfl, Nat.le_refl _, World.alloc_heap_new w _, Nat.le_refl _, Nat.zero_le _, by simp, by simp⟩⟩
theorem cells_of {w : World} {b off : Nat} {bs : List UInt8} (hx : ∀ j, j < bs.length → w.cell? ⟨b, off + j, none⟩ = some (.int .u8 (byteAt bs j))) : ∀ j u, (bvs bs)[j]? = some u → w.cell? ((⟨b, off, none⟩ : Addr).add j) = some u := fun j u h => by
  have hj : j < bs.length := by have := (List.getElem?_eq_some_iff.1 h).1; simpa [bvs] using this
  rw [bvs_get bs j hj] at h; cases h
  rw [add_none]; exact hx j hj

theorem infoByte : (Tryz.prog.info? 5).map (fun i => (i.zero, i.size, i.bytes)) = some (some (.int .u8 0), 1, 1) := by kernel_rfl

/-- string(b) of bytes in memory. -/
theorem conv_bytes {w : World} {v : Value} {bs : List UInt8} {n₀ : Nat} (h : HasB n₀ w v bs) : (convert 90 9 v).run Tryz.prog w = .ok (.string ⟨bs.toArray⟩) w := by
  rcases h with ⟨rfl, a, cap, rfl⟩ | ⟨hp, b, off, cap, rfl, hcap, _, hx⟩
  · cases a with
    | none => exact Lib.run_convert_nil_bytes w _ _ 5 cap Tryz.underlying90 Tryz.underlying5 Tryz.underlying9
    | some ad => exact run_convert_bytes_back w _ _ 5 ad cap [] Tryz.underlying90 Tryz.underlying5 Tryz.underlying9 (fun j hj => by simp at hj)
  · exact run_convert_bytes_back w _ _ 5 ⟨b, off, none⟩ cap bs Tryz.underlying90 Tryz.underlying5 Tryz.underlying9 (fun j hj => by rw [add_none, hx j hj]; simp [byteAt, hj])
theorem bytesWorld_below (w : World) (e : TypeId) (s : ByteArray) : Below w.heap.size w (Lib.bytesWorld w e s) :=
  ⟨rfl, rfl, rfl, by rw [Lib.bytesWorld_size]; omega, fun k hk => Lib.bytesWorld_at_old w e s k hk⟩
theorem bytesWorld_hasB (w : World) (e : TypeId) (bs : List UInt8) : HasB (w.heap.size + 1) (Lib.bytesWorld w e ⟨bs.toArray⟩) (.slice (some ⟨w.heap.size, 0, none⟩) bs.length (grownCap w bs.length 0 e)) bs := by
  by_cases h0 : bs.length = 0
  · refine .inl ⟨List.length_eq_zero_iff.1 h0, _, _, by rw [h0]⟩
  · refine .inr ⟨by omega, w.heap.size, 0, _, rfl, grownCap_ge _ _ _ _, by omega, fun j hj => ?_⟩
    rw [Nat.zero_add, Lib.bytesWorld_cell w e ⟨bs.toArray⟩ j (by simpa [ByteArray.size] using hj)]
    simp [byteAt, hj, List.getD]

end Go.Proofs.YtdkcibafbdmajabGreatDoor.C
