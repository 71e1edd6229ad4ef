/- What is proved here: laws and contracts of RSureC, RSureR, one behind the other (each says its own). -/
import Derived.Test.YtegkdgmpkfpjmaaDoorBun14
import Derived.Test.YtegkdgmpkfpjmaaDoorRSureM
import Derived.Test.YtegkdgmpkfpjmaaDoorRPlainM
import Derived.Deep.RegionLaw
import Derived.Deep.AppendLies
import Derived.Laws.IdiomStrings
import Derived.Test.YtegkdgmpkfpjmaaDoorRRWhole
/- What is proved here: plain facts for the document's Sure: which places it looks at, in bytes and in runes. -/
namespace Go.Proofs.YtegkdgmpkfpjmaaDoor.R
open Go.RowKit Go.Shelf Go.Proofs.YtegkdgmpkfpjmaaDoor.U Go.Proofs.YtegkdgmpkfpjmaaDoor.N

/-- How many are sure. -/
def sureN (nm : List Int) (p : Nat) (zs : List Int) : Nat := zs.length - ((s0 p).run nm zs).h.length
/-- What Sure looks at, at a place: what stands there may begin the end tag. -/
def Cand (l : List UInt8) (rest : List Int) : Prop := (encs rest).length < (endB l).length ∧ lower (encs rest) = (endB l).take (encs rest).length
theorem endB_ascii (l : List UInt8) (hw : whZ l ≠ 0) : ∀ b ∈ endB l, b.toNat < 128 := by
  intro b hb
  have hlow := wh_low l hw
  rw [endB_eq] at hb
  simp only [List.mem_cons, List.mem_append, List.not_mem_nil, or_false] at hb
  rcases hb with rfl | rfl | hb | rfl
  · decide
  · decide
  · have := hlow b hb; omega
  · decide
theorem endB_zs (l : List UInt8) : (endB l).map (fun b : UInt8 => (b.toNat : Int)) = tagZ (R.zs l) := by
  rw [endB_eq]
  simp [tagZ]
theorem enc_ne (r : Int) : enc r ≠ [] := by
  cases hv : Utf8.valid r with
  | false => rw [enc_wrong hv]; simp
  | true =>
    have hb := (valid_iff r).1 hv
    by_cases c1 : r < 128
    · rw [enc_one hb.1 c1]; simp
    · by_cases c2 : r < 2048
      · rw [enc_two (by omega) c2]; simp
      · by_cases c3 : r < 65536
        · rw [enc_three hv (by omega) c3]; simp
        · rw [enc_four hv (by omega)]; simp
/-- Runes whose bytes are of ASCII are their bytes. -/
theorem encs_ascii : ∀ (Z : List Int), (∀ b ∈ encs Z, b.toNat < 128) → (encs Z).map (fun b : UInt8 => (b.toNat : Int)) = Z
  | [], _ => rfl
  | r :: Z, h => by
    have e : encs (r :: Z) = enc r ++ encs Z := rfl
    rw [e] at h ⊢
    by_cases hr : 0 ≤ r ∧ r < 128
    · have e1 := enc_one hr.1 hr.2
      rw [e1] at h ⊢
      rw [List.map_append, encs_ascii Z (fun b hb => h b (List.mem_append_right _ hb))]
      have : ((UInt8.ofNat r.toNat).toNat : Int) = r := by simp; omega
      rw [List.map_cons, List.map_nil, this]
      rfl
    · exfalso
      have hh := enc_high hr
      cases he : enc r with
      | nil => exact enc_ne r he
      | cons b t =>
        have h1 := hh b (by rw [he]; simp)
        have h2 := h b (by rw [he]; simp)
        omega
theorem ascii_encs : ∀ (Z : List Int), (∀ r ∈ Z, 0 ≤ r ∧ r < 128) → (encs Z).map (fun b : UInt8 => (b.toNat : Int)) = Z
  | [], _ => rfl
  | r :: Z, h => by
    have hr := h r (by simp)
    have e : encs (r :: Z) = enc r ++ encs Z := rfl
    rw [e, enc_one hr.1 hr.2, List.map_append, ascii_encs Z (fun x hx => h x (by simp [hx]))]
    have : ((UInt8.ofNat r.toNat).toNat : Int) = r := by simp; omega
    rw [List.map_cons, List.map_nil, this]
    rfl
theorem bytes_inj : ∀ (a b : List UInt8), (a.map fun b : UInt8 => (b.toNat : Int)) = (b.map fun b : UInt8 => (b.toNat : Int)) → a = b
  | [], [], _ => rfl
  | [], _ :: _, h => by simp at h
  | _ :: _, [], h => by simp at h
  | x :: a, y :: b, h => by
    simp only [List.map_cons, List.cons.injEq] at h
    rw [bytes_inj a b h.2, UInt8.toNat_inj.1 (by omega : x.toNat = y.toNat)]
theorem lower_ints (b : List UInt8) : (lower b).map (fun b : UInt8 => (b.toNat : Int)) = (b.map fun b : UInt8 => (b.toNat : Int)).map lowZ := by
  unfold lower
  rw [List.map_map, List.map_map]
  apply List.map_congr_left
  intro c _
  exact low_int c
/-- What is looked at is of ASCII: as many bytes as runes, and the end tag's beginning in any capitals. -/
theorem cand_runes {l : List UInt8} (hw : whZ l ≠ 0) {rest : List Int} (h : Cand l rest) : (encs rest).length = rest.length ∧ rest.length < l.length + 3 ∧ rest.map lowZ = (tagZ (R.zs l)).take rest.length := by
  obtain ⟨h1, h2⟩ := h
  have hasc : ∀ b ∈ encs rest, b.toNat < 128 := by
    intro b hb
    have hm : lowB b ∈ endB l := by
      have : lowB b ∈ lower (encs rest) := List.mem_map_of_mem hb
      rw [h2] at this
      exact List.mem_of_mem_take this
    have h5 := endB_ascii l hw _ hm
    have h6 := low_int b
    unfold lowZ at h6
    split at h6 <;> omega
  have he := encs_ascii rest hasc
  have hl : (encs rest).length = rest.length := by
    have := congrArg List.length he
    simpa using this
  refine ⟨hl, ?_, ?_⟩
  · rw [hl, endB_eq] at h1; simp at h1; omega
  · have e := congrArg (fun x => List.map (fun b : UInt8 => (b.toNat : Int)) x) h2
    rw [hl] at e
    rw [lower_ints, he, List.map_take, endB_zs] at e
    exact e
/-- What begins the end tag is looked at. -/
theorem cand_of {l : List UInt8} (hw : whZ l ≠ 0) {rest : List Int} (hl : rest.length < l.length + 3) (hm : rest.map lowZ = (tagZ (R.zs l)).take rest.length) : Cand l rest := by
  have hasc : ∀ r ∈ rest, 0 ≤ r ∧ r < 128 := by
    intro r hr
    have h1 : lowZ r ∈ tagZ (R.zs l) := by
      have : lowZ r ∈ rest.map lowZ := List.mem_map_of_mem hr
      rw [hm] at this
      exact List.mem_of_mem_take this
    rw [← endB_zs] at h1
    obtain ⟨b, hb, e⟩ := List.mem_map.1 h1
    have h5 := endB_ascii l hw b hb
    unfold lowZ at e
    split at e <;> omega
  have he := ascii_encs rest hasc
  have hlen : (encs rest).length = rest.length := by
    have := congrArg List.length he
    simpa using this
  refine ⟨by rw [hlen, endB_eq]; simp; omega, ?_⟩
  rw [hlen]
  apply bytes_inj
  rw [lower_ints, he, hm, List.map_take, endB_zs]
/-- **Sure**: at the place where what is held begins, and there alone, what is looked at ends the content. -/
theorem sure_right {l : List UInt8} (hw : whZ l ≠ 0) (h1 : p0 l ≠ 1) (zs : List Int) (h6 : ((s0 (p0 l)).run (R.zs l) zs).p ≠ 6) (k : Nat) (hk : k < zs.length) :
    (zs.getD k 0 = 60 ∧ Cand l (zs.drop k) ∧ refR (R.zs l) (p0 l) (zs ++ (tagZ (R.zs l)).drop (zs.drop k).length) = some k) ↔ k = sureN (R.zs l) (p0 l) zs := by
  have hnm := wh_ok l hw
  have hp := p0_range l
  have h2 : 2 ≤ p0 l := by omega
  obtain ⟨e1, e2⟩ := held_is hnm h2 hp.2 zs h6
  have hlen := congrArg List.length e1
  rw [List.length_append] at hlen
  constructor
  · rintro ⟨a1, a2, a3⟩
    obtain ⟨b1, b2⟩ := sure_only hnm h2 hp.2 zs _ h6 k hk a1 a3
    unfold sureN
    omega
  · intro e
    unfold sureN at e
    rcases e2 with e2 | ⟨j, j1, j2, j3, j4, y, e3, e4, hP⟩
    · rw [e2] at e; simp at e; omega
    · have hne : ((s0 (p0 l)).run (R.zs l) zs).h ≠ [] := by rw [e3]; simp
      have hol : ((s0 (p0 l)).run (R.zs l) zs).o.length = k := by omega
      have hd : zs.drop k = ((s0 (p0 l)).run (R.zs l) zs).h := by
        conv => lhs; rw [← e1]
        rw [← hol, List.drop_left]
      have hy := sure_yes hnm h2 hp.2 zs h6 hne
      refine ⟨?_, ?_, ?_⟩
      · have : zs.getD k 0 = (zs.drop k).getD 0 0 := by simp [List.getD]
        rw [this, hd, e3]; rfl
      · rw [hd]
        refine cand_of hw ?_ ?_
        · rw [show (R.zs l).length = l.length by simp] at j2; omega
        · rw [j3]; exact j4
      · rw [hd, hy]
        congr 1
        omega
end Go.Proofs.YtegkdgmpkfpjmaaDoor.R

/- What is proved here: for the document's Sure: the runes of what is left of an end tag; appending runes as one step of a region that draws its order. -/
namespace Go.Proofs.YtegkdgmpkfpjmaaDoor.R
open Go.RowKit Go.Shelf Go.Proofs.YtegkdgmpkfpjmaaDoor.U Go.Proofs.YtegkdgmpkfpjmaaDoor.N

theorem tag_runes (l : List UInt8) (h : whZ l ≠ 0) : ∀ k, k < 13 → Conv.runesFrom ⟨((endB l).drop k).toArray⟩ (⟨((endB l).drop k).toArray⟩ : ByteArray).size 0 #[] = (((tagZ (zs l)).drop k).map (Value.int .i32)).toArray :=
  wh_cases l h (fun l => ∀ k, k < 13 → Conv.runesFrom ⟨((endB l).drop k).toArray⟩ (⟨((endB l).drop k).toArray⟩ : ByteArray).size 0 #[] = (((tagZ (zs l)).drop k).map (Value.int .i32)).toArray)
    (fun k hk => match k, hk with | 0, _ => by rfl | 1, _ => by rfl | 2, _ => by rfl | 3, _ => by rfl | 4, _ => by rfl | 5, _ => by rfl | 6, _ => by rfl | 7, _ => by rfl | 8, _ => by rfl | 9, _ => by rfl | 10, _ => by rfl | 11, _ => by rfl | 12, _ => by rfl | (n + 13), h => absurd h (by omega))
    (fun k hk => match k, hk with | 0, _ => by rfl | 1, _ => by rfl | 2, _ => by rfl | 3, _ => by rfl | 4, _ => by rfl | 5, _ => by rfl | 6, _ => by rfl | 7, _ => by rfl | 8, _ => by rfl | 9, _ => by rfl | 10, _ => by rfl | 11, _ => by rfl | 12, _ => by rfl | (n + 13), h => absurd h (by omega))
    (fun k hk => match k, hk with | 0, _ => by rfl | 1, _ => by rfl | 2, _ => by rfl | 3, _ => by rfl | 4, _ => by rfl | 5, _ => by rfl | 6, _ => by rfl | 7, _ => by rfl | 8, _ => by rfl | 9, _ => by rfl | 10, _ => by rfl | 11, _ => by rfl | 12, _ => by rfl | (n + 13), h => absurd h (by omega))
    (fun k hk => match k, hk with | 0, _ => by rfl | 1, _ => by rfl | 2, _ => by rfl | 3, _ => by rfl | 4, _ => by rfl | 5, _ => by rfl | 6, _ => by rfl | 7, _ => by rfl | 8, _ => by rfl | 9, _ => by rfl | 10, _ => by rfl | 11, _ => by rfl | 12, _ => by rfl | (n + 13), h => absurd h (by omega))
    (fun k hk => match k, hk with | 0, _ => by rfl | 1, _ => by rfl | 2, _ => by rfl | 3, _ => by rfl | 4, _ => by rfl | 5, _ => by rfl | 6, _ => by rfl | 7, _ => by rfl | 8, _ => by rfl | 9, _ => by rfl | 10, _ => by rfl | 11, _ => by rfl | 12, _ => by rfl | (n + 13), h => absurd h (by omega))
    (fun k hk => match k, hk with | 0, _ => by rfl | 1, _ => by rfl | 2, _ => by rfl | 3, _ => by rfl | 4, _ => by rfl | 5, _ => by rfl | 6, _ => by rfl | 7, _ => by rfl | 8, _ => by rfl | 9, _ => by rfl | 10, _ => by rfl | 11, _ => by rfl | 12, _ => by rfl | (n + 13), h => absurd h (by omega))
    (fun k hk => match k, hk with | 0, _ => by rfl | 1, _ => by rfl | 2, _ => by rfl | 3, _ => by rfl | 4, _ => by rfl | 5, _ => by rfl | 6, _ => by rfl | 7, _ => by rfl | 8, _ => by rfl | 9, _ => by rfl | 10, _ => by rfl | 11, _ => by rfl | 12, _ => by rfl | (n + 13), h => absurd h (by omega))
    (fun k hk => match k, hk with | 0, _ => by rfl | 1, _ => by rfl | 2, _ => by rfl | 3, _ => by rfl | 4, _ => by rfl | 5, _ => by rfl | 6, _ => by rfl | 7, _ => by rfl | 8, _ => by rfl | 9, _ => by rfl | 10, _ => by rfl | 11, _ => by rfl | 12, _ => by rfl | (n + 13), h => absurd h (by omega))
    (fun k hk => match k, hk with | 0, _ => by rfl | 1, _ => by rfl | 2, _ => by rfl | 3, _ => by rfl | 4, _ => by rfl | 5, _ => by rfl | 6, _ => by rfl | 7, _ => by rfl | 8, _ => by rfl | 9, _ => by rfl | 10, _ => by rfl | 11, _ => by rfl | 12, _ => by rfl | (n + 13), h => absurd h (by omega))
    (fun k hk => match k, hk with | 0, _ => by rfl | 1, _ => by rfl | 2, _ => by rfl | 3, _ => by rfl | 4, _ => by rfl | 5, _ => by rfl | 6, _ => by rfl | 7, _ => by rfl | 8, _ => by rfl | 9, _ => by rfl | 10, _ => by rfl | 11, _ => by rfl | 12, _ => by rfl | (n + 13), h => absurd h (by omega))
theorem slice_l (bs : List UInt8) (k : Nat) (hk : k ≤ bs.length) (K : Int) (hK : K = k) (w : World) : (Instr.slice 9 (.string ⟨bs.toArray⟩) (some (.int .i64 K)) none none).run Tryd.prog w = .ok (.string ⟨(bs.drop k).toArray⟩) w := by
  subst hK
  have hsz : (⟨bs.toArray⟩ : ByteArray).size = bs.length := by simp [ByteArray.size]
  rw [run_slice_string_l w 9 ⟨bs.toArray⟩ Tryd.underlying9 .i64 k (by omega) (by rw [hsz]; omega)]
  congr 2
  apply ByteArray.ext
  simp
  rw [hsz]
  exact List.take_of_length_le (by simp)
theorem info32 : (Tryd.prog.info? 21).map (fun i => (i.zero, i.size, i.bytes)) = some (some (.int .i32 0), 1, 4) := by kernel_rfl
theorem ints_at {w : World} {b off : Nat} {zs : List Int} (hx : ∀ j, j < zs.length → w.cell? ⟨b, off + j, none⟩ = some (.int .i32 (zAt zs j))) : ∀ j u, (zs.map (Value.int .i32))[j]? = some u → w.cell? ((⟨b, off, none⟩ : Addr).add j) = some u := fun j u h => by
  have hj : j < zs.length := by
    rcases Nat.lt_or_ge j zs.length with h' | h'
    · exact h'
    · rw [List.getElem?_eq_none (by simpa using h')] at h; cases h
  have hadd : (⟨b, off, none⟩ : Addr).add j = ⟨b, off + j, none⟩ := by unfold Addr.add; split <;> simp_all
  rw [hadd, hx j hj]
  rw [List.getElem?_map, List.getElem?_eq_getElem hj] at h
  simp only [Option.map_some, Option.some.injEq] at h
  rw [← h, show zAt zs j = zs[j] by simp [zAt, hj]]
theorem step_runes {w : World} {ops : Array Oper} {o : Oper} {a : Act} {K : Act → World → Prop} {Q : Exit → Act → World → Prop} {E : Prop} (hg : o.guard = none) (s x : Operand)
    (ho : o.op = .call { callee := .builtin .append, args := #[s, x], argTypes := #[32, 32] }) (base : Nat)
    (v : Value) (n : Nat) (xs : List Value) (hs : a.eval s = v) (hown : w.ownsRow base 21 1 v n xs) (xv : Value) (zs : List Int) (hx : a.eval x = xv) (hH : HasI .i32 w xv zs) (h0 : 0 < zs.length) (N : Nat) (hN : n + zs.length = N)
    (h63 : N ≤ 10000000000) (hbase : base ≤ w.heap.size)
    (h : ∀ g cap w', w'.ownsRow base 21 1 (.slice (some ⟨g, 0, none⟩) N cap) N (xs ++ zs.map (Value.int .i32)) → w.grownBy w' v.ownBlock → (v.ownBlock = some g ∨ g = w.heap.size) → K (a.put o.dst (.slice (some ⟨g, 0, none⟩) N cap)) w') :
    if Region.wanted o (yielded ops a.tmps) = true then Oper.wp Tryd.prog o a w K Q else E := by
  subst hN
  obtain ⟨i0, hi, hz0, hz1, hz2⟩ := info_parts info32
  rcases hH with ⟨e, _⟩ | ⟨_, b, off, cap, e, hc, hx'⟩
  · subst e; simp at h0
  · subst e
    exact step_append_lies w hg s x _ ho base _ i0 (.int .i32 0) 1 4 Tryd.underlying32 hi hz0 hz1 hz2 rfl (by decide) v n xs hs hown ⟨b, off, none⟩ zs.length cap (zs.map (Value.int .i32)) hx (by simp) (ints_at hx') (fun u hu => by obtain ⟨z, _, rfl⟩ := List.mem_map.1 hu; rfl) h0 (by unfold maxLen; omega) (by omega) hbase w.heap.size rfl (fun g cap w' a b c _ => h g cap w' a b c)
/-- What a conversion laid, in memory. -/
theorem conv_has {W : World} {B : Nat} {zs : List Int} {more : Array Value} {cap : Nat} (h0 : 0 < zs.length) (hc : zs.length ≤ cap) (h : W.heap[B]? = some (.cells ((zs.map (Value.int .i32)).toArray ++ more) 21 (0, 0))) : HasI .i32 W (.slice (some ⟨B, 0, none⟩) zs.length cap) zs := by
  refine .inr ⟨h0, B, 0, cap, rfl, hc, fun j hj => ?_⟩
  rw [Nat.zero_add, cell_of_row W B j _ _ _ h, Array.getElem?_append_left (by simpa using hj)]
  simp [hj, zAt]
theorem own_none {W : World} {base B : Nat} (h : W.heap[B]? = some (.cells #[] 21 (0, 0))) (hb : base ≤ B) : W.ownsRow base 21 1 (.slice (some ⟨B, 0, none⟩) 0 0) 0 [] :=
  ⟨rfl, .inr ⟨B, 0, #[], rfl, hb, h, Nat.le_refl _, Nat.zero_le _, rfl, rfl⟩⟩
theorem blk_old {W : World} {B : Nat} {o : Obj} (h : W.heap[B]? = some o) (o' : Obj) : (W.alloc o').heap[B]? = some o := by
  have hlt : B < W.heap.size := by
    rcases Nat.lt_or_ge B W.heap.size with h' | h'
    · exact h'
    · rw [Array.getElem?_eq_none h'] at h; cases h
  rw [Lib.alloc_old _ _ _ hlt]; exact h
theorem blk_drew {W : World} {B : Nat} {o : Obj} (h : W.heap[B]? = some o) : W.drew.heap[B]? = some o := h
theorem blk_next (W : World) (x o : Obj) : ((W.alloc x).alloc o).heap[W.heap.size + 1]? = some o := by
  have h := World.alloc_heap_new (W.alloc x) o
  have hz : (W.alloc x).heap.size = W.heap.size + 1 := by simp
  rw [hz] at h
  exact h
theorem blk_new (W : World) (o : Obj) : (W.alloc o).heap[W.heap.size]? = some o := World.alloc_heap_new W o
theorem blk_over (W : World) (x o : Obj) : ((W.alloc x).drew.alloc o).heap[W.heap.size + 1]? = some o := by
  have h := World.alloc_heap_new (W.alloc x).drew o
  have hz : (W.alloc x).drew.heap.size = W.heap.size + 1 := by simp
  rw [hz] at h
  exact h
end Go.Proofs.YtegkdgmpkfpjmaaDoor.R
