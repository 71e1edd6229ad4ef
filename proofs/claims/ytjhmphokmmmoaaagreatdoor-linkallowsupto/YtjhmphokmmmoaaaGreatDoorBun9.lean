/- What is proved here: laws and contracts of RRMend, LkB, LkStrip, one behind the other (each says its own). -/
import Derived.Test.YtjhmphokmmmoaaaGreatDoorBun8
import Derived.Test.YtjhmphokmmmoaaaGreatDoorMathB
import Derived.Laws.IdiomStrings
import Derived.Maps.AppendAt
import Derived.Test.YtjhmphokmmmoaaaGreatDoorBun4
/- What is proved here: the document's Mend. -/
namespace Go.Proofs.YtjhmphokmmmoaaaGreatDoor.R
open Go.RowKit Go.Shelf Go.Proofs.YtjhmphokmmmoaaaGreatDoor.U

set_option maxRecDepth 100000 in
set_option maxHeartbeats 2000000 in
/-- **sieveref01.Mend of any text.** -/
theorem rmend_calls (bs : List UInt8) (w : World) (hl : bs.length ≤ 274877906944) :
    Calls Tryz.prog 45 #[.string ⟨bs.toArray⟩] w fun e W' => e = .returned (.string ⟨(encs (runesI bs)).toArray⟩) ∧ Below w.heap.size w W' := by
  have hcv := Lib.run_convert_string_bytes (P := Tryz.prog) w 9 48 5 ⟨bs.toArray⟩ Tryz.underlying9 Tryz.underlying48 Tryz.underlying5
  rw [byteArr_size] at hcv
  have hbw := bytesWorld_below w 5 ⟨bs.toArray⟩
  have RC : Hid (∀ cap, bs.length ≤ cap → Calls Tryz.prog 67 #[.slice (some ⟨w.heap.size, 0, none⟩) bs.length cap] (Lib.bytesWorld w 5 ⟨bs.toArray⟩) fun e W' => ∃ a cap, e = .returned (.slice a (runesI bs).length cap) ∧ W'.ownsRow (Lib.bytesWorld w 5 ⟨bs.toArray⟩).heap.size 21 1 (.slice a (runesI bs).length cap) (runesI bs).length ((runesI bs).map (Value.int .i32)) ∧ Below (Lib.bytesWorld w 5 ⟨bs.toArray⟩).heap.size (Lib.bytesWorld w 5 ⟨bs.toArray⟩) W') :=
    fun cap hcap => rrunes_calls _ bs (w.heap.size + 1) _ (by omega) (RowB.hasB0 rfl (bytesWorld_row w 5 bs) hcap _ (Nat.lt_succ_self _))
  have HBW : Hid (Below w.heap.size w (Lib.bytesWorld w 5 ⟨bs.toArray⟩)) := hbw
  have hrle : (runesI bs).length ≤ bs.length := by rw [runesI_length]; exact pcs_length bs
  clear hbw
  go_enter Tryz.func45, Tryz.ntmps45
  go_wp2_with (first
    | (go_at_call 67
       refine (RC.out _ (grownCap_ge _ _ _ _)).mono ?_
       rintro e w2 ⟨al, cl, rfl, hown2, hb2⟩
       have hI : HasI .i32 w2 _ (runesI bs) := hasI_owns (e := 21) hown2)
    | (go_at_call 66
       refine (text_calls _ _ _ (by omega) hI).mono ?_
       rintro e w3 ⟨rfl, hb3⟩))
  go_ret
  exact ⟨rfl, (HBW.out.trans (hb2.mono HBW.out.size)).trans (hb3.mono (by have := HBW.out.size; have := hb2.size; omega))⟩
end Go.Proofs.YtjhmphokmmmoaaaGreatDoor.R

/- What is proved here: texts as lists of bytes: a byte of one, parts of one, and one byte more behind bytes of one's own. -/
namespace Go.Proofs.YtjhmphokmmmoaaaGreatDoor.L
open Go.RowKit Go.Shelf Go.Proofs.YtjhmphokmmmoaaaGreatDoor.N Go.Proofs.YtjhmphokmmmoaaaGreatDoor.U

theorem hid_of {p : Prop} (h : p) : Hid p := h
theorem arr_size (l : List UInt8) : (⟨l.toArray⟩ : ByteArray).size = l.length := by simp [ByteArray.size]
theorem arr_list (l : List UInt8) : (⟨l.toArray⟩ : ByteArray).data.toList = l := by simp
theorem byte_at (l : List UInt8) (k : Nat) (c : UInt8) (hk : k < l.length) (hc : l.getD k 0 = c) (i : Int) (hi : i = k) (w : World) : (Instr.index 9 (.string ⟨l.toArray⟩) (.int .i64 i)).run Tryz.prog w = .ok (.int .u8 c.toNat) w :=
  run_byte w _ _ _ i k c Tryz.underlying9 hi (by rw [arr_size]; exact hk) (by rw [arr_list]; exact hc)
theorem slice_h (bs : List UInt8) (k : Nat) (hk : k ≤ bs.length) (K : Int) (hK : K = k) (w : World) : (Instr.slice 9 (.string ⟨bs.toArray⟩) none (some (.int .i64 K)) none).run Tryz.prog w = .ok (.string ⟨(bs.take k).toArray⟩) w := by
  subst hK
  rw [run_slice_string_h w 9 ⟨bs.toArray⟩ Tryz.underlying9 .i64 k (by omega) (by rw [arr_size]; omega)]
  congr 2
  apply ByteArray.ext
  simp
theorem slice_l (bs : List UInt8) (k : Nat) (hk : k ≤ bs.length) (K : Int) (hK : K = k) (w : World) : (Instr.slice 9 (.string ⟨bs.toArray⟩) (some (.int .i64 K)) none none).run Tryz.prog w = .ok (.string ⟨(bs.drop k).toArray⟩) w := by
  subst hK
  have hsz := arr_size bs
  rw [run_slice_string_l w 9 ⟨bs.toArray⟩ Tryz.underlying9 .i64 k (by omega) (by rw [hsz]; omega)]
  congr 2
  apply ByteArray.ext
  simp
  rw [hsz]
  exact List.take_of_length_le (by simp)
theorem run_slice_lhS {P : Program} (w : World) (t : TypeId) (s : ByteArray) (ht : P.underlying t = some .string) (l h : Int) (h0 : 0 ≤ l) (h1 : l ≤ h) (h2 : h ≤ s.size) :
    (Instr.slice t (.string s) (some (.int .i64 l)) (some (.int .i64 h)) none).run P w = .ok (.string (s.extract l.toNat h.toNat)) w := by
  have eh : (h.toNat : Int) = h := Int.toNat_of_nonneg (by omega)
  simp [Instr.slice, run_underlying ht, Instr.sliceBounds, run_sliceBound, *, (by omega : 0 ≤ h)]
theorem slice_lh (bs : List UInt8) (j k : Nat) (hj : j ≤ k) (hk : k ≤ bs.length) (J K : Int) (hJ : J = j) (hK : K = k) (w : World) : (Instr.slice 9 (.string ⟨bs.toArray⟩) (some (.int .i64 J)) (some (.int .i64 K)) none).run Tryz.prog w = .ok (.string ⟨((bs.take k).drop j).toArray⟩) w := by
  subst hJ hK
  have hsz := arr_size bs
  rw [run_slice_lhS w 9 ⟨bs.toArray⟩ Tryz.underlying9 j k (by omega) (by omega) (by rw [hsz]; omega)]
  congr 2
  apply ByteArray.ext
  simp [List.drop_take]
theorem infoB : (Tryz.prog.info? 5).map (fun i => (i.zero, i.size, i.bytes)) = some (some (.int .u8 0), 1, 1) := by kernel_rfl
theorem bvs_snoc (l : List UInt8) (c : UInt8) : bvs (l ++ [c]) = bvs l ++ [.int .u8 c.toNat] := by simp [bvs]
theorem bvs_len (l : List UInt8) : (bvs l).length = l.length := by simp [bvs]
theorem cell_made (w : World) (c : Value) (e : TypeId) : (w.alloc (.cells #[c] e)).cell? ⟨w.heap.size, 0, none⟩ = some c := by
  rw [cell_of_row _ _ _ _ _ _ (World.alloc_heap_new w _)]; rfl
/-- One byte more, behind bytes of one's own. -/
theorem append_byte {w : World} {ops : Array Oper} {rest : List Oper} {o : Oper} {a : Act} {Q : Exit → Act → World → Prop} (hgd : o.guard = none) (s x : Operand)
    (ho : o.op = .call { callee := .builtin .append, args := #[s, x], argTypes := #[48, 48] }) (base : Nat) (v : Value) (l : List UInt8) (hs : a.eval s = v) (hown : w.ownsRow base 5 1 v l.length (bvs l))
    (B : Nat) (ch : UInt8) (hx : a.eval x = .slice (some ⟨B, 0, none⟩) 1 1) (hc : w.cell? ⟨B, 0, none⟩ = some (.int .u8 ch.toNat)) (hl : l.length ≤ 100000000000000) (hbase : base ≤ w.heap.size)
    (h : ∀ v' w', w'.ownsRow base 5 1 v' (l ++ [ch]).length (bvs (l ++ [ch])) → w.grownBy w' v.ownBlock → wpList Tryz.prog ops Q rest (a.put o.dst v') w') : wpList Tryz.prog ops Q (o :: rest) a w := by
  obtain ⟨i0, hi, hz0, hz1, hz2⟩ := info_parts infoB
  refine wpList_append_own w hgd s x _ ho base _ i0 (.int .u8 0) 1 1 Tryz.underlying48 hi hz0 hz1 hz2 rfl (by decide) v _ _ hs hown ⟨B, 0, none⟩ 1 1 [.int .u8 ch.toNat] hx rfl ?_ (by simp [Value.oneCell']) (by unfold maxLen; omega) (by omega) hbase ?_
  · intro j u hj
    match j, hj with
    | 0, hj => simp at hj; subst hj; simpa [Addr.add] using hc
    | (j + 1), hj => simp at hj
  · intro v' w' h1 h2 _
    rw [← bvs_snoc] at h1
    exact h v' w' (by simpa using h1) h2
end Go.Proofs.YtjhmphokmmmoaaaGreatDoor.L

/- What is proved here: the document's Strip, inner, colon, Scheme, slash and Kind of layer 12. -/
namespace Go.Proofs.YtjhmphokmmmoaaaGreatDoor.L
open Go.RowKit Go.Shelf Go.Proofs.YtjhmphokmmmoaaaGreatDoor.N Go.Proofs.YtjhmphokmmmoaaaGreatDoor.U

def strN : Value → Nat
  | .string s => s.size
  | _ => 0
/-- A text, mended. -/
def mendL (bs : List UInt8) : List UInt8 := encs (runesI bs)
theorem mend_le (bs : List UInt8) : (mendL bs).length ≤ 4 * bs.length := by
  have h1 := encs_length (runesI bs)
  have h2 : (runesI bs).length ≤ bs.length := by rw [runesI_length]; exact pcs_length bs
  unfold mendL
  omega
theorem filter_snoc (l : List UInt8) (p : UInt8 → Bool) (k : Nat) (h : k < l.length) : (l.take (k + 1)).filter p = if p (l.getD k 0) then (l.take k).filter p ++ [l.getD k 0] else (l.take k).filter p := by
  have e : l.getD k 0 = l[k] := by simp [h]
  rw [List.take_succ_eq_append_getElem h, List.filter_append, e]
  cases hp : p l[k] <;> simp [hp]
theorem filter_len (l : List UInt8) (p : UInt8 → Bool) (k : Nat) : ((l.take k).filter p).length ≤ l.length := by
  have h1 := List.length_filter_le p (l.take k)
  have h2 : (l.take k).length ≤ l.length := by simp; omega
  omega
theorem gap_no {c : UInt8} (h : gapC c = false) (z : UInt8) (hz : z = 9 ∨ z = 10 ∨ z = 13) : ((c.toNat : Int) != (z.toNat : Int)) = true := by
  unfold gapC at h
  simp at h
  rw [bne_iff_ne]
  intro e
  have e' : c = z := UInt8.toNat_inj.1 (by omega)
  rcases hz with rfl | rfl | rfl <;> simp_all
set_option maxRecDepth 100000 in
set_option maxHeartbeats 4000000 in
/-- **Strip.** -/
theorem rstrip_calls (bs : List UInt8) (w : World) (hl : bs.length ≤ 10000000000) :
    Calls Tryz.prog 22 #[.string ⟨bs.toArray⟩] w fun e W' => e = .returned (.string ⟨(stripM (mendL bs)).toArray⟩) ∧ Below w.heap.size w W' := by
  obtain ⟨i0, hi, hz0, hz1, hz2⟩ := info_parts infoB
  have HM : Hid (Calls Tryz.prog 45 #[.string ⟨bs.toArray⟩] w fun e W' => e = .returned (.string ⟨(mendL bs).toArray⟩) ∧ Below w.heap.size w W') := R.rmend_calls bs w (by omega)
  have hml := mend_le bs
  obtain ⟨l, hL⟩ : ∃ l, mendL bs = l := ⟨_, rfl⟩
  rw [hL] at HM hml ⊢
  have hll : l.length ≤ 40000000000 := by omega
  clear hL hml hl
  go_enter Tryz.func22, Tryz.ntmps22
  go_wp2_with fail
  (go_at_call 45; refine HM.out.mono ?_; rintro e w1 ⟨rfl, hb1⟩)
  go_wp2_with fail
  go_loopw [0] (fun v wr => ∃ t : List UInt8, v = .string ⟨t.toArray⟩ ∧ t.length ≤ l.length ∧ wr = w1 ∧ Hid (t.dropWhile lowC = l.dropWhile lowC)) (fun v _ => strN v)
  case atStart => exact ⟨l, rfl, Nat.le_refl _, by trivial, rfl⟩
  case round =>
    obtain ⟨t, rfl, hts, hwr, hD⟩ := hrel
    obtain rfl : w1 = wr := hwr.symm
    clear hwr
    have st := arr_size t
    have hx : (∃ c, t.getD 0 0 = c ∧ lowC c = true ∧ 0 < t.length) ∨ ((t.length = 0 ∧ True) ∨ ∃ c, t.getD 0 0 = c ∧ lowC c = false ∧ 0 < t.length) := by
      by_cases h0 : t.length = 0
      · exact .inr (.inl ⟨h0, trivial⟩)
      · cases hc : lowC (t.getD 0 0) with
        | true => exact .inl ⟨_, rfl, hc, by omega⟩
        | false => exact .inr (.inr ⟨_, rfl, hc, by omega⟩)
    rcases hx with ⟨c, hcc, hlow, hpos⟩ | hx
    · have hix := byte_at t 0 c hpos hcc 0 rfl
      have hle : c.toNat ≤ 32 := by simpa [lowC] using hlow
      have hd : decide ((c.toNat : Int) ≤ 32) = true := by simp; omega
      have hsl := slice_l t 1 (by omega) 1 rfl
      have HD2 : Hid ((t.drop 1).dropWhile lowC = l.dropWhile lowC) := (low_front t c hpos hcc hlow).trans hD.out
      clear hcc hlow
      go_wp2
      exact ⟨⟨t.drop 1, by rw [List.drop_one], by simp; omega, by trivial, HD2⟩, by simp [strN, arr_size]; omega⟩
    · have HD2 : Hid (t = l.dropWhile lowC) := by
        rcases hx with ⟨h0, _⟩ | ⟨c, hcc, hlow, hpos⟩
        · have h := hD.out
          rw [List.length_eq_zero_iff.1 h0] at h ⊢
          exact h
        · have h := hD.out
          rw [low_stay t c hpos hcc hlow] at h
          exact h
      clear hD
      rcases hx with ⟨h0, _⟩ | ⟨c, hcc, hlow, hpos⟩
      case' inr =>
        have hix := byte_at t 0 c hpos hcc 0 rfl
        have hle : 32 < c.toNat := by simpa [lowC] using hlow
        have hd : decide ((c.toNat : Int) ≤ 32) = false := by simp; omega
        clear hcc hlow
      all_goals
        go_wp2
        go_loopw [0] (fun v wr => ∃ r : List UInt8, v = .string ⟨r.toArray⟩ ∧ r.length ≤ l.length ∧ wr = w1 ∧ Hid (r.reverse.dropWhile lowC = (l.dropWhile lowC).reverse.dropWhile lowC)) (fun v _ => strN v)
        case atStart => exact ⟨t, rfl, hts, by trivial, by rw [← HD2.out]; exact rfl⟩
        case round =>
          clear st
          obtain ⟨r, rfl, hrs, hwr, hE⟩ := hrel
          obtain rfl : w1 = wr := hwr.symm
          clear hwr
          have sr := arr_size r
          have hx : (∃ d, r.getD (r.length - 1) 0 = d ∧ lowC d = true ∧ 0 < r.length) ∨ ((r.length = 0 ∧ True) ∨ ∃ d, r.getD (r.length - 1) 0 = d ∧ lowC d = false ∧ 0 < r.length) := by
            by_cases h0 : r.length = 0
            · exact .inr (.inl ⟨h0, trivial⟩)
            · cases hc : lowC (r.getD (r.length - 1) 0) with
              | true => exact .inl ⟨_, rfl, hc, by omega⟩
              | false => exact .inr (.inr ⟨_, rfl, hc, by omega⟩)
          rcases hx with ⟨d, hdd, hlow9, hpos9⟩ | hx
          · have hiy := byte_at r (r.length - 1) d (by omega) hdd ((r.length : Int) - 1) (by omega)
            have hle9 : d.toNat ≤ 32 := by simpa [lowC] using hlow9
            have hd9 : decide ((d.toNat : Int) ≤ 32) = true := by simp; omega
            have hsl9 := slice_h r (r.length - 1) (by omega) ((r.length : Int) - 1) (by omega)
            have HE2 : Hid ((r.take (r.length - 1)).reverse.dropWhile lowC = (l.dropWhile lowC).reverse.dropWhile lowC) := (low_back r d hpos9 hdd hlow9).trans hE.out
            clear hdd hlow9
            go_wp2
            exact ⟨⟨r.take (r.length - 1), rfl, by simp; omega, by trivial, HE2⟩, by simp [strN, arr_size]; omega⟩
          · have HR : Hid (r.filter (fun c => !gapC c) = stripM l) := by
              show _ = _
              unfold stripM
              rw [← hE.out]
              rcases hx with ⟨h0, _⟩ | ⟨d, hdd, hlow9, hpos9⟩
              · rw [List.length_eq_zero_iff.1 h0]; rfl
              · rw [low_end r d hpos9 hdd hlow9]
            clear hE
            rcases hx with ⟨h09, _⟩ | ⟨d, hdd, hlow9, hpos9⟩
            case' inl =>
              have g0 : decide (0 < r.length) = false := decide_eq_false (by omega)
              have g1 : decide ((r.length : Int) > 0) = false := decide_eq_false (by omega)
              clear h09
            case' inr =>
              have hiy := byte_at r (r.length - 1) d (by omega) hdd ((r.length : Int) - 1) (by omega)
              have hle9 : 32 < d.toNat := by simpa [lowC] using hlow9
              have hd9 : decide ((d.toNat : Int) ≤ 32) = false := by simp; omega
              clear hdd hlow9
            all_goals
              go_wp2
              try clear hiy
              go_loopw [3, 35] (fun v vi wr => ∃ k : Nat, k ≤ r.length ∧ vi = .int .i64 k ∧ wr.ownsRow w.heap.size 5 1 v ((r.take k).filter (fun c => !gapC c)).length (bvs ((r.take k).filter (fun c => !gapC c))) ∧ Below w.heap.size w wr) (fun _ vi _ => r.length - (intOf vi).toNat)
              case atStart => exact ⟨0, by omega, rfl, World.ownsRow_nil _ _ _ _, hb1⟩
              case round =>
                obtain ⟨k, hk, rfl, hown, hB⟩ := hrel
                by_cases hlt : k < r.length
                · obtain ⟨c9, hc9⟩ : ∃ c9, r.getD k 0 = c9 := ⟨_, rfl⟩
                  have hik := byte_at r k c9 hlt hc9 (k : Int) rfl
                  have hfs := filter_snoc r (fun c => !gapC c) k hlt
                  have hfl := filter_len r (fun c => !gapC c) k
                  rw [hc9] at hfs
                  have s9 := hB.size
                  clear hc9
                  cases hg : gapC c9 with
                  | true =>
                    have HOW : Hid (wr.ownsRow w.heap.size 5 1 u3 ((r.take (k + 1)).filter (fun c => !gapC c)).length (bvs ((r.take (k + 1)).filter (fun c => !gapC c)))) := by
                      rw [hg] at hfs
                      show World.ownsRow _ _ _ _ _ _ _
                      rw [hfs]
                      exact hown
                    have hg3 : c9 = 9 ∨ c9 = 10 ∨ c9 = 13 := by
                      unfold gapC at hg
                      simp only [Bool.or_eq_true, beq_iff_eq] at hg
                      rcases hg with (h | h) | h <;> simp [h]
                    clear hfs hown hg
                    rcases hg3 with rfl | rfl | rfl
                    all_goals
                      go_wp2
                      exact ⟨⟨k + 1, by omega, by go_num, HOW.out, hB⟩, by simp [intOf]; omega⟩
                  | false =>
                    have n9 : ((c9.toNat : Int) != 9) = true := gap_no hg 9 (by decide)
                    have n10 : ((c9.toNat : Int) != 10) = true := gap_no hg 10 (by decide)
                    have n13 : ((c9.toNat : Int) != 13) = true := gap_no hg 13 (by decide)
                    have HFS : Hid ((r.take (k + 1)).filter (fun c => !gapC c) = (r.take k).filter (fun c => !gapC c) ++ [c9]) := by rw [hg] at hfs; exact hfs
                    have HOW := hid_of hown
                    clear hfs hown hg
                    go_wp2_with (at_builtin; refine append_byte rfl _ _ rfl w.heap.size u3 ((r.take k).filter (fun c => !gapC c)) rfl (HOW.out.alloc _) wr.heap.size c9 rfl (cell_made _ _ _) (by omega) (by simp; omega) ?_; intro v' w4 hown' hgrow)
                    exact ⟨⟨k + 1, by omega, by go_num, by rw [HFS.out]; exact hown', (hB.alloc s9 _).grown hgrow (by simp; omega) (fun j hj => (HOW.out.lt j hj).1)⟩, by simp [intOf]; omega⟩
                · obtain rfl : k = r.length := by omega
                  rw [List.take_length, HR.out] at hown
                  have hcv := conv_bytes (hasB_owns hown).1
                  obtain ⟨ao, co, rfl⟩ := U.owns_slice hown
                  clear hown
                  go_wp2
                  go_ret
                  exact ⟨rfl, hB⟩
end Go.Proofs.YtjhmphokmmmoaaaGreatDoor.L
