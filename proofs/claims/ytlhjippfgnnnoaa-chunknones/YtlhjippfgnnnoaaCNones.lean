/- What is proved here: the statement ChunkNones (sources and buffers that no call made) holds for any number and any byte, with no condition. -/
import Derived.Test.YtlhjippfgnnnoaaCFrame
import Derived.Test.YtlhjippfgnnnoaaCUn
namespace Go.Proofs.Ytlhjippfgnnnoaa.CNones
open Go.ChangeShapes Go.WideShapes Go.ChangeAt Go.RowKit C

theorem up {V w' : World} {f : FuncId} {args : Array Value} {r : Value} (hb : Below V.heap.size V w') (h : Calls Try.prog f args w' fun e W' => e = .returned r ∧ Below w'.heap.size w' W') : Calls Try.prog f args w' fun e W' => e = .returned r ∧ Below V.heap.size V W' :=
  h.mono fun _ _ ⟨a, b⟩ => ⟨a, hb.trans (b.mono hb.size)⟩
theorem upAll {V w' : World} {p : Option Addr} {n : Int} (hb : Below V.heap.size V w') (h : UnS w' p) : Calls Try.prog 33 #[.pointer p, .int .i64 n] w' fun e W' => ∃ B1 B2 B3 : Nat, e = .returned (.func (.func 49) #[] #[.pointer (some ⟨B1, 0, none⟩), .pointer (some ⟨B2, 0, none⟩), .pointer (some ⟨B3, 0, none⟩)]) ∧ W'.cell? ⟨B1, 0, none⟩ = some (.bool false) ∧ Below V.heap.size V W' :=
  (all_un p n w' h).mono fun _ _ ⟨B1, B2, B3, a, _, b, c⟩ => ⟨B1, B2, B3, a, b, hb.trans (c.mono hb.size)⟩
theorem upS {V w' : World} {f : FuncId} {args : Array Value} {r : Value} (hb : Below V.heap.size V w') (h : Calls Try.prog f args w' fun e W' => e = .returned r ∧ W' = w') : Calls Try.prog f args w' fun e W' => e = .returned r ∧ Below V.heap.size V W' :=
  h.mono fun _ _ ⟨a, b⟩ => ⟨a, by rw [b]; exact hb⟩

set_option maxRecDepth 100000 in
set_option maxHeartbeats 4000000 in
theorem walk (w : World) (n : Int) (_wn : (Lit.int .i64 n).wf = true) (c : Int) (_wc : (Lit.int .u8 c).wf = true) :
    Calls Try.prog 8 #[.int .i64 n, .int .u8 c] w fun e w' => e = .returned (.bool true) ∧ Below w.heap.size w w' := by
  refine (callsIn_wide (n := 5)).1 ?_
  refine callsIn_of_wp_marks Try.func8 rfl trivial ?_ rfl
  simp only [Try.ntmps8, List.size_toArray, List.length_cons, List.length_nil, Nat.reduceAdd, Nat.reduceSub, Array.replicate_succ, Array.replicate_zero, List.push_toArray, List.append_toArray, List.nil_append, List.cons_append]
  gi_wp2_with fail
  refine wpIn_loop_rounds 3 ?_
  rw [roundsIn_succ]
  gi_wp2_with fail
  obtain ⟨W0, hW0⟩ : ∃ W0, ((w.alloc (.cells #[.bool false] 4)).alloc (.cells #[.bool false, .slice none 0 0, .int .i64 0, .int .i64 0, .int .i64 0] 75)).alloc (.cells #[.pointer none, .pointer (some ⟨w.heap.size + 1, 0, none⟩)] 29) = W0 := ⟨_, rfl⟩
  have cR : W0.cell? ⟨w.heap.size, 0, none⟩ = some (.bool false) := by rw [← hW0, cell_under _ _ _ (by simp; omega), cell_under _ _ _ (by simp), cell_new]; rfl
  have fR : W0.frozen? ⟨w.heap.size, 0, none⟩ = false := by rw [← hW0]; exact ((((Below.refl _ (w.alloc (.cells #[.bool false] 4))).alloc (Nat.le_refl _) _).alloc (by simp) _).frozen (p := ⟨w.heap.size, 0, none⟩) (by simp)).trans (by simp)
  have cS : W0.cell? ⟨w.heap.size + 1, 0, none⟩ = some (.bool false) := by
    rw [← hW0, cell_under _ _ _ (by simp)]
    have := cell_new (w.alloc (.cells #[.bool false] 4)) #[.bool false, .slice none 0 0, .int .i64 0, .int .i64 0, .int .i64 0] 75 (0, 0) 0
    rw [World.size_alloc] at this; exact this
  have cL : W0.cell? ⟨w.heap.size + 1 + 1, 1, none⟩ = some (.pointer (some ⟨w.heap.size + 1, 0, none⟩)) := by
    have := cell_new ((w.alloc (.cells #[.bool false] 4)).alloc (.cells #[.bool false, .slice none 0 0, .int .i64 0, .int .i64 0, .int .i64 0] 75)) #[.pointer none, .pointer (some ⟨w.heap.size + 1, 0, none⟩)] 29 (0, 0) 1
    rw [← hW0]; simpa using this
  have b0 : Below w.heap.size w W0 := by rw [← hW0]; exact (((Below.refl _ w).alloc (Nat.le_refl _) _).alloc (by simp) _).alloc (by simp; omega) _
  have z0 : w.heap.size + 3 = W0.heap.size := by rw [← hW0]; simp
  rw [hW0]
  clear hW0
  have HN : Hid (∀ w', Below W0.heap.size W0 w' → UnS w' none) := fun _ _ => .inl rfl
  have HS : Hid (∀ w', Below W0.heap.size W0 w' → UnS w' (some ⟨w.heap.size + 1, 0, none⟩)) := fun _ h => .inr ⟨_, rfl, (h.cell (p := ⟨w.heap.size + 1, 0, none⟩) (cell_lt cS)).trans cS⟩
  have HL : Hid (∀ w', Below W0.heap.size W0 w' → w'.cell? ⟨w.heap.size + 1 + 1, 1, none⟩ = some (.pointer (some ⟨w.heap.size + 1, 0, none⟩))) := fun _ h => (h.cell (p := ⟨w.heap.size + 1 + 1, 1, none⟩) (cell_lt cL)).trans cL
  have HR : Hid (∀ w', Below W0.heap.size W0 w' → w'.cell? ⟨w.heap.size, 0, none⟩ = some (.bool false) ∧ w'.frozen? ⟨w.heap.size, 0, none⟩ = false) := fun _ h => ⟨(h.cell (p := ⟨w.heap.size, 0, none⟩) (cell_lt cR)).trans cR, (h.frozen (p := ⟨w.heap.size, 0, none⟩) (cell_lt cR)).trans fR⟩
  clear cS cL cR fR
  gi_wp2_with (first
    | (refine ⟨trivial, ?_⟩; gi_at_call 17; refine (callsIn_wide.2 (upS (V := W0) ?_ (read_un _ _ _ (HN.out _ ?_)))).mono ?_; (first | assumption | exact Below.refl _ _); (first | assumption | exact Below.refl _ _); rintro e w' ⟨rfl, J⟩)
    | (refine ⟨trivial, ?_⟩; gi_at_call 29; refine (callsIn_wide.2 (upS (V := W0) ?_ (newBuffer_un _ _ (HN.out _ ?_)))).mono ?_; (first | assumption | exact Below.refl _ _); (first | assumption | exact Below.refl _ _); rintro e w' ⟨rfl, J⟩)
    | (refine ⟨trivial, ?_⟩; gi_at_call 9; refine (callsIn_wide.2 (upS (V := W0) ?_ (num_calls _ _))).mono ?_; (first | assumption | exact Below.refl _ _); rintro e w' ⟨rfl, J⟩)
    | (refine ⟨trivial, ?_⟩; gi_at_call 20; refine (callsIn_wide.2 (upS (V := W0) ?_ (told_un _ _ (HN.out _ ?_)))).mono ?_; (first | assumption | exact Below.refl _ _); (first | assumption | exact Below.refl _ _); rintro e w' ⟨rfl, J⟩)
    | (refine ⟨trivial, ?_⟩; gi_at_call 21; refine (callsIn_wide.2 (up (V := W0) ?_ (over_un _ _ (HN.out _ ?_)))).mono ?_; (first | assumption | exact Below.refl _ _); (first | assumption | exact Below.refl _ _); rintro e w1 ⟨rfl, J1⟩)
    | (refine ⟨trivial, ?_⟩; gi_at_call 33; refine (callsIn_wide.2 (upAll (V := W0) ?_ (HN.out _ ?_))).mono ?_; (first | assumption | exact Below.refl _ _); (first | assumption | exact Below.refl _ _); rintro e w2 ⟨B1, B2, B3, rfl, cB1, J2⟩; have hq := fun w => eql_func w (.func 49) #[] #[.pointer (some ⟨B1, 0, none⟩), .pointer (some ⟨B2, 0, none⟩), .pointer (some ⟨B3, 0, none⟩)]))
  clear hq
  have z2 := J2.size
  refine wpIn_rangeFunc_ownG rfl (by omega) (gf := 49) (lb := #[.pointer (some ⟨B1, 0, none⟩), .pointer (some ⟨B2, 0, none⟩), .pointer (some ⟨B3, 0, none⟩)]) rfl trivial (enters_of Try.func49 (by kernel_rfl) rfl)
    (all_stops _ B1 B2 B3 w2 cB1) (fun _ _ => trivial) (fun _ _ _ _ _ _ _ _ => trivial) (Below.refl _ _) (fun _ => rfl)
    (fun (pre : List (Value × Value)) W => Below w2.heap.size w2 W) (fun _ _ _ => False)
    (ownFrom_below (Nat.le_refl _) (Nat.le_refl _)) (fun _ _ _ _ _ hs _ _ => hs) (Below.refl _ _) _ (fun l x W K hK => wpIn_skip hK) (fun l pre x W _ h => absurd h (by omega)) ?done (fun D c pre W _ _ h _ => h.elim)
  case done =>
    rintro D ys W hD rfl hB hK
    have JW : Below W0.heap.size W0 W := J2.trans (hB.mono z2)
    have zW := JW.size
    have hDW := lt_of_block hK
    have HK : Hid (W.heap[D]? = some (.deferred (some []))) := hK
    have hB1c := HL.out W JW
    clear J1 J2 cB1 hK hB
    have HSW : Hid (∀ w', Below W.heap.size W w' → UnS w' (some ⟨w.heap.size + 1, 0, none⟩)) := fun w' h => HS.out w' (JW.trans (h.mono zW))
    gi_wp2_with fail
    rw [roundsIn_succ]
    gi_wp2_with (first
      | (refine ⟨trivial, ?_⟩; gi_at_call 17; refine (callsIn_wide.2 (upS (V := W) ?_ (read_un _ _ _ (HSW.out _ ?_)))).mono ?_; (first | assumption | exact Below.refl _ _); (first | assumption | exact Below.refl _ _); rintro e w' ⟨rfl, J⟩)
      | (refine ⟨trivial, ?_⟩; gi_at_call 29; refine (callsIn_wide.2 (upS (V := W) ?_ (newBuffer_un _ _ (HSW.out _ ?_)))).mono ?_; (first | assumption | exact Below.refl _ _); (first | assumption | exact Below.refl _ _); rintro e w' ⟨rfl, J⟩)
      | (refine ⟨trivial, ?_⟩; gi_at_call 9; refine (callsIn_wide.2 (upS (V := W) ?_ (num_calls _ _))).mono ?_; (first | assumption | exact Below.refl _ _); rintro e w' ⟨rfl, J⟩)
      | (refine ⟨trivial, ?_⟩; gi_at_call 20; refine (callsIn_wide.2 (upS (V := W) ?_ (told_un _ _ (HSW.out _ ?_)))).mono ?_; (first | assumption | exact Below.refl _ _); (first | assumption | exact Below.refl _ _); rintro e w' ⟨rfl, J⟩)
      | (refine ⟨trivial, ?_⟩; gi_at_call 21; refine (callsIn_wide.2 (up (V := W) ?_ (over_un _ _ (HSW.out _ ?_)))).mono ?_; (first | assumption | exact Below.refl _ _); (first | assumption | exact Below.refl _ _); rintro e w1 ⟨rfl, J1⟩)
      | (refine ⟨trivial, ?_⟩; gi_at_call 33; refine (callsIn_wide.2 (upAll (V := W) ?_ (HSW.out _ ?_))).mono ?_; (first | assumption | exact Below.refl _ _); (first | assumption | exact Below.refl _ _); rintro e w2 ⟨B1, B2, B3, rfl, cB1, J2⟩; have hq := fun w => eql_func w (.func 49) #[] #[.pointer (some ⟨B1, 0, none⟩), .pointer (some ⟨B2, 0, none⟩), .pointer (some ⟨B3, 0, none⟩)]))
    clear hq
    have z3 := J2.size
    refine wpIn_rangeFunc_ownG rfl (by omega) (gf := 49) (lb := #[.pointer (some ⟨B1, 0, none⟩), .pointer (some ⟨B2, 0, none⟩), .pointer (some ⟨B3, 0, none⟩)]) rfl trivial (enters_of Try.func49 (by kernel_rfl) rfl)
      (all_stops _ B1 B2 B3 w2 cB1) (fun _ _ => trivial) (fun _ _ _ _ _ _ _ _ => trivial) (Below.refl _ _) (fun _ => rfl)
      (fun (pre : List (Value × Value)) W => Below w2.heap.size w2 W) (fun _ _ _ => False)
      (ownFrom_below (Nat.le_refl _) (Nat.le_refl _)) (fun _ _ _ _ _ hs _ _ => hs) (Below.refl _ _) _ (fun l x W K hK => wpIn_skip hK) (fun l pre x W _ h => absurd h (by omega)) ?done (fun D c pre W _ _ h _ => h.elim)
    case done =>
      rintro D2 ys W2 hD2 rfl hB2 hK2
      have JW2 : Below W.heap.size W W2 := J2.trans (hB2.mono z3)
      have zW2 := JW2.size
      have hDW2 := lt_of_block hK2
      have HKa : Hid (W2.heap[D]? = some (.deferred (some []))) := (JW2.block D hDW).trans HK.out
      have HKb : Hid (W2.heap[D2]? = some (.deferred (some []))) := hK2
      have J02 : Below W0.heap.size W0 W2 := JW.trans (JW2.mono zW)
      clear J1 J2 cB1 hK2 hB2
      gi_wp2_with fail
      rw [roundsIn_succ]
      gi_wp2_with fail
      obtain ⟨W3, hW3⟩ : ∃ W3, (W2.alloc (.cells #[.nilIface, .int .i64 0, .slice none 0 0, .int .i64 0] 80)).alloc (.cells #[.pointer none, .pointer (some ⟨W2.heap.size, 0, none⟩)] 60) = W3 := ⟨_, rfl⟩
      have b3 : Below W2.heap.size W2 W3 := by rw [← hW3]; exact ((Below.refl _ W2).alloc (Nat.le_refl _) _).alloc (by simp) _
      have cB : W3.cell? ⟨W2.heap.size, 0, none⟩ = some .nilIface := by rw [← hW3, cell_under _ _ _ (by simp), cell_new]; rfl
      have cM : ∀ k : Nat, W3.cell? ⟨W2.heap.size + 1, k, none⟩ = #[Value.pointer none, Value.pointer (some ⟨W2.heap.size, 0, none⟩)][k]? := fun k => by
        have := cell_new (W2.alloc (.cells #[.nilIface, .int .i64 0, .slice none 0 0, .int .i64 0] 80)) #[.pointer none, .pointer (some ⟨W2.heap.size, 0, none⟩)] 60 (0, 0) k
        rw [World.size_alloc] at this; rw [← hW3]; exact this
      have HU0 : Hid (∀ w', Below W3.heap.size W3 w' → UnB w' none) := fun _ _ => .inl rfl
      have HU1 : Hid (∀ w', Below W3.heap.size W3 w' → UnB w' (some ⟨W2.heap.size, 0, none⟩)) := fun _ h => .inr ⟨_, rfl, (h.cell (p := ⟨W2.heap.size, 0, none⟩) (cell_lt cB)).trans cB⟩
      have m0 : W3.cell? ⟨W2.heap.size + 1, 0, none⟩ = some (.pointer none) := cM 0
      have HM : Hid (∀ w', Below W3.heap.size W3 w' → w'.cell? ⟨W2.heap.size + 1, 1, none⟩ = some (.pointer (some ⟨W2.heap.size, 0, none⟩))) := fun _ h => (h.cell (p := ⟨W2.heap.size + 1, 1, none⟩) (cell_lt (cM 1))).trans (cM 1)
      have zW3 := b3.size
      have J03 : Below W0.heap.size W0 W3 := J02.trans (b3.mono J02.size)
      rw [hW3]
      clear hW3 cM cB
      refine wpIn_loop_rounds 3 ?_
      rw [roundsIn_succ]
      gi_wp2_with (first
        | (refine ⟨trivial, ?_⟩; gi_at_call 34; refine (callsIn_wide.2 (up (V := W3) ?_ (peek_un _ _ _ (HU0.out _ ?_)))).mono ?_; (first | assumption | exact Below.refl _ _); (first | assumption | exact Below.refl _ _); rintro e w' ⟨rfl, J⟩)
        | (refine ⟨trivial, ?_⟩; gi_at_call 35; refine (callsIn_wide.2 (up (V := W3) ?_ (take_un _ _ _ (HU0.out _ ?_)))).mono ?_; (first | assumption | exact Below.refl _ _); (first | assumption | exact Below.refl _ _); rintro e w' ⟨rfl, J⟩)
        | (refine ⟨trivial, ?_⟩; gi_at_call 36; refine (callsIn_wide.2 (up (V := W3) ?_ (until_un _ _ _ (HU0.out _ ?_)))).mono ?_; (first | assumption | exact Below.refl _ _); (first | assumption | exact Below.refl _ _); rintro e w' ⟨rfl, J⟩)
        | (refine ⟨trivial, ?_⟩; gi_at_call 37; refine (callsIn_wide.2 (up (V := W3) ?_ (rest_un _ _ (HU0.out _ ?_)))).mono ?_; (first | assumption | exact Below.refl _ _); (first | assumption | exact Below.refl _ _); rintro e w' ⟨rfl, J⟩)
        | (refine ⟨trivial, ?_⟩; gi_at_call 31; refine (callsIn_wide.2 (upS (V := W3) ?_ (has_un _ _ (HU0.out _ ?_)))).mono ?_; (first | assumption | exact Below.refl _ _); (first | assumption | exact Below.refl _ _); rintro e w' ⟨rfl, J⟩)
        | (refine ⟨trivial, ?_⟩; gi_at_call 32; refine (callsIn_wide.2 (upS (V := W3) ?_ (taken_un _ _ (HU0.out _ ?_)))).mono ?_; (first | assumption | exact Below.refl _ _); (first | assumption | exact Below.refl _ _); rintro e w' ⟨rfl, J⟩)
        | (refine ⟨trivial, ?_⟩; gi_at_call 9; refine (callsIn_wide.2 (upS (V := W3) ?_ (num_calls _ _))).mono ?_; (first | assumption | exact Below.refl _ _); rintro e w' ⟨rfl, J⟩)
        | (refine ⟨trivial, ?_⟩; gi_at_call 10; refine (callsIn_wide.2 (up (V := W3) ?_ (awake_calls _))).mono ?_; (first | assumption | exact Below.refl _ _); rintro e w6 ⟨rfl, J6⟩))
      have hm := HM.out _ J
      rw [roundsIn_succ]
      gi_wp2_with (first
        | (refine ⟨trivial, ?_⟩; gi_at_call 34; refine (callsIn_wide.2 (up (V := W3) ?_ (peek_un _ _ _ (HU1.out _ ?_)))).mono ?_; (first | assumption | exact Below.refl _ _); (first | assumption | exact Below.refl _ _); rintro e w' ⟨rfl, J⟩)
        | (refine ⟨trivial, ?_⟩; gi_at_call 35; refine (callsIn_wide.2 (up (V := W3) ?_ (take_un _ _ _ (HU1.out _ ?_)))).mono ?_; (first | assumption | exact Below.refl _ _); (first | assumption | exact Below.refl _ _); rintro e w' ⟨rfl, J⟩)
        | (refine ⟨trivial, ?_⟩; gi_at_call 36; refine (callsIn_wide.2 (up (V := W3) ?_ (until_un _ _ _ (HU1.out _ ?_)))).mono ?_; (first | assumption | exact Below.refl _ _); (first | assumption | exact Below.refl _ _); rintro e w' ⟨rfl, J⟩)
        | (refine ⟨trivial, ?_⟩; gi_at_call 37; refine (callsIn_wide.2 (up (V := W3) ?_ (rest_un _ _ (HU1.out _ ?_)))).mono ?_; (first | assumption | exact Below.refl _ _); (first | assumption | exact Below.refl _ _); rintro e w' ⟨rfl, J⟩)
        | (refine ⟨trivial, ?_⟩; gi_at_call 31; refine (callsIn_wide.2 (upS (V := W3) ?_ (has_un _ _ (HU1.out _ ?_)))).mono ?_; (first | assumption | exact Below.refl _ _); (first | assumption | exact Below.refl _ _); rintro e w' ⟨rfl, J⟩)
        | (refine ⟨trivial, ?_⟩; gi_at_call 32; refine (callsIn_wide.2 (upS (V := W3) ?_ (taken_un _ _ (HU1.out _ ?_)))).mono ?_; (first | assumption | exact Below.refl _ _); (first | assumption | exact Below.refl _ _); rintro e w' ⟨rfl, J⟩)
        | (refine ⟨trivial, ?_⟩; gi_at_call 9; refine (callsIn_wide.2 (upS (V := W3) ?_ (num_calls _ _))).mono ?_; (first | assumption | exact Below.refl _ _); rintro e w' ⟨rfl, J⟩)
        | (refine ⟨trivial, ?_⟩; gi_at_call 10; refine (callsIn_wide.2 (up (V := W3) ?_ (awake_calls _))).mono ?_; (first | assumption | exact Below.refl _ _); rintro e w6 ⟨rfl, J6⟩))
      clear hm
      rw [roundsIn_succ]
      gi_wp2_with (first
        | (refine ⟨trivial, ?_⟩; gi_at_call 34; refine (callsIn_wide.2 (up (V := W3) ?_ (peek_un _ _ _ (HU1.out _ ?_)))).mono ?_; (first | assumption | exact Below.refl _ _); (first | assumption | exact Below.refl _ _); rintro e w' ⟨rfl, J⟩)
        | (refine ⟨trivial, ?_⟩; gi_at_call 35; refine (callsIn_wide.2 (up (V := W3) ?_ (take_un _ _ _ (HU1.out _ ?_)))).mono ?_; (first | assumption | exact Below.refl _ _); (first | assumption | exact Below.refl _ _); rintro e w' ⟨rfl, J⟩)
        | (refine ⟨trivial, ?_⟩; gi_at_call 36; refine (callsIn_wide.2 (up (V := W3) ?_ (until_un _ _ _ (HU1.out _ ?_)))).mono ?_; (first | assumption | exact Below.refl _ _); (first | assumption | exact Below.refl _ _); rintro e w' ⟨rfl, J⟩)
        | (refine ⟨trivial, ?_⟩; gi_at_call 37; refine (callsIn_wide.2 (up (V := W3) ?_ (rest_un _ _ (HU1.out _ ?_)))).mono ?_; (first | assumption | exact Below.refl _ _); (first | assumption | exact Below.refl _ _); rintro e w' ⟨rfl, J⟩)
        | (refine ⟨trivial, ?_⟩; gi_at_call 31; refine (callsIn_wide.2 (upS (V := W3) ?_ (has_un _ _ (HU1.out _ ?_)))).mono ?_; (first | assumption | exact Below.refl _ _); (first | assumption | exact Below.refl _ _); rintro e w' ⟨rfl, J⟩)
        | (refine ⟨trivial, ?_⟩; gi_at_call 32; refine (callsIn_wide.2 (upS (V := W3) ?_ (taken_un _ _ (HU1.out _ ?_)))).mono ?_; (first | assumption | exact Below.refl _ _); (first | assumption | exact Below.refl _ _); rintro e w' ⟨rfl, J⟩)
        | (refine ⟨trivial, ?_⟩; gi_at_call 9; refine (callsIn_wide.2 (upS (V := W3) ?_ (num_calls _ _))).mono ?_; (first | assumption | exact Below.refl _ _); rintro e w' ⟨rfl, J⟩)
        | (refine ⟨trivial, ?_⟩; gi_at_call 10; refine (callsIn_wide.2 (up (V := W3) ?_ (awake_calls _))).mono ?_; (first | assumption | exact Below.refl _ _); rintro e w6 ⟨rfl, J6⟩; obtain ⟨cR6, fR6⟩ := HR.out _ (J03.trans (J6.mono J03.size))))
      have J26 : Below W2.heap.size W2 w6 := b3.trans (J6.mono zW3)
      have hKa := (J26.block D (by omega)).trans HKa.out
      have hKb := (J26.block D2 hDW2).trans HKb.out
      have hW6 : Below w.heap.size w w6 := b0.trans ((J03.trans (J6.mono J03.size)).mono b0.size)
      have hDne : D ≠ D2 := by omega
      have hKb' : (w6.setCell ⟨w.heap.size, 0, none⟩ (.bool true)).heap[D2]? = some (.deferred (some [])) := (Below.heap_setCell _ _ _ D2 (by show D2 ≠ w.heap.size; omega)).trans hKb
      have hKa' : ((w6.setCell ⟨w.heap.size, 0, none⟩ (.bool true)).putObj D2 (.deferred none)).heap[D]? = some (.deferred (some [])) := (World.putObj_heap_other hDne).trans ((Below.heap_setCell _ _ _ D (by show D ≠ w.heap.size; omega)).trans hKa)
      refine ⟨by simp, .inl ⟨_, _, rfl, run_takeDeferred hKb', ?_⟩⟩
      refine ⟨by simp, .inl ⟨_, _, rfl, run_takeDeferred hKa', ?_⟩⟩
      have hc9 : (((w6.setCell ⟨w.heap.size, 0, none⟩ (.bool true)).putObj D2 (.deferred none)).putObj D (.deferred none)).cell? ⟨w.heap.size, 0, none⟩ = some (.bool true) := by
        rw [World.cell?_of_block (w := (w6.setCell ⟨w.heap.size, 0, none⟩ (.bool true)).putObj D2 (.deferred none)) (a := ⟨w.heap.size, 0, none⟩) (World.putObj_heap_other (by show w.heap.size ≠ D; omega)), World.cell?_of_block (w := w6.setCell ⟨w.heap.size, 0, none⟩ (.bool true)) (a := ⟨w.heap.size, 0, none⟩) (World.putObj_heap_other (by show w.heap.size ≠ D2; omega))]
        exact cs_same cR6
      refine ⟨.bool true, by simp [results, Try.f8, go_sem, hc9], rfl, ?_⟩
      have z1 := lt_of_block hKb'
      have z2 := lt_of_block hKa'
      exact (((hW6.setCell (p := ⟨w.heap.size, 0, none⟩) (Nat.le_refl _) _).grown (grownBy_putObj' _ D2 _) (by omega) (fun k e => by cases e; omega)).grown (grownBy_putObj' _ D _) (by omega) (fun k e => by cases e; omega))

set_option maxRecDepth 100000 in
theorem contract (H : Type) (enc : TypeId × Value → H) (W : World) (base : Nat) (args : Array Value) (ds gs : List (DataW H)) (before : List MemPlace)
    (hval : ∀ (j : Nat) t v, Try.f8.params[j]? = some t → args[j]? = some v → Value.okWide Try.prog W .any base t v)
    (hW : DataW.Whole enc Try.prog Try.f8.params.toList Rows.chunkNonesSpec.vars false W args.toList ds gs before)  :
    Calls Try.prog 8 args W fun e W' => ∃ v, e = .returned v ∧ Rows.chunkNonesSpec.post enc Try.prog Try.f8 false true false false W args v W' := by
  have hW' := hW
  have hlt := hW.lt
  obtain ⟨p, q, hA0, hV, rfl, hfz, hnd⟩ := hW
  have hA : DataW.TrodAll enc Try.prog W 0 (fun _ => true) true Try.f8.params.toList args.toList ds p := hA0
  rw [Try.params8] at hA hval
  obtain ⟨v0, vs0, d0, ds0, p0, q0, hargs, rfl, rfl, h0, r0⟩ := trodAll_cons hA
  obtain ⟨v1, vs1, d1, ds1, p1, q1, rfl, rfl, rfl, h1, r1⟩ := trodAll_cons r0
  obtain ⟨rfl, rfl, rfl⟩ := trodAll_nil r1
  obtain rfl : args = #[v0, v1] := by cases args; simp_all
  obtain ⟨rfl, rfl⟩ := trodVars_none hV
  clear hA0
  simp only [List.append_nil] at hW' hlt
  have h0' := h0
  obtain ⟨x0, rfl, e0, -, w0⟩ := open_int Try.underlying3 (hval 0 3 v0 rfl rfl) h0
  have h1' := h1
  obtain ⟨x1, rfl, e1, -, w1⟩ := open_int Try.underlying5 (hval 1 5 v1 rfl rfl) h1
  refine (walk W x0 w0 x1 w1).mono fun e W' ⟨he, hb⟩ => ?_
  subst he
  exact ⟨_, rfl, post_below hW' (fun _ _ _ => trodAll_cons_mk (shut_bool Try.underlying4 _) trodAll_mk0) (trodAll_cons_mk (stays (by kernel_rfl) (of_decide_eq_true (by kernel_rfl)) h0' hb (fun x hx => hlt x (by simp [hx]))) (trodAll_cons_mk (stays (by kernel_rfl) (of_decide_eq_true (by kernel_rfl)) h1' hb (fun x hx => hlt x (by simp [hx]))) trodAll_mk0)) rfl hb⟩

set_option maxRecDepth 100000 in
theorem laid_met (os : Os) : laidMet Try.prog Rows.chunkNonesRow.laid ((World.holding Try.prog os ⟨#[], #[], []⟩).forCall (fun _ _ => 0) ⟨#[], #[Value.int .i64 0, Value.int .u8 0], []⟩).memory :=
  laidMet_of_run' 8 (by kernel_rfl) (by kernel_rfl)
set_option maxRecDepth 100000 in
theorem reads (os : Os) {H : Type} (enc : TypeId × Value → H) : ∃ places, DataW.whole enc Try.prog ((World.holding Try.prog os ⟨#[], #[], []⟩).forCall (fun _ _ => 0) ⟨#[], #[Value.int .i64 0, Value.int .u8 0], []⟩).memory Try.f8.params.toList Rows.chunkNonesSpec.vars false #[Value.int .i64 0, Value.int .u8 0].toList 8 = some ([.lit (.int .i64 0), .lit (.int .u8 0)], [], places) :=
  ⟨[], by kernel_rfl⟩

set_option maxRecDepth 100000 in
theorem lifted (os : Os) (started : os.Started) (H : Type) (enc : TypeId × Value → H) (F : Stop.Interp) :
    ReturnsInHanded {} Try.checked os 8 .any ((OpenSpec.ofChange Rows.chunkNonesSpec).preRow enc Try.prog Try.f8 Rows.chunkNonesRow.domain false Rows.chunkNonesRow.laid) (((OpenSpec.ofChange Rows.chunkNonesSpec).at F).post enc Try.prog Try.f8 false true false false) := by
  obtain ⟨places, hx⟩ := reads os enc
  refine returnsInHanded_of_row (C := Try.checked) (s := OpenSpec.ofChange Rows.chunkNonesSpec) own started (by kernel_rfl) Try.func8
    (witness_row_at (enc := enc) (C := Try.checked) false (World.holding Try.prog os ⟨#[], #[], []⟩) #[Value.int .i64 0, Value.int .u8 0] rfl (by kernel_rfl) (by kernel_rfl) (by kernel_rfl)
      (OpenSpec.preRow_of_cond 8 hx (by kernel_rfl) (fun k hk => by cases hk) (by kernel_rfl) (laid_met os))) ?_
  intro W base args ds gs before hval hW _ _ _ hL _ _
  exact contract H enc W base args ds gs before hval hW

set_option maxRecDepth 100000 in
theorem said : Rows.ChunkNonesSaid :=
  OpenClaim.holds_of_cond 8 Try.f8 rfl rfl rfl rfl rfl rfl rfl ⟨rfl, rfl, rfl, rfl, rfl⟩ rfl rfl rfl rfl rfl (by kernel_rfl) Try.func8 (by kernel_rfl)
    (of_decide_eq_true (by kernel_rfl)) (by unfold Func.isWrapper; first | (rw [if_pos (by decide +kernel)]; kernel_rfl) | (rw [if_neg (by decide +kernel)]; exact ⟨rfl, rfl⟩))
    (fun os started H enc _ F => by rw [OpenClaim.pre_eq_preRow]; exact lifted os started H enc F)


end Go.Proofs.Ytlhjippfgnnnoaa.CNones
