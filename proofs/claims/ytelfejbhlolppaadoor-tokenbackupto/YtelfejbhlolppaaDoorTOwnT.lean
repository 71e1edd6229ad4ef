/- What is proved here: rows of tokens of one's own, pieces of tokens in memory, and the contract of textsAhead of token. -/
import Derived.Test.YtelfejbhlolppaaDoorTOwn
namespace Go.Proofs.YtelfejbhlolppaaDoor.T
open Go.RowKit N

theorem flat8 (xs : List (Value × (T.Tok × AL))) (n i : Nat) (hn : n < xs.length) (hi : i < 8) : (xs.flatMap fun x => tvs x.2.1 x.1)[n * 8 + i]? = (tvs xs[n].2.1 xs[n].1)[i]? := by
  induction xs generalizing n with
  | nil => simp at hn
  | cons a r ih =>
    cases n with
    | zero =>
      simp only [List.flatMap_cons, Nat.zero_mul, Nat.zero_add, List.getElem_cons_zero]
      rw [List.getElem?_append_left (by simpa [tvs] using hi)]
    | succ n =>
      simp only [List.flatMap_cons, List.getElem_cons_succ]
      rw [List.getElem?_append_right (by simp [tvs]; omega), ← ih n (by simpa using hn)]
      congr 1
      simp [tvs]; omega
/-- Tokens of one's own. -/
def OwnT (base : Nat) (w : World) (v : Value) (L : TL) : Prop :=
  ∃ xs : List (Value × (T.Tok × AL)), xs.map Prod.snd = L ∧ w.ownsRow base 28 8 v L.length (xs.flatMap fun x => tvs x.2.1 x.1) ∧ ∀ x ∈ xs, OwnA base w x.1 x.2.2
theorem OwnT.nil (base : Nat) (w : World) : OwnT base w (.slice none 0 0) [] := ⟨[], rfl, World.ownsRow_nil _ _ _ _, fun x hx => by cases hx⟩
theorem OwnT.below {base : Nat} {A B : World} {v : Value} {L : TL} (h : OwnT base A v L) (hb : Below A.heap.size A B) : OwnT base B v L := by
  obtain ⟨xs, h1, h2, h3⟩ := h
  exact ⟨xs, h1, C.owns_below h2 hb, fun x hx => C.owns_below (h3 x hx) hb⟩
theorem OwnT.slice {base : Nat} {w : World} {v : Value} {L : TL} (h : OwnT base w v L) : ∃ a cap, v = .slice a L.length cap := by
  obtain ⟨xs, h1, h2, h3⟩ := h
  exact C.owns_slice h2
theorem OwnT.has {base : Nat} {w : World} {v : Value} {L : TL} (h : OwnT base w v L) : HasT w v L := by
  obtain ⟨xs, rfl, h2, h3⟩ := h
  have h2' := h2
  have hl : (xs.map Prod.snd).length = xs.length := by simp
  rcases h2.2 with ⟨rfl, e⟩ | ⟨g, cap, cur, rfl, _, hg, hc, _⟩
  · exact .inl ⟨List.length_eq_zero_iff.1 e, none, 0, rfl⟩
  · by_cases h0 : (xs.map Prod.snd).length = 0
    · exact .inl ⟨List.length_eq_zero_iff.1 h0, some ⟨g, 0, none⟩, cap, by rw [h0]⟩
    · refine .inr ⟨by omega, g, 0, cap, rfl, hc, fun i hi => ?_⟩
      have hi' : i < xs.length := by omega
      have hcell : ∀ j (hj : j < 8), w.cell? ⟨g, 0 + i * 8 + j, none⟩ = (tvs xs[i].2.1 xs[i].1)[j]? := fun j hj => by
        rw [Nat.zero_add, World.ownsRow.cellAt h2' (i * 8 + j) (by omega), flat8 xs i j hi' hj]
      simp only [List.getElem_map]
      exact ⟨xs[i].1, hcell 0 (by omega), hcell 1 (by omega), hcell 2 (by omega), hcell 3 (by omega), hcell 4 (by omega), hcell 5 (by omega), hcell 6 (by omega), hcell 7 (by omega), (h3 _ (List.getElem_mem _)).has⟩
theorem cells_eight (W : World) (t : T.Tok) (av : Value) (ty : TypeId) (n : Nat) (hn : n = W.heap.size) : ∀ j u, (tvs t av)[j]? = some u → (W.alloc (.cells #[.int .i64 t.kind, .string t.name, .string t.text, av, .bool t.self, .int .i64 t.p0, .int .i64 t.p1, .int .i64 t.p2] ty)).cell? ((⟨n, 0, none⟩ : Addr).add j) = some u := by
  intro j u h
  subst hn
  rw [C.add_none, Nat.zero_add, C.cell_new]
  rw [← h]; simp [tvs]
theorem tvs_one (t : T.Tok) (a : Option Addr) (n c : Nat) : ∀ u ∈ tvs t (.slice a n c), u.oneCell' = true := by
  intro u hu
  simp [tvs] at hu
  rcases hu with rfl | rfl | rfl | rfl | rfl | rfl | rfl | rfl <;> rfl
/-- A token more behind tokens of one's own. -/
theorem OwnT.snoc {base : Nat} {w w' : World} {v v' av : Value} {o : Obj} {L : TL} {xs : List (Value × (T.Tok × AL))} {t : T.Tok} {l : AL} (h1 : xs.map Prod.snd = L) (h2 : w.ownsRow base 28 8 v L.length (xs.flatMap fun x => tvs x.2.1 x.1)) (h3 : ∀ x ∈ xs, OwnA base w x.1 x.2.2)
    (hd : OwnA base w av l) (hr : w'.ownsRow base 28 8 v' (L.length + 1) ((xs.flatMap fun x => tvs x.2.1 x.1) ++ tvs t av)) (hg : (w.alloc o).grownBy w' v.ownBlock) : OwnT base w' v' (L ++ [(t, l)]) := by
  refine ⟨xs ++ [(av, (t, l))], by simp [h1], by simpa using hr, fun x hx => ?_⟩
  rcases List.mem_append.1 hx with hx | hx
  · exact World.ownsRow.kept ((h3 x hx).alloc o) hg (C.owns_apart ((h3 x hx).alloc o) (h2.alloc o) (by decide))
  · simp at hx; subst hx
    exact World.ownsRow.kept (World.ownsRow.alloc hd o) hg (C.owns_apart (World.ownsRow.alloc hd o) (h2.alloc o) (by decide))

theorem slice_toT (xa : Option Addr) (len xc k : Nat) (h1 : (k : Int) ≤ (len : Int)) (h2 : (len : Int) ≤ (xc : Int)) : ∀ w, (Instr.slice 38 (.slice xa len xc) none (some (.int .i64 k)) none).run Tryd.prog w = .ok (.slice xa k xc) w := by
  intro w
  have h0 : (0 : Int) ≤ (k : Int) := by omega
  have hs : (sizeOf (Tryd.prog.elem 38)).run Tryd.prog w = .ok 8 w := by kernel_rfl
  rw [run_slice_h w _ _ _ _ (by kernel_rfl) _ _ h0 (by omega), hs]
  cases xa <;> simp [Result.andThen, sliced, Addr.add]
theorem slice_fromT (xa : Option Addr) (len xc k : Nat) (h1 : (k : Int) ≤ (len : Int)) : ∃ a1, (k < xc → a1 = xa.map (fun a => a.add (k * 8))) ∧ ∀ w, (Instr.slice 38 (.slice xa len xc) (some (.int .i64 k)) none none).run Tryd.prog w = .ok (.slice a1 (len - k) (xc - k)) w := by
  refine ⟨if xc = k then xa else xa.map (fun a => a.add (k * 8)), fun h => if_neg (by omega), fun w => ?_⟩
  have h0 : (0 : Int) ≤ (k : Int) := by omega
  have hs : (sizeOf (Tryd.prog.elem 38)).run Tryd.prog w = .ok 8 w := by kernel_rfl
  rw [run_slice_l w _ _ _ _ (by kernel_rfl) _ _ h0 h1, hs]
  simp [Result.andThen, sliced]
theorem HasT.cap {w : World} {a : Option Addr} {n cap : Nat} {L : TL} (h : HasT w (.slice a n cap) L) : L.length = 0 ∨ L.length ≤ cap := by
  rcases h with ⟨rfl, _⟩ | ⟨hp, b, off, cap', hr, hc, hx⟩
  · left; rfl
  · right; simp at hr; omega
theorem HasT.take {w : World} {a : Option Addr} {cap : Nat} {L : TL} (h : HasT w (.slice a L.length cap) L) (k : Nat) (hk : k ≤ L.length) : HasT w (.slice a k cap) (L.take k) := by
  have hl : (L.take k).length = k := by simp; omega
  by_cases h0 : k = 0
  · subst h0; exact .inl ⟨by simp, a, cap, rfl⟩
  · rcases h with ⟨rfl, _⟩ | ⟨hp, b, off, cap', hr, hc, hx⟩
    · simp at hk; omega
    · simp at hr
      obtain ⟨rfl, rfl⟩ := hr
      refine .inr ⟨by omega, b, off, cap, by rw [hl], by omega, fun i hi => ?_⟩
      rw [List.getElem_take]
      exact hx i (by omega)
theorem HasT.drop {w : World} {a a1 : Option Addr} {cap : Nat} {L : TL} (h : HasT w (.slice a L.length cap) L) (k : Nat) (hk : k ≤ L.length) (ha : k < cap → a1 = a.map (fun x => x.add (k * 8))) : HasT w (.slice a1 (L.length - k) (cap - k)) (L.drop k) := by
  have hl : (L.drop k).length = L.length - k := by simp
  by_cases h0 : L.length - k = 0
  · rw [h0]; exact .inl ⟨List.drop_eq_nil_of_le (by omega), a1, _, rfl⟩
  · rcases h with ⟨rfl, _⟩ | ⟨hp, b, off, cap', hr, hc, hx⟩
    · simp at h0
    · simp at hr
      obtain ⟨rfl, rfl⟩ := hr
      have e := ha (by omega)
      rw [Option.map_some, C.add_none] at e
      subst e
      refine .inr ⟨by omega, b, off + k * 8, cap - k, by rw [hl], by omega, fun i hi => ?_⟩
      rw [List.getElem_drop]
      have := hx (k + i) (by omega)
      rw [show off + k * 8 + i * 8 = off + (k + i) * 8 by omega]
      exact this

set_option maxRecDepth 100000 in
set_option maxHeartbeats 2000000 in
theorem ahead_calls (L : TL) (v : Value) (w : World) (hH : HasT w v L) (hll : (L.length : Int) ≤ 1000000000000) :
    Calls Tryd.prog 32 #[v] w fun e w' => ∃ n : Nat, e = .returned (.int .i64 n) ∧ n ≤ L.length ∧ (∀ i (h : i < L.length), i < n → L[i].1.kind = 0) ∧ (∀ h : n < L.length, L[n].1.kind ≠ 0) ∧ w = w' := by
  obtain ⟨va, vc, rfl⟩ := hH.slice
  have HS : Hid (HasT w (.slice va L.length vc) L) := hH
  clear hH
  go_enter Tryd.func32, Tryd.ntmps32
  go_wp2
  go_loopw [3] (fun i wr => ∃ k : Nat, k ≤ L.length ∧ i = .int .i64 k ∧ wr = w ∧ Hid (∀ i (h : i < L.length), i < k → L[i].1.kind = 0)) (fun i _ => L.length - (intOf i).toNat)
  case atStart => exact ⟨0, by omega, rfl, rfl, fun i _ hi => by omega⟩
  case round =>
    obtain ⟨k, hk, rfl, rfl, hal⟩ := hrel
    by_cases hlt : k < L.length
    · obtain ⟨tb, off, rfl, av, d0, _⟩ := HS.out.at k hlt
      obtain ⟨K, hK⟩ : ∃ K, L[k].1.kind = K := ⟨_, rfl⟩
      rw [hK] at d0
      have HK : Hid (L[k].1.kind = K) := hK
      clear hK
      by_cases hk0 : K = 0
      · subst hk0
        have HN : Hid (∀ i (h : i < L.length), i < k + 1 → L[i].1.kind = 0) := fun i h hi => by
          by_cases e : i = k
          · subst e; exact HK.out
          · exact hal.out i h (by omega)
        go_wp2
        all_goals first
          | exact ⟨⟨k + 1, by omega, by go_num, by trivial, HN⟩, by simp [intOf]; omega⟩
          | (go_roundw
             case rel => exact ⟨k + 1, by omega, by go_num, by trivial, HN⟩
             case measure => simp [intOf]; omega)
      · have z0 : (K == 0) = false := by simpa using hk0
        go_wp2
        all_goals go_ret
        exact ⟨k, rfl, hk, hal.out, fun _ => by rw [HK.out]; exact hk0, rfl⟩
    · obtain rfl : k = L.length := by omega
      go_wp2
      all_goals go_ret
      exact ⟨L.length, rfl, hk, hal.out, fun h => by omega, rfl⟩
end Go.Proofs.YtelfejbhlolppaaDoor.T
