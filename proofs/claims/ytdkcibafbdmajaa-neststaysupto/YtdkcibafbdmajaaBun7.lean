/- What is proved here: laws and contracts of NeMay, NeRead7, one behind the other (each says its own). -/
import Derived.Test.YtdkcibafbdmajaaNeCalls
import Derived.Test.YtdkcibafbdmajaaBun5
import Derived.Test.YtdkcibafbdmajaaNeApply2
/- What is proved here: May. -/
namespace Go.Proofs.Ytdkcibafbdmajaa.E
open Go.RowKit Go.Shelf Go.WideMaps Go.Maps Go.Proofs.Ytdkcibafbdmajaa.N Go.Proofs.Ytdkcibafbdmajaa.C

def mayB (S : List Txt) (x : Txt) : Bool := decide (openCode S x = 0) && (decide (openZ S x = 0) && decide ((openI S x).length = 0))
set_option maxRecDepth 100000 in
set_option maxHeartbeats 4000000 in
/-- **May.** -/
theorem May_calls (w : World) (hm : MaxOk w) (a : Option Addr) (S : List Txt) (c : Nat) (h : StackAt w a S c) (x : Txt) (hx : x.length ≤ 10000000000) :
    Calls Try.prog 12 #[.slice a S.length c, .string ⟨x.toArray⟩] w fun e w' => e = .returned (.tuple #[.bool (mayB S x), .int .i64 (openCode S x)]) ∧ Below w.heap.size w w' := by
  have HO := hid_of (Open_calls w hm a S c h x hx)
  have HMB : Hid (mayB S x = (decide (openCode S x = 0) && (decide (openZ S x = 0) && decide ((openI S x).length = 0)))) := rfl
  clear hm h hx
  have HNB : Hid (∀ vi ci W, Calls Try.prog 37 #[.agg #[.int .i64 (openZ S x), .slice vi (openI S x).length ci, .bool false]] W fun e w' => e = .returned (.bool (decide (openZ S x = 0) && decide ((openI S x).length = 0))) ∧ Below W.heap.size W w') := fun vi ci W => nothing_calls _ vi _ ci false W
  generalize (decide (openZ S x = 0) && decide ((openI S x).length = 0)) = nb at *
  generalize openCode S x = oc at *
  generalize openZ S x = oz at *
  generalize openI S x = oi at *
  go_enter Try.func12, Try.ntmps12
  go_wp2_with fail
  (go_at_call 11; refine HO.out.mono ?_; rintro e w1 ⟨v1, c1, rfl, ho1, hb1⟩)
  go_upto_region 2 with fail
  obtain ⟨W2, hW2⟩ : ∃ W, w1.alloc (.cells #[.int .i64 oz, .slice v1 oi.length c1, .bool false] 27) = W := ⟨_, rfl⟩
  have b2 : Below w1.heap.size w1 W2 := by rw [← hW2]; exact (Below.refl _ _).alloc (Nat.le_refl _) _
  have q2 : Blk W2 w1.heap.size #[.int .i64 oz, .slice v1 oi.length c1, .bool false] 27 := by rw [← hW2]; exact Blk.new _ _ _
  rw [hW2]
  have HB2 : Hid (Below w.heap.size w W2) := hb1.trans (b2.mono hb1.size)
  have c0 : W2.cell? ⟨w1.heap.size, 0, none⟩ = some (.int .i64 oz) := q2.cell 0
  have d1 : W2.cell? ⟨w1.heap.size, 1, none⟩ = some (.slice v1 oi.length c1) := q2.cell 1
  have d2 : W2.cell? ⟨w1.heap.size, 2, none⟩ = some (.bool false) := q2.cell 2
  clear hW2 b2 q2 ho1 hb1
  by_cases h0 : oc = 0
  · subst h0
    rw [decide_eq_true rfl, Bool.true_and] at HMB
    go_wp2_with (go_at_call 37; refine (HNB.out _ _ _).mono ?_; rintro e w3 ⟨rfl, hb3⟩)
    go_ret2
    exact ⟨by rw [HMB.out]; rfl, HB2.out.trans (hb3.mono HB2.out.size)⟩
  · have he : (oc == 0) = false := by rw [beq_eq_false_iff_ne]; exact h0
    rw [decide_eq_false h0, Bool.false_and] at HMB
    clear h0
    go_wp2_with fail
    go_ret2
    exact ⟨by rw [HMB.out]; rfl, HB2.out⟩
end Go.Proofs.Ytdkcibafbdmajaa.E

/- What is proved here: a row of texts that came in, as appending reads it, with a bound of its texts. -/
namespace Go.Proofs.Ytdkcibafbdmajaa.E
open Go.ChangeShapes Go.WideShapes Go.ChangeAt Go.RowKit Go.Shelf Go.Proofs.Ytdkcibafbdmajaa.N Go.Proofs.Ytdkcibafbdmajaa.C

theorem words7_of_read {H : Type} {enc : TypeId × Value → H} {W : World} {v : Value} {d : DataW H} {p : List MemPlace} (hv : ∃ a len cap, v = .slice a len cap) (h : DataW.Trod enc Try.prog W 0 (fun _ => true) true 22 v d p) :
    ∃ (a : Option Addr) (cap : Nat) (L : List Txt), v = .slice a L.length cap ∧ Txts W a L cap ∧ L.length ≤ Rows.uptoBulk d ∧ ∀ x ∈ L, x.length ≤ Rows.uptoBulk d := by
  obtain ⟨a, cap, L, e, hc, hT, h1, h2⟩ := words_of_read hv h
  obtain ⟨a', cap', L', e', hT', _⟩ := txts_of_read hv h
  rw [e] at e'
  injection e' with e1 e2 e3
  subst e1 e3
  exact ⟨a, cap, L, e, ⟨hT, hc, hT'.nil⟩, h1, h2⟩
end Go.Proofs.Ytdkcibafbdmajaa.E
