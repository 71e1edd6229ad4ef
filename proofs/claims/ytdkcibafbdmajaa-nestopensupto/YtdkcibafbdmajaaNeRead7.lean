/- What is proved here: a row of texts that came in, as appending reads it, with a bound of its texts. -/
import Derived.Test.YtdkcibafbdmajaaBun4
import Derived.Test.YtdkcibafbdmajaaNeApply2
namespace Go.Proofs.Ytdkcibafbdmajaa.E
open Go.ChangeShapes Go.WideShapes Go.ChangeAt Go.RowKit Go.Shelf Go.Proofs.Ytdkcibafbdmajaa.N Go.Proofs.Ytdkcibafbdmajaa.C

theorem words7_of_read {H : Type} {enc : TypeId × Value → H} {W : World} {v : Value} {d : DataW H} {p : List MemPlace} (hv : ∃ a len cap, v = .slice a len cap) (h : DataW.Trod enc Try.prog W 0 (fun _ => true) true 22 v d p) :
    ∃ (a : Option Addr) (cap : Nat) (L : List Txt), v = .slice a L.length cap ∧ Txts W a L cap ∧ L.length ≤ Rows.uptoBulk d ∧ ∀ x ∈ L, x.length ≤ Rows.uptoBulk d := by
  obtain ⟨a, cap, L, e, hc, hT, h1, h2⟩ := words_of_read hv h
  obtain ⟨a', cap', L', e', hT', _⟩ := txts_of_read hv h
  rw [e] at e'
  injection e' with e1 e2 e3
  subst e1 e3
  exact ⟨a, cap, L, e, ⟨hT, hc, hT'.nil⟩, h1, h2⟩
end Go.Proofs.Ytdkcibafbdmajaa.E
