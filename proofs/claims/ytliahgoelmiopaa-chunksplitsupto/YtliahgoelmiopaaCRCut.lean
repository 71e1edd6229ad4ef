/- What is proved here: the contract of Cut of sieveref02. -/
import Derived.Test.YtliahgoelmiopaaCAlike
namespace Go.Proofs.Ytliahgoelmiopaa.C
open Go.RowKit

theorem infoRStep : (Try.prog.info? 75).map (fun i => (i.zero, i.size, i.bytes)) = some (some (.agg #[.slice none 0 0, .bool false]), 2, 32) := by kernel_rfl
theorem byt_of {w : World} {a : Option Addr} {m c : Nat} {xs : List UInt8} (h : HasB w.heap.size w (.slice a m c) xs) (hc : a = none → c = 0) : Byt w (.slice a m c) xs := by
  refine ⟨h, ?_⟩
  cases a with
  | none =>
    left
    rcases h with ⟨_, a', c', e⟩ | ⟨_, b, off, c', e, _⟩
    · simp at e; rw [hc rfl, e.2.1]
    · simp at e
  | some ad => exact .inr ⟨_, _, _, rfl⟩

theorem part_if {w : World} {a : Option Addr} {b off cap : Nat} {bs : List UInt8} (ha : 0 < bs.length → a = some ⟨b, off, none⟩) (hb : 0 < bs.length → b < w.heap.size) (hcap : bs.length ≤ cap) (hx : ∀ j, j < bs.length → w.cell? ⟨b, off + j, none⟩ = some (.int .u8 (byteAt bs j)))
    (lo hi m : Nat) (h1 : lo ≤ hi) (h2 : hi ≤ bs.length) (hm : m = hi - lo) (hn : a = none → cap = 0) : Byt w (.slice (if cap = lo then a else a.map fun p => p.add lo) m (cap - lo)) ((bs.drop lo).take (hi - lo)) := by
  by_cases h : cap = lo
  · rw [if_pos h]
    exact byt_of (part_zero (by omega) (by simp; omega)) (fun _ => by omega)
  · rw [if_neg h]
    exact byt_of (part_pos ha hb hcap hx lo hi m h1 h2 hm) (fun e => by have := hn (by simpa using e); omega)

end Go.Proofs.Ytliahgoelmiopaa.C
