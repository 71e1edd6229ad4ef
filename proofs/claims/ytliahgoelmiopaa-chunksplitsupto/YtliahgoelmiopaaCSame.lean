/- What is proved here: the contract of same of sievelaw02: whether two scripts in memory are the same. -/
import Derived.Test.YtliahgoelmiopaaCSteps
namespace Go.Proofs.Ytliahgoelmiopaa.C
open Go.RowKit

theorem list_ext_pairs {l l' : List (List UInt8 × Bool)} (hl : l.length = l'.length) (h : ∀ j (h : j < l.length), l[j] = l'[j]'(by omega)) : l = l' := List.ext_getElem hl (fun i h1 _ => h i h1)

end Go.Proofs.Ytliahgoelmiopaa.C
