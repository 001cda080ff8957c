/- The reference's First, whole. -/
import Derived.WalkKit
import Derived.ProofKit
import Derived.OpenShut
import Derived.Handy
import Derived.Lib.Hide
import Derived.Test.YtdnkommcnkbeeaaFst
namespace Go.Proofs.Ytdnkommcnkbeeaa
open Go.RowKit

end Go.Proofs.Ytdnkommcnkbeeaa
