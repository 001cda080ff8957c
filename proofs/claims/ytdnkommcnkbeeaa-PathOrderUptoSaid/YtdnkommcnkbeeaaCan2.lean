/- Canonical: the walk. -/
import Derived.WalkKit
import Derived.ProofKit
import Derived.OpenShut
import Derived.Handy
import Derived.Lib.Hide
import Derived.Test.YtdnkommcnkbeeaaCan
import Derived.Test.YtdnkommcnkbeeaaTmn
namespace Go.Proofs.Ytdnkommcnkbeeaa
open Go.RowKit Go.Maps

theorem canImg_count (dig : Nat → ByteArray) (ss : List Key) (nm : ByteArray) : (canImg dig ss nm).2.length ≤ ss.length + 1 := by
  unfold canImg; split <;> simp

end Go.Proofs.Ytdnkommcnkbeeaa
