/-
  NARROWER THAN 'FOR EVERY INPUT', by the rows' own cells (each row's printed sentence says how): PathOrder: loops · PathClosed: loops · PathDecreases: loops · PathTotal: loops.
  DERIVED. THE GIVEN ROWS OF THIS SEAT. 5 by the template 'for every input the law returns true; each argument reads behind the call as it read before'; 0 by the template 'total and deterministic' (their statements: YtdnkommcnkbeeaaTotals.lean).
  GIVEN WITH THE SEED: the statements are not yours to turn. If you find one false, say at which input.
  Laid BY PROGRAM, IN A SANDBOX (cutbox-rows.mjs): the forced cells as the released guide's own fill.sh prints them over the translation e95e3f4cdb4e082e… (all of the seat's roots in one cut). By AI agents, Wed Nov 11 2026. No macro, syntax, notation, axiom, sorry.
-/
import Derived.Test.YtdnkommcnkbeeaaChecked
import GoSem.Claim
import GoSem.ClaimJoined
import GoSem.ClaimMapViews
import Derived.JoinedTies
import Derived.KernelRfl
namespace Go.Proofs.Ytdnkommcnkbeeaa
/- THE CELL 'sum', in the pinned program and in every row, IS THE sha256 OF THE DUMP (.gsa) THAT YtdnkommcnkbeeaaProg.lean LOADS. Nothing in Lean hashes anything: it is a label: what it is worth is what the hold of that sum in a sandbox is worth. -/
noncomputable def Try.pinned : Pinned := { name := "ytdnkommcnkbeeaa", sum := "e95e3f4cdb4e082e81f95edc1dae0aa4ade326249d0f356253650bf37ad60385", checked := Try.checked }
namespace Rows
def none {H : Type} : Left H := { results := [], args := [] }

/-- 'dwindlelaw06.PathRanks': WHATEVER THE INPUT: true; the input reads as it did. -/
def pathRanksSpec : ChangeSpec := { name := "pathRanks", fn := fun _ => fun
  | [d1, d2] => { results := [.lit (.bool true)], args := [d1, d2] }
  | _ => none }
def pathRanksRow : OpenClaim := { program := "ytdnkommcnkbeeaa", sum := "e95e3f4cdb4e082e81f95edc1dae0aa4ade326249d0f356253650bf37ad60385", func := "dwindle/dwindlelaw06.PathRanks", spec := "pathRanks", inPlace := ["internal/bytealg.abigen_runtime_cmpstring"], unfollowed := true, recurses := true, apart := false }
def PathRanksSaid : Prop := pathRanksRow.holds Try.pinned (OpenSpec.ofChange pathRanksSpec)

/-- ITS FALSE NEIGHBOUR: 'it returns false'. Refute it at one input. -/
def pathRanksWrong : ChangeSpec := { name := "pathRanks", fn := fun _ => fun
  | [d1, d2] => { results := [.lit (.bool false)], args := [d1, d2] }
  | _ => none }
def PathRanksWrongFalsely : Prop := pathRanksRow.holds Try.pinned (OpenSpec.ofChange pathRanksWrong)

/-- 'dwindlelaw06.PathOrder': WHATEVER THE INPUT: true; the input reads as it did. -/
def pathOrderSpec : ChangeSpec := { name := "pathOrder", fn := fun _ => fun
  | [d1, d2] => { results := [.lit (.bool true)], args := [d1, d2] }
  | _ => none }
def pathOrderRow : OpenClaim := { program := "ytdnkommcnkbeeaa", sum := "e95e3f4cdb4e082e81f95edc1dae0aa4ade326249d0f356253650bf37ad60385", func := "dwindle/dwindlelaw06.PathOrder", spec := "pathOrder", inPlace := ["internal/bytealg.abigen_runtime_cmpstring"], unfollowed := true, recurses := true, loops := true, apart := false }
def PathOrderSaid : Prop := pathOrderRow.holds Try.pinned (OpenSpec.ofChange pathOrderSpec)

/-- ITS FALSE NEIGHBOUR: 'it returns false'. Refute it at one input. -/
def pathOrderWrong : ChangeSpec := { name := "pathOrder", fn := fun _ => fun
  | [d1, d2] => { results := [.lit (.bool false)], args := [d1, d2] }
  | _ => none }
def PathOrderWrongFalsely : Prop := pathOrderRow.holds Try.pinned (OpenSpec.ofChange pathOrderWrong)

/-- 'dwindlelaw06.PathClosed': WHATEVER THE INPUT: true; the input reads as it did. -/
def pathClosedSpec : ChangeSpec := { name := "pathClosed", fn := fun _ => fun
  | [d1, d2, d3] => { results := [.lit (.bool true)], args := [d1, d2, d3] }
  | _ => none }
def pathClosedRow : OpenClaim := { program := "ytdnkommcnkbeeaa", sum := "e95e3f4cdb4e082e81f95edc1dae0aa4ade326249d0f356253650bf37ad60385", func := "dwindle/dwindlelaw06.PathClosed", spec := "pathClosed", inPlace := ["internal/bytealg.abigen_runtime_cmpstring"], unfollowed := true, recurses := true, loops := true, apart := false }
def PathClosedSaid : Prop := pathClosedRow.holds Try.pinned (OpenSpec.ofChange pathClosedSpec)

/-- ITS FALSE NEIGHBOUR: 'it returns false'. Refute it at one input. -/
def pathClosedWrong : ChangeSpec := { name := "pathClosed", fn := fun _ => fun
  | [d1, d2, d3] => { results := [.lit (.bool false)], args := [d1, d2, d3] }
  | _ => none }
def PathClosedWrongFalsely : Prop := pathClosedRow.holds Try.pinned (OpenSpec.ofChange pathClosedWrong)

/-- 'dwindlelaw06.PathDecreases': WHATEVER THE INPUT: true; the input reads as it did. -/
def pathDecreasesSpec : ChangeSpec := { name := "pathDecreases", fn := fun _ => fun
  | [d1, d2, d3] => { results := [.lit (.bool true)], args := [d1, d2, d3] }
  | _ => none }
def pathDecreasesRow : OpenClaim := { program := "ytdnkommcnkbeeaa", sum := "e95e3f4cdb4e082e81f95edc1dae0aa4ade326249d0f356253650bf37ad60385", func := "dwindle/dwindlelaw06.PathDecreases", spec := "pathDecreases", inPlace := ["internal/bytealg.abigen_runtime_cmpstring"], unfollowed := true, recurses := true, loops := true, apart := false }
def PathDecreasesSaid : Prop := pathDecreasesRow.holds Try.pinned (OpenSpec.ofChange pathDecreasesSpec)

/-- ITS FALSE NEIGHBOUR: 'it returns false'. Refute it at one input. -/
def pathDecreasesWrong : ChangeSpec := { name := "pathDecreases", fn := fun _ => fun
  | [d1, d2, d3] => { results := [.lit (.bool false)], args := [d1, d2, d3] }
  | _ => none }
def PathDecreasesWrongFalsely : Prop := pathDecreasesRow.holds Try.pinned (OpenSpec.ofChange pathDecreasesWrong)

/-- 'dwindlelaw06.PathTotal': WHATEVER THE INPUT: true; the input reads as it did. -/
def pathTotalSpec : ChangeSpec := { name := "pathTotal", fn := fun _ => fun
  | [d1, d2, d3] => { results := [.lit (.bool true)], args := [d1, d2, d3] }
  | _ => none }
def pathTotalRow : OpenClaim := { program := "ytdnkommcnkbeeaa", sum := "e95e3f4cdb4e082e81f95edc1dae0aa4ade326249d0f356253650bf37ad60385", func := "dwindle/dwindlelaw06.PathTotal", spec := "pathTotal", inPlace := ["internal/bytealg.abigen_runtime_cmpstring"], unfollowed := true, recurses := true, loops := true, apart := false }
def PathTotalSaid : Prop := pathTotalRow.holds Try.pinned (OpenSpec.ofChange pathTotalSpec)

/-- ITS FALSE NEIGHBOUR: 'it returns false'. Refute it at one input. -/
def pathTotalWrong : ChangeSpec := { name := "pathTotal", fn := fun _ => fun
  | [d1, d2, d3] => { results := [.lit (.bool false)], args := [d1, d2, d3] }
  | _ => none }
def PathTotalWrongFalsely : Prop := pathTotalRow.holds Try.pinned (OpenSpec.ofChange pathTotalWrong)

/- THE SECOND FORM. 'bulk': how many values and letters a reading holds, each counted each time it is reached (what is shared counts as often as it is met; a slice's spare places count too). A statement '..UptoSaid' is the law's where the arguments, and the package variables that the reading takes, are together of bulk at most 1048576: NARROWER than '..Said'. Prove '..Said' where nothing that the law and all that it calls make is longer than what came in: it says more and counts as full. Else prove '..UptoSaid'. A law counts once. -/
mutual
def uptoBulk {H : Type} : DataW H → Nat
  | .lit (.string bytes) => bytes.length + 1
  | .lit _ => 1
  | .nil => 1
  | .ptr d => uptoBulk d + 1
  | .slice elems spare => uptoBulkAll elems + uptoBulkAll spare + 1
  | .agg parts => uptoBulkAll parts + 1
  | .iface _ d => uptoBulk d + 1
  | .map entries => uptoBulkEntries entries + 1
  | .held _ => 1
def uptoBulkAll {H : Type} : List (DataW H) → Nat
  | [] => 0
  | d :: r => uptoBulk d + uptoBulkAll r
def uptoBulkEntries {H : Type} : List (Lit × DataW H) → Nat
  | [] => 0
  | x :: r => uptoBulkEntry x + uptoBulkEntries r
def uptoBulkEntry {H : Type} : Lit × DataW H → Nat
  | (.string bytes, d) => bytes.length + uptoBulk d + 1
  | (_, d) => uptoBulk d + 1
 end
def uptoSmall : (H : Type) → List (DataW H) → Bool := fun _ ds => decide (uptoBulkAll ds ≤ 1048576)
def OpenSpec.upto (s : _root_.Go.ChangeSpec) : _root_.Go.OpenSpec := { _root_.Go.OpenSpec.ofChange s with cond := some uptoSmall }

/-- 'dwindlelaw06.PathRanks', WHERE WHAT IT READS IS OF BULK AT MOST 1048576: true; the input reads as it did. -/
def pathRanksUptoRow : OpenClaim := { program := "ytdnkommcnkbeeaa", sum := "e95e3f4cdb4e082e81f95edc1dae0aa4ade326249d0f356253650bf37ad60385", func := "dwindle/dwindlelaw06.PathRanks", spec := "pathRanks", inPlace := ["internal/bytealg.abigen_runtime_cmpstring"], unfollowed := true, recurses := true, apart := false, narrowed := true }
def PathRanksUptoSaid : Prop := pathRanksUptoRow.holds Try.pinned (OpenSpec.upto pathRanksSpec)

/-- 'dwindlelaw06.PathOrder', WHERE WHAT IT READS IS OF BULK AT MOST 1048576: true; the input reads as it did. -/
def pathOrderUptoRow : OpenClaim := { program := "ytdnkommcnkbeeaa", sum := "e95e3f4cdb4e082e81f95edc1dae0aa4ade326249d0f356253650bf37ad60385", func := "dwindle/dwindlelaw06.PathOrder", spec := "pathOrder", inPlace := ["internal/bytealg.abigen_runtime_cmpstring"], unfollowed := true, recurses := true, loops := true, apart := false, narrowed := true }
def PathOrderUptoSaid : Prop := pathOrderUptoRow.holds Try.pinned (OpenSpec.upto pathOrderSpec)

/-- 'dwindlelaw06.PathClosed', WHERE WHAT IT READS IS OF BULK AT MOST 1048576: true; the input reads as it did. -/
def pathClosedUptoRow : OpenClaim := { program := "ytdnkommcnkbeeaa", sum := "e95e3f4cdb4e082e81f95edc1dae0aa4ade326249d0f356253650bf37ad60385", func := "dwindle/dwindlelaw06.PathClosed", spec := "pathClosed", inPlace := ["internal/bytealg.abigen_runtime_cmpstring"], unfollowed := true, recurses := true, loops := true, apart := false, narrowed := true }
def PathClosedUptoSaid : Prop := pathClosedUptoRow.holds Try.pinned (OpenSpec.upto pathClosedSpec)

/-- 'dwindlelaw06.PathDecreases', WHERE WHAT IT READS IS OF BULK AT MOST 1048576: true; the input reads as it did. -/
def pathDecreasesUptoRow : OpenClaim := { program := "ytdnkommcnkbeeaa", sum := "e95e3f4cdb4e082e81f95edc1dae0aa4ade326249d0f356253650bf37ad60385", func := "dwindle/dwindlelaw06.PathDecreases", spec := "pathDecreases", inPlace := ["internal/bytealg.abigen_runtime_cmpstring"], unfollowed := true, recurses := true, loops := true, apart := false, narrowed := true }
def PathDecreasesUptoSaid : Prop := pathDecreasesUptoRow.holds Try.pinned (OpenSpec.upto pathDecreasesSpec)

/-- 'dwindlelaw06.PathTotal', WHERE WHAT IT READS IS OF BULK AT MOST 1048576: true; the input reads as it did. -/
def pathTotalUptoRow : OpenClaim := { program := "ytdnkommcnkbeeaa", sum := "e95e3f4cdb4e082e81f95edc1dae0aa4ade326249d0f356253650bf37ad60385", func := "dwindle/dwindlelaw06.PathTotal", spec := "pathTotal", inPlace := ["internal/bytealg.abigen_runtime_cmpstring"], unfollowed := true, recurses := true, loops := true, apart := false, narrowed := true }
def PathTotalUptoSaid : Prop := pathTotalUptoRow.holds Try.pinned (OpenSpec.upto pathTotalSpec)

end Rows
end Go.Proofs.Ytdnkommcnkbeeaa
