/- A term and a number as results. -/
import Derived.Test.YtdnkommcnkbeeaaCln
namespace Go.Proofs.Ytdnkommcnkbeeaa
open Go.RowKit

abbrev Tm.none : Tm := .mk ⟨#[]⟩ false []
/-- a term and a number, in new memory -/
def TmNum (w w' : World) (e : Ending) (u : Tm) (c : Int) : Prop := (∃ sl, e = .returned (.tuple #[tmv u sl, .int .i64 c]) ∧ SlIs w'.heap.size w' u.ts sl) ∧ Below w.heap.size w w'
end Go.Proofs.Ytdnkommcnkbeeaa
