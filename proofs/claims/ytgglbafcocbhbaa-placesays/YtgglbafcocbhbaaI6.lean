/- A number that an int may be. -/
import Derived.Test.YtgglbafcocbhbaaRefD
namespace Go.Proofs.Ytgglbafcocbhbaa
open Go.RowKit

/-- A number that an int may be. -/
def I64 (x : Int) : Prop := -9223372036854775808 ≤ x ∧ x ≤ 9223372036854775807

end Go.Proofs.Ytgglbafcocbhbaa
