/- The walk of PlaceSays, as its last text takes it. -/
import Derived.Test.YtgglbafcocbhbaaPSe
namespace Go.Proofs.Ytgglbafcocbhbaa
open Go.RowKit

theorem placeSays_end (n : Int) (v : Value) (l : List (List Int)) (w : World) (_ : I64 n) (hv : IntsAll w v l) :
    Calls Try.prog 5 #[.int .i64 n, v] w fun e w' => e = .returned (.bool true) ∧ Below w.heap.size w w' := placeSays_walk n v l w hv

end Go.Proofs.Ytgglbafcocbhbaa
