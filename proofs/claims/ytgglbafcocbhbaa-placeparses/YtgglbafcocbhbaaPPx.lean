/- Contract: the answer's ParsePlaces, where it refuses at once. -/
import Derived.Test.YtgglbafcocbhbaaRunB
namespace Go.Proofs.Ytgglbafcocbhbaa
open Go.RowKit

set_option maxRecDepth 20000 in
set_option maxHeartbeats 4000000 in
theorem parsePlaces_count (n : Int) (s : ByteArray) (w : World) (hn : n < 1 ∨ 12 < n) :
    Calls Try.prog 31 #[.int .i64 n, .string s] w fun e w' => e = .returned (.tuple #[.slice none 0 0, .int .i64 1]) ∧ w = w' := by
  rcases hn with h | h
  · go_enter Try.func31, Try.ntmps31
    go_wp2
    go_ret2
    exact ⟨rfl, rfl⟩
  · have h1 : ¬ n < 1 := by omega
    go_enter Try.func31, Try.ntmps31
    go_wp2
    go_ret2
    exact ⟨rfl, rfl⟩

set_option maxRecDepth 20000 in
set_option maxHeartbeats 4000000 in
theorem parsePlaces_long (n : Int) (s : ByteArray) (w : World) (hn1 : 1 ≤ n) (hn2 : n ≤ 12) (hs : 4000 < s.size) (hm : s.size ≤ 9223372036854775807) :
    Calls Try.prog 31 #[.int .i64 n, .string s] w fun e w' => e = .returned (.tuple #[.slice none 0 0, .int .i64 3]) ∧ w = w' := by
  go_enter Try.func31, Try.ntmps31
  go_wp2
  go_ret2
  exact ⟨rfl, rfl⟩

end Go.Proofs.Ytgglbafcocbhbaa
