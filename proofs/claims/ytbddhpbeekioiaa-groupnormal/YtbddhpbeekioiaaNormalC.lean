/- Contract: Normal, of two groups whose rows have not as many bells. -/
import Derived.Test.YtbddhpbeekioiaaNormalB
namespace Go.Proofs.Ytbddhpbeekioiaa
open Go.RowKit

set_option maxRecDepth 20000 in
set_option maxHeartbeats 2000000 in
theorem normal_apart (n m : Nat) (v1 v2 : Value) (gs hs : List Pm) (w : World) (hnm : n ≠ m) (hG : GroupAt w v1 n gs) (hH : GroupAt w v2 m hs) :
    Calls Try.prog 46 #[v1, v2] w fun e w' => e = .returned (.tuple #[.bool false, .int .i64 1]) ∧ Below w.heap.size w w' := by
  obtain ⟨g1, vg1, B1, c1, bs1, C1, st1, rfl, hg1, a10, a11, a12, hP1, hC1, hb1, _⟩ := hG
  obtain ⟨g2, vg2, B2, c2, bs2, C2, st2, rfl, hg2, a20, a21, a22, hP2, hC2, hb2, _⟩ := hH
  have hnn : ((m : Int) != (n : Int)) = true := by rw [bne_iff_ne]; omega
  clear hP1 hP2 hC1 hC2 hb1 hb2 hnm
  go_enter Try.func46, Try.ntmps46
  go_wp2
  go_quiet (fail)
  go_wp2
  go_ret2
  exact ⟨rfl, ⟨rfl, rfl, rfl, Nat.le_refl _, fun _ _ => rfl⟩⟩

end Go.Proofs.Ytbddhpbeekioiaa
