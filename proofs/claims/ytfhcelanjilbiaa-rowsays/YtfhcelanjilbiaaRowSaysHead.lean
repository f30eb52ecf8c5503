/- The walk of RowSays: it answers true at every input. -/
import Derived.Test.YtfhcelanjilbiaaRowErr
namespace Go.Proofs.Ytfhcelanjilbiaa
open Go.RowKit

theorem order_okd (v1 : Value) (a : List Int) (w : World) (i1 : Ints w v1 a) (r1 : isRow a) (n1 : 1 ≤ a.length) (n2 : a.length ≤ 12) :
    Calls Try.prog 13 #[v1] w fun e w' => e = .returned (.tuple #[.int .i64 (ord a), .bool (odd a), .int .i64 0]) ∧ Below w.heap.size w w' := order_ok v1 a w i1 r1 n1 n2

theorem check_val (v : Value) (xs : List Int) (c : Int) (w : World) (h : Ints w v xs) (hc : chk xs = c) :
    Calls Try.prog 17 #[v] w fun e w' => e = .returned (.int .i64 c) ∧ Below w.heap.size w w' := by
  have := check_any v xs w h
  rwa [hc] at this

theorem check_zero (v : Value) (xs : List Int) (w : World) (h : Ints w v xs) (hc : chk xs = 0) :
    Calls Try.prog 17 #[v] w fun e w' => e = .returned (.int .i64 0) ∧ Below w.heap.size w w' := check_val v xs 0 w h hc

theorem same_self {v1 v2 : Value} {xs : List Int} {w : World} (h1 : Ints w v1 xs) (h2 : Ints w v2 xs) :
    Calls Try.prog 22 #[v1, v2] w fun e w' => e = .returned (.bool true) ∧ Below w.heap.size w w' := by
  have := same_any v1 v2 xs xs w h1 h2
  rwa [decide_eq_true rfl] at this

theorem sameAll_self {v1 v2 : Value} {xs : List (List Int)} {w : World} (h1 : IntsAll w v1 xs) (h2 : IntsAll w v2 xs) :
    Calls Try.prog 19 #[v1, v2] w fun e w' => e = .returned (.bool true) ∧ Below w.heap.size w w' := by
  have := sameAll_any v1 v2 xs xs w h1 h2
  rwa [decide_eq_true rfl] at this

theorem undoes_unique {zs us a : List Int} (ha : isRow a) (h1 : Undoes zs a) (h2 : Undoes us a) : zs = us := by
  refine ext_getD (h1.1.trans h2.1.symm) (fun i hi => ?_)
  have hia : i < a.length := by rw [← h1.1]; exact hi
  obtain ⟨j, hj, e1, e2⟩ := undoes_at ha h1 hia
  have := h2.2 j hj
  rw [e1, Int.toNat_natCast] at this
  rw [e2, this]

end Go.Proofs.Ytfhcelanjilbiaa
