/- What is known of a row behind a slice; the contracts of package row in its terms. -/
import Derived.Test.YtfhcelanjilbiaaPick
import Derived.Test.YtfhcelanjilbiaaRefF
namespace Go.Proofs.Ytfhcelanjilbiaa
open Go.RowKit

/-- What is known of a row behind a slice. -/
structure RowAt (w : World) (v : Value) (n : Nat) (X : List Int) : Prop where
  ints : Ints w v X
  row : isRow X
  len : X.length = n

theorem RowAt.below {w w' : World} {v : Value} {n : Nat} {X : List Int} (h : RowAt w v n X) (hb : Below w.heap.size w w') : RowAt w' v n X := ⟨h.ints.below hb, h.row, h.len⟩

theorem at_row (n k : Nat) (w : World) (h1 : 1 ≤ n) (h2 : n ≤ 12) (hk : k < fct n) :
    Calls Try.prog 28 #[.int .i64 n, .int .i64 k] w fun e w' => ∃ v, e = .returned (.tuple #[v, .int .i64 0]) ∧ RowAt w' v n (rowAt n k) ∧ Below w.heap.size w w' := by
  refine (at_ok n k w h1 h2 hk).mono ?_
  rintro e w' ⟨v, rfl, hi, hb⟩
  exact ⟨v, rfl, ⟨hi, rowAt_row hk, rowAt_length hk⟩, hb⟩

theorem times_row {n : Nat} {v1 v2 : Value} {X Y : List Int} {w : World} (h1 : 1 ≤ n) (h2 : n ≤ 12) (hx : RowAt w v1 n X) (hy : RowAt w v2 n Y) :
    Calls Try.prog 25 #[v1, v2] w fun e w' => ∃ v, e = .returned (.tuple #[v, .int .i64 0]) ∧ RowAt w' v n (by_ X Y) ∧ Below w.heap.size w w' := by
  have e1 := hx.len
  have e2 := hy.len
  refine (times_ok v1 v2 X Y w hx.ints hy.ints hx.row hy.row (by omega) (by omega) (by omega)).mono ?_
  rintro e w' ⟨v, rfl, hi, hb⟩
  exact ⟨v, rfl, ⟨hi, isRow_by hx.row hy.row (by omega), by rw [by_length]; exact e2⟩, hb⟩

theorem back_row {n : Nat} {v1 : Value} {X : List Int} {w : World} (h1 : 1 ≤ n) (h2 : n ≤ 12) (hx : RowAt w v1 n X) :
    Calls Try.prog 15 #[v1] w fun e w' => ∃ v Z, e = .returned (.tuple #[v, .int .i64 0]) ∧ RowAt w' v n Z ∧ by_ X Z = rnd n ∧ Below w.heap.size w w' := by
  have e1 := hx.len
  refine (back_ok v1 X w hx.ints hx.row (by omega) (by omega)).mono ?_
  rintro e w' ⟨v, Z, rfl, hi, hu, hb⟩
  exact ⟨v, Z, rfl, ⟨hi, isRow_undoes hx.row hu, hu.1.trans e1⟩, by rw [by_undoes hx.row hu, e1], hb⟩

theorem order_row {n : Nat} {v1 : Value} {X : List Int} {w : World} (h1 : 1 ≤ n) (h2 : n ≤ 12) (hx : RowAt w v1 n X) :
    Calls Try.prog 13 #[v1] w fun e w' => ∃ o : Nat, 1 ≤ o ∧ o ≤ 1000000000000000 ∧ e = .returned (.tuple #[.int .i64 (o : Int), .bool (odd X), .int .i64 0]) ∧ Below w.heap.size w w' := by
  have e1 := hx.len
  refine (order_ok v1 X w hx.ints hx.row (by omega) (by omega)).mono ?_
  rintro e w' ⟨rfl, hb⟩
  have hall := cycsTo_len hx.row X.length (Nat.le_refl _)
  have hbd := ordTo_bound (xss := cycsTo X X.length) (fun x hx => by have := hall x hx; omega) (cycsTo X X.length).length (Nat.le_refl _)
  have hl := cycsTo_length X X.length
  have hpw : 12 ^ (cycsTo X X.length).length ≤ 12 ^ 12 := Nat.pow_le_pow_right (by decide) (by omega)
  exact ⟨_, hbd.1, by have : 12 ^ 12 ≤ 1000000000000000 := by decide
                      omega, rfl, hb⟩

theorem order_ord {n : Nat} {v1 : Value} {X : List Int} {w : World} (h1 : 1 ≤ n) (h2 : n ≤ 12) (hx : RowAt w v1 n X) :
    Calls Try.prog 13 #[v1] w fun e w' => e = .returned (.tuple #[.int .i64 (ord X : Nat), .bool (odd X), .int .i64 0]) ∧ 1 ≤ ord X ∧ ord X ≤ 1000000000000000 ∧ Below w.heap.size w w' := by
  have e1 := hx.len
  refine (order_ok v1 X w hx.ints hx.row (by omega) (by omega)).mono ?_
  rintro e w' ⟨rfl, hb⟩
  have hp := ord_pos hx.row (by omega)
  exact ⟨rfl, hp.1, hp.2, hb⟩

theorem RowAt.own {w : World} {base : Nat} {v : Value} {n : Nat} {X : List Int} (h : w.ownsRow base 3 1 v n (X.map (Value.int .i64))) (hr : isRow X) : RowAt w v n X :=
  ⟨Ints.own h, hr, by have := h.1; simpa using this⟩

end Go.Proofs.Ytfhcelanjilbiaa
