/- Contracts: method.Check. -/
import Derived.Test.YtfhcelanjilbiaaName
import Derived.Test.YtfhcelanjilbiaaChRow
namespace Go.Proofs.Ytfhcelanjilbiaa
open Go.RowKit

/-- A method as a value. -/
abbrev meth (s : ByteArray) (n : Int) (v : Value) : Value := .agg #[.string s, .int .i64 n, v]

set_option maxHeartbeats 400000 in
theorem mmay_yes (n : Int) (w : World) (h1 : 2 ≤ n) (h2 : n ≤ 12) :
    Calls Try.prog 82 #[.int .i64 n] w fun e w' => e = .returned (.bool true) ∧ w = w' := by
  go_enter Try.func82, Try.ntmps82
  go_wp2
  go_ret
  exact ⟨rfl, rfl⟩

set_option maxHeartbeats 400000 in
theorem mmay_no (n : Int) (w : World) (h : n < 2 ∨ 12 < n) :
    Calls Try.prog 82 #[.int .i64 n] w fun e w' => e = .returned (.bool false) ∧ w = w' := by
  rcases h with h | h
  · go_enter Try.func82, Try.ntmps82
    go_wp2
    go_ret
    exact ⟨rfl, rfl⟩
  · have h1 : 2 ≤ n := by omega
    have h2 : decide (n ≤ 12) = false := by simp; omega
    go_enter Try.func82, Try.ntmps82
    go_wp2
    go_ret
    exact ⟨rfl, rfl⟩

theorem IntsAll.len {w : World} {v : Value} {xss : List (List Int)} (h : IntsAll w v xss) : ∃ p c, v = .slice p xss.length c := by
  obtain ⟨vs, h1, h2, _⟩ := h
  rw [← h2]; exact h1.form

/-- The k-th list of a slice of lists that is not empty. -/
theorem IntsAll.cell {w : World} {v : Value} {xss : List (List Int)} (h : IntsAll w v xss) (h0 : 1 ≤ xss.length) : ∃ b off cap, v = .slice (some ⟨b, off, none⟩) xss.length cap ∧ b < w.heap.size ∧ xss.length ≤ cap ∧ cap ≤ 9223372036854775807 ∧
    ∀ k, k < xss.length → ∃ p c, w.cell? ⟨b, off + k, none⟩ = some (.slice p (xss.getD k []).length c) ∧ Hid (Ints w (.slice p (xss.getD k []).length c) (xss.getD k [])) := by
  obtain ⟨vs, h1, h2, h3⟩ := h
  rcases h1 with ⟨rfl, _⟩ | ⟨b, off, cap, rfl, h4, h5, h6, h7, h8⟩
  · simp at h2; omega
  · refine ⟨b, off, cap, by rw [h2], h7, by omega, h6, fun k hk => ?_⟩
    exact elAt h8 (by omega) (h3 k hk)

/-- Where a method lies. -/
structure Box (w : World) (B : Nat) (s : ByteArray) (n : Int) (v : Value) : Prop where
  c0 : w.cell? ⟨B, 0, none⟩ = some (.string s)
  c1 : w.cell? ⟨B, 1, none⟩ = some (.int .i64 n)
  c2 : w.cell? ⟨B, 2, none⟩ = some v
  lt : B < w.heap.size

theorem Box.start (w : World) (s : ByteArray) (n : Int) (v : Value) (t : TypeId) : Box (w.alloc (.cells #[.string s, .int .i64 n, v] t)) w.heap.size s n v := by
  refine ⟨?_, ?_, ?_, by simp⟩ <;> simp

theorem Box.below {w w' : World} {B : Nat} {s : ByteArray} {n : Int} {v : Value} (h : Box w B s n v) (hb : Below w.heap.size w w') : Box w' B s n v :=
  ⟨(hb.cell (p := ⟨B, 0, none⟩) h.lt).trans h.c0, (hb.cell (p := ⟨B, 1, none⟩) h.lt).trans h.c1, (hb.cell (p := ⟨B, 2, none⟩) h.lt).trans h.c2, Nat.lt_of_lt_of_le h.lt hb.size⟩

set_option maxRecDepth 20000 in
set_option maxHeartbeats 4000000 in
theorem mcheck_name (s : ByteArray) (n : Int) (v : Value) (w : World) (hs : s.size ≤ 9223372036854775807) (hn : nm s = false) :
    Calls Try.prog 70 #[meth s n v] w fun e w' => e = .returned (.int .i64 7) ∧ Below w.heap.size w w' := by
  unfold meth
  have HN := hide (fun W => name_any s W hs)
  rw [hn] at HN
  clear hn
  go_enter Try.func70, Try.ntmps70
  go_wp2_with fail
  refine (HN.out _).mono ?_
  rintro e w1 ⟨rfl, hb1⟩
  have hB : Below w.heap.size w w1 := ((Below.refl _ _).alloc (Nat.le_refl _) _).trans (hb1.mono (by simp))
  clear hb1 HN
  go_wp2
  go_ret
  exact ⟨rfl, hB⟩

set_option maxRecDepth 20000 in
set_option maxHeartbeats 4000000 in
theorem mcheck_ok (s : ByteArray) (n : Nat) (v : Value) (css : List (List Int)) (w : World) (hs : s.size ≤ 9223372036854775807) (hn : nm s = true) (h1 : 2 ≤ n) (h2 : n ≤ 12) (hl1 : 1 ≤ css.length) (hl2 : css.length ≤ 200) (hv : IntsAll w v css)
    (hok : ∀ k, k < css.length → okc n 0 (css.getD k []) = true) :
    Calls Try.prog 70 #[meth s n v] w fun e w' => e = .returned (.int .i64 0) ∧ Below w.heap.size w w' := by
  unfold meth
  have HN := hide (fun W => name_any s W hs)
  rw [hn] at HN
  obtain ⟨b, off, cap, rfl, hb, hc1, hc2, hcell⟩ := hv.cell hl1
  have HC := hide hcell
  have HOK := hide hok
  clear hn hv hok hcell
  go_enter Try.func70, Try.ntmps70
  go_wp2_with fail
  refine (HN.out _).mono ?_
  rintro e w1 ⟨rfl, hb1⟩
  have hB : Below w.heap.size w w1 := ((Below.refl _ _).alloc (Nat.le_refl _) _).trans (hb1.mono (by simp))
  have hx := (Box.start w s n (.slice (some ⟨b, off, none⟩) css.length cap) 66).below hb1
  have g1 := hx.c1
  have g2 := hx.c2
  have HX := hide hx
  clear hb1 HN hx
  go_wp2_with fail
  refine (mmay_yes _ _ (by omega) (by omega)).mono ?_
  rintro e w' ⟨rfl, rfl⟩
  go_wp2
  go_loop [29] (fun i => ∃ k : Nat, k ≤ css.length ∧ i = .int .i64 k) (fun i => css.length - (intOf i).toNat)
  case atStart => exact ⟨0, by omega, rfl⟩
  case round =>
    obtain ⟨k, hk, rfl⟩ := hrel
    by_cases hlt : k < css.length
    · obtain ⟨p, c, hcx, hix⟩ := HC.out k hlt
      have gx := (hB.cell (p := ⟨b, off + k, none⟩) (by exact hb)).trans hcx
      have HCk := hide (pcheck_any n _ _ w1 (by omega) (by omega) (hix.out.below hB))
      rw [show pck n (css.getD k []) = 0 from by unfold pck; rw [if_pos (HOK.out k hlt)]] at HCk
      generalize (css.getD k []).length = L at *
      clear hcx hix
      go_wp2_with fail
      refine HCk.out.mono ?_
      rintro e w' ⟨rfl, rfl⟩
      go_wp2
      go_round
      case rel => exact ⟨k + 1, by omega, by go_num⟩
      case measure => simp [intOf]; omega
    · go_wp2
      go_ret
      exact ⟨rfl, hB⟩

end Go.Proofs.Ytfhcelanjilbiaa
