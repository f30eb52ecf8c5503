/- What package row answers where a list is no row, or a number may not be. -/
import Derived.Test.YtfhcelanjilbiaaRefF
namespace Go.Proofs.Ytfhcelanjilbiaa
open Go.RowKit
set_option maxRecDepth 20000

set_option maxRecDepth 20000 in
set_option maxHeartbeats 400000 in
theorem cycles_err (v1 : Value) (a : List Int) (c : Int) (w : World) (i1 : Ints w v1 a) (hc : chk a = c) (hne : (c != 0) = true) :
    Calls Try.prog 12 #[v1] w fun e w' => e = .returned (.tuple #[.slice none 0 0, .int .i64 c]) ∧ Below w.heap.size w w' := by
  have C1 := check_any v1 a w i1
  rw [hc] at C1
  have HC1 := hide C1
  clear C1 hc i1
  go_enter Try.func12, Try.ntmps12
  go_wp2_with fail
  refine HC1.out.mono ?_
  rintro e w1 ⟨rfl, hb⟩
  go_wp2
  go_ret2
  exact ⟨rfl, hb⟩

set_option maxRecDepth 20000 in
set_option maxHeartbeats 400000 in
theorem rank_err (v1 : Value) (a : List Int) (c : Int) (w : World) (i1 : Ints w v1 a) (hc : chk a = c) (hne : (c != 0) = true) :
    Calls Try.prog 14 #[v1] w fun e w' => e = .returned (.tuple #[.int .i64 0, .int .i64 c]) ∧ Below w.heap.size w w' := by
  have C1 := check_any v1 a w i1
  rw [hc] at C1
  have HC1 := hide C1
  clear C1 hc i1
  go_enter Try.func14, Try.ntmps14
  go_wp2_with fail
  refine HC1.out.mono ?_
  rintro e w1 ⟨rfl, hb⟩
  go_wp2
  go_ret2
  exact ⟨rfl, hb⟩

set_option maxRecDepth 20000 in
set_option maxHeartbeats 400000 in
theorem back_err (v1 : Value) (a : List Int) (c : Int) (w : World) (i1 : Ints w v1 a) (hc : chk a = c) (hne : (c != 0) = true) :
    Calls Try.prog 15 #[v1] w fun e w' => e = .returned (.tuple #[.slice none 0 0, .int .i64 c]) ∧ Below w.heap.size w w' := by
  have C1 := check_any v1 a w i1
  rw [hc] at C1
  have HC1 := hide C1
  clear C1 hc i1
  go_enter Try.func15, Try.ntmps15
  go_wp2_with fail
  refine HC1.out.mono ?_
  rintro e w1 ⟨rfl, hb⟩
  go_wp2
  go_ret2
  exact ⟨rfl, hb⟩

set_option maxRecDepth 20000 in
set_option maxHeartbeats 400000 in
theorem text_err (v1 : Value) (a : List Int) (c : Int) (w : World) (i1 : Ints w v1 a) (hc : chk a = c) (hne : (c != 0) = true) :
    Calls Try.prog 16 #[v1] w fun e w' => e = .returned (.tuple #[.string { data := #[] }, .int .i64 c]) ∧ Below w.heap.size w w' := by
  have C1 := check_any v1 a w i1
  rw [hc] at C1
  have HC1 := hide C1
  clear C1 hc i1
  go_enter Try.func16, Try.ntmps16
  go_wp2_with fail
  refine HC1.out.mono ?_
  rintro e w1 ⟨rfl, hb⟩
  go_wp2
  go_ret2
  exact ⟨rfl, hb⟩

set_option maxRecDepth 20000 in
set_option maxHeartbeats 400000 in
theorem order_err (v1 : Value) (a : List Int) (c : Int) (w : World) (i1 : Ints w v1 a) (hc : chk a = c) (hne : (c != 0) = true) :
    Calls Try.prog 13 #[v1] w fun e w' => e = .returned (.tuple #[.int .i64 0, .bool false, .int .i64 c]) ∧ Below w.heap.size w w' := by
  have HC1 := hide (cycles_err v1 a c w i1 hc hne)
  clear hc i1
  go_enter Try.func13, Try.ntmps13
  go_wp2_with fail
  refine HC1.out.mono ?_
  rintro e w1 ⟨rfl, hb⟩
  go_wp2
  go_ret3
  exact ⟨rfl, hb⟩

set_option maxRecDepth 20000 in
set_option maxHeartbeats 400000 in
theorem times_err1 (v1 v2 : Value) (a : List Int) (c : Int) (w : World) (i1 : Ints w v1 a) (hc : chk a = c) (hne : (c != 0) = true) :
    Calls Try.prog 25 #[v1, v2] w fun e w' => e = .returned (.tuple #[.slice none 0 0, .int .i64 c]) ∧ Below w.heap.size w w' := by
  have C1 := check_any v1 a w i1
  rw [hc] at C1
  have HC1 := hide C1
  clear C1 hc i1
  go_enter Try.func25, Try.ntmps25
  go_wp2_with fail
  refine HC1.out.mono ?_
  rintro e w1 ⟨rfl, hb⟩
  go_wp2_with fail
  go_ret2
  exact ⟨rfl, hb⟩

set_option maxRecDepth 20000 in
set_option maxHeartbeats 400000 in
theorem times_err2 (v1 v2 : Value) (a b : List Int) (c : Int) (w : World) (i1 : Ints w v1 a) (i2 : Ints w v2 b) (h0 : chk a = 0) (hc : chk b = c) (hne : (c != 0) = true) :
    Calls Try.prog 25 #[v1, v2] w fun e w' => e = .returned (.tuple #[.slice none 0 0, .int .i64 c]) ∧ Below w.heap.size w w' := by
  have C1 := check_any v1 a w i1
  rw [h0] at C1
  have HC1 := hide C1
  have HC2 : Hid (∀ w', Below w.heap.size w w' → Calls Try.prog 17 #[v2] w' fun e w'' => e = .returned (.int .i64 c) ∧ Below w'.heap.size w' w'') := by
    intro w' hb
    have := check_any v2 b w' (i2.below hb)
    rwa [hc] at this
  clear C1 hc h0 i1 i2
  go_enter Try.func25, Try.ntmps25
  go_wp2_with fail
  refine HC1.out.mono ?_
  rintro e w1 ⟨rfl, hb⟩
  go_wp2_with fail
  refine (HC2.out w1 hb).mono ?_
  rintro e w2 ⟨rfl, hb2⟩
  go_wp2_with fail
  go_ret2
  exact ⟨rfl, hb.trans (hb2.mono hb.size)⟩

set_option maxRecDepth 20000 in
set_option maxHeartbeats 400000 in
theorem times_err3 (v1 v2 : Value) (a b : List Int) (w : World) (i1 : Ints w v1 a) (i2 : Ints w v2 b) (h0 : chk a = 0) (h1 : chk b = 0) (hl : a.length ≠ b.length) :
    Calls Try.prog 25 #[v1, v2] w fun e w' => e = .returned (.tuple #[.slice none 0 0, .int .i64 1]) ∧ Below w.heap.size w w' := by
  have C1 := check_any v1 a w i1
  rw [h0] at C1
  have HC1 := hide C1
  have HC2 : Hid (∀ w', Below w.heap.size w w' → Calls Try.prog 17 #[v2] w' fun e w'' => e = .returned (.int .i64 0) ∧ Below w'.heap.size w' w'') := by
    intro w' hb
    have := check_any v2 b w' (i2.below hb)
    rwa [h1] at this
  obtain ⟨p1, c1, rfl⟩ := i1.form
  obtain ⟨p2, c2, rfl⟩ := i2.form
  have hne : (((a.length : Nat) : Int) != ((b.length : Nat) : Int)) = true := by rw [bne_iff_ne]; omega
  clear C1 h0 h1 i1 i2 hl
  go_enter Try.func25, Try.ntmps25
  go_wp2_with fail
  refine HC1.out.mono ?_
  rintro e w1 ⟨rfl, hb⟩
  go_wp2_with fail
  refine (HC2.out w1 hb).mono ?_
  rintro e w2 ⟨rfl, hb2⟩
  go_wp2_with fail
  go_ret2
  exact ⟨rfl, hb.trans (hb2.mono hb.size)⟩

set_option maxRecDepth 20000 in
set_option maxHeartbeats 400000 in
theorem rounds_err (n : Int) (w : World) (h : n < 1 ∨ 12 < n) :
    Calls Try.prog 27 #[.int .i64 n] w fun e w' => e = .returned (.tuple #[.slice none 0 0, .int .i64 1]) ∧ w = w' := by
  have HM := hide (mayCount_no n w h)
  clear h
  go_enter Try.func27, Try.ntmps27
  go_wp2_with fail
  refine HM.out.mono ?_
  rintro e w1 ⟨rfl, rfl⟩
  go_wp2_with fail
  go_ret2
  exact ⟨rfl, rfl⟩

set_option maxRecDepth 20000 in
set_option maxHeartbeats 400000 in
theorem at_err1 (n k : Int) (w : World) (h : n < 1 ∨ 12 < n) :
    Calls Try.prog 28 #[.int .i64 n, .int .i64 k] w fun e w' => e = .returned (.tuple #[.slice none 0 0, .int .i64 1]) ∧ w = w' := by
  have HM := hide (rounds_err n w h)
  clear h
  go_enter Try.func28, Try.ntmps28
  go_wp2_with fail
  refine HM.out.mono ?_
  rintro e w1 ⟨rfl, rfl⟩
  go_wp2_with fail
  go_ret2
  exact ⟨rfl, rfl⟩

set_option maxRecDepth 20000 in
set_option maxHeartbeats 800000 in
theorem at_err2 (n : Nat) (k : Int) (w : World) (h1 : 1 ≤ n) (h2 : n ≤ 12) (hk : k < 0 ∨ ((fct n : Nat) : Int) ≤ k) :
    Calls Try.prog 28 #[.int .i64 n, .int .i64 k] w fun e w' => e = .returned (.tuple #[.slice none 0 0, .int .i64 12]) ∧ Below w.heap.size w w' := by
  have HR := hide (rounds_ok n w h1 h2)
  rcases hk with hk | hk
  · go_enter Try.func28, Try.ntmps28
    go_wp2_with fail
    refine HR.out.mono ?_
    rintro e w1 ⟨v1, rfl, hown1, hb1⟩
    clear HR hown1
    go_wp2_with fail
    refine (rowsOf_any n w1 h2).mono ?_
    rintro e w2 ⟨rfl, rfl⟩
    go_wp2_with fail
    go_ret2
    exact ⟨rfl, hb1⟩
  · have h0 : 0 ≤ k := by omega
    have ht : decide (((fct n : Nat) : Int) ≤ k) = true := by simpa using hk
    go_enter Try.func28, Try.ntmps28
    go_wp2_with fail
    refine HR.out.mono ?_
    rintro e w1 ⟨v1, rfl, hown1, hb1⟩
    clear HR hown1
    go_wp2_with fail
    refine (rowsOf_any n w1 h2).mono ?_
    rintro e w2 ⟨rfl, rfl⟩
    go_wp2_with fail
    go_ret2
    exact ⟨rfl, hb1⟩

/-- What Read and the answer's ReadRow both say of a text. -/
theorem readSays_fun (s : ByteArray) : ∃ (E : Int) (X : List Int), ∀ e w', ReadSays s e w' → ∃ v, e = .returned (.tuple #[v, .int .i64 E]) ∧ Ints w' v X := by
  by_cases hb : ∃ q, ∃ h : q < s.size, ¬ bl s[q] < 12
  · refine ⟨4, [], fun e w' h => ?_⟩
    rcases h with ⟨_, rfl⟩ | ⟨hg, _⟩
    · exact ⟨_, rfl, Ints.nil _⟩
    · obtain ⟨q, hq, hn⟩ := hb
      exact absurd (hg q hq) hn
  · by_cases h0 : chk (bells s.data.toList) = 0
    · refine ⟨0, bells s.data.toList, fun e w' h => ?_⟩
      rcases h with ⟨hn, _⟩ | ⟨_, ⟨_, v, rfl, hi⟩ | ⟨hn, _⟩⟩
      · exact absurd hn hb
      · exact ⟨v, rfl, hi⟩
      · exact absurd h0 hn
    · refine ⟨chk (bells s.data.toList), [], fun e w' h => ?_⟩
      rcases h with ⟨hn, _⟩ | ⟨_, ⟨hn, _⟩ | ⟨_, rfl⟩⟩
      · exact absurd hn hb
      · exact absurd hn h0
      · exact ⟨_, rfl, Ints.nil _⟩

end Go.Proofs.Ytfhcelanjilbiaa
