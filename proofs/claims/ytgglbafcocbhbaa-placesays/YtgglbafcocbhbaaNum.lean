/- Contracts of the small functions on numbers: mayCount, Factorial, rowsOf, leastMultiple. -/
import Derived.Test.YtgglbafcocbhbaaRows
import Derived.WalkKit
import Derived.WalkSpells
import Derived.WalkLawsBesides
namespace Go.Proofs.Ytgglbafcocbhbaa
open Go.RowKit

def fct : Nat → Nat
  | 0 => 1
  | n + 1 => (n + 1) * fct n

theorem fct_pos (n : Nat) : 0 < fct n := by
  induction n with
  | zero => decide
  | succ n ih => exact Nat.mul_pos (Nat.succ_pos n) ih

theorem fct_mono {a b : Nat} (h : a ≤ b) : fct a ≤ fct b := by
  induction b with
  | zero => have : a = 0 := by omega
            subst this; exact Nat.le_refl _
  | succ b ih =>
    by_cases e : a = b + 1
    · subst e; exact Nat.le_refl _
    · have h1 := ih (by omega)
      have h2 : fct b ≤ (b + 1) * fct b := Nat.le_mul_of_pos_left _ (Nat.succ_pos b)
      exact Nat.le_trans h1 h2

theorem fct_le {n : Nat} (h : n ≤ 12) : fct n ≤ 479001600 := Nat.le_trans (fct_mono h) (by decide)

theorem ret_int {k : IntKind} {a b : Int} (h : a = b) : Ending.returned (.int k a) = .returned (.int k b) := by rw [h]

set_option maxHeartbeats 400000 in
theorem mayCount_yes (n : Int) (w : World) (h1 : 1 ≤ n) (h2 : n ≤ 12) :
    Calls Try.prog 43 #[.int .i64 n] w fun e w' => e = .returned (.bool true) ∧ w = w' := by
  go_enter Try.func43, Try.ntmps43
  go_wp2
  go_ret
  exact ⟨rfl, rfl⟩

set_option maxHeartbeats 400000 in
theorem mayCount_no (n : Int) (w : World) (h : n < 1 ∨ 12 < n) :
    Calls Try.prog 43 #[.int .i64 n] w fun e w' => e = .returned (.bool false) ∧ w = w' := by
  rcases h with h | h
  · go_enter Try.func43, Try.ntmps43
    go_wp2
    go_ret
    exact ⟨rfl, rfl⟩
  · have h1 : 1 ≤ n := by omega
    have h2 : decide (n ≤ 12) = false := by simp; omega
    go_enter Try.func43, Try.ntmps43
    go_wp2
    go_ret
    exact ⟨rfl, rfl⟩

theorem fct_one {n : Nat} (h : n < 2) : fct n = 1 := by
  match n, h with
  | 0, _ => rfl
  | 1, _ => rfl

theorem fct_step {n : Nat} (h : ¬ n < 2) : n * fct (n - 1) = fct n := by
  match n, h with
  | n + 1, _ => rfl

set_option maxHeartbeats 400000 in
theorem factorial_any (n : Nat) (w : World) (h : n ≤ 12) :
    Calls Try.prog 25 #[.int .i64 n] w fun e w' => e = .returned (.int .i64 (fct n)) ∧ w = w' := by
  induction n with
  | zero =>
    go_enter Try.func25, Try.ntmps25
    go_wp2_with fail
    go_ret
    exact ⟨rfl, rfl⟩
  | succ n ih =>
    have ih' := ih (by omega)
    have IH : Hid (Calls Try.prog 25 #[.int .i64 n] w fun e w' => e = .returned (.int .i64 (fct n)) ∧ w = w') := ih'
    have hb := fct_le (n := n + 1) h
    have hb' := fct_le (n := n) (by omega)
    have hm : Hid (((n : Int) + 1) * (fct n : Int) = (fct (n + 1) : Int)) := by show _ = (((n + 1) * fct n : Nat) : Int); rw [Int.natCast_mul]; rfl
    clear ih ih'
    by_cases h2 : n = 0
    · subst h2
      go_enter Try.func25, Try.ntmps25
      go_wp2_with fail
      go_ret
      exact ⟨rfl, rfl⟩
    · have h3 : 1 ≤ n := by omega
      have h4 : ((n : Int) + 1) * (fct n : Int) ≤ 479001600 := by rw [hm.out]; omega
      have h5 : 0 ≤ ((n : Int) + 1) * (fct n : Int) := by rw [hm.out]; omega
      clear h2
      go_enter Try.func25, Try.ntmps25
      go_wp2_with fail
      first
        | refine IH.out.mono ?_
        | (rw [show ((n : Int) + 1 - 1) = (n : Int) from by omega]; refine IH.out.mono ?_)
      rintro e w' ⟨rfl, rfl⟩
      go_wp2_with fail
      go_ret
      exact ⟨ret_int hm.out, rfl⟩

set_option maxHeartbeats 400000 in
theorem rowsOf_any (n : Nat) (w : World) (h : n ≤ 12) :
    Calls Try.prog 45 #[.int .i64 n] w fun e w' => e = .returned (.int .i64 (fct n)) ∧ w = w' := by
  go_enter Try.func45, Try.ntmps45
  go_wp2
  go_loop [3, 4] (fun m i => ∃ k : Nat, 2 ≤ k ∧ k ≤ 13 ∧ (k ≤ n + 1 ∨ k = 2) ∧ i = .int .i64 k ∧ m = .int .i64 (fct (k - 1))) (fun _ i => n + 1 - (intOf i).toNat)
  case atStart => exact ⟨2, by omega, by omega, by omega, rfl, rfl⟩
  case round =>
    obtain ⟨k, hk1, hk2, hk3, rfl, rfl⟩ := hrel
    by_cases hlt : k ≤ n
    · have hb := fct_le (n := k - 1) (by omega)
      have hb2 := fct_le (n := k) (by omega)
      have hs : Hid ((fct (k - 1) : Int) * (k : Int) = (fct k : Int)) := by
        show _ = _
        rw [← fct_step (n := k) (by omega), Int.natCast_mul, Int.mul_comm]
      have h4 : (fct (k - 1) : Int) * (k : Int) ≤ 479001600 := by rw [hs.out]; omega
      have h5 : 0 ≤ (fct (k - 1) : Int) * (k : Int) := by rw [hs.out]; omega
      go_wp2
      go_round
      case rel => exact ⟨k + 1, by omega, by omega, by omega, by go_num, by rw [hs.out, Nat.add_sub_cancel]⟩
      case measure => simp [intOf]; omega
    · go_wp2
      go_ret
      refine ⟨ret_int ?_, rfl⟩
      rcases hk3 with hk3 | hk3
      · have : k - 1 = n := by omega
        rw [this]
      · subst hk3; rw [fct_one (n := n) (by omega)]; rfl

theorem lcm_of_least {a b c : Nat} (ha : 1 ≤ a) (hb : 1 ≤ b) (hd : b ∣ c * a) (hc : 1 ≤ c) (hl : ∀ d, 1 ≤ d → d < c → ¬ b ∣ d * a) : c * a = Nat.lcm a b := by
  have h1 : Nat.lcm a b ∣ c * a := Nat.lcm_dvd (Nat.dvd_mul_left a c) hd
  have hp : 0 < Nat.lcm a b := Nat.lcm_pos ha hb
  have h2 : Nat.lcm a b ≤ c * a := Nat.le_of_dvd (Nat.mul_pos hc ha) h1
  obtain ⟨d, hd'⟩ := Nat.dvd_lcm_left a b
  have h3 : 1 ≤ d := by
    rcases Nat.eq_zero_or_pos d with h | h
    · rw [h, Nat.mul_zero] at hd'; omega
    · exact h
  have h4 : ¬ d < c := fun h => hl d h3 h (by rw [Nat.mul_comm, ← hd']; exact Nat.dvd_lcm_right a b)
  have h5 : c * a ≤ d * a := Nat.mul_le_mul_right a (by omega)
  rw [Nat.mul_comm d a, ← hd'] at h5
  omega

set_option maxHeartbeats 400000 in
theorem leastMultiple_any (a b : Nat) (w : World) (ha : 1 ≤ a) (hb : 1 ≤ b) (hab : a * b ≤ 1000000000000000) :
    Calls Try.prog 41 #[.int .i64 a, .int .i64 b] w fun e w' => e = .returned (.int .i64 (Nat.lcm a b)) ∧ w = w' := by
  have haB : a ≤ 1000000000000000 := Nat.le_trans (Nat.le_mul_of_pos_right a hb) hab
  have hbB : b ≤ 1000000000000000 := Nat.le_trans (Nat.le_mul_of_pos_left b ha) hab
  have HAB : Hid (a * b ≤ 1000000000000000) := hab
  clear hab
  go_enter Try.func41, Try.ntmps41
  go_wp2
  go_loop [5] (fun t => ∃ c m : Nat, Hid (m = c * a) ∧ 1 ≤ c ∧ c ≤ b ∧ m ≤ 1000000000000000 ∧ Hid (∀ d, 1 ≤ d → d < c → ¬ b ∣ d * a) ∧ t = .int .i64 m) (fun t => 1000000000000001 - (intOf t).toNat)
  case atStart => exact ⟨1, a, by show a = 1 * a; omega, by omega, hb, haB, fun d h1 h2 => by omega, rfl⟩
  case round =>
    obtain ⟨c, m, hm, hc1, hc2, hm2, hl, rfl⟩ := hrel
    by_cases hd : b ∣ m
    · have ht : ((m : Int) % (b : Int) != 0) = false := by
        have := Nat.mod_eq_zero_of_dvd hd
        rw [bne_eq_false_iff_eq]; omega
      clear hd
      go_wp2
      go_ret
      refine ⟨ret_int ?_, rfl⟩
      have e : (m : Int) % (b : Int) = 0 := by simpa using ht
      have hd : b ∣ m := Nat.dvd_of_mod_eq_zero (by omega)
      rw [hm.out] at hd ⊢
      rw [lcm_of_least ha hb hd hc1 hl.out]
    · have ht : ((m : Int) % (b : Int) != 0) = true := by
        rw [bne_iff_ne]
        intro e
        exact hd (Nat.dvd_of_mod_eq_zero (by omega))
      have hcb : c + 1 ≤ b := by
        rcases Nat.lt_or_ge c b with h | h
        · exact h
        · exact absurd (by rw [hm.out, show c = b from by omega]; exact Nat.dvd_mul_right b a) hd
      have hma : m + a ≤ 1000000000000000 := by
        have h1 : (c + 1) * a ≤ b * a := Nat.mul_le_mul_right a hcb
        have h2 := HAB.out
        rw [Nat.mul_comm b a] at h1
        rw [hm.out, show c * a + a = (c + 1) * a from by rw [Nat.add_mul, Nat.one_mul]]
        exact Nat.le_trans h1 h2
      have hl' : Hid (∀ d, 1 ≤ d → d < c + 1 → ¬ b ∣ d * a) := by
        intro d h1 h2 h3
        rcases Nat.lt_or_ge d c with h | h
        · exact hl.out d h1 h h3
        · exact hd (by rw [hm.out, show c = d from by omega]; exact h3)
      have hm' : Hid (m + a = (c + 1) * a) := by
        show _ = _
        rw [hm.out, Nat.add_mul, Nat.one_mul]
      clear hd hl
      go_wp2
      go_round
      case rel => exact ⟨c + 1, m + a, hm', by omega, hcb, hma, hl', by go_num⟩
      case measure => simp [intOf]; omega

end Go.Proofs.Ytgglbafcocbhbaa
