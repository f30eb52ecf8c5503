/- Contract: the answer's ChangeMay. -/
import Derived.Test.YtgglbafcocbhbaaChng
namespace Go.Proofs.Ytgglbafcocbhbaa
open Go.RowKit

set_option maxRecDepth 20000 in
set_option maxHeartbeats 2000000 in
theorem changeMay_any (n : Int) (v : Value) (ps : List Int) (w : World) (h1 : 1 ≤ n) (h2 : n ≤ 12) (i1 : Ints w v ps) :
    Calls Try.prog 32 #[.int .i64 n, v] w fun e w' => e = .returned (.int .i64 (pck n ps)) ∧ w = w' := by
  rcases i1 with ⟨rfl, p, c, rfl⟩ | ⟨b, off, cap, rfl, h0, hc, hm, hb, hcell⟩
  · go_enter Try.func32, Try.ntmps32
    go_wp2
    go_loop [5, 6] (fun l i => l = .int .i64 0 ∧ i = .int .i64 0) (fun _ _ => 0)
    case atStart => exact ⟨rfl, rfl⟩
    case round =>
      obtain ⟨rfl, rfl⟩ := hrel
      by_cases he : n % 2 = 0
      · have hp : Hid (pck n [] = 0) := by show _ = _; unfold pck okc; rw [if_pos (by simp; omega)]
        have ht : (n % 2 == 1) = false := by rw [beq_eq_false_iff_ne]; omega
        clear he
        go_wp2
        go_ret
        exact ⟨ret_int hp.out.symm, rfl⟩
      · have hp : Hid (pck n [] = 6) := by show _ = _; unfold pck okc; rw [if_neg (by simp; omega)]
        have ht : n % 2 = 1 := by omega
        clear he
        go_wp2
        go_ret
        exact ⟨ret_int hp.out.symm, rfl⟩
  · go_enter Try.func32, Try.ntmps32
    go_wp2
    go_loop [5, 6] (fun l i => ∃ (k : Nat) (L : Int), k ≤ ps.length ∧ i = .int .i64 k ∧ l = .int .i64 L ∧ 0 ≤ L ∧ L ≤ n ∧ Hid (okc n 0 ps = okc n L (ps.drop k))) (fun _ i => ps.length - (intOf i).toNat)
    case atStart => exact ⟨0, 0, by omega, rfl, rfl, by omega, by omega, rfl⟩
    case round =>
      obtain ⟨k, L, hk, rfl, rfl, hL0, hLn, hok⟩ := hrel
      by_cases hlt : k < ps.length
      · obtain ⟨y, hy, hcx⟩ := cellAt hcell hlt
        have HD : Hid (okc n 0 ps = (decide (L < y ∧ y ≤ n ∧ (y - L - 1) % 2 = 0) && okc n y (ps.drop (k + 1)))) := by
          show _ = _; rw [hok.out, drop_cons ps hlt, hy.out]; rfl
        clear hcell hok
        by_cases c1 : y ≤ L
        · have hp : Hid (pck n ps = 6) := by show _ = _; unfold pck; rw [HD.out, decide_eq_false (by omega)]; rfl
          go_wp2
          go_ret
          exact ⟨ret_int hp.out.symm, rfl⟩
        · by_cases c2 : n < y
          · have hp : Hid (pck n ps = 6) := by show _ = _; unfold pck; rw [HD.out, decide_eq_false (by omega)]; rfl
            have c3 : L < y := by omega
            clear c1
            go_wp2
            go_ret
            exact ⟨ret_int hp.out.symm, rfl⟩
          · have c3 : L < y := by omega
            have c4 : y ≤ n := by omega
            clear c1 c2
            by_cases c5 : (y - L) % 2 = 1
            · have HN : Hid (okc n 0 ps = okc n y (ps.drop (k + 1))) := by show _ = _; rw [HD.out, decide_eq_true (by omega)]; rfl
              have D5 : ((y - L) % 2 == 0) = false := by rw [beq_eq_false_iff_ne]; omega
              clear c5
              go_wp2
              go_round
              case rel => exact ⟨k + 1, y, by omega, by go_num, rfl, by omega, by omega, HN⟩
              case measure => simp [intOf]; omega
            · have hp : Hid (pck n ps = 6) := by show _ = _; unfold pck; rw [HD.out, decide_eq_false (by omega)]; rfl
              have D5 : (y - L) % 2 = 0 := by omega
              clear c5
              go_wp2
              go_ret
              exact ⟨ret_int hp.out.symm, rfl⟩
      · have HE : Hid (okc n 0 ps = decide ((n - L) % 2 = 0)) := by show _ = _; rw [hok.out, List.drop_of_length_le (by omega)]; rfl
        clear hcell hok
        by_cases c5 : (n - L) % 2 = 0
        · have hp : Hid (pck n ps = 0) := by show _ = _; unfold pck; rw [HE.out, decide_eq_true c5]; rfl
          have D5 : ((n - L) % 2 == 1) = false := by rw [beq_eq_false_iff_ne]; omega
          clear c5
          go_wp2
          go_ret
          exact ⟨ret_int hp.out.symm, rfl⟩
        · have hp : Hid (pck n ps = 6) := by show _ = _; unfold pck; rw [HE.out, decide_eq_false c5]; rfl
          have D5 : (n - L) % 2 = 1 := by omega
          clear c5
          go_wp2
          go_ret
          exact ⟨ret_int hp.out.symm, rfl⟩

end Go.Proofs.Ytgglbafcocbhbaa
