/- The walk of TopRow: it answers true at every input. -/
import Derived.Test.YtfhcelanjilbiaaRowAt
namespace Go.Proofs.Ytfhcelanjilbiaa
open Go.RowKit

theorem read_txt {X : List Int} {w : World} (hr : isRow X) (h1 : 1 ≤ X.length) (h2 : X.length ≤ 12) :
    Calls Try.prog 32 #[.string (strOfNums (txt X))] w fun e w' => ∃ v, e = .returned (.tuple #[v, .int .i64 0]) ∧ Ints w' v X ∧ Below w.heap.size w w' := by
  have hsz : (strOfNums (txt X)).size = X.length := by rw [strOfNums_size, txt_length]
  refine (read_any (strOfNums (txt X)) w (by omega)).mono ?_
  rintro e w' ⟨hs, hb⟩
  have hbt := bells_txt hr h2
  have hc := chk_ok h1 h2 hr
  rcases hs with ⟨⟨q, hq, hn⟩, _⟩ | ⟨_, ⟨_, v, rfl, hi⟩ | ⟨hn, _⟩⟩
  · exact absurd (txt_signs hr h2 q hq) hn
  · rw [hbt] at hi; exact ⟨v, rfl, hi, hb⟩
  · rw [hbt] at hn; exact absurd hc hn

set_option maxHeartbeats 4000000 in
set_option maxRecDepth 100000 in
theorem topRow_walk (a0 a1 a2 a3 : Int) (w : World) (l0 : -9223372036854775808 ≤ a0) (u0 : a0 ≤ 9223372036854775807) (l1 : -9223372036854775808 ≤ a1) (u1 : a1 ≤ 9223372036854775807)
    (l2 : -9223372036854775808 ≤ a2) (u2 : a2 ≤ 9223372036854775807) (l3 : -9223372036854775808 ≤ a3) (u3 : a3 ≤ 9223372036854775807) :
    Calls Try.prog 6 #[.int .i64 a0, .int .i64 a1, .int .i64 a2, .int .i64 a3] w fun e w' => e = .returned (.bool true) ∧ Below w.heap.size w w' := by
  go_enter Try.func6, Try.ntmps6
  go_wp2_with fail
  refine (pick_any _ _ _ l3 u3 (by omega) (by omega)).mono ?_
  rintro e wa ⟨k, hk0, hk1, rfl, rfl⟩
  obtain ⟨m, rfl⟩ := Int.eq_ofNat_of_zero_le hk0
  have hm : m < 12 := by omega
  clear hk0 hk1 l3 u3
  go_wp2_with fail
  rw [show (1 + (m : Int)) = ((m + 1 : Nat) : Int) from by omega]
  generalize hn : m + 1 = n
  have n1 : 1 ≤ n := by omega
  have n2 : n ≤ 12 := by omega
  clear hn hm
  have hF0 : (0 : Int) < ((fct n : Nat) : Int) := by have := fct_pos n; omega
  have hF1 : ((fct n : Nat) : Int) ≤ 9223372036854775807 := by have := fct_le n2; omega
  -- x
  refine (factorial_any n _ n2).mono ?_
  rintro e wa ⟨rfl, rfl⟩
  go_wp2_with fail
  refine (pick_any _ _ _ l0 u0 hF0 hF1).mono ?_
  rintro e wa ⟨k, hk0, hk1, rfl, rfl⟩
  obtain ⟨kx, rfl⟩ := Int.eq_ofNat_of_zero_le hk0
  have hkx : kx < fct n := by omega
  clear hk0 hk1 l0 u0
  go_wp2_with fail
  refine (at_row n kx _ n1 n2 hkx).mono ?_
  rintro e w1 ⟨vx, rfl, hx, hB⟩
  have HRK := hide (rank_rowAt hkx)
  generalize rowAt n kx = X at *
  -- y
  go_wp2_with fail
  refine (factorial_any n _ n2).mono ?_
  rintro e wa ⟨rfl, rfl⟩
  go_wp2_with fail
  refine (pick_any _ _ _ l1 u1 hF0 hF1).mono ?_
  rintro e wa ⟨k, hk0, hk1, rfl, rfl⟩
  obtain ⟨ky, rfl⟩ := Int.eq_ofNat_of_zero_le hk0
  have hky : ky < fct n := by omega
  clear hk0 hk1 l1 u1
  go_wp2_with fail
  refine (at_row n ky _ n1 n2 hky).mono ?_
  rintro e w2 ⟨vy, rfl, hy, hb⟩
  generalize rowAt n ky = Y at *
  replace hx := hx.below hb
  replace hB := hB.trans (hb.mono hB.size)
  clear hb hky
  -- z
  go_wp2_with fail
  refine (factorial_any n _ n2).mono ?_
  rintro e wa ⟨rfl, rfl⟩
  go_wp2_with fail
  refine (pick_any _ _ _ l2 u2 hF0 hF1).mono ?_
  rintro e wa ⟨k, hk0, hk1, rfl, rfl⟩
  obtain ⟨kz, rfl⟩ := Int.eq_ofNat_of_zero_le hk0
  have hkz : kz < fct n := by omega
  clear hk0 hk1 l2 u2
  go_wp2_with fail
  refine (at_row n kz _ n1 n2 hkz).mono ?_
  rintro e w3 ⟨vz, rfl, hz, hb⟩
  generalize rowAt n kz = Z at *
  replace hx := hx.below hb
  replace hy := hy.below hb
  replace hB := hB.trans (hb.mono hB.size)
  clear hb hkz hF0 hF1
  -- Rank, Text, Read, Same
  go_wp2_with fail
  refine (rank_ok vx X _ hx.ints hx.row (by rw [hx.len]; exact n1) (by rw [hx.len]; exact n2)).mono ?_
  rintro e w4 ⟨rfl, hb⟩
  replace hx := hx.below hb
  replace hy := hy.below hb
  replace hz := hz.below hb
  replace hB := hB.trans (hb.mono hB.size)
  rw [HRK.out]
  clear hb HRK
  go_wp2_with fail
  refine (text_ok vx X _ hx.ints hx.row (by rw [hx.len]; exact n1) (by rw [hx.len]; exact n2)).mono ?_
  rintro e w5 ⟨rfl, hb⟩
  replace hx := hx.below hb
  replace hy := hy.below hb
  replace hz := hz.below hb
  replace hB := hB.trans (hb.mono hB.size)
  clear hb
  go_wp2_with fail
  refine (read_txt hx.row (by rw [hx.len]; exact n1) (by rw [hx.len]; exact n2)).mono ?_
  rintro e w6 ⟨vr, rfl, hr, hb⟩
  replace hx := hx.below hb
  replace hy := hy.below hb
  replace hz := hz.below hb
  replace hB := hB.trans (hb.mono hB.size)
  clear hb
  have HSm := hide (same_any vr vx X X w6 hr hx.ints)
  rw [decide_eq_true (rfl : X = X)] at HSm
  clear hr
  go_wp2_with fail
  refine HSm.out.mono ?_
  rintro e w7 ⟨rfl, hb⟩
  replace hx := hx.below hb
  replace hy := hy.below hb
  replace hz := hz.below hb
  replace hB := hB.trans (hb.mono hB.size)
  clear hb HSm
  -- Times
  go_wp2_with fail
  refine (times_row n1 n2 hx hy).mono ?_
  rintro e w8 ⟨vxy, rfl, hxy, hb⟩
  replace hx := hx.below hb
  replace hy := hy.below hb
  replace hz := hz.below hb
  replace hB := hB.trans (hb.mono hB.size)
  clear hb
  go_wp2_with fail
  refine (times_row n1 n2 hy hz).mono ?_
  rintro e w9 ⟨vyz, rfl, hyz, hb⟩
  replace hx := hx.below hb
  replace hy := hy.below hb
  replace hz := hz.below hb
  replace hxy := hxy.below hb
  replace hB := hB.trans (hb.mono hB.size)
  clear hb
  go_wp2_with fail
  refine (times_row n1 n2 hxy hz).mono ?_
  rintro e w10 ⟨vl, rfl, hl, hb⟩
  replace hx := hx.below hb
  replace hy := hy.below hb
  replace hz := hz.below hb
  replace hxy := hxy.below hb
  replace hyz := hyz.below hb
  replace hB := hB.trans (hb.mono hB.size)
  clear hb
  go_wp2_with fail
  refine (times_row n1 n2 hx hyz).mono ?_
  rintro e w11 ⟨vr2, rfl, hr, hb⟩
  replace hx := hx.below hb
  replace hy := hy.below hb
  replace hxy := hxy.below hb
  replace hl := hl.below hb
  replace hB := hB.trans (hb.mono hB.size)
  rw [by_assoc hz.row (by rw [hz.len, hy.len])] at hl
  clear hb hz hyz
  go_wp2_with fail
  refine (back_row n1 n2 hx).mono ?_
  rintro e w12 ⟨vu, U, rfl, hu, hxu, hb⟩
  have HXU := hide hxu
  replace hx := hx.below hb
  replace hy := hy.below hb
  replace hxy := hxy.below hb
  replace hl := hl.below hb
  replace hr := hr.below hb
  replace hB := hB.trans (hb.mono hB.size)
  clear hb hxu
  have HSm := hide (same_any vl vr2 _ _ w12 hl.ints hr.ints)
  rw [decide_eq_true rfl] at HSm
  clear hl hr
  go_wp2_with fail
  refine HSm.out.mono ?_
  rintro e w13 ⟨rfl, hb⟩
  replace hx := hx.below hb
  replace hy := hy.below hb
  replace hxy := hxy.below hb
  replace hu := hu.below hb
  replace hB := hB.trans (hb.mono hB.size)
  clear hb HSm
  go_wp2_with fail
  refine (times_row n1 n2 hx hu).mono ?_
  rintro e w14 ⟨vn, rfl, hnn, hb⟩
  rw [HXU.out] at hnn
  replace hx := hx.below hb
  replace hy := hy.below hb
  replace hxy := hxy.below hb
  replace hB := hB.trans (hb.mono hB.size)
  clear hb hu HXU
  go_wp2_with fail
  refine (order_row n1 n2 hx).mono ?_
  rintro e w15 ⟨o1, ho1, ho2, rfl, hb⟩
  have HO := hide (odd_by hx.row hy.row (by rw [hx.len, hy.len]))
  replace hy := hy.below hb
  replace hxy := hxy.below hb
  replace hnn := hnn.below hb
  replace hB := hB.trans (hb.mono hB.size)
  clear hb hx
  generalize odd X = d1 at *
  go_wp2_with fail
  refine (order_row n1 n2 hy).mono ?_
  rintro e w16 ⟨o2, _, _, rfl, hb⟩
  replace hxy := hxy.below hb
  replace hnn := hnn.below hb
  replace hB := hB.trans (hb.mono hB.size)
  clear hb hy
  generalize odd Y = d2 at *
  go_wp2_with fail
  refine (order_row n1 n2 hxy).mono ?_
  rintro e w17 ⟨o3, _, _, rfl, hb⟩
  replace hnn := hnn.below hb
  replace hB := hB.trans (hb.mono hB.size)
  rw [HO.out]
  clear hb hxy HO
  go_wp2_with fail
  refine (rrounds_ok n _ (by omega)).mono ?_
  rintro e w18 ⟨vm, rfl, hrn, hb⟩
  replace hnn := hnn.below hb
  replace hB := hB.trans (hb.mono hB.size)
  have HSm := hide (same_any vn vm _ _ w18 hnn.ints (Ints.own hrn))
  rw [decide_eq_true rfl] at HSm
  clear hnn hrn hb
  go_wp2_with fail
  refine HSm.out.mono ?_
  rintro e w19 ⟨rfl, hb⟩
  replace hB := hB.trans (hb.mono hB.size)
  clear hb HSm
  go_wp2
  go_ret
  exact ⟨ret_bool (by cases d1 <;> cases d2 <;> rfl), hB⟩

end Go.Proofs.Ytfhcelanjilbiaa
