/- The walk of TopChange: it answers true at every input. -/
import Derived.Test.YtfhcelanjilbiaaRowAt
import Derived.Test.YtfhcelanjilbiaaChRow
namespace Go.Proofs.Ytfhcelanjilbiaa
open Go.RowKit

set_option maxHeartbeats 4000000 in
set_option maxRecDepth 100000 in
theorem topChange_walk (a0 a1 : Int) (w : World) (h0 : I64 a0) (h1 : I64 a1) :
    Calls Try.prog 7 #[.int .i64 a0, .int .i64 a1] w fun e w' => e = .returned (.bool true) ∧ Below w.heap.size w w' := by
  obtain ⟨l1, u1⟩ := h1
  have H0 := hide h0
  clear h0
  go_enter Try.func7, Try.ntmps7
  go_wp2_with fail
  refine (pick_any _ _ _ l1 u1 (by omega) (by omega)).mono ?_
  rintro e wa ⟨k, hk0, hk1, rfl, rfl⟩
  obtain ⟨m, rfl⟩ := Int.eq_ofNat_of_zero_le hk0
  have hm : m < 12 := by omega
  clear hk0 hk1 l1 u1
  go_wp2_with fail
  rw [show (1 + (m : Int)) = ((m + 1 : Nat) : Int) from by omega]
  generalize hn : m + 1 = n
  have n1 : 1 ≤ n := by omega
  have n2 : n ≤ 12 := by omega
  clear hn hm
  refine (changeOf_ok _ n _ H0.out n1 n2).mono ?_
  rintro e w1 ⟨vp, t, rfl, ht, hp, hB⟩
  have HP := hide hp
  have HT := hide ht
  clear hp ht H0
  go_wp2_with fail
  refine (prow_ok t n vp w1 HT.out n1 n2 (Ints.own HP.out)).mono ?_
  rintro e w2 ⟨vr, rfl, hr, hb⟩
  replace hB := hB.trans (hb.mono hB.size)
  have hx : RowAt w2 vr n (trow t) := RowAt.own hr (trow_row t)
  have HTW : Hid (by_ (trow t) (trow t) = rnd n) := by show _ = _; rw [trow_twice, HT.out]
  have HO : Hid (ord (trow t) ≤ 2) := ord_le_two (trow_row t) (by rw [trow_length, trow_twice])
  have HD := hide (trow_odd t)
  have HPL : Hid ((tpl t).length + 2 * tpr t = n) := by show _ = _; rw [tpl_length, HT.out]
  have hle : (tpl t).length ≤ n := by have := HPL.out; omega
  obtain ⟨pp, pc, rfl⟩ := (Ints.own HP.out).form
  generalize (tpl t).length = L at *
  generalize tpr t = P at *
  generalize trow t = X at *
  clear hr hb HP
  go_wp2_with fail
  refine (times_row n1 n2 hx hx).mono ?_
  rintro e w3 ⟨v2, rfl, h2, hb⟩
  rw [HTW.out] at h2
  replace hx := hx.below hb
  replace hB := hB.trans (hb.mono hB.size)
  clear hb HTW
  go_wp2_with fail
  refine (order_ord n1 n2 hx).mono ?_
  rintro e w4 ⟨rfl, ho1, ho2, hb⟩
  replace h2 := h2.below hb
  replace hB := hB.trans (hb.mono hB.size)
  have ho := HO.out
  rw [HD.out]
  generalize ord X = o at *
  clear hb hx HO HD
  go_wp2_with fail
  refine (rrounds_ok n _ (by omega)).mono ?_
  rintro e w5 ⟨vm, rfl, hrn, hb⟩
  replace h2 := h2.below hb
  replace hB := hB.trans (hb.mono hB.size)
  have HSm := hide (same_any v2 vm _ _ w5 h2.ints (Ints.own hrn))
  rw [decide_eq_true rfl] at HSm
  clear h2 hrn hb
  go_wp2_with fail
  refine HSm.out.mono ?_
  rintro e w6 ⟨rfl, hb⟩
  replace hB := hB.trans (hb.mono hB.size)
  clear hb HSm
  go_wp2
  go_ret
  refine ⟨ret_bool ?_, hB⟩
  have hP := HPL.out
  rw [show ((n : Int) - (L : Int)) / 2 = (P : Int) from by omega, beq_iff_eq, Bool.eq_iff_iff]
  simp
  omega

end Go.Proofs.Ytfhcelanjilbiaa
