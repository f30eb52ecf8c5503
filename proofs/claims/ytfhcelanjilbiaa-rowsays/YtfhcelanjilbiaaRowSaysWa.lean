/- The walk of RowSays, one way of four. -/
import Derived.Test.YtfhcelanjilbiaaRowSaysHead
namespace Go.Proofs.Ytfhcelanjilbiaa
open Go.RowKit

set_option maxHeartbeats 8000000 in
set_option maxRecDepth 100000 in
theorem rowSays_a (va vb : Value) (a b : List Int) (nn kk : Int) (s : ByteArray) (w : World) (ia : Ints w va a) (ib : Ints w vb b) (hs : s.size ≤ 1048576) (hca : ¬ chk a = 0) :
    Calls Try.prog 3 #[va, vb, .int .i64 nn, .int .i64 kk, .string s] w fun e w' => e = .returned (.bool true) ∧ Below w.heap.size w w' := by
  obtain ⟨p1, c1, ea⟩ := ia.form
  obtain ⟨p2, c2, eb⟩ := ib.form
  subst ea; subst eb
  have hB : Below w.heap.size w w := Below.refl _ _
  have HMA := hide (rowMay_any _ a w ia)
  have HMB : Hid (∀ w1, Below w.heap.size w w1 → Calls Try.prog 11 #[.slice p2 b.length c2] w1 fun e w' => e = .returned (.int .i64 (chk b)) ∧ w1 = w') := fun w1 hb => rowMay_any _ b w1 (ib.below hb)
  have HRD : Hid (∀ w1, Calls Try.prog 32 #[.string s] w1 fun e w' => ReadSays s e w' ∧ Below w1.heap.size w1 w') := fun w1 => read_any s w1 (by omega)
  have HRR : Hid (∀ w1, Calls Try.prog 33 #[.string s] w1 fun e w' => ReadSays s e w' ∧ Below w1.heap.size w1 w') := fun w1 => readRow_any s w1 hs
  obtain ⟨E, X, hfun0⟩ := readSays_fun s
  have hfun := hide hfun0
  clear hfun0 hs
  go_enter Try.func3, Try.ntmps3
  have hcn0 := chk_range a
  have hcn : (chk a != 0) = true := by simpa using hca
  clear hca
  generalize hca : chk a = ca at *
  have hce : (ca == 0) = false := by simpa using hcn
  try rw [hca] at HMA
  have HCA := hide hca
  clear hca
  go_wp2_with fail
  refine (HMA.out).mono ?_
  rintro e w101 ⟨rfl, rfl⟩
  go_wp2_with fail
  refine (cycles_err _ a ca _ (ia.below hB) HCA.out hcn).mono ?_
  rintro e w102 ⟨rfl, hb⟩
  replace hB := hB.trans (hb.mono hB.size)
  clear hb
  go_wp2_with fail
  refine (order_err _ a ca _ (ia.below hB) HCA.out hcn).mono ?_
  rintro e w103 ⟨rfl, hb⟩
  replace hB := hB.trans (hb.mono hB.size)
  clear hb
  go_wp2_with fail
  refine (rank_err _ a ca _ (ia.below hB) HCA.out hcn).mono ?_
  rintro e w104 ⟨rfl, hb⟩
  replace hB := hB.trans (hb.mono hB.size)
  clear hb
  go_wp2_with fail
  refine (back_err _ a ca _ (ia.below hB) HCA.out hcn).mono ?_
  rintro e w105 ⟨rfl, hb⟩
  replace hB := hB.trans (hb.mono hB.size)
  clear hb
  go_wp2_with fail
  refine (text_err _ a ca _ (ia.below hB) HCA.out hcn).mono ?_
  rintro e w106 ⟨rfl, hb⟩
  replace hB := hB.trans (hb.mono hB.size)
  clear hb
  go_wp2_with fail
  refine (check_val _ a ca _ (ia.below hB) HCA.out).mono ?_
  rintro e w107 ⟨rfl, hb⟩
  replace hB := hB.trans (hb.mono hB.size)
  clear hb
  go_wp2_with fail
  refine (times_err1 _ _ a ca _ (ia.below hB) HCA.out hcn).mono ?_
  rintro e w108 ⟨rfl, hb⟩
  replace hB := hB.trans (hb.mono hB.size)
  clear hb
  by_cases hn : nn < 1 ∨ 12 < nn
  · rcases hn with hn | hn
    · have hnn : nn < 1 ∨ 12 < nn := Or.inl hn
      go_wp2_with fail
      refine (rounds_err nn _ hnn).mono ?_
      rintro e w109 ⟨rfl, rfl⟩
      go_wp2_with fail
      refine (at_err1 nn kk _ hnn).mono ?_
      rintro e w110 ⟨rfl, rfl⟩
      go_wp2_with fail
      refine (HRD.out _).mono ?_
      rintro e w111 ⟨hrs, hb⟩
      obtain ⟨vr, rfl, hvr⟩ := hfun.out _ _ hrs
      clear hrs
      replace hB := hB.trans (hb.mono hB.size)
      clear hb
      go_wp2_with fail
      refine (HRR.out _).mono ?_
      rintro e w112 ⟨hrs, hb⟩
      obtain ⟨vq, rfl, hvq⟩ := hfun.out _ _ hrs
      clear hrs
      replace hvr := hvr.below hb
      replace hB := hB.trans (hb.mono hB.size)
      clear hb
      go_wp2_with fail
      refine (same_self hvr hvq).mono ?_
      rintro e w113 ⟨rfl, hb⟩
      clear hvr hvq
      replace hB := hB.trans (hb.mono hB.size)
      clear hb
      go_wp2
      go_ret
      exact ⟨rfl, hB⟩
    · have hnn : nn < 1 ∨ 12 < nn := Or.inr hn
      have hn1 : 1 ≤ nn := by omega
      have hn2 : decide (12 < nn) = true := by simpa using hn
      go_wp2_with fail
      refine (rounds_err nn _ hnn).mono ?_
      rintro e w114 ⟨rfl, rfl⟩
      go_wp2_with fail
      refine (at_err1 nn kk _ hnn).mono ?_
      rintro e w115 ⟨rfl, rfl⟩
      go_wp2_with fail
      refine (HRD.out _).mono ?_
      rintro e w116 ⟨hrs, hb⟩
      obtain ⟨vr, rfl, hvr⟩ := hfun.out _ _ hrs
      clear hrs
      replace hB := hB.trans (hb.mono hB.size)
      clear hb
      go_wp2_with fail
      refine (HRR.out _).mono ?_
      rintro e w117 ⟨hrs, hb⟩
      obtain ⟨vq, rfl, hvq⟩ := hfun.out _ _ hrs
      clear hrs
      replace hvr := hvr.below hb
      replace hB := hB.trans (hb.mono hB.size)
      clear hb
      go_wp2_with fail
      refine (same_self hvr hvq).mono ?_
      rintro e w118 ⟨rfl, hb⟩
      clear hvr hvq
      replace hB := hB.trans (hb.mono hB.size)
      clear hb
      go_wp2
      go_ret
      exact ⟨rfl, hB⟩
  · obtain ⟨n, rfl⟩ := Int.eq_ofNat_of_zero_le (show 0 ≤ nn by omega)
    have hn1 : 1 ≤ n := by omega
    have hn2 : n ≤ 12 := by omega
    have hFb := fct_le hn2
    clear hn
    by_cases hk : kk < 0 ∨ ((fct n : Nat) : Int) ≤ kk
    · rcases hk with hk | hk
      · have hkk : kk < 0 ∨ ((fct n : Nat) : Int) ≤ kk := Or.inl hk
        go_wp2_with fail
        refine (rounds_ok n _ hn1 hn2).mono ?_
        rintro e w119 ⟨vz, rfl, hrz, hb⟩
        have hiz := Ints.own hrz
        clear hrz
        replace hB := hB.trans (hb.mono hB.size)
        clear hb
        go_wp2_with fail
        refine (at_err2 n kk _ hn1 hn2 hkk).mono ?_
        rintro e w120 ⟨rfl, hb⟩
        replace hiz := hiz.below hb
        replace hB := hB.trans (hb.mono hB.size)
        clear hb
        go_wp2_with fail
        refine (rrounds_ok n _ (by omega)).mono ?_
        rintro e w121 ⟨vm, rfl, hrm, hb⟩
        replace hiz := hiz.below hb
        replace hB := hB.trans (hb.mono hB.size)
        clear hb
        go_wp2_with fail
        refine (same_self hiz (Ints.own hrm)).mono ?_
        rintro e w122 ⟨rfl, hb⟩
        clear hiz hrm
        replace hB := hB.trans (hb.mono hB.size)
        clear hb
        go_wp2_with fail
        refine (HRD.out _).mono ?_
        rintro e w123 ⟨hrs, hb⟩
        obtain ⟨vr, rfl, hvr⟩ := hfun.out _ _ hrs
        clear hrs
        replace hB := hB.trans (hb.mono hB.size)
        clear hb
        go_wp2_with fail
        refine (HRR.out _).mono ?_
        rintro e w124 ⟨hrs, hb⟩
        obtain ⟨vq, rfl, hvq⟩ := hfun.out _ _ hrs
        clear hrs
        replace hvr := hvr.below hb
        replace hB := hB.trans (hb.mono hB.size)
        clear hb
        go_wp2_with fail
        refine (same_self hvr hvq).mono ?_
        rintro e w125 ⟨rfl, hb⟩
        clear hvr hvq
        replace hB := hB.trans (hb.mono hB.size)
        clear hb
        go_wp2
        go_ret
        exact ⟨rfl, hB⟩
      · have hkk : kk < 0 ∨ ((fct n : Nat) : Int) ≤ kk := Or.inr hk
        have hk0 : 0 ≤ kk := by omega
        have hk1 : decide (kk < ((fct n : Nat) : Int)) = false := by simpa using hk
        go_wp2_with fail
        refine (rounds_ok n _ hn1 hn2).mono ?_
        rintro e w126 ⟨vz, rfl, hrz, hb⟩
        have hiz := Ints.own hrz
        clear hrz
        replace hB := hB.trans (hb.mono hB.size)
        clear hb
        go_wp2_with fail
        refine (at_err2 n kk _ hn1 hn2 hkk).mono ?_
        rintro e w127 ⟨rfl, hb⟩
        replace hiz := hiz.below hb
        replace hB := hB.trans (hb.mono hB.size)
        clear hb
        go_wp2_with fail
        refine (factorial_any n _ hn2).mono ?_
        rintro e w128 ⟨rfl, rfl⟩
        go_wp2_with fail
        refine (rrounds_ok n _ (by omega)).mono ?_
        rintro e w129 ⟨vm, rfl, hrm, hb⟩
        replace hiz := hiz.below hb
        replace hB := hB.trans (hb.mono hB.size)
        clear hb
        go_wp2_with fail
        refine (same_self hiz (Ints.own hrm)).mono ?_
        rintro e w130 ⟨rfl, hb⟩
        clear hiz hrm
        replace hB := hB.trans (hb.mono hB.size)
        clear hb
        go_wp2_with fail
        refine (HRD.out _).mono ?_
        rintro e w131 ⟨hrs, hb⟩
        obtain ⟨vr, rfl, hvr⟩ := hfun.out _ _ hrs
        clear hrs
        replace hB := hB.trans (hb.mono hB.size)
        clear hb
        go_wp2_with fail
        refine (HRR.out _).mono ?_
        rintro e w132 ⟨hrs, hb⟩
        obtain ⟨vq, rfl, hvq⟩ := hfun.out _ _ hrs
        clear hrs
        replace hvr := hvr.below hb
        replace hB := hB.trans (hb.mono hB.size)
        clear hb
        go_wp2_with fail
        refine (same_self hvr hvq).mono ?_
        rintro e w133 ⟨rfl, hb⟩
        clear hvr hvq
        replace hB := hB.trans (hb.mono hB.size)
        clear hb
        go_wp2
        go_ret
        exact ⟨rfl, hB⟩
    · obtain ⟨k, rfl⟩ := Int.eq_ofNat_of_zero_le (show 0 ≤ kk by omega)
      have hkf : k < fct n := by omega
      have hk1 : decide (((k : Nat) : Int) < ((fct n : Nat) : Int)) = true := by simp; omega
      clear hk
      go_wp2_with fail
      refine (rounds_ok n _ hn1 hn2).mono ?_
      rintro e w134 ⟨vz, rfl, hrz, hb⟩
      have hiz := Ints.own hrz
      clear hrz
      replace hB := hB.trans (hb.mono hB.size)
      clear hb
      go_wp2_with fail
      refine (at_ok n k _ hn1 hn2 hkf).mono ?_
      rintro e w135 ⟨va, rfl, hva, hb⟩
      replace hiz := hiz.below hb
      replace hB := hB.trans (hb.mono hB.size)
      clear hb
      go_wp2_with fail
      refine (factorial_any n _ hn2).mono ?_
      rintro e w136 ⟨rfl, rfl⟩
      go_wp2_with fail
      refine (rrounds_ok n _ (by omega)).mono ?_
      rintro e w137 ⟨vm, rfl, hrm, hb⟩
      replace hiz := hiz.below hb
      replace hva := hva.below hb
      replace hB := hB.trans (hb.mono hB.size)
      clear hb
      go_wp2_with fail
      refine (same_self hiz (Ints.own hrm)).mono ?_
      rintro e w138 ⟨rfl, hb⟩
      clear hiz hrm
      replace hva := hva.below hb
      replace hB := hB.trans (hb.mono hB.size)
      clear hb
      go_wp2_with fail
      refine (rat_ok n k _ hn2 hkf).mono ?_
      rintro e w139 ⟨vq, rfl, hvq, hb⟩
      replace hva := hva.below hb
      replace hB := hB.trans (hb.mono hB.size)
      clear hb
      go_wp2_with fail
      refine (same_self hva hvq).mono ?_
      rintro e w140 ⟨rfl, hb⟩
      clear hva hvq
      replace hB := hB.trans (hb.mono hB.size)
      clear hb
      go_wp2_with fail
      refine (HRD.out _).mono ?_
      rintro e w141 ⟨hrs, hb⟩
      obtain ⟨vr, rfl, hvr⟩ := hfun.out _ _ hrs
      clear hrs
      replace hB := hB.trans (hb.mono hB.size)
      clear hb
      go_wp2_with fail
      refine (HRR.out _).mono ?_
      rintro e w142 ⟨hrs, hb⟩
      obtain ⟨vq, rfl, hvq⟩ := hfun.out _ _ hrs
      clear hrs
      replace hvr := hvr.below hb
      replace hB := hB.trans (hb.mono hB.size)
      clear hb
      go_wp2_with fail
      refine (same_self hvr hvq).mono ?_
      rintro e w143 ⟨rfl, hb⟩
      clear hvr hvq
      replace hB := hB.trans (hb.mono hB.size)
      clear hb
      go_wp2
      go_ret
      exact ⟨rfl, hB⟩

end Go.Proofs.Ytfhcelanjilbiaa
