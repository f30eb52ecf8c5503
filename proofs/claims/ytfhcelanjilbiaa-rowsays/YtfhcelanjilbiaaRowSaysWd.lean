/- The walk of RowSays, one way of four. -/
import Derived.Test.YtfhcelanjilbiaaRowSaysHead
namespace Go.Proofs.Ytfhcelanjilbiaa
open Go.RowKit

set_option maxHeartbeats 8000000 in
set_option maxRecDepth 100000 in
theorem rowSays_d (va vb : Value) (a b : List Int) (nn kk : Int) (s : ByteArray) (w : World) (ia : Ints w va a) (ib : Ints w vb b) (hs : s.size ≤ 1048576) (hca : chk a = 0) (hcb : chk b = 0) (hlen : a.length = b.length) :
    Calls Try.prog 3 #[va, vb, .int .i64 nn, .int .i64 kk, .string s] w fun e w' => e = .returned (.bool true) ∧ Below w.heap.size w w' := by
  obtain ⟨p1, c1, ea⟩ := ia.form
  obtain ⟨p2, c2, eb⟩ := ib.form
  subst ea; subst eb
  have hB : Below w.heap.size w w := Below.refl _ _
  have HMA := hide (rowMay_any _ a w ia)
  have HMB : Hid (∀ w1, Below w.heap.size w w1 → Calls Try.prog 11 #[.slice p2 b.length c2] w1 fun e w' => e = .returned (.int .i64 (chk b)) ∧ w1 = w') := fun w1 hb => rowMay_any _ b w1 (ib.below hb)
  have HRD : Hid (∀ w1, Calls Try.prog 32 #[.string s] w1 fun e w' => ReadSays s e w' ∧ Below w1.heap.size w1 w') := fun w1 => read_any s w1 (by omega)
  have HRR : Hid (∀ w1, Calls Try.prog 33 #[.string s] w1 fun e w' => ReadSays s e w' ∧ Below w1.heap.size w1 w') := fun w1 => readRow_any s w1 hs
  obtain ⟨E, X, hfun0⟩ := readSays_fun s
  have hfun := hide hfun0
  clear hfun0 hs
  go_enter Try.func3, Try.ntmps3
  obtain ⟨na1, na2, ra⟩ := chk_zero hca
  obtain ⟨nb1, nb2, rb⟩ := chk_zero hcb
  have hlb : (((a.length : Nat) : Int) != ((b.length : Nat) : Int)) = false := by rw [hlen]; simp
  have HLEN := hide hlen
  clear hlen
  rw [hcb] at HMB
  have HCB := hide hcb
  clear hcb
  try rw [hca] at HMA
  have HCA := hide hca
  clear hca
  go_wp2_with fail
  refine (HMA.out).mono ?_
  rintro e w246 ⟨rfl, rfl⟩
  go_wp2_with fail
  refine (cycles_ok _ a _ (ia.below hB) ra na1 na2).mono ?_
  rintro e w247 ⟨vc, vs, D, rfl, hrow, hall, hDD, hb⟩
  have hcy := IntsAll.own hrow hall
  clear hrow hall hDD
  replace hB := hB.trans (hb.mono hB.size)
  clear hb
  go_wp2_with fail
  refine (order_okd _ a _ (ia.below hB) ra na1 na2).mono ?_
  rintro e w248 ⟨rfl, hb⟩
  replace hcy := hcy.below hb
  replace hB := hB.trans (hb.mono hB.size)
  clear hb
  go_wp2_with fail
  refine (rank_ok _ a _ (ia.below hB) ra na1 na2).mono ?_
  rintro e w249 ⟨rfl, hb⟩
  replace hcy := hcy.below hb
  replace hB := hB.trans (hb.mono hB.size)
  clear hb
  go_wp2_with fail
  refine (back_ok _ a _ (ia.below hB) ra na1 na2).mono ?_
  rintro e w250 ⟨vx, zs, rfl, hzs, hund, hb⟩
  replace hcy := hcy.below hb
  replace hB := hB.trans (hb.mono hB.size)
  clear hb
  go_wp2_with fail
  refine (text_ok _ a _ (ia.below hB) ra na1 na2).mono ?_
  rintro e w251 ⟨rfl, hb⟩
  replace hcy := hcy.below hb
  replace hzs := hzs.below hb
  replace hB := hB.trans (hb.mono hB.size)
  clear hb
  go_wp2_with fail
  refine (check_zero _ a _ (ia.below hB) HCA.out).mono ?_
  rintro e w252 ⟨rfl, hb⟩
  replace hcy := hcy.below hb
  replace hzs := hzs.below hb
  replace hB := hB.trans (hb.mono hB.size)
  clear hb
  go_wp2_with fail
  refine (rorder_ok _ a _ (ia.below hB) ra na1 na2).mono ?_
  rintro e w253 ⟨rfl, hb⟩
  replace hcy := hcy.below hb
  replace hzs := hzs.below hb
  replace hB := hB.trans (hb.mono hB.size)
  clear hb
  go_wp2_with fail
  refine (rcycles_ok _ a _ (ia.below hB) ra na1 na2).mono ?_
  rintro e w254 ⟨vd, rfl, hcd, hb⟩
  replace hcy := hcy.below hb
  replace hzs := hzs.below hb
  replace hB := hB.trans (hb.mono hB.size)
  clear hb
  go_wp2_with fail
  refine (sameAll_self hcy hcd).mono ?_
  rintro e w255 ⟨rfl, hb⟩
  clear hcy hcd
  replace hzs := hzs.below hb
  replace hB := hB.trans (hb.mono hB.size)
  clear hb
  go_wp2_with fail
  refine (rrank_ok _ a _ (ia.below hB) ra na1 na2).mono ?_
  rintro e w256 ⟨rfl, hb⟩
  replace hzs := hzs.below hb
  replace hB := hB.trans (hb.mono hB.size)
  clear hb
  go_wp2_with fail
  refine (undo_ok _ a _ (ia.below hB) ra na1 na2).mono ?_
  rintro e w257 ⟨vu, us, rfl, hus, hund2, hb⟩
  replace hzs := hzs.below hb
  replace hB := hB.trans (hb.mono hB.size)
  clear hb
  rw [undoes_unique ra hund2 hund] at hus
  clear hund hund2
  go_wp2_with fail
  refine (same_self hzs hus).mono ?_
  rintro e w258 ⟨rfl, hb⟩
  clear hzs hus
  replace hB := hB.trans (hb.mono hB.size)
  clear hb
  go_wp2_with fail
  refine (rtext_ok _ a _ (ia.below hB) ra na1 na2).mono ?_
  rintro e w259 ⟨rfl, rfl⟩
  go_wp2_with fail
  refine (HMB.out _ hB).mono ?_
  rintro e w260 ⟨rfl, rfl⟩
  go_wp2_with fail
  refine (times_ok _ _ a b _ (ia.below hB) (ib.below hB) ra rb na1 na2 HLEN.out.symm).mono ?_
  rintro e w261 ⟨vy, rfl, hy, hb⟩
  replace hB := hB.trans (hb.mono hB.size)
  clear hb
  go_wp2_with fail
  refine (rby_ok _ _ a b _ (ia.below hB) (ib.below hB) (fun j hj => by have := rb.at hj; have := HLEN.out; omega) na1 (by omega)).mono ?_
  rintro e w262 ⟨vz, rfl, hz, hb⟩
  replace hy := hy.below hb
  replace hB := hB.trans (hb.mono hB.size)
  clear hb
  go_wp2_with fail
  refine (same_self hy hz).mono ?_
  rintro e w263 ⟨rfl, hb⟩
  clear hy hz
  replace hB := hB.trans (hb.mono hB.size)
  clear hb
  by_cases hn : nn < 1 ∨ 12 < nn
  · rcases hn with hn | hn
    · have hnn : nn < 1 ∨ 12 < nn := Or.inl hn
      go_wp2_with fail
      refine (rounds_err nn _ hnn).mono ?_
      rintro e w264 ⟨rfl, rfl⟩
      go_wp2_with fail
      refine (at_err1 nn kk _ hnn).mono ?_
      rintro e w265 ⟨rfl, rfl⟩
      go_wp2_with fail
      refine (HRD.out _).mono ?_
      rintro e w266 ⟨hrs, hb⟩
      obtain ⟨vr, rfl, hvr⟩ := hfun.out _ _ hrs
      clear hrs
      replace hB := hB.trans (hb.mono hB.size)
      clear hb
      go_wp2_with fail
      refine (HRR.out _).mono ?_
      rintro e w267 ⟨hrs, hb⟩
      obtain ⟨vq, rfl, hvq⟩ := hfun.out _ _ hrs
      clear hrs
      replace hvr := hvr.below hb
      replace hB := hB.trans (hb.mono hB.size)
      clear hb
      go_wp2_with fail
      refine (same_self hvr hvq).mono ?_
      rintro e w268 ⟨rfl, hb⟩
      clear hvr hvq
      replace hB := hB.trans (hb.mono hB.size)
      clear hb
      go_wp2
      go_ret
      exact ⟨rfl, hB⟩
    · have hnn : nn < 1 ∨ 12 < nn := Or.inr hn
      have hn1 : 1 ≤ nn := by omega
      have hn2 : decide (12 < nn) = true := by simpa using hn
      go_wp2_with fail
      refine (rounds_err nn _ hnn).mono ?_
      rintro e w269 ⟨rfl, rfl⟩
      go_wp2_with fail
      refine (at_err1 nn kk _ hnn).mono ?_
      rintro e w270 ⟨rfl, rfl⟩
      go_wp2_with fail
      refine (HRD.out _).mono ?_
      rintro e w271 ⟨hrs, hb⟩
      obtain ⟨vr, rfl, hvr⟩ := hfun.out _ _ hrs
      clear hrs
      replace hB := hB.trans (hb.mono hB.size)
      clear hb
      go_wp2_with fail
      refine (HRR.out _).mono ?_
      rintro e w272 ⟨hrs, hb⟩
      obtain ⟨vq, rfl, hvq⟩ := hfun.out _ _ hrs
      clear hrs
      replace hvr := hvr.below hb
      replace hB := hB.trans (hb.mono hB.size)
      clear hb
      go_wp2_with fail
      refine (same_self hvr hvq).mono ?_
      rintro e w273 ⟨rfl, hb⟩
      clear hvr hvq
      replace hB := hB.trans (hb.mono hB.size)
      clear hb
      go_wp2
      go_ret
      exact ⟨rfl, hB⟩
  · obtain ⟨n, rfl⟩ := Int.eq_ofNat_of_zero_le (show 0 ≤ nn by omega)
    have hn1 : 1 ≤ n := by omega
    have hn2 : n ≤ 12 := by omega
    have hFb := fct_le hn2
    clear hn
    by_cases hk : kk < 0 ∨ ((fct n : Nat) : Int) ≤ kk
    · rcases hk with hk | hk
      · have hkk : kk < 0 ∨ ((fct n : Nat) : Int) ≤ kk := Or.inl hk
        go_wp2_with fail
        refine (rounds_ok n _ hn1 hn2).mono ?_
        rintro e w274 ⟨vz, rfl, hrz, hb⟩
        have hiz := Ints.own hrz
        clear hrz
        replace hB := hB.trans (hb.mono hB.size)
        clear hb
        go_wp2_with fail
        refine (at_err2 n kk _ hn1 hn2 hkk).mono ?_
        rintro e w275 ⟨rfl, hb⟩
        replace hiz := hiz.below hb
        replace hB := hB.trans (hb.mono hB.size)
        clear hb
        go_wp2_with fail
        refine (rrounds_ok n _ (by omega)).mono ?_
        rintro e w276 ⟨vm, rfl, hrm, hb⟩
        replace hiz := hiz.below hb
        replace hB := hB.trans (hb.mono hB.size)
        clear hb
        go_wp2_with fail
        refine (same_self hiz (Ints.own hrm)).mono ?_
        rintro e w277 ⟨rfl, hb⟩
        clear hiz hrm
        replace hB := hB.trans (hb.mono hB.size)
        clear hb
        go_wp2_with fail
        refine (HRD.out _).mono ?_
        rintro e w278 ⟨hrs, hb⟩
        obtain ⟨vr, rfl, hvr⟩ := hfun.out _ _ hrs
        clear hrs
        replace hB := hB.trans (hb.mono hB.size)
        clear hb
        go_wp2_with fail
        refine (HRR.out _).mono ?_
        rintro e w279 ⟨hrs, hb⟩
        obtain ⟨vq, rfl, hvq⟩ := hfun.out _ _ hrs
        clear hrs
        replace hvr := hvr.below hb
        replace hB := hB.trans (hb.mono hB.size)
        clear hb
        go_wp2_with fail
        refine (same_self hvr hvq).mono ?_
        rintro e w280 ⟨rfl, hb⟩
        clear hvr hvq
        replace hB := hB.trans (hb.mono hB.size)
        clear hb
        go_wp2
        go_ret
        exact ⟨rfl, hB⟩
      · have hkk : kk < 0 ∨ ((fct n : Nat) : Int) ≤ kk := Or.inr hk
        have hk0 : 0 ≤ kk := by omega
        have hk1 : decide (kk < ((fct n : Nat) : Int)) = false := by simpa using hk
        go_wp2_with fail
        refine (rounds_ok n _ hn1 hn2).mono ?_
        rintro e w281 ⟨vz, rfl, hrz, hb⟩
        have hiz := Ints.own hrz
        clear hrz
        replace hB := hB.trans (hb.mono hB.size)
        clear hb
        go_wp2_with fail
        refine (at_err2 n kk _ hn1 hn2 hkk).mono ?_
        rintro e w282 ⟨rfl, hb⟩
        replace hiz := hiz.below hb
        replace hB := hB.trans (hb.mono hB.size)
        clear hb
        go_wp2_with fail
        refine (factorial_any n _ hn2).mono ?_
        rintro e w283 ⟨rfl, rfl⟩
        go_wp2_with fail
        refine (rrounds_ok n _ (by omega)).mono ?_
        rintro e w284 ⟨vm, rfl, hrm, hb⟩
        replace hiz := hiz.below hb
        replace hB := hB.trans (hb.mono hB.size)
        clear hb
        go_wp2_with fail
        refine (same_self hiz (Ints.own hrm)).mono ?_
        rintro e w285 ⟨rfl, hb⟩
        clear hiz hrm
        replace hB := hB.trans (hb.mono hB.size)
        clear hb
        go_wp2_with fail
        refine (HRD.out _).mono ?_
        rintro e w286 ⟨hrs, hb⟩
        obtain ⟨vr, rfl, hvr⟩ := hfun.out _ _ hrs
        clear hrs
        replace hB := hB.trans (hb.mono hB.size)
        clear hb
        go_wp2_with fail
        refine (HRR.out _).mono ?_
        rintro e w287 ⟨hrs, hb⟩
        obtain ⟨vq, rfl, hvq⟩ := hfun.out _ _ hrs
        clear hrs
        replace hvr := hvr.below hb
        replace hB := hB.trans (hb.mono hB.size)
        clear hb
        go_wp2_with fail
        refine (same_self hvr hvq).mono ?_
        rintro e w288 ⟨rfl, hb⟩
        clear hvr hvq
        replace hB := hB.trans (hb.mono hB.size)
        clear hb
        go_wp2
        go_ret
        exact ⟨rfl, hB⟩
    · obtain ⟨k, rfl⟩ := Int.eq_ofNat_of_zero_le (show 0 ≤ kk by omega)
      have hkf : k < fct n := by omega
      have hk1 : decide (((k : Nat) : Int) < ((fct n : Nat) : Int)) = true := by simp; omega
      clear hk
      go_wp2_with fail
      refine (rounds_ok n _ hn1 hn2).mono ?_
      rintro e w289 ⟨vz, rfl, hrz, hb⟩
      have hiz := Ints.own hrz
      clear hrz
      replace hB := hB.trans (hb.mono hB.size)
      clear hb
      go_wp2_with fail
      refine (at_ok n k _ hn1 hn2 hkf).mono ?_
      rintro e w290 ⟨va, rfl, hva, hb⟩
      replace hiz := hiz.below hb
      replace hB := hB.trans (hb.mono hB.size)
      clear hb
      go_wp2_with fail
      refine (factorial_any n _ hn2).mono ?_
      rintro e w291 ⟨rfl, rfl⟩
      go_wp2_with fail
      refine (rrounds_ok n _ (by omega)).mono ?_
      rintro e w292 ⟨vm, rfl, hrm, hb⟩
      replace hiz := hiz.below hb
      replace hva := hva.below hb
      replace hB := hB.trans (hb.mono hB.size)
      clear hb
      go_wp2_with fail
      refine (same_self hiz (Ints.own hrm)).mono ?_
      rintro e w293 ⟨rfl, hb⟩
      clear hiz hrm
      replace hva := hva.below hb
      replace hB := hB.trans (hb.mono hB.size)
      clear hb
      go_wp2_with fail
      refine (rat_ok n k _ hn2 hkf).mono ?_
      rintro e w294 ⟨vq, rfl, hvq, hb⟩
      replace hva := hva.below hb
      replace hB := hB.trans (hb.mono hB.size)
      clear hb
      go_wp2_with fail
      refine (same_self hva hvq).mono ?_
      rintro e w295 ⟨rfl, hb⟩
      clear hva hvq
      replace hB := hB.trans (hb.mono hB.size)
      clear hb
      go_wp2_with fail
      refine (HRD.out _).mono ?_
      rintro e w296 ⟨hrs, hb⟩
      obtain ⟨vr, rfl, hvr⟩ := hfun.out _ _ hrs
      clear hrs
      replace hB := hB.trans (hb.mono hB.size)
      clear hb
      go_wp2_with fail
      refine (HRR.out _).mono ?_
      rintro e w297 ⟨hrs, hb⟩
      obtain ⟨vq, rfl, hvq⟩ := hfun.out _ _ hrs
      clear hrs
      replace hvr := hvr.below hb
      replace hB := hB.trans (hb.mono hB.size)
      clear hb
      go_wp2_with fail
      refine (same_self hvr hvq).mono ?_
      rintro e w298 ⟨rfl, hb⟩
      clear hvr hvq
      replace hB := hB.trans (hb.mono hB.size)
      clear hb
      go_wp2
      go_ret
      exact ⟨rfl, hB⟩

end Go.Proofs.Ytfhcelanjilbiaa
