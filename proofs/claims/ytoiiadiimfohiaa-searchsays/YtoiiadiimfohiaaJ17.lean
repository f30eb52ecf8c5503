/- Joined: MdE, MdF, ScG. -/
import Derived.Test.YtoiiadiimfohiaaJ16
import Derived.Test.YtoiiadiimfohiaaJ15
import Derived.Test.YtoiiadiimfohiaaJ10
/- Contracts at every input: the answer's CallsMay, TouchMay. -/
namespace Go.Proofs.Ytoiiadiimfohiaa
open Go.RowKit
set_option maxRecDepth 20000
set_option linter.unusedVariables false

theorem oErr_sign {n : Int} {K : Nat} {ah : List Cl} {c : Cl} (h : sgnR c.1 = false) : oErr n K ah c = 4 := by unfold oErr; rw [if_neg (by rw [h]; decide)]
theorem oErr_dbl {n : Int} {K : Nat} {ah : List Cl} {c : Cl} (h : sgnR c.1 = true) (h2 : c.1 ∈ ah.map Prod.fst) : oErr n K ah c = 8 := by unfold oErr; rw [if_pos h, if_pos h2]
theorem oErr_few {n : Int} {K : Nat} {ah : List Cl} {c : Cl} (h : sgnR c.1 = true) (h2 : c.1 ∉ ah.map Prod.fst) (h3 : K < c.2.length) : oErr n K ah c = 1 := by unfold oErr; rw [if_pos h, if_neg h2, if_pos h3]
theorem oErr_rest {n : Int} {K : Nat} {ah : List Cl} {c : Cl} (h : sgnR c.1 = true) (h2 : c.1 ∉ ah.map Prod.fst) (h3 : ¬ K < c.2.length) : oErr n K ah c = fstE n c.2 := by unfold oErr; rw [if_pos h, if_neg h2, if_neg h3]

theorem sign_in {cs : List Cl} {k : Nat} (hk : k ≤ cs.length) {x : Int} : x ∈ (cs.take k).map Prod.fst ↔ ∃ j, j < k ∧ (cs.getD j (0, [])).1 = x := by
  rw [List.mem_map]
  constructor
  · rintro ⟨c, hc, rfl⟩
    obtain ⟨j, hj, e⟩ := List.getElem_of_mem hc
    rw [List.length_take] at hj
    refine ⟨j, by omega, ?_⟩
    rw [← e]
    simp [List.getD, show j < cs.length by omega]
  · rintro ⟨j, hj, rfl⟩
    refine ⟨cs.getD j (0, []), ?_, rfl⟩
    have hj2 : j < cs.length := by omega
    have : (cs.take k)[j]? = some (cs.getD j (0, [])) := by rw [List.getElem?_take]; simp [hj, hj2, List.getD]
    exact List.mem_of_getElem? this

set_option maxHeartbeats 16000000 in
theorem rcalls_all (s : ByteArray) (n : Int) (vp : Option Addr) (vc : Nat) (X : List (List Int)) (cv : Value) (cs : List Cl) (w : World) (hs : s.size ≤ 1048576)
    (hv : IntsAll w (.slice vp X.length vc) X) (hcv : CallsIn w cv cs) :
    Calls Try.prog 24 #[.agg #[.string s, .int .i64 n, .slice vp X.length vc], cv] w fun e w' => e = .returned (.int .i64 (cErr s n X cs)) ∧ Below w.heap.size w w' := by
  obtain ⟨m, hm⟩ : ∃ m, Hid (X.length = m) := ⟨_, rfl⟩
  have HB0 := hide ((Below.refl w.heap.size w).alloc (Nat.le_refl _) (mbox s n (.slice vp X.length vc)))
  have HMM := hide (rmay_all s n (.slice vp X.length vc) X (w.alloc (mbox s n (.slice vp X.length vc))) hs (hv.below HB0.out))
  unfold cErr
  rw [hm.out] at HB0 HMM ⊢
  generalize mErr s n X = me at *
  obtain ⟨cp, cc, rfl⟩ := hcv.form
  obtain ⟨C, hC⟩ : ∃ C, Hid (cs.length = C) := ⟨_, rfl⟩
  rw [hC.out]
  have HCV := hide hcv
  obtain ⟨d0, d1, d2⟩ := mbox_cells w s n (.slice vp m vc)
  clear hv hcv
  by_cases hz : me = 0
  · subst hz
    rw [if_pos rfl]
    by_cases hcl : C < 1 ∨ 8 < C
    · rw [if_pos hcl]
      go_enter Try.func24, Try.ntmps24
      go_wp2_with fail
      refine HMM.out.mono ?_
      rintro e w1 ⟨rfl, hb1⟩
      have HB1 := hide (HB0.out.trans (hb1.mono HB0.out.size))
      clear hb1 HB0 HMM d0 d1 d2
      by_cases h1 : (C : Int) < 1
      · clear hcl
        go_wp2
        go_ret
        exact ⟨rfl, HB1.out⟩
      · have h2 : 8 < (C : Int) := by omega
        clear hcl
        go_wp2
        go_ret
        exact ⟨rfl, HB1.out⟩
    · rw [if_neg hcl]
      have g3 : ¬ (C : Int) < 1 := by omega
      have g4 : ¬ 8 < (C : Int) := by omega
      have hc2 : 1 ≤ C ∧ C ≤ 8 := by omega
      obtain ⟨b, off, cap, hce, hbl, hcc1, hcc2, hcr⟩ : CallsAt w (.slice cp C cc) cs := by
        rcases HCV.out with ⟨h1, _⟩ | ⟨_, h2⟩
        · exfalso; have := hC.out; rw [h1] at this; simp at this; omega
        · rw [hC.out] at h2; exact h2
      rw [hC.out] at hce hcc1
      simp only [Value.slice.injEq] at hce
      obtain ⟨rfl, _, rfl⟩ := hce
      have HCR := hide hcr
      obtain ⟨E, hE⟩ : ∃ E, Hid (cFst n m [] cs = E) := ⟨_, rfl⟩
      rw [hE.out]
      clear hcr HCV hcl
      go_enter Try.func24, Try.ntmps24
      go_wp2_with fail
      refine HMM.out.mono ?_
      rintro e w1 ⟨rfl, hb1⟩
      have k1 : w1.cell? ⟨w.heap.size, 1, none⟩ = some (.int .i64 n) := by rw [hb1.cell (p := ⟨w.heap.size, 1, none⟩) (by simp)]; exact d1
      have k2 : w1.cell? ⟨w.heap.size, 2, none⟩ = some (.slice vp m vc) := by rw [hb1.cell (p := ⟨w.heap.size, 2, none⟩) (by simp)]; exact d2
      have HB1 := hide (HB0.out.trans (hb1.mono HB0.out.size))
      clear hb1 HB0 HMM d0 d1 d2
      go_wp2
      go_loopw [6] (fun i wr => ∃ k : Nat, k ≤ C ∧ i = .int .i64 k ∧ Hid (E = cFst n m (cs.take k) (cs.drop k)) ∧ Hid (Below w.heap.size w wr) ∧ wr.cell? ⟨w.heap.size, 1, none⟩ = some (.int .i64 n) ∧ wr.cell? ⟨w.heap.size, 2, none⟩ = some (.slice vp m vc)) (fun i _ => C - (intOf i).toNat)
      case atStart => exact ⟨0, by omega, rfl, hE.out.symm, HB1, k1, k2⟩
      case round =>
        clear k1 k2 HB1
        obtain ⟨k, hk, rfl, hEk, hbw, k1, k2⟩ := hrel
        by_cases hlt : k < C
        · have hkc : k < cs.length := by rw [hC.out]; exact hlt
          obtain ⟨u, hcs, hcu, hcI⟩ := HCR.out k hkc
          obtain ⟨up, uc, rfl⟩ := hcI.len
          obtain ⟨Y, hY⟩ : ∃ Y, Hid ((cs.getD k (0, [])).2 = Y) := ⟨_, rfl⟩
          obtain ⟨sg, hsg9⟩ : ∃ sg, Hid ((cs.getD k (0, [])).1 = sg) := ⟨_, rfl⟩
          have HEZ : Hid (oErr n m (cs.take k) (cs.getD k (0, [])) = 0 → E = cFst n m (cs.take (k + 1)) (cs.drop (k + 1))) := fun h => hEk.out.trans (cFst_ok hkc h)
          have HEB : Hid (oErr n m (cs.take k) (cs.getD k (0, [])) ≠ 0 → E = oErr n m (cs.take k) (cs.getD k (0, []))) := fun h => hEk.out.trans (cFst_bad hkc h)
          have HO1 : Hid (sgnR sg = false → oErr n m (cs.take k) (cs.getD k (0, [])) = 4) := fun h => oErr_sign (by rw [hsg9.out]; exact h)
          have HO2 : Hid (sgnR sg = true → (∃ j, j < k ∧ (cs.getD j (0, [])).1 = sg) → oErr n m (cs.take k) (cs.getD k (0, [])) = 8) := fun h h2 => oErr_dbl (by rw [hsg9.out]; exact h) (by rw [hsg9.out]; exact (sign_in (Nat.le_of_lt hkc)).2 h2)
          have HO3 : Hid (sgnR sg = true → (∀ j, j < k → (cs.getD j (0, [])).1 ≠ sg) → m < Y.length → oErr n m (cs.take k) (cs.getD k (0, [])) = 1) := fun h h2 h3 => oErr_few (by rw [hsg9.out]; exact h) (by rw [hsg9.out]; exact fun h9 => by obtain ⟨j, hj, e⟩ := (sign_in (Nat.le_of_lt hkc)).1 h9; exact h2 j hj e) (by rw [hY.out]; exact h3)
          have HO4 : Hid (sgnR sg = true → (∀ j, j < k → (cs.getD j (0, [])).1 ≠ sg) → ¬ m < Y.length → oErr n m (cs.take k) (cs.getD k (0, [])) = fstE n Y) := fun h h2 h3 => by
            rw [oErr_rest (by rw [hsg9.out]; exact h) (by rw [hsg9.out]; exact fun h9 => by obtain ⟨j, hj, e⟩ := (sign_in (Nat.le_of_lt hkc)).1 h9; exact h2 j hj e) (by rw [hY.out]; exact h3), hY.out]
          rw [hY.out] at hcI hcu
          rw [hsg9.out] at hcs
          generalize oErr n m (cs.take k) (cs.getD k (0, [])) = oe at *
          have HYI := hide (fun (W : World) (hW : Below w.heap.size w W) => hcI.below hW)
          obtain ⟨N, hN⟩ : ∃ N, Hid (Y.length = N) := ⟨_, rfl⟩
          rw [hN.out] at hcu HYI HO3 HO4
          have HS := hide (fun W => signMay_any sg W)
          have hcs' := (hbw.out.cell (p := ⟨b, off + k * 2, none⟩) hbl).trans hcs
          clear hcI hY hEk
          cases hsg : sgnR sg with
          | false =>
            rw [hsg] at HS HO1
            have HEN : Hid (E = 4) := by have h9 := HO1.out rfl; rw [← h9]; exact HEB.out (by rw [h9]; decide)
            clear HO1 HO2 HO3 HO4 HEZ HEB hsg
            go_wp2_with fail
            refine (HS.out _).mono ?_
            rintro e w2 ⟨rfl, rfl⟩
            go_wp2
            go_ret
            exact ⟨ret_int HEN.out.symm, hbw.out⟩
          | true =>
            rw [hsg] at HS HO2 HO3 HO4
            clear HO1 hsg
            go_wp2_with fail
            refine (HS.out _).mono ?_
            rintro e w2 ⟨rfl, rfl⟩
            clear hcs'
            go_wp2
            go_loopw [8] (fun i wr => ∃ j : Nat, j ≤ k ∧ i = .int .i64 j ∧ Hid (∀ j', j' < j → (cs.getD j' (0, [])).1 ≠ sg) ∧ Hid (Below w.heap.size w wr) ∧ wr.cell? ⟨w.heap.size, 1, none⟩ = some (.int .i64 n) ∧ wr.cell? ⟨w.heap.size, 2, none⟩ = some (.slice vp m vc)) (fun i _ => k - (intOf i).toNat)
            case atStart => exact ⟨0, by omega, rfl, (fun j hj => absurd hj (by omega)), hbw, k1, k2⟩
            case round =>
              obtain ⟨j, hj, rfl, hNo, hbw2, l1, l2⟩ := hrel
              clear hbw k1 k2
              by_cases hjk : j < k
              · have hjc : j < cs.length := by omega
                obtain ⟨u2, hcs2, _, _⟩ := HCR.out j hjc
                have a1 := (hbw2.out.cell (p := ⟨b, off + j * 2, none⟩) hbl).trans hcs2
                have a2 := (hbw2.out.cell (p := ⟨b, off + k * 2, none⟩) hbl).trans hcs
                by_cases hne : (cs.getD j (0, [])).1 = sg
                · have HEN : Hid (E = 8) := by have h9 := HO2.out (by first | rfl | trivial) ⟨j, hjk, hne⟩; rw [← h9]; exact HEB.out (by rw [h9]; decide)
                  have hb9 : ((cs.getD j (0, [])).1 == sg) = true := by rw [beq_iff_eq]; exact hne
                  clear hne hNo
                  generalize (cs.getD j (0, [])).1 = sj at *
                  go_upto_region 15 with fail
                  go_quiet (fail)
                  have hB3 := hide (below_drewN hbw2.out nq)
                  clear a1 a2 l1 l2 hbw2
                  go_wp2
                  go_ret
                  exact ⟨ret_int HEN.out.symm, hB3.out⟩
                · have HNo2 : Hid (∀ j', j' < j + 1 → (cs.getD j' (0, [])).1 ≠ sg) := fun j' hj' => by
                    rcases Nat.lt_succ_iff_lt_or_eq.1 hj' with h | h
                    · exact hNo.out j' h
                    · rw [h]; exact hne
                  have hb9 : ((cs.getD j (0, [])).1 == sg) = false := by rw [beq_eq_false_iff_ne]; exact hne
                  clear hne hNo
                  generalize (cs.getD j (0, [])).1 = sj at *
                  go_upto_region 15 with fail
                  go_quiet (fail)
                  have hB3 := hide (below_drewN hbw2.out nq)
                  have n1 : (_ : World).cell? ⟨w.heap.size, 1, none⟩ = some (.int .i64 n) := (show (World.drewN _ nq).cell? ⟨w.heap.size, 1, none⟩ = some (.int .i64 n) from l1)
                  have n2 : (_ : World).cell? ⟨w.heap.size, 2, none⟩ = some (.slice vp m vc) := (show (World.drewN _ nq).cell? ⟨w.heap.size, 2, none⟩ = some (.slice vp m vc) from l2)
                  clear a1 a2 l1 l2 hbw2
                  go_wp2
                  go_roundw
                  case rel => exact ⟨j + 1, by omega, by go_num, HNo2, hB3, n1, n2⟩
                  case measure => simp [intOf]; omega
              · obtain rfl : j = k := by omega
                have a3 := (hbw2.out.cell (p := ⟨b, off + j * 2 + 1, none⟩) hbl).trans hcu
                by_cases hmN : m < N
                · have HEN : Hid (E = 1) := by have h9 := HO3.out (by first | rfl | trivial) hNo.out hmN; rw [← h9]; exact HEB.out (by rw [h9]; decide)
                  have g9 : (m : Int) < (N : Int) := by omega
                  clear hNo
                  go_upto_region 17 with fail
                  go_quiet (fail)
                  have hB3 := hide (below_drewN hbw2.out nq)
                  clear a3 l1 l2 hbw2
                  go_wp2
                  go_ret
                  exact ⟨ret_int HEN.out.symm, hB3.out⟩
                · have HOE := hide (HO4.out (by first | rfl | trivial) hNo.out hmN)
                  have g9 : ¬ (m : Int) < (N : Int) := by omega
                  clear hNo HO2 HO3 HO4
                  go_upto_region 17 with fail
                  go_quiet (fail)
                  have hB3 := hide (below_drewN hbw2.out nq)
                  have n1 : (_ : World).cell? ⟨w.heap.size, 1, none⟩ = some (.int .i64 n) := (show (World.drewN _ nq).cell? ⟨w.heap.size, 1, none⟩ = some (.int .i64 n) from l1)
                  have n2 : (_ : World).cell? ⟨w.heap.size, 2, none⟩ = some (.slice vp m vc) := (show (World.drewN _ nq).cell? ⟨w.heap.size, 2, none⟩ = some (.slice vp m vc) from l2)
                  clear a3 l1 l2 hbw2
                  go_wp2
                  go_loopw [9] (fun i wr => ∃ q : Nat, q ≤ N ∧ i = .int .i64 q ∧ Hid (oe = fstE n (Y.drop q)) ∧ Hid (Below w.heap.size w wr) ∧ wr.cell? ⟨w.heap.size, 1, none⟩ = some (.int .i64 n) ∧ wr.cell? ⟨w.heap.size, 2, none⟩ = some (.slice vp m vc)) (fun i _ => N - (intOf i).toNat)
                  case atStart => exact ⟨0, by omega, rfl, HOE, hB3, n1, n2⟩
                  case round =>
                    obtain ⟨q, hq, rfl, hOq, hbw3, l1, l2⟩ := hrel
                    clear hB3 n1 n2
                    have a3 := (hbw3.out.cell (p := ⟨b, off + j * 2 + 1, none⟩) hbl).trans hcu
                    by_cases hqN : q < N
                    · have hqY : q < Y.length := by rw [hN.out]; exact hqN
                      obtain ⟨yb, yo, ycap, hye, hyb, hyc1, hyc2, hycell⟩ := (HYI.out w (Below.refl _ _)).cell (by omega)
                      rw [hN.out] at hye hyc1 hycell
                      injection hye with e1 _ e3
                      subst e1; subst e3
                      obtain ⟨xp, xc, hxc, hxI⟩ := hycell q hqN
                      have a4 := (hbw3.out.cell (p := ⟨yb, yo + q, none⟩) hyb).trans hxc
                      have HC := hide (fun (W : World) (hW : Below w.heap.size w W) => changeMay_all n (.slice xp (Y.getD q []).length xc) (Y.getD q []) W (hxI.out.below hW))
                      have HZ1 : Hid (pc n (Y.getD q []) = 0 → oe = fstE n (Y.drop (q + 1))) := fun hz => hOq.out.trans (fstE_ok hqY hz)
                      have HZ2 : Hid (pc n (Y.getD q []) ≠ 0 → oe = pc n (Y.getD q [])) := fun hz => hOq.out.trans (fstE_bad hqY hz)
                      clear hxc hxI hycell hOq
                      generalize (Y.getD q []).length = pl at *
                      generalize pc n (Y.getD q []) = pe at *
                      have HC2 : ∀ W : World, Below w.heap.size w W → Calls Try.prog 36 #[.int .i64 n, .slice xp pl xc] W fun e w' => e = .returned (.int .i64 pe) ∧ W = w' := HC.out
                      clear HC
                      go_upto_region 22 with fail
                      go_quiet ((go_at_call 36; exact Calls.quiet_of_same ((HC2 _ (below_drewN hbw3.out _)).mono (fun e wq h => ⟨h.1, h.2.symm⟩))))
                      have hB4 := hide (below_drewN hbw3.out nq)
                      have p1 : (_ : World).cell? ⟨w.heap.size, 1, none⟩ = some (.int .i64 n) := (show (World.drewN _ nq).cell? ⟨w.heap.size, 1, none⟩ = some (.int .i64 n) from l1)
                      have p2 : (_ : World).cell? ⟨w.heap.size, 2, none⟩ = some (.slice vp m vc) := (show (World.drewN _ nq).cell? ⟨w.heap.size, 2, none⟩ = some (.slice vp m vc) from l2)
                      clear a3 a4 l1 l2 hbw3 HC2
                      by_cases hpz : pe = 0
                      · have HON := hide (HZ1.out hpz)
                        subst hpz
                        clear HZ1 HZ2
                        go_wp2
                        go_roundw
                        case rel => exact ⟨q + 1, by omega, by go_num, HON, hB4, p1, p2⟩
                        case measure => simp [intOf]; omega
                      · have HON := HZ2.out hpz
                        have HEN : Hid (E = pe) := by rw [← HON]; exact HEB.out (by rw [HON]; exact hpz)
                        have hzz : (pe != 0) = true := by simpa using hpz
                        clear HZ1 HZ2 hpz HON
                        go_wp2
                        go_ret
                        exact ⟨ret_int HEN.out.symm, hB4.out⟩
                    · have hqe : q = N := by omega
                      have HEN := hide (HEZ.out (by rw [hOq.out, List.drop_eq_nil_of_le (by rw [hN.out]; omega)]; rfl))
                      clear hOq HEZ HEB
                      go_wp2
                      go_roundw
                      case rel => exact ⟨j + 1, by omega, by go_num, HEN, hbw3, l1, l2⟩
                      case measure => simp [intOf]; omega
        · obtain rfl : k = C := by omega
          have HEN : Hid (E = 0) := by show E = 0; rw [hEk.out, List.drop_eq_nil_of_le (by rw [hC.out]; exact Nat.le_refl _)]; rfl
          clear hEk
          go_wp2
          go_ret
          exact ⟨ret_int HEN.out.symm, hbw.out⟩
  · rw [if_neg hz]
    have hzz : (me != 0) = true := by simpa using hz
    clear hz
    go_enter Try.func24, Try.ntmps24
    go_wp2_with fail
    refine HMM.out.mono ?_
    rintro e w1 ⟨rfl, hb1⟩
    have HB1 := hide (HB0.out.trans (hb1.mono HB0.out.size))
    clear hb1 HB0 HMM d0 d1 d2
    go_wp2
    go_ret
    exact ⟨rfl, HB1.out⟩

set_option maxHeartbeats 8000000 in
theorem rtmay_all (s : ByteArray) (n : Int) (vp : Option Addr) (vc : Nat) (X : List (List Int)) (cv : Value) (cs : List Cl) (lv : Value) (ls : List Int) (w : World) (hs : s.size ≤ 1048576)
    (hv : IntsAll w (.slice vp X.length vc) X) (hcv : CallsIn w cv cs) (hI : Ints w lv ls) :
    Calls Try.prog 7 #[.agg #[.string s, .int .i64 n, .slice vp X.length vc], cv, lv] w fun e w' => e = .returned (.int .i64 (tErr s n X cs ls)) ∧ Below w.heap.size w w' := by
  have HB0 := hide ((Below.refl w.heap.size w).alloc (Nat.le_refl _) (mbox s n (.slice vp X.length vc)))
  have HCM := hide (rcalls_all s n vp vc X cv cs (w.alloc (mbox s n (.slice vp X.length vc))) hs (hv.below HB0.out) (hcv.below HB0.out))
  have hmul : (ls.length : Int) * (X.length : Int) = ((ls.length * X.length : Nat) : Int) := (Int.natCast_mul _ _).symm
  have HSM : Hid (cErr s n X cs = 0 → X.length ≤ 200) := fun h1 => by
    have a1 : mErr s n X = 0 := by
      unfold cErr at h1
      split at h1
      · assumption
      · rename_i h; exact absurd h1 h
    unfold mErr at a1
    split at a1
    · split at a1
      · cases a1
      · omega
    · cases a1
  obtain ⟨cp, cc, rfl⟩ := hcv.form
  obtain ⟨lp, lc, rfl⟩ := hI.form
  have HI := hide hI
  unfold tErr
  generalize cErr s n X cs = ce at *
  obtain ⟨m, hm⟩ : ∃ m, Hid (X.length = m) := ⟨_, rfl⟩
  obtain ⟨C, hC⟩ : ∃ C, Hid (cs.length = C) := ⟨_, rfl⟩
  obtain ⟨T, hT⟩ : ∃ T, Hid (ls.length = T) := ⟨_, rfl⟩
  rw [hm.out] at HB0 HCM hmul HSM ⊢
  rw [hC.out] at HCM ⊢
  rw [hT.out] at hmul HI ⊢
  obtain ⟨d0, d1, d2⟩ := mbox_cells w s n (.slice vp m vc)
  clear hv hcv hI
  by_cases hz : ce = 0
  · subst hz
    rw [if_pos rfl]
    have hm200 := HSM.out rfl
    unfold lErr
    rw [hT.out]
    by_cases hl : T < 1 ∨ 400 < T
    · rw [if_pos hl, if_neg (by decide)]
      go_enter Try.func7, Try.ntmps7
      go_wp2_with fail
      refine HCM.out.mono ?_
      rintro e w1 ⟨rfl, hb1⟩
      have HB1 := hide (HB0.out.trans (hb1.mono HB0.out.size))
      clear hb1 HB0 HCM d0 d1 d2
      by_cases h1 : (T : Int) < 1
      · clear hl
        go_wp2
        go_ret
        exact ⟨rfl, HB1.out⟩
      · have h2 : 400 < (T : Int) := by omega
        clear hl
        go_wp2
        go_ret
        exact ⟨rfl, HB1.out⟩
    · rw [if_neg hl]
      have g3 : ¬ (T : Int) < 1 := by omega
      have g4 : ¬ 400 < (T : Int) := by omega
      rcases HI.out with ⟨hnil, _⟩ | ⟨b, off, cap, hle, h0, hc, hmx, hb, hcell⟩
      · exfalso; have := hT.out; rw [hnil] at this; simp at this; omega
      rw [hT.out] at hle hc
      simp only [Value.slice.injEq] at hle
      obtain ⟨rfl, _, rfl⟩ := hle
      have HC := hide hcell
      have hTm : T * m ≤ 400 * 200 := Nat.mul_le_mul (by omega) hm200
      generalize T * m = tm at *
      obtain ⟨E, hE⟩ : ∃ E : Int, Hid ((if (if ∀ l, l ∈ ls → 0 ≤ l ∧ l < (C : Int) then (0 : Int) else 12) = 0 then (if 20000 < tm then 3 else 0) else (if ∀ l, l ∈ ls → 0 ≤ l ∧ l < (C : Int) then (0 : Int) else 12)) = E) := ⟨_, rfl⟩
      rw [hE.out]
      clear hl hcell HI
      go_enter Try.func7, Try.ntmps7
      go_wp2_with fail
      refine HCM.out.mono ?_
      rintro e w1 ⟨rfl, hb1⟩
      have k2 : w1.cell? ⟨w.heap.size, 2, none⟩ = some (.slice vp m vc) := by rw [hb1.cell (p := ⟨w.heap.size, 2, none⟩) (by simp)]; exact d2
      have HB1 := hide (HB0.out.trans (hb1.mono HB0.out.size))
      clear hb1 HB0 HCM d0 d1 d2
      go_wp2
      go_loop [8] (fun i => ∃ k : Nat, k ≤ T ∧ i = .int .i64 k ∧ Hid (∀ j, j < k → 0 ≤ ls.getD j 0 ∧ ls.getD j 0 < (C : Int))) (fun i => T - (intOf i).toNat)
      case atStart => exact ⟨0, by omega, rfl, (fun j hj => absurd hj (by omega))⟩
      case round =>
        obtain ⟨k, hk, rfl, hA⟩ := hrel
        by_cases hlt : k < T
        · have hkl : k < ls.length := by rw [hT.out]; exact hlt
          obtain ⟨y, hy, hcx⟩ := cellAt HC.out hkl
          have gx := (HB1.out.cell (p := ⟨b, off + k, none⟩) (by exact hb)).trans hcx
          have hyk : ls.getD k 0 = y := hy.out
          have hym : y ∈ ls := by
            rw [← hyk, List.getD, List.getElem?_eq_getElem hkl, Option.getD_some]
            exact List.getElem_mem _
          by_cases hyb : 0 ≤ y ∧ y < (C : Int)
          · have HA2 : Hid (∀ j, j < k + 1 → 0 ≤ ls.getD j 0 ∧ ls.getD j 0 < (C : Int)) := fun j hj => by
              rcases Nat.lt_succ_iff_lt_or_eq.1 hj with h | h
              · exact hA.out j h
              · rw [h, hyk]; exact hyb
            have g5 : ¬ y < 0 := by omega
            have g6 : ¬ (C : Int) ≤ y := by omega
            clear hy hym hyk hyb hA hcx
            go_wp2
            go_round
            case rel => exact ⟨k + 1, by omega, by go_num, HA2⟩
            case measure => simp [intOf]; omega
          · have hneg : ¬ ∀ l, l ∈ ls → 0 ≤ l ∧ l < (C : Int) := fun h => hyb (h y hym)
            have HEN : Hid (E = 12) := by show E = 12; rw [← hE.out, if_neg hneg, if_neg (by decide)]
            clear hneg
            by_cases g5 : y < 0
            · clear hy hym hyk hyb hA hcx
              go_wp2
              go_ret
              exact ⟨ret_int HEN.out.symm, HB1.out⟩
            · have g6 : (C : Int) ≤ y := by omega
              clear hy hym hyk hyb hA hcx
              go_wp2
              go_ret
              exact ⟨ret_int HEN.out.symm, HB1.out⟩
        · obtain rfl : k = T := by omega
          have HAL : Hid (∀ l, l ∈ ls → 0 ≤ l ∧ l < (C : Int)) := by
            intro l hl
            obtain ⟨j, hj, e⟩ := List.getElem_of_mem hl
            have := hA.out j (by rw [hT.out] at hj; exact hj)
            rw [List.getD, List.getElem?_eq_getElem hj, Option.getD_some, e] at this
            exact this
          by_cases h20 : 20000 < tm
          · have HEN : Hid (E = 3) := by show E = 3; rw [← hE.out, if_pos HAL.out, if_pos rfl, if_pos h20]
            have g7 : 20000 < (tm : Int) := by omega
            clear hA HAL
            go_wp2
            go_ret
            exact ⟨ret_int HEN.out.symm, HB1.out⟩
          · have HEN : Hid (E = 0) := by show E = 0; rw [← hE.out, if_pos HAL.out, if_pos rfl, if_neg h20]
            have g7 : ¬ 20000 < (tm : Int) := by omega
            clear hA HAL
            go_wp2
            go_ret
            exact ⟨ret_int HEN.out.symm, HB1.out⟩
  · rw [if_neg hz]
    have hzz : (ce != 0) = true := by simpa using hz
    clear hz HSM
    go_enter Try.func7, Try.ntmps7
    go_wp2_with fail
    refine HCM.out.mono ?_
    rintro e w1 ⟨rfl, hb1⟩
    have HB1 := hide (HB0.out.trans (hb1.mono HB0.out.size))
    clear hb1 HB0 HCM d0 d1 d2
    go_wp2
    go_ret
    exact ⟨rfl, HB1.out⟩

end Go.Proofs.Ytoiiadiimfohiaa

/- Plain: methods and calls in which nothing is wrong. -/
namespace Go.Proofs.Ytoiiadiimfohiaa
open Go.RowKit
set_option maxRecDepth 20000
set_option linter.unusedVariables false

def NoRows (er : Int) (w : World) (e : Ending) (w' : World) : Prop := e = .returned (.tuple #[.slice none 0 0, .int .i64 er]) ∧ Below w.heap.size w w'

theorem mem_getDq {α : Type} {l : List α} {q : Nat} {d : α} (h : q < l.length) : l.getD q d ∈ l := by
  rw [List.getD, List.getElem?_eq_getElem h, Option.getD_some]; exact List.getElem_mem h

theorem okc_of {n : Int} {x : List Int} (h1 : 1 ≤ n) (h2 : n ≤ 12) (h : pc n x = 0) : okc n 0 x = true := by
  unfold pc at h
  rw [if_pos ⟨h1, h2⟩] at h
  unfold pck at h
  split at h
  · assumption
  · cases h

theorem tiles_in {n : Nat} {X : List (List Int)} (h1 : 1 ≤ n) (h2 : n ≤ 12) (h : fstE (n : Int) X = 0) : ∃ ss : List (List Bool), X = ss.map tpl ∧ ∀ t, t ∈ ss → tsz t = n :=
  tiles_of X (fun j hj => okc_of (by omega) (by omega) (fstE_zero h _ (by simp [List.getD, hj])))

/-- A method in which nothing is wrong. -/
theorem mErr_zero {s : ByteArray} {n : Int} {X : List (List Int)} (h : mErr s n X = 0) : ∃ (N : Nat) (ts : List (List Bool)), n = (N : Int) ∧ X = ts.map tpl ∧ nm s = true ∧ 2 ≤ N ∧ N ≤ 12 ∧ 1 ≤ ts.length ∧ ts.length ≤ 200 ∧ ∀ t, t ∈ ts → tsz t = N := by
  unfold mErr at h
  split at h
  · rename_i hn
    split at h
    · cases h
    · rename_i hc
      obtain ⟨N, rfl⟩ : ∃ N : Nat, n = (N : Int) := ⟨n.toNat, by omega⟩
      obtain ⟨ts, h3, h4⟩ := tiles_in (by omega) (by omega) h
      have hl : X.length = ts.length := by rw [h3, List.length_map]
      exact ⟨N, ts, rfl, h3, hn, by omega, by omega, by omega, by omega, h4⟩
  · cases h

theorem oErr_zero {n : Int} {K : Nat} {ah : List Cl} {c : Cl} (h : oErr n K ah c = 0) : sgnR c.1 = true ∧ c.1 ∉ ah.map Prod.fst ∧ c.2.length ≤ K ∧ fstE n c.2 = 0 := by
  unfold oErr at h
  split at h
  · rename_i h1
    split at h
    · cases h
    · rename_i h2
      split at h
      · cases h
      · rename_i h3; exact ⟨h1, h2, by omega, h⟩
  · cases h

theorem cFst_zero {n : Int} {K : Nat} {cs : List Cl} : ∀ m j, cs.length - j = m → cFst n K (cs.take j) (cs.drop j) = 0 → ∀ i, j ≤ i → i < cs.length → oErr n K (cs.take i) (cs.getD i (0, [])) = 0
  | 0, j, hm, _, i, h1, h2 => by omega
  | m + 1, j, hm, h, i, h1, h2 => by
    have hj : j < cs.length := by omega
    by_cases hz : oErr n K (cs.take j) (cs.getD j (0, [])) = 0
    · rcases Nat.lt_or_ge j i with h3 | h3
      · rw [cFst_ok hj hz] at h
        exact cFst_zero m (j + 1) (by omega) h i h3 h2
      · obtain rfl : i = j := by omega
        exact hz
    · rw [cFst_bad hj hz] at h
      exact absurd h hz

theorem tiles_cs {n : Nat} : ∀ (cs : List Cl), (∀ c, c ∈ cs → ∃ ss : List (List Bool), c.2 = ss.map tpl ∧ ∀ t, t ∈ ss → tsz t = n) → ∃ SS : List (List (List Bool)), SS.length = cs.length ∧ ∀ c, c < cs.length → (cs.getD c (0, [])).2 = (SS.getD c []).map tpl ∧ ∀ t, t ∈ SS.getD c [] → tsz t = n
  | [], _ => ⟨[], rfl, fun c hc => absurd hc (by simp)⟩
  | a :: cs, h => by
    obtain ⟨SS, h1, h2⟩ := tiles_cs cs (fun c hc => h c (List.mem_cons_of_mem _ hc))
    obtain ⟨ss, h3, h4⟩ := h a List.mem_cons_self
    refine ⟨ss :: SS, by simp [h1], fun c hc => ?_⟩
    cases c with
    | zero => exact ⟨h3, h4⟩
    | succ c => exact h2 c (by simpa using hc)

/-- Calls in which nothing is wrong. -/
theorem cErr_zero {s : ByteArray} {n : Int} {X : List (List Int)} {cs : List Cl} (h : cErr s n X cs = 0) : mErr s n X = 0 ∧ 1 ≤ cs.length ∧ cs.length ≤ 8 ∧ ∀ i, i < cs.length → oErr n X.length (cs.take i) (cs.getD i (0, [])) = 0 := by
  unfold cErr at h
  split at h
  · rename_i h1
    split at h
    · cases h
    · rename_i h2
      exact ⟨h1, by omega, by omega, fun i hi => cFst_zero cs.length 0 (by omega) h i (by omega) hi⟩
  · rename_i h1; exact absurd h h1

theorem calls_good {n : Nat} {K : Nat} {cs : List Cl} (h1 : 1 ≤ n) (h2 : n ≤ 12) (h : ∀ i, i < cs.length → oErr (n : Int) K (cs.take i) (cs.getD i (0, [])) = 0) :
    CallsOk (n : Int) K cs ∧ ∃ SS : List (List (List Bool)), ∀ c, c < cs.length → (cs.getD c (0, [])).2 = (SS.getD c []).map tpl ∧ (∀ t, t ∈ SS.getD c [] → tsz t = n) ∧ (SS.getD c []).length ≤ K := by
  have hz := fun i hi => oErr_zero (h i hi)
  refine ⟨⟨fun j hj => (hz j hj).1, fun i j hij hj e => (hz j hj).2.1 ((sign_in (Nat.le_of_lt hj)).2 ⟨i, hij, e⟩), fun j hj => (hz j hj).2.2.1, fun j hj q hq => okc_of (by omega) (by omega) (fstE_zero (hz j hj).2.2.2 _ (mem_getDq hq))⟩, ?_⟩
  obtain ⟨SS, h3, h4⟩ := tiles_cs (n := n) cs (fun c hc => by
    obtain ⟨j, hj, e⟩ := List.getElem_of_mem hc
    have h9 := (hz j hj).2.2.2
    have e2 : cs.getD j (0, []) = c := by rw [List.getD, List.getElem?_eq_getElem hj, Option.getD_some, e]
    rw [e2] at h9
    exact tiles_in h1 h2 h9)
  refine ⟨SS, fun c hc => ⟨(h4 c hc).1, (h4 c hc).2, ?_⟩⟩
  have := (hz c hc).2.2.1
  rw [(h4 c hc).1, List.length_map] at this
  exact this

end Go.Proofs.Ytoiiadiimfohiaa

/- The law SearchSays. -/
namespace Go.Proofs.Ytoiiadiimfohiaa
open Go.RowKit
set_option maxRecDepth 20000
set_option linter.unusedVariables false

/-- What is wrong with a search. -/
def sErr (s : ByteArray) (n : Int) (X : List (List Int)) (cs : List Cl) (a b : Int) : Int :=
  if cErr s n X cs = 0 then (if a < 1 ∨ 24 < a ∨ b < 1 ∨ 50 < b then 1 else 0) else cErr s n X cs

set_option maxHeartbeats 4000000 in
theorem touches_bad (s : ByteArray) (n : Int) (vp : Option Addr) (vc : Nat) (X : List (List Int)) (cp : Option Addr) (cc : Nat) (cs : List Cl) (a b : Int) (w : World) (hs : s.size ≤ 1048576)
    (hv : IntsAll w (.slice vp X.length vc) X) (hcv : CallsIn w (.slice cp cs.length cc) cs) (hz : sErr s n X cs a b ≠ 0) :
    Calls Try.prog 22 #[.agg #[.string s, .int .i64 n, .slice vp X.length vc], .slice cp cs.length cc, .int .i64 a, .int .i64 b] w (NoRows (sErr s n X cs a b) w) := by
  have hB0 : Below w.heap.size w (w.alloc (mbox s n (.slice vp X.length vc))) := (Below.refl _ _).alloc (Nat.le_refl _) _
  have HCK := hide (ccheck_all s n vp vc X (.slice cp cs.length cc) cs (w.alloc (mbox s n (.slice vp X.length vc))) (Nat.le_trans hs (by omega)) (hv.below hB0) (hcv.below hB0))
  unfold sErr at hz ⊢
  unfold meth at HCK
  generalize cErr s n X cs = ce at *
  clear hv hcv
  generalize X.length = K at *
  generalize cs.length = C at *
  by_cases hc : ce = 0
  · subst hc
    rw [if_pos rfl] at hz ⊢
    by_cases hr : a < 1 ∨ 24 < a ∨ b < 1 ∨ 50 < b
    · rw [if_pos hr]
      clear hz
      go_enter Try.func22, Try.ntmps22
      go_wp2_with fail
      refine HCK.out.mono ?_
      rintro e w1 ⟨rfl, hb1⟩
      have HB1 := hide (hB0.trans (hb1.mono hB0.size))
      clear hb1 HCK hB0
      by_cases h1 : a < 1
      · clear hr
        go_wp2
        go_ret2
        exact ⟨rfl, HB1.out⟩
      · by_cases h2 : 24 < a
        · clear hr
          go_wp2
          go_ret2
          exact ⟨rfl, HB1.out⟩
        · by_cases h3 : b < 1
          · clear hr
            go_wp2
            go_ret2
            exact ⟨rfl, HB1.out⟩
          · have h4 : 50 < b := by omega
            clear hr
            go_wp2
            go_ret2
            exact ⟨rfl, HB1.out⟩
    · rw [if_neg hr] at hz
      exact absurd rfl hz
  · rw [if_neg hc] at hz ⊢
    have hzz : (ce != 0) = true := by simpa using hc
    clear hc hz
    go_enter Try.func22, Try.ntmps22
    go_wp2_with fail
    refine HCK.out.mono ?_
    rintro e w1 ⟨rfl, hb1⟩
    have HB1 := hide (hB0.trans (hb1.mono hB0.size))
    clear hb1 HCK hB0
    go_wp2
    go_ret2
    exact ⟨rfl, HB1.out⟩

set_option maxHeartbeats 4000000 in
theorem rtouches_bad (s : ByteArray) (n : Int) (vp : Option Addr) (vc : Nat) (X : List (List Int)) (cp : Option Addr) (cc : Nat) (cs : List Cl) (a b : Int) (w : World) (hs : s.size ≤ 1048576)
    (hv : IntsAll w (.slice vp X.length vc) X) (hcv : CallsIn w (.slice cp cs.length cc) cs) (hz : sErr s n X cs a b ≠ 0) :
    Calls Try.prog 23 #[.agg #[.string s, .int .i64 n, .slice vp X.length vc], .slice cp cs.length cc, .int .i64 a, .int .i64 b] w (NoRows (sErr s n X cs a b) w) := by
  have hB0 : Below w.heap.size w (w.alloc (mbox s n (.slice vp X.length vc))) := (Below.refl _ _).alloc (Nat.le_refl _) _
  have HCK := hide (rcalls_all s n vp vc X (.slice cp cs.length cc) cs (w.alloc (mbox s n (.slice vp X.length vc))) hs (hv.below hB0) (hcv.below hB0))
  unfold sErr at hz ⊢
  skip
  generalize cErr s n X cs = ce at *
  clear hv hcv
  generalize X.length = K at *
  generalize cs.length = C at *
  by_cases hc : ce = 0
  · subst hc
    rw [if_pos rfl] at hz ⊢
    by_cases hr : a < 1 ∨ 24 < a ∨ b < 1 ∨ 50 < b
    · rw [if_pos hr]
      clear hz
      go_enter Try.func23, Try.ntmps23
      go_wp2_with fail
      refine HCK.out.mono ?_
      rintro e w1 ⟨rfl, hb1⟩
      have HB1 := hide (hB0.trans (hb1.mono hB0.size))
      clear hb1 HCK hB0
      by_cases h1 : a < 1
      · clear hr
        go_wp2
        go_ret2
        exact ⟨rfl, HB1.out⟩
      · by_cases h2 : 24 < a
        · clear hr
          go_wp2
          go_ret2
          exact ⟨rfl, HB1.out⟩
        · by_cases h3 : b < 1
          · clear hr
            go_wp2
            go_ret2
            exact ⟨rfl, HB1.out⟩
          · have h4 : 50 < b := by omega
            clear hr
            go_wp2
            go_ret2
            exact ⟨rfl, HB1.out⟩
    · rw [if_neg hr] at hz
      exact absurd rfl hz
  · rw [if_neg hc] at hz ⊢
    have hzz : (ce != 0) = true := by simpa using hc
    clear hc hz
    go_enter Try.func23, Try.ntmps23
    go_wp2_with fail
    refine HCK.out.mono ?_
    rintro e w1 ⟨rfl, hb1⟩
    have HB1 := hide (hB0.trans (hb1.mono hB0.size))
    clear hb1 HCK hB0
    go_wp2
    go_ret2
    exact ⟨rfl, HB1.out⟩

set_option maxHeartbeats 4000000 in
theorem searchSays_aaa (s : ByteArray) (n : Int) (vp : Option Addr) (vc : Nat) (X : List (List Int)) (cp : Option Addr) (cc : Nat) (cs : List Cl) (a b : Int) (w : World) (hs : s.size ≤ 1048576)
    (hv : IntsAll w (.slice vp X.length vc) X) (hcv : CallsIn w (.slice cp cs.length cc) cs) (hz : sErr s n X cs a b ≠ 0) (gK : ¬ 40 < (X.length : Int)) (gA : ¬ 5 < a) (gC : ¬ 3 < (cs.length : Int)) :
    Calls Try.prog 5 #[.agg #[.string s, .int .i64 n, .slice vp X.length vc], .slice cp cs.length cc, .int .i64 a, .int .i64 b] w fun e w' => e = .returned (.bool true) ∧ Below w.heap.size w w' := by
  have HA := hide (fun W (hW : Below w.heap.size w W) => touches_bad s n vp vc X cp cc cs a b W hs (hv.below hW) (hcv.below hW) hz)
  have HR := hide (fun W (hW : Below w.heap.size w W) => rtouches_bad s n vp vc X cp cc cs a b W hs (hv.below hW) (hcv.below hW) hz)
  unfold NoRows at HA HR
  generalize sErr s n X cs a b = er at *
  have hee : (er == er) = true := by simp
  clear hz hv hcv
  generalize X.length = K at *
  generalize cs.length = C at *
  have HB0 := hide ((Below.refl w.heap.size w).alloc (Nat.le_refl _) (mbox s n (.slice vp K vc)))
  obtain ⟨d0, d1, d2⟩ := mbox_cells w s n (.slice vp K vc)
  go_enter Try.func5, Try.ntmps5
  go_wp2_with fail
  refine (HA.out _ HB0.out).mono ?_
  rintro e w1 ⟨rfl, hb1⟩
  have k0 : w1.cell? ⟨w.heap.size, 0, none⟩ = some (.string s) := by rw [hb1.cell (p := ⟨w.heap.size, 0, none⟩) (by simp)]; exact d0
  have k1 : w1.cell? ⟨w.heap.size, 1, none⟩ = some (.int .i64 n) := by rw [hb1.cell (p := ⟨w.heap.size, 1, none⟩) (by simp)]; exact d1
  have k2 : w1.cell? ⟨w.heap.size, 2, none⟩ = some (.slice vp K vc) := by rw [hb1.cell (p := ⟨w.heap.size, 2, none⟩) (by simp)]; exact d2
  have HB1 := hide (HB0.out.trans (hb1.mono HB0.out.size))
  have HC2 := hide (HR.out w1 HB1.out)
  clear hb1 HB0 HA HR d0 d1 d2
  go_wp2_with fail
  refine HC2.out.mono ?_
  rintro e w2 ⟨rfl, hb2⟩
  have HB2 := hide (HB1.out.trans (hb2.mono HB1.out.size))
  have HSA : Hid (Calls Try.prog 14 #[.slice none 0 0, .slice none 0 0] w2 fun e w' => e = .returned (.bool true) ∧ Below w2.heap.size w2 w') := (sameAll_any (.slice none 0 0) (.slice none 0 0) [] [] w2 ⟨[], Or.inl ⟨rfl, _, _, rfl⟩, rfl, fun j hj => absurd hj (by simp)⟩ ⟨[], Or.inl ⟨rfl, _, _, rfl⟩, rfl, fun j hj => absurd hj (by simp)⟩).mono (fun e w' h => ⟨h.1.trans (by simp), h.2⟩)
  clear hb2 HB1 HC2 k0 k1 k2
  go_wp2_with fail
  refine HSA.out.mono ?_
  rintro e w3 ⟨rfl, hb3⟩
  have HB3 := hide (HB2.out.trans (hb3.mono HB2.out.size))
  clear hb3 HB2 HSA
  go_wp2
  go_ret
  exact ⟨rfl, HB3.out⟩

set_option maxHeartbeats 4000000 in
theorem searchSays_aab (s : ByteArray) (n : Int) (vp : Option Addr) (vc : Nat) (X : List (List Int)) (cp : Option Addr) (cc : Nat) (cs : List Cl) (a b : Int) (w : World) (hs : s.size ≤ 1048576)
    (hv : IntsAll w (.slice vp X.length vc) X) (hcv : CallsIn w (.slice cp cs.length cc) cs) (hz : sErr s n X cs a b ≠ 0) (gK : ¬ 40 < (X.length : Int)) (gA : ¬ 5 < a) (gC : 3 < (cs.length : Int)) (gC2 : ¬ (cs.length : Int) < 9) :
    Calls Try.prog 5 #[.agg #[.string s, .int .i64 n, .slice vp X.length vc], .slice cp cs.length cc, .int .i64 a, .int .i64 b] w fun e w' => e = .returned (.bool true) ∧ Below w.heap.size w w' := by
  have HA := hide (fun W (hW : Below w.heap.size w W) => touches_bad s n vp vc X cp cc cs a b W hs (hv.below hW) (hcv.below hW) hz)
  have HR := hide (fun W (hW : Below w.heap.size w W) => rtouches_bad s n vp vc X cp cc cs a b W hs (hv.below hW) (hcv.below hW) hz)
  unfold NoRows at HA HR
  generalize sErr s n X cs a b = er at *
  have hee : (er == er) = true := by simp
  clear hz hv hcv
  generalize X.length = K at *
  generalize cs.length = C at *
  have HB0 := hide ((Below.refl w.heap.size w).alloc (Nat.le_refl _) (mbox s n (.slice vp K vc)))
  obtain ⟨d0, d1, d2⟩ := mbox_cells w s n (.slice vp K vc)
  go_enter Try.func5, Try.ntmps5
  go_wp2_with fail
  refine (HA.out _ HB0.out).mono ?_
  rintro e w1 ⟨rfl, hb1⟩
  have k0 : w1.cell? ⟨w.heap.size, 0, none⟩ = some (.string s) := by rw [hb1.cell (p := ⟨w.heap.size, 0, none⟩) (by simp)]; exact d0
  have k1 : w1.cell? ⟨w.heap.size, 1, none⟩ = some (.int .i64 n) := by rw [hb1.cell (p := ⟨w.heap.size, 1, none⟩) (by simp)]; exact d1
  have k2 : w1.cell? ⟨w.heap.size, 2, none⟩ = some (.slice vp K vc) := by rw [hb1.cell (p := ⟨w.heap.size, 2, none⟩) (by simp)]; exact d2
  have HB1 := hide (HB0.out.trans (hb1.mono HB0.out.size))
  have HC2 := hide (HR.out w1 HB1.out)
  clear hb1 HB0 HA HR d0 d1 d2
  go_wp2_with fail
  refine HC2.out.mono ?_
  rintro e w2 ⟨rfl, hb2⟩
  have HB2 := hide (HB1.out.trans (hb2.mono HB1.out.size))
  have HSA : Hid (Calls Try.prog 14 #[.slice none 0 0, .slice none 0 0] w2 fun e w' => e = .returned (.bool true) ∧ Below w2.heap.size w2 w') := (sameAll_any (.slice none 0 0) (.slice none 0 0) [] [] w2 ⟨[], Or.inl ⟨rfl, _, _, rfl⟩, rfl, fun j hj => absurd hj (by simp)⟩ ⟨[], Or.inl ⟨rfl, _, _, rfl⟩, rfl, fun j hj => absurd hj (by simp)⟩).mono (fun e w' h => ⟨h.1.trans (by simp), h.2⟩)
  clear hb2 HB1 HC2 k0 k1 k2
  go_wp2_with fail
  refine HSA.out.mono ?_
  rintro e w3 ⟨rfl, hb3⟩
  have HB3 := hide (HB2.out.trans (hb3.mono HB2.out.size))
  clear hb3 HB2 HSA
  go_wp2
  go_ret
  exact ⟨rfl, HB3.out⟩

set_option maxHeartbeats 4000000 in
theorem searchSays_aba (s : ByteArray) (n : Int) (vp : Option Addr) (vc : Nat) (X : List (List Int)) (cp : Option Addr) (cc : Nat) (cs : List Cl) (a b : Int) (w : World) (hs : s.size ≤ 1048576)
    (hv : IntsAll w (.slice vp X.length vc) X) (hcv : CallsIn w (.slice cp cs.length cc) cs) (hz : sErr s n X cs a b ≠ 0) (gK : ¬ 40 < (X.length : Int)) (gA : 5 < a) (gA2 : ¬ a < 25) (gC : ¬ 3 < (cs.length : Int)) :
    Calls Try.prog 5 #[.agg #[.string s, .int .i64 n, .slice vp X.length vc], .slice cp cs.length cc, .int .i64 a, .int .i64 b] w fun e w' => e = .returned (.bool true) ∧ Below w.heap.size w w' := by
  have HA := hide (fun W (hW : Below w.heap.size w W) => touches_bad s n vp vc X cp cc cs a b W hs (hv.below hW) (hcv.below hW) hz)
  have HR := hide (fun W (hW : Below w.heap.size w W) => rtouches_bad s n vp vc X cp cc cs a b W hs (hv.below hW) (hcv.below hW) hz)
  unfold NoRows at HA HR
  generalize sErr s n X cs a b = er at *
  have hee : (er == er) = true := by simp
  clear hz hv hcv
  generalize X.length = K at *
  generalize cs.length = C at *
  have HB0 := hide ((Below.refl w.heap.size w).alloc (Nat.le_refl _) (mbox s n (.slice vp K vc)))
  obtain ⟨d0, d1, d2⟩ := mbox_cells w s n (.slice vp K vc)
  go_enter Try.func5, Try.ntmps5
  go_wp2_with fail
  refine (HA.out _ HB0.out).mono ?_
  rintro e w1 ⟨rfl, hb1⟩
  have k0 : w1.cell? ⟨w.heap.size, 0, none⟩ = some (.string s) := by rw [hb1.cell (p := ⟨w.heap.size, 0, none⟩) (by simp)]; exact d0
  have k1 : w1.cell? ⟨w.heap.size, 1, none⟩ = some (.int .i64 n) := by rw [hb1.cell (p := ⟨w.heap.size, 1, none⟩) (by simp)]; exact d1
  have k2 : w1.cell? ⟨w.heap.size, 2, none⟩ = some (.slice vp K vc) := by rw [hb1.cell (p := ⟨w.heap.size, 2, none⟩) (by simp)]; exact d2
  have HB1 := hide (HB0.out.trans (hb1.mono HB0.out.size))
  have HC2 := hide (HR.out w1 HB1.out)
  clear hb1 HB0 HA HR d0 d1 d2
  go_wp2_with fail
  refine HC2.out.mono ?_
  rintro e w2 ⟨rfl, hb2⟩
  have HB2 := hide (HB1.out.trans (hb2.mono HB1.out.size))
  have HSA : Hid (Calls Try.prog 14 #[.slice none 0 0, .slice none 0 0] w2 fun e w' => e = .returned (.bool true) ∧ Below w2.heap.size w2 w') := (sameAll_any (.slice none 0 0) (.slice none 0 0) [] [] w2 ⟨[], Or.inl ⟨rfl, _, _, rfl⟩, rfl, fun j hj => absurd hj (by simp)⟩ ⟨[], Or.inl ⟨rfl, _, _, rfl⟩, rfl, fun j hj => absurd hj (by simp)⟩).mono (fun e w' h => ⟨h.1.trans (by simp), h.2⟩)
  clear hb2 HB1 HC2 k0 k1 k2
  go_wp2_with fail
  refine HSA.out.mono ?_
  rintro e w3 ⟨rfl, hb3⟩
  have HB3 := hide (HB2.out.trans (hb3.mono HB2.out.size))
  clear hb3 HB2 HSA
  go_wp2
  go_ret
  exact ⟨rfl, HB3.out⟩

set_option maxHeartbeats 4000000 in
theorem searchSays_abb (s : ByteArray) (n : Int) (vp : Option Addr) (vc : Nat) (X : List (List Int)) (cp : Option Addr) (cc : Nat) (cs : List Cl) (a b : Int) (w : World) (hs : s.size ≤ 1048576)
    (hv : IntsAll w (.slice vp X.length vc) X) (hcv : CallsIn w (.slice cp cs.length cc) cs) (hz : sErr s n X cs a b ≠ 0) (gK : ¬ 40 < (X.length : Int)) (gA : 5 < a) (gA2 : ¬ a < 25) (gC : 3 < (cs.length : Int)) (gC2 : ¬ (cs.length : Int) < 9) :
    Calls Try.prog 5 #[.agg #[.string s, .int .i64 n, .slice vp X.length vc], .slice cp cs.length cc, .int .i64 a, .int .i64 b] w fun e w' => e = .returned (.bool true) ∧ Below w.heap.size w w' := by
  have HA := hide (fun W (hW : Below w.heap.size w W) => touches_bad s n vp vc X cp cc cs a b W hs (hv.below hW) (hcv.below hW) hz)
  have HR := hide (fun W (hW : Below w.heap.size w W) => rtouches_bad s n vp vc X cp cc cs a b W hs (hv.below hW) (hcv.below hW) hz)
  unfold NoRows at HA HR
  generalize sErr s n X cs a b = er at *
  have hee : (er == er) = true := by simp
  clear hz hv hcv
  generalize X.length = K at *
  generalize cs.length = C at *
  have HB0 := hide ((Below.refl w.heap.size w).alloc (Nat.le_refl _) (mbox s n (.slice vp K vc)))
  obtain ⟨d0, d1, d2⟩ := mbox_cells w s n (.slice vp K vc)
  go_enter Try.func5, Try.ntmps5
  go_wp2_with fail
  refine (HA.out _ HB0.out).mono ?_
  rintro e w1 ⟨rfl, hb1⟩
  have k0 : w1.cell? ⟨w.heap.size, 0, none⟩ = some (.string s) := by rw [hb1.cell (p := ⟨w.heap.size, 0, none⟩) (by simp)]; exact d0
  have k1 : w1.cell? ⟨w.heap.size, 1, none⟩ = some (.int .i64 n) := by rw [hb1.cell (p := ⟨w.heap.size, 1, none⟩) (by simp)]; exact d1
  have k2 : w1.cell? ⟨w.heap.size, 2, none⟩ = some (.slice vp K vc) := by rw [hb1.cell (p := ⟨w.heap.size, 2, none⟩) (by simp)]; exact d2
  have HB1 := hide (HB0.out.trans (hb1.mono HB0.out.size))
  have HC2 := hide (HR.out w1 HB1.out)
  clear hb1 HB0 HA HR d0 d1 d2
  go_wp2_with fail
  refine HC2.out.mono ?_
  rintro e w2 ⟨rfl, hb2⟩
  have HB2 := hide (HB1.out.trans (hb2.mono HB1.out.size))
  have HSA : Hid (Calls Try.prog 14 #[.slice none 0 0, .slice none 0 0] w2 fun e w' => e = .returned (.bool true) ∧ Below w2.heap.size w2 w') := (sameAll_any (.slice none 0 0) (.slice none 0 0) [] [] w2 ⟨[], Or.inl ⟨rfl, _, _, rfl⟩, rfl, fun j hj => absurd hj (by simp)⟩ ⟨[], Or.inl ⟨rfl, _, _, rfl⟩, rfl, fun j hj => absurd hj (by simp)⟩).mono (fun e w' h => ⟨h.1.trans (by simp), h.2⟩)
  clear hb2 HB1 HC2 k0 k1 k2
  go_wp2_with fail
  refine HSA.out.mono ?_
  rintro e w3 ⟨rfl, hb3⟩
  have HB3 := hide (HB2.out.trans (hb3.mono HB2.out.size))
  clear hb3 HB2 HSA
  go_wp2
  go_ret
  exact ⟨rfl, HB3.out⟩

set_option maxHeartbeats 4000000 in
theorem searchSays_baa (s : ByteArray) (n : Int) (vp : Option Addr) (vc : Nat) (X : List (List Int)) (cp : Option Addr) (cc : Nat) (cs : List Cl) (a b : Int) (w : World) (hs : s.size ≤ 1048576)
    (hv : IntsAll w (.slice vp X.length vc) X) (hcv : CallsIn w (.slice cp cs.length cc) cs) (hz : sErr s n X cs a b ≠ 0) (gK : 40 < (X.length : Int)) (gK2 : ¬ (X.length : Int) < 201) (gA : ¬ 5 < a) (gC : ¬ 3 < (cs.length : Int)) :
    Calls Try.prog 5 #[.agg #[.string s, .int .i64 n, .slice vp X.length vc], .slice cp cs.length cc, .int .i64 a, .int .i64 b] w fun e w' => e = .returned (.bool true) ∧ Below w.heap.size w w' := by
  have HA := hide (fun W (hW : Below w.heap.size w W) => touches_bad s n vp vc X cp cc cs a b W hs (hv.below hW) (hcv.below hW) hz)
  have HR := hide (fun W (hW : Below w.heap.size w W) => rtouches_bad s n vp vc X cp cc cs a b W hs (hv.below hW) (hcv.below hW) hz)
  unfold NoRows at HA HR
  generalize sErr s n X cs a b = er at *
  have hee : (er == er) = true := by simp
  clear hz hv hcv
  generalize X.length = K at *
  generalize cs.length = C at *
  have HB0 := hide ((Below.refl w.heap.size w).alloc (Nat.le_refl _) (mbox s n (.slice vp K vc)))
  obtain ⟨d0, d1, d2⟩ := mbox_cells w s n (.slice vp K vc)
  go_enter Try.func5, Try.ntmps5
  go_wp2_with fail
  refine (HA.out _ HB0.out).mono ?_
  rintro e w1 ⟨rfl, hb1⟩
  have k0 : w1.cell? ⟨w.heap.size, 0, none⟩ = some (.string s) := by rw [hb1.cell (p := ⟨w.heap.size, 0, none⟩) (by simp)]; exact d0
  have k1 : w1.cell? ⟨w.heap.size, 1, none⟩ = some (.int .i64 n) := by rw [hb1.cell (p := ⟨w.heap.size, 1, none⟩) (by simp)]; exact d1
  have k2 : w1.cell? ⟨w.heap.size, 2, none⟩ = some (.slice vp K vc) := by rw [hb1.cell (p := ⟨w.heap.size, 2, none⟩) (by simp)]; exact d2
  have HB1 := hide (HB0.out.trans (hb1.mono HB0.out.size))
  have HC2 := hide (HR.out w1 HB1.out)
  clear hb1 HB0 HA HR d0 d1 d2
  go_wp2_with fail
  refine HC2.out.mono ?_
  rintro e w2 ⟨rfl, hb2⟩
  have HB2 := hide (HB1.out.trans (hb2.mono HB1.out.size))
  have HSA : Hid (Calls Try.prog 14 #[.slice none 0 0, .slice none 0 0] w2 fun e w' => e = .returned (.bool true) ∧ Below w2.heap.size w2 w') := (sameAll_any (.slice none 0 0) (.slice none 0 0) [] [] w2 ⟨[], Or.inl ⟨rfl, _, _, rfl⟩, rfl, fun j hj => absurd hj (by simp)⟩ ⟨[], Or.inl ⟨rfl, _, _, rfl⟩, rfl, fun j hj => absurd hj (by simp)⟩).mono (fun e w' h => ⟨h.1.trans (by simp), h.2⟩)
  clear hb2 HB1 HC2 k0 k1 k2
  go_wp2_with fail
  refine HSA.out.mono ?_
  rintro e w3 ⟨rfl, hb3⟩
  have HB3 := hide (HB2.out.trans (hb3.mono HB2.out.size))
  clear hb3 HB2 HSA
  go_wp2
  go_ret
  exact ⟨rfl, HB3.out⟩

set_option maxHeartbeats 4000000 in
theorem searchSays_bab (s : ByteArray) (n : Int) (vp : Option Addr) (vc : Nat) (X : List (List Int)) (cp : Option Addr) (cc : Nat) (cs : List Cl) (a b : Int) (w : World) (hs : s.size ≤ 1048576)
    (hv : IntsAll w (.slice vp X.length vc) X) (hcv : CallsIn w (.slice cp cs.length cc) cs) (hz : sErr s n X cs a b ≠ 0) (gK : 40 < (X.length : Int)) (gK2 : ¬ (X.length : Int) < 201) (gA : ¬ 5 < a) (gC : 3 < (cs.length : Int)) (gC2 : ¬ (cs.length : Int) < 9) :
    Calls Try.prog 5 #[.agg #[.string s, .int .i64 n, .slice vp X.length vc], .slice cp cs.length cc, .int .i64 a, .int .i64 b] w fun e w' => e = .returned (.bool true) ∧ Below w.heap.size w w' := by
  have HA := hide (fun W (hW : Below w.heap.size w W) => touches_bad s n vp vc X cp cc cs a b W hs (hv.below hW) (hcv.below hW) hz)
  have HR := hide (fun W (hW : Below w.heap.size w W) => rtouches_bad s n vp vc X cp cc cs a b W hs (hv.below hW) (hcv.below hW) hz)
  unfold NoRows at HA HR
  generalize sErr s n X cs a b = er at *
  have hee : (er == er) = true := by simp
  clear hz hv hcv
  generalize X.length = K at *
  generalize cs.length = C at *
  have HB0 := hide ((Below.refl w.heap.size w).alloc (Nat.le_refl _) (mbox s n (.slice vp K vc)))
  obtain ⟨d0, d1, d2⟩ := mbox_cells w s n (.slice vp K vc)
  go_enter Try.func5, Try.ntmps5
  go_wp2_with fail
  refine (HA.out _ HB0.out).mono ?_
  rintro e w1 ⟨rfl, hb1⟩
  have k0 : w1.cell? ⟨w.heap.size, 0, none⟩ = some (.string s) := by rw [hb1.cell (p := ⟨w.heap.size, 0, none⟩) (by simp)]; exact d0
  have k1 : w1.cell? ⟨w.heap.size, 1, none⟩ = some (.int .i64 n) := by rw [hb1.cell (p := ⟨w.heap.size, 1, none⟩) (by simp)]; exact d1
  have k2 : w1.cell? ⟨w.heap.size, 2, none⟩ = some (.slice vp K vc) := by rw [hb1.cell (p := ⟨w.heap.size, 2, none⟩) (by simp)]; exact d2
  have HB1 := hide (HB0.out.trans (hb1.mono HB0.out.size))
  have HC2 := hide (HR.out w1 HB1.out)
  clear hb1 HB0 HA HR d0 d1 d2
  go_wp2_with fail
  refine HC2.out.mono ?_
  rintro e w2 ⟨rfl, hb2⟩
  have HB2 := hide (HB1.out.trans (hb2.mono HB1.out.size))
  have HSA : Hid (Calls Try.prog 14 #[.slice none 0 0, .slice none 0 0] w2 fun e w' => e = .returned (.bool true) ∧ Below w2.heap.size w2 w') := (sameAll_any (.slice none 0 0) (.slice none 0 0) [] [] w2 ⟨[], Or.inl ⟨rfl, _, _, rfl⟩, rfl, fun j hj => absurd hj (by simp)⟩ ⟨[], Or.inl ⟨rfl, _, _, rfl⟩, rfl, fun j hj => absurd hj (by simp)⟩).mono (fun e w' h => ⟨h.1.trans (by simp), h.2⟩)
  clear hb2 HB1 HC2 k0 k1 k2
  go_wp2_with fail
  refine HSA.out.mono ?_
  rintro e w3 ⟨rfl, hb3⟩
  have HB3 := hide (HB2.out.trans (hb3.mono HB2.out.size))
  clear hb3 HB2 HSA
  go_wp2
  go_ret
  exact ⟨rfl, HB3.out⟩

set_option maxHeartbeats 4000000 in
theorem searchSays_bba (s : ByteArray) (n : Int) (vp : Option Addr) (vc : Nat) (X : List (List Int)) (cp : Option Addr) (cc : Nat) (cs : List Cl) (a b : Int) (w : World) (hs : s.size ≤ 1048576)
    (hv : IntsAll w (.slice vp X.length vc) X) (hcv : CallsIn w (.slice cp cs.length cc) cs) (hz : sErr s n X cs a b ≠ 0) (gK : 40 < (X.length : Int)) (gK2 : ¬ (X.length : Int) < 201) (gA : 5 < a) (gA2 : ¬ a < 25) (gC : ¬ 3 < (cs.length : Int)) :
    Calls Try.prog 5 #[.agg #[.string s, .int .i64 n, .slice vp X.length vc], .slice cp cs.length cc, .int .i64 a, .int .i64 b] w fun e w' => e = .returned (.bool true) ∧ Below w.heap.size w w' := by
  have HA := hide (fun W (hW : Below w.heap.size w W) => touches_bad s n vp vc X cp cc cs a b W hs (hv.below hW) (hcv.below hW) hz)
  have HR := hide (fun W (hW : Below w.heap.size w W) => rtouches_bad s n vp vc X cp cc cs a b W hs (hv.below hW) (hcv.below hW) hz)
  unfold NoRows at HA HR
  generalize sErr s n X cs a b = er at *
  have hee : (er == er) = true := by simp
  clear hz hv hcv
  generalize X.length = K at *
  generalize cs.length = C at *
  have HB0 := hide ((Below.refl w.heap.size w).alloc (Nat.le_refl _) (mbox s n (.slice vp K vc)))
  obtain ⟨d0, d1, d2⟩ := mbox_cells w s n (.slice vp K vc)
  go_enter Try.func5, Try.ntmps5
  go_wp2_with fail
  refine (HA.out _ HB0.out).mono ?_
  rintro e w1 ⟨rfl, hb1⟩
  have k0 : w1.cell? ⟨w.heap.size, 0, none⟩ = some (.string s) := by rw [hb1.cell (p := ⟨w.heap.size, 0, none⟩) (by simp)]; exact d0
  have k1 : w1.cell? ⟨w.heap.size, 1, none⟩ = some (.int .i64 n) := by rw [hb1.cell (p := ⟨w.heap.size, 1, none⟩) (by simp)]; exact d1
  have k2 : w1.cell? ⟨w.heap.size, 2, none⟩ = some (.slice vp K vc) := by rw [hb1.cell (p := ⟨w.heap.size, 2, none⟩) (by simp)]; exact d2
  have HB1 := hide (HB0.out.trans (hb1.mono HB0.out.size))
  have HC2 := hide (HR.out w1 HB1.out)
  clear hb1 HB0 HA HR d0 d1 d2
  go_wp2_with fail
  refine HC2.out.mono ?_
  rintro e w2 ⟨rfl, hb2⟩
  have HB2 := hide (HB1.out.trans (hb2.mono HB1.out.size))
  have HSA : Hid (Calls Try.prog 14 #[.slice none 0 0, .slice none 0 0] w2 fun e w' => e = .returned (.bool true) ∧ Below w2.heap.size w2 w') := (sameAll_any (.slice none 0 0) (.slice none 0 0) [] [] w2 ⟨[], Or.inl ⟨rfl, _, _, rfl⟩, rfl, fun j hj => absurd hj (by simp)⟩ ⟨[], Or.inl ⟨rfl, _, _, rfl⟩, rfl, fun j hj => absurd hj (by simp)⟩).mono (fun e w' h => ⟨h.1.trans (by simp), h.2⟩)
  clear hb2 HB1 HC2 k0 k1 k2
  go_wp2_with fail
  refine HSA.out.mono ?_
  rintro e w3 ⟨rfl, hb3⟩
  have HB3 := hide (HB2.out.trans (hb3.mono HB2.out.size))
  clear hb3 HB2 HSA
  go_wp2
  go_ret
  exact ⟨rfl, HB3.out⟩

set_option maxHeartbeats 4000000 in
theorem searchSays_bbb (s : ByteArray) (n : Int) (vp : Option Addr) (vc : Nat) (X : List (List Int)) (cp : Option Addr) (cc : Nat) (cs : List Cl) (a b : Int) (w : World) (hs : s.size ≤ 1048576)
    (hv : IntsAll w (.slice vp X.length vc) X) (hcv : CallsIn w (.slice cp cs.length cc) cs) (hz : sErr s n X cs a b ≠ 0) (gK : 40 < (X.length : Int)) (gK2 : ¬ (X.length : Int) < 201) (gA : 5 < a) (gA2 : ¬ a < 25) (gC : 3 < (cs.length : Int)) (gC2 : ¬ (cs.length : Int) < 9) :
    Calls Try.prog 5 #[.agg #[.string s, .int .i64 n, .slice vp X.length vc], .slice cp cs.length cc, .int .i64 a, .int .i64 b] w fun e w' => e = .returned (.bool true) ∧ Below w.heap.size w w' := by
  have HA := hide (fun W (hW : Below w.heap.size w W) => touches_bad s n vp vc X cp cc cs a b W hs (hv.below hW) (hcv.below hW) hz)
  have HR := hide (fun W (hW : Below w.heap.size w W) => rtouches_bad s n vp vc X cp cc cs a b W hs (hv.below hW) (hcv.below hW) hz)
  unfold NoRows at HA HR
  generalize sErr s n X cs a b = er at *
  have hee : (er == er) = true := by simp
  clear hz hv hcv
  generalize X.length = K at *
  generalize cs.length = C at *
  have HB0 := hide ((Below.refl w.heap.size w).alloc (Nat.le_refl _) (mbox s n (.slice vp K vc)))
  obtain ⟨d0, d1, d2⟩ := mbox_cells w s n (.slice vp K vc)
  go_enter Try.func5, Try.ntmps5
  go_wp2_with fail
  refine (HA.out _ HB0.out).mono ?_
  rintro e w1 ⟨rfl, hb1⟩
  have k0 : w1.cell? ⟨w.heap.size, 0, none⟩ = some (.string s) := by rw [hb1.cell (p := ⟨w.heap.size, 0, none⟩) (by simp)]; exact d0
  have k1 : w1.cell? ⟨w.heap.size, 1, none⟩ = some (.int .i64 n) := by rw [hb1.cell (p := ⟨w.heap.size, 1, none⟩) (by simp)]; exact d1
  have k2 : w1.cell? ⟨w.heap.size, 2, none⟩ = some (.slice vp K vc) := by rw [hb1.cell (p := ⟨w.heap.size, 2, none⟩) (by simp)]; exact d2
  have HB1 := hide (HB0.out.trans (hb1.mono HB0.out.size))
  have HC2 := hide (HR.out w1 HB1.out)
  clear hb1 HB0 HA HR d0 d1 d2
  go_wp2_with fail
  refine HC2.out.mono ?_
  rintro e w2 ⟨rfl, hb2⟩
  have HB2 := hide (HB1.out.trans (hb2.mono HB1.out.size))
  have HSA : Hid (Calls Try.prog 14 #[.slice none 0 0, .slice none 0 0] w2 fun e w' => e = .returned (.bool true) ∧ Below w2.heap.size w2 w') := (sameAll_any (.slice none 0 0) (.slice none 0 0) [] [] w2 ⟨[], Or.inl ⟨rfl, _, _, rfl⟩, rfl, fun j hj => absurd hj (by simp)⟩ ⟨[], Or.inl ⟨rfl, _, _, rfl⟩, rfl, fun j hj => absurd hj (by simp)⟩).mono (fun e w' h => ⟨h.1.trans (by simp), h.2⟩)
  clear hb2 HB1 HC2 k0 k1 k2
  go_wp2_with fail
  refine HSA.out.mono ?_
  rintro e w3 ⟨rfl, hb3⟩
  have HB3 := hide (HB2.out.trans (hb3.mono HB2.out.size))
  clear hb3 HB2 HSA
  go_wp2
  go_ret
  exact ⟨rfl, HB3.out⟩

set_option maxHeartbeats 2000000 in
theorem searchSays_skip (s : ByteArray) (n : Int) (vp : Option Addr) (K vc : Nat) (cp : Option Addr) (C cc : Nat) (a b : Int) (w : World) (h : (40 < K ∧ K < 201) ∨ (5 < a ∧ a < 25) ∨ (3 < C ∧ C < 9)) :
    Calls Try.prog 5 #[.agg #[.string s, .int .i64 n, .slice vp K vc], .slice cp C cc, .int .i64 a, .int .i64 b] w fun e w' => e = .returned (.bool true) ∧ Below w.heap.size w w' := by
  have HB0 := hide ((Below.refl w.heap.size w).alloc (Nat.le_refl _) (mbox s n (.slice vp K vc)))
  obtain ⟨d0, d1, d2⟩ := mbox_cells w s n (.slice vp K vc)
  by_cases k1 : 40 < (K : Int)
  · by_cases k2 : (K : Int) < 201
    · clear h
      go_enter Try.func5, Try.ntmps5
      go_wp2
      go_ret
      exact ⟨rfl, HB0.out⟩
    · by_cases a1 : 5 < a
      · by_cases a2 : a < 25
        · clear h
          go_enter Try.func5, Try.ntmps5
          go_wp2
          go_ret
          exact ⟨rfl, HB0.out⟩
        · have c1 : 3 < (C : Int) := by omega
          have c2 : (C : Int) < 9 := by omega
          clear h
          go_enter Try.func5, Try.ntmps5
          go_wp2
          go_ret
          exact ⟨rfl, HB0.out⟩
      · have c1 : 3 < (C : Int) := by omega
        have c2 : (C : Int) < 9 := by omega
        clear h
        go_enter Try.func5, Try.ntmps5
        go_wp2
        go_ret
        exact ⟨rfl, HB0.out⟩
  · by_cases a1 : 5 < a
    · by_cases a2 : a < 25
      · clear h
        go_enter Try.func5, Try.ntmps5
        go_wp2
        go_ret
        exact ⟨rfl, HB0.out⟩
      · have c1 : 3 < (C : Int) := by omega
        have c2 : (C : Int) < 9 := by omega
        clear h
        go_enter Try.func5, Try.ntmps5
        go_wp2
        go_ret
        exact ⟨rfl, HB0.out⟩
    · have c1 : 3 < (C : Int) := by omega
      have c2 : (C : Int) < 9 := by omega
      clear h
      go_enter Try.func5, Try.ntmps5
      go_wp2
      go_ret
      exact ⟨rfl, HB0.out⟩

theorem searchSays_walk (s : ByteArray) (n : Int) (mv : Value) (X : List (List Int)) (cv : Value) (cs : List Cl) (a b : Int) (w : World) (hs : s.size ≤ 1048576) (hv : IntsAll w mv X) (hcv : CallsIn w cv cs) (ha : I64 a) (hb : I64 b) :
    Calls Try.prog 5 #[.agg #[.string s, .int .i64 n, mv], cv, .int .i64 a, .int .i64 b] w fun e w' => e = .returned (.bool true) ∧ Below w.heap.size w w' := by
  obtain ⟨vp, vc, rfl⟩ := hv.len
  obtain ⟨cp, cc, rfl⟩ := hcv.form
  by_cases h : (40 < X.length ∧ X.length < 201) ∨ (5 < a ∧ a < 25) ∨ (3 < cs.length ∧ cs.length < 9)
  · exact searchSays_skip s n vp X.length vc cp cs.length cc a b w h
  · by_cases hz : sErr s n X cs a b = 0
    · have hc : cErr s n X cs = 0 ∧ ¬ (a < 1 ∨ 24 < a ∨ b < 1 ∨ 50 < b) := by
        unfold sErr at hz
        split at hz
        · rename_i h1
          refine ⟨h1, fun h2 => ?_⟩
          rw [if_pos h2] at hz
          cases hz
        · rename_i h1; exact absurd hz h1
      obtain ⟨hm, c1, c2, c3⟩ := cErr_zero hc.1
      obtain ⟨N, ts, rfl, rfl, hn, a1, a2, a3, a4, a5⟩ := mErr_zero hm
      rw [List.length_map] at *
      obtain ⟨hok, SS, hSS⟩ := calls_good (by omega) a2 c3
      have hcat : CallsAt w (.slice cp cs.length cc) cs := by
        rcases hcv with ⟨h9, _⟩ | ⟨_, h9⟩
        · rw [h9] at c1; simp at c1
        · exact h9
      obtain ⟨A, rfl⟩ : ∃ A : Nat, a = (A : Int) := ⟨a.toNat, by omega⟩
      obtain ⟨B, rfl⟩ : ∃ B : Nat, b = (B : Int) := ⟨b.toNat, by omega⟩
      exact searchSays_good s hs hn N vp vc ts _ cs SS A B w a1 a2 a3 (by omega) a5 hv hcat hok c1 (by omega) hSS (by omega) (by omega) (by omega) (by omega)
    · by_cases hK : 40 < X.length
      · by_cases hA : 5 < a
        · by_cases hC : 3 < cs.length
          · exact searchSays_bbb s n vp vc X cp cc cs a b w hs hv hcv hz (by omega) (by omega) (by omega) (by omega) (by omega) (by omega)
          · exact searchSays_bba s n vp vc X cp cc cs a b w hs hv hcv hz (by omega) (by omega) (by omega) (by omega) (by omega)
        · by_cases hC : 3 < cs.length
          · exact searchSays_bab s n vp vc X cp cc cs a b w hs hv hcv hz (by omega) (by omega) (by omega) (by omega) (by omega)
          · exact searchSays_baa s n vp vc X cp cc cs a b w hs hv hcv hz (by omega) (by omega) (by omega) (by omega)
      · by_cases hA : 5 < a
        · by_cases hC : 3 < cs.length
          · exact searchSays_abb s n vp vc X cp cc cs a b w hs hv hcv hz (by omega) (by omega) (by omega) (by omega) (by omega)
          · exact searchSays_aba s n vp vc X cp cc cs a b w hs hv hcv hz (by omega) (by omega) (by omega) (by omega)
        · by_cases hC : 3 < cs.length
          · exact searchSays_aab s n vp vc X cp cc cs a b w hs hv hcv hz (by omega) (by omega) (by omega) (by omega)
          · exact searchSays_aaa s n vp vc X cp cc cs a b w hs hv hcv hz (by omega) (by omega) (by omega)

end Go.Proofs.Ytoiiadiimfohiaa
