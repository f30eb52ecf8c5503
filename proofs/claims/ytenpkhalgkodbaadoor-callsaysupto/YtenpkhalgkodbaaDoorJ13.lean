/- Joined: MdE, MdF, Tze, Rwb, CpF. -/
import Derived.Test.YtenpkhalgkodbaaDoorJ6
import Derived.Test.YtenpkhalgkodbaaDoorJ7
import Derived.Test.YtenpkhalgkodbaaDoorJ12
/- Contracts at every input: the answer's CallsMay, TouchMay. -/
namespace Go.Proofs.YtenpkhalgkodbaaDoor
open Go.RowKit
set_option maxRecDepth 20000
set_option linter.unusedVariables false

theorem oErr_sign {n : Int} {K : Nat} {ah : List Cl} {c : Cl} (h : sgnR c.1 = false) : oErr n K ah c = 4 := by unfold oErr; rw [if_neg (by rw [h]; decide)]
theorem oErr_dbl {n : Int} {K : Nat} {ah : List Cl} {c : Cl} (h : sgnR c.1 = true) (h2 : c.1 ∈ ah.map Prod.fst) : oErr n K ah c = 8 := by unfold oErr; rw [if_pos h, if_pos h2]
theorem oErr_few {n : Int} {K : Nat} {ah : List Cl} {c : Cl} (h : sgnR c.1 = true) (h2 : c.1 ∉ ah.map Prod.fst) (h3 : K < c.2.length) : oErr n K ah c = 1 := by unfold oErr; rw [if_pos h, if_neg h2, if_pos h3]
theorem oErr_rest {n : Int} {K : Nat} {ah : List Cl} {c : Cl} (h : sgnR c.1 = true) (h2 : c.1 ∉ ah.map Prod.fst) (h3 : ¬ K < c.2.length) : oErr n K ah c = fstE n c.2 := by unfold oErr; rw [if_pos h, if_neg h2, if_neg h3]

theorem sign_in {cs : List Cl} {k : Nat} (hk : k ≤ cs.length) {x : Int} : x ∈ (cs.take k).map Prod.fst ↔ ∃ j, j < k ∧ (cs.getD j (0, [])).1 = x := by
  rw [List.mem_map]
  constructor
  · rintro ⟨c, hc, rfl⟩
    obtain ⟨j, hj, e⟩ := List.getElem_of_mem hc
    rw [List.length_take] at hj
    refine ⟨j, by omega, ?_⟩
    rw [← e]
    simp [List.getD, show j < cs.length by omega]
  · rintro ⟨j, hj, rfl⟩
    refine ⟨cs.getD j (0, []), ?_, rfl⟩
    have hj2 : j < cs.length := by omega
    have : (cs.take k)[j]? = some (cs.getD j (0, [])) := by rw [List.getElem?_take]; simp [hj, hj2, List.getD]
    exact List.mem_of_getElem? this

set_option maxHeartbeats 16000000 in
theorem rcalls_all (s : ByteArray) (n : Int) (vp : Option Addr) (vc : Nat) (X : List (List Int)) (cv : Value) (cs : List Cl) (w : World) (hs : s.size ≤ 1048576)
    (hv : IntsAll w (.slice vp X.length vc) X) (hcv : CallsIn w cv cs) :
    Calls Tryd.prog 9 #[.agg #[.string s, .int .i64 n, .slice vp X.length vc], cv] w fun e w' => e = .returned (.int .i64 (cErr s n X cs)) ∧ Below w.heap.size w w' := by
  obtain ⟨m, hm⟩ : ∃ m, Hid (X.length = m) := ⟨_, rfl⟩
  have HB0 := hide ((Below.refl w.heap.size w).alloc (Nat.le_refl _) (mbox s n (.slice vp X.length vc)))
  have HMM := hide (rmay_all s n (.slice vp X.length vc) X (w.alloc (mbox s n (.slice vp X.length vc))) hs (hv.below HB0.out))
  unfold cErr
  rw [hm.out] at HB0 HMM ⊢
  generalize mErr s n X = me at *
  obtain ⟨cp, cc, rfl⟩ := hcv.form
  obtain ⟨C, hC⟩ : ∃ C, Hid (cs.length = C) := ⟨_, rfl⟩
  rw [hC.out]
  have HCV := hide hcv
  obtain ⟨d0, d1, d2⟩ := mbox_cells w s n (.slice vp m vc)
  clear hv hcv
  by_cases hz : me = 0
  · subst hz
    rw [if_pos rfl]
    by_cases hcl : C < 1 ∨ 8 < C
    · rw [if_pos hcl]
      go_enter Tryd.func9, Tryd.ntmps9
      go_wp2_with fail
      refine HMM.out.mono ?_
      rintro e w1 ⟨rfl, hb1⟩
      have HB1 := hide (HB0.out.trans (hb1.mono HB0.out.size))
      clear hb1 HB0 HMM d0 d1 d2
      by_cases h1 : (C : Int) < 1
      · clear hcl
        go_wp2
        go_ret
        exact ⟨rfl, HB1.out⟩
      · have h2 : 8 < (C : Int) := by omega
        clear hcl
        go_wp2
        go_ret
        exact ⟨rfl, HB1.out⟩
    · rw [if_neg hcl]
      have g3 : ¬ (C : Int) < 1 := by omega
      have g4 : ¬ 8 < (C : Int) := by omega
      have hc2 : 1 ≤ C ∧ C ≤ 8 := by omega
      obtain ⟨b, off, cap, hce, hbl, hcc1, hcc2, hcr⟩ : CallsAt w (.slice cp C cc) cs := by
        rcases HCV.out with ⟨h1, _⟩ | ⟨_, h2⟩
        · exfalso; have := hC.out; rw [h1] at this; simp at this; omega
        · rw [hC.out] at h2; exact h2
      rw [hC.out] at hce hcc1
      simp only [Value.slice.injEq] at hce
      obtain ⟨rfl, _, rfl⟩ := hce
      have HCR := hide hcr
      obtain ⟨E, hE⟩ : ∃ E, Hid (cFst n m [] cs = E) := ⟨_, rfl⟩
      rw [hE.out]
      clear hcr HCV hcl
      go_enter Tryd.func9, Tryd.ntmps9
      go_wp2_with fail
      refine HMM.out.mono ?_
      rintro e w1 ⟨rfl, hb1⟩
      have k1 : w1.cell? ⟨w.heap.size, 1, none⟩ = some (.int .i64 n) := by rw [hb1.cell (p := ⟨w.heap.size, 1, none⟩) (by simp)]; exact d1
      have k2 : w1.cell? ⟨w.heap.size, 2, none⟩ = some (.slice vp m vc) := by rw [hb1.cell (p := ⟨w.heap.size, 2, none⟩) (by simp)]; exact d2
      have HB1 := hide (HB0.out.trans (hb1.mono HB0.out.size))
      clear hb1 HB0 HMM d0 d1 d2
      go_wp2
      go_loopw [6] (fun i wr => ∃ k : Nat, k ≤ C ∧ i = .int .i64 k ∧ Hid (E = cFst n m (cs.take k) (cs.drop k)) ∧ Hid (Below w.heap.size w wr) ∧ wr.cell? ⟨w.heap.size, 1, none⟩ = some (.int .i64 n) ∧ wr.cell? ⟨w.heap.size, 2, none⟩ = some (.slice vp m vc)) (fun i _ => C - (intOf i).toNat)
      case atStart => exact ⟨0, by omega, rfl, hE.out.symm, HB1, k1, k2⟩
      case round =>
        clear k1 k2 HB1
        obtain ⟨k, hk, rfl, hEk, hbw, k1, k2⟩ := hrel
        by_cases hlt : k < C
        · have hkc : k < cs.length := by rw [hC.out]; exact hlt
          obtain ⟨u, hcs, hcu, hcI⟩ := HCR.out k hkc
          obtain ⟨up, uc, rfl⟩ := hcI.len
          obtain ⟨Y, hY⟩ : ∃ Y, Hid ((cs.getD k (0, [])).2 = Y) := ⟨_, rfl⟩
          obtain ⟨sg, hsg9⟩ : ∃ sg, Hid ((cs.getD k (0, [])).1 = sg) := ⟨_, rfl⟩
          have HEZ : Hid (oErr n m (cs.take k) (cs.getD k (0, [])) = 0 → E = cFst n m (cs.take (k + 1)) (cs.drop (k + 1))) := fun h => hEk.out.trans (cFst_ok hkc h)
          have HEB : Hid (oErr n m (cs.take k) (cs.getD k (0, [])) ≠ 0 → E = oErr n m (cs.take k) (cs.getD k (0, []))) := fun h => hEk.out.trans (cFst_bad hkc h)
          have HO1 : Hid (sgnR sg = false → oErr n m (cs.take k) (cs.getD k (0, [])) = 4) := fun h => oErr_sign (by rw [hsg9.out]; exact h)
          have HO2 : Hid (sgnR sg = true → (∃ j, j < k ∧ (cs.getD j (0, [])).1 = sg) → oErr n m (cs.take k) (cs.getD k (0, [])) = 8) := fun h h2 => oErr_dbl (by rw [hsg9.out]; exact h) (by rw [hsg9.out]; exact (sign_in (Nat.le_of_lt hkc)).2 h2)
          have HO3 : Hid (sgnR sg = true → (∀ j, j < k → (cs.getD j (0, [])).1 ≠ sg) → m < Y.length → oErr n m (cs.take k) (cs.getD k (0, [])) = 1) := fun h h2 h3 => oErr_few (by rw [hsg9.out]; exact h) (by rw [hsg9.out]; exact fun h9 => by obtain ⟨j, hj, e⟩ := (sign_in (Nat.le_of_lt hkc)).1 h9; exact h2 j hj e) (by rw [hY.out]; exact h3)
          have HO4 : Hid (sgnR sg = true → (∀ j, j < k → (cs.getD j (0, [])).1 ≠ sg) → ¬ m < Y.length → oErr n m (cs.take k) (cs.getD k (0, [])) = fstE n Y) := fun h h2 h3 => by
            rw [oErr_rest (by rw [hsg9.out]; exact h) (by rw [hsg9.out]; exact fun h9 => by obtain ⟨j, hj, e⟩ := (sign_in (Nat.le_of_lt hkc)).1 h9; exact h2 j hj e) (by rw [hY.out]; exact h3), hY.out]
          rw [hY.out] at hcI hcu
          rw [hsg9.out] at hcs
          generalize oErr n m (cs.take k) (cs.getD k (0, [])) = oe at *
          have HYI := hide (fun (W : World) (hW : Below w.heap.size w W) => hcI.below hW)
          obtain ⟨N, hN⟩ : ∃ N, Hid (Y.length = N) := ⟨_, rfl⟩
          rw [hN.out] at hcu HYI HO3 HO4
          have HS := hide (fun W => signMay_any sg W)
          have hcs' := (hbw.out.cell (p := ⟨b, off + k * 2, none⟩) hbl).trans hcs
          clear hcI hY hEk
          cases hsg : sgnR sg with
          | false =>
            rw [hsg] at HS HO1
            have HEN : Hid (E = 4) := by have h9 := HO1.out rfl; rw [← h9]; exact HEB.out (by rw [h9]; decide)
            clear HO1 HO2 HO3 HO4 HEZ HEB hsg
            go_wp2_with fail
            refine (HS.out _).mono ?_
            rintro e w2 ⟨rfl, rfl⟩
            go_wp2
            go_ret
            exact ⟨ret_int HEN.out.symm, hbw.out⟩
          | true =>
            rw [hsg] at HS HO2 HO3 HO4
            clear HO1 hsg
            go_wp2_with fail
            refine (HS.out _).mono ?_
            rintro e w2 ⟨rfl, rfl⟩
            clear hcs'
            go_wp2
            go_loopw [8] (fun i wr => ∃ j : Nat, j ≤ k ∧ i = .int .i64 j ∧ Hid (∀ j', j' < j → (cs.getD j' (0, [])).1 ≠ sg) ∧ Hid (Below w.heap.size w wr) ∧ wr.cell? ⟨w.heap.size, 1, none⟩ = some (.int .i64 n) ∧ wr.cell? ⟨w.heap.size, 2, none⟩ = some (.slice vp m vc)) (fun i _ => k - (intOf i).toNat)
            case atStart => exact ⟨0, by omega, rfl, (fun j hj => absurd hj (by omega)), hbw, k1, k2⟩
            case round =>
              obtain ⟨j, hj, rfl, hNo, hbw2, l1, l2⟩ := hrel
              clear hbw k1 k2
              by_cases hjk : j < k
              · have hjc : j < cs.length := by omega
                obtain ⟨u2, hcs2, _, _⟩ := HCR.out j hjc
                have a1 := (hbw2.out.cell (p := ⟨b, off + j * 2, none⟩) hbl).trans hcs2
                have a2 := (hbw2.out.cell (p := ⟨b, off + k * 2, none⟩) hbl).trans hcs
                by_cases hne : (cs.getD j (0, [])).1 = sg
                · have HEN : Hid (E = 8) := by have h9 := HO2.out (by first | rfl | trivial) ⟨j, hjk, hne⟩; rw [← h9]; exact HEB.out (by rw [h9]; decide)
                  have hb9 : ((cs.getD j (0, [])).1 == sg) = true := by rw [beq_iff_eq]; exact hne
                  clear hne hNo
                  generalize (cs.getD j (0, [])).1 = sj at *
                  go_upto_region 15 with fail
                  go_quiet (fail)
                  have hB3 := hide (below_drewN hbw2.out nq)
                  clear a1 a2 l1 l2 hbw2
                  go_wp2
                  go_ret
                  exact ⟨ret_int HEN.out.symm, hB3.out⟩
                · have HNo2 : Hid (∀ j', j' < j + 1 → (cs.getD j' (0, [])).1 ≠ sg) := fun j' hj' => by
                    rcases Nat.lt_succ_iff_lt_or_eq.1 hj' with h | h
                    · exact hNo.out j' h
                    · rw [h]; exact hne
                  have hb9 : ((cs.getD j (0, [])).1 == sg) = false := by rw [beq_eq_false_iff_ne]; exact hne
                  clear hne hNo
                  generalize (cs.getD j (0, [])).1 = sj at *
                  go_upto_region 15 with fail
                  go_quiet (fail)
                  have hB3 := hide (below_drewN hbw2.out nq)
                  have n1 : (_ : World).cell? ⟨w.heap.size, 1, none⟩ = some (.int .i64 n) := (show (World.drewN _ nq).cell? ⟨w.heap.size, 1, none⟩ = some (.int .i64 n) from l1)
                  have n2 : (_ : World).cell? ⟨w.heap.size, 2, none⟩ = some (.slice vp m vc) := (show (World.drewN _ nq).cell? ⟨w.heap.size, 2, none⟩ = some (.slice vp m vc) from l2)
                  clear a1 a2 l1 l2 hbw2
                  go_wp2
                  go_roundw
                  case rel => exact ⟨j + 1, by omega, by go_num, HNo2, hB3, n1, n2⟩
                  case measure => simp [intOf]; omega
              · obtain rfl : j = k := by omega
                have a3 := (hbw2.out.cell (p := ⟨b, off + j * 2 + 1, none⟩) hbl).trans hcu
                by_cases hmN : m < N
                · have HEN : Hid (E = 1) := by have h9 := HO3.out (by first | rfl | trivial) hNo.out hmN; rw [← h9]; exact HEB.out (by rw [h9]; decide)
                  have g9 : (m : Int) < (N : Int) := by omega
                  clear hNo
                  go_upto_region 17 with fail
                  go_quiet (fail)
                  have hB3 := hide (below_drewN hbw2.out nq)
                  clear a3 l1 l2 hbw2
                  go_wp2
                  go_ret
                  exact ⟨ret_int HEN.out.symm, hB3.out⟩
                · have HOE := hide (HO4.out (by first | rfl | trivial) hNo.out hmN)
                  have g9 : ¬ (m : Int) < (N : Int) := by omega
                  clear hNo HO2 HO3 HO4
                  go_upto_region 17 with fail
                  go_quiet (fail)
                  have hB3 := hide (below_drewN hbw2.out nq)
                  have n1 : (_ : World).cell? ⟨w.heap.size, 1, none⟩ = some (.int .i64 n) := (show (World.drewN _ nq).cell? ⟨w.heap.size, 1, none⟩ = some (.int .i64 n) from l1)
                  have n2 : (_ : World).cell? ⟨w.heap.size, 2, none⟩ = some (.slice vp m vc) := (show (World.drewN _ nq).cell? ⟨w.heap.size, 2, none⟩ = some (.slice vp m vc) from l2)
                  clear a3 l1 l2 hbw2
                  go_wp2
                  go_loopw [9] (fun i wr => ∃ q : Nat, q ≤ N ∧ i = .int .i64 q ∧ Hid (oe = fstE n (Y.drop q)) ∧ Hid (Below w.heap.size w wr) ∧ wr.cell? ⟨w.heap.size, 1, none⟩ = some (.int .i64 n) ∧ wr.cell? ⟨w.heap.size, 2, none⟩ = some (.slice vp m vc)) (fun i _ => N - (intOf i).toNat)
                  case atStart => exact ⟨0, by omega, rfl, HOE, hB3, n1, n2⟩
                  case round =>
                    obtain ⟨q, hq, rfl, hOq, hbw3, l1, l2⟩ := hrel
                    clear hB3 n1 n2
                    have a3 := (hbw3.out.cell (p := ⟨b, off + j * 2 + 1, none⟩) hbl).trans hcu
                    by_cases hqN : q < N
                    · have hqY : q < Y.length := by rw [hN.out]; exact hqN
                      obtain ⟨yb, yo, ycap, hye, hyb, hyc1, hyc2, hycell⟩ := (HYI.out w (Below.refl _ _)).cell (by omega)
                      rw [hN.out] at hye hyc1 hycell
                      injection hye with e1 _ e3
                      subst e1; subst e3
                      obtain ⟨xp, xc, hxc, hxI⟩ := hycell q hqN
                      have a4 := (hbw3.out.cell (p := ⟨yb, yo + q, none⟩) hyb).trans hxc
                      have HC := hide (fun (W : World) (hW : Below w.heap.size w W) => changeMay_all n (.slice xp (Y.getD q []).length xc) (Y.getD q []) W (hxI.out.below hW))
                      have HZ1 : Hid (pc n (Y.getD q []) = 0 → oe = fstE n (Y.drop (q + 1))) := fun hz => hOq.out.trans (fstE_ok hqY hz)
                      have HZ2 : Hid (pc n (Y.getD q []) ≠ 0 → oe = pc n (Y.getD q [])) := fun hz => hOq.out.trans (fstE_bad hqY hz)
                      clear hxc hxI hycell hOq
                      generalize (Y.getD q []).length = pl at *
                      generalize pc n (Y.getD q []) = pe at *
                      have HC2 : ∀ W : World, Below w.heap.size w W → Calls Tryd.prog 28 #[.int .i64 n, .slice xp pl xc] W fun e w' => e = .returned (.int .i64 pe) ∧ W = w' := HC.out
                      clear HC
                      go_upto_region 22 with fail
                      go_quiet ((go_at_call 28; exact Calls.quiet_of_same ((HC2 _ (below_drewN hbw3.out _)).mono (fun e wq h => ⟨h.1, h.2.symm⟩))))
                      have hB4 := hide (below_drewN hbw3.out nq)
                      have p1 : (_ : World).cell? ⟨w.heap.size, 1, none⟩ = some (.int .i64 n) := (show (World.drewN _ nq).cell? ⟨w.heap.size, 1, none⟩ = some (.int .i64 n) from l1)
                      have p2 : (_ : World).cell? ⟨w.heap.size, 2, none⟩ = some (.slice vp m vc) := (show (World.drewN _ nq).cell? ⟨w.heap.size, 2, none⟩ = some (.slice vp m vc) from l2)
                      clear a3 a4 l1 l2 hbw3 HC2
                      by_cases hpz : pe = 0
                      · have HON := hide (HZ1.out hpz)
                        subst hpz
                        clear HZ1 HZ2
                        go_wp2
                        go_roundw
                        case rel => exact ⟨q + 1, by omega, by go_num, HON, hB4, p1, p2⟩
                        case measure => simp [intOf]; omega
                      · have HON := HZ2.out hpz
                        have HEN : Hid (E = pe) := by rw [← HON]; exact HEB.out (by rw [HON]; exact hpz)
                        have hzz : (pe != 0) = true := by simpa using hpz
                        clear HZ1 HZ2 hpz HON
                        go_wp2
                        go_ret
                        exact ⟨ret_int HEN.out.symm, hB4.out⟩
                    · have hqe : q = N := by omega
                      have HEN := hide (HEZ.out (by rw [hOq.out, List.drop_eq_nil_of_le (by rw [hN.out]; omega)]; rfl))
                      clear hOq HEZ HEB
                      go_wp2
                      go_roundw
                      case rel => exact ⟨j + 1, by omega, by go_num, HEN, hbw3, l1, l2⟩
                      case measure => simp [intOf]; omega
        · obtain rfl : k = C := by omega
          have HEN : Hid (E = 0) := by show E = 0; rw [hEk.out, List.drop_eq_nil_of_le (by rw [hC.out]; exact Nat.le_refl _)]; rfl
          clear hEk
          go_wp2
          go_ret
          exact ⟨ret_int HEN.out.symm, hbw.out⟩
  · rw [if_neg hz]
    have hzz : (me != 0) = true := by simpa using hz
    clear hz
    go_enter Tryd.func9, Tryd.ntmps9
    go_wp2_with fail
    refine HMM.out.mono ?_
    rintro e w1 ⟨rfl, hb1⟩
    have HB1 := hide (HB0.out.trans (hb1.mono HB0.out.size))
    clear hb1 HB0 HMM d0 d1 d2
    go_wp2
    go_ret
    exact ⟨rfl, HB1.out⟩

set_option maxHeartbeats 8000000 in
theorem rtmay_all (s : ByteArray) (n : Int) (vp : Option Addr) (vc : Nat) (X : List (List Int)) (cv : Value) (cs : List Cl) (lv : Value) (ls : List Int) (w : World) (hs : s.size ≤ 1048576)
    (hv : IntsAll w (.slice vp X.length vc) X) (hcv : CallsIn w cv cs) (hI : Ints w lv ls) :
    Calls Tryd.prog 12 #[.agg #[.string s, .int .i64 n, .slice vp X.length vc], cv, lv] w fun e w' => e = .returned (.int .i64 (tErr s n X cs ls)) ∧ Below w.heap.size w w' := by
  have HB0 := hide ((Below.refl w.heap.size w).alloc (Nat.le_refl _) (mbox s n (.slice vp X.length vc)))
  have HCM := hide (rcalls_all s n vp vc X cv cs (w.alloc (mbox s n (.slice vp X.length vc))) hs (hv.below HB0.out) (hcv.below HB0.out))
  have hmul : (ls.length : Int) * (X.length : Int) = ((ls.length * X.length : Nat) : Int) := (Int.natCast_mul _ _).symm
  have HSM : Hid (cErr s n X cs = 0 → X.length ≤ 200) := fun h1 => by
    have a1 : mErr s n X = 0 := by
      unfold cErr at h1
      split at h1
      · assumption
      · rename_i h; exact absurd h1 h
    unfold mErr at a1
    split at a1
    · split at a1
      · cases a1
      · omega
    · cases a1
  obtain ⟨cp, cc, rfl⟩ := hcv.form
  obtain ⟨lp, lc, rfl⟩ := hI.form
  have HI := hide hI
  unfold tErr
  generalize cErr s n X cs = ce at *
  obtain ⟨m, hm⟩ : ∃ m, Hid (X.length = m) := ⟨_, rfl⟩
  obtain ⟨C, hC⟩ : ∃ C, Hid (cs.length = C) := ⟨_, rfl⟩
  obtain ⟨T, hT⟩ : ∃ T, Hid (ls.length = T) := ⟨_, rfl⟩
  rw [hm.out] at HB0 HCM hmul HSM ⊢
  rw [hC.out] at HCM ⊢
  rw [hT.out] at hmul HI ⊢
  obtain ⟨d0, d1, d2⟩ := mbox_cells w s n (.slice vp m vc)
  clear hv hcv hI
  by_cases hz : ce = 0
  · subst hz
    rw [if_pos rfl]
    have hm200 := HSM.out rfl
    unfold lErr
    rw [hT.out]
    by_cases hl : T < 1 ∨ 400 < T
    · rw [if_pos hl, if_neg (by decide)]
      go_enter Tryd.func12, Tryd.ntmps12
      go_wp2_with fail
      refine HCM.out.mono ?_
      rintro e w1 ⟨rfl, hb1⟩
      have HB1 := hide (HB0.out.trans (hb1.mono HB0.out.size))
      clear hb1 HB0 HCM d0 d1 d2
      by_cases h1 : (T : Int) < 1
      · clear hl
        go_wp2
        go_ret
        exact ⟨rfl, HB1.out⟩
      · have h2 : 400 < (T : Int) := by omega
        clear hl
        go_wp2
        go_ret
        exact ⟨rfl, HB1.out⟩
    · rw [if_neg hl]
      have g3 : ¬ (T : Int) < 1 := by omega
      have g4 : ¬ 400 < (T : Int) := by omega
      rcases HI.out with ⟨hnil, _⟩ | ⟨b, off, cap, hle, h0, hc, hmx, hb, hcell⟩
      · exfalso; have := hT.out; rw [hnil] at this; simp at this; omega
      rw [hT.out] at hle hc
      simp only [Value.slice.injEq] at hle
      obtain ⟨rfl, _, rfl⟩ := hle
      have HC := hide hcell
      have hTm : T * m ≤ 400 * 200 := Nat.mul_le_mul (by omega) hm200
      generalize T * m = tm at *
      obtain ⟨E, hE⟩ : ∃ E : Int, Hid ((if (if ∀ l, l ∈ ls → 0 ≤ l ∧ l < (C : Int) then (0 : Int) else 12) = 0 then (if 20000 < tm then 3 else 0) else (if ∀ l, l ∈ ls → 0 ≤ l ∧ l < (C : Int) then (0 : Int) else 12)) = E) := ⟨_, rfl⟩
      rw [hE.out]
      clear hl hcell HI
      go_enter Tryd.func12, Tryd.ntmps12
      go_wp2_with fail
      refine HCM.out.mono ?_
      rintro e w1 ⟨rfl, hb1⟩
      have k2 : w1.cell? ⟨w.heap.size, 2, none⟩ = some (.slice vp m vc) := by rw [hb1.cell (p := ⟨w.heap.size, 2, none⟩) (by simp)]; exact d2
      have HB1 := hide (HB0.out.trans (hb1.mono HB0.out.size))
      clear hb1 HB0 HCM d0 d1 d2
      go_wp2
      go_loop [8] (fun i => ∃ k : Nat, k ≤ T ∧ i = .int .i64 k ∧ Hid (∀ j, j < k → 0 ≤ ls.getD j 0 ∧ ls.getD j 0 < (C : Int))) (fun i => T - (intOf i).toNat)
      case atStart => exact ⟨0, by omega, rfl, (fun j hj => absurd hj (by omega))⟩
      case round =>
        obtain ⟨k, hk, rfl, hA⟩ := hrel
        by_cases hlt : k < T
        · have hkl : k < ls.length := by rw [hT.out]; exact hlt
          obtain ⟨y, hy, hcx⟩ := cellAt HC.out hkl
          have gx := (HB1.out.cell (p := ⟨b, off + k, none⟩) (by exact hb)).trans hcx
          have hyk : ls.getD k 0 = y := hy.out
          have hym : y ∈ ls := by
            rw [← hyk, List.getD, List.getElem?_eq_getElem hkl, Option.getD_some]
            exact List.getElem_mem _
          by_cases hyb : 0 ≤ y ∧ y < (C : Int)
          · have HA2 : Hid (∀ j, j < k + 1 → 0 ≤ ls.getD j 0 ∧ ls.getD j 0 < (C : Int)) := fun j hj => by
              rcases Nat.lt_succ_iff_lt_or_eq.1 hj with h | h
              · exact hA.out j h
              · rw [h, hyk]; exact hyb
            have g5 : ¬ y < 0 := by omega
            have g6 : ¬ (C : Int) ≤ y := by omega
            clear hy hym hyk hyb hA hcx
            go_wp2
            go_round
            case rel => exact ⟨k + 1, by omega, by go_num, HA2⟩
            case measure => simp [intOf]; omega
          · have hneg : ¬ ∀ l, l ∈ ls → 0 ≤ l ∧ l < (C : Int) := fun h => hyb (h y hym)
            have HEN : Hid (E = 12) := by show E = 12; rw [← hE.out, if_neg hneg, if_neg (by decide)]
            clear hneg
            by_cases g5 : y < 0
            · clear hy hym hyk hyb hA hcx
              go_wp2
              go_ret
              exact ⟨ret_int HEN.out.symm, HB1.out⟩
            · have g6 : (C : Int) ≤ y := by omega
              clear hy hym hyk hyb hA hcx
              go_wp2
              go_ret
              exact ⟨ret_int HEN.out.symm, HB1.out⟩
        · obtain rfl : k = T := by omega
          have HAL : Hid (∀ l, l ∈ ls → 0 ≤ l ∧ l < (C : Int)) := by
            intro l hl
            obtain ⟨j, hj, e⟩ := List.getElem_of_mem hl
            have := hA.out j (by rw [hT.out] at hj; exact hj)
            rw [List.getD, List.getElem?_eq_getElem hj, Option.getD_some, e] at this
            exact this
          by_cases h20 : 20000 < tm
          · have HEN : Hid (E = 3) := by show E = 3; rw [← hE.out, if_pos HAL.out, if_pos rfl, if_pos h20]
            have g7 : 20000 < (tm : Int) := by omega
            clear hA HAL
            go_wp2
            go_ret
            exact ⟨ret_int HEN.out.symm, HB1.out⟩
          · have HEN : Hid (E = 0) := by show E = 0; rw [← hE.out, if_pos HAL.out, if_pos rfl, if_neg h20]
            have g7 : ¬ 20000 < (tm : Int) := by omega
            clear hA HAL
            go_wp2
            go_ret
            exact ⟨ret_int HEN.out.symm, HB1.out⟩
  · rw [if_neg hz]
    have hzz : (ce != 0) = true := by simpa using hz
    clear hz HSM
    go_enter Tryd.func12, Tryd.ntmps12
    go_wp2_with fail
    refine HCM.out.mono ?_
    rintro e w1 ⟨rfl, hb1⟩
    have HB1 := hide (HB0.out.trans (hb1.mono HB0.out.size))
    clear hb1 HB0 HCM d0 d1 d2
    go_wp2
    go_ret
    exact ⟨rfl, HB1.out⟩

end Go.Proofs.YtenpkhalgkodbaaDoor

/- Plain: methods and calls in which nothing is wrong. -/
namespace Go.Proofs.YtenpkhalgkodbaaDoor
open Go.RowKit
set_option maxRecDepth 20000
set_option linter.unusedVariables false

def NoRows (er : Int) (w : World) (e : Ending) (w' : World) : Prop := e = .returned (.tuple #[.slice none 0 0, .int .i64 er]) ∧ Below w.heap.size w w'

theorem mem_getDq {α : Type} {l : List α} {q : Nat} {d : α} (h : q < l.length) : l.getD q d ∈ l := by
  rw [List.getD, List.getElem?_eq_getElem h, Option.getD_some]; exact List.getElem_mem h

theorem okc_of {n : Int} {x : List Int} (h1 : 1 ≤ n) (h2 : n ≤ 12) (h : pc n x = 0) : okc n 0 x = true := by
  unfold pc at h
  rw [if_pos ⟨h1, h2⟩] at h
  unfold pck at h
  split at h
  · assumption
  · cases h

theorem tiles_in {n : Nat} {X : List (List Int)} (h1 : 1 ≤ n) (h2 : n ≤ 12) (h : fstE (n : Int) X = 0) : ∃ ss : List (List Bool), X = ss.map tpl ∧ ∀ t, t ∈ ss → tsz t = n :=
  tiles_of X (fun j hj => okc_of (by omega) (by omega) (fstE_zero h _ (by simp [List.getD, hj])))

/-- A method in which nothing is wrong. -/
theorem mErr_zero {s : ByteArray} {n : Int} {X : List (List Int)} (h : mErr s n X = 0) : ∃ (N : Nat) (ts : List (List Bool)), n = (N : Int) ∧ X = ts.map tpl ∧ nm s = true ∧ 2 ≤ N ∧ N ≤ 12 ∧ 1 ≤ ts.length ∧ ts.length ≤ 200 ∧ ∀ t, t ∈ ts → tsz t = N := by
  unfold mErr at h
  split at h
  · rename_i hn
    split at h
    · cases h
    · rename_i hc
      obtain ⟨N, rfl⟩ : ∃ N : Nat, n = (N : Int) := ⟨n.toNat, by omega⟩
      obtain ⟨ts, h3, h4⟩ := tiles_in (by omega) (by omega) h
      have hl : X.length = ts.length := by rw [h3, List.length_map]
      exact ⟨N, ts, rfl, h3, hn, by omega, by omega, by omega, by omega, h4⟩
  · cases h

theorem oErr_zero {n : Int} {K : Nat} {ah : List Cl} {c : Cl} (h : oErr n K ah c = 0) : sgnR c.1 = true ∧ c.1 ∉ ah.map Prod.fst ∧ c.2.length ≤ K ∧ fstE n c.2 = 0 := by
  unfold oErr at h
  split at h
  · rename_i h1
    split at h
    · cases h
    · rename_i h2
      split at h
      · cases h
      · rename_i h3; exact ⟨h1, h2, by omega, h⟩
  · cases h

theorem cFst_zero {n : Int} {K : Nat} {cs : List Cl} : ∀ m j, cs.length - j = m → cFst n K (cs.take j) (cs.drop j) = 0 → ∀ i, j ≤ i → i < cs.length → oErr n K (cs.take i) (cs.getD i (0, [])) = 0
  | 0, j, hm, _, i, h1, h2 => by omega
  | m + 1, j, hm, h, i, h1, h2 => by
    have hj : j < cs.length := by omega
    by_cases hz : oErr n K (cs.take j) (cs.getD j (0, [])) = 0
    · rcases Nat.lt_or_ge j i with h3 | h3
      · rw [cFst_ok hj hz] at h
        exact cFst_zero m (j + 1) (by omega) h i h3 h2
      · obtain rfl : i = j := by omega
        exact hz
    · rw [cFst_bad hj hz] at h
      exact absurd h hz

theorem tiles_cs {n : Nat} : ∀ (cs : List Cl), (∀ c, c ∈ cs → ∃ ss : List (List Bool), c.2 = ss.map tpl ∧ ∀ t, t ∈ ss → tsz t = n) → ∃ SS : List (List (List Bool)), SS.length = cs.length ∧ ∀ c, c < cs.length → (cs.getD c (0, [])).2 = (SS.getD c []).map tpl ∧ ∀ t, t ∈ SS.getD c [] → tsz t = n
  | [], _ => ⟨[], rfl, fun c hc => absurd hc (by simp)⟩
  | a :: cs, h => by
    obtain ⟨SS, h1, h2⟩ := tiles_cs cs (fun c hc => h c (List.mem_cons_of_mem _ hc))
    obtain ⟨ss, h3, h4⟩ := h a List.mem_cons_self
    refine ⟨ss :: SS, by simp [h1], fun c hc => ?_⟩
    cases c with
    | zero => exact ⟨h3, h4⟩
    | succ c => exact h2 c (by simpa using hc)

/-- Calls in which nothing is wrong. -/
theorem cErr_zero {s : ByteArray} {n : Int} {X : List (List Int)} {cs : List Cl} (h : cErr s n X cs = 0) : mErr s n X = 0 ∧ 1 ≤ cs.length ∧ cs.length ≤ 8 ∧ ∀ i, i < cs.length → oErr n X.length (cs.take i) (cs.getD i (0, [])) = 0 := by
  unfold cErr at h
  split at h
  · rename_i h1
    split at h
    · cases h
    · rename_i h2
      exact ⟨h1, by omega, by omega, fun i hi => cFst_zero cs.length 0 (by omega) h i (by omega) hi⟩
  · rename_i h1; exact absurd h h1

theorem calls_good {n : Nat} {K : Nat} {cs : List Cl} (h1 : 1 ≤ n) (h2 : n ≤ 12) (h : ∀ i, i < cs.length → oErr (n : Int) K (cs.take i) (cs.getD i (0, [])) = 0) :
    CallsOk (n : Int) K cs ∧ ∃ SS : List (List (List Bool)), ∀ c, c < cs.length → (cs.getD c (0, [])).2 = (SS.getD c []).map tpl ∧ (∀ t, t ∈ SS.getD c [] → tsz t = n) ∧ (SS.getD c []).length ≤ K := by
  have hz := fun i hi => oErr_zero (h i hi)
  refine ⟨⟨fun j hj => (hz j hj).1, fun i j hij hj e => (hz j hj).2.1 ((sign_in (Nat.le_of_lt hj)).2 ⟨i, hij, e⟩), fun j hj => (hz j hj).2.2.1, fun j hj q hq => okc_of (by omega) (by omega) (fstE_zero (hz j hj).2.2.2 _ (mem_getDq hq))⟩, ?_⟩
  obtain ⟨SS, h3, h4⟩ := tiles_cs (n := n) cs (fun c hc => by
    obtain ⟨j, hj, e⟩ := List.getElem_of_mem hc
    have h9 := (hz j hj).2.2.2
    have e2 : cs.getD j (0, []) = c := by rw [List.getD, List.getElem?_eq_getElem hj, Option.getD_some, e]
    rw [e2] at h9
    exact tiles_in h1 h2 h9)
  refine ⟨SS, fun c hc => ⟨(h4 c hc).1, (h4 c hc).2, ?_⟩⟩
  have := (hz c hc).2.2.1
  rw [(h4 c hc).1, List.length_map] at this
  exact this

end Go.Proofs.YtenpkhalgkodbaaDoor

/- Plain: a touch in which nothing is wrong. -/
namespace Go.Proofs.YtenpkhalgkodbaaDoor
open Go.RowKit
set_option maxRecDepth 20000
set_option linter.unusedVariables false

theorem nat_list2 {k : Nat} : ∀ {ls : List Int}, (∀ l, l ∈ ls → 0 ≤ l ∧ l < (k : Int)) → ∃ t : List Nat, nI t = ls ∧ ∀ c, c ∈ t → c < k
  | [], _ => ⟨[], rfl, fun c hc => by cases hc⟩
  | l :: ls, h => by
    obtain ⟨t, h1, h2⟩ := nat_list2 (ls := ls) (fun x hx => h x (List.mem_cons_of_mem _ hx))
    obtain ⟨a1, a2⟩ := h l List.mem_cons_self
    refine ⟨l.toNat :: t, ?_, fun c hc => ?_⟩
    · show ((l.toNat : Nat) : Int) :: nI t = l :: ls
      rw [h1, Int.toNat_of_nonneg a1]
    · rcases List.mem_cons.1 hc with rfl | hc
      · omega
      · exact h2 c hc

/-- A touch in which nothing is wrong. -/
theorem tErr_zero {W : World} {s : ByteArray} {n : Int} {vp : Option Addr} {vc : Nat} {X : List (List Int)} {cv : Value} {cs : List Cl} {lp : Option Addr} {lc : Nat} {ls : List Int} (h : tErr s n X cs ls = 0) (hs : s.size ≤ 1048576)
    (hv : IntsAll W (.slice vp X.length vc) X) (hcv : CallsIn W cv cs) (hl : Ints W (.slice lp ls.length lc) ls) (h60 : ls.length ≤ 60 ∨ 400 < ls.length) :
    ∃ (N : Nat) (ts : List (List Bool)) (SS : List (List (List Bool))) (t : List Nat), n = (N : Int) ∧ X.length = ts.length ∧ ls.length = t.length ∧ Tch W s N vp vc ts cv cs SS lp lc t := by
  unfold tErr at h
  split at h
  · rename_i hc
    split at h
    · rename_i hle
      split at h
      · cases h
      · rename_i hml
        obtain ⟨hm, c1, c2, c3⟩ := cErr_zero hc
        obtain ⟨N, ts, rfl, rfl, hn, a1, a2, a3, a4, a5⟩ := mErr_zero hm
        rw [List.length_map] at *
        obtain ⟨hok, SS, hSS⟩ := calls_good (by omega) a2 c3
        unfold lErr at hle
        split at hle
        · cases hle
        · rename_i hln
          split at hle
          · rename_i hall
            obtain ⟨t, ht1, ht2⟩ := nat_list2 hall
            subst ht1
            rw [nI_len] at *
            refine ⟨N, ts, SS, t, rfl, rfl, rfl, { size := hs, nam := hn, isn := by rw [nm_isN]; exact hn, n1 := a1, n2 := a2, l1 := a3, l2 := a4, tz := a5, val := hv, cat := ?_, cok := hok, c1 := c1, c2 := c2, css := hSS, lat := hl, t1 := by omega, t2 := by omega, tin := ht2, mul := by omega }⟩
            rcases hcv with ⟨h9, _⟩ | ⟨_, h9⟩
            · rw [h9] at c1; simp at c1
            · exact h9
          · cases hle
    · rename_i hle; exact absurd h hle
  · rename_i hc; exact absurd h hc

end Go.Proofs.YtenpkhalgkodbaaDoor

/- A refusal: call.Rows. -/
namespace Go.Proofs.YtenpkhalgkodbaaDoor
open Go.RowKit
set_option maxRecDepth 20000
set_option linter.unusedVariables false

set_option maxHeartbeats 2000000 in
theorem rows_bad (s : ByteArray) (n : Int) (vp : Option Addr) (vc : Nat) (css : List (List Int)) (cv : Value) (cs : List Cl) (lv : Value) (ls : List Int) (w : World) (hs : s.size ≤ 9223372036854775807)
    (hv : IntsAll w (.slice vp css.length vc) css) (hcv : CallsIn w cv cs) (hl : Ints w lv ls) (hz : tErr s n css cs ls ≠ 0) :
    Calls Tryd.prog 13 #[meth s n (.slice vp css.length vc), cv, lv] w (NoRows (tErr s n css cs ls) w) := by
  have hB0 : Below w.heap.size w (w.alloc (.cells #[.string s, .int .i64 n, .slice vp css.length vc] 24)) := (Below.refl _ _).alloc (Nat.le_refl _) _
  have HM := hide (may_all s n vp vc css cv cs lv ls (w.alloc (.cells #[.string s, .int .i64 n, .slice vp css.length vc] 24)) hs (hv.below hB0) (hcv.below hB0) (hl.below hB0))
  obtain ⟨cp, cc, rfl⟩ := hcv.form
  obtain ⟨lp, lc, rfl⟩ := hl.form
  clear hv hcv hl
  generalize tErr s n css cs ls = er at *
  have hzz : (er != 0) = true := by simpa using hz
  clear hz
  generalize css.length = K at *
  generalize ls.length = T at *
  generalize cs.length = C at *
  unfold meth at HM
  unfold meth
  go_enter Tryd.func13, Tryd.ntmps13
  go_wp2_with fail
  refine HM.out.mono ?_
  rintro e w1 ⟨rfl, hb1⟩
  have HB1 := hide (hB0.trans (hb1.mono hB0.size))
  clear hb1 HM hB0
  go_wp2
  go_ret2
  exact ⟨rfl, HB1.out⟩

end Go.Proofs.YtenpkhalgkodbaaDoor

/- The law CallSays where a touch may be. -/
namespace Go.Proofs.YtenpkhalgkodbaaDoor
open Go.RowKit Go.Shelf
set_option maxRecDepth 20000
set_option linter.unusedVariables false

set_option maxHeartbeats 8000000 in
theorem callSays_good (s : ByteArray) (n : Int) (vp : Option Addr) (vc : Nat) (X : List (List Int)) (cp : Option Addr) (cc : Nat) (cs : List Cl) (lp : Option Addr) (lc : Nat) (ls : List Int) (c : Int) (w : World) (hs : s.size ≤ 1048576)
    (hv : IntsAll w (.slice vp X.length vc) X) (hcv : CallsIn w (.slice cp cs.length cc) cs) (hl : Ints w (.slice lp ls.length lc) ls) (hsr : ∀ c, c < cs.length → -2147483648 ≤ (cs.getD c (0, [])).1 ∧ (cs.getD c (0, [])).1 ≤ 2147483647) (hz : tErr s n X cs ls = 0)
    (k1 : cs.length ≤ 12) (k3 : ls.length ≤ 500) (gT : ¬ 60 < (ls.length : Int)) :
    Calls Tryd.prog 3 #[.agg #[.string s, .int .i64 n, .slice vp X.length vc], .slice cp cs.length cc, .slice lp ls.length lc, .int .i32 c] w fun e w' => e = .returned (.bool true) ∧ Below w.heap.size w w' := by
  have hs2 : s.size ≤ 9223372036854775807 := Nat.le_trans hs (by omega)
  have HSG := hide (fun W => sign_any c W)
  have HSM := hide (fun W => signMay_any c W)
  have HCK := hide (fun W (hW : Below w.heap.size w W) => ccheck_all s n vp vc X _ cs W hs2 (hv.below hW) (hcv.below hW))
  have HCM := hide (fun W (hW : Below w.heap.size w W) => rcalls_all s n vp vc X _ cs W hs (hv.below hW) (hcv.below hW))
  have HPR := hide (fun W (hW : Below w.heap.size w W) => print_all _ cs _ ls W (hcv.below hW) (hl.below hW) hsr)
  have HRP := hide (fun W (hW : Below w.heap.size w W) => rprint_all _ cs _ ls W (hcv.below hW) (hl.below hW))
  have HTM := hide (fun W (hW : Below w.heap.size w W) => rtmay_all s n vp vc X _ cs _ ls W hs (hv.below hW) (hcv.below hW) (hl.below hW))
  have HMA := hide (fun W (hW : Below w.heap.size w W) => may_all s n vp vc X _ cs _ ls W hs2 (hv.below hW) (hcv.below hW) (hl.below hW))
  obtain ⟨N, ts, SS, t, hne, e1, e2, hT⟩ := tErr_zero hz hs hv hcv hl (by omega)
  rw [hz] at HTM HMA
  have HRW : Hid (∀ W, Below w.heap.size w W → Calls Tryd.prog 13 #[meth s n (.slice vp X.length vc), .slice cp cs.length cc, .slice lp ls.length lc] W (RowsPost (tRow N ts SS t) W)) := fun W hW => by rw [hne, e1, e2]; exact (hT.below hW).rows
  have HTR : Hid (∀ W, Below w.heap.size w W → Calls Tryd.prog 16 #[.agg #[.string s, .int .i64 n, .slice vp X.length vc], .slice cp cs.length cc, .slice lp ls.length lc] W (TRPost (tRow N ts SS t) W)) := fun W hW => by rw [hne, e1, e2]; exact (hT.below hW).rrows
  clear hT hne e1 e2
  generalize tRow N ts SS t = R at *
  unfold RowsPost at HRW
  unfold TRPost at HTR
  unfold meth at HCK HMA HRW
  clear hv hcv hl hz hs hs2 hsr
  generalize sgnR c = sq at *
  generalize cErr s n X cs = ce at *
  generalize lErr cs.length ls = le at *
  generalize (⟨(prT cs ls).toArray⟩ : ByteArray) = TX at *
  generalize X.length = K at *
  generalize cs.length = C at *
  generalize ls.length = T at *
  have hq1 : (sq != sq) = false := by simp
  have hq2 : (ce != ce) = false := by simp
  have hq3 : (le != le) = false := by simp
  have HBA := hide ((Below.refl w.heap.size w).alloc (Nat.le_refl _) (mbox s n (.slice vp K vc)))
  obtain ⟨d0, d1, d2⟩ := mbox_cells w s n (.slice vp K vc)
  have hs0 : w.heap.size < (w.alloc (mbox s n (.slice vp K vc))).heap.size := by simp
  have g1 : ¬ 12 < (C : Int) := by omega
  have g3 : ¬ 500 < (T : Int) := by omega
  go_enter Tryd.func3, Tryd.ntmps3
  go_upto_region 3 with fail
  change Code.wp _ _ _ _ (w.alloc (mbox s n (.slice vp K vc)))
  generalize w.alloc (mbox s n (.slice vp K vc)) = wA at *
  refine wp_region_held_drew (S := fun W' => Below wA.heap.size wA W') (by kernel_rfl) (Below.refl wA.heap.size wA).drew (fun hS => ?_)
  refine wpAnyH_take (i := 0) (v := .int .i32 c) rfl (by kernel_rfl) (by kernel_rfl) (by kernel_rfl) (fun _ _ _ h => h) (Or.inl ⟨by kernel_rfl, fun w' hS' => by clear hS'; go_simp⟩) hS ?_
  refine wpAnyH_take (i := 2) (v := .int .i32 c) rfl (by kernel_rfl) (by kernel_rfl) (by kernel_rfl) (fun _ _ _ h => h) (Or.inl ⟨by kernel_rfl, fun w' hS' => by clear hS'; go_simp⟩) hS ?_
  refine wpAnyH_ready (rs := [1]) (by kernel_rfl) (by simp) ?_
  refine (AllReadyH.cons rfl (fun K9 hK9 => ?_) AllReadyH.nil)
  go_simp
  refine (HSG.out _).mono ?_
  rintro e wq ⟨rfl, rfl⟩
  refine hK9.out _ _ hS (fun hS => ?_)
  clear hK9
  refine wpAnyH_ready (rs := [3]) (by kernel_rfl) (by simp) ?_
  refine (AllReadyH.cons rfl (fun K9 hK9 => ?_) AllReadyH.nil)
  go_simp
  refine (HSM.out _).mono ?_
  rintro e wq ⟨rfl, rfl⟩
  refine hK9.out _ _ hS (fun hS => ?_)
  clear hK9
  refine wpAnyH_take (i := 4) (v := .bool false) rfl (by kernel_rfl) (by kernel_rfl) (by kernel_rfl) (fun _ _ _ h => h) (Or.inl ⟨by kernel_rfl, fun w' hS' => by clear hS'; go_simp⟩) hS ?_
  refine wpAnyH_take (i := 5) (v := .bool false) rfl (by kernel_rfl) (by kernel_rfl) (by kernel_rfl) (fun _ _ _ h => h) (Or.inl ⟨by kernel_rfl, fun w' hS' => by clear hS'; go_simp⟩) hS ?_
  refine wpAnyH_take (i := 6) (v := .agg #[.string s, .int .i64 n, .slice vp K vc]) rfl (by kernel_rfl) (by kernel_rfl) (by kernel_rfl) (fun _ _ _ h => h) (Or.inl ⟨by kernel_rfl, fun w' hS' => by have q0 := (Below.cell hS' (p := ⟨w.heap.size, 0, none⟩) hs0).trans d0; have q1 := (Below.cell hS' (p := ⟨w.heap.size, 1, none⟩) hs0).trans d1; have q2 := (Below.cell hS' (p := ⟨w.heap.size, 2, none⟩) hs0).trans d2; clear hS'; go_simp⟩) hS ?_
  refine wpAnyH_take (i := 7) (v := .slice cp C cc) rfl (by kernel_rfl) (by kernel_rfl) (by kernel_rfl) (fun _ _ _ h => h) (Or.inl ⟨by kernel_rfl, fun w' hS' => by clear hS'; go_simp⟩) hS ?_
  refine wpAnyH_take (i := 9) (v := .agg #[.string s, .int .i64 n, .slice vp K vc]) rfl (by kernel_rfl) (by kernel_rfl) (by kernel_rfl) (fun _ _ _ h => h) (Or.inl ⟨by kernel_rfl, fun w' hS' => by have q0 := (Below.cell hS' (p := ⟨w.heap.size, 0, none⟩) hs0).trans d0; have q1 := (Below.cell hS' (p := ⟨w.heap.size, 1, none⟩) hs0).trans d1; have q2 := (Below.cell hS' (p := ⟨w.heap.size, 2, none⟩) hs0).trans d2; clear hS'; go_simp⟩) hS ?_
  refine wpAnyH_take (i := 10) (v := .slice cp C cc) rfl (by kernel_rfl) (by kernel_rfl) (by kernel_rfl) (fun _ _ _ h => h) (Or.inl ⟨by kernel_rfl, fun w' hS' => by clear hS'; go_simp⟩) hS ?_
  have hS0 := hS
  refine wpAnyH_ready (rs := [8]) (by kernel_rfl) (by simp) ?_
  refine (AllReadyH.cons rfl (fun K9 hK9 => ?_) AllReadyH.nil)
  go_simp
  refine (HCK.out _ (HBA.out.trans (hS0.mono HBA.out.size))).mono ?_
  rintro e wk1 ⟨rfl, hbk1⟩
  have hB1 : Below wA.heap.size wA wk1 := hS0.trans (hbk1.mono hS0.size)
  refine hK9.out _ _ hB1 (fun hS => ?_)
  clear hK9
  refine wpAnyH_ready (rs := [11]) (by kernel_rfl) (by simp) ?_
  refine (AllReadyH.cons rfl (fun K9 hK9 => ?_) AllReadyH.nil)
  go_simp
  refine (HCM.out _ (HBA.out.trans (hB1.mono HBA.out.size))).mono ?_
  rintro e wk2 ⟨rfl, hbk2⟩
  have hB2 : Below wA.heap.size wA wk2 := hB1.trans (hbk2.mono hB1.size)
  refine hK9.out _ _ hB2 (fun hS => ?_)
  clear hK9
  refine wpAnyH_take (i := 12) (v := .bool false) rfl (by kernel_rfl) (by kernel_rfl) (by kernel_rfl) (fun _ _ _ h => h) (Or.inl ⟨by kernel_rfl, fun w' hS' => by clear hS'; go_simp⟩) hS ?_
  refine wpAnyH_take (i := 13) (v := .bool false) rfl (by kernel_rfl) (by kernel_rfl) (by kernel_rfl) (fun _ _ _ h => h) (Or.inl ⟨by kernel_rfl, fun w' hS' => by clear hS'; go_simp⟩) hS ?_
  refine wpAnyH_done (by kernel_rfl) ?_ _
  have HW2 := hide (HBA.out.trans (hB2.mono HBA.out.size))
  have m0 := (hB2.cell (p := ⟨w.heap.size, 0, none⟩) hs0).trans d0
  have m1 := (hB2.cell (p := ⟨w.heap.size, 1, none⟩) hs0).trans d1
  have m2 := (hB2.cell (p := ⟨w.heap.size, 2, none⟩) hs0).trans d2
  have hs2 : w.heap.size < wk2.heap.size := Nat.lt_of_lt_of_le hs0 hB2.size
  clear hS d0 d1 d2
  generalize wk2 = wp2 at *
  go_wp2_with fail
  refine (HPR.out _ HW2.out).mono ?_
  rintro e w3 ⟨rfl, hb3⟩
  have x2 : ∀ j', w3.cell? ⟨w.heap.size, j', none⟩ = wp2.cell? ⟨w.heap.size, j', none⟩ := fun j' => hb3.cell (p := ⟨w.heap.size, j', none⟩) hs2
  have n0 := (x2 0).trans m0
  have n1 := (x2 1).trans m1
  have n2 := (x2 2).trans m2
  have HW3 := hide (HW2.out.trans (hb3.mono HW2.out.size))
  have hs3 : w.heap.size < w3.heap.size := Nat.lt_of_lt_of_le hs2 hb3.size
  clear hb3 x2 m0 m1 m2 HW2
  go_wp2_with fail
  refine (HRP.out _ HW3.out).mono ?_
  rintro e w4 ⟨rfl, hb4⟩
  have x3 : ∀ j', w4.cell? ⟨w.heap.size, j', none⟩ = w3.cell? ⟨w.heap.size, j', none⟩ := fun j' => hb4.cell (p := ⟨w.heap.size, j', none⟩) hs3
  have m0 := (x3 0).trans n0
  have m1 := (x3 1).trans n1
  have m2 := (x3 2).trans n2
  have HW4 := hide (HW3.out.trans (hb4.mono HW3.out.size))
  have hs4 : w.heap.size < w4.heap.size := Nat.lt_of_lt_of_le hs3 hb4.size
  clear hb4 x3 n0 n1 n2 HW3
  go_wp2_with fail
  refine (HTM.out _ HW4.out).mono ?_
  rintro e w5 ⟨rfl, hb5⟩
  have x4 : ∀ j', w5.cell? ⟨w.heap.size, j', none⟩ = w4.cell? ⟨w.heap.size, j', none⟩ := fun j' => hb5.cell (p := ⟨w.heap.size, j', none⟩) hs4
  have n0 := (x4 0).trans m0
  have n1 := (x4 1).trans m1
  have n2 := (x4 2).trans m2
  have HW5 := hide (HW4.out.trans (hb5.mono HW4.out.size))
  have hs5 : w.heap.size < w5.heap.size := Nat.lt_of_lt_of_le hs4 hb5.size
  clear hb5 x4 m0 m1 m2 HW4
  go_wp2_with fail
  refine (HRW.out _ HW5.out).mono ?_
  rintro e w6 ⟨u6, vs6, rfl, hL6, hb6⟩
  have HI6 := hide hL6.ints
  have hl6 : vs6.length = R.length := hL6.len
  obtain ⟨p6, c6, rfl⟩ := owns_slice hL6.row
  rw [hl6] at HI6 ⊢
  clear hL6 hl6
  have x5 : ∀ j', w6.cell? ⟨w.heap.size, j', none⟩ = w5.cell? ⟨w.heap.size, j', none⟩ := fun j' => hb6.cell (p := ⟨w.heap.size, j', none⟩) hs5
  have m0 := (x5 0).trans n0
  have m1 := (x5 1).trans n1
  have m2 := (x5 2).trans n2
  have HW6 := hide (HW5.out.trans (hb6.mono HW5.out.size))
  have hs6 : w.heap.size < w6.heap.size := Nat.lt_of_lt_of_le hs5 hb6.size
  clear hb6 x5 n0 n1 n2 HW5
  go_wp2_with fail
  refine (HMA.out _ HW6.out).mono ?_
  rintro e w7 ⟨rfl, hb7⟩
  have HI7 := hide (HI6.out.below hb7)
  have x6 : ∀ j', w7.cell? ⟨w.heap.size, j', none⟩ = w6.cell? ⟨w.heap.size, j', none⟩ := fun j' => hb7.cell (p := ⟨w.heap.size, j', none⟩) hs6
  have n0 := (x6 0).trans m0
  have n1 := (x6 1).trans m1
  have n2 := (x6 2).trans m2
  have HW7 := hide (HW6.out.trans (hb7.mono HW6.out.size))
  have hs7 : w.heap.size < w7.heap.size := Nat.lt_of_lt_of_le hs6 hb7.size
  clear hb7 x6 m0 m1 m2 HW6
  go_wp2_with fail
  refine (HTR.out _ HW7.out).mono ?_
  rintro e w8 ⟨u8, vs8, rfl, hL8, hb8⟩
  have hI8 := hL8.ints
  have HSA : Hid (Calls Tryd.prog 15 #[.slice p6 R.length c6, u8] w8 fun e w' => e = .returned (.bool true) ∧ Below w8.heap.size w8 w') := (sameAll_any _ _ _ _ w8 (HI7.out.below hb8) hI8).mono (fun e w' h => ⟨h.1.trans (by simp), h.2⟩)
  have HW8 := hide (HW7.out.trans (hb8.mono HW7.out.size))
  obtain ⟨p8, c8, rfl⟩ := hI8.len
  clear hL8 hI8 hb8 HI7 HI6
  go_wp2_with fail
  refine HSA.out.mono ?_
  rintro e w9 ⟨rfl, hb9⟩
  have HW9 := hide (HW8.out.trans (hb9.mono HW8.out.size))
  clear hb9 HSA HW8
  go_wp2
  go_ret
  exact ⟨rfl, HW9.out⟩

end Go.Proofs.YtenpkhalgkodbaaDoor
