/- The walk of PlaceSays. (Written by mkps.py.) -/
import Derived.Test.YtgglbafcocbhbaaPSd
import Derived.Test.YtgglbafcocbhbaaPrsC
namespace Go.Proofs.Ytgglbafcocbhbaa
open Go.RowKit

/-- The error behind k changes. -/
def ek (e0 n : Int) (l : List (List Int)) : Nat → Int
  | 0 => e0
  | k + 1 => if ek e0 n l k = 0 then pc n (l.getD k []) else ek e0 n l k

theorem ek_one (n : Int) (l : List (List Int)) : ∀ k, ek 1 n l k = 1
  | 0 => rfl
  | k + 1 => by unfold ek; rw [ek_one n l k, if_neg (by decide)]

theorem ek_ok {n : Int} {l : List (List Int)} : ∀ {k : Nat}, ek 0 n l k = 0 → ∀ j, j < k → pc n (l.getD j []) = 0
  | 0, _, j, hj => absurd hj (Nat.not_lt_zero _)
  | k + 1, h, j, hj => by
    unfold ek at h
    by_cases h0 : ek 0 n l k = 0
    · rw [if_pos h0] at h
      rcases Nat.lt_succ_iff_lt_or_eq.1 hj with hj | rfl
      · exact ek_ok h0 j hj
      · exact h
    · rw [if_neg h0] at h; exact absurd h h0

theorem ek_bad {n : Int} {l : List (List Int)} : ∀ {k : Nat}, ek 0 n l k ≠ 0 → ∃ k0, k0 < k ∧ pc n (l.getD k0 []) = ek 0 n l k ∧ ∀ j, j < k0 → pc n (l.getD j []) = 0
  | 0, h => absurd rfl h
  | k + 1, h => by
    unfold ek at h ⊢
    by_cases h0 : ek 0 n l k = 0
    · rw [if_pos h0]
      exact ⟨k, Nat.lt_succ_self k, rfl, ek_ok h0⟩
    · rw [if_neg h0]
      obtain ⟨k0, a1, a2, a3⟩ := ek_bad h0
      exact ⟨k0, Nat.lt_succ_of_lt a1, a2, a3⟩

set_option maxRecDepth 20000 in
set_option maxHeartbeats 2000000 in
theorem placeSays_none (n : Int) (v : Value) (w : World) (hv : IntsAll w v []) :
    Calls Try.prog 5 #[.int .i64 n, v] w fun e w' => e = .returned (.bool true) ∧ Below w.heap.size w w' := by
  have HP := hide (print_count n v [] w hv (Or.inl (by simp)))
  obtain ⟨p, c, rfl⟩ := hv.len
  clear hv
  go_enter Try.func5, Try.ntmps5
  go_wp2
  go_loop [5, 6] (fun e i => e = .int .i64 1 ∧ i = .int .i64 0) (fun _ _ => 0)
  case atStart => exact ⟨rfl, rfl⟩
  case round =>
    obtain ⟨rfl, rfl⟩ := hrel
    go_wp2_with fail
    refine HP.out.mono ?_
    rintro e w' ⟨rfl, rfl⟩
    go_wp2
    go_ret
    exact ⟨rfl, Below.refl _ _⟩

set_option maxRecDepth 20000 in
set_option maxHeartbeats 2000000 in
theorem placeSays_long (n : Int) (v : Value) (l : List (List Int)) (w : World) (hv : IntsAll w v l) (h1 : 1 ≤ l.length) (h2 : 200 < l.length) :
    Calls Try.prog 5 #[.int .i64 n, v] w fun e w' => e = .returned (.bool true) ∧ Below w.heap.size w w' := by
  have HV := hide hv
  obtain ⟨b, off, cap, rfl, hb, hlc, hcm, hcell⟩ := hv.cell h1
  have HC := hide hcell
  clear hv hcell
  have h1n : ¬ l.length < 1 := by omega
  go_enter Try.func5, Try.ntmps5
  go_wp2
  go_loopw [5, 6] (fun e i wr => ∃ (k : Nat) (E : Int), k ≤ l.length ∧ i = .int .i64 k ∧ e = .int .i64 E ∧ Hid (E = ek 1 n l k) ∧ Below w.heap.size w wr) (fun _ i _ => l.length - (intOf i).toNat)
  case atStart => exact ⟨0, 1, by omega, rfl, rfl, rfl, Below.refl _ _⟩
  case round =>
    obtain ⟨k, E, hk, rfl, rfl, hE, hbw⟩ := hrel
    have hbs := hbw.size
    by_cases hlt : k < l.length
    · obtain ⟨p, c, hce, hint⟩ := HC.out k hlt
      have gp : wr.cell? ⟨b, off + k, none⟩ = some (.slice p (l.getD k []).length c) := (hbw.cell (by exact hb)).trans hce
      have hI := hint.out.below hbw
      have HM := hide (changeMay_all n _ _ wr hI)
      have HK := hide (pcheck_all n _ _ wr hI)
      have hr := pc_range n (l.getD k [])
      have HN : Hid (ek 1 n l (k + 1) = if E = 0 then pc n (l.getD k []) else E) := by show _ = _; rw [hE.out]; rfl
      clear hce hint hE
      by_cases hz : pc n (l.getD k []) = 0
      · obtain ⟨a1, a2, a3⟩ := pc_zero hz
        obtain ⟨nn, rfl⟩ := Int.eq_ofNat_of_zero_le (show 0 ≤ n by omega)
        obtain ⟨t, ht1, ht2⟩ := (okc_iff nn _).1 a3
        have hI2 : Ints wr (.slice p (l.getD k []).length c) (tpl t) := by rw [ht2]; exact hI
        have hR := prow_ok t nn _ wr ht1 (by omega) (by omega) hI2
        have HT := hide ht1
        have HI := hide hI2
        have HR := hide hR
        rw [hz] at HM HK HN
        clear hI hI2 hR a3 ht1 ht2 hr hz
        generalize (l.getD k []).length = pl at *
        go_wp2_with fail
        refine HM.out.mono ?_
        rintro e w' ⟨rfl, rfl⟩
        go_wp2_with fail
        refine HK.out.mono ?_
        rintro e w' ⟨rfl, rfl⟩
        go_wp2_with fail
        refine HR.out.mono ?_
        rintro e w2 ⟨rv, rfl, hown2, hb2⟩
        have hbs2 := hb2.size
        obtain ⟨rp, rc, rfl⟩ := owns_slice hown2
        have HR2 := hide (changeRow_ok t nn _ w2 HT.out (by omega) (by omega) (HI.out.below hb2))
        have HI2 := hide (Ints.own (xs := trow t) hown2)
        have hb02 : Below w.heap.size w w2 := hbw.trans (hb2.mono hbs)
        have g2 : w2.cell? ⟨b, off + k, none⟩ = some (.slice p pl c) := (hb2.cell (p := ⟨b, off + k, none⟩) (Nat.lt_of_lt_of_le hb hbs)).trans gp
        clear hown2 HM HK HR HI hb2
        go_wp2_with fail
        refine HR2.out.mono ?_
        rintro e w3 ⟨cv, rfl, hown3, hb3⟩
        obtain ⟨cp, cc, rfl⟩ := owns_slice hown3
        have HS := hide (same_any _ _ (trow t) (trow t) w3 (HI2.out.below hb3) (Ints.own (xs := trow t) hown3))
        rw [decide_eq_true rfl] at HS
        have hb03 : Below w.heap.size w w3 := hb02.trans (hb3.mono hb02.size)
        clear hown3 HR2 hb3 HI2
        go_wp2_with fail
        refine HS.out.mono ?_
        rintro e w4 h4
        obtain ⟨rfl, hb4⟩ := h4
        have hb04 : Below w.heap.size w w4 := hb03.trans (hb4.mono hb03.size)
        clear hb4
        by_cases hE0 : E = 0
        · have HN2 : Hid (ek 1 (nn : Int) l (k + 1) = 0) := by show _ = _; rw [HN.out, if_pos hE0]
          subst hE0
          go_wp2
          go_roundw
          case rel => exact ⟨k + 1, 0, by omega, by go_num, rfl, HN2.out.symm, hb04⟩
          case measure => simp [intOf]; omega
        · have HN2 : Hid (ek 1 (nn : Int) l (k + 1) = E) := by show _ = _; rw [HN.out, if_neg hE0]
          have hEb : (E == 0) = false := by rw [beq_eq_false_iff_ne]; exact hE0
          clear hE0
          go_wp2
          go_roundw
          case rel => exact ⟨k + 1, E, by omega, by go_num, rfl, HN2.out.symm, hb04⟩
          case measure => simp [intOf]; omega
      · have HR := hide (prow_no n _ _ wr hI hz)
        generalize hzz : pc n (l.getD k []) = z at *
        have hz2 : z = 1 ∨ z = 6 := by omega
        clear hI hr hz hzz
        generalize (l.getD k []).length = pl at *
        by_cases hE0 : E = 0
        · have HN2 : Hid (ek 1 n l (k + 1) = z) := by show _ = _; rw [HN.out, if_pos hE0]
          subst hE0
          clear HN
          rcases hz2 with rfl | rfl
          · go_wp2_with fail
            refine HM.out.mono ?_
            rintro e w' ⟨rfl, rfl⟩
            go_wp2_with fail
            refine HK.out.mono ?_
            rintro e w' ⟨rfl, rfl⟩
            go_wp2_with fail
            refine HR.out.mono ?_
            rintro e w' ⟨rfl, rfl⟩
            go_wp2
            go_roundw
            case rel => exact ⟨k + 1, 1, by omega, by go_num, rfl, HN2.out.symm, hbw⟩
            case measure => simp [intOf]; omega
          · go_wp2_with fail
            refine HM.out.mono ?_
            rintro e w' ⟨rfl, rfl⟩
            go_wp2_with fail
            refine HK.out.mono ?_
            rintro e w' ⟨rfl, rfl⟩
            go_wp2_with fail
            refine HR.out.mono ?_
            rintro e w' ⟨rfl, rfl⟩
            go_wp2
            go_roundw
            case rel => exact ⟨k + 1, 6, by omega, by go_num, rfl, HN2.out.symm, hbw⟩
            case measure => simp [intOf]; omega
        · have HN2 : Hid (ek 1 n l (k + 1) = E) := by show _ = _; rw [HN.out, if_neg hE0]
          have hEb : (E == 0) = false := by rw [beq_eq_false_iff_ne]; exact hE0
          clear HN hE0
          rcases hz2 with rfl | rfl
          · go_wp2_with fail
            refine HM.out.mono ?_
            rintro e w' ⟨rfl, rfl⟩
            go_wp2_with fail
            refine HK.out.mono ?_
            rintro e w' ⟨rfl, rfl⟩
            go_wp2_with fail
            refine HR.out.mono ?_
            rintro e w' ⟨rfl, rfl⟩
            go_wp2
            go_roundw
            case rel => exact ⟨k + 1, E, by omega, by go_num, rfl, HN2.out.symm, hbw⟩
            case measure => simp [intOf]; omega
          · go_wp2_with fail
            refine HM.out.mono ?_
            rintro e w' ⟨rfl, rfl⟩
            go_wp2_with fail
            refine HK.out.mono ?_
            rintro e w' ⟨rfl, rfl⟩
            go_wp2_with fail
            refine HR.out.mono ?_
            rintro e w' ⟨rfl, rfl⟩
            go_wp2
            go_roundw
            case rel => exact ⟨k + 1, E, by omega, by go_num, rfl, HN2.out.symm, hbw⟩
            case measure => simp [intOf]; omega
    · obtain rfl : k = l.length := by omega
      have HVr := hide (HV.out.below hbw)
      have hE1 : E = 1 := by rw [hE.out, ek_one]
      subst hE1
      have HP := hide (print_count n _ l wr HVr.out (Or.inr h2))
      clear hE
      go_wp2_with fail
      refine HP.out.mono ?_
      rintro e w' ⟨rfl, rfl⟩
      go_wp2
      go_ret
      exact ⟨rfl, hbw⟩

set_option maxRecDepth 20000 in
set_option maxHeartbeats 2000000 in
theorem placeSays_mid (n : Int) (v : Value) (l : List (List Int)) (w : World) (hv : IntsAll w v l) (h1 : 1 ≤ l.length) (h2 : l.length ≤ 200) :
    Calls Try.prog 5 #[.int .i64 n, v] w fun e w' => e = .returned (.bool true) ∧ Below w.heap.size w w' := by
  have HV := hide hv
  obtain ⟨b, off, cap, rfl, hb, hlc, hcm, hcell⟩ := hv.cell h1
  have HC := hide hcell
  clear hv hcell
  go_enter Try.func5, Try.ntmps5
  go_wp2
  go_loopw [5, 6] (fun e i wr => ∃ (k : Nat) (E : Int), k ≤ l.length ∧ i = .int .i64 k ∧ e = .int .i64 E ∧ Hid (E = ek 0 n l k) ∧ Below w.heap.size w wr) (fun _ i _ => l.length - (intOf i).toNat)
  case atStart => exact ⟨0, 0, by omega, rfl, rfl, rfl, Below.refl _ _⟩
  case round =>
    obtain ⟨k, E, hk, rfl, rfl, hE, hbw⟩ := hrel
    have hbs := hbw.size
    by_cases hlt : k < l.length
    · obtain ⟨p, c, hce, hint⟩ := HC.out k hlt
      have gp : wr.cell? ⟨b, off + k, none⟩ = some (.slice p (l.getD k []).length c) := (hbw.cell (by exact hb)).trans hce
      have hI := hint.out.below hbw
      have HM := hide (changeMay_all n _ _ wr hI)
      have HK := hide (pcheck_all n _ _ wr hI)
      have hr := pc_range n (l.getD k [])
      have HN : Hid (ek 0 n l (k + 1) = if E = 0 then pc n (l.getD k []) else E) := by show _ = _; rw [hE.out]; rfl
      clear hce hint hE
      by_cases hz : pc n (l.getD k []) = 0
      · obtain ⟨a1, a2, a3⟩ := pc_zero hz
        obtain ⟨nn, rfl⟩ := Int.eq_ofNat_of_zero_le (show 0 ≤ n by omega)
        obtain ⟨t, ht1, ht2⟩ := (okc_iff nn _).1 a3
        have hI2 : Ints wr (.slice p (l.getD k []).length c) (tpl t) := by rw [ht2]; exact hI
        have hR := prow_ok t nn _ wr ht1 (by omega) (by omega) hI2
        have HT := hide ht1
        have HI := hide hI2
        have HR := hide hR
        rw [hz] at HM HK HN
        clear hI hI2 hR a3 ht1 ht2 hr hz
        generalize (l.getD k []).length = pl at *
        go_wp2_with fail
        refine HM.out.mono ?_
        rintro e w' ⟨rfl, rfl⟩
        go_wp2_with fail
        refine HK.out.mono ?_
        rintro e w' ⟨rfl, rfl⟩
        go_wp2_with fail
        refine HR.out.mono ?_
        rintro e w2 ⟨rv, rfl, hown2, hb2⟩
        have hbs2 := hb2.size
        obtain ⟨rp, rc, rfl⟩ := owns_slice hown2
        have HR2 := hide (changeRow_ok t nn _ w2 HT.out (by omega) (by omega) (HI.out.below hb2))
        have HI2 := hide (Ints.own (xs := trow t) hown2)
        have hb02 : Below w.heap.size w w2 := hbw.trans (hb2.mono hbs)
        have g2 : w2.cell? ⟨b, off + k, none⟩ = some (.slice p pl c) := (hb2.cell (p := ⟨b, off + k, none⟩) (Nat.lt_of_lt_of_le hb hbs)).trans gp
        clear hown2 HM HK HR HI hb2
        go_wp2_with fail
        refine HR2.out.mono ?_
        rintro e w3 ⟨cv, rfl, hown3, hb3⟩
        obtain ⟨cp, cc, rfl⟩ := owns_slice hown3
        have HS := hide (same_any _ _ (trow t) (trow t) w3 (HI2.out.below hb3) (Ints.own (xs := trow t) hown3))
        rw [decide_eq_true rfl] at HS
        have hb03 : Below w.heap.size w w3 := hb02.trans (hb3.mono hb02.size)
        clear hown3 HR2 hb3 HI2
        go_wp2_with fail
        refine HS.out.mono ?_
        rintro e w4 h4
        obtain ⟨rfl, hb4⟩ := h4
        have hb04 : Below w.heap.size w w4 := hb03.trans (hb4.mono hb03.size)
        clear hb4
        by_cases hE0 : E = 0
        · have HN2 : Hid (ek 0 (nn : Int) l (k + 1) = 0) := by show _ = _; rw [HN.out, if_pos hE0]
          subst hE0
          go_wp2
          go_roundw
          case rel => exact ⟨k + 1, 0, by omega, by go_num, rfl, HN2.out.symm, hb04⟩
          case measure => simp [intOf]; omega
        · have HN2 : Hid (ek 0 (nn : Int) l (k + 1) = E) := by show _ = _; rw [HN.out, if_neg hE0]
          have hEb : (E == 0) = false := by rw [beq_eq_false_iff_ne]; exact hE0
          clear hE0
          go_wp2
          go_roundw
          case rel => exact ⟨k + 1, E, by omega, by go_num, rfl, HN2.out.symm, hb04⟩
          case measure => simp [intOf]; omega
      · have HR := hide (prow_no n _ _ wr hI hz)
        generalize hzz : pc n (l.getD k []) = z at *
        have hz2 : z = 1 ∨ z = 6 := by omega
        clear hI hr hz hzz
        generalize (l.getD k []).length = pl at *
        by_cases hE0 : E = 0
        · have HN2 : Hid (ek 0 n l (k + 1) = z) := by show _ = _; rw [HN.out, if_pos hE0]
          subst hE0
          clear HN
          rcases hz2 with rfl | rfl
          · go_wp2_with fail
            refine HM.out.mono ?_
            rintro e w' ⟨rfl, rfl⟩
            go_wp2_with fail
            refine HK.out.mono ?_
            rintro e w' ⟨rfl, rfl⟩
            go_wp2_with fail
            refine HR.out.mono ?_
            rintro e w' ⟨rfl, rfl⟩
            go_wp2
            go_roundw
            case rel => exact ⟨k + 1, 1, by omega, by go_num, rfl, HN2.out.symm, hbw⟩
            case measure => simp [intOf]; omega
          · go_wp2_with fail
            refine HM.out.mono ?_
            rintro e w' ⟨rfl, rfl⟩
            go_wp2_with fail
            refine HK.out.mono ?_
            rintro e w' ⟨rfl, rfl⟩
            go_wp2_with fail
            refine HR.out.mono ?_
            rintro e w' ⟨rfl, rfl⟩
            go_wp2
            go_roundw
            case rel => exact ⟨k + 1, 6, by omega, by go_num, rfl, HN2.out.symm, hbw⟩
            case measure => simp [intOf]; omega
        · have HN2 : Hid (ek 0 n l (k + 1) = E) := by show _ = _; rw [HN.out, if_neg hE0]
          have hEb : (E == 0) = false := by rw [beq_eq_false_iff_ne]; exact hE0
          clear HN hE0
          rcases hz2 with rfl | rfl
          · go_wp2_with fail
            refine HM.out.mono ?_
            rintro e w' ⟨rfl, rfl⟩
            go_wp2_with fail
            refine HK.out.mono ?_
            rintro e w' ⟨rfl, rfl⟩
            go_wp2_with fail
            refine HR.out.mono ?_
            rintro e w' ⟨rfl, rfl⟩
            go_wp2
            go_roundw
            case rel => exact ⟨k + 1, E, by omega, by go_num, rfl, HN2.out.symm, hbw⟩
            case measure => simp [intOf]; omega
          · go_wp2_with fail
            refine HM.out.mono ?_
            rintro e w' ⟨rfl, rfl⟩
            go_wp2_with fail
            refine HK.out.mono ?_
            rintro e w' ⟨rfl, rfl⟩
            go_wp2_with fail
            refine HR.out.mono ?_
            rintro e w' ⟨rfl, rfl⟩
            go_wp2
            go_roundw
            case rel => exact ⟨k + 1, E, by omega, by go_num, rfl, HN2.out.symm, hbw⟩
            case measure => simp [intOf]; omega
    · obtain rfl : k = l.length := by omega
      have HVr := hide (HV.out.below hbw)
      by_cases hE0 : E = 0
      · subst hE0
        have hok := ek_ok hE.out.symm
        obtain ⟨a1, a2, a3⟩ := pc_zero (hok 0 (by omega))
        have hokc : ∀ ps, ps ∈ l → okc n 0 ps = true := fun ps hp => (pc_zero (pc_all hok ps hp)).2.2
        have hln := ptx_length l (fun ps hp => (okc_bound a1 a2 (hokc ps hp)).1)
        have HP := hide (print_ok n _ l wr HVr.out h1 h2 hok)
        have HPT := hide (fun (v : Value) (w : World) (hv : IntsAll w v l) => placesText_ok v l w hv h1 h2 (fun k hk => okc_bound a1 a2 (hokc _ (getL_mem l k hk))) hln)
        have HPA := hide (parse_ptx a1 a2 h1 h2 hokc)
        have hsz : (strOfNums (ptx l l.length)).size ≤ 4000 := by rw [strOfNums_size]; have := hln l.length; omega
        have HPR := hide (fun w => parse_ok n (strOfNums (ptx l l.length)) w a1 a2 hsz)
        clear hok hokc hln hE hsz
        generalize strOfNums (ptx l l.length) = S at *
        go_wp2_with fail
        refine HP.out.mono ?_
        rintro e w2 ⟨rfl, hb2⟩
        have hb02 : Below w.heap.size w w2 := hbw.trans (hb2.mono hbs)
        go_wp2_with fail
        refine (HPR.out w2).mono ?_
        rintro e w3 ⟨hb3, bv, rfl, hbi⟩
        rw [HPA.out]
        rw [HPA.out] at hbi
        have hb03 : Below w.heap.size w w3 := hb02.trans (hb3.mono hb02.size)
        have hV3 := (HVr.out.below hb2).below hb3
        have HPT3 := hide (HPT.out _ w3 hV3)
        have HSA := hide (sameAll_any _ _ l l w3 hbi hV3)
        rw [decide_eq_true rfl] at HSA
        clear HP HPR hbi hV3 hb2 hb3 hb02 HPT
        go_wp2_with fail
        refine HPT3.out.mono ?_
        rintro e w' ⟨rfl, rfl⟩
        go_wp2_with fail
        refine HSA.out.mono ?_
        rintro e w5 ⟨rfl, hb5⟩
        have hb05 : Below w.heap.size w w5 := hb03.trans (hb5.mono hb03.size)
        clear hb5
        go_wp2
        go_ret
        exact ⟨rfl, hb05⟩
      · obtain ⟨k0, c1, c2, c3⟩ := ek_bad (by rw [← hE.out]; exact hE0)
        rw [← hE.out] at c2
        have hP := print_bad n _ l wr HVr.out h1 h2 k0 c1 (by rw [c2]; exact hE0) c3
        rw [c2] at hP
        have HP := hide hP
        have hr := pc_range n (l.getD k0 [])
        rw [c2] at hr
        have hE2 : E = 1 ∨ E = 6 := by omega
        clear hP hr hE c2 c3 hE0
        rcases hE2 with rfl | rfl
        · go_wp2_with fail
          refine HP.out.mono ?_
          rintro e w' ⟨rfl, rfl⟩
          go_wp2
          go_ret
          exact ⟨rfl, hbw⟩
        · go_wp2_with fail
          refine HP.out.mono ?_
          rintro e w' ⟨rfl, rfl⟩
          go_wp2
          go_ret
          exact ⟨rfl, hbw⟩

theorem placeSays_walk (n : Int) (v : Value) (l : List (List Int)) (w : World) (hv : IntsAll w v l) :
    Calls Try.prog 5 #[.int .i64 n, v] w fun e w' => e = .returned (.bool true) ∧ Below w.heap.size w w' := by
  by_cases h1 : 1 ≤ l.length
  · by_cases h2 : l.length ≤ 200
    · exact placeSays_mid n v l w hv h1 h2
    · exact placeSays_long n v l w hv h1 (by omega)
  · obtain rfl : l = [] := List.length_eq_zero_iff.1 (by omega)
    exact placeSays_none n v w hv

end Go.Proofs.Ytgglbafcocbhbaa
