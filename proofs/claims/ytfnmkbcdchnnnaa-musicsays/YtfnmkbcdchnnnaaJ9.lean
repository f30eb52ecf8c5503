/- Joined: MvG, Mat. -/
import Derived.Test.YtfnmkbcdchnnnaaJ8
import Derived.Test.YtfnmkbcdchnnnaaJ4
import Derived.Deep.Matrix
import Derived.OpenShut
/- The law MusicSays. -/
namespace Go.Proofs.Ytfnmkbcdchnnnaa
open Go.RowKit
set_option maxRecDepth 20000
set_option linter.unusedVariables false

theorem cntR_le (k : Nat) (f : Nat → Bool) : cntR k f ≤ k := by
  unfold cntR
  exact Nat.le_trans (List.length_filter_le _ _) (by simp)

set_option maxHeartbeats 16000000 in
theorem musicSays_walk (n : Int) (v1 : Value) (ss : List ByteArray) (v2 : Value) (L : List (List Int)) (w : World) (h1 : Strs w v1 ss) (h2 : IntsAll w v2 L) (hsz : ∀ j, j < ss.length → (ss.getD j ByteArray.empty).size ≤ 1048576) (hs63 : ss.length ≤ 1048576) (hL63 : L.length ≤ 1048576) :
    Calls Try.prog 3 #[.int .i64 n, v1, v2] w fun e w' => e = .returned (.bool true) ∧ Below w.heap.size w w' := by
  obtain ⟨p0, c0, hv1⟩ := h1.len
  obtain ⟨p1, c1, hv2⟩ := h2.len
  by_cases hskip : 200 < L.length ∧ L.length < 20002
  · subst hv1; subst hv2
    have a1 : (200 : Int) < (L.length : Int) := by omega
    have a2 : (L.length : Int) < 20002 := by omega
    clear h1 h2
    go_enter Try.func3, Try.ntmps3
    go_wp2
    go_ret
    exact ⟨rfl, Below.refl _ _⟩
  · have HC1 : Hid (Calls Try.prog 7 #[.int .i64 n, v1, v2] w (CntPost n ss L w)) := by
      by_cases hl : 50 < ss.length ∨ 20001 < L.length
      · exact count_limit n v1 v2 ss L w h1 h2 hl
      · exact count_ok n v1 v2 ss L w h1 h2 (by omega) (by omega)
    have HC2 : Hid (∀ W, Below w.heap.size w W → Calls Try.prog 8 #[.int .i64 n, v1, v2] W (CntPost n ss L W)) := fun W hW => by
      by_cases hl : 50 < ss.length ∨ 20001 < L.length
      · exact rmusic_limit n v1 v2 ss L W (h1.below hW) (h2.below hW) hl
      · exact rmusic_ok n v1 v2 ss L W (h1.below hW) (h2.below hW) (by omega) (by omega) hsz
    subst hv1; subst hv2
    have HS1 := hide h1
    have HSZ := hide hsz
    clear h1 h2 hsz
    have hcase : ¬ (200 : Int) < (L.length : Int) ∨ (200 : Int) < (L.length : Int) ∧ ¬ (L.length : Int) < 20002 := by omega
    generalize L.length = Ll at *
    have HREST : Hid (∀ (w1 : World) (x : Int) (va : Value) (A : List Int), True) := fun _ _ _ _ => trivial
    clear HREST
    generalize hgc : mcount n ss L = mc at *
    go_enter Try.func3, Try.ntmps3
    rcases hcase with hc1 | ⟨hc1, hc2⟩
    · go_wp2_with fail
      refine HC1.out.mono ?_
      rintro e w1 ⟨v, rfl, hb1, hi1⟩
      rw [hgc] at hi1
      rw [hgc]
      obtain ⟨q1, d1, rfl⟩ := hi1.form
      have HI1 := hide hi1
      clear hi1 HC1
      generalize hml : mc.2.length = ml at *
      generalize hm1 : mc.1 = code at *
      go_wp2_with fail
      refine (HC2.out w1 hb1).mono ?_
      rintro e w2 ⟨v', rfl, hb2, hi2⟩
      rw [hgc] at hi2
      rw [hgc, hm1]
      have HSM := hide (same_any _ _ _ _ w2 (HI1.out.below hb2) hi2)
      rw [decide_eq_true rfl] at HSM
      obtain ⟨q2, d2, rfl⟩ := hi2.form
      rw [hml] at HSM ⊢
      have hB2 := hb1.trans (hb2.mono hb1.size)
      clear hi2 HI1 HC2 hb1 hb2
      go_wp2_with fail
      refine HSM.out.mono ?_
      rintro e w3 ⟨rfl, hb3⟩
      have hB3 := hB2.trans (hb3.mono hB2.size)
      clear HSM hb3 hB2
      generalize hsl : ss.length = sl at *
      go_wp2
      go_loopw [11] (fun i wr => ∃ k : Nat, k ≤ sl ∧ k ≤ 60 ∧ i = .int .i64 k ∧ Below w.heap.size w wr) (fun i _ => sl - (intOf i).toNat)
      case atStart => exact ⟨0, by omega, by omega, rfl, hB3⟩
      case round =>
        clear hB3
        obtain ⟨k, hk, hk6, rfl, hbw⟩ := hrel
        by_cases hlt : k < sl
        · by_cases h60 : k < 60
          · obtain ⟨sb, so, scap, he, hsb, hslc, hscm, hscell⟩ := HS1.out.cell (by omega)
            rw [hsl] at he hslc hscell
            simp only [Value.slice.injEq] at he
            obtain ⟨rfl, _, rfl⟩ := he
            have gs0 := hscell k hlt
            have hsk := HSZ.out k hlt
            have hlt' : (k : Int) < (sl : Int) := by omega
            have h60' : (k : Int) < 60 := by omega
            clear hscell
            generalize ss.getD k ByteArray.empty = s at *
            have HPM : Hid (∀ W : World, Calls Try.prog 10 #[.int .i64 n, .string s] W fun e w' => e = .returned (.int .i64 (mrd n s).1) ∧ Below W.heap.size W w') := fun W => patternMay_any n s W hsk
            have HAL : Hid (∀ W : World, Calls Try.prog 11 #[.int .i64 n, .string s] W fun e w' => e = .returned (.tuple #[.int .i64 (mall n s).1, .int .i64 (mall n s).2]) ∧ Below W.heap.size W w') := fun W => mall_any n s W
            have HCK : Hid (∀ W : World, Calls Try.prog 12 #[.int .i64 n, .string s] W fun e w' => e = .returned (.int .i64 (mrd n s).1) ∧ Below W.heap.size W w') := fun W => mcheck_any n s W
            have gs : wr.cell? ⟨sb, so + k, none⟩ = some (.string s) := (hbw.cell (p := ⟨sb, so + k, none⟩) hsb).trans gs0
            by_cases h0 : (mrd n s).1 = 0
            · obtain ⟨e2, e3, e4⟩ := mrd_len h0
              obtain ⟨m, rfl⟩ := Int.eq_ofNat_of_zero_le (show 0 ≤ n by omega)
              have hma : mall (m : Int) s = (((fct (fre (mrd (m : Int) s).2) : Nat) : Int), 0) := by unfold mall; rw [if_pos h0]
              rw [hma] at HAL
              rw [h0] at HPM HCK
              have hrd : mrd (m : Int) s = MP.read m (runesOf s) := by unfold mrd; rw [if_neg (by omega), Int.toNat_natCast]
              have hrd0 : (MP.read m (runesOf s)).1 = 0 := by rw [← hrd]; exact h0
              have HLIK : Hid (∀ (W : World) (rv : Value) (X : List Int), Ints W rv X → X.length = m → Calls Try.prog 14 #[.string s, rv] W fun e w' => e = .returned (.bool (fts (mrd (m : Int) s).2 X)) ∧ Below W.heap.size W w') := fun W rv X hI hX => by
                rw [hrd]
                exact like_ok m s rv X W (by omega) (by omega) hsk hI hX hrd0
              have hfl := fre_le (mrd (m : Int) s).2
              have hpl : (mrd (m : Int) s).2.length = m := by omega
              have hff : fct (fre (mrd (m : Int) s).2) ≤ 479001600 := fct_mono (b := 12) (by omega)
              by_cases h5 : m ≤ 5
              · obtain ⟨P, Q, hP⟩ := patOk_of hrd0
                rw [← hrd] at hP
                have HWANT : Hid (cntR (fct m) (fun j' => fts (mrd (m : Int) s).2 (rowAt m j')) = fct (fre (mrd (m : Int) s).2)) := by
                  show _ = _
                  rw [← lkn_rows]
                  exact lkn_all hP.len hP.nd hP.range
                have HFAC : Hid (∀ W : World, Calls Try.prog 13 #[.int .i64 m] W fun e w' => e = .returned (.int .i64 (fct m)) ∧ W = w') := fun W => factorial_any m W (by omega)
                have hf120 : fct m ≤ 120 := fct_mono (b := 5) (by omega)
                have h5' : ¬ ((5 : Int) < (m : Int)) := by omega
                clear hP hma hrd hrd0 h0 e2 hpl
                generalize (mrd (m : Int) s).2 = pat at *
                generalize hG : fct (fre pat) = G at *
                go_wp2_with fail
                refine (HPM.out wr).mono ?_
                rintro e w4 ⟨rfl, hb4⟩
                have hB4 := hbw.trans (hb4.mono hbw.size)
                have gs4 : w4.cell? ⟨sb, so + k, none⟩ = some (.string s) := (hB4.cell (p := ⟨sb, so + k, none⟩) hsb).trans gs0
                clear hb4 gs HPM
                go_wp2_with fail
                refine (HAL.out w4).mono ?_
                rintro e w5 ⟨rfl, hb5⟩
                have hB5 := hB4.trans (hb5.mono hB4.size)
                have gs5 : w5.cell? ⟨sb, so + k, none⟩ = some (.string s) := (hB5.cell (p := ⟨sb, so + k, none⟩) hsb).trans gs0
                clear hb5 gs4 HAL hB4
                go_wp2_with fail
                refine (HCK.out w5).mono ?_
                rintro e w6 ⟨rfl, hb6⟩
                have hB6 := hB5.trans (hb6.mono hB5.size)
                clear hb6 gs5 HCK hB5 hbw
                go_wp2
                go_loopw [15, 16] (fun c i wr => ∃ (j : Nat), j ≤ fct m ∧ i = .int .i64 j ∧ c = .int .i64 (cntR j (fun j' => fts pat (rowAt m j'))) ∧ Below w.heap.size w wr) (fun _ i _ => fct m - (intOf i).toNat)
                case atStart => exact ⟨0, by omega, rfl, rfl, hB6⟩
                case round =>
                  obtain ⟨j, hj, rfl, rfl, hbt⟩ := hrel
                  have hcl := cntR_le j (fun j' => fts pat (rowAt m j'))
                  have HFA := hide (HFAC.out wr)
                  by_cases hjl : j < fct m
                  · have hjl' : (j : Int) < ((fct m : Nat) : Int) := by omega
                    have gs : wr.cell? ⟨sb, so + k, none⟩ = some (.string s) := (hbt.cell (p := ⟨sb, so + k, none⟩) hsb).trans gs0
                    have HAT : Hid (∀ W : World, Calls Try.prog 15 #[.int .i64 m, .int .i64 j] W fun e w' => ∃ v, e = .returned v ∧ w'.ownsRow W.heap.size 3 1 v m ((rowAt m j).map (Value.int .i64)) ∧ Below W.heap.size W w') := fun W => rat_own m j W (by omega) hjl
                    have HLK : Hid (∀ (W : World) (rv : Value), Ints W rv (rowAt m j) → Calls Try.prog 14 #[.string s, rv] W fun e w' => e = .returned (.bool (fts pat (rowAt m j))) ∧ Below W.heap.size W w') := fun W rv hI => HLIK.out W rv _ hI (rowAt_length hjl)
                    have HZ2 := hide (cntR_succ j (fun j' => fts pat (rowAt m j')))
                    generalize hF : fct m = F at *
                    generalize rowAt m j = XX at *
                    generalize fts pat XX = ft at *
                    generalize cntR j (fun j' => fts pat (rowAt m j')) = lq at *
                    cases ft with
                    | true =>
                      rw [if_pos rfl] at HZ2
                      go_wp2_with fail
                      refine HFA.out.mono ?_
                      rintro e wa ⟨rfl, rfl⟩
                      clear HFA
                      go_upto_region 19 with fail
                      refine wp_region_held_drew (S := fun W' => W'.cell? ⟨sb, so + k, none⟩ = some (.string s)) (by kernel_rfl) gs (fun hS => ?_)
                      refine wpAnyH_take (i := 0) (v := .slice (some ⟨sb, so, none⟩) sl c0) rfl (by kernel_rfl) (by kernel_rfl) (by kernel_rfl) (fun _ _ _ h => h) (Or.inl ⟨by kernel_rfl, fun w' hS' => by have q0 := hS'; go_simp⟩) hS ?_
                      refine wpAnyH_take (i := 1) (v := .int .i64 (k : Int)) rfl (by kernel_rfl) (by kernel_rfl) (by kernel_rfl) (fun _ _ _ h => h) (Or.inl ⟨by kernel_rfl, fun w' hS' => by have q0 := hS'; go_simp⟩) hS ?_
                      refine wpAnyH_take (i := 2) (v := .pointer (some ⟨sb, so + k, none⟩)) rfl (by kernel_rfl) (by kernel_rfl) (by kernel_rfl) (fun _ _ _ h => h) (Or.inl ⟨by kernel_rfl, fun w' hS' => by have q0 := hS'; go_simp⟩) hS ?_
                      refine wpAnyH_take (i := 3) (v := .string s) rfl (by kernel_rfl) (by kernel_rfl) (by kernel_rfl) (fun _ _ _ h => h) (Or.inl ⟨by kernel_rfl, fun w' hS' => by have q0 := hS'; go_simp⟩) hS ?_
                      refine wpAnyH_take (i := 4) (v := .int .i64 (m : Int)) rfl (by kernel_rfl) (by kernel_rfl) (by kernel_rfl) (fun _ _ _ h => h) (Or.inl ⟨by kernel_rfl, fun w' hS' => by have q0 := hS'; go_simp⟩) hS ?_
                      refine wpAnyH_take (i := 5) (v := .int .i64 (j : Int)) rfl (by kernel_rfl) (by kernel_rfl) (by kernel_rfl) (fun _ _ _ h => h) (Or.inl ⟨by kernel_rfl, fun w' hS' => by have q0 := hS'; go_simp⟩) hS ?_
                      refine wpAnyH_ready (rs := [6]) (by kernel_rfl) (by simp) ?_
                      refine AllReadyH.cons rfl (fun K hK => ?_) AllReadyH.nil
                      go_simp
                      refine (HAT.out wr.drew).mono ?_
                      rintro e w4 ⟨rv, rfl, hrv, hb4⟩
                      have hb4' : Below wr.heap.size wr w4 := (Below.refl wr.heap.size wr).drew.trans hb4
                      have hbt4 := hbt.trans (hb4'.mono hbt.size)
                      refine hK.out _ _ ((hbt4.cell (p := ⟨sb, so + k, none⟩) hsb).trans gs0) (fun hS => ?_)
                      clear hK
                      have HLKW := hide (HLK.out w4 rv (Ints.own hrv))
                      obtain ⟨rp, rc, rfl⟩ := owns_slice hrv
                      refine wpAnyH_ready (rs := [7]) (by kernel_rfl) (by simp) ?_
                      refine AllReadyH.cons rfl (fun K hK => ?_) AllReadyH.nil
                      go_simp
                      refine HLKW.out.mono ?_
                      rintro e w5 ⟨rfl, hb5⟩
                      have hbt5 := hbt4.trans (hb5.mono hbt4.size)
                      refine hK.out _ _ ((hbt5.cell (p := ⟨sb, so + k, none⟩) hsb).trans gs0) (fun hS => ?_)
                      clear hK
                      refine wpAnyH_take (i := 8) (v := .bool true) rfl (by kernel_rfl) (by kernel_rfl) (by kernel_rfl) (fun _ _ _ h => h) (Or.inl ⟨by kernel_rfl, fun w' hS' => by have q0 := hS'; go_simp⟩) hS ?_
                      refine wpAnyH_done (by kernel_rfl) ?_ _
                      clear hb4 hb4' HLKW HLK HAT hS hrv hb5 hbt4 gs
                      go_wp2
                      go_roundw
                      case rel => exact ⟨j + 1, by omega, by go_num, by rw [HZ2.out]; go_num, hbt5⟩
                      case measure => simp [intOf]; omega
                    | false =>
                      rw [if_neg (by decide), Nat.add_zero] at HZ2
                      go_wp2_with fail
                      refine HFA.out.mono ?_
                      rintro e wa ⟨rfl, rfl⟩
                      clear HFA
                      go_upto_region 19 with fail
                      refine wp_region_held_drew (S := fun W' => W'.cell? ⟨sb, so + k, none⟩ = some (.string s)) (by kernel_rfl) gs (fun hS => ?_)
                      refine wpAnyH_take (i := 0) (v := .slice (some ⟨sb, so, none⟩) sl c0) rfl (by kernel_rfl) (by kernel_rfl) (by kernel_rfl) (fun _ _ _ h => h) (Or.inl ⟨by kernel_rfl, fun w' hS' => by have q0 := hS'; go_simp⟩) hS ?_
                      refine wpAnyH_take (i := 1) (v := .int .i64 (k : Int)) rfl (by kernel_rfl) (by kernel_rfl) (by kernel_rfl) (fun _ _ _ h => h) (Or.inl ⟨by kernel_rfl, fun w' hS' => by have q0 := hS'; go_simp⟩) hS ?_
                      refine wpAnyH_take (i := 2) (v := .pointer (some ⟨sb, so + k, none⟩)) rfl (by kernel_rfl) (by kernel_rfl) (by kernel_rfl) (fun _ _ _ h => h) (Or.inl ⟨by kernel_rfl, fun w' hS' => by have q0 := hS'; go_simp⟩) hS ?_
                      refine wpAnyH_take (i := 3) (v := .string s) rfl (by kernel_rfl) (by kernel_rfl) (by kernel_rfl) (fun _ _ _ h => h) (Or.inl ⟨by kernel_rfl, fun w' hS' => by have q0 := hS'; go_simp⟩) hS ?_
                      refine wpAnyH_take (i := 4) (v := .int .i64 (m : Int)) rfl (by kernel_rfl) (by kernel_rfl) (by kernel_rfl) (fun _ _ _ h => h) (Or.inl ⟨by kernel_rfl, fun w' hS' => by have q0 := hS'; go_simp⟩) hS ?_
                      refine wpAnyH_take (i := 5) (v := .int .i64 (j : Int)) rfl (by kernel_rfl) (by kernel_rfl) (by kernel_rfl) (fun _ _ _ h => h) (Or.inl ⟨by kernel_rfl, fun w' hS' => by have q0 := hS'; go_simp⟩) hS ?_
                      refine wpAnyH_ready (rs := [6]) (by kernel_rfl) (by simp) ?_
                      refine AllReadyH.cons rfl (fun K hK => ?_) AllReadyH.nil
                      go_simp
                      refine (HAT.out wr.drew).mono ?_
                      rintro e w4 ⟨rv, rfl, hrv, hb4⟩
                      have hb4' : Below wr.heap.size wr w4 := (Below.refl wr.heap.size wr).drew.trans hb4
                      have hbt4 := hbt.trans (hb4'.mono hbt.size)
                      refine hK.out _ _ ((hbt4.cell (p := ⟨sb, so + k, none⟩) hsb).trans gs0) (fun hS => ?_)
                      clear hK
                      have HLKW := hide (HLK.out w4 rv (Ints.own hrv))
                      obtain ⟨rp, rc, rfl⟩ := owns_slice hrv
                      refine wpAnyH_ready (rs := [7]) (by kernel_rfl) (by simp) ?_
                      refine AllReadyH.cons rfl (fun K hK => ?_) AllReadyH.nil
                      go_simp
                      refine HLKW.out.mono ?_
                      rintro e w5 ⟨rfl, hb5⟩
                      have hbt5 := hbt4.trans (hb5.mono hbt4.size)
                      refine hK.out _ _ ((hbt5.cell (p := ⟨sb, so + k, none⟩) hsb).trans gs0) (fun hS => ?_)
                      clear hK
                      refine wpAnyH_take (i := 8) (v := .bool false) rfl (by kernel_rfl) (by kernel_rfl) (by kernel_rfl) (fun _ _ _ h => h) (Or.inl ⟨by kernel_rfl, fun w' hS' => by have q0 := hS'; go_simp⟩) hS ?_
                      refine wpAnyH_done (by kernel_rfl) ?_ _
                      clear hb4 hb4' HLKW HLK HAT hS hrv hb5 hbt4 gs
                      go_wp2
                      go_roundw
                      case rel => exact ⟨j + 1, by omega, by go_num, by rw [HZ2.out]; go_num, hbt5⟩
                      case measure => simp [intOf]; omega
                  · have hje : j = fct m := by omega
                    subst hje
                    have HWK := hide HWANT.out
                    have hjn : ¬ ((fct m : Int) < (fct m : Int)) := by omega
                    rw [HWK.out]
                    clear HWK hjl
                    generalize fct m = F at *
                    generalize fct (fre pat) = G at *
                    go_wp2_with fail
                    refine HFA.out.mono ?_
                    rintro e wa ⟨rfl, rfl⟩
                    clear HFA
                    go_wp2
                    go_roundw
                    case rel => exact ⟨k + 1, by omega, by omega, by go_num, hbt⟩
                    case measure => simp [intOf]; omega
              · have h5' : (5 : Int) < (m : Int) := by omega
                clear hma hrd hrd0 h0 e2 hpl HLIK
                generalize (mrd (m : Int) s).2 = pat at *
                generalize hG : fct (fre pat) = G at *
                go_wp2_with fail
                refine (HPM.out wr).mono ?_
                rintro e w4 ⟨rfl, hb4⟩
                have hB4 := hbw.trans (hb4.mono hbw.size)
                have gs4 : w4.cell? ⟨sb, so + k, none⟩ = some (.string s) := (hB4.cell (p := ⟨sb, so + k, none⟩) hsb).trans gs0
                clear hb4 gs HPM
                go_wp2_with fail
                refine (HAL.out w4).mono ?_
                rintro e w5 ⟨rfl, hb5⟩
                have hB5 := hB4.trans (hb5.mono hB4.size)
                have gs5 : w5.cell? ⟨sb, so + k, none⟩ = some (.string s) := (hB5.cell (p := ⟨sb, so + k, none⟩) hsb).trans gs0
                clear hb5 gs4 HAL hB4
                go_wp2_with fail
                refine (HCK.out w5).mono ?_
                rintro e w6 ⟨rfl, hb6⟩
                have hB6 := hB5.trans (hb6.mono hB5.size)
                clear hb6 gs5 HCK hB5 hbw
                go_wp2
                go_roundw
                case rel => exact ⟨k + 1, by omega, by omega, by go_num, hB6⟩
                case measure => simp [intOf]; omega
            · have hma : mall n s = (0, (mrd n s).1) := by unfold mall; rw [if_neg h0]
              rw [hma] at HAL
              have hne : ((mrd n s).1 != 0) = true := by rw [bne_iff_ne]; exact h0
              clear hma
              have H0 := hide h0
              clear h0
              generalize (mrd n s).1 = cd at *
              go_wp2_with fail
              refine (HPM.out wr).mono ?_
              rintro e w4 ⟨rfl, hb4⟩
              have hB4 := hbw.trans (hb4.mono hbw.size)
              have gs4 : w4.cell? ⟨sb, so + k, none⟩ = some (.string s) := (hB4.cell (p := ⟨sb, so + k, none⟩) hsb).trans gs0
              clear hb4 gs HPM
              go_wp2_with fail
              refine (HAL.out w4).mono ?_
              rintro e w5 ⟨rfl, hb5⟩
              have hB5 := hB4.trans (hb5.mono hB4.size)
              have gs5 : w5.cell? ⟨sb, so + k, none⟩ = some (.string s) := (hB5.cell (p := ⟨sb, so + k, none⟩) hsb).trans gs0
              clear hb5 gs4 HAL hB4
              go_wp2_with fail
              refine (HCK.out w5).mono ?_
              rintro e w6 ⟨rfl, hb6⟩
              have hB6 := hB5.trans (hb6.mono hB5.size)
              clear hb6 gs5 HCK hB5 hbw
              go_wp2
              go_roundw
              case rel => exact ⟨k + 1, by omega, by omega, by go_num, hB6⟩
              case measure => simp [intOf]; omega
          · have hlt' : (k : Int) < (sl : Int) := by omega
            have h60' : ¬ (k : Int) < 60 := by omega
            go_wp2
            go_ret
            exact ⟨rfl, hbw⟩
        · have hlt' : ¬ (k : Int) < (sl : Int) := by omega
          go_wp2
          go_ret
          exact ⟨rfl, hbw⟩
    · go_wp2_with fail
      refine HC1.out.mono ?_
      rintro e w1 ⟨v, rfl, hb1, hi1⟩
      rw [hgc] at hi1
      rw [hgc]
      obtain ⟨q1, d1, rfl⟩ := hi1.form
      have HI1 := hide hi1
      clear hi1 HC1
      generalize hml : mc.2.length = ml at *
      generalize hm1 : mc.1 = code at *
      go_wp2_with fail
      refine (HC2.out w1 hb1).mono ?_
      rintro e w2 ⟨v', rfl, hb2, hi2⟩
      rw [hgc] at hi2
      rw [hgc, hm1]
      have HSM := hide (same_any _ _ _ _ w2 (HI1.out.below hb2) hi2)
      rw [decide_eq_true rfl] at HSM
      obtain ⟨q2, d2, rfl⟩ := hi2.form
      rw [hml] at HSM ⊢
      have hB2 := hb1.trans (hb2.mono hb1.size)
      clear hi2 HI1 HC2 hb1 hb2
      go_wp2_with fail
      refine HSM.out.mono ?_
      rintro e w3 ⟨rfl, hb3⟩
      have hB3 := hB2.trans (hb3.mono hB2.size)
      clear HSM hb3 hB2
      generalize hsl : ss.length = sl at *
      go_wp2
      go_loopw [11] (fun i wr => ∃ k : Nat, k ≤ sl ∧ k ≤ 60 ∧ i = .int .i64 k ∧ Below w.heap.size w wr) (fun i _ => sl - (intOf i).toNat)
      case atStart => exact ⟨0, by omega, by omega, rfl, hB3⟩
      case round =>
        clear hB3
        obtain ⟨k, hk, hk6, rfl, hbw⟩ := hrel
        by_cases hlt : k < sl
        · by_cases h60 : k < 60
          · obtain ⟨sb, so, scap, he, hsb, hslc, hscm, hscell⟩ := HS1.out.cell (by omega)
            rw [hsl] at he hslc hscell
            simp only [Value.slice.injEq] at he
            obtain ⟨rfl, _, rfl⟩ := he
            have gs0 := hscell k hlt
            have hsk := HSZ.out k hlt
            have hlt' : (k : Int) < (sl : Int) := by omega
            have h60' : (k : Int) < 60 := by omega
            clear hscell
            generalize ss.getD k ByteArray.empty = s at *
            have HPM : Hid (∀ W : World, Calls Try.prog 10 #[.int .i64 n, .string s] W fun e w' => e = .returned (.int .i64 (mrd n s).1) ∧ Below W.heap.size W w') := fun W => patternMay_any n s W hsk
            have HAL : Hid (∀ W : World, Calls Try.prog 11 #[.int .i64 n, .string s] W fun e w' => e = .returned (.tuple #[.int .i64 (mall n s).1, .int .i64 (mall n s).2]) ∧ Below W.heap.size W w') := fun W => mall_any n s W
            have HCK : Hid (∀ W : World, Calls Try.prog 12 #[.int .i64 n, .string s] W fun e w' => e = .returned (.int .i64 (mrd n s).1) ∧ Below W.heap.size W w') := fun W => mcheck_any n s W
            have gs : wr.cell? ⟨sb, so + k, none⟩ = some (.string s) := (hbw.cell (p := ⟨sb, so + k, none⟩) hsb).trans gs0
            by_cases h0 : (mrd n s).1 = 0
            · obtain ⟨e2, e3, e4⟩ := mrd_len h0
              obtain ⟨m, rfl⟩ := Int.eq_ofNat_of_zero_le (show 0 ≤ n by omega)
              have hma : mall (m : Int) s = (((fct (fre (mrd (m : Int) s).2) : Nat) : Int), 0) := by unfold mall; rw [if_pos h0]
              rw [hma] at HAL
              rw [h0] at HPM HCK
              have hrd : mrd (m : Int) s = MP.read m (runesOf s) := by unfold mrd; rw [if_neg (by omega), Int.toNat_natCast]
              have hrd0 : (MP.read m (runesOf s)).1 = 0 := by rw [← hrd]; exact h0
              have HLIK : Hid (∀ (W : World) (rv : Value) (X : List Int), Ints W rv X → X.length = m → Calls Try.prog 14 #[.string s, rv] W fun e w' => e = .returned (.bool (fts (mrd (m : Int) s).2 X)) ∧ Below W.heap.size W w') := fun W rv X hI hX => by
                rw [hrd]
                exact like_ok m s rv X W (by omega) (by omega) hsk hI hX hrd0
              have hfl := fre_le (mrd (m : Int) s).2
              have hpl : (mrd (m : Int) s).2.length = m := by omega
              have hff : fct (fre (mrd (m : Int) s).2) ≤ 479001600 := fct_mono (b := 12) (by omega)
              by_cases h5 : m ≤ 5
              · obtain ⟨P, Q, hP⟩ := patOk_of hrd0
                rw [← hrd] at hP
                have HWANT : Hid (cntR (fct m) (fun j' => fts (mrd (m : Int) s).2 (rowAt m j')) = fct (fre (mrd (m : Int) s).2)) := by
                  show _ = _
                  rw [← lkn_rows]
                  exact lkn_all hP.len hP.nd hP.range
                have HFAC : Hid (∀ W : World, Calls Try.prog 13 #[.int .i64 m] W fun e w' => e = .returned (.int .i64 (fct m)) ∧ W = w') := fun W => factorial_any m W (by omega)
                have hf120 : fct m ≤ 120 := fct_mono (b := 5) (by omega)
                have h5' : ¬ ((5 : Int) < (m : Int)) := by omega
                clear hP hma hrd hrd0 h0 e2 hpl
                generalize (mrd (m : Int) s).2 = pat at *
                generalize hG : fct (fre pat) = G at *
                go_wp2_with fail
                refine (HPM.out wr).mono ?_
                rintro e w4 ⟨rfl, hb4⟩
                have hB4 := hbw.trans (hb4.mono hbw.size)
                have gs4 : w4.cell? ⟨sb, so + k, none⟩ = some (.string s) := (hB4.cell (p := ⟨sb, so + k, none⟩) hsb).trans gs0
                clear hb4 gs HPM
                go_wp2_with fail
                refine (HAL.out w4).mono ?_
                rintro e w5 ⟨rfl, hb5⟩
                have hB5 := hB4.trans (hb5.mono hB4.size)
                have gs5 : w5.cell? ⟨sb, so + k, none⟩ = some (.string s) := (hB5.cell (p := ⟨sb, so + k, none⟩) hsb).trans gs0
                clear hb5 gs4 HAL hB4
                go_wp2_with fail
                refine (HCK.out w5).mono ?_
                rintro e w6 ⟨rfl, hb6⟩
                have hB6 := hB5.trans (hb6.mono hB5.size)
                clear hb6 gs5 HCK hB5 hbw
                go_wp2
                go_loopw [15, 16] (fun c i wr => ∃ (j : Nat), j ≤ fct m ∧ i = .int .i64 j ∧ c = .int .i64 (cntR j (fun j' => fts pat (rowAt m j'))) ∧ Below w.heap.size w wr) (fun _ i _ => fct m - (intOf i).toNat)
                case atStart => exact ⟨0, by omega, rfl, rfl, hB6⟩
                case round =>
                  obtain ⟨j, hj, rfl, rfl, hbt⟩ := hrel
                  have hcl := cntR_le j (fun j' => fts pat (rowAt m j'))
                  have HFA := hide (HFAC.out wr)
                  by_cases hjl : j < fct m
                  · have hjl' : (j : Int) < ((fct m : Nat) : Int) := by omega
                    have gs : wr.cell? ⟨sb, so + k, none⟩ = some (.string s) := (hbt.cell (p := ⟨sb, so + k, none⟩) hsb).trans gs0
                    have HAT : Hid (∀ W : World, Calls Try.prog 15 #[.int .i64 m, .int .i64 j] W fun e w' => ∃ v, e = .returned v ∧ w'.ownsRow W.heap.size 3 1 v m ((rowAt m j).map (Value.int .i64)) ∧ Below W.heap.size W w') := fun W => rat_own m j W (by omega) hjl
                    have HLK : Hid (∀ (W : World) (rv : Value), Ints W rv (rowAt m j) → Calls Try.prog 14 #[.string s, rv] W fun e w' => e = .returned (.bool (fts pat (rowAt m j))) ∧ Below W.heap.size W w') := fun W rv hI => HLIK.out W rv _ hI (rowAt_length hjl)
                    have HZ2 := hide (cntR_succ j (fun j' => fts pat (rowAt m j')))
                    generalize hF : fct m = F at *
                    generalize rowAt m j = XX at *
                    generalize fts pat XX = ft at *
                    generalize cntR j (fun j' => fts pat (rowAt m j')) = lq at *
                    cases ft with
                    | true =>
                      rw [if_pos rfl] at HZ2
                      go_wp2_with fail
                      refine HFA.out.mono ?_
                      rintro e wa ⟨rfl, rfl⟩
                      clear HFA
                      go_upto_region 19 with fail
                      refine wp_region_held_drew (S := fun W' => W'.cell? ⟨sb, so + k, none⟩ = some (.string s)) (by kernel_rfl) gs (fun hS => ?_)
                      refine wpAnyH_take (i := 0) (v := .slice (some ⟨sb, so, none⟩) sl c0) rfl (by kernel_rfl) (by kernel_rfl) (by kernel_rfl) (fun _ _ _ h => h) (Or.inl ⟨by kernel_rfl, fun w' hS' => by have q0 := hS'; go_simp⟩) hS ?_
                      refine wpAnyH_take (i := 1) (v := .int .i64 (k : Int)) rfl (by kernel_rfl) (by kernel_rfl) (by kernel_rfl) (fun _ _ _ h => h) (Or.inl ⟨by kernel_rfl, fun w' hS' => by have q0 := hS'; go_simp⟩) hS ?_
                      refine wpAnyH_take (i := 2) (v := .pointer (some ⟨sb, so + k, none⟩)) rfl (by kernel_rfl) (by kernel_rfl) (by kernel_rfl) (fun _ _ _ h => h) (Or.inl ⟨by kernel_rfl, fun w' hS' => by have q0 := hS'; go_simp⟩) hS ?_
                      refine wpAnyH_take (i := 3) (v := .string s) rfl (by kernel_rfl) (by kernel_rfl) (by kernel_rfl) (fun _ _ _ h => h) (Or.inl ⟨by kernel_rfl, fun w' hS' => by have q0 := hS'; go_simp⟩) hS ?_
                      refine wpAnyH_take (i := 4) (v := .int .i64 (m : Int)) rfl (by kernel_rfl) (by kernel_rfl) (by kernel_rfl) (fun _ _ _ h => h) (Or.inl ⟨by kernel_rfl, fun w' hS' => by have q0 := hS'; go_simp⟩) hS ?_
                      refine wpAnyH_take (i := 5) (v := .int .i64 (j : Int)) rfl (by kernel_rfl) (by kernel_rfl) (by kernel_rfl) (fun _ _ _ h => h) (Or.inl ⟨by kernel_rfl, fun w' hS' => by have q0 := hS'; go_simp⟩) hS ?_
                      refine wpAnyH_ready (rs := [6]) (by kernel_rfl) (by simp) ?_
                      refine AllReadyH.cons rfl (fun K hK => ?_) AllReadyH.nil
                      go_simp
                      refine (HAT.out wr.drew).mono ?_
                      rintro e w4 ⟨rv, rfl, hrv, hb4⟩
                      have hb4' : Below wr.heap.size wr w4 := (Below.refl wr.heap.size wr).drew.trans hb4
                      have hbt4 := hbt.trans (hb4'.mono hbt.size)
                      refine hK.out _ _ ((hbt4.cell (p := ⟨sb, so + k, none⟩) hsb).trans gs0) (fun hS => ?_)
                      clear hK
                      have HLKW := hide (HLK.out w4 rv (Ints.own hrv))
                      obtain ⟨rp, rc, rfl⟩ := owns_slice hrv
                      refine wpAnyH_ready (rs := [7]) (by kernel_rfl) (by simp) ?_
                      refine AllReadyH.cons rfl (fun K hK => ?_) AllReadyH.nil
                      go_simp
                      refine HLKW.out.mono ?_
                      rintro e w5 ⟨rfl, hb5⟩
                      have hbt5 := hbt4.trans (hb5.mono hbt4.size)
                      refine hK.out _ _ ((hbt5.cell (p := ⟨sb, so + k, none⟩) hsb).trans gs0) (fun hS => ?_)
                      clear hK
                      refine wpAnyH_take (i := 8) (v := .bool true) rfl (by kernel_rfl) (by kernel_rfl) (by kernel_rfl) (fun _ _ _ h => h) (Or.inl ⟨by kernel_rfl, fun w' hS' => by have q0 := hS'; go_simp⟩) hS ?_
                      refine wpAnyH_done (by kernel_rfl) ?_ _
                      clear hb4 hb4' HLKW HLK HAT hS hrv hb5 hbt4 gs
                      go_wp2
                      go_roundw
                      case rel => exact ⟨j + 1, by omega, by go_num, by rw [HZ2.out]; go_num, hbt5⟩
                      case measure => simp [intOf]; omega
                    | false =>
                      rw [if_neg (by decide), Nat.add_zero] at HZ2
                      go_wp2_with fail
                      refine HFA.out.mono ?_
                      rintro e wa ⟨rfl, rfl⟩
                      clear HFA
                      go_upto_region 19 with fail
                      refine wp_region_held_drew (S := fun W' => W'.cell? ⟨sb, so + k, none⟩ = some (.string s)) (by kernel_rfl) gs (fun hS => ?_)
                      refine wpAnyH_take (i := 0) (v := .slice (some ⟨sb, so, none⟩) sl c0) rfl (by kernel_rfl) (by kernel_rfl) (by kernel_rfl) (fun _ _ _ h => h) (Or.inl ⟨by kernel_rfl, fun w' hS' => by have q0 := hS'; go_simp⟩) hS ?_
                      refine wpAnyH_take (i := 1) (v := .int .i64 (k : Int)) rfl (by kernel_rfl) (by kernel_rfl) (by kernel_rfl) (fun _ _ _ h => h) (Or.inl ⟨by kernel_rfl, fun w' hS' => by have q0 := hS'; go_simp⟩) hS ?_
                      refine wpAnyH_take (i := 2) (v := .pointer (some ⟨sb, so + k, none⟩)) rfl (by kernel_rfl) (by kernel_rfl) (by kernel_rfl) (fun _ _ _ h => h) (Or.inl ⟨by kernel_rfl, fun w' hS' => by have q0 := hS'; go_simp⟩) hS ?_
                      refine wpAnyH_take (i := 3) (v := .string s) rfl (by kernel_rfl) (by kernel_rfl) (by kernel_rfl) (fun _ _ _ h => h) (Or.inl ⟨by kernel_rfl, fun w' hS' => by have q0 := hS'; go_simp⟩) hS ?_
                      refine wpAnyH_take (i := 4) (v := .int .i64 (m : Int)) rfl (by kernel_rfl) (by kernel_rfl) (by kernel_rfl) (fun _ _ _ h => h) (Or.inl ⟨by kernel_rfl, fun w' hS' => by have q0 := hS'; go_simp⟩) hS ?_
                      refine wpAnyH_take (i := 5) (v := .int .i64 (j : Int)) rfl (by kernel_rfl) (by kernel_rfl) (by kernel_rfl) (fun _ _ _ h => h) (Or.inl ⟨by kernel_rfl, fun w' hS' => by have q0 := hS'; go_simp⟩) hS ?_
                      refine wpAnyH_ready (rs := [6]) (by kernel_rfl) (by simp) ?_
                      refine AllReadyH.cons rfl (fun K hK => ?_) AllReadyH.nil
                      go_simp
                      refine (HAT.out wr.drew).mono ?_
                      rintro e w4 ⟨rv, rfl, hrv, hb4⟩
                      have hb4' : Below wr.heap.size wr w4 := (Below.refl wr.heap.size wr).drew.trans hb4
                      have hbt4 := hbt.trans (hb4'.mono hbt.size)
                      refine hK.out _ _ ((hbt4.cell (p := ⟨sb, so + k, none⟩) hsb).trans gs0) (fun hS => ?_)
                      clear hK
                      have HLKW := hide (HLK.out w4 rv (Ints.own hrv))
                      obtain ⟨rp, rc, rfl⟩ := owns_slice hrv
                      refine wpAnyH_ready (rs := [7]) (by kernel_rfl) (by simp) ?_
                      refine AllReadyH.cons rfl (fun K hK => ?_) AllReadyH.nil
                      go_simp
                      refine HLKW.out.mono ?_
                      rintro e w5 ⟨rfl, hb5⟩
                      have hbt5 := hbt4.trans (hb5.mono hbt4.size)
                      refine hK.out _ _ ((hbt5.cell (p := ⟨sb, so + k, none⟩) hsb).trans gs0) (fun hS => ?_)
                      clear hK
                      refine wpAnyH_take (i := 8) (v := .bool false) rfl (by kernel_rfl) (by kernel_rfl) (by kernel_rfl) (fun _ _ _ h => h) (Or.inl ⟨by kernel_rfl, fun w' hS' => by have q0 := hS'; go_simp⟩) hS ?_
                      refine wpAnyH_done (by kernel_rfl) ?_ _
                      clear hb4 hb4' HLKW HLK HAT hS hrv hb5 hbt4 gs
                      go_wp2
                      go_roundw
                      case rel => exact ⟨j + 1, by omega, by go_num, by rw [HZ2.out]; go_num, hbt5⟩
                      case measure => simp [intOf]; omega
                  · have hje : j = fct m := by omega
                    subst hje
                    have HWK := hide HWANT.out
                    have hjn : ¬ ((fct m : Int) < (fct m : Int)) := by omega
                    rw [HWK.out]
                    clear HWK hjl
                    generalize fct m = F at *
                    generalize fct (fre pat) = G at *
                    go_wp2_with fail
                    refine HFA.out.mono ?_
                    rintro e wa ⟨rfl, rfl⟩
                    clear HFA
                    go_wp2
                    go_roundw
                    case rel => exact ⟨k + 1, by omega, by omega, by go_num, hbt⟩
                    case measure => simp [intOf]; omega
              · have h5' : (5 : Int) < (m : Int) := by omega
                clear hma hrd hrd0 h0 e2 hpl HLIK
                generalize (mrd (m : Int) s).2 = pat at *
                generalize hG : fct (fre pat) = G at *
                go_wp2_with fail
                refine (HPM.out wr).mono ?_
                rintro e w4 ⟨rfl, hb4⟩
                have hB4 := hbw.trans (hb4.mono hbw.size)
                have gs4 : w4.cell? ⟨sb, so + k, none⟩ = some (.string s) := (hB4.cell (p := ⟨sb, so + k, none⟩) hsb).trans gs0
                clear hb4 gs HPM
                go_wp2_with fail
                refine (HAL.out w4).mono ?_
                rintro e w5 ⟨rfl, hb5⟩
                have hB5 := hB4.trans (hb5.mono hB4.size)
                have gs5 : w5.cell? ⟨sb, so + k, none⟩ = some (.string s) := (hB5.cell (p := ⟨sb, so + k, none⟩) hsb).trans gs0
                clear hb5 gs4 HAL hB4
                go_wp2_with fail
                refine (HCK.out w5).mono ?_
                rintro e w6 ⟨rfl, hb6⟩
                have hB6 := hB5.trans (hb6.mono hB5.size)
                clear hb6 gs5 HCK hB5 hbw
                go_wp2
                go_roundw
                case rel => exact ⟨k + 1, by omega, by omega, by go_num, hB6⟩
                case measure => simp [intOf]; omega
            · have hma : mall n s = (0, (mrd n s).1) := by unfold mall; rw [if_neg h0]
              rw [hma] at HAL
              have hne : ((mrd n s).1 != 0) = true := by rw [bne_iff_ne]; exact h0
              clear hma
              have H0 := hide h0
              clear h0
              generalize (mrd n s).1 = cd at *
              go_wp2_with fail
              refine (HPM.out wr).mono ?_
              rintro e w4 ⟨rfl, hb4⟩
              have hB4 := hbw.trans (hb4.mono hbw.size)
              have gs4 : w4.cell? ⟨sb, so + k, none⟩ = some (.string s) := (hB4.cell (p := ⟨sb, so + k, none⟩) hsb).trans gs0
              clear hb4 gs HPM
              go_wp2_with fail
              refine (HAL.out w4).mono ?_
              rintro e w5 ⟨rfl, hb5⟩
              have hB5 := hB4.trans (hb5.mono hB4.size)
              have gs5 : w5.cell? ⟨sb, so + k, none⟩ = some (.string s) := (hB5.cell (p := ⟨sb, so + k, none⟩) hsb).trans gs0
              clear hb5 gs4 HAL hB4
              go_wp2_with fail
              refine (HCK.out w5).mono ?_
              rintro e w6 ⟨rfl, hb6⟩
              have hB6 := hB5.trans (hb6.mono hB5.size)
              clear hb6 gs5 HCK hB5 hbw
              go_wp2
              go_roundw
              case rel => exact ⟨k + 1, by omega, by omega, by go_num, hB6⟩
              case measure => simp [intOf]; omega
          · have hlt' : (k : Int) < (sl : Int) := by omega
            have h60' : ¬ (k : Int) < 60 := by omega
            go_wp2
            go_ret
            exact ⟨rfl, hbw⟩
        · have hlt' : ¬ (k : Int) < (sl : Int) := by omega
          go_wp2
          go_ret
          exact ⟨rfl, hbw⟩

end Go.Proofs.Ytfnmkbcdchnnnaa

/- A slice of lists that came in reads as a list of lists. -/
namespace Go.Proofs.Ytfnmkbcdchnnnaa
open Go.RowKit Go.ChangeShapes Go.WideShapes

theorem ints_row {w : World} {a : Option Addr} {len cap : Nat} {zs : List Int} (hl : len ≤ cap) (hm : cap ≤ maxLen) (hz : zs.length = cap) (hn : a = none → cap = 0)
    (hc : ∀ x, a = some x → ∀ c, c < cap → w.cell? (x.add c) = some (.int .i64 (zs.getD c 0))) : Ints w (.slice a len cap) (zs.take len) := by
  rcases Nat.eq_zero_or_pos len with h0 | h0
  · subst h0
    exact Or.inl ⟨rfl, a, cap, rfl⟩
  · cases a with
    | none => have := hn rfl; omega
    | some x =>
      obtain ⟨b, off, rfl, hcell⟩ := ints_at (zs := zs) (fun i hi => hc x rfl i (by omega)) (by omega)
      have hlen : (zs.take len).length = len := by rw [List.length_take]; omega
      refine Or.inr ⟨b, off, cap, by rw [hlen], by omega, by omega, by unfold maxLen at hm; omega, ?_, fun j hj => ?_⟩
      · exact World.block_lt_of_cell? w _ (hcell 0 (by omega))
      · rw [hlen] at hj
        rw [hcell j (by omega)]
        simp [List.getD, hj]

theorem rows_all {w : World} {base : Nat} {a : Addr} {len cap : Nat} {A : Nat → Option Addr} {L C : Nat → Nat} {Z : Nat → List Int} (hl : len ≤ cap) (hm : cap ≤ maxLen)
    (h : ∀ r, r < cap → w.cell? (a.add r) = some (.slice (A r) (L r) (C r)) ∧ L r ≤ C r ∧ C r ≤ maxLen ∧ (Z r).length = C r ∧ (∀ n ∈ Z r, (Lit.int .i64 n).wf = true) ∧ (A r = none → C r = 0) ∧
        ∀ a', A r = some a' → base ≤ a'.block ∧ ∀ c, c < C r → w.cell? (a'.add c) = some (.int .i64 ((Z r).getD c 0))) :
    ∃ xss, IntsAll w (.slice (some a) len cap) xss := by
  refine ⟨(List.range len).map (fun r => (Z r).take (L r)), (List.range len).map (fun r => .slice (A r) (L r) (C r)), ?_, by simp, fun j hj => ?_⟩
  · rcases Nat.eq_zero_or_pos len with h0 | h0
    · subst h0
      exact Or.inl ⟨rfl, _, _, rfl⟩
    · obtain ⟨b, off, spot⟩ := a
      have hspot : spot = none := by simpa [Addr.add] using World.cell?_spot (h 0 (by omega)).1
      subst hspot
      refine Or.inr ⟨b, off, cap, by simp, by simpa using h0, by simpa using hl, by unfold maxLen at hm; omega, ?_, fun j hj => ?_⟩
      · exact World.block_lt_of_cell? w _ (h 0 (by omega)).1
      · simp at hj
        rw [← Addr.add_lit, (h j (by omega)).1]
        simp [List.getD, hj]
  · simp at hj
    have e1 : ((List.range len).map (fun r => Value.slice (A r) (L r) (C r))).getD j undef = .slice (A j) (L j) (C j) := by simp [List.getD, hj]
    have e2 : ((List.range len).map (fun r => (Z r).take (L r))).getD j [] = (Z j).take (L j) := by simp [List.getD, hj]
    rw [e1, e2]
    obtain ⟨_, a1, a2, a3, _, a5, a6⟩ := h j (by omega)
    exact ints_row a1 a2 a3 a5 (fun x hx => (a6 x hx).2)

end Go.Proofs.Ytfnmkbcdchnnnaa
