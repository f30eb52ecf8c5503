/- Joined: CpE, Ark, Grp, Chn. -/
import Derived.Test.YtenpkhalgkodbaaDoorJ9
import Derived.Test.YtenpkhalgkodbaaDoorJ0
import Derived.Deep.WholeRow
import Derived.Deep.MidRow
import Derived.Test.YtenpkhalgkodbaaDoorJ2
/- Contract: the answer's PrintTouch. -/
namespace Go.Proofs.YtenpkhalgkodbaaDoor
open Go.RowKit Go.Shelf
set_option maxRecDepth 20000
set_option linter.unusedVariables false

theorem decS_any (n : Nat) (h : n < 100) (w : World) : Calls Tryd.prog 23 #[.int .i64 n] w fun e w' => e = .returned (.string ⟨(decB n).toArray⟩) ∧ Below w.heap.size w w' := by
  rcases Nat.lt_or_ge n 10 with h1 | h1
  · have := decS_one n h1 w
    unfold decB
    rw [if_pos h1]
    exact this
  · exact decS_two n h1 h w

theorem rune_str (r : Int) (W : World) : (convert 21 9 (.int .i32 r)).run Tryd.prog W = .ok (.string ⟨(Lib.encodeRune r).toArray⟩) W := by
  rw [← enc_rune]
  simp [convert, run_underlying Tryd.underlying21, run_underlying Tryd.underlying9, Conv.intToString, Sem.run_pure]

set_option maxHeartbeats 8000000 in
theorem rprint_all (cv : Value) (cs : List Cl) (lv : Value) (ls : List Int) (w : World) (hcv : CallsIn w cv cs) (hl : Ints w lv ls) :
    Calls Tryd.prog 11 #[cv, lv] w fun e w' => e = .returned (.tuple #[.string ⟨(prT cs ls).toArray⟩, .int .i64 (lErr cs.length ls)]) ∧ Below w.heap.size w w' := by
  obtain ⟨cp, cc, rfl⟩ := hcv.form
  obtain ⟨lp, lc, rfl⟩ := hl.form
  obtain ⟨T, hT⟩ : ∃ T, Hid (ls.length = T) := ⟨_, rfl⟩
  obtain ⟨C, hC⟩ : ∃ C, Hid (cs.length = C) := ⟨_, rfl⟩
  have HCV := hide hcv
  have HL := hide hl
  rw [hT.out, hC.out]
  rw [hT.out] at HL
  rw [hC.out] at HCV
  obtain ⟨er, her⟩ : ∃ er, Hid (lErr C ls = er) := ⟨_, rfl⟩
  obtain ⟨TX, hTX⟩ : ∃ TX, Hid ((⟨(prT cs ls).toArray⟩ : ByteArray) = TX) := ⟨_, rfl⟩
  rw [her.out, hTX.out]
  have HNO : Hid (er ≠ 0 → TX = ⟨#[]⟩) := fun h => by
    rw [← hTX.out]
    unfold prT
    rw [hC.out, her.out, if_neg h]
  clear hcv hl
  by_cases hlen : T < 1 ∨ 400 < T
  · have he : er = 1 := by rw [← her.out]; unfold lErr; rw [hT.out, if_pos hlen]
    have ht := HNO.out (by rw [he]; decide)
    subst he ht
    by_cases h1 : (T : Int) < 1
    · clear hlen
      go_enter Tryd.func11, Tryd.ntmps11
      go_wp2
      go_ret2
      exact ⟨rfl, Below.refl _ _⟩
    · have h2 : 400 < (T : Int) := by omega
      clear hlen
      go_enter Tryd.func11, Tryd.ntmps11
      go_wp2
      go_ret2
      exact ⟨rfl, Below.refl _ _⟩
  · have g1 : ¬ (T : Int) < 1 := by omega
    have g2 : ¬ 400 < (T : Int) := by omega
    rcases HL.out with ⟨hnil, _⟩ | ⟨b, off, cap, hle, h0, hc, hmx, hb, hcell⟩
    · exfalso; have := hT.out; rw [hnil] at this; simp at this; omega
    rw [hT.out] at hle hc
    simp only [Value.slice.injEq] at hle
    obtain ⟨rfl, _, rfl⟩ := hle
    have HC := hide hcell
    have HE12 : Hid (¬ (∀ l, l ∈ ls → 0 ≤ l ∧ l < (C : Int)) → er = 12) := fun h => by rw [← her.out]; unfold lErr; rw [hT.out, if_neg hlen, if_neg h]
    have HE0 : Hid ((∀ l, l ∈ ls → 0 ≤ l ∧ l < (C : Int)) → er = 0) := fun h => by rw [← her.out]; unfold lErr; rw [hT.out, if_neg hlen, if_pos h]
    clear hcell HL hlen
    go_enter Tryd.func11, Tryd.ntmps11
    go_wp2
    go_loop [6] (fun i => ∃ k : Nat, k ≤ T ∧ i = .int .i64 k ∧ Hid (∀ j, j < k → 0 ≤ ls.getD j 0 ∧ ls.getD j 0 < (C : Int))) (fun i => T - (intOf i).toNat)
    case atStart => exact ⟨0, by omega, rfl, (fun j hj => absurd hj (by omega))⟩
    case round =>
      obtain ⟨k, hk, rfl, hA⟩ := hrel
      by_cases hlt : k < T
      · have hkl : k < ls.length := by rw [hT.out]; exact hlt
        obtain ⟨y, hy, hcx⟩ := cellAt HC.out hkl
        have hyk : ls.getD k 0 = y := hy.out
        have hym : y ∈ ls := by
          rw [← hyk, List.getD, List.getElem?_eq_getElem hkl, Option.getD_some]
          exact List.getElem_mem _
        by_cases hyb : 0 ≤ y ∧ y < (C : Int)
        · have HA2 : Hid (∀ j, j < k + 1 → 0 ≤ ls.getD j 0 ∧ ls.getD j 0 < (C : Int)) := fun j hj => by
            rcases Nat.lt_succ_iff_lt_or_eq.1 hj with h | h
            · exact hA.out j h
            · rw [h, hyk]; exact hyb
          have g5 : ¬ y < 0 := by omega
          have g6 : ¬ (C : Int) ≤ y := by omega
          clear hy hym hyk hyb hA
          go_wp2
          go_round
          case rel => exact ⟨k + 1, by omega, by go_num, HA2⟩
          case measure => simp [intOf]; omega
        · have he := HE12.out (fun h => hyb (h y hym))
          have ht := HNO.out (by rw [he]; decide)
          have HFE := hide he
          have HFT := hide ht
          by_cases g5 : y < 0
          · clear hy hym hyk hyb hA he ht
            go_wp2
            go_ret2
            exact ⟨by rw [HFE.out, HFT.out]; rfl, Below.refl _ _⟩
          · have g6 : (C : Int) ≤ y := by omega
            clear hy hym hyk hyb hA he ht
            go_wp2
            go_ret2
            exact ⟨by rw [HFE.out, HFT.out]; rfl, Below.refl _ _⟩
      · obtain rfl : k = T := by omega
        have hAL : ∀ l, l ∈ ls → 0 ≤ l ∧ l < (C : Int) := by
          intro l hl
          obtain ⟨j, hj, e⟩ := List.getElem_of_mem hl
          have := hA.out j (by rw [hT.out] at hj; exact hj)
          rw [List.getD, List.getElem?_eq_getElem hj, Option.getD_some, e] at this
          exact this
        have HFE := hide (HE0.out hAL)
        obtain ⟨t, ht1, ht2⟩ : ∃ t : List Nat, nI t = ls ∧ ∀ c, c ∈ t → c < C := ⟨ls.map Int.toNat, by
          unfold nI
          rw [List.map_map]
          exact (List.map_congr_left (fun l hl => Int.toNat_of_nonneg (hAL l hl).1)).trans (List.map_id _), fun c hc => by
          obtain ⟨l, hl, rfl⟩ := List.mem_map.1 hc
          have := hAL l hl
          omega⟩
        have HTX : Hid (TX = ⟨(pF (sgB cs) 0 t).toArray⟩) := by
          show TX = _
          rw [← hTX.out]
          unfold prT
          rw [hC.out, her.out, if_pos HFE.out]
          have : ls.map Int.toNat = t := by
            rw [← ht1]
            unfold nI
            rw [List.map_map]
            exact (List.map_congr_left (fun c _ => Int.toNat_natCast c)).trans (List.map_id _)
          rw [this]
        have htl : t.length = k := by rw [← hT.out, ← ht1, nI_len]
        have HTL := hide htl
        have HTI := hide ht2
        have HTC : Hid (∀ j, j < k → w.cell? ⟨b, off + j, none⟩ = some (.int .i64 ((t.getD j 0 : Nat) : Int))) := fun j hj => by
          rw [HC.out j (by rw [hT.out]; exact hj), ← ht1, nI_get t (by rw [htl]; exact hj)]
        have hcat : CallsAt w (.slice cp C cc) cs := by
          rcases HCV.out with ⟨h9, _⟩ | ⟨_, h9⟩
          · exfalso
            have : t.getD 0 0 < C := ht2 _ (by simp [List.getD, show 0 < t.length by omega])
            have h8 := hC.out
            rw [h9] at h8
            simp at h8
            omega
          · exact h9
        obtain ⟨cb, co, ccap, hce, hcb, hcc1, hcc2, hccell⟩ := hcat
        rw [hC.out] at hce hcc1 hccell
        simp only [Value.slice.injEq] at hce
        obtain ⟨rfl, _, rfl⟩ := hce
        have HCC := hide hccell
        have hkb : k ≤ 400 := by omega
        clear hA hAL ht1 ht2 htl HC HCV hccell HE12 HE0 HNO
        have hE0 : (⟨#[]⟩ : ByteArray) = ⟨([] : List UInt8).toArray⟩ := rfl
        go_wp2
        go_loopw [7, 8, 9] (fun sv nv iv wr => ∃ (acc : List UInt8) (n i : Nat), i ≤ k ∧ n ≤ 98 ∧ sv = .string ⟨acc.toArray⟩ ∧ nv = .int .i64 n ∧ iv = .int .i64 i ∧ Hid (pF (sgB cs) 0 t = acc ++ pF (sgB cs) n (t.drop i)) ∧ Hid (acc.length ≤ 6 * i) ∧ Hid (Below w.heap.size w wr)) (fun _ _ iv _ => k - (intOf iv).toNat)
        case atStart => exact ⟨[], 0, 0, by omega, by omega, rfl, rfl, rfl, rfl, Nat.zero_le _, Below.refl _ _⟩
        case round =>
          obtain ⟨acc, n, i, hi, hn, rfl, rfl, rfl, hEQ, hLN, hbw⟩ := hrel
          by_cases hik : i < k
          · have c1 := (hbw.out.cell (p := ⟨b, off + i, none⟩) hb).trans (HTC.out i hik)
            have hx : t.getD i 0 < C := HTI.out _ (by
              have hi' : i < t.length := by rw [HTL.out]; exact hik
              rw [List.getD, List.getElem?_eq_getElem hi', Option.getD_some]; exact List.getElem_mem _)
            obtain ⟨us, a1, _, _⟩ := HCC.out (t.getD i 0) hx
            have b1 := (hbw.out.cell (p := ⟨cb, co + t.getD i 0 * 2, none⟩) hcb).trans a1
            have HST := hide (pF_step (sgB cs) (l := t) (i := i) (n := n) (by rw [HTL.out]; exact hik))
            rw [HTL.out] at HST
            have HSG : Hid (sgB cs (t.getD i 0) = Lib.encodeRune (cs.getD (t.getD i 0) (0, [])).1) := rfl
            have hrs := rune_str (cs.getD (t.getD i 0) (0, [])).1
            have hn1 : n + 1 < 100 := by omega
            have HDE := hide (fun W => decS_any (n + 1) hn1 W)
            rw [show (((n + 1 : Nat)) : Int) = (n : Int) + 1 from by omega] at HDE
            have HRL : Hid ((Lib.encodeRune (cs.getD (t.getD i 0) (0, [])).1).length ≤ 4) := sgB_length cs (t.getD i 0)
            clear a1
            by_cases hi1 : i + 1 < k
            · have hii : (i : Int) + 1 < (k : Int) := by omega
              have c2 := (hbw.out.cell (p := ⟨b, off + (i + 1), none⟩) hb).trans (HTC.out (i + 1) hi1)
              by_cases he : t.getD (i + 1) 0 = t.getD i 0
              · have hbq : (((t.getD (i + 1) 0 : Nat) : Int) == ((t.getD i 0 : Nat) : Int)) = true := by rw [he]; simp
                by_cases hn9 : n + 1 < 99
                · have hni : (n : Int) + 1 < 99 := by omega
                  have HNX : Hid (pF (sgB cs) 0 t = acc ++ pF (sgB cs) (n + 1) (t.drop (i + 1))) := by
                    show _ = _
                    rw [hEQ.out, HST.out, if_pos ⟨hi1, he, hn9⟩]
                  have HLX : Hid (acc.length ≤ 6 * (i + 1)) := by show _ ≤ _; have := hLN.out; omega
                  clear HST HSG he hEQ hLN hrs HDE HRL
                  generalize t.getD (i + 1) 0 = y at *
                  generalize hxe : t.getD i 0 = x at *
                  generalize hre : (cs.getD x (0, [])).1 = r at *
                  clear hxe hre
                  go_wp2
                  go_quiet (fail)
                  have hBX := below_drewN hbw.out nq
                  have c9 : (wr.drewN nq).cell? ⟨b, off + i, none⟩ = some (.int .i64 (x : Int)) := c1
                  have b9 : (wr.drewN nq).cell? ⟨cb, co + x * 2, none⟩ = some (.int .i32 r) := b1
                  clear c1 b1 hbw
                  generalize wr.drewN nq = wX at *
                  have HBF := hide hBX
                  clear c9 b9 hBX
                  go_wp2
                  go_roundw
                  case rel => exact ⟨acc, n + 1, i + 1, by omega, by omega, rfl, by go_num, by go_num, HNX, HLX, HBF⟩
                  case measure => simp [intOf]; omega
                · have hni : decide ((n : Int) + 1 < 99) = false := decide_eq_false (by omega)
                  have hni2 : ¬ (n : Int) + 1 < 99 := by omega
                  have HPF : Hid (pF (sgB cs) n (t.drop i) = (if 1 < n + 1 then decB (n + 1) else []) ++ Lib.encodeRune (cs.getD (t.getD i 0) (0, [])).1 ++ pF (sgB cs) 0 (t.drop (i + 1))) := by
                    show _ = _
                    rw [HST.out, if_neg (fun h => hn9 h.2.2), HSG.out]
                  clear HST HSG
                  clear he
                  generalize t.getD (i + 1) 0 = y at *
                  generalize hxe : t.getD i 0 = x at *
                  generalize hre : (cs.getD x (0, [])).1 = r at *
                  clear hxe hre
                  go_wp2
                  go_quiet (fail)
                  have hBX := below_drewN hbw.out nq
                  have c9 : (wr.drewN nq).cell? ⟨b, off + i, none⟩ = some (.int .i64 (x : Int)) := c1
                  have b9 : (wr.drewN nq).cell? ⟨cb, co + x * 2, none⟩ = some (.int .i32 r) := b1
                  clear c1 b1 hbw
                  generalize wr.drewN nq = wX at *
                  clear c2
                  by_cases hn0 : 0 < n
                  · have hng : (1 : Int) < (n : Int) + 1 := by omega
                    have HNX : Hid (pF (sgB cs) 0 t = (acc ++ decB (n + 1) ++ Lib.encodeRune r) ++ pF (sgB cs) 0 (t.drop (i + 1))) := by
                      show _ = _
                      rw [hEQ.out, HPF.out, if_pos (by omega)]
                      simp [List.append_assoc]
                    have HLX : Hid ((acc ++ decB (n + 1) ++ Lib.encodeRune r).length ≤ 6 * (i + 1)) := by
                      show _ ≤ _
                      have h1 := hLN.out
                      have h2 := decB_length (n + 1)
                      have h3 := HRL.out
                      rw [List.length_append, List.length_append]
                      omega
                    have hs1 := fun W => run_string_add_sum (P := Tryd.prog) (w := W) ⟨acc.toArray⟩ ⟨(decB (n + 1)).toArray⟩ (by rw [str_size, str_size]; have := hLN.out; have := decB_length (n + 1); omega)
                    have hs2 := fun W => run_string_add_sum (P := Tryd.prog) (w := W) ⟨(acc ++ decB (n + 1)).toArray⟩ ⟨(Lib.encodeRune r).toArray⟩ (by rw [str_size, str_size, List.length_append]; have := hLN.out; have := decB_length (n + 1); have := HRL.out; omega)
                    rw [str_app] at hs1
                    rw [str_app] at hs2
                    obtain ⟨sA, hsA⟩ : ∃ sA, Hid ((⟨acc.toArray⟩ : ByteArray) = sA) := ⟨_, rfl⟩
                    obtain ⟨sD, hsD⟩ : ∃ sD, Hid ((⟨(decB (n + 1)).toArray⟩ : ByteArray) = sD) := ⟨_, rfl⟩
                    obtain ⟨sR, hsR⟩ : ∃ sR, Hid ((⟨(Lib.encodeRune r).toArray⟩ : ByteArray) = sR) := ⟨_, rfl⟩
                    obtain ⟨sB, hsB⟩ : ∃ sB, Hid ((⟨(acc ++ decB (n + 1)).toArray⟩ : ByteArray) = sB) := ⟨_, rfl⟩
                    obtain ⟨sC, hsC⟩ : ∃ sC, Hid ((⟨(acc ++ decB (n + 1) ++ Lib.encodeRune r).toArray⟩ : ByteArray) = sC) := ⟨_, rfl⟩
                    rw [hsA.out, hsD.out, hsB.out] at hs1
                    rw [hsB.out, hsR.out, hsC.out] at hs2
                    rw [hsR.out] at hrs
                    rw [hsD.out] at HDE
                    rw [hsA.out]
                    clear hEQ hLN HPF HRL
                    go_wp2_with fail
                    refine (HDE.out _).mono ?_
                    rintro e w3 ⟨rfl, hb3⟩
                    have hs3 := hb3.size
                    have hB3 : Below w.heap.size w w3 := hBX.trans (hb3.mono hBX.size)
                    have c3 := (hb3.cell (p := ⟨b, off + i, none⟩) (by show b < _; have := hBX.size; omega)).trans c9
                    have b3 := (hb3.cell (p := ⟨cb, co + x * 2, none⟩) (by show cb < _; have := hBX.size; omega)).trans b9
                    have HBF := hide hB3
                    clear hb3 c9 b9 HDE hBX
                    go_wp2
                    go_roundw
                    case rel => exact ⟨acc ++ decB (n + 1) ++ Lib.encodeRune r, 0, i + 1, by omega, by omega, by rw [hsC.out], rfl, by go_num, HNX, HLX, HBF⟩
                    case measure => simp [intOf]; omega
                  · exfalso; omega
              · have hbq : (((t.getD (i + 1) 0 : Nat) : Int) == ((t.getD i 0 : Nat) : Int)) = false := by rw [beq_eq_false_iff_ne]; omega
                have HPF : Hid (pF (sgB cs) n (t.drop i) = (if 1 < n + 1 then decB (n + 1) else []) ++ Lib.encodeRune (cs.getD (t.getD i 0) (0, [])).1 ++ pF (sgB cs) 0 (t.drop (i + 1))) := by
                  show _ = _
                  rw [HST.out, if_neg (fun h => he h.2.1), HSG.out]
                clear HST HSG
                clear he
                generalize t.getD (i + 1) 0 = y at *
                generalize hxe : t.getD i 0 = x at *
                generalize hre : (cs.getD x (0, [])).1 = r at *
                clear hxe hre
                go_wp2
                go_quiet (fail)
                have hBX := below_drewN hbw.out nq
                have c9 : (wr.drewN nq).cell? ⟨b, off + i, none⟩ = some (.int .i64 (x : Int)) := c1
                have b9 : (wr.drewN nq).cell? ⟨cb, co + x * 2, none⟩ = some (.int .i32 r) := b1
                clear c1 b1 hbw
                generalize wr.drewN nq = wX at *
                clear c2
                by_cases hn0 : 0 < n
                · have hng : (1 : Int) < (n : Int) + 1 := by omega
                  have HNX : Hid (pF (sgB cs) 0 t = (acc ++ decB (n + 1) ++ Lib.encodeRune r) ++ pF (sgB cs) 0 (t.drop (i + 1))) := by
                    show _ = _
                    rw [hEQ.out, HPF.out, if_pos (by omega)]
                    simp [List.append_assoc]
                  have HLX : Hid ((acc ++ decB (n + 1) ++ Lib.encodeRune r).length ≤ 6 * (i + 1)) := by
                    show _ ≤ _
                    have h1 := hLN.out
                    have h2 := decB_length (n + 1)
                    have h3 := HRL.out
                    rw [List.length_append, List.length_append]
                    omega
                  have hs1 := fun W => run_string_add_sum (P := Tryd.prog) (w := W) ⟨acc.toArray⟩ ⟨(decB (n + 1)).toArray⟩ (by rw [str_size, str_size]; have := hLN.out; have := decB_length (n + 1); omega)
                  have hs2 := fun W => run_string_add_sum (P := Tryd.prog) (w := W) ⟨(acc ++ decB (n + 1)).toArray⟩ ⟨(Lib.encodeRune r).toArray⟩ (by rw [str_size, str_size, List.length_append]; have := hLN.out; have := decB_length (n + 1); have := HRL.out; omega)
                  rw [str_app] at hs1
                  rw [str_app] at hs2
                  obtain ⟨sA, hsA⟩ : ∃ sA, Hid ((⟨acc.toArray⟩ : ByteArray) = sA) := ⟨_, rfl⟩
                  obtain ⟨sD, hsD⟩ : ∃ sD, Hid ((⟨(decB (n + 1)).toArray⟩ : ByteArray) = sD) := ⟨_, rfl⟩
                  obtain ⟨sR, hsR⟩ : ∃ sR, Hid ((⟨(Lib.encodeRune r).toArray⟩ : ByteArray) = sR) := ⟨_, rfl⟩
                  obtain ⟨sB, hsB⟩ : ∃ sB, Hid ((⟨(acc ++ decB (n + 1)).toArray⟩ : ByteArray) = sB) := ⟨_, rfl⟩
                  obtain ⟨sC, hsC⟩ : ∃ sC, Hid ((⟨(acc ++ decB (n + 1) ++ Lib.encodeRune r).toArray⟩ : ByteArray) = sC) := ⟨_, rfl⟩
                  rw [hsA.out, hsD.out, hsB.out] at hs1
                  rw [hsB.out, hsR.out, hsC.out] at hs2
                  rw [hsR.out] at hrs
                  rw [hsD.out] at HDE
                  rw [hsA.out]
                  clear hEQ hLN HPF HRL
                  go_wp2_with fail
                  refine (HDE.out _).mono ?_
                  rintro e w3 ⟨rfl, hb3⟩
                  have hs3 := hb3.size
                  have hB3 : Below w.heap.size w w3 := hBX.trans (hb3.mono hBX.size)
                  have c3 := (hb3.cell (p := ⟨b, off + i, none⟩) (by show b < _; have := hBX.size; omega)).trans c9
                  have b3 := (hb3.cell (p := ⟨cb, co + x * 2, none⟩) (by show cb < _; have := hBX.size; omega)).trans b9
                  have HBF := hide hB3
                  clear hb3 c9 b9 HDE hBX
                  go_wp2
                  go_roundw
                  case rel => exact ⟨acc ++ decB (n + 1) ++ Lib.encodeRune r, 0, i + 1, by omega, by omega, by rw [hsC.out], rfl, by go_num, HNX, HLX, HBF⟩
                  case measure => simp [intOf]; omega
                · obtain rfl : n = 0 := by omega
                  have HNX : Hid (pF (sgB cs) 0 t = (acc ++ Lib.encodeRune r) ++ pF (sgB cs) 0 (t.drop (i + 1))) := by
                    show _ = _
                    rw [hEQ.out, HPF.out, if_neg (by omega)]
                    simp [List.append_assoc]
                  have HLX : Hid ((acc ++ Lib.encodeRune r).length ≤ 6 * (i + 1)) := by
                    show _ ≤ _
                    have h1 := hLN.out
                    have h3 := HRL.out
                    rw [List.length_append]
                    omega
                  have hs2 := fun W => run_string_add_sum (P := Tryd.prog) (w := W) ⟨acc.toArray⟩ ⟨(Lib.encodeRune r).toArray⟩ (by rw [str_size, str_size]; have := hLN.out; have := HRL.out; omega)
                  rw [str_app] at hs2
                  obtain ⟨sA, hsA⟩ : ∃ sA, Hid ((⟨acc.toArray⟩ : ByteArray) = sA) := ⟨_, rfl⟩
                  obtain ⟨sR, hsR⟩ : ∃ sR, Hid ((⟨(Lib.encodeRune r).toArray⟩ : ByteArray) = sR) := ⟨_, rfl⟩
                  obtain ⟨sC, hsC⟩ : ∃ sC, Hid ((⟨(acc ++ Lib.encodeRune r).toArray⟩ : ByteArray) = sC) := ⟨_, rfl⟩
                  rw [hsA.out, hsR.out, hsC.out] at hs2
                  rw [hsR.out] at hrs
                  rw [hsA.out]
                  have HBF := hide hBX
                  clear hEQ hLN HPF HRL HDE hBX
                  go_wp2
                  go_roundw
                  case rel => exact ⟨acc ++ Lib.encodeRune r, 0, i + 1, by omega, by omega, by rw [hsC.out], rfl, by go_num, HNX, HLX, HBF⟩
                  case measure => simp [intOf]; omega
            · have hii : decide ((i : Int) + 1 < (k : Int)) = false := decide_eq_false (by omega)
              have hii2 : decide (i + 1 < k) = false := decide_eq_false hi1
              have HPF : Hid (pF (sgB cs) n (t.drop i) = (if 1 < n + 1 then decB (n + 1) else []) ++ Lib.encodeRune (cs.getD (t.getD i 0) (0, [])).1 ++ pF (sgB cs) 0 (t.drop (i + 1))) := by
                show _ = _
                rw [HST.out, if_neg (fun h => hi1 h.1), HSG.out]
              clear HST HSG
              generalize hxe : t.getD i 0 = x at *
              generalize hre : (cs.getD x (0, [])).1 = r at *
              clear hxe hre
              go_wp2
              go_quiet (fail)
              have hBX := below_drewN hbw.out nq
              have c9 : (wr.drewN nq).cell? ⟨b, off + i, none⟩ = some (.int .i64 (x : Int)) := c1
              have b9 : (wr.drewN nq).cell? ⟨cb, co + x * 2, none⟩ = some (.int .i32 r) := b1
              clear c1 b1 hbw
              generalize wr.drewN nq = wX at *
              by_cases hn0 : 0 < n
              · have hng : (1 : Int) < (n : Int) + 1 := by omega
                have HNX : Hid (pF (sgB cs) 0 t = (acc ++ decB (n + 1) ++ Lib.encodeRune r) ++ pF (sgB cs) 0 (t.drop (i + 1))) := by
                  show _ = _
                  rw [hEQ.out, HPF.out, if_pos (by omega)]
                  simp [List.append_assoc]
                have HLX : Hid ((acc ++ decB (n + 1) ++ Lib.encodeRune r).length ≤ 6 * (i + 1)) := by
                  show _ ≤ _
                  have h1 := hLN.out
                  have h2 := decB_length (n + 1)
                  have h3 := HRL.out
                  rw [List.length_append, List.length_append]
                  omega
                have hs1 := fun W => run_string_add_sum (P := Tryd.prog) (w := W) ⟨acc.toArray⟩ ⟨(decB (n + 1)).toArray⟩ (by rw [str_size, str_size]; have := hLN.out; have := decB_length (n + 1); omega)
                have hs2 := fun W => run_string_add_sum (P := Tryd.prog) (w := W) ⟨(acc ++ decB (n + 1)).toArray⟩ ⟨(Lib.encodeRune r).toArray⟩ (by rw [str_size, str_size, List.length_append]; have := hLN.out; have := decB_length (n + 1); have := HRL.out; omega)
                rw [str_app] at hs1
                rw [str_app] at hs2
                obtain ⟨sA, hsA⟩ : ∃ sA, Hid ((⟨acc.toArray⟩ : ByteArray) = sA) := ⟨_, rfl⟩
                obtain ⟨sD, hsD⟩ : ∃ sD, Hid ((⟨(decB (n + 1)).toArray⟩ : ByteArray) = sD) := ⟨_, rfl⟩
                obtain ⟨sR, hsR⟩ : ∃ sR, Hid ((⟨(Lib.encodeRune r).toArray⟩ : ByteArray) = sR) := ⟨_, rfl⟩
                obtain ⟨sB, hsB⟩ : ∃ sB, Hid ((⟨(acc ++ decB (n + 1)).toArray⟩ : ByteArray) = sB) := ⟨_, rfl⟩
                obtain ⟨sC, hsC⟩ : ∃ sC, Hid ((⟨(acc ++ decB (n + 1) ++ Lib.encodeRune r).toArray⟩ : ByteArray) = sC) := ⟨_, rfl⟩
                rw [hsA.out, hsD.out, hsB.out] at hs1
                rw [hsB.out, hsR.out, hsC.out] at hs2
                rw [hsR.out] at hrs
                rw [hsD.out] at HDE
                rw [hsA.out]
                clear hEQ hLN HPF HRL
                go_wp2_with fail
                refine (HDE.out _).mono ?_
                rintro e w3 ⟨rfl, hb3⟩
                have hs3 := hb3.size
                have hB3 : Below w.heap.size w w3 := hBX.trans (hb3.mono hBX.size)
                have c3 := (hb3.cell (p := ⟨b, off + i, none⟩) (by show b < _; have := hBX.size; omega)).trans c9
                have b3 := (hb3.cell (p := ⟨cb, co + x * 2, none⟩) (by show cb < _; have := hBX.size; omega)).trans b9
                have HBF := hide hB3
                clear hb3 c9 b9 HDE hBX
                go_wp2
                go_roundw
                case rel => exact ⟨acc ++ decB (n + 1) ++ Lib.encodeRune r, 0, i + 1, by omega, by omega, by rw [hsC.out], rfl, by go_num, HNX, HLX, HBF⟩
                case measure => simp [intOf]; omega
              · obtain rfl : n = 0 := by omega
                have HNX : Hid (pF (sgB cs) 0 t = (acc ++ Lib.encodeRune r) ++ pF (sgB cs) 0 (t.drop (i + 1))) := by
                  show _ = _
                  rw [hEQ.out, HPF.out, if_neg (by omega)]
                  simp [List.append_assoc]
                have HLX : Hid ((acc ++ Lib.encodeRune r).length ≤ 6 * (i + 1)) := by
                  show _ ≤ _
                  have h1 := hLN.out
                  have h3 := HRL.out
                  rw [List.length_append]
                  omega
                have hs2 := fun W => run_string_add_sum (P := Tryd.prog) (w := W) ⟨acc.toArray⟩ ⟨(Lib.encodeRune r).toArray⟩ (by rw [str_size, str_size]; have := hLN.out; have := HRL.out; omega)
                rw [str_app] at hs2
                obtain ⟨sA, hsA⟩ : ∃ sA, Hid ((⟨acc.toArray⟩ : ByteArray) = sA) := ⟨_, rfl⟩
                obtain ⟨sR, hsR⟩ : ∃ sR, Hid ((⟨(Lib.encodeRune r).toArray⟩ : ByteArray) = sR) := ⟨_, rfl⟩
                obtain ⟨sC, hsC⟩ : ∃ sC, Hid ((⟨(acc ++ Lib.encodeRune r).toArray⟩ : ByteArray) = sC) := ⟨_, rfl⟩
                rw [hsA.out, hsR.out, hsC.out] at hs2
                rw [hsR.out] at hrs
                rw [hsA.out]
                have HBF := hide hBX
                clear hEQ hLN HPF HRL HDE hBX
                go_wp2
                go_roundw
                case rel => exact ⟨acc ++ Lib.encodeRune r, 0, i + 1, by omega, by omega, by rw [hsC.out], rfl, by go_num, HNX, HLX, HBF⟩
                case measure => simp [intOf]; omega
          · obtain rfl : i = k := by omega
            have HFT : Hid (TX = ⟨acc.toArray⟩) := by
              show TX = _
              rw [HTX.out, hEQ.out, List.drop_eq_nil_of_le (by rw [HTL.out]; exact Nat.le_refl _)]
              simp [pF]
            clear hEQ hLN
            go_wp2
            go_ret2
            exact ⟨by rw [HFE.out, HFT.out]; rfl, hbw.out⟩

end Go.Proofs.YtenpkhalgkodbaaDoor

/- Arrays of twelve ints: loads, stores, results (as Arr has it for int8). -/
namespace Go.Proofs.YtenpkhalgkodbaaDoor
open Go.RowKit

/-- Numbers as the cells of an array of ints. -/
def i64s (zs : List Int) : Array Value := (zs.map (Value.int .i64)).toArray

theorem i64s_size (zs : List Int) : (i64s zs).size = zs.length := by simp [i64s]

theorem i64s_get {zs : List Int} {j : Nat} (h : j < zs.length) : (i64s zs)[j]? = some (.int .i64 (zs.getD j 0)) := by
  simp [i64s, List.getD, h]

theorem i64s_one (zs : List Int) : (i64s zs).all (·.oneCell') = true := by
  rw [Array.all_eq_true_iff_forall_mem]
  intro v hv
  simp [i64s] at hv
  obtain ⟨a, _, rfl⟩ := hv
  rfl

theorem i64s_set (zs : List Int) (k : Nat) (y : Int) : (i64s zs).setIfInBounds k (.int .i64 y) = i64s (zs.set k y) := by
  apply Array.toList_inj.1
  simp [i64s]

def zerosK : List Int := [0, 0, 0, 0, 0, 0, 0, 0, 0, 0, 0, 0]

end Go.Proofs.YtenpkhalgkodbaaDoor

/- Plain: rows of twelve bells as a group that acts on bells; what some rows generate. -/
namespace Go.Proofs.YtenpkhalgkodbaaDoor

/-- Rows of twelve bells. -/
structure Pm where
  l : List Int
  len : l.length = 12
  row : isRow l

namespace Pm

/-- Which bell a row has in a place. -/
def act (x : Pm) (b : Nat) : Nat := if b < 12 then nx x.l b else b

theorem act_lt (x : Pm) {b : Nat} (h : b < 12) : x.act b < 12 := by
  unfold act; rw [if_pos h]
  have := nx_lt x.row (x := b) (by rw [x.len]; exact h)
  rw [x.len] at this; exact this

theorem act_ge (x : Pm) {b : Nat} (h : ¬ b < 12) : x.act b = b := by unfold act; rw [if_neg h]

theorem act_inj (x : Pm) {a b : Nat} (h : x.act a = x.act b) : a = b := by
  by_cases ha : a < 12
  · by_cases hb : b < 12
    · unfold act at h; rw [if_pos ha, if_pos hb] at h
      exact nx_inj x.row (by rw [x.len]; exact ha) (by rw [x.len]; exact hb) h
    · have := x.act_lt ha; rw [h, x.act_ge hb] at this; exact absurd this hb
  · by_cases hb : b < 12
    · have := x.act_lt hb; rw [← h, x.act_ge ha] at this; exact absurd this ha
    · rw [x.act_ge ha, x.act_ge hb] at h; exact h

theorem getD_act (x : Pm) {b : Nat} (h : b < 12) : x.l.getD b 0 = ((x.act b : Nat) : Int) := by
  unfold act; rw [if_pos h]
  have := x.row.at (j := b) (by rw [x.len]; exact h)
  unfold nx; omega

theorem ext' {x y : Pm} (h : ∀ b, b < 12 → x.act b = y.act b) : x = y := by
  have e : x.l = y.l := ext_getD (by rw [x.len, y.len]) (fun j hj => by
    rw [x.len] at hj
    rw [x.getD_act hj, y.getD_act hj, h j hj])
  cases x; cases y; cases e; rfl

theorem eq_of_l {x y : Pm} (e : x.l = y.l) : x = y := by cases x; cases y; cases e; rfl

instance : Mul Pm := ⟨fun x y => ⟨by_ x.l y.l, by rw [by_length]; exact y.len, isRow_by x.row y.row (by rw [x.len, y.len])⟩⟩
instance : One Pm := ⟨⟨rnd 12, rnd_length 12, isRow_rnd 12⟩⟩

theorem mul_l (x y : Pm) : (x * y).l = by_ x.l y.l := rfl
theorem one_l : (1 : Pm).l = rnd 12 := rfl

theorem act_mul (x y : Pm) (b : Nat) : (x * y).act b = x.act (y.act b) := by
  by_cases h : b < 12
  · have h2 := y.act_lt h
    have e1 : y.act b = nx y.l b := by unfold act; rw [if_pos h]
    have e2 : (x * y).act b = nx (x * y).l b := by unfold act; rw [if_pos h]
    have e3 : x.act (y.act b) = nx x.l (y.act b) := by unfold act; rw [if_pos (by exact h2)]
    rw [e2, e3, e1, mul_l, nx_by (by rw [y.len]; exact h)]
  · rw [act_ge _ h, act_ge _ h, act_ge _ h]

theorem act_one (b : Nat) : (1 : Pm).act b = b := by
  by_cases h : b < 12
  · unfold act; rw [if_pos h, one_l]
    have := rnd_get (n := 12) h
    unfold nx; rw [this]; omega
  · exact act_ge _ h

theorem mul_assoc (x y z : Pm) : x * y * z = x * (y * z) := ext' (fun b _ => by rw [act_mul, act_mul, act_mul, act_mul])
theorem one_mul (x : Pm) : 1 * x = x := ext' (fun b _ => by rw [act_mul, act_one])
theorem mul_one (x : Pm) : x * 1 = x := ext' (fun b _ => by rw [act_mul, act_one])

open Classical in
noncomputable def invl (x : Pm) : List Int := (List.range 12).map (fun i => if h : i < 12 then ((Classical.choose (isRow_onto x.row (i := i) (by rw [x.len]; exact h)) : Nat) : Int) else 0)

theorem invl_undoes (x : Pm) : Undoes x.invl x.l := by
  refine ⟨by rw [x.len]; simp [invl], fun j hj => ?_⟩
  have hj' : j < 12 := by rw [← x.len]; exact hj
  have h1 := x.row.at hj
  rw [x.len] at h1
  obtain ⟨m, hm⟩ := Int.eq_ofNat_of_zero_le h1.1
  have hm12 : m < 12 := by omega
  rw [hm]
  have e : x.invl.getD m 0 = ((Classical.choose (isRow_onto x.row (i := m) (by rw [x.len]; exact hm12)) : Nat) : Int) := by
    simp [invl, List.getD, hm12]
  have hs := Classical.choose_spec (isRow_onto x.row (i := m) (by rw [x.len]; exact hm12))
  rw [Int.toNat_natCast, e]
  have := x.row.inj hs.1 hj (by rw [hs.2]; exact hm.symm)
  omega

noncomputable instance : Inv Pm := ⟨fun x => ⟨x.invl, by rw [(invl_undoes x).1]; exact x.len, isRow_undoes x.row (invl_undoes x)⟩⟩

theorem inv_l (x : Pm) : (x⁻¹).l = x.invl := rfl

theorem act_undoes {x z : Pm} (h : Undoes z.l x.l) (b : Nat) : z.act (x.act b) = b := by
  by_cases hb : b < 12
  · have h2 := x.act_lt hb
    have h3 := h.2 b (by rw [x.len]; exact hb)
    unfold act at h2 ⊢
    rw [if_pos hb] at h2 ⊢
    rw [if_pos h2]
    unfold nx at h2 ⊢
    omega
  · rw [act_ge _ hb, act_ge _ hb]

theorem inv_act (x : Pm) (b : Nat) : x⁻¹.act (x.act b) = b := act_undoes (x.invl_undoes) b

theorem act_inv (x : Pm) (b : Nat) : x.act (x⁻¹.act b) = b := by
  apply x⁻¹.act_inj
  rw [inv_act]

theorem inv_mul (x : Pm) : x⁻¹ * x = 1 := ext' (fun b _ => by rw [act_mul, inv_act, act_one])
theorem mul_inv (x : Pm) : x * x⁻¹ = 1 := ext' (fun b _ => by rw [act_mul, act_inv, act_one])
theorem inv_mul_cancel (x y : Pm) : x⁻¹ * (x * y) = y := by rw [← mul_assoc, inv_mul, one_mul]
theorem mul_inv_cancel (x y : Pm) : x * (x⁻¹ * y) = y := by rw [← mul_assoc, mul_inv, one_mul]
theorem mul_cancel {x y z : Pm} (h : x * y = x * z) : y = z := by rw [← inv_mul_cancel x y, h, inv_mul_cancel]
theorem eq_inv_of {x y : Pm} (h : x * y = 1) : y = x⁻¹ := by rw [← inv_mul_cancel x y, h, mul_one]
theorem inv_one : (1 : Pm)⁻¹ = 1 := (eq_inv_of (one_mul 1)).symm
theorem inv_inv (x : Pm) : x⁻¹⁻¹ = x := (eq_inv_of (inv_mul x)).symm
theorem inv_prod (x y : Pm) : (x * y)⁻¹ = y⁻¹ * x⁻¹ := (eq_inv_of (by rw [mul_assoc, ← mul_assoc y, mul_inv, one_mul, mul_inv])).symm

theorem undoes_eq {x : Pm} {zs : List Int} (h : Undoes zs x.l) : zs = (x⁻¹).l := by
  have h1 : isRow zs := isRow_undoes x.row h
  have h2 : zs.length = 12 := by rw [h.1, x.len]
  have e : (⟨zs, h2, h1⟩ : Pm) = x⁻¹ := by
    apply eq_inv_of
    refine ext' (fun b _ => ?_)
    have h3 : (⟨zs, h2, h1⟩ : Pm) * x = 1 := ext' (fun b _ => by rw [act_mul, act_one]; exact act_undoes (x := x) (z := ⟨zs, h2, h1⟩) h b)
    have h4 : x = (⟨zs, h2, h1⟩ : Pm)⁻¹ := eq_inv_of h3
    rw [h4, inv_mul]
  rw [← e]

/-! powers -/
def pow (x : Pm) : Nat → Pm
  | 0 => 1
  | n + 1 => x * x.pow n

theorem act_pow (x : Pm) (n : Nat) {b : Nat} (hb : b < 12) : (x.pow n).act b = it x.l n b := by
  induction n with
  | zero => exact act_one b
  | succ n ih =>
    show (x * x.pow n).act b = _
    have h12 := it_lt x.row (x := b) (by rw [x.len]; exact hb) n
    rw [x.len] at h12
    rw [act_mul, ih]
    show (if it x.l n b < 12 then nx x.l (it x.l n b) else _) = nx x.l (it x.l n b)
    rw [if_pos h12]

theorem dvd_fct {m n : Nat} (h1 : 1 ≤ m) (h2 : m ≤ n) : m ∣ fct n := by
  induction n with
  | zero => omega
  | succ n ih =>
    show m ∣ (n + 1) * fct n
    by_cases e : m = n + 1
    · subst e; exact Nat.dvd_mul_right _ _
    · exact Nat.dvd_trans (ih (by omega)) (Nat.dvd_mul_left _ _)

theorem it_mult {r : List Int} {x p : Nat} (h : it r p x = x) (d : Nat) : it r (p * d) x = x := by
  induction d with
  | zero => rfl
  | succ d ih => rw [Nat.mul_succ, it_add, h, ih]

theorem pow_all (x : Pm) : x.pow (fct 12) = 1 := ext' (fun b hb => by
  have hp := per_spec x.row (x := b) (by rw [x.len]; exact hb)
  rw [x.len] at hp
  obtain ⟨d, hd⟩ := dvd_fct hp.1 hp.2.1
  rw [act_pow x _ hb, hd, it_mult hp.2.2.1, act_one])

theorem inv_pow (x : Pm) : x⁻¹ = x.pow (fct 12 - 1) := by
  symm
  apply eq_inv_of
  show x.pow (fct 12 - 1 + 1) = 1
  rw [show fct 12 - 1 + 1 = fct 12 from by decide]
  exact pow_all x

end Pm

/-! what rows generate -/

inductive Gen (S : Pm → Prop) : Pm → Prop
  | one : Gen S 1
  | mul {s x : Pm} : S s → Gen S x → Gen S (s * x)

structure Sub (H : Pm → Prop) : Prop where
  one : H 1
  mul : ∀ {x y}, H x → H y → H (x * y)
  inv : ∀ {x}, H x → H x⁻¹

theorem Gen.of {S : Pm → Prop} {s : Pm} (h : S s) : Gen S s := by
  have := Gen.mul h Gen.one; rwa [Pm.mul_one] at this

theorem Gen.mul' {S : Pm → Prop} {x y : Pm} (hx : Gen S x) (hy : Gen S y) : Gen S (x * y) := by
  induction hx with
  | one => rw [Pm.one_mul]; exact hy
  | mul hs _ ih => rw [Pm.mul_assoc]; exact Gen.mul hs ih

theorem Gen.pow {S : Pm → Prop} {x : Pm} (hx : Gen S x) (n : Nat) : Gen S (x.pow n) := by
  induction n with
  | zero => exact Gen.one
  | succ n ih => exact Gen.mul' hx ih

theorem Gen.inv {S : Pm → Prop} {x : Pm} (hx : Gen S x) : Gen S x⁻¹ := by rw [Pm.inv_pow]; exact hx.pow _

theorem Gen.sub (S : Pm → Prop) : Sub (Gen S) := ⟨Gen.one, Gen.mul', Gen.inv⟩

theorem Gen.least {S H : Pm → Prop} (hH : Sub H) (h : ∀ s, S s → H s) {x : Pm} (hx : Gen S x) : H x := by
  induction hx with
  | one => exact hH.one
  | mul hs _ ih => exact hH.mul (h _ hs) ih

theorem Gen.mono {S T : Pm → Prop} (h : ∀ s, S s → T s) {x : Pm} (hx : Gen S x) : Gen T x := hx.least (Gen.sub T) (fun s hs => Gen.of (h s hs))

theorem Sub.and {H K : Pm → Prop} (h : Sub H) (k : Sub K) : Sub (fun x => H x ∧ K x) :=
  ⟨⟨h.one, k.one⟩, fun hx hy => ⟨h.mul hx.1 hy.1, k.mul hx.2 hy.2⟩, fun hx => ⟨h.inv hx.1, k.inv hx.2⟩⟩

/-- A row leaves some bells in their places. -/
def Fixes (F : Nat → Prop) (x : Pm) : Prop := ∀ b, F b → x.act b = b

theorem fixes_sub (F : Nat → Prop) : Sub (Fixes F) :=
  ⟨fun b _ => Pm.act_one b, fun {x y} hx hy b hb => by rw [Pm.act_mul, hy b hb, hx b hb], fun {x} hx b hb => by have := hx b hb; rw [← this, Pm.inv_act, this]⟩

theorem fixes_all {F : Nat → Prop} (h : ∀ b, b < 12 → F b) {x : Pm} (hx : Fixes F x) : x = 1 := Pm.ext' (fun b hb => by rw [hx b (h b hb), Pm.act_one])

/-! rows of fewer bells -/

open Classical in
noncomputable def pad (l : List Int) : Pm := if h : l.length ≤ 12 ∧ isRow l then ⟨l ++ (rnd 12).drop l.length, by rw [List.length_append, List.length_drop, rnd_length]; omega, by
    obtain ⟨h1, h2⟩ := h
    constructor
    · intro y hy
      rw [List.length_append, List.length_drop, rnd_length]
      rcases List.mem_append.1 hy with hy | hy
      · have := h2.1 y hy; omega
      · have := (isRow_rnd 12).1 y (List.mem_of_mem_drop hy); rw [rnd_length] at this; omega
    · rw [List.nodup_append]
      refine ⟨h2.2, (isRow_rnd 12).2.sublist (List.drop_sublist _ _), ?_⟩
      intro a ha b hb e
      have h3 := h2.1 a ha
      rw [List.mem_iff_getElem] at hb
      obtain ⟨i, hi, rfl⟩ := hb
      rw [List.getElem_drop] at e
      have h4 : (rnd 12)[l.length + i]'(by rw [List.length_drop] at hi; omega) = ((l.length + i : Nat) : Int) := by simp [rnd]
      rw [h4] at e
      omega⟩ else 1

theorem pad_l {l : List Int} (h1 : l.length ≤ 12) (h2 : isRow l) : (pad l).l = l ++ (rnd 12).drop l.length := by
  unfold pad; rw [dif_pos ⟨h1, h2⟩]

theorem pad_act {l : List Int} (h1 : l.length ≤ 12) (h2 : isRow l) (b : Nat) : (pad l).act b = if b < l.length then nx l b else b := by
  by_cases hb : b < 12
  · unfold Pm.act; rw [if_pos hb, pad_l h1 h2]
    unfold nx
    by_cases hl : b < l.length
    · rw [if_pos hl]; simp [List.getD, List.getElem?_append_left hl]
    · rw [if_neg hl]
      simp only [List.getD]
      rw [List.getElem?_append_right (by omega), List.getElem?_drop, show l.length + (b - l.length) = b from by omega]
      have := rnd_get (n := 12) hb
      simp only [List.getD] at this
      rw [this]; omega
  · rw [Pm.act_ge _ hb, if_neg (by omega)]

theorem pad_by {a b : List Int} (h1 : a.length ≤ 12) (h2 : isRow a) (h3 : isRow b) (h4 : b.length = a.length) : pad (by_ a b) = pad a * pad b := by
  have hr := isRow_by h2 h3 h4
  refine Pm.ext' (fun x _ => ?_)
  rw [Pm.act_mul, pad_act (by rw [by_length]; omega) hr, pad_act (by omega) h3, pad_act h1 h2, by_length]
  by_cases hx : x < b.length
  · have := nx_lt h3 hx
    rw [if_pos hx, if_pos hx, if_pos (by omega), nx_by hx]
  · rw [if_neg hx, if_neg hx, if_neg (by omega)]

theorem pad_rnd {n : Nat} (h : n ≤ 12) : pad (rnd n) = 1 := by
  refine Pm.ext' (fun x _ => ?_)
  rw [pad_act (by rw [rnd_length]; exact h) (isRow_rnd n), Pm.act_one, rnd_length]
  split
  · rename_i hx
    unfold nx; rw [rnd_get hx]; omega
  · rfl

theorem pad_undoes {zs a : List Int} (h1 : a.length ≤ 12) (h2 : isRow a) (h : Undoes zs a) : pad zs = (pad a)⁻¹ := by
  apply Pm.eq_inv_of
  rw [← pad_by h1 h2 (isRow_undoes h2 h) h.1, by_undoes h2 h, pad_rnd h1]

theorem pad_inj {a b : List Int} (h1 : a.length ≤ 12) (ha : isRow a) (hb : isRow b) (hl : b.length = a.length) (h : pad a = pad b) : a = b := by
  refine ext_getD hl.symm (fun j hj => ?_)
  have h3 : (pad a).act j = (pad b).act j := by rw [h]
  rw [pad_act h1 ha, pad_act (by omega) hb, if_pos hj, if_pos (by omega)] at h3
  have h4 := ha.at hj
  have h5 := hb.at (j := j) (by omega)
  unfold nx at h3; omega

/-- The first n bells of a row that leaves the rest. -/
def cut (n : Nat) (x : Pm) : List Int := x.l.take n

theorem cut_length {n : Nat} (h : n ≤ 12) (x : Pm) : (cut n x).length = n := by unfold cut; rw [List.length_take, x.len]; omega

theorem cut_get {n j : Nat} (x : Pm) (h : n ≤ 12) (hj : j < n) : (cut n x).getD j 0 = ((x.act j : Nat) : Int) := by
  rw [← x.getD_act (by omega)]
  unfold cut
  simp [List.getD, hj]

theorem fix_lt {n : Nat} {x : Pm} (hf : Fixes (fun b => n ≤ b) x) {b : Nat} (hb : b < n) : x.act b < n := by
  rcases Nat.lt_or_ge (x.act b) n with h | h
  · exact h
  · have := hf _ h
    have := x.act_inj this
    omega

theorem cut_row {n : Nat} (h : n ≤ 12) {x : Pm} (hf : Fixes (fun b => n ≤ b) x) : isRow (cut n x) := by
  constructor
  · intro y hy
    rw [cut_length h]
    obtain ⟨i, hi, rfl⟩ := List.getElem_of_mem hy
    have hi' : i < n := by rw [cut_length h] at hi; exact hi
    have := cut_get x h hi'
    simp only [List.getD, List.getElem?_eq_getElem hi, Option.getD_some] at this
    rw [this]
    have := fix_lt hf hi'
    omega
  · exact x.row.2.sublist (List.take_sublist _ _)

theorem pad_cut {n : Nat} (h : n ≤ 12) {x : Pm} (hf : Fixes (fun b => n ≤ b) x) : pad (cut n x) = x := by
  refine Pm.ext' (fun b hb => ?_)
  rw [pad_act (by rw [cut_length h]; exact h) (cut_row h hf), cut_length h]
  split
  · rename_i hn
    unfold nx; rw [cut_get x h hn]; omega
  · rename_i hn
    exact (hf b (by show n ≤ b; omega)).symm

theorem pad_fixes {n : Nat} {l : List Int} (h : n ≤ 12) (hl : l.length = n) (hr : isRow l) : Fixes (fun b => n ≤ b) (pad l) := by
  intro b hb
  have hb : n ≤ b := hb
  rw [pad_act (by omega) hr, if_neg (by omega)]

theorem cut_pad {n : Nat} {l : List Int} (h : n ≤ 12) (hl : l.length = n) (hr : isRow l) : cut n (pad l) = l := by
  unfold cut
  rw [pad_l (by omega) hr, ← hl, List.take_left']
  rfl

end Go.Proofs.YtenpkhalgkodbaaDoor

/- Plain: a group as a chain of links: what it holds, when it is whole, and how one more row makes it greater (Schreier). -/
namespace Go.Proofs.YtenpkhalgkodbaaDoor

/-- A link: its base, what brings which bell there, its generators. -/
structure Lk where
  base : Nat
  tab : List (Nat × Pm)
  gens : List Pm

/-- The rows of a chain. -/
def Prd : List Lk → Pm → Prop
  | [], p => p = 1
  | l :: c, p => ∃ e, e ∈ l.tab ∧ ∃ h, Prd c h ∧ p = e.2 * h

structure LkOk (F : Nat → Prop) (l : Lk) : Prop where
  nodup : (l.tab.map (·.1)).Nodup
  brings : ∀ e, e ∈ l.tab → e.2.act l.base = e.1
  first : (l.base, (1 : Pm)) ∈ l.tab
  fix : ∀ e, e ∈ l.tab → Fixes F e.2

/-- F and one bell more. -/
def plus (F : Nat → Prop) (b : Nat) : Nat → Prop := fun x => F x ∨ x = b

def Whole : (Nat → Prop) → List Lk → Prop
  | F, [] => ∀ b, b < 12 → F b
  | F, l :: c => LkOk F l ∧ Whole (plus F l.base) c ∧ (∀ p, Prd (l :: c) p ↔ Gen (fun x => x ∈ l.gens) p)

theorem fixes_plus {F : Nat → Prop} {b : Nat} {x : Pm} : Fixes (plus F b) x ↔ Fixes F x ∧ x.act b = b :=
  ⟨fun h => ⟨fun a ha => h a (Or.inl ha), h b (Or.inr rfl)⟩, fun h a ha => by rcases ha with ha | rfl; exact h.1 a ha; exact h.2⟩

theorem prd_fix {c : List Lk} {F : Nat → Prop} {p : Pm} (hw : Whole F c) (h : Prd c p) : Fixes F p := by
  induction c generalizing F p with
  | nil => rw [show p = (1 : Pm) from h]; exact (fixes_sub _).one
  | cons l c ih =>
    obtain ⟨e, he, h, hh, hp⟩ := h
    rw [hp]
    exact (fixes_sub F).mul (hw.1.fix e he) (fixes_plus.1 (ih hw.2.1 hh)).1

theorem prd_sub {c : List Lk} {F : Nat → Prop} (hw : Whole F c) : Sub (Prd c) := by
  cases c with
  | nil => exact ⟨rfl, fun {x y} hx hy => by rw [show x = 1 from hx, show y = 1 from hy]; exact Pm.one_mul 1, fun {x} hx => by rw [show x = 1 from hx]; exact Pm.inv_one⟩
  | cons l c =>
    have h := hw.2.2
    exact ⟨(h 1).2 Gen.one, fun {x y} hx hy => (h _).2 (Gen.mul' ((h x).1 hx) ((h y).1 hy)), fun {x} hx => (h _).2 (Gen.inv ((h x).1 hx))⟩

/-- Does a chain hold a row? (As the code asks.) -/
noncomputable def hasC : List Lk → Pm → Bool
  | [], _ => true
  | l :: c, p => (l.tab.lookup (p.act l.base)).elim false (fun u => hasC c (u⁻¹ * p))

theorem lookup_mem {tab : List (Nat × Pm)} {b : Nat} {u : Pm} (h : tab.lookup b = some u) : (b, u) ∈ tab := by
  induction tab with
  | nil => simp at h
  | cons e t ih =>
    rw [List.lookup_cons] at h
    split at h
    · rename_i hb
      have hb : b = e.1 := by simpa using hb
      injection h with h
      subst h; subst hb; exact List.mem_cons_self
    · exact List.mem_cons_of_mem _ (ih h)

theorem lookup_of_mem {tab : List (Nat × Pm)} (hn : (tab.map (·.1)).Nodup) {b : Nat} {u : Pm} (h : (b, u) ∈ tab) : tab.lookup b = some u := by
  induction tab with
  | nil => cases h
  | cons e t ih =>
    rw [List.map_cons, List.nodup_cons] at hn
    rw [List.lookup_cons]
    rcases List.mem_cons.1 h with rfl | h
    · simp
    · have hne : ¬ b = e.1 := fun hb => hn.1 (List.mem_map.2 ⟨(b, u), h, hb⟩)
      split
      · rename_i hb; exact absurd (by simpa using hb) hne
      · exact ih hn.2 h

theorem lookup_none {tab : List (Nat × Pm)} {b : Nat} (h : tab.lookup b = none) : ∀ e, e ∈ tab → e.1 ≠ b := by
  induction tab with
  | nil => intro e he; cases he
  | cons x t ih =>
    rw [List.lookup_cons] at h
    split at h
    · cases h
    · rename_i hb
      intro e he
      rcases List.mem_cons.1 he with rfl | he
      · intro e2; exact absurd e2.symm (by simpa using hb)
      · exact ih h e he

theorem tab_eq {tab : List (Nat × Pm)} (hn : (tab.map (·.1)).Nodup) {b : Nat} {u v : Pm} (h1 : (b, u) ∈ tab) (h2 : (b, v) ∈ tab) : u = v := by
  have e1 := lookup_of_mem hn h1
  rw [lookup_of_mem hn h2] at e1
  injection e1 with e1; exact e1.symm

theorem has_iff {c : List Lk} {F : Nat → Prop} {p : Pm} (hw : Whole F c) (hf : Fixes F p) : hasC c p = true ↔ Prd c p := by
  induction c generalizing F p with
  | nil =>
    have := fixes_all hw hf
    simp [hasC, Prd, this]
  | cons l c ih =>
    obtain ⟨hok, hwc, _⟩ := hw
    cases hl : l.tab.lookup (p.act l.base) with
    | none =>
      simp only [hasC, hl, Option.elim]
      constructor
      · intro h; cases h
      · rintro ⟨e, he, h, hh, rfl⟩
        have h1 := (fixes_plus.1 (prd_fix hwc hh)).2
        rw [Pm.act_mul, h1, hok.brings e he] at hl
        exact absurd rfl (lookup_none hl e he)
    | some u =>
      have hm := lookup_mem hl
      have hb := hok.brings _ hm
      have hf2 : Fixes (plus F l.base) (u⁻¹ * p) := fixes_plus.2 ⟨(fixes_sub F).mul ((fixes_sub F).inv (hok.fix _ hm)) hf, by have hb : u.act l.base = p.act l.base := hb; rw [Pm.act_mul, ← hb, Pm.inv_act]⟩
      simp only [hasC, hl, Option.elim]
      rw [ih hwc hf2]
      constructor
      · intro h; exact ⟨_, hm, _, h, by rw [Pm.mul_inv_cancel]⟩
      · rintro ⟨e, he, h, hh, rfl⟩
        have h1 := (fixes_plus.1 (prd_fix hwc hh)).2
        rw [Pm.act_mul, h1, hok.brings e he] at hl
        have h2 := lookup_of_mem hok.nodup (b := e.1) (u := e.2) (by exact he)
        rw [h2] at hl
        injection hl with hl
        rw [← hl, Pm.inv_mul_cancel]
        exact hh

/-- A link that is being filled, and the chain behind it. -/
structure Part (F : Nat → Prop) (l : Lk) (c : List Lk) : Prop where
  ok : LkOk F l
  whole : Whole (plus F l.base) c
  inG : ∀ e, e ∈ l.tab → Gen (fun x => x ∈ l.gens) e.2
  cG : ∀ h, Prd c h → Gen (fun x => x ∈ l.gens) h
  gF : ∀ s, s ∈ l.gens → Fixes F s

def Done (l : Lk) (c : List Lk) (s : Pm) (e : Nat × Pm) : Prop := ∃ e', e' ∈ l.tab ∧ e'.1 = s.act e.1 ∧ Prd c (e'.2⁻¹ * (s * e.2))

theorem Part.closes {F : Nat → Prop} {l : Lk} {c : List Lk} (h : Part F l c) (hd : ∀ s, s ∈ l.gens → ∀ e, e ∈ l.tab → Done l c s e) : Whole F (l :: c) := by
  refine ⟨h.ok, h.whole, fun p => ⟨?_, ?_⟩⟩
  · rintro ⟨e, he, x, hx, rfl⟩
    exact Gen.mul' (h.inG e he) (h.cG x hx)
  · intro hp
    have hs := prd_sub h.whole
    induction hp with
    | one => exact ⟨_, h.ok.first, 1, hs.one, by rw [Pm.mul_one]⟩
    | mul hsg _ ih =>
      obtain ⟨e, he, x, hx, rfl⟩ := ih
      obtain ⟨e', he', _, hpr⟩ := hd _ hsg e he
      exact ⟨e', he', _, hs.mul hpr hx, by rw [Pm.mul_assoc e'.2⁻¹, Pm.mul_inv_cancel, Pm.mul_assoc]⟩

/-- What 'take' leaves: the rows of the chain are all that come of those that were there and the new one. -/
structure Took (c c' : List Lk) (p : Pm) : Prop where
  len : c'.length = c.length
  bases : c'.map (·.base) = c.map (·.base)
  grow : ∀ h, Prd c h → Prd c' h
  there : Prd c' p
  least : ∀ H, Sub H → (∀ h, Prd c h → H h) → H p → ∀ h, Prd c' h → H h

theorem Took.refl {c : List Lk} {p : Pm} (h : Prd c p) : Took c c p := ⟨rfl, rfl, fun _ h => h, h, fun _ _ h _ => h⟩

/-- What 'bring' leaves. -/
structure Brought (l : Lk) (c : List Lk) (l' : Lk) (c' : List Lk) (p : Pm) : Prop where
  base : l'.base = l.base
  gens : l'.gens = l.gens
  tab : ∃ more, l'.tab = l.tab ++ more
  len : c'.length = c.length
  bases : c'.map (·.base) = c.map (·.base)
  grow : ∀ h, Prd c h → Prd c' h
  there : ∃ e, e ∈ l'.tab ∧ e.1 = p.act l.base ∧ Prd c' (e.2⁻¹ * p)
  new : ∀ e, e ∈ l'.tab → e ∉ l.tab → ∀ s, s ∈ l.gens → Done l' c' s e

/-- An old bell: the link stands, the chain behind it takes what is left. -/
theorem Part.old {F : Nat → Prop} {l : Lk} {c c' : List Lk} {p u : Pm} (h : Part F l c) (hu : (p.act l.base, u) ∈ l.tab) (hp : Gen (fun x => x ∈ l.gens) p) (hw : Whole (plus F l.base) c') (ht : Took c c' (u⁻¹ * p)) :
    Part F l c' ∧ Brought l c l c' p := by
  refine ⟨⟨h.ok, hw, h.inG, fun x hx => ht.least _ (Gen.sub _) h.cG (Gen.mul' (Gen.inv (h.inG _ hu)) hp) x hx, h.gF⟩, ⟨rfl, rfl, ⟨[], by simp⟩, ht.len, ht.bases, ht.grow, ⟨_, hu, rfl, ht.there⟩, fun e he hn => absurd he hn⟩⟩

/-- A new bell: the link has one more entry. -/
def Lk.add (l : Lk) (b : Nat) (p : Pm) : Lk := { l with tab := l.tab ++ [(b, p)] }

theorem Part.add {F : Nat → Prop} {l : Lk} {c : List Lk} {p : Pm} (h : Part F l c) (hb : l.tab.lookup (p.act l.base) = none) (hf : Fixes F p) (hp : Gen (fun x => x ∈ l.gens) p) : Part F (l.add (p.act l.base) p) c := by
  refine ⟨⟨?_, ?_, ?_, ?_⟩, h.whole, ?_, h.cG, h.gF⟩
  · show ((l.tab ++ [(p.act l.base, p)]).map (·.1)).Nodup
    rw [List.map_append, List.nodup_append]
    refine ⟨h.ok.nodup, by simp, ?_⟩
    intro a ha b hb2 e
    obtain ⟨e0, he0, rfl⟩ := List.mem_map.1 ha
    have : b = p.act l.base := by simpa using hb2
    exact lookup_none hb e0 he0 (by rw [e, this])
  · intro e he
    rcases List.mem_append.1 he with he | he
    · exact h.ok.brings e he
    · rw [List.mem_singleton.1 he]; rfl
  · exact List.mem_append_left _ h.ok.first
  · intro e he
    rcases List.mem_append.1 he with he | he
    · exact h.ok.fix e he
    · rw [List.mem_singleton.1 he]; exact hf
  · intro e he
    rcases List.mem_append.1 he with he | he
    · exact h.inG e he
    · rw [List.mem_singleton.1 he]; exact hp

/-- The loop behind a new bell: after the first i generators. -/
structure Loop (l : Lk) (c : List Lk) (l0 : Lk) (l' : Lk) (c' : List Lk) (p : Pm) (i : Nat) : Prop where
  base : l'.base = l.base
  gens : l'.gens = l.gens
  tab : ∃ more, l'.tab = l.tab ++ more
  len : c'.length = c.length
  bases : c'.map (·.base) = c.map (·.base)
  grow : ∀ h, Prd c h → Prd c' h
  new : ∀ e, e ∈ l'.tab → e ∉ l.tab → ∀ s, s ∈ l.gens → Done l' c' s e
  done : ∀ s, s ∈ l.gens.take i → Done l' c' s (p.act l0.base, p)

theorem Done.mono {l l' : Lk} {c c' : List Lk} {s : Pm} {e : Nat × Pm} (h : Done l c s e) (ht : ∃ more, l'.tab = l.tab ++ more) (hg : ∀ h, Prd c h → Prd c' h) : Done l' c' s e := by
  obtain ⟨e', he', h1, h2⟩ := h
  obtain ⟨more, hm⟩ := ht
  exact ⟨e', by rw [hm]; exact List.mem_append_left _ he', h1, hg _ h2⟩

theorem Brought.trans_new {l l1 l2 : Lk} {c1 c2 : List Lk} {q : Pm} (hn : ∀ e, e ∈ l1.tab → e ∉ l.tab → ∀ s, s ∈ l.gens → Done l1 c1 s e) (hg : l1.gens = l.gens) (h : Brought l1 c1 l2 c2 q) :
    ∀ e, e ∈ l2.tab → e ∉ l.tab → ∀ s, s ∈ l.gens → Done l2 c2 s e := by
  intro e he hne s hs
  by_cases h1 : e ∈ l1.tab
  · exact (hn e h1 hne s hs).mono h.tab h.grow
  · exact h.new e he h1 s (by rw [hg]; exact hs)

theorem Loop.step {l l0 l' l2 : Lk} {c c' c2 : List Lk} {p s : Pm} {i : Nat} (h : Loop l c l0 l' c' p i) (hi : l.gens.take (i + 1) = l.gens.take i ++ [s]) (hb : l0.base = l.base) (h2 : Brought l' c' l2 c2 (s * p)) : Loop l c l0 l2 c2 p (i + 1) := by
  obtain ⟨m1, hm1⟩ := h.tab
  obtain ⟨m2, hm2⟩ := h2.tab
  refine ⟨h2.base.trans h.base, h2.gens.trans h.gens, ⟨m1 ++ m2, by rw [hm2, hm1, List.append_assoc]⟩, h2.len.trans h.len, h2.bases.trans h.bases, fun x hx => h2.grow x (h.grow x hx), Brought.trans_new h.new h.gens h2, ?_⟩
  intro t ht
  rw [hi] at ht
  rcases List.mem_append.1 ht with ht | ht
  · exact (h.done t ht).mono h2.tab h2.grow
  · rw [List.mem_singleton.1 ht]
    obtain ⟨e, he, h3, h4⟩ := h2.there
    refine ⟨e, he, ?_, h4⟩
    show e.1 = s.act (p.act l0.base)
    rw [h3, h.base, Pm.act_mul, hb]

/-- The loop begins with the link that has the new bell. -/
theorem Loop.start (l : Lk) (c : List Lk) (p : Pm) : Loop (l.add (p.act l.base) p) c l (l.add (p.act l.base) p) c p 0 :=
  ⟨rfl, rfl, ⟨[], by simp⟩, rfl, rfl, fun _ h => h, fun e he hn => absurd he hn, fun s hs => by simp at hs⟩

theorem Loop.brought {l l' : Lk} {c c' : List Lk} {p : Pm} {i : Nat} (hi : l.gens.length ≤ i) (hw : Prd c' 1) (h : Loop (l.add (p.act l.base) p) c l l' c' p i) : Brought l c l' c' p := by
  obtain ⟨m1, hm1⟩ := h.tab
  have hm : l'.tab = l.tab ++ ((p.act l.base, p) :: m1) := by rw [hm1]; show (l.tab ++ [_]) ++ m1 = _; simp
  refine ⟨h.base, h.gens, ⟨_, hm⟩, h.len, h.bases, h.grow, ⟨(p.act l.base, p), by rw [hm]; simp, rfl, by rw [Pm.inv_mul]; exact hw⟩, ?_⟩
  intro e he hne s hs
  by_cases h1 : e ∈ (l.add (p.act l.base) p).tab
  · rcases List.mem_append.1 h1 with h1 | h1
    · exact absurd h1 hne
    · rw [List.mem_singleton.1 h1]
      exact h.done s (by rw [List.take_of_length_le (by exact hi)]; exact hs)
  · exact h.new e he h1 s hs

/-- 'take': the link with one more generator. -/
def Lk.gen (l : Lk) (p : Pm) : Lk := { l with gens := l.gens ++ [p] }

theorem Whole.gen {F : Nat → Prop} {l : Lk} {c : List Lk} {p : Pm} (h : Whole F (l :: c)) (hf : Fixes F p) : Part F (l.gen p) c := by
  have hw := h
  obtain ⟨h1, h2, h3⟩ := h
  have hm : ∀ x, Gen (fun x => x ∈ l.gens) x → Gen (fun x => x ∈ (l.gen p).gens) x := fun x hx => hx.mono (fun s hs => List.mem_append_left _ hs)
  have hs := prd_sub h2
  refine ⟨⟨h1.nodup, h1.brings, h1.first, h1.fix⟩, h2, fun e he => hm _ ((h3 _).1 ⟨e, he, 1, hs.one, by rw [Pm.mul_one]⟩), fun x hx => hm _ ((h3 _).1 ⟨_, h1.first, x, hx, by rw [Pm.one_mul]⟩), fun s hs => ?_⟩
  rcases List.mem_append.1 hs with hs | hs
  · exact prd_fix hw ((h3 s).2 (Gen.of hs))
  · rw [List.mem_singleton.1 hs]; exact hf

/-- Of a whole chain all is done. -/
theorem Whole.done {F : Nat → Prop} {l : Lk} {c : List Lk} (h : Whole F (l :: c)) {s : Pm} (hs : s ∈ l.gens) {e : Nat × Pm} (he : e ∈ l.tab) : Done l c s e := by
  obtain ⟨h1, h2, h3⟩ := h
  have hsub := prd_sub h2
  have hp : Prd (l :: c) (s * e.2) := (h3 _).2 (Gen.mul hs ((h3 _).1 ⟨e, he, 1, hsub.one, by rw [Pm.mul_one]⟩))
  obtain ⟨e', he', x, hx, hq⟩ := hp
  refine ⟨e', he', ?_, by rw [hq, Pm.inv_mul_cancel]; exact hx⟩
  have h4 := (fixes_plus.1 (prd_fix h2 hx)).2
  have h5 : (s * e.2).act l.base = (e'.2 * x).act l.base := by rw [hq]
  rw [Pm.act_mul, Pm.act_mul, h4, h1.brings e he, h1.brings e' he'] at h5
  exact h5.symm

/-- The loop of 'take' over the bells that were there: after the first i. -/
structure TLoop (F : Nat → Prop) (l : Lk) (c : List Lk) (l' : Lk) (c' : List Lk) (p : Pm) (i : Nat) : Prop where
  part : Part F l' c'
  base : l'.base = l.base
  gens : l'.gens = l.gens ++ [p]
  tab : ∃ more, l'.tab = l.tab ++ more
  len : c'.length = c.length
  bases : c'.map (·.base) = c.map (·.base)
  grow : ∀ h, Prd c h → Prd c' h
  new : ∀ e, e ∈ l'.tab → e ∉ l.tab → ∀ s, s ∈ l'.gens → Done l' c' s e
  done : ∀ e, e ∈ l.tab.take i → Done l' c' p e

theorem TLoop.start {F : Nat → Prop} {l : Lk} {c : List Lk} {p : Pm} (h : Whole F (l :: c)) (hf : Fixes F p) : TLoop F l c (l.gen p) c p 0 :=
  ⟨h.gen hf, rfl, rfl, ⟨[], by simp [Lk.gen]⟩, rfl, rfl, fun _ h => h, fun e he hn => absurd he hn, fun e he => by simp at he⟩

theorem TLoop.step {F : Nat → Prop} {l l' l2 : Lk} {c c' c2 : List Lk} {p : Pm} {e : Nat × Pm} {i : Nat} (h : TLoop F l c l' c' p i) (hi : l.tab.take (i + 1) = l.tab.take i ++ [e]) (he : e.2.act l.base = e.1) (hp : Part F l2 c2) (h2 : Brought l' c' l2 c2 (p * e.2)) : TLoop F l c l2 c2 p (i + 1) := by
  obtain ⟨m1, hm1⟩ := h.tab
  obtain ⟨m2, hm2⟩ := h2.tab
  refine ⟨hp, h2.base.trans h.base, h2.gens.trans h.gens, ⟨m1 ++ m2, by rw [hm2, hm1, List.append_assoc]⟩, h2.len.trans h.len, h2.bases.trans h.bases, fun x hx => h2.grow x (h.grow x hx), ?_, ?_⟩
  · intro x hx hn s hs
    rw [h2.gens] at hs
    by_cases h1 : x ∈ l'.tab
    · exact (h.new x h1 hn s hs).mono h2.tab h2.grow
    · exact h2.new x hx h1 s hs
  · intro x hx
    rw [hi] at hx
    rcases List.mem_append.1 hx with hx | hx
    · exact (h.done x hx).mono h2.tab h2.grow
    · rw [List.mem_singleton.1 hx]
      obtain ⟨e', he', h3, h4⟩ := h2.there
      exact ⟨e', he', by rw [h3, h.base, Pm.act_mul, he], h4⟩

theorem TLoop.finish {F : Nat → Prop} {l l' : Lk} {c c' : List Lk} {p : Pm} {i : Nat} (h : TLoop F l c l' c' p i) (hw : Whole F (l :: c)) (hi : l.tab.length ≤ i) : Whole F (l' :: c') ∧ Took (l :: c) (l' :: c') p := by
  have hwh : Whole F (l' :: c') := by
    refine h.part.closes (fun s hs e he => ?_)
    by_cases h1 : e ∈ l.tab
    · rw [h.gens] at hs
      rcases List.mem_append.1 hs with hs | hs
      · exact (Whole.done hw hs h1).mono h.tab h.grow
      · rw [List.mem_singleton.1 hs]
        exact h.done e (by rw [List.take_of_length_le hi]; exact h1)
    · exact h.new e he h1 s hs
  refine ⟨hwh, ⟨by simp [h.len], by simp [h.base, h.bases], ?_, ?_, ?_⟩⟩
  · intro x hx
    refine (hwh.2.2 x).2 (((hw.2.2 x).1 hx).mono (fun s hs => ?_))
    show s ∈ l'.gens
    rw [h.gens]; exact List.mem_append_left _ hs
  · exact (hwh.2.2 p).2 (Gen.of (by show p ∈ l'.gens; rw [h.gens]; simp))
  · intro H hH hc hp x hx
    refine Gen.least hH (fun s hs => ?_) ((hwh.2.2 x).1 hx)
    have hs : s ∈ l'.gens := hs
    rw [h.gens] at hs
    rcases List.mem_append.1 hs with hs | hs
    · exact hc s ((hw.2.2 s).2 (Gen.of hs))
    · rw [List.mem_singleton.1 hs]; exact hp

end Go.Proofs.YtenpkhalgkodbaaDoor
