/- Joined: CpD, CpE, SbD, SbI. -/
import Derived.Test.YtenpkhalgkodbaaDoorJ6
import Derived.Stop.FmtQuoteTie
import Derived.Laws.BytesArg
import Derived.Test.YtenpkhalgkodbaaDoorJ0
import Derived.Test.YtenpkhalgkodbaaDoorJ5
import Derived.Test.YtenpkhalgkodbaaDoorJ4
/- Contracts: the answer's Dec of small numbers, PrintTouch. -/
namespace Go.Proofs.YtenpkhalgkodbaaDoor
open Go.RowKit Go.Shelf
set_option maxRecDepth 20000
set_option linter.unusedVariables false

theorem str_app (a b : List UInt8) : (⟨a.toArray⟩ : ByteArray) ++ ⟨b.toArray⟩ = ⟨(a ++ b).toArray⟩ := by
  apply ByteArray.ext
  simp

theorem str_size (a : List UInt8) : (⟨a.toArray⟩ : ByteArray).size = a.length := by
  show a.toArray.size = _
  simp

theorem byte_str (n b : Nat) (W : World) (hk : W.cell? ⟨b, 0, none⟩ = some (.int .u8 (48 + (n : Int)))) : (convert 55 9 (.slice (some ⟨b, 0, none⟩) 1 1)).run Tryd.prog W = .ok (.string ⟨[UInt8.ofNat (48 + n)].toArray⟩) W := by
  have h := run_convert_bytes_arg (P := Tryd.prog) (w := W) 55 5 Tryd.underlying55 Tryd.underlying5 b 0 1 1 [48 + (n : Int)] rfl (fun i hi => by
    obtain rfl : i = 0 := by omega
    simpa using hk) 9 Tryd.underlying9
  rw [h]
  congr 3

set_option maxHeartbeats 2000000 in
theorem decS_one (n : Nat) (h : n < 10) (w : World) : Calls Tryd.prog 23 #[.int .i64 n] w fun e w' => e = .returned (.string ⟨[UInt8.ofNat (48 + n)].toArray⟩) ∧ Below w.heap.size w w' := by
  have h1 : ¬ (n : Int) < -9 := by omega
  have h2 : ¬ (n : Int) < 0 := by omega
  have h3 : (n : Int) < 10 := by omega
  have hcv := byte_str n w.heap.size (w.alloc (.cells #[.int .u8 (48 + (n : Int))] 5)) (by simp)
  have HB := hide ((Below.refl w.heap.size w).alloc (Nat.le_refl _) (.cells #[.int .u8 (48 + (n : Int))] 5))
  go_enter Tryd.func23, Tryd.ntmps23
  go_wp2
  go_ret
  exact ⟨rfl, HB.out⟩

set_option maxHeartbeats 4000000 in
theorem decS_two (n : Nat) (h0 : 10 ≤ n) (h : n < 100) (w : World) : Calls Tryd.prog 23 #[.int .i64 n] w fun e w' => e = .returned (.string ⟨(decB n).toArray⟩) ∧ Below w.heap.size w w' := by
  have h1 : ¬ (n : Int) < -9 := by omega
  have h2 : ¬ (n : Int) < 0 := by omega
  have h3 : ¬ (n : Int) < 10 := by omega
  obtain ⟨q, hq⟩ : ∃ q, Hid (n / 10 = q) := ⟨_, rfl⟩
  obtain ⟨m, hm⟩ : ∃ m, Hid (n % 10 = m) := ⟨_, rfl⟩
  have hq1 := hq.out
  have hm1 := hm.out
  have hq10 : q < 10 := by omega
  have hm10 : m < 10 := by omega
  have hdv : (n : Int).tdiv 10 = (q : Int) := by rw [show (10 : Int) = ((10 : Nat) : Int) from rfl, ← Int.ofNat_tdiv, hq1]
  have hmd : (n : Int).tmod 10 = (m : Int) := by rw [show (10 : Int) = ((10 : Nat) : Int) from rfl, ← Int.ofNat_tmod, hm1]
  have HD := hide (fun W => decS_one q hq10 W)
  have HBS := hide (fun b W hk => byte_str m b W hk)
  obtain ⟨sq, hsq⟩ : ∃ sq, Hid ((⟨[UInt8.ofNat (48 + q)].toArray⟩ : ByteArray) = sq) := ⟨_, rfl⟩
  obtain ⟨sm, hsm⟩ : ∃ sm, Hid ((⟨[UInt8.ofNat (48 + m)].toArray⟩ : ByteArray) = sm) := ⟨_, rfl⟩
  rw [hsq.out] at HD
  rw [hsm.out] at HBS
  have hadd := fun W => run_string_add_sum (P := Tryd.prog) (w := W) sq sm (by rw [← hsq.out, ← hsm.out, str_size, str_size]; simp)
  have HFIN : Hid ((⟨(decB n).toArray⟩ : ByteArray) = sq ++ sm) := by
    show _ = _
    rw [← hsq.out, ← hsm.out, str_app]
    unfold decB
    rw [if_neg (by omega), hq1, hm1]
    rfl
  clear hq1 hm1
  go_enter Tryd.func23, Tryd.ntmps23
  go_upto_region 7 with fail
  refine wp_region_held_drew (S := fun W' => Below w.heap.size w W') (by kernel_rfl) (Below.refl w.heap.size w).drew (fun hS => ?_)
  refine wpAnyH_take (i := 0) (v := .int .i64 n) rfl (by kernel_rfl) (by kernel_rfl) (by kernel_rfl) (fun _ _ _ h => h) (Or.inl ⟨by kernel_rfl, fun w' hS' => by clear hS'; go_simp⟩) hS ?_
  refine wpAnyH_take (i := 1) (v := .int .i64 q) rfl (by kernel_rfl) (by kernel_rfl) (by kernel_rfl) (fun _ _ _ h => h) (Or.inl ⟨by kernel_rfl, fun w' hS' => by clear hS'; go_simp; (try (rw [IntKind.wrap_i64]; omega))⟩) hS ?_
  refine wpAnyH_take (i := 3) (v := .int .i64 n) rfl (by kernel_rfl) (by kernel_rfl) (by kernel_rfl) (fun _ _ _ h => h) (Or.inl ⟨by kernel_rfl, fun w' hS' => by clear hS'; go_simp⟩) hS ?_
  refine wpAnyH_take (i := 4) (v := .int .i64 m) rfl (by kernel_rfl) (by kernel_rfl) (by kernel_rfl) (fun _ _ _ h => h) (Or.inl ⟨by kernel_rfl, fun w' hS' => by clear hS'; go_simp; (try (rw [IntKind.wrap_i64]; omega))⟩) hS ?_
  refine wpAnyH_take (i := 5) (v := .int .i64 (48 + (m : Int))) rfl (by kernel_rfl) (by kernel_rfl) (by kernel_rfl) (fun _ _ _ h => h) (Or.inl ⟨by kernel_rfl, fun w' hS' => by clear hS'; go_simp; (try (rw [IntKind.wrap_i64]; omega))⟩) hS ?_
  refine wpAnyH_take (i := 6) (v := .int .u8 (48 + (m : Int))) rfl (by kernel_rfl) (by kernel_rfl) (by kernel_rfl) (fun _ _ _ h => h) (Or.inl ⟨by kernel_rfl, fun w' hS' => by clear hS'; go_simp; (try (rw [IntKind.wrap_u8]; omega))⟩) hS ?_
  refine wpAnyH_ready (rs := [2, 7]) (by kernel_rfl) (by simp) ?_
  refine (AllReadyH.cons rfl (fun K9 hK9 => ?_) (AllReadyH.cons rfl (fun K9 hK9 => ?_) AllReadyH.nil))
  · go_simp
    refine (HD.out _).mono ?_
    rintro e w1 ⟨rfl, hb1⟩
    have hB1 : Below w.heap.size w w1 := (Below.refl w.heap.size w).drew.trans hb1
    refine hK9.out _ _ hB1 (fun hS => ?_)
    clear hK9
    refine wpAnyH_ready (rs := [7]) (by kernel_rfl) (by simp) ?_
    refine (AllReadyH.cons rfl (fun K9 hK9 => ?_) AllReadyH.nil)
    go_simp
    have hB2 : Below w.heap.size w (w1.alloc (.cells #[.int .u8 (48 + (m : Int))] 5)) := hB1.alloc hB1.size _
    have hcv := HBS.out w1.heap.size (w1.alloc (.cells #[.int .u8 (48 + (m : Int))] 5)) (by simp)
    refine hK9.out _ _ hB2 (fun hS => ?_)
    clear hK9
    refine wpAnyH_ready (rs := [8]) (by kernel_rfl) (by simp) ?_
    refine (AllReadyH.cons rfl (fun K9 hK9 => ?_) AllReadyH.nil)
    go_simp
    refine hK9.out _ _ hB2 (fun hS => ?_)
    clear hK9 hcv
    refine wpAnyH_take (i := 9) (v := .string (sq ++ sm)) rfl (by kernel_rfl) (by kernel_rfl) (by kernel_rfl) (fun _ _ _ h => h) (Or.inl ⟨by kernel_rfl, fun w' hS' => by clear hS'; go_simp⟩) hS ?_
    refine wpAnyH_take (i := 10) (v := .string (sq ++ sm)) rfl (by kernel_rfl) (by kernel_rfl) (by kernel_rfl) (fun _ _ _ h => h) (Or.inl ⟨by kernel_rfl, fun w' hS' => by clear hS'; go_simp⟩) hS ?_
    refine wpAnyH_done (by kernel_rfl) ?_ _
    have HBF := hide hB2
    clear hS
    go_wp2
    go_ret
    exact ⟨by rw [HFIN.out]; rfl, HBF.out⟩
  · go_simp
    have hBA : Below w.heap.size w (w.alloc (.cells #[.int .u8 (48 + (m : Int))] 5)).drew := ((Below.refl w.heap.size w).alloc (Nat.le_refl _) _).drew
    have hcv := HBS.out w.heap.size (w.alloc (.cells #[.int .u8 (48 + (m : Int))] 5)).drew (by show (w.alloc (.cells #[.int .u8 (48 + (m : Int))] 5)).cell? _ = _; simp)
    refine hK9.out _ _ hBA (fun hS => ?_)
    clear hK9
    refine wpAnyH_ready (rs := [2, 8]) (by kernel_rfl) (by simp) ?_
    refine (AllReadyH.cons rfl (fun K9 hK9 => ?_) (AllReadyH.cons rfl (fun K9 hK9 => ?_) AllReadyH.nil))
    · go_simp
      refine (HD.out _).mono ?_
      rintro e w1 ⟨rfl, hb1⟩
      have hB1 : Below w.heap.size w w1 := hBA.trans (hb1.mono hBA.size)
      have hk : w1.cell? ⟨w.heap.size, 0, none⟩ = some (.int .u8 (48 + (m : Int))) := (hb1.cell (p := ⟨w.heap.size, 0, none⟩) (by show w.heap.size < (w.alloc (.cells #[.int .u8 (48 + (m : Int))] 5)).heap.size; simp)).trans (by show (w.alloc (.cells #[.int .u8 (48 + (m : Int))] 5)).cell? _ = _; simp)
      have hcv2 := HBS.out w.heap.size w1 hk
      refine hK9.out _ _ hB1 (fun hS => ?_)
      clear hK9
      refine wpAnyH_ready (rs := [8]) (by kernel_rfl) (by simp) ?_
      refine (AllReadyH.cons rfl (fun K9 hK9 => ?_) AllReadyH.nil)
      go_simp
      refine hK9.out _ _ hB1 (fun hS => ?_)
      clear hK9 hcv2
      refine wpAnyH_take (i := 9) (v := .string (sq ++ sm)) rfl (by kernel_rfl) (by kernel_rfl) (by kernel_rfl) (fun _ _ _ h => h) (Or.inl ⟨by kernel_rfl, fun w' hS' => by clear hS'; go_simp⟩) hS ?_
      refine wpAnyH_take (i := 10) (v := .string (sq ++ sm)) rfl (by kernel_rfl) (by kernel_rfl) (by kernel_rfl) (fun _ _ _ h => h) (Or.inl ⟨by kernel_rfl, fun w' hS' => by clear hS'; go_simp⟩) hS ?_
      refine wpAnyH_done (by kernel_rfl) ?_ _
      have HBF := hide hB1
      clear hS
      go_wp2
      go_ret
      exact ⟨by rw [HFIN.out]; rfl, HBF.out⟩
    · go_simp
      refine hK9.out _ _ hBA (fun hS => ?_)
      clear hK9 hcv
      refine wpAnyH_ready (rs := [2]) (by kernel_rfl) (by simp) ?_
      refine (AllReadyH.cons rfl (fun K9 hK9 => ?_) AllReadyH.nil)
      go_simp
      refine (HD.out _).mono ?_
      rintro e w1 ⟨rfl, hb1⟩
      have hB1 : Below w.heap.size w w1 := hBA.trans (hb1.mono hBA.size)
      refine hK9.out _ _ hB1 (fun hS => ?_)
      clear hK9
      refine wpAnyH_take (i := 9) (v := .string (sq ++ sm)) rfl (by kernel_rfl) (by kernel_rfl) (by kernel_rfl) (fun _ _ _ h => h) (Or.inl ⟨by kernel_rfl, fun w' hS' => by clear hS'; go_simp⟩) hS ?_
      refine wpAnyH_take (i := 10) (v := .string (sq ++ sm)) rfl (by kernel_rfl) (by kernel_rfl) (by kernel_rfl) (fun _ _ _ h => h) (Or.inl ⟨by kernel_rfl, fun w' hS' => by clear hS'; go_simp⟩) hS ?_
      refine wpAnyH_done (by kernel_rfl) ?_ _
      have HBF := hide hB1
      clear hS
      go_wp2
      go_ret
      exact ⟨by rw [HFIN.out]; rfl, HBF.out⟩

theorem enc_rune (r : Int) : Utf8.encode r = ⟨(Lib.encodeRune r).toArray⟩ := by
  have key : (Utf8.encode r).data.toList = Lib.encodeRune r := by
    unfold Lib.encodeRune
    by_cases h0 : r < 0
    · have v : Utf8.valid r = false := by simp [Utf8.valid]; omega
      rw [Lib.encodeRuneZ_bad (by omega)]
      simp [Utf8.encode, v, Utf8.runeError]
    · obtain ⟨n, rfl⟩ : ∃ n : Nat, r = (n : Int) := ⟨r.toNat, by omega⟩
      rw [← Go.Extern.FmtText.encode_eq n]
      unfold Go.Extern.FmtText.nums
      rw [List.map_map]
      exact ((List.map_congr_left (fun b _ => by simp)).trans (List.map_id _)).symm
  apply ByteArray.ext
  rw [← key]

end Go.Proofs.YtenpkhalgkodbaaDoor

/- Contract: the answer's PrintTouch. -/
namespace Go.Proofs.YtenpkhalgkodbaaDoor
open Go.RowKit Go.Shelf
set_option maxRecDepth 20000
set_option linter.unusedVariables false

theorem decS_any (n : Nat) (h : n < 100) (w : World) : Calls Tryd.prog 23 #[.int .i64 n] w fun e w' => e = .returned (.string ⟨(decB n).toArray⟩) ∧ Below w.heap.size w w' := by
  rcases Nat.lt_or_ge n 10 with h1 | h1
  · have := decS_one n h1 w
    unfold decB
    rw [if_pos h1]
    exact this
  · exact decS_two n h1 h w

theorem rune_str (r : Int) (W : World) : (convert 21 9 (.int .i32 r)).run Tryd.prog W = .ok (.string ⟨(Lib.encodeRune r).toArray⟩) W := by
  rw [← enc_rune]
  simp [convert, run_underlying Tryd.underlying21, run_underlying Tryd.underlying9, Conv.intToString, Sem.run_pure]

set_option maxHeartbeats 8000000 in
theorem rprint_all (cv : Value) (cs : List Cl) (lv : Value) (ls : List Int) (w : World) (hcv : CallsIn w cv cs) (hl : Ints w lv ls) :
    Calls Tryd.prog 11 #[cv, lv] w fun e w' => e = .returned (.tuple #[.string ⟨(prT cs ls).toArray⟩, .int .i64 (lErr cs.length ls)]) ∧ Below w.heap.size w w' := by
  obtain ⟨cp, cc, rfl⟩ := hcv.form
  obtain ⟨lp, lc, rfl⟩ := hl.form
  obtain ⟨T, hT⟩ : ∃ T, Hid (ls.length = T) := ⟨_, rfl⟩
  obtain ⟨C, hC⟩ : ∃ C, Hid (cs.length = C) := ⟨_, rfl⟩
  have HCV := hide hcv
  have HL := hide hl
  rw [hT.out, hC.out]
  rw [hT.out] at HL
  rw [hC.out] at HCV
  obtain ⟨er, her⟩ : ∃ er, Hid (lErr C ls = er) := ⟨_, rfl⟩
  obtain ⟨TX, hTX⟩ : ∃ TX, Hid ((⟨(prT cs ls).toArray⟩ : ByteArray) = TX) := ⟨_, rfl⟩
  rw [her.out, hTX.out]
  have HNO : Hid (er ≠ 0 → TX = ⟨#[]⟩) := fun h => by
    rw [← hTX.out]
    unfold prT
    rw [hC.out, her.out, if_neg h]
  clear hcv hl
  by_cases hlen : T < 1 ∨ 400 < T
  · have he : er = 1 := by rw [← her.out]; unfold lErr; rw [hT.out, if_pos hlen]
    have ht := HNO.out (by rw [he]; decide)
    subst he ht
    by_cases h1 : (T : Int) < 1
    · clear hlen
      go_enter Tryd.func11, Tryd.ntmps11
      go_wp2
      go_ret2
      exact ⟨rfl, Below.refl _ _⟩
    · have h2 : 400 < (T : Int) := by omega
      clear hlen
      go_enter Tryd.func11, Tryd.ntmps11
      go_wp2
      go_ret2
      exact ⟨rfl, Below.refl _ _⟩
  · have g1 : ¬ (T : Int) < 1 := by omega
    have g2 : ¬ 400 < (T : Int) := by omega
    rcases HL.out with ⟨hnil, _⟩ | ⟨b, off, cap, hle, h0, hc, hmx, hb, hcell⟩
    · exfalso; have := hT.out; rw [hnil] at this; simp at this; omega
    rw [hT.out] at hle hc
    simp only [Value.slice.injEq] at hle
    obtain ⟨rfl, _, rfl⟩ := hle
    have HC := hide hcell
    have HE12 : Hid (¬ (∀ l, l ∈ ls → 0 ≤ l ∧ l < (C : Int)) → er = 12) := fun h => by rw [← her.out]; unfold lErr; rw [hT.out, if_neg hlen, if_neg h]
    have HE0 : Hid ((∀ l, l ∈ ls → 0 ≤ l ∧ l < (C : Int)) → er = 0) := fun h => by rw [← her.out]; unfold lErr; rw [hT.out, if_neg hlen, if_pos h]
    clear hcell HL hlen
    go_enter Tryd.func11, Tryd.ntmps11
    go_wp2
    go_loop [6] (fun i => ∃ k : Nat, k ≤ T ∧ i = .int .i64 k ∧ Hid (∀ j, j < k → 0 ≤ ls.getD j 0 ∧ ls.getD j 0 < (C : Int))) (fun i => T - (intOf i).toNat)
    case atStart => exact ⟨0, by omega, rfl, (fun j hj => absurd hj (by omega))⟩
    case round =>
      obtain ⟨k, hk, rfl, hA⟩ := hrel
      by_cases hlt : k < T
      · have hkl : k < ls.length := by rw [hT.out]; exact hlt
        obtain ⟨y, hy, hcx⟩ := cellAt HC.out hkl
        have hyk : ls.getD k 0 = y := hy.out
        have hym : y ∈ ls := by
          rw [← hyk, List.getD, List.getElem?_eq_getElem hkl, Option.getD_some]
          exact List.getElem_mem _
        by_cases hyb : 0 ≤ y ∧ y < (C : Int)
        · have HA2 : Hid (∀ j, j < k + 1 → 0 ≤ ls.getD j 0 ∧ ls.getD j 0 < (C : Int)) := fun j hj => by
            rcases Nat.lt_succ_iff_lt_or_eq.1 hj with h | h
            · exact hA.out j h
            · rw [h, hyk]; exact hyb
          have g5 : ¬ y < 0 := by omega
          have g6 : ¬ (C : Int) ≤ y := by omega
          clear hy hym hyk hyb hA
          go_wp2
          go_round
          case rel => exact ⟨k + 1, by omega, by go_num, HA2⟩
          case measure => simp [intOf]; omega
        · have he := HE12.out (fun h => hyb (h y hym))
          have ht := HNO.out (by rw [he]; decide)
          have HFE := hide he
          have HFT := hide ht
          by_cases g5 : y < 0
          · clear hy hym hyk hyb hA he ht
            go_wp2
            go_ret2
            exact ⟨by rw [HFE.out, HFT.out]; rfl, Below.refl _ _⟩
          · have g6 : (C : Int) ≤ y := by omega
            clear hy hym hyk hyb hA he ht
            go_wp2
            go_ret2
            exact ⟨by rw [HFE.out, HFT.out]; rfl, Below.refl _ _⟩
      · obtain rfl : k = T := by omega
        have hAL : ∀ l, l ∈ ls → 0 ≤ l ∧ l < (C : Int) := by
          intro l hl
          obtain ⟨j, hj, e⟩ := List.getElem_of_mem hl
          have := hA.out j (by rw [hT.out] at hj; exact hj)
          rw [List.getD, List.getElem?_eq_getElem hj, Option.getD_some, e] at this
          exact this
        have HFE := hide (HE0.out hAL)
        obtain ⟨t, ht1, ht2⟩ : ∃ t : List Nat, nI t = ls ∧ ∀ c, c ∈ t → c < C := ⟨ls.map Int.toNat, by
          unfold nI
          rw [List.map_map]
          exact (List.map_congr_left (fun l hl => Int.toNat_of_nonneg (hAL l hl).1)).trans (List.map_id _), fun c hc => by
          obtain ⟨l, hl, rfl⟩ := List.mem_map.1 hc
          have := hAL l hl
          omega⟩
        have HTX : Hid (TX = ⟨(pF (sgB cs) 0 t).toArray⟩) := by
          show TX = _
          rw [← hTX.out]
          unfold prT
          rw [hC.out, her.out, if_pos HFE.out]
          have : ls.map Int.toNat = t := by
            rw [← ht1]
            unfold nI
            rw [List.map_map]
            exact (List.map_congr_left (fun c _ => Int.toNat_natCast c)).trans (List.map_id _)
          rw [this]
        have htl : t.length = k := by rw [← hT.out, ← ht1, nI_len]
        have HTL := hide htl
        have HTI := hide ht2
        have HTC : Hid (∀ j, j < k → w.cell? ⟨b, off + j, none⟩ = some (.int .i64 ((t.getD j 0 : Nat) : Int))) := fun j hj => by
          rw [HC.out j (by rw [hT.out]; exact hj), ← ht1, nI_get t (by rw [htl]; exact hj)]
        have hcat : CallsAt w (.slice cp C cc) cs := by
          rcases HCV.out with ⟨h9, _⟩ | ⟨_, h9⟩
          · exfalso
            have : t.getD 0 0 < C := ht2 _ (by simp [List.getD, show 0 < t.length by omega])
            have h8 := hC.out
            rw [h9] at h8
            simp at h8
            omega
          · exact h9
        obtain ⟨cb, co, ccap, hce, hcb, hcc1, hcc2, hccell⟩ := hcat
        rw [hC.out] at hce hcc1 hccell
        simp only [Value.slice.injEq] at hce
        obtain ⟨rfl, _, rfl⟩ := hce
        have HCC := hide hccell
        have hkb : k ≤ 400 := by omega
        clear hA hAL ht1 ht2 htl HC HCV hccell HE12 HE0 HNO
        have hE0 : (⟨#[]⟩ : ByteArray) = ⟨([] : List UInt8).toArray⟩ := rfl
        go_wp2
        go_loopw [7, 8, 9] (fun sv nv iv wr => ∃ (acc : List UInt8) (n i : Nat), i ≤ k ∧ n ≤ 98 ∧ sv = .string ⟨acc.toArray⟩ ∧ nv = .int .i64 n ∧ iv = .int .i64 i ∧ Hid (pF (sgB cs) 0 t = acc ++ pF (sgB cs) n (t.drop i)) ∧ Hid (acc.length ≤ 6 * i) ∧ Hid (Below w.heap.size w wr)) (fun _ _ iv _ => k - (intOf iv).toNat)
        case atStart => exact ⟨[], 0, 0, by omega, by omega, rfl, rfl, rfl, rfl, Nat.zero_le _, Below.refl _ _⟩
        case round =>
          obtain ⟨acc, n, i, hi, hn, rfl, rfl, rfl, hEQ, hLN, hbw⟩ := hrel
          by_cases hik : i < k
          · have c1 := (hbw.out.cell (p := ⟨b, off + i, none⟩) hb).trans (HTC.out i hik)
            have hx : t.getD i 0 < C := HTI.out _ (by
              have hi' : i < t.length := by rw [HTL.out]; exact hik
              rw [List.getD, List.getElem?_eq_getElem hi', Option.getD_some]; exact List.getElem_mem _)
            obtain ⟨us, a1, _, _⟩ := HCC.out (t.getD i 0) hx
            have b1 := (hbw.out.cell (p := ⟨cb, co + t.getD i 0 * 2, none⟩) hcb).trans a1
            have HST := hide (pF_step (sgB cs) (l := t) (i := i) (n := n) (by rw [HTL.out]; exact hik))
            rw [HTL.out] at HST
            have HSG : Hid (sgB cs (t.getD i 0) = Lib.encodeRune (cs.getD (t.getD i 0) (0, [])).1) := rfl
            have hrs := rune_str (cs.getD (t.getD i 0) (0, [])).1
            have hn1 : n + 1 < 100 := by omega
            have HDE := hide (fun W => decS_any (n + 1) hn1 W)
            rw [show (((n + 1 : Nat)) : Int) = (n : Int) + 1 from by omega] at HDE
            have HRL : Hid ((Lib.encodeRune (cs.getD (t.getD i 0) (0, [])).1).length ≤ 4) := sgB_length cs (t.getD i 0)
            clear a1
            by_cases hi1 : i + 1 < k
            · have hii : (i : Int) + 1 < (k : Int) := by omega
              have c2 := (hbw.out.cell (p := ⟨b, off + (i + 1), none⟩) hb).trans (HTC.out (i + 1) hi1)
              by_cases he : t.getD (i + 1) 0 = t.getD i 0
              · have hbq : (((t.getD (i + 1) 0 : Nat) : Int) == ((t.getD i 0 : Nat) : Int)) = true := by rw [he]; simp
                by_cases hn9 : n + 1 < 99
                · have hni : (n : Int) + 1 < 99 := by omega
                  have HNX : Hid (pF (sgB cs) 0 t = acc ++ pF (sgB cs) (n + 1) (t.drop (i + 1))) := by
                    show _ = _
                    rw [hEQ.out, HST.out, if_pos ⟨hi1, he, hn9⟩]
                  have HLX : Hid (acc.length ≤ 6 * (i + 1)) := by show _ ≤ _; have := hLN.out; omega
                  clear HST HSG he hEQ hLN hrs HDE HRL
                  generalize t.getD (i + 1) 0 = y at *
                  generalize hxe : t.getD i 0 = x at *
                  generalize hre : (cs.getD x (0, [])).1 = r at *
                  clear hxe hre
                  go_wp2
                  go_quiet (fail)
                  have hBX := below_drewN hbw.out nq
                  have c9 : (wr.drewN nq).cell? ⟨b, off + i, none⟩ = some (.int .i64 (x : Int)) := c1
                  have b9 : (wr.drewN nq).cell? ⟨cb, co + x * 2, none⟩ = some (.int .i32 r) := b1
                  clear c1 b1 hbw
                  generalize wr.drewN nq = wX at *
                  have HBF := hide hBX
                  clear c9 b9 hBX
                  go_wp2
                  go_roundw
                  case rel => exact ⟨acc, n + 1, i + 1, by omega, by omega, rfl, by go_num, by go_num, HNX, HLX, HBF⟩
                  case measure => simp [intOf]; omega
                · have hni : decide ((n : Int) + 1 < 99) = false := decide_eq_false (by omega)
                  have hni2 : ¬ (n : Int) + 1 < 99 := by omega
                  have HPF : Hid (pF (sgB cs) n (t.drop i) = (if 1 < n + 1 then decB (n + 1) else []) ++ Lib.encodeRune (cs.getD (t.getD i 0) (0, [])).1 ++ pF (sgB cs) 0 (t.drop (i + 1))) := by
                    show _ = _
                    rw [HST.out, if_neg (fun h => hn9 h.2.2), HSG.out]
                  clear HST HSG
                  clear he
                  generalize t.getD (i + 1) 0 = y at *
                  generalize hxe : t.getD i 0 = x at *
                  generalize hre : (cs.getD x (0, [])).1 = r at *
                  clear hxe hre
                  go_wp2
                  go_quiet (fail)
                  have hBX := below_drewN hbw.out nq
                  have c9 : (wr.drewN nq).cell? ⟨b, off + i, none⟩ = some (.int .i64 (x : Int)) := c1
                  have b9 : (wr.drewN nq).cell? ⟨cb, co + x * 2, none⟩ = some (.int .i32 r) := b1
                  clear c1 b1 hbw
                  generalize wr.drewN nq = wX at *
                  clear c2
                  by_cases hn0 : 0 < n
                  · have hng : (1 : Int) < (n : Int) + 1 := by omega
                    have HNX : Hid (pF (sgB cs) 0 t = (acc ++ decB (n + 1) ++ Lib.encodeRune r) ++ pF (sgB cs) 0 (t.drop (i + 1))) := by
                      show _ = _
                      rw [hEQ.out, HPF.out, if_pos (by omega)]
                      simp [List.append_assoc]
                    have HLX : Hid ((acc ++ decB (n + 1) ++ Lib.encodeRune r).length ≤ 6 * (i + 1)) := by
                      show _ ≤ _
                      have h1 := hLN.out
                      have h2 := decB_length (n + 1)
                      have h3 := HRL.out
                      rw [List.length_append, List.length_append]
                      omega
                    have hs1 := fun W => run_string_add_sum (P := Tryd.prog) (w := W) ⟨acc.toArray⟩ ⟨(decB (n + 1)).toArray⟩ (by rw [str_size, str_size]; have := hLN.out; have := decB_length (n + 1); omega)
                    have hs2 := fun W => run_string_add_sum (P := Tryd.prog) (w := W) ⟨(acc ++ decB (n + 1)).toArray⟩ ⟨(Lib.encodeRune r).toArray⟩ (by rw [str_size, str_size, List.length_append]; have := hLN.out; have := decB_length (n + 1); have := HRL.out; omega)
                    rw [str_app] at hs1
                    rw [str_app] at hs2
                    obtain ⟨sA, hsA⟩ : ∃ sA, Hid ((⟨acc.toArray⟩ : ByteArray) = sA) := ⟨_, rfl⟩
                    obtain ⟨sD, hsD⟩ : ∃ sD, Hid ((⟨(decB (n + 1)).toArray⟩ : ByteArray) = sD) := ⟨_, rfl⟩
                    obtain ⟨sR, hsR⟩ : ∃ sR, Hid ((⟨(Lib.encodeRune r).toArray⟩ : ByteArray) = sR) := ⟨_, rfl⟩
                    obtain ⟨sB, hsB⟩ : ∃ sB, Hid ((⟨(acc ++ decB (n + 1)).toArray⟩ : ByteArray) = sB) := ⟨_, rfl⟩
                    obtain ⟨sC, hsC⟩ : ∃ sC, Hid ((⟨(acc ++ decB (n + 1) ++ Lib.encodeRune r).toArray⟩ : ByteArray) = sC) := ⟨_, rfl⟩
                    rw [hsA.out, hsD.out, hsB.out] at hs1
                    rw [hsB.out, hsR.out, hsC.out] at hs2
                    rw [hsR.out] at hrs
                    rw [hsD.out] at HDE
                    rw [hsA.out]
                    clear hEQ hLN HPF HRL
                    go_wp2_with fail
                    refine (HDE.out _).mono ?_
                    rintro e w3 ⟨rfl, hb3⟩
                    have hs3 := hb3.size
                    have hB3 : Below w.heap.size w w3 := hBX.trans (hb3.mono hBX.size)
                    have c3 := (hb3.cell (p := ⟨b, off + i, none⟩) (by show b < _; have := hBX.size; omega)).trans c9
                    have b3 := (hb3.cell (p := ⟨cb, co + x * 2, none⟩) (by show cb < _; have := hBX.size; omega)).trans b9
                    have HBF := hide hB3
                    clear hb3 c9 b9 HDE hBX
                    go_wp2
                    go_roundw
                    case rel => exact ⟨acc ++ decB (n + 1) ++ Lib.encodeRune r, 0, i + 1, by omega, by omega, by rw [hsC.out], rfl, by go_num, HNX, HLX, HBF⟩
                    case measure => simp [intOf]; omega
                  · exfalso; omega
              · have hbq : (((t.getD (i + 1) 0 : Nat) : Int) == ((t.getD i 0 : Nat) : Int)) = false := by rw [beq_eq_false_iff_ne]; omega
                have HPF : Hid (pF (sgB cs) n (t.drop i) = (if 1 < n + 1 then decB (n + 1) else []) ++ Lib.encodeRune (cs.getD (t.getD i 0) (0, [])).1 ++ pF (sgB cs) 0 (t.drop (i + 1))) := by
                  show _ = _
                  rw [HST.out, if_neg (fun h => he h.2.1), HSG.out]
                clear HST HSG
                clear he
                generalize t.getD (i + 1) 0 = y at *
                generalize hxe : t.getD i 0 = x at *
                generalize hre : (cs.getD x (0, [])).1 = r at *
                clear hxe hre
                go_wp2
                go_quiet (fail)
                have hBX := below_drewN hbw.out nq
                have c9 : (wr.drewN nq).cell? ⟨b, off + i, none⟩ = some (.int .i64 (x : Int)) := c1
                have b9 : (wr.drewN nq).cell? ⟨cb, co + x * 2, none⟩ = some (.int .i32 r) := b1
                clear c1 b1 hbw
                generalize wr.drewN nq = wX at *
                clear c2
                by_cases hn0 : 0 < n
                · have hng : (1 : Int) < (n : Int) + 1 := by omega
                  have HNX : Hid (pF (sgB cs) 0 t = (acc ++ decB (n + 1) ++ Lib.encodeRune r) ++ pF (sgB cs) 0 (t.drop (i + 1))) := by
                    show _ = _
                    rw [hEQ.out, HPF.out, if_pos (by omega)]
                    simp [List.append_assoc]
                  have HLX : Hid ((acc ++ decB (n + 1) ++ Lib.encodeRune r).length ≤ 6 * (i + 1)) := by
                    show _ ≤ _
                    have h1 := hLN.out
                    have h2 := decB_length (n + 1)
                    have h3 := HRL.out
                    rw [List.length_append, List.length_append]
                    omega
                  have hs1 := fun W => run_string_add_sum (P := Tryd.prog) (w := W) ⟨acc.toArray⟩ ⟨(decB (n + 1)).toArray⟩ (by rw [str_size, str_size]; have := hLN.out; have := decB_length (n + 1); omega)
                  have hs2 := fun W => run_string_add_sum (P := Tryd.prog) (w := W) ⟨(acc ++ decB (n + 1)).toArray⟩ ⟨(Lib.encodeRune r).toArray⟩ (by rw [str_size, str_size, List.length_append]; have := hLN.out; have := decB_length (n + 1); have := HRL.out; omega)
                  rw [str_app] at hs1
                  rw [str_app] at hs2
                  obtain ⟨sA, hsA⟩ : ∃ sA, Hid ((⟨acc.toArray⟩ : ByteArray) = sA) := ⟨_, rfl⟩
                  obtain ⟨sD, hsD⟩ : ∃ sD, Hid ((⟨(decB (n + 1)).toArray⟩ : ByteArray) = sD) := ⟨_, rfl⟩
                  obtain ⟨sR, hsR⟩ : ∃ sR, Hid ((⟨(Lib.encodeRune r).toArray⟩ : ByteArray) = sR) := ⟨_, rfl⟩
                  obtain ⟨sB, hsB⟩ : ∃ sB, Hid ((⟨(acc ++ decB (n + 1)).toArray⟩ : ByteArray) = sB) := ⟨_, rfl⟩
                  obtain ⟨sC, hsC⟩ : ∃ sC, Hid ((⟨(acc ++ decB (n + 1) ++ Lib.encodeRune r).toArray⟩ : ByteArray) = sC) := ⟨_, rfl⟩
                  rw [hsA.out, hsD.out, hsB.out] at hs1
                  rw [hsB.out, hsR.out, hsC.out] at hs2
                  rw [hsR.out] at hrs
                  rw [hsD.out] at HDE
                  rw [hsA.out]
                  clear hEQ hLN HPF HRL
                  go_wp2_with fail
                  refine (HDE.out _).mono ?_
                  rintro e w3 ⟨rfl, hb3⟩
                  have hs3 := hb3.size
                  have hB3 : Below w.heap.size w w3 := hBX.trans (hb3.mono hBX.size)
                  have c3 := (hb3.cell (p := ⟨b, off + i, none⟩) (by show b < _; have := hBX.size; omega)).trans c9
                  have b3 := (hb3.cell (p := ⟨cb, co + x * 2, none⟩) (by show cb < _; have := hBX.size; omega)).trans b9
                  have HBF := hide hB3
                  clear hb3 c9 b9 HDE hBX
                  go_wp2
                  go_roundw
                  case rel => exact ⟨acc ++ decB (n + 1) ++ Lib.encodeRune r, 0, i + 1, by omega, by omega, by rw [hsC.out], rfl, by go_num, HNX, HLX, HBF⟩
                  case measure => simp [intOf]; omega
                · obtain rfl : n = 0 := by omega
                  have HNX : Hid (pF (sgB cs) 0 t = (acc ++ Lib.encodeRune r) ++ pF (sgB cs) 0 (t.drop (i + 1))) := by
                    show _ = _
                    rw [hEQ.out, HPF.out, if_neg (by omega)]
                    simp [List.append_assoc]
                  have HLX : Hid ((acc ++ Lib.encodeRune r).length ≤ 6 * (i + 1)) := by
                    show _ ≤ _
                    have h1 := hLN.out
                    have h3 := HRL.out
                    rw [List.length_append]
                    omega
                  have hs2 := fun W => run_string_add_sum (P := Tryd.prog) (w := W) ⟨acc.toArray⟩ ⟨(Lib.encodeRune r).toArray⟩ (by rw [str_size, str_size]; have := hLN.out; have := HRL.out; omega)
                  rw [str_app] at hs2
                  obtain ⟨sA, hsA⟩ : ∃ sA, Hid ((⟨acc.toArray⟩ : ByteArray) = sA) := ⟨_, rfl⟩
                  obtain ⟨sR, hsR⟩ : ∃ sR, Hid ((⟨(Lib.encodeRune r).toArray⟩ : ByteArray) = sR) := ⟨_, rfl⟩
                  obtain ⟨sC, hsC⟩ : ∃ sC, Hid ((⟨(acc ++ Lib.encodeRune r).toArray⟩ : ByteArray) = sC) := ⟨_, rfl⟩
                  rw [hsA.out, hsR.out, hsC.out] at hs2
                  rw [hsR.out] at hrs
                  rw [hsA.out]
                  have HBF := hide hBX
                  clear hEQ hLN HPF HRL HDE hBX
                  go_wp2
                  go_roundw
                  case rel => exact ⟨acc ++ Lib.encodeRune r, 0, i + 1, by omega, by omega, by rw [hsC.out], rfl, by go_num, HNX, HLX, HBF⟩
                  case measure => simp [intOf]; omega
            · have hii : decide ((i : Int) + 1 < (k : Int)) = false := decide_eq_false (by omega)
              have hii2 : decide (i + 1 < k) = false := decide_eq_false hi1
              have HPF : Hid (pF (sgB cs) n (t.drop i) = (if 1 < n + 1 then decB (n + 1) else []) ++ Lib.encodeRune (cs.getD (t.getD i 0) (0, [])).1 ++ pF (sgB cs) 0 (t.drop (i + 1))) := by
                show _ = _
                rw [HST.out, if_neg (fun h => hi1 h.1), HSG.out]
              clear HST HSG
              generalize hxe : t.getD i 0 = x at *
              generalize hre : (cs.getD x (0, [])).1 = r at *
              clear hxe hre
              go_wp2
              go_quiet (fail)
              have hBX := below_drewN hbw.out nq
              have c9 : (wr.drewN nq).cell? ⟨b, off + i, none⟩ = some (.int .i64 (x : Int)) := c1
              have b9 : (wr.drewN nq).cell? ⟨cb, co + x * 2, none⟩ = some (.int .i32 r) := b1
              clear c1 b1 hbw
              generalize wr.drewN nq = wX at *
              by_cases hn0 : 0 < n
              · have hng : (1 : Int) < (n : Int) + 1 := by omega
                have HNX : Hid (pF (sgB cs) 0 t = (acc ++ decB (n + 1) ++ Lib.encodeRune r) ++ pF (sgB cs) 0 (t.drop (i + 1))) := by
                  show _ = _
                  rw [hEQ.out, HPF.out, if_pos (by omega)]
                  simp [List.append_assoc]
                have HLX : Hid ((acc ++ decB (n + 1) ++ Lib.encodeRune r).length ≤ 6 * (i + 1)) := by
                  show _ ≤ _
                  have h1 := hLN.out
                  have h2 := decB_length (n + 1)
                  have h3 := HRL.out
                  rw [List.length_append, List.length_append]
                  omega
                have hs1 := fun W => run_string_add_sum (P := Tryd.prog) (w := W) ⟨acc.toArray⟩ ⟨(decB (n + 1)).toArray⟩ (by rw [str_size, str_size]; have := hLN.out; have := decB_length (n + 1); omega)
                have hs2 := fun W => run_string_add_sum (P := Tryd.prog) (w := W) ⟨(acc ++ decB (n + 1)).toArray⟩ ⟨(Lib.encodeRune r).toArray⟩ (by rw [str_size, str_size, List.length_append]; have := hLN.out; have := decB_length (n + 1); have := HRL.out; omega)
                rw [str_app] at hs1
                rw [str_app] at hs2
                obtain ⟨sA, hsA⟩ : ∃ sA, Hid ((⟨acc.toArray⟩ : ByteArray) = sA) := ⟨_, rfl⟩
                obtain ⟨sD, hsD⟩ : ∃ sD, Hid ((⟨(decB (n + 1)).toArray⟩ : ByteArray) = sD) := ⟨_, rfl⟩
                obtain ⟨sR, hsR⟩ : ∃ sR, Hid ((⟨(Lib.encodeRune r).toArray⟩ : ByteArray) = sR) := ⟨_, rfl⟩
                obtain ⟨sB, hsB⟩ : ∃ sB, Hid ((⟨(acc ++ decB (n + 1)).toArray⟩ : ByteArray) = sB) := ⟨_, rfl⟩
                obtain ⟨sC, hsC⟩ : ∃ sC, Hid ((⟨(acc ++ decB (n + 1) ++ Lib.encodeRune r).toArray⟩ : ByteArray) = sC) := ⟨_, rfl⟩
                rw [hsA.out, hsD.out, hsB.out] at hs1
                rw [hsB.out, hsR.out, hsC.out] at hs2
                rw [hsR.out] at hrs
                rw [hsD.out] at HDE
                rw [hsA.out]
                clear hEQ hLN HPF HRL
                go_wp2_with fail
                refine (HDE.out _).mono ?_
                rintro e w3 ⟨rfl, hb3⟩
                have hs3 := hb3.size
                have hB3 : Below w.heap.size w w3 := hBX.trans (hb3.mono hBX.size)
                have c3 := (hb3.cell (p := ⟨b, off + i, none⟩) (by show b < _; have := hBX.size; omega)).trans c9
                have b3 := (hb3.cell (p := ⟨cb, co + x * 2, none⟩) (by show cb < _; have := hBX.size; omega)).trans b9
                have HBF := hide hB3
                clear hb3 c9 b9 HDE hBX
                go_wp2
                go_roundw
                case rel => exact ⟨acc ++ decB (n + 1) ++ Lib.encodeRune r, 0, i + 1, by omega, by omega, by rw [hsC.out], rfl, by go_num, HNX, HLX, HBF⟩
                case measure => simp [intOf]; omega
              · obtain rfl : n = 0 := by omega
                have HNX : Hid (pF (sgB cs) 0 t = (acc ++ Lib.encodeRune r) ++ pF (sgB cs) 0 (t.drop (i + 1))) := by
                  show _ = _
                  rw [hEQ.out, HPF.out, if_neg (by omega)]
                  simp [List.append_assoc]
                have HLX : Hid ((acc ++ Lib.encodeRune r).length ≤ 6 * (i + 1)) := by
                  show _ ≤ _
                  have h1 := hLN.out
                  have h3 := HRL.out
                  rw [List.length_append]
                  omega
                have hs2 := fun W => run_string_add_sum (P := Tryd.prog) (w := W) ⟨acc.toArray⟩ ⟨(Lib.encodeRune r).toArray⟩ (by rw [str_size, str_size]; have := hLN.out; have := HRL.out; omega)
                rw [str_app] at hs2
                obtain ⟨sA, hsA⟩ : ∃ sA, Hid ((⟨acc.toArray⟩ : ByteArray) = sA) := ⟨_, rfl⟩
                obtain ⟨sR, hsR⟩ : ∃ sR, Hid ((⟨(Lib.encodeRune r).toArray⟩ : ByteArray) = sR) := ⟨_, rfl⟩
                obtain ⟨sC, hsC⟩ : ∃ sC, Hid ((⟨(acc ++ Lib.encodeRune r).toArray⟩ : ByteArray) = sC) := ⟨_, rfl⟩
                rw [hsA.out, hsR.out, hsC.out] at hs2
                rw [hsR.out] at hrs
                rw [hsA.out]
                have HBF := hide hBX
                clear hEQ hLN HPF HRL HDE hBX
                go_wp2
                go_roundw
                case rel => exact ⟨acc ++ Lib.encodeRune r, 0, i + 1, by omega, by omega, by rw [hsC.out], rfl, by go_num, HNX, HLX, HBF⟩
                case measure => simp [intOf]; omega
          · obtain rfl : i = k := by omega
            have HFT : Hid (TX = ⟨acc.toArray⟩) := by
              show TX = _
              rw [HTX.out, hEQ.out, List.drop_eq_nil_of_le (by rw [HTL.out]; exact Nat.le_refl _)]
              simp [pF]
            clear hEQ hLN
            go_wp2
            go_ret2
            exact ⟨by rw [HFE.out, HFT.out]; rfl, hbw.out⟩

end Go.Proofs.YtenpkhalgkodbaaDoor

/- Contract: the answer's SignMay. -/
namespace Go.Proofs.YtenpkhalgkodbaaDoor
open Go.RowKit

set_option maxRecDepth 20000 in
set_option maxHeartbeats 4000000 in
theorem signMay_any (c : Int) (w : World) : Calls Tryd.prog 7 #[.int .i32 c] w fun e w' => e = .returned (.bool (sgnR c)) ∧ w = w' := by
  by_cases d0 : c < 33
  · have HP : Hid (sgnR c = false) := by unfold sgnR; exact decide_eq_false (by omega)
    have e0 : ¬ 48 ≤ c := by omega
    have e1 : ¬ 33 ≤ c := by omega
    clear d0
    generalize sgnR c = R at *
    go_enter Tryd.func7, Tryd.ntmps7
    go_wp2
    go_ret
    exact ⟨ret_bool HP.out.symm, rfl⟩
  by_cases d1 : 12287 < c
  · have HP : Hid (sgnR c = false) := by unfold sgnR; exact decide_eq_false (by omega)
    have e0 : 48 ≤ c := by omega
    have e1 : ¬ c ≤ 57 := by omega
    have e2 : 33 ≤ c := by omega
    have e3 : ¬ c ≤ 12287 := by omega
    clear d0 d1
    generalize sgnR c = R at *
    go_enter Tryd.func7, Tryd.ntmps7
    go_wp2
    go_ret
    exact ⟨ret_bool HP.out.symm, rfl⟩
  by_cases d2 : 48 ≤ c ∧ c ≤ 57
  · have HP : Hid (sgnR c = false) := by unfold sgnR; exact decide_eq_false (by omega)
    have e0 : 48 ≤ c := by omega
    have e1 : c ≤ 57 := by omega
    have e2 : 33 ≤ c := by omega
    have e3 : c ≤ 12287 := by omega
    clear d0 d1 d2
    generalize sgnR c = R at *
    go_enter Tryd.func7, Tryd.ntmps7
    go_wp2
    go_ret
    exact ⟨ret_bool HP.out.symm, rfl⟩
  by_cases d3 : c = 40
  · have HP : Hid (sgnR c = false) := by unfold sgnR; exact decide_eq_false (by omega)
    have e0 : ¬ 48 ≤ c := by omega
    have e1 : 33 ≤ c := by omega
    have e2 : c ≤ 12287 := by omega
    have e3 : (c != 40) = false := by simp; omega
    clear d0 d1 d2 d3
    generalize sgnR c = R at *
    go_enter Tryd.func7, Tryd.ntmps7
    go_wp2
    go_ret
    exact ⟨ret_bool HP.out.symm, rfl⟩
  by_cases d4 : c = 41
  · have HP : Hid (sgnR c = false) := by unfold sgnR; exact decide_eq_false (by omega)
    have e0 : ¬ 48 ≤ c := by omega
    have e1 : 33 ≤ c := by omega
    have e2 : c ≤ 12287 := by omega
    have e3 : (c != 40) = true := by simp; omega
    have e4 : (c != 41) = false := by simp; omega
    clear d0 d1 d2 d3 d4
    generalize sgnR c = R at *
    go_enter Tryd.func7, Tryd.ntmps7
    go_wp2
    go_ret
    exact ⟨ret_bool HP.out.symm, rfl⟩
  by_cases d5 : c < 48
  · have HP : Hid (sgnR c = true) := by unfold sgnR; exact decide_eq_true (by omega)
    have e0 : ¬ 48 ≤ c := by omega
    have e1 : 33 ≤ c := by omega
    have e2 : c ≤ 12287 := by omega
    have e3 : (c != 40) = true := by simp; omega
    have e4 : (c != 41) = true := by simp; omega
    have e5 : c < 127 := by omega
    clear d0 d1 d2 d3 d4 d5
    generalize sgnR c = R at *
    go_enter Tryd.func7, Tryd.ntmps7
    go_wp2
    go_ret
    exact ⟨ret_bool HP.out.symm, rfl⟩
  by_cases d6 : c < 127
  · have HP : Hid (sgnR c = true) := by unfold sgnR; exact decide_eq_true (by omega)
    have e0 : 48 ≤ c := by omega
    have e1 : ¬ c ≤ 57 := by omega
    have e2 : 33 ≤ c := by omega
    have e3 : c ≤ 12287 := by omega
    have e4 : (c != 40) = true := by simp; omega
    have e5 : (c != 41) = true := by simp; omega
    have e6 : c < 127 := by omega
    clear d0 d1 d2 d3 d4 d5 d6
    generalize sgnR c = R at *
    go_enter Tryd.func7, Tryd.ntmps7
    go_wp2
    go_ret
    exact ⟨ret_bool HP.out.symm, rfl⟩
  by_cases d7 : 160 < c
  · have HP : Hid (sgnR c = true) := by unfold sgnR; exact decide_eq_true (by omega)
    have e0 : 48 ≤ c := by omega
    have e1 : ¬ c ≤ 57 := by omega
    have e2 : 33 ≤ c := by omega
    have e3 : c ≤ 12287 := by omega
    have e4 : (c != 40) = true := by simp; omega
    have e5 : (c != 41) = true := by simp; omega
    have e6 : ¬ c < 127 := by omega
    have e7 : 160 < c := by omega
    clear d0 d1 d2 d3 d4 d5 d6 d7
    generalize sgnR c = R at *
    go_enter Tryd.func7, Tryd.ntmps7
    go_wp2
    go_ret
    exact ⟨ret_bool HP.out.symm, rfl⟩
  have HP : Hid (sgnR c = false) := by unfold sgnR; exact decide_eq_false (by omega)
  have e0 : 48 ≤ c := by omega
  have e1 : ¬ c ≤ 57 := by omega
  have e2 : 33 ≤ c := by omega
  have e3 : c ≤ 12287 := by omega
  have e4 : (c != 40) = true := by simp; omega
  have e5 : (c != 41) = true := by simp; omega
  have e6 : ¬ c < 127 := by omega
  have e7 : ¬ 160 < c := by omega
  clear d0 d1 d2 d3 d4 d5 d6 d7
  generalize sgnR c = R at *
  go_enter Tryd.func7, Tryd.ntmps7
  go_wp2
  go_ret
  exact ⟨ret_bool HP.out.symm, rfl⟩

end Go.Proofs.YtenpkhalgkodbaaDoor

/- Contract: the answer's CallsMay, at calls that may be. -/
namespace Go.Proofs.YtenpkhalgkodbaaDoor
open Go.RowKit
set_option maxRecDepth 20000
set_option linter.unusedVariables false

theorem pc_ok {n : Nat} {x : List Int} (h1 : 1 ≤ n) (h12 : n ≤ 12) (h : okc n 0 x = true) : pc n x = 0 := by
  unfold pc pck
  rw [if_pos (by omega), if_pos h]

set_option maxHeartbeats 16000000 in
theorem rcalls_ok (s : ByteArray) (n : Nat) (vp : Option Addr) (vc : Nat) (X : List (List Int)) (cv : Value) (cs : List (Int × List (List Int))) (w : World) (hs : s.size ≤ 1048576) (hn : isN (arunes s) = true) (h1 : 2 ≤ n) (h2 : n ≤ 12) (hl1 : 1 ≤ X.length) (hl2 : X.length ≤ 200)
    (hv : IntsAll w (.slice vp X.length vc) X) (hX : ∀ k, k < X.length → okc n 0 (X.getD k []) = true) (hcv : CallsAt w cv cs) (hco : CallsOk n X.length cs) (hc1 : 1 ≤ cs.length) (hc2 : cs.length ≤ 8) :
    Calls Tryd.prog 9 #[.agg #[.string s, .int .i64 n, .slice vp X.length vc], cv] w fun e w' => e = .returned (.int .i64 0) ∧ Below w.heap.size w w' := by
  obtain ⟨m, hm⟩ : ∃ m, Hid (X.length = m) := ⟨_, rfl⟩
  have HB0 := hide ((Below.refl w.heap.size w).alloc (Nat.le_refl _) (mbox s n (.slice vp X.length vc)))
  have HMM := hide (rmay_ok s n vp vc X (w.alloc (mbox s n (.slice vp X.length vc))) hs hn h1 h2 hl1 hl2 (hv.below HB0.out) (fun x hx => by
    obtain ⟨k, hk, e⟩ := List.getElem_of_mem hx
    have := hX k hk
    rw [List.getD_eq_getElem?_getD, List.getElem?_eq_getElem hk] at this
    subst e
    exact pc_ok (by omega) h2 this))
  rw [hm.out] at HB0 HMM hl1 hl2 ⊢
  obtain ⟨b, off, cap, rfl, hbl, hcc1, hcc2, hcr⟩ := hcv
  obtain ⟨C, hC⟩ : ∃ C, Hid (cs.length = C) := ⟨_, rfl⟩
  have HCR := hide hcr
  have HCO := hide hco
  rw [hC.out] at hc1 hc2 hcc1 ⊢
  obtain ⟨d0, d1, d2⟩ := mbox_cells w s n (.slice vp m vc)
  clear hcr hco hv hX hn
  go_enter Tryd.func9, Tryd.ntmps9
  go_wp2_with fail
  refine HMM.out.mono ?_
  rintro e w1 ⟨rfl, hb1⟩
  have k1 : w1.cell? ⟨w.heap.size, 1, none⟩ = some (.int .i64 n) := by rw [hb1.cell (p := ⟨w.heap.size, 1, none⟩) (by simp)]; exact d1
  have k2 : w1.cell? ⟨w.heap.size, 2, none⟩ = some (.slice vp m vc) := by rw [hb1.cell (p := ⟨w.heap.size, 2, none⟩) (by simp)]; exact d2
  have HB1 := hide (HB0.out.trans (hb1.mono HB0.out.size))
  clear hb1 HB0 HMM d0 d1 d2
  have g3 : ¬ (C : Int) < 1 := by omega
  have g4 : ¬ 8 < (C : Int) := by omega
  go_wp2
  go_loopw [6] (fun i wr => ∃ k : Nat, k ≤ C ∧ i = .int .i64 k ∧ Hid (Below w.heap.size w wr) ∧ wr.cell? ⟨w.heap.size, 1, none⟩ = some (.int .i64 n) ∧ wr.cell? ⟨w.heap.size, 2, none⟩ = some (.slice vp m vc)) (fun i _ => C - (intOf i).toNat)
  case atStart => exact ⟨0, by omega, rfl, HB1, k1, k2⟩
  case round =>
    obtain ⟨k, hk, rfl, hbw, k1, k2⟩ := hrel
    clear HB1
    by_cases hlt : k < C
    · have hkc : k < cs.length := by rw [hC.out]; exact hlt
      obtain ⟨u, hcs, hcu, hcI⟩ := HCR.out k hkc
      have hsg := HCO.out.sign k hkc
      have hfew := HCO.out.few k hkc
      obtain ⟨up, uc, rfl⟩ := hcI.len
      obtain ⟨Y, hY⟩ : ∃ Y, Hid ((cs.getD k (0, [])).2 = Y) := ⟨_, rfl⟩
      have HOK := hide (fun q (hq : q < Y.length) => (by rw [← hY.out] at hq ⊢; exact pc_ok (by omega) h2 (HCO.out.ok k hkc q hq) : pc n (Y.getD q []) = 0))
      have HDI := hide (fun j (hj : j < k) => HCO.out.dist j k hj hkc)
      rw [hY.out] at hcI hcu hfew
      rw [hm.out] at hfew
      obtain ⟨sg, hsg9⟩ : ∃ sg, Hid ((cs.getD k (0, [])).1 = sg) := ⟨_, rfl⟩
      rw [hsg9.out] at hcs hsg HDI
      have HYI := hide (fun (W : World) (hW : Below w.heap.size w W) => hcI.below hW)
      obtain ⟨N, hN⟩ : ∃ N, Hid (Y.length = N) := ⟨_, rfl⟩
      rw [hN.out] at hcu hfew HYI
      have HS := hide (fun W => signMay_any sg W)
      rw [hsg] at HS
      have hcs' := (hbw.out.cell (p := ⟨b, off + k * 2, none⟩) hbl).trans hcs
      clear hcI hsg hY
      go_wp2_with fail
      refine (HS.out _).mono ?_
      rintro e w2 ⟨rfl, rfl⟩
      clear hcs'
      go_wp2
      go_loopw [8] (fun i wr => ∃ j : Nat, j ≤ k ∧ i = .int .i64 j ∧ Hid (Below w.heap.size w wr) ∧ wr.cell? ⟨w.heap.size, 1, none⟩ = some (.int .i64 n) ∧ wr.cell? ⟨w.heap.size, 2, none⟩ = some (.slice vp m vc)) (fun i _ => k - (intOf i).toNat)
      case atStart => exact ⟨0, by omega, rfl, hbw, k1, k2⟩
      case round =>
        obtain ⟨j, hj, rfl, hbw2, l1, l2⟩ := hrel
        clear hbw k1 k2
        by_cases hjk : j < k
        · have hjc : j < cs.length := by omega
          obtain ⟨u2, hcs2, _, _⟩ := HCR.out j hjc
          have hne := HDI.out j hjk
          have a1 := (hbw2.out.cell (p := ⟨b, off + j * 2, none⟩) hbl).trans hcs2
          have a2 := (hbw2.out.cell (p := ⟨b, off + k * 2, none⟩) hbl).trans hcs
          generalize (cs.getD j (0, [])).1 = sj at *
          have hb9 : (sj == sg) = false := by rw [beq_eq_false_iff_ne]; exact hne
          go_upto_region 15 with fail
          go_quiet (fail)
          have hB3 := hide (below_drewN hbw2.out nq)
          have n1 : (_ : World).cell? ⟨w.heap.size, 1, none⟩ = some (.int .i64 n) := (show (World.drewN _ nq).cell? ⟨w.heap.size, 1, none⟩ = some (.int .i64 n) from l1)
          have n2 : (_ : World).cell? ⟨w.heap.size, 2, none⟩ = some (.slice vp m vc) := (show (World.drewN _ nq).cell? ⟨w.heap.size, 2, none⟩ = some (.slice vp m vc) from l2)
          clear a1 a2 l1 l2 hbw2
          go_wp2
          go_roundw
          case rel => exact ⟨j + 1, by omega, by go_num, hB3, n1, n2⟩
          case measure => simp [intOf]; omega
        · have a3 := (hbw2.out.cell (p := ⟨b, off + k * 2 + 1, none⟩) hbl).trans hcu
          have g9 : ¬ (m : Int) < (N : Int) := by omega
          go_upto_region 17 with fail
          go_quiet (fail)
          have hB3 := hide (below_drewN hbw2.out nq)
          have n1 : (_ : World).cell? ⟨w.heap.size, 1, none⟩ = some (.int .i64 n) := (show (World.drewN _ nq).cell? ⟨w.heap.size, 1, none⟩ = some (.int .i64 n) from l1)
          have n2 : (_ : World).cell? ⟨w.heap.size, 2, none⟩ = some (.slice vp m vc) := (show (World.drewN _ nq).cell? ⟨w.heap.size, 2, none⟩ = some (.slice vp m vc) from l2)
          clear a3 l1 l2 hbw2
          go_wp2
          go_loopw [9] (fun i wr => ∃ q : Nat, q ≤ N ∧ i = .int .i64 q ∧ Hid (Below w.heap.size w wr) ∧ wr.cell? ⟨w.heap.size, 1, none⟩ = some (.int .i64 n) ∧ wr.cell? ⟨w.heap.size, 2, none⟩ = some (.slice vp m vc)) (fun i _ => N - (intOf i).toNat)
          case atStart => exact ⟨0, by omega, rfl, hB3, n1, n2⟩
          case round =>
            obtain ⟨q, hq, rfl, hbw3, l1, l2⟩ := hrel
            clear hB3 n1 n2
            have a3 := (hbw3.out.cell (p := ⟨b, off + k * 2 + 1, none⟩) hbl).trans hcu
            by_cases hqN : q < N
            · have hqY : q < Y.length := by rw [hN.out]; exact hqN
              obtain ⟨yb, yo, ycap, hye, hyb, hyc1, hyc2, hycell⟩ := (HYI.out w (Below.refl _ _)).cell (by omega)
              rw [hN.out] at hye hyc1 hycell
              injection hye with e1 _ e3
              subst e1; subst e3
              obtain ⟨xp, xc, hxc, hxI⟩ := hycell q hqN
              have a4 := (hbw3.out.cell (p := ⟨yb, yo + q, none⟩) hyb).trans hxc
              have hz := HOK.out q hqY
              have HC := hide (fun (W : World) (hW : Below w.heap.size w W) => changeMay_all n (.slice xp (Y.getD q []).length xc) (Y.getD q []) W (hxI.out.below hW))
              rw [hz] at HC
              generalize (Y.getD q []).length = pl at *
              have HC2 : ∀ W : World, Below w.heap.size w W → Calls Tryd.prog 28 #[.int .i64 n, .slice xp pl xc] W fun e w' => e = .returned (.int .i64 0) ∧ W = w' := HC.out
              clear HC hz hxc hxI hycell
              go_upto_region 22 with fail
              go_quiet ((go_at_call 28; exact Calls.quiet_of_same ((HC2 _ (below_drewN hbw3.out _)).mono (fun e wq h => ⟨h.1, h.2.symm⟩))))
              have hB4 := hide (below_drewN hbw3.out nq)
              have p1 : (_ : World).cell? ⟨w.heap.size, 1, none⟩ = some (.int .i64 n) := (show (World.drewN _ nq).cell? ⟨w.heap.size, 1, none⟩ = some (.int .i64 n) from l1)
              have p2 : (_ : World).cell? ⟨w.heap.size, 2, none⟩ = some (.slice vp m vc) := (show (World.drewN _ nq).cell? ⟨w.heap.size, 2, none⟩ = some (.slice vp m vc) from l2)
              clear a3 a4 l1 l2 hbw3 HC2
              go_wp2
              go_roundw
              case rel => exact ⟨q + 1, by omega, by go_num, hB4, p1, p2⟩
              case measure => simp [intOf]; omega
            · have hqe : q = N := by omega
              go_wp2
              go_roundw
              case rel => exact ⟨k + 1, by omega, by go_num, hbw3, l1, l2⟩
              case measure => simp [intOf]; omega
    · go_wp2
      go_ret
      exact ⟨rfl, hbw.out⟩

end Go.Proofs.YtenpkhalgkodbaaDoor
