/- Joined: MvF. -/
import Derived.Test.YtfnmkbcdchnnnaaJ7
import Derived.Deep.RegionHeld3
import Derived.Deep.Cut
/- Contract: the answer's Music. -/
namespace Go.Proofs.Ytfnmkbcdchnnnaa
open Go.RowKit
set_option maxRecDepth 20000
set_option linter.unusedVariables false

set_option maxHeartbeats 4000000 in
theorem rmusic_limit (n : Int) (v1 v2 : Value) (ss : List ByteArray) (L : List (List Int)) (w : World) (h1 : Strs w v1 ss) (h2 : IntsAll w v2 L) (h : 50 < ss.length ∨ 20001 < L.length) :
    Calls Try.prog 8 #[.int .i64 n, v1, v2] w (CntPost n ss L w) := by
  obtain ⟨p0, c0, rfl⟩ := h1.len
  obtain ⟨p1, c1, rfl⟩ := h2.len
  have HF : Hid (CntPost n ss L w (.returned (.tuple #[.slice none 0 0, .int .i64 3])) w) := by
    unfold CntPost mcount
    rw [if_pos h]
    exact ⟨_, rfl, Below.refl _ _, Ints.nil _⟩
  clear h1 h2
  generalize ss.length = a at *
  generalize L.length = b at *
  by_cases h1 : 50 < a
  · have h1' : (50 : Int) < (a : Int) := by omega
    go_enter Try.func8, Try.ntmps8
    go_wp2
    go_ret2
    exact HF.out
  · have h1' : ¬ (50 : Int) < (a : Int) := by omega
    have h2' : (20001 : Int) < (b : Int) := by omega
    go_enter Try.func8, Try.ntmps8
    go_wp2
    go_ret2
    exact HF.out

theorem fstErr_step {α : Type} (f : α → Int) (d : α) (l : List α) {k : Nat} (hk : k < l.length) (hN : ∀ j, j < k → f (l.getD j d) = 0) (hne : f (l.getD k d) ≠ 0) : fstErr (l.map f) = f (l.getD k d) := by
  have e1 : ∀ j, j < l.length → (l.map f).getD j 0 = f (l.getD j d) := fun j hj => by simp [List.getD, hj]
  rw [fstErr_at (k := k) (by simpa using hk) (fun j hj => by rw [e1 j (by omega)]; exact hN j hj) (by rw [e1 k hk]; exact hne), e1 k hk]

theorem fstErr_done {α : Type} (f : α → Int) (d : α) (l : List α) (hN : ∀ j, j < l.length → f (l.getD j d) = 0) : fstErr (l.map f) = 0 :=
  fstErr_all (fun j hj => by rw [List.length_map] at hj; have := hN j hj; simp [List.getD, hj] at this ⊢; exact this)

set_option maxHeartbeats 16000000 in
theorem rmusic_ok (n : Int) (v1 v2 : Value) (ss : List ByteArray) (L : List (List Int)) (w : World) (h1 : Strs w v1 ss) (h2 : IntsAll w v2 L) (hs : ss.length ≤ 50) (hL : L.length ≤ 20001) (hsz : ∀ j, j < ss.length → (ss.getD j ByteArray.empty).size ≤ 1048576) :
    Calls Try.prog 8 #[.int .i64 n, v1, v2] w (CntPost n ss L w) := by
  obtain ⟨i0, hi, hz0, hz1, hz2⟩ := info_parts Try.info3
  obtain ⟨p0, c0, rfl⟩ := h1.len
  obtain ⟨p1, c1, rfl⟩ := h2.len
  have HS1 := hide h1
  have HL2 := hide h2
  have HSZ := hide hsz
  have HMC : Hid (mcount n ss L = if allErr n ss ≠ 0 then (allErr n ss, []) else if rowsErr n L ≠ 0 then (rowsErr n L, []) else (0, (allPat n ss).map (fun p => ((lkn p L : Nat) : Int)))) := by
    show _ = _
    unfold mcount
    rw [if_neg (by omega)]
  have hs' : ¬ (50 : Int) < (ss.length : Int) := by omega
  have hL' : ¬ (20001 : Int) < (L.length : Int) := by omega
  clear h1 h2 hsz
  go_enter Try.func8, Try.ntmps8
  go_wp2
  go_loopw [8] (fun i wr => ∃ k : Nat, k ≤ ss.length ∧ i = .int .i64 k ∧ Hid (∀ j, j < k → (mrd n (ss.getD j ByteArray.empty)).1 = 0) ∧ Below w.heap.size w wr) (fun i _ => ss.length - (intOf i).toNat)
  case atStart => exact ⟨0, by omega, rfl, (fun j hj => absurd hj (by omega)), Below.refl _ _⟩
  case round =>
    obtain ⟨k, hk, rfl, hN, hbw⟩ := hrel
    by_cases hlt : k < ss.length
    · obtain ⟨b, off, cap, he, hb3, hlc3, hcm3, hcell3⟩ := (HS1.out.below hbw).cell (by omega)
      simp only [Value.slice.injEq] at he
      obtain ⟨rfl, _, rfl⟩ := he
      have hce := hcell3 k hlt
      have HPM := hide (patternMay_any n (ss.getD k ByteArray.empty) wr (HSZ.out k hlt))
      have HE : Hid ((mrd n (ss.getD k ByteArray.empty)).1 ≠ 0 → allErr n ss = (mrd n (ss.getD k ByteArray.empty)).1) := fun hne => fstErr_step (fun s => (mrd n s).1) ByteArray.empty ss hlt hN.out hne
      have HN1 : Hid ((mrd n (ss.getD k ByteArray.empty)).1 = 0 → ∀ j, j < k + 1 → (mrd n (ss.getD j ByteArray.empty)).1 = 0) := fun h0 j hj => by
        rcases Nat.lt_succ_iff_lt_or_eq.1 hj with h | h
        · exact hN.out j h
        · rw [h]; exact h0
      clear hcell3 hN
      generalize ss.getD k ByteArray.empty = s at *
      by_cases h0 : (mrd n s).1 = 0
      · have HN2 := hide (HN1.out h0)
        rw [h0] at HPM
        clear HE HN1 h0
        go_wp2_with fail
        refine HPM.out.mono ?_
        rintro e w2 ⟨rfl, hb2⟩
        have hB2 := hbw.trans (hb2.mono hbw.size)
        clear hb2
        go_wp2
        go_roundw
        case rel => exact ⟨k + 1, by omega, by go_num, HN2, hB2⟩
        case measure => simp [intOf]; omega
      · have hne : ((mrd n s).1 != 0) = true := by rw [bne_iff_ne]; exact h0
        have HEE := hide (HE.out h0)
        have HMM : Hid (mcount n ss L = ((mrd n s).1, [])) := by show _ = _; rw [HMC.out, if_pos (by rw [HEE.out]; exact h0), HEE.out]
        clear HE HN1 h0 HMC HEE
        go_wp2_with fail
        refine HPM.out.mono ?_
        rintro e w2 ⟨rfl, hb2⟩
        have HF : Hid (CntPost n ss L w (.returned (.tuple #[.slice none 0 0, .int .i64 (mrd n s).1])) w2) := by
          unfold CntPost
          rw [HMM.out]
          exact ⟨_, rfl, hbw.trans (hb2.mono hbw.size), Ints.nil _⟩
        clear HMM hb2 HPM
        generalize (mrd n s).1 = code at *
        go_wp2
        go_ret2
        exact HF.out
    · obtain rfl : k = ss.length := by omega
      have hE : allErr n ss = 0 := fstErr_done (fun s => (mrd n s).1) ByteArray.empty ss hN.out
      have HMC2 : Hid (mcount n ss L = if rowsErr n L ≠ 0 then (rowsErr n L, []) else (0, (allPat n ss).map (fun p => ((lkn p L : Nat) : Int)))) := by show _ = _; rw [HMC.out, if_neg (by simpa using hE)]
      have HN0 := hide hN.out
      have hbw0 := hbw
      clear HMC hE hN hbw
      go_wp2
      go_loopw [10] (fun i wr => ∃ k : Nat, k ≤ L.length ∧ i = .int .i64 k ∧ Hid (∀ j, j < k → rwe n (L.getD j []) = 0) ∧ Below w.heap.size w wr) (fun i _ => L.length - (intOf i).toNat)
      case atStart => exact ⟨0, by omega, rfl, (fun j hj => absurd hj (by omega)), hbw0⟩
      case round =>
        clear hbw0
        obtain ⟨k, hk, rfl, hN, hbw⟩ := hrel
        by_cases hlt : k < L.length
        · obtain ⟨b, off, cap, he, hb3, hlc3, hcm3, hcell3⟩ := (HL2.out.below hbw).cell (by omega)
          simp only [Value.slice.injEq] at he
          obtain ⟨rfl, _, rfl⟩ := he
          obtain ⟨q, cc, hce, hint⟩ := hcell3 k hlt
          have HC := hide (rowMay_any _ _ wr hint.out)
          have HE : Hid (rwe n (L.getD k []) ≠ 0 → rowsErr n L = rwe n (L.getD k [])) := fun hne => fstErr_step (rwe n) [] L hlt hN.out hne
          have HN1 : Hid (rwe n (L.getD k []) = 0 → ∀ j, j < k + 1 → rwe n (L.getD j []) = 0) := fun h0 j hj => by
            rcases Nat.lt_succ_iff_lt_or_eq.1 hj with h | h
            · exact hN.out j h
            · rw [h]; exact h0
          have HMM : Hid (rwe n (L.getD k []) ≠ 0 → mcount n ss L = (rwe n (L.getD k []), [])) := fun hne => by
            rw [HMC2.out, if_pos (by rw [HE.out hne]; exact hne), HE.out hne]
          clear hcell3 hint hN HE
          generalize L.getD k [] = x at *
          by_cases h0 : chk x = 0
          · have hx12 := (chk_zero h0).2.1
            rw [h0] at HC
            by_cases hn : (x.length : Int) = n
            · have HN2 := hide (HN1.out (by unfold rwe; rw [if_neg (by simpa using h0), if_neg (by simpa using hn)]))
              have hne : ((x.length : Int) != n) = false := by rw [bne_eq_false_iff_eq]; exact hn
              have hnn := hide hn
              clear HMM HN1 h0 hn
              generalize x.length = xl at *
              go_wp2_with fail
              refine HC.out.mono ?_
              rintro e w2 ⟨rfl, rfl⟩
              go_wp2
              go_roundw
              case rel => exact ⟨k + 1, by omega, by go_num, HN2, hbw⟩
              case measure => simp [intOf]; omega
            · have e2 : rwe n x = 1 := by unfold rwe; rw [if_neg (by simpa using h0), if_pos hn]
              have HM9 := hide (HMM.out (by rw [e2]; decide))
              rw [e2] at HM9
              have hne : ((x.length : Int) != n) = true := by rw [bne_iff_ne]; exact hn
              have hnn := hide hn
              have HF : Hid (CntPost n ss L w (.returned (.tuple #[.slice none 0 0, .int .i64 1])) wr) := by
                unfold CntPost
                rw [HM9.out]
                exact ⟨_, rfl, hbw, Ints.nil _⟩
              clear HMM HN1 h0 hn HM9 e2
              generalize x.length = xl at *
              go_wp2_with fail
              refine HC.out.mono ?_
              rintro e w2 ⟨rfl, rfl⟩
              go_wp2
              go_ret2
              exact HF.out
          · have e2 : rwe n x = chk x := by unfold rwe; rw [if_pos h0]
            have HM9 := hide (HMM.out (by rw [e2]; exact h0))
            rw [e2] at HM9
            have hne : (chk x != 0) = true := by rw [bne_iff_ne]; exact h0
            have HF : Hid (CntPost n ss L w (.returned (.tuple #[.slice none 0 0, .int .i64 (chk x)])) wr) := by
              unfold CntPost
              rw [HM9.out]
              exact ⟨_, rfl, hbw, Ints.nil _⟩
            clear HMM HN1 h0 HM9 e2
            generalize chk x = code at *
            generalize x.length = xl at *
            go_wp2_with fail
            refine HC.out.mono ?_
            rintro e w2 ⟨rfl, rfl⟩
            go_wp2
            go_ret2
            exact HF.out
        · obtain rfl : k = L.length := by omega
          have hR : rowsErr n L = 0 := fstErr_done (rwe n) [] L hN.out
          have HMC3 : Hid (mcount n ss L = (0, (allPat n ss).map (fun p => ((lkn p L : Nat) : Int)))) := by show _ = _; rw [HMC2.out, if_neg (by simpa using hR)]
          have HLK0 : Hid (∀ k j (W : World) (rv : Value), k < ss.length → j < L.length → Ints W rv (L.getD j []) → Calls Try.prog 14 #[.string (ss.getD k ByteArray.empty), rv] W fun e w' => e = .returned (.bool (fts (mrd n (ss.getD k ByteArray.empty)).2 (L.getD j []))) ∧ Below W.heap.size W w') := fun k j W rv hk hj hI => by
            have e1 := HN0.out k hk
            obtain ⟨e2, e3, e4⟩ := mrd_len e1
            have e6 := hN.out j hj
            have hrl : ((L.getD j []).length : Int) = n := by
              unfold rwe at e6
              split at e6
              · contradiction
              · split at e6
                · cases e6
                · rename_i h9; simpa using h9
            unfold mrd at e1 ⊢
            rw [if_neg (by omega)] at e1 ⊢
            obtain ⟨m, rfl⟩ := Int.eq_ofNat_of_zero_le (show 0 ≤ n by omega)
            rw [Int.toNat_natCast] at e1 ⊢
            exact like_ok m _ rv _ W (by omega) (by omega) (HSZ.out k hk) hI (by omega) e1
          have hbw0 := hbw
          have hbs0 := hbw.size
          have HS0 := hide (HS1.out.below hbw)
          have HL0 := hide (HL2.out.below hbw)
          clear HMC2 hR hN hbw HN0
          generalize hm : ss.length = m at *
          have HPAT : Hid (∀ k, k < m → allPat n (ss.take (k + 1)) = allPat n (ss.take k) ++ [(mrd n (ss.getD k ByteArray.empty)).2]) := fun k hk => allPat_snoc n ss k (by omega)
          generalize hW0 : wr = W0 at *
          clear hW0
          go_wp2
          go_loopw [12, 13] (fun v i wr' => ∃ (k : Nat), k ≤ m ∧ i = .int .i64 k ∧ wr'.ownsRow W0.heap.size 3 1 v k (((allPat n (ss.take k)).map (fun p => ((lkn p L : Nat) : Int))).map (Value.int .i64)) ∧ Below W0.heap.size W0 wr') (fun _ i _ => m - (intOf i).toNat)
          case atStart => exact ⟨0, by omega, rfl, World.ownsRow_nil _ _ _ _, Below.refl _ _⟩
          case round =>
            obtain ⟨k, hk, rfl, hown, hbw⟩ := hrel
            obtain ⟨op, oc, rfl⟩ := owns_slice hown
            by_cases hlt : k < m
            · obtain ⟨sb, so, scap, he, hsb, hslc, hscm, hscell⟩ := HS0.out.cell (by omega)
              rw [hm] at he hslc hscell
              simp only [Value.slice.injEq] at he
              obtain ⟨rfl, _, rfl⟩ := he
              have gs0 := hscell k hlt
              have HPK := hide (HPAT.out k hlt)
              have HLKk : Hid (∀ j (W : World) (rv : Value), j < L.length → Ints W rv (L.getD j []) → Calls Try.prog 14 #[.string (ss.getD k ByteArray.empty), rv] W fun e w' => e = .returned (.bool (fts (mrd n (ss.getD k ByteArray.empty)).2 (L.getD j []))) ∧ Below W.heap.size W w') := fun j W rv hj hI => HLK0.out k j W rv hlt hj hI
              clear hscell
              generalize (mrd n (ss.getD k ByteArray.empty)).2 = pat at *
              generalize ss.getD k ByteArray.empty = s at *
              go_wp2
              go_loopw [14, 15] (fun c i wr => ∃ (j : Nat), j ≤ L.length ∧ i = .int .i64 j ∧ c = .int .i64 (lkn pat (L.take j)) ∧ wr.ownsRow W0.heap.size 3 1 (.slice op k oc) k (((allPat n (ss.take k)).map (fun p => ((lkn p L : Nat) : Int))).map (Value.int .i64)) ∧ Below W0.heap.size W0 wr) (fun _ i _ => L.length - (intOf i).toNat)
              case atStart => exact ⟨0, by omega, rfl, rfl, hown, hbw⟩
              case round =>
                clear hown hbw
                obtain ⟨j, hj, rfl, rfl, hownt, hbt⟩ := hrel
                have hll := lkn_le pat (L.take j)
                have hll2 : (L.take j).length ≤ j := List.length_take_le _ _
                by_cases hjl : j < L.length
                · obtain ⟨rb, ro, rcap, he, hrb, hrlc, hrcm, hrcell⟩ := HL0.out.cell (by omega)
                  simp only [Value.slice.injEq] at he
                  obtain ⟨rfl, _, rfl⟩ := he
                  obtain ⟨q2, cc2, gr0, hint2⟩ := hrcell j hjl
                  have gs : wr.cell? ⟨sb, so + k, none⟩ = some (.string s) := (hbt.cell (p := ⟨sb, so + k, none⟩) hsb).trans gs0
                  have gr : wr.cell? ⟨rb, ro + j, none⟩ = some (.slice q2 (L.getD j []).length cc2) := (hbt.cell (p := ⟨rb, ro + j, none⟩) hrb).trans gr0
                  have HLKW : Hid (∀ W, Below W0.heap.size W0 W → Calls Try.prog 14 #[.string s, .slice q2 (L.getD j []).length cc2] W fun e w' => e = .returned (.bool (fts pat (L.getD j []))) ∧ Below W.heap.size W w') := fun W hW => HLKk.out j W _ hjl (hint2.out.below hW)
                  have HZ2 := hide (lkn_snoc pat L j hjl)
                  clear hrcell hint2
                  generalize (L.getD j []).length = xl at *
                  generalize fts pat (L.getD j []) = ft at *
                  generalize hlq : lkn pat (L.take j) = lq at *
                  cases ft with
                  | true =>
                    rw [if_pos rfl] at HZ2
                    go_upto_region 25 with fail
                    refine wp_region_held_drew (S := fun W' => W'.cell? ⟨sb, so + k, none⟩ = some (.string s) ∧ W'.cell? ⟨rb, ro + j, none⟩ = some (.slice q2 xl cc2)) (by kernel_rfl) ⟨gs, gr⟩ (fun hS => ?_)
                    refine wpAnyH_take (i := 0) (v := .slice (some ⟨sb, so, none⟩) m c0) rfl (by kernel_rfl) (by kernel_rfl) (by kernel_rfl) (fun _ _ _ h => h) (Or.inl ⟨by kernel_rfl, fun w' hS' => by obtain ⟨q0, q1⟩ := hS'; go_simp⟩) hS ?_
                    refine wpAnyH_take (i := 1) (v := .int .i64 (k : Int)) rfl (by kernel_rfl) (by kernel_rfl) (by kernel_rfl) (fun _ _ _ h => h) (Or.inl ⟨by kernel_rfl, fun w' hS' => by obtain ⟨q0, q1⟩ := hS'; go_simp⟩) hS ?_
                    refine wpAnyH_take (i := 2) (v := .pointer (some ⟨sb, so + k, none⟩)) rfl (by kernel_rfl) (by kernel_rfl) (by kernel_rfl) (fun _ _ _ h => h) (Or.inl ⟨by kernel_rfl, fun w' hS' => by obtain ⟨q0, q1⟩ := hS'; go_simp⟩) hS ?_
                    refine wpAnyH_take (i := 3) (v := .string s) rfl (by kernel_rfl) (by kernel_rfl) (by kernel_rfl) (fun _ _ _ h => h) (Or.inl ⟨by kernel_rfl, fun w' hS' => by obtain ⟨q0, q1⟩ := hS'; go_simp⟩) hS ?_
                    refine wpAnyH_take (i := 4) (v := .slice (some ⟨rb, ro, none⟩) L.length c1) rfl (by kernel_rfl) (by kernel_rfl) (by kernel_rfl) (fun _ _ _ h => h) (Or.inl ⟨by kernel_rfl, fun w' hS' => by obtain ⟨q0, q1⟩ := hS'; go_simp⟩) hS ?_
                    refine wpAnyH_take (i := 5) (v := .int .i64 (j : Int)) rfl (by kernel_rfl) (by kernel_rfl) (by kernel_rfl) (fun _ _ _ h => h) (Or.inl ⟨by kernel_rfl, fun w' hS' => by obtain ⟨q0, q1⟩ := hS'; go_simp⟩) hS ?_
                    refine wpAnyH_take (i := 6) (v := .pointer (some ⟨rb, ro + j, none⟩)) rfl (by kernel_rfl) (by kernel_rfl) (by kernel_rfl) (fun _ _ _ h => h) (Or.inl ⟨by kernel_rfl, fun w' hS' => by obtain ⟨q0, q1⟩ := hS'; go_simp⟩) hS ?_
                    refine wpAnyH_take (i := 7) (v := .slice q2 xl cc2) rfl (by kernel_rfl) (by kernel_rfl) (by kernel_rfl) (fun _ _ _ h => h) (Or.inl ⟨by kernel_rfl, fun w' hS' => by obtain ⟨q0, q1⟩ := hS'; go_simp⟩) hS ?_
                    refine wpAnyH_ready (rs := [8]) (by kernel_rfl) (by simp) ?_
                    refine AllReadyH.cons rfl (fun K hK => ?_) AllReadyH.nil
                    go_simp
                    refine (HLKW.out wr.drew hbt.drew).mono ?_
                    rintro e w4 ⟨rfl, hb4⟩
                    have hb4' : Below wr.heap.size wr w4 := (Below.refl wr.heap.size wr).drew.trans hb4
                    have hbt4 := hbt.trans (hb4'.mono hbt.size)
                    refine hK.out _ _ ⟨(hbt4.cell (p := ⟨sb, so + k, none⟩) hsb).trans gs0, (hbt4.cell (p := ⟨rb, ro + j, none⟩) hrb).trans gr0⟩ (fun hS => ?_)
                    clear hK
                    refine wpAnyH_take (i := 9) (v := .bool true) rfl (by kernel_rfl) (by kernel_rfl) (by kernel_rfl) (fun _ _ _ h => h) (Or.inl ⟨by kernel_rfl, fun w' hS' => by obtain ⟨q0, q1⟩ := hS'; go_simp⟩) hS ?_
                    refine wpAnyH_done (by kernel_rfl) ?_ _
                    have hown4 := owns_below hownt hb4' (Nat.le_refl _)
                    clear hb4 hb4' HLKW hS hownt gs gr
                    go_wp2
                    go_roundw
                    case rel => exact ⟨j + 1, by omega, by go_num, by rw [HZ2.out]; go_num, hown4, hbt4⟩
                    case measure => simp [intOf]; omega
                  | false =>
                    rw [if_neg (by decide), Nat.add_zero] at HZ2
                    go_upto_region 25 with fail
                    refine wp_region_held_drew (S := fun W' => W'.cell? ⟨sb, so + k, none⟩ = some (.string s) ∧ W'.cell? ⟨rb, ro + j, none⟩ = some (.slice q2 xl cc2)) (by kernel_rfl) ⟨gs, gr⟩ (fun hS => ?_)
                    refine wpAnyH_take (i := 0) (v := .slice (some ⟨sb, so, none⟩) m c0) rfl (by kernel_rfl) (by kernel_rfl) (by kernel_rfl) (fun _ _ _ h => h) (Or.inl ⟨by kernel_rfl, fun w' hS' => by obtain ⟨q0, q1⟩ := hS'; go_simp⟩) hS ?_
                    refine wpAnyH_take (i := 1) (v := .int .i64 (k : Int)) rfl (by kernel_rfl) (by kernel_rfl) (by kernel_rfl) (fun _ _ _ h => h) (Or.inl ⟨by kernel_rfl, fun w' hS' => by obtain ⟨q0, q1⟩ := hS'; go_simp⟩) hS ?_
                    refine wpAnyH_take (i := 2) (v := .pointer (some ⟨sb, so + k, none⟩)) rfl (by kernel_rfl) (by kernel_rfl) (by kernel_rfl) (fun _ _ _ h => h) (Or.inl ⟨by kernel_rfl, fun w' hS' => by obtain ⟨q0, q1⟩ := hS'; go_simp⟩) hS ?_
                    refine wpAnyH_take (i := 3) (v := .string s) rfl (by kernel_rfl) (by kernel_rfl) (by kernel_rfl) (fun _ _ _ h => h) (Or.inl ⟨by kernel_rfl, fun w' hS' => by obtain ⟨q0, q1⟩ := hS'; go_simp⟩) hS ?_
                    refine wpAnyH_take (i := 4) (v := .slice (some ⟨rb, ro, none⟩) L.length c1) rfl (by kernel_rfl) (by kernel_rfl) (by kernel_rfl) (fun _ _ _ h => h) (Or.inl ⟨by kernel_rfl, fun w' hS' => by obtain ⟨q0, q1⟩ := hS'; go_simp⟩) hS ?_
                    refine wpAnyH_take (i := 5) (v := .int .i64 (j : Int)) rfl (by kernel_rfl) (by kernel_rfl) (by kernel_rfl) (fun _ _ _ h => h) (Or.inl ⟨by kernel_rfl, fun w' hS' => by obtain ⟨q0, q1⟩ := hS'; go_simp⟩) hS ?_
                    refine wpAnyH_take (i := 6) (v := .pointer (some ⟨rb, ro + j, none⟩)) rfl (by kernel_rfl) (by kernel_rfl) (by kernel_rfl) (fun _ _ _ h => h) (Or.inl ⟨by kernel_rfl, fun w' hS' => by obtain ⟨q0, q1⟩ := hS'; go_simp⟩) hS ?_
                    refine wpAnyH_take (i := 7) (v := .slice q2 xl cc2) rfl (by kernel_rfl) (by kernel_rfl) (by kernel_rfl) (fun _ _ _ h => h) (Or.inl ⟨by kernel_rfl, fun w' hS' => by obtain ⟨q0, q1⟩ := hS'; go_simp⟩) hS ?_
                    refine wpAnyH_ready (rs := [8]) (by kernel_rfl) (by simp) ?_
                    refine AllReadyH.cons rfl (fun K hK => ?_) AllReadyH.nil
                    go_simp
                    refine (HLKW.out wr.drew hbt.drew).mono ?_
                    rintro e w4 ⟨rfl, hb4⟩
                    have hb4' : Below wr.heap.size wr w4 := (Below.refl wr.heap.size wr).drew.trans hb4
                    have hbt4 := hbt.trans (hb4'.mono hbt.size)
                    refine hK.out _ _ ⟨(hbt4.cell (p := ⟨sb, so + k, none⟩) hsb).trans gs0, (hbt4.cell (p := ⟨rb, ro + j, none⟩) hrb).trans gr0⟩ (fun hS => ?_)
                    clear hK
                    refine wpAnyH_take (i := 9) (v := .bool false) rfl (by kernel_rfl) (by kernel_rfl) (by kernel_rfl) (fun _ _ _ h => h) (Or.inl ⟨by kernel_rfl, fun w' hS' => by obtain ⟨q0, q1⟩ := hS'; go_simp⟩) hS ?_
                    refine wpAnyH_done (by kernel_rfl) ?_ _
                    have hown4 := owns_below hownt hb4' (Nat.le_refl _)
                    clear hb4 hb4' HLKW hS hownt gs gr
                    go_wp2
                    go_roundw
                    case rel => exact ⟨j + 1, by omega, by go_num, by rw [HZ2.out]; go_num, hown4, hbt4⟩
                    case measure => simp [intOf]; omega
                · obtain rfl : j = L.length := by omega
                  rw [List.take_length] at hll ⊢
                  have hbs := hbt.size
                  have hlL : lkn pat L ≤ L.length := hll
                  clear hll hll2
                  have HNEW : Hid (((allPat n (ss.take (k + 1))).map (fun p => ((lkn p L : Nat) : Int))).map (Value.int .i64) = ((allPat n (ss.take k)).map (fun p => ((lkn p L : Nat) : Int))).map (Value.int .i64) ++ [.int .i64 ((lkn pat L : Nat) : Int)]) := by
                    show _ = _
                    rw [HPK.out, List.map_append, List.map_append]; rfl
                  generalize ((allPat n (ss.take k)).map (fun p => ((lkn p L : Nat) : Int))).map (Value.int .i64) = OUT at *
                  generalize lkn pat L = lq at *
                  go_wp2_with (at_builtin; refine wpList_append_own _ rfl _ _ 24 rfl W0.heap.size 3 i0 (.int .i64 0) 1 8 Try.underlying24 hi hz0 hz1 hz2 rfl (by decide) _ _ _ rfl (hownt.alloc _) ⟨wr.heap.size, 0, none⟩ 1 1 [.int .i64 (lq : Int)] rfl rfl ?c1 ?c2 ?c3 ?c4 ?c5 ?_)
                  case c1 => exact cell_one_new _ _ _
                  case c2 => intro u hu; simp at hu; subst hu; rfl
                  case c3 => unfold maxLen; omega
                  case c4 => omega
                  case c5 => simp; omega
                  intro v' w5 hown5 hgrow _
                  have hB5 : Below W0.heap.size W0 w5 := (hbt.alloc hbs _).grown hgrow (by simp; omega) (fun g hg => (hownt.lt g hg).1)
                  clear hgrow
                  go_wp2
                  go_roundw
                  case rel => exact ⟨k + 1, by omega, by go_num, by rw [HNEW.out]; exact hown5, hB5⟩
                  case measure => simp [intOf]; omega
            · obtain rfl : k = m := by omega
              have HF : Hid (∀ v, wr.ownsRow W0.heap.size 3 1 v k (((allPat n (ss.take k)).map (fun p => ((lkn p L : Nat) : Int))).map (Value.int .i64)) → CntPost n ss L w (.returned (.tuple #[v, .int .i64 0])) wr) := fun v ho => by
                unfold CntPost
                rw [HMC3.out]
                refine ⟨v, rfl, hbw0.trans (hbw.mono hbs0), ?_⟩
                rw [List.take_of_length_le (by omega)] at ho
                exact Ints.own ho
              have HFF := hide (HF.out _ hown)
              clear HF hown
              go_wp2
              go_ret2
              exact HFF.out

end Go.Proofs.Ytfnmkbcdchnnnaa
