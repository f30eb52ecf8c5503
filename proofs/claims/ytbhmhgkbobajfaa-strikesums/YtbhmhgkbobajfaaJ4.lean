/- Joined: SsF, SsG, SsH. -/
import Derived.Test.YtbhmhgkbobajfaaJ3
import Derived.Deep.Cut
import Derived.Deep.RegionLaw
/- The answer's Rhythm. -/
namespace Go.Proofs.Ytbhmhgkbobajfaa
open Go.RowKit
set_option maxRecDepth 20000
set_option linter.unusedVariables false

theorem rrhythm_err (v : Value) (F : List Nat) (w : World) (hF : Fls w v F) (hc : chkF F ≠ 0) :
    Calls Try.prog 8 #[v] w fun e w' => e = .returned (.tuple #[.slice none 0 0, .int .i64 (chkF F)]) ∧ w = w' := by
  have H := hide (sumOf_err v F w hF hc)
  obtain ⟨p, cap, rfl⟩ := hF.form
  clear hF
  generalize chkF F = c at *
  generalize F.length = m at *
  go_enter Try.func8, Try.ntmps8
  go_wp2_with fail
  refine H.out.mono ?_
  rintro e w' ⟨rfl, rfl⟩
  go_wp2
  go_ret2
  exact ⟨rfl, rfl⟩

/-- A rhythm as the answer tells it. -/
def rr1 (F : List Nat) (j : Nat) : Nat × Nat := (uns (sm (tl (rhR F j))), uns (sm (tl (rhI F j))))
def rrTo (F : List Nat) (k : Nat) : List (Nat × Nat) := (List.range k).map (rr1 F)

theorem rrTo_len (F : List Nat) (k : Nat) : (rrTo F k).length = k := by simp [rrTo]
theorem rrTo_succ (F : List Nat) (k : Nat) : rrTo F (k + 1) = rrTo F k ++ [rr1 F k] := by simp [rrTo, List.range_succ]

/-- What the answer's Rhythm answers. -/
def RRPost (F : List Nat) (w : World) (e : Ending) (w' : World) : Prop :=
  ∃ v, e = .returned (.tuple #[v, .int .i64 0]) ∧ w'.ownsRow w.heap.size 27 1 v 8 ((rrTo F 8).map cv) ∧ Below w.heap.size w w'

theorem take_snocF {G : List Nat} {k : Nat} (h : k < G.length) : G.take (k + 1) = G.take k ++ [G.getD k 0] := by
  rw [List.take_succ_eq_append_getElem h]
  simp [List.getD, List.getElem?_eq_getElem h]

theorem row_low {w : World} {base base' e n : Nat} {v : Value} {xs : List Value} (h : w.ownsRow base e 1 v n xs) (hb : base' ≤ base) : w.ownsRow base' e 1 v n xs := by
  obtain ⟨h1, h2⟩ := h
  refine ⟨h1, ?_⟩
  rcases h2 with h2 | ⟨g, cap, cur, hv, hg, r⟩
  · exact Or.inl h2
  · exact Or.inr ⟨g, cap, cur, hv, Nat.le_trans hb hg, r⟩

theorem row_form {w : World} {base e n : Nat} {v : Value} {xs : List Value} (h : w.ownsRow base e 1 v n xs) : ∃ p c, v = .slice p n c := by
  rcases h.2 with ⟨e, e2⟩ | ⟨g, c, cur, e, _⟩
  · exact ⟨_, _, by rw [e, e2]⟩
  · exact ⟨_, _, e⟩

/-- One float put behind others in a region that draws its order. -/
theorem push_facts {wr : World} {base n y : Nat} {v : Value} {G : List Nat} (h : wr.ownsRow base 23 1 v n (G.map (Value.float .f64))) (hn : n ≤ 10000) (hb : base ≤ wr.heap.size) :
    (wr.alloc (.cells #[.float .f64 y] 23)).drew.ownsRow base 23 1 v n (G.map (Value.float .f64)) ∧
    (∀ x u, [Value.float .f64 y][x]? = some u → (wr.alloc (.cells #[.float .f64 y] 23)).drew.cell? ((⟨wr.heap.size, 0, none⟩ : Addr).add x) = some u) ∧
    (∀ u ∈ [Value.float .f64 y], u.oneCell' = true) ∧ n + 1 ≤ maxLen ∧ (n + 1) * 8 ≤ 140737488355328 ∧ base ≤ (wr.alloc (.cells #[.float .f64 y] 23)).drew.heap.size := by
  refine ⟨(h.alloc _).drew, fun x u hu => ?_, fun u hu => by rw [List.mem_singleton] at hu; subst hu; rfl, by unfold maxLen; omega, by omega, ?_⟩
  · rw [Addr.add_lit, Nat.zero_add]
    have := alloc_at wr (.cells #[.float .f64 y] 23)
    unfold World.cell?
    show (match (wr.alloc _).heap[wr.heap.size]? with | some (.cells c _ _) => c[x]? | _ => none) = some u
    rw [this]
    simpa using hu
  · show base ≤ (wr.alloc _).heap.size
    simp
    omega

set_option maxHeartbeats 8000000 in
theorem rrhythm_ok (v : Value) (F : List Nat) (w : World) (hF : Fls w v F) (hc : chkF F = 0) (hN : NOkF F) :
    Calls Try.prog 8 #[v] w (RRPost F w) := by
  have H := hide (sumOf_ok v F w hF hc hN.len hN.sum)
  obtain ⟨m, hm9⟩ : ∃ m, Hid (F.length = m) := ⟨_, rfl⟩
  have hlm : m ≤ 500 := by rw [← hm9.out]; exact hN.len
  obtain ⟨p, cap, rfl⟩ : ∃ p cap, v = .slice p m cap := by rw [← hm9.out]; exact hF.form
  have HC := fun k hk => hide (hF.cellAt hm9.out k hk)
  have HN := hide hN
  have hn := neg_hf
  clear hF hc hN
  go_enter Try.func8, Try.ntmps8
  go_wp2_with fail
  refine H.out.mono ?_
  rintro e w0 ⟨rfl, rfl⟩
  clear H
  go_wp2_with fail
  refine (sqrt_ok _ _).mono ?_
  rintro e w1 ⟨r, rfl, hr, hd⟩
  obtain rfl := sqrt_half hr
  clear hr
  go_wp2
  have Q0 : Hid (Q2 w ((w1.alloc reC).alloc imC) w1.heap.size [] [] [] (.slice none 0 0) (.slice none 0 0) (.slice none 0 0)) := by
    refine ⟨⟨fun i hi => ?_, fun i j hi hj hij g e => ?_⟩, World.ownsRow_nil _ _ _ _, (Below.heap_alloc _ _ _ (by simp)).trans (alloc_at _ _), ?_, ((hd.below w.heap.size).alloc (by rw [hd.heap]; exact Nat.le_refl _) _).alloc (by simp [hd.heap]) _, by simp, by rw [hd.heap]; exact Nat.le_refl _⟩
    · rcases (show i = 0 ∨ i = 1 by omega) with rfl | rfl
      · exact World.ownsRow_nil _ _ _ _
      · exact World.ownsRow_nil _ _ _ _
    · rcases (show i = 0 ∨ i = 1 by omega) with rfl | rfl
      · cases e
      · cases e
    · have := alloc_at (w1.alloc reC) imC
      rw [show (w1.alloc reC).heap.size = w1.heap.size + 1 from by simp] at this
      exact this
  clear hd
  generalize hB : w1.heap.size = B at *
  clear hB
  go_loopw [9, 10] (fun ov i wr => ∃ j : Nat, j ≤ 8 ∧ i = .int .i64 j ∧ Hid (Q2 w wr B [] [] (rrTo F j) (.slice none 0 0) (.slice none 0 0) ov)) (fun _ i _ => 8 - (intOf i).toNat)
  case atStart => exact ⟨0, by omega, rfl, Q0.out⟩
  case round =>
    obtain ⟨j, hj, rfl, hQ⟩ := hrel
    clear Q0
    by_cases hj8 : j < 8
    · have HR9 := hide (HN.out.re j)
      have HI9 := hide (HN.out.im j)
      have HO9 := hide (HN.out.rok j)
      obtain ⟨rr, hrr⟩ : ∃ y, Hid (rr1 F j = y) := ⟨_, rfl⟩
      have hd8 : decide ((j : Int) < 8) = true := decide_eq_true (by omega)
      go_wp2
      go_loopw [11, 12, 13] (fun av bv i wr => ∃ k : Nat, k ≤ m ∧ i = .int .i64 k ∧ Hid (Q2 w wr B ((rhR F j).take k) ((rhI F j).take k) (rrTo F j) av bv u9)) (fun _ _ i _ => m - (intOf i).toNat)
      case atStart => exact ⟨0, by omega, rfl, hQ.out⟩
      case round =>
        obtain ⟨k, hk, rfl, hQ1⟩ := hrel
        clear hQ
        by_cases hlt : k < m
        · obtain ⟨b, off, rfl, hcap, hcap2, hb, hcell⟩ := (HC k hlt).out
          have hkF : k < F.length := by rw [hm9.out]; exact hlt
          have hcw : ∀ W : World, Below w.heap.size w W → W.cell? ⟨b, off + k, none⟩ = some (.float .f64 (F.getD k 0)) := fun W hW => by rw [hW.cell (p := ⟨b, off + k, none⟩) hb]; exact hcell
          have mr := HO9.out.mr k hkF
          have mi := HO9.out.mi k hkF
          have hwl := wj_lt j k
          have HT1 : Hid ((rhR F j).take (k + 1) = (rhR F j).take k ++ [fop .mul (F.getD k 0) (reA j k)]) := by
            show _ = _
            rw [take_snocF (by rw [rhR_len]; exact hkF), rhR_at F j k hkF]
          have HT2 : Hid ((rhI F j).take (k + 1) = (rhI F j).take k ++ [fop .mul (F.getD k 0) (imA j k)]) := by
            show _ = _
            rw [take_snocF (by rw [rhI_len]; exact hkF), rhI_at F j k hkF]
          have hl1 : ((rhR F j).take k).length = k := by rw [List.length_take, rhR_len]; omega
          have hl2 : ((rhI F j).take k).length = k := by rw [List.length_take, rhI_len]; omega
          have hjk : j * k ≤ 3500 := Nat.le_trans (Nat.mul_le_mul (show j ≤ 7 by omega) (show k ≤ 500 by omega)) (by decide)
          have hm1 : (j : Int) * (k : Int) = ((j * k : Nat) : Int) := (Int.natCast_mul j k).symm
          have hm2 : ((j * k : Nat) : Int).tmod 8 = ((wj j k : Nat) : Int) := rfl
          have HRE := hide (fun (W : World) (hW : W.heap[B]? = some reC) => reC_cell hW hwl)
          have HIM := hide (fun (W : World) (hW : W.heap[B + 1]? = some imC) => imC_cell hW hwl)
          have hr0 : (eig.getD (wj j k) (0, 0)).1 = reA j k := rfl
          have hi0 : (eig.getD (wj j k) (0, 0)).2 = imA j k := rfl
          rw [hr0] at HRE
          rw [hi0] at HIM
          have HCW := hide hcw
          have r1 := fun w => run_float_arith (P := Try.prog) w .mul 23 .f64 _ _ _ mr
          have r2 := fun w => run_float_arith (P := Try.prog) w .mul 23 .f64 _ _ _ mi
          clear hcell HC mr mi HR9 HI9 HO9 HN hr0 hi0 hcw
          generalize fop .mul (F.getD k 0) (reA j k) = yr at *
          generalize fop .mul (F.getD k 0) (imA j k) = yi at *
          generalize F.getD k 0 = x at *
          generalize reA j k = ar at *
          generalize imA j k = ai at *
          generalize wj j k = q at *
          generalize j * k = jk at *
          have hqi : (q : Int) < 8 := by omega
          obtain ⟨i0, hi, hz0, hz1, hz2⟩ := info_parts Try.info23
          have hone := hQ1.out.one
          have htwo := hQ1.out.two
          rw [hl1] at hone
          rw [hl2] at htwo
          obtain ⟨ap, ac, rfl⟩ := row_form hone
          obtain ⟨bp, bc, rfl⟩ := row_form htwo
          have hsz := hQ1.out.sz
          obtain ⟨f1, f2, f3, f4, f5, f6⟩ := push_facts (y := yr) hone (by omega) hsz
          have F1 := hide f1
          have F2 := hide f2
          have F3 := hide f3
          have F4 := hide f4
          have F5 := hide f5
          have F6 := hide f6
          have HL1 := hide hl1
          have HL2 := hide hl2
          have hcx := HCW.out wr hQ1.out.bl
          have hcr := HRE.out wr hQ1.out.re
          have Q4 := hide ((hQ1.out.alloc (.cells #[.float .f64 yr] 23)).keep (w' := (wr.alloc (.cells #[.float .f64 yr] 23)).drew) ⟨rfl, rfl, rfl, rfl⟩)
          clear f1 f2 f3 f4 f5 f6 hone htwo hl1 hl2 hQ1
          go_wp2
          go_region_law ((refine step_append_keep rfl (.tmp 52) (.tmp 62) 22 rfl (B + 2) 23 i0 (.float .f64 0) 1 8 Try.underlying22 hi hz0 hz1 hz2 rfl (by decide) (.slice ap k ac) k (((rhR F j).take k).map (Value.float .f64)) rfl F1.out ⟨wr.heap.size, 0, none⟩ 1 1 [.float .f64 yr] rfl rfl F2.out F3.out F4.out F5.out F6.out ?_; intro v4 w4 hown4 hgrow4 hblk4))
          all_goals
            have Q5 := hide (Q4.out.pushA (v' := v4) (w' := w4) (y := yr) (by rw [HL1.out, List.map_append]; exact hown4) hgrow4 (hblk4.imp id (fun e => e.1)))
            clear hown4 hgrow4 hblk4 F1 F2 F3 F4 F5 F6 hcx hcr Q4
            have hone5 := Q5.out.one
            have htwo5 := Q5.out.two
            rw [List.length_append, HL1.out, List.length_singleton] at hone5
            rw [HL2.out] at htwo5
            obtain ⟨ap4, ac4, rfl⟩ := row_form hone5
            have hsz5 := Q5.out.sz
            obtain ⟨g1, g2, g3, g4, g5, g6⟩ := push_facts (y := yi) htwo5 (by omega) hsz5
            have G1 := hide g1
            have G2 := hide g2
            have G3 := hide g3
            have G4 := hide g4
            have G5 := hide g5
            have G6 := hide g6
            have hcx5 := HCW.out w4 Q5.out.bl
            have hci5 := HIM.out w4 Q5.out.im
            have Q6 := hide ((Q5.out.alloc (.cells #[.float .f64 yi] 23)).keep (w' := (w4.alloc (.cells #[.float .f64 yi] 23)).drew) ⟨rfl, rfl, rfl, rfl⟩)
            clear g1 g2 g3 g4 g5 g6 hone5 htwo5 Q5
            go_wp2
            go_region_law ((refine step_append_keep rfl (.tmp 64) (.tmp 74) 22 rfl (B + 2) 23 i0 (.float .f64 0) 1 8 Try.underlying22 hi hz0 hz1 hz2 rfl (by decide) (.slice bp k bc) k (((rhI F j).take k).map (Value.float .f64)) rfl G1.out ⟨w4.heap.size, 0, none⟩ 1 1 [.float .f64 yi] rfl rfl G2.out G3.out G4.out G5.out G6.out ?_; intro v5 w5 hown5 hgrow5 hblk5))
            all_goals
              have Q7 := hide (Q6.out.pushB (v' := v5) (w' := w5) (y := yi) (by rw [HL2.out, List.map_append]; exact hown5) hgrow5 (hblk5.imp id (fun e => e.1)))
              clear hown5 hgrow5 hblk5 G1 G2 G3 G4 G5 G6 hcx5 hci5 Q6
              rw [← HT1.out, ← HT2.out] at Q7
              go_wp2
              go_roundw
              case rel =>
                have hfin : ∃ i : Nat, i ≤ m ∧ Value.int .i64 ((k : Int) + 1) = .int .i64 i ∧ Hid (Q2 w w5 B ((rhR F j).take i) ((rhI F j).take i) (rrTo F j) (.slice ap4 (k + 1) ac4) v5 u9) := ⟨k + 1, by omega, by go_num, Q7.out⟩
                first | exact hfin | ((repeat apply Exists.intro); exact ⟨hfin, rfl⟩)
              case measure => simp [intOf]; omega
        · have hq1 : (rhR F j).take k = rhR F j := List.take_of_length_le (by rw [rhR_len, hm9.out]; omega)
          have hq2 : (rhI F j).take k = rhI F j := List.take_of_length_le (by rw [rhI_len, hm9.out]; omega)
          rw [hq1, hq2] at hQ1
          have HA := hide (added_ok u11 (rhR F j) wr (Fls.own hQ1.out.one) (by rw [rhR_len, hm9.out]; omega) HR9.out.all HR9.out.ok)
          have HB := hide (added_ok u12 (rhI F j) wr (Fls.own hQ1.out.two) (by rw [rhI_len, hm9.out]; omega) HI9.out.all HI9.out.ok)
          have HRR : Hid ((uns (sm (tl (rhR F j))), uns (sm (tl (rhI F j)))) = rr) := hrr.out
          have hro := hQ1.out.ro
          have hsz := hQ1.out.sz
          have HRO := hide hro
          clear HC HN HR9 HI9 HO9 hq1 hq2 hro
          generalize sm (tl (rhR F j)) = s1 at *
          generalize sm (tl (rhI F j)) = s2 at *
          go_wp2_with fail
          refine HA.out.mono ?_
          rintro e w2 ⟨rfl, rfl⟩
          go_wp2_with fail
          refine (plusNought_ok _ _).mono ?_
          rintro e w2 ⟨rfl, rfl⟩
          go_wp2_with fail
          refine HB.out.mono ?_
          rintro e w2 ⟨rfl, rfl⟩
          go_wp2_with fail
          refine (plusNought_ok _ _).mono ?_
          rintro e w2 ⟨rfl, rfl⟩
          clear HA HB
          generalize uns s1 = t1 at *
          generalize uns s2 = t2 at *
          go_wp2_with (at_builtin; refine wpList_pushC rfl _ _ rfl (B + 2) u9 (rrTo F j) rfl (HRO.out.alloc _) wr.heap.size (t1, t2) rfl (alloc_at wr _) ?a1 ?a2 ?_)
          case a1 => rw [rrTo_len]; omega
          case a2 => simp; omega
          intro v3 w3 hown3 hg3 hv3
          have Q9 := hide ((hQ1.out.alloc _).pushO (y := (t1, t2)) (v' := v3) (by rw [List.map_append]; exact hown3) hg3)
          rw [HRR.out] at Q9
          clear hown3 hg3 hv3 hQ1 HRO
          have HS : Hid (rrTo F (j + 1) = rrTo F j ++ [rr]) := by show _ = _; rw [rrTo_succ, hrr.out]
          rw [← HS.out] at Q9
          go_wp2
          go_roundw
          case rel => exact ⟨j + 1, by omega, by go_num, Q9.out⟩
          case measure => simp [intOf]; omega
    · obtain rfl : j = 8 := by omega
      have hro := hQ.out.ro
      have hlo := hQ.out.lo
      have hbl := hide hQ.out.bl
      rw [rrTo_len] at hro
      have HRO := hide (row_low hro (base' := w.heap.size) (by omega))
      clear hro hQ
      go_wp2
      go_ret2
      exact ⟨_, rfl, HRO.out, hbl.out⟩

end Go.Proofs.Ytbhmhgkbobajfaa

/- The law StrikeSums. -/
namespace Go.Proofs.Ytbhmhgkbobajfaa
open Go.RowKit
set_option maxRecDepth 20000
set_option linter.unusedVariables false

/-- What the answer's Rhythm hands back: nothing but the error, or eight numbers. -/
def YAt (w : World) (c : Int) (v : Value) (Y : List (Nat × Nat)) : Prop :=
  c = 0 → ∃ g cap, v = .slice (some ⟨g, 0, none⟩) 8 cap ∧ 8 ≤ cap ∧ cap ≤ 9223372036854775807 ∧ ∀ j, j < 8 → w.cell? ⟨g, j, none⟩ = some (.complex .f64 (Y.getD j (0, 0)).1 (Y.getD j (0, 0)).2)

set_option maxHeartbeats 8000000 in
theorem sums_tail (v : Value) (F : List Nat) (w : World) (hF : Fls w v F) (hl : ¬ (500 < F.length ∧ F.length < 5001)) (c : Int) (a b : Nat) (X Y : List (Nat × Nat)) (hX : X.length = 8)
    (h1 : ∀ W, Below w.heap.size w W → Calls Try.prog 5 #[v] W fun e w' => e = .returned (.tuple #[.float .f64 a, .int .i64 c]) ∧ Below W.heap.size W w')
    (h2 : ∀ W, Below w.heap.size w W → Calls Try.prog 6 #[v] W fun e w' => e = .returned (.tuple #[.float .f64 b, .int .i64 c]) ∧ Below W.heap.size W w')
    (h3 : ∀ W, Below w.heap.size w W → Calls Try.prog 7 #[v] W fun e w' => e = .returned (.tuple #[.agg (cps X), .int .i64 c]) ∧ Below W.heap.size W w')
    (h4 : ∀ W, Below w.heap.size w W → Calls Try.prog 8 #[v] W fun e w' => ∃ yv, e = .returned (.tuple #[yv, .int .i64 c]) ∧ YAt w' c yv Y ∧ Below W.heap.size W w')
    (hab : Alike a b) (hxy : ∀ j, j < 8 → Alike (X.getD j (0, 0)).1 (if c = 0 then (Y.getD j (0, 0)).1 else 0) ∧ Alike (X.getD j (0, 0)).2 (if c = 0 then (Y.getD j (0, 0)).2 else 0)) :
    Calls Try.prog 3 #[v] w fun e w' => e = .returned (.bool true) ∧ Below w.heap.size w w' := by
  obtain ⟨p, cap, rfl⟩ := hF.form
  have hlen := hF.len
  have H1 := hide h1
  have H2 := hide h2
  have H3 := hide h3
  have H4 := hide h4
  have HAB := hide (fun W => same_alike hab W)
  have HXY := hide hxy
  clear hF h1 h2 h3 h4 hab hxy
  generalize F.length = m at *
  have hd : (decide ((500 : Int) < (m : Int)) && decide ((m : Int) < 5001)) = false := by
    by_cases h : (500 : Int) < (m : Int)
    · rw [decide_eq_true h, decide_eq_false (by omega)]; rfl
    · rw [decide_eq_false h]; rfl
  by_cases hg : (500 : Int) < (m : Int)
  · have hk : ¬ (m : Int) < 5001 := by omega
    clear hl
    go_enter Try.func3, Try.ntmps3
    go_wp2_with fail
    refine (H1.out w (Below.refl _ _)).mono ?_
    rintro e w1 ⟨rfl, b1⟩
    have B1 := hide b1
    have C2 := H2.out w1 b1
    clear b1 H1 H2
    go_wp2_with fail
    refine C2.mono ?_
    rintro e w2 ⟨rfl, b2⟩
    have B2 := hide (B1.out.trans (b2.mono B1.out.size))
    have C3 := H3.out w2 B2.out
    clear b2 B1 H3 C2
    go_wp2_with fail
    refine C3.mono ?_
    rintro e w3 ⟨rfl, b3⟩
    have B3 := hide (B2.out.trans (b3.mono B2.out.size))
    have hC0 := zeros_cpx w3
    clear b3 B2 C3
    go_wp2_with (first | fail | (refine wpList_store_cpx rfl _ _ rfl _ _ X hC0 rfl rfl hX ?_; intro w4 hA hgr hsz))
    have B4 := hide ((B3.out.alloc B3.out.size zeroC).grown hgr (by simp; exact Nat.le_succ_of_le B3.out.size) (fun k h => by cases h; exact B3.out.size))
    have C4 := H4.out w4 B4.out
    have HA := hide hA
    clear hC0 hgr hsz hA H4 B3
    generalize w3.heap.size = B at *
    go_wp2_with fail
    refine C4.mono ?_
    rintro e w5 ⟨yv, rfl, hY, b5⟩
    have B5 := hide (B4.out.trans (b5.mono B4.out.size))
    have HA5 := hide (HA.out.below b5 HA.out.lt)
    have HY := hide hY
    clear b5 B4 HA C4 hY
    have hcc : (c != c) = false := by simp
    go_wp2_with fail
    refine (HAB.out _).mono ?_
    rintro e w6 ⟨rfl, rfl⟩
    clear HAB
    go_wp2
    go_loop [11] (fun i => ∃ k : Nat, k ≤ 8 ∧ i = .int .i64 k) (fun i => 8 - (intOf i).toNat)
    case atStart => exact ⟨0, by omega, rfl⟩
    case round =>
      obtain ⟨k, hk, rfl⟩ := hrel
      by_cases hlt : k < 8
      · have hcell := (HA5.out.cell hlt).1
        have hx := HXY.out k hlt
        have HX1 := hide (fun W => same_alike hx.1 W)
        have HX2 := hide (fun W => same_alike hx.2 W)
        clear hx HXY
        have hki : (k : Int) < 8 := by omega
        by_cases hc : c = 0
        · subst hc
          obtain ⟨g, ycap, rfl, hy1, hy2, hyc⟩ := HY.out rfl
          have hyk := hyc k hlt
          rw [if_pos rfl] at HX1 HX2
          clear hyc HY
          generalize (X.getD k (0, 0)).1 = x1 at *
          generalize (X.getD k (0, 0)).2 = x2 at *
          generalize (Y.getD k (0, 0)).1 = y1 at *
          generalize (Y.getD k (0, 0)).2 = y2 at *
          go_wp2_with fail
          refine (HX1.out _).mono ?_
          rintro e w6 ⟨rfl, rfl⟩
          go_wp2_with fail
          refine (HX2.out _).mono ?_
          rintro e w6 ⟨rfl, rfl⟩
          go_wp2
          go_round
          case rel => exact ⟨k + 1, by omega, by go_num⟩
          case measure => simp [intOf]; omega
        · rw [if_neg hc] at HX1 HX2
          clear HY
          generalize (X.getD k (0, 0)).1 = x1 at *
          generalize (X.getD k (0, 0)).2 = x2 at *
          go_wp2_with fail
          refine (HX1.out _).mono ?_
          rintro e w6 ⟨rfl, rfl⟩
          go_wp2_with fail
          refine (HX2.out _).mono ?_
          rintro e w6 ⟨rfl, rfl⟩
          go_wp2
          go_round
          case rel => exact ⟨k + 1, by omega, by go_num⟩
          case measure => simp [intOf]; omega
      · go_wp2
        go_ret
        exact ⟨rfl, B5.out⟩
  · clear hl
    go_enter Try.func3, Try.ntmps3
    go_wp2_with fail
    refine (H1.out w (Below.refl _ _)).mono ?_
    rintro e w1 ⟨rfl, b1⟩
    have B1 := hide b1
    have C2 := H2.out w1 b1
    clear b1 H1 H2
    go_wp2_with fail
    refine C2.mono ?_
    rintro e w2 ⟨rfl, b2⟩
    have B2 := hide (B1.out.trans (b2.mono B1.out.size))
    have C3 := H3.out w2 B2.out
    clear b2 B1 H3 C2
    go_wp2_with fail
    refine C3.mono ?_
    rintro e w3 ⟨rfl, b3⟩
    have B3 := hide (B2.out.trans (b3.mono B2.out.size))
    have hC0 := zeros_cpx w3
    clear b3 B2 C3
    go_wp2_with (first | fail | (refine wpList_store_cpx rfl _ _ rfl _ _ X hC0 rfl rfl hX ?_; intro w4 hA hgr hsz))
    have B4 := hide ((B3.out.alloc B3.out.size zeroC).grown hgr (by simp; exact Nat.le_succ_of_le B3.out.size) (fun k h => by cases h; exact B3.out.size))
    have C4 := H4.out w4 B4.out
    have HA := hide hA
    clear hC0 hgr hsz hA H4 B3
    generalize w3.heap.size = B at *
    go_wp2_with fail
    refine C4.mono ?_
    rintro e w5 ⟨yv, rfl, hY, b5⟩
    have B5 := hide (B4.out.trans (b5.mono B4.out.size))
    have HA5 := hide (HA.out.below b5 HA.out.lt)
    have HY := hide hY
    clear b5 B4 HA C4 hY
    have hcc : (c != c) = false := by simp
    go_wp2_with fail
    refine (HAB.out _).mono ?_
    rintro e w6 ⟨rfl, rfl⟩
    clear HAB
    go_wp2
    go_loop [11] (fun i => ∃ k : Nat, k ≤ 8 ∧ i = .int .i64 k) (fun i => 8 - (intOf i).toNat)
    case atStart => exact ⟨0, by omega, rfl⟩
    case round =>
      obtain ⟨k, hk, rfl⟩ := hrel
      by_cases hlt : k < 8
      · have hcell := (HA5.out.cell hlt).1
        have hx := HXY.out k hlt
        have HX1 := hide (fun W => same_alike hx.1 W)
        have HX2 := hide (fun W => same_alike hx.2 W)
        clear hx HXY
        have hki : (k : Int) < 8 := by omega
        by_cases hc : c = 0
        · subst hc
          obtain ⟨g, ycap, rfl, hy1, hy2, hyc⟩ := HY.out rfl
          have hyk := hyc k hlt
          rw [if_pos rfl] at HX1 HX2
          clear hyc HY
          generalize (X.getD k (0, 0)).1 = x1 at *
          generalize (X.getD k (0, 0)).2 = x2 at *
          generalize (Y.getD k (0, 0)).1 = y1 at *
          generalize (Y.getD k (0, 0)).2 = y2 at *
          go_wp2_with fail
          refine (HX1.out _).mono ?_
          rintro e w6 ⟨rfl, rfl⟩
          go_wp2_with fail
          refine (HX2.out _).mono ?_
          rintro e w6 ⟨rfl, rfl⟩
          go_wp2
          go_round
          case rel => exact ⟨k + 1, by omega, by go_num⟩
          case measure => simp [intOf]; omega
        · rw [if_neg hc] at HX1 HX2
          clear HY
          generalize (X.getD k (0, 0)).1 = x1 at *
          generalize (X.getD k (0, 0)).2 = x2 at *
          go_wp2_with fail
          refine (HX1.out _).mono ?_
          rintro e w6 ⟨rfl, rfl⟩
          go_wp2_with fail
          refine (HX2.out _).mono ?_
          rintro e w6 ⟨rfl, rfl⟩
          go_wp2
          go_round
          case rel => exact ⟨k + 1, by omega, by go_num⟩
          case measure => simp [intOf]; omega
      · go_wp2
        go_ret
        exact ⟨rfl, B5.out⟩

end Go.Proofs.Ytbhmhgkbobajfaa

/- The law StrikeSums, all cases. -/
namespace Go.Proofs.Ytbhmhgkbobajfaa
open Go.RowKit
set_option maxRecDepth 20000
set_option linter.unusedVariables false

theorem YAt.own {w : World} {base : Nat} {v : Value} {Y : List (Nat × Nat)} (h : w.ownsRow base 27 1 v 8 (Y.map cv)) (hY : Y.length = 8) : YAt w 0 v Y := by
  intro _
  have h9 := h
  obtain ⟨h1, h2⟩ := h
  rcases h2 with ⟨_, h2⟩ | ⟨g, cap, cur, hv, _, hh, hn, hm, hs, ht⟩
  · cases h2
  · refine ⟨g, cap, hv, hn, by unfold maxLen at hm; omega, fun j hj => ?_⟩
    have := h9.cells (g := g) (by rw [hv]; rfl) j (cv (Y.getD j (0, 0))) (by simp [List.getElem?_map, List.getD, List.getElem?_eq_getElem (show j < Y.length by omega)])
    rw [Addr.add_lit, Nat.zero_add] at this
    exact this

theorem strikeSums_walk (v : Value) (F : List Nat) (w : World) (hF : Fls w v F) (ht : ∀ x, x ∈ F → x < 18446744073709551616) :
    Calls Try.prog 3 #[v] w fun e w' => e = .returned (.bool true) ∧ Below w.heap.size w w' := by
  by_cases hl : 500 < F.length ∧ F.length < 5001
  · obtain ⟨p, cap, rfl⟩ := hF.form
    have h1 : (500 : Int) < (F.length : Int) := by omega
    have h2 : (F.length : Int) < 5001 := by omega
    clear hF ht hl
    generalize F.length = m at *
    go_enter Try.func3, Try.ntmps3
    go_wp2
    go_ret
    exact ⟨rfl, Below.refl _ _⟩
  · by_cases hc : chkF F = 0
    · have h5 : F.length ≤ 500 := by
        rcases Nat.lt_or_ge 5000 F.length with e | e
        · exfalso; unfold chkF at hc; rw [if_pos e] at hc; cases hc
        · omega
      have hN := NOkF.of hc h5 ht
      refine sums_tail v F w hF hl 0 (sm (tl F)) (uns (sm (tl F))) (rhAll F) (rrTo F 8) (rhAll_len F) (fun W hW => ?_) (fun W hW => ?_) (fun W hW => ?_) (fun W hW => ?_) hN.sum.alike (fun j hj => ?_)
      · exact sum_ok v F W (hF.below hW) hc hN.sum.all hN.sum.ok
      · refine (sumOf_ok v F W (hF.below hW) hc h5 hN.sum).mono ?_
        rintro e w' ⟨rfl, rfl⟩
        exact ⟨rfl, Below.refl _ _⟩
      · exact rhythmP_ok v F W (hF.below hW) hc (fun j _ => hN.rok j)
      · refine (rrhythm_ok v F W (hF.below hW) hc hN).mono ?_
        rintro e w' ⟨yv, rfl, ho, hb⟩
        exact ⟨yv, rfl, YAt.own ho (rrTo_len F 8), hb⟩
      · rw [if_pos rfl, if_pos rfl, rhAll_at F j hj]
        have e : (rrTo F 8).getD j (0, 0) = rr1 F j := by simp [rrTo, List.getD, hj]
        rw [e]
        exact ⟨(hN.re j).alike, (hN.im j).alike⟩
    · refine sums_tail v F w hF hl (chkF F) 0 0 zerosC [] rfl (fun W hW => ?_) (fun W hW => ?_) (fun W hW => ?_) (fun W hW => ?_) (Alike.fv FV_zero) (fun j hj => ?_)
      · refine (sum_err v F W (hF.below hW) hc).mono ?_
        rintro e w' ⟨rfl, rfl⟩
        exact ⟨rfl, Below.refl _ _⟩
      · refine (sumOf_err v F W (hF.below hW) hc).mono ?_
        rintro e w' ⟨rfl, rfl⟩
        exact ⟨rfl, Below.refl _ _⟩
      · exact rhythmP_err v F W (hF.below hW) hc
      · refine (rrhythm_err v F W (hF.below hW) hc).mono ?_
        rintro e w' ⟨rfl, rfl⟩
        exact ⟨_, rfl, fun e => absurd e hc, Below.refl _ _⟩
      · rw [if_neg hc, if_neg hc]
        have e : zerosC.getD j (0, 0) = (0, 0) := by
          rcases (show j = 0 ∨ j = 1 ∨ j = 2 ∨ j = 3 ∨ j = 4 ∨ j = 5 ∨ j = 6 ∨ j = 7 by omega) with rfl | rfl | rfl | rfl | rfl | rfl | rfl | rfl <;> rfl
        rw [e]
        exact ⟨Alike.fv FV_zero, Alike.fv FV_zero⟩

end Go.Proofs.Ytbhmhgkbobajfaa
