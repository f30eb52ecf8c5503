/- Joined: CoY. -/
import Derived.Test.YtimfoggjocajiaaJ13
import Derived.Test.YtimfoggjocajiaaJ4
/- CosetMade answers true at every input. -/
namespace Go.Proofs.Ytimfoggjocajiaa
open Go.RowKit

set_option maxRecDepth 20000 in
theorem cosetMade_long (v : Value) (xs : List Int) (a1 a2 a3 a4 : Int) (t : Bool) (w : World) (h : Ints w v xs) (hl : 256 < xs.length) :
    Calls Try.prog 6 #[v, .int .i64 a1, .int .i64 a2, .int .i64 a3, .int .i64 a4, .bool t] w fun e w' => Told w e w' := by
  obtain ⟨p, c, rfl⟩ := h.form
  have hl' : (256 : Int) < (xs.length : Int) := by omega
  clear h
  go_enter Try.func6, Try.ntmps6
  go_wp2
  go_ret
  exact ⟨rfl, Below.refl _ _⟩

theorem cut_one {n : Nat} (h12 : n ≤ 12) : cut n 1 = rnd n := by
  have := cut_pad h12 (rnd_length n) (isRow_rnd n)
  rwa [pad_rnd h12] at this

set_option maxRecDepth 20000 in
set_option maxHeartbeats 1600000 in
theorem cosetMade_ok (v : Value) (xs : List Int) (a1 a2 a3 a4 : Int) (od : Bool) (w : World) (h : Ints w v xs) (hx : ∀ x, x ∈ xs → I64 x) (hl : xs.length ≤ 256) (i1 : I64 a1) (i2 : I64 a2) (i3 : I64 a3) (i4 : I64 a4) :
    Calls Try.prog 6 #[v, .int .i64 a1, .int .i64 a2, .int .i64 a3, .int .i64 a4, .bool od] w fun e w' => Told w e w' := by
  obtain ⟨i0, hi, hz0, hz1, hz2⟩ := info_parts Try.info23
  have HI := hide h
  have HX := hide hx
  have HI4 := hide i4
  obtain ⟨p, c, rfl⟩ := h.form
  obtain ⟨l1, r1⟩ := i1
  obtain ⟨l2, r2⟩ := i2
  obtain ⟨l3, r3⟩ := i3
  have hl' : ¬ ((256 : Int) < (xs.length : Int)) := by omega
  clear h hx i4
  go_enter Try.func6, Try.ntmps6
  go_wp2_with fail
  refine (pick_any a1 6 _ l1 r1 (by omega) (by omega)).mono ?_
  rintro ex wp ⟨k1, k1a, k1b, rfl, rfl⟩
  obtain ⟨n0, rfl⟩ := Int.eq_ofNat_of_zero_le k1a
  obtain ⟨n, hn⟩ : ∃ n : Nat, n = n0 + 1 := ⟨_, rfl⟩
  have hnI : (1 : Int) + (n0 : Int) = (n : Int) := by omega
  have h1 : 1 ≤ n := by omega
  have h12 : n ≤ 12 := by omega
  clear hn k1a k1b l1 r1
  go_wp2_with fail
  refine (pick_any a2 4 _ l2 r2 (by omega) (by omega)).mono ?_
  rintro ex wp ⟨k2, k2a, k2b, rfl, rfl⟩
  obtain ⟨m, rfl⟩ := Int.eq_ofNat_of_zero_le k2a
  have hm4 : m < 4 := by omega
  have HR1 : Hid (Calls Try.prog 27 #[.slice p xs.length c, .int .i64 0, .int .i64 n, .int .i64 m] w fun e w' => ∃ u vs xss, e = .returned u ∧ RowsRel w w' n m u vs xss) := rowsOf_ok2 (.slice p xs.length c) xs 0 n m w HI.out HX.out (by omega) h1 h12 (by omega)
  clear k2a k2b l2 r2
  go_wp2_with fail
  refine HR1.out.mono ?_
  rintro ex w1 ⟨u1, vs1, gss, rfl, hR1⟩
  have hB1 := hR1.below
  have HA1 := hide hR1.all'.1
  have HGL := hide hR1.all'.2
  have HGN := hide hR1.rows
  obtain ⟨gp, gc, eu1⟩ := owns_slice hR1.row
  subst eu1
  clear HR1 hR1 hnI
  go_wp2
  go_loopw [14, 15] (fun ss si wr => ∃ (i : Nat) (vs : List Value) (sss : List (List Int)), i ≤ 3 ∧ si = .int .i64 i ∧ LL wr w1.heap.size ss vs sss ∧ Hid (RowsN n sss) ∧ Hid (sss.length = i) ∧ Below w1.heap.size w1 wr) (fun _ si _ => 3 - (intOf si).toNat)
  case atStart => exact ⟨0, [], [], by omega, rfl, LL.nil _ _, (fun x hx => by cases hx), rfl, Below.refl _ _⟩
  case round =>
    obtain ⟨i, vs, sss, hi3, rfl, hLL, hSN, hSL, hbi⟩ := hrel
    have hBi := hB1.trans (hbi.mono hB1.size)
    go_wp2_with fail
    refine (pick_any a3 3 _ l3 r3 (by omega) (by omega)).mono ?_
    rintro ex wp ⟨k3, k3a, k3b, rfl, rfl⟩
    by_cases hik : (i : Int) < k3
    · have hi2 : i < 3 := by omega
      have HRo := hide (rrounds_ok n wr (by omega))
      have HLL := hide hLL
      have HBI := hide hbi
      obtain ⟨wo, hwo⟩ : ∃ wo, wo = wr := ⟨_, rfl⟩
      subst hwo
      clear hLL
      go_wp2_with fail
      refine HRo.out.mono ?_
      rintro ex w2 ⟨v2, rfl, hown2, hb2⟩
      have HO2 : Hid (w2.ownsRow wo.heap.size 3 1 v2 n ((cut n 1).map (Value.int .i64))) := by rw [cut_one h12]; exact hown2
      have HB2 := hide hb2
      clear hown2 hb2 HRo
      go_wp2
      go_loopw [16, 17] (fun sx sj wr => ∃ (j : Nat) (u : Value) (y : Pm), j ≤ 5 ∧ sx = u ∧ sj = .int .i64 j ∧ Hid (Fixes (fun b => n ≤ b) y) ∧ wr.ownsRow wo.heap.size 3 1 u n ((cut n y).map (Value.int .i64)) ∧ Below wo.heap.size wo wr) (fun _ sj _ => 5 - (intOf sj).toNat)
      case atStart => exact ⟨0, _, 1, by omega, rfl, rfl, (fixes_sub _).one, HO2.out, HB2.out⟩
      case round =>
        clear HO2 HB2
        obtain ⟨j, u, y, hj5, rfl, rfl, hyf, hown, hbj⟩ := hrel
        have hBj := hBi.trans (hbj.mono hBi.size)
        obtain ⟨pu, cu, epu⟩ := owns_slice hown
        by_cases hgo : j < 5 ∧ 0 < m
        · have g1 : (j : Int) < 5 := by omega
          have g2 : (0 : Int) < (m : Int) := by omega
          obtain ⟨K, hK⟩ : ∃ K, K = 7 * i + j := ⟨_, rfl⟩
          have hKI : (7 : Int) * (i : Int) + (j : Int) = (K : Int) := by omega
          have HRw := hide (raw_any (.slice p xs.length c) xs K wr (HI.out.below hBj) HX.out (by omega))
          have HO := hide hown
          have HBJ := hide hbj
          have HBJ1 := hide (HBI.out.trans (hbj.mono HBI.out.size))
          subst epu
          clear hown hbj hK
          go_wp2_with fail
          refine HRw.out.mono ?_
          rintro ex wp ⟨x, hx64, rfl, rfl⟩
          go_wp2_with fail
          refine (pick_any x m _ hx64.1 hx64.2 (by omega) (by omega)).mono ?_
          rintro ex wp ⟨k5, k5a, k5b, rfl, rfl⟩
          obtain ⟨q, rfl⟩ := Int.eq_ofNat_of_zero_le k5a
          have hqm : q < m := by omega
          obtain ⟨X, hX⟩ : ∃ X, gss[q]? = some X := ⟨_, List.getElem?_eq_getElem (by rw [HGL.out]; exact hqm)⟩
          obtain ⟨gg, og, epg, -, hg1, hg2, hg3, hg4⟩ := HA1.out.rowI (by rw [HGL.out]; omega)
          rw [HGL.out] at hg1
          subst epg
          obtain ⟨ux, hcx, hIx⟩ := hg4 q X hX
          obtain ⟨hXr, hXl⟩ := HGN.out X (List.mem_of_getElem? hX)
          have hcx' := (HBJ1.out.cell (p := ⟨gg, og + q, none⟩) hg3).trans hcx
          have hpf := pad_fixes h12 hXl hXr
          have HBy := hide (rcut_by n y (pad X) (.slice pu n cu) ux wr h1 h12 hyf.out hpf (Ints.own HO.out) (by rw [cut_pad h12 hXl hXr]; exact hIx.below HBJ1.out))
          have HYF : Hid (Fixes (fun b => n ≤ b) (y * pad X)) := (fixes_sub _).mul hyf.out hpf
          obtain ⟨px, cx, epx⟩ := hIx.form
          rw [hXl] at epx
          subst epx
          clear hg4 hIx hcx hX hXr hXl hpf k5a k5b hx64 HRw
          go_wp2_with fail
          refine HBy.out.mono ?_
          rintro ex w5 ⟨u5, rfl, hown5, hb5⟩
          have HO5 := hide (owns_base hown5 HBJ.out.size)
          have HB5 := hide (HBJ.out.trans (hb5.mono HBJ.out.size))
          clear hown5 hb5 HBy
          go_wp2
          go_roundw
          case rel =>
            have hfin : ∃ (j' : Nat) (u : Value) (y : Pm), j' ≤ 5 ∧ u5 = u ∧ Value.int .i64 ((j : Int) + 1) = .int .i64 (j' : Int) ∧ Hid (Fixes (fun b => n ≤ b) y) ∧ w5.ownsRow wo.heap.size 3 1 u n ((cut n y).map (Value.int .i64)) ∧ Below wo.heap.size wo w5 := ⟨j + 1, _, _, by omega, rfl, by go_num, HYF, HO5.out, HB5.out⟩
            first
              | exact hfin
              | ((repeat apply Exists.intro); exact ⟨hfin, rfl⟩)
          case measure => simp [intOf]; omega
        · have HL5 := hide (HLL.out.below hbj)
          have hrow := HL5.out.row
          have HRow := hide hrow
          have HU : Hid (wr.ownsRow w1.heap.size 3 1 (.slice pu n cu) (cut n y).length ((cut n y).map (Value.int .i64))) := by rw [cut_length h12, ← epu]; exact owns_base hown HBI.out.size
          have HYF := hyf
          have HSN2 : Hid (RowsN n (sss ++ [cut n y])) := fun z hz => by
            rcases List.mem_append.1 hz with hz | hz
            · exact hSN.out z hz
            · rw [List.mem_singleton.1 hz]; exact ⟨cut_row h12 hyf.out, cut_length h12 y⟩
          have HSL2 : Hid ((sss ++ [cut n y]).length = i + 1) := by show _ = _; rw [List.length_append, hSL.out]; rfl
          have HBJ := hide (HBI.out.trans (hbj.mono HBI.out.size))
          have hvl : vs.length = i := by rw [HL5.out.len]; exact hSL.out
          have hs1 := HBJ.out.size
          rw [hvl] at HRow
          have HVL := hide hvl
          subst epu
          clear hown hbj hBj hrow hvl hSN hSL
          have hcase : (j : Int) < 5 ∧ ¬ (0 : Int) < (m : Int) ∨ ¬ (j : Int) < 5 := by omega
          rcases hcase with ⟨g1, g2⟩ | g1 <;>
          · go_wp2_with (at_builtin; refine wpList_append_own _ rfl _ _ 22 rfl w1.heap.size 23 i0 (.slice none 0 0) 1 24 Try.underlying22 hi hz0 hz1 hz2 rfl (by decide) _ i vs rfl (HRow.out.alloc _) ⟨wr.heap.size, 0, none⟩ 1 1 [.slice pu n cu] rfl rfl (cell_one_new _ _ _) (by intro u hu; simp at hu; subst hu; rfl) (by unfold maxLen; omega) (by omega) (by simp; omega) ?_)
            intro v6 w6 hown6 hg6 _
            have HL6 := hide (HL5.out.push HU.out (by rw [HVL.out]; exact hown6) hg6)
            have HB6 := hide (HL5.out.step HBJ.out (Nat.le_refl _) HBJ.out.size hg6)
            clear hown6 hg6 HRow
            go_wp2
            go_roundw
            case rel =>
              have hfin : ∃ (i' : Nat) (vs : List Value) (sss : List (List Int)), i' ≤ 3 ∧ Value.int .i64 ((i : Int) + 1) = .int .i64 (i' : Int) ∧ LL w6 w1.heap.size v6 vs sss ∧ Hid (RowsN n sss) ∧ Hid (sss.length = i') ∧ Below w1.heap.size w1 w6 := ⟨i + 1, _, _, hi2, by go_num, HL6.out, HSN2, HSL2, HB6.out⟩
              first
                | exact hfin
                | ((repeat apply Exists.intro); exact ⟨hfin, rfl⟩)
            case measure => simp [intOf]; omega
    · have hik' : ¬ (i : Int) < k3 := hik
      have HSI := hide hLL.ints
      have HAi := hide (HA1.out.below hbi)
      have HBi := hide hBi
      clear hLL hbi
      cases od
      · have HRo := hide (rowOf_ok a4 n wr HI4.out h12)
        go_wp2_with fail
        refine HRo.out.mono ?_
        rintro ex w2 ⟨vk, X, rfl, -, -, hown, hb2⟩
        have HCS := hide (cosetSays_any n (.slice gp m gc) _ vk gss sss X w2 (HAi.out.below hb2) (HSI.out.below hb2) (Ints.own hown))
        have HB2 := hide (HBi.out.trans (hb2.mono HBi.out.size))
        clear hown hb2 HRo
        go_wp2_with fail
        refine HCS.out.mono ?_
        rintro ex w3 ⟨rfl, hb3⟩
        have HB3 := hide (HB2.out.trans (hb3.mono HB2.out.size))
        clear hb3
        go_wp2
        go_ret
        exact ⟨rfl, HB3.out⟩
      · have HR5 : Hid (Calls Try.prog 27 #[.slice p xs.length c, .int .i64 5, .int .i64 n, .int .i64 1] wr fun e w' => ∃ u vs xss, e = .returned u ∧ RowsRel wr w' n 1 u vs xss) := rowsOf_ok2 (.slice p xs.length c) xs 5 n 1 wr (HI.out.below hBi) HX.out (by omega) h1 h12 (by omega)
        go_wp2_with fail
        refine HR5.out.mono ?_
        rintro ex w2 ⟨u2, vs2, tss, rfl, hR2⟩
        have hb2 := hR2.below
        have HT2 := hide hR2.all'.1
        have HA2 := hide (HAi.out.below hb2)
        have HB2 := hide (HBi.out.trans (hb2.mono HBi.out.size))
        have HRo := hide (rowOf_ok a4 n w2 HI4.out h12)
        clear hR2 hb2 HR5
        go_wp2_with fail
        refine HRo.out.mono ?_
        rintro ex w4 ⟨vk, X, rfl, -, -, hown, hb4⟩
        have HCS := hide (cosetSays_any n (.slice gp m gc) u2 vk gss tss X w4 (HA2.out.below hb4) (HT2.out.below hb4) (Ints.own hown))
        have HB4 := hide (HB2.out.trans (hb4.mono HB2.out.size))
        clear hown hb4 HRo
        go_wp2_with fail
        refine HCS.out.mono ?_
        rintro ex w3 ⟨rfl, hb3⟩
        have HB3 := hide (HB4.out.trans (hb3.mono HB4.out.size))
        clear hb3
        go_wp2
        go_ret
        exact ⟨rfl, HB3.out⟩

theorem cosetMade_walk (v : Value) (xs : List Int) (a1 a2 a3 a4 : Int) (t : Bool) (w : World) (h : Ints w v xs) (hx : ∀ x, x ∈ xs → I64 x) (i1 : I64 a1) (i2 : I64 a2) (i3 : I64 a3) (i4 : I64 a4) :
    Calls Try.prog 6 #[v, .int .i64 a1, .int .i64 a2, .int .i64 a3, .int .i64 a4, .bool t] w fun e w' => e = .returned (.bool true) ∧ Below w.heap.size w w' := by
  by_cases hl : 256 < xs.length
  · exact cosetMade_long v xs a1 a2 a3 a4 t w h hl
  · exact cosetMade_ok v xs a1 a2 a3 a4 t w h hx (by omega) i1 i2 i3 i4

end Go.Proofs.Ytimfoggjocajiaa
