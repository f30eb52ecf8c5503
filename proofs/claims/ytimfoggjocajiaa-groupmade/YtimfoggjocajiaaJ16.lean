/- Joined: GrF, GMay, May, GrG, GrH, GrI, GrJ, TtC, GrK. -/
import Derived.Test.YtimfoggjocajiaaJ15
import Derived.Test.YtimfoggjocajiaaJ5
import Derived.Test.YtimfoggjocajiaaJ2
/- The walk of groupRows where the group's rows are told: the next way. -/
namespace Go.Proofs.Ytimfoggjocajiaa
open Go.RowKit

set_option maxRecDepth 20000 in
set_option maxHeartbeats 8000000 in
theorem groupRows_c (v vg vr : Value) (n : Nat) (gss : List (List Int)) (xs : List Int) (bell : Int) (w : World) (h : GLaw w v vg vr n gss xs) (hz : rchk n xs = 0) (hg : Gen (fun y => y ∈ gss.map pad) (pad xs)) (hs : sz (Gen (fun y => y ∈ gss.map pad)) n ≤ 5040) :
    Calls Try.prog 25 #[v, .int .i64 n, vg, vr, .int .i64 0, .int .i64 bell, .int .i64 ((sz (Gen (fun y => y ∈ gss.map pad)) n : Nat) : Int)] w fun e w' => Told w e w' := by
  have h12 := h.twelve
  have h1 := h.one
  have h8 := h.eight
  have q1 := run_ptr_ne
  have q2 := run_ptr_nil
  obtain ⟨i0, hi, hz0, hz1, hz2⟩ := info_parts Try.info23
  have hgl : (gss.map pad).length ≤ 1000000 := by rw [List.length_map]; omega
  have HGL := hide hgl
  have HG := hide h.grp
  have HGR := hide h.rows
  have HXr := hide h.row
  have HW := hide (word_ok n v vr (gss.map pad) xs w h12 hgl h.grp h.row)
  have HE : Hid (∀ w', Below w.heap.size w w' → Calls Try.prog 56 #[v] w' fun e w'' => ElPost n (gss.map pad) w' e w'') := fun w' hb => elements_ok n v _ w' h12 (h.grp.below hb (Nat.le_refl _))
  have HCd : Hid (∀ w', Below w.heap.size w w' → Calls Try.prog 31 #[.int .i64 n, vg, .int .i64 5040] w' fun e w'' => ClosedPost n gss 5040 w' e w'') := fun w' hb => closed_ok n 5040 vg gss w' (h.gens.below hb) h.rows h1 h12 (by omega) (by omega) (by omega)
  have HO : Hid (∀ w', Below w.heap.size w w' → Calls Try.prog 53 #[v] w' fun e w'' => ∃ (u : Value) (vs : List Value), e = .returned u ∧ LL w'' w'.heap.size u vs ((orbsTo (gss.map pad) n n).map natI) ∧ Below w'.heap.size w' w'') := fun w' hb => orbits_ok n v _ w' h12 (h.grp.below hb (Nat.le_refl _))
  have HS := hide hs
  have HZ := hide hz
  obtain ⟨hxr, hxl, _, _⟩ := rchk_zero hz
  have HXR := hide hxr
  have HXL := hide hxl
  have HGEN := hide hg
  clear hxr hxl hg
  generalize hsz : sz (Gen (fun y => y ∈ gss.map pad)) n = z at *
  have HSZ := hide hsz
  have hsI : ¬ ((5040 : Int) < (z : Int)) := by omega
  clear h hsz hgl hz
  go_enter Try.func25, Try.ntmps25
  go_wp2_with fail
  refine HW.out.mono ?_
  rintro ex w1 ⟨hb1, hpost⟩
  obtain ⟨vd, wd, iw, Sw, rfl, hrun, hmem, hown⟩ : ∃ (u : Value) (wd : List Int) (i : Nat) (S : List (Pm × List Int)), ex = .returned (.tuple #[u, .int .i64 0]) ∧ Run (glet 0 (gss.map pad)) i S ∧ (pad xs, wd) ∈ S ∧ w1.ownsRow w.heap.size 3 1 u wd.length (wd.map (Value.int .i64)) := by
    rcases hpost with h | h | h | h
    · exact absurd HZ.out h.1
    · exact absurd HGEN.out h.2.1
    · have := h.2.2.1; rw [HSZ.out] at this; have := HS.out; omega
    · exact h.2.2.2
  rw [letters_glet] at hrun
  have HRw := hide hrun
  have HMw := hide hmem
  have HWd := hide (Ints.own hown)
  clear hrun hmem hown
  clear hpost HW
  go_wp2_with fail
  refine (HE.out w1 hb1).mono ?_
  rintro ex w2 ⟨hb2, hpost⟩
  rw [HSZ.out, if_neg (by have := HS.out; omega)] at hpost
  obtain ⟨ve, vse, X, rfl, hXl, hXn, hXm, hXs, hLE⟩ := hpost
  have hB2 := hb1.trans (hb2.mono hb1.size)
  have HLE := hide hLE.ints
  have HWd2 := hide (HWd.out.below hb2)
  clear hLE hb1 hb2
  go_wp2_with fail
  refine (HCd.out w2 hB2).mono ?_
  rintro ex w3 ⟨hb3, hpost⟩
  obtain ⟨vrs, vws, S, rfl, hAr, hAw, hF⟩ : ∃ vr vw S, ex = .returned (.tuple #[vr, vw]) ∧ IntsAll w3 vr (S.map (fun e => cut n e.1)) ∧ IntsAll w3 vw (S.map (·.2)) ∧ Found n gss S := by
    rcases hpost with ⟨vr, vw, S, h1', h2', h3', h4', _⟩ | ⟨_, S, h1', h2'⟩
    · exact ⟨vr, vw, S, h1', h2', h3', Found.of h12 HGR.out h4'⟩
    · have := found_few h12 HGR.out h1'
      rw [HSZ.out] at this
      have := HS.out
      omega
  have hSl : S.length = z := by rw [← HSZ.out]; exact hF.size h12
  have HF := hide hF
  have hB3 := hB2.trans (hb3.mono hB2.size)
  have HXF : Hid (∀ x, x ∈ X → Fixes (fun b => n ≤ b) x) := fun x hx => gens_fix h12 HGR.out ((hXm x).1 hx)
  have HOrd := hide (rordered_all vrs _ w3 hAr (by rw [List.length_map]; have := HS.out; omega) (fun r hr => by have := (hF.rows h12 r hr).1; omega))
  obtain ⟨R, hR⟩ : ∃ R, R = S.map (fun e => cut n e.1) := ⟨_, rfl⟩
  rw [← hR] at hAr HOrd
  have hRl : R.length = z := by rw [hR, List.length_map]; exact hSl
  have HRows : Hid (∀ r, r ∈ R → r.length = n ∧ ∀ j, j < n → ∃ m : Nat, m < n ∧ r.getD j 0 = (m : Int)) := by
    show ∀ r, r ∈ R → _
    rw [hR]; exact hF.rows h12
  have HR := hide hR
  have HRL := hide hRl
  have HSL := hide hSl
  have HAr := hide hAr
  have HAw := hide hAw
  have HLE3 := hide (HLE.out.below hb3)
  have HXM := hide hXm
  have HXS := hide hXs
  have HXN := hide hXn
  have HWd3 := hide (HWd2.out.below hb3)
  clear HWd2 HWd
  clear hpost hAr hAw hF hR hRl hSl hXm hXs hXn hXl hb3 HLE HCd HE
  go_wp2_with fail
  refine HOrd.out.mono ?_
  rintro ex w4 ⟨vo, Y, rfl, hAo, hYp, hYs, hb4⟩
  have hYe : X.map (cut n) = Y := group_ordered h12 HXF.out HXN.out HXS.out HF.out.nodup (fun x => (HXM.out x).trans (HF.out.mem x).symm) (by rw [HR.out]; exact Found.cuts n S) hYp hYs
  have HSa := hide (sameAll_any ve vo (X.map (cut n)) Y w4 (HLE3.out.below hb4) hAo)
  rw [decide_eq_true hYe] at HSa
  have hB4 := hB3.trans (hb4.mono hB3.size)
  have HB34 := hide hb4
  clear hAo hYp hYs hYe hb4 HOrd HLE3
  go_wp2_with fail
  refine HSa.out.mono ?_
  rintro ex w5 ⟨rfl, hb5⟩
  have hB5 := hB4.trans (hb5.mono hB4.size)
  have HB35 := hide (HB34.out.trans (hb5.mono HB34.out.size))
  clear hb5 HSa hB4 HB34
  go_wp2_with fail
  refine (HO.out w5 hB5).mono ?_
  rintro ex w6 ⟨vob, vobs, rfl, hLO, hb6⟩
  have hB6 := hB5.trans (hb6.mono hB5.size)
  have HB36 := hide (HB35.out.trans (hb6.mono HB35.out.size))
  have HRo := hide (rorbits_ok n vrs R w6 (HAr.out.below HB36.out) h1 h12 HRows.out (by rw [HRL.out]; have := HS.out; omega) (by rw [HRL.out, ← HSL.out]; exact HF.out.pos))
  have HLO := hide hLO.ints
  clear hLO hb6 hB5 HB35 HO
  go_wp2_with fail
  refine HRo.out.mono ?_
  rintro ex w7 ⟨vro, vros, rfl, hLR, hb7⟩
  have hB7 := hB6.trans (hb7.mono hB6.size)
  have HB37 := hide (HB36.out.trans (hb7.mono HB36.out.size))
  have HSb := hide (sameAll_any vob vro _ _ w7 (HLO.out.below hb7) hLR.ints)
  have hoe : (orbsTo (gss.map pad) n n).map natI = (rorbsTo R n n).map natI := by rw [HR.out, HF.out.orbits h12]
  rw [decide_eq_true hoe] at HSb
  clear hLR hb7 hB6 HRo HLO hoe HB36
  go_wp2_with fail
  refine HSb.out.mono ?_
  rintro ex w8 ⟨rfl, hb8⟩
  have hB8 := hB7.trans (hb8.mono hB7.size)
  have hB38 := HB37.out.trans (hb8.mono HB37.out.size)
  have hs8 := hB8.size
  have HB8 := hide hB8
  have hAr8 := HAr.out.below hB38
  have hAw8 := HAw.out.below hB38
  have hzp : 1 ≤ z := by rw [← HSL.out]; exact HF.out.pos
  have hz5 : z ≤ 5040 := HS.out
  obtain ⟨pr, Nr, cr, rfl⟩ : ∃ p N c, vrs = .slice p N c := by obtain ⟨p, c, e⟩ := hAr8.len; exact ⟨p, _, c, e⟩
  obtain ⟨gr, offr, rfl, hNr, hcr1, hcr2, hgr, hcell⟩ := hAr8.rowI (by rw [HRL.out]; exact hzp)
  rw [HRL.out] at hNr hcr1
  have hNr' := hNr.symm
  subst hNr'
  obtain ⟨pw, Nw, cw, rfl⟩ : ∃ p N c, vws = .slice p N c := by obtain ⟨p, c, e⟩ := hAw8.len; exact ⟨p, _, c, e⟩
  obtain ⟨gw, offw, rfl, hNw, hcw1, hcw2, hgw, hcellw⟩ := hAw8.rowI (by rw [List.length_map, HSL.out]; exact hzp)
  rw [List.length_map, HSL.out] at hNw hcw1
  have hNw' := hNw.symm
  subst hNw'
  have HCL := hide hcell
  have HCW := hide hcellw
  have HX8 := hide (HXr.out.below hB8)
  have HG8 := hide (HG.out.below hB8 (Nat.le_refl _))
  have HWd8 := hide (HWd3.out.below hB38)
  obtain ⟨pd, cd, evd⟩ := HWd8.out.form
  subst evd
  obtain ⟨k0, e0, hk0, he0, hkk⟩ := HF.out.at h12 HXR.out HXL.out HGEN.out
  have hk0z : k0 < z := by rw [← HSL.out]; exact (List.getElem?_eq_some_iff.1 hk0).1
  have hwe : wd = e0.2 := pair_eq HF.out.nodup (HRw.out.full HF.out.run (Nat.le_refl _) HMw.out) (by rw [← he0]; exact List.mem_of_getElem? hk0)
  obtain ⟨uw, hcuw, hiuw⟩ := HCW.out k0 e0.2 (by rw [List.getElem?_map, hk0]; rfl)
  rw [← hwe] at hiuw
  have HUW := hide hiuw
  have HKK : Hid (∀ (i : Nat) (r : List Int), R[i]? = some r → (r = xs ↔ i = k0)) := fun i r hr => by
    rw [HR.out, List.getElem?_map] at hr
    obtain ⟨d, hd, rfl⟩ := Option.map_eq_some_iff.1 hr
    exact hkk i d hd
  clear hwe hiuw hkk hk0 he0 HWd3 HRw HMw
  clear hcell hcellw hAr8 hAw8 hB38 hb8 hB8 hB7 hB2 hB3 HSb HB37 HAr HAw
  go_wp2
  go_loopw [21, 22] (fun sa si wr => ∃ (i : Nat) (a : Int), i ≤ z ∧ sa = .int .i64 a ∧ si = .int .i64 i ∧ Hid (a = if k0 < i then (k0 : Int) else -1) ∧ Below w8.heap.size w8 wr) (fun _ si _ => z - (intOf si).toNat)
  case atStart => exact ⟨0, -1, Nat.zero_le _, rfl, rfl, rfl, Below.refl _ _⟩
  case round =>
    obtain ⟨i, a, hiz, rfl, rfl, ha, hbw⟩ := hrel
    by_cases hit : i < z
    · obtain ⟨r, hr⟩ : ∃ r, R[i]? = some r := ⟨_, List.getElem?_eq_getElem (by rw [HRL.out]; exact hit)⟩
      obtain ⟨u2, hcu, hiu⟩ := HCL.out i r hr
      have hcu' := (hbw.cell (p := ⟨gr, offr + i, none⟩) hgr).trans hcu
      have HSm := hide (same_any u2 vr r xs wr (hiu.below hbw) (HX8.out.below hbw))
      have hsw := hbw.size
      by_cases hik : i = k0
      · rw [decide_eq_true ((HKK.out i r hr).2 hik)] at HSm
        have HA2 : Hid ((i : Int) = if k0 < i + 1 then (k0 : Int) else -1) := by show _ = _; rw [if_pos (by omega)]; omega
        clear hcu hiu hr hik
        go_wp2_with fail
        refine HSm.out.mono ?_
        rintro ex w9 ⟨rfl, hb9⟩
        have HB9 := hide (hbw.trans (hb9.mono hsw))
        clear hb9 hbw HSm
        go_wp2
        go_roundw
        case rel =>
          have hfin : ∃ (i' : Nat) (a : Int), i' ≤ z ∧ Value.int .i64 (i : Int) = .int .i64 a ∧ Value.int .i64 ((i : Int) + 1) = .int .i64 (i' : Int) ∧ Hid (a = if k0 < i' then (k0 : Int) else -1) ∧ Below w8.heap.size w8 w9 := ⟨i + 1, _, hit, rfl, by go_num, HA2, HB9.out⟩
          first
            | exact hfin
            | ((repeat apply Exists.intro); exact ⟨hfin, rfl⟩)
        case measure => simp [intOf]; omega
      · rw [decide_eq_false (fun h => hik ((HKK.out i r hr).1 h))] at HSm
        have HA2 : Hid (a = if k0 < i + 1 then (k0 : Int) else -1) := by
          show _ = _
          rw [ha.out]
          by_cases hlt : k0 < i
          · rw [if_pos hlt, if_pos (by omega)]
          · rw [if_neg hlt, if_neg (by omega)]
        clear hcu hiu hr ha hik
        go_wp2_with fail
        refine HSm.out.mono ?_
        rintro ex w9 ⟨rfl, hb9⟩
        have HB9 := hide (hbw.trans (hb9.mono hsw))
        clear hb9 hbw HSm
        go_wp2
        go_roundw
        case rel =>
          have hfin : ∃ (i' : Nat) (a' : Int), i' ≤ z ∧ Value.int .i64 a = .int .i64 a' ∧ Value.int .i64 ((i : Int) + 1) = .int .i64 (i' : Int) ∧ Hid (a' = if k0 < i' then (k0 : Int) else -1) ∧ Below w8.heap.size w8 w9 := ⟨i + 1, _, hit, rfl, by go_num, HA2, HB9.out⟩
          first
            | exact hfin
            | ((repeat apply Exists.intro); exact ⟨hfin, rfl⟩)
        case measure => simp [intOf]; omega
    · obtain rfl : z = i := by omega
      have hak : a = (k0 : Int) := by rw [ha.out, if_pos hk0z]
      subst hak
      have hcw' := (hbw.cell (p := ⟨gw, offw + k0, none⟩) hgw).trans hcuw
      have HSm := hide (same_any _ uw wd wd wr (HWd8.out.below hbw) (HUW.out.below hbw))
      rw [decide_eq_true rfl] at HSm
      have hk0I : ¬ ((k0 : Int) < 0) := by omega
      have hsw := hbw.size
      go_wp2_with fail
      refine HSm.out.mono ?_
      rintro ex W ⟨rfl, hb9⟩
      replace hbw := hbw.trans (hb9.mono hsw)
      clear hb9 HSm hcw' ha
      rcases (show bell < 0 ∨ (n : Int) ≤ bell ∨ (0 ≤ bell ∧ bell < (n : Int)) by omega) with hbl | hbl | hbl
      · have HSt := hide (still_low n bell v (gss.map pad) W hbl (HG8.out.below hbw (Nat.le_refl _)))
        go_wp2_with fail
        refine HSt.out.mono ?_
        rintro ex w13 ⟨rfl, hb13⟩
        have HBf := hide (HB8.out.trans ((hbw.trans (hb13.mono hbw.size)).mono hs8))
        clear hb13
        go_wp2
        go_ret
        exact ⟨rfl, HBf.out⟩
      · have hbl0 : ¬ bell < 0 := by omega
        have HSt := hide (still_high n bell v (gss.map pad) W h12 hbl (HG8.out.below hbw (Nat.le_refl _)))
        go_wp2_with fail
        refine HSt.out.mono ?_
        rintro ex w13 ⟨rfl, hb13⟩
        have HBf := hide (HB8.out.trans ((hbw.trans (hb13.mono hbw.size)).mono hs8))
        clear hb13
        go_wp2
        go_ret
        exact ⟨rfl, HBf.out⟩
      · obtain ⟨bl, rfl⟩ := Int.eq_ofNat_of_zero_le hbl.1
        have hbn' : bl < n := by omega
        have hd0 : decide ((bl : Int) < 0) = false := decide_eq_false (by omega)
        have hd1 : decide (n ≤ bl) = false := decide_eq_false (by omega)
        have hd2 : decide ((n : Int) ≤ (bl : Int)) = false := decide_eq_false (by omega)
        have HSt := hide (still_ok n bl v (gss.map pad) W h1 h12 hbn' HGL.out (HG8.out.below hbw (Nat.le_refl _)))
        clear hbl
        go_wp2_with fail
        refine HSt.out.mono ?_
        rintro ex w13 ⟨v13, hsg, rfl, hGS, hst, hb13⟩
        have hB13 : Below w8.heap.size w8 w13 := hbw.trans (hb13.mono hbw.size)
        have HGS := hide hGS
        have HSTA := hide hst
        obtain ⟨gb2, _, _, _, _, _, _, rfl, _⟩ := hGS
        have HCL13 : Hid (∀ i r, R[i]? = some r → ∃ u, w13.cell? ⟨gr, offr + i, none⟩ = some u ∧ Ints w13 u r) := fun i r hr => by
          obtain ⟨u, h1', h2'⟩ := HCL.out i r hr
          exact ⟨u, (hB13.cell (p := ⟨gr, offr + i, none⟩) hgr).trans h1', h2'.below hB13⟩
        have HB13 := hide (HB8.out.trans (hB13.mono hs8))
        have hgr13 : gr < w13.heap.size := Nat.lt_of_lt_of_le hgr hB13.size
        clear hst hb13 hB13 HSt hbw HCL HCW hgr
        go_wp2
        go_loopw [25, 26] (fun su si wr => ∃ (i : Nat) (u : Value) (vs : List Value), i ≤ z ∧ su = u ∧ si = .int .i64 i ∧ StayR w13 wr u vs bl i R) (fun _ si _ => z - (intOf si).toNat)
        case atStart => exact ⟨0, _, [], Nat.zero_le _, rfl, rfl, StayR.start w13 bl R⟩
        case round =>
          obtain ⟨i, u, vs, hiz, rfl, rfl, hSR⟩ := hrel
          have hsr := hSR.below.size
          by_cases hit : i < z
          · obtain ⟨r, hr⟩ : ∃ r, R[i]? = some r := ⟨_, List.getElem?_eq_getElem (by rw [HRL.out]; exact hit)⟩
            obtain ⟨u2, hcu, hiu⟩ := HCL13.out i r hr
            obtain ⟨hrl, hrm⟩ := HRows.out r (List.mem_of_getElem? hr)
            obtain ⟨m, hmn, hm⟩ := hrm bl hbn'
            have hcu' := (hSR.below.cell (p := ⟨gr, offr + i, none⟩) hgr13).trans hcu
            have HIU := hide hiu
            obtain ⟨p2, c2, e2⟩ := hiu.form
            subst e2
            obtain ⟨b2, o2, rfl, hl1, hl2, hl3, hl4⟩ := hiu.open (by omega)
            have hcm := (hSR.below.cell (p := ⟨b2, o2 + bl, none⟩) hl3).trans (hl4 bl (by omega))
            rw [hm] at hcm
            have HRI := hide hr
            have HM := hide hm
            have HSR := hide hSR
            rw [hrl] at hcu' hl1
            have HRLN := hide hrl
            have hvl : vs.length ≤ 5040 := by
              have h1' := hSR.len
              have h2' := stayL_length bl (R.take i)
              rw [List.length_take] at h2'
              omega
            clear hcu hiu hrm hm hr hl4 hSR hrl
            by_cases hmb : m = bl
            · have HM2 : Hid (r.getD bl 0 = (bl : Int)) := by show _ = _; rw [HM.out, hmb]
              rw [hmb] at hcm
              clear HM hmb hmn
              have HIU' : Hid (Ints w13 (.slice (some ⟨b2, o2, none⟩) n c2) r) := by show Ints _ _ _; have := HIU.out; rw [HRLN.out] at this; exact this
              have HrS := hide HSR.out.row
              go_wp2_with (at_builtin; go_loud (refine wpList_append_own _ rfl _ _ 22 rfl w13.heap.size 23 i0 (.slice none 0 0) 1 24 Try.underlying22 hi hz0 hz1 hz2 rfl (by decide) _ _ _ rfl (HrS.out.alloc _) ⟨wr.heap.size, 0, none⟩ 1 1 [.slice (some ⟨b2, o2, none⟩) n c2] rfl rfl ?d1 ?d2 ?d3 ?d4 ?d5 ?_))
              case d1 => exact cell_one_new _ _ _
              case d2 => intro u hu; simp at hu; subst hu; rfl
              case d3 => unfold maxLen; omega
              case d4 => omega
              case d5 => simp; omega
              intro v9 w9 hown9 hg9 _
              have HS9 := hide (HSR.out.more HRI.out HM2.out HIU'.out hown9 hg9)
              clear hown9 hg9
              go_wp2
              go_roundw
              case rel =>
                have hfin : ∃ (i' : Nat) (u : Value) (vs : List Value), i' ≤ z ∧ v9 = u ∧ Value.int .i64 ((i : Int) + 1) = .int .i64 (i' : Int) ∧ StayR w13 w9 u vs bl i' R := ⟨i + 1, _, _, hit, rfl, by go_num, HS9.out⟩
                first
                  | exact hfin
                  | ((repeat apply Exists.intro); exact ⟨hfin, rfl⟩)
              case measure => simp [intOf]; omega
            · have hmbI : ¬ (m : Int) = (bl : Int) := by omega
              have HS9 := hide (HSR.out.same HRI.out (by rw [HM.out]; exact hmbI))
              go_wp2
              go_roundw
              case rel =>
                have hfin : ∃ (i' : Nat) (u : Value) (vs : List Value), i' ≤ z ∧ u25 = u ∧ Value.int .i64 ((i : Int) + 1) = .int .i64 (i' : Int) ∧ StayR w13 wr u vs bl i' R := ⟨i + 1, _, vs, hit, rfl, by go_num, HS9.out⟩
                first
                  | exact hfin
                  | ((repeat apply Exists.intro); exact ⟨hfin, rfl⟩)
              case measure => simp [intOf]; omega
          · obtain rfl : i = z := by omega
            have hRi := HRL.out
            have hdn : StayR w13 wr u25 vs bl R.length R := by rw [hRi]; exact hSR
            have HAst := hide hdn.done
            have hb14 := hSR.below
            have HB14 := hide (HB13.out.trans (hb14.mono HB13.out.size))
            have HGS14 := hide (HGS.out.below hb14 (Nat.le_refl _))
            have HEl := hide (elements_ok n _ hsg wr h12 HGS14.out)
            have hszh : sz (Gen (fun y => y ∈ hsg)) n ≤ 5040 := by
              refine Nat.le_trans (sz_mono (H := Gen (fun y => y ∈ gss.map pad)) (fun x hx => ((HSTA.out x).1 hx).1) h12) ?_
              rw [HSZ.out]; exact HS.out
            have HSH := hide hszh
            clear hdn hSR hb14 hszh hRi
            go_wp2_with fail
            refine HEl.out.mono ?_
            rintro ex w15 ⟨hb15, hpost⟩
            rw [if_neg (by have := HSH.out; omega)] at hpost
            obtain ⟨vx, vxs, XX, rfl, hXl, hXn, hXm, hXs, hLX⟩ := hpost
            have HB15 := hide (HB14.out.trans (hb15.mono HB14.out.size))
            have HGb := hide (gbells_ok n _ hsg w15 (HGS14.out.below hb15 (Nat.le_refl _)))
            have HLX := hide hLX.ints
            have HAs2 := hide (HAst.out.below hb15)
            have HXN := hide hXn
            have HXM := hide hXm
            have HXS := hide hXs
            clear hXl hXn hXm hXs hLX hb15 HEl HAst
            go_wp2_with fail
            refine HGb.out.mono ?_
            rintro ex w16 ⟨rfl, hw16⟩
            subst hw16
            have HOd := hide (rordered_all u25 (stayL bl R) w15 HAs2.out (by have h1' := stayL_length bl R; rw [HRL.out] at h1'; omega) (fun r hr => by have h1' := (HRows.out r ((List.mem_filter.1 hr).1)).1; omega))
            clear HGb HAs2
            go_wp2_with fail
            refine HOd.out.mono ?_
            rintro ex w17 ⟨vo, Y, rfl, hAo, hYp, hYs, hb17⟩
            have HB17 := hide (HB15.out.trans (hb17.mono HB15.out.size))
            have hYe : XX.map (cut n) = Y := by
              refine group_ordered (S := (S.map (·.1)).filter (fun x => decide (x.act bl = bl))) h12 (fun x hx => ?_) HXN.out HXS.out (HF.out.nodup.sublist List.filter_sublist) (fun x => ?_) (R := stayL bl R) ?_ hYp hYs
              · exact gens_fix h12 HGR.out ((HSTA.out x).1 ((HXM.out x).1 hx)).1
              · rw [HXM.out, HSTA.out, List.mem_filter, decide_eq_true_iff, HF.out.mem]
              · rw [HR.out, Found.cuts, stayL_cut h12 hbn']
            have HSc := hide (sameAll_any vx vo (XX.map (cut n)) Y w17 (HLX.out.below hb17) hAo)
            rw [decide_eq_true hYe] at HSc
            clear hAo hYp hYs hYe hb17 HOd HLX
            go_wp2_with fail
            refine HSc.out.mono ?_
            rintro ex w18 ⟨rfl, hb18⟩
            have HB18 := hide (HB17.out.trans (hb18.mono HB17.out.size))
            clear hb18 HSc
            go_wp2
            go_ret
            exact ⟨rfl, HB18.out⟩

end Go.Proofs.Ytimfoggjocajiaa

/- Contracts: GensMay, the answer's own; Check where it refuses. -/
namespace Go.Proofs.Ytimfoggjocajiaa
open Go.RowKit

set_option maxRecDepth 20000 in
set_option maxHeartbeats 2000000 in
theorem gensMay_ok (n : Nat) (v : Value) (xss : List (List Int)) (w : World) (h : IntsAll w v xss) (h1 : 1 ≤ n) (h12 : n ≤ 12) (h8 : xss.length ≤ 8) :
    Calls Try.prog 15 #[.int .i64 n, v] w fun e w' => e = .returned (.int .i64 (gchk n xss)) ∧ w = w' := by
  obtain ⟨vs, hv, hl, he⟩ := h
  have hn1 : ¬ ((n : Int) < 1) := by omega
  have hn2 : ¬ ((n : Int) > 12) := by omega
  rcases hv with ⟨rfl, p, c, rfl⟩ | ⟨b, off, cap, rfl, h0, hc, hm, hb, hcell⟩
  · obtain rfl : xss = [] := List.length_eq_zero_iff.1 (by simpa using hl.symm)
    clear he hl
    go_enter Try.func15, Try.ntmps15
    go_wp2
    go_loop [5] (fun i => i = .int .i64 0) (fun _ => 0)
    case atStart => rfl
    case round =>
      subst hrel
      go_wp2
      go_ret
      exact ⟨rfl, rfl⟩
  · have hv8 : (vs.length : Int) ≤ 8 := by omega
    have HL := hide hl
    have HE := hide he
    have HC := hide hcell
    clear hl he hcell
    go_enter Try.func15, Try.ntmps15
    go_wp2
    go_loop [5] (fun i => ∃ k : Nat, k ≤ vs.length ∧ i = .int .i64 k ∧ Hid (gchk n (xss.drop k) = gchk n xss)) (fun i => vs.length - (intOf i).toNat)
    case atStart => exact ⟨0, by omega, rfl, rfl⟩
    case round =>
      obtain ⟨k, hk, rfl, ht⟩ := hrel
      by_cases hlt : k < vs.length
      · have hkx : k < xss.length := by have := HL.out; omega
        obtain ⟨p1, c1, hcx, hix⟩ := elAt HC.out hlt (HE.out k hkx)
        have HS := hide (rowMay_any _ _ w hix.out)
        have HD := hide (gchk_drop (n := n) hkx)
        rw [ht.out] at HD
        generalize xss.getD k [] = X at *
        generalize hlx : X.length = lx at *
        have HLX := hide hlx
        clear hix hlx
        go_wp2_with fail
        refine HS.out.mono ?_
        rintro e w1 ⟨rfl, rfl⟩
        by_cases hz : chk X = 0
        · by_cases hn : lx = n
          · have hr : rchk n X = 0 := by unfold rchk; rw [if_pos hz, if_pos (by rw [HLX.out]; exact hn)]
            have HD' : Hid (gchk n (xss.drop (k + 1)) = gchk n xss) := by have := HD.out; rw [if_pos hr] at this; exact this.symm
            rw [hz]
            subst hn
            clear HD HS hz hr
            go_wp2
            go_round
            case rel => exact ⟨k + 1, by omega, by go_num, HD'⟩
            case measure => simp [intOf]; omega
          · have hr : rchk n X = 1 := by unfold rchk; rw [if_pos hz, if_neg (by rw [HLX.out]; exact hn)]
            have HD' : Hid (gchk n xss = 1) := by have := HD.out; rw [hr, if_neg (by decide)] at this; exact this
            have hnn : ((lx : Int) != (n : Int)) = true := by rw [bne_iff_ne]; omega
            rw [hz]
            clear HD HS hz hr hn
            go_wp2
            go_ret
            exact ⟨ret_int HD'.out.symm, rfl⟩
        · have hr : rchk n X = chk X := by unfold rchk; rw [if_neg hz]
          have HD' : Hid (gchk n xss = chk X) := by have := HD.out; rw [hr, if_neg hz] at this; exact this
          have hne : (chk X != 0) = true := by rw [bne_iff_ne]; exact hz
          clear HD HS hz hr
          generalize chk X = z at *
          go_wp2
          go_ret
          exact ⟨ret_int HD'.out.symm, rfl⟩
      · have HE0 : Hid (gchk n xss = 0) := by show _ = _; rw [← ht.out, List.drop_eq_nil_of_le (by have := HL.out; omega)]; rfl
        go_wp2
        go_ret
        exact ⟨ret_int HE0.out.symm, rfl⟩

set_option maxRecDepth 20000 in
theorem gensMay_bad (n : Int) (v : Value) (xss : List (List Int)) (w : World) (h : IntsAll w v xss) (hb : n < 1 ∨ 12 < n ∨ 8 < xss.length) :
    Calls Try.prog 15 #[.int .i64 n, v] w fun e w' => e = .returned (.int .i64 1) ∧ w = w' := by
  obtain ⟨vs, hv, hl, _⟩ := h
  obtain ⟨p, c, rfl⟩ := hv.form
  clear hv
  by_cases h1 : n < 1
  · go_enter Try.func15, Try.ntmps15
    go_wp2
    go_ret
    exact ⟨rfl, rfl⟩
  · by_cases h2 : n > 12
    · go_enter Try.func15, Try.ntmps15
      go_wp2
      go_ret
      exact ⟨rfl, rfl⟩
    · have h3 : (vs.length : Int) > 8 := by omega
      clear hb hl
      go_enter Try.func15, Try.ntmps15
      go_wp2
      go_ret
      exact ⟨rfl, rfl⟩

set_option maxRecDepth 20000 in
theorem gcheck_bad (n : Int) (v : Value) (xss : List (List Int)) (w : World) (h : IntsAll w v xss) (hb : n < 1 ∨ 12 < n ∨ 8 < xss.length) :
    Calls Try.prog 16 #[.int .i64 n, v] w fun e w' => e = .returned (.int .i64 1) ∧ w = w' := by
  obtain ⟨vs, hv, hl, _⟩ := h
  obtain ⟨p, c, rfl⟩ := hv.form
  clear hv
  by_cases h1 : n < 1
  · go_enter Try.func16, Try.ntmps16
    go_wp2
    go_ret
    exact ⟨rfl, rfl⟩
  · by_cases h2 : n > 12
    · go_enter Try.func16, Try.ntmps16
      go_wp2
      go_ret
      exact ⟨rfl, rfl⟩
    · have h3 : (vs.length : Int) > 8 := by omega
      clear hb hl
      go_enter Try.func16, Try.ntmps16
      go_wp2
      go_ret
      exact ⟨rfl, rfl⟩

end Go.Proofs.Ytimfoggjocajiaa

/- Contracts: GensMay, the answer's own; Check and Make where they refuse. -/
namespace Go.Proofs.Ytimfoggjocajiaa
open Go.RowKit

/-- Make, where Check refuses. -/
theorem make_refuses (n : Int) (v : Value) (c : Int) (w : World) (hc : c ≠ 0) (hk : Calls Try.prog 16 #[.int .i64 n, v] w fun e w' => e = .returned (.int .i64 c) ∧ Below w.heap.size w w') :
    Calls Try.prog 14 #[.int .i64 n, v] w fun e w' => e = .returned (.tuple #[.pointer none, .int .i64 c]) ∧ Below w.heap.size w w' := by
  have HK := hide hk
  have hne : (c != 0) = true := by rw [bne_iff_ne]; exact hc
  clear hk hc
  go_enter Try.func14, Try.ntmps14
  go_wp2_with fail
  refine HK.out.mono ?_
  rintro e w1 ⟨rfl, hb1⟩
  go_wp2
  go_ret2
  exact ⟨rfl, hb1⟩

end Go.Proofs.Ytimfoggjocajiaa

/- The walk of GroupSays: it answers true at every input. -/
namespace Go.Proofs.Ytimfoggjocajiaa
open Go.RowKit

/-- What is said: an error, or a row. -/
noncomputable def saidC (gs : List Pm) (ys : List Int) : Int := if 20000 < ys.length then 3 else if (say gs ys 1).isSome then 0 else 12
noncomputable def saidL (n : Nat) (gs : List Pm) (ys : List Int) : List Int := if 20000 < ys.length then [] else (say gs ys 1).elim [] (cut n)

def SaidPost (n : Nat) (gs : List Pm) (ys : List Int) (w : World) (e : Ending) (w' : World) : Prop :=
  ∃ a, e = .returned (.tuple #[a, .int .i64 (saidC gs ys)]) ∧ Ints w' a (saidL n gs ys) ∧ Below w.heap.size w w'

theorem say_any (n : Nat) (v v2 : Value) (gs : List Pm) (ys : List Int) (w : World) (h12 : n ≤ 12) (hG : GroupAt w v n gs) (hgl : gs.length ≤ 1000000) (hI : Ints w v2 ys) (hx : ∀ x, x ∈ ys → I64 x) :
    Calls Try.prog 20 #[v, v2] w fun e w' => SaidPost n gs ys w e w' := by
  by_cases hl : 20000 < ys.length
  · refine (say_long n v v2 gs ys w hG hI hl).mono ?_
    rintro e w' ⟨rfl, rfl⟩
    exact ⟨_, by unfold saidC; rw [if_pos hl], by unfold saidL; rw [if_pos hl]; exact Ints.nil _, Below.refl _ _⟩
  · refine (say_ok n v v2 gs ys w h12 hG hgl hI hx (by omega)).mono ?_
    rintro e w' ⟨h | ⟨u, p, h1, rfl, h2⟩, hb⟩
    · obtain ⟨h1, rfl⟩ := h
      exact ⟨_, by unfold saidC; rw [if_neg hl, h1]; rfl, by unfold saidL; rw [if_neg hl, h1]; exact Ints.nil _, hb⟩
    · refine ⟨u, by unfold saidC; rw [if_neg hl, h1]; rfl, ?_, hb⟩
      unfold saidL; rw [if_neg hl, h1]; exact Ints.own h2

set_option maxRecDepth 20000 in
theorem rsay_long (n : Nat) (v v2 : Value) (ys : List Int) (w : World) (hI : Ints w v2 ys) (hl : 20000 < ys.length) :
    Calls Try.prog 21 #[.int .i64 n, v, v2] w fun e w' => e = .returned (.tuple #[.slice none 0 0, .int .i64 3]) ∧ w = w' := by
  obtain ⟨p, c, rfl⟩ := hI.form
  have hlI : (20000 : Int) < (ys.length : Int) := by omega
  clear hI
  go_enter Try.func21, Try.ntmps21
  go_wp2
  go_ret2
  exact ⟨rfl, rfl⟩

theorem rsay_any (n : Nat) (v v2 : Value) (gss : List (List Int)) (ys : List Int) (w : World) (h1 : 1 ≤ n) (h12 : n ≤ 12) (hA : IntsAll w v gss) (hR : RowsN n gss) (h8 : gss.length ≤ 8) (hI : Ints w v2 ys) (hx : ∀ x, x ∈ ys → I64 x) :
    Calls Try.prog 21 #[.int .i64 n, v, v2] w fun e w' => SaidPost n (gss.map pad) ys w e w' := by
  by_cases hl : 20000 < ys.length
  · refine (rsay_long n v v2 ys w hI hl).mono ?_
    rintro e w' ⟨rfl, rfl⟩
    exact ⟨_, by unfold saidC; rw [if_pos hl], by unfold saidL; rw [if_pos hl]; exact Ints.nil _, Below.refl _ _⟩
  · refine (rsay_ok n v v2 gss ys w h1 h12 hA hR h8 hI hx (by omega)).mono ?_
    rintro e w' ⟨h | ⟨u, p, h1, _, rfl, h2⟩, hb⟩
    · obtain ⟨h1, rfl⟩ := h
      exact ⟨_, by unfold saidC; rw [if_neg hl, h1]; rfl, by unfold saidL; rw [if_neg hl, h1]; exact Ints.nil _, hb⟩
    · refine ⟨u, by unfold saidC; rw [if_neg hl, h1]; rfl, ?_, hb⟩
      unfold saidL; rw [if_neg hl, h1]; exact h2

theorem groupRows_any (v vg vr : Value) (n : Nat) (gss : List (List Int)) (xs : List Int) (bell : Int) (w : World) (h : GLaw w v vg vr n gss xs) :
    Calls Try.prog 25 #[v, .int .i64 n, vg, vr, .int .i64 (rchk n xs), .int .i64 bell, .int .i64 ((sz (Gen (fun y => y ∈ gss.map pad)) n : Nat) : Int)] w fun e w' => Told w e w' := by
  by_cases hs : 5040 < sz (Gen (fun y => y ∈ gss.map pad)) n
  · by_cases hz : rchk n xs = 0
    · rw [hz]; exact groupRows_big v vg vr n gss xs bell w h hz hs
    · exact groupRows_refused v vg vr n gss xs bell w h hz hs
  · by_cases hz : rchk n xs = 0
    · rw [hz]
      by_cases hg : Gen (fun y => y ∈ gss.map pad) (pad xs)
      · exact groupRows_c v vg vr n gss xs bell w h hz hg (by omega)
      · exact groupRows_b v vg vr n gss xs bell w h hz hg (by omega)
    · exact groupRows_a v vg vr n gss xs bell w h hz (by omega)

set_option maxRecDepth 20000 in
theorem groupSays_pass (n : Int) (v v2 v3 : Value) (ys : List Int) (bell : Int) (w : World) (h3 : Ints w v3 ys) (hl1 : 200 < ys.length) (hl2 : ys.length < 20001) :
    Calls Try.prog 3 #[.int .i64 n, v, v2, v3, .int .i64 bell] w fun e w' => Told w e w' := by
  obtain ⟨p3, c3, rfl⟩ := h3.form
  have g1 : decide ((200 : Int) < (ys.length : Int)) = true := decide_eq_true (by omega)
  have g2 : decide ((ys.length : Int) < 20001) = true := decide_eq_true (by omega)
  have g3 : (200 : Int) < (ys.length : Int) := by omega
  have g4 : (ys.length : Int) < 20001 := by omega
  clear h3 hl1 hl2
  go_enter Try.func3, Try.ntmps3
  go_wp2
  go_ret
  exact ⟨rfl, Below.refl _ _⟩

set_option maxRecDepth 20000 in
set_option maxHeartbeats 2000000 in
theorem groupSays_no (n : Int) (v v2 v3 : Value) (ys : List Int) (bell c : Int) (w : World) (h3 : Ints w v3 ys) (hl : ys.length ≤ 200 ∨ 20000 < ys.length) (hc : c ≠ 0)
    (hk : ∀ w', Below w.heap.size w w' → Calls Try.prog 16 #[.int .i64 n, v] w' fun e w'' => e = .returned (.int .i64 c) ∧ Below w'.heap.size w' w'')
    (hm : ∀ w', Below w.heap.size w w' → Calls Try.prog 15 #[.int .i64 n, v] w' fun e w'' => e = .returned (.int .i64 c) ∧ w' = w'') :
    Calls Try.prog 3 #[.int .i64 n, v, v2, v3, .int .i64 bell] w fun e w' => Told w e w' := by
  obtain ⟨p3, c3, rfl⟩ := h3.form
  have HMk := hide (make_refuses n v c w hc (hk w (Below.refl _ _)))
  have HK := hide hk
  have HM := hide hm
  have q2 := run_ptr_nil
  have hcn : (c != 0) = true := by rw [bne_iff_ne]; exact hc
  have hcI : ¬ c = 0 := hc
  clear h3 hk hm
  have key : ∀ t1 t2 : Bool, decide ((200 : Int) < (ys.length : Int)) = t1 → decide ((ys.length : Int) < 20001) = t2 → (t1 && t2) = false → Calls Try.prog 3 #[.int .i64 n, v, v2, .slice p3 ys.length c3, .int .i64 bell] w fun e w' => Told w e w' := by
    intro t1 t2 g1 g2 g3
    cases t1 <;> cases t2 <;> simp at g3 <;>
    · clear g3
      go_enter Try.func3, Try.ntmps3
      go_wp2_with fail
      refine HMk.out.mono ?_
      rintro ex w1 ⟨rfl, hb1⟩
      go_wp2_with fail
      refine (HM.out w1 hb1).mono ?_
      rintro ex w2 ⟨rfl, rfl⟩
      go_wp2_with fail
      refine (HK.out w1 hb1).mono ?_
      rintro ex w3 ⟨rfl, hb3⟩
      have HB3 := hide (hb1.trans (hb3.mono hb1.size))
      clear hb1 hb3
      go_wp2
      go_ret
      exact ⟨rfl, HB3.out⟩
  refine key _ _ rfl rfl ?_
  rcases hl with hl | hl
  · rw [decide_eq_false (by omega)]; rfl
  · rw [decide_eq_false (p := (ys.length : Int) < 20001) (by omega), Bool.and_false]

end Go.Proofs.Ytimfoggjocajiaa

/- The walk of GroupSays, a way. -/
namespace Go.Proofs.Ytimfoggjocajiaa
open Go.RowKit

set_option maxRecDepth 20000 in
set_option maxHeartbeats 8000000 in
theorem groupSays_a1 (n : Nat) (v v2 v3 : Value) (gss : List (List Int)) (xs ys : List Int) (bell : Int) (w : World) (t1 t2 : Bool) (g1 : decide ((200 : Int) < (ys.length : Int)) = t1) (g2 : decide ((ys.length : Int) < 20001) = t2) (g3 : (t1 && t2) = false)
    (hA : IntsAll w v gss) (hR : RowsN n gss) (h2 : Ints w v2 xs) (h3 : Ints w v3 ys) (hy : ∀ x, x ∈ ys → I64 x) (h1 : 1 ≤ n) (h12 : n ≤ 12) (h8 : gss.length ≤ 8) (hz : chk xs ≠ 0) :
    Calls Try.prog 3 #[.int .i64 n, v, v2, v3, .int .i64 bell] w fun e w' => Told w e w' := by
  obtain ⟨i0, hi, hz0, hz1, hz2⟩ := info_parts Try.info23
  have q1 := run_ptr_ne
  have hgz := gchk_rows h1 h12 hR
  have hgl : (gss.map pad).length ≤ 1000000 := by rw [List.length_map]; omega
  have HGL := hide hgl
  have HMk := hide (make_ok n v gss w hA h1 h12 h8 hR)
  have HM : Hid (∀ w', Below w.heap.size w w' → Calls Try.prog 15 #[.int .i64 n, v] w' fun e w'' => e = .returned (.int .i64 0) ∧ w' = w'') := fun w' hb => by have := gensMay_ok n v gss w' (hA.below hb) h1 h12 h8; rwa [hgz] at this
  have HK : Hid (∀ w', Below w.heap.size w w' → Calls Try.prog 16 #[.int .i64 n, v] w' fun e w'' => e = .returned (.int .i64 0) ∧ Below w'.heap.size w' w'') := fun w' hb => by have := gcheck_ok n v gss w' (hA.below hb) h1 h12 h8; rwa [hgz] at this
  have HSz : Hid (∀ w', Below w.heap.size w w' → Calls Try.prog 17 #[.int .i64 n, v] w' fun e w'' => e = .returned (.int .i64 ((sz (Gen (fun y => y ∈ gss.map pad)) n : Nat) : Int)) ∧ Below w'.heap.size w' w'') := fun w' hb => sizes_ok n v gss w' (hA.below hb) hR h1 h12 (by omega)
  have HRM : Hid (∀ w', Below w.heap.size w w' → Calls Try.prog 23 #[v2] w' fun e w'' => e = .returned (.int .i64 (chk xs)) ∧ w' = w'') := fun w' hb => rowMay_any v2 xs w' (h2.below hb)
  have HRS : Hid (∀ w', Below w.heap.size w w' → Calls Try.prog 21 #[.int .i64 n, v, v3] w' fun e w'' => SaidPost n (gss.map pad) ys w' e w'') := fun w' hb => rsay_any n v v3 gss ys w' h1 h12 (hA.below hb) hR h8 (h3.below hb) hy
  have HA := hide hA
  have HR := hide hR
  have HI2 := hide h2
  have HI3 := hide h3
  have HY := hide hy
  have hrc : rchk n xs = chk xs := by unfold rchk; rw [if_neg hz]
  have HZ : Hid (rchk n xs ≠ 0) := by show _ ≠ _; rw [hrc]; exact hz
  have hbe : (chk xs == 0) = false := beq_eq_false_iff_ne.2 hz
  generalize hfz : chk xs = fz at *
  have HRC := hide hrc
  clear hrc hz hfz
  obtain ⟨p2, c2, rfl⟩ := h2.form
  obtain ⟨p3, c3, rfl⟩ := h3.form
  generalize hsz : sz (Gen (fun y => y ∈ gss.map pad)) n = z at *
  have HSZ := hide hsz
  clear hA hR h2 h3 hy hgz hgl hsz
  cases t1 <;> cases t2 <;> simp at g3 <;>
  · clear g3
    go_enter Try.func3, Try.ntmps3
    go_wp2_with fail
    refine HMk.out.mono ?_
    rintro ex w1 ⟨g5, rfl, hG5, hb1⟩
    have HG5 := hide hG5
    obtain ⟨gb1, _, _, _, _, _, _, rfl, _⟩ := hG5
    go_wp2_with fail
    refine (HM.out w1 hb1).mono ?_
    rintro ex w2 ⟨rfl, rfl⟩
    go_wp2_with fail
    refine (HK.out w1 hb1).mono ?_
    rintro ex w3 ⟨rfl, hb3⟩
    have hB3 := hb1.trans (hb3.mono hb1.size)
    have HG3 := hide (HG5.out.below hb3 (Nat.le_refl _))
    clear hb3 HMk HG5 hb1
    go_wp2_with fail
    refine (HSz.out w3 hB3).mono ?_
    rintro ex w4 ⟨rfl, hb4⟩
    have hB4 := hB3.trans (hb4.mono hB3.size)
    have HG4 := hide (HG3.out.below hb4 (Nat.le_refl _))
    have HGs := hide (gsize_ok n _ (gss.map pad) w4 h12 HG4.out)
    rw [HSZ.out] at HGs
    clear hb4 hB3 HG3
    go_wp2_with fail
    refine HGs.out.mono ?_
    rintro ex w5 ⟨rfl, hb5⟩
    have hB5 := hB4.trans (hb5.mono hB4.size)
    have HG5 := hide (HG4.out.below hb5 (Nat.le_refl _))
    have HGb := hide (gbells_ok n _ (gss.map pad) w5 HG5.out)
    clear hb5 hB4 HG4 HGs
    go_wp2_with fail
    refine HGb.out.mono ?_
    rintro ex w6 ⟨rfl, rfl⟩
    have HSy := hide (say_any n _ _ (gss.map pad) ys w5 h12 HG5.out HGL.out (HI3.out.below hB5) HY.out)
    clear HGb
    go_wp2_with fail
    refine HSy.out.mono ?_
    rintro ex w7 ⟨va, rfl, hIa, hb7⟩
    have hB7 := hB5.trans (hb7.mono hB5.size)
    have HG7 := hide (HG5.out.below hb7 (Nat.le_refl _))
    have HIa := hide hIa
    clear hIa hb7 hB5 HSy HG5
    go_wp2_with fail
    refine (HRS.out w7 hB7).mono ?_
    rintro ex w8 ⟨vb, rfl, hIb, hb8⟩
    generalize saidC (gss.map pad) ys = sc at *
    generalize saidL n (gss.map pad) ys = sl at *
    have hB8 := hB7.trans (hb8.mono hB7.size)
    have HG8 := hide (HG7.out.below hb8 (Nat.le_refl _))
    have HSm := hide (same_any va vb sl sl w8 (HIa.out.below hb8) hIb)
    rw [decide_eq_true rfl] at HSm
    clear hIb hb8 hB7 HG7 HIa
    go_wp2_with fail
    refine HSm.out.mono ?_
    rintro ex w9 ⟨rfl, hb9⟩
    have hB9 := hB8.trans (hb9.mono hB8.size)
    have HG9 := hide (HG8.out.below hb9 (Nat.le_refl _))
    clear hb9 hB8 HG8 HSm
    go_wp2_with fail
    refine (HRM.out w9 hB9).mono ?_
    rintro ex w10 ⟨rfl, rfl⟩
    have HHs := hide (ghas_no n _ _ (gss.map pad) xs w9 HG9.out (HI2.out.below hB9) HZ.out)
    rw [HRC.out] at HHs
    go_wp2_with fail
    refine HHs.out.mono ?_
    rintro ex w11 ⟨rfl, hb11⟩
    have hB11 := hB9.trans (hb11.mono hB9.size)
    have HGL2 := hide (GLaw.mk (HG9.out.below hb11 (Nat.le_refl _)) (HA.out.below hB11) HR.out (HI2.out.below hB11) h1 h12 h8)
    have HGR := hide (groupRows_any _ _ _ n gss xs bell w11 HGL2.out)
    rw [HSZ.out, HRC.out] at HGR
    have HBf := hide hB11
    clear hb11 hB11 HHs HGL2 HG9
    rcases (show z ≤ 720 ∨ (720 < z ∧ z ≤ 5040) ∨ 5040 < z by omega) with hc | hc | hc
    · have d1 : decide ((720 : Int) < (z : Int)) = false := decide_eq_false (by omega)
      go_wp2_with fail
      refine HGR.out.mono ?_
      rintro ex w20 ⟨rfl, hb20⟩
      have HBg := hide (HBf.out.trans (hb20.mono HBf.out.size))
      clear hb20
      go_wp2
      go_ret
      exact ⟨rfl, HBg.out⟩
    · have d1 : decide ((720 : Int) < (z : Int)) = true := decide_eq_true (by omega)
      have d2 : decide ((z : Int) < 5041) = true := decide_eq_true (by omega)
      go_wp2
      go_ret
      exact ⟨rfl, HBf.out⟩
    · have d1 : decide ((720 : Int) < (z : Int)) = true := decide_eq_true (by omega)
      have d2 : decide ((z : Int) < 5041) = false := decide_eq_false (by omega)
      go_wp2_with fail
      refine HGR.out.mono ?_
      rintro ex w20 ⟨rfl, hb20⟩
      have HBg := hide (HBf.out.trans (hb20.mono HBf.out.size))
      clear hb20
      go_wp2
      go_ret
      exact ⟨rfl, HBg.out⟩

set_option maxRecDepth 20000 in
set_option maxHeartbeats 8000000 in
theorem groupSays_a2 (n : Nat) (v v2 v3 : Value) (gss : List (List Int)) (xs ys : List Int) (bell : Int) (w : World) (t1 t2 : Bool) (g1 : decide ((200 : Int) < (ys.length : Int)) = t1) (g2 : decide ((ys.length : Int) < 20001) = t2) (g3 : (t1 && t2) = false)
    (hA : IntsAll w v gss) (hR : RowsN n gss) (h2 : Ints w v2 xs) (h3 : Ints w v3 ys) (hy : ∀ x, x ∈ ys → I64 x) (h1 : 1 ≤ n) (h12 : n ≤ 12) (h8 : gss.length ≤ 8) (hz : chk xs = 0) (hl : xs.length ≠ n) :
    Calls Try.prog 3 #[.int .i64 n, v, v2, v3, .int .i64 bell] w fun e w' => Told w e w' := by
  obtain ⟨i0, hi, hz0, hz1, hz2⟩ := info_parts Try.info23
  have q1 := run_ptr_ne
  have hgz := gchk_rows h1 h12 hR
  have hgl : (gss.map pad).length ≤ 1000000 := by rw [List.length_map]; omega
  have HGL := hide hgl
  have HMk := hide (make_ok n v gss w hA h1 h12 h8 hR)
  have HM : Hid (∀ w', Below w.heap.size w w' → Calls Try.prog 15 #[.int .i64 n, v] w' fun e w'' => e = .returned (.int .i64 0) ∧ w' = w'') := fun w' hb => by have := gensMay_ok n v gss w' (hA.below hb) h1 h12 h8; rwa [hgz] at this
  have HK : Hid (∀ w', Below w.heap.size w w' → Calls Try.prog 16 #[.int .i64 n, v] w' fun e w'' => e = .returned (.int .i64 0) ∧ Below w'.heap.size w' w'') := fun w' hb => by have := gcheck_ok n v gss w' (hA.below hb) h1 h12 h8; rwa [hgz] at this
  have HSz : Hid (∀ w', Below w.heap.size w w' → Calls Try.prog 17 #[.int .i64 n, v] w' fun e w'' => e = .returned (.int .i64 ((sz (Gen (fun y => y ∈ gss.map pad)) n : Nat) : Int)) ∧ Below w'.heap.size w' w'') := fun w' hb => sizes_ok n v gss w' (hA.below hb) hR h1 h12 (by omega)
  have HRM : Hid (∀ w', Below w.heap.size w w' → Calls Try.prog 23 #[v2] w' fun e w'' => e = .returned (.int .i64 (chk xs)) ∧ w' = w'') := fun w' hb => rowMay_any v2 xs w' (h2.below hb)
  have HRS : Hid (∀ w', Below w.heap.size w w' → Calls Try.prog 21 #[.int .i64 n, v, v3] w' fun e w'' => SaidPost n (gss.map pad) ys w' e w'') := fun w' hb => rsay_any n v v3 gss ys w' h1 h12 (hA.below hb) hR h8 (h3.below hb) hy
  have HA := hide hA
  have HR := hide hR
  have HI2 := hide h2
  have HI3 := hide h3
  have HY := hide hy
  have HRC : Hid (rchk n xs = 1) := by show _ = _; unfold rchk; rw [if_pos hz, if_neg hl]
  have HZ : Hid (rchk n xs ≠ 0) := by show _ ≠ _; rw [HRC.out]; decide
  rw [hz] at HRM
  have hne : ((xs.length : Int) != (n : Int)) = true := by rw [bne_iff_ne]; omega
  have hneI : ¬ (xs.length : Int) = (n : Int) := by omega
  clear hz hl
  obtain ⟨p2, c2, rfl⟩ := h2.form
  obtain ⟨p3, c3, rfl⟩ := h3.form
  generalize hsz : sz (Gen (fun y => y ∈ gss.map pad)) n = z at *
  have HSZ := hide hsz
  clear hA hR h2 h3 hy hgz hgl hsz
  cases t1 <;> cases t2 <;> simp at g3 <;>
  · clear g3
    go_enter Try.func3, Try.ntmps3
    go_wp2_with fail
    refine HMk.out.mono ?_
    rintro ex w1 ⟨g5, rfl, hG5, hb1⟩
    have HG5 := hide hG5
    obtain ⟨gb1, _, _, _, _, _, _, rfl, _⟩ := hG5
    go_wp2_with fail
    refine (HM.out w1 hb1).mono ?_
    rintro ex w2 ⟨rfl, rfl⟩
    go_wp2_with fail
    refine (HK.out w1 hb1).mono ?_
    rintro ex w3 ⟨rfl, hb3⟩
    have hB3 := hb1.trans (hb3.mono hb1.size)
    have HG3 := hide (HG5.out.below hb3 (Nat.le_refl _))
    clear hb3 HMk HG5 hb1
    go_wp2_with fail
    refine (HSz.out w3 hB3).mono ?_
    rintro ex w4 ⟨rfl, hb4⟩
    have hB4 := hB3.trans (hb4.mono hB3.size)
    have HG4 := hide (HG3.out.below hb4 (Nat.le_refl _))
    have HGs := hide (gsize_ok n _ (gss.map pad) w4 h12 HG4.out)
    rw [HSZ.out] at HGs
    clear hb4 hB3 HG3
    go_wp2_with fail
    refine HGs.out.mono ?_
    rintro ex w5 ⟨rfl, hb5⟩
    have hB5 := hB4.trans (hb5.mono hB4.size)
    have HG5 := hide (HG4.out.below hb5 (Nat.le_refl _))
    have HGb := hide (gbells_ok n _ (gss.map pad) w5 HG5.out)
    clear hb5 hB4 HG4 HGs
    go_wp2_with fail
    refine HGb.out.mono ?_
    rintro ex w6 ⟨rfl, rfl⟩
    have HSy := hide (say_any n _ _ (gss.map pad) ys w5 h12 HG5.out HGL.out (HI3.out.below hB5) HY.out)
    clear HGb
    go_wp2_with fail
    refine HSy.out.mono ?_
    rintro ex w7 ⟨va, rfl, hIa, hb7⟩
    have hB7 := hB5.trans (hb7.mono hB5.size)
    have HG7 := hide (HG5.out.below hb7 (Nat.le_refl _))
    have HIa := hide hIa
    clear hIa hb7 hB5 HSy HG5
    go_wp2_with fail
    refine (HRS.out w7 hB7).mono ?_
    rintro ex w8 ⟨vb, rfl, hIb, hb8⟩
    generalize saidC (gss.map pad) ys = sc at *
    generalize saidL n (gss.map pad) ys = sl at *
    have hB8 := hB7.trans (hb8.mono hB7.size)
    have HG8 := hide (HG7.out.below hb8 (Nat.le_refl _))
    have HSm := hide (same_any va vb sl sl w8 (HIa.out.below hb8) hIb)
    rw [decide_eq_true rfl] at HSm
    clear hIb hb8 hB7 HG7 HIa
    go_wp2_with fail
    refine HSm.out.mono ?_
    rintro ex w9 ⟨rfl, hb9⟩
    have hB9 := hB8.trans (hb9.mono hB8.size)
    have HG9 := hide (HG8.out.below hb9 (Nat.le_refl _))
    clear hb9 hB8 HG8 HSm
    go_wp2_with fail
    refine (HRM.out w9 hB9).mono ?_
    rintro ex w10 ⟨rfl, rfl⟩
    have HHs := hide (ghas_no n _ _ (gss.map pad) xs w9 HG9.out (HI2.out.below hB9) HZ.out)
    rw [HRC.out] at HHs
    go_wp2_with fail
    refine HHs.out.mono ?_
    rintro ex w11 ⟨rfl, hb11⟩
    have hB11 := hB9.trans (hb11.mono hB9.size)
    have HGL2 := hide (GLaw.mk (HG9.out.below hb11 (Nat.le_refl _)) (HA.out.below hB11) HR.out (HI2.out.below hB11) h1 h12 h8)
    have HGR := hide (groupRows_any _ _ _ n gss xs bell w11 HGL2.out)
    rw [HSZ.out, HRC.out] at HGR
    have HBf := hide hB11
    clear hb11 hB11 HHs HGL2 HG9
    rcases (show z ≤ 720 ∨ (720 < z ∧ z ≤ 5040) ∨ 5040 < z by omega) with hc | hc | hc
    · have d1 : decide ((720 : Int) < (z : Int)) = false := decide_eq_false (by omega)
      go_wp2_with fail
      refine HGR.out.mono ?_
      rintro ex w20 ⟨rfl, hb20⟩
      have HBg := hide (HBf.out.trans (hb20.mono HBf.out.size))
      clear hb20
      go_wp2
      go_ret
      exact ⟨rfl, HBg.out⟩
    · have d1 : decide ((720 : Int) < (z : Int)) = true := decide_eq_true (by omega)
      have d2 : decide ((z : Int) < 5041) = true := decide_eq_true (by omega)
      go_wp2
      go_ret
      exact ⟨rfl, HBf.out⟩
    · have d1 : decide ((720 : Int) < (z : Int)) = true := decide_eq_true (by omega)
      have d2 : decide ((z : Int) < 5041) = false := decide_eq_false (by omega)
      go_wp2_with fail
      refine HGR.out.mono ?_
      rintro ex w20 ⟨rfl, hb20⟩
      have HBg := hide (HBf.out.trans (hb20.mono HBf.out.size))
      clear hb20
      go_wp2
      go_ret
      exact ⟨rfl, HBg.out⟩

end Go.Proofs.Ytimfoggjocajiaa

/- The walk of GroupSays, a way. -/
namespace Go.Proofs.Ytimfoggjocajiaa
open Go.RowKit

set_option maxRecDepth 20000 in
set_option maxHeartbeats 8000000 in
theorem groupSays_b (n : Nat) (v v2 v3 : Value) (gss : List (List Int)) (xs ys : List Int) (bell : Int) (w : World) (t1 t2 : Bool) (g1 : decide ((200 : Int) < (ys.length : Int)) = t1) (g2 : decide ((ys.length : Int) < 20001) = t2) (g3 : (t1 && t2) = false)
    (hA : IntsAll w v gss) (hR : RowsN n gss) (h2 : Ints w v2 xs) (h3 : Ints w v3 ys) (hy : ∀ x, x ∈ ys → I64 x) (h1 : 1 ≤ n) (h12 : n ≤ 12) (h8 : gss.length ≤ 8) (hz : rchk n xs = 0) :
    Calls Try.prog 3 #[.int .i64 n, v, v2, v3, .int .i64 bell] w fun e w' => Told w e w' := by
  obtain ⟨i0, hi, hz0, hz1, hz2⟩ := info_parts Try.info23
  have q1 := run_ptr_ne
  have hgz := gchk_rows h1 h12 hR
  have hgl : (gss.map pad).length ≤ 1000000 := by rw [List.length_map]; omega
  have HGL := hide hgl
  have HMk := hide (make_ok n v gss w hA h1 h12 h8 hR)
  have HM : Hid (∀ w', Below w.heap.size w w' → Calls Try.prog 15 #[.int .i64 n, v] w' fun e w'' => e = .returned (.int .i64 0) ∧ w' = w'') := fun w' hb => by have := gensMay_ok n v gss w' (hA.below hb) h1 h12 h8; rwa [hgz] at this
  have HK : Hid (∀ w', Below w.heap.size w w' → Calls Try.prog 16 #[.int .i64 n, v] w' fun e w'' => e = .returned (.int .i64 0) ∧ Below w'.heap.size w' w'') := fun w' hb => by have := gcheck_ok n v gss w' (hA.below hb) h1 h12 h8; rwa [hgz] at this
  have HSz : Hid (∀ w', Below w.heap.size w w' → Calls Try.prog 17 #[.int .i64 n, v] w' fun e w'' => e = .returned (.int .i64 ((sz (Gen (fun y => y ∈ gss.map pad)) n : Nat) : Int)) ∧ Below w'.heap.size w' w'') := fun w' hb => sizes_ok n v gss w' (hA.below hb) hR h1 h12 (by omega)
  have HRM : Hid (∀ w', Below w.heap.size w w' → Calls Try.prog 23 #[v2] w' fun e w'' => e = .returned (.int .i64 (chk xs)) ∧ w' = w'') := fun w' hb => rowMay_any v2 xs w' (h2.below hb)
  have HRS : Hid (∀ w', Below w.heap.size w w' → Calls Try.prog 21 #[.int .i64 n, v, v3] w' fun e w'' => SaidPost n (gss.map pad) ys w' e w'') := fun w' hb => rsay_any n v v3 gss ys w' h1 h12 (hA.below hb) hR h8 (h3.below hb) hy
  have HA := hide hA
  have HR := hide hR
  have HI2 := hide h2
  have HI3 := hide h3
  have HY := hide hy
  obtain ⟨hxr, hxl, _, _⟩ := rchk_zero hz
  have hcz : chk xs = 0 := chk_ok (by omega) (by omega) hxr
  rw [hcz] at HRM
  have HZ := hide hz
  have HT := hide (sizes_one h12 hR hxr hxl)
  have HRN : Hid (RowsN n (gss ++ [xs])) := fun y hy => by
    rcases List.mem_append.1 hy with hy | hy
    · exact hR y hy
    · rw [List.mem_singleton.1 hy]; exact ⟨hxr, hxl⟩
  clear hcz hz hxr
  obtain ⟨p2, c2, rfl⟩ := h2.form
  rw [hxl] at *
  clear hxl
  obtain ⟨p3, c3, rfl⟩ := h3.form
  generalize hsz : sz (Gen (fun y => y ∈ gss.map pad)) n = z at *
  have HSZ := hide hsz
  clear hA hR h2 h3 hy hgz hgl hsz
  cases t1 <;> cases t2 <;> simp at g3 <;>
  · clear g3
    go_enter Try.func3, Try.ntmps3
    go_wp2_with fail
    refine HMk.out.mono ?_
    rintro ex w1 ⟨g5, rfl, hG5, hb1⟩
    have HG5 := hide hG5
    obtain ⟨gb1, _, _, _, _, _, _, rfl, _⟩ := hG5
    go_wp2_with fail
    refine (HM.out w1 hb1).mono ?_
    rintro ex w2 ⟨rfl, rfl⟩
    go_wp2_with fail
    refine (HK.out w1 hb1).mono ?_
    rintro ex w3 ⟨rfl, hb3⟩
    have hB3 := hb1.trans (hb3.mono hb1.size)
    have HG3 := hide (HG5.out.below hb3 (Nat.le_refl _))
    clear hb3 HMk HG5 hb1
    go_wp2_with fail
    refine (HSz.out w3 hB3).mono ?_
    rintro ex w4 ⟨rfl, hb4⟩
    have hB4 := hB3.trans (hb4.mono hB3.size)
    have HG4 := hide (HG3.out.below hb4 (Nat.le_refl _))
    have HGs := hide (gsize_ok n _ (gss.map pad) w4 h12 HG4.out)
    rw [HSZ.out] at HGs
    clear hb4 hB3 HG3
    go_wp2_with fail
    refine HGs.out.mono ?_
    rintro ex w5 ⟨rfl, hb5⟩
    have hB5 := hB4.trans (hb5.mono hB4.size)
    have HG5 := hide (HG4.out.below hb5 (Nat.le_refl _))
    have HGb := hide (gbells_ok n _ (gss.map pad) w5 HG5.out)
    clear hb5 hB4 HG4 HGs
    go_wp2_with fail
    refine HGb.out.mono ?_
    rintro ex w6 ⟨rfl, rfl⟩
    have HSy := hide (say_any n _ _ (gss.map pad) ys w5 h12 HG5.out HGL.out (HI3.out.below hB5) HY.out)
    clear HGb
    go_wp2_with fail
    refine HSy.out.mono ?_
    rintro ex w7 ⟨va, rfl, hIa, hb7⟩
    have hB7 := hB5.trans (hb7.mono hB5.size)
    have HG7 := hide (HG5.out.below hb7 (Nat.le_refl _))
    have HIa := hide hIa
    clear hIa hb7 hB5 HSy HG5
    go_wp2_with fail
    refine (HRS.out w7 hB7).mono ?_
    rintro ex w8 ⟨vb, rfl, hIb, hb8⟩
    generalize saidC (gss.map pad) ys = sc at *
    generalize saidL n (gss.map pad) ys = sl at *
    have hB8 := hB7.trans (hb8.mono hB7.size)
    have HG8 := hide (HG7.out.below hb8 (Nat.le_refl _))
    have HSm := hide (same_any va vb sl sl w8 (HIa.out.below hb8) hIb)
    rw [decide_eq_true rfl] at HSm
    clear hIb hb8 hB7 HG7 HIa
    go_wp2_with fail
    refine HSm.out.mono ?_
    rintro ex w9 ⟨rfl, hb9⟩
    have hB9 := hB8.trans (hb9.mono hB8.size)
    have HG9 := hide (HG8.out.below hb9 (Nat.le_refl _))
    clear hb9 hB8 HG8 HSm
    go_wp2_with fail
    refine (HRM.out w9 hB9).mono ?_
    rintro ex w10 ⟨rfl, rfl⟩
    have HHs := hide (ghas_ok n _ _ (gss.map pad) xs w9 HG9.out (HI2.out.below hB9) HZ.out)
    go_wp2_with fail
    refine HHs.out.mono ?_
    rintro ex w11 ⟨tin, htin, rfl, hb11⟩
    have hB11 := hB9.trans (hb11.mono hB9.size)
    have HG11 := hide (HG9.out.below hb11 (Nat.le_refl _))
    have HTIN := hide htin
    have hs2 := hB11.size
    obtain ⟨vs, hV, hvl, hve⟩ := HA.out.below hB11
    have HXa := hide (HI2.out.below hB11)
    have HVE := hide hve
    have HVL := hide hvl
    have hvl8 : vs.length ≤ 8 := by omega
    have hbE : Below w11.heap.size w11 (w11.alloc (.cells #[] 23)) := (Below.refl _ _).alloc (Nat.le_refl _) _
    have HVa := hide (hV.below hbE)
    have HCE := hide (vals_cells hvl hve)
    have HE5 : Hid ((w11.alloc (.cells #[] 23)).ownsRow w11.heap.size 23 1 (.slice (some ⟨w11.heap.size, 0, none⟩) 0 0) 0 []) := World.ownsRow_made w11 #[] 0 (Nat.le_refl _) (by decide) (by simp)
    have HMZ : Hid (w11.heap.size ≤ (w11.alloc (.cells #[] 23)).heap.size) := by unfold Hid; simp
    have HM1 : Hid (0 + vs.length ≤ maxLen) := by unfold Hid maxLen; omega
    have HM2 : Hid ((0 + vs.length) * 24 ≤ 140737488355328) := by unfold Hid; omega
    have HB11 := hide hB11
    clear hb11 hB9 hV hve hvl hbE htin HHs hB11 HG9
    go_wp2_with (at_builtin; refine wpList_append_want (by rfl) _ _ 22 rfl w11.heap.size 23 i0 (.slice none 0 0) 24 Try.underlying22 hi hz0 hz1 hz2 rfl _ _ _ rfl HE5.out v vs rfl HVa.out HCE.out HM1.out HM2.out HMZ.out ?_)
    intro v6 w12 hown6 hg6
    have hown6 : w12.ownsRow w11.heap.size 23 1 v6 vs.length vs := by simpa using hown6
    have hb6 : Below w11.heap.size w11 w12 := ((Below.refl _ _).alloc (Nat.le_refl _) _).grown hg6 (by simp) (fun k hk => by have e' : w11.heap.size = k := Option.some.inj hk; omega)
    have hs6 := hb6.size
    have HO6 : Hid (∀ o : Obj, (w12.alloc o).ownsRow w11.heap.size 23 1 v6 vs.length vs) := fun o => hown6.alloc o
    have HO6' := hide hown6
    have HV6 : Hid (Vals (w12.alloc (.cells #[.slice p2 n c2] 23)) (.slice (some ⟨w12.heap.size, 0, none⟩) 1 1) [.slice p2 n c2]) := vals_one _ _ _
    have HC6 : Hid (∀ u ∈ [Value.slice p2 n c2], u.oneCell' = true) := fun u hu => by rw [List.mem_singleton.1 hu]; rfl
    have HM3 : Hid (vs.length + [Value.slice p2 n c2].length ≤ maxLen) := by unfold Hid maxLen; simp; omega
    have HM4 : Hid ((vs.length + [Value.slice p2 n c2].length) * 24 ≤ 140737488355328) := by unfold Hid; simp; omega
    have HM5 : Hid (w11.heap.size ≤ (w12.alloc (.cells #[.slice p2 n c2] 23)).heap.size) := by unfold Hid; simp; omega
    have HB6 := hide hb6
    clear hown6 hg6 hb6 HE5 HVa HCE
    go_wp2_with (at_builtin; refine wpList_append_want (by rfl) _ _ 22 rfl w11.heap.size 23 i0 (.slice none 0 0) 24 Try.underlying22 hi hz0 hz1 hz2 rfl _ _ _ rfl (HO6.out _) _ [Value.slice p2 n c2] rfl HV6.out HC6.out HM3.out HM4.out HM5.out ?_)
    intro v7 w13 hown7 hg7
    have hb7 : Below w11.heap.size w11 w13 := (HB6.out.alloc HB6.out.size _).grown hg7 (by simp; omega) (fun k hk => (HO6'.out.lt k hk).1)
    have hown7 : w13.ownsRow w11.heap.size 23 1 v7 (vs ++ [Value.slice p2 n c2]).length (vs ++ [Value.slice p2 n c2]) := by simpa using hown7
    have hA7 : IntsAll w13 v7 (gss ++ [xs]) := gens_more HVL.out HVE.out HXa.out hb7 (Vals.own hown7)
    have hl9 : (gss ++ [xs]).length ≤ 144 := by simp; omega
    have HSy := hide (sizes_ok n v7 (gss ++ [xs]) w13 hA7 HRN.out h1 h12 hl9)
    have HB13 := hide (HB11.out.trans (hb7.mono hs2))
    have HG13 := hide (HG11.out.below hb7 (Nat.le_refl _))
    clear hown7 hg7 hb7 hA7 hl9 HO6 HO6' HV6 HB6 HG11
    generalize hsy : sz (Gen (fun y => y ∈ (gss ++ [xs]).map pad)) n = y at *
    have HTY : Hid (tin = true ↔ y = z) := HTIN.out.trans HT.out.symm
    clear hsy HTIN
    go_wp2_with fail
    refine HSy.out.mono ?_
    rintro ex w14 ⟨rfl, hb14⟩
    have hB14 := HB13.out.trans (hb14.mono HB13.out.size)
    have HGL2 := hide (GLaw.mk (HG13.out.below hb14 (Nat.le_refl _)) (HA.out.below hB14) HR.out (HI2.out.below hB14) h1 h12 h8)
    have HGR := hide (groupRows_any _ _ _ n gss xs bell w14 HGL2.out)
    rw [HSZ.out, HZ.out] at HGR
    have HBf := hide hB14
    have hyz : ((y : Int) == (z : Int)) = tin := by
      cases tin with
      | true => have := HTY.out.1 rfl; rw [this]; simp
      | false =>
        have h9 : ¬ y = z := fun e => by have := HTY.out.2 e; cases this
        exact beq_eq_false_iff_ne.2 (by omega)
    clear hb14 hB14 HSy HGL2 HG13 HTY
    cases tin
    all_goals
      rcases (show z ≤ 720 ∨ (720 < z ∧ z ≤ 5040) ∨ 5040 < z by omega) with hc | hc | hc
      · have d1 : decide ((720 : Int) < (z : Int)) = false := decide_eq_false (by omega)
        go_wp2_with fail
        refine HGR.out.mono ?_
        rintro ex w20 ⟨rfl, hb20⟩
        have HBg := hide (HBf.out.trans (hb20.mono HBf.out.size))
        clear hb20
        go_wp2
        go_ret
        exact ⟨rfl, HBg.out⟩
      · have d1 : decide ((720 : Int) < (z : Int)) = true := decide_eq_true (by omega)
        have d2 : decide ((z : Int) < 5041) = true := decide_eq_true (by omega)
        go_wp2
        go_ret
        exact ⟨rfl, HBf.out⟩
      · have d1 : decide ((720 : Int) < (z : Int)) = true := decide_eq_true (by omega)
        have d2 : decide ((z : Int) < 5041) = false := decide_eq_false (by omega)
        go_wp2_with fail
        refine HGR.out.mono ?_
        rintro ex w20 ⟨rfl, hb20⟩
        have HBg := hide (HBf.out.trans (hb20.mono HBf.out.size))
        clear hb20
        go_wp2
        go_ret
        exact ⟨rfl, HBg.out⟩

end Go.Proofs.Ytimfoggjocajiaa

/- GroupSays answers true at every input. -/
namespace Go.Proofs.Ytimfoggjocajiaa
open Go.RowKit

theorem groupSays_any (n : Int) (v v2 v3 : Value) (gss : List (List Int)) (xs ys : List Int) (bell : Int) (w : World) (hA : IntsAll w v gss) (h2 : Ints w v2 xs) (h3 : Ints w v3 ys) (hy : ∀ x, x ∈ ys → I64 x) :
    Calls Try.prog 3 #[.int .i64 n, v, v2, v3, .int .i64 bell] w fun e w' => Told w e w' := by
  by_cases hp : 200 < ys.length ∧ ys.length < 20001
  · exact groupSays_pass n v v2 v3 ys bell w h3 hp.1 hp.2
  · have hl : ys.length ≤ 200 ∨ 20000 < ys.length := by omega
    have g3 : (decide ((200 : Int) < (ys.length : Int)) && decide ((ys.length : Int) < 20001)) = false := by
      rcases hl with hl | hl
      · rw [decide_eq_false (by omega)]; rfl
      · rw [decide_eq_false (p := (ys.length : Int) < 20001) (by omega), Bool.and_false]
    by_cases hb : n < 1 ∨ 12 < n ∨ 8 < gss.length
    · refine groupSays_no n v v2 v3 ys bell 1 w h3 hl (by decide) (fun w' hb' => ?_) (fun w' hb' => gensMay_bad n v gss w' (hA.below hb') hb)
      refine (gcheck_bad n v gss w' (hA.below hb') hb).mono ?_
      rintro e w'' ⟨rfl, rfl⟩
      exact ⟨rfl, Below.refl _ _⟩
    · obtain ⟨m, rfl⟩ := Int.eq_ofNat_of_zero_le (show 0 ≤ n by omega)
      have h1 : 1 ≤ m := by omega
      have h12 : m ≤ 12 := by omega
      have h8 : gss.length ≤ 8 := by omega
      by_cases hz : gchk m gss = 0
      · have hR := gchk_back hz
        by_cases hx : rchk m xs = 0
        · exact groupSays_b m v v2 v3 gss xs ys bell w _ _ rfl rfl g3 hA hR h2 h3 hy h1 h12 h8 hx
        · by_cases hc : chk xs = 0
          · exact groupSays_a2 m v v2 v3 gss xs ys bell w _ _ rfl rfl g3 hA hR h2 h3 hy h1 h12 h8 hc (fun e => hx (by unfold rchk; rw [if_pos hc, if_pos e]))
          · exact groupSays_a1 m v v2 v3 gss xs ys bell w _ _ rfl rfl g3 hA hR h2 h3 hy h1 h12 h8 hc
      · exact groupSays_no m v v2 v3 ys bell _ w h3 hl hz (fun w' hb' => gcheck_ok m v gss w' (hA.below hb') h1 h12 h8) (fun w' hb' => gensMay_ok m v gss w' (hA.below hb') h1 h12 h8)

theorem groupSays_walk (n : Int) (v : Value) (gss : List (List Int)) (v2 : Value) (xs : List Int) (v3 : Value) (ys : List Int) (bell : Int) (w : World) (_ : I64 n) (hA : IntsAll w v gss) (h2 : Ints w v2 xs) (_ : ∀ x, x ∈ xs → I64 x) (h3 : Ints w v3 ys) (hy : ∀ x, x ∈ ys → I64 x) (_ : I64 bell) :
    Calls Try.prog 3 #[.int .i64 n, v, v2, v3, .int .i64 bell] w fun e w' => e = .returned (.bool true) ∧ Below w.heap.size w w' := groupSays_any n v v2 v3 gss xs ys bell w hA h2 h3 hy

end Go.Proofs.Ytimfoggjocajiaa

/- Contracts: the answer's LeadsOf; call.checkLeads. -/
namespace Go.Proofs.Ytimfoggjocajiaa
open Go.RowKit

set_option maxRecDepth 20000 in
set_option maxHeartbeats 2000000 in
theorem leadsOf_ok (v : Value) (xs : List Int) (m k : Nat) (w : World) (h : Ints w v xs) (hx : ∀ x, x ∈ xs → I64 x) (hm : m ≤ 1000) (hk1 : 1 ≤ k) (hk2 : k ≤ 1000) :
    Calls Try.prog 29 #[v, .int .i64 m, .int .i64 k] w fun e w' => ∃ (u : Value) (ls : List Int), e = .returned u ∧ w'.ownsRow w.heap.size 3 1 u m (ls.map (Value.int .i64)) ∧ (∀ l, l ∈ ls → 0 ≤ l ∧ l < (k : Int)) ∧ Below w.heap.size w w' := by
  obtain ⟨i0, hi, hz0, hz1, hz2⟩ := info_parts Try.info3
  obtain ⟨p0, c0, rfl⟩ := h.form
  have HI := hide h
  have HX := hide hx
  clear h hx
  go_enter Try.func29, Try.ntmps29
  go_wp2
  go_loopw [7, 8] (fun u i wr => ∃ (j : Nat) (ls : List Int), j ≤ m ∧ i = .int .i64 j ∧ Hid (wr.ownsRow w.heap.size 3 1 u j (ls.map (Value.int .i64))) ∧ Hid (∀ l, l ∈ ls → 0 ≤ l ∧ l < (k : Int)) ∧ Below w.heap.size w wr) (fun _ i _ => m - (intOf i).toNat)
  case atStart => exact ⟨0, [], by omega, rfl, World.ownsRow_nil _ _ _ _, (fun l h => by cases h), Below.refl _ _⟩
  case round =>
    obtain ⟨j, ls, hj, rfl, hO, hL, hbw⟩ := hrel
    have hbs := hbw.size
    have hrow := hO.out
    obtain ⟨up, uc, rfl⟩ := owns_slice hrow
    by_cases hlt : j < m
    · have HRW := hide (raw_any _ xs j wr (HI.out.below hbw) HX.out (by omega))
      go_wp2_with fail
      refine HRW.out.mono ?_
      rintro e wa ⟨x, hxi, rfl, rfl⟩
      go_wp2_with fail
      refine (pick_any x (k : Int) _ hxi.1 hxi.2 (by omega) (by omega)).mono ?_
      rintro e wa ⟨q, hq0, hq1, rfl, rfl⟩
      go_wp2_with (at_builtin; refine wpList_append_own _ rfl _ _ 23 rfl w.heap.size 3 i0 (.int .i64 0) 1 8 Try.underlying23 hi hz0 hz1 hz2 rfl (by decide) _ _ _ rfl (hrow.alloc _) ⟨wr.heap.size, 0, none⟩ 1 1 [.int .i64 q] rfl rfl ?c1 ?c2 ?c3 ?c4 ?c5 ?_)
      case c1 => exact cell_one_new _ _ _
      case c2 => intro u hu; simp at hu; subst hu; rfl
      case c3 => unfold maxLen; omega
      case c4 => omega
      case c5 => simp; omega
      · intro v' w1 hown' hgrow _
        have HO : Hid (w1.ownsRow w.heap.size 3 1 v' (j + 1) ((ls ++ [q]).map (Value.int .i64))) := by show World.ownsRow _ _ _ _ _ _ _; rw [List.map_append]; exact hown'
        have HL2 : Hid (∀ l, l ∈ ls ++ [q] → 0 ≤ l ∧ l < (k : Int)) := fun l h => by
          rcases List.mem_append.1 h with h | h
          · exact hL.out l h
          · rw [List.mem_singleton] at h; rw [h]; exact ⟨hq0, hq1⟩
        have HB1 : Hid (Below w.heap.size w w1) := (hbw.alloc hbw.size _).grown hgrow (by simp; omega) (fun g hg => (hrow.lt g hg).1)
        clear hown' hgrow hrow hO
        go_wp2
        go_roundw
        case rel => exact ⟨j + 1, ls ++ [q], by omega, by go_num, HO, HL2, HB1.out⟩
        case measure => simp [intOf]; omega
    · obtain rfl : j = m := by omega
      go_wp2
      go_ret
      exact ⟨_, ls, rfl, hrow, hL.out, hbw⟩

end Go.Proofs.Ytimfoggjocajiaa

/- GroupMade answers true at every input. -/
namespace Go.Proofs.Ytimfoggjocajiaa
open Go.RowKit

set_option maxRecDepth 20000 in
theorem groupMade_long (v : Value) (xs : List Int) (a1 a2 a3 : Int) (w : World) (h : Ints w v xs) (hl : 256 < xs.length) :
    Calls Try.prog 4 #[v, .int .i64 a1, .int .i64 a2, .int .i64 a3] w fun e w' => Told w e w' := by
  obtain ⟨p, c, rfl⟩ := h.form
  have hl' : (256 : Int) < (xs.length : Int) := by omega
  clear h
  go_enter Try.func4, Try.ntmps4
  go_wp2
  go_ret
  exact ⟨rfl, Below.refl _ _⟩

set_option maxRecDepth 20000 in
set_option maxHeartbeats 4000000 in
theorem groupMade_ok (v : Value) (xs : List Int) (a1 a2 a3 : Int) (w : World) (h : Ints w v xs) (hx : ∀ x, x ∈ xs → I64 x) (hl : xs.length ≤ 256) (i1 : I64 a1) (i2 : I64 a2) (i3 : I64 a3) :
    Calls Try.prog 4 #[v, .int .i64 a1, .int .i64 a2, .int .i64 a3] w fun e w' => Told w e w' := by
  have HI := hide h
  have HX := hide hx
  have HI3 := hide i3
  obtain ⟨p, c, rfl⟩ := h.form
  obtain ⟨l1, r1⟩ := i1
  obtain ⟨l2, r2⟩ := i2
  obtain ⟨l3, r3⟩ := i3
  have hl' : ¬ ((256 : Int) < (xs.length : Int)) := by omega
  clear h hx
  go_enter Try.func4, Try.ntmps4
  go_wp2_with fail
  refine (pick_any a1 6 _ l1 r1 (by omega) (by omega)).mono ?_
  rintro ex wp ⟨k1, k1a, k1b, rfl, rfl⟩
  obtain ⟨n0, rfl⟩ := Int.eq_ofNat_of_zero_le k1a
  obtain ⟨n, hn⟩ : ∃ n : Nat, n = n0 + 1 := ⟨_, rfl⟩
  have hnI : (1 : Int) + (n0 : Int) = (n : Int) := by omega
  have h1 : 1 ≤ n := by omega
  have h12 : n ≤ 12 := by omega
  clear hn k1a k1b l1 r1
  go_wp2_with fail
  refine (pick_any a2 4 _ l2 r2 (by omega) (by omega)).mono ?_
  rintro ex wp ⟨k2, k2a, k2b, rfl, rfl⟩
  obtain ⟨m, rfl⟩ := Int.eq_ofNat_of_zero_le k2a
  have hm4 : m < 4 := by omega
  have HR1 : Hid (Calls Try.prog 27 #[.slice p xs.length c, .int .i64 0, .int .i64 n, .int .i64 m] w fun e w' => ∃ u vs xss, e = .returned u ∧ RowsRel w w' n m u vs xss) := rowsOf_ok2 (.slice p xs.length c) xs 0 n m w HI.out HX.out (by omega) h1 h12 (by omega)
  clear k2a k2b l2 r2
  go_wp2_with fail
  refine HR1.out.mono ?_
  rintro ex w1 ⟨u1, vs1, gss, rfl, hR1⟩
  have hB1 := hR1.below
  have HA1 := hide hR1.all'.1
  have HRo := hide (rowOf_ok a3 n w1 HI3.out h12)
  clear HR1 hR1
  go_wp2_with fail
  refine HRo.out.mono ?_
  rintro ex w2 ⟨vk, X, rfl, _, _, hown, hb2⟩
  have hB2 := hB1.trans (hb2.mono hB1.size)
  have HA2 := hide (HA1.out.below hb2)
  have HX2 := hide (Ints.own hown)
  have HLd := hide (leadsOf_ok (.slice p xs.length c) xs 9 3 w2 (HI.out.below hB2) HX.out (by omega) (by omega) (by omega))
  clear hown hb2 hB1 HA1 HRo
  go_wp2_with fail
  refine HLd.out.mono ?_
  rintro ex w3 ⟨vl, ls, rfl, hown, hls, hb3⟩
  have hB3 := hB2.trans (hb3.mono hB2.size)
  have HL3 := hide (Ints.own hown)
  have HLS : Hid (∀ x, x ∈ ls → I64 x) := fun x hx => by have := hls x hx; exact ⟨by omega, by omega⟩
  have HA3 := hide (HA2.out.below hb3)
  have HX3 := hide (HX2.out.below hb3)
  have HPk := hide (pick_any a3 n w3 l3 r3 (by omega) (by omega))
  clear hown hls hb3 hB2 HA2 HX2 HLd
  go_wp2_with fail
  refine HPk.out.mono ?_
  rintro ex wp ⟨k3, k3a, k3b, rfl, rfl⟩
  have HGS := hide (groupSays_any n u1 vk vl gss X ls k3 w3 HA3.out HX3.out HL3.out HLS.out)
  clear HPk
  go_wp2_with fail
  refine HGS.out.mono ?_
  rintro ex w4 ⟨rfl, hb4⟩
  have HB4 := hide (hB3.trans (hb4.mono hB3.size))
  clear hb4
  go_wp2
  go_ret
  exact ⟨rfl, HB4.out⟩

theorem groupMade_walk (v : Value) (xs : List Int) (a1 a2 a3 : Int) (w : World) (h : Ints w v xs) (hx : ∀ x, x ∈ xs → I64 x) (i1 : I64 a1) (i2 : I64 a2) (i3 : I64 a3) :
    Calls Try.prog 4 #[v, .int .i64 a1, .int .i64 a2, .int .i64 a3] w fun e w' => e = .returned (.bool true) ∧ Below w.heap.size w w' := by
  by_cases hl : 256 < xs.length
  · exact groupMade_long v xs a1 a2 a3 w h hl
  · exact groupMade_ok v xs a1 a2 a3 w h hx (by omega) i1 i2 i3

end Go.Proofs.Ytimfoggjocajiaa
