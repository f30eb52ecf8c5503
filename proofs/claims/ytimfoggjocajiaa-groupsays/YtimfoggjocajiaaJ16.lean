/- Joined: GeV, GrD, GrE, GrF, GMay, May, GrG. -/
import Derived.Test.YtimfoggjocajiaaJ15
import Derived.Test.YtimfoggjocajiaaJ5
import Derived.Test.YtimfoggjocajiaaJ2
/- Contract: a group's Still where the bell is none. -/
namespace Go.Proofs.Ytimfoggjocajiaa
open Go.RowKit

set_option maxRecDepth 20000 in
set_option maxHeartbeats 2000000 in
theorem still_low (n : Nat) (bell : Int) (v : Value) (gs : List Pm) (w : World) (hb : bell < 0) (hG : GroupAt w v n gs) :
    Calls Try.prog 52 #[v, .int .i64 bell] w fun e w' => e = .returned (.tuple #[.pointer none, .int .i64 12]) ∧ Below w.heap.size w w' := by
  obtain ⟨g1, vg1, B1, c1, bs1, C1, st1, rfl, hg1, a10, a11, a12, hP1, hC1, hb1, rfl⟩ := hG
  clear hP1 hC1 hb1 a12 a11
  have hd0 : decide (bell < 0) = true := decide_eq_true hb
  have hBX : Below w.heap.size w ((w.alloc (.cells #[.pointer (some ⟨g1, 0, none⟩)] 24)).alloc (.cells #[.int .i64 bell] 3)) := ((Below.refl _ _).alloc (Nat.le_refl _) _).alloc (by simp) _
  have HBX := hide hBX
  clear hBX
  go_enter Try.func52, Try.ntmps52
  go_wp2
  go_quiet (fail)
  go_wp2
  go_ret2
  exact ⟨rfl, HBX.out.trans ((below_dN _ nq).mono HBX.out.size)⟩

set_option maxRecDepth 20000 in
set_option maxHeartbeats 2000000 in
theorem still_high (n : Nat) (bell : Int) (v : Value) (gs : List Pm) (w : World) (h12 : n ≤ 12) (hb : (n : Int) ≤ bell) (hG : GroupAt w v n gs) :
    Calls Try.prog 52 #[v, .int .i64 bell] w fun e w' => e = .returned (.tuple #[.pointer none, .int .i64 12]) ∧ Below w.heap.size w w' := by
  obtain ⟨g1, vg1, B1, c1, bs1, C1, st1, rfl, hg1, a10, a11, a12, hP1, hC1, hb1, rfl⟩ := hG
  clear hP1 hC1 hb1 a12 a11
  have hd0 : decide (bell < 0) = false := decide_eq_false (by omega)
  have hd1 : decide ((n : Int) ≤ bell) = true := decide_eq_true hb
  have hBX : Below w.heap.size w ((w.alloc (.cells #[.pointer (some ⟨g1, 0, none⟩)] 24)).alloc (.cells #[.int .i64 bell] 3)) := ((Below.refl _ _).alloc (Nat.le_refl _) _).alloc (by simp) _
  have k2 : ((w.alloc (.cells #[.pointer (some ⟨g1, 0, none⟩)] 24)).alloc (.cells #[.int .i64 bell] 3)).cell? ⟨w.heap.size, 0, none⟩ = some (.pointer (some ⟨g1, 0, none⟩)) := by
    rw [cell_of_row _ w.heap.size 0 _ _ _ ((Below.heap_alloc _ _ _ (by simp)).trans (heap_alloc_new w _))]; rfl
  have k3 : ((w.alloc (.cells #[.pointer (some ⟨g1, 0, none⟩)] 24)).alloc (.cells #[.int .i64 bell] 3)).cell? ⟨w.heap.size + 1, 0, none⟩ = some (.int .i64 bell) := by
    have := heap_alloc_new (w.alloc (.cells #[.pointer (some ⟨g1, 0, none⟩)] 24)) (.cells #[.int .i64 bell] 3)
    rw [show (w.alloc (.cells #[.pointer (some ⟨g1, 0, none⟩)] 24)).heap.size = w.heap.size + 1 from by simp] at this
    rw [cell_of_row _ (w.heap.size + 1) 0 _ _ _ this]; rfl
  go_enter Try.func52, Try.ntmps52
  go_wp2
  change Code.wp _ _ _ _ ((w.alloc (.cells #[.pointer (some ⟨g1, 0, none⟩)] 24)).alloc (.cells #[.int .i64 bell] 3))
  generalize (w.alloc (.cells #[.pointer (some ⟨g1, 0, none⟩)] 24)).alloc (.cells #[.int .i64 bell] 3) = X0 at *
  have k10 : X0.cell? ⟨g1, 0, none⟩ = some (.int .i64 (n : Int)) := (hBX.cell (p := ⟨g1, 0, none⟩) hg1).trans a10
  have HBX := hide hBX
  clear hBX a10
  go_quiet (fail)
  go_wp2
  go_ret2
  exact ⟨rfl, HBX.out.trans ((below_dN _ nq).mono HBX.out.size)⟩

end Go.Proofs.Ytimfoggjocajiaa

/- The walk of groupRows where the group's rows are told. -/
namespace Go.Proofs.Ytimfoggjocajiaa
open Go.RowKit

theorem run_ptr_nil (w : World) : (binOp BinOp.eql 24 (.pointer none) (.pointer none)).run Try.prog w = .ok (.bool true) w := by kernel_rfl

set_option maxRecDepth 20000 in
set_option maxHeartbeats 8000000 in
theorem groupRows_a (v vg vr : Value) (n : Nat) (gss : List (List Int)) (xs : List Int) (bell : Int) (w : World) (h : GLaw w v vg vr n gss xs) (hz : rchk n xs ≠ 0) (hs : sz (Gen (fun y => y ∈ gss.map pad)) n ≤ 5040) :
    Calls Try.prog 25 #[v, .int .i64 n, vg, vr, .int .i64 (rchk n xs), .int .i64 bell, .int .i64 ((sz (Gen (fun y => y ∈ gss.map pad)) n : Nat) : Int)] w fun e w' => Told w e w' := by
  have h12 := h.twelve
  have h1 := h.one
  have h8 := h.eight
  have q1 := run_ptr_ne
  have q2 := run_ptr_nil
  obtain ⟨i0, hi, hz0, hz1, hz2⟩ := info_parts Try.info23
  have hgl : (gss.map pad).length ≤ 1000000 := by rw [List.length_map]; omega
  have HGL := hide hgl
  have HG := hide h.grp
  have HGR := hide h.rows
  have HXr := hide h.row
  have HW := hide (word_ok n v vr (gss.map pad) xs w h12 hgl h.grp h.row)
  have HE : Hid (∀ w', Below w.heap.size w w' → Calls Try.prog 56 #[v] w' fun e w'' => ElPost n (gss.map pad) w' e w'') := fun w' hb => elements_ok n v _ w' h12 (h.grp.below hb (Nat.le_refl _))
  have HCd : Hid (∀ w', Below w.heap.size w w' → Calls Try.prog 31 #[.int .i64 n, vg, .int .i64 5040] w' fun e w'' => ClosedPost n gss 5040 w' e w'') := fun w' hb => closed_ok n 5040 vg gss w' (h.gens.below hb) h.rows h1 h12 (by omega) (by omega) (by omega)
  have HO : Hid (∀ w', Below w.heap.size w w' → Calls Try.prog 53 #[v] w' fun e w'' => ∃ (u : Value) (vs : List Value), e = .returned u ∧ LL w'' w'.heap.size u vs ((orbsTo (gss.map pad) n n).map natI) ∧ Below w'.heap.size w' w'') := fun w' hb => orbits_ok n v _ w' h12 (h.grp.below hb (Nat.le_refl _))
  have HS := hide hs
  have HZ := hide hz
  have hne : (rchk n xs == 0) = false := beq_eq_false_iff_ne.2 hz
  have hbn : (rchk n xs != 0) = true := by rw [bne_iff_ne]; exact hz
  generalize hsz : sz (Gen (fun y => y ∈ gss.map pad)) n = z at *
  have HSZ := hide hsz
  have hsI : ¬ ((5040 : Int) < (z : Int)) := by omega
  clear h hsz hgl hz
  generalize hfz : rchk n xs = fz at *
  have HFZ := hide hfz
  clear hfz
  go_enter Try.func25, Try.ntmps25
  go_wp2_with fail
  refine HW.out.mono ?_
  rintro ex w1 ⟨hb1, hpost⟩
  rw [HFZ.out] at hpost
  obtain rfl : ex = .returned (.tuple #[.slice none 0 0, .int .i64 fz]) := by
    rcases hpost with h | h | h | h
    · exact h.2
    · exact absurd h.1 HZ.out
    · exact absurd h.1 HZ.out
    · exact absurd h.1 HZ.out
  clear hpost HW
  go_wp2_with fail
  refine (HE.out w1 hb1).mono ?_
  rintro ex w2 ⟨hb2, hpost⟩
  rw [HSZ.out, if_neg (by have := HS.out; omega)] at hpost
  obtain ⟨ve, vse, X, rfl, hXl, hXn, hXm, hXs, hLE⟩ := hpost
  have hB2 := hb1.trans (hb2.mono hb1.size)
  have HLE := hide hLE.ints
  clear hLE hb1 hb2
  go_wp2_with fail
  refine (HCd.out w2 hB2).mono ?_
  rintro ex w3 ⟨hb3, hpost⟩
  obtain ⟨vrs, vws, S, rfl, hAr, hAw, hF⟩ : ∃ vr vw S, ex = .returned (.tuple #[vr, vw]) ∧ IntsAll w3 vr (S.map (fun e => cut n e.1)) ∧ IntsAll w3 vw (S.map (·.2)) ∧ Found n gss S := by
    rcases hpost with ⟨vr, vw, S, h1', h2', h3', h4', _⟩ | ⟨_, S, h1', h2'⟩
    · exact ⟨vr, vw, S, h1', h2', h3', Found.of h12 HGR.out h4'⟩
    · have := found_few h12 HGR.out h1'
      rw [HSZ.out] at this
      have := HS.out
      omega
  have hSl : S.length = z := by rw [← HSZ.out]; exact hF.size h12
  have HF := hide hF
  have hB3 := hB2.trans (hb3.mono hB2.size)
  have HXF : Hid (∀ x, x ∈ X → Fixes (fun b => n ≤ b) x) := fun x hx => gens_fix h12 HGR.out ((hXm x).1 hx)
  have HOrd := hide (rordered_all vrs _ w3 hAr (by rw [List.length_map]; have := HS.out; omega) (fun r hr => by have := (hF.rows h12 r hr).1; omega))
  obtain ⟨R, hR⟩ : ∃ R, R = S.map (fun e => cut n e.1) := ⟨_, rfl⟩
  rw [← hR] at hAr HOrd
  have hRl : R.length = z := by rw [hR, List.length_map]; exact hSl
  have HRows : Hid (∀ r, r ∈ R → r.length = n ∧ ∀ j, j < n → ∃ m : Nat, m < n ∧ r.getD j 0 = (m : Int)) := by
    show ∀ r, r ∈ R → _
    rw [hR]; exact hF.rows h12
  have HR := hide hR
  have HRL := hide hRl
  have HSL := hide hSl
  have HAr := hide hAr
  have HAw := hide hAw
  have HLE3 := hide (HLE.out.below hb3)
  have HXM := hide hXm
  have HXS := hide hXs
  have HXN := hide hXn
  clear hpost hAr hAw hF hR hRl hSl hXm hXs hXn hXl hb3 HLE HCd HE
  go_wp2_with fail
  refine HOrd.out.mono ?_
  rintro ex w4 ⟨vo, Y, rfl, hAo, hYp, hYs, hb4⟩
  have hYe : X.map (cut n) = Y := group_ordered h12 HXF.out HXN.out HXS.out HF.out.nodup (fun x => (HXM.out x).trans (HF.out.mem x).symm) (by rw [HR.out]; exact Found.cuts n S) hYp hYs
  have HSa := hide (sameAll_any ve vo (X.map (cut n)) Y w4 (HLE3.out.below hb4) hAo)
  rw [decide_eq_true hYe] at HSa
  have hB4 := hB3.trans (hb4.mono hB3.size)
  have HB34 := hide hb4
  clear hAo hYp hYs hYe hb4 HOrd HLE3
  go_wp2_with fail
  refine HSa.out.mono ?_
  rintro ex w5 ⟨rfl, hb5⟩
  have hB5 := hB4.trans (hb5.mono hB4.size)
  have HB35 := hide (HB34.out.trans (hb5.mono HB34.out.size))
  clear hb5 HSa hB4 HB34
  go_wp2_with fail
  refine (HO.out w5 hB5).mono ?_
  rintro ex w6 ⟨vob, vobs, rfl, hLO, hb6⟩
  have hB6 := hB5.trans (hb6.mono hB5.size)
  have HB36 := hide (HB35.out.trans (hb6.mono HB35.out.size))
  have HRo := hide (rorbits_ok n vrs R w6 (HAr.out.below HB36.out) h1 h12 HRows.out (by rw [HRL.out]; have := HS.out; omega) (by rw [HRL.out, ← HSL.out]; exact HF.out.pos))
  have HLO := hide hLO.ints
  clear hLO hb6 hB5 HB35 HO
  go_wp2_with fail
  refine HRo.out.mono ?_
  rintro ex w7 ⟨vro, vros, rfl, hLR, hb7⟩
  have hB7 := hB6.trans (hb7.mono hB6.size)
  have HB37 := hide (HB36.out.trans (hb7.mono HB36.out.size))
  have HSb := hide (sameAll_any vob vro _ _ w7 (HLO.out.below hb7) hLR.ints)
  have hoe : (orbsTo (gss.map pad) n n).map natI = (rorbsTo R n n).map natI := by rw [HR.out, HF.out.orbits h12]
  rw [decide_eq_true hoe] at HSb
  clear hLR hb7 hB6 HRo HLO hoe HB36
  go_wp2_with fail
  refine HSb.out.mono ?_
  rintro ex w8 ⟨rfl, hb8⟩
  have hB8 := hB7.trans (hb8.mono hB7.size)
  have hB38 := HB37.out.trans (hb8.mono HB37.out.size)
  have hs8 := hB8.size
  have HB8 := hide hB8
  have hAr8 := HAr.out.below hB38
  have hAw8 := HAw.out.below hB38
  have hzp : 1 ≤ z := by rw [← HSL.out]; exact HF.out.pos
  have hz5 : z ≤ 5040 := HS.out
  obtain ⟨pr, Nr, cr, rfl⟩ : ∃ p N c, vrs = .slice p N c := by obtain ⟨p, c, e⟩ := hAr8.len; exact ⟨p, _, c, e⟩
  obtain ⟨gr, offr, rfl, hNr, hcr1, hcr2, hgr, hcell⟩ := hAr8.rowI (by rw [HRL.out]; exact hzp)
  rw [HRL.out] at hNr hcr1
  have hNr' := hNr.symm
  subst hNr'
  obtain ⟨pw, Nw, cw, rfl⟩ : ∃ p N c, vws = .slice p N c := by obtain ⟨p, c, e⟩ := hAw8.len; exact ⟨p, _, c, e⟩
  obtain ⟨gw, offw, rfl, hNw, hcw1, hcw2, hgw, hcellw⟩ := hAw8.rowI (by rw [List.length_map, HSL.out]; exact hzp)
  rw [List.length_map, HSL.out] at hNw hcw1
  have hNw' := hNw.symm
  subst hNw'
  have HCL := hide hcell
  have HCW := hide hcellw
  have HX8 := hide (HXr.out.below hB8)
  have HG8 := hide (HG.out.below hB8 (Nat.le_refl _))
  clear hcell hcellw hAr8 hAw8 hB38 hb8 hB8 hB7 hB2 hB3 HSb HB37 HAr HAw
  go_wp2
  go_loopw [21, 22] (fun sa si wr => sa = .int .i64 (-1) ∧ si = .int .i64 0 ∧ wr = w8) (fun _ _ _ => 0)
  case atStart => exact ⟨rfl, rfl, rfl⟩
  case round =>
    obtain ⟨rfl, rfl, hww⟩ := hrel
    have hww' := hww.symm
    subst hww'
    have hzI : (0 : Int) < (z : Int) := by omega
    have hbw : Below w8.heap.size w8 w8 := Below.refl _ _
    clear hww
    rcases (show bell < 0 ∨ (n : Int) ≤ bell ∨ (0 ≤ bell ∧ bell < (n : Int)) by omega) with hbl | hbl | hbl
    · have HSt := hide (still_low n bell v (gss.map pad) w8 hbl (HG8.out.below hbw (Nat.le_refl _)))
      go_wp2_with fail
      refine HSt.out.mono ?_
      rintro ex w13 ⟨rfl, hb13⟩
      have HBf := hide (HB8.out.trans ((hbw.trans (hb13.mono hbw.size)).mono hs8))
      clear hb13
      go_wp2
      go_ret
      exact ⟨rfl, HBf.out⟩
    · have hbl0 : ¬ bell < 0 := by omega
      have HSt := hide (still_high n bell v (gss.map pad) w8 h12 hbl (HG8.out.below hbw (Nat.le_refl _)))
      go_wp2_with fail
      refine HSt.out.mono ?_
      rintro ex w13 ⟨rfl, hb13⟩
      have HBf := hide (HB8.out.trans ((hbw.trans (hb13.mono hbw.size)).mono hs8))
      clear hb13
      go_wp2
      go_ret
      exact ⟨rfl, HBf.out⟩
    · obtain ⟨bl, rfl⟩ := Int.eq_ofNat_of_zero_le hbl.1
      have hbn' : bl < n := by omega
      have hd0 : decide ((bl : Int) < 0) = false := decide_eq_false (by omega)
      have hd1 : decide (n ≤ bl) = false := decide_eq_false (by omega)
      have hd2 : decide ((n : Int) ≤ (bl : Int)) = false := decide_eq_false (by omega)
      have HSt := hide (still_ok n bl v (gss.map pad) w8 h1 h12 hbn' HGL.out (HG8.out.below hbw (Nat.le_refl _)))
      clear hbl
      go_wp2_with fail
      refine HSt.out.mono ?_
      rintro ex w13 ⟨v13, hsg, rfl, hGS, hst, hb13⟩
      have hB13 : Below w8.heap.size w8 w13 := hbw.trans (hb13.mono hbw.size)
      have HGS := hide hGS
      have HSTA := hide hst
      obtain ⟨gb2, _, _, _, _, _, _, rfl, _⟩ := hGS
      have HCL13 : Hid (∀ i r, R[i]? = some r → ∃ u, w13.cell? ⟨gr, offr + i, none⟩ = some u ∧ Ints w13 u r) := fun i r hr => by
        obtain ⟨u, h1', h2'⟩ := HCL.out i r hr
        exact ⟨u, (hB13.cell (p := ⟨gr, offr + i, none⟩) hgr).trans h1', h2'.below hB13⟩
      have HB13 := hide (HB8.out.trans (hB13.mono hs8))
      have hgr13 : gr < w13.heap.size := Nat.lt_of_lt_of_le hgr hB13.size
      clear hst hb13 hB13 HSt hbw HCL HCW hgr
      go_wp2
      go_loopw [25, 26] (fun su si wr => ∃ (i : Nat) (u : Value) (vs : List Value), i ≤ z ∧ su = u ∧ si = .int .i64 i ∧ StayR w13 wr u vs bl i R) (fun _ si _ => z - (intOf si).toNat)
      case atStart => exact ⟨0, _, [], Nat.zero_le _, rfl, rfl, StayR.start w13 bl R⟩
      case round =>
        obtain ⟨i, u, vs, hiz, rfl, rfl, hSR⟩ := hrel
        have hsr := hSR.below.size
        by_cases hit : i < z
        · obtain ⟨r, hr⟩ : ∃ r, R[i]? = some r := ⟨_, List.getElem?_eq_getElem (by rw [HRL.out]; exact hit)⟩
          obtain ⟨u2, hcu, hiu⟩ := HCL13.out i r hr
          obtain ⟨hrl, hrm⟩ := HRows.out r (List.mem_of_getElem? hr)
          obtain ⟨m, hmn, hm⟩ := hrm bl hbn'
          have hcu' := (hSR.below.cell (p := ⟨gr, offr + i, none⟩) hgr13).trans hcu
          have HIU := hide hiu
          obtain ⟨p2, c2, e2⟩ := hiu.form
          subst e2
          obtain ⟨b2, o2, rfl, hl1, hl2, hl3, hl4⟩ := hiu.open (by omega)
          have hcm := (hSR.below.cell (p := ⟨b2, o2 + bl, none⟩) hl3).trans (hl4 bl (by omega))
          rw [hm] at hcm
          have HRI := hide hr
          have HM := hide hm
          have HSR := hide hSR
          rw [hrl] at hcu' hl1
          have HRLN := hide hrl
          have hvl : vs.length ≤ 5040 := by
            have h1' := hSR.len
            have h2' := stayL_length bl (R.take i)
            rw [List.length_take] at h2'
            omega
          clear hcu hiu hrm hm hr hl4 hSR hrl
          by_cases hmb : m = bl
          · have HM2 : Hid (r.getD bl 0 = (bl : Int)) := by show _ = _; rw [HM.out, hmb]
            rw [hmb] at hcm
            clear HM hmb hmn
            have HIU' : Hid (Ints w13 (.slice (some ⟨b2, o2, none⟩) n c2) r) := by show Ints _ _ _; have := HIU.out; rw [HRLN.out] at this; exact this
            have HrS := hide HSR.out.row
            go_wp2_with (at_builtin; go_loud (refine wpList_append_own _ rfl _ _ 22 rfl w13.heap.size 23 i0 (.slice none 0 0) 1 24 Try.underlying22 hi hz0 hz1 hz2 rfl (by decide) _ _ _ rfl (HrS.out.alloc _) ⟨wr.heap.size, 0, none⟩ 1 1 [.slice (some ⟨b2, o2, none⟩) n c2] rfl rfl ?d1 ?d2 ?d3 ?d4 ?d5 ?_))
            case d1 => exact cell_one_new _ _ _
            case d2 => intro u hu; simp at hu; subst hu; rfl
            case d3 => unfold maxLen; omega
            case d4 => omega
            case d5 => simp; omega
            intro v9 w9 hown9 hg9 _
            have HS9 := hide (HSR.out.more HRI.out HM2.out HIU'.out hown9 hg9)
            clear hown9 hg9
            go_wp2
            go_roundw
            case rel =>
              have hfin : ∃ (i' : Nat) (u : Value) (vs : List Value), i' ≤ z ∧ v9 = u ∧ Value.int .i64 ((i : Int) + 1) = .int .i64 (i' : Int) ∧ StayR w13 w9 u vs bl i' R := ⟨i + 1, _, _, hit, rfl, by go_num, HS9.out⟩
              first
                | exact hfin
                | ((repeat apply Exists.intro); exact ⟨hfin, rfl⟩)
            case measure => simp [intOf]; omega
          · have hmbI : ¬ (m : Int) = (bl : Int) := by omega
            have HS9 := hide (HSR.out.same HRI.out (by rw [HM.out]; exact hmbI))
            go_wp2
            go_roundw
            case rel =>
              have hfin : ∃ (i' : Nat) (u : Value) (vs : List Value), i' ≤ z ∧ u25 = u ∧ Value.int .i64 ((i : Int) + 1) = .int .i64 (i' : Int) ∧ StayR w13 wr u vs bl i' R := ⟨i + 1, _, vs, hit, rfl, by go_num, HS9.out⟩
              first
                | exact hfin
                | ((repeat apply Exists.intro); exact ⟨hfin, rfl⟩)
            case measure => simp [intOf]; omega
        · obtain rfl : i = z := by omega
          have hRi := HRL.out
          have hdn : StayR w13 wr u25 vs bl R.length R := by rw [hRi]; exact hSR
          have HAst := hide hdn.done
          have hb14 := hSR.below
          have HB14 := hide (HB13.out.trans (hb14.mono HB13.out.size))
          have HGS14 := hide (HGS.out.below hb14 (Nat.le_refl _))
          have HEl := hide (elements_ok n _ hsg wr h12 HGS14.out)
          have hszh : sz (Gen (fun y => y ∈ hsg)) n ≤ 5040 := by
            refine Nat.le_trans (sz_mono (H := Gen (fun y => y ∈ gss.map pad)) (fun x hx => ((HSTA.out x).1 hx).1) h12) ?_
            rw [HSZ.out]; exact HS.out
          have HSH := hide hszh
          clear hdn hSR hb14 hszh hRi
          go_wp2_with fail
          refine HEl.out.mono ?_
          rintro ex w15 ⟨hb15, hpost⟩
          rw [if_neg (by have := HSH.out; omega)] at hpost
          obtain ⟨vx, vxs, XX, rfl, hXl, hXn, hXm, hXs, hLX⟩ := hpost
          have HB15 := hide (HB14.out.trans (hb15.mono HB14.out.size))
          have HGb := hide (gbells_ok n _ hsg w15 (HGS14.out.below hb15 (Nat.le_refl _)))
          have HLX := hide hLX.ints
          have HAs2 := hide (HAst.out.below hb15)
          have HXN := hide hXn
          have HXM := hide hXm
          have HXS := hide hXs
          clear hXl hXn hXm hXs hLX hb15 HEl HAst
          go_wp2_with fail
          refine HGb.out.mono ?_
          rintro ex w16 ⟨rfl, hw16⟩
          subst hw16
          have HOd := hide (rordered_all u25 (stayL bl R) w15 HAs2.out (by have h1' := stayL_length bl R; rw [HRL.out] at h1'; omega) (fun r hr => by have h1' := (HRows.out r ((List.mem_filter.1 hr).1)).1; omega))
          clear HGb HAs2
          go_wp2_with fail
          refine HOd.out.mono ?_
          rintro ex w17 ⟨vo, Y, rfl, hAo, hYp, hYs, hb17⟩
          have HB17 := hide (HB15.out.trans (hb17.mono HB15.out.size))
          have hYe : XX.map (cut n) = Y := by
            refine group_ordered (S := (S.map (·.1)).filter (fun x => decide (x.act bl = bl))) h12 (fun x hx => ?_) HXN.out HXS.out (HF.out.nodup.sublist List.filter_sublist) (fun x => ?_) (R := stayL bl R) ?_ hYp hYs
            · exact gens_fix h12 HGR.out ((HSTA.out x).1 ((HXM.out x).1 hx)).1
            · rw [HXM.out, HSTA.out, List.mem_filter, decide_eq_true_iff, HF.out.mem]
            · rw [HR.out, Found.cuts, stayL_cut h12 hbn']
          have HSc := hide (sameAll_any vx vo (XX.map (cut n)) Y w17 (HLX.out.below hb17) hAo)
          rw [decide_eq_true hYe] at HSc
          clear hAo hYp hYs hYe hb17 HOd HLX
          go_wp2_with fail
          refine HSc.out.mono ?_
          rintro ex w18 ⟨rfl, hb18⟩
          have HB18 := hide (HB17.out.trans (hb18.mono HB17.out.size))
          clear hb18 HSc
          go_wp2
          go_ret
          exact ⟨rfl, HB18.out⟩

end Go.Proofs.Ytimfoggjocajiaa

/- The walk of groupRows where the group's rows are told: the next way. -/
namespace Go.Proofs.Ytimfoggjocajiaa
open Go.RowKit

set_option maxRecDepth 20000 in
set_option maxHeartbeats 8000000 in
theorem groupRows_b (v vg vr : Value) (n : Nat) (gss : List (List Int)) (xs : List Int) (bell : Int) (w : World) (h : GLaw w v vg vr n gss xs) (hz : rchk n xs = 0) (hg : ¬ Gen (fun y => y ∈ gss.map pad) (pad xs)) (hs : sz (Gen (fun y => y ∈ gss.map pad)) n ≤ 5040) :
    Calls Try.prog 25 #[v, .int .i64 n, vg, vr, .int .i64 0, .int .i64 bell, .int .i64 ((sz (Gen (fun y => y ∈ gss.map pad)) n : Nat) : Int)] w fun e w' => Told w e w' := by
  have h12 := h.twelve
  have h1 := h.one
  have h8 := h.eight
  have q1 := run_ptr_ne
  have q2 := run_ptr_nil
  obtain ⟨i0, hi, hz0, hz1, hz2⟩ := info_parts Try.info23
  have hgl : (gss.map pad).length ≤ 1000000 := by rw [List.length_map]; omega
  have HGL := hide hgl
  have HG := hide h.grp
  have HGR := hide h.rows
  have HXr := hide h.row
  have HW := hide (word_ok n v vr (gss.map pad) xs w h12 hgl h.grp h.row)
  have HE : Hid (∀ w', Below w.heap.size w w' → Calls Try.prog 56 #[v] w' fun e w'' => ElPost n (gss.map pad) w' e w'') := fun w' hb => elements_ok n v _ w' h12 (h.grp.below hb (Nat.le_refl _))
  have HCd : Hid (∀ w', Below w.heap.size w w' → Calls Try.prog 31 #[.int .i64 n, vg, .int .i64 5040] w' fun e w'' => ClosedPost n gss 5040 w' e w'') := fun w' hb => closed_ok n 5040 vg gss w' (h.gens.below hb) h.rows h1 h12 (by omega) (by omega) (by omega)
  have HO : Hid (∀ w', Below w.heap.size w w' → Calls Try.prog 53 #[v] w' fun e w'' => ∃ (u : Value) (vs : List Value), e = .returned u ∧ LL w'' w'.heap.size u vs ((orbsTo (gss.map pad) n n).map natI) ∧ Below w'.heap.size w' w'') := fun w' hb => orbits_ok n v _ w' h12 (h.grp.below hb (Nat.le_refl _))
  have HS := hide hs
  have HZ := hide hz
  obtain ⟨hxr, hxl, _, _⟩ := rchk_zero hz
  have HXR := hide hxr
  have HXL := hide hxl
  have HGEN := hide hg
  clear hxr hxl hg
  generalize hsz : sz (Gen (fun y => y ∈ gss.map pad)) n = z at *
  have HSZ := hide hsz
  have hsI : ¬ ((5040 : Int) < (z : Int)) := by omega
  clear h hsz hgl hz
  go_enter Try.func25, Try.ntmps25
  go_wp2_with fail
  refine HW.out.mono ?_
  rintro ex w1 ⟨hb1, hpost⟩
  obtain rfl : ex = .returned (.tuple #[.slice none 0 0, .int .i64 14]) := by
    rcases hpost with h | h | h | h
    · exact absurd HZ.out h.1
    · exact h.2.2
    · exact absurd h.2.1 HGEN.out
    · exact absurd h.2.1 HGEN.out
  clear hpost HW
  go_wp2_with fail
  refine (HE.out w1 hb1).mono ?_
  rintro ex w2 ⟨hb2, hpost⟩
  rw [HSZ.out, if_neg (by have := HS.out; omega)] at hpost
  obtain ⟨ve, vse, X, rfl, hXl, hXn, hXm, hXs, hLE⟩ := hpost
  have hB2 := hb1.trans (hb2.mono hb1.size)
  have HLE := hide hLE.ints
  clear hLE hb1 hb2
  go_wp2_with fail
  refine (HCd.out w2 hB2).mono ?_
  rintro ex w3 ⟨hb3, hpost⟩
  obtain ⟨vrs, vws, S, rfl, hAr, hAw, hF⟩ : ∃ vr vw S, ex = .returned (.tuple #[vr, vw]) ∧ IntsAll w3 vr (S.map (fun e => cut n e.1)) ∧ IntsAll w3 vw (S.map (·.2)) ∧ Found n gss S := by
    rcases hpost with ⟨vr, vw, S, h1', h2', h3', h4', _⟩ | ⟨_, S, h1', h2'⟩
    · exact ⟨vr, vw, S, h1', h2', h3', Found.of h12 HGR.out h4'⟩
    · have := found_few h12 HGR.out h1'
      rw [HSZ.out] at this
      have := HS.out
      omega
  have hSl : S.length = z := by rw [← HSZ.out]; exact hF.size h12
  have HF := hide hF
  have hB3 := hB2.trans (hb3.mono hB2.size)
  have HXF : Hid (∀ x, x ∈ X → Fixes (fun b => n ≤ b) x) := fun x hx => gens_fix h12 HGR.out ((hXm x).1 hx)
  have HOrd := hide (rordered_all vrs _ w3 hAr (by rw [List.length_map]; have := HS.out; omega) (fun r hr => by have := (hF.rows h12 r hr).1; omega))
  obtain ⟨R, hR⟩ : ∃ R, R = S.map (fun e => cut n e.1) := ⟨_, rfl⟩
  rw [← hR] at hAr HOrd
  have hRl : R.length = z := by rw [hR, List.length_map]; exact hSl
  have HRows : Hid (∀ r, r ∈ R → r.length = n ∧ ∀ j, j < n → ∃ m : Nat, m < n ∧ r.getD j 0 = (m : Int)) := by
    show ∀ r, r ∈ R → _
    rw [hR]; exact hF.rows h12
  have HR := hide hR
  have HRL := hide hRl
  have HSL := hide hSl
  have HAr := hide hAr
  have HAw := hide hAw
  have HLE3 := hide (HLE.out.below hb3)
  have HXM := hide hXm
  have HXS := hide hXs
  have HXN := hide hXn
  clear hpost hAr hAw hF hR hRl hSl hXm hXs hXn hXl hb3 HLE HCd HE
  go_wp2_with fail
  refine HOrd.out.mono ?_
  rintro ex w4 ⟨vo, Y, rfl, hAo, hYp, hYs, hb4⟩
  have hYe : X.map (cut n) = Y := group_ordered h12 HXF.out HXN.out HXS.out HF.out.nodup (fun x => (HXM.out x).trans (HF.out.mem x).symm) (by rw [HR.out]; exact Found.cuts n S) hYp hYs
  have HSa := hide (sameAll_any ve vo (X.map (cut n)) Y w4 (HLE3.out.below hb4) hAo)
  rw [decide_eq_true hYe] at HSa
  have hB4 := hB3.trans (hb4.mono hB3.size)
  have HB34 := hide hb4
  clear hAo hYp hYs hYe hb4 HOrd HLE3
  go_wp2_with fail
  refine HSa.out.mono ?_
  rintro ex w5 ⟨rfl, hb5⟩
  have hB5 := hB4.trans (hb5.mono hB4.size)
  have HB35 := hide (HB34.out.trans (hb5.mono HB34.out.size))
  clear hb5 HSa hB4 HB34
  go_wp2_with fail
  refine (HO.out w5 hB5).mono ?_
  rintro ex w6 ⟨vob, vobs, rfl, hLO, hb6⟩
  have hB6 := hB5.trans (hb6.mono hB5.size)
  have HB36 := hide (HB35.out.trans (hb6.mono HB35.out.size))
  have HRo := hide (rorbits_ok n vrs R w6 (HAr.out.below HB36.out) h1 h12 HRows.out (by rw [HRL.out]; have := HS.out; omega) (by rw [HRL.out, ← HSL.out]; exact HF.out.pos))
  have HLO := hide hLO.ints
  clear hLO hb6 hB5 HB35 HO
  go_wp2_with fail
  refine HRo.out.mono ?_
  rintro ex w7 ⟨vro, vros, rfl, hLR, hb7⟩
  have hB7 := hB6.trans (hb7.mono hB6.size)
  have HB37 := hide (HB36.out.trans (hb7.mono HB36.out.size))
  have HSb := hide (sameAll_any vob vro _ _ w7 (HLO.out.below hb7) hLR.ints)
  have hoe : (orbsTo (gss.map pad) n n).map natI = (rorbsTo R n n).map natI := by rw [HR.out, HF.out.orbits h12]
  rw [decide_eq_true hoe] at HSb
  clear hLR hb7 hB6 HRo HLO hoe HB36
  go_wp2_with fail
  refine HSb.out.mono ?_
  rintro ex w8 ⟨rfl, hb8⟩
  have hB8 := hB7.trans (hb8.mono hB7.size)
  have hB38 := HB37.out.trans (hb8.mono HB37.out.size)
  have hs8 := hB8.size
  have HB8 := hide hB8
  have hAr8 := HAr.out.below hB38
  have hAw8 := HAw.out.below hB38
  have hzp : 1 ≤ z := by rw [← HSL.out]; exact HF.out.pos
  have hz5 : z ≤ 5040 := HS.out
  obtain ⟨pr, Nr, cr, rfl⟩ : ∃ p N c, vrs = .slice p N c := by obtain ⟨p, c, e⟩ := hAr8.len; exact ⟨p, _, c, e⟩
  obtain ⟨gr, offr, rfl, hNr, hcr1, hcr2, hgr, hcell⟩ := hAr8.rowI (by rw [HRL.out]; exact hzp)
  rw [HRL.out] at hNr hcr1
  have hNr' := hNr.symm
  subst hNr'
  obtain ⟨pw, Nw, cw, rfl⟩ : ∃ p N c, vws = .slice p N c := by obtain ⟨p, c, e⟩ := hAw8.len; exact ⟨p, _, c, e⟩
  obtain ⟨gw, offw, rfl, hNw, hcw1, hcw2, hgw, hcellw⟩ := hAw8.rowI (by rw [List.length_map, HSL.out]; exact hzp)
  rw [List.length_map, HSL.out] at hNw hcw1
  have hNw' := hNw.symm
  subst hNw'
  have HCL := hide hcell
  have HCW := hide hcellw
  have HX8 := hide (HXr.out.below hB8)
  have HG8 := hide (HG.out.below hB8 (Nat.le_refl _))
  have HKK : Hid (∀ (i : Nat) (r : List Int), R[i]? = some r → ¬ r = xs) := fun i r hr => by
    rw [HR.out, List.getElem?_map] at hr
    obtain ⟨d, hd, rfl⟩ := Option.map_eq_some_iff.1 hr
    exact HF.out.not h12 HGEN.out i d hd
  clear hcell hcellw hAr8 hAw8 hB38 hb8 hB8 hB7 hB2 hB3 HSb HB37 HAr HAw
  go_wp2
  go_loopw [21, 22] (fun sa si wr => ∃ i : Nat, i ≤ z ∧ sa = .int .i64 (-1) ∧ si = .int .i64 i ∧ Below w8.heap.size w8 wr) (fun _ si _ => z - (intOf si).toNat)
  case atStart => exact ⟨0, Nat.zero_le _, rfl, rfl, Below.refl _ _⟩
  case round =>
    obtain ⟨i, hiz, rfl, rfl, hbw⟩ := hrel
    by_cases hit : i < z
    · obtain ⟨r, hr⟩ : ∃ r, R[i]? = some r := ⟨_, List.getElem?_eq_getElem (by rw [HRL.out]; exact hit)⟩
      obtain ⟨u2, hcu, hiu⟩ := HCL.out i r hr
      have hcu' := (hbw.cell (p := ⟨gr, offr + i, none⟩) hgr).trans hcu
      have HSm := hide (same_any u2 vr r xs wr (hiu.below hbw) (HX8.out.below hbw))
      rw [decide_eq_false (HKK.out i r hr)] at HSm
      have hsw := hbw.size
      clear hcu hiu hr
      go_wp2_with fail
      refine HSm.out.mono ?_
      rintro ex w9 ⟨rfl, hb9⟩
      have HB9 := hide (hbw.trans (hb9.mono hsw))
      clear hb9 hbw HSm
      go_wp2
      go_roundw
      case rel =>
        have hfin : ∃ i' : Nat, i' ≤ z ∧ Value.int .i64 (-1) = .int .i64 (-1) ∧ Value.int .i64 ((i : Int) + 1) = .int .i64 (i' : Int) ∧ Below w8.heap.size w8 w9 := ⟨i + 1, hit, rfl, by go_num, HB9.out⟩
        first
          | exact hfin
          | ((repeat apply Exists.intro); exact ⟨hfin, rfl⟩)
          | exact ⟨i + 1, hit, by go_num, HB9.out⟩
      case measure => simp [intOf]; omega
    · obtain rfl : z = i := by omega
      obtain ⟨W, hW⟩ : ∃ W, W = wr := ⟨_, rfl⟩
      subst hW
      rcases (show bell < 0 ∨ (n : Int) ≤ bell ∨ (0 ≤ bell ∧ bell < (n : Int)) by omega) with hbl | hbl | hbl
      · have HSt := hide (still_low n bell v (gss.map pad) W hbl (HG8.out.below hbw (Nat.le_refl _)))
        go_wp2_with fail
        refine HSt.out.mono ?_
        rintro ex w13 ⟨rfl, hb13⟩
        have HBf := hide (HB8.out.trans ((hbw.trans (hb13.mono hbw.size)).mono hs8))
        clear hb13
        go_wp2
        go_ret
        exact ⟨rfl, HBf.out⟩
      · have hbl0 : ¬ bell < 0 := by omega
        have HSt := hide (still_high n bell v (gss.map pad) W h12 hbl (HG8.out.below hbw (Nat.le_refl _)))
        go_wp2_with fail
        refine HSt.out.mono ?_
        rintro ex w13 ⟨rfl, hb13⟩
        have HBf := hide (HB8.out.trans ((hbw.trans (hb13.mono hbw.size)).mono hs8))
        clear hb13
        go_wp2
        go_ret
        exact ⟨rfl, HBf.out⟩
      · obtain ⟨bl, rfl⟩ := Int.eq_ofNat_of_zero_le hbl.1
        have hbn' : bl < n := by omega
        have hd0 : decide ((bl : Int) < 0) = false := decide_eq_false (by omega)
        have hd1 : decide (n ≤ bl) = false := decide_eq_false (by omega)
        have hd2 : decide ((n : Int) ≤ (bl : Int)) = false := decide_eq_false (by omega)
        have HSt := hide (still_ok n bl v (gss.map pad) W h1 h12 hbn' HGL.out (HG8.out.below hbw (Nat.le_refl _)))
        clear hbl
        go_wp2_with fail
        refine HSt.out.mono ?_
        rintro ex w13 ⟨v13, hsg, rfl, hGS, hst, hb13⟩
        have hB13 : Below w8.heap.size w8 w13 := hbw.trans (hb13.mono hbw.size)
        have HGS := hide hGS
        have HSTA := hide hst
        obtain ⟨gb2, _, _, _, _, _, _, rfl, _⟩ := hGS
        have HCL13 : Hid (∀ i r, R[i]? = some r → ∃ u, w13.cell? ⟨gr, offr + i, none⟩ = some u ∧ Ints w13 u r) := fun i r hr => by
          obtain ⟨u, h1', h2'⟩ := HCL.out i r hr
          exact ⟨u, (hB13.cell (p := ⟨gr, offr + i, none⟩) hgr).trans h1', h2'.below hB13⟩
        have HB13 := hide (HB8.out.trans (hB13.mono hs8))
        have hgr13 : gr < w13.heap.size := Nat.lt_of_lt_of_le hgr hB13.size
        clear hst hb13 hB13 HSt hbw HCL HCW hgr
        go_wp2
        go_loopw [25, 26] (fun su si wr => ∃ (i : Nat) (u : Value) (vs : List Value), i ≤ z ∧ su = u ∧ si = .int .i64 i ∧ StayR w13 wr u vs bl i R) (fun _ si _ => z - (intOf si).toNat)
        case atStart => exact ⟨0, _, [], Nat.zero_le _, rfl, rfl, StayR.start w13 bl R⟩
        case round =>
          obtain ⟨i, u, vs, hiz, rfl, rfl, hSR⟩ := hrel
          have hsr := hSR.below.size
          by_cases hit : i < z
          · obtain ⟨r, hr⟩ : ∃ r, R[i]? = some r := ⟨_, List.getElem?_eq_getElem (by rw [HRL.out]; exact hit)⟩
            obtain ⟨u2, hcu, hiu⟩ := HCL13.out i r hr
            obtain ⟨hrl, hrm⟩ := HRows.out r (List.mem_of_getElem? hr)
            obtain ⟨m, hmn, hm⟩ := hrm bl hbn'
            have hcu' := (hSR.below.cell (p := ⟨gr, offr + i, none⟩) hgr13).trans hcu
            have HIU := hide hiu
            obtain ⟨p2, c2, e2⟩ := hiu.form
            subst e2
            obtain ⟨b2, o2, rfl, hl1, hl2, hl3, hl4⟩ := hiu.open (by omega)
            have hcm := (hSR.below.cell (p := ⟨b2, o2 + bl, none⟩) hl3).trans (hl4 bl (by omega))
            rw [hm] at hcm
            have HRI := hide hr
            have HM := hide hm
            have HSR := hide hSR
            rw [hrl] at hcu' hl1
            have HRLN := hide hrl
            have hvl : vs.length ≤ 5040 := by
              have h1' := hSR.len
              have h2' := stayL_length bl (R.take i)
              rw [List.length_take] at h2'
              omega
            clear hcu hiu hrm hm hr hl4 hSR hrl
            by_cases hmb : m = bl
            · have HM2 : Hid (r.getD bl 0 = (bl : Int)) := by show _ = _; rw [HM.out, hmb]
              rw [hmb] at hcm
              clear HM hmb hmn
              have HIU' : Hid (Ints w13 (.slice (some ⟨b2, o2, none⟩) n c2) r) := by show Ints _ _ _; have := HIU.out; rw [HRLN.out] at this; exact this
              have HrS := hide HSR.out.row
              go_wp2_with (at_builtin; go_loud (refine wpList_append_own _ rfl _ _ 22 rfl w13.heap.size 23 i0 (.slice none 0 0) 1 24 Try.underlying22 hi hz0 hz1 hz2 rfl (by decide) _ _ _ rfl (HrS.out.alloc _) ⟨wr.heap.size, 0, none⟩ 1 1 [.slice (some ⟨b2, o2, none⟩) n c2] rfl rfl ?d1 ?d2 ?d3 ?d4 ?d5 ?_))
              case d1 => exact cell_one_new _ _ _
              case d2 => intro u hu; simp at hu; subst hu; rfl
              case d3 => unfold maxLen; omega
              case d4 => omega
              case d5 => simp; omega
              intro v9 w9 hown9 hg9 _
              have HS9 := hide (HSR.out.more HRI.out HM2.out HIU'.out hown9 hg9)
              clear hown9 hg9
              go_wp2
              go_roundw
              case rel =>
                have hfin : ∃ (i' : Nat) (u : Value) (vs : List Value), i' ≤ z ∧ v9 = u ∧ Value.int .i64 ((i : Int) + 1) = .int .i64 (i' : Int) ∧ StayR w13 w9 u vs bl i' R := ⟨i + 1, _, _, hit, rfl, by go_num, HS9.out⟩
                first
                  | exact hfin
                  | ((repeat apply Exists.intro); exact ⟨hfin, rfl⟩)
              case measure => simp [intOf]; omega
            · have hmbI : ¬ (m : Int) = (bl : Int) := by omega
              have HS9 := hide (HSR.out.same HRI.out (by rw [HM.out]; exact hmbI))
              go_wp2
              go_roundw
              case rel =>
                have hfin : ∃ (i' : Nat) (u : Value) (vs : List Value), i' ≤ z ∧ u25 = u ∧ Value.int .i64 ((i : Int) + 1) = .int .i64 (i' : Int) ∧ StayR w13 wr u vs bl i' R := ⟨i + 1, _, vs, hit, rfl, by go_num, HS9.out⟩
                first
                  | exact hfin
                  | ((repeat apply Exists.intro); exact ⟨hfin, rfl⟩)
              case measure => simp [intOf]; omega
          · obtain rfl : i = z := by omega
            have hRi := HRL.out
            have hdn : StayR w13 wr u25 vs bl R.length R := by rw [hRi]; exact hSR
            have HAst := hide hdn.done
            have hb14 := hSR.below
            have HB14 := hide (HB13.out.trans (hb14.mono HB13.out.size))
            have HGS14 := hide (HGS.out.below hb14 (Nat.le_refl _))
            have HEl := hide (elements_ok n _ hsg wr h12 HGS14.out)
            have hszh : sz (Gen (fun y => y ∈ hsg)) n ≤ 5040 := by
              refine Nat.le_trans (sz_mono (H := Gen (fun y => y ∈ gss.map pad)) (fun x hx => ((HSTA.out x).1 hx).1) h12) ?_
              rw [HSZ.out]; exact HS.out
            have HSH := hide hszh
            clear hdn hSR hb14 hszh hRi
            go_wp2_with fail
            refine HEl.out.mono ?_
            rintro ex w15 ⟨hb15, hpost⟩
            rw [if_neg (by have := HSH.out; omega)] at hpost
            obtain ⟨vx, vxs, XX, rfl, hXl, hXn, hXm, hXs, hLX⟩ := hpost
            have HB15 := hide (HB14.out.trans (hb15.mono HB14.out.size))
            have HGb := hide (gbells_ok n _ hsg w15 (HGS14.out.below hb15 (Nat.le_refl _)))
            have HLX := hide hLX.ints
            have HAs2 := hide (HAst.out.below hb15)
            have HXN := hide hXn
            have HXM := hide hXm
            have HXS := hide hXs
            clear hXl hXn hXm hXs hLX hb15 HEl HAst
            go_wp2_with fail
            refine HGb.out.mono ?_
            rintro ex w16 ⟨rfl, hw16⟩
            subst hw16
            have HOd := hide (rordered_all u25 (stayL bl R) w15 HAs2.out (by have h1' := stayL_length bl R; rw [HRL.out] at h1'; omega) (fun r hr => by have h1' := (HRows.out r ((List.mem_filter.1 hr).1)).1; omega))
            clear HGb HAs2
            go_wp2_with fail
            refine HOd.out.mono ?_
            rintro ex w17 ⟨vo, Y, rfl, hAo, hYp, hYs, hb17⟩
            have HB17 := hide (HB15.out.trans (hb17.mono HB15.out.size))
            have hYe : XX.map (cut n) = Y := by
              refine group_ordered (S := (S.map (·.1)).filter (fun x => decide (x.act bl = bl))) h12 (fun x hx => ?_) HXN.out HXS.out (HF.out.nodup.sublist List.filter_sublist) (fun x => ?_) (R := stayL bl R) ?_ hYp hYs
              · exact gens_fix h12 HGR.out ((HSTA.out x).1 ((HXM.out x).1 hx)).1
              · rw [HXM.out, HSTA.out, List.mem_filter, decide_eq_true_iff, HF.out.mem]
              · rw [HR.out, Found.cuts, stayL_cut h12 hbn']
            have HSc := hide (sameAll_any vx vo (XX.map (cut n)) Y w17 (HLX.out.below hb17) hAo)
            rw [decide_eq_true hYe] at HSc
            clear hAo hYp hYs hYe hb17 HOd HLX
            go_wp2_with fail
            refine HSc.out.mono ?_
            rintro ex w18 ⟨rfl, hb18⟩
            have HB18 := hide (HB17.out.trans (hb18.mono HB17.out.size))
            clear hb18 HSc
            go_wp2
            go_ret
            exact ⟨rfl, HB18.out⟩

end Go.Proofs.Ytimfoggjocajiaa

/- The walk of groupRows where the group's rows are told: the next way. -/
namespace Go.Proofs.Ytimfoggjocajiaa
open Go.RowKit

set_option maxRecDepth 20000 in
set_option maxHeartbeats 8000000 in
theorem groupRows_c (v vg vr : Value) (n : Nat) (gss : List (List Int)) (xs : List Int) (bell : Int) (w : World) (h : GLaw w v vg vr n gss xs) (hz : rchk n xs = 0) (hg : Gen (fun y => y ∈ gss.map pad) (pad xs)) (hs : sz (Gen (fun y => y ∈ gss.map pad)) n ≤ 5040) :
    Calls Try.prog 25 #[v, .int .i64 n, vg, vr, .int .i64 0, .int .i64 bell, .int .i64 ((sz (Gen (fun y => y ∈ gss.map pad)) n : Nat) : Int)] w fun e w' => Told w e w' := by
  have h12 := h.twelve
  have h1 := h.one
  have h8 := h.eight
  have q1 := run_ptr_ne
  have q2 := run_ptr_nil
  obtain ⟨i0, hi, hz0, hz1, hz2⟩ := info_parts Try.info23
  have hgl : (gss.map pad).length ≤ 1000000 := by rw [List.length_map]; omega
  have HGL := hide hgl
  have HG := hide h.grp
  have HGR := hide h.rows
  have HXr := hide h.row
  have HW := hide (word_ok n v vr (gss.map pad) xs w h12 hgl h.grp h.row)
  have HE : Hid (∀ w', Below w.heap.size w w' → Calls Try.prog 56 #[v] w' fun e w'' => ElPost n (gss.map pad) w' e w'') := fun w' hb => elements_ok n v _ w' h12 (h.grp.below hb (Nat.le_refl _))
  have HCd : Hid (∀ w', Below w.heap.size w w' → Calls Try.prog 31 #[.int .i64 n, vg, .int .i64 5040] w' fun e w'' => ClosedPost n gss 5040 w' e w'') := fun w' hb => closed_ok n 5040 vg gss w' (h.gens.below hb) h.rows h1 h12 (by omega) (by omega) (by omega)
  have HO : Hid (∀ w', Below w.heap.size w w' → Calls Try.prog 53 #[v] w' fun e w'' => ∃ (u : Value) (vs : List Value), e = .returned u ∧ LL w'' w'.heap.size u vs ((orbsTo (gss.map pad) n n).map natI) ∧ Below w'.heap.size w' w'') := fun w' hb => orbits_ok n v _ w' h12 (h.grp.below hb (Nat.le_refl _))
  have HS := hide hs
  have HZ := hide hz
  obtain ⟨hxr, hxl, _, _⟩ := rchk_zero hz
  have HXR := hide hxr
  have HXL := hide hxl
  have HGEN := hide hg
  clear hxr hxl hg
  generalize hsz : sz (Gen (fun y => y ∈ gss.map pad)) n = z at *
  have HSZ := hide hsz
  have hsI : ¬ ((5040 : Int) < (z : Int)) := by omega
  clear h hsz hgl hz
  go_enter Try.func25, Try.ntmps25
  go_wp2_with fail
  refine HW.out.mono ?_
  rintro ex w1 ⟨hb1, hpost⟩
  obtain ⟨vd, wd, iw, Sw, rfl, hrun, hmem, hown⟩ : ∃ (u : Value) (wd : List Int) (i : Nat) (S : List (Pm × List Int)), ex = .returned (.tuple #[u, .int .i64 0]) ∧ Run (glet 0 (gss.map pad)) i S ∧ (pad xs, wd) ∈ S ∧ w1.ownsRow w.heap.size 3 1 u wd.length (wd.map (Value.int .i64)) := by
    rcases hpost with h | h | h | h
    · exact absurd HZ.out h.1
    · exact absurd HGEN.out h.2.1
    · have := h.2.2.1; rw [HSZ.out] at this; have := HS.out; omega
    · exact h.2.2.2
  rw [letters_glet] at hrun
  have HRw := hide hrun
  have HMw := hide hmem
  have HWd := hide (Ints.own hown)
  clear hrun hmem hown
  clear hpost HW
  go_wp2_with fail
  refine (HE.out w1 hb1).mono ?_
  rintro ex w2 ⟨hb2, hpost⟩
  rw [HSZ.out, if_neg (by have := HS.out; omega)] at hpost
  obtain ⟨ve, vse, X, rfl, hXl, hXn, hXm, hXs, hLE⟩ := hpost
  have hB2 := hb1.trans (hb2.mono hb1.size)
  have HLE := hide hLE.ints
  have HWd2 := hide (HWd.out.below hb2)
  clear hLE hb1 hb2
  go_wp2_with fail
  refine (HCd.out w2 hB2).mono ?_
  rintro ex w3 ⟨hb3, hpost⟩
  obtain ⟨vrs, vws, S, rfl, hAr, hAw, hF⟩ : ∃ vr vw S, ex = .returned (.tuple #[vr, vw]) ∧ IntsAll w3 vr (S.map (fun e => cut n e.1)) ∧ IntsAll w3 vw (S.map (·.2)) ∧ Found n gss S := by
    rcases hpost with ⟨vr, vw, S, h1', h2', h3', h4', _⟩ | ⟨_, S, h1', h2'⟩
    · exact ⟨vr, vw, S, h1', h2', h3', Found.of h12 HGR.out h4'⟩
    · have := found_few h12 HGR.out h1'
      rw [HSZ.out] at this
      have := HS.out
      omega
  have hSl : S.length = z := by rw [← HSZ.out]; exact hF.size h12
  have HF := hide hF
  have hB3 := hB2.trans (hb3.mono hB2.size)
  have HXF : Hid (∀ x, x ∈ X → Fixes (fun b => n ≤ b) x) := fun x hx => gens_fix h12 HGR.out ((hXm x).1 hx)
  have HOrd := hide (rordered_all vrs _ w3 hAr (by rw [List.length_map]; have := HS.out; omega) (fun r hr => by have := (hF.rows h12 r hr).1; omega))
  obtain ⟨R, hR⟩ : ∃ R, R = S.map (fun e => cut n e.1) := ⟨_, rfl⟩
  rw [← hR] at hAr HOrd
  have hRl : R.length = z := by rw [hR, List.length_map]; exact hSl
  have HRows : Hid (∀ r, r ∈ R → r.length = n ∧ ∀ j, j < n → ∃ m : Nat, m < n ∧ r.getD j 0 = (m : Int)) := by
    show ∀ r, r ∈ R → _
    rw [hR]; exact hF.rows h12
  have HR := hide hR
  have HRL := hide hRl
  have HSL := hide hSl
  have HAr := hide hAr
  have HAw := hide hAw
  have HLE3 := hide (HLE.out.below hb3)
  have HXM := hide hXm
  have HXS := hide hXs
  have HXN := hide hXn
  have HWd3 := hide (HWd2.out.below hb3)
  clear HWd2 HWd
  clear hpost hAr hAw hF hR hRl hSl hXm hXs hXn hXl hb3 HLE HCd HE
  go_wp2_with fail
  refine HOrd.out.mono ?_
  rintro ex w4 ⟨vo, Y, rfl, hAo, hYp, hYs, hb4⟩
  have hYe : X.map (cut n) = Y := group_ordered h12 HXF.out HXN.out HXS.out HF.out.nodup (fun x => (HXM.out x).trans (HF.out.mem x).symm) (by rw [HR.out]; exact Found.cuts n S) hYp hYs
  have HSa := hide (sameAll_any ve vo (X.map (cut n)) Y w4 (HLE3.out.below hb4) hAo)
  rw [decide_eq_true hYe] at HSa
  have hB4 := hB3.trans (hb4.mono hB3.size)
  have HB34 := hide hb4
  clear hAo hYp hYs hYe hb4 HOrd HLE3
  go_wp2_with fail
  refine HSa.out.mono ?_
  rintro ex w5 ⟨rfl, hb5⟩
  have hB5 := hB4.trans (hb5.mono hB4.size)
  have HB35 := hide (HB34.out.trans (hb5.mono HB34.out.size))
  clear hb5 HSa hB4 HB34
  go_wp2_with fail
  refine (HO.out w5 hB5).mono ?_
  rintro ex w6 ⟨vob, vobs, rfl, hLO, hb6⟩
  have hB6 := hB5.trans (hb6.mono hB5.size)
  have HB36 := hide (HB35.out.trans (hb6.mono HB35.out.size))
  have HRo := hide (rorbits_ok n vrs R w6 (HAr.out.below HB36.out) h1 h12 HRows.out (by rw [HRL.out]; have := HS.out; omega) (by rw [HRL.out, ← HSL.out]; exact HF.out.pos))
  have HLO := hide hLO.ints
  clear hLO hb6 hB5 HB35 HO
  go_wp2_with fail
  refine HRo.out.mono ?_
  rintro ex w7 ⟨vro, vros, rfl, hLR, hb7⟩
  have hB7 := hB6.trans (hb7.mono hB6.size)
  have HB37 := hide (HB36.out.trans (hb7.mono HB36.out.size))
  have HSb := hide (sameAll_any vob vro _ _ w7 (HLO.out.below hb7) hLR.ints)
  have hoe : (orbsTo (gss.map pad) n n).map natI = (rorbsTo R n n).map natI := by rw [HR.out, HF.out.orbits h12]
  rw [decide_eq_true hoe] at HSb
  clear hLR hb7 hB6 HRo HLO hoe HB36
  go_wp2_with fail
  refine HSb.out.mono ?_
  rintro ex w8 ⟨rfl, hb8⟩
  have hB8 := hB7.trans (hb8.mono hB7.size)
  have hB38 := HB37.out.trans (hb8.mono HB37.out.size)
  have hs8 := hB8.size
  have HB8 := hide hB8
  have hAr8 := HAr.out.below hB38
  have hAw8 := HAw.out.below hB38
  have hzp : 1 ≤ z := by rw [← HSL.out]; exact HF.out.pos
  have hz5 : z ≤ 5040 := HS.out
  obtain ⟨pr, Nr, cr, rfl⟩ : ∃ p N c, vrs = .slice p N c := by obtain ⟨p, c, e⟩ := hAr8.len; exact ⟨p, _, c, e⟩
  obtain ⟨gr, offr, rfl, hNr, hcr1, hcr2, hgr, hcell⟩ := hAr8.rowI (by rw [HRL.out]; exact hzp)
  rw [HRL.out] at hNr hcr1
  have hNr' := hNr.symm
  subst hNr'
  obtain ⟨pw, Nw, cw, rfl⟩ : ∃ p N c, vws = .slice p N c := by obtain ⟨p, c, e⟩ := hAw8.len; exact ⟨p, _, c, e⟩
  obtain ⟨gw, offw, rfl, hNw, hcw1, hcw2, hgw, hcellw⟩ := hAw8.rowI (by rw [List.length_map, HSL.out]; exact hzp)
  rw [List.length_map, HSL.out] at hNw hcw1
  have hNw' := hNw.symm
  subst hNw'
  have HCL := hide hcell
  have HCW := hide hcellw
  have HX8 := hide (HXr.out.below hB8)
  have HG8 := hide (HG.out.below hB8 (Nat.le_refl _))
  have HWd8 := hide (HWd3.out.below hB38)
  obtain ⟨pd, cd, evd⟩ := HWd8.out.form
  subst evd
  obtain ⟨k0, e0, hk0, he0, hkk⟩ := HF.out.at h12 HXR.out HXL.out HGEN.out
  have hk0z : k0 < z := by rw [← HSL.out]; exact (List.getElem?_eq_some_iff.1 hk0).1
  have hwe : wd = e0.2 := pair_eq HF.out.nodup (HRw.out.full HF.out.run (Nat.le_refl _) HMw.out) (by rw [← he0]; exact List.mem_of_getElem? hk0)
  obtain ⟨uw, hcuw, hiuw⟩ := HCW.out k0 e0.2 (by rw [List.getElem?_map, hk0]; rfl)
  rw [← hwe] at hiuw
  have HUW := hide hiuw
  have HKK : Hid (∀ (i : Nat) (r : List Int), R[i]? = some r → (r = xs ↔ i = k0)) := fun i r hr => by
    rw [HR.out, List.getElem?_map] at hr
    obtain ⟨d, hd, rfl⟩ := Option.map_eq_some_iff.1 hr
    exact hkk i d hd
  clear hwe hiuw hkk hk0 he0 HWd3 HRw HMw
  clear hcell hcellw hAr8 hAw8 hB38 hb8 hB8 hB7 hB2 hB3 HSb HB37 HAr HAw
  go_wp2
  go_loopw [21, 22] (fun sa si wr => ∃ (i : Nat) (a : Int), i ≤ z ∧ sa = .int .i64 a ∧ si = .int .i64 i ∧ Hid (a = if k0 < i then (k0 : Int) else -1) ∧ Below w8.heap.size w8 wr) (fun _ si _ => z - (intOf si).toNat)
  case atStart => exact ⟨0, -1, Nat.zero_le _, rfl, rfl, rfl, Below.refl _ _⟩
  case round =>
    obtain ⟨i, a, hiz, rfl, rfl, ha, hbw⟩ := hrel
    by_cases hit : i < z
    · obtain ⟨r, hr⟩ : ∃ r, R[i]? = some r := ⟨_, List.getElem?_eq_getElem (by rw [HRL.out]; exact hit)⟩
      obtain ⟨u2, hcu, hiu⟩ := HCL.out i r hr
      have hcu' := (hbw.cell (p := ⟨gr, offr + i, none⟩) hgr).trans hcu
      have HSm := hide (same_any u2 vr r xs wr (hiu.below hbw) (HX8.out.below hbw))
      have hsw := hbw.size
      by_cases hik : i = k0
      · rw [decide_eq_true ((HKK.out i r hr).2 hik)] at HSm
        have HA2 : Hid ((i : Int) = if k0 < i + 1 then (k0 : Int) else -1) := by show _ = _; rw [if_pos (by omega)]; omega
        clear hcu hiu hr hik
        go_wp2_with fail
        refine HSm.out.mono ?_
        rintro ex w9 ⟨rfl, hb9⟩
        have HB9 := hide (hbw.trans (hb9.mono hsw))
        clear hb9 hbw HSm
        go_wp2
        go_roundw
        case rel =>
          have hfin : ∃ (i' : Nat) (a : Int), i' ≤ z ∧ Value.int .i64 (i : Int) = .int .i64 a ∧ Value.int .i64 ((i : Int) + 1) = .int .i64 (i' : Int) ∧ Hid (a = if k0 < i' then (k0 : Int) else -1) ∧ Below w8.heap.size w8 w9 := ⟨i + 1, _, hit, rfl, by go_num, HA2, HB9.out⟩
          first
            | exact hfin
            | ((repeat apply Exists.intro); exact ⟨hfin, rfl⟩)
        case measure => simp [intOf]; omega
      · rw [decide_eq_false (fun h => hik ((HKK.out i r hr).1 h))] at HSm
        have HA2 : Hid (a = if k0 < i + 1 then (k0 : Int) else -1) := by
          show _ = _
          rw [ha.out]
          by_cases hlt : k0 < i
          · rw [if_pos hlt, if_pos (by omega)]
          · rw [if_neg hlt, if_neg (by omega)]
        clear hcu hiu hr ha hik
        go_wp2_with fail
        refine HSm.out.mono ?_
        rintro ex w9 ⟨rfl, hb9⟩
        have HB9 := hide (hbw.trans (hb9.mono hsw))
        clear hb9 hbw HSm
        go_wp2
        go_roundw
        case rel =>
          have hfin : ∃ (i' : Nat) (a' : Int), i' ≤ z ∧ Value.int .i64 a = .int .i64 a' ∧ Value.int .i64 ((i : Int) + 1) = .int .i64 (i' : Int) ∧ Hid (a' = if k0 < i' then (k0 : Int) else -1) ∧ Below w8.heap.size w8 w9 := ⟨i + 1, _, hit, rfl, by go_num, HA2, HB9.out⟩
          first
            | exact hfin
            | ((repeat apply Exists.intro); exact ⟨hfin, rfl⟩)
        case measure => simp [intOf]; omega
    · obtain rfl : z = i := by omega
      have hak : a = (k0 : Int) := by rw [ha.out, if_pos hk0z]
      subst hak
      have hcw' := (hbw.cell (p := ⟨gw, offw + k0, none⟩) hgw).trans hcuw
      have HSm := hide (same_any _ uw wd wd wr (HWd8.out.below hbw) (HUW.out.below hbw))
      rw [decide_eq_true rfl] at HSm
      have hk0I : ¬ ((k0 : Int) < 0) := by omega
      have hsw := hbw.size
      go_wp2_with fail
      refine HSm.out.mono ?_
      rintro ex W ⟨rfl, hb9⟩
      replace hbw := hbw.trans (hb9.mono hsw)
      clear hb9 HSm hcw' ha
      rcases (show bell < 0 ∨ (n : Int) ≤ bell ∨ (0 ≤ bell ∧ bell < (n : Int)) by omega) with hbl | hbl | hbl
      · have HSt := hide (still_low n bell v (gss.map pad) W hbl (HG8.out.below hbw (Nat.le_refl _)))
        go_wp2_with fail
        refine HSt.out.mono ?_
        rintro ex w13 ⟨rfl, hb13⟩
        have HBf := hide (HB8.out.trans ((hbw.trans (hb13.mono hbw.size)).mono hs8))
        clear hb13
        go_wp2
        go_ret
        exact ⟨rfl, HBf.out⟩
      · have hbl0 : ¬ bell < 0 := by omega
        have HSt := hide (still_high n bell v (gss.map pad) W h12 hbl (HG8.out.below hbw (Nat.le_refl _)))
        go_wp2_with fail
        refine HSt.out.mono ?_
        rintro ex w13 ⟨rfl, hb13⟩
        have HBf := hide (HB8.out.trans ((hbw.trans (hb13.mono hbw.size)).mono hs8))
        clear hb13
        go_wp2
        go_ret
        exact ⟨rfl, HBf.out⟩
      · obtain ⟨bl, rfl⟩ := Int.eq_ofNat_of_zero_le hbl.1
        have hbn' : bl < n := by omega
        have hd0 : decide ((bl : Int) < 0) = false := decide_eq_false (by omega)
        have hd1 : decide (n ≤ bl) = false := decide_eq_false (by omega)
        have hd2 : decide ((n : Int) ≤ (bl : Int)) = false := decide_eq_false (by omega)
        have HSt := hide (still_ok n bl v (gss.map pad) W h1 h12 hbn' HGL.out (HG8.out.below hbw (Nat.le_refl _)))
        clear hbl
        go_wp2_with fail
        refine HSt.out.mono ?_
        rintro ex w13 ⟨v13, hsg, rfl, hGS, hst, hb13⟩
        have hB13 : Below w8.heap.size w8 w13 := hbw.trans (hb13.mono hbw.size)
        have HGS := hide hGS
        have HSTA := hide hst
        obtain ⟨gb2, _, _, _, _, _, _, rfl, _⟩ := hGS
        have HCL13 : Hid (∀ i r, R[i]? = some r → ∃ u, w13.cell? ⟨gr, offr + i, none⟩ = some u ∧ Ints w13 u r) := fun i r hr => by
          obtain ⟨u, h1', h2'⟩ := HCL.out i r hr
          exact ⟨u, (hB13.cell (p := ⟨gr, offr + i, none⟩) hgr).trans h1', h2'.below hB13⟩
        have HB13 := hide (HB8.out.trans (hB13.mono hs8))
        have hgr13 : gr < w13.heap.size := Nat.lt_of_lt_of_le hgr hB13.size
        clear hst hb13 hB13 HSt hbw HCL HCW hgr
        go_wp2
        go_loopw [25, 26] (fun su si wr => ∃ (i : Nat) (u : Value) (vs : List Value), i ≤ z ∧ su = u ∧ si = .int .i64 i ∧ StayR w13 wr u vs bl i R) (fun _ si _ => z - (intOf si).toNat)
        case atStart => exact ⟨0, _, [], Nat.zero_le _, rfl, rfl, StayR.start w13 bl R⟩
        case round =>
          obtain ⟨i, u, vs, hiz, rfl, rfl, hSR⟩ := hrel
          have hsr := hSR.below.size
          by_cases hit : i < z
          · obtain ⟨r, hr⟩ : ∃ r, R[i]? = some r := ⟨_, List.getElem?_eq_getElem (by rw [HRL.out]; exact hit)⟩
            obtain ⟨u2, hcu, hiu⟩ := HCL13.out i r hr
            obtain ⟨hrl, hrm⟩ := HRows.out r (List.mem_of_getElem? hr)
            obtain ⟨m, hmn, hm⟩ := hrm bl hbn'
            have hcu' := (hSR.below.cell (p := ⟨gr, offr + i, none⟩) hgr13).trans hcu
            have HIU := hide hiu
            obtain ⟨p2, c2, e2⟩ := hiu.form
            subst e2
            obtain ⟨b2, o2, rfl, hl1, hl2, hl3, hl4⟩ := hiu.open (by omega)
            have hcm := (hSR.below.cell (p := ⟨b2, o2 + bl, none⟩) hl3).trans (hl4 bl (by omega))
            rw [hm] at hcm
            have HRI := hide hr
            have HM := hide hm
            have HSR := hide hSR
            rw [hrl] at hcu' hl1
            have HRLN := hide hrl
            have hvl : vs.length ≤ 5040 := by
              have h1' := hSR.len
              have h2' := stayL_length bl (R.take i)
              rw [List.length_take] at h2'
              omega
            clear hcu hiu hrm hm hr hl4 hSR hrl
            by_cases hmb : m = bl
            · have HM2 : Hid (r.getD bl 0 = (bl : Int)) := by show _ = _; rw [HM.out, hmb]
              rw [hmb] at hcm
              clear HM hmb hmn
              have HIU' : Hid (Ints w13 (.slice (some ⟨b2, o2, none⟩) n c2) r) := by show Ints _ _ _; have := HIU.out; rw [HRLN.out] at this; exact this
              have HrS := hide HSR.out.row
              go_wp2_with (at_builtin; go_loud (refine wpList_append_own _ rfl _ _ 22 rfl w13.heap.size 23 i0 (.slice none 0 0) 1 24 Try.underlying22 hi hz0 hz1 hz2 rfl (by decide) _ _ _ rfl (HrS.out.alloc _) ⟨wr.heap.size, 0, none⟩ 1 1 [.slice (some ⟨b2, o2, none⟩) n c2] rfl rfl ?d1 ?d2 ?d3 ?d4 ?d5 ?_))
              case d1 => exact cell_one_new _ _ _
              case d2 => intro u hu; simp at hu; subst hu; rfl
              case d3 => unfold maxLen; omega
              case d4 => omega
              case d5 => simp; omega
              intro v9 w9 hown9 hg9 _
              have HS9 := hide (HSR.out.more HRI.out HM2.out HIU'.out hown9 hg9)
              clear hown9 hg9
              go_wp2
              go_roundw
              case rel =>
                have hfin : ∃ (i' : Nat) (u : Value) (vs : List Value), i' ≤ z ∧ v9 = u ∧ Value.int .i64 ((i : Int) + 1) = .int .i64 (i' : Int) ∧ StayR w13 w9 u vs bl i' R := ⟨i + 1, _, _, hit, rfl, by go_num, HS9.out⟩
                first
                  | exact hfin
                  | ((repeat apply Exists.intro); exact ⟨hfin, rfl⟩)
              case measure => simp [intOf]; omega
            · have hmbI : ¬ (m : Int) = (bl : Int) := by omega
              have HS9 := hide (HSR.out.same HRI.out (by rw [HM.out]; exact hmbI))
              go_wp2
              go_roundw
              case rel =>
                have hfin : ∃ (i' : Nat) (u : Value) (vs : List Value), i' ≤ z ∧ u25 = u ∧ Value.int .i64 ((i : Int) + 1) = .int .i64 (i' : Int) ∧ StayR w13 wr u vs bl i' R := ⟨i + 1, _, vs, hit, rfl, by go_num, HS9.out⟩
                first
                  | exact hfin
                  | ((repeat apply Exists.intro); exact ⟨hfin, rfl⟩)
              case measure => simp [intOf]; omega
          · obtain rfl : i = z := by omega
            have hRi := HRL.out
            have hdn : StayR w13 wr u25 vs bl R.length R := by rw [hRi]; exact hSR
            have HAst := hide hdn.done
            have hb14 := hSR.below
            have HB14 := hide (HB13.out.trans (hb14.mono HB13.out.size))
            have HGS14 := hide (HGS.out.below hb14 (Nat.le_refl _))
            have HEl := hide (elements_ok n _ hsg wr h12 HGS14.out)
            have hszh : sz (Gen (fun y => y ∈ hsg)) n ≤ 5040 := by
              refine Nat.le_trans (sz_mono (H := Gen (fun y => y ∈ gss.map pad)) (fun x hx => ((HSTA.out x).1 hx).1) h12) ?_
              rw [HSZ.out]; exact HS.out
            have HSH := hide hszh
            clear hdn hSR hb14 hszh hRi
            go_wp2_with fail
            refine HEl.out.mono ?_
            rintro ex w15 ⟨hb15, hpost⟩
            rw [if_neg (by have := HSH.out; omega)] at hpost
            obtain ⟨vx, vxs, XX, rfl, hXl, hXn, hXm, hXs, hLX⟩ := hpost
            have HB15 := hide (HB14.out.trans (hb15.mono HB14.out.size))
            have HGb := hide (gbells_ok n _ hsg w15 (HGS14.out.below hb15 (Nat.le_refl _)))
            have HLX := hide hLX.ints
            have HAs2 := hide (HAst.out.below hb15)
            have HXN := hide hXn
            have HXM := hide hXm
            have HXS := hide hXs
            clear hXl hXn hXm hXs hLX hb15 HEl HAst
            go_wp2_with fail
            refine HGb.out.mono ?_
            rintro ex w16 ⟨rfl, hw16⟩
            subst hw16
            have HOd := hide (rordered_all u25 (stayL bl R) w15 HAs2.out (by have h1' := stayL_length bl R; rw [HRL.out] at h1'; omega) (fun r hr => by have h1' := (HRows.out r ((List.mem_filter.1 hr).1)).1; omega))
            clear HGb HAs2
            go_wp2_with fail
            refine HOd.out.mono ?_
            rintro ex w17 ⟨vo, Y, rfl, hAo, hYp, hYs, hb17⟩
            have HB17 := hide (HB15.out.trans (hb17.mono HB15.out.size))
            have hYe : XX.map (cut n) = Y := by
              refine group_ordered (S := (S.map (·.1)).filter (fun x => decide (x.act bl = bl))) h12 (fun x hx => ?_) HXN.out HXS.out (HF.out.nodup.sublist List.filter_sublist) (fun x => ?_) (R := stayL bl R) ?_ hYp hYs
              · exact gens_fix h12 HGR.out ((HSTA.out x).1 ((HXM.out x).1 hx)).1
              · rw [HXM.out, HSTA.out, List.mem_filter, decide_eq_true_iff, HF.out.mem]
              · rw [HR.out, Found.cuts, stayL_cut h12 hbn']
            have HSc := hide (sameAll_any vx vo (XX.map (cut n)) Y w17 (HLX.out.below hb17) hAo)
            rw [decide_eq_true hYe] at HSc
            clear hAo hYp hYs hYe hb17 HOd HLX
            go_wp2_with fail
            refine HSc.out.mono ?_
            rintro ex w18 ⟨rfl, hb18⟩
            have HB18 := hide (HB17.out.trans (hb18.mono HB17.out.size))
            clear hb18 HSc
            go_wp2
            go_ret
            exact ⟨rfl, HB18.out⟩

end Go.Proofs.Ytimfoggjocajiaa

/- Contracts: GensMay, the answer's own; Check where it refuses. -/
namespace Go.Proofs.Ytimfoggjocajiaa
open Go.RowKit

set_option maxRecDepth 20000 in
set_option maxHeartbeats 2000000 in
theorem gensMay_ok (n : Nat) (v : Value) (xss : List (List Int)) (w : World) (h : IntsAll w v xss) (h1 : 1 ≤ n) (h12 : n ≤ 12) (h8 : xss.length ≤ 8) :
    Calls Try.prog 15 #[.int .i64 n, v] w fun e w' => e = .returned (.int .i64 (gchk n xss)) ∧ w = w' := by
  obtain ⟨vs, hv, hl, he⟩ := h
  have hn1 : ¬ ((n : Int) < 1) := by omega
  have hn2 : ¬ ((n : Int) > 12) := by omega
  rcases hv with ⟨rfl, p, c, rfl⟩ | ⟨b, off, cap, rfl, h0, hc, hm, hb, hcell⟩
  · obtain rfl : xss = [] := List.length_eq_zero_iff.1 (by simpa using hl.symm)
    clear he hl
    go_enter Try.func15, Try.ntmps15
    go_wp2
    go_loop [5] (fun i => i = .int .i64 0) (fun _ => 0)
    case atStart => rfl
    case round =>
      subst hrel
      go_wp2
      go_ret
      exact ⟨rfl, rfl⟩
  · have hv8 : (vs.length : Int) ≤ 8 := by omega
    have HL := hide hl
    have HE := hide he
    have HC := hide hcell
    clear hl he hcell
    go_enter Try.func15, Try.ntmps15
    go_wp2
    go_loop [5] (fun i => ∃ k : Nat, k ≤ vs.length ∧ i = .int .i64 k ∧ Hid (gchk n (xss.drop k) = gchk n xss)) (fun i => vs.length - (intOf i).toNat)
    case atStart => exact ⟨0, by omega, rfl, rfl⟩
    case round =>
      obtain ⟨k, hk, rfl, ht⟩ := hrel
      by_cases hlt : k < vs.length
      · have hkx : k < xss.length := by have := HL.out; omega
        obtain ⟨p1, c1, hcx, hix⟩ := elAt HC.out hlt (HE.out k hkx)
        have HS := hide (rowMay_any _ _ w hix.out)
        have HD := hide (gchk_drop (n := n) hkx)
        rw [ht.out] at HD
        generalize xss.getD k [] = X at *
        generalize hlx : X.length = lx at *
        have HLX := hide hlx
        clear hix hlx
        go_wp2_with fail
        refine HS.out.mono ?_
        rintro e w1 ⟨rfl, rfl⟩
        by_cases hz : chk X = 0
        · by_cases hn : lx = n
          · have hr : rchk n X = 0 := by unfold rchk; rw [if_pos hz, if_pos (by rw [HLX.out]; exact hn)]
            have HD' : Hid (gchk n (xss.drop (k + 1)) = gchk n xss) := by have := HD.out; rw [if_pos hr] at this; exact this.symm
            rw [hz]
            subst hn
            clear HD HS hz hr
            go_wp2
            go_round
            case rel => exact ⟨k + 1, by omega, by go_num, HD'⟩
            case measure => simp [intOf]; omega
          · have hr : rchk n X = 1 := by unfold rchk; rw [if_pos hz, if_neg (by rw [HLX.out]; exact hn)]
            have HD' : Hid (gchk n xss = 1) := by have := HD.out; rw [hr, if_neg (by decide)] at this; exact this
            have hnn : ((lx : Int) != (n : Int)) = true := by rw [bne_iff_ne]; omega
            rw [hz]
            clear HD HS hz hr hn
            go_wp2
            go_ret
            exact ⟨ret_int HD'.out.symm, rfl⟩
        · have hr : rchk n X = chk X := by unfold rchk; rw [if_neg hz]
          have HD' : Hid (gchk n xss = chk X) := by have := HD.out; rw [hr, if_neg hz] at this; exact this
          have hne : (chk X != 0) = true := by rw [bne_iff_ne]; exact hz
          clear HD HS hz hr
          generalize chk X = z at *
          go_wp2
          go_ret
          exact ⟨ret_int HD'.out.symm, rfl⟩
      · have HE0 : Hid (gchk n xss = 0) := by show _ = _; rw [← ht.out, List.drop_eq_nil_of_le (by have := HL.out; omega)]; rfl
        go_wp2
        go_ret
        exact ⟨ret_int HE0.out.symm, rfl⟩

set_option maxRecDepth 20000 in
theorem gensMay_bad (n : Int) (v : Value) (xss : List (List Int)) (w : World) (h : IntsAll w v xss) (hb : n < 1 ∨ 12 < n ∨ 8 < xss.length) :
    Calls Try.prog 15 #[.int .i64 n, v] w fun e w' => e = .returned (.int .i64 1) ∧ w = w' := by
  obtain ⟨vs, hv, hl, _⟩ := h
  obtain ⟨p, c, rfl⟩ := hv.form
  clear hv
  by_cases h1 : n < 1
  · go_enter Try.func15, Try.ntmps15
    go_wp2
    go_ret
    exact ⟨rfl, rfl⟩
  · by_cases h2 : n > 12
    · go_enter Try.func15, Try.ntmps15
      go_wp2
      go_ret
      exact ⟨rfl, rfl⟩
    · have h3 : (vs.length : Int) > 8 := by omega
      clear hb hl
      go_enter Try.func15, Try.ntmps15
      go_wp2
      go_ret
      exact ⟨rfl, rfl⟩

set_option maxRecDepth 20000 in
theorem gcheck_bad (n : Int) (v : Value) (xss : List (List Int)) (w : World) (h : IntsAll w v xss) (hb : n < 1 ∨ 12 < n ∨ 8 < xss.length) :
    Calls Try.prog 16 #[.int .i64 n, v] w fun e w' => e = .returned (.int .i64 1) ∧ w = w' := by
  obtain ⟨vs, hv, hl, _⟩ := h
  obtain ⟨p, c, rfl⟩ := hv.form
  clear hv
  by_cases h1 : n < 1
  · go_enter Try.func16, Try.ntmps16
    go_wp2
    go_ret
    exact ⟨rfl, rfl⟩
  · by_cases h2 : n > 12
    · go_enter Try.func16, Try.ntmps16
      go_wp2
      go_ret
      exact ⟨rfl, rfl⟩
    · have h3 : (vs.length : Int) > 8 := by omega
      clear hb hl
      go_enter Try.func16, Try.ntmps16
      go_wp2
      go_ret
      exact ⟨rfl, rfl⟩

end Go.Proofs.Ytimfoggjocajiaa

/- Contracts: GensMay, the answer's own; Check and Make where they refuse. -/
namespace Go.Proofs.Ytimfoggjocajiaa
open Go.RowKit

/-- Make, where Check refuses. -/
theorem make_refuses (n : Int) (v : Value) (c : Int) (w : World) (hc : c ≠ 0) (hk : Calls Try.prog 16 #[.int .i64 n, v] w fun e w' => e = .returned (.int .i64 c) ∧ Below w.heap.size w w') :
    Calls Try.prog 14 #[.int .i64 n, v] w fun e w' => e = .returned (.tuple #[.pointer none, .int .i64 c]) ∧ Below w.heap.size w w' := by
  have HK := hide hk
  have hne : (c != 0) = true := by rw [bne_iff_ne]; exact hc
  clear hk hc
  go_enter Try.func14, Try.ntmps14
  go_wp2_with fail
  refine HK.out.mono ?_
  rintro e w1 ⟨rfl, hb1⟩
  go_wp2
  go_ret2
  exact ⟨rfl, hb1⟩

end Go.Proofs.Ytimfoggjocajiaa

/- The walk of GroupSays: it answers true at every input. -/
namespace Go.Proofs.Ytimfoggjocajiaa
open Go.RowKit

/-- What is said: an error, or a row. -/
noncomputable def saidC (gs : List Pm) (ys : List Int) : Int := if 20000 < ys.length then 3 else if (say gs ys 1).isSome then 0 else 12
noncomputable def saidL (n : Nat) (gs : List Pm) (ys : List Int) : List Int := if 20000 < ys.length then [] else (say gs ys 1).elim [] (cut n)

def SaidPost (n : Nat) (gs : List Pm) (ys : List Int) (w : World) (e : Ending) (w' : World) : Prop :=
  ∃ a, e = .returned (.tuple #[a, .int .i64 (saidC gs ys)]) ∧ Ints w' a (saidL n gs ys) ∧ Below w.heap.size w w'

theorem say_any (n : Nat) (v v2 : Value) (gs : List Pm) (ys : List Int) (w : World) (h12 : n ≤ 12) (hG : GroupAt w v n gs) (hgl : gs.length ≤ 1000000) (hI : Ints w v2 ys) (hx : ∀ x, x ∈ ys → I64 x) :
    Calls Try.prog 20 #[v, v2] w fun e w' => SaidPost n gs ys w e w' := by
  by_cases hl : 20000 < ys.length
  · refine (say_long n v v2 gs ys w hG hI hl).mono ?_
    rintro e w' ⟨rfl, rfl⟩
    exact ⟨_, by unfold saidC; rw [if_pos hl], by unfold saidL; rw [if_pos hl]; exact Ints.nil _, Below.refl _ _⟩
  · refine (say_ok n v v2 gs ys w h12 hG hgl hI hx (by omega)).mono ?_
    rintro e w' ⟨h | ⟨u, p, h1, rfl, h2⟩, hb⟩
    · obtain ⟨h1, rfl⟩ := h
      exact ⟨_, by unfold saidC; rw [if_neg hl, h1]; rfl, by unfold saidL; rw [if_neg hl, h1]; exact Ints.nil _, hb⟩
    · refine ⟨u, by unfold saidC; rw [if_neg hl, h1]; rfl, ?_, hb⟩
      unfold saidL; rw [if_neg hl, h1]; exact Ints.own h2

set_option maxRecDepth 20000 in
theorem rsay_long (n : Nat) (v v2 : Value) (ys : List Int) (w : World) (hI : Ints w v2 ys) (hl : 20000 < ys.length) :
    Calls Try.prog 21 #[.int .i64 n, v, v2] w fun e w' => e = .returned (.tuple #[.slice none 0 0, .int .i64 3]) ∧ w = w' := by
  obtain ⟨p, c, rfl⟩ := hI.form
  have hlI : (20000 : Int) < (ys.length : Int) := by omega
  clear hI
  go_enter Try.func21, Try.ntmps21
  go_wp2
  go_ret2
  exact ⟨rfl, rfl⟩

theorem rsay_any (n : Nat) (v v2 : Value) (gss : List (List Int)) (ys : List Int) (w : World) (h1 : 1 ≤ n) (h12 : n ≤ 12) (hA : IntsAll w v gss) (hR : RowsN n gss) (h8 : gss.length ≤ 8) (hI : Ints w v2 ys) (hx : ∀ x, x ∈ ys → I64 x) :
    Calls Try.prog 21 #[.int .i64 n, v, v2] w fun e w' => SaidPost n (gss.map pad) ys w e w' := by
  by_cases hl : 20000 < ys.length
  · refine (rsay_long n v v2 ys w hI hl).mono ?_
    rintro e w' ⟨rfl, rfl⟩
    exact ⟨_, by unfold saidC; rw [if_pos hl], by unfold saidL; rw [if_pos hl]; exact Ints.nil _, Below.refl _ _⟩
  · refine (rsay_ok n v v2 gss ys w h1 h12 hA hR h8 hI hx (by omega)).mono ?_
    rintro e w' ⟨h | ⟨u, p, h1, _, rfl, h2⟩, hb⟩
    · obtain ⟨h1, rfl⟩ := h
      exact ⟨_, by unfold saidC; rw [if_neg hl, h1]; rfl, by unfold saidL; rw [if_neg hl, h1]; exact Ints.nil _, hb⟩
    · refine ⟨u, by unfold saidC; rw [if_neg hl, h1]; rfl, ?_, hb⟩
      unfold saidL; rw [if_neg hl, h1]; exact h2

theorem groupRows_any (v vg vr : Value) (n : Nat) (gss : List (List Int)) (xs : List Int) (bell : Int) (w : World) (h : GLaw w v vg vr n gss xs) :
    Calls Try.prog 25 #[v, .int .i64 n, vg, vr, .int .i64 (rchk n xs), .int .i64 bell, .int .i64 ((sz (Gen (fun y => y ∈ gss.map pad)) n : Nat) : Int)] w fun e w' => Told w e w' := by
  by_cases hs : 5040 < sz (Gen (fun y => y ∈ gss.map pad)) n
  · by_cases hz : rchk n xs = 0
    · rw [hz]; exact groupRows_big v vg vr n gss xs bell w h hz hs
    · exact groupRows_refused v vg vr n gss xs bell w h hz hs
  · by_cases hz : rchk n xs = 0
    · rw [hz]
      by_cases hg : Gen (fun y => y ∈ gss.map pad) (pad xs)
      · exact groupRows_c v vg vr n gss xs bell w h hz hg (by omega)
      · exact groupRows_b v vg vr n gss xs bell w h hz hg (by omega)
    · exact groupRows_a v vg vr n gss xs bell w h hz (by omega)

set_option maxRecDepth 20000 in
theorem groupSays_pass (n : Int) (v v2 v3 : Value) (ys : List Int) (bell : Int) (w : World) (h3 : Ints w v3 ys) (hl1 : 200 < ys.length) (hl2 : ys.length < 20001) :
    Calls Try.prog 3 #[.int .i64 n, v, v2, v3, .int .i64 bell] w fun e w' => Told w e w' := by
  obtain ⟨p3, c3, rfl⟩ := h3.form
  have g1 : decide ((200 : Int) < (ys.length : Int)) = true := decide_eq_true (by omega)
  have g2 : decide ((ys.length : Int) < 20001) = true := decide_eq_true (by omega)
  have g3 : (200 : Int) < (ys.length : Int) := by omega
  have g4 : (ys.length : Int) < 20001 := by omega
  clear h3 hl1 hl2
  go_enter Try.func3, Try.ntmps3
  go_wp2
  go_ret
  exact ⟨rfl, Below.refl _ _⟩

set_option maxRecDepth 20000 in
set_option maxHeartbeats 2000000 in
theorem groupSays_no (n : Int) (v v2 v3 : Value) (ys : List Int) (bell c : Int) (w : World) (h3 : Ints w v3 ys) (hl : ys.length ≤ 200 ∨ 20000 < ys.length) (hc : c ≠ 0)
    (hk : ∀ w', Below w.heap.size w w' → Calls Try.prog 16 #[.int .i64 n, v] w' fun e w'' => e = .returned (.int .i64 c) ∧ Below w'.heap.size w' w'')
    (hm : ∀ w', Below w.heap.size w w' → Calls Try.prog 15 #[.int .i64 n, v] w' fun e w'' => e = .returned (.int .i64 c) ∧ w' = w'') :
    Calls Try.prog 3 #[.int .i64 n, v, v2, v3, .int .i64 bell] w fun e w' => Told w e w' := by
  obtain ⟨p3, c3, rfl⟩ := h3.form
  have HMk := hide (make_refuses n v c w hc (hk w (Below.refl _ _)))
  have HK := hide hk
  have HM := hide hm
  have q2 := run_ptr_nil
  have hcn : (c != 0) = true := by rw [bne_iff_ne]; exact hc
  have hcI : ¬ c = 0 := hc
  clear h3 hk hm
  have key : ∀ t1 t2 : Bool, decide ((200 : Int) < (ys.length : Int)) = t1 → decide ((ys.length : Int) < 20001) = t2 → (t1 && t2) = false → Calls Try.prog 3 #[.int .i64 n, v, v2, .slice p3 ys.length c3, .int .i64 bell] w fun e w' => Told w e w' := by
    intro t1 t2 g1 g2 g3
    cases t1 <;> cases t2 <;> simp at g3 <;>
    · clear g3
      go_enter Try.func3, Try.ntmps3
      go_wp2_with fail
      refine HMk.out.mono ?_
      rintro ex w1 ⟨rfl, hb1⟩
      go_wp2_with fail
      refine (HM.out w1 hb1).mono ?_
      rintro ex w2 ⟨rfl, rfl⟩
      go_wp2_with fail
      refine (HK.out w1 hb1).mono ?_
      rintro ex w3 ⟨rfl, hb3⟩
      have HB3 := hide (hb1.trans (hb3.mono hb1.size))
      clear hb1 hb3
      go_wp2
      go_ret
      exact ⟨rfl, HB3.out⟩
  refine key _ _ rfl rfl ?_
  rcases hl with hl | hl
  · rw [decide_eq_false (by omega)]; rfl
  · rw [decide_eq_false (p := (ys.length : Int) < 20001) (by omega), Bool.and_false]

end Go.Proofs.Ytimfoggjocajiaa
