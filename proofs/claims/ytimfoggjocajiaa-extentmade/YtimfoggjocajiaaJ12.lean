/- Joined: CoH, CoI, Orl, Cln, CoJ, ExC, ExD. -/
import Derived.Test.YtimfoggjocajiaaJ11
import Derived.Test.YtimfoggjocajiaaJ0
import Derived.Deep.RegionHeld3
import Derived.Test.YtimfoggjocajiaaJ4
/- Contract: the answer's Parts. -/
namespace Go.Proofs.Ytimfoggjocajiaa
open Go.RowKit

def PartsPost (n : Nat) (H : Pm → Prop) (gss : List (List Int)) (w : World) (e : Ending) (w' : World) : Prop :=
  ∃ vn vw vr T N, e = .returned (.tuple #[vn, vw, vr]) ∧ RunC H (letters 0 gss) T.length T N ∧ IntsAll w' vn (N.map natI) ∧ IntsAll w' vw (T.map (·.2)) ∧ IntsAll w' vr (T.map (fun e => cut n e.1)) ∧ Below w.heap.size w w'

theorem letters_at {n : Nat} {gss : List (List Int)} (h12 : n ≤ 12) (hR : RowsN n gss) {j : Nat} (hj : j < 2 * gss.length) : ∃ l x, (letters 0 gss)[j]? = some l ∧ gss[j / 2]? = some x ∧ Fixes (fun b => n ≤ b) l.2 ∧ ((j % 2 = 0 ∧ l.1 = ((j / 2 : Nat) : Int) + 1 ∧ x = cut n l.2) ∨ (j % 2 = 1 ∧ l.1 = -(((j / 2 : Nat) : Int) + 1) ∧ x = cut n l.2⁻¹)) := by
  obtain ⟨x, hx⟩ : ∃ x, gss[j / 2]? = some x := ⟨_, List.getElem?_eq_getElem (by omega)⟩
  obtain ⟨hr, hl⟩ := hR x (List.mem_of_getElem? hx)
  have hf := pad_fixes h12 hl hr
  rcases Nat.mod_two_eq_zero_or_one j with hm | hm
  · refine ⟨(((j / 2 : Nat) : Int) + 1, pad x), x, ?_, hx, ?_, Or.inl ⟨hm, ?_, ?_⟩⟩
    · have := letters_even (k := 0) hx
      rw [show 2 * (j / 2) = j by omega, Nat.zero_add] at this
      exact this
    · exact hf
    · rfl
    · exact (cut_pad h12 hl hr).symm
  · refine ⟨(-(((j / 2 : Nat) : Int) + 1), (pad x)⁻¹), x, ?_, hx, ?_, Or.inr ⟨hm, ?_, ?_⟩⟩
    · have := letters_odd (k := 0) hx
      rw [show 2 * (j / 2) + 1 = j by omega, Nat.zero_add] at this
      exact this
    · exact (fixes_sub _).inv hf
    · rfl
    · show x = cut n ((pad x)⁻¹)⁻¹
      rw [Pm.inv_inv]; exact (cut_pad h12 hl hr).symm

theorem natI_length (l : List Nat) : (natI l).length = l.length := by unfold natI; rw [List.length_map]

set_option maxRecDepth 20000 in
set_option maxHeartbeats 16000000 in
theorem rparts_ok (n : Nat) (vg vsb : Value) (gss : List (List Int)) (Hs X : List Pm) (H : Pm → Prop) (w : World) (hA : IntsAll w vg gss) (hR : RowsN n gss) (hS : IntsAll w vsb (Hs.map (cut n))) (hH : Sub H) (hHs : ∀ x, x ∈ Hs ↔ H x) (hHf : ∀ h, H h → Fixes (fun b => n ≤ b) h) (h1 : 1 ≤ n) (h12 : n ≤ 12) (h8 : gss.length ≤ 1000) (hHl : Hs.length ≤ 5040)
    (hX : ∀ x, Gen (fun x => ∃ l, l ∈ letters 0 gss ∧ l.2 = x) x → x ∈ X) (hXl : X.length ≤ 1000000) :
    Calls Try.prog 32 #[.int .i64 n, vg, vsb] w fun e w' => PartsPost n H gss w e w' := by
  obtain ⟨i0, hi, hz0, hz1, hz2⟩ := info_parts Try.info23
  obtain ⟨j0, hji, hjz0, hjz1, hjz2⟩ := info_parts Try.info3
  have hmm := @run_makeMap Try.prog
  have HA := hide hA
  have HR := hide hR
  have HH := hide hH
  have HHS := hide hHs
  have HHF := hide hHf
  have HX := hide hX
  have hl1 : 1 ≤ Hs.length := List.length_pos_of_mem ((hHs 1).2 hH.one)
  obtain ⟨ps, Ns, cs, rfl⟩ : ∃ p N c, vsb = .slice p N c := by obtain ⟨p, c, e⟩ := hS.len; exact ⟨p, _, c, e⟩
  obtain ⟨gsb, offs, rfl, hNs, hcs1, hcs2, hgs, hcell⟩ := hS.rowI (by rw [List.length_map]; exact hl1)
  rw [List.length_map] at hNs hcs1
  have HCS : Hid (∀ i x, Hs[i]? = some x → ∃ u, w.cell? ⟨gsb, offs + i, none⟩ = some u ∧ Ints w u (cut n x)) := fun i x hx => hcell i _ (by rw [List.getElem?_map, hx]; rfl)
  have hNs' := hNs.symm
  subst hNs'
  obtain ⟨pg, cg, rfl⟩ := hA.len
  generalize hhl : Hs.length = hl at *
  have HHL := hide hhl
  generalize hgl : gss.length = gl at *
  have HGL := hide hgl
  generalize hxl : X.length = xl at *
  have HXL := hide hxl
  have HRo := hide (rrounds_ok n w (by omega))
  clear hA hR hS hH hHs hHf hX hcell hNs hhl hgl hxl
  go_enter Try.func32, Try.ntmps32
  go_wp2_with fail
  refine HRo.out.mono ?_
  rintro ex w1 ⟨v0, rfl, hown0, hb0⟩
  obtain ⟨p0, c0, ev0⟩ := owns_slice hown0
  subst ev0
  have HP0 := hide (PRel.start hown0 h12 hb0)
  have HN0 := hide (NumTo.none H n 1 Hs)
  clear hown0 hb0 HRo
  go_wp2
  go_loopw [13] (fun sk wr => ∃ (k cnt : Nat) (F : Int → Option Value), k ≤ hl ∧ sk = .int .i64 k ∧ Hid (NumTo H n [] 1 Hs k F) ∧ Hid (cnt ≤ k) ∧ PRel w wr (w1.heap.size + 1 + 1) (.slice (some ⟨w1.heap.size, 0, none⟩) 1 1) (.slice (some ⟨w1.heap.size + 1, 0, none⟩) 1 1) (.slice none 0 0) [.slice p0 n c0] [.slice none 0 0] [] [cut n 1] [[]] [] (.slice none 0 0) [] F cnt) (fun sk _ => hl - (intOf sk).toNat)
  case atStart => exact ⟨0, 0, _, Nat.zero_le _, rfl, HN0, Nat.le_refl _, HP0.out⟩
  case round =>
    clear HP0 HN0
    obtain ⟨k, cnt, F, hk, rfl, hN, hcnt, hP⟩ := hrel
    by_cases hkl : k < hl
    · obtain ⟨c, hc⟩ : ∃ c, Hs[k]? = some c := ⟨_, List.getElem?_eq_getElem (by rw [HHL.out]; exact hkl)⟩
      obtain ⟨u, hcu, hiu⟩ := HCS.out k c hc
      have hcf := HHF.out c ((HHS.out c).1 (List.mem_of_getElem? hc))
      have hcu' := (hP.below.cell (p := ⟨gsb, offs + k, none⟩) hgs).trans hcu
      have HRk := hide (rcut_rank n c u wr h1 h12 hcf (hiu.below hP.below))
      have HN2 := hide (hN.out.step h12 (fixes_sub _).one hcf hc)
      rw [Pm.mul_one] at HN2
      have hkb := rkP_le c h12
      have HP := hide hP
      clear hcu hiu hc hP hN
      go_wp2_with fail
      refine HRk.out.mono ?_
      rintro ex w2 ⟨rfl, hb2⟩
      have hP2 := HP.out.later hb2
      have HMP := hide hP2.map
      have HP2 := hide hP2
      have HC2 : Hid (cnt + 1 ≤ k + 1) := by have := hcnt.out; unfold Hid; omega
      have hcl : cnt < maxLen := by have := hcnt.out; unfold maxLen; omega
      clear hP2 hb2 HP HRk hcnt
      go_wp2_with (at_mapUpdate; refine wpList_put rfl _ _ _ 108 rfl 3 Try.underlying108 HMP.out hcl ((rkP n c : Nat) : Int) (.int .i64 0) rfl rfl rfl (by omega) (by omega) ?_)
      intro w3 hM3 hg3
      have HP3 := hide (HP2.out.put hM3 hg3)
      clear hM3 hg3 HMP HP2
      go_wp2
      go_roundw
      case rel =>
        have hfin : ∃ (k' cnt : Nat) (F : Int → Option Value), k' ≤ hl ∧ Value.int .i64 ((k : Int) + 1) = .int .i64 (k' : Int) ∧ Hid (NumTo H n [] 1 Hs k' F) ∧ Hid (cnt ≤ k') ∧ PRel w w3 (w1.heap.size + 1 + 1) (.slice (some ⟨w1.heap.size, 0, none⟩) 1 1) (.slice (some ⟨w1.heap.size + 1, 0, none⟩) 1 1) (.slice none 0 0) [.slice p0 n c0] [.slice none 0 0] [] [cut n 1] [[]] [] (.slice none 0 0) [] F cnt := ⟨k + 1, _, _, hkl, by go_num, HN2, HC2, HP3.out⟩
        first
          | exact hfin
          | ((repeat apply Exists.intro); exact ⟨hfin, rfl⟩)
      case measure => simp [intOf]; omega
    · obtain rfl : hl = k := by omega
      have HNO : Hid (NumOk H n [(1, [])] F) := by
        have := hN.out
        rw [← HHL.out] at this
        exact NumTo.done (T := []) (d := (1, [])) HH.out this HHS.out (fun e he => by cases he)
      have HC0 : Hid (cnt ≤ 5040 * 1) := by have := hcnt.out; unfold Hid; omega
      have HP := hide hP
      clear hN hP hcnt
      have HT0 : Hid (Hid (RunC H (letters 0 gss) 0 [(1, [])] [])) := RunC.start
      go_wp2
      go_loopw [9, 10, 11, 14] (fun s9 s10 s11 si wr => ∃ (i cnt : Nat) (v1 v2 v3 : Value) (s1 s2 s3 : List Value) (T : List (Pm × List Int)) (N : List (List Nat)) (F : Int → Option Value), i ≤ T.length ∧ s9 = v1 ∧ s10 = v2 ∧ s11 = v3 ∧ si = .int .i64 i ∧ Hid (RunC H (letters 0 gss) i T N) ∧ Hid (NumOk H n T F) ∧ Hid (cnt ≤ 5040 * T.length) ∧ PRel w wr (w1.heap.size + 1 + 1) v1 v2 v3 s1 s2 s3 (T.map (fun e => cut n e.1)) (T.map (·.2)) (N.map natI) (.slice none 0 0) [] F cnt) (fun _ _ _ si _ => xl - (intOf si).toNat)
      case atStart => exact ⟨0, cnt, _, _, _, _, _, _, [(1, [])], [], F, Nat.zero_le _, rfl, rfl, rfl, rfl, RunC.start, HNO, HC0, HP.out⟩
      case round =>
        clear HP HNO HC0
        obtain ⟨i, cnt, v1, v2, v3, s1, s2, s3, T, N, F, hiT, rfl, rfl, rfl, rfl, hRun, hNum, hcnt, hP⟩ := hrel
        have hO := hRun.out.ok HH.out
        have hTx : T.length ≤ xl := by rw [← HXL.out]; exact hO.ok.few HH.out HX.out
        have hl1' : s1.length = T.length := by rw [hP.quad.tri.l1.len, List.length_map]
        have hT1 : 1 ≤ T.length := (List.getElem?_eq_some_iff.1 hO.ok.first).1
        have hr1 := hP.quad.tri.l1.row
        rw [hl1'] at hr1
        obtain ⟨g1, c1, e1, hg1a, hg1b, hc1a, hc1b⟩ := owns_form hr1 hT1
        by_cases hit : i < T.length
        · obtain ⟨e, hE⟩ : ∃ e, T[i]? = some e := ⟨_, List.getElem?_eq_getElem hit⟩
          have HE := hide hE
          have hem := List.mem_of_getElem? hE
          have HEF : Hid (Fixes (fun b => n ≤ b) e.1) := gens_fix h12 HR.out ((letters_gen 0 gss _).1 (hO.ok.gen e hem))
          have HOK := hide hO.ok
          have HP := hide hP
          have HNUM := hide hNum.out
          have HTE := hide (tryCs_ok HH.out hO.ok hem)
          have hns3 : s3.length ≤ 1000000 := by
            have h9 := hP.quad.tri.l3.len
            rw [List.length_map, hO.len] at h9
            omega
          have HRUN := hide (RunC.step hRun.out hE)
          subst e1
          clear hP hr1 hE hem hO hRun hNum hl1'
          go_wp2
          go_loopw [9, 10, 15, 16] (fun s9 s10 s15 sj wr => ∃ (j cnt : Nat) (v1 v2 vl : Value) (s1 s2 : List Value) (T' : List (Pm × List Int)) (ln : List Nat) (F : Int → Option Value), j ≤ 2 * gl ∧ s9 = v1 ∧ s10 = v2 ∧ s15 = vl ∧ sj = .int .i64 j ∧ Hid ((T', ln) = tryCs H (letters 0 gss) e T j) ∧ Hid (NumOk H n T' F) ∧ Hid (cnt ≤ 5040 * T'.length) ∧ PRel w wr (w1.heap.size + 1 + 1) v1 v2 u11 s1 s2 s3 (T'.map (fun e => cut n e.1)) (T'.map (·.2)) (N.map natI) vl (natI ln) F cnt) (fun _ _ _ sj _ => 2 * gl - (intOf sj).toNat)
          case atStart => exact ⟨0, cnt, _, _, _, s1, s2, T, [], F, Nat.zero_le _, rfl, rfl, rfl, rfl, (tryCs_zero H (letters 0 gss) e T).symm, HNUM, hcnt, HP.out⟩
          case round =>
            clear HP HNUM hcnt hc1a hc1b hg1a hg1b
            obtain ⟨j, cnt, v1, v2, vl, s1, s2, T', ln, F, hj, rfl, rfl, rfl, rfl, hTr, hNum, hcnt, hP⟩ := hrel
            have hTO := HTE.out j (by rw [letters_length, HGL.out]; exact hj)
            rw [← hTr.out] at hTO
            have hTx' : T'.length ≤ xl := by rw [← HXL.out]; exact hTO.ok.few HH.out HX.out
            have hl1' : s1.length = T'.length := by rw [hP.quad.tri.l1.len, List.length_map]
            have hl2' : s2.length = T'.length := by rw [hP.quad.tri.l2.len, List.length_map]
            obtain ⟨more, hmore0⟩ := hTO.more
            have hmore : T' = T ++ more := hmore0
            clear hmore0
            have hiT' : i < T'.length := by rw [hmore, List.length_append]; omega
            have hE' : T'[i]? = some e := by rw [hmore, List.getElem?_append_left hit]; exact HE.out
            have hlnl : ln.length = j := hTO.line.1
            by_cases hjl : j < 2 * gl
            · obtain ⟨l, x, hl, hx, hlf, hcase⟩ := letters_at h12 HR.out (j := j) (by rw [HGL.out]; exact hjl)
              have hjI : (j : Int) < 2 * (gl : Int) := by omega
              obtain ⟨q, hqe⟩ : ∃ q, j / 2 = q := ⟨_, rfl⟩
              rw [hqe] at hx hcase
              have hq : q < gl := by omega
              have hqI : ((j : Nat) : Int) / 2 = (q : Int) := by omega
              have HQE := hide hqe
              clear hqe
              have hAw := HA.out.below hP.below
              obtain ⟨gg, og, hpg, hNg, hcg1, hcg2, hgg, hcellg⟩ := hAw.rowI (by rw [HGL.out]; omega)
              obtain ⟨ux, hcux, hiux⟩ := hcellg _ x hx
              rw [HGL.out] at hcg1
              have HIX := hide hiux
              have HL := hide hl
              have HLF := hide hlf
              have HP := hide hP
              have HTR := hide hTr.out
              have HNUM := hide hNum.out
              have HTOK := hide hTO.ok
              have HEI := hide hE'
              have hr1 := hP.quad.tri.l1.row
              rw [hl1'] at hr1
              obtain ⟨g1, c1, e1, hg1a, hg1b, hc1a, hc1b⟩ := owns_form hr1 (by omega)
              have hr2 := hP.quad.tri.l2.row
              rw [hl2'] at hr2
              obtain ⟨g2, c2, e2, hg2a, hg2b, hc2a, hc2b⟩ := owns_form hr2 (by omega)
              have hr3 := hP.quad.tri.l1
              subst e1
              subst e2
              obtain ⟨ue, hcue, houe⟩ := word_at hr1 hr3.all (i := i) (X := cut n e.1) (by rw [List.getElem?_map, hE']; rfl) (by rw [List.length_map])
              obtain ⟨uw, hcuw, houw⟩ := word_at hr2 hP.quad.tri.l2.all (i := i) (X := e.2) (by rw [List.getElem?_map, hE']; rfl) (by rw [List.length_map])
              rw [cut_length h12] at houe
              have HOE := hide houe
              have HOW := hide houw
              have hesh := hTO.ok.short e (List.mem_of_getElem? hE')
              have hsz := hP.below.size
              subst hpg
              obtain ⟨wo, hwo⟩ : ∃ wo, wo = wr := ⟨_, rfl⟩
              subst hwo
              obtain ⟨px, cx, epx⟩ := hiux.form
              have hxl : x.length = n := (HR.out x (List.mem_of_getElem? hx)).2
              rw [hxl] at epx
              subst epx
              have HCASE := hide hcase
              have HL1' := hide hl1'
              have HL2' := hide hl2'
              have HLNL := hide hlnl
              clear hNg hP hTr hNum hTO hmore hE' hr1 hr2 hr3 hcellg hiux hl hlf hx houe houw hAw hcase hxl hl1' hl2' hlnl
              go_upto_if 63 with fail
              go_cut [17, 18] from 46 to 119 (fun sx sl wc => ∃ vx, sx = vx ∧ sl = .int .i64 l.1 ∧ Ints wc vx (cut n l.2) ∧ Below wo.heap.size wo wc)
              case first =>
                rcases HCASE.out with ⟨hm, hl1, hxe⟩ | ⟨hm, hl1, hxe⟩
                · have hmI : ((j : Nat) : Int) % 2 = 0 := by omega
                  have hl1' : (q : Int) + 1 = l.1 := hl1.symm
                  have HIX2 : Hid (Ints wo (.slice px n cx) (cut n l.2)) := by rw [← hxe]; exact HIX.out
                  have HL1 := hide hl1'
                  clear hm hl1 hxe hl1'
                  go_wp2
                  go_meet
                  case rel => exact ⟨_, rfl, by rw [HL1.out], HIX2.out, Below.refl _ _⟩
                · have hmI : ((j : Nat) : Int) % 2 = 1 := by omega
                  have HL1 : Hid (-((q : Int) + 1) = l.1) := hl1.symm
                  have HUn := hide (rcut_undo n l.2⁻¹ (.slice px n cx) wo h1 h12 ((fixes_sub _).inv HLF.out) (by rw [← hxe]; exact HIX.out))
                  rw [Pm.inv_inv] at HUn
                  clear hm hl1 hxe
                  go_wp2_with fail
                  refine HUn.out.mono ?_
                  rintro ex w5 ⟨u5, rfl, hown5, hb5⟩
                  have HI5 := hide (Ints.own hown5)
                  have HB5 := hide hb5
                  clear hown5 hb5
                  go_wp2
                  go_meet
                  case rel => exact ⟨_, rfl, by rw [HL1.out], HI5.out, HB5.out⟩
              case rest =>
              obtain ⟨vx, rfl, rfl, hIx, hbc⟩ := hcut
              have hPc := HP.out.later hbc
              have hcue' := (hbc.cell (p := ⟨g1, i, none⟩) hg1b).trans hcue
              have HOEc := hide (owns_below HOE.out hbc (Nat.le_refl _))
              obtain ⟨ge, ce, ee, hgea, hgeb, hcea, hceb⟩ := owns_form HOEc.out h1
              subst ee
              have HBy := hide (rcut_by n e.1 l.2 _ u17 wc h1 h12 HEF.out HLF.out (Ints.own HOEc.out) hIx)
              have HPc := hide hPc
              have HBC := hide hbc
              clear hPc hIx hbc hcue HP HIX
              go_wp2_with fail
              refine HBy.out.mono ?_
              rintro ex w5 ⟨vr5, rfl, hown5, hb5⟩
              have HYF : Hid (Fixes (fun b => n ≤ b) (e.1 * l.2)) := (fixes_sub _).mul HEF.out HLF.out
              have hP5 := HPc.out.later hb5
              have HRk := hide (rcut_rank n (e.1 * l.2) vr5 w5 h1 h12 HYF.out (Ints.own hown5))
              have HO5 := hide hown5
              have HP5 := hide hP5
              have HUA : Hid (Apt vr5 u15) := apt_new HPc.out.quad.line (fun g hg => (hown5.lt g hg).1)
              have HBC5 := hide (HBC.out.trans (hb5.mono HBC.out.size))
              have hwcs : wo.heap.size ≤ wc.heap.size := HBC.out.size
              clear hP5 hown5 hb5 HBy HPc HBC
              go_wp2_with fail
              refine HRk.out.mono ?_
              rintro ex w6 ⟨rfl, hb6⟩
              have hP6 := HP5.out.later hb6
              have HB6 := hide (HBC5.out.trans (hb6.mono HBC5.out.size))
              have HO6 := hide (owns_below HO5.out hb6 (Nat.le_refl _))
              have hkb := rkP_le (e.1 * l.2) h12
              have hlk := hP6.map.look_ok Try.underlying108 (Try.zero3 w6) (a := ((rkP n (e.1 * l.2) : Nat) : Int)) (by omega) (by omega)
              rw [HNUM.out _ HYF.out] at hlk
              have hbs6 := hP6.below.size
              have hgen : True := trivial
              have HP6 := hide hP6
              have HU6 : Hid (w6.ownsRow w.heap.size 3 1 vr5 (cut n (e.1 * l.2)).length ((cut n (e.1 * l.2)).map (Value.int .i64))) := by
                show World.ownsRow _ _ _ _ _ _ _
                rw [cut_length h12]; exact owns_base HO6.out (Nat.le_trans hsz hwcs)
              obtain ⟨g5, c5, e5, hg5a, hg5b, _, _⟩ := owns_form HO6.out h1
              subst e5
              clear hP6 hb6 HRk HP5 HO5 hgen
              by_cases hc : cix H T' (e.1 * l.2) < T'.length
              · rw [partV_some hc] at hlk
                have HTR2 := hide (tryC_old HTR.out HL.out hc)
                generalize cix H T' (e.1 * l.2) = kk at *
                have HNUM6 := HNUM
                have HCNT6 := hcnt
                generalize rkP n (e.1 * l.2) = rk at *
                have HLi := hide HP6.out.quad.line
                go_wp2_with (at_builtin; refine wpList_append_keep _ rfl _ _ 23 rfl w.heap.size 3 j0 (.int .i64 0) 1 8 Try.underlying23 hji hjz0 hjz1 hjz2 rfl (by decide) _ _ _ rfl (HLi.out.alloc _) ⟨w6.heap.size, 0, none⟩ 1 1 [.int .i64 (kk : Int)] rfl rfl ?f1 ?f2 ?f3 ?f4 ?f5 ?_)
                case f1 => exact cell_one_new _ _ _
                case f2 => intro u hu; simp at hu; subst hu; rfl
                case f3 => unfold maxLen natI; rw [List.length_map]; have := HLNL.out; omega
                case f4 => unfold natI; rw [List.length_map]; have := HLNL.out; omega
                case f5 => have := HP6.out.below.size; simp; omega
                intro v20 w20 hown20 hg20 hp20
                have hP20 := (HP6.out.alloc (.cells #[.int .i64 (kk : Int)] 3)).push (x := (kk : Int)) (by rw [List.map_append]; exact hown20) hg20 (hp20.imp id (fun h => ⟨by rw [h.1]; simp, h.2⟩))
                have HP20 := hide (hP20.lists rfl rfl rfl (L' := natI (ln ++ [kk])) (by unfold natI; rw [List.map_append]; rfl))
                clear hown20 hg20 hp20 hP20 HLi
                go_wp2
                go_roundw
                case rel =>
                  have hfin : ∃ (j' cnt : Nat) (v1 v2 vl : Value) (s1 s2 : List Value) (T9 : List (Pm × List Int)) (ln9 : List Nat) (F : Int → Option Value), j' ≤ 2 * gl ∧ Value.slice (some ⟨g1, 0, none⟩) T'.length c1 = v1 ∧ Value.slice (some ⟨g2, 0, none⟩) T'.length c2 = v2 ∧ v20 = vl ∧ Value.int .i64 ((j : Int) + 1) = .int .i64 (j' : Int) ∧ Hid ((T9, ln9) = tryCs H (letters 0 gss) e T j') ∧ Hid (NumOk H n T9 F) ∧ Hid (cnt ≤ 5040 * T9.length) ∧ PRel w w20 (w1.heap.size + 1 + 1) v1 v2 u11 s1 s2 s3 (T9.map (fun e => cut n e.1)) (T9.map (·.2)) (N.map natI) vl (natI ln9) F cnt := ⟨j + 1, _, _, _, _, _, _, T', ln ++ [kk], _, hjl, rfl, rfl, rfl, by go_num, HTR2, HNUM6, HCNT6, HP20.out⟩
                  first
                    | exact hfin
                    | ((repeat apply Exists.intro); exact ⟨hfin, rfl⟩)
                case measure => simp [intOf]; omega
              · rw [partV_none hc] at hlk
                have HTR2 := hide (tryC_new HTR.out HL.out hc)
                have HNEW := hide (cix_none hc)
                have HrA : Hid (w6.ownsRow w.heap.size 23 1 (.slice (some ⟨g1, 0, none⟩) T'.length c1) T'.length s1) := by
                  have h9 := HP6.out.quad.tri.l1.row
                  rw [HL1'.out] at h9
                  exact h9
                generalize rkP n (e.1 * l.2) = rk at *
                go_wp2_with (at_builtin; refine wpList_append_keep _ rfl _ _ 22 rfl w.heap.size 23 i0 (.slice none 0 0) 1 24 Try.underlying22 hi hz0 hz1 hz2 rfl (by decide) _ T'.length s1 rfl (HrA.out.alloc _) ⟨w6.heap.size, 0, none⟩ 1 1 [.slice (some ⟨g5, 0, none⟩) n c5] rfl rfl ?d1 ?d2 ?d3 ?d4 ?d5 ?_)
                case d1 => exact cell_one_new _ _ _
                case d2 => intro u hu; simp at hu; subst hu; rfl
                case d3 => unfold maxLen; omega
                case d4 => omega
                case d5 => simp; omega
                intro v7 w7 hown7 hg7 hp7
                have hP7 := (HP6.out.alloc (.cells #[.slice (some ⟨g5, 0, none⟩) n c5] 23)).add1 (X := cut n (e.1 * l.2)) (HU6.out.alloc _) HUA.out (by rw [HL1'.out]; exact hown7) hg7 (hp7.imp id (fun h => ⟨by rw [h.1]; simp, h.2⟩))
                have HU7 := hide (owns_kept_ty (HU6.out.alloc (.cells #[.slice (some ⟨g5, 0, none⟩) n c5] 23)) (HrA.out.alloc _) hg7)
                have hs77 := hP7.below.size
                have hr2 := hP7.quad.tri.l2.row
                rw [HL2'.out] at hr2
                obtain ⟨uw7, hcw7, how7⟩ := word_at hr2 hP7.quad.tri.l2.all (i := i) (X := e.2) (by rw [List.getElem?_map, HEI.out]; rfl) (by rw [List.length_map])
                have hg27 := (hr2.lt g2 rfl).2
                have hE5 : Hid ((w7.alloc (.cells #[] 3)).ownsRow w7.heap.size 3 1 (.slice (some ⟨w7.heap.size, 0, none⟩) 0 0) 0 []) := World.ownsRow_made w7 #[] 0 (Nat.le_refl _) (by decide) (by simp)
                have hcw5 : (w7.alloc (.cells #[] 3)).cell? ⟨g2, i, none⟩ = some uw7 := by rw [World.cell?_of_block (w := w7) (a := ⟨g2, i, none⟩) (Below.heap_alloc w7 _ g2 hg27)]; exact hcw7
                have HW5 := hide (how7.alloc (.cells #[] 3))
                have HMX : Hid (e.2.length ≤ maxLen) := by unfold Hid maxLen; omega
                have HMY : Hid (e.2.length * 8 ≤ 140737488355328) := by unfold Hid; omega
                have HMZ : Hid (w7.heap.size ≤ (w7.alloc (.cells #[] 3)).heap.size) := by unfold Hid; simp
                have HP7 := hide hP7
                obtain ⟨uwp, uwc, euw⟩ := owns_slice how7
                subst euw
                clear hown7 hg7 hp7 hP7 hr2 hcw7 how7 HP6 HU6 HrA hcuw hcue'
                go_wp2_with (at_builtin; refine wpList_append_copy rfl _ _ 23 rfl w7.heap.size w.heap.size 3 j0 (.int .i64 0) 8 Try.underlying23 hji hjz0 hjz1 hjz2 rfl w7.heap.size rfl hE5.out _ e.2.length (e.2.map (Value.int .i64)) rfl HW5.out (ints_oneCell .i64 e.2) HMX.out HMY.out HMZ.out ?_)
                intro v8 w8 hown8 hg8
                have hb8 : Below w7.heap.size w7 w8 := ((Below.refl _ _).alloc (Nat.le_refl _) _).grown hg8 (by simp) (fun k hk => by have e' : w7.heap.size = k := Option.some.inj hk; omega)
                have hs88 := hb8.size
                have HB8 := hide hb8
                clear hb8 hg8 hE5 HW5 hcw5
                go_wp2_with (at_builtin; refine wpList_append_own _ rfl _ _ 23 rfl w7.heap.size 3 j0 (.int .i64 0) 1 8 Try.underlying23 hji hjz0 hjz1 hjz2 rfl (by decide) _ _ _ rfl (hown8.alloc _) ⟨w8.heap.size, 0, none⟩ 1 1 [.int .i64 l.1] rfl rfl ?g1 ?g2 ?g3 ?g4 ?g5 ?_)
                case g1 => exact cell_one_new _ _ _
                case g2 => intro u hu; simp at hu; subst hu; rfl
                case g3 => unfold maxLen; omega
                case g4 => omega
                case g5 => simp; omega
                intro v9 w9 hown9 hg9 _
                have hb9 : Below w7.heap.size w7 w9 := (HB8.out.alloc HB8.out.size _).grown hg9 (by simp; omega) (fun k hk => (hown8.lt k hk).1)
                have hP9 := HP7.out.later hb9
                have ho9 : w9.ownsRow w7.heap.size 3 1 v9 (e.2 ++ [l.1]).length ((e.2 ++ [l.1]).map (Value.int .i64)) := by rw [List.length_append, List.map_append]; exact hown9
                obtain ⟨g9, c9, e9, _, _, _, _⟩ := owns_form ho9 (by simp)
                subst e9
                have HUA9 : Hid (Apt (.slice (some ⟨g9, 0, none⟩) (e.2 ++ [l.1]).length c9) u15) := apt_new HP7.out.quad.line (fun g hg => (ho9.lt g hg).1)
                have HO9 := hide (owns_base ho9 hs77)
                have HU9 := hide (owns_below HU7.out hb9 (Nat.le_refl _))
                have HP9 := hide hP9
                have HrB : Hid (w9.ownsRow w.heap.size 23 1 (.slice (some ⟨g2, 0, none⟩) T'.length c2) T'.length s2) := by
                  have h9 := hP9.quad.tri.l2.row
                  rw [HL2'.out] at h9
                  exact h9
                have hs99 := hP9.below.size
                clear HP7 HB8 hown8 hown9 hg9 hb9 hP9 ho9 HU7
                generalize hlw : (e.2 ++ [l.1]).length = lw at *
                have HLW := hide hlw
                clear hlw
                go_wp2_with (at_builtin; refine wpList_append_keep _ rfl _ _ 22 rfl w.heap.size 23 i0 (.slice none 0 0) 1 24 Try.underlying22 hi hz0 hz1 hz2 rfl (by decide) _ T'.length s2 rfl (HrB.out.alloc _) ⟨w9.heap.size, 0, none⟩ 1 1 [.slice (some ⟨g9, 0, none⟩) lw c9] rfl rfl ?h1 ?h2 ?h3 ?h4 ?h5 ?_)
                case h1 => exact cell_one_new _ _ _
                case h2 => intro u hu; simp at hu; subst hu; rfl
                case h3 => unfold maxLen; omega
                case h4 => omega
                case h5 => simp; omega
                intro v10 w10 hown10 hg10 hp10
                have hP10 := (HP9.out.alloc (.cells #[.slice (some ⟨g9, 0, none⟩) lw c9] 23)).add2 (X := e.2 ++ [l.1]) (by have := HO9.out.alloc (.cells #[.slice (some ⟨g9, 0, none⟩) lw c9] 23); rw [HLW.out]; exact this) HUA9.out (by rw [HL2'.out]; exact hown10) hg10 (hp10.imp id (fun h => ⟨by rw [h.1]; simp, h.2⟩))
                have HU10 : Hid (w10.ownsRow w.heap.size 3 1 (.slice (some ⟨g5, 0, none⟩) n c5) n ((cut n (e.1 * l.2)).map (Value.int .i64))) := by
                  have h9 := owns_kept_ty (HU9.out.alloc (.cells #[.slice (some ⟨g9, 0, none⟩) lw c9] 23)) (HrB.out.alloc _) hg10
                  rw [cut_length h12] at h9
                  exact h9
                have HP10 := hide (hP10.lists (B1 := (T' ++ [(e.1 * l.2, e.2 ++ [l.1])]).map (fun e => cut n e.1)) (B2 := (T' ++ [(e.1 * l.2, e.2 ++ [l.1])]).map (·.2)) (by rw [List.map_append]; rfl) (by rw [List.map_append]; rfl) rfl rfl)
                have HNT := hide (NumTo.start HNUM.out (e.1 * l.2) Hs)
                have HC10 : Hid (cnt ≤ 5040 * T'.length + 0) := hcnt
                clear hown10 hg10 hp10 hP10 HP9 HO9 HU9 HrB HUA HUA9 hcnt HNUM hlk
                go_wp2
                go_loopw [22] (fun sm wr => ∃ (m cnt : Nat) (F : Int → Option Value), m ≤ hl ∧ sm = .int .i64 m ∧ Hid (NumTo H n T' (e.1 * l.2) Hs m F) ∧ Hid (cnt ≤ 5040 * T'.length + m) ∧ wr.ownsRow w.heap.size 3 1 (.slice (some ⟨g5, 0, none⟩) n c5) n ((cut n (e.1 * l.2)).map (Value.int .i64)) ∧ PRel w wr (w1.heap.size + 1 + 1) v7 v10 u11 (s1 ++ [.slice (some ⟨g5, 0, none⟩) n c5]) (s2 ++ [.slice (some ⟨g9, 0, none⟩) lw c9]) s3 ((T' ++ [(e.1 * l.2, e.2 ++ [l.1])]).map (fun e => cut n e.1)) ((T' ++ [(e.1 * l.2, e.2 ++ [l.1])]).map (·.2)) (N.map natI) u15 (natI ln) F cnt) (fun sm _ => hl - (intOf sm).toNat)
                case atStart => exact ⟨0, cnt, F, Nat.zero_le _, rfl, HNT, HC10, HU10.out, HP10.out⟩
                case round =>
                  clear HP10 HU10 HNT HC10
                  obtain ⟨m, cnt, F, hm, rfl, hN, hcnt, hu, hP⟩ := hrel
                  by_cases hml : m < hl
                  · obtain ⟨c, hcm⟩ : ∃ c, Hs[m]? = some c := ⟨_, List.getElem?_eq_getElem (by rw [HHL.out]; exact hml)⟩
                    obtain ⟨us, hcus, hius⟩ := HCS.out m c hcm
                    have hcf := HHF.out c ((HHS.out c).1 (List.mem_of_getElem? hcm))
                    have hcus' := (hP.below.cell (p := ⟨gsb, offs + m, none⟩) hgs).trans hcus
                    have HB2 := hide (rcut_by n c (e.1 * l.2) us (.slice (some ⟨g5, 0, none⟩) n c5) wr h1 h12 hcf HYF.out (hius.below hP.below) (Ints.own hu))
                    have HN2 := hide (hN.out.step h12 HYF.out hcf hcm)
                    have HCF := hide ((fixes_sub (fun b => n ≤ b)).mul hcf HYF.out)
                    have HP := hide hP
                    have HU := hide hu
                    clear hcus hius hcm hP hu hN
                    go_wp2_with fail
                    refine HB2.out.mono ?_
                    rintro ex w11 ⟨v11, rfl, hown11, hb11⟩
                    have HR11 := hide (rcut_rank n (c * (e.1 * l.2)) v11 w11 h1 h12 HCF.out (Ints.own hown11))
                    have HP11 := hide (HP.out.later hb11)
                    have HU11 := hide (owns_below HU.out hb11 (Nat.le_refl _))
                    clear hown11 hb11 HB2 HP HU
                    go_wp2_with fail
                    refine HR11.out.mono ?_
                    rintro ex w12 ⟨rfl, hb12⟩
                    have HP12 := hide (HP11.out.later hb12)
                    have HU12 := hide (owns_below HU11.out hb12 (Nat.le_refl _))
                    have HMP := hide HP12.out.map
                    have HC2 : Hid (cnt + 1 ≤ 5040 * T'.length + (m + 1)) := by have := hcnt.out; unfold Hid; omega
                    have hclm : cnt < maxLen := by have := hcnt.out; unfold maxLen; omega
                    have hkb2 := rkP_le (c * (e.1 * l.2)) h12
                    clear hb12 HR11 HP11 HU11 hcnt
                    generalize hrk2 : rkP n (c * (e.1 * l.2)) = rk2 at *
                    clear hrk2
                    go_wp2_with (at_mapUpdate; refine wpList_put rfl _ _ _ 108 rfl 3 Try.underlying108 HMP.out hclm ((rk2 : Nat) : Int) (.int .i64 ((T'.length : Nat) : Int)) rfl rfl rfl (by omega) (by omega) ?_)
                    intro w13 hM13 hg13
                    have HP13 := hide (HP12.out.put hM13 hg13)
                    have HU13 := hide (owns_map_kept HU12.out HMP.out hg13)
                    clear hM13 hg13 HMP HP12 HU12
                    go_wp2
                    go_roundw
                    case rel =>
                      have hfin : ∃ (m' cnt : Nat) (F : Int → Option Value), m' ≤ hl ∧ Value.int .i64 ((m : Int) + 1) = .int .i64 (m' : Int) ∧ Hid (NumTo H n T' (e.1 * l.2) Hs m' F) ∧ Hid (cnt ≤ 5040 * T'.length + m') ∧ w13.ownsRow w.heap.size 3 1 (.slice (some ⟨g5, 0, none⟩) n c5) n ((cut n (e.1 * l.2)).map (Value.int .i64)) ∧ PRel w w13 (w1.heap.size + 1 + 1) v7 v10 u11 (s1 ++ [.slice (some ⟨g5, 0, none⟩) n c5]) (s2 ++ [.slice (some ⟨g9, 0, none⟩) lw c9]) s3 ((T' ++ [(e.1 * l.2, e.2 ++ [l.1])]).map (fun e => cut n e.1)) ((T' ++ [(e.1 * l.2, e.2 ++ [l.1])]).map (·.2)) (N.map natI) u15 (natI ln) F cnt := ⟨m + 1, _, _, hml, by go_num, HN2, HC2, HU13.out, HP13.out⟩
                      first
                        | exact hfin
                        | ((repeat apply Exists.intro); exact ⟨hfin, rfl⟩)
                    case measure => simp [intOf]; omega
                  · obtain rfl : hl = m := by omega
                    have HNUM30 : Hid (NumOk H n (T' ++ [(e.1 * l.2, e.2 ++ [l.1])]) F) := by
                      have h9 := hN.out
                      rw [← HHL.out] at h9
                      exact NumTo.done (d := (e.1 * l.2, e.2 ++ [l.1])) HH.out h9 HHS.out HNEW.out
                    have HCNT30 : Hid (cnt ≤ 5040 * (T' ++ [(e.1 * l.2, e.2 ++ [l.1])]).length) := by have := hcnt.out; unfold Hid; rw [List.length_append, List.length_singleton]; omega
                    have HP30 := hide hP
                    clear hP hu hN hcnt
                    have HLi := hide HP30.out.quad.line
                    go_wp2_with (at_builtin; refine wpList_append_keep _ rfl _ _ 23 rfl w.heap.size 3 j0 (.int .i64 0) 1 8 Try.underlying23 hji hjz0 hjz1 hjz2 rfl (by decide) _ _ _ rfl (HLi.out.alloc _) ⟨wr.heap.size, 0, none⟩ 1 1 [.int .i64 ((T'.length : Nat) : Int)] rfl rfl ?k1 ?k2 ?k3 ?k4 ?k5 ?_)
                    case k1 => exact cell_one_new _ _ _
                    case k2 => intro u hu; simp at hu; subst hu; rfl
                    case k3 => unfold maxLen natI; rw [List.length_map]; have := HLNL.out; omega
                    case k4 => unfold natI; rw [List.length_map]; have := HLNL.out; omega
                    case k5 => have := HP30.out.below.size; simp; omega
                    intro v20 w20 hown20 hg20 hp20
                    have hP20 := (HP30.out.alloc (.cells #[.int .i64 ((T'.length : Nat) : Int)] 3)).push (x := ((T'.length : Nat) : Int)) (by rw [List.map_append]; exact hown20) hg20 (hp20.imp id (fun h => ⟨by rw [h.1]; simp, h.2⟩))
                    have HP20 := hide (hP20.lists rfl rfl rfl (L' := natI (ln ++ [T'.length])) (by unfold natI; rw [List.map_append]; rfl))
                    clear hown20 hg20 hp20 hP20 HLi
                    go_wp2
                    go_roundw
                    case rel =>
                      have hfin : ∃ (j' cnt : Nat) (v1 v2 vl : Value) (s1 s2 : List Value) (T9 : List (Pm × List Int)) (ln9 : List Nat) (F : Int → Option Value), j' ≤ 2 * gl ∧ v7 = v1 ∧ v10 = v2 ∧ v20 = vl ∧ Value.int .i64 ((j : Int) + 1) = .int .i64 (j' : Int) ∧ Hid ((T9, ln9) = tryCs H (letters 0 gss) e T j') ∧ Hid (NumOk H n T9 F) ∧ Hid (cnt ≤ 5040 * T9.length) ∧ PRel w w20 (w1.heap.size + 1 + 1) v1 v2 u11 s1 s2 s3 (T9.map (fun e => cut n e.1)) (T9.map (·.2)) (N.map natI) vl (natI ln9) F cnt := ⟨j + 1, _, _, _, _, _, _, T' ++ [(e.1 * l.2, e.2 ++ [l.1])], ln ++ [T'.length], _, hjl, rfl, rfl, rfl, by go_num, HTR2, HNUM30, HCNT30, HP20.out⟩
                      first
                        | exact hfin
                        | ((repeat apply Exists.intro); exact ⟨hfin, rfl⟩)
                    case measure => simp [intOf]; omega
            · obtain rfl : j = 2 * gl := by omega
              have HP := hide hP
              have HTR : Hid ((T', ln) = tryCs H (letters 0 gss) e T (letters 0 gss).length) := by
                show _ = _
                rw [letters_length, HGL.out]; exact hTr.out
              have HRun2 : Hid (RunC H (letters 0 gss) (i + 1) T' (N ++ [ln])) := by
                have h9 := HRUN.out
                rw [← HTR.out] at h9
                exact h9
              have HrC := hide hP.quad.tri.l3.row
              obtain ⟨lp, lc, el⟩ := owns_slice hP.quad.line
              rw [natI_length] at el
              have HLEN := hide hlnl
              have hs0 := hP.below.size
              have hiT2 : i + 1 ≤ T'.length := hiT'
              clear hP hTr hTO hmore hE' hl1' hl2'
              subst el
              generalize hln : ln.length = lnl at *
              have HLN2 := hide hln
              clear hln hlnl
              go_wp2_with (at_builtin; refine wpList_append_keep _ rfl _ _ 22 rfl w.heap.size 23 i0 (.slice none 0 0) 1 24 Try.underlying22 hi hz0 hz1 hz2 rfl (by decide) _ s3.length s3 rfl (HrC.out.alloc _) ⟨wr.heap.size, 0, none⟩ 1 1 [.slice lp lnl lc] rfl rfl ?m1 ?m2 ?m3 ?m4 ?m5 ?_)
              case m1 => exact cell_one_new _ _ _
              case m2 => intro u hu; simp at hu; subst hu; rfl
              case m3 => unfold maxLen; omega
              case m4 => omega
              case m5 => simp; omega
              intro v30 w30 hown30 hg30 hp30
              have hP30 := (HP.out.alloc (.cells #[.slice lp lnl lc] 23)).fin hown30 hg30 (hp30.imp id (fun h => ⟨by rw [h.1]; simp, h.2⟩))
              have HP30 := hide (hP30.lists rfl rfl (B3 := (N ++ [ln]).map natI) (by rw [List.map_append]; rfl) rfl)
              clear hown30 hg30 hp30 hP30 HP HrC
              go_wp2
              go_roundw
              case rel =>
                have hfin : ∃ (i' cnt : Nat) (v1 v2 v3 : Value) (s1 s2 s3 : List Value) (T9 : List (Pm × List Int)) (N9 : List (List Nat)) (F : Int → Option Value), i' ≤ T9.length ∧ u9 = v1 ∧ u10 = v2 ∧ v30 = v3 ∧ Value.int .i64 ((i : Int) + 1) = .int .i64 (i' : Int) ∧ Hid (RunC H (letters 0 gss) i' T9 N9) ∧ Hid (NumOk H n T9 F) ∧ Hid (cnt ≤ 5040 * T9.length) ∧ PRel w w30 (w1.heap.size + 1 + 1) v1 v2 v3 s1 s2 s3 (T9.map (fun e => cut n e.1)) (T9.map (·.2)) (N9.map natI) (.slice none 0 0) [] F cnt := ⟨i + 1, cnt, _, _, _, _, _, _, T', N ++ [ln], F, hiT2, rfl, rfl, rfl, by go_num, HRun2, hNum, hcnt, HP30.out⟩
                first
                  | exact hfin
                  | ((repeat apply Exists.intro); exact ⟨hfin, rfl⟩)
              case measure => simp [intOf]; omega
        · obtain rfl : i = T.length := by omega
          have HPP : Hid (RunC H (letters 0 gss) T.length T N ∧ IntsAll wr u11 (N.map natI) ∧ IntsAll wr u10 (T.map (·.2)) ∧ IntsAll wr u9 (T.map (fun e => cut n e.1)) ∧ Below w.heap.size w wr) := ⟨hRun.out, hP.quad.tri.l3.ints, hP.quad.tri.l2.ints, hP.quad.tri.l1.ints, hP.below⟩
          subst e1
          clear hP hRun hNum hcnt hO hr1 hl1'
          go_wp2
          go_ret3
          exact ⟨_, _, _, T, N, rfl, HPP.out⟩

end Go.Proofs.Ytimfoggjocajiaa

/- Contract: coset.lettersOf. -/
namespace Go.Proofs.Ytimfoggjocajiaa
open Go.RowKit

theorem Try.info148 : (Try.prog.info? 148).map (fun i => (i.zero, i.size, i.bytes)) = some (some (.agg #[.int .i64 0, .slice none 0 0]), 2, 32) := by kernel_rfl

theorem cells4_new (w : World) (a b c d : Value) (t : TypeId) : ∀ (j : Nat) (u : Value), [a, b, c, d][j]? = some u → (w.alloc (.cells #[a, b, c, d] t)).cell? ((⟨w.heap.size, 0, none⟩ : Addr).add j) = some u := by
  intro j u h
  rw [Addr.add_lit, Nat.zero_add]
  have e := heap_alloc_new w (.cells #[a, b, c, d] t)
  simp only [World.cell?, e]
  match j with
  | 0 => simpa using h
  | 1 => simpa using h
  | 2 => simpa using h
  | 3 => simpa using h
  | j + 4 => simp at h

/-- The letters that were laid so far. -/
structure LetR (wp w wr : World) (v : Value) (cs : List Value) (n : Nat) (gss : List (List Int)) (i : Nat) : Prop where
  row : wr.ownsRow w.heap.size 148 2 v (2 * i) cs
  let_ : ∀ (j : Nat) (l : Int × Pm), j < 2 * i → (letters 0 gss)[j]? = some l → cs[2 * j]? = some (.int .i64 l.1) ∧ ∃ u, cs[2 * j + 1]? = some u ∧ (Ints wp u (cut n l.2) ∨ wr.ownsRow w.heap.size 3 1 u n ((cut n l.2).map (Value.int .i64)))
  below : Below w.heap.size w wr

theorem LetR.later {wp w wr w' : World} {v : Value} {cs : List Value} {n i : Nat} {gss : List (List Int)} (h : LetR wp w wr v cs n gss i) (hb : Below wr.heap.size wr w') : LetR wp w w' v cs n gss i :=
  ⟨owns_of_block h.row (fun b hb' => hb.block b (h.row.lt b hb').2), fun j l hj hl => by
    obtain ⟨h1, u, h2, h3⟩ := h.let_ j l hj hl
    exact ⟨h1, u, h2, h3.imp id (fun h => owns_below h hb (Nat.le_refl _))⟩, h.below.trans (hb.mono h.below.size)⟩

theorem LetR.step {wp w wr w' : World} {v v' ug ub : Value} {cs : List Value} {n i : Nat} {gss : List (List Int)} {x : List Int} {o : Obj} (h : LetR wp w wr v cs n gss i) (h12 : n ≤ 12) (hx : gss[i]? = some x) (hr : isRow x) (hl : x.length = n) (hug : Ints wp ug x) (hub : wr.ownsRow w.heap.size 3 1 ub n ((cut n (pad x)⁻¹).map (Value.int .i64)))
    (hown : w'.ownsRow w.heap.size 148 2 v' (2 * i + 2) (cs ++ [.int .i64 ((i : Int) + 1), ug, .int .i64 (-(i : Int) - 1), ub])) (hg : (wr.alloc o).grownBy w' v.ownBlock) : LetR wp w w' v' (cs ++ [.int .i64 ((i : Int) + 1), ug, .int .i64 (-(i : Int) - 1), ub]) n gss (i + 1) := by
  have hcs : cs.length = 4 * i := by have := h.row.1; omega
  have hal := Below.alloc (Below.refl _ wr) (Nat.le_refl _) o
  have hA := h.later hal
  have hB : Below w.heap.size w w' := hA.below.grown hg hA.below.size (fun g hg' => (h.row.lt g hg').1)
  have hubA := owns_below hub hal (Nat.le_refl _)
  have hkeep : ∀ (u : Value) (k : Nat) (ys : List Value), (wr.alloc o).ownsRow w.heap.size 3 1 u k ys → w'.ownsRow w.heap.size 3 1 u k ys := fun u k ys hu => owns_of_block hu (fun b hb => hg.block b (hu.lt b hb).2 (fun e => by
    obtain ⟨c1, k1⟩ := owns_obj hu hb
    obtain ⟨c2, k2⟩ := owns_obj hA.row e.symm
    rw [k1] at k2
    injection k2 with k2
    injection k2 with _ k3
    exact absurd k3 (by decide)))
  refine ⟨by rw [show 2 * (i + 1) = 2 * i + 2 by omega]; exact hown, fun j l hj hlj => ?_, hB⟩
  by_cases h0 : j < 2 * i
  · obtain ⟨h1, u, h2, h3⟩ := hA.let_ j l h0 hlj
    refine ⟨by rw [List.getElem?_append_left (by omega)]; exact h1, u, by rw [List.getElem?_append_left (by omega)]; exact h2, ?_⟩
    exact h3.imp id (fun h => hkeep _ _ _ h)
  · rcases (show j = 2 * i ∨ j = 2 * i + 1 by omega) with e | e
    · subst e
      rw [letters_even hx, Nat.zero_add] at hlj
      rw [← Option.some.inj hlj]
      refine ⟨?_, ug, ?_, ?_⟩
      · rw [List.getElem?_append_right (by omega), show 2 * (2 * i) - cs.length = 0 by omega]; rfl
      · rw [List.getElem?_append_right (by omega), show 2 * (2 * i) + 1 - cs.length = 1 by omega]; rfl
      · left
        show Ints wp ug (cut n (pad x))
        rw [cut_pad h12 hl hr]; exact hug
    · subst e
      rw [letters_odd hx, Nat.zero_add] at hlj
      rw [← Option.some.inj hlj]
      refine ⟨?_, ub, ?_, ?_⟩
      · rw [List.getElem?_append_right (by omega), show 2 * (2 * i + 1) - cs.length = 2 by omega]
        show some (Value.int .i64 (-(i : Int) - 1)) = some (.int .i64 (-((i : Int) + 1)))
        rw [show (-(i : Int) - 1) = -((i : Int) + 1) by omega]
      · rw [List.getElem?_append_right (by omega), show 2 * (2 * i + 1) + 1 - cs.length = 3 by omega]; rfl
      · exact Or.inr (hkeep _ _ _ hubA)

/-- Letters in memory: rows that were there (wp), and rows from block B on. -/
structure LetAt (wp : World) (B : Nat) (w : World) (v : Value) (n : Nat) (gss : List (List Int)) : Prop where
  form : ∃ p c, v = .slice p (2 * gss.length) c
  cells : ∀ (j : Nat) (l : Int × Pm), (letters 0 gss)[j]? = some l → ∃ b c u, v = .slice (some ⟨b, 0, none⟩) (2 * gss.length) c ∧ 2 * gss.length ≤ c ∧ c ≤ 9223372036854775807 ∧ B ≤ b ∧ b < w.heap.size ∧ w.cell? ⟨b, j * 2, none⟩ = some (.int .i64 l.1) ∧ w.cell? ⟨b, j * 2 + 1, none⟩ = some u ∧ (Ints wp u (cut n l.2) ∨ w.ownsRow B 3 1 u n ((cut n l.2).map (Value.int .i64)))

/-- .. stay, as long as those blocks stay. -/
theorem LetAt.kept {wp w w' : World} {B : Nat} {v : Value} {n : Nat} {gss : List (List Int)} (h : LetAt wp B w v n gss) (hb : ∀ g, B ≤ g → g < w.heap.size → w'.heap[g]? = w.heap[g]?) (hs : w.heap.size ≤ w'.heap.size) : LetAt wp B w' v n gss :=
  ⟨h.form, fun j l hl => by
    obtain ⟨b, c, u, h1, h2, h3, h4, h5, h6, h7, h8⟩ := h.cells j l hl
    exact ⟨b, c, u, h1, h2, h3, h4, Nat.lt_of_lt_of_le h5 hs, by rw [World.cell?_of_block (w := w) (a := ⟨b, j * 2, none⟩) (hb b h4 h5)]; exact h6, by rw [World.cell?_of_block (w := w) (a := ⟨b, j * 2 + 1, none⟩) (hb b h4 h5)]; exact h7, h8.imp id (fun h9 => owns_of_block h9 (fun g hg => hb g (h9.lt g hg).1 (h9.lt g hg).2))⟩⟩

theorem LetR.done {wp w wr : World} {v : Value} {cs : List Value} {n : Nat} {gss : List (List Int)} (h : LetR wp w wr v cs n gss gss.length) : LetAt wp w.heap.size wr v n gss := by
  refine ⟨?_, fun j l hl => ?_⟩
  · rcases h.row.2 with ⟨hv, h0⟩ | ⟨g, cap, cur, hv, _⟩
    · rw [h0]; exact ⟨_, _, hv⟩
    · exact ⟨_, _, hv⟩
  · have hj : j < 2 * gss.length := by have := (List.getElem?_eq_some_iff.1 hl).1; rw [letters_length] at this; exact this
    obtain ⟨h1, u, h2, h3⟩ := h.let_ j l hj hl
    have hrow := h.row
    rcases h.row.2 with ⟨_, h0⟩ | ⟨g, cap, cur, hv, _, _, hn, hx, _⟩
    · omega
    · subst hv
      refine ⟨g, cap, u, rfl, hn, by unfold maxLen at hx; omega, (hrow.lt g rfl).1, (hrow.lt g rfl).2, ?_, ?_, h3⟩
      · have := hrow.cells (g := g) rfl (2 * j) _ h1
        rw [Addr.add_lit, Nat.zero_add] at this
        rw [Nat.mul_comm j 2]; exact this
      · have := hrow.cells (g := g) rfl (2 * j + 1) _ h2
        rw [Addr.add_lit, Nat.zero_add] at this
        rw [Nat.mul_comm j 2]; exact this

set_option maxRecDepth 20000 in
set_option maxHeartbeats 4000000 in
theorem lettersOf_ok (n : Nat) (v : Value) (gss : List (List Int)) (wp w : World) (hA : IntsAll wp v gss) (hbp : Below wp.heap.size wp w) (hR : RowsN n gss) (h1 : 1 ≤ n) (h12 : n ≤ 12) (h8 : gss.length ≤ 1000) :
    Calls Try.prog 74 #[v] w fun e w' => ∃ u, e = .returned u ∧ LetAt wp w.heap.size w' u n gss ∧ Below w.heap.size w w' := by
  obtain ⟨i0, hi, hz0, hz1, hz2⟩ := info_parts Try.info148
  obtain ⟨pg, cg, rfl⟩ := hA.len
  have HA := hide hA
  have HR := hide hR
  have HBP := hide hbp
  generalize hgl : gss.length = gl at *
  have HGL := hide hgl
  clear hA hR hgl hbp
  go_enter Try.func74, Try.ntmps74
  go_wp2
  go_loopw [3, 10] (fun sl si wr => ∃ (i : Nat) (u : Value) (cs : List Value), i ≤ gl ∧ sl = u ∧ si = .int .i64 i ∧ LetR wp w wr u cs n gss i) (fun _ si _ => gl - (intOf si).toNat)
  case atStart => exact ⟨0, _, [], Nat.zero_le _, rfl, rfl, ⟨World.ownsRow_nil _ _ _ _, fun j l hj => by omega, Below.refl _ _⟩⟩
  case round =>
    obtain ⟨i, u, cs, hig, rfl, rfl, hL⟩ := hrel
    by_cases hit : i < gl
    · obtain ⟨x, hx⟩ : ∃ x, gss[i]? = some x := ⟨_, List.getElem?_eq_getElem (by rw [HGL.out]; exact hit)⟩
      obtain ⟨hxr, hxl⟩ := HR.out x (List.mem_of_getElem? hx)
      obtain ⟨gg, og, hpg, hNg, hcg1, hcg2, hgg, hcellg⟩ := HA.out.rowI (by rw [HGL.out]; omega)
      obtain ⟨ux, hcux, hiux⟩ := hcellg _ x hx
      rw [HGL.out] at hcg1
      subst hpg
      have hbx : Below wp.heap.size wp wr := HBP.out.trans (hL.below.mono HBP.out.size)
      have hcux' := (hbx.cell (p := ⟨gg, og + i, none⟩) hgg).trans hcux
      obtain ⟨px, cx, epx⟩ := hiux.form
      rw [hxl] at epx
      subst epx
      have hpf := pad_fixes h12 hxl hxr
      have HBk := hide (crow_back n (pad x) (.slice px n cx) wr h1 h12 hpf (by rw [cut_pad h12 hxl hxr]; exact hiux.below hbx))
      have HL := hide hL
      have HX := hide hx
      have HXR := hide hxr
      have HXL := hide hxl
      have HIX := hide hiux
      clear hNg hcellg hcux hiux hL hx hbx hxr hxl hpf
      go_wp2_with fail
      refine HBk.out.mono ?_
      rintro ex w5 ⟨u5, rfl, hown5, hb5⟩
      have hL5 := HL.out.later hb5
      have hs5 := hL5.below.size
      have HO5 := hide (owns_base hown5 HL.out.below.size)
      obtain ⟨p5, c5, e5⟩ := owns_slice hown5
      subst e5
      have HL5 := hide hL5
      have HRw := hide hL5.row
      clear hown5 hb5 hL5 HBk HL
      go_wp2_with (at_builtin; refine wpList_append_own _ rfl _ _ 112 rfl w.heap.size 148 i0 (.agg #[.int .i64 0, .slice none 0 0]) 2 32 Try.underlying112 hi hz0 hz1 hz2 rfl (by decide) _ (2 * i) cs rfl (HRw.out.alloc _) ⟨w5.heap.size, 0, none⟩ 2 2 [.int .i64 ((i : Int) + 1), .slice px n cx, .int .i64 (-(i : Int) - 1), .slice p5 n c5] rfl rfl ?c1 ?c2 ?c3 ?c4 ?c5 ?_)
      case c1 => exact cells4_new _ _ _ _ _ _
      case c2 => intro u hu; simp at hu; rcases hu with rfl | rfl | rfl | rfl <;> rfl
      case c3 => unfold maxLen; omega
      case c4 => omega
      case c5 => simp; omega
      intro v6 w6 hown6 hg6 _
      have HL6 := hide (HL5.out.step h12 HX.out HXR.out HXL.out HIX.out HO5.out hown6 hg6)
      clear hown6 hg6 HL5 HRw
      go_wp2
      go_roundw
      case rel =>
        have hfin : ∃ (i' : Nat) (u : Value) (cs : List Value), i' ≤ gl ∧ v6 = u ∧ Value.int .i64 ((i : Int) + 1) = .int .i64 (i' : Int) ∧ LetR wp w w6 u cs n gss i' := ⟨i + 1, _, _, hit, rfl, by go_num, HL6.out⟩
        first
          | exact hfin
          | ((repeat apply Exists.intro); exact ⟨hfin, rfl⟩)
      case measure => simp [intOf]; omega
    · obtain rfl : gl = i := by omega
      have HD : Hid (LetAt wp w.heap.size wr u3 n gss) := by
        have h9 := hL
        rw [← HGL.out] at h9
        exact h9.done
      have HB := hide hL.below
      clear hL
      go_wp2
      go_ret
      exact ⟨_, rfl, HD.out, HB.out⟩

end Go.Proofs.Ytimfoggjocajiaa

/- A region that draws its order, whose last operation waits for all others and writes what loads read: up to that operation what is loaded stays. -/
namespace Go.Proofs.Ytimfoggjocajiaa
open Go.RowKit

section
variable {P : Program} {ops : Array Oper} {Q : Exit → Act → World → Prop} {md : Region.Mode} {S : World → Prop} {k : Nat}

/-- Whatever order is picked; S holds behind each operation but the k-th. -/
def wpLast (P : Program) (md : Region.Mode) (ops : Array Oper) (Q : Exit → Act → World → Prop) (S : World → Prop) (k : Nat) : Nat → Array Bool → Act → World → Prop
  | 0, ls, a, w => Region.ready md ops ls = [] ∧ Q .normal a w
  | n + 1, ls, a, w => (Region.ready md ops ls = [] → Q .normal a w) ∧ ∀ i, i ∈ Region.ready md ops ls → wpOp P ops Q i (fun b u => (i ≠ k → S u) ∧ wpLast P md ops Q S k n (ls.setIfInBounds i true) b u) a w

theorem wpLast.any : ∀ (n : Nat) (ls : Array Bool) (a : Act) (w : World), wpLast P md ops Q S k n ls a w → wpAny P md ops Q n ls a w := by
  intro n
  induction n with
  | zero => exact fun _ _ _ h => h
  | succ n ih => exact fun ls a w h => ⟨h.1, fun i hi => wpOp_mono (fun b u hb => ih _ b u hb.2) (h.2 i hi)⟩

/-- The k-th operation waits for the i-th. -/
def waitsFor (md : Region.Mode) (ops : Array Oper) (k i : Nat) : Bool := match ops[k]? with | some o => o.after.any (fun e => Region.binds md e && e.on == i) | none => true

theorem not_ready_yet {i : Nat} {ls : Array Bool} (hw : waitsFor md ops k i = true) (hi : i ∈ Region.ready md ops ls) : ¬ k ∈ Region.ready md ops ls := fun hk => by
  obtain ⟨_, o, ho, hall⟩ := mem_ready.1 hk
  unfold waitsFor at hw
  rw [ho] at hw
  simp only at hw
  rw [Array.any_eq_true] at hw
  obtain ⟨x, hx, hb⟩ := hw
  simp only [Bool.and_eq_true, beq_iff_eq] at hb
  have h1 := hall _ (Array.getElem_mem hx) hb.1
  have h0 := (mem_ready.1 hi).1
  rw [hb.2] at h1
  rcases Nat.lt_or_ge i ls.size with h' | h'
  · simp [h'] at h0 h1
    rw [h0] at h1
    cases h1
  · simp [Array.getElem?_eq_none h'] at h1

theorem wpLast.first {i : Nat} {o : Oper} {v : Value} (ho : ops[i]? = some o) (hsel : ∀ (j : Nat) (o : Oper) cs b, ops[j]? = some o → o.op ≠ .select cs b) (hQ : ∀ c a w, Q (.panic c) (a.put o.dst v) w → Q (.panic c) a w) (hik : i ≠ k) (hwait : waitsFor md ops k i = true) :
    ∀ (n : Nat) (ls : Array Bool) (a : Act) (w : World), (∀ j oj, ops[j]? = some oj → j ≠ i → ls.getD j true = false → (∀ e ∈ oj.after, Region.binds md e = true → e.on ≠ i) → o.apart ops oj = true) →
      i ∈ Region.ready md ops ls → YieldsIf P ops S o v a → S w → wpLast P md ops Q S k n (ls.setIfInBounds i true) (a.put o.dst v) w → wpLast P md ops Q S k (n + 1) ls a w := by
  intro n
  induction n with
  | zero =>
    intro ls a w _ hr hy hS hn
    refine ⟨fun h => (by rw [h] at hr; cases hr), fun j hj => ?_⟩
    by_cases e : j = i
    · subst e; exact hy.wpOp ho hS ⟨fun _ => hS, hn⟩
    · have h9 := ready_mono hj e
      rw [hn.1] at h9
      cases h9
  | succ n ih =>
    intro ls a w hfree hr hy hS hn
    refine ⟨fun h => (by rw [h] at hr; cases hr), fun j hj => ?_⟩
    by_cases e : j = i
    · subst e; exact hy.wpOp ho hS ⟨fun _ => hS, hn⟩
    · have hjk : j ≠ k := fun h => not_ready_yet hwait hr (h ▸ hj)
      obtain ⟨hun, oj, hoj, hall⟩ := mem_ready.1 hj
      have hno : ∀ e ∈ oj.after, Region.binds md e = true → e.on ≠ i := fun d hd hb heq => by
        have h1 := hall d hd hb
        have h0 := (mem_ready.1 hr).1
        rw [heq] at h1
        rcases Nat.lt_or_ge i ls.size with h' | h'
        · simp [h'] at h0 h1
          rw [h0] at h1
          cases h1
        · simp [Array.getElem?_eq_none h'] at h1
      have hstep := wpOp_putIf hoj (hfree j oj hoj e hun hno) (fun cs b => hsel i o cs b ho) (fun cs b => hsel j oj cs b hoj) hQ hy (hn.2 j (ready_mono hj e))
      refine wpOp_mono (fun b u hb => ⟨fun _ => hb.2.1 hjk, ?_⟩) hstep
      refine ih (ls.setIfInBounds j true) b u (fun m om hm hmi hmu hmno => ?_) (ready_mono hr (Ne.symm e)) hb.1 (hb.2.1 hjk) (by rw [Array.setIfInBounds_comm _ _ e]; exact hb.2.2)
      refine hfree m om hm hmi ?_ hmno
      by_cases ejm : j = m
      · subst ejm; exact hun
      · rw [getD_set_ne true ejm] at hmu; exact hmu

theorem wpLast.take {i : Nat} {o : Oper} {v : Value} {n : Nat} {ls : Array Bool} {a : Act} {w : World} (ho : ops[i]? = some o) (hs : Region.noSelect ops = true) (hf : Region.free md ops ls i = true) (hr : (Region.ready md ops ls).contains i = true) (hk : (i != k && waitsFor md ops k i) = true)
    (hQ : ∀ c a w, Q (.panic c) (a.put o.dst v) w → Q (.panic c) a w) (hy : YieldsIf P ops S o v a) (hS : S w) (h : wpLast P md ops Q S k n (ls.setIfInBounds i true) (a.put o.dst v) w) : wpLast P md ops Q S k (n + 1) ls a w := by
  rw [Bool.and_eq_true] at hk
  exact wpLast.first ho (Region.noSelect_spec hs) hQ (by simpa using hk.1) hk.2 n ls a w (Region.free_spec ho hf) (by simpa using hr) hy hS h

/-- Each of these comes up. -/
def EachL (P : Program) (md : Region.Mode) (ops : Array Oper) (Q : Exit → Act → World → Prop) (S : World → Prop) (k n : Nat) (ls : Array Bool) (a : Act) (w : World) (rs : List Nat) : Prop :=
  ∀ i, i ∈ rs → wpOp P ops Q i (fun b u => (i ≠ k → S u) ∧ wpLast P md ops Q S k n (ls.setIfInBounds i true) b u) a w

theorem EachL.nil {n : Nat} {ls : Array Bool} {a : Act} {w : World} : EachL P md ops Q S k n ls a w [] := fun _ h => by cases h

theorem EachL.cons {n : Nat} {ls : Array Bool} {a : Act} {w : World} {i : Nat} {o : Oper} {rs : List Nat} (ho : ops[i]? = some o)
    (h : ∀ K : Act → World → Prop, Shut (∀ b u, S u → (S u → wpLast P md ops Q S k n (ls.setIfInBounds i true) b u) → K b u) → if Region.wanted o (yielded ops a.tmps) = true then Oper.wp P o a w K Q else K (a.put o.dst undef) w)
    (hs : EachL P md ops Q S k n ls a w rs) : EachL P md ops Q S k n ls a w (i :: rs) := fun j hj => by
  rcases List.mem_cons.1 hj with rfl | hj
  · exact wpOp_step ho (fun K hK => h K (fun b u h1 h2 => hK b u ⟨fun _ => h1, h2 h1⟩))
  · exact hs j hj

theorem EachL.last {n : Nat} {ls : Array Bool} {a : Act} {w : World} {o : Oper} (ho : ops[k]? = some o)
    (h : ∀ K : Act → World → Prop, Shut (∀ b u, wpLast P md ops Q S k n (ls.setIfInBounds k true) b u → K b u) → if Region.wanted o (yielded ops a.tmps) = true then Oper.wp P o a w K Q else K (a.put o.dst undef) w) : EachL P md ops Q S k n ls a w [k] := fun j hj => by
  rw [List.mem_singleton] at hj
  subst hj
  exact wpOp_step ho (fun K hK => h K (fun b u h1 => hK b u ⟨fun h9 => absurd rfl h9, h1⟩))

theorem wpLast.ready {rs : List Nat} {n : Nat} {ls : Array Bool} {a : Act} {w : World} (hr : Region.ready md ops ls = rs) (hne : rs ≠ []) (h : EachL P md ops Q S k n ls a w rs) : wpLast P md ops Q S k (n + 1) ls a w :=
  ⟨fun h0 => absurd (hr ▸ h0) hne, hr ▸ h⟩

theorem wpLast.done {ls : Array Bool} {a : Act} {w : World} (hr : Region.ready md ops ls = []) (h : Q .normal a w) : ∀ n, wpLast P md ops Q S k n ls a w
  | 0 => ⟨hr, h⟩
  | _ + 1 => ⟨fun _ => h, by rw [hr]; simp⟩

theorem wp_region_last {id : Nat} {a : Act} {w : World} (k : Nat) (hm : P.follows .mixedOrders = true) (hS : S w.drew) (h : S w.drew → wpLast P .any ops Q S k ops.size (Array.replicate ops.size false) a w.drew) : (Code.region id ops true).wp P Q a w :=
  wp_region_any hm (wpLast.any _ _ _ _ (h hS))

end

theorem cells2_new (w : World) (a b : Value) (t : TypeId) : (w.alloc (.cells #[a, b] t)).cell? ⟨w.heap.size, 0, none⟩ = some a ∧ (w.alloc (.cells #[a, b] t)).cell? ⟨w.heap.size, 1, none⟩ = some b := by
  have e := heap_alloc_new w (.cells #[a, b] t)
  simp only [World.cell?, e]
  simp

end Go.Proofs.Ytimfoggjocajiaa

/- Contract: slices.Clone of a row of the call's own. -/
namespace Go.Proofs.Ytimfoggjocajiaa
open Go.RowKit

set_option maxRecDepth 20000 in
set_option maxHeartbeats 1000000 in
theorem clone_own {base : Nat} {v : Value} {xs : List Int} {w : World} (h : w.ownsRow base 3 1 v xs.length (xs.map (Value.int .i64))) (hl : xs.length ≤ 1000000) :
    Calls Try.prog 114 #[v] w fun e w' => ∃ v', e = .returned v' ∧ w'.ownsRow w.heap.size 3 1 v' xs.length (xs.map (Value.int .i64)) ∧ Below w.heap.size w w' := by
  obtain ⟨j0, hj, hq0, hq1, hq2⟩ := info_parts Try.info3
  have q1 := run_nil_eq
  have q3 := run_some_eq
  rcases h.2 with ⟨rfl, hz⟩ | ⟨g, cap, cur, rfl, hbg, hh, hnc, hm, hs, ht⟩
  · have hx : xs = [] := List.length_eq_zero_iff.1 hz
    subst hx
    clear h hz
    go_enter Try.func114, Try.ntmps114
    go_wp2
    go_ret
    exact ⟨_, rfl, World.ownsRow_nil _ _ _ _, Below.refl _ _⟩
  · have h1c : ∀ v ∈ xs.map (Value.int .i64), v.oneCell' = true := by
      intro v hv'
      obtain ⟨z, _, rfl⟩ := List.mem_map.1 hv'
      rfl
    have hnew : (w.alloc (.cells #[] 3)).ownsRow w.heap.size 3 1 (.slice (some ⟨w.heap.size, 0, none⟩) 0 0) 0 [] := World.ownsRow_made w #[] 0 (Nat.le_refl _) (by unfold maxLen; omega) rfl
    have hsrc := h.alloc (.cells #[] 3)
    clear hh hs ht h
    go_enter Try.func114, Try.ntmps114
    go_wp2_with (at_builtin; refine wpList_append_more rfl _ _ 23 rfl w.heap.size base 3 j0 (.int .i64 0) 8 Try.underlying23 hj hq0 hq1 hq2 rfl _ _ _ rfl hnew _ _ _ rfl hsrc h1c ?c3 ?c4 ?c5 ?_)
    case c3 => unfold maxLen; omega
    case c4 => omega
    case c5 => simp
    · intro v' w' hown hgrow
      have hB : Below w.heap.size w w' := ((Below.refl _ _).alloc (Nat.le_refl _) _).grown hgrow (by simp) (fun k hk => by have : w.heap.size = k := Option.some.inj hk; omega)
      try rw [Nat.zero_add] at hown
      try rw [List.nil_append] at hown
      clear hgrow
      go_wp2
      go_ret
      exact ⟨_, rfl, hown, hB⟩

end Go.Proofs.Ytimfoggjocajiaa

/- Plain: parts by marks. What coset's fill has laid so far. -/
namespace Go.Proofs.Ytimfoggjocajiaa
open Go.RowKit

/-- The parts of rows, by marks. -/
def MarkOk (H : Pm → Prop) (n : Nat) (T : List (Pm × List Int)) (F : Int → Option Value) : Prop := ∀ x, Fixes (fun b => n ≤ b) x → F ((mkN H n x : Nat) : Int) = partV H T x

theorem MarkOk.new {H : Pm → Prop} (hH : Sub H) {n : Nat} (h12 : n ≤ 12) (hf : ∀ h, H h → Fixes (fun b => n ≤ b) h) {T : List (Pm × List Int)} {d : Pm × List Int} {F : Int → Option Value} (h : ∀ x, Fixes (fun b => n ≤ b) x → ¬ H (x * d.1⁻¹) → F ((mkN H n x : Nat) : Int) = partV H T x) (hd : Fixes (fun b => n ≤ b) d.1) (hn : ∀ e, e ∈ T → ¬ H (d.1 * e.1⁻¹)) :
    MarkOk H n (T ++ [d]) (upd F ((mkN H n d.1 : Nat) : Int) (.int .i64 ((T.length : Nat) : Int))) := by
  classical
  intro x hx
  have hm := mkN_eq hH h12 hf hd hx
  unfold upd
  by_cases hc : H (x * d.1⁻¹)
  · have e : ((mkN H n x : Nat) : Int) = ((mkN H n d.1 : Nat) : Int) := by rw [hm.2 hc]
    rw [if_pos e]
    have hx' : ¬ cix H T x < T.length := fun hc' => by
      obtain ⟨e, he, hHe⟩ := cix_at hc'
      refine hn e (List.mem_of_getElem? he) ?_
      have := hH.mul (hH.inv hc) hHe
      rwa [Pm.inv_prod, Pm.inv_inv, Pm.mul_assoc, Pm.inv_mul_cancel] at this
    unfold partV
    rw [cix_app, List.length_append, List.length_singleton, if_neg hx', if_pos hc, if_pos (by omega)]
  · have e : ¬ ((mkN H n x : Nat) : Int) = ((mkN H n d.1 : Nat) : Int) := fun e => hc (hm.1 (by omega))
    rw [if_neg e, h x hx hc]
    unfold partV
    rw [cix_app, List.length_append, List.length_singleton]
    by_cases hc' : cix H T x < T.length
    · rw [if_pos hc', if_pos hc', if_pos (by omega)]
    · rw [if_neg hc', if_neg hc', if_neg hc, if_neg (by omega)]

theorem MarkOk.first {H : Pm → Prop} (hH : Sub H) {n : Nat} (h12 : n ≤ 12) (hf : ∀ h, H h → Fixes (fun b => n ≤ b) h) : MarkOk H n [(1, [])] (upd (fun _ => none) ((mkN H n 1 : Nat) : Int) (.int .i64 0)) :=
  MarkOk.new (T := []) (d := (1, [])) hH h12 hf (fun x _ _ => by unfold partV; rw [if_neg (by simp)]) (fixes_sub _).one (fun e he => by cases he)

theorem MarkOk.more {H : Pm → Prop} (hH : Sub H) {n : Nat} (h12 : n ≤ 12) (hf : ∀ h, H h → Fixes (fun b => n ≤ b) h) {T : List (Pm × List Int)} {d : Pm × List Int} {F : Int → Option Value} (h : MarkOk H n T F) (hd : Fixes (fun b => n ≤ b) d.1) (hn : ∀ e, e ∈ T → ¬ H (d.1 * e.1⁻¹)) :
    MarkOk H n (T ++ [d]) (upd F ((mkN H n d.1 : Nat) : Int) (.int .i64 ((T.length : Nat) : Int))) := MarkOk.new hH h12 hf (fun x hx _ => h x hx) hd hn

theorem mkN_le {H : Pm → Prop} {n : Nat} (x : Pm) (h12 : n ≤ 12) : mkN H n x ≤ 479001600 := rkP_le _ h12

/-- A table in memory. -/
abbrev tabC (n M : Nat) (vb vn vw : Value) : Array Value := #[.int .i64 n, vb, .map (some M), vn, vw]

theorem cells5 {w : World} {T : Nat} {a b c d e : Value} {t : TypeId} (h : w.heap[T]? = some (.cells #[a, b, c, d, e] t)) :
    w.cell? ⟨T, 0, none⟩ = some a ∧ w.cell? ⟨T, 1, none⟩ = some b ∧ w.cell? ⟨T, 2, none⟩ = some c ∧ w.cell? ⟨T, 3, none⟩ = some d ∧ w.cell? ⟨T, 4, none⟩ = some e ∧ w.frozen? ⟨T, 3, none⟩ = false ∧ w.frozen? ⟨T, 4, none⟩ = false := by
  simp [World.cell?, World.frozen?, h]

theorem set5n {w : World} {T : Nat} {a b c d e : Value} {t : TypeId} (h : w.heap[T]? = some (.cells #[a, b, c, d, e] t)) (u : Value) : (w.setCell ⟨T, 3, none⟩ u).heap[T]? = some (.cells #[a, b, c, u, e] t) := by
  simp [World.setCell, Array.getElem?_modify, h]

theorem set5w {w : World} {T : Nat} {a b c d e : Value} {t : TypeId} (h : w.heap[T]? = some (.cells #[a, b, c, d, e] t)) (u : Value) : (w.setCell ⟨T, 4, none⟩ u).heap[T]? = some (.cells #[a, b, c, d, u] t) := by
  simp [World.setCell, Array.getElem?_modify, h]

/-- What fill has laid so far. -/
structure FRel (w wr : World) (T M n : Nat) (vb v1 v2 v3 : Value) (s1 s2 s3 : List Value) (A1 A2 A3 : List (List Int)) (vl : Value) (L : List Int) (F : Int → Option Value) (cnt : Nat) : Prop where
  blk : wr.heap[T]? = some (.cells (tabC n M vb v3 v2) 110)
  quad : Quad w.heap.size wr v1 v2 v3 s1 s2 s3 A1 A2 A3 vl L
  map : IMap wr M cnt F
  frm : Frm w.heap.size T M w wr

theorem Frm.grown {B sb mb : Nat} {w wr w' : World} {g : Option Nat} (h : Frm B sb mb w wr) (hg : wr.grownBy w' g) (hB : B ≤ wr.heap.size) (hn : ∀ x, g = some x → B ≤ x ∨ x = sb ∨ x = mb) : Frm B sb mb w w' :=
  h.trans ⟨hg.os, hg.tape, hg.output, hg.size, fun x h1 h2 h3 => hg.block x (by omega) (fun e => by
    rcases hn x e.symm with h4 | h4 | h4
    · omega
    · exact h2 h4
    · exact h3 h4)⟩

section
variable {w wr w' : World} {T M n cnt : Nat} {vb v1 v2 v3 v' u vl : Value} {s1 s2 s3 : List Value} {A1 A2 A3 : List (List Int)} {L X : List Int} {F F' : Int → Option Value}

theorem FRel.later (hT : T < w.heap.size) (h : FRel w wr T M n vb v1 v2 v3 s1 s2 s3 A1 A2 A3 vl L F cnt) (hb : Below wr.heap.size wr w') : FRel w w' T M n vb v1 v2 v3 s1 s2 s3 A1 A2 A3 vl L F cnt :=
  ⟨(hb.block T (Nat.lt_of_lt_of_le hT h.frm.size)).trans h.blk, h.quad.later hb, h.map.below hb h.map.lt, h.frm.trans (Frm.of_below hb h.frm.size)⟩

theorem FRel.put (hT : T < w.heap.size) (hTM : T ≠ M) (h : FRel w wr T M n vb v1 v2 v3 s1 s2 s3 A1 A2 A3 vl L F cnt) (hm : IMap w' M (cnt + 1) F') (hg : wr.grownBy w' (some M)) : FRel w w' T M n vb v1 v2 v3 s1 s2 s3 A1 A2 A3 vl L F' (cnt + 1) :=
  ⟨(hg.block T (Nat.lt_of_lt_of_le hT h.frm.size) (fun e => hTM (Option.some.inj e))).trans h.blk, h.quad.put h.map hg, hm, h.frm.grown hg h.frm.size (fun _ hx => Or.inr (Or.inr (Option.some.inj hx).symm))⟩

theorem FRel.add1 (hT : T < w.heap.size) (h : FRel w wr T M n vb v1 v2 v3 s1 s2 s3 A1 A2 A3 vl L F cnt) (hu : wr.ownsRow w.heap.size 3 1 u X.length (X.map (Value.int .i64))) (hua : Apt u vl) (hown : w'.ownsRow w.heap.size 23 1 v' (s1.length + 1) (s1 ++ [u])) (hg : wr.grownBy w' v1.ownBlock)
    (hp : v'.ownBlock = v1.ownBlock ∨ (v'.ownBlock = some wr.heap.size ∧ wr.grownBy w' none)) : FRel w w' T M n vb v' v2 v3 (s1 ++ [u]) s2 s3 (A1 ++ [X]) A2 A3 vl L F cnt :=
  ⟨(hg.block T (Nat.lt_of_lt_of_le hT h.frm.size) (fun e => by have := (h.quad.tri.l1.row.lt T e.symm).1; omega)).trans h.blk, h.quad.add1 hu hua hown hg hp, map_row_kept h.quad.tri.l1.row h.map hg, h.frm.grown hg h.frm.size (fun x hx => Or.inl (h.quad.tri.l1.row.lt x hx).1)⟩

theorem FRel.word (hT : T < w.heap.size) (hTM : T ≠ M) (h : FRel w wr T M n vb v1 v2 v3 s1 s2 s3 A1 A2 A3 vl L F cnt) (hu : wr.ownsRow w.heap.size 3 1 u X.length (X.map (Value.int .i64))) (hua : Apt u vl) (hown : w'.ownsRow w.heap.size 23 1 v' (s2.length + 1) (s2 ++ [u])) (hg : wr.grownBy w' v2.ownBlock)
    (hp : v'.ownBlock = v2.ownBlock ∨ (v'.ownBlock = some wr.heap.size ∧ wr.grownBy w' none)) : FRel w (w'.setCell ⟨T, 4, none⟩ v') T M n vb v1 v' v3 s1 (s2 ++ [u]) s3 A1 (A2 ++ [X]) A3 vl L F cnt :=
  have hb := (hg.block T (Nat.lt_of_lt_of_le hT h.frm.size) (fun e => by have := (h.quad.tri.l2.row.lt T e.symm).1; omega)).trans h.blk
  ⟨set5w hb v', (h.quad.add2 hu hua hown hg hp).set hT v', (map_row_kept h.quad.tri.l2.row h.map hg).of_block (Below.heap_setCell _ _ _ _ (by show M ≠ T; exact hTM.symm)), (h.frm.grown hg h.frm.size (fun x hx => Or.inl (h.quad.tri.l2.row.lt x hx).1)).set 4 v'⟩

theorem FRel.fin (hT : T < w.heap.size) (hTM : T ≠ M) (h : FRel w wr T M n vb v1 v2 v3 s1 s2 s3 A1 A2 A3 vl L F cnt) (hown : w'.ownsRow w.heap.size 23 1 v' (s3.length + 1) (s3 ++ [vl])) (hg : wr.grownBy w' v3.ownBlock)
    (hp : v'.ownBlock = v3.ownBlock ∨ (v'.ownBlock = some wr.heap.size ∧ wr.grownBy w' none)) : FRel w (w'.setCell ⟨T, 3, none⟩ v') T M n vb v1 v2 v' s1 s2 (s3 ++ [vl]) A1 A2 (A3 ++ [L]) (.slice none 0 0) [] F cnt :=
  have hb := (hg.block T (Nat.lt_of_lt_of_le hT h.frm.size) (fun e => by have := (h.quad.tri.l3.row.lt T e.symm).1; omega)).trans h.blk
  ⟨set5n hb v', Quad.bare ((h.quad.tri.add3 h.quad.line hown hg hp).set hT v'), (map_row_kept h.quad.tri.l3.row h.map hg).of_block (Below.heap_setCell _ _ _ _ (by show M ≠ T; exact hTM.symm)), (h.frm.grown hg h.frm.size (fun x hx => Or.inl (h.quad.tri.l3.row.lt x hx).1)).set 3 v'⟩

theorem FRel.line (hT : T < w.heap.size) (h : FRel w wr T M n vb v1 v2 v3 s1 s2 s3 A1 A2 A3 (.slice none 0 0) [] F cnt) {L' : List Int} (hown : w'.ownsRow wr.heap.size 3 1 v' L'.length (L'.map (Value.int .i64))) (hb : Below wr.heap.size wr w') : FRel w w' T M n vb v1 v2 v3 s1 s2 s3 A1 A2 A3 v' L' F cnt := by
  have h' := h.later hT hb
  refine ⟨h'.blk, ⟨h'.quad.tri, owns_base hown h.frm.size, fun y hy g h1 h2 => ?_⟩, h'.map, h'.frm⟩
  have hge := (hown.lt g h2).1
  have hlt : g < wr.heap.size := by
    rcases List.mem_append.1 hy with hy | hy
    · rcases List.mem_append.1 hy with hy | hy
      · obtain ⟨Y, hY⟩ := h.quad.tri.l1.inner hy; exact (hY.lt g h1).2
      · obtain ⟨Y, hY⟩ := h.quad.tri.l2.inner hy; exact (hY.lt g h1).2
    · obtain ⟨Y, hY⟩ := h.quad.tri.l3.inner hy; exact (hY.lt g h1).2
  omega

theorem FRel.write {g k c : Nat} (hT : T < w.heap.size) (h : FRel w wr T M n vb v1 v2 v3 s1 s2 s3 A1 A2 A3 (.slice (some ⟨g, 0, none⟩) k c) L F cnt) (hk : L.length = k) (m : Nat) (x : Int) : FRel w (wr.setCell ⟨g, m, none⟩ (.int .i64 x)) T M n vb v1 v2 v3 s1 s2 s3 A1 A2 A3 (.slice (some ⟨g, 0, none⟩) k c) (L.set m x) F cnt := by
  have hg := (h.quad.line.lt g rfl).1
  have hgm : M ≠ g := fun e => by
    obtain ⟨cur, hc⟩ := owns_obj h.quad.line (b := g) rfl
    obtain ⟨es, cl, ho⟩ := h.map.obj
    rw [e, hc] at ho
    cases ho
  exact ⟨(Below.heap_setCell _ _ _ _ (by show T ≠ g; omega)).trans h.blk, h.quad.write hk m x, h.map.of_block (Below.heap_setCell _ _ _ _ hgm), h.frm.trans ⟨rfl, rfl, rfl, by simp [World.setCell], fun y h1 _ _ => Below.heap_setCell _ _ _ _ (by show y ≠ g; omega)⟩⟩

theorem FRel.lists {B1 B2 B3 : List (List Int)} {L' : List Int} (h : FRel w wr T M n vb v1 v2 v3 s1 s2 s3 A1 A2 A3 vl L F cnt) (e1 : A1 = B1) (e2 : A2 = B2) (e3 : A3 = B3) (e4 : L = L') : FRel w wr T M n vb v1 v2 v3 s1 s2 s3 B1 B2 B3 vl L' F cnt := by
  subst e1; subst e2; subst e3; subst e4; exact h

end

end Go.Proofs.Ytimfoggjocajiaa

/- Contract: extent.cyclesOf: the cycles of a list of numbers. -/
namespace Go.Proofs.Ytimfoggjocajiaa
open Go.RowKit

theorem Try.info4 : (Try.prog.info? 4).map (fun i => (i.zero, i.size, i.bytes)) = some (some (.bool false), 1, 1) := by kernel_rfl

/-- What is marked. -/
def Dn (w : World) (D s : Nat) (f : Nat → Bool) : Prop := w.ownsRow D 4 1 (.slice (some ⟨D, 0, none⟩) s s) s ((List.range s).map (fun i => Value.bool (f i)))

theorem Dn.of_block {w w' : World} {D s : Nat} {f : Nat → Bool} (h : Dn w D s f) (hb : w'.heap[D]? = w.heap[D]?) : Dn w' D s f :=
  owns_of_block h (fun g hg => by have e : D = g := Option.some.inj hg; rw [← e]; exact hb)

theorem Dn.cell {w : World} {D s i : Nat} {f : Nat → Bool} (h : Dn w D s f) (hi : i < s) : w.cell? ⟨D, i, none⟩ = some (.bool (f i)) ∧ w.frozen? ⟨D, i, none⟩ = false := by
  have h9 := World.ownsRow.cells h (g := D) rfl i (.bool (f i)) (by rw [List.getElem?_map, List.getElem?_range hi]; rfl)
  rw [Addr.add_lit, Nat.zero_add] at h9
  exact ⟨h9, (row_cellE h hi).2⟩

theorem Dn.set {w : World} {D s m : Nat} {f : Nat → Bool} (h : Dn w D s f) (t : Bool) : Dn (w.setCell ⟨D, m, none⟩ (.bool t)) D s (fun i => if i = m then t else f i) := by
  have h9 := owns_set (m := m) h (.bool t)
  have e : ((List.range s).map (fun i => Value.bool (f i))).set m (.bool t) = (List.range s).map (fun i => Value.bool (if i = m then t else f i)) := by
    refine List.ext_getElem? (fun i => ?_)
    rw [List.getElem?_set]
    by_cases hi : i < s
    · rw [List.getElem?_map, List.getElem?_map, List.getElem?_range hi]
      by_cases e : m = i
      · subst e
        rw [if_pos rfl, if_pos (by rw [List.length_map, List.length_range]; exact hi)]
        simp
      · rw [if_neg e]
        simp [show ¬ i = m from fun h => e h.symm]
    · rw [List.getElem?_eq_none (by rw [List.length_map, List.length_range]; omega), List.getElem?_eq_none (by rw [List.length_map, List.length_range]; omega)]
      split
      · split
        · rename_i h1 h2; rw [List.length_map, List.length_range] at h2; omega
        · rfl
      · rfl
  rw [e] at h9
  exact h9

theorem Dn.congr {w : World} {D s : Nat} {f g : Nat → Bool} (h : Dn w D s f) (e : ∀ i, i < s → f i = g i) : Dn w D s g := by
  unfold Dn at h ⊢
  rw [show (List.range s).map (fun i => Value.bool (g i)) = (List.range s).map (fun i => Value.bool (f i)) from List.map_congr_left (fun i hi => by rw [e i (List.mem_range.1 hi)])]
  exact h

theorem made_bools (n : Nat) : (madeCells #[Value.bool false] n).toList = (List.range n).map (fun _ => Value.bool false) := by
  apply List.ext_getElem
  · simp [madeCells]
  · intro i h1 h2
    simp [madeCells, Nat.mod_one]

/-- How far cyclesOf has come. -/
structure CyR (w wr : World) (a : List Int) (v : Value) (vs : List Value) (k : Nat) : Prop where
  done : Dn wr w.heap.size a.length (fun i => decide ((i : Int) ∈ (cycsTo a k).flatten))
  cyc : LL wr (w.heap.size + 1) v vs (cycsTo a k)
  apt : vs.Pairwise Apt
  below : Below w.heap.size w wr

theorem CyR.size {w wr : World} {a : List Int} {v : Value} {vs : List Value} {k : Nat} (h : CyR w wr a v vs k) : w.heap.size + 1 ≤ wr.heap.size := (World.ownsRow.lt h.done w.heap.size rfl).2

/-- .. and within one cycle. -/
structure CyI (w wo wr : World) (a : List Int) (u : Value) (k j : Nat) : Prop where
  done : Dn wr w.heap.size a.length (fun i => decide ((i : Int) ∈ (cycsTo a k).flatten ∨ (i : Int) ∈ orb a k j))
  row : wr.ownsRow wo.heap.size 3 1 u j ((orb a k j).map (Value.int .i64))
  frm : Frm wo.heap.size w.heap.size w.heap.size wo wr

theorem CyR.inner {w wr : World} {a : List Int} {v : Value} {vs : List Value} {k : Nat} (h : CyR w wr a v vs k) : CyI w wr wr a (.slice none 0 0) k 0 :=
  ⟨h.done.congr (fun i _ => by simp [orb]), World.ownsRow_nil _ _ _ _, Frm.refl _ _ _ _⟩

theorem CyI.step {w wo wr w' : World} {a : List Int} {u u' : Value} {k j : Nat} {o : Obj} (hw : w.heap.size + 1 ≤ wo.heap.size) (h : CyI w wo wr a u k j)
    (hown : w'.ownsRow wo.heap.size 3 1 u' (j + 1) ((orb a k j).map (Value.int .i64) ++ [.int .i64 ((it a j k : Nat) : Int)])) (hg : ((wr.setCell ⟨w.heap.size, it a j k, none⟩ (.bool true)).alloc o).grownBy w' u.ownBlock) : CyI w wo w' a u' k (j + 1) := by
  have hs := h.frm.size
  have hD := (World.ownsRow.lt h.done w.heap.size rfl).2
  have hsz : (wr.setCell ⟨w.heap.size, it a j k, none⟩ (.bool true)).heap.size = wr.heap.size := by simp [World.setCell]
  have hfr : Frm wo.heap.size w.heap.size w.heap.size wo ((wr.setCell ⟨w.heap.size, it a j k, none⟩ (.bool true)).alloc o) := (h.frm.set (it a j k) (.bool true)).trans (Frm.of_below ((Below.refl _ _).alloc (Nat.le_refl _) o) (by rw [hsz]; exact hs))
  refine ⟨?_, ?_, hfr.grown hg (by simp; omega) (fun x hx => Or.inl (h.row.lt x hx).1)⟩
  · have h1 : Dn ((wr.setCell ⟨w.heap.size, it a j k, none⟩ (.bool true)).alloc o) w.heap.size a.length _ := (h.done.set (m := it a j k) true).of_block (Below.heap_alloc _ o w.heap.size (by rw [hsz]; exact hD))
    refine (h1.of_block (hg.block w.heap.size (by simp; omega) (fun e => by have := (h.row.lt _ e.symm).1; omega))).congr (fun i _ => ?_)
    rw [orb_snoc]
    by_cases e : i = it a j k
    · subst e; simp
    · rw [if_neg e]
      have e2 : ¬ (i : Int) = ((it a j k : Nat) : Int) := by omega
      simp [e2]
  · rw [orb_snoc, List.map_append]; exact hown

theorem CyI.ll {w wo wr : World} {a : List Int} {v u : Value} {vs : List Value} {k j : Nat} (hR : CyR w wo a v vs k) (h : CyI w wo wr a u k j) : LL wr (w.heap.size + 1) v vs (cycsTo a k) :=
  hR.cyc.of_blocks (fun g hg => h.frm.block g (hR.cyc.row.lt g hg).2 (by have := (hR.cyc.row.lt g hg).1; omega) (by have := (hR.cyc.row.lt g hg).1; omega)) (fun y hy g hg => by
    obtain ⟨Y, hY⟩ := hR.cyc.inner hy
    exact h.frm.block g (hY.lt g hg).2 (by have := (hY.lt g hg).1; omega) (by have := (hY.lt g hg).1; omega))

theorem CyI.below {w wo wr : World} {a : List Int} {v u : Value} {vs : List Value} {k j : Nat} (hR : CyR w wo a v vs k) (h : CyI w wo wr a u k j) : Below w.heap.size w wr :=
  hR.below.trans ⟨h.frm.os, h.frm.tape, h.frm.output, h.frm.size, fun b hb => h.frm.block b (by have := hR.size; omega) (by omega) (by omega)⟩

theorem CyI.leave {w wo wr w' : World} {a : List Int} {v v' u : Value} {vs : List Value} {k : Nat} {o : Obj} (hR : CyR w wo a v vs k) (hn : ¬ (k : Int) ∈ (cycsTo a k).flatten) (h : CyI w wo wr a u k (per a k))
    (hown : w'.ownsRow (w.heap.size + 1) 23 1 v' (vs.length + 1) (vs ++ [u])) (hg : (wr.alloc o).grownBy w' v.ownBlock) : CyR w w' a v' (vs ++ [u]) (k + 1) := by
  have hw := hR.size
  have hL := h.ll hR
  have hD := (World.ownsRow.lt h.done w.heap.size rfl).2
  have hc : cycsTo a (k + 1) = cycsTo a k ++ [orb a k (per a k)] := by rw [cycsTo_succ, if_neg hn]
  refine ⟨?_, ?_, ?_, ?_⟩
  · refine ((h.done.of_block (Below.heap_alloc _ o w.heap.size hD)).of_block (hg.block w.heap.size (by simp; omega) (fun e => by have := (hL.row.lt _ e.symm).1; omega))).congr (fun i _ => ?_)
    rw [hc, List.flatten_append]
    simp
  · rw [hc]
    exact hL.push (by rw [orb_length]; exact owns_base h.row hw) hown hg
  · rw [List.pairwise_append]
    refine ⟨hR.apt, by simp, fun y hy z hz g h1 h2 => ?_⟩
    rw [List.mem_singleton.1 hz] at h2
    obtain ⟨Y, hY⟩ := hR.cyc.inner hy
    have := (hY.lt g h1).2
    have := (h.row.lt g h2).1
    omega
  · have hb : Below w.heap.size w wr := hR.below.trans ⟨h.frm.os, h.frm.tape, h.frm.output, h.frm.size, fun b hb => h.frm.block b (by omega) (by omega) (by omega)⟩
    exact hL.step hb (by omega) hb.size hg

theorem CyR.skip {w wr : World} {a : List Int} {v : Value} {vs : List Value} {k : Nat} (h : CyR w wr a v vs k) (hn : (k : Int) ∈ (cycsTo a k).flatten) : CyR w wr a v vs (k + 1) := by
  have hc : cycsTo a (k + 1) = cycsTo a k := by rw [cycsTo_succ, if_pos hn]
  exact ⟨by rw [hc]; exact h.done, by rw [hc]; exact h.cyc, h.apt, h.below⟩

set_option maxRecDepth 20000 in
set_option maxHeartbeats 4000000 in
theorem cyclesOf_ok (v : Value) (a : List Int) (w : World) (hI : Ints w v a) (hr : isRow a) (h1 : 1 ≤ a.length) (h2 : a.length ≤ 1000) :
    Calls Try.prog 96 #[v] w fun e w' => ∃ u us, e = .returned u ∧ LL w' w.heap.size u us (cycsTo a a.length) ∧ us.Pairwise Apt ∧ Below w.heap.size w w' := by
  obtain ⟨i0, hi, hz0, hz1, hz2⟩ := info_parts Try.info23
  obtain ⟨j0, hji, hjz0, hjz1, hjz2⟩ := info_parts Try.info3
  obtain ⟨b0, hbi, hbz0, hbz1, hbz2⟩ := info_parts Try.info4
  rcases hI with ⟨rfl, _⟩ | ⟨bv, off, cap, rfl, hl0, hcp, hm, hbv, hcell⟩
  · simp at h1
  have HC := hide hcell
  have HR := hide hr
  generalize hal : a.length = al at *
  have HAL := hide hal
  clear hcell hr hal
  go_enter Try.func96, Try.ntmps96
  go_wp2_with (at_make; refine wpList_make_full _ rfl _ _ 155 rfl w.heap.size 4 b0 (.bool false) 1 Try.underlying155 hbi hbz0 hbz1 _ _ _ _ al rfl rfl (by omega) (by omega) ?b2 ?b3 (Nat.le_refl _) ?_)
  case b2 => rw [hbz2]; omega
  case b3 => unfold maxLen; omega
  intro w1 hown1 hgrow1
  rw [made_bools] at hown1
  have hB1 : Below w.heap.size w w1 := (Below.refl _ _).grown hgrow1 (Nat.le_refl _) (fun k h => by cases h)
  have HC0 : Hid (CyR w w1 a (.slice none 0 0) [] 0) := ⟨Dn.congr (f := fun _ => false) (by rw [HAL.out]; exact hown1) (fun i _ => by simp [cycsTo]), LL.nil _ _, by simp, hB1⟩
  clear hown1 hgrow1 hB1
  go_wp2
  go_loopw [4, 13] (fun sv si wr => ∃ (k : Nat) (vs : List Value), k ≤ al ∧ si = .int .i64 k ∧ CyR w wr a sv vs k) (fun _ si _ => al - (intOf si).toNat)
  case atStart => exact ⟨0, [], Nat.zero_le _, rfl, HC0.out⟩
  case round =>
    clear HC0
    obtain ⟨k, vs, hk, rfl, hR⟩ := hrel
    by_cases hlt : k < al
    · obtain ⟨wo, hwo⟩ : ∃ wo, wo = wr := ⟨_, rfl⟩
      subst hwo
      have HRR := hide hR
      have hw1 := hR.size
      by_cases hin : (k : Int) ∈ (cycsTo a k).flatten
      · have hd := (hR.done.cell (i := k) (by rw [HAL.out]; exact hlt)).1
        rw [decide_eq_true hin] at hd
        have HR2 := hide (hR.skip hin)
        clear hR hin
        go_wp2
        go_loopw [6, 7] (fun s6 s7 wr => s6 = .slice none 0 0 ∧ s7 = .int .i64 k ∧ wr = wo) (fun _ _ _ => 0)
        case atStart => exact ⟨rfl, rfl, rfl⟩
        case round =>
          obtain ⟨rfl, rfl, hww⟩ := hrel
          have hww' := hww.symm
          subst hww'
          clear hww
          go_wp2
          go_roundw
          case rel =>
            have hfin : ∃ (k' : Nat) (vs : List Value), k' ≤ al ∧ Value.int .i64 ((k : Int) + 1) = .int .i64 (k' : Int) ∧ CyR w wo a u4 vs k' := ⟨k + 1, _, hlt, by go_num, HR2.out⟩
            first
              | exact hfin
              | ((repeat apply Exists.intro); exact ⟨hfin, rfl⟩)
          case measure => simp [intOf]; omega
      · have hkl : k < a.length := by rw [HAL.out]; exact hlt
        obtain ⟨p1, p2, p3, p4⟩ := per_spec HR.out hkl
        have HIN := hide hR.inner
        have HNI := hide hin
        have HIT : Hid (∀ j, it a j k < al) := fun j => by have := it_lt HR.out hkl j; rw [HAL.out] at this; exact this
        have HNX : Hid (∀ j, j < per a k → ¬ ((it a j k : Nat) : Int) ∈ (cycsTo a k).flatten ∧ ¬ ((it a j k : Nat) : Int) ∈ orb a k j) := fun j hj => by
          refine ⟨it_notin HR.out hkl hin j, fun h => ?_⟩
          obtain ⟨i, hi, e⟩ := mem_orb.1 h
          have := orb_inj HR.out hkl (by omega) hj (show it a i k = it a j k by omega)
          omega
        have HEND : Hid (((it a (per a k) k : Nat) : Int) ∈ orb a k (per a k)) := by
          rw [p3]
          exact mem_orb.2 ⟨0, by omega, rfl⟩
        have HPL : Hid (per a k ≤ al) := by rw [← HAL.out]; exact p2
        have HK0 : Hid (it a 0 k = k) := rfl
        have HSC : Hid (∀ j, ((it a (j + 1) k : Nat) : Int) = a.getD (it a j k) 0) := fun j => by
          have h9 := HR.out.at (show it a j k < a.length from it_lt HR.out hkl j)
          show ((nx a (it a j k) : Nat) : Int) = _
          unfold nx
          omega
        generalize hpp : per a k = pp at *
        have HPP := hide hpp
        clear hR hin p2 p3 p4 hkl hpp
        go_wp2
        go_loopw [6, 7] (fun s6 s7 wr => ∃ (j : Nat), j ≤ pp ∧ Hid (sliceLen s6 = j) ∧ s7 = .int .i64 ((it a j k : Nat) : Int) ∧ CyI w wo wr a s6 k j) (fun s6 _ _ => pp - sliceLen s6)
        case atStart => exact ⟨0, Nat.zero_le _, rfl, rfl, HIN.out⟩
        case round =>
          clear HIN
          obtain ⟨j, hj, hsl, rfl, hC⟩ := hrel
          have hd := hC.done.cell (i := it a j k) (by rw [HAL.out]; exact HIT.out j)
          obtain ⟨up, uc, rfl⟩ := owns_slice hC.row
          by_cases hjp : j < pp
          · have hnn := HNX.out j hjp
            have hd1 := hd.1
            rw [decide_eq_false (fun h => h.elim hnn.1 hnn.2)] at hd1
            have hd2 := hd.2
            have HC2 := hide hC
            have hia := HIT.out j
            have hss := hC.frm.size
            have hpl := HPL.out
            have hcv := (HC.out (it a j k) (by omega))
            have HVV : Hid (a.getD (it a j k) 0 = ((it a (j + 1) k : Nat) : Int)) := (HSC.out j).symm
            have HRO := hide hC.row
            have HCST := hide (fun (u' : Value) (w' : World) (o : Obj) hown hg => hC.step (u' := u') (w' := w') (o := o) hw1 hown hg)
            generalize it a j k = m at *
            generalize hm2 : it a (j + 1) k = m2 at *
            have HM2 := hide hm2
            clear hm2
            generalize orb a k j = oj at *
            clear hC hd hnn
            go_wp2_with (at_builtin; refine wpList_append_own _ rfl _ _ 23 rfl wo.heap.size 3 j0 (.int .i64 0) 1 8 Try.underlying23 hji hjz0 hjz1 hjz2 rfl (by decide) _ j (oj.map (Value.int .i64)) rfl ?c0 ⟨wr.heap.size, 0, none⟩ 1 1 [.int .i64 (m : Int)] rfl rfl ?c1 ?c2 ?c3 ?c4 ?c5 ?_)
            case c0 => exact (ownsRow_setCell_below HRO.out (by exact hw1) _).alloc _
            case c1 =>
              intro j' u hu
              have h9 := cell_one_new (wr.setCell ⟨w.heap.size, m, none⟩ (.bool true)) (.int .i64 (m : Int)) 3 j' u hu
              have e9 : (wr.setCell ⟨w.heap.size, m, none⟩ (.bool true)).heap.size = wr.heap.size := by simp [World.setCell]
              rw [e9] at h9
              exact h9
            case c2 => intro u hu; simp at hu; subst hu; rfl
            case c3 => unfold maxLen; omega
            case c4 => omega
            case c5 => simp [World.setCell]; omega
            intro v4 w4 hown4 hg4 _
            have hC4 := HCST.out v4 w4 _ hown4 hg4
            have hB4 := hC4.below HRR.out
            have hcv4 := (hB4.cell (p := ⟨bv, off + m, none⟩) hbv).trans hcv
            rw [HVV.out] at hcv4
            obtain ⟨p4, c4, e4⟩ := owns_slice hC4.row
            subst e4
            have HC4 := hide hC4
            clear hown4 hg4 hC4 hB4 hcv HCST HRO HC2 hd1 hd2
            go_wp2
            go_roundw
            case rel =>
              have hfin : ∃ (j' : Nat), j' ≤ pp ∧ Hid (sliceLen (.slice p4 (j + 1) c4) = j') ∧ Value.int .i64 (m2 : Int) = .int .i64 ((it a j' k : Nat) : Int) ∧ CyI w wo w4 a (.slice p4 (j + 1) c4) k j' := ⟨j + 1, hjp, rfl, by rw [HM2.out], HC4.out⟩
              first
                | exact hfin
                | ((repeat apply Exists.intro); exact ⟨hfin, rfl⟩)
            case measure => simp [sliceLen]; omega
          · obtain rfl : j = pp := by omega
            have hd1 := hd.1
            rw [decide_eq_true (Or.inr HEND.out)] at hd1
            have hia := HIT.out j
            have hpl := HPL.out
            have hL := hC.ll HRR.out
            have HLR := hide hL.row
            have hvl : vs.length ≤ 1000 := by rw [hL.len]; have := cycsTo_length a k; omega
            have HFI : Hid (∀ (v' : Value) (w' : World) (o : Obj), w'.ownsRow (w.heap.size + 1) 23 1 v' (vs.length + 1) (vs ++ [.slice up j uc]) → (wr.alloc o).grownBy w' u4.ownBlock → CyR w w' a v' (vs ++ [.slice up j uc]) (k + 1)) := fun v' w' o ho hg => by
              have h9 := hC
              rw [← HPP.out] at h9
              have h8 := h9.leave HRR.out HNI.out (v' := v') (w' := w') (o := o)
              rw [HPP.out] at h8
              exact h8 ho hg
            have hss := hC.frm.size
            have hj1 : (0 : Int) < (j : Int) := by omega
            generalize it a j k = m at *
            clear hC hd hL
            go_wp2_with (at_builtin; refine wpList_append_own _ rfl _ _ 22 rfl (w.heap.size + 1) 23 i0 (.slice none 0 0) 1 24 Try.underlying22 hi hz0 hz1 hz2 rfl (by decide) _ vs.length vs rfl (HLR.out.alloc _) ⟨wr.heap.size, 0, none⟩ 1 1 [.slice up j uc] rfl rfl ?c11 ?c12 ?c13 ?c14 ?c15 ?_)
            case c11 => exact cell_one_new _ _ _
            case c12 => intro u hu; simp at hu; subst hu; rfl
            case c13 => unfold maxLen; omega
            case c14 => omega
            case c15 => simp; omega
            intro v5 w5 hown5 hg5 _
            have HR5 := hide (HFI.out v5 w5 _ hown5 hg5)
            clear hown5 hg5 HFI HLR
            go_wp2
            go_roundw
            case rel =>
              have hfin : ∃ (k' : Nat) (vs : List Value), k' ≤ al ∧ Value.int .i64 ((k : Int) + 1) = .int .i64 (k' : Int) ∧ CyR w w5 a v5 vs k' := ⟨k + 1, _, hlt, by go_num, HR5.out⟩
              first
                | exact hfin
                | ((repeat apply Exists.intro); exact ⟨hfin, rfl⟩)
            case measure => simp [intOf]; omega
    · obtain rfl : al = k := by omega
      have HD : Hid (LL wr w.heap.size u4 vs (cycsTo a a.length)) := by rw [HAL.out]; exact hR.cyc.low (by omega)
      have HB := hide hR.below
      have HAP := hide hR.apt
      clear hR
      go_wp2
      go_ret
      exact ⟨_, vs, rfl, by have := HD.out; rw [HAL.out] at this; exact this, HAP.out, HB.out⟩

end Go.Proofs.Ytimfoggjocajiaa

/- Contract: extent.setsOf. -/
namespace Go.Proofs.Ytimfoggjocajiaa
open Go.RowKit

theorem ownAll_of {w : World} {B : Nat} : ∀ {vs : List Value} {A : List (List Int)}, vs.length = A.length → (∀ j, j < vs.length → w.ownsRow B 3 1 (vs.getD j undef) (A.getD j []).length ((A.getD j []).map (Value.int .i64))) → OwnAll w B vs A
  | [], [], _, _ => trivial
  | u :: us, x :: xs, hl, h => ⟨h 0 (by simp), ownAll_of (by simpa using hl) (fun j hj => h (j + 1) (by simpa using hj))⟩
  | [], _ :: _, hl, _ => by simp at hl
  | _ :: _, [], hl, _ => by simp at hl

theorem pairwise_getD {vs : List Value} (h : vs.Pairwise Apt) {i j : Nat} (hi : i < vs.length) (hj : j < vs.length) (hne : i ≠ j) : Apt (vs.getD i undef) (vs.getD j undef) := by
  rw [List.getD, List.getD, List.getElem?_eq_getElem hi, List.getElem?_eq_getElem hj]
  rcases Nat.lt_or_gt_of_ne hne with hlt | hlt
  · exact List.pairwise_iff_getElem.1 h i j hi hj hlt
  · exact (List.pairwise_iff_getElem.1 h j i hj hi hlt).symm

/-- One list of lists is written in its place. -/
theorem LL.sort_at {w w' : World} {B j : Nat} {v : Value} {vs : List Value} {A : List (List Int)} {X : List Int} (h : LL w B v vs A) (hap : vs.Pairwise Apt) (hj : j < A.length) (hown : w'.ownsRow B 3 1 (vs.getD j undef) X.length (X.map (Value.int .i64))) (hg : w.grownBy w' (vs.getD j undef).ownBlock) : LL w' B v vs (A.set j X) := by
  have hl := h.len
  have hat := h.at hj
  refine ⟨owns_of_block h.row (fun g hg' => hg.block g (h.row.lt g hg').2 (fun e => owns_ty hat h.row (by decide) g e.symm hg')), ownAll_of (by rw [List.length_set, hl]) (fun i hi => ?_)⟩
  have hi' : i < A.length := by omega
  by_cases e : i = j
  · subst e
    rw [show (A.set i X).getD i [] = X by rw [List.getD, List.getElem?_set, if_pos rfl, if_pos hi']; rfl]
    exact hown
  · rw [show (A.set j X).getD i [] = A.getD i [] by rw [List.getD, List.getD, List.getElem?_set, if_neg (fun h => e h.symm)]]
    have hai := h.at hi'
    exact owns_of_block hai (fun g hg' => hg.block g (hai.lt g hg').2 (fun e' => pairwise_getD hap (by omega) (by omega) e g hg' e'.symm))

/-- In order. -/
def srt (zs : List Int) : List Int := zs.mergeSort (fun x y => decide (x ≤ y))

theorem srt_length (zs : List Int) : (srt zs).length = zs.length := List.length_mergeSort _

theorem set_srt {A : List (List Int)} {j : Nat} {X : List Int} (h : A[j]? = some X) : ((A.take j).map srt ++ A.drop j).set j (srt X) = (A.take (j + 1)).map srt ++ A.drop (j + 1) := by
  have hj := (List.getElem?_eq_some_iff.1 h).1
  refine List.ext_getElem? (fun i => ?_)
  have hl : ((A.take j).map srt).length = j := by rw [List.length_map, List.length_take]; omega
  have hl2 : ((A.take (j + 1)).map srt).length = j + 1 := by rw [List.length_map, List.length_take]; omega
  rw [List.getElem?_set]
  by_cases e : j = i
  · subst e
    rw [if_pos rfl, if_pos (by rw [List.length_append, hl, List.length_drop]; omega), List.getElem?_append_left (by omega), List.getElem?_map, List.getElem?_take, if_pos (by omega), h]
    rfl
  · rw [if_neg e]
    rcases Nat.lt_or_ge i j with hi | hi
    · rw [List.getElem?_append_left (by omega), List.getElem?_append_left (by omega), List.getElem?_map, List.getElem?_map, List.getElem?_take, List.getElem?_take, if_pos hi, if_pos (by omega)]
    · rw [List.getElem?_append_right (by omega), List.getElem?_append_right (by omega), hl, hl2, List.getElem?_drop, List.getElem?_drop]
      congr 1
      omega

theorem nx_get {X : List Pm} {c : Pm} {n : Nat} {G : Pm → Prop} (hR : Rws n G X) (hc : G c) {i : Nat} (hi : i < X.length) : nx (mv X c) i < X.length := by
  have := nx_lt (mv_row hR.nodup (hR.cls hc)) (x := i) (by rw [mv_length]; exact hi)
  rwa [mv_length] at this

theorem mv_nat {X : List Pm} {c : Pm} {i : Nat} (hi : i < X.length) : (mv X c).getD i 0 = ((nx (mv X c) i : Nat) : Int) := by
  have h9 : X[i]? = some X[i] := List.getElem?_eq_getElem hi
  rw [mv_nx h9, List.getD, mv_get h9]
  rfl

/-- What undoes where a change leads. -/
theorem before_is {n : Nat} {G : Pm → Prop} {X : List Pm} (hR : Rws n G X) {b : Pm} (hb : G b) {zs : List Int} (hl : zs.length = X.length) (h : ∀ j, j < X.length → zs.getD (nx (mv X b) j) 0 = (j : Int)) : zs = mv X b⁻¹ := by
  refine ext_getD (by rw [hl, mv_length]) (fun i hi => ?_)
  rw [hl] at hi
  have h9 : X[i]? = some X[i] := List.getElem?_eq_getElem hi
  have hm : X[i] * b⁻¹ ∈ X := hR.cls (hR.sub.inv hb) _ (List.mem_of_getElem? h9)
  have h8 := h _ (ix_lt hm)
  rw [mv_nx (ix_get hm), Pm.mul_assoc, Pm.inv_mul, Pm.mul_one, ix_of hR.nodup h9] at h8
  rw [h8, List.getD, mv_get h9]
  rfl

theorem other_is {n : Nat} {G : Pm → Prop} {X : List Pm} (hR : Rws n G X) {a c : Pm} (ha : G a) {zs : List Int} (hl : zs.length = X.length) (h : ∀ j, j < X.length → zs.getD j 0 = (mv X c).getD (nx (mv X a) j) 0) : zs = mv X (a * c) := by
  rw [← mv_by (hR.cls ha)]
  refine ext_getD (by rw [hl, by_length, mv_length]) (fun i hi => ?_)
  rw [hl] at hi
  rw [h i hi]
  unfold by_
  rw [List.getD, List.getD, List.getElem?_map, mv_get (List.getElem?_eq_getElem hi), mv_nx (List.getElem?_eq_getElem hi)]
  rfl

/-- Where x and y lead, in memory. -/
structure ToAt (w : World) (v0 v1 : Value) (X : List Pm) (a b : Pm) : Prop where
  x : Ints w v0 (mv X a)
  y : Ints w v1 (mv X b)

def SetsPost (X : List Pm) (c : Pm) (w : World) (e : Ending) (w' : World) : Prop :=
  ∃ u us, e = .returned u ∧ LL w' w.heap.size u us ((cycsTo (mv X c) X.length).map srt) ∧ Below w.heap.size w w'

set_option maxRecDepth 20000 in
set_option maxHeartbeats 8000000 in
theorem setsOf_ok (n : Nat) (G : Pm → Prop) (X : List Pm) (a b : Pm) (v0 v1 : Value) (w : World) (hR : Rws n G X) (ha : G a) (hb : G b) (hT : ToAt w v0 v1 X a b) :
    Calls Try.prog 95 #[.agg #[v0, v1]] w fun e w' => SetsPost X (a * b⁻¹) w e w' := by
  obtain ⟨j0, hji, hjz0, hjz1, hjz2⟩ := info_parts Try.info3
  have hpos := hR.pos
  have hfew := hR.few
  obtain ⟨p0, c0, e0⟩ := hT.x.form
  obtain ⟨p1, c1, e1⟩ := hT.y.form
  rw [mv_length] at e0 e1
  subst e0
  subst e1
  obtain ⟨b0, o0, rfl, k01, k02, k03, k04⟩ := hT.x.open (by rw [mv_length]; exact hpos)
  obtain ⟨b1, o1, rfl, k11, k12, k13, k14⟩ := hT.y.open (by rw [mv_length]; exact hpos)
  rw [mv_length] at k01 k11 k04 k14
  have HX0 : Hid (∀ W, Below w.heap.size w W → ∀ j, j < X.length → W.cell? ⟨b0, o0 + j, none⟩ = some (.int .i64 ((nx (mv X a) j : Nat) : Int))) := fun W hW j hj => by rw [← mv_nat hj]; exact (hW.cell (p := ⟨b0, o0 + j, none⟩) k03).trans (k04 j hj)
  have HX1 : Hid (∀ W, Below w.heap.size w W → ∀ j, j < X.length → W.cell? ⟨b1, o1 + j, none⟩ = some (.int .i64 ((nx (mv X b) j : Nat) : Int))) := fun W hW j hj => by rw [← mv_nat hj]; exact (hW.cell (p := ⟨b1, o1 + j, none⟩) k13).trans (k14 j hj)
  have HNA : Hid (∀ j, j < X.length → nx (mv X a) j < X.length) := fun j hj => nx_get hR ha hj
  have HNB : Hid (∀ j, j < X.length → nx (mv X b) j < X.length) := fun j hj => nx_get hR hb hj
  have HBI : Hid (∀ zs : List Int, zs.length = X.length → (∀ j, j < X.length → zs.getD (nx (mv X b) j) 0 = (j : Int)) → zs = mv X b⁻¹) := fun zs => before_is hR hb
  have HOI : Hid (∀ zs : List Int, zs.length = X.length → (∀ j, j < X.length → zs.getD j 0 = (mv X b⁻¹).getD (nx (mv X a) j) 0) → zs = mv X (a * b⁻¹)) := fun zs => other_is hR ha
  have HINJ : Hid (∀ i j, i < X.length → j < X.length → nx (mv X b) i = nx (mv X b) j → i = j) := fun i j hi hj e => nx_inj (mv_row hR.nodup (hR.cls hb)) (by rw [mv_length]; exact hi) (by rw [mv_length]; exact hj) e
  have hRow := mv_row hR.nodup (hR.cls (hR.sub.mul ha (hR.sub.inv hb)))
  have hML := mv_length X (a * b⁻¹)
  have HCy : Hid (∀ (W : World) (v : Value), Ints W v (mv X (a * b⁻¹)) → Calls Try.prog 96 #[v] W fun e w' => ∃ u us, e = .returned u ∧ LL w' W.heap.size u us (cycsTo (mv X (a * b⁻¹)) X.length) ∧ us.Pairwise Apt ∧ Below W.heap.size W w') := fun W v hv => by
    have h9 := cyclesOf_ok v (mv X (a * b⁻¹)) W hv hRow (by rw [hML]; omega) (by rw [hML]; omega)
    rw [hML] at h9
    exact h9
  have HCL : Hid (∀ x, x ∈ cycsTo (mv X (a * b⁻¹)) X.length → 1 ≤ x.length ∧ x.length ≤ 1000) := fun x hx => by
    have h9 := cycsTo_len hRow X.length (by rw [hML]; exact Nat.le_refl _) x hx
    rw [hML] at h9
    omega
  have HCN : Hid ((cycsTo (mv X (a * b⁻¹)) X.length).length ≤ X.length) := cycsTo_length _ _
  unfold SetsPost
  generalize hA : cycsTo (mv X (a * b⁻¹)) X.length = A at *
  clear hA hRow hML
  generalize hN : X.length = N at *
  have HN := hide hN
  clear hT k04 k14 hR ha hb hN
  go_enter Try.func95, Try.ntmps95
  go_wp2_with (at_make; refine wpList_make_full _ rfl _ _ 23 rfl (w.heap.size + 1) 3 j0 (.int .i64 0) 1 Try.underlying23 hji hjz0 hjz1 _ _ _ _ N rfl rfl (by omega) (by omega) ?b2 ?b3 ?b4 ?_)
  case b2 => rw [hjz2]; omega
  case b3 => unfold maxLen; omega
  case b4 => simp
  intro w2 hown2 hg2
  have hs1 : (w.alloc (.cells #[.slice (some ⟨b0, o0, none⟩) N c0, .slice (some ⟨b1, o1, none⟩) N c1] 129)).heap.size = w.heap.size + 1 := by simp
  have HS1 := hide hs1
  generalize hW1 : w.alloc (.cells #[.slice (some ⟨b0, o0, none⟩) N c0, .slice (some ⟨b1, o1, none⟩) N c1] 129) = W1 at *
  have hbw : Below w.heap.size w W1 := by rw [← hW1]; exact (Below.refl _ _).alloc (Nat.le_refl _) _
  have hlt1 : w.heap.size < w.heap.size + 1 := Nat.lt_succ_self _
  have HBX : Hid (∀ W, Below (w.heap.size + 1) W1 W → W.cell? ⟨w.heap.size, 0, none⟩ = some (.slice (some ⟨b0, o0, none⟩) N c0) ∧ W.cell? ⟨w.heap.size, 1, none⟩ = some (.slice (some ⟨b1, o1, none⟩) N c1)) := fun W hW => by
    have h9 := cells2_new w (.slice (some ⟨b0, o0, none⟩) N c0) (.slice (some ⟨b1, o1, none⟩) N c1) 129
    rw [hW1] at h9
    exact ⟨(hW.cell (p := ⟨w.heap.size, 0, none⟩) hlt1).trans h9.1, (hW.cell (p := ⟨w.heap.size, 1, none⟩) hlt1).trans h9.2⟩
  have HBW := hide hbw
  clear hW1 hbw hs1
  rw [made_ints] at hown2
  have HO2 := hide hown2
  have hB2 : Below (w.heap.size + 1) W1 w2 := (Below.refl _ _).grown hg2 (by rw [HS1.out]; exact Nat.le_refl _) (fun k h => by cases h)
  have hx2 := (HBX.out w2 hB2).2
  clear hown2 hg2
  go_wp2
  go_loopw [19] (fun i wr => ∃ (k : Nat) (zs : List Int), k ≤ N ∧ i = .int .i64 k ∧ Hid (wr.ownsRow (w.heap.size + 1) 3 1 (.slice (some ⟨w.heap.size + 1, 0, none⟩) N N) N (zs.map (Value.int .i64))) ∧ Hid (zs.length = N ∧ ∀ j, j < k → zs.getD (nx (mv X b) j) 0 = (j : Int)) ∧ Below (w.heap.size + 1) W1 wr) (fun i _ => N - (intOf i).toNat)
  case atStart => exact ⟨0, _, by omega, rfl, HO2, ⟨by simp, fun j hj => absurd hj (by omega)⟩, hB2⟩
  case round =>
    clear HO2 hB2
    obtain ⟨k, zs, hk, rfl, hO, hZ, hbk⟩ := hrel
    have hbwk := HBW.out.trans (hbk.mono (Nat.le_succ _))
    by_cases hlt : k < N
    · have gx := HX1.out wr hbwk k hlt
      have hm := HNB.out k hlt
      have hS := hO.out
      obtain ⟨y, hy, hcy, hfy⟩ := owns_cellAt hS hm
      have HSet := hide (fun u => owns_set_int (m := nx (mv X b) k) hS u)
      have HZ : Hid ((zs.set (nx (mv X b) k) (k : Int)).length = N ∧ ∀ j, j < k + 1 → (zs.set (nx (mv X b) k) (k : Int)).getD (nx (mv X b) j) 0 = (j : Int)) := by
        refine ⟨by rw [List.length_set]; exact hZ.out.1, fun j hj => ?_⟩
        rw [getD_set (by have := hZ.out.1; omega)]
        by_cases e : j = k
        · subst e; rw [if_pos rfl]
        · rw [if_neg (fun e' => e (HINJ.out j k (by omega) hlt e'.symm))]
          exact hZ.out.2 j (by omega)
      have hwr1 : w.heap.size + 1 < wr.heap.size := (hS.lt (w.heap.size + 1) rfl).2
      generalize nx (mv X b) k = m at *
      clear hS hy hO hZ hbwk
      go_wp2
      go_roundw
      case rel => exact ⟨k + 1, _, hlt, by go_num, HSet.out _, HZ, hbk.setCell (Nat.le_refl _) _⟩
      case measure => simp [intOf]; omega
    · obtain rfl : N = k := by omega
      have hze := HBI.out zs hZ.out.1 hZ.out.2
      have HOb : Hid (wr.ownsRow (w.heap.size + 1) 3 1 (.slice (some ⟨w.heap.size + 1, 0, none⟩) N N) N ((mv X b⁻¹).map (Value.int .i64))) := by rw [← hze]; exact hO.out
      obtain ⟨wo, hwo⟩ : ∃ wo, wo = wr := ⟨_, rfl⟩
      subst hwo
      have hxo := (HBX.out wo hbk).1
      have hwr1 : w.heap.size + 1 < wo.heap.size := (HOb.out.lt (w.heap.size + 1) rfl).2
      have HBK := hide hbk
      clear hO hZ hze hbwk
      go_wp2_with (at_make; refine wpList_make_full _ rfl _ _ 23 rfl wo.heap.size 3 j0 (.int .i64 0) 1 Try.underlying23 hji hjz0 hjz1 _ _ _ _ N rfl rfl (by omega) (by omega) ?b5 ?b6 (Nat.le_refl _) ?_)
      case b5 => rw [hjz2]; omega
      case b6 => unfold maxLen; omega
      intro w3 hown3 hg3
      rw [made_ints] at hown3
      have HO3 := hide hown3
      have hB3 : Below wo.heap.size wo w3 := (Below.refl _ _).grown hg3 (Nat.le_refl _) (fun k h => by cases h)
      have hx3 := (HBX.out w3 (hbk.trans (hB3.mono (Nat.le_of_lt hwr1)))).1
      clear hown3 hg3 hbk
      go_wp2
      go_loopw [36] (fun i wr => ∃ (k : Nat) (zs : List Int), k ≤ N ∧ i = .int .i64 k ∧ Hid (wr.ownsRow wo.heap.size 3 1 (.slice (some ⟨wo.heap.size, 0, none⟩) N N) N (zs.map (Value.int .i64))) ∧ Hid (zs.length = N ∧ ∀ j, j < k → zs.getD j 0 = (mv X b⁻¹).getD (nx (mv X a) j) 0) ∧ Below wo.heap.size wo wr) (fun i _ => N - (intOf i).toNat)
      case atStart => exact ⟨0, _, by omega, rfl, HO3, ⟨by simp, fun j hj => absurd hj (by omega)⟩, hB3⟩
      case round =>
        clear HO3 hB3
        obtain ⟨k, zs, hk, rfl, hO, hZ, hbk⟩ := hrel
        have hbk1 := HBK.out.trans (hbk.mono (Nat.le_of_lt hwr1))
        have hbwk := HBW.out.trans (hbk1.mono (Nat.le_succ _))
        by_cases hlt : k < N
        · have gx := HX0.out wr hbwk k hlt
          have hm := HNA.out k hlt
          have hS := hO.out
          obtain ⟨y, hy, hcy, hfy⟩ := owns_cellAt hS hlt
          obtain ⟨z, hz, hcz, _⟩ := owns_cellAt (owns_below HOb.out hbk (Nat.le_refl _)) hm
          have HSet := hide (fun u => owns_set_int (m := k) hS u)
          have HZV : Hid ((mv X b⁻¹).getD (nx (mv X a) k) 0 = z) := hz.out
          have HZ : Hid ((zs.set k z).length = N ∧ ∀ j, j < k + 1 → (zs.set k z).getD j 0 = (mv X b⁻¹).getD (nx (mv X a) j) 0) := by
            refine ⟨by rw [List.length_set]; exact hZ.out.1, fun j hj => ?_⟩
            rw [getD_set (by have := hZ.out.1; omega)]
            by_cases e : k = j
            · subst e; rw [if_pos rfl, HZV.out]
            · rw [if_neg e]; exact hZ.out.2 j (by omega)
          generalize nx (mv X a) k = m at *
          clear hS hy hz hO hZ hbwk hbk1
          go_wp2
          go_roundw
          case rel => exact ⟨k + 1, _, hlt, by go_num, HSet.out _, HZ, hbk.setCell (Nat.le_refl _) _⟩
          case measure => simp [intOf]; omega
        · obtain rfl : N = k := by omega
          have hze := HOI.out zs hZ.out.1 hZ.out.2
          have hOo : wr.ownsRow wo.heap.size 3 1 (.slice (some ⟨wo.heap.size, 0, none⟩) N N) N ((mv X (a * b⁻¹)).map (Value.int .i64)) := by rw [← hze]; exact hO.out
          have HCy2 := hide (HCy.out wr _ (Ints.own hOo))
          have HBr := hide hbwk
          clear hO hZ hze hOo hbk hbk1 hbwk
          go_wp2_with fail
          refine HCy2.out.mono ?_
          rintro ex w5 ⟨u5, us5, rfl, hL5, hap5, hb5⟩
          obtain ⟨al, hal⟩ : ∃ al, al = A.length := ⟨_, rfl⟩
          have HAL := hide hal
          obtain ⟨p5, q5, e5⟩ := owns_slice hL5.row
          rw [hL5.len, ← hal] at e5
          subst e5
          have HL5 := hide hL5
          have HAP := hide hap5
          have HB5 := hide (HBr.out.trans (hb5.mono HBr.out.size))
          have HLE : Hid (wr.heap.size ≤ w5.heap.size) := hb5.size
          have hall : al ≤ 1000 := by rw [hal]; have := HCN.out; omega
          clear hL5 hap5 hb5 hal HCy2
          obtain ⟨wr0, hwr0⟩ : ∃ wr0, wr0 = wr := ⟨_, rfl⟩
          subst hwr0
          go_wp2
          go_loopw [53] (fun i wr => ∃ (k : Nat), k ≤ al ∧ i = .int .i64 k ∧ LL wr wr0.heap.size (.slice p5 al q5) us5 ((A.take k).map srt ++ A.drop k) ∧ Below wr0.heap.size w5 wr) (fun i _ => al - (intOf i).toNat)
          case atStart => exact ⟨0, Nat.zero_le _, rfl, by rw [List.take_zero, List.map_nil, List.nil_append, List.drop_zero]; exact HL5.out, Below.refl _ _⟩
          case round =>
            clear HL5
            obtain ⟨k, hk, rfl, hL, hbk⟩ := hrel
            by_cases hlt : k < al
            · obtain ⟨Y, hY⟩ : ∃ Y, A[k]? = some Y := ⟨_, List.getElem?_eq_getElem (by rw [← HAL.out]; exact hlt)⟩
              have hlen : ((A.take k).map srt ++ A.drop k).length = al := by rw [List.length_append, List.length_map, List.length_take, List.length_drop, ← HAL.out]; omega
              have hgY : ((A.take k).map srt ++ A.drop k).getD k [] = Y := by
                have hl9 : ((A.take k).map srt).length = k := by rw [List.length_map, List.length_take, ← HAL.out]; omega
                rw [List.getD, List.getElem?_append_right (by omega), hl9, List.getElem?_drop, Nat.sub_self, Nat.add_zero, hY]
                rfl
              have hrow := hL.at (k := k) (by rw [hlen]; exact hlt)
              rw [hgY] at hrow
              have hYb := HCL.out Y (List.mem_of_getElem? hY)
              have HSo := hide (sortI_in wr0.heap.size _ Y wr hrow hYb.1 hYb.2)
              have hrr := hL.row
              rw [hL.len, hlen] at hrr
              obtain ⟨gg, gq, eg, hga, hgb, hgc, hgd⟩ := owns_form hrr (by omega)
              have hcu := owns_val (by rw [← eg]; exact hrr) hlt
              have HST : Hid (∀ w' : World, w'.ownsRow wr0.heap.size 3 1 (us5.getD k undef) Y.length ((srt Y).map (Value.int .i64)) → wr.grownBy w' (us5.getD k undef).ownBlock → LL w' wr0.heap.size (.slice p5 al q5) us5 ((A.take (k + 1)).map srt ++ A.drop (k + 1)) ∧ Below wr0.heap.size w5 w') := fun w' ho hg => by
                refine ⟨?_, hbk.grown hg (Nat.le_trans HLE.out hbk.size) (fun x hx => (hrow.lt x hx).1)⟩
                have h9 := hL.sort_at HAP.out (j := k) (X := srt Y) (by rw [hlen]; exact hlt) (by rw [srt_length]; exact ho) hg
                rw [set_srt hY] at h9
                exact h9
              obtain ⟨pu, cu, epu⟩ := owns_slice hrow
              generalize us5.getD k undef = uk at *
              subst epu
              injection eg with eg1 eg2 eg3
              subst eg1
              subst eg3
              generalize Y.length = yl at *
              clear hL hrow hrr hY hgY hlen hYb hbk eg2
              go_wp2_with fail
              refine HSo.out.mono ?_
              rintro ex w6 ⟨rfl, hown6, hg6⟩
              have HS6 := hide (HST.out w6 hown6 hg6)
              clear hown6 hg6 HST HSo
              go_wp2
              go_roundw
              case rel =>
                have hfin : ∃ (k' : Nat), k' ≤ al ∧ Value.int .i64 ((k : Int) + 1) = .int .i64 (k' : Int) ∧ LL w6 wr0.heap.size (.slice (some ⟨gg, 0, none⟩) al q5) us5 ((A.take k').map srt ++ A.drop k') ∧ Below wr0.heap.size w5 w6 := ⟨k + 1, hlt, by go_num, HS6.out.1, HS6.out.2⟩
                first
                  | exact hfin
                  | ((repeat apply Exists.intro); exact ⟨hfin, rfl⟩)
              case measure => simp [intOf]; omega
            · obtain rfl : al = k := by omega
              have HD : Hid (LL wr w.heap.size (.slice p5 al q5) us5 (A.map srt)) := by
                have h9 := hL
                rw [HAL.out, List.take_length, List.drop_length, List.append_nil, ← HAL.out] at h9
                exact h9.low HBr.out.size
              have HBF : Hid (Below w.heap.size w wr) := HB5.out.trans (hbk.mono HBr.out.size)
              clear hL hbk
              go_wp2
              go_ret
              exact ⟨_, _, rfl, HD.out, HBF.out⟩

end Go.Proofs.Ytimfoggjocajiaa
