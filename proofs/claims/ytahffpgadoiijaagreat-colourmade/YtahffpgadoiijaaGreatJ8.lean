/- Joined: SizW, RSay, TgA, IAl, XtD, SbT, XtA, XtQ, ChRow, ChMay, PSa, Mat, SbA, AppV, TtM, TtN, Ark, TrA. -/
import Derived.Test.YtahffpgadoiijaaGreatJ7
import Derived.Test.YtahffpgadoiijaaGreatJ5
import Derived.Test.YtahffpgadoiijaaGreatJ6
import Derived.Test.YtahffpgadoiijaaGreatJ4
import Derived.BigQuiet
import Derived.Test.YtahffpgadoiijaaGreatJ0
import Derived.Deep.Matrix
import Derived.OpenShut
import Derived.Shelf.Spec.SlicesGrow
import Derived.Deep.WholeRow
import Derived.Deep.MidRow
import Derived.Test.YtahffpgadoiijaaGreatJ1
/- Contract: Sizes, the answer's own: the walk. -/
namespace Go.Proofs.YtahffpgadoiijaaGreat
open Go.RowKit

set_option maxRecDepth 20000 in
set_option maxHeartbeats 8000000 in
theorem sizes_ok (n : Nat) (v : Value) (xss : List (List Int)) (w : World) (h : IntsAll w v xss) (hr : RowsN n xss) (h1 : 1 ≤ n) (h12 : n ≤ 12) (hx : xss.length ≤ 144) :
    Calls Tryz.prog 8 #[.int .i64 n, v] w fun e w' => e = .returned (.int .i64 ((sz (Gen (fun y => y ∈ xss.map pad)) n : Nat) : Int)) ∧ Below w.heap.size w w' := by
  obtain ⟨i0, hi, hz0, hz1, hz2⟩ := info_parts Tryz.info22
  obtain ⟨j0, hji, hjz0, hjz1, hjz2⟩ := info_parts Tryz.info3
  obtain ⟨G, hG⟩ : ∃ G, G = Gen (fun y => y ∈ xss.map pad) := ⟨_, rfl⟩
  have HG0 := hide hG
  have HA := hide h
  have HR := hide hr
  rw [← hG]
  clear h hr hG
  go_enter Tryz.func8, Tryz.ntmps8
  go_wp2
  go_loopw [1, 5, 6] (fun u1 u5 u6 wr => ∃ (k : Nat) (gss : List (List Int)), k ≤ n ∧ u6 = .int .i64 k ∧ u5 = .int .i64 ((sz G k : Nat) : Int) ∧ Hid (IntsAll wr u1 gss) ∧ Hid (RowsN n gss) ∧ gss.length ≤ 144 ∧ Hid (∀ x, Gen (fun y => y ∈ gss.map pad) x ↔ Low G k x) ∧ Below w.heap.size w wr) (fun _ _ u6 _ => n - (intOf u6).toNat)
  case atStart => exact ⟨0, xss, by omega, rfl, rfl, HA, HR, hx, fun x => by rw [HG0.out]; exact ⟨fun h => ⟨h, fun b hb => by omega⟩, fun h => h.1⟩, Below.refl _ _⟩
  case round =>
    clear HA HR
    obtain ⟨k, gss, hk, rfl, rfl, HA, HR, hgl, HGL, hbw⟩ := hrel
    have hbs := hbw.size
    have hszk := sz_le G k
    have hpow : 12 ^ k ≤ 12 ^ 12 := Nat.pow_le_pow_right (by omega) (by omega)
    have hsz2 : sz G k ≤ 8916100448256 := Nat.le_trans hszk (Nat.le_trans hpow (by decide))
    clear hszk hpow
    by_cases hlt : k < n
    · obtain ⟨p0, cap0, rfl⟩ : ∃ p c, u1 = .slice p gss.length c := by
        obtain ⟨vs, hv, hl, _⟩ := HA.out
        obtain ⟨p, c, e⟩ := hv.form
        exact ⟨p, c, by rw [e, hl]⟩
      obtain ⟨wa, hwa⟩ : ∃ wa : World, wa = wr := ⟨_, rfl⟩
      subst hwa
      go_wp2_with fail
      refine (rrounds_ok n _ (by omega)).mono ?_
      rintro ex w1 ⟨u0, rfl, ho, hb1⟩
      obtain ⟨g0, c0, rfl, hg0a, hg0b, _, _⟩ := owns_form ho h1
      have hsa : (wa.alloc (.cells #[.int .i64 (k : Int)] 3)).heap.size = wa.heap.size + 1 := by simp
      rw [hsa] at ho hb1
      have hs1 : wa.heap.size + 1 ≤ w1.heap.size := by have := hb1.size; rw [hsa] at this; exact this
      have HO := hide ho
      have HB1 := hide hb1
      clear ho hb1 hsa hg0a hg0b
      go_wp2_with (at_make; refine wpList_make_full _ rfl _ _ 22 rfl wa.heap.size 3 j0 (.int .i64 0) 1 Tryz.underlying22 hji hjz0 hjz1 _ _ _ _ n rfl rfl (by omega) (by omega) ?b2 ?b3 ?b4 ?_)
      case b2 => rw [hjz2]; omega
      case b3 => unfold maxLen; omega
      case b4 => simp; omega
      intro w2 hown2 hg2
      rw [made_ints] at hown2
      have hS0 := (SRel.start h12 HO.out HB1.out hown2 hg2).mark k 1
      obtain ⟨y0, hy0, hcy0, hfy0⟩ := owns_cellAt hown2 hlt
      have HS0 := hide hS0
      clear hown2 hg2 hS0 hy0 HO HB1
      go_wp2
      generalize w1.heap.size + 1 = gw at *
      clear hs1 hcy0 hfy0
      go_loopw [7, 8, 11] (fun u7 u8 u11 wr => ∃ (i : Nat) (wh : List Int) (vs : List Value) (T : List (Nat × Pm)), i ≤ T.length ∧ u11 = .int .i64 i ∧ Hid (SRel wa wr n gw u7 u8 wh vs (T.map (·.1)) (T.map (·.2))) ∧ Hid (WhereOk n T wh) ∧ Hid (Orbs (fun y => y ∈ gss.map pad) n k T) ∧ Hid (OrbTo gss T i 0)) (fun _ _ u11 _ => n - (intOf u11).toNat)
      case atStart => exact ⟨0, _, _, [(k, 1)], by omega, rfl, HS0, WhereOk.start hlt, Orbs.start hlt, OrbTo.start _ _⟩
      case round =>
        clear HS0
        obtain ⟨i, wh, vs, T, hiT, rfl, HS, HW, HO, HOT⟩ := hrel
        have hTl := HO.out.len
        have hT1 : 1 ≤ T.length := List.length_pos_of_mem HO.out.first
        have hsp := HS.out.spots
        rw [List.length_map] at hsp
        obtain ⟨gs, cs, rfl, hgsa, hgsb, hcsa, hcsb⟩ := owns_form hsp hT1
        by_cases hit : i < T.length
        · clear hsp
          go_wp2
          go_loopw [7, 8, 12] (fun u7 u8 u12 wr => ∃ (j : Nat) (wh : List Int) (vs : List Value) (T : List (Nat × Pm)), j ≤ gss.length ∧ u12 = .int .i64 j ∧ i < T.length ∧ Hid (SRel wa wr n gw u7 u8 wh vs (T.map (·.1)) (T.map (·.2))) ∧ Hid (WhereOk n T wh) ∧ Hid (Orbs (fun y => y ∈ gss.map pad) n k T) ∧ Hid (OrbTo gss T i j)) (fun _ _ u12 _ => gss.length - (intOf u12).toNat)
          case atStart => exact ⟨0, _, _, T, by omega, rfl, hit, HS, HW, HO, HOT⟩
          case round =>
            clear HS HW HO HOT hTl hT1 hgsa hgsb hcsa hcsb hit hiT
            obtain ⟨j, wh, vs, T, hj, rfl, hit, HS, HW, HO, HOT⟩ := hrel
            have hTl := HO.out.len
            have hsp := HS.out.spots
            rw [List.length_map] at hsp
            obtain ⟨gs, cs, rfl, hgsa, hgsb, hcsa, hcsb⟩ := owns_form hsp (by omega)
            have hrw := HS.out.rows
            rw [List.length_map] at hrw
            obtain ⟨gr, cr, rfl, hgra, hgrb, hcra, hcrb⟩ := owns_form hrw (by omega)
            have hba := HS.out.below
            have hbas := hba.size
            by_cases hjl : j < gss.length
            · obtain ⟨X, hX⟩ : ∃ X, gss[j]? = some X := ⟨_, List.getElem?_eq_getElem hjl⟩
              obtain ⟨e, he⟩ : ∃ e, T[i]? = some e := ⟨_, List.getElem?_eq_getElem hit⟩
              have hXm := List.mem_of_getElem? hX
              have hem := List.mem_of_getElem? he
              have hXr := HR.out X hXm
              have hel := HO.out.lt e hem
              obtain ⟨b0, o0, hpp, hb0a, hNc, _, _⟩ := HA.out.nth hX hXr.2 h1
              subst hpp
              obtain ⟨b0', o0', hpp', hb0, _, _, bx, ox, cx, hcx, hix, hbx, hncx, hXc⟩ := (HA.out.below hba).nth hX hXr.2 h1
              injection hpp' with hpp'
              injection hpp' with hp1 hp2
              subst hp1; subst hp2
              have hqd := pad_getD hXr.1 hXr.2 h12 hel
              have hqa := hXr.1.at (j := e.1) (by rw [hXr.2]; exact hel)
              rw [hqd, hXr.2] at hqa
              have hXe := hXc.out e.1 hel
              rw [hqd] at hXe
              obtain ⟨q, hqe⟩ : ∃ q, (pad X).act e.1 = q := ⟨_, rfl⟩
              rw [hqe] at hXe hqa
              have hqn : q < n := by omega
              have hce := nums_at hsp (i := i) (b := e.1) (by rw [List.getElem?_map, he]; rfl)
              have hER : ((T.map (·.2)).map (cut n))[i]? = some (cut n e.2) := by rw [List.getElem?_map, List.getElem?_map, he]; rfl
              obtain ⟨ue, hcr, hoe⟩ := word_at hrw HS.out.rowsAt hER (by rw [List.length_map, List.length_map])
              rw [cut_length h12] at hoe
              obtain ⟨ge, ce, rfl, hgea, hgeb, hcea, hceb⟩ := owns_form hoe h1
              obtain ⟨y, hy, hcy, hfy⟩ := owns_cellAt HS.out.wher hqn
              have hnx : Fixes (fun b => n ≤ b) (pad X) := pad_fixes h12 hXr.2 hXr.1
              have hef : Fixes (fun b => n ≤ b) e.2 := (HO.out.gen e hem).least (fixes_sub _) (fun s hs => by
                obtain ⟨Z, hZ, rfl⟩ := List.mem_map.1 hs
                exact pad_fixes h12 (HR.out Z hZ).2 (HR.out Z hZ).1)
              have HOE := hide hoe
              have HX := hide hX
              have HE := hide he
              have HEM := hide hem
              have HXM := hide hXm
              have HXR := hide hXr
              have HQ := hide hqe
              have HXF := hide hnx
              have HEF := hide hef
              clear hX he hXm hem hXr hqe hqd hqa hsp hrw hoe hER hXc hnx hef
              go_wp2
              go_quiet (fail)
              have hbd := below_dW wr nq
              have hS2 := HS.out.later hbd
              have HS2 := hide hS2
              have HIX := hide (hix.out.below hbd)
              have HOE2 := hide (owns_below HOE.out hbd (Nat.le_refl _))
              have hcy2 : (wr.drewN nq).cell? ⟨gw, q, none⟩ = some (.int .i64 y) := hcy
              have hfy2 : (wr.drewN nq).frozen? ⟨gw, q, none⟩ = false := hfy
              have hcx2 : (wr.drewN nq).cell? ⟨b0, o0 + j, none⟩ = some (.slice (some ⟨bx, ox, none⟩) n cx) := hcx
              have hcr2 : (wr.drewN nq).cell? ⟨gr, i, none⟩ = some (.slice (some ⟨ge, 0, none⟩) n ce) := hcr
              have HSZD : Hid ((wr.drewN nq).heap.size = wr.heap.size) := rfl
              clear hcy hfy hcx hcr hce hXe HS hix hbd hS2 HOE hba
              generalize wr.drewN nq = wd at *
              by_cases hin : q ∈ T.map (·.1)
              · have hyn : (y == 0) = false := by
                  rcases HW.out.2 q hqn with ⟨_, h2⟩ | ⟨i', e', _, _, h3⟩
                  · exact absurd hin h2
                  · rw [show wh.getD q 0 = y from hy.out] at h3
                    rw [h3, beq_eq_false_iff_ne]; omega
                have HOT2 := hide (HOT.out.old HE.out HX.out (by rw [HQ.out]; exact hin))
                clear hin hy
                go_wp2
                go_roundw
                case rel => exact ⟨j + 1, _, _, T, by omega, by go_num, hit, HS2, HW, HO, HOT2⟩
                case measure => simp [intOf]; omega
              · have hy0 : y = 0 := by
                  rcases HW.out.2 q hqn with ⟨h2, _⟩ | ⟨i', e', h3, h4, _⟩
                  · rw [show wh.getD q 0 = y from hy.out] at h2; exact h2
                  · exact absurd (List.mem_map.2 ⟨e', List.mem_of_getElem? h3, h4⟩) hin
                subst hy0
                have HIN := hide hin
                have HSM := hide (HS2.out.mark q ((T.length : Int) + 1))
                have HWM := hide (HW.out.more hqn (pad X * e.2))
                have hspm := (HSM.out.alloc (.cells #[.int .i64 (q : Int)] 3)).spots
                rw [List.length_map] at hspm
                have HSP := hide hspm
                have hbm := HSM.out.below.size
                clear hspm hin hy HIX HOE2 hcx2 hcr2
                go_wp2_with (at_builtin; refine wpList_append_keep _ rfl _ _ 22 rfl wa.heap.size 3 j0 (.int .i64 0) 1 8 Tryz.underlying22 hji hjz0 hjz1 hjz2 rfl (by decide) _ T.length _ rfl HSP.out _ 1 1 [.int .i64 (q : Int)] rfl rfl ?c1 ?c2 ?c3 ?c4 ?c5 ?_)
                case c1 =>
                  have hc := cell_one_new (wd.setCell ⟨gw, q, none⟩ (.int .i64 ((T.length : Int) + 1))) (.int .i64 (q : Int)) 3
                  have ez : (wd.setCell ⟨gw, q, none⟩ (.int .i64 ((T.length : Int) + 1))).heap.size = wd.heap.size := by simp
                  rw [ez] at hc
                  exact hc
                case c2 => intro u hu; simp at hu; subst hu; rfl
                case c3 => unfold maxLen; omega
                case c4 => omega
                case c5 => simp; have := HSZD.out; omega
                intro v5 w5 hown5 hg5 hp5
                have hS5 := (HSM.out.alloc (.cells #[.int .i64 (q : Int)] 3)).spot (q := q) (by rw [List.length_map]; exact hown5) hg5 (hp5.imp id (fun h => ⟨by rw [h.1]; simp, h.2⟩))
                have hba5 := hS5.below
                have hs5 := hba5.size
                obtain ⟨b0', o0', hpp', hb0', _, _, bx2, ox2, cx2, hcx5, hix5, hbx2, _, _⟩ := (HA.out.below hba5).nth HX.out HXR.out.2 h1
                injection hpp' with hpp'
                injection hpp' with hp1 hp2
                subst hp1; subst hp2
                have hrw5 := hS5.rows
                rw [List.length_map] at hrw5
                have hgr5 := (hrw5.lt gr rfl).2
                obtain ⟨ue2, hcr5, hoe5⟩ := word_at hrw5 hS5.rowsAt (i := i) (X := cut n e.2) (by rw [List.getElem?_map, List.getElem?_map, HE.out]; rfl) (by rw [List.length_map, List.length_map])
                rw [cut_length h12] at hoe5
                obtain ⟨ge2, ce2, rfl, _, hge5, _, _⟩ := owns_form hoe5 h1
                have hgw5 := (hS5.wher.lt gw rfl).2
                have hcl := cut_length h12 e.2
                have hbyE : by_ X (cut n e.2) = cut n (pad X * e.2) := by
                  have := by_cut h12 HXF.out (cut_row h12 HEF.out) hcl
                  rw [cut_pad h12 HXR.out.2 HXR.out.1, pad_cut h12 HEF.out] at this
                  exact this
                have HBY := hide (rby_own (.slice (some ⟨bx2, ox2, none⟩) n cx2) (.slice (some ⟨ge2, 0, none⟩) n ce2) X (cut n e.2) w5.drew (hix5.out.below (below_drew w5)) ((Ints.own hoe5).below (below_drew w5)) (fun j hj => by have := (cut_row h12 HEF.out).at (j := j) hj; rw [hcl] at this; rw [HXR.out.2]; exact this) (by rw [HXR.out.2]; exact h1) (by rw [hcl]; omega))
                rw [hbyE, hcl] at HBY
                have HS5 := hide hS5
                have hV5 : v5.ownBlock ≠ none := by
                  obtain ⟨b, hb⟩ := ownsRow_block hown5 (by omega)
                  rw [hb]; simp
                have hv5l : ∀ b, v5.ownBlock = some b → b < w5.heap.size := fun b hb => (hown5.lt b hb).2
                have HV5 := hide hv5l
                clear hown5 hg5 hp5 hS5 hba5 hrw5 hoe5 hix5 hbyE HSP HSM hV5 hv5l
                go_wp2
                refine wp_region_held_drew (S := fun W' => W'.cell? ⟨b0, o0 + j, none⟩ = some (.slice (some ⟨bx2, ox2, none⟩) n cx2) ∧ W'.cell? ⟨gr, i, none⟩ = some (.slice (some ⟨ge2, 0, none⟩) n ce2)) (by kernel_rfl) ⟨hcx5, hcr5⟩ (fun hS => ?_)
                refine wpAnyH_take (i := 0) (v := .slice (some ⟨gr, 0, none⟩) T.length cr) rfl (by kernel_rfl) (by kernel_rfl) (by kernel_rfl) (fun _ _ _ h => h) (Or.inl ⟨by rfl, fun w' hS' => by clear hS'; go_simp⟩) hS ?_
                refine wpAnyH_take (i := 1) (v := .slice (some ⟨b0, o0, none⟩) gss.length cap0) rfl (by kernel_rfl) (by kernel_rfl) (by kernel_rfl) (fun _ _ _ h => h) (Or.inl ⟨by rfl, fun w' hS' => by clear hS'; go_simp⟩) hS ?_
                refine wpAnyH_take (i := 2) (v := .int .i64 (j : Int)) rfl (by kernel_rfl) (by kernel_rfl) (by kernel_rfl) (fun _ _ _ h => h) (Or.inl ⟨by rfl, fun w' hS' => by clear hS'; go_simp⟩) hS ?_
                refine wpAnyH_take (i := 3) (v := .pointer (some ⟨b0, o0 + j, none⟩)) rfl (by kernel_rfl) (by kernel_rfl) (by kernel_rfl) (fun _ _ _ h => h) (Or.inl ⟨by rfl, fun w' hS' => by clear hS'; go_simp⟩) hS ?_
                refine wpAnyH_take (i := 4) (v := .slice (some ⟨bx2, ox2, none⟩) n cx2) rfl (by kernel_rfl) (by kernel_rfl) (by kernel_rfl) (fun _ _ _ h => h) (Or.inl ⟨by rfl, fun w' hS' => by have hq := hS'.1; go_simp⟩) hS ?_
                refine wpAnyH_take (i := 5) (v := .slice (some ⟨gr, 0, none⟩) T.length cr) rfl (by kernel_rfl) (by kernel_rfl) (by kernel_rfl) (fun _ _ _ h => h) (Or.inl ⟨by rfl, fun w' hS' => by clear hS'; go_simp⟩) hS ?_
                refine wpAnyH_take (i := 6) (v := .int .i64 (i : Int)) rfl (by kernel_rfl) (by kernel_rfl) (by kernel_rfl) (fun _ _ _ h => h) (Or.inl ⟨by rfl, fun w' hS' => by clear hS'; go_simp⟩) hS ?_
                refine wpAnyH_take (i := 7) (v := .pointer (some ⟨gr, i, none⟩)) rfl (by kernel_rfl) (by kernel_rfl) (by kernel_rfl) (fun _ _ _ h => h) (Or.inl ⟨by rfl, fun w' hS' => by clear hS'; go_simp⟩) hS ?_
                refine wpAnyH_take (i := 8) (v := .slice (some ⟨ge2, 0, none⟩) n ce2) rfl (by kernel_rfl) (by kernel_rfl) (by kernel_rfl) (fun _ _ _ h => h) (Or.inl ⟨by rfl, fun w' hS' => by have hq := hS'.2; go_simp⟩) hS ?_
                refine wpAnyH_ready (rs := [9]) (by kernel_rfl) (by simp) ?_
                refine AllReadyH.cons rfl (fun K hK => ?_) AllReadyH.nil
                go_simp
                refine HBY.out.mono ?_
                rintro ex w6 ⟨v6, rfl, ho6, hb6⟩
                replace hb6 := undrew hb6
                have ho6' : w6.ownsRow w5.heap.size 3 1 v6 n ((cut n (pad X * e.2)).map (Value.int .i64)) := ho6
                obtain ⟨g6, c6, rfl, hg6a, hg6b, _, _⟩ := owns_form ho6' h1
                have hs6 := hb6.size
                have HS6 := hide (HS5.out.later hb6)
                have hcx6 := (hb6.cell (p := ⟨b0, o0 + j, none⟩) (by exact hb0')).trans hcx5
                have hcr6 := (hb6.cell (p := ⟨gr, i, none⟩) (by exact hgr5)).trans hcr5
                have hgr6 : gr < w6.heap.size := by omega
                have hb06 : b0 < w6.heap.size := by omega
                refine hK.out _ _ ⟨hcx6, hcr6⟩ (fun hS => ?_)
                clear hK HBY ho6
                refine wpAnyH_ready (rs := [10]) (by kernel_rfl) (by simp) ?_
                refine AllReadyH.cons rfl (fun K hK => ?_) AllReadyH.nil
                go_simp
                refine hK.out _ _ ⟨(World.cell?_of_block (w := w6) (a := ⟨b0, o0 + j, none⟩) (Below.heap_alloc w6 _ b0 hb06)).trans hcx6, (World.cell?_of_block (w := w6) (a := ⟨gr, i, none⟩) (Below.heap_alloc w6 _ gr hgr6)).trans hcr6⟩ (fun hS => ?_)
                clear hK
                have hr6 := (HS6.out.alloc (.cells #[.slice (some ⟨g6, 0, none⟩) n c6] 22)).rows
                rw [List.length_map] at hr6
                have hu6 : w6.ownsRow wa.heap.size 3 1 (.slice (some ⟨g6, 0, none⟩) n c6) (cut n (pad X * e.2)).length ((cut n (pad X * e.2)).map (Value.int .i64)) := by rw [cut_length h12]; exact owns_base ho6' hs5
                refine wpAnyH_ready (rs := [11]) (by kernel_rfl) (by simp) ?_
                refine AllReadyH.cons rfl (fun K hK => ?_) AllReadyH.nil
                refine step_append_keep rfl _ _ 25 rfl wa.heap.size 22 i0 (.slice none 0 0) 1 24 Tryz.underlying25 hi hz0 hz1 hz2 rfl (by decide) _ T.length vs rfl hr6 ⟨w6.heap.size, 0, none⟩ 1 1 [.slice (some ⟨g6, 0, none⟩) n c6] rfl rfl (cell_one_new _ _ _) (fun u hu => by simp at hu; subst hu; rfl) (by unfold maxLen; omega) (by omega) (by simp; omega) ?_
                intro v8 w8 hown8 hg8 hp8
                have hS8 := (HS6.out.alloc (.cells #[.slice (some ⟨g6, 0, none⟩) n c6] 22)).row (x := pad X * e.2) (by rw [List.length_map]; exact hown8) hg8 (hu6.alloc _) (fun e' => by have e'' : g6 = gw := Option.some.inj e'; omega) (fun e' => by have := HV5.out g6 e'.symm; omega)
                have hgb : gr < (w6.alloc (.cells #[.slice (some ⟨g6, 0, none⟩) n c6] 22)).heap.size := by simp; omega
                have hbb : b0 < (w6.alloc (.cells #[.slice (some ⟨g6, 0, none⟩) n c6] 22)).heap.size := by simp; omega
                have hn0 : (some b0 : Option Nat) ≠ (Value.slice (some ⟨gr, 0, none⟩) T.length cr).ownBlock := fun e' => by have e'' : b0 = gr := Option.some.inj e'; omega
                have HS8 : Hid (SRel wa w8 n gw v5 v8 (wh.set q ((T.length : Int) + 1)) (vs ++ [.slice (some ⟨g6, 0, none⟩) n c6]) ((T ++ [(q, pad X * e.2)]).map (·.1)) ((T ++ [(q, pad X * e.2)]).map (·.2))) := by
                  unfold Hid
                  rw [List.map_append, List.map_append]
                  exact hS8
                have HO8 : Hid (Orbs (fun y => y ∈ gss.map pad) n k (T ++ [(q, pad X * e.2)])) := by
                  unfold Hid
                  rw [← HQ.out]
                  exact HO.out.more (List.mem_map.2 ⟨X, HXM.out, rfl⟩) HEM.out (by rw [HQ.out]; exact hqn) (by rw [HQ.out]; exact HIN.out)
                have HOT8 : Hid (OrbTo gss (T ++ [(q, pad X * e.2)]) i (j + 1)) := by
                  refine (HOT.out.grow hit _).old (by rw [List.getElem?_append_left hit]; exact HE.out) HX.out ?_
                  rw [HQ.out, List.map_append]
                  exact List.mem_append_right _ (by simp)
                have hit8 : i < (T ++ [(q, pad X * e.2)]).length := by rw [List.length_append]; omega
                obtain ⟨gv8, cv8, rfl, _, _, _, _⟩ := owns_form hown8 (by omega)
                refine hK.out _ _ ⟨?_, ?_⟩ (fun hS => ?_)
                · exact (World.cell?_of_block (w := w6.alloc (.cells #[.slice (some ⟨g6, 0, none⟩) n c6] 22)) (a := ⟨b0, o0 + j, none⟩) (hg8.block b0 hbb hn0)).trans hS.1
                · rcases hp8 with hp | ⟨_, hg⟩
                  · exact (owns_prefix hr6 hown8 (b := gr) (x := i) rfl hp (by have := hr6.1; omega)).trans hS.2
                  · exact (World.cell?_of_block (w := w6.alloc (.cells #[.slice (some ⟨g6, 0, none⟩) n c6] 22)) (a := ⟨gr, i, none⟩) (hg.block gr hgb (by simp))).trans hS.2
                clear hK hS8 hown8 hg8 hp8 hr6 hu6 ho6' HS6
                refine wpAnyH_take (i := 12) (v := .slice (some ⟨gv8, 0, none⟩) (T.length + 1) cv8) rfl (by kernel_rfl) (by kernel_rfl) (by kernel_rfl) (fun _ _ _ h => h) (Or.inl ⟨by rfl, fun w' _ => by go_simp⟩) hS ?_
                refine wpAnyH_done (by kernel_rfl) ?_ _
                go_wp2
                go_roundw
                case rel => exact ⟨j + 1, _, _, T ++ [(q, pad X * e.2)], by omega, by go_num, hit8, HS8, HWM, HO8, HOT8⟩
                case measure => simp [intOf]; omega
            · have hje : j = gss.length := by omega
              have HOT2 : Hid (OrbTo gss T (i + 1) 0) := by have := HOT.out; rw [hje] at this; exact this.next
              clear hsp hrw hje
              go_wp2
              go_roundw
              case rel => exact ⟨i + 1, _, _, T, by omega, by go_num, HS, HW, HO, HOT2⟩
              case measure => simp [intOf]; omega
        · have hie : i = T.length := by omega
          have hOTD : OrbTo gss T T.length 0 := by have := HOT.out; rw [hie] at this; exact this
          have HD := hide hOTD.done
          have hrw := HS.out.rows
          rw [List.length_map] at hrw
          obtain ⟨gr, cr, rfl, hgra, hgrb, hcra, hcrb⟩ := owns_form hrw hT1
          clear hie hOTD HOT hsp hrw
          go_wp2
          go_loopw [10, 14] (fun u10 u14 wr => ∃ (i : Nat) (us : List Value) (yss : List (List Int)), i ≤ T.length ∧ u14 = .int .i64 i ∧ Hid (SRel wa wr n gw (.slice (some ⟨gs, 0, none⟩) T.length cs) (.slice (some ⟨gr, 0, none⟩) T.length cr) wh vs (T.map (·.1)) (T.map (·.2))) ∧ Hid (wr.ownsRow wa.heap.size 22 1 u10 us.length us) ∧ Hid (u10.ownBlock ≠ some gr) ∧ Hid (OwnAll wr wa.heap.size us yss) ∧ Hid (StillTo n gss T i 0 yss)) (fun _ u14 _ => T.length - (intOf u14).toNat)
          case atStart => exact ⟨0, [], [], by omega, rfl, HS, World.ownsRow_nil _ _ _ _, (fun e => by cases e), trivial, StillTo.start _ _ _⟩
          case round =>
            clear HS
            obtain ⟨i2, us, yss, hi2, rfl, HS, HU, HUN, HUA, HST⟩ := hrel
            by_cases hit2 : i2 < T.length
            · go_wp2
              go_loopw [10, 15] (fun u10 u15 wr => ∃ (j : Nat) (us : List Value) (yss : List (List Int)), j ≤ gss.length ∧ u15 = .int .i64 j ∧ Hid (SRel wa wr n gw (.slice (some ⟨gs, 0, none⟩) T.length cs) (.slice (some ⟨gr, 0, none⟩) T.length cr) wh vs (T.map (·.1)) (T.map (·.2))) ∧ Hid (wr.ownsRow wa.heap.size 22 1 u10 us.length us) ∧ Hid (u10.ownBlock ≠ some gr) ∧ Hid (OwnAll wr wa.heap.size us yss) ∧ Hid (StillTo n gss T i2 j yss)) (fun _ u15 _ => gss.length - (intOf u15).toNat)
              case atStart => exact ⟨0, us, yss, by omega, rfl, HS, HU, HUN, HUA, HST⟩
              case round =>
                clear HS HU HUN HUA HST
                obtain ⟨j, us, yss, hj, rfl, HS, HU, HUN, HUA, HST⟩ := hrel
                have hba := HS.out.below
                have hbas := hba.size
                by_cases hjl : j < gss.length
                · obtain ⟨X, hX⟩ : ∃ X, gss[j]? = some X := ⟨_, List.getElem?_eq_getElem hjl⟩
                  obtain ⟨e, he⟩ : ∃ e, T[i2]? = some e := ⟨_, List.getElem?_eq_getElem hit2⟩
                  have hXm := List.mem_of_getElem? hX
                  have hem := List.mem_of_getElem? he
                  have hXr := HR.out X hXm
                  have hel := HO.out.lt e hem
                  obtain ⟨b0, o0, hpp, hb0a, hNc, _, _⟩ := HA.out.nth hX hXr.2 h1
                  subst hpp
                  obtain ⟨b0', o0', hpp', hb0, _, _, bx, ox, cx, hcx, hix, hbx, hncx, hXc⟩ := (HA.out.below hba).nth hX hXr.2 h1
                  injection hpp' with hpp'
                  injection hpp' with hp1 hp2
                  subst hp1; subst hp2
                  have hrw := HS.out.rows
                  rw [List.length_map] at hrw
                  have hgr := (hrw.lt gr rfl).2
                  obtain ⟨ue, hcr, hoe⟩ := word_at hrw HS.out.rowsAt (i := i2) (X := cut n e.2) (by rw [List.getElem?_map, List.getElem?_map, he]; rfl) (by rw [List.length_map, List.length_map])
                  rw [cut_length h12] at hoe
                  obtain ⟨ge, ce, rfl, hgea, hgeb, hcea, hceb⟩ := owns_form hoe h1
                  have hnx : Fixes (fun b => n ≤ b) (pad X) := pad_fixes h12 hXr.2 hXr.1
                  have hfxT : ∀ e, e ∈ T → Fixes (fun b => n ≤ b) e.2 := fun e hem => (HO.out.gen e hem).least (fixes_sub _) (fun s hs => by
                    obtain ⟨Z, hZ, rfl⟩ := List.mem_map.1 hs
                    exact pad_fixes h12 (HR.out Z hZ).2 (HR.out Z hZ).1)
                  have hef := hfxT e hem
                  have hcl := cut_length h12 e.2
                  have hbyE : by_ X (cut n e.2) = cut n (pad X * e.2) := by
                    have := by_cut h12 hnx (cut_row h12 hef) hcl
                    rw [cut_pad h12 hXr.2 hXr.1, pad_cut h12 hef] at this
                    exact this
                  have HBY := hide (rby_own (.slice (some ⟨bx, ox, none⟩) n cx) (.slice (some ⟨ge, 0, none⟩) n ce) X (cut n e.2) wr.drew (hix.out.below (below_drew wr)) ((Ints.own hoe).below (below_drew wr)) (fun j hj => by have := (cut_row h12 hef).at (j := j) hj; rw [hcl] at this; rw [hXr.2]; exact this) (by rw [hXr.2]; exact h1) (by rw [hcl]; omega))
                  rw [hbyE, hcl] at HBY
                  obtain ⟨q, hqe⟩ : ∃ q, (pad X).act e.1 = q := ⟨_, rfl⟩
                  have hxq : (pad X * e.2).act k = q := by rw [Pm.act_mul, HO.out.brings e hem, hqe]
                  have hxF : Fixes (fun b => n ≤ b) (pad X * e.2) := (fixes_sub _).mul hnx hef
                  have hqn : q < n := by rw [← hxq]; exact fix_lt hxF hlt
                  have hqin : q ∈ T.map (·.1) := by rw [← hqe]; exact HD.out (pad X) (List.mem_map.2 ⟨X, hXm, rfl⟩) e hem
                  obtain ⟨i3, e3, h3a, h3b, h3c⟩ : ∃ i e, T[i]? = some e ∧ e.1 = q ∧ wh.getD q 0 = ((i + 1 : Nat) : Int) := by
                    rcases HW.out.2 q hqn with ⟨_, h2⟩ | h2
                    · exact absurd hqin h2
                    · exact h2
                  have hi3 : i3 < T.length := (List.getElem?_eq_some_iff.1 h3a).1
                  have hem3 := List.mem_of_getElem? h3a
                  have hef3 := hfxT e3 hem3
                  have HX := hide hX
                  have HE := hide he
                  have HE3 := hide h3a
                  have HM3 := hide hem3
                  have H3B : Hid (e3.1 = (pad X).act e.1) := by show _ = _; rw [h3b, hqe]
                  have H3C : Hid (wh.getD q 0 = (i3 : Int) + 1) := by show _ = _; rw [h3c]; omega
                  have HF3 := hide hef3
                  have HXQ := hide hxq
                  have HXF := hide hxF
                  clear hX he hXm hem hXr hrw hoe hXc hix hnx hfxT hef hbyE hqe hxq hxF hqin h3a h3b h3c hem3 hef3 hba
                  go_wp2
                  refine wp_region_held_drew (S := fun W' => W'.cell? ⟨b0, o0 + j, none⟩ = some (.slice (some ⟨bx, ox, none⟩) n cx) ∧ W'.cell? ⟨gr, i2, none⟩ = some (.slice (some ⟨ge, 0, none⟩) n ce)) (by kernel_rfl) ⟨hcx, hcr⟩ (fun hS => ?_)
                  refine wpAnyH_take (i := 0) (v := .slice (some ⟨b0, o0, none⟩) gss.length cap0) rfl (by kernel_rfl) (by kernel_rfl) (by kernel_rfl) (fun _ _ _ h => h) (Or.inl ⟨by rfl, fun w' hS' => by clear hS'; go_simp⟩) hS ?_
                  refine wpAnyH_take (i := 1) (v := .int .i64 (j : Int)) rfl (by kernel_rfl) (by kernel_rfl) (by kernel_rfl) (fun _ _ _ h => h) (Or.inl ⟨by rfl, fun w' hS' => by clear hS'; go_simp⟩) hS ?_
                  refine wpAnyH_take (i := 2) (v := .pointer (some ⟨b0, o0 + j, none⟩)) rfl (by kernel_rfl) (by kernel_rfl) (by kernel_rfl) (fun _ _ _ h => h) (Or.inl ⟨by rfl, fun w' hS' => by clear hS'; go_simp⟩) hS ?_
                  refine wpAnyH_take (i := 3) (v := .slice (some ⟨bx, ox, none⟩) n cx) rfl (by kernel_rfl) (by kernel_rfl) (by kernel_rfl) (fun _ _ _ h => h) (Or.inl ⟨by rfl, fun w' hS' => by have hq := hS'.1; go_simp⟩) hS ?_
                  refine wpAnyH_take (i := 4) (v := .slice (some ⟨gr, 0, none⟩) T.length cr) rfl (by kernel_rfl) (by kernel_rfl) (by kernel_rfl) (fun _ _ _ h => h) (Or.inl ⟨by rfl, fun w' hS' => by clear hS'; go_simp⟩) hS ?_
                  refine wpAnyH_take (i := 5) (v := .int .i64 (i2 : Int)) rfl (by kernel_rfl) (by kernel_rfl) (by kernel_rfl) (fun _ _ _ h => h) (Or.inl ⟨by rfl, fun w' hS' => by clear hS'; go_simp⟩) hS ?_
                  refine wpAnyH_take (i := 6) (v := .pointer (some ⟨gr, i2, none⟩)) rfl (by kernel_rfl) (by kernel_rfl) (by kernel_rfl) (fun _ _ _ h => h) (Or.inl ⟨by rfl, fun w' hS' => by clear hS'; go_simp⟩) hS ?_
                  refine wpAnyH_take (i := 7) (v := .slice (some ⟨ge, 0, none⟩) n ce) rfl (by kernel_rfl) (by kernel_rfl) (by kernel_rfl) (fun _ _ _ h => h) (Or.inl ⟨by rfl, fun w' hS' => by have hq := hS'.2; go_simp⟩) hS ?_
                  refine wpAnyH_ready (rs := [8]) (by kernel_rfl) (by simp) ?_
                  refine AllReadyH.cons rfl (fun K hK => ?_) AllReadyH.nil
                  go_simp
                  refine HBY.out.mono ?_
                  rintro ex w6 ⟨v6, rfl, ho6, hb6⟩
                  replace hb6 := undrew hb6
                  have ho6' : w6.ownsRow wr.heap.size 3 1 v6 n ((cut n (pad X * e.2)).map (Value.int .i64)) := ho6
                  obtain ⟨g6, c6, rfl, hg6a, hg6b, _, _⟩ := owns_form ho6' h1
                  have hs6 := hb6.size
                  have hcx6 := (hb6.cell (p := ⟨b0, o0 + j, none⟩) (by exact hb0)).trans hcx
                  have hcr6 := (hb6.cell (p := ⟨gr, i2, none⟩) (by exact hgr)).trans hcr
                  refine hK.out _ _ ⟨hcx6, hcr6⟩ (fun hS => ?_)
                  clear hK HBY ho6
                  refine wpAnyH_take (i := 9) (v := .slice (some ⟨g6, 0, none⟩) n c6) rfl (by kernel_rfl) (by kernel_rfl) (by kernel_rfl) (fun _ _ _ h => h) (Or.inl ⟨by rfl, fun w' _ => by go_simp⟩) hS ?_
                  refine wpAnyH_done (by kernel_rfl) ?_ _
                  have hS6 := HS.out.later hb6
                  have hrw6 := hS6.rows
                  rw [List.length_map] at hrw6
                  obtain ⟨ue3, hcr3, hoe3⟩ := word_at hrw6 hS6.rowsAt (i := i3) (X := cut n e3.2) (by rw [List.getElem?_map, List.getElem?_map, HE3.out]; rfl) (by rw [List.length_map, List.length_map])
                  rw [cut_length h12] at hoe3
                  obtain ⟨ge3, ce3, rfl, _, _, _, _⟩ := owns_form hoe3 h1
                  obtain ⟨y1, hy1, hcy1, _⟩ := owns_cellAt ho6' hlt
                  have ey1 : y1 = (q : Int) := by
                    have h7 := cut_get (n := n) (j := k) (pad X * e.2) h12 hlt
                    rw [HXQ.out] at h7
                    rw [← hy1.out]; exact h7
                  rw [ey1] at hcy1
                  obtain ⟨y2, hy2, hcy2, _⟩ := owns_cellAt hS6.wher hqn
                  have ey2 : y2 = (i3 : Int) + 1 := by rw [← hy2.out]; exact H3C.out
                  rw [ey2] at hcy2
                  have hcl3 := cut_length h12 e3.2
                  have HUD := hide (undo_own (.slice (some ⟨ge3, 0, none⟩) n ce3) (cut n e3.2) w6 (Ints.own hoe3) (cut_row h12 HF3.out) (by rw [hcl3]; exact h1) (by rw [hcl3]; exact h12))
                  have HO6 := hide ho6'
                  have HS6 := hide hS6
                  have HU6 := hide (owns_below HU.out hb6 (Nat.le_refl _))
                  have HUA6 := hide (HUA.out.mono (fun _ _ _ h' => owns_below h' hb6 (Nat.le_refl _)))
                  have hbs6 := hS6.below.size
                  clear hcx6 hcr6 hcx hcr hS hS6 hrw6 hoe3 hy1 ey1 hy2 ey2 ho6' HU HUA HS hb6
                  go_wp2_with fail
                  refine HUD.out.mono ?_
                  rintro ex w7 ⟨v7, zs, rfl, hoz, hzu, hb7⟩
                  rw [hcl3] at hoz
                  obtain ⟨gz, cz, rfl, _, _, _, _⟩ := owns_form hoz h1
                  have hzr := isRow_undoes (cut_row h12 HF3.out) hzu
                  have hzl : zs.length = n := hzu.1.trans hcl3
                  have hpz : pad zs = (e3.2)⁻¹ := by rw [pad_undoes (by rw [hcl3]; exact h12) (cut_row h12 HF3.out) hzu, pad_cut h12 HF3.out]
                  have hxr := cut_row h12 HXF.out
                  have hxl := cut_length h12 (pad X * e.2)
                  have hYr : isRow (by_ zs (cut n (pad X * e.2))) := isRow_by hzr hxr (by rw [hxl, hzl])
                  have hYl : (by_ zs (cut n (pad X * e.2))).length = n := by rw [by_length]; exact hxl
                  have hYp : pad (by_ zs (cut n (pad X * e.2))) = (e3.2)⁻¹ * (pad X * e.2) := by rw [pad_by (by omega) hzr hxr (by rw [hxl, hzl]), hpz, pad_cut h12 HXF.out]
                  have HB2 := hide (rby_own (.slice (some ⟨gz, 0, none⟩) n cz) (.slice (some ⟨g6, 0, none⟩) n c6) zs (cut n (pad X * e.2)) w7 (Ints.own hoz) ((Ints.own HO6.out).below hb7) (fun j hj => by have := hxr.at (j := j) hj; rw [hxl] at this; rw [hzl]; exact this) (by rw [hzl]; exact h1) (by rw [hxl]; omega))
                  rw [hxl] at HB2
                  have HST2 := hide (HST.out.step HO.out.nodup HE.out HX.out HM3.out H3B.out hYr hYl hYp)
                  have HYL := hide hYl
                  have HS7 := hide (HS6.out.later hb7)
                  have HU7 := hide (owns_below HU6.out hb7 (Nat.le_refl _))
                  have HUA7 := hide (HUA6.out.mono (fun _ _ _ h' => owns_below h' hb7 (Nat.le_refl _)))
                  have hs7 := hb7.size
                  clear HUD HS6 HU6 HUA6 hoz hzu hzr hpz hxr hxl hYr hYl hYp hb7 HO6 HST
                  generalize by_ zs (cut n (pad X * e.2)) = Y at *
                  go_wp2_with fail
                  refine HB2.out.mono ?_
                  rintro ex w8 ⟨v8, rfl, ho8, hb8⟩
                  obtain ⟨g8, c8, rfl, _, _, _, _⟩ := owns_form ho8 h1
                  have hs8 := hb8.size
                  have hS8 := HS7.out.later hb8
                  have hU8 := owns_below HU7.out hb8 (Nat.le_refl _)
                  have hUA8 := HUA7.out.mono (fun _ _ _ h' => owns_below h' hb8 (Nat.le_refl _))
                  have ho8' : w8.ownsRow wa.heap.size 3 1 (.slice (some ⟨g8, 0, none⟩) n c8) Y.length (Y.map (Value.int .i64)) := by rw [HYL.out]; exact owns_base ho8 (by omega)
                  have hul : us.length ≤ 2000 := by
                    have e1 := OwnAll.length hUA8
                    have e2 := HST2.out.len
                    rw [List.length_append] at e2
                    have e4 : i2 * gss.length ≤ 12 * 144 := Nat.mul_le_mul (by omega) hgl
                    simp at e2
                    omega
                  have HS8 := hide (hS8.alloc (.cells #[.slice (some ⟨g8, 0, none⟩) n c8] 22))
                  have HU8 := hide (hU8.alloc (.cells #[.slice (some ⟨g8, 0, none⟩) n c8] 22))
                  have HUA8 := hide (OwnAll.mono (fun _ _ _ h' => World.ownsRow.alloc h' (.cells #[.slice (some ⟨g8, 0, none⟩) n c8] 22)) hUA8)
                  have HO8 := hide (ho8'.alloc (.cells #[.slice (some ⟨g8, 0, none⟩) n c8] 22))
                  have hgr8 := (hS8.rows.lt gr rfl).2
                  clear HB2 HS7 HU7 HUA7 ho8 hS8 hU8 hUA8 ho8' hb8
                  go_wp2_with (at_builtin; refine wpList_append_keep _ rfl _ _ 25 rfl wa.heap.size 22 i0 (.slice none 0 0) 1 24 Tryz.underlying25 hi hz0 hz1 hz2 rfl (by decide) _ us.length us rfl HU8.out ⟨w8.heap.size, 0, none⟩ 1 1 [.slice (some ⟨g8, 0, none⟩) n c8] rfl rfl ?c1 ?c2 ?c3 ?c4 ?c5 ?_)
                  case c1 => exact cell_one_new _ _ _
                  case c2 => intro u hu; simp at hu; subst hu; rfl
                  case c3 => unfold maxLen; omega
                  case c4 => omega
                  case c5 => simp; omega
                  intro v9 w9 hown9 hg9 hp9
                  have HS9 := hide (HS8.out.other HU8.out HUN.out hg9)
                  have HU9 : Hid (w9.ownsRow wa.heap.size 22 1 v9 (us ++ [Value.slice (some ⟨g8, 0, none⟩) n c8]).length (us ++ [Value.slice (some ⟨g8, 0, none⟩) n c8])) := by unfold Hid; rw [List.length_append]; exact hown9
                  have HUN9 : Hid (v9.ownBlock ≠ some gr) := by
                    intro e'
                    rcases hp9 with hp | ⟨hp, _⟩
                    · exact HUN.out (hp.symm.trans e')
                    · rw [e'] at hp
                      injection hp with hp
                      omega
                  have HUA9 : Hid (OwnAll w9 wa.heap.size (us ++ [Value.slice (some ⟨g8, 0, none⟩) n c8]) (yss ++ [Y])) := OwnAll.snoc (owns_kept_ty HO8.out HU8.out hg9) (HUA8.out.mono (fun _ _ _ h' => owns_kept_ty h' HU8.out hg9))
                  clear hown9 hg9 hp9 HS8 HU8 HUA8 HO8
                  go_wp2
                  go_roundw
                  case rel => exact ⟨j + 1, _, _, by omega, by go_num, HS9, HU9, HUN9, HUA9, HST2⟩
                  case measure => simp [intOf]; omega
                · have hje : j = gss.length := by omega
                  have HST2 : Hid (StillTo n gss T (i2 + 1) 0 yss) := by have := HST.out; rw [hje] at this; exact this.next
                  clear hje hba
                  go_wp2
                  go_roundw
                  case rel => exact ⟨i2 + 1, _, _, by omega, by go_num, HS, HU, HUN, HUA, HST2⟩
                  case measure => simp [intOf]; omega
            · have hie : i2 = T.length := by omega
              have hst := HST.out
              rw [hie] at hst
              have hba := HS.out.below
              have hbas := hba.size
              have hoc := HO.out.size HD.out (by omega) HGL.out
              have hmul : ((sz G k : Nat) : Int) * (T.length : Int) = ((sz G (k + 1) : Nat) : Int) := by
                rw [hoc]; exact (Int.natCast_mul _ _).symm
              have hszn := sz_le G (k + 1)
              have hpow : 12 ^ (k + 1) ≤ 12 ^ 12 := Nat.pow_le_pow_right (by omega) (by omega)
              have hsz3 : sz G (k + 1) ≤ 8916100448256 := Nat.le_trans hszn (Nat.le_trans hpow (by decide))
              have hgen : ∀ x, Gen (fun y => y ∈ yss.map pad) x ↔ Low G (k + 1) x := fun x => by rw [hst.gen x]; exact HO.out.low HD.out HGL.out x
              have huy := OwnAll.length HUA.out
              have hIA : IntsAll wr u10 yss := IntsAll.own HU.out HUA.out
              have hyl : yss.length ≤ 100000 := by
                have e4 : T.length * gss.length ≤ 12 * 144 := Nat.mul_le_mul (by omega) hgl
                have := hst.len
                omega
              have HTH := hide (thinned_ok n (k + 1) u10 yss wr hIA (fun Y hY => ⟨(hst.rows Y hY).1, (hst.rows Y hY).2.1⟩) h1 h12 (by omega) hyl (fun Y hY c hc => ((hgen (pad Y)).1 (Gen.of (List.mem_map.2 ⟨Y, hY, rfl⟩))).2 c hc))
              rw [show ((k + 1 : Nat) : Int) = (k : Int) + 1 from by omega] at HTH
              have HGEN := hide hgen
              have hwB : Below w.heap.size w wr := hbw.trans (hba.mono hbs)
              clear hie hst hba hoc hszn hpow hgen huy hIA hyl HST
              go_wp2_with fail
              refine HTH.out.mono ?_
              rintro ex w9 ⟨hb9, u9, zss, rfl, hz1', hz2', hz3', hz4'⟩
              have HZ1 := hide hz1'
              have HZ2 := hide hz2'
              have HZ4 : Hid (∀ x, Gen (fun y => y ∈ zss.map pad) x ↔ Low G (k + 1) x) := fun x => (hz4' x).trans (HGEN.out x)
              have hwB9 : Below w.heap.size w w9 := hwB.trans (hb9.mono hwB.size)
              clear HTH hz1' hz2' hz4' HGEN hb9
              go_wp2
              go_roundw
              case rel => exact ⟨k + 1, zss, by omega, by go_num, rfl, HZ1, HZ2, hz3', HZ4, hwB9⟩
              case measure => simp [intOf]; omega
    · obtain rfl : k = n := by omega
      go_wp2
      go_ret
      exact ⟨rfl, hbw⟩

end Go.Proofs.YtahffpgadoiijaaGreat

/- Contract: Say, the answer's own: what a word says. -/
namespace Go.Proofs.YtahffpgadoiijaaGreat
open Go.RowKit

theorem lett_zero (gs : List Pm) : lett gs 0 = none := by unfold lett; rw [if_neg (by omega), if_neg (by omega)]
theorem lett_high {gs : List Pm} {k : Int} (h : (gs.length : Int) < k) : lett gs k = none := by
  unfold lett; rw [if_pos (by omega), List.getElem?_eq_none (by omega)]
theorem lett_low {gs : List Pm} {k : Int} (h : k < -(gs.length : Int)) : lett gs k = none := by
  unfold lett; rw [if_neg (by omega), if_pos (by omega), List.getElem?_eq_none (by omega)]; rfl
theorem lett_pos {gs : List Pm} {q : Nat} {x : Pm} (h : gs[q]? = some x) : lett gs ((q : Int) + 1) = some x := by
  unfold lett; rw [if_pos (by omega), show ((q : Int) + 1 - 1).toNat = q from by omega]; exact h
theorem lett_neg {gs : List Pm} {q : Nat} {x : Pm} (h : gs[q]? = some x) : lett gs (-((q : Int) + 1)) = some x⁻¹ := by
  unfold lett; rw [if_neg (by omega), if_pos (by omega), show (-(-((q : Int) + 1)) - 1).toNat = q from by omega, h]; rfl

def RSayPost (n : Nat) (gss : List (List Int)) (xs : List Int) (w : World) (e : Ending) (w' : World) : Prop :=
  ((say (gss.map pad) xs 1 = none ∧ e = .returned (.tuple #[.slice none 0 0, .int .i64 12])) ∨ ∃ v p, say (gss.map pad) xs 1 = some p ∧ Fixes (fun b => n ≤ b) p ∧ e = .returned (.tuple #[v, .int .i64 0]) ∧ Ints w' v (cut n p)) ∧ Below w.heap.size w w'

end Go.Proofs.YtahffpgadoiijaaGreat

/- Plain: words that may be said; orbits. -/
namespace Go.Proofs.YtahffpgadoiijaaGreat

theorem say_some {gs : List Pm} : ∀ (A : List Int) (p : Pm), (∀ z, z ∈ A → ∃ x, lett gs z = some x) → ∃ q, say gs A p = some q
  | [], p, _ => ⟨p, rfl⟩
  | z :: A, p, h => by
    obtain ⟨x, hx⟩ := h z List.mem_cons_self
    obtain ⟨q, hq⟩ := say_some A (p * x) (fun y hy => h y (List.mem_cons_of_mem _ hy))
    exact ⟨q, by show (lett gs z).elim none _ = _; rw [hx]; exact hq⟩

theorem lett_gen {gs : List Pm} {z : Int} {x : Pm} (h : lett gs z = some x) : Gen (fun y => y ∈ gs) x := by
  obtain ⟨l, hl, rfl⟩ := lett_glet h
  exact (glet_gen 0 gs l.2).1 (Gen.of ⟨l, hl, rfl⟩)

theorem say_gen {gs : List Pm} : ∀ (A : List Int) (p q : Pm), Gen (fun y => y ∈ gs) p → say gs A p = some q → Gen (fun y => y ∈ gs) q
  | [], p, q, hp, h => by rw [← Option.some.inj h]; exact hp
  | z :: A, p, q, hp, h => by
    have h' : (lett gs z).elim none (fun x => say gs A (p * x)) = some q := h
    cases hl : lett gs z with
    | none => rw [hl] at h'; cases h'
    | some x =>
      rw [hl] at h'
      exact say_gen A (p * x) q (Gen.mul' hp (lett_gen hl)) h'

theorem lett_up {gs : List Pm} {z : Int} (h1 : 1 ≤ z) (h2 : z ≤ gs.length) : ∃ x, lett gs z = some x := by
  unfold lett
  rw [if_pos h1]
  exact ⟨_, List.getElem?_eq_getElem (by omega)⟩

theorem lett_down {gs : List Pm} {z : Int} (h1 : z ≤ -1) (h2 : -(gs.length : Int) ≤ z) : ∃ x, lett gs z = some x := by
  unfold lett
  rw [if_neg (by omega), if_pos h1, List.getElem?_eq_getElem (show (-z - 1).toNat < gs.length by omega)]
  exact ⟨_, rfl⟩

theorem reach_back {gs : List Pm} {a b : Nat} (h : Reach gs a b) : Reach gs b a := by
  obtain ⟨x, hx, rfl⟩ := h
  exact ⟨x⁻¹, hx.inv, Pm.inv_act x a⟩

theorem reach_trans {gs : List Pm} {a b c : Nat} (h : Reach gs a b) (k : Reach gs b c) : Reach gs a c := by
  obtain ⟨x, hx, rfl⟩ := h
  obtain ⟨y, hy, rfl⟩ := k
  exact ⟨y * x, Gen.mul' hy hx, Pm.act_mul y x a⟩

theorem orbS_eq {gs : List Pm} {n a b : Nat} (h : Reach gs a b) : orbS gs n a = orbS gs n b :=
  sorted_ext _ _ (orbS_sorted gs n a) (orbS_sorted gs n b) (fun x => by
    rw [mem_orbS, mem_orbS]
    exact ⟨fun ⟨h1, h2⟩ => ⟨h1, reach_trans (reach_back h) h2⟩, fun ⟨h1, h2⟩ => ⟨h1, reach_trans h h2⟩⟩)

theorem orbsTo_form {gs : List Pm} {n : Nat} : ∀ (k : Nat) (O : List Nat), O ∈ orbsTo gs n k → ∃ a, a < k ∧ O = orbS gs n a
  | 0, O, h => by cases h
  | k + 1, O, h => by
    by_cases hk : k ∈ (orbsTo gs n k).flatten
    · rw [orbsTo_yes hk] at h
      obtain ⟨a, h1, h2⟩ := orbsTo_form k O h
      exact ⟨a, by omega, h2⟩
    · rw [orbsTo_no hk] at h
      rcases List.mem_append.1 h with h | h
      · obtain ⟨a, h1, h2⟩ := orbsTo_form k O h
        exact ⟨a, by omega, h2⟩
      · exact ⟨k, by omega, List.mem_singleton.1 h⟩

theorem orbsTo_len {gs : List Pm} {n bell : Nat} {O : List Nat} (h : O ∈ orbsTo gs n n) (hb : bell ∈ O) : O.length = (orbS gs n bell).length := by
  obtain ⟨a, _, rfl⟩ := orbsTo_form n O h
  rw [orbS_eq (mem_orbS.1 hb).2]

theorem orbsTo_all {gs : List Pm} {n : Nat} : ∀ (k : Nat), k ≤ n → ∀ b, b < k → b ∈ (orbsTo gs n k).flatten
  | 0, _, b, hb => by omega
  | k + 1, hk, b, hb => by
    by_cases hm : k ∈ (orbsTo gs n k).flatten
    · rw [orbsTo_yes hm]
      by_cases e : b = k
      · rw [e]; exact hm
      · exact orbsTo_all k (by omega) b (by omega)
    · rw [orbsTo_no hm, List.flatten_append, List.mem_append]
      by_cases e : b = k
      · right
        rw [e]
        simp
        exact mem_orbS.2 ⟨by omega, 1, Gen.one, Pm.act_one k⟩
      · left
        exact orbsTo_all k (by omega) b (by omega)

theorem orbS_pos {gs : List Pm} {n bell : Nat} (h : bell < n) : 1 ≤ (orbS gs n bell).length := List.length_pos_of_mem (mem_orbS.2 ⟨h, 1, Gen.one, Pm.act_one bell⟩)

theorem orbS_le (gs : List Pm) (n bell : Nat) : (orbS gs n bell).length ≤ n := nodup_le ((orbS_sorted gs n bell).imp (fun h => Nat.ne_of_lt h)) (fun _ hb => (mem_orbS.1 hb).1)

/-- The size is the orbit's times the stabiliser's. -/
theorem sz_orb {gs hs : List Pm} {n bell : Nat} (h12 : n ≤ 12) (hb : bell < n) (hf : ∀ x, Gen (fun y => y ∈ gs) x → Fixes (fun b => n ≤ b) x) (hs' : ∀ x, Gen (fun y => y ∈ hs) x ↔ Gen (fun y => y ∈ gs) x ∧ x.act bell = bell) :
    sz (Gen (fun y => y ∈ gs)) n = (orbS gs n bell).length * sz (Gen (fun y => y ∈ hs)) n := by
  rw [sz_congr hs' n]
  refine orb_stab (Gen.sub _) h12 hf bell ((orbS_sorted gs n bell).imp (fun h => Nat.ne_of_lt h)) (fun b => ?_)
  rw [mem_orbS]
  constructor
  · exact fun h => h.2
  · rintro ⟨x, hx, rfl⟩
    exact ⟨act_below (hf x hx) hb, x, hx, rfl⟩

/-- What one row and what undoes another make. -/
theorem by_undo {n : Nat} {x y : Pm} {zs : List Int} (h12 : n ≤ 12) (hx : Fixes (fun b => n ≤ b) x) (hy : Fixes (fun b => n ≤ b) y) (hz : Undoes zs (cut n y)) : isRow zs ∧ zs.length = n ∧ by_ (cut n x) zs = cut n (x * y⁻¹) := by
  have hcy := cut_row h12 hy
  have hl : zs.length = n := by rw [hz.1, cut_length h12]
  have hr := isRow_undoes hcy hz
  refine ⟨hr, hl, ?_⟩
  rw [by_cut h12 hx hr hl]
  have hp : pad zs = y⁻¹ := by
    have := pad_undoes (by rw [cut_length h12]; exact h12) hcy hz
    rw [pad_cut h12 hy] at this
    exact this
  rw [hp]

theorem rchk_ok {n : Nat} {xs : List Int} (h1 : 1 ≤ n) (h12 : n ≤ 12) (hr : isRow xs) (hl : xs.length = n) : rchk n xs = 0 := by
  unfold rchk
  rw [if_pos (chk_ok (by omega) (by omega) hr), if_pos hl]

theorem fct_nine {n : Nat} (h : n ≤ 9) : fct n ≤ 362880 := by
  obtain rfl | rfl | rfl | rfl | rfl | rfl | rfl | rfl | rfl | rfl : n = 0 ∨ n = 1 ∨ n = 2 ∨ n = 3 ∨ n = 4 ∨ n = 5 ∨ n = 6 ∨ n = 7 ∨ n = 8 ∨ n = 9 := by omega
  all_goals decide

theorem Run.full {L : List (Int × Pm)} {i j : Nat} {S T : List (Pm × List Int)} (h : Run L i S) (k : Run L j T) (hj : T.length ≤ j) {e : Pm × List Int} (he : e ∈ S) : e ∈ T := by
  rcases Nat.lt_or_ge j i with hlt | hge
  · obtain ⟨S', h', _⟩ := h.pre (j + 1) hlt
    cases h' with
    | step h'' he' =>
      rw [k.det h''] at hj
      have := (List.getElem?_eq_some_iff.1 he').1
      omega
  · obtain ⟨m, e1⟩ := h.more k hge
    rw [e1]
    exact List.mem_append_left _ he

theorem say_lett {gs : List Pm} : ∀ (A : List Int) (p q : Pm), say gs A p = some q → ∀ z, z ∈ A → ∃ x, lett gs z = some x
  | [], _, _, _, z, hz => by cases hz
  | y :: A, p, q, h, z, hz => by
    have h' : (lett gs y).elim none (fun x => say gs A (p * x)) = some q := h
    cases hl : lett gs y with
    | none => rw [hl] at h'; cases h'
    | some x =>
      rw [hl] at h'
      rcases List.mem_cons.1 hz with e | e
      · rw [e]; exact ⟨x, hl⟩
      · exact say_lett A (p * x) q h' z e

theorem lett_bound {gs : List Pm} {z : Int} {x : Pm} (h : lett gs z = some x) : -(gs.length : Int) ≤ z ∧ z ≤ gs.length := by
  rcases Int.lt_or_le (gs.length : Int) z with h1 | h1
  · rw [lett_high h1] at h; cases h
  · rcases Int.lt_or_le z (-(gs.length : Int)) with h2 | h2
    · rw [lett_low h2] at h; cases h
    · exact ⟨h2, h1⟩

/-- What the search's word is. -/
theorem word_is {gs : List Pm} {i : Nat} {S : List (Pm × List Int)} {x : Pm} {wd A : List Int} {X : List Pm} (hX : ∀ x, Gen (fun y => y ∈ gs) x → x ∈ X) (h : Run (glet 0 gs) i S) (hm : (x, wd) ∈ S) (hA : say gs A 1 = some x) : say gs wd 1 = some x ∧ wd.length ≤ A.length ∧ wd.length ≤ X.length := by
  have hX' : ∀ x, Gen (fun x => ∃ l, l ∈ glet 0 gs ∧ l.2 = x) x → x ∈ X := fun x hx => hX x ((glet_gen 0 gs x).1 hx)
  obtain ⟨j, T, hT, hj⟩ := Run.exists hX'
  obtain ⟨wd', h1, h2⟩ := hT.short hj (say_wds A 1 x 0 Wds.nil hA)
  have e := pair_eq hT.ok.nodup (h.full hT hj hm) h1
  have h3 := run_words h _ hm
  have h4 := h.len hX'
  refine ⟨h.said _ hm, by rw [e]; omega, by simp only at h3; omega⟩

/-- How long the orbit of a bell is, as far as it is found. -/
structure Cnted (X : List (List Nat)) (bell ol i j c : Nat) : Prop where
  two : c = ol ∨ c = 0
  ahead : bell ∈ (X.take i).flatten → c = ol
  here : ∀ O, X[i]? = some O → bell ∈ O.take j → c = ol

theorem Cnted.start (X : List (List Nat)) (bell ol : Nat) : Cnted X bell ol 0 0 0 := ⟨Or.inr rfl, fun h => by simp at h, fun O _ h => by simp at h⟩

theorem Cnted.hit (X : List (List Nat)) (bell ol i j : Nat) : Cnted X bell ol i (j + 1) ol := ⟨Or.inl rfl, fun _ => rfl, fun _ _ _ => rfl⟩

theorem Cnted.miss {X : List (List Nat)} {bell ol i j c : Nat} {O : List Nat} {z : Nat} (h : Cnted X bell ol i j c) (hO : X[i]? = some O) (hz : O[j]? = some z) (hne : z ≠ bell) : Cnted X bell ol i (j + 1) c :=
  ⟨h.two, h.ahead, fun O' hO' hb => by
    rw [hO] at hO'
    have e := Option.some.inj hO'
    subst e
    rw [List.take_add_one, hz, List.mem_append] at hb
    rcases hb with hb | hb
    · exact h.here O hO hb
    · simp at hb; exact absurd hb.symm hne⟩

theorem Cnted.next {X : List (List Nat)} {bell ol i c : Nat} {O : List Nat} (h : Cnted X bell ol i O.length c) (hO : X[i]? = some O) : Cnted X bell ol (i + 1) 0 c :=
  ⟨h.two, fun hb => by
    rw [List.take_add_one, hO, List.flatten_append, List.mem_append] at hb
    rcases hb with hb | hb
    · exact h.ahead hb
    · exact h.here O hO (by simpa using hb), fun O _ hb => by simp at hb⟩

theorem Cnted.done {X : List (List Nat)} {bell ol c : Nat} (h : Cnted X bell ol X.length 0 c) (hb : bell ∈ X.flatten) : c = ol := h.ahead (by rw [List.take_length]; exact hb)

end Go.Proofs.YtahffpgadoiijaaGreat

/- Plain: the length and the lists of a slice of lists. -/
namespace Go.Proofs.YtahffpgadoiijaaGreat
open Go.RowKit

theorem IntsAll.len {w : World} {v : Value} {xss : List (List Int)} (h : IntsAll w v xss) : ∃ p c, v = .slice p xss.length c := by
  obtain ⟨vs, h1, h2, _⟩ := h
  rw [← h2]; exact h1.form

/-- The k-th list of a slice of lists that is not empty. -/
theorem IntsAll.cell {w : World} {v : Value} {xss : List (List Int)} (h : IntsAll w v xss) (h0 : 1 ≤ xss.length) : ∃ b off cap, v = .slice (some ⟨b, off, none⟩) xss.length cap ∧ b < w.heap.size ∧ xss.length ≤ cap ∧ cap ≤ 9223372036854775807 ∧
    ∀ k, k < xss.length → ∃ p c, w.cell? ⟨b, off + k, none⟩ = some (.slice p (xss.getD k []).length c) ∧ Hid (Ints w (.slice p (xss.getD k []).length c) (xss.getD k [])) := by
  obtain ⟨vs, h1, h2, h3⟩ := h
  rcases h1 with ⟨rfl, _⟩ | ⟨b, off, cap, rfl, h4, h5, h6, h7, h8⟩
  · simp at h2; omega
  · refine ⟨b, off, cap, by rw [h2], h7, by omega, h6, fun k hk => ?_⟩
    exact elAt h8 (by omega) (h3 k hk)

theorem IntsAll.cut {w : World} {b off K cap k : Nat} {X : List (List Int)} (h : IntsAll w (.slice (some ⟨b, off, none⟩) K cap) X) (hl : X.length = K) (hk : k ≤ K) : IntsAll w (.slice (some ⟨b, off, none⟩) k cap) (X.take k) := by
  obtain ⟨vs, h1, h2, h3⟩ := h
  rcases Nat.eq_zero_or_pos k with rfl | h0
  · exact ⟨[], Or.inl ⟨rfl, _, _, rfl⟩, by simp, fun j hj => by simp at hj⟩
  rcases h1 with ⟨rfl, _⟩ | ⟨b', off', cap', e, h4, h5, h6, h7, h8⟩
  · simp at h2; omega
  obtain ⟨⟨rfl, rfl⟩, _, rfl⟩ : (b = b' ∧ off = off') ∧ K = vs.length ∧ cap = cap' := by
    simpa using e
  refine ⟨vs.take k, Or.inr ⟨b, off, cap, ?_, ?_, ?_, h6, h7, fun j hj => ?_⟩, ?_, fun j hj => ?_⟩
  · rw [List.length_take, Nat.min_eq_left (by omega)]
  · rw [List.length_take]; omega
  · rw [List.length_take]; omega
  · rw [List.length_take] at hj
    rw [h8 j (by omega)]
    simp [List.getD, show j < k by omega]
  · rw [List.length_take, List.length_take, h2]
  · rw [List.length_take] at hj
    have e1 : (vs.take k).getD j undef = vs.getD j undef := by simp [List.getD, show j < k by omega]
    have e2 : (X.take k).getD j [] = X.getD j [] := by simp [List.getD, show j < k by omega]
    rw [e1, e2]
    exact h3 j (by omega)

end Go.Proofs.YtahffpgadoiijaaGreat

/- Contracts: the answer's Below; slices.BinarySearchFunc among rows in order. -/
namespace Go.Proofs.YtahffpgadoiijaaGreat
open Go.RowKit

/-- Is a list ahead of another? -/
def blw : List Int → List Int → Bool
  | [], [] => false
  | [], _ :: _ => true
  | _ :: _, [] => false
  | a :: x, b :: y => if a = b then blw x y else decide (a < b)

theorem blw_end (xs ys : List Int) (k : Nat) (h : ¬ (k < xs.length ∧ k < ys.length)) (hk : k ≤ xs.length) (hk2 : k ≤ ys.length) : blw (xs.drop k) (ys.drop k) = decide (xs.length < ys.length) := by
  by_cases h1 : k < xs.length
  · have h2 : ¬ k < ys.length := fun h2 => h ⟨h1, h2⟩
    rw [List.drop_eq_nil_of_le (show ys.length ≤ k by omega), drop_cons xs h1]
    symm
    rw [show blw (xs[k]?.getD 0 :: xs.drop (k + 1)) [] = false from rfl]
    simp; omega
  · rw [List.drop_eq_nil_of_le (show xs.length ≤ k by omega)]
    by_cases h2 : k < ys.length
    · rw [drop_cons ys h2]
      symm
      rw [show blw [] (ys[k]?.getD 0 :: ys.drop (k + 1)) = true from rfl]
      simp; omega
    · rw [List.drop_eq_nil_of_le (show ys.length ≤ k by omega)]
      symm
      rw [show blw [] [] = false from rfl]
      simp; omega

set_option maxRecDepth 20000 in
set_option maxHeartbeats 2000000 in
theorem rbelow_any (v1 v2 : Value) (xs ys : List Int) (w : World) (h1 : Ints w v1 xs) (h2 : Ints w v2 ys) (hl1 : xs.length ≤ 1000000) (hl2 : ys.length ≤ 1000000) :
    Calls Tryz.prog 60 #[v1, v2] w fun e w' => e = .returned (.bool (blw xs ys)) ∧ Below w.heap.size w w' := by
  obtain ⟨p1, c1, rfl⟩ := h1.form
  obtain ⟨p2, c2, rfl⟩ := h2.form
  have HC1 := hide h1
  have HC2 := hide h2
  clear h1 h2
  go_enter Tryz.func60, Tryz.ntmps60
  go_wp2
  go_loopw [5] (fun i wr => ∃ k : Nat, k ≤ xs.length ∧ k ≤ ys.length ∧ i = .int .i64 k ∧ Hid (blw xs ys = blw (xs.drop k) (ys.drop k)) ∧ Below w.heap.size w wr) (fun i _ => xs.length - (intOf i).toNat)
  case atStart => exact ⟨0, by omega, by omega, rfl, rfl, Below.refl _ _⟩
  case round =>
    obtain ⟨k, hk, hk2, rfl, ht, hbw⟩ := hrel
    by_cases hlt : k < xs.length
    · by_cases hlt2 : k < ys.length
      · rcases HC1.out with ⟨rfl, _⟩ | ⟨b, off, cap, hv, h0, hc, hm, hb, hcell⟩
        · simp at hlt
        rcases HC2.out with ⟨rfl, _⟩ | ⟨b2, off2, cap2, hv2, h02, hc2, hm2, hb2, hcell2⟩
        · simp at hlt2
        simp only [Value.slice.injEq] at hv hv2
        obtain ⟨rfl, _, rfl⟩ := hv
        obtain ⟨rfl, _, rfl⟩ := hv2
        obtain ⟨x, hx, hcx⟩ := cellAt hcell hlt
        obtain ⟨y, hy, hcy⟩ := cellAt hcell2 hlt2
        have gx : wr.cell? ⟨b, off + k, none⟩ = some (.int .i64 x) := (hbw.cell (by exact hb)).trans hcx
        have gy : wr.cell? ⟨b2, off2 + k, none⟩ = some (.int .i64 y) := (hbw.cell (by exact hb2)).trans hcy
        have HD : Hid (blw xs ys = if x = y then blw (xs.drop (k + 1)) (ys.drop (k + 1)) else decide (x < y)) := by show _ = _; rw [ht.out, drop_cons xs hlt, drop_cons ys hlt2, hx.out, hy.out]; rfl
        clear hcx hcy hcell hcell2 ht hx hy
        by_cases hxy : x = y
        · subst hxy
          have HD' : Hid (blw xs ys = blw (xs.drop (k + 1)) (ys.drop (k + 1))) := by have := HD.out; rw [if_pos rfl] at this; exact this
          clear HD
          go_wp2
          go_region
          all_goals
            go_wp2
            go_roundw
            case rel => exact ⟨k + 1, by omega, by omega, by go_num, HD', by first | exact hbw | exact hbw.drew | exact hbw.drew.drew⟩
            case measure => simp [intOf]; omega
        · have hne : (x != y) = true := by simpa using hxy
          have HD' : Hid (blw xs ys = decide (x < y)) := by have := HD.out; rw [if_neg hxy] at this; exact this
          clear HD hxy
          go_wp2
          go_region
          all_goals
            go_wp2
            go_region
            all_goals
              go_wp2
              go_ret
              exact ⟨ret_bool HD'.out.symm, by first | exact hbw | exact hbw.drew | exact hbw.drew.drew⟩
      · have HE : Hid (blw xs ys = decide (xs.length < ys.length)) := by show _ = _; rw [ht.out]; exact blw_end xs ys k (fun h => hlt2 h.2) hk hk2
        go_wp2
        go_ret
        exact ⟨ret_bool (by rw [HE.out]), hbw⟩
    · have HE : Hid (blw xs ys = decide (xs.length < ys.length)) := by show _ = _; rw [ht.out]; exact blw_end xs ys k (fun h => hlt h.1) hk hk2
      go_wp2
      go_ret
      exact ⟨ret_bool (by rw [HE.out]), hbw⟩

end Go.Proofs.YtahffpgadoiijaaGreat

/- Plain: lists in order; merging; equal neighbours. -/
namespace Go.Proofs.YtahffpgadoiijaaGreat
open Go.RowKit

theorem blw_lcmp : ∀ a b : List Int, blw a b = decide (lcmp a b < 0)
  | [], [] => rfl
  | [], _ :: _ => rfl
  | _ :: _, [] => rfl
  | x :: a, y :: b => by
    rw [lcmp_cons]
    show (if x = y then blw a b else decide (x < y)) = _
    by_cases h : x = y
    · subst h
      rw [if_pos rfl, if_neg (by omega), if_neg (by omega)]
      exact blw_lcmp a b
    · rw [if_neg h]
      by_cases h2 : x < y
      · rw [if_pos h2, decide_eq_true h2]; rfl
      · rw [if_neg h2, if_pos (by omega), decide_eq_false h2]; rfl

theorem blw_irr (a : List Int) : blw a a = false := by rw [blw_lcmp, lcmp_self]; rfl

theorem blw_trans {a b c : List Int} (h1 : blw a b = true) (h2 : blw b c = true) : blw a c = true := by
  rw [blw_lcmp] at *
  exact decide_eq_true (lcmp_trans _ _ _ (of_decide_eq_true h1) (of_decide_eq_true h2))

theorem blw_ntrans {a b c : List Int} (h1 : blw a b = false) (h2 : blw b c = false) : blw a c = false := by
  rw [blw_lcmp] at *
  exact decide_eq_false (lcmp_ntrans _ _ _ (of_decide_eq_false h1) (of_decide_eq_false h2))

theorem blw_tri : ∀ {a b : List Int}, blw a b = false → blw b a = false → a = b
  | [], [], _, _ => rfl
  | [], _ :: _, h, _ => by cases h
  | _ :: _, [], _, h => by cases h
  | x :: a, y :: b, h1, h2 => by
    have e1 : (if x = y then blw a b else decide (x < y)) = false := h1
    have e2 : (if y = x then blw b a else decide (y < x)) = false := h2
    by_cases h : x = y
    · subst h
      rw [if_pos rfl] at e1 e2
      rw [blw_tri e1 e2]
    · rw [if_neg h] at e1
      rw [if_neg (fun e => h e.symm)] at e2
      have := of_decide_eq_false e1
      have := of_decide_eq_false e2
      omega

theorem blw_lt {a b : List Int} (h1 : blw b a = false) (h2 : a ≠ b) : blw a b = true := by
  cases h : blw a b with
  | true => rfl
  | false => exact absurd (blw_tri h h1) h2

/-- Lists in order, each once, are told by their members. -/
theorem rising_eq : ∀ {X Y : List (List Int)}, X.Pairwise (fun a b => blw a b = true) → Y.Pairwise (fun a b => blw a b = true) → (∀ x, x ∈ X ↔ x ∈ Y) → X = Y
  | [], [], _, _, _ => rfl
  | [], y :: _, _, _, h => by have := (h y).2 List.mem_cons_self; cases this
  | x :: _, [], _, _, h => by have := (h x).1 List.mem_cons_self; cases this
  | x :: X, y :: Y, hX, hY, h => by
    obtain ⟨a1, a2⟩ := List.pairwise_cons.1 hX
    obtain ⟨b1, b2⟩ := List.pairwise_cons.1 hY
    have e : x = y := by
      rcases List.mem_cons.1 ((h x).1 List.mem_cons_self) with h1 | h1
      · exact h1
      · rcases List.mem_cons.1 ((h y).2 List.mem_cons_self) with h2 | h2
        · exact h2.symm
        · have := blw_trans (a1 y h2) (b1 x h1)
          rw [blw_irr] at this
          cases this
    subst e
    rw [rising_eq a2 b2 (fun z => ?_)]
    constructor
    · intro hz
      rcases List.mem_cons.1 ((h z).1 (List.mem_cons_of_mem _ hz)) with h1 | h1
      · subst h1
        have := a1 z hz
        rw [blw_irr] at this
        cases this
      · exact h1
    · intro hz
      rcases List.mem_cons.1 ((h z).2 (List.mem_cons_of_mem _ hz)) with h1 | h1
      · subst h1
        have := b1 z hz
        rw [blw_irr] at this
        cases this
      · exact h1

/-- In order, one may come twice. -/
abbrev Ris (X : List (List Int)) : Prop := X.Pairwise (fun a b => blw b a = false)

theorem Ris.rising {X : List (List Int)} (h : Ris X) (hn : X.Nodup) : X.Pairwise (fun a b => blw a b = true) :=
  (List.Pairwise.and h hn).imp (fun ⟨h1, h2⟩ => blw_lt h1 h2)

/-- Merging. -/
def mrg : List (Value × List Int) → List (Value × List Int) → List (Value × List Int)
  | [], B => B
  | a :: A, [] => a :: A
  | a :: A, b :: B => if blw b.2 a.2 = true then b :: mrg (a :: A) B else a :: mrg A (b :: B)
termination_by A B => A.length + B.length

theorem mrg_nil (A : List (Value × List Int)) : mrg A [] = A := by cases A <;> simp [mrg]

theorem mrg_perm : ∀ A B : List (Value × List Int), (mrg A B).Perm (A ++ B)
  | [], B => by rw [mrg]; exact List.Perm.refl _
  | a :: A, [] => by rw [mrg_nil, List.append_nil]
  | a :: A, b :: B => by
    rw [mrg]
    split
    · exact ((mrg_perm (a :: A) B).cons b).trans List.perm_middle.symm
    · exact (mrg_perm A (b :: B)).cons a
termination_by A B => A.length + B.length

theorem mrg_ris : ∀ A B : List (Value × List Int), A.Pairwise (fun a b => blw b.2 a.2 = false) → B.Pairwise (fun a b => blw b.2 a.2 = false) → (mrg A B).Pairwise (fun a b => blw b.2 a.2 = false)
  | [], B, _, h => by rw [mrg]; exact h
  | a :: A, [], h, _ => by rw [mrg_nil]; exact h
  | a :: A, b :: B, hA, hB => by
    obtain ⟨a1, a2⟩ := List.pairwise_cons.1 hA
    obtain ⟨b1, b2⟩ := List.pairwise_cons.1 hB
    rw [mrg]
    split
    · rename_i h
      refine List.pairwise_cons.2 ⟨fun x hx => ?_, mrg_ris (a :: A) B hA b2⟩
      have hba : blw a.2 b.2 = false := by
        cases h9 : blw a.2 b.2 with
        | false => rfl
        | true => have := blw_trans h h9; rw [blw_irr] at this; cases this
      rcases List.mem_append.1 ((mrg_perm (a :: A) B).mem_iff.1 hx) with h1 | h1
      · rcases List.mem_cons.1 h1 with rfl | h1
        · exact hba
        · exact blw_ntrans (a1 x h1) hba
      · exact b1 x h1
    · rename_i h
      have h' : blw b.2 a.2 = false := by simpa using h
      refine List.pairwise_cons.2 ⟨fun x hx => ?_, mrg_ris A (b :: B) a2 hB⟩
      rcases List.mem_append.1 ((mrg_perm A (b :: B)).mem_iff.1 hx) with h1 | h1
      · exact a1 x h1
      · rcases List.mem_cons.1 h1 with rfl | h1
        · exact h'
        · exact blw_ntrans (b1 x h1) h'
termination_by A B => A.length + B.length

theorem drop_at {α : Type} {A : List α} {i : Nat} {x : α} (h : A[i]? = some x) : A.drop i = x :: A.drop (i + 1) := by
  obtain ⟨h1, h2⟩ := List.getElem?_eq_some_iff.1 h
  rw [← h2, List.drop_eq_getElem_cons h1]

theorem mrg_left {A B : List (Value × List Int)} {i k : Nat} {x : Value × List Int} (hx : A[i]? = some x) (h : k = B.length ∨ ∃ y, B[k]? = some y ∧ blw y.2 x.2 = false) : mrg (A.drop i) (B.drop k) = x :: mrg (A.drop (i + 1)) (B.drop k) := by
  rw [drop_at hx]
  rcases h with rfl | ⟨y, hy, h⟩
  · rw [List.drop_length, mrg_nil, mrg_nil]
  · rw [drop_at hy, mrg, if_neg (by rw [h]; decide)]

theorem mrg_right {A B : List (Value × List Int)} {i k : Nat} {y : Value × List Int} (hy : B[k]? = some y) (h : i = A.length ∨ ∃ x, A[i]? = some x ∧ blw y.2 x.2 = true) : mrg (A.drop i) (B.drop k) = y :: mrg (A.drop i) (B.drop (k + 1)) := by
  rw [drop_at hy]
  rcases h with rfl | ⟨x, hx, h⟩
  · rw [List.drop_length, mrg, mrg]
  · rw [drop_at hx, mrg, if_pos h]

/-- Equal neighbours are dropped. -/
def nubTo (L : List (List Int)) : Nat → List (List Int)
  | 0 => []
  | k + 1 => if k = 0 ∨ L.getD k [] ≠ L.getD (k - 1) [] then nubTo L k ++ [L.getD k []] else nubTo L k

theorem take_snocD {L : List (List Int)} {k : Nat} (h : k < L.length) : L.take (k + 1) = L.take k ++ [L.getD k []] := by
  rw [List.take_succ_eq_append_getElem h]; simp [List.getD, h]

theorem nubTo_fact {L : List (List Int)} (hL : Ris L) : ∀ k, k ≤ L.length → (nubTo L k).Pairwise (fun a b => blw a b = true) ∧ ∀ x, x ∈ nubTo L k ↔ x ∈ L.take k
  | 0, _ => ⟨List.Pairwise.nil, fun x => by simp [nubTo]⟩
  | k + 1, hk => by
    obtain ⟨h1, h2⟩ := nubTo_fact hL k (by omega)
    have hg : ∀ i, i < L.length → L[i]? = some (L.getD i []) := fun i hi => by simp [List.getD, hi]
    have hle : ∀ i j, i < j → j < L.length → blw (L.getD j []) (L.getD i []) = false := fun i j hij hj => by
      have := List.pairwise_iff_getElem.1 hL i j (by omega) hj hij
      simpa [List.getD, show i < L.length by omega, hj] using this
    rw [nubTo, take_snocD (by omega)]
    by_cases hc : k = 0 ∨ L.getD k [] ≠ L.getD (k - 1) []
    · rw [if_pos hc]
      refine ⟨?_, fun x => by rw [List.mem_append, List.mem_append, h2]⟩
      refine List.pairwise_append.2 ⟨h1, by simp, fun x hx y hy => ?_⟩
      rw [List.mem_singleton] at hy
      subst hy
      obtain ⟨i, hi, e⟩ := List.getElem_of_mem ((h2 x).1 hx)
      rw [List.length_take] at hi
      have ex : x = L.getD i [] := by rw [← e]; simp [List.getD, show i < L.length by omega]
      have hik : i < k := by omega
      refine blw_lt (by rw [ex]; exact hle i k hik (by omega)) (fun e9 => ?_)
      rcases hc with rfl | hc
      · omega
      · apply hc
        rcases Nat.lt_or_ge i (k - 1) with h9 | h9
        · refine blw_tri ?_ (hle (k - 1) k (by omega) (by omega)) |>.symm
          rw [← e9, ex]
          exact hle i (k - 1) h9 (by omega)
        · have : i = k - 1 := by omega
          rw [← e9, ex, this]
    · rw [if_neg hc]
      refine ⟨h1, fun x => ?_⟩
      rw [List.mem_append, List.mem_singleton, h2]
      constructor
      · exact Or.inl
      · rintro (h | rfl)
        · exact h
        · have hk0 : k ≠ 0 := fun e => hc (Or.inl e)
          have e2 : L.getD k [] = L.getD (k - 1) [] := Classical.byContradiction (fun e => hc (Or.inr e))
          rw [e2]
          have hkl : k - 1 < L.length := by omega
          have : (L.take k)[k - 1]? = some (L.getD (k - 1) []) := by rw [List.getElem?_take]; simp [hkl, show k - 1 < k by omega, List.getD]
          exact List.mem_of_getElem? this

end Go.Proofs.YtahffpgadoiijaaGreat

/- Plain: ways through all rows, one after another, in the order of lists; how many unlike numbers there are below a bound. -/
namespace Go.Proofs.YtahffpgadoiijaaGreat
open Go.RowKit

/-- A way that goes on from a number, which has met these: each number once, and then 0. -/
def Good (nx : Nat → Nat → Nat) (K all : Nat) : List Nat → Nat → List Nat → Prop
  | _, _, [] => False
  | ks, at_, k :: t => k < K ∧ ((t = [] ∧ nx k at_ = 0 ∧ ks.length = all) ∨ (nx k at_ ∉ ks ∧ Good nx K all (nx k at_ :: ks) (nx k at_) t))

/-- The order of lists. -/
def Ltl : List Nat → List Nat → Prop
  | [], [] => False
  | [], _ :: _ => True
  | _ :: _, [] => False
  | a :: x, b :: y => a < b ∨ (a = b ∧ Ltl x y)

theorem nodup_leX : ∀ (n : Nat) (l : List Nat), l.Nodup → (∀ x, x ∈ l → x < n) → l.length ≤ n
  | 0, l, _, h => by
    cases l with
    | nil => simp
    | cons x t => exact absurd (h x (by simp)) (by omega)
  | n + 1, l, hn, h => by
    by_cases hm : n ∈ l
    · have h1 := nodup_leX n (l.erase n) (hn.erase n) (fun x hx => by
        have hx2 := (List.Nodup.mem_erase_iff hn).1 hx
        have := h x hx2.2
        have := hx2.1
        omega)
      have h2 := List.length_erase_of_mem hm
      have h3 : 0 < l.length := List.length_pos_of_mem hm
      omega
    · have h1 := nodup_leX n l hn (fun x hx => by
        have := h x hx
        have : x ≠ n := fun e => hm (e ▸ hx)
        omega)
      omega

/-- The numbers that are tried stand for all: each once, in order. -/
structure Tried (nx : Nat → Nat → Nat) (K : Nat) (tr : List Nat) : Prop where
  low : ∀ k, k ∈ tr → k < K
  sorted : tr.Pairwise (· < ·)
  all : ∀ k, k < K → ∃ k', k' ∈ tr ∧ k' ≤ k ∧ ∀ a, nx k' a = nx k a

theorem Good.same {nx : Nat → Nat → Nat} {K all : Nat} {ks : List Nat} {a k k' : Nat} {t : List Nat} (h : Good nx K all ks a (k :: t)) (hk : k' < K) (e : nx k' a = nx k a) : Good nx K all ks a (k' :: t) := by
  unfold Good at h ⊢
  rw [e]
  exact ⟨hk, h.2⟩

theorem sorted_before {tr : List Nat} (h : tr.Pairwise (· < ·)) {i : Nat} (hi : i < tr.length) {k : Nat} (hk : k ∈ tr) (hlt : k < tr.getD i 0) : ∃ j, j < i ∧ tr.getD j 0 = k := by
  obtain ⟨j, hj, e⟩ := List.getElem_of_mem hk
  have ei : tr.getD i 0 = tr[i] := by simp [List.getD, hi]
  refine ⟨j, ?_, by simp [List.getD, hj, e]⟩
  rcases Nat.lt_trichotomy j i with h1 | h1 | h1
  · exact h1
  · subst h1; omega
  · have := List.pairwise_iff_getElem.1 h i j hi hj h1
    omega

/-- What is found first is the least. -/
theorem least_found {nx : Nat → Nat → Nat} {K all : Nat} {tr ks : List Nat} {a i : Nat} {q : List Nat} (hT : Tried nx K tr) (hi : i < tr.length) (hno : ∀ j, j < i → ∀ t, ¬ Good nx K all ks a (tr.getD j 0 :: t))
    (hq : ∀ t, Good nx K all ks a (tr.getD i 0 :: t) → ¬ Ltl t q) : ∀ t, Good nx K all ks a t → ¬ Ltl t (tr.getD i 0 :: q) := by
  intro t ht hl
  cases t with
  | nil => exact ht
  | cons k t =>
    have hk : k < K := by unfold Good at ht; exact ht.1
    rcases (show k < tr.getD i 0 ∨ (k = tr.getD i 0 ∧ Ltl t q) from hl) with h | ⟨rfl, h⟩
    · obtain ⟨k', hm, hle, he⟩ := hT.all k hk
      obtain ⟨j, hj, e⟩ := sorted_before hT.sorted hi hm (by omega)
      refine hno j hj t ?_
      rw [e]
      exact ht.same (hT.low k' hm) (he a)
    · exact hq t ht h

theorem none_found {nx : Nat → Nat → Nat} {K all : Nat} {tr ks : List Nat} {a : Nat} (hT : Tried nx K tr) (hno : ∀ j, j < tr.length → ∀ t, ¬ Good nx K all ks a (tr.getD j 0 :: t)) : ∀ t, ¬ Good nx K all ks a t := by
  intro t ht
  cases t with
  | nil => exact ht
  | cons k t =>
    have hk : k < K := by unfold Good at ht; exact ht.1
    obtain ⟨k', hm, hle, he⟩ := hT.all k hk
    obtain ⟨j, hj, e⟩ := List.getElem_of_mem hm
    refine hno j hj t ?_
    rw [show tr.getD j 0 = k' from by simp [List.getD, hj, e]]
    exact ht.same (hT.low k' hm) (he a)

/-- A step that is barred. -/
theorem good_barred {nx : Nat → Nat → Nat} {K all : Nat} {ks : List Nat} {a k : Nat} (h1 : nx k a ∈ ks) (h2 : ¬ (nx k a = 0 ∧ ks.length = all)) : ∀ t, ¬ Good nx K all ks a (k :: t) := by
  intro t ht
  unfold Good at ht
  rcases ht.2 with ⟨_, h3, h4⟩ | ⟨h3, _⟩
  · exact h2 ⟨h3, h4⟩
  · exact h3 h1

/-- Home. -/
theorem good_home {nx : Nat → Nat → Nat} {K all : Nat} {ks : List Nat} {a k : Nat} (hk : k < K) (h1 : nx k a = 0) (h2 : ks.length = all) : Good nx K all ks a [k] ∧ ∀ t, Good nx K all ks a (k :: t) → ¬ Ltl t [] := by
  refine ⟨⟨hk, Or.inl ⟨rfl, h1, h2⟩⟩, fun t _ hl => ?_⟩
  cases t with
  | nil => exact hl
  | cons _ _ => exact hl

theorem good_on {nx : Nat → Nat → Nat} {K all : Nat} {ks : List Nat} {a k : Nat} (h2 : ¬ (nx k a = 0 ∧ ks.length = all)) (t : List Nat) : Good nx K all ks a (k :: t) → Good nx K all (nx k a :: ks) (nx k a) t := by
  intro ht
  unfold Good at ht
  rcases ht.2 with ⟨_, h3, h4⟩ | ⟨_, h3⟩
  · exact absurd ⟨h3, h4⟩ h2
  · exact h3

def nI (l : List Nat) : List Int := l.map (fun (k : Nat) => (k : Int))

theorem nI_len (l : List Nat) : (nI l).length = l.length := by simp [nI]

theorem nI_get (l : List Nat) {i : Nat} (h : i < l.length) : (nI l).getD i 0 = ((l.getD i 0 : Nat) : Int) := by simp [nI, List.getD, h]

end Go.Proofs.YtahffpgadoiijaaGreat

/- The answer's Below only reads; lists of numbers as words. -/
namespace Go.Proofs.YtahffpgadoiijaaGreat
open Go.RowKit

set_option maxRecDepth 20000 in
set_option maxHeartbeats 2000000 in
theorem rbelow_q (v1 v2 : Value) (xs ys : List Int) (w : World) (h1 : Ints w v1 xs) (h2 : Ints w v2 ys) (hl1 : xs.length ≤ 1000000) (hl2 : ys.length ≤ 1000000) :
    Calls Tryz.prog 60 #[v1, v2] w fun e w' => e = .returned (.bool (blw xs ys)) ∧ ∃ m, w' = w.drewN m := by
  obtain ⟨p1, c1, rfl⟩ := h1.form
  obtain ⟨p2, c2, rfl⟩ := h2.form
  have HC1 := hide h1
  have HC2 := hide h2
  clear h1 h2
  go_enter Tryz.func60, Tryz.ntmps60
  go_wp2
  go_loopw [5] (fun i wr => ∃ k : Nat, k ≤ xs.length ∧ k ≤ ys.length ∧ i = .int .i64 k ∧ Hid (blw xs ys = blw (xs.drop k) (ys.drop k)) ∧ ∃ m, wr = w.drewN m) (fun i _ => xs.length - (intOf i).toNat)
  case atStart => exact ⟨0, by omega, by omega, rfl, rfl, 0, rfl⟩
  case round =>
    obtain ⟨k, hk, hk2, rfl, ht, dm, rfl⟩ := hrel
    by_cases hlt : k < xs.length
    · by_cases hlt2 : k < ys.length
      · rcases HC1.out with ⟨rfl, _⟩ | ⟨b, off, cap, hv, h0, hc, hm, hb, hcell⟩
        · simp at hlt
        rcases HC2.out with ⟨rfl, _⟩ | ⟨b2, off2, cap2, hv2, h02, hc2, hm2, hb2, hcell2⟩
        · simp at hlt2
        simp only [Value.slice.injEq] at hv hv2
        obtain ⟨rfl, _, rfl⟩ := hv
        obtain ⟨rfl, _, rfl⟩ := hv2
        obtain ⟨x, hx, hcx⟩ := cellAt hcell hlt
        obtain ⟨y, hy, hcy⟩ := cellAt hcell2 hlt2
        have gx : w.cell? ⟨b, off + k, none⟩ = some (.int .i64 x) := hcx
        have gy : w.cell? ⟨b2, off2 + k, none⟩ = some (.int .i64 y) := hcy
        have HD : Hid (blw xs ys = if x = y then blw (xs.drop (k + 1)) (ys.drop (k + 1)) else decide (x < y)) := by show _ = _; rw [ht.out, drop_cons xs hlt, drop_cons ys hlt2, hx.out, hy.out]; rfl
        clear hcx hcy hcell hcell2 ht hx hy
        by_cases hxy : x = y
        · subst hxy
          have HD' : Hid (blw xs ys = blw (xs.drop (k + 1)) (ys.drop (k + 1))) := by have := HD.out; rw [if_pos rfl] at this; exact this
          clear HD
          go_wp2
          go_region
          all_goals
            go_wp2
            go_roundw
            case rel => exact ⟨k + 1, by omega, by omega, by go_num, HD', by first | exact ⟨_, rfl⟩ | exact ⟨dm + 1, rfl⟩ | exact ⟨dm + 2, rfl⟩⟩
            case measure => simp [intOf]; omega
        · have hne : (x != y) = true := by simpa using hxy
          have HD' : Hid (blw xs ys = decide (x < y)) := by have := HD.out; rw [if_neg hxy] at this; exact this
          clear HD hxy
          go_wp2
          go_region
          all_goals
            go_wp2
            go_region
            all_goals
              go_wp2
              go_ret
              exact ⟨ret_bool HD'.out.symm, by first | exact ⟨_, rfl⟩ | exact ⟨dm + 1, rfl⟩ | exact ⟨dm + 2, rfl⟩⟩
      · have HE : Hid (blw xs ys = decide (xs.length < ys.length)) := by show _ = _; rw [ht.out]; exact blw_end xs ys k (fun h => hlt2 h.2) hk hk2
        go_wp2
        go_ret
        exact ⟨ret_bool (by rw [HE.out]), _, rfl⟩
    · have HE : Hid (blw xs ys = decide (xs.length < ys.length)) := by show _ = _; rw [ht.out]; exact blw_end xs ys k (fun h => hlt h.1) hk hk2
      go_wp2
      go_ret
      exact ⟨ret_bool (by rw [HE.out]), _, rfl⟩

theorem blw_nI : ∀ x y : List Nat, blw (nI x) (nI y) = true ↔ Ltl x y
  | [], [] => by simp [nI, blw, Ltl]
  | [], _ :: _ => by simp [nI, blw, Ltl]
  | _ :: _, [] => by simp [nI, blw, Ltl]
  | a :: x, b :: y => by
    have ih := blw_nI x y
    show (if ((a : Nat) : Int) = ((b : Nat) : Int) then blw (nI x) (nI y) else decide (((a : Nat) : Int) < ((b : Nat) : Int))) = true ↔ (a < b ∨ (a = b ∧ Ltl x y))
    by_cases h : a = b
    · rw [if_pos (by rw [h]), ih]
      constructor
      · exact fun h2 => Or.inr ⟨h, h2⟩
      · rintro (h2 | h2)
        · omega
        · exact h2.2
    · rw [if_neg (by omega), decide_eq_true_iff]
      constructor
      · exact fun h2 => Or.inl (by omega)
      · rintro (h2 | h2)
        · omega
        · exact absurd h2.1 h

end Go.Proofs.YtahffpgadoiijaaGreat

/- Contracts: place.Row, ChangeOf. -/
namespace Go.Proofs.YtahffpgadoiijaaGreat
open Go.RowKit

/-- A row that is changed up to a tile. -/
def Upto (n : Nat) (s : List Bool) (zs : List Int) : Prop := zs.length = n ∧ ∀ j, j < n → zs.getD j 0 = if j < tsz s then (trow s).getD j 0 else (j : Int)

theorem upto_start (n : Nat) : Upto n [] (rnd n) := ⟨rnd_length n, fun j hj => by rw [rnd_get hj, if_neg (by simp [tsz])]⟩

theorem upto_end {n : Nat} {t : List Bool} {zs : List Int} (h : Upto n t zs) (ht : tsz t = n) : zs = trow t :=
  ext_getD (by rw [h.1, trow_length, ht]) (fun j hj => by rw [h.2 j (by rw [← h.1]; exact hj), if_pos (by rw [ht, ← h.1]; exact hj)])

theorem trow_get_old {b : Bool} {s : List Bool} {j : Nat} (h : j < tsz s) : (trow (b :: s)).getD j 0 = (trow s).getD j 0 := by
  have hl : j < (trow s).length := by rw [trow_length]; exact h
  cases b <;> simp only [trow, List.getD] <;> rw [List.getElem?_append_left hl]

theorem trow_get_one (s : List Bool) : (trow (true :: s)).getD (tsz s) 0 = (tsz s : Nat) := by
  simp only [trow, List.getD]; rw [List.getElem?_append_right (by rw [trow_length]; omega), trow_length, Nat.sub_self]; rfl

theorem trow_get_fst (s : List Bool) : (trow (false :: s)).getD (tsz s) 0 = ((tsz s + 1 : Nat) : Int) := by
  simp only [trow, List.getD]; rw [List.getElem?_append_right (by rw [trow_length]; omega), trow_length, Nat.sub_self]; rfl

theorem trow_get_snd (s : List Bool) : (trow (false :: s)).getD (tsz s + 1) 0 = (tsz s : Nat) := by
  simp only [trow, List.getD]; rw [List.getElem?_append_right (by rw [trow_length]; omega), trow_length, show tsz s + 1 - tsz s = 1 from by omega]; rfl

theorem upto_one {n : Nat} {s : List Bool} {zs : List Int} (h : Upto n s zs) : Upto n (true :: s) zs := by
  have e : tsz (true :: s) = tsz s + 1 := rfl
  refine ⟨h.1, fun j hj => ?_⟩
  rw [h.2 j hj]
  by_cases h1 : j < tsz s
  · rw [if_pos h1, if_pos (by omega), trow_get_old h1]
  · by_cases h2 : j = tsz s
    · subst h2; rw [if_neg h1, if_pos (by omega), trow_get_one]
    · rw [if_neg h1, if_neg (by omega)]

theorem upto_two {n : Nat} {s : List Bool} {zs : List Int} (h : Upto n s zs) (hn : tsz s + 2 ≤ n) : Upto n (false :: s) ((zs.set (tsz s) ((tsz s + 1 : Nat) : Int)).set (tsz s + 1) (tsz s : Nat)) := by
  have e : tsz (false :: s) = tsz s + 2 := rfl
  refine ⟨by simp [h.1], fun j hj => ?_⟩
  rw [getD_set (by simp [h.1]; omega), getD_set (by rw [h.1]; omega), h.2 j hj]
  by_cases h1 : tsz s + 1 = j
  · subst h1; rw [if_pos rfl, if_pos (by omega), trow_get_snd]
  · rw [if_neg h1]
    by_cases h2 : tsz s = j
    · subst h2; rw [if_pos rfl, if_pos (by omega), trow_get_fst]
    · rw [if_neg h2]
      by_cases h3 : j < tsz s
      · rw [if_pos h3, if_pos (by omega), trow_get_old h3]
      · rw [if_neg h3, if_neg (by omega)]

theorem upto_at {n : Nat} {s : List Bool} {zs : List Int} (h : Upto n s zs) {j : Nat} (hj : j < n) (hs : tsz s ≤ j) : zs[j]?.getD 0 = (j : Int) := by
  have := h.2 j hj
  rw [if_neg (by omega)] at this
  exact this

end Go.Proofs.YtahffpgadoiijaaGreat

/- Contract: the answer's ChangeMay. -/
namespace Go.Proofs.YtahffpgadoiijaaGreat
open Go.RowKit

end Go.Proofs.YtahffpgadoiijaaGreat

/- Contracts: the answer's isIn and ChangeRow; Check, ChangeMay at every number; Row where it refuses. -/
namespace Go.Proofs.YtahffpgadoiijaaGreat
open Go.RowKit

/-- What Check says at every number of bells. -/
def pc (n : Int) (ps : List Int) : Int := if 1 ≤ n ∧ n ≤ 12 then pck n ps else 1

theorem pc_range (n : Int) (ps : List Int) : pc n ps = 0 ∨ pc n ps = 1 ∨ pc n ps = 6 := by
  unfold pc
  split
  · rcases pck_range n ps with h | h <;> simp [h]
  · simp

theorem cell_two_new (w : World) (x y : Value) (e : TypeId) : ∀ j u, [x, y][j]? = some u → (w.alloc (.cells #[x, y] e)).cell? ((⟨w.heap.size, 0, none⟩ : Addr).add j) = some u := by
  intro j u hj
  have h9 := heap_alloc_new w (.cells #[x, y] e)
  rw [Addr.add_lit]
  match j, hj with
  | 0, hj => simp at hj; subst hj; unfold World.cell?; simp only [h9]; rfl
  | 1, hj => simp at hj; subst hj; unfold World.cell?; simp only [h9]; rfl

def lenOf : Value → Nat
  | .slice _ l _ => l
  | _ => 0

end Go.Proofs.YtahffpgadoiijaaGreat

/- A slice of lists that came in reads as a list of lists. -/
namespace Go.Proofs.YtahffpgadoiijaaGreat
open Go.RowKit Go.ChangeShapes Go.WideShapes

theorem ints_row {w : World} {a : Option Addr} {len cap : Nat} {zs : List Int} (hl : len ≤ cap) (hm : cap ≤ maxLen) (hz : zs.length = cap) (hn : a = none → cap = 0)
    (hc : ∀ x, a = some x → ∀ c, c < cap → w.cell? (x.add c) = some (.int .i64 (zs.getD c 0))) : Ints w (.slice a len cap) (zs.take len) := by
  rcases Nat.eq_zero_or_pos len with h0 | h0
  · subst h0
    exact Or.inl ⟨rfl, a, cap, rfl⟩
  · cases a with
    | none => have := hn rfl; omega
    | some x =>
      obtain ⟨b, off, rfl, hcell⟩ := ints_at (zs := zs) (fun i hi => hc x rfl i (by omega)) (by omega)
      have hlen : (zs.take len).length = len := by rw [List.length_take]; omega
      refine Or.inr ⟨b, off, cap, by rw [hlen], by omega, by omega, by unfold maxLen at hm; omega, ?_, fun j hj => ?_⟩
      · exact World.block_lt_of_cell? w _ (hcell 0 (by omega))
      · rw [hlen] at hj
        rw [hcell j (by omega)]
        simp [List.getD, hj]

theorem rows_all {w : World} {base : Nat} {a : Addr} {len cap : Nat} {A : Nat → Option Addr} {L C : Nat → Nat} {Z : Nat → List Int} (hl : len ≤ cap) (hm : cap ≤ maxLen)
    (h : ∀ r, r < cap → w.cell? (a.add r) = some (.slice (A r) (L r) (C r)) ∧ L r ≤ C r ∧ C r ≤ maxLen ∧ (Z r).length = C r ∧ (∀ n ∈ Z r, (Lit.int .i64 n).wf = true) ∧ (A r = none → C r = 0) ∧
        ∀ a', A r = some a' → base ≤ a'.block ∧ ∀ c, c < C r → w.cell? (a'.add c) = some (.int .i64 ((Z r).getD c 0))) :
    ∃ xss, IntsAll w (.slice (some a) len cap) xss := by
  refine ⟨(List.range len).map (fun r => (Z r).take (L r)), (List.range len).map (fun r => .slice (A r) (L r) (C r)), ?_, by simp, fun j hj => ?_⟩
  · rcases Nat.eq_zero_or_pos len with h0 | h0
    · subst h0
      exact Or.inl ⟨rfl, _, _, rfl⟩
    · obtain ⟨b, off, spot⟩ := a
      have hspot : spot = none := by simpa [Addr.add] using World.cell?_spot (h 0 (by omega)).1
      subst hspot
      refine Or.inr ⟨b, off, cap, by simp, by simpa using h0, by simpa using hl, by unfold maxLen at hm; omega, ?_, fun j hj => ?_⟩
      · exact World.block_lt_of_cell? w _ (h 0 (by omega)).1
      · simp at hj
        rw [← Addr.add_lit, (h j (by omega)).1]
        simp [List.getD, hj]
  · simp at hj
    have e1 : ((List.range len).map (fun r => Value.slice (A r) (L r) (C r))).getD j undef = .slice (A j) (L j) (C j) := by simp [List.getD, hj]
    have e2 : ((List.range len).map (fun r => (Z r).take (L r))).getD j [] = (Z j).take (L j) := by simp [List.getD, hj]
    rw [e1, e2]
    obtain ⟨_, a1, a2, a3, _, a5, a6⟩ := h j (by omega)
    exact ints_row a1 a2 a3 a5 (fun x hx => (a6 x hx).2)

end Go.Proofs.YtahffpgadoiijaaGreat

/- Contract: the answer's From. -/
namespace Go.Proofs.YtahffpgadoiijaaGreat
open Go.RowKit
set_option maxRecDepth 20000
set_option linter.unusedVariables false

/-- A row, changed by the first k changes. -/
def frW (r : List Int) (ts : List (List Bool)) (k : Nat) : List Int := (ts.take k).foldl (fun r t => by_ r (trow t)) r

/-- All rows from one on. -/
def frL (r : List Int) (ts : List (List Bool)) (k : Nat) : List (List Int) := (List.range (k + 1)).map (fun j => frW r ts j)

theorem frL_succ (r : List Int) (ts : List (List Bool)) (k : Nat) : frL r ts (k + 1) = frL r ts k ++ [frW r ts (k + 1)] := by
  unfold frL
  rw [List.range_succ (n := k + 1), List.map_append]
  rfl

theorem frL_length (r : List Int) (ts : List (List Bool)) (k : Nat) : (frL r ts k).length = k + 1 := by simp [frL]

theorem frW_succ {r : List Int} {ts : List (List Bool)} {k : Nat} (h : k < ts.length) : frW r ts (k + 1) = by_ (frW r ts k) (trow ts[k]) := by
  unfold frW
  rw [List.take_succ_eq_append_getElem h, List.foldl_append]
  rfl

theorem frW_row {r : List Int} {n : Nat} {ts : List (List Bool)} (hr : isRow r) (hn : r.length = n) (hts : ∀ t, t ∈ ts → tsz t = n) (k : Nat) : isRow (frW r ts k) ∧ (frW r ts k).length = n := by
  unfold frW
  have : ∀ (l : List (List Bool)) (x : List Int), isRow x → x.length = n → (∀ t, t ∈ l → tsz t = n) → isRow (l.foldl (fun r t => by_ r (trow t)) x) ∧ (l.foldl (fun r t => by_ r (trow t)) x).length = n := by
    intro l
    induction l with
    | nil => intro x h1 h2 _; exact ⟨h1, h2⟩
    | cons t l ih =>
      intro x h1 h2 h3
      have ht := h3 t (by simp)
      have hl : (trow t).length = n := by rw [trow_length]; exact ht
      exact ih (by_ x (trow t)) (isRow_by h1 (trow_row t) (by rw [hl, h2])) (by rw [by_length, hl]) (fun u hu => h3 u (List.mem_cons_of_mem _ hu))
  exact this _ r hr hn (fun t ht => hts t (List.mem_of_mem_take ht))

end Go.Proofs.YtahffpgadoiijaaGreat

/- append of what came in. -/
namespace Go.Proofs.YtahffpgadoiijaaGreat
open Go.RowKit

theorem run_append_none {P : Program} (w : World) (t ty e : TypeId) (i : TypeInfo) (ht : P.underlying t = some (.slice e)) (hi : P.info? e = some i) (a : Addr) (n cap : Nat) (hn : n ≤ cap) (p : Option Addr) (c : Nat) :
    (Builtin.append_ #[t, t] ty #[.slice (some a) n cap, .slice p 0 c]).run P w = .ok (.slice (some a) n cap) w := by
  cases p <;> simp [Builtin.append_, run_underlying ht, sizeOf, typeInfo, hi, Builtin.lenOf, Builtin.firstCells, loadCells, loadCellsFrom, hn, storeCells]

theorem run_append_nil_none {P : Program} (w : World) (t ty e : TypeId) (i : TypeInfo) (ht : P.underlying t = some (.slice e)) (hi : P.info? e = some i) (p : Option Addr) (c : Nat) :
    (Builtin.append_ #[t, t] ty #[.slice none 0 0, .slice p 0 c]).run P w = .ok (.slice none 0 0) w := by
  cases p <;> simp [Builtin.append_, run_underlying ht, sizeOf, typeInfo, hi, Builtin.lenOf, Builtin.firstCells, loadCells, loadCellsFrom]

/-- 'append(a, b...)': a owned, b whatever came in. -/
theorem wpList_append_vals {P : Program} {w : World} {ops : Array Oper} {rest : List Oper} {o : Oper} {a : Act} {Q : Exit → Act → World → Prop} (hgd : o.guard = none) (s x : Operand) (t : TypeId)
    (ho : o.op = .call { callee := .builtin .append, args := #[s, x], argTypes := #[t, t] })
    (base : Nat) (e : TypeId) (i : TypeInfo) (z : Value) (bytes : Nat) (ht : P.underlying t = some (.slice e)) (hi : P.info? e = some i) (hz : i.zero = some z)
    (hsize : i.size = 1) (hby : i.bytes = bytes) (hzs : z.cells.size = 1)
    (v : Value) (n : Nat) (xs : List Value) (hs : a.eval s = v) (hown : w.ownsRow base e 1 v n xs)
    (u : Value) (news : List Value) (hx : a.eval x = u) (hsrc : Vals w u news) (h1 : ∀ u ∈ news, u.oneCell' = true)
    (h63 : n + news.length ≤ maxLen) (hbytes : (n + news.length) * bytes ≤ 140737488355328) (hbase : base ≤ w.heap.size)
    (h : ∀ v' w', w'.ownsRow base e 1 v' (n + news.length) (xs ++ news) → w.grownBy w' v.ownBlock → wpList P ops Q rest (a.put o.dst v') w') :
    wpList P ops Q (o :: rest) a w := by
  rcases hsrc with ⟨rfl, p, c, rfl⟩ | ⟨b, off, cap, rfl, h0, hc, hm, hb, hcell⟩
  · rw [List.length_nil, Nat.add_zero, List.append_nil] at h
    have hr : w.grownBy w v.ownBlock := ⟨rfl, rfl, rfl, Nat.le_refl _, fun _ _ _ => rfl⟩
    rcases hown.2 with ⟨rfl, rfl⟩ | ⟨g2, cap2, cur2, rfl, _, _, hnc2, _⟩
    · refine wpList_plain hgd fun K hK => ?_
      have hrun := run_append_nil_none (P := P) w t o.type e i ht hi p c
      unfold Oper.wp execOp
      simp only [ho, resolve, invoke, builtin, Sem.run_bind, Sem.run_pure, Result.andThen_ok, List.map_toArray, List.map_cons, List.map_nil, hs, hx, hrun]
      exact hK _ _ (h _ _ hown hr)
    · refine wpList_plain hgd fun K hK => ?_
      have hrun := run_append_none (P := P) w t o.type e i ht hi ⟨g2, 0, none⟩ n cap2 hnc2 p c
      unfold Oper.wp execOp
      simp only [ho, resolve, invoke, builtin, Sem.run_bind, Sem.run_pure, Result.andThen_ok, List.map_toArray, List.map_cons, List.map_nil, hs, hx, hrun]
      exact hK _ _ (h _ _ hown hr)
  · refine wpList_append_own w hgd s x t ho base e i z 1 bytes ht hi hz hsize hby hzs (by decide) v n xs hs hown ⟨b, off, none⟩ news.length cap news hx (by omega) (fun j u hu => ?_) h1 h63 hbytes hbase ?_
    · have hj := (List.getElem?_eq_some_iff.1 hu).1
      have := hcell j hj
      rw [List.getD_eq_getElem?_getD, hu] at this
      by_cases h0j : j = 0
      · subst h0j; simpa [Addr.add] using this
      · simpa [Addr.add, h0j] using this
    · intro v' w' h2 h3 _
      exact h v' w' h2 h3

theorem vals_cells {w : World} {vs : List Value} {xss : List (List Int)} (hl : vs.length = xss.length) (hi : ∀ j, j < xss.length → Ints w (vs.getD j undef) (xss.getD j [])) : ∀ u ∈ vs, u.oneCell' = true := by
  intro u hu
  obtain ⟨j, hj, rfl⟩ := List.getElem_of_mem hu
  obtain ⟨p, c, e⟩ := (hi j (by omega)).form
  rw [List.getD_eq_getElem?_getD, List.getElem?_eq_getElem hj, Option.getD_some] at e
  rw [e]
  rfl

theorem ints_join {w : World} {us vs : List Value} {xa xb : List (List Int)} (hl : us.length = xa.length) (hi : ∀ j, j < xa.length → Ints w (us.getD j undef) (xa.getD j [])) (hi2 : ∀ j, j < xb.length → Ints w (vs.getD j undef) (xb.getD j [])) :
    ∀ j, j < (xa ++ xb).length → Ints w ((us ++ vs).getD j undef) ((xa ++ xb).getD j []) := by
  intro j hj
  rw [List.length_append] at hj
  simp only [List.getD_eq_getElem?_getD]
  by_cases h : j < xa.length
  · rw [List.getElem?_append_left (by omega), List.getElem?_append_left h]
    simpa [List.getD_eq_getElem?_getD] using hi j h
  · rw [List.getElem?_append_right (by omega), List.getElem?_append_right (by omega), hl]
    simpa [List.getD_eq_getElem?_getD] using hi2 (j - xa.length) (by omega)

end Go.Proofs.YtahffpgadoiijaaGreat

/- Contract: slices.Grow of lists of lists, from nothing. -/
namespace Go.Proofs.YtahffpgadoiijaaGreat
open Go.RowKit Go.Lib

end Go.Proofs.YtahffpgadoiijaaGreat

/- Contract: slices.Concat of two lists of lists. -/
namespace Go.Proofs.YtahffpgadoiijaaGreat
open Go.RowKit

end Go.Proofs.YtahffpgadoiijaaGreat

/- Arrays of twelve ints: loads, stores, results (as Arr has it for int8). -/
namespace Go.Proofs.YtahffpgadoiijaaGreat
open Go.RowKit

/-- Numbers as the cells of an array of ints. -/
def i64s (zs : List Int) : Array Value := (zs.map (Value.int .i64)).toArray

theorem i64s_size (zs : List Int) : (i64s zs).size = zs.length := by simp [i64s]

theorem i64s_get {zs : List Int} {j : Nat} (h : j < zs.length) : (i64s zs)[j]? = some (.int .i64 (zs.getD j 0)) := by
  simp [i64s, List.getD, h]

theorem i64s_one (zs : List Int) : (i64s zs).all (·.oneCell') = true := by
  rw [Array.all_eq_true_iff_forall_mem]
  intro v hv
  simp [i64s] at hv
  obtain ⟨a, _, rfl⟩ := hv
  rfl

theorem i64s_set (zs : List Int) (k : Nat) (y : Int) : (i64s zs).setIfInBounds k (.int .i64 y) = i64s (zs.set k y) := by
  apply Array.toList_inj.1
  simp [i64s]

def zerosK : List Int := [0, 0, 0, 0, 0, 0, 0, 0, 0, 0, 0, 0]

end Go.Proofs.YtahffpgadoiijaaGreat

/- Plain: the rows that lead from rows to rows. -/
namespace Go.Proofs.YtahffpgadoiijaaGreat
open Go.RowKit

/-- What undoes a row. -/
def un (r : List Int) : List Int := (List.range r.length).map (fun (i : Nat) => ((((List.range r.length).find? (fun j => r.getD j 0 == (i : Int))).getD 0 : Nat) : Int))

theorem un_undoes {r : List Int} (hr : isRow r) : Undoes (un r) r := by
  refine ⟨by simp [un], fun j hj => ?_⟩
  have h1 := hr.at hj
  obtain ⟨m, hm⟩ := Int.eq_ofNat_of_zero_le h1.1
  have hm2 : m < r.length := by omega
  rw [hm, Int.toNat_natCast]
  have e : (un r).getD m 0 = ((((List.range r.length).find? (fun j => r.getD j 0 == (m : Int))).getD 0 : Nat) : Int) := by
    simp [un, List.getD, hm2]
  rw [e]
  cases hf : (List.range r.length).find? (fun j => r.getD j 0 == (m : Int)) with
  | none =>
    have := List.find?_eq_none.1 hf j (List.mem_range.2 hj)
    simp only [beq_iff_eq] at this
    exact absurd hm this
  | some j' =>
    have h2 := List.find?_some hf
    have h3 := List.mem_range.1 (List.mem_of_find?_eq_some hf)
    simp only [beq_iff_eq] at h2
    have := hr.inj h3 hj (by rw [h2]; exact hm.symm)
    rw [this]
    rfl

theorem undoes_un {zs r : List Int} (hr : isRow r) (h : Undoes zs r) : zs = un r := by
  have hu := un_undoes hr
  refine List.ext_getElem (by rw [h.1, hu.1]) (fun i h1 h2 => ?_)
  have hi : i < r.length := by rw [← h.1]; exact h1
  obtain ⟨j, hj, e⟩ := isRow_onto hr hi
  have a1 := h.2 j hj
  have a2 := hu.2 j hj
  rw [e, Int.toNat_natCast] at a1 a2
  simp only [List.getD, List.getElem?_eq_getElem h1, List.getElem?_eq_getElem h2, Option.getD_some] at a1 a2
  rw [a1, a2]

structure Rw (n : Nat) (r : List Int) : Prop where
  row : isRow r
  len : r.length = n

theorem Rw.un {n : Nat} {r : List Int} (h : Rw n r) : Rw n (un r) := ⟨isRow_undoes h.row (un_undoes h.row), by rw [(un_undoes h.row).1, h.len]⟩

theorem Rw.by {n : Nat} {a b : List Int} (ha : Rw n a) (hb : Rw n b) : Rw n (by_ a b) := ⟨isRow_by ha.row hb.row (by rw [ha.len, hb.len]), by rw [by_length, hb.len]⟩

theorem Rw.rnd (n : Nat) : Rw n (rnd n) := ⟨isRow_rnd n, rnd_length n⟩

theorem Rw.pad_un {n : Nat} (h12 : n ≤ 12) {r : List Int} (h : Rw n r) : pad (Go.Proofs.YtahffpgadoiijaaGreat.un r) = (pad r)⁻¹ := pad_undoes (by rw [h.len]; exact h12) h.row (un_undoes h.row)

theorem Rw.pad_by {n : Nat} (h12 : n ≤ 12) {a b : List Int} (ha : Rw n a) (hb : Rw n b) : pad (by_ a b) = pad a * pad b := Go.Proofs.YtahffpgadoiijaaGreat.pad_by (by rw [ha.len]; exact h12) ha.row hb.row (by rw [ha.len, hb.len])

theorem Rw.eq {n : Nat} (h12 : n ≤ 12) {a b : List Int} (ha : Rw n a) (hb : Rw n b) (h : pad a = pad b) : a = b := pad_inj (by rw [ha.len]; exact h12) ha.row hb.row (by rw [ha.len, hb.len]) h

/-- All rows that make one of another. -/
def pr (L : List (List Int)) : List (List Int) := L.flatMap (fun one => L.map (fun other => by_ other (un one)))

def stp1 (n : Nat) (acc : List (List Int)) (h : List Int) : List (List Int) := if h = rnd n ∨ h ∈ acc then acc else acc ++ [h]

def hdsTo (n : Nat) (ps : List (List Int)) : List (List Int) := ps.foldl (stp1 n) []

theorem hdsTo_snoc (n : Nat) (ps : List (List Int)) (h : List Int) : hdsTo n (ps ++ [h]) = stp1 n (hdsTo n ps) h := by simp [hdsTo, List.foldl_append]

theorem snoc_ind {α : Type} {p : List α → Prop} (h0 : p []) (h1 : ∀ l x, p l → p (l ++ [x])) (l : List α) : p l := by
  have key : ∀ r : List α, p r.reverse := fun r => by
    induction r with
    | nil => simpa using h0
    | cons x r ih => rw [List.reverse_cons]; exact h1 _ _ ih
  have := key l.reverse
  rwa [List.reverse_reverse] at this

theorem sum_const {α : Type} (c : Nat) : ∀ l : List α, (l.map (fun _ => c)).sum = l.length * c
  | [] => by simp
  | _ :: l => by rw [List.map_cons, List.sum_cons, sum_const c l, List.length_cons, Nat.succ_mul]; omega

theorem hdsTo_fact (n : Nat) (ps : List (List Int)) : (hdsTo n ps).Nodup ∧ (∀ h, h ∈ hdsTo n ps ↔ h ∈ ps ∧ h ≠ rnd n) ∧ (hdsTo n ps).length ≤ ps.length := by
  refine snoc_ind (p := fun ps => (hdsTo n ps).Nodup ∧ (∀ h, h ∈ hdsTo n ps ↔ h ∈ ps ∧ h ≠ rnd n) ∧ (hdsTo n ps).length ≤ ps.length) ?_ ?_ ps
  · exact ⟨by simp [hdsTo], by simp [hdsTo], by simp [hdsTo]⟩
  · intro ps x ih
    obtain ⟨a1, a2, a3⟩ := ih
    rw [hdsTo_snoc]
    unfold stp1
    by_cases hx : x = rnd n ∨ x ∈ hdsTo n ps
    · rw [if_pos hx]
      refine ⟨a1, fun h => ?_, by rw [List.length_append]; exact Nat.le_trans a3 (Nat.le_add_right _ _)⟩
      rw [a2 h, List.mem_append, List.mem_singleton]
      constructor
      · exact fun ⟨b1, b2⟩ => ⟨Or.inl b1, b2⟩
      · rintro ⟨b1 | rfl, b2⟩
        · exact ⟨b1, b2⟩
        · exact (a2 h).1 (hx.resolve_left b2)
    · rw [if_neg hx]
      have hx1 : x ≠ rnd n := fun e => hx (Or.inl e)
      have hx2 : x ∉ hdsTo n ps := fun e => hx (Or.inr e)
      refine ⟨List.nodup_append.2 ⟨a1, by simp, fun a ha b hb => by simp at hb; subst hb; exact fun e => hx2 (e ▸ ha)⟩, fun h => ?_, by simp; exact a3⟩
      rw [List.mem_append, a2 h, List.mem_append, List.mem_singleton]
      constructor
      · rintro (⟨b1, b2⟩ | rfl)
        · exact ⟨Or.inl b1, b2⟩
        · exact ⟨Or.inr rfl, hx1⟩
      · rintro ⟨b1 | rfl, b2⟩
        · exact Or.inl ⟨b1, b2⟩
        · exact Or.inr rfl

theorem pr_mem {L : List (List Int)} {h : List Int} : h ∈ pr L ↔ ∃ one, one ∈ L ∧ ∃ other, other ∈ L ∧ by_ other (un one) = h := by
  simp [pr, List.mem_flatMap, List.mem_map]

theorem pr_rows {n : Nat} {L : List (List Int)} (hL : ∀ r, r ∈ L → Rw n r) : ∀ h, h ∈ pr L → Rw n h := by
  intro h hh
  obtain ⟨one, h1, other, h2, rfl⟩ := pr_mem.1 hh
  exact (hL _ h2).by (hL _ h1).un

theorem pr_un {n : Nat} (h12 : n ≤ 12) {L : List (List Int)} (hL : ∀ r, r ∈ L → Rw n r) {h : List Int} (hh : h ∈ pr L) : un h ∈ pr L := by
  obtain ⟨one, h1, other, h2, rfl⟩ := pr_mem.1 hh
  refine pr_mem.2 ⟨other, h2, one, h1, ?_⟩
  have r1 := hL _ h1
  have r2 := hL _ h2
  refine Rw.eq h12 (r1.by r2.un) (r2.by r1.un).un ?_
  rw [(r2.by r1.un).pad_un h12, r1.pad_by h12 r2.un, r2.pad_by h12 r1.un, r1.pad_un h12, r2.pad_un h12, Pm.inv_prod, Pm.inv_inv]

theorem un_rnd {n : Nat} (h12 : n ≤ 12) {h : List Int} (hr : Rw n h) (e : un h = rnd n) : h = rnd n := by
  refine Rw.eq h12 hr (Rw.rnd n) ?_
  have := hr.pad_un h12
  rw [e, pad_rnd h12] at this
  rw [pad_rnd h12, ← Pm.inv_inv (pad h), ← this, Pm.inv_one]

theorem pr_length (L : List (List Int)) : (pr L).length = L.length * L.length := by
  unfold pr
  rw [List.length_flatMap]
  simp only [List.length_map]
  exact sum_const _ L

/-- The false heads of the rows of a lead. -/
def hds (n : Nat) (L : List (List Int)) : List (List Int) := hdsTo n (pr L)

end Go.Proofs.YtahffpgadoiijaaGreat
