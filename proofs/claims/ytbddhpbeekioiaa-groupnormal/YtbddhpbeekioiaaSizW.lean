/- Contract: Sizes, the answer's own: the walk. -/
import Derived.Test.YtbddhpbeekioiaaSiz
import Derived.Test.YtbddhpbeekioiaaClos
namespace Go.Proofs.Ytbddhpbeekioiaa
open Go.RowKit

set_option maxRecDepth 20000 in
set_option maxHeartbeats 8000000 in
theorem sizes_ok (n : Nat) (v : Value) (xss : List (List Int)) (w : World) (h : IntsAll w v xss) (hr : RowsN n xss) (h1 : 1 ≤ n) (h12 : n ≤ 12) (hx : xss.length ≤ 144) :
    Calls Try.prog 35 #[.int .i64 n, v] w fun e w' => e = .returned (.int .i64 ((sz (Gen (fun y => y ∈ xss.map pad)) n : Nat) : Int)) ∧ Below w.heap.size w w' := by
  obtain ⟨i0, hi, hz0, hz1, hz2⟩ := info_parts Try.info22
  obtain ⟨j0, hji, hjz0, hjz1, hjz2⟩ := info_parts Try.info3
  obtain ⟨G, hG⟩ : ∃ G, G = Gen (fun y => y ∈ xss.map pad) := ⟨_, rfl⟩
  have HG0 := hide hG
  have HA := hide h
  have HR := hide hr
  rw [← hG]
  clear h hr hG
  go_enter Try.func35, Try.ntmps35
  go_wp2
  go_loopw [1, 5, 6] (fun u1 u5 u6 wr => ∃ (k : Nat) (gss : List (List Int)), k ≤ n ∧ u6 = .int .i64 k ∧ u5 = .int .i64 ((sz G k : Nat) : Int) ∧ Hid (IntsAll wr u1 gss) ∧ Hid (RowsN n gss) ∧ gss.length ≤ 144 ∧ Hid (∀ x, Gen (fun y => y ∈ gss.map pad) x ↔ Low G k x) ∧ Below w.heap.size w wr) (fun _ _ u6 _ => n - (intOf u6).toNat)
  case atStart => exact ⟨0, xss, by omega, rfl, rfl, HA, HR, hx, fun x => by rw [HG0.out]; exact ⟨fun h => ⟨h, fun b hb => by omega⟩, fun h => h.1⟩, Below.refl _ _⟩
  case round =>
    clear HA HR
    obtain ⟨k, gss, hk, rfl, rfl, HA, HR, hgl, HGL, hbw⟩ := hrel
    have hbs := hbw.size
    have hszk := sz_le G k
    have hpow : 12 ^ k ≤ 12 ^ 12 := Nat.pow_le_pow_right (by omega) (by omega)
    have hsz2 : sz G k ≤ 8916100448256 := Nat.le_trans hszk (Nat.le_trans hpow (by decide))
    clear hszk hpow
    by_cases hlt : k < n
    · obtain ⟨p0, cap0, rfl⟩ : ∃ p c, u1 = .slice p gss.length c := by
        obtain ⟨vs, hv, hl, _⟩ := HA.out
        obtain ⟨p, c, e⟩ := hv.form
        exact ⟨p, c, by rw [e, hl]⟩
      obtain ⟨wa, hwa⟩ : ∃ wa : World, wa = wr := ⟨_, rfl⟩
      subst hwa
      go_wp2_with fail
      refine (rrounds_ok n _ (by omega)).mono ?_
      rintro ex w1 ⟨u0, rfl, ho, hb1⟩
      obtain ⟨g0, c0, rfl, hg0a, hg0b, _, _⟩ := owns_form ho h1
      have hsa : (wa.alloc (.cells #[.int .i64 (k : Int)] 3)).heap.size = wa.heap.size + 1 := by simp
      rw [hsa] at ho hb1
      have hs1 : wa.heap.size + 1 ≤ w1.heap.size := by have := hb1.size; rw [hsa] at this; exact this
      have HO := hide ho
      have HB1 := hide hb1
      clear ho hb1 hsa hg0a hg0b
      go_wp2_with (at_make; refine wpList_make_full _ rfl _ _ 22 rfl wa.heap.size 3 j0 (.int .i64 0) 1 Try.underlying22 hji hjz0 hjz1 _ _ _ _ n rfl rfl (by omega) (by omega) ?b2 ?b3 ?b4 ?_)
      case b2 => rw [hjz2]; omega
      case b3 => unfold maxLen; omega
      case b4 => simp; omega
      intro w2 hown2 hg2
      rw [made_ints] at hown2
      have hS0 := (SRel.start h12 HO.out HB1.out hown2 hg2).mark k 1
      obtain ⟨y0, hy0, hcy0, hfy0⟩ := owns_cellAt hown2 hlt
      have HS0 := hide hS0
      clear hown2 hg2 hS0 hy0 HO HB1
      go_wp2
      generalize w1.heap.size + 1 = gw at *
      clear hs1 hcy0 hfy0
      go_loopw [7, 8, 11] (fun u7 u8 u11 wr => ∃ (i : Nat) (wh : List Int) (vs : List Value) (T : List (Nat × Pm)), i ≤ T.length ∧ u11 = .int .i64 i ∧ Hid (SRel wa wr n gw u7 u8 wh vs (T.map (·.1)) (T.map (·.2))) ∧ Hid (WhereOk n T wh) ∧ Hid (Orbs (fun y => y ∈ gss.map pad) n k T) ∧ Hid (OrbTo gss T i 0)) (fun _ _ u11 _ => n - (intOf u11).toNat)
      case atStart => exact ⟨0, _, _, [(k, 1)], by omega, rfl, HS0, WhereOk.start hlt, Orbs.start hlt, OrbTo.start _ _⟩
      case round =>
        clear HS0
        obtain ⟨i, wh, vs, T, hiT, rfl, HS, HW, HO, HOT⟩ := hrel
        have hTl := HO.out.len
        have hT1 : 1 ≤ T.length := List.length_pos_of_mem HO.out.first
        have hsp := HS.out.spots
        rw [List.length_map] at hsp
        obtain ⟨gs, cs, rfl, hgsa, hgsb, hcsa, hcsb⟩ := owns_form hsp hT1
        by_cases hit : i < T.length
        · clear hsp
          go_wp2
          go_loopw [7, 8, 12] (fun u7 u8 u12 wr => ∃ (j : Nat) (wh : List Int) (vs : List Value) (T : List (Nat × Pm)), j ≤ gss.length ∧ u12 = .int .i64 j ∧ i < T.length ∧ Hid (SRel wa wr n gw u7 u8 wh vs (T.map (·.1)) (T.map (·.2))) ∧ Hid (WhereOk n T wh) ∧ Hid (Orbs (fun y => y ∈ gss.map pad) n k T) ∧ Hid (OrbTo gss T i j)) (fun _ _ u12 _ => gss.length - (intOf u12).toNat)
          case atStart => exact ⟨0, _, _, T, by omega, rfl, hit, HS, HW, HO, HOT⟩
          case round =>
            clear HS HW HO HOT hTl hT1 hgsa hgsb hcsa hcsb hit hiT
            obtain ⟨j, wh, vs, T, hj, rfl, hit, HS, HW, HO, HOT⟩ := hrel
            have hTl := HO.out.len
            have hsp := HS.out.spots
            rw [List.length_map] at hsp
            obtain ⟨gs, cs, rfl, hgsa, hgsb, hcsa, hcsb⟩ := owns_form hsp (by omega)
            have hrw := HS.out.rows
            rw [List.length_map] at hrw
            obtain ⟨gr, cr, rfl, hgra, hgrb, hcra, hcrb⟩ := owns_form hrw (by omega)
            have hba := HS.out.below
            have hbas := hba.size
            by_cases hjl : j < gss.length
            · obtain ⟨X, hX⟩ : ∃ X, gss[j]? = some X := ⟨_, List.getElem?_eq_getElem hjl⟩
              obtain ⟨e, he⟩ : ∃ e, T[i]? = some e := ⟨_, List.getElem?_eq_getElem hit⟩
              have hXm := List.mem_of_getElem? hX
              have hem := List.mem_of_getElem? he
              have hXr := HR.out X hXm
              have hel := HO.out.lt e hem
              obtain ⟨b0, o0, hpp, hb0a, hNc, _, _⟩ := HA.out.nth hX hXr.2 h1
              subst hpp
              obtain ⟨b0', o0', hpp', hb0, _, _, bx, ox, cx, hcx, hix, hbx, hncx, hXc⟩ := (HA.out.below hba).nth hX hXr.2 h1
              injection hpp' with hpp'
              injection hpp' with hp1 hp2
              subst hp1; subst hp2
              have hqd := pad_getD hXr.1 hXr.2 h12 hel
              have hqa := hXr.1.at (j := e.1) (by rw [hXr.2]; exact hel)
              rw [hqd, hXr.2] at hqa
              have hXe := hXc.out e.1 hel
              rw [hqd] at hXe
              obtain ⟨q, hqe⟩ : ∃ q, (pad X).act e.1 = q := ⟨_, rfl⟩
              rw [hqe] at hXe hqa
              have hqn : q < n := by omega
              have hce := nums_at hsp (i := i) (b := e.1) (by rw [List.getElem?_map, he]; rfl)
              have hER : ((T.map (·.2)).map (cut n))[i]? = some (cut n e.2) := by rw [List.getElem?_map, List.getElem?_map, he]; rfl
              obtain ⟨ue, hcr, hoe⟩ := word_at hrw HS.out.rowsAt hER (by rw [List.length_map, List.length_map])
              rw [cut_length h12] at hoe
              obtain ⟨ge, ce, rfl, hgea, hgeb, hcea, hceb⟩ := owns_form hoe h1
              obtain ⟨y, hy, hcy, hfy⟩ := owns_cellAt HS.out.wher hqn
              have hnx : Fixes (fun b => n ≤ b) (pad X) := pad_fixes h12 hXr.2 hXr.1
              have hef : Fixes (fun b => n ≤ b) e.2 := (HO.out.gen e hem).least (fixes_sub _) (fun s hs => by
                obtain ⟨Z, hZ, rfl⟩ := List.mem_map.1 hs
                exact pad_fixes h12 (HR.out Z hZ).2 (HR.out Z hZ).1)
              have HOE := hide hoe
              have HX := hide hX
              have HE := hide he
              have HEM := hide hem
              have HXM := hide hXm
              have HXR := hide hXr
              have HQ := hide hqe
              have HXF := hide hnx
              have HEF := hide hef
              clear hX he hXm hem hXr hqe hqd hqa hsp hrw hoe hER hXc hnx hef
              go_wp2
              go_quiet (fail)
              have hbd := below_drewN wr nq
              have hS2 := HS.out.later hbd
              have HS2 := hide hS2
              have HIX := hide (hix.out.below hbd)
              have HOE2 := hide (owns_below HOE.out hbd (Nat.le_refl _))
              have hcy2 : (wr.drewN nq).cell? ⟨gw, q, none⟩ = some (.int .i64 y) := hcy
              have hfy2 : (wr.drewN nq).frozen? ⟨gw, q, none⟩ = false := hfy
              have hcx2 : (wr.drewN nq).cell? ⟨b0, o0 + j, none⟩ = some (.slice (some ⟨bx, ox, none⟩) n cx) := hcx
              have hcr2 : (wr.drewN nq).cell? ⟨gr, i, none⟩ = some (.slice (some ⟨ge, 0, none⟩) n ce) := hcr
              have HSZD : Hid ((wr.drewN nq).heap.size = wr.heap.size) := rfl
              clear hcy hfy hcx hcr hce hXe HS hix hbd hS2 HOE hba
              generalize wr.drewN nq = wd at *
              by_cases hin : q ∈ T.map (·.1)
              · have hyn : (y == 0) = false := by
                  rcases HW.out.2 q hqn with ⟨_, h2⟩ | ⟨i', e', _, _, h3⟩
                  · exact absurd hin h2
                  · rw [show wh.getD q 0 = y from hy.out] at h3
                    rw [h3, beq_eq_false_iff_ne]; omega
                have HOT2 := hide (HOT.out.old HE.out HX.out (by rw [HQ.out]; exact hin))
                clear hin hy
                go_wp2
                go_roundw
                case rel => exact ⟨j + 1, _, _, T, by omega, by go_num, hit, HS2, HW, HO, HOT2⟩
                case measure => simp [intOf]; omega
              · have hy0 : y = 0 := by
                  rcases HW.out.2 q hqn with ⟨h2, _⟩ | ⟨i', e', h3, h4, _⟩
                  · rw [show wh.getD q 0 = y from hy.out] at h2; exact h2
                  · exact absurd (List.mem_map.2 ⟨e', List.mem_of_getElem? h3, h4⟩) hin
                subst hy0
                have HIN := hide hin
                have HSM := hide (HS2.out.mark q ((T.length : Int) + 1))
                have HWM := hide (HW.out.more hqn (pad X * e.2))
                have hspm := (HSM.out.alloc (.cells #[.int .i64 (q : Int)] 3)).spots
                rw [List.length_map] at hspm
                have HSP := hide hspm
                have hbm := HSM.out.below.size
                clear hspm hin hy HIX HOE2 hcx2 hcr2
                go_wp2_with (at_builtin; refine wpList_append_keep _ rfl _ _ 22 rfl wa.heap.size 3 j0 (.int .i64 0) 1 8 Try.underlying22 hji hjz0 hjz1 hjz2 rfl (by decide) _ T.length _ rfl HSP.out _ 1 1 [.int .i64 (q : Int)] rfl rfl ?c1 ?c2 ?c3 ?c4 ?c5 ?_)
                case c1 =>
                  have hc := cell_one_new (wd.setCell ⟨gw, q, none⟩ (.int .i64 ((T.length : Int) + 1))) (.int .i64 (q : Int)) 3
                  have ez : (wd.setCell ⟨gw, q, none⟩ (.int .i64 ((T.length : Int) + 1))).heap.size = wd.heap.size := by simp
                  rw [ez] at hc
                  exact hc
                case c2 => intro u hu; simp at hu; subst hu; rfl
                case c3 => unfold maxLen; omega
                case c4 => omega
                case c5 => simp; have := HSZD.out; omega
                intro v5 w5 hown5 hg5 hp5
                have hS5 := (HSM.out.alloc (.cells #[.int .i64 (q : Int)] 3)).spot (q := q) (by rw [List.length_map]; exact hown5) hg5 (hp5.imp id (fun h => ⟨by rw [h.1]; simp, h.2⟩))
                have hba5 := hS5.below
                have hs5 := hba5.size
                obtain ⟨b0', o0', hpp', hb0', _, _, bx2, ox2, cx2, hcx5, hix5, hbx2, _, _⟩ := (HA.out.below hba5).nth HX.out HXR.out.2 h1
                injection hpp' with hpp'
                injection hpp' with hp1 hp2
                subst hp1; subst hp2
                have hrw5 := hS5.rows
                rw [List.length_map] at hrw5
                have hgr5 := (hrw5.lt gr rfl).2
                obtain ⟨ue2, hcr5, hoe5⟩ := word_at hrw5 hS5.rowsAt (i := i) (X := cut n e.2) (by rw [List.getElem?_map, List.getElem?_map, HE.out]; rfl) (by rw [List.length_map, List.length_map])
                rw [cut_length h12] at hoe5
                obtain ⟨ge2, ce2, rfl, _, hge5, _, _⟩ := owns_form hoe5 h1
                have hgw5 := (hS5.wher.lt gw rfl).2
                have hcl := cut_length h12 e.2
                have hbyE : by_ X (cut n e.2) = cut n (pad X * e.2) := by
                  have := by_cut h12 HXF.out (cut_row h12 HEF.out) hcl
                  rw [cut_pad h12 HXR.out.2 HXR.out.1, pad_cut h12 HEF.out] at this
                  exact this
                have HBY := hide (rby_own (.slice (some ⟨bx2, ox2, none⟩) n cx2) (.slice (some ⟨ge2, 0, none⟩) n ce2) X (cut n e.2) w5.drew (hix5.out.below (below_drew w5)) ((Ints.own hoe5).below (below_drew w5)) (fun j hj => by have := (cut_row h12 HEF.out).at (j := j) hj; rw [hcl] at this; rw [HXR.out.2]; exact this) (by rw [HXR.out.2]; exact h1) (by rw [hcl]; omega))
                rw [hbyE, hcl] at HBY
                have HS5 := hide hS5
                have hV5 : v5.ownBlock ≠ none := by
                  obtain ⟨b, hb⟩ := ownsRow_block hown5 (by omega)
                  rw [hb]; simp
                have hv5l : ∀ b, v5.ownBlock = some b → b < w5.heap.size := fun b hb => (hown5.lt b hb).2
                have HV5 := hide hv5l
                clear hown5 hg5 hp5 hS5 hba5 hrw5 hoe5 hix5 hbyE HSP HSM hV5 hv5l
                go_wp2
                refine wp_region_held_drew (S := fun W' => W'.cell? ⟨b0, o0 + j, none⟩ = some (.slice (some ⟨bx2, ox2, none⟩) n cx2) ∧ W'.cell? ⟨gr, i, none⟩ = some (.slice (some ⟨ge2, 0, none⟩) n ce2)) (by kernel_rfl) ⟨hcx5, hcr5⟩ (fun hS => ?_)
                refine wpAnyH_take (i := 0) (v := .slice (some ⟨gr, 0, none⟩) T.length cr) rfl (by kernel_rfl) (by kernel_rfl) (by kernel_rfl) (fun _ _ _ h => h) (Or.inl ⟨by rfl, fun w' hS' => by clear hS'; go_simp⟩) hS ?_
                refine wpAnyH_take (i := 1) (v := .slice (some ⟨b0, o0, none⟩) gss.length cap0) rfl (by kernel_rfl) (by kernel_rfl) (by kernel_rfl) (fun _ _ _ h => h) (Or.inl ⟨by rfl, fun w' hS' => by clear hS'; go_simp⟩) hS ?_
                refine wpAnyH_take (i := 2) (v := .int .i64 (j : Int)) rfl (by kernel_rfl) (by kernel_rfl) (by kernel_rfl) (fun _ _ _ h => h) (Or.inl ⟨by rfl, fun w' hS' => by clear hS'; go_simp⟩) hS ?_
                refine wpAnyH_take (i := 3) (v := .pointer (some ⟨b0, o0 + j, none⟩)) rfl (by kernel_rfl) (by kernel_rfl) (by kernel_rfl) (fun _ _ _ h => h) (Or.inl ⟨by rfl, fun w' hS' => by clear hS'; go_simp⟩) hS ?_
                refine wpAnyH_take (i := 4) (v := .slice (some ⟨bx2, ox2, none⟩) n cx2) rfl (by kernel_rfl) (by kernel_rfl) (by kernel_rfl) (fun _ _ _ h => h) (Or.inl ⟨by rfl, fun w' hS' => by have hq := hS'.1; go_simp⟩) hS ?_
                refine wpAnyH_take (i := 5) (v := .slice (some ⟨gr, 0, none⟩) T.length cr) rfl (by kernel_rfl) (by kernel_rfl) (by kernel_rfl) (fun _ _ _ h => h) (Or.inl ⟨by rfl, fun w' hS' => by clear hS'; go_simp⟩) hS ?_
                refine wpAnyH_take (i := 6) (v := .int .i64 (i : Int)) rfl (by kernel_rfl) (by kernel_rfl) (by kernel_rfl) (fun _ _ _ h => h) (Or.inl ⟨by rfl, fun w' hS' => by clear hS'; go_simp⟩) hS ?_
                refine wpAnyH_take (i := 7) (v := .pointer (some ⟨gr, i, none⟩)) rfl (by kernel_rfl) (by kernel_rfl) (by kernel_rfl) (fun _ _ _ h => h) (Or.inl ⟨by rfl, fun w' hS' => by clear hS'; go_simp⟩) hS ?_
                refine wpAnyH_take (i := 8) (v := .slice (some ⟨ge2, 0, none⟩) n ce2) rfl (by kernel_rfl) (by kernel_rfl) (by kernel_rfl) (fun _ _ _ h => h) (Or.inl ⟨by rfl, fun w' hS' => by have hq := hS'.2; go_simp⟩) hS ?_
                refine wpAnyH_ready (rs := [9]) (by kernel_rfl) (by simp) ?_
                refine AllReadyH.cons rfl (fun K hK => ?_) AllReadyH.nil
                go_simp
                refine HBY.out.mono ?_
                rintro ex w6 ⟨v6, rfl, ho6, hb6⟩
                replace hb6 := undrew hb6
                have ho6' : w6.ownsRow w5.heap.size 3 1 v6 n ((cut n (pad X * e.2)).map (Value.int .i64)) := ho6
                obtain ⟨g6, c6, rfl, hg6a, hg6b, _, _⟩ := owns_form ho6' h1
                have hs6 := hb6.size
                have HS6 := hide (HS5.out.later hb6)
                have hcx6 := (hb6.cell (p := ⟨b0, o0 + j, none⟩) (by exact hb0')).trans hcx5
                have hcr6 := (hb6.cell (p := ⟨gr, i, none⟩) (by exact hgr5)).trans hcr5
                have hgr6 : gr < w6.heap.size := by omega
                have hb06 : b0 < w6.heap.size := by omega
                refine hK.out _ _ ⟨hcx6, hcr6⟩ (fun hS => ?_)
                clear hK HBY ho6
                refine wpAnyH_ready (rs := [10]) (by kernel_rfl) (by simp) ?_
                refine AllReadyH.cons rfl (fun K hK => ?_) AllReadyH.nil
                go_simp
                refine hK.out _ _ ⟨(World.cell?_of_block (w := w6) (a := ⟨b0, o0 + j, none⟩) (Below.heap_alloc w6 _ b0 hb06)).trans hcx6, (World.cell?_of_block (w := w6) (a := ⟨gr, i, none⟩) (Below.heap_alloc w6 _ gr hgr6)).trans hcr6⟩ (fun hS => ?_)
                clear hK
                have hr6 := (HS6.out.alloc (.cells #[.slice (some ⟨g6, 0, none⟩) n c6] 22)).rows
                rw [List.length_map] at hr6
                have hu6 : w6.ownsRow wa.heap.size 3 1 (.slice (some ⟨g6, 0, none⟩) n c6) (cut n (pad X * e.2)).length ((cut n (pad X * e.2)).map (Value.int .i64)) := by rw [cut_length h12]; exact owns_base ho6' hs5
                refine wpAnyH_ready (rs := [11]) (by kernel_rfl) (by simp) ?_
                refine AllReadyH.cons rfl (fun K hK => ?_) AllReadyH.nil
                refine step_append_keep rfl _ _ 25 rfl wa.heap.size 22 i0 (.slice none 0 0) 1 24 Try.underlying25 hi hz0 hz1 hz2 rfl (by decide) _ T.length vs rfl hr6 ⟨w6.heap.size, 0, none⟩ 1 1 [.slice (some ⟨g6, 0, none⟩) n c6] rfl rfl (cell_one_new _ _ _) (fun u hu => by simp at hu; subst hu; rfl) (by unfold maxLen; omega) (by omega) (by simp; omega) ?_
                intro v8 w8 hown8 hg8 hp8
                have hS8 := (HS6.out.alloc (.cells #[.slice (some ⟨g6, 0, none⟩) n c6] 22)).row (x := pad X * e.2) (by rw [List.length_map]; exact hown8) hg8 (hu6.alloc _) (fun e' => by have e'' : g6 = gw := Option.some.inj e'; omega) (fun e' => by have := HV5.out g6 e'.symm; omega)
                have hgb : gr < (w6.alloc (.cells #[.slice (some ⟨g6, 0, none⟩) n c6] 22)).heap.size := by simp; omega
                have hbb : b0 < (w6.alloc (.cells #[.slice (some ⟨g6, 0, none⟩) n c6] 22)).heap.size := by simp; omega
                have hn0 : (some b0 : Option Nat) ≠ (Value.slice (some ⟨gr, 0, none⟩) T.length cr).ownBlock := fun e' => by have e'' : b0 = gr := Option.some.inj e'; omega
                have HS8 : Hid (SRel wa w8 n gw v5 v8 (wh.set q ((T.length : Int) + 1)) (vs ++ [.slice (some ⟨g6, 0, none⟩) n c6]) ((T ++ [(q, pad X * e.2)]).map (·.1)) ((T ++ [(q, pad X * e.2)]).map (·.2))) := by
                  unfold Hid
                  rw [List.map_append, List.map_append]
                  exact hS8
                have HO8 : Hid (Orbs (fun y => y ∈ gss.map pad) n k (T ++ [(q, pad X * e.2)])) := by
                  unfold Hid
                  rw [← HQ.out]
                  exact HO.out.more (List.mem_map.2 ⟨X, HXM.out, rfl⟩) HEM.out (by rw [HQ.out]; exact hqn) (by rw [HQ.out]; exact HIN.out)
                have HOT8 : Hid (OrbTo gss (T ++ [(q, pad X * e.2)]) i (j + 1)) := by
                  refine (HOT.out.grow hit _).old (by rw [List.getElem?_append_left hit]; exact HE.out) HX.out ?_
                  rw [HQ.out, List.map_append]
                  exact List.mem_append_right _ (by simp)
                have hit8 : i < (T ++ [(q, pad X * e.2)]).length := by rw [List.length_append]; omega
                obtain ⟨gv8, cv8, rfl, _, _, _, _⟩ := owns_form hown8 (by omega)
                refine hK.out _ _ ⟨?_, ?_⟩ (fun hS => ?_)
                · exact (World.cell?_of_block (w := w6.alloc (.cells #[.slice (some ⟨g6, 0, none⟩) n c6] 22)) (a := ⟨b0, o0 + j, none⟩) (hg8.block b0 hbb hn0)).trans hS.1
                · rcases hp8 with hp | ⟨_, hg⟩
                  · exact (owns_prefix hr6 hown8 (b := gr) (x := i) rfl hp (by have := hr6.1; omega)).trans hS.2
                  · exact (World.cell?_of_block (w := w6.alloc (.cells #[.slice (some ⟨g6, 0, none⟩) n c6] 22)) (a := ⟨gr, i, none⟩) (hg.block gr hgb (by simp))).trans hS.2
                clear hK hS8 hown8 hg8 hp8 hr6 hu6 ho6' HS6
                refine wpAnyH_take (i := 12) (v := .slice (some ⟨gv8, 0, none⟩) (T.length + 1) cv8) rfl (by kernel_rfl) (by kernel_rfl) (by kernel_rfl) (fun _ _ _ h => h) (Or.inl ⟨by rfl, fun w' _ => by go_simp⟩) hS ?_
                refine wpAnyH_done (by kernel_rfl) ?_ _
                go_wp2
                go_roundw
                case rel => exact ⟨j + 1, _, _, T ++ [(q, pad X * e.2)], by omega, by go_num, hit8, HS8, HWM, HO8, HOT8⟩
                case measure => simp [intOf]; omega
            · have hje : j = gss.length := by omega
              have HOT2 : Hid (OrbTo gss T (i + 1) 0) := by have := HOT.out; rw [hje] at this; exact this.next
              clear hsp hrw hje
              go_wp2
              go_roundw
              case rel => exact ⟨i + 1, _, _, T, by omega, by go_num, HS, HW, HO, HOT2⟩
              case measure => simp [intOf]; omega
        · have hie : i = T.length := by omega
          have hOTD : OrbTo gss T T.length 0 := by have := HOT.out; rw [hie] at this; exact this
          have HD := hide hOTD.done
          have hrw := HS.out.rows
          rw [List.length_map] at hrw
          obtain ⟨gr, cr, rfl, hgra, hgrb, hcra, hcrb⟩ := owns_form hrw hT1
          clear hie hOTD HOT hsp hrw
          go_wp2
          go_loopw [10, 14] (fun u10 u14 wr => ∃ (i : Nat) (us : List Value) (yss : List (List Int)), i ≤ T.length ∧ u14 = .int .i64 i ∧ Hid (SRel wa wr n gw (.slice (some ⟨gs, 0, none⟩) T.length cs) (.slice (some ⟨gr, 0, none⟩) T.length cr) wh vs (T.map (·.1)) (T.map (·.2))) ∧ Hid (wr.ownsRow wa.heap.size 22 1 u10 us.length us) ∧ Hid (u10.ownBlock ≠ some gr) ∧ Hid (OwnAll wr wa.heap.size us yss) ∧ Hid (StillTo n gss T i 0 yss)) (fun _ u14 _ => T.length - (intOf u14).toNat)
          case atStart => exact ⟨0, [], [], by omega, rfl, HS, World.ownsRow_nil _ _ _ _, (fun e => by cases e), trivial, StillTo.start _ _ _⟩
          case round =>
            clear HS
            obtain ⟨i2, us, yss, hi2, rfl, HS, HU, HUN, HUA, HST⟩ := hrel
            by_cases hit2 : i2 < T.length
            · go_wp2
              go_loopw [10, 15] (fun u10 u15 wr => ∃ (j : Nat) (us : List Value) (yss : List (List Int)), j ≤ gss.length ∧ u15 = .int .i64 j ∧ Hid (SRel wa wr n gw (.slice (some ⟨gs, 0, none⟩) T.length cs) (.slice (some ⟨gr, 0, none⟩) T.length cr) wh vs (T.map (·.1)) (T.map (·.2))) ∧ Hid (wr.ownsRow wa.heap.size 22 1 u10 us.length us) ∧ Hid (u10.ownBlock ≠ some gr) ∧ Hid (OwnAll wr wa.heap.size us yss) ∧ Hid (StillTo n gss T i2 j yss)) (fun _ u15 _ => gss.length - (intOf u15).toNat)
              case atStart => exact ⟨0, us, yss, by omega, rfl, HS, HU, HUN, HUA, HST⟩
              case round =>
                clear HS HU HUN HUA HST
                obtain ⟨j, us, yss, hj, rfl, HS, HU, HUN, HUA, HST⟩ := hrel
                have hba := HS.out.below
                have hbas := hba.size
                by_cases hjl : j < gss.length
                · obtain ⟨X, hX⟩ : ∃ X, gss[j]? = some X := ⟨_, List.getElem?_eq_getElem hjl⟩
                  obtain ⟨e, he⟩ : ∃ e, T[i2]? = some e := ⟨_, List.getElem?_eq_getElem hit2⟩
                  have hXm := List.mem_of_getElem? hX
                  have hem := List.mem_of_getElem? he
                  have hXr := HR.out X hXm
                  have hel := HO.out.lt e hem
                  obtain ⟨b0, o0, hpp, hb0a, hNc, _, _⟩ := HA.out.nth hX hXr.2 h1
                  subst hpp
                  obtain ⟨b0', o0', hpp', hb0, _, _, bx, ox, cx, hcx, hix, hbx, hncx, hXc⟩ := (HA.out.below hba).nth hX hXr.2 h1
                  injection hpp' with hpp'
                  injection hpp' with hp1 hp2
                  subst hp1; subst hp2
                  have hrw := HS.out.rows
                  rw [List.length_map] at hrw
                  have hgr := (hrw.lt gr rfl).2
                  obtain ⟨ue, hcr, hoe⟩ := word_at hrw HS.out.rowsAt (i := i2) (X := cut n e.2) (by rw [List.getElem?_map, List.getElem?_map, he]; rfl) (by rw [List.length_map, List.length_map])
                  rw [cut_length h12] at hoe
                  obtain ⟨ge, ce, rfl, hgea, hgeb, hcea, hceb⟩ := owns_form hoe h1
                  have hnx : Fixes (fun b => n ≤ b) (pad X) := pad_fixes h12 hXr.2 hXr.1
                  have hfxT : ∀ e, e ∈ T → Fixes (fun b => n ≤ b) e.2 := fun e hem => (HO.out.gen e hem).least (fixes_sub _) (fun s hs => by
                    obtain ⟨Z, hZ, rfl⟩ := List.mem_map.1 hs
                    exact pad_fixes h12 (HR.out Z hZ).2 (HR.out Z hZ).1)
                  have hef := hfxT e hem
                  have hcl := cut_length h12 e.2
                  have hbyE : by_ X (cut n e.2) = cut n (pad X * e.2) := by
                    have := by_cut h12 hnx (cut_row h12 hef) hcl
                    rw [cut_pad h12 hXr.2 hXr.1, pad_cut h12 hef] at this
                    exact this
                  have HBY := hide (rby_own (.slice (some ⟨bx, ox, none⟩) n cx) (.slice (some ⟨ge, 0, none⟩) n ce) X (cut n e.2) wr.drew (hix.out.below (below_drew wr)) ((Ints.own hoe).below (below_drew wr)) (fun j hj => by have := (cut_row h12 hef).at (j := j) hj; rw [hcl] at this; rw [hXr.2]; exact this) (by rw [hXr.2]; exact h1) (by rw [hcl]; omega))
                  rw [hbyE, hcl] at HBY
                  obtain ⟨q, hqe⟩ : ∃ q, (pad X).act e.1 = q := ⟨_, rfl⟩
                  have hxq : (pad X * e.2).act k = q := by rw [Pm.act_mul, HO.out.brings e hem, hqe]
                  have hxF : Fixes (fun b => n ≤ b) (pad X * e.2) := (fixes_sub _).mul hnx hef
                  have hqn : q < n := by rw [← hxq]; exact fix_lt hxF hlt
                  have hqin : q ∈ T.map (·.1) := by rw [← hqe]; exact HD.out (pad X) (List.mem_map.2 ⟨X, hXm, rfl⟩) e hem
                  obtain ⟨i3, e3, h3a, h3b, h3c⟩ : ∃ i e, T[i]? = some e ∧ e.1 = q ∧ wh.getD q 0 = ((i + 1 : Nat) : Int) := by
                    rcases HW.out.2 q hqn with ⟨_, h2⟩ | h2
                    · exact absurd hqin h2
                    · exact h2
                  have hi3 : i3 < T.length := (List.getElem?_eq_some_iff.1 h3a).1
                  have hem3 := List.mem_of_getElem? h3a
                  have hef3 := hfxT e3 hem3
                  have HX := hide hX
                  have HE := hide he
                  have HE3 := hide h3a
                  have HM3 := hide hem3
                  have H3B : Hid (e3.1 = (pad X).act e.1) := by show _ = _; rw [h3b, hqe]
                  have H3C : Hid (wh.getD q 0 = (i3 : Int) + 1) := by show _ = _; rw [h3c]; omega
                  have HF3 := hide hef3
                  have HXQ := hide hxq
                  have HXF := hide hxF
                  clear hX he hXm hem hXr hrw hoe hXc hix hnx hfxT hef hbyE hqe hxq hxF hqin h3a h3b h3c hem3 hef3 hba
                  go_wp2
                  refine wp_region_held_drew (S := fun W' => W'.cell? ⟨b0, o0 + j, none⟩ = some (.slice (some ⟨bx, ox, none⟩) n cx) ∧ W'.cell? ⟨gr, i2, none⟩ = some (.slice (some ⟨ge, 0, none⟩) n ce)) (by kernel_rfl) ⟨hcx, hcr⟩ (fun hS => ?_)
                  refine wpAnyH_take (i := 0) (v := .slice (some ⟨b0, o0, none⟩) gss.length cap0) rfl (by kernel_rfl) (by kernel_rfl) (by kernel_rfl) (fun _ _ _ h => h) (Or.inl ⟨by rfl, fun w' hS' => by clear hS'; go_simp⟩) hS ?_
                  refine wpAnyH_take (i := 1) (v := .int .i64 (j : Int)) rfl (by kernel_rfl) (by kernel_rfl) (by kernel_rfl) (fun _ _ _ h => h) (Or.inl ⟨by rfl, fun w' hS' => by clear hS'; go_simp⟩) hS ?_
                  refine wpAnyH_take (i := 2) (v := .pointer (some ⟨b0, o0 + j, none⟩)) rfl (by kernel_rfl) (by kernel_rfl) (by kernel_rfl) (fun _ _ _ h => h) (Or.inl ⟨by rfl, fun w' hS' => by clear hS'; go_simp⟩) hS ?_
                  refine wpAnyH_take (i := 3) (v := .slice (some ⟨bx, ox, none⟩) n cx) rfl (by kernel_rfl) (by kernel_rfl) (by kernel_rfl) (fun _ _ _ h => h) (Or.inl ⟨by rfl, fun w' hS' => by have hq := hS'.1; go_simp⟩) hS ?_
                  refine wpAnyH_take (i := 4) (v := .slice (some ⟨gr, 0, none⟩) T.length cr) rfl (by kernel_rfl) (by kernel_rfl) (by kernel_rfl) (fun _ _ _ h => h) (Or.inl ⟨by rfl, fun w' hS' => by clear hS'; go_simp⟩) hS ?_
                  refine wpAnyH_take (i := 5) (v := .int .i64 (i2 : Int)) rfl (by kernel_rfl) (by kernel_rfl) (by kernel_rfl) (fun _ _ _ h => h) (Or.inl ⟨by rfl, fun w' hS' => by clear hS'; go_simp⟩) hS ?_
                  refine wpAnyH_take (i := 6) (v := .pointer (some ⟨gr, i2, none⟩)) rfl (by kernel_rfl) (by kernel_rfl) (by kernel_rfl) (fun _ _ _ h => h) (Or.inl ⟨by rfl, fun w' hS' => by clear hS'; go_simp⟩) hS ?_
                  refine wpAnyH_take (i := 7) (v := .slice (some ⟨ge, 0, none⟩) n ce) rfl (by kernel_rfl) (by kernel_rfl) (by kernel_rfl) (fun _ _ _ h => h) (Or.inl ⟨by rfl, fun w' hS' => by have hq := hS'.2; go_simp⟩) hS ?_
                  refine wpAnyH_ready (rs := [8]) (by kernel_rfl) (by simp) ?_
                  refine AllReadyH.cons rfl (fun K hK => ?_) AllReadyH.nil
                  go_simp
                  refine HBY.out.mono ?_
                  rintro ex w6 ⟨v6, rfl, ho6, hb6⟩
                  replace hb6 := undrew hb6
                  have ho6' : w6.ownsRow wr.heap.size 3 1 v6 n ((cut n (pad X * e.2)).map (Value.int .i64)) := ho6
                  obtain ⟨g6, c6, rfl, hg6a, hg6b, _, _⟩ := owns_form ho6' h1
                  have hs6 := hb6.size
                  have hcx6 := (hb6.cell (p := ⟨b0, o0 + j, none⟩) (by exact hb0)).trans hcx
                  have hcr6 := (hb6.cell (p := ⟨gr, i2, none⟩) (by exact hgr)).trans hcr
                  refine hK.out _ _ ⟨hcx6, hcr6⟩ (fun hS => ?_)
                  clear hK HBY ho6
                  refine wpAnyH_take (i := 9) (v := .slice (some ⟨g6, 0, none⟩) n c6) rfl (by kernel_rfl) (by kernel_rfl) (by kernel_rfl) (fun _ _ _ h => h) (Or.inl ⟨by rfl, fun w' _ => by go_simp⟩) hS ?_
                  refine wpAnyH_done (by kernel_rfl) ?_ _
                  have hS6 := HS.out.later hb6
                  have hrw6 := hS6.rows
                  rw [List.length_map] at hrw6
                  obtain ⟨ue3, hcr3, hoe3⟩ := word_at hrw6 hS6.rowsAt (i := i3) (X := cut n e3.2) (by rw [List.getElem?_map, List.getElem?_map, HE3.out]; rfl) (by rw [List.length_map, List.length_map])
                  rw [cut_length h12] at hoe3
                  obtain ⟨ge3, ce3, rfl, _, _, _, _⟩ := owns_form hoe3 h1
                  obtain ⟨y1, hy1, hcy1, _⟩ := owns_cellAt ho6' hlt
                  have ey1 : y1 = (q : Int) := by
                    have h7 := cut_get (n := n) (j := k) (pad X * e.2) h12 hlt
                    rw [HXQ.out] at h7
                    rw [← hy1.out]; exact h7
                  rw [ey1] at hcy1
                  obtain ⟨y2, hy2, hcy2, _⟩ := owns_cellAt hS6.wher hqn
                  have ey2 : y2 = (i3 : Int) + 1 := by rw [← hy2.out]; exact H3C.out
                  rw [ey2] at hcy2
                  have hcl3 := cut_length h12 e3.2
                  have HUD := hide (undo_own (.slice (some ⟨ge3, 0, none⟩) n ce3) (cut n e3.2) w6 (Ints.own hoe3) (cut_row h12 HF3.out) (by rw [hcl3]; exact h1) (by rw [hcl3]; exact h12))
                  have HO6 := hide ho6'
                  have HS6 := hide hS6
                  have HU6 := hide (owns_below HU.out hb6 (Nat.le_refl _))
                  have HUA6 := hide (HUA.out.mono (fun _ _ _ h' => owns_below h' hb6 (Nat.le_refl _)))
                  have hbs6 := hS6.below.size
                  clear hcx6 hcr6 hcx hcr hS hS6 hrw6 hoe3 hy1 ey1 hy2 ey2 ho6' HU HUA HS hb6
                  go_wp2_with fail
                  refine HUD.out.mono ?_
                  rintro ex w7 ⟨v7, zs, rfl, hoz, hzu, hb7⟩
                  rw [hcl3] at hoz
                  obtain ⟨gz, cz, rfl, _, _, _, _⟩ := owns_form hoz h1
                  have hzr := isRow_undoes (cut_row h12 HF3.out) hzu
                  have hzl : zs.length = n := hzu.1.trans hcl3
                  have hpz : pad zs = (e3.2)⁻¹ := by rw [pad_undoes (by rw [hcl3]; exact h12) (cut_row h12 HF3.out) hzu, pad_cut h12 HF3.out]
                  have hxr := cut_row h12 HXF.out
                  have hxl := cut_length h12 (pad X * e.2)
                  have hYr : isRow (by_ zs (cut n (pad X * e.2))) := isRow_by hzr hxr (by rw [hxl, hzl])
                  have hYl : (by_ zs (cut n (pad X * e.2))).length = n := by rw [by_length]; exact hxl
                  have hYp : pad (by_ zs (cut n (pad X * e.2))) = (e3.2)⁻¹ * (pad X * e.2) := by rw [pad_by (by omega) hzr hxr (by rw [hxl, hzl]), hpz, pad_cut h12 HXF.out]
                  have HB2 := hide (rby_own (.slice (some ⟨gz, 0, none⟩) n cz) (.slice (some ⟨g6, 0, none⟩) n c6) zs (cut n (pad X * e.2)) w7 (Ints.own hoz) ((Ints.own HO6.out).below hb7) (fun j hj => by have := hxr.at (j := j) hj; rw [hxl] at this; rw [hzl]; exact this) (by rw [hzl]; exact h1) (by rw [hxl]; omega))
                  rw [hxl] at HB2
                  have HST2 := hide (HST.out.step HO.out.nodup HE.out HX.out HM3.out H3B.out hYr hYl hYp)
                  have HYL := hide hYl
                  have HS7 := hide (HS6.out.later hb7)
                  have HU7 := hide (owns_below HU6.out hb7 (Nat.le_refl _))
                  have HUA7 := hide (HUA6.out.mono (fun _ _ _ h' => owns_below h' hb7 (Nat.le_refl _)))
                  have hs7 := hb7.size
                  clear HUD HS6 HU6 HUA6 hoz hzu hzr hpz hxr hxl hYr hYl hYp hb7 HO6 HST
                  generalize by_ zs (cut n (pad X * e.2)) = Y at *
                  go_wp2_with fail
                  refine HB2.out.mono ?_
                  rintro ex w8 ⟨v8, rfl, ho8, hb8⟩
                  obtain ⟨g8, c8, rfl, _, _, _, _⟩ := owns_form ho8 h1
                  have hs8 := hb8.size
                  have hS8 := HS7.out.later hb8
                  have hU8 := owns_below HU7.out hb8 (Nat.le_refl _)
                  have hUA8 := HUA7.out.mono (fun _ _ _ h' => owns_below h' hb8 (Nat.le_refl _))
                  have ho8' : w8.ownsRow wa.heap.size 3 1 (.slice (some ⟨g8, 0, none⟩) n c8) Y.length (Y.map (Value.int .i64)) := by rw [HYL.out]; exact owns_base ho8 (by omega)
                  have hul : us.length ≤ 2000 := by
                    have e1 := OwnAll.length hUA8
                    have e2 := HST2.out.len
                    rw [List.length_append] at e2
                    have e4 : i2 * gss.length ≤ 12 * 144 := Nat.mul_le_mul (by omega) hgl
                    simp at e2
                    omega
                  have HS8 := hide (hS8.alloc (.cells #[.slice (some ⟨g8, 0, none⟩) n c8] 22))
                  have HU8 := hide (hU8.alloc (.cells #[.slice (some ⟨g8, 0, none⟩) n c8] 22))
                  have HUA8 := hide (OwnAll.mono (fun _ _ _ h' => World.ownsRow.alloc h' (.cells #[.slice (some ⟨g8, 0, none⟩) n c8] 22)) hUA8)
                  have HO8 := hide (ho8'.alloc (.cells #[.slice (some ⟨g8, 0, none⟩) n c8] 22))
                  have hgr8 := (hS8.rows.lt gr rfl).2
                  clear HB2 HS7 HU7 HUA7 ho8 hS8 hU8 hUA8 ho8' hb8
                  go_wp2_with (at_builtin; refine wpList_append_keep _ rfl _ _ 25 rfl wa.heap.size 22 i0 (.slice none 0 0) 1 24 Try.underlying25 hi hz0 hz1 hz2 rfl (by decide) _ us.length us rfl HU8.out ⟨w8.heap.size, 0, none⟩ 1 1 [.slice (some ⟨g8, 0, none⟩) n c8] rfl rfl ?c1 ?c2 ?c3 ?c4 ?c5 ?_)
                  case c1 => exact cell_one_new _ _ _
                  case c2 => intro u hu; simp at hu; subst hu; rfl
                  case c3 => unfold maxLen; omega
                  case c4 => omega
                  case c5 => simp; omega
                  intro v9 w9 hown9 hg9 hp9
                  have HS9 := hide (HS8.out.other HU8.out HUN.out hg9)
                  have HU9 : Hid (w9.ownsRow wa.heap.size 22 1 v9 (us ++ [Value.slice (some ⟨g8, 0, none⟩) n c8]).length (us ++ [Value.slice (some ⟨g8, 0, none⟩) n c8])) := by unfold Hid; rw [List.length_append]; exact hown9
                  have HUN9 : Hid (v9.ownBlock ≠ some gr) := by
                    intro e'
                    rcases hp9 with hp | ⟨hp, _⟩
                    · exact HUN.out (hp.symm.trans e')
                    · rw [e'] at hp
                      injection hp with hp
                      omega
                  have HUA9 : Hid (OwnAll w9 wa.heap.size (us ++ [Value.slice (some ⟨g8, 0, none⟩) n c8]) (yss ++ [Y])) := OwnAll.snoc (owns_kept_ty HO8.out HU8.out hg9) (HUA8.out.mono (fun _ _ _ h' => owns_kept_ty h' HU8.out hg9))
                  clear hown9 hg9 hp9 HS8 HU8 HUA8 HO8
                  go_wp2
                  go_roundw
                  case rel => exact ⟨j + 1, _, _, by omega, by go_num, HS9, HU9, HUN9, HUA9, HST2⟩
                  case measure => simp [intOf]; omega
                · have hje : j = gss.length := by omega
                  have HST2 : Hid (StillTo n gss T (i2 + 1) 0 yss) := by have := HST.out; rw [hje] at this; exact this.next
                  clear hje hba
                  go_wp2
                  go_roundw
                  case rel => exact ⟨i2 + 1, _, _, by omega, by go_num, HS, HU, HUN, HUA, HST2⟩
                  case measure => simp [intOf]; omega
            · have hie : i2 = T.length := by omega
              have hst := HST.out
              rw [hie] at hst
              have hba := HS.out.below
              have hbas := hba.size
              have hoc := HO.out.size HD.out (by omega) HGL.out
              have hmul : ((sz G k : Nat) : Int) * (T.length : Int) = ((sz G (k + 1) : Nat) : Int) := by
                rw [hoc]; exact (Int.natCast_mul _ _).symm
              have hszn := sz_le G (k + 1)
              have hpow : 12 ^ (k + 1) ≤ 12 ^ 12 := Nat.pow_le_pow_right (by omega) (by omega)
              have hsz3 : sz G (k + 1) ≤ 8916100448256 := Nat.le_trans hszn (Nat.le_trans hpow (by decide))
              have hgen : ∀ x, Gen (fun y => y ∈ yss.map pad) x ↔ Low G (k + 1) x := fun x => by rw [hst.gen x]; exact HO.out.low HD.out HGL.out x
              have huy := OwnAll.length HUA.out
              have hIA : IntsAll wr u10 yss := IntsAll.own HU.out HUA.out
              have hyl : yss.length ≤ 100000 := by
                have e4 : T.length * gss.length ≤ 12 * 144 := Nat.mul_le_mul (by omega) hgl
                have := hst.len
                omega
              have HTH := hide (thinned_ok n (k + 1) u10 yss wr hIA (fun Y hY => ⟨(hst.rows Y hY).1, (hst.rows Y hY).2.1⟩) h1 h12 (by omega) hyl (fun Y hY c hc => ((hgen (pad Y)).1 (Gen.of (List.mem_map.2 ⟨Y, hY, rfl⟩))).2 c hc))
              rw [show ((k + 1 : Nat) : Int) = (k : Int) + 1 from by omega] at HTH
              have HGEN := hide hgen
              have hwB : Below w.heap.size w wr := hbw.trans (hba.mono hbs)
              clear hie hst hba hoc hszn hpow hgen huy hIA hyl HST
              go_wp2_with fail
              refine HTH.out.mono ?_
              rintro ex w9 ⟨hb9, u9, zss, rfl, hz1', hz2', hz3', hz4'⟩
              have HZ1 := hide hz1'
              have HZ2 := hide hz2'
              have HZ4 : Hid (∀ x, Gen (fun y => y ∈ zss.map pad) x ↔ Low G (k + 1) x) := fun x => (hz4' x).trans (HGEN.out x)
              have hwB9 : Below w.heap.size w w9 := hwB.trans (hb9.mono hwB.size)
              clear HTH hz1' hz2' hz4' HGEN hb9
              go_wp2
              go_roundw
              case rel => exact ⟨k + 1, zss, by omega, by go_num, rfl, HZ1, HZ2, hz3', HZ4, hwB9⟩
              case measure => simp [intOf]; omega
    · obtain rfl : k = n := by omega
      go_wp2
      go_ret
      exact ⟨rfl, hbw⟩

end Go.Proofs.Ytbddhpbeekioiaa
