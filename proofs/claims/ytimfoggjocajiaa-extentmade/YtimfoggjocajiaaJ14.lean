/- Joined: ExM, ExN, TtC. -/
import Derived.Test.YtimfoggjocajiaaJ13
import Derived.Test.YtimfoggjocajiaaJ4
/- Contract: the answer's Qsets, the walk. -/
namespace Go.Proofs.Ytimfoggjocajiaa
open Go.RowKit

/-- The last loop's memory: lists by labels. -/
structure QO (wo wr : World) (M cnt : Nat) (v : Value) (vs : List Value) (A : List (List Int)) (F : Int → Option Value) : Prop where
  out : LL wr wo.heap.size v vs A
  apt : vs.Pairwise Apt
  map : IMap wr M cnt F
  frm : Frm wo.heap.size M M wo wr

theorem QO.later {wo wr w' : World} {M cnt : Nat} {v : Value} {vs : List Value} {A : List (List Int)} {F : Int → Option Value} (h : QO wo wr M cnt v vs A F) (hb : Below wr.heap.size wr w') : QO wo w' M cnt v vs A F :=
  ⟨h.out.below hb, h.apt, h.map.below hb h.map.lt, h.frm.trans (Frm.of_below hb h.frm.size)⟩

/-- One list grows. -/
theorem QO.grow {wo wr w' : World} {M cnt g L cap k : Nat} {u u' : Value} {vs : List Value} {A : List (List Int)} {X : List Int} {F : Int → Option Value} {o : Obj} (hM : M < wo.heap.size) (h : QO wo wr M cnt (.slice (some ⟨g, 0, none⟩) L cap) vs A F) (hk : k < A.length) (hu : vs.getD k undef = u)
    (hown : w'.ownsRow wo.heap.size 3 1 u' X.length (X.map (Value.int .i64))) (hg : (wr.alloc o).grownBy w' u.ownBlock) (hp : u'.ownBlock = u.ownBlock ∨ (u'.ownBlock = some (wr.alloc o).heap.size ∧ (wr.alloc o).grownBy w' none)) :
    QO wo (w'.setCell ⟨g, k, none⟩ u') M cnt (.slice (some ⟨g, 0, none⟩) L cap) (vs.set k u') (A.set k X) F ∧ (∃ y, w'.cell? ⟨g, k, none⟩ = some y) ∧ w'.frozen? ⟨g, k, none⟩ = false := by
  obtain ⟨k1, k2⟩ := h.out.grow_at h.apt hk hu rfl hown hg hp
  have hat := h.out.at hk
  rw [hu] at hat
  have hgw := h.out.row.lt g rfl
  have hfr : Frm wo.heap.size M M wo w' := (h.frm.trans (Frm.of_below ((Below.refl _ _).alloc (Nat.le_refl _) o) h.frm.size)).grown hg (by have := h.frm.size; simp; omega) (fun x hx => Or.inl (hat.lt x hx).1)
  have hmb : w'.heap[M]? = wr.heap[M]? := (hg.block M (by have := h.map.lt; simp; omega) (fun e => by have := (hat.lt M e.symm).1; omega)).trans (Below.heap_alloc wr o M h.map.lt)
  have hL : L = vs.length := by
    rcases h.out.row.2 with ⟨h0, _⟩ | ⟨g', cap', cur, hv, _⟩
    · cases h0
    · injection hv
  have hrow' : w'.ownsRow wo.heap.size 23 1 (.slice (some ⟨g, 0, none⟩) L cap) L vs := by
    rw [hL]
    have h9 := h.out.row
    rw [hL] at h9
    exact owns_of_block h9 (fun x hx => (hg.block x (by have := (h9.lt x hx).2; simp; omega) (fun e => owns_ty hat h9 (by decide) x e.symm hx)).trans (Below.heap_alloc wr o x (h9.lt x hx).2))
  have hc := row_cellE hrow' (j := k) (by rw [hL, h.out.len]; exact hk)
  refine ⟨⟨k1, k2, (h.map.of_block hmb).of_block (Below.heap_setCell _ _ _ _ (by show M ≠ g; omega)), hfr.trans ⟨rfl, rfl, rfl, by simp [World.setCell], fun x hx h1 _ => Below.heap_setCell _ _ _ _ (by show x ≠ g; omega)⟩⟩, hc.1, hc.2⟩

/-- One more list, empty yet. -/
theorem QO.more {wo wr w' : World} {M cnt : Nat} {v v' : Value} {vs : List Value} {A : List (List Int)} {F : Int → Option Value} {o : Obj} (hM : M < wo.heap.size) (h : QO wo wr M cnt v vs A F) (hown : w'.ownsRow wo.heap.size 23 1 v' (vs.length + 1) (vs ++ [.slice none 0 0])) (hg : (wr.alloc o).grownBy w' v.ownBlock) : QO wo w' M cnt v' (vs ++ [.slice none 0 0]) (A ++ [[]]) F := by
  have hfr : Frm wo.heap.size M M wo w' := (h.frm.trans (Frm.of_below ((Below.refl _ _).alloc (Nat.le_refl _) o) h.frm.size)).grown hg (by have := h.frm.size; simp; omega) (fun x hx => Or.inl (h.out.row.lt x hx).1)
  have hmb : w'.heap[M]? = wr.heap[M]? := (hg.block M (by have := h.map.lt; simp; omega) (fun e => by have := (h.out.row.lt M e.symm).1; omega)).trans (Below.heap_alloc wr o M h.map.lt)
  refine ⟨h.out.push (World.ownsRow_nil _ _ _ _) hown hg, ?_, h.map.of_block hmb, hfr⟩
  rw [List.pairwise_append]
  exact ⟨h.apt, by simp, fun y hy z hz => by rw [List.mem_singleton.1 hz]; exact (apt_none y).symm⟩

theorem QO.put {wo wr w' : World} {M cnt : Nat} {v : Value} {vs : List Value} {A : List (List Int)} {F F' : Int → Option Value} (h : QO wo wr M cnt v vs A F) (hm : IMap w' M (cnt + 1) F') (hg : wr.grownBy w' (some M)) : QO wo w' M (cnt + 1) v vs A F' :=
  ⟨⟨owns_map_kept h.out.row h.map hg, h.out.all.mono (fun _ _ _ h' => owns_map_kept h' h.map hg)⟩, h.apt, hm, h.frm.grown hg h.frm.size (fun _ hx => Or.inr (Or.inl (Option.some.inj hx).symm))⟩

set_option maxRecDepth 20000 in
set_option maxHeartbeats 8000000 in
theorem rqsets_ok (n : Nat) (G : Pm → Prop) (X : List Pm) (a b : Pm) (vR vx vy : Value) (w : World) (hR : Rws n G X) (ha : G a) (hb : G b) (hX : IntsAll w vR (X.map (cut n))) (hx : Ints w vx (cut n a)) (hy : Ints w vy (cut n b)) :
    Calls Try.prog 50 #[vR, vx, vy] w fun e w' => ∃ u, e = .returned u ∧ IntsAll w' u (qs X a b) ∧ Below w.heap.size w w' := by
  obtain ⟨i0, hi, hz0, hz1, hz2⟩ := info_parts Try.info23
  obtain ⟨j0, hji, hjz0, hjz1, hjz2⟩ := info_parts Try.info3
  have hmm := @run_makeMap Try.prog
  have h1 := hR.one
  have h12 := hR.twelve
  have hpos := hR.pos
  have hfew := hR.few
  have hfa := hR.fix a ha
  have hfb := hR.fix b hb
  obtain ⟨pR, cR, eR⟩ := hX.len
  rw [List.length_map] at eR
  subst eR
  obtain ⟨gR, oR, epR, -, hR1, hR2, hR3, hR4⟩ := hX.rowI (by rw [List.length_map]; exact hpos)
  subst epR
  rw [List.length_map] at hR1
  have HCL : Hid (∀ W, Below w.heap.size w W → ∀ i p, X[i]? = some p → ∃ pp cc, W.cell? ⟨gR, oR + i, none⟩ = some (.slice pp n cc) ∧ Ints W (.slice pp n cc) (cut n p)) := fun W hW i p hp => by
    obtain ⟨u, hu, hI⟩ := hR4 i (cut n p) (by rw [List.getElem?_map, hp]; rfl)
    obtain ⟨pp, cc, e⟩ := hI.form
    rw [cut_length h12] at e
    subst e
    exact ⟨pp, cc, (hW.cell (p := ⟨gR, oR + i, none⟩) hR3).trans hu, hI.below hW⟩
  obtain ⟨px, cx, ex1⟩ := hx.form
  rw [cut_length h12] at ex1
  subst ex1
  obtain ⟨py, cy, ey1⟩ := hy.form
  rw [cut_length h12] at ey1
  subst ey1
  have HX := hide hx
  have HY := hide hy
  have HRw := hide hR
  have HGa := hide ha
  have HGb := hide hb
  have hGc : G (a * b⁻¹) := hR.sub.mul ha (hR.sub.inv hb)
  have hrow := mv_row hR.nodup (hR.cls hGc)
  have HMr := hide hrow
  have HML : Hid ((mv X (a * b⁻¹)).length = X.length) := mv_length X _
  have HSts : Hid (Sts X.length (nx (mv X (a * b⁻¹))) (qs X a b)) := qs_sts hR ha hb
  have HSG : Hid (∀ r, r < X.length → nx (mv X (a * b⁻¹)) r < X.length) := fun r hr => nx_get hR hGc hr
  have HNX : Hid (∀ r p, X[r]? = some p → p * a * b⁻¹ ∈ X ∧ nx (mv X (a * b⁻¹)) r = ix X (p * a * b⁻¹)) := fun r p hp => by
    have h9 := hR.cls hGc p (List.mem_of_getElem? hp)
    rw [← Pm.mul_assoc] at h9
    exact ⟨h9, by rw [mv_nx hp, Pm.mul_assoc]⟩
  have HFX : Hid (∀ i p, X[i]? = some p → Fixes (fun b => n ≤ b) p) := fun i p hp => hR.fix p ((hR.mem p).1 (List.mem_of_getElem? hp))
  have HQS : Hid ((cycsTo (mv X (a * b⁻¹)) (mv X (a * b⁻¹)).length).map srt = qs X a b) := by show _ = _; rw [mv_length]; rfl
  clear hx hy hR ha hb hX hR4 hGc hrow
  generalize hN : X.length = N at *
  have HN := hide hN
  clear hN
  go_enter Try.func50, Try.ntmps50
  go_wp2_with (at_make; refine wpList_make_full _ rfl _ _ 23 rfl w.heap.size 3 j0 (.int .i64 0) 1 Try.underlying23 hji hjz0 hjz1 _ _ _ _ N rfl rfl (by omega) (by omega) ?b2 ?b3 (Nat.le_refl _) ?_)
  case b2 => rw [hjz2]; omega
  case b3 => unfold maxLen; omega
  intro w1 hown1 hg1
  rw [made_ints] at hown1
  have hB1 : Below w.heap.size w w1 := (Below.refl _ _).grown hg1 (Nat.le_refl _) (fun k h => by cases h)
  have hlt1 : w.heap.size < w1.heap.size := (hown1.lt w.heap.size rfl).2
  have HQ0 : Hid (QR w (w1.alloc (.map #[] 0)) N w1.heap.size 0 (List.replicate N 0) (fun _ => none)) := ⟨hown1.alloc _, IMap.made w1, by omega, by omega, hB1.alloc hB1.size _⟩
  obtain ⟨M, hM⟩ : ∃ M, M = w1.heap.size := ⟨_, rfl⟩
  clear hown1 hg1 hB1
  go_wp2
  go_loopw [9] (fun si wr => ∃ (i : Nat) (zs : List Int) (F : Int → Option Value), i ≤ N ∧ si = .int .i64 (i : Int) ∧ QR w wr N w1.heap.size i zs F ∧ Hid (∀ j, j < i → zs.getD j 0 = (j : Int)) ∧ Hid (PlTo n X i F)) (fun si _ => N - (intOf si).toNat)
  case atStart => exact ⟨0, _, _, Nat.zero_le _, rfl, HQ0.out, fun j hj => absurd hj (by omega), fun j p hj => absurd hj (by omega)⟩
  case round =>
    clear HQ0
    obtain ⟨i, zs, F, hiN, rfl, hQ, hZ, hP⟩ := hrel
    by_cases hlt : i < N
    · obtain ⟨p, hp⟩ : ∃ p, X[i]? = some p := ⟨_, List.getElem?_eq_getElem (by rw [HN.out]; exact hlt)⟩
      have HQs := hide (hQ.set i (i : Int))
      obtain ⟨y, hy, hcy, hfy⟩ := owns_cellAt hQ.row hlt
      have hlen := hQ.len
      have HZ2 : Hid (∀ j, j < i + 1 → (zs.set i (i : Int)).getD j 0 = (j : Int)) := fun j hj => by
        rw [getD_set (by omega)]
        by_cases e : i = j
        · rw [if_pos e, e]
        · rw [if_neg e]; exact hZ.out j (by omega)
      obtain ⟨pp, cc, hcp, hIp⟩ := HCL.out _ HQs.out.below i p hp
      have HRk := hide (rcut_rank n p (.slice pp n cc) _ h1 h12 (HFX.out i p hp) hIp)
      have hrk := rkP_le (n := n) p h12
      have HP2 : Hid (PlTo n X (i + 1) (upd F ((rkP n p : Nat) : Int) (.int .i64 (i : Int)))) := hP.out.step HRw.out hp
      generalize rkP n p = rk at *
      clear hQ hZ hP hp hIp hy hlen
      go_wp2_with fail
      refine HRk.out.mono ?_
      rintro ex w3 ⟨rfl, hb3⟩
      have hQ3 := HQs.out.later hb3
      have HM3 := hide hQ3.map
      have hcl : i < maxLen := by unfold maxLen; omega
      have HQ3 := hide hQ3
      clear hb3 hQ3 HRk HQs
      go_wp2_with (at_mapUpdate; refine wpList_put rfl _ _ _ 108 rfl 3 Try.underlying108 HM3.out hcl ((rk : Nat) : Int) (.int .i64 (i : Int)) rfl rfl rfl (by omega) (by omega) ?_)
      intro w4 hM4 hg4
      have HQ4 := hide (HQ3.out.put hM4 hg4)
      clear hM4 hg4 HQ3 HM3
      go_wp2
      go_roundw
      case rel =>
        have hfin : ∃ (i' : Nat) (zs : List Int) (F : Int → Option Value), i' ≤ N ∧ Value.int .i64 ((i : Int) + 1) = .int .i64 (i' : Int) ∧ QR w w4 N w1.heap.size i' zs F ∧ Hid (∀ j, j < i' → zs.getD j 0 = (j : Int)) ∧ Hid (PlTo n X i' F) := ⟨i + 1, _, _, hlt, by go_num, HQ4.out, HZ2, HP2⟩
        first
          | exact hfin
          | ((repeat apply Exists.intro); exact ⟨hfin, rfl⟩)
      case measure => simp [intOf]; omega
    · obtain rfl : N = i := by omega
      have HL0 : Hid (LabOk N (nx (mv X (a * b⁻¹))) (qs X a b) 0 (fun j => zs.getD j 0)) :=
        ⟨fun j k hj hk e => by
          rw [hZ.out j hj, hZ.out k hk] at e
          have : j = k := by omega
          rw [this], fun r hr => absurd hr (by omega), fun j hj => by show 0 ≤ zs.getD j 0 ∧ zs.getD j 0 < (N : Int); rw [hZ.out j hj]; exact ⟨by omega, by omega⟩⟩
      have HUn := hide (rcut_undo n b (.slice py n cy) wr h1 h12 hfb (HY.out.below hQ.below))
      have HQ := hide hQ
      clear hQ hZ
      go_wp2_with fail
      refine HUn.out.mono ?_
      rintro ex w5 ⟨u5, rfl, hown5, hb5⟩
      have HQ5 := hide (HQ.out.later hb5)
      have HU5 := hide (owns_base hown5 (show w.heap.size + 1 ≤ wr.heap.size from (HQ.out.row.lt w.heap.size rfl).2))
      obtain ⟨p5, c5, e5⟩ := owns_slice hown5
      subst e5
      clear hown5 hb5 HQ HUn
      go_wp2
      go_loopw [11] (fun si wr => ∃ (i : Nat) (zs : List Int), i ≤ N ∧ si = .int .i64 (i : Int) ∧ QR w wr N w1.heap.size N zs F ∧ Hid (LabOk N (nx (mv X (a * b⁻¹))) (qs X a b) i (fun j => zs.getD j 0)) ∧ Hid (wr.ownsRow (w.heap.size + 1) 3 1 (.slice p5 n c5) n ((cut n b⁻¹).map (Value.int .i64)))) (fun si _ => N - (intOf si).toNat)
      case atStart => exact ⟨0, zs, Nat.zero_le _, rfl, HQ5.out, HL0, HU5⟩
      case round =>
        clear HQ5 HL0 HU5
        obtain ⟨i, zs, hiN, rfl, hQ, hLb, hU⟩ := hrel
        by_cases hlt : i < N
        · obtain ⟨p, hp⟩ : ∃ p, X[i]? = some p := ⟨_, List.getElem?_eq_getElem (by rw [HN.out]; exact hlt)⟩
          obtain ⟨pp, cc, hcp, hIp⟩ := HCL.out wr hQ.below i p hp
          have hfp := HFX.out i p hp
          obtain ⟨hmem, hnx⟩ := HNX.out i p hp
          have HBy := hide (rcut_by n p a (.slice pp n cc) (.slice px n cx) wr h1 h12 hfp hfa hIp (HX.out.below hQ.below))
          have HQ := hide hQ
          have HFP := hide ((fixes_sub _).mul hfp hfa)
          have HFPB := hide ((fixes_sub _).mul ((fixes_sub _).mul hfp hfa) ((fixes_sub _).inv hfb))
          have HU := hU
          have hkl : ix X (p * a * b⁻¹) < N := by rw [← HN.out]; exact ix_lt hmem
          have HPK : Hid (F ((rkP n (p * a * b⁻¹) : Nat) : Int) = some (.int .i64 ((ix X (p * a * b⁻¹) : Nat) : Int))) := hP.out _ _ hkl (ix_get hmem)
          have hrk := rkP_le (n := n) (p * a * b⁻¹) h12
          have HNXI := hide hnx
          clear hQ hU hIp hfp hp hmem hnx
          go_wp2_with fail
          refine HBy.out.mono ?_
          rintro ex w6 ⟨u6, rfl, hown6, hb6⟩
          have HQ6 := hide (HQ.out.later hb6)
          have HU6 := hide (owns_below HU.out hb6 (Nat.le_refl _))
          have HBy2 := hide (rcut_by n (p * a) b⁻¹ u6 (.slice p5 n c5) w6 h1 h12 HFP.out ((fixes_sub _).inv hfb) (Ints.own hown6) (Ints.own HU6.out))
          obtain ⟨p6, c6, e6⟩ := owns_slice hown6
          subst e6
          clear hown6 hb6 HQ HU HBy hcp
          go_wp2_with fail
          refine HBy2.out.mono ?_
          rintro ex w7 ⟨u7, rfl, hown7, hb7⟩
          have HQ7 := hide (HQ6.out.later hb7)
          have HU7 := hide (owns_below HU6.out hb7 (Nat.le_refl _))
          have HRk := hide (rcut_rank n (p * a * b⁻¹) u7 w7 h1 h12 HFPB.out (Ints.own hown7))
          obtain ⟨p7, c7, e7⟩ := owns_slice hown7
          subst e7
          clear hown7 hb7 HQ6 HU6 HBy2
          go_wp2_with fail
          refine HRk.out.mono ?_
          rintro ex w8 ⟨rfl, hb8⟩
          have hQ8 := HQ7.out.later hb8
          have HU8 := hide (owns_below HU7.out hb8 (Nat.le_refl _))
          have hlk := hQ8.map.look Try.underlying108 (Try.zero3 w8) (a := ((rkP n (p * a * b⁻¹) : Nat) : Int)) (by omega) (by omega)
          rw [HPK.out] at hlk
          obtain ⟨z1, hz1', hcz1, hfz1⟩ := owns_cellAt hQ8.row hkl
          obtain ⟨z2, hz2', hcz2, hfz2⟩ := owns_cellAt hQ8.row hlt
          have HZ1 : Hid (zs.getD (nx (mv X (a * b⁻¹)) i) 0 = z1) := by rw [HNXI.out]; exact hz1'.out
          have HZ2 : Hid (zs.getD i 0 = z2) := hz2'.out
          have HQ8 := hide hQ8
          generalize ix X (p * a * b⁻¹) = kk at *
          generalize rkP n (p * a * b⁻¹) = rk at *
          have hd8 : Below w8.heap.size w8 w8.drew := (Below.refl _ _).drew
          clear hb8 hQ8 HQ7 HU7 HRk HPK hz1' hz2' HFP HFPB HNXI
          by_cases hzz : z1 = z2
          · have HLb2 : Hid (LabOk N (nx (mv X (a * b⁻¹))) (qs X a b) (i + 1) (fun j => zs.getD j 0)) := hLb.out.same (by show zs.getD _ 0 = zs.getD _ 0; rw [HZ1.out, HZ2.out, hzz])
            subst hzz
            have HQd := hide (HQ8.out.later hd8)
            have HUd := hide (owns_below HU8.out hd8 (Nat.le_refl _))
            clear hLb HQ8 HU8
            go_upto_region 13 with fail
            go_region
            go_wp2
            go_roundw
            case rel =>
              have hfin : ∃ (i' : Nat) (zs : List Int), i' ≤ N ∧ Value.int .i64 ((i : Int) + 1) = .int .i64 (i' : Int) ∧ QR w w8.drew N w1.heap.size N zs F ∧ Hid (LabOk N (nx (mv X (a * b⁻¹))) (qs X a b) i' (fun j => zs.getD j 0)) ∧ Hid (w8.drew.ownsRow (w.heap.size + 1) 3 1 (.slice p5 n c5) n ((cut n b⁻¹).map (Value.int .i64))) := ⟨i + 1, _, hlt, by go_num, HQd.out, HLb2, HUd⟩
              first
                | exact hfin
                | ((repeat apply Exists.intro); exact ⟨hfin, rfl⟩)
            case measure => simp [intOf]; omega
          · have hze : (z1 == z2) = false := beq_eq_false_iff_ne.2 hzz
            have HQd := hide (HQ8.out.later hd8)
            have HUd := hide (owns_below HU8.out hd8 (Nat.le_refl _))
            have hcd1 : w8.drew.cell? ⟨w.heap.size, kk, none⟩ = some (.int .i64 z1) := (hd8.cell (p := ⟨w.heap.size, kk, none⟩) (World.block_lt_of_cell? w8 _ hcz1)).trans hcz1
            have hcd2 : w8.drew.cell? ⟨w.heap.size, i, none⟩ = some (.int .i64 z2) := (hd8.cell (p := ⟨w.heap.size, i, none⟩) (World.block_lt_of_cell? w8 _ hcz2)).trans hcz2
            have hlen := HQ8.out.len
            clear HQ8 HU8 hzz
            go_upto_region 13 with fail
            go_region
            go_wp2
            go_loopw [15] (fun sm wr => ∃ (m : Nat) (ys : List Int), m ≤ N ∧ sm = .int .i64 (m : Int) ∧ QR w wr N w1.heap.size N ys F ∧ Hid (∀ j, j < N → ys.getD j 0 = relab (fun j => zs.getD j 0) z2 z1 m j) ∧ Hid (wr.ownsRow (w.heap.size + 1) 3 1 (.slice p5 n c5) n ((cut n b⁻¹).map (Value.int .i64)))) (fun sm _ => N - (intOf sm).toNat)
            case atStart => exact ⟨0, zs, Nat.zero_le _, rfl, HQd.out, fun j _ => by unfold relab; rw [if_neg (by omega)], HUd⟩
            case round =>
              clear HQd HUd
              obtain ⟨m, ys, hm, rfl, hQ, hY, hU⟩ := hrel
              by_cases hml : m < N
              · obtain ⟨y, hy, hcy, hfy⟩ := owns_cellAt hQ.row hml
                have hym : ys.getD m 0 = y := hy.out
                have hzm : zs.getD m 0 = y := by
                  have h9 := hY.out m hml
                  unfold relab at h9
                  rw [if_neg (by omega), hym] at h9
                  exact h9.symm
                have hyl := hQ.len
                by_cases hyz : y = z2
                · have HY2 : Hid (∀ j, j < N → (ys.set m z1).getD j 0 = relab (fun j => zs.getD j 0) z2 z1 (m + 1) j) := fun j hj => by
                    rw [getD_set (by omega)]
                    by_cases e : m = j
                    · subst e
                      rw [if_pos rfl]
                      unfold relab
                      rw [if_pos ⟨by omega, by rw [← hyz]; exact hzm⟩]
                    · rw [if_neg e, hY.out j hj]
                      unfold relab
                      by_cases c1 : j < m ∧ zs.getD j 0 = z2
                      · rw [if_pos c1, if_pos ⟨by omega, c1.2⟩]
                      · rw [if_neg c1, if_neg (fun h => c1 ⟨by omega, h.2⟩)]
                  have HQs := hide (hQ.set m z1)
                  have HUs : Hid ((wr.setCell ⟨w.heap.size, m, none⟩ (.int .i64 z1)).ownsRow (w.heap.size + 1) 3 1 (.slice p5 n c5) n ((cut n b⁻¹).map (Value.int .i64))) := ownsRow_setCell_below hU.out (by exact Nat.lt_succ_self _) _
                  subst hyz
                  clear hy hym hzm hyl hQ hY hU
                  go_wp2
                  go_roundw
                  case rel =>
                    have hfin : ∃ (m' : Nat) (ys : List Int), m' ≤ N ∧ Value.int .i64 ((m : Int) + 1) = .int .i64 (m' : Int) ∧ QR w (wr.setCell ⟨w.heap.size, m, none⟩ (.int .i64 z1)) N w1.heap.size N ys F ∧ Hid (∀ j, j < N → ys.getD j 0 = relab (fun j => zs.getD j 0) y z1 m' j) ∧ Hid ((wr.setCell ⟨w.heap.size, m, none⟩ (.int .i64 z1)).ownsRow (w.heap.size + 1) 3 1 (.slice p5 n c5) n ((cut n b⁻¹).map (Value.int .i64))) := ⟨m + 1, _, hml, by go_num, HQs.out, HY2, HUs⟩
                    first
                      | exact hfin
                      | ((repeat apply Exists.intro); exact ⟨hfin, rfl⟩)
                  case measure => simp [intOf]; omega
                · have HY2 : Hid (∀ j, j < N → ys.getD j 0 = relab (fun j => zs.getD j 0) z2 z1 (m + 1) j) := fun j hj => by
                    rw [hY.out j hj]
                    unfold relab
                    by_cases c1 : j < m ∧ zs.getD j 0 = z2
                    · rw [if_pos c1, if_pos ⟨by omega, c1.2⟩]
                    · rw [if_neg c1, if_neg (fun h => ?_)]
                      by_cases e : j = m
                      · subst e; exact hyz (by rw [← hzm]; exact h.2)
                      · exact c1 ⟨by omega, h.2⟩
                  have hyb : (y == z2) = false := beq_eq_false_iff_ne.2 hyz
                  have HQs := hide hQ
                  clear hy hym hzm hyl hQ hY hyz
                  go_wp2
                  go_roundw
                  case rel =>
                    have hfin : ∃ (m' : Nat) (ys : List Int), m' ≤ N ∧ Value.int .i64 ((m : Int) + 1) = .int .i64 (m' : Int) ∧ QR w wr N w1.heap.size N ys F ∧ Hid (∀ j, j < N → ys.getD j 0 = relab (fun j => zs.getD j 0) z2 z1 m' j) ∧ Hid (wr.ownsRow (w.heap.size + 1) 3 1 (.slice p5 n c5) n ((cut n b⁻¹).map (Value.int .i64))) := ⟨m + 1, _, hml, by go_num, HQs.out, HY2, hU⟩
                    first
                      | exact hfin
                      | ((repeat apply Exists.intro); exact ⟨hfin, rfl⟩)
                  case measure => simp [intOf]; omega
              · obtain rfl : N = m := by omega
                have HLb2 : Hid (LabOk N (nx (mv X (a * b⁻¹))) (qs X a b) (i + 1) (fun j => ys.getD j 0)) := by
                  have h9 := hLb.out.join HSts.out HSG.out hlt
                  have key : ∀ j, j < N → ys.getD j 0 = if zs.getD j 0 = zs.getD i 0 then zs.getD (nx (mv X (a * b⁻¹)) i) 0 else zs.getD j 0 := fun j hj => by
                    rw [hY.out j hj, HZ1.out, HZ2.out]
                    unfold relab
                    by_cases c1 : zs.getD j 0 = z2
                    · rw [if_pos ⟨hj, c1⟩, if_pos c1]
                    · rw [if_neg (fun h => c1 h.2), if_neg c1]
                  refine ⟨fun j k hj hk e => h9.sound j k hj hk ?_, fun r hr hrN => ?_, fun j hj => by show 0 ≤ ys.getD j 0 ∧ ys.getD j 0 < (N : Int); rw [key j hj]; exact h9.bnd j hj⟩
                  · show (if _ then _ else _) = (if _ then _ else _)
                    rw [← key j hj, ← key k hk]; exact e
                  · have h8 := h9.full r hr hrN
                    show ys.getD _ 0 = ys.getD _ 0
                    rw [key _ (HSG.out r hrN), key r hrN]; exact h8
                have HQs := hide hQ
                clear hY hQ
                go_wp2
                go_roundw
                case rel =>
                  have hfin : ∃ (i' : Nat) (zs : List Int), i' ≤ N ∧ Value.int .i64 ((i : Int) + 1) = .int .i64 (i' : Int) ∧ QR w wr N w1.heap.size N zs F ∧ Hid (LabOk N (nx (mv X (a * b⁻¹))) (qs X a b) i' (fun j => zs.getD j 0)) ∧ Hid (wr.ownsRow (w.heap.size + 1) 3 1 (.slice p5 n c5) n ((cut n b⁻¹).map (Value.int .i64))) := ⟨i + 1, _, hlt, by go_num, HQs.out, HLb2, hU⟩
                  first
                    | exact hfin
                    | ((repeat apply Exists.intro); exact ⟨hfin, rfl⟩)
                case measure => simp [intOf]; omega
        · obtain rfl : N = i := by omega
          have HLF : Hid (LabOk (mv X (a * b⁻¹)).length (nx (mv X (a * b⁻¹))) ((cycsTo (mv X (a * b⁻¹)) (mv X (a * b⁻¹)).length).map srt) (mv X (a * b⁻¹)).length (fun j => zs.getD j 0)) := by
            show LabOk _ _ _ _ _
            rw [HQS.out, HML.out]; exact hLb.out
          have HRowO := hide hQ.row
          have HBQ := hide hQ.below
          have hwlt : w.heap.size < wr.heap.size := (hQ.row.lt w.heap.size rfl).2
          have HDN : Hid (outTo (mv X (a * b⁻¹)) N = qs X a b) := by
            have h9 := outTo_done HMr.out
            rw [HQS.out, HML.out] at h9
            exact h9
          have HQO0 : Hid (QO (wr.alloc (.map #[] 0)) (wr.alloc (.map #[] 0)) wr.heap.size 0 (.slice none 0 0) [] [] (fun _ => none)) := ⟨LL.nil _ _, by simp, IMap.made wr, Frm.refl _ _ _ _⟩
          have HNum0 : Hid (NumL (mv X (a * b⁻¹)) (fun j => zs.getD j 0) 0 (fun _ => none)) := ⟨fun j hj => absurd hj (by omega), fun _ _ => rfl⟩
          have hsz : (wr.alloc (.map #[] 0)).heap.size = wr.heap.size + 1 := by simp
          have HBA : Hid (Below wr.heap.size wr (wr.alloc (.map #[] 0))) := (Below.refl _ _).alloc (Nat.le_refl _) _
          obtain ⟨M2, hM2⟩ : ∃ M2, M2 = wr.heap.size := ⟨_, rfl⟩
          rw [← hM2] at HQO0 hsz hwlt
          clear hQ hLb hU
          generalize hr : mv X (a * b⁻¹) = r at *
          clear hr
          rw [HML.out] at HLF HQS
          go_wp2
          generalize hWo : wr.alloc (.map #[] 0) = Wo at *
          have HSZ := hide hsz
          have hMo : M2 < Wo.heap.size := by omega
          have HOF : Hid (∀ W, Frm Wo.heap.size M2 M2 Wo W → ∀ j, j < N → W.cell? ⟨w.heap.size, j, none⟩ = some (.int .i64 (zs.getD j 0))) := fun W hW j hj => by
            have h9 := (owns_cell HRowO.out hj).1
            have hblk : W.heap[w.heap.size]? = wr.heap[w.heap.size]? := (hW.block w.heap.size (by omega) (by omega) (by omega)).trans (HBA.out.block w.heap.size (by omega))
            rw [World.cell?_of_block (w := wr) (a := ⟨w.heap.size, j, none⟩) hblk]
            exact h9
          have HBF : Hid (∀ W, Frm Wo.heap.size M2 M2 Wo W → Below w.heap.size w W) := fun W hW => HBQ.out.trans ((HBA.out.mono (by omega)).trans (hW.below (by omega) (by omega) (by omega)))
          clear hWo hsz HRowO HBQ HBA
          rw [← hM2]
          clear hM2
          go_loopw [16, 18] (fun sv si wr => ∃ (i cnt : Nat) (vs : List Value) (F : Int → Option Value), i ≤ N ∧ cnt ≤ i ∧ si = .int .i64 (i : Int) ∧ QO Wo wr M2 cnt sv vs (outTo r i) F ∧ Hid (NumL r (fun j => zs.getD j 0) i F)) (fun _ si _ => N - (intOf si).toNat)
          case atStart => exact ⟨0, 0, [], _, Nat.zero_le _, Nat.le_refl _, rfl, HQO0.out, HNum0⟩
          case round =>
            clear HQO0 HNum0
            obtain ⟨i, cnt, vs, F2, hiN, hcnt, rfl, hQ, hNm⟩ := hrel
            by_cases hlt : i < N
            · have hcz := HOF.out wr hQ.frm i hlt
              have hirl : i < r.length := by rw [HML.out]; exact hlt
              have HLFr : Hid (LabOk r.length (nx r) ((cycsTo r r.length).map srt) r.length (fun j => zs.getD j 0)) := by show LabOk _ _ _ _ _; rw [HML.out]; exact HLF.out
              have hbd := HLF.out.bnd i hlt
              have hbd' : 0 ≤ zs.getD i 0 ∧ zs.getD i 0 < (N : Int) := hbd
              have hlk := hQ.map.look_ok Try.underlying108 (Try.zero3 wr) (a := zs.getD i 0) (by omega) (by omega)
              have hol : (outTo r i).length ≤ i := by unfold outTo; rw [List.length_map]; exact cycsTo_length _ _
              by_cases hin : (i : Int) ∈ (cycsTo r i).flatten
              · obtain ⟨hF2, hN2⟩ := hNm.out.known HMr.out HLFr.out hirl hin
                have hF2' : F2 (zs.getD i 0) = some (.int .i64 ((sof (cycsTo r i) i : Nat) : Int)) := hF2
                rw [hF2'] at hlk
                obtain ⟨C, hC, hiC⟩ := sof_at HMr.out (by omega) hin
                have hko : (outTo r i)[sof (cycsTo r i) i]? = some (asc i C) := by unfold outTo; rw [List.getElem?_map, hC]; rfl
                have HO2 : Hid (outTo r (i + 1) = (outTo r i).set (sof (cycsTo r i) i) (asc i C ++ [(i : Int)])) := outTo_in HMr.out hirl hC hiC
                generalize sof (cycsTo r i) i = kk at *
                have hkl := (List.getElem?_eq_some_iff.1 hko).1
                have hgX : (outTo r i).getD kk [] = asc i C := by rw [List.getD, hko]; rfl
                have hal : (asc i C).length ≤ i := by
                  unfold asc
                  rw [List.length_map]
                  have := List.length_filter_le (fun j => decide (((j : Nat) : Int) ∈ C)) (List.range i)
                  rw [List.length_range] at this
                  exact this
                have hat := hQ.out.at hkl
                rw [hgX] at hat
                have hrr := hQ.out.row
                rw [hQ.out.len] at hrr
                obtain ⟨gv, cv, ev, hv1, hv2, hv3, hv4⟩ := owns_form hrr (by omega)
                subst ev
                have hcuA := owns_val hrr hkl
                have HQ := hide hQ
                have HN2 := hide hN2
                have HKL := hide hkl
                have HLL := hide hQ.out.len
                generalize hol2 : (outTo r i).length = ol at *
                have HOL := hide hol2
                generalize zs.getD i 0 = zi at *
                generalize hX9 : asc i C = X9 at *
                clear hQ hNm hC hiC hko hgX hrr hin hF2 hF2' hN2 hbd hol2 hX9
                have HRU := hide hat
                obtain ⟨puA, cuA, epuA⟩ := owns_slice HRU.out
                have hssA := HQ.out.frm.size
                have HUK : Hid (vs.getD kk undef = .slice puA X9.length cuA) := epuA
                rw [epuA] at hcuA HRU
                generalize hxlA : X9.length = xlA at *
                have HXLA := hide hxlA
                clear hxlA epuA
                go_wp2_with (at_builtin; refine wpList_append_keep _ rfl _ _ 23 rfl Wo.heap.size 3 j0 (.int .i64 0) 1 8 Try.underlying23 hji hjz0 hjz1 hjz2 rfl (by decide) _ xlA (X9.map (Value.int .i64)) rfl (HRU.out.alloc _) ⟨wr.heap.size, 0, none⟩ 1 1 [.int .i64 (i : Int)] rfl rfl (cell_one_new _ _ _) (by intro u hu; simp at hu; subst hu; rfl) (by unfold maxLen; omega) (by omega) (by simp; omega) ?_)
                intro u9 w9 hown9 hg9 hp9
                have hown9' : w9.ownsRow Wo.heap.size 3 1 u9 (X9 ++ [(i : Int)]).length ((X9 ++ [(i : Int)]).map (Value.int .i64)) := by rw [List.length_append, List.map_append, HXLA.out]; exact hown9
                obtain ⟨hQ9, ⟨y9, hcy9⟩, hfy9⟩ := HQ.out.grow hMo (k := kk) (by rw [HOL.out]; exact HKL.out) HUK.out hown9' hg9 (hp9.imp id (fun h => ⟨by rw [h.1]; simp, h.2⟩))
                obtain ⟨p9, c9, e9⟩ := owns_slice hown9'
                rw [List.length_append, List.length_singleton, HXLA.out] at e9
                subst e9
                have HQ9 := hide hQ9
                clear hown9 hown9' hg9 hp9 hQ9 HRU HUK
                go_wp2
                go_roundw
                case rel =>
                  have hfin : ∃ (i' cnt : Nat) (vs : List Value) (F : Int → Option Value), i' ≤ N ∧ cnt ≤ i' ∧ Value.int .i64 ((i : Int) + 1) = .int .i64 (i' : Int) ∧ QO Wo (w9.setCell ⟨gv, kk, none⟩ (.slice p9 (xlA + 1) c9)) M2 cnt (.slice (some ⟨gv, 0, none⟩) ol cv) vs (outTo r i') F ∧ Hid (NumL r (fun j => zs.getD j 0) i' F) := ⟨i + 1, cnt, _, F2, hlt, by omega, by go_num, by rw [HO2.out]; exact HQ9.out, HN2⟩
                  first
                    | exact hfin
                    | ((repeat apply Exists.intro); exact ⟨hfin, rfl⟩)
                case measure => simp [intOf]; omega
              · obtain ⟨hF2, hN2⟩ := hNm.out.fresh HMr.out HLFr.out hirl hin
                have hF2' : F2 (zs.getD i 0) = none := hF2
                rw [hF2'] at hlk
                have HO2 : Hid (outTo r (i + 1) = outTo r i ++ [[(i : Int)]]) := outTo_new HMr.out hirl hin
                have hcl : (cycsTo r i).length = (outTo r i).length := by unfold outTo; rw [List.length_map]
                rw [hcl] at hN2
                have HN2 := hide hN2
                have hrr := hQ.out.row
                rw [hQ.out.len] at hrr
                obtain ⟨pv, cv, ev⟩ := owns_slice hrr
                subst ev
                have HQ := hide hQ
                have HMP := hide hQ.map
                have hcl2 : cnt < maxLen := by unfold maxLen; omega
                have HZI : Hid (∀ W, Frm Wo.heap.size M2 M2 Wo W → W.cell? ⟨w.heap.size, i, none⟩ = some (.int .i64 (zs.getD i 0))) := fun W hW => HOF.out W hW i hlt
                have hN2' : Hid (NumL r (fun j => zs.getD j 0) (i + 1) (upd F2 (zs.getD i 0) (.int .i64 (((outTo r i).length : Nat) : Int)))) := HN2
                generalize hol2 : (outTo r i).length = ol at *
                have HOL := hide hol2
                generalize hzi : zs.getD i 0 = zi at *
                clear hQ hNm hrr hin hF2 hF2' hN2 hbd hcl hol2 HN2 hzi
                go_wp2_with (at_mapUpdate; refine wpList_put rfl _ _ _ 108 rfl 3 Try.underlying108 HMP.out hcl2 zi (.int .i64 (ol : Int)) rfl rfl rfl (by omega) (by omega) ?_)
                intro w3 hM3 hg3
                have hQ3 := HQ.out.put hM3 hg3
                have hrr := hQ3.out.row
                rw [hQ3.out.len, HOL.out] at hrr
                have HRow3 := hide hrr
                have HQ3 := hide hQ3
                have hs3 := hQ3.frm.size
                have HVL : Hid (vs.length = ol) := by show _ = _; rw [hQ3.out.len]; exact HOL.out
                clear hM3 hg3 HQ HMP hQ3 hrr hlk hcz
                go_wp2_with (at_builtin; refine wpList_append_own _ rfl _ _ 22 rfl Wo.heap.size 23 i0 (.slice none 0 0) 1 24 Try.underlying22 hi hz0 hz1 hz2 rfl (by decide) _ ol vs rfl (HRow3.out.alloc _) ⟨w3.heap.size, 0, none⟩ 1 1 [.slice none 0 0] rfl rfl (cell_one_new _ _ _) (by intro u hu; simp at hu; subst hu; rfl) (by unfold maxLen; omega) (by omega) (by simp; omega) ?_)
                intro v4 w4 hown4 hg4 _
                have hQ4 := HQ3.out.more hMo (by rw [HVL.out]; exact hown4) hg4
                obtain ⟨gv, cv4, ev4, hv1, hv2, hv3, hv4⟩ := owns_form hown4 (by omega)
                subst ev4
                have hkl : ol < (outTo r i ++ [[]]).length := by rw [List.length_append, HOL.out]; simp
                have hgX : (outTo r i ++ [[]]).getD ol [] = ([] : List Int) := by rw [List.getD, List.getElem?_append_right (by rw [HOL.out]; exact Nat.le_refl _), HOL.out, Nat.sub_self]; rfl
                have hat := hQ4.out.at hkl
                rw [hgX] at hat
                have hcuB := owns_val hown4 (j := ol) (by omega)
                obtain ⟨X9, hX9⟩ : ∃ X9 : List Int, X9 = [] := ⟨_, rfl⟩
                rw [← hX9] at hat
                have HX9 := hide hX9
                have hal : X9.length ≤ 1000 := by rw [hX9]; simp
                have HQ := hide hQ4
                have HKL := hide hkl
                generalize hvs4 : vs ++ [Value.slice none 0 0] = vs4 at *
                generalize hA4 : outTo r i ++ [[]] = A4 at *
                have HA4 := hide hA4
                clear hown4 hg4 hQ4 HQ3 HRow3 hgX hX9 hvs4 hA4
                have HRU := hide hat
                obtain ⟨puB, cuB, epuB⟩ := owns_slice HRU.out
                have hssB := HQ.out.frm.size
                have HUK : Hid (vs4.getD ol undef = .slice puB X9.length cuB) := epuB
                rw [epuB] at hcuB HRU
                generalize hxlB : X9.length = xlB at *
                have HXLB := hide hxlB
                clear hxlB epuB
                go_wp2_with (at_builtin; refine wpList_append_keep _ rfl _ _ 23 rfl Wo.heap.size 3 j0 (.int .i64 0) 1 8 Try.underlying23 hji hjz0 hjz1 hjz2 rfl (by decide) _ xlB (X9.map (Value.int .i64)) rfl (HRU.out.alloc _) ⟨w4.heap.size, 0, none⟩ 1 1 [.int .i64 (i : Int)] rfl rfl (cell_one_new _ _ _) (by intro u hu; simp at hu; subst hu; rfl) (by unfold maxLen; omega) (by omega) (by simp; omega) ?_)
                intro u9 w9 hown9 hg9 hp9
                have hown9' : w9.ownsRow Wo.heap.size 3 1 u9 (X9 ++ [(i : Int)]).length ((X9 ++ [(i : Int)]).map (Value.int .i64)) := by rw [List.length_append, List.map_append, HXLB.out]; exact hown9
                obtain ⟨hQ9, ⟨y9, hcy9⟩, hfy9⟩ := HQ.out.grow hMo (k := ol) (by exact HKL.out) HUK.out hown9' hg9 (hp9.imp id (fun h => ⟨by rw [h.1]; simp, h.2⟩))
                obtain ⟨p9, c9, e9⟩ := owns_slice hown9'
                rw [List.length_append, List.length_singleton, HXLB.out] at e9
                subst e9
                have HQ9 := hide hQ9
                have HFX2 : Hid (QO Wo (w9.setCell ⟨gv, ol, none⟩ (.slice p9 (xlB + 1) c9)) M2 (cnt + 1) (.slice (some ⟨gv, 0, none⟩) (ol + 1) cv4) (vs4.set ol (.slice p9 (xlB + 1) c9)) (outTo r i ++ [[(i : Int)]]) (upd F2 zi (.int .i64 (ol : Int)))) := by
                  have h9 := HQ9.out
                  have e9 : A4.set ol (X9 ++ [(i : Int)]) = outTo r i ++ [[(i : Int)]] := by
                    rw [HX9.out, ← HA4.out, ← HOL.out, List.set_append_right _ _ (Nat.le_refl _), Nat.sub_self]
                    rfl
                  rw [e9] at h9
                  exact h9
                clear hown9 hown9' hg9 hp9 hQ9 HRU HUK
                go_wp2
                go_roundw
                case rel =>
                  have hfin : ∃ (i' cnt : Nat) (vs : List Value) (F : Int → Option Value), i' ≤ N ∧ cnt ≤ i' ∧ Value.int .i64 ((i : Int) + 1) = .int .i64 (i' : Int) ∧ QO Wo (w9.setCell ⟨gv, ol, none⟩ (.slice p9 (xlB + 1) c9)) M2 cnt (.slice (some ⟨gv, 0, none⟩) (ol + 1) cv4) vs (outTo r i') F ∧ Hid (NumL r (fun j => zs.getD j 0) i' F) := ⟨i + 1, cnt + 1, _, _, hlt, by omega, by go_num, by rw [HO2.out]; exact HFX2.out, hN2'⟩
                  first
                    | exact hfin
                    | ((repeat apply Exists.intro); exact ⟨hfin, rfl⟩)
                case measure => simp [intOf]; omega
            · obtain rfl : N = i := by omega
              have HI9 : Hid (IntsAll wr u16 (qs X a b)) := by have h9 := hQ.out.ints; rw [HDN.out] at h9; exact h9
              have HB9 := hide (HBF.out wr hQ.frm)
              clear hQ hNm
              go_wp2
              go_ret
              exact ⟨_, rfl, HI9.out, HB9.out⟩

end Go.Proofs.Ytimfoggjocajiaa

/- Contract: the answer's Circuits. -/
namespace Go.Proofs.Ytimfoggjocajiaa
open Go.RowKit

theorem filter_lt {p q : Nat → Bool} : ∀ (l : List Nat), (∀ i, i ∈ l → q i = true → p i = true) → (∃ m, m ∈ l ∧ p m = true ∧ q m = false) → (l.filter q).length < (l.filter p).length
  | [], _, ⟨m, h, _⟩ => by cases h
  | a :: l, h, ⟨m, hm, hp, hq⟩ => by
    have hle : (l.filter q).length ≤ (l.filter p).length := by
      have : ∀ l : List Nat, (∀ i, i ∈ l → q i = true → p i = true) → (l.filter q).length ≤ (l.filter p).length := fun l => by
        induction l with
        | nil => intro _; simp
        | cons b l ih =>
          intro h
          have := ih (fun i hi => h i (List.mem_cons_of_mem _ hi))
          rw [List.filter_cons, List.filter_cons]
          by_cases hb : q b = true
          · rw [if_pos hb, if_pos (h b List.mem_cons_self hb)]; simp; omega
          · rw [if_neg hb]
            split
            · simp; omega
            · exact this
      exact this l (fun i hi => h i (List.mem_cons_of_mem _ hi))
    rw [List.filter_cons, List.filter_cons]
    rcases List.mem_cons.1 hm with e | e
    · subst e
      rw [if_neg (by rw [hq]; decide), if_pos hp]
      simp; omega
    · have ih := filter_lt l (fun i hi => h i (List.mem_cons_of_mem _ hi)) ⟨m, e, hp, hq⟩
      by_cases hb : q a = true
      · rw [if_pos hb, if_pos (h a List.mem_cons_self hb)]; simp; omega
      · rw [if_neg hb]
        split
        · simp; omega
        · exact ih

/-- How many are not marked yet. -/
noncomputable def unm (D N : Nat) (w : World) : Nat := open Classical in ((List.range N).filter (fun i => decide (w.cell? ⟨D, i, none⟩ = some (.int .i64 0)))).length

theorem unm_set {w : World} {D N m : Nat} {zs : List Int} (h : w.ownsRow D 3 1 (.slice (some ⟨D, 0, none⟩) N N) N (zs.map (Value.int .i64))) (hm : m < N) (h0 : zs.getD m 0 = 0) : unm D N (w.setCell ⟨D, m, none⟩ (.int .i64 1)) < unm D N w := by
  classical
  have h2 := owns_set_int (m := m) h 1
  have hl : zs.length = N := by have h9 := h.1; rw [List.length_map] at h9; omega
  refine filter_lt _ (fun i hi hq => ?_) ⟨m, List.mem_range.2 hm, decide_eq_true ?_, decide_eq_false ?_⟩
  · have hi' := List.mem_range.1 hi
    have hq' := of_decide_eq_true hq
    rw [(owns_cell h2 hi').1, getD_set (by omega)] at hq'
    refine decide_eq_true ?_
    rw [(owns_cell h hi').1]
    by_cases e : m = i
    · rw [if_pos e] at hq'; simp at hq'
    · rw [if_neg e] at hq'; exact hq'
  · rw [(owns_cell h hm).1, h0]
  · rw [(owns_cell h2 hm).1, getD_set (by omega), if_pos rfl]
    simp

set_option maxRecDepth 20000 in
set_option maxHeartbeats 8000000 in
theorem rcirc_ok (n : Nat) (G : Pm → Prop) (X : List Pm) (a b : Pm) (vR vx vy vc : Value) (cs : List Int) (w : World) (hR : Rws n G X) (ha : G a) (hb : G b) (hX : IntsAll w vR (X.map (cut n))) (hx : Ints w vx (cut n a)) (hy : Ints w vy (cut n b)) (hc : Ints w vc cs) (hcl : cs.length = (qs X a b).length) :
    Calls Try.prog 51 #[vR, vx, vy, vc] w fun e w' => e = .returned (.int .i64 (((cycsTo (nxL X a b (qs X a b) cs) X.length).length : Nat) : Int)) ∧ Below w.heap.size w w' := by
  obtain ⟨j0, hji, hjz0, hjz1, hjz2⟩ := info_parts Try.info3
  have hmm := @run_makeMap Try.prog
  have h1 := hR.one
  have h12 := hR.twelve
  have hpos := hR.pos
  have hfew := hR.few
  have hfa := hR.fix a ha
  have hfb := hR.fix b hb
  have HQs := hide (rqsets_ok n G X a b vR vx vy w hR ha hb hX hx hy)
  obtain ⟨pR, cR, eR⟩ := hX.len
  rw [List.length_map] at eR
  subst eR
  obtain ⟨gR, oR, epR, -, hR1, hR2, hR3, hR4⟩ := hX.rowI (by rw [List.length_map]; exact hpos)
  subst epR
  rw [List.length_map] at hR1
  have HCL : Hid (∀ W, Below w.heap.size w W → ∀ i p, X[i]? = some p → ∃ pp cc, W.cell? ⟨gR, oR + i, none⟩ = some (.slice pp n cc) ∧ Ints W (.slice pp n cc) (cut n p)) := fun W hW i p hp => by
    obtain ⟨u, hu, hI⟩ := hR4 i (cut n p) (by rw [List.getElem?_map, hp]; rfl)
    obtain ⟨pp, cc, e⟩ := hI.form
    rw [cut_length h12] at e
    subst e
    exact ⟨pp, cc, (hW.cell (p := ⟨gR, oR + i, none⟩) hR3).trans hu, hI.below hW⟩
  obtain ⟨px, cx, ex1⟩ := hx.form
  rw [cut_length h12] at ex1
  subst ex1
  obtain ⟨py, cy, ey1⟩ := hy.form
  rw [cut_length h12] at ey1
  subst ey1
  obtain ⟨pc, cc, ec1⟩ := hc.form
  subst ec1
  have HX := hide hx
  have HY := hide hy
  have HC := hide hc
  have HRw := hide hR
  have HSts : Hid (Sts X.length (nx (mv X (a * b⁻¹))) (qs X a b)) := qs_sts hR ha hb
  have HNR := hide (nxL_row hR ha hb cs)
  have HFX : Hid (∀ i p, X[i]? = some p → Fixes (fun b => n ≤ b) p) := fun i p hp => hR.fix p ((hR.mem p).1 (List.mem_of_getElem? hp))
  have HTG : Hid (∀ (c : Int) (d : Pm) (i : Nat) (p : Pm), (c = 1 ∧ d = b) ∨ (c ≠ 1 ∧ d = a) → X[i]? = some p → p * d ∈ X ∧ Fixes (fun b => n ≤ b) (p * d) ∧ tgt X a b c i = ((ix X (p * d) : Nat) : Int)) := fun c d i p hcd hp => by
    have hpG := (hR.mem p).1 (List.mem_of_getElem? hp)
    rcases hcd with ⟨e1, e2⟩ | ⟨e1, e2⟩
    · subst e2
      refine ⟨hR.cls hb p (List.mem_of_getElem? hp), hR.fix _ (hR.sub.mul hpG hb), ?_⟩
      unfold tgt
      rw [if_pos e1, List.getD, mv_get hp]; rfl
    · subst e2
      refine ⟨hR.cls ha p (List.mem_of_getElem? hp), hR.fix _ (hR.sub.mul hpG ha), ?_⟩
      unfold tgt
      rw [if_neg e1, List.getD, mv_get hp]; rfl
  have HNL := hide (nxL_length X a b (qs X a b) cs)
  clear hx hy hR ha hb hX hR4 hc
  generalize hN : X.length = N at *
  have HN := hide hN
  clear hN
  generalize hal : (qs X a b).length = al at *
  have HAL := hide hal
  rw [hcl] at HC
  clear hal
  generalize hcl9 : cs.length = cl at *
  subst hcl
  have HCLN := hide hcl9
  clear hcl9
  go_enter Try.func51, Try.ntmps51
  go_wp2_with fail
  refine HQs.out.mono ?_
  rintro ex w1 ⟨u1, rfl, hI1, hb1⟩
  have HI1 := hide hI1
  have HB1 := hide hb1
  obtain ⟨pl, cl2, el⟩ := hI1.len
  rw [HAL.out] at el
  subst el
  have HM0 : Hid (IMap (w1.alloc (.map #[] 0)) w1.heap.size 0 (fun _ => none)) := IMap.made w1
  have HB0 : Hid (Below w1.heap.size w1 (w1.alloc (.map #[] 0))) := (Below.refl _ _).alloc (Nat.le_refl _) _
  clear hI1 hb1 HQs
  go_wp2
  go_loopw [11] (fun si wr => ∃ (i : Nat) (F : Int → Option Value), i ≤ N ∧ si = .int .i64 (i : Int) ∧ IMap wr w1.heap.size i F ∧ Hid (PlTo n X i F) ∧ Below w1.heap.size w1 wr) (fun si _ => N - (intOf si).toNat)
  case atStart => exact ⟨0, _, Nat.zero_le _, rfl, HM0.out, fun j p hj => absurd hj (by omega), HB0.out⟩
  case round =>
    clear HM0 HB0
    obtain ⟨i, F, hiN, rfl, hM, hP, hbi⟩ := hrel
    have hBi := HB1.out.trans (hbi.mono HB1.out.size)
    by_cases hlt : i < N
    · obtain ⟨p, hp⟩ : ∃ p, X[i]? = some p := ⟨_, List.getElem?_eq_getElem (by rw [HN.out]; exact hlt)⟩
      obtain ⟨pp, cc2, hcp, hIp⟩ := HCL.out wr hBi i p hp
      have HRk := hide (rcut_rank n p (.slice pp n cc2) wr h1 h12 (HFX.out i p hp) hIp)
      have hrk := rkP_le (n := n) p h12
      have HP2 : Hid (PlTo n X (i + 1) (upd F ((rkP n p : Nat) : Int) (.int .i64 (i : Int)))) := hP.out.step HRw.out hp
      have HM := hide hM
      have HBI := hide hbi
      generalize rkP n p = rk at *
      clear hM hP hp hIp hbi
      go_wp2_with fail
      refine HRk.out.mono ?_
      rintro ex w3 ⟨rfl, hb3⟩
      have HM3 := hide (HM.out.below hb3 HM.out.lt)
      have hcl3 : i < maxLen := by unfold maxLen; omega
      have HB3 := hide (HBI.out.trans (hb3.mono HBI.out.size))
      clear hb3 HRk HM HBI hBi
      go_wp2_with (at_mapUpdate; refine wpList_put rfl _ _ _ 108 rfl 3 Try.underlying108 HM3.out hcl3 ((rk : Nat) : Int) (.int .i64 (i : Int)) rfl rfl rfl (by omega) (by omega) ?_)
      intro w4 hM4 hg4
      have HM4 := hide hM4
      have HB4 := hide (HB3.out.grown hg4 HB3.out.size (fun k hk => by have := Option.some.inj hk; omega))
      clear hM4 hg4 HM3 HB3
      go_wp2
      go_roundw
      case rel =>
        have hfin : ∃ (i' : Nat) (F : Int → Option Value), i' ≤ N ∧ Value.int .i64 ((i : Int) + 1) = .int .i64 (i' : Int) ∧ IMap w4 w1.heap.size i' F ∧ Hid (PlTo n X i' F) ∧ Below w1.heap.size w1 w4 := ⟨i + 1, _, hlt, by go_num, HM4.out, HP2, HB4.out⟩
        first
          | exact hfin
          | ((repeat apply Exists.intro); exact ⟨hfin, rfl⟩)
      case measure => simp [intOf]; omega
    · obtain rfl : N = i := by omega
      obtain ⟨w2, hw2⟩ : ∃ w2, w2 = wr := ⟨_, rfl⟩
      subst hw2
      have HM2 := hide hM
      have HB2 := hide hBi
      have HI2 := hide (HI1.out.below hbi)
      clear hM hBi hbi HI1
      go_wp2_with (at_make; refine wpList_make_full _ rfl _ _ 23 rfl w2.heap.size 3 j0 (.int .i64 0) 1 Try.underlying23 hji hjz0 hjz1 _ _ _ _ N rfl rfl (by omega) (by omega) ?b2 ?b3 (Nat.le_refl _) ?_)
      case b2 => rw [hjz2]; omega
      case b3 => unfold maxLen; omega
      intro w3 hown3 hg3
      rw [made_ints] at hown3
      have HO3 := hide hown3
      have HB3 : Hid (Below w2.heap.size w2 w3) := (Below.refl _ _).grown hg3 (Nat.le_refl _) (fun k h => by cases h)
      have HNX0 : Hid (NxTo X a b (qs X a b) cs 0 0 (List.replicate N 0)) := NxTo.start _ _ _ _ _ _ (by rw [List.length_replicate, HN.out])
      clear hown3 hg3
      go_wp2
      go_loopw [13] (fun sk wr => ∃ (k : Nat) (zs : List Int), k ≤ cl ∧ sk = .int .i64 (k : Int) ∧ Hid (wr.ownsRow w2.heap.size 3 1 (.slice (some ⟨w2.heap.size, 0, none⟩) N N) N (zs.map (Value.int .i64))) ∧ Hid (NxTo X a b (qs X a b) cs k 0 zs) ∧ Below w2.heap.size w2 wr) (fun sk _ => cl - (intOf sk).toNat)
      case atStart => exact ⟨0, _, Nat.zero_le _, rfl, HO3, HNX0, HB3.out⟩
      case round =>
        clear HO3 HNX0 HB3
        obtain ⟨k, zs, hk, rfl, hO, hNx, hbk⟩ := hrel
        by_cases hlt : k < cl
        · obtain ⟨S, hS⟩ : ∃ S, (qs X a b)[k]? = some S := ⟨_, List.getElem?_eq_getElem (by rw [HAL.out]; exact hlt)⟩
          obtain ⟨gl, ol, epl, -, hl1, hl2, hl3, hl4⟩ := HI2.out.rowI (by rw [HAL.out]; omega)
          rw [HAL.out] at hl1
          subst epl
          obtain ⟨uS, hcS0, hIS⟩ := hl4 k S hS
          obtain ⟨pS, cS, epS⟩ := hIS.form
          obtain ⟨sl, hsl⟩ : ∃ sl, sl = S.length := ⟨_, rfl⟩
          rw [← hsl] at epS
          subst epS
          have HSL := hide hsl
          have HS := hide hS
          have HIS := hide hIS
          obtain ⟨bc, oc, epc, kc1, kc2, kc3, kc4⟩ := HC.out.open (by rw [HCLN.out]; omega)
          rw [HCLN.out] at kc1 kc4
          subst epc
          obtain ⟨c, hcv⟩ : ∃ c, c = cs.getD k 0 := ⟨_, rfl⟩
          have HCV := hide hcv
          have hBw := fun W (hW : Below w2.heap.size w2 W) => HB2.out.trans (hW.mono HB2.out.size)
          have HCC : Hid (∀ W, Below w2.heap.size w2 W → W.cell? ⟨bc, oc + k, none⟩ = some (.int .i64 c)) := fun W hW => by rw [hcv]; exact ((hBw W hW).cell (p := ⟨bc, oc + k, none⟩) kc3).trans (kc4 k hlt)
          have HBw := hide hBw
          have HCS : Hid (∀ W, Below w2.heap.size w2 W → W.cell? ⟨gl, ol + k, none⟩ = some (.slice pS sl cS)) := fun W hW => (hW.cell (p := ⟨gl, ol + k, none⟩) hl3).trans hcS0
          have HO := hO
          have HNx := hNx
          have HBK := hide hbk
          clear hl4 hcS0 hIS hS kc4 hsl hcv hBw hO hNx hbk
          go_wp2
          go_loopw [14] (fun sj wr => ∃ (j : Nat) (zs : List Int), j ≤ sl ∧ sj = .int .i64 (j : Int) ∧ Hid (wr.ownsRow w2.heap.size 3 1 (.slice (some ⟨w2.heap.size, 0, none⟩) N N) N (zs.map (Value.int .i64))) ∧ Hid (NxTo X a b (qs X a b) cs k j zs) ∧ Below w2.heap.size w2 wr) (fun sj _ => sl - (intOf sj).toNat)
          case atStart => exact ⟨0, zs, Nat.zero_le _, rfl, HO, HNx, HBK.out⟩
          case round =>
            clear HO HNx HBK
            obtain ⟨j, zs, hj, rfl, hO, hNx, hbj⟩ := hrel
            have hc1 := HCS.out wr hbj
            have hcc := HCC.out wr hbj
            by_cases hjs : j < sl
            · obtain ⟨y, hy⟩ : ∃ y, S[j]? = some y := ⟨_, List.getElem?_eq_getElem (by rw [← HSL.out]; exact hjs)⟩
              obtain ⟨r, hrN, er⟩ := HSts.out.below k S y HS.out (List.mem_of_getElem? hy)
              subst er
              obtain ⟨bS, oS, epS, ks1, ks2, ks3, ks4⟩ := HIS.out.open (by rw [← HSL.out]; omega)
              rw [← HSL.out] at ks1 ks4
              subst epS
              have hc2 : wr.cell? ⟨bS, oS + j, none⟩ = some (.int .i64 (r : Int)) := by
                have h9 := ks4 j hjs
                rw [List.getD, hy] at h9
                exact (hbj.cell (p := ⟨bS, oS + j, none⟩) ks3).trans h9
              obtain ⟨p, hp⟩ : ∃ p, X[r]? = some p := ⟨_, List.getElem?_eq_getElem (by rw [HN.out]; exact hrN)⟩
              obtain ⟨pp, cc2, hcp, hIp⟩ := HCL.out wr (HBw.out wr hbj) r p hp
              have hfp := HFX.out r p hp
              have hgl2 : gl < w2.heap.size := hl3
              have hbS2 : bS < w2.heap.size := ks3
              have hgR2 : gR < w2.heap.size := Nat.lt_of_lt_of_le hR3 HB2.out.size
              have key : ∀ (d : Pm) (pd : Option Addr) (cd : Nat), (c = 1 ∧ d = b) ∨ (c ≠ 1 ∧ d = a) → True := fun _ _ _ _ => trivial
              clear key
              by_cases hc1' : c = 1
              · obtain ⟨hmem, hfpd, htg⟩ := HTG.out c b r p (Or.inl ⟨hc1', rfl⟩) hp
                have hix : ix X (p * b) < N := by rw [← HN.out]; exact ix_lt hmem
                have HPK : Hid (F ((rkP n (p * b) : Nat) : Int) = some (.int .i64 ((ix X (p * b) : Nat) : Int))) := hP.out _ _ hix (ix_get hmem)
                have hrk := rkP_le (n := n) (p * b) h12
                have HNx2 : Hid (NxTo X a b (qs X a b) cs k (j + 1) (zs.set r ((ix X (p * b) : Nat) : Int))) := by
                  have h9 := hNx.out.step (show Sts X.length _ _ by rw [HN.out]; exact HSts.out) HS.out hy (by rw [HN.out]; exact hrN)
                  rw [← HCV.out, htg] at h9
                  exact h9
                have HFPD := hide hfpd
                have HFD := hide hfb
                have HID : Hid (∀ W, Below wr.heap.size wr W → Ints W (.slice py n cy) (cut n b)) := fun W hW => (HY.out.below (HBw.out wr hbj)).below hW
                have hceq : (c == 1) = true := by simpa using hc1'
                subst hc1'
                clear hmem hfpd htg hp hy
                have HBy := hide (fun W (hW : Below wr.heap.size wr W) => rcut_by n p b (.slice pp n cc2) (.slice py n cy) W h1 h12 hfp HFD.out (hIp.below hW) (HID.out W hW))
                have hd0 : Below wr.heap.size wr wr.drew := (Below.refl _ _).drew
                have HKP : Hid (∀ W, Below wr.heap.size wr W → (W.cell? ⟨gl, ol + k, none⟩ = some (.slice (some ⟨bS, oS, none⟩) sl cS) ∧ W.cell? ⟨bS, oS + j, none⟩ = some (.int .i64 (r : Int)) ∧ W.cell? ⟨gR, oR + r, none⟩ = some (.slice pp n cc2))) := fun W hW => ⟨(hW.cell (p := ⟨gl, ol + k, none⟩) (World.block_lt_of_cell? wr _ hc1)).trans hc1, (hW.cell (p := ⟨bS, oS + j, none⟩) (World.block_lt_of_cell? wr _ hc2)).trans hc2, (hW.cell (p := ⟨gR, oR + r, none⟩) (World.block_lt_of_cell? wr _ hcp)).trans hcp⟩
                have hcS := HKP.out wr (Below.refl _ _)
                have HMr : Hid (∀ W, Below wr.heap.size wr W → IMap W w1.heap.size N F) := fun W hW => (HM2.out.below hbj HM2.out.lt).below hW (Nat.lt_of_lt_of_le HM2.out.lt hbj.size)
                have HOr : Hid (∀ W, Below wr.heap.size wr W → W.ownsRow w2.heap.size 3 1 (.slice (some ⟨w2.heap.size, 0, none⟩) N N) N (zs.map (Value.int .i64))) := fun W hW => owns_below hO.out hW (Nat.le_refl _)
                have HBJ := hide hbj
                clear hIp hfp hO hNx
                go_upto_region 17 with fail
                refine wp_region_held_drew (S := fun W' => W'.cell? ⟨gl, ol + k, none⟩ = some (.slice (some ⟨bS, oS, none⟩) sl cS) ∧ W'.cell? ⟨bS, oS + j, none⟩ = some (.int .i64 (r : Int)) ∧ W'.cell? ⟨gR, oR + r, none⟩ = some (.slice pp n cc2)) (by kernel_rfl) hcS (fun hS => ?_)
                refine wpAnyH_take (i := 0) (v := .slice (some ⟨w2.heap.size, 0, none⟩) N N) rfl (by kernel_rfl) (by kernel_rfl) (by kernel_rfl) (fun _ _ _ h => h) (Or.inl ⟨by kernel_rfl, fun w' hS' => by clear hS'; go_simp⟩) hS ?_
                refine wpAnyH_take (i := 1) (v := .slice (some ⟨gl, ol, none⟩) cl cl2) rfl (by kernel_rfl) (by kernel_rfl) (by kernel_rfl) (fun _ _ _ h => h) (Or.inl ⟨by kernel_rfl, fun w' hS' => by clear hS'; go_simp⟩) hS ?_
                refine wpAnyH_take (i := 2) (v := .int .i64 (k : Int)) rfl (by kernel_rfl) (by kernel_rfl) (by kernel_rfl) (fun _ _ _ h => h) (Or.inl ⟨by kernel_rfl, fun w' hS' => by clear hS'; go_simp⟩) hS ?_
                refine wpAnyH_take (i := 3) (v := .pointer (some ⟨gl, ol + k, none⟩)) rfl (by kernel_rfl) (by kernel_rfl) (by kernel_rfl) (fun _ _ _ h => h) (Or.inl ⟨by kernel_rfl, fun w' hS' => by clear hS'; go_simp⟩) hS ?_
                refine wpAnyH_take (i := 4) (v := .slice (some ⟨bS, oS, none⟩) sl cS) rfl (by kernel_rfl) (by kernel_rfl) (by kernel_rfl) (fun _ _ _ h => h) (Or.inl ⟨by kernel_rfl, fun w' hS' => by obtain ⟨hS1', hS2', hS3'⟩ := hS'; go_simp⟩) hS ?_
                refine wpAnyH_take (i := 5) (v := .int .i64 (j : Int)) rfl (by kernel_rfl) (by kernel_rfl) (by kernel_rfl) (fun _ _ _ h => h) (Or.inl ⟨by kernel_rfl, fun w' hS' => by clear hS'; go_simp⟩) hS ?_
                refine wpAnyH_take (i := 6) (v := .pointer (some ⟨bS, oS + j, none⟩)) rfl (by kernel_rfl) (by kernel_rfl) (by kernel_rfl) (fun _ _ _ h => h) (Or.inl ⟨by kernel_rfl, fun w' hS' => by clear hS'; go_simp⟩) hS ?_
                refine wpAnyH_take (i := 7) (v := .int .i64 (r : Int)) rfl (by kernel_rfl) (by kernel_rfl) (by kernel_rfl) (fun _ _ _ h => h) (Or.inl ⟨by kernel_rfl, fun w' hS' => by obtain ⟨hS1', hS2', hS3'⟩ := hS'; go_simp⟩) hS ?_
                refine wpAnyH_take (i := 8) (v := .map (some w1.heap.size)) rfl (by kernel_rfl) (by kernel_rfl) (by kernel_rfl) (fun _ _ _ h => h) (Or.inl ⟨by kernel_rfl, fun w' hS' => by clear hS'; go_simp⟩) hS ?_
                refine wpAnyH_take (i := 9) (v := .slice (some ⟨gR, oR, none⟩) N cR) rfl (by kernel_rfl) (by kernel_rfl) (by kernel_rfl) (fun _ _ _ h => h) (Or.inl ⟨by kernel_rfl, fun w' hS' => by clear hS'; go_simp⟩) hS ?_
                refine wpAnyH_take (i := 10) (v := .slice (some ⟨gl, ol, none⟩) cl cl2) rfl (by kernel_rfl) (by kernel_rfl) (by kernel_rfl) (fun _ _ _ h => h) (Or.inl ⟨by kernel_rfl, fun w' hS' => by clear hS'; go_simp⟩) hS ?_
                refine wpAnyH_take (i := 11) (v := .int .i64 (k : Int)) rfl (by kernel_rfl) (by kernel_rfl) (by kernel_rfl) (fun _ _ _ h => h) (Or.inl ⟨by kernel_rfl, fun w' hS' => by clear hS'; go_simp⟩) hS ?_
                refine wpAnyH_take (i := 12) (v := .pointer (some ⟨gl, ol + k, none⟩)) rfl (by kernel_rfl) (by kernel_rfl) (by kernel_rfl) (fun _ _ _ h => h) (Or.inl ⟨by kernel_rfl, fun w' hS' => by clear hS'; go_simp⟩) hS ?_
                refine wpAnyH_take (i := 13) (v := .slice (some ⟨bS, oS, none⟩) sl cS) rfl (by kernel_rfl) (by kernel_rfl) (by kernel_rfl) (fun _ _ _ h => h) (Or.inl ⟨by kernel_rfl, fun w' hS' => by obtain ⟨hS1', hS2', hS3'⟩ := hS'; go_simp⟩) hS ?_
                refine wpAnyH_take (i := 14) (v := .int .i64 (j : Int)) rfl (by kernel_rfl) (by kernel_rfl) (by kernel_rfl) (fun _ _ _ h => h) (Or.inl ⟨by kernel_rfl, fun w' hS' => by clear hS'; go_simp⟩) hS ?_
                refine wpAnyH_take (i := 15) (v := .pointer (some ⟨bS, oS + j, none⟩)) rfl (by kernel_rfl) (by kernel_rfl) (by kernel_rfl) (fun _ _ _ h => h) (Or.inl ⟨by kernel_rfl, fun w' hS' => by clear hS'; go_simp⟩) hS ?_
                refine wpAnyH_take (i := 16) (v := .int .i64 (r : Int)) rfl (by kernel_rfl) (by kernel_rfl) (by kernel_rfl) (fun _ _ _ h => h) (Or.inl ⟨by kernel_rfl, fun w' hS' => by obtain ⟨hS1', hS2', hS3'⟩ := hS'; go_simp⟩) hS ?_
                refine wpAnyH_take (i := 17) (v := .pointer (some ⟨gR, oR + r, none⟩)) rfl (by kernel_rfl) (by kernel_rfl) (by kernel_rfl) (fun _ _ _ h => h) (Or.inl ⟨by kernel_rfl, fun w' hS' => by clear hS'; go_simp⟩) hS ?_
                refine wpAnyH_take (i := 18) (v := .slice pp n cc2) rfl (by kernel_rfl) (by kernel_rfl) (by kernel_rfl) (fun _ _ _ h => h) (Or.inl ⟨by kernel_rfl, fun w' hS' => by obtain ⟨hS1', hS2', hS3'⟩ := hS'; go_simp⟩) hS ?_
                refine wpAnyH_take (i := 19) (v := .slice py n cy) rfl (by kernel_rfl) (by kernel_rfl) (by kernel_rfl) (fun _ _ _ h => h) (Or.inl ⟨by kernel_rfl, fun w' hS' => by clear hS'; go_simp⟩) hS ?_
                refine wpAnyH_ready (rs := [20]) (by kernel_rfl) (by simp) ?_
                refine AllReadyH.cons rfl (fun K hK => ?_) AllReadyH.nil
                go_simp
                refine (HBy.out wr.drew hd0).mono ?_
                rintro ex w6 ⟨u6, rfl, hown6, hb6⟩
                have hb6' := hd0.trans hb6
                have HRk := hide (rcut_rank n (p * b) u6 w6 h1 h12 HFPD.out (Ints.own hown6))
                refine hK.out _ _ (HKP.out w6 hb6') (fun hS => ?_)
                clear hK hown6 HBy
                refine wpAnyH_ready (rs := [21]) (by kernel_rfl) (by simp) ?_
                refine AllReadyH.cons rfl (fun K hK => ?_) AllReadyH.nil
                go_simp
                refine HRk.out.mono ?_
                rintro ex w7 ⟨rfl, hb7⟩
                have hb7' := hb6'.trans (hb7.mono hb6'.size)
                refine hK.out _ _ (HKP.out w7 hb7') (fun hS => ?_)
                clear hK HRk hb6 hb7 hb6'
                refine wpAnyH_ready (rs := [22]) (by kernel_rfl) (by simp) ?_
                refine AllReadyH.cons rfl (fun K hK => ?_) AllReadyH.nil
                have hlk := (HMr.out w7 hb7').look Try.underlying108 (Try.zero3 w7) (a := ((rkP n (p * b) : Nat) : Int)) (by omega) (by omega)
                rw [HPK.out] at hlk
                go_simp
                refine hK.out _ _ (HKP.out w7 hb7') (fun hS => ?_)
                clear hK
                refine wpAnyH_take (i := 23) (v := .pointer (some ⟨w2.heap.size, r, none⟩)) rfl (by kernel_rfl) (by kernel_rfl) (by kernel_rfl) (fun _ _ _ h => h) (Or.inl ⟨by kernel_rfl, fun w' hS' => by clear hS'; go_simp⟩) hS ?_
                refine wpAnyH_ready (rs := [24]) (by kernel_rfl) (by simp) ?_
                refine AllReadyH.cons rfl (fun K hK => ?_) AllReadyH.nil
                have hO7 := HOr.out w7 hb7'
                obtain ⟨y7, _, hcy7, hfy7⟩ := owns_cellAt hO7 hrN
                have HO8 := hide (owns_set_int (m := r) hO7 (((ix X (p * b) : Nat) : Int)))
                have hb27 := HBJ.out.trans (hb7'.mono HBJ.out.size)
                have HB8 : Hid (Below w2.heap.size w2 (w7.setCell ⟨w2.heap.size, r, none⟩ (.int .i64 ((ix X (p * b) : Nat) : Int)))) := hb27.setCell (Nat.le_refl _) _
                obtain ⟨ks1, ks2, ks3⟩ := HKP.out w7 hb7'
                go_simp
                refine hK.out _ _ ⟨?_, ?_, ?_⟩ (fun hS => ?_)
                · rw [World.cell?_setCell_other _ _ _ _ (by intro h; simp only [Addr.mk.injEq] at h; omega)]; exact ks1
                · rw [World.cell?_setCell_other _ _ _ _ (by intro h; simp only [Addr.mk.injEq] at h; omega)]; exact ks2
                · rw [World.cell?_setCell_other _ _ _ _ (by intro h; simp only [Addr.mk.injEq] at h; omega)]; exact ks3
                clear hK hS hlk hO7 hcy7 hfy7 ks1 ks2 ks3 hb27 hb7' HKP HMr HOr HBJ hcS
                refine wpAnyH_done (by kernel_rfl) ?_ _
                generalize ((ix X (p * b) : Nat) : Int) = zz at *
                go_wp2
                go_roundw
                case rel =>
                  have hfin : ∃ (j' : Nat) (zs : List Int), j' ≤ sl ∧ Value.int .i64 ((j : Int) + 1) = .int .i64 (j' : Int) ∧ Hid ((w7.setCell ⟨w2.heap.size, r, none⟩ (.int .i64 zz)).ownsRow w2.heap.size 3 1 (.slice (some ⟨w2.heap.size, 0, none⟩) N N) N (zs.map (Value.int .i64))) ∧ Hid (NxTo X a b (qs X a b) cs k j' zs) ∧ Below w2.heap.size w2 (w7.setCell ⟨w2.heap.size, r, none⟩ (.int .i64 zz)) := ⟨j + 1, _, hjs, by go_num, HO8, HNx2, HB8.out⟩
                  first
                    | exact hfin
                    | ((repeat apply Exists.intro); exact ⟨hfin, rfl⟩)
                case measure => simp [intOf]; omega
              · obtain ⟨hmem, hfpd, htg⟩ := HTG.out c a r p (Or.inr ⟨hc1', rfl⟩) hp
                have hix : ix X (p * a) < N := by rw [← HN.out]; exact ix_lt hmem
                have HPK : Hid (F ((rkP n (p * a) : Nat) : Int) = some (.int .i64 ((ix X (p * a) : Nat) : Int))) := hP.out _ _ hix (ix_get hmem)
                have hrk := rkP_le (n := n) (p * a) h12
                have HNx2 : Hid (NxTo X a b (qs X a b) cs k (j + 1) (zs.set r ((ix X (p * a) : Nat) : Int))) := by
                  have h9 := hNx.out.step (show Sts X.length _ _ by rw [HN.out]; exact HSts.out) HS.out hy (by rw [HN.out]; exact hrN)
                  rw [← HCV.out, htg] at h9
                  exact h9
                have HFPD := hide hfpd
                have HFD := hide hfa
                have HID : Hid (∀ W, Below wr.heap.size wr W → Ints W (.slice px n cx) (cut n a)) := fun W hW => (HX.out.below (HBw.out wr hbj)).below hW
                have hceq : (c == 1) = false := beq_eq_false_iff_ne.2 hc1'
                clear hc1'
                clear hmem hfpd htg hp hy
                have HBy := hide (fun W (hW : Below wr.heap.size wr W) => rcut_by n p a (.slice pp n cc2) (.slice px n cx) W h1 h12 hfp HFD.out (hIp.below hW) (HID.out W hW))
                have hd0 : Below wr.heap.size wr wr.drew := (Below.refl _ _).drew
                have HKP : Hid (∀ W, Below wr.heap.size wr W → (W.cell? ⟨gl, ol + k, none⟩ = some (.slice (some ⟨bS, oS, none⟩) sl cS) ∧ W.cell? ⟨bS, oS + j, none⟩ = some (.int .i64 (r : Int)) ∧ W.cell? ⟨gR, oR + r, none⟩ = some (.slice pp n cc2))) := fun W hW => ⟨(hW.cell (p := ⟨gl, ol + k, none⟩) (World.block_lt_of_cell? wr _ hc1)).trans hc1, (hW.cell (p := ⟨bS, oS + j, none⟩) (World.block_lt_of_cell? wr _ hc2)).trans hc2, (hW.cell (p := ⟨gR, oR + r, none⟩) (World.block_lt_of_cell? wr _ hcp)).trans hcp⟩
                have hcS := HKP.out wr (Below.refl _ _)
                have HMr : Hid (∀ W, Below wr.heap.size wr W → IMap W w1.heap.size N F) := fun W hW => (HM2.out.below hbj HM2.out.lt).below hW (Nat.lt_of_lt_of_le HM2.out.lt hbj.size)
                have HOr : Hid (∀ W, Below wr.heap.size wr W → W.ownsRow w2.heap.size 3 1 (.slice (some ⟨w2.heap.size, 0, none⟩) N N) N (zs.map (Value.int .i64))) := fun W hW => owns_below hO.out hW (Nat.le_refl _)
                have HBJ := hide hbj
                clear hIp hfp hO hNx
                go_upto_region 17 with fail
                refine wp_region_held_drew (S := fun W' => W'.cell? ⟨gl, ol + k, none⟩ = some (.slice (some ⟨bS, oS, none⟩) sl cS) ∧ W'.cell? ⟨bS, oS + j, none⟩ = some (.int .i64 (r : Int)) ∧ W'.cell? ⟨gR, oR + r, none⟩ = some (.slice pp n cc2)) (by kernel_rfl) hcS (fun hS => ?_)
                refine wpAnyH_take (i := 0) (v := .slice (some ⟨w2.heap.size, 0, none⟩) N N) rfl (by kernel_rfl) (by kernel_rfl) (by kernel_rfl) (fun _ _ _ h => h) (Or.inl ⟨by kernel_rfl, fun w' hS' => by clear hS'; go_simp⟩) hS ?_
                refine wpAnyH_take (i := 1) (v := .slice (some ⟨gl, ol, none⟩) cl cl2) rfl (by kernel_rfl) (by kernel_rfl) (by kernel_rfl) (fun _ _ _ h => h) (Or.inl ⟨by kernel_rfl, fun w' hS' => by clear hS'; go_simp⟩) hS ?_
                refine wpAnyH_take (i := 2) (v := .int .i64 (k : Int)) rfl (by kernel_rfl) (by kernel_rfl) (by kernel_rfl) (fun _ _ _ h => h) (Or.inl ⟨by kernel_rfl, fun w' hS' => by clear hS'; go_simp⟩) hS ?_
                refine wpAnyH_take (i := 3) (v := .pointer (some ⟨gl, ol + k, none⟩)) rfl (by kernel_rfl) (by kernel_rfl) (by kernel_rfl) (fun _ _ _ h => h) (Or.inl ⟨by kernel_rfl, fun w' hS' => by clear hS'; go_simp⟩) hS ?_
                refine wpAnyH_take (i := 4) (v := .slice (some ⟨bS, oS, none⟩) sl cS) rfl (by kernel_rfl) (by kernel_rfl) (by kernel_rfl) (fun _ _ _ h => h) (Or.inl ⟨by kernel_rfl, fun w' hS' => by obtain ⟨hS1', hS2', hS3'⟩ := hS'; go_simp⟩) hS ?_
                refine wpAnyH_take (i := 5) (v := .int .i64 (j : Int)) rfl (by kernel_rfl) (by kernel_rfl) (by kernel_rfl) (fun _ _ _ h => h) (Or.inl ⟨by kernel_rfl, fun w' hS' => by clear hS'; go_simp⟩) hS ?_
                refine wpAnyH_take (i := 6) (v := .pointer (some ⟨bS, oS + j, none⟩)) rfl (by kernel_rfl) (by kernel_rfl) (by kernel_rfl) (fun _ _ _ h => h) (Or.inl ⟨by kernel_rfl, fun w' hS' => by clear hS'; go_simp⟩) hS ?_
                refine wpAnyH_take (i := 7) (v := .int .i64 (r : Int)) rfl (by kernel_rfl) (by kernel_rfl) (by kernel_rfl) (fun _ _ _ h => h) (Or.inl ⟨by kernel_rfl, fun w' hS' => by obtain ⟨hS1', hS2', hS3'⟩ := hS'; go_simp⟩) hS ?_
                refine wpAnyH_take (i := 8) (v := .map (some w1.heap.size)) rfl (by kernel_rfl) (by kernel_rfl) (by kernel_rfl) (fun _ _ _ h => h) (Or.inl ⟨by kernel_rfl, fun w' hS' => by clear hS'; go_simp⟩) hS ?_
                refine wpAnyH_take (i := 9) (v := .slice (some ⟨gR, oR, none⟩) N cR) rfl (by kernel_rfl) (by kernel_rfl) (by kernel_rfl) (fun _ _ _ h => h) (Or.inl ⟨by kernel_rfl, fun w' hS' => by clear hS'; go_simp⟩) hS ?_
                refine wpAnyH_take (i := 10) (v := .slice (some ⟨gl, ol, none⟩) cl cl2) rfl (by kernel_rfl) (by kernel_rfl) (by kernel_rfl) (fun _ _ _ h => h) (Or.inl ⟨by kernel_rfl, fun w' hS' => by clear hS'; go_simp⟩) hS ?_
                refine wpAnyH_take (i := 11) (v := .int .i64 (k : Int)) rfl (by kernel_rfl) (by kernel_rfl) (by kernel_rfl) (fun _ _ _ h => h) (Or.inl ⟨by kernel_rfl, fun w' hS' => by clear hS'; go_simp⟩) hS ?_
                refine wpAnyH_take (i := 12) (v := .pointer (some ⟨gl, ol + k, none⟩)) rfl (by kernel_rfl) (by kernel_rfl) (by kernel_rfl) (fun _ _ _ h => h) (Or.inl ⟨by kernel_rfl, fun w' hS' => by clear hS'; go_simp⟩) hS ?_
                refine wpAnyH_take (i := 13) (v := .slice (some ⟨bS, oS, none⟩) sl cS) rfl (by kernel_rfl) (by kernel_rfl) (by kernel_rfl) (fun _ _ _ h => h) (Or.inl ⟨by kernel_rfl, fun w' hS' => by obtain ⟨hS1', hS2', hS3'⟩ := hS'; go_simp⟩) hS ?_
                refine wpAnyH_take (i := 14) (v := .int .i64 (j : Int)) rfl (by kernel_rfl) (by kernel_rfl) (by kernel_rfl) (fun _ _ _ h => h) (Or.inl ⟨by kernel_rfl, fun w' hS' => by clear hS'; go_simp⟩) hS ?_
                refine wpAnyH_take (i := 15) (v := .pointer (some ⟨bS, oS + j, none⟩)) rfl (by kernel_rfl) (by kernel_rfl) (by kernel_rfl) (fun _ _ _ h => h) (Or.inl ⟨by kernel_rfl, fun w' hS' => by clear hS'; go_simp⟩) hS ?_
                refine wpAnyH_take (i := 16) (v := .int .i64 (r : Int)) rfl (by kernel_rfl) (by kernel_rfl) (by kernel_rfl) (fun _ _ _ h => h) (Or.inl ⟨by kernel_rfl, fun w' hS' => by obtain ⟨hS1', hS2', hS3'⟩ := hS'; go_simp⟩) hS ?_
                refine wpAnyH_take (i := 17) (v := .pointer (some ⟨gR, oR + r, none⟩)) rfl (by kernel_rfl) (by kernel_rfl) (by kernel_rfl) (fun _ _ _ h => h) (Or.inl ⟨by kernel_rfl, fun w' hS' => by clear hS'; go_simp⟩) hS ?_
                refine wpAnyH_take (i := 18) (v := .slice pp n cc2) rfl (by kernel_rfl) (by kernel_rfl) (by kernel_rfl) (fun _ _ _ h => h) (Or.inl ⟨by kernel_rfl, fun w' hS' => by obtain ⟨hS1', hS2', hS3'⟩ := hS'; go_simp⟩) hS ?_
                refine wpAnyH_take (i := 19) (v := .slice px n cx) rfl (by kernel_rfl) (by kernel_rfl) (by kernel_rfl) (fun _ _ _ h => h) (Or.inl ⟨by kernel_rfl, fun w' hS' => by clear hS'; go_simp⟩) hS ?_
                refine wpAnyH_ready (rs := [20]) (by kernel_rfl) (by simp) ?_
                refine AllReadyH.cons rfl (fun K hK => ?_) AllReadyH.nil
                go_simp
                refine (HBy.out wr.drew hd0).mono ?_
                rintro ex w6 ⟨u6, rfl, hown6, hb6⟩
                have hb6' := hd0.trans hb6
                have HRk := hide (rcut_rank n (p * a) u6 w6 h1 h12 HFPD.out (Ints.own hown6))
                refine hK.out _ _ (HKP.out w6 hb6') (fun hS => ?_)
                clear hK hown6 HBy
                refine wpAnyH_ready (rs := [21]) (by kernel_rfl) (by simp) ?_
                refine AllReadyH.cons rfl (fun K hK => ?_) AllReadyH.nil
                go_simp
                refine HRk.out.mono ?_
                rintro ex w7 ⟨rfl, hb7⟩
                have hb7' := hb6'.trans (hb7.mono hb6'.size)
                refine hK.out _ _ (HKP.out w7 hb7') (fun hS => ?_)
                clear hK HRk hb6 hb7 hb6'
                refine wpAnyH_ready (rs := [22]) (by kernel_rfl) (by simp) ?_
                refine AllReadyH.cons rfl (fun K hK => ?_) AllReadyH.nil
                have hlk := (HMr.out w7 hb7').look Try.underlying108 (Try.zero3 w7) (a := ((rkP n (p * a) : Nat) : Int)) (by omega) (by omega)
                rw [HPK.out] at hlk
                go_simp
                refine hK.out _ _ (HKP.out w7 hb7') (fun hS => ?_)
                clear hK
                refine wpAnyH_take (i := 23) (v := .pointer (some ⟨w2.heap.size, r, none⟩)) rfl (by kernel_rfl) (by kernel_rfl) (by kernel_rfl) (fun _ _ _ h => h) (Or.inl ⟨by kernel_rfl, fun w' hS' => by clear hS'; go_simp⟩) hS ?_
                refine wpAnyH_ready (rs := [24]) (by kernel_rfl) (by simp) ?_
                refine AllReadyH.cons rfl (fun K hK => ?_) AllReadyH.nil
                have hO7 := HOr.out w7 hb7'
                obtain ⟨y7, _, hcy7, hfy7⟩ := owns_cellAt hO7 hrN
                have HO8 := hide (owns_set_int (m := r) hO7 (((ix X (p * a) : Nat) : Int)))
                have hb27 := HBJ.out.trans (hb7'.mono HBJ.out.size)
                have HB8 : Hid (Below w2.heap.size w2 (w7.setCell ⟨w2.heap.size, r, none⟩ (.int .i64 ((ix X (p * a) : Nat) : Int)))) := hb27.setCell (Nat.le_refl _) _
                obtain ⟨ks1, ks2, ks3⟩ := HKP.out w7 hb7'
                go_simp
                refine hK.out _ _ ⟨?_, ?_, ?_⟩ (fun hS => ?_)
                · rw [World.cell?_setCell_other _ _ _ _ (by intro h; simp only [Addr.mk.injEq] at h; omega)]; exact ks1
                · rw [World.cell?_setCell_other _ _ _ _ (by intro h; simp only [Addr.mk.injEq] at h; omega)]; exact ks2
                · rw [World.cell?_setCell_other _ _ _ _ (by intro h; simp only [Addr.mk.injEq] at h; omega)]; exact ks3
                clear hK hS hlk hO7 hcy7 hfy7 ks1 ks2 ks3 hb27 hb7' HKP HMr HOr HBJ hcS
                refine wpAnyH_done (by kernel_rfl) ?_ _
                generalize ((ix X (p * a) : Nat) : Int) = zz at *
                go_wp2
                go_roundw
                case rel =>
                  have hfin : ∃ (j' : Nat) (zs : List Int), j' ≤ sl ∧ Value.int .i64 ((j : Int) + 1) = .int .i64 (j' : Int) ∧ Hid ((w7.setCell ⟨w2.heap.size, r, none⟩ (.int .i64 zz)).ownsRow w2.heap.size 3 1 (.slice (some ⟨w2.heap.size, 0, none⟩) N N) N (zs.map (Value.int .i64))) ∧ Hid (NxTo X a b (qs X a b) cs k j' zs) ∧ Below w2.heap.size w2 (w7.setCell ⟨w2.heap.size, r, none⟩ (.int .i64 zz)) := ⟨j + 1, _, hjs, by go_num, HO8, HNx2, HB8.out⟩
                  first
                    | exact hfin
                    | ((repeat apply Exists.intro); exact ⟨hfin, rfl⟩)
                case measure => simp [intOf]; omega
            · obtain rfl : sl = j := by omega
              have HNx2 : Hid (NxTo X a b (qs X a b) cs (k + 1) 0 zs) := by
                have h9 := hNx.out
                rw [HSL.out] at h9
                exact h9.turn HS.out
              clear hNx
              go_wp2
              go_roundw
              case rel =>
                have hfin : ∃ (k' : Nat) (zs : List Int), k' ≤ cl ∧ Value.int .i64 ((k : Int) + 1) = .int .i64 (k' : Int) ∧ Hid (wr.ownsRow w2.heap.size 3 1 (.slice (some ⟨w2.heap.size, 0, none⟩) N N) N (zs.map (Value.int .i64))) ∧ Hid (NxTo X a b (qs X a b) cs k' 0 zs) ∧ Below w2.heap.size w2 wr := ⟨k + 1, _, hlt, by go_num, hO, HNx2, hbj⟩
                first
                  | exact hfin
                  | ((repeat apply Exists.intro); exact ⟨hfin, rfl⟩)
              case measure => simp [intOf]; omega
        · obtain rfl : cl = k := by omega
          have hze : zs = nxL X a b (qs X a b) cs := by
            have h9 := hNx.out
            rw [← HAL.out] at h9
            exact h9.done (show Sts X.length _ _ by rw [HN.out]; exact HSts.out)
          have hOT : wr.ownsRow w2.heap.size 3 1 (.slice (some ⟨w2.heap.size, 0, none⟩) N N) N ((nxL X a b (qs X a b) cs).map (Value.int .i64)) := by rw [← hze]; exact hO.out
          have HOT := hide hOT
          obtain ⟨w3, hw3⟩ : ∃ w3, w3 = wr := ⟨_, rfl⟩
          subst hw3
          have HB3 := hide (HB2.out.trans (hbk.mono HB2.out.size))
          clear hO hNx hze hOT hbk
          generalize hrr : nxL X a b (qs X a b) cs = r at *
          have HRR := hide hrr
          clear hrr
          go_wp2_with (at_make; refine wpList_make_full _ rfl _ _ 23 rfl w3.heap.size 3 j0 (.int .i64 0) 1 Try.underlying23 hji hjz0 hjz1 _ _ _ _ N rfl rfl (by omega) (by omega) ?b5 ?b6 (Nat.le_refl _) ?_)
          case b5 => rw [hjz2]; omega
          case b6 => unfold maxLen; omega
          intro w4 hown4 hg4
          rw [made_ints] at hown4
          have HO4 := hide hown4
          have HB4 : Hid (Below w3.heap.size w3 w4) := (Below.refl _ _).grown hg4 (Nat.le_refl _) (fun k h => by cases h)
          clear hown4 hg4
          go_wp2
          go_loopw [16, 18] (fun sn si wr => ∃ (k c : Nat) (ds : List Int), k ≤ N ∧ sn = .int .i64 (c : Int) ∧ si = .int .i64 (k : Int) ∧ Hid (c = (cycsTo r k).length) ∧ Hid (wr.ownsRow w3.heap.size 3 1 (.slice (some ⟨w3.heap.size, 0, none⟩) N N) N (ds.map (Value.int .i64))) ∧ Hid (∀ i, i < N → ds.getD i 0 = if (i : Int) ∈ (cycsTo r k).flatten then 1 else 0) ∧ Below w3.heap.size w3 wr) (fun _ si _ => N - (intOf si).toNat)
          case atStart => exact ⟨0, 0, _, Nat.zero_le _, rfl, rfl, rfl, HO4, fun i hi => by rw [if_neg (by simp [cycsTo])]; simp [List.getD, hi], HB4.out⟩
          case round =>
            clear HO4 HB4
            obtain ⟨k, c, ds, hk, rfl, rfl, hcn, hO, hD, hbk⟩ := hrel
            by_cases hlt : k < N
            · have hkl : k < r.length := by rw [HNL.out]; exact hlt
              obtain ⟨y, hy, hcy, hfy⟩ := owns_cellAt hO.out hlt
              have hyd : ds.getD k 0 = y := hy.out
              have hcle : c ≤ N := by rw [hcn.out]; have := cycsTo_length r k; omega
              by_cases hin : (k : Int) ∈ (cycsTo r k).flatten
              · have hy1 : y = 1 := by rw [← hyd, hD.out k hlt, if_pos hin]
                have hc9 : cycsTo r (k + 1) = cycsTo r k := by rw [cycsTo_succ, if_pos hin]
                have HC2 : Hid (c = (cycsTo r (k + 1)).length) := by show _ = _; rw [hc9]; exact hcn.out
                have HD2 : Hid (∀ i, i < N → ds.getD i 0 = if (i : Int) ∈ (cycsTo r (k + 1)).flatten then 1 else 0) := by rw [hc9]; exact hD
                subst hy1
                clear hy hyd hD hcn hin hc9
                go_wp2
                go_roundw
                case rel =>
                  have hfin : ∃ (k' c' : Nat) (ds : List Int), k' ≤ N ∧ Value.int .i64 (c : Int) = .int .i64 (c' : Int) ∧ Value.int .i64 ((k : Int) + 1) = .int .i64 (k' : Int) ∧ Hid (c' = (cycsTo r k').length) ∧ Hid (wr.ownsRow w3.heap.size 3 1 (.slice (some ⟨w3.heap.size, 0, none⟩) N N) N (ds.map (Value.int .i64))) ∧ Hid (∀ i, i < N → ds.getD i 0 = if (i : Int) ∈ (cycsTo r k').flatten then 1 else 0) ∧ Below w3.heap.size w3 wr := ⟨k + 1, c, _, hlt, rfl, by go_num, HC2, hO, HD2, hbk⟩
                  first
                    | exact hfin
                    | ((repeat apply Exists.intro); exact ⟨hfin, rfl⟩)
                case measure => simp [intOf]; omega
              · have hy1 : y = 0 := by rw [← hyd, hD.out k hlt, if_neg hin]
                have hc9 : cycsTo r (k + 1) = cycsTo r k ++ [orb r k (per r k)] := by rw [cycsTo_succ, if_neg hin]
                have HC2 : Hid (c + 1 = (cycsTo r (k + 1)).length) := by show _ = _; rw [hc9, List.length_append, hcn.out]; rfl
                obtain ⟨p1, p2, p3, p4⟩ := per_spec HNR.out hkl
                have HIT : Hid (∀ j, it r j k < N) := fun j => by have := it_lt HNR.out hkl j; rw [HNL.out] at this; exact this
                have HNX : Hid (∀ j, j < per r k → ¬ ((it r j k : Nat) : Int) ∈ (cycsTo r k).flatten ∧ ¬ ((it r j k : Nat) : Int) ∈ orb r k j) := fun j hj => by
                  refine ⟨it_notin HNR.out hkl hin j, fun h => ?_⟩
                  obtain ⟨i, hi, e⟩ := mem_orb.1 h
                  have := orb_inj HNR.out hkl (by omega) hj (show it r i k = it r j k by omega)
                  omega
                have HEND : Hid (((it r (per r k) k : Nat) : Int) ∈ orb r k (per r k)) := by
                  rw [p3]
                  exact mem_orb.2 ⟨0, by omega, rfl⟩
                have HSC : Hid (∀ j, r.getD (it r j k) 0 = ((it r (j + 1) k : Nat) : Int)) := fun j => by
                  have h9 := HNR.out.at (show it r j k < r.length from it_lt HNR.out hkl j)
                  show _ = ((nx r (it r j k) : Nat) : Int)
                  unfold nx
                  omega
                have HD0 : Hid (∀ i, i < N → ds.getD i 0 = if (i : Int) ∈ (cycsTo r k).flatten ∨ (i : Int) ∈ orb r k 0 then 1 else 0) := fun i hi => by
                  rw [hD.out i hi]
                  simp [orb]
                have HDE : Hid (∀ (es : List Int), (∀ i, i < N → es.getD i 0 = if (i : Int) ∈ (cycsTo r k).flatten ∨ (i : Int) ∈ orb r k (per r k) then 1 else 0) → ∀ i, i < N → es.getD i 0 = if (i : Int) ∈ (cycsTo r (k + 1)).flatten then 1 else 0) := fun es h i hi => by
                  rw [h i hi, hc9, List.flatten_append]
                  simp
                have HK0 : Hid ((k : Int) = ((it r 0 k : Nat) : Int)) := rfl
                have HO0 := hO
                have HBK := hide hbk
                generalize hpp : per r k = pp at *
                have HPP := hide hpp
                subst hy1
                clear hy hyd hD hcn hin hc9 hkl p2 p3 p4 hpp hO hbk
                go_wp2
                go_loopw [19] (fun sa wr => ∃ (j : Nat) (es : List Int), j ≤ pp ∧ sa = .int .i64 ((it r j k : Nat) : Int) ∧ Hid (wr.ownsRow w3.heap.size 3 1 (.slice (some ⟨w3.heap.size, 0, none⟩) N N) N (es.map (Value.int .i64))) ∧ Hid (∀ i, i < N → es.getD i 0 = if (i : Int) ∈ (cycsTo r k).flatten ∨ (i : Int) ∈ orb r k j then 1 else 0) ∧ Below w3.heap.size w3 wr) (fun _ wr => unm w3.heap.size N wr)
                case atStart => exact ⟨0, ds, Nat.zero_le _, by rw [← HK0.out], HO0, HD0, HBK.out⟩
                case round =>
                  clear HO0 HD0 HBK
                  obtain ⟨j, es, hj, rfl, hO, hE, hbj⟩ := hrel
                  have hia := HIT.out j
                  obtain ⟨y, hy, hcy, hfy⟩ := owns_cellAt hO.out hia
                  have hye : es.getD (it r j k) 0 = y := hy.out
                  by_cases hjp : j < pp
                  · have hnn := HNX.out j hjp
                    have hy0 : y = 0 := by rw [← hye, hE.out _ hia, if_neg (fun h => h.elim hnn.1 hnn.2)]
                    have hlen : es.length = N := by have h9 := hO.out.1; rw [List.length_map] at h9; omega
                    have HE2 : Hid (∀ i, i < N → (es.set (it r j k) 1).getD i 0 = if (i : Int) ∈ (cycsTo r k).flatten ∨ (i : Int) ∈ orb r k (j + 1) then 1 else 0) := fun i hi => by
                      rw [getD_set (by omega), orb_snoc]
                      by_cases e : it r j k = i
                      · rw [if_pos e, ← e, if_pos (by simp)]
                      · rw [if_neg e, hE.out i hi]
                        have e2 : ¬ (i : Int) = ((it r j k : Nat) : Int) := by omega
                        simp [e2]
                    have HUN : Hid (unm w3.heap.size N (wr.setCell ⟨w3.heap.size, it r j k, none⟩ (.int .i64 1)) < unm w3.heap.size N wr) := unm_set hO.out hia (by rw [hye, hy0])
                    have HOs := hide (owns_set_int (m := it r j k) hO.out 1)
                    have hbs : Below w3.heap.size w3 (wr.setCell ⟨w3.heap.size, it r j k, none⟩ (.int .i64 1)) := hbj.setCell (Nat.le_refl _) _
                    have HBs := hide hbs
                    have hct : (wr.setCell ⟨w3.heap.size, it r j k, none⟩ (.int .i64 1)).cell? ⟨w2.heap.size, it r j k, none⟩ = some (.int .i64 ((it r (j + 1) k : Nat) : Int)) := by
                      rw [← HSC.out j]
                      exact (owns_cell (owns_below HOT.out hbs (Nat.le_refl _)) hia).1
                    have HAT : Hid (∀ z, z = it r (j + 1) k → Value.int .i64 ((z : Nat) : Int) = .int .i64 ((it r (j + 1) k : Nat) : Int)) := fun z hz => by rw [hz]
                    subst hy0
                    generalize hm2 : it r (j + 1) k = m2 at *
                    have HM2' := hide hm2
                    generalize it r j k = m at *
                    clear hy hye hnn hlen hO hE hbj hbs hm2
                    go_wp2
                    go_roundw
                    case rel =>
                      have hfin : ∃ (j' : Nat) (es : List Int), j' ≤ pp ∧ Value.int .i64 (m2 : Int) = .int .i64 ((it r j' k : Nat) : Int) ∧ Hid ((wr.setCell ⟨w3.heap.size, m, none⟩ (.int .i64 1)).ownsRow w3.heap.size 3 1 (.slice (some ⟨w3.heap.size, 0, none⟩) N N) N (es.map (Value.int .i64))) ∧ Hid (∀ i, i < N → es.getD i 0 = if (i : Int) ∈ (cycsTo r k).flatten ∨ (i : Int) ∈ orb r k j' then 1 else 0) ∧ Below w3.heap.size w3 (wr.setCell ⟨w3.heap.size, m, none⟩ (.int .i64 1)) := ⟨j + 1, _, hjp, by rw [HM2'.out], HOs, HE2, HBs.out⟩
                      first
                        | exact hfin
                        | ((repeat apply Exists.intro); exact ⟨hfin, rfl⟩)
                    case measure => exact HUN.out
                  · obtain rfl : j = pp := by omega
                    have hy1 : y = 1 := by rw [← hye, hE.out _ hia, if_pos (Or.inr HEND.out)]
                    have HD2 : Hid (∀ i, i < N → es.getD i 0 = if (i : Int) ∈ (cycsTo r (k + 1)).flatten then 1 else 0) := HDE.out es hE.out
                    subst hy1
                    generalize it r j k = m at *
                    clear hy hye hE
                    go_wp2
                    go_roundw
                    case rel =>
                      have hfin : ∃ (k' c' : Nat) (ds : List Int), k' ≤ N ∧ Value.int .i64 ((c : Int) + 1) = .int .i64 (c' : Int) ∧ Value.int .i64 ((k : Int) + 1) = .int .i64 (k' : Int) ∧ Hid (c' = (cycsTo r k').length) ∧ Hid (wr.ownsRow w3.heap.size 3 1 (.slice (some ⟨w3.heap.size, 0, none⟩) N N) N (ds.map (Value.int .i64))) ∧ Hid (∀ i, i < N → ds.getD i 0 = if (i : Int) ∈ (cycsTo r k').flatten then 1 else 0) ∧ Below w3.heap.size w3 wr := ⟨k + 1, c + 1, _, hlt, by go_num, by go_num, HC2, hO, HD2, hbj⟩
                      first
                        | exact hfin
                        | ((repeat apply Exists.intro); exact ⟨hfin, rfl⟩)
                    case measure => simp [intOf]; omega
            · obtain rfl : N = k := by omega
              have HCN2 : Hid (c = (cycsTo r N).length) := hcn
              have HBF := hide (HB3.out.trans (hbk.mono HB3.out.size))
              clear hO hD hbk hcn
              go_wp2
              go_ret
              exact ⟨by rw [HCN2.out, ← HRR.out]; rfl, HBF.out⟩

end Go.Proofs.Ytimfoggjocajiaa

/- Contracts: the answer's LeadsOf; call.checkLeads. -/
namespace Go.Proofs.Ytimfoggjocajiaa
open Go.RowKit

set_option maxRecDepth 20000 in
set_option maxHeartbeats 2000000 in
theorem leadsOf_ok (v : Value) (xs : List Int) (m k : Nat) (w : World) (h : Ints w v xs) (hx : ∀ x, x ∈ xs → I64 x) (hm : m ≤ 1000) (hk1 : 1 ≤ k) (hk2 : k ≤ 1000) :
    Calls Try.prog 29 #[v, .int .i64 m, .int .i64 k] w fun e w' => ∃ (u : Value) (ls : List Int), e = .returned u ∧ w'.ownsRow w.heap.size 3 1 u m (ls.map (Value.int .i64)) ∧ (∀ l, l ∈ ls → 0 ≤ l ∧ l < (k : Int)) ∧ Below w.heap.size w w' := by
  obtain ⟨i0, hi, hz0, hz1, hz2⟩ := info_parts Try.info3
  obtain ⟨p0, c0, rfl⟩ := h.form
  have HI := hide h
  have HX := hide hx
  clear h hx
  go_enter Try.func29, Try.ntmps29
  go_wp2
  go_loopw [7, 8] (fun u i wr => ∃ (j : Nat) (ls : List Int), j ≤ m ∧ i = .int .i64 j ∧ Hid (wr.ownsRow w.heap.size 3 1 u j (ls.map (Value.int .i64))) ∧ Hid (∀ l, l ∈ ls → 0 ≤ l ∧ l < (k : Int)) ∧ Below w.heap.size w wr) (fun _ i _ => m - (intOf i).toNat)
  case atStart => exact ⟨0, [], by omega, rfl, World.ownsRow_nil _ _ _ _, (fun l h => by cases h), Below.refl _ _⟩
  case round =>
    obtain ⟨j, ls, hj, rfl, hO, hL, hbw⟩ := hrel
    have hbs := hbw.size
    have hrow := hO.out
    obtain ⟨up, uc, rfl⟩ := owns_slice hrow
    by_cases hlt : j < m
    · have HRW := hide (raw_any _ xs j wr (HI.out.below hbw) HX.out (by omega))
      go_wp2_with fail
      refine HRW.out.mono ?_
      rintro e wa ⟨x, hxi, rfl, rfl⟩
      go_wp2_with fail
      refine (pick_any x (k : Int) _ hxi.1 hxi.2 (by omega) (by omega)).mono ?_
      rintro e wa ⟨q, hq0, hq1, rfl, rfl⟩
      go_wp2_with (at_builtin; refine wpList_append_own _ rfl _ _ 23 rfl w.heap.size 3 i0 (.int .i64 0) 1 8 Try.underlying23 hi hz0 hz1 hz2 rfl (by decide) _ _ _ rfl (hrow.alloc _) ⟨wr.heap.size, 0, none⟩ 1 1 [.int .i64 q] rfl rfl ?c1 ?c2 ?c3 ?c4 ?c5 ?_)
      case c1 => exact cell_one_new _ _ _
      case c2 => intro u hu; simp at hu; subst hu; rfl
      case c3 => unfold maxLen; omega
      case c4 => omega
      case c5 => simp; omega
      · intro v' w1 hown' hgrow _
        have HO : Hid (w1.ownsRow w.heap.size 3 1 v' (j + 1) ((ls ++ [q]).map (Value.int .i64))) := by show World.ownsRow _ _ _ _ _ _ _; rw [List.map_append]; exact hown'
        have HL2 : Hid (∀ l, l ∈ ls ++ [q] → 0 ≤ l ∧ l < (k : Int)) := fun l h => by
          rcases List.mem_append.1 h with h | h
          · exact hL.out l h
          · rw [List.mem_singleton] at h; rw [h]; exact ⟨hq0, hq1⟩
        have HB1 : Hid (Below w.heap.size w w1) := (hbw.alloc hbw.size _).grown hgrow (by simp; omega) (fun g hg => (hrow.lt g hg).1)
        clear hown' hgrow hrow hO
        go_wp2
        go_roundw
        case rel => exact ⟨j + 1, ls ++ [q], by omega, by go_num, HO, HL2, HB1.out⟩
        case measure => simp [intOf]; omega
    · obtain rfl : j = m := by omega
      go_wp2
      go_ret
      exact ⟨_, ls, rfl, hrow, hL.out, hbw⟩

end Go.Proofs.Ytimfoggjocajiaa
