/- Contract: bring, where the bell is a new one. -/
import Derived.Test.YtbddhpbeekioiaaBring
namespace Go.Proofs.Ytbddhpbeekioiaa
open Go.RowKit

set_option maxRecDepth 20000 in
set_option maxHeartbeats 4000000 in
theorem bring_new {n k m B g : Nat} {pre : List Lk} {l : Lk} {c : List Lk} {st : Nat → St} {p : Pm} {F : Nat → Prop} {w : World} (ih : ∀ m', m' < m → BringSays n k m') (hno : l.tab.lookup (p.act l.base) = none) : BringFor n k m B g pre l c st p F w := by
  intro hpre hn h12 hm hbs hnd hC hP hF hG
  subst hpre
  have lk := hC.link pre.length (rawOf l) (map_mid pre l c)
  have hbase : l.base < 12 := hbs l (by simp)
  have hglt := hC.lt_g
  have hb12 := p.act_lt hbase
  have HNO := hide hno
  have hyl : zeros12.length = 12 := rfl
  have hyv : (tabF l.tab ((p.act l.base : Nat) : Int)).getD (.agg (i8s zeros12)) = .agg (i8s zeros12) := by rw [tabF_nat, hno]; rfl
  have hyt : (tabF l.tab ((p.act l.base : Nat) : Int)).isSome = false := by rw [tabF_nat, hno]; rfl
  clear hno
  have HCH := hide hC
  have HP := hide hP
  have HF := hide hF
  have HG := hide hG
  have HBS := hide hbs
  have HND := hide hnd
  have HIH := hide ih
  have hmlt := lk.mp.lt
  obtain ⟨pb, cb, ebv⟩ := owns_slice12 lk.bells
  obtain ⟨pg, cg, egv⟩ := owns_slice12 lk.gens
  have c0 : ∀ o : Obj, (w.alloc o).cell? ⟨g, pre.length * 4, none⟩ = some (.int .i64 ((l.base : Nat) : Int)) := fun o => by rw [World.cell?_of_block (w := w) (a := ⟨g, pre.length * 4, none⟩) (Below.heap_alloc w o g hglt), Nat.mul_comm]; exact lk.c0
  have c1 : ∀ o : Obj, (w.alloc o).cell? ⟨g, pre.length * 4 + 1, none⟩ = some (.map (some (st pre.length).m)) := fun o => by rw [World.cell?_of_block (w := w) (a := ⟨g, pre.length * 4 + 1, none⟩) (Below.heap_alloc w o g hglt), Nat.mul_comm]; exact lk.c1
  have hmp0 := lk.mp.alloc (.cells (i8s p.l) 92)
  have hfe : (rawOf l).f = tabF l.tab := rfl
  rw [hfe] at hmp0
  have hA0 := Arr.new w p.l p.len
  have hcq := (hA0.cell hbase).1
  rw [p.getD_act hbase] at hcq
  generalize hbb : p.act l.base = b at *
  have HBB := hide hbb
  have hwb : IntKind.i64.wrap (b : Int) = (b : Int) := by rw [IntKind.wrap_i64]; omega
  have hbz : (0 : Int) ≤ (l.base : Int) := by omega
  have hbt : ((l.base : Nat) : Int) < 12 := by omega
  have hkn : (pre.length : Int) < (n : Int) := by omega
  have hB2' : ∀ o1 o2 : Obj, Below w.heap.size w ((w.alloc o1).alloc o2) := fun o1 o2 => ((Below.refl _ _).alloc (Nat.le_refl _) o1).alloc (by simp) o2
  unfold pv
  clear hC hP hF hG hbs hnd ih lk hbb
  go_enter Try.func102, Try.ntmps102
  go_wp2_with (first
    | refine wpList_look_ok' rfl _ _ 120 rfl 92 Try.underlying120 (Try.zero92 _) hmp0 (b : Int) rfl rfl (by omega) (by omega) hyv hyt ?_
    | (refine wpList_store_arr rfl _ _ rfl (w.heap.size + 1) zeros12 zeros12 (Arr.new1 w _ (zs := zeros12) rfl) rfl rfl hyl ?_; intro w2 hY2 hg2))
  have hA2 : Arr w2 w.heap.size p.l := (hA0.alloc _).kept hg2 (by intro e; have := Option.some.inj e; omega)
  have hB2 : Below w.heap.size w w2 := (hB2' _ _).grown hg2 (by simp; omega) (fun k h => by have := Option.some.inj h; omega)
  have hC2 := HCH.out.below hB2 (Nat.le_refl _)
  clear hg2 hA0 hcq c0 c1 hmp0 hB2'
  have hin2 : (Try.prog.info? 92).map (·.size) = some (p.l.map (Value.int .i8)).length := by rw [List.length_map, p.len]; exact Try.size92
  have hM2 : Mid w2 w2 B g pre.length ((pre ++ l :: c).map rawOf) st ((pre ++ l :: c).map rawOf) st := Mid.start hC2 (Below.refl _ _)
  have HC2 := hide hC2
  have HB2 := hide hB2
  have hD2 := hA2.lt
  have lk2 := hC2.link pre.length (rawOf l) (map_mid pre l c)
  have c1 : w2.cell? ⟨g, pre.length * 4 + 1, none⟩ = some (.map (some (st pre.length).m)) := by rw [Nat.mul_comm]; exact lk2.c1
  have hPA := HP.out.add (p := p) (by rw [HBB.out]; exact HNO.out) HF.out HG.out
  have htl := tab_len hPA.ok hbase
  have htl2 : l.tab.length + 1 ≤ 12 := by have : (l.tab ++ [(p.act l.base, p)]).length ≤ 12 := htl; simpa using this
  have HPA := hide hPA
  clear hPA htl
  refine wp_region_held_drew (S := fun W' => Arr W' w.heap.size p.l) (by kernel_rfl) hA2 (fun hS => ?_)
  refine wpAnyH_take (i := 0) (v := .pointer (some ⟨g, pre.length * 4, none⟩)) rfl (by kernel_rfl) (by kernel_rfl) (by kernel_rfl) (fun _ _ _ h => h) (Or.inl ⟨by rfl, fun w' _ => by go_simp⟩) hS ?_
  refine wpAnyH_take (i := 1) (v := .pointer (some ⟨g, pre.length * 4, none⟩)) rfl (by kernel_rfl) (by kernel_rfl) (by kernel_rfl) (fun _ _ _ h => h) (Or.inl ⟨by rfl, fun w' _ => by go_simp⟩) hS ?_
  refine wpAnyH_take (i := 2) (v := .pointer (some ⟨g, pre.length * 4 + 1, none⟩)) rfl (by kernel_rfl) (by kernel_rfl) (by kernel_rfl) (fun _ _ _ h => h) (Or.inl ⟨by rfl, fun w' _ => by go_simp⟩) hS ?_
  refine wpAnyH_take (i := 4) (v := .int .i64 (b : Int)) rfl (by kernel_rfl) (by kernel_rfl) (by kernel_rfl) (fun _ _ _ h => h) (Or.inl ⟨by rfl, fun w' _ => by go_simp⟩) hS ?_
  refine wpAnyH_take (i := 5) rfl (by kernel_rfl) (by kernel_rfl) (by kernel_rfl) (fun _ _ _ h => h) (yieldsIf_load_mid (by rfl) _ _ rfl w.heap.size 0 rfl (p.l.map (Value.int .i8)) _ (fun w' h => Arr.range h) Try.underlying92 rfl hin2) hS ?_
  refine wpAnyH_ready (rs := [3]) (by kernel_rfl) (by simp) ?_
  refine AllReadyH.cons rfl (fun K hK => ?_) AllReadyH.nil
  go_simp
  refine hK.out _ _ hS (fun _ => ?_)
  clear hK
  refine wpAnyH_ready (rs := [6]) (by kernel_rfl) (by simp) ?_
  refine AllReadyH.cons rfl (fun K hK => ?_) AllReadyH.nil
  refine step_put rfl _ _ _ 120 rfl 92 Try.underlying120 (show IMap w2.drew (st pre.length).m (rawOf l).n (rawOf l).f from lk2.mp) (by have : (rawOf l).n = l.tab.length := rfl; unfold maxLen; omega) (b : Int) (pv p) rfl rfl rfl (by omega) (by omega) ?_
  intro w3 hmp3 hg3
  replace hg3 : w2.grownBy w3 (some (st pre.length).m) := ⟨hg3.os, hg3.tape, hg3.output, hg3.size, hg3.block⟩
  obtain ⟨hC3, hK3, hf3⟩ := hC2.setMap (map_mid pre l c) hmp3 hg3
  have hA3 : Arr w3 w.heap.size p.l := hA2.kept hg3 (by intro e; have := Option.some.inj e; omega)
  refine hK.out _ _ hA3 (fun _ => ?_)
  clear hK
  refine wpAnyH_done (by kernel_rfl) ?_ _
  have hM3 := hM2.step hC3 hK3 hf3 (fun _ _ => rfl)
  have hk3 : (((pre ++ l :: c).map rawOf).set pre.length { rawOf l with f := upd (rawOf l).f (b : Int) (pv p), n := (rawOf l).n + 1 })[pre.length]? = some { rawOf l with f := upd (rawOf l).f (b : Int) (pv p), n := (rawOf l).n + 1 } := by rw [List.getElem?_set, if_pos rfl, if_pos (by simp)]
  have lk3 := hC3.link pre.length _ hk3
  have hg3lt := hC3.lt_g
  have kd3 := hC3.kinds hk3 hk3
  have hbl3 := lk3.bells
  have c2 : w3.cell? ⟨g, pre.length * 4 + 2, none⟩ = some (.slice pb (rawOf l).bs.length cb) := by rw [Nat.mul_comm, ← ebv]; exact lk3.c2
  have c3 : w3.cell? ⟨g, pre.length * 4 + 3, none⟩ = some (.slice pg (rawOf l).gs.length cg) := by rw [Nat.mul_comm, ← egv]; exact lk3.c3
  have hbl4 := hbl3
  rw [ebv] at hbl4
  have HBLN : Hid ((rawOf l).bs.length = l.tab.length) := by show (l.tab.map _).length = _; simp
  have hB3 : B ≤ w3.heap.size := by have := hC3.gB; omega
  have HM3 := hide hM3
  have HC3 := hide hC3
  have HK3 := hide hk3
  have HKD := hide kd3
  clear hM2 hM3 hC3 hk3 kd3 hK3 hf3 hmp3 hg3 lk2 lk3 c1 hC2 hA2 hY2 hS hB2 hyv hyt
  have fg : w3.frozen? ⟨g, pre.length * 4 + 2, none⟩ = false := by obtain ⟨cs, ho, _⟩ := HC3.out.obj; simp [World.frozen?, ho]
  obtain ⟨i0, hi, hz0, hz1, hz2⟩ := info_parts Try.info3
  have HO1 : Hid (∀ u ∈ [Value.int .i64 (b : Int)], u.oneCell' = true) := by intro u hu; rw [List.mem_singleton.1 hu]; rfl
  have HM1 : Hid ((rawOf l).bs.length + 1 ≤ maxLen) := by have := HBLN.out; show (rawOf l).bs.length + 1 ≤ maxLen; unfold maxLen; omega
  have HY1 : Hid (((rawOf l).bs.length + 1) * 8 ≤ 140737488355328) := by have := HBLN.out; show ((rawOf l).bs.length + 1) * 8 ≤ _; omega
  have HS1 : Hid (∀ o : Obj, B ≤ (w3.alloc o).heap.size) := fun o => by simp; omega
  go_wp2_with (at_builtin; refine wpList_append_keep _ rfl _ _ 22 rfl B 3 i0 (.int .i64 0) 1 8 Try.underlying22 hi hz0 hz1 hz2 rfl (by decide) _ _ _ rfl (hbl4.alloc _) ⟨w3.heap.size, 0, none⟩ 1 1 [.int .i64 (b : Int)] rfl rfl (cell_one_new _ _ _) HO1.out HM1.out HY1.out (HS1.out _) ?_)
  intro v' w4 hown4 hg4 hloc4
  have hg34 : w3.grownBy w4 (st pre.length).vb.ownBlock := by rw [ebv]; exact (World.grownBy_alloc w3 _ _).trans hg4
  have hloc34 : v'.ownBlock = (st pre.length).vb.ownBlock ∨ ((∀ b, v'.ownBlock = some b → w3.heap.size ≤ b) ∧ w3.grownBy w4 none) := by
    rw [ebv]
    refine hloc4.imp id (fun h => ⟨fun b hb => ?_, (World.grownBy_alloc w3 _ _).trans h.2⟩)
    have h5 := Option.some.inj (h.1.symm.trans hb)
    omega
  have hg4g : w4.heap[g]? = w3.heap[g]? := hg34.block g hg3lt (fun e => HKD.out.2.1 e.symm)
  have c2' : w4.cell? ⟨g, pre.length * 4 + 2, none⟩ = some (.slice pb (rawOf l).bs.length cb) := (World.cell?_of_block (w := w3) (a := ⟨g, pre.length * 4 + 2, none⟩) hg4g).trans c2
  have c3' : w4.cell? ⟨g, pre.length * 4 + 3, none⟩ = some (.slice pg (rawOf l).gs.length cg) := (World.cell?_of_block (w := w3) (a := ⟨g, pre.length * 4 + 3, none⟩) hg4g).trans c3
  have fg' : w4.frozen? ⟨g, pre.length * 4 + 2, none⟩ = false := (World.frozen?_of_block (w := w3) (a := ⟨g, pre.length * 4 + 2, none⟩) hg4g).trans fg
  have hA4 : Arr w4 w.heap.size p.l := by
    refine hA3.kept hg34 (fun e => ?_)
    have := (HCH.out.link pre.length (rawOf l) (map_mid pre l c)).bells.lt _ e
    omega
  obtain ⟨g', cap', hv', _, _, _, _⟩ := owns_form hown4 (by omega)
  obtain ⟨hC5, hK5, hf5⟩ := HC3.out.setBells HK3.out (u := .int .i64 (b : Int)) (v' := v') hown4 hg34 hloc34
  rw [set_mid2, raw_add HNO.out, set_mid, show 4 * pre.length + 2 = pre.length * 4 + 2 from by omega] at hC5
  rw [show 4 * pre.length + 2 = pre.length * 4 + 2 from by omega] at hK5
  rw [set_mid2, raw_add HNO.out, set_mid] at hf5
  have hM5 := HM3.out.step hC5 hK5 hf5 (fun j hj => by unfold updS; rw [if_neg (by omega)])
  have hA5 : Arr (w4.setCell ⟨g, pre.length * 4 + 2, none⟩ v') w.heap.size p.l := hA4.set_other (by omega) _
  rw [hv'] at hM5 hA5 ⊢
  have HM5 := hide hM5
  have HA5 := hide hA5
  clear hC5 hK5 hf5 hM5 hA5 hown4 hg4 hloc4 hg34 hloc34 hg4g hA3 hA4 c2 c3 fg hbl3 hbl4 HM3 HC3 HK3 HKD hv'
  go_wp2
  generalize w4.setCell ⟨g, pre.length * 4 + 2, none⟩ (.slice (some ⟨g', 0, none⟩) ((rawOf l).bs.length + 1) cap') = w5 at *
  have HGE : Hid ((rawOf l).gs = l.gens) := rfl
  have HGN : Hid ((rawOf l).gs.length = l.gens.length) := rfl
  have hgl : l.gens.length ≤ 12 ^ 12 := gens_bound (HND.out l List.mem_cons_self)
  have h1212 : (12 : Nat) ^ 12 = 8916100448256 := by decide
  have hgl2 : (l.gens.length : Int) ≤ 8916100448256 := by omega
  clear h1212
  clear hgl
  have hbl0 := hide (HC2.out.link pre.length (rawOf l) (map_mid pre l c)).gens
  rw [egv] at hbl0
  generalize hng : (rawOf l).gs.length = ng at *
  have HNG := hide hng
  have hng2 : (ng : Int) ≤ 8916100448256 := by have := HNG.out; have := HGN.out; omega
  clear hng c2' c3' fg' HBLN HO1 HM1 HY1 HS1 hgl2
  go_loopw [61] (fun i wr => ∃ (q : Nat) (l' : Lk) (c' : List Lk) (st' : Nat → St), q ≤ ng ∧ i = .int .i64 q ∧ Loop (l.add b p) c l l' c' p q ∧ Part F l' c' ∧ Mid w2 wr B g pre.length ((pre ++ l :: c).map rawOf) st ((pre ++ l' :: c').map rawOf) st' ∧ Arr wr w.heap.size p.l ∧ Hid (∀ x, x ∈ l' :: c' → x.gens.Nodup)) (fun i _ => ng - (intOf i).toNat)
  case atStart =>
    have hb := HBB.out
    subst hb
    refine ⟨0, l.add (p.act l.base) p, c, _, by omega, rfl, Loop.start l c p, HPA.out, HM5.out, HA5.out, ?_⟩
    intro x hx
    rcases List.mem_cons.1 hx with rfl | hx
    · exact HND.out l List.mem_cons_self
    · exact HND.out x (List.mem_cons_of_mem _ hx)
  case round =>
    obtain ⟨q, l', c', st', hq, rfl, hL, hPt, hMid, hA, hnd⟩ := hrel
    by_cases hlt : q < ng
    · have hql : q < l.gens.length := by have := HNG.out; have := HGN.out; omega
      obtain ⟨s, hs⟩ : ∃ s, l.gens[q]? = some s := ⟨_, List.getElem?_eq_getElem hql⟩
      have hsm : s ∈ l.gens := List.mem_of_getElem? hs
      obtain ⟨gb, hgb, _, hgc, hgm⟩ := owns_some hbl0.out (by have := HNG.out; omega)
      have hown := (HC2.out.link pre.length (rawOf l) (map_mid pre l c)).gens
      have hvb : (st pre.length).vg.ownBlock = some gb := by rw [egv, hgb]; rfl
      have hrange : wr.rangeAt gb (q * 12) (s.l.map (Value.int .i8)) := keep_gens hMid.keep hown hvb (fun x hx => foot_gens HC2.out (map_mid pre l c) hvb hx) hs
      have hin : (Try.prog.info? 92).map (·.size) = some (s.l.map (Value.int .i8)).length := by rw [List.length_map, s.len]; exact Try.size92
      have hsl := s.len
      have hAlt := hA.lt
      have HL := hide hL
      have HPt := hide hPt
      have HMid := hide hMid
      have HS := hide hs
      have HSM := hide hsm
      subst hgb
      clear hL hPt hMid hs hsm hown hvb hbl0
      go_wp2_with (first
        | refine wpList_load_mid rfl 92 _ rfl gb _ rfl _ _ hrange Try.underlying92 rfl hin ?_
        | (refine wpList_store_arr rfl _ _ rfl wr.heap.size zeros12 s.l (zeros_new wr) rfl rfl hsl ?_; intro w6 hX6 hg6; have hA6 : Arr w6 w.heap.size p.l := (hA.alloc _).kept hg6 (by intro e; have := Option.some.inj e; omega))
        | refine wpList_load_arr rfl _ rfl wr.heap.size s.l hX6 rfl ?_
        | refine wpList_load_arr rfl _ rfl w.heap.size p.l hA6 rfl ?_)
      refine (ptimes_ok s p _).mono ?_
      rintro e w7 ⟨rfl, hb7⟩
      have hb6 : Below wr.heap.size wr w6 := ((Below.refl _ _).alloc (Nat.le_refl _) _).grown hg6 (by simp) (fun k h => by have := Option.some.inj h; omega)
      have hb67 : Below wr.heap.size wr w7 := hb6.trans (hb7.mono hb6.size)
      have hM7 := HMid.out.quiet hb67
      have hA7 : Arr w7 w.heap.size p.l := hA.below hb67 hAlt
      have hbas := HL.out.base
      have hgen := HL.out.gens
      obtain ⟨more, htab⟩ := HL.out.tab
      have htl : l.tab.length + 1 ≤ l'.tab.length := by rw [htab]; show _ ≤ ((l.tab ++ [(b, p)]) ++ more).length; simp
      have hBr := HIH.out (m - 1) (by omega) B g pre l' c' st' (s * p) F w7 rfl (by rw [HL.out.len]; exact hn) h12 (by omega)
        (bases_of (cs := l :: c) (cs' := l' :: c') (by rw [List.map_cons, List.map_cons, HL.out.bases, hbas]; rfl) HBS.out) hnd.out hM7.chain HPt.out ((fixes_sub F).mul (HP.out.gF s HSM.out) HF.out)
        (by rw [hgen]; exact Gen.mul HSM.out HG.out)
      have HBr := hide hBr
      have HM7 := hide hM7
      clear hBr hM7 hb67 hb6 hb7 hg6 hX6 hA6 hrange hbas hgen htab htl
      go_wp2_with fail
      refine HBr.out.mono ?_
      rintro e w8 ⟨v, rfl, l2, c2, st2, hP2, hBt2, hC2, hK2, hf2, hn2, hs2⟩
      have hM8 := HM7.out.step hC2 hK2 hf2 hs2
      have hA8 : Arr w8 w.heap.size p.l := keep_arr hK2 hA7 (fun x hf => Foot.not_new HCH.out (Nat.le_refl _) x (HM7.out.foot' hf hD2))
      have hL2 : Loop (l.add b p) c l l2 c2 p (q + 1) := HL.out.step (by rw [List.take_add_one, show (l.add b p).gens = l.gens from rfl, HS.out]; rfl) rfl hBt2
      go_wp2
      go_roundw
      case rel =>
        have hfin : ∃ (q' : Nat) (l' : Lk) (c' : List Lk) (st' : Nat → St), q' ≤ ng ∧ Value.int .i64 ((q : Int) + 1) = .int .i64 (q' : Int) ∧ Loop (l.add b p) c l l' c' p q' ∧ Part F l' c' ∧ Mid w2 w8 B g pre.length ((pre ++ l :: c).map rawOf) st ((pre ++ l' :: c').map rawOf) st' ∧ Arr w8 w.heap.size p.l ∧ Hid (∀ x, x ∈ l' :: c' → x.gens.Nodup) :=
          ⟨q + 1, l2, c2, st2, by omega, by go_num, hL2, hP2, hM8, hA8, hn2⟩
        first
          | exact hfin
          | ((repeat apply Exists.intro); exact ⟨hfin, rfl⟩)
      case measure => simp [intOf]; omega
    · have hqn : l.gens.length ≤ q := by have := HNG.out; have := HGN.out; omega
      have hb := HBB.out
      subst hb
      have hbr := Loop.brought hqn (prd_sub hPt.whole).one hL
      have HBr := hide hbr
      have HPt := hide hPt
      have HMid := hide hMid
      clear hL hPt hMid hbr hbl0
      go_wp2
      first
        | exact bodyPost_ret (results_none rfl _ _ _) rfl (BringPost.mk HPt.out HBr.out HMid.out.chain ((Keep.of_below HB2.out (Nat.le_refl _)).trans HMid.out.keep (fun _ _ _ h => h)) (fun b x hb hf => HMid.out.foot b x (Nat.lt_of_lt_of_le hb HB2.out.size) hf) hnd.out HMid.out.low)
        | exact bodyPost_end (results_none rfl _ _ _) rfl (BringPost.mk HPt.out HBr.out HMid.out.chain ((Keep.of_below HB2.out (Nat.le_refl _)).trans HMid.out.keep (fun _ _ _ h => h)) (fun b x hb hf => HMid.out.foot b x (Nat.lt_of_lt_of_le hb HB2.out.size) hf) hnd.out HMid.out.low)
end Go.Proofs.Ytbddhpbeekioiaa
