/- Joined: Take, Chain, NewChain, NewChainW, RefB, RefC, RefD. -/
import Derived.Test.YtahffpgadoiijaaJ3
import Derived.Test.YtahffpgadoiijaaJ1
import Derived.Deep.RegionLaw
import Derived.Deep.RegionWith
/- Contract: take, from bring's at its level; both at all levels. -/
namespace Go.Proofs.Ytahffpgadoiijaa
open Go.RowKit

theorem Try.info81 : (Try.prog.info? 81).map (fun i => (i.zero, i.size, i.bytes)) = some (some (.agg (i8s zeros12)), 12, 12) := by kernel_rfl

set_option maxRecDepth 20000 in
set_option maxHeartbeats 4000000 in
theorem take_has {n k B g : Nat} {pre cs : List Lk} {st : Nat → St} {p : Pm} {F : Nat → Prop} {w : World} (hpre : pre.length = k) (hn : k + cs.length = n) (h12 : n ≤ 12) (hbs : ∀ l, l ∈ pre ++ cs → l.base < 12) (hnd : ∀ l, l ∈ cs → l.gens.Nodup)
    (hC : ChainAt w B g ((pre ++ cs).map rawOf) st) (hW : Whole F cs) (hF : Fixes F p) (hh : hasC cs p = true) :
    Calls Try.prog 82 #[.slice (some ⟨g, 0, none⟩) n n, .int .i64 k, pv p] w fun e w' => TakePost B g pre cs st p F w e w' := by
  subst hpre
  have hnC : (pre ++ cs).length = n := by rw [List.length_append]; exact hn
  have hA0 := Arr.new w p.l p.len
  have HH := hide (has_ok (pre ++ cs) pre.length p (w.alloc (.cells (i8s p.l) 81)) (hC.alloc _) (by simp) (by omega) hbs)
  rw [hnC, List.drop_left, hh] at HH
  have HC := hide hC
  have HT := hide (Took.refl ((has_iff hW hF).1 hh))
  have HW := hide hW
  have HN := hide hnd
  clear hC hW hF hh hbs hnd
  unfold pv at HH ⊢
  go_enter Try.func82, Try.ntmps82
  go_wp2_with (refine wpList_load_arr rfl _ rfl w.heap.size p.l hA0 rfl ?_)
  refine HH.out.mono ?_
  rintro e w1 ⟨rfl, hb1⟩
  have hB1 : Below w.heap.size w w1 := ((Below.refl _ _).alloc (Nat.le_refl _) _).trans ((below_alloc hb1).mono (by omega))
  go_wp2
  exact bodyPost_ret (results_none rfl _ _ _) rfl (TakePost.mk HW.out HT.out (HC.out.below hB1 (Nat.le_refl _)) (Keep.of_below hB1 (Nat.le_refl _)) (fun _ _ _ h => h) HN.out (fun _ _ => rfl))

theorem list12 {zs : List Int} (h : zs.length = 12) : ∃ a0 a1 a2 a3 a4 a5 a6 a7 a8 a9 a10 a11, zs = [a0, a1, a2, a3, a4, a5, a6, a7, a8, a9, a10, a11] := by
  match zs, h with
  | [a0, a1, a2, a3, a4, a5, a6, a7, a8, a9, a10, a11], _ => exact ⟨_, _, _, _, _, _, _, _, _, _, _, _, rfl⟩

theorem run_build12 (a0 a1 a2 a3 a4 a5 a6 a7 a8 a9 a10 a11 : Int) (w : World) : (Instr.buildSlice 78 1 #[(0, .agg #[.int .i8 a0, .int .i8 a1, .int .i8 a2, .int .i8 a3, .int .i8 a4, .int .i8 a5, .int .i8 a6, .int .i8 a7, .int .i8 a8, .int .i8 a9, .int .i8 a10, .int .i8 a11])]).run Try.prog w =
    .ok (.slice (some ⟨w.heap.size, 0, none⟩) 1 1) (w.alloc (.cells #[.int .i8 a0, .int .i8 a1, .int .i8 a2, .int .i8 a3, .int .i8 a4, .int .i8 a5, .int .i8 a6, .int .i8 a7, .int .i8 a8, .int .i8 a9, .int .i8 a10, .int .i8 a11] 81)) := by kernel_rfl

theorem run_build (p : Pm) (w : World) : (Instr.buildSlice 78 1 #[(0, .agg (p.l.map (Value.int .i8)).toArray)]).run Try.prog w = .ok (.slice (some ⟨w.heap.size, 0, none⟩) 1 1) (w.alloc (.cells (i8s p.l) 81)) := by
  obtain ⟨a0, a1, a2, a3, a4, a5, a6, a7, a8, a9, a10, a11, e⟩ := list12 p.len
  rw [e]
  exact run_build12 a0 a1 a2 a3 a4 a5 a6 a7 a8 a9 a10 a11 w

theorem step_build {ops : Array Oper} {o : Oper} {a : Act} {w : World} {K : Act → World → Prop} {Q : Exit → Act → World → Prop} {E : Prop} (hg : o.guard = none) (x : Operand) (hop : o.op = Op.buildSlice 78 1 #[(0, x)]) (p : Pm) (hx : a.eval x = .agg (p.l.map (Value.int .i8)).toArray)
    (hK : K (a.put o.dst (.slice (some ⟨w.heap.size, 0, none⟩) 1 1)) (w.alloc (.cells (i8s p.l) 81))) : if Region.wanted o (yielded ops a.tmps) = true then Oper.wp Try.prog o a w K Q else E :=
  step_value hg (by unfold execOp; simp only [hop, List.map_toArray, List.map_cons, List.map_nil, hx, run_build, Sem.run_bind, Sem.run_pure, Result.andThen_ok]) hK

theorem step_look' {ops : Array Oper} {o : Oper} {a : Act} {w : World} {K : Act → World → Prop} {Q : Exit → Act → World → Prop} {E : Prop} (hg : o.guard = none) (m x : Operand) (t : TypeId) (hop : o.op = Op.lookup t m x false) (e : TypeId) (ht : Try.prog.underlying t = some (.map 3 e)) {z : Value} (hz : (zeroValue e).run Try.prog w = .ok z w)
    {b n : Nat} {f : Int → Option Value} (h : IMap w b n f) (k : Int) (hm : a.eval m = .map (some b)) (hx : a.eval x = .int .i64 k) (h1 : -9223372036854775808 ≤ k) (h2 : k ≤ 9223372036854775807) {v : Value} (hv : (f k).getD z = v)
    (hK : K (a.put o.dst v) w) : if Region.wanted o (yielded ops a.tmps) = true then Oper.wp Try.prog o a w K Q else E := by
  subst hv
  exact step_look hg m x t hop e ht hz h k hm hx h1 h2 hK

/-- The generator is appended, and the new header stored: what the chain is then. -/
theorem gen_stored {w2 w3 w4 : World} {B g : Nat} {pre : List Lk} {l : Lk} {c : List Lk} {st : Nat → St} {p : Pm} {v' : Value} (hC : ChainAt w2 B g ((pre ++ l :: c).map rawOf) st) (hw3 : ∀ b, b < w2.heap.size → w3.heap[b]? = w2.heap[b]?) (h3s : w2.heap.size ≤ w3.heap.size) (h3o : w3.os = w2.os) (h3t : w3.tape = w2.tape) (h3p : w3.output = w2.output)
    (hown : w4.ownsRow B 81 12 v' (l.gens.length + 1) (gcells l.gens ++ p.l.map (Value.int .i8))) (hg : w3.grownBy w4 (st pre.length).vg.ownBlock) (hloc : v'.ownBlock = (st pre.length).vg.ownBlock ∨ (v'.ownBlock = some w3.heap.size ∧ w3.grownBy w4 none)) :
    ∃ st', Mid w2 (w4.setCell ⟨g, pre.length * 4 + 3, none⟩ v') B g pre.length ((pre ++ l :: c).map rawOf) st ((pre ++ l.gen p :: c).map rawOf) st' := by
  have hg2 : w2.grownBy w3 (st pre.length).vg.ownBlock := ⟨h3o, h3t, h3p, h3s, fun k hk _ => hw3 k hk⟩
  have hg2n : w2.grownBy w3 none := ⟨h3o, h3t, h3p, h3s, fun k hk _ => hw3 k hk⟩
  obtain ⟨hC5, hK5, hf5⟩ := hC.setGens (map_mid pre l c) (p := p) (v' := v') hown (hg2.trans hg) (hloc.imp id (fun h => ⟨fun b hb => by have := Option.some.inj (h.1.symm.trans hb); omega, hg2n.trans h.2⟩))
  rw [raw_gen, set_mid, show 4 * pre.length + 3 = pre.length * 4 + 3 from by omega] at hC5
  rw [show 4 * pre.length + 3 = pre.length * 4 + 3 from by omega] at hK5
  rw [raw_gen, set_mid] at hf5
  exact ⟨_, (Mid.start hC (Below.refl _ _)).step hC5 hK5 hf5 (fun j hj => by unfold updS; rw [if_neg (by omega)])⟩

set_option maxRecDepth 20000 in
set_option maxHeartbeats 8000000 in
theorem take_new {n k B g : Nat} {pre : List Lk} {l : Lk} {c : List Lk} {st : Nat → St} {p : Pm} {F : Nat → Prop} {w : World} (hBr : BringSays n k 12) (hpre : pre.length = k) (hn : k + (l :: c).length = n) (h12 : n ≤ 12) (hbs : ∀ x, x ∈ pre ++ l :: c → x.base < 12) (hnd : ∀ x, x ∈ l :: c → x.gens.Nodup)
    (hC : ChainAt w B g ((pre ++ l :: c).map rawOf) st) (hW : Whole F (l :: c)) (hF : Fixes F p) (hh : hasC (l :: c) p = false) :
    Calls Try.prog 82 #[.slice (some ⟨g, 0, none⟩) n n, .int .i64 k, pv p] w fun e w' => TakePost B g pre (l :: c) st p F w e w' := by
  subst hpre
  have hnC : (pre ++ l :: c).length = n := by rw [List.length_append]; exact hn
  have hn1 : pre.length + 1 + c.length = n := by rw [List.length_cons] at hn; omega
  have hA0 := Arr.new w p.l p.len
  have HH := hide (has_ok (pre ++ l :: c) pre.length p (w.alloc (.cells (i8s p.l) 81)) (hC.alloc _) (by simp) (by omega) hbs)
  rw [hnC, List.drop_left, hh] at HH
  have hbase : l.base < 12 := hbs l (by simp)
  have hpn : p ∉ l.gens := fun h => by
    have := (has_iff hW hF).2 ((hW.2.2 p).2 (Gen.of h))
    rw [hh] at this; cases this
  have HNDP : Hid (l.gens ++ [p]).Nodup := by
    show (l.gens ++ [p]).Nodup
    rw [List.nodup_append]
    exact ⟨hnd l List.mem_cons_self, by simp, fun a ha b hb e => hpn (by rw [← List.mem_singleton.1 hb, ← e]; exact ha)⟩
  have hgl : l.gens.length ≤ 12 ^ 12 := gens_bound (hnd l List.mem_cons_self)
  have h1212 : (12 : Nat) ^ 12 = 8916100448256 := by decide
  have HGL : Hid (l.gens.length ≤ 8916100448256) := by show _ ≤ _; omega
  have htl := tab_len hW.1 hbase
  have HC := hide hC
  have HW := hide hW
  have HF := hide hF
  have HN := hide hnd
  have HBS := hide hbs
  have HBR := hide hBr
  have hglt := hC.lt_g
  have hgB := hC.gB
  have lk := hC.link pre.length (rawOf l) (map_mid pre l c)
  obtain ⟨pb, cb, ebv⟩ := owns_slice12 lk.bells
  obtain ⟨pg, cg, egv⟩ := owns_slice12 lk.gens
  have hin2 : (Try.prog.info? 81).map (·.size) = some (p.l.map (Value.int .i8)).length := by rw [List.length_map, p.len]; exact Try.size81
  have hkn : (pre.length : Int) < (n : Int) := by omega
  clear hC hW hF hh hbs hnd hBr hpn hgl h1212 lk hn
  unfold pv at HH ⊢
  go_enter Try.func82, Try.ntmps82
  go_wp2_with (refine wpList_load_arr rfl _ rfl w.heap.size p.l hA0 rfl ?_)
  refine HH.out.mono ?_
  rintro e w2 ⟨rfl, hb1⟩
  have hB2 : Below w.heap.size w w2 := ((Below.refl _ _).alloc (Nat.le_refl _) _).trans ((below_alloc hb1).mono (by omega))
  have hA2 : Arr w2 w.heap.size p.l := hA0.below (below_alloc hb1) (by omega)
  have hC2 := HC.out.below hB2 (Nat.le_refl _)
  have lk2 := hC2.link pre.length (rawOf l) (map_mid pre l c)
  have c3 : w2.cell? ⟨g, pre.length * 4 + 3, none⟩ = some (.slice pg (rawOf l).gs.length cg) := by rw [Nat.mul_comm, ← egv]; exact lk2.c3
  have hg2lt := hC2.lt_g
  have c3a : ∀ o : Obj, (w2.alloc o).cell? ⟨g, pre.length * 4 + 3, none⟩ = some (.slice pg (rawOf l).gs.length cg) := fun o => (World.cell?_of_block (w := w2) (a := ⟨g, pre.length * 4 + 3, none⟩) (Below.heap_alloc w2 o g hg2lt)).trans c3
  have fg : w2.frozen? ⟨g, pre.length * 4 + 3, none⟩ = false := by obtain ⟨cs, ho, _⟩ := hC2.obj; simp [World.frozen?, ho]
  have hgn2 := lk2.gens
  have HC2 := hide hC2
  have HB2 := hide hB2
  have HLK2 := hide lk2
  have HKD := hide (hC2.kinds (map_mid pre l c) (map_mid pre l c))
  have hD2 := hA2.lt
  clear hb1 HH hA0 hC2 lk2 hB2
  go_wp2
  obtain ⟨i0, hi, hz0, hz1, hz2⟩ := info_parts Try.info81
  have HGO : Hid (w2.ownsRow B 81 12 (.slice pg (rawOf l).gs.length cg) (rawOf l).gs.length (gcells l.gens)) := by show World.ownsRow _ _ _ _ _ _ _; rw [← egv]; exact hgn2
  have HPL : Hid ((p.l.map (Value.int .i8)).length = 1 * 12) := by show _ = _; rw [List.length_map, p.len]
  have HO1 : Hid (∀ u ∈ p.l.map (Value.int .i8), u.oneCell' = true) := i8_one _
  have HM1 : Hid ((rawOf l).gs.length + 1 ≤ maxLen) := by have := HGL.out; show l.gens.length + 1 ≤ maxLen; unfold maxLen; omega
  have HY1 : Hid (((rawOf l).gs.length + 1) * 12 ≤ 140737488355328) := by have := HGL.out; show (l.gens.length + 1) * 12 ≤ _; omega
  have HS1 : Hid (∀ o : Obj, B ≤ (w2.alloc o).heap.size) := fun o => by simp; omega
  have HNW : Hid (∀ j u, (p.l.map (Value.int .i8))[j]? = some u → (w2.alloc (.cells (i8s p.l) 81)).cell? ((⟨w2.heap.size, 0, none⟩ : Addr).add j) = some u) := fun j u hu => by
    rw [Addr.add_mid]; exact (Arr.new w2 p.l p.len).range j u hu
  refine wp_region_held_drew (S := fun W' => Arr W' w.heap.size p.l) (by kernel_rfl) hA2 (fun hS => ?_)
  refine wpAnyH_take (i := 0) (v := .pointer (some ⟨g, pre.length * 4, none⟩)) rfl (by kernel_rfl) (by kernel_rfl) (by kernel_rfl) (fun _ _ _ h => h) (Or.inl ⟨by rfl, fun w' _ => by go_simp⟩) hS ?_
  refine wpAnyH_take (i := 1) (v := .pointer (some ⟨g, pre.length * 4, none⟩)) rfl (by kernel_rfl) (by kernel_rfl) (by kernel_rfl) (fun _ _ _ h => h) (Or.inl ⟨by rfl, fun w' _ => by go_simp⟩) hS ?_
  refine wpAnyH_take (i := 2) (v := .pointer (some ⟨g, pre.length * 4, none⟩)) rfl (by kernel_rfl) (by kernel_rfl) (by kernel_rfl) (fun _ _ _ h => h) (Or.inl ⟨by rfl, fun w' _ => by go_simp⟩) hS ?_
  refine wpAnyH_take (i := 3) (v := .pointer (some ⟨g, pre.length * 4 + 3, none⟩)) rfl (by kernel_rfl) (by kernel_rfl) (by kernel_rfl) (fun _ _ _ h => h) (Or.inl ⟨by rfl, fun w' _ => by go_simp⟩) hS ?_
  refine wpAnyH_take (i := 5) rfl (by kernel_rfl) (by kernel_rfl) (by kernel_rfl) (fun _ _ _ h => h) (yieldsIf_load_mid (by rfl) _ _ rfl w.heap.size 0 rfl (p.l.map (Value.int .i8)) _ (fun w' h => Arr.range h) Try.underlying81 rfl hin2) hS ?_
  refine wpAnyH_ready (rs := [4, 6]) (by kernel_rfl) (by simp) ?_
  refine AllReadyH.cons rfl (fun K hK => ?_) (AllReadyH.cons rfl (fun K hK => ?_) AllReadyH.nil)
  · go_simp
    refine hK.out _ _ hS (fun _ => ?_)
    clear hK
    refine wpAnyH_ready (rs := [6]) (by kernel_rfl) (by simp) ?_
    refine AllReadyH.cons rfl (fun K hK => ?_) AllReadyH.nil
    refine step_build rfl _ rfl p rfl ?_
    refine hK.out _ _ (Arr.alloc (w := w2.drew) hA2 _) (fun _ => ?_)
    clear hK
    refine wpAnyH_ready (rs := [7]) (by kernel_rfl) (by simp) ?_
    refine AllReadyH.cons rfl (fun K hK => ?_) AllReadyH.nil
    refine step_append_keep rfl _ _ 78 rfl B 81 i0 (.agg (i8s zeros12)) 12 12 Try.underlying78 hi hz0 hz1 hz2 rfl (by decide) _ _ _ rfl (World.ownsRow.alloc (w := w2.drew) HGO.out _) ⟨w2.heap.size, 0, none⟩ 1 1 (p.l.map (Value.int .i8)) rfl HPL.out (fun j u hu => HNW.out j u hu) HO1.out HM1.out HY1.out (HS1.out _) ?_
    intro v' w4 hown4 hg4 hloc4
    have hgv : (w2.drew.alloc (.cells (i8s p.l) 81)).grownBy w4 (st pre.length).vg.ownBlock := by rw [egv]; exact hg4
    have hlv : v'.ownBlock = (st pre.length).vg.ownBlock ∨ (v'.ownBlock = some (w2.drew.alloc (.cells (i8s p.l) 81)).heap.size ∧ (w2.drew.alloc (.cells (i8s p.l) 81)).grownBy w4 none) := by rw [egv]; exact hloc4
    have hA4 : Arr w4 w.heap.size p.l := (Arr.alloc (w := w2.drew) hA2 _).kept hgv (fun e => by have := (HC.out.link pre.length (rawOf l) (map_mid pre l c)).gens.lt _ e; omega)
    have hgg : w4.heap[g]? = w2.heap[g]? := (hgv.block g (by show g < (w2.alloc _).heap.size; simp; omega) (fun e => HKD.out.2.2.1 e.symm)).trans (Below.heap_alloc w2 _ g hg2lt)
    have c4 : w4.cell? ⟨g, pre.length * 4 + 3, none⟩ = some (.slice pg (rawOf l).gs.length cg) := (World.cell?_of_block (w := w2) (a := ⟨g, pre.length * 4 + 3, none⟩) hgg).trans c3
    have f4 : w4.frozen? ⟨g, pre.length * 4 + 3, none⟩ = false := (World.frozen?_of_block (w := w2) (a := ⟨g, pre.length * 4 + 3, none⟩) hgg).trans fg
    refine hK.out _ _ hA4 (fun hS => ?_)
    clear hK
    obtain ⟨st5, hM5⟩ := gen_stored (p := p) HC2.out (w3 := w2.drew.alloc (.cells (i8s p.l) 81)) (fun b hb => Below.heap_alloc w2 _ b hb) (by show _ ≤ (w2.alloc _).heap.size; simp) rfl rfl rfl hown4 hgv hlv
    obtain ⟨pv', cv', ev'⟩ := owns_slice12 hown4
    have hA5 : Arr (w4.setCell ⟨g, pre.length * 4 + 3, none⟩ v') w.heap.size p.l := hA4.set_other (by omega) _
    rw [ev'] at hM5 hA5
    subst ev'
    clear hown4 hg4 hloc4 hgv hlv hgg hA4
    refine wpAnyH_take (i := 8) (v := .pointer (some ⟨g, pre.length * 4, none⟩)) rfl (by kernel_rfl) (by kernel_rfl) (by kernel_rfl) (fun _ _ _ h => h) (Or.inl ⟨by rfl, fun w' _ => by go_simp⟩) hS ?_
    refine wpAnyH_take (i := 9) (v := .pointer (some ⟨g, pre.length * 4 + 3, none⟩)) rfl (by kernel_rfl) (by kernel_rfl) (by kernel_rfl) (fun _ _ _ h => h) (Or.inl ⟨by rfl, fun w' _ => by go_simp⟩) hS ?_
    refine wpAnyH_ready (rs := [10]) (by kernel_rfl) (by simp) ?_
    refine AllReadyH.cons rfl (fun K hK => ?_) AllReadyH.nil
    go_simp
    refine hK.out _ _ hA5 (fun _ => ?_)
    clear hK
    refine wpAnyH_done (by kernel_rfl) ?_ _
    generalize w4.setCell ⟨g, pre.length * 4 + 3, none⟩ (.slice pv' ((rawOf l).gs.length + 1) cv') = w5 at *
    have hnf5 : ∀ x, ¬ Foot g pre.length ((pre ++ l.gen p :: c).map rawOf) st5 w.heap.size x := fun x hf => Foot.not_new HC.out (Nat.le_refl _) x (hM5.foot' hf hD2)
    have hD5 := hA5.lt
    have lk5 := hM5.chain.link pre.length (rawOf (l.gen p)) (map_mid pre (l.gen p) c)
    obtain ⟨pb5, cb5, eb5⟩ := owns_slice12 lk5.bells
    have c25 : w5.cell? ⟨g, pre.length * 4 + 2, none⟩ = some (.slice pb5 (rawOf (l.gen p)).bs.length cb5) := by rw [Nat.mul_comm, ← eb5]; exact lk5.c2
    have HM5 := hide hM5
    have HA5 := hide hA5
    have HLK5 := hide lk5
    have HNF := hide hnf5
    have HTL : Hid ((rawOf (l.gen p)).bs.length = l.tab.length) := by show (l.tab.map _).length = _; simp
    clear hM5 hA5 lk5 hnf5 c4 f4 c3 c3a fg hgn2 hA2 HLK2 HKD HGO HPL HO1 HM1 HY1 HS1 HNW hi hz0 hz1 hz2
    generalize hnb : (rawOf (l.gen p)).bs.length = nb at *
    have HNB := hide hnb
    have hnb2 : (nb : Int) ≤ 12 := by have := HTL.out; omega
    clear hnb
    go_wp2
    go_loopw [31] (fun i wr => ∃ (q : Nat) (l' : Lk) (c' : List Lk) (st' : Nat → St), q ≤ nb ∧ i = .int .i64 q ∧ TLoop F l c l' c' p q ∧ Mid w5 wr B g pre.length ((pre ++ l.gen p :: c).map rawOf) st5 ((pre ++ l' :: c').map rawOf) st' ∧ Arr wr w.heap.size p.l ∧ Hid (∀ x, x ∈ l' :: c' → x.gens.Nodup)) (fun i _ => nb - (intOf i).toNat)
    case atStart =>
      refine ⟨0, l.gen p, c, st5, by omega, rfl, TLoop.start HW.out HF.out, Mid.start HM5.out.chain (Below.refl _ _), HA5.out, ?_⟩
      intro x hx
      rcases List.mem_cons.1 hx with rfl | hx
      · exact HNDP.out
      · exact HN.out x (List.mem_cons_of_mem _ hx)
    case round =>
      obtain ⟨q, l', c', st', hq, rfl, hL, hMid, hA, hnd⟩ := hrel
      by_cases hlt : q < nb
      · have hql : q < l.tab.length := by have := HTL.out; omega
        obtain ⟨e, he⟩ : ∃ e, l.tab[q]? = some e := ⟨_, List.getElem?_eq_getElem hql⟩
        have hem : e ∈ l.tab := List.mem_of_getElem? he
        obtain ⟨more, htab⟩ := hL.tab
        have hem' : e ∈ l'.tab := by rw [htab]; exact List.mem_append_left _ hem
        have hbl5 := HLK5.out.bells
        rw [eb5, HNB.out] at hbl5
        obtain ⟨bb, hbb, _, hbc, hbm⟩ := owns_some hbl5 (by omega)
        have hvb : (st5 pre.length).vb.ownBlock = some bb := by rw [eb5, hbb]; rfl
        have hcell : wr.cell? ⟨bb, q, none⟩ = some (.int .i64 ((e.1 : Nat) : Int)) := by
          have h1 := keep_ints hMid.keep HLK5.out.bells hvb (fun x hx => foot_bells HM5.out.chain (map_mid pre (l.gen p) c) hvb hx) (j := q) (by rw [HNB.out]; exact hlt)
          rw [h1]
          show some ((l.tab.map (fun e => Value.int .i64 ((e.1 : Nat) : Int))).getD q undef) = _
          rw [List.getD, List.getElem?_map, he]
          rfl
        have lkr := hMid.chain.link pre.length (rawOf l') (map_mid pre l' c')
        have c1 : wr.cell? ⟨g, pre.length * 4 + 1, none⟩ = some (.map (some (st' pre.length).m)) := by rw [Nat.mul_comm]; exact lkr.c1
        have hke : e.1 < 12 := key_lt HW.out.1 hbase hem
        have hlook : ((rawOf l').f ((e.1 : Nat) : Int)).getD (.agg (i8s zeros12)) = .agg (e.2.l.map (Value.int .i8)).toArray := by
          show (tabF l'.tab ((e.1 : Nat) : Int)).getD _ = _
          rw [tabF_nat, lookup_of_mem hL.part.ok.nodup (b := e.1) (u := e.2) hem']
          rfl
        have hmp := lkr.mp
        have HE := hide he
        have HEM := hide hem
        have HEM' := hide hem'
        have HL := hide hL
        have HMid := hide hMid
        have hAlt := hA.lt
        generalize hk1 : e.1 = b1 at *
        have HK1 := hide hk1
        subst hbb
        clear hL hMid lkr he hem hem' htab hvb hbl5 hk1
        go_wp2
        refine wp_region_held_drew (S := fun W' => Arr W' w.heap.size p.l) (by kernel_rfl) hA (fun hS => ?_)
        refine wpAnyH_take (i := 0) (v := .slice (some ⟨g, 0, none⟩) n n) rfl (by kernel_rfl) (by kernel_rfl) (by kernel_rfl) (fun _ _ _ h => h) (Or.inl ⟨by rfl, fun w' _ => by go_simp⟩) hS ?_
        refine wpAnyH_take (i := 1) (v := .int .i64 (pre.length : Int)) rfl (by kernel_rfl) (by kernel_rfl) (by kernel_rfl) (fun _ _ _ h => h) (Or.inl ⟨by rfl, fun w' _ => by go_simp⟩) hS ?_
        refine wpAnyH_take (i := 2) rfl (by kernel_rfl) (by kernel_rfl) (by kernel_rfl) (fun _ _ _ h => h) (yieldsIf_load_mid (by rfl) _ _ rfl w.heap.size 0 rfl (p.l.map (Value.int .i8)) _ (fun w' h => Arr.range h) Try.underlying81 rfl hin2) hS ?_
        refine wpAnyH_take (i := 3) (v := .pointer (some ⟨g, pre.length * 4, none⟩)) rfl (by kernel_rfl) (by kernel_rfl) (by kernel_rfl) (fun _ _ _ h => h) (Or.inl ⟨by rfl, fun w' _ => by go_simp⟩) hS ?_
        refine wpAnyH_take (i := 4) (v := .pointer (some ⟨g, pre.length * 4, none⟩)) rfl (by kernel_rfl) (by kernel_rfl) (by kernel_rfl) (fun _ _ _ h => h) (Or.inl ⟨by rfl, fun w' _ => by go_simp⟩) hS ?_
        refine wpAnyH_take (i := 5) (v := .pointer (some ⟨g, pre.length * 4 + 1, none⟩)) rfl (by kernel_rfl) (by kernel_rfl) (by kernel_rfl) (fun _ _ _ h => h) (Or.inl ⟨by rfl, fun w' _ => by go_simp⟩) hS ?_
        refine wpAnyH_take (i := 7) (v := .int .i64 (b1 : Int)) rfl (by kernel_rfl) (by kernel_rfl) (by kernel_rfl) (fun _ _ _ h => h) (Or.inl ⟨by rfl, fun w' _ => by go_simp⟩) hS ?_
        refine wpAnyH_ready (rs := [6]) (by kernel_rfl) (by simp) ?_
        refine AllReadyH.cons rfl (fun K hK => ?_) AllReadyH.nil
        go_simp
        refine hK.out _ _ hA (fun _ => ?_)
        clear hK
        refine wpAnyH_ready (rs := [8]) (by kernel_rfl) (by simp) ?_
        refine AllReadyH.cons rfl (fun K hK => ?_) AllReadyH.nil
        refine step_look' rfl _ _ 100 rfl 81 Try.underlying100 (Try.zero81 _) (show IMap wr.drew (st' pre.length).m (rawOf l').n (rawOf l').f from hmp) (b1 : Int) rfl rfl (by omega) (by omega) hlook ?_
        refine hK.out _ _ hA (fun _ => ?_)
        clear hK
        refine wpAnyH_ready (rs := [9]) (by kernel_rfl) (by simp) ?_
        refine AllReadyH.cons rfl (fun K hK => ?_) AllReadyH.nil
        go_simp
        refine (ptimes_raw p e.2 _).mono ?_
        rintro e0 w7 ⟨rfl, hb7⟩
        replace hb7 := undrew hb7
        have hM7 := HMid.out.quiet hb7
        have hA7 := hA.below hb7 hAlt
        refine hK.out _ _ hA7 (fun _ => ?_)
        clear hK
        refine wpAnyH_ready (rs := [10]) (by kernel_rfl) (by simp) ?_
        refine AllReadyH.cons rfl (fun K hK => ?_) AllReadyH.nil
        have hBr := HBR.out B g pre l' c' st' (p * e.2) F w7 rfl (by rw [HL.out.len]; exact hn1) h12 (by omega)
          (bases_of (cs := l :: c) (cs' := l' :: c') (by rw [List.map_cons, List.map_cons, HL.out.bases, HL.out.base]) HBS.out) hnd.out hM7.chain HL.out.part ((fixes_sub F).mul HF.out (HW.out.1.fix e HEM.out))
          (Gen.mul' (Gen.of (by show p ∈ l'.gens; rw [HL.out.gens]; simp)) (HL.out.part.inG e HEM'.out))
        unfold pv at hBr
        have HBr := hide hBr
        have HM7 := hide hM7
        clear hBr hM7 hb7
        go_simp
        refine HBr.out.mono ?_
        rintro e0 w8 ⟨v, rfl, l2, c2, st2, hP2, hBt2, hC8, hK8, hf8, hn8, hs8⟩
        have hM8 := HM7.out.step hC8 hK8 hf8 hs8
        have hA8 : Arr w8 w.heap.size p.l := keep_arr hK8 hA7 (fun x hf => HNF.out x (HM7.out.foot' hf hD5))
        have hL2 : TLoop F l c l2 c2 p (q + 1) := HL.out.step (e := e) (by rw [List.take_add_one, HE.out]; rfl) (by rw [HK1.out]; exact (HW.out.1.brings e HEM.out).trans HK1.out) hP2 hBt2
        refine hK.out _ _ hA8 (fun _ => ?_)
        clear hK
        refine wpAnyH_done (by kernel_rfl) ?_ _
        go_wp2
        go_roundw
        case rel =>
          have hfin : ∃ (q' : Nat) (l' : Lk) (c' : List Lk) (st' : Nat → St), q' ≤ nb ∧ Value.int .i64 ((q : Int) + 1) = .int .i64 (q' : Int) ∧ TLoop F l c l' c' p q' ∧ Mid w5 w8 B g pre.length ((pre ++ l.gen p :: c).map rawOf) st5 ((pre ++ l' :: c').map rawOf) st' ∧ Arr w8 w.heap.size p.l ∧ Hid (∀ x, x ∈ l' :: c' → x.gens.Nodup) :=
            ⟨q + 1, l2, c2, st2, by omega, by go_num, hL2, hM8, hA8, hn8⟩
          first
            | exact hfin
            | ((repeat apply Exists.intro); exact ⟨hfin, rfl⟩)
        case measure => simp [intOf]; omega
      · have hqn : l.tab.length ≤ q := by have := HTL.out; omega
        have hfin := hL.finish HW.out hqn
        have hMf := HM5.out.step hMid.chain hMid.keep hMid.foot hMid.low
        have HFin := hide hfin
        have HMf := hide hMf
        clear hL hMid hfin hMf
        go_wp2
        first
          | exact bodyPost_end (results_none rfl _ _ _) rfl (TakePost.mk HFin.out.1 HFin.out.2 HMf.out.chain ((Keep.of_below HB2.out (Nat.le_refl _)).trans HMf.out.keep (fun _ _ _ h => h)) (fun b x hb hf => HMf.out.foot b x (Nat.lt_of_lt_of_le hb HB2.out.size) hf) hnd.out HMf.out.low)
          | exact bodyPost_ret (results_none rfl _ _ _) rfl (TakePost.mk HFin.out.1 HFin.out.2 HMf.out.chain ((Keep.of_below HB2.out (Nat.le_refl _)).trans HMf.out.keep (fun _ _ _ h => h)) (fun b x hb hf => HMf.out.foot b x (Nat.lt_of_lt_of_le hb HB2.out.size) hf) hnd.out HMf.out.low)
  · refine step_build rfl _ rfl p rfl ?_
    refine hK.out _ _ (Arr.alloc (w := w2.drew) hA2 _) (fun _ => ?_)
    clear hK
    refine wpAnyH_ready (rs := [4]) (by kernel_rfl) (by simp) ?_
    refine AllReadyH.cons rfl (fun K hK => ?_) AllReadyH.nil
    go_simp
    refine hK.out _ _ (Arr.alloc (w := w2.drew) hA2 _) (fun _ => ?_)
    clear hK
    refine wpAnyH_ready (rs := [7]) (by kernel_rfl) (by simp) ?_
    refine AllReadyH.cons rfl (fun K hK => ?_) AllReadyH.nil
    refine step_append_keep rfl _ _ 78 rfl B 81 i0 (.agg (i8s zeros12)) 12 12 Try.underlying78 hi hz0 hz1 hz2 rfl (by decide) _ _ _ rfl (World.ownsRow.alloc (w := w2.drew) HGO.out _) ⟨w2.heap.size, 0, none⟩ 1 1 (p.l.map (Value.int .i8)) rfl HPL.out (fun j u hu => HNW.out j u hu) HO1.out HM1.out HY1.out (HS1.out _) ?_
    intro v' w4 hown4 hg4 hloc4
    have hgv : (w2.drew.alloc (.cells (i8s p.l) 81)).grownBy w4 (st pre.length).vg.ownBlock := by rw [egv]; exact hg4
    have hlv : v'.ownBlock = (st pre.length).vg.ownBlock ∨ (v'.ownBlock = some (w2.drew.alloc (.cells (i8s p.l) 81)).heap.size ∧ (w2.drew.alloc (.cells (i8s p.l) 81)).grownBy w4 none) := by rw [egv]; exact hloc4
    have hA4 : Arr w4 w.heap.size p.l := (Arr.alloc (w := w2.drew) hA2 _).kept hgv (fun e => by have := (HC.out.link pre.length (rawOf l) (map_mid pre l c)).gens.lt _ e; omega)
    have hgg : w4.heap[g]? = w2.heap[g]? := (hgv.block g (by show g < (w2.alloc _).heap.size; simp; omega) (fun e => HKD.out.2.2.1 e.symm)).trans (Below.heap_alloc w2 _ g hg2lt)
    have c4 : w4.cell? ⟨g, pre.length * 4 + 3, none⟩ = some (.slice pg (rawOf l).gs.length cg) := (World.cell?_of_block (w := w2) (a := ⟨g, pre.length * 4 + 3, none⟩) hgg).trans c3
    have f4 : w4.frozen? ⟨g, pre.length * 4 + 3, none⟩ = false := (World.frozen?_of_block (w := w2) (a := ⟨g, pre.length * 4 + 3, none⟩) hgg).trans fg
    refine hK.out _ _ hA4 (fun hS => ?_)
    clear hK
    obtain ⟨st5, hM5⟩ := gen_stored (p := p) HC2.out (w3 := w2.drew.alloc (.cells (i8s p.l) 81)) (fun b hb => Below.heap_alloc w2 _ b hb) (by show _ ≤ (w2.alloc _).heap.size; simp) rfl rfl rfl hown4 hgv hlv
    obtain ⟨pv', cv', ev'⟩ := owns_slice12 hown4
    have hA5 : Arr (w4.setCell ⟨g, pre.length * 4 + 3, none⟩ v') w.heap.size p.l := hA4.set_other (by omega) _
    rw [ev'] at hM5 hA5
    subst ev'
    clear hown4 hg4 hloc4 hgv hlv hgg hA4
    refine wpAnyH_take (i := 8) (v := .pointer (some ⟨g, pre.length * 4, none⟩)) rfl (by kernel_rfl) (by kernel_rfl) (by kernel_rfl) (fun _ _ _ h => h) (Or.inl ⟨by rfl, fun w' _ => by go_simp⟩) hS ?_
    refine wpAnyH_take (i := 9) (v := .pointer (some ⟨g, pre.length * 4 + 3, none⟩)) rfl (by kernel_rfl) (by kernel_rfl) (by kernel_rfl) (fun _ _ _ h => h) (Or.inl ⟨by rfl, fun w' _ => by go_simp⟩) hS ?_
    refine wpAnyH_ready (rs := [10]) (by kernel_rfl) (by simp) ?_
    refine AllReadyH.cons rfl (fun K hK => ?_) AllReadyH.nil
    go_simp
    refine hK.out _ _ hA5 (fun _ => ?_)
    clear hK
    refine wpAnyH_done (by kernel_rfl) ?_ _
    generalize w4.setCell ⟨g, pre.length * 4 + 3, none⟩ (.slice pv' ((rawOf l).gs.length + 1) cv') = w5 at *
    have hnf5 : ∀ x, ¬ Foot g pre.length ((pre ++ l.gen p :: c).map rawOf) st5 w.heap.size x := fun x hf => Foot.not_new HC.out (Nat.le_refl _) x (hM5.foot' hf hD2)
    have hD5 := hA5.lt
    have lk5 := hM5.chain.link pre.length (rawOf (l.gen p)) (map_mid pre (l.gen p) c)
    obtain ⟨pb5, cb5, eb5⟩ := owns_slice12 lk5.bells
    have c25 : w5.cell? ⟨g, pre.length * 4 + 2, none⟩ = some (.slice pb5 (rawOf (l.gen p)).bs.length cb5) := by rw [Nat.mul_comm, ← eb5]; exact lk5.c2
    have HM5 := hide hM5
    have HA5 := hide hA5
    have HLK5 := hide lk5
    have HNF := hide hnf5
    have HTL : Hid ((rawOf (l.gen p)).bs.length = l.tab.length) := by show (l.tab.map _).length = _; simp
    clear hM5 hA5 lk5 hnf5 c4 f4 c3 c3a fg hgn2 hA2 HLK2 HKD HGO HPL HO1 HM1 HY1 HS1 HNW hi hz0 hz1 hz2
    generalize hnb : (rawOf (l.gen p)).bs.length = nb at *
    have HNB := hide hnb
    have hnb2 : (nb : Int) ≤ 12 := by have := HTL.out; omega
    clear hnb
    go_wp2
    go_loopw [31] (fun i wr => ∃ (q : Nat) (l' : Lk) (c' : List Lk) (st' : Nat → St), q ≤ nb ∧ i = .int .i64 q ∧ TLoop F l c l' c' p q ∧ Mid w5 wr B g pre.length ((pre ++ l.gen p :: c).map rawOf) st5 ((pre ++ l' :: c').map rawOf) st' ∧ Arr wr w.heap.size p.l ∧ Hid (∀ x, x ∈ l' :: c' → x.gens.Nodup)) (fun i _ => nb - (intOf i).toNat)
    case atStart =>
      refine ⟨0, l.gen p, c, st5, by omega, rfl, TLoop.start HW.out HF.out, Mid.start HM5.out.chain (Below.refl _ _), HA5.out, ?_⟩
      intro x hx
      rcases List.mem_cons.1 hx with rfl | hx
      · exact HNDP.out
      · exact HN.out x (List.mem_cons_of_mem _ hx)
    case round =>
      obtain ⟨q, l', c', st', hq, rfl, hL, hMid, hA, hnd⟩ := hrel
      by_cases hlt : q < nb
      · have hql : q < l.tab.length := by have := HTL.out; omega
        obtain ⟨e, he⟩ : ∃ e, l.tab[q]? = some e := ⟨_, List.getElem?_eq_getElem hql⟩
        have hem : e ∈ l.tab := List.mem_of_getElem? he
        obtain ⟨more, htab⟩ := hL.tab
        have hem' : e ∈ l'.tab := by rw [htab]; exact List.mem_append_left _ hem
        have hbl5 := HLK5.out.bells
        rw [eb5, HNB.out] at hbl5
        obtain ⟨bb, hbb, _, hbc, hbm⟩ := owns_some hbl5 (by omega)
        have hvb : (st5 pre.length).vb.ownBlock = some bb := by rw [eb5, hbb]; rfl
        have hcell : wr.cell? ⟨bb, q, none⟩ = some (.int .i64 ((e.1 : Nat) : Int)) := by
          have h1 := keep_ints hMid.keep HLK5.out.bells hvb (fun x hx => foot_bells HM5.out.chain (map_mid pre (l.gen p) c) hvb hx) (j := q) (by rw [HNB.out]; exact hlt)
          rw [h1]
          show some ((l.tab.map (fun e => Value.int .i64 ((e.1 : Nat) : Int))).getD q undef) = _
          rw [List.getD, List.getElem?_map, he]
          rfl
        have lkr := hMid.chain.link pre.length (rawOf l') (map_mid pre l' c')
        have c1 : wr.cell? ⟨g, pre.length * 4 + 1, none⟩ = some (.map (some (st' pre.length).m)) := by rw [Nat.mul_comm]; exact lkr.c1
        have hke : e.1 < 12 := key_lt HW.out.1 hbase hem
        have hlook : ((rawOf l').f ((e.1 : Nat) : Int)).getD (.agg (i8s zeros12)) = .agg (e.2.l.map (Value.int .i8)).toArray := by
          show (tabF l'.tab ((e.1 : Nat) : Int)).getD _ = _
          rw [tabF_nat, lookup_of_mem hL.part.ok.nodup (b := e.1) (u := e.2) hem']
          rfl
        have hmp := lkr.mp
        have HE := hide he
        have HEM := hide hem
        have HEM' := hide hem'
        have HL := hide hL
        have HMid := hide hMid
        have hAlt := hA.lt
        generalize hk1 : e.1 = b1 at *
        have HK1 := hide hk1
        subst hbb
        clear hL hMid lkr he hem hem' htab hvb hbl5 hk1
        go_wp2
        refine wp_region_held_drew (S := fun W' => Arr W' w.heap.size p.l) (by kernel_rfl) hA (fun hS => ?_)
        refine wpAnyH_take (i := 0) (v := .slice (some ⟨g, 0, none⟩) n n) rfl (by kernel_rfl) (by kernel_rfl) (by kernel_rfl) (fun _ _ _ h => h) (Or.inl ⟨by rfl, fun w' _ => by go_simp⟩) hS ?_
        refine wpAnyH_take (i := 1) (v := .int .i64 (pre.length : Int)) rfl (by kernel_rfl) (by kernel_rfl) (by kernel_rfl) (fun _ _ _ h => h) (Or.inl ⟨by rfl, fun w' _ => by go_simp⟩) hS ?_
        refine wpAnyH_take (i := 2) rfl (by kernel_rfl) (by kernel_rfl) (by kernel_rfl) (fun _ _ _ h => h) (yieldsIf_load_mid (by rfl) _ _ rfl w.heap.size 0 rfl (p.l.map (Value.int .i8)) _ (fun w' h => Arr.range h) Try.underlying81 rfl hin2) hS ?_
        refine wpAnyH_take (i := 3) (v := .pointer (some ⟨g, pre.length * 4, none⟩)) rfl (by kernel_rfl) (by kernel_rfl) (by kernel_rfl) (fun _ _ _ h => h) (Or.inl ⟨by rfl, fun w' _ => by go_simp⟩) hS ?_
        refine wpAnyH_take (i := 4) (v := .pointer (some ⟨g, pre.length * 4, none⟩)) rfl (by kernel_rfl) (by kernel_rfl) (by kernel_rfl) (fun _ _ _ h => h) (Or.inl ⟨by rfl, fun w' _ => by go_simp⟩) hS ?_
        refine wpAnyH_take (i := 5) (v := .pointer (some ⟨g, pre.length * 4 + 1, none⟩)) rfl (by kernel_rfl) (by kernel_rfl) (by kernel_rfl) (fun _ _ _ h => h) (Or.inl ⟨by rfl, fun w' _ => by go_simp⟩) hS ?_
        refine wpAnyH_take (i := 7) (v := .int .i64 (b1 : Int)) rfl (by kernel_rfl) (by kernel_rfl) (by kernel_rfl) (fun _ _ _ h => h) (Or.inl ⟨by rfl, fun w' _ => by go_simp⟩) hS ?_
        refine wpAnyH_ready (rs := [6]) (by kernel_rfl) (by simp) ?_
        refine AllReadyH.cons rfl (fun K hK => ?_) AllReadyH.nil
        go_simp
        refine hK.out _ _ hA (fun _ => ?_)
        clear hK
        refine wpAnyH_ready (rs := [8]) (by kernel_rfl) (by simp) ?_
        refine AllReadyH.cons rfl (fun K hK => ?_) AllReadyH.nil
        refine step_look' rfl _ _ 100 rfl 81 Try.underlying100 (Try.zero81 _) (show IMap wr.drew (st' pre.length).m (rawOf l').n (rawOf l').f from hmp) (b1 : Int) rfl rfl (by omega) (by omega) hlook ?_
        refine hK.out _ _ hA (fun _ => ?_)
        clear hK
        refine wpAnyH_ready (rs := [9]) (by kernel_rfl) (by simp) ?_
        refine AllReadyH.cons rfl (fun K hK => ?_) AllReadyH.nil
        go_simp
        refine (ptimes_raw p e.2 _).mono ?_
        rintro e0 w7 ⟨rfl, hb7⟩
        replace hb7 := undrew hb7
        have hM7 := HMid.out.quiet hb7
        have hA7 := hA.below hb7 hAlt
        refine hK.out _ _ hA7 (fun _ => ?_)
        clear hK
        refine wpAnyH_ready (rs := [10]) (by kernel_rfl) (by simp) ?_
        refine AllReadyH.cons rfl (fun K hK => ?_) AllReadyH.nil
        have hBr := HBR.out B g pre l' c' st' (p * e.2) F w7 rfl (by rw [HL.out.len]; exact hn1) h12 (by omega)
          (bases_of (cs := l :: c) (cs' := l' :: c') (by rw [List.map_cons, List.map_cons, HL.out.bases, HL.out.base]) HBS.out) hnd.out hM7.chain HL.out.part ((fixes_sub F).mul HF.out (HW.out.1.fix e HEM.out))
          (Gen.mul' (Gen.of (by show p ∈ l'.gens; rw [HL.out.gens]; simp)) (HL.out.part.inG e HEM'.out))
        unfold pv at hBr
        have HBr := hide hBr
        have HM7 := hide hM7
        clear hBr hM7 hb7
        go_simp
        refine HBr.out.mono ?_
        rintro e0 w8 ⟨v, rfl, l2, c2, st2, hP2, hBt2, hC8, hK8, hf8, hn8, hs8⟩
        have hM8 := HM7.out.step hC8 hK8 hf8 hs8
        have hA8 : Arr w8 w.heap.size p.l := keep_arr hK8 hA7 (fun x hf => HNF.out x (HM7.out.foot' hf hD5))
        have hL2 : TLoop F l c l2 c2 p (q + 1) := HL.out.step (e := e) (by rw [List.take_add_one, HE.out]; rfl) (by rw [HK1.out]; exact (HW.out.1.brings e HEM.out).trans HK1.out) hP2 hBt2
        refine hK.out _ _ hA8 (fun _ => ?_)
        clear hK
        refine wpAnyH_done (by kernel_rfl) ?_ _
        go_wp2
        go_roundw
        case rel =>
          have hfin : ∃ (q' : Nat) (l' : Lk) (c' : List Lk) (st' : Nat → St), q' ≤ nb ∧ Value.int .i64 ((q : Int) + 1) = .int .i64 (q' : Int) ∧ TLoop F l c l' c' p q' ∧ Mid w5 w8 B g pre.length ((pre ++ l.gen p :: c).map rawOf) st5 ((pre ++ l' :: c').map rawOf) st' ∧ Arr w8 w.heap.size p.l ∧ Hid (∀ x, x ∈ l' :: c' → x.gens.Nodup) :=
            ⟨q + 1, l2, c2, st2, by omega, by go_num, hL2, hM8, hA8, hn8⟩
          first
            | exact hfin
            | ((repeat apply Exists.intro); exact ⟨hfin, rfl⟩)
        case measure => simp [intOf]; omega
      · have hqn : l.tab.length ≤ q := by have := HTL.out; omega
        have hfin := hL.finish HW.out hqn
        have hMf := HM5.out.step hMid.chain hMid.keep hMid.foot hMid.low
        have HFin := hide hfin
        have HMf := hide hMf
        clear hL hMid hfin hMf
        go_wp2
        first
          | exact bodyPost_end (results_none rfl _ _ _) rfl (TakePost.mk HFin.out.1 HFin.out.2 HMf.out.chain ((Keep.of_below HB2.out (Nat.le_refl _)).trans HMf.out.keep (fun _ _ _ h => h)) (fun b x hb hf => HMf.out.foot b x (Nat.lt_of_lt_of_le hb HB2.out.size) hf) hnd.out HMf.out.low)
          | exact bodyPost_ret (results_none rfl _ _ _) rfl (TakePost.mk HFin.out.1 HFin.out.2 HMf.out.chain ((Keep.of_below HB2.out (Nat.le_refl _)).trans HMf.out.keep (fun _ _ _ h => h)) (fun b x hb hf => HMf.out.foot b x (Nat.lt_of_lt_of_le hb HB2.out.size) hf) hnd.out HMf.out.low)
end Go.Proofs.Ytahffpgadoiijaa

/- take and bring at all levels. -/
namespace Go.Proofs.Ytahffpgadoiijaa
open Go.RowKit

theorem bring_all {n k : Nat} (hT : TakeSays n (k + 1)) (m : Nat) : BringSays n k m := by
  induction m using Nat.strongRecOn with
  | ind m ih =>
    intro B g pre l c st p F w
    cases h : l.tab.lookup (p.act l.base) with
    | some u => exact bring_old hT h
    | none => exact bring_new ih h

theorem take_all {n : Nat} : ∀ (d k : Nat), k + d = n → TakeSays n k
  | 0, k, hk => by
    intro B g pre cs st p F w hpre hn h12 hbs hnd hC hW hF
    have e : cs = [] := List.length_eq_zero_iff.1 (by omega)
    exact take_has hpre hn h12 hbs hnd hC hW hF (by rw [e]; rfl)
  | d + 1, k, hk => by
    intro B g pre cs st p F w hpre hn h12 hbs hnd hC hW hF
    cases hh : hasC cs p with
    | true => exact take_has hpre hn h12 hbs hnd hC hW hF hh
    | false =>
      cases cs with
      | nil => cases hh
      | cons l c => exact take_new (bring_all (take_all d (k + 1) (by omega)) 12) hpre hn h12 hbs hnd hC hW hF hh

end Go.Proofs.Ytahffpgadoiijaa

/- Contract: newChain (bases in order). -/
namespace Go.Proofs.Ytahffpgadoiijaa
open Go.RowKit

/-! a chain of no generators -/

def lk0 (b : Nat) : Lk := ⟨b, [(b, 1)], []⟩

theorem prd_lk0 (bs : List Nat) (p : Pm) : Prd (bs.map lk0) p ↔ p = 1 := by
  induction bs generalizing p with
  | nil => exact Iff.rfl
  | cons b bs ih =>
    constructor
    · rintro ⟨e, he, h, hh, rfl⟩
      rw [List.mem_singleton.1 he, (ih h).1 hh]
      exact Pm.one_mul 1
    · intro hp
      exact ⟨(b, 1), List.mem_singleton.2 rfl, 1, (ih 1).2 rfl, by rw [hp, Pm.one_mul]⟩

theorem gen_none {p : Pm} (h : Gen (fun x => x ∈ ([] : List Pm)) p) : p = 1 := by
  induction h with
  | one => rfl
  | mul hs _ _ => cases hs

theorem whole_lk0 (bs : List Nat) (F : Nat → Prop) (h : ∀ b, b < 12 → F b ∨ b ∈ bs) : Whole F (bs.map lk0) := by
  induction bs generalizing F with
  | nil => exact fun b hb => (h b hb).resolve_right (by simp)
  | cons b bs ih =>
    refine ⟨⟨by simp [lk0], fun e he => ?_, List.mem_singleton.2 rfl, fun e he => ?_⟩, ih _ (fun x hx => ?_), fun p => ?_⟩
    · rw [List.mem_singleton.1 he]; exact Pm.act_one b
    · rw [List.mem_singleton.1 he]; exact (fixes_sub F).one
    · rcases h x hx with h1 | h1
      · exact Or.inl (Or.inl h1)
      · rcases List.mem_cons.1 h1 with rfl | h1
        · exact Or.inl (Or.inr rfl)
        · exact Or.inr h1
    · rw [show lk0 b :: bs.map lk0 = (b :: bs).map lk0 from rfl, prd_lk0]
      exact ⟨fun e => by rw [e]; exact Gen.one, gen_none⟩

/-! the links, as they are laid one behind the other -/

structure PreAt (w : World) (B g n : Nat) (R : List Raw) (st : Nat → St) : Prop where
  obj : ∃ cs, w.heap[g]? = some (.cells cs 102) ∧ cs.size = 4 * n
  gB : B ≤ g
  link : ∀ j r, R[j]? = some r → LinkAt w B g j r (st j)
  mdis : ∀ i j, i < R.length → j < R.length → i ≠ j → (st i).m ≠ (st j).m
  bdis : ∀ i j, i < R.length → j < R.length → i ≠ j → ∀ b, (st i).vb.ownBlock = some b → (st j).vb.ownBlock ≠ some b
  gdis : ∀ i j, i < R.length → j < R.length → i ≠ j → ∀ b, (st i).vg.ownBlock = some b → (st j).vg.ownBlock ≠ some b

theorem PreAt.all {w : World} {B g n : Nat} {R : List Raw} {st : Nat → St} (h : PreAt w B g n R st) (hn : R.length = n) : ChainAt w B g R st :=
  ⟨by rw [hn]; exact h.obj, h.gB, h.link, h.mdis, h.bdis, h.gdis⟩

theorem obj_setCells (g T : Nat) : ∀ (vs : List Value) (o : Nat) (w : World) (cs : Array Value), w.heap[g]? = some (.cells cs T) → ∃ cs', (w.setCells g o vs).heap[g]? = some (.cells cs' T) ∧ cs'.size = cs.size
  | [], _, _, cs, h => ⟨cs, h, rfl⟩
  | v :: r, o, w, cs, h => by
    obtain ⟨c1, h1, h2⟩ := obj_setCell (x := o) v h
    obtain ⟨c2, h3, h4⟩ := obj_setCells g T r (o + 1) _ c1 h1
    exact ⟨c2, by rw [World.setCells]; exact h3, by rw [h4, h2]⟩

theorem there_obj {w : World} {g T N : Nat} {cs : Array Value} (h : w.heap[g]? = some (.cells cs T)) (hs : cs.size = N) (o k : Nat) (hk : o + k ≤ N) : w.there g o k := fun j hj => by
  constructor
  · rw [cell_of_row w g (o + j) cs T (0, 0) h, Array.getElem?_eq_getElem (by omega)]; rfl
  · simp [World.frozen?, h]

set_option maxHeartbeats 1000000 in
theorem PreAt.step {w w1 : World} {B g n m vbb : Nat} {R : List Raw} {st : Nat → St} {base : Nat} (h : PreAt w B g n R st) (hj : R.length < n) (hb : Below w.heap.size w w1) (hm : IMap w1 m 1 (tabF [(base, (1 : Pm))])) (hmB : B ≤ m) (hml : w.heap.size ≤ m)
    (hv : w1.ownsRow B 3 1 (.slice (some ⟨vbb, 0, none⟩) 1 1) 1 [.int .i64 (base : Int)]) (hvl : w.heap.size ≤ vbb) :
    PreAt (w1.setCells g (R.length * 4) [.int .i64 (base : Int), .map (some m), .slice (some ⟨vbb, 0, none⟩) 1 1, .slice none 0 0]) B g n (R ++ [rawOf (lk0 base)]) (updS st R.length ⟨m, .slice (some ⟨vbb, 0, none⟩) 1 1, .slice none 0 0⟩) := by
  obtain ⟨cs, ho, hos⟩ := h.obj
  have hgl : g < w.heap.size := (Array.getElem?_eq_some_iff.1 ho).1
  have ho1 : w1.heap[g]? = some (.cells cs 102) := (hb.block g hgl).trans ho
  have hth : w1.there g (R.length * 4) 4 := there_obj ho1 hos _ _ (by omega)
  have hne : ∀ x, x ≠ g → (w1.setCells g (R.length * 4) [.int .i64 (base : Int), .map (some m), .slice (some ⟨vbb, 0, none⟩) 1 1, .slice none 0 0]).heap[x]? = w1.heap[x]? := fun x hx => heap_setCells_ne g _ _ _ x hx
  have hin := World.rangeAt_setCells_same w1 g (R.length * 4) [.int .i64 (base : Int), .map (some m), .slice (some ⟨vbb, 0, none⟩) 1 1, .slice none 0 0] hth
  have e4 : R.length * 4 = 4 * R.length := Nat.mul_comm _ _
  generalize hW2 : w1.setCells g (R.length * 4) [.int .i64 (base : Int), .map (some m), .slice (some ⟨vbb, 0, none⟩) 1 1, .slice none 0 0] = W2 at *
  have k0 : W2.cell? ⟨g, 4 * R.length, none⟩ = some (.int .i64 (base : Int)) := by have := hin 0 (.int .i64 (base : Int)) (by simp); rw [e4] at this; exact this
  have k1 : W2.cell? ⟨g, 4 * R.length + 1, none⟩ = some (.map (some m)) := by have := hin 1 (.map (some m)) (by simp); rw [e4] at this; exact this
  have k2 : W2.cell? ⟨g, 4 * R.length + 2, none⟩ = some (.slice (some ⟨vbb, 0, none⟩) 1 1) := by have := hin 2 (.slice (some ⟨vbb, 0, none⟩) 1 1) (by simp); rw [e4] at this; exact this
  have k3 : W2.cell? ⟨g, 4 * R.length + 3, none⟩ = some (.slice none 0 0) := by have := hin 3 (.slice none 0 0) (by simp); rw [e4] at this; exact this
  clear hin
  have hmg : m ≠ g := by omega
  have hvg : vbb ≠ g := by omega
  have hlt : ∀ i r, R[i]? = some r → (st i).m < w.heap.size ∧ (∀ b, (st i).vb.ownBlock = some b → b < w.heap.size) ∧ (∀ b, (st i).vg.ownBlock = some b → b < w.heap.size) ∧ (st i).m ≠ g ∧ (∀ b, (st i).vb.ownBlock = some b → b ≠ g) ∧ (∀ b, (st i).vg.ownBlock = some b → b ≠ g) := fun i r hr => by
    have l := h.link i r hr
    refine ⟨l.mp.lt, fun b hb => (l.bells.lt b hb).2, fun b hb => (l.gens.lt b hb).2, fun e => ?_, fun b hb e => ?_, fun b hb e => ?_⟩
    · obtain ⟨es, cl, hq⟩ := l.mp.obj; rw [e, ho] at hq; cases hq
    · obtain ⟨c, hc⟩ := owns_obj l.bells hb; rw [e, ho] at hc; injection hc with hc; injection hc with _ h2 _; exact absurd h2 (by decide)
    · obtain ⟨c, hc⟩ := owns_obj l.gens hb; rw [e, ho] at hc; injection hc with hc; injection hc with _ h2 _; exact absurd h2 (by decide)
  have get_i : ∀ i, i < R.length → ∃ r, R[i]? = some r := fun i hi => ⟨_, List.getElem?_eq_getElem hi⟩
  refine ⟨?_, h.gB, ?_, ?_, ?_, ?_⟩
  · obtain ⟨cs', h3, h4⟩ := obj_setCells g _ [.int .i64 (base : Int), .map (some m), .slice (some ⟨vbb, 0, none⟩) 1 1, .slice none 0 0] (R.length * 4) w1 cs ho1
    exact ⟨cs', by rw [← hW2]; exact h3, by rw [h4, hos]⟩
  · intro j r hr
    by_cases e : j = R.length
    · subst e
      rw [List.getElem?_append_right (Nat.le_refl _), Nat.sub_self] at hr
      have hr' : rawOf (lk0 base) = r := by simpa using hr
      subst hr'
      have es : updS st R.length ⟨m, .slice (some ⟨vbb, 0, none⟩) 1 1, .slice none 0 0⟩ R.length = ⟨m, .slice (some ⟨vbb, 0, none⟩) 1 1, .slice none 0 0⟩ := by simp [updS]
      rw [es]
      refine ⟨k0, k1, k2, k3, hm.of_block (hne m hmg), hmB, ?_, World.ownsRow_nil _ _ _ _⟩
      exact owns_of_block hv (fun b hb => by have : vbb = b := by simpa [Value.ownBlock] using hb
                                             subst this; exact hne vbb hvg)
    · have hjl : j < R.length := by have := (List.getElem?_eq_some_iff.1 hr).1; rw [List.length_append] at this; simp at this; omega
      rw [List.getElem?_append_left hjl] at hr
      have es : updS st R.length ⟨m, .slice (some ⟨vbb, 0, none⟩) 1 1, .slice none 0 0⟩ j = st j := by unfold updS; rw [if_neg e]
      rw [es]
      have l := h.link j r hr
      have hl := hlt j r hr
      refine l.of_block (fun x h1 h2 => ?_) ((hne _ hl.2.2.2.1).trans (hb.block _ hl.1)) (fun b hb' => (hne _ (hl.2.2.2.2.1 b hb')).trans (hb.block _ (hl.2.1 b hb'))) (fun b hb' => (hne _ (hl.2.2.2.2.2 b hb')).trans (hb.block _ (hl.2.2.1 b hb')))
      rw [← hW2, World.cell?_setCells_out g _ _ w1 ⟨g, x, none⟩ (fun _ _ => Or.inl (by show x < R.length * 4; omega))]
      exact hb.cell (p := ⟨g, x, none⟩) hgl
  · intro i j hi hj' hne'
    rw [List.length_append, List.length_singleton] at hi hj'
    unfold updS
    by_cases ei : i = R.length
    · rw [if_pos ei, if_neg (by omega)]
      obtain ⟨r, hr⟩ := get_i j (by omega)
      have := (hlt j r hr).1
      show m ≠ _
      omega
    · rw [if_neg ei]
      obtain ⟨r, hr⟩ := get_i i (by omega)
      by_cases ej : j = R.length
      · rw [if_pos ej]
        have := (hlt i r hr).1
        show _ ≠ m
        omega
      · rw [if_neg ej]; exact h.mdis i j (by omega) (by omega) hne'
  · intro i j hi hj' hne' b hb1
    rw [List.length_append, List.length_singleton] at hi hj'
    unfold updS at hb1 ⊢
    by_cases ei : i = R.length
    · rw [if_pos ei] at hb1
      rw [if_neg (by omega)]
      obtain ⟨r, hr⟩ := get_i j (by omega)
      intro hb2
      have h1 := (hlt j r hr).2.1 b hb2
      have h2 : vbb = b := by simpa [Value.ownBlock] using hb1
      omega
    · rw [if_neg ei] at hb1
      obtain ⟨r, hr⟩ := get_i i (by omega)
      by_cases ej : j = R.length
      · rw [if_pos ej]
        intro hb2
        have h1 := (hlt i r hr).2.1 b hb1
        have h2 : vbb = b := by simpa [Value.ownBlock] using hb2
        omega
      · rw [if_neg ej]; exact h.bdis i j (by omega) (by omega) hne' b hb1
  · intro i j hi hj' hne' b hb1
    rw [List.length_append, List.length_singleton] at hi hj'
    unfold updS at hb1 ⊢
    by_cases ei : i = R.length
    · rw [if_pos ei] at hb1; cases hb1
    · rw [if_neg ei] at hb1
      by_cases ej : j = R.length
      · rw [if_pos ej]; intro hb2; cases hb2
      · rw [if_neg ej]; exact h.gdis i j (by omega) (by omega) hne' b hb1

theorem PreAt.below {w w' : World} {B g n X : Nat} {R : List Raw} {st : Nat → St} (h : PreAt w B g n R st) (hb : Below X w w') (hX : w.heap.size ≤ X) : PreAt w' B g n R st := by
  obtain ⟨cs, ho, hos⟩ := h.obj
  have hgl : g < w.heap.size := (Array.getElem?_eq_some_iff.1 ho).1
  refine ⟨⟨cs, (hb.block g (by omega)).trans ho, hos⟩, h.gB, fun j r hr => ?_, h.mdis, h.bdis, h.gdis⟩
  have l := h.link j r hr
  exact l.of_block (fun x _ _ => hb.cell (p := ⟨g, x, none⟩) (by show g < X; omega)) (hb.block _ (by have := l.mp.lt; omega)) (fun b hb' => hb.block _ (by have := (l.bells.lt b hb').2; omega)) (fun b hb' => hb.block _ (by have := (l.gens.lt b hb').2; omega))

/-- Rows of generators behind a slice value. -/
def Packs (w : World) (v : Value) (gs : List Pm) : Prop :=
  (gs = [] ∧ ∃ p c, v = .slice p 0 c) ∨
  ∃ b off cap, v = .slice (some ⟨b, off, none⟩) gs.length cap ∧ 0 < gs.length ∧ gs.length ≤ cap ∧ cap ≤ 9223372036854775807 ∧ b < w.heap.size ∧ ∀ i p, gs[i]? = some p → w.rangeAt b (off + i * 12) (p.l.map (Value.int .i8))

theorem Packs.below {w w' : World} {v : Value} {gs : List Pm} {X : Nat} (h : Packs w v gs) (hb : Below X w w') (hX : w.heap.size ≤ X) : Packs w' v gs := by
  rcases h with h | ⟨b, off, cap, h1, h2, h3, h4, h5, h6⟩
  · exact Or.inl h
  · refine Or.inr ⟨b, off, cap, h1, h2, h3, h4, Nat.lt_of_lt_of_le h5 hb.size, fun i p hi j u hu => ?_⟩
    rw [hb.cell (p := ⟨b, _, none⟩) (by show b < X; omega)]
    exact h6 i p hi j u hu

theorem wpList_insert {ops : Array Oper} {rest : List Oper} {o : Oper} {a : Act} {w : World} {Q : Exit → Act → World → Prop} (hg : o.guard = none) (m x v : Operand) (t : TypeId) (hop : o.op = Op.insert t m x v) (e : TypeId) (ht : Try.prog.underlying t = some (.map 3 e))
    {b n : Nat} {f : Int → Option Value} (h : IMap w b n f) (hn : n < maxLen) (k : Int) (val : Value) (hm : a.eval m = .map (some b)) (hx : a.eval x = .int .i64 k) (hv : a.eval v = val) (h1 : -9223372036854775808 ≤ k) (h2 : k ≤ 9223372036854775807)
    (hK : ∀ w', IMap w' b (n + 1) (upd f k val) → w.grownBy w' (some b) → wpList Try.prog ops Q rest (a.put o.dst undef) w') : wpList Try.prog ops Q (o :: rest) a w := by
  refine wpList_plain hg fun K' hK' => ?_
  obtain ⟨w', hrun, r1, r2⟩ := h.put ht hn h1 h2 val
  unfold Oper.wp
  simp [execOp, hop, hm, hx, hv, hrun, Result.andThen]
  exact hK' _ _ (hK w' r1 r2)

end Go.Proofs.Ytahffpgadoiijaa

/- Contract: newChain, where the bases are in order. -/
namespace Go.Proofs.Ytahffpgadoiijaa
open Go.RowKit

theorem Try.info102 : (Try.prog.info? 102).map (fun i => (i.zero, i.size, i.bytes)) = some (some (.agg #[.int .i64 0, .map none, .slice none 0 0, .slice none 0 0]), 4, 64) := by kernel_rfl

set_option maxHeartbeats 400000 in
theorem inOrder_ok (k : Int) (w : World) : Calls Try.prog 71 #[.int .i64 k] w fun e w' => e = .returned (.int .i64 k) ∧ w = w' := by
  go_enter Try.func71, Try.ntmps71
  go_wp2
  go_ret
  exact ⟨rfl, rfl⟩

/-- A chain that holds just what rows make. -/
structure Chained (w : World) (B g n : Nat) (bs : List Nat) (C : List Lk) (st : Nat → St) (gs : List Pm) : Prop where
  len : C.length = n
  bases : C.map (·.base) = bs
  whole : Whole (fun b => n ≤ b) C
  gen : ∀ x, Prd C x ↔ Gen (fun y => y ∈ gs) x
  chain : ChainAt w B g (C.map rawOf) st
  nd : ∀ l, l ∈ C → l.gens.Nodup

theorem Packs.form {w : World} {v : Value} {gs : List Pm} (h : Packs w v gs) : ∃ p cap, v = .slice p gs.length cap := by
  rcases h with ⟨rfl, p, c, rfl⟩ | ⟨b, off, cap, h1, _⟩
  · exact ⟨p, c, rfl⟩
  · exact ⟨_, cap, h1⟩

theorem chained_take {gs : List Pm} {C C' : List Lk} {q : Nat} {s : Pm} {F : Nat → Prop} (hs : gs[q]? = some s) (hW' : Whole F C') (hg : ∀ x, Prd C x ↔ Gen (fun y => y ∈ gs.take q) x) (ht : Took C C' s) : ∀ x, Prd C' x ↔ Gen (fun y => y ∈ gs.take (q + 1)) x := by
  have e : gs.take (q + 1) = gs.take q ++ [s] := by rw [List.take_add_one, hs]; rfl
  intro x
  constructor
  · refine ht.least _ (Gen.sub _) (fun y hy => ((hg y).1 hy).mono (fun z hz => ?_)) (Gen.of ?_) x
    · rw [e]; exact List.mem_append_left _ hz
    · rw [e]; simp
  · intro hx
    refine hx.least (prd_sub hW') (fun y hy => ?_)
    have hy : y ∈ gs.take (q + 1) := hy
    rw [e] at hy
    rcases List.mem_append.1 hy with hy | hy
    · exact ht.grow y ((hg y).2 (Gen.of hy))
    · rw [List.mem_singleton.1 hy]; exact ht.there

theorem below_setCells (b : Nat) (vs : List Value) (o : Nat) (w : World) {B : Nat} (hB : B ≤ b) : Below B w (w.setCells b o vs) := by
  induction vs generalizing o w with
  | nil => exact Below.refl _ _
  | cons v r ih =>
    rw [World.setCells]
    exact ((Below.refl _ _).setCell (p := ⟨b, o, none⟩) hB v).trans (ih (o + 1) _)

theorem tabF_one (j : Nat) : upd (fun _ => none) (j : Int) (pv 1) = tabF [(j, (1 : Pm))] := by
  have h := tabF_snoc (tab := []) (b := j) 1 rfl
  rw [List.nil_append] at h
  rw [← h]
  congr 1
  funext a
  unfold tabF
  split <;> rfl

theorem link_laid {w wr w1 w2 : World} {n j : Nat} {st : Nat → St} (hPre : PreAt wr w.heap.size w.heap.size n (((List.range j).map lk0).map rawOf) st) (hlt : j < n) (hbw : Below w.heap.size w wr) (hb01 : Below wr.heap.size wr w1) (hs1 : wr.heap.size < w1.heap.size)
    (hM2 : IMap w2 wr.heap.size (0 + 1) (upd (fun _ => none) (j : Int) (pv 1))) (hg2 : w1.grownBy w2 (some wr.heap.size)) :
    ∃ st', PreAt ((w2.alloc (.cells #[.int .i64 (j : Int)] 3)).setCells w.heap.size (j * 4) [.int .i64 (j : Int), .map (some wr.heap.size), .slice (some ⟨w2.heap.size, 0, none⟩) 1 1, .slice none 0 0]) w.heap.size w.heap.size n (((List.range (j + 1)).map lk0).map rawOf) st' ∧ Below w.heap.size w ((w2.alloc (.cells #[.int .i64 (j : Int)] 3)).setCells w.heap.size (j * 4) [.int .i64 (j : Int), .map (some wr.heap.size), .slice (some ⟨w2.heap.size, 0, none⟩) 1 1, .slice none 0 0]) := by
  have hR : (((List.range j).map lk0).map rawOf).length = j := by simp
  have hs2 := hg2.size
  have hbs := hbw.size
  have hb2 : Below wr.heap.size wr (w2.alloc (.cells #[.int .i64 (j : Int)] 3)) := (hb01.grown hg2 hb01.size (fun k h => by have := Option.some.inj h; omega)).alloc (by omega) _
  have hM3 := hM2.alloc (.cells #[.int .i64 (j : Int)] 3)
  rw [tabF_one] at hM3
  have hO : (w2.alloc (.cells #[.int .i64 (j : Int)] 3)).ownsRow w.heap.size 3 1 (.slice (some ⟨w2.heap.size, 0, none⟩) 1 1) 1 [.int .i64 (j : Int)] := owns_base (one_owned w2 (j : Int)) (by omega)
  have hst := hPre.step (base := j) (by rw [hR]; exact hlt) hb2 hM3 (by omega) (Nat.le_refl _) hO (by omega)
  rw [hR, show ((List.range j).map lk0).map rawOf ++ [rawOf (lk0 j)] = ((List.range (j + 1)).map lk0).map rawOf from by rw [List.range_succ]; simp] at hst
  exact ⟨_, hst, (hbw.trans (hb2.mono hbw.size)).trans (below_setCells _ _ _ _ (Nat.le_refl _))⟩

set_option maxRecDepth 20000 in
set_option maxHeartbeats 4000000 in
theorem newChain_ok (n : Nat) (v1 : Value) (gs : List Pm) (w : World) (h1 : 1 ≤ n) (h12 : n ≤ 12) (hP : Packs w v1 gs) (hgs : gs.length ≤ 8916100448256) (hF : ∀ x, x ∈ gs → Fixes (fun b => n ≤ b) x) :
    Calls Try.prog 72 #[.int .i64 n, v1, .func (.func 71) #[] #[]] w fun e w' => ∃ g C st, e = .returned (.slice (some ⟨g, 0, none⟩) n n) ∧ Chained w' w.heap.size g n (List.range n) C st gs ∧ Below w.heap.size w w' := by
  obtain ⟨i0, hi, hz0, hz1, hz2⟩ := info_parts Try.info102
  obtain ⟨pp, pcap, rfl⟩ := hP.form
  have HP := hide hP
  have HFx := hide hF
  have hmm := @run_makeMap Try.prog
  have hl1 := (1 : Pm).len
  clear hP hF
  go_enter Try.func72, Try.ntmps72
  go_wp2_with (at_make; refine wpList_make_full _ rfl _ _ 85 rfl w.heap.size 102 i0 (.agg #[.int .i64 0, .map none, .slice none 0 0, .slice none 0 0]) 4 Try.underlying85 hi hz0 hz1 _ _ _ _ n rfl rfl (by omega) (by omega) ?b2 ?b3 (Nat.le_refl _) ?_)
  case b2 => rw [hz2]; omega
  case b3 => unfold maxLen; omega
  intro w0 hown0 hgrow0
  have hPre0 : PreAt w0 w.heap.size w.heap.size n (((List.range 0).map lk0).map rawOf) (fun _ => ⟨0, .slice none 0 0, .slice none 0 0⟩) := by
    refine ⟨?_, Nat.le_refl _, fun j r h => by simp at h, fun i j h => by simp at h, fun i j h => by simp at h, fun i j h => by simp at h⟩
    rcases hown0.2 with ⟨h, _⟩ | ⟨g', cap', cur, hv, _, hh, _, _, hs, _⟩
    · cases h
    · injection hv with e1 _ e3
      injection e1 with e1
      injection e1 with e1
      subst e1; subst e3
      exact ⟨cur, hh, by rw [hs, Nat.mul_comm]⟩
  have hB0 : Below w.heap.size w w0 := (Below.refl _ _).grown hgrow0 (Nat.le_refl _) (fun k h => by cases h)
  clear hown0 hgrow0
  go_wp2
  go_loopw [16] (fun i wr => ∃ (j : Nat) (st : Nat → St), j ≤ n ∧ i = .int .i64 j ∧ PreAt wr w.heap.size w.heap.size n (((List.range j).map lk0).map rawOf) st ∧ Below w.heap.size w wr) (fun i _ => n - (intOf i).toNat)
  case atStart => exact ⟨0, _, by omega, rfl, hPre0, hB0⟩
  case round =>
    clear hPre0 hB0
    obtain ⟨j, st, hj, rfl, hPre, hbw⟩ := hrel
    by_cases hlt : j < n
    · have HPre := hide hPre
      have hbs := hbw.size
      have hsw : w.heap.size < wr.heap.size := by obtain ⟨cs, ho, _⟩ := hPre.obj; exact (Array.getElem?_eq_some_iff.1 ho).1
      have hM0 := IMap.made wr
      clear hPre
      go_wp2_with (go_at_call 71; refine (inOrder_ok _ _).mono ?_; rintro e w' ⟨rfl, rfl⟩)
      refine (prounds_ok _).mono ?_
      rintro e w1 ⟨rfl, hb1⟩
      replace hb1 := below_alloc hb1
      have hM1 := hM0.below hb1 (by omega)
      have hb01 : Below wr.heap.size wr w1 := ((Below.refl _ _).alloc (Nat.le_refl _) _).trans (hb1.mono (by omega))
      have hs1 : wr.heap.size < w1.heap.size := by have := hb1.size; simp at this; omega
      clear hM0 hb1
      have hgth : ∀ (W : World) (o : Obj), W.heap[w.heap.size]? = wr.heap[w.heap.size]? → w.heap.size < W.heap.size → (W.alloc o).there w.heap.size (j * 4) 4 := fun W o hW hlt2 => by
        obtain ⟨cs, ho, hos⟩ := HPre.out.obj
        exact there_obj ((Below.heap_alloc W o _ hlt2).trans (hW.trans ho)) hos _ _ (by omega)
      have HG := hide hgth
      have HZL : Hid (0 < maxLen) := by unfold Hid maxLen; omega
      have HJ1 : Hid (-9223372036854775808 ≤ (j : Int)) := by show _ ≤ _; omega
      have HJ2 : Hid ((j : Int) ≤ 9223372036854775807) := by show _ ≤ _; omega
      clear hgth
      go_wp2_with (refine wpList_insert rfl _ _ _ 100 rfl 81 Try.underlying100 hM1 HZL.out (j : Int) (pv 1) rfl rfl rfl HJ1.out HJ2.out ?_)
      intro w2 hM2 hg2
      have hth2 := HG.out w2 (.cells #[.int .i64 (j : Int)] 3) ((hg2.block w.heap.size (by omega) (by intro e; have := Option.some.inj e; omega)).trans (hb01.block w.heap.size hsw)) (by have := hg2.size; omega)
      obtain ⟨x0, d0⟩ := Option.isSome_iff_exists.1 (hth2 0 (by omega)).1
      obtain ⟨x1, d1⟩ := Option.isSome_iff_exists.1 (hth2 1 (by omega)).1
      obtain ⟨x2, d2⟩ := Option.isSome_iff_exists.1 (hth2 2 (by omega)).1
      obtain ⟨x3, d3⟩ := Option.isSome_iff_exists.1 (hth2 3 (by omega)).1
      have f0 := (hth2 0 (by omega)).2
      have f1 := (hth2 1 (by omega)).2
      have f2 := (hth2 2 (by omega)).2
      have f3 := (hth2 3 (by omega)).2
      rw [Nat.add_zero] at d0 f0
      have hLL := link_laid HPre.out hlt hbw hb01 hs1 hM2 hg2
      have HLL := hide hLL
      clear hLL hM2 hg2 hth2 hb01 hM1 HG HZL HJ1 HJ2
      obtain ⟨st', HST, HB3⟩ := HLL.out
      replace HST := hide HST
      replace HB3 := hide HB3
      clear HLL
      go_wp2
      go_roundw
      case rel =>
        have hfin : ∃ (j' : Nat) (st : Nat → St), j' ≤ n ∧ Value.int .i64 ((j : Int) + 1) = .int .i64 (j' : Int) ∧ PreAt ((w2.alloc (.cells #[.int .i64 (j : Int)] 3)).setCells w.heap.size (j * 4) [.int .i64 (j : Int), .map (some wr.heap.size), .slice (some ⟨w2.heap.size, 0, none⟩) 1 1, .slice none 0 0]) w.heap.size w.heap.size n (((List.range j').map lk0).map rawOf) st ∧ Below w.heap.size w ((w2.alloc (.cells #[.int .i64 (j : Int)] 3)).setCells w.heap.size (j * 4) [.int .i64 (j : Int), .map (some wr.heap.size), .slice (some ⟨w2.heap.size, 0, none⟩) 1 1, .slice none 0 0]) :=
          ⟨j + 1, _, by omega, by go_num, HST.out, HB3.out⟩
        first
          | exact hfin
          | ((repeat apply Exists.intro); exact ⟨hfin, rfl⟩)
      case measure => simp [intOf]; omega
    · obtain rfl : j = n := by omega
      have hCh := hPre.all (by simp)
      have HCh := hide hCh
      have HBw := hide hbw
      have hbs := hbw.size
      clear hPre hCh hbw
      obtain ⟨wo, hwo⟩ : ∃ wo : World, wo = wr := ⟨_, rfl⟩
      go_wp2
      go_loopw [36] (fun i wr => ∃ (q : Nat) (C : List Lk) (st : Nat → St), q ≤ gs.length ∧ i = .int .i64 q ∧ C.length = j ∧ Hid (C.map (·.base) = List.range j) ∧ Whole (fun b => j ≤ b) C ∧ Hid (∀ x, Prd C x ↔ Gen (fun y => y ∈ gs.take q) x) ∧ ChainAt wr w.heap.size w.heap.size (C.map rawOf) st ∧ Below w.heap.size w wr ∧ Hid (∀ l, l ∈ C → l.gens.Nodup)) (fun i _ => gs.length - (intOf i).toNat)
      case atStart =>
        refine ⟨0, (List.range j).map lk0, st, by omega, rfl, by simp, ?_, whole_lk0 _ _ (fun b hb => ?_), ?_, HCh.out, HBw.out, ?_⟩
        · show ((List.range j).map lk0).map (·.base) = _
          rw [List.map_map]
          exact List.map_id _
        · rcases Nat.lt_or_ge b j with h | h
          · exact Or.inr (List.mem_range.2 h)
          · exact Or.inl h
        · intro x
          rw [prd_lk0, List.take_zero]
          exact ⟨fun e => by rw [e]; exact Gen.one, gen_none⟩
        · intro l hl
          obtain ⟨b, _, rfl⟩ := List.mem_map.1 hl
          exact List.nodup_nil
      case round =>
        clear hwo
        obtain ⟨q, C, st, hq, rfl, hlen, hbas, hW, hg, hCh, hbw, hnd⟩ := hrel
        by_cases hlt : q < gs.length
        · obtain ⟨s, hs⟩ : ∃ s, gs[q]? = some s := ⟨_, List.getElem?_eq_getElem hlt⟩
          have hfs := HFx.out s (List.mem_of_getElem? hs)
          have hPk := HP.out.below hbw (Nat.le_refl _)
          obtain ⟨b, off, hpp, hrange, hb⟩ : ∃ b off, pp = some ⟨b, off, none⟩ ∧ wr.rangeAt b (off + q * 12) (s.l.map (Value.int .i8)) ∧ gs.length ≤ pcap := by
            rcases hPk with ⟨e, _⟩ | ⟨b, off, cap, hv, _, hc, _, _, hr⟩
            · rw [e] at hlt; simp at hlt
            · injection hv with e1 _ e3
              exact ⟨b, off, e1, hr q s hs, by omega⟩
          have hin : (Try.prog.info? 81).map (·.size) = some (s.l.map (Value.int .i8)).length := by rw [List.length_map, s.len]; exact Try.size81
          have hsl := s.len
          have HS := hide hs
          have HCh := hide hCh
          have HW := hide hW
          have HLen := hide hlen
          have hbs := hbw.size
          subst hpp
          clear hs hPk hCh hW hlen
          go_wp2_with (first
            | refine wpList_load_mid rfl 81 _ rfl b _ rfl _ _ hrange Try.underlying81 rfl hin ?_
            | (refine wpList_store_arr rfl _ _ rfl wr.heap.size zeros12 s.l (zeros_new wr) rfl rfl hsl ?_; intro w6 hX6 hg6)
            | refine wpList_load_arr rfl _ rfl wr.heap.size s.l hX6 rfl ?_)
          have hb6 : Below wr.heap.size wr w6 := ((Below.refl _ _).alloc (Nat.le_refl _) _).grown hg6 (by simp) (fun k h => by have := Option.some.inj h; omega)
          have hC6 := HCh.out.below hb6 (Nat.le_refl _)
          have hbl : ∀ l, l ∈ C → l.base < 12 := fun l hl => by
            have : l.base ∈ List.range j := by rw [← hbas.out]; exact List.mem_map.2 ⟨l, hl, rfl⟩
            have := List.mem_range.1 this
            omega
          have hT := take_all j 0 (by omega) w.heap.size w.heap.size [] C st s (fun b => j ≤ b) w6 rfl (by rw [HLen.out]; omega) h12 hbl hnd.out hC6 HW.out hfs
          have HT := hide hT
          have HB6 := hide hb6
          have HC6 := hide hC6
          clear hT hb6 hC6 hX6 hg6 hrange
          refine HT.out.mono ?_
          rintro e w7 ⟨v, rfl, C', st', hW7, hT7, hC7, hK7, hf7, hn7, hs7⟩
          have hg7 := chained_take HS.out hW7 hg.out hT7
          have hB7 : Below w.heap.size w w7 := (hbw.trans (HB6.out.mono hbw.size)).trans (hK7.toBelow (by have := HB6.out.size; omega) (fun b x hb hf => by have := (foot_lt HC6.out hf).2; omega))
          have HG7 := hide hg7
          clear hg7
          go_wp2
          go_roundw
          case rel =>
            have hfin : ∃ (q' : Nat) (C : List Lk) (st : Nat → St), q' ≤ gs.length ∧ Value.int .i64 ((q : Int) + 1) = .int .i64 (q' : Int) ∧ C.length = j ∧ Hid (C.map (·.base) = List.range j) ∧ Whole (fun b => j ≤ b) C ∧ Hid (∀ x, Prd C x ↔ Gen (fun y => y ∈ gs.take q') x) ∧ ChainAt w7 w.heap.size w.heap.size (C.map rawOf) st ∧ Below w.heap.size w w7 ∧ Hid (∀ l, l ∈ C → l.gens.Nodup) :=
              ⟨q + 1, C', st', by omega, by go_num, hT7.len.trans HLen.out, hT7.bases.trans hbas.out, hW7, HG7, hC7, hB7, hn7⟩
            first
              | exact hfin
              | ((repeat apply Exists.intro); exact ⟨hfin, rfl⟩)
          case measure => simp [intOf]; omega
        · have hgf : ∀ x, Prd C x ↔ Gen (fun y => y ∈ gs) x := fun x => by have := hg.out x; rw [List.take_of_length_le (by omega)] at this; exact this
          have HCd := hide (Chained.mk hlen hbas.out hW hgf hCh hnd.out)
          clear hW hCh hgf hg
          go_wp2
          go_ret
          exact ⟨_, C, st, rfl, HCd.out, hbw⟩
end Go.Proofs.Ytahffpgadoiijaa

/- Contracts of the answer's functions: BellOf, SignOf, Text, ReadRow. -/
namespace Go.Proofs.Ytahffpgadoiijaa
open Go.RowKit
set_option maxRecDepth 20000

theorem bl_none {b : UInt8} (h : ¬ bl b < 12) {m : Nat} (hm : m < 12) : sg m ≠ b.toNat := fun e => h (by rw [bl_of hm e]; exact hm)

theorem slice_sign (m : Nat) (hm : m < 12) (w : World) : (Instr.slice 9 (.string { data := #[49, 50, 51, 52, 53, 54, 55, 56, 57, 48, 69, 84] }) (some (.int .i64 (m : Int))) (some (.int .i64 ((m : Int) + 1))) none).run Try.prog w = .ok (.string (strOfNums [((sg m : Nat) : Int)])) w := by
  match m, hm with
  | 0, _ | 1, _ | 2, _ | 3, _ | 4, _ | 5, _ | 6, _ | 7, _ | 8, _ | 9, _ | 10, _ | 11, _ => rfl

theorem str_append (xs ys : List Int) : strOfNums xs ++ strOfNums ys = strOfNums (xs ++ ys) := by
  apply ByteArray.ext
  rw [ByteArray.data_append]
  simp [strOfNums]

/-- A byte of a text, as the index gives it. -/
theorem index_byte (s : ByteArray) (k : Nat) (hk : k < s.size) (w : World) : (Instr.index 9 (.string s) (.int .i64 (k : Int))).run Try.prog w = .ok (.int .u8 (((s[k]'hk).toNat : Nat) : Int)) w := by
  rw [run_index_string w 9 _ .i64 (k : Int) Try.underlying9, dif_pos ⟨by omega, by omega⟩]
  rfl

end Go.Proofs.Ytahffpgadoiijaa

/- Contracts of the answer's functions: Rank, At. -/
namespace Go.Proofs.Ytahffpgadoiijaa
open Go.RowKit
set_option maxRecDepth 20000

theorem cnt_append (x : Int) (l m : List Int) : cnt x (l ++ m) = cnt x l + cnt x m := by
  unfold cnt; rw [List.filter_append, List.length_append]

theorem cnt_rnd {n m : Nat} (h : m ≤ n) : cnt (m : Int) (rnd n) = m := by
  induction n with
  | zero => have : m = 0 := by omega
            subst this; rfl
  | succ n ih =>
    rw [rnd_snoc, cnt_append]
    by_cases e : m ≤ n
    · rw [ih e, show cnt (m : Int) [(n : Int)] = 0 from by unfold cnt; rw [List.filter_eq_nil_iff.2 (fun y hy => by have := List.mem_singleton.1 hy; subst this; simp; omega)]; rfl]; rfl
    · have e2 : m = n + 1 := by omega
      subst e2
      have h1 : cnt ((n + 1 : Nat) : Int) (rnd n) = n := by
        unfold cnt
        rw [List.filter_eq_self.2 (fun y hy => by
          obtain ⟨i, hi, rfl⟩ := List.mem_map.1 hy
          have := List.mem_range.1 hi
          simp; omega), rnd_length]
      have h2 : cnt ((n + 1 : Nat) : Int) [(n : Int)] = 1 := by
        unfold cnt
        rw [List.filter_eq_self.2 (fun y hy => by have := List.mem_singleton.1 hy; subst this; simp; omega)]; rfl
      rw [h1, h2]

theorem row_perm_rnd {a : List Int} (h : isRow a) : a.Perm (rnd a.length) :=
  perm_of_sub a (rnd a.length) h.2 (fun x hx => by have := h.1 x hx; exact List.mem_map.2 ⟨x.toNat, List.mem_range.2 (by omega), by omega⟩) (rnd_length _).symm

/-- Of a row: the lower ones ahead of a place, and behind it. -/
theorem cnt_split {a : List Int} (h : isRow a) {i m : Nat} (hi : i < a.length) (hm : a[i]?.getD 0 = (m : Int)) : cnt (m : Int) (a.take i) + cnt (m : Int) (a.drop (i + 1)) = m := by
  have hml : m < a.length := by
    have := h.at hi
    rw [show a.getD i 0 = (m : Int) from hm] at this
    omega
  have h1 : cnt (m : Int) a = m := by rw [cnt_perm (row_perm_rnd h), cnt_rnd (by omega)]
  have e : a = a.take i ++ ((m : Int) :: a.drop (i + 1)) := by
    have e2 : a[i] = (m : Int) := by rw [← hm]; simp [List.getElem?_eq_getElem hi]
    rw [← e2, ← List.drop_eq_getElem_cons hi, List.take_append_drop]
  rw [e, cnt_append] at h1
  have h2 : cnt (m : Int) ((m : Int) :: a.drop (i + 1)) = cnt (m : Int) (a.drop (i + 1)) := by
    unfold cnt; rw [List.filter_cons_of_neg (by simp)]
  rw [h2] at h1
  exact h1

theorem rankR_drop {a : List Int} {i m : Nat} (hi : i < a.length) (hm : a[i]?.getD 0 = (m : Int)) : rankR (a.drop i) = cnt (m : Int) (a.drop (i + 1)) * fct (a.length - 1 - i) + rankR (a.drop (i + 1)) := by
  have e2 : a[i] = (m : Int) := by rw [← hm]; simp [List.getElem?_eq_getElem hi]
  rw [List.drop_eq_getElem_cons hi, e2]
  show cnt (m : Int) (a.drop (i + 1)) * fct (a.drop (i + 1)).length + rankR (a.drop (i + 1)) = _
  rw [List.length_drop, show a.length - (i + 1) = a.length - 1 - i from by omega]

theorem rankR_le (a : List Int) (h : a.length ≤ 12) : rankR a ≤ 479001600 := by
  rw [← rkTo_all]; exact rkTo_le a a.length (Nat.le_refl _) h

set_option maxRecDepth 20000 in
set_option maxHeartbeats 2000000 in
theorem rrank_ok (v1 : Value) (a : List Int) (w : World) (i1 : Ints w v1 a) (r1 : isRow a) (n1 : 1 ≤ a.length) (n2 : a.length ≤ 12) :
    Calls Try.prog 31 #[v1] w fun e w' => e = .returned (.int .i64 (rkTo a a.length)) ∧ Below w.heap.size w w' := by
  have R1 := hide r1
  have hrl := rankR_le a n2
  rw [rkTo_all]
  rcases i1 with ⟨rfl, p, c, rfl⟩ | ⟨b1, o1, cap1, rfl, h01, hcp1, hm1, hb1, hcell1⟩
  · simp at n1
  have HC := hide hcell1
  clear r1 hcell1
  go_enter Try.func31, Try.ntmps31
  go_wp2
  go_loopw [3, 4] (fun sk si wr => ∃ i kk : Nat, i ≤ a.length ∧ si = .int .i64 i ∧ sk = .int .i64 kk ∧ Hid (kk + rankR (a.drop i) = rankR a) ∧ Below w.heap.size w wr) (fun _ si _ => a.length - (intOf si).toNat)
  case atStart => exact ⟨0, 0, by omega, rfl, rfl, by show 0 + rankR (a.drop 0) = _; rw [Nat.zero_add]; rfl, Below.refl _ _⟩
  case round =>
    obtain ⟨i, kk, hi, rfl, rfl, hkk, hbw⟩ := hrel
    by_cases hlt : i < a.length
    · obtain ⟨p, hp, hcp⟩ := cellAt HC.out hlt
      have hpr := R1.out.at hlt
      rw [show a.getD i 0 = p from hp.out] at hpr
      obtain ⟨m, rfl⟩ := Int.eq_ofNat_of_zero_le hpr.1
      have hm12 : m < 12 := by have := hpr.2; omega
      have gp : wr.cell? ⟨b1, o1 + i, none⟩ = some (.int .i64 (m : Int)) := (hbw.cell (by exact hb1)).trans hcp
      clear hpr hcp
      obtain ⟨wo, hwo⟩ : ∃ wo : World, wo = wr := ⟨_, rfl⟩
      go_wp2
      go_loopw [5, 6] (fun sl sj wr => ∃ j : Nat, j ≤ i ∧ sj = .int .i64 j ∧ sl = .int .i64 ((m : Int) - (cnt (m : Int) (a.take j) : Nat)) ∧ Below w.heap.size w wr) (fun _ sj _ => i - (intOf sj).toNat)
      case atStart => exact ⟨0, by omega, rfl, by simp [cnt], hbw⟩
      case round =>
        clear gp hwo hbw
        obtain ⟨j, hj, rfl, rfl, hbw⟩ := hrel
        have hcl := cnt_le (m : Int) (a.take j)
        have hcl2 : (a.take j).length ≤ j := List.length_take_le _ _
        by_cases hji : j < i
        · have hja : j < a.length := by omega
          obtain ⟨q, hq, hcq⟩ := cellAt HC.out hja
          obtain ⟨p2, hp2, hcp2⟩ := cellAt HC.out hlt
          have hpm : p2 = (m : Int) := hp2.out.symm.trans hp.out
          rw [hpm] at hcp2
          have g1 : wr.cell? ⟨b1, o1 + j, none⟩ = some (.int .i64 q) := (hbw.cell (by exact hb1)).trans hcq
          have g2 : wr.cell? ⟨b1, o1 + i, none⟩ = some (.int .i64 (m : Int)) := (hbw.cell (by exact hb1)).trans hcp2
          have HS : Hid (cnt (m : Int) (a.take (j + 1)) = cnt (m : Int) (a.take j) + if q < (m : Int) then 1 else 0) := by show _ = _; rw [take_snoc a j hja, hq.out]; exact cnt_snoc _ _ _
          clear hcq hcp2 hpm hp2
          by_cases hqm : q < (m : Int)
          · go_wp2
            go_region
            all_goals
              go_wp2
              go_roundw
              case rel => exact ⟨j + 1, by omega, by go_num, by rw [HS.out, if_pos hqm]; go_num, by first | exact hbw | exact hbw.drew | exact hbw.drew.drew⟩
              case measure => simp [intOf]; omega
          · go_wp2
            go_region
            all_goals
              go_wp2
              go_roundw
              case rel => exact ⟨j + 1, by omega, by go_num, by rw [HS.out, if_neg (by omega)]; go_num, by first | exact hbw | exact hbw.drew | exact hbw.drew.drew⟩
              case measure => simp [intOf]; omega
        · obtain rfl : j = i := by omega
          have hsp := cnt_split R1.out hlt hp.out
          have hrd := rankR_drop hlt hp.out
          generalize hdd : cnt (m : Int) (a.drop (j + 1)) = d at *
          have hfl := fct_le (n := a.length - 1 - j) (by omega)
          have hmul : Hid (kk + d * fct (a.length - 1 - j) + rankR (a.drop (j + 1)) = rankR a) := by have := hkk.out; show _ = _; omega
          have hmb : ((d : Int)) * ((fct (a.length - 1 - j) : Nat) : Int) ≤ 479001600 := by
            have h1 := hmul.out
            rw [← Int.natCast_mul]; omega
          have hmb0 : 0 ≤ ((d : Int)) * ((fct (a.length - 1 - j) : Nat) : Int) := by rw [← Int.natCast_mul]; omega
          have hkb : kk ≤ 479001600 := by have := hmul.out; omega
          have hmd : (m : Int) - ((cnt (m : Int) (a.take j) : Nat) : Int) = (d : Int) := by omega
          rw [hmd]
          have HF := hide (factorial_any (a.length - 1 - j) wr (by omega))
          have earg : ((a.length : Int) - 1 - (j : Int)) = ((a.length - 1 - j : Nat) : Int) := by omega
          have HEA := hide earg
          have HK : Hid (((kk : Int)) + (d : Int) * ((fct (a.length - 1 - j) : Nat) : Int) = ((kk + d * fct (a.length - 1 - j) : Nat) : Int)) := by show _ = _; rw [Int.natCast_add, Int.natCast_mul]
          clear hsp hrd hdd hkk hmd hcl hcl2 earg
          go_wp2_with fail
          rw [HEA.out]
          refine HF.out.mono ?_
          rintro e w1 ⟨rfl, rfl⟩
          go_wp2
          go_roundw
          case rel => exact ⟨j + 1, _, by omega, by go_num, by rw [HK.out], hmul, hbw⟩
          case measure => simp [intOf]; omega
    · obtain rfl : i = a.length := by omega
      have HE : Hid (kk = rankR a) := by have := hkk.out; rw [List.drop_length] at this; exact this
      go_wp2
      go_ret
      exact ⟨ret_int (by rw [HE.out]), hbw⟩

/-- 'append' to a row of the call's own, as one step of a region that draws. -/
theorem step_append_own {P : Program} {ops : Array Oper} {o : Oper} {a : Act} {w : World} {K : Act → World → Prop} {Q : Exit → Act → World → Prop} {E : Prop} (hg : o.guard = none) (s x : Operand) (t : TypeId)
    (ho : o.op = .call { callee := .builtin .append, args := #[s, x], argTypes := #[t, t] })
    (base : Nat) (e : TypeId) (i : TypeInfo) (z : Value) (size bytes : Nat) (ht : P.underlying t = some (.slice e)) (hi : P.info? e = some i) (hz : i.zero = some z)
    (hsize : i.size = size) (hby : i.bytes = bytes) (hzs : z.cells.size = size) (hsz : 0 < size)
    (v : Value) (n : Nat) (xs : List Value) (hs : a.eval s = v) (hown : w.ownsRow base e size v n xs)
    (ad : Addr) (m c : Nat) (news : List Value) (hx : a.eval x = .slice (some ad) m c) (hl : news.length = m * size) (hnews : ∀ j u, news[j]? = some u → w.cell? (ad.add j) = some u) (h1 : ∀ u ∈ news, u.oneCell' = true)
    (h63 : n + m ≤ maxLen) (hbytes : (n + m) * bytes ≤ 140737488355328) (hbase : base ≤ w.heap.size)
    (h : ∀ v' w', w'.ownsRow base e size v' (n + m) (xs ++ news) → w.grownBy w' v.ownBlock → K (a.put o.dst v') w') :
    if Region.wanted o (yielded ops a.tmps) = true then Oper.wp P o a w K Q else E := by
  have hw : Region.wanted o (yielded ops a.tmps) = true := by simp [Region.wanted, hg]
  rw [if_pos hw]
  exact wp_append_own w s x t ho base e i z size bytes ht hi hz hsize hby hzs hsz v n xs hs hown ad m c news hx hl hnews h1 h63 hbytes hbase (fun v' w' h2 h3 _ => h v' w' h2 h3)

theorem own_at {w : World} {base e g n cap : Nat} {xs : List Value} (h : w.ownsRow base e 1 (.slice (some ⟨g, 0, none⟩) n cap) n xs) (w4 : World) (hw : w4.heap[g]? = w.heap[g]?) {j : Nat} {u : Value} (hu : xs[j]? = some u) : w4.cell? ⟨g, j, none⟩ = some u := by
  have h1 := h.cells (g := g) rfl j u hu
  rw [Addr.add_lit, Nat.zero_add] at h1
  rw [World.cell?_of_block (w := w) (a := ⟨g, j, none⟩) hw]
  exact h1

theorem own_ne {u v : Option Nat} {B : Nat} (hu : ∀ k, u = some k → k < B) (hv : ∀ k, v = some k → B ≤ k) : u = none ∨ u ≠ v := by
  cases u with
  | none => exact Or.inl rfl
  | some k =>
    refine Or.inr (fun e => ?_)
    have h1 := hu k rfl
    have h2 := hv k e.symm
    omega

theorem first_at {w : World} {base g n cap q : Nat} {L : List Int} (h : w.ownsRow base 3 1 (.slice (some ⟨g, 0, none⟩) n cap) n (L.map (Value.int .i64))) (w4 : World) (hw : w4.heap[g]? = w.heap[g]?) :
    ∀ j u, ((L.take q).map (Value.int .i64))[j]? = some u → w4.cell? ((⟨g, 0, none⟩ : Addr).add j) = some u := by
  intro j u hu
  rw [Addr.add_lit, Nat.zero_add]
  refine own_at h w4 hw ?_
  rw [List.map_take, List.getElem?_take] at hu
  split at hu
  · exact hu
  · cases hu

theorem rest_at {w : World} {base g n cap q : Nat} {L : List Int} (h : w.ownsRow base 3 1 (.slice (some ⟨g, 0, none⟩) n cap) n (L.map (Value.int .i64))) (hl : L.length = n) (hc : n ≤ cap) :
    ∃ A : Addr, (if cap = q + 1 then some (⟨g, 0, none⟩ : Addr) else some ⟨g, q + 1, none⟩) = some A ∧ Hid (∀ j u, ((L.drop (q + 1)).map (Value.int .i64))[j]? = some u → ∀ w4 : World, w4.heap[g]? = w.heap[g]? → w4.cell? (A.add j) = some u) := by
  by_cases e : cap = q + 1
  · refine ⟨⟨g, 0, none⟩, by simp [e], fun j u hu w4 _ => ?_⟩
    rw [List.drop_eq_nil_of_le (by omega)] at hu
    simp at hu
  · refine ⟨⟨g, q + 1, none⟩, by simp [e], fun j u hu w4 hw => ?_⟩
    rw [Addr.add_lit]
    refine own_at h w4 hw ?_
    rw [List.map_drop, List.getElem?_drop] at hu
    exact hu

set_option maxRecDepth 20000 in
set_option maxHeartbeats 4000000 in
theorem rat_own (n k : Nat) (w : World) (h2 : n ≤ 12) (hk : k < fct n) :
    Calls Try.prog 64 #[.int .i64 n, .int .i64 k] w fun e w' => ∃ v, e = .returned v ∧ w'.ownsRow w.heap.size 3 1 v n ((atl n (rnd n) k).map (Value.int .i64)) ∧ Below w.heap.size w w' := by
  obtain ⟨i0, hi, hz0, hz1, hz2⟩ := info_parts Try.info3
  have HR := hide (rrounds_ok n w (by omega))
  have hfn := fct_le h2
  go_enter Try.func64, Try.ntmps64
  go_wp2_with fail
  refine HR.out.mono ?_
  rintro e w1 ⟨v1, rfl, hown1, hb1⟩
  clear HR
  go_wp2
  go_loopw [1, 5, 6] (fun sk so sl wr => ∃ (m kk B : Nat) (L xs : List Int), m ≤ n ∧ kk < fct m ∧ sk = .int .i64 (kk : Int) ∧
      wr.ownsRow B 3 1 sl m (L.map (Value.int .i64)) ∧ wr.ownsRow w.heap.size 3 1 so (n - m) (xs.map (Value.int .i64)) ∧ (∀ g, so.ownBlock = some g → g < B) ∧ w.heap.size ≤ B ∧ B ≤ wr.heap.size ∧
      Hid (xs ++ atl m L kk = atl n (rnd n) k) ∧ Below w.heap.size w wr) (fun _ _ sl _ => sliceLen sl)
  case atStart => exact ⟨n, k, w.heap.size, rnd n, [], Nat.le_refl _, hk, rfl, hown1, by rw [Nat.sub_self]; exact World.ownsRow_nil _ _ _ _, (fun g h => by cases h), Nat.le_refl _, hb1.size, rfl, hb1⟩
  case round =>
    obtain ⟨m, kk, B, L, xs, hmn, hkk, rfl, hl, hr, hob, hwB, hB, hat, hbw⟩ := hrel
    have hbs := hbw.size
    have hsl := hide (owns_len hl)
    cases m with
    | zero =>
      obtain ⟨p, cap, hv⟩ := owns_slice hl
      have e0 : L = [] := by have := hl.1; simpa using this
      rw [hv]
      clear hl hsl
      go_wp2
      go_ret
      refine ⟨_, rfl, ?_, hbw⟩
      have := hr
      rw [← hat.out]
      simpa [atl] using this
    | succ m =>
      obtain ⟨g, cap, hv, hg1, hg2, hgc, hcm⟩ := owns_form hl (by omega)
      rw [hv] at hl hsl ⊢
      have hLl : L.length = m + 1 := by have := hl.1; simpa using this
      have hG := fct_pos m
      have hFG : fct (m + 1) = (m + 1) * fct m := rfl
      have hGb := fct_le (n := m) (by omega)
      have hdl : kk / fct m < m + 1 := by rw [Nat.div_lt_iff_lt_mul hG, ← hFG]; exact hkk
      have hml : kk % fct m < fct m := Nat.mod_lt _ hG
      have hkb : kk ≤ 479001600 := by have := fct_le (n := m + 1) (by omega); omega
      have hq2 : (kk : Int) / ((fct m : Nat) : Int) = ((kk / fct m : Nat) : Int) := (Int.natCast_ediv kk (fct m)).symm
      have hr2 : (kk : Int) % ((fct m : Nat) : Int) = ((kk % fct m : Nat) : Int) := (Int.natCast_emod kk (fct m)).symm
      have hstep : Hid (xs ++ [L.getD (kk / fct m) 0] ++ atl m (L.eraseIdx (kk / fct m)) (kk % fct m) = atl n (rnd n) k) := by
        show _ = _
        rw [← hat.out, List.append_assoc]; rfl
      have HF := hide (factorial_any m wr (by omega))
      generalize kk / fct m = q at *
      generalize kk % fct m = r at *
      clear hFG hat hkk
      generalize hGe : fct m = G at *
      have HGe := hide hGe
      clear hGe hv
      obtain ⟨y, hy, hcy, hfy⟩ := owns_cellAt hl hdl
      rw [show L.getD q 0 = y from hy.out] at hstep
      go_wp2_with fail
      refine HF.out.mono ?_
      rintro e w2 ⟨rfl, rfl⟩
      clear HF
      go_wp2_with (at_builtin; refine wpList_append_own _ rfl _ _ 23 rfl w.heap.size 3 i0 (.int .i64 0) 1 8 Try.underlying23 hi hz0 hz1 hz2 rfl (by decide) _ _ _ rfl (hr.alloc _) ⟨wr.heap.size, 0, none⟩ 1 1 [.int .i64 y] rfl rfl ?c1 ?c2 ?c3 ?c4 ?c5 ?_)
      case c1 => exact cell_one_new _ _ _
      case c2 => intro u hu; simp at hu; subst hu; rfl
      case c3 => unfold maxLen; omega
      case c4 => omega
      case c5 => simp; omega
      · intro v3 w3 hown3 hgrow3 _
        have hl3 := (hl.alloc (.cells #[.int .i64 y] 3)).kept hgrow3 (Or.inr (by intro e; have := hob g e.symm; omega))
        have hb3 : Below w.heap.size w w3 := (hbw.alloc hbw.size _).grown hgrow3 (by simp; omega) (fun g hg => (hr.lt g hg).1)
        have hlt3 := hown3.lt
        have hgs3 := (hl3.lt g rfl).2
        have hic : (q : Int) ≤ (cap : Int) := by omega
        have hq0 : (0 : Int) ≤ (q : Int) := by omega
        have hwr : IntKind.i64.wrap ((q : Int) + 1) = (q : Int) + 1 := by rw [IntKind.wrap_i64]; omega
        have hp0 : (0 : Int) ≤ (q : Int) + 1 := by omega
        have hp1 : (q : Int) + 1 ≤ ((m : Int) + 1) := by omega
        have hp2 : ((q : Int) + 1).toNat = q + 1 := by omega
        obtain ⟨A, hA, hcA⟩ := rest_at (q := q) hl3 hLl hgc
        have HE : Hid ((w3.alloc (.cells #[] 3)).drew.ownsRow w3.heap.size 3 1 (.slice (some ⟨w3.heap.size, 0, none⟩) 0 0) 0 []) := World.ownsRow_made w3 #[] 0 (Nat.le_refl _) (by decide) (by simp)
        have HN1 := hide (first_at (q := q) hl3 (w3.alloc (.cells #[] 3)).drew (Below.heap_alloc w3 _ g hgs3))
        have HL1 : Hid (((L.take q).map (Value.int .i64)).length = q * 1) := by show _ = _; rw [List.length_map, List.length_take]; omega
        have HL2 : Hid (((L.drop (q + 1)).map (Value.int .i64)).length = (m - q) * 1) := by show _ = _; rw [List.length_map, List.length_drop]; omega
        have HO1 := hide (ints_oneCell .i64 (L.take q))
        have HO2 := hide (ints_oneCell .i64 (L.drop (q + 1)))
        have HM1 : Hid (0 + q ≤ maxLen) := by unfold Hid maxLen; omega
        have HM2 : Hid (0 + q + (m - q) ≤ maxLen) := by unfold Hid maxLen; omega
        have HY1 : Hid ((0 + q) * 8 ≤ 140737488355328) := by unfold Hid; omega
        have HY2 : Hid ((0 + q + (m - q)) * 8 ≤ 140737488355328) := by unfold Hid; omega
        have HS1 : Hid (w3.heap.size ≤ (w3.alloc (.cells #[] 3)).drew.heap.size) := by show w3.heap.size ≤ (w3.alloc _).heap.size; simp
        go_wp2_with fail
        go_region_law ((first
          | (refine step_append_own rfl (.tmp 31) (.tmp 34) 23 rfl w3.heap.size 3 i0 (.int .i64 0) 1 8 Try.underlying23 hi hz0 hz1 hz2 rfl (by decide) (.slice (some ⟨w3.heap.size, 0, none⟩) 0 0) 0 [] rfl HE.out ⟨g, 0, none⟩ q cap ((L.take q).map (Value.int .i64)) rfl HL1.out HN1.out HO1.out HM1.out HY1.out HS1.out ?_; intro v4 w4 hown4 hgrow4)
          | (refine step_append_own rfl (.tmp 35) (.tmp 39) 23 rfl w3.heap.size 3 i0 (.int .i64 0) 1 8 Try.underlying23 hi hz0 hz1 hz2 rfl (by decide) v4 (0 + q) _ rfl hown4 A (m - q) (cap - (q + 1)) ((L.drop (q + 1)).map (Value.int .i64)) rfl HL2.out (fun j u hu => hcA.out j u hu w4 (by rw [hgrow4.block g (by show g < (w3.alloc _).heap.size; simp; omega) (by intro e; have e' : g = w3.heap.size := Option.some.inj e; omega)]; exact Below.heap_alloc w3 _ g hgs3)) HO2.out HM2.out HY2.out (Nat.le_trans HS1.out hgrow4.size) ?_; intro v5 w5 hown5 hgrow5)))
        have hr5 := (((hown3.alloc (.cells #[] 3)).drew).kept hgrow4 (own_ne (fun k hk => (hlt3 k hk).2) (fun k hk => by have e' : w3.heap.size = k := Option.some.inj hk; omega))).kept hgrow5 (own_ne (fun k hk => (hlt3 k hk).2) (fun k hk => (hown4.lt k hk).1))
        have hb5 : Below w.heap.size w w5 := ((((hb3.alloc hb3.size (.cells #[] 3)).drew).grown hgrow4 (Nat.le_trans hb3.size HS1.out) (fun k hk => by have e' : w3.heap.size = k := Option.some.inj hk; have := hb3.size; omega))).grown hgrow5 (Nat.le_trans hb3.size (Nat.le_trans HS1.out hgrow4.size)) (fun k hk => by have := (hown4.lt k hk).1; have := hb3.size; omega)
        have hs5 : w3.heap.size ≤ w5.heap.size := Nat.le_trans HS1.out (Nat.le_trans hgrow4.size hgrow5.size)
        have hl5 : w5.ownsRow w3.heap.size 3 1 v5 m ((L.eraseIdx q).map (Value.int .i64)) := by
          have h5 := hown5
          rw [List.nil_append, ← List.map_append, ← List.eraseIdx_eq_take_drop_succ, show 0 + q + (m - q) = m from by omega] at h5
          exact h5
        rw [show n - (m + 1) + 1 = n - m from by omega] at hr5
        have hsl5 := hide (owns_len hl5)
        have HL5 := hide hl5
        have HR5 := hide hr5
        clear hl5 hr5 hown5 hown4 hown3 hgrow4 hgrow5 hgrow3 HN1 HE hcA HL1 HL2 HO1 HO2 HM1 HM2 HY1 HY2 HS1 hl3
        go_wp2
        go_roundw
        case rel =>
          have hfin : ∃ (m' kk' B' : Nat) (L' xs' : List Int), m' ≤ n ∧ kk' < fct m' ∧ Value.int .i64 (r : Int) = .int .i64 (kk' : Int) ∧
              w5.ownsRow B' 3 1 v5 m' (L'.map (Value.int .i64)) ∧ w5.ownsRow w.heap.size 3 1 v3 (n - m') (xs'.map (Value.int .i64)) ∧ (∀ g, v3.ownBlock = some g → g < B') ∧ w.heap.size ≤ B' ∧ B' ≤ w5.heap.size ∧
              Hid (xs' ++ atl m' L' kk' = atl n (rnd n) k) ∧ Below w.heap.size w w5 :=
            ⟨m, r, w3.heap.size, _, xs ++ [y], by omega, by rw [HGe.out]; exact hml, rfl, HL5.out, by rw [List.map_append]; exact HR5.out, fun k hk => (hlt3 k hk).2, hb3.size, hs5, hstep, hb5⟩
          first
            | exact hfin
            | ((repeat apply Exists.intro); exact ⟨hfin, rfl⟩)
        case measure =>
          show sliceLen v5 < m + 1
          rw [hsl5.out]; omega

theorem rat_ok (n k : Nat) (w : World) (h2 : n ≤ 12) (hk : k < fct n) :
    Calls Try.prog 64 #[.int .i64 n, .int .i64 k] w fun e w' => ∃ v, e = .returned v ∧ Ints w' v (atl n (rnd n) k) ∧ Below w.heap.size w w' := by
  refine (rat_own n k w h2 hk).mono ?_
  rintro e w' ⟨v, rfl, ho, hb⟩
  exact ⟨v, rfl, Ints.own ho, hb⟩

end Go.Proofs.Ytahffpgadoiijaa

/- Contracts of the answer's functions: SameAll, Cycles. -/
namespace Go.Proofs.Ytahffpgadoiijaa
open Go.RowKit
set_option maxRecDepth 20000

/-- The slice value v holds these values. -/
def Vals (w : World) (v : Value) (vs : List Value) : Prop :=
  (vs = [] ∧ ∃ p c, v = .slice p 0 c) ∨
  ∃ b off cap, v = .slice (some ⟨b, off, none⟩) vs.length cap ∧ 0 < vs.length ∧ vs.length ≤ cap ∧ cap ≤ 9223372036854775807 ∧ b < w.heap.size ∧
    ∀ j, j < vs.length → w.cell? ⟨b, off + j, none⟩ = some (vs.getD j undef)

/-- The slice value v reads as a list of lists. -/
def IntsAll (w : World) (v : Value) (xss : List (List Int)) : Prop :=
  ∃ vs, Vals w v vs ∧ vs.length = xss.length ∧ ∀ j, j < xss.length → Ints w (vs.getD j undef) (xss.getD j [])

theorem Vals.below {w w' : World} {v : Value} {vs : List Value} (h : Vals w v vs) (hb : Below w.heap.size w w') : Vals w' v vs := by
  rcases h with h | ⟨b, off, cap, h1, h2, h3, h4, h5, h6⟩
  · exact Or.inl h
  · refine Or.inr ⟨b, off, cap, h1, h2, h3, h4, Nat.lt_of_lt_of_le h5 hb.size, fun j hj => ?_⟩
    rw [hb.cell (p := ⟨b, off + j, none⟩) h5]
    exact h6 j hj

theorem IntsAll.below {w w' : World} {v : Value} {xss : List (List Int)} (h : IntsAll w v xss) (hb : Below w.heap.size w w') : IntsAll w' v xss := by
  obtain ⟨vs, h1, h2, h3⟩ := h
  exact ⟨vs, h1.below hb, h2, fun j hj => (h3 j hj).below hb⟩

theorem Vals.form {w : World} {v : Value} {vs : List Value} (h : Vals w v vs) : ∃ p cap, v = .slice p vs.length cap := by
  rcases h with ⟨rfl, p, c, rfl⟩ | ⟨b, off, cap, h1, _⟩
  · exact ⟨p, c, rfl⟩
  · exact ⟨_, cap, h1⟩

theorem Vals.own {w : World} {base e : Nat} {v : Value} {vs : List Value} (h : w.ownsRow base e 1 v vs.length vs) : Vals w v vs := by
  rcases h.2 with ⟨rfl, h0⟩ | ⟨g, cap, cur, hv, _, hh, hn, hm, hs, ht⟩
  · exact Or.inl ⟨List.length_eq_zero_iff.1 h0, none, 0, rfl⟩
  · rcases Nat.eq_zero_or_pos vs.length with h0 | h0
    · exact Or.inl ⟨List.length_eq_zero_iff.1 h0, _, cap, by rw [hv, h0]⟩
    · refine Or.inr ⟨g, 0, cap, hv, h0, hn, by unfold maxLen at hm; omega, (Array.getElem?_eq_some_iff.1 hh).1, fun j hj => ?_⟩
      rw [Nat.zero_add]
      rw [hv] at h
      exact owns_val h hj

theorem IntsAll.own {w : World} {base e : Nat} {v : Value} {vs : List Value} {xss : List (List Int)} (h : w.ownsRow base e 1 v vs.length vs) (ha : OwnAll w base vs xss) : IntsAll w v xss :=
  ⟨vs, Vals.own h, OwnAll.length ha, fun j hj => Ints.own (ownAll_at ha (by rw [OwnAll.length ha]; exact hj))⟩

theorem takes_eq_snoc {xs ys : List (List Int)} {k : Nat} (h : xs.take k = ys.take k) (hx : k < xs.length) (hy : k < ys.length) (e : xs.getD k [] = ys.getD k []) : xs.take (k + 1) = ys.take (k + 1) := by
  rw [List.take_succ_eq_append_getElem hx, List.take_succ_eq_append_getElem hy, h]
  simp only [List.getD, List.getElem?_eq_getElem hx, List.getElem?_eq_getElem hy, Option.getD_some] at e
  rw [e]

theorem elAt {w : World} {b off k : Nat} {vs : List Value} (hcell : ∀ j, j < vs.length → w.cell? ⟨b, off + j, none⟩ = some (vs.getD j undef)) (h : k < vs.length) {X : List Int} (hi : Ints w (vs.getD k undef) X) :
    ∃ p c, w.cell? ⟨b, off + k, none⟩ = some (.slice p X.length c) ∧ Hid (Ints w (.slice p X.length c) X) := by
  obtain ⟨p, c, e⟩ := hi.form
  refine ⟨p, c, by rw [hcell k h, e], ?_⟩
  rw [← e]; exact hi

set_option maxRecDepth 20000 in
set_option maxHeartbeats 2000000 in
theorem sameAll_any (v1 v2 : Value) (xs ys : List (List Int)) (w : World) (h1 : IntsAll w v1 xs) (h2 : IntsAll w v2 ys) :
    Calls Try.prog 43 #[v1, v2] w fun e w' => e = .returned (.bool (decide (xs = ys))) ∧ Below w.heap.size w w' := by
  obtain ⟨vs, hv1, hl1, he1⟩ := h1
  obtain ⟨us, hv2, hl2, he2⟩ := h2
  by_cases hlen : xs.length = ys.length
  · have hvu : vs.length = us.length := by omega
    have hl : (((vs.length : Nat) : Int) != ((us.length : Nat) : Int)) = false := by rw [hvu]; simp
    rcases hv1 with ⟨rfl, p, c, rfl⟩ | ⟨b, off, cap, rfl, h0, hc, hm, hb, hcell⟩
    · obtain rfl : xs = [] := List.length_eq_zero_iff.1 (by simpa using hl1.symm)
      obtain rfl : ys = [] := List.length_eq_zero_iff.1 (by simpa using hlen.symm)
      obtain rfl : us = [] := List.length_eq_zero_iff.1 (by simpa using hl2)
      obtain ⟨p2, c2, rfl⟩ := hv2.form
      clear hv2 he1 he2 hl1 hl2 hlen hvu hl
      go_enter Try.func43, Try.ntmps43
      go_wp2
      go_loop [5] (fun i => i = .int .i64 0) (fun _ => 0)
      case atStart => rfl
      case round =>
        subst hrel
        go_wp2
        go_ret
        exact ⟨rfl, Below.refl _ _⟩
    · rcases hv2 with ⟨rfl, p, c, rfl⟩ | ⟨b2, off2, cap2, rfl, h02, hc2, hm2, hb2, hcell2⟩
      · simp at hvu; subst hvu; simp at h0
      · have HX := hide hl1
        have HY := hide hl2
        have HL := hide hlen
        have HVU := hide hvu
        have HE1 := hide he1
        have HE2 := hide he2
        have HC1 := hide hcell
        have HC2 := hide hcell2
        clear hlen hl1 hl2 he1 he2 hcell hcell2 hvu
        go_enter Try.func43, Try.ntmps43
        go_wp2
        go_loopw [5] (fun i wr => ∃ k : Nat, k ≤ vs.length ∧ i = .int .i64 k ∧ Hid (xs.take k = ys.take k) ∧ Below w.heap.size w wr) (fun i _ => vs.length - (intOf i).toNat)
        case atStart => exact ⟨0, by omega, rfl, by simp [Hid], Below.refl _ _⟩
        case round =>
          obtain ⟨k, hk, rfl, ht, hbw⟩ := hrel
          by_cases hlt : k < vs.length
          · have hlt2 : k < us.length := by have := HVU.out; omega
            obtain ⟨p1, c1, hcx, hix⟩ := elAt HC1.out hlt (HE1.out k (by have := HX.out; omega))
            obtain ⟨p2, c2, hcy, hiy⟩ := elAt HC2.out hlt2 (HE2.out k (by have := HY.out; omega))
            have gx : wr.cell? ⟨b, off + k, none⟩ = some (.slice p1 (xs.getD k []).length c1) := (hbw.cell (by exact hb)).trans hcx
            have gy : wr.cell? ⟨b2, off2 + k, none⟩ = some (.slice p2 (ys.getD k []).length c2) := (hbw.cell (by exact hb2)).trans hcy
            have HS := hide (same_any _ _ _ _ wr.drew (hix.out.below hbw.drew) (hiy.out.below hbw.drew))
            have hkx : k < xs.length := by have := HX.out; omega
            have hky : k < ys.length := by have := HY.out; omega
            have HT := hide (takes_eq_snoc ht.out hkx hky)
            have HN : Hid (xs.getD k [] ≠ ys.getD k [] → decide (xs = ys) = false) := fun hne => by
              rw [decide_eq_false_iff_not]; intro e; exact hne (by rw [e])
            generalize xs.getD k [] = X at *
            generalize ys.getD k [] = Y at *
            generalize X.length = lx at *
            generalize Y.length = ly at *
            clear hcx hcy hix hiy
            by_cases hxy : X = Y
            · rw [decide_eq_true hxy] at HS
              have HT' := hide (HT.out hxy)
              clear hxy HT HN
              go_wp2
              go_region_with (go_at_call 32; refine HS.out.mono ?_; rintro e w1 ⟨rfl, hb1⟩)
              all_goals
                have hB1 : Below w.heap.size w w1 := hbw.drew.trans (hb1.mono hbw.size)
                clear hb1
                go_wp2
                go_roundw
                case rel =>
                  have hfin : ∃ k' : Nat, k' ≤ vs.length ∧ Value.int .i64 ((k : Int) + 1) = .int .i64 (k' : Int) ∧ Hid (xs.take k' = ys.take k') ∧ Below w.heap.size w w1 := ⟨k + 1, by omega, by go_num, HT', hB1⟩
                  first
                    | exact hfin
                    | ((repeat apply Exists.intro); exact ⟨hfin, rfl⟩)
                case measure => simp [intOf]; omega
            · rw [decide_eq_false hxy] at HS
              have HN' := hide (HN.out hxy)
              clear hxy HT HN
              go_wp2
              go_region_with (go_at_call 32; refine HS.out.mono ?_; rintro e w1 ⟨rfl, hb1⟩)
              all_goals
                have hB1 : Below w.heap.size w w1 := hbw.drew.trans (hb1.mono hbw.size)
                clear hb1
                go_wp2
                go_ret
                exact ⟨ret_bool HN'.out.symm, hB1⟩
          · go_wp2
            go_ret
            refine ⟨ret_bool ?_, hbw⟩
            symm
            rw [decide_eq_true_iff]
            have h3 := ht.out
            have h4 := HX.out
            have h5 := HY.out
            have h6 := HVU.out
            rwa [List.take_of_length_le (by omega), List.take_of_length_le (by omega)] at h3
  · obtain ⟨p1, c1, rfl⟩ := hv1.form
    obtain ⟨p2, c2, rfl⟩ := hv2.form
    have hl : (((vs.length : Nat) : Int) != ((us.length : Nat) : Int)) = true := by rw [bne_iff_ne]; omega
    have hd : decide (xs = ys) = false := by rw [decide_eq_false_iff_not]; intro e; exact hlen (by rw [e])
    have HD := hide hd
    clear hlen hv1 hv2 he1 he2 hl1 hl2 hd
    go_enter Try.func43, Try.ntmps43
    go_wp2
    go_ret
    exact ⟨ret_bool HD.out.symm, Below.refl _ _⟩

end Go.Proofs.Ytahffpgadoiijaa
