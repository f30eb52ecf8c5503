/- Contract: bring, where the bell is an old one. -/
import Derived.Test.YtbddhpbeekioiaaGrowA
namespace Go.Proofs.Ytbddhpbeekioiaa
open Go.RowKit

theorem wpList_look_ok' {ops : Array Oper} {rest : List Oper} {o : Oper} {a : Act} {w : World} {Q : Exit → Act → World → Prop} (hg : o.guard = none) (m x : Operand) (t : TypeId) (hop : o.op = Op.lookup t m x true) (e : TypeId) (ht : Try.prog.underlying t = some (.map 3 e)) {z : Value} (hz : (zeroValue e).run Try.prog w = .ok z w)
    {b n : Nat} {f : Int → Option Value} (h : IMap w b n f) (k : Int) (hm : a.eval m = .map (some b)) (hx : a.eval x = .int .i64 k) (h1 : -9223372036854775808 ≤ k) (h2 : k ≤ 9223372036854775807) {v : Value} {s : Bool} (hv : (f k).getD z = v) (hs : (f k).isSome = s)
    (hK : wpList Try.prog ops Q rest (a.put o.dst (.tuple #[v, .bool s])) w) : wpList Try.prog ops Q (o :: rest) a w := by
  subst hv; subst hs
  exact wpList_look_ok hg m x t hop e ht hz h k hm hx h1 h2 hK

theorem Foot.not_new {w : World} {B g k : Nat} {R : List Raw} {st : Nat → St} (h : ChainAt w B g R st) {D : Nat} (hD : w.heap.size ≤ D) (x : Nat) : ¬ Foot g k R st D x := fun hf => by have := (foot_lt h hf).1; omega

set_option maxRecDepth 20000 in
set_option maxHeartbeats 4000000 in
theorem bring_old {n k m B g : Nat} {pre : List Lk} {l : Lk} {c : List Lk} {st : Nat → St} {p : Pm} {F : Nat → Prop} {w : World} (hT : TakeSays n (k + 1)) {u : Pm} (hu : l.tab.lookup (p.act l.base) = some u) : BringFor n k m B g pre l c st p F w := by
  intro hpre hn h12 hm hbs hnd hC hP hF hG
  subst hpre
  have lk := hC.link pre.length (rawOf l) (map_mid pre l c)
  have hbase : l.base < 12 := hbs l (by simp)
  have hglt := hC.lt_g
  have hb12 := p.act_lt hbase
  have HU := hide hu
  have hyl := u.len
  have hyv : (tabF l.tab ((p.act l.base : Nat) : Int)).getD (.agg (i8s zeros12)) = .agg (i8s u.l) := by rw [tabF_nat, hu]; rfl
  have hyt : (tabF l.tab ((p.act l.base : Nat) : Int)).isSome = true := by rw [tabF_nat, hu]; rfl
  clear hu
  have HCH := hide hC
  have HP := hide hP
  have HF := hide hF
  have HG := hide hG
  have HBS := hide hbs
  have HND := hide hnd
  have HT := hide hT
  have hmlt := lk.mp.lt
  obtain ⟨pb, cb, ebv⟩ := owns_slice12 lk.bells
  obtain ⟨pg, cg, egv⟩ := owns_slice12 lk.gens
  have c0 : ∀ o : Obj, (w.alloc o).cell? ⟨g, pre.length * 4, none⟩ = some (.int .i64 ((l.base : Nat) : Int)) := fun o => by rw [World.cell?_of_block (w := w) (a := ⟨g, pre.length * 4, none⟩) (Below.heap_alloc w o g hglt), Nat.mul_comm]; exact lk.c0
  have c1 : ∀ o : Obj, (w.alloc o).cell? ⟨g, pre.length * 4 + 1, none⟩ = some (.map (some (st pre.length).m)) := fun o => by rw [World.cell?_of_block (w := w) (a := ⟨g, pre.length * 4 + 1, none⟩) (Below.heap_alloc w o g hglt), Nat.mul_comm]; exact lk.c1
  have hmp0 := lk.mp.alloc (.cells (i8s p.l) 92)
  have hfe : (rawOf l).f = tabF l.tab := rfl
  rw [hfe] at hmp0
  have hA0 := Arr.new w p.l p.len
  have hcq := (hA0.cell hbase).1
  rw [p.getD_act hbase] at hcq
  generalize hbb : p.act l.base = b at *
  have HBB := hide hbb
  have hwb : IntKind.i64.wrap (b : Int) = (b : Int) := by rw [IntKind.wrap_i64]; omega
  have hbz : (0 : Int) ≤ (l.base : Int) := by omega
  have hbt : ((l.base : Nat) : Int) < 12 := by omega
  have hkn : (pre.length : Int) < (n : Int) := by omega
  have hB2' : ∀ o1 o2 : Obj, Below w.heap.size w ((w.alloc o1).alloc o2) := fun o1 o2 => ((Below.refl _ _).alloc (Nat.le_refl _) o1).alloc (by simp) o2
  unfold pv
  clear hC hP hF hG hbs hnd hT lk hbb
  go_enter Try.func102, Try.ntmps102
  go_wp2_with (first
    | refine wpList_look_ok' rfl _ _ 120 rfl 92 Try.underlying120 (Try.zero92 _) hmp0 (b : Int) rfl rfl (by omega) (by omega) hyv hyt ?_
    | (refine wpList_store_arr rfl _ _ rfl (w.heap.size + 1) zeros12 u.l (Arr.new1 w _ (zs := zeros12) rfl) rfl rfl hyl ?_; intro w2 hY2 hg2))
  have hA2 : Arr w2 w.heap.size p.l := (hA0.alloc _).kept hg2 (by intro e; have := Option.some.inj e; omega)
  have hB2 : Below w.heap.size w w2 := (hB2' _ _).grown hg2 (by simp; omega) (fun k h => by have := Option.some.inj h; omega)
  have hC2 := HCH.out.below hB2 (Nat.le_refl _)
  clear hg2 hA0 hcq c0 c1 hmp0 hB2'
  have hin1 : (Try.prog.info? 92).map (·.size) = some (u.l.map (Value.int .i8)).length := by rw [List.length_map, u.len]; exact Try.size92
  have hin2 : (Try.prog.info? 92).map (·.size) = some (p.l.map (Value.int .i8)).length := by rw [List.length_map, p.len]; exact Try.size92
  have hum : (p.act l.base, u) ∈ l.tab := by rw [HBB.out]; exact lookup_mem HU.out
  have hk1 : (pre.length : Int) + 1 = ((pre.length + 1 : Nat) : Int) := by omega
  have HK1 := hide hk1
  have hwk : IntKind.i64.wrap ((pre.length : Int) + 1) = (pre.length : Int) + 1 := by rw [IntKind.wrap_i64]; omega
  clear hk1
  refine wp_region_held_drew (S := fun W' => Arr W' (w.heap.size + 1) u.l ∧ Arr W' w.heap.size p.l) (by kernel_rfl) ⟨hY2, hA2⟩ (fun hS => ?_)
  refine wpAnyH_take (i := 0) (v := .slice (some ⟨g, 0, none⟩) n n) rfl (by kernel_rfl) (by kernel_rfl) (by kernel_rfl) (fun _ _ _ h => h) (Or.inl ⟨by rfl, fun w' _ => by go_simp⟩) hS ?_
  refine wpAnyH_take (i := 1) (v := .int .i64 (pre.length : Int)) rfl (by kernel_rfl) (by kernel_rfl) (by kernel_rfl) (fun _ _ _ h => h) (Or.inl ⟨by rfl, fun w' _ => by go_simp⟩) hS ?_
  refine wpAnyH_take (i := 2) (v := .int .i64 ((pre.length : Int) + 1)) rfl (by kernel_rfl) (by kernel_rfl) (by kernel_rfl) (fun _ _ _ h => h) (Or.inl ⟨by rfl, fun w' _ => by go_simp⟩) hS ?_
  refine wpAnyH_take (i := 3) rfl (by kernel_rfl) (by kernel_rfl) (by kernel_rfl) (fun _ _ _ h => h) (yieldsIf_load_mid (by rfl) _ _ rfl (w.heap.size + 1) 0 rfl (u.l.map (Value.int .i8)) _ (fun w' h => Arr.range h.1) Try.underlying92 rfl hin1) hS ?_
  refine wpAnyH_take (i := 5) rfl (by kernel_rfl) (by kernel_rfl) (by kernel_rfl) (fun _ _ _ h => h) (yieldsIf_load_mid (by rfl) _ _ rfl w.heap.size 0 rfl (p.l.map (Value.int .i8)) _ (fun w' h => Arr.range h.2) Try.underlying92 rfl hin2) hS ?_
  refine wpAnyH_ready (rs := [4]) (by kernel_rfl) (by simp) ?_
  refine AllReadyH.cons rfl (fun K hK => ?_) AllReadyH.nil
  go_simp
  refine (pback_raw u _).mono ?_
  rintro e w4 ⟨rfl, hb4⟩
  replace hb4 := undrew hb4
  have hY4 := hY2.below hb4 hY2.lt
  have hA4 := hA2.below hb4 hA2.lt
  have hB4 : Below w.heap.size w w4 := hB2.trans (hb4.mono hB2.size)
  refine hK.out _ _ ⟨hY4, hA4⟩ (fun _ => ?_)
  clear hK hb4
  refine wpAnyH_ready (rs := [6]) (by kernel_rfl) (by simp) ?_
  refine AllReadyH.cons rfl (fun K hK => ?_) AllReadyH.nil
  go_simp
  refine (ptimes_raw u⁻¹ p _).mono ?_
  rintro e w5 ⟨rfl, hb5⟩
  have hY5 := hY4.below hb5 hY4.lt
  have hA5 := hA4.below hb5 hA4.lt
  have hB5 : Below w.heap.size w w5 := hB4.trans (hb5.mono hB4.size)
  refine hK.out _ _ ⟨hY5, hA5⟩ (fun _ => ?_)
  clear hK hb5
  refine wpAnyH_ready (rs := [7]) (by kernel_rfl) (by simp) ?_
  refine AllReadyH.cons rfl (fun K hK => ?_) AllReadyH.nil
  have hC5 := HCH.out.below hB5 (Nat.le_refl _)
  have hF5 : Fixes (plus F l.base) (u⁻¹ * p) := fixes_plus.2 ⟨(fixes_sub F).mul ((fixes_sub F).inv (HP.out.ok.fix _ hum)) HF.out, by have h1 : u.act l.base = p.act l.base := HP.out.ok.brings _ hum; rw [Pm.act_mul, ← h1, Pm.inv_act]⟩
  have hTk := HT.out B g (pre ++ [l]) c st (u⁻¹ * p) (plus F l.base) w5 (by simp) (by omega) h12 (by rw [List.append_assoc]; exact HBS.out) (fun x hx => HND.out x (List.mem_cons_of_mem _ hx)) (by rw [List.append_assoc]; exact hC5) HP.out.whole hF5
  rw [← HK1.out] at hTk
  have HTk := hide hTk
  clear hTk
  go_simp
  refine HTk.out.mono ?_
  rintro e w6 ⟨v, rfl, cs', st', hW6, hT6, hC6, hK6, hf6, hn6, hs6⟩
  rw [List.append_assoc] at hC6 hK6
  rw [show (pre ++ [l]).length = pre.length + 1 from by simp] at hK6 hf6 hs6
  have hS6 : Arr w6 (w.heap.size + 1) u.l ∧ Arr w6 w.heap.size p.l := ⟨keep_arr hK6 hY5 (fun x => Foot.not_new HCH.out (by omega) x), keep_arr hK6 hA5 (fun x => Foot.not_new HCH.out (Nat.le_refl _) x)⟩
  refine hK.out _ _ hS6 (fun _ => ?_)
  clear hK
  refine wpAnyH_done (by kernel_rfl) ?_ _
  go_wp2
  have hpo := HP.out.old hum HG.out hW6 hT6
  refine bodyPost_ret (results_none rfl _ _ _) rfl (BringPost.mk hpo.1 hpo.2 hC6 ?_ ?_ ?_ (fun j hj => hs6 j (by omega)))
  · exact (Keep.of_below hB5 (Nat.le_refl _)).trans hK6 (fun b x _ hf => foot_succ hf)
  · intro b' x hb' hf
    exact foot_up (fun hf' => by have h := hf6 b' x (Nat.lt_of_lt_of_le hb' hB5.size); rw [List.append_assoc, List.append_assoc] at h; exact h hf') (hs6 _ (by omega)) hf
  · intro x hx
    rcases List.mem_cons.1 hx with rfl | hx
    · exact HND.out _ List.mem_cons_self
    · exact hn6 x hx
end Go.Proofs.Ytbddhpbeekioiaa
