/- Joined: Has, GrowA, Bring, BringN. -/
import Derived.Test.YtahffpgadoiijaaJ2
import Derived.Deep.RegionLaw
import Derived.Deep.RegionWith
import Derived.Deep.RegionHeld3
/- Contract: has. -/
namespace Go.Proofs.Ytahffpgadoiijaa
open Go.RowKit

/-! steps of a region that draws -/
section
variable {ops : Array Oper} {o : Oper} {a : Act} {w : World} {K : Act → World → Prop} {Q : Exit → Act → World → Prop} {E : Prop}

theorem step_value (hg : o.guard = none) {v : Value} {w' : World} (hrun : (execOp a.eval o).run Try.prog w = .ok (.value v) w') (h : K (a.put o.dst v) w') : if Region.wanted o (yielded ops a.tmps) = true then Oper.wp Try.prog o a w K Q else E := by
  have hw : Region.wanted o (yielded ops a.tmps) = true := by simp [Region.wanted, hg]
  rw [if_pos hw]
  unfold Oper.wp
  rw [hrun]
  exact h

theorem step_skip (hg : o.guard = none) {w' : World} (hrun : (execOp a.eval o).run Try.prog w = .ok (.skip) w') (h : K (a.put o.dst undef) w') : if Region.wanted o (yielded ops a.tmps) = true then Oper.wp Try.prog o a w K Q else E := by
  have hw : Region.wanted o (yielded ops a.tmps) = true := by simp [Region.wanted, hg]
  rw [if_pos hw]
  unfold Oper.wp
  rw [hrun]
  exact h

theorem step_load_arr (hg : o.guard = none) (x : Operand) (ho : o.op = .load 81 x) (b : Nat) (zs : List Int) (hA : Arr w b zs) (hx : a.eval x = .pointer (some ⟨b, 0, none⟩)) (h : K (a.put o.dst (.agg (i8s zs))) w) :
    if Region.wanted o (yielded ops a.tmps) = true then Oper.wp Try.prog o a w K Q else E :=
  step_value hg (by unfold execOp; simp only [ho, hx, run_load_arr hA, Sem.run_bind, Sem.run_pure, Result.andThen_ok]) h

theorem step_store_arr (hg : o.guard = none) (x y : Operand) (ho : o.op = .store 81 x y) (b : Nat) (zs ys : List Int) (hA : Arr w b zs) (hx : a.eval x = .pointer (some ⟨b, 0, none⟩)) (hy : a.eval y = .agg (i8s ys)) (hl : ys.length = 12)
    (h : ∀ w', Arr w' b ys → w.grownBy w' (some b) → K (a.put o.dst undef) w') : if Region.wanted o (yielded ops a.tmps) = true then Oper.wp Try.prog o a w K Q else E := by
  obtain ⟨w', hrun, h1, h2⟩ := run_store_arr (ys := ys) hA hl
  exact step_skip hg (by unfold execOp; simp only [ho, hx, hy, hrun, Sem.run_bind, Sem.run_pure, Result.andThen_ok]) (h w' h1 h2)

theorem step_look_ok (hg : o.guard = none) (m x : Operand) (t : TypeId) (hop : o.op = Op.lookup t m x true) (e : TypeId) (ht : Try.prog.underlying t = some (.map 3 e)) {z : Value} (hz : (zeroValue e).run Try.prog w = .ok z w)
    {b n : Nat} {f : Int → Option Value} (h : IMap w b n f) (k : Int) (hm : a.eval m = .map (some b)) (hx : a.eval x = .int .i64 k) (h1 : -9223372036854775808 ≤ k) (h2 : k ≤ 9223372036854775807)
    (hK : K (a.put o.dst (.tuple #[(f k).getD z, .bool (f k).isSome])) w) : if Region.wanted o (yielded ops a.tmps) = true then Oper.wp Try.prog o a w K Q else E :=
  step_value hg (by unfold execOp; simp only [hop, hm, hx, h.look_ok ht hz h1 h2, Sem.run_bind, Sem.run_pure, Result.andThen_ok]) hK

theorem step_look (hg : o.guard = none) (m x : Operand) (t : TypeId) (hop : o.op = Op.lookup t m x false) (e : TypeId) (ht : Try.prog.underlying t = some (.map 3 e)) {z : Value} (hz : (zeroValue e).run Try.prog w = .ok z w)
    {b n : Nat} {f : Int → Option Value} (h : IMap w b n f) (k : Int) (hm : a.eval m = .map (some b)) (hx : a.eval x = .int .i64 k) (h1 : -9223372036854775808 ≤ k) (h2 : k ≤ 9223372036854775807)
    (hK : K (a.put o.dst ((f k).getD z)) w) : if Region.wanted o (yielded ops a.tmps) = true then Oper.wp Try.prog o a w K Q else E :=
  step_value hg (by unfold execOp; simp only [hop, hm, hx, h.look ht hz h1 h2, Sem.run_bind, Sem.run_pure, Result.andThen_ok]) hK

theorem step_put (hg : o.guard = none) (m x v : Operand) (t : TypeId) (hop : o.op = Op.mapUpdate t m x v) (e : TypeId) (ht : Try.prog.underlying t = some (.map 3 e))
    {b n : Nat} {f : Int → Option Value} (h : IMap w b n f) (hn : n < maxLen) (k : Int) (val : Value) (hm : a.eval m = .map (some b)) (hx : a.eval x = .int .i64 k) (hv : a.eval v = val) (h1 : -9223372036854775808 ≤ k) (h2 : k ≤ 9223372036854775807)
    (hK : ∀ w', IMap w' b (n + 1) (upd f k val) → w.grownBy w' (some b) → K (a.put o.dst undef) w') : if Region.wanted o (yielded ops a.tmps) = true then Oper.wp Try.prog o a w K Q else E := by
  obtain ⟨w', hrun, r1, r2⟩ := h.put ht hn h1 h2 val
  exact step_skip hg (by unfold execOp; simp only [hop, hm, hx, hv, hrun, Sem.run_bind, Sem.run_pure, Result.andThen_ok]) (hK w' r1 r2)
end

/-- A store into the block that was made last. -/
theorem wpList_store_new {ops : Array Oper} {rest : List Oper} {op : Oper} {a : Act} {w : World} {Q : Exit → Act → World → Prop} (hgd : op.guard = none) (T : TypeId) (x y : Operand) (ho : op.op = .store T x y) (c c' : Array Value)
    (hx : a.eval x = .pointer (some ⟨w.heap.size, 0, none⟩)) (hy : a.eval y = .agg c') (hi : (Try.prog.info? T).map (·.size) = some c'.size) (hs : c.size = c'.size) (h1 : c'.all (·.oneCell') = true)
    (h : wpList Try.prog ops Q rest (a.put op.dst undef) (w.alloc (.cells c' T))) : wpList Try.prog ops Q (op :: rest) a (w.alloc (.cells c T)) := by
  refine wpList_plain hgd fun K hK => ?_
  unfold Oper.wp execOp
  simp only [ho, hx, hy, run_storeAt_new w T c c' hi hs h1, Sem.run_bind, Sem.run_pure, Result.andThen_ok]
  exact hK _ _ h

theorem Try.size102 : (Try.prog.info? 102).map (·.size) = some 4 := by kernel_rfl
theorem Try.zero81 (w : World) : (zeroValue 81).run Try.prog w = .ok (.agg (i8s zeros12)) w := by kernel_rfl

/-! links as they lie -/

def tabF (tab : List (Nat × Pm)) : Int → Option Value := fun a => if 0 ≤ a then (tab.lookup a.toNat).map pv else none

def rawOf (l : Lk) : Raw := ⟨l.base, l.tab.length, tabF l.tab, l.tab.map (fun e => .int .i64 ((e.1 : Nat) : Int)), l.gens⟩

theorem tabF_nat (tab : List (Nat × Pm)) (b : Nat) : tabF tab (b : Int) = (tab.lookup b).map pv := by unfold tabF; rw [if_pos (by omega), Int.toNat_natCast]

theorem hasC_step {C : List Lk} {j : Nat} {l : Lk} (hl : C[j]? = some l) (q : Pm) : hasC (C.drop j) q = (l.tab.lookup (q.act l.base)).elim false (fun u => hasC (C.drop (j + 1)) (u⁻¹ * q)) := by
  obtain ⟨hj, rfl⟩ := List.getElem?_eq_some_iff.1 hl
  rw [List.drop_eq_getElem_cons hj]
  rfl

theorem owns_slice12 {w : World} {base e size n : Nat} {v : Value} {xs : List Value} (h : w.ownsRow base e size v n xs) : ∃ p cap, v = .slice p n cap := by
  rcases h.2 with ⟨rfl, rfl⟩ | ⟨g, cap, cur, rfl, _⟩
  · exact ⟨none, 0, rfl⟩
  · exact ⟨_, cap, rfl⟩

theorem heap_setCells_ne (b : Nat) : ∀ (vs : List Value) (o : Nat) (w : World) (x : Nat), x ≠ b → (w.setCells b o vs).heap[x]? = w.heap[x]?
  | [], _, _, _, _ => rfl
  | v :: r, o, w, x, h => by
    rw [World.setCells, heap_setCells_ne b r (o + 1) _ x h]
    exact Below.heap_setCell w ⟨b, o, none⟩ v x h

theorem Arr.there {w : World} {b : Nat} {zs : List Int} (h : Arr w b zs) : w.there b 0 12 := fun j hj => by
  rw [Nat.zero_add]
  exact ⟨by rw [(h.cell hj).1]; rfl, (h.cell hj).2⟩

theorem i8_one (ys : List Int) : ∀ v ∈ ys.map (Value.int .i8), v.oneCell' = true := by
  intro v hv
  obtain ⟨a, _, rfl⟩ := List.mem_map.1 hv
  rfl

/-- A whole array stored, cell by cell. -/
theorem store_cells {w : World} {b : Nat} {zs ys : List Int} (h : Arr w b zs) (hl : ys.length = 12) : Arr (w.setCells b 0 (ys.map (Value.int .i8))) b ys ∧ w.grownBy (w.setCells b 0 (ys.map (Value.int .i8))) (some b) := by
  obtain ⟨w', hrun, h1, h2⟩ := run_store_arr (ys := ys) h hl
  have hrun' := run_storeAt_mid (P := Try.prog) w b 0 81 (i8s ys) (by rw [i8s_size, hl]; exact h.there) (by rw [Try.size81, i8s_size, hl]) (i8s_one ys)
  rw [hrun] at hrun'
  have e := (Result.ok.inj hrun').2
  have e2 : (i8s ys).toList = ys.map (Value.int .i8) := by simp [i8s]
  rw [e2] at e
  rw [← e]
  exact ⟨h1, h2⟩

theorem pback_raw (x : Pm) (w : World) : Calls Try.prog 105 #[.agg (x.l.map (Value.int .i8)).toArray] w fun e w' => e = .returned (.agg (x⁻¹.l.map (Value.int .i8)).toArray) ∧ Below w.heap.size w w' := pback_ok x w
theorem ptimes_raw (x y : Pm) (w : World) : Calls Try.prog 73 #[.agg (x.l.map (Value.int .i8)).toArray, .agg (y.l.map (Value.int .i8)).toArray] w fun e w' => e = .returned (.agg ((x * y).l.map (Value.int .i8)).toArray) ∧ Below w.heap.size w w' := ptimes_ok x y w

theorem undrew {w w' : World} (h : Below w.drew.heap.size w.drew w') : Below w.heap.size w w' := ⟨h.os, h.tape, h.output, h.size, h.block⟩

/-- What a look-up in a link gives. -/
theorem look_tab (tab : List (Nat × Pm)) (b : Nat) : ∃ (ys : List Int) (t : Bool), ys.length = 12 ∧ (tabF tab (b : Int)).getD (.agg (i8s zeros12)) = .agg (i8s ys) ∧ (tabF tab (b : Int)).isSome = t ∧ Hid ((t = true → ∃ u, tab.lookup b = some u ∧ ys = u.l) ∧ (t = false → tab.lookup b = none)) := by
  rw [tabF_nat]
  cases h : tab.lookup b with
  | none => exact ⟨zeros12, false, rfl, rfl, rfl, And.intro (fun h => Bool.noConfusion h) (fun _ => rfl)⟩
  | some u => exact ⟨u.l, true, u.len, rfl, rfl, And.intro (fun _ => ⟨u, rfl, rfl⟩) (fun h => Bool.noConfusion h)⟩

set_option maxRecDepth 20000 in
set_option maxHeartbeats 2000000 in
theorem has_ok {B g : Nat} {st : Nat → St} (C : List Lk) (k : Nat) (p : Pm) (w : World) (hC : ChainAt w B g (C.map rawOf) st) (hk : k ≤ C.length) (h12 : C.length ≤ 12) (hb : ∀ l, l ∈ C → l.base < 12) :
    Calls Try.prog 97 #[.slice (some ⟨g, 0, none⟩) C.length C.length, .int .i64 k, pv p] w fun e w' => e = .returned (.bool (hasC (C.drop k) p)) ∧ Below w.heap.size w w' := by
  unfold pv
  have hp := p.len
  have HA := hide (Arr.new w p.l hp)
  have HCC := hide hC
  have HBB := hide hb
  by_cases hkn : k = C.length
  · have HE : Hid (hasC (C.drop k) p = true) := by show _ = _; rw [hkn, List.drop_length]; rfl
    subst hkn
    have h0 : C.length - C.length = 0 := Nat.sub_self _
    clear hC hb
    go_enter Try.func97, Try.ntmps97
    go_wp2
    go_loopw [15] (fun i wr => i = .int .i64 0 ∧ Below w.heap.size w wr) (fun _ _ => 0)
    case atStart => exact ⟨rfl, (Below.refl _ _).alloc (Nat.le_refl _) _⟩
    case round =>
      obtain ⟨rfl, hbw⟩ := hrel
      go_wp2
      go_ret
      exact ⟨by rw [HE.out]; rfl, hbw⟩
  · have hkn' : k < C.length := by omega
    clear hC hb
    go_enter Try.func97, Try.ntmps97
    go_wp2
    go_loopw [15] (fun i wr => ∃ (j : Nat) (q : Pm), k ≤ j ∧ j ≤ C.length ∧ i = .int .i64 ((j - k : Nat) : Int) ∧ Arr wr w.heap.size q.l ∧ Hid (hasC (C.drop j) q = hasC (C.drop k) p) ∧ Below w.heap.size w wr) (fun i _ => C.length - k - (intOf i).toNat)
    case atStart => exact ⟨k, p, Nat.le_refl _, hk, by rw [Nat.sub_self]; rfl, HA.out, rfl, (Below.refl _ _).alloc (Nat.le_refl _) _⟩
    case round =>
      obtain ⟨j, q, hkj, hj, rfl, hA, hh, hbw⟩ := hrel
      by_cases hlt : j < C.length
      · obtain ⟨l, hl⟩ : ∃ l, C[j]? = some l := ⟨_, List.getElem?_eq_getElem hlt⟩
        have hCr := HCC.out.below hbw (Nat.le_refl _)
        have lk := hCr.link j (rawOf l) (by rw [List.getElem?_map, hl]; rfl)
        have hbase : l.base < 12 := HBB.out l (List.mem_of_getElem? hl)
        have hS0 := hA.lt
        have HSt := hide (hasC_step hl q)
        rw [hh.out] at HSt
        have hm12 := q.act_lt hbase
        obtain ⟨ys, t, hyl, hyv, hyt, hyh⟩ := look_tab l.tab (q.act l.base)
        have hcq := (hA.cell hbase).1
        rw [q.getD_act hbase] at hcq
        have mlt := lk.mp.lt
        have hmp := lk.mp
        have c0 := lk.c0
        have c1 := lk.c1
        obtain ⟨pb, cb, ebv⟩ := owns_slice12 lk.bells
        obtain ⟨pg, cg, egv⟩ := owns_slice12 lk.gens
        have c2 := lk.c2
        have c3 := lk.c3
        rw [ebv] at c2
        rw [egv] at c3
        have hrange : wr.rangeAt g ((k * 4) + ((j - k) * 4)) [.int .i64 ((l.base : Nat) : Int), .map (some (st j).m), .slice pb (rawOf l).bs.length cb, .slice pg (rawOf l).gs.length cg] := by
          have e4 : k * 4 + (j - k) * 4 = 4 * j := by omega
          rw [e4]
          intro x v hv
          match x, hv with
          | 0, hv => rw [← Option.some.inj hv]; exact c0
          | 1, hv => rw [← Option.some.inj hv]; exact c1
          | 2, hv => rw [← Option.some.inj hv]; exact c2
          | 3, hv => rw [← Option.some.inj hv]; exact c3
          | x + 4, hv => cases hv
        have HLK : Hid (∀ W' : World, W'.heap[(st j).m]? = wr.heap[(st j).m]? → (Instr.lookup 100 (.map (some (st j).m)) (.int .i64 ((q.act l.base : Nat) : Int)) true).run Try.prog W' = .ok (.tuple #[.agg (i8s ys), .bool t]) W') := fun W' hW' => by
          have h1 := (hmp.of_block hW').look_ok (t := 100) Try.underlying100 (Try.zero81 W') (a := ((q.act l.base : Nat) : Int)) (by omega) (by omega)
          have h2 : (rawOf l).f = tabF l.tab := rfl
          rw [h2, hyv, hyt] at h1
          exact h1
        clear hmp c0 c1 c2 c3 hCr lk hyv hyt hh
        generalize (st j).m = m at *
        clear ebv egv
        generalize (rawOf l).bs.length = nb at *
        generalize (rawOf l).gs.length = ng at *
        generalize hbb : q.act l.base = b at *
        generalize hba : l.base = base at *
        have HBB2 := hide hbb
        have HBA := hide hba
        clear hbb hba
        go_wp2_with (refine wpList_load_mid rfl 102 _ rfl g _ rfl _ _ hrange Try.underlying102 rfl Try.size102 ?_)
        have hSg : ∀ W' : World, (∀ x, x < wr.heap.size + 1 → W'.heap[x]? = (wr.alloc (.cells #[.int .i64 (base : Int), .map (some m), .slice pb nb cb, .slice pg ng cg] 102)).heap[x]?) →
            (W'.cell? ⟨wr.heap.size, 0, none⟩ = some (.int .i64 (base : Int)) ∧ W'.cell? ⟨wr.heap.size, 1, none⟩ = some (.map (some m)) ∧ W'.cell? ⟨w.heap.size, base, none⟩ = some (.int .i8 (b : Int)) ∧
              (Instr.lookup 100 (.map (some m)) (.int .i64 (b : Int)) true).run Try.prog W' = .ok (.tuple #[.agg (ys.map (Value.int .i8)).toArray, .bool t]) W') := by
          intro W' hW'
          have hn := heap_alloc_last wr (.cells #[.int .i64 (base : Int), .map (some m), .slice pb nb cb, .slice pg ng cg] 102)
          refine ⟨?_, ?_, ?_, HLK.out W' (by rw [hW' m (by omega)]; exact Below.heap_alloc wr _ m mlt)⟩
          · rw [cell_of_row W' wr.heap.size 0 _ _ _ ((hW' wr.heap.size (by omega)).trans hn)]; rfl
          · rw [cell_of_row W' wr.heap.size 1 _ _ _ ((hW' wr.heap.size (by omega)).trans hn)]; rfl
          · rw [World.cell?_of_block (w := wr) (a := ⟨w.heap.size, base, none⟩) ((hW' w.heap.size (by omega)).trans (Below.heap_alloc wr _ _ hS0))]; exact hcq
        have hA1 := hA.alloc (.cells #[.int .i64 (base : Int), .map (some m), .slice pb nb cb, .slice pg ng cg] 102)
        have hB1 := hbw.alloc hbw.size (.cells #[.int .i64 (base : Int), .map (some m), .slice pb nb cb, .slice pg ng cg] 102)
        have hsz : (wr.alloc (.cells #[.int .i64 (base : Int), .map (some m), .slice pb nb cb, .slice pg ng cg] 102)).heap.size = wr.heap.size + 1 := by simp
        generalize hW1 : wr.alloc (.cells #[.int .i64 (base : Int), .map (some m), .slice pb nb cb, .slice pg ng cg] 102) = W1 at *
        clear hrange hcq HLK mlt hW1
        have hz : Arr (W1.alloc (.cells #[.int .i8 0, .int .i8 0, .int .i8 0, .int .i8 0, .int .i8 0, .int .i8 0, .int .i8 0, .int .i8 0, .int .i8 0, .int .i8 0, .int .i8 0, .int .i8 0] 81)).drew (wr.heap.size + 1) zeros12 := by rw [← hsz]; exact zeros_new W1
        have hst := store_cells hz (ys := ys) hyl
        have hth : (W1.alloc (.cells #[.int .i8 0, .int .i8 0, .int .i8 0, .int .i8 0, .int .i8 0, .int .i8 0, .int .i8 0, .int .i8 0, .int .i8 0, .int .i8 0, .int .i8 0, .int .i8 0] 81)).drew.there (wr.heap.size + 1) 0 (ys.map (Value.int .i8)).length := by
          rw [List.length_map, hyl]; exact hz.there
        have ho1 : ∀ v ∈ ys.map (Value.int .i8), v.oneCell' = true := i8_one ys
        have hin : (Try.prog.info? 81).map (·.size) = some (ys.map (Value.int .i8)).length := by rw [List.length_map, hyl]; exact Try.size81
        have hwb : IntKind.i64.wrap (b : Int) = (b : Int) := by rw [IntKind.wrap_i64]; omega
        have hbz : (0 : Int) ≤ (base : Int) := by omega
        have hbt : (base : Int) < 12 := by omega
        have hA3 : Arr ((W1.alloc (.cells #[.int .i8 0, .int .i8 0, .int .i8 0, .int .i8 0, .int .i8 0, .int .i8 0, .int .i8 0, .int .i8 0, .int .i8 0, .int .i8 0, .int .i8 0, .int .i8 0] 81)).drew.setCells (wr.heap.size + 1) 0 (ys.map (Value.int .i8))) w.heap.size q.l := (Arr.drew (hA1.alloc _)).kept hst.2 (by intro e; have := Option.some.inj e; omega)
        have hB3 : Below w.heap.size w ((W1.alloc (.cells #[.int .i8 0, .int .i8 0, .int .i8 0, .int .i8 0, .int .i8 0, .int .i8 0, .int .i8 0, .int .i8 0, .int .i8 0, .int .i8 0, .int .i8 0, .int .i8 0] 81)).drew.setCells (wr.heap.size + 1) 0 (ys.map (Value.int .i8))) := (hB1.alloc hB1.size _).drew.grown hst.2 (by have := hB1.size; simp; omega) (fun k h => by have := Option.some.inj h; omega)
        have hy3 := hst.1
        have HA3 := hide hA3
        have HB3 := hide hB3
        have HY3 := hide hy3
        have HSG := hide hSg
        clear hst hz hSg hA3 hB3 hy3
        go_region_held3 (fun W' => W'.cell? ⟨wr.heap.size, 0, none⟩ = some (.int .i64 (base : Int)) ∧ W'.cell? ⟨wr.heap.size, 1, none⟩ = some (.map (some m)) ∧ W'.cell? ⟨w.heap.size, base, none⟩ = some (.int .i8 (b : Int)) ∧
              (Instr.lookup 100 (.map (some m)) (.int .i64 (b : Int)) true).run Try.prog W' = .ok (.tuple #[.agg (ys.map (Value.int .i8)).toArray, .bool t]) W')
          (first | exact HSG.out _ (fun _ _ => rfl) | exact HSG.out _ (fun x hx => Below.heap_alloc W1.drew _ x (by show x < W1.heap.size; omega)) | exact HSG.out _ (fun x hx => (heap_setCells_ne _ _ _ _ _ (by show x ≠ _; omega)).trans (Below.heap_alloc W1.drew _ x (by show x < W1.heap.size; omega))))
          (fail)
        all_goals
          clear hth ho1 hin HSG
          have hSD : w.heap.size ≠ wr.heap.size + 1 := by omega
          generalize (W1.alloc (.cells #[.int .i8 0, .int .i8 0, .int .i8 0, .int .i8 0, .int .i8 0, .int .i8 0, .int .i8 0, .int .i8 0, .int .i8 0, .int .i8 0, .int .i8 0, .int .i8 0] 81)).drew.setCells (wr.heap.size + 1) 0 (ys.map (Value.int .i8)) = W3 at *
          have hA3 := HA3.out
          have hB3 := HB3.out
          have hY3 := HY3.out
          clear HA3 HB3 HY3 hA1 hB1 hsz hA hbw
          generalize wr.heap.size + 1 = D at *
          cases t with
          | false =>
            have hno := hyh.out.2 rfl
            have HE : Hid (hasC (C.drop k) p = false) := by show _ = _; have := HSt.out; rw [hno] at this; exact this
            go_wp2
            go_ret
            exact ⟨by rw [HE.out]; rfl, hB3⟩
          | true =>
            obtain ⟨u, hu, rfl⟩ := hyh.out.1 rfl
            have HE : Hid (hasC (C.drop (j + 1)) (u⁻¹ * q) = hasC (C.drop k) p) := by show _ = _; have := HSt.out; rw [hu] at this; exact this.symm
            have hDlt := hY3.lt
            have hlS := hA3.lt
            have hin1 : (Try.prog.info? 81).map (·.size) = some (u.l.map (Value.int .i8)).length := by rw [List.length_map, u.len]; exact Try.size81
            clear hyh hyl HSt hu
            go_wp2
            refine wp_region_held_drew (S := fun W' => Arr W' D u.l) (by kernel_rfl) hY3 (fun hS => ?_)
            refine wpAnyH_take (i := 0) rfl (by kernel_rfl) (by kernel_rfl) (by kernel_rfl) (fun _ _ _ h => h) (yieldsIf_load_mid (by rfl) _ _ rfl D 0 rfl (u.l.map (Value.int .i8)) _ (fun w' h => Arr.range h) Try.underlying81 rfl hin1) hS ?_
            refine wpAnyH_ready (rs := [1, 2]) (by kernel_rfl) (by simp) ?_
            refine AllReadyH.cons rfl (fun K hK => ?_) (AllReadyH.cons rfl (fun K hK => ?_) AllReadyH.nil)
            · go_simp
              refine (pback_raw u _).mono ?_
              rintro e w4 ⟨rfl, hb4⟩
              replace hb4 := undrew hb4
              have hY4 : Arr w4 D u.l := hY3.below hb4 hDlt
              have hA4 : Arr w4 w.heap.size q.l := hA3.below hb4 hlS
              have hB4 : Below w.heap.size w w4 := hB3.trans (hb4.mono hB3.size)
              refine hK.out _ _ hY4 (fun _ => ?_)
              clear hK hb4
              refine wpAnyH_ready (rs := [2]) (by kernel_rfl) (by simp) ?_
              refine AllReadyH.cons rfl (fun K hK => ?_) AllReadyH.nil
              refine step_load_arr rfl _ rfl _ _ hA4 rfl ?_
              refine hK.out _ _ hY4 (fun _ => ?_)
              clear hK
              refine wpAnyH_ready (rs := [3]) (by kernel_rfl) (by simp) ?_
              refine AllReadyH.cons rfl (fun K hK => ?_) AllReadyH.nil
              go_simp
              refine (ptimes_raw u⁻¹ q _).mono ?_
              rintro e w5 ⟨rfl, hb5⟩
              have hY5 : Arr w5 D u.l := hY4.below hb5 hY4.lt
              have hA5 : Arr w5 w.heap.size q.l := hA4.below hb5 hA4.lt
              have hB5 : Below w.heap.size w w5 := hB4.trans (hb5.mono hB4.size)
              refine hK.out _ _ hY5 (fun _ => ?_)
              clear hK hb5
              refine wpAnyH_ready (rs := [4]) (by kernel_rfl) (by simp) ?_
              refine AllReadyH.cons rfl (fun K hK => ?_) AllReadyH.nil
              refine step_store_arr rfl _ _ rfl w.heap.size q.l (u⁻¹ * q).l hA5 rfl rfl (u⁻¹ * q).len ?_
              intro w6 hA6 hg6
              refine hK.out _ _ (hY5.kept hg6 (fun e => hSD (Option.some.inj e))) (fun _ => ?_)
              clear hK
              have hB6 := hB5.grown hg6 hB5.size (fun k h => by have := Option.some.inj h; omega)
              refine wpAnyH_done (by kernel_rfl) ?_ _
              go_wp2
              go_roundw
              case rel =>
                have hfin : ∃ (j' : Nat) (q' : Pm), k ≤ j' ∧ j' ≤ C.length ∧ Value.int .i64 (((j - k : Nat) : Int) + 1) = .int .i64 ((j' - k : Nat) : Int) ∧ Arr w6 w.heap.size q'.l ∧ Hid (hasC (C.drop j') q' = hasC (C.drop k) p) ∧ Below w.heap.size w w6 :=
                  ⟨j + 1, u⁻¹ * q, by omega, by omega, by congr 1; omega, hA6, HE, hB6⟩
                first
                  | exact hfin
                  | ((repeat apply Exists.intro); exact ⟨hfin, rfl⟩)
              case measure => simp [intOf]; omega
            · refine step_load_arr rfl _ rfl _ _ hA3 rfl ?_
              refine hK.out _ _ hS (fun _ => ?_)
              clear hK
              refine wpAnyH_ready (rs := [1]) (by kernel_rfl) (by simp) ?_
              refine AllReadyH.cons rfl (fun K hK => ?_) AllReadyH.nil
              go_simp
              refine (pback_raw u _).mono ?_
              rintro e w4 ⟨rfl, hb4⟩
              replace hb4 := undrew hb4
              have hY4 : Arr w4 D u.l := hY3.below hb4 hDlt
              have hA4 : Arr w4 w.heap.size q.l := hA3.below hb4 hlS
              have hB4 : Below w.heap.size w w4 := hB3.trans (hb4.mono hB3.size)
              refine hK.out _ _ hY4 (fun _ => ?_)
              clear hK hb4
              refine wpAnyH_ready (rs := [3]) (by kernel_rfl) (by simp) ?_
              refine AllReadyH.cons rfl (fun K hK => ?_) AllReadyH.nil
              go_simp
              refine (ptimes_raw u⁻¹ q _).mono ?_
              rintro e w5 ⟨rfl, hb5⟩
              have hY5 : Arr w5 D u.l := hY4.below hb5 hY4.lt
              have hA5 : Arr w5 w.heap.size q.l := hA4.below hb5 hA4.lt
              have hB5 : Below w.heap.size w w5 := hB4.trans (hb5.mono hB4.size)
              refine hK.out _ _ hY5 (fun _ => ?_)
              clear hK hb5
              refine wpAnyH_ready (rs := [4]) (by kernel_rfl) (by simp) ?_
              refine AllReadyH.cons rfl (fun K hK => ?_) AllReadyH.nil
              refine step_store_arr rfl _ _ rfl w.heap.size q.l (u⁻¹ * q).l hA5 rfl rfl (u⁻¹ * q).len ?_
              intro w6 hA6 hg6
              refine hK.out _ _ (hY5.kept hg6 (fun e => hSD (Option.some.inj e))) (fun _ => ?_)
              clear hK
              have hB6 := hB5.grown hg6 hB5.size (fun k h => by have := Option.some.inj h; omega)
              refine wpAnyH_done (by kernel_rfl) ?_ _
              go_wp2
              go_roundw
              case rel =>
                have hfin : ∃ (j' : Nat) (q' : Pm), k ≤ j' ∧ j' ≤ C.length ∧ Value.int .i64 (((j - k : Nat) : Int) + 1) = .int .i64 ((j' - k : Nat) : Int) ∧ Arr w6 w.heap.size q'.l ∧ Hid (hasC (C.drop j') q' = hasC (C.drop k) p) ∧ Below w.heap.size w w6 :=
                  ⟨j + 1, u⁻¹ * q, by omega, by omega, by congr 1; omega, hA6, HE, hB6⟩
                first
                  | exact hfin
                  | ((repeat apply Exists.intro); exact ⟨hfin, rfl⟩)
              case measure => simp [intOf]; omega
      · obtain rfl : j = C.length := by omega
        have HE : Hid (hasC (C.drop k) p = true) := by show _ = _; rw [← hh.out, List.drop_length]; rfl
        go_wp2
        go_ret
        exact ⟨by rw [HE.out]; rfl, hbw⟩
end Go.Proofs.Ytahffpgadoiijaa

/- Ahead of take and bring: bounds, tables with one more entry, what one says of the other. -/
namespace Go.Proofs.Ytahffpgadoiijaa
open Go.RowKit

/-! how many different rows there may be -/

def enc : List Int → Nat
  | [] => 0
  | x :: t => x.toNat + 12 * enc t

theorem enc_lt : ∀ (l : List Int), (∀ x ∈ l, 0 ≤ x ∧ x < 12) → enc l < 12 ^ l.length
  | [], _ => by simp [enc]
  | x :: t, h => by
    have h1 := h x (by simp)
    have h2 := enc_lt t (fun y hy => h y (by simp [hy]))
    rw [List.length_cons, Nat.pow_succ]
    unfold enc
    omega

theorem enc_inj : ∀ (l m : List Int), l.length = m.length → (∀ x ∈ l, 0 ≤ x ∧ x < 12) → (∀ x ∈ m, 0 ≤ x ∧ x < 12) → enc l = enc m → l = m
  | [], [], _, _, _, _ => rfl
  | [], _ :: _, h, _, _, _ => by simp at h
  | _ :: _, [], h, _, _, _ => by simp at h
  | x :: t, y :: s, h, hl, hm, e => by
    have h1 := hl x (by simp)
    have h2 := hm y (by simp)
    unfold enc at e
    have e1 : x = y := by omega
    have e2 : enc t = enc s := by omega
    rw [e1, enc_inj t s (by simpa using h) (fun z hz => hl z (by simp [hz])) (fun z hz => hm z (by simp [hz])) e2]

theorem Pm.dig (x : Pm) : ∀ y ∈ x.l, 0 ≤ y ∧ y < 12 := fun y hy => by have := x.row.1 y hy; rw [x.len] at this; exact this

theorem gens_bound {gs : List Pm} (h : gs.Nodup) : gs.length ≤ 12 ^ 12 := by
  have h1 : (gs.map (fun x => enc x.l)).Nodup := by
    rw [List.nodup_iff_pairwise_ne, List.pairwise_map]
    rw [List.nodup_iff_pairwise_ne] at h
    refine h.imp (fun {a b} hne e => hne ?_)
    exact Pm.eq_of_l (enc_inj a.l b.l (by rw [a.len, b.len]) a.dig b.dig e)
  have h2 := nodup_len (gs.map (fun x => enc x.l)) (List.range (12 ^ 12)) h1 (fun y hy => by
    obtain ⟨x, _, rfl⟩ := List.mem_map.1 hy
    have := enc_lt x.l x.dig
    rw [x.len] at this
    exact List.mem_range.2 this)
  rw [List.length_map, List.length_range] at h2
  exact h2

theorem tab_len {F : Nat → Prop} {l : Lk} (h : LkOk F l) (hb : l.base < 12) : l.tab.length ≤ 12 := by
  have h2 := nodup_len (l.tab.map (·.1)) (List.range 12) h.nodup (fun y hy => by
    obtain ⟨e, he, rfl⟩ := List.mem_map.1 hy
    rw [← h.brings e he]
    exact List.mem_range.2 (e.2.act_lt hb))
  rw [List.length_map, List.length_range] at h2
  exact h2

theorem key_lt {F : Nat → Prop} {l : Lk} (h : LkOk F l) (hb : l.base < 12) {e : Nat × Pm} (he : e ∈ l.tab) : e.1 < 12 := by
  rw [← h.brings e he]; exact e.2.act_lt hb

/-! a table with one more entry -/

theorem lookup_snoc (tab : List (Nat × Pm)) (b : Nat) (p : Pm) (x : Nat) : (tab ++ [(b, p)]).lookup x = (tab.lookup x).or (if x = b then some p else none) := by
  induction tab with
  | nil =>
    show ([(b, p)] : List (Nat × Pm)).lookup x = _
    rw [List.lookup_cons]
    by_cases e : x = b
    · subst e; simp
    · simp [e, beq_eq_false_iff_ne.2 e]
  | cons e t ih =>
    rw [List.cons_append, List.lookup_cons, List.lookup_cons]
    cases h : x == e.1 with
    | true => simp
    | false => simpa using ih

theorem tabF_snoc {tab : List (Nat × Pm)} {b : Nat} (p : Pm) (h : tab.lookup b = none) : upd (tabF tab) (b : Int) (pv p) = tabF (tab ++ [(b, p)]) := by
  funext x
  unfold upd tabF
  by_cases hx : 0 ≤ x
  · obtain ⟨m, rfl⟩ := Int.eq_ofNat_of_zero_le hx
    rw [if_pos hx, if_pos hx, Int.toNat_natCast, lookup_snoc]
    by_cases e : m = b
    · subst e; rw [if_pos rfl, h, if_pos rfl]; rfl
    · rw [if_neg (by omega), if_neg e]; cases tab.lookup m <;> rfl
  · rw [if_neg (by omega), if_neg hx, if_neg hx]

theorem raw_add {l : Lk} {b : Nat} {p : Pm} (h : l.tab.lookup b = none) : ({ rawOf l with f := upd (rawOf l).f (b : Int) (pv p), n := (rawOf l).n + 1, bs := (rawOf l).bs ++ [.int .i64 (b : Int)] } : Raw) = rawOf (l.add b p) := by
  have e := tabF_snoc p h
  show (⟨l.base, l.tab.length + 1, upd (tabF l.tab) (b : Int) (pv p), l.tab.map (fun e => Value.int .i64 ((e.1 : Nat) : Int)) ++ [.int .i64 (b : Int)], l.gens⟩ : Raw) = ⟨l.base, (l.tab ++ [(b, p)]).length, tabF (l.tab ++ [(b, p)]), (l.tab ++ [(b, p)]).map (fun e => Value.int .i64 ((e.1 : Nat) : Int)), l.gens⟩
  rw [e]
  simp

theorem raw_gen (l : Lk) (p : Pm) : ({ rawOf l with gs := (rawOf l).gs ++ [p] } : Raw) = rawOf (l.gen p) := rfl

theorem map_mid (pre : List Lk) (l : Lk) (c : List Lk) : ((pre ++ l :: c).map rawOf)[pre.length]? = some (rawOf l) := by simp

theorem set_mid (pre : List Lk) (l l' : Lk) (c : List Lk) : ((pre ++ l :: c).map rawOf).set pre.length (rawOf l') = (pre ++ l' :: c).map rawOf := by
  simp

theorem set_mid2 (pre : List Lk) (l : Lk) (c : List Lk) (r r' : Raw) : (((pre ++ l :: c).map rawOf).set pre.length r).set pre.length r' = ((pre ++ l :: c).map rawOf).set pre.length r' := by
  rw [List.set_set]

theorem foot_succ {g k : Nat} {R : List Raw} {st : Nat → St} {b x : Nat} (h : Foot g (k + 1) R st b x) : Foot g k R st b x := by
  rcases h with ⟨h1, h2⟩ | ⟨j, r, hj, hr, h1⟩
  · exact Or.inl ⟨h1, by omega⟩
  · exact Or.inr ⟨j, r, by omega, hr, h1⟩

theorem foot_lt {w : World} {B g k : Nat} {R : List Raw} {st : Nat → St} (h : ChainAt w B g R st) {b x : Nat} (hf : Foot g k R st b x) : b < w.heap.size ∧ B ≤ b := by
  rcases hf with ⟨rfl, _⟩ | ⟨j, r, _, hr, h1⟩
  · exact ⟨h.lt_g, h.gB⟩
  · have l := h.link j r hr
    rcases h1 with rfl | ⟨h1, _⟩ | ⟨h1, _⟩
    · exact ⟨l.mp.lt, l.mB⟩
    · exact ⟨(l.bells.lt b h1).2, (l.bells.lt b h1).1⟩
    · exact ⟨(l.gens.lt b h1).2, (l.gens.lt b h1).1⟩

/-- What is no part of the chain is kept. -/
theorem keep_arr {w w' : World} {g k D : Nat} {R : List Raw} {st : Nat → St} {zs : List Int} (hK : Keep (Foot g k R st) w w') (hA : Arr w D zs) (hn : ∀ x, ¬ Foot g k R st D x) : Arr w' D zs :=
  ⟨by rw [hK.block D hA.lt hn]; exact hA.1, hA.2⟩

/-- Bells that a header had are there. -/
theorem keep_ints {w w' : World} {S : Nat → Nat → Prop} {B e : Nat} {v : Value} {xs : List Value} (hK : Keep S w w') (h : w.ownsRow B e 1 v xs.length xs) {b : Nat} (hb : v.ownBlock = some b) (hn : ∀ x, x < xs.length → ¬ S b x) {j : Nat} (hj : j < xs.length) :
    w'.cell? ⟨b, j, none⟩ = some (xs.getD j undef) := by
  rw [hK.cell b j (h.lt b hb).2 (hn j hj)]
  have := h.cells hb j (xs.getD j undef) (by simp [List.getD, List.getElem?_eq_getElem hj])
  rw [Addr.add_lit, Nat.zero_add] at this
  exact this

/-- Rows of generators that a header had are there. -/
theorem gcells_at : ∀ (gs : List Pm) (i : Nat) (p : Pm), gs[i]? = some p → ∀ j, j < 12 → (gcells gs)[i * 12 + j]? = some (.int .i8 (p.l.getD j 0))
  | [], _, _, h, _, _ => by simp at h
  | x :: t, 0, p, h, j, hj => by
    have : x = p := by simpa using h
    subst this
    show (x.l.map (Value.int .i8) ++ gcells t)[0 * 12 + j]? = _
    rw [List.getElem?_append_left (by rw [List.length_map, x.len]; omega)]
    simp [List.getD, x.len, hj]
  | x :: t, i + 1, p, h, j, hj => by
    show (x.l.map (Value.int .i8) ++ gcells t)[(i + 1) * 12 + j]? = _
    rw [List.getElem?_append_right (by rw [List.length_map, x.len]; omega), List.length_map, x.len, show (i + 1) * 12 + j - 12 = i * 12 + j from by omega]
    exact gcells_at t i p (by simpa using h) j hj

theorem keep_gens {w w' : World} {S : Nat → Nat → Prop} {B : Nat} {v : Value} {gs : List Pm} (hK : Keep S w w') (h : w.ownsRow B 81 12 v gs.length (gcells gs)) {b : Nat} (hb : v.ownBlock = some b) (hn : ∀ x, x < 12 * gs.length → ¬ S b x) {i : Nat} {p : Pm} (hi : gs[i]? = some p) :
    w'.rangeAt b (i * 12) (p.l.map (Value.int .i8)) := by
  intro j v hv
  have hil := (List.getElem?_eq_some_iff.1 hi).1
  have hj : j < 12 := by have := (List.getElem?_eq_some_iff.1 hv).1; rw [List.length_map, p.len] at this; exact this
  rw [hK.cell b _ (h.lt b hb).2 (hn _ (by omega))]
  have := h.cells hb (i * 12 + j) _ (gcells_at gs i p hi j hj)
  rw [Addr.add_lit, Nat.zero_add] at this
  rw [this, ← hv]
  simp [List.getD, p.len, hj]

/-- What take leaves. -/
def TakePost (B g : Nat) (pre cs : List Lk) (st : Nat → St) (p : Pm) (F : Nat → Prop) (w : World) (e : Ending) (w' : World) : Prop := ∃ v, e = .returned v ∧ ∃ cs' st', Whole F cs' ∧ Took cs cs' p ∧ ChainAt w' B g ((pre ++ cs').map rawOf) st' ∧
  Keep (Foot g pre.length ((pre ++ cs).map rawOf) st) w w' ∧ (∀ b x, b < w.heap.size → Foot g pre.length ((pre ++ cs').map rawOf) st' b x → Foot g pre.length ((pre ++ cs).map rawOf) st b x) ∧ (∀ l, l ∈ cs' → l.gens.Nodup) ∧ (∀ j, j < pre.length → st' j = st j)

/-- What take says at a level. -/
def TakeSays (n k : Nat) : Prop := ∀ (B g : Nat) (pre cs : List Lk) (st : Nat → St) (p : Pm) (F : Nat → Prop) (w : World), pre.length = k → k + cs.length = n → n ≤ 12 → (∀ l, l ∈ pre ++ cs → l.base < 12) → (∀ l, l ∈ cs → l.gens.Nodup) →
    ChainAt w B g ((pre ++ cs).map rawOf) st → Whole F cs → Fixes F p →
    Calls Try.prog 82 #[.slice (some ⟨g, 0, none⟩) n n, .int .i64 k, pv p] w fun e w' => TakePost B g pre cs st p F w e w'

/-- What bring leaves. -/
def BringPost (B g : Nat) (pre : List Lk) (l : Lk) (c : List Lk) (st : Nat → St) (p : Pm) (F : Nat → Prop) (w : World) (e : Ending) (w' : World) : Prop := ∃ v, e = .returned v ∧ ∃ l' c' st', Part F l' c' ∧ Brought l c l' c' p ∧ ChainAt w' B g ((pre ++ l' :: c').map rawOf) st' ∧
  Keep (Foot g pre.length ((pre ++ l :: c).map rawOf) st) w w' ∧ (∀ b x, b < w.heap.size → Foot g pre.length ((pre ++ l' :: c').map rawOf) st' b x → Foot g pre.length ((pre ++ l :: c).map rawOf) st b x) ∧ (∀ x, x ∈ l' :: c' → x.gens.Nodup) ∧ (∀ j, j < pre.length → st' j = st j)

/-- What bring says at a level, where at most m bells are still to come. -/
def BringFor (n k m B g : Nat) (pre : List Lk) (l : Lk) (c : List Lk) (st : Nat → St) (p : Pm) (F : Nat → Prop) (w : World) : Prop := pre.length = k → k + 1 + c.length = n → n ≤ 12 → 12 - l.tab.length ≤ m → (∀ x, x ∈ pre ++ l :: c → x.base < 12) → (∀ x, x ∈ l :: c → x.gens.Nodup) →
    ChainAt w B g ((pre ++ l :: c).map rawOf) st → Part F l c → Fixes F p → Gen (fun x => x ∈ l.gens) p →
    Calls Try.prog 98 #[.slice (some ⟨g, 0, none⟩) n n, .int .i64 k, pv p] w fun e w' => BringPost B g pre l c st p F w e w'

def BringSays (n k m : Nat) : Prop := ∀ (B g : Nat) (pre : List Lk) (l : Lk) (c : List Lk) (st : Nat → St) (p : Pm) (F : Nat → Prop) (w : World), BringFor n k m B g pre l c st p F w

theorem BringPost.mk {B g : Nat} {pre : List Lk} {l : Lk} {c : List Lk} {st : Nat → St} {p : Pm} {F : Nat → Prop} {w w' : World} {v : Value} {l' : Lk} {c' : List Lk} {st' : Nat → St} (h1 : Part F l' c') (h2 : Brought l c l' c' p) (h3 : ChainAt w' B g ((pre ++ l' :: c').map rawOf) st')
    (h4 : Keep (Foot g pre.length ((pre ++ l :: c).map rawOf) st) w w') (h5 : ∀ b x, b < w.heap.size → Foot g pre.length ((pre ++ l' :: c').map rawOf) st' b x → Foot g pre.length ((pre ++ l :: c).map rawOf) st b x) (h6 : ∀ x, x ∈ l' :: c' → x.gens.Nodup) (h7 : ∀ j, j < pre.length → st' j = st j) :
    BringPost B g pre l c st p F w (.returned v) w' := ⟨v, rfl, l', c', st', h1, h2, h3, h4, h5, h6, h7⟩

theorem TakePost.mk {B g : Nat} {pre cs : List Lk} {st : Nat → St} {p : Pm} {F : Nat → Prop} {w w' : World} {v : Value} {cs' : List Lk} {st' : Nat → St} (h1 : Whole F cs') (h2 : Took cs cs' p) (h3 : ChainAt w' B g ((pre ++ cs').map rawOf) st')
    (h4 : Keep (Foot g pre.length ((pre ++ cs).map rawOf) st) w w') (h5 : ∀ b x, b < w.heap.size → Foot g pre.length ((pre ++ cs').map rawOf) st' b x → Foot g pre.length ((pre ++ cs).map rawOf) st b x) (h6 : ∀ x, x ∈ cs' → x.gens.Nodup) (h7 : ∀ j, j < pre.length → st' j = st j) :
    TakePost B g pre cs st p F w (.returned v) w' := ⟨v, rfl, cs', st', h1, h2, h3, h4, h5, h6, h7⟩

/-- The links ahead, as they were: what the next level leaves, this one does. -/
theorem foot_up {g : Nat} {pre : List Lk} {l : Lk} {c c' : List Lk} {st st' : Nat → St} {b x : Nat} (hf : Foot g (pre.length + 1) ((pre ++ l :: c').map rawOf) st' b x → Foot g (pre.length + 1) ((pre ++ l :: c).map rawOf) st b x) (hs : st' pre.length = st pre.length)
    (h : Foot g pre.length ((pre ++ l :: c').map rawOf) st' b x) : Foot g pre.length ((pre ++ l :: c).map rawOf) st b x := by
  rcases h with h | ⟨j, r, hj, hr, h1⟩
  · exact Or.inl h
  · rcases Nat.lt_or_ge pre.length j with hlt | hge
    · exact foot_succ (hf (Or.inr ⟨j, r, hlt, hr, h1⟩))
    · have e : j = pre.length := by omega
      subst e
      rw [map_mid] at hr
      rw [hs] at h1
      exact Or.inr ⟨pre.length, r, Nat.le_refl _, by rw [map_mid]; exact hr, h1⟩

/-- What a run of steps has left of a chain. -/
structure Mid (w wr : World) (B g k : Nat) (R : List Raw) (st : Nat → St) (R' : List Raw) (st' : Nat → St) : Prop where
  chain : ChainAt wr B g R' st'
  keep : Keep (Foot g k R st) w wr
  foot : ∀ b x, b < w.heap.size → Foot g k R' st' b x → Foot g k R st b x
  low : ∀ j, j < k → st' j = st j

theorem Mid.start {w wr : World} {B g k : Nat} {R : List Raw} {st : Nat → St} (h : ChainAt w B g R st) (hb : Below w.heap.size w wr) : Mid w wr B g k R st R st :=
  ⟨h.below hb (Nat.le_refl _), Keep.of_below hb (Nat.le_refl _), fun _ _ _ h => h, fun _ _ => rfl⟩

theorem Mid.step {w w1 w2 : World} {B g k : Nat} {R R1 R2 : List Raw} {st st1 st2 : Nat → St} (h : Mid w w1 B g k R st R1 st1) (hc : ChainAt w2 B g R2 st2) (hk : Keep (Foot g k R1 st1) w1 w2) (hf : ∀ b x, b < w1.heap.size → Foot g k R2 st2 b x → Foot g k R1 st1 b x) (hl : ∀ j, j < k → st2 j = st1 j) : Mid w w2 B g k R st R2 st2 :=
  ⟨hc, h.keep.trans hk h.foot, fun b x hb hx => h.foot b x hb (hf b x (Nat.lt_of_lt_of_le hb h.keep.size) hx), fun j hj => (hl j hj).trans (h.low j hj)⟩

/-- The chain's cells that may change were there at the beginning, or are new. -/
theorem Mid.foot' {w wr : World} {B g k : Nat} {R R' : List Raw} {st st' : Nat → St} (h : Mid w wr B g k R st R' st') {b x : Nat} (hf : Foot g k R' st' b x) (hb : b < w.heap.size) : Foot g k R st b x := h.foot b x hb hf

theorem Mid.quiet {w w1 w2 : World} {B g k : Nat} {R R1 : List Raw} {st st1 : Nat → St} (h : Mid w w1 B g k R st R1 st1) (hb : Below w1.heap.size w1 w2) : Mid w w2 B g k R st R1 st1 :=
  h.step (h.chain.below hb (Nat.le_refl _)) (Keep.of_below hb (Nat.le_refl _)) (fun _ _ _ h => h) (fun _ _ => rfl)

/-- The cells of the generators that are there are kept. -/
theorem foot_gens {w : World} {B g k : Nat} {R : List Raw} {st : Nat → St} (h : ChainAt w B g R st) {r : Raw} (hk : R[k]? = some r) {b x : Nat} (hb : (st k).vg.ownBlock = some b) (hx : x < 12 * r.gs.length) : ¬ Foot g k R st b x := by
  have kd := h.kinds hk hk
  rintro (⟨rfl, _⟩ | ⟨j, q, hj, hq, h1⟩)
  · exact kd.2.2.1 hb
  · have kj := h.kinds hk hq
    have jk := h.kinds hq hk
    rcases h1 with rfl | ⟨h1, _⟩ | ⟨h1, h2⟩
    · exact kj.2.2.2.2.1 hb
    · exact jk.2.2.2.2.2 b h1 hb
    · by_cases e : j = k
      · subst e
        rw [hk] at hq
        injection hq with hq; subst hq
        omega
      · exact h.gdis j k (get_lt hq) (get_lt hk) e b h1 hb

/-- .. and of the bells. -/
theorem foot_bells {w : World} {B g k : Nat} {R : List Raw} {st : Nat → St} (h : ChainAt w B g R st) {r : Raw} (hk : R[k]? = some r) {b x : Nat} (hb : (st k).vb.ownBlock = some b) (hx : x < r.bs.length) : ¬ Foot g k R st b x := by
  have kd := h.kinds hk hk
  rintro (⟨rfl, _⟩ | ⟨j, q, hj, hq, h1⟩)
  · exact kd.2.1 hb
  · have kj := h.kinds hk hq
    rcases h1 with rfl | ⟨h1, h2⟩ | ⟨h1, _⟩
    · exact kj.2.2.2.1 hb
    · by_cases e : j = k
      · subst e
        rw [hk] at hq
        injection hq with hq; subst hq
        omega
      · exact h.bdis j k (get_lt hq) (get_lt hk) e b h1 hb
    · exact kj.2.2.2.2.2 b hb h1

theorem owns_some {w : World} {base e size n : Nat} {p : Option Addr} {m cap : Nat} {xs : List Value} (h : w.ownsRow base e size (.slice p m cap) n xs) (hn : 1 ≤ n) : ∃ b, p = some ⟨b, 0, none⟩ ∧ m = n ∧ n ≤ cap ∧ cap ≤ 9223372036854775807 := by
  rcases h.2 with ⟨_, h0⟩ | ⟨g, c, cur, e, _, _, hc, hm, _⟩
  · omega
  · injection e with e1 e2 e3
    exact ⟨g, e1, e2, by omega, by unfold maxLen at hm; omega⟩

theorem bases_of {pre cs cs' : List Lk} (h : cs'.map (·.base) = cs.map (·.base)) (hb : ∀ l, l ∈ pre ++ cs → l.base < 12) : ∀ l, l ∈ pre ++ cs' → l.base < 12 := by
  intro l hl
  rcases List.mem_append.1 hl with hl | hl
  · exact hb l (List.mem_append_left _ hl)
  · have : l.base ∈ cs.map (·.base) := by rw [← h]; exact List.mem_map.2 ⟨l, hl, rfl⟩
    obtain ⟨l0, hl0, e⟩ := List.mem_map.1 this
    rw [← e]; exact hb l0 (List.mem_append_right _ hl0)

end Go.Proofs.Ytahffpgadoiijaa

/- Contract: bring, where the bell is an old one. -/
namespace Go.Proofs.Ytahffpgadoiijaa
open Go.RowKit

theorem wpList_look_ok' {ops : Array Oper} {rest : List Oper} {o : Oper} {a : Act} {w : World} {Q : Exit → Act → World → Prop} (hg : o.guard = none) (m x : Operand) (t : TypeId) (hop : o.op = Op.lookup t m x true) (e : TypeId) (ht : Try.prog.underlying t = some (.map 3 e)) {z : Value} (hz : (zeroValue e).run Try.prog w = .ok z w)
    {b n : Nat} {f : Int → Option Value} (h : IMap w b n f) (k : Int) (hm : a.eval m = .map (some b)) (hx : a.eval x = .int .i64 k) (h1 : -9223372036854775808 ≤ k) (h2 : k ≤ 9223372036854775807) {v : Value} {s : Bool} (hv : (f k).getD z = v) (hs : (f k).isSome = s)
    (hK : wpList Try.prog ops Q rest (a.put o.dst (.tuple #[v, .bool s])) w) : wpList Try.prog ops Q (o :: rest) a w := by
  subst hv; subst hs
  exact wpList_look_ok hg m x t hop e ht hz h k hm hx h1 h2 hK

theorem Foot.not_new {w : World} {B g k : Nat} {R : List Raw} {st : Nat → St} (h : ChainAt w B g R st) {D : Nat} (hD : w.heap.size ≤ D) (x : Nat) : ¬ Foot g k R st D x := fun hf => by have := (foot_lt h hf).1; omega

set_option maxRecDepth 20000 in
set_option maxHeartbeats 4000000 in
theorem bring_old {n k m B g : Nat} {pre : List Lk} {l : Lk} {c : List Lk} {st : Nat → St} {p : Pm} {F : Nat → Prop} {w : World} (hT : TakeSays n (k + 1)) {u : Pm} (hu : l.tab.lookup (p.act l.base) = some u) : BringFor n k m B g pre l c st p F w := by
  intro hpre hn h12 hm hbs hnd hC hP hF hG
  subst hpre
  have lk := hC.link pre.length (rawOf l) (map_mid pre l c)
  have hbase : l.base < 12 := hbs l (by simp)
  have hglt := hC.lt_g
  have hb12 := p.act_lt hbase
  have HU := hide hu
  have hyl := u.len
  have hyv : (tabF l.tab ((p.act l.base : Nat) : Int)).getD (.agg (i8s zeros12)) = .agg (i8s u.l) := by rw [tabF_nat, hu]; rfl
  have hyt : (tabF l.tab ((p.act l.base : Nat) : Int)).isSome = true := by rw [tabF_nat, hu]; rfl
  clear hu
  have HCH := hide hC
  have HP := hide hP
  have HF := hide hF
  have HG := hide hG
  have HBS := hide hbs
  have HND := hide hnd
  have HT := hide hT
  have hmlt := lk.mp.lt
  obtain ⟨pb, cb, ebv⟩ := owns_slice12 lk.bells
  obtain ⟨pg, cg, egv⟩ := owns_slice12 lk.gens
  have c0 : ∀ o : Obj, (w.alloc o).cell? ⟨g, pre.length * 4, none⟩ = some (.int .i64 ((l.base : Nat) : Int)) := fun o => by rw [World.cell?_of_block (w := w) (a := ⟨g, pre.length * 4, none⟩) (Below.heap_alloc w o g hglt), Nat.mul_comm]; exact lk.c0
  have c1 : ∀ o : Obj, (w.alloc o).cell? ⟨g, pre.length * 4 + 1, none⟩ = some (.map (some (st pre.length).m)) := fun o => by rw [World.cell?_of_block (w := w) (a := ⟨g, pre.length * 4 + 1, none⟩) (Below.heap_alloc w o g hglt), Nat.mul_comm]; exact lk.c1
  have hmp0 := lk.mp.alloc (.cells (i8s p.l) 81)
  have hfe : (rawOf l).f = tabF l.tab := rfl
  rw [hfe] at hmp0
  have hA0 := Arr.new w p.l p.len
  have hcq := (hA0.cell hbase).1
  rw [p.getD_act hbase] at hcq
  generalize hbb : p.act l.base = b at *
  have HBB := hide hbb
  have hwb : IntKind.i64.wrap (b : Int) = (b : Int) := by rw [IntKind.wrap_i64]; omega
  have hbz : (0 : Int) ≤ (l.base : Int) := by omega
  have hbt : ((l.base : Nat) : Int) < 12 := by omega
  have hkn : (pre.length : Int) < (n : Int) := by omega
  have hB2' : ∀ o1 o2 : Obj, Below w.heap.size w ((w.alloc o1).alloc o2) := fun o1 o2 => ((Below.refl _ _).alloc (Nat.le_refl _) o1).alloc (by simp) o2
  unfold pv
  clear hC hP hF hG hbs hnd hT lk hbb
  go_enter Try.func98, Try.ntmps98
  go_wp2_with (first
    | refine wpList_look_ok' rfl _ _ 100 rfl 81 Try.underlying100 (Try.zero81 _) hmp0 (b : Int) rfl rfl (by omega) (by omega) hyv hyt ?_
    | (refine wpList_store_arr rfl _ _ rfl (w.heap.size + 1) zeros12 u.l (Arr.new1 w _ (zs := zeros12) rfl) rfl rfl hyl ?_; intro w2 hY2 hg2))
  have hA2 : Arr w2 w.heap.size p.l := (hA0.alloc _).kept hg2 (by intro e; have := Option.some.inj e; omega)
  have hB2 : Below w.heap.size w w2 := (hB2' _ _).grown hg2 (by simp; omega) (fun k h => by have := Option.some.inj h; omega)
  have hC2 := HCH.out.below hB2 (Nat.le_refl _)
  clear hg2 hA0 hcq c0 c1 hmp0 hB2'
  have hin1 : (Try.prog.info? 81).map (·.size) = some (u.l.map (Value.int .i8)).length := by rw [List.length_map, u.len]; exact Try.size81
  have hin2 : (Try.prog.info? 81).map (·.size) = some (p.l.map (Value.int .i8)).length := by rw [List.length_map, p.len]; exact Try.size81
  have hum : (p.act l.base, u) ∈ l.tab := by rw [HBB.out]; exact lookup_mem HU.out
  have hk1 : (pre.length : Int) + 1 = ((pre.length + 1 : Nat) : Int) := by omega
  have HK1 := hide hk1
  have hwk : IntKind.i64.wrap ((pre.length : Int) + 1) = (pre.length : Int) + 1 := by rw [IntKind.wrap_i64]; omega
  clear hk1
  refine wp_region_held_drew (S := fun W' => Arr W' (w.heap.size + 1) u.l ∧ Arr W' w.heap.size p.l) (by kernel_rfl) ⟨hY2, hA2⟩ (fun hS => ?_)
  refine wpAnyH_take (i := 0) (v := .slice (some ⟨g, 0, none⟩) n n) rfl (by kernel_rfl) (by kernel_rfl) (by kernel_rfl) (fun _ _ _ h => h) (Or.inl ⟨by rfl, fun w' _ => by go_simp⟩) hS ?_
  refine wpAnyH_take (i := 1) (v := .int .i64 (pre.length : Int)) rfl (by kernel_rfl) (by kernel_rfl) (by kernel_rfl) (fun _ _ _ h => h) (Or.inl ⟨by rfl, fun w' _ => by go_simp⟩) hS ?_
  refine wpAnyH_take (i := 2) (v := .int .i64 ((pre.length : Int) + 1)) rfl (by kernel_rfl) (by kernel_rfl) (by kernel_rfl) (fun _ _ _ h => h) (Or.inl ⟨by rfl, fun w' _ => by go_simp⟩) hS ?_
  refine wpAnyH_take (i := 3) rfl (by kernel_rfl) (by kernel_rfl) (by kernel_rfl) (fun _ _ _ h => h) (yieldsIf_load_mid (by rfl) _ _ rfl (w.heap.size + 1) 0 rfl (u.l.map (Value.int .i8)) _ (fun w' h => Arr.range h.1) Try.underlying81 rfl hin1) hS ?_
  refine wpAnyH_take (i := 5) rfl (by kernel_rfl) (by kernel_rfl) (by kernel_rfl) (fun _ _ _ h => h) (yieldsIf_load_mid (by rfl) _ _ rfl w.heap.size 0 rfl (p.l.map (Value.int .i8)) _ (fun w' h => Arr.range h.2) Try.underlying81 rfl hin2) hS ?_
  refine wpAnyH_ready (rs := [4]) (by kernel_rfl) (by simp) ?_
  refine AllReadyH.cons rfl (fun K hK => ?_) AllReadyH.nil
  go_simp
  refine (pback_raw u _).mono ?_
  rintro e w4 ⟨rfl, hb4⟩
  replace hb4 := undrew hb4
  have hY4 := hY2.below hb4 hY2.lt
  have hA4 := hA2.below hb4 hA2.lt
  have hB4 : Below w.heap.size w w4 := hB2.trans (hb4.mono hB2.size)
  refine hK.out _ _ ⟨hY4, hA4⟩ (fun _ => ?_)
  clear hK hb4
  refine wpAnyH_ready (rs := [6]) (by kernel_rfl) (by simp) ?_
  refine AllReadyH.cons rfl (fun K hK => ?_) AllReadyH.nil
  go_simp
  refine (ptimes_raw u⁻¹ p _).mono ?_
  rintro e w5 ⟨rfl, hb5⟩
  have hY5 := hY4.below hb5 hY4.lt
  have hA5 := hA4.below hb5 hA4.lt
  have hB5 : Below w.heap.size w w5 := hB4.trans (hb5.mono hB4.size)
  refine hK.out _ _ ⟨hY5, hA5⟩ (fun _ => ?_)
  clear hK hb5
  refine wpAnyH_ready (rs := [7]) (by kernel_rfl) (by simp) ?_
  refine AllReadyH.cons rfl (fun K hK => ?_) AllReadyH.nil
  have hC5 := HCH.out.below hB5 (Nat.le_refl _)
  have hF5 : Fixes (plus F l.base) (u⁻¹ * p) := fixes_plus.2 ⟨(fixes_sub F).mul ((fixes_sub F).inv (HP.out.ok.fix _ hum)) HF.out, by have h1 : u.act l.base = p.act l.base := HP.out.ok.brings _ hum; rw [Pm.act_mul, ← h1, Pm.inv_act]⟩
  have hTk := HT.out B g (pre ++ [l]) c st (u⁻¹ * p) (plus F l.base) w5 (by simp) (by omega) h12 (by rw [List.append_assoc]; exact HBS.out) (fun x hx => HND.out x (List.mem_cons_of_mem _ hx)) (by rw [List.append_assoc]; exact hC5) HP.out.whole hF5
  rw [← HK1.out] at hTk
  have HTk := hide hTk
  clear hTk
  go_simp
  refine HTk.out.mono ?_
  rintro e w6 ⟨v, rfl, cs', st', hW6, hT6, hC6, hK6, hf6, hn6, hs6⟩
  rw [List.append_assoc] at hC6 hK6
  rw [show (pre ++ [l]).length = pre.length + 1 from by simp] at hK6 hf6 hs6
  have hS6 : Arr w6 (w.heap.size + 1) u.l ∧ Arr w6 w.heap.size p.l := ⟨keep_arr hK6 hY5 (fun x => Foot.not_new HCH.out (by omega) x), keep_arr hK6 hA5 (fun x => Foot.not_new HCH.out (Nat.le_refl _) x)⟩
  refine hK.out _ _ hS6 (fun _ => ?_)
  clear hK
  refine wpAnyH_done (by kernel_rfl) ?_ _
  go_wp2
  have hpo := HP.out.old hum HG.out hW6 hT6
  refine bodyPost_ret (results_none rfl _ _ _) rfl (BringPost.mk hpo.1 hpo.2 hC6 ?_ ?_ ?_ (fun j hj => hs6 j (by omega)))
  · exact (Keep.of_below hB5 (Nat.le_refl _)).trans hK6 (fun b x _ hf => foot_succ hf)
  · intro b' x hb' hf
    exact foot_up (fun hf' => by have h := hf6 b' x (Nat.lt_of_lt_of_le hb' hB5.size); rw [List.append_assoc, List.append_assoc] at h; exact h hf') (hs6 _ (by omega)) hf
  · intro x hx
    rcases List.mem_cons.1 hx with rfl | hx
    · exact HND.out _ List.mem_cons_self
    · exact hn6 x hx
end Go.Proofs.Ytahffpgadoiijaa

/- Contract: bring, where the bell is a new one. -/
namespace Go.Proofs.Ytahffpgadoiijaa
open Go.RowKit

set_option maxRecDepth 20000 in
set_option maxHeartbeats 4000000 in
theorem bring_new {n k m B g : Nat} {pre : List Lk} {l : Lk} {c : List Lk} {st : Nat → St} {p : Pm} {F : Nat → Prop} {w : World} (ih : ∀ m', m' < m → BringSays n k m') (hno : l.tab.lookup (p.act l.base) = none) : BringFor n k m B g pre l c st p F w := by
  intro hpre hn h12 hm hbs hnd hC hP hF hG
  subst hpre
  have lk := hC.link pre.length (rawOf l) (map_mid pre l c)
  have hbase : l.base < 12 := hbs l (by simp)
  have hglt := hC.lt_g
  have hb12 := p.act_lt hbase
  have HNO := hide hno
  have hyl : zeros12.length = 12 := rfl
  have hyv : (tabF l.tab ((p.act l.base : Nat) : Int)).getD (.agg (i8s zeros12)) = .agg (i8s zeros12) := by rw [tabF_nat, hno]; rfl
  have hyt : (tabF l.tab ((p.act l.base : Nat) : Int)).isSome = false := by rw [tabF_nat, hno]; rfl
  clear hno
  have HCH := hide hC
  have HP := hide hP
  have HF := hide hF
  have HG := hide hG
  have HBS := hide hbs
  have HND := hide hnd
  have HIH := hide ih
  have hmlt := lk.mp.lt
  obtain ⟨pb, cb, ebv⟩ := owns_slice12 lk.bells
  obtain ⟨pg, cg, egv⟩ := owns_slice12 lk.gens
  have c0 : ∀ o : Obj, (w.alloc o).cell? ⟨g, pre.length * 4, none⟩ = some (.int .i64 ((l.base : Nat) : Int)) := fun o => by rw [World.cell?_of_block (w := w) (a := ⟨g, pre.length * 4, none⟩) (Below.heap_alloc w o g hglt), Nat.mul_comm]; exact lk.c0
  have c1 : ∀ o : Obj, (w.alloc o).cell? ⟨g, pre.length * 4 + 1, none⟩ = some (.map (some (st pre.length).m)) := fun o => by rw [World.cell?_of_block (w := w) (a := ⟨g, pre.length * 4 + 1, none⟩) (Below.heap_alloc w o g hglt), Nat.mul_comm]; exact lk.c1
  have hmp0 := lk.mp.alloc (.cells (i8s p.l) 81)
  have hfe : (rawOf l).f = tabF l.tab := rfl
  rw [hfe] at hmp0
  have hA0 := Arr.new w p.l p.len
  have hcq := (hA0.cell hbase).1
  rw [p.getD_act hbase] at hcq
  generalize hbb : p.act l.base = b at *
  have HBB := hide hbb
  have hwb : IntKind.i64.wrap (b : Int) = (b : Int) := by rw [IntKind.wrap_i64]; omega
  have hbz : (0 : Int) ≤ (l.base : Int) := by omega
  have hbt : ((l.base : Nat) : Int) < 12 := by omega
  have hkn : (pre.length : Int) < (n : Int) := by omega
  have hB2' : ∀ o1 o2 : Obj, Below w.heap.size w ((w.alloc o1).alloc o2) := fun o1 o2 => ((Below.refl _ _).alloc (Nat.le_refl _) o1).alloc (by simp) o2
  unfold pv
  clear hC hP hF hG hbs hnd ih lk hbb
  go_enter Try.func98, Try.ntmps98
  go_wp2_with (first
    | refine wpList_look_ok' rfl _ _ 100 rfl 81 Try.underlying100 (Try.zero81 _) hmp0 (b : Int) rfl rfl (by omega) (by omega) hyv hyt ?_
    | (refine wpList_store_arr rfl _ _ rfl (w.heap.size + 1) zeros12 zeros12 (Arr.new1 w _ (zs := zeros12) rfl) rfl rfl hyl ?_; intro w2 hY2 hg2))
  have hA2 : Arr w2 w.heap.size p.l := (hA0.alloc _).kept hg2 (by intro e; have := Option.some.inj e; omega)
  have hB2 : Below w.heap.size w w2 := (hB2' _ _).grown hg2 (by simp; omega) (fun k h => by have := Option.some.inj h; omega)
  have hC2 := HCH.out.below hB2 (Nat.le_refl _)
  clear hg2 hA0 hcq c0 c1 hmp0 hB2'
  have hin2 : (Try.prog.info? 81).map (·.size) = some (p.l.map (Value.int .i8)).length := by rw [List.length_map, p.len]; exact Try.size81
  have hM2 : Mid w2 w2 B g pre.length ((pre ++ l :: c).map rawOf) st ((pre ++ l :: c).map rawOf) st := Mid.start hC2 (Below.refl _ _)
  have HC2 := hide hC2
  have HB2 := hide hB2
  have hD2 := hA2.lt
  have lk2 := hC2.link pre.length (rawOf l) (map_mid pre l c)
  have c1 : w2.cell? ⟨g, pre.length * 4 + 1, none⟩ = some (.map (some (st pre.length).m)) := by rw [Nat.mul_comm]; exact lk2.c1
  have hPA := HP.out.add (p := p) (by rw [HBB.out]; exact HNO.out) HF.out HG.out
  have htl := tab_len hPA.ok hbase
  have htl2 : l.tab.length + 1 ≤ 12 := by have : (l.tab ++ [(p.act l.base, p)]).length ≤ 12 := htl; simpa using this
  have HPA := hide hPA
  clear hPA htl
  refine wp_region_held_drew (S := fun W' => Arr W' w.heap.size p.l) (by kernel_rfl) hA2 (fun hS => ?_)
  refine wpAnyH_take (i := 0) (v := .pointer (some ⟨g, pre.length * 4, none⟩)) rfl (by kernel_rfl) (by kernel_rfl) (by kernel_rfl) (fun _ _ _ h => h) (Or.inl ⟨by rfl, fun w' _ => by go_simp⟩) hS ?_
  refine wpAnyH_take (i := 1) (v := .pointer (some ⟨g, pre.length * 4, none⟩)) rfl (by kernel_rfl) (by kernel_rfl) (by kernel_rfl) (fun _ _ _ h => h) (Or.inl ⟨by rfl, fun w' _ => by go_simp⟩) hS ?_
  refine wpAnyH_take (i := 2) (v := .pointer (some ⟨g, pre.length * 4 + 1, none⟩)) rfl (by kernel_rfl) (by kernel_rfl) (by kernel_rfl) (fun _ _ _ h => h) (Or.inl ⟨by rfl, fun w' _ => by go_simp⟩) hS ?_
  refine wpAnyH_take (i := 4) (v := .int .i64 (b : Int)) rfl (by kernel_rfl) (by kernel_rfl) (by kernel_rfl) (fun _ _ _ h => h) (Or.inl ⟨by rfl, fun w' _ => by go_simp⟩) hS ?_
  refine wpAnyH_take (i := 5) rfl (by kernel_rfl) (by kernel_rfl) (by kernel_rfl) (fun _ _ _ h => h) (yieldsIf_load_mid (by rfl) _ _ rfl w.heap.size 0 rfl (p.l.map (Value.int .i8)) _ (fun w' h => Arr.range h) Try.underlying81 rfl hin2) hS ?_
  refine wpAnyH_ready (rs := [3]) (by kernel_rfl) (by simp) ?_
  refine AllReadyH.cons rfl (fun K hK => ?_) AllReadyH.nil
  go_simp
  refine hK.out _ _ hS (fun _ => ?_)
  clear hK
  refine wpAnyH_ready (rs := [6]) (by kernel_rfl) (by simp) ?_
  refine AllReadyH.cons rfl (fun K hK => ?_) AllReadyH.nil
  refine step_put rfl _ _ _ 100 rfl 81 Try.underlying100 (show IMap w2.drew (st pre.length).m (rawOf l).n (rawOf l).f from lk2.mp) (by have : (rawOf l).n = l.tab.length := rfl; unfold maxLen; omega) (b : Int) (pv p) rfl rfl rfl (by omega) (by omega) ?_
  intro w3 hmp3 hg3
  replace hg3 : w2.grownBy w3 (some (st pre.length).m) := ⟨hg3.os, hg3.tape, hg3.output, hg3.size, hg3.block⟩
  obtain ⟨hC3, hK3, hf3⟩ := hC2.setMap (map_mid pre l c) hmp3 hg3
  have hA3 : Arr w3 w.heap.size p.l := hA2.kept hg3 (by intro e; have := Option.some.inj e; omega)
  refine hK.out _ _ hA3 (fun _ => ?_)
  clear hK
  refine wpAnyH_done (by kernel_rfl) ?_ _
  have hM3 := hM2.step hC3 hK3 hf3 (fun _ _ => rfl)
  have hk3 : (((pre ++ l :: c).map rawOf).set pre.length { rawOf l with f := upd (rawOf l).f (b : Int) (pv p), n := (rawOf l).n + 1 })[pre.length]? = some { rawOf l with f := upd (rawOf l).f (b : Int) (pv p), n := (rawOf l).n + 1 } := by rw [List.getElem?_set, if_pos rfl, if_pos (by simp)]
  have lk3 := hC3.link pre.length _ hk3
  have hg3lt := hC3.lt_g
  have kd3 := hC3.kinds hk3 hk3
  have hbl3 := lk3.bells
  have c2 : w3.cell? ⟨g, pre.length * 4 + 2, none⟩ = some (.slice pb (rawOf l).bs.length cb) := by rw [Nat.mul_comm, ← ebv]; exact lk3.c2
  have c3 : w3.cell? ⟨g, pre.length * 4 + 3, none⟩ = some (.slice pg (rawOf l).gs.length cg) := by rw [Nat.mul_comm, ← egv]; exact lk3.c3
  have hbl4 := hbl3
  rw [ebv] at hbl4
  have HBLN : Hid ((rawOf l).bs.length = l.tab.length) := by show (l.tab.map _).length = _; simp
  have hB3 : B ≤ w3.heap.size := by have := hC3.gB; omega
  have HM3 := hide hM3
  have HC3 := hide hC3
  have HK3 := hide hk3
  have HKD := hide kd3
  clear hM2 hM3 hC3 hk3 kd3 hK3 hf3 hmp3 hg3 lk2 lk3 c1 hC2 hA2 hY2 hS hB2 hyv hyt
  have fg : w3.frozen? ⟨g, pre.length * 4 + 2, none⟩ = false := by obtain ⟨cs, ho, _⟩ := HC3.out.obj; simp [World.frozen?, ho]
  obtain ⟨i0, hi, hz0, hz1, hz2⟩ := info_parts Try.info3
  have HO1 : Hid (∀ u ∈ [Value.int .i64 (b : Int)], u.oneCell' = true) := by intro u hu; rw [List.mem_singleton.1 hu]; rfl
  have HM1 : Hid ((rawOf l).bs.length + 1 ≤ maxLen) := by have := HBLN.out; show (rawOf l).bs.length + 1 ≤ maxLen; unfold maxLen; omega
  have HY1 : Hid (((rawOf l).bs.length + 1) * 8 ≤ 140737488355328) := by have := HBLN.out; show ((rawOf l).bs.length + 1) * 8 ≤ _; omega
  have HS1 : Hid (∀ o : Obj, B ≤ (w3.alloc o).heap.size) := fun o => by simp; omega
  go_wp2_with (at_builtin; refine wpList_append_keep _ rfl _ _ 23 rfl B 3 i0 (.int .i64 0) 1 8 Try.underlying23 hi hz0 hz1 hz2 rfl (by decide) _ _ _ rfl (hbl4.alloc _) ⟨w3.heap.size, 0, none⟩ 1 1 [.int .i64 (b : Int)] rfl rfl (cell_one_new _ _ _) HO1.out HM1.out HY1.out (HS1.out _) ?_)
  intro v' w4 hown4 hg4 hloc4
  have hg34 : w3.grownBy w4 (st pre.length).vb.ownBlock := by rw [ebv]; exact (World.grownBy_alloc w3 _ _).trans hg4
  have hloc34 : v'.ownBlock = (st pre.length).vb.ownBlock ∨ ((∀ b, v'.ownBlock = some b → w3.heap.size ≤ b) ∧ w3.grownBy w4 none) := by
    rw [ebv]
    refine hloc4.imp id (fun h => ⟨fun b hb => ?_, (World.grownBy_alloc w3 _ _).trans h.2⟩)
    have h5 := Option.some.inj (h.1.symm.trans hb)
    omega
  have hg4g : w4.heap[g]? = w3.heap[g]? := hg34.block g hg3lt (fun e => HKD.out.2.1 e.symm)
  have c2' : w4.cell? ⟨g, pre.length * 4 + 2, none⟩ = some (.slice pb (rawOf l).bs.length cb) := (World.cell?_of_block (w := w3) (a := ⟨g, pre.length * 4 + 2, none⟩) hg4g).trans c2
  have c3' : w4.cell? ⟨g, pre.length * 4 + 3, none⟩ = some (.slice pg (rawOf l).gs.length cg) := (World.cell?_of_block (w := w3) (a := ⟨g, pre.length * 4 + 3, none⟩) hg4g).trans c3
  have fg' : w4.frozen? ⟨g, pre.length * 4 + 2, none⟩ = false := (World.frozen?_of_block (w := w3) (a := ⟨g, pre.length * 4 + 2, none⟩) hg4g).trans fg
  have hA4 : Arr w4 w.heap.size p.l := by
    refine hA3.kept hg34 (fun e => ?_)
    have := (HCH.out.link pre.length (rawOf l) (map_mid pre l c)).bells.lt _ e
    omega
  obtain ⟨g', cap', hv', _, _, _, _⟩ := owns_form hown4 (by omega)
  obtain ⟨hC5, hK5, hf5⟩ := HC3.out.setBells HK3.out (u := .int .i64 (b : Int)) (v' := v') hown4 hg34 hloc34
  rw [set_mid2, raw_add HNO.out, set_mid, show 4 * pre.length + 2 = pre.length * 4 + 2 from by omega] at hC5
  rw [show 4 * pre.length + 2 = pre.length * 4 + 2 from by omega] at hK5
  rw [set_mid2, raw_add HNO.out, set_mid] at hf5
  have hM5 := HM3.out.step hC5 hK5 hf5 (fun j hj => by unfold updS; rw [if_neg (by omega)])
  have hA5 : Arr (w4.setCell ⟨g, pre.length * 4 + 2, none⟩ v') w.heap.size p.l := hA4.set_other (by omega) _
  rw [hv'] at hM5 hA5 ⊢
  have HM5 := hide hM5
  have HA5 := hide hA5
  clear hC5 hK5 hf5 hM5 hA5 hown4 hg4 hloc4 hg34 hloc34 hg4g hA3 hA4 c2 c3 fg hbl3 hbl4 HM3 HC3 HK3 HKD hv'
  go_wp2
  generalize w4.setCell ⟨g, pre.length * 4 + 2, none⟩ (.slice (some ⟨g', 0, none⟩) ((rawOf l).bs.length + 1) cap') = w5 at *
  have HGE : Hid ((rawOf l).gs = l.gens) := rfl
  have HGN : Hid ((rawOf l).gs.length = l.gens.length) := rfl
  have hgl : l.gens.length ≤ 12 ^ 12 := gens_bound (HND.out l List.mem_cons_self)
  have h1212 : (12 : Nat) ^ 12 = 8916100448256 := by decide
  have hgl2 : (l.gens.length : Int) ≤ 8916100448256 := by omega
  clear h1212
  clear hgl
  have hbl0 := hide (HC2.out.link pre.length (rawOf l) (map_mid pre l c)).gens
  rw [egv] at hbl0
  generalize hng : (rawOf l).gs.length = ng at *
  have HNG := hide hng
  have hng2 : (ng : Int) ≤ 8916100448256 := by have := HNG.out; have := HGN.out; omega
  clear hng c2' c3' fg' HBLN HO1 HM1 HY1 HS1 hgl2
  go_loopw [61] (fun i wr => ∃ (q : Nat) (l' : Lk) (c' : List Lk) (st' : Nat → St), q ≤ ng ∧ i = .int .i64 q ∧ Loop (l.add b p) c l l' c' p q ∧ Part F l' c' ∧ Mid w2 wr B g pre.length ((pre ++ l :: c).map rawOf) st ((pre ++ l' :: c').map rawOf) st' ∧ Arr wr w.heap.size p.l ∧ Hid (∀ x, x ∈ l' :: c' → x.gens.Nodup)) (fun i _ => ng - (intOf i).toNat)
  case atStart =>
    have hb := HBB.out
    subst hb
    refine ⟨0, l.add (p.act l.base) p, c, _, by omega, rfl, Loop.start l c p, HPA.out, HM5.out, HA5.out, ?_⟩
    intro x hx
    rcases List.mem_cons.1 hx with rfl | hx
    · exact HND.out l List.mem_cons_self
    · exact HND.out x (List.mem_cons_of_mem _ hx)
  case round =>
    obtain ⟨q, l', c', st', hq, rfl, hL, hPt, hMid, hA, hnd⟩ := hrel
    by_cases hlt : q < ng
    · have hql : q < l.gens.length := by have := HNG.out; have := HGN.out; omega
      obtain ⟨s, hs⟩ : ∃ s, l.gens[q]? = some s := ⟨_, List.getElem?_eq_getElem hql⟩
      have hsm : s ∈ l.gens := List.mem_of_getElem? hs
      obtain ⟨gb, hgb, _, hgc, hgm⟩ := owns_some hbl0.out (by have := HNG.out; omega)
      have hown := (HC2.out.link pre.length (rawOf l) (map_mid pre l c)).gens
      have hvb : (st pre.length).vg.ownBlock = some gb := by rw [egv, hgb]; rfl
      have hrange : wr.rangeAt gb (q * 12) (s.l.map (Value.int .i8)) := keep_gens hMid.keep hown hvb (fun x hx => foot_gens HC2.out (map_mid pre l c) hvb hx) hs
      have hin : (Try.prog.info? 81).map (·.size) = some (s.l.map (Value.int .i8)).length := by rw [List.length_map, s.len]; exact Try.size81
      have hsl := s.len
      have hAlt := hA.lt
      have HL := hide hL
      have HPt := hide hPt
      have HMid := hide hMid
      have HS := hide hs
      have HSM := hide hsm
      subst hgb
      clear hL hPt hMid hs hsm hown hvb hbl0
      go_wp2_with (first
        | refine wpList_load_mid rfl 81 _ rfl gb _ rfl _ _ hrange Try.underlying81 rfl hin ?_
        | (refine wpList_store_arr rfl _ _ rfl wr.heap.size zeros12 s.l (zeros_new wr) rfl rfl hsl ?_; intro w6 hX6 hg6; have hA6 : Arr w6 w.heap.size p.l := (hA.alloc _).kept hg6 (by intro e; have := Option.some.inj e; omega))
        | refine wpList_load_arr rfl _ rfl wr.heap.size s.l hX6 rfl ?_
        | refine wpList_load_arr rfl _ rfl w.heap.size p.l hA6 rfl ?_)
      refine (ptimes_ok s p _).mono ?_
      rintro e w7 ⟨rfl, hb7⟩
      have hb6 : Below wr.heap.size wr w6 := ((Below.refl _ _).alloc (Nat.le_refl _) _).grown hg6 (by simp) (fun k h => by have := Option.some.inj h; omega)
      have hb67 : Below wr.heap.size wr w7 := hb6.trans (hb7.mono hb6.size)
      have hM7 := HMid.out.quiet hb67
      have hA7 : Arr w7 w.heap.size p.l := hA.below hb67 hAlt
      have hbas := HL.out.base
      have hgen := HL.out.gens
      obtain ⟨more, htab⟩ := HL.out.tab
      have htl : l.tab.length + 1 ≤ l'.tab.length := by rw [htab]; show _ ≤ ((l.tab ++ [(b, p)]) ++ more).length; simp
      have hBr := HIH.out (m - 1) (by omega) B g pre l' c' st' (s * p) F w7 rfl (by rw [HL.out.len]; exact hn) h12 (by omega)
        (bases_of (cs := l :: c) (cs' := l' :: c') (by rw [List.map_cons, List.map_cons, HL.out.bases, hbas]; rfl) HBS.out) hnd.out hM7.chain HPt.out ((fixes_sub F).mul (HP.out.gF s HSM.out) HF.out)
        (by rw [hgen]; exact Gen.mul HSM.out HG.out)
      have HBr := hide hBr
      have HM7 := hide hM7
      clear hBr hM7 hb67 hb6 hb7 hg6 hX6 hA6 hrange hbas hgen htab htl
      go_wp2_with fail
      refine HBr.out.mono ?_
      rintro e w8 ⟨v, rfl, l2, c2, st2, hP2, hBt2, hC2, hK2, hf2, hn2, hs2⟩
      have hM8 := HM7.out.step hC2 hK2 hf2 hs2
      have hA8 : Arr w8 w.heap.size p.l := keep_arr hK2 hA7 (fun x hf => Foot.not_new HCH.out (Nat.le_refl _) x (HM7.out.foot' hf hD2))
      have hL2 : Loop (l.add b p) c l l2 c2 p (q + 1) := HL.out.step (by rw [List.take_add_one, show (l.add b p).gens = l.gens from rfl, HS.out]; rfl) rfl hBt2
      go_wp2
      go_roundw
      case rel =>
        have hfin : ∃ (q' : Nat) (l' : Lk) (c' : List Lk) (st' : Nat → St), q' ≤ ng ∧ Value.int .i64 ((q : Int) + 1) = .int .i64 (q' : Int) ∧ Loop (l.add b p) c l l' c' p q' ∧ Part F l' c' ∧ Mid w2 w8 B g pre.length ((pre ++ l :: c).map rawOf) st ((pre ++ l' :: c').map rawOf) st' ∧ Arr w8 w.heap.size p.l ∧ Hid (∀ x, x ∈ l' :: c' → x.gens.Nodup) :=
          ⟨q + 1, l2, c2, st2, by omega, by go_num, hL2, hP2, hM8, hA8, hn2⟩
        first
          | exact hfin
          | ((repeat apply Exists.intro); exact ⟨hfin, rfl⟩)
      case measure => simp [intOf]; omega
    · have hqn : l.gens.length ≤ q := by have := HNG.out; have := HGN.out; omega
      have hb := HBB.out
      subst hb
      have hbr := Loop.brought hqn (prd_sub hPt.whole).one hL
      have HBr := hide hbr
      have HPt := hide hPt
      have HMid := hide hMid
      clear hL hPt hMid hbr hbl0
      go_wp2
      first
        | exact bodyPost_ret (results_none rfl _ _ _) rfl (BringPost.mk HPt.out HBr.out HMid.out.chain ((Keep.of_below HB2.out (Nat.le_refl _)).trans HMid.out.keep (fun _ _ _ h => h)) (fun b x hb hf => HMid.out.foot b x (Nat.lt_of_lt_of_le hb HB2.out.size) hf) hnd.out HMid.out.low)
        | exact bodyPost_end (results_none rfl _ _ _) rfl (BringPost.mk HPt.out HBr.out HMid.out.chain ((Keep.of_below HB2.out (Nat.le_refl _)).trans HMid.out.keep (fun _ _ _ h => h)) (fun b x hb hf => HMid.out.foot b x (Nat.lt_of_lt_of_le hb HB2.out.size) hf) hnd.out HMid.out.low)
end Go.Proofs.Ytahffpgadoiijaa
