/- Contract: has. -/
import Derived.Test.YtbddhpbeekioiaaRep
import Derived.Deep.RegionLaw
import Derived.Deep.RegionWith
import Derived.Deep.RegionHeld3
namespace Go.Proofs.Ytbddhpbeekioiaa
open Go.RowKit

/-! steps of a region that draws -/
section
variable {ops : Array Oper} {o : Oper} {a : Act} {w : World} {K : Act → World → Prop} {Q : Exit → Act → World → Prop} {E : Prop}

theorem step_value (hg : o.guard = none) {v : Value} {w' : World} (hrun : (execOp a.eval o).run Try.prog w = .ok (.value v) w') (h : K (a.put o.dst v) w') : if Region.wanted o (yielded ops a.tmps) = true then Oper.wp Try.prog o a w K Q else E := by
  have hw : Region.wanted o (yielded ops a.tmps) = true := by simp [Region.wanted, hg]
  rw [if_pos hw]
  unfold Oper.wp
  rw [hrun]
  exact h

theorem step_skip (hg : o.guard = none) {w' : World} (hrun : (execOp a.eval o).run Try.prog w = .ok (.skip) w') (h : K (a.put o.dst undef) w') : if Region.wanted o (yielded ops a.tmps) = true then Oper.wp Try.prog o a w K Q else E := by
  have hw : Region.wanted o (yielded ops a.tmps) = true := by simp [Region.wanted, hg]
  rw [if_pos hw]
  unfold Oper.wp
  rw [hrun]
  exact h

theorem step_load_arr (hg : o.guard = none) (x : Operand) (ho : o.op = .load 92 x) (b : Nat) (zs : List Int) (hA : Arr w b zs) (hx : a.eval x = .pointer (some ⟨b, 0, none⟩)) (h : K (a.put o.dst (.agg (i8s zs))) w) :
    if Region.wanted o (yielded ops a.tmps) = true then Oper.wp Try.prog o a w K Q else E :=
  step_value hg (by unfold execOp; simp only [ho, hx, run_load_arr hA, Sem.run_bind, Sem.run_pure, Result.andThen_ok]) h

theorem step_store_arr (hg : o.guard = none) (x y : Operand) (ho : o.op = .store 92 x y) (b : Nat) (zs ys : List Int) (hA : Arr w b zs) (hx : a.eval x = .pointer (some ⟨b, 0, none⟩)) (hy : a.eval y = .agg (i8s ys)) (hl : ys.length = 12)
    (h : ∀ w', Arr w' b ys → w.grownBy w' (some b) → K (a.put o.dst undef) w') : if Region.wanted o (yielded ops a.tmps) = true then Oper.wp Try.prog o a w K Q else E := by
  obtain ⟨w', hrun, h1, h2⟩ := run_store_arr (ys := ys) hA hl
  exact step_skip hg (by unfold execOp; simp only [ho, hx, hy, hrun, Sem.run_bind, Sem.run_pure, Result.andThen_ok]) (h w' h1 h2)

theorem step_look_ok (hg : o.guard = none) (m x : Operand) (t : TypeId) (hop : o.op = Op.lookup t m x true) (e : TypeId) (ht : Try.prog.underlying t = some (.map 3 e)) {z : Value} (hz : (zeroValue e).run Try.prog w = .ok z w)
    {b n : Nat} {f : Int → Option Value} (h : IMap w b n f) (k : Int) (hm : a.eval m = .map (some b)) (hx : a.eval x = .int .i64 k) (h1 : -9223372036854775808 ≤ k) (h2 : k ≤ 9223372036854775807)
    (hK : K (a.put o.dst (.tuple #[(f k).getD z, .bool (f k).isSome])) w) : if Region.wanted o (yielded ops a.tmps) = true then Oper.wp Try.prog o a w K Q else E :=
  step_value hg (by unfold execOp; simp only [hop, hm, hx, h.look_ok ht hz h1 h2, Sem.run_bind, Sem.run_pure, Result.andThen_ok]) hK

theorem step_look (hg : o.guard = none) (m x : Operand) (t : TypeId) (hop : o.op = Op.lookup t m x false) (e : TypeId) (ht : Try.prog.underlying t = some (.map 3 e)) {z : Value} (hz : (zeroValue e).run Try.prog w = .ok z w)
    {b n : Nat} {f : Int → Option Value} (h : IMap w b n f) (k : Int) (hm : a.eval m = .map (some b)) (hx : a.eval x = .int .i64 k) (h1 : -9223372036854775808 ≤ k) (h2 : k ≤ 9223372036854775807)
    (hK : K (a.put o.dst ((f k).getD z)) w) : if Region.wanted o (yielded ops a.tmps) = true then Oper.wp Try.prog o a w K Q else E :=
  step_value hg (by unfold execOp; simp only [hop, hm, hx, h.look ht hz h1 h2, Sem.run_bind, Sem.run_pure, Result.andThen_ok]) hK

theorem step_put (hg : o.guard = none) (m x v : Operand) (t : TypeId) (hop : o.op = Op.mapUpdate t m x v) (e : TypeId) (ht : Try.prog.underlying t = some (.map 3 e))
    {b n : Nat} {f : Int → Option Value} (h : IMap w b n f) (hn : n < maxLen) (k : Int) (val : Value) (hm : a.eval m = .map (some b)) (hx : a.eval x = .int .i64 k) (hv : a.eval v = val) (h1 : -9223372036854775808 ≤ k) (h2 : k ≤ 9223372036854775807)
    (hK : ∀ w', IMap w' b (n + 1) (upd f k val) → w.grownBy w' (some b) → K (a.put o.dst undef) w') : if Region.wanted o (yielded ops a.tmps) = true then Oper.wp Try.prog o a w K Q else E := by
  obtain ⟨w', hrun, r1, r2⟩ := h.put ht hn h1 h2 val
  exact step_skip hg (by unfold execOp; simp only [hop, hm, hx, hv, hrun, Sem.run_bind, Sem.run_pure, Result.andThen_ok]) (hK w' r1 r2)
end

/-- A store into the block that was made last. -/
theorem wpList_store_new {ops : Array Oper} {rest : List Oper} {op : Oper} {a : Act} {w : World} {Q : Exit → Act → World → Prop} (hgd : op.guard = none) (T : TypeId) (x y : Operand) (ho : op.op = .store T x y) (c c' : Array Value)
    (hx : a.eval x = .pointer (some ⟨w.heap.size, 0, none⟩)) (hy : a.eval y = .agg c') (hi : (Try.prog.info? T).map (·.size) = some c'.size) (hs : c.size = c'.size) (h1 : c'.all (·.oneCell') = true)
    (h : wpList Try.prog ops Q rest (a.put op.dst undef) (w.alloc (.cells c' T))) : wpList Try.prog ops Q (op :: rest) a (w.alloc (.cells c T)) := by
  refine wpList_plain hgd fun K hK => ?_
  unfold Oper.wp execOp
  simp only [ho, hx, hy, run_storeAt_new w T c c' hi hs h1, Sem.run_bind, Sem.run_pure, Result.andThen_ok]
  exact hK _ _ h

theorem Try.size122 : (Try.prog.info? 122).map (·.size) = some 4 := by kernel_rfl
theorem Try.zero92 (w : World) : (zeroValue 92).run Try.prog w = .ok (.agg (i8s zeros12)) w := by kernel_rfl

/-! links as they lie -/

def tabF (tab : List (Nat × Pm)) : Int → Option Value := fun a => if 0 ≤ a then (tab.lookup a.toNat).map pv else none

def rawOf (l : Lk) : Raw := ⟨l.base, l.tab.length, tabF l.tab, l.tab.map (fun e => .int .i64 ((e.1 : Nat) : Int)), l.gens⟩

theorem tabF_nat (tab : List (Nat × Pm)) (b : Nat) : tabF tab (b : Int) = (tab.lookup b).map pv := by unfold tabF; rw [if_pos (by omega), Int.toNat_natCast]

theorem hasC_step {C : List Lk} {j : Nat} {l : Lk} (hl : C[j]? = some l) (q : Pm) : hasC (C.drop j) q = (l.tab.lookup (q.act l.base)).elim false (fun u => hasC (C.drop (j + 1)) (u⁻¹ * q)) := by
  obtain ⟨hj, rfl⟩ := List.getElem?_eq_some_iff.1 hl
  rw [List.drop_eq_getElem_cons hj]
  rfl

theorem owns_slice12 {w : World} {base e size n : Nat} {v : Value} {xs : List Value} (h : w.ownsRow base e size v n xs) : ∃ p cap, v = .slice p n cap := by
  rcases h.2 with ⟨rfl, rfl⟩ | ⟨g, cap, cur, rfl, _⟩
  · exact ⟨none, 0, rfl⟩
  · exact ⟨_, cap, rfl⟩

theorem heap_setCells_ne (b : Nat) : ∀ (vs : List Value) (o : Nat) (w : World) (x : Nat), x ≠ b → (w.setCells b o vs).heap[x]? = w.heap[x]?
  | [], _, _, _, _ => rfl
  | v :: r, o, w, x, h => by
    rw [World.setCells, heap_setCells_ne b r (o + 1) _ x h]
    exact Below.heap_setCell w ⟨b, o, none⟩ v x h

theorem Arr.there {w : World} {b : Nat} {zs : List Int} (h : Arr w b zs) : w.there b 0 12 := fun j hj => by
  rw [Nat.zero_add]
  exact ⟨by rw [(h.cell hj).1]; rfl, (h.cell hj).2⟩

theorem i8_one (ys : List Int) : ∀ v ∈ ys.map (Value.int .i8), v.oneCell' = true := by
  intro v hv
  obtain ⟨a, _, rfl⟩ := List.mem_map.1 hv
  rfl

/-- A whole array stored, cell by cell. -/
theorem store_cells {w : World} {b : Nat} {zs ys : List Int} (h : Arr w b zs) (hl : ys.length = 12) : Arr (w.setCells b 0 (ys.map (Value.int .i8))) b ys ∧ w.grownBy (w.setCells b 0 (ys.map (Value.int .i8))) (some b) := by
  obtain ⟨w', hrun, h1, h2⟩ := run_store_arr (ys := ys) h hl
  have hrun' := run_storeAt_mid (P := Try.prog) w b 0 92 (i8s ys) (by rw [i8s_size, hl]; exact h.there) (by rw [Try.size92, i8s_size, hl]) (i8s_one ys)
  rw [hrun] at hrun'
  have e := (Result.ok.inj hrun').2
  have e2 : (i8s ys).toList = ys.map (Value.int .i8) := by simp [i8s]
  rw [e2] at e
  rw [← e]
  exact ⟨h1, h2⟩

theorem pback_raw (x : Pm) (w : World) : Calls Try.prog 79 #[.agg (x.l.map (Value.int .i8)).toArray] w fun e w' => e = .returned (.agg (x⁻¹.l.map (Value.int .i8)).toArray) ∧ Below w.heap.size w w' := pback_ok x w
theorem ptimes_raw (x y : Pm) (w : World) : Calls Try.prog 69 #[.agg (x.l.map (Value.int .i8)).toArray, .agg (y.l.map (Value.int .i8)).toArray] w fun e w' => e = .returned (.agg ((x * y).l.map (Value.int .i8)).toArray) ∧ Below w.heap.size w w' := ptimes_ok x y w

theorem undrew {w w' : World} (h : Below w.drew.heap.size w.drew w') : Below w.heap.size w w' := ⟨h.os, h.tape, h.output, h.size, h.block⟩

/-- What a look-up in a link gives. -/
theorem look_tab (tab : List (Nat × Pm)) (b : Nat) : ∃ (ys : List Int) (t : Bool), ys.length = 12 ∧ (tabF tab (b : Int)).getD (.agg (i8s zeros12)) = .agg (i8s ys) ∧ (tabF tab (b : Int)).isSome = t ∧ Hid ((t = true → ∃ u, tab.lookup b = some u ∧ ys = u.l) ∧ (t = false → tab.lookup b = none)) := by
  rw [tabF_nat]
  cases h : tab.lookup b with
  | none => exact ⟨zeros12, false, rfl, rfl, rfl, And.intro (fun h => Bool.noConfusion h) (fun _ => rfl)⟩
  | some u => exact ⟨u.l, true, u.len, rfl, rfl, And.intro (fun _ => ⟨u, rfl, rfl⟩) (fun h => Bool.noConfusion h)⟩

set_option maxRecDepth 20000 in
set_option maxHeartbeats 2000000 in
theorem has_ok {B g : Nat} {st : Nat → St} (C : List Lk) (k : Nat) (p : Pm) (w : World) (hC : ChainAt w B g (C.map rawOf) st) (hk : k ≤ C.length) (h12 : C.length ≤ 12) (hb : ∀ l, l ∈ C → l.base < 12) :
    Calls Try.prog 71 #[.slice (some ⟨g, 0, none⟩) C.length C.length, .int .i64 k, pv p] w fun e w' => e = .returned (.bool (hasC (C.drop k) p)) ∧ Below w.heap.size w w' := by
  unfold pv
  have hp := p.len
  have HA := hide (Arr.new w p.l hp)
  have HCC := hide hC
  have HBB := hide hb
  by_cases hkn : k = C.length
  · have HE : Hid (hasC (C.drop k) p = true) := by show _ = _; rw [hkn, List.drop_length]; rfl
    subst hkn
    have h0 : C.length - C.length = 0 := Nat.sub_self _
    clear hC hb
    go_enter Try.func71, Try.ntmps71
    go_wp2
    go_loopw [15] (fun i wr => i = .int .i64 0 ∧ Below w.heap.size w wr) (fun _ _ => 0)
    case atStart => exact ⟨rfl, (Below.refl _ _).alloc (Nat.le_refl _) _⟩
    case round =>
      obtain ⟨rfl, hbw⟩ := hrel
      go_wp2
      go_ret
      exact ⟨by rw [HE.out]; rfl, hbw⟩
  · have hkn' : k < C.length := by omega
    clear hC hb
    go_enter Try.func71, Try.ntmps71
    go_wp2
    go_loopw [15] (fun i wr => ∃ (j : Nat) (q : Pm), k ≤ j ∧ j ≤ C.length ∧ i = .int .i64 ((j - k : Nat) : Int) ∧ Arr wr w.heap.size q.l ∧ Hid (hasC (C.drop j) q = hasC (C.drop k) p) ∧ Below w.heap.size w wr) (fun i _ => C.length - k - (intOf i).toNat)
    case atStart => exact ⟨k, p, Nat.le_refl _, hk, by rw [Nat.sub_self]; rfl, HA.out, rfl, (Below.refl _ _).alloc (Nat.le_refl _) _⟩
    case round =>
      obtain ⟨j, q, hkj, hj, rfl, hA, hh, hbw⟩ := hrel
      by_cases hlt : j < C.length
      · obtain ⟨l, hl⟩ : ∃ l, C[j]? = some l := ⟨_, List.getElem?_eq_getElem hlt⟩
        have hCr := HCC.out.below hbw (Nat.le_refl _)
        have lk := hCr.link j (rawOf l) (by rw [List.getElem?_map, hl]; rfl)
        have hbase : l.base < 12 := HBB.out l (List.mem_of_getElem? hl)
        have hS0 := hA.lt
        have HSt := hide (hasC_step hl q)
        rw [hh.out] at HSt
        have hm12 := q.act_lt hbase
        obtain ⟨ys, t, hyl, hyv, hyt, hyh⟩ := look_tab l.tab (q.act l.base)
        have hcq := (hA.cell hbase).1
        rw [q.getD_act hbase] at hcq
        have mlt := lk.mp.lt
        have hmp := lk.mp
        have c0 := lk.c0
        have c1 := lk.c1
        obtain ⟨pb, cb, ebv⟩ := owns_slice12 lk.bells
        obtain ⟨pg, cg, egv⟩ := owns_slice12 lk.gens
        have c2 := lk.c2
        have c3 := lk.c3
        rw [ebv] at c2
        rw [egv] at c3
        have hrange : wr.rangeAt g ((k * 4) + ((j - k) * 4)) [.int .i64 ((l.base : Nat) : Int), .map (some (st j).m), .slice pb (rawOf l).bs.length cb, .slice pg (rawOf l).gs.length cg] := by
          have e4 : k * 4 + (j - k) * 4 = 4 * j := by omega
          rw [e4]
          intro x v hv
          match x, hv with
          | 0, hv => rw [← Option.some.inj hv]; exact c0
          | 1, hv => rw [← Option.some.inj hv]; exact c1
          | 2, hv => rw [← Option.some.inj hv]; exact c2
          | 3, hv => rw [← Option.some.inj hv]; exact c3
          | x + 4, hv => cases hv
        have HLK : Hid (∀ W' : World, W'.heap[(st j).m]? = wr.heap[(st j).m]? → (Instr.lookup 120 (.map (some (st j).m)) (.int .i64 ((q.act l.base : Nat) : Int)) true).run Try.prog W' = .ok (.tuple #[.agg (i8s ys), .bool t]) W') := fun W' hW' => by
          have h1 := (hmp.of_block hW').look_ok (t := 120) Try.underlying120 (Try.zero92 W') (a := ((q.act l.base : Nat) : Int)) (by omega) (by omega)
          have h2 : (rawOf l).f = tabF l.tab := rfl
          rw [h2, hyv, hyt] at h1
          exact h1
        clear hmp c0 c1 c2 c3 hCr lk hyv hyt hh
        generalize (st j).m = m at *
        clear ebv egv
        generalize (rawOf l).bs.length = nb at *
        generalize (rawOf l).gs.length = ng at *
        generalize hbb : q.act l.base = b at *
        generalize hba : l.base = base at *
        have HBB2 := hide hbb
        have HBA := hide hba
        clear hbb hba
        go_wp2_with (refine wpList_load_mid rfl 122 _ rfl g _ rfl _ _ hrange Try.underlying122 rfl Try.size122 ?_)
        have hSg : ∀ W' : World, (∀ x, x < wr.heap.size + 1 → W'.heap[x]? = (wr.alloc (.cells #[.int .i64 (base : Int), .map (some m), .slice pb nb cb, .slice pg ng cg] 122)).heap[x]?) →
            (W'.cell? ⟨wr.heap.size, 0, none⟩ = some (.int .i64 (base : Int)) ∧ W'.cell? ⟨wr.heap.size, 1, none⟩ = some (.map (some m)) ∧ W'.cell? ⟨w.heap.size, base, none⟩ = some (.int .i8 (b : Int)) ∧
              (Instr.lookup 120 (.map (some m)) (.int .i64 (b : Int)) true).run Try.prog W' = .ok (.tuple #[.agg (ys.map (Value.int .i8)).toArray, .bool t]) W') := by
          intro W' hW'
          have hn := heap_alloc_last wr (.cells #[.int .i64 (base : Int), .map (some m), .slice pb nb cb, .slice pg ng cg] 122)
          refine ⟨?_, ?_, ?_, HLK.out W' (by rw [hW' m (by omega)]; exact Below.heap_alloc wr _ m mlt)⟩
          · rw [cell_of_row W' wr.heap.size 0 _ _ _ ((hW' wr.heap.size (by omega)).trans hn)]; rfl
          · rw [cell_of_row W' wr.heap.size 1 _ _ _ ((hW' wr.heap.size (by omega)).trans hn)]; rfl
          · rw [World.cell?_of_block (w := wr) (a := ⟨w.heap.size, base, none⟩) ((hW' w.heap.size (by omega)).trans (Below.heap_alloc wr _ _ hS0))]; exact hcq
        have hA1 := hA.alloc (.cells #[.int .i64 (base : Int), .map (some m), .slice pb nb cb, .slice pg ng cg] 122)
        have hB1 := hbw.alloc hbw.size (.cells #[.int .i64 (base : Int), .map (some m), .slice pb nb cb, .slice pg ng cg] 122)
        have hsz : (wr.alloc (.cells #[.int .i64 (base : Int), .map (some m), .slice pb nb cb, .slice pg ng cg] 122)).heap.size = wr.heap.size + 1 := by simp
        generalize hW1 : wr.alloc (.cells #[.int .i64 (base : Int), .map (some m), .slice pb nb cb, .slice pg ng cg] 122) = W1 at *
        clear hrange hcq HLK mlt hW1
        have hz : Arr (W1.alloc (.cells #[.int .i8 0, .int .i8 0, .int .i8 0, .int .i8 0, .int .i8 0, .int .i8 0, .int .i8 0, .int .i8 0, .int .i8 0, .int .i8 0, .int .i8 0, .int .i8 0] 92)).drew (wr.heap.size + 1) zeros12 := by rw [← hsz]; exact zeros_new W1
        have hst := store_cells hz (ys := ys) hyl
        have hth : (W1.alloc (.cells #[.int .i8 0, .int .i8 0, .int .i8 0, .int .i8 0, .int .i8 0, .int .i8 0, .int .i8 0, .int .i8 0, .int .i8 0, .int .i8 0, .int .i8 0, .int .i8 0] 92)).drew.there (wr.heap.size + 1) 0 (ys.map (Value.int .i8)).length := by
          rw [List.length_map, hyl]; exact hz.there
        have ho1 : ∀ v ∈ ys.map (Value.int .i8), v.oneCell' = true := i8_one ys
        have hin : (Try.prog.info? 92).map (·.size) = some (ys.map (Value.int .i8)).length := by rw [List.length_map, hyl]; exact Try.size92
        have hwb : IntKind.i64.wrap (b : Int) = (b : Int) := by rw [IntKind.wrap_i64]; omega
        have hbz : (0 : Int) ≤ (base : Int) := by omega
        have hbt : (base : Int) < 12 := by omega
        have hA3 : Arr ((W1.alloc (.cells #[.int .i8 0, .int .i8 0, .int .i8 0, .int .i8 0, .int .i8 0, .int .i8 0, .int .i8 0, .int .i8 0, .int .i8 0, .int .i8 0, .int .i8 0, .int .i8 0] 92)).drew.setCells (wr.heap.size + 1) 0 (ys.map (Value.int .i8))) w.heap.size q.l := (Arr.drew (hA1.alloc _)).kept hst.2 (by intro e; have := Option.some.inj e; omega)
        have hB3 : Below w.heap.size w ((W1.alloc (.cells #[.int .i8 0, .int .i8 0, .int .i8 0, .int .i8 0, .int .i8 0, .int .i8 0, .int .i8 0, .int .i8 0, .int .i8 0, .int .i8 0, .int .i8 0, .int .i8 0] 92)).drew.setCells (wr.heap.size + 1) 0 (ys.map (Value.int .i8))) := (hB1.alloc hB1.size _).drew.grown hst.2 (by have := hB1.size; simp; omega) (fun k h => by have := Option.some.inj h; omega)
        have hy3 := hst.1
        have HA3 := hide hA3
        have HB3 := hide hB3
        have HY3 := hide hy3
        have HSG := hide hSg
        clear hst hz hSg hA3 hB3 hy3
        go_region_held3 (fun W' => W'.cell? ⟨wr.heap.size, 0, none⟩ = some (.int .i64 (base : Int)) ∧ W'.cell? ⟨wr.heap.size, 1, none⟩ = some (.map (some m)) ∧ W'.cell? ⟨w.heap.size, base, none⟩ = some (.int .i8 (b : Int)) ∧
              (Instr.lookup 120 (.map (some m)) (.int .i64 (b : Int)) true).run Try.prog W' = .ok (.tuple #[.agg (ys.map (Value.int .i8)).toArray, .bool t]) W')
          (first | exact HSG.out _ (fun _ _ => rfl) | exact HSG.out _ (fun x hx => Below.heap_alloc W1.drew _ x (by show x < W1.heap.size; omega)) | exact HSG.out _ (fun x hx => (heap_setCells_ne _ _ _ _ _ (by show x ≠ _; omega)).trans (Below.heap_alloc W1.drew _ x (by show x < W1.heap.size; omega))))
          (fail)
        all_goals
          clear hth ho1 hin HSG
          have hSD : w.heap.size ≠ wr.heap.size + 1 := by omega
          generalize (W1.alloc (.cells #[.int .i8 0, .int .i8 0, .int .i8 0, .int .i8 0, .int .i8 0, .int .i8 0, .int .i8 0, .int .i8 0, .int .i8 0, .int .i8 0, .int .i8 0, .int .i8 0] 92)).drew.setCells (wr.heap.size + 1) 0 (ys.map (Value.int .i8)) = W3 at *
          have hA3 := HA3.out
          have hB3 := HB3.out
          have hY3 := HY3.out
          clear HA3 HB3 HY3 hA1 hB1 hsz hA hbw
          generalize wr.heap.size + 1 = D at *
          cases t with
          | false =>
            have hno := hyh.out.2 rfl
            have HE : Hid (hasC (C.drop k) p = false) := by show _ = _; have := HSt.out; rw [hno] at this; exact this
            go_wp2
            go_ret
            exact ⟨by rw [HE.out]; rfl, hB3⟩
          | true =>
            obtain ⟨u, hu, rfl⟩ := hyh.out.1 rfl
            have HE : Hid (hasC (C.drop (j + 1)) (u⁻¹ * q) = hasC (C.drop k) p) := by show _ = _; have := HSt.out; rw [hu] at this; exact this.symm
            have hDlt := hY3.lt
            have hlS := hA3.lt
            have hin1 : (Try.prog.info? 92).map (·.size) = some (u.l.map (Value.int .i8)).length := by rw [List.length_map, u.len]; exact Try.size92
            clear hyh hyl HSt hu
            go_wp2
            refine wp_region_held_drew (S := fun W' => Arr W' D u.l) (by kernel_rfl) hY3 (fun hS => ?_)
            refine wpAnyH_take (i := 0) rfl (by kernel_rfl) (by kernel_rfl) (by kernel_rfl) (fun _ _ _ h => h) (yieldsIf_load_mid (by rfl) _ _ rfl D 0 rfl (u.l.map (Value.int .i8)) _ (fun w' h => Arr.range h) Try.underlying92 rfl hin1) hS ?_
            refine wpAnyH_ready (rs := [1, 2]) (by kernel_rfl) (by simp) ?_
            refine AllReadyH.cons rfl (fun K hK => ?_) (AllReadyH.cons rfl (fun K hK => ?_) AllReadyH.nil)
            · go_simp
              refine (pback_raw u _).mono ?_
              rintro e w4 ⟨rfl, hb4⟩
              replace hb4 := undrew hb4
              have hY4 : Arr w4 D u.l := hY3.below hb4 hDlt
              have hA4 : Arr w4 w.heap.size q.l := hA3.below hb4 hlS
              have hB4 : Below w.heap.size w w4 := hB3.trans (hb4.mono hB3.size)
              refine hK.out _ _ hY4 (fun _ => ?_)
              clear hK hb4
              refine wpAnyH_ready (rs := [2]) (by kernel_rfl) (by simp) ?_
              refine AllReadyH.cons rfl (fun K hK => ?_) AllReadyH.nil
              refine step_load_arr rfl _ rfl _ _ hA4 rfl ?_
              refine hK.out _ _ hY4 (fun _ => ?_)
              clear hK
              refine wpAnyH_ready (rs := [3]) (by kernel_rfl) (by simp) ?_
              refine AllReadyH.cons rfl (fun K hK => ?_) AllReadyH.nil
              go_simp
              refine (ptimes_raw u⁻¹ q _).mono ?_
              rintro e w5 ⟨rfl, hb5⟩
              have hY5 : Arr w5 D u.l := hY4.below hb5 hY4.lt
              have hA5 : Arr w5 w.heap.size q.l := hA4.below hb5 hA4.lt
              have hB5 : Below w.heap.size w w5 := hB4.trans (hb5.mono hB4.size)
              refine hK.out _ _ hY5 (fun _ => ?_)
              clear hK hb5
              refine wpAnyH_ready (rs := [4]) (by kernel_rfl) (by simp) ?_
              refine AllReadyH.cons rfl (fun K hK => ?_) AllReadyH.nil
              refine step_store_arr rfl _ _ rfl w.heap.size q.l (u⁻¹ * q).l hA5 rfl rfl (u⁻¹ * q).len ?_
              intro w6 hA6 hg6
              refine hK.out _ _ (hY5.kept hg6 (fun e => hSD (Option.some.inj e))) (fun _ => ?_)
              clear hK
              have hB6 := hB5.grown hg6 hB5.size (fun k h => by have := Option.some.inj h; omega)
              refine wpAnyH_done (by kernel_rfl) ?_ _
              go_wp2
              go_roundw
              case rel =>
                have hfin : ∃ (j' : Nat) (q' : Pm), k ≤ j' ∧ j' ≤ C.length ∧ Value.int .i64 (((j - k : Nat) : Int) + 1) = .int .i64 ((j' - k : Nat) : Int) ∧ Arr w6 w.heap.size q'.l ∧ Hid (hasC (C.drop j') q' = hasC (C.drop k) p) ∧ Below w.heap.size w w6 :=
                  ⟨j + 1, u⁻¹ * q, by omega, by omega, by congr 1; omega, hA6, HE, hB6⟩
                first
                  | exact hfin
                  | ((repeat apply Exists.intro); exact ⟨hfin, rfl⟩)
              case measure => simp [intOf]; omega
            · refine step_load_arr rfl _ rfl _ _ hA3 rfl ?_
              refine hK.out _ _ hS (fun _ => ?_)
              clear hK
              refine wpAnyH_ready (rs := [1]) (by kernel_rfl) (by simp) ?_
              refine AllReadyH.cons rfl (fun K hK => ?_) AllReadyH.nil
              go_simp
              refine (pback_raw u _).mono ?_
              rintro e w4 ⟨rfl, hb4⟩
              replace hb4 := undrew hb4
              have hY4 : Arr w4 D u.l := hY3.below hb4 hDlt
              have hA4 : Arr w4 w.heap.size q.l := hA3.below hb4 hlS
              have hB4 : Below w.heap.size w w4 := hB3.trans (hb4.mono hB3.size)
              refine hK.out _ _ hY4 (fun _ => ?_)
              clear hK hb4
              refine wpAnyH_ready (rs := [3]) (by kernel_rfl) (by simp) ?_
              refine AllReadyH.cons rfl (fun K hK => ?_) AllReadyH.nil
              go_simp
              refine (ptimes_raw u⁻¹ q _).mono ?_
              rintro e w5 ⟨rfl, hb5⟩
              have hY5 : Arr w5 D u.l := hY4.below hb5 hY4.lt
              have hA5 : Arr w5 w.heap.size q.l := hA4.below hb5 hA4.lt
              have hB5 : Below w.heap.size w w5 := hB4.trans (hb5.mono hB4.size)
              refine hK.out _ _ hY5 (fun _ => ?_)
              clear hK hb5
              refine wpAnyH_ready (rs := [4]) (by kernel_rfl) (by simp) ?_
              refine AllReadyH.cons rfl (fun K hK => ?_) AllReadyH.nil
              refine step_store_arr rfl _ _ rfl w.heap.size q.l (u⁻¹ * q).l hA5 rfl rfl (u⁻¹ * q).len ?_
              intro w6 hA6 hg6
              refine hK.out _ _ (hY5.kept hg6 (fun e => hSD (Option.some.inj e))) (fun _ => ?_)
              clear hK
              have hB6 := hB5.grown hg6 hB5.size (fun k h => by have := Option.some.inj h; omega)
              refine wpAnyH_done (by kernel_rfl) ?_ _
              go_wp2
              go_roundw
              case rel =>
                have hfin : ∃ (j' : Nat) (q' : Pm), k ≤ j' ∧ j' ≤ C.length ∧ Value.int .i64 (((j - k : Nat) : Int) + 1) = .int .i64 ((j' - k : Nat) : Int) ∧ Arr w6 w.heap.size q'.l ∧ Hid (hasC (C.drop j') q' = hasC (C.drop k) p) ∧ Below w.heap.size w w6 :=
                  ⟨j + 1, u⁻¹ * q, by omega, by omega, by congr 1; omega, hA6, HE, hB6⟩
                first
                  | exact hfin
                  | ((repeat apply Exists.intro); exact ⟨hfin, rfl⟩)
              case measure => simp [intOf]; omega
      · obtain rfl : j = C.length := by omega
        have HE : Hid (hasC (C.drop k) p = true) := by show _ = _; rw [← hh.out, List.drop_length]; rfl
        go_wp2
        go_ret
        exact ⟨by rw [HE.out]; rfl, hbw⟩
end Go.Proofs.Ytbddhpbeekioiaa
