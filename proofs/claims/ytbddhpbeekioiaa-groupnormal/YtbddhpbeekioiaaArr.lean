/- Rows of twelve as arrays; contracts: rounds, pack, times, back, unpack. -/
import Derived.Test.YtbddhpbeekioiaaChn
import Derived.Deep.WholeRow
import Derived.Deep.MidRow
namespace Go.Proofs.Ytbddhpbeekioiaa
open Go.RowKit

/-- Numbers as the cells of an array of int8. -/
def i8s (zs : List Int) : Array Value := (zs.map (Value.int .i8)).toArray

/-- A row as an array's value. -/
def pv (x : Pm) : Value := .agg (i8s x.l)

theorem i8s_size (zs : List Int) : (i8s zs).size = zs.length := by simp [i8s]

theorem i8s_get {zs : List Int} {j : Nat} (h : j < zs.length) : (i8s zs)[j]? = some (.int .i8 (zs.getD j 0)) := by
  simp [i8s, List.getD, h]

theorem i8s_one (zs : List Int) : (i8s zs).all (·.oneCell') = true := by
  rw [Array.all_eq_true_iff_forall_mem]
  intro v hv
  simp [i8s] at hv
  obtain ⟨a, _, rfl⟩ := hv
  rfl

/-- A block that is an array of twelve int8. -/
def Arr (w : World) (b : Nat) (zs : List Int) : Prop := w.heap[b]? = some (.cells (i8s zs) 92) ∧ zs.length = 12

theorem Try.info90 : (Try.prog.info? 90).map (fun i => (i.zero, i.size, i.bytes)) = some (some (.int .i8 0), 1, 1) := by kernel_rfl

theorem Try.size92 : (Try.prog.info? 92).map (·.size) = some 12 := by kernel_rfl

theorem Arr.lt {w : World} {b : Nat} {zs : List Int} (h : Arr w b zs) : b < w.heap.size := (Array.getElem?_eq_some_iff.1 h.1).1

theorem Arr.cell {w : World} {b j : Nat} {zs : List Int} (h : Arr w b zs) (hj : j < 12) : w.cell? ⟨b, j, none⟩ = some (.int .i8 (zs.getD j 0)) ∧ w.frozen? ⟨b, j, none⟩ = false := by
  obtain ⟨h1, h2⟩ := h
  constructor
  · rw [cell_of_row _ _ j _ _ _ h1]; exact i8s_get (by omega)
  · simp [World.frozen?, h1]

theorem Arr.at {w : World} {b j : Nat} {zs : List Int} (h : Arr w b zs) (hj : j < 12) : ∃ y, Hid (zs.getD j 0 = y) ∧ w.cell? ⟨b, j, none⟩ = some (.int .i8 y) ∧ w.frozen? ⟨b, j, none⟩ = false :=
  ⟨_, rfl, (h.cell hj).1, (h.cell hj).2⟩

theorem i8s_set (zs : List Int) (k : Nat) (y : Int) : (i8s zs).setIfInBounds k (.int .i8 y) = i8s (zs.set k y) := by
  apply Array.toList_inj.1
  simp [i8s]

theorem Arr.set {w : World} {b k : Nat} {zs : List Int} (h : Arr w b zs) (y : Int) : Arr (w.setCell ⟨b, k, none⟩ (.int .i8 y)) b (zs.set k y) := by
  refine ⟨?_, by rw [List.length_set]; exact h.2⟩
  rw [← i8s_set]
  simp [World.setCell, Array.getElem?_modify, h.1]

theorem Arr.kept {w w' : World} {b : Nat} {zs : List Int} {row : Option Nat} (h : Arr w b zs) (hg : w.grownBy w' row) (hr : row ≠ some b) : Arr w' b zs :=
  ⟨(hg.block b h.lt (fun e => hr e.symm)).trans h.1, h.2⟩

theorem Arr.alloc {w : World} {b : Nat} {zs : List Int} (h : Arr w b zs) (o : Obj) : Arr (w.alloc o) b zs := ⟨by rw [Below.heap_alloc w o b h.lt]; exact h.1, h.2⟩

theorem Arr.drew {w : World} {b : Nat} {zs : List Int} (h : Arr w b zs) : Arr w.drew b zs := h

theorem Arr.below {w w' : World} {b B : Nat} {zs : List Int} (h : Arr w b zs) (hb : Below B w w') (hB : b < B) : Arr w' b zs := ⟨by rw [hb.block b hB]; exact h.1, h.2⟩

theorem Arr.new (w : World) (zs : List Int) (hl : zs.length = 12) : Arr (w.alloc (.cells (i8s zs) 92)) w.heap.size zs := ⟨heap_alloc_last w _, hl⟩

theorem Arr.range {w : World} {b : Nat} {zs : List Int} (h : Arr w b zs) : w.rangeAt b 0 (zs.map (Value.int .i8)) := by
  intro j v hv
  have hj : j < zs.length := by have := (List.getElem?_eq_some_iff.1 hv).1; simpa using this
  rw [Nat.zero_add, (h.cell (by rw [← h.2]; exact hj)).1]
  rw [← hv]
  simp [List.getD, hj]

def zeros12 : List Int := [0, 0, 0, 0, 0, 0, 0, 0, 0, 0, 0, 0]

theorem zeros_new (w : World) : Arr (w.alloc (.cells #[.int .i8 0, .int .i8 0, .int .i8 0, .int .i8 0, .int .i8 0, .int .i8 0, .int .i8 0, .int .i8 0, .int .i8 0, .int .i8 0, .int .i8 0, .int .i8 0] 92)) w.heap.size zeros12 :=
  Arr.new w zeros12 rfl

/-- The whole array is read. -/
theorem wpList_load_arr {ops : Array Oper} {rest : List Oper} {op : Oper} {a : Act} {w : World} {Q : Exit → Act → World → Prop} (hgd : op.guard = none) (x : Operand) (ho : op.op = .load 92 x)
    (b : Nat) (zs : List Int) (hA : Arr w b zs) (hx : a.eval x = .pointer (some ⟨b, 0, none⟩))
    (h : wpList Try.prog ops Q rest (a.put op.dst (.agg (i8s zs))) w) : wpList Try.prog ops Q (op :: rest) a w :=
  wpList_load_mid hgd _ x ho b 0 hx (zs.map (Value.int .i8)) _ hA.range Try.underlying92 rfl (by rw [Try.size92, List.length_map, hA.2]) h

theorem run_load_arr {w : World} {b : Nat} {zs : List Int} (hA : Arr w b zs) : (Instr.loadAt 92 (.pointer (some ⟨b, 0, none⟩))).run Try.prog w = .ok (.agg (i8s zs)) w :=
  run_loadAt_mid w b 0 _ (zs.map (Value.int .i8)) _ hA.range Try.underlying92 rfl (by rw [Try.size92, List.length_map, hA.2])

/-- .. and written. -/
theorem run_store_arr {w : World} {b : Nat} {zs ys : List Int} (hA : Arr w b zs) (hl : ys.length = 12) : ∃ w', (Instr.storeAt 92 (.pointer (some ⟨b, 0, none⟩)) (.agg (i8s ys))).run Try.prog w = .ok () w' ∧ Arr w' b ys ∧ w.grownBy w' (some b) := by
  refine ⟨w.setRow b (i8s ys), ?_, ⟨?_, hl⟩, ⟨rfl, rfl, rfl, by simp [World.setRow], fun i hi hne => ?_⟩⟩
  · simp only [Instr.storeAt, Instr.sureAddr, Sem.run_bind, Sem.run_pure, Result.andThen]
    exact run_storeVar_row w b _ _ _ _ hA.1 (by rw [Try.size92, i8s_size, hl]) (by rw [i8s_size, i8s_size, hl, hA.2]) (i8s_one ys)
  · simp [World.setRow, Array.getElem?_modify, hA.1]
  · simp only [World.setRow, Array.getElem?_modify]
    rw [if_neg (fun e => hne (by rw [e]))]

theorem wpList_store_arr {ops : Array Oper} {rest : List Oper} {op : Oper} {a : Act} {w : World} {Q : Exit → Act → World → Prop} (hgd : op.guard = none) (x y : Operand) (ho : op.op = .store 92 x y)
    (b : Nat) (zs ys : List Int) (hA : Arr w b zs) (hx : a.eval x = .pointer (some ⟨b, 0, none⟩)) (hy : a.eval y = .agg (i8s ys)) (hl : ys.length = 12)
    (h : ∀ w', Arr w' b ys → w.grownBy w' (some b) → wpList Try.prog ops Q rest (a.put op.dst undef) w') : wpList Try.prog ops Q (op :: rest) a w := by
  refine wpList_plain hgd fun K hK => ?_
  obtain ⟨w', hrun, h1, h2⟩ := run_store_arr (ys := ys) hA hl
  unfold Oper.wp execOp
  simp only [ho, hx, hy, hrun, Sem.run_bind, Sem.run_pure, Result.andThen_ok]
  exact hK _ _ (h w' h1 h2)

theorem run_loadVar_arr {w : World} {b : Nat} {zs : List Int} (hA : Arr w b zs) : (loadVar 92 ⟨b, 0, none⟩).run Try.prog w = .ok (.agg (i8s zs)) w :=
  run_loadVar_mid w b 0 _ (zs.map (Value.int .i8)) _ hA.range Try.underlying92 rfl (by rw [Try.size92, List.length_map, hA.2])

theorem Arr.set_other {w : World} {b b' k : Nat} {zs : List Int} (h : Arr w b zs) (hne : b ≠ b') (u : Value) : Arr (w.setCell ⟨b', k, none⟩ u) b zs :=
  ⟨by rw [Below.heap_setCell _ _ _ _ (by exact hne)]; exact h.1, h.2⟩

theorem eq_one {zs : List Int} (hl : zs.length = 12) (h : ∀ j, j < 12 → zs.getD j 0 = (j : Int)) : zs = (1 : Pm).l := by rw [Pm.one_l]; exact eq_rnd hl h

theorem run_index_arr {ys : List Int} (hl : ys.length = 12) {k : Nat} (hk : k < 12) (w : World) : (Instr.index 92 (.agg (i8s ys)) (.int .i64 (k : Int))).run Try.prog w = .ok (.int .i8 (ys.getD k 0)) w := by
  have h1 : (0 : Int) ≤ (k : Int) ∧ (k : Int) < ((12 : Nat) : Int) := by omega
  have h2 := i8s_get (zs := ys) (j := k) (by omega)
  obtain ⟨i0, hi, hz0, hz1, hz2⟩ := info_parts Try.info90
  have hs : (sizeOf 90).run Try.prog w = .ok 1 w := by simp [sizeOf, typeInfo, hi, hz1]
  have ha : (isAgg 90).run Try.prog w = .ok false w := by
    unfold isAgg
    rw [Sem.run_bind, run_underlying Try.underlying90 w]
    rfl
  simp [Instr.index, run_underlying Try.underlying92, asIntOf, hs, h2, go_sem]
  omega

/-- The result that lies in a cell. -/
theorem ret_arr {fn : Func} {R : Ending → World → Prop} {a : Act} {w : World} {p : Tmp} {b : Nat} {zs : List Int} (h : fn.results = #[.cell p 92]) (hp : a.tmps.getD p undef = .pointer (some ⟨b, 0, none⟩)) (hA : Arr w b zs) (hd : a.defers = []) (hR : R (.returned (.agg (i8s zs))) w) : bodyPost Try.prog fn R .ret a w :=
  bodyPost_ret (results_cell_row h a.tmps w b 92 (i8s zs) (0, 0) _ hp hA.1 Try.underlying92 rfl (by rw [Try.size92, i8s_size, hA.2])) hd hR

theorem Arr.new1 (w : World) (o1 : Obj) {zs : List Int} (hl : zs.length = 12) : Arr ((w.alloc o1).alloc (.cells (i8s zs) 92)) (w.heap.size + 1) zs := by
  have := Arr.new (w.alloc o1) zs hl
  simpa using this
theorem Arr.new2 (w : World) (o1 o2 : Obj) {zs : List Int} (hl : zs.length = 12) : Arr (((w.alloc o1).alloc o2).alloc (.cells (i8s zs) 92)) (w.heap.size + 2) zs := by
  have := Arr.new1 (w.alloc o1) o2 hl
  simpa using this
theorem Arr.new3 (w : World) (o1 o2 o3 : Obj) {zs : List Int} (hl : zs.length = 12) : Arr ((((w.alloc o1).alloc o2).alloc o3).alloc (.cells (i8s zs) 92)) (w.heap.size + 3) zs := by
  have := Arr.new2 (w.alloc o1) o2 o3 hl
  simpa using this

set_option maxRecDepth 20000 in
set_option maxHeartbeats 1000000 in
theorem prounds_ok (w : World) : Calls Try.prog 67 #[] w fun e w' => e = .returned (pv 1) ∧ Below w.heap.size w w' := by
  go_enter Try.func67, Try.ntmps67
  go_wp2
  go_loopw [3] (fun i wr => ∃ (k : Nat) (zs : List Int), k ≤ 12 ∧ i = .int .i64 k ∧ Arr wr (w.heap.size + 1) zs ∧ Arr wr w.heap.size zeros12 ∧ Hid (∀ j, j < k → zs.getD j 0 = (j : Int)) ∧ Below w.heap.size w wr) (fun i _ => 12 - (intOf i).toNat)
  case atStart => exact ⟨0, zeros12, by omega, rfl, by have := zeros_new (w.alloc (.cells (i8s zeros12) 92)); simpa [i8s, zeros12] using this, (zeros_new w).alloc _, fun j hj => by omega, ((Below.refl _ _).alloc (Nat.le_refl _) _).alloc (by simp) _⟩
  case round =>
    obtain ⟨k, zs, hk, rfl, hA, hR, hz, hbw⟩ := hrel
    by_cases hlt : k < 12
    · obtain ⟨y, hy, hcx, hfx⟩ := hA.at hlt
      have HZ : Hid (∀ j, j < k + 1 → (zs.set k (k : Int)).getD j 0 = (j : Int)) := by
        intro j hj
        rw [getD_set (by rw [hA.2]; exact hlt)]
        split
        · omega
        · exact hz.out j (by omega)
      go_wp2
      go_roundw
      case rel => exact ⟨k + 1, _, by omega, by go_num, hA.set _, hR.set_other (by omega) _, HZ, hbw.setCell (by simp) _⟩
      case measure => simp [intOf]; omega
    · have hl := hA.2
      have HE := hide (eq_one hl (fun j hj => hz.out j (by omega)))
      go_wp2_with (first | refine wpList_load_arr rfl _ rfl _ _ hA rfl ?_ | (refine wpList_store_arr rfl _ _ rfl _ _ _ hR rfl rfl hl ?_; intro w1 hR1 hg1))
      go_wp2
      exact ret_arr rfl rfl hR1 rfl ⟨by rw [HE.out]; rfl, hbw.grown hg1 hbw.size (fun k h => by cases h; exact Nat.le_refl _)⟩

set_option maxRecDepth 20000 in
set_option maxHeartbeats 1000000 in
theorem ptimes_ok (x y : Pm) (w : World) : Calls Try.prog 69 #[pv x, pv y] w fun e w' => e = .returned (pv (x * y)) ∧ Below w.heap.size w w' := by
  unfold pv
  have hx := x.len
  have hy := y.len
  have hB : ∀ o1 o2 o3 o4 : Obj, Below w.heap.size w ((((w.alloc o1).alloc o2).alloc o3).alloc o4) := fun o1 o2 o3 o4 => ((((Below.refl _ _).alloc (Nat.le_refl _) o1).alloc (by simp) o2).alloc (by simp; omega) o3).alloc (by simp; omega) o4
  go_enter Try.func69, Try.ntmps69
  go_wp2_with (refine wpList_load_arr rfl _ rfl (w.heap.size + 1) y.l (((Arr.new1 w _ hy).alloc _).alloc _) rfl ?_)
  go_loopw [9] (fun i wr => ∃ (k : Nat) (zs : List Int), k ≤ 12 ∧ i = .int .i64 k ∧ Arr wr w.heap.size x.l ∧ Arr wr (w.heap.size + 2) zeros12 ∧ Arr wr (w.heap.size + 3) zs ∧ Hid (∀ j, j < k → zs.getD j 0 = (x * y).l.getD j 0) ∧ Below w.heap.size w wr) (fun i _ => 12 - (intOf i).toNat)
  case atStart => exact ⟨0, zeros12, by omega, rfl, (((Arr.new w x.l hx).alloc _).alloc _).alloc _, (Arr.new2 w _ _ (zs := zeros12) rfl).alloc _, Arr.new3 w _ _ _ (zs := zeros12) rfl, fun j hj => by omega, hB _ _ _ _⟩
  case round =>
    obtain ⟨k, zs, hk, rfl, hX, hR, hA, hz, hbw⟩ := hrel
    by_cases hlt : k < 12
    · obtain ⟨u, hu, hcx, hfx⟩ := hA.at hlt
      have hq : y.l.getD k 0 = ((y.act k : Nat) : Int) := y.getD_act hlt
      have hm := y.act_lt hlt
      have hidx := fun w => run_index_arr hy hlt w
      rw [hq] at hidx
      obtain ⟨p, hp, hcp, _⟩ := hX.at hm
      have HZ : Hid (∀ j, j < k + 1 → (zs.set k p).getD j 0 = (x * y).l.getD j 0) := by
        intro j hj
        rw [getD_set (by rw [hA.2]; exact hlt)]
        split
        · rename_i e; subst e
          rw [(x * y).getD_act hlt, Pm.act_mul, ← x.getD_act hm, hp.out]
        · exact hz.out j (by omega)
      clear hp hq hu
      generalize y.act k = m at *
      go_wp2
      go_roundw
      case rel => exact ⟨k + 1, _, by omega, by go_num, hX.set_other (by omega) _, hR.set_other (by omega) _, hA.set _, HZ, hbw.setCell (by simp; omega) _⟩
      case measure => simp [intOf]; omega
    · have hl := hA.2
      have HE : Hid (zs = (x * y).l) := ext_getD (by rw [hl, (x * y).len]) (fun j hj => hz.out j (by omega))
      go_wp2_with (first | refine wpList_load_arr rfl _ rfl _ _ hA rfl ?_ | (refine wpList_store_arr rfl _ _ rfl _ _ _ hR rfl rfl hl ?_; intro w1 hR1 hg1))
      go_wp2
      exact ret_arr rfl rfl hR1 rfl ⟨by rw [HE.out], hbw.grown hg1 hbw.size (fun k h => by cases h; omega)⟩

set_option maxRecDepth 20000 in
set_option maxHeartbeats 1000000 in
theorem pback_ok (x : Pm) (w : World) : Calls Try.prog 79 #[pv x] w fun e w' => e = .returned (pv x⁻¹) ∧ Below w.heap.size w w' := by
  unfold pv
  have hx := x.len
  have hB : ∀ o1 o2 o3 : Obj, Below w.heap.size w (((w.alloc o1).alloc o2).alloc o3) := fun o1 o2 o3 => (((Below.refl _ _).alloc (Nat.le_refl _) o1).alloc (by simp) o2).alloc (by simp; omega) o3
  go_enter Try.func79, Try.ntmps79
  go_wp2_with (refine wpList_load_arr rfl _ rfl w.heap.size x.l (((Arr.new w x.l hx).alloc _).alloc _) rfl ?_)
  go_loopw [7] (fun i wr => ∃ (k : Nat) (zs : List Int), k ≤ 12 ∧ i = .int .i64 k ∧ Arr wr (w.heap.size + 1) zeros12 ∧ Arr wr (w.heap.size + 2) zs ∧ Hid (∀ j, j < k → zs.getD (x.act j) 0 = (j : Int)) ∧ Below w.heap.size w wr) (fun i _ => 12 - (intOf i).toNat)
  case atStart => exact ⟨0, zeros12, by omega, rfl, (Arr.new1 w _ (zs := zeros12) rfl).alloc _, Arr.new2 w _ _ (zs := zeros12) rfl, fun j hj => by omega, hB _ _ _⟩
  case round =>
    obtain ⟨k, zs, hk, rfl, hR, hA, hz, hbw⟩ := hrel
    by_cases hlt : k < 12
    · have hq : x.l.getD k 0 = ((x.act k : Nat) : Int) := x.getD_act hlt
      have hm := x.act_lt hlt
      have hidx := fun w => run_index_arr hx hlt w
      rw [hq] at hidx
      obtain ⟨u, hu, hcx, hfx⟩ := hA.at hm
      have HZ : Hid (∀ j, j < k + 1 → (zs.set (x.act k) (k : Int)).getD (x.act j) 0 = (j : Int)) := by
        intro j hj
        rw [getD_set (by rw [hA.2]; exact hm)]
        split
        · rename_i e; have := x.act_inj e; omega
        · rename_i e
          refine hz.out j ?_
          rcases Nat.lt_or_ge j k with h | h
          · exact h
          · exact absurd (by rw [show j = k from by omega]) e
      clear hq hu
      generalize x.act k = m at *
      go_wp2
      go_roundw
      case rel => exact ⟨k + 1, _, by omega, by go_num, hR.set_other (by omega) _, hA.set _, HZ, hbw.setCell (by simp; omega) _⟩
      case measure => simp [intOf]; omega
    · have hl := hA.2
      have HE : Hid (zs = (x⁻¹).l) := Pm.undoes_eq ⟨by rw [hl, hx], fun j hj => by
        rw [hx] at hj
        rw [x.getD_act hj, Int.toNat_natCast]
        exact hz.out j (by omega)⟩
      go_wp2_with (first | refine wpList_load_arr rfl _ rfl _ _ hA rfl ?_ | (refine wpList_store_arr rfl _ _ rfl _ _ _ hR rfl rfl hl ?_; intro w1 hR1 hg1))
      go_wp2
      exact ret_arr rfl rfl hR1 rfl ⟨by rw [HE.out], hbw.grown hg1 hbw.size (fun k h => by cases h; omega)⟩

end Go.Proofs.Ytbddhpbeekioiaa
