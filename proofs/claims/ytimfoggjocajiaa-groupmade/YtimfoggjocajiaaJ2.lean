/- Joined: Arr, ArrP, Mp, KMp, KMw, Bfs, GeW, GeX, RefA, Szs. -/
import Derived.Test.YtimfoggjocajiaaJ1
import Derived.Deep.WholeRow
import Derived.Deep.MidRow
import Derived.Maps.OwnSet
import Derived.DeepKeys5
import Derived.Laws.StructEq
/- Rows of twelve as arrays; contracts: rounds, pack, times, back, unpack. -/
namespace Go.Proofs.Ytimfoggjocajiaa
open Go.RowKit

/-- Numbers as the cells of an array of int8. -/
def i8s (zs : List Int) : Array Value := (zs.map (Value.int .i8)).toArray

/-- A row as an array's value. -/
def pv (x : Pm) : Value := .agg (i8s x.l)

theorem i8s_size (zs : List Int) : (i8s zs).size = zs.length := by simp [i8s]

theorem i8s_get {zs : List Int} {j : Nat} (h : j < zs.length) : (i8s zs)[j]? = some (.int .i8 (zs.getD j 0)) := by
  simp [i8s, List.getD, h]

theorem i8s_one (zs : List Int) : (i8s zs).all (·.oneCell') = true := by
  rw [Array.all_eq_true_iff_forall_mem]
  intro v hv
  simp [i8s] at hv
  obtain ⟨a, _, rfl⟩ := hv
  rfl

/-- A block that is an array of twelve int8. -/
def Arr (w : World) (b : Nat) (zs : List Int) : Prop := w.heap[b]? = some (.cells (i8s zs) 91) ∧ zs.length = 12

theorem Try.info89 : (Try.prog.info? 89).map (fun i => (i.zero, i.size, i.bytes)) = some (some (.int .i8 0), 1, 1) := by kernel_rfl

theorem Try.size91 : (Try.prog.info? 91).map (·.size) = some 12 := by kernel_rfl

theorem Arr.lt {w : World} {b : Nat} {zs : List Int} (h : Arr w b zs) : b < w.heap.size := (Array.getElem?_eq_some_iff.1 h.1).1

theorem Arr.cell {w : World} {b j : Nat} {zs : List Int} (h : Arr w b zs) (hj : j < 12) : w.cell? ⟨b, j, none⟩ = some (.int .i8 (zs.getD j 0)) ∧ w.frozen? ⟨b, j, none⟩ = false := by
  obtain ⟨h1, h2⟩ := h
  constructor
  · rw [cell_of_row _ _ j _ _ _ h1]; exact i8s_get (by omega)
  · simp [World.frozen?, h1]

theorem Arr.at {w : World} {b j : Nat} {zs : List Int} (h : Arr w b zs) (hj : j < 12) : ∃ y, Hid (zs.getD j 0 = y) ∧ w.cell? ⟨b, j, none⟩ = some (.int .i8 y) ∧ w.frozen? ⟨b, j, none⟩ = false :=
  ⟨_, rfl, (h.cell hj).1, (h.cell hj).2⟩

theorem i8s_set (zs : List Int) (k : Nat) (y : Int) : (i8s zs).setIfInBounds k (.int .i8 y) = i8s (zs.set k y) := by
  apply Array.toList_inj.1
  simp [i8s]

theorem Arr.set {w : World} {b k : Nat} {zs : List Int} (h : Arr w b zs) (y : Int) : Arr (w.setCell ⟨b, k, none⟩ (.int .i8 y)) b (zs.set k y) := by
  refine ⟨?_, by rw [List.length_set]; exact h.2⟩
  rw [← i8s_set]
  simp [World.setCell, Array.getElem?_modify, h.1]

theorem Arr.kept {w w' : World} {b : Nat} {zs : List Int} {row : Option Nat} (h : Arr w b zs) (hg : w.grownBy w' row) (hr : row ≠ some b) : Arr w' b zs :=
  ⟨(hg.block b h.lt (fun e => hr e.symm)).trans h.1, h.2⟩

theorem Arr.alloc {w : World} {b : Nat} {zs : List Int} (h : Arr w b zs) (o : Obj) : Arr (w.alloc o) b zs := ⟨by rw [Below.heap_alloc w o b h.lt]; exact h.1, h.2⟩

theorem Arr.drew {w : World} {b : Nat} {zs : List Int} (h : Arr w b zs) : Arr w.drew b zs := h

theorem Arr.below {w w' : World} {b B : Nat} {zs : List Int} (h : Arr w b zs) (hb : Below B w w') (hB : b < B) : Arr w' b zs := ⟨by rw [hb.block b hB]; exact h.1, h.2⟩

theorem Arr.new (w : World) (zs : List Int) (hl : zs.length = 12) : Arr (w.alloc (.cells (i8s zs) 91)) w.heap.size zs := ⟨heap_alloc_last w _, hl⟩

theorem Arr.range {w : World} {b : Nat} {zs : List Int} (h : Arr w b zs) : w.rangeAt b 0 (zs.map (Value.int .i8)) := by
  intro j v hv
  have hj : j < zs.length := by have := (List.getElem?_eq_some_iff.1 hv).1; simpa using this
  rw [Nat.zero_add, (h.cell (by rw [← h.2]; exact hj)).1]
  rw [← hv]
  simp [List.getD, hj]

def zeros12 : List Int := [0, 0, 0, 0, 0, 0, 0, 0, 0, 0, 0, 0]

theorem zeros_new (w : World) : Arr (w.alloc (.cells #[.int .i8 0, .int .i8 0, .int .i8 0, .int .i8 0, .int .i8 0, .int .i8 0, .int .i8 0, .int .i8 0, .int .i8 0, .int .i8 0, .int .i8 0, .int .i8 0] 91)) w.heap.size zeros12 :=
  Arr.new w zeros12 rfl

/-- The whole array is read. -/
theorem wpList_load_arr {ops : Array Oper} {rest : List Oper} {op : Oper} {a : Act} {w : World} {Q : Exit → Act → World → Prop} (hgd : op.guard = none) (x : Operand) (ho : op.op = .load 91 x)
    (b : Nat) (zs : List Int) (hA : Arr w b zs) (hx : a.eval x = .pointer (some ⟨b, 0, none⟩))
    (h : wpList Try.prog ops Q rest (a.put op.dst (.agg (i8s zs))) w) : wpList Try.prog ops Q (op :: rest) a w :=
  wpList_load_mid hgd _ x ho b 0 hx (zs.map (Value.int .i8)) _ hA.range Try.underlying91 rfl (by rw [Try.size91, List.length_map, hA.2]) h

theorem run_load_arr {w : World} {b : Nat} {zs : List Int} (hA : Arr w b zs) : (Instr.loadAt 91 (.pointer (some ⟨b, 0, none⟩))).run Try.prog w = .ok (.agg (i8s zs)) w :=
  run_loadAt_mid w b 0 _ (zs.map (Value.int .i8)) _ hA.range Try.underlying91 rfl (by rw [Try.size91, List.length_map, hA.2])

/-- .. and written. -/
theorem run_store_arr {w : World} {b : Nat} {zs ys : List Int} (hA : Arr w b zs) (hl : ys.length = 12) : ∃ w', (Instr.storeAt 91 (.pointer (some ⟨b, 0, none⟩)) (.agg (i8s ys))).run Try.prog w = .ok () w' ∧ Arr w' b ys ∧ w.grownBy w' (some b) := by
  refine ⟨w.setRow b (i8s ys), ?_, ⟨?_, hl⟩, ⟨rfl, rfl, rfl, by simp [World.setRow], fun i hi hne => ?_⟩⟩
  · simp only [Instr.storeAt, Instr.sureAddr, Sem.run_bind, Sem.run_pure, Result.andThen]
    exact run_storeVar_row w b _ _ _ _ hA.1 (by rw [Try.size91, i8s_size, hl]) (by rw [i8s_size, i8s_size, hl, hA.2]) (i8s_one ys)
  · simp [World.setRow, Array.getElem?_modify, hA.1]
  · simp only [World.setRow, Array.getElem?_modify]
    rw [if_neg (fun e => hne (by rw [e]))]

theorem wpList_store_arr {ops : Array Oper} {rest : List Oper} {op : Oper} {a : Act} {w : World} {Q : Exit → Act → World → Prop} (hgd : op.guard = none) (x y : Operand) (ho : op.op = .store 91 x y)
    (b : Nat) (zs ys : List Int) (hA : Arr w b zs) (hx : a.eval x = .pointer (some ⟨b, 0, none⟩)) (hy : a.eval y = .agg (i8s ys)) (hl : ys.length = 12)
    (h : ∀ w', Arr w' b ys → w.grownBy w' (some b) → wpList Try.prog ops Q rest (a.put op.dst undef) w') : wpList Try.prog ops Q (op :: rest) a w := by
  refine wpList_plain hgd fun K hK => ?_
  obtain ⟨w', hrun, h1, h2⟩ := run_store_arr (ys := ys) hA hl
  unfold Oper.wp execOp
  simp only [ho, hx, hy, hrun, Sem.run_bind, Sem.run_pure, Result.andThen_ok]
  exact hK _ _ (h w' h1 h2)

theorem run_loadVar_arr {w : World} {b : Nat} {zs : List Int} (hA : Arr w b zs) : (loadVar 91 ⟨b, 0, none⟩).run Try.prog w = .ok (.agg (i8s zs)) w :=
  run_loadVar_mid w b 0 _ (zs.map (Value.int .i8)) _ hA.range Try.underlying91 rfl (by rw [Try.size91, List.length_map, hA.2])

theorem Arr.set_other {w : World} {b b' k : Nat} {zs : List Int} (h : Arr w b zs) (hne : b ≠ b') (u : Value) : Arr (w.setCell ⟨b', k, none⟩ u) b zs :=
  ⟨by rw [Below.heap_setCell _ _ _ _ (by exact hne)]; exact h.1, h.2⟩

theorem eq_one {zs : List Int} (hl : zs.length = 12) (h : ∀ j, j < 12 → zs.getD j 0 = (j : Int)) : zs = (1 : Pm).l := by rw [Pm.one_l]; exact eq_rnd hl h

theorem run_index_arr {ys : List Int} (hl : ys.length = 12) {k : Nat} (hk : k < 12) (w : World) : (Instr.index 91 (.agg (i8s ys)) (.int .i64 (k : Int))).run Try.prog w = .ok (.int .i8 (ys.getD k 0)) w := by
  have h1 : (0 : Int) ≤ (k : Int) ∧ (k : Int) < ((12 : Nat) : Int) := by omega
  have h2 := i8s_get (zs := ys) (j := k) (by omega)
  obtain ⟨i0, hi, hz0, hz1, hz2⟩ := info_parts Try.info89
  have hs : (sizeOf 89).run Try.prog w = .ok 1 w := by simp [sizeOf, typeInfo, hi, hz1]
  have ha : (isAgg 89).run Try.prog w = .ok false w := by
    unfold isAgg
    rw [Sem.run_bind, run_underlying Try.underlying89 w]
    rfl
  simp [Instr.index, run_underlying Try.underlying91, asIntOf, hs, h2, go_sem]
  omega

/-- The result that lies in a cell. -/
theorem ret_arr {fn : Func} {R : Ending → World → Prop} {a : Act} {w : World} {p : Tmp} {b : Nat} {zs : List Int} (h : fn.results = #[.cell p 91]) (hp : a.tmps.getD p undef = .pointer (some ⟨b, 0, none⟩)) (hA : Arr w b zs) (hd : a.defers = []) (hR : R (.returned (.agg (i8s zs))) w) : bodyPost Try.prog fn R .ret a w :=
  bodyPost_ret (results_cell_row h a.tmps w b 91 (i8s zs) (0, 0) _ hp hA.1 Try.underlying91 rfl (by rw [Try.size91, i8s_size, hA.2])) hd hR

theorem Arr.new1 (w : World) (o1 : Obj) {zs : List Int} (hl : zs.length = 12) : Arr ((w.alloc o1).alloc (.cells (i8s zs) 91)) (w.heap.size + 1) zs := by
  have := Arr.new (w.alloc o1) zs hl
  simpa using this
theorem Arr.new2 (w : World) (o1 o2 : Obj) {zs : List Int} (hl : zs.length = 12) : Arr (((w.alloc o1).alloc o2).alloc (.cells (i8s zs) 91)) (w.heap.size + 2) zs := by
  have := Arr.new1 (w.alloc o1) o2 hl
  simpa using this
theorem Arr.new3 (w : World) (o1 o2 o3 : Obj) {zs : List Int} (hl : zs.length = 12) : Arr ((((w.alloc o1).alloc o2).alloc o3).alloc (.cells (i8s zs) 91)) (w.heap.size + 3) zs := by
  have := Arr.new2 (w.alloc o1) o2 o3 hl
  simpa using this

set_option maxRecDepth 20000 in
set_option maxHeartbeats 1000000 in
theorem prounds_ok (w : World) : Calls Try.prog 65 #[] w fun e w' => e = .returned (pv 1) ∧ Below w.heap.size w w' := by
  go_enter Try.func65, Try.ntmps65
  go_wp2
  go_loopw [3] (fun i wr => ∃ (k : Nat) (zs : List Int), k ≤ 12 ∧ i = .int .i64 k ∧ Arr wr (w.heap.size + 1) zs ∧ Arr wr w.heap.size zeros12 ∧ Hid (∀ j, j < k → zs.getD j 0 = (j : Int)) ∧ Below w.heap.size w wr) (fun i _ => 12 - (intOf i).toNat)
  case atStart => exact ⟨0, zeros12, by omega, rfl, by have := zeros_new (w.alloc (.cells (i8s zeros12) 91)); simpa [i8s, zeros12] using this, (zeros_new w).alloc _, fun j hj => by omega, ((Below.refl _ _).alloc (Nat.le_refl _) _).alloc (by simp) _⟩
  case round =>
    obtain ⟨k, zs, hk, rfl, hA, hR, hz, hbw⟩ := hrel
    by_cases hlt : k < 12
    · obtain ⟨y, hy, hcx, hfx⟩ := hA.at hlt
      have HZ : Hid (∀ j, j < k + 1 → (zs.set k (k : Int)).getD j 0 = (j : Int)) := by
        intro j hj
        rw [getD_set (by rw [hA.2]; exact hlt)]
        split
        · omega
        · exact hz.out j (by omega)
      go_wp2
      go_roundw
      case rel => exact ⟨k + 1, _, by omega, by go_num, hA.set _, hR.set_other (by omega) _, HZ, hbw.setCell (by simp) _⟩
      case measure => simp [intOf]; omega
    · have hl := hA.2
      have HE := hide (eq_one hl (fun j hj => hz.out j (by omega)))
      go_wp2_with (first | refine wpList_load_arr rfl _ rfl _ _ hA rfl ?_ | (refine wpList_store_arr rfl _ _ rfl _ _ _ hR rfl rfl hl ?_; intro w1 hR1 hg1))
      go_wp2
      exact ret_arr rfl rfl hR1 rfl ⟨by rw [HE.out]; rfl, hbw.grown hg1 hbw.size (fun k h => by cases h; exact Nat.le_refl _)⟩

set_option maxRecDepth 20000 in
set_option maxHeartbeats 1000000 in
theorem ptimes_ok (x y : Pm) (w : World) : Calls Try.prog 67 #[pv x, pv y] w fun e w' => e = .returned (pv (x * y)) ∧ Below w.heap.size w w' := by
  unfold pv
  have hx := x.len
  have hy := y.len
  have hB : ∀ o1 o2 o3 o4 : Obj, Below w.heap.size w ((((w.alloc o1).alloc o2).alloc o3).alloc o4) := fun o1 o2 o3 o4 => ((((Below.refl _ _).alloc (Nat.le_refl _) o1).alloc (by simp) o2).alloc (by simp; omega) o3).alloc (by simp; omega) o4
  go_enter Try.func67, Try.ntmps67
  go_wp2_with (refine wpList_load_arr rfl _ rfl (w.heap.size + 1) y.l (((Arr.new1 w _ hy).alloc _).alloc _) rfl ?_)
  go_loopw [9] (fun i wr => ∃ (k : Nat) (zs : List Int), k ≤ 12 ∧ i = .int .i64 k ∧ Arr wr w.heap.size x.l ∧ Arr wr (w.heap.size + 2) zeros12 ∧ Arr wr (w.heap.size + 3) zs ∧ Hid (∀ j, j < k → zs.getD j 0 = (x * y).l.getD j 0) ∧ Below w.heap.size w wr) (fun i _ => 12 - (intOf i).toNat)
  case atStart => exact ⟨0, zeros12, by omega, rfl, (((Arr.new w x.l hx).alloc _).alloc _).alloc _, (Arr.new2 w _ _ (zs := zeros12) rfl).alloc _, Arr.new3 w _ _ _ (zs := zeros12) rfl, fun j hj => by omega, hB _ _ _ _⟩
  case round =>
    obtain ⟨k, zs, hk, rfl, hX, hR, hA, hz, hbw⟩ := hrel
    by_cases hlt : k < 12
    · obtain ⟨u, hu, hcx, hfx⟩ := hA.at hlt
      have hq : y.l.getD k 0 = ((y.act k : Nat) : Int) := y.getD_act hlt
      have hm := y.act_lt hlt
      have hidx := fun w => run_index_arr hy hlt w
      rw [hq] at hidx
      obtain ⟨p, hp, hcp, _⟩ := hX.at hm
      have HZ : Hid (∀ j, j < k + 1 → (zs.set k p).getD j 0 = (x * y).l.getD j 0) := by
        intro j hj
        rw [getD_set (by rw [hA.2]; exact hlt)]
        split
        · rename_i e; subst e
          rw [(x * y).getD_act hlt, Pm.act_mul, ← x.getD_act hm, hp.out]
        · exact hz.out j (by omega)
      clear hp hq hu
      generalize y.act k = m at *
      go_wp2
      go_roundw
      case rel => exact ⟨k + 1, _, by omega, by go_num, hX.set_other (by omega) _, hR.set_other (by omega) _, hA.set _, HZ, hbw.setCell (by simp; omega) _⟩
      case measure => simp [intOf]; omega
    · have hl := hA.2
      have HE : Hid (zs = (x * y).l) := ext_getD (by rw [hl, (x * y).len]) (fun j hj => hz.out j (by omega))
      go_wp2_with (first | refine wpList_load_arr rfl _ rfl _ _ hA rfl ?_ | (refine wpList_store_arr rfl _ _ rfl _ _ _ hR rfl rfl hl ?_; intro w1 hR1 hg1))
      go_wp2
      exact ret_arr rfl rfl hR1 rfl ⟨by rw [HE.out], hbw.grown hg1 hbw.size (fun k h => by cases h; omega)⟩

set_option maxRecDepth 20000 in
set_option maxHeartbeats 1000000 in
theorem pback_ok (x : Pm) (w : World) : Calls Try.prog 111 #[pv x] w fun e w' => e = .returned (pv x⁻¹) ∧ Below w.heap.size w w' := by
  unfold pv
  have hx := x.len
  have hB : ∀ o1 o2 o3 : Obj, Below w.heap.size w (((w.alloc o1).alloc o2).alloc o3) := fun o1 o2 o3 => (((Below.refl _ _).alloc (Nat.le_refl _) o1).alloc (by simp) o2).alloc (by simp; omega) o3
  go_enter Try.func111, Try.ntmps111
  go_wp2_with (refine wpList_load_arr rfl _ rfl w.heap.size x.l (((Arr.new w x.l hx).alloc _).alloc _) rfl ?_)
  go_loopw [7] (fun i wr => ∃ (k : Nat) (zs : List Int), k ≤ 12 ∧ i = .int .i64 k ∧ Arr wr (w.heap.size + 1) zeros12 ∧ Arr wr (w.heap.size + 2) zs ∧ Hid (∀ j, j < k → zs.getD (x.act j) 0 = (j : Int)) ∧ Below w.heap.size w wr) (fun i _ => 12 - (intOf i).toNat)
  case atStart => exact ⟨0, zeros12, by omega, rfl, (Arr.new1 w _ (zs := zeros12) rfl).alloc _, Arr.new2 w _ _ (zs := zeros12) rfl, fun j hj => by omega, hB _ _ _⟩
  case round =>
    obtain ⟨k, zs, hk, rfl, hR, hA, hz, hbw⟩ := hrel
    by_cases hlt : k < 12
    · have hq : x.l.getD k 0 = ((x.act k : Nat) : Int) := x.getD_act hlt
      have hm := x.act_lt hlt
      have hidx := fun w => run_index_arr hx hlt w
      rw [hq] at hidx
      obtain ⟨u, hu, hcx, hfx⟩ := hA.at hm
      have HZ : Hid (∀ j, j < k + 1 → (zs.set (x.act k) (k : Int)).getD (x.act j) 0 = (j : Int)) := by
        intro j hj
        rw [getD_set (by rw [hA.2]; exact hm)]
        split
        · rename_i e; have := x.act_inj e; omega
        · rename_i e
          refine hz.out j ?_
          rcases Nat.lt_or_ge j k with h | h
          · exact h
          · exact absurd (by rw [show j = k from by omega]) e
      clear hq hu
      generalize x.act k = m at *
      go_wp2
      go_roundw
      case rel => exact ⟨k + 1, _, by omega, by go_num, hR.set_other (by omega) _, hA.set _, HZ, hbw.setCell (by simp; omega) _⟩
      case measure => simp [intOf]; omega
    · have hl := hA.2
      have HE : Hid (zs = (x⁻¹).l) := Pm.undoes_eq ⟨by rw [hl, hx], fun j hj => by
        rw [hx] at hj
        rw [x.getD_act hj, Int.toNat_natCast]
        exact hz.out j (by omega)⟩
      go_wp2_with (first | refine wpList_load_arr rfl _ rfl _ _ hA rfl ?_ | (refine wpList_store_arr rfl _ _ rfl _ _ _ hR rfl rfl hl ?_; intro w1 hR1 hg1))
      go_wp2
      exact ret_arr rfl rfl hR1 rfl ⟨by rw [HE.out], hbw.grown hg1 hbw.size (fun k h => by cases h; omega)⟩

end Go.Proofs.Ytimfoggjocajiaa

/- Contracts: pack, unpack. -/
namespace Go.Proofs.Ytimfoggjocajiaa
open Go.RowKit

theorem pack_step {xs : List Int} {k : Nat} (h1 : xs.length ≤ 12) (hk : k < xs.length) : (xs.take k ++ (rnd 12).drop k).set k (xs.getD k 0) = xs.take (k + 1) ++ (rnd 12).drop (k + 1) := by
  apply List.ext_getElem?
  intro i
  rw [List.getElem?_set, List.length_append, List.length_take, List.length_drop, rnd_length]
  by_cases e : k = i
  · subst e
    rw [if_pos rfl, if_pos (by omega), List.getElem?_append_left (by rw [List.length_take]; omega), List.getElem?_take]
    simp [List.getD, List.getElem?_eq_getElem hk]
  · rw [if_neg e]
    by_cases hi : i < k
    · rw [List.getElem?_append_left (by rw [List.length_take]; omega), List.getElem?_append_left (by rw [List.length_take]; omega), List.getElem?_take, List.getElem?_take, if_pos hi, if_pos (by omega)]
    · rw [List.getElem?_append_right (by rw [List.length_take]; omega), List.getElem?_append_right (by rw [List.length_take]; omega), List.getElem?_drop, List.getElem?_drop, List.length_take, List.length_take]
      congr 1
      omega

theorem below_alloc {w w1 : World} {o : Obj} (h : Below (w.alloc o).heap.size (w.alloc o) w1) : Below (w.heap.size + 1) (w.alloc o) w1 := by
  have e : (w.alloc o).heap.size = w.heap.size + 1 := by simp
  rwa [e] at h

set_option maxRecDepth 20000 in
set_option maxHeartbeats 1000000 in
theorem pack_ok (v : Value) (xs : List Int) (w : World) (hI : Ints w v xs) (hr : isRow xs) (h1 : 1 ≤ xs.length) (h12 : xs.length ≤ 12) : Calls Try.prog 60 #[v] w fun e w' => e = .returned (pv (pad xs)) ∧ Below w.heap.size w w' := by
  unfold pv
  have HP := hide (pad_l h12 hr)
  have HR := hide hr
  have hl1 := (1 : Pm).len
  have HL1 : Hid ((1 : Pm).l = rnd 12) := Pm.one_l
  clear hr
  rcases hI with ⟨rfl, p, c, rfl⟩ | ⟨b1, o1, cap1, rfl, h01, hcp1, hm1, hb1, hcell1⟩
  · simp at h1
  · have HC := hide hcell1
    clear hcell1
    go_enter Try.func60, Try.ntmps60
    go_wp2_with fail
    refine (prounds_ok _).mono ?_
    unfold pv
    rintro e w1 ⟨rfl, hb⟩
    replace hb := below_alloc hb
    have hR := (zeros_new w).below hb (by omega)
    have hB : Below w.heap.size w w1 := ((Below.refl _ _).alloc (Nat.le_refl _) _).trans (hb.mono (by omega))
    have hS : w.heap.size < w1.heap.size := by have := hb.size; simp at this; omega
    clear hb
    go_wp2_with (refine wpList_store_arr rfl _ _ rfl w1.heap.size zeros12 _ (zeros_new w1) rfl rfl hl1 ?_; intro w2 hA2 hg2)
    have hR2 := (hR.alloc _).kept hg2 (by intro e; injection e with e; omega)
    have hB2 := (hB.alloc (by omega) _).grown hg2 (by simp; omega) (fun k h => by cases h; omega)
    rw [HL1.out] at hA2
    generalize w1.heap.size = D at *
    clear hR hB hg2
    go_wp2
    go_loopw [9] (fun i wr => ∃ k : Nat, k ≤ xs.length ∧ i = .int .i64 k ∧ Arr wr w.heap.size zeros12 ∧ Arr wr D (xs.take k ++ (rnd 12).drop k) ∧ Below w.heap.size w wr) (fun i _ => 12 - (intOf i).toNat)
    case atStart => exact ⟨0, by omega, rfl, hR2, hA2, hB2⟩
    case round =>
      clear hR2 hA2 hB2
      obtain ⟨k, hk, rfl, hR, hA, hbw⟩ := hrel
      by_cases hlt : k < xs.length
      · obtain ⟨y, hy, hcx⟩ := cellAt HC.out hlt
        have hpr := HR.out.at hlt
        rw [show xs.getD k 0 = y from hy.out] at hpr
        obtain ⟨m, rfl⟩ := Int.eq_ofNat_of_zero_le hpr.1
        have hm12 : m < 12 := by omega
        have gp : wr.cell? ⟨b1, o1 + k, none⟩ = some (.int .i64 (m : Int)) := (hbw.cell (by exact hb1)).trans hcx
        obtain ⟨u, hu, hcu, hfu⟩ := hA.at (show k < 12 by omega)
        have HS := hide (pack_step h12 hlt)
        rw [show xs.getD k 0 = (m : Int) from hy.out] at HS
        clear hpr hcx hu
        go_wp2
        go_roundw
        case rel => exact ⟨k + 1, by omega, by go_num, hR.set_other (by omega) _, by rw [← HS.out]; exact hA.set _, hbw.setCell (by simp; omega) _⟩
        case measure => simp [intOf]; omega
      · obtain rfl : k = xs.length := by omega
        have hl := hA.2
        have HE : Hid (xs.take xs.length ++ (rnd 12).drop xs.length = (pad xs).l) := by show _ = _; rw [HP.out, List.take_length]
        rw [HE.out] at hA hl
        go_wp2_with (first | refine wpList_load_arr rfl _ rfl _ _ hA rfl ?_ | (refine wpList_store_arr rfl _ _ rfl _ _ _ hR rfl rfl hl ?_; intro w1 hR1 hg1))
        go_wp2
        exact ret_arr rfl rfl hR1 rfl ⟨rfl, hbw.grown hg1 hbw.size (fun k h => by cases h; omega)⟩

set_option maxRecDepth 20000 in
set_option maxHeartbeats 1000000 in
theorem unpack_ok (x : Pm) (n : Nat) (w : World) (hn : n ≤ 12) : Calls Try.prog 68 #[pv x, .int .i64 n] w fun e w' => ∃ v, e = .returned v ∧ w'.ownsRow w.heap.size 3 1 v n ((cut n x).map (Value.int .i64)) ∧ Below w.heap.size w w' := by
  obtain ⟨i0, hi, hz0, hz1, hz2⟩ := info_parts Try.info3
  unfold pv
  have hx := x.len
  have HA := hide (Arr.new w x.l hx)
  go_enter Try.func68, Try.ntmps68
  go_wp2_with (at_make; refine wpList_make_full _ rfl _ _ 23 rfl w.heap.size 3 i0 (.int .i64 0) 1 Try.underlying23 hi hz0 hz1 _ _ _ _ n rfl rfl (by omega) (by omega) ?b2 ?b3 ?b4 ?_)
  case b2 => rw [hz2]; omega
  case b3 => unfold maxLen; omega
  case b4 => simp
  intro w0 hown0 hgrow0
  rw [made_ints] at hown0
  have hA0 := HA.out.kept hgrow0 (by simp)
  have hB0 := ((Below.refl w.heap.size w).alloc (Nat.le_refl _) (.cells (i8s x.l) 91)).grown hgrow0 (by simp) (fun k h => by cases h)
  clear HA hgrow0
  go_wp2
  go_loopw [11] (fun i wr => ∃ (k : Nat) (zs : List Int), k ≤ n ∧ i = .int .i64 k ∧ Arr wr w.heap.size x.l ∧ wr.ownsRow w.heap.size 3 1 (.slice (some ⟨w.heap.size + 1, 0, none⟩) n n) n (zs.map (Value.int .i64)) ∧ Hid (zs.length = n ∧ ∀ j, j < k → zs.getD j 0 = (cut n x).getD j 0) ∧ Below w.heap.size w wr) (fun i _ => n - (intOf i).toNat)
  case atStart => exact ⟨0, _, by omega, rfl, hA0, hown0, ⟨by simp, fun j hj => by omega⟩, hB0⟩
  case round =>
    clear hA0 hown0 hB0
    obtain ⟨k, zs, hk, rfl, hA, hown, hz, hbw⟩ := hrel
    by_cases hlt : k < n
    · obtain ⟨y, hy, hcx, hfx⟩ := owns_cellAt hown hlt
      have hq : x.l.getD k 0 = ((x.act k : Nat) : Int) := x.getD_act (by omega)
      have hm := x.act_lt (show k < 12 by omega)
      have hcp := (hA.cell (show k < 12 by omega)).1
      rw [hq] at hcp
      have HZ : Hid ((zs.set k ((x.act k : Nat) : Int)).length = n ∧ ∀ j, j < k + 1 → (zs.set k ((x.act k : Nat) : Int)).getD j 0 = (cut n x).getD j 0) := by
        refine ⟨by rw [List.length_set]; exact hz.out.1, fun j hj => ?_⟩
        rw [getD_set (by have := hz.out.1; omega)]
        split
        · rename_i e; subst e; rw [cut_get x hn hlt]
        · exact hz.out.2 j (by omega)
      clear hq hy
      generalize x.act k = m at *
      go_wp2
      go_roundw
      case rel => exact ⟨k + 1, _, by omega, by go_num, hA.set_other (by omega) _, owns_set_int hown _, HZ, hbw.setCell (by simp) _⟩
      case measure => simp [intOf]; omega
    · obtain rfl : k = n := by omega
      have HE : Hid (zs = cut k x) := ext_getD (by rw [hz.out.1, cut_length hn]) (fun j hj => hz.out.2 j (by have := hz.out.1; omega))
      go_wp2
      go_ret
      rw [← HE.out]
      exact ⟨_, rfl, hown, hbw⟩
end Go.Proofs.Ytimfoggjocajiaa

/- Maps keyed by int, whatever their elements: what they hold, as a function. -/
namespace Go.Proofs.Ytimfoggjocajiaa
open Go.RowKit Go.Maps

/-- An element, held as it is. -/
def heldElem (v : Value) : Option (DataW Value × List MemPlace) := some (.held v, [])

theorem Try.zero3 (w : World) : (zeroValue 3).run Try.prog w = .ok (.int .i64 0) w := by kernel_rfl

theorem Try.zero4 (w : World) : (zeroValue 4).run Try.prog w = .ok (.bool false) w := by kernel_rfl

theorem keyedI : Keyed Try.prog 3 := int_keyed Try.underlying3

/-- Block b is a map of at most n entries, which holds what f says. -/
def IMap (w : World) (b n : Nat) (f : Int → Option Value) : Prop :=
  ∃ D : DataW Value, w.ownsMap Try.prog 3 heldElem b n D ∧ ∀ a : Int, Maps.has D (.int .i64 a) = (f a).isSome ∧ ∀ v, f a = some v → ∀ z, D.atKey (.int .i64 a) z = .held v

theorem IMap.lt {w : World} {b n : Nat} {f : Int → Option Value} (h : IMap w b n f) : b < w.heap.size := by
  obtain ⟨D, h1, _⟩ := h; exact h1.lt

theorem IMap.obj {w : World} {b n : Nat} {f : Int → Option Value} (h : IMap w b n f) : ∃ es clock, w.heap[b]? = some (.map es clock) := by
  obtain ⟨D, ⟨es, c, h1, _⟩, _⟩ := h; exact ⟨es, c, h1⟩

theorem IMap.of_block {w w' : World} {b n : Nat} {f : Int → Option Value} (h : IMap w b n f) (hb : w'.heap[b]? = w.heap[b]?) : IMap w' b n f := by
  obtain ⟨D, ⟨es, c, h1, h2⟩, h3⟩ := h; exact ⟨D, ⟨es, c, hb.trans h1, h2⟩, h3⟩

theorem IMap.alloc {w : World} {b n : Nat} {f : Int → Option Value} (h : IMap w b n f) (o : Obj) : IMap (w.alloc o) b n f := h.of_block (Below.heap_alloc w o b h.lt)

theorem IMap.below {w w' : World} {b n B : Nat} {f : Int → Option Value} (h : IMap w b n f) (hb : Below B w w') (hB : b < B) : IMap w' b n f := h.of_block (hb.block b hB)

theorem IMap.mono {w : World} {b n m : Nat} {f : Int → Option Value} (h : IMap w b n f) (hn : n ≤ m) : IMap w b m f := by
  obtain ⟨D, h1, h2⟩ := h; exact ⟨D, h1.mono hn, h2⟩

theorem IMap.made (w : World) : IMap (w.alloc (.map #[] 0)) w.heap.size 0 (fun _ => none) :=
  ⟨.map [], World.ownsMap_made _ _ _ _, fun a => ⟨rfl, fun v h => by cases h⟩⟩

theorem IMap.congr {w : World} {b n : Nat} {f f' : Int → Option Value} (h : IMap w b n f) (e : ∀ a, f a = f' a) : IMap w b n f' := by
  rw [show f' = f from funext (fun a => (e a).symm)]; exact h

theorem wfI {a : Int} (h1 : -9223372036854775808 ≤ a) (h2 : a ≤ 9223372036854775807) : keyOf Try.prog 3 (.int .i64 a) = some (.int .i64 a) :=
  keyOf_int_mk Try.underlying3 (WalkArith.wf_i64 ⟨h1, h2⟩)

/-- 'v, ok := m[a]'. -/
theorem IMap.look_ok {w : World} {b n : Nat} {f : Int → Option Value} (h : IMap w b n f) {t e : TypeId} (ht : Try.prog.underlying t = some (.map 3 e)) {z : Value} (hz : (zeroValue e).run Try.prog w = .ok z w) {a : Int} (h1 : -9223372036854775808 ≤ a) (h2 : a ≤ 9223372036854775807) :
    (Instr.lookup t (.map (some b)) (.int .i64 a) true).run Try.prog w = .ok (.tuple #[(f a).getD z, .bool (f a).isSome]) w := by
  obtain ⟨D, hD, hf⟩ := h
  obtain ⟨v, ps, hrun, hv⟩ := hD.look_ok keyedI ht hz (zd := .held z) (zp := []) rfl (wfI h1 h2)
  have hv' : DataW.held v = D.atKey (.int .i64 a) (.held z) := (Prod.mk.inj (Option.some.inj hv)).1
  rw [hrun, (hf a).1]
  cases hfa : f a with
  | none =>
    have hh := (hf a).1
    rw [hfa] at hh
    rw [atKey_of_not_has hh] at hv'
    rw [DataW.held.inj hv']; rfl
  | some u =>
    rw [(hf a).2 u hfa] at hv'
    rw [DataW.held.inj hv']; rfl

/-- 'm[a]'. -/
theorem IMap.look {w : World} {b n : Nat} {f : Int → Option Value} (h : IMap w b n f) {t e : TypeId} (ht : Try.prog.underlying t = some (.map 3 e)) {z : Value} (hz : (zeroValue e).run Try.prog w = .ok z w) {a : Int} (h1 : -9223372036854775808 ≤ a) (h2 : a ≤ 9223372036854775807) :
    (Instr.lookup t (.map (some b)) (.int .i64 a) false).run Try.prog w = .ok ((f a).getD z) w := by
  obtain ⟨D, hD, hf⟩ := h
  obtain ⟨v, ps, hrun, hv⟩ := hD.lookup keyedI ht hz (zd := .held z) (zp := []) rfl (wfI h1 h2)
  have hv' : DataW.held v = D.atKey (.int .i64 a) (.held z) := (Prod.mk.inj (Option.some.inj hv)).1
  rw [hrun]
  cases hfa : f a with
  | none =>
    have hh := (hf a).1
    rw [hfa] at hh
    rw [atKey_of_not_has hh] at hv'
    rw [DataW.held.inj hv']; rfl
  | some u =>
    rw [(hf a).2 u hfa] at hv'
    rw [DataW.held.inj hv']; rfl

def upd (f : Int → Option Value) (a : Int) (v : Value) : Int → Option Value := fun x => if x = a then some v else f x

/-- 'm[a] = v'. -/
theorem IMap.put {w : World} {b n : Nat} {f : Int → Option Value} (h : IMap w b n f) {t e : TypeId} (ht : Try.prog.underlying t = some (.map 3 e)) (hn : n < maxLen) {a : Int} (h1 : -9223372036854775808 ≤ a) (h2 : a ≤ 9223372036854775807) (v : Value) :
    ∃ w', (Instr.mapUpdate t (.map (some b)) (.int .i64 a) v).run Try.prog w = .ok () w' ∧ IMap w' b (n + 1) (upd f a v) ∧ w.grownBy w' (some b) := by
  obtain ⟨D, hD, hf⟩ := h
  obtain ⟨w', hrun, hD', hg⟩ := hD.update (val := v) (d := .held v) (ps := []) keyedI ht hn (wfI h1 h2) rfl
  have hkey : WideAt.IsKeyLit (.int .i64 a) := keyedI.key (wfI h1 h2)
  refine ⟨w', hrun, ⟨_, hD', fun x => ?_⟩, hg⟩
  unfold upd
  by_cases e : x = a
  · subst e
    rw [if_pos rfl]
    exact ⟨has_put_same hD.isMap hkey _, fun u hu z => by rw [← Option.some.inj hu]; exact atKey_put_same hD.isMap hkey _ _⟩
  · have hne : (Lit.int .i64 x) ≠ Lit.int .i64 a := fun h => e (Lit.int.inj h).2
    rw [if_neg e]
    exact ⟨by rw [has_put_other hne]; exact (hf x).1, fun u hu z => by rw [atKey_put_other hne]; exact (hf x).2 u hu z⟩

/-! at the operation -/
section
variable {ops : Array Oper} {rest : List Oper} {o : Oper} {a : Act} {w : World} {Q : Exit → Act → World → Prop}

theorem wpList_look_ok (hg : o.guard = none) (m x : Operand) (t : TypeId) (hop : o.op = Op.lookup t m x true) (e : TypeId) (ht : Try.prog.underlying t = some (.map 3 e)) {z : Value} (hz : (zeroValue e).run Try.prog w = .ok z w)
    {b n : Nat} {f : Int → Option Value} (h : IMap w b n f) (k : Int) (hm : a.eval m = .map (some b)) (hx : a.eval x = .int .i64 k) (h1 : -9223372036854775808 ≤ k) (h2 : k ≤ 9223372036854775807)
    (hK : wpList Try.prog ops Q rest (a.put o.dst (.tuple #[(f k).getD z, .bool (f k).isSome])) w) : wpList Try.prog ops Q (o :: rest) a w := by
  refine wpList_plain hg fun K' hK' => ?_
  have hrun := h.look_ok ht hz h1 h2
  unfold Oper.wp
  simp [execOp, hop, hm, hx, hrun, Result.andThen]
  exact hK' _ _ hK

theorem wpList_look (hg : o.guard = none) (m x : Operand) (t : TypeId) (hop : o.op = Op.lookup t m x false) (e : TypeId) (ht : Try.prog.underlying t = some (.map 3 e)) {z : Value} (hz : (zeroValue e).run Try.prog w = .ok z w)
    {b n : Nat} {f : Int → Option Value} (h : IMap w b n f) (k : Int) (hm : a.eval m = .map (some b)) (hx : a.eval x = .int .i64 k) (h1 : -9223372036854775808 ≤ k) (h2 : k ≤ 9223372036854775807)
    (hK : wpList Try.prog ops Q rest (a.put o.dst ((f k).getD z)) w) : wpList Try.prog ops Q (o :: rest) a w := by
  refine wpList_plain hg fun K' hK' => ?_
  have hrun := h.look ht hz h1 h2
  unfold Oper.wp
  simp [execOp, hop, hm, hx, hrun, Result.andThen]
  exact hK' _ _ hK

theorem wpList_put (hg : o.guard = none) (m x v : Operand) (t : TypeId) (hop : o.op = Op.mapUpdate t m x v) (e : TypeId) (ht : Try.prog.underlying t = some (.map 3 e))
    {b n : Nat} {f : Int → Option Value} (h : IMap w b n f) (hn : n < maxLen) (k : Int) (val : Value) (hm : a.eval m = .map (some b)) (hx : a.eval x = .int .i64 k) (hv : a.eval v = val) (h1 : -9223372036854775808 ≤ k) (h2 : k ≤ 9223372036854775807)
    (hK : ∀ w', IMap w' b (n + 1) (upd f k val) → w.grownBy w' (some b) → wpList Try.prog ops Q rest (a.put o.dst undef) w') : wpList Try.prog ops Q (o :: rest) a w := by
  refine wpList_plain hg fun K' hK' => ?_
  obtain ⟨w', hrun, r1, r2⟩ := h.put ht hn h1 h2 val
  unfold Oper.wp
  simp [execOp, hop, hm, hx, hv, hrun, Result.andThen]
  exact hK' _ _ (hK w' r1 r2)
end

end Go.Proofs.Ytimfoggjocajiaa

/- Maps keyed by arrays of twelve integers, whatever their elements: what they hold, as a function of the list. -/
namespace Go.Proofs.Ytimfoggjocajiaa
open Go.RowKit Go.Maps

/-- An array of integers, as a value. -/
def kv (q : IntKind) (zs : List Int) : Value := .agg (zs.map (Value.int q)).toArray

theorem mapM_some {α β : Type} (f : α → Option β) : ∀ l : List α, (∀ x, x ∈ l → ∃ y, f x = some y) → ∃ ys, l.mapM f = some ys
  | [], _ => ⟨[], rfl⟩
  | x :: l, h => by
    obtain ⟨y, hy⟩ := h x (by simp)
    obtain ⟨ys, hys⟩ := mapM_some f l (fun z hz => h z (by simp [hz]))
    exact ⟨y :: ys, by rw [List.mapM_cons, hy, hys]; rfl⟩

theorem pos_succ (n : Nat) (h : 0 < n) : ∃ d, n = d + 1 := ⟨n - 1, by omega⟩

/-- What a type of arrays of twelve integers must be. -/
structure KeyT (K E : TypeId) (q : IntKind) : Prop where
  arr : Try.prog.underlying K = some (.array 12 E)
  int : Try.prog.underlying E = some (.int q)
  cK : Try.prog.cellsOf K = 12
  cE : Try.prog.cellsOf E = 1
  ok : Try.prog.keyType K = true
  low : K < Try.prog.types.size
  keyed : Keyed Try.prog K

def OkK (q : IntKind) (zs : List Int) : Prop := zs.length = 12 ∧ ∀ z, z ∈ zs → (Lit.int q z).wf = true

theorem KeyT.mk' {K E : TypeId} {q : IntKind} (h : KeyT K E q) {zs : List Int} (hz : OkK q zs) : ∃ l, keyOf Try.prog K (kv q zs) = some l := by
  obtain ⟨hl, hw⟩ := hz
  unfold keyOf
  rw [h.arr]
  simp only
  have hf : (kv q zs).formed Try.prog K = true := by
    unfold kv Value.formed
    rw [h.arr]
    simp [h.cK, hl]
  rw [h.ok, hf]
  simp only [Bool.and_self, if_true]
  have hkl : ∃ ls, Try.prog.keyLits (Try.prog.types.size + 1) K (kv q zs).cells.toList = some ls := by
    have hcs : (kv q zs).cells.toList = zs.map (Value.int q) := by simp [kv, Value.cells]
    rw [hcs]
    unfold Program.keyLits
    rw [h.arr]
    simp only
    rw [if_pos (by simp [h.cK, hl])]
    obtain ⟨ys, hys⟩ := mapM_some (fun i => Try.prog.keyLits Try.prog.types.size E (((zs.map (Value.int q)).drop (i * Try.prog.cellsOf E)).take (Try.prog.cellsOf E))) (List.range 12) (fun i hi => by
      have hi' : i < zs.length := by rw [hl]; simpa using hi
      refine ⟨[.int q zs[i]], ?_⟩
      rw [h.cE, Nat.mul_one]
      have e : ((zs.map (Value.int q)).drop i).take 1 = [.int q zs[i]] := by
        rw [List.drop_eq_getElem_cons (by simpa using hi')]
        simp
      rw [e]
      obtain ⟨d, hd⟩ : ∃ d, Try.prog.types.size = d + 1 := pos_succ _ (Nat.lt_of_le_of_lt (Nat.zero_le _) h.low)
      rw [hd]
      unfold Program.keyLits
      rw [h.int]
      simp [hw zs[i] (List.getElem_mem hi')])
    exact ⟨ys.flatten, by rw [hys]; rfl⟩
  obtain ⟨ls, hls⟩ := hkl
  exact ⟨_, by rw [hls]; rfl⟩

theorem kv_inj {q : IntKind} {xs ys : List Int} (h : kv q xs = kv q ys) : xs = ys := by
  unfold kv at h
  have h1 : (xs.map (Value.int q)).toArray = (ys.map (Value.int q)).toArray := by injection h
  have h2 : xs.map (Value.int q) = ys.map (Value.int q) := by simpa using congrArg Array.toList h1
  exact (List.map_inj_right (fun a b e => by injection e)).1 h2

/-- Block b is a map of at most n entries, which holds what f says. -/
def KMap (K : TypeId) (q : IntKind) (w : World) (b n : Nat) (f : List Int → Option Value) : Prop :=
  ∃ D : DataW Value, w.ownsMap Try.prog K heldElem b n D ∧ ∀ zs, OkK q zs → ∀ l, keyOf Try.prog K (kv q zs) = some l → Maps.has D l = (f zs).isSome ∧ ∀ v, f zs = some v → ∀ z, D.atKey l z = .held v

section
variable {K E : TypeId} {q : IntKind} {w w' : World} {b n : Nat} {f : List Int → Option Value}

theorem KMap.lt (h : KMap K q w b n f) : b < w.heap.size := by obtain ⟨D, h1, _⟩ := h; exact h1.lt

theorem KMap.of_block (h : KMap K q w b n f) (hb : w'.heap[b]? = w.heap[b]?) : KMap K q w' b n f := by
  obtain ⟨D, ⟨es, c, h1, h2⟩, h3⟩ := h; exact ⟨D, ⟨es, c, hb.trans h1, h2⟩, h3⟩

theorem KMap.alloc (h : KMap K q w b n f) (o : Obj) : KMap K q (w.alloc o) b n f := h.of_block (Below.heap_alloc w o b h.lt)

theorem KMap.below {B : Nat} (h : KMap K q w b n f) (hb : Below B w w') (hB : b < B) : KMap K q w' b n f := h.of_block (hb.block b hB)

theorem KMap.made (K : TypeId) (q : IntKind) (w : World) : KMap K q (w.alloc (.map #[] 0)) w.heap.size 0 (fun _ => none) :=
  ⟨.map [], World.ownsMap_made _ _ _ _, fun zs _ l _ => ⟨rfl, fun v h => by cases h⟩⟩

/-- 'v, ok := m[a]'. -/
theorem KMap.look_ok (hK : KeyT K E q) (h : KMap K q w b n f) {t e : TypeId} (ht : Try.prog.underlying t = some (.map K e)) {z : Value} (hz : (zeroValue e).run Try.prog w = .ok z w) {zs : List Int} (hzs : OkK q zs) :
    (Instr.lookup t (.map (some b)) (kv q zs) true).run Try.prog w = .ok (.tuple #[(f zs).getD z, .bool (f zs).isSome]) w := by
  obtain ⟨D, hD, hf⟩ := h
  obtain ⟨l, hl⟩ := hK.mk' hzs
  obtain ⟨v, ps, hrun, hv⟩ := hD.look_ok hK.keyed ht hz (zd := .held z) (zp := []) rfl hl
  have hv' : DataW.held v = D.atKey l (.held z) := (Prod.mk.inj (Option.some.inj hv)).1
  have hfz := hf zs hzs l hl
  rw [hrun, hfz.1]
  cases hfa : f zs with
  | none =>
    have hh := hfz.1
    rw [hfa] at hh
    rw [atKey_of_not_has hh] at hv'
    rw [DataW.held.inj hv']; rfl
  | some u =>
    rw [hfz.2 u hfa] at hv'
    rw [DataW.held.inj hv']; rfl

def kupd (f : List Int → Option Value) (a : List Int) (v : Value) : List Int → Option Value := fun x => if x = a then some v else f x

/-- 'm[a] = v'. -/
theorem KMap.put (hK : KeyT K E q) (h : KMap K q w b n f) {t e : TypeId} (ht : Try.prog.underlying t = some (.map K e)) (hn : n < maxLen) {a : List Int} (ha : OkK q a) (v : Value) :
    ∃ w', (Instr.mapUpdate t (.map (some b)) (kv q a) v).run Try.prog w = .ok () w' ∧ KMap K q w' b (n + 1) (kupd f a v) ∧ w.grownBy w' (some b) := by
  obtain ⟨D, hD, hf⟩ := h
  obtain ⟨la, hla⟩ := hK.mk' ha
  obtain ⟨w', hrun, hD', hg⟩ := hD.update (val := v) (d := .held v) (ps := []) hK.keyed ht hn hla rfl
  have hkey : WideAt.IsKeyLit la := hK.keyed.key hla
  refine ⟨w', hrun, ⟨_, hD', fun x hx l hl => ?_⟩, hg⟩
  unfold kupd
  by_cases e : x = a
  · subst e
    rw [if_pos rfl]
    have : l = la := by rw [hl] at hla; exact Option.some.inj hla
    subst this
    exact ⟨has_put_same hD.isMap hkey _, fun u hu z => by rw [← Option.some.inj hu]; exact atKey_put_same hD.isMap hkey _ _⟩
  · have hne : l ≠ la := fun h => e (kv_inj (hK.keyed.inj hl (by rw [h]; exact hla)))
    rw [if_neg e]
    exact ⟨by rw [has_put_other hne]; exact (hf x hx l hl).1, fun u hu z => by rw [atKey_put_other hne]; exact (hf x hx l hl).2 u hu z⟩
end

end Go.Proofs.Ytimfoggjocajiaa

/- Maps keyed by arrays: steps (out of TrC, SaB, SaF). -/
namespace Go.Proofs.Ytimfoggjocajiaa
open Go.RowKit Go.Maps

section
variable {ops : Array Oper} {rest : List Oper} {o : Oper} {a : Act} {w : World} {Q : Exit → Act → World → Prop} {K E : TypeId} {q : IntKind} {b n : Nat} {f : List Int → Option Value}

theorem wpList_klook (hg : o.guard = none) (m x : Operand) (t : TypeId) (hop : o.op = Op.lookup t m x true) (e : TypeId) (ht : Try.prog.underlying t = some (.map K e)) {z : Value} (hz : (zeroValue e).run Try.prog w = .ok z w)
    (hK : KeyT K E q) (h : KMap K q w b n f) (zs : List Int) (hzs : OkK q zs) (hm : a.eval m = .map (some b)) (hx : a.eval x = kv q zs)
    (hC : wpList Try.prog ops Q rest (a.put o.dst (.tuple #[(f zs).getD z, .bool (f zs).isSome])) w) : wpList Try.prog ops Q (o :: rest) a w := by
  refine wpList_plain hg fun K' hK' => ?_
  have hrun := h.look_ok hK ht hz hzs
  unfold Oper.wp
  simp [execOp, hop, hm, hx, hrun, Result.andThen]
  exact hK' _ _ hC

theorem wpList_kput (hg : o.guard = none) (m x v : Operand) (t : TypeId) (hop : o.op = Op.mapUpdate t m x v) (e : TypeId) (ht : Try.prog.underlying t = some (.map K e))
    (hK : KeyT K E q) (h : KMap K q w b n f) (hn : n < maxLen) (zs : List Int) (hzs : OkK q zs) (val : Value) (hm : a.eval m = .map (some b)) (hx : a.eval x = kv q zs) (hv : a.eval v = val)
    (hC : ∀ w', KMap K q w' b (n + 1) (kupd f zs val) → w.grownBy w' (some b) → wpList Try.prog ops Q rest (a.put o.dst undef) w') : wpList Try.prog ops Q (o :: rest) a w := by
  refine wpList_plain hg fun K' hK' => ?_
  obtain ⟨w', hrun, r1, r2⟩ := h.put hK ht hn hzs val
  unfold Oper.wp
  simp [execOp, hop, hm, hx, hv, hrun, Result.andThen]
  exact hK' _ _ (hC w' r1 r2)

theorem wpList_kinsert (hg : o.guard = none) (m x v : Operand) (t : TypeId) (hop : o.op = Op.insert t m x v) (e : TypeId) (ht : Try.prog.underlying t = some (.map K e))
    (hK : KeyT K E q) (h : KMap K q w b n f) (hn : n < maxLen) (zs : List Int) (hzs : OkK q zs) (val : Value) (hm : a.eval m = .map (some b)) (hx : a.eval x = kv q zs) (hv : a.eval v = val)
    (hC : ∀ w', KMap K q w' b (n + 1) (kupd f zs val) → w.grownBy w' (some b) → wpList Try.prog ops Q rest (a.put o.dst undef) w') : wpList Try.prog ops Q (o :: rest) a w := by
  refine wpList_plain hg fun K' hK' => ?_
  obtain ⟨w', hrun, r1, r2⟩ := h.put hK ht hn hzs val
  unfold Oper.wp
  simp [execOp, hop, hm, hx, hv, hrun, Result.andThen]
  exact hK' _ _ (hC w' r1 r2)
end

theorem KMap.kept {K : TypeId} {q : IntKind} {w w' : World} {b n g : Nat} {f : List Int → Option Value} (h : KMap K q w b n f) (hg : w.grownBy w' (some g)) (hne : b ≠ g) : KMap K q w' b n f := h.of_block (hg.block b h.lt (fun e => hne (Option.some.inj e)))

theorem wf_i8_small (m : Nat) (h : m < 12) : (Lit.int .i8 (m : Int)).wf = true := by
  obtain rfl | rfl | rfl | rfl | rfl | rfl | rfl | rfl | rfl | rfl | rfl | rfl : m = 0 ∨ m = 1 ∨ m = 2 ∨ m = 3 ∨ m = 4 ∨ m = 5 ∨ m = 6 ∨ m = 7 ∨ m = 8 ∨ m = 9 ∨ m = 10 ∨ m = 11 := by omega
  all_goals decide

theorem okK_pm (x : Pm) : OkK .i8 x.l := ⟨x.len, fun z hz => by
  have := isRow_lt12 x.row (by rw [x.len]; exact Nat.le_refl _) z hz
  obtain ⟨m, rfl⟩ := Int.eq_ofNat_of_zero_le this.1
  exact wf_i8_small m (by simpa using this.2)⟩

theorem KeyT.lits {K E : TypeId} {q : IntKind} (h : KeyT K E q) {zs : List Int} (hz : OkK q zs) : (kv q zs).formed Try.prog K = true ∧ ∃ ls, Try.prog.keyLits (Try.prog.types.size + 1) K (kv q zs).cells.toList = some ls := by
  obtain ⟨hl, hw⟩ := hz
  have hf : (kv q zs).formed Try.prog K = true := by
    unfold kv Value.formed
    rw [h.arr]
    simp [h.cK, hl]
  refine ⟨hf, ?_⟩
  have hcs : (kv q zs).cells.toList = zs.map (Value.int q) := by simp [kv, Value.cells]
  rw [hcs]
  unfold Program.keyLits
  rw [h.arr]
  simp only
  rw [if_pos (by simp [h.cK, hl])]
  obtain ⟨ys, hys⟩ := mapM_some (fun i => Try.prog.keyLits Try.prog.types.size E (((zs.map (Value.int q)).drop (i * Try.prog.cellsOf E)).take (Try.prog.cellsOf E))) (List.range 12) (fun i hi => by
    have hi' : i < zs.length := by rw [hl]; simpa using hi
    refine ⟨[.int q zs[i]], ?_⟩
    rw [h.cE, Nat.mul_one]
    have e : ((zs.map (Value.int q)).drop i).take 1 = [.int q zs[i]] := by
      rw [List.drop_eq_getElem_cons (by simpa using hi')]
      simp
    rw [e]
    obtain ⟨d, hd⟩ : ∃ d, Try.prog.types.size = d + 1 := pos_succ _ (Nat.lt_of_le_of_lt (Nat.zero_le _) h.low)
    rw [hd]
    unfold Program.keyLits
    rw [h.int]
    simp [hw zs[i] (List.getElem_mem hi')])
  exact ⟨ys.flatten, by rw [hys]; rfl⟩

theorem KeyT.same {K E : TypeId} {q : IntKind} (h : KeyT K E q) {zs zs' : List Int} (hz : OkK q zs) (hz' : OkK q zs') (e : Try.prog.keyLits (Try.prog.types.size + 1) K (kv q zs).cells.toList = Try.prog.keyLits (Try.prog.types.size + 1) K (kv q zs').cells.toList) :
    keyOf Try.prog K (kv q zs) = keyOf Try.prog K (kv q zs') := by
  unfold keyOf
  rw [h.arr]
  simp only
  rw [(h.lits hz).1, (h.lits hz').1, e]

end Go.Proofs.Ytimfoggjocajiaa

/- Plain: rows found one behind the other from rounds on, each with the word that led there first. -/
namespace Go.Proofs.Ytimfoggjocajiaa

open Classical in
/-- One letter tried on an entry. -/
noncomputable def tryL (e : Pm × List Int) (S : List (Pm × List Int)) (l : Int × Pm) : List (Pm × List Int) :=
  if e.1 * l.2 ∈ S.map (·.1) then S else S ++ [(e.1 * l.2, e.2 ++ [l.1])]

/-- .. and the first j letters. -/
noncomputable def tryTo (L : List (Int × Pm)) (e : Pm × List Int) (S : List (Pm × List Int)) (j : Nat) : List (Pm × List Int) := (L.take j).foldl (tryL e) S

theorem tryTo_succ {L : List (Int × Pm)} {e : Pm × List Int} {S : List (Pm × List Int)} {j : Nat} {l : Int × Pm} (h : L[j]? = some l) : tryTo L e S (j + 1) = tryL e (tryTo L e S j) l := by
  unfold tryTo
  rw [List.take_add_one, h, List.foldl_append]
  rfl

theorem tryL_old {e : Pm × List Int} {S : List (Pm × List Int)} {l : Int × Pm} (h : e.1 * l.2 ∈ S.map (·.1)) : tryL e S l = S := by unfold tryL; rw [if_pos h]
theorem tryL_new {e : Pm × List Int} {S : List (Pm × List Int)} {l : Int × Pm} (h : ¬ e.1 * l.2 ∈ S.map (·.1)) : tryL e S l = S ++ [(e.1 * l.2, e.2 ++ [l.1])] := by unfold tryL; rw [if_neg h]

theorem tryL_more (e : Pm × List Int) (S : List (Pm × List Int)) (l : Int × Pm) : ∃ more, tryL e S l = S ++ more := by
  by_cases h : e.1 * l.2 ∈ S.map (·.1)
  · exact ⟨[], by rw [tryL_old h, List.append_nil]⟩
  · exact ⟨_, tryL_new h⟩

theorem tryL_there (e : Pm × List Int) (S : List (Pm × List Int)) (l : Int × Pm) : e.1 * l.2 ∈ (tryL e S l).map (·.1) := by
  by_cases h : e.1 * l.2 ∈ S.map (·.1)
  · rw [tryL_old h]; exact h
  · rw [tryL_new h]; simp

theorem tryTo_more (L : List (Int × Pm)) (e : Pm × List Int) (S : List (Pm × List Int)) (j : Nat) : ∃ more, tryTo L e S j = S ++ more := by
  unfold tryTo
  generalize L.take j = M
  induction M generalizing S with
  | nil => exact ⟨[], by simp⟩
  | cons l M ih =>
    obtain ⟨m1, h1⟩ := tryL_more e S l
    obtain ⟨m2, h2⟩ := ih (tryL e S l)
    exact ⟨m1 ++ m2, by rw [List.foldl_cons, h2, h1, List.append_assoc]⟩

theorem tryTo_there {L : List (Int × Pm)} (e : Pm × List Int) (S : List (Pm × List Int)) {l : Int × Pm} (hl : l ∈ L) : e.1 * l.2 ∈ (tryTo L e S L.length).map (·.1) := by
  unfold tryTo
  rw [List.take_length]
  induction L generalizing S with
  | nil => cases hl
  | cons x L ih =>
    rw [List.foldl_cons]
    rcases List.mem_cons.1 hl with rfl | hl
    · obtain ⟨more, h⟩ := tryTo_more L e (tryL e S l) L.length
      unfold tryTo at h
      rw [List.take_length] at h
      rw [h, List.map_append]
      exact List.mem_append_left _ (tryL_there e S l)
    · exact ih (tryL e S x) hl

/-- Entries 0 to i - 1 are gone through. -/
inductive Run (L : List (Int × Pm)) : Nat → List (Pm × List Int) → Prop
  | start : Run L 0 [(1, [])]
  | step {i : Nat} {S : List (Pm × List Int)} {e : Pm × List Int} : Run L i S → S[i]? = some e → Run L (i + 1) (tryTo L e S L.length)

theorem Run.det {L : List (Int × Pm)} {i : Nat} {S T : List (Pm × List Int)} (h : Run L i S) (k : Run L i T) : S = T := by
  induction h generalizing T with
  | start => cases k; rfl
  | step _ he ih =>
    cases k with
    | step k' he' =>
      have := ih k'
      subst this
      rw [he] at he'
      rw [Option.some.inj he']

theorem Run.le {L : List (Int × Pm)} {i : Nat} {S : List (Pm × List Int)} (h : Run L i S) : i ≤ S.length := by
  cases h with
  | start => exact Nat.zero_le _
  | step h he =>
    obtain ⟨more, e⟩ := tryTo_more L _ _ L.length
    rw [e, List.length_append]
    have := (List.getElem?_eq_some_iff.1 he).1
    omega

theorem Run.pre {L : List (Int × Pm)} {j : Nat} {T : List (Pm × List Int)} (h : Run L j T) : ∀ i, i ≤ j → ∃ S, Run L i S ∧ ∃ more, T = S ++ more := by
  induction h with
  | start => intro i hi; have : i = 0 := by omega
             subst this; exact ⟨_, Run.start, [], by simp⟩
  | @step j S e0 h he ih =>
    intro i hi
    by_cases e : i ≤ j
    · obtain ⟨S', hS, m1, h1⟩ := ih i e
      obtain ⟨m2, h2⟩ := tryTo_more L e0 S L.length
      exact ⟨S', hS, m1 ++ m2, by rw [h2, h1, List.append_assoc]⟩
    · have e2 : i = j + 1 := by omega
      subst e2
      exact ⟨_, Run.step h he, [], by simp⟩

/-- Whoever has gone through all has found the same. -/
theorem Run.unique {L : List (Int × Pm)} {i j : Nat} {S T : List (Pm × List Int)} (h : Run L i S) (k : Run L j T) (hi : S.length ≤ i) (hj : T.length ≤ j) : S = T := by
  have key : ∀ {i j : Nat} {S T : List (Pm × List Int)}, Run L i S → Run L j T → S.length ≤ i → i ≤ j → i = j := fun {i j S T} h k hi hij => by
    rcases Nat.lt_or_ge i j with hlt | hge
    · obtain ⟨S', h', _⟩ := k.pre (i + 1) hlt
      cases h' with
      | step h'' he =>
        rw [h.det h''] at hi
        have := (List.getElem?_eq_some_iff.1 he).1
        omega
    · omega
  rcases Nat.le_total i j with hij | hij
  · have := key h k hi hij
    subst this; exact h.det k
  · have := key k h hj hij
    subst this; exact h.det k

structure RunOk (L : List (Int × Pm)) (S : List (Pm × List Int)) : Prop where
  nodup : (S.map (·.1)).Nodup
  gen : ∀ e, e ∈ S → Gen (fun x => ∃ l, l ∈ L ∧ l.2 = x) e.1
  first : (1, []) ∈ S

theorem Gen.right {T : Pm → Prop} {x y : Pm} (hx : Gen T x) (hy : T y) : Gen T (x * y) := Gen.mul' hx (Gen.of hy)

theorem RunOk.tryL {L : List (Int × Pm)} {S : List (Pm × List Int)} (h : RunOk L S) {e : Pm × List Int} (he : Gen (fun x => ∃ l, l ∈ L ∧ l.2 = x) e.1) {l : Int × Pm} (hl : l ∈ L) : RunOk L (tryL e S l) := by
  by_cases hc : e.1 * l.2 ∈ S.map (·.1)
  · rw [tryL_old hc]; exact h
  · rw [tryL_new hc]
    refine ⟨?_, ?_, List.mem_append_left _ h.first⟩
    · rw [List.map_append, List.nodup_append]
      refine ⟨h.nodup, by simp, fun a ha b hb e' => hc ?_⟩
      have : b = e.1 * l.2 := by simpa using hb
      rw [← this, ← e']; exact ha
    · intro x hx
      rcases List.mem_append.1 hx with hx | hx
      · exact h.gen x hx
      · rw [List.mem_singleton.1 hx]; exact Gen.right he ⟨l, hl, rfl⟩

theorem RunOk.tryTo {L : List (Int × Pm)} {S : List (Pm × List Int)} (h : RunOk L S) {e : Pm × List Int} (he : Gen (fun x => ∃ l, l ∈ L ∧ l.2 = x) e.1) (j : Nat) : RunOk L (tryTo L e S j) := by
  have key : ∀ (M : List (Int × Pm)) (S : List (Pm × List Int)), (∀ l, l ∈ M → l ∈ L) → RunOk L S → RunOk L (M.foldl (Proofs.Ytimfoggjocajiaa.tryL e) S) := by
    intro M
    induction M with
    | nil => intro S _ h; exact h
    | cons l M ih => intro S hM h; exact ih _ (fun x hx => hM x (by simp [hx])) (h.tryL he (hM l (by simp)))
  exact key _ S (fun l hl => List.mem_of_mem_take hl) h

theorem Run.ok {L : List (Int × Pm)} {i : Nat} {S : List (Pm × List Int)} (h : Run L i S) : RunOk L S := by
  induction h with
  | start => exact ⟨by simp, fun e he => by rw [List.mem_singleton.1 he]; exact Gen.one, by simp⟩
  | step h he ih => exact ih.tryTo (ih.gen _ (List.mem_of_getElem? he)) _

theorem Run.done {L : List (Int × Pm)} {i : Nat} {S : List (Pm × List Int)} (h : Run L i S) : ∀ k e, k < i → S[k]? = some e → ∀ l, l ∈ L → e.1 * l.2 ∈ S.map (·.1) := by
  induction h with
  | start => intro k e hk; omega
  | @step i S e0 h he ih =>
    intro k e hk hke l hl
    obtain ⟨more, hm⟩ := tryTo_more L e0 S L.length
    by_cases hki : k = i
    · subst hki
      have : e = e0 := by
        rw [hm, List.getElem?_append_left (List.getElem?_eq_some_iff.1 he).1, he] at hke
        exact (Option.some.inj hke).symm
      subst this
      exact tryTo_there e S hl
    · have hkS : k < S.length := by have := (List.getElem?_eq_some_iff.1 he).1; omega
      rw [hm, List.getElem?_append_left hkS] at hke
      rw [hm, List.map_append]
      exact List.mem_append_left _ (ih k e (by omega) hke l hl)

/-- Whoever has gone through all has found all. -/
theorem Run.all {L : List (Int × Pm)} {i : Nat} {S : List (Pm × List Int)} (h : Run L i S) (hi : S.length ≤ i) (x : Pm) : x ∈ S.map (·.1) ↔ Gen (fun x => ∃ l, l ∈ L ∧ l.2 = x) x := by
  constructor
  · intro hx
    obtain ⟨e, he, rfl⟩ := List.mem_map.1 hx
    exact h.ok.gen e he
  · intro hx
    have closed : ∀ y, y ∈ S.map (·.1) → ∀ l, l ∈ L → y * l.2 ∈ S.map (·.1) := fun y hy l hl => by
      obtain ⟨e, he, rfl⟩ := List.mem_map.1 hy
      obtain ⟨k, hk, rfl⟩ := List.getElem_of_mem he
      exact h.done k _ (by omega) (List.getElem?_eq_getElem hk) l hl
    have right : ∀ z, Gen (fun x => ∃ l, l ∈ L ∧ l.2 = x) z → ∀ y, y ∈ S.map (·.1) → y * z ∈ S.map (·.1) := by
      intro z hz
      induction hz with
      | one => intro y hy; rw [Pm.mul_one]; exact hy
      | mul hs _ ih =>
        intro y hy
        obtain ⟨l, hl, rfl⟩ := hs
        rw [← Pm.mul_assoc]
        exact ih _ (closed y hy l hl)
    have := right x hx 1 (List.mem_map.2 ⟨_, h.ok.first, rfl⟩)
    rwa [Pm.one_mul] at this

end Go.Proofs.Ytimfoggjocajiaa

/- Plain: how each row was come to first, and its word from that. -/
namespace Go.Proofs.Ytimfoggjocajiaa

/-- The letters of a group: each generator, and what undoes it. -/
noncomputable def glet : Nat → List Pm → List (Int × Pm)
  | _, [] => []
  | k, x :: t => ((k : Int) + 1, x) :: (-(k : Int) - 1, x⁻¹) :: glet (k + 1) t

theorem glet_length (k : Nat) (gs : List Pm) : (glet k gs).length = 2 * gs.length := by
  induction gs generalizing k with
  | nil => rfl
  | cons x t ih => rw [glet, List.length_cons, List.length_cons, ih, List.length_cons]; omega

theorem glet_even {k j : Nat} {gs : List Pm} {x : Pm} (h : gs[j]? = some x) : (glet k gs)[2 * j]? = some (((k + j : Nat) : Int) + 1, x) := by
  induction gs generalizing k j with
  | nil => simp at h
  | cons y t ih =>
    cases j with
    | zero => simp at h; subst h; simp [glet]
    | succ j =>
      rw [List.getElem?_cons_succ] at h
      rw [show 2 * (j + 1) = 2 * j + 1 + 1 by omega, glet, List.getElem?_cons_succ, List.getElem?_cons_succ, ih h]
      rw [show k + 1 + j = k + (j + 1) by omega]

theorem glet_odd {k j : Nat} {gs : List Pm} {x : Pm} (h : gs[j]? = some x) : (glet k gs)[2 * j + 1]? = some (-((k + j : Nat) : Int) - 1, x⁻¹) := by
  induction gs generalizing k j with
  | nil => simp at h
  | cons y t ih =>
    cases j with
    | zero => simp at h; subst h; simp [glet]
    | succ j =>
      rw [List.getElem?_cons_succ] at h
      rw [show 2 * (j + 1) + 1 = (2 * j + 1) + 1 + 1 by omega, glet, List.getElem?_cons_succ, List.getElem?_cons_succ, ih h]
      rw [show k + 1 + j = k + (j + 1) by omega]

/-- How each row was come to: by which row, and by which letter. -/
structure Came {V : Type} (sv : Pm → Int → V) (S : List (Pm × List Int)) (f : List Int → Option V) : Prop where
  some : ∀ x : Pm, (f x.l).isSome = true ↔ x ∈ S.map (·.1)
  back : ∀ e, e ∈ S → e.1 ≠ 1 → ∃ y wd l, (y, wd) ∈ S ∧ e.2 = wd ++ [l] ∧ f e.1.l = Option.some (sv y l)

theorem Pm.l_inj {x y : Pm} (h : x.l = y.l) : x = y := by
  cases x; cases y
  simp only at h
  subst h
  rfl

theorem Came.start {V : Type} {sv : Pm → Int → V} (v0 : V) : Came sv [(1, [])] (fun x => if x = (1 : Pm).l then Option.some v0 else none) := by
  refine ⟨fun x => ?_, fun e he h => ?_⟩
  · by_cases h : x.l = (1 : Pm).l
    · have := Pm.l_inj h
      subst this
      simp
    · rw [if_neg h]
      constructor
      · intro h'; cases h'
      · intro h'
        have h'' : x = 1 := by simpa using h'
        exact absurd (by rw [h'']) h
  · rw [List.mem_singleton.1 he] at h
    exact absurd rfl h

theorem Came.grow {V : Type} {sv : Pm → Int → V} {S : List (Pm × List Int)} {f f' : List Int → Option V} (h : Came sv S f) {e : Pm × List Int} {l : Int × Pm} (he : e ∈ S) (hn : ¬ e.1 * l.2 ∈ S.map (·.1))
    (hf : f' = fun x => if x = (e.1 * l.2).l then Option.some (sv e.1 l.1) else f x) : Came sv (S ++ [(e.1 * l.2, e.2 ++ [l.1])]) f' := by
  subst hf
  refine ⟨fun x => ?_, fun d hd h1 => ?_⟩
  · by_cases hx : x.l = (e.1 * l.2).l
    · have := Pm.l_inj hx
      subst this
      simp
    · rw [if_neg hx, h.some x, List.map_append, List.mem_append]
      constructor
      · exact Or.inl
      · rintro (h' | h')
        · exact h'
        · have h'' : x = e.1 * l.2 := by simpa using h'
          exact absurd (by rw [h'']) hx
  · rcases List.mem_append.1 hd with hd | hd
    · obtain ⟨y, wd, l', h2, h3, h4⟩ := h.back d hd h1
      refine ⟨y, wd, l', List.mem_append_left _ h2, h3, ?_⟩
      have hne : d.1.l ≠ (e.1 * l.2).l := fun e' => hn (by rw [← Pm.l_inj e']; exact List.mem_map.2 ⟨d, hd, rfl⟩)
      rw [if_neg hne]
      exact h4
    · rw [List.mem_singleton.1 hd]
      exact ⟨e.1, e.2, l.1, List.mem_append_left _ he, rfl, by rw [if_pos rfl]⟩

theorem pair_eq {S : List (Pm × List Int)} (hn : (S.map (·.1)).Nodup) {x : Pm} {a b : List Int} (ha : (x, a) ∈ S) (hb : (x, b) ∈ S) : a = b := by
  induction S with
  | nil => cases ha
  | cons e S ih =>
    rw [List.map_cons, List.nodup_cons] at hn
    rcases List.mem_cons.1 ha with h1 | h1
    · rcases List.mem_cons.1 hb with h2 | h2
      · rw [← h1] at h2; exact (Prod.mk.inj h2).2.symm
      · exact absurd (List.mem_map.2 ⟨_, h2, rfl⟩) (by rw [← h1] at hn; exact hn.1)
    · rcases List.mem_cons.1 hb with h2 | h2
      · exact absurd (List.mem_map.2 ⟨_, h1, rfl⟩) (by rw [← h2] at hn; exact hn.1)
      · exact ih hn.2 h1 h2

end Go.Proofs.Ytimfoggjocajiaa

/- A group's packed rows as keys of a map, and held against each other. -/
namespace Go.Proofs.Ytimfoggjocajiaa
open Go.RowKit Go.Maps Go.ChangeMaps
open Go.WideElems (rg)

theorem laidG : laidOutB Try.prog = true := by kernel_rfl

theorem gkeyT : KeyT 91 89 .i8 where
  arr := Try.underlying91
  int := Try.underlying89
  cK := by kernel_rfl
  cE := by kernel_rfl
  ok := by kernel_rfl
  low := of_decide_eq_true (by kernel_rfl)
  keyed := Keyed.of_law (deep_law_gate laidG (of_decide_eq_true (by kernel_rfl)) (of_decide_eq_true (by kernel_rfl)) (by kernel_rfl) (by rw [Try.underlying91]))

theorem gpeq (x y : Pm) (w : World) : ∃ r : Bool, (binOp .eql 91 (.agg (i8s x.l)) (.agg (i8s y.l))).run Try.prog w = .ok (.bool r) w ∧ (r = true ↔ x = y) := by
  obtain ⟨f1, l1, h1⟩ := gkeyT.lits (okK_pm x)
  obtain ⟨f2, l2, h2⟩ := gkeyT.lits (okK_pm y)
  obtain ⟨r, hr, hiff⟩ := run_equalIn_deep (P := Try.prog) 9997 3 91 (by kernel_rfl) w _ _ _ _ l1 l2 f1 f2 h1 h2
  refine ⟨r, ?_, hiff.trans ⟨fun e => ?_, fun e => ?_⟩⟩
  · rw [run_eql_struct]
    have hr' : (Op.equalIn 10000 91 (.agg (i8s x.l)) (.agg (i8s y.l))).run Try.prog w = .ok r w := hr
    rw [hr']
    rfl
  · obtain ⟨lx, hx⟩ : ∃ l, keyOf Try.prog 91 (pv x) = some l := gkeyT.mk' (okK_pm x)
    have hk := gkeyT.same (okK_pm x) (okK_pm y) (by rw [h1, h2, e])
    exact Pm.eq_of_l (kv_inj (gkeyT.keyed.inj hx (hk ▸ hx)))
  · subst e
    rw [h1] at h2
    exact Option.some.inj h2

/-- How a row was come to, as it lies. -/
def sv (y : Pm) (l : Int) : Value := .agg ((y.l.map (Value.int .i8)).toArray.push (.int .i64 l))

end Go.Proofs.Ytimfoggjocajiaa

/- Contracts of the answer's functions: RowMay, Undo, By. -/
namespace Go.Proofs.Ytimfoggjocajiaa
open Go.RowKit

/-- How often b is in the list. -/
def occ (b : Int) (xs : List Int) : Nat := (xs.filter (fun y => y == b)).length

theorem occ_le (b : Int) (xs : List Int) : occ b xs ≤ xs.length := List.length_filter_le _ _

theorem occ_snoc (b y : Int) (xs : List Int) : occ b (xs ++ [y]) = occ b xs + if y = b then 1 else 0 := by
  unfold occ
  rw [List.filter_append, List.length_append]
  by_cases h : y = b <;> simp [h]

theorem perm_of_sub {α : Type} [DecidableEq α] : ∀ (l m : List α), l.Nodup → (∀ x ∈ l, x ∈ m) → l.length = m.length → l.Perm m := by
  intro l
  induction l with
  | nil => intro m _ _ hl; rw [List.length_eq_zero_iff.1 hl.symm]
  | cons a l ih =>
    intro m hn hs hl
    have ha : a ∈ m := hs a List.mem_cons_self
    have hn' := List.nodup_cons.1 hn
    have h1 := ih (m.erase a) hn'.2 (fun x hx => (List.mem_erase_of_ne (fun e => hn'.1 (by rw [← e]; exact hx))).2 (hs x (List.mem_cons_of_mem _ hx))) (by rw [List.length_erase_of_mem ha]; simp at hl; omega)
    exact (h1.cons a).trans (List.perm_cons_erase ha).symm

theorem occ_mem {b : Int} {xs : List Int} (h : occ b xs = 1) : b ∈ xs := by
  unfold occ at h
  have h1 : 0 < (xs.filter (fun y => y == b)).length := by omega
  obtain ⟨y, hy⟩ := List.exists_mem_of_length_pos h1
  have h2 := List.mem_filter.1 hy
  have e : y = b := by simpa using h2.2
  rw [← e]; exact h2.1

theorem row_of_occ {xs : List Int} (h : ∀ b, b < xs.length → occ (b : Int) xs = 1) : isRow xs := by
  have hp := perm_of_sub (rnd xs.length) xs (isRow_rnd _).2 (fun x hx => by
    obtain ⟨i, hi, rfl⟩ := List.mem_map.1 hx
    exact occ_mem (h i (List.mem_range.1 hi))) (rnd_length _)
  exact isRow_perm hp.symm (isRow_rnd _)

theorem occ_of_row {xs : List Int} (h : isRow xs) {b : Nat} (hb : b < xs.length) : occ (b : Int) xs = 1 := by
  obtain ⟨j, hj, e⟩ := isRow_onto h hb
  have hm : (b : Int) ∈ xs := by
    rw [← e, show xs.getD j 0 = xs[j] from by simp [List.getD, List.getElem?_eq_getElem hj]]
    exact List.getElem_mem hj
  have key : ∀ (l : List Int), l.Nodup → (b : Int) ∈ l → occ (b : Int) l = 1 := by
    intro l
    induction l with
    | nil => intro _ hm; cases hm
    | cons x l ih =>
      intro hn hm
      have hn' := List.nodup_cons.1 hn
      unfold occ
      by_cases e : x = (b : Int)
      · subst e
        rw [List.filter_cons_of_pos (by simp), List.filter_eq_nil_iff.2 (fun y hy => by
          intro h2
          have e2 : y = (b : Int) := by simpa using h2
          exact hn'.1 (e2 ▸ hy))]
        rfl
      · rw [List.filter_cons_of_neg (by simpa using e)]
        rcases List.mem_cons.1 hm with h2 | h2
        · exact absurd h2.symm e
        · exact ih hn'.2 h2
  exact key xs h.2 hm

set_option maxRecDepth 20000 in
set_option maxHeartbeats 1000000 in
theorem rowMay_any (v : Value) (xs : List Int) (w : World) (h : Ints w v xs) :
    Calls Try.prog 23 #[v] w fun e w' => e = .returned (.int .i64 (chk xs)) ∧ w = w' := by
  by_cases hc12 : 1 ≤ xs.length ∧ xs.length ≤ 12
  · obtain ⟨hn1, hn2⟩ := hc12
    rcases h with ⟨rfl, p, c, rfl⟩ | ⟨b, off, cap, rfl, h0, hc, hm, hb, hcell⟩
    · simp at hn1
    · go_enter Try.func23, Try.ntmps23
      go_wp2
      go_loop [3] (fun sb => ∃ k : Nat, k ≤ xs.length ∧ sb = .int .i64 k ∧ Hid (∀ j, j < k → occ (j : Int) xs = 1)) (fun sb => xs.length - (intOf sb).toNat)
      case atStart => exact ⟨0, by omega, rfl, fun j hj => by omega⟩
      case round =>
        obtain ⟨k, hk, rfl, hg⟩ := hrel
        by_cases hlt : k < xs.length
        · go_wp2
          go_loop [4, 5] (fun sn si => ∃ i : Nat, i ≤ xs.length ∧ si = .int .i64 i ∧ sn = .int .i64 (occ (k : Int) (xs.take i))) (fun _ si => xs.length - (intOf si).toNat)
          case atStart => exact ⟨0, by omega, rfl, rfl⟩
          case round =>
            obtain ⟨i, hi, rfl, rfl⟩ := hrel
            have hol := occ_le (k : Int) (xs.take i)
            have hol2 : (xs.take i).length ≤ i := List.length_take_le _ _
            by_cases hit : i < xs.length
            · obtain ⟨y, hy, hcy⟩ := cellAt hcell hit
              have HS : Hid (occ (k : Int) (xs.take (i + 1)) = occ (k : Int) (xs.take i) + if y = (k : Int) then 1 else 0) := by show _ = _; rw [take_snoc xs i hit, hy.out]; exact occ_snoc _ _ _
              clear hcell
              by_cases hyk : y = (k : Int)
              · have ht : (y == (k : Int)) = true := by simpa using hyk
                have HYK := hide hyk
                clear hyk
                go_wp2
                go_round
                case rel => exact ⟨i + 1, by omega, by go_num, by rw [HS.out, if_pos HYK.out]; go_num⟩
                case measure => simp [intOf]; omega
              · have ht : (y == (k : Int)) = false := by simpa using hyk
                have HYK := hide hyk
                clear hyk
                go_wp2
                go_round
                case rel => exact ⟨i + 1, by omega, by go_num, by rw [HS.out, if_neg HYK.out]; go_num⟩
                case measure => simp [intOf]; omega
            · have e : xs.take i = xs := List.take_of_length_le (by omega)
              rw [e] at hol ⊢
              clear hcell e
              by_cases ho : occ (k : Int) xs = 1
              · have ht : ((occ (k : Int) xs : Int) != 1) = false := by rw [bne_eq_false_iff_eq]; omega
                have HG : Hid (∀ j, j < k + 1 → occ (j : Int) xs = 1) := by
                  intro j hj
                  by_cases e : j = k
                  · subst e; exact ho
                  · exact hg.out j (by omega)
                clear ho
                go_wp2
                go_round
                case rel => exact ⟨k + 1, by omega, by go_num, HG⟩
                case measure => simp [intOf]; omega
              · have ht : ((occ (k : Int) xs : Int) != 1) = true := by rw [bne_iff_ne]; omega
                have HB := hide (chk_row hn1 hn2 (fun hr => ho (occ_of_row hr hlt)))
                clear ho
                go_wp2
                go_ret
                exact ⟨ret_int HB.out.symm, rfl⟩
        · have HB := hide (chk_ok hn1 hn2 (row_of_occ (fun j hj => hg.out j (by omega))))
          clear hcell
          go_wp2
          go_ret
          exact ⟨ret_int HB.out.symm, rfl⟩
  · obtain ⟨p, c, rfl⟩ := h.form
    have HC := hide (chk_count hc12)
    by_cases h1 : ((xs.length : Nat) : Int) < 1
    · clear hc12 h
      go_enter Try.func23, Try.ntmps23
      go_wp2
      go_ret
      exact ⟨ret_int HC.out.symm, rfl⟩
    · have h2 : 12 < ((xs.length : Nat) : Int) := by omega
      have h3 : decide (12 < ((xs.length : Nat) : Int)) = true := by simp; omega
      clear hc12 h
      go_enter Try.func23, Try.ntmps23
      go_wp2
      go_ret
      exact ⟨ret_int HC.out.symm, rfl⟩

set_option maxRecDepth 20000 in
set_option maxHeartbeats 1000000 in
theorem undo_own (v1 : Value) (a : List Int) (w : World) (i1 : Ints w v1 a) (r1 : isRow a) (n1 : 1 ≤ a.length) (n2 : a.length ≤ 12) :
    Calls Try.prog 36 #[v1] w fun e w' => ∃ v zs, e = .returned v ∧ w'.ownsRow w.heap.size 3 1 v a.length (zs.map (Value.int .i64)) ∧ Undoes zs a ∧ Below w.heap.size w w' := by
  obtain ⟨i0, hi, hz0, hz1, hz2⟩ := info_parts Try.info3
  have R1 := hide r1
  rcases i1 with ⟨rfl, p, c, rfl⟩ | ⟨b1, o1, cap1, rfl, h01, hcp1, hm1, hb1, hcell1⟩
  · simp at n1
  clear r1
  go_enter Try.func36, Try.ntmps36
  go_wp2_with (at_make; refine wpList_make_full _ rfl _ _ 23 rfl w.heap.size 3 i0 (.int .i64 0) 1 Try.underlying23 hi hz0 hz1 _ _ _ _ a.length rfl rfl (by omega) (by omega) ?b2 ?b3 (Nat.le_refl _) ?_)
  case b2 => rw [hz2]; omega
  case b3 => unfold maxLen; omega
  intro w0 hown0 hgrow0
  rw [made_ints] at hown0
  go_wp2
  go_loopw [4] (fun i wr => ∃ (k : Nat) (zs : List Int), k ≤ a.length ∧ i = .int .i64 k ∧ wr.ownsRow w.heap.size 3 1 (.slice (some ⟨w.heap.size, 0, none⟩) a.length a.length) a.length (zs.map (Value.int .i64)) ∧ Hid (zs.length = a.length ∧ ∀ j, j < k → zs.getD (a.getD j 0).toNat 0 = (j : Int)) ∧ Below w.heap.size w wr) (fun i _ => a.length - (intOf i).toNat)
  case atStart => exact ⟨0, _, by omega, rfl, hown0, ⟨by simp, fun j hj => by omega⟩, (Below.refl _ _).grown hgrow0 (Nat.le_refl _) (fun k h => by cases h)⟩
  case round =>
    obtain ⟨k, zs, hk, rfl, hown, hz, hbw⟩ := hrel
    by_cases hlt : k < a.length
    · obtain ⟨p, hp, hcp⟩ := cellAt hcell1 hlt
      have hpr := R1.out.at hlt
      rw [show a.getD k 0 = p from hp.out] at hpr
      obtain ⟨m, rfl⟩ := Int.eq_ofNat_of_zero_le hpr.1
      have hma : m < a.length := by have := hpr.2; omega
      obtain ⟨y, hy, hcx, hfx⟩ := owns_cellAt hown hma
      have gp : wr.cell? ⟨b1, o1 + k, none⟩ = some (.int .i64 (m : Int)) := (hbw.cell (by exact hb1)).trans hcp
      have HZ := hide (back_step R1.out hlt hp.out hz.out)
      clear hcp hcell1 hpr
      go_wp2
      go_roundw
      case rel => exact ⟨k + 1, _, by omega, by go_num, owns_set_int hown _, HZ, hbw.setCell (Nat.le_refl _) _⟩
      case measure => simp [intOf]; omega
    · clear hcell1
      obtain rfl : k = a.length := by omega
      go_wp2
      go_ret
      exact ⟨_, zs, rfl, hown, hz.out, hbw⟩

theorem undo_ok (v1 : Value) (a : List Int) (w : World) (i1 : Ints w v1 a) (r1 : isRow a) (n1 : 1 ≤ a.length) (n2 : a.length ≤ 12) :
    Calls Try.prog 36 #[v1] w fun e w' => ∃ v zs, e = .returned v ∧ Ints w' v zs ∧ Undoes zs a ∧ Below w.heap.size w w' := by
  refine (undo_own v1 a w i1 r1 n1 n2).mono ?_
  rintro e w' ⟨v, zs, rfl, ho, hu, hb⟩
  exact ⟨v, zs, rfl, Ints.own ho, hu, hb⟩

theorem by_take_snoc (a b : List Int) (k m : Nat) (hk : k < b.length) (hm : b[k]?.getD 0 = (m : Int)) : by_ a (b.take (k + 1)) = by_ a (b.take k) ++ [a[m]?.getD 0] := by
  rw [take_snoc b k hk, hm]
  simp [by_, List.getD]

set_option maxRecDepth 20000 in
set_option maxHeartbeats 1000000 in
theorem rby_own (v1 v2 : Value) (a b : List Int) (w : World) (i1 : Ints w v1 a) (i2 : Ints w v2 b) (hb : ∀ j, j < b.length → 0 ≤ b.getD j 0 ∧ b.getD j 0 < a.length) (n1 : 1 ≤ a.length) (n2 : b.length ≤ 1000000) :
    Calls Try.prog 35 #[v1, v2] w fun e w' => ∃ v, e = .returned v ∧ w'.ownsRow w.heap.size 3 1 v b.length ((by_ a b).map (Value.int .i64)) ∧ Below w.heap.size w w' := by
  obtain ⟨i0, hi, hz0, hz1, hz2⟩ := info_parts Try.info3
  have HBd := hide hb
  clear hb
  rcases i1 with ⟨rfl, p, c, rfl⟩ | ⟨b1, o1, cap1, rfl, h01, hcp1, hm1, hb1, hcell1⟩
  · simp at n1
  obtain ⟨p2, cap2, e2, hcell2⟩ : ∃ p2 cap2, v2 = .slice p2 b.length cap2 ∧ Hid (∀ j, j < b.length → ∃ b2 o2, p2 = some ⟨b2, o2, none⟩ ∧ b.length ≤ cap2 ∧ cap2 ≤ 9223372036854775807 ∧ b2 < w.heap.size ∧ w.cell? ⟨b2, o2 + j, none⟩ = some (.int .i64 (b.getD j 0))) := by
    rcases i2 with ⟨rfl, p, c, rfl⟩ | ⟨b2, o2, cap2, rfl, h02, hcp2, hm2, hb2, hc2⟩
    · exact ⟨p, c, rfl, fun j hj => by simp at hj⟩
    · exact ⟨_, cap2, rfl, fun j hj => ⟨b2, o2, rfl, hcp2, hm2, hb2, hc2 j hj⟩⟩
  subst e2
  have HC1 := hide hcell1
  clear i2 hcell1
  go_enter Try.func35, Try.ntmps35
  go_wp2
  go_loopw [5, 6] (fun v i wr => ∃ k : Nat, k ≤ b.length ∧ i = .int .i64 k ∧ wr.ownsRow w.heap.size 3 1 v k ((by_ a (b.take k)).map (Value.int .i64)) ∧ Below w.heap.size w wr) (fun _ i _ => b.length - (intOf i).toNat)
  case atStart => exact ⟨0, by omega, rfl, World.ownsRow_nil _ _ _ _, Below.refl _ _⟩
  case round =>
    obtain ⟨k, hk, rfl, hown, hbw⟩ := hrel
    have hbs := hbw.size
    by_cases hlt : k < b.length
    · obtain ⟨b2, o2, rfl, hcp2, hm2, hb2, hc2⟩ := hcell2.out k hlt
      have hpr := HBd.out k hlt
      obtain ⟨m, hm⟩ := Int.eq_ofNat_of_zero_le hpr.1
      have hma : m < a.length := by have := hpr.2; omega
      obtain ⟨q, hq, hcq⟩ := cellAt HC1.out hma
      have gp : wr.cell? ⟨b2, o2 + k, none⟩ = some (.int .i64 (m : Int)) := (hbw.cell (by exact hb2)).trans (by rw [hc2, hm])
      have gq : wr.cell? ⟨b1, o1 + m, none⟩ = some (.int .i64 q) := (hbw.cell (by exact hb1)).trans hcq
      have HT : Hid (by_ a (b.take (k + 1)) = by_ a (b.take k) ++ [q]) := by show _ = _; rw [by_take_snoc a b k m hlt hm, hq.out]
      clear hcq hc2 hpr hm
      go_wp2_with (at_builtin; refine wpList_append_own _ rfl _ _ 23 rfl w.heap.size 3 i0 (.int .i64 0) 1 8 Try.underlying23 hi hz0 hz1 hz2 rfl (by decide) _ _ _ rfl (hown.alloc _) ⟨wr.heap.size, 0, none⟩ 1 1 [.int .i64 q] rfl rfl ?c1 ?c2 ?c3 ?c4 ?c5 ?_)
      case c1 => exact cell_one_new _ _ _
      case c2 => intro u hu; simp at hu; subst hu; rfl
      case c3 => unfold maxLen; omega
      case c4 => omega
      case c5 => simp; omega
      · intro v' w1 hown' hgrow _
        go_wp2
        go_roundw
        case rel => exact ⟨k + 1, by omega, by go_num, by rw [HT.out, List.map_append]; exact hown', (hbw.alloc hbw.size _).grown hgrow (by simp; omega) (fun g hg => (hown.lt g hg).1)⟩
        case measure => simp [intOf]; omega
    · obtain rfl : k = b.length := by omega
      rw [List.take_length] at hown
      go_wp2
      go_ret
      exact ⟨_, rfl, hown, hbw⟩

theorem rby_ok (v1 v2 : Value) (a b : List Int) (w : World) (i1 : Ints w v1 a) (i2 : Ints w v2 b) (hb : ∀ j, j < b.length → 0 ≤ b.getD j 0 ∧ b.getD j 0 < a.length) (n1 : 1 ≤ a.length) (n2 : b.length ≤ 1000000) :
    Calls Try.prog 35 #[v1, v2] w fun e w' => ∃ v, e = .returned v ∧ Ints w' v (by_ a b) ∧ Below w.heap.size w w' := by
  refine (rby_own v1 v2 a b w i1 i2 hb n1 n2).mono ?_
  rintro e w' ⟨v, rfl, ho, hb'⟩
  exact ⟨v, rfl, Ints.own ho, hb'⟩

end Go.Proofs.Ytimfoggjocajiaa

/- Plain: a group's size as the product of how many bells come to each place while those ahead stay. -/
namespace Go.Proofs.Ytimfoggjocajiaa

/-- Those that leave the first k bells. -/
def Low (G : Pm → Prop) (k : Nat) (x : Pm) : Prop := G x ∧ ∀ b, b < k → x.act b = b

/-- Which bells they bring to the k-th place. -/
def Orb (G : Pm → Prop) (k b : Nat) : Prop := ∃ x, Low G k x ∧ x.act k = b

open Classical in
noncomputable def orbL (G : Pm → Prop) (k : Nat) : List Nat := (List.range 12).filter (fun b => decide (Orb G k b))

noncomputable def oc (G : Pm → Prop) (k : Nat) : Nat := (orbL G k).length

noncomputable def sz (G : Pm → Prop) : Nat → Nat
  | 0 => 1
  | n + 1 => sz G n * oc G n

theorem mem_orbL {G : Pm → Prop} {k b : Nat} (hk : k < 12) : b ∈ orbL G k ↔ Orb G k b := by
  unfold orbL
  rw [List.mem_filter, List.mem_range, @decide_eq_true_iff _ (Classical.propDecidable _)]
  exact ⟨fun h => h.2, fun h => ⟨by obtain ⟨x, _, e⟩ := h; rw [← e]; exact x.act_lt hk, h⟩⟩

theorem orbL_nodup (G : Pm → Prop) (k : Nat) : (orbL G k).Nodup := List.Nodup.sublist List.filter_sublist List.nodup_range

theorem oc_of {G : Pm → Prop} {k : Nat} (hk : k < 12) {l : List Nat} (hn : l.Nodup) (h : ∀ b, b ∈ l ↔ Orb G k b) : l.length = oc G k :=
  Nat.le_antisymm (nodup_len l (orbL G k) hn (fun b hb => (mem_orbL hk).2 ((h b).1 hb))) (nodup_len (orbL G k) l (orbL_nodup G k) (fun b hb => (h b).2 ((mem_orbL hk).1 hb)))

theorem low_sub {G : Pm → Prop} (hG : Sub G) (k : Nat) : Sub (Low G k) :=
  ⟨⟨hG.one, fun b _ => Pm.act_one b⟩, fun hx hy => ⟨hG.mul hx.1 hy.1, fun b hb => by rw [Pm.act_mul, hy.2 b hb, hx.2 b hb]⟩, fun {x} hx => ⟨hG.inv hx.1, fun b hb => by have h := hx.2 b hb; rw [← h, Pm.inv_act, h]⟩⟩

theorem oc_pos {G : Pm → Prop} (hG : Sub G) {k : Nat} (hk : k < 12) : 1 ≤ oc G k := by
  have : k ∈ orbL G k := (mem_orbL hk).2 ⟨1, (low_sub hG k).one, Pm.act_one k⟩
  exact List.length_pos_of_mem this

theorem orb_mono {G H : Pm → Prop} (h : ∀ x, G x → H x) {k b : Nat} (ho : Orb G k b) : Orb H k b := by
  obtain ⟨x, hx, e⟩ := ho
  exact ⟨x, ⟨h x hx.1, hx.2⟩, e⟩

theorem oc_mono {G H : Pm → Prop} (h : ∀ x, G x → H x) {k : Nat} (hk : k < 12) : oc G k ≤ oc H k :=
  nodup_len _ _ (orbL_nodup G k) (fun _ hb => (mem_orbL hk).2 (orb_mono h ((mem_orbL hk).1 hb)))

theorem sz_pos {G : Pm → Prop} (hG : Sub G) {n : Nat} (hn : n ≤ 12) : 1 ≤ sz G n := by
  induction n with
  | zero => exact Nat.le_refl _
  | succ n ih => exact Nat.mul_pos (ih (by omega)) (oc_pos hG (by omega))

theorem sz_mono {G H : Pm → Prop} (h : ∀ x, G x → H x) {n : Nat} (hn : n ≤ 12) : sz G n ≤ sz H n := by
  induction n with
  | zero => exact Nat.le_refl _
  | succ n ih => exact Nat.mul_le_mul (ih (by omega)) (oc_mono h (by omega))

theorem sz_congr {G H : Pm → Prop} (h : ∀ x, G x ↔ H x) (n : Nat) : sz G n = sz H n := by
  have : G = H := funext (fun x => propext (h x))
  rw [this]

theorem oc_eq {G H : Pm → Prop} (hG : Sub G) (h : ∀ x, G x → H x) {n : Nat} (hn : n ≤ 12) (he : sz G n = sz H n) : ∀ k, k < n → oc G k = oc H k := by
  induction n with
  | zero => intro k hk; omega
  | succ n ih =>
    have h1 := sz_mono h (n := n) (by omega)
    have h2 := oc_mono h (k := n) (by omega)
    have p1 := sz_pos hG (n := n) (by omega)
    have p2 := oc_pos hG (k := n) (by omega)
    have he' : sz G n * oc G n = sz H n * oc H n := he
    have e1 : sz G n = sz H n := by
      rcases Nat.lt_or_ge (sz G n) (sz H n) with hlt | hge
      · have h3 : sz G n * oc G n < sz H n * oc G n := Nat.mul_lt_mul_of_pos_right hlt p2
        have h4 : sz H n * oc G n ≤ sz H n * oc H n := Nat.mul_le_mul_left _ h2
        omega
      · omega
    have e2 : oc G n = oc H n := by
      rw [e1] at he' p1
      exact Nat.eq_of_mul_eq_mul_left p1 he'
    intro k hk
    by_cases e : k = n
    · rw [e]; exact e2
    · exact ih (by omega) e1 k (by omega)

/-- A part of a group that is as great is the group. -/
theorem sz_all {G H : Pm → Prop} (hG : Sub G) (hH : Sub H) (h : ∀ x, G x → H x) {n : Nat} (hn : n ≤ 12) (hf : ∀ x, H x → Fixes (fun b => n ≤ b) x) (he : sz G n = sz H n) : ∀ x, H x → G x := by
  have hoc := oc_eq hG h hn he
  have key : ∀ d k, k + d = n → ∀ x, Low H k x → G x := by
    intro d
    induction d with
    | zero =>
      intro k hk x hx
      have : x = 1 := Pm.ext' (fun b _ => by
        rw [Pm.act_one]
        rcases Nat.lt_or_ge b n with hb | hb
        · exact hx.2 b (by omega)
        · exact hf x hx.1 b hb)
      rw [this]; exact hG.one
    | succ d ih =>
      intro k hk x hx
      have hk12 : k < 12 := by omega
      have hin : x.act k ∈ orbL H k := (mem_orbL hk12).2 ⟨x, hx, rfl⟩
      have hsub : ∀ b, b ∈ orbL H k → b ∈ orbL G k := by
        have hp := perm_of_sub (orbL G k) (orbL H k) (orbL_nodup G k) (fun b hb => (mem_orbL hk12).2 (orb_mono h ((mem_orbL hk12).1 hb))) (hoc k (by omega))
        exact fun b hb => hp.mem_iff.2 hb
      obtain ⟨u, hu, eu⟩ := (mem_orbL hk12).1 (hsub _ hin)
      have hlow : Low H (k + 1) (u⁻¹ * x) := by
        have h1 := (low_sub hH k).mul ((low_sub hH k).inv ⟨h u hu.1, hu.2⟩) hx
        refine ⟨h1.1, fun b hb => ?_⟩
        rcases Nat.lt_or_ge b k with hbk | hbk
        · exact h1.2 b hbk
        · have : b = k := by omega
          subst this
          rw [Pm.act_mul, ← eu, Pm.inv_act]
      have := hG.mul hu.1 (ih (k + 1) (by omega) _ hlow)
      rwa [Pm.mul_inv_cancel] at this
  exact fun x hx => key n 0 (by omega) x ⟨hx, fun b hb => by omega⟩

/-! the chain's own size -/

theorem low_plus {G : Pm → Prop} {k : Nat} {x : Pm} : Low G (k + 1) x ↔ Low G k x ∧ x.act k = k :=
  ⟨fun h => ⟨⟨h.1, fun b hb => h.2 b (by omega)⟩, h.2 k (by omega)⟩, fun h => ⟨h.1.1, fun b hb => by
    rcases Nat.lt_or_ge b k with h1 | h1
    · exact h.1.2 b h1
    · have : b = k := by omega
      subst this; exact h.2⟩⟩

/-- Of a whole chain: those that leave the first base are those of the rest; the table has just the bells that come there. -/
theorem whole_low {F : Nat → Prop} {l : Lk} {c : List Lk} (h : Whole F (l :: c)) (x : Pm) : Prd c x ↔ Prd (l :: c) x ∧ x.act l.base = l.base := by
  constructor
  · intro hx
    exact ⟨⟨_, h.1.first, x, hx, by rw [Pm.one_mul]⟩, (fixes_plus.1 (prd_fix h.2.1 hx)).2⟩
  · rintro ⟨⟨e, he, y, hy, rfl⟩, hb⟩
    have hy2 := (fixes_plus.1 (prd_fix h.2.1 hy)).2
    rw [Pm.act_mul, hy2, h.1.brings e he] at hb
    have e1 : e.2 = 1 := tab_eq h.1.nodup (b := l.base) (by rw [← hb]; exact he) h.1.first
    rw [e1, Pm.one_mul]; exact hy

theorem whole_orb {F : Nat → Prop} {l : Lk} {c : List Lk} (h : Whole F (l :: c)) (b : Nat) : b ∈ l.tab.map (·.1) ↔ ∃ x, Prd (l :: c) x ∧ x.act l.base = b := by
  constructor
  · intro hb
    obtain ⟨e, he, rfl⟩ := List.mem_map.1 hb
    exact ⟨e.2, ⟨e, he, 1, (prd_sub h.2.1).one, by rw [Pm.mul_one]⟩, h.1.brings e he⟩
  · rintro ⟨x, ⟨e, he, y, hy, rfl⟩, rfl⟩
    have hy2 := (fixes_plus.1 (prd_fix h.2.1 hy)).2
    rw [Pm.act_mul, hy2, h.1.brings e he]
    exact List.mem_map.2 ⟨e, he, rfl⟩

def tabs : List Lk → Nat
  | [] => 1
  | l :: c => l.tab.length * tabs c

theorem sz_tabs {G : Pm → Prop} : ∀ (c : List Lk) (k : Nat) (F : Nat → Prop), Whole F c → c.map (·.base) = (List.range c.length).map (fun i => k + i) → k + c.length ≤ 12 → (∀ x, Prd c x ↔ Low G k x) → sz G (k + c.length) = sz G k * tabs c
  | [], k, F, _, _, _, _ => by show sz G k = sz G k * 1; rw [Nat.mul_one]
  | l :: c, k, F, hw, hb, h12, hG => by
    have hb0 : l.base = k := by
      have := congrArg (fun m => m[0]?) hb
      simpa using this
    have hb1 : c.map (·.base) = (List.range c.length).map (fun i => (k + 1) + i) := by
      have := congrArg List.tail hb
      rw [List.map_cons, List.tail_cons, List.length_cons, List.range_succ_eq_map, List.map_cons, List.tail_cons, List.map_map] at this
      rw [this]
      apply List.map_congr_left
      intro i _
      show k + (i + 1) = k + 1 + i
      omega
    have hlen : (l :: c).length = c.length + 1 := rfl
    have hk : k < 12 := by rw [hlen] at h12; omega
    have hlow : ∀ x, Prd c x ↔ Low G (k + 1) x := fun x => by
      rw [whole_low hw x, hG x, low_plus, hb0]
    have hoc : l.tab.length = oc G k := by
      have := oc_of (G := G) hk hw.1.nodup (fun b => by
        rw [whole_orb hw b, hb0]
        exact ⟨fun ⟨x, hx, e⟩ => ⟨x, (hG x).1 hx, e⟩, fun ⟨x, hx, e⟩ => ⟨x, (hG x).2 hx, e⟩⟩)
      rwa [List.length_map] at this
    have ih := sz_tabs c (k + 1) _ hw.2.1 hb1 (by rw [hlen] at h12; omega) hlow
    rw [hlen, show k + (c.length + 1) = k + 1 + c.length from by omega, ih]
    show sz G k * oc G k * tabs c = sz G k * (l.tab.length * tabs c)
    rw [hoc, Nat.mul_assoc]

end Go.Proofs.Ytimfoggjocajiaa
