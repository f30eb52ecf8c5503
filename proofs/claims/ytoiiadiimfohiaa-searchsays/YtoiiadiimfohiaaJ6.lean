/- Joined: AppV, TtN, Ark, RankInj, TrA, TrB, TrC, TrD, TrE, Rno. -/
import Derived.Test.YtoiiadiimfohiaaJ3
import Derived.Test.YtoiiadiimfohiaaJ5
import Derived.Test.YtoiiadiimfohiaaJ0
import Derived.Deep.WholeRow
import Derived.Deep.MidRow
import Derived.Test.YtoiiadiimfohiaaJ1
import Derived.Test.YtoiiadiimfohiaaJ2
import Derived.Laws.CopyOwn
import Derived.Deep.CutRange
import Derived.Lib.RuneCount
import Derived.Lib.DecodeN
/- append of what came in. -/
namespace Go.Proofs.Ytoiiadiimfohiaa
open Go.RowKit

theorem run_append_none {P : Program} (w : World) (t ty e : TypeId) (i : TypeInfo) (ht : P.underlying t = some (.slice e)) (hi : P.info? e = some i) (a : Addr) (n cap : Nat) (hn : n ≤ cap) (p : Option Addr) (c : Nat) :
    (Builtin.append_ #[t, t] ty #[.slice (some a) n cap, .slice p 0 c]).run P w = .ok (.slice (some a) n cap) w := by
  cases p <;> simp [Builtin.append_, run_underlying ht, sizeOf, typeInfo, hi, Builtin.lenOf, Builtin.firstCells, loadCells, loadCellsFrom, hn, storeCells]

theorem run_append_nil_none {P : Program} (w : World) (t ty e : TypeId) (i : TypeInfo) (ht : P.underlying t = some (.slice e)) (hi : P.info? e = some i) (p : Option Addr) (c : Nat) :
    (Builtin.append_ #[t, t] ty #[.slice none 0 0, .slice p 0 c]).run P w = .ok (.slice none 0 0) w := by
  cases p <;> simp [Builtin.append_, run_underlying ht, sizeOf, typeInfo, hi, Builtin.lenOf, Builtin.firstCells, loadCells, loadCellsFrom]

/-- 'append(a, b...)': a owned, b whatever came in. -/
theorem wpList_append_vals {P : Program} {w : World} {ops : Array Oper} {rest : List Oper} {o : Oper} {a : Act} {Q : Exit → Act → World → Prop} (hgd : o.guard = none) (s x : Operand) (t : TypeId)
    (ho : o.op = .call { callee := .builtin .append, args := #[s, x], argTypes := #[t, t] })
    (base : Nat) (e : TypeId) (i : TypeInfo) (z : Value) (bytes : Nat) (ht : P.underlying t = some (.slice e)) (hi : P.info? e = some i) (hz : i.zero = some z)
    (hsize : i.size = 1) (hby : i.bytes = bytes) (hzs : z.cells.size = 1)
    (v : Value) (n : Nat) (xs : List Value) (hs : a.eval s = v) (hown : w.ownsRow base e 1 v n xs)
    (u : Value) (news : List Value) (hx : a.eval x = u) (hsrc : Vals w u news) (h1 : ∀ u ∈ news, u.oneCell' = true)
    (h63 : n + news.length ≤ maxLen) (hbytes : (n + news.length) * bytes ≤ 140737488355328) (hbase : base ≤ w.heap.size)
    (h : ∀ v' w', w'.ownsRow base e 1 v' (n + news.length) (xs ++ news) → w.grownBy w' v.ownBlock → wpList P ops Q rest (a.put o.dst v') w') :
    wpList P ops Q (o :: rest) a w := by
  rcases hsrc with ⟨rfl, p, c, rfl⟩ | ⟨b, off, cap, rfl, h0, hc, hm, hb, hcell⟩
  · rw [List.length_nil, Nat.add_zero, List.append_nil] at h
    have hr : w.grownBy w v.ownBlock := ⟨rfl, rfl, rfl, Nat.le_refl _, fun _ _ _ => rfl⟩
    rcases hown.2 with ⟨rfl, rfl⟩ | ⟨g2, cap2, cur2, rfl, _, _, hnc2, _⟩
    · refine wpList_plain hgd fun K hK => ?_
      have hrun := run_append_nil_none (P := P) w t o.type e i ht hi p c
      unfold Oper.wp execOp
      simp only [ho, resolve, invoke, builtin, Sem.run_bind, Sem.run_pure, Result.andThen_ok, List.map_toArray, List.map_cons, List.map_nil, hs, hx, hrun]
      exact hK _ _ (h _ _ hown hr)
    · refine wpList_plain hgd fun K hK => ?_
      have hrun := run_append_none (P := P) w t o.type e i ht hi ⟨g2, 0, none⟩ n cap2 hnc2 p c
      unfold Oper.wp execOp
      simp only [ho, resolve, invoke, builtin, Sem.run_bind, Sem.run_pure, Result.andThen_ok, List.map_toArray, List.map_cons, List.map_nil, hs, hx, hrun]
      exact hK _ _ (h _ _ hown hr)
  · refine wpList_append_own w hgd s x t ho base e i z 1 bytes ht hi hz hsize hby hzs (by decide) v n xs hs hown ⟨b, off, none⟩ news.length cap news hx (by omega) (fun j u hu => ?_) h1 h63 hbytes hbase ?_
    · have hj := (List.getElem?_eq_some_iff.1 hu).1
      have := hcell j hj
      rw [List.getD_eq_getElem?_getD, hu] at this
      by_cases h0j : j = 0
      · subst h0j; simpa [Addr.add] using this
      · simpa [Addr.add, h0j] using this
    · intro v' w' h2 h3 _
      exact h v' w' h2 h3

theorem vals_cells {w : World} {vs : List Value} {xss : List (List Int)} (hl : vs.length = xss.length) (hi : ∀ j, j < xss.length → Ints w (vs.getD j undef) (xss.getD j [])) : ∀ u ∈ vs, u.oneCell' = true := by
  intro u hu
  obtain ⟨j, hj, rfl⟩ := List.getElem_of_mem hu
  obtain ⟨p, c, e⟩ := (hi j (by omega)).form
  rw [List.getD_eq_getElem?_getD, List.getElem?_eq_getElem hj, Option.getD_some] at e
  rw [e]
  rfl

theorem ints_join {w : World} {us vs : List Value} {xa xb : List (List Int)} (hl : us.length = xa.length) (hi : ∀ j, j < xa.length → Ints w (us.getD j undef) (xa.getD j [])) (hi2 : ∀ j, j < xb.length → Ints w (vs.getD j undef) (xb.getD j [])) :
    ∀ j, j < (xa ++ xb).length → Ints w ((us ++ vs).getD j undef) ((xa ++ xb).getD j []) := by
  intro j hj
  rw [List.length_append] at hj
  simp only [List.getD_eq_getElem?_getD]
  by_cases h : j < xa.length
  · rw [List.getElem?_append_left (by omega), List.getElem?_append_left h]
    simpa [List.getD_eq_getElem?_getD] using hi j h
  · rw [List.getElem?_append_right (by omega), List.getElem?_append_right (by omega), hl]
    simpa [List.getD_eq_getElem?_getD] using hi2 (j - xa.length) (by omega)

end Go.Proofs.Ytoiiadiimfohiaa

/- Contract: slices.Concat of two lists of lists. -/
namespace Go.Proofs.Ytoiiadiimfohiaa
open Go.RowKit

set_option maxRecDepth 20000 in
set_option maxHeartbeats 4000000 in
theorem concat_ok (B : Nat) (va vb : Value) (xa xb : List (List Int)) (w : World) (hB : B < w.heap.size) (c0 : w.cell? ⟨B, 0, none⟩ = some va) (c1 : w.cell? ⟨B, 1, none⟩ = some vb) (ha : IntsAll w va xa) (hb : IntsAll w vb xb) (h1 : 1 ≤ xa.length + xb.length) (h2 : xa.length ≤ 400) (h3 : xb.length ≤ 400) :
    Calls Try.prog 74 #[.slice (some ⟨B, 0, none⟩) 2 2] w fun e w' => ∃ v, e = .returned v ∧ IntsAll w' v (xa ++ xb) ∧ Below w.heap.size w w' := by
  obtain ⟨j0, hji, hq0, hq1, hq2⟩ := info_parts Try.info26
  obtain ⟨us, hu, hul, hui⟩ := ha
  obtain ⟨vs, hv, hvl, hvi⟩ := hb
  obtain ⟨pa, ca, rfl⟩ := hu.form
  obtain ⟨pb, cb, rfl⟩ := hv.form
  have HU := hide hu
  have HV := hide hv
  have HUO := hide (vals_cells hul hui)
  have HVO := hide (vals_cells hvl hvi)
  have HJ := hide (fun W (hW : Below w.heap.size w W) => ints_join (w := W) hul (fun j hj => (hui j hj).below hW) (fun j hj => (hvi j hj).below hW))
  have HJL : Hid ((us ++ vs).length = (xa ++ xb).length) := by show _ = _; rw [List.length_append, List.length_append, hul, hvl]
  rw [← hul] at h1 h2
  rw [← hvl] at h1 h3
  clear hu hv hui hvi hul hvl
  generalize hA : us.length = A at *
  generalize hC : vs.length = C at *
  have HA := hide hA
  have HC := hide hC
  have HG := hide (grow_nil (A + C) w h1 (by omega))
  have hn1 : ¬ ((A : Int) < 0) := by omega
  have hn2 : ¬ ((A : Int) + (C : Int) < 0) := by omega
  clear hA hC
  go_enter Try.func74, Try.ntmps74
  go_wp2
  go_loop [3, 11] (fun s i => (i = .int .i64 0 ∧ s = .int .i64 0) ∨ (i = .int .i64 1 ∧ s = .int .i64 (A : Int)) ∨ (i = .int .i64 2 ∧ s = .int .i64 ((A : Int) + (C : Int)))) (fun _ i => 2 - (intOf i).toNat)
  case atStart => exact Or.inl ⟨rfl, rfl⟩
  case round =>
    rcases hrel with ⟨rfl, rfl⟩ | ⟨rfl, rfl⟩ | ⟨rfl, rfl⟩
    · go_wp2
      go_round
      case rel => exact Or.inr (Or.inl ⟨rfl, rfl⟩)
      case measure => decide
    · go_wp2
      go_round
      case rel => exact Or.inr (Or.inr ⟨rfl, rfl⟩)
      case measure => decide
    · go_wp2_with fail
      rw [show ((A : Int) + (C : Int)) = ((A + C : Nat) : Int) from by omega]
      refine HG.out.mono ?_
      rintro e w1 ⟨g0, rfl, ho1, hb1⟩
      have HO1 := hide ho1
      clear ho1 HG
      go_wp2
      go_loopw [6, 27] (fun u i wr => ((i = .int .i64 0 ∧ Hid (wr.ownsRow w.heap.size 26 1 u 0 [])) ∨ (i = .int .i64 1 ∧ Hid (wr.ownsRow w.heap.size 26 1 u A us)) ∨ (i = .int .i64 2 ∧ Hid (wr.ownsRow w.heap.size 26 1 u (A + C) (us ++ vs)))) ∧ Below w.heap.size w wr) (fun _ i _ => 2 - (intOf i).toNat)
      case atStart => exact ⟨Or.inl ⟨rfl, HO1⟩, hb1⟩
      case round =>
        clear HO1 hb1
        obtain ⟨hO, hbw⟩ := hrel
        have hbs := hbw.size
        have g0 := (hbw.cell (p := ⟨B, 0, none⟩) hB).trans c0
        have g1 := (hbw.cell (p := ⟨B, 1, none⟩) hB).trans c1
        rcases hO with ⟨rfl, hO⟩ | ⟨rfl, hO⟩ | ⟨rfl, hO⟩
        · obtain ⟨up, uc, rfl⟩ := owns_slice hO.out
          go_wp2_with (at_builtin; refine wpList_append_vals rfl _ _ 22 rfl w.heap.size 26 j0 (.slice none 0 0) 24 Try.underlying22 hji hq0 hq1 hq2 rfl _ _ _ rfl hO.out _ us rfl (HU.out.below hbw) HUO.out ?c1 ?c2 ?c3 ?_)
          case c1 => rw [HA.out]; unfold maxLen; omega
          case c2 => rw [HA.out]; omega
          case c3 => omega
          · intro v' w5 hown5 hg5
            have HO5 : Hid (w5.ownsRow w.heap.size 26 1 v' A us) := by show World.ownsRow _ _ _ _ _ _ _; simpa [HA.out] using hown5
            have HB5 : Hid (Below w.heap.size w w5) := hbw.grown hg5 hbs (fun g hg => (hO.out.lt g hg).1)
            clear hown5 hg5 hO
            go_wp2
            go_roundw
            case rel => exact ⟨Or.inr (Or.inl ⟨rfl, HO5⟩), HB5.out⟩
            case measure => decide
        · obtain ⟨up, uc, rfl⟩ := owns_slice hO.out
          go_wp2_with (at_builtin; refine wpList_append_vals rfl _ _ 22 rfl w.heap.size 26 j0 (.slice none 0 0) 24 Try.underlying22 hji hq0 hq1 hq2 rfl _ _ _ rfl hO.out _ vs rfl (HV.out.below hbw) HVO.out ?d1 ?d2 ?d3 ?_)
          case d1 => rw [HC.out]; unfold maxLen; omega
          case d2 => rw [HC.out]; omega
          case d3 => omega
          · intro v' w5 hown5 hg5
            have HO5 : Hid (w5.ownsRow w.heap.size 26 1 v' (A + C) (us ++ vs)) := by show World.ownsRow _ _ _ _ _ _ _; rw [HC.out] at hown5; exact hown5
            have HB5 : Hid (Below w.heap.size w w5) := hbw.grown hg5 hbs (fun g hg => (hO.out.lt g hg).1)
            clear hown5 hg5 hO
            go_wp2
            go_roundw
            case rel => exact ⟨Or.inr (Or.inr ⟨rfl, HO5⟩), HB5.out⟩
            case measure => decide
        · obtain ⟨up, uc, rfl⟩ := owns_slice hO.out
          go_wp2
          go_ret
          refine ⟨_, rfl, ⟨us ++ vs, Vals.own (base := w.heap.size) (e := 26) ?_, HJL.out, HJ.out wr hbw⟩, hbw⟩
          rw [List.length_append, HA.out, HC.out]
          exact hO.out

end Go.Proofs.Ytoiiadiimfohiaa

namespace Go.Proofs.Ytoiiadiimfohiaa
open Go.RowKit

/-- Numbers as the cells of an array of ints. -/
def i64s (zs : List Int) : Array Value := (zs.map (Value.int .i64)).toArray

theorem i64s_size (zs : List Int) : (i64s zs).size = zs.length := by simp [i64s]

theorem i64s_get {zs : List Int} {j : Nat} (h : j < zs.length) : (i64s zs)[j]? = some (.int .i64 (zs.getD j 0)) := by
  simp [i64s, List.getD, h]

theorem i64s_one (zs : List Int) : (i64s zs).all (·.oneCell') = true := by
  rw [Array.all_eq_true_iff_forall_mem]
  intro v hv
  simp [i64s] at hv
  obtain ⟨a, _, rfl⟩ := hv
  rfl

/-- A block that is an array of twelve int. -/
def Ark (w : World) (b : Nat) (zs : List Int) : Prop := w.heap[b]? = some (.cells (i64s zs) 101) ∧ zs.length = 12

theorem Try.size101 : (Try.prog.info? 101).map (·.size) = some 12 := by kernel_rfl

theorem Ark.lt {w : World} {b : Nat} {zs : List Int} (h : Ark w b zs) : b < w.heap.size := (Array.getElem?_eq_some_iff.1 h.1).1

theorem Ark.cell {w : World} {b j : Nat} {zs : List Int} (h : Ark w b zs) (hj : j < 12) : w.cell? ⟨b, j, none⟩ = some (.int .i64 (zs.getD j 0)) ∧ w.frozen? ⟨b, j, none⟩ = false := by
  obtain ⟨h1, h2⟩ := h
  constructor
  · rw [cell_of_row _ _ j _ _ _ h1]; exact i64s_get (by omega)
  · simp [World.frozen?, h1]

theorem Ark.at {w : World} {b j : Nat} {zs : List Int} (h : Ark w b zs) (hj : j < 12) : ∃ y, Hid (zs.getD j 0 = y) ∧ w.cell? ⟨b, j, none⟩ = some (.int .i64 y) ∧ w.frozen? ⟨b, j, none⟩ = false :=
  ⟨_, rfl, (h.cell hj).1, (h.cell hj).2⟩

theorem i64s_set (zs : List Int) (k : Nat) (y : Int) : (i64s zs).setIfInBounds k (.int .i64 y) = i64s (zs.set k y) := by
  apply Array.toList_inj.1
  simp [i64s]

theorem Ark.set {w : World} {b k : Nat} {zs : List Int} (h : Ark w b zs) (y : Int) : Ark (w.setCell ⟨b, k, none⟩ (.int .i64 y)) b (zs.set k y) := by
  refine ⟨?_, by rw [List.length_set]; exact h.2⟩
  rw [← i64s_set]
  simp [World.setCell, Array.getElem?_modify, h.1]

theorem Ark.kept {w w' : World} {b : Nat} {zs : List Int} {row : Option Nat} (h : Ark w b zs) (hg : w.grownBy w' row) (hr : row ≠ some b) : Ark w' b zs :=
  ⟨(hg.block b h.lt (fun e => hr e.symm)).trans h.1, h.2⟩

theorem Ark.alloc {w : World} {b : Nat} {zs : List Int} (h : Ark w b zs) (o : Obj) : Ark (w.alloc o) b zs := ⟨by rw [Below.heap_alloc w o b h.lt]; exact h.1, h.2⟩

theorem Ark.drew {w : World} {b : Nat} {zs : List Int} (h : Ark w b zs) : Ark w.drew b zs := h

theorem Ark.below {w w' : World} {b B : Nat} {zs : List Int} (h : Ark w b zs) (hb : Below B w w') (hB : b < B) : Ark w' b zs := ⟨by rw [hb.block b hB]; exact h.1, h.2⟩

theorem Ark.new (w : World) (zs : List Int) (hl : zs.length = 12) : Ark (w.alloc (.cells (i64s zs) 101)) w.heap.size zs := ⟨heap_alloc_last w _, hl⟩

theorem Ark.range {w : World} {b : Nat} {zs : List Int} (h : Ark w b zs) : w.rangeAt b 0 (zs.map (Value.int .i64)) := by
  intro j v hv
  have hj : j < zs.length := by have := (List.getElem?_eq_some_iff.1 hv).1; simpa using this
  rw [Nat.zero_add, (h.cell (by rw [← h.2]; exact hj)).1]
  rw [← hv]
  simp [List.getD, hj]

def zerosK : List Int := [0, 0, 0, 0, 0, 0, 0, 0, 0, 0, 0, 0]

theorem zeros_ark (w : World) : Ark (w.alloc (.cells #[.int .i64 0, .int .i64 0, .int .i64 0, .int .i64 0, .int .i64 0, .int .i64 0, .int .i64 0, .int .i64 0, .int .i64 0, .int .i64 0, .int .i64 0, .int .i64 0] 101)) w.heap.size zerosK :=
  Ark.new w zerosK rfl

/-- The whole array is read. -/
theorem wpList_load_ark {ops : Array Oper} {rest : List Oper} {op : Oper} {a : Act} {w : World} {Q : Exit → Act → World → Prop} (hgd : op.guard = none) (x : Operand) (ho : op.op = .load 101 x)
    (b : Nat) (zs : List Int) (hA : Ark w b zs) (hx : a.eval x = .pointer (some ⟨b, 0, none⟩))
    (h : wpList Try.prog ops Q rest (a.put op.dst (.agg (i64s zs))) w) : wpList Try.prog ops Q (op :: rest) a w :=
  wpList_load_mid hgd _ x ho b 0 hx (zs.map (Value.int .i64)) _ hA.range Try.underlying101 rfl (by rw [Try.size101, List.length_map, hA.2]) h

theorem run_load_ark {w : World} {b : Nat} {zs : List Int} (hA : Ark w b zs) : (Instr.loadAt 101 (.pointer (some ⟨b, 0, none⟩))).run Try.prog w = .ok (.agg (i64s zs)) w :=
  run_loadAt_mid w b 0 _ (zs.map (Value.int .i64)) _ hA.range Try.underlying101 rfl (by rw [Try.size101, List.length_map, hA.2])

/-- .. and written. -/
theorem run_store_ark {w : World} {b : Nat} {zs ys : List Int} (hA : Ark w b zs) (hl : ys.length = 12) : ∃ w', (Instr.storeAt 101 (.pointer (some ⟨b, 0, none⟩)) (.agg (i64s ys))).run Try.prog w = .ok () w' ∧ Ark w' b ys ∧ w.grownBy w' (some b) := by
  refine ⟨w.setRow b (i64s ys), ?_, ⟨?_, hl⟩, ⟨rfl, rfl, rfl, by simp [World.setRow], fun i hi hne => ?_⟩⟩
  · simp only [Instr.storeAt, Instr.sureAddr, Sem.run_bind, Sem.run_pure, Result.andThen]
    exact run_storeVar_row w b _ _ _ _ hA.1 (by rw [Try.size101, i64s_size, hl]) (by rw [i64s_size, i64s_size, hl, hA.2]) (i64s_one ys)
  · simp [World.setRow, Array.getElem?_modify, hA.1]
  · simp only [World.setRow, Array.getElem?_modify]
    rw [if_neg (fun e => hne (by rw [e]))]

theorem wpList_store_ark {ops : Array Oper} {rest : List Oper} {op : Oper} {a : Act} {w : World} {Q : Exit → Act → World → Prop} (hgd : op.guard = none) (x y : Operand) (ho : op.op = .store 101 x y)
    (b : Nat) (zs ys : List Int) (hA : Ark w b zs) (hx : a.eval x = .pointer (some ⟨b, 0, none⟩)) (hy : a.eval y = .agg (i64s ys)) (hl : ys.length = 12)
    (h : ∀ w', Ark w' b ys → w.grownBy w' (some b) → wpList Try.prog ops Q rest (a.put op.dst undef) w') : wpList Try.prog ops Q (op :: rest) a w := by
  refine wpList_plain hgd fun K hK => ?_
  obtain ⟨w', hrun, h1, h2⟩ := run_store_ark (ys := ys) hA hl
  unfold Oper.wp execOp
  simp only [ho, hx, hy, hrun, Sem.run_bind, Sem.run_pure, Result.andThen_ok]
  exact hK _ _ (h w' h1 h2)

theorem run_loadVar_ark {w : World} {b : Nat} {zs : List Int} (hA : Ark w b zs) : (loadVar 101 ⟨b, 0, none⟩).run Try.prog w = .ok (.agg (i64s zs)) w :=
  run_loadVar_mid w b 0 _ (zs.map (Value.int .i64)) _ hA.range Try.underlying101 rfl (by rw [Try.size101, List.length_map, hA.2])

theorem Ark.set_other {w : World} {b b' k : Nat} {zs : List Int} (h : Ark w b zs) (hne : b ≠ b') (u : Value) : Ark (w.setCell ⟨b', k, none⟩ u) b zs :=
  ⟨by rw [Below.heap_setCell _ _ _ _ (by exact hne)]; exact h.1, h.2⟩

/-- The result that lies in a cell. -/
theorem ret_ark {fn : Func} {R : Ending → World → Prop} {a : Act} {w : World} {p : Tmp} {b : Nat} {zs : List Int} (h : fn.results = #[.cell p 101]) (hp : a.tmps.getD p undef = .pointer (some ⟨b, 0, none⟩)) (hA : Ark w b zs) (hd : a.defers = []) (hR : R (.returned (.agg (i64s zs))) w) : bodyPost Try.prog fn R .ret a w :=
  bodyPost_ret (results_cell_row h a.tmps w b 101 (i64s zs) (0, 0) _ hp hA.1 Try.underlying101 rfl (by rw [Try.size101, i64s_size, hA.2])) hd hR

theorem Ark.new1 (w : World) (o1 : Obj) {zs : List Int} (hl : zs.length = 12) : Ark ((w.alloc o1).alloc (.cells (i64s zs) 101)) (w.heap.size + 1) zs := by
  have := Ark.new (w.alloc o1) zs hl
  simpa using this
theorem Ark.new2 (w : World) (o1 o2 : Obj) {zs : List Int} (hl : zs.length = 12) : Ark (((w.alloc o1).alloc o2).alloc (.cells (i64s zs) 101)) (w.heap.size + 2) zs := by
  have := Ark.new1 (w.alloc o1) o2 hl
  simpa using this
theorem Ark.new3 (w : World) (o1 o2 o3 : Obj) {zs : List Int} (hl : zs.length = 12) : Ark ((((w.alloc o1).alloc o2).alloc o3).alloc (.cells (i64s zs) 101)) (w.heap.size + 3) zs := by
  have := Ark.new2 (w.alloc o1) o2 o3 hl
  simpa using this


end Go.Proofs.Ytoiiadiimfohiaa

/- Plain: rows of as many bells with one rank are one. -/
namespace Go.Proofs.Ytoiiadiimfohiaa

theorem cnt_cons (x z : Int) (l : List Int) : cnt x (z :: l) = (if z < x then 1 else 0) + cnt x l := by
  unfold cnt
  by_cases h : z < x
  · rw [List.filter_cons_of_pos (by simpa using h), if_pos h, List.length_cons]; omega
  · rw [List.filter_cons_of_neg (by simpa using h), if_neg h]; omega

theorem cnt_mono {x y : Int} (h : x < y) (l : List Int) : cnt x l ≤ cnt y l ∧ (x ∈ l → cnt x l < cnt y l) := by
  induction l with
  | nil => exact ⟨Nat.le_refl _, fun h => by cases h⟩
  | cons z l ih =>
    rw [cnt_cons, cnt_cons]
    refine ⟨?_, fun hm => ?_⟩
    · split <;> split <;> omega
    · rcases List.mem_cons.1 hm with rfl | hm
      · rw [if_neg (by omega), if_pos h]; omega
      · have := ih.2 hm
        split <;> split <;> omega

theorem rankR_lt : ∀ l : List Int, rankR l < fct l.length
  | [] => by decide
  | x :: xs => by
    have ih := rankR_lt xs
    have hc := cnt_le x xs
    show cnt x xs * fct xs.length + rankR xs < (xs.length + 1) * fct xs.length
    have h1 : cnt x xs * fct xs.length ≤ xs.length * fct xs.length := Nat.mul_le_mul_right _ hc
    rw [Nat.add_mul, Nat.one_mul]
    omega

theorem rankR_inj : ∀ (a b : List Int), a.Perm b → a.Nodup → rankR a = rankR b → a = b
  | [], b, hp, _, _ => (List.nil_perm.1 hp).symm
  | x :: xs, [], hp, _, _ => absurd hp.length_eq (by simp)
  | x :: xs, y :: ys, hp, hn, he => by
    have hl : xs.length = ys.length := by simpa using hp.length_eq
    have h1 := rankR_lt xs
    have h2 := rankR_lt ys
    have he' : cnt x xs * fct xs.length + rankR xs = cnt y ys * fct ys.length + rankR ys := he
    rw [← hl] at he' h2
    have hG := fct_pos xs.length
    have hc : cnt x xs = cnt y ys := by
      have e1 : (cnt x xs * fct xs.length + rankR xs) / fct xs.length = cnt x xs := by
        rw [Nat.mul_comm, Nat.mul_add_div hG, Nat.div_eq_of_lt h1]; rfl
      have e2 : (cnt y ys * fct xs.length + rankR ys) / fct xs.length = cnt y ys := by
        rw [Nat.mul_comm, Nat.mul_add_div hG, Nat.div_eq_of_lt h2]; rfl
      rw [← e1, ← e2, he']
    have hr : rankR xs = rankR ys := by rw [hc] at he'; omega
    have c1 : cnt x (x :: xs) = cnt x xs := by rw [cnt_cons, if_neg (by omega)]; omega
    have c2 : cnt y (y :: ys) = cnt y ys := by rw [cnt_cons, if_neg (by omega)]; omega
    have exy : x = y := by
      rcases Int.lt_trichotomy x y with h | h | h
      · have h3 := (cnt_mono h (x :: xs)).2 List.mem_cons_self
        rw [cnt_perm hp (x := y), c1, c2] at h3
        omega
      · exact h
      · have h3 := (cnt_mono h (y :: ys)).2 List.mem_cons_self
        rw [← cnt_perm hp (x := x), c1, c2] at h3
        omega
    subst exy
    rw [rankR_inj xs ys ((List.perm_cons x).1 hp) (List.nodup_cons.1 hn).2 hr]

theorem rank_inj {a b : List Int} (ha : isRow a) (hb : isRow b) (hl : b.length = a.length) (h : rkTo a a.length = rkTo b b.length) : a = b := by
  rw [rkTo_all, rkTo_all] at h
  refine rankR_inj a b ((row_perm_rnd ha).trans ?_) ha.2 h
  rw [← hl]
  exact (row_perm_rnd hb).symm

end Go.Proofs.Ytoiiadiimfohiaa

/- Plain: the rows that lead from rows to rows. -/
namespace Go.Proofs.Ytoiiadiimfohiaa
open Go.RowKit

/-- What undoes a row. -/
def un (r : List Int) : List Int := (List.range r.length).map (fun (i : Nat) => ((((List.range r.length).find? (fun j => r.getD j 0 == (i : Int))).getD 0 : Nat) : Int))

theorem un_undoes {r : List Int} (hr : isRow r) : Undoes (un r) r := by
  refine ⟨by simp [un], fun j hj => ?_⟩
  have h1 := hr.at hj
  obtain ⟨m, hm⟩ := Int.eq_ofNat_of_zero_le h1.1
  have hm2 : m < r.length := by omega
  rw [hm, Int.toNat_natCast]
  have e : (un r).getD m 0 = ((((List.range r.length).find? (fun j => r.getD j 0 == (m : Int))).getD 0 : Nat) : Int) := by
    simp [un, List.getD, hm2]
  rw [e]
  cases hf : (List.range r.length).find? (fun j => r.getD j 0 == (m : Int)) with
  | none =>
    have := List.find?_eq_none.1 hf j (List.mem_range.2 hj)
    simp only [beq_iff_eq] at this
    exact absurd hm this
  | some j' =>
    have h2 := List.find?_some hf
    have h3 := List.mem_range.1 (List.mem_of_find?_eq_some hf)
    simp only [beq_iff_eq] at h2
    have := hr.inj h3 hj (by rw [h2]; exact hm.symm)
    rw [this]
    rfl

theorem undoes_un {zs r : List Int} (hr : isRow r) (h : Undoes zs r) : zs = un r := by
  have hu := un_undoes hr
  refine List.ext_getElem (by rw [h.1, hu.1]) (fun i h1 h2 => ?_)
  have hi : i < r.length := by rw [← h.1]; exact h1
  obtain ⟨j, hj, e⟩ := isRow_onto hr hi
  have a1 := h.2 j hj
  have a2 := hu.2 j hj
  rw [e, Int.toNat_natCast] at a1 a2
  simp only [List.getD, List.getElem?_eq_getElem h1, List.getElem?_eq_getElem h2, Option.getD_some] at a1 a2
  rw [a1, a2]

structure Rw (n : Nat) (r : List Int) : Prop where
  row : isRow r
  len : r.length = n

theorem Rw.un {n : Nat} {r : List Int} (h : Rw n r) : Rw n (un r) := ⟨isRow_undoes h.row (un_undoes h.row), by rw [(un_undoes h.row).1, h.len]⟩

theorem Rw.by {n : Nat} {a b : List Int} (ha : Rw n a) (hb : Rw n b) : Rw n (by_ a b) := ⟨isRow_by ha.row hb.row (by rw [ha.len, hb.len]), by rw [by_length, hb.len]⟩

theorem Rw.rnd (n : Nat) : Rw n (rnd n) := ⟨isRow_rnd n, rnd_length n⟩

theorem Rw.pad_un {n : Nat} (h12 : n ≤ 12) {r : List Int} (h : Rw n r) : pad (Go.Proofs.Ytoiiadiimfohiaa.un r) = (pad r)⁻¹ := pad_undoes (by rw [h.len]; exact h12) h.row (un_undoes h.row)

theorem Rw.pad_by {n : Nat} (h12 : n ≤ 12) {a b : List Int} (ha : Rw n a) (hb : Rw n b) : pad (by_ a b) = pad a * pad b := Go.Proofs.Ytoiiadiimfohiaa.pad_by (by rw [ha.len]; exact h12) ha.row hb.row (by rw [ha.len, hb.len])

theorem Rw.eq {n : Nat} (h12 : n ≤ 12) {a b : List Int} (ha : Rw n a) (hb : Rw n b) (h : pad a = pad b) : a = b := pad_inj (by rw [ha.len]; exact h12) ha.row hb.row (by rw [ha.len, hb.len]) h

/-- All rows that make one of another. -/
def pr (L : List (List Int)) : List (List Int) := L.flatMap (fun one => L.map (fun other => by_ other (un one)))

def stp1 (n : Nat) (acc : List (List Int)) (h : List Int) : List (List Int) := if h = rnd n ∨ h ∈ acc then acc else acc ++ [h]

def hdsTo (n : Nat) (ps : List (List Int)) : List (List Int) := ps.foldl (stp1 n) []

theorem hdsTo_snoc (n : Nat) (ps : List (List Int)) (h : List Int) : hdsTo n (ps ++ [h]) = stp1 n (hdsTo n ps) h := by simp [hdsTo, List.foldl_append]

theorem snoc_ind {α : Type} {p : List α → Prop} (h0 : p []) (h1 : ∀ l x, p l → p (l ++ [x])) (l : List α) : p l := by
  have key : ∀ r : List α, p r.reverse := fun r => by
    induction r with
    | nil => simpa using h0
    | cons x r ih => rw [List.reverse_cons]; exact h1 _ _ ih
  have := key l.reverse
  rwa [List.reverse_reverse] at this

theorem sum_const {α : Type} (c : Nat) : ∀ l : List α, (l.map (fun _ => c)).sum = l.length * c
  | [] => by simp
  | _ :: l => by rw [List.map_cons, List.sum_cons, sum_const c l, List.length_cons, Nat.succ_mul]; omega

theorem hdsTo_fact (n : Nat) (ps : List (List Int)) : (hdsTo n ps).Nodup ∧ (∀ h, h ∈ hdsTo n ps ↔ h ∈ ps ∧ h ≠ rnd n) ∧ (hdsTo n ps).length ≤ ps.length := by
  refine snoc_ind (p := fun ps => (hdsTo n ps).Nodup ∧ (∀ h, h ∈ hdsTo n ps ↔ h ∈ ps ∧ h ≠ rnd n) ∧ (hdsTo n ps).length ≤ ps.length) ?_ ?_ ps
  · exact ⟨by simp [hdsTo], by simp [hdsTo], by simp [hdsTo]⟩
  · intro ps x ih
    obtain ⟨a1, a2, a3⟩ := ih
    rw [hdsTo_snoc]
    unfold stp1
    by_cases hx : x = rnd n ∨ x ∈ hdsTo n ps
    · rw [if_pos hx]
      refine ⟨a1, fun h => ?_, by rw [List.length_append]; exact Nat.le_trans a3 (Nat.le_add_right _ _)⟩
      rw [a2 h, List.mem_append, List.mem_singleton]
      constructor
      · exact fun ⟨b1, b2⟩ => ⟨Or.inl b1, b2⟩
      · rintro ⟨b1 | rfl, b2⟩
        · exact ⟨b1, b2⟩
        · exact (a2 h).1 (hx.resolve_left b2)
    · rw [if_neg hx]
      have hx1 : x ≠ rnd n := fun e => hx (Or.inl e)
      have hx2 : x ∉ hdsTo n ps := fun e => hx (Or.inr e)
      refine ⟨List.nodup_append.2 ⟨a1, by simp, fun a ha b hb => by simp at hb; subst hb; exact fun e => hx2 (e ▸ ha)⟩, fun h => ?_, by simp; exact a3⟩
      rw [List.mem_append, a2 h, List.mem_append, List.mem_singleton]
      constructor
      · rintro (⟨b1, b2⟩ | rfl)
        · exact ⟨Or.inl b1, b2⟩
        · exact ⟨Or.inr rfl, hx1⟩
      · rintro ⟨b1 | rfl, b2⟩
        · exact Or.inl ⟨b1, b2⟩
        · exact Or.inr rfl

theorem pr_mem {L : List (List Int)} {h : List Int} : h ∈ pr L ↔ ∃ one, one ∈ L ∧ ∃ other, other ∈ L ∧ by_ other (un one) = h := by
  simp [pr, List.mem_flatMap, List.mem_map]

theorem pr_rows {n : Nat} {L : List (List Int)} (hL : ∀ r, r ∈ L → Rw n r) : ∀ h, h ∈ pr L → Rw n h := by
  intro h hh
  obtain ⟨one, h1, other, h2, rfl⟩ := pr_mem.1 hh
  exact (hL _ h2).by (hL _ h1).un

theorem pr_un {n : Nat} (h12 : n ≤ 12) {L : List (List Int)} (hL : ∀ r, r ∈ L → Rw n r) {h : List Int} (hh : h ∈ pr L) : un h ∈ pr L := by
  obtain ⟨one, h1, other, h2, rfl⟩ := pr_mem.1 hh
  refine pr_mem.2 ⟨other, h2, one, h1, ?_⟩
  have r1 := hL _ h1
  have r2 := hL _ h2
  refine Rw.eq h12 (r1.by r2.un) (r2.by r1.un).un ?_
  rw [(r2.by r1.un).pad_un h12, r1.pad_by h12 r2.un, r2.pad_by h12 r1.un, r1.pad_un h12, r2.pad_un h12, Pm.inv_prod, Pm.inv_inv]

theorem un_rnd {n : Nat} (h12 : n ≤ 12) {h : List Int} (hr : Rw n h) (e : un h = rnd n) : h = rnd n := by
  refine Rw.eq h12 hr (Rw.rnd n) ?_
  have := hr.pad_un h12
  rw [e, pad_rnd h12] at this
  rw [pad_rnd h12, ← Pm.inv_inv (pad h), ← this, Pm.inv_one]

theorem pr_length (L : List (List Int)) : (pr L).length = L.length * L.length := by
  unfold pr
  rw [List.length_flatMap]
  simp only [List.length_map]
  exact sum_const _ L

/-- The false heads of the rows of a lead. -/
def hds (n : Nat) (L : List (List Int)) : List (List Int) := hdsTo n (pr L)

end Go.Proofs.Ytoiiadiimfohiaa

/- Contract: truth.keyOf; its maps at the operation. -/
namespace Go.Proofs.Ytoiiadiimfohiaa
open Go.RowKit Go.Maps

theorem laidT : laidOutB Try.prog = true := by kernel_rfl

theorem keyT : KeyT 101 3 .i64 where
  arr := Try.underlying101
  int := Try.underlying3
  cK := by kernel_rfl
  cE := by kernel_rfl
  ok := by kernel_rfl
  low := of_decide_eq_true (by kernel_rfl)
  keyed := Keyed.of_law (deep_law_gate laidT (of_decide_eq_true (by kernel_rfl)) (of_decide_eq_true (by kernel_rfl)) (by kernel_rfl) (by rw [Try.underlying101]))

/-- A row as a key. -/
def kp (r : List Int) : List Int := r ++ zerosK.drop r.length

theorem kp_length {r : List Int} (h : r.length ≤ 12) : (kp r).length = 12 := by
  unfold kp
  rw [List.length_append, List.length_drop]
  have : zerosK.length = 12 := rfl
  omega

theorem kp_inj {n : Nat} {a b : List Int} (ha : a.length = n) (hb : b.length = n) (h : kp a = kp b) : a = b := by
  unfold kp at h
  have := congrArg (List.take n) h
  rwa [List.take_left' ha, List.take_left' hb] at this

theorem kp_ok {n : Nat} (h12 : n ≤ 12) {r : List Int} (h : Rw n r) : OkK .i64 (kp r) := by
  refine ⟨kp_length (by rw [h.len]; exact h12), fun z hz => ?_⟩
  unfold kp at hz
  rcases List.mem_append.1 hz with hz | hz
  · have := h.row.1 z hz
    rw [h.len] at this
    exact WalkArith.wf_i64 ⟨by omega, by omega⟩
  · have h0 : z = 0 := by
      have := List.mem_of_mem_drop hz
      simp [zerosK] at this
      exact this
    subst h0
    decide

set_option maxRecDepth 20000 in
set_option maxHeartbeats 2000000 in
theorem keyOf_ok (v : Value) (r : List Int) (w : World) (h : Ints w v r) (h1 : 1 ≤ r.length) (h12 : r.length ≤ 12) :
    Calls Try.prog 56 #[v] w fun e w' => e = .returned (kv .i64 (kp r)) ∧ Below w.heap.size w w' := by
  rcases h with ⟨rfl, _⟩ | ⟨b, off, cap, rfl, h0, hc, hm, hb, hcell⟩
  · simp at h1
  have HC := hide hcell
  have HK : Hid (kv .i64 (kp r) = .agg (i64s (kp r))) := rfl
  have hkl := kp_length h12
  have hA0 := Ark.new1 w (.cells (i64s zerosK) 101) (zs := zerosK) rfl
  have hR0 := (Ark.new w zerosK rfl).alloc (.cells (i64s zerosK) 101)
  have hB0 : Below w.heap.size w ((w.alloc (.cells (i64s zerosK) 101)).alloc (.cells (i64s zerosK) 101)) := ((Below.refl _ _).alloc (Nat.le_refl _) _).alloc (by simp) _
  have HKP : Hid (kp r = r ++ zerosK.drop r.length) := rfl
  generalize kp r = K at *
  generalize hrl : r.length = n at *
  clear hcell
  go_enter Try.func56, Try.ntmps56
  go_wp2_with (refine wpList_copy_splice (B := w.heap.size + 1) (w0 := (w.alloc (.cells (i64s zerosK) 101)).alloc (.cells (i64s zerosK) 101)) rfl _ _ 26 26 rfl 3 Try.underlying26 (by kernel_rfl) (some ⟨w.heap.size + 1, 0, none⟩) (some ⟨b, off, none⟩) 12 12 n cap rfl rfl (w.heap.size + 1) 0 (zerosK.map (Value.int .i64)) 101 hA0.1 (r.map (Value.int .i64)) ?c1 ?c2 ?c3 ?c4 (Below.refl _ _) (Nat.le_refl _) ?_)
  case c1 => rw [List.length_map, hrl]; exact (Nat.min_eq_left h12).symm
  case c2 => intro j x hj; have hj' := (List.getElem?_eq_some_iff.1 hj).1; rw [HC.out j (by omega)]; simp [List.getD, hj]
  case c3 => first | omega | (simp [zerosK]; omega)
  case c4 => first | (intro u hu; simp at hu; obtain ⟨z, _, rfl⟩ := hu; rfl) | (intro z hz; rfl) | simp
  intro w1 hg1 hb1
  have hA1 : Ark w1 (w.heap.size + 1) K := by
    refine ⟨?_, hkl⟩
    rw [hg1.out, HKP.out]
    congr 2
    unfold i64s splice
    simp [hrl]
  have hR1 : Ark w1 w.heap.size zerosK := hR0.below hb1 (by omega)
  have hB1 : Below w.heap.size w w1 := hB0.trans (hb1.mono (by omega))
  clear hA0 hR0 hB0 hg1 hb1
  go_wp2_with (first | refine wpList_load_ark rfl _ rfl _ _ hA1 rfl ?_ | (refine wpList_store_ark rfl _ _ rfl _ _ _ hR1 rfl rfl hkl ?_; intro w2 hR2 hg2))
  go_wp2
  exact ret_ark rfl rfl hR2 rfl ⟨by rw [HK.out], hB1.grown hg2 hB1.size (fun k h => by cases h; exact Nat.le_refl _)⟩

end Go.Proofs.Ytoiiadiimfohiaa

/- Contract: truth.repeated. -/
namespace Go.Proofs.Ytoiiadiimfohiaa
open Go.RowKit Go.Maps

section
variable {ops : Array Oper} {rest : List Oper} {o : Oper} {a : Act} {w : World} {Q : Exit → Act → World → Prop} {K E : TypeId} {q : IntKind} {b n : Nat} {f : List Int → Option Value}

theorem wpList_klook (hg : o.guard = none) (m x : Operand) (t : TypeId) (hop : o.op = Op.lookup t m x true) (e : TypeId) (ht : Try.prog.underlying t = some (.map K e)) {z : Value} (hz : (zeroValue e).run Try.prog w = .ok z w)
    (hK : KeyT K E q) (h : KMap K q w b n f) (zs : List Int) (hzs : OkK q zs) (hm : a.eval m = .map (some b)) (hx : a.eval x = kv q zs)
    (hC : wpList Try.prog ops Q rest (a.put o.dst (.tuple #[(f zs).getD z, .bool (f zs).isSome])) w) : wpList Try.prog ops Q (o :: rest) a w := by
  refine wpList_plain hg fun K' hK' => ?_
  have hrun := h.look_ok hK ht hz hzs
  unfold Oper.wp
  simp [execOp, hop, hm, hx, hrun, Result.andThen]
  exact hK' _ _ hC

theorem wpList_kput (hg : o.guard = none) (m x v : Operand) (t : TypeId) (hop : o.op = Op.mapUpdate t m x v) (e : TypeId) (ht : Try.prog.underlying t = some (.map K e))
    (hK : KeyT K E q) (h : KMap K q w b n f) (hn : n < maxLen) (zs : List Int) (hzs : OkK q zs) (val : Value) (hm : a.eval m = .map (some b)) (hx : a.eval x = kv q zs) (hv : a.eval v = val)
    (hC : ∀ w', KMap K q w' b (n + 1) (kupd f zs val) → w.grownBy w' (some b) → wpList Try.prog ops Q rest (a.put o.dst undef) w') : wpList Try.prog ops Q (o :: rest) a w := by
  refine wpList_plain hg fun K' hK' => ?_
  obtain ⟨w', hrun, r1, r2⟩ := h.put hK ht hn hzs val
  unfold Oper.wp
  simp [execOp, hop, hm, hx, hv, hrun, Result.andThen]
  exact hK' _ _ (hC w' r1 r2)

theorem wpList_kinsert (hg : o.guard = none) (m x v : Operand) (t : TypeId) (hop : o.op = Op.insert t m x v) (e : TypeId) (ht : Try.prog.underlying t = some (.map K e))
    (hK : KeyT K E q) (h : KMap K q w b n f) (hn : n < maxLen) (zs : List Int) (hzs : OkK q zs) (val : Value) (hm : a.eval m = .map (some b)) (hx : a.eval x = kv q zs) (hv : a.eval v = val)
    (hC : ∀ w', KMap K q w' b (n + 1) (kupd f zs val) → w.grownBy w' (some b) → wpList Try.prog ops Q rest (a.put o.dst undef) w') : wpList Try.prog ops Q (o :: rest) a w := by
  refine wpList_plain hg fun K' hK' => ?_
  obtain ⟨w', hrun, r1, r2⟩ := h.put hK ht hn hzs val
  unfold Oper.wp
  simp [execOp, hop, hm, hx, hv, hrun, Result.andThen]
  exact hK' _ _ (hC w' r1 r2)
end

theorem KMap.kept {K : TypeId} {q : IntKind} {w w' : World} {b n g : Nat} {f : List Int → Option Value} (h : KMap K q w b n f) (hg : w.grownBy w' (some g)) (hne : b ≠ g) : KMap K q w' b n f := h.of_block (hg.block b h.lt (fun e => hne (Option.some.inj e)))

/-- What the loop knows of the rows that it has seen. -/
structure Seen (n : Nat) (L : List (List Int)) (k : Nat) (f : List Int → Option Value) : Prop where
  old : ∀ x, Rw n x → ((f (kp x)).isSome = true ↔ x ∈ L.take k)
  nodup : (L.take k).Nodup
  ints : ∀ zs v, f zs = some v → ∃ i, v = .int .i64 i

theorem seen_next {n k : Nat} {L : List (List Int)} {f : List Int → Option Value} (h : Seen n L k f) (hk : k < L.length) (hr : Rw n (L.getD k [])) (hn : f (kp (L.getD k [])) = none) (j : Int) : Seen n L (k + 1) (kupd f (kp (L.getD k [])) (.int .i64 j)) := by
  have ht : L.take (k + 1) = L.take k ++ [L.getD k []] := by
    rw [List.take_add_one, List.getElem?_eq_getElem hk]; simp [List.getD, List.getElem?_eq_getElem hk]
  have hnot : L.getD k [] ∉ L.take k := fun hm => by
    have := (h.old _ hr).2 hm
    rw [hn] at this
    cases this
  refine ⟨fun x hx => ?_, ?_, fun zs v hv => ?_⟩
  · rw [ht, List.mem_append, List.mem_singleton]
    unfold kupd
    by_cases e : kp x = kp (L.getD k [])
    · rw [if_pos e]
      have : x = L.getD k [] := kp_inj hx.len hr.len e
      simp [this]
    · rw [if_neg e, h.old x hx]
      exact ⟨Or.inl, fun h1 => h1.resolve_right (fun h2 => e (by rw [h2]))⟩
  · rw [ht]
    exact List.nodup_append.2 ⟨h.nodup, by simp, fun a ha b hb e => by rw [List.mem_singleton] at hb; rw [e, hb] at ha; exact hnot ha⟩
  · unfold kupd at hv
    by_cases e : zs = kp (L.getD k [])
    · rw [if_pos e] at hv; exact ⟨j, (Option.some.inj hv).symm⟩
    · rw [if_neg e] at hv; exact h.ints zs v hv

def RepPost (L : List (List Int)) (w : World) (e : Ending) (w' : World) : Prop :=
  ∃ (i j : Int) (t : Bool), e = .returned (.tuple #[.int .i64 i, .int .i64 j, .bool t]) ∧ (t = false ↔ L.Nodup) ∧ Below w.heap.size w w'

set_option maxRecDepth 20000 in
set_option maxHeartbeats 4000000 in
theorem repeated_ok (n : Nat) (v : Value) (L : List (List Int)) (w : World) (hv : IntsAll w v L) (h1 : 1 ≤ n) (h12 : n ≤ 12) (hL : ∀ r, r ∈ L → Rw n r) (hl1 : 1 ≤ L.length) (hl2 : L.length ≤ 1000) :
    Calls Try.prog 26 #[v] w (RepPost L w) := by
  have hmm := @run_makeMap Try.prog
  obtain ⟨b, off, cap, rfl, hb, hlc, hcm, hcell⟩ := hv.cell hl1
  have HC := hide hcell
  have HL := hide hL
  clear hv hcell hL
  go_enter Try.func26, Try.ntmps26
  go_wp2
  go_loopw [14] (fun i wr => ∃ (k : Nat) (f : List Int → Option Value), k ≤ L.length ∧ i = .int .i64 k ∧ Hid (KMap 101 .i64 wr w.heap.size k f) ∧ Hid (Seen n L k f) ∧ Below w.heap.size w wr) (fun i _ => L.length - (intOf i).toNat)
  case atStart => exact ⟨0, fun _ => none, by omega, rfl, KMap.made _ _ w, ⟨(fun x _ => ⟨(fun h => by cases h), (fun h => by simp at h)⟩), by simp, (fun _ _ h => by cases h)⟩, (Below.refl _ _).alloc (Nat.le_refl _) _⟩
  case round =>
    obtain ⟨k, f, hk, rfl, hM, hS, hbw⟩ := hrel
    have hbs := hbw.size
    by_cases hlt : k < L.length
    · obtain ⟨p, c, hce, hint⟩ := HC.out k hlt
      have hRw : Rw n (L.getD k []) := HL.out _ (by rw [List.getD_eq_getElem?_getD, List.getElem?_eq_getElem hlt]; exact List.getElem_mem hlt)
      have gp : wr.cell? ⟨b, off + k, none⟩ = some (.slice p (L.getD k []).length c) := (hbw.cell (by exact hb)).trans hce
      have HKO := hide (keyOf_ok _ _ wr (hint.out.below hbw) (by rw [hRw.len]; exact h1) (by rw [hRw.len]; exact h12))
      have hok := kp_ok h12 hRw
      have HN : Hid (L.Nodup → L.getD k [] ∉ L.take k) := by
        intro hnd hm
        have e : L = L.take k ++ (L.getD k [] :: L.drop (k + 1)) := by
          have := List.take_append_drop k L
          rw [List.drop_eq_getElem_cons hlt] at this
          rw [List.getD_eq_getElem?_getD, List.getElem?_eq_getElem hlt, Option.getD_some]
          exact this.symm
        rw [e] at hnd
        exact (List.nodup_append.1 hnd).2.2 _ hm _ List.mem_cons_self rfl
      have HSN := hide (fun hn j => seen_next hS.out hlt hRw hn j)
      have HSO := hide (fun h => (hS.out.old _ hRw).1 h)
      have HSI := hide (fun v h => hS.out.ints (kp (L.getD k [])) v h)
      clear hce hint
      generalize hR : L.getD k [] = R at *
      generalize R.length = rl at *
      have hMl := hM.out.lt
      have hkm : k < maxLen := by unfold maxLen; omega
      have HKM := hide hkm
      clear hkm
      cases hf : f (kp R) with
      | some u =>
        obtain ⟨i, rfl⟩ := HSI.out u hf
        have HNN : Hid (L.Nodup → True = False) := fun hnd => absurd (HSO.out (by rw [hf]; rfl)) (HN.out hnd)
        have HF := hide hf
        clear hf
        go_wp2_with fail
        refine HKO.out.mono ?_
        rintro e w1 ⟨rfl, hb1⟩
        have hbs1 := hb1.size
        have hM2 := (hM.out.below hb1 hMl).alloc (.cells (i64s zerosK) 101)
        have hZ := Ark.new w1 zerosK rfl
        go_upto_region 6 with (refine wpList_store_ark rfl _ _ rfl _ zerosK (kp R) hZ rfl rfl hok.1 ?_; intro w3 hA3 hg3)
        have hM3 := hM2.kept hg3 (by omega)
        have hB3 : Below w.heap.size w w3 := ((hbw.trans (hb1.mono hbs)).alloc (by omega) _).grown hg3 (by simp; omega) (fun g hg => by cases hg; omega)
        have HP : Hid (RepPost L w (.returned (.tuple #[.int .i64 k, .int .i64 i, .bool true])) w3) := ⟨_, _, _, rfl, ⟨(fun h => by cases h), fun hnd => (by have := HNN.out hnd; exact absurd trivial (by rw [this]; exact id))⟩, hB3⟩
        go_wp2_with (first | refine wpList_load_ark rfl _ rfl _ _ hA3 rfl ?_ | (refine wpList_klook rfl _ _ _ rfl _ Try.underlying99 (Try.zero3 _) keyT hM3 (kp R) hok rfl rfl ?_; rw [HF.out]))
        go_wp2
        go_ret3
        exact HP.out
      | none =>
        have HF := hide hf
        clear hf
        go_wp2_with fail
        refine HKO.out.mono ?_
        rintro e w1 ⟨rfl, hb1⟩
        have hbs1 := hb1.size
        have hM2 := (hM.out.below hb1 hMl).alloc (.cells (i64s zerosK) 101)
        have hZ := Ark.new w1 zerosK rfl
        go_upto_region 6 with (refine wpList_store_ark rfl _ _ rfl _ zerosK (kp R) hZ rfl rfl hok.1 ?_; intro w3 hA3 hg3)
        have hM3 := hM2.kept hg3 (by omega)
        have hB3 : Below w.heap.size w w3 := ((hbw.trans (hb1.mono hbs)).alloc (by omega) _).grown hg3 (by simp; omega) (fun g hg => by cases hg; omega)
        go_wp2_with (first | refine wpList_load_ark rfl _ rfl _ _ hA3 rfl ?_ | (refine wpList_klook rfl _ _ _ rfl _ Try.underlying99 (Try.zero3 _) keyT hM3 (kp R) hok rfl rfl ?_; rw [HF.out]) | (refine wpList_kput rfl _ _ _ _ rfl _ Try.underlying99 keyT hM3 HKM.out (kp R) hok (.int .i64 k) rfl rfl rfl ?_; intro w4 hM4 hg4))
        have hB4 : Below w.heap.size w w4 := hB3.grown hg4 hB3.size (fun g hg => by cases hg; exact Nat.le_refl _)
        have HM4 := hide hM4
        have HS4 := hide (HSN.out HF.out (k : Int))
        go_wp2
        go_roundw
        case rel => exact ⟨k + 1, _, by omega, by go_num, HM4, HS4, hB4⟩
        case measure => simp [intOf]; omega
    · have HND : Hid L.Nodup := by
        have h9 := hS.out.nodup
        rw [List.take_of_length_le (by omega)] at h9
        exact h9
      have HP : Hid (RepPost L w (.returned (.tuple #[.int .i64 0, .int .i64 0, .bool false])) wr) := ⟨0, 0, false, rfl, ⟨fun _ => HND.out, fun _ => rfl⟩, hbw⟩
      go_wp2
      go_ret3
      exact HP.out

end Go.Proofs.Ytoiiadiimfohiaa

/- Contract: truth.between. -/
namespace Go.Proofs.Ytoiiadiimfohiaa
open Go.RowKit Go.Maps

theorem KMap.obj {K : TypeId} {q : IntKind} {w : World} {b n : Nat} {f : List Int → Option Value} (h : KMap K q w b n f) : ∃ es clock, w.heap[b]? = some (.map es clock) := by
  obtain ⟨D, ⟨es, c, h1, _⟩, _⟩ := h; exact ⟨es, c, h1⟩

theorem owns_kmap {K : TypeId} {q : IntKind} {w w' : World} {base e size n m k : Nat} {v : Value} {xs : List Value} {f : List Int → Option Value} (h : w.ownsRow base e size v n xs) (hm : KMap K q w m k f) (hg : w.grownBy w' (some m)) : w'.ownsRow base e size v n xs := by
  refine ⟨h.1, ?_⟩
  rcases h.2 with h2 | ⟨g, cap, cur, hv, hgg, hh, r⟩
  · exact Or.inl h2
  · refine Or.inr ⟨g, cap, cur, hv, hgg, ?_, r⟩
    rw [hg.block g (Array.getElem?_eq_some_iff.1 hh).1 (fun e' => ?_)]
    · exact hh
    · obtain ⟨es, c, ho⟩ := hm.obj
      injection e' with e'
      rw [← e', hh] at ho
      cases ho

theorem LL.kmap {K : TypeId} {q : IntKind} {w w' : World} {base m k : Nat} {v : Value} {vs : List Value} {xss : List (List Int)} {f : List Int → Option Value} (h : LL w base v vs xss) (hm : KMap K q w m k f) (hg : w.grownBy w' (some m)) : LL w' base v vs xss :=
  ⟨owns_kmap h.row hm hg, h.all.mono (fun _ _ _ h' => owns_kmap h' hm hg)⟩

theorem KMap.row {K : TypeId} {q : IntKind} {w w' : World} {base e size n m k : Nat} {v : Value} {xs : List Value} {f : List Int → Option Value} (hm : KMap K q w m k f) (h : w.ownsRow base e size v n xs) (hg : w.grownBy w' v.ownBlock) : KMap K q w' m k f := by
  refine hm.of_block (hg.block m hm.lt (fun e' => ?_))
  rcases h.2 with ⟨h2, _⟩ | ⟨g, cap, cur, hv, hgg, hh, r⟩
  · rw [h2] at e'; cases e'
  · rw [hv] at e'
    have e2 : g = m := by cases e'; rfl
    obtain ⟨es, c, ho⟩ := hm.obj
    rw [← e2, hh] at ho
    cases ho

/-- What the map tells. -/
def FS (n : Nat) (acc : List (List Int)) (f : List Int → Option Value) : Prop := ∀ x, Rw n x → ((f (kp x)).isSome = true ↔ x = rnd n ∨ x ∈ acc)

theorem FS.add {n : Nat} {acc : List (List Int)} {f : List Int → Option Value} (h : FS n acc f) {r : List Int} (hr : Rw n r) (v : Value) : FS n (acc ++ [r]) (kupd f (kp r) v) := by
  intro x hx
  unfold kupd
  by_cases e : kp x = kp r
  · rw [if_pos e]
    have : x = r := kp_inj hx.len hr.len e
    subst this
    simp
  · rw [if_neg e, h x hx, List.mem_append, List.mem_singleton]
    constructor
    · rintro (h1 | h1)
      · exact Or.inl h1
      · exact Or.inr (Or.inl h1)
    · rintro (h1 | h1 | h1)
      · exact Or.inl h1
      · exact Or.inr h1
      · exact absurd (by rw [h1]) e

theorem FS.start {n : Nat} (v : Value) : FS n [] (kupd (fun _ => none) (kp (rnd n)) v) := by
  intro x hx
  unfold kupd
  by_cases e : kp x = kp (rnd n)
  · rw [if_pos e]
    have : x = rnd n := kp_inj hx.len (rnd_length n) e
    simp [this]
  · rw [if_neg e]
    constructor
    · intro h; cases h
    · rintro (rfl | h)
      · exact absurd rfl e
      · cases h

theorem flat_get {α β : Type} (F : α → List β) (k : Nat) (hF : ∀ a, (F a).length = k) : ∀ (l : List α) (p q : Nat) (hp : p < l.length), q < k → (l.flatMap F)[p * k + q]? = (F l[p])[q]?
  | [], p, q, hp, _ => absurd hp (Nat.not_lt_zero _)
  | a :: l, 0, q, _, hq => by
    rw [List.flatMap_cons, Nat.zero_mul, Nat.zero_add, List.getElem?_append_left (by rw [hF]; exact hq)]
    rfl
  | a :: l, p + 1, q, hp, hq => by
    rw [List.flatMap_cons, List.getElem?_append_right (by rw [hF, Nat.succ_mul]; omega), hF, show (p + 1) * k + q - k = p * k + q from by rw [Nat.succ_mul]; omega]
    exact flat_get F k hF l p q (by simpa using hp) hq

theorem pr_next {L : List (List Int)} {p q : Nat} (hp : p < L.length) (hq : q < L.length) : (pr L).take (p * L.length + q + 1) = (pr L).take (p * L.length + q) ++ [by_ (L.getD q []) (un (L.getD p []))] := by
  have h : (pr L)[p * L.length + q]? = some (by_ (L.getD q []) (un (L.getD p []))) := by
    unfold pr
    rw [flat_get _ L.length (fun a => List.length_map _) L p q hp hq, List.getElem?_map, List.getElem?_eq_getElem hq]
    simp [List.getD, List.getElem?_eq_getElem hq, List.getElem?_eq_getElem hp]
  rw [List.take_add_one, h]
  rfl

end Go.Proofs.Ytoiiadiimfohiaa

/- Contract: truth.between. -/
namespace Go.Proofs.Ytoiiadiimfohiaa
open Go.RowKit Go.Maps

/-- What both loops know. -/
structure BRel (n : Nat) (w wr : World) (M m : Nat) (hv : Value) (vs : List Value) (acc : List (List Int)) (f : List Int → Option Value) : Prop where
  map : KMap 101 .i64 wr M m f
  fs : FS n acc f
  ll : LL wr w.heap.size hv vs acc
  below : Below w.heap.size w wr

theorem BRel.later {n : Nat} {w wr w' : World} {M m : Nat} {hv : Value} {vs : List Value} {acc : List (List Int)} {f : List Int → Option Value} (h : BRel n w wr M m hv vs acc f) (hb : Below wr.heap.size wr w') : BRel n w w' M m hv vs acc f :=
  ⟨h.map.below hb h.map.lt, h.fs, h.ll.below hb, h.below.trans (hb.mono h.below.size)⟩

def BetPost (n : Nat) (L : List (List Int)) (w : World) (e : Ending) (w' : World) : Prop := ∃ u vs, e = .returned u ∧ LL w' w.heap.size u vs (hds n L) ∧ Below w.heap.size w w'

set_option maxRecDepth 20000 in
set_option maxHeartbeats 8000000 in
theorem between_ok (n : Nat) (v : Value) (L : List (List Int)) (w : World) (hv : IntsAll w v L) (h1 : 1 ≤ n) (h12 : n ≤ 12) (hL : ∀ r, r ∈ L → Rw n r) (hl1 : 1 ≤ L.length) (hl2 : L.length ≤ 200) :
    Calls Try.prog 32 #[v] w (BetPost n L w) := by
  have hmm := @run_makeMap Try.prog
  obtain ⟨j0, hj, hq0, hq1, hq2⟩ := info_parts Try.info26
  obtain ⟨b, off, cap, rfl, hb, hlc, hcm, hcell⟩ := hv.cell hl1
  have HC := hide hcell
  have HL : Hid (∀ k, k < L.length → Rw n (L.getD k [])) := fun k hk => hL _ (by rw [List.getD_eq_getElem?_getD, List.getElem?_eq_getElem hk]; exact List.getElem_mem hk)
  clear hv hcell hL
  obtain ⟨p0, c0, g0, _⟩ := HC.out 0 (by omega)
  rw [(HL.out 0 (by omega)).len, Nat.add_zero] at g0
  go_enter Try.func32, Try.ntmps32
  go_wp2_with fail
  refine (rounds_ok n w h1 h12).mono ?_
  rintro e w1 ⟨r0, rfl, hr0, hb1⟩
  have hbs1 := hb1.size
  have HK0 := hide (keyOf_ok r0 (rnd n) (w1.alloc (.map #[] 0)) ((Ints.own hr0).below ((Below.refl _ _).alloc (Nat.le_refl _) _)) (by rw [rnd_length]; exact h1) (by rw [rnd_length]; exact h12))
  obtain ⟨rp, rc, rfl⟩ := owns_slice hr0
  clear hr0 g0
  go_wp2_with fail
  refine HK0.out.mono ?_
  rintro e w2 ⟨rfl, hb2⟩
  have hM2 := (KMap.made 101 .i64 w1).below hb2 (by simp)
  have hok0 := kp_ok h12 (Rw.rnd n)
  have hB2 : Below w.heap.size w w2 := (hb1.alloc hbs1 _).trans (hb2.mono (by simp; omega))
  have HZL : Hid (0 < maxLen) := by unfold Hid maxLen; omega
  clear HK0 hb2
  go_wp2_with (refine wpList_kinsert rfl _ _ _ _ rfl _ Try.underlying99 keyT hM2 HZL.out (kp (rnd n)) hok0 (.int .i64 0) rfl rfl rfl ?_; intro w3 hM3 hg3)
  have HR0 : Hid (BRel n w w3 w1.heap.size 1 (.slice none 0 0) [] (hdsTo n ((pr L).take (0 * L.length))) (kupd (fun _ => none) (kp (rnd n)) (.int .i64 0))) := by
    refine ⟨hM3, ?_, ?_, hB2.grown hg3 hB2.size (fun g hg => by cases hg; exact hbs1)⟩
    · rw [Nat.zero_mul, List.take_zero]; exact FS.start _
    · rw [Nat.zero_mul, List.take_zero]; exact LL.nil _ _
  generalize w1.heap.size = M at *
  clear hM2 hM3 hg3 hB2 hok0 hb1
  go_wp2
  go_loopw [6, 32] (fun hd i wr => ∃ (p : Nat) (f : List Int → Option Value) (m : Nat) (vs : List Value), p ≤ L.length ∧ i = .int .i64 p ∧ Hid (m ≤ 1 + p * L.length) ∧ Hid (BRel n w wr M m hd vs (hdsTo n ((pr L).take (p * L.length))) f)) (fun _ i _ => L.length - (intOf i).toNat)
  case atStart => exact ⟨0, _, 1, [], by omega, rfl, by show 1 ≤ _; omega, HR0⟩
  case round =>
    clear HR0
    obtain ⟨p, f, m, vs, hp, rfl, hm, hR⟩ := hrel
    have hbw := hR.out.below
    have hbs := hbw.size
    obtain ⟨hp', hc', rfl⟩ := owns_slice hR.out.ll.row
    by_cases hlt : p < L.length
    · obtain ⟨p1, c1, hce, hint⟩ := HC.out p hlt
      have hRw := HL.out p hlt
      have gp : wr.cell? ⟨b, off + p, none⟩ = some (.slice p1 (L.getD p []).length c1) := (hbw.cell (by exact hb)).trans hce
      have HBK := hide (back_own _ _ wr (hint.out.below hbw) hRw.row (by rw [hRw.len]; exact h1) (by rw [hRw.len]; exact h12))
      have HU : Hid (∀ zs, Undoes zs (L.getD p []) → zs = un (L.getD p [])) := fun zs h => undoes_un hRw.row h
      have HUR := hide hRw.un
      have HPX : Hid (∀ q, q < L.length → (pr L).take (p * L.length + q + 1) = (pr L).take (p * L.length + q) ++ [by_ (L.getD q []) (un (L.getD p []))]) := fun q hq => pr_next hlt hq
      have hmb : m ≤ 40001 := by
        have := hm.out
        have h3 : p * L.length ≤ 200 * 200 := Nat.mul_le_mul (by omega) (by omega)
        omega
      clear hce hint hRw hmb
      generalize un (L.getD p []) = U at *
      have hpl : (L.getD p []).length = n := (HL.out p hlt).len
      rw [hpl] at gp HBK
      go_wp2_with fail
      refine HBK.out.mono ?_
      rintro e w2 ⟨bv, zs, rfl, hbo, hun, hb2⟩
      have hzu := HU.out zs hun
      subst hzu
      have hR2 := hR.out.later hb2
      have HBI := hide (owns_base hbo hbs)
      obtain ⟨bp, bc, rfl⟩ := owns_slice hbo
      have HI0 : Hid (∃ m', m' ≤ 1 + (p * L.length + 0) ∧ BRel n w w2 M m' (.slice hp' vs.length hc') vs (hdsTo n ((pr L).take (p * L.length + 0))) f) := ⟨m, by rw [Nat.add_zero]; exact hm.out, by rw [Nat.add_zero]; exact hR2⟩
      clear hpl
      clear hbo hun hR2 HBK HU hR
      go_wp2
      go_loopw [6, 43] (fun hd i wl => ∃ (q : Nat) (f : List Int → Option Value) (vs : List Value), q ≤ L.length ∧ i = .int .i64 q ∧ Hid (∃ m', m' ≤ 1 + (p * L.length + q) ∧ BRel n w wl M m' hd vs (hdsTo n ((pr L).take (p * L.length + q))) f) ∧ Hid (wl.ownsRow w.heap.size 3 1 (.slice bp n bc) n (zs.map (Value.int .i64)))) (fun _ i _ => L.length - (intOf i).toNat)
      case atStart => exact ⟨0, f, vs, by omega, rfl, HI0, HBI⟩
      case round =>
        clear HI0 HBI
        obtain ⟨q, f2, vs2, hq, rfl, hI, hBO⟩ := hrel
        obtain ⟨m2, hm2, hB⟩ := hI.out
        have hbw3 := hB.below
        have hbs3 := hbw3.size
        obtain ⟨hp3, hc3, rfl⟩ := owns_slice hB.ll.row
        by_cases hlt2 : q < L.length
        · obtain ⟨p3, c3, hce, hint⟩ := HC.out q hlt2
          have hRq := HL.out q hlt2
          have gq : wr.cell? ⟨b, off + q, none⟩ = some (.slice p3 (L.getD q []).length c3) := (hbw3.cell (by exact hb)).trans hce
          have hT := times_own _ _ (L.getD q []) zs wr (hint.out.below hbw3) (Ints.own hBO.out) hRq.row HUR.out.row (by rw [hRq.len]; exact h1) (by rw [hRq.len]; exact h12) (by rw [HUR.out.len, hRq.len])
          have hHr : Rw n (by_ (L.getD q []) zs) := hRq.by HUR.out
          have HNX := hide (HPX.out q hlt2)
          rw [hRq.len] at hT gq
          have HT := hide hT
          have hmb2 : m2 < maxLen := by
            have h3 : p * L.length ≤ 200 * 200 := Nat.mul_le_mul (by omega) (by omega)
            unfold maxLen
            omega
          have HMB := hide hmb2
          have HM2 := hide hm2
          clear hT hce hint hRq hmb2 hm2
          generalize by_ (L.getD q []) zs = H at *
          have HF := hide (hB.fs H hHr)
          have hok := kp_ok h12 hHr
          have HHR := hide hHr
          have HB := hide hB
          have hvl2 : vs2.length ≤ 40000 := by
            have h3 : p * L.length ≤ 200 * 200 := Nat.mul_le_mul (by omega) (by omega)
            have h4 := (hdsTo_fact n ((pr L).take (p * L.length + q))).2.2
            rw [← hB.ll.len] at h4
            have h5 : ((pr L).take (p * L.length + q)).length ≤ L.length * L.length := by rw [List.length_take, pr_length]; exact Nat.min_le_right _ _
            have h6 : L.length * L.length ≤ 200 * 200 := Nat.mul_le_mul (by omega) (by omega)
            omega
          clear hB hHr hI
          go_wp2_with fail
          refine HT.out.mono ?_
          rintro e w5 ⟨hvv, rfl, hown5, hb5⟩
          have hbs5 := hb5.size
          have HKO := hide (keyOf_ok hvv H w5 (Ints.own hown5) (by rw [HHR.out.len]; exact h1) (by rw [HHR.out.len]; exact h12))
          obtain ⟨hhp, hhc, rfl⟩ := owns_slice hown5
          go_wp2_with fail
          refine HKO.out.mono ?_
          rintro e w6 ⟨rfl, hb6⟩
          have hbs6 := hb6.size
          have hZ := Ark.new w6 zerosK rfl
          clear HT HKO
          go_upto_region 13 with (refine wpList_store_ark rfl _ _ rfl _ zerosK (kp H) hZ rfl rfl hok.1 ?_; intro w7 hA7 hg7)
          have hb57 : Below w5.heap.size w5 w7 := (hb6.alloc hb6.size _).grown hg7 (by simp; omega) (fun g hg => by cases hg; exact hb6.size)
          have hR7 := (HB.out.later hb5).later hb57
          have hown7 := owns_base (owns_below hown5 hb57 (Nat.le_refl _)) hbs3
          have hBO7 := owns_below (owns_below hBO.out hb5 (Nat.le_refl _)) hb57 (Nat.le_refl _)
          clear hown5 hZ hb5 hb6 hb57 hg7 HB hBO hbs5 hbs6
          cases hf : f2 (kp H) with
          | some u =>
            have HFF := hide hf
            have HNXT : Hid (hdsTo n ((pr L).take (p * L.length + (q + 1))) = hdsTo n ((pr L).take (p * L.length + q))) := by
              show _ = _
              rw [show p * L.length + (q + 1) = p * L.length + q + 1 from rfl, HNX.out, hdsTo_snoc]
              unfold stp1
              rw [if_pos (HF.out.1 (by rw [hf]; rfl))]
            clear hf
            have HI7 : Hid (∃ m', m' ≤ 1 + (p * L.length + (q + 1)) ∧ BRel n w w7 M m' (.slice hp3 vs2.length hc3) vs2 (hdsTo n ((pr L).take (p * L.length + (q + 1)))) f2) := ⟨m2, by have := HM2.out; omega, by rw [HNXT.out]; exact hR7⟩
            have HBO7 := hide hBO7
            have hM7 := hR7.map
            clear hBO7 hown7 hR7
            go_wp2_with (first | refine wpList_load_ark rfl _ rfl _ _ hA7 rfl ?_ | (refine wpList_klook rfl _ _ _ rfl _ Try.underlying99 (Try.zero3 _) keyT hM7 (kp H) hok rfl rfl ?_; rw [HFF.out]))
            go_roundw
            case rel => exact ⟨q + 1, f2, vs2, by omega, by go_num, HI7, HBO7⟩
            case measure => simp [intOf]; omega
          | none =>
            have HFF := hide hf
            have HNXT : Hid (hdsTo n ((pr L).take (p * L.length + (q + 1))) = hdsTo n ((pr L).take (p * L.length + q)) ++ [H]) := by
              show _ = _
              rw [show p * L.length + (q + 1) = p * L.length + q + 1 from rfl, HNX.out, hdsTo_snoc]
              unfold stp1
              rw [if_neg (fun h => by have := HF.out.2 h; rw [hf] at this; cases this)]
            clear hf
            have hM7 := hR7.map
            obtain ⟨es, ck, hob⟩ := hM7.obj
            have hlen := fun ty => run_len_map (P := Try.prog) (w := w7) 99 ty M es ck (by kernel_rfl) hob
            have HR7 := hide hR7
            have HOW7 := hide hown7
            have HBO7 := hide hBO7
            clear hBO7 hown7 hR7
            go_upto_region 16 with (first | refine wpList_load_ark rfl _ rfl _ _ hA7 rfl ?_ | (refine wpList_klook rfl _ _ _ rfl _ Try.underlying99 (Try.zero3 _) keyT hM7 (kp H) hok rfl rfl ?_; rw [HFF.out]) | (refine wpList_kput rfl _ _ _ _ rfl _ Try.underlying99 keyT hM7 HMB.out (kp H) hok _ rfl rfl rfl ?_; intro w8 hM8 hg8))
            have hL8 := HR7.out.ll.kmap hM7 hg8
            have hown8 := owns_kmap HOW7.out hM7 hg8
            have hBO8 := owns_kmap HBO7.out hM7 hg8
            have hbw8 : Below w.heap.size w w8 := HR7.out.below.grown hg8 HR7.out.below.size (fun g hg => by cases hg; exact hbs1)
            have hbs8 := hbw8.size
            have hrow8 := hL8.row
            have HL8 := hide hL8
            have HOW8 := hide hown8
            have HBO8 := hide hBO8
            have HM8 := hide hM8
            have HFS8 := hide (HR7.out.fs.add HHR.out (.int .i64 (es.size : Int)))
            clear hL8 hown8 hBO8 hM8 hg8 HR7 HOW7 HBO7 hM7 hA7 hob hlen
            go_wp2_with (at_builtin; refine wpList_append_own _ rfl _ _ 22 rfl w.heap.size 26 j0 (.slice none 0 0) 1 24 Try.underlying22 hj hq0 hq1 hq2 rfl (by decide) _ _ _ rfl (hrow8.alloc _) ⟨w8.heap.size, 0, none⟩ 1 1 [.slice hhp n hhc] rfl rfl ?c1 ?c2 ?c3 ?c4 ?c5 ?_)
            case c1 => exact cell_one_new _ _ _
            case c2 => intro u hu; simp at hu; subst hu; rfl
            case c3 => unfold maxLen; omega
            case c4 => omega
            case c5 => simp; omega
            · intro v9 w9 hown9 hg9 _
              have hL9 := HL8.out.push (X := H) (by rw [HHR.out.len]; exact HOW8.out) hown9 hg9
              have hBO9 := HL8.out.kept HBO8.out hg9
              have hM9 := (HM8.out.alloc _).row (HL8.out.row.alloc _) hg9
              have hbw9 := HL8.out.step hbw8 (Nat.le_refl _) hbs8 hg9
              have HI9 : Hid (∃ m', m' ≤ 1 + (p * L.length + (q + 1)) ∧ BRel n w w9 M m' v9 (vs2 ++ [.slice hhp n hhc]) (hdsTo n ((pr L).take (p * L.length + (q + 1)))) (kupd f2 (kp H) (.int .i64 (es.size : Int)))) := ⟨m2 + 1, by have := HM2.out; omega, by rw [HNXT.out]; exact ⟨hM9, HFS8.out, hL9, hbw9⟩⟩
              have HBO9 := hide hBO9
              clear hL9 hBO9 hM9 hbw9 hown9 hg9 hrow8
              go_wp2
              go_roundw
              case rel => exact ⟨q + 1, _, _, by omega, by go_num, HI9, HBO9⟩
              case measure => simp [intOf]; omega
        · obtain rfl : q = L.length := by omega
          have HRN : Hid (∃ m', m' ≤ 1 + (p + 1) * L.length ∧ BRel n w wr M m' (.slice hp3 vs2.length hc3) vs2 (hdsTo n ((pr L).take ((p + 1) * L.length))) f2) := by
            rw [Nat.succ_mul]; exact ⟨m2, hm2, hB⟩
          obtain ⟨m4, hm4, hR4⟩ := HRN.out
          have HM4 := hide hm4
          have HR4 := hide hR4
          clear hB hI hm2 hm4 hR4 HRN
          go_wp2
          go_roundw
          case rel => exact ⟨p + 1, f2, m4, vs2, by omega, by go_num, HM4, HR4⟩
          case measure => simp [intOf]; omega
    · obtain rfl : p = L.length := by omega
      have HP : Hid (BetPost n L w (.returned (.slice hp' vs.length hc')) wr) := by
        refine ⟨_, vs, rfl, ?_, hbw⟩
        have h9 := hR.out.ll
        rw [← pr_length L, List.take_length] at h9
        exact h9
      clear hR
      go_wp2
      go_ret
      exact HP.out

end Go.Proofs.Ytoiiadiimfohiaa

/- Plain: the runes of a text. -/
namespace Go.Proofs.Ytoiiadiimfohiaa
open Go.RowKit Go.Lib

/-- The runes of a text from a place on, at most so many. -/
def rns (s : ByteArray) : Nat → Nat → List Nat
  | 0, _ => []
  | f + 1, pos => if pos < s.size then (Utf8.decode s pos).1 :: rns s f (pos + (Utf8.decode s pos).2) else []

def runesOf (s : ByteArray) : List Nat := rns s s.size 0

theorem rns_length (s : ByteArray) : ∀ f pos, (rns s f pos).length ≤ f
  | 0, _ => by simp [rns]
  | f + 1, pos => by
    have ih := rns_length s f (pos + (Utf8.decode s pos).2)
    unfold rns
    split
    · simp; omega
    · simp

theorem runesOf_length (s : ByteArray) : (runesOf s).length ≤ s.size := rns_length s _ _

/-- Runes up to a place, and the rest. -/
def RunesTo (s : ByteArray) (pre : List Nat) (pos : Nat) : Prop := ∃ f, s.size - pos ≤ f ∧ runesOf s = pre ++ rns s f pos

theorem runesTo_start (s : ByteArray) : RunesTo s [] 0 := ⟨s.size, by omega, rfl⟩

theorem RunesTo.next {s : ByteArray} {pre : List Nat} {pos : Nat} (h : RunesTo s pre pos) (hp : pos < s.size) : RunesTo s (pre ++ [(Utf8.decode s pos).1]) (pos + (Utf8.decode s pos).2) := by
  obtain ⟨f, hf, e⟩ := h
  have hw := decode_width_pos s pos hp
  match f, hf, e with
  | 0, hf, _ => omega
  | f + 1, hf, e =>
    refine ⟨f, by omega, ?_⟩
    rw [e, rns, if_pos hp, List.append_assoc, List.singleton_append]

theorem RunesTo.done {s : ByteArray} {pre : List Nat} {pos : Nat} (h : RunesTo s pre pos) (hp : ¬ pos < s.size) : runesOf s = pre := by
  obtain ⟨f, hf, e⟩ := h
  rw [e]
  cases f with
  | zero => simp [rns]
  | succ f => rw [rns, if_neg hp, List.append_nil]

theorem RunesTo.mem {s : ByteArray} {pre : List Nat} {pos : Nat} (h : RunesTo s pre pos) (hp : pos < s.size) : (Utf8.decode s pos).1 ∈ runesOf s ∧ pre.length < s.size := by
  obtain ⟨f, hf, e⟩ := h.next hp
  constructor
  · rw [e]; simp
  · have := runesOf_length s
    rw [e] at this
    simp at this
    omega

theorem decode_le (s : ByteArray) (pos : Nat) : (Utf8.decode s pos).1 ≤ 1114111 := by
  rw [decode_at]
  have h0 : (s.get! pos).toNat < 256 := UInt8.toNat_lt _
  unfold decodeN
  repeat' split
  all_goals simp only
  all_goals omega

end Go.Proofs.Ytoiiadiimfohiaa
