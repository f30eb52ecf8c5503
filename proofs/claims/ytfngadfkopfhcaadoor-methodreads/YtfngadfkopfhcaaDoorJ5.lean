/- Joined: AppM, LLp, Bel, Rd, I6, Chng, Rd2, ChRow, StC, Ins. -/
import Derived.Test.YtfngadfkopfhcaaDoorJ0
import Derived.Laws.OwnMore
import Derived.Test.YtfngadfkopfhcaaDoorJ4
import Derived.Test.YtfngadfkopfhcaaDoorJ2
import Derived.Shelf.Spec.SlicesInsert
import Derived.Shelf.Spec.SlicesInsertGrow
/- append of owned slices, nil or not; slices held against nil. -/
namespace Go.Proofs.YtfngadfkopfhcaaDoor
open Go.RowKit

/-- 'append(s, nil...)': s itself, where s is no nil slice. -/
theorem run_append_nothing {P : Program} (w : World) (t ty e : TypeId) (i : TypeInfo) (ht : P.underlying t = some (.slice e)) (hi : P.info? e = some i) (a : Addr) (n cap : Nat) (hn : n ≤ cap) :
    (Builtin.append_ #[t, t] ty #[.slice (some a) n cap, .slice none 0 0]).run P w = .ok (.slice (some a) n cap) w := by
  simp [Builtin.append_, run_underlying ht, sizeOf, typeInfo, hi, Builtin.lenOf, Builtin.firstCells, loadCells, hn, storeCells]

theorem wpList_append_nothing {P : Program} (w : World) {ops : Array Oper} {rest : List Oper} {o : Oper} {a : Act} {Q : Exit → Act → World → Prop} (hgd : o.guard = none) (s x : Operand) (t : TypeId)
    (ho : o.op = .call { callee := .builtin .append, args := #[s, x], argTypes := #[t, t] })
    (e : TypeId) (i : TypeInfo) (ht : P.underlying t = some (.slice e)) (hi : P.info? e = some i)
    (ad : Addr) (n cap : Nat) (hn : n ≤ cap) (hs : a.eval s = .slice (some ad) n cap) (hx : a.eval x = .slice none 0 0)
    (h : wpList P ops Q rest (a.put o.dst (.slice (some ad) n cap)) w) : wpList P ops Q (o :: rest) a w := by
  refine wpList_plain hgd fun K hK => ?_
  have hr := run_append_nothing (P := P) w t o.type e i ht hi ad n cap hn
  unfold Oper.wp execOp
  simp only [ho, resolve, invoke, builtin, Sem.run_bind, Sem.run_pure, Result.andThen_ok, List.map_toArray, List.map_cons, List.map_nil, hs, hx, hr]
  exact hK _ _ h

theorem run_append_nil_nil {P : Program} (w : World) (t ty e : TypeId) (i : TypeInfo) (ht : P.underlying t = some (.slice e)) (hi : P.info? e = some i) :
    (Builtin.append_ #[t, t] ty #[.slice none 0 0, .slice none 0 0]).run P w = .ok (.slice none 0 0) w := by
  simp [Builtin.append_, run_underlying ht, sizeOf, typeInfo, hi, Builtin.lenOf, Builtin.firstCells]

/-- 'append(a, b...)', both owned, nil or not. -/
theorem wpList_append_more {P : Program} {w : World} {ops : Array Oper} {rest : List Oper} {o : Oper} {a : Act} {Q : Exit → Act → World → Prop} (hgd : o.guard = none) (s x : Operand) (t : TypeId)
    (ho : o.op = .call { callee := .builtin .append, args := #[s, x], argTypes := #[t, t] })
    (base base' : Nat) (e : TypeId) (i : TypeInfo) (z : Value) (bytes : Nat) (ht : P.underlying t = some (.slice e)) (hi : P.info? e = some i) (hz : i.zero = some z)
    (hsize : i.size = 1) (hby : i.bytes = bytes) (hzs : z.cells.size = 1)
    (v : Value) (n : Nat) (xs : List Value) (hs : a.eval s = v) (hown : w.ownsRow base e 1 v n xs)
    (u : Value) (m : Nat) (news : List Value) (hx : a.eval x = u) (hsrc : w.ownsRow base' e 1 u m news) (h1 : ∀ u ∈ news, u.oneCell' = true)
    (h63 : n + m ≤ maxLen) (hbytes : (n + m) * bytes ≤ 140737488355328) (hbase : base ≤ w.heap.size)
    (h : ∀ v' w', w'.ownsRow base e 1 v' (n + m) (xs ++ news) → w.grownBy w' v.ownBlock → wpList P ops Q rest (a.put o.dst v') w') :
    wpList P ops Q (o :: rest) a w := by
  rcases hsrc.2 with ⟨rfl, rfl⟩ | ⟨g', cap, cur, rfl, hbg, hg, hnc, hcm, hcs, htake⟩
  · have hn : news = [] := List.length_eq_zero_iff.1 (by have := hsrc.1; omega)
    subst hn
    rw [Nat.add_zero, List.append_nil] at h
    have hr : w.grownBy w v.ownBlock := ⟨rfl, rfl, rfl, Nat.le_refl _, fun _ _ _ => rfl⟩
    rcases hown.2 with ⟨rfl, rfl⟩ | ⟨g2, cap2, cur2, rfl, _, _, hnc2, _⟩
    · refine wpList_plain hgd fun K hK => ?_
      have hrun := run_append_nil_nil (P := P) w t o.type e i ht hi
      unfold Oper.wp execOp
      simp only [ho, resolve, invoke, builtin, Sem.run_bind, Sem.run_pure, Result.andThen_ok, List.map_toArray, List.map_cons, List.map_nil, hs, hx, hrun]
      exact hK _ _ (h _ _ hown hr)
    · exact wpList_append_nothing w hgd s x t ho e i ht hi _ n cap2 hnc2 hs hx (h _ _ hown hr)
  · refine wpList_append_own w hgd s x t ho base e i z 1 bytes ht hi hz hsize hby hzs (by decide) v n xs hs hown ⟨g', 0, none⟩ m cap news hx (by rw [hsrc.1]) (hsrc.cells (g := g') rfl) h1 h63 hbytes hbase ?_
    intro v' w' h2 h3 _
    exact h v' w' h2 h3

theorem OwnAll.join {w : World} {base : Nat} {vs : List Value} {ys : List (List Int)} (h2 : OwnAll w base vs ys) : ∀ {us : List Value} {xs : List (List Int)}, OwnAll w base us xs → OwnAll w base (us ++ vs) (xs ++ ys)
  | [], [], _ => h2
  | _ :: _, _ :: _, ⟨h1, h3⟩ => ⟨h1, OwnAll.join h2 h3⟩

theorem OwnAll.low {w : World} {base base' : Nat} (hb : base' ≤ base) : ∀ {us : List Value} {xs : List (List Int)}, OwnAll w base us xs → OwnAll w base' us xs
  | [], [], _ => trivial
  | _ :: _, _ :: _, ⟨h1, h2⟩ => ⟨owns_base h1 hb, OwnAll.low hb h2⟩

theorem OwnAll.cells {w : World} {base : Nat} : ∀ {us : List Value} {xs : List (List Int)}, OwnAll w base us xs → ∀ u, u ∈ us → u.oneCell' = true
  | [], [], _, u, hu => by cases hu
  | _ :: _, _ :: _, ⟨h1, h2⟩, u, hu => by
    rcases List.mem_cons.1 hu with rfl | hu
    · rcases h1.2 with ⟨rfl, _⟩ | ⟨_, _, _, rfl, _⟩
      · rfl
      · rfl
    · exact OwnAll.cells h2 u hu

theorem run_nil_eq (w : World) : (binOp BinOp.eql 47 (.slice none 0 0) (.slice none 0 0)).run Tryd.prog w = .ok (.bool true) w := by kernel_rfl
theorem run_nil_ne (w : World) : (binOp BinOp.neq 47 (.slice none 0 0) (.slice none 0 0)).run Tryd.prog w = .ok (.bool false) w := by kernel_rfl
theorem run_some_eq (a : Addr) (n c : Nat) (w : World) : (binOp BinOp.eql 47 (.slice (some a) n c) (.slice none 0 0)).run Tryd.prog w = .ok (.bool false) w := by kernel_rfl
theorem run_some_ne (a : Addr) (n c : Nat) (w : World) : (binOp BinOp.neq 47 (.slice (some a) n c) (.slice none 0 0)).run Tryd.prog w = .ok (.bool true) w := by kernel_rfl

end Go.Proofs.YtfngadfkopfhcaaDoor

/- Lists of lists that a call makes, one list behind the other. -/
namespace Go.Proofs.YtfngadfkopfhcaaDoor
open Go.RowKit

/-- A list of lists that the call owns, all its lists too. -/
structure LL (w : World) (base : Nat) (v : Value) (vs : List Value) (xss : List (List Int)) : Prop where
  row : w.ownsRow base 47 1 v vs.length vs
  all : OwnAll w base vs xss

theorem LL.nil (w : World) (base : Nat) : LL w base (.slice none 0 0) [] [] := ⟨World.ownsRow_nil _ _ _ _, trivial⟩

theorem LL.len {w : World} {base : Nat} {v : Value} {vs : List Value} {xss : List (List Int)} (h : LL w base v vs xss) : vs.length = xss.length := OwnAll.length h.all

theorem LL.ints {w : World} {base : Nat} {v : Value} {vs : List Value} {xss : List (List Int)} (h : LL w base v vs xss) : IntsAll w v xss := IntsAll.own h.row h.all

theorem LL.below {w w' : World} {base : Nat} {v : Value} {vs : List Value} {xss : List (List Int)} (h : LL w base v vs xss) (hb : Below w.heap.size w w') : LL w' base v vs xss :=
  ⟨owns_below h.row hb (Nat.le_refl _), h.all.mono (fun _ _ _ h' => owns_below h' hb (Nat.le_refl _))⟩

theorem LL.low {w : World} {base base' : Nat} {v : Value} {vs : List Value} {xss : List (List Int)} (h : LL w base v vs xss) (hb : base' ≤ base) : LL w base' v vs xss := by
  refine ⟨owns_base h.row hb, ?_⟩
  have ha := h.all
  clear h
  induction vs generalizing xss with
  | nil => cases xss with
    | nil => trivial
    | cons x xs => exact ha.elim
  | cons u us ih => cases xss with
    | nil => exact ha.elim
    | cons x xs => exact ⟨owns_base ha.1 hb, ih ha.2⟩

theorem LL.at {w : World} {base : Nat} {v : Value} {vs : List Value} {xss : List (List Int)} (h : LL w base v vs xss) {k : Nat} (hk : k < xss.length) : w.ownsRow base 3 1 (vs.getD k undef) (xss.getD k []).length ((xss.getD k []).map (Value.int .i64)) :=
  ownAll_at h.all (by rw [h.len]; exact hk)

theorem LL.push {w w4 : World} {base : Nat} {v v' u : Value} {vs : List Value} {xss : List (List Int)} {X : List Int} {o : Obj} (h : LL w base v vs xss) (hu : w.ownsRow base 3 1 u X.length (X.map (Value.int .i64)))
    (hown : w4.ownsRow base 47 1 v' (vs.length + 1) (vs ++ [u])) (hg : (w.alloc o).grownBy w4 v.ownBlock) : LL w4 base v' (vs ++ [u]) (xss ++ [X]) :=
  ⟨by rw [List.length_append]; exact hown, OwnAll.snoc (owns_kept_ty (hu.alloc o) (h.row.alloc o) hg) (h.all.mono (fun _ _ _ h' => owns_kept_ty (h'.alloc o) (h.row.alloc o) hg))⟩

theorem LL.kept {w w4 : World} {base n : Nat} {v u : Value} {vs ys : List Value} {xss : List (List Int)} {o : Obj} (h : LL w base v vs xss) (hu : w.ownsRow base 3 1 u n ys) (hg : (w.alloc o).grownBy w4 v.ownBlock) : w4.ownsRow base 3 1 u n ys :=
  owns_kept_ty (hu.alloc o) (h.row.alloc o) hg

theorem LL.step {w0 w w4 : World} {base B : Nat} {v : Value} {vs : List Value} {xss : List (List Int)} {o : Obj} (h : LL w base v vs xss) (hB : Below B w0 w) (hb : B ≤ base) (hs : B ≤ w.heap.size) (hg : (w.alloc o).grownBy w4 v.ownBlock) : Below B w0 w4 :=
  (hB.alloc hs _).grown hg (by simp; omega) (fun g hg' => Nat.le_trans hb (h.row.lt g hg').1)

/-- The list of one list. -/
theorem LL.one {w : World} {base : Nat} {u : Value} {X : List Int} (hu : w.ownsRow base 3 1 u X.length (X.map (Value.int .i64))) (hb : base ≤ w.heap.size) : LL (w.alloc (.cells #[u] 47)) base (.slice (some ⟨w.heap.size, 0, none⟩) 1 1) [u] [X] :=
  ⟨World.ownsRow_lit w #[u] 1 hb (by unfold maxLen; omega) rfl, ⟨hu.alloc _, trivial⟩⟩

theorem LL.set {w : World} {base b j : Nat} {v x : Value} {vs : List Value} {xss : List (List Int)} (h : LL w base v vs xss) (hb : b < base) : LL (w.setCell ⟨b, j, none⟩ x) base v vs xss :=
  ⟨ownsRow_setCell_below h.row (by exact hb) _, h.all.mono (fun _ _ _ h' => ownsRow_setCell_below h' (by exact hb) _)⟩

end Go.Proofs.YtfngadfkopfhcaaDoor

/- Blocks ahead of one, and iterators, stay. -/
namespace Go.Proofs.YtfngadfkopfhcaaDoor
open Go.RowKit

/-- Iterators stay as they are. -/
def Iters (w w' : World) : Prop := ∀ (k : Nat) (s : ByteArray) (p : Nat), w.heap[k]? = some (.stringIter s p) → w'.heap[k]? = some (.stringIter s p)

/-- Blocks ahead of R, and iterators, stay as they are. -/
structure Bel (R : Nat) (w w' : World) : Prop where
  below : Below R w w'
  iters : Iters w w'

theorem Bel.refl (R : Nat) (w : World) : Bel R w w := ⟨Below.refl _ _, fun _ _ _ h => h⟩
theorem Bel.trans {R : Nat} {a b c : World} (h1 : Bel R a b) (h2 : Bel R b c) : Bel R a c := ⟨h1.below.trans h2.below, fun k s p h => h2.iters k s p (h1.iters k s p h)⟩
theorem Bel.setCell {R : Nat} {a w : World} (h : Bel R a w) {p : Addr} (hp : R ≤ p.block) (v : Value) : Bel R a (w.setCell p v) := by
  refine ⟨h.below.setCell hp v, fun k s q hk => ?_⟩
  have h1 := h.iters k s q hk
  simp only [World.setCell, Array.getElem?_modify]
  split
  · rw [h1]; rfl
  · exact h1
theorem Bel.of {R : Nat} {w w' : World} (h : Below w.heap.size w w') (hR : R ≤ w.heap.size) : Bel R w w' := by
  refine ⟨h.mono hR, fun k s p hk => ?_⟩
  rw [h.block k (Array.getElem?_eq_some_iff.1 hk).1]
  exact hk
theorem Bel.alloc {R : Nat} {a w : World} (h : Bel R a w) (hs : R ≤ w.heap.size) (o : Obj) : Bel R a (w.alloc o) := h.trans (Bel.of ((Below.refl _ _).alloc (Nat.le_refl _) o) hs)
theorem Bel.drew {R : Nat} {a w : World} (h : Bel R a w) : Bel R a w.drew := ⟨h.below.drew, h.iters⟩
theorem Bel.grown {w w2 : World} {R D k : Nat} {u : Value} {us : List Value} {e : TypeId} (hu : w.ownsRow D e 1 u k us) (hR : R + 1 ≤ D) (hl : R ≤ w.heap.size) (hg : w.grownBy w2 u.ownBlock) : Bel R w w2 := by
  refine ⟨⟨hg.os, hg.tape, hg.output, hg.size, fun j hj => hg.block j (by omega) (fun e => by have := (hu.lt j e.symm).1; omega)⟩, fun j s p hj => ?_⟩
  rw [hg.block j (Array.getElem?_eq_some_iff.1 hj).1 (fun e => ?_)]
  · exact hj
  · rcases hu.2 with ⟨rfl, _⟩ | ⟨g, cap, cur, rfl, _, hh, _⟩
    · cases e
    · have : j = g := Option.some.inj e
      subst this
      rw [hj] at hh
      cases hh

end Go.Proofs.YtfngadfkopfhcaaDoor

/- A reader of changes in memory; contracts: needRoom, needChange, mark, add. -/
namespace Go.Proofs.YtfngadfkopfhcaaDoor
open Go.RowKit

/-- A fault that is thrown. -/
def thrown (k : Int) : Ending := .panicked [{ v := .iface 45 (.int .i64 k), recovered := false }]

/-- A reader in memory. -/
structure RdAt (w : World) (R D : Nat) (n : Int) (av bv ov : Value) (avs bvs : List Value) (st : RS) : Prop where
  blk : w.heap[R]? = some (.cells #[.int .i64 n, av, bv, .bool st.marked, .bool st.mirrored, ov, .bool st.dot] 49)
  all : LL w (R + 1) av avs st.all
  block : LL w (R + 1) bv bvs st.block
  opn : w.ownsRow D 3 1 ov st.opn.length (st.opn.map (Value.int .i64))
  inner : ∀ u, u ∈ avs ++ bvs → ∀ b, u.ownBlock = some b → b < D
  sep : av.ownBlock = none ∨ av.ownBlock ≠ bv.ownBlock
  low : R + 1 ≤ D
  high : D ≤ w.heap.size
  nilo : st.opn = [] → ov = .slice none 0 0

/-- .. somewhere. -/
def Rd (w : World) (R : Nat) (n : Int) (st : RS) : Prop := ∃ D av bv ov avs bvs, RdAt w R D n av bv ov avs bvs st

theorem RdAt.lt {w : World} {R D : Nat} {n : Int} {av bv ov : Value} {avs bvs : List Value} {st : RS} (h : RdAt w R D n av bv ov avs bvs st) : R < w.heap.size := (Array.getElem?_eq_some_iff.1 h.blk).1

theorem cells7 {w : World} {R : Nat} {a b c d e f g : Value} {t : TypeId} (h : w.heap[R]? = some (.cells #[a, b, c, d, e, f, g] t)) :
    w.cell? ⟨R, 0, none⟩ = some a ∧ w.cell? ⟨R, 1, none⟩ = some b ∧ w.cell? ⟨R, 2, none⟩ = some c ∧ w.cell? ⟨R, 3, none⟩ = some d ∧ w.cell? ⟨R, 4, none⟩ = some e ∧ w.cell? ⟨R, 5, none⟩ = some f ∧ w.cell? ⟨R, 6, none⟩ = some g := by
  simp [World.cell?, h]

theorem frozen7 {w : World} {R : Nat} {c : Array Value} {t : TypeId} (h : w.heap[R]? = some (.cells c t)) (j : Nat) : w.frozen? ⟨R, j, none⟩ = false := by
  simp [World.frozen?, h]

theorem heap_set7 {w : World} {R j : Nat} {c : Array Value} {t : TypeId} {x : Value} (h : w.heap[R]? = some (.cells c t)) : (w.setCell ⟨R, j, none⟩ x).heap[R]? = some (.cells (c.setIfInBounds j x) t) := by
  simp [World.setCell, Array.getElem?_modify, h]

theorem LL.setR {w : World} {R j : Nat} {v x : Value} {vs : List Value} {xss : List (List Int)} (h : LL w (R + 1) v vs xss) : LL (w.setCell ⟨R, j, none⟩ x) (R + 1) v vs xss :=
  ⟨ownsRow_setCell_below h.row (by exact Nat.lt_succ_self R) _, h.all.mono (fun _ _ _ h' => ownsRow_setCell_below h' (by exact Nat.lt_succ_self R) _)⟩

section
variable {w : World} {R D : Nat} {n : Int} {av bv ov : Value} {avs bvs : List Value} {st : RS}

/-- One of its flags is set. -/
theorem RdAt.flags (h : RdAt w R D n av bv ov avs bvs st) (a b c : Bool) (j : Nat) (x : Value)
    (hx : (#[.int .i64 n, av, bv, .bool st.marked, .bool st.mirrored, ov, .bool st.dot] : Array Value).setIfInBounds j x = #[.int .i64 n, av, bv, .bool a, .bool b, ov, .bool c]) :
    RdAt (w.setCell ⟨R, j, none⟩ x) R D n av bv ov avs bvs { st with marked := a, mirrored := b, dot := c } :=
  ⟨by rw [heap_set7 h.blk, hx], h.all.setR, h.block.setR, ownsRow_setCell_below h.opn (by exact h.low) _, h.inner, h.sep, h.low, by simp [World.setCell]; exact h.high, h.nilo⟩

theorem LL.lt {w : World} {base : Nat} {v : Value} {vs : List Value} {xss : List (List Int)} (h : LL w base v vs xss) : ∀ u, u ∈ vs → ∀ b, u.ownBlock = some b → b < w.heap.size := by
  have ha := h.all
  clear h
  intro u hu b hb
  induction vs generalizing xss with
  | nil => cases hu
  | cons x xs ih =>
    cases xss with
    | nil => exact ha.elim
    | cons y ys =>
      rcases List.mem_cons.1 hu with rfl | hu
      · exact (ha.1.lt b hb).2
      · exact ih ha.2 hu

/-- The signs are taken out. -/
theorem RdAt.shut (h : RdAt w R D n av bv ov avs bvs st) : RdAt (w.setCell ⟨R, 5, none⟩ (.slice none 0 0)) R w.heap.size n av bv (.slice none 0 0) avs bvs { st with opn := [] } := by
  refine ⟨by rw [heap_set7 h.blk]; rfl, h.all.setR, h.block.setR, World.ownsRow_nil _ _ _ _, ?_, h.sep, h.lt, by simp [World.setCell], fun _ => rfl⟩
  intro u hu b hb
  exact Nat.lt_of_lt_of_le (h.inner u hu b hb) h.high

/-- The world goes on, its own memory apart. -/
theorem RdAt.later {w' : World} (h : RdAt w R D n av bv ov avs bvs st) (hb : Below w.heap.size w w') : RdAt w' R D n av bv ov avs bvs st :=
  ⟨(hb.block R h.lt).trans h.blk, h.all.below hb, h.block.below hb, owns_below h.opn hb (Nat.le_refl _), h.inner, h.sep, h.low, Nat.le_trans h.high hb.size, h.nilo⟩

end

/-- What a step of the reader leaves. -/
def Goes (w : World) (R : Nat) (n : Int) (p : Int × RS) (e : Ending) (w' : World) : Prop := Bel R w w' ∧ ((p.1 = 0 ∧ e = .returned (.tuple #[]) ∧ Rd w' R n p.2) ∨ (p.1 ≠ 0 ∧ e = thrown p.1))

theorem Goes.ok {w w' : World} {R : Nat} {n : Int} {p : Int × RS} {st : RS} (hp : p = (0, st)) (hb : Bel R w w') (hr : Rd w' R n st) : Goes w R n p (.returned (.tuple #[])) w' := by
  subst hp; exact ⟨hb, Or.inl ⟨rfl, rfl, hr⟩⟩

theorem Goes.bad {w w' : World} {R : Nat} {n k : Int} {p : Int × RS} (hp : p.1 = k) (hk : k ≠ 0) (hb : Bel R w w') : Goes w R n p (thrown k) w' := by
  subst hp; exact ⟨hb, Or.inr ⟨hk, rfl⟩⟩

set_option maxHeartbeats 400000 in
theorem needRoom_any (v : Value) (vs : List Value) (w : World) (base : Nat) (h : w.ownsRow base 47 1 v vs.length vs) (hl : vs.length ≤ 1000000) :
    Calls Tryd.prog 62 #[v] w fun e w' => e = (if 200 < vs.length then thrown 3 else .returned (.tuple #[])) ∧ w = w' := by
  obtain ⟨p, c, rfl⟩ := owns_slice h
  clear h
  by_cases h2 : 200 < vs.length
  · rw [if_pos h2]
    go_enter Tryd.func62, Tryd.ntmps62
    go_wp2
    exact ⟨rfl, rfl, rfl⟩
  · rw [if_neg h2]
    go_enter Tryd.func62, Tryd.ntmps62
    go_wp2
    exact bodyPost_end (results_none rfl _ _ _) rfl ⟨rfl, rfl⟩

set_option maxRecDepth 20000 in
set_option maxHeartbeats 1000000 in
theorem needChange_any (R : Nat) (n k : Int) (st : RS) (w : World) (h : Rd w R n st) :
    Calls Tryd.prog 42 #[.pointer (some ⟨R, 0, none⟩), .int .i64 k] w fun e w' => e = (if st.needs = true then thrown k else .returned (.tuple #[])) ∧ w = w' := by
  obtain ⟨D, av, bv, ov, avs, bvs, h⟩ := h
  obtain ⟨c0, c1, c2, c3, c4, c5, c6⟩ := cells7 h.blk
  obtain ⟨p, c, rfl⟩ := owns_slice h.block.row
  have hl := h.block.len
  have HB : Hid (st.block = [] ↔ bvs.length = 0) := by rw [hl]; exact List.length_eq_zero_iff.symm
  clear h hl c0 c1 c3 c4 c5
  unfold RS.needs
  generalize hd : st.dot = d at *
  by_cases hz : bvs.length = 0
  · rw [decide_eq_true (HB.out.2 hz), Bool.true_or, if_pos rfl]
    rw [hz] at c2
    go_enter Tryd.func42, Tryd.ntmps42
    go_wp2
    exact ⟨rfl, rfl, rfl⟩
  · rw [decide_eq_false (fun e => hz (HB.out.1 e)), Bool.false_or]
    have hne : (((bvs.length : Nat) : Int) == 0) = false := by rw [beq_eq_false_iff_ne]; omega
    cases d with
    | true =>
      rw [if_pos rfl]
      go_enter Tryd.func42, Tryd.ntmps42
      go_wp2
      exact ⟨rfl, rfl, rfl⟩
    | false =>
      rw [if_neg (by decide)]
      go_enter Tryd.func42, Tryd.ntmps42
      go_wp2
      exact bodyPost_end (results_none rfl _ _ _) rfl ⟨rfl, rfl⟩

set_option maxRecDepth 20000 in
set_option maxHeartbeats 1000000 in
theorem mark_any (R : Nat) (n : Int) (m : Bool) (st : RS) (w : World) (h : Rd w R n st) :
    Calls Tryd.prog 44 #[.pointer (some ⟨R, 0, none⟩), .bool m] w fun e w' => Goes w R n (st.mark m) e w' := by
  obtain ⟨D, av, bv, ov, avs, bvs, h⟩ := h
  have hblk := h.blk
  obtain ⟨c0, c1, c2, c3, c4, c5, c6⟩ := cells7 h.blk
  have f3 := frozen7 h.blk 3
  have f4 := frozen7 h.blk 4
  obtain ⟨p, c, hbe⟩ := owns_slice h.block.row
  have hl := h.block.len
  have HB : Hid (st.block = [] ↔ bvs.length = 0) := by rw [hl]; exact List.length_eq_zero_iff.symm
  have HH := hide h
  rw [hbe] at c2
  clear hl c0 c1 c5 c6 hblk
  cases hm : st.marked with
  | true =>
    have HM : Hid ((st.mark m).1 = 4) := by show _ = _; unfold RS.mark; rw [if_pos (Or.inl hm)]
    rw [hm] at c3
    clear h hbe
    go_enter Tryd.func44, Tryd.ntmps44
    go_wp2
    exact ⟨rfl, Goes.bad HM.out (by decide) (Bel.refl _ _)⟩
  | false =>
    rw [hm] at c3
    by_cases hz : bvs.length = 0
    · have he := HB.out.2 hz
      have HM : Hid (st.mark m = (0, { st with marked := true, mirrored := m })) := by show _ = _; unfold RS.mark; rw [if_neg (by simp [he, hm])]
      have hR := (h.flags true st.mirrored st.dot 3 (.bool true) rfl)
      have hR2 := (hR.flags true m st.dot 4 (.bool m) rfl)
      have HR2 := hide hR2
      have hB : Bel R w ((w.setCell ⟨R, 3, none⟩ (.bool true)).setCell ⟨R, 4, none⟩ (.bool m)) := ((Bel.refl R w).setCell (p := ⟨R, 3, none⟩) (Nat.le_refl _) _).setCell (p := ⟨R, 4, none⟩) (Nat.le_refl _) _
      rw [hz] at c2
      clear h hbe hR hR2 hm hz he
      go_enter Tryd.func44, Tryd.ntmps44
      go_wp2
      exact bodyPost_end (results_none rfl _ _ _) rfl (Goes.ok HM.out hB ⟨D, av, bv, ov, avs, bvs, HR2.out⟩)
    · have HM : Hid ((st.mark m).1 = 4) := by show _ = _; unfold RS.mark; rw [if_pos (Or.inr (fun e => hz (HB.out.1 e)))]
      have hpos : (0 : Int) < ((bvs.length : Nat) : Int) := by omega
      clear h hbe
      go_enter Tryd.func44, Tryd.ntmps44
      go_wp2
      exact ⟨rfl, Goes.bad HM.out (by decide) (Bel.refl _ _)⟩

end Go.Proofs.YtfngadfkopfhcaaDoor

/- A number that an int may be. -/
namespace Go.Proofs.YtfngadfkopfhcaaDoor
open Go.RowKit


end Go.Proofs.YtfngadfkopfhcaaDoor

/- Contracts: pairs, mayCount and Check of place; slices.Index, slices.Contains; Row; ChangeOf. -/
namespace Go.Proofs.YtfngadfkopfhcaaDoor
open Go.RowKit

set_option maxHeartbeats 400000 in
theorem pmay_yes (n : Int) (w : World) (h1 : 1 ≤ n) (h2 : n ≤ 12) :
    Calls Tryd.prog 22 #[.int .i64 n] w fun e w' => e = .returned (.bool true) ∧ w = w' := by
  go_enter Tryd.func22, Tryd.ntmps22
  go_wp2
  go_ret
  exact ⟨rfl, rfl⟩

set_option maxHeartbeats 400000 in
theorem pmay_no (n : Int) (w : World) (h : n < 1 ∨ 12 < n) :
    Calls Tryd.prog 22 #[.int .i64 n] w fun e w' => e = .returned (.bool false) ∧ w = w' := by
  rcases h with h | h
  · go_enter Tryd.func22, Tryd.ntmps22
    go_wp2
    go_ret
    exact ⟨rfl, rfl⟩
  · have h1 : 1 ≤ n := by omega
    have h2 : decide (n ≤ 12) = false := by simp; omega
    go_enter Tryd.func22, Tryd.ntmps22
    go_wp2
    go_ret
    exact ⟨rfl, rfl⟩

set_option maxHeartbeats 400000 in
theorem pairs_any (x : Int) (w : World) (h1 : 0 ≤ x) (h2 : x ≤ 9223372036854775807) :
    Calls Tryd.prog 60 #[.int .i64 x] w fun e w' => e = .returned (.bool (decide (x % 2 = 0))) ∧ w = w' := by
  go_enter Tryd.func60, Tryd.ntmps60
  go_wp2
  go_ret
  exact ⟨ret_bool (by rw [Bool.eq_iff_iff]; simp), rfl⟩

theorem drop_cons (xs : List Int) {k : Nat} (h : k < xs.length) : xs.drop k = xs[k]?.getD 0 :: xs.drop (k + 1) := by
  rw [List.drop_eq_getElem_cons h]; simp [List.getElem?_eq_getElem h]

/-- What Check says of places of n bells. -/
def pck (n : Int) (ps : List Int) : Int := if okc n 0 ps = true then 0 else 6

theorem pck_range (n : Int) (ps : List Int) : pck n ps = 0 ∨ pck n ps = 6 := by unfold pck; split <;> simp

set_option maxHeartbeats 2000000 in
theorem pcheck_any (n : Int) (v : Value) (ps : List Int) (w : World) (h1 : 1 ≤ n) (h2 : n ≤ 12) (i1 : Ints w v ps) :
    Calls Tryd.prog 61 #[.int .i64 n, v] w fun e w' => e = .returned (.int .i64 (pck n ps)) ∧ w = w' := by
  rcases i1 with ⟨rfl, p, c, rfl⟩ | ⟨b, off, cap, rfl, h0, hc, hm, hb, hcell⟩
  · go_enter Tryd.func61, Tryd.ntmps61
    go_wp2_with fail
    refine (pmay_yes _ _ h1 h2).mono ?_
    rintro e w' ⟨rfl, rfl⟩
    go_wp2
    go_loop [5, 13] (fun l i => l = .int .i64 0 ∧ i = .int .i64 0) (fun _ _ => 0)
    case atStart => exact ⟨rfl, rfl⟩
    case round =>
      obtain ⟨rfl, rfl⟩ := hrel
      by_cases he : n % 2 = 0
      · have hp : Hid (pck n [] = 0) := by show _ = _; unfold pck okc; rw [if_pos (by simp; omega)]
        go_wp2_with fail
        refine (pairs_any _ _ (by omega) (by omega)).mono ?_
        rintro e w' ⟨rfl, rfl⟩
        rw [decide_eq_true (by omega)]
        go_wp2
        go_ret
        exact ⟨ret_int hp.out.symm, rfl⟩
      · have hp : Hid (pck n [] = 6) := by show _ = _; unfold pck okc; rw [if_neg (by simp; omega)]
        go_wp2_with fail
        refine (pairs_any _ _ (by omega) (by omega)).mono ?_
        rintro e w' ⟨rfl, rfl⟩
        rw [decide_eq_false (by omega)]
        go_wp2
        go_ret
        exact ⟨ret_int hp.out.symm, rfl⟩
  · go_enter Tryd.func61, Tryd.ntmps61
    go_wp2_with fail
    refine (pmay_yes _ _ h1 h2).mono ?_
    rintro e w' ⟨rfl, rfl⟩
    go_wp2
    go_loop [5, 13] (fun l i => ∃ (k : Nat) (L : Int), k ≤ ps.length ∧ i = .int .i64 k ∧ l = .int .i64 L ∧ 0 ≤ L ∧ L ≤ n ∧ Hid (okc n 0 ps = okc n L (ps.drop k))) (fun _ i => ps.length - (intOf i).toNat)
    case atStart => exact ⟨0, 0, by omega, rfl, rfl, by omega, by omega, rfl⟩
    case round =>
      obtain ⟨k, L, hk, rfl, rfl, hL0, hLn, hok⟩ := hrel
      by_cases hlt : k < ps.length
      · obtain ⟨y, hy, hcx⟩ := cellAt hcell hlt
        have HD : Hid (okc n 0 ps = (decide (L < y ∧ y ≤ n ∧ (y - L - 1) % 2 = 0) && okc n y (ps.drop (k + 1)))) := by
          show _ = _; rw [hok.out, drop_cons ps hlt, hy.out]; rfl
        clear hcell hok
        by_cases c1 : y ≤ L
        · have hp : Hid (pck n ps = 6) := by show _ = _; unfold pck; rw [HD.out, decide_eq_false (by omega)]; rfl
          go_wp2_with fail
          go_ret
          exact ⟨ret_int hp.out.symm, rfl⟩
        · by_cases c2 : n < y
          · have hp : Hid (pck n ps = 6) := by show _ = _; unfold pck; rw [HD.out, decide_eq_false (by omega)]; rfl
            have c3 : L < y := by omega
            clear c1
            go_wp2_with fail
            go_ret
            exact ⟨ret_int hp.out.symm, rfl⟩
          · have c3 : L < y := by omega
            have c4 : y ≤ n := by omega
            clear c1 c2
            by_cases c5 : (y - L - 1) % 2 = 0
            · have HN : Hid (okc n 0 ps = okc n y (ps.drop (k + 1))) := by show _ = _; rw [HD.out, decide_eq_true (by omega)]; rfl
              have D5 : decide ((y - L - 1) % 2 = 0) = true := decide_eq_true c5
              clear c5
              go_wp2_with fail
              refine (pairs_any _ _ (by omega) (by omega)).mono ?_
              rintro e w' ⟨rfl, rfl⟩
              rw [D5]
              go_wp2
              go_round
              case rel => exact ⟨k + 1, y, by omega, by go_num, rfl, by omega, by omega, HN⟩
              case measure => simp [intOf]; omega
            · have hp : Hid (pck n ps = 6) := by show _ = _; unfold pck; rw [HD.out, decide_eq_false (by omega)]; rfl
              have D5 : decide ((y - L - 1) % 2 = 0) = false := decide_eq_false c5
              clear c5
              go_wp2_with fail
              refine (pairs_any _ _ (by omega) (by omega)).mono ?_
              rintro e w' ⟨rfl, rfl⟩
              rw [D5]
              go_wp2
              go_ret
              exact ⟨ret_int hp.out.symm, rfl⟩
      · have HE : Hid (okc n 0 ps = decide ((n - L) % 2 = 0)) := by show _ = _; rw [hok.out, List.drop_of_length_le (by omega)]; rfl
        clear hcell hok
        by_cases c5 : (n - L) % 2 = 0
        · have hp : Hid (pck n ps = 0) := by show _ = _; unfold pck; rw [HE.out, decide_eq_true c5]; rfl
          have D5 : decide ((n - L) % 2 = 0) = true := decide_eq_true c5
          clear c5
          go_wp2_with fail
          refine (pairs_any _ _ (by omega) (by omega)).mono ?_
          rintro e w' ⟨rfl, rfl⟩
          rw [D5]
          go_wp2
          go_ret
          exact ⟨ret_int hp.out.symm, rfl⟩
        · have hp : Hid (pck n ps = 6) := by show _ = _; unfold pck; rw [HE.out, decide_eq_false c5]; rfl
          have D5 : decide ((n - L) % 2 = 0) = false := decide_eq_false c5
          clear c5
          go_wp2_with fail
          refine (pairs_any _ _ (by omega) (by omega)).mono ?_
          rintro e w' ⟨rfl, rfl⟩
          rw [D5]
          go_wp2
          go_ret
          exact ⟨ret_int hp.out.symm, rfl⟩

theorem pck_til {t : List Bool} {n : Nat} (h : tsz t = n) : pck n (tpl t) = 0 := by unfold pck; rw [if_pos (by rw [← h]; exact okc_self t)]

set_option maxHeartbeats 400000 in
theorem pcheck_count (n : Int) (v : Value) (w : World) (h : n < 1 ∨ 12 < n) :
    Calls Tryd.prog 61 #[.int .i64 n, v] w fun e w' => e = .returned (.int .i64 1) ∧ w = w' := by
  go_enter Tryd.func61, Tryd.ntmps61
  go_wp2_with fail
  refine (pmay_no _ _ h).mono ?_
  rintro e w' ⟨rfl, rfl⟩
  go_wp2
  go_ret
  exact ⟨rfl, rfl⟩

/-- Where a number is first; -1: nowhere. -/
def idx (x : Int) : List Int → Nat → Int
  | [], _ => -1
  | y :: ys, k => if x = y then (k : Int) else idx x ys (k + 1)

theorem idx_mem (x : Int) : ∀ (ys : List Int) (k : Nat), decide (idx x ys k ≥ 0) = decide (x ∈ ys)
  | [], _ => by simp [idx]
  | y :: ys, k => by
    unfold idx
    by_cases h : x = y
    · rw [if_pos h]; simp [h]
    · rw [if_neg h, idx_mem x ys (k + 1)]; simp [h]

end Go.Proofs.YtfngadfkopfhcaaDoor

/- Contract: (*reader).add. -/
namespace Go.Proofs.YtfngadfkopfhcaaDoor
open Go.RowKit

section
variable {w : World} {R D : Nat} {n : Int} {av bv ov : Value} {avs bvs : List Value} {st : RS}

theorem LL.kept_row {w w' : World} {base : Nat} {v : Value} {vs : List Value} {xss : List (List Int)} {u : Value} {k : Nat} {us : List Value} (h : LL w base v vs xss) (hu : w.ownsRow base 47 1 u k us) (hg : w.grownBy w' u.ownBlock) (hne : v.ownBlock = none ∨ v.ownBlock ≠ u.ownBlock) : LL w' base v vs xss :=
  ⟨h.row.kept hg hne, h.all.mono (fun _ _ _ h' => owns_kept_ty h' hu hg)⟩

/-- One more change of the block. -/
theorem RdAt.push {w5 : World} {v' pv : Value} {ps : List Int} (h : RdAt w R D n av bv (.slice none 0 0) avs bvs st) (ho : st.opn = []) (hp : w.ownsRow (R + 1) 3 1 pv ps.length (ps.map (Value.int .i64)))
    (hown : w5.ownsRow (R + 1) 47 1 v' (bvs.length + 1) (bvs ++ [pv])) (hg : w.grownBy w5 bv.ownBlock) (hk : v'.ownBlock = bv.ownBlock ∨ (v'.ownBlock = some w.heap.size ∧ w.grownBy w5 none)) :
    RdAt (w5.setCell ⟨R, 2, none⟩ v') R w5.heap.size n av v' (.slice none 0 0) avs (bvs ++ [pv]) { st with block := st.block ++ [ps] } ∧ w5.heap[R]? = w.heap[R]? ∧ Bel R w w5 := by
  have hRb : some R ≠ bv.ownBlock := fun e => by have := (h.block.row.lt R e.symm).1; omega
  have hblk := (hg.block R h.lt hRb).trans h.blk
  have hall : LL w5 (R + 1) av avs st.all := h.all.kept_row h.block.row hg h.sep
  have hbl : LL w5 (R + 1) v' (bvs ++ [pv]) (st.block ++ [ps]) := ⟨by rw [List.length_append]; exact hown, OwnAll.snoc (owns_kept_ty hp h.block.row hg) (h.block.all.mono (fun _ _ _ h' => owns_kept_ty h' h.block.row hg))⟩
  refine ⟨⟨by rw [heap_set7 hblk]; rfl, hall.setR, hbl.setR, by rw [ho]; exact World.ownsRow_nil _ _ _ _, ?_, ?_, ?_, by simp [World.setCell], fun _ => rfl⟩, hg.block R h.lt hRb, ?_⟩
  · intro u hu b hb
    rcases List.mem_append.1 hu with hu | hu
    · exact hall.lt u hu b hb
    · exact hbl.lt u hu b hb
  · rcases hk with hk | ⟨hk, _⟩
    · rw [hk]; exact h.sep
    · rw [hk]
      cases hav : av.ownBlock with
      | none => exact Or.inl rfl
      | some b =>
        refine Or.inr (fun e => ?_)
        have h1 := (h.all.row.lt b hav).2
        have h2 : b = w.heap.size := Option.some.inj e
        omega
  · have := h.lt; have := hg.size; omega
  · exact Bel.grown h.block.row (Nat.le_refl _) (Nat.le_of_lt h.lt) hg

end

set_option maxRecDepth 20000 in
set_option maxHeartbeats 4000000 in
theorem add_any (R D : Nat) (n : Int) (av bv : Value) (avs bvs : List Value) (st : RS) (pv : Value) (ps : List Int) (w : World) (h : RdAt w R D n av bv (.slice none 0 0) avs bvs st) (ho : st.opn = []) (hn1 : 1 ≤ n) (hn2 : n ≤ 12) (hbl : bvs.length ≤ 1000)
    (hp : w.ownsRow (R + 1) 3 1 pv ps.length (ps.map (Value.int .i64))) :
    Calls Tryd.prog 41 #[.pointer (some ⟨R, 0, none⟩), pv] w fun e w' => Goes w R n (st.add n ps) e w' := by
  obtain ⟨i0, hi, hz0, hz1, hz2⟩ := info_parts Tryd.info47
  obtain ⟨c0, c1, c2, c3, c4, c5, c6⟩ := cells7 h.blk
  have HC := hide (pcheck_any n pv ps w hn1 hn2 (Ints.own hp))
  have HH := hide h
  have HP := hide hp
  have hRl := h.lt
  obtain ⟨bp, bc, hbe⟩ := owns_slice h.block.row
  obtain ⟨pp, pc, hpe⟩ := owns_slice hp
  rw [hbe] at c2
  have HPE := hide hpe
  have HBE := hide hbe
  have HO := hide ho
  clear h hp hbe ho c1 c3 c4 c5
  rw [hpe] at HC
  rw [hpe]
  clear hpe
  by_cases hok : okc n 0 ps = true
  · have HM : Hid (st.add n ps = (if 200 < (st.block ++ [ps]).length then 3 else 0, { st with block := st.block ++ [ps], dot := false })) := by show _ = _; unfold RS.add; rw [if_pos hok]
    have hz : pck n ps = 0 := by unfold pck; rw [if_pos hok]
    rw [hz] at HC
    clear hz hok
    generalize hpl : ps.length = pl at *
    have HPL := hide hpl
    clear hpl
    have hA := HH.out.later ((Below.refl _ _).alloc (Nat.le_refl _) (.cells #[.slice pp pl pc] 47))
    have hrowA := hA.block.row
    have HA := hide hA
    rw [HBE.out] at hrowA
    clear hA
    go_enter Tryd.func41, Tryd.ntmps41
    go_wp2_with fail
    refine HC.out.mono ?_
    rintro e w' ⟨rfl, rfl⟩
    go_wp2_with (at_builtin; refine wpList_append_keep _ rfl _ _ 22 rfl (R + 1) 47 i0 (.slice none 0 0) 1 24 Tryd.underlying22 hi hz0 hz1 hz2 rfl (by decide) _ _ _ rfl hrowA ⟨w.heap.size, 0, none⟩ 1 1 [.slice pp pl pc] rfl rfl ?c1 ?c2 ?c3 ?c4 ?c5 ?_)
    case c1 => exact cell_one_new _ _ _
    case c2 => intro u hu; simp at hu; subst hu; rfl
    case c3 => unfold maxLen; omega
    case c4 => omega
    case c5 => simp; omega
    · intro v' w5 hown5 hg5 hk5
      have hpA : (w.alloc (.cells #[.slice pp pl pc] 47)).ownsRow (R + 1) 3 1 (.slice pp pl pc) ps.length (ps.map (Value.int .i64)) := by
        have := HP.out.alloc (.cells #[.slice pp pl pc] 47)
        rw [HPE.out] at this
        rw [HPL.out]
        exact this
      have hsz : (w.alloc (.cells #[.slice pp pl pc] 47)).heap.size = w.heap.size + 1 := by simp
      obtain ⟨hR5, hb5, hB5⟩ := HA.out.push HO.out hpA hown5 (by rw [HBE.out]; exact hg5) (by rw [HBE.out, hsz]; exact hk5)
      have hblk5 := hb5.trans HA.out.blk
      obtain ⟨d0, d1, d2, d3, d4, d5, d6⟩ := cells7 hblk5
      have f2 := frozen7 hblk5 2
      have f6 := frozen7 hR5.blk 6
      have e6 := (cells7 hR5.blk).2.2.2.2.2.2
      have hR6 := hR5.flags st.marked st.mirrored false 6 (.bool false) rfl
      have g2 := (cells7 hR6.blk).2.2.1
      have HR6 := hide hR6
      have hBt : Bel R w w5 := ((Bel.refl R w).alloc (Nat.le_of_lt hRl) _).trans hB5
      have hB6 : Bel R w ((w5.setCell ⟨R, 2, none⟩ v').setCell ⟨R, 6, none⟩ (.bool false)) := (hBt.setCell (p := ⟨R, 2, none⟩) (Nat.le_refl _) _).setCell (p := ⟨R, 6, none⟩) (Nat.le_refl _) _
      have HNR := hide (needRoom_any v' (bvs ++ [.slice pp pl pc]) _ (R + 1) hR6.block.row (by rw [List.length_append]; simp; omega))
      have hlenb : (bvs ++ [Value.slice pp pl pc]).length = (st.block ++ [ps]).length := hR6.block.len
      rw [hlenb] at HNR
      obtain ⟨vp, vc, rfl⟩ := owns_slice hown5
      clear hR5 hR6 hown5 hg5 hk5 hb5 hB5 hblk5 d0 d1 d3 d4 d5 d6 hpA hlenb hrowA
      go_wp2_with fail
      refine HNR.out.mono ?_
      rintro e w' ⟨rfl, rfl⟩
      by_cases h2 : 200 < (st.block ++ [ps]).length
      · rw [if_pos h2]
        have HM2 : Hid ((st.add n ps).1 = 3) := by show _ = _; rw [HM.out]; exact if_pos h2
        unfold thrown
        go_wp2
        exact ⟨rfl, Goes.bad HM2.out (by decide) hB6⟩
      · rw [if_neg h2]
        have HM2 : Hid (st.add n ps = (0, { st with block := st.block ++ [ps], dot := false })) := by show _ = _; rw [HM.out, if_neg h2]
        go_wp2
        exact bodyPost_end (results_none rfl _ _ _) rfl (Goes.ok HM2.out hB6 ⟨_, _, _, _, _, _, HR6.out⟩)
  · have HM : Hid ((st.add n ps).1 = 6) := by show _ = _; unfold RS.add; rw [if_neg hok]
    have hz : pck n ps = 6 := by unfold pck; rw [if_neg hok]
    rw [hz] at HC
    clear hz hok
    go_enter Tryd.func41, Tryd.ntmps41
    go_wp2_with fail
    refine HC.out.mono ?_
    rintro e w' ⟨rfl, rfl⟩
    go_wp2
    exact ⟨rfl, Goes.bad HM.out (by decide) (Bel.refl _ _)⟩

end Go.Proofs.YtfngadfkopfhcaaDoor

/- Contracts: place.Row, ChangeOf. -/
namespace Go.Proofs.YtfngadfkopfhcaaDoor
open Go.RowKit

/-- A row that is changed up to a tile. -/
def Upto (n : Nat) (s : List Bool) (zs : List Int) : Prop := zs.length = n ∧ ∀ j, j < n → zs.getD j 0 = if j < tsz s then (trow s).getD j 0 else (j : Int)

theorem upto_start (n : Nat) : Upto n [] (rnd n) := ⟨rnd_length n, fun j hj => by rw [rnd_get hj, if_neg (by simp [tsz])]⟩

theorem upto_end {n : Nat} {t : List Bool} {zs : List Int} (h : Upto n t zs) (ht : tsz t = n) : zs = trow t :=
  ext_getD (by rw [h.1, trow_length, ht]) (fun j hj => by rw [h.2 j (by rw [← h.1]; exact hj), if_pos (by rw [ht, ← h.1]; exact hj)])

theorem trow_get_old {b : Bool} {s : List Bool} {j : Nat} (h : j < tsz s) : (trow (b :: s)).getD j 0 = (trow s).getD j 0 := by
  have hl : j < (trow s).length := by rw [trow_length]; exact h
  cases b <;> simp only [trow, List.getD] <;> rw [List.getElem?_append_left hl]

theorem trow_get_one (s : List Bool) : (trow (true :: s)).getD (tsz s) 0 = (tsz s : Nat) := by
  simp only [trow, List.getD]; rw [List.getElem?_append_right (by rw [trow_length]; omega), trow_length, Nat.sub_self]; rfl

theorem trow_get_fst (s : List Bool) : (trow (false :: s)).getD (tsz s) 0 = ((tsz s + 1 : Nat) : Int) := by
  simp only [trow, List.getD]; rw [List.getElem?_append_right (by rw [trow_length]; omega), trow_length, Nat.sub_self]; rfl

theorem trow_get_snd (s : List Bool) : (trow (false :: s)).getD (tsz s + 1) 0 = (tsz s : Nat) := by
  simp only [trow, List.getD]; rw [List.getElem?_append_right (by rw [trow_length]; omega), trow_length, show tsz s + 1 - tsz s = 1 from by omega]; rfl

theorem upto_one {n : Nat} {s : List Bool} {zs : List Int} (h : Upto n s zs) : Upto n (true :: s) zs := by
  have e : tsz (true :: s) = tsz s + 1 := rfl
  refine ⟨h.1, fun j hj => ?_⟩
  rw [h.2 j hj]
  by_cases h1 : j < tsz s
  · rw [if_pos h1, if_pos (by omega), trow_get_old h1]
  · by_cases h2 : j = tsz s
    · subst h2; rw [if_neg h1, if_pos (by omega), trow_get_one]
    · rw [if_neg h1, if_neg (by omega)]

theorem upto_two {n : Nat} {s : List Bool} {zs : List Int} (h : Upto n s zs) (hn : tsz s + 2 ≤ n) : Upto n (false :: s) ((zs.set (tsz s) ((tsz s + 1 : Nat) : Int)).set (tsz s + 1) (tsz s : Nat)) := by
  have e : tsz (false :: s) = tsz s + 2 := rfl
  refine ⟨by simp [h.1], fun j hj => ?_⟩
  rw [getD_set (by simp [h.1]; omega), getD_set (by rw [h.1]; omega), h.2 j hj]
  by_cases h1 : tsz s + 1 = j
  · subst h1; rw [if_pos rfl, if_pos (by omega), trow_get_snd]
  · rw [if_neg h1]
    by_cases h2 : tsz s = j
    · subst h2; rw [if_pos rfl, if_pos (by omega), trow_get_fst]
    · rw [if_neg h2]
      by_cases h3 : j < tsz s
      · rw [if_pos h3, if_pos (by omega), trow_get_old h3]
      · rw [if_neg h3, if_neg (by omega)]

theorem upto_at {n : Nat} {s : List Bool} {zs : List Int} (h : Upto n s zs) {j : Nat} (hj : j < n) (hs : tsz s ≤ j) : zs[j]?.getD 0 = (j : Int) := by
  have := h.2 j hj
  rw [if_neg (by omega)] at this
  exact this

end Go.Proofs.YtfngadfkopfhcaaDoor

/- Several cells of a row are set. -/
namespace Go.Proofs.YtfngadfkopfhcaaDoor
open Go.RowKit

theorem heap_setCell_row {w : World} {g o : Nat} {cur : Array Value} {e : TypeId} {v : Value} (h : w.heap[g]? = some (.cells cur e)) : (w.setCell ⟨g, o, none⟩ v).heap[g]? = some (.cells (cur.setIfInBounds o v) e) := by
  simp [World.setCell, Array.getElem?_modify, h]

theorem heap_setCells_row (g : Nat) (e : TypeId) : ∀ (vs : List Value) (o : Nat) (w : World) (cur : Array Value), w.heap[g]? = some (.cells cur e) → o + vs.length ≤ cur.size →
    (w.setCells g o vs).heap[g]? = some (.cells (cur.toList.take o ++ vs ++ cur.toList.drop (o + vs.length)).toArray e)
  | [], o, w, cur, h, _ => by
    show w.heap[g]? = _
    rw [h]
    simp
  | v :: vs, o, w, cur, h, hl => by
    have hl' : o + 1 + vs.length ≤ (cur.setIfInBounds o v).size := by simp at hl ⊢; omega
    have ho : o < cur.toList.length := by simp at hl ⊢; omega
    have := heap_setCells_row g e vs (o + 1) (w.setCell ⟨g, o, none⟩ v) (cur.setIfInBounds o v) (heap_setCell_row h) hl'
    show ((w.setCell ⟨g, o, none⟩ v).setCells g (o + 1) vs).heap[g]? = _
    rw [this, Array.toList_setIfInBounds]
    congr 3
    rw [List.drop_set_of_lt (by omega), List.take_set, List.take_succ_eq_append_getElem ho, List.set_append_right _ _ (by simp; omega)]
    simp only [List.length_take, List.append_assoc, List.length_cons]
    rw [show o - min o cur.toList.length = 0 from by omega]
    simp only [List.set_cons_zero, List.nil_append, List.cons_append]
    rw [show o + (vs.length + 1) = o + 1 + vs.length from by omega]

theorem heap_setCells_off (g : Nat) : ∀ (vs : List Value) (o : Nat) (w : World) (k : Nat), k ≠ g → (w.setCells g o vs).heap[k]? = w.heap[k]?
  | [], _, _, _, _ => rfl
  | v :: vs, o, w, k, hk => by
    show ((w.setCell ⟨g, o, none⟩ v).setCells g (o + 1) vs).heap[k]? = _
    rw [heap_setCells_off g vs (o + 1) _ k hk]
    have hg : g ≠ k := fun h => hk h.symm
    simp [World.setCell, Array.getElem?_modify, hg]

theorem size_setCells' (g : Nat) : ∀ (vs : List Value) (o : Nat) (w : World), (w.setCells g o vs).heap.size = w.heap.size
  | [], _, _ => rfl
  | v :: vs, o, w => by
    show ((w.setCell ⟨g, o, none⟩ v).setCells g (o + 1) vs).heap.size = _
    rw [size_setCells' g vs (o + 1) _]
    simp [World.setCell]

theorem rest_setCells (g : Nat) : ∀ (vs : List Value) (o : Nat) (w : World), (w.setCells g o vs).os = w.os ∧ (w.setCells g o vs).tape = w.tape ∧ (w.setCells g o vs).output = w.output
  | [], _, _ => ⟨rfl, rfl, rfl⟩
  | v :: vs, o, w => rest_setCells g vs (o + 1) (w.setCell ⟨g, o, none⟩ v)

theorem map_get_some {zs : List Int} {j : Nat} {u : Value} (h : (zs.map (Value.int .i64))[j]? = some u) : j < zs.length ∧ u = .int .i64 (zs.getD j 0) := by
  rw [List.getElem?_map] at h
  cases hz : zs[j]? with
  | none => rw [hz] at h; cases h
  | some z =>
    rw [hz] at h
    have hj : j < zs.length := (List.getElem?_eq_some_iff.1 hz).1
    refine ⟨hj, ?_⟩
    simp only [List.getD, hz, Option.getD_some]
    simpa using h.symm

theorem owns_setCells {w : World} {base e g n cap o : Nat} {xs vs : List Value} (h : w.ownsRow base e 1 (.slice (some ⟨g, 0, none⟩) n cap) n xs) (ho : o + vs.length ≤ n) :
    (w.setCells g o vs).ownsRow base e 1 (.slice (some ⟨g, 0, none⟩) n cap) n (xs.take o ++ vs ++ xs.drop (o + vs.length)) := by
  obtain ⟨h1, h2⟩ := h
  refine ⟨by simp at h1 ⊢; omega, ?_⟩
  rcases h2 with ⟨h2, _⟩ | ⟨g', cap', cur, hv, hb, hh, hn, hx, hs, ht⟩
  · cases h2
  · injection hv with e1 _ e3
    injection e1 with e1
    injection e1 with e1
    subst e1; subst e3
    have hl : cur.toList.length = cap := by simp; omega
    refine Or.inr ⟨g, cap, _, rfl, hb, heap_setCells_row g e vs o w cur hh (by omega), hn, hx, by simp; omega, ?_⟩
    rw [← ht, List.toList_toArray, Nat.mul_one]
    apply List.ext_getElem?
    intro j
    by_cases hj : j < n
    · rw [List.getElem?_take_of_lt hj]
      rcases Nat.lt_or_ge j o with hjo | hjo
      · rw [List.append_assoc, List.append_assoc, List.getElem?_append_left (by simp; omega), List.getElem?_append_left (by simp; omega), List.getElem?_take_of_lt hjo, List.getElem?_take_of_lt hjo, List.getElem?_take_of_lt hj]
      · rcases Nat.lt_or_ge j (o + vs.length) with hjv | hjv
        · have key : ∀ (A B : List Value), A.length = o → (A ++ vs ++ B)[j]? = vs[j - o]? := fun A B hA => by
            rw [List.getElem?_append_left (by simp; omega), List.getElem?_append_right (by omega), hA]
          rw [key _ _ (by simp; omega), key _ _ (by simp; omega)]
        · have key : ∀ (A B : List Value), A.length = o → (A ++ vs ++ B)[j]? = B[j - (o + vs.length)]? := fun A B hA => by
            rw [List.getElem?_append_right (by simp; omega)]
            congr 1
            simp; omega
          rw [key _ _ (by simp; omega), key _ _ (by simp; omega), List.getElem?_drop, List.getElem?_drop, List.getElem?_take_of_lt (by omega)]
    · rw [List.getElem?_eq_none (by simp; omega), List.getElem?_eq_none (by simp; omega)]

theorem below_setCells {B g : Nat} {a w : World} (h : Below B a w) (hB : B ≤ g) (o : Nat) (vs : List Value) : Below B a (w.setCells g o vs) := by
  have r := rest_setCells g vs o w
  refine h.trans ⟨r.1, r.2.1, r.2.2, by rw [size_setCells']; exact Nat.le_refl _, fun k hk => heap_setCells_off g vs o w k (by omega)⟩

/-- copy onto a row of the call's own. -/
theorem run_copy_row {t t' : TypeId} (ht : Tryd.prog.underlying t = some (.slice 3)) {w : World} {base g n cap o dl dc sl sc : Nat} {zs cs : List Int} {a : Addr} (hown : w.ownsRow base 3 1 (.slice (some ⟨g, 0, none⟩) n cap) n (zs.map (Value.int .i64)))
    (hcs : ∀ j, j < cs.length → w.cell? (a.add j) = some (.int .i64 (cs.getD j 0))) (hlen : cs.length = Nat.min sl dl) (hfit : o + cs.length ≤ n) (ty : TypeId) :
    (Builtin.copy_ #[t, t'] ty #[.slice (some ⟨g, o, none⟩) dl dc, .slice (some a) sl sc]).run Tryd.prog w = .ok (goInt cs.length) (w.setCells g o (cs.map (Value.int .i64))) := by
  obtain ⟨i0, hi, hz0, hz1, hz2⟩ := info_parts Tryd.info3
  have := run_copy_cells (P := Tryd.prog) w t t' ty 3 g o dl dc a sl sc (cs.map (Value.int .i64)) ht (by rw [hi]; simp [hz1]) (by rw [List.length_map]; exact hlen)
    (fun j v hj => by obtain ⟨h1, rfl⟩ := map_get_some hj; exact hcs j h1)
    (fun j hj => by rw [List.length_map] at hj; rw [(owns_cell hown (by omega)).1]; rfl)
    (fun j hj => by rw [List.length_map] at hj; exact (owns_cell hown (by omega)).2)
    (fun v hv => by obtain ⟨z, _, rfl⟩ := List.mem_map.1 hv; rfl)
  rw [List.length_map] at this
  exact this

theorem owns_setCells_int {w : World} {base e g n cap o : Nat} {zs cs : List Int} (h : w.ownsRow base e 1 (.slice (some ⟨g, 0, none⟩) n cap) n (zs.map (Value.int .i64))) (ho : o + cs.length ≤ n) :
    (w.setCells g o (cs.map (Value.int .i64))).ownsRow base e 1 (.slice (some ⟨g, 0, none⟩) n cap) n ((zs.take o ++ cs ++ zs.drop (o + cs.length)).map (Value.int .i64)) := by
  have := owns_setCells h (o := o) (vs := cs.map (Value.int .i64)) (by rw [List.length_map]; exact ho)
  rw [List.length_map] at this
  rw [List.map_append, List.map_append, List.map_take, List.map_drop]
  exact this

end Go.Proofs.YtfngadfkopfhcaaDoor

/- Contracts: slices.Insert of one number ahead of a row of the call's own, slices.Clone. -/
namespace Go.Proofs.YtfngadfkopfhcaaDoor
open Go.RowKit Go.Lib

def rnI : Go.Shelf.Ren := ⟨fun x => match x with | 21 => 59 | 27 => 70 | 28 => 71 | 35 => 75 | 39 => 80 | y => y,
  fun x => match x with | 22 => 47 | 3 => 3 | 4 => 4 | 0 => 0 | y => y, fun x => x⟩

theorem lays21 : Go.Proofs.Lays2.n21 Tryd.prog rnI where
  mixed := by kernel_rfl
  f21 := by kernel_rfl
  f27 := by kernel_rfl
  f28 := by kernel_rfl
  f35 := by kernel_rfl
  f39 := by kernel_rfl
  t0 := by kernel_rfl
  a0 := fun w => by kernel_rfl
  z0 := fun w => by kernel_rfl
  v0 := fun w => by kernel_rfl
  t3 := by kernel_rfl
  a3 := fun w => by kernel_rfl
  z3 := fun w => by kernel_rfl
  v3 := fun w => by kernel_rfl
  t4 := by kernel_rfl
  a4 := fun w => by kernel_rfl
  z4 := fun w => by kernel_rfl
  v4 := fun w => by kernel_rfl
  t22 := by kernel_rfl
  a22 := fun w => by kernel_rfl
  z22 := fun w => by kernel_rfl
  v22 := fun w => by kernel_rfl
  i3 := by kernel_rfl

theorem ahead_take {A M R : List Value} {v : Value} {n : Nat} (hA : A.length = 1) (hM : M.length = n) : List.take ((n + 1) * 1) (List.take (0 + 0) (A ++ M ++ R) ++ [v] ++ List.drop (0 + 0 + [v].length) (A ++ M ++ R)) = v :: M := by
  have hd : List.drop 1 (A ++ M ++ R) = M ++ R := by rw [List.append_assoc, List.drop_left' hA]
  show List.take ((n + 1) * 1) (List.take 0 (A ++ M ++ R) ++ [v] ++ List.drop 1 (A ++ M ++ R)) = _
  rw [hd, List.take_zero, List.nil_append, List.singleton_append, Nat.mul_one, List.take_succ_cons, List.take_append_of_le_length (by omega), List.take_of_length_le (by omega)]

theorem behind_take {Z M : List Value} {v : Value} {n : Nat} (hM : M.length = n) : List.take ((n + 1) * 1) (List.take (0 + 1) (List.take 0 Z ++ [v] ++ List.drop (0 + [v].length) Z) ++ M ++ List.drop (0 + 1 + M.length) (List.take 0 Z ++ [v] ++ List.drop (0 + [v].length) Z)) = v :: M := by
  rw [List.take_zero, List.nil_append, List.singleton_append, Nat.zero_add, List.take_succ_cons, List.take_zero, List.singleton_append, List.cons_append, Nat.mul_one, List.take_succ_cons, List.take_append_of_le_length (by omega), List.take_of_length_le (by omega)]

set_option maxHeartbeats 1000000 in
theorem ins_own {base g n cap vb : Nat} {zs : List Int} {w : World} (h : w.ownsRow base 3 1 (.slice (some ⟨g, 0, none⟩) n cap) n (zs.map (Value.int .i64))) (hn : 1 ≤ n) (hb : base ≤ w.heap.size) (hbig : n ≤ 1000000) (hv : w.heap[vb]? = some (.cells #[.int .i64 1] 3)) (hne : vb ≠ g) :
    Calls Tryd.prog 59 #[.slice (some ⟨g, 0, none⟩) n cap, .int .i64 0, .slice (some ⟨vb, 0, none⟩) 1 1] w fun e w' =>
      ∃ v', e = .returned v' ∧ w'.ownsRow base 3 1 v' (n + 1) (((1 : Int) :: zs).map (Value.int .i64)) ∧ w.grownBy w' (some g) := by
  have hl : zs.length = n := by have := h.1; simpa using this
  rcases h.2 with ⟨h2, _⟩ | ⟨g', cap', cur, hve, hbg, hh, hnc, hm, hs, ht⟩
  · cases h2
  injection hve with e1 _ e3
  injection e1 with e1
  injection e1 with e1
  subst e1; subst e3
  have hs' : cur.size = cap := by rw [hs]; omega
  have hcs : ∀ j v, (zs.map (Value.int .i64))[j]? = some v → w.cell? ⟨g, 0 + j, none⟩ = some v := by
    intro j v hj
    obtain ⟨hj', rfl⟩ := map_get_some hj
    rw [Nat.zero_add]
    exact (owns_cell h (by omega)).1
  have hvs : ∀ j v, [Value.int .i64 1][j]? = some v → w.cell? ⟨vb, 0 + j, none⟩ = some v := by
    intro j v hj
    match j, hj with
    | 0, hj => simp [World.cell?, hv]; simpa using hj
    | j + 1, hj => simp at hj
  have h1c : ∀ v ∈ zs.map (Value.int .i64), v.oneCell' = true := by
    intro v hv'
    obtain ⟨z, _, rfl⟩ := List.mem_map.1 hv'
    rfl
  have h1v : ∀ v ∈ [Value.int .i64 1], v.oneCell' = true := by intro v hv'; simp at hv'; subst hv'; rfl
  by_cases hroom : n + 1 ≤ cap
  · have hsp : ∀ j, j < n + 1 → (w.cell? ⟨g, 0 + j, none⟩).isSome = true := by
      intro j hj
      have hj' : j < cur.size := by omega
      simp [World.cell?, hh, Nat.zero_add, hj']
    have hfz : ∀ j, j < n + 1 → w.frozen? ⟨g, 0 + j, none⟩ = false := by
      intro j hj; simp [World.frozen?, hh]
    refine (Go.Proofs.Any2.slices_Insert_int_shift lays21 g 0 n cap 0 vb 0 1 1 (zs.map (Value.int .i64)) [.int .i64 1] w (by omega) (by omega) hroom (by unfold maxLen at hm; omega) hne (by simp [hl]) rfl hcs hsp hfz hvs h1c h1v 3 3 1 cap
      (by simp [World.shape?, hv]) (by simp [World.shape?, hh, hs']) (by omega) (by simp [World.frozen?, hv]) (by simp [World.frozen?, hv])).mono ?_
    rintro e w' ⟨rfl, rfl⟩
    have k1 : (w.drew.setCells g (0 + (0 + 1)) ((zs.map (Value.int .i64)).drop 0)).heap[g]? = some (.cells (cur.toList.take 1 ++ zs.map (Value.int .i64) ++ cur.toList.drop (1 + n)).toArray 3) := by
      have := heap_setCells_row g 3 (zs.map (Value.int .i64)) 1 w.drew cur hh (by rw [List.length_map, hl]; omega)
      rw [List.length_map, hl] at this
      simpa using this
    have k2 := heap_setCells_row g 3 [.int .i64 1] (0 + 0) _ _ k1 (by simp; omega)
    refine ⟨_, rfl, ⟨by simp [hl], Or.inr ⟨g, cap, _, rfl, hbg, k2, hroom, hm, by simp [hl]; omega, ?_⟩⟩, ?_⟩
    · rw [List.toList_toArray, List.toList_toArray]
      exact ahead_take (by simp; omega) (by simp [hl])
    · have r1 := rest_setCells g ((zs.map (Value.int .i64)).drop 0) (0 + (0 + 1)) w.drew
      have r2 := rest_setCells g [.int .i64 1] (0 + 0) (w.drew.setCells g (0 + (0 + 1)) ((zs.map (Value.int .i64)).drop 0))
      refine ⟨r2.1.trans r1.1, r2.2.1.trans r1.2.1, r2.2.2.trans r1.2.2, ?_, fun k _ hk => ?_⟩
      · rw [size_setCells', size_setCells']; exact Nat.le_refl _
      · rw [heap_setCells_off g _ _ _ k (fun e => hk (by rw [e])), heap_setCells_off g _ _ _ k (fun e => hk (by rw [e]))]; rfl
  · refine (Go.Proofs.Any2.slices_Insert_int_grow lays21 g 0 n cap 0 vb 0 1 1 (zs.map (Value.int .i64)) [.int .i64 1] w (by omega) (by omega) hnc (by omega) (by omega) (by simp [hl]) rfl hcs hvs h1c h1v).mono ?_
    rintro e w' ⟨rfl, rfl⟩
    have hge := grownCap_ge w (n + 1) cap (rnI.t 3)
    have hle := grownCap_le_maxLen w (n + 1) cap (rnI.t 3) (by unfold maxLen; omega)
    generalize grownCap w (n + 1) cap (rnI.t 3) = C at *
    generalize hZ : ((List.take 0 (zs.map (Value.int .i64))).toArray ++ Builtin.zeroCells (Value.int .i64 0).cells (n + 1 - 0) ++ Builtin.zeroCells (Value.int .i64 0).cells (C - (n + 1))) = Z at *
    have hZs : Z.size = C := by rw [← hZ]; simp [Builtin.zeroCells, Value.cells]; omega
    have k0 : (w.alloc (.cells Z (rnI.t 3))).drew.heap[w.heap.size]? = some (.cells Z 3) := heap_alloc_new w _
    have k1 := heap_setCells_row w.heap.size 3 [.int .i64 1] 0 _ _ k0 (by rw [hZs]; simp; omega)
    have k2 := heap_setCells_row w.heap.size 3 ((zs.map (Value.int .i64)).drop 0) (0 + 1) ((w.alloc (.cells Z (rnI.t 3))).drew.setCells w.heap.size 0 [.int .i64 1]).drew _ k1 (by simp [hl, hZs]; omega)
    refine ⟨_, rfl, ⟨by simp [hl], Or.inr ⟨w.heap.size, C, _, rfl, hb, k2, hge, hle, by simp [hl, hZs]; omega, ?_⟩⟩, ?_⟩
    · rw [List.toList_toArray, List.toList_toArray]
      exact behind_take (by simp [hl])
    · have r1 := rest_setCells w.heap.size [.int .i64 1] 0 (w.alloc (.cells Z (rnI.t 3))).drew
      have r2 := rest_setCells w.heap.size ((zs.map (Value.int .i64)).drop 0) (0 + 1) ((w.alloc (.cells Z (rnI.t 3))).drew.setCells w.heap.size 0 [.int .i64 1]).drew
      refine ⟨r2.1.trans r1.1, r2.2.1.trans r1.2.1, r2.2.2.trans r1.2.2, ?_, fun k hk' _ => ?_⟩
      · rw [size_setCells']
        show w.heap.size ≤ ((w.alloc (.cells Z (rnI.t 3))).drew.setCells w.heap.size 0 [.int .i64 1]).heap.size
        rw [size_setCells']
        show w.heap.size ≤ (w.alloc (.cells Z (rnI.t 3))).heap.size
        simp
      · rw [heap_setCells_off w.heap.size _ _ _ k (by omega)]
        show ((w.alloc (.cells Z (rnI.t 3))).drew.setCells w.heap.size 0 [.int .i64 1]).heap[k]? = _
        rw [heap_setCells_off w.heap.size _ _ _ k (by omega)]
        exact Below.heap_alloc w _ k hk'

end Go.Proofs.YtfngadfkopfhcaaDoor
