/- A chain of links in memory: what lies where, what each step leaves as it was. -/
import Derived.Test.YtbddhpbeekioiaaMp
import Derived.Maps.AppendAt
namespace Go.Proofs.Ytbddhpbeekioiaa
open Go.RowKit

/-! append, and where the new slice lies -/

theorem run_append_keep {P : Program} (w : World) (base : Nat) (t ty e : TypeId) (i : TypeInfo) (z : Value) (size bytes : Nat) (ht : P.underlying t = some (.slice e)) (hi : P.info? e = some i) (hz : i.zero = some z)
    (hsize : i.size = size) (hby : i.bytes = bytes) (hzs : z.cells.size = size) (hsz : 0 < size)
    (v : Value) (n : Nat) (xs : List Value) (hown : w.ownsRow base e size v n xs)
    (a : Addr) (m c : Nat) (news : List Value) (hl : news.length = m * size) (hnews : ∀ j u, news[j]? = some u → w.cell? (a.add j) = some u) (h1 : ∀ u ∈ news, u.oneCell' = true)
    (h63 : n + m ≤ maxLen) (hbytes : (n + m) * bytes ≤ 140737488355328) (hbase : base ≤ w.heap.size) :
    ∃ v' w', (Builtin.append_ #[t, t] ty #[v, .slice (some a) m c]).run P w = .ok v' w' ∧ w'.ownsRow base e size v' (n + m) (xs ++ news) ∧ w.grownBy w' v.ownBlock ∧
      (v'.ownBlock = v.ownBlock ∨ (v'.ownBlock = some w.heap.size ∧ w.grownBy w' none)) := by
  obtain ⟨v', w', hr, h2, h3, _, h5⟩ := run_append_own_at (P := P) w base t ty e i z size bytes ht hi hz hsize hby hzs hsz v n xs hown a m c news hl hnews h1 h63 hbytes hbase
  refine ⟨v', w', hr, h2, h3, ?_⟩
  subst hsize
  subst hby
  rcases hown.2 with ⟨rfl, rfl⟩ | ⟨g, cap, cur, rfl, hbg, hg, hnc, hcm, hcs, htake⟩
  · exact h5.imp id (fun h => ⟨h, h3⟩)
  · by_cases hroom : n + m ≤ cap
    · have hfit : n * i.size + news.length ≤ cur.size := by rw [hl, hcs, ← Nat.add_mul]; exact Nat.mul_le_mul_right _ hroom
      have hr' := run_append_room (P := P) w t ty e i ht hi g n cap cur hg a m c news hl hnews h1 hroom hfit
      rw [hr] at hr'
      obtain ⟨e1, _⟩ := Result.ok.inj hr'
      left; rw [e1]; rfl
    · have holds : ∀ j u, xs[j]? = some u → w.cell? ((⟨g, 0, none⟩ : Addr).add j) = some u := hown.cells (g := g) rfl
      have hsmall : n + m ≤ 9223372036854775807 := by simp only [maxLen] at h63; omega
      have hr' := run_append_grow (P := P) w t ty e i z ht hi hz ⟨g, 0, none⟩ n cap xs hown.1 holds a m c news hl hnews (by omega) (by omega) (growslice_fits (by omega) hbytes)
      rw [hr] at hr'
      obtain ⟨e1, e2⟩ := Result.ok.inj hr'
      right
      rw [e1, e2]
      exact ⟨rfl, ⟨rfl, rfl, rfl, by simp, fun k hk _ => Below.heap_alloc w.drew _ k hk⟩⟩

theorem wpList_append_keep {P : Program} (w : World) {ops : Array Oper} {rest : List Oper} {o : Oper} {a : Act} {Q : Exit → Act → World → Prop} (hgd : o.guard = none) (s x : Operand) (t : TypeId)
    (ho : o.op = .call { callee := .builtin .append, args := #[s, x], argTypes := #[t, t] })
    (base : Nat) (e : TypeId) (i : TypeInfo) (z : Value) (size bytes : Nat) (ht : P.underlying t = some (.slice e)) (hi : P.info? e = some i) (hz : i.zero = some z)
    (hsize : i.size = size) (hby : i.bytes = bytes) (hzs : z.cells.size = size) (hsz : 0 < size)
    (v : Value) (n : Nat) (xs : List Value) (hs : a.eval s = v) (hown : w.ownsRow base e size v n xs)
    (ad : Addr) (m c : Nat) (news : List Value) (hx : a.eval x = .slice (some ad) m c) (hl : news.length = m * size) (hnews : ∀ j u, news[j]? = some u → w.cell? (ad.add j) = some u) (h1 : ∀ u ∈ news, u.oneCell' = true)
    (h63 : n + m ≤ maxLen) (hbytes : (n + m) * bytes ≤ 140737488355328) (hbase : base ≤ w.heap.size)
    (h : ∀ v' w', w'.ownsRow base e size v' (n + m) (xs ++ news) → w.grownBy w' v.ownBlock → (v'.ownBlock = v.ownBlock ∨ (v'.ownBlock = some w.heap.size ∧ w.grownBy w' none)) → wpList P ops Q rest (a.put o.dst v') w') :
    wpList P ops Q (o :: rest) a w := by
  refine wpList_plain hgd fun K hK => ?_
  obtain ⟨v', w', hr, h2, h3, h4⟩ := run_append_keep (P := P) w base t o.type e i z size bytes ht hi hz hsize hby hzs hsz v n xs hown ad m c news hl hnews h1 h63 hbytes hbase
  unfold Oper.wp execOp
  simp only [ho, resolve, invoke, builtin, Sem.run_bind, Sem.run_pure, Result.andThen_ok, List.map_toArray, List.map_cons, List.map_nil, hs, hx, hr]
  exact hK _ _ (h v' w' h2 h3 h4)

/-- .. as one step of a region that draws. -/
theorem step_append_keep {P : Program} {ops : Array Oper} {o : Oper} {a : Act} {w : World} {K : Act → World → Prop} {Q : Exit → Act → World → Prop} {E : Prop} (hg : o.guard = none) (s x : Operand) (t : TypeId)
    (ho : o.op = .call { callee := .builtin .append, args := #[s, x], argTypes := #[t, t] })
    (base : Nat) (e : TypeId) (i : TypeInfo) (z : Value) (size bytes : Nat) (ht : P.underlying t = some (.slice e)) (hi : P.info? e = some i) (hz : i.zero = some z)
    (hsize : i.size = size) (hby : i.bytes = bytes) (hzs : z.cells.size = size) (hsz : 0 < size)
    (v : Value) (n : Nat) (xs : List Value) (hs : a.eval s = v) (hown : w.ownsRow base e size v n xs)
    (ad : Addr) (m c : Nat) (news : List Value) (hx : a.eval x = .slice (some ad) m c) (hl : news.length = m * size) (hnews : ∀ j u, news[j]? = some u → w.cell? (ad.add j) = some u) (h1 : ∀ u ∈ news, u.oneCell' = true)
    (h63 : n + m ≤ maxLen) (hbytes : (n + m) * bytes ≤ 140737488355328) (hbase : base ≤ w.heap.size)
    (h : ∀ v' w', w'.ownsRow base e size v' (n + m) (xs ++ news) → w.grownBy w' v.ownBlock → (v'.ownBlock = v.ownBlock ∨ (v'.ownBlock = some w.heap.size ∧ w.grownBy w' none)) → K (a.put o.dst v') w') :
    if Region.wanted o (yielded ops a.tmps) = true then Oper.wp P o a w K Q else E := by
  have hw : Region.wanted o (yielded ops a.tmps) = true := by simp [Region.wanted, hg]
  rw [if_pos hw]
  obtain ⟨v', w', hr, h2, h3, h4⟩ := run_append_keep (P := P) w base t o.type e i z size bytes ht hi hz hsize hby hzs hsz v n xs hown ad m c news hl hnews h1 h63 hbytes hbase
  unfold Oper.wp execOp
  simp only [ho, resolve, invoke, builtin, Sem.run_bind, Sem.run_pure, Result.andThen_ok, List.map_toArray, List.map_cons, List.map_nil, hs, hx, hr]
  exact h v' w' h2 h3 h4

/-! frames, cell by cell -/

structure Keep (S : Nat → Nat → Prop) (w w' : World) : Prop where
  os : w'.os = w.os
  tape : w'.tape = w.tape
  output : w'.output = w.output
  size : w.heap.size ≤ w'.heap.size
  block : ∀ b, b < w.heap.size → (∀ x, ¬ S b x) → w'.heap[b]? = w.heap[b]?
  cell : ∀ b x, b < w.heap.size → ¬ S b x → w'.cell? ⟨b, x, none⟩ = w.cell? ⟨b, x, none⟩

theorem Keep.refl (S : Nat → Nat → Prop) (w : World) : Keep S w w := ⟨rfl, rfl, rfl, Nat.le_refl _, fun _ _ _ => rfl, fun _ _ _ _ => rfl⟩

theorem Keep.trans {S S1 : Nat → Nat → Prop} {w w1 w2 : World} (h : Keep S w w1) (h1 : Keep S1 w1 w2) (hs : ∀ b x, b < w.heap.size → S1 b x → S b x) : Keep S w w2 :=
  ⟨h1.os.trans h.os, h1.tape.trans h.tape, h1.output.trans h.output, Nat.le_trans h.size h1.size,
    fun b hb hn => (h1.block b (Nat.lt_of_lt_of_le hb h.size) (fun x hx => hn x (hs b x hb hx))).trans (h.block b hb hn),
    fun b x hb hn => (h1.cell b x (Nat.lt_of_lt_of_le hb h.size) (fun hx => hn (hs b x hb hx))).trans (h.cell b x hb hn)⟩

theorem Keep.mono {S S' : Nat → Nat → Prop} {w w' : World} (h : Keep S w w') (hs : ∀ b x, S b x → S' b x) : Keep S' w w' :=
  ⟨h.os, h.tape, h.output, h.size, fun b hb hn => h.block b hb (fun x hx => hn x (hs b x hx)), fun b x hb hn => h.cell b x hb (fun hx => hn (hs b x hx))⟩

theorem Keep.of_below {S : Nat → Nat → Prop} {w w' : World} {B : Nat} (h : Below B w w') (hB : w.heap.size ≤ B) : Keep S w w' :=
  ⟨h.os, h.tape, h.output, h.size, fun b hb _ => h.block b (by omega), fun b x hb _ => h.cell (p := ⟨b, x, none⟩) (by show b < B; omega)⟩

theorem Keep.toBelow {S : Nat → Nat → Prop} {w w' : World} {B : Nat} (h : Keep S w w') (hB : B ≤ w.heap.size) (hs : ∀ b x, b < B → ¬ S b x) : Below B w w' :=
  ⟨h.os, h.tape, h.output, h.size, fun b hb => h.block b (by omega) (fun x => hs b x hb)⟩

/-! what lies where -/

structure St where
  m : Nat
  vb : Value
  vg : Value

structure Raw where
  base : Nat
  n : Nat
  f : Int → Option Value
  bs : List Value
  gs : List Pm

def gcells : List Pm → List Value
  | [] => []
  | x :: t => x.l.map (Value.int .i8) ++ gcells t

theorem gcells_length : ∀ gs : List Pm, (gcells gs).length = gs.length * 12
  | [] => rfl
  | x :: t => by simp [gcells, gcells_length t, x.len]; omega

theorem gcells_snoc (gs : List Pm) (p : Pm) : gcells (gs ++ [p]) = gcells gs ++ p.l.map (Value.int .i8) := by
  induction gs with
  | nil => simp [gcells]
  | cons x t ih => simp [gcells, ih]

structure LinkAt (w : World) (B g j : Nat) (r : Raw) (s : St) : Prop where
  c0 : w.cell? ⟨g, 4 * j, none⟩ = some (.int .i64 ((r.base : Nat) : Int))
  c1 : w.cell? ⟨g, 4 * j + 1, none⟩ = some (.map (some s.m))
  c2 : w.cell? ⟨g, 4 * j + 2, none⟩ = some s.vb
  c3 : w.cell? ⟨g, 4 * j + 3, none⟩ = some s.vg
  mp : IMap w s.m r.n r.f
  mB : B ≤ s.m
  bells : w.ownsRow B 3 1 s.vb r.bs.length r.bs
  gens : w.ownsRow B 92 12 s.vg r.gs.length (gcells r.gs)

def updS (st : Nat → St) (k : Nat) (s : St) : Nat → St := fun j => if j = k then s else st j

structure ChainAt (w : World) (B g : Nat) (R : List Raw) (st : Nat → St) : Prop where
  obj : ∃ cs, w.heap[g]? = some (.cells cs 122) ∧ cs.size = 4 * R.length
  gB : B ≤ g
  link : ∀ j r, R[j]? = some r → LinkAt w B g j r (st j)
  mdis : ∀ i j, i < R.length → j < R.length → i ≠ j → (st i).m ≠ (st j).m
  bdis : ∀ i j, i < R.length → j < R.length → i ≠ j → ∀ b, (st i).vb.ownBlock = some b → (st j).vb.ownBlock ≠ some b
  gdis : ∀ i j, i < R.length → j < R.length → i ≠ j → ∀ b, (st i).vg.ownBlock = some b → (st j).vg.ownBlock ≠ some b

theorem owns_obj {w : World} {base e size n : Nat} {v : Value} {xs : List Value} (h : w.ownsRow base e size v n xs) {b : Nat} (hb : v.ownBlock = some b) : ∃ cur, w.heap[b]? = some (.cells cur e) := by
  rcases h.2 with ⟨rfl, _⟩ | ⟨g, cap, cur, rfl, _, hh, _⟩
  · cases hb
  · have : g = b := by simpa [Value.ownBlock] using hb
    subst this; exact ⟨cur, hh⟩

theorem owns_of_block {w w' : World} {base e size n : Nat} {v : Value} {xs : List Value} (h : w.ownsRow base e size v n xs) (hb : ∀ b, v.ownBlock = some b → w'.heap[b]? = w.heap[b]?) : w'.ownsRow base e size v n xs := by
  obtain ⟨h1, h2⟩ := h
  refine ⟨h1, ?_⟩
  rcases h2 with h2 | ⟨g, cap, cur, rfl, r1, hh, r2⟩
  · exact Or.inl h2
  · exact Or.inr ⟨g, cap, cur, rfl, r1, (hb g rfl).trans hh, r2⟩

theorem LinkAt.of_block {w w' : World} {B g j : Nat} {r : Raw} {s : St} (h : LinkAt w B g j r s) (hc : ∀ x, 4 * j ≤ x → x < 4 * j + 4 → w'.cell? ⟨g, x, none⟩ = w.cell? ⟨g, x, none⟩) (hm : w'.heap[s.m]? = w.heap[s.m]?)
    (hb : ∀ b, s.vb.ownBlock = some b → w'.heap[b]? = w.heap[b]?) (hg : ∀ b, s.vg.ownBlock = some b → w'.heap[b]? = w.heap[b]?) : LinkAt w' B g j r s :=
  ⟨by rw [hc _ (by omega) (by omega)]; exact h.c0, by rw [hc _ (by omega) (by omega)]; exact h.c1, by rw [hc _ (by omega) (by omega)]; exact h.c2, by rw [hc _ (by omega) (by omega)]; exact h.c3,
    h.mp.of_block hm, h.mB, owns_of_block h.bells hb, owns_of_block h.gens hg⟩

/-- Which cells the links from k on may still change. -/
def Foot (g k : Nat) (R : List Raw) (st : Nat → St) (b x : Nat) : Prop :=
  (b = g ∧ 4 * k ≤ x) ∨ ∃ j r, k ≤ j ∧ R[j]? = some r ∧ (b = (st j).m ∨ ((st j).vb.ownBlock = some b ∧ r.bs.length ≤ x) ∨ ((st j).vg.ownBlock = some b ∧ 12 * r.gs.length ≤ x))

theorem ChainAt.lt_g {w : World} {B g : Nat} {R : List Raw} {st : Nat → St} (h : ChainAt w B g R st) : g < w.heap.size := by
  obtain ⟨cs, h1, _⟩ := h.obj; exact (Array.getElem?_eq_some_iff.1 h1).1

theorem ChainAt.of_block {w w' : World} {B g : Nat} {R : List Raw} {st : Nat → St} (h : ChainAt w B g R st) (hb : ∀ b, b < w.heap.size → w'.heap[b]? = w.heap[b]?) : ChainAt w' B g R st := by
  refine ⟨?_, h.gB, fun j r hr => ?_, h.mdis, h.bdis, h.gdis⟩
  · obtain ⟨cs, h1, h2⟩ := h.obj; exact ⟨cs, by rw [hb g h.lt_g]; exact h1, h2⟩
  · have l := h.link j r hr
    refine l.of_block (fun x _ _ => World.cell?_of_block (w := w) (a := ⟨g, x, none⟩) (hb g h.lt_g)) (hb _ l.mp.lt) (fun b hbb => hb b (l.bells.lt b hbb).2) (fun b hbb => hb b (l.gens.lt b hbb).2)

theorem ChainAt.below {w w' : World} {B g X : Nat} {R : List Raw} {st : Nat → St} (h : ChainAt w B g R st) (hb : Below X w w') (hX : w.heap.size ≤ X) : ChainAt w' B g R st := h.of_block (fun b hlt => hb.block b (by omega))

theorem ChainAt.alloc {w : World} {B g : Nat} {R : List Raw} {st : Nat → St} (h : ChainAt w B g R st) (o : Obj) : ChainAt (w.alloc o) B g R st := h.of_block (fun b hlt => Below.heap_alloc w o b hlt)

/-- Blocks of different kinds differ. -/
theorem ChainAt.kinds {w : World} {B g : Nat} {R : List Raw} {st : Nat → St} (h : ChainAt w B g R st) {i j : Nat} {r s : Raw} (hi : R[i]? = some r) (hj : R[j]? = some s) :
    g ≠ (st i).m ∧ (st i).vb.ownBlock ≠ some g ∧ (st i).vg.ownBlock ≠ some g ∧ (st i).vb.ownBlock ≠ some (st j).m ∧ (st i).vg.ownBlock ≠ some (st j).m ∧ ∀ b, (st i).vb.ownBlock = some b → (st j).vg.ownBlock ≠ some b := by
  have li := h.link i r hi
  have lj := h.link j s hj
  obtain ⟨cs, ho, _⟩ := h.obj
  obtain ⟨es, cl, hm⟩ := li.mp.obj
  obtain ⟨es', cl', hm'⟩ := lj.mp.obj
  refine ⟨fun e => ?_, fun e => ?_, fun e => ?_, fun e => ?_, fun e => ?_, fun b e1 e2 => ?_⟩
  · rw [e] at ho; rw [ho] at hm; cases hm
  · obtain ⟨c, hc⟩ := owns_obj li.bells e; rw [ho] at hc; injection hc with hc; injection hc with _ h2 _; exact absurd h2 (by decide)
  · obtain ⟨c, hc⟩ := owns_obj li.gens e; rw [ho] at hc; injection hc with hc; injection hc with _ h2 _; exact absurd h2 (by decide)
  · obtain ⟨c, hc⟩ := owns_obj li.bells e; rw [hm'] at hc; cases hc
  · obtain ⟨c, hc⟩ := owns_obj li.gens e; rw [hm'] at hc; cases hc
  · obtain ⟨c, hc⟩ := owns_obj li.bells e1
    obtain ⟨c', hc'⟩ := owns_obj lj.gens e2
    rw [hc] at hc'; injection hc' with hc'; injection hc' with _ h2 _; exact absurd h2 (by decide)

theorem get_lt {R : List Raw} {k : Nat} {r : Raw} (h : R[k]? = some r) : k < R.length := (List.getElem?_eq_some_iff.1 h).1

/-- The map of link k is written. -/
theorem ChainAt.setMap {w w' : World} {B g k n' : Nat} {R : List Raw} {st : Nat → St} {r : Raw} {f' : Int → Option Value} (h : ChainAt w B g R st) (hk : R[k]? = some r) (hm : IMap w' (st k).m n' f') (hg : w.grownBy w' (some (st k).m)) :
    ChainAt w' B g (R.set k { r with f := f', n := n' }) st ∧ Keep (Foot g k R st) w w' ∧ (∀ b x, b < w.heap.size → Foot g k (R.set k { r with f := f', n := n' }) st b x → Foot g k R st b x) := by
  have hkl := get_lt hk
  have keepB : ∀ b, b < w.heap.size → b ≠ (st k).m → w'.heap[b]? = w.heap[b]? := fun b hb hne => hg.block b hb (fun e => hne (by injection e))
  have hgm := (h.kinds hk hk).1
  refine ⟨⟨?_, h.gB, ?_, by simpa using h.mdis, by simpa using h.bdis, by simpa using h.gdis⟩, ⟨hg.os, hg.tape, hg.output, hg.size, ?_, ?_⟩, ?_⟩
  · obtain ⟨cs, h1, h2⟩ := h.obj
    exact ⟨cs, by rw [keepB g h.lt_g hgm]; exact h1, by simpa using h2⟩
  · intro j q hq
    rw [List.getElem?_set] at hq
    have hcell : ∀ x, w'.cell? ⟨g, x, none⟩ = w.cell? ⟨g, x, none⟩ := fun x => World.cell?_of_block (w := w) (a := ⟨g, x, none⟩) (keepB g h.lt_g hgm)
    by_cases e : k = j
    · subst e
      rw [if_pos rfl, if_pos hkl] at hq
      injection hq with hq; subst hq
      have l := h.link k r hk
      have kd := h.kinds hk hk
      exact ⟨by rw [hcell]; exact l.c0, by rw [hcell]; exact l.c1, by rw [hcell]; exact l.c2, by rw [hcell]; exact l.c3, hm, l.mB,
        owns_of_block l.bells (fun b hb => keepB b (l.bells.lt b hb).2 (fun e => kd.2.2.2.1 (by rw [← e]; exact hb))), owns_of_block l.gens (fun b hb => keepB b (l.gens.lt b hb).2 (fun e => kd.2.2.2.2.1 (by rw [← e]; exact hb)))⟩
    · rw [if_neg e] at hq
      have l := h.link j q hq
      have kd := h.kinds hq hk
      exact l.of_block (fun x _ _ => hcell x) (keepB _ l.mp.lt (h.mdis j k (get_lt hq) hkl (fun e' => e e'.symm))) (fun b hb => keepB b (l.bells.lt b hb).2 (fun e => kd.2.2.2.1 (by rw [← e]; exact hb))) (fun b hb => keepB b (l.gens.lt b hb).2 (fun e => kd.2.2.2.2.1 (by rw [← e]; exact hb)))
  · intro b hb hn
    exact keepB b hb (fun e => hn 0 (Or.inr ⟨k, r, Nat.le_refl _, hk, Or.inl e⟩))
  · intro b x hb hn
    exact World.cell?_of_block (w := w) (a := ⟨b, x, none⟩) (keepB b hb (fun e => hn (Or.inr ⟨k, r, Nat.le_refl _, hk, Or.inl e⟩)))
  · rintro b x _ (h1 | ⟨j, q, hj, hq, h1⟩)
    · exact Or.inl h1
    · rw [List.getElem?_set] at hq
      by_cases e : k = j
      · subst e
        rw [if_pos rfl, if_pos hkl] at hq
        injection hq with hq; subst hq
        exact Or.inr ⟨k, r, hj, hk, h1⟩
      · rw [if_neg e] at hq
        exact Or.inr ⟨j, q, hj, hq, h1⟩

theorem owns_prefix {w w' : World} {base e size n n' : Nat} {v v' : Value} {xs ys : List Value} {b x : Nat} (h : w.ownsRow base e size v n xs) (h' : w'.ownsRow base e size v' n' (xs ++ ys)) (hb : v.ownBlock = some b) (hb' : v'.ownBlock = some b) (hx : x < xs.length) :
    w'.cell? ⟨b, x, none⟩ = w.cell? ⟨b, x, none⟩ := by
  have h1 := h.cells hb x xs[x] (List.getElem?_eq_getElem hx)
  have h2 := h'.cells hb' x xs[x] (by rw [List.getElem?_append_left hx]; exact List.getElem?_eq_getElem hx)
  rw [Addr.add_lit, Nat.zero_add] at h1 h2
  rw [h1, h2]

theorem cell_setCell_ne (w : World) (b x y : Nat) (u : Value) (b' : Nat) (h : b' ≠ b ∨ y ≠ x) : (w.setCell ⟨b, x, none⟩ u).cell? ⟨b', y, none⟩ = w.cell? ⟨b', y, none⟩ := by
  refine World.cell?_setCell_other _ _ _ _ (fun e => ?_)
  simp only [Addr.mk.injEq] at e
  rcases h with h | h
  · exact h e.1.symm
  · exact h e.2.1.symm

theorem obj_setCell {w : World} {g x T : Nat} {cs : Array Value} (u : Value) (h : w.heap[g]? = some (.cells cs T)) : ∃ cs', (w.setCell ⟨g, x, none⟩ u).heap[g]? = some (.cells cs' T) ∧ cs'.size = cs.size := by
  refine ⟨cs.setIfInBounds x u, ?_, by simp⟩
  simp [World.setCell, Array.getElem?_modify, h]

/-- The bells of link k have one more. -/
theorem ChainAt.setBells {w w1 : World} {B g k : Nat} {R : List Raw} {st : Nat → St} {r : Raw} {v' u : Value} (h : ChainAt w B g R st) (hk : R[k]? = some r) (hown : w1.ownsRow B 3 1 v' (r.bs.length + 1) (r.bs ++ [u])) (hg : w.grownBy w1 (st k).vb.ownBlock)
    (hloc : v'.ownBlock = (st k).vb.ownBlock ∨ ((∀ b, v'.ownBlock = some b → w.heap.size ≤ b) ∧ w.grownBy w1 none)) :
    ChainAt (w1.setCell ⟨g, 4 * k + 2, none⟩ v') B g (R.set k { r with bs := r.bs ++ [u] }) (updS st k { st k with vb := v' }) ∧ Keep (Foot g k R st) w (w1.setCell ⟨g, 4 * k + 2, none⟩ v') ∧
    (∀ b x, b < w.heap.size → Foot g k (R.set k { r with bs := r.bs ++ [u] }) (updS st k { st k with vb := v' }) b x → Foot g k R st b x) := by
  have hkl := get_lt hk
  have lk := h.link k r hk
  have kd := h.kinds hk hk
  have keep1 : ∀ b, b < w.heap.size → (st k).vb.ownBlock ≠ some b → w1.heap[b]? = w.heap[b]? := fun b hb hne => hg.block b hb (fun e => hne e.symm)
  have keepB : ∀ b, b < w.heap.size → (st k).vb.ownBlock ≠ some b → b ≠ g → (w1.setCell ⟨g, 4 * k + 2, none⟩ v').heap[b]? = w.heap[b]? := fun b hb hne hne2 => by
    rw [Below.heap_setCell _ _ _ _ (by exact hne2)]; exact keep1 b hb hne
  have hg1 : w1.heap[g]? = w.heap[g]? := keep1 g h.lt_g kd.2.1
  have hcell : ∀ x, x ≠ 4 * k + 2 → (w1.setCell ⟨g, 4 * k + 2, none⟩ v').cell? ⟨g, x, none⟩ = w.cell? ⟨g, x, none⟩ := fun x hx => by
    rw [cell_setCell_ne _ _ _ _ _ _ (Or.inr hx)]; exact World.cell?_of_block (w := w) (a := ⟨g, x, none⟩) hg1
  have hv'g : ∀ b, v'.ownBlock = some b → b ≠ g := fun b hb e => by
    subst e
    rcases hloc with h1 | ⟨h1, _⟩
    · exact kd.2.1 (h1 ▸ hb)
    · have := h1 _ hb; have := h.lt_g; omega
  refine ⟨⟨?_, h.gB, ?_, ?_, ?_, ?_⟩, ⟨hg.os, hg.tape, hg.output, by simpa [World.setCell] using hg.size, ?_, ?_⟩, ?_⟩
  · obtain ⟨cs, h1, h2⟩ := h.obj
    obtain ⟨cs', h3, h4⟩ := obj_setCell (x := 4 * k + 2) v' (hg1.trans h1)
    exact ⟨cs', h3, by rw [h4, h2]; simp⟩
  · intro j q hq
    rw [List.getElem?_set] at hq
    by_cases e : k = j
    · subst e
      rw [if_pos rfl, if_pos hkl] at hq
      injection hq with hq; subst hq
      have es : updS st k { st k with vb := v' } k = { st k with vb := v' } := by simp [updS]
      rw [es]
      refine ⟨by rw [hcell _ (by omega)]; exact lk.c0, by rw [hcell _ (by omega)]; exact lk.c1, ?_, by rw [hcell _ (by omega)]; exact lk.c3, lk.mp.of_block (keepB _ lk.mp.lt kd.2.2.2.1 (fun e => kd.1 e.symm)), lk.mB, ?_, ?_⟩
      · exact World.cell?_setCell_same _ _ _ ((World.cell?_of_block (w := w) (a := ⟨g, 4 * k + 2, none⟩) hg1).trans lk.c2)
      · show World.ownsRow _ _ _ _ v' (r.bs ++ [u]).length _
        rw [List.length_append]
        exact owns_of_block hown (fun b hb => Below.heap_setCell _ _ _ _ (by exact hv'g b hb))
      · exact owns_of_block lk.gens (fun b hb => keepB b (lk.gens.lt b hb).2 (fun e => kd.2.2.2.2.2 b e hb) (fun e => kd.2.2.1 (by rw [← e]; exact hb)))
    · rw [if_neg e] at hq
      have es : updS st k { st k with vb := v' } j = st j := by unfold updS; rw [if_neg (fun e' => e e'.symm)]
      rw [es]
      have l := h.link j q hq
      have kj := h.kinds hq hk
      have kj2 := h.kinds hk hq
      refine l.of_block (fun x h1 h2 => hcell x (by omega)) (keepB _ l.mp.lt kj2.2.2.2.1 (fun e => kj.1 e.symm)) (fun b hb => keepB b (l.bells.lt b hb).2 (fun e2 => h.bdis k j hkl (get_lt hq) e b e2 hb) (fun e2 => kj.2.1 (by rw [← e2]; exact hb)))
        (fun b hb => keepB b (l.gens.lt b hb).2 (fun e2 => kj2.2.2.2.2.2 b e2 hb) (fun e2 => kj.2.2.1 (by rw [← e2]; exact hb)))
  · intro i j hi hj hne
    rw [List.length_set] at hi hj
    have := h.mdis i j hi hj hne
    unfold updS
    split <;> split <;> simp_all
  · intro i j hi hj hne b hb
    rw [List.length_set] at hi hj
    obtain ⟨ri, hri⟩ : ∃ ri, R[i]? = some ri := ⟨_, List.getElem?_eq_getElem hi⟩
    obtain ⟨rj, hrj⟩ : ∃ rj, R[j]? = some rj := ⟨_, List.getElem?_eq_getElem hj⟩
    unfold updS at hb ⊢
    by_cases ei : i = k
    · subst ei
      rw [if_pos rfl] at hb
      rw [if_neg (fun e => hne e.symm)]
      intro hb2
      rcases hloc with h1 | ⟨h1, _⟩
      · exact h.bdis i j hi hj hne b (h1 ▸ hb) hb2
      · have h2 := h1 b hb; have h3 := ((h.link j rj hrj).bells.lt b hb2).2; omega
    · rw [if_neg ei] at hb
      by_cases ej : j = k
      · subst ej
        rw [if_pos rfl]
        intro hb2
        rcases hloc with h1 | ⟨h1, _⟩
        · exact h.bdis i j hi hj hne b hb (h1 ▸ hb2)
        · have h2 := h1 b hb2; have h3 := ((h.link i ri hri).bells.lt b hb).2; omega
      · rw [if_neg ej]
        exact h.bdis i j hi hj hne b hb
  · intro i j hi hj hne
    rw [List.length_set] at hi hj
    have := h.gdis i j hi hj hne
    unfold updS
    split <;> split <;> simp_all
  · intro b hb hn
    exact keepB b hb (fun e => hn r.bs.length (Or.inr ⟨k, r, Nat.le_refl _, hk, Or.inr (Or.inl ⟨e, Nat.le_refl _⟩)⟩)) (fun e => hn (4 * k) (Or.inl ⟨e, Nat.le_refl _⟩))
  · intro b x hb hn
    by_cases e1 : b = g
    · subst e1
      exact hcell x (fun e => hn (Or.inl ⟨rfl, by omega⟩))
    · rw [cell_setCell_ne _ _ _ _ _ _ (Or.inl e1)]
      by_cases e2 : (st k).vb.ownBlock = some b
      · have hx : x < r.bs.length := by
          rcases Nat.lt_or_ge x r.bs.length with h1 | h1
          · exact h1
          · exact absurd (Or.inr ⟨k, r, Nat.le_refl _, hk, Or.inr (Or.inl ⟨e2, h1⟩)⟩) hn
        rcases hloc with h1 | ⟨_, h1⟩
        · exact owns_prefix lk.bells hown e2 (h1.trans e2) hx
        · exact World.cell?_of_block (w := w) (a := ⟨b, x, none⟩) (h1.block b hb (by simp))
      · exact World.cell?_of_block (w := w) (a := ⟨b, x, none⟩) (keep1 b hb e2)
  · rintro b x hb (h1 | ⟨j, q, hj, hq, h1⟩)
    · exact Or.inl h1
    · rw [List.getElem?_set] at hq
      by_cases e : k = j
      · subst e
        rw [if_pos rfl, if_pos hkl] at hq
        injection hq with hq; subst hq
        have es : updS st k { st k with vb := v' } k = { st k with vb := v' } := by simp [updS]
        rw [es] at h1
        refine Or.inr ⟨k, r, hj, hk, ?_⟩
        rcases h1 with h1 | ⟨h1, h2⟩ | h1
        · exact Or.inl h1
        · rcases hloc with h3 | ⟨h3, _⟩
          · exact Or.inr (Or.inl ⟨h3 ▸ h1, by have h2 : (r.bs ++ [u]).length ≤ x := h2; rw [List.length_append] at h2; omega⟩)
          · have := h3 b h1; omega
        · exact Or.inr (Or.inr h1)
      · rw [if_neg e] at hq
        have es : updS st k { st k with vb := v' } j = st j := by unfold updS; rw [if_neg (fun e' => e e'.symm)]
        rw [es] at h1
        exact Or.inr ⟨j, q, hj, hq, h1⟩

/-- .. the generators. -/
theorem ChainAt.setGens {w w1 : World} {B g k : Nat} {R : List Raw} {st : Nat → St} {r : Raw} {v' : Value} {p : Pm} (h : ChainAt w B g R st) (hk : R[k]? = some r) (hown : w1.ownsRow B 92 12 v' (r.gs.length + 1) (gcells r.gs ++ p.l.map (Value.int .i8))) (hg : w.grownBy w1 (st k).vg.ownBlock)
    (hloc : v'.ownBlock = (st k).vg.ownBlock ∨ ((∀ b, v'.ownBlock = some b → w.heap.size ≤ b) ∧ w.grownBy w1 none)) :
    ChainAt (w1.setCell ⟨g, 4 * k + 3, none⟩ v') B g (R.set k { r with gs := r.gs ++ [p] }) (updS st k { st k with vg := v' }) ∧ Keep (Foot g k R st) w (w1.setCell ⟨g, 4 * k + 3, none⟩ v') ∧
    (∀ b x, b < w.heap.size → Foot g k (R.set k { r with gs := r.gs ++ [p] }) (updS st k { st k with vg := v' }) b x → Foot g k R st b x) := by
  have hkl := get_lt hk
  have lk := h.link k r hk
  have kd := h.kinds hk hk
  have keep1 : ∀ b, b < w.heap.size → (st k).vg.ownBlock ≠ some b → w1.heap[b]? = w.heap[b]? := fun b hb hne => hg.block b hb (fun e => hne e.symm)
  have keepB : ∀ b, b < w.heap.size → (st k).vg.ownBlock ≠ some b → b ≠ g → (w1.setCell ⟨g, 4 * k + 3, none⟩ v').heap[b]? = w.heap[b]? := fun b hb hne hne2 => by
    rw [Below.heap_setCell _ _ _ _ (by exact hne2)]; exact keep1 b hb hne
  have hg1 : w1.heap[g]? = w.heap[g]? := keep1 g h.lt_g kd.2.2.1
  have hcell : ∀ x, x ≠ 4 * k + 3 → (w1.setCell ⟨g, 4 * k + 3, none⟩ v').cell? ⟨g, x, none⟩ = w.cell? ⟨g, x, none⟩ := fun x hx => by
    rw [cell_setCell_ne _ _ _ _ _ _ (Or.inr hx)]; exact World.cell?_of_block (w := w) (a := ⟨g, x, none⟩) hg1
  have hv'g : ∀ b, v'.ownBlock = some b → b ≠ g := fun b hb e => by
    subst e
    rcases hloc with h1 | ⟨h1, _⟩
    · exact kd.2.2.1 (h1 ▸ hb)
    · have := h1 _ hb; have := h.lt_g; omega
  refine ⟨⟨?_, h.gB, ?_, ?_, ?_, ?_⟩, ⟨hg.os, hg.tape, hg.output, by simpa [World.setCell] using hg.size, ?_, ?_⟩, ?_⟩
  · obtain ⟨cs, h1, h2⟩ := h.obj
    obtain ⟨cs', h3, h4⟩ := obj_setCell (x := 4 * k + 3) v' (hg1.trans h1)
    exact ⟨cs', h3, by rw [h4, h2]; simp⟩
  · intro j q hq
    rw [List.getElem?_set] at hq
    by_cases e : k = j
    · subst e
      rw [if_pos rfl, if_pos hkl] at hq
      injection hq with hq; subst hq
      have es : updS st k { st k with vg := v' } k = { st k with vg := v' } := by simp [updS]
      rw [es]
      refine ⟨by rw [hcell _ (by omega)]; exact lk.c0, by rw [hcell _ (by omega)]; exact lk.c1, by rw [hcell _ (by omega)]; exact lk.c2, ?_, lk.mp.of_block (keepB _ lk.mp.lt kd.2.2.2.2.1 (fun e => kd.1 e.symm)), lk.mB, ?_, ?_⟩
      · exact World.cell?_setCell_same _ _ _ ((World.cell?_of_block (w := w) (a := ⟨g, 4 * k + 3, none⟩) hg1).trans lk.c3)
      · exact owns_of_block lk.bells (fun b hb => keepB b (lk.bells.lt b hb).2 (fun e => kd.2.2.2.2.2 b hb e) (fun e => kd.2.1 (by rw [← e]; exact hb)))
      · show World.ownsRow _ _ _ _ v' (r.gs ++ [p]).length (gcells (r.gs ++ [p]))
        rw [List.length_append, gcells_snoc]
        exact owns_of_block hown (fun b hb => Below.heap_setCell _ _ _ _ (by exact hv'g b hb))
    · rw [if_neg e] at hq
      have es : updS st k { st k with vg := v' } j = st j := by unfold updS; rw [if_neg (fun e' => e e'.symm)]
      rw [es]
      have l := h.link j q hq
      have kj := h.kinds hq hk
      have kj2 := h.kinds hk hq
      refine l.of_block (fun x h1 h2 => hcell x (by omega)) (keepB _ l.mp.lt kj2.2.2.2.2.1 (fun e => kj.1 e.symm)) (fun b hb => keepB b (l.bells.lt b hb).2 (fun e2 => kj.2.2.2.2.2 b hb e2) (fun e2 => kj.2.1 (by rw [← e2]; exact hb)))
        (fun b hb => keepB b (l.gens.lt b hb).2 (fun e2 => h.gdis k j hkl (get_lt hq) e b e2 hb) (fun e2 => kj.2.2.1 (by rw [← e2]; exact hb)))
  · intro i j hi hj hne
    rw [List.length_set] at hi hj
    have := h.mdis i j hi hj hne
    unfold updS
    split <;> split <;> simp_all
  · intro i j hi hj hne
    rw [List.length_set] at hi hj
    have := h.bdis i j hi hj hne
    unfold updS
    split <;> split <;> simp_all
  · intro i j hi hj hne b hb
    rw [List.length_set] at hi hj
    obtain ⟨ri, hri⟩ : ∃ ri, R[i]? = some ri := ⟨_, List.getElem?_eq_getElem hi⟩
    obtain ⟨rj, hrj⟩ : ∃ rj, R[j]? = some rj := ⟨_, List.getElem?_eq_getElem hj⟩
    unfold updS at hb ⊢
    by_cases ei : i = k
    · subst ei
      rw [if_pos rfl] at hb
      rw [if_neg (fun e => hne e.symm)]
      intro hb2
      rcases hloc with h1 | ⟨h1, _⟩
      · exact h.gdis i j hi hj hne b (h1 ▸ hb) hb2
      · have h2 := h1 b hb; have h3 := ((h.link j rj hrj).gens.lt b hb2).2; omega
    · rw [if_neg ei] at hb
      by_cases ej : j = k
      · subst ej
        rw [if_pos rfl]
        intro hb2
        rcases hloc with h1 | ⟨h1, _⟩
        · exact h.gdis i j hi hj hne b hb (h1 ▸ hb2)
        · have h2 := h1 b hb2; have h3 := ((h.link i ri hri).gens.lt b hb).2; omega
      · rw [if_neg ej]
        exact h.gdis i j hi hj hne b hb
  · intro b hb hn
    exact keepB b hb (fun e => hn (12 * r.gs.length) (Or.inr ⟨k, r, Nat.le_refl _, hk, Or.inr (Or.inr ⟨e, Nat.le_refl _⟩)⟩)) (fun e => hn (4 * k) (Or.inl ⟨e, Nat.le_refl _⟩))
  · intro b x hb hn
    by_cases e1 : b = g
    · subst e1
      exact hcell x (fun e => hn (Or.inl ⟨rfl, by omega⟩))
    · rw [cell_setCell_ne _ _ _ _ _ _ (Or.inl e1)]
      by_cases e2 : (st k).vg.ownBlock = some b
      · have hx : x < (gcells r.gs).length := by
          rw [gcells_length]
          rcases Nat.lt_or_ge x (12 * r.gs.length) with h1 | h1
          · omega
          · exact absurd (Or.inr ⟨k, r, Nat.le_refl _, hk, Or.inr (Or.inr ⟨e2, h1⟩)⟩) hn
        rcases hloc with h1 | ⟨_, h1⟩
        · exact owns_prefix lk.gens hown e2 (h1.trans e2) hx
        · exact World.cell?_of_block (w := w) (a := ⟨b, x, none⟩) (h1.block b hb (by simp))
      · exact World.cell?_of_block (w := w) (a := ⟨b, x, none⟩) (keep1 b hb e2)
  · rintro b x hb (h1 | ⟨j, q, hj, hq, h1⟩)
    · exact Or.inl h1
    · rw [List.getElem?_set] at hq
      by_cases e : k = j
      · subst e
        rw [if_pos rfl, if_pos hkl] at hq
        injection hq with hq; subst hq
        have es : updS st k { st k with vg := v' } k = { st k with vg := v' } := by simp [updS]
        rw [es] at h1
        refine Or.inr ⟨k, r, hj, hk, ?_⟩
        rcases h1 with h1 | h1 | ⟨h1, h2⟩
        · exact Or.inl h1
        · exact Or.inr (Or.inl h1)
        · rcases hloc with h3 | ⟨h3, _⟩
          · exact Or.inr (Or.inr ⟨h3 ▸ h1, by have h2 : 12 * (r.gs ++ [p]).length ≤ x := h2; rw [List.length_append] at h2; omega⟩)
          · have := h3 b h1; omega
      · rw [if_neg e] at hq
        have es : updS st k { st k with vg := v' } j = st j := by unfold updS; rw [if_neg (fun e' => e e'.symm)]
        rw [es] at h1
        exact Or.inr ⟨j, q, hj, hq, h1⟩

end Go.Proofs.Ytbddhpbeekioiaa
