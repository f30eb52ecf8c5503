/- Joined: LLp, XtA, XtB, SaB, SaC, SaD, SaE, SaF, SaL, SbS. -/
import Derived.Test.YtoiiadiimfohiaaJ3
import Derived.Test.YtoiiadiimfohiaaJ6
import Derived.Test.YtoiiadiimfohiaaJ0
import Derived.Deep.Cut
import Derived.Deep.RegionHeld3
import Derived.Laws.StructEq
import Derived.Test.YtoiiadiimfohiaaJ5
/- Lists of lists that a call makes, one list behind the other. -/
namespace Go.Proofs.Ytoiiadiimfohiaa
open Go.RowKit

/-- A list of lists that the call owns, all its lists too. -/
structure LL (w : World) (base : Nat) (v : Value) (vs : List Value) (xss : List (List Int)) : Prop where
  row : w.ownsRow base 26 1 v vs.length vs
  all : OwnAll w base vs xss

theorem LL.nil (w : World) (base : Nat) : LL w base (.slice none 0 0) [] [] := ⟨World.ownsRow_nil _ _ _ _, trivial⟩

theorem LL.len {w : World} {base : Nat} {v : Value} {vs : List Value} {xss : List (List Int)} (h : LL w base v vs xss) : vs.length = xss.length := OwnAll.length h.all

theorem LL.ints {w : World} {base : Nat} {v : Value} {vs : List Value} {xss : List (List Int)} (h : LL w base v vs xss) : IntsAll w v xss := IntsAll.own h.row h.all

theorem LL.below {w w' : World} {base : Nat} {v : Value} {vs : List Value} {xss : List (List Int)} (h : LL w base v vs xss) (hb : Below w.heap.size w w') : LL w' base v vs xss :=
  ⟨owns_below h.row hb (Nat.le_refl _), h.all.mono (fun _ _ _ h' => owns_below h' hb (Nat.le_refl _))⟩

theorem LL.low {w : World} {base base' : Nat} {v : Value} {vs : List Value} {xss : List (List Int)} (h : LL w base v vs xss) (hb : base' ≤ base) : LL w base' v vs xss := by
  refine ⟨owns_base h.row hb, ?_⟩
  have ha := h.all
  clear h
  induction vs generalizing xss with
  | nil => cases xss with
    | nil => trivial
    | cons x xs => exact ha.elim
  | cons u us ih => cases xss with
    | nil => exact ha.elim
    | cons x xs => exact ⟨owns_base ha.1 hb, ih ha.2⟩

theorem LL.at {w : World} {base : Nat} {v : Value} {vs : List Value} {xss : List (List Int)} (h : LL w base v vs xss) {k : Nat} (hk : k < xss.length) : w.ownsRow base 3 1 (vs.getD k undef) (xss.getD k []).length ((xss.getD k []).map (Value.int .i64)) :=
  ownAll_at h.all (by rw [h.len]; exact hk)

theorem LL.push {w w4 : World} {base : Nat} {v v' u : Value} {vs : List Value} {xss : List (List Int)} {X : List Int} {o : Obj} (h : LL w base v vs xss) (hu : w.ownsRow base 3 1 u X.length (X.map (Value.int .i64)))
    (hown : w4.ownsRow base 26 1 v' (vs.length + 1) (vs ++ [u])) (hg : (w.alloc o).grownBy w4 v.ownBlock) : LL w4 base v' (vs ++ [u]) (xss ++ [X]) :=
  ⟨by rw [List.length_append]; exact hown, OwnAll.snoc (owns_kept_ty (hu.alloc o) (h.row.alloc o) hg) (h.all.mono (fun _ _ _ h' => owns_kept_ty (h'.alloc o) (h.row.alloc o) hg))⟩

theorem LL.kept {w w4 : World} {base n : Nat} {v u : Value} {vs ys : List Value} {xss : List (List Int)} {o : Obj} (h : LL w base v vs xss) (hu : w.ownsRow base 3 1 u n ys) (hg : (w.alloc o).grownBy w4 v.ownBlock) : w4.ownsRow base 3 1 u n ys :=
  owns_kept_ty (hu.alloc o) (h.row.alloc o) hg

theorem LL.step {w0 w w4 : World} {base B : Nat} {v : Value} {vs : List Value} {xss : List (List Int)} {o : Obj} (h : LL w base v vs xss) (hB : Below B w0 w) (hb : B ≤ base) (hs : B ≤ w.heap.size) (hg : (w.alloc o).grownBy w4 v.ownBlock) : Below B w0 w4 :=
  (hB.alloc hs _).grown hg (by simp; omega) (fun g hg' => Nat.le_trans hb (h.row.lt g hg').1)

/-- The list of one list. -/
theorem LL.one {w : World} {base : Nat} {u : Value} {X : List Int} (hu : w.ownsRow base 3 1 u X.length (X.map (Value.int .i64))) (hb : base ≤ w.heap.size) : LL (w.alloc (.cells #[u] 26)) base (.slice (some ⟨w.heap.size, 0, none⟩) 1 1) [u] [X] :=
  ⟨World.ownsRow_lit w #[u] 1 hb (by unfold maxLen; omega) rfl, ⟨hu.alloc _, trivial⟩⟩

end Go.Proofs.Ytoiiadiimfohiaa

/- Plain: ways through all rows, one after another, in the order of lists; how many unlike numbers there are below a bound. -/
namespace Go.Proofs.Ytoiiadiimfohiaa
open Go.RowKit

/-- A way that goes on from a number, which has met these: each number once, and then 0. -/
def Good (nx : Nat → Nat → Nat) (K all : Nat) : List Nat → Nat → List Nat → Prop
  | _, _, [] => False
  | ks, at_, k :: t => k < K ∧ ((t = [] ∧ nx k at_ = 0 ∧ ks.length = all) ∨ (nx k at_ ∉ ks ∧ Good nx K all (nx k at_ :: ks) (nx k at_) t))

/-- The order of lists. -/
def Ltl : List Nat → List Nat → Prop
  | [], [] => False
  | [], _ :: _ => True
  | _ :: _, [] => False
  | a :: x, b :: y => a < b ∨ (a = b ∧ Ltl x y)

theorem nodup_le : ∀ (n : Nat) (l : List Nat), l.Nodup → (∀ x, x ∈ l → x < n) → l.length ≤ n
  | 0, l, _, h => by
    cases l with
    | nil => simp
    | cons x t => exact absurd (h x (by simp)) (by omega)
  | n + 1, l, hn, h => by
    by_cases hm : n ∈ l
    · have h1 := nodup_le n (l.erase n) (hn.erase n) (fun x hx => by
        have hx2 := (List.Nodup.mem_erase_iff hn).1 hx
        have := h x hx2.2
        have := hx2.1
        omega)
      have h2 := List.length_erase_of_mem hm
      have h3 : 0 < l.length := List.length_pos_of_mem hm
      omega
    · have h1 := nodup_le n l hn (fun x hx => by
        have := h x hx
        have : x ≠ n := fun e => hm (e ▸ hx)
        omega)
      omega

/-- The numbers that are tried stand for all: each once, in order. -/
structure Tried (nx : Nat → Nat → Nat) (K : Nat) (tr : List Nat) : Prop where
  low : ∀ k, k ∈ tr → k < K
  sorted : tr.Pairwise (· < ·)
  all : ∀ k, k < K → ∃ k', k' ∈ tr ∧ k' ≤ k ∧ ∀ a, nx k' a = nx k a

theorem Good.same {nx : Nat → Nat → Nat} {K all : Nat} {ks : List Nat} {a k k' : Nat} {t : List Nat} (h : Good nx K all ks a (k :: t)) (hk : k' < K) (e : nx k' a = nx k a) : Good nx K all ks a (k' :: t) := by
  unfold Good at h ⊢
  rw [e]
  exact ⟨hk, h.2⟩

theorem sorted_before {tr : List Nat} (h : tr.Pairwise (· < ·)) {i : Nat} (hi : i < tr.length) {k : Nat} (hk : k ∈ tr) (hlt : k < tr.getD i 0) : ∃ j, j < i ∧ tr.getD j 0 = k := by
  obtain ⟨j, hj, e⟩ := List.getElem_of_mem hk
  have ei : tr.getD i 0 = tr[i] := by simp [List.getD, hi]
  refine ⟨j, ?_, by simp [List.getD, hj, e]⟩
  rcases Nat.lt_trichotomy j i with h1 | h1 | h1
  · exact h1
  · subst h1; omega
  · have := List.pairwise_iff_getElem.1 h i j hi hj h1
    omega

/-- What is found first is the least. -/
theorem least_found {nx : Nat → Nat → Nat} {K all : Nat} {tr ks : List Nat} {a i : Nat} {q : List Nat} (hT : Tried nx K tr) (hi : i < tr.length) (hno : ∀ j, j < i → ∀ t, ¬ Good nx K all ks a (tr.getD j 0 :: t))
    (hq : ∀ t, Good nx K all ks a (tr.getD i 0 :: t) → ¬ Ltl t q) : ∀ t, Good nx K all ks a t → ¬ Ltl t (tr.getD i 0 :: q) := by
  intro t ht hl
  cases t with
  | nil => exact ht
  | cons k t =>
    have hk : k < K := by unfold Good at ht; exact ht.1
    rcases (show k < tr.getD i 0 ∨ (k = tr.getD i 0 ∧ Ltl t q) from hl) with h | ⟨rfl, h⟩
    · obtain ⟨k', hm, hle, he⟩ := hT.all k hk
      obtain ⟨j, hj, e⟩ := sorted_before hT.sorted hi hm (by omega)
      refine hno j hj t ?_
      rw [e]
      exact ht.same (hT.low k' hm) (he a)
    · exact hq t ht h

theorem none_found {nx : Nat → Nat → Nat} {K all : Nat} {tr ks : List Nat} {a : Nat} (hT : Tried nx K tr) (hno : ∀ j, j < tr.length → ∀ t, ¬ Good nx K all ks a (tr.getD j 0 :: t)) : ∀ t, ¬ Good nx K all ks a t := by
  intro t ht
  cases t with
  | nil => exact ht
  | cons k t =>
    have hk : k < K := by unfold Good at ht; exact ht.1
    obtain ⟨k', hm, hle, he⟩ := hT.all k hk
    obtain ⟨j, hj, e⟩ := List.getElem_of_mem hm
    refine hno j hj t ?_
    rw [show tr.getD j 0 = k' from by simp [List.getD, hj, e]]
    exact ht.same (hT.low k' hm) (he a)

/-- A step that is barred. -/
theorem good_barred {nx : Nat → Nat → Nat} {K all : Nat} {ks : List Nat} {a k : Nat} (h1 : nx k a ∈ ks) (h2 : ¬ (nx k a = 0 ∧ ks.length = all)) : ∀ t, ¬ Good nx K all ks a (k :: t) := by
  intro t ht
  unfold Good at ht
  rcases ht.2 with ⟨_, h3, h4⟩ | ⟨h3, _⟩
  · exact h2 ⟨h3, h4⟩
  · exact h3 h1

/-- Home. -/
theorem good_home {nx : Nat → Nat → Nat} {K all : Nat} {ks : List Nat} {a k : Nat} (hk : k < K) (h1 : nx k a = 0) (h2 : ks.length = all) : Good nx K all ks a [k] ∧ ∀ t, Good nx K all ks a (k :: t) → ¬ Ltl t [] := by
  refine ⟨⟨hk, Or.inl ⟨rfl, h1, h2⟩⟩, fun t _ hl => ?_⟩
  cases t with
  | nil => exact hl
  | cons _ _ => exact hl

theorem good_on {nx : Nat → Nat → Nat} {K all : Nat} {ks : List Nat} {a k : Nat} (h2 : ¬ (nx k a = 0 ∧ ks.length = all)) (t : List Nat) : Good nx K all ks a (k :: t) → Good nx K all (nx k a :: ks) (nx k a) t := by
  intro ht
  unfold Good at ht
  rcases ht.2 with ⟨_, h3, h4⟩ | ⟨_, h3⟩
  · exact absurd ⟨h3, h4⟩ h2
  · exact h3

def nI (l : List Nat) : List Int := l.map (fun (k : Nat) => (k : Int))

theorem nI_len (l : List Nat) : (nI l).length = l.length := by simp [nI]

theorem nI_get (l : List Nat) {i : Nat} (h : i < l.length) : (nI l).getD i 0 = ((l.getD i 0 : Nat) : Int) := by simp [nI, List.getD, h]

end Go.Proofs.Ytoiiadiimfohiaa

/- Maps that are sets of numbers: look, len, put, take out; what lies under a walk. -/
namespace Go.Proofs.Ytoiiadiimfohiaa
open Go.RowKit Go.Maps Go.ChangeMaps
open Go.WideElems (rg)

/-- Block b is a map[int]int whose keys are these numbers, each once. -/
def ISet (w : World) (b : Nat) (ks : List Nat) : Prop :=
  ks.Nodup ∧ ∃ D : DataW Value, w.ownsMap Try.prog 3 heldElem b ks.length D ∧ Maps.size D = ks.length ∧ ∀ a : Nat, Maps.has D (.int .i64 (a : Int)) = decide (a ∈ ks)

theorem ISet.lt {w : World} {b : Nat} {ks : List Nat} (h : ISet w b ks) : b < w.heap.size := by
  obtain ⟨_, D, h1, _⟩ := h; exact h1.lt

theorem ISet.of_block {w w' : World} {b : Nat} {ks : List Nat} (h : ISet w b ks) (hb : w'.heap[b]? = w.heap[b]?) : ISet w' b ks := by
  obtain ⟨hn, D, ⟨es, c, h1, h2⟩, h3⟩ := h; exact ⟨hn, D, ⟨es, c, hb.trans h1, h2⟩, h3⟩

theorem ISet.look {w : World} {b : Nat} {ks : List Nat} (h : ISet w b ks) (a : Nat) (ha : (a : Int) ≤ 9223372036854775807) :
    ∃ v, (Instr.lookup 73 (.map (some b)) (.int .i64 (a : Int)) true).run Try.prog w = .ok (.tuple #[v, .bool (decide (a ∈ ks))]) w := by
  obtain ⟨_, D, hD, hs, hf⟩ := h
  obtain ⟨v, ps, hrun, hv⟩ := hD.look_ok keyedI Try.underlying73 (Try.zero3 w) (zd := .held (.int .i64 0)) (zp := []) rfl (wfI (a := (a : Int)) (by omega) ha)
  exact ⟨v, by rw [hrun, hf a]⟩

theorem ISet.len {w : World} {b : Nat} {ks : List Nat} (h : ISet w b ks) (ty : TypeId) : (Builtin.len_ #[73] ty #[.map (some b)]).run Try.prog w = .ok (.int .i64 (ks.length : Int)) w := by
  obtain ⟨_, D, hD, hs, hf⟩ := h
  rw [hD.len Try.underlying73, hs]

theorem int_lit_ne {x a : Nat} (e : x ≠ a) : (Lit.int .i64 (x : Int)) ≠ Lit.int .i64 (a : Int) := fun h => e (by have := (Lit.int.inj h).2; omega)

theorem ISet.put {w : World} {b : Nat} {ks : List Nat} (h : ISet w b ks) (a : Nat) (ha : (a : Int) ≤ 9223372036854775807) (hn : a ∉ ks) (hl : ks.length < maxLen) (v : Value) :
    ∃ w', (Instr.mapUpdate 73 (.map (some b)) (.int .i64 (a : Int)) v).run Try.prog w = .ok () w' ∧ ISet w' b (a :: ks) ∧ w.mapTurned w' b := by
  obtain ⟨hnd, D, hD, hs, hf⟩ := h
  have hkey := wfI (a := (a : Int)) (by omega) ha
  obtain ⟨w', hrun, hD', hg⟩ := hD.store (val := v) (d := .held v) (ps := []) keyedI Try.underlying73 hl hkey rfl
  have hk : WideAt.IsKeyLit (.int .i64 (a : Int)) := keyedI.key hkey
  refine ⟨w', hrun, ⟨List.nodup_cons.2 ⟨hn, hnd⟩, _, hD', ?_, fun x => ?_⟩, hg⟩
  · rw [Maps.size_put (hD.tidy keyedI), hf a, if_neg (by simpa using hn), hs]; rfl
  · by_cases e : x = a
    · subst e
      rw [has_put_same hD.isMap hk]
      simp
    · rw [has_put_other (int_lit_ne e), hf x]
      simp [e]

theorem ISet.drop {w : World} {b a : Nat} {ks : List Nat} (h : ISet w b (a :: ks)) (ha : (a : Int) ≤ 9223372036854775807) (ty : TypeId) :
    ∃ w', (Builtin.delete_ #[73, 3] ty #[.map (some b), .int .i64 (a : Int)]).run Try.prog w = .ok (.tuple #[]) w' ∧ ISet w' b ks ∧ w.mapTurned w' b := by
  obtain ⟨hnd, D, hD, hs, hf⟩ := h
  have hkey := wfI (a := (a : Int)) (by omega) ha
  obtain ⟨w', hrun, hD', hg⟩ := hD.drop keyedI Try.underlying73 hkey ty
  have hk : WideAt.IsKeyLit (.int .i64 (a : Int)) := keyedI.key hkey
  have hna := (List.nodup_cons.1 hnd).1
  have hsz : Maps.size (D.del (.int .i64 (a : Int))) = ks.length := by
    have := Maps.size_del (k := (.int .i64 (a : Int))) (hD.tidy keyedI)
    rw [hf a, if_pos (by simp), hs] at this
    simp at this
    exact this
  refine ⟨w', hrun, ⟨(List.nodup_cons.1 hnd).2, _, ?_, hsz, fun x => ?_⟩, hg⟩
  · obtain ⟨es, c, r1, r2, r3, r4⟩ := hD'
    refine ⟨es, c, r1, r2, ?_, r4⟩
    have e1 : Maps.size (DataW.map ((es.toList.map (rg Try.prog 3 heldElem)).foldr DataW.insert [])) = es.size := by simp [Maps.size, length_sorted]
    rw [← r4, hsz] at e1
    omega
  · by_cases e : x = a
    · subst e
      rw [has_del_same]
      simp [hna]
    · rw [has_del_other (int_lit_ne e), hf x]
      simp [e]

/-! at the operation -/
section
variable {ops : Array Oper} {rest : List Oper} {o : Oper} {a : Act} {w : World} {Q : Exit → Act → World → Prop}

theorem wpList_drop (hg : o.guard = none) (m x : Operand) (hop : o.op = Op.call { callee := Callee.builtin Builtin.delete, args := #[m, x], argTypes := #[73, 3] })
    {b k : Nat} {ks : List Nat} (h : ISet w b (k :: ks)) (hm : a.eval m = .map (some b)) (hx : a.eval x = .int .i64 (k : Int)) (hk : (k : Int) ≤ 9223372036854775807)
    (hK : ∀ w', ISet w' b ks → w.mapTurned w' b → wpList Try.prog ops Q rest (a.put o.dst (.tuple #[])) w') : wpList Try.prog ops Q (o :: rest) a w := by
  refine wpList_plain hg fun K' hK' => ?_
  obtain ⟨w', hrun, r1, r2⟩ := h.drop hk o.type
  unfold Oper.wp
  simp [execOp, hop, resolve, invoke, builtin, hm, hx, hrun, Result.andThen]
  exact hK' _ _ (hK w' r1 r2)
end

/-- Below block number B all is as it was, but for two blocks. -/
structure Frm (B sb mb : Nat) (w w' : World) : Prop where
  os : w'.os = w.os
  tape : w'.tape = w.tape
  output : w'.output = w.output
  size : w.heap.size ≤ w'.heap.size
  block : ∀ b, b < B → b ≠ sb → b ≠ mb → w'.heap[b]? = w.heap[b]?

theorem Frm.refl (B sb mb : Nat) (w : World) : Frm B sb mb w w := ⟨rfl, rfl, rfl, Nat.le_refl _, fun _ _ _ _ => rfl⟩

theorem Frm.trans {B sb mb : Nat} {a b c : World} (h : Frm B sb mb a b) (k : Frm B sb mb b c) : Frm B sb mb a c :=
  ⟨k.os.trans h.os, k.tape.trans h.tape, k.output.trans h.output, Nat.le_trans h.size k.size, fun x h1 h2 h3 => (k.block x h1 h2 h3).trans (h.block x h1 h2 h3)⟩

theorem Frm.of_below {B sb mb X : Nat} {w w' : World} (h : Below X w w') (hX : B ≤ X) : Frm B sb mb w w' := ⟨h.os, h.tape, h.output, h.size, fun x h1 _ _ => h.block x (by omega)⟩

theorem Frm.below {B sb mb X : Nat} {w w' : World} (h : Frm B sb mb w w') (hX : X ≤ B) (h1 : X ≤ sb) (h2 : X ≤ mb) : Below X w w' := ⟨h.os, h.tape, h.output, h.size, fun x hx => h.block x (by omega) (by omega) (by omega)⟩

theorem Frm.set {B sb mb : Nat} {w w' : World} (h : Frm B sb mb w w') (j : Nat) (u : Value) : Frm B sb mb w (w'.setCell ⟨sb, j, none⟩ u) :=
  h.trans ⟨rfl, rfl, rfl, by simp [World.setCell], fun x _ h2 _ => Below.heap_setCell _ _ _ _ h2⟩

theorem Frm.turned {B sb mb : Nat} {w w' w'' : World} (h : Frm B sb mb w w') (ht : w'.mapTurned w'' mb) : Frm B sb mb w w'' := by
  obtain ⟨es, c, es', c', h1, rfl⟩ := ht
  refine h.trans ⟨rfl, rfl, rfl, by simp [setBlock], fun x _ _ h3 => ?_⟩
  simp [setBlock, Ne.symm h3]

theorem turned_block {w w' : World} {mb x : Nat} (ht : w.mapTurned w' mb) (hx : x ≠ mb) : w'.heap[x]? = w.heap[x]? := by
  obtain ⟨es, c, es', c', h1, rfl⟩ := ht
  simp [setBlock, Ne.symm hx]

theorem turned_size {w w' : World} {mb : Nat} (ht : w.mapTurned w' mb) : w'.heap.size = w.heap.size := by
  obtain ⟨es, c, es', c', h1, rfl⟩ := ht
  simp [setBlock]

theorem owns_block {w w' : World} {base e n : Nat} {v : Value} {xs : List Value} (h : w.ownsRow base e 1 v n xs) (hb : ∀ g, v.ownBlock = some g → w'.heap[g]? = w.heap[g]?) : w'.ownsRow base e 1 v n xs := by
  obtain ⟨h1, h2⟩ := h
  refine ⟨h1, ?_⟩
  rcases h2 with h2 | ⟨g, cap, cur, hv, hg, hh, r⟩
  · exact Or.inl h2
  · exact Or.inr ⟨g, cap, cur, hv, hg, (hb g (by rw [hv]; rfl)).trans hh, r⟩

theorem cells4 {w1 : World} {B : Nat} {a b c d : Value} {t : TypeId} (h : w1.heap[B]? = some (.cells #[a, b, c, d] t)) :
    w1.cell? ⟨B, 0, none⟩ = some a ∧ w1.cell? ⟨B, 1, none⟩ = some b ∧ w1.cell? ⟨B, 2, none⟩ = some c ∧ w1.cell? ⟨B, 3, none⟩ = some d ∧ w1.frozen? ⟨B, 0, none⟩ = false ∧ w1.frozen? ⟨B, 3, none⟩ = false := by
  simp [World.cell?, World.frozen?, h]

theorem set4 {w1 : World} {B : Nat} {a b c d : Value} {t : TypeId} (h : w1.heap[B]? = some (.cells #[a, b, c, d] t)) (u : Value) : (w1.setCell ⟨B, 3, none⟩ u).heap[B]? = some (.cells #[a, b, c, u] t) := by
  simp [World.setCell, Array.getElem?_modify, h]

end Go.Proofs.Ytoiiadiimfohiaa

/- Maps that are sets of packed rows: look, len, put, take out. -/
namespace Go.Proofs.Ytoiiadiimfohiaa
open Go.RowKit Go.Maps Go.ChangeMaps
open Go.WideElems (rg)

theorem laidS : laidOutB Try.prog = true := by kernel_rfl

theorem skeyT : KeyT 85 83 .i8 where
  arr := Try.underlying85
  int := Try.underlying83
  cK := by kernel_rfl
  cE := by kernel_rfl
  ok := by kernel_rfl
  low := of_decide_eq_true (by kernel_rfl)
  keyed := Keyed.of_law (deep_law_gate laidS (of_decide_eq_true (by kernel_rfl)) (of_decide_eq_true (by kernel_rfl)) (by kernel_rfl) (by rw [Try.underlying85]))

theorem wf_i8_small (m : Nat) (h : m < 12) : (Lit.int .i8 (m : Int)).wf = true := by
  obtain rfl | rfl | rfl | rfl | rfl | rfl | rfl | rfl | rfl | rfl | rfl | rfl : m = 0 ∨ m = 1 ∨ m = 2 ∨ m = 3 ∨ m = 4 ∨ m = 5 ∨ m = 6 ∨ m = 7 ∨ m = 8 ∨ m = 9 ∨ m = 10 ∨ m = 11 := by omega
  all_goals decide

theorem okK_pm (x : Pm) : OkK .i8 x.l := ⟨x.len, fun z hz => by
  have := isRow_lt12 x.row (by rw [x.len]; exact Nat.le_refl _) z hz
  obtain ⟨m, rfl⟩ := Int.eq_ofNat_of_zero_le this.1
  exact wf_i8_small m (by simpa using this.2)⟩

theorem pm_key (x : Pm) : ∃ l, keyOf Try.prog 85 (pv x) = some l := skeyT.mk' (okK_pm x)

theorem pm_key_inj {x y : Pm} {l : Lit} (hx : keyOf Try.prog 85 (pv x) = some l) (hy : keyOf Try.prog 85 (pv y) = some l) : x = y := Pm.eq_of_l (kv_inj (skeyT.keyed.inj hx hy))

/-- Block b is a map[packed]int whose keys are these rows, each once. -/
def PSet (w : World) (b : Nat) (S : List Pm) : Prop :=
  S.Nodup ∧ ∃ D : DataW Value, w.ownsMap Try.prog 85 heldElem b S.length D ∧ Maps.size D = S.length ∧ ∀ (x : Pm) (l : Lit), keyOf Try.prog 85 (pv x) = some l → (Maps.has D l = true ↔ x ∈ S)

theorem PSet.lt {w : World} {b : Nat} {S : List Pm} (h : PSet w b S) : b < w.heap.size := by
  obtain ⟨_, D, h1, _⟩ := h; exact h1.lt

theorem PSet.of_block {w w' : World} {b : Nat} {S : List Pm} (h : PSet w b S) (hb : w'.heap[b]? = w.heap[b]?) : PSet w' b S := by
  obtain ⟨hn, D, ⟨es, c, h1, h2⟩, h3⟩ := h; exact ⟨hn, D, ⟨es, c, hb.trans h1, h2⟩, h3⟩

theorem PSet.made (w : World) : PSet (w.alloc (.map #[] 0)) w.heap.size [] :=
  ⟨List.nodup_nil, .map [], Go.World.ownsMap_made _ _ _ _, rfl, fun x l _ => by
    constructor
    · intro h; cases h
    · intro h; cases h⟩

theorem PSet.yes {w : World} {b : Nat} {S : List Pm} (h : PSet w b S) {x : Pm} (hx : x ∈ S) :
    ∃ v, (Instr.lookup 78 (.map (some b)) (pv x) true).run Try.prog w = .ok (.tuple #[v, .bool true]) w := by
  obtain ⟨_, D, hD, hs, hf⟩ := h
  obtain ⟨l, hl⟩ := pm_key x
  obtain ⟨v, ps, hrun, hv⟩ := hD.look_ok skeyT.keyed Try.underlying78 (Try.zero3 w) (zd := .held (.int .i64 0)) (zp := []) rfl hl
  exact ⟨v, by rw [hrun, (hf x l hl).2 hx]⟩

theorem PSet.no {w : World} {b : Nat} {S : List Pm} (h : PSet w b S) {x : Pm} (hx : x ∉ S) :
    ∃ v, (Instr.lookup 78 (.map (some b)) (pv x) true).run Try.prog w = .ok (.tuple #[v, .bool false]) w := by
  obtain ⟨_, D, hD, hs, hf⟩ := h
  obtain ⟨l, hl⟩ := pm_key x
  obtain ⟨v, ps, hrun, hv⟩ := hD.look_ok skeyT.keyed Try.underlying78 (Try.zero3 w) (zd := .held (.int .i64 0)) (zp := []) rfl hl
  have : Maps.has D l = false := by
    rw [Bool.eq_false_iff]
    exact fun h9 => hx ((hf x l hl).1 h9)
  exact ⟨v, by rw [hrun, this]⟩

theorem PSet.len {w : World} {b : Nat} {S : List Pm} (h : PSet w b S) (ty : TypeId) : (Builtin.len_ #[78] ty #[.map (some b)]).run Try.prog w = .ok (.int .i64 (S.length : Int)) w := by
  obtain ⟨_, D, hD, hs, hf⟩ := h
  rw [hD.len Try.underlying78, hs]

theorem PSet.put {w : World} {b : Nat} {S : List Pm} (h : PSet w b S) {x : Pm} (hn : x ∉ S) (hl : S.length < maxLen) (v : Value) :
    ∃ w', (Instr.mapUpdate 78 (.map (some b)) (pv x) v).run Try.prog w = .ok () w' ∧ PSet w' b (x :: S) ∧ w.mapTurned w' b := by
  obtain ⟨hnd, D, hD, hs, hf⟩ := h
  obtain ⟨l, hkey⟩ := pm_key x
  obtain ⟨w', hrun, hD', hg⟩ := hD.store (val := v) (d := .held v) (ps := []) skeyT.keyed Try.underlying78 hl hkey rfl
  have hk : WideAt.IsKeyLit l := skeyT.keyed.key hkey
  have hno : Maps.has D l = false := by
    rw [Bool.eq_false_iff]
    exact fun h9 => hn ((hf x l hkey).1 h9)
  refine ⟨w', hrun, ⟨List.nodup_cons.2 ⟨hn, hnd⟩, _, hD', ?_, fun y l' hl' => ?_⟩, hg⟩
  · rw [Maps.size_put (hD.tidy skeyT.keyed), hno, if_neg (by decide), hs]; rfl
  · by_cases e : y = x
    · subst e
      have : l' = l := Option.some.inj (hl'.symm.trans hkey)
      subst this
      rw [has_put_same hD.isMap hk]
      simp
    · have hne : l' ≠ l := fun h9 => e (pm_key_inj hl' (h9 ▸ hkey))
      rw [has_put_other hne, hf y l' hl']
      simp [e]

theorem PSet.drop {w : World} {b : Nat} {x : Pm} {S : List Pm} (h : PSet w b (x :: S)) (ty : TypeId) :
    ∃ w', (Builtin.delete_ #[78, 85] ty #[.map (some b), pv x]).run Try.prog w = .ok (.tuple #[]) w' ∧ PSet w' b S ∧ w.mapTurned w' b := by
  obtain ⟨hnd, D, hD, hs, hf⟩ := h
  obtain ⟨l, hkey⟩ := pm_key x
  obtain ⟨w', hrun, hD', hg⟩ := hD.drop skeyT.keyed Try.underlying78 hkey ty
  have hna := (List.nodup_cons.1 hnd).1
  have hsz : Maps.size (D.del l) = S.length := by
    have := Maps.size_del (k := l) (hD.tidy skeyT.keyed)
    rw [(hf x l hkey).2 (by simp), if_pos rfl, hs] at this
    simp at this
    exact this
  refine ⟨w', hrun, ⟨(List.nodup_cons.1 hnd).2, _, ?_, hsz, fun y l' hl' => ?_⟩, hg⟩
  · obtain ⟨es, c, r1, r2, r3, r4⟩ := hD'
    refine ⟨es, c, r1, r2, ?_, r4⟩
    have e1 : Maps.size (DataW.map ((es.toList.map (rg Try.prog 85 heldElem)).foldr DataW.insert [])) = es.size := by simp [Maps.size, length_sorted]
    rw [← r4, hsz] at e1
    omega
  · by_cases e : y = x
    · subst e
      have : l' = l := Option.some.inj (hl'.symm.trans hkey)
      subst this
      rw [has_del_same]
      simp [hna]
    · have hne : l' ≠ l := fun h9 => e (pm_key_inj hl' (h9 ▸ hkey))
      rw [has_del_other hne, hf y l' hl']
      simp [e]

theorem PSet.perm {w : World} {b : Nat} {S S' : List Pm} (h : PSet w b S) (hp : S.Perm S') : PSet w b S' := by
  obtain ⟨hnd, D, hD, hs, hf⟩ := h
  exact ⟨(hp.nodup_iff).1 hnd, D, by rw [← hp.length_eq]; exact hD, by rw [← hp.length_eq]; exact hs, fun x l hl => (hf x l hl).trans (hp.mem_iff)⟩

end Go.Proofs.Ytoiiadiimfohiaa

/- What lies under a search: rows of packed rows, leads; frames that spare one map. -/
namespace Go.Proofs.Ytoiiadiimfohiaa
open Go.RowKit Go.Maps Go.ChangeMaps

/-- All that was there is as it was, but for one block. -/
structure TB (mb : Nat) (w w' : World) : Prop where
  os : w'.os = w.os
  tape : w'.tape = w.tape
  output : w'.output = w.output
  size : w.heap.size ≤ w'.heap.size
  block : ∀ b, b < w.heap.size → b ≠ mb → w'.heap[b]? = w.heap[b]?

theorem TB.refl (mb : Nat) (w : World) : TB mb w w := ⟨rfl, rfl, rfl, Nat.le_refl _, fun _ _ _ => rfl⟩

theorem TB.trans {mb : Nat} {a b c : World} (h : TB mb a b) (k : TB mb b c) : TB mb a c :=
  ⟨k.os.trans h.os, k.tape.trans h.tape, k.output.trans h.output, Nat.le_trans h.size k.size, fun x h1 h2 => (k.block x (Nat.lt_of_lt_of_le h1 h.size) h2).trans (h.block x h1 h2)⟩

theorem TB.below {mb : Nat} {a b c : World} (h : TB mb a b) (k : Below b.heap.size b c) : TB mb a c :=
  h.trans ⟨k.os, k.tape, k.output, k.size, fun x h1 _ => k.block x h1⟩

theorem TB.alloc {mb : Nat} {a b : World} (h : TB mb a b) (o : Obj) : TB mb a (b.alloc o) := h.below ((Below.refl _ _).alloc (Nat.le_refl _) _)

theorem TB.grown {mb D : Nat} {a b c : World} (h : TB mb a b) (hg : b.grownBy c (some D)) (hD : a.heap.size ≤ D) : TB mb a c :=
  ⟨hg.os.trans h.os, hg.tape.trans h.tape, hg.output.trans h.output, Nat.le_trans h.size hg.size, fun x h1 h2 => (hg.block x (Nat.lt_of_lt_of_le h1 h.size) (by intro e; injection e with e; omega)).trans (h.block x h1 h2)⟩

theorem TB.turned {mb : Nat} {a b c : World} (h : TB mb a b) (ht : b.mapTurned c mb) : TB mb a c := by
  obtain ⟨es, k, es', k', h1, rfl⟩ := ht
  refine h.trans ⟨rfl, rfl, rfl, by simp [setBlock], fun x _ h3 => ?_⟩
  simp [setBlock, Ne.symm h3]

theorem TB.drew {mb : Nat} {a b : World} (h : TB mb a b) : TB mb a b.drew := h.trans ⟨rfl, rfl, rfl, Nat.le_refl _, fun _ _ _ => rfl⟩

theorem TB.frm {mb B sb : Nat} {a b : World} (h : TB mb a b) (hB : B ≤ a.heap.size) : Frm B sb mb a b := ⟨h.os, h.tape, h.output, h.size, fun x h1 _ h3 => h.block x (by omega) h3⟩

/-- The slice value v reads as packed rows. -/
def PmsAt (w : World) (v : Value) (X : List Pm) : Prop :=
  (X = [] ∧ ∃ p c, v = .slice p 0 c) ∨
  ∃ b off cap, v = .slice (some ⟨b, off, none⟩) X.length cap ∧ 0 < X.length ∧ X.length ≤ cap ∧ cap ≤ 9223372036854775807 ∧ b < w.heap.size ∧
    ∀ j (hj : j < X.length), w.rangeAt b (off + j * 12) (X[j].l.map (Value.int .i8))

theorem PmsAt.form {w : World} {v : Value} {X : List Pm} (h : PmsAt w v X) : ∃ p cap, v = .slice p X.length cap := by
  rcases h with ⟨rfl, p, c, rfl⟩ | ⟨b, off, cap, h1, _⟩
  · exact ⟨p, c, rfl⟩
  · exact ⟨_, cap, h1⟩

theorem range_block {w w' : World} {b o : Nat} {cs : List Value} (h : w.rangeAt b o cs) (hb : w'.heap[b]? = w.heap[b]?) : w'.rangeAt b o cs := fun j v hv => by
  rw [World.cell?_of_block (w := w) (a := ⟨b, o + j, none⟩) hb]
  exact h j v hv

theorem range_not_map {w : World} {b o mb : Nat} {cs : List Value} {es : Array MapEntry} {k : Nat} (h : w.rangeAt b o cs) (hc : 0 < cs.length) (hm : w.heap[mb]? = some (.map es k)) : b ≠ mb := by
  intro e
  subst e
  have := h 0 cs[0] (by rw [List.getElem?_eq_getElem hc])
  simp [World.cell?, hm] at this

theorem PSet.obj {w : World} {b : Nat} {S : List Pm} (h : PSet w b S) : ∃ es clock, w.heap[b]? = some (.map es clock) := by
  obtain ⟨_, D, ⟨es, c, h1, _⟩, _⟩ := h; exact ⟨es, c, h1⟩

theorem PmsAt.of_frame {w w' : World} {v : Value} {X : List Pm} {mb : Nat} {S : List Pm} (h : PmsAt w v X) (hm : PSet w mb S) (hs : w.heap.size ≤ w'.heap.size) (hb : ∀ b, b < w.heap.size → b ≠ mb → w'.heap[b]? = w.heap[b]?) : PmsAt w' v X := by
  rcases h with h | ⟨b, off, cap, h1, h2, h3, h4, h5, h6⟩
  · exact Or.inl h
  · obtain ⟨es, k, hobj⟩ := hm.obj
    have hne : b ≠ mb := range_not_map (h6 0 h2) (by rw [List.length_map, Pm.len]; decide) hobj
    exact Or.inr ⟨b, off, cap, h1, h2, h3, h4, Nat.lt_of_lt_of_le h5 hs, fun j hj => range_block (h6 j hj) (hb b h5 hne)⟩

theorem PmsAt.tb {w w' : World} {v : Value} {X : List Pm} {mb : Nat} {S : List Pm} (h : PmsAt w v X) (hm : PSet w mb S) (ht : TB mb w w') : PmsAt w' v X := h.of_frame hm ht.size ht.block

theorem PmsAt.below {w w' : World} {v : Value} {X : List Pm} (h : PmsAt w v X) (ht : Below w.heap.size w w') : PmsAt w' v X := by
  rcases h with h | ⟨b, off, cap, h1, h2, h3, h4, h5, h6⟩
  · exact Or.inl h
  · exact Or.inr ⟨b, off, cap, h1, h2, h3, h4, Nat.lt_of_lt_of_le h5 ht.size, fun j hj => range_block (h6 j hj) (ht.block b h5)⟩

theorem SAr.tb {w w' : World} {b mb : Nat} {zs : List Int} {S : List Pm} (h : SAr w b zs) (hm : PSet w mb S) (ht : TB mb w w') : SAr w' b zs := by
  obtain ⟨es, k, hobj⟩ := hm.obj
  have hne : b ≠ mb := by
    intro e
    have := h.1
    rw [e, hobj] at this
    cases this
  exact ⟨(ht.block b h.lt hne).trans h.1, h.2⟩

/-- The first of them. -/
theorem PmsAt.cut {w : World} {b off cap k N : Nat} {X : List Pm} (h : PmsAt w (.slice (some ⟨b, off, none⟩) N cap) X) (hN : X.length = N) (hk : k ≤ N) : PmsAt w (.slice (some ⟨b, off, none⟩) k cap) (X.take k) := by
  rcases Nat.eq_zero_or_pos k with rfl | h0
  · exact Or.inl ⟨rfl, _, _, rfl⟩
  rcases h with ⟨rfl, _⟩ | ⟨b', off', cap', e, h2, h3, h4, h5, h6⟩
  · simp at hN; omega
  · obtain ⟨⟨rfl, rfl⟩, _, rfl⟩ : (b = b' ∧ off = off') ∧ N = X.length ∧ cap = cap' := by simpa using e
    have hl : (X.take k).length = k := by rw [List.length_take]; omega
    refine Or.inr ⟨b, off, cap, by rw [hl], by omega, by omega, h4, h5, fun j hj => ?_⟩
    rw [List.getElem_take]
    exact h6 j (by omega)

end Go.Proofs.Ytoiiadiimfohiaa

/- Contracts: search's ring and silence. -/
namespace Go.Proofs.Ytoiiadiimfohiaa
open Go.RowKit

/-- Rows of a lead, from a head on. -/
def rws (h : Pm) (X : List Pm) : List Pm := X.map (fun x => h * x)

theorem rws_length (h : Pm) (X : List Pm) : (rws h X).length = X.length := by simp [rws]

theorem rws_take_succ (h : Pm) (X : List Pm) {i : Nat} (hi : i < X.length) : rws h (X.take (i + 1)) = rws h (X.take i) ++ [h * X[i]] := by
  unfold rws; rw [List.take_succ_eq_append_getElem hi, List.map_append]; rfl

def RingPost (mb : Nat) (h : Pm) (X S : List Pm) (w : World) (e : Ending) (w' : World) : Prop :=
  ∃ k : Nat, k ≤ X.length ∧ e = .returned (.int .i64 k) ∧ PSet w' mb ((rws h (X.take k)).reverse ++ S) ∧ TB mb w w' ∧ (∀ hk : k < X.length, h * X[k] ∈ (rws h (X.take k)).reverse ++ S)

theorem struct_cell {w w' : World} {mb sb j : Nat} {u : Value} {S : List Pm} (h : w.cell? ⟨sb, j, none⟩ = some u) (hm : PSet w mb S) (ht : TB mb w w') : w'.cell? ⟨sb, j, none⟩ = some u := by
  obtain ⟨es, k, hobj⟩ := hm.obj
  have hne : sb ≠ mb := by
    intro e
    subst e
    simp [World.cell?, hobj] at h
  rw [World.cell?_of_block (w := w) (a := ⟨sb, j, none⟩) (ht.block sb (World.block_lt_of_cell? w _ h) hne)]
  exact h

set_option maxRecDepth 20000 in
set_option maxHeartbeats 8000000 in
theorem ring_ok (sb mb : Nat) (h : Pm) (v : Value) (X S : List Pm) (w : World) (h3 : w.cell? ⟨sb, 3, none⟩ = some (.map (some mb))) (hm : PSet w mb S) (hX : PmsAt w v X) (hl : X.length ≤ 1000) (hSl : S.length ≤ 1000000) :
    Calls Try.prog 97 #[.pointer (some ⟨sb, 0, none⟩), pv h, v] w (RingPost mb h X S w) := by
  obtain ⟨p0, c0, rfl⟩ := hX.form
  have hhl := h.len
  have HX := hide hX
  have HM := hide hm
  have H3 := hide h3
  have HA0 := hide (SAr.new w h.l hhl)
  have HM0 : Hid (PSet (w.alloc (.cells (i8s h.l) 85)) mb S) := hm.of_block (Below.heap_alloc w _ mb hm.lt)
  clear hX hm h3
  unfold pv
  go_enter Try.func97, Try.ntmps97
  go_wp2
  go_loopw [13] (fun i wr => ∃ k : Nat, k ≤ X.length ∧ i = .int .i64 k ∧ Hid (PSet wr mb ((rws h (X.take k)).reverse ++ S)) ∧ Hid (SAr wr w.heap.size h.l) ∧ Hid (TB mb w wr)) (fun i _ => X.length - (intOf i).toNat)
  case atStart => exact ⟨0, by omega, rfl, HM0, HA0, (TB.refl mb w).alloc _⟩
  case round =>
    clear HA0 HM0
    obtain ⟨k, hk, rfl, hM, hA, hT⟩ := hrel
    by_cases hlt : k < X.length
    · obtain ⟨y, hy⟩ : ∃ y, X[k] = y := ⟨_, rfl⟩
      have hPX := HX.out.tb HM.out hT.out
      rcases hPX with ⟨rfl, _⟩ | ⟨b, off, cap, he, hx1, hx2, hx3, hx4, hx5⟩
      · simp at hlt
      simp only [Value.slice.injEq] at he
      obtain ⟨rfl, _, rfl⟩ := he
      have hrg := hx5 k hlt
      rw [hy] at hrg
      have hyl := y.len
      have HRT := hide (rws_take_succ h X hlt)
      rw [hy] at HRT
      have hxy := (h * y).len
      have hSz : ((rws h (X.take k)).reverse ++ S).length ≤ 2000000 := by rw [List.length_append, List.length_reverse, rws_length, List.length_take]; omega
      have HY := hide hy
      clear hx5 hy
      go_upto_region 4 with (first | refine wpList_load_mid rfl _ _ rfl b (off + k * 12) rfl (y.l.map (Value.int .i8)) _ hrg Try.underlying85 rfl (by rw [Try.size85, List.length_map, hyl]) ?_ | (refine wpList_store_sar rfl _ _ rfl wr.heap.size zeros12 y.l (szeros_new wr) rfl rfl hyl ?_; intro w1 hA1 hg1))
      have hT1 : TB mb w w1 := (hT.out.alloc _).grown hg1 hT.out.size
      have hAh1 := (hA.out.alloc (.cells (i8s zeros12) 85)).kept hg1 (by intro e; injection e with e; have := hT.out.size; have := hA.out.lt; omega)
      have hM1 : PSet w1 mb ((rws h (X.take k)).reverse ++ S) := (hM.out.of_block (w' := wr.alloc (.cells (i8s zeros12) 85)) (Below.heap_alloc wr _ mb hM.out.lt)).of_block (hg1.block mb (by have := hM.out.lt; simp; omega) (by intro e; injection e with e; have := hM.out.lt; omega))
      have HT1 := hide hT1
      have HM1 := hide hM1
      have hw1 : wr.heap.size < w1.heap.size := by have := hg1.size; simp at this; omega
      have hDlt : w.heap.size < wr.heap.size := hA.out.lt
      have hmbD : mb < wr.heap.size := hM.out.lt
      generalize hD : wr.heap.size = D at *
      clear hrg hg1 hM1 hM hA hT hT1 hD
      go_wp2_with (first | refine wpList_load_sar rfl _ rfl _ _ hAh1 rfl ?_ | refine wpList_load_sar rfl _ rfl _ _ hA1 rfl ?_)
      refine (stimes_ok h y w1).mono ?_
      unfold pv
      rintro e w2 ⟨rfl, hb2⟩
      have hA2 := hA1.below hb2 hA1.lt
      have hAh2 := hAh1.below hb2 hAh1.lt
      have HM2 := hide (HM1.out.of_block (hb2.block mb HM1.out.lt))
      have HT2 := hide (HT1.out.below hb2)
      clear hA1 hAh1 HM1 HT1 hb2
      go_upto_region 5 with (refine wpList_store_sar rfl _ _ rfl D y.l (h * y).l hA2 rfl rfl hxy ?_; intro w3 hA3 hg3)
      have hAh3 := hAh2.kept hg3 (by intro e; injection e with e; omega)
      have hT3 : TB mb w w3 := HT2.out.grown hg3 (by omega)
      have hM3 : PSet w3 mb ((rws h (X.take k)).reverse ++ S) := HM2.out.of_block (hg3.block mb HM2.out.lt (by intro e; injection e with e; omega))
      have h33 := struct_cell H3.out HM.out hT3
      have HM3 := hide hM3
      have HT3 := hide hT3
      have HAh3 := hide hAh3
      clear hA2 hAh2 HM2 HT2 hg3 hM3 hT3 hAh3
      by_cases hin : h * y ∈ (rws h (X.take k)).reverse ++ S
      · obtain ⟨lv, hlk⟩ := (HM3.out.of_block (w' := w3.drew) rfl).yes hin
        go_upto_region 5 with fail
        refine wp_region_held_drew (S := fun W' => W'.cell? ⟨sb, 3, none⟩ = some (.map (some mb)) ∧ SAr W' D (h * y).l ∧ (Instr.lookup 78 (.map (some mb)) (.agg ((h * y).l.map (Value.int .i8)).toArray) true).run Try.prog W' = .ok (.tuple #[lv, .bool true]) W') (by kernel_rfl) ⟨h33, hA3, hlk⟩ (fun hS => ?_)
        refine wpAnyH_take (i := 0) (v := .pointer (some ⟨sb, 0, none⟩)) rfl (by kernel_rfl) (by kernel_rfl) (by kernel_rfl) (fun _ _ _ h => h) (Or.inl ⟨by kernel_rfl, fun w' hS' => by obtain ⟨q0, q1, q2⟩ := hS'; go_simp⟩) hS ?_
        refine wpAnyH_take (i := 1) (v := .pointer (some ⟨sb, 0, none⟩)) rfl (by kernel_rfl) (by kernel_rfl) (by kernel_rfl) (fun _ _ _ h => h) (Or.inl ⟨by kernel_rfl, fun w' hS' => by obtain ⟨q0, q1, q2⟩ := hS'; go_simp⟩) hS ?_
        refine wpAnyH_take (i := 2) (v := .pointer (some ⟨sb, 3, none⟩)) rfl (by kernel_rfl) (by kernel_rfl) (by kernel_rfl) (fun _ _ _ h => h) (Or.inl ⟨by kernel_rfl, fun w' hS' => by obtain ⟨q0, q1, q2⟩ := hS'; go_simp⟩) hS ?_
        refine wpAnyH_take (i := 3) (v := .map (some mb)) rfl (by kernel_rfl) (by kernel_rfl) (by kernel_rfl) (fun _ _ _ h => h) (Or.inl ⟨by kernel_rfl, fun w' hS' => by obtain ⟨q0, q1, q2⟩ := hS'; go_simp⟩) hS ?_
        refine wpAnyH_take (i := 4) rfl (by kernel_rfl) (by kernel_rfl) (by kernel_rfl) (fun _ _ _ h => h) (yieldsIf_load_mid (by kernel_rfl) _ _ rfl D 0 rfl ((h * y).l.map (Value.int .i8)) _ (fun w' hS' => hS'.2.1.range) Try.underlying85 rfl (by rw [Try.size85, List.length_map, Pm.len])) hS ?_
        refine wpAnyH_take (i := 5) (v := .tuple #[lv, .bool true]) rfl (by kernel_rfl) (by kernel_rfl) (by kernel_rfl) (fun _ _ _ h => h) (Or.inl ⟨by kernel_rfl, fun w' hS' => by obtain ⟨q0, q1, q2⟩ := hS'; go_simp⟩) hS ?_
        refine wpAnyH_take (i := 6) (v := .tuple #[lv, .bool true]) rfl (by kernel_rfl) (by kernel_rfl) (by kernel_rfl) (fun _ _ _ h => h) (Or.inl ⟨by kernel_rfl, fun w' hS' => by obtain ⟨q0, q1, q2⟩ := hS'; go_simp⟩) hS ?_
        refine wpAnyH_take (i := 7) (v := lv) rfl (by kernel_rfl) (by kernel_rfl) (by kernel_rfl) (fun _ _ _ h => h) (Or.inl ⟨by kernel_rfl, fun w' hS' => by obtain ⟨q0, q1, q2⟩ := hS'; go_simp⟩) hS ?_
        refine wpAnyH_take (i := 8) (v := .bool true) rfl (by kernel_rfl) (by kernel_rfl) (by kernel_rfl) (fun _ _ _ h => h) (Or.inl ⟨by kernel_rfl, fun w' hS' => by obtain ⟨q0, q1, q2⟩ := hS'; go_simp⟩) hS ?_
        refine wpAnyH_take (i := 9) (v := lv) rfl (by kernel_rfl) (by kernel_rfl) (by kernel_rfl) (fun _ _ _ h => h) (Or.inl ⟨by kernel_rfl, fun w' hS' => by obtain ⟨q0, q1, q2⟩ := hS'; go_simp⟩) hS ?_
        refine wpAnyH_take (i := 10) (v := .bool true) rfl (by kernel_rfl) (by kernel_rfl) (by kernel_rfl) (fun _ _ _ h => h) (Or.inl ⟨by kernel_rfl, fun w' hS' => by obtain ⟨q0, q1, q2⟩ := hS'; go_simp⟩) hS ?_
        refine wpAnyH_done (by kernel_rfl) ?_ _
        clear hS hlk
        go_wp2
        go_ret
        exact ⟨k, by omega, rfl, HM3.out.of_block rfl, HT3.out.drew, fun hk' => by rw [HY.out]; exact hin⟩
      · obtain ⟨lv, hlk⟩ := (HM3.out.of_block (w' := w3.drew) rfl).no hin
        go_upto_region 5 with fail
        refine wp_region_held_drew (S := fun W' => W'.cell? ⟨sb, 3, none⟩ = some (.map (some mb)) ∧ SAr W' D (h * y).l ∧ (Instr.lookup 78 (.map (some mb)) (.agg ((h * y).l.map (Value.int .i8)).toArray) true).run Try.prog W' = .ok (.tuple #[lv, .bool false]) W') (by kernel_rfl) ⟨h33, hA3, hlk⟩ (fun hS => ?_)
        refine wpAnyH_take (i := 0) (v := .pointer (some ⟨sb, 0, none⟩)) rfl (by kernel_rfl) (by kernel_rfl) (by kernel_rfl) (fun _ _ _ h => h) (Or.inl ⟨by kernel_rfl, fun w' hS' => by obtain ⟨q0, q1, q2⟩ := hS'; go_simp⟩) hS ?_
        refine wpAnyH_take (i := 1) (v := .pointer (some ⟨sb, 0, none⟩)) rfl (by kernel_rfl) (by kernel_rfl) (by kernel_rfl) (fun _ _ _ h => h) (Or.inl ⟨by kernel_rfl, fun w' hS' => by obtain ⟨q0, q1, q2⟩ := hS'; go_simp⟩) hS ?_
        refine wpAnyH_take (i := 2) (v := .pointer (some ⟨sb, 3, none⟩)) rfl (by kernel_rfl) (by kernel_rfl) (by kernel_rfl) (fun _ _ _ h => h) (Or.inl ⟨by kernel_rfl, fun w' hS' => by obtain ⟨q0, q1, q2⟩ := hS'; go_simp⟩) hS ?_
        refine wpAnyH_take (i := 3) (v := .map (some mb)) rfl (by kernel_rfl) (by kernel_rfl) (by kernel_rfl) (fun _ _ _ h => h) (Or.inl ⟨by kernel_rfl, fun w' hS' => by obtain ⟨q0, q1, q2⟩ := hS'; go_simp⟩) hS ?_
        refine wpAnyH_take (i := 4) rfl (by kernel_rfl) (by kernel_rfl) (by kernel_rfl) (fun _ _ _ h => h) (yieldsIf_load_mid (by kernel_rfl) _ _ rfl D 0 rfl ((h * y).l.map (Value.int .i8)) _ (fun w' hS' => hS'.2.1.range) Try.underlying85 rfl (by rw [Try.size85, List.length_map, Pm.len])) hS ?_
        refine wpAnyH_take (i := 5) (v := .tuple #[lv, .bool false]) rfl (by kernel_rfl) (by kernel_rfl) (by kernel_rfl) (fun _ _ _ h => h) (Or.inl ⟨by kernel_rfl, fun w' hS' => by obtain ⟨q0, q1, q2⟩ := hS'; go_simp⟩) hS ?_
        refine wpAnyH_take (i := 6) (v := .tuple #[lv, .bool false]) rfl (by kernel_rfl) (by kernel_rfl) (by kernel_rfl) (fun _ _ _ h => h) (Or.inl ⟨by kernel_rfl, fun w' hS' => by obtain ⟨q0, q1, q2⟩ := hS'; go_simp⟩) hS ?_
        refine wpAnyH_take (i := 7) (v := lv) rfl (by kernel_rfl) (by kernel_rfl) (by kernel_rfl) (fun _ _ _ h => h) (Or.inl ⟨by kernel_rfl, fun w' hS' => by obtain ⟨q0, q1, q2⟩ := hS'; go_simp⟩) hS ?_
        refine wpAnyH_take (i := 8) (v := .bool false) rfl (by kernel_rfl) (by kernel_rfl) (by kernel_rfl) (fun _ _ _ h => h) (Or.inl ⟨by kernel_rfl, fun w' hS' => by obtain ⟨q0, q1, q2⟩ := hS'; go_simp⟩) hS ?_
        refine wpAnyH_take (i := 9) (v := lv) rfl (by kernel_rfl) (by kernel_rfl) (by kernel_rfl) (fun _ _ _ h => h) (Or.inl ⟨by kernel_rfl, fun w' hS' => by obtain ⟨q0, q1, q2⟩ := hS'; go_simp⟩) hS ?_
        refine wpAnyH_take (i := 10) (v := .bool false) rfl (by kernel_rfl) (by kernel_rfl) (by kernel_rfl) (fun _ _ _ h => h) (Or.inl ⟨by kernel_rfl, fun w' hS' => by obtain ⟨q0, q1, q2⟩ := hS'; go_simp⟩) hS ?_
        refine wpAnyH_done (by kernel_rfl) ?_ _
        clear hS hlk
        obtain ⟨w4, hput, hset4, hturn4⟩ := (HM3.out.of_block (w' := w3.drew.drew) rfl).put hin (by unfold maxLen; omega) (.int .i64 ((((rws h (X.take k)).reverse ++ S).length : Nat) : Int))
        have hput' : (Instr.mapUpdate 78 (.map (some mb)) (.agg ((h * y).l.map (Value.int .i8)).toArray) (.int .i64 ((((rws h (X.take k)).reverse ++ S).length : Nat) : Int))).run Try.prog w3.drew.drew = .ok () w4 := hput
        have hlen := (HM3.out.of_block (w' := w3.drew.drew) rfl).len
        have HSet4 : Hid (PSet w4 mb ((rws h (X.take (k + 1))).reverse ++ S)) := by
          show PSet _ _ _
          rw [HRT.out, List.reverse_append]
          exact hset4
        have HT4 := hide (HT3.out.drew.drew.turned hturn4)
        have h34 := struct_cell H3.out HM.out HT4.out
        have hA4 : SAr w4 D (h * y).l := ⟨(turned_block hturn4 (by omega)).trans hA3.1, hA3.2⟩
        have HAh4 : Hid (SAr w4 w.heap.size h.l) := ⟨(turned_block hturn4 (by intro e; have h7 := HAh3.out.1; rw [e] at h7; obtain ⟨es, ck, h8⟩ := HM3.out.obj; rw [h8] at h7; cases h7)).trans HAh3.out.1, HAh3.out.2⟩
        clear hput hset4 hturn4
        generalize (((rws h (X.take k)).reverse ++ S).length : Nat) = sl at *
        go_upto_region 8 with fail
        refine wp_region_held_drew (S := fun W' => W'.cell? ⟨sb, 3, none⟩ = some (.map (some mb)) ∧ SAr W' D (h * y).l) (by kernel_rfl) ⟨h33, hA3⟩ (fun hS => ?_)
        refine wpAnyH_take (i := 0) (v := .pointer (some ⟨sb, 0, none⟩)) rfl (by kernel_rfl) (by kernel_rfl) (by kernel_rfl) (fun _ _ _ h => h) (Or.inl ⟨by kernel_rfl, fun w' hS' => by obtain ⟨q0, q1⟩ := hS'; go_simp⟩) hS ?_
        refine wpAnyH_take (i := 1) (v := .pointer (some ⟨sb, 0, none⟩)) rfl (by kernel_rfl) (by kernel_rfl) (by kernel_rfl) (fun _ _ _ h => h) (Or.inl ⟨by kernel_rfl, fun w' hS' => by obtain ⟨q0, q1⟩ := hS'; go_simp⟩) hS ?_
        refine wpAnyH_take (i := 2) (v := .pointer (some ⟨sb, 3, none⟩)) rfl (by kernel_rfl) (by kernel_rfl) (by kernel_rfl) (fun _ _ _ h => h) (Or.inl ⟨by kernel_rfl, fun w' hS' => by obtain ⟨q0, q1⟩ := hS'; go_simp⟩) hS ?_
        refine wpAnyH_take (i := 3) (v := .map (some mb)) rfl (by kernel_rfl) (by kernel_rfl) (by kernel_rfl) (fun _ _ _ h => h) (Or.inl ⟨by kernel_rfl, fun w' hS' => by obtain ⟨q0, q1⟩ := hS'; go_simp⟩) hS ?_
        refine wpAnyH_take (i := 4) rfl (by kernel_rfl) (by kernel_rfl) (by kernel_rfl) (fun _ _ _ h => h) (yieldsIf_load_mid (by kernel_rfl) _ _ rfl D 0 rfl ((h * y).l.map (Value.int .i8)) _ (fun w' hS' => hS'.2.range) Try.underlying85 rfl (by rw [Try.size85, List.length_map, Pm.len])) hS ?_
        refine wpAnyH_take (i := 5) (v := .pointer (some ⟨sb, 0, none⟩)) rfl (by kernel_rfl) (by kernel_rfl) (by kernel_rfl) (fun _ _ _ h => h) (Or.inl ⟨by kernel_rfl, fun w' hS' => by obtain ⟨q0, q1⟩ := hS'; go_simp⟩) hS ?_
        refine wpAnyH_take (i := 6) (v := .pointer (some ⟨sb, 0, none⟩)) rfl (by kernel_rfl) (by kernel_rfl) (by kernel_rfl) (fun _ _ _ h => h) (Or.inl ⟨by kernel_rfl, fun w' hS' => by obtain ⟨q0, q1⟩ := hS'; go_simp⟩) hS ?_
        refine wpAnyH_take (i := 7) (v := .pointer (some ⟨sb, 3, none⟩)) rfl (by kernel_rfl) (by kernel_rfl) (by kernel_rfl) (fun _ _ _ h => h) (Or.inl ⟨by kernel_rfl, fun w' hS' => by obtain ⟨q0, q1⟩ := hS'; go_simp⟩) hS ?_
        refine wpAnyH_take (i := 8) (v := .map (some mb)) rfl (by kernel_rfl) (by kernel_rfl) (by kernel_rfl) (fun _ _ _ h => h) (Or.inl ⟨by kernel_rfl, fun w' hS' => by obtain ⟨q0, q1⟩ := hS'; go_simp⟩) hS ?_
        refine wpAnyH_ready (rs := [9]) (by kernel_rfl) (by simp) ?_
        refine AllReadyH.cons rfl (fun K hK => ?_) (AllReadyH.nil)
        go_simp
        refine hK.out _ _ ⟨h33, hA3⟩ (fun hS => ?_)
        clear hK
        refine wpAnyH_ready (rs := [10]) (by kernel_rfl) (by simp) ?_
        refine AllReadyH.cons rfl (fun K hK => ?_) (AllReadyH.nil)
        go_simp
        refine hK.out _ _ ⟨h34, hA4⟩ (fun hS => ?_)
        clear hK
        refine wpAnyH_done (by kernel_rfl) ?_ _
        clear hput' hlen h33 hA3 hS h34 hA4
        go_wp2
        go_roundw
        case rel => exact ⟨k + 1, by omega, by go_num, HSet4, HAh4, HT4⟩
        case measure => simp [intOf]; omega
    · obtain rfl : k = X.length := by omega
      have HM9 := hide hM.out
      have HT9 := hide hT.out
      clear hM hA hT
      go_wp2
      go_ret
      exact ⟨X.length, Nat.le_refl _, rfl, HM9.out, HT9.out, fun hk => absurd hk (by omega)⟩

end Go.Proofs.Ytoiiadiimfohiaa

/- Contract: search's silence. -/
namespace Go.Proofs.Ytoiiadiimfohiaa
open Go.RowKit

theorem PSet.dropT {w : World} {b : Nat} {x : Pm} {S : List Pm} (h : PSet w b (x :: S)) :
    ∃ w', (∀ ty, (Builtin.delete_ #[78, 85] ty #[.map (some b), pv x]).run Try.prog w = .ok (.tuple #[]) w') ∧ PSet w' b S ∧ w.mapTurned w' b := by
  obtain ⟨w', hrun, h1, h2⟩ := h.drop 0
  exact ⟨w', fun _ => hrun, h1, h2⟩

theorem rws_drop (h : Pm) (X : List Pm) {i : Nat} (hi : i < X.length) : rws h (X.drop i) = h * X[i] :: rws h (X.drop (i + 1)) := by
  unfold rws; rw [List.drop_eq_getElem_cons hi, List.map_cons]

set_option maxRecDepth 20000 in
set_option maxHeartbeats 8000000 in
theorem silence_ok (sb mb : Nat) (h : Pm) (v : Value) (X S : List Pm) (w : World) (h3 : w.cell? ⟨sb, 3, none⟩ = some (.map (some mb))) (hm : PSet w mb ((rws h X).reverse ++ S)) (hX : PmsAt w v X) (hl : X.length ≤ 1000) :
    Calls Try.prog 100 #[.pointer (some ⟨sb, 0, none⟩), pv h, v] w fun e w' => e = .returned (.tuple #[]) ∧ PSet w' mb S ∧ TB mb w w' := by
  obtain ⟨p0, c0, rfl⟩ := hX.form
  have hhl := h.len
  have HX := hide hX
  have HM := hide hm
  have H3 := hide h3
  have HA0 := hide (SAr.new w h.l hhl)
  have HM0 : Hid (PSet (w.alloc (.cells (i8s h.l) 85)) mb (rws h (X.drop 0) ++ S)) := (hm.of_block (Below.heap_alloc w _ mb hm.lt)).perm ((List.reverse_perm _).append_right _)
  clear hX hm h3
  unfold pv
  go_enter Try.func100, Try.ntmps100
  go_wp2
  go_loopw [10] (fun i wr => ∃ k : Nat, k ≤ X.length ∧ i = .int .i64 k ∧ Hid (PSet wr mb (rws h (X.drop k) ++ S)) ∧ Hid (SAr wr w.heap.size h.l) ∧ Hid (TB mb w wr)) (fun i _ => X.length - (intOf i).toNat)
  case atStart => exact ⟨0, by omega, rfl, HM0, HA0, (TB.refl mb w).alloc _⟩
  case round =>
    clear HA0 HM0
    obtain ⟨k, hk, rfl, hM, hA, hT⟩ := hrel
    by_cases hlt : k < X.length
    · obtain ⟨y, hy⟩ : ∃ y, X[k] = y := ⟨_, rfl⟩
      have hPX := HX.out.tb HM.out hT.out
      rcases hPX with ⟨rfl, _⟩ | ⟨b, off, cap, he, hx1, hx2, hx3, hx4, hx5⟩
      · simp at hlt
      simp only [Value.slice.injEq] at he
      obtain ⟨rfl, _, rfl⟩ := he
      have hrg := hx5 k hlt
      rw [hy] at hrg
      have hyl := y.len
      have HRT := hide (rws_drop h X hlt)
      rw [hy] at HRT
      clear hx5 hy
      go_upto_region 4 with (first | refine wpList_load_mid rfl _ _ rfl b (off + k * 12) rfl (y.l.map (Value.int .i8)) _ hrg Try.underlying85 rfl (by rw [Try.size85, List.length_map, hyl]) ?_ | (refine wpList_store_sar rfl _ _ rfl wr.heap.size zeros12 y.l (szeros_new wr) rfl rfl hyl ?_; intro w1 hA1 hg1))
      have hT1 : TB mb w w1 := (hT.out.alloc _).grown hg1 hT.out.size
      have hAh1 := (hA.out.alloc (.cells (i8s zeros12) 85)).kept hg1 (by intro e; injection e with e; have := hT.out.size; have := hA.out.lt; omega)
      have hM1 : PSet w1 mb (h * y :: (rws h (X.drop (k + 1)) ++ S)) := by
        have h9 := (hM.out.of_block (w' := wr.alloc (.cells (i8s zeros12) 85)) (Below.heap_alloc wr _ mb hM.out.lt)).of_block (hg1.block mb (by have := hM.out.lt; simp; omega) (by intro e; injection e with e; have := hM.out.lt; omega))
        rw [HRT.out] at h9
        exact h9
      have HT1 := hide hT1
      have HM1 := hide hM1
      have h31 := struct_cell H3.out HM.out hT1
      have hDlt : w.heap.size < wr.heap.size := hA.out.lt
      have hmbD : mb < wr.heap.size := hM.out.lt
      generalize hD : wr.heap.size = D at *
      clear hrg hg1 hM1 hM hA hT hT1 hD
      refine wp_region_held_drew (S := fun W' => W'.cell? ⟨sb, 3, none⟩ = some (.map (some mb)) ∧ SAr W' w.heap.size h.l ∧ SAr W' D y.l) (by kernel_rfl) ⟨h31, hAh1, hA1⟩ (fun hS => ?_)
      refine wpAnyH_take (i := 0) (v := .pointer (some ⟨sb, 0, none⟩)) rfl (by kernel_rfl) (by kernel_rfl) (by kernel_rfl) (fun _ _ _ h => h) (Or.inl ⟨by kernel_rfl, fun w' hS' => by obtain ⟨q0, q1, q2⟩ := hS'; go_simp⟩) hS ?_
      refine wpAnyH_take (i := 1) (v := .pointer (some ⟨sb, 0, none⟩)) rfl (by kernel_rfl) (by kernel_rfl) (by kernel_rfl) (fun _ _ _ h => h) (Or.inl ⟨by kernel_rfl, fun w' hS' => by obtain ⟨q0, q1, q2⟩ := hS'; go_simp⟩) hS ?_
      refine wpAnyH_take (i := 2) (v := .pointer (some ⟨sb, 3, none⟩)) rfl (by kernel_rfl) (by kernel_rfl) (by kernel_rfl) (fun _ _ _ h => h) (Or.inl ⟨by kernel_rfl, fun w' hS' => by obtain ⟨q0, q1, q2⟩ := hS'; go_simp⟩) hS ?_
      refine wpAnyH_take (i := 3) (v := .map (some mb)) rfl (by kernel_rfl) (by kernel_rfl) (by kernel_rfl) (fun _ _ _ h => h) (Or.inl ⟨by kernel_rfl, fun w' hS' => by obtain ⟨q0, q1, q2⟩ := hS'; go_simp⟩) hS ?_
      refine wpAnyH_take (i := 4) rfl (by kernel_rfl) (by kernel_rfl) (by kernel_rfl) (fun _ _ _ h => h) (yieldsIf_load_mid (by kernel_rfl) _ _ rfl w.heap.size 0 rfl (h.l.map (Value.int .i8)) _ (fun w' hS' => hS'.2.1.range) Try.underlying85 rfl (by rw [Try.size85, List.length_map, Pm.len])) hS ?_
      refine wpAnyH_take (i := 5) rfl (by kernel_rfl) (by kernel_rfl) (by kernel_rfl) (fun _ _ _ h => h) (yieldsIf_load_mid (by kernel_rfl) _ _ rfl D 0 rfl (y.l.map (Value.int .i8)) _ (fun w' hS' => hS'.2.2.range) Try.underlying85 rfl (by rw [Try.size85, List.length_map, Pm.len])) hS ?_
      refine wpAnyH_ready (rs := [6]) (by kernel_rfl) (by simp) ?_
      refine AllReadyH.cons rfl (fun K hK => ?_) (AllReadyH.nil)
      go_simp
      refine (stimes_ok h y w1.drew).mono ?_
      rintro e w2 ⟨rfl, hb2⟩
      have hb2' : Below w1.heap.size w1 w2 := ((Below.refl _ _).drew).trans hb2
      have HM2 : Hid (PSet w2 mb (h * y :: (rws h (X.drop (k + 1)) ++ S))) := HM1.out.of_block (hb2'.block mb HM1.out.lt)
      have HT2 := hide (HT1.out.below hb2')
      have h32 := struct_cell H3.out HM.out HT2.out
      have hAh2 := hAh1.below hb2' hAh1.lt
      have hA2 := hA1.below hb2' hA1.lt
      refine hK.out _ _ ⟨h32, hAh2, hA2⟩ (fun hS => ?_)
      clear hK hb2
      obtain ⟨w3, hdrop, hset3, hturn3⟩ := HM2.out.dropT
      have HSet3 := hide hset3
      have HT3 := hide (HT2.out.turned hturn3)
      have h33 := struct_cell H3.out HM.out HT3.out
      have hmbh : w.heap.size ≠ mb := by intro e; have h7 := hAh2.1; rw [e] at h7; obtain ⟨es, ck, h8⟩ := HM2.out.obj; rw [h8] at h7; cases h7
      have hAh3 : SAr w3 w.heap.size h.l := ⟨(turned_block hturn3 hmbh).trans hAh2.1, hAh2.2⟩
      have hA3 : SAr w3 D y.l := ⟨(turned_block hturn3 (by omega)).trans hA2.1, hA2.2⟩
      clear hturn3 hset3
      unfold pv at hdrop
      refine wpAnyH_ready (rs := [7]) (by kernel_rfl) (by simp) ?_
      refine AllReadyH.cons rfl (fun K hK => ?_) (AllReadyH.nil)
      unfold pv
      go_simp
      refine hK.out _ _ ⟨h33, hAh3, hA3⟩ (fun hS => ?_)
      clear hK
      refine wpAnyH_done (by kernel_rfl) ?_ _
      have HAh3 := hide hAh3
      clear hdrop hS h33 hA3 hAh3 h32 hAh2 hA2 h31 hAh1 hA1
      go_wp2
      go_roundw
      case rel => exact ⟨k + 1, by omega, by go_num, HSet3, HAh3, HT3⟩
      case measure => simp [intOf]; omega
    · obtain rfl : k = X.length := by omega
      have HM9 : Hid (PSet wr mb S) := by
        have := hM.out
        rw [List.drop_length] at this
        exact this
      have HT9 := hide hT.out
      clear hM hA hT
      go_wp2
      exact bodyPost_end (results_none rfl _ _ _) rfl ⟨rfl, HM9.out, HT9.out⟩

end Go.Proofs.Ytoiiadiimfohiaa

/- Packed rows held against each other; plain: what a search finds. -/
namespace Go.Proofs.Ytoiiadiimfohiaa
open Go.RowKit Go.Maps

theorem KeyT.lits {K E : TypeId} {q : IntKind} (h : KeyT K E q) {zs : List Int} (hz : OkK q zs) : (kv q zs).formed Try.prog K = true ∧ ∃ ls, Try.prog.keyLits (Try.prog.types.size + 1) K (kv q zs).cells.toList = some ls := by
  obtain ⟨hl, hw⟩ := hz
  have hf : (kv q zs).formed Try.prog K = true := by
    unfold kv Value.formed
    rw [h.arr]
    simp [h.cK, hl]
  refine ⟨hf, ?_⟩
  have hcs : (kv q zs).cells.toList = zs.map (Value.int q) := by simp [kv, Value.cells]
  rw [hcs]
  unfold Program.keyLits
  rw [h.arr]
  simp only
  rw [if_pos (by simp [h.cK, hl])]
  obtain ⟨ys, hys⟩ := mapM_some (fun i => Try.prog.keyLits Try.prog.types.size E (((zs.map (Value.int q)).drop (i * Try.prog.cellsOf E)).take (Try.prog.cellsOf E))) (List.range 12) (fun i hi => by
    have hi' : i < zs.length := by rw [hl]; simpa using hi
    refine ⟨[.int q zs[i]], ?_⟩
    rw [h.cE, Nat.mul_one]
    have e : ((zs.map (Value.int q)).drop i).take 1 = [.int q zs[i]] := by
      rw [List.drop_eq_getElem_cons (by simpa using hi')]
      simp
    rw [e]
    obtain ⟨d, hd⟩ : ∃ d, Try.prog.types.size = d + 1 := pos_succ _ (Nat.lt_of_le_of_lt (Nat.zero_le _) h.low)
    rw [hd]
    unfold Program.keyLits
    rw [h.int]
    simp [hw zs[i] (List.getElem_mem hi')])
  exact ⟨ys.flatten, by rw [hys]; rfl⟩

theorem KeyT.same {K E : TypeId} {q : IntKind} (h : KeyT K E q) {zs zs' : List Int} (hz : OkK q zs) (hz' : OkK q zs') (e : Try.prog.keyLits (Try.prog.types.size + 1) K (kv q zs).cells.toList = Try.prog.keyLits (Try.prog.types.size + 1) K (kv q zs').cells.toList) :
    keyOf Try.prog K (kv q zs) = keyOf Try.prog K (kv q zs') := by
  unfold keyOf
  rw [h.arr]
  simp only
  rw [(h.lits hz).1, (h.lits hz').1, e]

theorem peq (x y : Pm) (w : World) : ∃ r : Bool, (binOp .eql 85 (.agg (i8s x.l)) (.agg (i8s y.l))).run Try.prog w = .ok (.bool r) w ∧ (r = true ↔ x = y) := by
  obtain ⟨f1, l1, h1⟩ := skeyT.lits (okK_pm x)
  obtain ⟨f2, l2, h2⟩ := skeyT.lits (okK_pm y)
  obtain ⟨r, hr, hiff⟩ := run_equalIn_deep (P := Try.prog) 9997 3 85 (by kernel_rfl) w _ _ _ _ l1 l2 f1 f2 h1 h2
  refine ⟨r, ?_, hiff.trans ⟨fun e => ?_, fun e => ?_⟩⟩
  · rw [run_eql_struct]
    have hr' : (Op.equalIn 10000 85 (.agg (i8s x.l)) (.agg (i8s y.l))).run Try.prog w = .ok r w := hr
    rw [hr']
    rfl
  · obtain ⟨lx, hx⟩ := pm_key x
    have hk := skeyT.same (okK_pm x) (okK_pm y) (by rw [h1, h2, e])
    exact pm_key_inj hx (hk ▸ hx)
  · subst e
    rw [h1] at h2
    exact Option.some.inj h2

/-! what a search finds -/
section
open Classical

/-- Is a lead rung from a head on without a row that was rung? -/
def okl (S : List Pm) (h : Pm) (X : List Pm) : Prop := ((rws h X).reverse ++ S).Nodup

/-- All touches of so many leads more that are true and come round, in order. -/
noncomputable def sols (G : List (List Pm × Pm)) : Nat → List Pm → Pm → List (List Nat)
  | 0, _, h => if h = 1 then [[]] else []
  | l + 1, S, h => (List.range G.length).flatMap (fun c => if okl S h (G.getD c ([], 1)).1 then (sols G l ((rws h (G.getD c ([], 1)).1).reverse ++ S) (h * (G.getD c ([], 1)).2)).map (fun t => c :: t) else [])

/-- .. by one call. -/
noncomputable def solBy (G : List (List Pm × Pm)) (l : Nat) (S : List Pm) (h : Pm) (c : Nat) : List (List Nat) :=
  if okl S h (G.getD c ([], 1)).1 then (sols G l ((rws h (G.getD c ([], 1)).1).reverse ++ S) (h * (G.getD c ([], 1)).2)).map (fun t => c :: t) else []

/-- .. by the first calls. -/
noncomputable def solTo (G : List (List Pm × Pm)) (l : Nat) (S : List Pm) (h : Pm) (k : Nat) : List (List Nat) := (List.range k).flatMap (solBy G l S h)

end

theorem sols_succ (G : List (List Pm × Pm)) (l : Nat) (S : List Pm) (h : Pm) : sols G (l + 1) S h = solTo G l S h G.length := rfl

theorem solTo_succ (G : List (List Pm × Pm)) (l : Nat) (S : List Pm) (h : Pm) (k : Nat) : solTo G l S h (k + 1) = solTo G l S h k ++ solBy G l S h k := by
  unfold solTo; rw [List.range_succ, List.flatMap_append]; simp

/-- How many beginnings there are at most. -/
def bnd (C : Nat) : Nat → Nat
  | 0 => 0
  | l + 1 => C * (1 + bnd C l)

/-- What is found, so many at most. -/
def fnd (many : Nat) (F : List (List Nat)) (P : List Nat) (A : List (List Nat)) : List (List Nat) := (F ++ A.map (fun t => P ++ t)).take many

theorem fnd_nil {many : Nat} {F : List (List Nat)} (P : List Nat) (h : F.length ≤ many) : fnd many F P [] = F := by
  unfold fnd; rw [List.map_nil, List.append_nil, List.take_of_length_le h]

theorem fnd_full {many : Nat} {F : List (List Nat)} {P : List Nat} {A : List (List Nat)} (B : List (List Nat)) (h : ¬ (fnd many F P A).length < many) : fnd many F P (A ++ B) = fnd many F P A := by
  unfold fnd at h ⊢
  rw [List.map_append, ← List.append_assoc]
  have h1 : many ≤ (F ++ A.map (fun t => P ++ t)).length := by
    rw [List.length_take] at h
    omega
  rw [List.take_append_of_le_length h1]

theorem fnd_more {many : Nat} {F : List (List Nat)} {P : List Nat} {A : List (List Nat)} (B : List (List Nat)) (h : (fnd many F P A).length < many) : fnd many (fnd many F P A) P B = fnd many F P (A ++ B) := by
  have h1 : (F ++ A.map (fun t => P ++ t)).length < many := by
    unfold fnd at h
    rw [List.length_take] at h
    omega
  unfold fnd
  rw [List.take_of_length_le (Nat.le_of_lt h1), List.map_append, List.append_assoc]

theorem fnd_len (many : Nat) (F : List (List Nat)) (P : List Nat) (A : List (List Nat)) : (fnd many F P A).length ≤ many := by unfold fnd; rw [List.length_take]; omega

theorem fnd_call (many : Nat) (F : List (List Nat)) (P : List Nat) (c : Nat) (A : List (List Nat)) : fnd many F (P ++ [c]) A = fnd many F P (A.map (fun t => c :: t)) := by
  unfold fnd
  rw [List.map_map]
  congr 2
  refine List.map_congr_left (fun t _ => ?_)
  simp

end Go.Proofs.Ytoiiadiimfohiaa

/- Plain: what a search finds is just what is true and comes round, in the order of lists. -/
namespace Go.Proofs.Ytoiiadiimfohiaa
open Go.RowKit

/-- The rows of a touch from a head on, without the last one. -/
def tRows (G : List (List Pm × Pm)) : Pm → List Nat → List Pm
  | _, [] => []
  | h, c :: t => rws h (G.getD c ([], 1)).1 ++ tRows G (h * (G.getD c ([], 1)).2) t

/-- .. and the last one. -/
def tEnd (G : List (List Pm × Pm)) : Pm → List Nat → Pm
  | h, [] => h
  | h, c :: t => tEnd G (h * (G.getD c ([], 1)).2) t

theorem ltl_irrefl : ∀ x : List Nat, ¬ Ltl x x
  | [], h => h
  | a :: x, h => by
    rcases (show a < a ∨ (a = a ∧ Ltl x x) from h) with h1 | ⟨_, h1⟩
    · omega
    · exact ltl_irrefl x h1

theorem solBy_mem {G : List (List Pm × Pm)} {l : Nat} {S : List Pm} {h : Pm} {c : Nat} {t : List Nat} (ht : t ∈ solBy G l S h c) : ∃ u, t = c :: u := by
  unfold solBy at ht
  split at ht
  · obtain ⟨u, _, rfl⟩ := List.mem_map.1 ht
    exact ⟨u, rfl⟩
  · cases ht

theorem solTo_heads {G : List (List Pm × Pm)} {l : Nat} {S : List Pm} {h : Pm} {k : Nat} {t : List Nat} (ht : t ∈ solTo G l S h k) : ∃ c u, c < k ∧ t = c :: u := by
  unfold solTo at ht
  obtain ⟨c, hc, ht'⟩ := List.mem_flatMap.1 ht
  obtain ⟨u, rfl⟩ := solBy_mem ht'
  exact ⟨c, u, by simpa using hc, rfl⟩

theorem map_sorted {A : List (List Nat)} (c : Nat) (h : A.Pairwise Ltl) : (A.map (fun t => c :: t)).Pairwise Ltl := by
  rw [List.pairwise_map]
  exact h.imp (fun hab => Or.inr ⟨rfl, hab⟩)

theorem sols_sorted (G : List (List Pm × Pm)) : ∀ (l : Nat) (S : List Pm) (h : Pm), (sols G l S h).Pairwise Ltl
  | 0, S, h => by
    unfold sols
    split
    · exact List.pairwise_singleton _ _
    · exact List.Pairwise.nil
  | l + 1, S, h => by
    rw [sols_succ]
    have key : ∀ k, (solTo G l S h k).Pairwise Ltl := by
      intro k
      induction k with
      | zero => exact List.Pairwise.nil
      | succ k ih =>
        rw [solTo_succ, List.pairwise_append]
        refine ⟨ih, ?_, fun a ha b hb => ?_⟩
        · unfold solBy
          split
          · exact map_sorted k (sols_sorted G l _ _)
          · exact List.Pairwise.nil
        · obtain ⟨c, u, hc, rfl⟩ := solTo_heads ha
          obtain ⟨v, rfl⟩ := solBy_mem hb
          exact Or.inl hc
    exact key G.length

/-- Is a touch true from here on, and does it come round? -/
def TrueFrom (G : List (List Pm × Pm)) : List Pm → Pm → List Nat → Prop
  | _, h, [] => h = 1
  | S, h, c :: t => okl S h (G.getD c ([], 1)).1 ∧ TrueFrom G ((rws h (G.getD c ([], 1)).1).reverse ++ S) (h * (G.getD c ([], 1)).2) t

theorem sols_mem (G : List (List Pm × Pm)) : ∀ (l : Nat) (S : List Pm) (h : Pm) (t : List Nat), t ∈ sols G l S h ↔ t.length = l ∧ (∀ c, c ∈ t → c < G.length) ∧ TrueFrom G S h t
  | 0, S, h, t => by
    unfold sols
    constructor
    · intro ht
      split at ht
      · rename_i h1
        rw [List.mem_singleton] at ht
        subst ht
        exact ⟨rfl, (fun c hc => by cases hc), h1⟩
      · cases ht
    · rintro ⟨h1, _, h3⟩
      obtain rfl : t = [] := List.length_eq_zero_iff.1 h1
      rw [if_pos (show h = 1 from h3)]
      simp
  | l + 1, S, h, t => by
    rw [sols_succ]
    unfold solTo
    rw [List.mem_flatMap]
    constructor
    · rintro ⟨c, hc, ht⟩
      unfold solBy at ht
      split at ht
      · rename_i hok
        obtain ⟨u, hu, rfl⟩ := List.mem_map.1 ht
        obtain ⟨h1, h2, h3⟩ := (sols_mem G l _ _ u).1 hu
        refine ⟨by simp [h1], fun x hx => ?_, hok, h3⟩
        rcases List.mem_cons.1 hx with rfl | hx
        · simpa using hc
        · exact h2 x hx
      · cases ht
    · rintro ⟨h1, h2, h3⟩
      cases t with
      | nil => simp at h1
      | cons c u =>
        refine ⟨c, by simpa using h2 c (by simp), ?_⟩
        unfold solBy
        rw [if_pos h3.1]
        exact List.mem_map.2 ⟨u, (sols_mem G l _ _ u).2 ⟨by simpa using h1, fun x hx => h2 x (List.mem_cons_of_mem _ hx), h3.2⟩, rfl⟩

theorem trueFrom_iff (G : List (List Pm × Pm)) : ∀ (t : List Nat) (S : List Pm) (h : Pm), S.Nodup → (TrueFrom G S h t ↔ (S ++ tRows G h t).Nodup ∧ tEnd G h t = 1)
  | [], S, h, hS => by
    unfold TrueFrom tRows tEnd
    simp [hS]
  | c :: t, S, h, hS => by
    have hp : ((rws h (G.getD c ([], 1)).1).reverse ++ S).Perm (S ++ rws h (G.getD c ([], 1)).1) := List.perm_append_comm.trans ((List.reverse_perm _).append_left S)
    have hp2 : (((rws h (G.getD c ([], 1)).1).reverse ++ S) ++ tRows G (h * (G.getD c ([], 1)).2) t).Perm (S ++ tRows G h (c :: t)) := by
      refine (hp.append_right _).trans ?_
      rw [List.append_assoc]
      exact List.Perm.refl _
    constructor
    · rintro ⟨hok, h2⟩
      obtain ⟨h3, h4⟩ := (trueFrom_iff G t _ _ hok).1 h2
      exact ⟨hp2.nodup_iff.1 h3, h4⟩
    · rintro ⟨h3, h4⟩
      have h5 := hp2.nodup_iff.2 h3
      have hok : okl S h (G.getD c ([], 1)).1 := (List.nodup_append.1 h5).1
      exact ⟨hok, (trueFrom_iff G t _ _ hok).2 ⟨h5, h4⟩⟩

/-- What a search for so many leads finds. -/
theorem found_iff (G : List (List Pm × Pm)) (l : Nat) (t : List Nat) : t ∈ sols G l [] 1 ↔ t.length = l ∧ (∀ c, c ∈ t → c < G.length) ∧ (tRows G 1 t).Nodup ∧ tEnd G 1 t = 1 := by
  rw [sols_mem, trueFrom_iff G t [] 1 List.nodup_nil, List.nil_append]

/-- What is not among the first so many is behind the last of them. -/
theorem behind {A : List (List Nat)} (hA : A.Pairwise Ltl) {g : List Nat} (hg : g ∈ A) {m : Nat} (hm : 1 ≤ m) (hno : g ∉ A.take m) : (A.take m).length = m ∧ Ltl ((A.take m).getD (m - 1) []) g := by
  obtain ⟨j, hj, e⟩ := List.getElem_of_mem hg
  have hmj : m ≤ j := by
    rcases Nat.lt_or_ge j m with h | h
    · exfalso
      apply hno
      rw [← e, show A[j] = (A.take m)[j]'(by rw [List.length_take]; omega) from by rw [List.getElem_take]]
      exact List.getElem_mem _
    · exact h
  have hl : (A.take m).length = m := by rw [List.length_take]; omega
  refine ⟨hl, ?_⟩
  rw [List.getD, List.getElem?_eq_getElem (by omega), Option.getD_some, List.getElem_take, ← e]
  exact List.pairwise_iff_getElem.1 hA (m - 1) j (by omega) hj (by omega)

theorem fnd_top (many : Nat) (A : List (List Nat)) : fnd many [] [] A = A.take many := by
  unfold fnd
  rw [List.nil_append]
  congr 1
  exact (List.map_congr_left (fun t _ => List.nil_append t)).trans (List.map_id _)

/-- A touch from a head on is the touch, changed. -/
theorem tRows_head (G : List (List Pm × Pm)) : ∀ (t : List Nat) (h k : Pm), tRows G (h * k) t = (tRows G k t).map (fun x => h * x) ∧ tEnd G (h * k) t = h * tEnd G k t
  | [], h, k => ⟨rfl, rfl⟩
  | c :: t, h, k => by
    obtain ⟨h1, h2⟩ := tRows_head G t h (k * (G.getD c ([], 1)).2)
    constructor
    · show rws (h * k) _ ++ tRows G (h * k * _) t = (rws k _ ++ tRows G (k * _) t).map _
      rw [List.map_append, ← h1, Pm.mul_assoc]
      congr 1
      unfold rws
      rw [List.map_map]
      exact List.map_congr_left (fun x _ => Pm.mul_assoc h k x)
    · show tEnd G (h * k * _) t = h * tEnd G (k * _) t
      rw [← h2, Pm.mul_assoc]

end Go.Proofs.Ytoiiadiimfohiaa

/- Contract: the answer's TouchMay, at a touch that may be. -/
namespace Go.Proofs.Ytoiiadiimfohiaa
open Go.RowKit
set_option maxRecDepth 20000
set_option linter.unusedVariables false

set_option maxHeartbeats 4000000 in
theorem rtmay_ok (s : ByteArray) (n : Nat) (vp : Option Addr) (vc : Nat) (X : List (List Int)) (cv : Value) (cs : List (Int × List (List Int))) (lv : Value) (t : List Nat) (w : World) (hs : s.size ≤ 1048576) (hn : isN (arunes s) = true) (h1 : 2 ≤ n) (h2 : n ≤ 12) (hl1 : 1 ≤ X.length) (hl2 : X.length ≤ 200)
    (hv : IntsAll w (.slice vp X.length vc) X) (hX : ∀ k, k < X.length → okc n 0 (X.getD k []) = true) (hcv : CallsAt w cv cs) (hco : CallsOk n X.length cs) (hc1 : 1 ≤ cs.length) (hc2 : cs.length ≤ 8) (hI : Ints w lv (nI t)) (ht1 : 1 ≤ t.length) (ht2 : t.length ≤ 400) (hin : ∀ c, c ∈ t → c < cs.length) (htl : t.length * X.length ≤ 20000) :
    Calls Try.prog 7 #[.agg #[.string s, .int .i64 n, .slice vp X.length vc], cv, lv] w fun e w' => e = .returned (.int .i64 0) ∧ Below w.heap.size w w' := by
  have HB0 := hide ((Below.refl w.heap.size w).alloc (Nat.le_refl _) (mbox s n (.slice vp X.length vc)))
  have HCM := hide (rcalls_ok s n vp vc X cv cs (w.alloc (mbox s n (.slice vp X.length vc))) hs hn h1 h2 hl1 hl2 (hv.below HB0.out) hX (hcv.below HB0.out) hco hc1 hc2)
  obtain ⟨m, hm⟩ : ∃ m, Hid (X.length = m) := ⟨_, rfl⟩
  obtain ⟨cb, co, cc, rfl, _, hcc1, hcc2, _⟩ := hcv
  obtain ⟨C, hC⟩ : ∃ C, Hid (cs.length = C) := ⟨_, rfl⟩
  obtain ⟨T, hT⟩ : ∃ T, Hid (t.length = T) := ⟨_, rfl⟩
  obtain ⟨lp, lc, rfl⟩ : ∃ lp lc, lv = .slice lp T lc := by
    obtain ⟨p, c, e⟩ := hI.form
    rw [show (nI t).length = T from by simp [nI]; exact hT.out] at e
    exact ⟨p, c, e⟩
  have HL : ∀ k, k < T → Hid (∃ lb lo, lp = some ⟨lb, lo, none⟩ ∧ T ≤ lc ∧ lc ≤ 9223372036854775807 ∧ lb < w.heap.size ∧ t.getD k 0 < C ∧ w.cell? ⟨lb, lo + k, none⟩ = some (.int .i64 ((t.getD k 0 : Nat) : Int))) := fun k hk => by
    have hkt : k < t.length := by rw [hT.out]; exact hk
    have hcC : t.getD k 0 < C := by rw [← hC.out]; exact hin _ (by simp [List.getD, hkt])
    rcases hI with ⟨e, _⟩ | ⟨b, off, cap, e, h0, h1', h2', h3', hc⟩
    · exfalso
      have : t = [] := by simpa [nI] using e
      rw [this] at hkt
      simp at hkt
    · injection e with e1 e2 e3
      subst e3
      refine ⟨b, off, e1, by omega, h2', h3', hcC, ?_⟩
      rw [hc k (by simp [nI]; exact hkt)]
      simp [nI, List.getD, hkt]
  rw [hm.out, hC.out] at HCM
  rw [hm.out] at HB0 htl ⊢
  rw [hC.out] at hcc1 hc1 hc2 ⊢
  rw [hT.out] at htl ht1 ht2
  obtain ⟨d0, d1, d2⟩ := mbox_cells w s n (.slice vp m vc)
  have hmul : (T : Int) * (m : Int) = ((T * m : Nat) : Int) := (Int.natCast_mul T m).symm
  generalize T * m = tm at *
  clear hv hX hco hI hin
  go_enter Try.func7, Try.ntmps7
  go_wp2_with fail
  refine HCM.out.mono ?_
  rintro e w1 ⟨rfl, hb1⟩
  have k2 : w1.cell? ⟨w.heap.size, 2, none⟩ = some (.slice vp m vc) := by rw [hb1.cell (p := ⟨w.heap.size, 2, none⟩) (by simp)]; exact d2
  have HB1 := hide (HB0.out.trans (hb1.mono HB0.out.size))
  clear hb1 HB0 HCM d0 d1 d2
  have g3 : ¬ (T : Int) < 1 := by omega
  have g4 : ¬ 400 < (T : Int) := by omega
  go_wp2
  go_loop [8] (fun i => ∃ k : Nat, k ≤ T ∧ i = .int .i64 k) (fun i => T - (intOf i).toNat)
  case atStart => exact ⟨0, by omega, rfl⟩
  case round =>
    obtain ⟨k, hk, rfl⟩ := hrel
    by_cases hlt : k < T
    · obtain ⟨lb, lo, rfl, hlc1, hlc2, hlb, hcC, hlcell⟩ := (HL k hlt).out
      have gx := (HB1.out.cell (p := ⟨lb, lo + k, none⟩) hlb).trans hlcell
      generalize t.getD k 0 = c at *
      have g5 : ¬ (c : Int) < 0 := by omega
      have g6 : ¬ (C : Int) ≤ (c : Int) := by omega
      clear hlcell HL
      go_wp2
      go_round
      case rel => exact ⟨k + 1, by omega, by go_num⟩
      case measure => simp [intOf]; omega
    · have g7 : ¬ 20000 < (tm : Int) := by omega
      go_wp2
      go_ret
      exact ⟨rfl, HB1.out⟩

end Go.Proofs.Ytoiiadiimfohiaa
