/- Joined: Mp, XtA, XtB, XtC, Eql, GChk, Pick, RowAt. -/
import Derived.Test.YtnmjgepobcanfaaJ4
import Derived.Maps.OwnSet
import Derived.Test.YtnmjgepobcanfaaJ0
import Derived.Test.YtnmjgepobcanfaaJ3
import Derived.WalkSmall
import Derived.BigQuiet
import Derived.Deep.Cut
import Derived.Deep.RegionHeld3
import Derived.Test.YtnmjgepobcanfaaJ2
/- Maps keyed by int, whatever their elements: what they hold, as a function. -/
namespace Go.Proofs.Ytnmjgepobcanfaa
open Go.RowKit Go.Maps

/-- An element, held as it is. -/
def heldElem (v : Value) : Option (DataW Value × List MemPlace) := some (.held v, [])

theorem Try.zero3 (w : World) : (zeroValue 3).run Try.prog w = .ok (.int .i64 0) w := by kernel_rfl

theorem Try.zero4 (w : World) : (zeroValue 4).run Try.prog w = .ok (.bool false) w := by kernel_rfl

theorem keyedI : Keyed Try.prog 3 := int_keyed Try.underlying3

/-- Block b is a map of at most n entries, which holds what f says. -/
def IMap (w : World) (b n : Nat) (f : Int → Option Value) : Prop :=
  ∃ D : DataW Value, w.ownsMap Try.prog 3 heldElem b n D ∧ ∀ a : Int, Maps.has D (.int .i64 a) = (f a).isSome ∧ ∀ v, f a = some v → ∀ z, D.atKey (.int .i64 a) z = .held v

theorem IMap.lt {w : World} {b n : Nat} {f : Int → Option Value} (h : IMap w b n f) : b < w.heap.size := by
  obtain ⟨D, h1, _⟩ := h; exact h1.lt

theorem IMap.obj {w : World} {b n : Nat} {f : Int → Option Value} (h : IMap w b n f) : ∃ es clock, w.heap[b]? = some (.map es clock) := by
  obtain ⟨D, ⟨es, c, h1, _⟩, _⟩ := h; exact ⟨es, c, h1⟩

theorem IMap.of_block {w w' : World} {b n : Nat} {f : Int → Option Value} (h : IMap w b n f) (hb : w'.heap[b]? = w.heap[b]?) : IMap w' b n f := by
  obtain ⟨D, ⟨es, c, h1, h2⟩, h3⟩ := h; exact ⟨D, ⟨es, c, hb.trans h1, h2⟩, h3⟩

theorem IMap.alloc {w : World} {b n : Nat} {f : Int → Option Value} (h : IMap w b n f) (o : Obj) : IMap (w.alloc o) b n f := h.of_block (Below.heap_alloc w o b h.lt)

theorem IMap.below {w w' : World} {b n B : Nat} {f : Int → Option Value} (h : IMap w b n f) (hb : Below B w w') (hB : b < B) : IMap w' b n f := h.of_block (hb.block b hB)

theorem IMap.mono {w : World} {b n m : Nat} {f : Int → Option Value} (h : IMap w b n f) (hn : n ≤ m) : IMap w b m f := by
  obtain ⟨D, h1, h2⟩ := h; exact ⟨D, h1.mono hn, h2⟩

theorem IMap.made (w : World) : IMap (w.alloc (.map #[] 0)) w.heap.size 0 (fun _ => none) :=
  ⟨.map [], World.ownsMap_made _ _ _ _, fun a => ⟨rfl, fun v h => by cases h⟩⟩

theorem IMap.congr {w : World} {b n : Nat} {f f' : Int → Option Value} (h : IMap w b n f) (e : ∀ a, f a = f' a) : IMap w b n f' := by
  rw [show f' = f from funext (fun a => (e a).symm)]; exact h

theorem wfI {a : Int} (h1 : -9223372036854775808 ≤ a) (h2 : a ≤ 9223372036854775807) : keyOf Try.prog 3 (.int .i64 a) = some (.int .i64 a) :=
  keyOf_int_mk Try.underlying3 (WalkArith.wf_i64 ⟨h1, h2⟩)

/-- 'v, ok := m[a]'. -/
theorem IMap.look_ok {w : World} {b n : Nat} {f : Int → Option Value} (h : IMap w b n f) {t e : TypeId} (ht : Try.prog.underlying t = some (.map 3 e)) {z : Value} (hz : (zeroValue e).run Try.prog w = .ok z w) {a : Int} (h1 : -9223372036854775808 ≤ a) (h2 : a ≤ 9223372036854775807) :
    (Instr.lookup t (.map (some b)) (.int .i64 a) true).run Try.prog w = .ok (.tuple #[(f a).getD z, .bool (f a).isSome]) w := by
  obtain ⟨D, hD, hf⟩ := h
  obtain ⟨v, ps, hrun, hv⟩ := hD.look_ok keyedI ht hz (zd := .held z) (zp := []) rfl (wfI h1 h2)
  have hv' : DataW.held v = D.atKey (.int .i64 a) (.held z) := (Prod.mk.inj (Option.some.inj hv)).1
  rw [hrun, (hf a).1]
  cases hfa : f a with
  | none =>
    have hh := (hf a).1
    rw [hfa] at hh
    rw [atKey_of_not_has hh] at hv'
    rw [DataW.held.inj hv']; rfl
  | some u =>
    rw [(hf a).2 u hfa] at hv'
    rw [DataW.held.inj hv']; rfl

/-- 'm[a]'. -/
theorem IMap.look {w : World} {b n : Nat} {f : Int → Option Value} (h : IMap w b n f) {t e : TypeId} (ht : Try.prog.underlying t = some (.map 3 e)) {z : Value} (hz : (zeroValue e).run Try.prog w = .ok z w) {a : Int} (h1 : -9223372036854775808 ≤ a) (h2 : a ≤ 9223372036854775807) :
    (Instr.lookup t (.map (some b)) (.int .i64 a) false).run Try.prog w = .ok ((f a).getD z) w := by
  obtain ⟨D, hD, hf⟩ := h
  obtain ⟨v, ps, hrun, hv⟩ := hD.lookup keyedI ht hz (zd := .held z) (zp := []) rfl (wfI h1 h2)
  have hv' : DataW.held v = D.atKey (.int .i64 a) (.held z) := (Prod.mk.inj (Option.some.inj hv)).1
  rw [hrun]
  cases hfa : f a with
  | none =>
    have hh := (hf a).1
    rw [hfa] at hh
    rw [atKey_of_not_has hh] at hv'
    rw [DataW.held.inj hv']; rfl
  | some u =>
    rw [(hf a).2 u hfa] at hv'
    rw [DataW.held.inj hv']; rfl

def upd (f : Int → Option Value) (a : Int) (v : Value) : Int → Option Value := fun x => if x = a then some v else f x

/-- 'm[a] = v'. -/
theorem IMap.put {w : World} {b n : Nat} {f : Int → Option Value} (h : IMap w b n f) {t e : TypeId} (ht : Try.prog.underlying t = some (.map 3 e)) (hn : n < maxLen) {a : Int} (h1 : -9223372036854775808 ≤ a) (h2 : a ≤ 9223372036854775807) (v : Value) :
    ∃ w', (Instr.mapUpdate t (.map (some b)) (.int .i64 a) v).run Try.prog w = .ok () w' ∧ IMap w' b (n + 1) (upd f a v) ∧ w.grownBy w' (some b) := by
  obtain ⟨D, hD, hf⟩ := h
  obtain ⟨w', hrun, hD', hg⟩ := hD.update (val := v) (d := .held v) (ps := []) keyedI ht hn (wfI h1 h2) rfl
  have hkey : WideAt.IsKeyLit (.int .i64 a) := keyedI.key (wfI h1 h2)
  refine ⟨w', hrun, ⟨_, hD', fun x => ?_⟩, hg⟩
  unfold upd
  by_cases e : x = a
  · subst e
    rw [if_pos rfl]
    exact ⟨has_put_same hD.isMap hkey _, fun u hu z => by rw [← Option.some.inj hu]; exact atKey_put_same hD.isMap hkey _ _⟩
  · have hne : (Lit.int .i64 x) ≠ Lit.int .i64 a := fun h => e (Lit.int.inj h).2
    rw [if_neg e]
    exact ⟨by rw [has_put_other hne]; exact (hf x).1, fun u hu z => by rw [atKey_put_other hne]; exact (hf x).2 u hu z⟩

/-! at the operation -/
section
variable {ops : Array Oper} {rest : List Oper} {o : Oper} {a : Act} {w : World} {Q : Exit → Act → World → Prop}

theorem wpList_look_ok (hg : o.guard = none) (m x : Operand) (t : TypeId) (hop : o.op = Op.lookup t m x true) (e : TypeId) (ht : Try.prog.underlying t = some (.map 3 e)) {z : Value} (hz : (zeroValue e).run Try.prog w = .ok z w)
    {b n : Nat} {f : Int → Option Value} (h : IMap w b n f) (k : Int) (hm : a.eval m = .map (some b)) (hx : a.eval x = .int .i64 k) (h1 : -9223372036854775808 ≤ k) (h2 : k ≤ 9223372036854775807)
    (hK : wpList Try.prog ops Q rest (a.put o.dst (.tuple #[(f k).getD z, .bool (f k).isSome])) w) : wpList Try.prog ops Q (o :: rest) a w := by
  refine wpList_plain hg fun K' hK' => ?_
  have hrun := h.look_ok ht hz h1 h2
  unfold Oper.wp
  simp [execOp, hop, hm, hx, hrun, Result.andThen]
  exact hK' _ _ hK

theorem wpList_look (hg : o.guard = none) (m x : Operand) (t : TypeId) (hop : o.op = Op.lookup t m x false) (e : TypeId) (ht : Try.prog.underlying t = some (.map 3 e)) {z : Value} (hz : (zeroValue e).run Try.prog w = .ok z w)
    {b n : Nat} {f : Int → Option Value} (h : IMap w b n f) (k : Int) (hm : a.eval m = .map (some b)) (hx : a.eval x = .int .i64 k) (h1 : -9223372036854775808 ≤ k) (h2 : k ≤ 9223372036854775807)
    (hK : wpList Try.prog ops Q rest (a.put o.dst ((f k).getD z)) w) : wpList Try.prog ops Q (o :: rest) a w := by
  refine wpList_plain hg fun K' hK' => ?_
  have hrun := h.look ht hz h1 h2
  unfold Oper.wp
  simp [execOp, hop, hm, hx, hrun, Result.andThen]
  exact hK' _ _ hK

theorem wpList_put (hg : o.guard = none) (m x v : Operand) (t : TypeId) (hop : o.op = Op.mapUpdate t m x v) (e : TypeId) (ht : Try.prog.underlying t = some (.map 3 e))
    {b n : Nat} {f : Int → Option Value} (h : IMap w b n f) (hn : n < maxLen) (k : Int) (val : Value) (hm : a.eval m = .map (some b)) (hx : a.eval x = .int .i64 k) (hv : a.eval v = val) (h1 : -9223372036854775808 ≤ k) (h2 : k ≤ 9223372036854775807)
    (hK : ∀ w', IMap w' b (n + 1) (upd f k val) → w.grownBy w' (some b) → wpList Try.prog ops Q rest (a.put o.dst undef) w') : wpList Try.prog ops Q (o :: rest) a w := by
  refine wpList_plain hg fun K' hK' => ?_
  obtain ⟨w', hrun, r1, r2⟩ := h.put ht hn h1 h2 val
  unfold Oper.wp
  simp [execOp, hop, hm, hx, hv, hrun, Result.andThen]
  exact hK' _ _ (hK w' r1 r2)
end

end Go.Proofs.Ytnmjgepobcanfaa

/- Plain: ways through all rows, one after another, in the order of lists; how many unlike numbers there are below a bound. -/
namespace Go.Proofs.Ytnmjgepobcanfaa
open Go.RowKit

/-- A way that goes on from a number, which has met these: each number once, and then 0. -/
def Good (nx : Nat → Nat → Nat) (K all : Nat) : List Nat → Nat → List Nat → Prop
  | _, _, [] => False
  | ks, at_, k :: t => k < K ∧ ((t = [] ∧ nx k at_ = 0 ∧ ks.length = all) ∨ (nx k at_ ∉ ks ∧ Good nx K all (nx k at_ :: ks) (nx k at_) t))

/-- The order of lists. -/
def Ltl : List Nat → List Nat → Prop
  | [], [] => False
  | [], _ :: _ => True
  | _ :: _, [] => False
  | a :: x, b :: y => a < b ∨ (a = b ∧ Ltl x y)

theorem nodup_le : ∀ (n : Nat) (l : List Nat), l.Nodup → (∀ x, x ∈ l → x < n) → l.length ≤ n
  | 0, l, _, h => by
    cases l with
    | nil => simp
    | cons x t => exact absurd (h x (by simp)) (by omega)
  | n + 1, l, hn, h => by
    by_cases hm : n ∈ l
    · have h1 := nodup_le n (l.erase n) (hn.erase n) (fun x hx => by
        have hx2 := (List.Nodup.mem_erase_iff hn).1 hx
        have := h x hx2.2
        have := hx2.1
        omega)
      have h2 := List.length_erase_of_mem hm
      have h3 : 0 < l.length := List.length_pos_of_mem hm
      omega
    · have h1 := nodup_le n l hn (fun x hx => by
        have := h x hx
        have : x ≠ n := fun e => hm (e ▸ hx)
        omega)
      omega

/-- The numbers that are tried stand for all: each once, in order. -/
structure Tried (nx : Nat → Nat → Nat) (K : Nat) (tr : List Nat) : Prop where
  low : ∀ k, k ∈ tr → k < K
  sorted : tr.Pairwise (· < ·)
  all : ∀ k, k < K → ∃ k', k' ∈ tr ∧ k' ≤ k ∧ ∀ a, nx k' a = nx k a

theorem Good.same {nx : Nat → Nat → Nat} {K all : Nat} {ks : List Nat} {a k k' : Nat} {t : List Nat} (h : Good nx K all ks a (k :: t)) (hk : k' < K) (e : nx k' a = nx k a) : Good nx K all ks a (k' :: t) := by
  unfold Good at h ⊢
  rw [e]
  exact ⟨hk, h.2⟩

theorem sorted_before {tr : List Nat} (h : tr.Pairwise (· < ·)) {i : Nat} (hi : i < tr.length) {k : Nat} (hk : k ∈ tr) (hlt : k < tr.getD i 0) : ∃ j, j < i ∧ tr.getD j 0 = k := by
  obtain ⟨j, hj, e⟩ := List.getElem_of_mem hk
  have ei : tr.getD i 0 = tr[i] := by simp [List.getD, hi]
  refine ⟨j, ?_, by simp [List.getD, hj, e]⟩
  rcases Nat.lt_trichotomy j i with h1 | h1 | h1
  · exact h1
  · subst h1; omega
  · have := List.pairwise_iff_getElem.1 h i j hi hj h1
    omega

/-- What is found first is the least. -/
theorem least_found {nx : Nat → Nat → Nat} {K all : Nat} {tr ks : List Nat} {a i : Nat} {q : List Nat} (hT : Tried nx K tr) (hi : i < tr.length) (hno : ∀ j, j < i → ∀ t, ¬ Good nx K all ks a (tr.getD j 0 :: t))
    (hq : ∀ t, Good nx K all ks a (tr.getD i 0 :: t) → ¬ Ltl t q) : ∀ t, Good nx K all ks a t → ¬ Ltl t (tr.getD i 0 :: q) := by
  intro t ht hl
  cases t with
  | nil => exact ht
  | cons k t =>
    have hk : k < K := by unfold Good at ht; exact ht.1
    rcases (show k < tr.getD i 0 ∨ (k = tr.getD i 0 ∧ Ltl t q) from hl) with h | ⟨rfl, h⟩
    · obtain ⟨k', hm, hle, he⟩ := hT.all k hk
      obtain ⟨j, hj, e⟩ := sorted_before hT.sorted hi hm (by omega)
      refine hno j hj t ?_
      rw [e]
      exact ht.same (hT.low k' hm) (he a)
    · exact hq t ht h

theorem none_found {nx : Nat → Nat → Nat} {K all : Nat} {tr ks : List Nat} {a : Nat} (hT : Tried nx K tr) (hno : ∀ j, j < tr.length → ∀ t, ¬ Good nx K all ks a (tr.getD j 0 :: t)) : ∀ t, ¬ Good nx K all ks a t := by
  intro t ht
  cases t with
  | nil => exact ht
  | cons k t =>
    have hk : k < K := by unfold Good at ht; exact ht.1
    obtain ⟨k', hm, hle, he⟩ := hT.all k hk
    obtain ⟨j, hj, e⟩ := List.getElem_of_mem hm
    refine hno j hj t ?_
    rw [show tr.getD j 0 = k' from by simp [List.getD, hj, e]]
    exact ht.same (hT.low k' hm) (he a)

/-- A step that is barred. -/
theorem good_barred {nx : Nat → Nat → Nat} {K all : Nat} {ks : List Nat} {a k : Nat} (h1 : nx k a ∈ ks) (h2 : ¬ (nx k a = 0 ∧ ks.length = all)) : ∀ t, ¬ Good nx K all ks a (k :: t) := by
  intro t ht
  unfold Good at ht
  rcases ht.2 with ⟨_, h3, h4⟩ | ⟨h3, _⟩
  · exact h2 ⟨h3, h4⟩
  · exact h3 h1

/-- Home. -/
theorem good_home {nx : Nat → Nat → Nat} {K all : Nat} {ks : List Nat} {a k : Nat} (hk : k < K) (h1 : nx k a = 0) (h2 : ks.length = all) : Good nx K all ks a [k] ∧ ∀ t, Good nx K all ks a (k :: t) → ¬ Ltl t [] := by
  refine ⟨⟨hk, Or.inl ⟨rfl, h1, h2⟩⟩, fun t _ hl => ?_⟩
  cases t with
  | nil => exact hl
  | cons _ _ => exact hl

theorem good_on {nx : Nat → Nat → Nat} {K all : Nat} {ks : List Nat} {a k : Nat} (h2 : ¬ (nx k a = 0 ∧ ks.length = all)) (t : List Nat) : Good nx K all ks a (k :: t) → Good nx K all (nx k a :: ks) (nx k a) t := by
  intro ht
  unfold Good at ht
  rcases ht.2 with ⟨_, h3, h4⟩ | ⟨_, h3⟩
  · exact absurd ⟨h3, h4⟩ h2
  · exact h3

end Go.Proofs.Ytnmjgepobcanfaa

/- Maps that are sets of numbers: look, len, put, take out; what lies under a walk. -/
namespace Go.Proofs.Ytnmjgepobcanfaa
open Go.RowKit Go.Maps Go.ChangeMaps
open Go.WideElems (rg)

/-- Block b is a map[int]int whose keys are these numbers, each once. -/
def ISet (w : World) (b : Nat) (ks : List Nat) : Prop :=
  ks.Nodup ∧ ∃ D : DataW Value, w.ownsMap Try.prog 3 heldElem b ks.length D ∧ Maps.size D = ks.length ∧ ∀ a : Nat, Maps.has D (.int .i64 (a : Int)) = decide (a ∈ ks)

theorem ISet.lt {w : World} {b : Nat} {ks : List Nat} (h : ISet w b ks) : b < w.heap.size := by
  obtain ⟨_, D, h1, _⟩ := h; exact h1.lt

theorem ISet.of_block {w w' : World} {b : Nat} {ks : List Nat} (h : ISet w b ks) (hb : w'.heap[b]? = w.heap[b]?) : ISet w' b ks := by
  obtain ⟨hn, D, ⟨es, c, h1, h2⟩, h3⟩ := h; exact ⟨hn, D, ⟨es, c, hb.trans h1, h2⟩, h3⟩

theorem ISet.look {w : World} {b : Nat} {ks : List Nat} (h : ISet w b ks) (a : Nat) (ha : (a : Int) ≤ 9223372036854775807) :
    ∃ v, (Instr.lookup 37 (.map (some b)) (.int .i64 (a : Int)) true).run Try.prog w = .ok (.tuple #[v, .bool (decide (a ∈ ks))]) w := by
  obtain ⟨_, D, hD, hs, hf⟩ := h
  obtain ⟨v, ps, hrun, hv⟩ := hD.look_ok keyedI Try.underlying37 (Try.zero3 w) (zd := .held (.int .i64 0)) (zp := []) rfl (wfI (a := (a : Int)) (by omega) ha)
  exact ⟨v, by rw [hrun, hf a]⟩

theorem ISet.len {w : World} {b : Nat} {ks : List Nat} (h : ISet w b ks) (ty : TypeId) : (Builtin.len_ #[37] ty #[.map (some b)]).run Try.prog w = .ok (.int .i64 (ks.length : Int)) w := by
  obtain ⟨_, D, hD, hs, hf⟩ := h
  rw [hD.len Try.underlying37, hs]

theorem int_lit_ne {x a : Nat} (e : x ≠ a) : (Lit.int .i64 (x : Int)) ≠ Lit.int .i64 (a : Int) := fun h => e (by have := (Lit.int.inj h).2; omega)

theorem ISet.put {w : World} {b : Nat} {ks : List Nat} (h : ISet w b ks) (a : Nat) (ha : (a : Int) ≤ 9223372036854775807) (hn : a ∉ ks) (hl : ks.length < maxLen) (v : Value) :
    ∃ w', (Instr.mapUpdate 37 (.map (some b)) (.int .i64 (a : Int)) v).run Try.prog w = .ok () w' ∧ ISet w' b (a :: ks) ∧ w.mapTurned w' b := by
  obtain ⟨hnd, D, hD, hs, hf⟩ := h
  have hkey := wfI (a := (a : Int)) (by omega) ha
  obtain ⟨w', hrun, hD', hg⟩ := hD.store (val := v) (d := .held v) (ps := []) keyedI Try.underlying37 hl hkey rfl
  have hk : WideAt.IsKeyLit (.int .i64 (a : Int)) := keyedI.key hkey
  refine ⟨w', hrun, ⟨List.nodup_cons.2 ⟨hn, hnd⟩, _, hD', ?_, fun x => ?_⟩, hg⟩
  · rw [Maps.size_put (hD.tidy keyedI), hf a, if_neg (by simpa using hn), hs]; rfl
  · by_cases e : x = a
    · subst e
      rw [has_put_same hD.isMap hk]
      simp
    · rw [has_put_other (int_lit_ne e), hf x]
      simp [e]

theorem ISet.drop {w : World} {b a : Nat} {ks : List Nat} (h : ISet w b (a :: ks)) (ha : (a : Int) ≤ 9223372036854775807) (ty : TypeId) :
    ∃ w', (Builtin.delete_ #[37, 3] ty #[.map (some b), .int .i64 (a : Int)]).run Try.prog w = .ok (.tuple #[]) w' ∧ ISet w' b ks ∧ w.mapTurned w' b := by
  obtain ⟨hnd, D, hD, hs, hf⟩ := h
  have hkey := wfI (a := (a : Int)) (by omega) ha
  obtain ⟨w', hrun, hD', hg⟩ := hD.drop keyedI Try.underlying37 hkey ty
  have hk : WideAt.IsKeyLit (.int .i64 (a : Int)) := keyedI.key hkey
  have hna := (List.nodup_cons.1 hnd).1
  have hsz : Maps.size (D.del (.int .i64 (a : Int))) = ks.length := by
    have := Maps.size_del (k := (.int .i64 (a : Int))) (hD.tidy keyedI)
    rw [hf a, if_pos (by simp), hs] at this
    simp at this
    exact this
  refine ⟨w', hrun, ⟨(List.nodup_cons.1 hnd).2, _, ?_, hsz, fun x => ?_⟩, hg⟩
  · obtain ⟨es, c, r1, r2, r3, r4⟩ := hD'
    refine ⟨es, c, r1, r2, ?_, r4⟩
    have e1 : Maps.size (DataW.map ((es.toList.map (rg Try.prog 3 heldElem)).foldr DataW.insert [])) = es.size := by simp [Maps.size, length_sorted]
    rw [← r4, hsz] at e1
    omega
  · by_cases e : x = a
    · subst e
      rw [has_del_same]
      simp [hna]
    · rw [has_del_other (int_lit_ne e), hf x]
      simp [e]

/-! at the operation -/
section
variable {ops : Array Oper} {rest : List Oper} {o : Oper} {a : Act} {w : World} {Q : Exit → Act → World → Prop}

theorem wpList_drop (hg : o.guard = none) (m x : Operand) (hop : o.op = Op.call { callee := Callee.builtin Builtin.delete, args := #[m, x], argTypes := #[37, 3] })
    {b k : Nat} {ks : List Nat} (h : ISet w b (k :: ks)) (hm : a.eval m = .map (some b)) (hx : a.eval x = .int .i64 (k : Int)) (hk : (k : Int) ≤ 9223372036854775807)
    (hK : ∀ w', ISet w' b ks → w.mapTurned w' b → wpList Try.prog ops Q rest (a.put o.dst (.tuple #[])) w') : wpList Try.prog ops Q (o :: rest) a w := by
  refine wpList_plain hg fun K' hK' => ?_
  obtain ⟨w', hrun, r1, r2⟩ := h.drop hk o.type
  unfold Oper.wp
  simp [execOp, hop, resolve, invoke, builtin, hm, hx, hrun, Result.andThen]
  exact hK' _ _ (hK w' r1 r2)
end

/-- Below block number B all is as it was, but for two blocks. -/
structure Frm (B sb mb : Nat) (w w' : World) : Prop where
  os : w'.os = w.os
  tape : w'.tape = w.tape
  output : w'.output = w.output
  size : w.heap.size ≤ w'.heap.size
  block : ∀ b, b < B → b ≠ sb → b ≠ mb → w'.heap[b]? = w.heap[b]?

theorem Frm.refl (B sb mb : Nat) (w : World) : Frm B sb mb w w := ⟨rfl, rfl, rfl, Nat.le_refl _, fun _ _ _ _ => rfl⟩

theorem Frm.trans {B sb mb : Nat} {a b c : World} (h : Frm B sb mb a b) (k : Frm B sb mb b c) : Frm B sb mb a c :=
  ⟨k.os.trans h.os, k.tape.trans h.tape, k.output.trans h.output, Nat.le_trans h.size k.size, fun x h1 h2 h3 => (k.block x h1 h2 h3).trans (h.block x h1 h2 h3)⟩

theorem Frm.of_below {B sb mb X : Nat} {w w' : World} (h : Below X w w') (hX : B ≤ X) : Frm B sb mb w w' := ⟨h.os, h.tape, h.output, h.size, fun x h1 _ _ => h.block x (by omega)⟩

theorem Frm.below {B sb mb X : Nat} {w w' : World} (h : Frm B sb mb w w') (hX : X ≤ B) (h1 : X ≤ sb) (h2 : X ≤ mb) : Below X w w' := ⟨h.os, h.tape, h.output, h.size, fun x hx => h.block x (by omega) (by omega) (by omega)⟩

theorem Frm.set {B sb mb : Nat} {w w' : World} (h : Frm B sb mb w w') (j : Nat) (u : Value) : Frm B sb mb w (w'.setCell ⟨sb, j, none⟩ u) :=
  h.trans ⟨rfl, rfl, rfl, by simp [World.setCell], fun x _ h2 _ => Below.heap_setCell _ _ _ _ h2⟩

theorem Frm.turned {B sb mb : Nat} {w w' w'' : World} (h : Frm B sb mb w w') (ht : w'.mapTurned w'' mb) : Frm B sb mb w w'' := by
  obtain ⟨es, c, es', c', h1, rfl⟩ := ht
  refine h.trans ⟨rfl, rfl, rfl, by simp [setBlock], fun x _ _ h3 => ?_⟩
  simp [setBlock, Ne.symm h3]

theorem turned_block {w w' : World} {mb x : Nat} (ht : w.mapTurned w' mb) (hx : x ≠ mb) : w'.heap[x]? = w.heap[x]? := by
  obtain ⟨es, c, es', c', h1, rfl⟩ := ht
  simp [setBlock, Ne.symm hx]

theorem turned_size {w w' : World} {mb : Nat} (ht : w.mapTurned w' mb) : w'.heap.size = w.heap.size := by
  obtain ⟨es, c, es', c', h1, rfl⟩ := ht
  simp [setBlock]

theorem owns_block {w w' : World} {base e n : Nat} {v : Value} {xs : List Value} (h : w.ownsRow base e 1 v n xs) (hb : ∀ g, v.ownBlock = some g → w'.heap[g]? = w.heap[g]?) : w'.ownsRow base e 1 v n xs := by
  obtain ⟨h1, h2⟩ := h
  refine ⟨h1, ?_⟩
  rcases h2 with h2 | ⟨g, cap, cur, hv, hg, hh, r⟩
  · exact Or.inl h2
  · exact Or.inr ⟨g, cap, cur, hv, hg, (hb g (by rw [hv]; rfl)).trans hh, r⟩

/-- A walk in memory: where it leads, what is tried, the rows so far, the way. -/
structure Wk (w : World) (B sb mb : Nat) (tv rv wv : Value) (ks : List Nat) (P : List Int) : Prop where
  blk : w.heap[sb]? = some (.cells #[tv, rv, .map (some mb), wv] 39)
  set : ISet w mb ks
  way : w.ownsRow B 3 1 wv P.length (P.map (Value.int .i64))

theorem cells4 {w1 : World} {B : Nat} {a b c d : Value} {t : TypeId} (h : w1.heap[B]? = some (.cells #[a, b, c, d] t)) :
    w1.cell? ⟨B, 0, none⟩ = some a ∧ w1.cell? ⟨B, 1, none⟩ = some b ∧ w1.cell? ⟨B, 2, none⟩ = some c ∧ w1.cell? ⟨B, 3, none⟩ = some d ∧ w1.frozen? ⟨B, 0, none⟩ = false ∧ w1.frozen? ⟨B, 3, none⟩ = false := by
  simp [World.cell?, World.frozen?, h]

theorem set4 {w1 : World} {B : Nat} {a b c d : Value} {t : TypeId} (h : w1.heap[B]? = some (.cells #[a, b, c, d] t)) (u : Value) : (w1.setCell ⟨B, 3, none⟩ u).heap[B]? = some (.cells #[a, b, c, u] t) := by
  simp [World.setCell, Array.getElem?_modify, h]

end Go.Proofs.Ytnmjgepobcanfaa

/- Contract: extent.walk's from, by what it has met. -/
namespace Go.Proofs.Ytnmjgepobcanfaa
open Go.RowKit

def nI (l : List Nat) : List Int := l.map (fun (k : Nat) => (k : Int))

def FromPost (nx : Nat → Nat → Nat) (K all B sb mb : Nat) (tv rv : Value) (ks : List Nat) (at_ : Nat) (P : List Int) (w : World) (e : Ending) (w' : World) : Prop :=
  Frm B sb mb w w' ∧ ((∃ (q : List Nat) (wv : Value), e = .returned (.bool true) ∧ Good nx K all ks at_ q ∧ (∀ t, Good nx K all ks at_ t → ¬ Ltl t q) ∧
      w'.heap[sb]? = some (.cells #[tv, rv, .map (some mb), wv] 39) ∧ w'.ownsRow B 3 1 wv (P.length + q.length) ((P ++ nI q).map (Value.int .i64))) ∨
    (∃ wv, e = .returned (.bool false) ∧ (∀ t, ¬ Good nx K all ks at_ t) ∧ Wk w' B sb mb tv rv wv ks P))

structure Und (nx : Nat → Nat → Nat) (K all B sb mb : Nat) (tv rv : Value) (T : List (List Int)) (tr : List Nat) (w0 : World) : Prop where
  hsb : sb < B
  hmb : mb < B
  hne : sb ≠ mb
  tried : Tried nx K tr
  hall : all ≤ 1000
  len : T.length = K
  big : K ≤ 1000
  to : ∀ k a, k < K → a < all → a < (T.getD k []).length ∧ (T.getD k []).getD a 0 = ((nx k a : Nat) : Int) ∧ nx k a < all
  mem : ∀ W, Frm B sb mb w0 W → IntsAll W tv T ∧ Ints W rv (nI tr)

theorem nI_len (l : List Nat) : (nI l).length = l.length := by simp [nI]

theorem nI_get (l : List Nat) {i : Nat} (h : i < l.length) : (nI l).getD i 0 = ((l.getD i 0 : Nat) : Int) := by simp [nI, List.getD, h]

set_option maxRecDepth 20000 in
set_option maxHeartbeats 4000000 in
theorem from_ok {nx : Nat → Nat → Nat} {K all B sb mb : Nat} {tv rv : Value} {T : List (List Int)} {tr : List Nat} {w0 : World} (hU : Und nx K all B sb mb tv rv T tr w0) :
    ∀ (m : Nat) (ks : List Nat) (at_ : Nat) (P : List Int) (wv : Value) (w : World), ks.length + m = all → (∀ x, x ∈ ks → x < all) → 0 ∈ ks → at_ < all → P.length + 1 = ks.length → Frm B sb mb w0 w → B ≤ w.heap.size → Wk w B sb mb tv rv wv ks P →
      Calls Try.prog 14 #[.pointer (some ⟨sb, 0, none⟩), .int .i64 at_, .int .i64 all] w (FromPost nx K all B sb mb tv rv ks at_ P w) := by
  intro m
  induction m using Nat.strongRecOn with
  | ind m ih =>
    intro ks at_ P wv w hm hks h0 hat hP hF hB hW
    obtain ⟨i0, hi, hz0, hz1, hz2⟩ := info_parts Try.info3
    have hne := hU.hne
    have hsb := hU.hsb
    have hmb := hU.hmb
    have hall := hU.hall
    have hKb := hU.big
    have HM := hide hU.mem
    obtain ⟨p1, c1, hrv⟩ := (HM.out w hF).2.form
    rw [nI_len] at hrv
    subst hrv
    obtain ⟨p2, c2, htv⟩ := (HM.out w hF).1.len
    rw [hU.len] at htv
    subst htv
    have HTO := hide hU.to
    have HTR := hide hU.tried
    have HIH := hide ih
    have HLEN := hide hU.len
    obtain ⟨z0, z1, z2, z3, f0, f3⟩ := cells4 hW.blk
    have HF := hide hF
    have HW := hide hW
    have HKS := hide hks
    have HP := hide hP
    have HMM := hide hm
    have HH0 := hide h0
    clear hU ih hF hW hks h0 hP hm f0 f3 z0 z2 z3
    go_enter Try.func14, Try.ntmps14
    go_wp2
    go_loopw [18] (fun i wr => ∃ (j : Nat) (wv : Value), j ≤ tr.length ∧ i = .int .i64 j ∧ Hid (Frm B sb mb w wr) ∧ Hid (Wk wr B sb mb (.slice p2 K c2) (.slice p1 tr.length c1) wv ks P) ∧ Hid (∀ j', j' < j → ∀ t, ¬ Good nx K all ks at_ (tr.getD j' 0 :: t))) (fun i _ => tr.length - (intOf i).toNat)
    case atStart => exact ⟨0, wv, by omega, rfl, Frm.refl _ _ _ _, HW, (fun j' h => absurd h (by omega))⟩
    case round =>
      clear z1 HW
      obtain ⟨j, wv, hj, rfl, hFr, hWr, hNo⟩ := hrel
      by_cases hlt : j < tr.length
      · have hkm : tr.getD j 0 ∈ tr := by rw [show tr.getD j 0 = tr[j] from by simp [List.getD, hlt]]; exact List.getElem_mem hlt
        have hkK := HTR.out.low _ hkm
        obtain ⟨hal, hnx, hnl⟩ := HTO.out (tr.getD j 0) at_ hkK hat
        obtain ⟨hTV, hRV⟩ := HM.out wr (HF.out.trans hFr.out)
        rcases hRV with ⟨hr0, _⟩ | ⟨rb, ro, rc, hre, hr1, hr2, hr3, hr4, hrcell⟩
        · have h9 : tr.length = 0 := by rw [← nI_len tr, hr0]; rfl
          omega
        rw [nI_len] at hre hr1 hr2 hrcell
        simp only [Value.slice.injEq] at hre
        obtain ⟨rfl, _, rfl⟩ := hre
        have hrc := hrcell j hlt
        rw [nI_get _ hlt] at hrc
        obtain ⟨tb, toff, tc, hte, ht1, ht2, ht3, htcell⟩ := hTV.cell (by rw [HLEN.out]; omega)
        rw [HLEN.out] at hte ht2 htcell
        simp only [Value.slice.injEq] at hte
        obtain ⟨rfl, _, rfl⟩ := hte
        obtain ⟨lp, lc, htc, hti⟩ := htcell (tr.getD j 0) hkK
        rcases hti.out with ⟨hl0, _⟩ | ⟨lb, lo, lcc, hle, hl1, hl2, hl3, hl4, hlcell⟩
        · rw [hl0] at hal; simp at hal
        simp only [Value.slice.injEq] at hle
        obtain ⟨rfl, _, rfl⟩ := hle
        have hlc := hlcell at_ hal
        rw [hnx] at hlc
        obtain ⟨z0, z1, z2, z3, f0, f3⟩ := cells4 hWr.out.blk
        obtain ⟨lv, hlk⟩ := hWr.out.set.look (nx (tr.getD j 0) at_) (by omega)
        have hlen := hWr.out.set.len
        have hksl : ks.length ≤ all := by have := HMM.out; omega
        clear hrcell htcell hlcell hti hTV hr1 hl1 hnx
        generalize hkk : tr.getD j 0 = k at *
        generalize hnn : nx k at_ = nxt at *
        generalize (T.getD k []).length = tl at *
        have HKK := hide hkk
        have HNN := hide hnn
        clear hkk hnn
        have HHm := HH0.out
        by_cases hz : nxt = 0
        · have hin : nxt ∈ ks := by rw [hz]; exact HHm
          rw [decide_eq_true hin] at hlk
          by_cases hl : ks.length = all
          · have hway := hWr.out.way
            obtain ⟨up, uc, rfl⟩ := owns_slice hway
            have hBs : B ≤ wr.heap.size := Nat.le_trans hB hFr.out.size
            have hPl : P.length ≤ 1000 := by have := HP.out; omega
            have HNOL := hide hNo.out
            have hsbne : ∀ g, B ≤ g → g ≠ sb := fun g hg => by omega
            have HG := hide (good_home (nx := nx) (K := K) (all := all) (ks := ks) (a := at_) (k := k) hkK (by rw [HNN.out]; exact hz) hl)
            have HLF : Hid (∀ t, Good nx K all ks at_ t → ¬ Ltl t [k]) := by
              have := least_found (q := []) HTR.out hlt hNo.out (by rw [HKK.out]; exact HG.out.2)
              rw [HKK.out] at this
              exact this
            have e1 : (((nxt : Nat) : Int) == 0) = true := by rw [hz]; rfl
            have e2 : (((ks.length : Nat) : Int) == ((all : Nat) : Int)) = true := by rw [hl]; simp
            clear HNN HKK hz hin hl HHm hNo
            go_wp2_with (at_builtin; refine wpList_append_own _ rfl _ _ 23 rfl B 3 i0 (.int .i64 0) 1 8 Try.underlying23 hi hz0 hz1 hz2 rfl (by decide) _ _ _ rfl (hway.alloc _) ⟨wr.heap.size, 0, none⟩ 1 1 [.int .i64 (k : Int)] rfl rfl ?c1 ?c2 ?c3 ?c4 ?c5 ?_)
            case c1 => exact cell_one_new _ _ _
            case c2 => intro u hu; simp at hu; subst hu; rfl
            case c3 => unfold maxLen; omega
            case c4 => omega
            case c5 => simp; omega
            intro v' w4 hown4 hgrow _
            obtain ⟨vp, vc, rfl⟩ := owns_slice hown4
            have hb4 : Below B wr w4 := ((Below.refl _ _).alloc hBs _).grown hgrow (by simp; omega) (fun g hg => (hway.lt g hg).1)
            have hk4 := (hb4.block sb hsb).trans hWr.out.blk
            obtain ⟨y0, y1, y2, y3, q0, q3⟩ := cells4 hk4
            have hs5 := set4 hk4 (.slice vp (P.length + 1) vc)
            have hF5 : Frm B sb mb w (w4.setCell ⟨sb, 3, none⟩ (.slice vp (P.length + 1) vc)) := (hFr.out.trans (Frm.of_below hb4 (Nat.le_refl _))).set 3 _
            have ho5 : (w4.setCell ⟨sb, 3, none⟩ (.slice vp (P.length + 1) vc)).ownsRow B 3 1 (.slice vp (P.length + 1) vc) (P.length + 1) ((P ++ [(k : Int)]).map (Value.int .i64)) := by
              rw [List.map_append]
              exact owns_block hown4 (fun g hg => Below.heap_setCell _ _ _ _ (hsbne g (hown4.lt g hg).1))
            have HS5 := hide hs5
            have HF5 := hide hF5
            have HO5 := hide ho5
            clear hs5 hF5 ho5 hown4 hgrow hk4 hway
            go_wp2
            go_ret
            exact ⟨HF5.out, Or.inl ⟨[k], _, rfl, HG.out.1, HLF.out, HS5.out, HO5.out⟩⟩
          · have HNO : Hid (∀ j', j' < j + 1 → ∀ t, ¬ Good nx K all ks at_ (tr.getD j' 0 :: t)) := by
              intro j' hj' t ht
              rcases Nat.lt_succ_iff_lt_or_eq.1 hj' with h | h
              · exact hNo.out j' h t ht
              · rw [h, HKK.out] at ht
                exact good_barred (by rw [HNN.out]; exact hin) (fun hh => hl hh.2) t ht
            have e1 : (((nxt : Nat) : Int) == 0) = true := by rw [hz]; rfl
            have e2 : (((ks.length : Nat) : Int) == ((all : Nat) : Int)) = false := by rw [beq_eq_false_iff_ne]; omega
            clear HNN HKK hz hin hl HHm
            go_wp2
            go_roundw
            case rel => exact ⟨j + 1, wv, by omega, by go_num, hFr, hWr, HNO⟩
            case measure => simp [intOf]; omega
        · have e1 : (((nxt : Nat) : Int) == 0) = false := by rw [beq_eq_false_iff_ne]; omega
          by_cases hin : nxt ∈ ks
          · have HNO : Hid (∀ j', j' < j + 1 → ∀ t, ¬ Good nx K all ks at_ (tr.getD j' 0 :: t)) := by
              intro j' hj' t ht
              rcases Nat.lt_succ_iff_lt_or_eq.1 hj' with h | h
              · exact hNo.out j' h t ht
              · rw [h, HKK.out] at ht
                exact good_barred (by rw [HNN.out]; exact hin) (fun hh => hz (HNN.out.symm.trans hh.1)) t ht
            rw [decide_eq_true hin] at hlk
            clear HNN HKK hz hin HHm
            go_wp2
            go_roundw
            case rel => exact ⟨j + 1, wv, by omega, by go_num, hFr, hWr, HNO⟩
            case measure => simp [intOf]; omega
          · have hway := hWr.out.way
            obtain ⟨up, uc, rfl⟩ := owns_slice hway
            have hBs : B ≤ wr.heap.size := Nat.le_trans hB hFr.out.size
            have hPl : P.length ≤ 1000 := by have := HP.out; omega
            have HNOL := hide hNo.out
            have hsbne : ∀ g, B ≤ g → g ≠ sb := fun g hg => by omega
            rw [decide_eq_false hin] at hlk
            clear hNo HHm
            go_wp2_with (at_builtin; refine wpList_append_own _ rfl _ _ 23 rfl B 3 i0 (.int .i64 0) 1 8 Try.underlying23 hi hz0 hz1 hz2 rfl (by decide) _ _ _ rfl (hway.alloc _) ⟨wr.heap.size, 0, none⟩ 1 1 [.int .i64 (k : Int)] rfl rfl ?c1 ?c2 ?c3 ?c4 ?c5 ?_)
            case c1 => exact cell_one_new _ _ _
            case c2 => intro u hu; simp at hu; subst hu; rfl
            case c3 => unfold maxLen; omega
            case c4 => omega
            case c5 => simp; omega
            intro v' w4 hown4 hgrow _
            obtain ⟨vp, vc, rfl⟩ := owns_slice hown4
            have hb4 : Below B wr w4 := ((Below.refl _ _).alloc hBs _).grown hgrow (by simp; omega) (fun g hg => (hway.lt g hg).1)
            have hk4 := (hb4.block sb hsb).trans hWr.out.blk
            obtain ⟨y0, y1, y2, y3, q0, q3⟩ := cells4 hk4
            have hs5 := set4 hk4 (.slice vp (P.length + 1) vc)
            have hF5 : Frm B sb mb w (w4.setCell ⟨sb, 3, none⟩ (.slice vp (P.length + 1) vc)) := (hFr.out.trans (Frm.of_below hb4 (Nat.le_refl _))).set 3 _
            have ho5 : (w4.setCell ⟨sb, 3, none⟩ (.slice vp (P.length + 1) vc)).ownsRow B 3 1 (.slice vp (P.length + 1) vc) (P.length + 1) ((P ++ [(k : Int)]).map (Value.int .i64)) := by
              rw [List.map_append]
              exact owns_block hown4 (fun g hg => Below.heap_setCell _ _ _ _ (hsbne g (hown4.lt g hg).1))
            have HS5 := hide hs5
            have HF5 := hide hF5
            have HO5 := hide ho5
            have hm5 : (w4.setCell ⟨sb, 3, none⟩ (.slice vp (P.length + 1) vc)).heap[mb]? = wr.heap[mb]? := (Below.heap_setCell _ _ _ _ (Ne.symm hne)).trans (hb4.block mb hmb)
            have HI5 := hide (hWr.out.set.of_block hm5)
            clear hs5 hF5 ho5 hown4 hgrow hk4 hway hm5
            go_upto_region 11 with fail
            generalize w4.setCell ⟨sb, 3, none⟩ (.slice vp (P.length + 1) vc) = w5 at *
            have hpl : ks.length + 1 ≤ all := nodup_le all (nxt :: ks) (List.nodup_cons.2 ⟨hin, HI5.out.1⟩) (fun x hx => by
              rcases List.mem_cons.1 hx with h | h
              · omega
              · exact HKS.out x h)
            obtain ⟨w6, hput, hset6, hturn6⟩ := (HI5.out.of_block (w' := w5.drew) rfl).put nxt (by omega) hin (by unfold maxLen; omega) (.int .i64 (ks.length : Int))
            have hlen5 := (HI5.out.of_block (w' := w5.drew) rfl).len
            obtain ⟨x0, x1, x2, x3, g0, g3⟩ := cells4 (show w5.drew.heap[sb]? = _ from HS5.out)
            have HT6 := hide hturn6
            have HSet6 := hide hset6
            clear z0 z1 z2 z3 f0 f3 y0 y1 y2 y3 q0 q3 hlk hlen hrc htc hlc hturn6 hset6
            go_region
            have hs6 := (turned_block HT6.out hne).trans (show w5.drew.heap[sb]? = _ from HS5.out)
            have hF6 : Frm B sb mb w w6 := (HF5.out.trans (Frm.of_below ((Below.refl B w5).drew) (Nat.le_refl _))).turned HT6.out
            have ho6 : w6.ownsRow B 3 1 (.slice vp (P.length + 1) vc) (P.length + 1) ((P ++ [(k : Int)]).map (Value.int .i64)) := owns_block (w := w5.drew) HO5.out (fun g hg => turned_block HT6.out (by have := (HO5.out.lt g hg).1; omega))
            have hPl2 : (P ++ [(k : Int)]).length = P.length + 1 := by simp
            have hW6 : Wk w6 B sb mb (.slice (some ⟨tb, toff, none⟩) K c2) (.slice (some ⟨rb, ro, none⟩) tr.length c1) (.slice vp (P.length + 1) vc) (nxt :: ks) (P ++ [(k : Int)]) := ⟨hs6, HSet6.out, by rw [hPl2]; exact ho6⟩
            have HCALL := hide (HIH.out (m - 1) (by have := HMM.out; omega) (nxt :: ks) nxt (P ++ [(k : Int)]) _ w6 (by rw [List.length_cons]; have := HMM.out; omega) (fun x hx => by
              rcases List.mem_cons.1 hx with h | h
              · omega
              · exact HKS.out x h) (List.mem_cons_of_mem _ HH0.out) hnl (by rw [hPl2, List.length_cons, HP.out]) (HF.out.trans hF6) (Nat.le_trans hB hF6.size) hW6)
            have HF6 := hide hF6
            have HPl2 := hide hPl2
            clear hs6 hF6 ho6 hPl2 hW6 HS5 HO5 HI5 HF5 HT6 HSet6 hput hlen5 x0 x1 x2 x3 g0 g3
            go_wp2_with fail
            refine HCALL.out.mono ?_
            rintro e w7 ⟨hF7, (⟨q, wv7, rfl, hg7, hmin7, hs7, ho7⟩ | ⟨wv7, rfl, hno7, hW7⟩)⟩
            · have HG : Hid (Good nx K all ks at_ (k :: q)) := by
                refine ⟨hkK, Or.inr ⟨by rw [HNN.out]; exact hin, ?_⟩⟩
                rw [HNN.out]; exact hg7
              have HLF : Hid (∀ t, Good nx K all ks at_ t → ¬ Ltl t (k :: q)) := by
                have := least_found (q := q) HTR.out hlt HNOL.out (by
                  rw [HKK.out]
                  intro t ht
                  have h9 := good_on (by rw [HNN.out]; exact fun hh => hz hh.1) t ht
                  rw [HNN.out] at h9
                  exact hmin7 t h9)
                rw [HKK.out] at this
                exact this
              have HF9 := hide (HF6.out.trans hF7)
              have HS7 := hide hs7
              have HO7 : Hid (w7.ownsRow B 3 1 wv7 (P.length + (k :: q).length) ((P ++ nI (k :: q)).map (Value.int .i64))) := by
                show World.ownsRow _ _ _ _ _ _ _
                rw [HPl2.out] at ho7
                rw [show P.length + (k :: q).length = P.length + 1 + q.length from by rw [List.length_cons]; omega, show P ++ nI (k :: q) = P ++ [(k : Int)] ++ nI q from by simp [nI]]
                exact ho7
              clear hF7 hg7 hmin7 hs7 ho7 HCALL
              go_wp2
              go_ret
              exact ⟨HF9.out, Or.inl ⟨k :: q, _, rfl, HG.out, HLF.out, HS7.out, HO7.out⟩⟩
            · have HNO : Hid (∀ j', j' < j + 1 → ∀ t, ¬ Good nx K all ks at_ (tr.getD j' 0 :: t)) := by
                intro j' hj' t ht
                rcases Nat.lt_succ_iff_lt_or_eq.1 hj' with h | h
                · exact HNOL.out j' h t ht
                · rw [h, HKK.out] at ht
                  have h9 := good_on (by rw [HNN.out]; exact fun hh => hz hh.1) t ht
                  rw [HNN.out] at h9
                  exact hno7 t h9
              have hway7 := hW7.way
              rw [HPl2.out, List.map_append] at hway7
              obtain ⟨g7, cp7, rfl, hg71, hg72, hcp1, hcp2⟩ := owns_form hway7 (by omega)
              obtain ⟨a0, a1, a2, a3, b0, b3⟩ := cells4 hW7.blk
              have HF9 := hide (HF6.out.trans hF7)
              have HW7 := hide hW7
              have HSet7 := hide hW7.set
              have HWay7 := hide (ownsRow_pop (xs := P.map (Value.int .i64)) (n := P.length) (by simp) hway7)
              clear hF7 hno7 hW7 hway7 HCALL
              go_wp2_with (at_delete; refine wpList_drop rfl _ _ rfl HSet7.out rfl rfl (by omega) ?_)
              intro w8 hset8 hturn8
              have hk8 := (turned_block hturn8 hne).trans HW7.out.blk
              obtain ⟨x0, x1, x2, x3, y0, y3⟩ := cells4 (show w8.drew.heap[sb]? = _ from hk8)
              have HK8 := hide hk8
              have HT8 := hide hturn8
              have HSet8 := hide hset8
              clear hset8 hturn8 hk8 a0 a1 a2 a3 b0 b3
              go_upto_region 15 with fail
              go_region
              have HFZ : Hid (Frm B sb mb w (w8.setCell ⟨sb, 3, none⟩ (.slice (some ⟨g7, 0, none⟩) P.length cp7)).drew) := ((HF9.out.turned HT8.out).set 3 _).trans (Frm.of_below ((Below.refl B _).drew) (Nat.le_refl _))
              have HWZ : Hid (Wk (w8.setCell ⟨sb, 3, none⟩ (.slice (some ⟨g7, 0, none⟩) P.length cp7)).drew B sb mb (.slice (some ⟨tb, toff, none⟩) K c2) (.slice (some ⟨rb, ro, none⟩) tr.length c1) (.slice (some ⟨g7, 0, none⟩) P.length cp7) ks P) := by
                refine ⟨set4 HK8.out _, HSet8.out.of_block (Below.heap_setCell _ _ _ _ (Ne.symm hne)), owns_block HWay7.out (fun g hg => ?_)⟩
                have h9 := (HWay7.out.lt g hg).1
                exact (Below.heap_setCell w8 _ _ _ (hsbne g h9)).trans (turned_block HT8.out (by omega))
              clear HSet8 HT8 HK8 HW7 HSet7 HWay7 x0 x1 x2 x3 y0 y3
              generalize (w8.setCell ⟨sb, 3, none⟩ (.slice (some ⟨g7, 0, none⟩) P.length cp7)).drew = wz at *
              go_wp2
              go_roundw
              case rel => exact ⟨j + 1, _, by omega, by go_num, HFZ, HWZ, HNO⟩
              case measure => simp [intOf]; omega
      · go_wp2
        go_ret
        refine ⟨hFr.out, Or.inr ⟨wv, rfl, none_found HTR.out (fun j' h' => hNo.out j' (by omega)), hWr.out⟩⟩

end Go.Proofs.Ytnmjgepobcanfaa

/- Contract: slices.Equal of lists of ints. -/
namespace Go.Proofs.Ytnmjgepobcanfaa
open Go.RowKit

set_option maxHeartbeats 800000 in
theorem equal_any (v1 v2 : Value) (xs ys : List Int) (w : World) (h1 : Ints w v1 xs) (h2 : Ints w v2 ys) :
    Calls Try.prog 24 #[v1, v2] w fun e w' => e = .returned (.bool (decide (xs = ys))) ∧ Below w.heap.size w w' := by
  by_cases hlen : xs.length = ys.length
  · rcases h1 with ⟨rfl, p, c, rfl⟩ | ⟨b, off, cap, rfl, h0, hc, hm, hb, hcell⟩
    · obtain rfl : ys = [] := List.length_eq_zero_iff.1 (by simpa using hlen.symm)
      obtain ⟨p2, c2, rfl⟩ := h2.form
      clear h2
      go_enter Try.func24, Try.ntmps24
      go_wp2
      go_loop [13] (fun i => i = .int .i64 0) (fun _ => 0)
      case atStart => rfl
      case round =>
        subst hrel
        go_wp2
        go_ret
        exact ⟨rfl, Below.refl _ _⟩
    · rcases h2 with ⟨rfl, p, c, rfl⟩ | ⟨b2, off2, cap2, rfl, h02, hc2, hm2, hb2, hcell2⟩
      · simp at hlen; subst hlen; simp at h0
      · have hl : (((xs.length : Nat) : Int) != ((ys.length : Nat) : Int)) = false := by rw [hlen]; simp
        have HL : Hid (xs.length = ys.length) := hlen
        clear hlen
        go_enter Try.func24, Try.ntmps24
        go_wp2
        go_loopw [13] (fun i wr => ∃ k : Nat, k ≤ xs.length ∧ i = .int .i64 k ∧ Hid (xs.take k = ys.take k) ∧ Below w.heap.size w wr) (fun i _ => xs.length - (intOf i).toNat)
        case atStart => exact ⟨0, by omega, rfl, by simp [Hid], Below.refl _ _⟩
        case round =>
          obtain ⟨k, hk, rfl, ht, hbw⟩ := hrel
          by_cases hlt : k < xs.length
          · have hlt2 : k < ys.length := by have := HL.out; omega
            obtain ⟨x, hx, hcx⟩ := cellAt hcell hlt
            obtain ⟨y, hy, hcy⟩ := cellAt hcell2 hlt2
            have gx : wr.cell? ⟨b, off + k, none⟩ = some (.int .i64 x) := (hbw.cell (by exact hb)).trans hcx
            have gy : wr.cell? ⟨b2, off2 + k, none⟩ = some (.int .i64 y) := (hbw.cell (by exact hb2)).trans hcy
            clear hcx hcy hcell hcell2
            by_cases hxy : x = y
            · subst hxy
              go_wp2
              go_region
              all_goals
                go_wp2
                go_roundw
                case rel => exact ⟨k + 1, by omega, by go_num, take_eq_snoc ht.out hlt hlt2 (by rw [hx.out, hy.out]), by first | exact hbw | exact hbw.drew | exact hbw.drew.drew⟩
                case measure => simp [intOf]; omega
            · have hne : (x != y) = true := by simpa using hxy
              have HXY : Hid (¬ x = y) := hxy
              clear hxy
              go_wp2
              go_region
              all_goals
                go_wp2
                go_ret
                refine ⟨ret_bool ?_, by first | exact hbw | exact hbw.drew | exact hbw.drew.drew⟩
                symm
                rw [decide_eq_false_iff_not]
                intro e
                exact HXY.out (by rw [← hx.out, ← hy.out, e])
          · clear hcell hcell2
            go_wp2
            go_ret
            refine ⟨ret_bool ?_, hbw⟩
            symm
            rw [decide_eq_true_iff]
            have h3 := ht.out
            have h4 := HL.out
            rwa [List.take_of_length_le (by omega), List.take_of_length_le (by omega)] at h3
  · obtain ⟨p1, c1, rfl⟩ := h1.form
    obtain ⟨p2, c2, rfl⟩ := h2.form
    have hl : (((xs.length : Nat) : Int) != ((ys.length : Nat) : Int)) = true := by rw [bne_iff_ne]; omega
    have hd : decide (xs = ys) = false := by rw [decide_eq_false_iff_not]; intro e; exact hlen (by rw [e])
    clear hlen h1 h2
    go_enter Try.func24, Try.ntmps24
    go_wp2
    go_ret
    exact ⟨ret_bool hd.symm, Below.refl _ _⟩

end Go.Proofs.Ytnmjgepobcanfaa

/- Contracts: group's checkRow and Check, where n and how many there are may be. -/
namespace Go.Proofs.Ytnmjgepobcanfaa
open Go.RowKit

/-- What checkRow says. -/
def rchk (n : Nat) (xs : List Int) : Int := if chk xs = 0 then (if xs.length = n then 0 else 1) else chk xs

set_option maxHeartbeats 1000000 in
theorem checkRow_any (n : Nat) (v : Value) (xs : List Int) (w : World) (h : Ints w v xs) :
    Calls Try.prog 29 #[.int .i64 n, v] w fun e w' => e = .returned (.int .i64 (rchk n xs)) ∧ Below w.heap.size w w' := by
  have HC := hide (check_any v xs w h)
  have hr := chk_range xs
  obtain ⟨p, c, rfl⟩ := h.form
  by_cases h0 : chk xs = 0
  · rw [h0] at HC
    by_cases hl : xs.length = n
    · have HE : Hid (rchk n xs = 0) := by unfold Hid rchk; rw [if_pos h0, if_pos hl]
      have hb : (((xs.length : Nat) : Int) != ((n : Nat) : Int)) = false := by rw [hl]; simp
      clear h h0 hr hl
      go_enter Try.func29, Try.ntmps29
      go_wp2_with fail
      refine HC.out.mono ?_
      rintro e w1 ⟨rfl, hb1⟩
      go_wp2
      go_ret
      exact ⟨ret_int HE.out.symm, hb1⟩
    · have HE : Hid (rchk n xs = 1) := by unfold Hid rchk; rw [if_pos h0, if_neg hl]
      have hb : (((xs.length : Nat) : Int) != ((n : Nat) : Int)) = true := by rw [bne_iff_ne]; omega
      clear h h0 hr hl
      go_enter Try.func29, Try.ntmps29
      go_wp2_with fail
      refine HC.out.mono ?_
      rintro e w1 ⟨rfl, hb1⟩
      go_wp2
      go_ret
      exact ⟨ret_int HE.out.symm, hb1⟩
  · have HE : Hid (rchk n xs = chk xs) := by unfold Hid rchk; rw [if_neg h0]
    have hb : (chk xs != 0) = true := by rw [bne_iff_ne]; exact h0
    clear h h0
    generalize chk xs = z at *
    go_enter Try.func29, Try.ntmps29
    go_wp2_with fail
    refine HC.out.mono ?_
    rintro e w1 ⟨rfl, hb1⟩
    go_wp2
    go_ret
    exact ⟨ret_int HE.out.symm, hb1⟩

/-- What Check says of rows. -/
def gchk (n : Nat) : List (List Int) → Int
  | [] => 0
  | x :: t => if rchk n x = 0 then gchk n t else rchk n x

theorem gchk_drop {n k : Nat} {xss : List (List Int)} (hk : k < xss.length) : gchk n (xss.drop k) = if rchk n (xss.getD k []) = 0 then gchk n (xss.drop (k + 1)) else rchk n (xss.getD k []) := by
  rw [List.drop_eq_getElem_cons hk]
  simp only [List.getD, List.getElem?_eq_getElem hk, Option.getD_some]
  rfl

set_option maxRecDepth 20000 in
set_option maxHeartbeats 2000000 in
theorem gcheck_ok (n : Nat) (v : Value) (xss : List (List Int)) (w : World) (h : IntsAll w v xss) (h1 : 1 ≤ n) (h12 : n ≤ 12) (h8 : xss.length ≤ 8) :
    Calls Try.prog 20 #[.int .i64 n, v] w fun e w' => e = .returned (.int .i64 (gchk n xss)) ∧ Below w.heap.size w w' := by
  obtain ⟨vs, hv, hl, he⟩ := h
  have hn1 : ¬ ((n : Int) < 1) := by omega
  have hn2 : ¬ ((n : Int) > 12) := by omega
  rcases hv with ⟨rfl, p, c, rfl⟩ | ⟨b, off, cap, rfl, h0, hc, hm, hb, hcell⟩
  · obtain rfl : xss = [] := List.length_eq_zero_iff.1 (by simpa using hl.symm)
    clear he hl
    go_enter Try.func20, Try.ntmps20
    go_wp2
    go_loop [21] (fun i => i = .int .i64 0) (fun _ => 0)
    case atStart => rfl
    case round =>
      subst hrel
      go_wp2
      go_ret
      exact ⟨rfl, Below.refl _ _⟩
  · have hv8 : (vs.length : Int) ≤ 8 := by omega
    have HL := hide hl
    have HE := hide he
    have HC := hide hcell
    clear hl he hcell
    go_enter Try.func20, Try.ntmps20
    go_wp2
    go_loopw [21] (fun i wr => ∃ k : Nat, k ≤ vs.length ∧ i = .int .i64 k ∧ Hid (gchk n (xss.drop k) = gchk n xss) ∧ Below w.heap.size w wr) (fun i _ => vs.length - (intOf i).toNat)
    case atStart => exact ⟨0, by omega, rfl, rfl, Below.refl _ _⟩
    case round =>
      obtain ⟨k, hk, rfl, ht, hbw⟩ := hrel
      by_cases hlt : k < vs.length
      · have hkx : k < xss.length := by have := HL.out; omega
        obtain ⟨p1, c1, hcx, hix⟩ := elAt HC.out hlt (HE.out k hkx)
        have gx : wr.cell? ⟨b, off + k, none⟩ = some (.slice p1 (xss.getD k []).length c1) := (hbw.cell (by exact hb)).trans hcx
        have HS := hide (checkRow_any n _ _ wr (hix.out.below hbw))
        have HD := hide (gchk_drop (n := n) hkx)
        rw [ht.out] at HD
        generalize xss.getD k [] = X at *
        generalize X.length = lx at *
        clear hcx hix
        go_wp2_with fail
        refine HS.out.mono ?_
        rintro e w1 ⟨rfl, hb1⟩
        have hB1 : Below w.heap.size w w1 := hbw.trans (hb1.mono hbw.size)
        by_cases hz : rchk n X = 0
        · have HD' : Hid (gchk n (xss.drop (k + 1)) = gchk n xss) := by have := HD.out; rw [if_pos hz] at this; exact this.symm
          rw [hz]
          clear HD HS hz
          go_wp2
          go_roundw
          case rel => exact ⟨k + 1, by omega, by go_num, HD', hB1⟩
          case measure => simp [intOf]; omega
        · have HD' : Hid (gchk n xss = rchk n X) := by have := HD.out; rw [if_neg hz] at this; exact this
          have hne : (rchk n X != 0) = true := by rw [bne_iff_ne]; exact hz
          clear HD HS hz
          generalize rchk n X = z at *
          go_wp2
          go_ret
          exact ⟨ret_int HD'.out.symm, hB1⟩
      · have HE0 : Hid (gchk n xss = 0) := by show _ = _; rw [← ht.out, List.drop_eq_nil_of_le (by have := HL.out; omega)]; rfl
        go_wp2
        go_ret
        exact ⟨ret_int HE0.out.symm, hbw⟩

/-- Rows of n bells. -/
def RowsN (n : Nat) (xss : List (List Int)) : Prop := ∀ x, x ∈ xss → isRow x ∧ x.length = n

theorem gchk_rows {n : Nat} {xss : List (List Int)} (h1 : 1 ≤ n) (h12 : n ≤ 12) (h : RowsN n xss) : gchk n xss = 0 := by
  induction xss with
  | nil => rfl
  | cons x t ih =>
    have hx := h x (by simp)
    have e : rchk n x = 0 := by unfold rchk; rw [if_pos (chk_ok (by omega) (by omega) hx.1), if_pos hx.2]
    show (if rchk n x = 0 then gchk n t else rchk n x) = 0
    rw [if_pos e]
    exact ih (fun y hy => h y (by simp [hy]))

end Go.Proofs.Ytnmjgepobcanfaa

/- Contract: Pick. -/
namespace Go.Proofs.Ytnmjgepobcanfaa
open Go.RowKit

/-- Which of n things a raw number speaks of. -/
def pk (c n : Int) : Int := (if c < 0 then -(c + 1) else c) % n

theorem pk_range (c : Int) {n : Int} (h : 0 < n) : 0 ≤ pk c n ∧ pk c n < n := ⟨Int.emod_nonneg _ (by omega), Int.emod_lt_of_pos _ h⟩

end Go.Proofs.Ytnmjgepobcanfaa

/- What is known of a row behind a slice; the contracts of package row in its terms. -/
namespace Go.Proofs.Ytnmjgepobcanfaa
open Go.RowKit

/-- What is known of a row behind a slice. -/
structure RowAt (w : World) (v : Value) (n : Nat) (X : List Int) : Prop where
  ints : Ints w v X
  row : isRow X
  len : X.length = n

theorem RowAt.below {w w' : World} {v : Value} {n : Nat} {X : List Int} (h : RowAt w v n X) (hb : Below w.heap.size w w') : RowAt w' v n X := ⟨h.ints.below hb, h.row, h.len⟩

theorem at_row (n k : Nat) (w : World) (h1 : 1 ≤ n) (h2 : n ≤ 12) (hk : k < fct n) :
    Calls Try.prog 22 #[.int .i64 n, .int .i64 k] w fun e w' => ∃ v, e = .returned (.tuple #[v, .int .i64 0]) ∧ RowAt w' v n (rowAt n k) ∧ Below w.heap.size w w' := by
  refine (at_ok n k w h1 h2 hk).mono ?_
  rintro e w' ⟨v, rfl, hi, hb⟩
  exact ⟨v, rfl, ⟨hi, rowAt_row hk, rowAt_length hk⟩, hb⟩

theorem times_row {n : Nat} {v1 v2 : Value} {X Y : List Int} {w : World} (h1 : 1 ≤ n) (h2 : n ≤ 12) (hx : RowAt w v1 n X) (hy : RowAt w v2 n Y) :
    Calls Try.prog 26 #[v1, v2] w fun e w' => ∃ v, e = .returned (.tuple #[v, .int .i64 0]) ∧ RowAt w' v n (by_ X Y) ∧ Below w.heap.size w w' := by
  have e1 := hx.len
  have e2 := hy.len
  refine (times_ok v1 v2 X Y w hx.ints hy.ints hx.row hy.row (by omega) (by omega) (by omega)).mono ?_
  rintro e w' ⟨v, rfl, hi, hb⟩
  exact ⟨v, rfl, ⟨hi, isRow_by hx.row hy.row (by omega), by rw [by_length]; exact e2⟩, hb⟩

theorem order_row {n : Nat} {v1 : Value} {X : List Int} {w : World} (h1 : 1 ≤ n) (h2 : n ≤ 12) (hx : RowAt w v1 n X) :
    Calls Try.prog 21 #[v1] w fun e w' => ∃ o : Nat, 1 ≤ o ∧ o ≤ 1000000000000000 ∧ e = .returned (.tuple #[.int .i64 (o : Int), .bool (odd X), .int .i64 0]) ∧ Below w.heap.size w w' := by
  have e1 := hx.len
  refine (order_ok v1 X w hx.ints hx.row (by omega) (by omega)).mono ?_
  rintro e w' ⟨rfl, hb⟩
  have hall := cycsTo_len hx.row X.length (Nat.le_refl _)
  have hbd := ordTo_bound (xss := cycsTo X X.length) (fun x hx => by have := hall x hx; omega) (cycsTo X X.length).length (Nat.le_refl _)
  have hl := cycsTo_length X X.length
  have hpw : 12 ^ (cycsTo X X.length).length ≤ 12 ^ 12 := Nat.pow_le_pow_right (by decide) (by omega)
  exact ⟨_, hbd.1, by have : 12 ^ 12 ≤ 1000000000000000 := by decide
                      omega, rfl, hb⟩

theorem order_ord {n : Nat} {v1 : Value} {X : List Int} {w : World} (h1 : 1 ≤ n) (h2 : n ≤ 12) (hx : RowAt w v1 n X) :
    Calls Try.prog 21 #[v1] w fun e w' => e = .returned (.tuple #[.int .i64 (ord X : Nat), .bool (odd X), .int .i64 0]) ∧ 1 ≤ ord X ∧ ord X ≤ 1000000000000000 ∧ Below w.heap.size w w' := by
  have e1 := hx.len
  refine (order_ok v1 X w hx.ints hx.row (by omega) (by omega)).mono ?_
  rintro e w' ⟨rfl, hb⟩
  have hp := ord_pos hx.row (by omega)
  exact ⟨rfl, hp.1, hp.2, hb⟩

theorem RowAt.own {w : World} {base : Nat} {v : Value} {n : Nat} {X : List Int} (h : w.ownsRow base 3 1 v n (X.map (Value.int .i64))) (hr : isRow X) : RowAt w v n X :=
  ⟨Ints.own h, hr, by have := h.1; simpa using this⟩

end Go.Proofs.Ytnmjgepobcanfaa
