/- Maps keyed by int, whatever their elements: what they hold, as a function. -/
import Derived.Test.YtbddhpbeekioiaaArrP
import Derived.Maps.OwnSet
namespace Go.Proofs.Ytbddhpbeekioiaa
open Go.RowKit Go.Maps

/-- An element, held as it is. -/
def heldElem (v : Value) : Option (DataW Value × List MemPlace) := some (.held v, [])

theorem keyedI : Keyed Try.prog 3 := int_keyed Try.underlying3

/-- Block b is a map of at most n entries, which holds what f says. -/
def IMap (w : World) (b n : Nat) (f : Int → Option Value) : Prop :=
  ∃ D : DataW Value, w.ownsMap Try.prog 3 heldElem b n D ∧ ∀ a : Int, Maps.has D (.int .i64 a) = (f a).isSome ∧ ∀ v, f a = some v → ∀ z, D.atKey (.int .i64 a) z = .held v

theorem IMap.lt {w : World} {b n : Nat} {f : Int → Option Value} (h : IMap w b n f) : b < w.heap.size := by
  obtain ⟨D, h1, _⟩ := h; exact h1.lt

theorem IMap.obj {w : World} {b n : Nat} {f : Int → Option Value} (h : IMap w b n f) : ∃ es clock, w.heap[b]? = some (.map es clock) := by
  obtain ⟨D, ⟨es, c, h1, _⟩, _⟩ := h; exact ⟨es, c, h1⟩

theorem IMap.of_block {w w' : World} {b n : Nat} {f : Int → Option Value} (h : IMap w b n f) (hb : w'.heap[b]? = w.heap[b]?) : IMap w' b n f := by
  obtain ⟨D, ⟨es, c, h1, h2⟩, h3⟩ := h; exact ⟨D, ⟨es, c, hb.trans h1, h2⟩, h3⟩

theorem IMap.alloc {w : World} {b n : Nat} {f : Int → Option Value} (h : IMap w b n f) (o : Obj) : IMap (w.alloc o) b n f := h.of_block (Below.heap_alloc w o b h.lt)

theorem IMap.below {w w' : World} {b n B : Nat} {f : Int → Option Value} (h : IMap w b n f) (hb : Below B w w') (hB : b < B) : IMap w' b n f := h.of_block (hb.block b hB)

theorem IMap.mono {w : World} {b n m : Nat} {f : Int → Option Value} (h : IMap w b n f) (hn : n ≤ m) : IMap w b m f := by
  obtain ⟨D, h1, h2⟩ := h; exact ⟨D, h1.mono hn, h2⟩

theorem IMap.made (w : World) : IMap (w.alloc (.map #[] 0)) w.heap.size 0 (fun _ => none) :=
  ⟨.map [], World.ownsMap_made _ _ _ _, fun a => ⟨rfl, fun v h => by cases h⟩⟩

theorem IMap.congr {w : World} {b n : Nat} {f f' : Int → Option Value} (h : IMap w b n f) (e : ∀ a, f a = f' a) : IMap w b n f' := by
  rw [show f' = f from funext (fun a => (e a).symm)]; exact h

theorem wfI {a : Int} (h1 : -9223372036854775808 ≤ a) (h2 : a ≤ 9223372036854775807) : keyOf Try.prog 3 (.int .i64 a) = some (.int .i64 a) :=
  keyOf_int_mk Try.underlying3 (WalkArith.wf_i64 ⟨h1, h2⟩)

/-- 'v, ok := m[a]'. -/
theorem IMap.look_ok {w : World} {b n : Nat} {f : Int → Option Value} (h : IMap w b n f) {t e : TypeId} (ht : Try.prog.underlying t = some (.map 3 e)) {z : Value} (hz : (zeroValue e).run Try.prog w = .ok z w) {a : Int} (h1 : -9223372036854775808 ≤ a) (h2 : a ≤ 9223372036854775807) :
    (Instr.lookup t (.map (some b)) (.int .i64 a) true).run Try.prog w = .ok (.tuple #[(f a).getD z, .bool (f a).isSome]) w := by
  obtain ⟨D, hD, hf⟩ := h
  obtain ⟨v, ps, hrun, hv⟩ := hD.look_ok keyedI ht hz (zd := .held z) (zp := []) rfl (wfI h1 h2)
  have hv' : DataW.held v = D.atKey (.int .i64 a) (.held z) := (Prod.mk.inj (Option.some.inj hv)).1
  rw [hrun, (hf a).1]
  cases hfa : f a with
  | none =>
    have hh := (hf a).1
    rw [hfa] at hh
    rw [atKey_of_not_has hh] at hv'
    rw [DataW.held.inj hv']; rfl
  | some u =>
    rw [(hf a).2 u hfa] at hv'
    rw [DataW.held.inj hv']; rfl

/-- 'm[a]'. -/
theorem IMap.look {w : World} {b n : Nat} {f : Int → Option Value} (h : IMap w b n f) {t e : TypeId} (ht : Try.prog.underlying t = some (.map 3 e)) {z : Value} (hz : (zeroValue e).run Try.prog w = .ok z w) {a : Int} (h1 : -9223372036854775808 ≤ a) (h2 : a ≤ 9223372036854775807) :
    (Instr.lookup t (.map (some b)) (.int .i64 a) false).run Try.prog w = .ok ((f a).getD z) w := by
  obtain ⟨D, hD, hf⟩ := h
  obtain ⟨v, ps, hrun, hv⟩ := hD.lookup keyedI ht hz (zd := .held z) (zp := []) rfl (wfI h1 h2)
  have hv' : DataW.held v = D.atKey (.int .i64 a) (.held z) := (Prod.mk.inj (Option.some.inj hv)).1
  rw [hrun]
  cases hfa : f a with
  | none =>
    have hh := (hf a).1
    rw [hfa] at hh
    rw [atKey_of_not_has hh] at hv'
    rw [DataW.held.inj hv']; rfl
  | some u =>
    rw [(hf a).2 u hfa] at hv'
    rw [DataW.held.inj hv']; rfl

def upd (f : Int → Option Value) (a : Int) (v : Value) : Int → Option Value := fun x => if x = a then some v else f x

/-- 'm[a] = v'. -/
theorem IMap.put {w : World} {b n : Nat} {f : Int → Option Value} (h : IMap w b n f) {t e : TypeId} (ht : Try.prog.underlying t = some (.map 3 e)) (hn : n < maxLen) {a : Int} (h1 : -9223372036854775808 ≤ a) (h2 : a ≤ 9223372036854775807) (v : Value) :
    ∃ w', (Instr.mapUpdate t (.map (some b)) (.int .i64 a) v).run Try.prog w = .ok () w' ∧ IMap w' b (n + 1) (upd f a v) ∧ w.grownBy w' (some b) := by
  obtain ⟨D, hD, hf⟩ := h
  obtain ⟨w', hrun, hD', hg⟩ := hD.update (val := v) (d := .held v) (ps := []) keyedI ht hn (wfI h1 h2) rfl
  have hkey : WideAt.IsKeyLit (.int .i64 a) := keyedI.key (wfI h1 h2)
  refine ⟨w', hrun, ⟨_, hD', fun x => ?_⟩, hg⟩
  unfold upd
  by_cases e : x = a
  · subst e
    rw [if_pos rfl]
    exact ⟨has_put_same hD.isMap hkey _, fun u hu z => by rw [← Option.some.inj hu]; exact atKey_put_same hD.isMap hkey _ _⟩
  · have hne : (Lit.int .i64 x) ≠ Lit.int .i64 a := fun h => e (Lit.int.inj h).2
    rw [if_neg e]
    exact ⟨by rw [has_put_other hne]; exact (hf x).1, fun u hu z => by rw [atKey_put_other hne]; exact (hf x).2 u hu z⟩

/-! at the operation -/
section
variable {ops : Array Oper} {rest : List Oper} {o : Oper} {a : Act} {w : World} {Q : Exit → Act → World → Prop}

theorem wpList_look_ok (hg : o.guard = none) (m x : Operand) (t : TypeId) (hop : o.op = Op.lookup t m x true) (e : TypeId) (ht : Try.prog.underlying t = some (.map 3 e)) {z : Value} (hz : (zeroValue e).run Try.prog w = .ok z w)
    {b n : Nat} {f : Int → Option Value} (h : IMap w b n f) (k : Int) (hm : a.eval m = .map (some b)) (hx : a.eval x = .int .i64 k) (h1 : -9223372036854775808 ≤ k) (h2 : k ≤ 9223372036854775807)
    (hK : wpList Try.prog ops Q rest (a.put o.dst (.tuple #[(f k).getD z, .bool (f k).isSome])) w) : wpList Try.prog ops Q (o :: rest) a w := by
  refine wpList_plain hg fun K' hK' => ?_
  have hrun := h.look_ok ht hz h1 h2
  unfold Oper.wp
  simp [execOp, hop, hm, hx, hrun, Result.andThen]
  exact hK' _ _ hK

theorem wpList_look (hg : o.guard = none) (m x : Operand) (t : TypeId) (hop : o.op = Op.lookup t m x false) (e : TypeId) (ht : Try.prog.underlying t = some (.map 3 e)) {z : Value} (hz : (zeroValue e).run Try.prog w = .ok z w)
    {b n : Nat} {f : Int → Option Value} (h : IMap w b n f) (k : Int) (hm : a.eval m = .map (some b)) (hx : a.eval x = .int .i64 k) (h1 : -9223372036854775808 ≤ k) (h2 : k ≤ 9223372036854775807)
    (hK : wpList Try.prog ops Q rest (a.put o.dst ((f k).getD z)) w) : wpList Try.prog ops Q (o :: rest) a w := by
  refine wpList_plain hg fun K' hK' => ?_
  have hrun := h.look ht hz h1 h2
  unfold Oper.wp
  simp [execOp, hop, hm, hx, hrun, Result.andThen]
  exact hK' _ _ hK

theorem wpList_put (hg : o.guard = none) (m x v : Operand) (t : TypeId) (hop : o.op = Op.mapUpdate t m x v) (e : TypeId) (ht : Try.prog.underlying t = some (.map 3 e))
    {b n : Nat} {f : Int → Option Value} (h : IMap w b n f) (hn : n < maxLen) (k : Int) (val : Value) (hm : a.eval m = .map (some b)) (hx : a.eval x = .int .i64 k) (hv : a.eval v = val) (h1 : -9223372036854775808 ≤ k) (h2 : k ≤ 9223372036854775807)
    (hK : ∀ w', IMap w' b (n + 1) (upd f k val) → w.grownBy w' (some b) → wpList Try.prog ops Q rest (a.put o.dst undef) w') : wpList Try.prog ops Q (o :: rest) a w := by
  refine wpList_plain hg fun K' hK' => ?_
  obtain ⟨w', hrun, r1, r2⟩ := h.put ht hn h1 h2 val
  unfold Oper.wp
  simp [execOp, hop, hm, hx, hv, hrun, Result.andThen]
  exact hK' _ _ (hK w' r1 r2)
end

end Go.Proofs.Ytbddhpbeekioiaa
