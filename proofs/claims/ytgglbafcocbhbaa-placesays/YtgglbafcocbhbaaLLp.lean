/- Lists of lists that a call makes, one list behind the other. -/
import Derived.Test.YtgglbafcocbhbaaRefD
import Derived.Test.YtgglbafcocbhbaaAppM
import Derived.Test.YtgglbafcocbhbaaOrder
namespace Go.Proofs.Ytgglbafcocbhbaa
open Go.RowKit

/-- A list of lists that the call owns, all its lists too. -/
structure LL (w : World) (base : Nat) (v : Value) (vs : List Value) (xss : List (List Int)) : Prop where
  row : w.ownsRow base 22 1 v vs.length vs
  all : OwnAll w base vs xss

theorem LL.nil (w : World) (base : Nat) : LL w base (.slice none 0 0) [] [] := ⟨World.ownsRow_nil _ _ _ _, trivial⟩

theorem LL.len {w : World} {base : Nat} {v : Value} {vs : List Value} {xss : List (List Int)} (h : LL w base v vs xss) : vs.length = xss.length := OwnAll.length h.all

theorem LL.ints {w : World} {base : Nat} {v : Value} {vs : List Value} {xss : List (List Int)} (h : LL w base v vs xss) : IntsAll w v xss := IntsAll.own h.row h.all

theorem LL.below {w w' : World} {base : Nat} {v : Value} {vs : List Value} {xss : List (List Int)} (h : LL w base v vs xss) (hb : Below w.heap.size w w') : LL w' base v vs xss :=
  ⟨owns_below h.row hb (Nat.le_refl _), h.all.mono (fun _ _ _ h' => owns_below h' hb (Nat.le_refl _))⟩

theorem LL.low {w : World} {base base' : Nat} {v : Value} {vs : List Value} {xss : List (List Int)} (h : LL w base v vs xss) (hb : base' ≤ base) : LL w base' v vs xss := by
  refine ⟨owns_base h.row hb, ?_⟩
  have ha := h.all
  clear h
  induction vs generalizing xss with
  | nil => cases xss with
    | nil => trivial
    | cons x xs => exact ha.elim
  | cons u us ih => cases xss with
    | nil => exact ha.elim
    | cons x xs => exact ⟨owns_base ha.1 hb, ih ha.2⟩

theorem LL.at {w : World} {base : Nat} {v : Value} {vs : List Value} {xss : List (List Int)} (h : LL w base v vs xss) {k : Nat} (hk : k < xss.length) : w.ownsRow base 3 1 (vs.getD k undef) (xss.getD k []).length ((xss.getD k []).map (Value.int .i64)) :=
  ownAll_at h.all (by rw [h.len]; exact hk)

theorem LL.push {w w4 : World} {base : Nat} {v v' u : Value} {vs : List Value} {xss : List (List Int)} {X : List Int} {o : Obj} (h : LL w base v vs xss) (hu : w.ownsRow base 3 1 u X.length (X.map (Value.int .i64)))
    (hown : w4.ownsRow base 22 1 v' (vs.length + 1) (vs ++ [u])) (hg : (w.alloc o).grownBy w4 v.ownBlock) : LL w4 base v' (vs ++ [u]) (xss ++ [X]) :=
  ⟨by rw [List.length_append]; exact hown, OwnAll.snoc (owns_kept_ty (hu.alloc o) (h.row.alloc o) hg) (h.all.mono (fun _ _ _ h' => owns_kept_ty (h'.alloc o) (h.row.alloc o) hg))⟩

theorem LL.kept {w w4 : World} {base n : Nat} {v u : Value} {vs ys : List Value} {xss : List (List Int)} {o : Obj} (h : LL w base v vs xss) (hu : w.ownsRow base 3 1 u n ys) (hg : (w.alloc o).grownBy w4 v.ownBlock) : w4.ownsRow base 3 1 u n ys :=
  owns_kept_ty (hu.alloc o) (h.row.alloc o) hg

theorem LL.step {w0 w w4 : World} {base B : Nat} {v : Value} {vs : List Value} {xss : List (List Int)} {o : Obj} (h : LL w base v vs xss) (hB : Below B w0 w) (hb : B ≤ base) (hs : B ≤ w.heap.size) (hg : (w.alloc o).grownBy w4 v.ownBlock) : Below B w0 w4 :=
  (hB.alloc hs _).grown hg (by simp; omega) (fun g hg' => Nat.le_trans hb (h.row.lt g hg').1)

/-- The list of one list. -/
theorem LL.one {w : World} {base : Nat} {u : Value} {X : List Int} (hu : w.ownsRow base 3 1 u X.length (X.map (Value.int .i64))) (hb : base ≤ w.heap.size) : LL (w.alloc (.cells #[u] 22)) base (.slice (some ⟨w.heap.size, 0, none⟩) 1 1) [u] [X] :=
  ⟨World.ownsRow_lit w #[u] 1 hb (by unfold maxLen; omega) rfl, ⟨hu.alloc _, trivial⟩⟩

end Go.Proofs.Ytgglbafcocbhbaa
