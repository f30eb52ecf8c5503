/- Plain: what is mirrored comes back. Memory: a list that grows behind another header of it, in a struct. -/
import Derived.Test.YtfhcelanjilbiaaMirr
import Derived.Test.YtfhcelanjilbiaaAppK
namespace Go.Proofs.Ytfhcelanjilbiaa
open Go.RowKit

theorem by_rnd_left {n : Nat} {X : List Int} (h : ∀ y ∈ X, 0 ≤ y ∧ y < (n : Nat)) : by_ (rnd n) X = X := by
  unfold by_
  conv => rhs; rw [← List.map_id X]
  apply List.map_congr_left
  intro y hy
  have := h y hy
  rw [rnd_get (by omega)]
  show _ = y
  omega

theorem by_rnd_right {X : List Int} : by_ X (rnd X.length) = X := by
  refine ext_getD (by rw [by_length, rnd_length]) (fun j hj => ?_)
  rw [by_length, rnd_length] at hj
  rw [by_get (by rw [rnd_length]; exact hj), rnd_get hj, Int.toNat_natCast]

theorem fold_by (n : Nat) : ∀ (ts : List (List Bool)) (r : List Int), r.length = n → (∀ t, t ∈ ts → tsz t = n) → ts.foldl (fun r t => by_ r (trow t)) r = by_ r (prd n ts)
  | [], r, hr, _ => by show r = by_ r (rnd n); rw [← hr, by_rnd_right]
  | t :: ts, r, hr, h => by
    have ht : tsz t = n := h t (by simp)
    have hs : ∀ t', t' ∈ ts → tsz t' = n := fun t' ht' => h t' (List.mem_cons_of_mem _ ht')
    have hp := prd_row n ts hs
    have e1 : (t :: ts).foldl (fun r t => by_ r (trow t)) r = by_ (by_ r (trow t)) (prd n ts) := fold_by n ts _ (by rw [by_length, trow_length, ht]) hs
    have e2 : prd n (t :: ts) = by_ (by_ (rnd n) (trow t)) (prd n ts) := fold_by n ts _ (by rw [by_length, trow_length, ht]) hs
    rw [e1, e2, by_rnd_left (fun y hy => by rw [← ht]; exact trow_mem t y hy), by_assoc hp.1 (by rw [hp.2, trow_length, ht])]

theorem prd_cons {n : Nat} {t : List Bool} {ts : List (List Bool)} (ht : tsz t = n) (h : ∀ t, t ∈ ts → tsz t = n) : prd n (t :: ts) = by_ (trow t) (prd n ts) := by
  have e2 : prd n (t :: ts) = by_ (by_ (rnd n) (trow t)) (prd n ts) := fold_by n ts _ (by rw [by_length, trow_length, ht]) h
  rw [e2, by_rnd_left (fun y hy => by rw [← ht]; exact trow_mem t y hy)]

theorem prd_rev (n : Nat) : ∀ (ts : List (List Bool)), (∀ t, t ∈ ts → tsz t = n) → by_ (prd n ts) (prd n ts.reverse) = rnd n
  | [], _ => by
    show by_ (rnd n) (rnd n) = rnd n
    have := by_rnd_right (X := rnd n)
    rwa [rnd_length] at this
  | t :: ts, h => by
    have ht : tsz t = n := h t (by simp)
    have hs : ∀ t', t' ∈ ts → tsz t' = n := fun t' ht' => h t' (List.mem_cons_of_mem _ ht')
    have hsr : ∀ t', t' ∈ ts.reverse → tsz t' = n := fun t' ht' => hs t' (by simpa using ht')
    have ih := prd_rev n ts hs
    have hA := prd_row n ts hs
    have hB := prd_row n ts.reverse hsr
    have hBT := isRow_by hB.1 (trow_row t) (by rw [trow_length, ht, hB.2])
    rw [List.reverse_cons, prd_snoc, prd_cons ht hs, by_assoc hBT (by rw [by_length, trow_length, ht, hA.2]), ← by_assoc (trow_row t) (by rw [trow_length, ht, hB.2]), ih,
      by_rnd_left (fun y hy => by rw [← ht]; exact trow_mem t y hy), trow_twice, ht]

/-- There, and back but for the turn. -/
def pal (ts : List (List Bool)) : List (List Bool) := ts ++ ts.dropLast.reverse

theorem pal_rev {ts : List (List Bool)} (h : 1 ≤ ts.length) : (pal ts).reverse = pal ts := by
  obtain ⟨dl, c, rfl⟩ : ∃ dl c, ts = dl ++ [c] := by
    rcases List.eq_nil_or_concat ts with rfl | ⟨l, b, rfl⟩
    · simp at h
    · exact ⟨l, b, by simp⟩
  simp [pal]

theorem pal_mem {n : Nat} {ts : List (List Bool)} (h : ∀ t, t ∈ ts → tsz t = n) : ∀ t, t ∈ pal ts → tsz t = n := by
  intro t ht
  rcases List.mem_append.1 ht with h' | h'
  · exact h t h'
  · exact h t ((List.dropLast_sublist ts).subset (by simpa using h'))

theorem pal_length {ts : List (List Bool)} (h : 1 ≤ ts.length) : (pal ts).length = 2 * ts.length - 1 := by
  simp [pal]; omega

theorem pal_twice {n : Nat} {ts : List (List Bool)} (hl : 1 ≤ ts.length) (h : ∀ t, t ∈ ts → tsz t = n) : by_ (prd n (pal ts)) (prd n (pal ts)) = rnd n := by
  have := prd_rev n (pal ts) (pal_mem h)
  rwa [pal_rev hl] at this

theorem pal_mir {ts : List (List Bool)} (hl : 1 ≤ ts.length) (q : List Bool) : Mir ((pal ts ++ [q]).map tpl) := by
  intro i hi
  have hlen : ((pal ts ++ [q]).map tpl).length = (pal ts).length + 1 := by simp
  rw [hlen] at hi ⊢
  have hi' : i < (pal ts).length := by omega
  have hk : (pal ts).length + 1 - 2 - i < (pal ts).length := by omega
  have e : (pal ts)[i] = (pal ts)[(pal ts).length + 1 - 2 - i] := by
    have h1 : (pal ts).reverse[i]'(by rw [List.length_reverse]; exact hi') = (pal ts)[(pal ts).length - 1 - i] := by rw [List.getElem_reverse]
    have h2 : (pal ts).reverse[i]'(by rw [List.length_reverse]; exact hi') = (pal ts)[i] := by
      congr 1
      exact pal_rev hl
    rw [← h2, h1]
    congr 1
  have g : ∀ k (hk : k < (pal ts).length), ((pal ts ++ [q]).map tpl).getD k [] = tpl (pal ts)[k] := by
    intro k hk
    rw [List.map_append]
    simp only [List.getD]
    rw [List.getElem?_append_left (by simpa using hk), List.getElem?_map, List.getElem?_eq_getElem hk]
    rfl
  rw [g i hi', g _ hk, e]

/-- The changes so far, when the next one to be told back is the d-th. -/
def sofar (ts : List (List Bool)) (d : Nat) : List (List Bool) := ts ++ (ts.dropLast.drop d).reverse

theorem sofar_start (ts : List (List Bool)) : sofar ts (ts.length - 1) = ts := by
  unfold sofar; rw [List.drop_of_length_le (by simp)]; simp

theorem sofar_end (ts : List (List Bool)) : sofar ts 0 = pal ts := by unfold sofar pal; simp

theorem sofar_step {ts : List (List Bool)} {d : Nat} (h : d < ts.length - 1) : sofar ts d = sofar ts (d + 1) ++ [ts[d]'(by omega)] := by
  have hd : d < ts.dropLast.length := by simp; omega
  unfold sofar
  rw [List.drop_eq_getElem_cons hd, List.reverse_cons, List.append_assoc, List.getElem_dropLast]

/-! memory -/

theorem owns_ne_ty {w : World} {base e n B : Nat} {v : Value} {xs : List Value} {c : Array Value} {t : TypeId} (h : w.ownsRow base e 1 v n xs) (hB : w.heap[B]? = some (.cells c t)) (hne : t ≠ e) : v.ownBlock ≠ some B := by
  rcases h.2 with ⟨rfl, _⟩ | ⟨g, cap, cur, rfl, _, hh, _⟩
  · intro h; cases h
  · intro h
    have e1 : g = B := Option.some.inj h
    subst e1
    rw [hB] at hh
    injection hh with hh
    injection hh with _ h2
    exact hne h2

theorem owns_set_other {w : World} {base e n B j : Nat} {v x : Value} {xs : List Value} (h : w.ownsRow base e 1 v n xs) (hne : v.ownBlock ≠ some B) : (w.setCell ⟨B, j, none⟩ x).ownsRow base e 1 v n xs := by
  refine ⟨h.1, ?_⟩
  rcases h.2 with h2 | ⟨g, cap, cur, rfl, hg, hh, r⟩
  · exact Or.inl h2
  · refine Or.inr ⟨g, cap, cur, rfl, hg, ?_, r⟩
    have : B ≠ g := fun e => hne (by rw [e]; rfl)
    simp [World.setCell, Array.getElem?_modify, this, hh]

/-- What the loop of TopMirror knows. -/
structure MirRel (w wr : World) (B n : Nat) (s : ByteArray) (g H : Nat) (vs : List Value) (u : Value) (us : List Value) (qs : List (List Bool)) : Prop where
  box : wr.heap[B]? = some (.cells #[.string s, .int .i64 n, u] 66)
  ll : LL wr w.heap.size u us (qs.map tpl)
  pre : us.take H = vs
  cells : ∀ j, j < H → wr.cell? ⟨g, j, none⟩ = some (vs.getD j undef)
  glt : g < wr.heap.size
  gty : ∃ cur, wr.heap[g]? = some (.cells cur 22)
  below : Below w.heap.size w wr

theorem MirRel.later {w wr w' : World} {B n : Nat} {s : ByteArray} {g H : Nat} {vs : List Value} {u : Value} {us : List Value} {qs : List (List Bool)} (h : MirRel w wr B n s g H vs u us qs) (hb : Below wr.heap.size wr w') : MirRel w w' B n s g H vs u us qs := by
  have hBl : B < wr.heap.size := (Array.getElem?_eq_some_iff.1 h.box).1
  obtain ⟨cur, hc⟩ := h.gty
  exact ⟨(hb.block B hBl).trans h.box, h.ll.below hb, h.pre, fun j hj => (hb.cell (p := ⟨g, j, none⟩) h.glt).trans (h.cells j hj), Nat.lt_of_lt_of_le h.glt hb.size, ⟨cur, (hb.block g h.glt).trans hc⟩, h.below.trans (hb.mono h.below.size)⟩

/-- One more list behind. -/
theorem MirRel.step {w wr w5 : World} {B n : Nat} {s : ByteArray} {g H : Nat} {vs : List Value} {u v' x : Value} {us : List Value} {qs : List (List Bool)} {t : List Bool} (h : MirRel w wr B n s g H vs u us qs) (hB : w.heap.size ≤ B) (hH : H ≤ us.length)
    (hx : wr.ownsRow w.heap.size 3 1 x (tpl t).length ((tpl t).map (Value.int .i64)))
    (hown : w5.ownsRow w.heap.size 22 1 v' (us.length + 1) (us ++ [x])) (hg : wr.grownBy w5 u.ownBlock) (hk : v'.ownBlock = u.ownBlock ∨ (v'.ownBlock = some wr.heap.size ∧ wr.grownBy w5 none)) :
    MirRel w (w5.setCell ⟨B, 2, none⟩ v') B n s g H vs v' (us ++ [x]) (qs ++ [t]) ∧ w5.heap[B]? = some (.cells #[.string s, .int .i64 n, u] 66) := by
  have hBl : B < wr.heap.size := (Array.getElem?_eq_some_iff.1 h.box).1
  have hnB : u.ownBlock ≠ some B := owns_ne_ty h.ll.row h.box (by decide)
  have hbox : w5.heap[B]? = some (.cells #[.string s, .int .i64 n, u] 66) := (hg.block B hBl (fun e => hnB e.symm)).trans h.box
  have hnB' : v'.ownBlock ≠ some B := owns_ne_ty hown hbox (by decide)
  obtain ⟨cur, hcur⟩ := h.gty
  have hgB : g ≠ B := by
    intro e
    subst e
    rw [h.box] at hcur
    injection hcur with hcur
    injection hcur with _ h2
    exact absurd h2 (by decide)
  -- the block of the first header
  have hgt : ∃ cur', w5.heap[g]? = some (.cells cur' 22) := by
    by_cases e : u.ownBlock = some g
    · rcases hk with hk | ⟨_, hk⟩
      · rcases hown.2 with ⟨rfl, _⟩ | ⟨g', cap', cur', rfl, _, hh, _⟩
        · rw [← hk] at e; cases e
        · have : g' = g := by rw [← hk] at e; exact Option.some.inj e
          subst this
          exact ⟨cur', hh⟩
      · exact ⟨cur, (hk.block g h.glt (by simp)).trans hcur⟩
    · exact ⟨cur, (hg.block g h.glt (fun e' => e e'.symm)).trans hcur⟩
  have hgl5 : g < w5.heap.size := Nat.lt_of_lt_of_le h.glt hg.size
  have hcells : ∀ j, j < H → w5.cell? ⟨g, j, none⟩ = some (vs.getD j undef) := by
    intro j hj
    by_cases e : u.ownBlock = some g
    · rcases hk with hk | ⟨_, hk⟩
      · have h1 := hown.cells (g := g) (hk.trans e) j (us.getD j undef) (by rw [List.getElem?_append_left (by omega)]; simp [List.getD, List.getElem?_eq_getElem (show j < us.length by omega)])
        rw [Addr.add_lit, Nat.zero_add] at h1
        rw [h1, ← h.pre]
        simp [List.getD, hj]
      · exact (World.cell?_of_block (w := wr) (a := ⟨g, j, none⟩) (hk.block g h.glt (by simp))).trans (h.cells j hj)
    · exact (World.cell?_of_block (w := wr) (a := ⟨g, j, none⟩) (hg.block g h.glt (fun e' => e e'.symm))).trans (h.cells j hj)
  have hll : LL w5 w.heap.size v' (us ++ [x]) ((qs ++ [t]).map tpl) := by
    rw [List.map_append]
    exact ⟨by rw [List.length_append]; exact hown, OwnAll.snoc (owns_kept_ty hx h.ll.row hg) (h.ll.all.mono (fun _ _ _ h' => owns_kept_ty h' h.ll.row hg))⟩
  refine ⟨⟨?_, ⟨owns_set_other hll.row hnB', hll.all.mono (fun _ _ _ h' => owns_set_other h' (owns_ne_ty h' hbox (by decide)))⟩, ?_, ?_, by simp [World.setCell]; exact hgl5, ?_, ?_⟩, hbox⟩
  · simp [World.setCell, Array.getElem?_modify, hbox]
  · rw [List.take_append_of_le_length hH]; exact h.pre
  · intro j hj
    rw [World.cell?_setCell_other _ _ _ _ (by intro e; simp only [Addr.mk.injEq] at e; exact hgB e.1.symm)]
    exact hcells j hj
  · obtain ⟨c', hc'⟩ := hgt
    exact ⟨c', by simp [World.setCell, Array.getElem?_modify, hgB.symm, hc']⟩
  · have hb5 : Below w.heap.size w w5 := h.below.grown hg h.below.size (fun g' hg' => (h.ll.row.lt g' hg').1)
    exact hb5.setCell (by exact hB) _

end Go.Proofs.Ytfhcelanjilbiaa
