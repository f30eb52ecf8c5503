/- Joined: TtA, Eql, Mirr, MirM, TtP, TtH, TtI, TtQ, SbF. -/
import Derived.Test.YtenpkhalgkodbaaDoorJ10
import Derived.Test.YtenpkhalgkodbaaDoorJ3
import Derived.Test.YtenpkhalgkodbaaDoorJ5
import Derived.Test.YtenpkhalgkodbaaDoorJ4
import Derived.Test.YtenpkhalgkodbaaDoorJ9
/- Plain: BOTH PROOFS AGREE: the rows of leads are unlike just when those of the first lead are, the heads are, and no two heads are a false one apart. -/
namespace Go.Proofs.YtenpkhalgkodbaaDoor
open Go.RowKit

/-- The rows of leads with these heads. -/
def touchRows (Hs P : List (List Int)) : List (List Int) := Hs.flatMap (fun h => P.map (fun p => by_ h p))

theorem by_cancel {n : Nat} (h12 : n ≤ 12) {h a b : List Int} (hh : Rw n h) (ha : Rw n a) (hb : Rw n b) (e : by_ h a = by_ h b) : a = b := by
  refine Rw.eq h12 ha hb ?_
  have := congrArg pad e
  rw [hh.pad_by h12 ha, hh.pad_by h12 hb] at this
  exact Pm.mul_cancel this

/-- Rows of two leads are one just when what makes one head of the other makes one of their rows of the other. -/
theorem by_meet {n : Nat} (h12 : n ≤ 12) {h h' a b : List Int} (hh : Rw n h) (hh' : Rw n h') (ha : Rw n a) (hb : Rw n b) : by_ h a = by_ h' b ↔ by_ (un h) h' = by_ a (un b) := by
  constructor
  · intro e
    refine Rw.eq h12 (hh.un.by hh') (ha.by hb.un) ?_
    have e' := congrArg pad e
    rw [hh.pad_by h12 ha, hh'.pad_by h12 hb] at e'
    rw [hh.un.pad_by h12 hh', ha.pad_by h12 hb.un, hh.pad_un h12, hb.pad_un h12]
    refine Pm.mul_cancel (x := pad h) ?_
    rw [Pm.mul_inv_cancel, ← Pm.mul_assoc, e', Pm.mul_assoc, Pm.mul_inv, Pm.mul_one]
  · intro e
    refine Rw.eq h12 (hh.by ha) (hh'.by hb) ?_
    have e' := congrArg pad e
    rw [hh.un.pad_by h12 hh', ha.pad_by h12 hb.un, hh.pad_un h12, hb.pad_un h12] at e'
    rw [hh.pad_by h12 ha, hh'.pad_by h12 hb]
    have e2 : pad h' = pad h * (pad a * (pad b)⁻¹) := by rw [← e', Pm.mul_inv_cancel]
    rw [e2, Pm.mul_assoc, Pm.mul_assoc, Pm.inv_mul, Pm.mul_one]

theorem by_un_rnd {n : Nat} (h12 : n ≤ 12) {h h' : List Int} (hh : Rw n h) (hh' : Rw n h') : by_ (un h) h' = rnd n ↔ h = h' := by
  constructor
  · intro e
    refine Rw.eq h12 hh hh' ?_
    have e' := congrArg pad e
    rw [hh.un.pad_by h12 hh', hh.pad_un h12, pad_rnd h12] at e'
    rw [← Pm.mul_one (pad h), ← e', Pm.mul_inv_cancel]
  · rintro rfl
    refine Rw.eq h12 (hh.un.by hh) (Rw.rnd n) ?_
    rw [hh.un.pad_by h12 hh, hh.pad_un h12, Pm.inv_mul, pad_rnd h12]

theorem apart_iff {n : Nat} (h12 : n ≤ 12) {P : List (List Int)} (hP : ∀ p, p ∈ P → Rw n p) (h0 : P ≠ []) {h h' : List Int} (hh : Rw n h) (hh' : Rw n h') :
    (∀ x, x ∈ P.map (fun p => by_ h p) → ∀ y, y ∈ P.map (fun p => by_ h' p) → x ≠ y) ↔ (h ≠ h' ∧ by_ (un h) h' ∉ hds n P) := by
  have hm : ∀ d, d ∈ hds n P ↔ d ∈ pr P ∧ d ≠ rnd n := (hdsTo_fact n (pr P)).2.1
  constructor
  · intro H
    obtain ⟨p0, hp0⟩ := List.exists_mem_of_ne_nil P h0
    refine ⟨fun e => ?_, fun hd => ?_⟩
    · subst e
      exact H _ (List.mem_map.2 ⟨p0, hp0, rfl⟩) _ (List.mem_map.2 ⟨p0, hp0, rfl⟩) rfl
    · obtain ⟨one, h1, other, h2, e⟩ := pr_mem.1 ((hm _).1 hd).1
      exact H _ (List.mem_map.2 ⟨other, h2, rfl⟩) _ (List.mem_map.2 ⟨one, h1, rfl⟩) ((by_meet h12 hh hh' (hP _ h2) (hP _ h1)).2 e.symm)
  · rintro ⟨hne, hnd⟩ x hx y hy e
    obtain ⟨a, ha, rfl⟩ := List.mem_map.1 hx
    obtain ⟨b, hb, rfl⟩ := List.mem_map.1 hy
    have e2 := (by_meet h12 hh hh' (hP _ ha) (hP _ hb)).1 e
    refine hnd ((hm _).2 ⟨pr_mem.2 ⟨b, hb, a, ha, e2.symm⟩, fun e3 => ?_⟩)
    exact hne ((by_un_rnd h12 hh hh').1 e3)

theorem both_proofs {n : Nat} (h12 : n ≤ 12) {Hs P : List (List Int)} (hP : ∀ p, p ∈ P → Rw n p) (hH : ∀ h, h ∈ Hs → Rw n h) (h0 : P ≠ []) (h1 : Hs ≠ []) :
    (touchRows Hs P).Nodup ↔ (P.Nodup ∧ Hs.Nodup ∧ Hs.Pairwise (fun h h' => by_ (un h) h' ∉ hds n P)) := by
  unfold touchRows List.Nodup
  rw [List.pairwise_flatMap]
  have e1 : (∀ h, h ∈ Hs → List.Pairwise (· ≠ ·) (P.map (fun p => by_ h p))) ↔ List.Pairwise (· ≠ ·) P := by
    have key : ∀ h, h ∈ Hs → (List.Pairwise (· ≠ ·) (P.map (fun p => by_ h p)) ↔ List.Pairwise (· ≠ ·) P) := by
      intro h hh
      rw [List.pairwise_map]
      exact List.Pairwise.iff_of_mem (fun {a b} ha hb => ⟨fun hne e => hne (by rw [e]), fun hne e => hne (by_cancel h12 (hH h hh) (hP a ha) (hP b hb) e)⟩)
    obtain ⟨h, hh⟩ := List.exists_mem_of_ne_nil Hs h1
    exact ⟨fun H => (key h hh).1 (H h hh), fun H h hh => (key h hh).2 H⟩
  have e2 : List.Pairwise (fun h h' => ∀ x, x ∈ P.map (fun p => by_ h p) → ∀ y, y ∈ P.map (fun p => by_ h' p) → x ≠ y) Hs ↔ (List.Pairwise (· ≠ ·) Hs ∧ Hs.Pairwise (fun h h' => by_ (un h) h' ∉ hds n P)) := by
    rw [← List.pairwise_and_iff]
    exact List.Pairwise.iff_of_mem (fun {a b} ha hb => apart_iff h12 hP h0 (hH a ha) (hH b hb))
  constructor
  · rintro ⟨a, b⟩
    exact ⟨e1.1 a, e2.1 b⟩
  · rintro ⟨a, b⟩
    exact ⟨e1.2 a, e2.2 b⟩

end Go.Proofs.YtenpkhalgkodbaaDoor

/- Contract: slices.Equal of lists of ints. -/
namespace Go.Proofs.YtenpkhalgkodbaaDoor
open Go.RowKit

end Go.Proofs.YtenpkhalgkodbaaDoor

/- Contracts: slices.Equal, method.Mirrored. -/
namespace Go.Proofs.YtenpkhalgkodbaaDoor
open Go.RowKit

/-- Are lists, but for the last one, the same from the back? -/
def Mir (css : List (List Int)) : Prop := ∀ i, i < css.length - 1 → css.getD i [] = css.getD (css.length - 2 - i) []

theorem ret_b0 {a b : Bool} (h : a = b) : Ending.returned (.tuple #[.bool a, .int .i64 0]) = .returned (.tuple #[.bool b, .int .i64 0]) := by rw [h]

end Go.Proofs.YtenpkhalgkodbaaDoor

/- Plain: what is mirrored comes back. Memory: a list that grows behind another header of it, in a struct. -/
namespace Go.Proofs.YtenpkhalgkodbaaDoor
open Go.RowKit

theorem by_rnd_left {n : Nat} {X : List Int} (h : ∀ y ∈ X, 0 ≤ y ∧ y < (n : Nat)) : by_ (rnd n) X = X := by
  unfold by_
  conv => rhs; rw [← List.map_id X]
  apply List.map_congr_left
  intro y hy
  have := h y hy
  rw [rnd_get (by omega)]
  show _ = y
  omega

theorem by_rnd_right {X : List Int} : by_ X (rnd X.length) = X := by
  refine ext_getD (by rw [by_length, rnd_length]) (fun j hj => ?_)
  rw [by_length, rnd_length] at hj
  rw [by_get (by rw [rnd_length]; exact hj), rnd_get hj, Int.toNat_natCast]

theorem fold_by (n : Nat) : ∀ (ts : List (List Bool)) (r : List Int), r.length = n → (∀ t, t ∈ ts → tsz t = n) → ts.foldl (fun r t => by_ r (trow t)) r = by_ r (prd n ts)
  | [], r, hr, _ => by show r = by_ r (rnd n); rw [← hr, by_rnd_right]
  | t :: ts, r, hr, h => by
    have ht : tsz t = n := h t (by simp)
    have hs : ∀ t', t' ∈ ts → tsz t' = n := fun t' ht' => h t' (List.mem_cons_of_mem _ ht')
    have hp := prd_row n ts hs
    have e1 : (t :: ts).foldl (fun r t => by_ r (trow t)) r = by_ (by_ r (trow t)) (prd n ts) := fold_by n ts _ (by rw [by_length, trow_length, ht]) hs
    have e2 : prd n (t :: ts) = by_ (by_ (rnd n) (trow t)) (prd n ts) := fold_by n ts _ (by rw [by_length, trow_length, ht]) hs
    rw [e1, e2, by_rnd_left (fun y hy => by rw [← ht]; exact trow_mem t y hy), by_assoc hp.1 (by rw [hp.2, trow_length, ht])]

theorem prd_cons {n : Nat} {t : List Bool} {ts : List (List Bool)} (ht : tsz t = n) (h : ∀ t, t ∈ ts → tsz t = n) : prd n (t :: ts) = by_ (trow t) (prd n ts) := by
  have e2 : prd n (t :: ts) = by_ (by_ (rnd n) (trow t)) (prd n ts) := fold_by n ts _ (by rw [by_length, trow_length, ht]) h
  rw [e2, by_rnd_left (fun y hy => by rw [← ht]; exact trow_mem t y hy)]

theorem prd_rev (n : Nat) : ∀ (ts : List (List Bool)), (∀ t, t ∈ ts → tsz t = n) → by_ (prd n ts) (prd n ts.reverse) = rnd n
  | [], _ => by
    show by_ (rnd n) (rnd n) = rnd n
    have := by_rnd_right (X := rnd n)
    rwa [rnd_length] at this
  | t :: ts, h => by
    have ht : tsz t = n := h t (by simp)
    have hs : ∀ t', t' ∈ ts → tsz t' = n := fun t' ht' => h t' (List.mem_cons_of_mem _ ht')
    have hsr : ∀ t', t' ∈ ts.reverse → tsz t' = n := fun t' ht' => hs t' (by simpa using ht')
    have ih := prd_rev n ts hs
    have hA := prd_row n ts hs
    have hB := prd_row n ts.reverse hsr
    have hBT := isRow_by hB.1 (trow_row t) (by rw [trow_length, ht, hB.2])
    rw [List.reverse_cons, prd_snoc, prd_cons ht hs, by_assoc hBT (by rw [by_length, trow_length, ht, hA.2]), ← by_assoc (trow_row t) (by rw [trow_length, ht, hB.2]), ih,
      by_rnd_left (fun y hy => by rw [← ht]; exact trow_mem t y hy), trow_twice, ht]

/-- There, and back but for the turn. -/
def pal (ts : List (List Bool)) : List (List Bool) := ts ++ ts.dropLast.reverse

theorem pal_rev {ts : List (List Bool)} (h : 1 ≤ ts.length) : (pal ts).reverse = pal ts := by
  obtain ⟨dl, c, rfl⟩ : ∃ dl c, ts = dl ++ [c] := by
    rcases List.eq_nil_or_concat ts with rfl | ⟨l, b, rfl⟩
    · simp at h
    · exact ⟨l, b, by simp⟩
  simp [pal]

theorem pal_mem {n : Nat} {ts : List (List Bool)} (h : ∀ t, t ∈ ts → tsz t = n) : ∀ t, t ∈ pal ts → tsz t = n := by
  intro t ht
  rcases List.mem_append.1 ht with h' | h'
  · exact h t h'
  · exact h t ((List.dropLast_sublist ts).subset (by simpa using h'))

theorem pal_length {ts : List (List Bool)} (h : 1 ≤ ts.length) : (pal ts).length = 2 * ts.length - 1 := by
  simp [pal]; omega

theorem pal_twice {n : Nat} {ts : List (List Bool)} (hl : 1 ≤ ts.length) (h : ∀ t, t ∈ ts → tsz t = n) : by_ (prd n (pal ts)) (prd n (pal ts)) = rnd n := by
  have := prd_rev n (pal ts) (pal_mem h)
  rwa [pal_rev hl] at this

theorem pal_mir {ts : List (List Bool)} (hl : 1 ≤ ts.length) (q : List Bool) : Mir ((pal ts ++ [q]).map tpl) := by
  intro i hi
  have hlen : ((pal ts ++ [q]).map tpl).length = (pal ts).length + 1 := by simp
  rw [hlen] at hi ⊢
  have hi' : i < (pal ts).length := by omega
  have hk : (pal ts).length + 1 - 2 - i < (pal ts).length := by omega
  have e : (pal ts)[i] = (pal ts)[(pal ts).length + 1 - 2 - i] := by
    have h1 : (pal ts).reverse[i]'(by rw [List.length_reverse]; exact hi') = (pal ts)[(pal ts).length - 1 - i] := by rw [List.getElem_reverse]
    have h2 : (pal ts).reverse[i]'(by rw [List.length_reverse]; exact hi') = (pal ts)[i] := by
      congr 1
      exact pal_rev hl
    rw [← h2, h1]
    congr 1
  have g : ∀ k (hk : k < (pal ts).length), ((pal ts ++ [q]).map tpl).getD k [] = tpl (pal ts)[k] := by
    intro k hk
    rw [List.map_append]
    simp only [List.getD]
    rw [List.getElem?_append_left (by simpa using hk), List.getElem?_map, List.getElem?_eq_getElem hk]
    rfl
  rw [g i hi', g _ hk, e]

/-- The changes so far, when the next one to be told back is the d-th. -/
def sofar (ts : List (List Bool)) (d : Nat) : List (List Bool) := ts ++ (ts.dropLast.drop d).reverse

theorem sofar_start (ts : List (List Bool)) : sofar ts (ts.length - 1) = ts := by
  unfold sofar; rw [List.drop_of_length_le (by simp)]; simp

theorem sofar_end (ts : List (List Bool)) : sofar ts 0 = pal ts := by unfold sofar pal; simp

theorem sofar_step {ts : List (List Bool)} {d : Nat} (h : d < ts.length - 1) : sofar ts d = sofar ts (d + 1) ++ [ts[d]'(by omega)] := by
  have hd : d < ts.dropLast.length := by simp; omega
  unfold sofar
  rw [List.drop_eq_getElem_cons hd, List.reverse_cons, List.append_assoc, List.getElem_dropLast]

/-! memory -/

theorem owns_ne_ty {w : World} {base e n B : Nat} {v : Value} {xs : List Value} {c : Array Value} {t : TypeId} (h : w.ownsRow base e 1 v n xs) (hB : w.heap[B]? = some (.cells c t)) (hne : t ≠ e) : v.ownBlock ≠ some B := by
  rcases h.2 with ⟨rfl, _⟩ | ⟨g, cap, cur, rfl, _, hh, _⟩
  · intro h; cases h
  · intro h
    have e1 : g = B := Option.some.inj h
    subst e1
    rw [hB] at hh
    injection hh with hh
    injection hh with _ h2
    exact hne h2

theorem owns_set_other {w : World} {base e n B j : Nat} {v x : Value} {xs : List Value} (h : w.ownsRow base e 1 v n xs) (hne : v.ownBlock ≠ some B) : (w.setCell ⟨B, j, none⟩ x).ownsRow base e 1 v n xs := by
  refine ⟨h.1, ?_⟩
  rcases h.2 with h2 | ⟨g, cap, cur, rfl, hg, hh, r⟩
  · exact Or.inl h2
  · refine Or.inr ⟨g, cap, cur, rfl, hg, ?_, r⟩
    have : B ≠ g := fun e => hne (by rw [e]; rfl)
    simp [World.setCell, Array.getElem?_modify, this, hh]

/-- What the loop of TopMirror knows. -/
structure MirRel (w wr : World) (B n : Nat) (s : ByteArray) (g H : Nat) (vs : List Value) (u : Value) (us : List Value) (qs : List (List Bool)) : Prop where
  box : wr.heap[B]? = some (.cells #[.string s, .int .i64 n, u] 24)
  ll : LL wr w.heap.size u us (qs.map tpl)
  pre : us.take H = vs
  cells : ∀ j, j < H → wr.cell? ⟨g, j, none⟩ = some (vs.getD j undef)
  glt : g < wr.heap.size
  gty : ∃ cur, wr.heap[g]? = some (.cells cur 26)
  below : Below w.heap.size w wr

theorem MirRel.later {w wr w' : World} {B n : Nat} {s : ByteArray} {g H : Nat} {vs : List Value} {u : Value} {us : List Value} {qs : List (List Bool)} (h : MirRel w wr B n s g H vs u us qs) (hb : Below wr.heap.size wr w') : MirRel w w' B n s g H vs u us qs := by
  have hBl : B < wr.heap.size := (Array.getElem?_eq_some_iff.1 h.box).1
  obtain ⟨cur, hc⟩ := h.gty
  exact ⟨(hb.block B hBl).trans h.box, h.ll.below hb, h.pre, fun j hj => (hb.cell (p := ⟨g, j, none⟩) h.glt).trans (h.cells j hj), Nat.lt_of_lt_of_le h.glt hb.size, ⟨cur, (hb.block g h.glt).trans hc⟩, h.below.trans (hb.mono h.below.size)⟩

/-- One more list behind. -/
theorem MirRel.step {w wr w5 : World} {B n : Nat} {s : ByteArray} {g H : Nat} {vs : List Value} {u v' x : Value} {us : List Value} {qs : List (List Bool)} {t : List Bool} (h : MirRel w wr B n s g H vs u us qs) (hB : w.heap.size ≤ B) (hH : H ≤ us.length)
    (hx : wr.ownsRow w.heap.size 3 1 x (tpl t).length ((tpl t).map (Value.int .i64)))
    (hown : w5.ownsRow w.heap.size 26 1 v' (us.length + 1) (us ++ [x])) (hg : wr.grownBy w5 u.ownBlock) (hk : v'.ownBlock = u.ownBlock ∨ (v'.ownBlock = some wr.heap.size ∧ wr.grownBy w5 none)) :
    MirRel w (w5.setCell ⟨B, 2, none⟩ v') B n s g H vs v' (us ++ [x]) (qs ++ [t]) ∧ w5.heap[B]? = some (.cells #[.string s, .int .i64 n, u] 24) := by
  have hBl : B < wr.heap.size := (Array.getElem?_eq_some_iff.1 h.box).1
  have hnB : u.ownBlock ≠ some B := owns_ne_ty h.ll.row h.box (by decide)
  have hbox : w5.heap[B]? = some (.cells #[.string s, .int .i64 n, u] 24) := (hg.block B hBl (fun e => hnB e.symm)).trans h.box
  have hnB' : v'.ownBlock ≠ some B := owns_ne_ty hown hbox (by decide)
  obtain ⟨cur, hcur⟩ := h.gty
  have hgB : g ≠ B := by
    intro e
    subst e
    rw [h.box] at hcur
    injection hcur with hcur
    injection hcur with _ h2
    exact absurd h2 (by decide)
  -- the block of the first header
  have hgt : ∃ cur', w5.heap[g]? = some (.cells cur' 26) := by
    by_cases e : u.ownBlock = some g
    · rcases hk with hk | ⟨_, hk⟩
      · rcases hown.2 with ⟨rfl, _⟩ | ⟨g', cap', cur', rfl, _, hh, _⟩
        · rw [← hk] at e; cases e
        · have : g' = g := by rw [← hk] at e; exact Option.some.inj e
          subst this
          exact ⟨cur', hh⟩
      · exact ⟨cur, (hk.block g h.glt (by simp)).trans hcur⟩
    · exact ⟨cur, (hg.block g h.glt (fun e' => e e'.symm)).trans hcur⟩
  have hgl5 : g < w5.heap.size := Nat.lt_of_lt_of_le h.glt hg.size
  have hcells : ∀ j, j < H → w5.cell? ⟨g, j, none⟩ = some (vs.getD j undef) := by
    intro j hj
    by_cases e : u.ownBlock = some g
    · rcases hk with hk | ⟨_, hk⟩
      · have h1 := hown.cells (g := g) (hk.trans e) j (us.getD j undef) (by rw [List.getElem?_append_left (by omega)]; simp [List.getD, List.getElem?_eq_getElem (show j < us.length by omega)])
        rw [Addr.add_lit, Nat.zero_add] at h1
        rw [h1, ← h.pre]
        simp [List.getD, hj]
      · exact (World.cell?_of_block (w := wr) (a := ⟨g, j, none⟩) (hk.block g h.glt (by simp))).trans (h.cells j hj)
    · exact (World.cell?_of_block (w := wr) (a := ⟨g, j, none⟩) (hg.block g h.glt (fun e' => e e'.symm))).trans (h.cells j hj)
  have hll : LL w5 w.heap.size v' (us ++ [x]) ((qs ++ [t]).map tpl) := by
    rw [List.map_append]
    exact ⟨by rw [List.length_append]; exact hown, OwnAll.snoc (owns_kept_ty hx h.ll.row hg) (h.ll.all.mono (fun _ _ _ h' => owns_kept_ty h' h.ll.row hg))⟩
  refine ⟨⟨?_, ⟨owns_set_other hll.row hnB', hll.all.mono (fun _ _ _ h' => owns_set_other h' (owns_ne_ty h' hbox (by decide)))⟩, ?_, ?_, by simp [World.setCell]; exact hgl5, ?_, ?_⟩, hbox⟩
  · simp [World.setCell, Array.getElem?_modify, hbox]
  · rw [List.take_append_of_le_length hH]; exact h.pre
  · intro j hj
    rw [World.cell?_setCell_other _ _ _ _ (by intro e; simp only [Addr.mk.injEq] at e; exact hgB e.1.symm)]
    exact hcells j hj
  · obtain ⟨c', hc'⟩ := hgt
    exact ⟨c', by simp [World.setCell, Array.getElem?_modify, hgB.symm, hc']⟩
  · have hb5 : Below w.heap.size w w5 := h.below.grown hg h.below.size (fun g' hg' => (h.ll.row.lt g' hg').1)
    exact hb5.setCell (by exact hB) _

end Go.Proofs.YtenpkhalgkodbaaDoor

/- Plain: the rows of a touch are its leads' heads, changed by the rows of the first lead. -/
namespace Go.Proofs.YtenpkhalgkodbaaDoor
open Go.RowKit

theorem touchRows_snoc (Hs P : List (List Int)) (h : List Int) : touchRows (Hs ++ [h]) P = touchRows Hs P ++ P.map (fun p => by_ h p) := by
  simp [touchRows, List.flatMap_append]

theorem take_more {α : Type} (T : List α) (a K : Nat) : T.take (a + K) = T.take a ++ (T.drop a).take K := by
  rw [List.take_add]

theorem prd_append {n : Nat} (a b : List (List Bool)) (ha : ∀ t, t ∈ a → tsz t = n) (hb : ∀ t, t ∈ b → tsz t = n) : prd n (a ++ b) = by_ (prd n a) (prd n b) := by
  rw [← fold_by n b (prd n a) (prd_row n a ha).2 hb]
  simp [prd, List.foldl_append]

/-- The rows of a touch whose leads have all changes but the last in common. -/
theorem touch_rows {n N K : Nat} {ts F : List (List Bool)} (hK : 1 ≤ K) (hts : ts.length = K) (hF : F.length = N * K)
    (hFn : ∀ t, t ∈ F → tsz t = n) (htn : ∀ t, t ∈ ts → tsz t = n) (hd : ∀ m q, m < N → q < K → (F.drop (m * K)).take q = ts.take q) :
    ∀ m, m ≤ N → (leadTo n F (N * K)).take (m * K) = touchRows (headsOf (leadTo n F (N * K)) K m) (ldr n ts)
  | 0, _ => by simp [headsOf, touchRows]
  | m + 1, hm => by
    have ih := touch_rows hK hts hF hFn htn hd m (by omega)
    rw [headsOf_snoc, touchRows_snoc, ← ih, Nat.succ_mul, take_more]
    congr 1
    have hmK : m * K + K ≤ N * K := by rw [← Nat.succ_mul]; exact Nat.mul_le_mul_right _ hm
    refine List.ext_getElem (by simp [leadTo_length, ldr_length, hts]; omega) (fun q h1 h2 => ?_)
    have hq : q < K := by rw [List.length_take] at h1; omega
    rw [List.getElem_take, List.getElem_drop, List.getElem_map]
    have g1 := leadTo_get (n := n) (ts := F) (k := N * K) (j := m * K + q) (by omega)
    have g2 := leadTo_get (n := n) (ts := F) (k := N * K) (j := m * K) (by omega)
    have g3 := leadTo_get (n := n) (ts := ts) (k := ts.length) (j := q) (by omega)
    have l1 : m * K + q < (leadTo n F (N * K)).length := by rw [leadTo_length]; omega
    have l3 : q < (leadTo n ts ts.length).length := by rw [leadTo_length]; omega
    rw [List.getD_eq_getElem?_getD, List.getElem?_eq_getElem l1, Option.getD_some] at g1
    rw [List.getD_eq_getElem?_getD, List.getElem?_eq_getElem l3, Option.getD_some] at g3
    have e3 : (ldr n ts)[q]'(by rw [ldr_length]; omega) = prd n (ts.take q) := by
      rw [← g3]
      simp [ldr]
    rw [g1, e3, g2, take_more, hd m q (by omega) hq]
    exact prd_append _ _ (fun t ht => hFn t (List.mem_of_mem_take ht)) (fun t ht => htn t (List.mem_of_mem_take ht))

/-- Where a lead's changes lie among all. -/
theorem flat_drop {α : Type} {K : Nat} : ∀ (G : List (List α)) (m : Nat), (∀ g, g ∈ G → g.length = K) → (h : m < G.length) → (G.flatten).drop (m * K) = G[m] ++ (G.drop (m + 1)).flatten
  | [], m, _, h => by simp at h
  | g :: G, 0, _, _ => by simp
  | g :: G, m + 1, hg, h => by
    have hl : g.length = K := hg g (by simp)
    have ih := flat_drop G m (fun g' h' => hg g' (List.mem_cons_of_mem _ h')) (by simpa using h)
    rw [List.flatten_cons, Nat.succ_mul, Nat.add_comm, ← List.drop_drop, List.drop_append_of_le_length (by omega), ← hl, List.drop_length, List.nil_append, hl, ih]
    rfl

theorem flat_length {α : Type} {K : Nat} : ∀ (G : List (List α)), (∀ g, g ∈ G → g.length = K) → G.flatten.length = G.length * K
  | [], _ => by simp
  | g :: G, hg => by
    rw [List.flatten_cons, List.length_append, flat_length G (fun g' h' => hg g' (List.mem_cons_of_mem _ h')), hg g (by simp), List.length_cons, Nat.succ_mul, Nat.add_comm]

end Go.Proofs.YtenpkhalgkodbaaDoor

/- Contract: the answer's CallsOf. -/
namespace Go.Proofs.YtenpkhalgkodbaaDoor
open Go.RowKit

/-- A call in the making: its sign, its changes as a value, and as lists. -/
structure Ce where
  sign : Int
  val : Value
  chs : List (List Int)

def ceCells (es : List Ce) : List Value := es.flatMap (fun e => [.int .i32 e.sign, e.val])

theorem ceCells_length (es : List Ce) : (ceCells es).length = es.length * 2 := by
  unfold ceCells
  rw [List.length_flatMap]
  show (es.map (fun _ => 2)).sum = _
  exact sum_const 2 es

theorem ceCells_snoc (es : List Ce) (e : Ce) : ceCells (es ++ [e]) = ceCells es ++ [.int .i32 e.sign, e.val] := by simp [ceCells, List.flatMap_append]

def sgnOf (k : Nat) : Int := if k = 0 then 112 else 97 + k

/-- What is known of calls that were made. -/
structure Cok (n : Nat) (w : World) (base : Nat) (es : List Ce) : Prop where
  ll : ∀ e, e ∈ es → ∃ vs, LL w base e.val vs e.chs
  sign : ∀ k, k < es.length → (es.getD k ⟨0, undef, []⟩).sign = sgnOf k
  few : ∀ e, e ∈ es → e.chs.length ≤ 1
  ok : ∀ e, e ∈ es → ∀ j, j < e.chs.length → okc n 0 (e.chs.getD j []) = true

theorem Cok.snoc {n : Nat} {w : World} {base : Nat} {es : List Ce} (h : Cok n w base es) (e : Ce) (h1 : ∃ vs, LL w base e.val vs e.chs) (h2 : e.sign = sgnOf es.length) (h3 : e.chs.length ≤ 1) (h4 : ∀ j, j < e.chs.length → okc n 0 (e.chs.getD j []) = true) : Cok n w base (es ++ [e]) := by
  refine ⟨fun x hx => ?_, fun k hk => ?_, fun x hx => ?_, fun x hx => ?_⟩
  · rcases List.mem_append.1 hx with hx | hx
    · exact h.ll x hx
    · rw [List.mem_singleton] at hx; rw [hx]; exact h1
  · rw [List.length_append] at hk
    by_cases hlt : k < es.length
    · rw [List.getD_eq_getElem?_getD, List.getElem?_append_left hlt, ← List.getD_eq_getElem?_getD]
      exact h.sign k hlt
    · have : k = es.length := by simp at hk; omega
      subst this
      rw [List.getD_eq_getElem?_getD, List.getElem?_append_right (Nat.le_refl _), Nat.sub_self]
      exact h2
  · rcases List.mem_append.1 hx with hx | hx
    · exact h.few x hx
    · rw [List.mem_singleton] at hx; rw [hx]; exact h3
  · rcases List.mem_append.1 hx with hx | hx
    · exact h.ok x hx
    · rw [List.mem_singleton] at hx; rw [hx]; exact h4

theorem Cok.mono {n : Nat} {w w' : World} {base : Nat} {es : List Ce} (h : Cok n w base es) (hm : ∀ v vs xss, LL w base v vs xss → LL w' base v vs xss) : Cok n w' base es :=
  ⟨fun e he => by obtain ⟨vs, h1⟩ := h.ll e he; exact ⟨vs, hm _ _ _ h1⟩, h.sign, h.few, h.ok⟩

/-- As calls. -/
def ceCalls (es : List Ce) : List (Int × List (List Int)) := es.map (fun e => (e.sign, e.chs))

theorem Cok.calls {n : Nat} {w : World} {base : Nat} {es : List Ce} {u : Value} (h : Cok n w base es) (hr : w.ownsRow base 50 2 u es.length (ceCells es)) (h1 : 1 ≤ es.length) : CallsAt w u (ceCalls es) := by
  have hl : (ceCalls es).length = es.length := by simp [ceCalls]
  rcases hr.2 with ⟨_, h0⟩ | ⟨g, cap, cur, hu, hg, hh, hc, hm, _⟩
  · omega
  refine ⟨g, 0, cap, by rw [hl]; exact hu, (Array.getElem?_eq_some_iff.1 hh).1, by rw [hl]; exact hc, by unfold maxLen at hm; omega, fun k hk => ?_⟩
  rw [hl] at hk
  have hcell : ∀ j v, (ceCells es)[j]? = some v → w.cell? ⟨g, 0 + j, none⟩ = some v := fun j v hj => by
    have := hr.cells (g := g) (by rw [hu]; rfl) j v hj
    rw [Addr.add_lit] at this
    exact this
  have e0 : (ceCells es)[k * 2 + 0]? = some (.int .i32 es[k].sign) := by
    unfold ceCells
    rw [flat_get _ 2 (fun _ => rfl) es k 0 hk (by decide)]
    rfl
  have e1 : (ceCells es)[k * 2 + 1]? = some es[k].val := by
    unfold ceCells
    rw [flat_get _ 2 (fun _ => rfl) es k 1 hk (by decide)]
    rfl
  have eg : (ceCalls es).getD k (0, []) = (es[k].sign, es[k].chs) := by simp [ceCalls, List.getD, hk]
  obtain ⟨vs, hll⟩ := h.ll es[k] (List.getElem_mem hk)
  rw [eg]
  refine ⟨es[k].val, hcell _ _ e0, ?_, hll.ints⟩
  have := hcell _ _ e1
  rwa [← Nat.add_assoc] at this

end Go.Proofs.YtenpkhalgkodbaaDoor

/- Contract: the answer's CallsOf. -/
namespace Go.Proofs.YtenpkhalgkodbaaDoor
open Go.RowKit

theorem Tryd.info50 : (Tryd.prog.info? 50).map (fun i => (i.zero, i.size, i.bytes)) = some (some (.agg #[.int .i32 0, .slice none 0 0]), 2, 32) := by kernel_rfl

theorem owns_sl {w : World} {base e size n : Nat} {v : Value} {xs : List Value} (h : w.ownsRow base e size v n xs) : ∃ p c, v = .slice p n c := by
  rcases h.2 with ⟨h1, h2⟩ | ⟨g, cap, cur, h1, _⟩
  · exact ⟨none, 0, by rw [h1, h2]⟩
  · exact ⟨_, cap, h1⟩

theorem owns_later {w w' : World} {base e size n : Nat} {v : Value} {xs : List Value} (h : w.ownsRow base e size v n xs) (hb : Below w.heap.size w w') : w'.ownsRow base e size v n xs := by
  refine ⟨h.1, ?_⟩
  rcases h.2 with h2 | ⟨g, cap, cur, hv, hg, hh, r⟩
  · exact Or.inl h2
  · exact Or.inr ⟨g, cap, cur, hv, hg, (hb.block g (Array.getElem?_eq_some_iff.1 hh).1).trans hh, r⟩

/-- A row of another type is not touched by a growing one. -/
theorem owns_call {w w' : World} {base e size n e2 s2 n2 b2 : Nat} {v v2 : Value} {xs xs2 : List Value} (h : w.ownsRow base e size v n xs) (h2 : w.ownsRow b2 e2 s2 v2 n2 xs2) (hg : w.grownBy w' v2.ownBlock) (hne : e ≠ e2) : w'.ownsRow base e size v n xs := by
  refine ⟨h.1, ?_⟩
  rcases h.2 with h3 | ⟨g, cap, cur, hv, hgb, hh, r⟩
  · exact Or.inl h3
  · refine Or.inr ⟨g, cap, cur, hv, hgb, ?_, r⟩
    rw [hg.block g (Array.getElem?_eq_some_iff.1 hh).1 (fun e' => ?_)]
    · exact hh
    · rcases h2.2 with ⟨h4, _⟩ | ⟨g2, cap2, cur2, hv2, _, hh2, _⟩
      · rw [h4] at e'; cases e'
      · rw [hv2] at e'
        have e3 : g2 = g := by cases e'; rfl
        rw [e3, hh] at hh2
        injection hh2 with hh3
        injection hh3 with _ hh4 _
        exact hne hh4

theorem tile_one {n : Nat} {ts : List (List Bool)} (h : ∀ t, t ∈ ts → tsz t = n) : ∀ j, j < (ts.map tpl).length → okc n 0 ((ts.map tpl).getD j []) = true := by
  intro j hj
  have hj' : j < ts.length := by simpa using hj
  have e : (ts.map tpl).getD j [] = tpl ts[j] := by simp [List.getD, hj']
  rw [e]
  exact (okc_iff n _).2 ⟨ts[j], h _ (List.getElem_mem hj'), rfl⟩

set_option maxRecDepth 20000 in
set_option maxHeartbeats 4000000 in
theorem callsOf_ok (v : Value) (xs : List Int) (n m : Nat) (w : World) (h : Ints w v xs) (hx : ∀ x, x ∈ xs → I64 x) (h1 : 1 ≤ n) (h12 : n ≤ 12) (hm1 : 1 ≤ m) (hm2 : m ≤ 8) :
    Calls Tryd.prog 19 #[v, .int .i64 n, .int .i64 m] w fun e w' => ∃ (u : Value) (es : List Ce), e = .returned u ∧ es.length = m ∧ w'.ownsRow w.heap.size 50 2 u m (ceCells es) ∧ Cok n w' w.heap.size es ∧ Below w.heap.size w w' := by
  obtain ⟨i0, hi, hz0, hz1, hz2⟩ := info_parts Tryd.info50
  obtain ⟨p0, c0, rfl⟩ := h.form
  have HI := hide h
  have HX := hide hx
  clear h hx
  have ho0 : (w.alloc (.cells #[.int .i32 112, .slice none 0 0] 50)).ownsRow w.heap.size 50 2 (.slice (some ⟨w.heap.size, 0, none⟩) 1 1) 1 (ceCells [⟨112, .slice none 0 0, []⟩]) := World.ownsRow_lit w #[.int .i32 112, .slice none 0 0] 1 (Nat.le_refl _) (by unfold maxLen; omega) rfl
  have HO0 := hide ho0
  have HC0 : Hid (Cok n (w.alloc (.cells #[.int .i32 112, .slice none 0 0] 50)) w.heap.size [⟨112, .slice none 0 0, []⟩]) := by
    refine ⟨fun e he => ?_, fun k hk => ?_, fun e he => ?_, fun e he j hj => ?_⟩
    · rw [List.mem_singleton] at he; rw [he]; exact ⟨[], LL.nil _ _⟩
    · have : k = 0 := by simp at hk; omega
      subst this; rfl
    · rw [List.mem_singleton] at he; rw [he]; exact Nat.zero_le _
    · rw [List.mem_singleton] at he; rw [he] at hj; simp at hj
  have hB0 : Below w.heap.size w (w.alloc (.cells #[.int .i32 112, .slice none 0 0] 50)) := (Below.refl _ _).alloc (Nat.le_refl _) _
  clear ho0
  go_enter Tryd.func19, Tryd.ntmps19
  go_wp2
  go_loopw [7, 8] (fun u i wr => ∃ (k : Nat) (es : List Ce), 1 ≤ k ∧ k ≤ m ∧ i = .int .i64 k ∧ Hid (es.length = k) ∧ Hid (wr.ownsRow w.heap.size 50 2 u k (ceCells es)) ∧ Hid (Cok n wr w.heap.size es) ∧ Below w.heap.size w wr) (fun _ i _ => m - (intOf i).toNat)
  case atStart => exact ⟨1, [⟨112, .slice none 0 0, []⟩], by omega, by omega, rfl, rfl, HO0, HC0, hB0⟩
  case round =>
    clear HO0 HC0 hB0
    obtain ⟨k, es, hk1, hk2, rfl, hel, hO, hC, hbw⟩ := hrel
    have hbs := hbw.size
    obtain ⟨up, uc, rfl⟩ := owns_sl hO.out
    by_cases hlt : k < m
    · have HCH := hide (changesOf_ok _ xs (11 * k) n 1 wr (HI.out.below hbw) HX.out (by omega) h1 h12 (by omega))
      go_wp2_with fail
      rw [show (11 * (k : Int)) = ((11 * k : Nat) : Int) from by omega]
      refine HCH.out.mono ?_
      rintro e w1 ⟨cu, cvs, ts, rfl, hl1, hts, hL1, hb1⟩
      have hbs1 := hb1.size
      have hL1' := hL1.low hbs
      obtain ⟨cp, cc, rfl⟩ := owns_slice hL1.row
      have hB1 : Below w.heap.size w w1 := hbw.trans (hb1.mono hbs)
      have hO1 : w1.ownsRow w.heap.size 50 2 (.slice up k uc) k (ceCells es) := owns_later hO.out hb1
      have hC1 := hC.out.mono (w' := w1) (fun v vs xss h => h.below hb1)
      have HC2 := hide (hC1.snoc ⟨97 + (k : Int), .slice cp cvs.length cc, ts.map tpl⟩ ⟨cvs, hL1'⟩ (by rw [hel.out]; unfold sgnOf; rw [if_neg (by omega)]) (by simp [hl1]) (tile_one hts))
      have HEL : Hid ((es ++ [(⟨97 + (k : Int), .slice cp cvs.length cc, ts.map tpl⟩ : Ce)]).length = k + 1) := by show _ = _; rw [List.length_append, hel.out]; rfl
      have HCS := hide (ceCells_snoc es ⟨97 + (k : Int), .slice cp cvs.length cc, ts.map tpl⟩)
      clear hL1 hL1' hb1 hC1 hO hC hl1 hts HCH hel
      go_wp2_with (at_builtin; refine wpList_append_own _ rfl _ _ 25 rfl w.heap.size 50 i0 (.agg #[.int .i32 0, .slice none 0 0]) 2 32 Tryd.underlying25 hi hz0 hz1 hz2 rfl (by decide) _ _ _ rfl (hO1.alloc _) ⟨w1.heap.size, 0, none⟩ 1 1 [.int .i32 (97 + (k : Int)), .slice cp cvs.length cc] rfl rfl ?c1 ?c2 ?c3 ?c4 ?c5 ?_)
      case c1 => exact cell_two_new _ _ _ _
      case c2 => intro u hu; simp at hu; rcases hu with rfl | rfl <;> rfl
      case c3 => unfold maxLen; omega
      case c4 => omega
      case c5 => simp; omega
      · intro v' w5 hown5 hg5 _
        have HO5 : Hid (w5.ownsRow w.heap.size 50 2 v' (k + 1) (ceCells (es ++ [(⟨97 + (k : Int), .slice cp cvs.length cc, ts.map tpl⟩ : Ce)]))) := by show World.ownsRow _ _ _ _ _ _ _; rw [HCS.out]; exact hown5
        have HC5 := hide (HC2.out.mono (w' := w5) (fun v vs xss h => ⟨owns_call (h.row.alloc _) (hO1.alloc _) hg5 (by decide), h.all.mono (fun _ _ _ h' => owns_call (h'.alloc _) (hO1.alloc _) hg5 (by decide))⟩))
        have HB5 : Hid (Below w.heap.size w w5) := (hB1.alloc hB1.size _).grown hg5 (by simp; omega) (fun g hg => (hO1.lt g hg).1)
        clear hown5 hg5 hO1 HC2 HCS
        go_wp2
        go_roundw
        case rel => exact ⟨k + 1, _, by omega, by omega, by go_num, HEL, HO5, HC5, HB5.out⟩
        case measure => simp [intOf]; omega
    · obtain rfl : k = m := by omega
      have HOx := hide hO.out
      have HCx := hide hC.out
      have HEx := hide hel.out
      clear hO hC hel
      go_wp2
      go_ret
      exact ⟨_, es, rfl, HEx.out, HOx.out, HCx.out, hbw⟩

end Go.Proofs.YtenpkhalgkodbaaDoor

/- Contract: call.Rows. -/
namespace Go.Proofs.YtenpkhalgkodbaaDoor
open Go.RowKit

theorem Tryd.info22 : (Tryd.prog.info? 22).map (fun i => (i.zero, i.size, i.bytes)) = some (some (.slice none 0 0), 1, 24) := by kernel_rfl

/-- The leads of the calls, as rows. -/
structure LLL (ts : List (List Bool)) (SS : List (List (List Bool))) (w : World) (base : Nat) (v : Value) (us : List Value) : Prop where
  row : w.ownsRow base 22 1 v us.length us
  all : ∀ k, k < us.length → ∃ vs, LL w base (us.getD k undef) vs ((calledBy ts (SS.getD k [])).map trow)

theorem LLL.nil (ts : List (List Bool)) (SS : List (List (List Bool))) (w : World) (base : Nat) : LLL ts SS w base (.slice none 0 0) [] := ⟨World.ownsRow_nil _ _ _ _, fun k hk => by simp at hk⟩

theorem LLL.below {ts : List (List Bool)} {SS : List (List (List Bool))} {w w' : World} {base : Nat} {v : Value} {us : List Value} (h : LLL ts SS w base v us) (hb : Below w.heap.size w w') : LLL ts SS w' base v us :=
  ⟨owns_below h.row hb (Nat.le_refl _), fun k hk => by obtain ⟨vs, hv⟩ := h.all k hk; exact ⟨vs, hv.below hb⟩⟩

theorem LLL.push {ts : List (List Bool)} {SS : List (List (List Bool))} {w w4 : World} {base : Nat} {v v' u : Value} {us vs : List Value} {o : Obj} (h : LLL ts SS w base v us) (hu : LL w base u vs ((calledBy ts (SS.getD us.length [])).map trow))
    (hown : w4.ownsRow base 22 1 v' (us.length + 1) (us ++ [u])) (hg : (w.alloc o).grownBy w4 v.ownBlock) : LLL ts SS w4 base v' (us ++ [u]) := by
  have keep : ∀ {x : Value} {ys : List Value} {X : List (List Int)}, LL w base x ys X → LL w4 base x ys X := fun hx =>
    ⟨owns_call (hx.row.alloc o) (h.row.alloc o) hg (by decide), hx.all.mono (fun _ _ _ h' => owns_call (h'.alloc o) (h.row.alloc o) hg (by decide))⟩
  refine ⟨by rw [List.length_append]; exact hown, fun k hk => ?_⟩
  rw [List.length_append, List.length_singleton] at hk
  by_cases hlt : k < us.length
  · obtain ⟨ys, hy⟩ := h.all k hlt
    refine ⟨ys, ?_⟩
    rw [show (us ++ [u]).getD k undef = us.getD k undef from by simp [List.getD, List.getElem?_append_left hlt]]
    exact keep hy
  · obtain rfl : k = us.length := by omega
    refine ⟨vs, ?_⟩
    rw [show (us ++ [u]).getD us.length undef = u from by simp [List.getD]]
    exact keep hu

/-- All changes of a touch. -/
def allOf (ts : List (List Bool)) (SS : List (List (List Bool))) (ls : List Int) : List (List Bool) := (ls.map (fun l => calledBy ts (SS.getD l.toNat []))).flatten

/-- Rows in the making, and the last of them. -/
structure RR (base n : Nat) (F : List (List Bool)) (w : World) (k : Nat) (r rows : Value) (vs : List Value) : Prop where
  ll : LL w base rows vs (leadTo n F k)
  row : w.ownsRow base 3 1 r n ((prd n (F.take k)).map (Value.int .i64))

theorem flat_next {α : Type} {K : Nat} (G : List (List α)) (hG : ∀ g, g ∈ G → g.length = K) {i q : Nat} (hi : i < G.length) {g : List α} (hg : G[i] = g) (hq : q < g.length) : G.flatten.take (i * K + q + 1) = G.flatten.take (i * K + q) ++ [g[q]] := by
  have h1 := flat_drop G i hG hi
  rw [hg] at h1
  rw [Nat.add_assoc, take_more _ (i * K) (q + 1), take_more _ (i * K) q, h1, List.append_assoc, List.take_append_of_le_length (by omega), List.take_append_of_le_length (by omega), List.take_succ_eq_append_getElem hq]

set_option maxRecDepth 20000 in
set_option maxHeartbeats 4000000 in
theorem crows_ok (s : ByteArray) (n : Nat) (vp : Option Addr) (vc : Nat) (ts : List (List Bool)) (cv : Value) (cs : List (Int × List (List Int))) (SS : List (List (List Bool))) (lv : Value) (ls : List Int) (w : World) (hs : s.size ≤ 9223372036854775807) (hn : nm s = true) (h1 : 2 ≤ n) (h2 : n ≤ 12) (hl1 : 1 ≤ ts.length) (hl2 : ts.length ≤ 200)
    (hts : ∀ t, t ∈ ts → tsz t = n) (hv : IntsAll w (.slice vp ts.length vc) (ts.map tpl)) (hcv : CallsAt w cv cs) (hco : CallsOk n ts.length cs) (hc1 : 1 ≤ cs.length) (hc2 : cs.length ≤ 8)
    (hSS : ∀ c, c < cs.length → (cs.getD c (0, [])).2 = (SS.getD c []).map tpl ∧ (∀ t, t ∈ SS.getD c [] → tsz t = n) ∧ (SS.getD c []).length ≤ ts.length)
    (hl : Ints w lv ls) (hN1 : 1 ≤ ls.length) (hN2 : ls.length ≤ 400) (hin : ∀ l, l ∈ ls → 0 ≤ l ∧ l < (cs.length : Int)) (hm : ls.length * ts.length ≤ 20000) :
    Calls Tryd.prog 13 #[meth s n (.slice vp ts.length vc), cv, lv] w (RowsPost (leadTo n (allOf ts SS ls) (ls.length * ts.length)) w) := by
  obtain ⟨i0, hi0, hz0, hz1, hz2⟩ := info_parts Tryd.info22
  obtain ⟨j0, hji, hq0, hq1, hq2⟩ := info_parts Tryd.info26
  have hB0 : Below w.heap.size w (w.alloc (.cells #[.string s, .int .i64 n, .slice vp ts.length vc] 24)) := (Below.refl _ _).alloc (Nat.le_refl _) _
  have hmay := may_ok s n vp vc (ts.map tpl) cv cs lv ls (w.alloc (.cells #[.string s, .int .i64 n, .slice vp ts.length vc] 24)) hs hn h1 h2 (by rw [List.length_map]; exact hl1) (by rw [List.length_map]; exact hl2) (by rw [List.length_map]; exact hv.below hB0) (fun k hk => tile_ok hts hk) (hcv.below hB0) (by rw [List.length_map]; exact hco) hc1 hc2 (hl.below hB0) hN1 hN2 hin (by rw [List.length_map]; exact hm)
  rw [List.length_map] at hmay
  have HM := hide hmay
  have hbox := Box.start w s n (.slice vp ts.length vc) 24
  obtain ⟨b, off, cap, rfl, hb, hlc, hcm, hcell⟩ := hcv
  obtain ⟨lp, lc, rfl⟩ := hl.form
  have HC := hide hcell
  have HSS := hide hSS
  have HBX := hide hbox
  have HI := hide hl
  have HIN := hide hin
  have HTS := hide hts
  have HV := hide hv
  clear hmay hbox hcell hSS hin hts hv hn hco hl
  unfold meth at HM
  unfold meth
  go_enter Tryd.func13, Tryd.ntmps13
  go_wp2_with fail
  refine HM.out.mono ?_
  rintro e w1 ⟨rfl, hb1⟩
  have hB1 : Below w.heap.size w w1 := hB0.trans (hb1.mono (by simp))
  have HX1 := hide (HBX.out.below hb1)
  clear HM HBX hb1 hB0
  go_wp2
  go_loopw [9, 28] (fun hv i wr => ∃ (j : Nat) (us : List Value), j ≤ cs.length ∧ i = .int .i64 j ∧ Hid (us.length = j) ∧ Hid (LLL ts SS wr (w.heap.size + 1) hv us) ∧ Hid (Box wr w.heap.size s n (.slice vp ts.length vc)) ∧ Below w.heap.size w wr) (fun _ i _ => cs.length - (intOf i).toNat)
  case atStart => exact ⟨0, [], by omega, rfl, (show ([] : List Value).length = 0 from rfl), LLL.nil _ _ _ _, HX1, hB1⟩
  case round =>
    clear HX1 hB1
    obtain ⟨j, us, hj, rfl, hul, hL, hX, hbw⟩ := hrel
    have hbs := hbw.size
    have hxl := hX.out.lt
    obtain ⟨hp, hc, rfl⟩ := owns_slice hL.out.row
    have hul2 := hul.out
    by_cases hlt : j < cs.length
    · obtain ⟨u, a1, a2, a3⟩ := HC.out j hlt
      obtain ⟨s1, s2, s3⟩ := HSS.out j hlt
      have g1 : wr.cell? ⟨b, off + j * 2, none⟩ = some (.int .i32 (cs.getD j (0, [])).1) := (hbw.cell (by exact hb)).trans a1
      have g2 : wr.cell? ⟨b, off + j * 2 + 1, none⟩ = some u := (hbw.cell (p := ⟨b, off + j * 2 + 1, none⟩) (by exact hb)).trans a2
      rw [s1] at a3
      obtain ⟨up, uc, rfl⟩ := a3.len
      rw [List.length_map] at a3 g2
      have b0 := hX.out.c0
      have b1 := hX.out.c1
      have b2 := hX.out.c2
      have HLO := hide (fun W (hW : Below w.heap.size w W) => leadOf_ok s n vp vc ts (cs.getD j (0, [])).1 up uc (SS.getD j []) W (by omega) h2 hl1 hl2 HTS.out (HV.out.below hW) s2 (a3.below hW) s3)
      clear a1 a2 a3 s1 s2 s3
      generalize (cs.getD j (0, [])).1 = sg at *
      rw [hul2]
      unfold meth at HLO
      have HBA := hide (hbw.alloc hbs (.cells #[.int .i32 sg, .slice up (SS.getD j []).length uc] 50))
      have HXA := hide (hX.out.below ((Below.refl _ _).alloc (Nat.le_refl _) (.cells #[.int .i32 sg, .slice up (SS.getD j []).length uc] 50)))
      have HLA := hide (hL.out.below ((Below.refl _ _).alloc (Nat.le_refl _) (.cells #[.int .i32 sg, .slice up (SS.getD j []).length uc] 50)))
      have hSA : wr.heap.size + 1 = (wr.alloc (.cells #[.int .i32 sg, .slice up (SS.getD j []).length uc] 50)).heap.size := by simp
      clear hX hL
      generalize (SS.getD j []).length = sl at *
      go_wp2_with fail
      refine (HLO.out _ HBA.out).mono ?_
      rintro e w3 ⟨u, vs, rfl, hLu, hb3⟩
      have hbs3 := hb3.size
      rw [← hSA] at hbs3
      have hL3 := HLA.out.below hb3
      have HX3 := hide (HXA.out.below hb3)
      have hbw3 : Below w.heap.size w w3 := HBA.out.trans (hb3.mono HBA.out.size)
      have hLu2 := hLu.low (show w.heap.size + 1 ≤ _ by rw [← hSA]; omega)
      rw [← hul2] at hLu2
      obtain ⟨ap, ac, rfl⟩ := owns_slice hLu2.row
      have hvl3 : vs.length ≤ 200 := by rw [hLu2.len, List.length_map, calledBy_length (HSS.out us.length (by omega)).2.2]; exact hl2
      have hrow := hL3.row
      have HL3 := hide hL3
      have HLU := hide hLu2
      rw [hul2] at hrow
      clear hLu hLu2 hL3 hb3 HLO HXA HLA HBA
      generalize vs.length = al at *
      go_wp2_with (at_builtin; refine wpList_append_own _ rfl _ _ 65 rfl (w.heap.size + 1) 22 i0 (.slice none 0 0) 1 24 Tryd.underlying65 hi0 hz0 hz1 hz2 rfl (by decide) _ _ _ rfl (hrow.alloc _) ⟨w3.heap.size, 0, none⟩ 1 1 [.slice ap al ac] rfl rfl ?c1 ?c2 ?c3 ?c4 ?c5 ?_)
      case c1 => exact cell_one_new _ _ _
      case c2 => intro u hu; simp at hu; subst hu; rfl
      case c3 => unfold maxLen; omega
      case c4 => omega
      case c5 => simp; omega
      · intro v' w5 hown5 hg5 _
        rw [← hul2] at hown5 hg5
        have HL5 := hide (HL3.out.push HLU.out hown5 hg5)
        have hb5 : Below (w.heap.size + 1) w3 w5 := ((Below.refl _ _).alloc (by omega) _).grown hg5 (by simp; omega) (fun g hg => (HL3.out.row.lt g hg).1)
        have HX5 := hide (HX3.out.keep hb5 (Nat.lt_succ_self _))
        have HV5 : Hid ((us ++ [Value.slice ap al ac]).length = j + 1) := by show _ = _; rw [List.length_append, hul2]; rfl
        have HB5 := hide (hbw3.trans (hb5.mono (Nat.le_succ _)))
        clear hown5 hg5 hb5 hrow HL3 HLU HX3
        go_wp2
        go_roundw
        case rel => exact ⟨j + 1, _, by omega, by go_num, HV5, HL5, HX5, HB5.out⟩
        case measure => simp [intOf]; omega
    · obtain rfl : j = cs.length := by omega
      obtain ⟨W0, hW0⟩ : ∃ W, W = wr := ⟨wr, rfl⟩
      subst hW0
      have hr0 := hL.out.row
      rw [hul2] at hr0
      obtain ⟨gb, gc, hge, hgb1, hgb2, hgc1, hgc2⟩ := owns_form hr0 (by omega)
      have hge' : hp = some ⟨gb, 0, none⟩ ∧ hc = gc := by simpa using hge
      obtain ⟨rfl, rfl⟩ := hge'
      have g1 := hX.out.c1
      have HR0 := hide hr0
      rw [hul2]
      clear hge hr0
      go_wp2_with fail
      refine (rounds_ok n W0 (by omega) h2).mono ?_
      rintro e w2 ⟨r0, rfl, hro, hb2⟩
      obtain ⟨rg, rc, rfl, hrg1, hrg2, hrc, hrc2⟩ := owns_form hro (by omega)
      have hbs2 := hb2.size
      have HRR : Hid (RR W0.heap.size n (allOf ts SS ls) (w2.alloc (.cells #[.slice (some ⟨rg, 0, none⟩) n rc] 26)) (0 * ts.length) (.slice (some ⟨rg, 0, none⟩) n rc) (.slice (some ⟨w2.heap.size, 0, none⟩) 1 1) [.slice (some ⟨rg, 0, none⟩) n rc]) := by
        rw [Nat.zero_mul]
        exact ⟨LL.one (X := rnd n) (by rw [rnd_length]; exact hro) hbs2, hro.alloc _⟩
      have HB2 := hide (hb2.alloc hbs2 (.cells #[.slice (some ⟨rg, 0, none⟩) n rc] 26))
      have hGl : ∀ g, g ∈ ls.map (fun l => calledBy ts (SS.getD l.toNat [])) → g.length = ts.length := by
        intro g hg
        obtain ⟨l, hl, rfl⟩ := List.mem_map.1 hg
        obtain ⟨l1, l2⟩ := HIN.out l hl
        exact calledBy_length (HSS.out l.toNat (by omega)).2.2
      have HGL := hide hGl
      have HFM : Hid (∀ t, t ∈ allOf ts SS ls → tsz t = n) := by
        show ∀ t, _ → _
        intro t ht
        obtain ⟨g, hg, htg⟩ := List.mem_flatten.1 ht
        obtain ⟨l, hl, rfl⟩ := List.mem_map.1 hg
        obtain ⟨l1, l2⟩ := HIN.out l hl
        exact calledBy_mem HTS.out (HSS.out l.toNat (by omega)).2.1 t htg
      clear hro hb2 hGl g1
      have HLLL := hide hL.out
      have hW0s := hbs
      have hW0b := hbw
      clear hL hX
      go_wp2
      go_loopw [12, 14, 49] (fun r rows i wr => ∃ (k : Nat) (vs : List Value), k ≤ ls.length ∧ i = .int .i64 k ∧ Hid (RR W0.heap.size n (allOf ts SS ls) wr (k * ts.length) r rows vs) ∧ Below W0.heap.size W0 wr) (fun _ _ i _ => ls.length - (intOf i).toNat)
      case atStart => exact ⟨0, _, by omega, rfl, HRR, HB2.out⟩
      case round =>
        clear HRR HB2
        obtain ⟨k, vs, hk, rfl, hR, hbk⟩ := hrel
        have hbks := hbk.size
        obtain ⟨yp, yc, rfl⟩ := owns_slice hR.out.ll.row
        obtain ⟨xp, xc, rfl⟩ := owns_slice hR.out.row
        have hvl : vs.length = k * ts.length + 1 := by rw [hR.out.ll.len, leadTo_length]
        rw [hvl]
        by_cases hlt2 : k < ls.length
        · rcases HI.out with ⟨h0, _⟩ | ⟨lb, lo, lcap, hle, hl0, hlc0, hlm, hlb, hlcell⟩
          · rw [h0] at hN1; simp at hN1
          obtain ⟨rfl, rfl⟩ : lp = some ⟨lb, lo, none⟩ ∧ lc = lcap := by simpa using hle
          obtain ⟨y, hy, gl⟩ := cellAt hlcell hlt2
          have hbww : Below w.heap.size w wr := hW0b.trans (hbk.mono hW0s)
          have gl2 := (hbww.cell (p := ⟨lb, lo + k, none⟩) hlb).trans gl
          have hyk : ls[k] = y := by rw [← hy.out, List.getElem?_eq_getElem hlt2, Option.getD_some]
          obtain ⟨y1, y2⟩ := HIN.out y (by rw [← hyk]; exact List.getElem_mem hlt2)
          obtain ⟨c, rfl⟩ := Int.eq_ofNat_of_zero_le y1
          have hcl : c < cs.length := by omega
          obtain ⟨s1, s2, s3⟩ := HSS.out c hcl
          have gh := (hbk.cell (p := ⟨gb, c, none⟩) hgb2).trans (owns_val HR0.out hcl)
          obtain ⟨ys, hys⟩ := HLLL.out.all c (by rw [hul2]; exact hcl)
          have hZl := calledBy_length s3
          have hZn := calledBy_mem HTS.out s2
          have hGk : (ls.map (fun l => calledBy ts (SS.getD l.toNat [])))[k]'(by rw [List.length_map]; exact hlt2) = calledBy ts (SS.getD c []) := by
            rw [List.getElem_map, hyk]; rfl
          have HFN := hide (fun q (hq : q < (calledBy ts (SS.getD c [])).length) => flat_next (ls.map (fun l => calledBy ts (SS.getD l.toNat []))) HGL.out (i := k) (q := q) (by rw [List.length_map]; exact hlt2) hGk hq)
          obtain ⟨zb, zo, zc, hze, hzb, hzc, hzm, hzcell⟩ := hys.ints.cell (by rw [List.length_map, hZl]; exact hl1)
          rw [List.length_map, hZl] at hze hzc
          rw [hze] at gh
          have HZC := hide hzcell
          have HZL := hide hZl
          have HZN := hide hZn
          have hPK : (k + 1) * ts.length ≤ 20000 := Nat.le_trans (Nat.mul_le_mul_right _ hlt2) hm
          rw [Nat.succ_mul] at hPK
          have HSM : Hid ((k + 1) * ts.length = k * ts.length + ts.length) := Nat.succ_mul _ _
          clear s1 s2 s3 hys hGk hze hzcell hZl hZn hle gl hlcell hy
          rw [show ls.map (fun l => calledBy ts (SS.getD l.toNat [])) = ls.map (fun l => calledBy ts (SS.getD l.toNat [])) from rfl] at HFN
          change Hid (∀ q (hq : q < (calledBy ts (SS.getD c [])).length), (allOf ts SS ls).take (k * ts.length + q + 1) = (allOf ts SS ls).take (k * ts.length + q) ++ [(calledBy ts (SS.getD c []))[q]]) at HFN
          generalize calledBy ts (SS.getD c []) = Z at *
          have HR2 : Hid (RR W0.heap.size n (allOf ts SS ls) wr (k * ts.length + 0) (.slice xp n xc) (.slice yp (k * ts.length + 1) yc) vs) := by show RR _ _ _ _ _ _ _ _; rw [Nat.add_zero, ← hvl]; exact hR.out
          clear hR
          generalize k * ts.length = P at *
          go_wp2
          go_loopw [12, 14, 58] (fun r rows i wr => ∃ (q : Nat) (vs : List Value), q ≤ ts.length ∧ i = .int .i64 q ∧ Hid (RR W0.heap.size n (allOf ts SS ls) wr (P + q) r rows vs) ∧ Below W0.heap.size W0 wr) (fun _ _ i _ => ts.length - (intOf i).toNat)
          case atStart => exact ⟨0, _, by omega, rfl, HR2, hbk⟩
          case round =>
            clear HR2 hbk hvl
            obtain ⟨q, vs, hq, rfl, hR, hbk⟩ := hrel
            have hbks := hbk.size
            obtain ⟨yp, yc, rfl⟩ := owns_slice hR.out.ll.row
            obtain ⟨xp, xc, rfl⟩ := owns_slice hR.out.row
            have hvl : vs.length = P + q + 1 := by rw [hR.out.ll.len, leadTo_length]
            rw [hvl]
            by_cases hlt3 : q < ts.length
            · have hqz : q < Z.length := by rw [HZL.out]; exact hlt3
              obtain ⟨p, pc, gx, hix⟩ := HZC.out q (by rw [List.length_map]; exact hqz)
              have hgk : (Z.map trow).getD q [] = trow Z[q] := by simp [List.getD, hqz]
              have ht : tsz Z[q] = n := HZN.out _ (List.getElem_mem hqz)
              have hix2 := hix.out
              rw [hgk] at hix2 gx
              have hnx := HFN.out q hqz
              have HTK : Hid (prd n ((allOf ts SS ls).take (P + q + 1)) = by_ (prd n ((allOf ts SS ls).take (P + q))) (trow Z[q])) := by show _ = _; rw [hnx, prd_snoc]
              have hpr := prd_row n ((allOf ts SS ls).take (P + q)) (fun t ht' => HFM.out t (List.mem_of_mem_take ht'))
              have gy := (hbk.cell (p := ⟨zb, zo + q, none⟩) hzb).trans gx
              have HT := hide (times_own _ _ (prd n ((allOf ts SS ls).take (P + q))) (trow Z[q]) wr (Ints.own hR.out.row) (hix2.below hbk) hpr.1 (trow_row _) (by rw [hpr.2]; omega) (by rw [hpr.2]; omega) (by rw [trow_length, hpr.2, ht]))
              rw [hpr.2, ← HTK.out] at HT
              clear hnx hix hix2 hgk gx hpr HTK
              rw [trow_length, ht] at gy HT
              clear ht
              go_wp2_with fail
              refine HT.out.mono ?_
              rintro e w4 ⟨rn, rfl, hrn, hb4⟩
              obtain ⟨g', rc', rfl, hg3, hg4, hrc3, hrc4⟩ := owns_form hrn (by omega)
              have hL4 := hR.out.ll.below hb4
              have hbs4 := hb4.size
              have hbk4 : Below W0.heap.size W0 w4 := hbk.trans (hb4.mono hbks)
              have hrn' := owns_base hrn hbks
              have hrow4 := hL4.row
              rw [hvl] at hrow4
              have HL4 := hide hL4
              have HRN := hide hrn'
              clear hrn hrn' hL4 HT hb4 hR gy
              go_wp2_with (at_builtin; refine wpList_append_own _ rfl _ _ 22 rfl W0.heap.size 26 j0 (.slice none 0 0) 1 24 Tryd.underlying22 hji hq0 hq1 hq2 rfl (by decide) _ _ _ rfl (hrow4.alloc _) ⟨w4.heap.size, 0, none⟩ 1 1 [.slice (some ⟨g', 0, none⟩) n rc'] rfl rfl ?e1 ?e2 ?e3 ?e4 ?e5 ?_)
              case e1 => exact cell_one_new _ _ _
              case e2 => intro u hu; simp at hu; subst hu; rfl
              case e3 => unfold maxLen; omega
              case e4 => omega
              case e5 => simp; omega
              · intro v' w5 hown5 hg5 _
                rw [← hvl] at hown5 hg5
                have HR5 : Hid (RR W0.heap.size n (allOf ts SS ls) w5 (P + (q + 1)) (.slice (some ⟨g', 0, none⟩) n rc') v' (vs ++ [.slice (some ⟨g', 0, none⟩) n rc'])) := by
                  refine ⟨?_, HL4.out.kept HRN.out hg5⟩
                  rw [← Nat.add_assoc, leadTo_snoc]
                  refine HL4.out.push ?_ hown5 hg5
                  rw [(prd_row n ((allOf ts SS ls).take (P + q + 1)) (fun t ht' => HFM.out t (List.mem_of_mem_take ht'))).2]
                  exact HRN.out
                have HB5 := hide (HL4.out.step hbk4 (Nat.le_refl _) (by omega) hg5)
                clear hown5 hg5 hrow4 HL4 HRN
                go_wp2
                go_roundw
                case rel => exact ⟨q + 1, _, by omega, by go_num, HR5, HB5.out⟩
                case measure => simp [intOf]; omega
            · obtain rfl : q = ts.length := by omega
              have HR3 : Hid (RR W0.heap.size n (allOf ts SS ls) wr ((k + 1) * ts.length) (.slice xp n xc) (.slice yp (P + ts.length + 1) yc) vs) := by show RR _ _ _ _ _ _ _ _; rw [HSM.out, ← hvl]; exact hR.out
              clear hR
              go_wp2
              go_roundw
              case rel => exact ⟨k + 1, _, by omega, by go_num, HR3, hbk⟩
              case measure => simp [intOf]; omega
        · obtain rfl : k = ls.length := by omega
          have HF := hide hR.out.ll
          clear hR
          rw [hvl] at HF
          have HFin : Hid (Below w.heap.size w wr) := hW0b.trans (hbk.mono hW0s)
          go_wp2
          go_ret2
          exact ⟨_, vs, rfl, HF.out.low hW0s, HFin.out⟩

end Go.Proofs.YtenpkhalgkodbaaDoor

/- Contract: the answer's TouchRows. -/
namespace Go.Proofs.YtenpkhalgkodbaaDoor
open Go.RowKit
set_option maxRecDepth 20000
set_option linter.unusedVariables false

theorem frW_prd (n : Nat) (F A : List (List Bool)) (j : Nat) : frW (prd n F) A j = prd n (F ++ A.take j) := by
  unfold frW prd
  rw [List.foldl_append]

/-- A lead more. -/
theorem leadTo_more (n : Nat) (F A : List (List Bool)) {k : Nat} (hF : F.length = k) : leadTo n (F ++ A) (k + A.length) = leadTo n F k ++ (frL (prd n F) A A.length).drop 1 := by
  unfold leadTo frL
  rw [show k + A.length + 1 = (k + 1) + A.length from by omega, List.range_add, List.map_append]
  congr 1
  · refine List.map_congr_left (fun j hj => ?_)
    have hj' : j < k + 1 := by simpa using hj
    rw [List.take_append_of_le_length (by omega)]
  · rw [List.map_map]
    have : (List.range (A.length + 1)) = 0 :: (List.range A.length).map (fun j => j + 1) := by
      rw [List.range_succ_eq_map]
    rw [this, List.map_cons, List.drop_succ_cons, List.drop_zero, List.map_map]
    refine List.map_congr_left (fun j _ => ?_)
    show prd n ((F ++ A).take (k + 1 + j)) = frW (prd n F) A (j + 1)
    rw [frW_prd]
    congr 1
    rw [show k + 1 + j = F.length + (j + 1) from by omega, List.take_length_add_append]

theorem allOf_snoc (ts : List (List Bool)) (SS : List (List (List Bool))) (t : List Nat) (c : Nat) : allOf ts SS (nI (t ++ [c])) = allOf ts SS (nI t) ++ calledBy ts (SS.getD c []) := by
  simp [allOf, nI]

theorem take_snocN {t : List Nat} {k : Nat} (h : k < t.length) : t.take (k + 1) = t.take k ++ [t.getD k 0] := by
  rw [List.take_succ_eq_append_getElem h]
  simp [List.getD, List.getElem?_eq_getElem h]

theorem OwnAll.drop {w : World} {base : Nat} : ∀ {us : List Value} {xs : List (List Int)} (k : Nat), OwnAll w base us xs → OwnAll w base (us.drop k) (xs.drop k)
  | us, xs, 0, h => h
  | [], [], k + 1, _ => trivial
  | u :: us, x :: xs, k + 1, h => OwnAll.drop k h.2
  | [], _ :: _, _ + 1, h => h.elim
  | _ :: _, [], _ + 1, h => h.elim

end Go.Proofs.YtenpkhalgkodbaaDoor
