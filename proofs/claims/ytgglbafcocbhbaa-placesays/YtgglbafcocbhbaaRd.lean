/- A reader of changes in memory; contracts: needRoom, needChange, mark, add. -/
import Derived.Test.YtgglbafcocbhbaaMach
import Derived.Test.YtgglbafcocbhbaaLLp
import Derived.Test.YtgglbafcocbhbaaAppK
namespace Go.Proofs.Ytgglbafcocbhbaa
open Go.RowKit

/-- A fault that is thrown. -/
def thrown (k : Int) : Ending := .panicked [{ v := .iface 74 (.int .i64 k), recovered := false }]

/-- A reader in memory. -/
structure RdAt (w : World) (R D : Nat) (n : Int) (av bv ov : Value) (avs bvs : List Value) (st : RS) : Prop where
  blk : w.heap[R]? = some (.cells #[.int .i64 n, av, bv, .bool st.marked, .bool st.mirrored, ov, .bool st.dot] 77)
  all : LL w (R + 1) av avs st.all
  block : LL w (R + 1) bv bvs st.block
  opn : w.ownsRow D 3 1 ov st.opn.length (st.opn.map (Value.int .i64))
  inner : ∀ u, u ∈ avs ++ bvs → ∀ b, u.ownBlock = some b → b < D
  sep : av.ownBlock = none ∨ av.ownBlock ≠ bv.ownBlock
  low : R + 1 ≤ D
  high : D ≤ w.heap.size
  nilo : st.opn = [] → ov = .slice none 0 0

/-- .. somewhere. -/
def Rd (w : World) (R : Nat) (n : Int) (st : RS) : Prop := ∃ D av bv ov avs bvs, RdAt w R D n av bv ov avs bvs st

theorem RdAt.lt {w : World} {R D : Nat} {n : Int} {av bv ov : Value} {avs bvs : List Value} {st : RS} (h : RdAt w R D n av bv ov avs bvs st) : R < w.heap.size := (Array.getElem?_eq_some_iff.1 h.blk).1

theorem cells7 {w : World} {R : Nat} {a b c d e f g : Value} {t : TypeId} (h : w.heap[R]? = some (.cells #[a, b, c, d, e, f, g] t)) :
    w.cell? ⟨R, 0, none⟩ = some a ∧ w.cell? ⟨R, 1, none⟩ = some b ∧ w.cell? ⟨R, 2, none⟩ = some c ∧ w.cell? ⟨R, 3, none⟩ = some d ∧ w.cell? ⟨R, 4, none⟩ = some e ∧ w.cell? ⟨R, 5, none⟩ = some f ∧ w.cell? ⟨R, 6, none⟩ = some g := by
  simp [World.cell?, h]

theorem frozen7 {w : World} {R : Nat} {c : Array Value} {t : TypeId} (h : w.heap[R]? = some (.cells c t)) (j : Nat) : w.frozen? ⟨R, j, none⟩ = false := by
  simp [World.frozen?, h]

theorem heap_set7 {w : World} {R j : Nat} {c : Array Value} {t : TypeId} {x : Value} (h : w.heap[R]? = some (.cells c t)) : (w.setCell ⟨R, j, none⟩ x).heap[R]? = some (.cells (c.setIfInBounds j x) t) := by
  simp [World.setCell, Array.getElem?_modify, h]

theorem LL.setR {w : World} {R j : Nat} {v x : Value} {vs : List Value} {xss : List (List Int)} (h : LL w (R + 1) v vs xss) : LL (w.setCell ⟨R, j, none⟩ x) (R + 1) v vs xss :=
  ⟨ownsRow_setCell_below h.row (by exact Nat.lt_succ_self R) _, h.all.mono (fun _ _ _ h' => ownsRow_setCell_below h' (by exact Nat.lt_succ_self R) _)⟩

section
variable {w : World} {R D : Nat} {n : Int} {av bv ov : Value} {avs bvs : List Value} {st : RS}

/-- One of its flags is set. -/
theorem RdAt.flags (h : RdAt w R D n av bv ov avs bvs st) (a b c : Bool) (j : Nat) (x : Value)
    (hx : (#[.int .i64 n, av, bv, .bool st.marked, .bool st.mirrored, ov, .bool st.dot] : Array Value).setIfInBounds j x = #[.int .i64 n, av, bv, .bool a, .bool b, ov, .bool c]) :
    RdAt (w.setCell ⟨R, j, none⟩ x) R D n av bv ov avs bvs { st with marked := a, mirrored := b, dot := c } :=
  ⟨by rw [heap_set7 h.blk, hx], h.all.setR, h.block.setR, ownsRow_setCell_below h.opn (by exact h.low) _, h.inner, h.sep, h.low, by simp [World.setCell]; exact h.high, h.nilo⟩

theorem LL.lt {w : World} {base : Nat} {v : Value} {vs : List Value} {xss : List (List Int)} (h : LL w base v vs xss) : ∀ u, u ∈ vs → ∀ b, u.ownBlock = some b → b < w.heap.size := by
  have ha := h.all
  clear h
  intro u hu b hb
  induction vs generalizing xss with
  | nil => cases hu
  | cons x xs ih =>
    cases xss with
    | nil => exact ha.elim
    | cons y ys =>
      rcases List.mem_cons.1 hu with rfl | hu
      · exact (ha.1.lt b hb).2
      · exact ih ha.2 hu

/-- The signs are taken out. -/
theorem RdAt.shut (h : RdAt w R D n av bv ov avs bvs st) : RdAt (w.setCell ⟨R, 5, none⟩ (.slice none 0 0)) R w.heap.size n av bv (.slice none 0 0) avs bvs { st with opn := [] } := by
  refine ⟨by rw [heap_set7 h.blk]; rfl, h.all.setR, h.block.setR, World.ownsRow_nil _ _ _ _, ?_, h.sep, h.lt, by simp [World.setCell], fun _ => rfl⟩
  intro u hu b hb
  exact Nat.lt_of_lt_of_le (h.inner u hu b hb) h.high

/-- The world goes on, its own memory apart. -/
theorem RdAt.later {w' : World} (h : RdAt w R D n av bv ov avs bvs st) (hb : Below w.heap.size w w') : RdAt w' R D n av bv ov avs bvs st :=
  ⟨(hb.block R h.lt).trans h.blk, h.all.below hb, h.block.below hb, owns_below h.opn hb (Nat.le_refl _), h.inner, h.sep, h.low, Nat.le_trans h.high hb.size, h.nilo⟩

end

/-- Iterators stay as they are. -/
def Iters (w w' : World) : Prop := ∀ (k : Nat) (s : ByteArray) (p : Nat), w.heap[k]? = some (.stringIter s p) → w'.heap[k]? = some (.stringIter s p)

/-- Blocks ahead of R, and iterators, stay as they are. -/
structure Bel (R : Nat) (w w' : World) : Prop where
  below : Below R w w'
  iters : Iters w w'

theorem Bel.refl (R : Nat) (w : World) : Bel R w w := ⟨Below.refl _ _, fun _ _ _ h => h⟩
theorem Bel.trans {R : Nat} {a b c : World} (h1 : Bel R a b) (h2 : Bel R b c) : Bel R a c := ⟨h1.below.trans h2.below, fun k s p h => h2.iters k s p (h1.iters k s p h)⟩
theorem Bel.setCell {R : Nat} {a w : World} (h : Bel R a w) {p : Addr} (hp : R ≤ p.block) (v : Value) : Bel R a (w.setCell p v) := by
  refine ⟨h.below.setCell hp v, fun k s q hk => ?_⟩
  have h1 := h.iters k s q hk
  simp only [World.setCell, Array.getElem?_modify]
  split
  · rw [h1]; rfl
  · exact h1
theorem Bel.of {R : Nat} {w w' : World} (h : Below w.heap.size w w') (hR : R ≤ w.heap.size) : Bel R w w' := by
  refine ⟨h.mono hR, fun k s p hk => ?_⟩
  rw [h.block k (Array.getElem?_eq_some_iff.1 hk).1]
  exact hk
theorem Bel.alloc {R : Nat} {a w : World} (h : Bel R a w) (hs : R ≤ w.heap.size) (o : Obj) : Bel R a (w.alloc o) := h.trans (Bel.of ((Below.refl _ _).alloc (Nat.le_refl _) o) hs)
theorem Bel.drew {R : Nat} {a w : World} (h : Bel R a w) : Bel R a w.drew := ⟨h.below.drew, h.iters⟩
theorem Bel.grown {w w2 : World} {R D k : Nat} {u : Value} {us : List Value} {e : TypeId} (hu : w.ownsRow D e 1 u k us) (hR : R + 1 ≤ D) (hl : R ≤ w.heap.size) (hg : w.grownBy w2 u.ownBlock) : Bel R w w2 := by
  refine ⟨⟨hg.os, hg.tape, hg.output, hg.size, fun j hj => hg.block j (by omega) (fun e => by have := (hu.lt j e.symm).1; omega)⟩, fun j s p hj => ?_⟩
  rw [hg.block j (Array.getElem?_eq_some_iff.1 hj).1 (fun e => ?_)]
  · exact hj
  · rcases hu.2 with ⟨rfl, _⟩ | ⟨g, cap, cur, rfl, _, hh, _⟩
    · cases e
    · have : j = g := Option.some.inj e
      subst this
      rw [hj] at hh
      cases hh

/-- What a step of the reader leaves. -/
def Goes (w : World) (R : Nat) (n : Int) (p : Int × RS) (e : Ending) (w' : World) : Prop := Bel R w w' ∧ ((p.1 = 0 ∧ e = .returned (.tuple #[]) ∧ Rd w' R n p.2) ∨ (p.1 ≠ 0 ∧ e = thrown p.1))

theorem Goes.ok {w w' : World} {R : Nat} {n : Int} {p : Int × RS} {st : RS} (hp : p = (0, st)) (hb : Bel R w w') (hr : Rd w' R n st) : Goes w R n p (.returned (.tuple #[])) w' := by
  subst hp; exact ⟨hb, Or.inl ⟨rfl, rfl, hr⟩⟩

theorem Goes.bad {w w' : World} {R : Nat} {n k : Int} {p : Int × RS} (hp : p.1 = k) (hk : k ≠ 0) (hb : Bel R w w') : Goes w R n p (thrown k) w' := by
  subst hp; exact ⟨hb, Or.inr ⟨hk, rfl⟩⟩

set_option maxHeartbeats 400000 in
theorem needRoom_any (v : Value) (vs : List Value) (w : World) (base : Nat) (h : w.ownsRow base 22 1 v vs.length vs) (hl : vs.length ≤ 1000000) :
    Calls Try.prog 85 #[v] w fun e w' => e = (if 200 < vs.length then thrown 3 else .returned (.tuple #[])) ∧ w = w' := by
  obtain ⟨p, c, rfl⟩ := owns_slice h
  clear h
  by_cases h2 : 200 < vs.length
  · rw [if_pos h2]
    go_enter Try.func85, Try.ntmps85
    go_wp2
    exact ⟨rfl, rfl, rfl⟩
  · rw [if_neg h2]
    go_enter Try.func85, Try.ntmps85
    go_wp2
    exact bodyPost_end (results_none rfl _ _ _) rfl ⟨rfl, rfl⟩

set_option maxRecDepth 20000 in
set_option maxHeartbeats 1000000 in
theorem needChange_any (R : Nat) (n k : Int) (st : RS) (w : World) (h : Rd w R n st) :
    Calls Try.prog 66 #[.pointer (some ⟨R, 0, none⟩), .int .i64 k] w fun e w' => e = (if st.needs = true then thrown k else .returned (.tuple #[])) ∧ w = w' := by
  obtain ⟨D, av, bv, ov, avs, bvs, h⟩ := h
  obtain ⟨c0, c1, c2, c3, c4, c5, c6⟩ := cells7 h.blk
  obtain ⟨p, c, rfl⟩ := owns_slice h.block.row
  have hl := h.block.len
  have HB : Hid (st.block = [] ↔ bvs.length = 0) := by rw [hl]; exact List.length_eq_zero_iff.symm
  clear h hl c0 c1 c3 c4 c5
  unfold RS.needs
  generalize hd : st.dot = d at *
  by_cases hz : bvs.length = 0
  · rw [decide_eq_true (HB.out.2 hz), Bool.true_or, if_pos rfl]
    rw [hz] at c2
    go_enter Try.func66, Try.ntmps66
    go_wp2
    exact ⟨rfl, rfl, rfl⟩
  · rw [decide_eq_false (fun e => hz (HB.out.1 e)), Bool.false_or]
    have hne : (((bvs.length : Nat) : Int) == 0) = false := by rw [beq_eq_false_iff_ne]; omega
    cases d with
    | true =>
      rw [if_pos rfl]
      go_enter Try.func66, Try.ntmps66
      go_wp2
      exact ⟨rfl, rfl, rfl⟩
    | false =>
      rw [if_neg (by decide)]
      go_enter Try.func66, Try.ntmps66
      go_wp2
      exact bodyPost_end (results_none rfl _ _ _) rfl ⟨rfl, rfl⟩

set_option maxRecDepth 20000 in
set_option maxHeartbeats 1000000 in
theorem mark_any (R : Nat) (n : Int) (m : Bool) (st : RS) (w : World) (h : Rd w R n st) :
    Calls Try.prog 68 #[.pointer (some ⟨R, 0, none⟩), .bool m] w fun e w' => Goes w R n (st.mark m) e w' := by
  obtain ⟨D, av, bv, ov, avs, bvs, h⟩ := h
  have hblk := h.blk
  obtain ⟨c0, c1, c2, c3, c4, c5, c6⟩ := cells7 h.blk
  have f3 := frozen7 h.blk 3
  have f4 := frozen7 h.blk 4
  obtain ⟨p, c, hbe⟩ := owns_slice h.block.row
  have hl := h.block.len
  have HB : Hid (st.block = [] ↔ bvs.length = 0) := by rw [hl]; exact List.length_eq_zero_iff.symm
  have HH := hide h
  rw [hbe] at c2
  clear hl c0 c1 c5 c6 hblk
  cases hm : st.marked with
  | true =>
    have HM : Hid ((st.mark m).1 = 4) := by show _ = _; unfold RS.mark; rw [if_pos (Or.inl hm)]
    rw [hm] at c3
    clear h hbe
    go_enter Try.func68, Try.ntmps68
    go_wp2
    exact ⟨rfl, Goes.bad HM.out (by decide) (Bel.refl _ _)⟩
  | false =>
    rw [hm] at c3
    by_cases hz : bvs.length = 0
    · have he := HB.out.2 hz
      have HM : Hid (st.mark m = (0, { st with marked := true, mirrored := m })) := by show _ = _; unfold RS.mark; rw [if_neg (by simp [he, hm])]
      have hR := (h.flags true st.mirrored st.dot 3 (.bool true) rfl)
      have hR2 := (hR.flags true m st.dot 4 (.bool m) rfl)
      have HR2 := hide hR2
      have hB : Bel R w ((w.setCell ⟨R, 3, none⟩ (.bool true)).setCell ⟨R, 4, none⟩ (.bool m)) := ((Bel.refl R w).setCell (p := ⟨R, 3, none⟩) (Nat.le_refl _) _).setCell (p := ⟨R, 4, none⟩) (Nat.le_refl _) _
      rw [hz] at c2
      clear h hbe hR hR2 hm hz he
      go_enter Try.func68, Try.ntmps68
      go_wp2
      exact bodyPost_end (results_none rfl _ _ _) rfl (Goes.ok HM.out hB ⟨D, av, bv, ov, avs, bvs, HR2.out⟩)
    · have HM : Hid ((st.mark m).1 = 4) := by show _ = _; unfold RS.mark; rw [if_pos (Or.inr (fun e => hz (HB.out.1 e)))]
      have hpos : (0 : Int) < ((bvs.length : Nat) : Int) := by omega
      clear h hbe
      go_enter Try.func68, Try.ntmps68
      go_wp2
      exact ⟨rfl, Goes.bad HM.out (by decide) (Bel.refl _ _)⟩

end Go.Proofs.Ytgglbafcocbhbaa
