/- Joined: XtB, SaB, SaC, SaD, SaE, SaF, SaL, SbS, SbA, AppV, TtM, TtN, Ark, RankInj. -/
import Derived.Test.YtenpkhalgkodbaaDoorJ8
import Derived.Test.YtenpkhalgkodbaaDoorJ6
import Derived.Deep.Cut
import Derived.Deep.RegionHeld3
import Derived.Laws.StructEq
import Derived.Test.YtenpkhalgkodbaaDoorJ7
import Derived.Test.YtenpkhalgkodbaaDoorJ4
import Derived.Test.YtenpkhalgkodbaaDoorJ3
import Derived.Shelf.Spec.SlicesGrow
import Derived.Test.YtenpkhalgkodbaaDoorJ0
import Derived.Deep.WholeRow
import Derived.Deep.MidRow
/- Maps that are sets of numbers: look, len, put, take out; what lies under a walk. -/
namespace Go.Proofs.YtenpkhalgkodbaaDoor
open Go.RowKit Go.Maps Go.ChangeMaps
open Go.WideElems (rg)

/-- Block b is a map[int]int whose keys are these numbers, each once. -/
def ISet (w : World) (b : Nat) (ks : List Nat) : Prop :=
  ks.Nodup ∧ ∃ D : DataW Value, w.ownsMap Tryd.prog 3 heldElem b ks.length D ∧ Maps.size D = ks.length ∧ ∀ a : Nat, Maps.has D (.int .i64 (a : Int)) = decide (a ∈ ks)

theorem ISet.lt {w : World} {b : Nat} {ks : List Nat} (h : ISet w b ks) : b < w.heap.size := by
  obtain ⟨_, D, h1, _⟩ := h; exact h1.lt

theorem ISet.of_block {w w' : World} {b : Nat} {ks : List Nat} (h : ISet w b ks) (hb : w'.heap[b]? = w.heap[b]?) : ISet w' b ks := by
  obtain ⟨hn, D, ⟨es, c, h1, h2⟩, h3⟩ := h; exact ⟨hn, D, ⟨es, c, hb.trans h1, h2⟩, h3⟩

theorem int_lit_ne {x a : Nat} (e : x ≠ a) : (Lit.int .i64 (x : Int)) ≠ Lit.int .i64 (a : Int) := fun h => e (by have := (Lit.int.inj h).2; omega)

/-! at the operation -/
section
variable {ops : Array Oper} {rest : List Oper} {o : Oper} {a : Act} {w : World} {Q : Exit → Act → World → Prop}

end

/-- Below block number B all is as it was, but for two blocks. -/
structure Frm (B sb mb : Nat) (w w' : World) : Prop where
  os : w'.os = w.os
  tape : w'.tape = w.tape
  output : w'.output = w.output
  size : w.heap.size ≤ w'.heap.size
  block : ∀ b, b < B → b ≠ sb → b ≠ mb → w'.heap[b]? = w.heap[b]?

theorem Frm.refl (B sb mb : Nat) (w : World) : Frm B sb mb w w := ⟨rfl, rfl, rfl, Nat.le_refl _, fun _ _ _ _ => rfl⟩

theorem Frm.trans {B sb mb : Nat} {a b c : World} (h : Frm B sb mb a b) (k : Frm B sb mb b c) : Frm B sb mb a c :=
  ⟨k.os.trans h.os, k.tape.trans h.tape, k.output.trans h.output, Nat.le_trans h.size k.size, fun x h1 h2 h3 => (k.block x h1 h2 h3).trans (h.block x h1 h2 h3)⟩

theorem Frm.of_below {B sb mb X : Nat} {w w' : World} (h : Below X w w') (hX : B ≤ X) : Frm B sb mb w w' := ⟨h.os, h.tape, h.output, h.size, fun x h1 _ _ => h.block x (by omega)⟩

theorem Frm.below {B sb mb X : Nat} {w w' : World} (h : Frm B sb mb w w') (hX : X ≤ B) (h1 : X ≤ sb) (h2 : X ≤ mb) : Below X w w' := ⟨h.os, h.tape, h.output, h.size, fun x hx => h.block x (by omega) (by omega) (by omega)⟩

theorem Frm.set {B sb mb : Nat} {w w' : World} (h : Frm B sb mb w w') (j : Nat) (u : Value) : Frm B sb mb w (w'.setCell ⟨sb, j, none⟩ u) :=
  h.trans ⟨rfl, rfl, rfl, by simp [World.setCell], fun x _ h2 _ => Below.heap_setCell _ _ _ _ h2⟩

theorem Frm.turned {B sb mb : Nat} {w w' w'' : World} (h : Frm B sb mb w w') (ht : w'.mapTurned w'' mb) : Frm B sb mb w w'' := by
  obtain ⟨es, c, es', c', h1, rfl⟩ := ht
  refine h.trans ⟨rfl, rfl, rfl, by simp [setBlock], fun x _ _ h3 => ?_⟩
  simp [setBlock, Ne.symm h3]

theorem turned_block {w w' : World} {mb x : Nat} (ht : w.mapTurned w' mb) (hx : x ≠ mb) : w'.heap[x]? = w.heap[x]? := by
  obtain ⟨es, c, es', c', h1, rfl⟩ := ht
  simp [setBlock, Ne.symm hx]

theorem turned_size {w w' : World} {mb : Nat} (ht : w.mapTurned w' mb) : w'.heap.size = w.heap.size := by
  obtain ⟨es, c, es', c', h1, rfl⟩ := ht
  simp [setBlock]

theorem owns_block {w w' : World} {base e n : Nat} {v : Value} {xs : List Value} (h : w.ownsRow base e 1 v n xs) (hb : ∀ g, v.ownBlock = some g → w'.heap[g]? = w.heap[g]?) : w'.ownsRow base e 1 v n xs := by
  obtain ⟨h1, h2⟩ := h
  refine ⟨h1, ?_⟩
  rcases h2 with h2 | ⟨g, cap, cur, hv, hg, hh, r⟩
  · exact Or.inl h2
  · exact Or.inr ⟨g, cap, cur, hv, hg, (hb g (by rw [hv]; rfl)).trans hh, r⟩

theorem cells4 {w1 : World} {B : Nat} {a b c d : Value} {t : TypeId} (h : w1.heap[B]? = some (.cells #[a, b, c, d] t)) :
    w1.cell? ⟨B, 0, none⟩ = some a ∧ w1.cell? ⟨B, 1, none⟩ = some b ∧ w1.cell? ⟨B, 2, none⟩ = some c ∧ w1.cell? ⟨B, 3, none⟩ = some d ∧ w1.frozen? ⟨B, 0, none⟩ = false ∧ w1.frozen? ⟨B, 3, none⟩ = false := by
  simp [World.cell?, World.frozen?, h]

theorem set4 {w1 : World} {B : Nat} {a b c d : Value} {t : TypeId} (h : w1.heap[B]? = some (.cells #[a, b, c, d] t)) (u : Value) : (w1.setCell ⟨B, 3, none⟩ u).heap[B]? = some (.cells #[a, b, c, u] t) := by
  simp [World.setCell, Array.getElem?_modify, h]

end Go.Proofs.YtenpkhalgkodbaaDoor

/- Maps that are sets of packed rows: look, len, put, take out. -/
namespace Go.Proofs.YtenpkhalgkodbaaDoor
open Go.RowKit Go.Maps Go.ChangeMaps
open Go.WideElems (rg)

theorem laidS : laidOutB Tryd.prog = true := by kernel_rfl

theorem wf_i8_small (m : Nat) (h : m < 12) : (Lit.int .i8 (m : Int)).wf = true := by
  obtain rfl | rfl | rfl | rfl | rfl | rfl | rfl | rfl | rfl | rfl | rfl | rfl : m = 0 ∨ m = 1 ∨ m = 2 ∨ m = 3 ∨ m = 4 ∨ m = 5 ∨ m = 6 ∨ m = 7 ∨ m = 8 ∨ m = 9 ∨ m = 10 ∨ m = 11 := by omega
  all_goals decide

theorem okK_pm (x : Pm) : OkK .i8 x.l := ⟨x.len, fun z hz => by
  have := isRow_lt12 x.row (by rw [x.len]; exact Nat.le_refl _) z hz
  obtain ⟨m, rfl⟩ := Int.eq_ofNat_of_zero_le this.1
  exact wf_i8_small m (by simpa using this.2)⟩

end Go.Proofs.YtenpkhalgkodbaaDoor

/- What lies under a search: rows of packed rows, leads; frames that spare one map. -/
namespace Go.Proofs.YtenpkhalgkodbaaDoor
open Go.RowKit Go.Maps Go.ChangeMaps

/-- All that was there is as it was, but for one block. -/
structure TB (mb : Nat) (w w' : World) : Prop where
  os : w'.os = w.os
  tape : w'.tape = w.tape
  output : w'.output = w.output
  size : w.heap.size ≤ w'.heap.size
  block : ∀ b, b < w.heap.size → b ≠ mb → w'.heap[b]? = w.heap[b]?

theorem TB.refl (mb : Nat) (w : World) : TB mb w w := ⟨rfl, rfl, rfl, Nat.le_refl _, fun _ _ _ => rfl⟩

theorem TB.trans {mb : Nat} {a b c : World} (h : TB mb a b) (k : TB mb b c) : TB mb a c :=
  ⟨k.os.trans h.os, k.tape.trans h.tape, k.output.trans h.output, Nat.le_trans h.size k.size, fun x h1 h2 => (k.block x (Nat.lt_of_lt_of_le h1 h.size) h2).trans (h.block x h1 h2)⟩

theorem TB.below {mb : Nat} {a b c : World} (h : TB mb a b) (k : Below b.heap.size b c) : TB mb a c :=
  h.trans ⟨k.os, k.tape, k.output, k.size, fun x h1 _ => k.block x h1⟩

theorem TB.alloc {mb : Nat} {a b : World} (h : TB mb a b) (o : Obj) : TB mb a (b.alloc o) := h.below ((Below.refl _ _).alloc (Nat.le_refl _) _)

theorem TB.grown {mb D : Nat} {a b c : World} (h : TB mb a b) (hg : b.grownBy c (some D)) (hD : a.heap.size ≤ D) : TB mb a c :=
  ⟨hg.os.trans h.os, hg.tape.trans h.tape, hg.output.trans h.output, Nat.le_trans h.size hg.size, fun x h1 h2 => (hg.block x (Nat.lt_of_lt_of_le h1 h.size) (by intro e; injection e with e; omega)).trans (h.block x h1 h2)⟩

theorem TB.turned {mb : Nat} {a b c : World} (h : TB mb a b) (ht : b.mapTurned c mb) : TB mb a c := by
  obtain ⟨es, k, es', k', h1, rfl⟩ := ht
  refine h.trans ⟨rfl, rfl, rfl, by simp [setBlock], fun x _ h3 => ?_⟩
  simp [setBlock, Ne.symm h3]

theorem TB.drew {mb : Nat} {a b : World} (h : TB mb a b) : TB mb a b.drew := h.trans ⟨rfl, rfl, rfl, Nat.le_refl _, fun _ _ _ => rfl⟩

theorem TB.frm {mb B sb : Nat} {a b : World} (h : TB mb a b) (hB : B ≤ a.heap.size) : Frm B sb mb a b := ⟨h.os, h.tape, h.output, h.size, fun x h1 _ h3 => h.block x (by omega) h3⟩

/-- The slice value v reads as packed rows. -/
def PmsAt (w : World) (v : Value) (X : List Pm) : Prop :=
  (X = [] ∧ ∃ p c, v = .slice p 0 c) ∨
  ∃ b off cap, v = .slice (some ⟨b, off, none⟩) X.length cap ∧ 0 < X.length ∧ X.length ≤ cap ∧ cap ≤ 9223372036854775807 ∧ b < w.heap.size ∧
    ∀ j (hj : j < X.length), w.rangeAt b (off + j * 12) (X[j].l.map (Value.int .i8))

theorem PmsAt.form {w : World} {v : Value} {X : List Pm} (h : PmsAt w v X) : ∃ p cap, v = .slice p X.length cap := by
  rcases h with ⟨rfl, p, c, rfl⟩ | ⟨b, off, cap, h1, _⟩
  · exact ⟨p, c, rfl⟩
  · exact ⟨_, cap, h1⟩

theorem range_block {w w' : World} {b o : Nat} {cs : List Value} (h : w.rangeAt b o cs) (hb : w'.heap[b]? = w.heap[b]?) : w'.rangeAt b o cs := fun j v hv => by
  rw [World.cell?_of_block (w := w) (a := ⟨b, o + j, none⟩) hb]
  exact h j v hv

theorem range_not_map {w : World} {b o mb : Nat} {cs : List Value} {es : Array MapEntry} {k : Nat} (h : w.rangeAt b o cs) (hc : 0 < cs.length) (hm : w.heap[mb]? = some (.map es k)) : b ≠ mb := by
  intro e
  subst e
  have := h 0 cs[0] (by rw [List.getElem?_eq_getElem hc])
  simp [World.cell?, hm] at this

theorem PmsAt.below {w w' : World} {v : Value} {X : List Pm} (h : PmsAt w v X) (ht : Below w.heap.size w w') : PmsAt w' v X := by
  rcases h with h | ⟨b, off, cap, h1, h2, h3, h4, h5, h6⟩
  · exact Or.inl h
  · exact Or.inr ⟨b, off, cap, h1, h2, h3, h4, Nat.lt_of_lt_of_le h5 ht.size, fun j hj => range_block (h6 j hj) (ht.block b h5)⟩

/-- The first of them. -/
theorem PmsAt.cut {w : World} {b off cap k N : Nat} {X : List Pm} (h : PmsAt w (.slice (some ⟨b, off, none⟩) N cap) X) (hN : X.length = N) (hk : k ≤ N) : PmsAt w (.slice (some ⟨b, off, none⟩) k cap) (X.take k) := by
  rcases Nat.eq_zero_or_pos k with rfl | h0
  · exact Or.inl ⟨rfl, _, _, rfl⟩
  rcases h with ⟨rfl, _⟩ | ⟨b', off', cap', e, h2, h3, h4, h5, h6⟩
  · simp at hN; omega
  · obtain ⟨⟨rfl, rfl⟩, _, rfl⟩ : (b = b' ∧ off = off') ∧ N = X.length ∧ cap = cap' := by simpa using e
    have hl : (X.take k).length = k := by rw [List.length_take]; omega
    refine Or.inr ⟨b, off, cap, by rw [hl], by omega, by omega, h4, h5, fun j hj => ?_⟩
    rw [List.getElem_take]
    exact h6 j (by omega)

end Go.Proofs.YtenpkhalgkodbaaDoor

/- Contracts: search's ring and silence. -/
namespace Go.Proofs.YtenpkhalgkodbaaDoor
open Go.RowKit

/-- Rows of a lead, from a head on. -/
def rws (h : Pm) (X : List Pm) : List Pm := X.map (fun x => h * x)

theorem rws_length (h : Pm) (X : List Pm) : (rws h X).length = X.length := by simp [rws]

theorem rws_take_succ (h : Pm) (X : List Pm) {i : Nat} (hi : i < X.length) : rws h (X.take (i + 1)) = rws h (X.take i) ++ [h * X[i]] := by
  unfold rws; rw [List.take_succ_eq_append_getElem hi, List.map_append]; rfl

end Go.Proofs.YtenpkhalgkodbaaDoor

/- Contract: search's silence. -/
namespace Go.Proofs.YtenpkhalgkodbaaDoor
open Go.RowKit

theorem rws_drop (h : Pm) (X : List Pm) {i : Nat} (hi : i < X.length) : rws h (X.drop i) = h * X[i] :: rws h (X.drop (i + 1)) := by
  unfold rws; rw [List.drop_eq_getElem_cons hi, List.map_cons]

end Go.Proofs.YtenpkhalgkodbaaDoor

/- Packed rows held against each other; plain: what a search finds. -/
namespace Go.Proofs.YtenpkhalgkodbaaDoor
open Go.RowKit Go.Maps

theorem KeyT.lits {K E : TypeId} {q : IntKind} (h : KeyT K E q) {zs : List Int} (hz : OkK q zs) : (kv q zs).formed Tryd.prog K = true ∧ ∃ ls, Tryd.prog.keyLits (Tryd.prog.types.size + 1) K (kv q zs).cells.toList = some ls := by
  obtain ⟨hl, hw⟩ := hz
  have hf : (kv q zs).formed Tryd.prog K = true := by
    unfold kv Value.formed
    rw [h.arr]
    simp [h.cK, hl]
  refine ⟨hf, ?_⟩
  have hcs : (kv q zs).cells.toList = zs.map (Value.int q) := by simp [kv, Value.cells]
  rw [hcs]
  unfold Program.keyLits
  rw [h.arr]
  simp only
  rw [if_pos (by simp [h.cK, hl])]
  obtain ⟨ys, hys⟩ := mapM_some (fun i => Tryd.prog.keyLits Tryd.prog.types.size E (((zs.map (Value.int q)).drop (i * Tryd.prog.cellsOf E)).take (Tryd.prog.cellsOf E))) (List.range 12) (fun i hi => by
    have hi' : i < zs.length := by rw [hl]; simpa using hi
    refine ⟨[.int q zs[i]], ?_⟩
    rw [h.cE, Nat.mul_one]
    have e : ((zs.map (Value.int q)).drop i).take 1 = [.int q zs[i]] := by
      rw [List.drop_eq_getElem_cons (by simpa using hi')]
      simp
    rw [e]
    obtain ⟨d, hd⟩ : ∃ d, Tryd.prog.types.size = d + 1 := pos_succ _ (Nat.lt_of_le_of_lt (Nat.zero_le _) h.low)
    rw [hd]
    unfold Program.keyLits
    rw [h.int]
    simp [hw zs[i] (List.getElem_mem hi')])
  exact ⟨ys.flatten, by rw [hys]; rfl⟩

theorem KeyT.same {K E : TypeId} {q : IntKind} (h : KeyT K E q) {zs zs' : List Int} (hz : OkK q zs) (hz' : OkK q zs') (e : Tryd.prog.keyLits (Tryd.prog.types.size + 1) K (kv q zs).cells.toList = Tryd.prog.keyLits (Tryd.prog.types.size + 1) K (kv q zs').cells.toList) :
    keyOf Tryd.prog K (kv q zs) = keyOf Tryd.prog K (kv q zs') := by
  unfold keyOf
  rw [h.arr]
  simp only
  rw [(h.lits hz).1, (h.lits hz').1, e]

/-! what a search finds -/
section
open Classical

/-- Is a lead rung from a head on without a row that was rung? -/
def okl (S : List Pm) (h : Pm) (X : List Pm) : Prop := ((rws h X).reverse ++ S).Nodup

/-- All touches of so many leads more that are true and come round, in order. -/
noncomputable def sols (G : List (List Pm × Pm)) : Nat → List Pm → Pm → List (List Nat)
  | 0, _, h => if h = 1 then [[]] else []
  | l + 1, S, h => (List.range G.length).flatMap (fun c => if okl S h (G.getD c ([], 1)).1 then (sols G l ((rws h (G.getD c ([], 1)).1).reverse ++ S) (h * (G.getD c ([], 1)).2)).map (fun t => c :: t) else [])

/-- .. by one call. -/
noncomputable def solBy (G : List (List Pm × Pm)) (l : Nat) (S : List Pm) (h : Pm) (c : Nat) : List (List Nat) :=
  if okl S h (G.getD c ([], 1)).1 then (sols G l ((rws h (G.getD c ([], 1)).1).reverse ++ S) (h * (G.getD c ([], 1)).2)).map (fun t => c :: t) else []

/-- .. by the first calls. -/
noncomputable def solTo (G : List (List Pm × Pm)) (l : Nat) (S : List Pm) (h : Pm) (k : Nat) : List (List Nat) := (List.range k).flatMap (solBy G l S h)

end

theorem sols_succ (G : List (List Pm × Pm)) (l : Nat) (S : List Pm) (h : Pm) : sols G (l + 1) S h = solTo G l S h G.length := rfl

theorem solTo_succ (G : List (List Pm × Pm)) (l : Nat) (S : List Pm) (h : Pm) (k : Nat) : solTo G l S h (k + 1) = solTo G l S h k ++ solBy G l S h k := by
  unfold solTo; rw [List.range_succ, List.flatMap_append]; simp

/-- How many beginnings there are at most. -/
def bnd (C : Nat) : Nat → Nat
  | 0 => 0
  | l + 1 => C * (1 + bnd C l)

/-- What is found, so many at most. -/
def fnd (many : Nat) (F : List (List Nat)) (P : List Nat) (A : List (List Nat)) : List (List Nat) := (F ++ A.map (fun t => P ++ t)).take many

theorem fnd_nil {many : Nat} {F : List (List Nat)} (P : List Nat) (h : F.length ≤ many) : fnd many F P [] = F := by
  unfold fnd; rw [List.map_nil, List.append_nil, List.take_of_length_le h]

theorem fnd_full {many : Nat} {F : List (List Nat)} {P : List Nat} {A : List (List Nat)} (B : List (List Nat)) (h : ¬ (fnd many F P A).length < many) : fnd many F P (A ++ B) = fnd many F P A := by
  unfold fnd at h ⊢
  rw [List.map_append, ← List.append_assoc]
  have h1 : many ≤ (F ++ A.map (fun t => P ++ t)).length := by
    rw [List.length_take] at h
    omega
  rw [List.take_append_of_le_length h1]

theorem fnd_more {many : Nat} {F : List (List Nat)} {P : List Nat} {A : List (List Nat)} (B : List (List Nat)) (h : (fnd many F P A).length < many) : fnd many (fnd many F P A) P B = fnd many F P (A ++ B) := by
  have h1 : (F ++ A.map (fun t => P ++ t)).length < many := by
    unfold fnd at h
    rw [List.length_take] at h
    omega
  unfold fnd
  rw [List.take_of_length_le (Nat.le_of_lt h1), List.map_append, List.append_assoc]

theorem fnd_len (many : Nat) (F : List (List Nat)) (P : List Nat) (A : List (List Nat)) : (fnd many F P A).length ≤ many := by unfold fnd; rw [List.length_take]; omega

theorem fnd_call (many : Nat) (F : List (List Nat)) (P : List Nat) (c : Nat) (A : List (List Nat)) : fnd many F (P ++ [c]) A = fnd many F P (A.map (fun t => c :: t)) := by
  unfold fnd
  rw [List.map_map]
  congr 2
  refine List.map_congr_left (fun t _ => ?_)
  simp

end Go.Proofs.YtenpkhalgkodbaaDoor

/- Plain: what a search finds is just what is true and comes round, in the order of lists. -/
namespace Go.Proofs.YtenpkhalgkodbaaDoor
open Go.RowKit

/-- The rows of a touch from a head on, without the last one. -/
def tRows (G : List (List Pm × Pm)) : Pm → List Nat → List Pm
  | _, [] => []
  | h, c :: t => rws h (G.getD c ([], 1)).1 ++ tRows G (h * (G.getD c ([], 1)).2) t

/-- .. and the last one. -/
def tEnd (G : List (List Pm × Pm)) : Pm → List Nat → Pm
  | h, [] => h
  | h, c :: t => tEnd G (h * (G.getD c ([], 1)).2) t

theorem ltl_irrefl : ∀ x : List Nat, ¬ Ltl x x
  | [], h => h
  | a :: x, h => by
    rcases (show a < a ∨ (a = a ∧ Ltl x x) from h) with h1 | ⟨_, h1⟩
    · omega
    · exact ltl_irrefl x h1

theorem solBy_mem {G : List (List Pm × Pm)} {l : Nat} {S : List Pm} {h : Pm} {c : Nat} {t : List Nat} (ht : t ∈ solBy G l S h c) : ∃ u, t = c :: u := by
  unfold solBy at ht
  split at ht
  · obtain ⟨u, _, rfl⟩ := List.mem_map.1 ht
    exact ⟨u, rfl⟩
  · cases ht

theorem solTo_heads {G : List (List Pm × Pm)} {l : Nat} {S : List Pm} {h : Pm} {k : Nat} {t : List Nat} (ht : t ∈ solTo G l S h k) : ∃ c u, c < k ∧ t = c :: u := by
  unfold solTo at ht
  obtain ⟨c, hc, ht'⟩ := List.mem_flatMap.1 ht
  obtain ⟨u, rfl⟩ := solBy_mem ht'
  exact ⟨c, u, by simpa using hc, rfl⟩

theorem map_sorted {A : List (List Nat)} (c : Nat) (h : A.Pairwise Ltl) : (A.map (fun t => c :: t)).Pairwise Ltl := by
  rw [List.pairwise_map]
  exact h.imp (fun hab => Or.inr ⟨rfl, hab⟩)

theorem sols_sorted (G : List (List Pm × Pm)) : ∀ (l : Nat) (S : List Pm) (h : Pm), (sols G l S h).Pairwise Ltl
  | 0, S, h => by
    unfold sols
    split
    · exact List.pairwise_singleton _ _
    · exact List.Pairwise.nil
  | l + 1, S, h => by
    rw [sols_succ]
    have key : ∀ k, (solTo G l S h k).Pairwise Ltl := by
      intro k
      induction k with
      | zero => exact List.Pairwise.nil
      | succ k ih =>
        rw [solTo_succ, List.pairwise_append]
        refine ⟨ih, ?_, fun a ha b hb => ?_⟩
        · unfold solBy
          split
          · exact map_sorted k (sols_sorted G l _ _)
          · exact List.Pairwise.nil
        · obtain ⟨c, u, hc, rfl⟩ := solTo_heads ha
          obtain ⟨v, rfl⟩ := solBy_mem hb
          exact Or.inl hc
    exact key G.length

/-- Is a touch true from here on, and does it come round? -/
def TrueFrom (G : List (List Pm × Pm)) : List Pm → Pm → List Nat → Prop
  | _, h, [] => h = 1
  | S, h, c :: t => okl S h (G.getD c ([], 1)).1 ∧ TrueFrom G ((rws h (G.getD c ([], 1)).1).reverse ++ S) (h * (G.getD c ([], 1)).2) t

theorem sols_mem (G : List (List Pm × Pm)) : ∀ (l : Nat) (S : List Pm) (h : Pm) (t : List Nat), t ∈ sols G l S h ↔ t.length = l ∧ (∀ c, c ∈ t → c < G.length) ∧ TrueFrom G S h t
  | 0, S, h, t => by
    unfold sols
    constructor
    · intro ht
      split at ht
      · rename_i h1
        rw [List.mem_singleton] at ht
        subst ht
        exact ⟨rfl, (fun c hc => by cases hc), h1⟩
      · cases ht
    · rintro ⟨h1, _, h3⟩
      obtain rfl : t = [] := List.length_eq_zero_iff.1 h1
      rw [if_pos (show h = 1 from h3)]
      simp
  | l + 1, S, h, t => by
    rw [sols_succ]
    unfold solTo
    rw [List.mem_flatMap]
    constructor
    · rintro ⟨c, hc, ht⟩
      unfold solBy at ht
      split at ht
      · rename_i hok
        obtain ⟨u, hu, rfl⟩ := List.mem_map.1 ht
        obtain ⟨h1, h2, h3⟩ := (sols_mem G l _ _ u).1 hu
        refine ⟨by simp [h1], fun x hx => ?_, hok, h3⟩
        rcases List.mem_cons.1 hx with rfl | hx
        · simpa using hc
        · exact h2 x hx
      · cases ht
    · rintro ⟨h1, h2, h3⟩
      cases t with
      | nil => simp at h1
      | cons c u =>
        refine ⟨c, by simpa using h2 c (by simp), ?_⟩
        unfold solBy
        rw [if_pos h3.1]
        exact List.mem_map.2 ⟨u, (sols_mem G l _ _ u).2 ⟨by simpa using h1, fun x hx => h2 x (List.mem_cons_of_mem _ hx), h3.2⟩, rfl⟩

theorem trueFrom_iff (G : List (List Pm × Pm)) : ∀ (t : List Nat) (S : List Pm) (h : Pm), S.Nodup → (TrueFrom G S h t ↔ (S ++ tRows G h t).Nodup ∧ tEnd G h t = 1)
  | [], S, h, hS => by
    unfold TrueFrom tRows tEnd
    simp [hS]
  | c :: t, S, h, hS => by
    have hp : ((rws h (G.getD c ([], 1)).1).reverse ++ S).Perm (S ++ rws h (G.getD c ([], 1)).1) := List.perm_append_comm.trans ((List.reverse_perm _).append_left S)
    have hp2 : (((rws h (G.getD c ([], 1)).1).reverse ++ S) ++ tRows G (h * (G.getD c ([], 1)).2) t).Perm (S ++ tRows G h (c :: t)) := by
      refine (hp.append_right _).trans ?_
      rw [List.append_assoc]
      exact List.Perm.refl _
    constructor
    · rintro ⟨hok, h2⟩
      obtain ⟨h3, h4⟩ := (trueFrom_iff G t _ _ hok).1 h2
      exact ⟨hp2.nodup_iff.1 h3, h4⟩
    · rintro ⟨h3, h4⟩
      have h5 := hp2.nodup_iff.2 h3
      have hok : okl S h (G.getD c ([], 1)).1 := (List.nodup_append.1 h5).1
      exact ⟨hok, (trueFrom_iff G t _ _ hok).2 ⟨h5, h4⟩⟩

/-- What a search for so many leads finds. -/
theorem found_iff (G : List (List Pm × Pm)) (l : Nat) (t : List Nat) : t ∈ sols G l [] 1 ↔ t.length = l ∧ (∀ c, c ∈ t → c < G.length) ∧ (tRows G 1 t).Nodup ∧ tEnd G 1 t = 1 := by
  rw [sols_mem, trueFrom_iff G t [] 1 List.nodup_nil, List.nil_append]

/-- What is not among the first so many is behind the last of them. -/
theorem behind {A : List (List Nat)} (hA : A.Pairwise Ltl) {g : List Nat} (hg : g ∈ A) {m : Nat} (hm : 1 ≤ m) (hno : g ∉ A.take m) : (A.take m).length = m ∧ Ltl ((A.take m).getD (m - 1) []) g := by
  obtain ⟨j, hj, e⟩ := List.getElem_of_mem hg
  have hmj : m ≤ j := by
    rcases Nat.lt_or_ge j m with h | h
    · exfalso
      apply hno
      rw [← e, show A[j] = (A.take m)[j]'(by rw [List.length_take]; omega) from by rw [List.getElem_take]]
      exact List.getElem_mem _
    · exact h
  have hl : (A.take m).length = m := by rw [List.length_take]; omega
  refine ⟨hl, ?_⟩
  rw [List.getD, List.getElem?_eq_getElem (by omega), Option.getD_some, List.getElem_take, ← e]
  exact List.pairwise_iff_getElem.1 hA (m - 1) j (by omega) hj (by omega)

theorem fnd_top (many : Nat) (A : List (List Nat)) : fnd many [] [] A = A.take many := by
  unfold fnd
  rw [List.nil_append]
  congr 1
  exact (List.map_congr_left (fun t _ => List.nil_append t)).trans (List.map_id _)

/-- A touch from a head on is the touch, changed. -/
theorem tRows_head (G : List (List Pm × Pm)) : ∀ (t : List Nat) (h k : Pm), tRows G (h * k) t = (tRows G k t).map (fun x => h * x) ∧ tEnd G (h * k) t = h * tEnd G k t
  | [], h, k => ⟨rfl, rfl⟩
  | c :: t, h, k => by
    obtain ⟨h1, h2⟩ := tRows_head G t h (k * (G.getD c ([], 1)).2)
    constructor
    · show rws (h * k) _ ++ tRows G (h * k * _) t = (rws k _ ++ tRows G (k * _) t).map _
      rw [List.map_append, ← h1, Pm.mul_assoc]
      congr 1
      unfold rws
      rw [List.map_map]
      exact List.map_congr_left (fun x _ => Pm.mul_assoc h k x)
    · show tEnd G (h * k * _) t = h * tEnd G (k * _) t
      rw [← h2, Pm.mul_assoc]

end Go.Proofs.YtenpkhalgkodbaaDoor

/- Contract: the answer's TouchMay, at a touch that may be. -/
namespace Go.Proofs.YtenpkhalgkodbaaDoor
open Go.RowKit
set_option maxRecDepth 20000
set_option linter.unusedVariables false

set_option maxHeartbeats 4000000 in
theorem rtmay_ok (s : ByteArray) (n : Nat) (vp : Option Addr) (vc : Nat) (X : List (List Int)) (cv : Value) (cs : List (Int × List (List Int))) (lv : Value) (t : List Nat) (w : World) (hs : s.size ≤ 1048576) (hn : isN (arunes s) = true) (h1 : 2 ≤ n) (h2 : n ≤ 12) (hl1 : 1 ≤ X.length) (hl2 : X.length ≤ 200)
    (hv : IntsAll w (.slice vp X.length vc) X) (hX : ∀ k, k < X.length → okc n 0 (X.getD k []) = true) (hcv : CallsAt w cv cs) (hco : CallsOk n X.length cs) (hc1 : 1 ≤ cs.length) (hc2 : cs.length ≤ 8) (hI : Ints w lv (nI t)) (ht1 : 1 ≤ t.length) (ht2 : t.length ≤ 400) (hin : ∀ c, c ∈ t → c < cs.length) (htl : t.length * X.length ≤ 20000) :
    Calls Tryd.prog 12 #[.agg #[.string s, .int .i64 n, .slice vp X.length vc], cv, lv] w fun e w' => e = .returned (.int .i64 0) ∧ Below w.heap.size w w' := by
  have HB0 := hide ((Below.refl w.heap.size w).alloc (Nat.le_refl _) (mbox s n (.slice vp X.length vc)))
  have HCM := hide (rcalls_ok s n vp vc X cv cs (w.alloc (mbox s n (.slice vp X.length vc))) hs hn h1 h2 hl1 hl2 (hv.below HB0.out) hX (hcv.below HB0.out) hco hc1 hc2)
  obtain ⟨m, hm⟩ : ∃ m, Hid (X.length = m) := ⟨_, rfl⟩
  obtain ⟨cb, co, cc, rfl, _, hcc1, hcc2, _⟩ := hcv
  obtain ⟨C, hC⟩ : ∃ C, Hid (cs.length = C) := ⟨_, rfl⟩
  obtain ⟨T, hT⟩ : ∃ T, Hid (t.length = T) := ⟨_, rfl⟩
  obtain ⟨lp, lc, rfl⟩ : ∃ lp lc, lv = .slice lp T lc := by
    obtain ⟨p, c, e⟩ := hI.form
    rw [show (nI t).length = T from by simp [nI]; exact hT.out] at e
    exact ⟨p, c, e⟩
  have HL : ∀ k, k < T → Hid (∃ lb lo, lp = some ⟨lb, lo, none⟩ ∧ T ≤ lc ∧ lc ≤ 9223372036854775807 ∧ lb < w.heap.size ∧ t.getD k 0 < C ∧ w.cell? ⟨lb, lo + k, none⟩ = some (.int .i64 ((t.getD k 0 : Nat) : Int))) := fun k hk => by
    have hkt : k < t.length := by rw [hT.out]; exact hk
    have hcC : t.getD k 0 < C := by rw [← hC.out]; exact hin _ (by simp [List.getD, hkt])
    rcases hI with ⟨e, _⟩ | ⟨b, off, cap, e, h0, h1', h2', h3', hc⟩
    · exfalso
      have : t = [] := by simpa [nI] using e
      rw [this] at hkt
      simp at hkt
    · injection e with e1 e2 e3
      subst e3
      refine ⟨b, off, e1, by omega, h2', h3', hcC, ?_⟩
      rw [hc k (by simp [nI]; exact hkt)]
      simp [nI, List.getD, hkt]
  rw [hm.out, hC.out] at HCM
  rw [hm.out] at HB0 htl ⊢
  rw [hC.out] at hcc1 hc1 hc2 ⊢
  rw [hT.out] at htl ht1 ht2
  obtain ⟨d0, d1, d2⟩ := mbox_cells w s n (.slice vp m vc)
  have hmul : (T : Int) * (m : Int) = ((T * m : Nat) : Int) := (Int.natCast_mul T m).symm
  generalize T * m = tm at *
  clear hv hX hco hI hin
  go_enter Tryd.func12, Tryd.ntmps12
  go_wp2_with fail
  refine HCM.out.mono ?_
  rintro e w1 ⟨rfl, hb1⟩
  have k2 : w1.cell? ⟨w.heap.size, 2, none⟩ = some (.slice vp m vc) := by rw [hb1.cell (p := ⟨w.heap.size, 2, none⟩) (by simp)]; exact d2
  have HB1 := hide (HB0.out.trans (hb1.mono HB0.out.size))
  clear hb1 HB0 HCM d0 d1 d2
  have g3 : ¬ (T : Int) < 1 := by omega
  have g4 : ¬ 400 < (T : Int) := by omega
  go_wp2
  go_loop [8] (fun i => ∃ k : Nat, k ≤ T ∧ i = .int .i64 k) (fun i => T - (intOf i).toNat)
  case atStart => exact ⟨0, by omega, rfl⟩
  case round =>
    obtain ⟨k, hk, rfl⟩ := hrel
    by_cases hlt : k < T
    · obtain ⟨lb, lo, rfl, hlc1, hlc2, hlb, hcC, hlcell⟩ := (HL k hlt).out
      have gx := (HB1.out.cell (p := ⟨lb, lo + k, none⟩) hlb).trans hlcell
      generalize t.getD k 0 = c at *
      have g5 : ¬ (c : Int) < 0 := by omega
      have g6 : ¬ (C : Int) ≤ (c : Int) := by omega
      clear hlcell HL
      go_wp2
      go_round
      case rel => exact ⟨k + 1, by omega, by go_num⟩
      case measure => simp [intOf]; omega
    · have g7 : ¬ 20000 < (tm : Int) := by omega
      go_wp2
      go_ret
      exact ⟨rfl, HB1.out⟩

end Go.Proofs.YtenpkhalgkodbaaDoor

/- Contract: the answer's From. -/
namespace Go.Proofs.YtenpkhalgkodbaaDoor
open Go.RowKit
set_option maxRecDepth 20000
set_option linter.unusedVariables false

/-- A row, changed by the first k changes. -/
def frW (r : List Int) (ts : List (List Bool)) (k : Nat) : List Int := (ts.take k).foldl (fun r t => by_ r (trow t)) r

/-- All rows from one on. -/
def frL (r : List Int) (ts : List (List Bool)) (k : Nat) : List (List Int) := (List.range (k + 1)).map (fun j => frW r ts j)

theorem frL_succ (r : List Int) (ts : List (List Bool)) (k : Nat) : frL r ts (k + 1) = frL r ts k ++ [frW r ts (k + 1)] := by
  unfold frL
  rw [List.range_succ (n := k + 1), List.map_append]
  rfl

theorem frL_length (r : List Int) (ts : List (List Bool)) (k : Nat) : (frL r ts k).length = k + 1 := by simp [frL]

theorem frW_succ {r : List Int} {ts : List (List Bool)} {k : Nat} (h : k < ts.length) : frW r ts (k + 1) = by_ (frW r ts k) (trow ts[k]) := by
  unfold frW
  rw [List.take_succ_eq_append_getElem h, List.foldl_append]
  rfl

theorem frW_row {r : List Int} {n : Nat} {ts : List (List Bool)} (hr : isRow r) (hn : r.length = n) (hts : ∀ t, t ∈ ts → tsz t = n) (k : Nat) : isRow (frW r ts k) ∧ (frW r ts k).length = n := by
  unfold frW
  have : ∀ (l : List (List Bool)) (x : List Int), isRow x → x.length = n → (∀ t, t ∈ l → tsz t = n) → isRow (l.foldl (fun r t => by_ r (trow t)) x) ∧ (l.foldl (fun r t => by_ r (trow t)) x).length = n := by
    intro l
    induction l with
    | nil => intro x h1 h2 _; exact ⟨h1, h2⟩
    | cons t l ih =>
      intro x h1 h2 h3
      have ht := h3 t (by simp)
      have hl : (trow t).length = n := by rw [trow_length]; exact ht
      exact ih (by_ x (trow t)) (isRow_by h1 (trow_row t) (by rw [hl, h2])) (by rw [by_length, hl]) (fun u hu => h3 u (List.mem_cons_of_mem _ hu))
  exact this _ r hr hn (fun t ht => hts t (List.mem_of_mem_take ht))

set_option maxHeartbeats 4000000 in
theorem rfrom_ok (base : Nat) (rv : Value) (r : List Int) (n : Nat) (cv : Value) (ts : List (List Bool)) (w : World) (hr : isRow r) (hrn : r.length = n) (h1 : 1 ≤ n) (h12 : n ≤ 12) (hown : w.ownsRow base 3 1 rv n (r.map (Value.int .i64))) (hts : ∀ t, t ∈ ts → tsz t = n) (hl1 : 1 ≤ ts.length) (hl2 : ts.length ≤ 1000) (hc : IntsAll w cv (ts.map tpl)) (hbase : base ≤ w.heap.size) :
    Calls Tryd.prog 39 #[rv, cv] w fun e w' => ∃ v vs, e = .returned v ∧ LL w' base v vs (frL r ts ts.length) ∧ w'.ownsRow w.heap.size 26 1 v vs.length vs ∧ Below w.heap.size w w' := by
  obtain ⟨i0, hi, hz0, hz1, hz2⟩ := info_parts Tryd.info26
  obtain ⟨b, off, cap, hve, hbl, hc1, hc2, hcell⟩ := hc.cell (by rw [List.length_map]; omega)
  rw [List.length_map] at hve hc1 hcell
  subst hve
  obtain ⟨m, hm⟩ : ∃ m, Hid (ts.length = m) := ⟨_, rfl⟩
  rw [hm.out] at hc1 hl1 hl2 hcell
  have HCE := hide hcell
  have HTS := hide hts
  have HRW := hide (fun k => frW_row hr hrn hts k)
  obtain ⟨g0, rc0, rfl, hg01, hg02, hrc01, hrc02⟩ := owns_form hown (by omega)
  have HO := hide hown
  rw [hm.out]
  have HL0 : Hid (LL (w.alloc (.cells #[.slice (some ⟨g0, 0, none⟩) n rc0] 26)) base (.slice (some ⟨w.heap.size, 0, none⟩) 1 1) [.slice (some ⟨g0, 0, none⟩) n rc0] (frL r ts 0)) := by
    have : frL r ts 0 = [r] := by simp [frL, frW]
    rw [this]
    exact LL.one (X := r) (by rw [hrn]; exact hown) hbase
  have HR0 : Hid ((w.alloc (.cells #[.slice (some ⟨g0, 0, none⟩) n rc0] 26)).ownsRow base 3 1 (.slice (some ⟨g0, 0, none⟩) n rc0) n ((frW r ts 0).map (Value.int .i64))) := by
    have : frW r ts 0 = r := by simp [frW]
    rw [this]
    exact hown.alloc _
  have HU0 : Hid ((w.alloc (.cells #[.slice (some ⟨g0, 0, none⟩) n rc0] 26)).ownsRow w.heap.size 26 1 (.slice (some ⟨w.heap.size, 0, none⟩) 1 1) (0 + 1) [.slice (some ⟨g0, 0, none⟩) n rc0]) := World.ownsRow_lit w #[.slice (some ⟨g0, 0, none⟩) n rc0] 1 (Nat.le_refl _) (by unfold maxLen; omega) rfl
  have hB0 := (Below.refl w.heap.size w).alloc (Nat.le_refl _) (.cells #[.slice (some ⟨g0, 0, none⟩) n rc0] 26)
  clear hown hcell hts hc hr
  go_enter Tryd.func39, Tryd.ntmps39
  go_wp2
  go_loopw [0, 5, 6] (fun rw u i wr => ∃ (k g c : Nat) (vs : List Value), k ≤ m ∧ i = .int .i64 k ∧ rw = .slice (some ⟨g, 0, none⟩) n c ∧ Hid (vs.length = k + 1) ∧ Hid (LL wr base u vs (frL r ts k)) ∧ Hid (wr.ownsRow w.heap.size 26 1 u (k + 1) vs) ∧ Hid (wr.ownsRow base 3 1 (.slice (some ⟨g, 0, none⟩) n c) n ((frW r ts k).map (Value.int .i64))) ∧ Below w.heap.size w wr) (fun _ _ i _ => m - (intOf i).toNat)
  case atStart => exact ⟨0, g0, rc0, [.slice (some ⟨g0, 0, none⟩) n rc0], by omega, rfl, rfl, (show [Value.slice (some ⟨g0, 0, none⟩) n rc0].length = 0 + 1 from rfl), HL0, HU0, HR0, hB0⟩
  case round =>
    obtain ⟨k, g, rc, vs, hk, rfl, rfl, hlv, hL, hU, hR, hbw⟩ := hrel
    clear HL0 HR0 HU0 hB0
    by_cases hlt : k < m
    · have hlt' : k < ts.length := by rw [hm.out]; exact hlt
      obtain ⟨p, c, hcx, hix⟩ := HCE.out k hlt
      have hbs := hbw.size
      have gx := (hbw.cell (p := ⟨b, off + k, none⟩) (by exact hbl)).trans hcx
      have ht : tsz ts[k] = n := HTS.out _ (List.getElem_mem hlt')
      have hgk : (ts.map tpl).getD k [] = tpl ts[k] := by simp [List.getD, hlt']
      have hix2 := hix.out
      rw [hgk] at hix2 gx
      have HCR := hide (changeRow_ok ts[k] n _ wr ht h1 h12 (hix2.below hbw))
      have HN := hide (frW_succ (r := r) hlt')
      generalize ts[k] = t at *
      generalize (tpl t).length = pl at *
      have HT0 := hide ht
      clear ht hcx hix hix2 hgk
      go_wp2_with fail
      refine HCR.out.mono ?_
      rintro e w3 ⟨cv3, rfl, hcv3, hb3⟩
      have hrow3 := owns_below hR.out hb3 (Nat.le_refl _)
      have hbw3 := hbw.trans (hb3.mono hbs)
      have hbs3 := hb3.size
      have HBY := hide (rby_own _ cv3 (frW r ts k) (trow t) w3 (Ints.own hrow3) (Ints.own hcv3) (fun j hj => by
        have h9 := trow_mem t ((trow t).getD j 0) (by simp [List.getD, hj])
        rw [(HRW.out k).2, ← HT0.out]
        exact h9) (by rw [(HRW.out k).2]; exact h1) (by rw [trow_length, HT0.out]; omega))
      rw [← HN.out, trow_length, HT0.out] at HBY
      have HL3 := hide (hL.out.below hb3)
      have HU3 := hide (owns_below hU.out hb3 (Nat.le_refl _))
      clear hrow3 hcv3 hb3 hL hU hR HCR hbw gx
      go_wp2_with fail
      refine HBY.out.mono ?_
      rintro e w4 ⟨rn, rfl, hrn4, hb4⟩
      obtain ⟨g', rc', rfl, hg3, hg4, hrc3, hrc4⟩ := owns_form hrn4 (by omega)
      have hL4 := HL3.out.below hb4
      have hbw4 := hbw3.trans (hb4.mono (by omega))
      have hbs4 := hb4.size
      have hrn' := owns_base hrn4 (show base ≤ w3.heap.size by omega)
      have hrow4 := owns_below HU3.out hb4 (Nat.le_refl _)
      have HU4 := hide hrow4
      have HL4 := hide hL4
      have HRN := hide hrn'
      have HRK := hide (HRW.out (k + 1))
      clear hrn4 hrn' hL4 HL3 HU3 HBY hb4 hbw3
      go_wp2_with (at_builtin; refine wpList_append_own _ rfl _ _ 22 rfl w.heap.size 26 i0 (.slice none 0 0) 1 24 Tryd.underlying22 hi hz0 hz1 hz2 rfl (by decide) _ _ _ rfl (hrow4.alloc _) ⟨w4.heap.size, 0, none⟩ 1 1 [.slice (some ⟨g', 0, none⟩) n rc'] rfl rfl ?c1 ?c2 ?c3 ?c4 ?c5 ?_)
      case c1 => exact cell_one_new _ _ _
      case c2 => intro u hu; simp at hu; subst hu; rfl
      case c3 => unfold maxLen; omega
      case c4 => omega
      case c5 => simp; omega
      · intro v' w5 hown5 hgrow _
        have HL5 : Hid (LL w5 base v' (vs ++ [.slice (some ⟨g', 0, none⟩) n rc']) (frL r ts (k + 1))) := by
          rw [frL_succ]
          exact HL4.out.push (X := frW r ts (k + 1)) (by rw [HRK.out.2]; exact HRN.out) (by rw [hlv.out]; exact owns_base hown5 hbase) hgrow
        have HR5 := hide (HL4.out.kept HRN.out hgrow)
        have hB5 : Below w.heap.size w w5 := (hbw4.alloc (by omega) _).grown hgrow (by simp; omega) (fun g hg => (HU4.out.lt g hg).1)
        have HU5 := hide hown5
        clear hown5 hgrow HL4 HRN hrow4 HU4
        go_wp2
        go_roundw
        case rel => exact ⟨k + 1, g', rc', _, by omega, by go_num, rfl, (show (vs ++ [Value.slice (some ⟨g', 0, none⟩) n rc']).length = k + 1 + 1 by rw [List.length_append, hlv.out]; rfl), HL5, HU5, HR5, hB5⟩
        case measure => simp [intOf]; omega
    · obtain rfl : k = m := by omega
      go_wp2
      go_ret
      exact ⟨_, vs, rfl, hL.out, by rw [hlv.out]; exact hU.out, hbw⟩

end Go.Proofs.YtenpkhalgkodbaaDoor

/- append of what came in. -/
namespace Go.Proofs.YtenpkhalgkodbaaDoor
open Go.RowKit

theorem run_append_none {P : Program} (w : World) (t ty e : TypeId) (i : TypeInfo) (ht : P.underlying t = some (.slice e)) (hi : P.info? e = some i) (a : Addr) (n cap : Nat) (hn : n ≤ cap) (p : Option Addr) (c : Nat) :
    (Builtin.append_ #[t, t] ty #[.slice (some a) n cap, .slice p 0 c]).run P w = .ok (.slice (some a) n cap) w := by
  cases p <;> simp [Builtin.append_, run_underlying ht, sizeOf, typeInfo, hi, Builtin.lenOf, Builtin.firstCells, loadCells, loadCellsFrom, hn, storeCells]

theorem run_append_nil_none {P : Program} (w : World) (t ty e : TypeId) (i : TypeInfo) (ht : P.underlying t = some (.slice e)) (hi : P.info? e = some i) (p : Option Addr) (c : Nat) :
    (Builtin.append_ #[t, t] ty #[.slice none 0 0, .slice p 0 c]).run P w = .ok (.slice none 0 0) w := by
  cases p <;> simp [Builtin.append_, run_underlying ht, sizeOf, typeInfo, hi, Builtin.lenOf, Builtin.firstCells, loadCells, loadCellsFrom]

/-- 'append(a, b...)': a owned, b whatever came in. -/
theorem wpList_append_vals {P : Program} {w : World} {ops : Array Oper} {rest : List Oper} {o : Oper} {a : Act} {Q : Exit → Act → World → Prop} (hgd : o.guard = none) (s x : Operand) (t : TypeId)
    (ho : o.op = .call { callee := .builtin .append, args := #[s, x], argTypes := #[t, t] })
    (base : Nat) (e : TypeId) (i : TypeInfo) (z : Value) (bytes : Nat) (ht : P.underlying t = some (.slice e)) (hi : P.info? e = some i) (hz : i.zero = some z)
    (hsize : i.size = 1) (hby : i.bytes = bytes) (hzs : z.cells.size = 1)
    (v : Value) (n : Nat) (xs : List Value) (hs : a.eval s = v) (hown : w.ownsRow base e 1 v n xs)
    (u : Value) (news : List Value) (hx : a.eval x = u) (hsrc : Vals w u news) (h1 : ∀ u ∈ news, u.oneCell' = true)
    (h63 : n + news.length ≤ maxLen) (hbytes : (n + news.length) * bytes ≤ 140737488355328) (hbase : base ≤ w.heap.size)
    (h : ∀ v' w', w'.ownsRow base e 1 v' (n + news.length) (xs ++ news) → w.grownBy w' v.ownBlock → wpList P ops Q rest (a.put o.dst v') w') :
    wpList P ops Q (o :: rest) a w := by
  rcases hsrc with ⟨rfl, p, c, rfl⟩ | ⟨b, off, cap, rfl, h0, hc, hm, hb, hcell⟩
  · rw [List.length_nil, Nat.add_zero, List.append_nil] at h
    have hr : w.grownBy w v.ownBlock := ⟨rfl, rfl, rfl, Nat.le_refl _, fun _ _ _ => rfl⟩
    rcases hown.2 with ⟨rfl, rfl⟩ | ⟨g2, cap2, cur2, rfl, _, _, hnc2, _⟩
    · refine wpList_plain hgd fun K hK => ?_
      have hrun := run_append_nil_none (P := P) w t o.type e i ht hi p c
      unfold Oper.wp execOp
      simp only [ho, resolve, invoke, builtin, Sem.run_bind, Sem.run_pure, Result.andThen_ok, List.map_toArray, List.map_cons, List.map_nil, hs, hx, hrun]
      exact hK _ _ (h _ _ hown hr)
    · refine wpList_plain hgd fun K hK => ?_
      have hrun := run_append_none (P := P) w t o.type e i ht hi ⟨g2, 0, none⟩ n cap2 hnc2 p c
      unfold Oper.wp execOp
      simp only [ho, resolve, invoke, builtin, Sem.run_bind, Sem.run_pure, Result.andThen_ok, List.map_toArray, List.map_cons, List.map_nil, hs, hx, hrun]
      exact hK _ _ (h _ _ hown hr)
  · refine wpList_append_own w hgd s x t ho base e i z 1 bytes ht hi hz hsize hby hzs (by decide) v n xs hs hown ⟨b, off, none⟩ news.length cap news hx (by omega) (fun j u hu => ?_) h1 h63 hbytes hbase ?_
    · have hj := (List.getElem?_eq_some_iff.1 hu).1
      have := hcell j hj
      rw [List.getD_eq_getElem?_getD, hu] at this
      by_cases h0j : j = 0
      · subst h0j; simpa [Addr.add] using this
      · simpa [Addr.add, h0j] using this
    · intro v' w' h2 h3 _
      exact h v' w' h2 h3

theorem vals_cells {w : World} {vs : List Value} {xss : List (List Int)} (hl : vs.length = xss.length) (hi : ∀ j, j < xss.length → Ints w (vs.getD j undef) (xss.getD j [])) : ∀ u ∈ vs, u.oneCell' = true := by
  intro u hu
  obtain ⟨j, hj, rfl⟩ := List.getElem_of_mem hu
  obtain ⟨p, c, e⟩ := (hi j (by omega)).form
  rw [List.getD_eq_getElem?_getD, List.getElem?_eq_getElem hj, Option.getD_some] at e
  rw [e]
  rfl

theorem ints_join {w : World} {us vs : List Value} {xa xb : List (List Int)} (hl : us.length = xa.length) (hi : ∀ j, j < xa.length → Ints w (us.getD j undef) (xa.getD j [])) (hi2 : ∀ j, j < xb.length → Ints w (vs.getD j undef) (xb.getD j [])) :
    ∀ j, j < (xa ++ xb).length → Ints w ((us ++ vs).getD j undef) ((xa ++ xb).getD j []) := by
  intro j hj
  rw [List.length_append] at hj
  simp only [List.getD_eq_getElem?_getD]
  by_cases h : j < xa.length
  · rw [List.getElem?_append_left (by omega), List.getElem?_append_left h]
    simpa [List.getD_eq_getElem?_getD] using hi j h
  · rw [List.getElem?_append_right (by omega), List.getElem?_append_right (by omega), hl]
    simpa [List.getD_eq_getElem?_getD] using hi2 (j - xa.length) (by omega)

end Go.Proofs.YtenpkhalgkodbaaDoor

/- Contract: slices.Grow of lists of lists, from nothing. -/
namespace Go.Proofs.YtenpkhalgkodbaaDoor
open Go.RowKit Go.Lib

def rnG : Go.Shelf.Ren := ⟨fun x => match x with | 4 => 77 | y => y,
  fun x => match x with | 0 => 0 | 3 => 3 | 4 => 4 | 9 => 9 | 20 => 20 | 22 => 22 | 25 => 26 | y => y, fun x => x⟩

theorem laysG : Go.Proofs.Lays8.n4 Tryd.prog rnG where
  mixed := by kernel_rfl
  f4 := ⟨ "slices.Grow[[][]int,[]int]", by kernel_rfl, by kernel_rfl⟩
  t0 := by kernel_rfl
  a0 := fun w => by kernel_rfl
  z0 := fun w => by kernel_rfl
  v0 := fun w => by kernel_rfl
  t3 := by kernel_rfl
  a3 := fun w => by kernel_rfl
  z3 := fun w => by kernel_rfl
  v3 := fun w => by kernel_rfl
  t4 := by kernel_rfl
  a4 := fun w => by kernel_rfl
  z4 := fun w => by kernel_rfl
  v4 := fun w => by kernel_rfl
  t9 := by kernel_rfl
  a9 := fun w => by kernel_rfl
  z9 := fun w => by kernel_rfl
  v9 := fun w => by kernel_rfl
  t20 := by kernel_rfl
  a20 := fun w => by kernel_rfl
  z20 := fun w => by kernel_rfl
  v20 := fun w => by kernel_rfl
  t22 := by kernel_rfl
  a22 := fun w => by kernel_rfl
  z22 := fun w => by kernel_rfl
  v22 := fun w => by kernel_rfl

theorem grow_nil (n : Nat) (w : World) (h1 : 1 ≤ n) (h2 : n ≤ 1000) :
    Calls Tryd.prog 77 #[.slice none 0 0, .int .i64 n] w fun e w' => ∃ v, e = .returned v ∧ w'.ownsRow w.heap.size 26 1 v 0 [] ∧ Below w.heap.size w w' := by
  obtain ⟨i0, hi, hz0, hz1, hz2⟩ := info_parts Tryd.info26
  refine (Any8.slices_Grow_grow laysG i0 _ hi hz0 (by rw [hz1]; decide) none 0 0 n [] w (Nat.le_refl _) (by omega) (by rw [hz2]; omega) (by omega) (by simp) (fun _ => rfl) (fun a ha => by cases ha)).mono ?_
  rintro e w' ⟨rfl, rfl⟩
  have hge := grownCap_ge w (0 + n) 0 (rnG.t 25)
  refine ⟨_, rfl, ?_, (Below.refl _ _).drew.alloc (Nat.le_refl _) _⟩
  refine World.ownsRow_made w.drew _ _ (Nat.le_refl _) (grownCap_le_maxLen _ _ _ _ (by unfold maxLen; omega)) ?_
  rw [Array.size_append, Array.size_append, size_zeroCells, size_zeroCells]
  have h1z : (Value.slice none 0 0).cells.size = 1 := rfl
  rw [h1z]
  show 0 + _ + _ = _
  omega

end Go.Proofs.YtenpkhalgkodbaaDoor

/- Contract: slices.Concat of two lists of lists. -/
namespace Go.Proofs.YtenpkhalgkodbaaDoor
open Go.RowKit

set_option maxRecDepth 20000 in
set_option maxHeartbeats 4000000 in
theorem concat_ok (B : Nat) (va vb : Value) (xa xb : List (List Int)) (w : World) (hB : B < w.heap.size) (c0 : w.cell? ⟨B, 0, none⟩ = some va) (c1 : w.cell? ⟨B, 1, none⟩ = some vb) (ha : IntsAll w va xa) (hb : IntsAll w vb xb) (h1 : 1 ≤ xa.length + xb.length) (h2 : xa.length ≤ 400) (h3 : xb.length ≤ 400) :
    Calls Tryd.prog 54 #[.slice (some ⟨B, 0, none⟩) 2 2] w fun e w' => ∃ v, e = .returned v ∧ IntsAll w' v (xa ++ xb) ∧ Below w.heap.size w w' := by
  obtain ⟨j0, hji, hq0, hq1, hq2⟩ := info_parts Tryd.info26
  obtain ⟨us, hu, hul, hui⟩ := ha
  obtain ⟨vs, hv, hvl, hvi⟩ := hb
  obtain ⟨pa, ca, rfl⟩ := hu.form
  obtain ⟨pb, cb, rfl⟩ := hv.form
  have HU := hide hu
  have HV := hide hv
  have HUO := hide (vals_cells hul hui)
  have HVO := hide (vals_cells hvl hvi)
  have HJ := hide (fun W (hW : Below w.heap.size w W) => ints_join (w := W) hul (fun j hj => (hui j hj).below hW) (fun j hj => (hvi j hj).below hW))
  have HJL : Hid ((us ++ vs).length = (xa ++ xb).length) := by show _ = _; rw [List.length_append, List.length_append, hul, hvl]
  rw [← hul] at h1 h2
  rw [← hvl] at h1 h3
  clear hu hv hui hvi hul hvl
  generalize hA : us.length = A at *
  generalize hC : vs.length = C at *
  have HA := hide hA
  have HC := hide hC
  have HG := hide (grow_nil (A + C) w h1 (by omega))
  have hn1 : ¬ ((A : Int) < 0) := by omega
  have hn2 : ¬ ((A : Int) + (C : Int) < 0) := by omega
  clear hA hC
  go_enter Tryd.func54, Tryd.ntmps54
  go_wp2
  go_loop [3, 11] (fun s i => (i = .int .i64 0 ∧ s = .int .i64 0) ∨ (i = .int .i64 1 ∧ s = .int .i64 (A : Int)) ∨ (i = .int .i64 2 ∧ s = .int .i64 ((A : Int) + (C : Int)))) (fun _ i => 2 - (intOf i).toNat)
  case atStart => exact Or.inl ⟨rfl, rfl⟩
  case round =>
    rcases hrel with ⟨rfl, rfl⟩ | ⟨rfl, rfl⟩ | ⟨rfl, rfl⟩
    · go_wp2
      go_round
      case rel => exact Or.inr (Or.inl ⟨rfl, rfl⟩)
      case measure => decide
    · go_wp2
      go_round
      case rel => exact Or.inr (Or.inr ⟨rfl, rfl⟩)
      case measure => decide
    · go_wp2_with fail
      rw [show ((A : Int) + (C : Int)) = ((A + C : Nat) : Int) from by omega]
      refine HG.out.mono ?_
      rintro e w1 ⟨g0, rfl, ho1, hb1⟩
      have HO1 := hide ho1
      clear ho1 HG
      go_wp2
      go_loopw [6, 27] (fun u i wr => ((i = .int .i64 0 ∧ Hid (wr.ownsRow w.heap.size 26 1 u 0 [])) ∨ (i = .int .i64 1 ∧ Hid (wr.ownsRow w.heap.size 26 1 u A us)) ∨ (i = .int .i64 2 ∧ Hid (wr.ownsRow w.heap.size 26 1 u (A + C) (us ++ vs)))) ∧ Below w.heap.size w wr) (fun _ i _ => 2 - (intOf i).toNat)
      case atStart => exact ⟨Or.inl ⟨rfl, HO1⟩, hb1⟩
      case round =>
        clear HO1 hb1
        obtain ⟨hO, hbw⟩ := hrel
        have hbs := hbw.size
        have g0 := (hbw.cell (p := ⟨B, 0, none⟩) hB).trans c0
        have g1 := (hbw.cell (p := ⟨B, 1, none⟩) hB).trans c1
        rcases hO with ⟨rfl, hO⟩ | ⟨rfl, hO⟩ | ⟨rfl, hO⟩
        · obtain ⟨up, uc, rfl⟩ := owns_slice hO.out
          go_wp2_with (at_builtin; refine wpList_append_vals rfl _ _ 22 rfl w.heap.size 26 j0 (.slice none 0 0) 24 Tryd.underlying22 hji hq0 hq1 hq2 rfl _ _ _ rfl hO.out _ us rfl (HU.out.below hbw) HUO.out ?c1 ?c2 ?c3 ?_)
          case c1 => rw [HA.out]; unfold maxLen; omega
          case c2 => rw [HA.out]; omega
          case c3 => omega
          · intro v' w5 hown5 hg5
            have HO5 : Hid (w5.ownsRow w.heap.size 26 1 v' A us) := by show World.ownsRow _ _ _ _ _ _ _; simpa [HA.out] using hown5
            have HB5 : Hid (Below w.heap.size w w5) := hbw.grown hg5 hbs (fun g hg => (hO.out.lt g hg).1)
            clear hown5 hg5 hO
            go_wp2
            go_roundw
            case rel => exact ⟨Or.inr (Or.inl ⟨rfl, HO5⟩), HB5.out⟩
            case measure => decide
        · obtain ⟨up, uc, rfl⟩ := owns_slice hO.out
          go_wp2_with (at_builtin; refine wpList_append_vals rfl _ _ 22 rfl w.heap.size 26 j0 (.slice none 0 0) 24 Tryd.underlying22 hji hq0 hq1 hq2 rfl _ _ _ rfl hO.out _ vs rfl (HV.out.below hbw) HVO.out ?d1 ?d2 ?d3 ?_)
          case d1 => rw [HC.out]; unfold maxLen; omega
          case d2 => rw [HC.out]; omega
          case d3 => omega
          · intro v' w5 hown5 hg5
            have HO5 : Hid (w5.ownsRow w.heap.size 26 1 v' (A + C) (us ++ vs)) := by show World.ownsRow _ _ _ _ _ _ _; rw [HC.out] at hown5; exact hown5
            have HB5 : Hid (Below w.heap.size w w5) := hbw.grown hg5 hbs (fun g hg => (hO.out.lt g hg).1)
            clear hown5 hg5 hO
            go_wp2
            go_roundw
            case rel => exact ⟨Or.inr (Or.inr ⟨rfl, HO5⟩), HB5.out⟩
            case measure => decide
        · obtain ⟨up, uc, rfl⟩ := owns_slice hO.out
          go_wp2
          go_ret
          refine ⟨_, rfl, ⟨us ++ vs, Vals.own (base := w.heap.size) (e := 26) ?_, HJL.out, HJ.out wr hbw⟩, hbw⟩
          rw [List.length_append, HA.out, HC.out]
          exact hO.out

end Go.Proofs.YtenpkhalgkodbaaDoor

namespace Go.Proofs.YtenpkhalgkodbaaDoor
open Go.RowKit

/-- Numbers as the cells of an array of ints. -/
def i64s (zs : List Int) : Array Value := (zs.map (Value.int .i64)).toArray

theorem i64s_size (zs : List Int) : (i64s zs).size = zs.length := by simp [i64s]

theorem i64s_get {zs : List Int} {j : Nat} (h : j < zs.length) : (i64s zs)[j]? = some (.int .i64 (zs.getD j 0)) := by
  simp [i64s, List.getD, h]

theorem i64s_one (zs : List Int) : (i64s zs).all (·.oneCell') = true := by
  rw [Array.all_eq_true_iff_forall_mem]
  intro v hv
  simp [i64s] at hv
  obtain ⟨a, _, rfl⟩ := hv
  rfl

theorem i64s_set (zs : List Int) (k : Nat) (y : Int) : (i64s zs).setIfInBounds k (.int .i64 y) = i64s (zs.set k y) := by
  apply Array.toList_inj.1
  simp [i64s]

def zerosK : List Int := [0, 0, 0, 0, 0, 0, 0, 0, 0, 0, 0, 0]

end Go.Proofs.YtenpkhalgkodbaaDoor

/- Plain: rows of as many bells with one rank are one. -/
namespace Go.Proofs.YtenpkhalgkodbaaDoor

theorem cnt_cons (x z : Int) (l : List Int) : cnt x (z :: l) = (if z < x then 1 else 0) + cnt x l := by
  unfold cnt
  by_cases h : z < x
  · rw [List.filter_cons_of_pos (by simpa using h), if_pos h, List.length_cons]; omega
  · rw [List.filter_cons_of_neg (by simpa using h), if_neg h]; omega

theorem cnt_mono {x y : Int} (h : x < y) (l : List Int) : cnt x l ≤ cnt y l ∧ (x ∈ l → cnt x l < cnt y l) := by
  induction l with
  | nil => exact ⟨Nat.le_refl _, fun h => by cases h⟩
  | cons z l ih =>
    rw [cnt_cons, cnt_cons]
    refine ⟨?_, fun hm => ?_⟩
    · split <;> split <;> omega
    · rcases List.mem_cons.1 hm with rfl | hm
      · rw [if_neg (by omega), if_pos h]; omega
      · have := ih.2 hm
        split <;> split <;> omega

theorem rankR_lt : ∀ l : List Int, rankR l < fct l.length
  | [] => by decide
  | x :: xs => by
    have ih := rankR_lt xs
    have hc := cnt_le x xs
    show cnt x xs * fct xs.length + rankR xs < (xs.length + 1) * fct xs.length
    have h1 : cnt x xs * fct xs.length ≤ xs.length * fct xs.length := Nat.mul_le_mul_right _ hc
    rw [Nat.add_mul, Nat.one_mul]
    omega

theorem rankR_inj : ∀ (a b : List Int), a.Perm b → a.Nodup → rankR a = rankR b → a = b
  | [], b, hp, _, _ => (List.nil_perm.1 hp).symm
  | x :: xs, [], hp, _, _ => absurd hp.length_eq (by simp)
  | x :: xs, y :: ys, hp, hn, he => by
    have hl : xs.length = ys.length := by simpa using hp.length_eq
    have h1 := rankR_lt xs
    have h2 := rankR_lt ys
    have he' : cnt x xs * fct xs.length + rankR xs = cnt y ys * fct ys.length + rankR ys := he
    rw [← hl] at he' h2
    have hG := fct_pos xs.length
    have hc : cnt x xs = cnt y ys := by
      have e1 : (cnt x xs * fct xs.length + rankR xs) / fct xs.length = cnt x xs := by
        rw [Nat.mul_comm, Nat.mul_add_div hG, Nat.div_eq_of_lt h1]; rfl
      have e2 : (cnt y ys * fct xs.length + rankR ys) / fct xs.length = cnt y ys := by
        rw [Nat.mul_comm, Nat.mul_add_div hG, Nat.div_eq_of_lt h2]; rfl
      rw [← e1, ← e2, he']
    have hr : rankR xs = rankR ys := by rw [hc] at he'; omega
    have c1 : cnt x (x :: xs) = cnt x xs := by rw [cnt_cons, if_neg (by omega)]; omega
    have c2 : cnt y (y :: ys) = cnt y ys := by rw [cnt_cons, if_neg (by omega)]; omega
    have exy : x = y := by
      rcases Int.lt_trichotomy x y with h | h | h
      · have h3 := (cnt_mono h (x :: xs)).2 List.mem_cons_self
        rw [cnt_perm hp (x := y), c1, c2] at h3
        omega
      · exact h
      · have h3 := (cnt_mono h (y :: ys)).2 List.mem_cons_self
        rw [← cnt_perm hp (x := x), c1, c2] at h3
        omega
    subst exy
    rw [rankR_inj xs ys ((List.perm_cons x).1 hp) (List.nodup_cons.1 hn).2 hr]

theorem rank_inj {a b : List Int} (ha : isRow a) (hb : isRow b) (hl : b.length = a.length) (h : rkTo a a.length = rkTo b b.length) : a = b := by
  rw [rkTo_all, rkTo_all] at h
  refine rankR_inj a b ((row_perm_rnd ha).trans ?_) ha.2 h
  rw [← hl]
  exact (row_perm_rnd hb).symm

end Go.Proofs.YtenpkhalgkodbaaDoor
