/- append of nothing at all. Closed: letters, what has been found, and where it lies. -/
import Derived.Test.YtbddhpbeekioiaaRep
import Derived.Test.YtbddhpbeekioiaaBfs
import Derived.Test.YtbddhpbeekioiaaRankInj
import Derived.Test.YtbddhpbeekioiaaRowsOf
namespace Go.Proofs.Ytbddhpbeekioiaa
open Go.RowKit

/-- 'append(s, nil...)': s itself, where s is no nil slice. -/
theorem run_append_nothing {P : Program} (w : World) (t ty e : TypeId) (i : TypeInfo) (ht : P.underlying t = some (.slice e)) (hi : P.info? e = some i) (a : Addr) (n cap : Nat) (hn : n ≤ cap) :
    (Builtin.append_ #[t, t] ty #[.slice (some a) n cap, .slice none 0 0]).run P w = .ok (.slice (some a) n cap) w := by
  simp [Builtin.append_, run_underlying ht, sizeOf, typeInfo, hi, Builtin.lenOf, Builtin.firstCells, loadCells, hn, storeCells]

theorem wpList_append_nothing {P : Program} (w : World) {ops : Array Oper} {rest : List Oper} {o : Oper} {a : Act} {Q : Exit → Act → World → Prop} (hgd : o.guard = none) (s x : Operand) (t : TypeId)
    (ho : o.op = .call { callee := .builtin .append, args := #[s, x], argTypes := #[t, t] })
    (e : TypeId) (i : TypeInfo) (ht : P.underlying t = some (.slice e)) (hi : P.info? e = some i)
    (ad : Addr) (n cap : Nat) (hn : n ≤ cap) (hs : a.eval s = .slice (some ad) n cap) (hx : a.eval x = .slice none 0 0)
    (h : wpList P ops Q rest (a.put o.dst (.slice (some ad) n cap)) w) : wpList P ops Q (o :: rest) a w := by
  refine wpList_plain hgd fun K hK => ?_
  have hr := run_append_nothing (P := P) w t o.type e i ht hi ad n cap hn
  unfold Oper.wp execOp
  simp only [ho, resolve, invoke, builtin, Sem.run_bind, Sem.run_pure, Result.andThen_ok, List.map_toArray, List.map_cons, List.map_nil, hs, hx, hr]
  exact hK _ _ h

/-- The letters of some rows: each, and what undoes it. -/
noncomputable def letters : Nat → List (List Int) → List (Int × Pm)
  | _, [] => []
  | k, x :: t => ((k : Int) + 1, pad x) :: (-((k : Int) + 1), (pad x)⁻¹) :: letters (k + 1) t

theorem letters_length (k : Nat) (xss : List (List Int)) : (letters k xss).length = 2 * xss.length := by
  induction xss generalizing k with
  | nil => rfl
  | cons x t ih => rw [letters, List.length_cons, List.length_cons, ih, List.length_cons]; omega

theorem letters_even {k j : Nat} {xss : List (List Int)} {x : List Int} (h : xss[j]? = some x) : (letters k xss)[2 * j]? = some (((k + j : Nat) : Int) + 1, pad x) := by
  induction xss generalizing k j with
  | nil => simp at h
  | cons y t ih =>
    cases j with
    | zero => simp at h; subst h; simp [letters]
    | succ j =>
      rw [List.getElem?_cons_succ] at h
      rw [show 2 * (j + 1) = 2 * j + 1 + 1 by omega, letters, List.getElem?_cons_succ, List.getElem?_cons_succ, ih h]
      rw [show k + 1 + j = k + (j + 1) by omega]

theorem letters_odd {k j : Nat} {xss : List (List Int)} {x : List Int} (h : xss[j]? = some x) : (letters k xss)[2 * j + 1]? = some (-(((k + j : Nat) : Int) + 1), (pad x)⁻¹) := by
  induction xss generalizing k j with
  | nil => simp at h
  | cons y t ih =>
    cases j with
    | zero => simp at h; subst h; simp [letters]
    | succ j =>
      rw [List.getElem?_cons_succ] at h
      rw [show 2 * (j + 1) + 1 = 2 * j + 1 + 1 + 1 by omega, letters, List.getElem?_cons_succ, List.getElem?_cons_succ, ih h]
      rw [show k + 1 + j = k + (j + 1) by omega]

theorem letters_mem {k : Nat} {xss : List (List Int)} {l : Int × Pm} (h : l ∈ letters k xss) : ∃ x, x ∈ xss ∧ (l.2 = pad x ∨ l.2 = (pad x)⁻¹) := by
  induction xss generalizing k with
  | nil => cases h
  | cons y t ih =>
    rw [letters] at h
    rcases List.mem_cons.1 h with rfl | h
    · exact ⟨y, by simp, Or.inl rfl⟩
    · rcases List.mem_cons.1 h with rfl | h
      · exact ⟨y, by simp, Or.inr rfl⟩
      · obtain ⟨x, h1, h2⟩ := ih h
        exact ⟨x, by simp [h1], h2⟩

theorem letters_has {k : Nat} {xss : List (List Int)} {x : List Int} (h : x ∈ xss) : ∃ l, l ∈ letters k xss ∧ l.2 = pad x := by
  induction xss generalizing k with
  | nil => cases h
  | cons y t ih =>
    rcases List.mem_cons.1 h with rfl | h
    · exact ⟨_, by rw [letters]; exact List.mem_cons_self, rfl⟩
    · obtain ⟨l, h1, h2⟩ := ih (k := k + 1) h
      exact ⟨l, by rw [letters]; exact List.mem_cons_of_mem _ (List.mem_cons_of_mem _ h1), h2⟩

/-- Letters make what the rows make. -/
theorem letters_gen (k : Nat) (xss : List (List Int)) (x : Pm) : Gen (fun y => ∃ l, l ∈ letters k xss ∧ l.2 = y) x ↔ Gen (fun y => y ∈ xss.map pad) x := by
  constructor
  · refine Gen.least (Gen.sub _) ?_
    rintro s ⟨l, hl, rfl⟩
    obtain ⟨y, hy, e | e⟩ := letters_mem hl
    · rw [e]; exact Gen.of (List.mem_map.2 ⟨y, hy, rfl⟩)
    · rw [e]; exact Gen.inv (Gen.of (List.mem_map.2 ⟨y, hy, rfl⟩))
  · refine Gen.mono ?_
    intro s hs
    obtain ⟨y, hy, rfl⟩ := List.mem_map.1 hs
    exact letters_has hy

theorem letters_fix {n k : Nat} {xss : List (List Int)} (h12 : n ≤ 12) (h : RowsN n xss) {l : Int × Pm} (hl : l ∈ letters k xss) : Fixes (fun b => n ≤ b) l.2 := by
  obtain ⟨y, hy, e⟩ := letters_mem hl
  have hp := pad_fixes h12 (h y hy).2 (h y hy).1
  rcases e with e | e
  · rw [e]; exact hp
  · rw [e]; exact (fixes_sub _).inv hp

theorem gen_fix {n : Nat} {xss : List (List Int)} (h12 : n ≤ 12) (h : RowsN n xss) {x : Pm} (hx : Gen (fun y => ∃ l, l ∈ letters 0 xss ∧ l.2 = y) x) : Fixes (fun b => n ≤ b) x :=
  hx.least (fixes_sub _) (by rintro s ⟨l, hl, rfl⟩; exact letters_fix h12 h hl)

theorem RunOk.fix {n : Nat} {xss : List (List Int)} {S : List (Pm × List Int)} (h12 : n ≤ 12) (h : RowsN n xss) (hS : RunOk (letters 0 xss) S) {e : Pm × List Int} (he : e ∈ S) : Fixes (fun b => n ≤ b) e.1 := gen_fix h12 h (hS.gen e he)

/-- The rank of a row that is kept as a permutation. -/
def rkP (n : Nat) (x : Pm) : Nat := rkTo (cut n x) n

theorem rkP_inj {n : Nat} (h12 : n ≤ 12) {x y : Pm} (hx : Fixes (fun b => n ≤ b) x) (hy : Fixes (fun b => n ≤ b) y) (h : rkP n x = rkP n y) : x = y := by
  have e : cut n x = cut n y := rank_inj (cut_row h12 hx) (cut_row h12 hy) (by rw [cut_length h12, cut_length h12]) (by rw [cut_length h12, cut_length h12]; exact h)
  rw [← pad_cut h12 hx, ← pad_cut h12 hy, e]

/-- What 'seen' holds: the ranks of what has been found. -/
noncomputable def seenOf (n : Nat) (S : List (Pm × List Int)) : Int → Option Value :=
  open Classical in fun a => if a ∈ S.map (fun e => ((rkP n e.1 : Nat) : Int)) then some (.bool true) else none

theorem seen_old {n : Nat} {S : List (Pm × List Int)} {x : Pm} (h : x ∈ S.map (·.1)) : seenOf n S ((rkP n x : Nat) : Int) = some (.bool true) := by
  unfold seenOf
  obtain ⟨e, he, rfl⟩ := List.mem_map.1 h
  rw [if_pos (List.mem_map.2 ⟨e, he, rfl⟩)]

theorem seen_new {n : Nat} {S : List (Pm × List Int)} {x : Pm} (h12 : n ≤ 12) (hS : ∀ e, e ∈ S → Fixes (fun b => n ≤ b) e.1) (hx : Fixes (fun b => n ≤ b) x) (h : ¬ x ∈ S.map (·.1)) : seenOf n S ((rkP n x : Nat) : Int) = none := by
  unfold seenOf
  rw [if_neg]
  intro hm
  obtain ⟨e, he, h2⟩ := List.mem_map.1 hm
  have h3 : rkP n e.1 = rkP n x := by omega
  exact h (List.mem_map.2 ⟨e, he, rkP_inj h12 (hS e he) hx h3⟩)

theorem seen_put (n : Nat) (S : List (Pm × List Int)) (x : Pm) (u : List Int) (a : Int) : upd (seenOf n S) ((rkP n x : Nat) : Int) (.bool true) a = seenOf n (S ++ [(x, u)]) a := by
  unfold upd seenOf
  by_cases e : a = ((rkP n x : Nat) : Int)
  · rw [if_pos e, if_pos (by rw [e]; simp)]
  · rw [if_neg e]
    by_cases h : a ∈ S.map (fun e => ((rkP n e.1 : Nat) : Int))
    · rw [if_pos h, if_pos (by rw [List.map_append]; exact List.mem_append_left _ h)]
    · rw [if_neg h, if_neg]
      rw [List.map_append]
      intro hm
      rcases List.mem_append.1 hm with hm | hm
      · exact h hm
      · exact e (by simpa using hm)

theorem rkP_one {n : Nat} (h12 : n ≤ 12) : rkP n 1 = 0 := by
  have : cut n 1 = rnd n := by rw [← pad_rnd h12, cut_pad h12 (rnd_length n) (isRow_rnd n)]
  unfold rkP
  rw [this]
  have key : ∀ k, k < 13 → rkTo (rnd k) k = 0 := by decide
  exact key n (by omega)

/-- A row that another block's map leaves as it is. -/
theorem owns_map_kept {w w' : World} {base e size n m k : Nat} {v : Value} {xs : List Value} {f : Int → Option Value} (h : w.ownsRow base e size v n xs) (hm : IMap w m k f) (hg : w.grownBy w' (some m)) : w'.ownsRow base e size v n xs := by
  refine owns_of_block h (fun b hb => hg.block b (h.lt b hb).2 (fun e' => ?_))
  obtain ⟨cur, hc⟩ := owns_obj h hb
  obtain ⟨es, c, ho⟩ := hm.obj
  injection e' with e'
  rw [e', ho] at hc
  cases hc

/-- .. and what another row's growing leaves as it is. -/
theorem owns_row_kept {w w' : World} {base e size n : Nat} {v : Value} {xs : List Value} {g : Option Nat} (h : w.ownsRow base e size v n xs) (hne : v.ownBlock ≠ g ∨ v.ownBlock = none) (hg : w.grownBy w' g) : w'.ownsRow base e size v n xs := by
  refine owns_of_block h (fun b hb => hg.block b (h.lt b hb).2 (fun e' => ?_))
  rcases hne with hne | hne
  · exact hne (hb.trans e')
  · rw [hne] at hb; cases hb

theorem map_row_kept {w w' : World} {base e size n m k : Nat} {v : Value} {xs : List Value} {f : Int → Option Value} (h : w.ownsRow base e size v n xs) (hm : IMap w m k f) (hg : w.grownBy w' v.ownBlock) : IMap w' m k f := by
  refine hm.of_block (hg.block m hm.lt (fun e' => ?_))
  obtain ⟨cur, hc⟩ := owns_obj h e'.symm
  obtain ⟨es, c, ho⟩ := hm.obj
  rw [ho] at hc
  cases hc

/-- Where all that has been found lies: rows, words, and what has been seen. -/
structure CRel (w wr : World) (m : Nat) (vr vw : Value) (vs us : List Value) (A B : List (List Int)) (F : Int → Option Value) (N : Nat) : Prop where
  rows : wr.ownsRow w.heap.size 22 1 vr A.length vs
  words : wr.ownsRow w.heap.size 22 1 vw B.length us
  rowsAt : OwnAll wr w.heap.size vs A
  wordsAt : OwnAll wr w.heap.size us B
  apart : vr.ownBlock ≠ vw.ownBlock
  seen : IMap wr m N F
  mge : w.heap.size ≤ m
  below : Below w.heap.size w wr

theorem ownsRow_block {w : World} {base e size n : Nat} {v : Value} {xs : List Value} (h : w.ownsRow base e size v n xs) (hn : 0 < n) : ∃ b, v.ownBlock = some b := by
  rcases h.2 with ⟨_, h0⟩ | ⟨g, cap, cur, hv, _⟩
  · omega
  · exact ⟨g, by rw [hv]; rfl⟩

theorem CRel.later {w wr w' : World} {m N : Nat} {vr vw : Value} {vs us : List Value} {A B : List (List Int)} {F : Int → Option Value} (h : CRel w wr m vr vw vs us A B F N) (hb : Below wr.heap.size wr w') : CRel w w' m vr vw vs us A B F N :=
  ⟨owns_below h.rows hb (Nat.le_refl _), owns_below h.words hb (Nat.le_refl _), h.rowsAt.mono (fun _ _ _ h' => owns_below h' hb (Nat.le_refl _)), h.wordsAt.mono (fun _ _ _ h' => owns_below h' hb (Nat.le_refl _)), h.apart, h.seen.below hb h.seen.lt, h.mge,
    h.below.trans (hb.mono h.below.size)⟩

theorem CRel.alloc {w wr : World} {m N : Nat} {vr vw : Value} {vs us : List Value} {A B : List (List Int)} {F : Int → Option Value} (h : CRel w wr m vr vw vs us A B F N) (o : Obj) : CRel w (wr.alloc o) m vr vw vs us A B F N :=
  h.later ((Below.refl _ _).alloc (Nat.le_refl _) o)

theorem CRel.put {w wr w' : World} {m N : Nat} {vr vw : Value} {vs us : List Value} {A B : List (List Int)} {F F' : Int → Option Value} (h : CRel w wr m vr vw vs us A B F N) (hm : IMap w' m (N + 1) F') (hg : wr.grownBy w' (some m)) : CRel w w' m vr vw vs us A B F' (N + 1) :=
  ⟨owns_map_kept h.rows h.seen hg, owns_map_kept h.words h.seen hg, h.rowsAt.mono (fun _ _ _ h' => owns_map_kept h' h.seen hg), h.wordsAt.mono (fun _ _ _ h' => owns_map_kept h' h.seen hg), h.apart, hm, h.mge,
    h.below.grown hg h.below.size (fun k hk => by injection hk with hk; rw [← hk]; exact h.mge)⟩

theorem CRel.addRow {w wr w' : World} {m N : Nat} {vr vw v' u : Value} {vs us : List Value} {A B : List (List Int)} {F : Int → Option Value} {X : List Int} (h : CRel w wr m vr vw vs us A B F N) (hown : w'.ownsRow w.heap.size 22 1 v' (A.length + 1) (vs ++ [u])) (hg : wr.grownBy w' vr.ownBlock)
    (hp : v'.ownBlock = vr.ownBlock ∨ (v'.ownBlock = some wr.heap.size ∧ wr.grownBy w' none)) (hu : wr.ownsRow w.heap.size 3 1 u X.length (X.map (Value.int .i64))) : CRel w w' m v' vw (vs ++ [u]) us (A ++ [X]) B F N :=
  ⟨by rw [List.length_append]; exact hown, owns_row_kept h.words (Or.inl (fun e => h.apart e.symm)) hg, OwnAll.snoc (owns_kept_ty hu h.rows hg) (h.rowsAt.mono (fun _ _ _ h' => owns_kept_ty h' h.rows hg)), h.wordsAt.mono (fun _ _ _ h' => owns_kept_ty h' h.rows hg),
    (fun e => by
      rcases hp with hp | ⟨hp, _⟩
      · exact h.apart (hp.symm.trans e)
      · have := (h.words.lt wr.heap.size (e.symm.trans hp)).2
        omega),
    map_row_kept h.rows h.seen hg, h.mge, h.below.grown hg h.below.size (fun g' hg' => (h.rows.lt g' hg').1)⟩

theorem CRel.addWord {w wr w' : World} {m N : Nat} {vr vw v' u : Value} {vs us : List Value} {A B : List (List Int)} {F : Int → Option Value} {X : List Int} (h : CRel w wr m vr vw vs us A B F N) (hown : w'.ownsRow w.heap.size 22 1 v' (B.length + 1) (us ++ [u])) (hg : wr.grownBy w' vw.ownBlock)
    (hp : v'.ownBlock = vw.ownBlock ∨ (v'.ownBlock = some wr.heap.size ∧ wr.grownBy w' none)) (hu : wr.ownsRow w.heap.size 3 1 u X.length (X.map (Value.int .i64))) : CRel w w' m vr v' vs (us ++ [u]) A (B ++ [X]) F N :=
  ⟨owns_row_kept h.rows (Or.inl h.apart) hg, by rw [List.length_append]; exact hown, h.rowsAt.mono (fun _ _ _ h' => owns_kept_ty h' h.words hg), OwnAll.snoc (owns_kept_ty hu h.words hg) (h.wordsAt.mono (fun _ _ _ h' => owns_kept_ty h' h.words hg)),
    (fun e => by
      rcases hp with hp | ⟨hp, _⟩
      · exact h.apart (e.trans hp)
      · have := (h.rows.lt wr.heap.size (e.trans hp)).2
        omega),
    map_row_kept h.words h.seen hg, h.mge, h.below.grown hg h.below.size (fun g' hg' => (h.words.lt g' hg').1)⟩

theorem CRel.congr {w wr : World} {m N : Nat} {vr vw : Value} {vs us : List Value} {A B A' B' : List (List Int)} {F F' : Int → Option Value} (h : CRel w wr m vr vw vs us A B F N) (e1 : A = A') (e2 : B = B') (e3 : ∀ a, F a = F' a) : CRel w wr m vr vw vs us A' B' F' N := by
  subst e1; subst e2
  exact ⟨h.rows, h.words, h.rowsAt, h.wordsAt, h.apart, h.seen.congr e3, h.mge, h.below⟩

end Go.Proofs.Ytbddhpbeekioiaa
