/- Joined: Clo, Clos, GeD, GeZ, GroupM, Normal, NormalB, GHas, Chg, Say. -/
import Derived.Test.YtahffpgadoiijaaGreatJ2
import Derived.Test.YtahffpgadoiijaaGreatJ4
import Derived.Deep.QuietTactic
import Derived.BigQuiet
import Derived.Laws.ResultCell
/- append of nothing at all. Closed: letters, what has been found, and where it lies. -/
namespace Go.Proofs.YtahffpgadoiijaaGreat
open Go.RowKit

/-- The letters of some rows: each, and what undoes it. -/
noncomputable def letters : Nat → List (List Int) → List (Int × Pm)
  | _, [] => []
  | k, x :: t => ((k : Int) + 1, pad x) :: (-((k : Int) + 1), (pad x)⁻¹) :: letters (k + 1) t

theorem letters_length (k : Nat) (xss : List (List Int)) : (letters k xss).length = 2 * xss.length := by
  induction xss generalizing k with
  | nil => rfl
  | cons x t ih => rw [letters, List.length_cons, List.length_cons, ih, List.length_cons]; omega

theorem letters_even {k j : Nat} {xss : List (List Int)} {x : List Int} (h : xss[j]? = some x) : (letters k xss)[2 * j]? = some (((k + j : Nat) : Int) + 1, pad x) := by
  induction xss generalizing k j with
  | nil => simp at h
  | cons y t ih =>
    cases j with
    | zero => simp at h; subst h; simp [letters]
    | succ j =>
      rw [List.getElem?_cons_succ] at h
      rw [show 2 * (j + 1) = 2 * j + 1 + 1 by omega, letters, List.getElem?_cons_succ, List.getElem?_cons_succ, ih h]
      rw [show k + 1 + j = k + (j + 1) by omega]

theorem letters_odd {k j : Nat} {xss : List (List Int)} {x : List Int} (h : xss[j]? = some x) : (letters k xss)[2 * j + 1]? = some (-(((k + j : Nat) : Int) + 1), (pad x)⁻¹) := by
  induction xss generalizing k j with
  | nil => simp at h
  | cons y t ih =>
    cases j with
    | zero => simp at h; subst h; simp [letters]
    | succ j =>
      rw [List.getElem?_cons_succ] at h
      rw [show 2 * (j + 1) + 1 = 2 * j + 1 + 1 + 1 by omega, letters, List.getElem?_cons_succ, List.getElem?_cons_succ, ih h]
      rw [show k + 1 + j = k + (j + 1) by omega]

theorem letters_mem {k : Nat} {xss : List (List Int)} {l : Int × Pm} (h : l ∈ letters k xss) : ∃ x, x ∈ xss ∧ (l.2 = pad x ∨ l.2 = (pad x)⁻¹) := by
  induction xss generalizing k with
  | nil => cases h
  | cons y t ih =>
    rw [letters] at h
    rcases List.mem_cons.1 h with rfl | h
    · exact ⟨y, by simp, Or.inl rfl⟩
    · rcases List.mem_cons.1 h with rfl | h
      · exact ⟨y, by simp, Or.inr rfl⟩
      · obtain ⟨x, h1, h2⟩ := ih h
        exact ⟨x, by simp [h1], h2⟩

theorem letters_has {k : Nat} {xss : List (List Int)} {x : List Int} (h : x ∈ xss) : ∃ l, l ∈ letters k xss ∧ l.2 = pad x := by
  induction xss generalizing k with
  | nil => cases h
  | cons y t ih =>
    rcases List.mem_cons.1 h with rfl | h
    · exact ⟨_, by rw [letters]; exact List.mem_cons_self, rfl⟩
    · obtain ⟨l, h1, h2⟩ := ih (k := k + 1) h
      exact ⟨l, by rw [letters]; exact List.mem_cons_of_mem _ (List.mem_cons_of_mem _ h1), h2⟩

/-- Letters make what the rows make. -/
theorem letters_gen (k : Nat) (xss : List (List Int)) (x : Pm) : Gen (fun y => ∃ l, l ∈ letters k xss ∧ l.2 = y) x ↔ Gen (fun y => y ∈ xss.map pad) x := by
  constructor
  · refine Gen.least (Gen.sub _) ?_
    rintro s ⟨l, hl, rfl⟩
    obtain ⟨y, hy, e | e⟩ := letters_mem hl
    · rw [e]; exact Gen.of (List.mem_map.2 ⟨y, hy, rfl⟩)
    · rw [e]; exact Gen.inv (Gen.of (List.mem_map.2 ⟨y, hy, rfl⟩))
  · refine Gen.mono ?_
    intro s hs
    obtain ⟨y, hy, rfl⟩ := List.mem_map.1 hs
    exact letters_has hy

theorem letters_fix {n k : Nat} {xss : List (List Int)} (h12 : n ≤ 12) (h : RowsN n xss) {l : Int × Pm} (hl : l ∈ letters k xss) : Fixes (fun b => n ≤ b) l.2 := by
  obtain ⟨y, hy, e⟩ := letters_mem hl
  have hp := pad_fixes h12 (h y hy).2 (h y hy).1
  rcases e with e | e
  · rw [e]; exact hp
  · rw [e]; exact (fixes_sub _).inv hp

theorem gen_fix {n : Nat} {xss : List (List Int)} (h12 : n ≤ 12) (h : RowsN n xss) {x : Pm} (hx : Gen (fun y => ∃ l, l ∈ letters 0 xss ∧ l.2 = y) x) : Fixes (fun b => n ≤ b) x :=
  hx.least (fixes_sub _) (by rintro s ⟨l, hl, rfl⟩; exact letters_fix h12 h hl)

theorem RunOk.fix {n : Nat} {xss : List (List Int)} {S : List (Pm × List Int)} (h12 : n ≤ 12) (h : RowsN n xss) (hS : RunOk (letters 0 xss) S) {e : Pm × List Int} (he : e ∈ S) : Fixes (fun b => n ≤ b) e.1 := gen_fix h12 h (hS.gen e he)

/-- The rank of a row that is kept as a permutation. -/
def rkP (n : Nat) (x : Pm) : Nat := rkTo (cut n x) n

theorem rkP_inj {n : Nat} (h12 : n ≤ 12) {x y : Pm} (hx : Fixes (fun b => n ≤ b) x) (hy : Fixes (fun b => n ≤ b) y) (h : rkP n x = rkP n y) : x = y := by
  have e : cut n x = cut n y := rank_inj (cut_row h12 hx) (cut_row h12 hy) (by rw [cut_length h12, cut_length h12]) (by rw [cut_length h12, cut_length h12]; exact h)
  rw [← pad_cut h12 hx, ← pad_cut h12 hy, e]

/-- What 'seen' holds: the ranks of what has been found. -/
noncomputable def seenOf (n : Nat) (S : List (Pm × List Int)) : Int → Option Value :=
  open Classical in fun a => if a ∈ S.map (fun e => ((rkP n e.1 : Nat) : Int)) then some (.bool true) else none

theorem seen_old {n : Nat} {S : List (Pm × List Int)} {x : Pm} (h : x ∈ S.map (·.1)) : seenOf n S ((rkP n x : Nat) : Int) = some (.bool true) := by
  unfold seenOf
  obtain ⟨e, he, rfl⟩ := List.mem_map.1 h
  rw [if_pos (List.mem_map.2 ⟨e, he, rfl⟩)]

theorem seen_new {n : Nat} {S : List (Pm × List Int)} {x : Pm} (h12 : n ≤ 12) (hS : ∀ e, e ∈ S → Fixes (fun b => n ≤ b) e.1) (hx : Fixes (fun b => n ≤ b) x) (h : ¬ x ∈ S.map (·.1)) : seenOf n S ((rkP n x : Nat) : Int) = none := by
  unfold seenOf
  rw [if_neg]
  intro hm
  obtain ⟨e, he, h2⟩ := List.mem_map.1 hm
  have h3 : rkP n e.1 = rkP n x := by omega
  exact h (List.mem_map.2 ⟨e, he, rkP_inj h12 (hS e he) hx h3⟩)

theorem seen_put (n : Nat) (S : List (Pm × List Int)) (x : Pm) (u : List Int) (a : Int) : upd (seenOf n S) ((rkP n x : Nat) : Int) (.bool true) a = seenOf n (S ++ [(x, u)]) a := by
  unfold upd seenOf
  by_cases e : a = ((rkP n x : Nat) : Int)
  · rw [if_pos e, if_pos (by rw [e]; simp)]
  · rw [if_neg e]
    by_cases h : a ∈ S.map (fun e => ((rkP n e.1 : Nat) : Int))
    · rw [if_pos h, if_pos (by rw [List.map_append]; exact List.mem_append_left _ h)]
    · rw [if_neg h, if_neg]
      rw [List.map_append]
      intro hm
      rcases List.mem_append.1 hm with hm | hm
      · exact h hm
      · exact e (by simpa using hm)

theorem rkP_one {n : Nat} (h12 : n ≤ 12) : rkP n 1 = 0 := by
  have : cut n 1 = rnd n := by rw [← pad_rnd h12, cut_pad h12 (rnd_length n) (isRow_rnd n)]
  unfold rkP
  rw [this]
  have key : ∀ k, k < 13 → rkTo (rnd k) k = 0 := by decide
  exact key n (by omega)

/-- A row that another block's map leaves as it is. -/
theorem owns_map_kept {w w' : World} {base e size n m k : Nat} {v : Value} {xs : List Value} {f : Int → Option Value} (h : w.ownsRow base e size v n xs) (hm : IMap w m k f) (hg : w.grownBy w' (some m)) : w'.ownsRow base e size v n xs := by
  refine owns_of_block h (fun b hb => hg.block b (h.lt b hb).2 (fun e' => ?_))
  obtain ⟨cur, hc⟩ := owns_obj h hb
  obtain ⟨es, c, ho⟩ := hm.obj
  injection e' with e'
  rw [e', ho] at hc
  cases hc

/-- .. and what another row's growing leaves as it is. -/
theorem owns_row_kept {w w' : World} {base e size n : Nat} {v : Value} {xs : List Value} {g : Option Nat} (h : w.ownsRow base e size v n xs) (hne : v.ownBlock ≠ g ∨ v.ownBlock = none) (hg : w.grownBy w' g) : w'.ownsRow base e size v n xs := by
  refine owns_of_block h (fun b hb => hg.block b (h.lt b hb).2 (fun e' => ?_))
  rcases hne with hne | hne
  · exact hne (hb.trans e')
  · rw [hne] at hb; cases hb

theorem map_row_kept {w w' : World} {base e size n m k : Nat} {v : Value} {xs : List Value} {f : Int → Option Value} (h : w.ownsRow base e size v n xs) (hm : IMap w m k f) (hg : w.grownBy w' v.ownBlock) : IMap w' m k f := by
  refine hm.of_block (hg.block m hm.lt (fun e' => ?_))
  obtain ⟨cur, hc⟩ := owns_obj h e'.symm
  obtain ⟨es, c, ho⟩ := hm.obj
  rw [ho] at hc
  cases hc

/-- Where all that has been found lies: rows, words, and what has been seen. -/
structure CRel (w wr : World) (m : Nat) (vr vw : Value) (vs us : List Value) (A B : List (List Int)) (F : Int → Option Value) (N : Nat) : Prop where
  rows : wr.ownsRow w.heap.size 22 1 vr A.length vs
  words : wr.ownsRow w.heap.size 22 1 vw B.length us
  rowsAt : OwnAll wr w.heap.size vs A
  wordsAt : OwnAll wr w.heap.size us B
  apart : vr.ownBlock ≠ vw.ownBlock
  seen : IMap wr m N F
  mge : w.heap.size ≤ m
  below : Below w.heap.size w wr

theorem ownsRow_block {w : World} {base e size n : Nat} {v : Value} {xs : List Value} (h : w.ownsRow base e size v n xs) (hn : 0 < n) : ∃ b, v.ownBlock = some b := by
  rcases h.2 with ⟨_, h0⟩ | ⟨g, cap, cur, hv, _⟩
  · omega
  · exact ⟨g, by rw [hv]; rfl⟩

theorem CRel.later {w wr w' : World} {m N : Nat} {vr vw : Value} {vs us : List Value} {A B : List (List Int)} {F : Int → Option Value} (h : CRel w wr m vr vw vs us A B F N) (hb : Below wr.heap.size wr w') : CRel w w' m vr vw vs us A B F N :=
  ⟨owns_below h.rows hb (Nat.le_refl _), owns_below h.words hb (Nat.le_refl _), h.rowsAt.mono (fun _ _ _ h' => owns_below h' hb (Nat.le_refl _)), h.wordsAt.mono (fun _ _ _ h' => owns_below h' hb (Nat.le_refl _)), h.apart, h.seen.below hb h.seen.lt, h.mge,
    h.below.trans (hb.mono h.below.size)⟩

theorem CRel.alloc {w wr : World} {m N : Nat} {vr vw : Value} {vs us : List Value} {A B : List (List Int)} {F : Int → Option Value} (h : CRel w wr m vr vw vs us A B F N) (o : Obj) : CRel w (wr.alloc o) m vr vw vs us A B F N :=
  h.later ((Below.refl _ _).alloc (Nat.le_refl _) o)

theorem CRel.put {w wr w' : World} {m N : Nat} {vr vw : Value} {vs us : List Value} {A B : List (List Int)} {F F' : Int → Option Value} (h : CRel w wr m vr vw vs us A B F N) (hm : IMap w' m (N + 1) F') (hg : wr.grownBy w' (some m)) : CRel w w' m vr vw vs us A B F' (N + 1) :=
  ⟨owns_map_kept h.rows h.seen hg, owns_map_kept h.words h.seen hg, h.rowsAt.mono (fun _ _ _ h' => owns_map_kept h' h.seen hg), h.wordsAt.mono (fun _ _ _ h' => owns_map_kept h' h.seen hg), h.apart, hm, h.mge,
    h.below.grown hg h.below.size (fun k hk => by injection hk with hk; rw [← hk]; exact h.mge)⟩

theorem CRel.addRow {w wr w' : World} {m N : Nat} {vr vw v' u : Value} {vs us : List Value} {A B : List (List Int)} {F : Int → Option Value} {X : List Int} (h : CRel w wr m vr vw vs us A B F N) (hown : w'.ownsRow w.heap.size 22 1 v' (A.length + 1) (vs ++ [u])) (hg : wr.grownBy w' vr.ownBlock)
    (hp : v'.ownBlock = vr.ownBlock ∨ (v'.ownBlock = some wr.heap.size ∧ wr.grownBy w' none)) (hu : wr.ownsRow w.heap.size 3 1 u X.length (X.map (Value.int .i64))) : CRel w w' m v' vw (vs ++ [u]) us (A ++ [X]) B F N :=
  ⟨by rw [List.length_append]; exact hown, owns_row_kept h.words (Or.inl (fun e => h.apart e.symm)) hg, OwnAll.snoc (owns_kept_ty hu h.rows hg) (h.rowsAt.mono (fun _ _ _ h' => owns_kept_ty h' h.rows hg)), h.wordsAt.mono (fun _ _ _ h' => owns_kept_ty h' h.rows hg),
    (fun e => by
      rcases hp with hp | ⟨hp, _⟩
      · exact h.apart (hp.symm.trans e)
      · have := (h.words.lt wr.heap.size (e.symm.trans hp)).2
        omega),
    map_row_kept h.rows h.seen hg, h.mge, h.below.grown hg h.below.size (fun g' hg' => (h.rows.lt g' hg').1)⟩

theorem CRel.addWord {w wr w' : World} {m N : Nat} {vr vw v' u : Value} {vs us : List Value} {A B : List (List Int)} {F : Int → Option Value} {X : List Int} (h : CRel w wr m vr vw vs us A B F N) (hown : w'.ownsRow w.heap.size 22 1 v' (B.length + 1) (us ++ [u])) (hg : wr.grownBy w' vw.ownBlock)
    (hp : v'.ownBlock = vw.ownBlock ∨ (v'.ownBlock = some wr.heap.size ∧ wr.grownBy w' none)) (hu : wr.ownsRow w.heap.size 3 1 u X.length (X.map (Value.int .i64))) : CRel w w' m vr v' vs (us ++ [u]) A (B ++ [X]) F N :=
  ⟨owns_row_kept h.rows (Or.inl h.apart) hg, by rw [List.length_append]; exact hown, h.rowsAt.mono (fun _ _ _ h' => owns_kept_ty h' h.words hg), OwnAll.snoc (owns_kept_ty hu h.words hg) (h.wordsAt.mono (fun _ _ _ h' => owns_kept_ty h' h.words hg)),
    (fun e => by
      rcases hp with hp | ⟨hp, _⟩
      · exact h.apart (e.trans hp)
      · have := (h.rows.lt wr.heap.size (e.trans hp)).2
        omega),
    map_row_kept h.words h.seen hg, h.mge, h.below.grown hg h.below.size (fun g' hg' => (h.words.lt g' hg').1)⟩

theorem CRel.congr {w wr : World} {m N : Nat} {vr vw : Value} {vs us : List Value} {A B A' B' : List (List Int)} {F F' : Int → Option Value} (h : CRel w wr m vr vw vs us A B F N) (e1 : A = A') (e2 : B = B') (e3 : ∀ a, F a = F' a) : CRel w wr m vr vw vs us A' B' F' N := by
  subst e1; subst e2
  exact ⟨h.rows, h.words, h.rowsAt, h.wordsAt, h.apart, h.seen.congr e3, h.mge, h.below⟩

end Go.Proofs.YtahffpgadoiijaaGreat

/- Contract: Closed, the answer's own: rows found one behind the other, with their words. -/
namespace Go.Proofs.YtahffpgadoiijaaGreat
open Go.RowKit


theorem by_cut {n : Nat} {x : Pm} {Z : List Int} (h12 : n ≤ 12) (hx : Fixes (fun b => n ≤ b) x) (hZ : isRow Z) (hl : Z.length = n) : by_ (cut n x) Z = cut n (x * pad Z) := by
  have hc := cut_row h12 hx
  have hcl := cut_length h12 x
  have hp : pad (by_ (cut n x) Z) = x * pad Z := by rw [pad_by (by rw [hcl]; exact h12) hc hZ (by rw [hcl]; exact hl), pad_cut h12 hx]
  have hr : isRow (by_ (cut n x) Z) := isRow_by hc hZ (by rw [hcl]; exact hl)
  rw [← hp, cut_pad h12 (by rw [by_length]; exact hl) hr]

theorem rkP_le {n : Nat} (x : Pm) (h12 : n ≤ 12) : rkP n x ≤ 479001600 := by
  unfold rkP
  have := rankR_le (cut n x) (by rw [cut_length h12]; exact h12)
  rw [← rkTo_all, cut_length h12] at this
  exact this

theorem wpList_look_is {ops : Array Oper} {rest : List Oper} {o : Oper} {a : Act} {w : World} {Q : Exit → Act → World → Prop} (hg : o.guard = none) (m x : Operand) (t : TypeId) (hop : o.op = Op.lookup t m x false) (e : TypeId) (ht : Tryz.prog.underlying t = some (.map 3 e)) {z : Value} (hz : (zeroValue e).run Tryz.prog w = .ok z w)
    {b n : Nat} {f : Int → Option Value} (h : IMap w b n f) (k : Int) (hm : a.eval m = .map (some b)) (hx : a.eval x = .int .i64 k) (h1 : -9223372036854775808 ≤ k) (h2 : k ≤ 9223372036854775807) {v : Value} (hv : (f k).getD z = v)
    (hK : wpList Tryz.prog ops Q rest (a.put o.dst v) w) : wpList Tryz.prog ops Q (o :: rest) a w := by
  subst hv
  exact wpList_look hg m x t hop e ht hz h k hm hx h1 h2 hK

/-- 'append([]int{}, xs...)', xs nil or not. -/
theorem wpList_append_copy {P : Program} {w : World} {ops : Array Oper} {rest : List Oper} {o : Oper} {a : Act} {Q : Exit → Act → World → Prop} (hgd : o.guard = none) (s x : Operand) (t : TypeId)
    (ho : o.op = .call { callee := .builtin .append, args := #[s, x], argTypes := #[t, t] })
    (base base' : Nat) (e : TypeId) (i : TypeInfo) (z : Value) (bytes : Nat) (ht : P.underlying t = some (.slice e)) (hi : P.info? e = some i) (hz : i.zero = some z)
    (hsize : i.size = 1) (hby : i.bytes = bytes) (hzs : z.cells.size = 1)
    (g : Nat) (hs : a.eval s = .slice (some ⟨g, 0, none⟩) 0 0) (hown : w.ownsRow base e 1 (.slice (some ⟨g, 0, none⟩) 0 0) 0 [])
    (u : Value) (m : Nat) (news : List Value) (hx : a.eval x = u) (hsrc : w.ownsRow base' e 1 u m news) (h1 : ∀ u ∈ news, u.oneCell' = true)
    (h63 : m ≤ maxLen) (hbytes : m * bytes ≤ 140737488355328) (hbase : base ≤ w.heap.size)
    (h : ∀ v' w', w'.ownsRow base e 1 v' m news → w.grownBy w' (some g) → wpList P ops Q rest (a.put o.dst v') w') :
    wpList P ops Q (o :: rest) a w := by
  rcases hsrc.2 with ⟨rfl, rfl⟩ | ⟨g', cap, cur, rfl, hbg, hg, hnc, hcm, hcs, htake⟩
  · have hn : news = [] := List.length_eq_zero_iff.1 (by have := hsrc.1; omega)
    subst hn
    exact wpList_append_nothing w hgd s x t ho e i ht hi _ 0 0 (Nat.le_refl _) hs hx (h _ _ hown ⟨rfl, rfl, rfl, Nat.le_refl _, fun _ _ _ => rfl⟩)
  · refine wpList_append_own w hgd s x t ho base e i z 1 bytes ht hi hz hsize hby hzs (by decide) _ 0 [] hs hown ⟨g', 0, none⟩ m cap news hx (by rw [hsrc.1]) (hsrc.cells (g := g') rfl) h1 (by omega) (by rw [Nat.zero_add]; exact hbytes) hbase ?_
    intro v' w' h2 h3 _
    rw [Nat.zero_add, List.nil_append] at h2
    exact h v' w' h2 h3

theorem word_at {w : World} {base g n cap i : Nat} {us : List Value} {B : List (List Int)} {X : List Int} (h : w.ownsRow base 22 1 (.slice (some ⟨g, 0, none⟩) n cap) n us) (ha : OwnAll w base us B) (hB : B[i]? = some X) (hn : B.length = n) :
    ∃ u, w.cell? ⟨g, i, none⟩ = some u ∧ w.ownsRow base 3 1 u X.length (X.map (Value.int .i64)) := by
  have hi : i < B.length := (List.getElem?_eq_some_iff.1 hB).1
  have hX : B.getD i [] = X := by rw [List.getD, hB]; rfl
  have ho := ownAll_at ha (j := i) (by rw [OwnAll.length ha]; exact hi)
  rw [hX] at ho
  exact ⟨_, owns_val h (by omega), ho⟩

theorem run_words {L : List (Int × Pm)} {i : Nat} {S : List (Pm × List Int)} (h : Run L i S) : ∀ e, e ∈ S → e.2.length < S.length := by
  have one : ∀ (e0 : Pm × List Int) (S : List (Pm × List Int)) (l : Int × Pm), (∀ e, e ∈ S → e.2.length < S.length) → e0.2.length < S.length → (∀ e, e ∈ tryL e0 S l → e.2.length < (tryL e0 S l).length) ∧ S.length ≤ (tryL e0 S l).length := by
    intro e0 S l hS h0
    by_cases hc : e0.1 * l.2 ∈ S.map (·.1)
    · rw [tryL_old hc]; exact ⟨hS, Nat.le_refl _⟩
    · rw [tryL_new hc, List.length_append]
      refine ⟨fun e he => ?_, by omega⟩
      rcases List.mem_append.1 he with he | he
      · have := hS e he; simp; omega
      · rw [List.mem_singleton.1 he]; simp; omega
  have many : ∀ (M : List (Int × Pm)) (e0 : Pm × List Int) (S : List (Pm × List Int)), (∀ e, e ∈ S → e.2.length < S.length) → e0.2.length < S.length → (∀ e, e ∈ M.foldl (tryL e0) S → e.2.length < (M.foldl (tryL e0) S).length) := by
    intro M
    induction M with
    | nil => intro e0 S hS _; exact hS
    | cons l M ih =>
      intro e0 S hS h0
      have := one e0 S l hS h0
      exact ih e0 _ this.1 (by omega)
  induction h with
  | start => intro e he; rw [List.mem_singleton.1 he]; simp
  | step h he ih => exact many _ _ _ ih (ih _ (List.mem_of_getElem? he))

def ClosedPost (n : Nat) (xss : List (List Int)) (most : Nat) (w : World) (e : Ending) (w' : World) : Prop :=
  Below w.heap.size w w' ∧
  ((∃ vr vw S, e = .returned (.tuple #[vr, vw]) ∧ IntsAll w' vr (S.map (fun e => cut n e.1)) ∧ IntsAll w' vw (S.map (·.2)) ∧ Run (letters 0 xss) S.length S ∧ S.length ≤ most) ∨
   (e = .returned (.tuple #[.slice none 0 0, .slice none 0 0]) ∧ ∃ S, RunOk (letters 0 xss) S ∧ most < S.length))

set_option maxRecDepth 20000 in
set_option maxHeartbeats 4000000 in
theorem closed_ok (n most : Nat) (v : Value) (xss : List (List Int)) (w : World) (h : IntsAll w v xss) (hr : RowsN n xss) (h1 : 1 ≤ n) (h12 : n ≤ 12) (h16 : xss.length ≤ 1000) (hm1 : 1 ≤ most) (hm2 : most ≤ 100000) :
    Calls Tryz.prog 10 #[.int .i64 n, v, .int .i64 most] w fun e w' => ClosedPost n xss most w e w' := by
  obtain ⟨i0, hi, hz0, hz1, hz2⟩ := info_parts Tryz.info22
  obtain ⟨j0, hji, hjz0, hjz1, hjz2⟩ := info_parts Tryz.info3
  have HA := hide h
  have HR := hide hr
  obtain ⟨p0, cap0, rfl⟩ : ∃ p c, v = .slice p xss.length c := by
    obtain ⟨vs, hv, hl, _⟩ := h
    obtain ⟨p, c, e⟩ := hv.form
    exact ⟨p, c, by rw [e, hl]⟩
  obtain ⟨L, hL⟩ : ∃ L, L = letters 0 xss := ⟨_, rfl⟩
  have HL := hide hL
  have hLl : L.length = 2 * xss.length := by rw [hL, letters_length]
  have HLL := hide hLl
  clear h hr hL hLl
  have hmm := @run_makeMap Tryz.prog
  go_enter Tryz.func10, Tryz.ntmps10
  go_wp2_with fail
  refine (rrounds_ok n _ (by omega)).mono ?_
  rintro ex w1 ⟨u0, rfl, ho, hb1⟩
  obtain ⟨g0, c0, rfl, hg0a, hg0b, _, _⟩ := owns_form ho h1
  have hs1 := hb1.size
  have HO := hide ho
  have HM0 : Hid (IMap (((w1.alloc (.cells #[.slice (some ⟨g0, 0, none⟩) n c0] 22)).alloc (.cells #[.slice none 0 0] 22)).alloc (.map #[] 0)) (w1.heap.size + 1 + 1) 0 (fun _ => none)) := by
    have := IMap.made ((w1.alloc (.cells #[.slice (some ⟨g0, 0, none⟩) n c0] 22)).alloc (.cells #[.slice none 0 0] 22))
    unfold Hid
    simpa using this
  have HZL : Hid (0 < maxLen) := by unfold Hid maxLen; omega
  clear ho
  go_wp2_with (refine wpList_insert rfl _ _ _ 62 rfl 4 Tryz.underlying62 HM0.out HZL.out (0 : Int) (.bool true) rfl rfl rfl (by omega) (by omega) ?_)
  intro w2 hM2 hg2
  have hC0 : CRel w w2 (w1.heap.size + 1 + 1) (.slice (some ⟨w1.heap.size, 0, none⟩) 1 1) (.slice (some ⟨w1.heap.size + 1, 0, none⟩) 1 1) [.slice (some ⟨g0, 0, none⟩) n c0] [.slice none 0 0] ([((1 : Pm), ([] : List Int))].map (fun e => cut n e.1)) ([((1 : Pm), ([] : List Int))].map (·.2)) (seenOf n [(1, [])]) 1 := by
    have hcut : cut n 1 = rnd n := by rw [← pad_rnd h12, cut_pad h12 (rnd_length n) (isRow_rnd n)]
    have ba : Below w1.heap.size w1 (w1.alloc (.cells #[.slice (some ⟨g0, 0, none⟩) n c0] 22)) := (Below.refl _ _).alloc (Nat.le_refl _) _
    have hsz : (w1.alloc (.cells #[.slice (some ⟨g0, 0, none⟩) n c0] 22)).heap.size = w1.heap.size + 1 := by simp
    have o1 : (w1.alloc (.cells #[.slice (some ⟨g0, 0, none⟩) n c0] 22)).ownsRow w.heap.size 22 1 (.slice (some ⟨w1.heap.size, 0, none⟩) 1 1) 1 [.slice (some ⟨g0, 0, none⟩) n c0] := World.ownsRow_lit w1 #[.slice (some ⟨g0, 0, none⟩) n c0] 1 hs1 (by decide) (by simp)
    have o2 := World.ownsRow_lit (base := w.heap.size) (e := 22) (size := 1) (w1.alloc (.cells #[.slice (some ⟨g0, 0, none⟩) n c0] 22)) #[.slice none 0 0] 1 (by rw [hsz]; omega) (by decide) (by simp)
    rw [hsz] at o2
    have m0 := HM0.out
    refine ⟨owns_map_kept ((o1.alloc _).alloc _) m0 hg2, owns_map_kept (o2.alloc _) m0 hg2, ⟨?_, trivial⟩, ⟨owns_map_kept (World.ownsRow_nil _ _ _ _) m0 hg2, trivial⟩, (fun e => by have e' : w1.heap.size = w1.heap.size + 1 := Option.some.inj e; omega), hM2.congr (fun a => ?_), by omega, ?_⟩
    · show w2.ownsRow w.heap.size 3 1 (.slice (some ⟨g0, 0, none⟩) n c0) (cut n 1).length ((cut n 1).map (Value.int .i64))
      rw [hcut, rnd_length]
      exact owns_map_kept (((HO.out.alloc _).alloc _).alloc _) m0 hg2
    · unfold upd seenOf
      rw [List.map_cons, List.map_nil, rkP_one h12]
      by_cases e : a = 0
      · rw [if_pos e, if_pos (by rw [e]; simp)]
      · rw [if_neg e, if_neg (by simpa using e)]
    · exact (((hb1.alloc hb1.size _).alloc (by rw [hsz]; omega) _).alloc (by simp; omega) _).grown hg2 (by simp; omega) (fun k hk => by have e' : w1.heap.size + 1 + 1 = k := Option.some.inj hk; omega)
  have HC0 := hide hC0
  clear hM2 hg2 HM0 HZL hC0 HO
  go_wp2
  go_loopw [8, 9, 11] (fun a8 a9 a11 wr => ∃ (i : Nat) (vs us : List Value) (S : List (Pm × List Int)), i ≤ S.length ∧ a11 = .int .i64 i ∧ Hid (Run L i S) ∧ S.length ≤ most ∧ CRel w wr (w1.heap.size + 1 + 1) a8 a9 vs us (S.map (fun e => cut n e.1)) (S.map (·.2)) (seenOf n S) S.length) (fun _ _ a11 _ => most - (intOf a11).toNat)
  case atStart => exact ⟨0, _, _, _, by simp, rfl, Run.start, by simpa using hm1, HC0.out⟩
  case round =>
    clear HC0
    obtain ⟨i, vs, us, S, hiS, rfl, hRun, hSm, hC⟩ := hrel
    have hlA : (S.map (fun e => cut n e.1)).length = S.length := List.length_map ..
    have hlB : (S.map (·.2)).length = S.length := List.length_map ..
    have hSO := hRun.out.ok
    have hS1 : 1 ≤ S.length := List.length_pos_of_mem hSO.first
    have hCr := hC.rows
    rw [hlA] at hCr
    obtain ⟨gr, cr, rfl, hgra, hgrb, hcra, hcrb⟩ := owns_form hCr hS1
    by_cases hlt : i < S.length
    · obtain ⟨e, hE⟩ : ∃ e, S[i]? = some e := ⟨_, List.getElem?_eq_getElem hlt⟩
      have hem := List.mem_of_getElem? hE
      have HEG := hide (hSO.gen e hem)
      have HEF : Hid (Fixes (fun b => n ≤ b) e.1) := by have := hSO; rw [HL.out] at this; exact this.fix h12 HR.out hem
      have HWL : Hid (e.2.length ≤ 1000000) := by have := run_words hRun.out e hem; unfold Hid; omega
      have HSO := hide hSO
      have HE := hide hE
      have HC := hide hC
      clear hC hCr hSO hE hem hlA hlB
      go_wp2
      go_loopw [8, 9, 12] (fun a8 a9 a12 wr => ∃ (j : Nat) (vs us : List Value) (T : List (Pm × List Int)), j ≤ 2 * xss.length ∧ a12 = .int .i64 j ∧ Hid (T = tryTo L e S j) ∧ T.length ≤ most ∧ CRel w wr (w1.heap.size + 1 + 1) a8 a9 vs us (T.map (fun e => cut n e.1)) (T.map (·.2)) (seenOf n T) T.length) (fun _ _ a12 _ => 2 * xss.length - (intOf a12).toNat)
      case atStart => exact ⟨0, _, _, S, by omega, rfl, rfl, hSm, HC.out⟩
      case round =>
        clear HC hcra hcrb hgra hgrb
        obtain ⟨j, vs, us, T, hj, rfl, HTT, hTm, hC⟩ := hrel
        have hlA : (T.map (fun e => cut n e.1)).length = T.length := List.length_map ..
        have hlB : (T.map (·.2)).length = T.length := List.length_map ..
        obtain ⟨more, hmore⟩ := tryTo_more L e S j
        rw [← HTT.out] at hmore
        have hiT : i < T.length := by rw [hmore, List.length_append]; omega
        have hTi : T[i]? = some e := by rw [hmore, List.getElem?_append_left hlt]; exact HE.out
        have hTO : RunOk L T := by rw [HTT.out]; exact HSO.out.tryTo HEG.out _
        have HTF : Hid (∀ x, x ∈ T → Fixes (fun b => n ≤ b) x.1) := by intro x hx; rw [HL.out] at hTO; exact hTO.fix h12 HR.out hx
        have HEW : Hid ((T.map (·.2))[i]? = some e.2) := by show _ = _; rw [List.getElem?_map, hTi]; rfl
        have HER : Hid ((T.map (fun e => cut n e.1))[i]? = some (cut n e.1)) := by show _ = _; rw [List.getElem?_map, hTi]; rfl
        have hbw := hC.below
        have hws := hbw.size
        have hCr := hC.rows
        rw [hlA] at hCr
        have hCw := hC.words
        rw [hlB] at hCw
        obtain ⟨gr2, cr2, rfl, hgra, hgrb, hcra, hcrb⟩ := owns_form hCr (by omega)
        obtain ⟨gw, cw, rfl, hgwa, hgwb, hcwa, hcwb⟩ := owns_form hCw (by omega)
        by_cases hjl : j < 2 * xss.length
        · obtain ⟨ue, hce, hoe⟩ := word_at hCr hC.rowsAt HER.out hlA
          rw [cut_length h12] at hoe
          obtain ⟨ge, ce, rfl, hgea, hgeb, hcea, hceb⟩ := owns_form hoe h1
          have HOE := hide hoe
          have HC := hide hC
          have hq : ∃ q, q < xss.length ∧ (j = 2 * q ∨ j = 2 * q + 1) := ⟨j / 2, by omega, by omega⟩
          obtain ⟨q, hql, hjq⟩ := hq
          obtain ⟨X, hX⟩ : ∃ X, xss[q]? = some X := ⟨_, List.getElem?_eq_getElem hql⟩
          have hXr := HR.out X (List.mem_of_getElem? hX)
          obtain ⟨us0, hus, hul, hue⟩ := HA.out.below hbw
          obtain ⟨b0, off0, hpp, hcell0⟩ : ∃ b off, p0 = some ⟨b, off, none⟩ ∧ (∀ j, j < us0.length → wr.cell? ⟨b, off + j, none⟩ = some (us0.getD j undef)) := by
            rcases hus with ⟨e, p', c', hv⟩ | ⟨b, off, c', hv, _, hc, _, _, hcell⟩
            · injection hv with _ e2 _; omega
            · injection hv with e1 e2 e3
              exact ⟨b, off, e1, hcell⟩
          subst hpp
          obtain ⟨px, cx, hcx, hix⟩ := elAt hcell0 (k := q) (by omega) (hue q hql)
          have eX : xss.getD q [] = X := by rw [List.getD, hX]; rfl
          rw [eX] at hcx hix
          rw [hXr.2] at hcx hix
          have HX := hide hX
          have HXR := hide hXr.1
          have HXL := hide hXr.2
          clear hC hCr hCw hoe hlA hlB hTO hTi hmore hX hXr hus hul hue hcell0 eX
          rcases hjq with rfl | rfl
          · have HLET : Hid (L[2 * q]? = some ((q : Int) + 1, pad X)) := by show _ = _; rw [HL.out, letters_even HX.out, Nat.zero_add]
            have hdv : ((2 * q : Nat) : Int) / 2 = (q : Int) := by omega
            have hmd : ((2 * q : Nat) : Int) % 2 = 0 := by omega
            have hZr := HXR.out
            have hZl := HXL.out
            have hZi := hix.out
            have hCx := And.intro HC (And.intro HOE.out hws)
            clear HC HOE hix
            have hyL : Hid (L[(2 * q)]? = some (((q : Int) + 1), pad X)) := HLET
            have hyE : by_ (cut n e.1) X = cut n (e.1 * pad X) := by_cut h12 HEF.out hZr hZl
            have hyF : Fixes (fun b => n ≤ b) (e.1 * pad X) := (fixes_sub _).mul HEF.out (pad_fixes h12 hZl hZr)
            have HBY := hide (rby_own (.slice (some ⟨ge, 0, none⟩) n ce) (.slice px n cx) (cut n e.1) X wr (Ints.own hCx.2.1) hZi (fun j hj => by rw [cut_length h12]; have := hZr.at (j := j) hj; rw [hZl] at this; exact this) (by rw [cut_length h12]; exact h1) (by omega))
            rw [hyE] at HBY
            have HYF := hide hyF
            have hZb : X.length = n := hZl
            clear hyE hyF
            go_wp2_with fail
            refine HBY.out.mono ?_
            rintro ex w1 ⟨v1, rfl, ho1, hb1⟩
            obtain ⟨HCX, _, hge1⟩ := hCx
            have hC1 := HCX.out.later hb1
            rw [hZb] at ho1
            obtain ⟨g1, c1, rfl, hg1a, hg1b, _, _⟩ := owns_form ho1 h1
            have HRK := hide (rrank_ok _ (cut n (e.1 * pad X)) w1 (Ints.own ho1) (cut_row h12 HYF.out) (by rw [cut_length h12]; exact h1) (by rw [cut_length h12]; exact h12))
            have HO1 := hide ho1
            have HC1 := hide hC1
            clear HBY ho1 hC1 HCX
            have hkk : rkTo (cut n (e.1 * pad X)) (cut n (e.1 * pad X)).length = rkP n (e.1 * pad X) := by rw [cut_length h12]; rfl
            rw [hkk] at HRK
            have hkb := rkP_le (e.1 * pad X) h12
            clear hkk
            go_wp2_with fail
            refine HRK.out.mono ?_
            rintro ex w2 ⟨rfl, hb2⟩
            have hC2 := HC1.out.later hb2
            have ho2 := owns_below HO1.out hb2 (Nat.le_refl _)
            have hs12 := hb1.size
            have hs22 := hb2.size
            have hbase := hC2.below.size
            have HB1 : Hid (w.heap.size ≤ w1.heap.size) := by have := HC1.out.below.size; exact this
            have hob : w.heap.size ≤ wr.heap.size := hge1
            have hu2 : w2.ownsRow w.heap.size 3 1 (.slice (some ⟨g1, 0, none⟩) n c1) (cut n (e.1 * pad X)).length ((cut n (e.1 * pad X)).map (Value.int .i64)) := by rw [cut_length h12]; exact owns_base ho2 hob
            have HU2 := hide hu2
            clear HRK HC1 HO1 ho2 hu2
            have hk1 : -9223372036854775808 ≤ ((rkP n (e.1 * pad X) : Nat) : Int) := by omega
            have hk2 : ((rkP n (e.1 * pad X) : Nat) : Int) ≤ 9223372036854775807 := by omega
            by_cases hin : e.1 * pad X ∈ T.map (·.1)
            · have hlk : ((seenOf n T) ((rkP n (e.1 * pad X) : Nat) : Int)).getD (.bool false) = .bool true := by rw [seen_old hin]; rfl
              have HM := hide hC2.seen
              have HT : Hid (T = tryTo L e S ((2 * q) + 1)) := by show _ = _; rw [tryTo_succ hyL.out, ← HTT.out, tryL_old hin]
              have HC2 := hide hC2
              have HLK := hide hlk
              clear hin hC2 hlk
              go_wp2_with (at_lookup; refine wpList_look_is rfl _ _ 62 rfl 4 Tryz.underlying62 (Tryz.zero4 _) HM.out ((rkP n (e.1 * pad X) : Nat) : Int) rfl rfl hk1 hk2 HLK.out ?_)
              go_wp2
              go_roundw
              case rel => exact ⟨(2 * q) + 1, _, _, T, by omega, by go_num, HT, hTm, HC2.out⟩
              case measure => simp [intOf]; omega
            · have hlk : ((seenOf n T) ((rkP n (e.1 * pad X) : Nat) : Int)).getD (.bool false) = .bool false := by rw [seen_new h12 HTF.out HYF.out hin]; rfl
              have HM := hide hC2.seen
              have HT : Hid (T ++ [(e.1 * pad X, e.2 ++ [((q : Int) + 1)])] = tryTo L e S ((2 * q) + 1)) := by show _ = _; rw [tryTo_succ hyL.out, ← HTT.out, tryL_new hin]
              have HC2 := hide hC2
              have HLK := hide hlk
              clear hin hC2 hlk
              have hTl : T.length < maxLen := by unfold maxLen; omega
              go_wp2_with (first | (at_lookup; refine wpList_look_is rfl _ _ 62 rfl 4 Tryz.underlying62 (Tryz.zero4 _) HM.out ((rkP n (e.1 * pad X) : Nat) : Int) rfl rfl hk1 hk2 HLK.out ?_) | (at_mapUpdate; refine wpList_put rfl _ _ _ 62 rfl 4 Tryz.underlying62 HM.out hTl ((rkP n (e.1 * pad X) : Nat) : Int) (.bool true) rfl rfl rfl hk1 hk2 ?_))
              intro w3 hM3 hg3
              have hC3 := (HC2.out.put hM3 hg3).congr rfl rfl (seen_put n T (e.1 * pad X) (e.2 ++ [((q : Int) + 1)]))
              have HU3 := hide (owns_map_kept HU2.out HM.out hg3)
              have HC3 := hide hC3
              have hs33 := hg3.size
              have hlA : (T.map (fun e => cut n e.1)).length = T.length := List.length_map ..
              have hlB : (T.map (·.2)).length = T.length := List.length_map ..
              have HLA := hide hlA
              have HLB := hide hlB
              have hr3 := (hC3.alloc (.cells #[.slice (some ⟨g1, 0, none⟩) n c1] 22)).rows
              rw [hlA] at hr3
              have HR3 := hide hr3
              clear hM3 hg3 hC3 HM HC2 HLK HU2 hlA hlB hr3
              go_wp2_with (at_builtin; refine wpList_append_keep _ rfl _ _ 25 rfl w.heap.size 22 i0 (.slice none 0 0) 1 24 Tryz.underlying25 hi hz0 hz1 hz2 rfl (by decide) _ T.length vs rfl HR3.out ⟨w3.heap.size, 0, none⟩ 1 1 [.slice (some ⟨g1, 0, none⟩) n c1] rfl rfl ?c1 ?c2 ?c3 ?c4 ?c5 ?_)
              case c1 => exact cell_one_new _ _ _
              case c2 => intro u hu; simp at hu; subst hu; rfl
              case c3 => unfold maxLen; omega
              case c4 => omega
              case c5 => simp; omega
              intro v4 w4 hown4 hg4 hp4
              have hC4 := (HC3.out.alloc (.cells #[.slice (some ⟨g1, 0, none⟩) n c1] 22)).addRow (X := cut n (e.1 * pad X)) (by rw [HLA.out]; exact hown4) hg4 (hp4.imp id (fun h => ⟨by rw [h.1]; simp, h.2⟩)) (HU3.out.alloc _)
              have hs44 : w3.heap.size ≤ w4.heap.size := by have := hg4.size; simp at this; omega
              obtain ⟨gr4, cr4, rfl, hgr4a, hgr4b, hcr4a, hcr4b⟩ := owns_form hown4 (by omega)
              have HC4 := hide hC4
              have hw4 := hC4.words
              rw [HLB.out] at hw4
              obtain ⟨uw, hcw, how⟩ := word_at hw4 hC4.wordsAt HEW.out HLB.out
              have hgw4 := (hC4.words.lt gw rfl).2
              have hE5 : Hid ((w4.alloc (.cells #[] 3)).ownsRow w4.heap.size 3 1 (.slice (some ⟨w4.heap.size, 0, none⟩) 0 0) 0 []) := World.ownsRow_made w4 #[] 0 (Nat.le_refl _) (by decide) (by simp)
              have hcw5 : (w4.alloc (.cells #[] 3)).cell? ⟨gw, i, none⟩ = some uw := by rw [World.cell?_of_block (w := w4) (a := ⟨gw, i, none⟩) (Below.heap_alloc w4 _ gw hgw4)]; exact hcw
              have HW5 := hide (how.alloc (.cells #[] 3))
              have hwl : e.2.length ≤ 1000000 := HWL.out
              have HMX : Hid (e.2.length ≤ maxLen) := by unfold Hid maxLen; omega
              have HMY : Hid (e.2.length * 8 ≤ 140737488355328) := by unfold Hid; omega
              have HMZ : Hid (w4.heap.size ≤ (w4.alloc (.cells #[] 3)).heap.size) := by unfold Hid; simp
              clear HC3 HU3 HR3 hown4 hg4 hp4 hC4 hcw how hw4
              go_wp2_with (at_builtin; refine wpList_append_copy rfl _ _ 22 rfl w4.heap.size w.heap.size 3 j0 (.int .i64 0) 8 Tryz.underlying22 hji hjz0 hjz1 hjz2 rfl w4.heap.size rfl hE5.out uw e.2.length (e.2.map (Value.int .i64)) rfl HW5.out (ints_oneCell .i64 e.2) HMX.out HMY.out HMZ.out ?_)
              intro v6 w6 hown6 hg6
              have hb6 : Below w4.heap.size w4 w6 := ((Below.refl _ _).alloc (Nat.le_refl _) _).grown hg6 (by simp) (fun k hk => by have e' : w4.heap.size = k := Option.some.inj hk; omega)
              have hs66 := hb6.size
              have HB6 := hide hb6
              clear hb6 hg6 hE5 HW5 hcw5
              go_wp2_with (at_builtin; refine wpList_append_own _ rfl _ _ 22 rfl w4.heap.size 3 j0 (.int .i64 0) 1 8 Tryz.underlying22 hji hjz0 hjz1 hjz2 rfl (by decide) _ _ _ rfl (hown6.alloc _) ⟨w6.heap.size, 0, none⟩ 1 1 [.int .i64 ((q : Int) + 1)] rfl rfl ?c1 ?c2 ?c3 ?c4 ?c5 ?_)
              case c1 => exact cell_one_new _ _ _
              case c2 => intro u hu; simp at hu; subst hu; rfl
              case c3 => unfold maxLen; omega
              case c4 => omega
              case c5 => simp; omega
              intro v7 w7 hown7 hg7 _
              have hb7 : Below w4.heap.size w4 w7 := (HB6.out.alloc HB6.out.size _).grown hg7 (by simp; omega) (fun k hk => (hown6.lt k hk).1)
              have hC7 := HC4.out.later hb7
              have ho7 : w7.ownsRow w4.heap.size 3 1 v7 (e.2 ++ [((q : Int) + 1)]).length ((e.2 ++ [((q : Int) + 1)]).map (Value.int .i64)) := by rw [List.length_append, List.map_append]; exact hown7
              obtain ⟨g7, c7, rfl, _, _, _, _⟩ := owns_form ho7 (by simp)
              have HC7 := hide hC7
              have HO7 := hide (owns_base ho7 (show w.heap.size ≤ w4.heap.size by omega))
              have hr7 := (hC7.alloc (.cells #[.slice (some ⟨g7, 0, none⟩) (e.2 ++ [((q : Int) + 1)]).length c7] 22)).words
              rw [HLB.out] at hr7
              have HR7 := hide hr7
              have hs77 := hb7.size
              clear HC4 HB6 hown6 hown7 hg7 hb7 hC7 ho7 hr7
              generalize hlw : (e.2 ++ [((q : Int) + 1)]).length = lw at *
              have HLW := hide hlw
              clear hlw
              go_wp2_with (at_builtin; refine wpList_append_keep _ rfl _ _ 25 rfl w.heap.size 22 i0 (.slice none 0 0) 1 24 Tryz.underlying25 hi hz0 hz1 hz2 rfl (by decide) _ T.length us rfl HR7.out ⟨w7.heap.size, 0, none⟩ 1 1 [.slice (some ⟨g7, 0, none⟩) lw c7] rfl rfl ?c1 ?c2 ?c3 ?c4 ?c5 ?_)
              case c1 => exact cell_one_new _ _ _
              case c2 => intro u hu; simp at hu; subst hu; rfl
              case c3 => unfold maxLen; omega
              case c4 => omega
              case c5 => simp; omega
              intro v8 w8 hown8 hg8 hp8
              have hC8 := (HC7.out.alloc (.cells #[.slice (some ⟨g7, 0, none⟩) lw c7] 22)).addWord (X := e.2 ++ [((q : Int) + 1)]) (by rw [HLB.out]; exact hown8) hg8 (hp8.imp id (fun h => ⟨by rw [h.1]; simp, h.2⟩)) (by have := HO7.out.alloc (.cells #[.slice (some ⟨g7, 0, none⟩) lw c7] 22); rw [HLW.out]; exact this)
              have HC8 := hide (hC8.congr (A' := (T ++ [(e.1 * pad X, e.2 ++ [((q : Int) + 1)])]).map (fun e => cut n e.1)) (B' := (T ++ [(e.1 * pad X, e.2 ++ [((q : Int) + 1)])]).map (·.2)) (by rw [List.map_append]; rfl) (by rw [List.map_append]; rfl) (fun _ => rfl))
              clear HC7 HO7 HR7 hown8 hg8 hp8 hC8
              by_cases hmost : T.length + 1 ≤ most
              · have hm2 : ¬ ((most : Int) < ((T.length + 1 : Nat) : Int)) := by omega
                go_wp2
                go_roundw
                case rel => exact ⟨(2 * q) + 1, _, _, T ++ [(e.1 * pad X, e.2 ++ [((q : Int) + 1)])], by omega, by go_num, HT, by rw [List.length_append]; exact hmost, by rw [List.length_append]; exact HC8.out⟩
                case measure => simp [intOf]; omega
              · have hm2 : ((most : Int) < ((T.length + 1 : Nat) : Int)) := by omega
                have HOK : Hid (RunOk L (T ++ [(e.1 * pad X, e.2 ++ [((q : Int) + 1)])])) := by show RunOk L _; rw [HT.out]; exact HSO.out.tryTo HEG.out _
                go_wp2
                go_ret2
                exact ⟨HC8.out.below, Or.inr ⟨rfl, T ++ [(e.1 * pad X, e.2 ++ [((q : Int) + 1)])], by rw [← HL.out]; exact HOK.out, by rw [List.length_append]; show most < T.length + 1; omega⟩⟩
          · have HUD := hide (undo_own (.slice px n cx) X wr hix.out HXR.out (by have := HXL.out; omega) (by have := HXL.out; omega))
            have hdv : (2 * (q : Int) + 1) / 2 = (q : Int) := by omega
            have hdq : (2 * q + 1) / 2 = q := by omega
            have hmd : (2 * (q : Int) + 1) % 2 = 1 := by omega
            go_wp2_with fail
            refine HUD.out.mono ?_
            rintro ex wz ⟨vz, zs, rfl, hoz, hzu, hbz⟩
            rw [HXL.out] at hoz
            obtain ⟨gz, cz, rfl, _, _, _, _⟩ := owns_form hoz h1
            have HLET : Hid (L[2 * q + 1]? = some (-((q : Int) + 1), pad zs)) := by show _ = _; rw [HL.out, letters_odd HX.out, Nat.zero_add, pad_undoes (by have := HXL.out; omega) HXR.out hzu]
            have hZr := isRow_undoes HXR.out hzu
            have hZl : zs.length = n := hzu.1.trans HXL.out
            have hZi := Ints.own hoz
            have hce2 : wz.cell? ⟨gr2, i, none⟩ = some (.slice (some ⟨ge, 0, none⟩) n ce) := (hbz.cell (by exact hgrb)).trans hce
            have hCx := And.intro (hide (HC.out.later hbz)) (And.intro (owns_below HOE.out hbz (Nat.le_refl _)) (Nat.le_trans hws hbz.size))
            clear HC HOE hix HUD hoz hzu hce
            have hyL : Hid (L[(2 * q + 1)]? = some ((-((q : Int) + 1)), pad zs)) := HLET
            have hyE : by_ (cut n e.1) zs = cut n (e.1 * pad zs) := by_cut h12 HEF.out hZr hZl
            have hyF : Fixes (fun b => n ≤ b) (e.1 * pad zs) := (fixes_sub _).mul HEF.out (pad_fixes h12 hZl hZr)
            have HBY := hide (rby_own (.slice (some ⟨ge, 0, none⟩) n ce) (.slice (some ⟨gz, 0, none⟩) n cz) (cut n e.1) zs wz (Ints.own hCx.2.1) hZi (fun j hj => by rw [cut_length h12]; have := hZr.at (j := j) hj; rw [hZl] at this; exact this) (by rw [cut_length h12]; exact h1) (by omega))
            rw [hyE] at HBY
            have HYF := hide hyF
            have hZb : zs.length = n := hZl
            clear hyE hyF
            go_wp2_with fail
            refine HBY.out.mono ?_
            rintro ex w1 ⟨v1, rfl, ho1, hb1⟩
            obtain ⟨HCX, _, hge1⟩ := hCx
            have hC1 := HCX.out.later hb1
            rw [hZb] at ho1
            obtain ⟨g1, c1, rfl, hg1a, hg1b, _, _⟩ := owns_form ho1 h1
            have HRK := hide (rrank_ok _ (cut n (e.1 * pad zs)) w1 (Ints.own ho1) (cut_row h12 HYF.out) (by rw [cut_length h12]; exact h1) (by rw [cut_length h12]; exact h12))
            have HO1 := hide ho1
            have HC1 := hide hC1
            clear HBY ho1 hC1 HCX
            have hkk : rkTo (cut n (e.1 * pad zs)) (cut n (e.1 * pad zs)).length = rkP n (e.1 * pad zs) := by rw [cut_length h12]; rfl
            rw [hkk] at HRK
            have hkb := rkP_le (e.1 * pad zs) h12
            clear hkk
            go_wp2_with fail
            refine HRK.out.mono ?_
            rintro ex w2 ⟨rfl, hb2⟩
            have hC2 := HC1.out.later hb2
            have ho2 := owns_below HO1.out hb2 (Nat.le_refl _)
            have hs12 := hb1.size
            have hs22 := hb2.size
            have hbase := hC2.below.size
            have HB1 : Hid (w.heap.size ≤ w1.heap.size) := by have := HC1.out.below.size; exact this
            have hob : w.heap.size ≤ wz.heap.size := hge1
            have hu2 : w2.ownsRow w.heap.size 3 1 (.slice (some ⟨g1, 0, none⟩) n c1) (cut n (e.1 * pad zs)).length ((cut n (e.1 * pad zs)).map (Value.int .i64)) := by rw [cut_length h12]; exact owns_base ho2 hob
            have HU2 := hide hu2
            clear HRK HC1 HO1 ho2 hu2
            have hk1 : -9223372036854775808 ≤ ((rkP n (e.1 * pad zs) : Nat) : Int) := by omega
            have hk2 : ((rkP n (e.1 * pad zs) : Nat) : Int) ≤ 9223372036854775807 := by omega
            by_cases hin : e.1 * pad zs ∈ T.map (·.1)
            · have hlk : ((seenOf n T) ((rkP n (e.1 * pad zs) : Nat) : Int)).getD (.bool false) = .bool true := by rw [seen_old hin]; rfl
              have HM := hide hC2.seen
              have HT : Hid (T = tryTo L e S ((2 * q + 1) + 1)) := by show _ = _; rw [tryTo_succ hyL.out, ← HTT.out, tryL_old hin]
              have HC2 := hide hC2
              have HLK := hide hlk
              clear hin hC2 hlk
              go_wp2_with (at_lookup; refine wpList_look_is rfl _ _ 62 rfl 4 Tryz.underlying62 (Tryz.zero4 _) HM.out ((rkP n (e.1 * pad zs) : Nat) : Int) rfl rfl hk1 hk2 HLK.out ?_)
              go_wp2
              go_roundw
              case rel => exact ⟨(2 * q + 1) + 1, _, _, T, by omega, by go_num, HT, hTm, HC2.out⟩
              case measure => simp [intOf]; omega
            · have hlk : ((seenOf n T) ((rkP n (e.1 * pad zs) : Nat) : Int)).getD (.bool false) = .bool false := by rw [seen_new h12 HTF.out HYF.out hin]; rfl
              have HM := hide hC2.seen
              have HT : Hid (T ++ [(e.1 * pad zs, e.2 ++ [(-((q : Int) + 1))])] = tryTo L e S ((2 * q + 1) + 1)) := by show _ = _; rw [tryTo_succ hyL.out, ← HTT.out, tryL_new hin]
              have HC2 := hide hC2
              have HLK := hide hlk
              clear hin hC2 hlk
              have hTl : T.length < maxLen := by unfold maxLen; omega
              go_wp2_with (first | (at_lookup; refine wpList_look_is rfl _ _ 62 rfl 4 Tryz.underlying62 (Tryz.zero4 _) HM.out ((rkP n (e.1 * pad zs) : Nat) : Int) rfl rfl hk1 hk2 HLK.out ?_) | (at_mapUpdate; refine wpList_put rfl _ _ _ 62 rfl 4 Tryz.underlying62 HM.out hTl ((rkP n (e.1 * pad zs) : Nat) : Int) (.bool true) rfl rfl rfl hk1 hk2 ?_))
              intro w3 hM3 hg3
              have hC3 := (HC2.out.put hM3 hg3).congr rfl rfl (seen_put n T (e.1 * pad zs) (e.2 ++ [(-((q : Int) + 1))]))
              have HU3 := hide (owns_map_kept HU2.out HM.out hg3)
              have HC3 := hide hC3
              have hs33 := hg3.size
              have hlA : (T.map (fun e => cut n e.1)).length = T.length := List.length_map ..
              have hlB : (T.map (·.2)).length = T.length := List.length_map ..
              have HLA := hide hlA
              have HLB := hide hlB
              have hr3 := (hC3.alloc (.cells #[.slice (some ⟨g1, 0, none⟩) n c1] 22)).rows
              rw [hlA] at hr3
              have HR3 := hide hr3
              clear hM3 hg3 hC3 HM HC2 HLK HU2 hlA hlB hr3
              go_wp2_with (at_builtin; refine wpList_append_keep _ rfl _ _ 25 rfl w.heap.size 22 i0 (.slice none 0 0) 1 24 Tryz.underlying25 hi hz0 hz1 hz2 rfl (by decide) _ T.length vs rfl HR3.out ⟨w3.heap.size, 0, none⟩ 1 1 [.slice (some ⟨g1, 0, none⟩) n c1] rfl rfl ?c1 ?c2 ?c3 ?c4 ?c5 ?_)
              case c1 => exact cell_one_new _ _ _
              case c2 => intro u hu; simp at hu; subst hu; rfl
              case c3 => unfold maxLen; omega
              case c4 => omega
              case c5 => simp; omega
              intro v4 w4 hown4 hg4 hp4
              have hC4 := (HC3.out.alloc (.cells #[.slice (some ⟨g1, 0, none⟩) n c1] 22)).addRow (X := cut n (e.1 * pad zs)) (by rw [HLA.out]; exact hown4) hg4 (hp4.imp id (fun h => ⟨by rw [h.1]; simp, h.2⟩)) (HU3.out.alloc _)
              have hs44 : w3.heap.size ≤ w4.heap.size := by have := hg4.size; simp at this; omega
              obtain ⟨gr4, cr4, rfl, hgr4a, hgr4b, hcr4a, hcr4b⟩ := owns_form hown4 (by omega)
              have HC4 := hide hC4
              have hw4 := hC4.words
              rw [HLB.out] at hw4
              obtain ⟨uw, hcw, how⟩ := word_at hw4 hC4.wordsAt HEW.out HLB.out
              have hgw4 := (hC4.words.lt gw rfl).2
              have hE5 : Hid ((w4.alloc (.cells #[] 3)).ownsRow w4.heap.size 3 1 (.slice (some ⟨w4.heap.size, 0, none⟩) 0 0) 0 []) := World.ownsRow_made w4 #[] 0 (Nat.le_refl _) (by decide) (by simp)
              have hcw5 : (w4.alloc (.cells #[] 3)).cell? ⟨gw, i, none⟩ = some uw := by rw [World.cell?_of_block (w := w4) (a := ⟨gw, i, none⟩) (Below.heap_alloc w4 _ gw hgw4)]; exact hcw
              have HW5 := hide (how.alloc (.cells #[] 3))
              have hwl : e.2.length ≤ 1000000 := HWL.out
              have HMX : Hid (e.2.length ≤ maxLen) := by unfold Hid maxLen; omega
              have HMY : Hid (e.2.length * 8 ≤ 140737488355328) := by unfold Hid; omega
              have HMZ : Hid (w4.heap.size ≤ (w4.alloc (.cells #[] 3)).heap.size) := by unfold Hid; simp
              clear HC3 HU3 HR3 hown4 hg4 hp4 hC4 hcw how hw4
              go_wp2_with (at_builtin; refine wpList_append_copy rfl _ _ 22 rfl w4.heap.size w.heap.size 3 j0 (.int .i64 0) 8 Tryz.underlying22 hji hjz0 hjz1 hjz2 rfl w4.heap.size rfl hE5.out uw e.2.length (e.2.map (Value.int .i64)) rfl HW5.out (ints_oneCell .i64 e.2) HMX.out HMY.out HMZ.out ?_)
              intro v6 w6 hown6 hg6
              have hb6 : Below w4.heap.size w4 w6 := ((Below.refl _ _).alloc (Nat.le_refl _) _).grown hg6 (by simp) (fun k hk => by have e' : w4.heap.size = k := Option.some.inj hk; omega)
              have hs66 := hb6.size
              have HB6 := hide hb6
              clear hb6 hg6 hE5 HW5 hcw5
              go_wp2_with (at_builtin; refine wpList_append_own _ rfl _ _ 22 rfl w4.heap.size 3 j0 (.int .i64 0) 1 8 Tryz.underlying22 hji hjz0 hjz1 hjz2 rfl (by decide) _ _ _ rfl (hown6.alloc _) ⟨w6.heap.size, 0, none⟩ 1 1 [.int .i64 (-((q : Int) + 1))] rfl rfl ?c1 ?c2 ?c3 ?c4 ?c5 ?_)
              case c1 => exact cell_one_new _ _ _
              case c2 => intro u hu; simp at hu; subst hu; rfl
              case c3 => unfold maxLen; omega
              case c4 => omega
              case c5 => simp; omega
              intro v7 w7 hown7 hg7 _
              have hb7 : Below w4.heap.size w4 w7 := (HB6.out.alloc HB6.out.size _).grown hg7 (by simp; omega) (fun k hk => (hown6.lt k hk).1)
              have hC7 := HC4.out.later hb7
              have ho7 : w7.ownsRow w4.heap.size 3 1 v7 (e.2 ++ [(-((q : Int) + 1))]).length ((e.2 ++ [(-((q : Int) + 1))]).map (Value.int .i64)) := by rw [List.length_append, List.map_append]; exact hown7
              obtain ⟨g7, c7, rfl, _, _, _, _⟩ := owns_form ho7 (by simp)
              have HC7 := hide hC7
              have HO7 := hide (owns_base ho7 (show w.heap.size ≤ w4.heap.size by omega))
              have hr7 := (hC7.alloc (.cells #[.slice (some ⟨g7, 0, none⟩) (e.2 ++ [(-((q : Int) + 1))]).length c7] 22)).words
              rw [HLB.out] at hr7
              have HR7 := hide hr7
              have hs77 := hb7.size
              clear HC4 HB6 hown6 hown7 hg7 hb7 hC7 ho7 hr7
              generalize hlw : (e.2 ++ [(-((q : Int) + 1))]).length = lw at *
              have HLW := hide hlw
              clear hlw
              go_wp2_with (at_builtin; refine wpList_append_keep _ rfl _ _ 25 rfl w.heap.size 22 i0 (.slice none 0 0) 1 24 Tryz.underlying25 hi hz0 hz1 hz2 rfl (by decide) _ T.length us rfl HR7.out ⟨w7.heap.size, 0, none⟩ 1 1 [.slice (some ⟨g7, 0, none⟩) lw c7] rfl rfl ?c1 ?c2 ?c3 ?c4 ?c5 ?_)
              case c1 => exact cell_one_new _ _ _
              case c2 => intro u hu; simp at hu; subst hu; rfl
              case c3 => unfold maxLen; omega
              case c4 => omega
              case c5 => simp; omega
              intro v8 w8 hown8 hg8 hp8
              have hC8 := (HC7.out.alloc (.cells #[.slice (some ⟨g7, 0, none⟩) lw c7] 22)).addWord (X := e.2 ++ [(-((q : Int) + 1))]) (by rw [HLB.out]; exact hown8) hg8 (hp8.imp id (fun h => ⟨by rw [h.1]; simp, h.2⟩)) (by have := HO7.out.alloc (.cells #[.slice (some ⟨g7, 0, none⟩) lw c7] 22); rw [HLW.out]; exact this)
              have HC8 := hide (hC8.congr (A' := (T ++ [(e.1 * pad zs, e.2 ++ [(-((q : Int) + 1))])]).map (fun e => cut n e.1)) (B' := (T ++ [(e.1 * pad zs, e.2 ++ [(-((q : Int) + 1))])]).map (·.2)) (by rw [List.map_append]; rfl) (by rw [List.map_append]; rfl) (fun _ => rfl))
              clear HC7 HO7 HR7 hown8 hg8 hp8 hC8
              by_cases hmost : T.length + 1 ≤ most
              · have hm2 : ¬ ((most : Int) < ((T.length + 1 : Nat) : Int)) := by omega
                go_wp2
                go_roundw
                case rel => exact ⟨(2 * q + 1) + 1, _, _, T ++ [(e.1 * pad zs, e.2 ++ [(-((q : Int) + 1))])], by omega, by go_num, HT, by rw [List.length_append]; exact hmost, by rw [List.length_append]; exact HC8.out⟩
                case measure => simp [intOf]; omega
              · have hm2 : ((most : Int) < ((T.length + 1 : Nat) : Int)) := by omega
                have HOK : Hid (RunOk L (T ++ [(e.1 * pad zs, e.2 ++ [(-((q : Int) + 1))])])) := by show RunOk L _; rw [HT.out]; exact HSO.out.tryTo HEG.out _
                go_wp2
                go_ret2
                exact ⟨HC8.out.below, Or.inr ⟨rfl, T ++ [(e.1 * pad zs, e.2 ++ [(-((q : Int) + 1))])], by rw [← HL.out]; exact HOK.out, by rw [List.length_append]; show most < T.length + 1; omega⟩⟩
        · have hje : j = L.length := by have := HLL.out; omega
          have HR2 : Hid (Run L (i + 1) T) := by unfold Hid; rw [HTT.out, hje]; exact Run.step hRun.out HE.out
          have HC := hide hC
          clear hC hCr hCw hTO hTi hmore hje hlA hlB
          go_wp2
          go_roundw
          case rel => exact ⟨i + 1, _, _, T, by omega, by go_num, HR2, hTm, HC.out⟩
          case measure => simp [intOf]; omega
    · have hie : i = S.length := by omega
      have hfin : ClosedPost n xss most w (.returned (.tuple #[.slice (some ⟨gr, 0, none⟩) S.length cr, u9])) wr := by
        refine ⟨hC.below, Or.inl ⟨_, _, S, rfl, ?_, ?_, ?_, hSm⟩⟩
        · have e1 := OwnAll.length hC.rowsAt
          have hr := hC.rows
          rw [← e1] at hr
          exact IntsAll.own hr hC.rowsAt
        · have e1 := OwnAll.length hC.wordsAt
          have hr := hC.words
          rw [← e1] at hr
          exact IntsAll.own hr hC.wordsAt
        · have := hRun.out
          rw [hie, HL.out] at this
          exact this
      have HFIN := hide hfin
      clear hfin hC hCr hSO hlA hlB hie
      go_wp2
      go_ret2
      exact HFIN.out

end Go.Proofs.YtahffpgadoiijaaGreat

/- Contract: all rows of a chain. -/
namespace Go.Proofs.YtahffpgadoiijaaGreat
open Go.RowKit

theorem ownsE_below {w w' : World} {base B e size n : Nat} {v : Value} {xs : List Value} (h : w.ownsRow base e size v n xs) (hb : Below B w w') (hB : w.heap.size ≤ B) : w'.ownsRow base e size v n xs := by
  obtain ⟨h1, h2⟩ := h
  refine ⟨h1, ?_⟩
  rcases h2 with h2 | ⟨g, cap, cur, hv, hg, hh, r⟩
  · exact Or.inl h2
  · have hlt : g < w.heap.size := (Array.getElem?_eq_some_iff.1 hh).1
    exact Or.inr ⟨g, cap, cur, hv, hg, by rw [hb.block g (by omega)]; exact hh, r⟩

/-- Rows that a call has gathered since w. -/
structure AllR (w wr : World) (v : Value) (L : List Pm) : Prop where
  own : wr.ownsRow w.heap.size 78 12 v L.length (gcells L)
  below : Below w.heap.size w wr

theorem AllR.nil {w wr : World} (hb : Below w.heap.size w wr) : AllR w wr (.slice none 0 0) [] := ⟨World.ownsRow_nil _ _ _ _, hb⟩

theorem AllR.later {w wr w' : World} {v : Value} {L : List Pm} (h : AllR w wr v L) (hb : Below wr.heap.size wr w') : AllR w w' v L :=
  ⟨ownsE_below h.own hb (Nat.le_refl _), h.below.trans (hb.mono h.below.size)⟩

theorem AllR.push {w wr w' : World} {v v' : Value} {L : List Pm} {p : Pm} (h : AllR w wr v L) (ho : w'.ownsRow w.heap.size 78 12 v' (L.length + 1) (gcells L ++ p.l.map (Value.int .i8))) (hg : wr.grownBy w' v.ownBlock) : AllR w w' v' (L ++ [p]) :=
  ⟨by rw [List.length_append, gcells_snoc]; exact ho, h.below.grown hg h.below.size (fun k hk => (h.own.lt k hk).1)⟩

theorem AllR.form {w wr : World} {v : Value} {L : List Pm} (h : AllR w wr v L) (hn : 1 ≤ L.length) : ∃ b cap, v = .slice (some ⟨b, 0, none⟩) L.length cap ∧ L.length ≤ cap ∧ cap ≤ 9223372036854775807 ∧ b < wr.heap.size ∧ w.heap.size ≤ b := by
  obtain ⟨p, cap, e⟩ := owns_slice12 h.own
  have h' := h.own
  rw [e] at h'
  obtain ⟨b, hb, _, h1, h2⟩ := owns_some h' hn
  subst hb
  have hl := h'.lt b rfl
  exact ⟨b, cap, e, h1, h2, hl.2, hl.1⟩

theorem AllR.at {w wr : World} {b cap m : Nat} {L : List Pm} (h : AllR w wr (.slice (some ⟨b, 0, none⟩) m cap) L) {i : Nat} {p : Pm} (hi : L[i]? = some p) : wr.rangeAt b (i * 12) (p.l.map (Value.int .i8)) := by
  intro j v hv
  have hj : j < 12 := by have := (List.getElem?_eq_some_iff.1 hv).1; rw [List.length_map, p.len] at this; exact this
  have := h.own.cells (g := b) rfl (i * 12 + j) _ (gcells_at L i p hi j hj)
  rw [Addr.add_lit, Nat.zero_add] at this
  rw [this, ← hv]
  simp [List.getD, p.len, hj]

theorem allC_drop {C : List Lk} {i : Nat} {l : Lk} (h : C[i]? = some l) : allC (C.drop i) = l.tab.flatMap (fun e => (allC (C.drop (i + 1))).map (fun p => e.2 * p)) := by
  obtain ⟨hj, rfl⟩ := List.getElem?_eq_some_iff.1 h
  rw [List.drop_eq_getElem_cons hj]
  rfl

theorem one_pack (w : World) (p : Pm) : AllR w (w.alloc (.cells (i8s p.l) 78)) (.slice (some ⟨w.heap.size, 0, none⟩) 1 1) [p] := by
  have hl := p.len
  refine ⟨⟨by rw [gcells_length], Or.inr ⟨w.heap.size, 1, i8s p.l, rfl, Nat.le_refl _, heap_alloc_new _ _, Nat.le_refl _, by unfold maxLen; omega, ?_, ?_⟩⟩, (Below.refl _ _).alloc (Nat.le_refl _) _⟩
  · simp [i8s, p.len]
  · simp [i8s, gcells]; exact List.take_of_length_le (by rw [List.length_map, hl]; exact Nat.le_refl _)

theorem wpList_build {ops : Array Oper} {rest : List Oper} {o : Oper} {a : Act} {w : World} {Q : Exit → Act → World → Prop} (hg : o.guard = none) (x : Operand) (hop : o.op = Op.buildSlice 75 1 #[(0, x)]) (p : Pm) (hx : a.eval x = .agg (p.l.map (Value.int .i8)).toArray)
    (hK : wpList Tryz.prog ops Q rest (a.put o.dst (.slice (some ⟨w.heap.size, 0, none⟩) 1 1)) (w.alloc (.cells (i8s p.l) 78))) : wpList Tryz.prog ops Q (o :: rest) a w := by
  refine wpList_plain hg fun K hK' => ?_
  unfold Oper.wp execOp
  simp only [hop, List.map_toArray, List.map_cons, List.map_nil, hx, run_build, Sem.run_bind, Sem.run_pure, Result.andThen_ok]
  exact hK' _ _ hK

theorem whole_key {F : Nat → Prop} : ∀ (C : List Lk), Whole F C → (∀ l, l ∈ C → l.base < 12) → ∀ l, l ∈ C → ∀ e, e ∈ l.tab → e.1 < 12 ∧ ((rawOf l).f ((e.1 : Nat) : Int)).getD (.agg (i8s zeros12)) = .agg (e.2.l.map (Value.int .i8)).toArray
  | [], _, _, l, h => by cases h
  | x :: c, hw, hb, l, h => by
    rcases List.mem_cons.1 h with rfl | h
    · intro e he
      refine ⟨key_lt hw.1 (hb _ List.mem_cons_self) he, ?_⟩
      show (tabF l.tab ((e.1 : Nat) : Int)).getD _ = _
      rw [tabF_nat, lookup_of_mem hw.1.nodup (b := e.1) (u := e.2) he]
      rfl
    · exact whole_key (F := plus F x.base) c hw.2.1 (fun y hy => hb y (List.mem_cons_of_mem _ hy)) l h

set_option maxRecDepth 20000 in
set_option maxHeartbeats 4000000 in
theorem all_ok {w0 : World} {B g n : Nat} {bs : List Nat} {C : List Lk} {st : Nat → St} {gs : List Pm} (hCd : Chained w0 B g n bs C st gs) (h12 : n ≤ 12) (hbs : ∀ b, b ∈ bs → b < 12) (w : World) (hb0 : Below w0.heap.size w0 w) :
    Calls Tryz.prog 52 #[.slice (some ⟨g, 0, none⟩) n n] w fun e w' => ∃ v, e = .returned v ∧ AllR w w' v (allC C) := by
  have hC := hCd.chain.below hb0 (Nat.le_refl _)
  have hbase : ∀ l, l ∈ C → l.base < 12 := fun l hl => hbs _ (by rw [← hCd.bases]; exact List.mem_map.2 ⟨l, hl, rfl⟩)
  have hlen := whole_len C hCd.whole hbase
  have hle : ∀ i, tabs (C.drop i) ≤ 8916100448256 := fun i => by
    have h1 : tabs (C.drop i) ≤ 12 ^ (C.drop i).length := tabs_le (fun l hl => (hlen l (List.mem_of_mem_drop hl)).2)
    have h2 : 12 ^ (C.drop i).length ≤ 12 ^ 12 := Nat.pow_le_pow_right (by decide) (by rw [List.length_drop, hCd.len]; omega)
    have h1212 : (12 : Nat) ^ 12 = 8916100448256 := by decide
    omega
  have hpos : ∀ i, 1 ≤ tabs (C.drop i) := fun i => by
    have : ∀ (c : List Lk), (∀ l, l ∈ c → 1 ≤ l.tab.length) → 1 ≤ tabs c := by
      intro c
      induction c with
      | nil => intro _; exact Nat.le_refl _
      | cons l c ih => intro h; exact Nat.mul_pos (h l List.mem_cons_self) (ih (fun y hy => h y (List.mem_cons_of_mem _ hy)))
    exact this _ (fun l hl => (hlen l (List.mem_of_mem_drop hl)).1)
  have hkey : ∀ l, l ∈ C → ∀ e, e ∈ l.tab → e.1 < 12 ∧ ((rawOf l).f ((e.1 : Nat) : Int)).getD (.agg (i8s zeros12)) = .agg (e.2.l.map (Value.int .i8)).toArray := whole_key C hCd.whole hbase
  have HL := hide hle
  have HPS := hide hpos
  have HLN := hide hlen
  have HC := hide hC
  have HN := hide hCd.len
  have HK := hide hkey
  clear hC hbase hlen hle hpos hCd hkey
  go_enter Tryz.func52, Tryz.ntmps52
  go_wp2_with fail
  refine (prounds_ok _).mono ?_
  rintro e w1 ⟨rfl, hb1⟩
  unfold pv
  have hone := AllR.later (w := w1) (one_pack w1 1) (Below.refl _ _)
  have hS0 : AllR w (w1.alloc (.cells (i8s (Pm.l 1)) 78)) (.slice (some ⟨w1.heap.size, 0, none⟩) 1 1) [1] := ⟨by have h := hone.own; have hs := hb1.size; rcases h with ⟨h1, h2⟩; refine ⟨h1, ?_⟩; rcases h2 with h2 | ⟨g, cap, cur, hv, hg, r⟩; exact Or.inl h2; exact Or.inr ⟨g, cap, cur, hv, Nat.le_trans hs hg, r⟩, hb1.alloc hb1.size _⟩
  have HS0 := hide hS0
  clear hone hS0
  go_wp2_with (refine wpList_build rfl _ rfl 1 rfl ?_)
  go_loopw [3, 4] (fun sr sl wr => ∃ (k : Nat) (v : Value), k ≤ n ∧ sr = v ∧ sl = .int .i64 ((k : Int) - 1) ∧ AllR w wr v (allC (C.drop k))) (fun _ sl _ => ((intOf sl) + 1).toNat)
  case atStart =>
    exact ⟨n, _, Nat.le_refl _, rfl, rfl, by rw [List.drop_eq_nil_of_le (by rw [HN.out]; exact Nat.le_refl _)]; exact HS0.out⟩
  case round =>
    obtain ⟨k, v, hk, rfl, rfl, hR⟩ := hrel
    by_cases hlt : 1 ≤ k
    · obtain ⟨k, rfl⟩ : ∃ k', k = k' + 1 := ⟨k - 1, by omega⟩
      have hkC : k < C.length := by rw [HN.out]; omega
      obtain ⟨l, hl⟩ : ∃ l, C[k]? = some l := ⟨_, List.getElem?_eq_getElem hkC⟩
      have lk := (HC.out.below hR.below (Nat.le_refl _)).link k (rawOf l) (by rw [List.getElem?_map, hl]; rfl)
      have hall := allC_drop hl
      have htd := tabs_drop hl
      have hll := HLN.out l (List.mem_of_getElem? hl)
      have hp := HPS.out (k + 1)
      have hle := HL.out k
      have hRl : (allC (C.drop (k + 1))).length = tabs (C.drop (k + 1)) := allC_len _
      obtain ⟨rb, rc, erv, hrc1, hrc2, hrb1, hrb2⟩ := hR.form (by rw [hRl]; exact hp)
      obtain ⟨pb, cb, ebv⟩ := owns_slice12 lk.bells
      obtain ⟨pg, cg, egv⟩ := owns_slice12 lk.gens
      have c0 := lk.c0
      have c1 := lk.c1
      have c2 := lk.c2
      have c3 := lk.c3
      rw [ebv] at c2
      rw [egv] at c3
      have hrange : wr.rangeAt g (k * 4) [.int .i64 ((l.base : Nat) : Int), .map (some (st k).m), .slice pb (rawOf l).bs.length cb, .slice pg (rawOf l).gs.length cg] := by
        rw [Nat.mul_comm]
        intro x v hv
        match x, hv with
        | 0, hv => rw [← Option.some.inj hv]; exact c0
        | 1, hv => rw [← Option.some.inj hv]; exact c1
        | 2, hv => rw [← Option.some.inj hv]; exact c2
        | 3, hv => rw [← Option.some.inj hv]; exact c3
        | x + 4, hv => cases hv
      have hbl : (rawOf l).bs.length = l.tab.length := by show (l.tab.map _).length = _; simp
      have hbells := lk.bells
      rw [ebv, hbl] at hbells
      rw [hbl] at hrange
      obtain ⟨bb, hbb, _, hbc, hbm⟩ := owns_some hbells hll.1
      subst hbb
      have HBE : Hid (∀ i e, l.tab[i]? = some e → wr.cell? ⟨bb, i, none⟩ = some (.int .i64 ((e.1 : Nat) : Int))) := fun i e he => by
        have := hbells.cells (g := bb) rfl i (.int .i64 ((e.1 : Nat) : Int)) (by show (l.tab.map (fun e => Value.int .i64 ((e.1 : Nat) : Int)))[i]? = _; rw [List.getElem?_map, he]; rfl)
        rw [Addr.add_lit, Nat.zero_add] at this
        exact this
      have hbblt := (hbells.lt bb rfl).2
      have HMP := hide lk.mp
      have HKl := hide (HK.out l (List.mem_of_getElem? hl))
      generalize (st k).m = mm at *
      generalize (rawOf l).gs.length = ng at *
      have HT : Hid (allC (C.drop k) = l.tab.flatMap (fun e => (allC (C.drop (k + 1))).map (fun p => e.2 * p))) := hall
      have HTL : Hid (l.tab.length * (allC (C.drop (k + 1))).length ≤ 8916100448256) := by show _ ≤ _; rw [hRl, ← htd]; exact hle
      generalize hRows : allC (C.drop (k + 1)) = rows at *
      have HR := hide hR
      have hR1 : rows.length ≤ 8916100448256 := by rw [hRl]; exact HL.out (k + 1)
      have hR0 : 1 ≤ rows.length := by rw [hRl]; exact hp
      have hsR := hR.below.size
      subst erv
      clear lk c0 c1 c2 c3 ebv egv hall htd hle hRl hbells hp hR hl hbl hRows
      have HX := hide (heap_alloc_new wr (.cells #[.int .i64 ((l.base : Nat) : Int), .map (some mm), .slice (some ⟨bb, 0, none⟩) l.tab.length cb, .slice pg ng cg] 99))
      generalize hnt : l.tab.length = nt at *
      generalize hnr : rows.length = nr at *
      have HNT := hide hnt
      have HNR := hide hnr
      clear hnt hnr
      go_wp2_with (refine wpList_load_mid rfl 99 _ rfl g _ rfl _ _ hrange Tryz.underlying99 rfl Tryz.size99 ?_)
      have hX := HX.out
      have hwl : (wr.alloc (.cells #[.int .i64 ((l.base : Nat) : Int), .map (some mm), .slice (some ⟨bb, 0, none⟩) nt cb, .slice pg ng cg] 99)).heap.size = wr.heap.size + 1 := by simp
      have hBl : Below wr.heap.size wr (wr.alloc (.cells #[.int .i64 ((l.base : Nat) : Int), .map (some mm), .slice (some ⟨bb, 0, none⟩) nt cb, .slice pg ng cg] 99)) := (Below.refl _ _).alloc (Nat.le_refl _) _
      clear HX
      generalize wr.alloc (.cells #[.int .i64 ((l.base : Nat) : Int), .map (some mm), .slice (some ⟨bb, 0, none⟩) nt cb, .slice pg ng cg] 99) = wl at *
      have HX := hide hX
      have HBl := hide hBl
      have HWL := hide hwl
      clear hX hBl hrange hwl
      have hnt12 : nt ≤ 12 := hll.2
      obtain ⟨wo, hwo⟩ : ∃ wo, wo = wr := ⟨_, rfl⟩
      subst hwo
      go_loopw [6, 27] (fun sm si wm => ∃ (i : Nat) (v : Value), i ≤ nt ∧ sm = v ∧ si = .int .i64 i ∧ AllR wl wm v ((l.tab.take i).flatMap (fun e => rows.map (fun p => e.2 * p)))) (fun _ si _ => nt - (intOf si).toNat)
      case atStart => exact ⟨0, _, Nat.zero_le _, rfl, rfl, AllR.nil (Below.refl _ _)⟩
      case round =>
        obtain ⟨i, v6, hi, rfl, rfl, hM⟩ := hrel
        by_cases hit : i < nt
        · obtain ⟨e, he⟩ : ∃ e, l.tab[i]? = some e := ⟨_, List.getElem?_eq_getElem (by rw [HNT.out]; exact hit)⟩
          have hbm' : Below wo.heap.size wo wr := HBl.out.trans (hM.below.mono HBl.out.size)
          have hcell : wr.cell? ⟨bb, i, none⟩ = some (.int .i64 ((e.1 : Nat) : Int)) := (hbm'.cell (p := ⟨bb, i, none⟩) hbblt).trans (HBE.out i e he)
          obtain ⟨hk12, hlook⟩ := HKl.out e (List.mem_of_getElem? he)
          have HLK := hide hlook
          have HM := hide hM
          have HTK : Hid (l.tab.take (i + 1) = l.tab.take i ++ [e]) := by show _ = _; rw [List.take_add_one, he]; rfl
          have HFL : Hid (((l.tab.take i).flatMap (fun e => rows.map (fun p => e.2 * p))).length = i * nr) := by
            show _ = _
            rw [flat_len _ nr _ (fun e _ => by rw [List.length_map, HNR.out]), List.length_take, HNT.out, Nat.min_eq_left (by omega)]
          have HLT : Hid ((i + 1) * nr ≤ 8916100448256) := by
            show _ ≤ _
            exact Nat.le_trans (Nat.mul_le_mul_right _ hit) HTL.out
          clear hM hlook
          generalize hFE : (l.tab.take i).flatMap (fun e => rows.map (fun p => e.2 * p)) = F at *
          have HFE := hide hFE
          clear hFE
          obtain ⟨wm, hwm⟩ : ∃ wm, wm = wr := ⟨_, rfl⟩
          subst hwm
          go_wp2
          go_loopw [6, 33] (fun sm sj wi => ∃ (j : Nat) (v : Value), j ≤ nr ∧ sm = v ∧ sj = .int .i64 j ∧ AllR wl wi v (F ++ (rows.take j).map (fun p => e.2 * p))) (fun _ sj _ => nr - (intOf sj).toNat)
          case atStart => exact ⟨0, _, Nat.zero_le _, rfl, rfl, by rw [List.take_zero, List.map_nil, List.append_nil]; exact HM.out⟩
          case round =>
            obtain ⟨j, v7, hj, rfl, rfl, hI⟩ := hrel
            by_cases hjt : j < nr
            · obtain ⟨p, hp⟩ : ∃ p, rows[j]? = some p := ⟨_, List.getElem?_eq_getElem (by rw [HNR.out]; exact hjt)⟩
              have hbi : Below wo.heap.size wo wr := HBl.out.trans (hI.below.mono HBl.out.size)
              have hrange : wr.rangeAt rb (j * 12) (p.l.map (Value.int .i8)) := (HR.out.later hbi).at hp
              have hin : (Tryz.prog.info? 78).map (·.size) = some (p.l.map (Value.int .i8)).length := by rw [List.length_map, p.len]; exact Tryz.size78
              have hpl := p.len
              have hI7 : Hid ((F ++ (rows.take j).map (fun p => e.2 * p)).length = i * nr + j) := by
                show _ = _
                rw [List.length_append, HFL.out, List.length_map, List.length_take, HNR.out, Nat.min_eq_left (by omega)]
              have HI := hide hI
              have HBI := hide hbi
              have HPJ : Hid (rows.take (j + 1) = rows.take j ++ [p]) := by show _ = _; rw [List.take_add_one, hp]; rfl
              have hxx : wr.heap[wo.heap.size]? = _ := (hI.below.block wo.heap.size (by have := HWL.out; omega)).trans HX.out
              have hmap : wr.cell? ⟨wo.heap.size, 1, none⟩ = some (.map (some mm)) := by simp [World.cell?, hxx]
              have hisz : wo.heap.size < wr.heap.size := by have := hI.below.size; have := HWL.out; omega
              have HW6 : Hid (∀ (o : Obj) (w6 : World), (wr.alloc o).grownBy w6 (some wr.heap.size) → w6.cell? ⟨wo.heap.size, 1, none⟩ = some (.map (some mm)) ∧ Hid (IMap w6 mm (rawOf l).n (rawOf l).f) ∧ Hid (Below wr.heap.size wr w6)) := fun o w6 hg6 => by
                have hb6 : Below wr.heap.size wr w6 := ((Below.refl _ _).alloc (Nat.le_refl _) _).grown hg6 (by simp) (fun k h => by have := Option.some.inj h; omega)
                exact ⟨(hb6.cell (p := ⟨wo.heap.size, 1, none⟩) (by omega)).trans hmap, HMP.out.below (hbi.trans (hb6.mono hbi.size)) HMP.out.lt, hb6⟩
              clear hI hbi
              go_wp2_with (first
                | refine wpList_load_mid rfl 78 _ rfl rb _ rfl _ _ hrange Tryz.underlying78 rfl hin ?_
                | (refine wpList_store_arr rfl _ _ rfl wr.heap.size zeros12 p.l (zeros_new wr) rfl rfl hpl ?_; intro w6 hX6 hg6; obtain ⟨hm6, HMP6, HB6⟩ := HW6.out _ w6 hg6; clear hg6)
                | refine wpList_look_is rfl _ _ 97 rfl 78 Tryz.underlying97 (Tryz.zero78 _) HMP6.out ((e.1 : Nat) : Int) rfl rfl (by omega) (by omega) HLK.out ?_
                | refine wpList_load_arr rfl _ rfl wr.heap.size p.l hX6 rfl ?_)
              refine (ptimes_raw e.2 p _).mono ?_
              rintro e0 w7 ⟨rfl, hb7⟩
              have hb67 : Below wr.heap.size wr w7 := HB6.out.trans (hb7.mono HB6.out.size)
              have hA7 := HI.out.later hb67
              have HLS : Hid ((F ++ (rows.take j).map (fun p => e.2 * p)) ++ [e.2 * p] = F ++ (rows.take (j + 1)).map (fun p => e.2 * p)) := by
                show _ = _
                rw [HPJ.out, List.map_append, List.append_assoc]; rfl
              generalize F ++ (rows.take j).map (fun p => e.2 * p) = L at *
              have HA7 := hide hA7
              have HLM : Hid (L.length + 1 ≤ 8916100448256) := by
                have h1 := hI7.out
                have h2 := HLT.out
                rw [Nat.succ_mul] at h2
                show _ ≤ _
                omega
              obtain ⟨i0, hi0, hz0, hz1, hz2⟩ := info_parts Tryz.info78
              have HPL : Hid (((e.2 * p).l.map (Value.int .i8)).length = 1 * 12) := by show _ = _; rw [List.length_map, Pm.len]
              have HO1 : Hid (∀ u ∈ (e.2 * p).l.map (Value.int .i8), u.oneCell' = true) := i8_one _
              have HM1 : Hid (L.length + 1 ≤ maxLen) := by have := HLM.out; show L.length + 1 ≤ maxLen; unfold maxLen; omega
              have HY1 : Hid ((L.length + 1) * 12 ≤ 140737488355328) := by have := HLM.out; show (L.length + 1) * 12 ≤ _; omega
              have HS1 : Hid (wl.heap.size ≤ (w7.alloc (.cells (i8s (e.2 * p).l) 78)).heap.size) := by have := hA7.below.size; show _ ≤ _; simp; omega
              have HNW : Hid (∀ j u, ((e.2 * p).l.map (Value.int .i8))[j]? = some u → (w7.alloc (.cells (i8s (e.2 * p).l) 78)).cell? ((⟨w7.heap.size, 0, none⟩ : Addr).add j) = some u) := fun j u hu => by
                rw [Addr.add_mid]; exact (Arr.new w7 (e.2 * p).l (Pm.len _)).range j u hu
              have HO7 : Hid (AllR wl (w7.alloc (.cells (i8s (e.2 * p).l) 78)) u6 L) := hA7.later ((Below.refl _ _).alloc (Nat.le_refl _) _)
              clear hA7 hb67 hb7 hX6 hm6 hrange hmap hxx
              go_wp2_with (first
                | refine wpList_build rfl _ rfl (e.2 * p) rfl ?_
                | (refine wpList_append_keep (w7.alloc (.cells (i8s (e.2 * p).l) 78)) rfl _ _ 75 rfl wl.heap.size 78 i0 (.agg (i8s zeros12)) 12 12 Tryz.underlying75 hi0 hz0 hz1 hz2 rfl (by decide) _ L.length _ rfl HO7.out.own ⟨w7.heap.size, 0, none⟩ 1 1 ((e.2 * p).l.map (Value.int .i8)) rfl HPL.out HNW.out HO1.out HM1.out HY1.out HS1.out ?_; intro v8 w8 hown8 hg8 hloc8))
              have hA8 := HO7.out.push hown8 hg8
              rw [HLS.out] at hA8
              go_wp2
              go_roundw
              case rel =>
                have hfin : ∃ (j' : Nat) (v : Value), j' ≤ nr ∧ v8 = v ∧ Value.int .i64 ((j : Int) + 1) = .int .i64 (j' : Int) ∧ AllR wl w8 v (F ++ (rows.take j').map (fun p => e.2 * p)) := ⟨j + 1, v8, hjt, rfl, by go_num, hA8⟩
                first
                  | exact hfin
                  | ((repeat apply Exists.intro); exact ⟨hfin, rfl⟩)
              case measure => simp [intOf]; omega
            · obtain rfl : j = nr := by omega
              have hA9 := hI
              rw [List.take_of_length_le (by rw [HNR.out]; exact Nat.le_refl _)] at hA9
              have HA9 := hide hA9
              clear hI hA9
              go_wp2
              go_roundw
              case rel =>
                have hfin : ∃ (i' : Nat) (v : Value), i' ≤ nt ∧ u6 = v ∧ Value.int .i64 ((i : Int) + 1) = .int .i64 (i' : Int) ∧ AllR wl wr v ((l.tab.take i').flatMap (fun e => rows.map (fun p => e.2 * p))) := ⟨i + 1, _, hit, rfl, by go_num, by rw [HTK.out, List.flatMap_append, HFE.out]; show AllR wl wr _ (F ++ (rows.map (fun p => e.2 * p) ++ [])); rw [List.append_nil]; exact HA9.out⟩
                first
                  | exact hfin
                  | ((repeat apply Exists.intro); exact ⟨hfin, rfl⟩)
              case measure => simp [intOf]; omega
        · obtain rfl : i = nt := by omega
          rw [List.take_of_length_le (by rw [HNT.out]; exact Nat.le_refl _), ← HT.out] at hM
          have hA9 : AllR w wr u6 (allC (C.drop k)) := by
            have h1 := HR.out.below
            have h2 := HBl.out
            have h3 := hM.own
            have hs := HWL.out
            refine ⟨?_, (h1.trans (h2.mono h1.size)).trans (hM.below.mono (by have := h1.size; omega))⟩
            rcases h3 with ⟨h4, h5⟩
            refine ⟨h4, ?_⟩
            rcases h5 with h5 | ⟨g, cap, cur, hv, hg, r⟩
            · exact Or.inl h5
            · exact Or.inr ⟨g, cap, cur, hv, by have := h1.size; omega, r⟩
          have HA9 := hide hA9
          clear hM hA9
          go_wp2
          go_roundw
          case rel =>
            have hfin : ∃ (k' : Nat) (v : Value), k' ≤ n ∧ u6 = v ∧ Value.int .i64 ((k : Int) - 1) = .int .i64 ((k' : Int) - 1) ∧ AllR w wr v (allC (C.drop k')) := ⟨k, _, by omega, rfl, rfl, HA9.out⟩
            first
              | exact hfin
              | ((repeat apply Exists.intro); exact ⟨hfin, rfl⟩)
          case measure => simp [intOf]
    · obtain rfl : k = 0 := by omega
      have HR := hide hR
      clear hR
      go_wp2
      go_ret
      exact ⟨_, rfl, HR.out⟩
end Go.Proofs.YtahffpgadoiijaaGreat

/- How rows are come to, in memory: steps as values, and what a search for the shortest word holds. -/
namespace Go.Proofs.YtahffpgadoiijaaGreat
open Go.RowKit Go.Maps

theorem gpne (x y : Pm) (w : World) : ∃ r : Bool, (binOp .neq 78 (.agg (i8s x.l)) (.agg (i8s y.l))).run Tryz.prog w = .ok (.bool r) w ∧ (r = false ↔ x = y) := by
  obtain ⟨f1, l1, h1⟩ := gkeyT.lits (okK_pm x)
  obtain ⟨f2, l2, h2⟩ := gkeyT.lits (okK_pm y)
  obtain ⟨r, hr, hiff⟩ := run_equalIn_deep (P := Tryz.prog) 9997 3 78 (by kernel_rfl) w _ _ _ _ l1 l2 f1 f2 h1 h2
  refine ⟨!r, ?_, ?_⟩
  · rw [run_neq_struct]
    have hr' : (Op.equalIn 10000 78 (.agg (i8s x.l)) (.agg (i8s y.l))).run Tryz.prog w = .ok r w := hr
    rw [hr']
    rfl
  · rw [Bool.not_eq_false']
    refine hiff.trans ⟨fun e => ?_, fun e => ?_⟩
    · obtain ⟨lx, hx⟩ : ∃ l, keyOf Tryz.prog 78 (pv x) = some l := gkeyT.mk' (okK_pm x)
      have hk := gkeyT.same (okK_pm x) (okK_pm y) (by rw [h1, h2, e])
      exact Pm.eq_of_l (kv_inj (gkeyT.keyed.inj hx (hk ▸ hx)))
    · subst e
      rw [h1] at h2
      exact Option.some.inj h2

theorem gpne' (x y : Pm) (r : Bool) (h : r = false ↔ x = y) (w : World) : (binOp .neq 78 (.agg (x.l.map (Value.int .i8)).toArray) (.agg (y.l.map (Value.int .i8)).toArray)).run Tryz.prog w = .ok (.bool r) w := by
  obtain ⟨r', h1, h2⟩ := gpne x y w
  have : r = r' := by
    cases r <;> cases r' <;> simp_all
  rw [this]
  exact h1

def slenV : Value → Nat
  | .slice _ n _ => n
  | _ => 0

def zeros13 : Value := .agg #[.int .i8 0, .int .i8 0, .int .i8 0, .int .i8 0, .int .i8 0, .int .i8 0, .int .i8 0, .int .i8 0, .int .i8 0, .int .i8 0, .int .i8 0, .int .i8 0, .int .i64 0]

/-- A step's value, whatever it is. -/
def Stp (u : Value) : Prop := ∃ cs : Array Value, u = .agg cs ∧ cs.size = 13 ∧ cs.all (·.oneCell') = true

theorem Stp.zero : Stp zeros13 := ⟨_, rfl, rfl, by kernel_rfl⟩

theorem Stp.sv (y : Pm) (l : Int) : Stp (sv y l) := ⟨_, rfl, by simp [y.len], by
  rw [Array.all_eq_true_iff_forall_mem]
  intro v hv
  simp at hv
  rcases hv with ⟨a, _, rfl⟩ | rfl
  · rfl
  · rfl⟩

section
variable {K E : TypeId} {q : IntKind} {w w' : World} {b n : Nat} {f : List Int → Option Value}

/-- 'm[a]'. -/
theorem KMap.look (hK : KeyT K E q) (h : KMap K q w b n f) {t e : TypeId} (ht : Tryz.prog.underlying t = some (.map K e)) {z : Value} (hz : (zeroValue e).run Tryz.prog w = .ok z w) {zs : List Int} (hzs : OkK q zs) :
    (Instr.lookup t (.map (some b)) (kv q zs) false).run Tryz.prog w = .ok ((f zs).getD z) w := by
  obtain ⟨D, hD, hf⟩ := h
  obtain ⟨l, hl⟩ := hK.mk' hzs
  obtain ⟨v, ps, hrun, hv⟩ := hD.lookup hK.keyed ht hz (zd := .held z) (zp := []) rfl hl
  have hv' : DataW.held v = D.atKey l (.held z) := (Prod.mk.inj (Option.some.inj hv)).1
  have hfz := hf zs hzs l hl
  rw [hrun]
  cases hfa : f zs with
  | none =>
    have hh := hfz.1
    rw [hfa] at hh
    rw [atKey_of_not_has hh] at hv'
    rw [DataW.held.inj hv']; rfl
  | some u =>
    rw [hfz.2 u hfa] at hv'
    rw [DataW.held.inj hv']; rfl

variable {ops : Array Oper} {rest : List Oper} {o : Oper} {a : Act} {Q : Exit → Act → World → Prop}

theorem wpList_klook1 (hg : o.guard = none) (m x : Operand) (t : TypeId) (hop : o.op = Op.lookup t m x false) (e : TypeId) (ht : Tryz.prog.underlying t = some (.map K e)) {z : Value} (hz : (zeroValue e).run Tryz.prog w = .ok z w)
    (hK : KeyT K E q) (h : KMap K q w b n f) (zs : List Int) (hzs : OkK q zs) (hm : a.eval m = .map (some b)) (hx : a.eval x = kv q zs) {v : Value} (hv : (f zs).getD z = v)
    (hC : wpList Tryz.prog ops Q rest (a.put o.dst v) w) : wpList Tryz.prog ops Q (o :: rest) a w := by
  subst hv
  refine wpList_plain hg fun K' hK' => ?_
  have hrun := h.look hK ht hz hzs
  unfold Oper.wp
  simp [execOp, hop, hm, hx, hrun, Result.andThen]
  exact hK' _ _ hC

end

theorem ownsE_lw {w : World} {base base' e size n : Nat} {v : Value} {xs : List Value} (h : w.ownsRow base e size v n xs) (hb : base' ≤ base) : w.ownsRow base' e size v n xs := by
  rcases h with ⟨h4, h5⟩
  refine ⟨h4, ?_⟩
  rcases h5 with h5 | ⟨g, cap, cur, hv, hg, r⟩
  · exact Or.inl h5
  · exact Or.inr ⟨g, cap, cur, hv, Nat.le_trans hb hg, r⟩

theorem wpList_klook2 {K E : TypeId} {q : IntKind} {w : World} {b n : Nat} {f : List Int → Option Value} {ops : Array Oper} {rest : List Oper} {o : Oper} {a : Act} {Q : Exit → Act → World → Prop} (hg : o.guard = none) (m x : Operand) (t : TypeId) (hop : o.op = Op.lookup t m x true) (e : TypeId) (ht : Tryz.prog.underlying t = some (.map K e)) {z : Value} (hz : (zeroValue e).run Tryz.prog w = .ok z w)
    (hK : KeyT K E q) (h : KMap K q w b n f) (zs : List Int) (hzs : OkK q zs) (hm : a.eval m = .map (some b)) (hx : a.eval x = kv q zs) {u : Value} {tb : Bool} (hu : (f zs).getD z = u) (htb : (f zs).isSome = tb)
    (hC : wpList Tryz.prog ops Q rest (a.put o.dst (.tuple #[u, .bool tb])) w) : wpList Tryz.prog ops Q (o :: rest) a w := by
  subst hu; subst htb
  exact wpList_klook hg m x t hop e ht hz hK h zs hzs hm hx hC

theorem step_kput {K E : TypeId} {q : IntKind} {w : World} {b n : Nat} {f : List Int → Option Value} {ops : Array Oper} {o : Oper} {a : Act} {C : Act → World → Prop} {Q : Exit → Act → World → Prop} {D : Prop} (hg : o.guard = none) (m x v : Operand) (t : TypeId) (hop : o.op = Op.mapUpdate t m x v) (e : TypeId) (ht : Tryz.prog.underlying t = some (.map K e))
    (hK : KeyT K E q) (h : KMap K q w b n f) (hn : n < maxLen) (zs : List Int) (hzs : OkK q zs) (val : Value) (hm : a.eval m = .map (some b)) (hx : a.eval x = kv q zs) (hv : a.eval v = val)
    (hC : ∀ w', KMap K q w' b (n + 1) (kupd f zs val) → w.grownBy w' (some b) → C (a.put o.dst undef) w') : if Region.wanted o (yielded ops a.tmps) = true then Oper.wp Tryz.prog o a w C Q else D := by
  obtain ⟨w', hrun, r1, r2⟩ := h.put hK ht hn hzs val
  exact step_skip hg (by unfold execOp; simp only [hop, hm, hx, hv, hrun, Sem.run_bind, Sem.run_pure, Result.andThen_ok]) (hC w' r1 r2)

theorem Arr.kept_own {w w' : World} {b base n : Nat} {zs : List Int} {v : Value} {xs : List Value} (h : Arr w b zs) (ho : w.ownsRow base 3 1 v n xs) (hg : w.grownBy w' v.ownBlock) : Arr w' b zs := by
  rcases ho.2 with ⟨h0, _⟩ | ⟨g, cap, cur, hv, _, hh, _⟩
  · subst h0
    refine ⟨(hg.block b h.lt (fun e => by cases e)).trans h.1, h.2⟩
  · subst hv
    refine ⟨(hg.block b h.lt (fun e => ?_)).trans h.1, h.2⟩
    have e' : b = g := Option.some.inj e
    subst e'
    rw [h.1] at hh
    injection hh with hh
    injection hh with _ hh
    exact absurd hh (by decide)

/-- What the search holds. -/
structure ShR (w wr : World) (m : Nat) (v : Value) (S : List (Pm × List Int)) (f : List Int → Option Value) (x : Pm) : Prop where
  rows : wr.ownsRow (m + 1) 78 12 v S.length (gcells (S.map (·.1)))
  mp : KMap 78 .i8 wr m S.length f
  box : Arr wr w.heap.size x.l
  form : ∀ zs u, f zs = some u → Stp u
  came : Came sv S f
  lo : w.heap.size < m
  below : Below w.heap.size w wr

theorem ShR.later {w wr w' : World} {m : Nat} {v : Value} {S : List (Pm × List Int)} {f : List Int → Option Value} {x : Pm} (h : ShR w wr m v S f x) (hb : Below wr.heap.size wr w') : ShR w w' m v S f x :=
  ⟨ownsE_below h.rows hb (Nat.le_refl _), h.mp.below hb h.mp.lt, h.box.below hb h.box.lt, h.form, h.came, h.lo, h.below.trans (hb.mono h.below.size)⟩

theorem ShR.all {w wr : World} {m : Nat} {v : Value} {S : List (Pm × List Int)} {f : List Int → Option Value} {x : Pm} (h : ShR w wr m v S f x) : AllR w wr v (S.map (·.1)) :=
  ⟨by rw [List.length_map]; exact ownsE_lw h.rows (by have := h.lo; omega), h.below⟩

theorem ShR.put {w wr w' : World} {m : Nat} {v : Value} {S : List (Pm × List Int)} {f : List Int → Option Value} {x : Pm} (h : ShR w wr m v S f x) (hg : wr.grownBy w' (some m)) :
    w'.ownsRow (m + 1) 78 12 v S.length (gcells (S.map (·.1))) ∧ Arr w' w.heap.size x.l ∧ Below w.heap.size w w' := by
  have hlo := h.lo
  have hmlt := h.mp.lt
  have hb : Below m wr w' := ⟨hg.os, hg.tape, hg.output, hg.size, fun b hb => hg.block b (by omega) (fun e => by have := Option.some.inj e; omega)⟩
  refine ⟨?_, h.box.below hb hlo, h.below.trans (hb.mono (by omega))⟩
  obtain ⟨h1, h2⟩ := h.rows
  refine ⟨h1, ?_⟩
  rcases h2 with h2 | ⟨g, cap, cur, hv, hg', hh, r⟩
  · exact Or.inl h2
  · exact Or.inr ⟨g, cap, cur, hv, hg', by rw [hg.block g (Array.getElem?_eq_some_iff.1 hh).1 (fun e => by have := Option.some.inj e; omega)]; exact hh, r⟩

/-- One more row is found. -/
theorem ShR.push {w wr w1 w2 w' : World} {m : Nat} {v v' : Value} {S : List (Pm × List Int)} {f : List Int → Option Value} {x : Pm} {e : Pm × List Int} {l : Int × Pm} {o : Obj} (h : ShR w wr m v S f x) (he : e ∈ S) (hn : ¬ e.1 * l.2 ∈ S.map (·.1))
    (hm : KMap 78 .i8 w1 m (S.length + 1) (kupd f (e.1 * l.2).l (sv e.1 l.1))) (hg1 : wr.grownBy w1 (some m)) (hb2 : Below w1.heap.size w1 w2)
    (ho : w'.ownsRow (m + 1) 78 12 v' (S.length + 1) (gcells (S.map (·.1)) ++ (e.1 * l.2).l.map (Value.int .i8))) (hg : (w2.alloc o).grownBy w' v.ownBlock) : ShR w w' m v' (S ++ [(e.1 * l.2, e.2 ++ [l.1])]) (kupd f (e.1 * l.2).l (sv e.1 l.1)) x := by
  obtain ⟨r1, r2, r3⟩ := h.put hg1
  have hlo := h.lo
  have hm1 := hm.lt
  have r1' : (w2.alloc o).ownsRow (m + 1) 78 12 v S.length (gcells (S.map (·.1))) := (ownsE_below r1 hb2 (Nat.le_refl _)).alloc o
  have hb3 : Below w1.heap.size w1 (w2.alloc o) := hb2.alloc hb2.size o
  have hne : ∀ k, k ≤ m → some k ≠ v.ownBlock := fun k hk e => by have := (r1'.lt k e.symm).1; omega
  have hbm : Below (m + 1) (w2.alloc o) w' := ⟨hg.os, hg.tape, hg.output, hg.size, fun b hb => hg.block b (by have := hb3.size; omega) (hne b (by omega))⟩
  refine ⟨?_, ?_, ?_, ?_, h.came.grow he hn rfl, hlo, ?_⟩
  · rw [List.length_append, List.map_append]
    show World.ownsRow w' (m + 1) 78 12 v' (S.length + 1) (gcells (S.map (·.1) ++ [e.1 * l.2]))
    rw [gcells_snoc]
    exact ho
  · rw [List.length_append]
    exact (hm.below hb3 hm.lt).below hbm (by omega)
  · exact (r2.below hb3 r2.lt).below hbm (by omega)
  · intro zs u hu
    unfold kupd at hu
    by_cases hz : zs = (e.1 * l.2).l
    · rw [if_pos hz] at hu
      rw [← Option.some.inj hu]
      exact Stp.sv _ _
    · rw [if_neg hz] at hu
      exact h.form zs u hu
  · exact (r3.trans (hb3.mono r3.size)).trans (hbm.mono (by omega))

end Go.Proofs.YtahffpgadoiijaaGreat

/- Contracts: Size, Bells, Has. -/
namespace Go.Proofs.YtahffpgadoiijaaGreat
open Go.RowKit

set_option maxRecDepth 20000 in
set_option maxHeartbeats 1000000 in
theorem gsize_ok (n : Nat) (v : Value) (gs : List Pm) (w : World) (h12 : n ≤ 12) (hG : GroupAt w v n gs) :
    Calls Tryz.prog 51 #[v] w fun e w' => e = .returned (.int .i64 (sz (Gen (fun y => y ∈ gs)) n : Nat)) ∧ Below w.heap.size w w' := by
  obtain ⟨g1, vg1, B1, c1, bs1, C1, st1, rfl, hg1, a10, a11, a12, hP1, hC1, hb1, rfl⟩ := hG
  have HS := hide (size_ok hC1 h12 hb1 w (Below.refl _ _))
  rw [hC1.sz h12] at HS
  clear hP1 hC1 hb1
  go_enter Tryz.func51, Tryz.ntmps51
  go_wp2_with fail
  refine HS.out.mono ?_
  rintro e w1 ⟨rfl, hb⟩
  go_wp2
  go_ret
  exact ⟨rfl, hb⟩

end Go.Proofs.YtahffpgadoiijaaGreat

/- Contracts: Normal's closure; Normal. -/
namespace Go.Proofs.YtahffpgadoiijaaGreat
open Go.RowKit

theorem pin (x : Pm) : (Tryz.prog.info? 78).map (·.size) = some (x.l.map (Value.int .i8)).length := by rw [List.length_map, x.len]; exact Tryz.size78

end Go.Proofs.YtahffpgadoiijaaGreat

/- Contract: Normal, of two groups of as many bells. -/
namespace Go.Proofs.YtahffpgadoiijaaGreat
open Go.RowKit

/-- What Normal answers. -/
def NormalPost (gs hs : List Pm) (w : World) (e : Ending) (w' : World) : Prop := ∃ (r : Bool) (c : Int), e = .returned (.tuple #[.bool r, .int .i64 c]) ∧
  ((c = 14 ∧ r = false ∧ ∃ y, y ∈ hs ∧ ¬ Gen (fun z => z ∈ gs) y) ∨ (c = 0 ∧ (∀ y, y ∈ hs → Gen (fun z => z ∈ gs) y) ∧ (r = true ↔ ∀ x, x ∈ gs → ∀ y, y ∈ hs → Gen (fun z => z ∈ hs) (x * y * x⁻¹)))) ∧ Below w.heap.size w w'

theorem Chained.has {w : World} {B g n : Nat} {bs : List Nat} {C : List Lk} {st : Nat → St} {gs : List Pm} (h : Chained w B g n bs C st gs) {p : Pm} (hf : Fixes (fun b => n ≤ b) p) : hasC C p = true ↔ Gen (fun z => z ∈ gs) p := (has_iff h.whole hf).trans (h.gen p)

theorem Chained.fixes {w : World} {B g n : Nat} {bs : List Nat} {C : List Lk} {st : Nat → St} {gs : List Pm} (h : Chained w B g n bs C st gs) {p : Pm} (hp : Gen (fun z => z ∈ gs) p) : Fixes (fun b => n ≤ b) p := prd_fix h.whole ((h.gen p).2 hp)

theorem Chained.ask {w : World} {B g n : Nat} {bs : List Nat} {C : List Lk} {st : Nat → St} {gs : List Pm} (h : Chained w B g n bs C st gs) (h12 : n ≤ 12) (hbs : ∀ b, b ∈ bs → b < 12) {w' : World} (hb : Below w.heap.size w w') {p : Pm} (hf : Fixes (fun b => n ≤ b) p) :
    ∃ t : Bool, (t = true ↔ Gen (fun z => z ∈ gs) p) ∧ Calls Tryz.prog 97 #[.slice (some ⟨g, 0, none⟩) n n, .int .i64 0, .agg (p.l.map (Value.int .i8)).toArray] w' fun e w'' => e = .returned (.bool t) ∧ Below w'.heap.size w' w'' := by
  have hk := has_ok C 0 p w' (h.chain.below hb (Nat.le_refl _)) (Nat.zero_le _) (by rw [h.len]; exact h12) (fun l hl => hbs _ (by rw [← h.bases]; exact List.mem_map.2 ⟨l, hl, rfl⟩))
  rw [h.len, List.drop_zero] at hk
  exact ⟨_, h.has hf, hk⟩

theorem Packs.at {w : World} {p : Option Addr} {m cap : Nat} {gs : List Pm} (h : Packs w (.slice p m cap) gs) {k : Nat} (hk : k < gs.length) : ∃ b off q, p = some ⟨b, off, none⟩ ∧ gs[k]? = some q ∧ w.rangeAt b (off + k * 12) (q.l.map (Value.int .i8)) ∧ gs.length ≤ cap := by
  rcases h with ⟨e, _⟩ | ⟨b, off, cap', hv, _, hc, _, _, hr⟩
  · rw [e] at hk; simp at hk
  · injection hv with e1 _ e3
    exact ⟨b, off, gs[k], e1, List.getElem?_eq_getElem hk, hr k _ (List.getElem?_eq_getElem hk), by omega⟩

end Go.Proofs.YtahffpgadoiijaaGreat

/- Contract: Has. -/
namespace Go.Proofs.YtahffpgadoiijaaGreat
open Go.RowKit

theorem rchk_zero {n : Nat} {xs : List Int} (h : rchk n xs = 0) : isRow xs ∧ xs.length = n ∧ 1 ≤ n ∧ n ≤ 12 := by
  unfold rchk at h
  split at h
  · rename_i h0
    have hc := chk_zero h0
    split at h
    · rename_i hl; exact ⟨hc.2.2, hl, by omega, by omega⟩
    · omega
  · rename_i h0; exact absurd h h0

end Go.Proofs.YtahffpgadoiijaaGreat

/- Contract: change (a letter's row). -/
namespace Go.Proofs.YtahffpgadoiijaaGreat
open Go.RowKit

theorem ret_arr_tmp {fn : Func} {R : Ending → World → Prop} {a : Act} {w : World} {p u : Tmp} {b : Nat} {zs : List Int} {t : Value} (h : fn.results = #[.cell p 78, .tmp u]) (hp : a.tmps.getD p undef = .pointer (some ⟨b, 0, none⟩)) (hu : a.tmps.getD u undef = t) (hA : Arr w b zs) (hd : a.defers = []) (hR : R (.returned (.tuple #[.agg (i8s zs), t])) w) : bodyPost Tryz.prog fn R .ret a w := by
  refine bodyPost_ret (v := .tuple #[.agg (i8s zs), t]) ?_ hd hR
  have hp' : a.tmps[p]?.getD undef = .pointer (some ⟨b, 0, none⟩) := by simpa using hp
  have hu' : a.tmps[u]?.getD undef = t := by simpa using hu
  rw [results_cell_tmp h]
  simp [hp', hu', asAddr, Result.andThen, run_loadVar_arr hA]

end Go.Proofs.YtahffpgadoiijaaGreat

/- Contract: Say. -/
namespace Go.Proofs.YtahffpgadoiijaaGreat
open Go.RowKit

/-- A letter's row. -/
noncomputable def lett (gs : List Pm) (k : Int) : Option Pm := if 1 ≤ k then gs[(k - 1).toNat]? else if k ≤ -1 then (gs[(-k - 1).toNat]?).map (fun x => x⁻¹) else none

/-- A word's row, from p on. -/
noncomputable def say (gs : List Pm) : List Int → Pm → Option Pm
  | [], p => some p
  | k :: t, p => (lett gs k).elim none (fun x => say gs t (p * x))

theorem say_drop {gs : List Pm} {xs : List Int} {k : Nat} {y : Int} (hk : k < xs.length) (hy : xs[k]?.getD 0 = y) (p : Pm) : say gs (xs.drop k) p = (lett gs y).elim none (fun x => say gs (xs.drop (k + 1)) (p * x)) := by
  rw [List.drop_eq_getElem_cons hk]
  have : xs[k] = y := by rw [← hy, List.getElem?_eq_getElem hk]; rfl
  rw [this]
  rfl

def SayPost (n : Nat) (gs : List Pm) (xs : List Int) (w : World) (e : Ending) (w' : World) : Prop :=
  ((say gs xs 1 = none ∧ e = .returned (.tuple #[.slice none 0 0, .int .i64 12])) ∨ ∃ v p, say gs xs 1 = some p ∧ e = .returned (.tuple #[v, .int .i64 0]) ∧ w'.ownsRow w.heap.size 3 1 v n ((cut n p).map (Value.int .i64))) ∧ Below w.heap.size w w'

end Go.Proofs.YtahffpgadoiijaaGreat
