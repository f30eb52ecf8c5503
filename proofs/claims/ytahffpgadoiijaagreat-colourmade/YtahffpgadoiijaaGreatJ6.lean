/- Joined: BfL, GeL, GeQ, GeY, Gzw, GeO, Cnt, GwA, GeS, RefE, RefF, Til, Chng, SrtA, GeB, GeC, GeE, LLp. -/
import Derived.Test.YtahffpgadoiijaaGreatJ2
import Derived.Test.YtahffpgadoiijaaGreatJ5
import Derived.Test.YtahffpgadoiijaaGreatJ0
import Derived.Shelf.Lays
import Derived.Shelf.Sort.AssemblyIn
import Derived.Sort.EveryDepth
import Derived.Shelf.Slices.Reverse
import Derived.Deep.QuietTactic
import Derived.Test.YtahffpgadoiijaaGreatJ4
import Derived.Shelf.SlSortCmp.WholeK
import Derived.Test.YtahffpgadoiijaaGreatJ1
/- Plain: the words that rows were come to by first are as short as can be. -/
namespace Go.Proofs.YtahffpgadoiijaaGreat

structure Lev (i : Nat) (S : List (Pm × List Int)) : Prop where
  sorted : S.Pairwise (fun a b => a.2.length ≤ b.2.length)
  bound : ∀ k d, k + 1 = i → S[k]? = some d → ∀ e, e ∈ S → e.2.length ≤ d.2.length + 1

theorem tryTo_lev {L : List (Int × Pm)} {e0 : Pm × List Int} {S : List (Pm × List Int)} (hs : S.Pairwise (fun a b => a.2.length ≤ b.2.length)) (hb : ∀ e, e ∈ S → e.2.length ≤ e0.2.length + 1) (j : Nat) :
    (tryTo L e0 S j).Pairwise (fun a b => a.2.length ≤ b.2.length) ∧ ∀ e, e ∈ tryTo L e0 S j → e.2.length ≤ e0.2.length + 1 := by
  unfold tryTo
  generalize L.take j = M
  induction M generalizing S with
  | nil => exact ⟨hs, hb⟩
  | cons l M ih =>
    rw [List.foldl_cons]
    by_cases hc : e0.1 * l.2 ∈ S.map (·.1)
    · rw [tryL_old hc]; exact ih hs hb
    · rw [tryL_new hc]
      refine ih ?_ ?_
      · rw [List.pairwise_append]
        refine ⟨hs, by simp, fun a ha b hb' => ?_⟩
        rw [List.mem_singleton.1 hb']
        have := hb a ha
        simp only [List.length_append, List.length_singleton]
        exact this
      · intro e he
        rcases List.mem_append.1 he with he | he
        · exact hb e he
        · rw [List.mem_singleton.1 he]
          simp

theorem Run.lev {L : List (Int × Pm)} {i : Nat} {S : List (Pm × List Int)} (h : Run L i S) : Lev i S := by
  induction h with
  | start => exact ⟨by simp, fun k d hk => by omega⟩
  | @step i S e0 h he ih =>
    have hb0 : ∀ e, e ∈ S → e.2.length ≤ e0.2.length + 1 := by
      cases i with
      | zero =>
        cases h
        intro e he'
        rw [List.mem_singleton.1 he']
        exact Nat.zero_le _
      | succ k =>
        intro e he'
        have hk : k < S.length := by have := (List.getElem?_eq_some_iff.1 he).1; omega
        have h1 := ih.bound k S[k] rfl (List.getElem?_eq_getElem hk) e he'
        have h2 := List.pairwise_iff_getElem.1 ih.sorted k (k + 1) hk (List.getElem?_eq_some_iff.1 he).1 (Nat.lt_succ_self k)
        rw [(List.getElem?_eq_some_iff.1 he).2] at h2
        omega
    obtain ⟨h1, h2⟩ := tryTo_lev (L := L) (e0 := e0) ih.sorted hb0 L.length
    refine ⟨h1, fun k d hk hd e he' => ?_⟩
    have hki : k = i := by omega
    subst hki
    obtain ⟨more, hm⟩ := tryTo_more L e0 S L.length
    rw [hm, List.getElem?_append_left (List.getElem?_eq_some_iff.1 he).1, he] at hd
    rw [← Option.some.inj hd]
    exact h2 e he'

theorem Run.near {L : List (Int × Pm)} {i : Nat} {S : List (Pm × List Int)} (h : Run L i S) : ∀ k e, k < i → S[k]? = some e → ∀ l, l ∈ L → ∃ wd, (e.1 * l.2, wd) ∈ S ∧ wd.length ≤ e.2.length + 1 := by
  intro k e hk hke l hl
  obtain ⟨T, hT, m1, e1⟩ := h.pre (k + 1) hk
  have hm := hT.lev
  have hTl := hT.le
  have hk2 : T[k]? = some e := by
    rw [e1, List.getElem?_append_left (by omega)] at hke
    exact hke
  have h3 := hT.done k e (Nat.lt_succ_self k) hk2 l hl
  obtain ⟨d, hd, e2⟩ := List.mem_map.1 h3
  refine ⟨d.2, by rw [e1, ← e2]; exact List.mem_append_left _ hd, hm.bound k e rfl hk2 d hd⟩

/-- Rows that words of letters say. -/
inductive Wds (L : List (Int × Pm)) : Nat → Pm → Prop
  | nil : Wds L 0 1
  | snoc {k : Nat} {x : Pm} {l : Int × Pm} : Wds L k x → l ∈ L → Wds L (k + 1) (x * l.2)

theorem Run.short {L : List (Int × Pm)} {i : Nat} {S : List (Pm × List Int)} (h : Run L i S) (hi : S.length ≤ i) {k : Nat} {x : Pm} (hx : Wds L k x) : ∃ wd, (x, wd) ∈ S ∧ wd.length ≤ k := by
  induction hx with
  | nil => exact ⟨[], h.ok.first, Nat.le_refl _⟩
  | @snoc k x l _ hl ih =>
    obtain ⟨wd, h1, h2⟩ := ih
    obtain ⟨j, hj, ej⟩ := List.getElem_of_mem h1
    obtain ⟨wd', h3, h4⟩ := h.near j (x, wd) (by omega) (by rw [List.getElem?_eq_getElem hj, ej]) l hl
    exact ⟨wd', h3, by simp only at h4; omega⟩

/-- What a word in the table says. -/
def Said (gs : List Pm) (e : Pm × List Int) : Prop := say gs e.2 1 = some e.1

theorem say_app (gs : List Pm) : ∀ (a b : List Int) (p : Pm), say gs (a ++ b) p = (say gs a p).bind (fun q => say gs b q)
  | [], b, p => rfl
  | k :: a, b, p => by
    show (lett gs k).elim none (fun x => say gs (a ++ b) (p * x)) = ((lett gs k).elim none (fun x => say gs a (p * x))).bind _
    cases lett gs k with
    | none => rfl
    | some x => exact say_app gs a b (p * x)

theorem glet_mem {gs : List Pm} {k : Nat} {l : Int × Pm} (h : l ∈ glet k gs) : ∃ j x, gs[j]? = some x ∧ (l = (((k + j : Nat) : Int) + 1, x) ∨ l = (-((k + j : Nat) : Int) - 1, x⁻¹)) := by
  induction gs generalizing k with
  | nil => cases h
  | cons y t ih =>
    rw [glet] at h
    rcases List.mem_cons.1 h with h | h
    · exact ⟨0, y, rfl, Or.inl h⟩
    · rcases List.mem_cons.1 h with h | h
      · exact ⟨0, y, rfl, Or.inr h⟩
      · obtain ⟨j, x, h1, h2⟩ := ih h
        refine ⟨j + 1, x, h1, ?_⟩
        rw [show k + (j + 1) = k + 1 + j by omega]
        exact h2

theorem glet_lett {gs : List Pm} {l : Int × Pm} (h : l ∈ glet 0 gs) : lett gs l.1 = some l.2 := by
  obtain ⟨j, x, h1, h2 | h2⟩ := glet_mem h
  · rw [h2, Nat.zero_add]
    unfold lett
    rw [if_pos (by omega), show ((j : Int) + 1 - 1).toNat = j by omega]
    exact h1
  · rw [h2, Nat.zero_add]
    unfold lett
    rw [if_neg (by omega), if_pos (by omega), show (-(-(j : Int) - 1) - 1).toNat = j by omega, h1]
    rfl

theorem lett_glet {gs : List Pm} {k : Int} {z : Pm} (h : lett gs k = some z) : ∃ l, l ∈ glet 0 gs ∧ l.2 = z := by
  unfold lett at h
  by_cases h1 : 1 ≤ k
  · rw [if_pos h1] at h
    exact ⟨_, List.mem_of_getElem? (glet_even (k := 0) h), rfl⟩
  · rw [if_neg h1] at h
    by_cases h2 : k ≤ -1
    · rw [if_pos h2] at h
      obtain ⟨x, hx, e⟩ := Option.map_eq_some_iff.1 h
      exact ⟨_, List.mem_of_getElem? (glet_odd (k := 0) hx), e⟩
    · rw [if_neg h2] at h; cases h

theorem say_wds {gs : List Pm} : ∀ (a : List Int) (p x : Pm) (k : Nat), Wds (glet 0 gs) k p → say gs a p = some x → Wds (glet 0 gs) (k + a.length) x
  | [], p, x, k, hp, h => by rw [← Option.some.inj h]; exact hp
  | y :: a, p, x, k, hp, h => by
    have h' : (lett gs y).elim none (fun z => say gs a (p * z)) = some x := h
    cases hl : lett gs y with
    | none => rw [hl] at h'; cases h'
    | some z =>
      rw [hl] at h'
      obtain ⟨l, hm, rfl⟩ := lett_glet hl
      have := say_wds a (p * l.2) x (k + 1) (Wds.snoc hp hm) h'
      rw [List.length_cons, show k + (a.length + 1) = k + 1 + a.length by omega]
      exact this

theorem Run.said {gs : List Pm} {i : Nat} {S : List (Pm × List Int)} (h : Run (glet 0 gs) i S) : ∀ e, e ∈ S → say gs e.2 1 = some e.1 := by
  have one : ∀ (e0 : Pm × List Int) (M : List (Int × Pm)) (S : List (Pm × List Int)), (∀ l, l ∈ M → l ∈ glet 0 gs) → say gs e0.2 1 = some e0.1 → (∀ e, e ∈ S → say gs e.2 1 = some e.1) → ∀ e, e ∈ M.foldl (tryL e0) S → say gs e.2 1 = some e.1 := by
    intro e0 M
    induction M with
    | nil => intro S _ _ h; exact h
    | cons l M ih =>
      intro S hM h0 hS
      refine ih _ (fun x hx => hM x (List.mem_cons_of_mem _ hx)) h0 ?_
      by_cases hc : e0.1 * l.2 ∈ S.map (·.1)
      · rw [tryL_old hc]; exact hS
      · rw [tryL_new hc]
        intro e he
        rcases List.mem_append.1 he with he | he
        · exact hS e he
        · rw [List.mem_singleton.1 he]
          show say gs (e0.2 ++ [l.1]) 1 = some (e0.1 * l.2)
          rw [say_app, h0]
          show (lett gs l.1).elim none (fun x => say gs [] (e0.1 * x)) = _
          rw [glet_lett (hM l List.mem_cons_self)]
          rfl
  induction h with
  | start => intro e he; rw [List.mem_singleton.1 he]; rfl
  | step h he ih => exact one _ _ _ (fun l hl => List.mem_of_mem_take hl) (ih _ (List.mem_of_getElem? he)) ih

theorem glet_gen (k : Nat) (gs : List Pm) (x : Pm) : Gen (fun y => ∃ l, l ∈ glet k gs ∧ l.2 = y) x ↔ Gen (fun y => y ∈ gs) x := by
  constructor
  · intro h
    refine h.least (Gen.sub _) (fun s ⟨l, hl, e⟩ => ?_)
    obtain ⟨j, x, h1, h2 | h2⟩ := glet_mem hl
    · rw [← e, h2]; exact Gen.of (List.mem_of_getElem? h1)
    · rw [← e, h2]; exact (Gen.of (S := fun y => y ∈ gs) (List.mem_of_getElem? h1)).inv
  · intro h
    refine h.mono (fun s hs => ?_)
    obtain ⟨j, hj, e⟩ := List.getElem_of_mem hs
    exact ⟨_, List.mem_of_getElem? (glet_even (k := k) (List.getElem?_eq_getElem hj)), e⟩

/-- The search ends: with n rows at most, none twice. -/
theorem Run.len {L : List (Int × Pm)} {i : Nat} {S : List (Pm × List Int)} (h : Run L i S) {X : List Pm} (hX : ∀ x, Gen (fun x => ∃ l, l ∈ L ∧ l.2 = x) x → x ∈ X) : S.length ≤ X.length := by
  classical
  have := nodup_len (S.map (·.1)) X h.ok.nodup (fun x hx => by obtain ⟨e, he, rfl⟩ := List.mem_map.1 hx; exact hX _ (h.ok.gen e he))
  rwa [List.length_map] at this

theorem Run.lenTo {L : List (Int × Pm)} {i : Nat} {S : List (Pm × List Int)} {e : Pm × List Int} (h : Run L i S) (he : S[i]? = some e) (j : Nat) {X : List Pm} (hX : ∀ x, Gen (fun x => ∃ l, l ∈ L ∧ l.2 = x) x → x ∈ X) : (tryTo L e S j).length ≤ X.length := by
  classical
  have hk := h.ok.tryTo (h.ok.gen e (List.mem_of_getElem? he)) j
  have := nodup_len ((tryTo L e S j).map (·.1)) X hk.nodup (fun x hx => by obtain ⟨d, hd, rfl⟩ := List.mem_map.1 hx; exact hX _ (hk.gen d hd))
  rwa [List.length_map] at this

theorem Run.more {L : List (Int × Pm)} {i j : Nat} {S T : List (Pm × List Int)} (h : Run L i S) (k : Run L j T) (hij : i ≤ j) : ∃ m, T = S ++ m := by
  obtain ⟨S', h', m, e⟩ := k.pre i hij
  rw [h.det h']
  exact ⟨m, e⟩

/-- There is a way through all. -/
theorem Run.exists {L : List (Int × Pm)} {X : List Pm} (hX : ∀ x, Gen (fun x => ∃ l, l ∈ L ∧ l.2 = x) x → x ∈ X) : ∃ i S, Run L i S ∧ S.length ≤ i := by
  have key : ∀ d i S, Run L i S → X.length - i ≤ d → ∃ i S, Run L i S ∧ S.length ≤ i := by
    intro d
    induction d with
    | zero =>
      intro i S h hd
      exact ⟨i, S, h, by have := h.len hX; omega⟩
    | succ d ih =>
      intro i S h hd
      by_cases hi : S.length ≤ i
      · exact ⟨i, S, h, hi⟩
      · exact ih (i + 1) _ (Run.step h (List.getElem?_eq_getElem (by omega))) (by omega)
  exact key X.length 0 _ Run.start (by omega)

end Go.Proofs.YtahffpgadoiijaaGreat

/- slices.Sort over ints, off the library's shelf: what it leans on. -/
namespace Go.Proofs.YtahffpgadoiijaaGreat
open Go.RowKit Go.Shelf
set_option maxRecDepth 100000
set_option linter.unusedVariables false

end Go.Proofs.YtahffpgadoiijaaGreat

/- Contract: slices.Sort over ints that the call owns. -/
namespace Go.Proofs.YtahffpgadoiijaaGreat
open Go.RowKit Go.Shelf Go.Lib Go.Sort

theorem puti_take (dk : Array Int) (cur : Array Value) (h : dk.size ≤ cur.size) : (putCells (Value.int .i64) 0 dk cur).toList.take dk.size = dk.toList.map (Value.int .i64) := by
  refine List.ext_getElem (by simp [putCells]; omega) (fun i h1 h2 => ?_)
  have hi : i < dk.size := by simpa using h2
  simp only [putCells, List.getElem_take, Array.toList_mapIdx, List.getElem_mapIdx, List.getElem_map, Array.getElem_toList]
  rw [if_pos ⟨Nat.zero_le _, by omega⟩, Nat.sub_zero, getElem!_pos dk i hi]

end Go.Proofs.YtahffpgadoiijaaGreat

/- Contract: slices.Reverse over ints that the call owns, off the library's shelf. -/
namespace Go.Proofs.YtahffpgadoiijaaGreat
open Go.RowKit Go.Shelf Go.Lib Go.Sort
set_option maxRecDepth 100000
set_option linter.unusedVariables false

end Go.Proofs.YtahffpgadoiijaaGreat

/- Contract: a row's shortest word. -/
namespace Go.Proofs.YtahffpgadoiijaaGreat
open Go.RowKit Go.Maps

theorem prounds_raw (w : World) : Calls Tryz.prog 66 #[] w fun e w' => e = .returned (.agg ((1 : Pm).l.map (Value.int .i8)).toArray) ∧ Below w.heap.size w w' := prounds_ok w

/-- What is asked of the search for a word. -/
def ShPost (gs : List Pm) (to : Pm) (w : World) (e : Ending) (w' : World) : Prop :=
  ∃ (u : Value) (wd : List Int) (i : Nat) (S : List (Pm × List Int)), e = .returned u ∧ Run (glet 0 gs) i S ∧ (to, wd) ∈ S ∧ w'.ownsRow w.heap.size 3 1 u wd.length (wd.map (Value.int .i64)) ∧ Below w.heap.size w w'

theorem slot_len {w : World} {base e size n : Nat} {v : Value} {xs : List Value} (h : w.ownsRow base e size v n xs) : slenV v = n := by
  rcases h.2 with ⟨h0, h1⟩ | ⟨g, cap, cur, hv, _⟩
  · rw [h0, h1]; rfl
  · rw [hv]; rfl

end Go.Proofs.YtahffpgadoiijaaGreat

/- Plain: which bells come to each other's places. -/
namespace Go.Proofs.YtahffpgadoiijaaGreat

/-- A bell comes to another's place by a row of the group. -/
def Reach (gs : List Pm) (a b : Nat) : Prop := ∃ x, Gen (fun y => y ∈ gs) x ∧ x.act a = b

structure OrbIn (gs : List Pm) (n a : Nat) (O : List Nat) (i j : Nat) : Prop where
  nodup : O.Nodup
  lt : ∀ b, b ∈ O → b < n
  fst : a ∈ O
  reach : ∀ b, b ∈ O → Reach gs a b
  done : ∀ k l c s, (k < i ∨ (k = i ∧ l < j)) → O[k]? = some c → gs[l]? = some s → s.act c ∈ O

theorem OrbIn.start (gs : List Pm) {n a : Nat} (h : a < n) : OrbIn gs n a [a] 0 0 :=
  ⟨by simp, fun b hb => by rw [List.mem_singleton.1 hb]; exact h, by simp, fun b hb => by rw [List.mem_singleton.1 hb]; exact ⟨1, Gen.one, Pm.act_one a⟩, fun k l c s h => by omega⟩

theorem nodup_le {n : Nat} {O : List Nat} (h : O.Nodup) (hl : ∀ b, b ∈ O → b < n) : O.length ≤ n := by
  have := h.length_le_of_subset (l₂ := List.range n) (fun b hb => List.mem_range.2 (hl b hb))
  simpa using this

theorem OrbIn.len {gs : List Pm} {n a i j : Nat} {O : List Nat} (h : OrbIn gs n a O i j) : O.length ≤ n := nodup_le h.nodup h.lt

theorem OrbIn.old {gs : List Pm} {n a i j : Nat} {O : List Nat} {c : Nat} {s : Pm} (h : OrbIn gs n a O i j) (hc : O[i]? = some c) (hs : gs[j]? = some s) (hm : s.act c ∈ O) : OrbIn gs n a O i (j + 1) := by
  refine ⟨h.nodup, h.lt, h.fst, h.reach, fun k l c' s' hk hc' hs' => ?_⟩
  by_cases h' : k < i ∨ (k = i ∧ l < j)
  · exact h.done k l c' s' h' hc' hs'
  · obtain rfl : k = i := by omega
    obtain rfl : l = j := by omega
    rw [hc] at hc'
    rw [hs] at hs'
    obtain rfl := Option.some.inj hc'
    obtain rfl := Option.some.inj hs'
    exact hm

theorem OrbIn.new {gs : List Pm} {n a i j : Nat} {O : List Nat} {c : Nat} {s : Pm} (h : OrbIn gs n a O i j) (hc : O[i]? = some c) (hs : gs[j]? = some s) (hm : s.act c ∉ O) (hn : s.act c < n) : OrbIn gs n a (O ++ [s.act c]) i (j + 1) := by
  have hi := (List.getElem?_eq_some_iff.1 hc).1
  have hg : OrbIn gs n a (O ++ [s.act c]) i j := by
    refine ⟨?_, fun b hb => ?_, List.mem_append_left _ h.fst, fun b hb => ?_, fun k l c' s' hk hc' hs' => ?_⟩
    · rw [List.nodup_append]
      exact ⟨h.nodup, by simp, fun x hx y hy e => hm (by rw [← List.mem_singleton.1 hy, ← e]; exact hx)⟩
    · rcases List.mem_append.1 hb with hb | hb
      · exact h.lt b hb
      · rw [List.mem_singleton.1 hb]; exact hn
    · rcases List.mem_append.1 hb with hb | hb
      · exact h.reach b hb
      · rw [List.mem_singleton.1 hb]
        obtain ⟨x, hx, e⟩ := h.reach c (List.mem_of_getElem? hc)
        exact ⟨s * x, Gen.mul (List.mem_of_getElem? hs) hx, by rw [Pm.act_mul, e]⟩
    · rw [List.getElem?_append_left (by omega)] at hc'
      exact List.mem_append_left _ (h.done k l c' s' hk hc' hs')
  exact hg.old (c := c) (s := s) (by rw [List.getElem?_append_left hi]; exact hc) hs (by simp)

theorem OrbIn.next {gs : List Pm} {n a i : Nat} {O : List Nat} (h : OrbIn gs n a O i gs.length) : OrbIn gs n a O (i + 1) 0 := by
  refine ⟨h.nodup, h.lt, h.fst, h.reach, fun k l c s hk hc hs => ?_⟩
  have hl := (List.getElem?_eq_some_iff.1 hs).1
  exact h.done k l c s (by omega) hc hs

theorem OrbIn.all {gs : List Pm} {n a : Nat} {O : List Nat} (h : OrbIn gs n a O O.length 0) (b : Nat) : b ∈ O ↔ Reach gs a b := by
  refine ⟨h.reach b, ?_⟩
  rintro ⟨x, hx, rfl⟩
  induction hx with
  | one => rw [Pm.act_one]; exact h.fst
  | @mul s x hs _ ih =>
    rw [Pm.act_mul]
    obtain ⟨k, hk, ek⟩ := List.getElem_of_mem ih
    obtain ⟨l, hl, el⟩ := List.getElem_of_mem hs
    exact h.done k l (x.act a) s (Or.inl hk) (by rw [List.getElem?_eq_getElem hk, ek]) (by rw [List.getElem?_eq_getElem hl, el])

end Go.Proofs.YtahffpgadoiijaaGreat

/- Plain: a group's size is how many rows it has; what is cut into parts that are alike; Lagrange; orbit and stabiliser. -/
namespace Go.Proofs.YtahffpgadoiijaaGreat

theorem len_same {α : Type} (l m : List α) (hl : l.Nodup) (hm : m.Nodup) (h : ∀ x, x ∈ l ↔ x ∈ m) : l.length = m.length := by
  classical
  exact Nat.le_antisymm (nodup_len l m hl (fun x hx => (h x).1 hx)) (nodup_len m l hm (fun x hx => (h x).2 hx))

theorem nodup_flatK {α β : Type} (B : α → List β) (k : β → α) : ∀ (l : List α), l.Nodup → (∀ e, e ∈ l → (B e).Nodup) → (∀ e, e ∈ l → ∀ x, x ∈ B e → k x = e) → (l.flatMap B).Nodup
  | [], _, _, _ => by simp
  | a :: l, hn, h1, h2 => by
    rw [List.nodup_cons] at hn
    rw [List.flatMap_cons, List.nodup_append]
    refine ⟨h1 a List.mem_cons_self, nodup_flatK B k l hn.2 (fun e he => h1 e (List.mem_cons_of_mem _ he)) (fun e he => h2 e (List.mem_cons_of_mem _ he)), fun x hx y hy e => ?_⟩
    subst e
    obtain ⟨e, he, hxe⟩ := List.mem_flatMap.1 hy
    have h3 := h2 a List.mem_cons_self x hx
    have h4 := h2 e (List.mem_cons_of_mem _ he) x hxe
    exact hn.1 (by rw [← h3, h4]; exact he)

theorem flat_lenK {α β : Type} (f : α → List β) (m : Nat) : ∀ (l : List α), (∀ e, e ∈ l → (f e).length = m) → (l.flatMap f).length = l.length * m
  | [], _ => by simp
  | a :: l, h => by
    rw [List.flatMap_cons, List.length_append, flat_lenK f m l (fun e he => h e (List.mem_cons_of_mem _ he)), h a List.mem_cons_self, List.length_cons, Nat.succ_mul, Nat.add_comm]

theorem nodup_mapI {α β : Type} (f : α → β) (hf : ∀ a b, f a = f b → a = b) : ∀ (l : List α), l.Nodup → (l.map f).Nodup
  | [], _ => by simp
  | a :: l, h => by
    rw [List.nodup_cons] at h
    rw [List.map_cons, List.nodup_cons]
    exact ⟨fun hm => by obtain ⟨b, hb, e⟩ := List.mem_map.1 hm; exact h.1 (by rw [← hf _ _ e]; exact hb), nodup_mapI f hf l h.2⟩

/-- A group's size is how many rows it has. -/
theorem sz_list {G : Pm → Prop} (hG : Sub G) {n : Nat} (hn : n ≤ 12) (hf : ∀ x, G x → Fixes (fun b => n ≤ b) x) : ∃ L : List Pm, L.Nodup ∧ (∀ x, x ∈ L ↔ G x) ∧ L.length = sz G n := by
  have key : ∀ d k, k + d = n → ∃ L : List Pm, L.Nodup ∧ (∀ x, x ∈ L ↔ Low G k x) ∧ sz G n = sz G k * L.length := by
    intro d
    induction d with
    | zero =>
      intro k hk
      refine ⟨[1], by simp, fun x => ?_, by rw [show k = n by omega]; simp⟩
      constructor
      · intro hx; rw [List.mem_singleton.1 hx]; exact (low_sub hG k).one
      · intro hx
        have : x = 1 := Pm.ext' (fun b _ => by
          rw [Pm.act_one]
          rcases Nat.lt_or_ge b n with hb | hb
          · exact hx.2 b (by omega)
          · exact hf x hx.1 b hb)
        rw [this]; simp
    | succ d ih =>
      intro k hk
      have hk12 : k < 12 := by omega
      obtain ⟨L, h1, h2, h3⟩ := ih (k + 1) (by omega)
      classical
      obtain ⟨u, hu⟩ : ∃ u : Nat → Pm, ∀ b, b ∈ orbL G k → Low G k (u b) ∧ (u b).act k = b := by
        refine ⟨fun b => if h : Orb G k b then Classical.choose h else 1, fun b hb => ?_⟩
        have h := (mem_orbL hk12).1 hb
        simp only [dif_pos h]
        exact Classical.choose_spec h
      refine ⟨(orbL G k).flatMap (fun b => L.map (fun y => u b * y)), ?_, fun x => ?_, ?_⟩
      · refine nodup_flatK _ (fun x => x.act k) _ (orbL_nodup G k) (fun b _ => nodup_mapI _ (fun a b h => Pm.mul_cancel h) _ h1) (fun b hb x hx => ?_)
        obtain ⟨y, hy, rfl⟩ := List.mem_map.1 hx
        rw [Pm.act_mul, ((h2 y).1 hy).2 k (Nat.lt_succ_self k)]
        exact (hu b hb).2
      · constructor
        · intro hx
          obtain ⟨b, hb, hx⟩ := List.mem_flatMap.1 hx
          obtain ⟨y, hy, rfl⟩ := List.mem_map.1 hx
          exact (low_sub hG k).mul (hu b hb).1 (low_plus.1 ((h2 y).1 hy)).1
        · intro hx
          have hb : x.act k ∈ orbL G k := (mem_orbL hk12).2 ⟨x, hx, rfl⟩
          refine List.mem_flatMap.2 ⟨_, hb, List.mem_map.2 ⟨(u (x.act k))⁻¹ * x, (h2 _).2 (low_plus.2 ⟨(low_sub hG k).mul ((low_sub hG k).inv (hu _ hb).1) hx, ?_⟩), Pm.mul_inv_cancel _ _⟩⟩
          rw [Pm.act_mul]
          conv => lhs; arg 2; rw [← (hu _ hb).2]
          exact Pm.inv_act _ _
      · rw [flat_lenK _ L.length _ (fun b _ => by rw [List.length_map]), h3]
        show sz G k * oc G k * L.length = sz G k * (oc G k * L.length)
        rw [Nat.mul_assoc]
  obtain ⟨L, h1, h2, h3⟩ := key n 0 (by omega)
  refine ⟨L, h1, fun x => (h2 x).trans ⟨fun h => h.1, fun h => ⟨h, fun b hb => by omega⟩⟩, ?_⟩
  rw [h3]
  show L.length = 1 * L.length
  rw [Nat.one_mul]

/-- Whoever lists a group without repeating has as many. -/
theorem sz_is {G : Pm → Prop} (hG : Sub G) {n : Nat} (hn : n ≤ 12) (hf : ∀ x, G x → Fixes (fun b => n ≤ b) x) {L : List Pm} (h1 : L.Nodup) (h2 : ∀ x, x ∈ L ↔ G x) : L.length = sz G n := by
  obtain ⟨M, m1, m2, m3⟩ := sz_list hG hn hf
  rw [← m3]
  exact len_same L M h1 m1 (fun x => (h2 x).trans (m2 x).symm)

/-- What is cut by a key into parts of one size. -/
theorem fibres {β : Type} [DecidableEq β] (f : Pm → β) (m : Nat) : ∀ (O : List β) (L : List Pm), O.Nodup → L.Nodup → (∀ x, x ∈ L → f x ∈ O) → (∀ b, b ∈ O → (L.filter (fun x => decide (f x = b))).length = m) → L.length = O.length * m
  | [], L, _, _, h, _ => by
    cases L with
    | nil => simp
    | cons x L => exact absurd (h x List.mem_cons_self) (by simp)
  | b :: O, L, hO, hL, h, hm => by
    rw [List.nodup_cons] at hO
    have e1 := hm b List.mem_cons_self
    have e2 := fibres f m O (L.filter (fun x => !decide (f x = b))) hO.2 (hL.sublist List.filter_sublist) (fun x hx => by
      rw [List.mem_filter] at hx
      rcases List.mem_cons.1 (h x hx.1) with e | e
      · simp [e] at hx
      · exact e) (fun c hc => by
      rw [List.filter_filter, ← hm c (List.mem_cons_of_mem _ hc)]
      congr 1
      refine List.filter_congr (fun x hx => ?_)
      by_cases e : f x = c
      · have : ¬ c = b := fun h => hO.1 (by rw [← h]; exact hc)
        simp [e, this]
      · simp [e])
    have e3 : L.length = (L.filter (fun x => decide (f x = b))).length + (L.filter (fun x => !decide (f x = b))).length := by
      rw [← List.length_append]
      exact ((List.filter_append_perm (fun x => decide (f x = b)) L).length_eq).symm
    rw [e3, e1, e2, List.length_cons, Nat.succ_mul, Nat.add_comm]

/-- Orbit and stabiliser. -/
theorem orb_stab {G : Pm → Prop} (hG : Sub G) {n : Nat} (hn : n ≤ 12) (hf : ∀ x, G x → Fixes (fun b => n ≤ b) x) (a : Nat) {O : List Nat} (hO : O.Nodup) (hm : ∀ b, b ∈ O ↔ ∃ x, G x ∧ x.act a = b) : sz G n = O.length * sz (fun x => G x ∧ x.act a = a) n := by
  have hS : Sub (fun x => G x ∧ x.act a = a) := ⟨⟨hG.one, Pm.act_one a⟩, fun hx hy => ⟨hG.mul hx.1 hy.1, by rw [Pm.act_mul, hy.2, hx.2]⟩, fun {x} hx => ⟨hG.inv hx.1, by have h := hx.2; rw [← h, Pm.inv_act, h]⟩⟩
  obtain ⟨L, l1, l2, l3⟩ := sz_list hG hn hf
  obtain ⟨M, m1, m2, m3⟩ := sz_list hS hn (fun x hx => hf x hx.1)
  rw [← l3, ← m3]
  refine fibres (fun x => x.act a) M.length O L hO l1 (fun x hx => (hm _).2 ⟨x, (l2 x).1 hx, rfl⟩) (fun b hb => ?_)
  obtain ⟨u, hu, eu⟩ := (hm b).1 hb
  rw [show M.length = (M.map (fun y => u * y)).length by rw [List.length_map]]
  refine len_same _ _ (l1.sublist List.filter_sublist) (nodup_mapI _ (fun a b h => Pm.mul_cancel h) _ m1) (fun x => ?_)
  rw [List.mem_filter, l2, decide_eq_true_iff, List.mem_map]
  constructor
  · rintro ⟨hx, e⟩
    refine ⟨u⁻¹ * x, (m2 _).2 ⟨hG.mul (hG.inv hu) hx, ?_⟩, Pm.mul_inv_cancel _ _⟩
    rw [Pm.act_mul, e, ← eu, Pm.inv_act]
  · rintro ⟨y, hy, rfl⟩
    have := (m2 y).1 hy
    exact ⟨hG.mul hu this.1, by rw [Pm.act_mul, this.2, eu]⟩

/-- Lagrange: a list that with each row has its part has a multiple of rows. -/
theorem lagr {H : Pm → Prop} (hH : Sub H) {M : List Pm} (m1 : M.Nodup) (m2 : ∀ x, x ∈ M ↔ H x) : ∀ (d : Nat) (L : List Pm), L.length ≤ d → L.Nodup → (∀ x, x ∈ L → ∀ y, H y → x * y ∈ L) → M.length ∣ L.length := by
  classical
  intro d
  induction d with
  | zero => intro L hd _ _; rw [show L.length = 0 by omega]; exact Nat.dvd_zero _
  | succ d ih =>
    intro L hd hL hc
    cases hLe : L with
    | nil => simp
    | cons x L' =>
      have hx : x ∈ L := by rw [hLe]; exact List.mem_cons_self
      rw [← hLe]
      have e3 : L.length = (L.filter (fun z => decide (H (x⁻¹ * z)))).length + (L.filter (fun z => !decide (H (x⁻¹ * z)))).length := by
        rw [← List.length_append]
        exact ((List.filter_append_perm (fun z => decide (H (x⁻¹ * z))) L).length_eq).symm
      have e1 : (L.filter (fun z => decide (H (x⁻¹ * z)))).length = M.length := by
        rw [show M.length = (M.map (fun y => x * y)).length by rw [List.length_map]]
        refine len_same _ _ (hL.sublist List.filter_sublist) (nodup_mapI _ (fun a b h => Pm.mul_cancel h) _ m1) (fun z => ?_)
        rw [List.mem_filter, decide_eq_true_iff, List.mem_map]
        constructor
        · rintro ⟨_, h⟩; exact ⟨_, (m2 _).2 h, Pm.mul_inv_cancel _ _⟩
        · rintro ⟨y, hy, rfl⟩
          exact ⟨hc x hx y ((m2 y).1 hy), by rw [Pm.inv_mul_cancel]; exact (m2 y).1 hy⟩
      have hM0 : 1 ≤ M.length := List.length_pos_of_mem ((m2 1).2 hH.one)
      have e2 := ih (L.filter (fun z => !decide (H (x⁻¹ * z)))) (by omega) (hL.sublist List.filter_sublist) (fun z hz y hy => by
        rw [List.mem_filter] at hz ⊢
        refine ⟨hc z hz.1 y hy, ?_⟩
        have h1 : ¬ H (x⁻¹ * z) := by simpa using hz.2
        have h2 : ¬ H (x⁻¹ * (z * y)) := fun h => h1 (by
          have := hH.mul h (hH.inv hy)
          rwa [Pm.mul_assoc, Pm.mul_assoc, Pm.mul_inv, Pm.mul_one] at this)
        simpa using h2)
      rw [e3, e1]
      exact Nat.dvd_add (Nat.dvd_refl _) e2

theorem sz_dvd {G H : Pm → Prop} (hG : Sub G) (hH : Sub H) (h : ∀ x, H x → G x) {n : Nat} (hn : n ≤ 12) (hf : ∀ x, G x → Fixes (fun b => n ≤ b) x) : sz H n ∣ sz G n := by
  obtain ⟨L, l1, l2, l3⟩ := sz_list hG hn hf
  obtain ⟨M, m1, m2, m3⟩ := sz_list hH hn (fun x hx => hf x (h x hx))
  rw [← l3, ← m3]
  exact lagr hH m1 m2 L.length L (Nat.le_refl _) l1 (fun x hx y hy => (l2 _).2 (hG.mul ((l2 x).1 hx) (h y hy)))

/-- All rows of n bells are n! -/
theorem sz_full {n : Nat} (hn : n ≤ 12) : sz (Fixes (fun b => n ≤ b)) n = fct n := by
  have hl : ((List.range (fct n)).map (fun k => pad (rowAt n k))).length = fct n := by simp
  rw [← hl]
  symm
  refine sz_is (fixes_sub _) hn (fun x hx => hx) ?_ (fun x => ?_)
  · rw [List.Nodup, List.pairwise_map]
    refine List.Pairwise.imp_of_mem (fun {a b} ha hb hne e => ?_) (List.nodup_range (n := fct n))
    have ha' := List.mem_range.1 ha
    have hb' := List.mem_range.1 hb
    have e2 : rowAt n a = rowAt n b := by
      rw [← cut_pad hn (rowAt_length ha') (rowAt_row ha'), e, cut_pad hn (rowAt_length hb') (rowAt_row hb')]
    have h1 := rank_rowAt ha'
    rw [e2, rank_rowAt hb'] at h1
    exact hne h1.symm
  · rw [List.mem_map]
    constructor
    · rintro ⟨k, hk, rfl⟩
      exact pad_fixes hn (rowAt_length (List.mem_range.1 hk)) (rowAt_row (List.mem_range.1 hk))
    · intro hx
      have hr := cut_row hn hx
      have hcl := cut_length hn x
      have hk : rankR (cut n x) < fct n := by have := rankR_lt (cut n x); rwa [hcl] at this
      refine ⟨rankR (cut n x), List.mem_range.2 hk, ?_⟩
      have e : rowAt n (rankR (cut n x)) = cut n x := by
        refine rankR_inj _ _ ?_ (rowAt_row hk).2 ?_
        · exact (rowAt_perm hk).trans (by have := row_perm_rnd hr; rw [hcl] at this; exact this.symm)
        · rw [← rkTo_all]; exact rank_rowAt hk
      rw [e, pad_cut hn hx]

theorem sz_fct {G : Pm → Prop} (hG : Sub G) {n : Nat} (hn : n ≤ 12) (hf : ∀ x, G x → Fixes (fun b => n ≤ b) x) : sz G n ∣ fct n := by
  rw [← sz_full hn]
  exact sz_dvd (fixes_sub _) hG hf hn (fun x hx => hx)

end Go.Proofs.YtahffpgadoiijaaGreat

/- Contract: Word. -/
namespace Go.Proofs.YtahffpgadoiijaaGreat
open Go.RowKit

theorem GroupAt.fix {w : World} {v : Value} {n : Nat} {gs : List Pm} (h : GroupAt w v n gs) {x : Pm} (hx : Gen (fun y => y ∈ gs) x) : Fixes (fun b => n ≤ b) x := by
  obtain ⟨g1, vg1, B1, c1, bs1, C1, st1, rfl, hg1, a10, a11, a12, hP1, hC1, hb1, rfl⟩ := h
  exact prd_fix hC1.whole ((hC1.gen x).2 hx)

/-- What Word answers: an error, or the word that the search has come to the row by. -/
def WordPost (n : Nat) (gs : List Pm) (xs : List Int) (w : World) (e : Ending) (w' : World) : Prop :=
  Below w.heap.size w w' ∧
    ((rchk n xs ≠ 0 ∧ e = .returned (.tuple #[.slice none 0 0, .int .i64 (rchk n xs)])) ∨
     (rchk n xs = 0 ∧ ¬ Gen (fun y => y ∈ gs) (pad xs) ∧ e = .returned (.tuple #[.slice none 0 0, .int .i64 14])) ∨
     (rchk n xs = 0 ∧ Gen (fun y => y ∈ gs) (pad xs) ∧ 5040 < sz (Gen (fun y => y ∈ gs)) n ∧ e = .returned (.tuple #[.slice none 0 0, .int .i64 3])) ∨
     (rchk n xs = 0 ∧ Gen (fun y => y ∈ gs) (pad xs) ∧ sz (Gen (fun y => y ∈ gs)) n ≤ 5040 ∧ ∃ (u : Value) (wd : List Int) (i : Nat) (S : List (Pm × List Int)), e = .returned (.tuple #[u, .int .i64 0]) ∧ Run (glet 0 gs) i S ∧ (pad xs, wd) ∈ S ∧ w'.ownsRow w.heap.size 3 1 u wd.length (wd.map (Value.int .i64))))

end Go.Proofs.YtahffpgadoiijaaGreat

/- slices.SortFunc over packed rows, off the library's shelf: what it leans on. -/
namespace Go.Proofs.YtahffpgadoiijaaGreat
open Go.RowKit Go.Shelf

def rnSP : Go.Shelf.Ren := ⟨fun x => match x with | 6 => 53 | 14 => 71 | 15 => 72 | 20 => 82 | 21 => 83 | 22 => 84 | 23 => 85 | 24 => 86 | 25 => 87 | 26 => 88 | 27 => 89 | 28 => 90 | 29 => 91 | 46 => 99 | 47 => 100 | 48 => 101 | 49 => 102 | 50 => 103 | 57 => 106 | y => y,
  fun x => match x with | 0 => 0 | 3 => 3 | 4 => 4 | 5 => 5 | 9 => 9 | 22 => 75 | 24 => 78 | 25 => 88 | 39 => 89 | 45 => 112 | 46 => 113 | 50 => 55 | 53 => 119 | 55 => 121 | 66 => 127 | 70 => 131 | 76 => 135 | 77 => 136 | y => y, fun x => x⟩

theorem laysSP : Go.Proofs.SlLaysF0.n6 Tryz.prog rnSP where
  mixed := by kernel_rfl
  f6 := ⟨ "slices.SortFunc[[]campanile/group.packed,campanile/group.packed]", by kernel_rfl, by kernel_rfl⟩
  f14 := ⟨ "slices.pdqsortCmpFunc[campanile/group.packed]", by kernel_rfl, by kernel_rfl⟩
  f15 := by kernel_rfl
  f20 := ⟨ "slices.insertionSortCmpFunc[campanile/group.packed]", by kernel_rfl, by kernel_rfl⟩
  f21 := ⟨ "slices.heapSortCmpFunc[campanile/group.packed]", by kernel_rfl, by kernel_rfl⟩
  f22 := ⟨ "slices.breakPatternsCmpFunc[campanile/group.packed]", by kernel_rfl, by kernel_rfl⟩
  f23 := ⟨ "slices.choosePivotCmpFunc[campanile/group.packed]", by kernel_rfl, by kernel_rfl⟩
  f24 := ⟨ "slices.reverseRangeCmpFunc[campanile/group.packed]", by kernel_rfl, by kernel_rfl⟩
  f25 := ⟨ "slices.partialInsertionSortCmpFunc[campanile/group.packed]", by kernel_rfl, by kernel_rfl⟩
  f26 := ⟨ "slices.partitionEqualCmpFunc[campanile/group.packed]", by kernel_rfl, by kernel_rfl⟩
  f27 := ⟨ "slices.partitionCmpFunc[campanile/group.packed]", by kernel_rfl, by kernel_rfl⟩
  f28 := by kernel_rfl
  f29 := by kernel_rfl
  f46 := ⟨ "slices.siftDownCmpFunc[campanile/group.packed]", by kernel_rfl, by kernel_rfl⟩
  f47 := by kernel_rfl
  f48 := by kernel_rfl
  f49 := ⟨ "slices.medianAdjacentCmpFunc[campanile/group.packed]", by kernel_rfl, by kernel_rfl⟩
  f50 := ⟨ "slices.medianCmpFunc[campanile/group.packed]", by kernel_rfl, by kernel_rfl⟩
  f57 := ⟨ "slices.order2CmpFunc[campanile/group.packed]", by kernel_rfl, by kernel_rfl⟩
  t0 := by kernel_rfl
  a0 := fun w => by kernel_rfl
  z0 := fun w => by kernel_rfl
  v0 := fun w => by kernel_rfl
  t3 := by kernel_rfl
  a3 := fun w => by kernel_rfl
  z3 := fun w => by kernel_rfl
  v3 := fun w => by kernel_rfl
  t4 := by kernel_rfl
  a4 := fun w => by kernel_rfl
  z4 := fun w => by kernel_rfl
  v4 := fun w => by kernel_rfl
  t5 := by kernel_rfl
  a5 := fun w => by kernel_rfl
  z5 := fun w => by kernel_rfl
  v5 := fun w => by kernel_rfl
  t9 := by kernel_rfl
  a9 := fun w => by kernel_rfl
  z9 := fun w => by kernel_rfl
  v9 := fun w => by kernel_rfl
  t22 := by kernel_rfl
  a22 := fun w => by kernel_rfl
  z22 := fun w => by kernel_rfl
  v22 := fun w => by kernel_rfl
  t25 := by kernel_rfl
  a25 := fun w => by kernel_rfl
  z25 := fun w => by kernel_rfl
  v25 := fun w => by kernel_rfl
  t39 := by kernel_rfl
  a39 := fun w => by kernel_rfl
  z39 := fun w => by kernel_rfl
  v39 := fun w => by kernel_rfl
  t45 := by kernel_rfl
  a45 := fun w => by kernel_rfl
  z45 := fun w => by kernel_rfl
  v45 := fun w => by kernel_rfl
  t46 := by kernel_rfl
  a46 := fun w => by kernel_rfl
  z46 := fun w => by kernel_rfl
  v46 := fun w => by kernel_rfl
  t50 := by kernel_rfl
  a50 := fun w => by kernel_rfl
  z50 := fun w => by kernel_rfl
  v50 := fun w => by kernel_rfl
  t53 := by kernel_rfl
  a53 := fun w => by kernel_rfl
  z53 := fun w => by kernel_rfl
  v53 := fun w => by kernel_rfl
  t55 := by kernel_rfl
  a55 := fun w => by kernel_rfl
  z55 := fun w => by kernel_rfl
  v55 := fun w => by kernel_rfl
  t66 := by kernel_rfl
  a66 := fun w => by kernel_rfl
  z66 := fun w => by kernel_rfl
  v66 := fun w => by kernel_rfl
  t70 := by kernel_rfl
  a70 := fun w => by kernel_rfl
  z70 := fun w => by kernel_rfl
  v70 := fun w => by kernel_rfl
  t76 := by kernel_rfl
  a76 := fun w => by kernel_rfl
  z76 := fun w => by kernel_rfl
  v76 := fun w => by kernel_rfl
  t77 := by kernel_rfl
  a77 := fun w => by kernel_rfl
  z77 := fun w => by kernel_rfl
  v77 := fun w => by kernel_rfl

theorem agg24 (w : World) : (isAgg (rnSP.t 24)).run Tryz.prog w = .ok true w := by kernel_rfl
theorem siz24 (w : World) : (Go.sizeOf (rnSP.t 24)).run Tryz.prog w = .ok 12 w := by kernel_rfl

end Go.Proofs.YtahffpgadoiijaaGreat

/- Contract of the answer's Cycles. -/
namespace Go.Proofs.YtahffpgadoiijaaGreat
open Go.RowKit
set_option maxRecDepth 20000

/-- Is x the least of the first k bells of its cycle? -/
def lst (a : List Int) (x : Nat) : Nat → Bool
  | 0 => true
  | 1 => true
  | k + 2 => lst a x (k + 1) && decide (x < it a (k + 1) x)

theorem lst_succ {a : List Int} {x k : Nat} (h : 1 ≤ k) : lst a x (k + 1) = (lst a x k && decide (x < it a k x)) := by
  match k, h with
  | k + 1, _ => rfl

theorem lst_true {a : List Int} {x k : Nat} : lst a x k = true ↔ ∀ i, 1 ≤ i → i < k → x < it a i x := by
  induction k with
  | zero => exact ⟨fun _ i h1 h2 => by omega, fun _ => rfl⟩
  | succ k ih =>
    by_cases hk : 1 ≤ k
    · rw [lst_succ hk, Bool.and_eq_true, ih, decide_eq_true_iff]
      constructor
      · rintro ⟨h1, h2⟩ i hi hik
        by_cases e : i = k
        · subst e; exact h2
        · exact h1 i hi (by omega)
      · intro h
        exact ⟨fun i hi hik => h i hi (by omega), h k hk (by omega)⟩
    · have e : k = 0 := by omega
      subst e
      exact ⟨fun _ i h1 h2 => by omega, fun _ => rfl⟩

theorem flat_backs {r : List Int} (hr : isRow r) {k x : Nat} (hk : k ≤ r.length) (hx : x < r.length) (i : Nat) (h : ((it r i x : Nat) : Int) ∈ (cycsTo r k).flatten) : (x : Int) ∈ (cycsTo r k).flatten := by
  induction i with
  | zero => exact h
  | succ i ih => exact ih (flat_back hr hk (it_lt hr hx i) h)

theorem lst_flat {a : List Int} (hr : isRow a) {x : Nat} (hx : x < a.length) : lst a x (per a x) = true ↔ ¬ (x : Int) ∈ (cycsTo a x).flatten := by
  rw [lst_true]
  constructor
  · intro h hm
    obtain ⟨c, hc, hm⟩ := List.mem_flatten.1 hm
    obtain ⟨y, hy, rfl⟩ := cyc_form hc
    obtain ⟨i, hi, e⟩ := mem_orb.1 hm
    have e' : x = it a i y := by omega
    obtain ⟨_, _, p3, _⟩ := per_spec hr (show y < a.length by omega)
    obtain ⟨q1, _, q3, _⟩ := per_spec hr hx
    have hj : it a (per a y - i) x = y := by rw [e', ← it_add, show per a y - i + i = per a y from by omega, p3]
    -- y is one of the bells of x's own cycle
    have hmod : ∀ n, it a n x = it a (n % per a x) x := by
      intro n
      have key : ∀ d, it a (per a x * d) x = x := by
        intro d
        induction d with
        | zero => rfl
        | succ d ih => rw [Nat.mul_succ, it_add, q3, ih]
      have : n = n % per a x + per a x * (n / per a x) := by rw [Nat.mod_add_div]
      rw [this, it_add, key, Nat.add_mul_mod_self_left, Nat.mod_mod]
    rw [hmod] at hj
    have hlt := Nat.mod_lt (per a y - i) q1
    by_cases h0 : (per a y - i) % per a x = 0
    · rw [h0] at hj
      have : x = y := hj
      omega
    · have := h _ (by omega) hlt
      omega
  · intro hn i h1 h2
    rcases Nat.lt_trichotomy x (it a i x) with h | h | h
    · exact h
    · exact absurd h.symm ((per_spec hr hx).2.2.2 i h1 h2)
    · exact absurd (flat_backs hr (by omega) hx i (flat_all hr x (by omega) (it a i x) h)) hn

theorem owns_len1 {w : World} {base e n : Nat} {v : Value} {xs : List Value} (h : w.ownsRow base e 1 v n xs) (hn : 1 ≤ n) : ∃ g cap, v = .slice (some ⟨g, 0, none⟩) n cap := by
  obtain ⟨g, cap, e, _⟩ := owns_form h hn
  exact ⟨g, cap, e⟩

set_option maxRecDepth 20000 in
set_option maxHeartbeats 4000000 in
theorem rcycles_ok (v1 : Value) (a : List Int) (w : World) (i1 : Ints w v1 a) (r1 : isRow a) (n1 : 1 ≤ a.length) (n2 : a.length ≤ 12) :
    Calls Tryz.prog 39 #[v1] w fun e w' => ∃ v, e = .returned v ∧ IntsAll w' v (cycsTo a a.length) ∧ Below w.heap.size w w' := by
  obtain ⟨i0, hi, hz0, hz1, hz2⟩ := info_parts Tryz.info22
  obtain ⟨j0, hj, hy0, hy1, hy2⟩ := info_parts Tryz.info3
  have R1 := hide r1
  rcases i1 with ⟨rfl, p, c, rfl⟩ | ⟨b1, o1, cap1, rfl, h01, hcp1, hm1, hb1, hcell1⟩
  · simp at n1
  have HNX : Hid (∀ y, y < a.length → a.getD y 0 = ((nx a y : Nat) : Int)) := fun y hy => by
    have := R1.out.at hy
    unfold nx; omega
  have HC := hide hcell1
  clear r1 hcell1
  go_enter Tryz.func39, Tryz.ntmps39
  go_wp2
  go_loopw [3, 4] (fun v si wr => ∃ (x : Nat) (vs : List Value), x ≤ a.length ∧ si = .int .i64 x ∧ wr.ownsRow w.heap.size 22 1 v vs.length vs ∧ OwnAll wr w.heap.size vs (cycsTo a x) ∧ Below w.heap.size w wr) (fun _ si _ => a.length - (intOf si).toNat)
  case atStart => exact ⟨0, [], by omega, rfl, World.ownsRow_nil _ _ _ _, trivial, Below.refl _ _⟩
  case round =>
    obtain ⟨x, vs, hx, rfl, hrow, hall, hbw⟩ := hrel
    have hbs := hbw.size
    by_cases hlt : x < a.length
    · obtain ⟨p1, p2, p3, p4⟩ := per_spec R1.out hlt
      have hlf := lst_flat R1.out hlt
      have hcs := cycsTo_succ a x
      have hcl := cycsTo_length a x
      have hvl := OwnAll.length hall
      generalize hcy : cycsTo a x = xss at *
      generalize hpp : per a x = p at *
      have P3 := hide p3
      have P4 := hide p4
      have HLF := hide hlf
      have HCS := hide hcs
      have HV := hide hvl
      have HCY := hide hcy
      have HALL := hide hall
      have HROW := hide hrow
      clear p3 p4 hlf hcs hvl hcy hpp hall hrow
      obtain ⟨y, hy, hcy⟩ := cellAt HC.out hlt
      have hyx : y = ((it a 1 x : Nat) : Int) := hy.out.symm.trans (HNX.out x hlt)
      rw [hyx] at hcy
      clear hyx hy
      have gcy : ∀ o, (wr.alloc o).cell? ⟨b1, o1 + x, none⟩ = some (.int .i64 ((it a 1 x : Nat) : Int)) := fun o => ((hbw.alloc hbw.size o).cell (by exact hb1)).trans hcy
      obtain ⟨wo, hwo⟩ : ∃ wo : World, wo = wr := ⟨_, rfl⟩
      rw [← hwo] at HALL HROW hbw hbs gcy ⊢
      clear hwo hcy
      go_wp2
      go_loopw [5, 6, 7] (fun c sl sk wr => ∃ (j y : Nat), 1 ≤ j ∧ j ≤ p ∧ Hid (it a j x = y) ∧ y < a.length ∧ sk = .int .i64 (y : Int) ∧ sl = .bool (lst a x j) ∧ wr.ownsRow wo.heap.size 3 1 c j ((orb a x j).map (Value.int .i64)) ∧ Below wo.heap.size wo wr) (fun c _ _ _ => p - sliceLen c)
      case atStart => exact ⟨1, it a 1 x, by omega, p1, rfl, it_lt R1.out hlt 1, rfl, rfl, one_owned wo x, (Below.refl _ _).alloc (Nat.le_refl _) _⟩
      case round =>
        clear gcy
        obtain ⟨j, y, hj1, hj2, hyk, hya, rfl, rfl, hown, hbo⟩ := hrel
        have hbos := hbo.size
        by_cases hjp : j < p
        · have hne : (((y : Nat) : Int) != ((x : Nat) : Int)) = true := by
            have := P4.out j hj1 hjp
            rw [hyk.out] at this
            rw [bne_iff_ne]; omega
          have hsl := hide (owns_len hown)
          have HLS : Hid (lst a x (j + 1) = (lst a x j && decide (x < y))) := by show _ = _; rw [lst_succ hj1, hyk.out]
          have hB : Below w.heap.size w wr := hbw.trans (hbo.mono hbs)
          have gy : wr.cell? ⟨b1, o1 + y, none⟩ = some (.int .i64 ((nx a y : Nat) : Int)) := (hB.cell (by exact hb1)).trans ((HC.out y hya).trans (by rw [HNX.out y hya]))
          generalize lst a x j = ls at *
          cases ls with
          | false =>
            go_wp2_with (at_builtin; refine wpList_append_own _ rfl _ _ 22 rfl wo.heap.size 3 j0 (.int .i64 0) 1 8 Tryz.underlying22 hj hy0 hy1 hy2 rfl (by decide) _ _ _ rfl (hown.alloc _) ⟨wr.heap.size, 0, none⟩ 1 1 [.int .i64 (y : Int)] rfl rfl ?c1 ?c2 ?c3 ?c4 ?c5 ?_)
            case c1 => exact cell_one_new _ _ _
            case c2 => intro u hu; simp at hu; subst hu; rfl
            case c3 => unfold maxLen; omega
            case c4 => omega
            case c5 => simp; omega
            · intro v' w1 hown' hgrow _
              have hB1 : Below wo.heap.size wo w1 := (hbo.alloc hbo.size _).grown hgrow (by simp; omega) (fun g hg => (hown.lt g hg).1)
              have hB2 : Below w.heap.size w w1 := hbw.trans (hB1.mono hbs)
              have gy1 : w1.cell? ⟨b1, o1 + y, none⟩ = some (.int .i64 ((nx a y : Nat) : Int)) := (hB2.cell (by exact hb1)).trans ((hB.cell (by exact hb1)).symm.trans gy)
              have hsl' := hide (owns_len hown')
              clear gy hB
              go_wp2
              go_roundw
              case rel => exact ⟨j + 1, nx a y, by omega, by omega, by show nx a (it a j x) = _; rw [hyk.out], nx_lt R1.out hya, rfl, by rw [HLS.out]; rfl, by rw [orb_snoc, List.map_append, hyk.out]; exact hown', hB1⟩
              case measure => rw [hsl.out, hsl'.out]; omega
          | true =>
            go_wp2_with (at_builtin; refine wpList_append_own _ rfl _ _ 22 rfl wo.heap.size 3 j0 (.int .i64 0) 1 8 Tryz.underlying22 hj hy0 hy1 hy2 rfl (by decide) _ _ _ rfl (hown.alloc _) ⟨wr.heap.size, 0, none⟩ 1 1 [.int .i64 (y : Int)] rfl rfl ?c1 ?c2 ?c3 ?c4 ?c5 ?_)
            case c1 => exact cell_one_new _ _ _
            case c2 => intro u hu; simp at hu; subst hu; rfl
            case c3 => unfold maxLen; omega
            case c4 => omega
            case c5 => simp; omega
            · intro v' w1 hown' hgrow _
              have hB1 : Below wo.heap.size wo w1 := (hbo.alloc hbo.size _).grown hgrow (by simp; omega) (fun g hg => (hown.lt g hg).1)
              have hB2 : Below w.heap.size w w1 := hbw.trans (hB1.mono hbs)
              have gy1 : w1.cell? ⟨b1, o1 + y, none⟩ = some (.int .i64 ((nx a y : Nat) : Int)) := (hB2.cell (by exact hb1)).trans ((hB.cell (by exact hb1)).symm.trans gy)
              have hsl' := hide (owns_len hown')
              have hdec : decide (((x : Nat) : Int) < ((y : Nat) : Int)) = decide (x < y) := by by_cases h : x < y <;> simp [h]
              have HDEC := hide hdec
              clear gy hB hdec
              go_wp2
              go_roundw
              case rel => exact ⟨j + 1, nx a y, by omega, by omega, by show nx a (it a j x) = _; rw [hyk.out], nx_lt R1.out hya, rfl, by rw [HLS.out]; simp, by rw [orb_snoc, List.map_append, hyk.out]; exact hown', hB1⟩
              case measure => rw [hsl.out, hsl'.out]; omega
        · obtain rfl : j = p := by omega
          have hne : (((y : Nat) : Int) != ((x : Nat) : Int)) = false := by
            have := P3.out
            rw [hyk.out] at this
            rw [this]; simp
          obtain ⟨g, cap, hv⟩ := owns_len1 hown hj1
          rw [hv] at hown ⊢
          have hB : Below w.heap.size w wr := hbw.trans (hbo.mono hbs)
          have hrow := owns_below HROW.out hbo (Nat.le_refl _)
          have hall := HALL.out.mono (fun _ _ _ h' => owns_below h' hbo (Nat.le_refl _))
          have HB := hide hB
          have hBs := hB.size
          clear hB hv
          generalize hls : lst a x j = ls at *
          have HLS := hide hls
          clear hls
          cases ls with
          | false =>
            have HX : Hid (cycsTo a (x + 1) = xss) := by
              show _ = _
              rw [HCS.out, if_pos]
              apply Classical.byContradiction
              intro hn
              have := HLF.out.2 hn
              cases this
            go_wp2
            go_roundw
            case rel => exact ⟨x + 1, vs, by omega, by go_num, hrow, by rw [HX.out]; exact hall, HB.out⟩
            case measure => simp [intOf]; omega
          | true =>
            have HX : Hid (cycsTo a (x + 1) = xss ++ [orb a x j]) := by
              show _ = _
              rw [HCS.out, if_neg (HLF.out.1 rfl)]
            have hvl : vs.length ≤ 12 := by have := HV.out; omega
            go_wp2_with (at_builtin; refine wpList_append_own _ rfl _ _ 25 rfl w.heap.size 22 i0 (.slice none 0 0) 1 24 Tryz.underlying25 hi hz0 hz1 hz2 rfl (by decide) _ _ _ rfl (hrow.alloc _) ⟨wr.heap.size, 0, none⟩ 1 1 [.slice (some ⟨g, 0, none⟩) j cap] rfl rfl ?c1 ?c2 ?c3 ?c4 ?c5 ?_)
            try (case c1 => exact cell_one_new _ _ _)
            case c2 => first | (intro u hu; simp at hu; subst hu; rfl) | rfl
            case c3 => first | (unfold maxLen; omega) | omega
            case c4 => omega
            case c5 => first | (simp; omega) | omega
            · intro v' w4 hown4 hgrow _
              have hall4 : OwnAll w4 w.heap.size (vs ++ [.slice (some ⟨g, 0, none⟩) j cap]) (xss ++ [orb a x j]) := by
                refine OwnAll.snoc ?_ (hall.mono (fun _ _ _ h' => owns_kept_ty (h'.alloc _) (hrow.alloc _) hgrow))
                rw [orb_length]
                exact owns_kept_ty ((owns_base hown hbs).alloc _) (hrow.alloc _) hgrow
              have hB4 : Below w.heap.size w w4 := (HB.out.alloc HB.out.size _).grown hgrow (by simp; omega) (fun g' hg' => (hrow.lt g' hg').1)
              have HA4 := hide hall4
              clear hall4
              go_wp2
              go_roundw
              case rel => exact ⟨x + 1, _, by omega, by go_num, by rw [List.length_append]; exact hown4, by rw [HX.out]; exact HA4.out, hB4⟩
              case measure => simp [intOf]; omega
    · obtain rfl : x = a.length := by omega
      go_wp2
      go_ret
      exact ⟨_, rfl, IntsAll.own hrow hall, hbw⟩

end Go.Proofs.YtahffpgadoiijaaGreat

/- Contract of the answer's Order; the least common multiple of the cycles is the order. -/
namespace Go.Proofs.YtahffpgadoiijaaGreat
open Go.RowKit
set_option maxRecDepth 20000

theorem it_succ' (r : List Int) (n x : Nat) : it r (n + 1) x = it r n (nx r x) := it_add r n 1 x

/-- The row, taken n times. -/
def pw (r : List Int) (n : Nat) : List Int := (List.range r.length).map (fun i => ((it r n i : Nat) : Int))

theorem pw_length (r : List Int) (n : Nat) : (pw r n).length = r.length := by simp [pw]

theorem pw_get {r : List Int} {n i : Nat} (h : i < r.length) : (pw r n).getD i 0 = ((it r n i : Nat) : Int) := by simp [pw, List.getD, h]

theorem pw_one {r : List Int} (hr : isRow r) : pw r 1 = r := by
  refine ext_getD (pw_length r 1) (fun i hi => ?_)
  rw [pw_length] at hi
  rw [pw_get hi]
  have := hr.at hi
  show ((nx r i : Nat) : Int) = _
  unfold nx; omega

theorem pw_succ {r : List Int} (hr : isRow r) (n : Nat) : by_ (pw r n) r = pw r (n + 1) := by
  refine ext_getD (by rw [by_length, pw_length]) (fun i hi => ?_)
  rw [by_length] at hi
  rw [by_get hi, pw_get hi]
  show (pw r n).getD (nx r i) 0 = _
  rw [pw_get (nx_lt hr hi), it_succ']

theorem isRow_pw {r : List Int} (hr : isRow r) (n : Nat) : isRow (pw r n) := by
  constructor
  · intro y hy
    obtain ⟨i, hi, rfl⟩ := List.mem_map.1 hy
    have := it_lt hr (List.mem_range.1 hi) n
    rw [pw_length]; omega
  · rw [List.nodup_iff_pairwise_ne]
    unfold pw
    rw [List.pairwise_map]
    refine List.Pairwise.imp_of_mem ?_ (List.pairwise_lt_range (n := r.length))
    intro i j hi hj hij e
    have := it_inj hr (List.mem_range.1 hi) (List.mem_range.1 hj) n (by omega)
    omega

theorem pw_rnd {r : List Int} {n : Nat} : pw r n = rnd r.length ↔ ∀ x, x < r.length → it r n x = x := by
  constructor
  · intro h x hx
    have h1 := pw_get (r := r) (n := n) hx
    rw [h, rnd_get hx] at h1
    omega
  · intro h
    exact eq_rnd (pw_length r n) (fun j hj => by rw [pw_get hj, h j hj])

theorem it_mul {r : List Int} {x p : Nat} (h : it r p x = x) (d : Nat) : it r (p * d) x = x := by
  induction d with
  | zero => rfl
  | succ d ih => rw [Nat.mul_succ, it_add, h, ih]

theorem per_dvd {r : List Int} (hr : isRow r) {x n : Nat} (hx : x < r.length) : it r n x = x ↔ per r x ∣ n := by
  obtain ⟨q1, _, q3, q4⟩ := per_spec hr hx
  constructor
  · intro h
    have e : n = n % per r x + per r x * (n / per r x) := by rw [Nat.mod_add_div]
    rw [e, it_add, it_mul q3] at h
    have hlt := Nat.mod_lt n q1
    by_cases h0 : n % per r x = 0
    · exact Nat.dvd_of_mod_eq_zero h0
    · exact absurd h (q4 _ (by omega) hlt)
  · rintro ⟨d, rfl⟩
    exact it_mul q3 d

theorem ordTo_dvd (xss : List (List Int)) (n j : Nat) (hj : j ≤ xss.length) : ordTo xss j ∣ n ↔ ∀ i, i < j → (xss.getD i []).length ∣ n := by
  induction j with
  | zero => exact ⟨fun _ i h => by omega, fun _ => Nat.one_dvd n⟩
  | succ j ih =>
    show Nat.lcm (ordTo xss j) (xss.getD j []).length ∣ n ↔ _
    rw [Nat.lcm_dvd_iff, ih (by omega)]
    constructor
    · rintro ⟨h1, h2⟩ i hi
      by_cases e : i = j
      · subst e; exact h2
      · exact h1 i (by omega)
    · intro h
      exact ⟨fun i hi => h i (by omega), h j (by omega)⟩

/-- How often the row must be taken, by its cycles. -/
def ord (r : List Int) : Nat := ordTo (cycsTo r r.length) (cycsTo r r.length).length

theorem ord_pw {r : List Int} (hr : isRow r) (n : Nat) : pw r n = rnd r.length ↔ ord r ∣ n := by
  rw [pw_rnd]
  unfold ord
  rw [ordTo_dvd _ _ _ (Nat.le_refl _)]
  constructor
  · intro h i hi
    have hc : (cycsTo r r.length).getD i [] ∈ cycsTo r r.length := by
      rw [show (cycsTo r r.length).getD i [] = (cycsTo r r.length)[i] from by simp [List.getD, List.getElem?_eq_getElem hi]]
      exact List.getElem_mem hi
    obtain ⟨y, hy, e⟩ := cyc_form hc
    rw [e, orb_length]
    exact (per_dvd hr hy).1 (h y hy)
  · intro h x hx
    obtain ⟨c, hc, hm⟩ := List.mem_flatten.1 (flat_all hr r.length (Nat.le_refl _) x hx)
    obtain ⟨i, hi, e⟩ := List.getElem_of_mem hc
    have hd := h i hi
    rw [show (cycsTo r r.length).getD i [] = c from by simp [List.getD, List.getElem?_eq_getElem hi, e]] at hd
    obtain ⟨y, hy, rfl⟩ := cyc_form hc
    rw [orb_length] at hd
    obtain ⟨j, _, e2⟩ := mem_orb.1 hm
    have e3 : x = it r j y := by omega
    rw [e3, ← it_add, Nat.add_comm, it_add, (per_dvd hr hy).2 hd]

theorem ord_pos {r : List Int} (hr : isRow r) (h12 : r.length ≤ 12) : 1 ≤ ord r ∧ ord r ≤ 1000000000000000 := by
  have hall := cycsTo_len hr r.length (Nat.le_refl _)
  have hbd := ordTo_bound (xss := cycsTo r r.length) (fun x hx => by have := hall x hx; omega) (cycsTo r r.length).length (Nat.le_refl _)
  have hl := cycsTo_length r r.length
  have hpw : 12 ^ (cycsTo r r.length).length ≤ 12 ^ 12 := Nat.pow_le_pow_right (by decide) (by omega)
  have h3 : 12 ^ 12 ≤ 1000000000000000 := by decide
  exact ⟨hbd.1, by unfold ord; omega⟩

theorem dis_row {r : List Int} (hr : isRow r) {i j : Nat} (hi : i < r.length) (hj : j < i) : dis (nx r) i j = if r.getD i 0 < r.getD j 0 then 1 else 0 := by
  have h1 := hr.at hi
  have h2 := hr.at (show j < r.length by omega)
  unfold dis
  rw [decide_eq_false (by omega : ¬ i < j)]
  unfold nx
  by_cases h : r.getD i 0 < r.getD j 0
  · rw [if_pos h, decide_eq_true (by omega)]; rfl
  · rw [if_neg h, decide_eq_false (by omega)]; rfl

theorem S_le {n : Nat} {f : Nat → Nat} {c : Nat} (h : ∀ i, i < n → f i ≤ c) : S n f ≤ n * c := by
  induction n with
  | zero => exact Nat.zero_le _
  | succ n ih =>
    have h1 := ih (fun i hi => h i (by omega))
    have h2 := h n (by omega)
    show S n f + f n ≤ (n + 1) * c
    rw [Nat.add_mul, Nat.one_mul]; omega

theorem dis_le (p : Nat → Nat) (i j : Nat) : dis p i j ≤ 1 := by unfold dis ne; split <;> omega

theorem ret_io {o : Int} {a b : Bool} (h : a = b) : Ending.returned (.tuple #[.int .i64 o, .bool a]) = Ending.returned (.tuple #[.int .i64 o, .bool b]) := by rw [h]

end Go.Proofs.YtahffpgadoiijaaGreat

/- Plain: changes as tilings of the places by single places and pairs; their rows undo themselves, and are odd as their pairs are. -/
namespace Go.Proofs.YtahffpgadoiijaaGreat
open Go.RowKit

/-- How many places a tiling covers (the last tile first; true: a place that is made, false: a pair). -/
def tsz : List Bool → Nat
  | [] => 0
  | true :: t => tsz t + 1
  | false :: t => tsz t + 2

/-- The places that are made. -/
def tpl : List Bool → List Int
  | [] => []
  | true :: t => tpl t ++ [((tsz t + 1 : Nat) : Int)]
  | false :: t => tpl t

/-- The row. -/
def trow : List Bool → List Int
  | [] => []
  | true :: t => trow t ++ [((tsz t : Nat) : Int)]
  | false :: t => trow t ++ [((tsz t + 1 : Nat) : Int), ((tsz t : Nat) : Int)]

/-- How many pairs. -/
def tpr : List Bool → Nat
  | [] => 0
  | true :: t => tpr t
  | false :: t => tpr t + 1

theorem trow_length : ∀ t, (trow t).length = tsz t
  | [] => rfl
  | true :: t => by simp [trow, tsz, trow_length t]
  | false :: t => by simp [trow, tsz, trow_length t]

theorem tpl_length : ∀ t, (tpl t).length + 2 * tpr t = tsz t
  | [] => rfl
  | true :: t => by have := tpl_length t; simp [tpl, tsz, tpr]; omega
  | false :: t => by have := tpl_length t; simp [tpl, tsz, tpr]; omega

theorem tpl_bound : ∀ t, ∀ y ∈ tpl t, 1 ≤ y ∧ y ≤ (tsz t : Nat)
  | [], y, h => by simp [tpl] at h
  | true :: t, y, h => by
    simp only [tpl, List.mem_append, List.mem_singleton] at h
    rcases h with h | h
    · have := tpl_bound t y h; simp only [tsz]; omega
    · simp only [tsz]; omega
  | false :: t, y, h => by have := tpl_bound t y h; simp only [tsz]; omega

theorem trow_mem : ∀ t, ∀ y ∈ trow t, 0 ≤ y ∧ y < (tsz t : Nat)
  | [], y, h => by simp [trow] at h
  | true :: t, y, h => by
    simp only [trow, List.mem_append, List.mem_singleton] at h
    rcases h with h | h
    · have := trow_mem t y h; simp only [tsz]; omega
    · simp only [tsz]; omega
  | false :: t, y, h => by
    simp only [trow, List.mem_append, List.mem_cons, List.not_mem_nil, or_false] at h
    rcases h with h | h | h
    · have := trow_mem t y h; simp only [tsz]; omega
    · simp only [tsz]; omega
    · simp only [tsz]; omega

theorem trow_nodup : ∀ t, (trow t).Nodup
  | [] => by simp [trow]
  | true :: t => by
    simp only [trow]
    refine List.nodup_append.2 ⟨trow_nodup t, by simp, fun a ha b hb => ?_⟩
    simp only [List.mem_singleton] at hb
    have := trow_mem t a ha
    omega
  | false :: t => by
    simp only [trow]
    refine List.nodup_append.2 ⟨trow_nodup t, by simp; omega, fun a ha b hb => ?_⟩
    simp only [List.mem_cons, List.not_mem_nil, or_false] at hb
    have := trow_mem t a ha
    omega

theorem trow_row (t : List Bool) : isRow (trow t) := ⟨fun y hy => by rw [trow_length]; exact trow_mem t y hy, trow_nodup t⟩

theorem by_append_left {a x b : List Int} (h : ∀ y ∈ b, 0 ≤ y ∧ y < (a.length : Nat)) : by_ (a ++ x) b = by_ a b := by
  unfold by_
  apply List.map_congr_left
  intro y hy
  have := h y hy
  simp only [List.getD]
  rw [List.getElem?_append_left (by omega)]

theorem trow_twice : ∀ t, by_ (trow t) (trow t) = rnd (tsz t)
  | [] => rfl
  | true :: t => by
    have ih := trow_twice t
    have hm : ∀ y ∈ trow t, 0 ≤ y ∧ y < ((trow t).length : Nat) := fun y hy => by rw [trow_length]; exact trow_mem t y hy
    show by_ (trow t ++ [((tsz t : Nat) : Int)]) (trow t ++ [((tsz t : Nat) : Int)]) = rnd (tsz t + 1)
    rw [show by_ (trow t ++ [((tsz t : Nat) : Int)]) (trow t ++ [((tsz t : Nat) : Int)]) = by_ (trow t ++ [((tsz t : Nat) : Int)]) (trow t) ++ by_ (trow t ++ [((tsz t : Nat) : Int)]) [((tsz t : Nat) : Int)] from List.map_append, by_append_left hm, ih, rnd_snoc]
    simp [by_, List.getD, trow_length]
  | false :: t => by
    have ih := trow_twice t
    have hm : ∀ y ∈ trow t, 0 ≤ y ∧ y < ((trow t).length : Nat) := fun y hy => by rw [trow_length]; exact trow_mem t y hy
    show by_ (trow t ++ [((tsz t + 1 : Nat) : Int), ((tsz t : Nat) : Int)]) (trow t ++ [((tsz t + 1 : Nat) : Int), ((tsz t : Nat) : Int)]) = rnd (tsz t + 1 + 1)
    rw [show by_ (trow t ++ [((tsz t + 1 : Nat) : Int), ((tsz t : Nat) : Int)]) (trow t ++ [((tsz t + 1 : Nat) : Int), ((tsz t : Nat) : Int)]) = by_ (trow t ++ [((tsz t + 1 : Nat) : Int), ((tsz t : Nat) : Int)]) (trow t) ++ by_ (trow t ++ [((tsz t + 1 : Nat) : Int), ((tsz t : Nat) : Int)]) [((tsz t + 1 : Nat) : Int), ((tsz t : Nat) : Int)] from List.map_append, by_append_left hm, ih, rnd_snoc, rnd_snoc]
    have h1 : (trow t ++ [((tsz t + 1 : Nat) : Int), ((tsz t : Nat) : Int)]).getD (tsz t + 1) 0 = ((tsz t : Nat) : Int) := by
      simp only [List.getD]; rw [List.getElem?_append_right (by rw [trow_length]; omega), trow_length, show tsz t + 1 - tsz t = 1 from by omega]; rfl
    have h2 : (trow t ++ [((tsz t + 1 : Nat) : Int), ((tsz t : Nat) : Int)]).getD (tsz t) 0 = ((tsz t + 1 : Nat) : Int) := by
      simp only [List.getD]; rw [List.getElem?_append_right (by rw [trow_length]; omega), trow_length, show tsz t - tsz t = 0 from by omega]; rfl
    simp only [by_, List.map_cons, List.map_nil, Int.toNat_natCast, h1, h2, List.append_assoc, List.singleton_append]

theorem nx_append_left {a x : List Int} {i : Nat} (h : i < a.length) : nx (a ++ x) i = nx a i := by
  unfold nx; simp only [List.getD]; rw [List.getElem?_append_left h]

theorem nx_trow_lt (t : List Bool) {i : Nat} (h : i < tsz t) : nx (trow t) i < tsz t := by
  have := nx_lt (trow_row t) (x := i) (by rw [trow_length]; exact h)
  rwa [trow_length] at this

theorem dis_zero {p : Nat → Nat} {i j : Nat} (h : j < i) (hp : p j < p i) : dis p i j = 0 := by
  unfold dis ne; rw [decide_eq_false (by omega), decide_eq_false (by omega)]; rfl

theorem dis_one {p : Nat → Nat} {i j : Nat} (h : j < i) (hp : p i < p j) : dis p i j = 1 := by
  unfold dis ne; rw [decide_eq_false (by omega), decide_eq_true hp]; rfl

theorem trow_inv : ∀ t, inv (tsz t) (nx (trow t)) = tpr t
  | [] => rfl
  | true :: t => by
    have ih := trow_inv t
    have e : ∀ i, i < tsz t → nx (trow (true :: t)) i = nx (trow t) i := fun i hi => nx_append_left (by rw [trow_length]; exact hi)
    have es : nx (trow (true :: t)) (tsz t) = tsz t := by
      show nx (trow t ++ [((tsz t : Nat) : Int)]) (tsz t) = tsz t
      unfold nx; simp only [List.getD]; rw [List.getElem?_append_right (by rw [trow_length]; omega), trow_length, Nat.sub_self]; rfl
    show inv (tsz t) (nx (trow (true :: t))) + S (tsz t) (fun j => dis (nx (trow (true :: t))) (tsz t) j) = tpr t
    rw [inv_congr e, ih, S_congr (g := fun _ => 0) (fun j hj => dis_zero hj (by rw [es, e j hj]; exact nx_trow_lt t hj)), S_zero]
    rfl
  | false :: t => by
    have ih := trow_inv t
    have e : ∀ i, i < tsz t → nx (trow (false :: t)) i = nx (trow t) i := fun i hi => nx_append_left (by rw [trow_length]; exact hi)
    have es : nx (trow (false :: t)) (tsz t) = tsz t + 1 := by
      show nx (trow t ++ [((tsz t + 1 : Nat) : Int), ((tsz t : Nat) : Int)]) (tsz t) = tsz t + 1
      unfold nx; simp only [List.getD]; rw [List.getElem?_append_right (by rw [trow_length]; omega), trow_length, Nat.sub_self]; rfl
    have et : nx (trow (false :: t)) (tsz t + 1) = tsz t := by
      show nx (trow t ++ [((tsz t + 1 : Nat) : Int), ((tsz t : Nat) : Int)]) (tsz t + 1) = tsz t
      unfold nx; simp only [List.getD]; rw [List.getElem?_append_right (by rw [trow_length]; omega), trow_length, show tsz t + 1 - tsz t = 1 from by omega]; rfl
    show inv (tsz t) (nx (trow (false :: t))) + S (tsz t) (fun j => dis (nx (trow (false :: t))) (tsz t) j) + (S (tsz t) (fun j => dis (nx (trow (false :: t))) (tsz t + 1) j) + dis (nx (trow (false :: t))) (tsz t + 1) (tsz t)) = tpr t + 1
    rw [inv_congr e, ih, S_congr (g := fun _ => 0) (fun j hj => dis_zero hj (by rw [es, e j hj]; have := nx_trow_lt t hj; omega)), S_zero,
      S_congr (g := fun _ => 0) (fun j hj => dis_zero (by omega) (by rw [et, e j hj]; exact nx_trow_lt t hj)), S_zero, dis_one (by omega) (by rw [et, es]; omega)]

theorem trow_odd (t : List Bool) : odd (trow t) = decide (tpr t % 2 = 1) := by
  have h := odd_inv (trow_row t)
  rw [trow_length, trow_inv] at h
  cases e : odd (trow t) <;> rw [e] at h <;> simp at h ⊢ <;> omega

theorem ord_le_two {r : List Int} (hr : isRow r) (h : by_ r r = rnd r.length) : ord r ≤ 2 := by
  have h2 : pw r 2 = rnd r.length := by rw [← pw_succ hr 1, pw_one hr, h]
  exact Nat.le_of_dvd (by decide) ((ord_pw hr 2).1 h2)

/-- The last place that is made, or 0. -/
def tlast : List Bool → Nat
  | [] => 0
  | true :: t => tsz t + 1
  | false :: t => tlast t

theorem tlast_ok : ∀ t, tlast t ≤ tsz t ∧ (tsz t - tlast t) % 2 = 0
  | [] => by decide
  | true :: t => by simp [tlast, tsz]
  | false :: t => by have := tlast_ok t; simp only [tlast, tsz]; omega

/-- May places be a change of n, behind a last one? -/
def okc (n last : Int) : List Int → Bool
  | [] => decide ((n - last) % 2 = 0)
  | p :: ps => decide (last < p ∧ p ≤ n ∧ (p - last - 1) % 2 = 0) && okc n p ps

theorem tsz_rep (t : List Bool) : ∀ m, tsz (List.replicate m false ++ t) = tsz t + 2 * m
  | 0 => by simp
  | m + 1 => by simp only [List.replicate_succ, List.cons_append, tsz, tsz_rep t m]; omega

theorem tpl_rep (t : List Bool) : ∀ m, tpl (List.replicate m false ++ t) = tpl t
  | 0 => by simp
  | m + 1 => by simp only [List.replicate_succ, List.cons_append, tpl, tpl_rep t m]

theorem okc_til (n : Nat) : ∀ (ps : List Int) (t : List Bool), tsz t ≤ n → okc n (tsz t : Nat) ps = true → ∃ t', tsz t' = n ∧ tpl t' = tpl t ++ ps
  | [], t, h, ho => by
    simp only [okc, decide_eq_true_eq] at ho
    exact ⟨List.replicate ((n - tsz t) / 2) false ++ t, by rw [tsz_rep]; omega, by rw [tpl_rep, List.append_nil]⟩
  | p :: ps, t, h, ho => by
    simp only [okc, Bool.and_eq_true, decide_eq_true_eq] at ho
    obtain ⟨⟨h1, h2, h3⟩, h4⟩ := ho
    obtain ⟨q, rfl⟩ := Int.eq_ofNat_of_zero_le (show 0 ≤ p by omega)
    have hs : tsz (true :: (List.replicate ((q - tsz t - 1) / 2) false ++ t)) = q := by simp only [tsz, tsz_rep]; omega
    obtain ⟨t', e1, e2⟩ := okc_til n ps (true :: (List.replicate ((q - tsz t - 1) / 2) false ++ t)) (by rw [hs]; omega) (by rw [hs]; exact h4)
    refine ⟨t', e1, ?_⟩
    rw [e2]
    simp only [tpl, tpl_rep, tsz_rep, List.append_assoc, List.singleton_append]
    rw [show tsz t + 2 * ((q - tsz t - 1) / 2) + 1 = q from by omega]

theorem til_okc (n : Nat) : ∀ (t : List Bool) (ps : List Int), tsz t ≤ n → okc n (tlast t : Nat) ps = true → okc n 0 (tpl t ++ ps) = true
  | [], ps, _, h => h
  | true :: t, ps, hn, h => by
    have hl := tlast_ok t
    simp only [tsz] at hn
    simp only [tpl, List.append_assoc, List.singleton_append]
    refine til_okc n t _ (by omega) ?_
    simp only [okc, Bool.and_eq_true, decide_eq_true_eq]
    exact ⟨by omega, h⟩
  | false :: t, ps, hn, h => til_okc n t ps (by simp only [tsz] at hn; omega) h

theorem okc_self (t : List Bool) : okc (tsz t : Nat) 0 (tpl t) = true := by
  have h := til_okc (tsz t) t [] (Nat.le_refl _) (by have := tlast_ok t; simp only [okc, decide_eq_true_eq]; omega)
  rwa [List.append_nil] at h

theorem okc_iff (n : Nat) (ps : List Int) : okc n 0 ps = true ↔ ∃ t, tsz t = n ∧ tpl t = ps := by
  constructor
  · intro h
    obtain ⟨t, e1, e2⟩ := okc_til n ps [] (Nat.zero_le _) h
    exact ⟨t, e1, by rw [e2]; rfl⟩
  · rintro ⟨t, rfl, rfl⟩
    exact okc_self t

theorem tsz_mono (s : List Bool) : ∀ u, tsz s ≤ tsz (u ++ s)
  | [] => Nat.le_refl _
  | true :: u => by have := tsz_mono s u; simp only [List.cons_append, tsz]; omega
  | false :: u => by have := tsz_mono s u; simp only [List.cons_append, tsz]; omega

theorem tpl_above (s : List Bool) : ∀ u, ∀ y ∈ tpl (u ++ s), y ∈ tpl s ∨ (tsz s : Int) < y
  | [], y, h => Or.inl h
  | true :: u, y, h => by
    simp only [List.cons_append, tpl, List.mem_append, List.mem_singleton] at h
    rcases h with h | h
    · exact tpl_above s u y h
    · have := tsz_mono s u; right; omega
  | false :: u, y, h => tpl_above s u y h

theorem tpl_sub (s : List Bool) : ∀ u, ∀ y ∈ tpl s, y ∈ tpl (u ++ s)
  | [], _, h => h
  | true :: u, y, h => by simp only [List.cons_append, tpl, List.mem_append]; exact Or.inl (tpl_sub s u y h)
  | false :: u, y, h => tpl_sub s u y h

theorem mem_next (u s : List Bool) (b : Bool) : ((tsz s : Nat) : Int) + 1 ∈ tpl (u ++ b :: s) ↔ b = true := by
  constructor
  · intro h
    cases b with
    | true => rfl
    | false =>
      rcases tpl_above (false :: s) u _ h with h | h
      · have := tpl_bound s _ h; omega
      · simp only [tsz] at h; omega
  · rintro rfl
    exact tpl_sub _ u _ (by simp [tpl])

theorem til_whole {s : List Bool} : ∀ {u : List Bool}, tsz (u ++ s) ≤ tsz s → u = []
  | [], _ => rfl
  | true :: u, h => by have := tsz_mono s u; simp only [List.cons_append, tsz] at h; omega
  | false :: u, h => by have := tsz_mono s u; simp only [List.cons_append, tsz] at h; omega

/-- The next tile of one that is not whole. -/
theorem til_next {u s : List Bool} (h : tsz s < tsz (u ++ s)) : ∃ u' b, u = u' ++ [b] ∧ u ++ s = u' ++ b :: s := by
  rcases List.eq_nil_or_concat u with rfl | ⟨u', b, rfl⟩
  · exact absurd h (Nat.lt_irrefl _)
  · exact ⟨u', b, by simp, by simp⟩

theorem trow_ones : ∀ n, trow (List.replicate n true) = rnd n ∧ tsz (List.replicate n true) = n ∧ tpr (List.replicate n true) = 0
  | 0 => ⟨rfl, rfl, rfl⟩
  | n + 1 => by
    obtain ⟨h1, h2, h3⟩ := trow_ones n
    refine ⟨?_, ?_, ?_⟩
    · rw [List.replicate_succ, trow, h1, h2, rnd_snoc]
    · rw [List.replicate_succ, tsz, h2]
    · rw [List.replicate_succ, tpr, h3]

theorem odd_rnd (n : Nat) : odd (rnd n) = false := by
  rw [← (trow_ones n).1, trow_odd, (trow_ones n).2.2]; rfl

end Go.Proofs.YtahffpgadoiijaaGreat

/- Contracts: pairs, mayCount and Check of place; slices.Index, slices.Contains; Row; ChangeOf. -/
namespace Go.Proofs.YtahffpgadoiijaaGreat
open Go.RowKit

theorem drop_cons (xs : List Int) {k : Nat} (h : k < xs.length) : xs.drop k = xs[k]?.getD 0 :: xs.drop (k + 1) := by
  rw [List.drop_eq_getElem_cons h]; simp [List.getElem?_eq_getElem h]

/-- What Check says of places of n bells. -/
def pck (n : Int) (ps : List Int) : Int := if okc n 0 ps = true then 0 else 6

theorem pck_range (n : Int) (ps : List Int) : pck n ps = 0 ∨ pck n ps = 6 := by unfold pck; split <;> simp

theorem pck_til {t : List Bool} {n : Nat} (h : tsz t = n) : pck n (tpl t) = 0 := by unfold pck; rw [if_pos (by rw [← h]; exact okc_self t)]

/-- Where a number is first; -1: nowhere. -/
def idx (x : Int) : List Int → Nat → Int
  | [], _ => -1
  | y :: ys, k => if x = y then (k : Int) else idx x ys (k + 1)

theorem idx_mem (x : Int) : ∀ (ys : List Int) (k : Nat), decide (idx x ys k ≥ 0) = decide (x ∈ ys)
  | [], _ => by simp [idx]
  | y :: ys, k => by
    unfold idx
    by_cases h : x = y
    · rw [if_pos h]; simp [h]
    · rw [if_neg h, idx_mem x ys (k + 1)]; simp [h]

end Go.Proofs.YtahffpgadoiijaaGreat

/- Contracts: cmp.Compare, slices.Compare of lists of one length; the order of lists. -/
namespace Go.Proofs.YtahffpgadoiijaaGreat
open Go.RowKit

def cI (x y : Int) : Int := if x < y then -1 else if y < x then 1 else 0

theorem isNaN_ok (x : Int) (w : World) : Calls Tryz.prog 93 #[.int .i64 x] w fun e w' => e = .returned (.bool false) ∧ w = w' := by
  go_enter Tryz.func93, Tryz.ntmps93
  go_wp2
  go_ret
  simp

set_option maxRecDepth 20000 in
set_option maxHeartbeats 1000000 in
theorem cmp_ok (x y : Int) (w : World) : Calls Tryz.prog 74 #[.int .i64 x, .int .i64 y] w fun e w' => e = .returned (.int .i64 (cI x y)) ∧ w = w' := by
  by_cases h1 : x < y
  · have hc : Hid (cI x y = -1) := by show _ = _; unfold cI; rw [if_pos h1]
    go_enter Tryz.func74, Tryz.ntmps74
    go_wp2_with fail
    refine (isNaN_ok _ _).mono ?_
    rintro e w' ⟨rfl, rfl⟩
    go_wp2_with fail
    refine (isNaN_ok _ _).mono ?_
    rintro e w' ⟨rfl, rfl⟩
    go_wp2
    go_ret
    exact ⟨ret_int hc.out.symm, rfl⟩
  · by_cases h2 : y < x
    · have hc : Hid (cI x y = 1) := by show _ = _; unfold cI; rw [if_neg h1, if_pos h2]
      go_enter Tryz.func74, Tryz.ntmps74
      go_wp2_with fail
      refine (isNaN_ok _ _).mono ?_
      rintro e w' ⟨rfl, rfl⟩
      go_wp2_with fail
      refine (isNaN_ok _ _).mono ?_
      rintro e w' ⟨rfl, rfl⟩
      go_wp2
      go_ret
      exact ⟨ret_int hc.out.symm, rfl⟩
    · have hc : Hid (cI x y = 0) := by show _ = _; unfold cI; rw [if_neg h1, if_neg h2]
      go_enter Tryz.func74, Tryz.ntmps74
      go_wp2_with fail
      refine (isNaN_ok _ _).mono ?_
      rintro e w' ⟨rfl, rfl⟩
      go_wp2_with fail
      refine (isNaN_ok _ _).mono ?_
      rintro e w' ⟨rfl, rfl⟩
      go_wp2
      go_ret
      exact ⟨ret_int hc.out.symm, rfl⟩

def lcmp : List Int → List Int → Int
  | [], [] => 0
  | [], _ :: _ => -1
  | _ :: _, [] => 1
  | x :: xs, y :: ys => if cI x y = 0 then lcmp xs ys else cI x y

theorem lcmp_cons (x y : Int) (xs ys : List Int) : lcmp (x :: xs) (y :: ys) = if x < y then -1 else if y < x then 1 else lcmp xs ys := by
  show (if cI x y = 0 then lcmp xs ys else cI x y) = _
  unfold cI
  by_cases h1 : x < y
  · simp [h1]
  · by_cases h2 : y < x <;> simp [h1, h2]

theorem lcmp_self : ∀ a, lcmp a a = 0
  | [] => rfl
  | x :: xs => by rw [lcmp_cons, if_neg (by omega), if_neg (by omega)]; exact lcmp_self xs

theorem lcmp_trans : ∀ a b c, lcmp a b < 0 → lcmp b c < 0 → lcmp a c < 0
  | [], [], _, h, _ => absurd h (by decide)
  | [], _ :: _, [], _, h => absurd h (by show ¬ ((1 : Int) < 0); decide)
  | [], _ :: _, _ :: _, _, _ => by show (-1 : Int) < 0; decide
  | _ :: _, [], _, h, _ => absurd h (by show ¬ ((1 : Int) < 0); decide)
  | _ :: _, _ :: _, [], _, h => absurd h (by show ¬ ((1 : Int) < 0); decide)
  | x :: xs, y :: ys, z :: zs, h1, h2 => by
    have ih := lcmp_trans xs ys zs
    rw [lcmp_cons] at h1 h2 ⊢
    repeat' split at h1
    all_goals repeat' split at h2
    all_goals repeat' split
    all_goals first | omega | exact ih h1 h2

theorem lcmp_ntrans : ∀ a b c, ¬ lcmp a b < 0 → ¬ lcmp b c < 0 → ¬ lcmp a c < 0
  | [], [], c, _, h => h
  | [], _ :: _, _, h, _ => absurd (show (-1 : Int) < 0 by decide) h
  | _ :: _, [], [], _, _ => by show ¬ ((1 : Int) < 0); decide
  | _ :: _, [], _ :: _, _, h => absurd (show (-1 : Int) < 0 by decide) h
  | _ :: _, _ :: _, [], _, _ => by show ¬ ((1 : Int) < 0); decide
  | x :: xs, y :: ys, z :: zs, h1, h2 => by
    have ih := lcmp_ntrans xs ys zs
    rw [lcmp_cons] at h1 h2 ⊢
    repeat' split at h1
    all_goals repeat' split at h2
    all_goals repeat' split
    all_goals first | omega | exact ih h1 h2

set_option maxRecDepth 20000 in
set_option maxHeartbeats 1000000 in
theorem compare_ok (v1 v2 : Value) (xs ys : List Int) (w : World) (i1 : Ints w v1 xs) (i2 : Ints w v2 ys) (h1 : 1 ≤ xs.length) (hl : ys.length = xs.length) :
    Calls Tryz.prog 56 #[v1, v2] w fun e w' => e = .returned (.int .i64 (lcmp xs ys)) ∧ w = w' := by
  rcases i1 with ⟨rfl, _⟩ | ⟨b, off, cap, rfl, h0, hc, hm, hb, hcell⟩
  · simp at h1
  rcases i2 with ⟨rfl, _⟩ | ⟨b2, off2, cap2, rfl, h02, hc2, hm2, hb2, hcell2⟩
  · simp at hl; omega
  rw [hl]
  rw [hl] at hc2
  have HLL := hide hl
  clear hl h02
  go_enter Tryz.func56, Tryz.ntmps56
  go_wp2
  go_loop [11] (fun i => ∃ k : Nat, k ≤ xs.length ∧ i = .int .i64 k ∧ Hid (lcmp xs ys = lcmp (xs.drop k) (ys.drop k))) (fun i => xs.length - (intOf i).toNat)
  case atStart => exact ⟨0, by omega, rfl, rfl⟩
  case round =>
    obtain ⟨k, hk, rfl, hi⟩ := hrel
    by_cases hlt : k < xs.length
    · have hlt2 : k < ys.length := by have := HLL.out; omega
      obtain ⟨x, hx, hcx⟩ := cellAt hcell hlt
      obtain ⟨y, hy, hcy⟩ := cellAt hcell2 hlt2
      have HD : Hid (lcmp xs ys = if cI x y = 0 then lcmp (xs.drop (k + 1)) (ys.drop (k + 1)) else cI x y) := by show _ = _; rw [hi.out, drop_cons xs hlt, drop_cons ys hlt2, hx.out, hy.out]; rfl
      have HCM := hide (cmp_ok x y w)
      clear hcell hcell2 hi hlt2
      by_cases hz : cI x y = 0
      · have hp : Hid (lcmp xs ys = lcmp (xs.drop (k + 1)) (ys.drop (k + 1))) := by show _ = _; rw [HD.out, if_pos hz]
        rw [hz] at HCM
        clear hz HD
        go_wp2_with fail
        refine HCM.out.mono ?_
        rintro e w' ⟨rfl, rfl⟩
        go_wp2
        go_round
        case rel => exact ⟨k + 1, by omega, by go_num, hp⟩
        case measure => simp [intOf]; omega
      · have hp : Hid (lcmp xs ys = cI x y) := by show _ = _; rw [HD.out, if_neg hz]
        have hne : (cI x y != 0) = true := by simpa using hz
        clear HD
        generalize cI x y = z at *
        go_wp2_with fail
        refine HCM.out.mono ?_
        rintro e w' ⟨rfl, rfl⟩
        go_wp2
        go_ret
        exact ⟨ret_int hp.out.symm, rfl⟩
    · have hp : Hid (lcmp xs ys = 0) := by show _ = _; rw [hi.out, List.drop_of_length_le (by omega), List.drop_of_length_le (by have := HLL.out; omega)]; rfl
      clear hcell hcell2 hi
      go_wp2
      go_ret
      exact ⟨ret_int hp.out.symm, rfl⟩

end Go.Proofs.YtahffpgadoiijaaGreat

/- Contracts: cmp.Compare, slices.Compare of int8, group.compare. -/
namespace Go.Proofs.YtahffpgadoiijaaGreat
open Go.RowKit

theorem isNaN8_ok (x : Int) (w : World) : Calls Tryz.prog 104 #[.int .i8 x] w fun e w' => e = .returned (.bool false) ∧ w = w' := by
  go_enter Tryz.func104, Tryz.ntmps104
  go_wp2
  go_ret
  simp

set_option maxRecDepth 20000 in
set_option maxHeartbeats 1000000 in
theorem cmp8_ok (x y : Int) (w : World) : Calls Tryz.prog 92 #[.int .i8 x, .int .i8 y] w fun e w' => e = .returned (.int .i64 (cI x y)) ∧ w = w' := by
  by_cases h1 : x < y
  · have hc : Hid (cI x y = -1) := by show _ = _; unfold cI; rw [if_pos h1]
    go_enter Tryz.func92, Tryz.ntmps92
    go_wp2_with fail
    refine (isNaN8_ok _ _).mono ?_
    rintro e w' ⟨rfl, rfl⟩
    go_wp2_with fail
    refine (isNaN8_ok _ _).mono ?_
    rintro e w' ⟨rfl, rfl⟩
    go_wp2
    go_ret
    exact ⟨ret_int hc.out.symm, rfl⟩
  · by_cases h2 : y < x
    · have hc : Hid (cI x y = 1) := by show _ = _; unfold cI; rw [if_neg h1, if_pos h2]
      go_enter Tryz.func92, Tryz.ntmps92
      go_wp2_with fail
      refine (isNaN8_ok _ _).mono ?_
      rintro e w' ⟨rfl, rfl⟩
      go_wp2_with fail
      refine (isNaN8_ok _ _).mono ?_
      rintro e w' ⟨rfl, rfl⟩
      go_wp2
      go_ret
      exact ⟨ret_int hc.out.symm, rfl⟩
    · have hc : Hid (cI x y = 0) := by show _ = _; unfold cI; rw [if_neg h1, if_neg h2]
      go_enter Tryz.func92, Tryz.ntmps92
      go_wp2_with fail
      refine (isNaN8_ok _ _).mono ?_
      rintro e w' ⟨rfl, rfl⟩
      go_wp2_with fail
      refine (isNaN8_ok _ _).mono ?_
      rintro e w' ⟨rfl, rfl⟩
      go_wp2
      go_ret
      exact ⟨ret_int hc.out.symm, rfl⟩

set_option maxRecDepth 20000 in
set_option maxHeartbeats 1000000 in
theorem compare8_ok (b b2 : Nat) (xs ys : List Int) (w : World) (i1 : Arr w b xs) (i2 : Arr w b2 ys) :
    Calls Tryz.prog 73 #[.slice (some ⟨b, 0, none⟩) 12 12, .slice (some ⟨b2, 0, none⟩) 12 12] w fun e w' => e = .returned (.int .i64 (lcmp xs ys)) ∧ w = w' := by
  have hb := i1.lt
  have hb2 := i2.lt
  have hcell : ∀ j, j < 12 → ∃ x, Hid (xs.getD j 0 = x) ∧ w.cell? ⟨b, j, none⟩ = some (.int .i8 x) := fun j hj => ⟨_, rfl, (i1.cell hj).1⟩
  have hcell2 : ∀ j, j < 12 → ∃ x, Hid (ys.getD j 0 = x) ∧ w.cell? ⟨b2, j, none⟩ = some (.int .i8 x) := fun j hj => ⟨_, rfl, (i2.cell hj).1⟩
  have HL1 := hide i1.2
  have HL2 := hide i2.2
  clear i1 i2
  go_enter Tryz.func73, Tryz.ntmps73
  go_wp2
  go_loop [11] (fun i => ∃ k : Nat, k ≤ 12 ∧ i = .int .i64 k ∧ Hid (lcmp xs ys = lcmp (xs.drop k) (ys.drop k))) (fun i => 12 - (intOf i).toNat)
  case atStart => exact ⟨0, by omega, rfl, rfl⟩
  case round =>
    obtain ⟨k, hk, rfl, hi⟩ := hrel
    by_cases hlt : k < 12
    · have hlt2 : k < ys.length := by have := HL2.out; omega
      have hlt1 : k < xs.length := by have := HL1.out; omega
      obtain ⟨x, hx, hcx⟩ := hcell k hlt
      obtain ⟨y, hy, hcy⟩ := hcell2 k hlt
      have HD : Hid (lcmp xs ys = if cI x y = 0 then lcmp (xs.drop (k + 1)) (ys.drop (k + 1)) else cI x y) := by show _ = _; rw [hi.out, drop_cons xs hlt1, drop_cons ys hlt2, ← List.getD_eq_getElem?_getD, ← List.getD_eq_getElem?_getD, hx.out, hy.out]; rfl
      have HCM := hide (cmp8_ok x y w)
      clear hcell hcell2 hi hlt2 hlt1
      by_cases hz : cI x y = 0
      · have hp : Hid (lcmp xs ys = lcmp (xs.drop (k + 1)) (ys.drop (k + 1))) := by show _ = _; rw [HD.out, if_pos hz]
        rw [hz] at HCM
        clear hz HD
        go_wp2_with fail
        refine HCM.out.mono ?_
        rintro e w' ⟨rfl, rfl⟩
        go_wp2
        go_round
        case rel => exact ⟨k + 1, by omega, by go_num, hp⟩
        case measure => simp [intOf]; omega
      · have hp : Hid (lcmp xs ys = cI x y) := by show _ = _; rw [HD.out, if_neg hz]
        have hne : (cI x y != 0) = true := by simpa using hz
        clear HD
        generalize cI x y = z at *
        go_wp2_with fail
        refine HCM.out.mono ?_
        rintro e w' ⟨rfl, rfl⟩
        go_wp2
        go_ret
        exact ⟨ret_int hp.out.symm, rfl⟩
    · have hp : Hid (lcmp xs ys = 0) := by show _ = _; rw [hi.out, List.drop_of_length_le (by have := HL1.out; omega), List.drop_of_length_le (by have := HL2.out; omega)]; rfl
      clear hcell hcell2 hi
      go_wp2
      go_ret
      exact ⟨ret_int hp.out.symm, rfl⟩

end Go.Proofs.YtahffpgadoiijaaGreat

/- Contract: group.compare. -/
namespace Go.Proofs.YtahffpgadoiijaaGreat
open Go.RowKit Go.Shelf Go.Sort
set_option maxRecDepth 20000
set_option linter.unusedVariables false

set_option maxHeartbeats 2000000 in
theorem gcompare_ok (x y : Pm) (w : World) : Calls Tryz.prog 54 #[.agg (x.l.map (Value.int .i8)).toArray, .agg (y.l.map (Value.int .i8)).toArray] w fun e w' => e = .returned (.int .i64 (lcmp x.l y.l)) ∧ ∃ q os', w' = grow (w.drewN q) os' := by
  have hA : Arr ((w.alloc (.cells (i8s x.l) 78)).alloc (.cells (i8s y.l) 78)) w.heap.size x.l := (Arr.new w x.l x.len).alloc _
  have hB := Arr.new1 w (.cells (i8s x.l) 78) (zs := y.l) y.len
  have HC := hide (fun W (h1 : Arr W w.heap.size x.l) (h2 : Arr W (w.heap.size + 1) y.l) => compare8_ok w.heap.size (w.heap.size + 1) x.l y.l W h1 h2)
  have HA := hide hA
  have HB := hide hB
  have hlx := x.len
  have hly := y.len
  clear hA hB
  go_enter Tryz.func54, Tryz.ntmps54
  go_upto_region 1 with fail
  change Code.wp _ _ _ _ ((w.alloc (.cells (i8s x.l) 78)).alloc (.cells (i8s y.l) 78))
  have HG : Hid ((w.alloc (.cells (i8s x.l) 78)).alloc (.cells (i8s y.l) 78) = grow w #[.cells (i8s x.l) 78, .cells (i8s y.l) 78]) := by
    show _ = _
    rw [alloc_eq_grow, alloc_eq_grow, grow_grow]; rfl
  generalize (w.alloc (.cells (i8s x.l) 78)).alloc (.cells (i8s y.l) 78) = WW at *
  refine wp_region_held_drew (S := fun W' => ∃ m, W' = WW.drewN m) (by kernel_rfl) ⟨1, rfl⟩ (fun hS => ?_)
  refine wpAnyH_take (i := 0) (v := .slice (some ⟨w.heap.size, 0, none⟩) 12 12) rfl (by kernel_rfl) (by kernel_rfl) (by kernel_rfl) (fun _ _ _ h => h) (Or.inl ⟨by kernel_rfl, fun w' hS' => by clear hS'; go_simp⟩) hS ?_
  refine wpAnyH_take (i := 1) (v := .slice (some ⟨w.heap.size + 1, 0, none⟩) 12 12) rfl (by kernel_rfl) (by kernel_rfl) (by kernel_rfl) (fun _ _ _ h => h) (Or.inl ⟨by kernel_rfl, fun w' hS' => by clear hS'; go_simp⟩) hS ?_
  refine wpAnyH_ready (rs := [2]) (by kernel_rfl) (by simp) ?_
  refine AllReadyH.cons rfl (fun K hK => ?_) AllReadyH.nil
  go_simp
  refine (HC.out WW.drew HA.out.drew HB.out.drew).mono ?_
  rintro e w' ⟨rfl, rfl⟩
  refine hK.out _ _ ⟨1, rfl⟩ (fun hS => ?_)
  clear hK
  refine wpAnyH_take (i := 3) (v := .int .i64 (lcmp x.l y.l)) rfl (by kernel_rfl) (by kernel_rfl) (by kernel_rfl) (fun _ _ _ h => h) (Or.inl ⟨by kernel_rfl, fun w' hS' => by clear hS'; go_simp⟩) hS ?_
  refine wpAnyH_done (by kernel_rfl) ?_ _
  go_wp2
  go_ret
  refine ⟨rfl, 1, #[.cells (i8s x.l) 78, .cells (i8s y.l) 78], ?_⟩
  rw [HG.out]
  rfl

end Go.Proofs.YtahffpgadoiijaaGreat

/- Contract: slices.SortFunc with group.compare over packed rows that the call owns. -/
namespace Go.Proofs.YtahffpgadoiijaaGreat
open Go.RowKit Go.Shelf Go.Lib Go.Sort

instance : Inhabited Pm := ⟨1⟩

def encP (x : Pm) : List Value := x.l.map (Value.int .i8)

theorem encP_len (x : Pm) : (encP x).length = 12 := by unfold encP; rw [List.length_map, x.len]

theorem flat_gcells (X : List Pm) : (flatK encP 12 X.toArray).toList = gcells X := by
  refine List.ext_getElem (by rw [gcells_length, Array.length_toList, size_flatK]; simp) (fun t h1 h2 => ?_)
  have ht : t < X.length * 12 := by rw [gcells_length] at h2; exact h2
  have hd : t / 12 < X.length := by omega
  have hm : t % 12 < 12 := Nat.mod_lt _ (by decide)
  have hg := gcells_at X (t / 12) X[t / 12] (List.getElem?_eq_getElem hd) (t % 12) hm
  rw [show t / 12 * 12 + t % 12 = t from by omega] at hg
  have e1 : (gcells X)[t] = .int .i8 (X[t / 12].l.getD (t % 12) 0) := by
    rw [List.getElem?_eq_getElem h2] at hg
    exact Option.some.inj hg
  have e2 := get_flatK encP 12 X.toArray t (by simpa using ht)
  rw [getElem!_pos _ t (by rw [size_flatK]; simpa using ht)] at e2
  rw [Array.getElem_toList, e1, e2, getElem!_pos X.toArray (t / 12) (by simpa using hd)]
  have hl : t % 12 < (encP X[t / 12]).length := by rw [encP_len]; exact hm
  show (encP X[t / 12])[t % 12]! = _
  rw [getElem!_pos (encP X[t / 12]) (t % 12) hl]
  have hl2 : t % 12 < X[t / 12].l.length := by rw [Pm.len]; exact hm
  simp [encP, List.getD, hl2]

theorem swk_block (w : World) (blk m : Nat) (dk : Array Pm) (os : Array Obj) {b : Nat} (hne : b ≠ blk) (hb : b < w.heap.size) : (sortWorldK encP 12 w blk 0 m dk os).heap[b]? = w.heap[b]? := by
  unfold sortWorldK putRowK grow putRow mapBlock Sort.ahead
  simp only
  rw [Array.getElem?_append_left (by simpa using hb), Array.getElem?_modify, if_neg (fun e => hne e.symm)]

theorem swk_row (w : World) (blk m : Nat) (dk : Array Pm) (os : Array Obj) {cur : Array Value} {e : TypeId} (h : w.heap[blk]? = some (.cells cur e (0, 0))) : (sortWorldK encP 12 w blk 0 m dk os).heap[blk]? = some (.cells (putCells id 0 (flatK encP 12 dk) cur) e (0, 0)) := by
  have hb := (Array.getElem?_eq_some_iff.1 h).1
  unfold sortWorldK putRowK grow putRow mapBlock Sort.ahead
  simp only
  rw [Array.getElem?_append_left (by simpa using hb), Array.getElem?_modify, if_pos rfl, h]
  rfl

theorem putk_take (dk : Array Value) (cur : Array Value) (h : dk.size ≤ cur.size) : (putCells id 0 dk cur).toList.take dk.size = dk.toList := by
  refine List.ext_getElem (by simp [putCells]; omega) (fun i h1 h2 => ?_)
  have hi : i < dk.size := by simpa using h2
  simp only [putCells, List.getElem_take, Array.toList_mapIdx, List.getElem_mapIdx, Array.getElem_toList]
  rw [if_pos ⟨Nat.zero_le _, by omega⟩, Nat.sub_zero, getElem!_pos dk i hi]
  rfl

set_option maxRecDepth 20000 in
set_option maxHeartbeats 2000000 in
theorem gsort_ok (base : Nat) (u : Value) (X : List Pm) (w : World) (hrow : w.ownsRow base 78 12 u X.length (gcells X)) (hN : 1 ≤ X.length) (hN2 : X.length ≤ 8916100448256) :
    Calls Tryz.prog 53 #[u, .func (.func 54) #[] #[]] w fun e w' => e = .returned (.tuple #[]) ∧ ∃ X', (X'.Perm X ∧ X'.Pairwise (fun a b => 0 ≤ lcmp b.l a.l)) ∧ w'.ownsRow base 78 12 u X'.length (gcells X') ∧ Below base w w' := by
  have hown := hrow
  rcases hrow.2 with ⟨_, h0⟩ | ⟨g, cap, cur, hu, hgb, hh, hc1, hc2, hcs, hct⟩
  · omega
  have hg := (Array.getElem?_eq_some_iff.1 hh).1
  have hcmp : CmpLays Tryz.prog 54 #[] encP 12 (fun x y => lcmp x.l y.l) g 0 X.toArray.size w := by
    intro m os dk _ x y
    exact gcompare_ok x y (sortWorldK encP 12 w g 0 m dk os)
  have hO : SWO (ltOf (fun x y : Pm => lcmp x.l y.l)) := by
    refine ⟨fun x => ?_, fun x y z a1 a2 => ?_, fun x y z a1 a2 => ?_⟩
    · show decide (lcmp x.l x.l < 0) = false
      rw [lcmp_self]; decide
    · unfold ltOf at *; exact decide_eq_true (lcmp_trans _ _ _ (of_decide_eq_true a1) (of_decide_eq_true a2))
    · unfold ltOf at *; exact decide_eq_false (lcmp_ntrans _ _ _ (of_decide_eq_false a1) (of_decide_eq_false a2))
  have h1c : ∀ x, ∀ v ∈ encP x, v.oneCell' = true := fun x => i8_one _
  have hH : HoldsK encP 12 w g 0 X.toArray := by
    intro j hj
    have hj' : j < (gcells X).length := by rw [gcells_length]; rw [size_flatK] at hj; simpa using hj
    refine ⟨?_, by simp [World.frozen?, hh]⟩
    rw [hu] at hown
    have h9 := hown.cells (g := g) rfl j _ (List.getElem?_eq_getElem hj')
    rw [Addr.add_lit] at h9
    rw [h9, getElem!_pos _ j hj]
    have e := flat_gcells X
    show some _ = some ((flatK encP 12 X.toArray)[j])
    rw [← Array.getElem_toList]
    simp only [e]
  have eg : ∀ args w, (callFunc 54 args).run Tryz.prog w = .ok (.enter 54 args) w := enters_of Tryz.func54 (by kernel_rfl) rfl
  have hcon := AnyQ.slices_SortFunc laysSP 12 agg24 siz24 encP encP_len h1c (fun x y => lcmp x.l y.l) hO 54 #[] g 0 cap X.toArray w eg hcmp hH hg (by simp; omega)
  have hsz : X.toArray.size = X.length := by simp
  rw [hsz] at hcon
  rw [hu]
  refine Calls.mono (show Calls Tryz.prog 53 _ _ _ from hcon) ?_
  rintro e w' ⟨rfl, d', k, os, hp, hso, rfl⟩
  have hds : d'.size = X.length := by rw [hp.1, hsz]
  have hperm : d'.toList.Perm X := by
    have h9 := hp.2.2
    have e1 : (d'.extract 0 X.length).toList = d'.toList := by rw [← hds]; simp
    have e2 : (X.toArray.extract 0 X.length).toList = X := by rw [← hsz]; simp
    rw [e1, e2] at h9
    exact h9
  have hf : (flatK encP 12 d').toList = gcells d'.toList := by have := flat_gcells d'.toList; rw [Array.toArray_toList] at this; exact this
  refine ⟨rfl, d'.toList, ⟨hperm, ?_⟩, ?_, ?_⟩
  · rw [List.pairwise_iff_getElem]
    intro i j hi hj hij
    have hi' : i < d'.size := by simpa using hi
    have hj' : j < d'.size := by simpa using hj
    have h9 := hso i j (Nat.zero_le _) hij (by omega)
    rw [getElem!_pos d' i hi', getElem!_pos d' j hj'] at h9
    unfold ltOf at h9
    exact Int.not_lt.1 (of_decide_eq_false h9)
  · have hlen : d'.toList.length = X.length := by simp [hds]
    rw [hlen]
    refine ⟨by rw [gcells_length, hlen], Or.inr ⟨g, cap, putCells id 0 (flatK encP 12 d') cur, rfl, hgb, swk_row w g k d' os hh, hc1, hc2, ?_, ?_⟩⟩
    · rw [← hcs]; simp [putCells]
    · rw [← hf, ← hds, ← size_flatK encP 12 d']
      exact putk_take _ cur (by rw [size_flatK, hds, hcs]; exact Nat.mul_le_mul_right _ hc1)
  · refine ⟨rfl, rfl, rfl, ?_, fun b hb => swk_block w g k d' os (by omega) (by omega)⟩
    unfold sortWorldK putRowK grow putRow mapBlock Sort.ahead
    simp

end Go.Proofs.YtahffpgadoiijaaGreat

/- Lists of lists that a call makes, one list behind the other. -/
namespace Go.Proofs.YtahffpgadoiijaaGreat
open Go.RowKit

/-- A list of lists that the call owns, all its lists too. -/
structure LL (w : World) (base : Nat) (v : Value) (vs : List Value) (xss : List (List Int)) : Prop where
  row : w.ownsRow base 22 1 v vs.length vs
  all : OwnAll w base vs xss

theorem LL.nil (w : World) (base : Nat) : LL w base (.slice none 0 0) [] [] := ⟨World.ownsRow_nil _ _ _ _, trivial⟩

theorem LL.len {w : World} {base : Nat} {v : Value} {vs : List Value} {xss : List (List Int)} (h : LL w base v vs xss) : vs.length = xss.length := OwnAll.length h.all

theorem LL.ints {w : World} {base : Nat} {v : Value} {vs : List Value} {xss : List (List Int)} (h : LL w base v vs xss) : IntsAll w v xss := IntsAll.own h.row h.all

theorem LL.below {w w' : World} {base : Nat} {v : Value} {vs : List Value} {xss : List (List Int)} (h : LL w base v vs xss) (hb : Below w.heap.size w w') : LL w' base v vs xss :=
  ⟨owns_below h.row hb (Nat.le_refl _), h.all.mono (fun _ _ _ h' => owns_below h' hb (Nat.le_refl _))⟩

theorem LL.low {w : World} {base base' : Nat} {v : Value} {vs : List Value} {xss : List (List Int)} (h : LL w base v vs xss) (hb : base' ≤ base) : LL w base' v vs xss := by
  refine ⟨owns_base h.row hb, ?_⟩
  have ha := h.all
  clear h
  induction vs generalizing xss with
  | nil => cases xss with
    | nil => trivial
    | cons x xs => exact ha.elim
  | cons u us ih => cases xss with
    | nil => exact ha.elim
    | cons x xs => exact ⟨owns_base ha.1 hb, ih ha.2⟩

theorem LL.at {w : World} {base : Nat} {v : Value} {vs : List Value} {xss : List (List Int)} (h : LL w base v vs xss) {k : Nat} (hk : k < xss.length) : w.ownsRow base 3 1 (vs.getD k undef) (xss.getD k []).length ((xss.getD k []).map (Value.int .i64)) :=
  ownAll_at h.all (by rw [h.len]; exact hk)

theorem LL.push {w w4 : World} {base : Nat} {v v' u : Value} {vs : List Value} {xss : List (List Int)} {X : List Int} {o : Obj} (h : LL w base v vs xss) (hu : w.ownsRow base 3 1 u X.length (X.map (Value.int .i64)))
    (hown : w4.ownsRow base 22 1 v' (vs.length + 1) (vs ++ [u])) (hg : (w.alloc o).grownBy w4 v.ownBlock) : LL w4 base v' (vs ++ [u]) (xss ++ [X]) :=
  ⟨by rw [List.length_append]; exact hown, OwnAll.snoc (owns_kept_ty (hu.alloc o) (h.row.alloc o) hg) (h.all.mono (fun _ _ _ h' => owns_kept_ty (h'.alloc o) (h.row.alloc o) hg))⟩

theorem LL.kept {w w4 : World} {base n : Nat} {v u : Value} {vs ys : List Value} {xss : List (List Int)} {o : Obj} (h : LL w base v vs xss) (hu : w.ownsRow base 3 1 u n ys) (hg : (w.alloc o).grownBy w4 v.ownBlock) : w4.ownsRow base 3 1 u n ys :=
  owns_kept_ty (hu.alloc o) (h.row.alloc o) hg

theorem LL.step {w0 w w4 : World} {base B : Nat} {v : Value} {vs : List Value} {xss : List (List Int)} {o : Obj} (h : LL w base v vs xss) (hB : Below B w0 w) (hb : B ≤ base) (hs : B ≤ w.heap.size) (hg : (w.alloc o).grownBy w4 v.ownBlock) : Below B w0 w4 :=
  (hB.alloc hs _).grown hg (by simp; omega) (fun g hg' => Nat.le_trans hb (h.row.lt g hg').1)

/-- The list of one list. -/
theorem LL.one {w : World} {base : Nat} {u : Value} {X : List Int} (hu : w.ownsRow base 3 1 u X.length (X.map (Value.int .i64))) (hb : base ≤ w.heap.size) : LL (w.alloc (.cells #[u] 22)) base (.slice (some ⟨w.heap.size, 0, none⟩) 1 1) [u] [X] :=
  ⟨World.ownsRow_lit w #[u] 1 hb (by unfold maxLen; omega) rfl, ⟨hu.alloc _, trivial⟩⟩

theorem LL.set {w : World} {base b j : Nat} {v x : Value} {vs : List Value} {xss : List (List Int)} (h : LL w base v vs xss) (hb : b < base) : LL (w.setCell ⟨b, j, none⟩ x) base v vs xss :=
  ⟨ownsRow_setCell_below h.row (by exact hb) _, h.all.mono (fun _ _ _ h' => ownsRow_setCell_below h' (by exact hb) _)⟩

end Go.Proofs.YtahffpgadoiijaaGreat
