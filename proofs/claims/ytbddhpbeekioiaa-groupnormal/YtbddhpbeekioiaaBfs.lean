/- Plain: rows found one behind the other from rounds on, each with the word that led there first. -/
import Derived.Test.YtbddhpbeekioiaaGrp
namespace Go.Proofs.Ytbddhpbeekioiaa

open Classical in
/-- One letter tried on an entry. -/
noncomputable def tryL (e : Pm × List Int) (S : List (Pm × List Int)) (l : Int × Pm) : List (Pm × List Int) :=
  if e.1 * l.2 ∈ S.map (·.1) then S else S ++ [(e.1 * l.2, e.2 ++ [l.1])]

/-- .. and the first j letters. -/
noncomputable def tryTo (L : List (Int × Pm)) (e : Pm × List Int) (S : List (Pm × List Int)) (j : Nat) : List (Pm × List Int) := (L.take j).foldl (tryL e) S

theorem tryTo_succ {L : List (Int × Pm)} {e : Pm × List Int} {S : List (Pm × List Int)} {j : Nat} {l : Int × Pm} (h : L[j]? = some l) : tryTo L e S (j + 1) = tryL e (tryTo L e S j) l := by
  unfold tryTo
  rw [List.take_add_one, h, List.foldl_append]
  rfl

theorem tryL_old {e : Pm × List Int} {S : List (Pm × List Int)} {l : Int × Pm} (h : e.1 * l.2 ∈ S.map (·.1)) : tryL e S l = S := by unfold tryL; rw [if_pos h]
theorem tryL_new {e : Pm × List Int} {S : List (Pm × List Int)} {l : Int × Pm} (h : ¬ e.1 * l.2 ∈ S.map (·.1)) : tryL e S l = S ++ [(e.1 * l.2, e.2 ++ [l.1])] := by unfold tryL; rw [if_neg h]

theorem tryL_more (e : Pm × List Int) (S : List (Pm × List Int)) (l : Int × Pm) : ∃ more, tryL e S l = S ++ more := by
  by_cases h : e.1 * l.2 ∈ S.map (·.1)
  · exact ⟨[], by rw [tryL_old h, List.append_nil]⟩
  · exact ⟨_, tryL_new h⟩

theorem tryL_there (e : Pm × List Int) (S : List (Pm × List Int)) (l : Int × Pm) : e.1 * l.2 ∈ (tryL e S l).map (·.1) := by
  by_cases h : e.1 * l.2 ∈ S.map (·.1)
  · rw [tryL_old h]; exact h
  · rw [tryL_new h]; simp

theorem tryTo_more (L : List (Int × Pm)) (e : Pm × List Int) (S : List (Pm × List Int)) (j : Nat) : ∃ more, tryTo L e S j = S ++ more := by
  unfold tryTo
  generalize L.take j = M
  induction M generalizing S with
  | nil => exact ⟨[], by simp⟩
  | cons l M ih =>
    obtain ⟨m1, h1⟩ := tryL_more e S l
    obtain ⟨m2, h2⟩ := ih (tryL e S l)
    exact ⟨m1 ++ m2, by rw [List.foldl_cons, h2, h1, List.append_assoc]⟩

theorem tryTo_there {L : List (Int × Pm)} (e : Pm × List Int) (S : List (Pm × List Int)) {l : Int × Pm} (hl : l ∈ L) : e.1 * l.2 ∈ (tryTo L e S L.length).map (·.1) := by
  unfold tryTo
  rw [List.take_length]
  induction L generalizing S with
  | nil => cases hl
  | cons x L ih =>
    rw [List.foldl_cons]
    rcases List.mem_cons.1 hl with rfl | hl
    · obtain ⟨more, h⟩ := tryTo_more L e (tryL e S l) L.length
      unfold tryTo at h
      rw [List.take_length] at h
      rw [h, List.map_append]
      exact List.mem_append_left _ (tryL_there e S l)
    · exact ih (tryL e S x) hl

/-- Entries 0 to i - 1 are gone through. -/
inductive Run (L : List (Int × Pm)) : Nat → List (Pm × List Int) → Prop
  | start : Run L 0 [(1, [])]
  | step {i : Nat} {S : List (Pm × List Int)} {e : Pm × List Int} : Run L i S → S[i]? = some e → Run L (i + 1) (tryTo L e S L.length)

theorem Run.det {L : List (Int × Pm)} {i : Nat} {S T : List (Pm × List Int)} (h : Run L i S) (k : Run L i T) : S = T := by
  induction h generalizing T with
  | start => cases k; rfl
  | step _ he ih =>
    cases k with
    | step k' he' =>
      have := ih k'
      subst this
      rw [he] at he'
      rw [Option.some.inj he']

theorem Run.le {L : List (Int × Pm)} {i : Nat} {S : List (Pm × List Int)} (h : Run L i S) : i ≤ S.length := by
  cases h with
  | start => exact Nat.zero_le _
  | step h he =>
    obtain ⟨more, e⟩ := tryTo_more L _ _ L.length
    rw [e, List.length_append]
    have := (List.getElem?_eq_some_iff.1 he).1
    omega

theorem Run.pre {L : List (Int × Pm)} {j : Nat} {T : List (Pm × List Int)} (h : Run L j T) : ∀ i, i ≤ j → ∃ S, Run L i S ∧ ∃ more, T = S ++ more := by
  induction h with
  | start => intro i hi; have : i = 0 := by omega
             subst this; exact ⟨_, Run.start, [], by simp⟩
  | @step j S e0 h he ih =>
    intro i hi
    by_cases e : i ≤ j
    · obtain ⟨S', hS, m1, h1⟩ := ih i e
      obtain ⟨m2, h2⟩ := tryTo_more L e0 S L.length
      exact ⟨S', hS, m1 ++ m2, by rw [h2, h1, List.append_assoc]⟩
    · have e2 : i = j + 1 := by omega
      subst e2
      exact ⟨_, Run.step h he, [], by simp⟩

/-- Whoever has gone through all has found the same. -/
theorem Run.unique {L : List (Int × Pm)} {i j : Nat} {S T : List (Pm × List Int)} (h : Run L i S) (k : Run L j T) (hi : S.length ≤ i) (hj : T.length ≤ j) : S = T := by
  have key : ∀ {i j : Nat} {S T : List (Pm × List Int)}, Run L i S → Run L j T → S.length ≤ i → i ≤ j → i = j := fun {i j S T} h k hi hij => by
    rcases Nat.lt_or_ge i j with hlt | hge
    · obtain ⟨S', h', _⟩ := k.pre (i + 1) hlt
      cases h' with
      | step h'' he =>
        rw [h.det h''] at hi
        have := (List.getElem?_eq_some_iff.1 he).1
        omega
    · omega
  rcases Nat.le_total i j with hij | hij
  · have := key h k hi hij
    subst this; exact h.det k
  · have := key k h hj hij
    subst this; exact h.det k

structure RunOk (L : List (Int × Pm)) (S : List (Pm × List Int)) : Prop where
  nodup : (S.map (·.1)).Nodup
  gen : ∀ e, e ∈ S → Gen (fun x => ∃ l, l ∈ L ∧ l.2 = x) e.1
  first : (1, []) ∈ S

theorem Gen.right {T : Pm → Prop} {x y : Pm} (hx : Gen T x) (hy : T y) : Gen T (x * y) := Gen.mul' hx (Gen.of hy)

theorem RunOk.tryL {L : List (Int × Pm)} {S : List (Pm × List Int)} (h : RunOk L S) {e : Pm × List Int} (he : Gen (fun x => ∃ l, l ∈ L ∧ l.2 = x) e.1) {l : Int × Pm} (hl : l ∈ L) : RunOk L (tryL e S l) := by
  by_cases hc : e.1 * l.2 ∈ S.map (·.1)
  · rw [tryL_old hc]; exact h
  · rw [tryL_new hc]
    refine ⟨?_, ?_, List.mem_append_left _ h.first⟩
    · rw [List.map_append, List.nodup_append]
      refine ⟨h.nodup, by simp, fun a ha b hb e' => hc ?_⟩
      have : b = e.1 * l.2 := by simpa using hb
      rw [← this, ← e']; exact ha
    · intro x hx
      rcases List.mem_append.1 hx with hx | hx
      · exact h.gen x hx
      · rw [List.mem_singleton.1 hx]; exact Gen.right he ⟨l, hl, rfl⟩

theorem RunOk.tryTo {L : List (Int × Pm)} {S : List (Pm × List Int)} (h : RunOk L S) {e : Pm × List Int} (he : Gen (fun x => ∃ l, l ∈ L ∧ l.2 = x) e.1) (j : Nat) : RunOk L (tryTo L e S j) := by
  have key : ∀ (M : List (Int × Pm)) (S : List (Pm × List Int)), (∀ l, l ∈ M → l ∈ L) → RunOk L S → RunOk L (M.foldl (Proofs.Ytbddhpbeekioiaa.tryL e) S) := by
    intro M
    induction M with
    | nil => intro S _ h; exact h
    | cons l M ih => intro S hM h; exact ih _ (fun x hx => hM x (by simp [hx])) (h.tryL he (hM l (by simp)))
  exact key _ S (fun l hl => List.mem_of_mem_take hl) h

theorem Run.ok {L : List (Int × Pm)} {i : Nat} {S : List (Pm × List Int)} (h : Run L i S) : RunOk L S := by
  induction h with
  | start => exact ⟨by simp, fun e he => by rw [List.mem_singleton.1 he]; exact Gen.one, by simp⟩
  | step h he ih => exact ih.tryTo (ih.gen _ (List.mem_of_getElem? he)) _

theorem Run.done {L : List (Int × Pm)} {i : Nat} {S : List (Pm × List Int)} (h : Run L i S) : ∀ k e, k < i → S[k]? = some e → ∀ l, l ∈ L → e.1 * l.2 ∈ S.map (·.1) := by
  induction h with
  | start => intro k e hk; omega
  | @step i S e0 h he ih =>
    intro k e hk hke l hl
    obtain ⟨more, hm⟩ := tryTo_more L e0 S L.length
    by_cases hki : k = i
    · subst hki
      have : e = e0 := by
        rw [hm, List.getElem?_append_left (List.getElem?_eq_some_iff.1 he).1, he] at hke
        exact (Option.some.inj hke).symm
      subst this
      exact tryTo_there e S hl
    · have hkS : k < S.length := by have := (List.getElem?_eq_some_iff.1 he).1; omega
      rw [hm, List.getElem?_append_left hkS] at hke
      rw [hm, List.map_append]
      exact List.mem_append_left _ (ih k e (by omega) hke l hl)

/-- Whoever has gone through all has found all. -/
theorem Run.all {L : List (Int × Pm)} {i : Nat} {S : List (Pm × List Int)} (h : Run L i S) (hi : S.length ≤ i) (x : Pm) : x ∈ S.map (·.1) ↔ Gen (fun x => ∃ l, l ∈ L ∧ l.2 = x) x := by
  constructor
  · intro hx
    obtain ⟨e, he, rfl⟩ := List.mem_map.1 hx
    exact h.ok.gen e he
  · intro hx
    have closed : ∀ y, y ∈ S.map (·.1) → ∀ l, l ∈ L → y * l.2 ∈ S.map (·.1) := fun y hy l hl => by
      obtain ⟨e, he, rfl⟩ := List.mem_map.1 hy
      obtain ⟨k, hk, rfl⟩ := List.getElem_of_mem he
      exact h.done k _ (by omega) (List.getElem?_eq_getElem hk) l hl
    have right : ∀ z, Gen (fun x => ∃ l, l ∈ L ∧ l.2 = x) z → ∀ y, y ∈ S.map (·.1) → y * z ∈ S.map (·.1) := by
      intro z hz
      induction hz with
      | one => intro y hy; rw [Pm.mul_one]; exact hy
      | mul hs _ ih =>
        intro y hy
        obtain ⟨l, hl, rfl⟩ := hs
        rw [← Pm.mul_assoc]
        exact ih _ (closed y hy l hl)
    have := right x hx 1 (List.mem_map.2 ⟨_, h.ok.first, rfl⟩)
    rwa [Pm.one_mul] at this

end Go.Proofs.Ytbddhpbeekioiaa
