/- Plain: Sims's filter, and the orbit of a place with what brings bells there. -/
import Derived.Test.YtbddhpbeekioiaaSchr
import Derived.Test.YtbddhpbeekioiaaClo
namespace Go.Proofs.Ytbddhpbeekioiaa
open Go.RowKit

/-- One in the table of two bells. -/
structure TabOne (n f k : Nat) (X : List Int) : Prop where
  row : isRow X
  len : X.length = n
  at_ : ∃ b q, k = b * n + q ∧ b < n ∧ q < n ∧ f ≤ b ∧ (∀ c, c < b → (pad X).act c = c) ∧ (pad X).act b = q

def TabOk (n f : Nat) (tx : List (Option (List Int))) : Prop := ∀ k X, tx[k]? = some (some X) → TabOne n f k X

def InTab (tx : List (Option (List Int))) (y : Pm) : Prop := ∃ X, some X ∈ tx ∧ y = pad X

theorem TabOk.of {n f : Nat} {tx : List (Option (List Int))} (h : TabOk n f tx) {b q : Nat} (hq : q < n) {X : List Int} (hX : tx[b * n + q]? = some (some X)) : isRow X ∧ X.length = n ∧ (∀ c, c < b → (pad X).act c = c) ∧ (pad X).act b = q := by
  obtain ⟨h1, h2, b', q', e, _, hq', _, h3, h4⟩ := h _ X hX
  have eb : b = b' := by
    have e1 : (b * n + q) / n = b := by rw [Nat.mul_comm, Nat.mul_add_div (by omega), Nat.div_eq_of_lt hq]; rfl
    have e2 : (b' * n + q') / n = b' := by rw [Nat.mul_comm, Nat.mul_add_div (by omega), Nat.div_eq_of_lt hq']; rfl
    rw [← e1, ← e2, e]
  subst eb
  have eq : q = q' := by omega
  subst eq
  exact ⟨h1, h2, h3, h4⟩

theorem tab_lt {n b q : Nat} (hb : b < n) (hq : q < n) : b * n + q < n * n := by
  have h1 : b * n + n ≤ n * n := by rw [← Nat.succ_mul]; exact Nat.mul_le_mul_right n hb
  omega

/-- Those that are made of the table, of the row in hand, and of the rows from i on. -/
def Mix (tx : List (Option (List Int))) (r : List Int) (rest : List (List Int)) (y : Pm) : Prop := (InTab tx y ∨ y ∈ rest.map pad) ∨ y = pad r

def Mix0 (tx : List (Option (List Int))) (rest : List (List Int)) (y : Pm) : Prop := InTab tx y ∨ y ∈ rest.map pad

theorem gen_congr {A B : Pm → Prop} (h : ∀ y, A y ↔ B y) (x : Pm) : Gen A x ↔ Gen B x := ⟨Gen.mono (fun s hs => (h s).1 hs), Gen.mono (fun s hs => (h s).2 hs)⟩

theorem mix_take {tx : List (Option (List Int))} {r : List Int} {rest : List (List Int)} (x : Pm) : Gen (Mix0 tx (r :: rest)) x ↔ Gen (Mix tx r rest) x := by
  refine gen_congr (fun y => ?_) x
  unfold Mix0 Mix
  rw [List.map_cons, List.mem_cons]
  constructor
  · rintro (h | h | h)
    · exact Or.inl (Or.inl h)
    · exact Or.inr h
    · exact Or.inl (Or.inr h)
  · rintro ((h | h) | h)
    · exact Or.inl h
    · exact Or.inr (Or.inr h)
    · exact Or.inr (Or.inl h)

/-- It is put into the table. -/
theorem mix_put {tx : List (Option (List Int))} {r : List Int} {rest : List (List Int)} {k : Nat} (h : tx[k]? = some none) (x : Pm) : Gen (Mix tx r rest) x ↔ Gen (Mix0 (tx.set k (some r)) rest) x := by
  have hk := (List.getElem?_eq_some_iff.1 h).1
  refine gen_congr (fun y => ?_) x
  unfold Mix Mix0 InTab
  constructor
  · rintro ((⟨X, hX, e⟩ | h1) | h1)
    · refine Or.inl ⟨X, ?_, e⟩
      obtain ⟨j, hj, ej⟩ := List.getElem_of_mem hX
      have hne : k ≠ j := fun e' => by subst e'; rw [List.getElem?_eq_getElem hk, ej] at h; cases h
      exact List.mem_iff_getElem?.2 ⟨j, by rw [List.getElem?_set_ne hne, List.getElem?_eq_getElem hj, ej]⟩
    · exact Or.inr h1
    · exact Or.inl ⟨r, List.mem_iff_getElem?.2 ⟨k, by rw [List.getElem?_set_self hk]⟩, h1⟩
  · rintro (⟨X, hX, e⟩ | h1)
    · rcases List.mem_or_eq_of_mem_set hX with h2 | h2
      · exact Or.inl (Or.inl ⟨X, h2, e⟩)
      · injection h2 with h2; subst h2; exact Or.inr e
    · exact Or.inl (Or.inr h1)

/-- .. or changed by what is there. -/
theorem mix_turn {tx : List (Option (List Int))} {r r' t : List Int} {rest : List (List Int)} {k : Nat} (h : tx[k]? = some (some t)) (hr : pad r' = (pad t)⁻¹ * pad r) (x : Pm) : Gen (Mix tx r rest) x ↔ Gen (Mix tx r' rest) x := by
  unfold Mix
  rw [hr]
  exact gen_swap (A := fun y => InTab tx y ∨ y ∈ rest.map pad) (Or.inl ⟨t, List.mem_of_getElem? h, rfl⟩) x

/-- .. and is nothing at last. -/
theorem mix_drop {tx : List (Option (List Int))} {r : List Int} {rest : List (List Int)} (hr : pad r = 1) (x : Pm) : Gen (Mix tx r rest) x ↔ Gen (Mix0 tx rest) x := by
  unfold Mix Mix0
  rw [hr]
  exact gen_drop x

theorem TabOk.put {n f b q : Nat} {tx : List (Option (List Int))} (h : TabOk n f tx) {r : List Int} (h1 : isRow r) (h2 : r.length = n) (hb : b < n) (hq : q < n) (hf : f ≤ b) (h3 : ∀ c, c < b → (pad r).act c = c) (h4 : (pad r).act b = q) : TabOk n f (tx.set (b * n + q) (some r)) := by
  intro k X hX
  rw [List.getElem?_set] at hX
  by_cases e : b * n + q = k
  · rw [if_pos e] at hX
    split at hX
    · injection hX with hX; injection hX with hX; subst hX
      exact ⟨h1, h2, b, q, e.symm, hb, hq, hf, h3, h4⟩
    · cases hX
  · rw [if_neg e] at hX
    exact h k X hX

/-- What the table holds, in order. -/
def outs (tx : List (Option (List Int))) : List (List Int) := tx.filterMap id

theorem outs_gen (tx : List (Option (List Int))) (x : Pm) : Gen (Mix0 tx []) x ↔ Gen (fun y => y ∈ (outs tx).map pad) x := by
  refine gen_congr (fun y => ?_) x
  unfold Mix0 InTab outs
  constructor
  · rintro (⟨X, hX, e⟩ | h1)
    · exact List.mem_map.2 ⟨X, List.mem_filterMap.2 ⟨_, hX, rfl⟩, e.symm⟩
    · cases h1
  · intro h1
    obtain ⟨X, hX, e⟩ := List.mem_map.1 h1
    obtain ⟨o, ho, e'⟩ := List.mem_filterMap.1 hX
    rw [show o = some X from e'] at ho
    exact Or.inl ⟨X, ho, e.symm⟩

theorem outs_snoc {tx : List (Option (List Int))} {k : Nat} {o : Option (List Int)} (h : tx[k]? = some o) : outs (tx.take (k + 1)) = outs (tx.take k) ++ o.toList := by
  unfold outs
  rw [List.take_add_one, h, List.filterMap_append]
  cases o <;> rfl

theorem outs_rows {n f : Nat} {tx : List (Option (List Int))} (h : TabOk n f tx) : RowsN n (outs tx) := by
  intro X hX
  obtain ⟨o, ho, e'⟩ := List.mem_filterMap.1 hX
  rw [show o = some X from e'] at ho
  obtain ⟨j, hj, ej⟩ := List.getElem_of_mem ho
  have := h j X (by rw [List.getElem?_eq_getElem hj, ej])
  exact ⟨this.row, this.len⟩

theorem outs_len (tx : List (Option (List Int))) : (outs tx).length ≤ tx.length := List.length_filterMap_le _ _

/-! the orbit -/

/-- What has been found: bells with what brings them to the place k. -/
structure Orbs (S : Pm → Prop) (n k : Nat) (T : List (Nat × Pm)) : Prop where
  nodup : (T.map (·.1)).Nodup
  first : (k, (1 : Pm)) ∈ T
  brings : ∀ e, e ∈ T → e.2.act k = e.1
  gen : ∀ e, e ∈ T → Gen S e.2
  lt : ∀ e, e ∈ T → e.1 < n

theorem Orbs.start {S : Pm → Prop} {n k : Nat} (hk : k < n) : Orbs S n k [(k, 1)] :=
  ⟨by simp, by simp, fun e he => by rw [List.mem_singleton.1 he]; exact Pm.act_one k, fun e he => by rw [List.mem_singleton.1 he]; exact Gen.one, fun e he => by rw [List.mem_singleton.1 he]; exact hk⟩

theorem Orbs.more {S : Pm → Prop} {n k : Nat} {T : List (Nat × Pm)} (h : Orbs S n k T) {s : Pm} (hs : S s) {e : Nat × Pm} (he : e ∈ T) (hl : s.act e.1 < n) (hn : ¬ s.act e.1 ∈ T.map (·.1)) : Orbs S n k (T ++ [(s.act e.1, s * e.2)]) := by
  refine ⟨?_, List.mem_append_left _ h.first, ?_, ?_, ?_⟩
  · rw [List.map_append, List.nodup_append]
    refine ⟨h.nodup, by simp, fun a ha b hb e' => hn ?_⟩
    have : b = s.act e.1 := by simpa using hb
    rw [← this, ← e']; exact ha
  all_goals
    intro x hx
    rcases List.mem_append.1 hx with hx | hx
  · exact h.brings x hx
  · rw [List.mem_singleton.1 hx]; show (s * e.2).act k = s.act e.1; rw [Pm.act_mul, h.brings e he]
  · exact h.gen x hx
  · rw [List.mem_singleton.1 hx]; exact Gen.mul hs (h.gen e he)
  · exact h.lt x hx
  · rw [List.mem_singleton.1 hx]; exact hl

theorem Orbs.len {S : Pm → Prop} {n k : Nat} {T : List (Nat × Pm)} (h : Orbs S n k T) : T.length ≤ n := by
  have := nodup_len (T.map (·.1)) (List.range n) h.nodup (fun b hb => by
    obtain ⟨e, he, rfl⟩ := List.mem_map.1 hb
    exact List.mem_range.2 (h.lt e he))
  rwa [List.length_map, List.length_range] at this

/-- All have been gone through. -/
def OrbsDone (S : Pm → Prop) (T : List (Nat × Pm)) : Prop := ∀ s, S s → ∀ e, e ∈ T → s.act e.1 ∈ T.map (·.1)

theorem Orbs.size {S G : Pm → Prop} {n k : Nat} {T : List (Nat × Pm)} (h : Orbs S n k T) (hd : OrbsDone S T) (hk : k < 12) (hG : ∀ x, Gen S x ↔ Low G k x) : T.length = oc G k := by
  have key : ∀ x, Gen S x → x.act k ∈ T.map (·.1) := by
    intro x hx
    induction hx with
    | one => rw [Pm.act_one]; exact List.mem_map.2 ⟨_, h.first, rfl⟩
    | @mul s y hs _ ih =>
      obtain ⟨e, he, e1⟩ := List.mem_map.1 ih
      rw [Pm.act_mul, ← e1]
      exact hd s hs e he
  have := oc_of (G := G) hk h.nodup (fun b => by
    constructor
    · intro hb
      obtain ⟨e, he, rfl⟩ := List.mem_map.1 hb
      exact ⟨e.2, (hG _).1 (h.gen e he), h.brings e he⟩
    · rintro ⟨x, hx, rfl⟩
      exact key x ((hG x).2 hx))
  rwa [List.length_map] at this

theorem Orbs.low {S G : Pm → Prop} {n k : Nat} {T : List (Nat × Pm)} (h : Orbs S n k T) (hd : OrbsDone S T) (hG : ∀ x, Gen S x ↔ Low G k x) (x : Pm) : Gen (Sch S T) x ↔ Low G (k + 1) x := by
  rw [schreier h.nodup h.first h.brings h.gen (fun s hs e he => by
    obtain ⟨e', he', e1⟩ := List.mem_map.1 (hd s hs e he)
    exact ⟨e', he', e1⟩) x, hG x, low_plus]

end Go.Proofs.Ytbddhpbeekioiaa
