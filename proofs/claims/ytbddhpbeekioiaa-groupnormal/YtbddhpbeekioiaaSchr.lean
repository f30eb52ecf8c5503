/- Plain: Schreier's lemma over lists; one row in another's place among generators; the size of a chain; contract: size. -/
import Derived.Test.YtbddhpbeekioiaaSzs
import Derived.Test.YtbddhpbeekioiaaMakeB
namespace Go.Proofs.Ytbddhpbeekioiaa
open Go.RowKit

/-- What leaves a place, told by what brings bells there. -/
def Sch (S : Pm → Prop) (T : List (Nat × Pm)) (y : Pm) : Prop := ∃ s, S s ∧ ∃ e, e ∈ T ∧ ∃ e', e' ∈ T ∧ e'.1 = s.act e.1 ∧ y = e'.2⁻¹ * (s * e.2)

theorem schreier {S : Pm → Prop} {T : List (Nat × Pm)} {k : Nat} (hn : (T.map (·.1)).Nodup) (h1 : (k, (1 : Pm)) ∈ T) (hb : ∀ e, e ∈ T → e.2.act k = e.1) (hG : ∀ e, e ∈ T → Gen S e.2) (hc : ∀ s, S s → ∀ e, e ∈ T → ∃ e', e' ∈ T ∧ e'.1 = s.act e.1) (x : Pm) :
    Gen (Sch S T) x ↔ Gen S x ∧ x.act k = k := by
  have hS : Sub (fun x => Gen S x ∧ x.act k = k) := (Gen.sub S).and ⟨Pm.act_one k, fun {x y} hx hy => by show (x * y).act k = k; rw [Pm.act_mul, hy, hx], fun {x} hx => by have hx : x.act k = k := hx; show x⁻¹.act k = k; rw [← hx, Pm.inv_act, hx]⟩
  have hsub : ∀ y, Gen (Sch S T) y → Gen S y ∧ y.act k = k := fun y hy => hy.least hS (fun z hz => by
    obtain ⟨s, hs, e, he, e', he', e1, rfl⟩ := hz
    refine ⟨Gen.mul' (Gen.inv (hG e' he')) (Gen.mul hs (hG e he)), ?_⟩
    show (e'.2⁻¹ * (s * e.2)).act k = k
    rw [Pm.act_mul, Pm.act_mul, hb e he, ← e1, ← hb e' he', Pm.inv_act])
  refine ⟨hsub x, fun hx => ?_⟩
  have key : ∀ y, Gen S y → ∃ e, e ∈ T ∧ ∃ h, Gen (Sch S T) h ∧ y = e.2 * h := by
    intro y hy
    induction hy with
    | one => exact ⟨_, h1, 1, Gen.one, by rw [Pm.mul_one]⟩
    | @mul s y hs _ ih =>
      obtain ⟨e, he, h, hh, rfl⟩ := ih
      obtain ⟨e', he', e1⟩ := hc s hs e he
      exact ⟨e', he', _, Gen.mul ⟨s, hs, e, he, e', he', e1, rfl⟩ hh, by rw [Pm.mul_assoc e'.2⁻¹, Pm.mul_inv_cancel, Pm.mul_assoc]⟩
  obtain ⟨e, he, h, hh, rfl⟩ := key x hx.1
  have hk := (hsub h hh).2
  have h2 : (e.2 * h).act k = k := hx.2
  rw [Pm.act_mul, hk, hb e he] at h2
  have e1 : e.2 = 1 := tab_eq hn (b := k) (by rw [← h2]; exact he) h1
  rw [e1, Pm.one_mul]; exact hh

/-- A row among generators may be changed by one of the others. -/
theorem gen_swap {A : Pm → Prop} {t r : Pm} (ht : A t) (x : Pm) : Gen (fun y => A y ∨ y = r) x ↔ Gen (fun y => A y ∨ y = t⁻¹ * r) x := by
  constructor
  · refine fun h => h.least (Gen.sub _) (fun y hy => ?_)
    rcases hy with hy | hy
    · exact Gen.of (Or.inl hy)
    · have h1 : Gen (fun y => A y ∨ y = t⁻¹ * r) (t * (t⁻¹ * r)) := Gen.mul (Or.inl ht) (Gen.of (Or.inr rfl))
      rw [Pm.mul_inv_cancel] at h1
      rw [hy]; exact h1
  · refine fun h => h.least (Gen.sub _) (fun y hy => ?_)
    rcases hy with hy | rfl
    · exact Gen.of (Or.inl hy)
    · exact Gen.mul' (Gen.inv (Gen.of (Or.inl ht))) (Gen.of (Or.inr rfl))

theorem gen_drop {A : Pm → Prop} (x : Pm) : Gen (fun y => A y ∨ y = 1) x ↔ Gen A x := by
  constructor
  · refine fun h => h.least (Gen.sub _) (fun y hy => ?_)
    rcases hy with hy | rfl
    · exact Gen.of hy
    · exact Gen.one
  · exact fun h => h.mono (fun y hy => Or.inl hy)

theorem Chained.sz {w : World} {B g n : Nat} {C : List Lk} {st : Nat → St} {gs : List Pm} (h : Chained w B g n (List.range n) C st gs) (h12 : n ≤ 12) : tabs C = sz (Gen (fun y => y ∈ gs)) n := by
  have e := sz_tabs (G := Gen (fun y => y ∈ gs)) C 0 _ h.whole (by rw [h.bases, h.len]; simp) (by rw [h.len]; omega) (fun x => by
    rw [h.gen x]
    exact ⟨fun hx => ⟨hx, fun b hb => by omega⟩, fun hx => hx.1⟩)
  rw [h.len, Nat.zero_add] at e
  rw [e]
  show tabs C = 1 * tabs C
  rw [Nat.one_mul]

theorem sz_le (G : Pm → Prop) (n : Nat) : sz G n ≤ 12 ^ n := by
  induction n with
  | zero => exact Nat.le_refl _
  | succ n ih =>
    have : oc G n ≤ 12 := by
      have := nodup_len (orbL G n) (List.range 12) (orbL_nodup G n) (fun b hb => by unfold orbL at hb; exact (List.mem_filter.1 hb).1)
      rw [List.length_range] at this
      exact this
    show sz G n * oc G n ≤ 12 ^ (n + 1)
    rw [Nat.pow_succ]
    exact Nat.mul_le_mul ih this

end Go.Proofs.Ytbddhpbeekioiaa
