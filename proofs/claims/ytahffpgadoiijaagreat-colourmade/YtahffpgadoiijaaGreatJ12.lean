/- Joined: ExI, KoM, KoO, KoQ, StC, KoR, KoS, KoT. -/
import Derived.Test.YtahffpgadoiijaaGreatJ11
import Derived.Test.YtahffpgadoiijaaGreatJ6
import Derived.Test.YtahffpgadoiijaaGreatJ0
import Derived.Shelf.Spec.SlicesInsertGrow
/- Plain: RANKIN: how many circuits there are, even or odd. -/
namespace Go.Proofs.YtahffpgadoiijaaGreat

theorem odd_take (l : List (List Int)) : ∀ j, j ≤ l.length → ((l.take j).flatten.length + j + (if oddTo l j = true then 1 else 0)) % 2 = 0
  | 0, _ => by simp [oddTo]
  | j + 1, hj => by
    have ih := odd_take l j (by omega)
    have hg : l[j]? = some l[j] := List.getElem?_eq_getElem (by omega)
    have e1 : (l.take (j + 1)).flatten.length = (l.take j).flatten.length + (l.getD j []).length := by
      rw [List.take_add_one, hg, List.flatten_append, List.length_append, List.getD, hg]
      simp
    have e2 : oddTo l (j + 1) = if (l.getD j []).length % 2 = 0 then !(oddTo l j) else oddTo l j := rfl
    rw [e1, e2]
    generalize (l.take j).flatten.length = s at *
    generalize (l.getD j []).length = c at *
    clear e1 e2 hg
    cases hb : oddTo l j <;> rw [hb] at ih <;> by_cases h : c % 2 = 0
    · rw [if_pos h]; simp at ih ⊢; omega
    · rw [if_neg h]; simp at ih ⊢; omega
    · rw [if_pos h]; simp at ih ⊢; omega
    · rw [if_neg h]; simp at ih ⊢; omega

theorem flat_count {r : List Int} (hr : isRow r) : (cycsTo r r.length).flatten.length = r.length := by
  have h1 := cyc_nodup hr r.length (Nat.le_refl _)
  have h2 : ((List.range r.length).map (fun i => ((i : Nat) : Int))).Nodup := nodup_mapI _ (fun a b h => by omega) _ List.nodup_range
  have h3 := len_same _ _ h1 h2 (fun x => ?_)
  · rw [h3]; simp
  · rw [List.mem_map]
    constructor
    · intro hx
      obtain ⟨C, hC, hxC⟩ := List.mem_flatten.1 hx
      obtain ⟨y, hy, rfl⟩ := cyc_form hC
      obtain ⟨j, hj, e⟩ := mem_orb.1 hxC
      exact ⟨it r j y, List.mem_range.2 (it_lt hr hy j), e.symm⟩
    · rintro ⟨i, hi, rfl⟩
      exact flat_all hr r.length (Nat.le_refl _) i (List.mem_range.1 hi)

theorem odd_count {r : List Int} (hr : isRow r) : (r.length + (cycsTo r r.length).length + (if odd r = true then 1 else 0)) % 2 = 0 := by
  have h := odd_take (cycsTo r r.length) _ (Nat.le_refl _)
  rw [List.take_length, flat_count hr] at h
  exact h

theorem odd_pw {r : List Int} (hr : isRow r) : ∀ k, odd (pw r k) = (decide (k % 2 = 1) && odd r)
  | 0 => by
    have e : pw r 0 = rnd r.length := pw_rnd.2 (fun x _ => rfl)
    rw [e, odd_rnd]; rfl
  | k + 1 => by
    rw [← pw_succ hr k, odd_by (isRow_pw hr k) hr (by rw [pw_length]), odd_pw hr k]
    rcases Nat.mod_two_eq_zero_or_one k with h | h
    · rw [show (k + 1) % 2 = 1 by omega, h]; cases odd r <;> rfl
    · rw [show (k + 1) % 2 = 0 by omega, h]; cases odd r <;> rfl

theorem odd_none {r : List Int} (hr : isRow r) {o : Nat} (ho : o % 2 = 1) (h : pw r o = rnd r.length) : odd r = false := by
  have h1 := odd_pw hr o
  rw [h, odd_rnd, ho] at h1
  simpa using h1.symm

/-- Powers. -/
noncomputable def pwP (p : Pm) : Nat → Pm
  | 0 => 1
  | k + 1 => p * pwP p k

theorem pwP_comm (p : Pm) : ∀ k, p * pwP p k = pwP p k * p
  | 0 => by show p * 1 = 1 * p; rw [Pm.mul_one, Pm.one_mul]
  | k + 1 => by show p * (p * pwP p k) = p * pwP p k * p; rw [Pm.mul_assoc, ← pwP_comm p k]

theorem pwP_add (p : Pm) (i : Nat) : ∀ j, pwP p (i + j) = pwP p i * pwP p j
  | 0 => by show pwP p i = pwP p i * 1; rw [Pm.mul_one]
  | j + 1 => by
    show p * pwP p (i + j) = pwP p i * (p * pwP p j)
    rw [pwP_add p i j, ← Pm.mul_assoc, pwP_comm, Pm.mul_assoc]

theorem pwP_inv (p : Pm) : ∀ k, pwP p⁻¹ k = (pwP p k)⁻¹
  | 0 => by show (1 : Pm) = 1⁻¹; rw [Pm.inv_one]
  | k + 1 => by
    show p⁻¹ * pwP p⁻¹ k = (p * pwP p k)⁻¹
    rw [pwP_inv p k, pwP_comm, Pm.inv_prod]

theorem it_cut {n : Nat} (h12 : n ≤ 12) {p : Pm} (hf : Fixes (fun b => n ≤ b) p) {x : Nat} (hx : x < n) : ∀ k, it (cut n p) k x = (pwP p k).act x
  | 0 => by show x = (1 : Pm).act x; rw [Pm.act_one]
  | k + 1 => by
    show nx (cut n p) (it (cut n p) k x) = (p * pwP p k).act x
    rw [it_cut h12 hf hx k, Pm.act_mul]
    have hlt : (pwP p k).act x < n := by
      rw [← it_cut h12 hf hx k]
      have := it_lt (cut_row h12 hf) (x := x) (by rw [cut_length h12]; exact hx) k
      rwa [cut_length h12] at this
    unfold nx
    rw [cut_get p h12 hlt]
    exact Int.toNat_natCast _

theorem pwP_fix {n : Nat} {p : Pm} (hf : Fixes (fun b => n ≤ b) p) : ∀ k, Fixes (fun b => n ≤ b) (pwP p k)
  | 0 => (fixes_sub _).one
  | k + 1 => (fixes_sub _).mul hf (pwP_fix hf k)

theorem pwP_ord {n : Nat} (h12 : n ≤ 12) {p : Pm} (hf : Fixes (fun b => n ≤ b) p) : pwP p (ord (cut n p)) = 1 := by
  have h := pw_rnd.1 ((ord_pw (cut_row h12 hf) (ord (cut n p))).2 (Nat.dvd_refl _))
  rw [cut_length h12] at h
  refine Pm.ext' (fun b _ => ?_)
  rw [Pm.act_one]
  rcases Nat.lt_or_ge b n with hb | hb
  · rw [← it_cut h12 hf hb]; exact h b hb
  · exact pwP_fix hf _ b hb

/-- From a row by a change, again and again. -/
theorem it_mv {X : List Pm} (hn : X.Nodup) {a : Pm} (hc : Cls X a) {r : Nat} {p : Pm} (hr : X[r]? = some p) : ∀ k, p * pwP a k ∈ X ∧ it (mv X a) k r = ix X (p * pwP a k)
  | 0 => by
    show p * 1 ∈ X ∧ r = ix X (p * 1)
    rw [Pm.mul_one]
    exact ⟨List.mem_of_getElem? hr, (ix_of hn hr).symm⟩
  | k + 1 => by
    obtain ⟨h1, h2⟩ := it_mv hn hc hr k
    have e : p * pwP a (k + 1) = p * pwP a k * a := by
      show p * (a * pwP a k) = _
      rw [pwP_comm, Pm.mul_assoc]
    rw [e]
    refine ⟨hc _ h1, ?_⟩
    show nx (mv X a) (it (mv X a) k r) = _
    rw [h2, mv_nx (ix_get h1)]

/-- A cycle is as long as the row's powers are many. -/
theorem per_mv {n : Nat} {G : Pm → Prop} {X : List Pm} (hR : Rws n G X) {a : Pm} (ha : G a) {r : Nat} (hr : r < X.length) : pwP a (per (mv X a) r) = 1 ∧ ∀ q, 1 ≤ q → q < per (mv X a) r → pwP a q ≠ 1 := by
  have hp : X[r]? = some X[r] := List.getElem?_eq_getElem hr
  have hI := it_mv hR.nodup (hR.cls ha) hp
  obtain ⟨_, _, p3, p4⟩ := per_spec (mv_row hR.nodup (hR.cls ha)) (x := r) (by rw [mv_length]; exact hr)
  constructor
  · have h9 := (hI (per (mv X a) r)).2
    rw [p3] at h9
    have h8 := ix_get (hI (per (mv X a) r)).1
    rw [← h9, hp] at h8
    have e := Option.some.inj h8
    have := congrArg (fun z => X[r]⁻¹ * z) e
    simp only [Pm.inv_mul, Pm.inv_mul_cancel] at this
    exact this.symm
  · intro q h1 h2 e
    refine p4 q h1 h2 ?_
    rw [(hI q).2, e, Pm.mul_one]
    exact ix_of hR.nodup hp

theorem sz_pow {n : Nat} (h12 : n ≤ 12) {a : Pm} (hf : Fixes (fun b => n ≤ b) a) {q : Nat} (hq : 1 ≤ q) (h1 : pwP a q = 1) (h2 : ∀ i, 1 ≤ i → i < q → pwP a i ≠ 1) : sz (Gen (fun y => y ∈ [a])) n = q := by
  have hnd : ((List.range q).map (pwP a)).Nodup := by
    rw [List.Nodup, List.pairwise_map]
    have key : ∀ i j, i < j → j < q → pwP a i ≠ pwP a j := fun i j hij hj e => by
      have e2 : pwP a j = pwP a i * pwP a (j - i) := by rw [← pwP_add]; congr 1; omega
      rw [e2] at e
      have := congrArg (fun z => (pwP a i)⁻¹ * z) e
      simp only [Pm.inv_mul, Pm.inv_mul_cancel] at this
      exact h2 (j - i) (by omega) (by omega) this.symm
    refine List.Pairwise.imp_of_mem (fun {i j} hi hj h e => ?_) (List.pairwise_lt_range (n := q))
    exact key i j h (List.mem_range.1 hj) e
  have hm : ∀ x, x ∈ (List.range q).map (pwP a) ↔ Gen (fun y => y ∈ [a]) x := fun x => by
    rw [List.mem_map]
    constructor
    · rintro ⟨i, _, rfl⟩
      have : ∀ i, Gen (fun y => y ∈ [a]) (pwP a i) := fun i => by
        induction i with
        | zero => exact Gen.one
        | succ i ih => exact Gen.mul (by simp) ih
      exact this i
    · intro hx
      induction hx with
      | one => exact ⟨0, List.mem_range.2 (by omega), rfl⟩
      | mul hs _ ih =>
        obtain ⟨i, hi, rfl⟩ := ih
        rw [List.mem_singleton.1 hs]
        have hi' := List.mem_range.1 hi
        by_cases e : i + 1 = q
        · exact ⟨0, List.mem_range.2 (by omega), by show (1 : Pm) = pwP a (i + 1); rw [e, h1]⟩
        · exact ⟨i + 1, List.mem_range.2 (by omega), rfl⟩
  have := sz_is (Gen.sub (fun y => y ∈ [a])) h12 (fun x hx => hx.least (fixes_sub _) (fun s hs => by rw [List.mem_singleton.1 hs]; exact hf)) hnd hm
  rw [← this]; simp

theorem flat_same {q : Nat} : ∀ (l : List (List Int)), (∀ c, c ∈ l → c.length = q) → l.flatten.length = l.length * q
  | [], _ => by simp
  | c :: l, h => by
    rw [List.flatten_cons, List.length_append, h c List.mem_cons_self, flat_same l (fun d hd => h d (List.mem_cons_of_mem _ hd)), List.length_cons, Nat.succ_mul, Nat.add_comm]

/-- How many circuits x alone makes. -/
theorem plain_count {n : Nat} {G : Pm → Prop} {X : List Pm} (hR : Rws n G X) {a : Pm} (ha : G a) : (cycsTo (mv X a) X.length).length * sz (Gen (fun y => y ∈ [a])) n = X.length := by
  have hrow := mv_row hR.nodup (hR.cls ha)
  have hml := mv_length X a
  have h0 := hR.pos
  have hper : ∀ r, r < X.length → per (mv X a) r = sz (Gen (fun y => y ∈ [a])) n := fun r hr => by
    obtain ⟨p1, _, _, _⟩ := per_spec hrow (x := r) (by rw [hml]; exact hr)
    obtain ⟨h1, h2⟩ := per_mv hR ha hr
    exact (sz_pow hR.twelve (hR.fix a ha) p1 h1 h2).symm
  have hfl := flat_count hrow
  rw [hml] at hfl
  rw [← flat_same (cycsTo (mv X a) X.length) (q := sz (Gen (fun y => y ∈ [a])) n) (fun c hc => by
    obtain ⟨y, hy, rfl⟩ := cyc_form hc
    rw [orb_length, hper y hy]), hfl]

/-- What turns the chosen sets about. -/
theorem turn_by {n : Nat} {G : Pm → Prop} {X : List Pm} (hR : Rws n G X) {a b : Pm} (ha : G a) (hb : G b) (A : List (List Int)) (cs : List Int) : by_ (mv X a) (nxL X 1 (b * a⁻¹) A cs) = nxL X a b A cs := by
  refine ext_getD (by rw [by_length, nxL_length, nxL_length]) (fun r hr => ?_)
  rw [by_length, nxL_length] at hr
  have hp : X[r]? = some X[r] := List.getElem?_eq_getElem hr
  have hm : (X[r] * if chc A cs r = 1 then b * a⁻¹ else 1) ∈ X := by
    refine hR.cls ?_ _ (List.mem_of_getElem? hp)
    split
    · exact hR.sub.mul hb (hR.sub.inv ha)
    · exact hR.sub.one
  rw [nxL_get hp]
  have e1 : (by_ (mv X a) (nxL X 1 (b * a⁻¹) A cs)).getD r 0 = (mv X a).getD (ix X (X[r] * if chc A cs r = 1 then b * a⁻¹ else 1)) 0 := by
    have h9 := nxL_get (a := 1) (b := b * a⁻¹) (A := A) (cs := cs) hp
    have hl : r < (nxL X 1 (b * a⁻¹) A cs).length := by rw [nxL_length]; exact hr
    rw [List.getD, List.getElem?_eq_getElem hl] at h9
    have h8 : (nxL X 1 (b * a⁻¹) A cs)[r] = _ := h9
    unfold by_
    rw [List.getD, List.getElem?_map, List.getElem?_eq_getElem hl, h8]
    rfl
  rw [e1, List.getD, mv_get (ix_get hm)]
  show ((ix X _ : Nat) : Int) = _
  congr 2
  split
  · rw [Pm.mul_assoc, Pm.mul_assoc, Pm.inv_mul, Pm.mul_one]
  · rw [Pm.mul_one]

theorem qs_turn (X : List Pm) (a b : Pm) : qs X 1 (b * a⁻¹) = qs X a b := by
  unfold qs
  rw [Pm.one_mul, Pm.inv_prod, Pm.inv_inv]

theorem turn_it {n : Nat} {G : Pm → Prop} {X : List Pm} (hR : Rws n G X) {a b : Pm} (ha : G a) (hb : G b) (cs : List Int) {r : Nat} {p : Pm} (hr : X[r]? = some p) : ∀ k, (p * if chc (qs X a b) cs r = 1 then pwP (b * a⁻¹) k else 1) ∈ X ∧ chc (qs X a b) cs (it (nxL X 1 (b * a⁻¹) (qs X a b) cs) k r) = chc (qs X a b) cs r ∧ it (nxL X 1 (b * a⁻¹) (qs X a b) cs) k r = ix X (p * if chc (qs X a b) cs r = 1 then pwP (b * a⁻¹) k else 1)
  | 0 => by
    have e : (p * if chc (qs X a b) cs r = 1 then pwP (b * a⁻¹) 0 else 1) = p := by
      split
      · show p * 1 = p; exact Pm.mul_one p
      · exact Pm.mul_one p
    rw [e]
    exact ⟨List.mem_of_getElem? hr, rfl, (ix_of hR.nodup hr).symm⟩
  | k + 1 => by
    obtain ⟨h1, h2, h3⟩ := turn_it hR ha hb cs hr k
    have hG : G (b * a⁻¹) := hR.sub.mul hb (hR.sub.inv ha)
    by_cases hc : chc (qs X a b) cs r = 1
    · rw [if_pos hc] at h1 h3 ⊢
      rw [hc] at h2
      have e : p * pwP (b * a⁻¹) (k + 1) = p * pwP (b * a⁻¹) k * (b * a⁻¹) := by
        show p * (b * a⁻¹ * pwP (b * a⁻¹) k) = _
        rw [pwP_comm, Pm.mul_assoc]
      have hm : p * pwP (b * a⁻¹) k * (b * a⁻¹) ∈ X := hR.cls hG _ h1
      have e2 : it (nxL X 1 (b * a⁻¹) (qs X a b) cs) (k + 1) r = ix X (p * pwP (b * a⁻¹) k * (b * a⁻¹)) := by
        show nx (nxL X 1 (b * a⁻¹) (qs X a b) cs) (it (nxL X 1 (b * a⁻¹) (qs X a b) cs) k r) = _
        rw [h3, nxL_nx (ix_get h1), ← h3, h2, if_pos rfl]
      rw [e]
      refine ⟨hm, ?_, e2⟩
      have hS := qs_sts hR ha hb
      have e3 : nx (mv X (a * b⁻¹)) (ix X (p * pwP (b * a⁻¹) k * (b * a⁻¹))) = ix X (p * pwP (b * a⁻¹) k) := by
        rw [mv_nx (ix_get hm)]
        congr 1
        rw [Pm.mul_assoc, Pm.mul_assoc b, ← Pm.mul_assoc a⁻¹, Pm.inv_mul, Pm.one_mul, Pm.mul_inv, Pm.mul_one]
      have e4 := hS.next_sof (r := ix X (p * pwP (b * a⁻¹) k * (b * a⁻¹))) (ix_lt hm)
      rw [e3, ← h3] at e4
      rw [e2, hc]
      have h5 : chc (qs X a b) cs (it (nxL X 1 (b * a⁻¹) (qs X a b) cs) k r) = 1 := h2
      unfold chc at h5 ⊢
      rw [← e4]; exact h5
    · rw [if_neg hc] at h1 h3 ⊢
      rw [Pm.mul_one] at h1 h3 ⊢
      have e2 : it (nxL X 1 (b * a⁻¹) (qs X a b) cs) (k + 1) r = ix X p := by
        show nx (nxL X 1 (b * a⁻¹) (qs X a b) cs) (it (nxL X 1 (b * a⁻¹) (qs X a b) cs) k r) = _
        rw [h3, nxL_nx (ix_get h1), ← h3, h2, if_neg hc, Pm.mul_one]
        exact h3.symm
      refine ⟨h1, ?_, e2⟩
      rw [e2, ix_of hR.nodup hr]

/-- RANKIN. -/
theorem rankin {n : Nat} {G : Pm → Prop} {X : List Pm} (hR : Rws n G X) {a b : Pm} (ha : G a) (hb : G b) (cs : List Int) {o : Nat} (ho : o % 2 = 1) (hpow : pwP (a * b⁻¹) o = 1) : (cycsTo (nxL X a b (qs X a b) cs) X.length).length % 2 = (cycsTo (mv X a) X.length).length % 2 := by
  have hG : G (b * a⁻¹) := hR.sub.mul hb (hR.sub.inv ha)
  have hT : isRow (nxL X 1 (b * a⁻¹) (qs X a b) cs) := by
    have h9 := nxL_row hR hR.sub.one hG cs
    rw [qs_turn] at h9
    exact h9
  have hp2 : pwP (b * a⁻¹) o = 1 := by
    have e : b * a⁻¹ = (a * b⁻¹)⁻¹ := by rw [Pm.inv_prod, Pm.inv_inv]
    rw [e, pwP_inv, hpow, Pm.inv_one]
  have hpw : pw (nxL X 1 (b * a⁻¹) (qs X a b) cs) o = rnd (nxL X 1 (b * a⁻¹) (qs X a b) cs).length := by
    refine pw_rnd.2 (fun r hr => ?_)
    rw [nxL_length] at hr
    have hp : X[r]? = some X[r] := List.getElem?_eq_getElem hr
    rw [(turn_it hR ha hb cs hp o).2.2, hp2, ite_self, Pm.mul_one]
    exact ix_of hR.nodup hp
  have h1 := odd_none hT ho hpw
  have hma := mv_row hR.nodup (hR.cls ha)
  have h2 := odd_by hma hT (by rw [nxL_length, mv_length])
  rw [turn_by hR ha hb, h1] at h2
  have h3 := odd_count (nxL_row hR ha hb cs)
  have h4 := odd_count hma
  rw [nxL_length] at h3
  rw [mv_length] at h4
  rw [h2] at h3
  cases ho2 : odd (mv X a) <;> rw [ho2] at h3 h4 <;> simp at h3 h4 <;> omega

end Go.Proofs.YtahffpgadoiijaaGreat

/- Contracts: how many cycles of which lengths: colour.lengths and the answer's. -/
namespace Go.Proofs.YtahffpgadoiijaaGreat
open Go.RowKit

/-- How many cycles of each length, of the first so many. -/
def klTo (r : List Int) (j : Nat) : List Nat := (List.range r.length).map (fun i => (((cycsTo r r.length).take j).map List.length).count (i + 1))

def kl (r : List Int) : List Nat := klTo r (cycsTo r r.length).length

theorem klTo_length (r : List Int) (j : Nat) : (klTo r j).length = r.length := by unfold klTo; simp

theorem klTo_get {r : List Int} {j i : Nat} (hi : i < r.length) : (klTo r j).getD i 0 = (((cycsTo r r.length).take j).map List.length).count (i + 1) := by
  unfold klTo; simp [List.getD, hi]

theorem klTo_succ {r : List Int} {j i : Nat} {x : List Int} (hx : (cycsTo r r.length)[j]? = some x) (hi : i < r.length) : (klTo r (j + 1)).getD i 0 = (klTo r j).getD i 0 + if x.length = i + 1 then 1 else 0 := by
  rw [klTo_get hi, klTo_get hi, List.take_add_one, hx, List.map_append, List.count_append]
  congr 1
  show List.count (i + 1) [x.length] = _
  by_cases e : x.length = i + 1
  · rw [if_pos e, e]; simp
  · rw [if_neg e]; simp [e]

theorem klTo_le (r : List Int) (j i : Nat) : (klTo r j).getD i 0 ≤ r.length := by
  by_cases hi : i < r.length
  · rw [klTo_get hi]
    refine Nat.le_trans List.count_le_length ?_
    rw [List.length_map, List.length_take]
    have := cycsTo_length r r.length
    omega
  · rw [List.getD, List.getElem?_eq_none (by rw [klTo_length]; omega)]; exact Nat.zero_le _

theorem klTo_set {r : List Int} {j : Nat} {x : List Int} {zs : List Int} {q : Nat} (hx : (cycsTo r r.length)[j]? = some x) (hq : x.length = q + 1) (hql : q < r.length) (hz : zs = natI (klTo r j)) : zs.set q ((((klTo r j).getD q 0 + 1 : Nat)) : Int) = natI (klTo r (j + 1)) := by
  subst hz
  refine ext_getD (by rw [List.length_set, natI_length, natI_length, klTo_length, klTo_length]) (fun i hi => ?_)
  rw [List.length_set, natI_length, klTo_length] at hi
  rw [getD_set (by rw [natI_length, klTo_length]; exact hql), natI_getD, natI_getD, klTo_succ hx hi]
  by_cases e : q = i
  · subst e; rw [if_pos rfl, if_pos hq]
  · rw [if_neg e, if_neg (by omega)]; rfl

theorem cell_same {w w' : World} {b j : Nat} (h : w'.heap[b]? = w.heap[b]?) : w'.cell? ⟨b, j, none⟩ = w.cell? ⟨b, j, none⟩ := by simp only [World.cell?, h]

set_option maxRecDepth 20000 in
set_option maxHeartbeats 4000000 in
theorem lengths_ok (v : Value) (r : List Int) (w : World) (hI : Ints w v r) (hr : isRow r) (h1 : 1 ≤ r.length) (h12 : r.length ≤ 12) :
    Calls Tryz.prog 30 #[v] w fun e w' => ∃ u, e = .returned u ∧ w'.ownsRow w.heap.size 3 1 u r.length ((natI (kl r)).map (Value.int .i64)) ∧ Below w.heap.size w w' := by
  obtain ⟨j0, hji, hjz0, hjz1, hjz2⟩ := info_parts Tryz.info3
  have HCy : Hid (∀ W, Below w.heap.size w W → Calls Tryz.prog 59 #[v] W fun e w' => ∃ v vs D, e = .returned (.tuple #[v, .int .i64 0]) ∧ w'.ownsRow D 22 1 v vs.length vs ∧ OwnAll w' D vs (cycsTo r r.length) ∧ W.heap.size ≤ D ∧ Below W.heap.size W w') := fun W hb => cycles_ok v r W (hI.below hb) hr h1 h12
  have HL := hide (cycsTo_len hr r.length (Nat.le_refl _))
  have HCL := hide (cycsTo_length r r.length)
  have HCP : Hid (1 ≤ (cycsTo r r.length).length) := by
    have := cycsTo_pos r (r.length - 1)
    rw [show r.length - 1 + 1 = r.length by omega] at this
    exact this
  have HSet : Hid (∀ j x zs q, (cycsTo r r.length)[j]? = some x → x.length = q + 1 → q < r.length → zs = natI (klTo r j) → zs.set q ((((klTo r j).getD q 0 + 1 : Nat)) : Int) = natI (klTo r (j + 1))) := fun j x zs q a b c d => klTo_set a b c d
  have HLe : Hid (∀ j i, (klTo r j).getD i 0 ≤ r.length) := klTo_le r
  have HZ0 : Hid (List.replicate r.length (0 : Int) = natI (klTo r 0)) := ext_getD (by rw [List.length_replicate, natI_length, klTo_length]) (fun i hi => by
    rw [List.length_replicate] at hi
    rw [natI_getD, klTo_get hi, List.getD, List.getElem?_replicate, if_pos hi]
    simp)
  have HK : Hid (klTo r (cycsTo r r.length).length = kl r) := rfl
  have HKl : Hid (∀ j, (natI (klTo r j)).length = r.length) := fun j => by rw [natI_length, klTo_length]
  obtain ⟨p0, c0, e0⟩ := hI.form
  subst e0
  generalize hC : cycsTo r r.length = C at *
  generalize hn : r.length = n at *
  clear hI hr hn hC
  go_enter Tryz.func30, Tryz.ntmps30
  go_wp2_with (at_make; refine wpList_make_full _ rfl _ _ 22 rfl w.heap.size 3 j0 (.int .i64 0) 1 Tryz.underlying22 hji hjz0 hjz1 _ _ _ _ n rfl rfl (by omega) (by omega) ?b2 ?b3 (Nat.le_refl _) ?_)
  case b2 => rw [hjz2]; omega
  case b3 => unfold maxLen; omega
  intro w1 hown1 hg1
  rw [made_ints, HZ0.out] at hown1
  have HB1 : Hid (Below w.heap.size w w1) := (Below.refl _ _).grown hg1 (Nat.le_refl _) (fun k h => by cases h)
  have HO1 := hide hown1
  clear hown1 hg1
  have HC1 := hide (HCy.out w1 HB1.out)
  go_wp2_with fail
  refine HC1.out.mono ?_
  rintro e w2 ⟨vc, vs, D, rfl, hrow, hall, hD, hb2⟩
  have HO2 := hide (owns_below HO1.out hb2 (Nat.le_refl _))
  have HB2 := hide (HB1.out.trans (hb2.mono HB1.out.size))
  have HLt : Hid (w.heap.size < w1.heap.size) := (World.ownsRow.lt HO1.out w.heap.size rfl).2
  have HI2 := hide (IntsAll.own hrow hall)
  obtain ⟨bc, oc, cc, ec, hc1, hc2, hc3, hc4⟩ := HI2.out.cell HCP.out
  subst ec
  have HC4 := hide hc4
  have hbcw : w.heap.size < bc := by have h9 := (World.ownsRow.lt hrow bc rfl).1; have h8 := HLt.out; omega
  have hCl := HCL.out
  generalize hcl : C.length = cl at *
  have HCLn := hide hcl
  clear hrow hall hb2 HO1 HB1 HC1 hc4 hcl HI2
  go_wp2
  go_loopw [18] (fun si wr => ∃ (j : Nat) (zs : List Int), j ≤ cl ∧ si = .int .i64 (j : Int) ∧ Hid (zs = natI (klTo r j)) ∧ Hid (wr.ownsRow w.heap.size 3 1 (.slice (some ⟨w.heap.size, 0, none⟩) n n) n (zs.map (Value.int .i64))) ∧ Hid (Frm w2.heap.size w.heap.size w.heap.size w2 wr) ∧ Below w.heap.size w wr) (fun si _ => cl - (intOf si).toNat)
  case atStart => exact ⟨0, _, Nat.zero_le _, rfl, rfl, HO2, Frm.refl _ _ _ _, HB2.out⟩
  case round =>
    clear HO2 HB2
    obtain ⟨j, zs, hj, rfl, hZ, hO, hb2, hbm⟩ := hrel
    by_cases hlt : j < cl
    · have hjC : j < C.length := by rw [HCLn.out]; exact hlt
      have hx : C[j]? = some C[j] := List.getElem?_eq_getElem hjC
      have hxD : C.getD j [] = C[j] := by rw [List.getD, hx]; rfl
      obtain ⟨px, cx, hcx, _⟩ := HC4.out j hlt
      rw [hxD] at hcx
      have hxl := HL.out C[j] (List.getElem_mem hjC)
      obtain ⟨q, hq⟩ : ∃ q, C[j].length = q + 1 := ⟨C[j].length - 1, by omega⟩
      have hqn : q < n := by omega
      have hcx' := (cell_same (hb2.out.block bc hc1 (by omega) (by omega)) (j := oc + j)).trans hcx
      rw [hq] at hcx'
      have hcast : (((q + 1 : Nat)) : Int) = (q : Int) + 1 := by omega
      have hqI : (((q + 1 : Nat)) : Int) - 1 = (q : Int) := by omega
      obtain ⟨y, hy⟩ : ∃ y, y = (klTo r j).getD q 0 := ⟨_, rfl⟩
      have hyl := HLe.out j q
      rw [← hy] at hyl
      obtain ⟨hcy, hfy⟩ := owns_cell hO.out hqn
      rw [hZ.out, natI_getD, ← hy] at hcy
      have HOs := hide (owns_set_int (m := q) hO.out ((y : Int) + 1))
      have HZ2 : Hid (zs.set q ((y : Int) + 1) = natI (klTo r (j + 1))) := by
        have h9 := HSet.out j C[j] zs q hx hq hqn hZ.out
        rw [← hy] at h9
        show _ = _
        rw [← h9]
        rfl
      have hFr := hb2.out.set q (.int .i64 ((y : Int) + 1))
      have HFr := hide hFr
      clear hy hx hxD hxl hq hO hZ hcx hFr hb2
      go_wp2
      go_roundw
      case rel =>
        have hfin : ∃ (j' : Nat) (zs : List Int), j' ≤ cl ∧ Value.int .i64 ((j : Int) + 1) = .int .i64 (j' : Int) ∧ Hid (zs = natI (klTo r j')) ∧ Hid ((wr.setCell ⟨w.heap.size, q, none⟩ (.int .i64 ((y : Int) + 1))).ownsRow w.heap.size 3 1 (.slice (some ⟨w.heap.size, 0, none⟩) n n) n (zs.map (Value.int .i64))) ∧ Hid (Frm w2.heap.size w.heap.size w.heap.size w2 (wr.setCell ⟨w.heap.size, q, none⟩ (.int .i64 ((y : Int) + 1)))) ∧ Below w.heap.size w (wr.setCell ⟨w.heap.size, q, none⟩ (.int .i64 ((y : Int) + 1))) := ⟨j + 1, _, hlt, by go_num, HZ2, HOs, HFr, hbm.setCell (Nat.le_refl _) _⟩
        first
          | exact hfin
          | ((repeat apply Exists.intro); exact ⟨hfin, rfl⟩)
      case measure => simp [intOf]; omega
    · obtain rfl : cl = j := by omega
      have HOc : Hid (wr.ownsRow w.heap.size 3 1 (.slice (some ⟨w.heap.size, 0, none⟩) n n) n ((natI (kl r)).map (Value.int .i64))) := by rw [← HK.out, ← hZ.out]; exact hO.out
      clear hO hZ
      go_wp2
      go_ret
      exact ⟨_, rfl, HOc.out, hbm⟩

end Go.Proofs.YtahffpgadoiijaaGreat

/- Plain: how many colourings a row leaves, by its cycles' lengths; BURNSIDE for all colourings and for those with so many places of each colour. -/
namespace Go.Proofs.YtahffpgadoiijaaGreat

/-- A row's cycles, as places. -/
def cyN (r : List Int) : List (List Nat) := (cycsTo r r.length).map (fun L => L.map Int.toNat)

theorem cyN_len (r : List Int) : (cyN r).map List.length = (cycsTo r r.length).map List.length := by
  unfold cyN
  rw [List.map_map]
  exact List.map_congr_left (fun L _ => List.length_map _)

theorem flat_natI (r : List Int) : (cycsTo r r.length).flatten = natI (cyN r).flatten := by
  unfold cyN natI
  rw [← List.map_flatten, List.map_map]
  have : ∀ x, x ∈ (cycsTo r r.length).flatten → ((fun (k : Nat) => (k : Int)) ∘ Int.toNat) x = x := fun x hx => by
    obtain ⟨C, hC, hxC⟩ := List.mem_flatten.1 hx
    obtain ⟨y, hy, rfl⟩ := cyc_form hC
    obtain ⟨j, hj, rfl⟩ := mem_orb.1 hxC
    show ((((it r j y : Nat) : Int).toNat : Nat) : Int) = _
    rw [Int.toNat_natCast]
  rw [List.map_congr_left this]
  simp

theorem cyN_form {r : List Int} {L : List Nat} (h : L ∈ cyN r) : ∃ y, y < r.length ∧ L = (List.range (per r y)).map (fun j => it r j y) := by
  unfold cyN at h
  obtain ⟨C, hC, rfl⟩ := List.mem_map.1 h
  obtain ⟨y, hy, rfl⟩ := cyc_form hC
  refine ⟨y, hy, ?_⟩
  unfold orb
  rw [List.map_map]
  exact List.map_congr_left (fun j _ => Int.toNat_natCast _)

theorem prts_row {r : List Int} (hr : isRow r) : Prts r.length (cyN r) (nx r) := by
  have hmem : ∀ i, i ∈ (cyN r).flatten ↔ i < r.length := fun i => by
    rw [← natI_mem, ← flat_natI r]
    constructor
    · intro hx
      obtain ⟨C, hC, hxC⟩ := List.mem_flatten.1 hx
      obtain ⟨y, hy, rfl⟩ := cyc_form hC
      obtain ⟨j, hj, e⟩ := mem_orb.1 hxC
      have := it_lt hr hy j
      omega
    · intro hi
      exact flat_all hr r.length (Nat.le_refl _) i hi
  refine ⟨fun L hL => ?_, ?_, hmem, fun L hL i hi => ?_, fun L hL f hf i hi j hj => ?_⟩
  · obtain ⟨y, hy, rfl⟩ := cyN_form hL
    have := (per_spec hr hy).1
    intro e
    have h9 := congrArg List.length e
    rw [List.length_map, List.length_range] at h9
    simp at h9
    omega
  · have h1 := cyc_nodup hr r.length (Nat.le_refl _)
    rw [flat_natI r] at h1
    unfold natI at h1
    rw [List.Nodup, List.pairwise_map] at h1
    exact h1.imp (fun h e => h (by rw [e]))
  · obtain ⟨y, hy, rfl⟩ := cyN_form hL
    obtain ⟨j, hj, rfl⟩ := List.mem_map.1 hi
    have hj' := List.mem_range.1 hj
    obtain ⟨p1, _, p3, _⟩ := per_spec hr hy
    rw [List.mem_map]
    by_cases e : j + 1 = per r y
    · refine ⟨0, List.mem_range.2 (by omega), ?_⟩
      show y = it r (j + 1) y
      rw [e, p3]
    · exact ⟨j + 1, List.mem_range.2 (by omega), rfl⟩
  · obtain ⟨y, hy, rfl⟩ := cyN_form hL
    obtain ⟨a, _, rfl⟩ := List.mem_map.1 hi
    obtain ⟨b, _, rfl⟩ := List.mem_map.1 hj
    have key : ∀ t, f (it r t y) = f y := fun t => by
      induction t with
      | zero => rfl
      | succ t ih => exact (hf _ (it_lt hr hy t)).trans ih
    show f (it r a y) = f (it r b y)
    rw [key, key]

/-! the lengths, the shortest first -/

theorem count_lsUp (K : List Nat) (v : Nat) : ∀ i, (lsUp K i).count v = if 1 ≤ v ∧ v ≤ i then K.getD (v - 1) 0 else 0
  | 0 => by rw [if_neg (by omega)]; rfl
  | i + 1 => by
    rw [lsUp_succ, List.count_append, count_lsUp K v i, List.count_replicate]
    by_cases e : v = i + 1
    · subst e
      rw [if_neg (by omega), if_pos (by simp), if_pos (by omega), Nat.zero_add, Nat.add_sub_cancel]
    · have e' : ((i + 1) == v) = false := by simpa using fun h : i + 1 = v => e h.symm
      rw [e', if_neg (show ¬ (false = true) by decide), Nat.add_zero]
      by_cases h : 1 ≤ v ∧ v ≤ i
      · rw [if_pos h, if_pos (by omega)]
      · rw [if_neg h, if_neg (by omega)]

theorem kl_length (r : List Int) : (kl r).length = r.length := klTo_length r _

theorem kl_get {r : List Int} {i : Nat} (hi : i < r.length) : (kl r).getD i 0 = ((cycsTo r r.length).map List.length).count (i + 1) := by
  unfold kl
  rw [klTo_get hi, List.take_length]

theorem kl_perm {r : List Int} (hr : isRow r) : ((cyN r).map List.length).Perm (lsUp (kl r) r.length) := by
  rw [cyN_len, List.perm_iff_count]
  intro v
  rw [count_lsUp]
  by_cases h : 1 ≤ v ∧ v ≤ r.length
  · rw [if_pos h, kl_get (by omega), show v - 1 + 1 = v by omega]
  · rw [if_neg h, List.count_eq_zero]
    intro hv
    obtain ⟨C, hC, e⟩ := List.mem_map.1 hv
    have := cycsTo_len hr r.length (Nat.le_refl _) C hC
    omega

theorem kl_sum {r : List Int} (hr : isRow r) : (lsUp (kl r) r.length).length = (cycsTo r r.length).length := by
  rw [← (kl_perm hr).length_eq, List.length_map]
  unfold cyN
  rw [List.length_map]

/-- All that is left as it is. -/
theorem left_all {n c : Nat} {r : List Int} (hr : isRow r) (hl : r.length = n) (hc : 1 ≤ c) : (List.range (c ^ n)).countP (fun k => stp n c r k == k) = c ^ (cycsTo r r.length).length := by
  subst hl
  have h := (prts_row hr).left (c := c) rfl hc (fun _ => true)
  have e1 : (fun k => (stp r.length c r k == k) && true) = (fun k => stp r.length c r k == k) := by funext k; exact Bool.and_true _
  rw [e1] at h
  rw [h, show (fun _ : List Nat => true) = fun _ => true from rfl, List.countP_true, asg_length]
  unfold cyN
  rw [List.length_map]

/-- Has a colouring so many places of each colour? -/
def qMany (many : List Nat) (P : List Nat) : Bool := (List.range many.length).all (fun j => P.countP (fun x => x == j) == many.getD j 0)

theorem left_many {n : Nat} {many : List Nat} {r : List Int} (hr : isRow r) (hl : r.length = n) (hc : 1 ≤ many.length) :
    (List.range (many.length ^ n)).countP (fun k => (stp n many.length r k == k) && qMany many (colD n many.length k)) = Wn many.length (lsUp (kl r) n) (fun j => many.getD j 0) := by
  subst hl
  have H := prts_row hr
  rw [H.left rfl hc (qMany many), ← Wn_perm (kl_perm hr), ← Wn_count, List.length_map]
  rw [List.countP_eq_length_filter, List.countP_eq_length_filter]
  congr 1
  refine List.filter_congr (fun A hA => ?_)
  unfold qMany vfit
  congr 1
  funext j
  rw [H.count (mem_asg.1 hA).1 j]

theorem qMany_trn {n : Nat} {many : List Nat} {P : List Nat} {r : List Int} (hP : P.length = n) (hr : isRow r) (hl : r.length = n) : qMany many (trn P r) = qMany many P := by
  have hp : (trn P r).Perm P := by
    have h1 : (trn P r).Perm (trn P (rnd n)) := by
      unfold trn
      refine List.Perm.map _ ?_
      have := row_perm_rnd hr
      rwa [hl] at this
    have h2 : trn P (rnd n) = P := by
      refine List.ext_getElem? (fun i => ?_)
      unfold trn rnd
      rw [List.map_map, List.getElem?_map]
      by_cases hi : i < n
      · rw [List.getElem?_range hi, Option.map_some]
        show some (P.getD ((i : Nat) : Int).toNat 0) = _
        rw [Int.toNat_natCast, List.getD, List.getElem?_eq_getElem (by omega)]
        rfl
      · rw [List.getElem?_eq_none (by rw [List.length_range]; omega), List.getElem?_eq_none (by omega)]
        rfl
    rw [h2] at h1
    exact h1
  unfold qMany
  congr 1
  funext j
  rw [hp.countP_eq]

/-- BURNSIDE: all colourings. -/
theorem burn_all {n c : Nat} {G : Pm → Prop} {X : List Pm} (h12 : n ≤ 12) (hc : 1 ≤ c) (hG : Sub G) (hf : ∀ x, G x → Fixes (fun b => n ≤ b) x) (hX : X.Nodup) (hm : ∀ x, x ∈ X ↔ G x) :
    (X.map (fun x => c ^ (cycsTo (cut n x) n).length)).sum = ((List.range (c ^ n)).filter (frst X (sC n c))).length * X.length := by
  have HA := acts_all h12 hc hG hf hX hm (O := List.range (c ^ n)) List.nodup_range (fun k hk => List.mem_range.1 hk) (fun x k hx _ => List.mem_range.2 (stp_lt hc (cut_length h12 x)))
  rw [← HA.burnside]
  refine lsum_congr (fun x hx => ?_)
  have h9 := left_all (c := c) (cut_row h12 (hf x ((hm x).1 hx))) (cut_length h12 x) hc
  rw [cut_length h12 x] at h9
  exact h9.symm

/-- BURNSIDE: those with so many places of each colour. -/
theorem burn_many {n : Nat} {many : List Nat} {G : Pm → Prop} {X : List Pm} (h12 : n ≤ 12) (hc : 1 ≤ many.length) (hG : Sub G) (hf : ∀ x, G x → Fixes (fun b => n ≤ b) x) (hX : X.Nodup) (hm : ∀ x, x ∈ X ↔ G x) :
    (X.map (fun x => Wn many.length (lsUp (kl (cut n x)) n) (fun j => many.getD j 0))).sum = ((List.range (many.length ^ n)).countP (fun k => frst X (sC n many.length) k && qMany many (colD n many.length k))) * X.length := by
  have HA := acts_all h12 hc hG hf hX hm (O := (List.range (many.length ^ n)).filter (fun k => qMany many (colD n many.length k))) (List.nodup_range.filter _) (fun k hk => List.mem_range.1 (List.mem_filter.1 hk).1) (fun x k hx hk => by
    rw [List.mem_filter] at hk ⊢
    refine ⟨List.mem_range.2 (stp_lt hc (cut_length h12 x)), ?_⟩
    unfold sC
    rw [colD_stp hc (cut_length h12 x), qMany_trn (colD_length _ _ _) (cut_row h12 (hf x hx)) (cut_length h12 x)]
    exact hk.2)
  have h1 := HA.burnside
  rw [List.filter_filter, ← List.countP_eq_length_filter] at h1
  rw [← h1]
  refine lsum_congr (fun x hx => ?_)
  rw [List.countP_filter]
  exact (left_many (cut_row h12 (hf x ((hm x).1 hx))) (cut_length h12 x) hc).symm

end Go.Proofs.YtahffpgadoiijaaGreat

/- Plain: kinds: lists in order, with how often each comes. -/
namespace Go.Proofs.YtahffpgadoiijaaGreat

/-! kinds: lists in order, with how often each comes -/

/-- Kinds: lists and how often each comes. -/
abbrev Kds := List (List Nat × Nat)

/-- One list is ahead of another. -/
def nlt (a b : List Nat) : Prop := lcmp (natI a) (natI b) < 0

theorem nlt_irrefl (a : List Nat) : ¬ nlt a a := by unfold nlt; rw [lcmp_self]; omega

theorem nlt_trans {a b c : List Nat} (h1 : nlt a b) (h2 : nlt b c) : nlt a c := lcmp_trans _ _ _ h1 h2

theorem lcmp_zero : ∀ {a b : List Int}, lcmp a b = 0 → a = b
  | [], [], _ => rfl
  | [], _ :: _, h => absurd h (by show ¬ ((-1 : Int) = 0); decide)
  | _ :: _, [], h => absurd h (by show ¬ ((1 : Int) = 0); decide)
  | x :: xs, y :: ys, h => by
    rw [lcmp_cons] at h
    by_cases h1 : x < y
    · rw [if_pos h1] at h; omega
    · rw [if_neg h1] at h
      by_cases h2 : y < x
      · rw [if_pos h2] at h; omega
      · rw [if_neg h2] at h
        rw [lcmp_zero h, show x = y by omega]

theorem lcmp_tri : ∀ (a b : List Int), lcmp a b < 0 ∨ a = b ∨ lcmp b a < 0
  | [], [] => Or.inr (Or.inl rfl)
  | [], _ :: _ => Or.inl (by show (-1 : Int) < 0; decide)
  | _ :: _, [] => Or.inr (Or.inr (by show (-1 : Int) < 0; decide))
  | x :: xs, y :: ys => by
    rw [lcmp_cons, lcmp_cons]
    by_cases h1 : x < y
    · rw [if_pos h1]; exact Or.inl (by decide)
    · by_cases h2 : y < x
      · rw [if_neg h1, if_pos h2, if_pos h2]; exact Or.inr (Or.inr (by decide))
      · rw [if_neg h1, if_neg h2, if_neg h2, if_neg h1]
        rcases lcmp_tri xs ys with h | h | h
        · exact Or.inl h
        · exact Or.inr (Or.inl (by rw [h, show x = y by omega]))
        · exact Or.inr (Or.inr h)

theorem natI_inj {a b : List Nat} (h : natI a = natI b) : a = b := by
  have key : ∀ (l : List Nat), (natI l).map Int.toNat = l := fun l => by
    unfold natI
    rw [List.map_map]
    exact (List.map_congr_left (fun x _ => Int.toNat_natCast x)).trans (List.map_id l)
  rw [← key a, h, key b]

theorem nlt_tri (a b : List Nat) : nlt a b ∨ a = b ∨ nlt b a := by
  rcases lcmp_tri (natI a) (natI b) with h | h | h
  · exact Or.inl h
  · exact Or.inr (Or.inl (natI_inj h))
  · exact Or.inr (Or.inr h)

/-- Kinds of some lists: in order, all there are, each with how often it comes. -/
structure KOk (K : Kds) (L : List (List Nat)) : Prop where
  sorted : K.Pairwise (fun a b => nlt a.1 b.1)
  mem : ∀ c, c ∈ K.map (·.1) ↔ c ∈ L
  many : ∀ p, p ∈ K → p.2 = L.count p.1

theorem KOk.nil : KOk [] [] := ⟨List.Pairwise.nil, fun c => by simp, fun p hp => by cases hp⟩

theorem KOk.form {K : Kds} {L : List (List Nat)} (h : KOk K L) : K = (K.map (·.1)).map (fun c => (c, L.count c)) := by
  rw [List.map_map]
  refine (List.ext_getElem? (fun i => ?_))
  rw [List.getElem?_map]
  cases e : K[i]? with
  | none => rfl
  | some p =>
    have := h.many p (List.mem_of_getElem? e)
    show some p = some (p.1, L.count p.1)
    rw [← this]

theorem KOk.nodup {K : Kds} {L : List (List Nat)} (h : KOk K L) : (K.map (·.1)).Nodup := by
  refine List.pairwise_map.2 (h.sorted.imp ?_)
  intro a b hab e
  rw [e] at hab
  exact nlt_irrefl b.1 hab

theorem KOk.unique {K K' : Kds} {L L' : List (List Nat)} (h : KOk K L) (h' : KOk K' L') (hp : L.Perm L') : K = K' := by
  have hk : K.map (·.1) = K'.map (·.1) := by
    have h1 : (K.map (·.1)).Pairwise nlt := List.pairwise_map.2 h.sorted
    have h2 : (K'.map (·.1)).Pairwise nlt := List.pairwise_map.2 h'.sorted
    have hpm : (K.map (·.1)).Perm (K'.map (·.1)) := (List.perm_ext_iff_of_nodup h.nodup h'.nodup).2 (fun a => by rw [h.mem, h'.mem]; exact hp.mem_iff)
    exact hpm.eq_of_pairwise (fun a b _ _ h1 h2 => absurd (nlt_trans h1 h2) (nlt_irrefl a)) h1 h2
  rw [h.form, h'.form, hk]
  refine List.map_congr_left (fun c _ => ?_)
  rw [hp.count_eq]

/-- What is summed over kinds is summed over all. -/
theorem KOk.sum {K : Kds} {L : List (List Nat)} (h : KOk K L) (f : List Nat → Nat) : (K.map (fun p => p.2 * f p.1)).sum = (L.map f).sum := by
  have key : ∀ (S M : List (List Nat)), S.Nodup → (∀ c, c ∈ M → c ∈ S) → (S.map (fun c => M.count c * f c)).sum = (M.map f).sum := by
    intro S M hS
    induction M with
    | nil => intro _; rw [lsum_zero _ _ (fun x _ => by simp)]; rfl
    | cons x M ih =>
      intro hm
      have e : (S.map (fun c => (x :: M).count c * f c)).sum = (S.map (fun c => M.count c * f c + (if c = x then f c else 0))).sum := by
        refine lsum_congr (fun c _ => ?_)
        rw [List.count_cons]
        by_cases hx : c = x
        · subst hx; simp [Nat.add_mul]
        · rw [if_neg hx, if_neg (by simpa using fun e : x = c => hx e.symm), Nat.add_zero, Nat.add_zero]
      rw [e, lsum_add, ih (fun c hc => hm c (List.mem_cons_of_mem _ hc)), lsum_one (fun c => if c = x then f c else 0) S hS x (hm x List.mem_cons_self) (fun y _ hy => if_neg hy), if_pos rfl, List.map_cons, List.sum_cons, Nat.add_comm]
  have e1 : (K.map (fun p => p.2 * f p.1)).sum = ((K.map (·.1)).map (fun c => L.count c * f c)).sum := by
    rw [List.map_map]
    exact lsum_congr (fun p hp => by show _ = L.count p.1 * f p.1; rw [← h.many p hp])
  rw [e1]
  exact key _ _ h.nodup (fun c hc => (h.mem c).2 hc)

theorem KOk.total {K : Kds} {L : List (List Nat)} (h : KOk K L) : (K.map (·.2)).sum = L.length := by
  have := h.sum (fun _ => 1)
  rw [show (fun p : List Nat × Nat => p.2 * (fun _ => 1) p.1) = (·.2) from by funext p; exact Nat.mul_one _] at this
  rw [this, lsum_const (fun _ => 1) L 1 (fun _ _ => rfl), Nat.mul_one]

theorem KOk.len {K : Kds} {L : List (List Nat)} (h : KOk K L) : K.length ≤ L.length := by
  have h1 : (K.map (·.1)).length ≤ L.length := h.nodup.length_le_of_subset (fun c hc => (h.mem c).1 hc)
  rwa [List.length_map] at h1

/-- Where a list stands, or would stand. -/
structure Spot (K : Kds) (c : List Nat) (j : Nat) : Prop where
  le : j ≤ K.length
  lo : ∀ i p, K[i]? = some p → i < j → nlt p.1 c
  hi : ∀ i p, K[i]? = some p → j ≤ i → ¬ nlt p.1 c

theorem KOk.again {K : Kds} {L : List (List Nat)} {c : List Nat} {j m : Nat} (h : KOk K L) (hj : K[j]? = some (c, m)) : KOk (K.set j (c, m + 1)) (L ++ [c]) := by
  have hjl : j < K.length := (List.getElem?_eq_some_iff.1 hj).1
  have hm := h.many _ (List.mem_of_getElem? hj)
  have hf : (K.set j (c, m + 1)).map (·.1) = K.map (·.1) := by
    rw [List.map_set]
    refine List.ext_getElem? (fun i => ?_)
    rw [List.getElem?_set]
    split
    · next e => subst e; rw [List.getElem?_map, hj, if_pos (by rw [List.length_map]; exact hjl)]; rfl
    · rfl
  refine ⟨?_, fun d => ?_, fun p hp => ?_⟩
  · have h1 : ((K.set j (c, m + 1)).map (·.1)).Pairwise nlt := by rw [hf]; exact List.pairwise_map.2 h.sorted
    exact List.pairwise_map.1 h1
  · rw [hf, h.mem, List.mem_append, List.mem_singleton]
    constructor
    · exact Or.inl
    · rintro (h1 | rfl)
      · exact h1
      · exact (h.mem _).1 (List.mem_map.2 ⟨_, List.mem_of_getElem? hj, rfl⟩)
  · obtain ⟨i, hi⟩ := List.getElem?_of_mem hp
    rw [List.count_append]
    by_cases e : j = i
    · subst e
      rw [List.getElem?_set_self hjl] at hi
      injection hi with hi
      subst hi
      show m + 1 = L.count c + List.count c [c]
      rw [show m = L.count c from hm, List.count_singleton_self]
    · rw [List.getElem?_set_ne e] at hi
      rw [← h.many p (List.mem_of_getElem? hi), List.count_eq_zero_of_not_mem (l := [c]), Nat.add_zero]
      rw [List.mem_singleton]
      intro e2
      have h1 := h.nodup
      have a1 : (K.map (·.1))[i]? = some c := by rw [List.getElem?_map, hi, ← e2]; rfl
      have a2 : (K.map (·.1))[j]? = some c := by rw [List.getElem?_map, hj]; rfl
      have := (List.getElem?_inj (i := i) (j := j) (by rw [List.length_map]; exact (List.getElem?_eq_some_iff.1 hi).1) h1).1 (a1.trans a2.symm)
      omega

theorem KOk.fresh {K : Kds} {L : List (List Nat)} {c : List Nat} {j : Nat} (h : KOk K L) (hs : Spot K c j) (hn : ∀ m, K[j]? ≠ some (c, m)) : KOk (K.take j ++ (c, 1) :: K.drop j) (L ++ [c]) := by
  have hno : c ∉ K.map (·.1) := fun hc => by
    obtain ⟨p, hp, e⟩ := List.mem_map.1 hc
    obtain ⟨i, hi⟩ := List.getElem?_of_mem hp
    have hil : i < K.length := (List.getElem?_eq_some_iff.1 hi).1
    rcases Nat.lt_or_ge i j with h1 | h1
    · exact nlt_irrefl c (by have := hs.lo i p hi h1; rwa [e] at this)
    · by_cases h2 : i = j
      · subst h2
        exact hn p.2 (by rw [hi, ← e])
      · obtain ⟨q, hq⟩ : ∃ q, K[j]? = some q := ⟨_, List.getElem?_eq_getElem (by omega)⟩
        have h3 := hs.hi j q hq (Nat.le_refl _)
        have h4 : nlt q.1 p.1 := by
          have hjl : j < K.length := (List.getElem?_eq_some_iff.1 hq).1
          have := List.pairwise_iff_getElem.1 h.sorted j i hjl hil (by omega)
          rw [(List.getElem?_eq_some_iff.1 hq).2, (List.getElem?_eq_some_iff.1 hi).2] at this
          exact this
        rw [e] at h4
        exact h3 h4
  have hno' : c ∉ L := fun hc => hno ((h.mem c).2 hc)
  have hd : ∀ p, p ∈ K.drop j → nlt c p.1 := fun p hp => by
    obtain ⟨i, hi⟩ := List.getElem?_of_mem hp
    rw [List.getElem?_drop] at hi
    rcases nlt_tri c p.1 with h1 | h1 | h1
    · exact h1
    · exact absurd (List.mem_map.2 ⟨p, List.mem_of_getElem? hi, h1.symm⟩) hno
    · exact absurd h1 (hs.hi _ p hi (Nat.le_add_right _ _))
  have ht : ∀ p, p ∈ K.take j → nlt p.1 c := fun p hp => by
    obtain ⟨i, hi⟩ := List.getElem?_of_mem hp
    rw [List.getElem?_take] at hi
    split at hi
    · exact hs.lo i p hi (by assumption)
    · cases hi
  have hpm : (K.take j ++ (c, 1) :: K.drop j).Perm ((c, 1) :: K) := by
    refine List.perm_middle.trans ?_
    rw [List.take_append_drop]
  refine ⟨?_, fun d => ?_, fun p hp => ?_⟩
  · rw [List.pairwise_append]
    have hp := h.sorted
    rw [← List.take_append_drop j K, List.pairwise_append] at hp
    refine ⟨hp.1, List.pairwise_cons.2 ⟨fun p h9 => hd p h9, hp.2.1⟩, fun a ha b hb => ?_⟩
    rcases List.mem_cons.1 hb with rfl | hb
    · exact ht a ha
    · exact hp.2.2 a ha b hb
  · rw [(hpm.map _).mem_iff, List.map_cons, List.mem_cons, h.mem, List.mem_append, List.mem_singleton]
    exact Or.comm
  · have hp' := hpm.mem_iff.1 hp
    rw [List.count_append]
    rcases List.mem_cons.1 hp' with rfl | hp'
    · show 1 = L.count c + List.count c [c]
      rw [List.count_eq_zero_of_not_mem hno', List.count_singleton_self]
    · rw [← h.many p hp', List.count_eq_zero_of_not_mem (l := [c]), Nat.add_zero]
      rw [List.mem_singleton]
      intro e
      exact hno (List.mem_map.2 ⟨p, hp', e⟩)

end Go.Proofs.YtahffpgadoiijaaGreat

/- Several cells of a row are set. -/
namespace Go.Proofs.YtahffpgadoiijaaGreat
open Go.RowKit

theorem heap_setCell_row {w : World} {g o : Nat} {cur : Array Value} {e : TypeId} {v : Value} (h : w.heap[g]? = some (.cells cur e)) : (w.setCell ⟨g, o, none⟩ v).heap[g]? = some (.cells (cur.setIfInBounds o v) e) := by
  simp [World.setCell, Array.getElem?_modify, h]

theorem heap_setCells_row (g : Nat) (e : TypeId) : ∀ (vs : List Value) (o : Nat) (w : World) (cur : Array Value), w.heap[g]? = some (.cells cur e) → o + vs.length ≤ cur.size →
    (w.setCells g o vs).heap[g]? = some (.cells (cur.toList.take o ++ vs ++ cur.toList.drop (o + vs.length)).toArray e)
  | [], o, w, cur, h, _ => by
    show w.heap[g]? = _
    rw [h]
    simp
  | v :: vs, o, w, cur, h, hl => by
    have hl' : o + 1 + vs.length ≤ (cur.setIfInBounds o v).size := by simp at hl ⊢; omega
    have ho : o < cur.toList.length := by simp at hl ⊢; omega
    have := heap_setCells_row g e vs (o + 1) (w.setCell ⟨g, o, none⟩ v) (cur.setIfInBounds o v) (heap_setCell_row h) hl'
    show ((w.setCell ⟨g, o, none⟩ v).setCells g (o + 1) vs).heap[g]? = _
    rw [this, Array.toList_setIfInBounds]
    congr 3
    rw [List.drop_set_of_lt (by omega), List.take_set, List.take_succ_eq_append_getElem ho, List.set_append_right _ _ (by simp; omega)]
    simp only [List.length_take, List.append_assoc, List.length_cons]
    rw [show o - min o cur.toList.length = 0 from by omega]
    simp only [List.set_cons_zero, List.nil_append, List.cons_append]
    rw [show o + (vs.length + 1) = o + 1 + vs.length from by omega]

theorem heap_setCells_off (g : Nat) : ∀ (vs : List Value) (o : Nat) (w : World) (k : Nat), k ≠ g → (w.setCells g o vs).heap[k]? = w.heap[k]?
  | [], _, _, _, _ => rfl
  | v :: vs, o, w, k, hk => by
    show ((w.setCell ⟨g, o, none⟩ v).setCells g (o + 1) vs).heap[k]? = _
    rw [heap_setCells_off g vs (o + 1) _ k hk]
    have hg : g ≠ k := fun h => hk h.symm
    simp [World.setCell, Array.getElem?_modify, hg]

theorem size_setCells' (g : Nat) : ∀ (vs : List Value) (o : Nat) (w : World), (w.setCells g o vs).heap.size = w.heap.size
  | [], _, _ => rfl
  | v :: vs, o, w => by
    show ((w.setCell ⟨g, o, none⟩ v).setCells g (o + 1) vs).heap.size = _
    rw [size_setCells' g vs (o + 1) _]
    simp [World.setCell]

theorem rest_setCells (g : Nat) : ∀ (vs : List Value) (o : Nat) (w : World), (w.setCells g o vs).os = w.os ∧ (w.setCells g o vs).tape = w.tape ∧ (w.setCells g o vs).output = w.output
  | [], _, _ => ⟨rfl, rfl, rfl⟩
  | v :: vs, o, w => rest_setCells g vs (o + 1) (w.setCell ⟨g, o, none⟩ v)

theorem map_get_some {zs : List Int} {j : Nat} {u : Value} (h : (zs.map (Value.int .i64))[j]? = some u) : j < zs.length ∧ u = .int .i64 (zs.getD j 0) := by
  rw [List.getElem?_map] at h
  cases hz : zs[j]? with
  | none => rw [hz] at h; cases h
  | some z =>
    rw [hz] at h
    have hj : j < zs.length := (List.getElem?_eq_some_iff.1 hz).1
    refine ⟨hj, ?_⟩
    simp only [List.getD, hz, Option.getD_some]
    simpa using h.symm

theorem owns_setCells {w : World} {base e g n cap o : Nat} {xs vs : List Value} (h : w.ownsRow base e 1 (.slice (some ⟨g, 0, none⟩) n cap) n xs) (ho : o + vs.length ≤ n) :
    (w.setCells g o vs).ownsRow base e 1 (.slice (some ⟨g, 0, none⟩) n cap) n (xs.take o ++ vs ++ xs.drop (o + vs.length)) := by
  obtain ⟨h1, h2⟩ := h
  refine ⟨by simp at h1 ⊢; omega, ?_⟩
  rcases h2 with ⟨h2, _⟩ | ⟨g', cap', cur, hv, hb, hh, hn, hx, hs, ht⟩
  · cases h2
  · injection hv with e1 _ e3
    injection e1 with e1
    injection e1 with e1
    subst e1; subst e3
    have hl : cur.toList.length = cap := by simp; omega
    refine Or.inr ⟨g, cap, _, rfl, hb, heap_setCells_row g e vs o w cur hh (by omega), hn, hx, by simp; omega, ?_⟩
    rw [← ht, List.toList_toArray, Nat.mul_one]
    apply List.ext_getElem?
    intro j
    by_cases hj : j < n
    · rw [List.getElem?_take_of_lt hj]
      rcases Nat.lt_or_ge j o with hjo | hjo
      · rw [List.append_assoc, List.append_assoc, List.getElem?_append_left (by simp; omega), List.getElem?_append_left (by simp; omega), List.getElem?_take_of_lt hjo, List.getElem?_take_of_lt hjo, List.getElem?_take_of_lt hj]
      · rcases Nat.lt_or_ge j (o + vs.length) with hjv | hjv
        · have key : ∀ (A B : List Value), A.length = o → (A ++ vs ++ B)[j]? = vs[j - o]? := fun A B hA => by
            rw [List.getElem?_append_left (by simp; omega), List.getElem?_append_right (by omega), hA]
          rw [key _ _ (by simp; omega), key _ _ (by simp; omega)]
        · have key : ∀ (A B : List Value), A.length = o → (A ++ vs ++ B)[j]? = B[j - (o + vs.length)]? := fun A B hA => by
            rw [List.getElem?_append_right (by simp; omega)]
            congr 1
            simp; omega
          rw [key _ _ (by simp; omega), key _ _ (by simp; omega), List.getElem?_drop, List.getElem?_drop, List.getElem?_take_of_lt (by omega)]
    · rw [List.getElem?_eq_none (by simp; omega), List.getElem?_eq_none (by simp; omega)]

theorem cbelow_setCells {B g : Nat} {a w : World} (h : Below B a w) (hB : B ≤ g) (o : Nat) (vs : List Value) : Below B a (w.setCells g o vs) := by
  have r := rest_setCells g vs o w
  refine h.trans ⟨r.1, r.2.1, r.2.2, by rw [size_setCells']; exact Nat.le_refl _, fun k hk => heap_setCells_off g vs o w k (by omega)⟩

/-- copy onto a row of the call's own. -/
theorem run_copy_row {t t' : TypeId} (ht : Tryz.prog.underlying t = some (.slice 3)) {w : World} {base g n cap o dl dc sl sc : Nat} {zs cs : List Int} {a : Addr} (hown : w.ownsRow base 3 1 (.slice (some ⟨g, 0, none⟩) n cap) n (zs.map (Value.int .i64)))
    (hcs : ∀ j, j < cs.length → w.cell? (a.add j) = some (.int .i64 (cs.getD j 0))) (hlen : cs.length = Nat.min sl dl) (hfit : o + cs.length ≤ n) (ty : TypeId) :
    (Builtin.copy_ #[t, t'] ty #[.slice (some ⟨g, o, none⟩) dl dc, .slice (some a) sl sc]).run Tryz.prog w = .ok (goInt cs.length) (w.setCells g o (cs.map (Value.int .i64))) := by
  obtain ⟨i0, hi, hz0, hz1, hz2⟩ := info_parts Tryz.info3
  have := run_copy_cells (P := Tryz.prog) w t t' ty 3 g o dl dc a sl sc (cs.map (Value.int .i64)) ht (by rw [hi]; simp [hz1]) (by rw [List.length_map]; exact hlen)
    (fun j v hj => by obtain ⟨h1, rfl⟩ := map_get_some hj; exact hcs j h1)
    (fun j hj => by rw [List.length_map] at hj; rw [(owns_cell hown (by omega)).1]; rfl)
    (fun j hj => by rw [List.length_map] at hj; exact (owns_cell hown (by omega)).2)
    (fun v hv => by obtain ⟨z, _, rfl⟩ := List.mem_map.1 hv; rfl)
  rw [List.length_map] at this
  exact this

theorem owns_setCells_int {w : World} {base e g n cap o : Nat} {zs cs : List Int} (h : w.ownsRow base e 1 (.slice (some ⟨g, 0, none⟩) n cap) n (zs.map (Value.int .i64))) (ho : o + cs.length ≤ n) :
    (w.setCells g o (cs.map (Value.int .i64))).ownsRow base e 1 (.slice (some ⟨g, 0, none⟩) n cap) n ((zs.take o ++ cs ++ zs.drop (o + cs.length)).map (Value.int .i64)) := by
  have := owns_setCells h (o := o) (vs := cs.map (Value.int .i64)) (by rw [List.length_map]; exact ho)
  rw [List.length_map] at this
  rw [List.map_append, List.map_append, List.map_take, List.map_drop]
  exact this

end Go.Proofs.YtahffpgadoiijaaGreat

/- Contract: slices.Insert of one kind into kinds of the call's own. -/
namespace Go.Proofs.YtahffpgadoiijaaGreat
open Go.RowKit Go.Lib
set_option maxRecDepth 20000
set_option linter.unusedVariables false

theorem Tryz.info58 : (Tryz.prog.info? 58).map (fun i => (i.zero, i.size, i.bytes)) = some (some (.agg #[.slice none 0 0, .int .i64 0]), 2, 32) := by kernel_rfl

theorem owns_sliceK {w : World} {base e size n : Nat} {v : Value} {xs : List Value} (h : w.ownsRow base e size v n xs) : ∃ p cap, v = .slice p n cap := by
  rcases h.2 with ⟨rfl, h0⟩ | ⟨g, cap, cur, rfl, _⟩
  · exact ⟨none, 0, by rw [h0]⟩
  · exact ⟨_, cap, rfl⟩

/-- copy of elements of several cells. -/
theorem run_copy_cellsK {P : Program} (w : World) (dT sT ty elem : TypeId) (k b o dLen dCap : Nat) (a : Addr) (sLen sCap : Nat) (cs : List Value)
    (hu : P.underlying dT = some (.slice elem)) (hs : (P.info? elem).map (·.size) = some k) (hn : cs.length = Nat.min sLen dLen * k)
    (hsrc : ∀ j v, cs[j]? = some v → w.cell? (a.add j) = some v) (hc : ∀ j, j < cs.length → (w.cell? ⟨b, o + j, none⟩).isSome = true) (hf : ∀ j, j < cs.length → w.frozen? ⟨b, o + j, none⟩ = false) (h1 : ∀ v ∈ cs, v.oneCell' = true) :
    (Builtin.copy_ #[dT, sT] ty #[.slice (some ⟨b, o, none⟩) dLen dCap, .slice (some a) sLen sCap]).run P w = .ok (goInt (Nat.min sLen dLen)) (w.setCells b o cs) := by
  have hl := run_loadCells_list (P := P) w a cs hsrc
  have hst := run_storeCells_cells (P := P) b o cs 0 w (by simpa using hc) (by simpa using hf) h1
  cases hq : P.info? elem with
  | none => simp [hq] at hs
  | some i =>
    have hi : i.size = k := by simpa [hq] using hs
    simp [Builtin.copy_, run_underlying hu, Builtin.lenOf, Builtin.firstCells, sizeOf, typeInfo, hq, hi, ← hn, hl, hst]

/-- What Insert leaves. -/
def InsKPost (base : Nat) (pv : Value) (k : Nat) (ps vs : List Value) (i : Nat) (w : World) (e : Ending) (w' : World) : Prop :=
  ∃ v, e = .returned v ∧ w'.ownsRow base 58 2 v (k + 1) (ps.take (i * 2) ++ vs ++ ps.drop (i * 2)) ∧ w.grownBy w' pv.ownBlock

set_option maxHeartbeats 4000000 in
theorem insK_end (base vb k : Nat) (pv : Value) (ps vs : List Value) (w : World) (ho : w.ownsRow base 58 2 pv k ps) (hl : k ≤ 10000) (hb : base ≤ w.heap.size)
    (hvb : w.heap[vb]? = some (.cells vs.toArray 58)) (hvl : vs.length = 2) (h1v : ∀ v ∈ vs, v.oneCell' = true) :
    Calls Tryz.prog 29 #[pv, .int .i64 k, .slice (some ⟨vb, 0, none⟩) 1 1] w (InsKPost base pv k ps vs k w) := by
  obtain ⟨i0, hi, hz0, hz1, hz2⟩ := info_parts Tryz.info58
  obtain ⟨v', w', hr, hown', hgrow, _⟩ := run_append_own (P := Tryz.prog) w base 31 31 58 i0 (.agg #[.slice none 0 0, .int .i64 0]) 2 32 Tryz.underlying31 hi hz0 hz1 hz2 rfl (by decide) pv k ps ho ⟨vb, 0, none⟩ 1 1 vs (by omega)
    (fun j u hj => by rw [Addr.add_lit, Nat.zero_add]; simp [World.cell?, hvb]; simpa using hj) h1v (by unfold maxLen; omega) (by omega) hb
  have hpl := ho.1
  have HF : Hid (InsKPost base pv k ps vs k w (.returned v') w') := ⟨_, rfl, by rw [← hpl, List.take_length, List.drop_length, List.append_nil]; exact hown', hgrow⟩
  obtain ⟨p, cap, rfl⟩ := owns_sliceK ho
  have hcap : k ≤ cap ∧ cap ≤ 9223372036854775807 ∧ (p = none → k = 0 ∧ cap = 0) ∧ ∀ a, p = some a → ∃ g, a = ⟨g, 0, none⟩ := by
    rcases ho.2 with ⟨h2, h0⟩ | ⟨g, c2, cur, h2, _, _, hnc, hm, _⟩
    · injection h2 with e1 _ e3
      subst e1; subst e3
      exact ⟨by omega, by omega, (fun _ => ⟨h0, rfl⟩), (fun a h => by cases h)⟩
    · injection h2 with e1 _ e3
      subst e1; subst e3
      exact ⟨hnc, (by unfold maxLen at hm; omega), (fun h => by cases h), fun a h => ⟨g, (Option.some.inj h).symm⟩⟩
  clear ho hown' hgrow hvb hpl hvl h1v
  obtain ⟨k1, k2, k3, k4⟩ := hcap
  cases p with
  | none =>
    obtain ⟨k5, rfl⟩ := k3 rfl
    subst k5
    clear k3 k4
    go_enter Tryz.func29, Tryz.ntmps29
    go_wp2_with (at_builtin; refine Lib.wpList_append_run _ rfl _ _ _ _ rfl _ _ rfl rfl _ _ hr ?_)
    go_ret
    exact HF.out
  | some a =>
    obtain ⟨g, rfl⟩ := k4 a rfl
    clear k3 k4
    by_cases hck : cap = k
    · subst hck
      go_enter Tryz.func29, Tryz.ntmps29
      go_wp2_with (at_builtin; refine Lib.wpList_append_run _ rfl _ _ _ _ rfl _ _ rfl rfl _ _ hr ?_)
      go_ret
      exact HF.out
    · go_enter Tryz.func29, Tryz.ntmps29
      go_wp2_with (at_builtin; refine Lib.wpList_append_run _ rfl _ _ _ _ rfl _ _ rfl rfl _ _ hr ?_)
      go_ret
      exact HF.out

theorem splice_takeK {A V D : List Value} {i m k : Nat} {cur : List Value} (hcur : cur.take k = A ++ D) (hA : A.length = i) (hV : V.length = m) (hD : D.length = k - i) (hik : i ≤ k) (hc : k + m ≤ cur.length) :
    List.take (k + m) (List.take i (List.take (i + m) cur ++ D ++ List.drop (i + m + D.length) cur) ++ V ++ List.drop (i + V.length) (List.take (i + m) cur ++ D ++ List.drop (i + m + D.length) cur)) = A ++ V ++ D := by
  have h1 : List.take i (List.take (i + m) cur ++ D ++ List.drop (i + m + D.length) cur) = A := by
    rw [List.append_assoc, List.take_append_of_le_length (by simp; omega), List.take_take, Nat.min_eq_left (by omega)]
    have := congrArg (List.take i) hcur
    rw [List.take_take, Nat.min_eq_left hik, List.take_left' hA] at this
    exact this
  have h2 : List.drop (i + V.length) (List.take (i + m) cur ++ D ++ List.drop (i + m + D.length) cur) = D ++ List.drop (i + m + D.length) cur := by
    rw [List.append_assoc, hV, List.drop_left' (by simp; omega)]
  rw [h1, h2, ← List.append_assoc, List.take_left' (by simp; omega)]

set_option maxHeartbeats 8000000 in
theorem insK_shift (base g vb cap i k : Nat) (ps vs : List Value) (w : World) (ho : w.ownsRow base 58 2 (.slice (some ⟨g, 0, none⟩) k cap) k ps) (hl : k ≤ 10000)
    (hvb : w.heap[vb]? = some (.cells vs.toArray 58)) (hvl : vs.length = 2) (h1v : ∀ v ∈ vs, v.oneCell' = true) (h1p : ∀ v ∈ ps, v.oneCell' = true) (hne : vb ≠ g) (hi : i < k) (hroom : k + 1 ≤ cap) :
    Calls Tryz.prog 29 #[.slice (some ⟨g, 0, none⟩) k cap, .int .i64 i, .slice (some ⟨vb, 0, none⟩) 1 1] w (InsKPost base (.slice (some ⟨g, 0, none⟩) k cap) k ps vs i w) := by
  obtain ⟨i0, hi0, hz0, hz1, hz2⟩ := info_parts Tryz.info58
  have hsz : (Tryz.prog.info? 58).map (·.size) = some 2 := by rw [hi0]; simp [hz1]
  have hsize : ∀ w, (Go.sizeOf 58).run Tryz.prog w = .ok 2 w := fun w => by kernel_rfl
  have mixed : Tryz.prog.follows Departure.mixedOrders = true := by kernel_rfl
  have hpl := ho.1
  rcases ho.2 with ⟨h2, _⟩ | ⟨g', cap', cur, hve, hbg, hh, hnc, hcm, hs, ht⟩
  · cases h2
  injection hve with e1 _ e3
  injection e1 with e1
  injection e1 with e1
  subst e1; subst e3
  have hov : ∀ lb cb, (callFunc 57 #[.slice (some ⟨vb, 0, none⟩) 1 1, .slice (some ⟨g, 0 + (i + 1) * 2, none⟩) lb cb]).run Tryz.prog w = .ok (.value (.bool false)) w := fun lb cb => by
    rw [run_callFunc_extern Tryz.func57 (by kernel_rfl) (by kernel_rfl) (by kernel_rfl) (e := Extern.SlicesOverlaps.overlaps #[31, 31] #[4]) (by kernel_rfl),
      Lib.run_overlaps_apart w 31 4 58 Tryz.underlying31 2 hsize ⟨vb, 0, none⟩ ⟨g, 0 + (i + 1) * 2, none⟩ 1 1 lb cb hne 58 58 2 (cap * 2) (by simp [World.shape?, hvb, hvl]) (by simp [World.shape?, hh, hs]) (by omega) (by simp [World.frozen?, hvb]) (by simp [World.frozen?, hvb])]
    rfl
  have hcs : ∀ j v, ps[j]? = some v → w.cell? ⟨g, j, none⟩ = some v := by
    intro j v hj
    rw [← ht, List.getElem?_take] at hj
    split at hj
    · simpa [World.cell?, hh] using hj
    · cases hj
  have hsp : ∀ j, j < cap * 2 → (w.cell? ⟨g, j, none⟩).isSome = true := fun j hj => by
    have hj' : j < cur.size := by omega
    simp [World.cell?, hh, hj']
  have hfz : ∀ j, w.frozen? ⟨g, j, none⟩ = false := fun j => by simp [World.frozen?, hh]
  have hdl : (ps.drop (i * 2)).length = (k - i) * 2 := by rw [List.length_drop, hpl]; omega
  have hcp1 : ∀ ty dc sc, (Builtin.copy_ #[31, 31] ty #[.slice (some ⟨g, 0 + (i + 1) * 2, none⟩) (k - i) dc, .slice (some ⟨g, 0 + i * 2, none⟩) (k + 1 - i) sc]).run Tryz.prog w.drew = .ok (goInt (Nat.min (k + 1 - i) (k - i))) (w.drew.setCells g (0 + (i + 1) * 2) (ps.drop (i * 2))) := fun ty dc sc =>
    run_copy_cellsK w.drew _ _ ty 58 2 g (0 + (i + 1) * 2) (k - i) dc ⟨g, 0 + i * 2, none⟩ (k + 1 - i) sc (ps.drop (i * 2)) Tryz.underlying31 hsz (by rw [hdl]; simp only [Nat.min_def]; split <;> omega)
      (fun j v hj => by rw [Addr.add_lit, Nat.add_assoc, Nat.zero_add]; exact hcs (i * 2 + j) v (by rwa [List.getElem?_drop] at hj))
      (fun j hj => hsp _ (by omega)) (fun j hj => hfz _) (fun v hv => h1p v (List.mem_of_mem_drop hv))
  obtain ⟨W1, hW1⟩ : ∃ W1, W1 = w.drew.setCells g (0 + (i + 1) * 2) (ps.drop (i * 2)) := ⟨_, rfl⟩
  have k1 : W1.heap[g]? = some (.cells (cur.toList.take (0 + (i + 1) * 2) ++ ps.drop (i * 2) ++ cur.toList.drop (0 + (i + 1) * 2 + (ps.drop (i * 2)).length)).toArray 58) := by
    rw [hW1]; exact heap_setCells_row g 58 _ _ w.drew cur hh (by rw [hdl]; omega)
  have hwv : W1.heap[vb]? = some (.cells vs.toArray 58) := by rw [hW1, heap_setCells_off g _ _ _ vb hne]; exact hvb
  have h9 : (cur.toList.take (0 + (i + 1) * 2) ++ ps.drop (i * 2) ++ cur.toList.drop (0 + (i + 1) * 2 + (ps.drop (i * 2)).length)).length = cur.size := by
    rw [List.length_append, List.length_append, hdl, List.length_take, List.length_drop, Array.length_toList]; omega
  have hcp2 : ∀ ty dc, (Builtin.copy_ #[31, 31] ty #[.slice (some ⟨g, 0 + i * 2, none⟩) (k + 1 - i) dc, .slice (some ⟨vb, 0, none⟩) 1 1]).run Tryz.prog W1 = .ok (goInt (Nat.min 1 (k + 1 - i))) (W1.setCells g (0 + i * 2) vs) := fun ty dc =>
    run_copy_cellsK W1 _ _ ty 58 2 g (0 + i * 2) (k + 1 - i) dc ⟨vb, 0, none⟩ 1 1 vs Tryz.underlying31 hsz (by rw [hvl]; simp only [Nat.min_def]; split <;> omega)
      (fun j v hj => by rw [Addr.add_lit, Nat.zero_add]; simp [World.cell?, hwv]; simpa using hj)
      (fun j hj => by
        have hj' : 0 + i * 2 + j < cur.size := by rw [hvl] at hj; omega
        simp only [World.cell?, k1, List.getElem?_toArray]
        rw [List.getElem?_eq_getElem (by rw [h9]; exact hj')]
        rfl)
      (fun j hj => by simp [World.frozen?, k1]) h1v
  have k2 := heap_setCells_row g 58 vs (0 + i * 2) W1 _ k1 (by rw [List.size_toArray, h9, hvl]; omega)
  have HF : Hid (InsKPost base (.slice (some ⟨g, 0, none⟩) k cap) k ps vs i w (.returned (.slice (some ⟨g, 0, none⟩) (k + 1) cap)) (W1.setCells g (0 + i * 2) vs)) := by
    refine ⟨_, rfl, ⟨by rw [List.length_append, List.length_append, hvl, hdl, List.length_take]; omega, Or.inr ⟨g, cap, _, rfl, hbg, k2, hroom, hcm, ?_, ?_⟩⟩, ?_⟩
    · have h8 : ∀ (X : List Value), X.length = cur.size → (List.take (0 + i * 2) X ++ vs ++ List.drop (0 + i * 2 + vs.length) X).length = cap * 2 := fun X hX => by
        rw [List.length_append, List.length_append, hvl, List.length_take, List.length_drop, hX]; omega
      rw [List.size_toArray, List.toList_toArray]
      exact h8 _ h9
    · rw [List.toList_toArray, List.toList_toArray, Nat.zero_add, Nat.zero_add, show (i + 1) * 2 = i * 2 + 2 by omega, show (k + 1) * 2 = k * 2 + 2 by omega]
      exact splice_takeK (A := ps.take (i * 2)) (k := k * 2) (by rw [List.take_append_drop, ← ht]) (by rw [List.length_take]; omega) hvl (by rw [hdl]; omega) (by omega) (by rw [Array.length_toList]; omega)
    · rw [hW1]
      have r1 := rest_setCells g (ps.drop (i * 2)) (0 + (i + 1) * 2) w.drew
      have r2 := rest_setCells g vs (0 + i * 2) (w.drew.setCells g (0 + (i + 1) * 2) (ps.drop (i * 2)))
      refine ⟨r2.1.trans r1.1, r2.2.1.trans r1.2.1, r2.2.2.trans r1.2.2, ?_, fun k _ hk => ?_⟩
      · rw [size_setCells', size_setCells']; exact Nat.le_refl _
      · rw [heap_setCells_off g _ _ _ k (fun e => hk (by rw [e]; rfl)), heap_setCells_off g _ _ _ k (fun e => hk (by rw [e]; rfl))]; rfl
  rw [← hW1] at hcp1
  clear hW1 k1 k2 hwv hcs hsp hfz hpl hdl hvl hs ht hh hvb ho h9 h1v h1p
  generalize ps.drop (i * 2) = D at *
  generalize W1.setCells g (0 + i * 2) vs = W2 at *
  have hz2' : ¬ ((i : Int) = (k : Int)) := by omega
  have hw1 : IntKind.i64.wrap ((i : Int) + 1) = (i : Int) + 1 := by rw [IntKind.wrap_i64]; omega
  have hb1 : (0 : Int) ≤ (i : Int) + 1 := by omega
  have hin : i ≤ k := by omega
  have htn : ((i : Int) + 1).toNat = i + 1 := by omega
  have hb2 : ¬ (cap = i + 1) := by omega
  have hb3 : (i : Int) ≤ (k : Int) + 1 := by omega
  have hb4 : ¬ (cap = i) := by omega
  unfold maxLen at hcm
  simp only [Nat.zero_add] at hov hcp1 hcp2
  go_enter Tryz.func29, Tryz.ntmps29
  go_wp2_with (simp only [hov])
  go_region_law_o (refine step_copy_runI rfl _ _ 31 31 rfl _ _ (by simp [Act.eval, Act.put]) (by simp [Act.eval, Act.put]) (hcp1 _ _ _) ?_)
  go_wp2_with (at_builtin; refine wpList_copy_runI _ rfl _ _ 31 31 rfl _ _ rfl rfl (hcp2 _ _) ?_)
  go_ret
  exact HF.out

end Go.Proofs.YtahffpgadoiijaaGreat

/- Kinds in memory; compareCycles, slices.BinarySearchFunc among kinds in order. -/
namespace Go.Proofs.YtahffpgadoiijaaGreat
open Go.RowKit
set_option linter.unusedVariables false

/-- Cells of kinds: a slice and a number each. -/
def kcells (Z : List (Value × List Nat × Nat)) : List Value := Z.flatMap (fun z => [z.1, .int .i64 ((z.2.2 : Nat) : Int)])

theorem kcells_length : ∀ (Z : List (Value × List Nat × Nat)), (kcells Z).length = Z.length * 2
  | [] => rfl
  | z :: Z => by show ([z.1, Value.int .i64 ((z.2.2 : Nat) : Int)] ++ kcells Z).length = _; rw [List.length_append, kcells_length Z]; simp; omega

theorem kcells_append (A B : List (Value × List Nat × Nat)) : kcells (A ++ B) = kcells A ++ kcells B := by unfold kcells; rw [List.flatMap_append]

theorem kcells_take : ∀ (Z : List (Value × List Nat × Nat)) (i : Nat), (kcells Z).take (i * 2) = kcells (Z.take i)
  | [], i => by simp [kcells]
  | z :: Z, 0 => by simp [kcells]
  | z :: Z, i + 1 => by
    show (z.1 :: Value.int .i64 ((z.2.2 : Nat) : Int) :: kcells Z).take ((i + 1) * 2) = z.1 :: Value.int .i64 ((z.2.2 : Nat) : Int) :: kcells (Z.take i)
    rw [show (i + 1) * 2 = i * 2 + 1 + 1 by omega, List.take_succ_cons, List.take_succ_cons, kcells_take Z i]

theorem kcells_drop : ∀ (Z : List (Value × List Nat × Nat)) (i : Nat), (kcells Z).drop (i * 2) = kcells (Z.drop i)
  | [], i => by simp [kcells]
  | z :: Z, 0 => by simp [kcells]
  | z :: Z, i + 1 => by
    show (z.1 :: Value.int .i64 ((z.2.2 : Nat) : Int) :: kcells Z).drop ((i + 1) * 2) = kcells (Z.drop i)
    rw [show (i + 1) * 2 = i * 2 + 1 + 1 by omega, List.drop_succ_cons, List.drop_succ_cons, kcells_drop Z i]

theorem kcells_at : ∀ {Z : List (Value × List Nat × Nat)} {i : Nat} {z : Value × List Nat × Nat}, Z[i]? = some z → (kcells Z)[i * 2]? = some z.1 ∧ (kcells Z)[i * 2 + 1]? = some (.int .i64 ((z.2.2 : Nat) : Int))
  | [], i, z, h => by simp at h
  | y :: Z, 0, z, h => by simp at h; subst h; exact ⟨rfl, rfl⟩
  | y :: Z, i + 1, z, h => by
    have h' : Z[i]? = some z := by simpa using h
    obtain ⟨a, b⟩ := kcells_at h'
    rw [show (i + 1) * 2 = i * 2 + 1 + 1 by omega]
    exact ⟨a, b⟩

theorem kcells_one : ∀ {Z : List (Value × List Nat × Nat)}, (∀ z, z ∈ Z → z.1.oneCell' = true) → ∀ v ∈ kcells Z, v.oneCell' = true := by
  intro Z h v hv
  obtain ⟨z, hz, h1⟩ := List.mem_flatMap.1 hv
  rcases List.mem_cons.1 h1 with rfl | h1
  · exact h z hz
  · rw [List.mem_singleton] at h1; subst h1; rfl

theorem kcells_set {Z : List (Value × List Nat × Nat)} : ∀ {j : Nat} {z : Value × List Nat × Nat} (m : Nat), Z[j]? = some z → (kcells Z).set (j * 2 + 1) (.int .i64 (m : Int)) = kcells (Z.set j (z.1, z.2.1, m)) := by
  induction Z with
  | nil => intro j z m h; simp at h
  | cons y Z ih =>
    intro j z m h
    cases j with
    | zero => simp at h; subst h; rfl
    | succ j =>
      have h' : Z[j]? = some z := by simpa using h
      rw [show (j + 1) * 2 + 1 = (j * 2 + 1) + 1 + 1 by omega]
      show y.1 :: Value.int .i64 ((y.2.2 : Nat) : Int) :: (kcells Z).set (j * 2 + 1) _ = y.1 :: Value.int .i64 ((y.2.2 : Nat) : Int) :: kcells (Z.set j _)
      rw [ih m h']

/-- Kinds that the call owns, at or above a block. -/
structure KsAt (w : World) (base : Nat) (v : Value) (Z : List (Value × List Nat × Nat)) : Prop where
  row : w.ownsRow base 58 2 v Z.length (kcells Z)
  all : ∀ z, z ∈ Z → w.ownsRow base 3 1 z.1 z.2.1.length ((natI z.2.1).map (Value.int .i64))

theorem owns_one {w : World} {base e n size : Nat} {v : Value} {xs : List Value} (h : w.ownsRow base e size v n xs) : v.oneCell' = true := by
  obtain ⟨p, c, rfl⟩ := owns_sliceK h; rfl

theorem owns_belowK {w w' : World} {base B e size n : Nat} {v : Value} {xs : List Value} (h : w.ownsRow base e size v n xs) (hb : Below B w w') (hB : w.heap.size ≤ B) : w'.ownsRow base e size v n xs := by
  refine ⟨h.1, ?_⟩
  rcases h.2 with h0 | ⟨g, cap, cur, rfl, h1, h2, h3⟩
  · exact Or.inl h0
  · exact Or.inr ⟨g, cap, cur, rfl, h1, (hb.block g (Nat.lt_of_lt_of_le (Array.getElem?_eq_some_iff.1 h2).1 hB)).trans h2, h3⟩

theorem KsAt.later {w w' : World} {base : Nat} {v : Value} {Z : List (Value × List Nat × Nat)} (h : KsAt w base v Z) (hb : Below w.heap.size w w') : KsAt w' base v Z :=
  ⟨owns_belowK h.row hb (Nat.le_refl _), fun z hz => owns_belowK (h.all z hz) hb (Nat.le_refl _)⟩

theorem KsAt.one {w : World} {base : Nat} {v : Value} {Z : List (Value × List Nat × Nat)} (h : KsAt w base v Z) : ∀ v ∈ kcells Z, v.oneCell' = true :=
  kcells_one (fun z hz => owns_one (h.all z hz))

/-- The cells of one kind. -/
theorem KsAt.cell {w : World} {base : Nat} {v : Value} {Z : List (Value × List Nat × Nat)} (h : KsAt w base v Z) (h0 : 0 < Z.length) : ∃ b cap, v = .slice (some ⟨b, 0, none⟩) Z.length cap ∧ base ≤ b ∧ b < w.heap.size ∧ Z.length ≤ cap ∧ cap ≤ 9223372036854775807 ∧
    ∀ i z, Z[i]? = some z → w.cell? ⟨b, i * 2, none⟩ = some z.1 ∧ w.cell? ⟨b, i * 2 + 1, none⟩ = some (.int .i64 ((z.2.2 : Nat) : Int)) ∧ w.frozen? ⟨b, i * 2 + 1, none⟩ = false ∧ Ints w z.1 (natI z.2.1) := by
  rcases h.row.2 with ⟨_, h1⟩ | ⟨g, cap, cur, rfl, h1, h2, h3, h4, h5, h6⟩
  · omega
  · refine ⟨g, cap, rfl, h1, (Array.getElem?_eq_some_iff.1 h2).1, h3, by unfold maxLen at h4; omega, fun i z hz => ?_⟩
    obtain ⟨a, b⟩ := kcells_at hz
    rw [← h6, List.getElem?_take] at a b
    have hil : i < Z.length := (List.getElem?_eq_some_iff.1 hz).1
    rw [if_pos (by omega)] at a b
    refine ⟨by simpa [World.cell?, h2] using a, by simpa [World.cell?, h2] using b, by simp [World.frozen?, h2], ?_⟩
    have := h.all z (List.mem_of_getElem? hz)
    exact Ints.own this

set_option maxRecDepth 20000 in
set_option maxHeartbeats 2000000 in
theorem compareCycles_ok (v1 v2 : Value) (m : Int) (xs ys : List Int) (w : World) (i1 : Ints w v1 xs) (i2 : Ints w v2 ys) (h1 : 1 ≤ xs.length) (hl : ys.length = xs.length) :
    Calls Tryz.prog 28 #[.agg #[v1, .int .i64 m], v2] w fun e w' => e = .returned (.int .i64 (lcmp xs ys)) ∧ Below w.heap.size w w' := by
  have HK : Hid (∀ W, Below w.heap.size w W → Calls Tryz.prog 56 #[v1, v2] W fun e w' => e = .returned (.int .i64 (lcmp xs ys)) ∧ W = w') := fun W hb => compare_ok v1 v2 xs ys W (i1.below hb) (i2.below hb) h1 hl
  obtain ⟨p1, c1, e1⟩ := i1.form
  obtain ⟨p2, c2, e2⟩ := i2.form
  subst e1; subst e2
  generalize xs.length = xl at *
  generalize ys.length = yl at *
  clear i1 i2 h1 hl
  go_enter Tryz.func28, Tryz.ntmps28
  go_wp2_with fail
  refine (HK.out _ ?hb).mono ?_
  case hb => exact (Below.refl _ _).alloc (Nat.le_refl _) _
  rintro e w' ⟨rfl, rfl⟩
  go_wp2
  go_ret
  exact ⟨rfl, (Below.refl _ _).alloc (Nat.le_refl _) _⟩

/-- The list of a kind. -/
def kf (Z : List (Value × List Nat × Nat)) (i : Nat) : List Nat := ((Z[i]?).map (fun z => z.2.1)).getD []

theorem kf_at {Z : List (Value × List Nat × Nat)} {i : Nat} {z : Value × List Nat × Nat} (h : Z[i]? = some z) : kf Z i = z.2.1 := by unfold kf; rw [h]; rfl

/-- Kinds are in order. -/
theorem kf_mono {Z : List (Value × List Nat × Nat)} (h : (Z.map (·.2)).Pairwise (fun a b => nlt a.1 b.1)) {a b : Nat} (hab : a < b) (hb : b < Z.length) : nlt (kf Z a) (kf Z b) := by
  have h1 := List.pairwise_iff_getElem.1 (List.pairwise_map.1 h) a b (by omega) hb hab
  rw [kf_at (List.getElem?_eq_getElem (by omega)), kf_at (List.getElem?_eq_getElem hb)]
  exact h1

set_option maxRecDepth 20000 in
set_option maxHeartbeats 4000000 in
theorem bsK_ok (base n : Nat) (v vT : Value) (Z : List (Value × List Nat × Nat)) (t : List Nat) (w : World) (hZ : KsAt w base v Z) (hT : Ints w vT (natI t)) (hs : (Z.map (·.2)).Pairwise (fun a b => nlt a.1 b.1)) (hlen : ∀ z, z ∈ Z → z.2.1.length = n) (htl : t.length = n) (h1 : 1 ≤ n) (hN : Z.length ≤ 10000) :
    Calls Tryz.prog 27 #[v, vT, .func (.func 28) #[] #[]] w fun e w' => ∃ j : Nat, e = .returned (.tuple #[.int .i64 (j : Int), .bool (decide (j < Z.length ∧ kf Z j = t))]) ∧ j ≤ Z.length ∧ (∀ i, i < j → nlt (kf Z i) t) ∧ (∀ i, j ≤ i → i < Z.length → ¬ nlt (kf Z i) t) ∧ Below w.heap.size w w' := by
  obtain ⟨tp, tc, e0⟩ := hT.form
  subst e0
  have HM : Hid (∀ a b, a < b → b < Z.length → nlt (kf Z a) (kf Z b)) := fun a b h2 h3 => kf_mono hs h2 h3
  have HC : Hid (∀ i, i < Z.length → ∃ (p : Option Addr) (c m : Nat) (b cap : Nat), v = .slice (some ⟨b, 0, none⟩) Z.length cap ∧ b < w.heap.size ∧ Z.length ≤ cap ∧ cap ≤ 9223372036854775807 ∧ w.cell? ⟨b, i * 2, none⟩ = some (.slice p n c) ∧ w.cell? ⟨b, i * 2 + 1, none⟩ = some (.int .i64 (m : Int)) ∧ ∀ W, Below w.heap.size w W → Calls Tryz.prog 28 #[.agg #[.slice p n c, .int .i64 (m : Int)], .slice tp (natI t).length tc] W fun e w' => e = .returned (.int .i64 (lcmp (natI (kf Z i)) (natI t))) ∧ Below W.heap.size W w') := fun i hi => by
    obtain ⟨b, cap, hv, _, hb, hc1, hc2, hcell⟩ := hZ.cell (by omega)
    have hz : Z[i]? = some Z[i] := List.getElem?_eq_getElem hi
    obtain ⟨a1, a2, _, a3⟩ := hcell i _ hz
    obtain ⟨p, c, ef⟩ := a3.form
    have hl := hlen _ (List.getElem_mem hi)
    have hl2 : (natI Z[i].2.1).length = n := by rw [natI_length]; exact hl
    rw [hl2] at ef
    refine ⟨p, c, Z[i].2.2, b, cap, hv, hb, hc1, hc2, by rw [← ef]; exact a1, a2, fun W hW => ?_⟩
    rw [← ef, kf_at hz]
    exact compareCycles_ok _ _ _ _ _ W (a3.below hW) (hT.below hW) (by rw [hl2]; exact h1) (by rw [hl2, natI_length]; exact htl)
  have hform : ∃ p c, v = .slice p Z.length c := owns_sliceK hZ.row
  obtain ⟨vp, vc, ev⟩ := hform
  subst ev
  have hXl : (natI t).length = n := by rw [natI_length]; exact htl
  rw [hXl] at HC ⊢
  generalize hN' : Z.length = N at *
  clear hZ hT hs hlen htl hXl hN'
  go_enter Tryz.func27, Tryz.ntmps27
  go_wp2
  go_loopw [9, 10] (fun x y wr => ∃ a c : Nat, a ≤ c ∧ c ≤ N ∧ x = .int .i64 a ∧ y = .int .i64 c ∧ Hid (∀ i, i < a → nlt (kf Z i) t) ∧ Hid (∀ i, c ≤ i → i < N → ¬ nlt (kf Z i) t) ∧ Below w.heap.size w wr) (fun x y _ => (intOf y).toNat - (intOf x).toNat)
  case atStart => exact ⟨0, N, Nat.zero_le _, Nat.le_refl _, rfl, rfl, (fun i hi => absurd hi (by omega)), (fun i h2 h3 => absurd h3 (by omega)), Below.refl _ _⟩
  case round =>
    obtain ⟨a, c, hac, hcN, rfl, rfl, hlo, hhi, hbw⟩ := hrel
    by_cases hlt : a < c
    · have hh : (a + c) / 2 < N := by omega
      have hq1 : a ≤ (a + c) / 2 := by omega
      have hq2 : (a + c) / 2 < c := by omega
      have hqe : ((a : Int) + (c : Int)) / 2 = (((a + c) / 2 : Nat) : Int) := by omega
      obtain ⟨p, c3, m3, b, cap, hv, hb, hc1, hc2, hce, hce2, hcall⟩ := HC.out ((a + c) / 2) hh
      simp only [Value.slice.injEq] at hv
      obtain ⟨rfl, _, rfl⟩ := hv
      have HK := hide (hcall wr hbw)
      have gx : wr.cell? ⟨b, (a + c) / 2 * 2, none⟩ = some (.slice p n c3) := (hbw.cell (by exact hb)).trans hce
      have gy : wr.cell? ⟨b, (a + c) / 2 * 2 + 1, none⟩ = some (.int .i64 (m3 : Int)) := (hbw.cell (by exact hb)).trans hce2
      clear hcall hce hce2
      have HM2 := hide (fun (x y : Nat) (h5 : x < y) (h6 : y < N) => HM.out x y h5 h6)
      generalize (a + c) / 2 = m at *
      by_cases hneg : lcmp (natI (kf Z m)) (natI t) < 0
      · have hneg2 : decide (lcmp (natI (kf Z m)) (natI t) < 0) = true := decide_eq_true hneg
        have HLo : Hid (∀ i, i < m + 1 → nlt (kf Z i) t) := fun i hi => by
          by_cases e : i = m
          · rw [e]; exact hneg
          · exact nlt_trans (HM2.out i m (by omega) hh) hneg
        generalize lcmp (natI (kf Z m)) (natI t) = z at *
        have HB := hide hbw
        clear hbw hlo
        go_wp2_with fail
        refine HK.out.mono ?_
        rintro e w' ⟨rfl, hb'⟩
        have hB' := HB.out.trans (hb'.mono HB.out.size)
        clear hb' HB HK
        go_wp2
        go_roundw
        case rel => exact ⟨m + 1, c, by omega, by omega, by go_num, by go_num, HLo, hhi, hB'⟩
        case measure => simp [intOf]; omega
      · have hneg2 : decide (lcmp (natI (kf Z m)) (natI t) < 0) = false := decide_eq_false hneg
        have HHi : Hid (∀ i, m ≤ i → i < N → ¬ nlt (kf Z i) t) := fun i h5 h6 h7 => by
          by_cases e : m = i
          · rw [e] at hneg; exact hneg h7
          · exact hneg (nlt_trans (HM2.out m i (by omega) h6) h7)
        generalize lcmp (natI (kf Z m)) (natI t) = z at *
        have HB := hide hbw
        clear hbw hhi
        go_wp2_with fail
        refine HK.out.mono ?_
        rintro e w' ⟨rfl, hb'⟩
        have hB' := HB.out.trans (hb'.mono HB.out.size)
        clear hb' HB HK
        go_wp2
        go_roundw
        case rel => exact ⟨a, m, by omega, by omega, by go_num, by go_num, hlo, HHi, hB'⟩
        case measure => simp [intOf]; omega
    · obtain rfl : c = a := by omega
      by_cases haN : c < N
      · obtain ⟨p, c3, m3, b, cap, hv, hb, hc1, hc2, hce, hce2, hcall⟩ := HC.out c haN
        simp only [Value.slice.injEq] at hv
        obtain ⟨rfl, _, rfl⟩ := hv
        have HK := hide (hcall wr hbw)
        have gx : wr.cell? ⟨b, c * 2, none⟩ = some (.slice p n c3) := (hbw.cell (by exact hb)).trans hce
        have gy : wr.cell? ⟨b, c * 2 + 1, none⟩ = some (.int .i64 (m3 : Int)) := (hbw.cell (by exact hb)).trans hce2
        clear hcall hce hce2
        have HE : Hid ((lcmp (natI (kf Z c)) (natI t) == 0) = decide (c < N ∧ kf Z c = t)) := by
          by_cases e : kf Z c = t
          · rw [decide_eq_true ⟨haN, e⟩, e, lcmp_self]; rfl
          · rw [decide_eq_false (fun h => e h.2)]
            simp only [beq_eq_false_iff_ne]
            intro h5
            exact e (natI_inj (lcmp_zero h5))
        generalize lcmp (natI (kf Z c)) (natI t) = z at *
        generalize hfd : decide (c < N ∧ kf Z c = t) = fd at *
        have HFD := hide hfd
        have hz := HE.out
        have HB := hide hbw
        clear hbw hfd
        go_wp2_with fail
        refine HK.out.mono ?_
        rintro e w' ⟨rfl, hb'⟩
        have hB' := HB.out.trans (hb'.mono HB.out.size)
        clear hb' HB HK
        go_wp2
        go_ret2
        refine ⟨c, ?_, Nat.le_of_lt haN, hlo.out, hhi.out, hB'⟩
        rw [HFD.out]
        rfl
      · obtain rfl : N = c := by omega
        have HFD : Hid (decide (N < N ∧ kf Z N = t) = false) := decide_eq_false (fun h => absurd h.1 (by omega))
        go_wp2
        go_ret2
        refine ⟨N, ?_, Nat.le_refl _, hlo.out, hhi.out, hbw⟩
        rw [HFD.out]
        rfl

end Go.Proofs.YtahffpgadoiijaaGreat

/- Contract: slices.Insert of one kind where there is no room; all ways together. -/
namespace Go.Proofs.YtahffpgadoiijaaGreat
open Go.RowKit Go.Lib
set_option maxRecDepth 20000
set_option linter.unusedVariables false

theorem grow_takeK {A V D Z Y : List Value} {i m k C : Nat} (hA : A.length = i) (hV : V.length = m) (hD : D.length = k - i) (hik : i ≤ k) (hZ : Z.length = C - i) (hC : k + m ≤ C) (hY : Y = A ++ Z) :
    List.take (k + m) (List.take (i + m) (List.take i Y ++ V ++ List.drop (i + V.length) Y) ++ D ++ List.drop (i + m + D.length) (List.take i Y ++ V ++ List.drop (i + V.length) Y)) = A ++ V ++ D := by
  have h1 : List.take i Y = A := by rw [hY, List.take_left' hA]
  have h2 : List.take (i + m) (List.take i Y ++ V ++ List.drop (i + V.length) Y) = A ++ V := by
    rw [h1, List.take_left' (by simp; omega)]
  rw [h2, List.take_left' (by simp; omega)]

set_option maxHeartbeats 8000000 in
theorem insK_grow (base g vb cap i k : Nat) (ps vs : List Value) (w : World) (ho : w.ownsRow base 58 2 (.slice (some ⟨g, 0, none⟩) k cap) k ps) (hl : k ≤ 10000) (hb : base ≤ w.heap.size)
    (hvb : w.heap[vb]? = some (.cells vs.toArray 58)) (hvl : vs.length = 2) (h1v : ∀ v ∈ vs, v.oneCell' = true) (h1p : ∀ v ∈ ps, v.oneCell' = true) (hi : i < k) (hroom : cap < k + 1) :
    Calls Tryz.prog 29 #[.slice (some ⟨g, 0, none⟩) k cap, .int .i64 i, .slice (some ⟨vb, 0, none⟩) 1 1] w (InsKPost base (.slice (some ⟨g, 0, none⟩) k cap) k ps vs i w) := by
  obtain ⟨i0, hi0, hz0, hz1, hz2⟩ := info_parts Tryz.info58
  have hsz : (Tryz.prog.info? 58).map (·.size) = some 2 := by rw [hi0]; simp [hz1]
  have mixed : Tryz.prog.follows Departure.mixedOrders = true := by kernel_rfl
  have hpl := ho.1
  rcases ho.2 with ⟨h2, _⟩ | ⟨g', cap', cur, hve, hbg, hh, hnc, hcm, hs, ht⟩
  · cases h2
  injection hve with e1 _ e3
  injection e1 with e1
  injection e1 with e1
  subst e1; subst e3
  have hglt : g < w.heap.size := (Array.getElem?_eq_some_iff.1 hh).1
  have hvlt : vb < w.heap.size := (Array.getElem?_eq_some_iff.1 hvb).1
  have hcs : ∀ j v, ps[j]? = some v → w.cell? ⟨g, j, none⟩ = some v := by
    intro j v hj
    rw [← ht, List.getElem?_take] at hj
    split at hj
    · simpa [World.cell?, hh] using hj
    · cases hj
  have hdl : (ps.drop (i * 2)).length = (k - i) * 2 := by rw [List.length_drop, hpl]; omega
  have hal : (ps.take (i * 2)).length = i * 2 := by rw [List.length_take, hpl]; omega
  have hold : (Builtin.firstCells i0.size i (.slice (some ⟨g, 0, none⟩) i cap)).run Tryz.prog w.drew = .ok (ps.take (i * 2)).toArray w.drew := by
    rw [hz1]
    exact run_firstCells_some w.drew 2 i ⟨g, 0, none⟩ i cap (ps.take (i * 2)) (by omega) (fun j v hj => by
      rw [Addr.add_lit, Nat.zero_add]
      rw [List.getElem?_take] at hj
      split at hj
      · exact hcs j v hj
      · cases hj)
  have hik : i + (k + 1 - i) = k + 1 := by omega
  have hkk : (k : Int) + 1 - (i : Int) = ((k + 1 - i : Nat) : Int) := by omega
  obtain ⟨C, hC⟩ : ∃ C, C = grownCap w (k + 1) cap 58 := ⟨_, rfl⟩
  have hCge : k + 1 ≤ C := by rw [hC]; exact grownCap_ge w _ _ _
  have hCm : C ≤ maxLen := by rw [hC]; exact grownCap_le_maxLen w _ _ _ (by unfold maxLen; omega)
  obtain ⟨Z, hZ⟩ : ∃ Z : Array Value, Z = Builtin.zeroCells (Value.agg #[.slice none 0 0, .int .i64 0]).cells (k + 1 - i) ++ Builtin.zeroCells (Value.agg #[.slice none 0 0, .int .i64 0]).cells (C - (k + 1)) := ⟨_, rfl⟩
  have hZl : Z.toList.length = C * 2 - i * 2 := by rw [hZ]; simp [Builtin.zeroCells, Value.cells]; omega
  obtain ⟨W1, hW1⟩ : ∃ W1, W1 = w.drew.alloc (.cells ((ps.take (i * 2)).toArray ++ Z) 58) := ⟨_, rfl⟩
  have hrz : ∀ ty, (Builtin.append_ #[31, 3] ty #[.slice (some ⟨g, 0, none⟩) i cap, .int .i64 ((k : Int) + 1 - (i : Int))]).run Tryz.prog w = .ok (.slice (some ⟨w.heap.size, 0, none⟩) (k + 1) C) W1 := fun ty => by
    have h := Lib.run_append_grow_zeros w 31 3 ty 58 i0 _ .i64 .i64 Tryz.underlying31 Tryz.underlying3 hi0 hz0 (some ⟨g, 0, none⟩) i cap (ps.take (i * 2)) hold (k + 1 - i) (by omega) (by omega) (by omega) (by omega) (by rw [hz2]; omega) (by rw [hz2, hik]; exact growslice_fits hroom (by omega))
    rw [hik, ← hC] at h
    rw [hkk, h, hW1, hZ, Array.append_assoc]
  have hY : ((ps.take (i * 2)).toArray ++ Z).toList = ps.take (i * 2) ++ Z.toList := by simp
  have k0 : W1.heap[w.heap.size]? = some (.cells ((ps.take (i * 2)).toArray ++ Z) 58) := by rw [hW1]; exact heap_alloc_new w.drew _
  have hYs : ((ps.take (i * 2)).toArray ++ Z).size = C * 2 := by
    have : ((ps.take (i * 2)).toArray ++ Z).toList.length = C * 2 := by rw [hY, List.length_append, hal, hZl]; omega
    simpa using this
  generalize hYY : ((ps.take (i * 2)).toArray ++ Z) = Y at *
  have hOb : ∀ k, k < w.heap.size → W1.heap[k]? = w.heap[k]? := fun k hk => by rw [hW1]; exact Below.heap_alloc w.drew _ k hk
  have hcpA : ∀ (W : World), W.heap = W1.heap → ∀ ty dc, (Builtin.copy_ #[31, 31] ty #[.slice (some ⟨w.heap.size, i * 2, none⟩) (k + 1 - i) dc, .slice (some ⟨vb, 0, none⟩) 1 1]).run Tryz.prog W = .ok (goInt (Nat.min 1 (k + 1 - i))) (W.setCells w.heap.size (i * 2) vs) := fun W hW ty dc =>
    run_copy_cellsK W _ _ ty 58 2 w.heap.size (i * 2) (k + 1 - i) dc ⟨vb, 0, none⟩ 1 1 vs Tryz.underlying31 hsz (by rw [hvl]; simp only [Nat.min_def]; split <;> omega)
      (fun j v hj => by rw [Addr.add_lit, Nat.zero_add]; simp [World.cell?, hW, hOb vb hvlt, hvb]; simpa using hj)
      (fun j hj => by
        have hj' : i * 2 + j < Y.size := by rw [hvl] at hj; omega
        simp [World.cell?, hW, k0, hj'])
      (fun j hj => by simp [World.frozen?, hW, k0]) h1v
  obtain ⟨W2, hW2⟩ : ∃ W2, W2 = W1.setCells w.heap.size (i * 2) vs := ⟨_, rfl⟩
  have k1 := heap_setCells_row w.heap.size 58 vs (i * 2) W1 Y k0 (by rw [hvl]; omega)
  rw [← hW2] at k1
  have hOc : ∀ k, k < w.heap.size → W2.heap[k]? = w.heap[k]? := fun k hk => by rw [hW2, heap_setCells_off _ _ _ _ k (by omega)]; exact hOb k hk
  have h9 : (List.take (i * 2) Y.toList ++ vs ++ List.drop (i * 2 + vs.length) Y.toList).length = Y.size := by
    rw [List.length_append, List.length_append, hvl, List.length_take, List.length_drop, Array.length_toList]; omega
  have hcpB : ∀ (W : World), W.heap = W2.heap → ∀ ty dc sc, (Builtin.copy_ #[31, 31] ty #[.slice (some ⟨w.heap.size, (i + 1) * 2, none⟩) (k - i) dc, .slice (some ⟨g, i * 2, none⟩) (k - i) sc]).run Tryz.prog W = .ok (goInt (Nat.min (k - i) (k - i))) (W.setCells w.heap.size ((i + 1) * 2) (ps.drop (i * 2))) := fun W hW ty dc sc =>
    run_copy_cellsK W _ _ ty 58 2 w.heap.size ((i + 1) * 2) (k - i) dc ⟨g, i * 2, none⟩ (k - i) sc (ps.drop (i * 2)) Tryz.underlying31 hsz (by rw [hdl]; simp only [Nat.min_def]; split <;> omega)
      (fun j v hj => by
        rw [Addr.add_lit]
        have := hcs (i * 2 + j) v (by rwa [List.getElem?_drop] at hj)
        simp only [World.cell?, hW, hOc g hglt] at this ⊢
        exact this)
      (fun j hj => by
        rw [hdl] at hj
        simp only [World.cell?, hW, k1, List.getElem?_toArray]
        rw [List.getElem?_eq_getElem (by rw [h9, hYs]; omega)]
        rfl)
      (fun j hj => by simp [World.frozen?, hW, k1]) (fun v hv => h1p v (List.mem_of_mem_drop hv))
  have k2 : ∀ W : World, W.heap = W2.heap → (W.setCells w.heap.size ((i + 1) * 2) (ps.drop (i * 2))).heap[w.heap.size]? = _ := fun W hW => heap_setCells_row w.heap.size 58 (ps.drop (i * 2)) ((i + 1) * 2) W _ (by rw [hW]; exact k1) (by rw [List.size_toArray, h9, hdl]; omega)
  have HF : Hid (∀ W : World, W.heap = W2.heap → W.os = w.os → W.tape = w.tape → W.output = w.output → InsKPost base (.slice (some ⟨g, 0, none⟩) k cap) k ps vs i w (.returned (.slice (some ⟨w.heap.size, 0, none⟩) (k + 1) C)) (W.setCells w.heap.size ((i + 1) * 2) (ps.drop (i * 2)))) := by
    intro W hW o1 o2 o3
    refine ⟨_, rfl, ⟨by rw [List.length_append, List.length_append, hvl, hdl, hal]; omega, Or.inr ⟨w.heap.size, C, _, rfl, hb, k2 W hW, hCge, hCm, ?_, ?_⟩⟩, ?_⟩
    · have h8 : ∀ (X : List Value), X.length = Y.size → (List.take ((i + 1) * 2) X ++ ps.drop (i * 2) ++ List.drop ((i + 1) * 2 + (ps.drop (i * 2)).length) X).length = C * 2 := fun X hX => by
        rw [List.length_append, List.length_append, hdl, List.length_take, List.length_drop, hX]; omega
      rw [List.size_toArray, List.toList_toArray]
      exact h8 _ h9
    · rw [List.toList_toArray, List.toList_toArray, show (i + 1) * 2 = i * 2 + 2 by omega, show (k + 1) * 2 = k * 2 + 2 by omega]
      exact grow_takeK (A := ps.take (i * 2)) (Z := Z.toList) (C := C * 2) hal hvl (by rw [hdl]; omega) (by omega) hZl (by omega) hY
    · have r1 := rest_setCells w.heap.size (ps.drop (i * 2)) ((i + 1) * 2) W
      refine ⟨r1.1.trans o1, r1.2.1.trans o2, r1.2.2.trans o3, ?_, fun k hk _ => ?_⟩
      · rw [size_setCells', hW, hW2, size_setCells', hW1]
        show w.heap.size ≤ (w.drew.alloc _).heap.size
        simp
      · rw [heap_setCells_off _ _ _ _ k (by omega), hW]; exact hOc k hk
  have hw2s : W2.os = w.os ∧ W2.tape = w.tape ∧ W2.output = w.output := by
    have r1 := rest_setCells w.heap.size vs (i * 2) W1
    rw [hW2]
    refine ⟨r1.1.trans ?_, r1.2.1.trans ?_, r1.2.2.trans ?_⟩ <;> rw [hW1] <;> rfl
  have HFF := hide (HF.out W2.drew rfl hw2s.1 hw2s.2.1 hw2s.2.2)
  have hA := fun ty dc => hcpA W1 rfl ty dc
  rw [← hW2] at hA
  have hB := fun ty dc sc => hcpB W2.drew rfl ty dc sc
  clear hcpA hcpB HF hw2s hW1 hW2 k0 k1 k2 hOb hOc hold hcs hpl hdl hal hs ht hh hvb ho hY hYs hYY hZ hZl hik hC h9 h1v h1p hvl
  generalize ps.drop (i * 2) = D at *
  generalize W2.drew.setCells w.heap.size ((i + 1) * 2) D = W3 at *
  rw [hkk] at hrz
  have hz2' : ¬ ((i : Int) = (k : Int)) := by omega
  have hz3 : (cap : Int) < (k : Int) + 1 := by omega
  have hw1 : IntKind.i64.wrap ((i : Int) + 1) = (i : Int) + 1 := by rw [IntKind.wrap_i64]; omega
  have hb1 : (0 : Int) ≤ (i : Int) + 1 := by omega
  have hin : i ≤ k := by omega
  have htn : ((i : Int) + 1).toNat = i + 1 := by omega
  have hGi : ¬ (C = i) := by omega
  have hGim : ¬ (C = i + 1) := by omega
  have hci : ¬ (cap = i) := by omega
  have hb3 : (i : Int) ≤ (k : Int) := by omega
  unfold maxLen at hcm hCm
  go_enter Tryz.func29, Tryz.ntmps29
  go_wp2_with (first
    | (at_builtin; refine Lib.wpList_append_run _ rfl _ _ _ _ rfl _ _ rfl rfl _ _ (hrz _) ?_)
    | (at_builtin; refine wpList_copy_runI _ rfl _ _ 31 31 rfl _ _ rfl rfl (hA _ _) ?_))
  go_region_law_o (refine step_copy_runI rfl _ _ 31 31 rfl _ _ (by simp [Act.eval, Act.put]) (by simp [Act.eval, Act.put]) (hB _ _ _) ?_)
  go_wp2
  go_ret
  exact HFF.out

/-- One kind is put in, at a place of theirs or behind them. -/
theorem insK_ok (base vb i k : Nat) (pv : Value) (ps vs : List Value) (w : World) (ho : w.ownsRow base 58 2 pv k ps) (hl : k ≤ 10000) (hb : base ≤ w.heap.size)
    (hvb : w.heap[vb]? = some (.cells vs.toArray 58)) (hvl : vs.length = 2) (h1v : ∀ v ∈ vs, v.oneCell' = true) (h1p : ∀ v ∈ ps, v.oneCell' = true) (hne : pv.ownBlock ≠ some vb) (hi : i ≤ k) :
    Calls Tryz.prog 29 #[pv, .int .i64 i, .slice (some ⟨vb, 0, none⟩) 1 1] w (InsKPost base pv k ps vs i w) := by
  by_cases he : i = k
  · subst he
    exact insK_end base vb i pv ps vs w ho hl hb hvb hvl h1v
  · rcases ho.2 with ⟨_, h0⟩ | ⟨g, cap, cur, hve, _⟩
    · omega
    · subst hve
      by_cases hr : k + 1 ≤ cap
      · exact insK_shift base g vb cap i k ps vs w ho hl hvb hvl h1v h1p (fun e => hne (by rw [e]; rfl)) (by omega) hr
      · exact insK_grow base g vb cap i k ps vs w ho hl hb hvb hvl h1v h1p (by omega) (by omega)

end Go.Proofs.YtahffpgadoiijaaGreat
