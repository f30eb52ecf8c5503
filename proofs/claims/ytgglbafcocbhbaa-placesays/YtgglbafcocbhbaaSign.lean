/- Plain: the parity that the cycles tell is the parity of the pairs that are the wrong way about. -/
import Derived.Test.YtgglbafcocbhbaaSum
namespace Go.Proofs.Ytgglbafcocbhbaa

theorem cycsTo_succ (r : List Int) (k : Nat) : cycsTo r (k + 1) = if (k : Int) ∈ (cycsTo r k).flatten then cycsTo r k else cycsTo r k ++ [orb r k (per r k)] := rfl

theorem mem_orb {r : List Int} {x p : Nat} {y : Int} : y ∈ orb r x p ↔ ∃ i, i < p ∧ y = ((it r i x : Nat) : Int) := by
  unfold orb
  rw [List.mem_map]
  constructor
  · rintro ⟨i, hi, rfl⟩; exact ⟨i, List.mem_range.1 hi, rfl⟩
  · rintro ⟨i, hi, rfl⟩; exact ⟨i, List.mem_range.2 hi, rfl⟩

theorem cyc_form {r : List Int} {k : Nat} {c : List Int} (h : c ∈ cycsTo r k) : ∃ y, y < k ∧ c = orb r y (per r y) := by
  induction k with
  | zero => cases h
  | succ k ih =>
    rw [cycsTo_succ] at h
    split at h
    · obtain ⟨y, hy, e⟩ := ih h; exact ⟨y, by omega, e⟩
    · rcases List.mem_append.1 h with h | h
      · obtain ⟨y, hy, e⟩ := ih h; exact ⟨y, by omega, e⟩
      · exact ⟨k, by omega, List.mem_singleton.1 h⟩

theorem flat_back {r : List Int} (hr : isRow r) {k i : Nat} (hk : k ≤ r.length) (hi : i < r.length) (h : ((nx r i : Nat) : Int) ∈ (cycsTo r k).flatten) : (i : Int) ∈ (cycsTo r k).flatten := by
  obtain ⟨c, hc, hm⟩ := List.mem_flatten.1 h
  obtain ⟨y, hy, rfl⟩ := cyc_form hc
  obtain ⟨j, hj, e⟩ := mem_orb.1 hm
  have hy' : y < r.length := by omega
  obtain ⟨p1, _, p3, _⟩ := per_spec hr hy'
  refine List.mem_flatten.2 ⟨_, hc, mem_orb.2 ?_⟩
  have e' : nx r i = it r j y := by omega
  cases j with
  | zero =>
    refine ⟨per r y - 1, by omega, ?_⟩
    have e2 : nx r i = nx r (it r (per r y - 1) y) := by
      rw [e']
      show y = it r (per r y - 1 + 1) y
      rw [show per r y - 1 + 1 = per r y from by omega, p3]
    rw [nx_inj hr hi (it_lt hr hy' _) e2]
  | succ j =>
    refine ⟨j, by omega, ?_⟩
    rw [nx_inj hr hi (it_lt hr hy' j) e']

theorem it_notin {r : List Int} (hr : isRow r) {k : Nat} (hk : k < r.length) (h : ¬ (k : Int) ∈ (cycsTo r k).flatten) (j : Nat) : ¬ ((it r j k : Nat) : Int) ∈ (cycsTo r k).flatten := by
  induction j with
  | zero => exact h
  | succ j ih => exact fun h' => ih (flat_back hr (by omega) (it_lt hr hk j) h')

theorem orb_inj {r : List Int} (hr : isRow r) {x i j : Nat} (hx : x < r.length) (hi : i < per r x) (hj : j < per r x) (e : it r i x = it r j x) : i = j := by
  obtain ⟨_, _, _, p4⟩ := per_spec hr hx
  have key : ∀ i j, i < j → j < per r x → it r i x ≠ it r j x := by
    intro i j hij hj e
    have e1 : it r j x = it r i (it r (j - i) x) := by rw [← it_add, show i + (j - i) = j from by omega]
    rw [e1] at e
    have e2 := it_inj hr hx (it_lt hr hx (j - i)) i e
    exact p4 (j - i) (by omega) (by omega) e2.symm
  rcases Nat.lt_trichotomy i j with h | h | h
  · exact absurd e (key i j h hj)
  · exact h
  · exact absurd e.symm (key j i h hi)

/-- r on the cycles that are found so far; else nothing is moved. -/
def gk (r : List Int) (k i : Nat) : Nat := if (i : Int) ∈ (cycsTo r k).flatten then nx r i else i

/-- .. and j steps of the next cycle. -/
def hk (r : List Int) (k j i : Nat) : Nat := if (i : Int) ∈ (cycsTo r k).flatten then nx r i else if (i : Int) ∈ orb r k j then nx r i else if i = it r j k then k else i

theorem hk_zero (r : List Int) (k i : Nat) : hk r k 0 i = gk r k i := by
  unfold hk gk
  split
  · rfl
  · rw [if_neg (by simp [orb])]
    show (if i = k then k else i) = i
    split
    · omega
    · rfl

theorem hk_step {r : List Int} (hr : isRow r) {k j i : Nat} (hkl : k < r.length) (hn : ¬ (k : Int) ∈ (cycsTo r k).flatten) (hj : j + 1 < per r k) : hk r k (j + 1) i = hk r k j (swp (it r j k) (it r (j + 1) k) i) := by
  have n1 := it_notin hr hkl hn j
  have n2 := it_notin hr hkl hn (j + 1)
  have hne : it r j k ≠ it r (j + 1) k := fun e => by have := orb_inj hr hkl (by omega) hj e; omega
  have m1 : ¬ ((it r (j + 1) k : Nat) : Int) ∈ orb r k (j + 1) := by
    intro h
    obtain ⟨a, ha, e⟩ := mem_orb.1 h
    have := orb_inj hr hkl hj (by omega) (show it r (j + 1) k = it r a k by omega)
    omega
  have m2 : ¬ ((it r (j + 1) k : Nat) : Int) ∈ orb r k j := by
    intro h
    obtain ⟨a, ha, e⟩ := mem_orb.1 h
    exact m1 (mem_orb.2 ⟨a, by omega, e⟩)
  have m3 : ¬ ((it r j k : Nat) : Int) ∈ orb r k j := by
    intro h
    obtain ⟨a, ha, e⟩ := mem_orb.1 h
    have := orb_inj hr hkl (show j < per r k by omega) (by omega) (show it r j k = it r a k by omega)
    omega
  by_cases h1 : i = it r j k
  · subst h1
    have e : swp (it r j k) (it r (j + 1) k) (it r j k) = it r (j + 1) k := by unfold swp; rw [if_pos rfl]
    rw [e]
    unfold hk
    rw [if_neg n1, if_pos (mem_orb.2 ⟨j, by omega, rfl⟩), if_neg n2, if_neg m2, if_neg (Ne.symm hne)]
    rfl
  · by_cases h2 : i = it r (j + 1) k
    · subst h2
      have e : swp (it r j k) (it r (j + 1) k) (it r (j + 1) k) = it r j k := by unfold swp; rw [if_neg (Ne.symm hne), if_pos rfl]
      rw [e]
      unfold hk
      rw [if_neg n2, if_neg m1, if_pos rfl, if_neg n1, if_neg m3, if_pos rfl]
    · have e : swp (it r j k) (it r (j + 1) k) i = i := by unfold swp; rw [if_neg h1, if_neg h2]
      rw [e]
      unfold hk
      by_cases h3 : (i : Int) ∈ (cycsTo r k).flatten
      · rw [if_pos h3, if_pos h3]
      · rw [if_neg h3, if_neg h3, if_neg h2, if_neg h1]
        have : ((i : Int) ∈ orb r k (j + 1)) ↔ ((i : Int) ∈ orb r k j) := by
          rw [mem_orb, mem_orb]
          constructor
          · rintro ⟨a, ha, e⟩
            by_cases e2 : a = j
            · subst e2; exact absurd (by omega) h1
            · exact ⟨a, by omega, e⟩
          · rintro ⟨a, ha, e⟩; exact ⟨a, by omega, e⟩
        by_cases h4 : (i : Int) ∈ orb r k j
        · rw [if_pos (this.2 h4), if_pos h4]
        · rw [if_neg (fun h => h4 (this.1 h)), if_neg h4]

theorem hk_end {r : List Int} (hr : isRow r) {k : Nat} (hkl : k < r.length) (hn : ¬ (k : Int) ∈ (cycsTo r k).flatten) (i : Nat) : hk r k (per r k - 1) i = gk r (k + 1) i := by
  obtain ⟨p1, _, p3, _⟩ := per_spec hr hkl
  unfold hk gk
  rw [cycsTo_succ, if_neg hn, List.flatten_append]
  have hm : ((i : Int) ∈ (cycsTo r k).flatten ++ [orb r k (per r k)].flatten) ↔ ((i : Int) ∈ (cycsTo r k).flatten ∨ (i : Int) ∈ orb r k (per r k)) := by simp
  by_cases h1 : (i : Int) ∈ (cycsTo r k).flatten
  · rw [if_pos h1, if_pos (hm.2 (Or.inl h1))]
  · rw [if_neg h1]
    by_cases h2 : (i : Int) ∈ orb r k (per r k - 1)
    · obtain ⟨a, ha, e⟩ := mem_orb.1 h2
      rw [if_pos h2, if_pos (hm.2 (Or.inr (mem_orb.2 ⟨a, by omega, e⟩)))]
    · rw [if_neg h2]
      by_cases h3 : i = it r (per r k - 1) k
      · rw [if_pos h3, if_pos (hm.2 (Or.inr (mem_orb.2 ⟨per r k - 1, by omega, by omega⟩)))]
        subst h3
        show k = it r (per r k - 1 + 1) k
        rw [show per r k - 1 + 1 = per r k from by omega, p3]
      · rw [if_neg h3, if_neg]
        intro h
        rcases hm.1 h with h | h
        · exact h1 h
        · obtain ⟨a, ha, e⟩ := mem_orb.1 h
          by_cases e2 : a = per r k - 1
          · subst e2; exact h3 (by omega)
          · exact h2 (mem_orb.2 ⟨a, by omega, e⟩)

theorem hk_inv {r : List Int} (hr : isRow r) {k : Nat} (hkl : k < r.length) (hn : ¬ (k : Int) ∈ (cycsTo r k).flatten) (hg : ∀ i j, i < r.length → j < r.length → gk r k i = gk r k j → i = j) (j : Nat) (hj : j < per r k) :
    (∀ a b, a < r.length → b < r.length → hk r k j a = hk r k j b → a = b) ∧ inv r.length (hk r k j) % 2 = (inv r.length (gk r k) + j) % 2 := by
  induction j with
  | zero =>
    refine ⟨fun a b ha hb e => hg a b ha hb (by rw [← hk_zero, ← hk_zero]; exact e), ?_⟩
    rw [inv_congr (fun i _ => hk_zero r k i)]; rfl
  | succ j ih =>
    obtain ⟨i1, i2⟩ := ih (by omega)
    have hl1 := it_lt hr hkl j
    have hl2 := it_lt hr hkl (j + 1)
    have hp := swp_perm hl1 hl2
    have hne : it r j k ≠ it r (j + 1) k := fun e => by have := orb_inj hr hkl (by omega) hj e; omega
    constructor
    · intro a b ha hb e
      rw [hk_step hr hkl hn hj, hk_step hr hkl hn hj] at e
      exact hp.2 a b ha hb (i1 _ _ (hp.1 a ha) (hp.1 b hb) e)
    · rw [inv_congr (fun i _ => hk_step hr hkl hn hj), inv_mul hp i1]
      have := inv_swp hne hl1 hl2
      omega

theorem oddTo_snoc (xss : List (List Int)) (c : List Int) : oddTo (xss ++ [c]) (xss.length + 1) = if c.length % 2 = 0 then !(oddTo xss xss.length) else oddTo xss xss.length := by
  have hp : ∀ j, j ≤ xss.length → oddTo (xss ++ [c]) j = oddTo xss j := by
    intro j hj
    induction j with
    | zero => rfl
    | succ j ih =>
      have e : (xss ++ [c]).getD j [] = xss.getD j [] := by
        simp only [List.getD]; rw [List.getElem?_append_left (by omega)]
      show (if ((xss ++ [c]).getD j []).length % 2 = 0 then !(oddTo (xss ++ [c]) j) else oddTo (xss ++ [c]) j) = (if (xss.getD j []).length % 2 = 0 then !(oddTo xss j) else oddTo xss j)
      rw [e, ih (by omega)]
  have e : (xss ++ [c]).getD xss.length [] = c := by simp [List.getD]
  show (if ((xss ++ [c]).getD xss.length []).length % 2 = 0 then !(oddTo (xss ++ [c]) xss.length) else oddTo (xss ++ [c]) xss.length) = _
  rw [e, hp _ (Nat.le_refl _)]

theorem gk_inv {r : List Int} (hr : isRow r) (k : Nat) (hkl : k ≤ r.length) :
    (∀ a b, a < r.length → b < r.length → gk r k a = gk r k b → a = b) ∧ inv r.length (gk r k) % 2 = (if oddTo (cycsTo r k) (cycsTo r k).length = true then 1 else 0) := by
  induction k with
  | zero =>
    have e : ∀ i, gk r 0 i = i := fun i => by unfold gk; rw [if_neg (by simp [cycsTo])]
    refine ⟨fun a b _ _ h => by rwa [e, e] at h, ?_⟩
    rw [inv_congr (fun i _ => e i), inv_id]; rfl
  | succ k ih =>
    obtain ⟨i1, i2⟩ := ih (by omega)
    by_cases h : (k : Int) ∈ (cycsTo r k).flatten
    · have e : cycsTo r (k + 1) = cycsTo r k := by rw [cycsTo_succ, if_pos h]
      have e2 : ∀ i, gk r (k + 1) i = gk r k i := fun i => by unfold gk; rw [e]
      refine ⟨fun a b ha hb h' => i1 a b ha hb (by rwa [e2, e2] at h'), ?_⟩
      rw [inv_congr (fun i _ => e2 i), e]; exact i2
    · have hlt : k < r.length := by omega
      obtain ⟨p1, _, _, _⟩ := per_spec hr hlt
      obtain ⟨j1, j2⟩ := hk_inv hr hlt h i1 (per r k - 1) (by omega)
      have e := hk_end hr hlt h
      refine ⟨fun a b ha hb h' => j1 a b ha hb (by rw [e, e]; exact h'), ?_⟩
      rw [← inv_congr (fun i _ => e i), j2]
      have e3 : cycsTo r (k + 1) = cycsTo r k ++ [orb r k (per r k)] := by rw [cycsTo_succ, if_neg h]
      rw [e3, List.length_append, show ([orb r k (per r k)] : List (List Int)).length = 1 from rfl, oddTo_snoc, orb_length]
      cases hd : oddTo (cycsTo r k) (cycsTo r k).length with
      | true =>
        rw [hd] at i2
        simp only [if_true] at i2
        by_cases hp : per r k % 2 = 0
        · rw [if_pos hp]; simp; omega
        · rw [if_neg hp]; simp; omega
      | false =>
        rw [hd] at i2
        simp at i2
        by_cases hp : per r k % 2 = 0
        · rw [if_pos hp]; simp; omega
        · rw [if_neg hp]; simp; omega

theorem flat_all {r : List Int} (hr : isRow r) (k : Nat) (hkl : k ≤ r.length) (i : Nat) (hi : i < k) : (i : Int) ∈ (cycsTo r k).flatten := by
  induction k with
  | zero => omega
  | succ k ih =>
    rw [cycsTo_succ]
    by_cases h : (k : Int) ∈ (cycsTo r k).flatten
    · rw [if_pos h]
      by_cases e : i = k
      · subst e; exact h
      · exact ih (by omega) (by omega)
    · rw [if_neg h, List.flatten_append]
      by_cases e : i = k
      · subst e
        refine List.mem_append.2 (Or.inr ?_)
        simp only [List.flatten_cons, List.flatten_nil, List.append_nil]
        exact mem_orb.2 ⟨0, by have := (per_spec hr (show i < r.length by omega)).1; omega, rfl⟩
      · exact List.mem_append.2 (Or.inl (ih (by omega) (by omega)))

/-- Is the row odd, by its cycles? -/
def odd (r : List Int) : Bool := oddTo (cycsTo r r.length) (cycsTo r r.length).length

theorem odd_inv {r : List Int} (hr : isRow r) : inv r.length (nx r) % 2 = (if odd r = true then 1 else 0) := by
  have h := (gk_inv hr r.length (Nat.le_refl _)).2
  rw [inv_congr (q := gk r r.length) (fun i hi => by unfold gk; rw [if_pos (flat_all hr _ (Nat.le_refl _) i hi)])]
  exact h

theorem nx_perm {r : List Int} (hr : isRow r) : PermOn r.length (nx r) := ⟨fun _ hi => nx_lt hr hi, fun _ _ hi hj e => nx_inj hr hi hj e⟩

theorem isRow_by {a b : List Int} (ha : isRow a) (hb : isRow b) (hl : b.length = a.length) : isRow (by_ a b) := by
  have hat : ∀ j, j < b.length → (b.getD j 0).toNat < a.length := fun j hj => by have := hb.at hj; omega
  constructor
  · intro y hy
    obtain ⟨j, hj, rfl⟩ := List.getElem_of_mem hy
    have hj' : j < b.length := by rwa [by_length] at hj
    have e := by_get (a := a) hj'
    rw [show (by_ a b).getD j 0 = (by_ a b)[j] from by simp [List.getD, List.getElem?_eq_getElem hj]] at e
    rw [e, by_length, hl]
    exact ha.at (hat j hj')
  · rw [List.nodup_iff_pairwise_ne, List.pairwise_iff_getElem]
    intro i j hi hj hij e
    have hi' : i < b.length := by rwa [by_length] at hi
    have hj' : j < b.length := by rwa [by_length] at hj
    have e1 := by_get (a := a) hi'
    have e2 := by_get (a := a) hj'
    rw [show (by_ a b).getD i 0 = (by_ a b)[i] from by simp [List.getD, List.getElem?_eq_getElem hi]] at e1
    rw [show (by_ a b).getD j 0 = (by_ a b)[j] from by simp [List.getD, List.getElem?_eq_getElem hj]] at e2
    rw [e1, e2] at e
    have h1 := ha.inj (hat i hi') (hat j hj') e
    have b1 := hb.at hi'
    have b2 := hb.at hj'
    have := hb.inj hi' hj' (by omega)
    omega

theorem nx_by {a b : List Int} {i : Nat} (hi : i < b.length) : nx (by_ a b) i = nx a (nx b i) := by
  unfold nx; rw [by_get hi]

theorem odd_by {a b : List Int} (ha : isRow a) (hb : isRow b) (hl : b.length = a.length) : odd (by_ a b) = (odd a != odd b) := by
  have h1 := odd_inv (isRow_by ha hb hl)
  have h2 := odd_inv ha
  have h3 := odd_inv hb
  rw [by_length, inv_congr (fun i hi => nx_by hi), inv_mul (nx_perm hb) (by rw [hl]; exact (nx_perm ha).2)] at h1
  rw [hl] at h1 h3
  cases e1 : odd (by_ a b) <;> cases e2 : odd a <;> cases e3 : odd b <;> rw [e1] at h1 <;> rw [e2] at h2 <;> rw [e3] at h3 <;> simp at h1 h2 h3 ⊢ <;> omega

end Go.Proofs.Ytgglbafcocbhbaa
