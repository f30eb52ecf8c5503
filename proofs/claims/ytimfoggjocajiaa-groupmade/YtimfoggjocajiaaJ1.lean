/- Joined: Sum, Sign, Text, Bell, Read, At, Ranks, Grp, Chn. -/
import Derived.Test.YtimfoggjocajiaaJ0
import Derived.WalkSmall
import Derived.Lib.OthersKept
import Derived.Shelf.Slices.Delete
import Derived.Lib.OwnBridge
/- Plain: sums over places, the number of pairs that are the wrong way about, and that its parity is multiplied by composition. -/
namespace Go.Proofs.Ytimfoggjocajiaa

/-- The sum of f over 0 .. n - 1. -/
def S : Nat → (Nat → Nat) → Nat
  | 0, _ => 0
  | n + 1, f => S n f + f n

theorem S_congr {n : Nat} {f g : Nat → Nat} (h : ∀ i, i < n → f i = g i) : S n f = S n g := by
  induction n with
  | zero => rfl
  | succ n ih => show S n f + f n = S n g + g n; rw [ih (fun i hi => h i (by omega)), h n (by omega)]

theorem S_add (n : Nat) (f g : Nat → Nat) : S n (fun i => f i + g i) = S n f + S n g := by
  induction n with
  | zero => rfl
  | succ n ih => show S n (fun i => f i + g i) + (f n + g n) = (S n f + f n) + (S n g + g n); rw [ih]; omega

theorem S_mul (n c : Nat) (f : Nat → Nat) : S n (fun i => c * f i) = c * S n f := by
  induction n with
  | zero => rfl
  | succ n ih => show S n (fun i => c * f i) + c * f n = c * (S n f + f n); rw [ih, Nat.mul_add]

theorem S_zero (n : Nat) : S n (fun _ => 0) = 0 := by
  induction n with
  | zero => rfl
  | succ n ih => show S n (fun _ => 0) + 0 = 0; rw [ih]

/-- How many lie in an interval. -/
theorem S_between (n a b : Nat) (hab : a ≤ b) (hb : b ≤ n) : S n (fun i => if a ≤ i ∧ i < b then 1 else 0) = b - a := by
  induction n with
  | zero => show 0 = b - a; omega
  | succ n ih =>
    show S n (fun i => if a ≤ i ∧ i < b then 1 else 0) + (if a ≤ n ∧ n < b then 1 else 0) = b - a
    by_cases h : b ≤ n
    · rw [ih h, if_neg (by omega)]; rfl
    · have hbn : b = n + 1 := by omega
      subst hbn
      by_cases h2 : a ≤ n
      · have : S n (fun i => if a ≤ i ∧ i < n + 1 then 1 else 0) = S n (fun i => if a ≤ i ∧ i < n then 1 else 0) := S_congr (fun i hi => by
          by_cases h3 : a ≤ i
          · rw [if_pos ⟨h3, by omega⟩, if_pos ⟨h3, hi⟩]
          · rw [if_neg (fun h => h3 h.1), if_neg (fun h => h3 h.1)])
        rw [if_pos ⟨h2, by omega⟩]
        have key : ∀ m a, a ≤ m → S m (fun i => if a ≤ i ∧ i < m + 1 then 1 else 0) = m - a := by
          intro m a hm
          clear ih this
          induction m with
          | zero => show 0 = 0 - a; omega
          | succ m ihm =>
            show S m (fun i => if a ≤ i ∧ i < m + 1 + 1 then 1 else 0) + (if a ≤ m ∧ m < m + 1 + 1 then 1 else 0) = m + 1 - a
            have e : S m (fun i => if a ≤ i ∧ i < m + 1 + 1 then 1 else 0) = S m (fun i => if a ≤ i ∧ i < m + 1 then 1 else 0) := S_congr (fun i hi => by
              by_cases h3 : a ≤ i
              · rw [if_pos ⟨h3, by omega⟩, if_pos ⟨h3, by omega⟩]
              · rw [if_neg (fun h => h3 h.1), if_neg (fun h => h3 h.1)])
            rw [e]
            by_cases h4 : a ≤ m
            · rw [ihm h4, if_pos ⟨h4, by omega⟩]; omega
            · have z : S m (fun i => if a ≤ i ∧ i < m + 1 then 1 else 0) = S m (fun _ => 0) := S_congr (fun i hi => by rw [if_neg (by omega)])
              rw [z, S_zero, if_neg (by omega)]; omega
        rw [key n a h2]; omega
      · have z : S n (fun i => if a ≤ i ∧ i < n + 1 then 1 else 0) = S n (fun _ => 0) := S_congr (fun i hi => by rw [if_neg (by omega)])
        rw [z, S_zero, if_neg (by omega)]; omega

theorem S_swap2 (n : Nat) (F : Nat → Nat → Nat) (hs : ∀ i j, i < n → j < n → F i j = F j i) (h0 : ∀ i, i < n → F i i = 0) : S n (fun i => S n (fun j => F i j)) = 2 * S n (fun i => S i (fun j => F i j)) := by
  induction n with
  | zero => rfl
  | succ n ih =>
    show S n (fun i => S n (fun j => F i j) + F i n) + (S n (fun j => F n j) + F n n) = 2 * (S n (fun i => S i (fun j => F i j)) + S n (fun j => F n j))
    rw [S_add, ih (fun i j hi hj => hs i j (by omega) (by omega)) (fun i hi => h0 i (by omega)), h0 n (by omega), S_congr (fun i hi => hs i n (by omega) (by omega) : ∀ i, i < n → F i n = F n i)]
    generalize S n (fun i => S i (fun j => F i j)) = A
    show 2 * A + S n (F n) + (S n (F n) + 0) = 2 * (A + S n (F n))
    omega

/-- A sum over a list. -/
def Ls (f : Nat → Nat) : List Nat → Nat
  | [] => 0
  | x :: xs => f x + Ls f xs

theorem Ls_perm {f : Nat → Nat} {l m : List Nat} (h : l.Perm m) : Ls f l = Ls f m := by
  induction h with
  | nil => rfl
  | cons x _ ih => show f x + _ = f x + _; rw [ih]
  | swap x y l => show f y + (f x + Ls f l) = f x + (f y + Ls f l); omega
  | trans _ _ h1 h2 => rw [h1, h2]

theorem Ls_append (f : Nat → Nat) (l m : List Nat) : Ls f (l ++ m) = Ls f l + Ls f m := by
  induction l with
  | nil => show _ = 0 + _; rw [Nat.zero_add]; rfl
  | cons x l ih => show f x + Ls f (l ++ m) = f x + Ls f l + Ls f m; rw [ih]; omega

theorem S_list (f q : Nat → Nat) (n : Nat) : S n (fun i => f (q i)) = Ls f ((List.range n).map q) := by
  induction n with
  | zero => rfl
  | succ n ih =>
    show S n (fun i => f (q i)) + f (q n) = _
    rw [ih, List.range_succ, List.map_append, Ls_append]
    rfl

/-- q is a permutation of 0 .. n - 1. -/
def PermOn (n : Nat) (q : Nat → Nat) : Prop := (∀ i, i < n → q i < n) ∧ ∀ i j, i < n → j < n → q i = q j → i = j

theorem perm_list {n : Nat} {q : Nat → Nat} (h : PermOn n q) : ((List.range n).map q).Perm (List.range n) := by
  have hd : ((List.range n).map q).Nodup := by
    rw [List.nodup_iff_pairwise_ne, List.pairwise_map]
    refine List.Pairwise.imp_of_mem ?_ (List.pairwise_lt_range (n := n))
    intro i j hi hj hij e
    rw [List.mem_range] at hi hj
    have := h.2 i j hi hj e
    omega
  have hsub : ∀ (l m : List Nat), l.Nodup → (∀ x ∈ l, x ∈ m) → l.length = m.length → l.Perm m := by
    intro l
    induction l with
    | nil => intro m _ _ hl; rw [List.length_eq_zero_iff.1 hl.symm]
    | cons a l ih =>
      intro m hn hs hl
      have ha : a ∈ m := hs a List.mem_cons_self
      have hn' := List.nodup_cons.1 hn
      have h1 := ih (m.erase a) hn'.2 (fun x hx => (List.mem_erase_of_ne (fun e => hn'.1 (by rw [← e]; exact hx))).2 (hs x (List.mem_cons_of_mem _ hx))) (by rw [List.length_erase_of_mem ha]; simp at hl; omega)
      exact (h1.cons a).trans (List.perm_cons_erase ha).symm
  refine hsub _ _ hd (fun x hx => ?_) (by simp)
  obtain ⟨i, hi, rfl⟩ := List.mem_map.1 hx
  exact List.mem_range.2 (h.1 i (List.mem_range.1 hi))

theorem S_perm {n : Nat} {q : Nat → Nat} (h : PermOn n q) (f : Nat → Nat) : S n (fun i => f (q i)) = S n f := by
  rw [S_list f q n, Ls_perm (perm_list h)]
  have := S_list f (fun x => x) n
  simpa using this.symm

/-- 1, if the two are not the same. -/
def ne (x y : Bool) : Nat := if x = y then 0 else 1

theorem ne_tri (x y z : Bool) : ne x z + 2 * (ne x y * ne y z) = ne x y + ne y z := by cases x <;> cases y <;> cases z <;> decide

/-- Are the places i and j, in p, about as they are? -/
def dis (p : Nat → Nat) (i j : Nat) : Nat := ne (decide (i < j)) (decide (p i < p j))

theorem dis_sym {p : Nat → Nat} {i j : Nat} (h : p i = p j → i = j) : dis p i j = dis p j i := by
  unfold dis
  by_cases e : i = j
  · subst e; rfl
  · have e2 : p i ≠ p j := fun h' => e (h h')
    have h1 : decide (j < i) = !decide (i < j) := by by_cases h3 : i < j <;> simp [h3] <;> omega
    have h2 : decide (p j < p i) = !decide (p i < p j) := by by_cases h3 : p i < p j <;> simp [h3] <;> omega
    rw [h1, h2]
    cases decide (i < j) <;> cases decide (p i < p j) <;> decide

theorem dis_self (p : Nat → Nat) (i : Nat) : dis p i i = 0 := by unfold dis; simp [ne]

/-- The number of pairs that are the wrong way about. -/
def inv (n : Nat) (p : Nat → Nat) : Nat := S n (fun i => S i (fun j => dis p i j))

theorem inv_two {n : Nat} {p : Nat → Nat} (h : ∀ i j, i < n → j < n → p i = p j → i = j) : S n (fun i => S n (fun j => dis p i j)) = 2 * inv n p :=
  S_swap2 n _ (fun i j hi hj => dis_sym (h i j hi hj)) (fun i _ => dis_self p i)

theorem inv_congr {n : Nat} {p q : Nat → Nat} (h : ∀ i, i < n → p i = q i) : inv n p = inv n q :=
  S_congr (fun i hi => S_congr (fun j hj => by unfold dis; rw [h i hi, h j (by omega)]))

theorem inv_mul {n : Nat} {p q : Nat → Nat} (hq : PermOn n q) (hp : ∀ i j, i < n → j < n → p i = p j → i = j) : inv n (fun i => p (q i)) % 2 = (inv n p + inv n q) % 2 := by
  have hpq : ∀ i j, i < n → j < n → p (q i) = p (q j) → i = j := fun i j hi hj e => hq.2 i j hi hj (hp _ _ (hq.1 i hi) (hq.1 j hj) e)
  have hC := inv_two (p := fun i => p (q i)) hpq
  have hA := inv_two (p := q) hq.2
  have hB : S n (fun i => S n (fun j => dis p (q i) (q j))) = 2 * inv n p := by
    rw [← inv_two hp]
    rw [← S_perm hq (fun a => S n (fun b => dis p a b))]
    exact S_congr (fun i _ => S_perm hq (fun b => dis p (q i) b))
  have hM := S_swap2 n (fun i j => dis q i j * dis p (q i) (q j)) (fun i j hi hj => by rw [dis_sym (hq.2 i j hi hj), dis_sym (hp _ _ (hq.1 i hi) (hq.1 j hj))]) (fun i _ => by rw [dis_self, Nat.zero_mul])
  have key : S n (fun i => S n (fun j => dis (fun i => p (q i)) i j)) + 2 * S n (fun i => S n (fun j => dis q i j * dis p (q i) (q j))) = S n (fun i => S n (fun j => dis q i j)) + S n (fun i => S n (fun j => dis p (q i) (q j))) := by
    rw [← S_mul, ← S_add, ← S_add]
    refine S_congr (fun i _ => ?_)
    rw [← S_mul, ← S_add, ← S_add]
    exact S_congr (fun j _ => ne_tri _ _ _)
  rw [hC, hM, hA, hB] at key
  omega

/-- Two places exchanged. -/
def swp (a b i : Nat) : Nat := if i = a then b else if i = b then a else i

theorem swp_perm {n a b : Nat} (ha : a < n) (hb : b < n) : PermOn n (swp a b) := by
  constructor
  · intro i hi; unfold swp; split <;> (try split) <;> omega
  · intro i j _ _ e
    unfold swp at e
    split at e <;> split at e <;> (try split at e) <;> (try split at e) <;> omega

theorem swp_comm (a b i : Nat) : swp a b i = swp b a i := by unfold swp; split <;> split <;> omega

theorem inv_swp_lt {n a b : Nat} (hab : a < b) (hb : b < n) : inv n (swp a b) % 2 = 1 := by
  have hrow : ∀ i, i < n → S i (fun j => dis (swp a b) i j) = (if a + 1 ≤ i ∧ i < b then 1 else 0) + (b - a) * (if b ≤ i ∧ i < b + 1 then 1 else 0) := by
    intro i hi
    by_cases h1 : i = b
    · subst h1
      rw [if_neg (by omega), if_pos (by omega), ← S_between i a i (by omega) (Nat.le_refl _)]
      rw [Nat.zero_add, Nat.mul_one]
      refine S_congr (fun j hj => ?_)
      unfold dis swp
      rw [if_neg (by omega : ¬ i = a), if_pos rfl, decide_eq_false (by omega : ¬ i < j)]
      by_cases h2 : a ≤ j
      · by_cases h3 : j = a
        · rw [if_pos h3, decide_eq_true (by omega), if_pos ⟨h2, hj⟩]; rfl
        · rw [if_neg h3, if_neg (by omega), decide_eq_true (by omega), if_pos ⟨h2, hj⟩]; rfl
      · rw [if_neg (by omega : ¬ j = a), if_neg (by omega : ¬ j = i), decide_eq_false (by omega), if_neg (by omega)]; rfl
    · rw [if_neg (by omega : ¬ (b ≤ i ∧ i < b + 1)), Nat.mul_zero, Nat.add_zero]
      by_cases h2 : a + 1 ≤ i ∧ i < b
      · rw [if_pos h2, show (1 : Nat) = a + 1 - a from by omega, ← S_between i a (a + 1) (by omega) (by omega)]
        refine S_congr (fun j hj => ?_)
        unfold dis swp
        rw [if_neg (by omega : ¬ i = a), if_neg h1, decide_eq_false (by omega : ¬ i < j)]
        by_cases h3 : j = a
        · rw [if_pos h3, decide_eq_true (by omega), if_pos (by omega)]; rfl
        · rw [if_neg h3, if_neg (by omega), decide_eq_false (by omega), if_neg (by omega)]; rfl
      · rw [if_neg h2, ← S_zero i]
        refine S_congr (fun j hj => ?_)
        unfold dis swp
        rw [decide_eq_false (by omega : ¬ i < j)]
        by_cases h3 : i = a
        · rw [if_pos h3, if_neg (by omega), if_neg (by omega), decide_eq_false (by omega)]; rfl
        · rw [if_neg h3, if_neg h1]
          by_cases h4 : j = a
          · rw [if_pos h4, decide_eq_false (by omega)]; rfl
          · rw [if_neg h4]
            by_cases h5 : j = b
            · rw [if_pos h5, decide_eq_false (by omega)]; rfl
            · rw [if_neg h5, decide_eq_false (by omega)]; rfl
  have h : inv n (swp a b) = (b - (a + 1)) + (b - a) * 1 := by
    unfold inv
    rw [S_congr hrow, S_add, S_between n (a + 1) b (by omega) (by omega), S_mul, S_between n b (b + 1) (by omega) (by omega), show b + 1 - b = 1 from by omega]
  rw [h]; omega

theorem inv_swp {n a b : Nat} (hne : a ≠ b) (ha : a < n) (hb : b < n) : inv n (swp a b) % 2 = 1 := by
  rcases Nat.lt_or_gt_of_ne hne with h | h
  · exact inv_swp_lt h hb
  · rw [inv_congr (fun i _ => swp_comm a b i)]; exact inv_swp_lt h ha

theorem inv_id (n : Nat) : inv n (fun i => i) = 0 := by
  unfold inv
  rw [← S_zero n]
  refine S_congr (fun i hi => ?_)
  rw [← S_zero i]
  exact S_congr (fun j _ => by unfold dis; simp [ne])

end Go.Proofs.Ytimfoggjocajiaa

/- Plain: the parity that the cycles tell is the parity of the pairs that are the wrong way about. -/
namespace Go.Proofs.Ytimfoggjocajiaa

theorem cycsTo_succ (r : List Int) (k : Nat) : cycsTo r (k + 1) = if (k : Int) ∈ (cycsTo r k).flatten then cycsTo r k else cycsTo r k ++ [orb r k (per r k)] := rfl

theorem mem_orb {r : List Int} {x p : Nat} {y : Int} : y ∈ orb r x p ↔ ∃ i, i < p ∧ y = ((it r i x : Nat) : Int) := by
  unfold orb
  rw [List.mem_map]
  constructor
  · rintro ⟨i, hi, rfl⟩; exact ⟨i, List.mem_range.1 hi, rfl⟩
  · rintro ⟨i, hi, rfl⟩; exact ⟨i, List.mem_range.2 hi, rfl⟩

theorem cyc_form {r : List Int} {k : Nat} {c : List Int} (h : c ∈ cycsTo r k) : ∃ y, y < k ∧ c = orb r y (per r y) := by
  induction k with
  | zero => cases h
  | succ k ih =>
    rw [cycsTo_succ] at h
    split at h
    · obtain ⟨y, hy, e⟩ := ih h; exact ⟨y, by omega, e⟩
    · rcases List.mem_append.1 h with h | h
      · obtain ⟨y, hy, e⟩ := ih h; exact ⟨y, by omega, e⟩
      · exact ⟨k, by omega, List.mem_singleton.1 h⟩

theorem flat_back {r : List Int} (hr : isRow r) {k i : Nat} (hk : k ≤ r.length) (hi : i < r.length) (h : ((nx r i : Nat) : Int) ∈ (cycsTo r k).flatten) : (i : Int) ∈ (cycsTo r k).flatten := by
  obtain ⟨c, hc, hm⟩ := List.mem_flatten.1 h
  obtain ⟨y, hy, rfl⟩ := cyc_form hc
  obtain ⟨j, hj, e⟩ := mem_orb.1 hm
  have hy' : y < r.length := by omega
  obtain ⟨p1, _, p3, _⟩ := per_spec hr hy'
  refine List.mem_flatten.2 ⟨_, hc, mem_orb.2 ?_⟩
  have e' : nx r i = it r j y := by omega
  cases j with
  | zero =>
    refine ⟨per r y - 1, by omega, ?_⟩
    have e2 : nx r i = nx r (it r (per r y - 1) y) := by
      rw [e']
      show y = it r (per r y - 1 + 1) y
      rw [show per r y - 1 + 1 = per r y from by omega, p3]
    rw [nx_inj hr hi (it_lt hr hy' _) e2]
  | succ j =>
    refine ⟨j, by omega, ?_⟩
    rw [nx_inj hr hi (it_lt hr hy' j) e']

theorem it_notin {r : List Int} (hr : isRow r) {k : Nat} (hk : k < r.length) (h : ¬ (k : Int) ∈ (cycsTo r k).flatten) (j : Nat) : ¬ ((it r j k : Nat) : Int) ∈ (cycsTo r k).flatten := by
  induction j with
  | zero => exact h
  | succ j ih => exact fun h' => ih (flat_back hr (by omega) (it_lt hr hk j) h')

theorem orb_inj {r : List Int} (hr : isRow r) {x i j : Nat} (hx : x < r.length) (hi : i < per r x) (hj : j < per r x) (e : it r i x = it r j x) : i = j := by
  obtain ⟨_, _, _, p4⟩ := per_spec hr hx
  have key : ∀ i j, i < j → j < per r x → it r i x ≠ it r j x := by
    intro i j hij hj e
    have e1 : it r j x = it r i (it r (j - i) x) := by rw [← it_add, show i + (j - i) = j from by omega]
    rw [e1] at e
    have e2 := it_inj hr hx (it_lt hr hx (j - i)) i e
    exact p4 (j - i) (by omega) (by omega) e2.symm
  rcases Nat.lt_trichotomy i j with h | h | h
  · exact absurd e (key i j h hj)
  · exact h
  · exact absurd e.symm (key j i h hi)

/-- r on the cycles that are found so far; else nothing is moved. -/
def gk (r : List Int) (k i : Nat) : Nat := if (i : Int) ∈ (cycsTo r k).flatten then nx r i else i

/-- .. and j steps of the next cycle. -/
def hk (r : List Int) (k j i : Nat) : Nat := if (i : Int) ∈ (cycsTo r k).flatten then nx r i else if (i : Int) ∈ orb r k j then nx r i else if i = it r j k then k else i

theorem hk_zero (r : List Int) (k i : Nat) : hk r k 0 i = gk r k i := by
  unfold hk gk
  split
  · rfl
  · rw [if_neg (by simp [orb])]
    show (if i = k then k else i) = i
    split
    · omega
    · rfl

theorem hk_step {r : List Int} (hr : isRow r) {k j i : Nat} (hkl : k < r.length) (hn : ¬ (k : Int) ∈ (cycsTo r k).flatten) (hj : j + 1 < per r k) : hk r k (j + 1) i = hk r k j (swp (it r j k) (it r (j + 1) k) i) := by
  have n1 := it_notin hr hkl hn j
  have n2 := it_notin hr hkl hn (j + 1)
  have hne : it r j k ≠ it r (j + 1) k := fun e => by have := orb_inj hr hkl (by omega) hj e; omega
  have m1 : ¬ ((it r (j + 1) k : Nat) : Int) ∈ orb r k (j + 1) := by
    intro h
    obtain ⟨a, ha, e⟩ := mem_orb.1 h
    have := orb_inj hr hkl hj (by omega) (show it r (j + 1) k = it r a k by omega)
    omega
  have m2 : ¬ ((it r (j + 1) k : Nat) : Int) ∈ orb r k j := by
    intro h
    obtain ⟨a, ha, e⟩ := mem_orb.1 h
    exact m1 (mem_orb.2 ⟨a, by omega, e⟩)
  have m3 : ¬ ((it r j k : Nat) : Int) ∈ orb r k j := by
    intro h
    obtain ⟨a, ha, e⟩ := mem_orb.1 h
    have := orb_inj hr hkl (show j < per r k by omega) (by omega) (show it r j k = it r a k by omega)
    omega
  by_cases h1 : i = it r j k
  · subst h1
    have e : swp (it r j k) (it r (j + 1) k) (it r j k) = it r (j + 1) k := by unfold swp; rw [if_pos rfl]
    rw [e]
    unfold hk
    rw [if_neg n1, if_pos (mem_orb.2 ⟨j, by omega, rfl⟩), if_neg n2, if_neg m2, if_neg (Ne.symm hne)]
    rfl
  · by_cases h2 : i = it r (j + 1) k
    · subst h2
      have e : swp (it r j k) (it r (j + 1) k) (it r (j + 1) k) = it r j k := by unfold swp; rw [if_neg (Ne.symm hne), if_pos rfl]
      rw [e]
      unfold hk
      rw [if_neg n2, if_neg m1, if_pos rfl, if_neg n1, if_neg m3, if_pos rfl]
    · have e : swp (it r j k) (it r (j + 1) k) i = i := by unfold swp; rw [if_neg h1, if_neg h2]
      rw [e]
      unfold hk
      by_cases h3 : (i : Int) ∈ (cycsTo r k).flatten
      · rw [if_pos h3, if_pos h3]
      · rw [if_neg h3, if_neg h3, if_neg h2, if_neg h1]
        have : ((i : Int) ∈ orb r k (j + 1)) ↔ ((i : Int) ∈ orb r k j) := by
          rw [mem_orb, mem_orb]
          constructor
          · rintro ⟨a, ha, e⟩
            by_cases e2 : a = j
            · subst e2; exact absurd (by omega) h1
            · exact ⟨a, by omega, e⟩
          · rintro ⟨a, ha, e⟩; exact ⟨a, by omega, e⟩
        by_cases h4 : (i : Int) ∈ orb r k j
        · rw [if_pos (this.2 h4), if_pos h4]
        · rw [if_neg (fun h => h4 (this.1 h)), if_neg h4]

theorem hk_end {r : List Int} (hr : isRow r) {k : Nat} (hkl : k < r.length) (hn : ¬ (k : Int) ∈ (cycsTo r k).flatten) (i : Nat) : hk r k (per r k - 1) i = gk r (k + 1) i := by
  obtain ⟨p1, _, p3, _⟩ := per_spec hr hkl
  unfold hk gk
  rw [cycsTo_succ, if_neg hn, List.flatten_append]
  have hm : ((i : Int) ∈ (cycsTo r k).flatten ++ [orb r k (per r k)].flatten) ↔ ((i : Int) ∈ (cycsTo r k).flatten ∨ (i : Int) ∈ orb r k (per r k)) := by simp
  by_cases h1 : (i : Int) ∈ (cycsTo r k).flatten
  · rw [if_pos h1, if_pos (hm.2 (Or.inl h1))]
  · rw [if_neg h1]
    by_cases h2 : (i : Int) ∈ orb r k (per r k - 1)
    · obtain ⟨a, ha, e⟩ := mem_orb.1 h2
      rw [if_pos h2, if_pos (hm.2 (Or.inr (mem_orb.2 ⟨a, by omega, e⟩)))]
    · rw [if_neg h2]
      by_cases h3 : i = it r (per r k - 1) k
      · rw [if_pos h3, if_pos (hm.2 (Or.inr (mem_orb.2 ⟨per r k - 1, by omega, by omega⟩)))]
        subst h3
        show k = it r (per r k - 1 + 1) k
        rw [show per r k - 1 + 1 = per r k from by omega, p3]
      · rw [if_neg h3, if_neg]
        intro h
        rcases hm.1 h with h | h
        · exact h1 h
        · obtain ⟨a, ha, e⟩ := mem_orb.1 h
          by_cases e2 : a = per r k - 1
          · subst e2; exact h3 (by omega)
          · exact h2 (mem_orb.2 ⟨a, by omega, e⟩)

theorem hk_inv {r : List Int} (hr : isRow r) {k : Nat} (hkl : k < r.length) (hn : ¬ (k : Int) ∈ (cycsTo r k).flatten) (hg : ∀ i j, i < r.length → j < r.length → gk r k i = gk r k j → i = j) (j : Nat) (hj : j < per r k) :
    (∀ a b, a < r.length → b < r.length → hk r k j a = hk r k j b → a = b) ∧ inv r.length (hk r k j) % 2 = (inv r.length (gk r k) + j) % 2 := by
  induction j with
  | zero =>
    refine ⟨fun a b ha hb e => hg a b ha hb (by rw [← hk_zero, ← hk_zero]; exact e), ?_⟩
    rw [inv_congr (fun i _ => hk_zero r k i)]; rfl
  | succ j ih =>
    obtain ⟨i1, i2⟩ := ih (by omega)
    have hl1 := it_lt hr hkl j
    have hl2 := it_lt hr hkl (j + 1)
    have hp := swp_perm hl1 hl2
    have hne : it r j k ≠ it r (j + 1) k := fun e => by have := orb_inj hr hkl (by omega) hj e; omega
    constructor
    · intro a b ha hb e
      rw [hk_step hr hkl hn hj, hk_step hr hkl hn hj] at e
      exact hp.2 a b ha hb (i1 _ _ (hp.1 a ha) (hp.1 b hb) e)
    · rw [inv_congr (fun i _ => hk_step hr hkl hn hj), inv_mul hp i1]
      have := inv_swp hne hl1 hl2
      omega

theorem oddTo_snoc (xss : List (List Int)) (c : List Int) : oddTo (xss ++ [c]) (xss.length + 1) = if c.length % 2 = 0 then !(oddTo xss xss.length) else oddTo xss xss.length := by
  have hp : ∀ j, j ≤ xss.length → oddTo (xss ++ [c]) j = oddTo xss j := by
    intro j hj
    induction j with
    | zero => rfl
    | succ j ih =>
      have e : (xss ++ [c]).getD j [] = xss.getD j [] := by
        simp only [List.getD]; rw [List.getElem?_append_left (by omega)]
      show (if ((xss ++ [c]).getD j []).length % 2 = 0 then !(oddTo (xss ++ [c]) j) else oddTo (xss ++ [c]) j) = (if (xss.getD j []).length % 2 = 0 then !(oddTo xss j) else oddTo xss j)
      rw [e, ih (by omega)]
  have e : (xss ++ [c]).getD xss.length [] = c := by simp [List.getD]
  show (if ((xss ++ [c]).getD xss.length []).length % 2 = 0 then !(oddTo (xss ++ [c]) xss.length) else oddTo (xss ++ [c]) xss.length) = _
  rw [e, hp _ (Nat.le_refl _)]

theorem gk_inv {r : List Int} (hr : isRow r) (k : Nat) (hkl : k ≤ r.length) :
    (∀ a b, a < r.length → b < r.length → gk r k a = gk r k b → a = b) ∧ inv r.length (gk r k) % 2 = (if oddTo (cycsTo r k) (cycsTo r k).length = true then 1 else 0) := by
  induction k with
  | zero =>
    have e : ∀ i, gk r 0 i = i := fun i => by unfold gk; rw [if_neg (by simp [cycsTo])]
    refine ⟨fun a b _ _ h => by rwa [e, e] at h, ?_⟩
    rw [inv_congr (fun i _ => e i), inv_id]; rfl
  | succ k ih =>
    obtain ⟨i1, i2⟩ := ih (by omega)
    by_cases h : (k : Int) ∈ (cycsTo r k).flatten
    · have e : cycsTo r (k + 1) = cycsTo r k := by rw [cycsTo_succ, if_pos h]
      have e2 : ∀ i, gk r (k + 1) i = gk r k i := fun i => by unfold gk; rw [e]
      refine ⟨fun a b ha hb h' => i1 a b ha hb (by rwa [e2, e2] at h'), ?_⟩
      rw [inv_congr (fun i _ => e2 i), e]; exact i2
    · have hlt : k < r.length := by omega
      obtain ⟨p1, _, _, _⟩ := per_spec hr hlt
      obtain ⟨j1, j2⟩ := hk_inv hr hlt h i1 (per r k - 1) (by omega)
      have e := hk_end hr hlt h
      refine ⟨fun a b ha hb h' => j1 a b ha hb (by rw [e, e]; exact h'), ?_⟩
      rw [← inv_congr (fun i _ => e i), j2]
      have e3 : cycsTo r (k + 1) = cycsTo r k ++ [orb r k (per r k)] := by rw [cycsTo_succ, if_neg h]
      rw [e3, List.length_append, show ([orb r k (per r k)] : List (List Int)).length = 1 from rfl, oddTo_snoc, orb_length]
      cases hd : oddTo (cycsTo r k) (cycsTo r k).length with
      | true =>
        rw [hd] at i2
        simp only [if_true] at i2
        by_cases hp : per r k % 2 = 0
        · rw [if_pos hp]; simp; omega
        · rw [if_neg hp]; simp; omega
      | false =>
        rw [hd] at i2
        simp at i2
        by_cases hp : per r k % 2 = 0
        · rw [if_pos hp]; simp; omega
        · rw [if_neg hp]; simp; omega

theorem flat_all {r : List Int} (hr : isRow r) (k : Nat) (hkl : k ≤ r.length) (i : Nat) (hi : i < k) : (i : Int) ∈ (cycsTo r k).flatten := by
  induction k with
  | zero => omega
  | succ k ih =>
    rw [cycsTo_succ]
    by_cases h : (k : Int) ∈ (cycsTo r k).flatten
    · rw [if_pos h]
      by_cases e : i = k
      · subst e; exact h
      · exact ih (by omega) (by omega)
    · rw [if_neg h, List.flatten_append]
      by_cases e : i = k
      · subst e
        refine List.mem_append.2 (Or.inr ?_)
        simp only [List.flatten_cons, List.flatten_nil, List.append_nil]
        exact mem_orb.2 ⟨0, by have := (per_spec hr (show i < r.length by omega)).1; omega, rfl⟩
      · exact List.mem_append.2 (Or.inl (ih (by omega) (by omega)))

/-- Is the row odd, by its cycles? -/
def odd (r : List Int) : Bool := oddTo (cycsTo r r.length) (cycsTo r r.length).length

theorem odd_inv {r : List Int} (hr : isRow r) : inv r.length (nx r) % 2 = (if odd r = true then 1 else 0) := by
  have h := (gk_inv hr r.length (Nat.le_refl _)).2
  rw [inv_congr (q := gk r r.length) (fun i hi => by unfold gk; rw [if_pos (flat_all hr _ (Nat.le_refl _) i hi)])]
  exact h

theorem nx_perm {r : List Int} (hr : isRow r) : PermOn r.length (nx r) := ⟨fun _ hi => nx_lt hr hi, fun _ _ hi hj e => nx_inj hr hi hj e⟩

theorem isRow_by {a b : List Int} (ha : isRow a) (hb : isRow b) (hl : b.length = a.length) : isRow (by_ a b) := by
  have hat : ∀ j, j < b.length → (b.getD j 0).toNat < a.length := fun j hj => by have := hb.at hj; omega
  constructor
  · intro y hy
    obtain ⟨j, hj, rfl⟩ := List.getElem_of_mem hy
    have hj' : j < b.length := by rwa [by_length] at hj
    have e := by_get (a := a) hj'
    rw [show (by_ a b).getD j 0 = (by_ a b)[j] from by simp [List.getD, List.getElem?_eq_getElem hj]] at e
    rw [e, by_length, hl]
    exact ha.at (hat j hj')
  · rw [List.nodup_iff_pairwise_ne, List.pairwise_iff_getElem]
    intro i j hi hj hij e
    have hi' : i < b.length := by rwa [by_length] at hi
    have hj' : j < b.length := by rwa [by_length] at hj
    have e1 := by_get (a := a) hi'
    have e2 := by_get (a := a) hj'
    rw [show (by_ a b).getD i 0 = (by_ a b)[i] from by simp [List.getD, List.getElem?_eq_getElem hi]] at e1
    rw [show (by_ a b).getD j 0 = (by_ a b)[j] from by simp [List.getD, List.getElem?_eq_getElem hj]] at e2
    rw [e1, e2] at e
    have h1 := ha.inj (hat i hi') (hat j hj') e
    have b1 := hb.at hi'
    have b2 := hb.at hj'
    have := hb.inj hi' hj' (by omega)
    omega

theorem nx_by {a b : List Int} {i : Nat} (hi : i < b.length) : nx (by_ a b) i = nx a (nx b i) := by
  unfold nx; rw [by_get hi]

theorem odd_by {a b : List Int} (ha : isRow a) (hb : isRow b) (hl : b.length = a.length) : odd (by_ a b) = (odd a != odd b) := by
  have h1 := odd_inv (isRow_by ha hb hl)
  have h2 := odd_inv ha
  have h3 := odd_inv hb
  rw [by_length, inv_congr (fun i hi => nx_by hi), inv_mul (nx_perm hb) (by rw [hl]; exact (nx_perm ha).2)] at h1
  rw [hl] at h1 h3
  cases e1 : odd (by_ a b) <;> cases e2 : odd a <;> cases e3 : odd b <;> rw [e1] at h1 <;> rw [e2] at h2 <;> rw [e3] at h3 <;> simp at h1 h2 h3 ⊢ <;> omega

end Go.Proofs.Ytimfoggjocajiaa

/- Contract: Text. -/
namespace Go.Proofs.Ytimfoggjocajiaa
open Go.RowKit
set_option maxRecDepth 20000

theorem Try.info5 : (Try.prog.info? 5).map (fun i => (i.zero, i.size, i.bytes)) = some (some (.int .u8 0), 1, 1) := by kernel_rfl

/-- The signs. -/
def sg (m : Nat) : Nat := [49, 50, 51, 52, 53, 54, 55, 56, 57, 48, 69, 84].getD m 0

theorem sg_lt (m : Nat) : sg m < 128 := by
  match m with
  | 0 | 1 | 2 | 3 | 4 | 5 | 6 | 7 | 8 | 9 | 10 | 11 => decide
  | n + 12 => simp [sg]

/-- The text of a row, as numbers. -/
def txt (xs : List Int) : List Int := xs.map (fun x => ((sg x.toNat : Nat) : Int))

theorem txt_length (xs : List Int) : (txt xs).length = xs.length := by simp [txt]

theorem txt_snoc (xs : List Int) (m : Nat) : txt (xs ++ [(m : Int)]) = txt xs ++ [((sg m : Nat) : Int)] := by simp [txt]

theorem index_sign (m : Nat) (hm : m < 12) (w : World) : (Instr.index 9 (.string { data := #[49, 50, 51, 52, 53, 54, 55, 56, 57, 48, 69, 84] }) (.int .i64 (m : Int))).run Try.prog w = .ok (.int .u8 ((sg m : Nat) : Int)) w := by
  rw [run_index_string w 9 _ .i64 (m : Int) Try.underlying9, dif_pos ⟨by omega, by show (m : Int) < 12; omega⟩]
  match m, hm with
  | 0, _ | 1, _ | 2, _ | 3, _ | 4, _ | 5, _ | 6, _ | 7, _ | 8, _ | 9, _ | 10, _ | 11, _ => rfl

theorem owns_bytes {w : World} {base e g n cap : Nat} {zs : List Int} (h : w.ownsRow base e 1 (.slice (some ⟨g, 0, none⟩) n cap) n (zs.map (Value.int .u8))) (j : Nat) (hj : j < n) :
    w.cell? ⟨g, 0 + j, none⟩ = some (.int .u8 (zs.getD j 0)) := by
  have hl : zs.length = n := by have := h.1; simpa using this
  have := h.cells (g := g) rfl j (.int .u8 (zs.getD j 0)) (by simp [List.getElem?_map, List.getD, List.getElem?_eq_getElem (by omega : j < zs.length)])
  rw [Addr.add_lit] at this
  exact this

end Go.Proofs.Ytimfoggjocajiaa

/- Contract: bellOf. -/
namespace Go.Proofs.Ytimfoggjocajiaa
open Go.RowKit
set_option maxRecDepth 20000

theorem byte_sign (m : Nat) (hm : m < 12) : (({ data := #[49, 50, 51, 52, 53, 54, 55, 56, 57, 48, 69, 84] } : ByteArray)[m]'(by exact hm)).toNat = sg m := by
  match m, hm with
  | 0, _ | 1, _ | 2, _ | 3, _ | 4, _ | 5, _ | 6, _ | 7, _ | 8, _ | 9, _ | 10, _ | 11, _ => rfl

theorem decode_sign (m : Nat) (hm : m < 12) : Utf8.decode { data := #[49, 50, 51, 52, 53, 54, 55, 56, 57, 48, 69, 84] } m = (sg m, 1) := by
  have h := byte_sign m hm
  rw [decode_ascii _ m (by exact hm) (by rw [h]; exact sg_lt m), h]

theorem sg_inj {i j : Nat} (hi : i < 12) (hj : j < 12) (h : sg i = sg j) : i = j := by
  have key : ∀ i : Fin 12, ∀ j : Fin 12, sg i.val = sg j.val → i = j := by decide
  have := key ⟨i, hi⟩ ⟨j, hj⟩ h
  exact congrArg Fin.val this

theorem next_sign (w : World) (k : Nat) (hk : k < 12) : ∀ ty, (Instr.next (.pointer (some ⟨w.heap.size, 0, none⟩)) true ty).run Try.prog (w.iter { data := #[49, 50, 51, 52, 53, 54, 55, 56, 57, 48, 69, 84] } k) =
    .ok (.tuple #[.bool true, .int .i64 (k : Int), .int .i32 ((sg k : Nat) : Int)]) (w.iter { data := #[49, 50, 51, 52, 53, 54, 55, 56, 57, 48, 69, 84] } (k + 1)) := by
  intro ty
  rw [run_next_any w _ k ty (by exact hk), decode_sign k hk]

theorem next_done (w : World) (k : Nat) (hk : ¬ k < 12) : ∀ ty, (Instr.next (.pointer (some ⟨w.heap.size, 0, none⟩)) true ty).run Try.prog (w.iter { data := #[49, 50, 51, 52, 53, 54, 55, 56, 57, 48, 69, 84] } k) =
    .ok (.tuple #[.bool false]) (w.iter { data := #[49, 50, 51, 52, 53, 54, 55, 56, 57, 48, 69, 84] } k) := by
  intro ty
  exact run_next_end w _ k ty (by exact hk)

theorem below_iter (w : World) (s : ByteArray) (k : Nat) : Below w.heap.size w (w.iter s k) := (Below.refl _ _).alloc (Nat.le_refl _) _

theorem ret_bell {k m : Nat} (h : k = m) : Ending.returned (.tuple #[.int .i64 (k : Int), .bool true]) = Ending.returned (.tuple #[.int .i64 (m : Int), .bool true]) := by rw [h]

end Go.Proofs.Ytimfoggjocajiaa

/- Contract: Read, at every text. -/
namespace Go.Proofs.Ytimfoggjocajiaa
open Go.RowKit Go.Lib

/-- The bell of a sign; 12: none. -/
def bl (b : UInt8) : Nat := ((List.range 12).find? (fun m => sg m == b.toNat)).getD 12

theorem bl_sg {b : UInt8} (h : bl b < 12) : sg (bl b) = b.toNat := by
  unfold bl at h ⊢
  cases hf : (List.range 12).find? (fun m => sg m == b.toNat) with
  | none => rw [hf] at h; simp at h
  | some p => rw [Option.getD_some]; simpa using List.find?_some hf

theorem bl_of {b : UInt8} {m : Nat} (hm : m < 12) (h : sg m = b.toNat) : bl b = m := by
  have h1 : bl b < 12 := by
    unfold bl
    cases hf : (List.range 12).find? (fun m => sg m == b.toNat) with
    | none =>
      have := List.find?_eq_none.1 hf m (List.mem_range.2 hm)
      simp [h] at this
    | some p =>
      rw [Option.getD_some]
      exact List.mem_range.1 (List.mem_of_find?_eq_some hf)
  have h2 := bl_sg h1
  exact sg_inj h1 hm (by rw [h2, h])

/-- The bells of a text's bytes. -/
def bells (l : List UInt8) : List Int := l.map (fun b => ((bl b : Nat) : Int))

theorem bells_length (l : List UInt8) : (bells l).length = l.length := by simp [bells]

theorem bells_snoc (s : ByteArray) (k : Nat) (h : k < s.size) : bells (s.data.toList.take (k + 1)) = bells (s.data.toList.take k) ++ [((bl (s[k]'h) : Nat) : Int)] := by
  rw [List.take_succ_eq_append_getElem (by simpa using h)]
  simp [bells]
  rfl

theorem chk_take (xs : List Int) : chk (xs.take 13) = chk xs := by
  by_cases h : xs.length ≤ 13
  · rw [List.take_of_length_le h]
  · rw [chk_count (by rw [List.length_take]; omega), chk_count (by omega)]

/-- What the loop's relation says of the world. -/
structure ReadRel (w wr : World) (s : ByteArray) (v : Value) (pos : Nat) : Prop where
  iter : wr.heap[w.heap.size]? = some (.stringIter s pos)
  signs : ∀ j, (h : j < s.size) → j < pos → bl s[j] < 12
  row : wr.ownsRow (w.heap.size + 1) 3 1 v (min pos 13) (((bells (s.data.toList.take pos)).take 13).map (Value.int .i64))
  size : w.heap.size < wr.heap.size
  below : Below w.heap.size w wr

theorem ReadRel.next {w wr w1 : World} {s : ByteArray} {v : Value} {pos : Nat} (h : ReadRel w wr s v pos) (hp : pos < s.size) (hs : bl (s[pos]'hp) < 12) (hb : Below wr.heap.size (wr.iterAt w.heap.size s (pos + 1)) w1) :
    w1.heap[w.heap.size]? = some (.stringIter s (pos + 1)) ∧ w1.ownsRow (w.heap.size + 1) 3 1 v (min pos 13) (((bells (s.data.toList.take pos)).take 13).map (Value.int .i64)) ∧ w.heap.size < w1.heap.size ∧ Below w.heap.size w w1 ∧
      ∀ j, (h : j < s.size) → j < pos + 1 → bl s[j] < 12 := by
  have hz : (wr.iterAt w.heap.size s (pos + 1)).heap.size = wr.heap.size := iterAt_size _ _ _ _
  refine ⟨?_, ?_, ?_, ?_, ?_⟩
  · rw [hb.block _ h.size]; exact iterAt_heap wr _ s pos (pos + 1) h.iter
  · exact owns_below (ownsRow_iterAt h.row (Nat.lt_succ_self _) s (pos + 1)) hb (by rw [hz]; exact Nat.le_refl _)
  · have h1 := h.size; have h2 := hb.size; omega
  · exact (below_iterAt h.below (Nat.le_refl _) s (pos + 1)).trans (hb.mono (Nat.le_of_lt h.size))
  · intro j hj hjp
    by_cases e : j = pos
    · subst e; exact hs
    · exact h.signs j hj (by omega)

theorem not_sign {s : ByteArray} {pos : Nat} (hp : pos < s.size) (hs : ¬ bl (s[pos]'hp) < 12) : ∀ m, m < 12 → (((Utf8.decode s pos).1 : Nat) : Int) ≠ ((sg m : Nat) : Int) := by
  intro m hm e
  by_cases ha : (s[pos]'hp).toNat < 128
  · rw [decode_ascii s pos hp ha] at e
    exact hs (by rw [bl_of hm (by simp only at e; omega)]; exact hm)
  · have h1 := (decode_high s pos hp (by omega)).1
    have h2 := sg_lt m
    omega

theorem ret_read {v : Value} {a b : Int} (h : a = b) : Ending.returned (.tuple #[v, .int .i64 a]) = Ending.returned (.tuple #[v, .int .i64 b]) := by rw [h]

/-- What Read answers. -/
def ReadSays (s : ByteArray) (e : Ending) (w' : World) : Prop :=
  ((∃ q, ∃ h : q < s.size, ¬ bl s[q] < 12) ∧ e = .returned (.tuple #[.slice none 0 0, .int .i64 4])) ∨
  ((∀ q, (h : q < s.size) → bl s[q] < 12) ∧ ((chk (bells s.data.toList) = 0 ∧ ∃ v, e = .returned (.tuple #[v, .int .i64 0]) ∧ Ints w' v (bells s.data.toList)) ∨
    (chk (bells s.data.toList) ≠ 0 ∧ e = .returned (.tuple #[.slice none 0 0, .int .i64 (chk (bells s.data.toList))]))))

theorem take_room {l : List Int} {pos : Nat} {m : Int} (h : l.length = pos) (h13 : pos ≤ 12) : (l ++ [m]).take 13 = l.take 13 ++ [m] := by
  rw [List.take_of_length_le (by simp; omega), List.take_of_length_le (by omega)]

theorem take_full {l : List Int} {pos : Nat} {m : Int} (h : l.length = pos) (h13 : ¬ pos ≤ 12) : (l ++ [m]).take 13 = l.take 13 := by
  rw [List.take_append_of_le_length (by omega)]

theorem bells_take_length {s : ByteArray} {pos : Nat} (h : pos ≤ s.size) : (bells (s.data.toList.take pos)).length = pos := by
  have h' : s.size = s.data.size := rfl
  rw [bells_length, List.length_take, Array.length_toList]; omega

end Go.Proofs.Ytimfoggjocajiaa

/- Contracts: slices.Delete (off the library's shelf), At. -/
namespace Go.Proofs.Ytimfoggjocajiaa
open Go.RowKit Go.Lib

theorem erase_take_drop (zs : List Int) (i : Nat) (h : i < zs.length) : (zs.take i ++ zs.drop (i + 1) ++ List.replicate (i + 1 - i) 0).take (zs.length - 1) = zs.eraseIdx i := by
  rw [List.eraseIdx_eq_take_drop_succ, List.take_append_of_le_length (by simp; omega), List.take_of_length_le (by simp; omega)]

/-- The row with a rank, out of the bells that are left. -/
def atl : Nat → List Int → Nat → List Int
  | 0, _, _ => []
  | m + 1, L, k => L.getD (k / fct m) 0 :: atl m (L.eraseIdx (k / fct m)) (k % fct m)

end Go.Proofs.Ytimfoggjocajiaa

/- Plain: the row at a rank has that rank; texts come back; what undoes a row. -/
namespace Go.Proofs.Ytimfoggjocajiaa

theorem cons_erase_perm (L : List Int) (q : Nat) (h : q < L.length) : (L.getD q 0 :: L.eraseIdx q).Perm L := by
  rw [show L.getD q 0 = L[q] from by simp [List.getD, List.getElem?_eq_getElem h]]
  have e : L = L.take q ++ L[q] :: L.drop (q + 1) := by rw [← List.drop_eq_getElem_cons h, List.take_append_drop]
  rw [List.eraseIdx_eq_take_drop_succ]
  exact (List.perm_middle (l₁ := L.take q)).symm.trans (by rw [← e])

theorem atl_perm : ∀ (m : Nat) (L : List Int) (k : Nat), L.length = m → k < fct m → (atl m L k).Perm L
  | 0, L, _, hl, _ => by rw [List.length_eq_zero_iff.1 hl]; exact List.Perm.refl _
  | m + 1, L, k, hl, hk => by
    have hG := fct_pos m
    have hq : k / fct m < L.length := by rw [hl, Nat.div_lt_iff_lt_mul hG]; exact hk
    have ih := atl_perm m (L.eraseIdx (k / fct m)) (k % fct m) (by rw [List.length_eraseIdx_of_lt hq]; omega) (Nat.mod_lt _ hG)
    exact (ih.cons _).trans (cons_erase_perm L _ hq)

theorem rnd_sorted (n : Nat) : (rnd n).Pairwise (· < ·) := by
  unfold rnd
  rw [List.pairwise_map]
  exact List.Pairwise.imp (fun h => by omega) (List.pairwise_lt_range (n := n))

theorem isRow_rnd (n : Nat) : isRow (rnd n) := by
  constructor
  · intro y hy
    rw [rnd_length]
    obtain ⟨i, hi, rfl⟩ := List.mem_map.1 hy
    have := List.mem_range.1 hi
    omega
  · rw [List.nodup_iff_pairwise_ne]
    exact List.Pairwise.imp (fun h => by omega) (rnd_sorted n)

theorem isRow_perm {xs ys : List Int} (h : xs.Perm ys) (hy : isRow ys) : isRow xs :=
  ⟨fun y hm => by rw [h.length_eq]; exact hy.1 y (h.mem_iff.1 hm), h.nodup_iff.2 hy.2⟩

/-- The row with rank k. -/
def rowAt (n k : Nat) : List Int := atl n (rnd n) k

theorem rowAt_perm {n k : Nat} (hk : k < fct n) : (rowAt n k).Perm (rnd n) := atl_perm n (rnd n) k (rnd_length n) hk

theorem rowAt_row {n k : Nat} (hk : k < fct n) : isRow (rowAt n k) := isRow_perm (rowAt_perm hk) (isRow_rnd n)

theorem rowAt_length {n k : Nat} (hk : k < fct n) : (rowAt n k).length = n := by rw [(rowAt_perm hk).length_eq, rnd_length]

/-- The rank, from the first bell on. -/
def rankR : List Int → Nat
  | [] => 0
  | x :: xs => cnt x xs * fct xs.length + rankR xs

theorem rkTo_rankR (xs : List Int) (k : Nat) (h : k ≤ xs.length) : rkTo xs k * fct (xs.length - k) + rankR (xs.drop k) = rankR xs := by
  induction k with
  | zero => simp [rkTo]
  | succ k ih =>
    rw [← ih (by omega)]
    have e : xs.drop k = xs.getD k 0 :: xs.drop (k + 1) := by
      rw [List.drop_eq_getElem_cons (by omega)]; simp [List.getD, List.getElem?_eq_getElem (show k < xs.length by omega)]
    rw [e]
    show (rkTo xs k * (xs.length - k) + cnt (xs.getD k 0) (xs.drop (k + 1))) * fct (xs.length - (k + 1)) + rankR (xs.drop (k + 1)) = rkTo xs k * fct (xs.length - k) + (cnt (xs.getD k 0) (xs.drop (k + 1)) * fct (xs.drop (k + 1)).length + rankR (xs.drop (k + 1)))
    have e2 : fct (xs.length - k) = (xs.length - k) * fct (xs.length - (k + 1)) := by
      rw [show xs.length - k = (xs.length - (k + 1)) + 1 from by omega]; rfl
    rw [e2, List.length_drop, Nat.add_mul, Nat.mul_assoc]
    omega

theorem rkTo_all (xs : List Int) : rkTo xs xs.length = rankR xs := by
  have h := rkTo_rankR xs xs.length (Nat.le_refl _)
  rw [Nat.sub_self, List.drop_length] at h
  simpa [fct, rankR] using h

theorem cnt_perm {x : Int} {l m : List Int} (h : l.Perm m) : cnt x l = cnt x m := (h.filter _).length_eq

theorem cnt_erase {L : List Int} (hs : L.Pairwise (· < ·)) {q : Nat} (h : q < L.length) : cnt (L.getD q 0) (L.eraseIdx q) = q := by
  rw [show L.getD q 0 = L[q] from by simp [List.getD, List.getElem?_eq_getElem h]]
  have e : L = L.take q ++ L[q] :: L.drop (q + 1) := by rw [← List.drop_eq_getElem_cons h, List.take_append_drop]
  rw [List.eraseIdx_eq_take_drop_succ]
  have hp := hs
  rw [e, List.pairwise_append] at hp
  obtain ⟨_, hp2, hp3⟩ := hp
  have hp4 := (List.pairwise_cons.1 hp2).1
  unfold cnt
  rw [List.filter_append, List.length_append]
  have e1 : (L.take q).filter (fun y => decide (y < L[q])) = L.take q := List.filter_eq_self.2 (fun y hy => by simpa using hp3 y hy L[q] (List.mem_cons_self))
  have e2 : (L.drop (q + 1)).filter (fun y => decide (y < L[q])) = [] := List.filter_eq_nil_iff.2 (fun y hy => by have := hp4 y hy; simp; omega)
  rw [e1, e2, List.length_take]
  simp; omega

theorem rankR_atl : ∀ (m : Nat) (L : List Int) (k : Nat), L.length = m → L.Pairwise (· < ·) → k < fct m → rankR (atl m L k) = k
  | 0, L, k, hl, _, hk => by
    have : k = 0 := by have : fct 0 = 1 := rfl; omega
    rw [this]; rfl
  | m + 1, L, k, hl, hs, hk => by
    have hG := fct_pos m
    have hq : k / fct m < L.length := by rw [hl, Nat.div_lt_iff_lt_mul hG]; exact hk
    have hl' : (L.eraseIdx (k / fct m)).length = m := by rw [List.length_eraseIdx_of_lt hq]; omega
    have hr := Nat.mod_lt k hG
    have hp := atl_perm m (L.eraseIdx (k / fct m)) (k % fct m) hl' hr
    have ih := rankR_atl m (L.eraseIdx (k / fct m)) (k % fct m) hl' (hs.sublist (List.eraseIdx_sublist _ _)) hr
    show cnt (L.getD (k / fct m) 0) (atl m (L.eraseIdx (k / fct m)) (k % fct m)) * fct (atl m (L.eraseIdx (k / fct m)) (k % fct m)).length + rankR (atl m (L.eraseIdx (k / fct m)) (k % fct m)) = k
    rw [cnt_perm hp, cnt_erase hs hq, hp.length_eq, hl', ih, Nat.mul_comm]
    exact Nat.div_add_mod k (fct m)

theorem rank_rowAt {n k : Nat} (hk : k < fct n) : rkTo (rowAt n k) (rowAt n k).length = k := by
  rw [rkTo_all]; exact rankR_atl n (rnd n) k (rnd_length n) (rnd_sorted n) hk

/-! texts -/

theorem bl_sign {m : Nat} (hm : m < 12) : bl (UInt8.ofNat (sg m)) = m := by
  refine bl_of hm ?_
  have := sg_lt m
  rw [UInt8.toNat_ofNat']; omega

theorem isRow_lt12 {xs : List Int} (h : isRow xs) (h12 : xs.length ≤ 12) : ∀ x ∈ xs, 0 ≤ x ∧ x.toNat < 12 := fun x hx => by have := h.1 x hx; omega

theorem bells_txt {xs : List Int} (h : isRow xs) (h12 : xs.length ≤ 12) : bells (strOfNums (txt xs)).data.toList = xs := by
  rw [strOfNums_data]
  unfold bells txt
  rw [List.map_map, List.map_map]
  have hx := isRow_lt12 h h12
  conv => rhs; rw [← List.map_id xs]
  refine List.map_congr_left (fun x hm => ?_)
  have := hx x hm
  show ((bl (UInt8.ofNat ((sg x.toNat : Nat) : Int).toNat) : Nat) : Int) = x
  rw [Int.toNat_natCast, bl_sign this.2]
  omega

theorem txt_signs {xs : List Int} (h : isRow xs) (h12 : xs.length ≤ 12) : ∀ q, (hq : q < (strOfNums (txt xs)).size) → bl (strOfNums (txt xs))[q] < 12 := by
  intro q hq
  have hx := isRow_lt12 h h12
  have hm : (strOfNums (txt xs))[q] ∈ (strOfNums (txt xs)).data.toList := by
    exact Array.mem_toList_iff.2 (Array.getElem_mem (xs := (strOfNums (txt xs)).data) hq)
  rw [strOfNums_data] at hm
  obtain ⟨t, ht, e⟩ := List.mem_map.1 hm
  obtain ⟨x, hx', rfl⟩ := List.mem_map.1 ht
  rw [← e, Int.toNat_natCast, bl_sign (hx x hx').2]
  exact (hx x hx').2

/-! what undoes a row -/

theorem isRow_onto {a : List Int} (h : isRow a) {i : Nat} (hi : i < a.length) : ∃ j, j < a.length ∧ a.getD j 0 = (i : Int) := by
  apply Classical.byContradiction
  intro hn
  have hni : ¬ (i : Int) ∈ a := by
    intro hm
    obtain ⟨j, hj, e⟩ := List.getElem_of_mem hm
    exact hn ⟨j, hj, by simp [List.getD, List.getElem?_eq_getElem hj, e]⟩
  have hl := nodup_len ((i : Int) :: a) (rnd a.length) (List.nodup_cons.2 ⟨hni, h.2⟩) (fun x hx => by
    have hx' : 0 ≤ x ∧ x < a.length := by
      rcases List.mem_cons.1 hx with rfl | hx
      · omega
      · exact h.1 x hx
    exact List.mem_map.2 ⟨x.toNat, List.mem_range.2 (by omega), by omega⟩)
  rw [rnd_length] at hl
  simp at hl
  omega

theorem undoes_at {zs a : List Int} (ha : isRow a) (hz : Undoes zs a) {i : Nat} (hi : i < a.length) : ∃ j, j < a.length ∧ a.getD j 0 = (i : Int) ∧ zs.getD i 0 = (j : Int) := by
  obtain ⟨j, hj, e⟩ := isRow_onto ha hi
  have := hz.2 j hj
  rw [e, Int.toNat_natCast] at this
  exact ⟨j, hj, e, this⟩

theorem isRow_undoes {zs a : List Int} (ha : isRow a) (hz : Undoes zs a) : isRow zs := by
  constructor
  · intro y hy
    obtain ⟨i, hi, rfl⟩ := List.getElem_of_mem hy
    obtain ⟨j, hj, _, e⟩ := undoes_at ha hz (show i < a.length by rw [← hz.1]; exact hi)
    rw [show zs.getD i 0 = zs[i] from by simp [List.getD, List.getElem?_eq_getElem hi]] at e
    rw [e, hz.1]; omega
  · rw [List.nodup_iff_pairwise_ne, List.pairwise_iff_getElem]
    intro i j hi hj hij e
    obtain ⟨i', _, a1, e1⟩ := undoes_at ha hz (show i < a.length by rw [← hz.1]; exact hi)
    obtain ⟨j', _, a2, e2⟩ := undoes_at ha hz (show j < a.length by rw [← hz.1]; exact hj)
    rw [show zs.getD i 0 = zs[i] from by simp [List.getD, List.getElem?_eq_getElem hi]] at e1
    rw [show zs.getD j 0 = zs[j] from by simp [List.getD, List.getElem?_eq_getElem hj]] at e2
    rw [e1, e2] at e
    have : i' = j' := by omega
    subst this
    omega

theorem by_undoes {zs a : List Int} (ha : isRow a) (hz : Undoes zs a) : by_ a zs = rnd a.length := by
  refine eq_rnd (by rw [by_length, hz.1]) (fun i hi => ?_)
  obtain ⟨j, hj, a1, e⟩ := undoes_at ha hz hi
  rw [by_get (by rw [hz.1]; exact hi), e, Int.toNat_natCast, a1]

theorem by_assoc {x y z : List Int} (hz : isRow z) (hl : z.length = y.length) : by_ (by_ x y) z = by_ x (by_ y z) := by
  refine ext_getD (by rw [by_length, by_length, by_length]) (fun j hj => ?_)
  rw [by_length] at hj
  have h1 := hz.at hj
  rw [by_get (a := by_ x y) hj, by_get (a := x) (b := y) (by omega), by_get (a := x) (b := by_ y z) (by rw [by_length]; exact hj), by_get (a := y) hj]

end Go.Proofs.Ytimfoggjocajiaa

/- Plain: rows of twelve bells as a group that acts on bells; what some rows generate. -/
namespace Go.Proofs.Ytimfoggjocajiaa

/-- Rows of twelve bells. -/
structure Pm where
  l : List Int
  len : l.length = 12
  row : isRow l

namespace Pm

/-- Which bell a row has in a place. -/
def act (x : Pm) (b : Nat) : Nat := if b < 12 then nx x.l b else b

theorem act_lt (x : Pm) {b : Nat} (h : b < 12) : x.act b < 12 := by
  unfold act; rw [if_pos h]
  have := nx_lt x.row (x := b) (by rw [x.len]; exact h)
  rw [x.len] at this; exact this

theorem act_ge (x : Pm) {b : Nat} (h : ¬ b < 12) : x.act b = b := by unfold act; rw [if_neg h]

theorem act_inj (x : Pm) {a b : Nat} (h : x.act a = x.act b) : a = b := by
  by_cases ha : a < 12
  · by_cases hb : b < 12
    · unfold act at h; rw [if_pos ha, if_pos hb] at h
      exact nx_inj x.row (by rw [x.len]; exact ha) (by rw [x.len]; exact hb) h
    · have := x.act_lt ha; rw [h, x.act_ge hb] at this; exact absurd this hb
  · by_cases hb : b < 12
    · have := x.act_lt hb; rw [← h, x.act_ge ha] at this; exact absurd this ha
    · rw [x.act_ge ha, x.act_ge hb] at h; exact h

theorem getD_act (x : Pm) {b : Nat} (h : b < 12) : x.l.getD b 0 = ((x.act b : Nat) : Int) := by
  unfold act; rw [if_pos h]
  have := x.row.at (j := b) (by rw [x.len]; exact h)
  unfold nx; omega

theorem ext' {x y : Pm} (h : ∀ b, b < 12 → x.act b = y.act b) : x = y := by
  have e : x.l = y.l := ext_getD (by rw [x.len, y.len]) (fun j hj => by
    rw [x.len] at hj
    rw [x.getD_act hj, y.getD_act hj, h j hj])
  cases x; cases y; cases e; rfl

theorem eq_of_l {x y : Pm} (e : x.l = y.l) : x = y := by cases x; cases y; cases e; rfl

instance : Mul Pm := ⟨fun x y => ⟨by_ x.l y.l, by rw [by_length]; exact y.len, isRow_by x.row y.row (by rw [x.len, y.len])⟩⟩
instance : One Pm := ⟨⟨rnd 12, rnd_length 12, isRow_rnd 12⟩⟩

theorem mul_l (x y : Pm) : (x * y).l = by_ x.l y.l := rfl
theorem one_l : (1 : Pm).l = rnd 12 := rfl

theorem act_mul (x y : Pm) (b : Nat) : (x * y).act b = x.act (y.act b) := by
  by_cases h : b < 12
  · have h2 := y.act_lt h
    have e1 : y.act b = nx y.l b := by unfold act; rw [if_pos h]
    have e2 : (x * y).act b = nx (x * y).l b := by unfold act; rw [if_pos h]
    have e3 : x.act (y.act b) = nx x.l (y.act b) := by unfold act; rw [if_pos (by exact h2)]
    rw [e2, e3, e1, mul_l, nx_by (by rw [y.len]; exact h)]
  · rw [act_ge _ h, act_ge _ h, act_ge _ h]

theorem act_one (b : Nat) : (1 : Pm).act b = b := by
  by_cases h : b < 12
  · unfold act; rw [if_pos h, one_l]
    have := rnd_get (n := 12) h
    unfold nx; rw [this]; omega
  · exact act_ge _ h

theorem mul_assoc (x y z : Pm) : x * y * z = x * (y * z) := ext' (fun b _ => by rw [act_mul, act_mul, act_mul, act_mul])
theorem one_mul (x : Pm) : 1 * x = x := ext' (fun b _ => by rw [act_mul, act_one])
theorem mul_one (x : Pm) : x * 1 = x := ext' (fun b _ => by rw [act_mul, act_one])

open Classical in
noncomputable def invl (x : Pm) : List Int := (List.range 12).map (fun i => if h : i < 12 then ((Classical.choose (isRow_onto x.row (i := i) (by rw [x.len]; exact h)) : Nat) : Int) else 0)

theorem invl_undoes (x : Pm) : Undoes x.invl x.l := by
  refine ⟨by rw [x.len]; simp [invl], fun j hj => ?_⟩
  have hj' : j < 12 := by rw [← x.len]; exact hj
  have h1 := x.row.at hj
  rw [x.len] at h1
  obtain ⟨m, hm⟩ := Int.eq_ofNat_of_zero_le h1.1
  have hm12 : m < 12 := by omega
  rw [hm]
  have e : x.invl.getD m 0 = ((Classical.choose (isRow_onto x.row (i := m) (by rw [x.len]; exact hm12)) : Nat) : Int) := by
    simp [invl, List.getD, hm12]
  have hs := Classical.choose_spec (isRow_onto x.row (i := m) (by rw [x.len]; exact hm12))
  rw [Int.toNat_natCast, e]
  have := x.row.inj hs.1 hj (by rw [hs.2]; exact hm.symm)
  omega

noncomputable instance : Inv Pm := ⟨fun x => ⟨x.invl, by rw [(invl_undoes x).1]; exact x.len, isRow_undoes x.row (invl_undoes x)⟩⟩

theorem inv_l (x : Pm) : (x⁻¹).l = x.invl := rfl

theorem act_undoes {x z : Pm} (h : Undoes z.l x.l) (b : Nat) : z.act (x.act b) = b := by
  by_cases hb : b < 12
  · have h2 := x.act_lt hb
    have h3 := h.2 b (by rw [x.len]; exact hb)
    unfold act at h2 ⊢
    rw [if_pos hb] at h2 ⊢
    rw [if_pos h2]
    unfold nx at h2 ⊢
    omega
  · rw [act_ge _ hb, act_ge _ hb]

theorem inv_act (x : Pm) (b : Nat) : x⁻¹.act (x.act b) = b := act_undoes (x.invl_undoes) b

theorem act_inv (x : Pm) (b : Nat) : x.act (x⁻¹.act b) = b := by
  apply x⁻¹.act_inj
  rw [inv_act]

theorem inv_mul (x : Pm) : x⁻¹ * x = 1 := ext' (fun b _ => by rw [act_mul, inv_act, act_one])
theorem mul_inv (x : Pm) : x * x⁻¹ = 1 := ext' (fun b _ => by rw [act_mul, act_inv, act_one])
theorem inv_mul_cancel (x y : Pm) : x⁻¹ * (x * y) = y := by rw [← mul_assoc, inv_mul, one_mul]
theorem mul_inv_cancel (x y : Pm) : x * (x⁻¹ * y) = y := by rw [← mul_assoc, mul_inv, one_mul]
theorem mul_cancel {x y z : Pm} (h : x * y = x * z) : y = z := by rw [← inv_mul_cancel x y, h, inv_mul_cancel]
theorem eq_inv_of {x y : Pm} (h : x * y = 1) : y = x⁻¹ := by rw [← inv_mul_cancel x y, h, mul_one]
theorem inv_one : (1 : Pm)⁻¹ = 1 := (eq_inv_of (one_mul 1)).symm
theorem inv_inv (x : Pm) : x⁻¹⁻¹ = x := (eq_inv_of (inv_mul x)).symm
theorem inv_prod (x y : Pm) : (x * y)⁻¹ = y⁻¹ * x⁻¹ := (eq_inv_of (by rw [mul_assoc, ← mul_assoc y, mul_inv, one_mul, mul_inv])).symm

theorem undoes_eq {x : Pm} {zs : List Int} (h : Undoes zs x.l) : zs = (x⁻¹).l := by
  have h1 : isRow zs := isRow_undoes x.row h
  have h2 : zs.length = 12 := by rw [h.1, x.len]
  have e : (⟨zs, h2, h1⟩ : Pm) = x⁻¹ := by
    apply eq_inv_of
    refine ext' (fun b _ => ?_)
    have h3 : (⟨zs, h2, h1⟩ : Pm) * x = 1 := ext' (fun b _ => by rw [act_mul, act_one]; exact act_undoes (x := x) (z := ⟨zs, h2, h1⟩) h b)
    have h4 : x = (⟨zs, h2, h1⟩ : Pm)⁻¹ := eq_inv_of h3
    rw [h4, inv_mul]
  rw [← e]

/-! powers -/
def pow (x : Pm) : Nat → Pm
  | 0 => 1
  | n + 1 => x * x.pow n

theorem act_pow (x : Pm) (n : Nat) {b : Nat} (hb : b < 12) : (x.pow n).act b = it x.l n b := by
  induction n with
  | zero => exact act_one b
  | succ n ih =>
    show (x * x.pow n).act b = _
    have h12 := it_lt x.row (x := b) (by rw [x.len]; exact hb) n
    rw [x.len] at h12
    rw [act_mul, ih]
    show (if it x.l n b < 12 then nx x.l (it x.l n b) else _) = nx x.l (it x.l n b)
    rw [if_pos h12]

theorem dvd_fct {m n : Nat} (h1 : 1 ≤ m) (h2 : m ≤ n) : m ∣ fct n := by
  induction n with
  | zero => omega
  | succ n ih =>
    show m ∣ (n + 1) * fct n
    by_cases e : m = n + 1
    · subst e; exact Nat.dvd_mul_right _ _
    · exact Nat.dvd_trans (ih (by omega)) (Nat.dvd_mul_left _ _)

theorem it_mult {r : List Int} {x p : Nat} (h : it r p x = x) (d : Nat) : it r (p * d) x = x := by
  induction d with
  | zero => rfl
  | succ d ih => rw [Nat.mul_succ, it_add, h, ih]

theorem pow_all (x : Pm) : x.pow (fct 12) = 1 := ext' (fun b hb => by
  have hp := per_spec x.row (x := b) (by rw [x.len]; exact hb)
  rw [x.len] at hp
  obtain ⟨d, hd⟩ := dvd_fct hp.1 hp.2.1
  rw [act_pow x _ hb, hd, it_mult hp.2.2.1, act_one])

theorem inv_pow (x : Pm) : x⁻¹ = x.pow (fct 12 - 1) := by
  symm
  apply eq_inv_of
  show x.pow (fct 12 - 1 + 1) = 1
  rw [show fct 12 - 1 + 1 = fct 12 from by decide]
  exact pow_all x

end Pm

/-! what rows generate -/

inductive Gen (S : Pm → Prop) : Pm → Prop
  | one : Gen S 1
  | mul {s x : Pm} : S s → Gen S x → Gen S (s * x)

structure Sub (H : Pm → Prop) : Prop where
  one : H 1
  mul : ∀ {x y}, H x → H y → H (x * y)
  inv : ∀ {x}, H x → H x⁻¹

theorem Gen.of {S : Pm → Prop} {s : Pm} (h : S s) : Gen S s := by
  have := Gen.mul h Gen.one; rwa [Pm.mul_one] at this

theorem Gen.mul' {S : Pm → Prop} {x y : Pm} (hx : Gen S x) (hy : Gen S y) : Gen S (x * y) := by
  induction hx with
  | one => rw [Pm.one_mul]; exact hy
  | mul hs _ ih => rw [Pm.mul_assoc]; exact Gen.mul hs ih

theorem Gen.pow {S : Pm → Prop} {x : Pm} (hx : Gen S x) (n : Nat) : Gen S (x.pow n) := by
  induction n with
  | zero => exact Gen.one
  | succ n ih => exact Gen.mul' hx ih

theorem Gen.inv {S : Pm → Prop} {x : Pm} (hx : Gen S x) : Gen S x⁻¹ := by rw [Pm.inv_pow]; exact hx.pow _

theorem Gen.sub (S : Pm → Prop) : Sub (Gen S) := ⟨Gen.one, Gen.mul', Gen.inv⟩

theorem Gen.least {S H : Pm → Prop} (hH : Sub H) (h : ∀ s, S s → H s) {x : Pm} (hx : Gen S x) : H x := by
  induction hx with
  | one => exact hH.one
  | mul hs _ ih => exact hH.mul (h _ hs) ih

theorem Gen.mono {S T : Pm → Prop} (h : ∀ s, S s → T s) {x : Pm} (hx : Gen S x) : Gen T x := hx.least (Gen.sub T) (fun s hs => Gen.of (h s hs))

theorem Sub.and {H K : Pm → Prop} (h : Sub H) (k : Sub K) : Sub (fun x => H x ∧ K x) :=
  ⟨⟨h.one, k.one⟩, fun hx hy => ⟨h.mul hx.1 hy.1, k.mul hx.2 hy.2⟩, fun hx => ⟨h.inv hx.1, k.inv hx.2⟩⟩

/-- A row leaves some bells in their places. -/
def Fixes (F : Nat → Prop) (x : Pm) : Prop := ∀ b, F b → x.act b = b

theorem fixes_sub (F : Nat → Prop) : Sub (Fixes F) :=
  ⟨fun b _ => Pm.act_one b, fun {x y} hx hy b hb => by rw [Pm.act_mul, hy b hb, hx b hb], fun {x} hx b hb => by have := hx b hb; rw [← this, Pm.inv_act, this]⟩

theorem fixes_all {F : Nat → Prop} (h : ∀ b, b < 12 → F b) {x : Pm} (hx : Fixes F x) : x = 1 := Pm.ext' (fun b hb => by rw [hx b (h b hb), Pm.act_one])

/-! rows of fewer bells -/

open Classical in
noncomputable def pad (l : List Int) : Pm := if h : l.length ≤ 12 ∧ isRow l then ⟨l ++ (rnd 12).drop l.length, by rw [List.length_append, List.length_drop, rnd_length]; omega, by
    obtain ⟨h1, h2⟩ := h
    constructor
    · intro y hy
      rw [List.length_append, List.length_drop, rnd_length]
      rcases List.mem_append.1 hy with hy | hy
      · have := h2.1 y hy; omega
      · have := (isRow_rnd 12).1 y (List.mem_of_mem_drop hy); rw [rnd_length] at this; omega
    · rw [List.nodup_append]
      refine ⟨h2.2, (isRow_rnd 12).2.sublist (List.drop_sublist _ _), ?_⟩
      intro a ha b hb e
      have h3 := h2.1 a ha
      rw [List.mem_iff_getElem] at hb
      obtain ⟨i, hi, rfl⟩ := hb
      rw [List.getElem_drop] at e
      have h4 : (rnd 12)[l.length + i]'(by rw [List.length_drop] at hi; omega) = ((l.length + i : Nat) : Int) := by simp [rnd]
      rw [h4] at e
      omega⟩ else 1

theorem pad_l {l : List Int} (h1 : l.length ≤ 12) (h2 : isRow l) : (pad l).l = l ++ (rnd 12).drop l.length := by
  unfold pad; rw [dif_pos ⟨h1, h2⟩]

theorem pad_act {l : List Int} (h1 : l.length ≤ 12) (h2 : isRow l) (b : Nat) : (pad l).act b = if b < l.length then nx l b else b := by
  by_cases hb : b < 12
  · unfold Pm.act; rw [if_pos hb, pad_l h1 h2]
    unfold nx
    by_cases hl : b < l.length
    · rw [if_pos hl]; simp [List.getD, List.getElem?_append_left hl]
    · rw [if_neg hl]
      simp only [List.getD]
      rw [List.getElem?_append_right (by omega), List.getElem?_drop, show l.length + (b - l.length) = b from by omega]
      have := rnd_get (n := 12) hb
      simp only [List.getD] at this
      rw [this]; omega
  · rw [Pm.act_ge _ hb, if_neg (by omega)]

theorem pad_by {a b : List Int} (h1 : a.length ≤ 12) (h2 : isRow a) (h3 : isRow b) (h4 : b.length = a.length) : pad (by_ a b) = pad a * pad b := by
  have hr := isRow_by h2 h3 h4
  refine Pm.ext' (fun x _ => ?_)
  rw [Pm.act_mul, pad_act (by rw [by_length]; omega) hr, pad_act (by omega) h3, pad_act h1 h2, by_length]
  by_cases hx : x < b.length
  · have := nx_lt h3 hx
    rw [if_pos hx, if_pos hx, if_pos (by omega), nx_by hx]
  · rw [if_neg hx, if_neg hx, if_neg (by omega)]

theorem pad_rnd {n : Nat} (h : n ≤ 12) : pad (rnd n) = 1 := by
  refine Pm.ext' (fun x _ => ?_)
  rw [pad_act (by rw [rnd_length]; exact h) (isRow_rnd n), Pm.act_one, rnd_length]
  split
  · rename_i hx
    unfold nx; rw [rnd_get hx]; omega
  · rfl

theorem pad_undoes {zs a : List Int} (h1 : a.length ≤ 12) (h2 : isRow a) (h : Undoes zs a) : pad zs = (pad a)⁻¹ := by
  apply Pm.eq_inv_of
  rw [← pad_by h1 h2 (isRow_undoes h2 h) h.1, by_undoes h2 h, pad_rnd h1]

theorem pad_inj {a b : List Int} (h1 : a.length ≤ 12) (ha : isRow a) (hb : isRow b) (hl : b.length = a.length) (h : pad a = pad b) : a = b := by
  refine ext_getD hl.symm (fun j hj => ?_)
  have h3 : (pad a).act j = (pad b).act j := by rw [h]
  rw [pad_act h1 ha, pad_act (by omega) hb, if_pos hj, if_pos (by omega)] at h3
  have h4 := ha.at hj
  have h5 := hb.at (j := j) (by omega)
  unfold nx at h3; omega

/-- The first n bells of a row that leaves the rest. -/
def cut (n : Nat) (x : Pm) : List Int := x.l.take n

theorem cut_length {n : Nat} (h : n ≤ 12) (x : Pm) : (cut n x).length = n := by unfold cut; rw [List.length_take, x.len]; omega

theorem cut_get {n j : Nat} (x : Pm) (h : n ≤ 12) (hj : j < n) : (cut n x).getD j 0 = ((x.act j : Nat) : Int) := by
  rw [← x.getD_act (by omega)]
  unfold cut
  simp [List.getD, hj]

theorem fix_lt {n : Nat} {x : Pm} (hf : Fixes (fun b => n ≤ b) x) {b : Nat} (hb : b < n) : x.act b < n := by
  rcases Nat.lt_or_ge (x.act b) n with h | h
  · exact h
  · have := hf _ h
    have := x.act_inj this
    omega

theorem cut_row {n : Nat} (h : n ≤ 12) {x : Pm} (hf : Fixes (fun b => n ≤ b) x) : isRow (cut n x) := by
  constructor
  · intro y hy
    rw [cut_length h]
    obtain ⟨i, hi, rfl⟩ := List.getElem_of_mem hy
    have hi' : i < n := by rw [cut_length h] at hi; exact hi
    have := cut_get x h hi'
    simp only [List.getD, List.getElem?_eq_getElem hi, Option.getD_some] at this
    rw [this]
    have := fix_lt hf hi'
    omega
  · exact x.row.2.sublist (List.take_sublist _ _)

theorem pad_cut {n : Nat} (h : n ≤ 12) {x : Pm} (hf : Fixes (fun b => n ≤ b) x) : pad (cut n x) = x := by
  refine Pm.ext' (fun b hb => ?_)
  rw [pad_act (by rw [cut_length h]; exact h) (cut_row h hf), cut_length h]
  split
  · rename_i hn
    unfold nx; rw [cut_get x h hn]; omega
  · rename_i hn
    exact (hf b (by show n ≤ b; omega)).symm

theorem pad_fixes {n : Nat} {l : List Int} (h : n ≤ 12) (hl : l.length = n) (hr : isRow l) : Fixes (fun b => n ≤ b) (pad l) := by
  intro b hb
  have hb : n ≤ b := hb
  rw [pad_act (by omega) hr, if_neg (by omega)]

theorem cut_pad {n : Nat} {l : List Int} (h : n ≤ 12) (hl : l.length = n) (hr : isRow l) : cut n (pad l) = l := by
  unfold cut
  rw [pad_l (by omega) hr, ← hl, List.take_left']
  rfl

end Go.Proofs.Ytimfoggjocajiaa

/- Plain: a group as a chain of links: what it holds, when it is whole, and how one more row makes it greater (Schreier). -/
namespace Go.Proofs.Ytimfoggjocajiaa

/-- A link: its base, what brings which bell there, its generators. -/
structure Lk where
  base : Nat
  tab : List (Nat × Pm)
  gens : List Pm

/-- The rows of a chain. -/
def Prd : List Lk → Pm → Prop
  | [], p => p = 1
  | l :: c, p => ∃ e, e ∈ l.tab ∧ ∃ h, Prd c h ∧ p = e.2 * h

structure LkOk (F : Nat → Prop) (l : Lk) : Prop where
  nodup : (l.tab.map (·.1)).Nodup
  brings : ∀ e, e ∈ l.tab → e.2.act l.base = e.1
  first : (l.base, (1 : Pm)) ∈ l.tab
  fix : ∀ e, e ∈ l.tab → Fixes F e.2

/-- F and one bell more. -/
def plus (F : Nat → Prop) (b : Nat) : Nat → Prop := fun x => F x ∨ x = b

def Whole : (Nat → Prop) → List Lk → Prop
  | F, [] => ∀ b, b < 12 → F b
  | F, l :: c => LkOk F l ∧ Whole (plus F l.base) c ∧ (∀ p, Prd (l :: c) p ↔ Gen (fun x => x ∈ l.gens) p)

theorem fixes_plus {F : Nat → Prop} {b : Nat} {x : Pm} : Fixes (plus F b) x ↔ Fixes F x ∧ x.act b = b :=
  ⟨fun h => ⟨fun a ha => h a (Or.inl ha), h b (Or.inr rfl)⟩, fun h a ha => by rcases ha with ha | rfl; exact h.1 a ha; exact h.2⟩

theorem prd_fix {c : List Lk} {F : Nat → Prop} {p : Pm} (hw : Whole F c) (h : Prd c p) : Fixes F p := by
  induction c generalizing F p with
  | nil => rw [show p = (1 : Pm) from h]; exact (fixes_sub _).one
  | cons l c ih =>
    obtain ⟨e, he, h, hh, hp⟩ := h
    rw [hp]
    exact (fixes_sub F).mul (hw.1.fix e he) (fixes_plus.1 (ih hw.2.1 hh)).1

theorem prd_sub {c : List Lk} {F : Nat → Prop} (hw : Whole F c) : Sub (Prd c) := by
  cases c with
  | nil => exact ⟨rfl, fun {x y} hx hy => by rw [show x = 1 from hx, show y = 1 from hy]; exact Pm.one_mul 1, fun {x} hx => by rw [show x = 1 from hx]; exact Pm.inv_one⟩
  | cons l c =>
    have h := hw.2.2
    exact ⟨(h 1).2 Gen.one, fun {x y} hx hy => (h _).2 (Gen.mul' ((h x).1 hx) ((h y).1 hy)), fun {x} hx => (h _).2 (Gen.inv ((h x).1 hx))⟩

/-- Does a chain hold a row? (As the code asks.) -/
noncomputable def hasC : List Lk → Pm → Bool
  | [], _ => true
  | l :: c, p => (l.tab.lookup (p.act l.base)).elim false (fun u => hasC c (u⁻¹ * p))

theorem lookup_mem {tab : List (Nat × Pm)} {b : Nat} {u : Pm} (h : tab.lookup b = some u) : (b, u) ∈ tab := by
  induction tab with
  | nil => simp at h
  | cons e t ih =>
    rw [List.lookup_cons] at h
    split at h
    · rename_i hb
      have hb : b = e.1 := by simpa using hb
      injection h with h
      subst h; subst hb; exact List.mem_cons_self
    · exact List.mem_cons_of_mem _ (ih h)

theorem lookup_of_mem {tab : List (Nat × Pm)} (hn : (tab.map (·.1)).Nodup) {b : Nat} {u : Pm} (h : (b, u) ∈ tab) : tab.lookup b = some u := by
  induction tab with
  | nil => cases h
  | cons e t ih =>
    rw [List.map_cons, List.nodup_cons] at hn
    rw [List.lookup_cons]
    rcases List.mem_cons.1 h with rfl | h
    · simp
    · have hne : ¬ b = e.1 := fun hb => hn.1 (List.mem_map.2 ⟨(b, u), h, hb⟩)
      split
      · rename_i hb; exact absurd (by simpa using hb) hne
      · exact ih hn.2 h

theorem lookup_none {tab : List (Nat × Pm)} {b : Nat} (h : tab.lookup b = none) : ∀ e, e ∈ tab → e.1 ≠ b := by
  induction tab with
  | nil => intro e he; cases he
  | cons x t ih =>
    rw [List.lookup_cons] at h
    split at h
    · cases h
    · rename_i hb
      intro e he
      rcases List.mem_cons.1 he with rfl | he
      · intro e2; exact absurd e2.symm (by simpa using hb)
      · exact ih h e he

theorem tab_eq {tab : List (Nat × Pm)} (hn : (tab.map (·.1)).Nodup) {b : Nat} {u v : Pm} (h1 : (b, u) ∈ tab) (h2 : (b, v) ∈ tab) : u = v := by
  have e1 := lookup_of_mem hn h1
  rw [lookup_of_mem hn h2] at e1
  injection e1 with e1; exact e1.symm

theorem has_iff {c : List Lk} {F : Nat → Prop} {p : Pm} (hw : Whole F c) (hf : Fixes F p) : hasC c p = true ↔ Prd c p := by
  induction c generalizing F p with
  | nil =>
    have := fixes_all hw hf
    simp [hasC, Prd, this]
  | cons l c ih =>
    obtain ⟨hok, hwc, _⟩ := hw
    cases hl : l.tab.lookup (p.act l.base) with
    | none =>
      simp only [hasC, hl, Option.elim]
      constructor
      · intro h; cases h
      · rintro ⟨e, he, h, hh, rfl⟩
        have h1 := (fixes_plus.1 (prd_fix hwc hh)).2
        rw [Pm.act_mul, h1, hok.brings e he] at hl
        exact absurd rfl (lookup_none hl e he)
    | some u =>
      have hm := lookup_mem hl
      have hb := hok.brings _ hm
      have hf2 : Fixes (plus F l.base) (u⁻¹ * p) := fixes_plus.2 ⟨(fixes_sub F).mul ((fixes_sub F).inv (hok.fix _ hm)) hf, by have hb : u.act l.base = p.act l.base := hb; rw [Pm.act_mul, ← hb, Pm.inv_act]⟩
      simp only [hasC, hl, Option.elim]
      rw [ih hwc hf2]
      constructor
      · intro h; exact ⟨_, hm, _, h, by rw [Pm.mul_inv_cancel]⟩
      · rintro ⟨e, he, h, hh, rfl⟩
        have h1 := (fixes_plus.1 (prd_fix hwc hh)).2
        rw [Pm.act_mul, h1, hok.brings e he] at hl
        have h2 := lookup_of_mem hok.nodup (b := e.1) (u := e.2) (by exact he)
        rw [h2] at hl
        injection hl with hl
        rw [← hl, Pm.inv_mul_cancel]
        exact hh

/-- A link that is being filled, and the chain behind it. -/
structure Part (F : Nat → Prop) (l : Lk) (c : List Lk) : Prop where
  ok : LkOk F l
  whole : Whole (plus F l.base) c
  inG : ∀ e, e ∈ l.tab → Gen (fun x => x ∈ l.gens) e.2
  cG : ∀ h, Prd c h → Gen (fun x => x ∈ l.gens) h
  gF : ∀ s, s ∈ l.gens → Fixes F s

def Done (l : Lk) (c : List Lk) (s : Pm) (e : Nat × Pm) : Prop := ∃ e', e' ∈ l.tab ∧ e'.1 = s.act e.1 ∧ Prd c (e'.2⁻¹ * (s * e.2))

theorem Part.closes {F : Nat → Prop} {l : Lk} {c : List Lk} (h : Part F l c) (hd : ∀ s, s ∈ l.gens → ∀ e, e ∈ l.tab → Done l c s e) : Whole F (l :: c) := by
  refine ⟨h.ok, h.whole, fun p => ⟨?_, ?_⟩⟩
  · rintro ⟨e, he, x, hx, rfl⟩
    exact Gen.mul' (h.inG e he) (h.cG x hx)
  · intro hp
    have hs := prd_sub h.whole
    induction hp with
    | one => exact ⟨_, h.ok.first, 1, hs.one, by rw [Pm.mul_one]⟩
    | mul hsg _ ih =>
      obtain ⟨e, he, x, hx, rfl⟩ := ih
      obtain ⟨e', he', _, hpr⟩ := hd _ hsg e he
      exact ⟨e', he', _, hs.mul hpr hx, by rw [Pm.mul_assoc e'.2⁻¹, Pm.mul_inv_cancel, Pm.mul_assoc]⟩

/-- What 'take' leaves: the rows of the chain are all that come of those that were there and the new one. -/
structure Took (c c' : List Lk) (p : Pm) : Prop where
  len : c'.length = c.length
  bases : c'.map (·.base) = c.map (·.base)
  grow : ∀ h, Prd c h → Prd c' h
  there : Prd c' p
  least : ∀ H, Sub H → (∀ h, Prd c h → H h) → H p → ∀ h, Prd c' h → H h

theorem Took.refl {c : List Lk} {p : Pm} (h : Prd c p) : Took c c p := ⟨rfl, rfl, fun _ h => h, h, fun _ _ h _ => h⟩

/-- What 'bring' leaves. -/
structure Brought (l : Lk) (c : List Lk) (l' : Lk) (c' : List Lk) (p : Pm) : Prop where
  base : l'.base = l.base
  gens : l'.gens = l.gens
  tab : ∃ more, l'.tab = l.tab ++ more
  len : c'.length = c.length
  bases : c'.map (·.base) = c.map (·.base)
  grow : ∀ h, Prd c h → Prd c' h
  there : ∃ e, e ∈ l'.tab ∧ e.1 = p.act l.base ∧ Prd c' (e.2⁻¹ * p)
  new : ∀ e, e ∈ l'.tab → e ∉ l.tab → ∀ s, s ∈ l.gens → Done l' c' s e

/-- An old bell: the link stands, the chain behind it takes what is left. -/
theorem Part.old {F : Nat → Prop} {l : Lk} {c c' : List Lk} {p u : Pm} (h : Part F l c) (hu : (p.act l.base, u) ∈ l.tab) (hp : Gen (fun x => x ∈ l.gens) p) (hw : Whole (plus F l.base) c') (ht : Took c c' (u⁻¹ * p)) :
    Part F l c' ∧ Brought l c l c' p := by
  refine ⟨⟨h.ok, hw, h.inG, fun x hx => ht.least _ (Gen.sub _) h.cG (Gen.mul' (Gen.inv (h.inG _ hu)) hp) x hx, h.gF⟩, ⟨rfl, rfl, ⟨[], by simp⟩, ht.len, ht.bases, ht.grow, ⟨_, hu, rfl, ht.there⟩, fun e he hn => absurd he hn⟩⟩

/-- A new bell: the link has one more entry. -/
def Lk.add (l : Lk) (b : Nat) (p : Pm) : Lk := { l with tab := l.tab ++ [(b, p)] }

theorem Part.add {F : Nat → Prop} {l : Lk} {c : List Lk} {p : Pm} (h : Part F l c) (hb : l.tab.lookup (p.act l.base) = none) (hf : Fixes F p) (hp : Gen (fun x => x ∈ l.gens) p) : Part F (l.add (p.act l.base) p) c := by
  refine ⟨⟨?_, ?_, ?_, ?_⟩, h.whole, ?_, h.cG, h.gF⟩
  · show ((l.tab ++ [(p.act l.base, p)]).map (·.1)).Nodup
    rw [List.map_append, List.nodup_append]
    refine ⟨h.ok.nodup, by simp, ?_⟩
    intro a ha b hb2 e
    obtain ⟨e0, he0, rfl⟩ := List.mem_map.1 ha
    have : b = p.act l.base := by simpa using hb2
    exact lookup_none hb e0 he0 (by rw [e, this])
  · intro e he
    rcases List.mem_append.1 he with he | he
    · exact h.ok.brings e he
    · rw [List.mem_singleton.1 he]; rfl
  · exact List.mem_append_left _ h.ok.first
  · intro e he
    rcases List.mem_append.1 he with he | he
    · exact h.ok.fix e he
    · rw [List.mem_singleton.1 he]; exact hf
  · intro e he
    rcases List.mem_append.1 he with he | he
    · exact h.inG e he
    · rw [List.mem_singleton.1 he]; exact hp

/-- The loop behind a new bell: after the first i generators. -/
structure Loop (l : Lk) (c : List Lk) (l0 : Lk) (l' : Lk) (c' : List Lk) (p : Pm) (i : Nat) : Prop where
  base : l'.base = l.base
  gens : l'.gens = l.gens
  tab : ∃ more, l'.tab = l.tab ++ more
  len : c'.length = c.length
  bases : c'.map (·.base) = c.map (·.base)
  grow : ∀ h, Prd c h → Prd c' h
  new : ∀ e, e ∈ l'.tab → e ∉ l.tab → ∀ s, s ∈ l.gens → Done l' c' s e
  done : ∀ s, s ∈ l.gens.take i → Done l' c' s (p.act l0.base, p)

theorem Done.mono {l l' : Lk} {c c' : List Lk} {s : Pm} {e : Nat × Pm} (h : Done l c s e) (ht : ∃ more, l'.tab = l.tab ++ more) (hg : ∀ h, Prd c h → Prd c' h) : Done l' c' s e := by
  obtain ⟨e', he', h1, h2⟩ := h
  obtain ⟨more, hm⟩ := ht
  exact ⟨e', by rw [hm]; exact List.mem_append_left _ he', h1, hg _ h2⟩

theorem Brought.trans_new {l l1 l2 : Lk} {c1 c2 : List Lk} {q : Pm} (hn : ∀ e, e ∈ l1.tab → e ∉ l.tab → ∀ s, s ∈ l.gens → Done l1 c1 s e) (hg : l1.gens = l.gens) (h : Brought l1 c1 l2 c2 q) :
    ∀ e, e ∈ l2.tab → e ∉ l.tab → ∀ s, s ∈ l.gens → Done l2 c2 s e := by
  intro e he hne s hs
  by_cases h1 : e ∈ l1.tab
  · exact (hn e h1 hne s hs).mono h.tab h.grow
  · exact h.new e he h1 s (by rw [hg]; exact hs)

theorem Loop.step {l l0 l' l2 : Lk} {c c' c2 : List Lk} {p s : Pm} {i : Nat} (h : Loop l c l0 l' c' p i) (hi : l.gens.take (i + 1) = l.gens.take i ++ [s]) (hb : l0.base = l.base) (h2 : Brought l' c' l2 c2 (s * p)) : Loop l c l0 l2 c2 p (i + 1) := by
  obtain ⟨m1, hm1⟩ := h.tab
  obtain ⟨m2, hm2⟩ := h2.tab
  refine ⟨h2.base.trans h.base, h2.gens.trans h.gens, ⟨m1 ++ m2, by rw [hm2, hm1, List.append_assoc]⟩, h2.len.trans h.len, h2.bases.trans h.bases, fun x hx => h2.grow x (h.grow x hx), Brought.trans_new h.new h.gens h2, ?_⟩
  intro t ht
  rw [hi] at ht
  rcases List.mem_append.1 ht with ht | ht
  · exact (h.done t ht).mono h2.tab h2.grow
  · rw [List.mem_singleton.1 ht]
    obtain ⟨e, he, h3, h4⟩ := h2.there
    refine ⟨e, he, ?_, h4⟩
    show e.1 = s.act (p.act l0.base)
    rw [h3, h.base, Pm.act_mul, hb]

/-- The loop begins with the link that has the new bell. -/
theorem Loop.start (l : Lk) (c : List Lk) (p : Pm) : Loop (l.add (p.act l.base) p) c l (l.add (p.act l.base) p) c p 0 :=
  ⟨rfl, rfl, ⟨[], by simp⟩, rfl, rfl, fun _ h => h, fun e he hn => absurd he hn, fun s hs => by simp at hs⟩

theorem Loop.brought {l l' : Lk} {c c' : List Lk} {p : Pm} {i : Nat} (hi : l.gens.length ≤ i) (hw : Prd c' 1) (h : Loop (l.add (p.act l.base) p) c l l' c' p i) : Brought l c l' c' p := by
  obtain ⟨m1, hm1⟩ := h.tab
  have hm : l'.tab = l.tab ++ ((p.act l.base, p) :: m1) := by rw [hm1]; show (l.tab ++ [_]) ++ m1 = _; simp
  refine ⟨h.base, h.gens, ⟨_, hm⟩, h.len, h.bases, h.grow, ⟨(p.act l.base, p), by rw [hm]; simp, rfl, by rw [Pm.inv_mul]; exact hw⟩, ?_⟩
  intro e he hne s hs
  by_cases h1 : e ∈ (l.add (p.act l.base) p).tab
  · rcases List.mem_append.1 h1 with h1 | h1
    · exact absurd h1 hne
    · rw [List.mem_singleton.1 h1]
      exact h.done s (by rw [List.take_of_length_le (by exact hi)]; exact hs)
  · exact h.new e he h1 s hs

/-- 'take': the link with one more generator. -/
def Lk.gen (l : Lk) (p : Pm) : Lk := { l with gens := l.gens ++ [p] }

theorem Whole.gen {F : Nat → Prop} {l : Lk} {c : List Lk} {p : Pm} (h : Whole F (l :: c)) (hf : Fixes F p) : Part F (l.gen p) c := by
  have hw := h
  obtain ⟨h1, h2, h3⟩ := h
  have hm : ∀ x, Gen (fun x => x ∈ l.gens) x → Gen (fun x => x ∈ (l.gen p).gens) x := fun x hx => hx.mono (fun s hs => List.mem_append_left _ hs)
  have hs := prd_sub h2
  refine ⟨⟨h1.nodup, h1.brings, h1.first, h1.fix⟩, h2, fun e he => hm _ ((h3 _).1 ⟨e, he, 1, hs.one, by rw [Pm.mul_one]⟩), fun x hx => hm _ ((h3 _).1 ⟨_, h1.first, x, hx, by rw [Pm.one_mul]⟩), fun s hs => ?_⟩
  rcases List.mem_append.1 hs with hs | hs
  · exact prd_fix hw ((h3 s).2 (Gen.of hs))
  · rw [List.mem_singleton.1 hs]; exact hf

/-- Of a whole chain all is done. -/
theorem Whole.done {F : Nat → Prop} {l : Lk} {c : List Lk} (h : Whole F (l :: c)) {s : Pm} (hs : s ∈ l.gens) {e : Nat × Pm} (he : e ∈ l.tab) : Done l c s e := by
  obtain ⟨h1, h2, h3⟩ := h
  have hsub := prd_sub h2
  have hp : Prd (l :: c) (s * e.2) := (h3 _).2 (Gen.mul hs ((h3 _).1 ⟨e, he, 1, hsub.one, by rw [Pm.mul_one]⟩))
  obtain ⟨e', he', x, hx, hq⟩ := hp
  refine ⟨e', he', ?_, by rw [hq, Pm.inv_mul_cancel]; exact hx⟩
  have h4 := (fixes_plus.1 (prd_fix h2 hx)).2
  have h5 : (s * e.2).act l.base = (e'.2 * x).act l.base := by rw [hq]
  rw [Pm.act_mul, Pm.act_mul, h4, h1.brings e he, h1.brings e' he'] at h5
  exact h5.symm

/-- The loop of 'take' over the bells that were there: after the first i. -/
structure TLoop (F : Nat → Prop) (l : Lk) (c : List Lk) (l' : Lk) (c' : List Lk) (p : Pm) (i : Nat) : Prop where
  part : Part F l' c'
  base : l'.base = l.base
  gens : l'.gens = l.gens ++ [p]
  tab : ∃ more, l'.tab = l.tab ++ more
  len : c'.length = c.length
  bases : c'.map (·.base) = c.map (·.base)
  grow : ∀ h, Prd c h → Prd c' h
  new : ∀ e, e ∈ l'.tab → e ∉ l.tab → ∀ s, s ∈ l'.gens → Done l' c' s e
  done : ∀ e, e ∈ l.tab.take i → Done l' c' p e

theorem TLoop.start {F : Nat → Prop} {l : Lk} {c : List Lk} {p : Pm} (h : Whole F (l :: c)) (hf : Fixes F p) : TLoop F l c (l.gen p) c p 0 :=
  ⟨h.gen hf, rfl, rfl, ⟨[], by simp [Lk.gen]⟩, rfl, rfl, fun _ h => h, fun e he hn => absurd he hn, fun e he => by simp at he⟩

theorem TLoop.step {F : Nat → Prop} {l l' l2 : Lk} {c c' c2 : List Lk} {p : Pm} {e : Nat × Pm} {i : Nat} (h : TLoop F l c l' c' p i) (hi : l.tab.take (i + 1) = l.tab.take i ++ [e]) (he : e.2.act l.base = e.1) (hp : Part F l2 c2) (h2 : Brought l' c' l2 c2 (p * e.2)) : TLoop F l c l2 c2 p (i + 1) := by
  obtain ⟨m1, hm1⟩ := h.tab
  obtain ⟨m2, hm2⟩ := h2.tab
  refine ⟨hp, h2.base.trans h.base, h2.gens.trans h.gens, ⟨m1 ++ m2, by rw [hm2, hm1, List.append_assoc]⟩, h2.len.trans h.len, h2.bases.trans h.bases, fun x hx => h2.grow x (h.grow x hx), ?_, ?_⟩
  · intro x hx hn s hs
    rw [h2.gens] at hs
    by_cases h1 : x ∈ l'.tab
    · exact (h.new x h1 hn s hs).mono h2.tab h2.grow
    · exact h2.new x hx h1 s hs
  · intro x hx
    rw [hi] at hx
    rcases List.mem_append.1 hx with hx | hx
    · exact (h.done x hx).mono h2.tab h2.grow
    · rw [List.mem_singleton.1 hx]
      obtain ⟨e', he', h3, h4⟩ := h2.there
      exact ⟨e', he', by rw [h3, h.base, Pm.act_mul, he], h4⟩

theorem TLoop.finish {F : Nat → Prop} {l l' : Lk} {c c' : List Lk} {p : Pm} {i : Nat} (h : TLoop F l c l' c' p i) (hw : Whole F (l :: c)) (hi : l.tab.length ≤ i) : Whole F (l' :: c') ∧ Took (l :: c) (l' :: c') p := by
  have hwh : Whole F (l' :: c') := by
    refine h.part.closes (fun s hs e he => ?_)
    by_cases h1 : e ∈ l.tab
    · rw [h.gens] at hs
      rcases List.mem_append.1 hs with hs | hs
      · exact (Whole.done hw hs h1).mono h.tab h.grow
      · rw [List.mem_singleton.1 hs]
        exact h.done e (by rw [List.take_of_length_le hi]; exact h1)
    · exact h.new e he h1 s hs
  refine ⟨hwh, ⟨by simp [h.len], by simp [h.base, h.bases], ?_, ?_, ?_⟩⟩
  · intro x hx
    refine (hwh.2.2 x).2 (((hw.2.2 x).1 hx).mono (fun s hs => ?_))
    show s ∈ l'.gens
    rw [h.gens]; exact List.mem_append_left _ hs
  · exact (hwh.2.2 p).2 (Gen.of (by show p ∈ l'.gens; rw [h.gens]; simp))
  · intro H hH hc hp x hx
    refine Gen.least hH (fun s hs => ?_) ((hwh.2.2 x).1 hx)
    have hs : s ∈ l'.gens := hs
    rw [h.gens] at hs
    rcases List.mem_append.1 hs with hs | hs
    · exact hc s ((hw.2.2 s).2 (Gen.of hs))
    · rw [List.mem_singleton.1 hs]; exact hp

end Go.Proofs.Ytimfoggjocajiaa
