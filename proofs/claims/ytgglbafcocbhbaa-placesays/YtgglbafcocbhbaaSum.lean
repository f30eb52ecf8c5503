/- Plain: sums over places, the number of pairs that are the wrong way about, and that its parity is multiplied by composition. -/
import Derived.Test.YtgglbafcocbhbaaOrder
namespace Go.Proofs.Ytgglbafcocbhbaa

/-- The sum of f over 0 .. n - 1. -/
def S : Nat → (Nat → Nat) → Nat
  | 0, _ => 0
  | n + 1, f => S n f + f n

theorem S_congr {n : Nat} {f g : Nat → Nat} (h : ∀ i, i < n → f i = g i) : S n f = S n g := by
  induction n with
  | zero => rfl
  | succ n ih => show S n f + f n = S n g + g n; rw [ih (fun i hi => h i (by omega)), h n (by omega)]

theorem S_add (n : Nat) (f g : Nat → Nat) : S n (fun i => f i + g i) = S n f + S n g := by
  induction n with
  | zero => rfl
  | succ n ih => show S n (fun i => f i + g i) + (f n + g n) = (S n f + f n) + (S n g + g n); rw [ih]; omega

theorem S_mul (n c : Nat) (f : Nat → Nat) : S n (fun i => c * f i) = c * S n f := by
  induction n with
  | zero => rfl
  | succ n ih => show S n (fun i => c * f i) + c * f n = c * (S n f + f n); rw [ih, Nat.mul_add]

theorem S_zero (n : Nat) : S n (fun _ => 0) = 0 := by
  induction n with
  | zero => rfl
  | succ n ih => show S n (fun _ => 0) + 0 = 0; rw [ih]

/-- How many lie in an interval. -/
theorem S_between (n a b : Nat) (hab : a ≤ b) (hb : b ≤ n) : S n (fun i => if a ≤ i ∧ i < b then 1 else 0) = b - a := by
  induction n with
  | zero => show 0 = b - a; omega
  | succ n ih =>
    show S n (fun i => if a ≤ i ∧ i < b then 1 else 0) + (if a ≤ n ∧ n < b then 1 else 0) = b - a
    by_cases h : b ≤ n
    · rw [ih h, if_neg (by omega)]; rfl
    · have hbn : b = n + 1 := by omega
      subst hbn
      by_cases h2 : a ≤ n
      · have : S n (fun i => if a ≤ i ∧ i < n + 1 then 1 else 0) = S n (fun i => if a ≤ i ∧ i < n then 1 else 0) := S_congr (fun i hi => by
          by_cases h3 : a ≤ i
          · rw [if_pos ⟨h3, by omega⟩, if_pos ⟨h3, hi⟩]
          · rw [if_neg (fun h => h3 h.1), if_neg (fun h => h3 h.1)])
        rw [if_pos ⟨h2, by omega⟩]
        have key : ∀ m a, a ≤ m → S m (fun i => if a ≤ i ∧ i < m + 1 then 1 else 0) = m - a := by
          intro m a hm
          clear ih this
          induction m with
          | zero => show 0 = 0 - a; omega
          | succ m ihm =>
            show S m (fun i => if a ≤ i ∧ i < m + 1 + 1 then 1 else 0) + (if a ≤ m ∧ m < m + 1 + 1 then 1 else 0) = m + 1 - a
            have e : S m (fun i => if a ≤ i ∧ i < m + 1 + 1 then 1 else 0) = S m (fun i => if a ≤ i ∧ i < m + 1 then 1 else 0) := S_congr (fun i hi => by
              by_cases h3 : a ≤ i
              · rw [if_pos ⟨h3, by omega⟩, if_pos ⟨h3, by omega⟩]
              · rw [if_neg (fun h => h3 h.1), if_neg (fun h => h3 h.1)])
            rw [e]
            by_cases h4 : a ≤ m
            · rw [ihm h4, if_pos ⟨h4, by omega⟩]; omega
            · have z : S m (fun i => if a ≤ i ∧ i < m + 1 then 1 else 0) = S m (fun _ => 0) := S_congr (fun i hi => by rw [if_neg (by omega)])
              rw [z, S_zero, if_neg (by omega)]; omega
        rw [key n a h2]; omega
      · have z : S n (fun i => if a ≤ i ∧ i < n + 1 then 1 else 0) = S n (fun _ => 0) := S_congr (fun i hi => by rw [if_neg (by omega)])
        rw [z, S_zero, if_neg (by omega)]; omega

theorem S_swap2 (n : Nat) (F : Nat → Nat → Nat) (hs : ∀ i j, i < n → j < n → F i j = F j i) (h0 : ∀ i, i < n → F i i = 0) : S n (fun i => S n (fun j => F i j)) = 2 * S n (fun i => S i (fun j => F i j)) := by
  induction n with
  | zero => rfl
  | succ n ih =>
    show S n (fun i => S n (fun j => F i j) + F i n) + (S n (fun j => F n j) + F n n) = 2 * (S n (fun i => S i (fun j => F i j)) + S n (fun j => F n j))
    rw [S_add, ih (fun i j hi hj => hs i j (by omega) (by omega)) (fun i hi => h0 i (by omega)), h0 n (by omega), S_congr (fun i hi => hs i n (by omega) (by omega) : ∀ i, i < n → F i n = F n i)]
    generalize S n (fun i => S i (fun j => F i j)) = A
    show 2 * A + S n (F n) + (S n (F n) + 0) = 2 * (A + S n (F n))
    omega

/-- A sum over a list. -/
def Ls (f : Nat → Nat) : List Nat → Nat
  | [] => 0
  | x :: xs => f x + Ls f xs

theorem Ls_perm {f : Nat → Nat} {l m : List Nat} (h : l.Perm m) : Ls f l = Ls f m := by
  induction h with
  | nil => rfl
  | cons x _ ih => show f x + _ = f x + _; rw [ih]
  | swap x y l => show f y + (f x + Ls f l) = f x + (f y + Ls f l); omega
  | trans _ _ h1 h2 => rw [h1, h2]

theorem Ls_append (f : Nat → Nat) (l m : List Nat) : Ls f (l ++ m) = Ls f l + Ls f m := by
  induction l with
  | nil => show _ = 0 + _; rw [Nat.zero_add]; rfl
  | cons x l ih => show f x + Ls f (l ++ m) = f x + Ls f l + Ls f m; rw [ih]; omega

theorem S_list (f q : Nat → Nat) (n : Nat) : S n (fun i => f (q i)) = Ls f ((List.range n).map q) := by
  induction n with
  | zero => rfl
  | succ n ih =>
    show S n (fun i => f (q i)) + f (q n) = _
    rw [ih, List.range_succ, List.map_append, Ls_append]
    rfl

/-- q is a permutation of 0 .. n - 1. -/
def PermOn (n : Nat) (q : Nat → Nat) : Prop := (∀ i, i < n → q i < n) ∧ ∀ i j, i < n → j < n → q i = q j → i = j

theorem perm_list {n : Nat} {q : Nat → Nat} (h : PermOn n q) : ((List.range n).map q).Perm (List.range n) := by
  have hd : ((List.range n).map q).Nodup := by
    rw [List.nodup_iff_pairwise_ne, List.pairwise_map]
    refine List.Pairwise.imp_of_mem ?_ (List.pairwise_lt_range (n := n))
    intro i j hi hj hij e
    rw [List.mem_range] at hi hj
    have := h.2 i j hi hj e
    omega
  have hsub : ∀ (l m : List Nat), l.Nodup → (∀ x ∈ l, x ∈ m) → l.length = m.length → l.Perm m := by
    intro l
    induction l with
    | nil => intro m _ _ hl; rw [List.length_eq_zero_iff.1 hl.symm]
    | cons a l ih =>
      intro m hn hs hl
      have ha : a ∈ m := hs a List.mem_cons_self
      have hn' := List.nodup_cons.1 hn
      have h1 := ih (m.erase a) hn'.2 (fun x hx => (List.mem_erase_of_ne (fun e => hn'.1 (by rw [← e]; exact hx))).2 (hs x (List.mem_cons_of_mem _ hx))) (by rw [List.length_erase_of_mem ha]; simp at hl; omega)
      exact (h1.cons a).trans (List.perm_cons_erase ha).symm
  refine hsub _ _ hd (fun x hx => ?_) (by simp)
  obtain ⟨i, hi, rfl⟩ := List.mem_map.1 hx
  exact List.mem_range.2 (h.1 i (List.mem_range.1 hi))

theorem S_perm {n : Nat} {q : Nat → Nat} (h : PermOn n q) (f : Nat → Nat) : S n (fun i => f (q i)) = S n f := by
  rw [S_list f q n, Ls_perm (perm_list h)]
  have := S_list f (fun x => x) n
  simpa using this.symm

/-- 1, if the two are not the same. -/
def ne (x y : Bool) : Nat := if x = y then 0 else 1

theorem ne_tri (x y z : Bool) : ne x z + 2 * (ne x y * ne y z) = ne x y + ne y z := by cases x <;> cases y <;> cases z <;> decide

/-- Are the places i and j, in p, about as they are? -/
def dis (p : Nat → Nat) (i j : Nat) : Nat := ne (decide (i < j)) (decide (p i < p j))

theorem dis_sym {p : Nat → Nat} {i j : Nat} (h : p i = p j → i = j) : dis p i j = dis p j i := by
  unfold dis
  by_cases e : i = j
  · subst e; rfl
  · have e2 : p i ≠ p j := fun h' => e (h h')
    have h1 : decide (j < i) = !decide (i < j) := by by_cases h3 : i < j <;> simp [h3] <;> omega
    have h2 : decide (p j < p i) = !decide (p i < p j) := by by_cases h3 : p i < p j <;> simp [h3] <;> omega
    rw [h1, h2]
    cases decide (i < j) <;> cases decide (p i < p j) <;> decide

theorem dis_self (p : Nat → Nat) (i : Nat) : dis p i i = 0 := by unfold dis; simp [ne]

/-- The number of pairs that are the wrong way about. -/
def inv (n : Nat) (p : Nat → Nat) : Nat := S n (fun i => S i (fun j => dis p i j))

theorem inv_two {n : Nat} {p : Nat → Nat} (h : ∀ i j, i < n → j < n → p i = p j → i = j) : S n (fun i => S n (fun j => dis p i j)) = 2 * inv n p :=
  S_swap2 n _ (fun i j hi hj => dis_sym (h i j hi hj)) (fun i _ => dis_self p i)

theorem inv_congr {n : Nat} {p q : Nat → Nat} (h : ∀ i, i < n → p i = q i) : inv n p = inv n q :=
  S_congr (fun i hi => S_congr (fun j hj => by unfold dis; rw [h i hi, h j (by omega)]))

theorem inv_mul {n : Nat} {p q : Nat → Nat} (hq : PermOn n q) (hp : ∀ i j, i < n → j < n → p i = p j → i = j) : inv n (fun i => p (q i)) % 2 = (inv n p + inv n q) % 2 := by
  have hpq : ∀ i j, i < n → j < n → p (q i) = p (q j) → i = j := fun i j hi hj e => hq.2 i j hi hj (hp _ _ (hq.1 i hi) (hq.1 j hj) e)
  have hC := inv_two (p := fun i => p (q i)) hpq
  have hA := inv_two (p := q) hq.2
  have hB : S n (fun i => S n (fun j => dis p (q i) (q j))) = 2 * inv n p := by
    rw [← inv_two hp]
    rw [← S_perm hq (fun a => S n (fun b => dis p a b))]
    exact S_congr (fun i _ => S_perm hq (fun b => dis p (q i) b))
  have hM := S_swap2 n (fun i j => dis q i j * dis p (q i) (q j)) (fun i j hi hj => by rw [dis_sym (hq.2 i j hi hj), dis_sym (hp _ _ (hq.1 i hi) (hq.1 j hj))]) (fun i _ => by rw [dis_self, Nat.zero_mul])
  have key : S n (fun i => S n (fun j => dis (fun i => p (q i)) i j)) + 2 * S n (fun i => S n (fun j => dis q i j * dis p (q i) (q j))) = S n (fun i => S n (fun j => dis q i j)) + S n (fun i => S n (fun j => dis p (q i) (q j))) := by
    rw [← S_mul, ← S_add, ← S_add]
    refine S_congr (fun i _ => ?_)
    rw [← S_mul, ← S_add, ← S_add]
    exact S_congr (fun j _ => ne_tri _ _ _)
  rw [hC, hM, hA, hB] at key
  omega

/-- Two places exchanged. -/
def swp (a b i : Nat) : Nat := if i = a then b else if i = b then a else i

theorem swp_perm {n a b : Nat} (ha : a < n) (hb : b < n) : PermOn n (swp a b) := by
  constructor
  · intro i hi; unfold swp; split <;> (try split) <;> omega
  · intro i j _ _ e
    unfold swp at e
    split at e <;> split at e <;> (try split at e) <;> (try split at e) <;> omega

theorem swp_comm (a b i : Nat) : swp a b i = swp b a i := by unfold swp; split <;> split <;> omega

theorem inv_swp_lt {n a b : Nat} (hab : a < b) (hb : b < n) : inv n (swp a b) % 2 = 1 := by
  have hrow : ∀ i, i < n → S i (fun j => dis (swp a b) i j) = (if a + 1 ≤ i ∧ i < b then 1 else 0) + (b - a) * (if b ≤ i ∧ i < b + 1 then 1 else 0) := by
    intro i hi
    by_cases h1 : i = b
    · subst h1
      rw [if_neg (by omega), if_pos (by omega), ← S_between i a i (by omega) (Nat.le_refl _)]
      rw [Nat.zero_add, Nat.mul_one]
      refine S_congr (fun j hj => ?_)
      unfold dis swp
      rw [if_neg (by omega : ¬ i = a), if_pos rfl, decide_eq_false (by omega : ¬ i < j)]
      by_cases h2 : a ≤ j
      · by_cases h3 : j = a
        · rw [if_pos h3, decide_eq_true (by omega), if_pos ⟨h2, hj⟩]; rfl
        · rw [if_neg h3, if_neg (by omega), decide_eq_true (by omega), if_pos ⟨h2, hj⟩]; rfl
      · rw [if_neg (by omega : ¬ j = a), if_neg (by omega : ¬ j = i), decide_eq_false (by omega), if_neg (by omega)]; rfl
    · rw [if_neg (by omega : ¬ (b ≤ i ∧ i < b + 1)), Nat.mul_zero, Nat.add_zero]
      by_cases h2 : a + 1 ≤ i ∧ i < b
      · rw [if_pos h2, show (1 : Nat) = a + 1 - a from by omega, ← S_between i a (a + 1) (by omega) (by omega)]
        refine S_congr (fun j hj => ?_)
        unfold dis swp
        rw [if_neg (by omega : ¬ i = a), if_neg h1, decide_eq_false (by omega : ¬ i < j)]
        by_cases h3 : j = a
        · rw [if_pos h3, decide_eq_true (by omega), if_pos (by omega)]; rfl
        · rw [if_neg h3, if_neg (by omega), decide_eq_false (by omega), if_neg (by omega)]; rfl
      · rw [if_neg h2, ← S_zero i]
        refine S_congr (fun j hj => ?_)
        unfold dis swp
        rw [decide_eq_false (by omega : ¬ i < j)]
        by_cases h3 : i = a
        · rw [if_pos h3, if_neg (by omega), if_neg (by omega), decide_eq_false (by omega)]; rfl
        · rw [if_neg h3, if_neg h1]
          by_cases h4 : j = a
          · rw [if_pos h4, decide_eq_false (by omega)]; rfl
          · rw [if_neg h4]
            by_cases h5 : j = b
            · rw [if_pos h5, decide_eq_false (by omega)]; rfl
            · rw [if_neg h5, decide_eq_false (by omega)]; rfl
  have h : inv n (swp a b) = (b - (a + 1)) + (b - a) * 1 := by
    unfold inv
    rw [S_congr hrow, S_add, S_between n (a + 1) b (by omega) (by omega), S_mul, S_between n b (b + 1) (by omega) (by omega), show b + 1 - b = 1 from by omega]
  rw [h]; omega

theorem inv_swp {n a b : Nat} (hne : a ≠ b) (ha : a < n) (hb : b < n) : inv n (swp a b) % 2 = 1 := by
  rcases Nat.lt_or_gt_of_ne hne with h | h
  · exact inv_swp_lt h hb
  · rw [inv_congr (fun i _ => swp_comm a b i)]; exact inv_swp_lt h ha

theorem inv_id (n : Nat) : inv n (fun i => i) = 0 := by
  unfold inv
  rw [← S_zero n]
  refine S_congr (fun i hi => ?_)
  rw [← S_zero i]
  exact S_congr (fun j _ => by unfold dis; simp [ne])

end Go.Proofs.Ytgglbafcocbhbaa
