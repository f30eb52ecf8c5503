/- Joined: Srt, RefE, RefF, Til, I6, Chng, SrtA, SrtB, SrtC, Rno. -/
import Derived.Test.YthbhoohdniamaaaJ4
import Derived.Test.YthbhoohdniamaaaJ0
import Derived.Shelf.SlSortCmp.Whole1
import Derived.Test.YthbhoohdniamaaaJ2
import Derived.Shelf.SlSortCmp.NoneTotal
import Derived.Lib.RuneCount
import Derived.Lib.DecodeN
/- slices.SortFunc over lists of lists, off the library's shelf: what it leans on. -/
namespace Go.Proofs.Ythbhoohdniamaaa
open Go.RowKit Go.Shelf

def rnS : Go.Shelf.Ren := ⟨fun x => match x with | 6 => 52 | 14 => 71 | 15 => 72 | 20 => 92 | 21 => 93 | 22 => 94 | 23 => 95 | 24 => 96 | 25 => 97 | 26 => 98 | 27 => 99 | 28 => 100 | 29 => 101 | 46 => 111 | 47 => 112 | 48 => 113 | 49 => 114 | 50 => 115 | 57 => 116 | y => y,
  fun x => match x with | 0 => 0 | 3 => 3 | 4 => 4 | 5 => 5 | 9 => 9 | 22 => 24 | 24 => 22 | 25 => 105 | 39 => 125 | 45 => 140 | 46 => 141 | 50 => 100 | 53 => 147 | 55 => 149 | 66 => 153 | 70 => 157 | 76 => 159 | 77 => 160 | y => y, fun x => x⟩

theorem laysS : Go.Proofs.SlLaysF.n6 Try.prog rnS where
  mixed := by kernel_rfl
  f6 := ⟨ "slices.SortFunc[[][]int,[]int]", by kernel_rfl, by kernel_rfl⟩
  f14 := ⟨ "slices.pdqsortCmpFunc[[]int]", by kernel_rfl, by kernel_rfl⟩
  f15 := by kernel_rfl
  f20 := ⟨ "slices.insertionSortCmpFunc[[]int]", by kernel_rfl, by kernel_rfl⟩
  f21 := ⟨ "slices.heapSortCmpFunc[[]int]", by kernel_rfl, by kernel_rfl⟩
  f22 := ⟨ "slices.breakPatternsCmpFunc[[]int]", by kernel_rfl, by kernel_rfl⟩
  f23 := ⟨ "slices.choosePivotCmpFunc[[]int]", by kernel_rfl, by kernel_rfl⟩
  f24 := ⟨ "slices.reverseRangeCmpFunc[[]int]", by kernel_rfl, by kernel_rfl⟩
  f25 := ⟨ "slices.partialInsertionSortCmpFunc[[]int]", by kernel_rfl, by kernel_rfl⟩
  f26 := ⟨ "slices.partitionEqualCmpFunc[[]int]", by kernel_rfl, by kernel_rfl⟩
  f27 := ⟨ "slices.partitionCmpFunc[[]int]", by kernel_rfl, by kernel_rfl⟩
  f28 := by kernel_rfl
  f29 := by kernel_rfl
  f46 := ⟨ "slices.siftDownCmpFunc[[]int]", by kernel_rfl, by kernel_rfl⟩
  f47 := by kernel_rfl
  f48 := by kernel_rfl
  f49 := ⟨ "slices.medianAdjacentCmpFunc[[]int]", by kernel_rfl, by kernel_rfl⟩
  f50 := ⟨ "slices.medianCmpFunc[[]int]", by kernel_rfl, by kernel_rfl⟩
  f57 := ⟨ "slices.order2CmpFunc[[]int]", by kernel_rfl, by kernel_rfl⟩
  t0 := by kernel_rfl
  a0 := fun w => by kernel_rfl
  z0 := fun w => by kernel_rfl
  v0 := fun w => by kernel_rfl
  t3 := by kernel_rfl
  a3 := fun w => by kernel_rfl
  z3 := fun w => by kernel_rfl
  v3 := fun w => by kernel_rfl
  t4 := by kernel_rfl
  a4 := fun w => by kernel_rfl
  z4 := fun w => by kernel_rfl
  v4 := fun w => by kernel_rfl
  t5 := by kernel_rfl
  a5 := fun w => by kernel_rfl
  z5 := fun w => by kernel_rfl
  v5 := fun w => by kernel_rfl
  t9 := by kernel_rfl
  a9 := fun w => by kernel_rfl
  z9 := fun w => by kernel_rfl
  v9 := fun w => by kernel_rfl
  t22 := by kernel_rfl
  a22 := fun w => by kernel_rfl
  z22 := fun w => by kernel_rfl
  v22 := fun w => by kernel_rfl
  a24 := fun w => by kernel_rfl
  z24 := fun w => by kernel_rfl
  t25 := by kernel_rfl
  a25 := fun w => by kernel_rfl
  z25 := fun w => by kernel_rfl
  v25 := fun w => by kernel_rfl
  t39 := by kernel_rfl
  a39 := fun w => by kernel_rfl
  z39 := fun w => by kernel_rfl
  v39 := fun w => by kernel_rfl
  t45 := by kernel_rfl
  a45 := fun w => by kernel_rfl
  z45 := fun w => by kernel_rfl
  v45 := fun w => by kernel_rfl
  t46 := by kernel_rfl
  a46 := fun w => by kernel_rfl
  z46 := fun w => by kernel_rfl
  v46 := fun w => by kernel_rfl
  t50 := by kernel_rfl
  a50 := fun w => by kernel_rfl
  z50 := fun w => by kernel_rfl
  v50 := fun w => by kernel_rfl
  t53 := by kernel_rfl
  a53 := fun w => by kernel_rfl
  z53 := fun w => by kernel_rfl
  v53 := fun w => by kernel_rfl
  t55 := by kernel_rfl
  a55 := fun w => by kernel_rfl
  z55 := fun w => by kernel_rfl
  v55 := fun w => by kernel_rfl
  t66 := by kernel_rfl
  a66 := fun w => by kernel_rfl
  z66 := fun w => by kernel_rfl
  v66 := fun w => by kernel_rfl
  t70 := by kernel_rfl
  a70 := fun w => by kernel_rfl
  z70 := fun w => by kernel_rfl
  v70 := fun w => by kernel_rfl
  t76 := by kernel_rfl
  a76 := fun w => by kernel_rfl
  z76 := fun w => by kernel_rfl
  v76 := fun w => by kernel_rfl
  t77 := by kernel_rfl
  a77 := fun w => by kernel_rfl
  z77 := fun w => by kernel_rfl
  v77 := fun w => by kernel_rfl

end Go.Proofs.Ythbhoohdniamaaa

/- Contract of the answer's Cycles. -/
namespace Go.Proofs.Ythbhoohdniamaaa
open Go.RowKit
set_option maxRecDepth 20000

/-- Is x the least of the first k bells of its cycle? -/
def lst (a : List Int) (x : Nat) : Nat → Bool
  | 0 => true
  | 1 => true
  | k + 2 => lst a x (k + 1) && decide (x < it a (k + 1) x)

theorem lst_succ {a : List Int} {x k : Nat} (h : 1 ≤ k) : lst a x (k + 1) = (lst a x k && decide (x < it a k x)) := by
  match k, h with
  | k + 1, _ => rfl

theorem lst_true {a : List Int} {x k : Nat} : lst a x k = true ↔ ∀ i, 1 ≤ i → i < k → x < it a i x := by
  induction k with
  | zero => exact ⟨fun _ i h1 h2 => by omega, fun _ => rfl⟩
  | succ k ih =>
    by_cases hk : 1 ≤ k
    · rw [lst_succ hk, Bool.and_eq_true, ih, decide_eq_true_iff]
      constructor
      · rintro ⟨h1, h2⟩ i hi hik
        by_cases e : i = k
        · subst e; exact h2
        · exact h1 i hi (by omega)
      · intro h
        exact ⟨fun i hi hik => h i hi (by omega), h k hk (by omega)⟩
    · have e : k = 0 := by omega
      subst e
      exact ⟨fun _ i h1 h2 => by omega, fun _ => rfl⟩

theorem flat_backs {r : List Int} (hr : isRow r) {k x : Nat} (hk : k ≤ r.length) (hx : x < r.length) (i : Nat) (h : ((it r i x : Nat) : Int) ∈ (cycsTo r k).flatten) : (x : Int) ∈ (cycsTo r k).flatten := by
  induction i with
  | zero => exact h
  | succ i ih => exact ih (flat_back hr hk (it_lt hr hx i) h)

theorem lst_flat {a : List Int} (hr : isRow a) {x : Nat} (hx : x < a.length) : lst a x (per a x) = true ↔ ¬ (x : Int) ∈ (cycsTo a x).flatten := by
  rw [lst_true]
  constructor
  · intro h hm
    obtain ⟨c, hc, hm⟩ := List.mem_flatten.1 hm
    obtain ⟨y, hy, rfl⟩ := cyc_form hc
    obtain ⟨i, hi, e⟩ := mem_orb.1 hm
    have e' : x = it a i y := by omega
    obtain ⟨_, _, p3, _⟩ := per_spec hr (show y < a.length by omega)
    obtain ⟨q1, _, q3, _⟩ := per_spec hr hx
    have hj : it a (per a y - i) x = y := by rw [e', ← it_add, show per a y - i + i = per a y from by omega, p3]
    -- y is one of the bells of x's own cycle
    have hmod : ∀ n, it a n x = it a (n % per a x) x := by
      intro n
      have key : ∀ d, it a (per a x * d) x = x := by
        intro d
        induction d with
        | zero => rfl
        | succ d ih => rw [Nat.mul_succ, it_add, q3, ih]
      have : n = n % per a x + per a x * (n / per a x) := by rw [Nat.mod_add_div]
      rw [this, it_add, key, Nat.add_mul_mod_self_left, Nat.mod_mod]
    rw [hmod] at hj
    have hlt := Nat.mod_lt (per a y - i) q1
    by_cases h0 : (per a y - i) % per a x = 0
    · rw [h0] at hj
      have : x = y := hj
      omega
    · have := h _ (by omega) hlt
      omega
  · intro hn i h1 h2
    rcases Nat.lt_trichotomy x (it a i x) with h | h | h
    · exact h
    · exact absurd h.symm ((per_spec hr hx).2.2.2 i h1 h2)
    · exact absurd (flat_backs hr (by omega) hx i (flat_all hr x (by omega) (it a i x) h)) hn

theorem owns_len1 {w : World} {base e n : Nat} {v : Value} {xs : List Value} (h : w.ownsRow base e 1 v n xs) (hn : 1 ≤ n) : ∃ g cap, v = .slice (some ⟨g, 0, none⟩) n cap := by
  obtain ⟨g, cap, e, _⟩ := owns_form h hn
  exact ⟨g, cap, e⟩

end Go.Proofs.Ythbhoohdniamaaa

/- Contract of the answer's Order; the least common multiple of the cycles is the order. -/
namespace Go.Proofs.Ythbhoohdniamaaa
open Go.RowKit
set_option maxRecDepth 20000

theorem it_succ' (r : List Int) (n x : Nat) : it r (n + 1) x = it r n (nx r x) := it_add r n 1 x

/-- The row, taken n times. -/
def pw (r : List Int) (n : Nat) : List Int := (List.range r.length).map (fun i => ((it r n i : Nat) : Int))

theorem pw_length (r : List Int) (n : Nat) : (pw r n).length = r.length := by simp [pw]

theorem pw_get {r : List Int} {n i : Nat} (h : i < r.length) : (pw r n).getD i 0 = ((it r n i : Nat) : Int) := by simp [pw, List.getD, h]

theorem pw_one {r : List Int} (hr : isRow r) : pw r 1 = r := by
  refine ext_getD (pw_length r 1) (fun i hi => ?_)
  rw [pw_length] at hi
  rw [pw_get hi]
  have := hr.at hi
  show ((nx r i : Nat) : Int) = _
  unfold nx; omega

theorem pw_succ {r : List Int} (hr : isRow r) (n : Nat) : by_ (pw r n) r = pw r (n + 1) := by
  refine ext_getD (by rw [by_length, pw_length]) (fun i hi => ?_)
  rw [by_length] at hi
  rw [by_get hi, pw_get hi]
  show (pw r n).getD (nx r i) 0 = _
  rw [pw_get (nx_lt hr hi), it_succ']

theorem isRow_pw {r : List Int} (hr : isRow r) (n : Nat) : isRow (pw r n) := by
  constructor
  · intro y hy
    obtain ⟨i, hi, rfl⟩ := List.mem_map.1 hy
    have := it_lt hr (List.mem_range.1 hi) n
    rw [pw_length]; omega
  · rw [List.nodup_iff_pairwise_ne]
    unfold pw
    rw [List.pairwise_map]
    refine List.Pairwise.imp_of_mem ?_ (List.pairwise_lt_range (n := r.length))
    intro i j hi hj hij e
    have := it_inj hr (List.mem_range.1 hi) (List.mem_range.1 hj) n (by omega)
    omega

theorem pw_rnd {r : List Int} {n : Nat} : pw r n = rnd r.length ↔ ∀ x, x < r.length → it r n x = x := by
  constructor
  · intro h x hx
    have h1 := pw_get (r := r) (n := n) hx
    rw [h, rnd_get hx] at h1
    omega
  · intro h
    exact eq_rnd (pw_length r n) (fun j hj => by rw [pw_get hj, h j hj])

theorem it_mul {r : List Int} {x p : Nat} (h : it r p x = x) (d : Nat) : it r (p * d) x = x := by
  induction d with
  | zero => rfl
  | succ d ih => rw [Nat.mul_succ, it_add, h, ih]

theorem per_dvd {r : List Int} (hr : isRow r) {x n : Nat} (hx : x < r.length) : it r n x = x ↔ per r x ∣ n := by
  obtain ⟨q1, _, q3, q4⟩ := per_spec hr hx
  constructor
  · intro h
    have e : n = n % per r x + per r x * (n / per r x) := by rw [Nat.mod_add_div]
    rw [e, it_add, it_mul q3] at h
    have hlt := Nat.mod_lt n q1
    by_cases h0 : n % per r x = 0
    · exact Nat.dvd_of_mod_eq_zero h0
    · exact absurd h (q4 _ (by omega) hlt)
  · rintro ⟨d, rfl⟩
    exact it_mul q3 d

theorem ordTo_dvd (xss : List (List Int)) (n j : Nat) (hj : j ≤ xss.length) : ordTo xss j ∣ n ↔ ∀ i, i < j → (xss.getD i []).length ∣ n := by
  induction j with
  | zero => exact ⟨fun _ i h => by omega, fun _ => Nat.one_dvd n⟩
  | succ j ih =>
    show Nat.lcm (ordTo xss j) (xss.getD j []).length ∣ n ↔ _
    rw [Nat.lcm_dvd_iff, ih (by omega)]
    constructor
    · rintro ⟨h1, h2⟩ i hi
      by_cases e : i = j
      · subst e; exact h2
      · exact h1 i (by omega)
    · intro h
      exact ⟨fun i hi => h i (by omega), h j (by omega)⟩

/-- How often the row must be taken, by its cycles. -/
def ord (r : List Int) : Nat := ordTo (cycsTo r r.length) (cycsTo r r.length).length

theorem ord_pw {r : List Int} (hr : isRow r) (n : Nat) : pw r n = rnd r.length ↔ ord r ∣ n := by
  rw [pw_rnd]
  unfold ord
  rw [ordTo_dvd _ _ _ (Nat.le_refl _)]
  constructor
  · intro h i hi
    have hc : (cycsTo r r.length).getD i [] ∈ cycsTo r r.length := by
      rw [show (cycsTo r r.length).getD i [] = (cycsTo r r.length)[i] from by simp [List.getD, List.getElem?_eq_getElem hi]]
      exact List.getElem_mem hi
    obtain ⟨y, hy, e⟩ := cyc_form hc
    rw [e, orb_length]
    exact (per_dvd hr hy).1 (h y hy)
  · intro h x hx
    obtain ⟨c, hc, hm⟩ := List.mem_flatten.1 (flat_all hr r.length (Nat.le_refl _) x hx)
    obtain ⟨i, hi, e⟩ := List.getElem_of_mem hc
    have hd := h i hi
    rw [show (cycsTo r r.length).getD i [] = c from by simp [List.getD, List.getElem?_eq_getElem hi, e]] at hd
    obtain ⟨y, hy, rfl⟩ := cyc_form hc
    rw [orb_length] at hd
    obtain ⟨j, _, e2⟩ := mem_orb.1 hm
    have e3 : x = it r j y := by omega
    rw [e3, ← it_add, Nat.add_comm, it_add, (per_dvd hr hy).2 hd]

theorem ord_pos {r : List Int} (hr : isRow r) (h12 : r.length ≤ 12) : 1 ≤ ord r ∧ ord r ≤ 1000000000000000 := by
  have hall := cycsTo_len hr r.length (Nat.le_refl _)
  have hbd := ordTo_bound (xss := cycsTo r r.length) (fun x hx => by have := hall x hx; omega) (cycsTo r r.length).length (Nat.le_refl _)
  have hl := cycsTo_length r r.length
  have hpw : 12 ^ (cycsTo r r.length).length ≤ 12 ^ 12 := Nat.pow_le_pow_right (by decide) (by omega)
  have h3 : 12 ^ 12 ≤ 1000000000000000 := by decide
  exact ⟨hbd.1, by unfold ord; omega⟩

theorem dis_row {r : List Int} (hr : isRow r) {i j : Nat} (hi : i < r.length) (hj : j < i) : dis (nx r) i j = if r.getD i 0 < r.getD j 0 then 1 else 0 := by
  have h1 := hr.at hi
  have h2 := hr.at (show j < r.length by omega)
  unfold dis
  rw [decide_eq_false (by omega : ¬ i < j)]
  unfold nx
  by_cases h : r.getD i 0 < r.getD j 0
  · rw [if_pos h, decide_eq_true (by omega)]; rfl
  · rw [if_neg h, decide_eq_false (by omega)]; rfl

theorem S_le {n : Nat} {f : Nat → Nat} {c : Nat} (h : ∀ i, i < n → f i ≤ c) : S n f ≤ n * c := by
  induction n with
  | zero => exact Nat.zero_le _
  | succ n ih =>
    have h1 := ih (fun i hi => h i (by omega))
    have h2 := h n (by omega)
    show S n f + f n ≤ (n + 1) * c
    rw [Nat.add_mul, Nat.one_mul]; omega

theorem dis_le (p : Nat → Nat) (i j : Nat) : dis p i j ≤ 1 := by unfold dis ne; split <;> omega

theorem ret_io {o : Int} {a b : Bool} (h : a = b) : Ending.returned (.tuple #[.int .i64 o, .bool a]) = Ending.returned (.tuple #[.int .i64 o, .bool b]) := by rw [h]

end Go.Proofs.Ythbhoohdniamaaa

/- Plain: changes as tilings of the places by single places and pairs; their rows undo themselves, and are odd as their pairs are. -/
namespace Go.Proofs.Ythbhoohdniamaaa
open Go.RowKit

/-- How many places a tiling covers (the last tile first; true: a place that is made, false: a pair). -/
def tsz : List Bool → Nat
  | [] => 0
  | true :: t => tsz t + 1
  | false :: t => tsz t + 2

/-- The places that are made. -/
def tpl : List Bool → List Int
  | [] => []
  | true :: t => tpl t ++ [((tsz t + 1 : Nat) : Int)]
  | false :: t => tpl t

/-- The row. -/
def trow : List Bool → List Int
  | [] => []
  | true :: t => trow t ++ [((tsz t : Nat) : Int)]
  | false :: t => trow t ++ [((tsz t + 1 : Nat) : Int), ((tsz t : Nat) : Int)]

/-- How many pairs. -/
def tpr : List Bool → Nat
  | [] => 0
  | true :: t => tpr t
  | false :: t => tpr t + 1

theorem trow_length : ∀ t, (trow t).length = tsz t
  | [] => rfl
  | true :: t => by simp [trow, tsz, trow_length t]
  | false :: t => by simp [trow, tsz, trow_length t]

theorem tpl_length : ∀ t, (tpl t).length + 2 * tpr t = tsz t
  | [] => rfl
  | true :: t => by have := tpl_length t; simp [tpl, tsz, tpr]; omega
  | false :: t => by have := tpl_length t; simp [tpl, tsz, tpr]; omega

theorem tpl_bound : ∀ t, ∀ y ∈ tpl t, 1 ≤ y ∧ y ≤ (tsz t : Nat)
  | [], y, h => by simp [tpl] at h
  | true :: t, y, h => by
    simp only [tpl, List.mem_append, List.mem_singleton] at h
    rcases h with h | h
    · have := tpl_bound t y h; simp only [tsz]; omega
    · simp only [tsz]; omega
  | false :: t, y, h => by have := tpl_bound t y h; simp only [tsz]; omega

theorem trow_mem : ∀ t, ∀ y ∈ trow t, 0 ≤ y ∧ y < (tsz t : Nat)
  | [], y, h => by simp [trow] at h
  | true :: t, y, h => by
    simp only [trow, List.mem_append, List.mem_singleton] at h
    rcases h with h | h
    · have := trow_mem t y h; simp only [tsz]; omega
    · simp only [tsz]; omega
  | false :: t, y, h => by
    simp only [trow, List.mem_append, List.mem_cons, List.not_mem_nil, or_false] at h
    rcases h with h | h | h
    · have := trow_mem t y h; simp only [tsz]; omega
    · simp only [tsz]; omega
    · simp only [tsz]; omega

theorem trow_nodup : ∀ t, (trow t).Nodup
  | [] => by simp [trow]
  | true :: t => by
    simp only [trow]
    refine List.nodup_append.2 ⟨trow_nodup t, by simp, fun a ha b hb => ?_⟩
    simp only [List.mem_singleton] at hb
    have := trow_mem t a ha
    omega
  | false :: t => by
    simp only [trow]
    refine List.nodup_append.2 ⟨trow_nodup t, by simp; omega, fun a ha b hb => ?_⟩
    simp only [List.mem_cons, List.not_mem_nil, or_false] at hb
    have := trow_mem t a ha
    omega

theorem trow_row (t : List Bool) : isRow (trow t) := ⟨fun y hy => by rw [trow_length]; exact trow_mem t y hy, trow_nodup t⟩

theorem by_append_left {a x b : List Int} (h : ∀ y ∈ b, 0 ≤ y ∧ y < (a.length : Nat)) : by_ (a ++ x) b = by_ a b := by
  unfold by_
  apply List.map_congr_left
  intro y hy
  have := h y hy
  simp only [List.getD]
  rw [List.getElem?_append_left (by omega)]

theorem trow_twice : ∀ t, by_ (trow t) (trow t) = rnd (tsz t)
  | [] => rfl
  | true :: t => by
    have ih := trow_twice t
    have hm : ∀ y ∈ trow t, 0 ≤ y ∧ y < ((trow t).length : Nat) := fun y hy => by rw [trow_length]; exact trow_mem t y hy
    show by_ (trow t ++ [((tsz t : Nat) : Int)]) (trow t ++ [((tsz t : Nat) : Int)]) = rnd (tsz t + 1)
    rw [show by_ (trow t ++ [((tsz t : Nat) : Int)]) (trow t ++ [((tsz t : Nat) : Int)]) = by_ (trow t ++ [((tsz t : Nat) : Int)]) (trow t) ++ by_ (trow t ++ [((tsz t : Nat) : Int)]) [((tsz t : Nat) : Int)] from List.map_append, by_append_left hm, ih, rnd_snoc]
    simp [by_, List.getD, trow_length]
  | false :: t => by
    have ih := trow_twice t
    have hm : ∀ y ∈ trow t, 0 ≤ y ∧ y < ((trow t).length : Nat) := fun y hy => by rw [trow_length]; exact trow_mem t y hy
    show by_ (trow t ++ [((tsz t + 1 : Nat) : Int), ((tsz t : Nat) : Int)]) (trow t ++ [((tsz t + 1 : Nat) : Int), ((tsz t : Nat) : Int)]) = rnd (tsz t + 1 + 1)
    rw [show by_ (trow t ++ [((tsz t + 1 : Nat) : Int), ((tsz t : Nat) : Int)]) (trow t ++ [((tsz t + 1 : Nat) : Int), ((tsz t : Nat) : Int)]) = by_ (trow t ++ [((tsz t + 1 : Nat) : Int), ((tsz t : Nat) : Int)]) (trow t) ++ by_ (trow t ++ [((tsz t + 1 : Nat) : Int), ((tsz t : Nat) : Int)]) [((tsz t + 1 : Nat) : Int), ((tsz t : Nat) : Int)] from List.map_append, by_append_left hm, ih, rnd_snoc, rnd_snoc]
    have h1 : (trow t ++ [((tsz t + 1 : Nat) : Int), ((tsz t : Nat) : Int)]).getD (tsz t + 1) 0 = ((tsz t : Nat) : Int) := by
      simp only [List.getD]; rw [List.getElem?_append_right (by rw [trow_length]; omega), trow_length, show tsz t + 1 - tsz t = 1 from by omega]; rfl
    have h2 : (trow t ++ [((tsz t + 1 : Nat) : Int), ((tsz t : Nat) : Int)]).getD (tsz t) 0 = ((tsz t + 1 : Nat) : Int) := by
      simp only [List.getD]; rw [List.getElem?_append_right (by rw [trow_length]; omega), trow_length, show tsz t - tsz t = 0 from by omega]; rfl
    simp only [by_, List.map_cons, List.map_nil, Int.toNat_natCast, h1, h2, List.append_assoc, List.singleton_append]

theorem nx_append_left {a x : List Int} {i : Nat} (h : i < a.length) : nx (a ++ x) i = nx a i := by
  unfold nx; simp only [List.getD]; rw [List.getElem?_append_left h]

theorem nx_trow_lt (t : List Bool) {i : Nat} (h : i < tsz t) : nx (trow t) i < tsz t := by
  have := nx_lt (trow_row t) (x := i) (by rw [trow_length]; exact h)
  rwa [trow_length] at this

theorem dis_zero {p : Nat → Nat} {i j : Nat} (h : j < i) (hp : p j < p i) : dis p i j = 0 := by
  unfold dis ne; rw [decide_eq_false (by omega), decide_eq_false (by omega)]; rfl

theorem dis_one {p : Nat → Nat} {i j : Nat} (h : j < i) (hp : p i < p j) : dis p i j = 1 := by
  unfold dis ne; rw [decide_eq_false (by omega), decide_eq_true hp]; rfl

theorem trow_inv : ∀ t, inv (tsz t) (nx (trow t)) = tpr t
  | [] => rfl
  | true :: t => by
    have ih := trow_inv t
    have e : ∀ i, i < tsz t → nx (trow (true :: t)) i = nx (trow t) i := fun i hi => nx_append_left (by rw [trow_length]; exact hi)
    have es : nx (trow (true :: t)) (tsz t) = tsz t := by
      show nx (trow t ++ [((tsz t : Nat) : Int)]) (tsz t) = tsz t
      unfold nx; simp only [List.getD]; rw [List.getElem?_append_right (by rw [trow_length]; omega), trow_length, Nat.sub_self]; rfl
    show inv (tsz t) (nx (trow (true :: t))) + S (tsz t) (fun j => dis (nx (trow (true :: t))) (tsz t) j) = tpr t
    rw [inv_congr e, ih, S_congr (g := fun _ => 0) (fun j hj => dis_zero hj (by rw [es, e j hj]; exact nx_trow_lt t hj)), S_zero]
    rfl
  | false :: t => by
    have ih := trow_inv t
    have e : ∀ i, i < tsz t → nx (trow (false :: t)) i = nx (trow t) i := fun i hi => nx_append_left (by rw [trow_length]; exact hi)
    have es : nx (trow (false :: t)) (tsz t) = tsz t + 1 := by
      show nx (trow t ++ [((tsz t + 1 : Nat) : Int), ((tsz t : Nat) : Int)]) (tsz t) = tsz t + 1
      unfold nx; simp only [List.getD]; rw [List.getElem?_append_right (by rw [trow_length]; omega), trow_length, Nat.sub_self]; rfl
    have et : nx (trow (false :: t)) (tsz t + 1) = tsz t := by
      show nx (trow t ++ [((tsz t + 1 : Nat) : Int), ((tsz t : Nat) : Int)]) (tsz t + 1) = tsz t
      unfold nx; simp only [List.getD]; rw [List.getElem?_append_right (by rw [trow_length]; omega), trow_length, show tsz t + 1 - tsz t = 1 from by omega]; rfl
    show inv (tsz t) (nx (trow (false :: t))) + S (tsz t) (fun j => dis (nx (trow (false :: t))) (tsz t) j) + (S (tsz t) (fun j => dis (nx (trow (false :: t))) (tsz t + 1) j) + dis (nx (trow (false :: t))) (tsz t + 1) (tsz t)) = tpr t + 1
    rw [inv_congr e, ih, S_congr (g := fun _ => 0) (fun j hj => dis_zero hj (by rw [es, e j hj]; have := nx_trow_lt t hj; omega)), S_zero,
      S_congr (g := fun _ => 0) (fun j hj => dis_zero (by omega) (by rw [et, e j hj]; exact nx_trow_lt t hj)), S_zero, dis_one (by omega) (by rw [et, es]; omega)]

theorem trow_odd (t : List Bool) : odd (trow t) = decide (tpr t % 2 = 1) := by
  have h := odd_inv (trow_row t)
  rw [trow_length, trow_inv] at h
  cases e : odd (trow t) <;> rw [e] at h <;> simp at h ⊢ <;> omega

theorem ord_le_two {r : List Int} (hr : isRow r) (h : by_ r r = rnd r.length) : ord r ≤ 2 := by
  have h2 : pw r 2 = rnd r.length := by rw [← pw_succ hr 1, pw_one hr, h]
  exact Nat.le_of_dvd (by decide) ((ord_pw hr 2).1 h2)

/-- The last place that is made, or 0. -/
def tlast : List Bool → Nat
  | [] => 0
  | true :: t => tsz t + 1
  | false :: t => tlast t

theorem tlast_ok : ∀ t, tlast t ≤ tsz t ∧ (tsz t - tlast t) % 2 = 0
  | [] => by decide
  | true :: t => by simp [tlast, tsz]
  | false :: t => by have := tlast_ok t; simp only [tlast, tsz]; omega

/-- May places be a change of n, behind a last one? -/
def okc (n last : Int) : List Int → Bool
  | [] => decide ((n - last) % 2 = 0)
  | p :: ps => decide (last < p ∧ p ≤ n ∧ (p - last - 1) % 2 = 0) && okc n p ps

theorem tsz_rep (t : List Bool) : ∀ m, tsz (List.replicate m false ++ t) = tsz t + 2 * m
  | 0 => by simp
  | m + 1 => by simp only [List.replicate_succ, List.cons_append, tsz, tsz_rep t m]; omega

theorem tpl_rep (t : List Bool) : ∀ m, tpl (List.replicate m false ++ t) = tpl t
  | 0 => by simp
  | m + 1 => by simp only [List.replicate_succ, List.cons_append, tpl, tpl_rep t m]

theorem okc_til (n : Nat) : ∀ (ps : List Int) (t : List Bool), tsz t ≤ n → okc n (tsz t : Nat) ps = true → ∃ t', tsz t' = n ∧ tpl t' = tpl t ++ ps
  | [], t, h, ho => by
    simp only [okc, decide_eq_true_eq] at ho
    exact ⟨List.replicate ((n - tsz t) / 2) false ++ t, by rw [tsz_rep]; omega, by rw [tpl_rep, List.append_nil]⟩
  | p :: ps, t, h, ho => by
    simp only [okc, Bool.and_eq_true, decide_eq_true_eq] at ho
    obtain ⟨⟨h1, h2, h3⟩, h4⟩ := ho
    obtain ⟨q, rfl⟩ := Int.eq_ofNat_of_zero_le (show 0 ≤ p by omega)
    have hs : tsz (true :: (List.replicate ((q - tsz t - 1) / 2) false ++ t)) = q := by simp only [tsz, tsz_rep]; omega
    obtain ⟨t', e1, e2⟩ := okc_til n ps (true :: (List.replicate ((q - tsz t - 1) / 2) false ++ t)) (by rw [hs]; omega) (by rw [hs]; exact h4)
    refine ⟨t', e1, ?_⟩
    rw [e2]
    simp only [tpl, tpl_rep, tsz_rep, List.append_assoc, List.singleton_append]
    rw [show tsz t + 2 * ((q - tsz t - 1) / 2) + 1 = q from by omega]

theorem til_okc (n : Nat) : ∀ (t : List Bool) (ps : List Int), tsz t ≤ n → okc n (tlast t : Nat) ps = true → okc n 0 (tpl t ++ ps) = true
  | [], ps, _, h => h
  | true :: t, ps, hn, h => by
    have hl := tlast_ok t
    simp only [tsz] at hn
    simp only [tpl, List.append_assoc, List.singleton_append]
    refine til_okc n t _ (by omega) ?_
    simp only [okc, Bool.and_eq_true, decide_eq_true_eq]
    exact ⟨by omega, h⟩
  | false :: t, ps, hn, h => til_okc n t ps (by simp only [tsz] at hn; omega) h

theorem okc_self (t : List Bool) : okc (tsz t : Nat) 0 (tpl t) = true := by
  have h := til_okc (tsz t) t [] (Nat.le_refl _) (by have := tlast_ok t; simp only [okc, decide_eq_true_eq]; omega)
  rwa [List.append_nil] at h

theorem okc_iff (n : Nat) (ps : List Int) : okc n 0 ps = true ↔ ∃ t, tsz t = n ∧ tpl t = ps := by
  constructor
  · intro h
    obtain ⟨t, e1, e2⟩ := okc_til n ps [] (Nat.zero_le _) h
    exact ⟨t, e1, by rw [e2]; rfl⟩
  · rintro ⟨t, rfl, rfl⟩
    exact okc_self t

theorem tsz_mono (s : List Bool) : ∀ u, tsz s ≤ tsz (u ++ s)
  | [] => Nat.le_refl _
  | true :: u => by have := tsz_mono s u; simp only [List.cons_append, tsz]; omega
  | false :: u => by have := tsz_mono s u; simp only [List.cons_append, tsz]; omega

theorem tpl_above (s : List Bool) : ∀ u, ∀ y ∈ tpl (u ++ s), y ∈ tpl s ∨ (tsz s : Int) < y
  | [], y, h => Or.inl h
  | true :: u, y, h => by
    simp only [List.cons_append, tpl, List.mem_append, List.mem_singleton] at h
    rcases h with h | h
    · exact tpl_above s u y h
    · have := tsz_mono s u; right; omega
  | false :: u, y, h => tpl_above s u y h

theorem tpl_sub (s : List Bool) : ∀ u, ∀ y ∈ tpl s, y ∈ tpl (u ++ s)
  | [], _, h => h
  | true :: u, y, h => by simp only [List.cons_append, tpl, List.mem_append]; exact Or.inl (tpl_sub s u y h)
  | false :: u, y, h => tpl_sub s u y h

theorem mem_next (u s : List Bool) (b : Bool) : ((tsz s : Nat) : Int) + 1 ∈ tpl (u ++ b :: s) ↔ b = true := by
  constructor
  · intro h
    cases b with
    | true => rfl
    | false =>
      rcases tpl_above (false :: s) u _ h with h | h
      · have := tpl_bound s _ h; omega
      · simp only [tsz] at h; omega
  · rintro rfl
    exact tpl_sub _ u _ (by simp [tpl])

theorem til_whole {s : List Bool} : ∀ {u : List Bool}, tsz (u ++ s) ≤ tsz s → u = []
  | [], _ => rfl
  | true :: u, h => by have := tsz_mono s u; simp only [List.cons_append, tsz] at h; omega
  | false :: u, h => by have := tsz_mono s u; simp only [List.cons_append, tsz] at h; omega

/-- The next tile of one that is not whole. -/
theorem til_next {u s : List Bool} (h : tsz s < tsz (u ++ s)) : ∃ u' b, u = u' ++ [b] ∧ u ++ s = u' ++ b :: s := by
  rcases List.eq_nil_or_concat u with rfl | ⟨u', b, rfl⟩
  · exact absurd h (Nat.lt_irrefl _)
  · exact ⟨u', b, by simp, by simp⟩

theorem trow_ones : ∀ n, trow (List.replicate n true) = rnd n ∧ tsz (List.replicate n true) = n ∧ tpr (List.replicate n true) = 0
  | 0 => ⟨rfl, rfl, rfl⟩
  | n + 1 => by
    obtain ⟨h1, h2, h3⟩ := trow_ones n
    refine ⟨?_, ?_, ?_⟩
    · rw [List.replicate_succ, trow, h1, h2, rnd_snoc]
    · rw [List.replicate_succ, tsz, h2]
    · rw [List.replicate_succ, tpr, h3]

theorem odd_rnd (n : Nat) : odd (rnd n) = false := by
  rw [← (trow_ones n).1, trow_odd, (trow_ones n).2.2]; rfl

end Go.Proofs.Ythbhoohdniamaaa

/- A number that an int may be. -/
namespace Go.Proofs.Ythbhoohdniamaaa
open Go.RowKit

/-- A number that an int may be. -/
def I64 (x : Int) : Prop := -9223372036854775808 ≤ x ∧ x ≤ 9223372036854775807

end Go.Proofs.Ythbhoohdniamaaa

/- Contracts: pairs, mayCount and Check of place; slices.Index, slices.Contains; Row; ChangeOf. -/
namespace Go.Proofs.Ythbhoohdniamaaa
open Go.RowKit

set_option maxHeartbeats 400000 in
theorem pmay_yes (n : Int) (w : World) (h1 : 1 ≤ n) (h2 : n ≤ 12) :
    Calls Try.prog 104 #[.int .i64 n] w fun e w' => e = .returned (.bool true) ∧ w = w' := by
  go_enter Try.func104, Try.ntmps104
  go_wp2
  go_ret
  exact ⟨rfl, rfl⟩

set_option maxHeartbeats 400000 in
theorem pmay_no (n : Int) (w : World) (h : n < 1 ∨ 12 < n) :
    Calls Try.prog 104 #[.int .i64 n] w fun e w' => e = .returned (.bool false) ∧ w = w' := by
  rcases h with h | h
  · go_enter Try.func104, Try.ntmps104
    go_wp2
    go_ret
    exact ⟨rfl, rfl⟩
  · have h1 : 1 ≤ n := by omega
    have h2 : decide (n ≤ 12) = false := by simp; omega
    go_enter Try.func104, Try.ntmps104
    go_wp2
    go_ret
    exact ⟨rfl, rfl⟩

set_option maxHeartbeats 400000 in
theorem pairs_any (x : Int) (w : World) (h1 : 0 ≤ x) (h2 : x ≤ 9223372036854775807) :
    Calls Try.prog 105 #[.int .i64 x] w fun e w' => e = .returned (.bool (decide (x % 2 = 0))) ∧ w = w' := by
  go_enter Try.func105, Try.ntmps105
  go_wp2
  go_ret
  exact ⟨ret_bool (by rw [Bool.eq_iff_iff]; simp), rfl⟩

theorem drop_cons (xs : List Int) {k : Nat} (h : k < xs.length) : xs.drop k = xs[k]?.getD 0 :: xs.drop (k + 1) := by
  rw [List.drop_eq_getElem_cons h]; simp [List.getElem?_eq_getElem h]

/-- What Check says of places of n bells. -/
def pck (n : Int) (ps : List Int) : Int := if okc n 0 ps = true then 0 else 6

theorem pck_range (n : Int) (ps : List Int) : pck n ps = 0 ∨ pck n ps = 6 := by unfold pck; split <;> simp

set_option maxHeartbeats 2000000 in
theorem pcheck_any (n : Int) (v : Value) (ps : List Int) (w : World) (h1 : 1 ≤ n) (h2 : n ≤ 12) (i1 : Ints w v ps) :
    Calls Try.prog 76 #[.int .i64 n, v] w fun e w' => e = .returned (.int .i64 (pck n ps)) ∧ w = w' := by
  rcases i1 with ⟨rfl, p, c, rfl⟩ | ⟨b, off, cap, rfl, h0, hc, hm, hb, hcell⟩
  · go_enter Try.func76, Try.ntmps76
    go_wp2_with fail
    refine (pmay_yes _ _ h1 h2).mono ?_
    rintro e w' ⟨rfl, rfl⟩
    go_wp2
    go_loop [5, 13] (fun l i => l = .int .i64 0 ∧ i = .int .i64 0) (fun _ _ => 0)
    case atStart => exact ⟨rfl, rfl⟩
    case round =>
      obtain ⟨rfl, rfl⟩ := hrel
      by_cases he : n % 2 = 0
      · have hp : Hid (pck n [] = 0) := by show _ = _; unfold pck okc; rw [if_pos (by simp; omega)]
        go_wp2_with fail
        refine (pairs_any _ _ (by omega) (by omega)).mono ?_
        rintro e w' ⟨rfl, rfl⟩
        rw [decide_eq_true (by omega)]
        go_wp2
        go_ret
        exact ⟨ret_int hp.out.symm, rfl⟩
      · have hp : Hid (pck n [] = 6) := by show _ = _; unfold pck okc; rw [if_neg (by simp; omega)]
        go_wp2_with fail
        refine (pairs_any _ _ (by omega) (by omega)).mono ?_
        rintro e w' ⟨rfl, rfl⟩
        rw [decide_eq_false (by omega)]
        go_wp2
        go_ret
        exact ⟨ret_int hp.out.symm, rfl⟩
  · go_enter Try.func76, Try.ntmps76
    go_wp2_with fail
    refine (pmay_yes _ _ h1 h2).mono ?_
    rintro e w' ⟨rfl, rfl⟩
    go_wp2
    go_loop [5, 13] (fun l i => ∃ (k : Nat) (L : Int), k ≤ ps.length ∧ i = .int .i64 k ∧ l = .int .i64 L ∧ 0 ≤ L ∧ L ≤ n ∧ Hid (okc n 0 ps = okc n L (ps.drop k))) (fun _ i => ps.length - (intOf i).toNat)
    case atStart => exact ⟨0, 0, by omega, rfl, rfl, by omega, by omega, rfl⟩
    case round =>
      obtain ⟨k, L, hk, rfl, rfl, hL0, hLn, hok⟩ := hrel
      by_cases hlt : k < ps.length
      · obtain ⟨y, hy, hcx⟩ := cellAt hcell hlt
        have HD : Hid (okc n 0 ps = (decide (L < y ∧ y ≤ n ∧ (y - L - 1) % 2 = 0) && okc n y (ps.drop (k + 1)))) := by
          show _ = _; rw [hok.out, drop_cons ps hlt, hy.out]; rfl
        clear hcell hok
        by_cases c1 : y ≤ L
        · have hp : Hid (pck n ps = 6) := by show _ = _; unfold pck; rw [HD.out, decide_eq_false (by omega)]; rfl
          go_wp2_with fail
          go_ret
          exact ⟨ret_int hp.out.symm, rfl⟩
        · by_cases c2 : n < y
          · have hp : Hid (pck n ps = 6) := by show _ = _; unfold pck; rw [HD.out, decide_eq_false (by omega)]; rfl
            have c3 : L < y := by omega
            clear c1
            go_wp2_with fail
            go_ret
            exact ⟨ret_int hp.out.symm, rfl⟩
          · have c3 : L < y := by omega
            have c4 : y ≤ n := by omega
            clear c1 c2
            by_cases c5 : (y - L - 1) % 2 = 0
            · have HN : Hid (okc n 0 ps = okc n y (ps.drop (k + 1))) := by show _ = _; rw [HD.out, decide_eq_true (by omega)]; rfl
              have D5 : decide ((y - L - 1) % 2 = 0) = true := decide_eq_true c5
              clear c5
              go_wp2_with fail
              refine (pairs_any _ _ (by omega) (by omega)).mono ?_
              rintro e w' ⟨rfl, rfl⟩
              rw [D5]
              go_wp2
              go_round
              case rel => exact ⟨k + 1, y, by omega, by go_num, rfl, by omega, by omega, HN⟩
              case measure => simp [intOf]; omega
            · have hp : Hid (pck n ps = 6) := by show _ = _; unfold pck; rw [HD.out, decide_eq_false (by omega)]; rfl
              have D5 : decide ((y - L - 1) % 2 = 0) = false := decide_eq_false c5
              clear c5
              go_wp2_with fail
              refine (pairs_any _ _ (by omega) (by omega)).mono ?_
              rintro e w' ⟨rfl, rfl⟩
              rw [D5]
              go_wp2
              go_ret
              exact ⟨ret_int hp.out.symm, rfl⟩
      · have HE : Hid (okc n 0 ps = decide ((n - L) % 2 = 0)) := by show _ = _; rw [hok.out, List.drop_of_length_le (by omega)]; rfl
        clear hcell hok
        by_cases c5 : (n - L) % 2 = 0
        · have hp : Hid (pck n ps = 0) := by show _ = _; unfold pck; rw [HE.out, decide_eq_true c5]; rfl
          have D5 : decide ((n - L) % 2 = 0) = true := decide_eq_true c5
          clear c5
          go_wp2_with fail
          refine (pairs_any _ _ (by omega) (by omega)).mono ?_
          rintro e w' ⟨rfl, rfl⟩
          rw [D5]
          go_wp2
          go_ret
          exact ⟨ret_int hp.out.symm, rfl⟩
        · have hp : Hid (pck n ps = 6) := by show _ = _; unfold pck; rw [HE.out, decide_eq_false c5]; rfl
          have D5 : decide ((n - L) % 2 = 0) = false := decide_eq_false c5
          clear c5
          go_wp2_with fail
          refine (pairs_any _ _ (by omega) (by omega)).mono ?_
          rintro e w' ⟨rfl, rfl⟩
          rw [D5]
          go_wp2
          go_ret
          exact ⟨ret_int hp.out.symm, rfl⟩

theorem pck_til {t : List Bool} {n : Nat} (h : tsz t = n) : pck n (tpl t) = 0 := by unfold pck; rw [if_pos (by rw [← h]; exact okc_self t)]

set_option maxHeartbeats 400000 in
theorem pcheck_count (n : Int) (v : Value) (w : World) (h : n < 1 ∨ 12 < n) :
    Calls Try.prog 76 #[.int .i64 n, v] w fun e w' => e = .returned (.int .i64 1) ∧ w = w' := by
  go_enter Try.func76, Try.ntmps76
  go_wp2_with fail
  refine (pmay_no _ _ h).mono ?_
  rintro e w' ⟨rfl, rfl⟩
  go_wp2
  go_ret
  exact ⟨rfl, rfl⟩

/-- Where a number is first; -1: nowhere. -/
def idx (x : Int) : List Int → Nat → Int
  | [], _ => -1
  | y :: ys, k => if x = y then (k : Int) else idx x ys (k + 1)

theorem idx_mem (x : Int) : ∀ (ys : List Int) (k : Nat), decide (idx x ys k ≥ 0) = decide (x ∈ ys)
  | [], _ => by simp [idx]
  | y :: ys, k => by
    unfold idx
    by_cases h : x = y
    · rw [if_pos h]; simp [h]
    · rw [if_neg h, idx_mem x ys (k + 1)]; simp [h]

set_option maxHeartbeats 1000000 in
theorem index_any (v : Value) (xs : List Int) (x : Int) (w : World) (h : Ints w v xs) :
    Calls Try.prog 110 #[v, .int .i64 x] w fun e w' => e = .returned (.int .i64 (idx x xs 0)) ∧ w = w' := by
  rcases h with ⟨rfl, p, c, rfl⟩ | ⟨b, off, cap, rfl, h0, hc, hm, hb, hcell⟩
  · go_enter Try.func110, Try.ntmps110
    go_wp2
    go_loop [8] (fun i => i = .int .i64 0) (fun _ => 0)
    case atStart => rfl
    case round =>
      subst hrel
      go_wp2
      go_ret
      exact ⟨rfl, rfl⟩
  · go_enter Try.func110, Try.ntmps110
    go_wp2
    go_loop [8] (fun i => ∃ k : Nat, k ≤ xs.length ∧ i = .int .i64 k ∧ Hid (idx x xs 0 = idx x (xs.drop k) k)) (fun i => xs.length - (intOf i).toNat)
    case atStart => exact ⟨0, by omega, rfl, rfl⟩
    case round =>
      obtain ⟨k, hk, rfl, hi⟩ := hrel
      by_cases hlt : k < xs.length
      · obtain ⟨y, hy, hcx⟩ := cellAt hcell hlt
        have HD : Hid (idx x xs 0 = if x = y then (k : Int) else idx x (xs.drop (k + 1)) (k + 1)) := by show _ = _; rw [hi.out, drop_cons xs hlt, hy.out]; rfl
        clear hcell hi
        by_cases hxy : x = y
        · have hp : Hid (idx x xs 0 = k) := by show _ = _; rw [HD.out, if_pos hxy]
          subst hxy
          go_wp2
          go_ret
          exact ⟨ret_int hp.out.symm, rfl⟩
        · have hp : Hid (idx x xs 0 = idx x (xs.drop (k + 1)) (k + 1)) := by show _ = _; rw [HD.out, if_neg hxy]
          have hne : (x == y) = false := by simpa using hxy
          clear hxy
          go_wp2
          go_round
          case rel => exact ⟨k + 1, by omega, by go_num, hp⟩
          case measure => simp [intOf]; omega
      · have hp : Hid (idx x xs 0 = -1) := by show _ = _; rw [hi.out, List.drop_of_length_le (by omega)]; rfl
        clear hcell hi
        go_wp2
        go_ret
        exact ⟨ret_int hp.out.symm, rfl⟩

set_option maxHeartbeats 400000 in
theorem contains_any (v : Value) (xs : List Int) (x : Int) (w : World) (h : Ints w v xs) :
    Calls Try.prog 91 #[v, .int .i64 x] w fun e w' => e = .returned (.bool (decide (x ∈ xs))) ∧ w = w' := by
  have HI := hide (index_any v xs x w h)
  have HM := hide (idx_mem x xs 0)
  clear h
  generalize idx x xs 0 = k at *
  go_enter Try.func91, Try.ntmps91
  go_wp2_with fail
  refine HI.out.mono ?_
  rintro e w' ⟨rfl, rfl⟩
  go_wp2
  go_ret
  exact ⟨ret_bool HM.out, rfl⟩

end Go.Proofs.Ythbhoohdniamaaa

/- Contracts: cmp.Compare, slices.Compare of lists of one length; the order of lists. -/
namespace Go.Proofs.Ythbhoohdniamaaa
open Go.RowKit

def cI (x y : Int) : Int := if x < y then -1 else if y < x then 1 else 0

theorem isNaN_ok (x : Int) (w : World) : Calls Try.prog 102 #[.int .i64 x] w fun e w' => e = .returned (.bool false) ∧ w = w' := by
  go_enter Try.func102, Try.ntmps102
  go_wp2
  go_ret
  simp

set_option maxRecDepth 20000 in
set_option maxHeartbeats 1000000 in
theorem cmp_ok (x y : Int) (w : World) : Calls Try.prog 73 #[.int .i64 x, .int .i64 y] w fun e w' => e = .returned (.int .i64 (cI x y)) ∧ w = w' := by
  by_cases h1 : x < y
  · have hc : Hid (cI x y = -1) := by show _ = _; unfold cI; rw [if_pos h1]
    go_enter Try.func73, Try.ntmps73
    go_wp2_with fail
    refine (isNaN_ok _ _).mono ?_
    rintro e w' ⟨rfl, rfl⟩
    go_wp2_with fail
    refine (isNaN_ok _ _).mono ?_
    rintro e w' ⟨rfl, rfl⟩
    go_wp2
    go_ret
    exact ⟨ret_int hc.out.symm, rfl⟩
  · by_cases h2 : y < x
    · have hc : Hid (cI x y = 1) := by show _ = _; unfold cI; rw [if_neg h1, if_pos h2]
      go_enter Try.func73, Try.ntmps73
      go_wp2_with fail
      refine (isNaN_ok _ _).mono ?_
      rintro e w' ⟨rfl, rfl⟩
      go_wp2_with fail
      refine (isNaN_ok _ _).mono ?_
      rintro e w' ⟨rfl, rfl⟩
      go_wp2
      go_ret
      exact ⟨ret_int hc.out.symm, rfl⟩
    · have hc : Hid (cI x y = 0) := by show _ = _; unfold cI; rw [if_neg h1, if_neg h2]
      go_enter Try.func73, Try.ntmps73
      go_wp2_with fail
      refine (isNaN_ok _ _).mono ?_
      rintro e w' ⟨rfl, rfl⟩
      go_wp2_with fail
      refine (isNaN_ok _ _).mono ?_
      rintro e w' ⟨rfl, rfl⟩
      go_wp2
      go_ret
      exact ⟨ret_int hc.out.symm, rfl⟩

def lcmp : List Int → List Int → Int
  | [], [] => 0
  | [], _ :: _ => -1
  | _ :: _, [] => 1
  | x :: xs, y :: ys => if cI x y = 0 then lcmp xs ys else cI x y

theorem lcmp_cons (x y : Int) (xs ys : List Int) : lcmp (x :: xs) (y :: ys) = if x < y then -1 else if y < x then 1 else lcmp xs ys := by
  show (if cI x y = 0 then lcmp xs ys else cI x y) = _
  unfold cI
  by_cases h1 : x < y
  · simp [h1]
  · by_cases h2 : y < x <;> simp [h1, h2]

theorem lcmp_self : ∀ a, lcmp a a = 0
  | [] => rfl
  | x :: xs => by rw [lcmp_cons, if_neg (by omega), if_neg (by omega)]; exact lcmp_self xs

theorem lcmp_trans : ∀ a b c, lcmp a b < 0 → lcmp b c < 0 → lcmp a c < 0
  | [], [], _, h, _ => absurd h (by decide)
  | [], _ :: _, [], _, h => absurd h (by show ¬ ((1 : Int) < 0); decide)
  | [], _ :: _, _ :: _, _, _ => by show (-1 : Int) < 0; decide
  | _ :: _, [], _, h, _ => absurd h (by show ¬ ((1 : Int) < 0); decide)
  | _ :: _, _ :: _, [], _, h => absurd h (by show ¬ ((1 : Int) < 0); decide)
  | x :: xs, y :: ys, z :: zs, h1, h2 => by
    have ih := lcmp_trans xs ys zs
    rw [lcmp_cons] at h1 h2 ⊢
    repeat' split at h1
    all_goals repeat' split at h2
    all_goals repeat' split
    all_goals first | omega | exact ih h1 h2

theorem lcmp_ntrans : ∀ a b c, ¬ lcmp a b < 0 → ¬ lcmp b c < 0 → ¬ lcmp a c < 0
  | [], [], c, _, h => h
  | [], _ :: _, _, h, _ => absurd (show (-1 : Int) < 0 by decide) h
  | _ :: _, [], [], _, _ => by show ¬ ((1 : Int) < 0); decide
  | _ :: _, [], _ :: _, _, h => absurd (show (-1 : Int) < 0 by decide) h
  | _ :: _, _ :: _, [], _, _ => by show ¬ ((1 : Int) < 0); decide
  | x :: xs, y :: ys, z :: zs, h1, h2 => by
    have ih := lcmp_ntrans xs ys zs
    rw [lcmp_cons] at h1 h2 ⊢
    repeat' split at h1
    all_goals repeat' split at h2
    all_goals repeat' split
    all_goals first | omega | exact ih h1 h2

set_option maxRecDepth 20000 in
set_option maxHeartbeats 1000000 in
theorem compare_ok (v1 v2 : Value) (xs ys : List Int) (w : World) (i1 : Ints w v1 xs) (i2 : Ints w v2 ys) (h1 : 1 ≤ xs.length) (hl : ys.length = xs.length) :
    Calls Try.prog 53 #[v1, v2] w fun e w' => e = .returned (.int .i64 (lcmp xs ys)) ∧ w = w' := by
  rcases i1 with ⟨rfl, _⟩ | ⟨b, off, cap, rfl, h0, hc, hm, hb, hcell⟩
  · simp at h1
  rcases i2 with ⟨rfl, _⟩ | ⟨b2, off2, cap2, rfl, h02, hc2, hm2, hb2, hcell2⟩
  · simp at hl; omega
  rw [hl]
  rw [hl] at hc2
  have HLL := hide hl
  clear hl h02
  go_enter Try.func53, Try.ntmps53
  go_wp2
  go_loop [11] (fun i => ∃ k : Nat, k ≤ xs.length ∧ i = .int .i64 k ∧ Hid (lcmp xs ys = lcmp (xs.drop k) (ys.drop k))) (fun i => xs.length - (intOf i).toNat)
  case atStart => exact ⟨0, by omega, rfl, rfl⟩
  case round =>
    obtain ⟨k, hk, rfl, hi⟩ := hrel
    by_cases hlt : k < xs.length
    · have hlt2 : k < ys.length := by have := HLL.out; omega
      obtain ⟨x, hx, hcx⟩ := cellAt hcell hlt
      obtain ⟨y, hy, hcy⟩ := cellAt hcell2 hlt2
      have HD : Hid (lcmp xs ys = if cI x y = 0 then lcmp (xs.drop (k + 1)) (ys.drop (k + 1)) else cI x y) := by show _ = _; rw [hi.out, drop_cons xs hlt, drop_cons ys hlt2, hx.out, hy.out]; rfl
      have HCM := hide (cmp_ok x y w)
      clear hcell hcell2 hi hlt2
      by_cases hz : cI x y = 0
      · have hp : Hid (lcmp xs ys = lcmp (xs.drop (k + 1)) (ys.drop (k + 1))) := by show _ = _; rw [HD.out, if_pos hz]
        rw [hz] at HCM
        clear hz HD
        go_wp2_with fail
        refine HCM.out.mono ?_
        rintro e w' ⟨rfl, rfl⟩
        go_wp2
        go_round
        case rel => exact ⟨k + 1, by omega, by go_num, hp⟩
        case measure => simp [intOf]; omega
      · have hp : Hid (lcmp xs ys = cI x y) := by show _ = _; rw [HD.out, if_neg hz]
        have hne : (cI x y != 0) = true := by simpa using hz
        clear HD
        generalize cI x y = z at *
        go_wp2_with fail
        refine HCM.out.mono ?_
        rintro e w' ⟨rfl, rfl⟩
        go_wp2
        go_ret
        exact ⟨ret_int hp.out.symm, rfl⟩
    · have hp : Hid (lcmp xs ys = 0) := by show _ = _; rw [hi.out, List.drop_of_length_le (by omega), List.drop_of_length_le (by have := HLL.out; omega)]; rfl
      clear hcell hcell2 hi
      go_wp2
      go_ret
      exact ⟨ret_int hp.out.symm, rfl⟩

end Go.Proofs.Ythbhoohdniamaaa

/- Contract: slices.SortFunc with slices.Compare over a list of rows that the call owns: they are the same rows, in some order. -/

namespace Go.Proofs.Ythbhoohdniamaaa
open Go.RowKit Go.Shelf Go.Lib Go.Sort

/-- A row of n bells that the call owns. -/
structure El (w : World) (base n : Nat) where
  v : Value
  xs : List Int
  own : w.ownsRow base 3 1 v n (xs.map (Value.int .i64))

theorem El.len {w : World} {base n : Nat} (e : El w base n) : e.xs.length = n := by have := e.own.1; simpa using this

theorem els {w : World} {base n : Nat} : ∀ {vs : List Value} {X : List (List Int)}, OwnAll w base vs X → (∀ x, x ∈ X → x.length = n) → ∃ l : List (El w base n), l.map El.v = vs ∧ l.map El.xs = X
  | [], [], _, _ => ⟨[], rfl, rfl⟩
  | [], _ :: _, h, _ => h.elim
  | _ :: _, [], h, _ => h.elim
  | v :: vs, x :: X, h, hx => by
    obtain ⟨l, h1, h2⟩ := els (vs := vs) (X := X) h.2 (fun y hy => hx y (List.mem_cons_of_mem _ hy))
    have hl : x.length = n := hx x List.mem_cons_self
    refine ⟨⟨v, x, by have := h.1; rw [hl] at this; exact this⟩ :: l, ?_, ?_⟩
    · rw [List.map_cons, h1]
    · rw [List.map_cons, h2]

section
variable {α : Type} [Inhabited α]

theorem sw_block (enc : α → Value) (w : World) (blk off m : Nat) (dk : Array α) (os : Array Obj) {b : Nat} (hne : b ≠ blk) (hb : b < w.heap.size) : (sortWorld enc w blk off m dk os).heap[b]? = w.heap[b]? := by
  unfold sortWorld grow putRow mapBlock Sort.ahead
  simp only
  rw [Array.getElem?_append_left (by simpa using hb), Array.getElem?_modify, if_neg (fun e => hne e.symm)]

theorem sw_own (enc : α → Value) (w : World) (blk off m : Nat) (dk : Array α) (os : Array Obj) {base e size n : Nat} {v : Value} {xs : List Value} (h : w.ownsRow base e size v n xs) (hne : ∀ g, v.ownBlock = some g → g ≠ blk) : (sortWorld enc w blk off m dk os).ownsRow base e size v n xs := by
  refine ⟨h.1, ?_⟩
  rcases h.2 with h2 | ⟨g, cap, cur, hv, hgg, hh, r⟩
  · exact Or.inl h2
  · refine Or.inr ⟨g, cap, cur, hv, hgg, ?_, r⟩
    rw [sw_block enc w blk off m dk os (hne g (by rw [hv]; rfl)) (Array.getElem?_eq_some_iff.1 hh).1]
    exact hh

theorem sw_row (enc : α → Value) (w : World) (blk m : Nat) (dk : Array α) (os : Array Obj) {cur : Array Value} {e : TypeId} (h : w.heap[blk]? = some (.cells cur e (0, 0))) : (sortWorld enc w blk 0 m dk os).heap[blk]? = some (.cells (putCells enc 0 dk cur) e (0, 0)) := by
  have hb := (Array.getElem?_eq_some_iff.1 h).1
  unfold sortWorld grow putRow mapBlock Sort.ahead
  simp only
  rw [Array.getElem?_append_left (by simpa using hb), Array.getElem?_modify, if_pos rfl, h]
  rfl

theorem put_take (enc : α → Value) (dk : Array α) (cur : Array Value) (h : dk.size ≤ cur.size) : (putCells enc 0 dk cur).toList.take dk.size = dk.toList.map enc := by
  refine List.ext_getElem (by simp [putCells]; omega) (fun i h1 h2 => ?_)
  have hi : i < dk.size := by simpa using h2
  simp only [putCells, List.getElem_take, Array.toList_mapIdx, List.getElem_mapIdx, List.getElem_map, Array.getElem_toList]
  rw [if_pos ⟨Nat.zero_le _, by omega⟩, Nat.sub_zero, getElem!_pos dk i hi]
end

theorem all_of_els {w' : World} {base w0b n : Nat} {w : World} : ∀ (l : List (El w w0b n)), (∀ e : El w w0b n, w'.ownsRow base 3 1 e.v n (e.xs.map (Value.int .i64))) → OwnAll w' base (l.map El.v) (l.map El.xs)
  | [], _ => trivial
  | e :: l, h => by
    refine ⟨?_, all_of_els l h⟩
    have h9 := h e
    have hl := e.len
    cases e with
    | mk v xs own =>
      simp only at h9 hl
      show w'.ownsRow base 3 1 v xs.length (xs.map (Value.int .i64))
      rw [hl]
      exact h9

set_option maxRecDepth 20000 in
set_option maxHeartbeats 2000000 in
theorem sort_ok (n base : Nat) (u : Value) (vs : List Value) (X : List (List Int)) (w : World) (hLL : LL w base u vs X) (hX : ∀ x, x ∈ X → x.length = n) (h1 : 1 ≤ n) (hN : 1 ≤ X.length) (hN2 : X.length ≤ 40000) :
    Calls Try.prog 52 #[u, .func (.func 53) #[] #[]] w fun e w' => e = .returned (.tuple #[]) ∧ ∃ vs' X', X'.Perm X ∧ LL w' base u vs' X' ∧ Below base w w' := by
  obtain ⟨l, hv, hx⟩ := els hLL.all hX
  have hll : l.length = X.length := by rw [← hx, List.length_map]
  have hne : l ≠ [] := fun e => by rw [e] at hll; simp at hll; omega
  haveI : Inhabited (El w base n) := ⟨l.head hne⟩
  have hvl : vs.length = l.length := by rw [← hv, List.length_map]
  have hrow := hLL.row
  rcases hrow.2 with ⟨_, h0⟩ | ⟨g, cap, cur, hu, hgb, hh, hc1, hc2, hcs, hct⟩
  · omega
  have hg := (Array.getElem?_eq_some_iff.1 hh).1
  have hoff : ∀ (e : El w base n) g', e.v.ownBlock = some g' → g' ≠ g := by
    intro e g' hg' e'
    have h9 := e.own.2
    rcases h9 with ⟨h9, h0⟩ | ⟨g2, cap2, cur2, hv2, _, hh2, _⟩
    · rw [h9] at hg'; cases hg'
    · rw [hv2] at hg'
      have e2 : g2 = g' := by cases hg'; rfl
      rw [e2, e', hh] at hh2
      cases hh2
  have hcmp : CmpLays1 Try.prog 53 #[] (El.v (w := w) (base := base) (n := n)) (fun x y => lcmp x.xs y.xs) g 0 l.toArray.size w := by
    intro m os dk _ x y
    have i1 := Ints.own (sw_own El.v w g 0 m dk os x.own (hoff x))
    have i2 := Ints.own (sw_own El.v w g 0 m dk os y.own (hoff y))
    refine (compare_ok x.v y.v x.xs y.xs (sortWorld El.v w g 0 m dk os) i1 i2 (by rw [x.len]; exact h1) (by rw [x.len, y.len])).mono ?_
    rintro e w' ⟨rfl, rfl⟩
    exact ⟨rfl, 0, #[], by simp [World.drewN]⟩
  have hO : SWO (ltOf (fun x y : El w base n => lcmp x.xs y.xs)) := by
    refine ⟨fun x => ?_, fun x y z a1 a2 => ?_, fun x y z a1 a2 => ?_⟩
    · show decide (lcmp x.xs x.xs < 0) = false
      rw [lcmp_self]; decide
    · unfold ltOf at *; exact decide_eq_true (lcmp_trans _ _ _ (of_decide_eq_true a1) (of_decide_eq_true a2))
    · unfold ltOf at *; exact decide_eq_false (lcmp_ntrans _ _ _ (of_decide_eq_false a1) (of_decide_eq_false a2))
  have h1c : OneCell (El.v (w := w) (base := base) (n := n)) := fun x => by
    obtain ⟨p, c, e⟩ := owns_slice x.own
    rw [e]; rfl
  have hH : Holds (El.v (w := w) (base := base) (n := n)) w g 0 l.toArray := by
    intro j hj
    have hj' : j < l.length := by simpa using hj
    refine ⟨?_, by simp [World.frozen?, hh]⟩
    rw [hu] at hrow
    rw [Nat.zero_add, owns_val hrow (by omega), getElem!_pos _ j hj, ← hv]
    simp [List.getD, hj']
  have eg : ∀ args w, (callFunc 53 args).run Try.prog w = .ok (.enter 53 args) w := enters_of Try.func53 (by kernel_rfl) rfl
  have hcon := Any.slices_SortFunc laysS (El.v (w := w) (base := base) (n := n)) h1c (fun x y => lcmp x.xs y.xs) hO 53 #[] g 0 cap l.toArray w eg hcmp hH hg (by simp; omega)
  have hsz : l.toArray.size = vs.length := by simp [hvl]
  rw [hsz] at hcon
  rw [hu]
  refine Calls.mono (show Calls Try.prog 52 _ _ _ from hcon) ?_
  rintro e w' ⟨rfl, d', k, os, hp, _, rfl⟩
  have hds : d'.size = vs.length := by rw [hp.1, hsz]
  have hperm : d'.toList.Perm l := by
    have h9 := hp.2.2
    have e1 : (d'.extract 0 vs.length).toList = d'.toList := by rw [← hds]; simp
    have e2 : (l.toArray.extract 0 vs.length).toList = l := by rw [← hsz]; simp
    rw [e1, e2] at h9
    exact h9
  refine ⟨rfl, d'.toList.map El.v, d'.toList.map El.xs, ?_, ⟨?_, ?_⟩, ?_⟩
  · rw [← hx]; exact hperm.map _
  · have hlen : (d'.toList.map El.v).length = vs.length := by simp [hds]
    rw [hlen]
    refine ⟨by rw [hlen, Nat.mul_one], Or.inr ⟨g, cap, putCells El.v 0 d' cur, rfl, hgb, sw_row El.v w g k d' os hh, hc1, hc2, ?_, ?_⟩⟩
    · rw [← hcs]; simp [putCells]
    · rw [Nat.mul_one, ← hds]
      exact put_take El.v d' cur (by rw [hds, hcs, Nat.mul_one]; exact hc1)
  · exact all_of_els d'.toList (fun e => sw_own El.v w g 0 k d' os e.own (hoff e))
  · refine ⟨rfl, rfl, rfl, ?_, fun b hb => sw_block El.v w g 0 k d' os (by omega) (by omega)⟩
    unfold sortWorld grow putRow mapBlock Sort.ahead
    simp

end Go.Proofs.Ythbhoohdniamaaa

/- Contract: slices.SortFunc with slices.Compare over a list of rows that the call owns, none among them too. -/
namespace Go.Proofs.Ythbhoohdniamaaa
open Go.RowKit Go.Shelf

theorem sort_any (n base : Nat) (u : Value) (vs : List Value) (X : List (List Int)) (w : World) (hLL : LL w base u vs X) (hX : ∀ x, x ∈ X → x.length = n) (h1 : 1 ≤ n) (hN2 : X.length ≤ 40000) :
    Calls Try.prog 52 #[u, .func (.func 53) #[] #[]] w fun e w' => e = .returned (.tuple #[]) ∧ ∃ vs' X', X'.Perm X ∧ LL w' base u vs' X' ∧ Below base w w' := by
  by_cases hN : 1 ≤ X.length
  · exact sort_ok n base u vs X w hLL hX h1 hN hN2
  · have hv0 : vs.length = 0 := by rw [hLL.len]; omega
    obtain ⟨p, c, hu⟩ := owns_slice hLL.row
    have hS := AnyF.slices_SortFunc_none (P := Try.prog) (ρ := rnS) { laysS with } p c (.func (.func 53) #[] #[]) w
    rw [hu, hv0]
    refine Calls.mono (show Calls Try.prog 52 _ _ _ from hS) ?_
    rintro e w' ⟨rfl, rfl⟩
    refine ⟨rfl, vs, X, List.Perm.refl _, ?_, Below.refl _ _⟩
    rw [hu, hv0] at hLL
    exact hLL

end Go.Proofs.Ythbhoohdniamaaa

/- Plain: the runes of a text. -/
namespace Go.Proofs.Ythbhoohdniamaaa
open Go.RowKit Go.Lib

/-- The runes of a text from a place on, at most so many. -/
def rns (s : ByteArray) : Nat → Nat → List Nat
  | 0, _ => []
  | f + 1, pos => if pos < s.size then (Utf8.decode s pos).1 :: rns s f (pos + (Utf8.decode s pos).2) else []

def runesOf (s : ByteArray) : List Nat := rns s s.size 0

theorem rns_length (s : ByteArray) : ∀ f pos, (rns s f pos).length ≤ f
  | 0, _ => by simp [rns]
  | f + 1, pos => by
    have ih := rns_length s f (pos + (Utf8.decode s pos).2)
    unfold rns
    split
    · simp; omega
    · simp

theorem runesOf_length (s : ByteArray) : (runesOf s).length ≤ s.size := rns_length s _ _

/-- Runes up to a place, and the rest. -/
def RunesTo (s : ByteArray) (pre : List Nat) (pos : Nat) : Prop := ∃ f, s.size - pos ≤ f ∧ runesOf s = pre ++ rns s f pos

theorem runesTo_start (s : ByteArray) : RunesTo s [] 0 := ⟨s.size, by omega, rfl⟩

theorem RunesTo.next {s : ByteArray} {pre : List Nat} {pos : Nat} (h : RunesTo s pre pos) (hp : pos < s.size) : RunesTo s (pre ++ [(Utf8.decode s pos).1]) (pos + (Utf8.decode s pos).2) := by
  obtain ⟨f, hf, e⟩ := h
  have hw := decode_width_pos s pos hp
  match f, hf, e with
  | 0, hf, _ => omega
  | f + 1, hf, e =>
    refine ⟨f, by omega, ?_⟩
    rw [e, rns, if_pos hp, List.append_assoc, List.singleton_append]

theorem RunesTo.done {s : ByteArray} {pre : List Nat} {pos : Nat} (h : RunesTo s pre pos) (hp : ¬ pos < s.size) : runesOf s = pre := by
  obtain ⟨f, hf, e⟩ := h
  rw [e]
  cases f with
  | zero => simp [rns]
  | succ f => rw [rns, if_neg hp, List.append_nil]

theorem RunesTo.mem {s : ByteArray} {pre : List Nat} {pos : Nat} (h : RunesTo s pre pos) (hp : pos < s.size) : (Utf8.decode s pos).1 ∈ runesOf s ∧ pre.length < s.size := by
  obtain ⟨f, hf, e⟩ := h.next hp
  constructor
  · rw [e]; simp
  · have := runesOf_length s
    rw [e] at this
    simp at this
    omega

theorem decode_le (s : ByteArray) (pos : Nat) : (Utf8.decode s pos).1 ≤ 1114111 := by
  rw [decode_at]
  have h0 : (s.get! pos).toNat < 256 := UInt8.toNat_lt _
  unfold decodeN
  repeat' split
  all_goals simp only
  all_goals omega

end Go.Proofs.Ythbhoohdniamaaa
