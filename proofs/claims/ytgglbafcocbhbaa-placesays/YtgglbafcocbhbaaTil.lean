/- Plain: changes as tilings of the places by single places and pairs; their rows undo themselves, and are odd as their pairs are. -/
import Derived.Test.YtgglbafcocbhbaaRefF
namespace Go.Proofs.Ytgglbafcocbhbaa
open Go.RowKit

/-- How many places a tiling covers (the last tile first; true: a place that is made, false: a pair). -/
def tsz : List Bool → Nat
  | [] => 0
  | true :: t => tsz t + 1
  | false :: t => tsz t + 2

/-- The places that are made. -/
def tpl : List Bool → List Int
  | [] => []
  | true :: t => tpl t ++ [((tsz t + 1 : Nat) : Int)]
  | false :: t => tpl t

/-- The row. -/
def trow : List Bool → List Int
  | [] => []
  | true :: t => trow t ++ [((tsz t : Nat) : Int)]
  | false :: t => trow t ++ [((tsz t + 1 : Nat) : Int), ((tsz t : Nat) : Int)]

/-- How many pairs. -/
def tpr : List Bool → Nat
  | [] => 0
  | true :: t => tpr t
  | false :: t => tpr t + 1

theorem trow_length : ∀ t, (trow t).length = tsz t
  | [] => rfl
  | true :: t => by simp [trow, tsz, trow_length t]
  | false :: t => by simp [trow, tsz, trow_length t]

theorem tpl_length : ∀ t, (tpl t).length + 2 * tpr t = tsz t
  | [] => rfl
  | true :: t => by have := tpl_length t; simp [tpl, tsz, tpr]; omega
  | false :: t => by have := tpl_length t; simp [tpl, tsz, tpr]; omega

theorem tpl_bound : ∀ t, ∀ y ∈ tpl t, 1 ≤ y ∧ y ≤ (tsz t : Nat)
  | [], y, h => by simp [tpl] at h
  | true :: t, y, h => by
    simp only [tpl, List.mem_append, List.mem_singleton] at h
    rcases h with h | h
    · have := tpl_bound t y h; simp only [tsz]; omega
    · simp only [tsz]; omega
  | false :: t, y, h => by have := tpl_bound t y h; simp only [tsz]; omega

theorem trow_mem : ∀ t, ∀ y ∈ trow t, 0 ≤ y ∧ y < (tsz t : Nat)
  | [], y, h => by simp [trow] at h
  | true :: t, y, h => by
    simp only [trow, List.mem_append, List.mem_singleton] at h
    rcases h with h | h
    · have := trow_mem t y h; simp only [tsz]; omega
    · simp only [tsz]; omega
  | false :: t, y, h => by
    simp only [trow, List.mem_append, List.mem_cons, List.not_mem_nil, or_false] at h
    rcases h with h | h | h
    · have := trow_mem t y h; simp only [tsz]; omega
    · simp only [tsz]; omega
    · simp only [tsz]; omega

theorem trow_nodup : ∀ t, (trow t).Nodup
  | [] => by simp [trow]
  | true :: t => by
    simp only [trow]
    refine List.nodup_append.2 ⟨trow_nodup t, by simp, fun a ha b hb => ?_⟩
    simp only [List.mem_singleton] at hb
    have := trow_mem t a ha
    omega
  | false :: t => by
    simp only [trow]
    refine List.nodup_append.2 ⟨trow_nodup t, by simp; omega, fun a ha b hb => ?_⟩
    simp only [List.mem_cons, List.not_mem_nil, or_false] at hb
    have := trow_mem t a ha
    omega

theorem trow_row (t : List Bool) : isRow (trow t) := ⟨fun y hy => by rw [trow_length]; exact trow_mem t y hy, trow_nodup t⟩

theorem by_append_left {a x b : List Int} (h : ∀ y ∈ b, 0 ≤ y ∧ y < (a.length : Nat)) : by_ (a ++ x) b = by_ a b := by
  unfold by_
  apply List.map_congr_left
  intro y hy
  have := h y hy
  simp only [List.getD]
  rw [List.getElem?_append_left (by omega)]

theorem trow_twice : ∀ t, by_ (trow t) (trow t) = rnd (tsz t)
  | [] => rfl
  | true :: t => by
    have ih := trow_twice t
    have hm : ∀ y ∈ trow t, 0 ≤ y ∧ y < ((trow t).length : Nat) := fun y hy => by rw [trow_length]; exact trow_mem t y hy
    show by_ (trow t ++ [((tsz t : Nat) : Int)]) (trow t ++ [((tsz t : Nat) : Int)]) = rnd (tsz t + 1)
    rw [show by_ (trow t ++ [((tsz t : Nat) : Int)]) (trow t ++ [((tsz t : Nat) : Int)]) = by_ (trow t ++ [((tsz t : Nat) : Int)]) (trow t) ++ by_ (trow t ++ [((tsz t : Nat) : Int)]) [((tsz t : Nat) : Int)] from List.map_append, by_append_left hm, ih, rnd_snoc]
    simp [by_, List.getD, trow_length]
  | false :: t => by
    have ih := trow_twice t
    have hm : ∀ y ∈ trow t, 0 ≤ y ∧ y < ((trow t).length : Nat) := fun y hy => by rw [trow_length]; exact trow_mem t y hy
    show by_ (trow t ++ [((tsz t + 1 : Nat) : Int), ((tsz t : Nat) : Int)]) (trow t ++ [((tsz t + 1 : Nat) : Int), ((tsz t : Nat) : Int)]) = rnd (tsz t + 1 + 1)
    rw [show by_ (trow t ++ [((tsz t + 1 : Nat) : Int), ((tsz t : Nat) : Int)]) (trow t ++ [((tsz t + 1 : Nat) : Int), ((tsz t : Nat) : Int)]) = by_ (trow t ++ [((tsz t + 1 : Nat) : Int), ((tsz t : Nat) : Int)]) (trow t) ++ by_ (trow t ++ [((tsz t + 1 : Nat) : Int), ((tsz t : Nat) : Int)]) [((tsz t + 1 : Nat) : Int), ((tsz t : Nat) : Int)] from List.map_append, by_append_left hm, ih, rnd_snoc, rnd_snoc]
    have h1 : (trow t ++ [((tsz t + 1 : Nat) : Int), ((tsz t : Nat) : Int)]).getD (tsz t + 1) 0 = ((tsz t : Nat) : Int) := by
      simp only [List.getD]; rw [List.getElem?_append_right (by rw [trow_length]; omega), trow_length, show tsz t + 1 - tsz t = 1 from by omega]; rfl
    have h2 : (trow t ++ [((tsz t + 1 : Nat) : Int), ((tsz t : Nat) : Int)]).getD (tsz t) 0 = ((tsz t + 1 : Nat) : Int) := by
      simp only [List.getD]; rw [List.getElem?_append_right (by rw [trow_length]; omega), trow_length, show tsz t - tsz t = 0 from by omega]; rfl
    simp only [by_, List.map_cons, List.map_nil, Int.toNat_natCast, h1, h2, List.append_assoc, List.singleton_append]

theorem nx_append_left {a x : List Int} {i : Nat} (h : i < a.length) : nx (a ++ x) i = nx a i := by
  unfold nx; simp only [List.getD]; rw [List.getElem?_append_left h]

theorem nx_trow_lt (t : List Bool) {i : Nat} (h : i < tsz t) : nx (trow t) i < tsz t := by
  have := nx_lt (trow_row t) (x := i) (by rw [trow_length]; exact h)
  rwa [trow_length] at this

theorem dis_zero {p : Nat → Nat} {i j : Nat} (h : j < i) (hp : p j < p i) : dis p i j = 0 := by
  unfold dis ne; rw [decide_eq_false (by omega), decide_eq_false (by omega)]; rfl

theorem dis_one {p : Nat → Nat} {i j : Nat} (h : j < i) (hp : p i < p j) : dis p i j = 1 := by
  unfold dis ne; rw [decide_eq_false (by omega), decide_eq_true hp]; rfl

theorem trow_inv : ∀ t, inv (tsz t) (nx (trow t)) = tpr t
  | [] => rfl
  | true :: t => by
    have ih := trow_inv t
    have e : ∀ i, i < tsz t → nx (trow (true :: t)) i = nx (trow t) i := fun i hi => nx_append_left (by rw [trow_length]; exact hi)
    have es : nx (trow (true :: t)) (tsz t) = tsz t := by
      show nx (trow t ++ [((tsz t : Nat) : Int)]) (tsz t) = tsz t
      unfold nx; simp only [List.getD]; rw [List.getElem?_append_right (by rw [trow_length]; omega), trow_length, Nat.sub_self]; rfl
    show inv (tsz t) (nx (trow (true :: t))) + S (tsz t) (fun j => dis (nx (trow (true :: t))) (tsz t) j) = tpr t
    rw [inv_congr e, ih, S_congr (g := fun _ => 0) (fun j hj => dis_zero hj (by rw [es, e j hj]; exact nx_trow_lt t hj)), S_zero]
    rfl
  | false :: t => by
    have ih := trow_inv t
    have e : ∀ i, i < tsz t → nx (trow (false :: t)) i = nx (trow t) i := fun i hi => nx_append_left (by rw [trow_length]; exact hi)
    have es : nx (trow (false :: t)) (tsz t) = tsz t + 1 := by
      show nx (trow t ++ [((tsz t + 1 : Nat) : Int), ((tsz t : Nat) : Int)]) (tsz t) = tsz t + 1
      unfold nx; simp only [List.getD]; rw [List.getElem?_append_right (by rw [trow_length]; omega), trow_length, Nat.sub_self]; rfl
    have et : nx (trow (false :: t)) (tsz t + 1) = tsz t := by
      show nx (trow t ++ [((tsz t + 1 : Nat) : Int), ((tsz t : Nat) : Int)]) (tsz t + 1) = tsz t
      unfold nx; simp only [List.getD]; rw [List.getElem?_append_right (by rw [trow_length]; omega), trow_length, show tsz t + 1 - tsz t = 1 from by omega]; rfl
    show inv (tsz t) (nx (trow (false :: t))) + S (tsz t) (fun j => dis (nx (trow (false :: t))) (tsz t) j) + (S (tsz t) (fun j => dis (nx (trow (false :: t))) (tsz t + 1) j) + dis (nx (trow (false :: t))) (tsz t + 1) (tsz t)) = tpr t + 1
    rw [inv_congr e, ih, S_congr (g := fun _ => 0) (fun j hj => dis_zero hj (by rw [es, e j hj]; have := nx_trow_lt t hj; omega)), S_zero,
      S_congr (g := fun _ => 0) (fun j hj => dis_zero (by omega) (by rw [et, e j hj]; exact nx_trow_lt t hj)), S_zero, dis_one (by omega) (by rw [et, es]; omega)]

theorem trow_odd (t : List Bool) : odd (trow t) = decide (tpr t % 2 = 1) := by
  have h := odd_inv (trow_row t)
  rw [trow_length, trow_inv] at h
  cases e : odd (trow t) <;> rw [e] at h <;> simp at h ⊢ <;> omega

theorem ord_le_two {r : List Int} (hr : isRow r) (h : by_ r r = rnd r.length) : ord r ≤ 2 := by
  have h2 : pw r 2 = rnd r.length := by rw [← pw_succ hr 1, pw_one hr, h]
  exact Nat.le_of_dvd (by decide) ((ord_pw hr 2).1 h2)

/-- The last place that is made, or 0. -/
def tlast : List Bool → Nat
  | [] => 0
  | true :: t => tsz t + 1
  | false :: t => tlast t

theorem tlast_ok : ∀ t, tlast t ≤ tsz t ∧ (tsz t - tlast t) % 2 = 0
  | [] => by decide
  | true :: t => by simp [tlast, tsz]
  | false :: t => by have := tlast_ok t; simp only [tlast, tsz]; omega

/-- May places be a change of n, behind a last one? -/
def okc (n last : Int) : List Int → Bool
  | [] => decide ((n - last) % 2 = 0)
  | p :: ps => decide (last < p ∧ p ≤ n ∧ (p - last - 1) % 2 = 0) && okc n p ps

theorem tsz_rep (t : List Bool) : ∀ m, tsz (List.replicate m false ++ t) = tsz t + 2 * m
  | 0 => by simp
  | m + 1 => by simp only [List.replicate_succ, List.cons_append, tsz, tsz_rep t m]; omega

theorem tpl_rep (t : List Bool) : ∀ m, tpl (List.replicate m false ++ t) = tpl t
  | 0 => by simp
  | m + 1 => by simp only [List.replicate_succ, List.cons_append, tpl, tpl_rep t m]

theorem okc_til (n : Nat) : ∀ (ps : List Int) (t : List Bool), tsz t ≤ n → okc n (tsz t : Nat) ps = true → ∃ t', tsz t' = n ∧ tpl t' = tpl t ++ ps
  | [], t, h, ho => by
    simp only [okc, decide_eq_true_eq] at ho
    exact ⟨List.replicate ((n - tsz t) / 2) false ++ t, by rw [tsz_rep]; omega, by rw [tpl_rep, List.append_nil]⟩
  | p :: ps, t, h, ho => by
    simp only [okc, Bool.and_eq_true, decide_eq_true_eq] at ho
    obtain ⟨⟨h1, h2, h3⟩, h4⟩ := ho
    obtain ⟨q, rfl⟩ := Int.eq_ofNat_of_zero_le (show 0 ≤ p by omega)
    have hs : tsz (true :: (List.replicate ((q - tsz t - 1) / 2) false ++ t)) = q := by simp only [tsz, tsz_rep]; omega
    obtain ⟨t', e1, e2⟩ := okc_til n ps (true :: (List.replicate ((q - tsz t - 1) / 2) false ++ t)) (by rw [hs]; omega) (by rw [hs]; exact h4)
    refine ⟨t', e1, ?_⟩
    rw [e2]
    simp only [tpl, tpl_rep, tsz_rep, List.append_assoc, List.singleton_append]
    rw [show tsz t + 2 * ((q - tsz t - 1) / 2) + 1 = q from by omega]

theorem til_okc (n : Nat) : ∀ (t : List Bool) (ps : List Int), tsz t ≤ n → okc n (tlast t : Nat) ps = true → okc n 0 (tpl t ++ ps) = true
  | [], ps, _, h => h
  | true :: t, ps, hn, h => by
    have hl := tlast_ok t
    simp only [tsz] at hn
    simp only [tpl, List.append_assoc, List.singleton_append]
    refine til_okc n t _ (by omega) ?_
    simp only [okc, Bool.and_eq_true, decide_eq_true_eq]
    exact ⟨by omega, h⟩
  | false :: t, ps, hn, h => til_okc n t ps (by simp only [tsz] at hn; omega) h

theorem okc_self (t : List Bool) : okc (tsz t : Nat) 0 (tpl t) = true := by
  have h := til_okc (tsz t) t [] (Nat.le_refl _) (by have := tlast_ok t; simp only [okc, decide_eq_true_eq]; omega)
  rwa [List.append_nil] at h

theorem okc_iff (n : Nat) (ps : List Int) : okc n 0 ps = true ↔ ∃ t, tsz t = n ∧ tpl t = ps := by
  constructor
  · intro h
    obtain ⟨t, e1, e2⟩ := okc_til n ps [] (Nat.zero_le _) h
    exact ⟨t, e1, by rw [e2]; rfl⟩
  · rintro ⟨t, rfl, rfl⟩
    exact okc_self t

theorem tsz_mono (s : List Bool) : ∀ u, tsz s ≤ tsz (u ++ s)
  | [] => Nat.le_refl _
  | true :: u => by have := tsz_mono s u; simp only [List.cons_append, tsz]; omega
  | false :: u => by have := tsz_mono s u; simp only [List.cons_append, tsz]; omega

theorem tpl_above (s : List Bool) : ∀ u, ∀ y ∈ tpl (u ++ s), y ∈ tpl s ∨ (tsz s : Int) < y
  | [], y, h => Or.inl h
  | true :: u, y, h => by
    simp only [List.cons_append, tpl, List.mem_append, List.mem_singleton] at h
    rcases h with h | h
    · exact tpl_above s u y h
    · have := tsz_mono s u; right; omega
  | false :: u, y, h => tpl_above s u y h

theorem tpl_sub (s : List Bool) : ∀ u, ∀ y ∈ tpl s, y ∈ tpl (u ++ s)
  | [], _, h => h
  | true :: u, y, h => by simp only [List.cons_append, tpl, List.mem_append]; exact Or.inl (tpl_sub s u y h)
  | false :: u, y, h => tpl_sub s u y h

theorem mem_next (u s : List Bool) (b : Bool) : ((tsz s : Nat) : Int) + 1 ∈ tpl (u ++ b :: s) ↔ b = true := by
  constructor
  · intro h
    cases b with
    | true => rfl
    | false =>
      rcases tpl_above (false :: s) u _ h with h | h
      · have := tpl_bound s _ h; omega
      · simp only [tsz] at h; omega
  · rintro rfl
    exact tpl_sub _ u _ (by simp [tpl])

theorem til_whole {s : List Bool} : ∀ {u : List Bool}, tsz (u ++ s) ≤ tsz s → u = []
  | [], _ => rfl
  | true :: u, h => by have := tsz_mono s u; simp only [List.cons_append, tsz] at h; omega
  | false :: u, h => by have := tsz_mono s u; simp only [List.cons_append, tsz] at h; omega

/-- The next tile of one that is not whole. -/
theorem til_next {u s : List Bool} (h : tsz s < tsz (u ++ s)) : ∃ u' b, u = u' ++ [b] ∧ u ++ s = u' ++ b :: s := by
  rcases List.eq_nil_or_concat u with rfl | ⟨u', b, rfl⟩
  · exact absurd h (Nat.lt_irrefl _)
  · exact ⟨u', b, by simp, by simp⟩

theorem trow_ones : ∀ n, trow (List.replicate n true) = rnd n ∧ tsz (List.replicate n true) = n ∧ tpr (List.replicate n true) = 0
  | 0 => ⟨rfl, rfl, rfl⟩
  | n + 1 => by
    obtain ⟨h1, h2, h3⟩ := trow_ones n
    refine ⟨?_, ?_, ?_⟩
    · rw [List.replicate_succ, trow, h1, h2, rnd_snoc]
    · rw [List.replicate_succ, tsz, h2]
    · rw [List.replicate_succ, tpr, h3]

theorem odd_rnd (n : Nat) : odd (rnd n) = false := by
  rw [← (trow_ones n).1, trow_odd, (trow_ones n).2.2]; rfl

end Go.Proofs.Ytgglbafcocbhbaa
