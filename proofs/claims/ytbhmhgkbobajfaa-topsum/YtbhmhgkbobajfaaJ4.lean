/- Joined: FlA2, SsQ, AppK, FRw, PickB, SsR. -/
import Derived.Test.YtbhmhgkbobajfaaJ3
import Derived.Test.YtbhmhgkbobajfaaJ0
import Derived.Maps.AppendAt
import Derived.Test.YtbhmhgkbobajfaaJ2
/- Quotients that are exact; whole numbers in small units. -/
namespace Go.Proofs.Ytbhmhgkbobajfaa
open Go.RowKit
set_option maxRecDepth 20000
set_option linter.unusedVariables false

theorem div_exact {x y : Nat} {a b c : Int} {M q : Nat} (hx : FV x a) (hy : FV y b) (hb : b ≠ 0) (h : a * (UU : Int) = c * b) (hc : c.natAbs = M * 2 ^ q) (hM : M < 9007199254740992) (hq : q ≤ 1990) : ∃ r, DF.div x y = some r ∧ FV r c := by
  have hU := UU_pos
  have hUe : UU = 2 ^ XP := by unfold UU; rfl
  obtain ⟨s, m, I, _, e1, hm, hv⟩ := hx
  obtain ⟨t, n, J, _, e2, hn, hw⟩ := hy
  have hwa : n * 2 ^ J = b.natAbs := by rw [← signed_natAbs t n J, ← hw]
  have hn0 : n ≠ 0 := by
    rintro rfl
    rw [Nat.zero_mul] at hwa
    omega
  have hmn : m * 2 ^ (I + XP) = M * n * 2 ^ (q + J) := by
    have h1 := congrArg Int.natAbs h
    rw [Int.natAbs_mul, Int.natAbs_mul, Int.natAbs_natCast, hc, ← hwa, hv, signed_natAbs, hUe] at h1
    rw [Nat.pow_add, ← Nat.mul_assoc, h1, Nat.pow_add]
    simp only [Nat.mul_assoc, Nat.mul_left_comm]
  unfold Ieee.Format.div
  rw [e1, e2, show DF.fractionBits + 2 = 54 from rfl, quotient_read s t m n I J hn0]
  generalize hmore : 54 + n.log2 - m.log2 = more
  have hRp : Rp c.natAbs := ⟨M, q, hc, by omega, hq⟩
  have key : (2 * (m * 2 ^ more / n) + (m * 2 ^ more % n != 0).toNat) * 2 ^ (I + XP) = c.natAbs * 2 ^ (J + more + 1) := by
    rw [hc]
    rcases Nat.eq_zero_or_pos M with hM0 | hM0
    · subst hM0
      have : m = 0 := by
        rw [Nat.zero_mul, Nat.zero_mul] at hmn
        rcases Nat.mul_eq_zero.1 hmn with h | h
        · exact h
        · have := Nat.two_pow_pos (I + XP); omega
      subst this
      simp
    · have hmp : 0 < m := by
        rcases Nat.eq_zero_or_pos m with h | h
        · subst h
          have := Nat.mul_pos (Nat.mul_pos hM0 (Nat.pos_of_ne_zero hn0)) (Nat.two_pow_pos (q + J))
          omega
        · exact h
      have hIJ : I + XP ≤ q + J + more := by
        rcases Nat.le_total (I + XP) (q + J + more) with h | h
        · exact h
        · have h1 : 2 ^ m.log2 ≤ m := Nat.log2_self_le (by omega)
          have h2 : n < 2 ^ (n.log2 + 1) := Nat.lt_log2_self
          have h3 : M * n * 2 ^ (q + J) < 2 ^ 53 * 2 ^ (n.log2 + 1) * 2 ^ (q + J) := Nat.mul_lt_mul_of_pos_right (by
            refine Nat.lt_of_lt_of_le (Nat.mul_lt_mul_of_pos_right (k := n) (by rw [show (2 : Nat) ^ 53 = 9007199254740992 from by decide]; exact hM) (Nat.pos_of_ne_zero hn0)) (Nat.mul_le_mul_left _ (Nat.le_of_lt h2))) (Nat.two_pow_pos _)
          have h4 : 2 ^ m.log2 * 2 ^ (I + XP) ≤ m * 2 ^ (I + XP) := Nat.mul_le_mul_right _ h1
          rw [hmn] at h4
          have h5 := Nat.lt_of_le_of_lt h4 h3
          rw [← Nat.pow_add, ← Nat.pow_add, ← Nat.pow_add] at h5
          have h6 := (Nat.pow_lt_pow_iff_right (by decide : 1 < 2)).1 h5
          omega
      have hdiv : m * 2 ^ more = M * 2 ^ (q + J + more - (I + XP)) * n := by
        have h1 : m * 2 ^ more * 2 ^ (I + XP) = M * 2 ^ (q + J + more - (I + XP)) * n * 2 ^ (I + XP) := by
          rw [Nat.mul_right_comm, hmn]
          have : M * 2 ^ (q + J + more - (I + XP)) * n * 2 ^ (I + XP) = M * n * (2 ^ (q + J + more - (I + XP)) * 2 ^ (I + XP)) := by simp only [Nat.mul_assoc, Nat.mul_left_comm]
          rw [this, ← Nat.pow_add, Nat.mul_assoc (M * n), ← Nat.pow_add]
          exact congrArg (fun z => M * n * 2 ^ z) (by omega)
        exact Nat.eq_of_mul_eq_mul_right (Nat.two_pow_pos (I + XP)) h1
      rw [hdiv, Nat.mul_div_cancel _ (Nat.pos_of_ne_zero hn0), Nat.mul_mod_left]
      simp only [bne_self_eq_false, Bool.toNat_false, Nat.add_zero]
      have h1 : 2 * (M * 2 ^ (q + J + more - (I + XP))) * 2 ^ (I + XP) = M * (2 ^ 1 * 2 ^ (q + J + more - (I + XP)) * 2 ^ (I + XP)) := by simp only [Nat.mul_assoc, Nat.mul_left_comm, Nat.pow_one]
      rw [h1, Nat.mul_assoc M, ← Nat.pow_add, ← Nat.pow_add, ← Nat.pow_add]
      exact congrArg (fun z => M * 2 ^ z) (by omega)
  have h1 := nearest_eq (s ^^ t) _ (I + XP) (J + more + 1) c.natAbs hRp key
  have hUi : (0 : Int) < (UU : Int) := by omega
  have hbb : (0 : Int) < b * b := by
    rcases Int.lt_or_gt_of_ne hb with h | h
    · exact Int.mul_pos_of_neg_of_neg h h
    · exact Int.mul_pos h h
  -- the sign of a times b is the sign of c
  have hab : a * b * (UU : Int) = c * (b * b) := by
    have : a * b * (UU : Int) = a * (UU : Int) * b := by simp only [Int.mul_assoc, Int.mul_left_comm, Int.mul_comm]
    rw [this, h, Int.mul_assoc]
  rw [sign_mul (s := s) (t := t) (m := m) (n := n) (I := I) (J := J) (c := c) (fun hp => by
    rw [← hv, ← hw]
    have : 0 < a * b * (UU : Int) := by rw [hab]; exact Int.mul_pos hp hbb
    exact Int.pos_of_mul_pos_left this (by omega)) (fun hp => by
    rw [← hv, ← hw]
    have h8 : a * b * (UU : Int) < 0 := by rw [hab]; exact Int.mul_neg_of_neg_of_pos hp hbb
    rcases Int.lt_or_le (a * b) 0 with h2 | h2
    · exact h2
    · have := Int.mul_nonneg h2 (Int.le_of_lt hUi); omega)] at h1
  exact ⟨_, rfl, h1⟩

theorem UU_EU : UU = 1099511627776 * EU := by
  have h1 : UU = 2 ^ XP := by unfold UU; rfl
  rw [h1, EU_eq, show (1099511627776 : Nat) = 2 ^ 40 from by decide, ← Nat.pow_add]
  exact congrArg (fun z => 2 ^ z) (by have := XP_eq; omega)

/-- A whole number, by 2^40. -/
theorem FE.quo {x y : Nat} {k : Int} (hx : FV x (k * (UU : Int))) (hy : FV y (1099511627776 * (UU : Int))) (hk : k.natAbs < 9007199254740992) : FOk .quo x y ∧ FE (fop .quo x y) k := by
  have hU := UU_pos
  have hE := UU_EU
  obtain ⟨r, h1, h2⟩ := div_exact (c := k * (EU : Int)) (M := k.natAbs) (q := XP - 40) hx hy (by omega) (by
    have e : (UU : Int) = 1099511627776 * (EU : Int) := by omega
    generalize (UU : Int) = u at *
    generalize (EU : Int) = v at *
    subst e
    simp only [Int.mul_assoc, Int.mul_left_comm]) (by rw [natAbs_EU, EU_eq]) hk (by have := XP_eq; omega)
  obtain ⟨k1, k2⟩ := FOk.of (op := .quo) (x := x) (y := y) h1
  exact ⟨k1, by rw [k2]; exact h2⟩

/-- A whole number in small units. -/
theorem FE.whole {x : Nat} {k : Int} (hx : FV x (k * (UU : Int))) : FE x (k * 1099511627776) := by
  unfold FE
  have hE := UU_EU
  rw [Int.mul_assoc, show (1099511627776 : Int) * (EU : Int) = (UU : Int) from by omega]
  exact hx

end Go.Proofs.Ytbhmhgkbobajfaa

/- Plain: a great number that comes and goes among small ones. -/
namespace Go.Proofs.Ytbhmhgkbobajfaa
open Go.RowKit
set_option maxRecDepth 20000
set_option linter.unusedVariables false

theorem mayB_fv {x : Nat} {v : Int} (hv : FV x v) (h : v.natAbs ≤ 1000000000 * UU) : mayB x = true := by
  have e1 : FloatKind.f64.format.order x 13965043853221167104 = some (compare v (-1000000000 * (UU : Int))) := order_fv hv FV_least
  have e2 : FloatKind.f64.format.order x 4741671816366391296 = some (compare v (1000000000 * (UU : Int))) := order_fv hv FV_most
  have b1 : -1000000000 * (UU : Int) ≤ v := by omega
  have b2 : v ≤ 1000000000 * (UU : Int) := by omega
  unfold mayB
  rw [e1, e2]
  rw [Bool.and_eq_true]
  constructor
  · rcases Int.lt_or_eq_of_le b1 with h | h
    · rw [Int.compare_eq_gt.2 h]; rfl
    · rw [← h, Int.compare_eq_eq.2 rfl]; rfl
  · rcases Int.lt_or_eq_of_le b2 with h | h
    · rw [Int.compare_eq_lt.2 h]; rfl
    · rw [h, Int.compare_eq_eq.2 rfl]; rfl

theorem read_eq (x : Nat) : DF.read x = if x % 9223372036854775808 < 4503599627370496 then .number (x / 9223372036854775808 % 2 == 1) (x % 9223372036854775808) (-1074)
      else if x % 9223372036854775808 < 9218868437227405312 then .number (x / 9223372036854775808 % 2 == 1) (4503599627370496 + x % 9223372036854775808 % 4503599627370496) (-1074 + (x % 9223372036854775808 / 4503599627370496 - 1 : Nat))
      else if x % 9223372036854775808 = 9218868437227405312 then .infinity (x / 9223372036854775808 % 2 == 1) else .nan (x / 9223372036854775808 % 2 == 1) (x % 9223372036854775808 - 9218868437227405312) := by
  have h1 : DF.signWeight = 9223372036854775808 := by decide
  have h2 : DF.binade = 4503599627370496 := by decide
  have h3 : DF.infRung = 9218868437227405312 := by decide
  have h4 : DF.leastPlace = -1074 := by decide
  unfold Ieee.Format.read
  simp only [h1, h2, h3, h4]

theorem number_inj {s t : Bool} {m n : Nat} {i j : Int} (h : Ieee.Datum.number s m i = .number t n j) : s = t ∧ m = n ∧ i = j := by
  injection h with a b c
  exact ⟨a, b, c⟩

theorem neg_top (x : Nat) (h : x < 9223372036854775808) : Op.negFloat .f64 x = x + 9223372036854775808 := by
  have e0 : FloatKind.f64.format.exponentBits + FloatKind.f64.format.fractionBits = 63 := by decide
  unfold Op.negFloat
  rw [e0]
  have h1 : (x ^^^ 2 ^ 63) % 2 ^ 63 = x := by
    rw [Nat.xor_mod_two_pow, Nat.mod_self, Nat.xor_zero]
    exact Nat.mod_eq_of_lt h
  have h2 : (x ^^^ 2 ^ 63) / 2 ^ 63 = 1 := by
    rw [← Nat.shiftRight_eq_div_pow, Nat.shiftRight_xor_distrib, Nat.shiftRight_eq_div_pow, Nat.shiftRight_eq_div_pow, Nat.div_eq_of_lt h]
    decide
  have h3 := Nat.div_add_mod (x ^^^ 2 ^ 63) (2 ^ 63)
  rw [h1, h2] at h3
  omega

theorem FV_neg {x : Nat} {a : Int} (h : FV x a) (ha : 0 < a) : FV (Op.negFloat .f64 x) (-a) := by
  obtain ⟨s, m, I, hlt, e, hm, hv⟩ := h
  have hs : s = false := signed_pos_iff s m I (by rw [← hv]; exact ha)
  subst hs
  have hx : x < 9223372036854775808 := by
    rcases Nat.lt_or_ge x 9223372036854775808 with h | h
    · exact h
    · exfalso
      have hd : x / 9223372036854775808 % 2 = 1 := by omega
      rw [read_eq, hd] at e
      split at e
      · cases e
      · split at e
        · cases e
        · split at e <;> cases e
  rw [neg_top x hx]
  refine ⟨true, m, I, by omega, ?_, hm, ?_⟩
  · have hd : x / 9223372036854775808 % 2 = 0 := by omega
    have hd' : (x + 9223372036854775808) / 9223372036854775808 % 2 = 1 := by omega
    have hm' : (x + 9223372036854775808) % 9223372036854775808 = x % 9223372036854775808 := by omega
    rw [read_eq, hd] at e
    rw [read_eq, hd', hm']
    split at e
    · rename_i c; rw [if_pos c]
      obtain ⟨_, e2, e3⟩ := number_inj e
      rw [e2, e3]; rfl
    · rename_i c; rw [if_neg c]
      split at e
      · rename_i c'; rw [if_pos c']
        obtain ⟨_, e2, e3⟩ := number_inj e
        rw [e2, e3]; rfl
      · split at e <;> cases e
  · rw [hv, show true = !false from rfl, signed_not]

/-- The great number's float, and its opposite. -/
structure Grt (b : Int) (g h : Nat) : Prop where
  lo : 1 ≤ b
  hi : b ≤ 1000000000
  g : FE g (b * 1099511627776)
  h : FE h (-(b * 1099511627776))

theorem Grt.of {b : Int} (h1 : 1 ≤ b) (h2 : b ≤ 1000000000) : Grt b (fi b) (Op.negFloat .f64 (fi b)) := by
  have hv := FV_ofInt b (by omega)
  have hU := UU_pos
  have hn := FV_neg hv (Int.mul_pos (by omega) (by omega))
  have e : FE (Op.negFloat .f64 (fi b)) ((-b) * 1099511627776) := FE.whole (by rw [Int.neg_mul]; exact hn)
  rw [Int.neg_mul] at e
  exact ⟨h1, h2, FE.whole hv, e⟩

theorem Grt.big {b : Int} {g h : Nat} (hg : Grt b g h) : Big (b * 1099511627776) := by
  have := hg.lo
  have := hg.hi
  exact ⟨by omega, by omega⟩

/-- The constant 2^40. -/
abbrev p40 : Nat := 4787326403894837248

theorem FV_p40 : FV p40 (1099511627776 * (UU : Int)) := by
  have e : floatOfInt .f64 1099511627776 = p40 := by kernel_rfl
  rw [← e]
  exact FV_ofInt 1099511627776 (by decide)

/-- Small numbers. -/
def q40 (k : Int) : Nat := fop .quo (fi k) p40

theorem q40_ok {k : Int} (h : k.natAbs ≤ 1000000) : FOk .quo (fi k) p40 ∧ FE (q40 k) k := FE.quo (FV_ofInt k (by omega)) FV_p40 (by omega)

/-- A token's float. -/
def tkF (g h : Nat) (t : Int × Int) : Nat := if t.1 = 1 then g else if t.1 = -1 then h else q40 t.2

abbrev tk0 (K : List Int) : List (Int × Int) := K.map (fun k => ((0 : Int), k))

/-- Small ones, the great one, small ones, its opposite, small ones. -/
def tokens (A B C : List Int) (d : Int) : List (Int × Int) := tk0 A ++ (d, 0) :: (tk0 B ++ (-d, 0) :: tk0 C)

theorem tkS_tk0 : ∀ K : List Int, tkS (tk0 K) = K.sum
  | [] => rfl
  | k :: K => by
    simp only [tk0, List.map_cons, tkS, List.sum_cons]
    rw [show tkS (K.map (fun k => ((0 : Int), k))) = K.sum from tkS_tk0 K]

theorem tokens_ok {A B C : List Int} {d : Int} (hd : d = 1 ∨ d = -1) (ha : ∀ k, k ∈ A → k.natAbs ≤ 1000) (hb : ∀ k, k ∈ B → k.natAbs ≤ 1000) (hc : ∀ k, k ∈ C → k.natAbs ≤ 1000) :
    TkOk 0 (tokens A B C d) ∧ tkG (tokens A B C d) = 0 ∧ tkS (tokens A B C d) = A.sum + B.sum + C.sum := by
  obtain ⟨a1, a2⟩ := small_tokens 0 A (by omega) ha
  obtain ⟨b1, b2⟩ := small_tokens d B (by omega) hb
  obtain ⟨c1, c2⟩ := small_tokens 0 C (by omega) hc
  refine ⟨?_, ?_, ?_⟩
  · refine TkOk_append 0 _ _ a1 ?_
    rw [a2]
    refine ⟨Or.inr ⟨by simpa using hd, rfl⟩, by simp; omega, ?_⟩
    rw [show (0 : Int) + 0 + (d, (0 : Int)).1 = d from by simp]
    refine TkOk_append d _ _ b1 ?_
    rw [b2]
    refine ⟨Or.inr ⟨by simp; omega, rfl⟩, by simp; omega, ?_⟩
    rw [show d + 0 + (-d, (0 : Int)).1 = 0 from by simp; omega]
    exact c1
  · unfold tokens
    rw [tkG_append, a2]
    simp only [tkG]
    rw [tkG_append, b2]
    simp only [tkG]
    rw [c2]
    omega
  · unfold tokens
    rw [tkS_append, tkS_tk0]
    simp only [tkS]
    rw [tkS_append, tkS_tk0]
    simp only [tkS]
    rw [tkS_tk0]
    omega

/-- The list with both put in. -/
def zlist (X : List Nat) (i j g h : Nat) : List Nat :=
  let y := (X.take i ++ [g]) ++ X.drop i
  (y.take j ++ [h]) ++ y.drop j

theorem map_q (g h : Nat) (K : List Int) : (tk0 K).map (tkF g h) = K.map q40 := by
  rw [List.map_map]
  apply List.map_congr_left
  intro k _
  unfold tkF
  simp

theorem sum_take_drop (K : List Int) (i : Nat) : (K.take i).sum + (K.drop i).sum = K.sum := by
  rw [← List.sum_append, List.take_append_drop]

theorem zlist_tokens (K : List Int) (i j g h : Nat) (hi : i ≤ K.length) (hj : j ≤ K.length + 1) :
    ∃ A B C d, (d = 1 ∨ d = -1) ∧ zlist (K.map q40) i j g h = (tokens A B C d).map (tkF g h) ∧ A.sum + B.sum + C.sum = K.sum ∧ (∀ k, k ∈ A ∨ k ∈ B ∨ k ∈ C → k ∈ K) := by
  have e1 : tkF g h (1, 0) = g := rfl
  have e2 : tkF g h (-1, 0) = h := rfl
  rcases Nat.lt_or_ge i j with hij | hij
  · -- the great one first
    refine ⟨K.take i, (K.drop i).take (j - i - 1), (K.drop i).drop (j - i - 1), 1, Or.inl rfl, ?_, ?_, ?_⟩
    · unfold tokens
      simp only [List.map_append, map_q, List.map_cons, e1, e2, List.map_take, List.map_drop]
      unfold zlist
      simp only
      generalize hX : K.map q40 = X
      have hXl : X.length = K.length := by rw [← hX]; simp
      have hl : (X.take i ++ [g]).length = i + 1 := by simp; omega
      have t1 : ((X.take i ++ [g]) ++ X.drop i).take j = (X.take i ++ [g]) ++ (X.drop i).take (j - i - 1) := by
        rw [List.take_append, hl, List.take_of_length_le (show (X.take i ++ [g]).length ≤ j by rw [hl]; omega), show j - (i + 1) = j - i - 1 from by omega]
      have t2 : ((X.take i ++ [g]) ++ X.drop i).drop j = (X.drop i).drop (j - i - 1) := by
        rw [List.drop_append, hl, List.drop_of_length_le (show (X.take i ++ [g]).length ≤ j by rw [hl]; omega), show j - (i + 1) = j - i - 1 from by omega, List.nil_append]
      rw [t1, t2]
      simp only [List.append_assoc, List.cons_append, List.nil_append]
    · have h1 := sum_take_drop K i
      have h2 := sum_take_drop (K.drop i) (j - i - 1)
      omega
    · rintro k (h1 | h1 | h1)
      · exact List.mem_of_mem_take h1
      · exact List.mem_of_mem_drop (List.mem_of_mem_take h1)
      · exact List.mem_of_mem_drop (List.mem_of_mem_drop h1)
  · -- its opposite first
    refine ⟨K.take j, (K.take i).drop j, K.drop i, -1, Or.inr rfl, ?_, ?_, ?_⟩
    · unfold tokens
      simp only [List.map_append, map_q, List.map_cons, e2, Int.neg_neg, e1, List.map_take, List.map_drop]
      unfold zlist
      simp only
      generalize hX : K.map q40 = X
      have hXl : X.length = K.length := by rw [← hX]; simp
      have hl : (X.take i).length = i := by simp; omega
      have hy : (X.take i ++ [g]) ++ X.drop i = X.take i ++ ([g] ++ X.drop i) := List.append_assoc _ _ _
      have t1 : ((X.take i ++ [g]) ++ X.drop i).take j = X.take j := by
        rw [hy, List.take_append, hl, show j - i = 0 from by omega, List.take_zero, List.append_nil, List.take_take, Nat.min_eq_left hij]
      have t2 : ((X.take i ++ [g]) ++ X.drop i).drop j = (X.take i).drop j ++ ([g] ++ X.drop i) := by
        rw [hy, List.drop_append, hl, show j - i = 0 from by omega, List.drop_zero]
      rw [t1, t2]
      simp only [List.append_assoc, List.cons_append, List.nil_append]
    · have h1 := sum_take_drop K i
      have h2 := sum_take_drop (K.take i) j
      rw [List.take_take, Nat.min_eq_left hij] at h2
      omega
    · rintro k (h1 | h1 | h1)
      · exact List.mem_of_mem_take h1
      · exact List.mem_of_mem_take (List.mem_of_mem_drop h1)
      · exact List.mem_of_mem_drop h1

/-- All that the law asks of the sum. -/
structure ZOk (K : List Int) (F : List Nat) : Prop where
  chk : chkF F = 0
  all : TAll F
  ok : FOk .add (tl F).1 (tl F).2
  sum : FE (sm (tl F)) (K.sum)

theorem zlist_ok {K : List Int} (hK : Sml K) {b : Int} {g h i j : Nat} (hg : Grt b g h) (hi : i ≤ K.length) (hj : j ≤ K.length + 1) : ZOk K (zlist (K.map q40) i j g h) := by
  obtain ⟨A, B, C, d, hd, e, hs, hm⟩ := zlist_tokens K i j g h hi hj
  have hl : (zlist (K.map q40) i j g h).length = K.length + 2 := by
    unfold zlist
    simp
    omega
  have hlen := hK.len
  obtain ⟨t1, t2, t3⟩ := tokens_ok (A := A) (B := B) (C := C) hd (fun k hk => hK.b k (hm k (Or.inl hk))) (fun k hk => hK.b k (hm k (Or.inr (Or.inl hk)))) (fun k hk => hK.b k (hm k (Or.inr (Or.inr hk))))
  rw [e] at hl ⊢
  rw [List.length_map] at hl
  have hlo := hg.lo
  have hhi := hg.hi
  have htok : ∀ t, t ∈ tokens A B C d → (t.1 = 0 ∧ t.2.natAbs ≤ 1000) ∨ t = (1, 0) ∨ t = (-1, 0) := by
    intro t ht
    unfold tokens tk0 at ht
    simp only [List.mem_append, List.mem_map, List.mem_cons] at ht
    rcases ht with ⟨k, hk, rfl⟩ | rfl | ⟨k, hk, rfl⟩ | rfl | ⟨k, hk, rfl⟩
    · exact Or.inl ⟨rfl, hK.b k (hm k (Or.inl hk))⟩
    · rcases hd with rfl | rfl
      · exact Or.inr (Or.inl rfl)
      · exact Or.inr (Or.inr rfl)
    · exact Or.inl ⟨rfl, hK.b k (hm k (Or.inr (Or.inl hk)))⟩
    · rcases hd with rfl | rfl
      · exact Or.inr (Or.inr rfl)
      · exact Or.inr (Or.inl rfl)
    · exact Or.inl ⟨rfl, hK.b k (hm k (Or.inr (Or.inr hk)))⟩
  have hfe : ∀ t, t ∈ tokens A B C d → FE (tkF g h t) (t.1 * (b * 1099511627776) + t.2) := by
    intro t ht
    rcases htok t ht with ⟨h1, h2⟩ | rfl | rfl
    · have : tkF g h t = q40 t.2 := by unfold tkF; rw [h1]; simp
      rw [this, h1, Int.zero_mul, Int.zero_add]
      exact (q40_ok (by omega)).2
    · show FE g (1 * (b * 1099511627776) + 0)
      rw [Int.one_mul, Int.add_zero]
      exact hg.g
    · show FE h (-1 * (b * 1099511627776) + 0)
      rw [Int.add_zero, Int.neg_mul, Int.one_mul]
      exact hg.h
  have hbt : (tkS (tokens A B C d)).natAbs ≤ 9007199254740992 := by
    rw [t3, hs]
    have : K.sum.natAbs ≤ K.length * 1000000 := sum_bound K (fun v hv => by have := hK.b v hv; omega)
    omega
  obtain ⟨r1, r2, r3⟩ := SE.done hg.big (F := (tokens A B C d).map (tkF g h)) (Z := tokens A B C d) (by simp) (by omega) t1 t2 hbt (fun j h1 h2 => by
    rw [List.getElem_map]
    exact hfe _ (List.getElem_mem _))
  rw [t3, hs] at r3
  have hE : UU = 1099511627776 * EU := UU_EU
  refine ⟨chkF_fine (by rw [List.length_map]; omega) (fun k hk => ?_), r1, r2, r3⟩
  rw [List.length_map] at hk
  have hget : ((tokens A B C d).map (tkF g h)).getD k 0 = tkF g h (tokens A B C d)[k] := by simp [List.getD, hk]
  rw [hget]
  have hmem : (tokens A B C d)[k] ∈ tokens A B C d := List.getElem_mem hk
  refine mayB_fv (hfe _ hmem) ?_
  rw [natAbs_EU]
  have hbb : ((tokens A B C d)[k].1 * (b * 1099511627776) + (tokens A B C d)[k].2).natAbs ≤ 1000000000 * 1099511627776 := by
    rcases htok _ hmem with ⟨h1, h2⟩ | h1 | h1
    · rw [h1, Int.zero_mul, Int.zero_add]; omega
    · rw [h1]
      show (1 * (b * 1099511627776) + 0).natAbs ≤ _
      omega
    · rw [h1]
      show (-1 * (b * 1099511627776) + 0).natAbs ≤ _
      omega
  rw [hE, ← Nat.mul_assoc]
  exact Nat.mul_le_mul_right _ hbb

end Go.Proofs.Ytbhmhgkbobajfaa

/- append, and where the new slice lies. -/
namespace Go.Proofs.Ytbhmhgkbobajfaa
open Go.RowKit

theorem run_append_keep {P : Program} (w : World) (base : Nat) (t ty e : TypeId) (i : TypeInfo) (z : Value) (size bytes : Nat) (ht : P.underlying t = some (.slice e)) (hi : P.info? e = some i) (hz : i.zero = some z)
    (hsize : i.size = size) (hby : i.bytes = bytes) (hzs : z.cells.size = size) (hsz : 0 < size)
    (v : Value) (n : Nat) (xs : List Value) (hown : w.ownsRow base e size v n xs)
    (a : Addr) (m c : Nat) (news : List Value) (hl : news.length = m * size) (hnews : ∀ j u, news[j]? = some u → w.cell? (a.add j) = some u) (h1 : ∀ u ∈ news, u.oneCell' = true)
    (h63 : n + m ≤ maxLen) (hbytes : (n + m) * bytes ≤ 140737488355328) (hbase : base ≤ w.heap.size) :
    ∃ v' w', (Builtin.append_ #[t, t] ty #[v, .slice (some a) m c]).run P w = .ok v' w' ∧ w'.ownsRow base e size v' (n + m) (xs ++ news) ∧ w.grownBy w' v.ownBlock ∧
      (v'.ownBlock = v.ownBlock ∨ (v'.ownBlock = some w.heap.size ∧ w.grownBy w' none)) := by
  obtain ⟨v', w', hr, h2, h3, _, h5⟩ := run_append_own_at (P := P) w base t ty e i z size bytes ht hi hz hsize hby hzs hsz v n xs hown a m c news hl hnews h1 h63 hbytes hbase
  refine ⟨v', w', hr, h2, h3, ?_⟩
  subst hsize
  subst hby
  rcases hown.2 with ⟨rfl, rfl⟩ | ⟨g, cap, cur, rfl, hbg, hg, hnc, hcm, hcs, htake⟩
  · exact h5.imp id (fun h => ⟨h, h3⟩)
  · by_cases hroom : n + m ≤ cap
    · have hfit : n * i.size + news.length ≤ cur.size := by rw [hl, hcs, ← Nat.add_mul]; exact Nat.mul_le_mul_right _ hroom
      have hr' := run_append_room (P := P) w t ty e i ht hi g n cap cur hg a m c news hl hnews h1 hroom hfit
      rw [hr] at hr'
      obtain ⟨e1, _⟩ := Result.ok.inj hr'
      left; rw [e1]; rfl
    · have holds : ∀ j u, xs[j]? = some u → w.cell? ((⟨g, 0, none⟩ : Addr).add j) = some u := hown.cells (g := g) rfl
      have hsmall : n + m ≤ 9223372036854775807 := by simp only [maxLen] at h63; omega
      have hr' := run_append_grow (P := P) w t ty e i z ht hi hz ⟨g, 0, none⟩ n cap xs hown.1 holds a m c news hl hnews (by omega) (by omega) (growslice_fits (by omega) hbytes)
      rw [hr] at hr'
      obtain ⟨e1, e2⟩ := Result.ok.inj hr'
      right
      rw [e1, e2]
      exact ⟨rfl, ⟨rfl, rfl, rfl, by simp, fun k hk _ => Below.heap_alloc w.drew _ k hk⟩⟩

theorem wpList_append_keep {P : Program} (w : World) {ops : Array Oper} {rest : List Oper} {o : Oper} {a : Act} {Q : Exit → Act → World → Prop} (hgd : o.guard = none) (s x : Operand) (t : TypeId)
    (ho : o.op = .call { callee := .builtin .append, args := #[s, x], argTypes := #[t, t] })
    (base : Nat) (e : TypeId) (i : TypeInfo) (z : Value) (size bytes : Nat) (ht : P.underlying t = some (.slice e)) (hi : P.info? e = some i) (hz : i.zero = some z)
    (hsize : i.size = size) (hby : i.bytes = bytes) (hzs : z.cells.size = size) (hsz : 0 < size)
    (v : Value) (n : Nat) (xs : List Value) (hs : a.eval s = v) (hown : w.ownsRow base e size v n xs)
    (ad : Addr) (m c : Nat) (news : List Value) (hx : a.eval x = .slice (some ad) m c) (hl : news.length = m * size) (hnews : ∀ j u, news[j]? = some u → w.cell? (ad.add j) = some u) (h1 : ∀ u ∈ news, u.oneCell' = true)
    (h63 : n + m ≤ maxLen) (hbytes : (n + m) * bytes ≤ 140737488355328) (hbase : base ≤ w.heap.size)
    (h : ∀ v' w', w'.ownsRow base e size v' (n + m) (xs ++ news) → w.grownBy w' v.ownBlock → (v'.ownBlock = v.ownBlock ∨ (v'.ownBlock = some w.heap.size ∧ w.grownBy w' none)) → wpList P ops Q rest (a.put o.dst v') w') :
    wpList P ops Q (o :: rest) a w := by
  refine wpList_plain hgd fun K hK => ?_
  obtain ⟨v', w', hr, h2, h3, h4⟩ := run_append_keep (P := P) w base t o.type e i z size bytes ht hi hz hsize hby hzs hsz v n xs hown ad m c news hl hnews h1 h63 hbytes hbase
  unfold Oper.wp execOp
  simp only [ho, resolve, invoke, builtin, Sem.run_bind, Sem.run_pure, Result.andThen_ok, List.map_toArray, List.map_cons, List.map_nil, hs, hx, hr]
  exact hK _ _ (h v' w' h2 h3 h4)

/-- .. as one step of a region that draws. -/
theorem step_append_keep {P : Program} {ops : Array Oper} {o : Oper} {a : Act} {w : World} {K : Act → World → Prop} {Q : Exit → Act → World → Prop} {E : Prop} (hg : o.guard = none) (s x : Operand) (t : TypeId)
    (ho : o.op = .call { callee := .builtin .append, args := #[s, x], argTypes := #[t, t] })
    (base : Nat) (e : TypeId) (i : TypeInfo) (z : Value) (size bytes : Nat) (ht : P.underlying t = some (.slice e)) (hi : P.info? e = some i) (hz : i.zero = some z)
    (hsize : i.size = size) (hby : i.bytes = bytes) (hzs : z.cells.size = size) (hsz : 0 < size)
    (v : Value) (n : Nat) (xs : List Value) (hs : a.eval s = v) (hown : w.ownsRow base e size v n xs)
    (ad : Addr) (m c : Nat) (news : List Value) (hx : a.eval x = .slice (some ad) m c) (hl : news.length = m * size) (hnews : ∀ j u, news[j]? = some u → w.cell? (ad.add j) = some u) (h1 : ∀ u ∈ news, u.oneCell' = true)
    (h63 : n + m ≤ maxLen) (hbytes : (n + m) * bytes ≤ 140737488355328) (hbase : base ≤ w.heap.size)
    (h : ∀ v' w', w'.ownsRow base e size v' (n + m) (xs ++ news) → w.grownBy w' v.ownBlock → (v'.ownBlock = v.ownBlock ∨ (v'.ownBlock = some w.heap.size ∧ w.grownBy w' none)) → K (a.put o.dst v') w') :
    if Region.wanted o (yielded ops a.tmps) = true then Oper.wp P o a w K Q else E := by
  have hw : Region.wanted o (yielded ops a.tmps) = true := by simp [Region.wanted, hg]
  rw [if_pos hw]
  obtain ⟨v', w', hr, h2, h3, h4⟩ := run_append_keep (P := P) w base t o.type e i z size bytes ht hi hz hsize hby hzs hsz v n xs hown ad m c news hl hnews h1 h63 hbytes hbase
  unfold Oper.wp execOp
  simp only [ho, resolve, invoke, builtin, Sem.run_bind, Sem.run_pure, Result.andThen_ok, List.map_toArray, List.map_cons, List.map_nil, hs, hx, hr]
  exact h v' w' h2 h3 h4

end Go.Proofs.Ytbhmhgkbobajfaa

/- Rows of floats that a call owns, one more put behind. -/
namespace Go.Proofs.Ytbhmhgkbobajfaa
open Go.RowKit
set_option maxRecDepth 20000
set_option linter.unusedVariables false

theorem fr_block {w w' : World} {base e n : Nat} {v : Value} {xs : List Value} (h : w.ownsRow base e 1 v n xs) (hb : ∀ g, v.ownBlock = some g → w'.heap[g]? = w.heap[g]?) : w'.ownsRow base e 1 v n xs := by
  obtain ⟨h1, h2⟩ := h
  refine ⟨h1, ?_⟩
  rcases h2 with h2 | ⟨g, cap, cur, hv, hg, hh, r⟩
  · exact Or.inl h2
  · exact Or.inr ⟨g, cap, cur, hv, hg, (hb g (by rw [hv]; rfl)).trans hh, r⟩

/-- Rows of unlike elements are unlike blocks. -/
theorem fr_ty {w : World} {base base' e e' n m : Nat} {u v : Value} {xs ys : List Value} (h1 : w.ownsRow base e 1 u n xs) (h2 : w.ownsRow base' e' 1 v m ys) (he : e ≠ e') : ∀ g, u.ownBlock = some g → v.ownBlock ≠ some g := by
  intro g hu hv
  rcases h1.2 with ⟨rfl, _⟩ | ⟨g1, c1, cur1, rfl, _, hh1, _⟩
  · cases hu
  · rcases h2.2 with ⟨rfl, _⟩ | ⟨g2, c2, cur2, rfl, _, hh2, _⟩
    · cases hv
    · have e1 : g1 = g := by simpa [Value.ownBlock] using hu
      have e2 : g2 = g := by simpa [Value.ownBlock] using hv
      subst e1; subst e2
      rw [hh1] at hh2
      injection hh2 with hh2
      injection hh2 with _ e2 _
      exact he e2

structure FR (w : World) (base m : Nat) (R : Nat → Value × List Nat) : Prop where
  own : ∀ i, i < m → w.ownsRow base 23 1 (R i).1 (R i).2.length ((R i).2.map (Value.float .f64))
  apart : ∀ i j, i < m → j < m → i ≠ j → ∀ g, (R i).1.ownBlock = some g → (R j).1.ownBlock ≠ some g

theorem FR.of {w w' : World} {base m : Nat} {R : Nat → Value × List Nat} (h : FR w base m R) (hb : ∀ g, base ≤ g → g < w.heap.size → (∃ i, i < m ∧ (R i).1.ownBlock = some g) → w'.heap[g]? = w.heap[g]?) : FR w' base m R :=
  ⟨fun i hi => fr_block (h.own i hi) (fun g hg => hb g ((h.own i hi).lt g hg).1 ((h.own i hi).lt g hg).2 ⟨i, hi, hg⟩), h.apart⟩

theorem FR.push {w w' : World} {base m : Nat} {R : Nat → Value × List Nat} {i y : Nat} {v' : Value} (h : FR w base m R) (hi : i < m) (h4 : w'.ownsRow base 23 1 v' ((R i).2.length + 1) (((R i).2 ++ [y]).map (Value.float .f64)))
    (hg : w.grownBy w' (R i).1.ownBlock) (hv : v'.ownBlock = (R i).1.ownBlock ∨ v'.ownBlock = some w.heap.size) : FR w' base m (fun j => if j = i then (v', (R i).2 ++ [y]) else R j) := by
  have hlt : ∀ j, j < m → ∀ g, (R j).1.ownBlock = some g → g < w.heap.size := fun j hj g e => ((h.own j hj).lt g e).2
  refine ⟨fun j hj => ?_, fun a b ha hb hab g e1 e2 => ?_⟩
  · by_cases e : j = i
    · subst e
      simp only [if_true]
      rw [List.length_append, List.length_singleton]
      exact h4
    · simp only [if_neg e]
      exact fr_block (h.own j hj) (fun g hgb => hg.block g (hlt j hj g hgb) (fun e2 => h.apart j i hj hi e g hgb e2.symm))
  · by_cases ea : a = i
    · by_cases eb : b = i
      · exact hab (ea.trans eb.symm)
      · simp only [if_pos ea, if_neg eb] at e1 e2
        rcases hv with hv | hv
        · rw [hv] at e1; exact h.apart i b hi hb (fun e => eb e.symm) g e1 e2
        · rw [hv] at e1
          have := hlt b hb g e2
          injection e1 with e1
          omega
    · by_cases eb : b = i
      · simp only [if_neg ea, if_pos eb] at e1 e2
        rcases hv with hv | hv
        · rw [hv] at e2; exact h.apart a i ha hi ea g e1 e2
        · rw [hv] at e2
          have := hlt a ha g e1
          injection e2 with e2
          omega
      · simp only [if_neg ea, if_neg eb] at e1 e2
        exact h.apart a b ha hb hab g e1 e2

/-- One float is put behind others. -/
theorem wpList_push {w : World} {ops : Array Oper} {rest : List Oper} {o : Oper} {a : Act} {Q : Exit → Act → World → Prop} (hgd : o.guard = none) (s x : Operand)
    (ho : o.op = .call { callee := .builtin .append, args := #[s, x], argTypes := #[22, 22] })
    (base : Nat) (v : Value) (F : List Nat) (hs : a.eval s = v) (hown : w.ownsRow base 23 1 v F.length (F.map (Value.float .f64)))
    (B y : Nat) (hx : a.eval x = .slice (some ⟨B, 0, none⟩) 1 1) (hB : w.heap[B]? = some (.cells #[.float .f64 y] 23)) (hl : F.length ≤ 10000) (hbase : base ≤ w.heap.size)
    (h : ∀ v' w', w'.ownsRow base 23 1 v' (F.length + 1) ((F ++ [y]).map (Value.float .f64)) → w.grownBy w' v.ownBlock → (v'.ownBlock = v.ownBlock ∨ v'.ownBlock = some w.heap.size) → wpList Try.prog ops Q rest (a.put o.dst v') w') :
    wpList Try.prog ops Q (o :: rest) a w := by
  obtain ⟨i0, hi, hz0, hz1, hz2⟩ := info_parts Try.info23
  refine wpList_append_keep w hgd s x 22 ho base 23 i0 (.float .f64 0) 1 8 Try.underlying22 hi hz0 hz1 hz2 rfl (by decide) v F.length _ hs hown ⟨B, 0, none⟩ 1 1 [.float .f64 y] hx rfl (fun j u hu => ?_) (fun u hu => ?_) (by unfold maxLen; omega) (by omega) hbase (fun v' w' h1 h2 h3 => ?_)
  · rw [Addr.add_lit, Nat.zero_add]
    unfold World.cell?
    rw [hB]
    simpa using hu
  · rw [List.mem_singleton] at hu; subst hu; rfl
  · exact h v' w' (by rw [List.map_append]; exact h1) h2 (h3.imp id (fun e => e.1))

theorem wpList_pushI {w : World} {ops : Array Oper} {rest : List Oper} {o : Oper} {a : Act} {Q : Exit → Act → World → Prop} (hgd : o.guard = none) (s x : Operand)
    (ho : o.op = .call { callee := .builtin .append, args := #[s, x], argTypes := #[36, 36] })
    (base : Nat) (v : Value) (F : List Int) (hs : a.eval s = v) (hown : w.ownsRow base 3 1 v F.length (F.map (Value.int .i64)))
    (B : Nat) (y : Int) (hx : a.eval x = .slice (some ⟨B, 0, none⟩) 1 1) (hB : w.heap[B]? = some (.cells #[.int .i64 y] 3)) (hl : F.length ≤ 10000) (hbase : base ≤ w.heap.size)
    (h : ∀ v' w', w'.ownsRow base 3 1 v' (F.length + 1) ((F ++ [y]).map (Value.int .i64)) → w.grownBy w' v.ownBlock → (v'.ownBlock = v.ownBlock ∨ v'.ownBlock = some w.heap.size) → wpList Try.prog ops Q rest (a.put o.dst v') w') :
    wpList Try.prog ops Q (o :: rest) a w := by
  obtain ⟨i0, hi, hz0, hz1, hz2⟩ := info_parts Try.info3
  refine wpList_append_keep w hgd s x 36 ho base 3 i0 (.int .i64 0) 1 8 Try.underlying36 hi hz0 hz1 hz2 rfl (by decide) v F.length _ hs hown ⟨B, 0, none⟩ 1 1 [.int .i64 y] hx rfl (fun j u hu => ?_) (fun u hu => ?_) (by unfold maxLen; omega) (by omega) hbase (fun v' w' h1 h2 h3 => ?_)
  · rw [Addr.add_lit, Nat.zero_add]
    unfold World.cell?
    rw [hB]
    simpa using hu
  · rw [List.mem_singleton] at hu; subst hu; rfl
  · exact h v' w' (by rw [List.map_append]; exact h1) h2 (h3.imp id (fun e => e.1))

abbrev two (a b : Value × List Nat) : Nat → Value × List Nat := fun i => if i = 0 then a else b

theorem row_low {w : World} {base base' e n : Nat} {v : Value} {xs : List Value} (h : w.ownsRow base e 1 v n xs) (hb : base' ≤ base) : w.ownsRow base' e 1 v n xs := by
  obtain ⟨h1, h2⟩ := h
  refine ⟨h1, ?_⟩
  rcases h2 with h2 | ⟨g, cap, cur, hv, hg, r⟩
  · exact Or.inl h2
  · exact Or.inr ⟨g, cap, cur, hv, Nat.le_trans hb hg, r⟩

theorem row_form {w : World} {base e n : Nat} {v : Value} {xs : List Value} (h : w.ownsRow base e 1 v n xs) : ∃ p c, v = .slice p n c := by
  rcases h.2 with ⟨e, e2⟩ | ⟨g, c, cur, e, _⟩
  · exact ⟨_, _, by rw [e, e2]⟩
  · exact ⟨_, _, e⟩

end Go.Proofs.Ytbhmhgkbobajfaa

/- Contract: Pick. -/
namespace Go.Proofs.Ytbhmhgkbobajfaa
open Go.RowKit

set_option maxHeartbeats 400000 in
theorem pick_any (c n : Int) (w : World) (h1 : -9223372036854775808 ≤ c) (h2 : c ≤ 9223372036854775807) (h3 : 0 < n) (h4 : n ≤ 9223372036854775807) :
    Calls Try.prog 10 #[.int .i64 c, .int .i64 n] w fun e w' => ∃ k : Int, 0 ≤ k ∧ k < n ∧ e = .returned (.int .i64 k) ∧ w = w' := by
  by_cases h : c < 0
  · go_enter Try.func10, Try.ntmps10
    go_wp2
    go_ret
    refine ⟨_, ?_, ?_, rfl, rfl⟩
    · rw [← Int.neg_tmod]; exact Int.tmod_nonneg _ (by omega)
    · rw [← Int.neg_tmod]; exact Int.tmod_lt_of_pos _ h3
  · go_enter Try.func10, Try.ntmps10
    go_wp2
    go_ret
    refine ⟨_, ?_, ?_, rfl, rfl⟩
    · exact Int.emod_nonneg _ (by omega)
    · exact Int.emod_lt_of_pos _ h3

/-- Which of n things a raw number speaks of. -/
def pk (c n : Int) : Int := (if c < 0 then -(c + 1) else c) % n

theorem pk_range (c : Int) {n : Int} (h : 0 < n) : 0 ≤ pk c n ∧ pk c n < n := ⟨Int.emod_nonneg _ (by omega), Int.emod_lt_of_pos _ h⟩

set_option maxHeartbeats 400000 in
theorem pick_det (c n : Int) (w : World) (h1 : -9223372036854775808 ≤ c) (h2 : c ≤ 9223372036854775807) (h3 : 0 < n) (h4 : n ≤ 9223372036854775807) :
    Calls Try.prog 10 #[.int .i64 c, .int .i64 n] w fun e w' => e = .returned (.int .i64 (pk c n)) ∧ w = w' := by
  by_cases h : c < 0
  · have HP : Hid (pk c n = (-(c + 1)) % n) := by show _ = _; unfold pk; rw [if_pos h]
    go_enter Try.func10, Try.ntmps10
    go_wp2
    go_ret
    refine ⟨ret_int ?_, rfl⟩
    rw [HP.out, ← Int.neg_tmod, Int.tmod_eq_emod_of_nonneg (by omega)]
  · have HP : Hid (pk c n = c % n) := by show _ = _; unfold pk; rw [if_neg h]
    go_enter Try.func10, Try.ntmps10
    go_wp2
    go_ret
    exact ⟨ret_int HP.out.symm, rfl⟩

end Go.Proofs.Ytbhmhgkbobajfaa

/- append of floats that lie anywhere. -/
namespace Go.Proofs.Ytbhmhgkbobajfaa
open Go.RowKit
set_option maxRecDepth 20000
set_option linter.unusedVariables false

theorem run_append_noneF {P : Program} (w : World) (t ty e : TypeId) (i : TypeInfo) (ht : P.underlying t = some (.slice e)) (hi : P.info? e = some i) (a : Addr) (n cap : Nat) (hn : n ≤ cap) (p : Option Addr) (c : Nat) :
    (Builtin.append_ #[t, t] ty #[.slice (some a) n cap, .slice p 0 c]).run P w = .ok (.slice (some a) n cap) w := by
  cases p <;> simp [Builtin.append_, run_underlying ht, sizeOf, typeInfo, hi, Builtin.lenOf, Builtin.firstCells, loadCells, loadCellsFrom, hn, storeCells]

theorem run_append_nil_noneF {P : Program} (w : World) (t ty e : TypeId) (i : TypeInfo) (ht : P.underlying t = some (.slice e)) (hi : P.info? e = some i) (p : Option Addr) (c : Nat) :
    (Builtin.append_ #[t, t] ty #[.slice none 0 0, .slice p 0 c]).run P w = .ok (.slice none 0 0) w := by
  cases p <;> simp [Builtin.append_, run_underlying ht, sizeOf, typeInfo, hi, Builtin.lenOf, Builtin.firstCells, loadCells, loadCellsFrom]

/-- 'append(a, b...)': a owned, b whatever lies there. -/
theorem wpList_appF {w : World} {ops : Array Oper} {rest : List Oper} {o : Oper} {a : Act} {Q : Exit → Act → World → Prop} (hgd : o.guard = none) (s x : Operand)
    (ho : o.op = .call { callee := .builtin .append, args := #[s, x], argTypes := #[22, 22] })
    (base : Nat) (v : Value) (F : List Nat) (hs : a.eval s = v) (hown : w.ownsRow base 23 1 v F.length (F.map (Value.float .f64)))
    (u : Value) (G : List Nat) (hx : a.eval x = u) (hsrc : Fls w u G) (hl : F.length + G.length ≤ 10000) (hbase : base ≤ w.heap.size)
    (h : ∀ v' w', w'.ownsRow base 23 1 v' (F.length + G.length) ((F ++ G).map (Value.float .f64)) → w.grownBy w' v.ownBlock → wpList Try.prog ops Q rest (a.put o.dst v') w') :
    wpList Try.prog ops Q (o :: rest) a w := by
  obtain ⟨i0, hi, hz0, hz1, hz2⟩ := info_parts Try.info23
  rcases hsrc with ⟨rfl, p, c, rfl⟩ | ⟨b, off, cap, rfl, h0, hc, hm, hb, hcell⟩
  · rw [List.length_nil, Nat.add_zero, List.append_nil] at h
    have hr : w.grownBy w v.ownBlock := ⟨rfl, rfl, rfl, Nat.le_refl _, fun _ _ _ => rfl⟩
    rcases hown.2 with ⟨rfl, h2⟩ | ⟨g2, cap2, cur2, rfl, _, _, hnc2, _⟩
    · refine wpList_plain hgd fun K hK => ?_
      have hrun := run_append_nil_noneF (P := Try.prog) w 22 o.type 23 i0 Try.underlying22 hi p c
      unfold Oper.wp execOp
      simp only [ho, resolve, invoke, builtin, Sem.run_bind, Sem.run_pure, Result.andThen_ok, List.map_toArray, List.map_cons, List.map_nil, hs, hx, hrun]
      exact hK _ _ (h _ _ hown hr)
    · refine wpList_plain hgd fun K hK => ?_
      have hrun := run_append_noneF (P := Try.prog) w 22 o.type 23 i0 Try.underlying22 hi ⟨g2, 0, none⟩ F.length cap2 hnc2 p c
      unfold Oper.wp execOp
      simp only [ho, resolve, invoke, builtin, Sem.run_bind, Sem.run_pure, Result.andThen_ok, List.map_toArray, List.map_cons, List.map_nil, hs, hx, hrun]
      exact hK _ _ (h _ _ hown hr)
  · refine wpList_append_keep w hgd s x 22 ho base 23 i0 (.float .f64 0) 1 8 Try.underlying22 hi hz0 hz1 hz2 rfl (by decide) v F.length _ hs hown ⟨b, off, none⟩ G.length cap (G.map (Value.float .f64)) hx (by simp) (fun j u hu => ?_) (fun u hu => ?_) (by unfold maxLen; omega) (by omega) hbase (fun v' w' h1 h2 h3 => ?_)
    · rw [Addr.add_lit]
      have hj : j < G.length := by have := (List.getElem?_eq_some_iff.1 hu).1; simpa using this
      rw [hcell j hj]
      rw [← hu]
      simp [List.getD, hj]
    · rw [List.mem_map] at hu
      obtain ⟨y, _, rfl⟩ := hu
      rfl
    · exact h v' w' (by rw [List.map_append]; exact h1) h2

theorem Fls.take {w : World} {p : Option Addr} {m c k : Nat} {F : List Nat} (h : Fls w (.slice p m c) F) (hk : k ≤ F.length) : Fls w (.slice p k c) (F.take k) := by
  rcases h with ⟨rfl, p', c', e⟩ | ⟨b, off, cap, e, h0, h1, h2, h3, hc⟩
  · simp at hk
    subst hk
    exact Or.inl ⟨rfl, _, _, rfl⟩
  · injection e with e1 e2 e3
    subst e1; subst e3
    have hl : (F.take k).length = k := by rw [List.length_take]; omega
    rcases Nat.eq_zero_or_pos k with h9 | h9
    · subst h9; exact Or.inl ⟨rfl, _, _, rfl⟩
    · refine Or.inr ⟨b, off, c, by rw [hl], by omega, by omega, h2, h3, fun j hj => ?_⟩
      rw [hl] at hj
      rw [hc j (by omega)]
      simp [List.getD, hj]

theorem Fls.drop {w : World} {b off m c k : Nat} {F : List Nat} (h : Fls w (.slice (some ⟨b, off, none⟩) m c) F) (hk : k < F.length) (hm : F.length = m) : Fls w (.slice (some ⟨b, off + k, none⟩) (m - k) (c - k)) (F.drop k) := by
  rcases h with ⟨rfl, p', c', e⟩ | ⟨b', off', cap, e, h0, h1, h2, h3, hc⟩
  · simp at hk
  · injection e with e1 e2 e3
    injection e1 with e1
    injection e1 with e4 e5 _
    subst e4; subst e5; subst e3
    have hl : (F.drop k).length = m - k := by rw [List.length_drop]; omega
    refine Or.inr ⟨b, off + k, c - k, by rw [hl], by omega, by omega, by omega, h3, fun j hj => ?_⟩
    rw [hl] at hj
    rw [show off + k + j = off + (k + j) from by omega, hc (k + j) (by omega)]
    simp [List.getD]

theorem Fls.capK {w : World} {p : Option Addr} {m c k : Nat} {F : List Nat} (h : Fls w (.slice p m c) F) (hk : k ≤ F.length) : k ≤ c ∧ m = F.length := by
  rcases h with ⟨rfl, p', c', e⟩ | ⟨b, off, cap, e, h0, h1, h2, h3, hc⟩
  · injection e with _ e2 e3
    simp at hk
    subst hk
    exact ⟨Nat.zero_le _, e2⟩
  · injection e with e1 e2 e3
    subst e3
    exact ⟨by omega, e2⟩

/-- 'x[:k]' of floats. -/
theorem wpList_headF {w : World} {ops : Array Oper} {rest : List Oper} {o : Oper} {a : Act} {Q : Exit → Act → World → Prop} (hgd : o.guard = none) (x y : Operand)
    (ho : o.op = .slice 22 x none (some y) none) (p : Option Addr) (m c k : Nat) (F : List Nat) (hx : a.eval x = .slice p m c) (hy : a.eval y = .int .i64 (k : Int)) (hF : Fls w (.slice p m c) F) (hk : k ≤ F.length)
    (h : ∀ u, Fls w u (F.take k) → wpList Try.prog ops Q rest (a.put o.dst u) w) : wpList Try.prog ops Q (o :: rest) a w := by
  obtain ⟨i0, hi, hz0, hz1, hz2⟩ := info_parts Try.info23
  obtain ⟨hc, hm⟩ := hF.capK hk
  have hrun : (Instr.sliceAt 22 (.slice p m c) none (some (.int .i64 (k : Int))) none).run Try.prog w = .ok (.slice (if c = 0 then p else p.map (·.add (0 * 1))) (k - 0) (c - 0)) w := by
    simp [Instr.sliceAt, Instr.slice, run_underlying Try.underlying22, Instr.sliceBounds, Instr.sliceBound, asIntOf, sizeOf, typeInfo, hi, hc]
  refine wpList_plain hgd fun K hK => ?_
  unfold Oper.wp execOp
  simp only [ho, hx, hy, hrun, Option.map_some, Option.map_none, Sem.run_bind, Sem.run_pure, Result.andThen_ok]
  refine hK _ _ (h _ ?_)
  have h9 := hF.take hk
  rw [Nat.sub_zero, Nat.sub_zero]
  by_cases e : c = 0
  · rw [if_pos e]; exact h9
  · rw [if_neg e]
    have : p.map (fun x => x.add (0 * 1)) = p := by
      cases p with
      | none => rfl
      | some q => simp [Addr.add]
    rw [this]
    exact h9

/-- 'x[k:]' of floats. -/
theorem wpList_tailF {w : World} {ops : Array Oper} {rest : List Oper} {o : Oper} {a : Act} {Q : Exit → Act → World → Prop} (hgd : o.guard = none) (x y : Operand)
    (ho : o.op = .slice 22 x (some y) none none) (p : Option Addr) (m c k : Nat) (F : List Nat) (hx : a.eval x = .slice p m c) (hy : a.eval y = .int .i64 (k : Int)) (hF : Fls w (.slice p m c) F) (hk : k ≤ F.length)
    (h : ∀ u, Fls w u (F.drop k) → wpList Try.prog ops Q rest (a.put o.dst u) w) : wpList Try.prog ops Q (o :: rest) a w := by
  obtain ⟨i0, hi, hz0, hz1, hz2⟩ := info_parts Try.info23
  obtain ⟨hc, hm⟩ := hF.capK hk
  have hkm : k ≤ m := by omega
  have hrun : (Instr.sliceAt 22 (.slice p m c) (some (.int .i64 (k : Int))) none none).run Try.prog w = .ok (.slice (if c = k then p else p.map (·.add (k * 1))) (m - k) (c - k)) w := by
    simp [Instr.sliceAt, Instr.slice, run_underlying Try.underlying22, Instr.sliceBounds, Instr.sliceBound, asIntOf, sizeOf, typeInfo, hi, hz1, hkm]
  refine wpList_plain hgd fun K hK => ?_
  unfold Oper.wp execOp
  simp only [ho, hx, hy, hrun, Option.map_some, Option.map_none, Sem.run_bind, Sem.run_pure, Result.andThen_ok]
  refine hK _ _ (h _ ?_)
  rcases Nat.lt_or_ge k F.length with h1 | h1
  · rcases hF with ⟨rfl, _⟩ | ⟨b, off, cap, e, h0, h2, h3, h4, h5⟩
    · simp at h1
    · have hF2 : Fls w (.slice p m c) F := Or.inr ⟨b, off, cap, e, h0, h2, h3, h4, h5⟩
      injection e with e1 e2 e3
      subst e1
      have h9 := hF2.drop h1 hm.symm
      rw [if_neg (by omega)]
      simp only [Option.map_some, Nat.mul_one]
      rw [Addr.add_lit]
      exact h9
  · have hd : F.drop k = [] := List.drop_of_length_le h1
    rw [hd, show m - k = 0 from by omega]
    exact Or.inl ⟨rfl, _, _, rfl⟩

/-- .. with the length as the list tells it. -/
theorem wpList_appG {w : World} {ops : Array Oper} {rest : List Oper} {o : Oper} {a : Act} {Q : Exit → Act → World → Prop} (hgd : o.guard = none) (s x : Operand)
    (ho : o.op = .call { callee := .builtin .append, args := #[s, x], argTypes := #[22, 22] })
    (base : Nat) (v : Value) (F : List Nat) (hs : a.eval s = v) (hown : w.ownsRow base 23 1 v F.length (F.map (Value.float .f64)))
    (u : Value) (G : List Nat) (hx : a.eval x = u) (hsrc : Fls w u G) (hl : F.length + G.length ≤ 10000) (hbase : base ≤ w.heap.size)
    (h : ∀ v' w', w'.ownsRow base 23 1 v' (F ++ G).length ((F ++ G).map (Value.float .f64)) → w.grownBy w' v.ownBlock → wpList Try.prog ops Q rest (a.put o.dst v') w') :
    wpList Try.prog ops Q (o :: rest) a w :=
  wpList_appF hgd s x ho base v F hs hown u G hx hsrc hl hbase (fun v' w' h1 h2 => h v' w' (by rw [List.length_append]; exact h1) h2)

theorem wpList_pushG {w : World} {ops : Array Oper} {rest : List Oper} {o : Oper} {a : Act} {Q : Exit → Act → World → Prop} (hgd : o.guard = none) (s x : Operand)
    (ho : o.op = .call { callee := .builtin .append, args := #[s, x], argTypes := #[22, 22] })
    (base : Nat) (v : Value) (F : List Nat) (hs : a.eval s = v) (hown : w.ownsRow base 23 1 v F.length (F.map (Value.float .f64)))
    (B y : Nat) (hx : a.eval x = .slice (some ⟨B, 0, none⟩) 1 1) (hB : w.heap[B]? = some (.cells #[.float .f64 y] 23)) (hl : F.length ≤ 10000) (hbase : base ≤ w.heap.size)
    (h : ∀ v' w', w'.ownsRow base 23 1 v' (F ++ [y]).length ((F ++ [y]).map (Value.float .f64)) → w.grownBy w' v.ownBlock → wpList Try.prog ops Q rest (a.put o.dst v') w') :
    wpList Try.prog ops Q (o :: rest) a w :=
  wpList_push hgd s x ho base v F hs hown B y hx hB hl hbase (fun v' w' h1 h2 _ => h v' w' (by rw [List.length_append, List.length_singleton]; exact h1) h2)

/-- What lies below a base stays where an owned row grows. -/
theorem Below.row {B : Nat} {w W W' : World} {e n : Nat} {v : Value} {xs : List Value} (h : Below B w W) (ho : W.ownsRow B e 1 v n xs) (hg : W.grownBy W' v.ownBlock) (hB : B ≤ W.heap.size) : Below B w W' :=
  h.grown hg hB (fun k hk => (ho.lt k hk).1)

/-- An empty slice of floats, fresh. -/
theorem emptyF (w : World) (base : Nat) (hb : base ≤ w.heap.size) : (w.alloc (.cells #[] 23)).ownsRow base 23 1 (.slice (some ⟨w.heap.size, 0, none⟩) 0 0) ([] : List Nat).length (([] : List Nat).map (Value.float .f64)) := by
  refine ⟨rfl, Or.inr ⟨w.heap.size, 0, #[], rfl, hb, ?_, Nat.le_refl _, by unfold maxLen; omega, rfl, rfl⟩⟩
  exact alloc_at w _

end Go.Proofs.Ytbhmhgkbobajfaa
