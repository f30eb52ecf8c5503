/- Joined: Fl, FlB, Num, Sl, Same, Check, FlC, Blw. -/
import Derived.Laws.FloatArith
import Derived.Test.YtbhmhgkbobajfaaRows
import Derived.WalkKit
import Derived.WalkSpells
import Derived.WalkLawsBesides
import Derived.Deep.LoopGhost
import Derived.Laws.Externs
import Derived.BigQuiet
/- Floats, plain: a finite float64 as a whole number of units of 2^-1074; what sums, differences, products and quotients come to: bounds, and where they are exact. -/
namespace Go.Proofs.Ytbhmhgkbobajfaa

abbrev DF : Ieee.Format := Ieee.double

theorem cut_gap (neg : Bool) (n drop : Nat) : Ieee.Toward.even.cut neg n drop = n / 2 ^ min drop (n.log2 + 2) + (decide (2 ^ min drop (n.log2 + 2) < 2 * (n % 2 ^ min drop (n.log2 + 2))) || (2 ^ min drop (n.log2 + 2) == 2 * (n % 2 ^ min drop (n.log2 + 2)) && n / 2 ^ min drop (n.log2 + 2) % 2 == 1)).toNat := by
  unfold Ieee.Toward.cut
  simp only [Nat.one_shiftLeft]

/-- Where more digits are dropped than there are, nothing stays. -/
theorem cut_far (neg : Bool) (n drop : Nat) (h : n.log2 + 2 ≤ drop) : Ieee.Toward.even.cut neg n drop = 0 := by
  rw [cut_gap, Nat.min_eq_right h]
  have h1 : n < 2 ^ (n.log2 + 1) := Nat.lt_log2_self
  have h2 : 2 ^ (n.log2 + 2) = 2 * 2 ^ (n.log2 + 1) := by rw [Nat.pow_succ, Nat.mul_comm]
  have h3 : n < 2 ^ (n.log2 + 2) := by omega
  rw [Nat.div_eq_of_lt h3, Nat.mod_eq_of_lt h3]
  simp only [show ¬ (2 ^ (n.log2 + 2) < 2 * n) from by omega, decide_false, Bool.false_or, Nat.zero_add]
  simp

theorem cut_le (neg : Bool) (n drop K : Nat) (h : n ≤ K * 2 ^ drop) : Ieee.Toward.even.cut neg n drop ≤ K := by
  rcases Nat.le_total (n.log2 + 2) drop with h1 | h1
  · rw [cut_far neg n drop h1]; omega
  · rw [cut_gap, Nat.min_eq_left h1]
    generalize 2 ^ drop = g at *
    rcases Nat.eq_zero_or_pos g with h0 | h0
    · subst h0; simp at h; subst h; simp
    · have hd := Nat.div_add_mod n g
      have hm := Nat.mod_lt n h0
      have hq : n / g ≤ K := by
        rw [Nat.div_le_iff_le_mul_add_pred h0]; rw [Nat.mul_comm] at h; omega
      rcases Nat.lt_or_ge (n / g) K with h2 | h2
      · have : (decide (g < 2 * (n % g)) || (g == 2 * (n % g) && n / g % 2 == 1)).toNat ≤ 1 := Bool.toNat_le _
        omega
      · have e : n / g = K := by omega
        rw [e] at hd ⊢
        have e2 : n % g = 0 := by rw [Nat.mul_comm] at hd; omega
        rw [e2]
        have h3 : (g == 2 * 0) = false := by simp; omega
        simp [h3]

theorem le_cut (neg : Bool) (n drop K : Nat) (h : K * 2 ^ drop ≤ n) : K ≤ Ieee.Toward.even.cut neg n drop := by
  rcases Nat.lt_or_ge drop (n.log2 + 2) with h1 | h1
  · rw [cut_gap, Nat.min_eq_left (by omega)]
    have : K ≤ n / 2 ^ drop := by rw [Nat.le_div_iff_mul_le (Nat.two_pow_pos _)]; exact h
    omega
  · have h2 : n < 2 ^ (n.log2 + 1) := Nat.lt_log2_self
    have h3 : 2 ^ (n.log2 + 1) ≤ 2 ^ drop := Nat.pow_le_pow_right (by decide) (by omega)
    rcases Nat.eq_zero_or_pos K with rfl | h4
    · omega
    · have : 1 * 2 ^ drop ≤ K * 2 ^ drop := Nat.mul_le_mul_right _ h4
      omega

/-- x is a finite float, of so many units of 2^-1074. -/
def FV (x : Nat) (v : Int) : Prop := ∃ s m I, x < 18446744073709551616 ∧ DF.read x = .number s m ((I : Nat) - 1074) ∧ m < 9007199254740992 ∧ v = Ieee.signed s m I

theorem signed_eq (s : Bool) (m I : Nat) : Ieee.signed s m I = if s then -((m * 2 ^ I : Nat) : Int) else ((m * 2 ^ I : Nat) : Int) := by
  unfold Ieee.signed
  rw [Nat.shiftLeft_eq]

theorem read_word (neg : Bool) (r : Nat) (h : r < 9218868437227405312) : DF.read (DF.word neg r) = if r < 4503599627370496 then .number neg r (-1074) else .number neg (4503599627370496 + r % 4503599627370496) (-1074 + (r / 4503599627370496 - 1 : Nat)) := by
  have h1 : DF.signWeight = 9223372036854775808 := by decide
  have h2 : DF.binade = 4503599627370496 := by decide
  have h3 : DF.infRung = 9218868437227405312 := by decide
  have h4 : DF.leastPlace = -1074 := by decide
  have h5 : DF.word neg r / 9223372036854775808 % 2 = neg.toNat ∧ DF.word neg r % 9223372036854775808 = r := by
    unfold Ieee.Format.word
    rw [h1]
    cases neg
    · simp only [Bool.false_eq_true, if_false, Bool.toNat_false]; omega
    · simp only [if_true, Bool.toNat_true]; omega
  unfold Ieee.Format.read
  simp only [h1, h2, h3, h4, h5.1, h5.2]
  have h6 : (neg.toNat == 1) = neg := by cases neg <;> rfl
  rw [h6, if_pos h]

/-- A word of sign, binade and significand. -/
theorem FV_word (neg : Bool) (L kept : Nat) (h1 : kept ≤ 9007199254740992) (h2 : 0 < L → 4503599627370496 ≤ kept) (h3 : L ≤ 2040) : FV (DF.word neg (L * 4503599627370496 + kept)) (if neg then -((kept * 2 ^ L : Nat) : Int) else ((kept * 2 ^ L : Nat) : Int)) := by
  have hr := read_word neg (L * 4503599627370496 + kept) (by omega)
  have hlt : DF.word neg (L * 4503599627370496 + kept) < 18446744073709551616 := DF.word_lt neg (by rw [show DF.signWeight = 9223372036854775808 from by decide]; omega)
  by_cases h4 : L * 4503599627370496 + kept < 4503599627370496
  · rw [if_pos h4] at hr
    have hL : L = 0 := by
      rcases Nat.eq_zero_or_pos L with h | h
      · exact h
      · have := h2 h; omega
    subst hL
    refine ⟨neg, 0 * 4503599627370496 + kept, 0, hlt, by rw [hr]; rfl, by omega, ?_⟩
    rw [signed_eq]; simp
  · rw [if_neg h4] at hr
    by_cases h5 : kept = 9007199254740992
    · subst h5
      refine ⟨neg, 4503599627370496, L + 1, hlt, ?_, by omega, ?_⟩
      · rw [hr]
        have e1 : (L * 4503599627370496 + 9007199254740992) % 4503599627370496 = 0 := by omega
        have e2 : (L * 4503599627370496 + 9007199254740992) / 4503599627370496 - 1 = L + 1 := by omega
        rw [e1, e2]
        first | (congr 1; omega) | congr 1
      · rw [signed_eq]
        have e : 9007199254740992 * 2 ^ L = 4503599627370496 * 2 ^ (L + 1) := by rw [Nat.pow_succ]; omega
        rw [e]
    · have h6 : 4503599627370496 ≤ kept := by
        rcases Nat.eq_zero_or_pos L with h | h
        · subst h; omega
        · exact h2 h
      refine ⟨neg, kept, L, hlt, ?_, by omega, ?_⟩
      · rw [hr]
        have e1 : 4503599627370496 + (L * 4503599627370496 + kept) % 4503599627370496 = kept := by omega
        have e2 : (L * 4503599627370496 + kept) / 4503599627370496 - 1 = L := by omega
        rw [e1, e2]
        first | (congr 1; omega) | congr 1
      · rw [signed_eq]

theorem FV_zero_word (neg : Bool) : FV (DF.word neg 0) 0 := by
  have := FV_word neg 0 0 (by omega) (by omega) (by omega)
  simpa using this

/-- What is written of 'mag * 2 ^ (P - 1074 - e)': sign, binade L, significand; kept is the nearest. -/
theorem nearest_parts (neg : Bool) (mag P e : Nat) (h0 : 0 < mag) : ∃ L kept, DF.nearest neg mag ((P : Int) - 1074 - (e : Nat)) = DF.word neg (min (L * 4503599627370496 + kept) 9218868437227405312) ∧
    kept ≤ 9007199254740992 ∧ (0 < L → 4503599627370496 ≤ kept) ∧ (0 < L → 4503599627370496 * 2 ^ (L + e) ≤ mag * 2 ^ P) ∧
    (∀ K, mag * 2 ^ P ≤ K * 2 ^ (L + e) → kept ≤ K) ∧ (∀ K, K * 2 ^ (L + e) ≤ mag * 2 ^ P → K ≤ kept) := by
  have hb : DF.binade = 4503599627370496 := by decide
  have hi : DF.infRung = 9218868437227405312 := by decide
  have hl : DF.leastPlace = -1074 := by decide
  have hf : (DF.fractionBits : Int) = 52 := by decide
  have hlo : 2 ^ mag.log2 ≤ mag := Nat.log2_self_le (by omega)
  have hhi : mag < 2 ^ (mag.log2 + 1) := Nat.lt_log2_self
  generalize hg : mag.log2 = G at *
  generalize hL : P + G - (52 + e) = L
  have hlast : max (((P : Int) - 1074 - (e : Nat)) + (G : Nat) - 52) (-1074) = (L : Int) - 1074 := by omega
  have e1 : (((P : Int) - 1074 - (e : Nat)) - ((L : Int) - 1074)).toNat = P - (e + L) := by omega
  have e2 : (((L : Int) - 1074) - ((P : Int) - 1074 - (e : Nat))).toNat = (L + e) - P := by omega
  have e3 : (((L : Int) - 1074) - (-1074)).toNat = L := by omega
  have up : ∀ K, mag * 2 ^ P ≤ K * 2 ^ (L + e) → mag * 2 ^ (P - (e + L)) ≤ K * 2 ^ ((L + e) - P) := fun K hK => by
    rcases Nat.le_total (L + e) P with h | h
    · have : mag * 2 ^ P = mag * 2 ^ (P - (e + L)) * 2 ^ (L + e) := by rw [Nat.mul_assoc, ← Nat.pow_add]; congr 2; omega
      rw [this] at hK
      have := Nat.le_of_mul_le_mul_right hK (Nat.two_pow_pos _)
      rw [show (L + e) - P = 0 from by omega]
      simpa using this
    · have : K * 2 ^ (L + e) = K * 2 ^ ((L + e) - P) * 2 ^ P := by rw [Nat.mul_assoc, ← Nat.pow_add]; congr 2; omega
      rw [this] at hK
      have := Nat.le_of_mul_le_mul_right hK (Nat.two_pow_pos _)
      rw [show P - (e + L) = 0 from by omega]
      simpa using this
  have dn : ∀ K, K * 2 ^ (L + e) ≤ mag * 2 ^ P → K * 2 ^ ((L + e) - P) ≤ mag * 2 ^ (P - (e + L)) := fun K hK => by
    rcases Nat.le_total (L + e) P with h | h
    · have : mag * 2 ^ P = mag * 2 ^ (P - (e + L)) * 2 ^ (L + e) := by rw [Nat.mul_assoc, ← Nat.pow_add]; congr 2; omega
      rw [this] at hK
      have := Nat.le_of_mul_le_mul_right hK (Nat.two_pow_pos _)
      rw [show (L + e) - P = 0 from by omega]
      simpa using this
    · have : K * 2 ^ (L + e) = K * 2 ^ ((L + e) - P) * 2 ^ P := by rw [Nat.mul_assoc, ← Nat.pow_add]; congr 2; omega
      rw [this] at hK
      have := Nat.le_of_mul_le_mul_right hK (Nat.two_pow_pos _)
      rw [show P - (e + L) = 0 from by omega]
      simpa using this
  have hlow : 0 < L → 4503599627370496 * 2 ^ (L + e) ≤ mag * 2 ^ P := fun h => by
    have h1 : 4503599627370496 * 2 ^ (L + e) = 2 ^ G * 2 ^ P := by
      rw [show (4503599627370496 : Nat) = 2 ^ 52 from by decide, ← Nat.pow_add, ← Nat.pow_add]; congr 1; omega
    rw [h1]
    exact Nat.mul_le_mul_right _ hlo
  have hhigh : mag * 2 ^ P ≤ 9007199254740992 * 2 ^ (L + e) := by
    refine Nat.le_trans (Nat.mul_le_mul_right _ (Nat.le_of_lt hhi)) ?_
    rw [show (9007199254740992 : Nat) = 2 ^ 53 from by decide, ← Nat.pow_add, ← Nat.pow_add]
    exact Nat.pow_le_pow_right (by decide) (by omega)
  refine ⟨L, Ieee.Toward.even.cut neg (mag * 2 ^ (P - (e + L))) ((L + e) - P), ?_, cut_le _ _ _ _ (up _ hhigh), fun h => le_cut _ _ _ _ (dn _ (hlow h)), hlow, fun K hK => cut_le _ _ _ _ (up K hK), fun K hK => le_cut _ _ _ _ (dn K hK)⟩
  unfold Ieee.Format.nearest
  rw [if_neg (by omega)]
  simp only [hb, hi, hl, hf, hg, hlast, e1, e2, e3, Nat.shiftLeft_eq]

/-- A bound that a float can be: at most 53 digits, not too great. -/
def Rp (B : Nat) : Prop := ∃ M q, B = M * 2 ^ q ∧ M ≤ 9007199254740992 ∧ q ≤ 1990

theorem nearest_K {L e M q mP : Nat} (hM : M ≤ 9007199254740992) (hlow : 0 < L → 4503599627370496 * 2 ^ (L + e) ≤ mP) (h : mP ≤ M * 2 ^ q * 2 ^ e) : ∃ K, K * 2 ^ L = M * 2 ^ q ∧ (0 < L → L ≤ q + 1) := by
  have hLq : 0 < L → L ≤ q + 1 := fun h1 => by
    have h2 := Nat.le_trans (hlow h1) h
    have h3 : M * 2 ^ q * 2 ^ e ≤ 2 ^ 53 * 2 ^ q * 2 ^ e := Nat.mul_le_mul_right _ (Nat.mul_le_mul_right _ (by rw [show (2 : Nat) ^ 53 = 9007199254740992 from by decide]; exact hM))
    have h4 := Nat.le_trans h2 h3
    rw [show (4503599627370496 : Nat) = 2 ^ 52 from by decide, ← Nat.pow_add, ← Nat.pow_add, ← Nat.pow_add] at h4
    have h5 := (Nat.pow_le_pow_iff_right (by decide : 1 < 2)).1 h4
    omega
  rcases Nat.lt_or_ge q L with h1 | h1
  · have h2 := hLq (by omega)
    have h3 := Nat.le_trans (hlow (by omega)) h
    have h4 : L = q + 1 := by omega
    subst h4
    have h5 : 4503599627370496 * 2 ^ (q + 1 + e) = 9007199254740992 * 2 ^ q * 2 ^ e := by rw [Nat.pow_add, Nat.pow_succ, ← Nat.mul_assoc]; congr 1; omega
    rw [h5] at h3
    have h6 := Nat.le_of_mul_le_mul_right (Nat.le_of_mul_le_mul_right h3 (Nat.two_pow_pos _)) (Nat.two_pow_pos _)
    have h7 : M = 9007199254740992 := by omega
    exact ⟨4503599627370496, by rw [h7, Nat.pow_succ]; omega, hLq⟩
  · refine ⟨M * 2 ^ (q - L), ?_, hLq⟩
    rw [Nat.mul_assoc, ← Nat.pow_add]
    congr 2
    omega

/-- What is at most a float is at most that float when it is written. -/
theorem nearest_le (neg : Bool) (mag P e B : Nat) (hB : Rp B) (h : mag * 2 ^ P ≤ B * 2 ^ e) : ∃ v, FV (DF.nearest neg mag ((P : Int) - 1074 - (e : Nat))) v ∧ v.natAbs ≤ B ∧ (neg = true → v ≤ 0) ∧ (neg = false → 0 ≤ v) := by
  rcases Nat.eq_zero_or_pos mag with h0 | h0
  · subst h0
    refine ⟨0, ?_, by simp, by simp, by simp⟩
    unfold Ieee.Format.nearest
    rw [if_pos rfl]
    exact FV_zero_word neg
  · obtain ⟨L, kept, hn, h1, h2, h3, h4, h5⟩ := nearest_parts neg mag P e h0
    obtain ⟨M, q, rfl, hM, hq⟩ := hB
    obtain ⟨K, hK, hL⟩ := nearest_K hM h3 h
    have hL2 : L ≤ 1991 := by
      rcases Nat.eq_zero_or_pos L with hz | hz
      · omega
      · have := hL hz; omega
    have hkept : kept ≤ K := h4 K (by rw [Nat.pow_add, ← Nat.mul_assoc, hK]; exact h)
    rw [hn, Nat.min_eq_left (by omega)]
    refine ⟨_, FV_word neg L kept h1 h2 (by omega), ?_, ?_, ?_⟩
    · rw [← hK]
      have := Nat.mul_le_mul_right (2 ^ L) hkept
      split <;> omega
    · intro hh; rw [if_pos hh]; omega
    · intro hh; rw [hh, if_neg (by simp)]; omega

/-- A float is written as it is. -/
theorem nearest_eq (neg : Bool) (mag P e B : Nat) (hB : Rp B) (h : mag * 2 ^ P = B * 2 ^ e) : FV (DF.nearest neg mag ((P : Int) - 1074 - (e : Nat))) (if neg then -(B : Int) else (B : Int)) := by
  rcases Nat.eq_zero_or_pos mag with h0 | h0
  · subst h0
    have hB0 : B = 0 := by
      rw [Nat.zero_mul] at h
      rcases Nat.mul_eq_zero.1 h.symm with h | h
      · exact h
      · have := Nat.two_pow_pos e; omega
    subst hB0
    unfold Ieee.Format.nearest
    rw [if_pos rfl]
    simpa using FV_zero_word neg
  · obtain ⟨L, kept, hn, h1, h2, h3, h4, h5⟩ := nearest_parts neg mag P e h0
    obtain ⟨M, q, rfl, hM, hq⟩ := hB
    obtain ⟨K, hK, hL⟩ := nearest_K hM h3 (Nat.le_of_eq h)
    have hL2 : L ≤ 1991 := by
      rcases Nat.eq_zero_or_pos L with hz | hz
      · omega
      · have := hL hz; omega
    have he : mag * 2 ^ P = K * 2 ^ (L + e) := by rw [Nat.pow_add, ← Nat.mul_assoc, hK]; exact h
    have hkept : kept = K := Nat.le_antisymm (h4 K (Nat.le_of_eq he)) (h5 K (Nat.le_of_eq he.symm))
    rw [hn, Nat.min_eq_left (by omega), ← hK, ← hkept]
    exact FV_word neg L kept h1 h2 (by omega)

end Go.Proofs.Ytbhmhgkbobajfaa

/- Floats, plain: the operations. -/
namespace Go.Proofs.Ytbhmhgkbobajfaa

/-- The places behind the point. (A name of its own: powers to it are never worked out.) -/
def XP : Nat := 1074

theorem XP_eq : XP = 1074 := rfl

/-- So many units are one. -/
def UU : Nat := 2 ^ XP

theorem UU_pos : 0 < UU := Nat.two_pow_pos _

theorem FV.unique {x : Nat} {a b : Int} (h1 : FV x a) (h2 : FV x b) : a = b := by
  obtain ⟨s, m, I, _, e1, _, rfl⟩ := h1
  obtain ⟨t, n, J, _, e2, _, rfl⟩ := h2
  rw [e1] at e2
  injection e2 with p q r
  subst p; subst q
  have : I = J := by omega
  rw [this]

theorem FV.lt {x : Nat} {a : Int} (h : FV x a) : x < 18446744073709551616 := by
  obtain ⟨_, _, _, h, _⟩ := h
  exact h

theorem signed_natAbs (s : Bool) (m I : Nat) : (Ieee.signed s m I).natAbs = m * 2 ^ I := by
  rw [signed_eq]; split <;> omega

/-- The exact sum, in the units of its lesser place. -/
theorem sum_scaled (s t : Bool) (m n I J : Nat) : (Ieee.signed s m (I - min I J) + Ieee.signed t n (J - min I J)) * ((2 ^ min I J : Nat) : Int) = Ieee.signed s m I + Ieee.signed t n J := by
  have e1 : m * 2 ^ I = m * 2 ^ (I - min I J) * 2 ^ min I J := by rw [Nat.mul_assoc, ← Nat.pow_add]; congr 2; omega
  have e2 : n * 2 ^ J = n * 2 ^ (J - min I J) * 2 ^ min I J := by rw [Nat.mul_assoc, ← Nat.pow_add]; congr 2; omega
  rw [signed_eq, signed_eq, signed_eq, signed_eq, e1, e2, Int.add_mul]
  congr 1
  · split
    · rw [Int.neg_mul, Int.natCast_mul (m * _)]
    · rw [Int.natCast_mul (m * _)]
  · split
    · rw [Int.neg_mul, Int.natCast_mul (n * _)]
    · rw [Int.natCast_mul (n * _)]

theorem sum_read (s t : Bool) (m n I J : Nat) : Ieee.Datum.sum (.number s m ((I : Int) - 1074)) (.number t n ((J : Int) - 1074)) =
    some (.number (if Ieee.signed s m (I - min I J) + Ieee.signed t n (J - min I J) = 0 then s && t else decide (Ieee.signed s m (I - min I J) + Ieee.signed t n (J - min I J) < 0)) (Ieee.signed s m (I - min I J) + Ieee.signed t n (J - min I J)).natAbs (((min I J : Nat) : Int) - 1074 - (0 : Nat))) := by
  simp only [Ieee.Datum.sum]
  have e0 : min ((I : Int) - 1074) ((J : Int) - 1074) = ((min I J : Nat) : Int) - 1074 - (0 : Nat) := by omega
  have e1 : ((I : Int) - 1074 - (((min I J : Nat) : Int) - 1074 - (0 : Nat))).toNat = I - min I J := by omega
  have e2 : ((J : Int) - 1074 - (((min I J : Nat) : Int) - 1074 - (0 : Nat))).toNat = J - min I J := by omega
  rw [e0, e1, e2]

theorem sum_le (s t : Bool) (m n I J C : Nat) (hC : Rp C) (h : (Ieee.signed s m I + Ieee.signed t n J).natAbs ≤ C) :
    ∃ r v, (Ieee.Datum.sum (.number s m ((I : Int) - 1074)) (.number t n ((J : Int) - 1074))).map DF.write = some r ∧ FV r v ∧ v.natAbs ≤ C := by
  rw [sum_read]
  have hs := sum_scaled s t m n I J
  generalize hT : Ieee.signed s m (I - min I J) + Ieee.signed t n (J - min I J) = T at *
  obtain ⟨v, h1, h2, _⟩ := nearest_le (if T = 0 then s && t else decide (T < 0)) T.natAbs (min I J) 0 C hC (by
    have := congrArg Int.natAbs hs
    rw [Int.natAbs_mul, Int.natAbs_natCast] at this
    rw [this, Nat.pow_zero, Nat.mul_one]
    exact h)
  exact ⟨_, v, rfl, h1, h2⟩

theorem sum_eq (s t : Bool) (m n I J : Nat) (hC : Rp (Ieee.signed s m I + Ieee.signed t n J).natAbs) :
    ∃ r, (Ieee.Datum.sum (.number s m ((I : Int) - 1074)) (.number t n ((J : Int) - 1074))).map DF.write = some r ∧ FV r (Ieee.signed s m I + Ieee.signed t n J) := by
  rw [sum_read]
  have hs := sum_scaled s t m n I J
  generalize hT : Ieee.signed s m (I - min I J) + Ieee.signed t n (J - min I J) = T at *
  have hp : (0 : Int) < ((2 ^ min I J : Nat) : Int) := by have := Nat.two_pow_pos (min I J); omega
  generalize hV : Ieee.signed s m I + Ieee.signed t n J = V at *
  have h1 := nearest_eq (if T = 0 then s && t else decide (T < 0)) T.natAbs (min I J) 0 V.natAbs hC (by
    have := congrArg Int.natAbs hs
    rw [Int.natAbs_mul, Int.natAbs_natCast] at this
    rw [this, Nat.pow_zero, Nat.mul_one])
  refine ⟨_, rfl, ?_⟩
  have e : (if (if T = 0 then s && t else decide (T < 0)) = true then -(V.natAbs : Int) else (V.natAbs : Int)) = V := by
    by_cases h0 : T = 0
    · subst h0
      have : V = 0 := by rw [← hs]; simp
      subst this
      simp
    · rw [if_neg h0]
      by_cases h2 : T < 0
      · have : V < 0 := by rw [← hs]; exact Int.mul_neg_of_neg_of_pos h2 hp
        rw [if_pos (by simpa using h2)]; omega
      · have : 0 < V := by rw [← hs]; exact Int.mul_pos (by omega) hp
        rw [if_neg (by simpa using h2)]; omega
  rw [e] at h1
  exact h1

theorem add_le {x y : Nat} {a b : Int} {A B : Nat} (hx : FV x a) (hy : FV y b) (ha : a.natAbs ≤ A) (hb : b.natAbs ≤ B) (hC : Rp (A + B)) : ∃ r v, DF.add x y = some r ∧ FV r v ∧ v.natAbs ≤ A + B := by
  obtain ⟨s, m, I, _, e1, _, rfl⟩ := hx
  obtain ⟨t, n, J, _, e2, _, rfl⟩ := hy
  unfold Ieee.Format.add
  rw [e1, e2]
  exact sum_le s t m n I J (A + B) hC (by omega)

theorem add_eq {x y : Nat} {a b : Int} (hx : FV x a) (hy : FV y b) (hC : Rp (a + b).natAbs) : ∃ r, DF.add x y = some r ∧ FV r (a + b) := by
  obtain ⟨s, m, I, _, e1, _, rfl⟩ := hx
  obtain ⟨t, n, J, _, e2, _, rfl⟩ := hy
  unfold Ieee.Format.add
  rw [e1, e2]
  exact sum_eq s t m n I J hC

theorem signed_not (s : Bool) (m I : Nat) : Ieee.signed (!s) m I = -Ieee.signed s m I := by
  rw [signed_eq, signed_eq]; cases s <;> simp

theorem sub_le {x y : Nat} {a b : Int} {A B : Nat} (hx : FV x a) (hy : FV y b) (ha : a.natAbs ≤ A) (hb : b.natAbs ≤ B) (hC : Rp (A + B)) : ∃ r v, DF.sub x y = some r ∧ FV r v ∧ v.natAbs ≤ A + B := by
  obtain ⟨s, m, I, _, e1, _, rfl⟩ := hx
  obtain ⟨t, n, J, _, e2, _, rfl⟩ := hy
  unfold Ieee.Format.sub
  rw [e1, e2]
  exact sum_le s (!t) m n I J (A + B) hC (by rw [signed_not]; omega)

theorem sub_eq {x y : Nat} {a b : Int} (hx : FV x a) (hy : FV y b) (hC : Rp (a - b).natAbs) : ∃ r, DF.sub x y = some r ∧ FV r (a - b) := by
  obtain ⟨s, m, I, _, e1, _, rfl⟩ := hx
  obtain ⟨t, n, J, _, e2, _, rfl⟩ := hy
  unfold Ieee.Format.sub
  rw [e1, e2]
  have h := sum_eq s (!t) m n I J (by rw [signed_not]; simpa [Int.sub_eq_add_neg] using hC)
  rw [signed_not, ← Int.sub_eq_add_neg] at h
  exact h

theorem product_read (s t : Bool) (m n I J : Nat) : Ieee.Datum.product (.number s m ((I : Int) - 1074)) (.number t n ((J : Int) - 1074)) = some (.number (s ^^ t) (m * n) (((I + J : Nat) : Int) - 1074 - (XP : Nat))) := by
  simp only [Ieee.Datum.product]
  have e : (I : Int) - 1074 + ((J : Int) - 1074) = ((I + J : Nat) : Int) - 1074 - (XP : Nat) := by have := XP_eq; omega
  rw [e]

theorem product_scaled (s t : Bool) (m n I J : Nat) : m * n * 2 ^ (I + J) = (Ieee.signed s m I).natAbs * (Ieee.signed t n J).natAbs := by
  rw [signed_natAbs, signed_natAbs, Nat.pow_add]
  simp only [Nat.mul_assoc, Nat.mul_left_comm]

theorem mul_le {x y : Nat} {a b : Int} {C : Nat} (hx : FV x a) (hy : FV y b) (h : a.natAbs * b.natAbs ≤ C * UU) (hC : Rp C) : ∃ r v, DF.mul x y = some r ∧ FV r v ∧ v.natAbs ≤ C := by
  obtain ⟨s, m, I, _, e1, _, rfl⟩ := hx
  obtain ⟨t, n, J, _, e2, _, rfl⟩ := hy
  unfold Ieee.Format.mul
  rw [e1, e2, product_read]
  obtain ⟨v, h1, h2, _⟩ := nearest_le (s ^^ t) (m * n) (I + J) XP C hC (by rw [product_scaled s t]; exact h)
  exact ⟨_, v, rfl, h1, h2⟩

theorem signed_neg_iff (s : Bool) (m I : Nat) (h : Ieee.signed s m I < 0) : s = true := by
  rw [signed_eq] at h
  cases s
  · simp only [Bool.false_eq_true, if_false] at h; omega
  · rfl

theorem signed_pos_iff (s : Bool) (m I : Nat) (h : 0 < Ieee.signed s m I) : s = false := by
  rw [signed_eq] at h
  cases s
  · rfl
  · simp only [if_true] at h; omega

/-- The sign of a product or a quotient. -/
theorem sign_mul {s t : Bool} {m n I J : Nat} {c : Int} (h : 0 < c → 0 < Ieee.signed s m I * Ieee.signed t n J) (h' : c < 0 → Ieee.signed s m I * Ieee.signed t n J < 0) : (if (s ^^ t) = true then -(c.natAbs : Int) else (c.natAbs : Int)) = c := by
  rcases Int.lt_trichotomy c 0 with h1 | h1 | h1
  · have h2 := h' h1
    have : (s ^^ t) = true := by
      rcases Int.lt_trichotomy (Ieee.signed s m I) 0 with h3 | h3 | h3
      · rcases Int.lt_trichotomy (Ieee.signed t n J) 0 with h4 | h4 | h4
        · have := Int.mul_pos_of_neg_of_neg h3 h4; omega
        · rw [h4] at h2; simp at h2
        · rw [signed_neg_iff _ _ _ h3, signed_pos_iff _ _ _ h4]; rfl
      · rw [h3] at h2; simp at h2
      · rcases Int.lt_trichotomy (Ieee.signed t n J) 0 with h4 | h4 | h4
        · rw [signed_pos_iff _ _ _ h3, signed_neg_iff _ _ _ h4]; rfl
        · rw [h4] at h2; simp at h2
        · have := Int.mul_pos h3 h4; omega
    rw [if_pos this]; omega
  · subst h1; simp
  · have h2 := h h1
    have : (s ^^ t) = false := by
      rcases Int.lt_trichotomy (Ieee.signed s m I) 0 with h3 | h3 | h3
      · rcases Int.lt_trichotomy (Ieee.signed t n J) 0 with h4 | h4 | h4
        · rw [signed_neg_iff _ _ _ h3, signed_neg_iff _ _ _ h4]; rfl
        · rw [h4] at h2; simp at h2
        · have := Int.mul_neg_of_neg_of_pos h3 h4; omega
      · rw [h3] at h2; simp at h2
      · rcases Int.lt_trichotomy (Ieee.signed t n J) 0 with h4 | h4 | h4
        · have := Int.mul_neg_of_pos_of_neg h3 h4; omega
        · rw [h4] at h2; simp at h2
        · rw [signed_pos_iff _ _ _ h3, signed_pos_iff _ _ _ h4]; rfl
    rw [this]; simp; omega

theorem mul_eq {x y : Nat} {a b c : Int} (hx : FV x a) (hy : FV y b) (h : a * b = c * (UU : Int)) (hC : Rp c.natAbs) : ∃ r, DF.mul x y = some r ∧ FV r c := by
  obtain ⟨s, m, I, _, e1, _, rfl⟩ := hx
  obtain ⟨t, n, J, _, e2, _, rfl⟩ := hy
  unfold Ieee.Format.mul
  rw [e1, e2, product_read]
  have hU : (0 : Int) < (UU : Int) := by have := UU_pos; omega
  have h1 := nearest_eq (s ^^ t) (m * n) (I + J) XP c.natAbs hC (by
    rw [product_scaled s t, ← Int.natAbs_mul, h, Int.natAbs_mul, Int.natAbs_natCast]; rfl)
  rw [sign_mul (c := c) (fun hc => by rw [h]; exact Int.mul_pos hc hU) (fun hc => by rw [h]; exact Int.mul_neg_of_neg_of_pos hc hU)] at h1
  exact ⟨_, rfl, h1⟩

theorem quotient_read (s t : Bool) (m n I J : Nat) (hn : n ≠ 0) : Ieee.Datum.quotient 54 (.number s m ((I : Int) - 1074)) (.number t n ((J : Int) - 1074)) =
    some (.number (s ^^ t) (2 * (m * 2 ^ (54 + n.log2 - m.log2) / n) + (m * 2 ^ (54 + n.log2 - m.log2) % n != 0).toNat) (((I + XP : Nat) : Int) - 1074 - ((J + (54 + n.log2 - m.log2) + 1 : Nat) : Nat))) := by
  simp only [Ieee.Datum.quotient, if_neg hn, Nat.shiftLeft_eq]
  generalize 54 + n.log2 - m.log2 = more
  have e : (I : Int) - 1074 - ((J : Int) - 1074) - (more : Nat) - 1 = ((I + XP : Nat) : Int) - 1074 - ((J + more + 1 : Nat) : Nat) := by have := XP_eq; omega
  rw [e]

/-- A quotient by what is at least one. -/
theorem div_le {x y : Nat} {a b : Int} {C : Nat} (hx : FV x a) (hy : FV y b) (hb : (UU : Int) ≤ b) (h : a.natAbs * 4503599627370496 ≤ C) (hC : Rp C) : ∃ r v, DF.div x y = some r ∧ FV r v ∧ v.natAbs ≤ C := by
  obtain ⟨s, m, I, _, e1, _, rfl⟩ := hx
  obtain ⟨t, n, J, _, e2, hn, rfl⟩ := hy
  have hn0 : n ≠ 0 := by
    rintro rfl
    rw [signed_eq] at hb
    have := UU_pos
    simp at hb
    omega
  have hJ : 1022 ≤ J := by
    have h1 : UU ≤ n * 2 ^ J := by have := signed_natAbs t n J; omega
    rcases Nat.lt_or_ge J 1022 with h2 | h2
    · exfalso
      have h3 : n * 2 ^ J < 2 ^ 53 * 2 ^ J := Nat.mul_lt_mul_of_pos_right (by rw [show (2 : Nat) ^ 53 = 9007199254740992 from by decide]; exact hn) (Nat.two_pow_pos _)
      rw [← Nat.pow_add] at h3
      have h4 : 2 ^ (53 + J) ≤ 2 ^ XP := Nat.pow_le_pow_right (by decide) (by have := XP_eq; omega)
      have h5 : UU = 2 ^ XP := rfl
      omega
    · exact h2
  unfold Ieee.Format.div
  rw [e1, e2, show DF.fractionBits + 2 = 54 from rfl, quotient_read s t m n I J hn0]
  generalize hmore : 54 + n.log2 - m.log2 = more
  have hq : 2 * (m * 2 ^ more / n) + (m * 2 ^ more % n != 0).toNat ≤ 2 * (m * 2 ^ more) := by
    generalize m * 2 ^ more = d
    have hdm := Nat.div_add_mod d n
    rcases Nat.lt_or_ge n 2 with h1 | h1
    · obtain rfl : n = 1 := by omega
      simp [Nat.mod_one]
    · have h2 : 2 * (d / n) ≤ n * (d / n) := Nat.mul_le_mul_right _ h1
      by_cases h3 : d % n = 0
      · simp [h3]; omega
      · have h4 : (d % n != 0) = true := by simpa using h3
        rw [h4]
        simp
        omega
  obtain ⟨v, h1, h2, _⟩ := nearest_le (s ^^ t) (2 * (m * 2 ^ more / n) + (m * 2 ^ more % n != 0).toNat) (I + XP) (J + more + 1) C hC (by
    refine Nat.le_trans (Nat.mul_le_mul_right _ hq) ?_
    rw [signed_natAbs] at h
    have e : 2 * (m * 2 ^ more) * 2 ^ (I + XP) = m * 2 ^ I * 4503599627370496 * 2 ^ (XP - 52 + more + 1) := by
      rw [show (4503599627370496 : Nat) = 2 ^ 52 from by decide]
      have : 2 * (m * 2 ^ more) * 2 ^ (I + XP) = m * (2 ^ 1 * 2 ^ more * 2 ^ (I + XP)) := by
        simp only [Nat.mul_assoc, Nat.mul_left_comm, Nat.pow_one]
      rw [this, Nat.mul_assoc m, Nat.mul_assoc m, ← Nat.pow_add, ← Nat.pow_add, ← Nat.pow_add, ← Nat.pow_add]
      exact congrArg (fun z => m * 2 ^ z) (by have := XP_eq; omega)
    rw [e]
    exact Nat.mul_le_mul h (Nat.pow_le_pow_right (by decide) (by have := XP_eq; omega)))
  exact ⟨_, v, rfl, h1, h2⟩

/-- A whole number that a whole number divides. -/
theorem div_eq {x y : Nat} {c d : Int} (hx : FV x (c * d * (UU : Int))) (hy : FV y (d * (UU : Int))) (hd : d ≠ 0) (hc : c.natAbs < 9007199254740992) : ∃ r, DF.div x y = some r ∧ FV r (c * (UU : Int)) := by
  have hU := UU_pos
  have hUi : (0 : Int) < (UU : Int) := by omega
  obtain ⟨s, m, I, _, e1, hm, hv⟩ := hx
  obtain ⟨t, n, J, _, e2, hn, hw⟩ := hy
  have hva : m * 2 ^ I = c.natAbs * d.natAbs * UU := by rw [← signed_natAbs s m I, ← hv, Int.natAbs_mul, Int.natAbs_mul, Int.natAbs_natCast]
  have hwa : n * 2 ^ J = d.natAbs * UU := by rw [← signed_natAbs t n J, ← hw, Int.natAbs_mul, Int.natAbs_natCast]
  have hdp : 0 < d.natAbs := by omega
  have hn0 : n ≠ 0 := by
    rintro rfl
    have := Nat.mul_pos hdp hU
    omega
  have hmn : m * 2 ^ I = c.natAbs * n * 2 ^ J := by rw [hva, Nat.mul_assoc, Nat.mul_assoc, hwa]
  unfold Ieee.Format.div
  rw [e1, e2, show DF.fractionBits + 2 = 54 from rfl, quotient_read s t m n I J hn0]
  generalize hmore : 54 + n.log2 - m.log2 = more
  have hRp : Rp (c.natAbs * UU) := ⟨c.natAbs, XP, rfl, by omega, by have := XP_eq; omega⟩
  have key : (2 * (m * 2 ^ more / n) + (m * 2 ^ more % n != 0).toNat) * 2 ^ (I + XP) = c.natAbs * UU * 2 ^ (J + more + 1) := by
    rcases Nat.eq_zero_or_pos c.natAbs with hc0 | hc0
    · rw [hc0] at hmn ⊢
      have : m = 0 := by
        rw [Nat.zero_mul, Nat.zero_mul] at hmn
        rcases Nat.mul_eq_zero.1 hmn with h | h
        · exact h
        · have := Nat.two_pow_pos I; omega
      subst this
      simp
    · have hmp : 0 < m := by
        rcases Nat.eq_zero_or_pos m with h | h
        · subst h
          have := Nat.mul_pos (Nat.mul_pos hc0 (Nat.pos_of_ne_zero hn0)) (Nat.two_pow_pos J)
          omega
        · exact h
      -- as many digits more as there are to come
      have hIJ : I ≤ J + more := by
        rcases Nat.le_total I (J + more) with h | h
        · exact h
        · have h1 : 2 ^ m.log2 ≤ m := Nat.log2_self_le (by omega)
          have h2 : n < 2 ^ (n.log2 + 1) := Nat.lt_log2_self
          have h3 : c.natAbs * n * 2 ^ J < 2 ^ 53 * 2 ^ (n.log2 + 1) * 2 ^ J := Nat.mul_lt_mul_of_pos_right (by
            refine Nat.lt_of_lt_of_le (Nat.mul_lt_mul_of_pos_right (k := n) (by rw [show (2 : Nat) ^ 53 = 9007199254740992 from by decide]; exact hc) (Nat.pos_of_ne_zero hn0)) (Nat.mul_le_mul_left _ (Nat.le_of_lt h2))) (Nat.two_pow_pos _)
          have h4 : 2 ^ m.log2 * 2 ^ I ≤ m * 2 ^ I := Nat.mul_le_mul_right _ h1
          rw [hmn] at h4
          have h5 := Nat.lt_of_le_of_lt h4 h3
          rw [← Nat.pow_add, ← Nat.pow_add, ← Nat.pow_add] at h5
          have h6 := (Nat.pow_lt_pow_iff_right (by decide : 1 < 2)).1 h5
          omega
      have hdiv : m * 2 ^ more = c.natAbs * 2 ^ (J + more - I) * n := by
        have h1 : m * 2 ^ more * 2 ^ I = c.natAbs * 2 ^ (J + more - I) * n * 2 ^ I := by
          rw [Nat.mul_right_comm, hmn]
          have : c.natAbs * 2 ^ (J + more - I) * n * 2 ^ I = c.natAbs * n * (2 ^ (J + more - I) * 2 ^ I) := by simp only [Nat.mul_assoc, Nat.mul_left_comm]
          rw [this, ← Nat.pow_add, Nat.mul_assoc (c.natAbs * n), ← Nat.pow_add]
          exact congrArg (fun z => c.natAbs * n * 2 ^ z) (by omega)
        exact Nat.eq_of_mul_eq_mul_right (Nat.two_pow_pos I) h1
      rw [hdiv, Nat.mul_div_cancel _ (Nat.pos_of_ne_zero hn0), Nat.mul_mod_left]
      simp only [bne_self_eq_false, Bool.toNat_false, Nat.add_zero]
      have e : UU = 2 ^ XP := rfl
      have h1 : 2 * (c.natAbs * 2 ^ (J + more - I)) * 2 ^ (I + XP) = c.natAbs * (2 ^ 1 * 2 ^ (J + more - I) * 2 ^ (I + XP)) := by simp only [Nat.mul_assoc, Nat.mul_left_comm, Nat.pow_one]
      rw [h1, e, Nat.mul_assoc c.natAbs, ← Nat.pow_add, ← Nat.pow_add, ← Nat.pow_add]
      exact congrArg (fun z => c.natAbs * 2 ^ z) (by omega)
  have h1 := nearest_eq (s ^^ t) _ (I + XP) (J + more + 1) (c.natAbs * UU) hRp key
  have e9 : (c.natAbs * UU) = (c * (UU : Int)).natAbs := by rw [Int.natAbs_mul, Int.natAbs_natCast]
  have hdd : (0 : Int) < d * d := by
    rcases Int.lt_or_gt_of_ne hd with h | h
    · exact Int.mul_pos_of_neg_of_neg h h
    · exact Int.mul_pos h h
  have e8 : Ieee.signed s m I * Ieee.signed t n J = c * (d * d * (UU : Int) * (UU : Int)) := by
    rw [← hv, ← hw]
    simp only [Int.mul_assoc, Int.mul_left_comm]
  have hpp : (0 : Int) < d * d * (UU : Int) * (UU : Int) := Int.mul_pos (Int.mul_pos hdd hUi) hUi
  rw [e9, sign_mul (s := s) (t := t) (m := m) (n := n) (I := I) (J := J) (c := c * (UU : Int)) (fun h => by
    rw [e8]
    exact Int.mul_pos (Int.pos_of_mul_pos_left h (by omega)) hpp) (fun h => by
    rw [e8]
    refine Int.mul_neg_of_neg_of_pos ?_ hpp
    rcases Int.lt_or_le c 0 with h2 | h2
    · exact h2
    · have := Int.mul_nonneg h2 (Int.le_of_lt hUi); omega)] at h1
  exact ⟨_, rfl, h1⟩

/-- How two finite floats stand to each other. -/
theorem order_fv {x y : Nat} {a b : Int} (hx : FV x a) (hy : FV y b) : DF.order x y = some (compare a b) := by
  obtain ⟨s, m, I, _, e1, _, rfl⟩ := hx
  obtain ⟨t, n, J, _, e2, _, rfl⟩ := hy
  unfold Ieee.Format.order
  rw [e1, e2]
  simp only [Ieee.Datum.order]
  have e0 : min ((I : Int) - 1074) ((J : Int) - 1074) = ((min I J : Nat) : Int) - 1074 := by omega
  have e3 : ((I : Int) - 1074 - (((min I J : Nat) : Int) - 1074)).toNat = I - min I J := by omega
  have e4 : ((J : Int) - 1074 - (((min I J : Nat) : Int) - 1074)).toNat = J - min I J := by omega
  rw [e0, e3, e4]
  have hp : (0 : Int) < ((2 ^ min I J : Nat) : Int) := by have := Nat.two_pow_pos (min I J); omega
  have h1 : Ieee.signed s m I = Ieee.signed s m (I - min I J) * ((2 ^ min I J : Nat) : Int) := by
    have := sum_scaled s false m 0 I J
    simpa [signed_eq] using this.symm
  have h2 : Ieee.signed t n J = Ieee.signed t n (J - min I J) * ((2 ^ min I J : Nat) : Int) := by
    have := sum_scaled false t 0 n I J
    simpa [signed_eq] using this.symm
  rw [h1, h2]
  generalize Ieee.signed s m (I - min I J) = p
  generalize Ieee.signed t n (J - min I J) = q
  generalize ((2 ^ min I J : Nat) : Int) = g at hp
  congr 1
  rcases Int.lt_trichotomy p q with h | h | h
  · rw [Int.compare_eq_lt.2 h, Int.compare_eq_lt.2 (Int.mul_lt_mul_of_pos_right h hp)]
  · subst h; simp
  · rw [Int.compare_eq_gt.2 h, Int.compare_eq_gt.2 (Int.mul_lt_mul_of_pos_right h hp)]

theorem Rp_int (n : Nat) (h : n ≤ 9007199254740992) : Rp (n * UU) := ⟨n, XP, rfl, h, by have := XP_eq; omega⟩

/-- A whole number as a float. -/
theorem FV_ofInt (n : Int) (h : n.natAbs ≤ 9007199254740992) : FV (floatOfInt .f64 n) (n * (UU : Int)) := by
  have h1 := nearest_eq (decide (n < 0)) n.natAbs XP 0 (n.natAbs * UU) (Rp_int _ h) (by rw [Nat.pow_zero, Nat.mul_one]; rfl)
  have e : ((XP : Nat) : Int) - 1074 - (0 : Nat) = 0 := by have := XP_eq; omega
  rw [e] at h1
  have e2 : (if decide (n < 0) = true then -((n.natAbs * UU : Nat) : Int) else ((n.natAbs * UU : Nat) : Int)) = n * (UU : Int) := by
    by_cases h2 : n < 0
    · rw [if_pos (by simpa using h2), Int.natCast_mul, ← Int.neg_mul]; congr 1; omega
    · rw [if_neg (by simpa using h2), Int.natCast_mul]; congr 1; omega
  rw [e2] at h1
  exact h1

theorem FV_zero : FV 0 0 := FV_zero_word false

/-- Without its sign. -/
theorem FV_abs {x : Nat} {a : Int} (h : FV x a) : FV (x % 9223372036854775808) (a.natAbs : Int) := by
  obtain ⟨s, m, I, _, e1, h2, rfl⟩ := h
  have h1 : DF.signWeight = 9223372036854775808 := by decide
  refine ⟨false, m, I, by omega, ?_, h2, by rw [signed_natAbs, signed_eq]; simp⟩
  unfold Ieee.Format.read at e1 ⊢
  simp only [h1] at e1 ⊢
  have e3 : x % 9223372036854775808 / 9223372036854775808 % 2 = 0 := by omega
  have e4 : x % 9223372036854775808 % 9223372036854775808 = x % 9223372036854775808 := by omega
  rw [e3, e4]
  split at e1
  · rename_i h3
    rw [if_pos h3]
    injection e1 with _ p q
    subst p
    rw [q]; rfl
  · rename_i h3
    rw [if_neg h3]
    split at e1
    · rename_i h4
      rw [if_pos h4]
      injection e1 with _ p q
      rw [p, q]; rfl
    · split at e1 <;> cases e1

/-- The root of a nought. -/
theorem sqrt_zero {x : Nat} (h : FV x 0) : ∃ r, DF.sqrt x = some r ∧ FV r 0 := by
  obtain ⟨s, m, I, _, e1, _, h2⟩ := h
  have hm : m = 0 := by
    have := signed_natAbs s m I
    rw [← h2] at this
    rcases Nat.mul_eq_zero.1 this.symm with h | h
    · exact h
    · have := Nat.two_pow_pos I; omega
  subst hm
  unfold Ieee.Format.sqrt
  rw [e1]
  simp only [Ieee.Datum.root, if_true, Option.map_some]
  refine ⟨_, rfl, ?_⟩
  show FV (DF.nearest s 0 _) 0
  unfold Ieee.Format.nearest
  rw [if_pos rfl]
  exact FV_zero_word s

end Go.Proofs.Ytbhmhgkbobajfaa

/- Contracts of the small functions on numbers: mayCount, Factorial, rowsOf, leastMultiple. -/
namespace Go.Proofs.Ytbhmhgkbobajfaa
open Go.RowKit

def fct : Nat → Nat
  | 0 => 1
  | n + 1 => (n + 1) * fct n

theorem fct_pos (n : Nat) : 0 < fct n := by
  induction n with
  | zero => decide
  | succ n ih => exact Nat.mul_pos (Nat.succ_pos n) ih

theorem fct_mono {a b : Nat} (h : a ≤ b) : fct a ≤ fct b := by
  induction b with
  | zero => have : a = 0 := by omega
            subst this; exact Nat.le_refl _
  | succ b ih =>
    by_cases e : a = b + 1
    · subst e; exact Nat.le_refl _
    · have h1 := ih (by omega)
      have h2 : fct b ≤ (b + 1) * fct b := Nat.le_mul_of_pos_left _ (Nat.succ_pos b)
      exact Nat.le_trans h1 h2

theorem fct_le {n : Nat} (h : n ≤ 12) : fct n ≤ 479001600 := Nat.le_trans (fct_mono h) (by decide)

theorem ret_int {k : IntKind} {a b : Int} (h : a = b) : Ending.returned (.int k a) = .returned (.int k b) := by rw [h]

theorem fct_one {n : Nat} (h : n < 2) : fct n = 1 := by
  match n, h with
  | 0, _ => rfl
  | 1, _ => rfl

theorem fct_step {n : Nat} (h : ¬ n < 2) : n * fct (n - 1) = fct n := by
  match n, h with
  | n + 1, _ => rfl

theorem lcm_of_least {a b c : Nat} (ha : 1 ≤ a) (hb : 1 ≤ b) (hd : b ∣ c * a) (hc : 1 ≤ c) (hl : ∀ d, 1 ≤ d → d < c → ¬ b ∣ d * a) : c * a = Nat.lcm a b := by
  have h1 : Nat.lcm a b ∣ c * a := Nat.lcm_dvd (Nat.dvd_mul_left a c) hd
  have hp : 0 < Nat.lcm a b := Nat.lcm_pos ha hb
  have h2 : Nat.lcm a b ≤ c * a := Nat.le_of_dvd (Nat.mul_pos hc ha) h1
  obtain ⟨d, hd'⟩ := Nat.dvd_lcm_left a b
  have h3 : 1 ≤ d := by
    rcases Nat.eq_zero_or_pos d with h | h
    · rw [h, Nat.mul_zero] at hd'; omega
    · exact h
  have h4 : ¬ d < c := fun h => hl d h3 h (by rw [Nat.mul_comm, ← hd']; exact Nat.dvd_lcm_right a b)
  have h5 : c * a ≤ d * a := Nat.mul_le_mul_right a (by omega)
  rw [Nat.mul_comm d a, ← hd'] at h5
  omega

end Go.Proofs.Ytbhmhgkbobajfaa

/- Lists of ints behind slice values; contracts of the functions that only read them: lower, Same, Check. -/
namespace Go.Proofs.Ytbhmhgkbobajfaa
open Go.RowKit

/-- The slice value v reads as the list xs in the world w. -/
def Ints (w : World) (v : Value) (xs : List Int) : Prop :=
  (xs = [] ∧ ∃ p c, v = .slice p 0 c) ∨
  ∃ b off cap, v = .slice (some ⟨b, off, none⟩) xs.length cap ∧ 0 < xs.length ∧ xs.length ≤ cap ∧ cap ≤ 9223372036854775807 ∧ b < w.heap.size ∧
    ∀ j, j < xs.length → w.cell? ⟨b, off + j, none⟩ = some (.int .i64 (xs.getD j 0))

theorem Ints.mono {w w' : World} {v : Value} {xs : List Int} {B : Nat} (h : Ints w v xs) (hb : Below B w w') (hB : w.heap.size ≤ B) : Ints w' v xs := by
  rcases h with h | ⟨b, off, cap, h1, h2, h3, h4, h5, h6⟩
  · exact Or.inl h
  · refine Or.inr ⟨b, off, cap, h1, h2, h3, h4, Nat.lt_of_lt_of_le h5 hb.size, fun j hj => ?_⟩
    rw [hb.cell (p := ⟨b, off + j, none⟩) (Nat.lt_of_lt_of_le h5 hB)]
    exact h6 j hj

theorem Ints.below {w w' : World} {v : Value} {xs : List Int} (h : Ints w v xs) (hb : Below w.heap.size w w') : Ints w' v xs := h.mono hb (Nat.le_refl _)

theorem Ints.nil (w : World) : Ints w (.slice none 0 0) [] := Or.inl ⟨rfl, none, 0, rfl⟩

theorem Ints.form {w : World} {v : Value} {xs : List Int} (h : Ints w v xs) : ∃ p cap, v = .slice p xs.length cap := by
  rcases h with ⟨rfl, p, c, rfl⟩ | ⟨b, off, cap, h1, _⟩
  · exact ⟨p, c, rfl⟩
  · exact ⟨_, cap, h1⟩

/-- What the call owns reads as the list. -/
theorem Ints.own {w : World} {base e : Nat} {v : Value} {n : Nat} {xs : List Int} (h : w.ownsRow base e 1 v n (xs.map (Value.int .i64))) : Ints w v xs := by
  obtain ⟨h1, h2⟩ := h
  rw [List.length_map, Nat.mul_one] at h1
  subst h1
  rcases h2 with ⟨rfl, h⟩ | ⟨g, cap, cur, hv, _, hh, hn, hm, hs, ht⟩
  · exact Or.inl ⟨List.length_eq_zero_iff.1 h, none, 0, rfl⟩
  · rcases Nat.eq_zero_or_pos xs.length with h0 | h0
    · exact Or.inl ⟨List.length_eq_zero_iff.1 h0, _, cap, by rw [hv, h0]⟩
    · refine Or.inr ⟨g, 0, cap, hv, h0, hn, by unfold maxLen at hm; omega, ?_, fun j hj => ?_⟩
      · exact (Array.getElem?_eq_some_iff.1 hh).1
      · have hown : w.ownsRow base e 1 v xs.length (xs.map (Value.int .i64)) := ⟨by simp, Or.inr ⟨g, cap, cur, hv, ‹_›, hh, hn, hm, hs, ht⟩⟩
        have := hown.cells (g := g) (by rw [hv]; rfl) j (.int .i64 (xs.getD j 0)) (by simp [List.getElem?_map, List.getD, List.getElem?_eq_getElem hj])
        rw [Addr.add_lit] at this
        exact this

theorem cellAt {w : World} {b off k : Nat} {xs : List Int} (hcell : ∀ j, j < xs.length → w.cell? ⟨b, off + j, none⟩ = some (.int .i64 (xs.getD j 0))) (h : k < xs.length) :
    ∃ y, Hid (xs[k]?.getD 0 = y) ∧ w.cell? ⟨b, off + k, none⟩ = some (.int .i64 y) := ⟨_, rfl, hcell k h⟩

/-- How many of the list are less than x. -/
def cnt (x : Int) (xs : List Int) : Nat := (xs.filter (fun y => decide (y < x))).length

theorem cnt_le (x : Int) (xs : List Int) : cnt x xs ≤ xs.length := List.length_filter_le _ _

theorem take_snoc (xs : List Int) (k : Nat) (h : k < xs.length) : xs.take (k + 1) = xs.take k ++ [xs[k]?.getD 0] := by
  rw [List.take_succ_eq_append_getElem h]; simp [List.getElem?_eq_getElem h]

theorem cnt_snoc (x y : Int) (xs : List Int) : cnt x (xs ++ [y]) = cnt x xs + if y < x then 1 else 0 := by
  unfold cnt
  rw [List.filter_append, List.length_append]
  by_cases h : y < x <;> simp [h]

end Go.Proofs.Ytbhmhgkbobajfaa

/- Contracts: Same, Check. -/
namespace Go.Proofs.Ytbhmhgkbobajfaa
open Go.RowKit

theorem take_eq_snoc {xs ys : List Int} {k : Nat} (h : xs.take k = ys.take k) (hx : k < xs.length) (hy : k < ys.length) (e : xs[k]?.getD 0 = ys[k]?.getD 0) : xs.take (k + 1) = ys.take (k + 1) := by
  rw [take_snoc xs k hx, take_snoc ys k hy, h, e]

theorem ret_bool {a b : Bool} (h : a = b) : Ending.returned (.bool a) = .returned (.bool b) := by rw [h]

end Go.Proofs.Ytbhmhgkbobajfaa

/- Contract: Check. -/
namespace Go.Proofs.Ytbhmhgkbobajfaa
open Go.RowKit

/-- Each of 0 .. n - 1 once. -/
def isRow (xs : List Int) : Prop := (∀ y ∈ xs, 0 ≤ y ∧ y < xs.length) ∧ xs.Nodup

def instRow (xs : List Int) : Decidable (isRow xs) := by unfold isRow; exact inferInstance

/-- What Check says. -/
def chk (xs : List Int) : Int := if 1 ≤ xs.length ∧ xs.length ≤ 12 then (if @decide (isRow xs) (instRow xs) = true then 0 else 2) else 1

theorem chk_ok {xs : List Int} (h1 : 1 ≤ xs.length) (h2 : xs.length ≤ 12) (h : isRow xs) : chk xs = 0 := by
  unfold chk; rw [if_pos ⟨h1, h2⟩, if_pos (by simpa using h)]
theorem chk_row {xs : List Int} (h1 : 1 ≤ xs.length) (h2 : xs.length ≤ 12) (h : ¬ isRow xs) : chk xs = 2 := by
  unfold chk; rw [if_pos ⟨h1, h2⟩, if_neg (by simpa using h)]
theorem chk_count {xs : List Int} (h : ¬ (1 ≤ xs.length ∧ xs.length ≤ 12)) : chk xs = 1 := by
  unfold chk; rw [if_neg h]
theorem chk_zero {xs : List Int} (h : chk xs = 0) : 1 ≤ xs.length ∧ xs.length ≤ 12 ∧ isRow xs := by
  unfold chk at h
  split at h
  · rename_i h1
    split at h
    · rename_i h2; exact ⟨h1.1, h1.2, by simpa using h2⟩
    · omega
  · omega
theorem chk_range (xs : List Int) : 0 ≤ chk xs ∧ chk xs ≤ 2 := by
  unfold chk
  split
  · split <;> omega
  · omega

/-- Which bells there were: the array's cells. -/
def Marks (w : World) (b : Nat) (xs : List Int) : Prop :=
  ∀ j, j < 12 → w.cell? ⟨b, j, none⟩ = some (.bool (decide ((j : Int) ∈ xs))) ∧ w.frozen? ⟨b, j, none⟩ = false

theorem Marks.set {w : World} {b m : Nat} {xs : List Int} (h : Marks w b xs) (hm : m < 12) : Marks (w.setCell ⟨b, m, none⟩ (.bool true)) b (xs ++ [(m : Int)]) := by
  intro j hj
  refine ⟨?_, by rw [World.frozen?_setCell]; exact (h j hj).2⟩
  by_cases e : j = m
  · subst e
    rw [World.cell?_setCell_same _ _ _ (h j hj).1]
    simp
  · rw [World.cell?_setCell_other _ _ _ _ (by intro h; simp only [Addr.mk.injEq] at h; omega), (h j hj).1]
    have : ((j : Int) ∈ xs ++ [(m : Int)]) ↔ ((j : Int) ∈ xs) := by
      simp only [List.mem_append, List.mem_singleton]
      constructor
      · rintro (h | h)
        · exact h
        · omega
      · exact Or.inl
    simp only [this]

theorem marksAt {w : World} {b : Nat} {xs : List Int} {m : Nat} (h : Marks w b xs) (hm : m < 12) :
    ∃ t : Bool, Hid (t = decide ((m : Int) ∈ xs)) ∧ w.cell? ⟨b, m, none⟩ = some (.bool t) ∧ w.frozen? ⟨b, m, none⟩ = false := ⟨_, rfl, (h m hm).1, (h m hm).2⟩

theorem bad_of_take {xs : List Int} {k : Nat} (h : k < xs.length) (hb : ¬ (0 ≤ xs[k]?.getD 0 ∧ xs[k]?.getD 0 < xs.length) ∨ xs[k]?.getD 0 ∈ xs.take k) : ¬ isRow xs := by
  rintro ⟨h1, h2⟩
  have hm : xs[k]?.getD 0 = xs[k] := by simp [List.getElem?_eq_getElem h]
  rcases hb with hb | hb
  · exact hb (by rw [hm]; exact h1 _ (List.getElem_mem h))
  · rw [hm] at hb
    obtain ⟨i, hi, e⟩ := List.getElem_of_mem hb
    rw [List.length_take] at hi
    rw [List.getElem_take] at e
    have := (List.getElem_inj h2 (h₀ := by omega) (h₁ := h)).1 e
    omega

theorem row_of_steps {xs : List Int} (h1 : ∀ y ∈ xs, 0 ≤ y ∧ y < xs.length) (h2 : xs.Nodup) : isRow xs := ⟨h1, h2⟩

theorem good_snoc {xs : List Int} {k : Nat} {y : Int} (h : k < xs.length) (hy : xs[k]?.getD 0 = y) (h1 : ∀ z ∈ xs.take k, 0 ≤ z ∧ z < xs.length) (h2 : (xs.take k).Nodup)
    (h3 : 0 ≤ y) (h4 : y < xs.length) (h5 : ¬ y ∈ xs.take k) : (∀ z ∈ xs.take (k + 1), 0 ≤ z ∧ z < xs.length) ∧ (xs.take (k + 1)).Nodup := by
  rw [take_snoc xs k h, hy]
  constructor
  · intro z hz
    rcases List.mem_append.1 hz with hz | hz
    · exact h1 z hz
    · rw [List.mem_singleton.1 hz]; exact ⟨h3, h4⟩
  · rw [List.nodup_append]
    refine ⟨h2, by simp, ?_⟩
    intro a ha b hb e
    rw [List.mem_singleton] at hb
    subst hb; subst e
    exact h5 ha

/-- A number that an int may be. -/
def I64 (x : Int) : Prop := -9223372036854775808 ≤ x ∧ x ≤ 9223372036854775807

theorem hide {p : Prop} (h : p) : Hid p := h

end Go.Proofs.Ytbhmhgkbobajfaa

/- Package strike: absolute values, totals. -/
namespace Go.Proofs.Ytbhmhgkbobajfaa
open Go.RowKit

theorem run_bits (x : Nat) (w : World) : (callFunc 24 #[.float .f64 x]).run Try.prog w = .ok (.value (.int .u64 x)) w := by
  rw [run_callFunc_extern Try.func24 (by kernel_rfl) (by kernel_rfl) (by kernel_rfl) (e := Extern.MathFloatBits.float64bits) (by kernel_rfl)]
  rfl

theorem run_frombits (x : Int) (w : World) : (callFunc 23 #[.int .u64 x]).run Try.prog w = .ok (.value (.float .f64 x.toNat)) w := by
  rw [run_callFunc_extern Try.func23 (by kernel_rfl) (by kernel_rfl) (by kernel_rfl) (e := Extern.MathFloatBits.float64frombits) (by kernel_rfl)]
  rfl

theorem andNot_top (x : Nat) (hx : x < 18446744073709551616) : (bits .andNot .u64 (x : Int) 9223372036854775808).toNat = x % 9223372036854775808 := by
  unfold bits
  simp only [IntKind.bits]
  have e : (BitVec.ofInt 64 (x : Int) &&& ~~~BitVec.ofInt 64 9223372036854775808).toNat = x % 9223372036854775808 := by
    have h1 : BitVec.ofInt 64 (x : Int) = BitVec.ofNat 64 x := by simp
    have h2 : (~~~BitVec.ofInt 64 9223372036854775808 : BitVec 64) = BitVec.ofNat 64 (2 ^ 63 - 1) := by decide
    rw [h1, h2, BitVec.toNat_and, BitVec.toNat_ofNat, BitVec.toNat_ofNat]
    rw [show (2 ^ 63 - 1) % 2 ^ 64 = 2 ^ 63 - 1 from by decide, Nat.and_two_pow_sub_one_eq_mod, Nat.mod_eq_of_lt (show x < 2 ^ 64 from hx)]
  have h3 : x % 9223372036854775808 < 9223372036854775808 := Nat.mod_lt _ (by decide)
  refine (congrArg (fun z : Nat => (IntKind.u64.wrap (z : Int)).toNat) e).trans ?_
  simp only [IntKind.wrap, IntKind.bits, IntKind.signed, Bool.false_and, Bool.false_eq_true, if_false]
  omega

theorem abs_ok (x : Nat) (hx : x < 18446744073709551616) (w : World) :
    Calls Try.prog 20 #[.float .f64 x] w fun e w' => e = .returned (.float .f64 (x % 9223372036854775808)) ∧ w = w' := by
  go_enter Try.func20, Try.ntmps20
  go_wp2
  rw [run_bits, Oper.upon_value]
  go_wp2
  rw [run_frombits, Oper.upon_value]
  go_wp2
  go_ret
  exact ⟨by rw [← andNot_top x hx]; rfl, rfl⟩

def fop (op : BinOp) (x y : Nat) : Nat := (floatBits op .f64 x y).getD 0

/-- The operation is valid. -/
def FOk (op : BinOp) (x y : Nat) : Prop := floatBits op .f64 x y = some (fop op x y)

theorem FOk.of {op : BinOp} {x y r : Nat} (h : floatBits op .f64 x y = some r) : FOk op x y ∧ fop op x y = r := by
  unfold FOk fop
  rw [h]
  exact ⟨rfl, rfl⟩

/-- Is a, without its sign, at least x without its sign? -/
def fge (a x : Nat) : Bool := FloatKind.f64.format.order (a % 9223372036854775808) (x % 9223372036854775808) == some .gt || FloatKind.f64.format.order (a % 9223372036854775808) (x % 9223372036854775808) == some .eq

/-- A total, and one number more. -/
def tad (s : Nat × Nat) (x : Nat) : Nat × Nat :=
  (fop .add s.1 x, if fge s.1 x then fop .add s.2 (fop .add (fop .sub s.1 (fop .add s.1 x)) x) else fop .add s.2 (fop .add (fop .sub x (fop .add s.1 x)) s.1))

structure TOk (s : Nat × Nat) (x : Nat) : Prop where
  la : s.1 < 18446744073709551616
  lx : x < 18446744073709551616
  ok : FOk .add s.1 x
  ge : fge s.1 x = true → FOk .sub s.1 (fop .add s.1 x) ∧ FOk .add (fop .sub s.1 (fop .add s.1 x)) x ∧ FOk .add s.2 (fop .add (fop .sub s.1 (fop .add s.1 x)) x)
  lt : fge s.1 x = false → FOk .sub x (fop .add s.1 x) ∧ FOk .add (fop .sub x (fop .add s.1 x)) s.1 ∧ FOk .add s.2 (fop .add (fop .sub x (fop .add s.1 x)) s.1)

@[go_sem] theorem run_store_float (P : Program) (w : World) (a : Addr) (k : FloatKind) (x : Nat) (m) : (store a (.float k x) m).run P w = stored P w a (.float k x) m := run_store P w a _ m rfl

/-- Memory is as it was. -/
structure Drw (w w' : World) : Prop where
  heap : w'.heap = w.heap
  os : w'.os = w.os
  tape : w'.tape = w.tape
  output : w'.output = w.output

theorem Drw.below {w w' : World} (h : Drw w w') (B : Nat) : Below B w w' := ⟨h.os, h.tape, h.output, by rw [h.heap]; exact Nat.le_refl _, fun k _ => by rw [h.heap]⟩

theorem Drw.refl (w : World) : Drw w w := ⟨rfl, rfl, rfl, rfl⟩

theorem Drw.trans {a b c : World} (h : Drw a b) (k : Drw b c) : Drw a c := ⟨k.heap.trans h.heap, k.os.trans h.os, k.tape.trans h.tape, k.output.trans h.output⟩

/-- One block is written, all else stays. -/
structure Wrote (w w' : World) (b : Nat) (cs : Array Value) (ty : TypeId) : Prop where
  os : w'.os = w.os
  tape : w'.tape = w.tape
  output : w'.output = w.output
  size : w'.heap.size = w.heap.size
  blk : w'.heap[b]? = some (.cells cs ty)
  oth : ∀ k, k ≠ b → w'.heap[k]? = w.heap[k]?

theorem Wrote.below {w w' : World} {b : Nat} {cs : Array Value} {ty : TypeId} (h : Wrote w w' b cs ty) {B : Nat} (hB : B ≤ b) : Below B w w' :=
  ⟨h.os, h.tape, h.output, by rw [h.size]; exact Nat.le_refl _, fun k hk => h.oth k (by omega)⟩

theorem wrote_two {w : World} {b o : Nat} {cs : Array Value} {ty : TypeId} (hb : w.heap[b]? = some (.cells cs ty)) (u v : Value) :
    Wrote w ((w.setCell ⟨b, o + 1, none⟩ u).setCell ⟨b, o, none⟩ v) b ((cs.setIfInBounds (o + 1) u).setIfInBounds o v) ty := by
  refine ⟨rfl, rfl, rfl, by simp [World.setCell], by simp [World.setCell, Array.getElem?_modify, hb], fun k hk => ?_⟩
  rw [Below.heap_setCell _ _ _ _ hk, Below.heap_setCell _ _ _ _ hk]

set_option maxHeartbeats 1000000 in
theorem tadd_ge (a l x t d e l' : Nat) (b o : Nat) (w : World) (cs : Array Value) (ty : TypeId) (hb : w.heap[b]? = some (.cells cs ty)) (ha : a < 18446744073709551616) (hx : x < 18446744073709551616) (hc0 : w.cell? ⟨b, o, none⟩ = some (.float .f64 a)) (hc1 : w.cell? ⟨b, o + 1, none⟩ = some (.float .f64 l)) (hf0 : w.frozen? ⟨b, o, none⟩ = false) (hf1 : w.frozen? ⟨b, o + 1, none⟩ = false)
    (h1 : floatBits .add .f64 a x = some t) (hg : (FloatKind.f64.format.order (a % 9223372036854775808) (x % 9223372036854775808) == some .gt || FloatKind.f64.format.order (a % 9223372036854775808) (x % 9223372036854775808) == some .eq) = true) (h2 : floatBits .sub .f64 a t = some d) (h3 : floatBits .add .f64 d x = some e) (h4 : floatBits .add .f64 l e = some l') :
    Calls Try.prog 12 #[.pointer (some ⟨b, o, none⟩), .float .f64 x] w fun e w' => e = .returned (.tuple #[]) ∧ Wrote w w' b ((cs.setIfInBounds (o + 1) (.float .f64 l')).setIfInBounds o (.float .f64 t)) ty := by
  have r1 := fun w => run_float_arith (P := Try.prog) w .add 23 .f64 a x t h1
  have r2 := fun w => run_float_arith (P := Try.prog) w .sub 23 .f64 a t d h2
  have r3 := fun w => run_float_arith (P := Try.prog) w .add 23 .f64 d x e h3
  have r4 := fun w => run_float_arith (P := Try.prog) w .add 23 .f64 l e l' h4
  have HW := hide (wrote_two hb (o := o) (.float .f64 l') (.float .f64 t))
  clear h1 h2 h3 h4 hb
  go_enter Try.func12, Try.ntmps12
  go_wp2_with fail
  refine (abs_ok _ ha _).mono ?_
  rintro e0 w0 ⟨rfl, rfl⟩
  go_wp2_with fail
  refine (abs_ok _ hx _).mono ?_
  rintro e0 w0 ⟨rfl, rfl⟩
  go_wp2_with fail
  go_region
  all_goals
    go_wp2
    exact bodyPost_end (results_none rfl _ _ _) rfl (by first | exact ⟨rfl, HW.out⟩ | exact ⟨rfl, ⟨HW.out.os, HW.out.tape, HW.out.output, HW.out.size, HW.out.blk, HW.out.oth⟩⟩)

set_option maxHeartbeats 1000000 in
theorem tadd_lt (a l x t d e l' : Nat) (b o : Nat) (w : World) (cs : Array Value) (ty : TypeId) (hb : w.heap[b]? = some (.cells cs ty)) (ha : a < 18446744073709551616) (hx : x < 18446744073709551616) (hc0 : w.cell? ⟨b, o, none⟩ = some (.float .f64 a)) (hc1 : w.cell? ⟨b, o + 1, none⟩ = some (.float .f64 l)) (hf0 : w.frozen? ⟨b, o, none⟩ = false) (hf1 : w.frozen? ⟨b, o + 1, none⟩ = false)
    (h1 : floatBits .add .f64 a x = some t) (hg : (FloatKind.f64.format.order (a % 9223372036854775808) (x % 9223372036854775808) == some .gt || FloatKind.f64.format.order (a % 9223372036854775808) (x % 9223372036854775808) == some .eq) = false) (h2 : floatBits .sub .f64 x t = some d) (h3 : floatBits .add .f64 d a = some e) (h4 : floatBits .add .f64 l e = some l') :
    Calls Try.prog 12 #[.pointer (some ⟨b, o, none⟩), .float .f64 x] w fun e w' => e = .returned (.tuple #[]) ∧ Wrote w w' b ((cs.setIfInBounds (o + 1) (.float .f64 l')).setIfInBounds o (.float .f64 t)) ty := by
  have r1 := fun w => run_float_arith (P := Try.prog) w .add 23 .f64 a x t h1
  have r2 := fun w => run_float_arith (P := Try.prog) w .sub 23 .f64 x t d h2
  have r3 := fun w => run_float_arith (P := Try.prog) w .add 23 .f64 d a e h3
  have r4 := fun w => run_float_arith (P := Try.prog) w .add 23 .f64 l e l' h4
  have HW := hide (wrote_two hb (o := o) (.float .f64 l') (.float .f64 t))
  clear h1 h2 h3 h4 hb
  go_enter Try.func12, Try.ntmps12
  go_wp2_with fail
  refine (abs_ok _ ha _).mono ?_
  rintro e0 w0 ⟨rfl, rfl⟩
  go_wp2_with fail
  refine (abs_ok _ hx _).mono ?_
  rintro e0 w0 ⟨rfl, rfl⟩
  go_wp2_with fail
  go_region
  all_goals
    go_wp2
    exact bodyPost_end (results_none rfl _ _ _) rfl (by first | exact ⟨rfl, HW.out⟩ | exact ⟨rfl, ⟨HW.out.os, HW.out.tape, HW.out.output, HW.out.size, HW.out.blk, HW.out.oth⟩⟩)

/-- total's add. -/
theorem tadd_ok (s : Nat × Nat) (x : Nat) (hT : TOk s x) (b o : Nat) (w : World) (cs : Array Value) (ty : TypeId) (hb : w.heap[b]? = some (.cells cs ty)) (h0 : cs[o]? = some (.float .f64 s.1)) (h1 : cs[o + 1]? = some (.float .f64 s.2)) :
    Calls Try.prog 12 #[.pointer (some ⟨b, o, none⟩), .float .f64 x] w fun e w' => e = .returned (.tuple #[]) ∧ Wrote w w' b ((cs.setIfInBounds (o + 1) (.float .f64 (tad s x).2)).setIfInBounds o (.float .f64 (tad s x).1)) ty := by
  have hc0 : w.cell? ⟨b, o, none⟩ = some (.float .f64 s.1) := by simp [World.cell?, hb, h0]
  have hc1 : w.cell? ⟨b, o + 1, none⟩ = some (.float .f64 s.2) := by simp [World.cell?, hb, h1]
  have hf0 : w.frozen? ⟨b, o, none⟩ = false := by simp [World.frozen?, hb]
  have hf1 : w.frozen? ⟨b, o + 1, none⟩ = false := by simp [World.frozen?, hb]
  cases hg : fge s.1 x with
  | true =>
    obtain ⟨k1, k2, k3⟩ := hT.ge hg
    have := tadd_ge s.1 s.2 x _ _ _ _ b o w cs ty hb hT.la hT.lx hc0 hc1 hf0 hf1 hT.ok hg k1 k2 k3
    unfold tad
    rw [hg]
    exact this
  | false =>
    obtain ⟨k1, k2, k3⟩ := hT.lt hg
    have := tadd_lt s.1 s.2 x _ _ _ _ b o w cs ty hb hT.la hT.lx hc0 hc1 hf0 hf1 hT.ok hg k1 k2 k3
    unfold tad
    rw [hg]
    exact this

set_option maxHeartbeats 1000000 in
/-- total's sum. -/
theorem tsum_ok (s : Nat × Nat) (hT : FOk .add s.1 s.2) (b o : Nat) (w : World) (cs : Array Value) (ty : TypeId) (hb : w.heap[b]? = some (.cells cs ty)) (h0 : cs[o]? = some (.float .f64 s.1)) (h1 : cs[o + 1]? = some (.float .f64 s.2)) :
    Calls Try.prog 13 #[.pointer (some ⟨b, o, none⟩)] w fun e w' => e = .returned (.float .f64 (fop .add s.1 s.2)) ∧ Drw w w' := by
  have hc0 : w.cell? ⟨b, o, none⟩ = some (.float .f64 s.1) := by simp [World.cell?, hb, h0]
  have hc1 : w.cell? ⟨b, o + 1, none⟩ = some (.float .f64 s.2) := by simp [World.cell?, hb, h1]
  have r1 := fun w => run_float_arith (P := Try.prog) w .add 23 .f64 s.1 s.2 _ hT
  clear hb h0 h1 hT
  generalize fop .add s.1 s.2 = r at *
  generalize s.1 = p at *
  generalize s.2 = q at *
  go_enter Try.func13, Try.ntmps13
  go_wp2
  go_region
  all_goals
    go_wp2
    go_ret
    exact ⟨rfl, rfl, rfl, rfl, rfl⟩

end Go.Proofs.Ytbhmhgkbobajfaa

/- Blows behind a slice value. -/
namespace Go.Proofs.Ytbhmhgkbobajfaa
open Go.RowKit

/-- The slice value v reads as these blows: bells, and the bits of times. -/
def Blows (w : World) (v : Value) (L : List (Int × Nat)) : Prop :=
  (L = [] ∧ ∃ p c, v = .slice p 0 c) ∨
  ∃ b off cap, v = .slice (some ⟨b, off, none⟩) L.length cap ∧ 0 < L.length ∧ L.length ≤ cap ∧ cap ≤ 9223372036854775807 ∧ b < w.heap.size ∧
    ∀ j, j < L.length → w.cell? ⟨b, off + j * 2, none⟩ = some (.int .i64 (L.getD j (0, 0)).1) ∧ w.cell? ⟨b, off + j * 2 + 1, none⟩ = some (.float .f64 (L.getD j (0, 0)).2)

theorem Blows.mono {w w' : World} {v : Value} {L : List (Int × Nat)} {B : Nat} (h : Blows w v L) (hb : Below B w w') (hB : w.heap.size ≤ B) : Blows w' v L := by
  rcases h with h | ⟨b, off, cap, h1, h2, h3, h4, h5, h6⟩
  · exact Or.inl h
  · refine Or.inr ⟨b, off, cap, h1, h2, h3, h4, Nat.lt_of_lt_of_le h5 hb.size, fun j hj => ?_⟩
    rw [hb.cell (p := ⟨b, off + j * 2, none⟩) (Nat.lt_of_lt_of_le h5 hB), hb.cell (p := ⟨b, off + j * 2 + 1, none⟩) (Nat.lt_of_lt_of_le h5 hB)]
    exact h6 j hj

theorem Blows.below {w w' : World} {v : Value} {L : List (Int × Nat)} (h : Blows w v L) (hb : Below w.heap.size w w') : Blows w' v L := h.mono hb (Nat.le_refl _)

theorem Blows.form {w : World} {v : Value} {L : List (Int × Nat)} (h : Blows w v L) : ∃ p cap, v = .slice p L.length cap := by
  rcases h with ⟨rfl, p, c, rfl⟩ | ⟨b, off, cap, h1, _⟩
  · exact ⟨p, c, rfl⟩
  · exact ⟨_, cap, h1⟩

end Go.Proofs.Ytbhmhgkbobajfaa
