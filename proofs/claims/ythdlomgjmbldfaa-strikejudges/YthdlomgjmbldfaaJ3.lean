/- Joined: FlM, FlN, FlO, FlP, FlQ, AppK. -/
import Derived.Test.YthdlomgjmbldfaaJ2
import Derived.Test.YthdlomgjmbldfaaJ0
import Derived.Maps.AppendAt
/- Bounds: blows that may be make all of Judge's operations valid. -/
namespace Go.Proofs.Ythdlomgjmbldfaa
open Go.RowKit
set_option maxRecDepth 20000
set_option linter.unusedVariables false

theorem read_cases (x : Nat) (hx : x < 18446744073709551616) : (∃ v, FV x v) ∨ (∃ s, DF.read x = .infinity s) ∨ (∃ s f, DF.read x = .nan s f) := by
  have h1 : DF.signWeight = 9223372036854775808 := by decide
  have h2 : DF.binade = 4503599627370496 := by decide
  have h3 : DF.infRung = 9218868437227405312 := by decide
  have h4 : DF.leastPlace = -1074 := by decide
  have hr : DF.read x = if x % 9223372036854775808 < 4503599627370496 then .number (x / 9223372036854775808 % 2 == 1) (x % 9223372036854775808) (-1074)
      else if x % 9223372036854775808 < 9218868437227405312 then .number (x / 9223372036854775808 % 2 == 1) (4503599627370496 + x % 9223372036854775808 % 4503599627370496) (-1074 + (x % 9223372036854775808 / 4503599627370496 - 1 : Nat))
      else if x % 9223372036854775808 = 9218868437227405312 then .infinity (x / 9223372036854775808 % 2 == 1) else .nan (x / 9223372036854775808 % 2 == 1) (x % 9223372036854775808 - 9218868437227405312) := by
    unfold Ieee.Format.read
    simp only [h1, h2, h3, h4]
  by_cases c1 : x % 9223372036854775808 < 4503599627370496
  · rw [if_pos c1] at hr
    exact Or.inl ⟨_, _, _, 0, hx, by rw [hr]; rfl, by omega, rfl⟩
  · rw [if_neg c1] at hr
    by_cases c2 : x % 9223372036854775808 < 9218868437227405312
    · rw [if_pos c2] at hr
      refine Or.inl ⟨_, x / 9223372036854775808 % 2 == 1, 4503599627370496 + x % 9223372036854775808 % 4503599627370496, x % 9223372036854775808 / 4503599627370496 - 1, hx, ?_, ?_, rfl⟩
      · rw [hr, show (-1074 : Int) + (x % 9223372036854775808 / 4503599627370496 - 1 : Nat) = ((x % 9223372036854775808 / 4503599627370496 - 1 : Nat) : Int) - 1074 from by omega]
      · omega
    · rw [if_neg c2] at hr
      by_cases c3 : x % 9223372036854775808 = 9218868437227405312
      · rw [if_pos c3] at hr
        exact Or.inr (Or.inl ⟨_, hr⟩)
      · rw [if_neg c3] at hr
        exact Or.inr (Or.inr ⟨_, _, hr⟩)

theorem FV_most : FV 4741671816366391296 (1000000000 * (UU : Int)) := by
  have e : floatOfInt .f64 1000000000 = 4741671816366391296 := by kernel_rfl
  rw [← e]
  exact FV_ofInt 1000000000 (by decide)

theorem FV_least : FV 13965043853221167104 (-1000000000 * (UU : Int)) := by
  have e : floatOfInt .f64 (-1000000000) = 13965043853221167104 := by kernel_rfl
  rw [← e]
  exact FV_ofInt (-1000000000) (by decide)

theorem mayB_FB {x : Nat} (hx : x < 18446744073709551616) (h : mayB x = true) : FB x 30 := by
  unfold mayB at h
  rw [Bool.and_eq_true] at h
  obtain ⟨hl, hm⟩ := h
  have hU := UU_pos
  rcases read_cases x hx with ⟨v, hv⟩ | ⟨s, hs⟩ | ⟨s, f, hn⟩
  · have e1 : FloatKind.f64.format.order x 13965043853221167104 = some (compare v (-1000000000 * (UU : Int))) := order_fv hv FV_least
    have e2 : FloatKind.f64.format.order x 4741671816366391296 = some (compare v (1000000000 * (UU : Int))) := order_fv hv FV_most
    rw [e1] at hl
    rw [e2] at hm
    have b1 : -1000000000 * (UU : Int) ≤ v := by
      rcases Int.lt_or_le v (-1000000000 * (UU : Int)) with h | h
      · rw [Int.compare_eq_lt.2 h] at hl; cases hl
      · exact h
    have b2 : v ≤ 1000000000 * (UU : Int) := by
      rcases Int.lt_or_le (1000000000 * (UU : Int)) v with h | h
      · rw [Int.compare_eq_gt.2 h] at hm; cases hm
      · exact h
    refine ⟨v, hv, ?_⟩
    rw [Nat.pow_add, show (2 : Nat) ^ 30 = 1073741824 from by decide]
    have : UU = 2 ^ XP := rfl
    rw [← this]
    omega
  · exfalso
    obtain ⟨s1, m1, I1, _, r1, _⟩ := FV_least
    obtain ⟨s2, m2, I2, _, r2, _⟩ := FV_most
    have e1 : FloatKind.f64.format.order x 13965043853221167104 = some (if s then .lt else .gt) := by
      show Ieee.Datum.order (DF.read x) (DF.read 13965043853221167104) = _
      rw [hs, r1]; rfl
    have e2 : FloatKind.f64.format.order x 4741671816366391296 = some (if s then .lt else .gt) := by
      show Ieee.Datum.order (DF.read x) (DF.read 4741671816366391296) = _
      rw [hs, r2]; rfl
    rw [e1] at hl
    rw [e2] at hm
    cases s
    · cases hm
    · cases hl
  · exfalso
    have e1 : FloatKind.f64.format.order x 13965043853221167104 = none := by
      show Ieee.Datum.order (DF.read x) (DF.read 13965043853221167104) = _
      rw [hn]; rfl
    rw [e1] at hl
    cases hl

/-- Blows of which Judge can be asked: at most 500, of n bells, each may be. -/
structure BOk (n : Nat) (L : List (Int × Nat)) : Prop where
  n1 : 1 ≤ n
  n12 : n ≤ 12
  l2 : 2 ≤ L.length
  l5 : L.length ≤ 500
  t : ∀ k, k < L.length → FB (timeAt L k) 30

section
variable {n : Nat} {L : List (Int × Nat)} (h : BOk n L)
include h

theorem BOk.beat {k : Nat} (hk : k < L.length) : FB (fi (beatN n k : Int)) 14 := by
  have h1 := beatN_le n k h.n1
  have h2 := h.l5
  exact FB.fi _ 14 (by rw [show (2 : Nat) ^ 14 = 16384 from by decide]; omega) (by decide)

theorem BOk.prod {k : Nat} (hk : k < L.length) : FOk .mul (fi (beatN n k : Int)) (timeAt L k) ∧ FB (prodAt n L k) 44 := (h.beat hk).mul (h.t k hk) (by decide)

theorem BOk.tT {k : Nat} (hk : k ≤ L.length) : TBd (tT L k) k 30 := by
  induction k with
  | zero => exact TBd.zero 30
  | succ k ih => exact ((ih (by omega)).add (h.t k (by omega)) (by have := h.l5; omega) (by decide)).2

theorem BOk.tU {k : Nat} (hk : k ≤ L.length) : TBd (tU n L k) k 44 := by
  induction k with
  | zero => exact TBd.zero 44
  | succ k ih => exact ((ih (by omega)).add (h.prod (k := k) (by omega)).2 (by have := h.l5; omega) (by decide)).2

theorem BOk.X : FB (fi (Xn n L.length : Int)) 23 := by
  have h1 := Xn_le n L.length h.n1 (by have := h.l5; omega)
  have h2 := h.l5
  exact FB.fi _ 23 (by rw [show (2 : Nat) ^ 23 = 8388608 from by decide]; omega) (by decide)

theorem BOk.N : FB (fi (L.length : Int)) 9 := by
  have h2 := h.l5
  exact FB.fi _ 9 (by rw [show (2 : Nat) ^ 9 = 512 from by decide]; omega) (by decide)

theorem BOk.D : 1 ≤ (L.length : Int) * (Qn n L.length : Int) - (Xn n L.length : Int) * (Xn n L.length : Int) ∧ ((L.length : Int) * (Qn n L.length : Int) - (Xn n L.length : Int) * (Xn n L.length : Int)).natAbs ≤ 9007199254740992 := by
  have h1 := Dn_pos n L.length h.n1 h.l2
  unfold Dn at h1
  have h2 := Qn_le n L.length h.n1 (by have := h.l5; omega)
  have h5 := h.l5
  have e1 : L.length * Qn n L.length ≤ 500 * 50000000000 := Nat.mul_le_mul h5 (by omega)
  have e2 : (L.length : Int) * (Qn n L.length : Int) ≤ 500 * 50000000000 := by rw [← Int.natCast_mul]; omega
  have e3 : 0 ≤ (Xn n L.length : Int) * (Xn n L.length : Int) := by rw [← Int.natCast_mul]; omega
  omega

/-- The line, ahead of the signs' being taken away. -/
theorem BOk.line0 : FB (sm (Go.Proofs.Ythdlomgjmbldfaa.tT L L.length)) 48 ∧ FB (gap0 n L) 124 := by
  obtain ⟨_, vt⟩ := (h.tT (Nat.le_refl _)).sm h.l5 (by decide)
  obtain ⟨_, vu⟩ := (h.tU (Nat.le_refl _)).sm h.l5 (by decide)
  obtain ⟨_, va⟩ := h.N.mul vu (by decide)
  obtain ⟨_, vb⟩ := h.X.mul vt (by decide)
  obtain ⟨_, vc⟩ := va.sub (vb.mono (show 23 + (30 + 18) ≤ 9 + (44 + 18) by decide)) (by decide)
  exact ⟨vt, (vc.quo h.D.1 h.D.2 (by decide)).2⟩

theorem BOk.near : NOk n L := by
  obtain ⟨kt, vt⟩ := (h.tT (Nat.le_refl _)).sm h.l5 (by decide)
  obtain ⟨ku, vu⟩ := (h.tU (Nat.le_refl _)).sm h.l5 (by decide)
  obtain ⟨ka, va⟩ := h.N.mul vu (by decide)
  obtain ⟨kb, vb⟩ := h.X.mul vt (by decide)
  obtain ⟨kc, vc⟩ := va.sub (vb.mono (show 23 + (30 + 18) ≤ 9 + (44 + 18) by decide)) (by decide)
  obtain ⟨kg, vg⟩ := vc.quo h.D.1 h.D.2 (by decide)
  have vG : FB (gapOf n L) 124 := vg.uns
  obtain ⟨kd, vd⟩ := vG.mul h.X (by decide)
  obtain ⟨ke, ve⟩ := (vt.mono (show 30 + 18 ≤ 124 + 23 by decide)).sub vd (by decide)
  obtain ⟨kf, vf⟩ := ve.quo (d := (L.length : Int)) (by have := h.l2; omega) (by have := h.l5; omega) (by decide)
  have h5 := h.l5
  exact ⟨fun k hk => ((h.tT (Nat.le_of_lt hk)).add (h.t k hk) (by omega) (by decide)).1, fun k hk => (h.prod hk).1, fun k hk => ((h.tU (Nat.le_of_lt hk)).add (h.prod hk).2 (by omega) (by decide)).1, kt, ku, ka, kb, kc, kg, kd, ke, kf⟩

theorem BOk.line : FB (gapOf n L) 124 ∧ FB (startOf n L) 200 := by
  obtain ⟨vt, vg⟩ := h.line0
  have vG : FB (gapOf n L) 124 := vg.uns
  obtain ⟨kd, vd⟩ := vG.mul h.X (by decide)
  obtain ⟨ke, ve⟩ := (vt.mono (show 48 ≤ 124 + 23 by decide)).sub vd (by decide)
  obtain ⟨kf, vf⟩ := ve.quo (d := (L.length : Int)) (by have := h.l2; omega) (by have := h.l5; omega) (by decide)
  exact ⟨vG, (FB.uns vf).mono (by decide)⟩

theorem BOk.off {k : Nat} (hk : k < L.length) : FOk .mul (gapOf n L) (fi (beatN n k)) ∧ FOk .add (startOf n L) (fop .mul (gapOf n L) (fi (beatN n k))) ∧
    FOk .sub (timeAt L k) (fop .add (startOf n L) (fop .mul (gapOf n L) (fi (beatN n k)))) ∧ FB (dAt n L k) 202 := by
  obtain ⟨vG, vS⟩ := h.line
  obtain ⟨k1, v1⟩ := vG.mul (h.beat hk) (by decide)
  obtain ⟨k2, v2⟩ := vS.add (v1.mono (show 124 + 14 ≤ 200 by decide)) (by decide)
  obtain ⟨k3, v3⟩ := ((h.t k hk).mono (show 30 ≤ 200 + 1 by decide)).sub v2 (by decide)
  exact ⟨k1, k2, k3, v3⟩

theorem BOk.tO {k : Nat} (hk : k ≤ L.length) : TBd (tO n L k) k 202 := by
  induction k with
  | zero => exact TBd.zero 202
  | succ k ih => exact ((ih (by omega)).add (h.off (k := k) (by omega)).2.2.2.abs (by have := h.l5; omega) (by decide)).2

theorem BOk.sqr {k : Nat} (hk : k < L.length) : FOk .mul (dAt n L k) (dAt n L k) ∧ FB (fop .mul (dAt n L k) (dAt n L k)) 404 := (h.off hk).2.2.2.mul (h.off hk).2.2.2 (by decide)

theorem BOk.tQ {k : Nat} (hk : k ≤ L.length) : TBd (tQ n L k) k 404 := by
  induction k with
  | zero => exact TBd.zero 404
  | succ k ih => exact ((ih (by omega)).add (h.sqr (k := k) (by omega)).2 (by have := h.l5; omega) (by decide)).2

theorem BOk.own {k : Nat} (hk : k ≤ L.length) (j : Nat) : TBd ((ownS n L k).getD j (0, 0)) k 202 := by
  induction k generalizing j with
  | zero =>
    simp only [ownS, List.getD, List.getElem?_replicate]
    split <;> exact TBd.zero 202
  | succ k ih =>
    have h1 := ih (by omega)
    simp only [ownS]
    rw [getD_put]
    split
    · exact ((h1 _).add (h.off (k := k) (by omega)).2.2.2 (by have := h.l5; omega) (by decide)).2
    · exact (h1 j).mono (by omega)

theorem BOk.judge : JOk n L := by
  have h5 := h.l5
  have h2 := h.l2
  have qo := (h.tO (Nat.le_refl _)).sm h5 (by decide)
  have qq := (h.tQ (Nat.le_refl _)).sm h5 (by decide)
  refine ⟨h.near, fun k hk => (h.off hk).1, fun k hk => (h.off hk).2.1, fun k hk => (h.off hk).2.2.1, fun k hk => (h.off hk).2.2.2.lt, fun k hk => ((h.tO (Nat.le_of_lt hk)).add (h.off hk).2.2.2.abs (by omega) (by decide)).1, fun k hk => (h.sqr hk).1,
    fun k hk => ((h.tQ (Nat.le_of_lt hk)).add (h.sqr hk).2 (by omega) (by decide)).1, fun k hk => ((h.own (Nat.le_of_lt hk) _).add (h.off hk).2.2.2 (by omega) (by decide)).1, qo.1, ?_, qq.1, ?_, fun i _ => ((h.own (Nat.le_refl _) i).sm h5 (by decide)).1, fun i _ hi => ?_⟩
  · exact (qo.2.quo (d := (L.length : Int)) (by omega) (by omega) (by decide)).1
  · exact (qq.2.quo (d := (L.length : Int)) (by omega) (by omega) (by decide)).1
  · have hle := manS_le n L L.length i
    exact (((h.own (Nat.le_refl _) i).sm h5 (by decide)).2.quo (by omega) (by omega) (by decide)).1

end

theorem BOk.of {n : Nat} {L : List (Int × Nat)} (hc : chkB n L = 0) (h5 : L.length ≤ 500) (hx : ∀ k, k < L.length → timeAt L k < 18446744073709551616) : BOk n L ∧ ∀ k, k < L.length → 0 ≤ (L.getD k (0, 0)).1 ∧ (L.getD k (0, 0)).1 < n := by
  unfold chkB at hc
  by_cases h1 : (n : Int) < 1 ∨ 12 < (n : Int) ∨ L.length < 2
  · rw [if_pos h1] at hc; cases hc
  rw [if_neg h1] at hc
  by_cases h2 : 5000 < L.length
  · omega
  rw [if_neg h2] at hc
  by_cases h3 : ∃ k, k < L.length ∧ badB n L k = true
  · rw [if_pos h3] at hc; cases hc
  have h4 : ∀ k, k < L.length → badB n L k = false := fun k hk => by
    cases hb : badB n L k with
    | false => rfl
    | true => exact absurd ⟨k, hk, hb⟩ h3
  have h6 : ∀ k, k < L.length → mayB (timeAt L k) = true ∧ 0 ≤ (L.getD k (0, 0)).1 ∧ (L.getD k (0, 0)).1 < n := fun k hk => by
    have := h4 k hk
    unfold badB at this
    simp only [Bool.or_eq_false_iff, decide_eq_false_iff_not, Bool.not_eq_false'] at this
    obtain ⟨⟨⟨a, b⟩, c⟩, _⟩ := this
    exact ⟨c, by omega, by omega⟩
  exact ⟨⟨by omega, by omega, by omega, h5, fun k hk => mayB_FB (hx k hk) (h6 k hk).1⟩, fun k hk => (h6 k hk).2⟩

end Go.Proofs.Ythdlomgjmbldfaa

/- Floats that are alike but for the sign of a nought; totals of lists. -/
namespace Go.Proofs.Ythdlomgjmbldfaa
open Go.RowKit
set_option maxRecDepth 20000
set_option linter.unusedVariables false

def isz (x : Nat) : Prop := x = 0 ∨ x = 9223372036854775808

/-- The same, or both a nought. -/
def Zq (x y : Nat) : Prop := x = y ∨ isz x ∧ isz y

theorem Zq.refl (x : Nat) : Zq x x := Or.inl rfl

theorem Zq.symm {x y : Nat} (h : Zq x y) : Zq y x := h.elim (fun e => Or.inl e.symm) (fun e => Or.inr ⟨e.2, e.1⟩)

theorem Zq.trans {x y z : Nat} (h : Zq x y) (k : Zq y z) : Zq x z := by
  rcases h with rfl | ⟨h1, h2⟩
  · exact k
  · rcases k with rfl | ⟨k1, k2⟩
    · exact Or.inr ⟨h1, h2⟩
    · exact Or.inr ⟨h1, k2⟩

theorem isz.lt {x : Nat} (h : isz x) : x < 18446744073709551616 := by rcases h with h | h <;> omega

theorem Zq.lt {x y : Nat} (h : Zq x y) (hx : x < 18446744073709551616) : y < 18446744073709551616 := by
  rcases h with rfl | ⟨_, h⟩
  · exact hx
  · exact h.lt

theorem isz.read {x : Nat} (h : isz x) : ∃ s, DF.read x = .number s 0 (-1074) := by
  rcases h with rfl | rfl
  · exact ⟨false, by kernel_rfl⟩
  · exact ⟨true, by kernel_rfl⟩

theorem isz.fabs {x : Nat} (h : isz x) : fabs x = 0 := by rcases h with rfl | rfl <;> rfl

theorem Zq.fabs {x y : Nat} (h : Zq x y) : fabs x = fabs y := by
  rcases h with rfl | ⟨h1, h2⟩
  · rfl
  · rw [h1.fabs, h2.fabs]

theorem isz_word (s : Bool) : isz (DF.word s 0) := by
  cases s
  · exact Or.inl (by kernel_rfl)
  · exact Or.inr (by kernel_rfl)

theorem isz_write (s : Bool) (i : Int) : isz (DF.write (.number s 0 i)) := by
  show isz (DF.nearest s 0 i)
  unfold Ieee.Format.nearest
  rw [if_pos rfl]
  exact isz_word s

/-- Data that are the same but for the sign of a nought. -/
def Dq (a b : Ieee.Datum) : Prop := a = b ∨ ∃ s t i, a = .number s 0 i ∧ b = .number t 0 i

theorem Zq.read {x y : Nat} (h : Zq x y) : Dq (DF.read x) (DF.read y) := by
  rcases h with rfl | ⟨h1, h2⟩
  · exact Or.inl rfl
  · obtain ⟨s, e1⟩ := h1.read
    obtain ⟨t, e2⟩ := h2.read
    exact Or.inr ⟨s, t, -1074, e1, e2⟩

theorem Dq.write {a b : Ieee.Datum} (h : Dq a b) : Zq (DF.write a) (DF.write b) := by
  rcases h with rfl | ⟨s, t, i, rfl, rfl⟩
  · exact Zq.refl _
  · exact Or.inr ⟨isz_write _ _, isz_write _ _⟩

theorem Dq.opposite {a b : Ieee.Datum} (h : Dq a b) : Dq a.opposite b.opposite := by
  rcases h with rfl | ⟨s, t, i, rfl, rfl⟩
  · exact Or.inl rfl
  · exact Or.inr ⟨!s, !t, i, rfl, rfl⟩

/-- Both have an answer, and these are alike. -/
def Oq (a b : Option Ieee.Datum) : Prop := ∀ r, a = some r → ∃ q, b = some q ∧ Dq r q

theorem signed_zero (s : Bool) (u : Nat) : Ieee.signed s 0 u = 0 := by rw [signed_eq]; simp

theorem sum_alike (s s' t t' : Bool) (m n : Nat) (i j : Int) (h1 : m = 0 ∨ s = s') (h2 : n = 0 ∨ t = t') : Oq (Ieee.Datum.sum (.number s m i) (.number t n j)) (Ieee.Datum.sum (.number s' m i) (.number t' n j)) := by
  intro r hr
  simp only [Ieee.Datum.sum] at hr ⊢
  have e1 : ∀ u, Ieee.signed s m u = Ieee.signed s' m u := fun u => by
    rcases h1 with rfl | rfl
    · rw [signed_zero, signed_zero]
    · rfl
  have e2 : ∀ u, Ieee.signed t n u = Ieee.signed t' n u := fun u => by
    rcases h2 with rfl | rfl
    · rw [signed_zero, signed_zero]
    · rfl
  rw [e1, e2] at hr
  injection hr with hr
  refine ⟨_, rfl, ?_⟩
  rw [← hr]
  by_cases h0 : Ieee.signed s' m (i - min i j).toNat + Ieee.signed t' n (j - min i j).toNat = 0
  · rw [h0, if_pos rfl, if_pos rfl]
    exact Or.inr ⟨_, _, _, rfl, rfl⟩
  · rw [if_neg h0, if_neg h0]
    exact Or.inl rfl

theorem Dq.sum {a a' b b' : Ieee.Datum} (ha : Dq a a') (hb : Dq b b') : Oq (a.sum b) (a'.sum b') := by
  rcases ha with rfl | ⟨s, s', i, rfl, rfl⟩
  · rcases hb with rfl | ⟨t, t', j, rfl, rfl⟩
    · intro r hr; exact ⟨r, hr, Or.inl rfl⟩
    · cases a with
      | nan => intro r hr; cases hr
      | infinity s => intro r hr; exact ⟨r, hr, Or.inl rfl⟩
      | number s m i => exact sum_alike s s t t' m 0 i j (Or.inr rfl) (Or.inl rfl)
  · rcases hb with rfl | ⟨t, t', j, rfl, rfl⟩
    · cases b with
      | nan => intro r hr; cases hr
      | infinity t => intro r hr; exact ⟨r, hr, Or.inl rfl⟩
      | number t n j => exact sum_alike s s' t t 0 n i j (Or.inl rfl) (Or.inr rfl)
    · exact sum_alike s s' t t' 0 0 i j (Or.inl rfl) (Or.inl rfl)

theorem Dq.product {a a' b b' : Ieee.Datum} (ha : Dq a a') (hb : Dq b b') : Oq (a.product b) (a'.product b') := by
  rcases ha with rfl | ⟨s, s', i, rfl, rfl⟩
  · rcases hb with rfl | ⟨t, t', j, rfl, rfl⟩
    · intro r hr; exact ⟨r, hr, Or.inl rfl⟩
    · cases a with
      | nan => intro r hr; cases hr
      | infinity s => intro r hr; cases hr
      | number s m i =>
        intro r hr
        simp only [Ieee.Datum.product, Nat.mul_zero] at hr ⊢
        injection hr with hr
        exact ⟨_, rfl, Or.inr ⟨_, _, _, hr.symm, rfl⟩⟩
  · rcases hb with rfl | ⟨t, t', j, rfl, rfl⟩
    · cases b with
      | nan => intro r hr; cases hr
      | infinity t => intro r hr; cases hr
      | number t n j =>
        intro r hr
        simp only [Ieee.Datum.product, Nat.zero_mul] at hr ⊢
        injection hr with hr
        exact ⟨_, rfl, Or.inr ⟨_, _, _, hr.symm, rfl⟩⟩
    · intro r hr
      simp only [Ieee.Datum.product, Nat.zero_mul] at hr ⊢
      injection hr with hr
      exact ⟨_, rfl, Or.inr ⟨_, _, _, hr.symm, rfl⟩⟩

theorem Dq.quotient {a a' b : Ieee.Datum} (ha : Dq a a') : Oq (a.quotient 54 b) (a'.quotient 54 b) := by
  rcases ha with rfl | ⟨s, s', i, rfl, rfl⟩
  · intro r hr; exact ⟨r, hr, Or.inl rfl⟩
  · cases b with
    | nan => intro r hr; cases hr
    | infinity t =>
      intro r hr
      simp only [Ieee.Datum.quotient] at hr ⊢
      injection hr with hr
      exact ⟨_, rfl, Or.inr ⟨_, _, _, hr.symm, rfl⟩⟩
    | number t n j =>
      intro r hr
      simp only [Ieee.Datum.quotient] at hr ⊢
      by_cases hn : n = 0
      · rw [if_pos hn, if_pos trivial] at hr; cases hr
      · rw [if_neg hn] at hr ⊢
        injection hr with hr
        refine ⟨_, rfl, ?_⟩
        rw [← hr]
        simp only [Nat.zero_shiftLeft, Nat.zero_div, Nat.zero_mod, Nat.mul_zero, bne_self_eq_false, Bool.toNat_false, Nat.add_zero]
        exact Or.inr ⟨_, _, _, rfl, rfl⟩

theorem Oq.map {a b : Option Ieee.Datum} (h : Oq a b) {r : Nat} (hr : a.map DF.write = some r) : ∃ q, b.map DF.write = some q ∧ Zq r q := by
  cases a with
  | none => cases hr
  | some d =>
    obtain ⟨q, e, hd⟩ := h d rfl
    injection hr with hr
    exact ⟨_, by rw [e]; rfl, by rw [← hr]; exact hd.write⟩

theorem fop_alike {op : BinOp} {x y x' y' : Nat} (h : FOk op x y) (h2 : ∀ r, floatBits op .f64 x y = some r → ∃ q, floatBits op .f64 x' y' = some q ∧ Zq r q) : FOk op x' y' ∧ Zq (fop op x y) (fop op x' y') := by
  obtain ⟨q, e, hz⟩ := h2 _ h
  obtain ⟨k1, k2⟩ := FOk.of e
  exact ⟨k1, by rw [k2]; exact hz⟩

theorem Zq.add {x y x' y' : Nat} (h : FOk .add x y) (hx : Zq x x') (hy : Zq y y') : FOk .add x' y' ∧ Zq (fop .add x y) (fop .add x' y') :=
  fop_alike h (fun r hr => (hx.read.sum hy.read).map hr)

theorem Zq.sub {x y x' y' : Nat} (h : FOk .sub x y) (hx : Zq x x') (hy : Zq y y') : FOk .sub x' y' ∧ Zq (fop .sub x y) (fop .sub x' y') :=
  fop_alike h (fun r hr => (hx.read.sum hy.read.opposite).map hr)

theorem Zq.mul {x y x' y' : Nat} (h : FOk .mul x y) (hx : Zq x x') (hy : Zq y y') : FOk .mul x' y' ∧ Zq (fop .mul x y) (fop .mul x' y') :=
  fop_alike h (fun r hr => (hx.read.product hy.read).map hr)

theorem Zq.quo {x y x' : Nat} (h : FOk .quo x y) (hx : Zq x x') : FOk .quo x' y ∧ Zq (fop .quo x y) (fop .quo x' y) :=
  fop_alike h (fun r hr => (Dq.quotient hx.read).map hr)

theorem fge_alike {a x a' x' : Nat} (ha : Zq a a') (hx : Zq x x') : fge a x = fge a' x' := by
  have h1 := ha.fabs
  have h2 := hx.fabs
  unfold fabs at h1 h2
  unfold fge
  rw [h1, h2]

theorem tad_alike {s s' : Nat × Nat} {x x' : Nat} (h : TOk s x) (h1 : Zq s.1 s'.1) (h2 : Zq s.2 s'.2) (hx : Zq x x') : TOk s' x' ∧ Zq (tad s x).1 (tad s' x').1 ∧ Zq (tad s x).2 (tad s' x').2 := by
  obtain ⟨k1, z1⟩ := Zq.add h.ok h1 hx
  have hf := fge_alike h1 hx
  cases hg : fge s.1 x with
  | true =>
    obtain ⟨a1, a2, a3⟩ := h.ge hg
    obtain ⟨k2, z2⟩ := Zq.sub a1 h1 z1
    obtain ⟨k3, z3⟩ := Zq.add a2 z2 hx
    obtain ⟨k4, z4⟩ := Zq.add a3 h2 z3
    rw [hg] at hf
    refine ⟨⟨h1.lt h.la, hx.lt h.lx, k1, fun _ => ⟨k2, k3, k4⟩, fun e => by rw [← hf] at e; cases e⟩, z1, ?_⟩
    unfold tad
    rw [hg, ← hf]
    exact z4
  | false =>
    obtain ⟨a1, a2, a3⟩ := h.lt hg
    obtain ⟨k2, z2⟩ := Zq.sub a1 hx z1
    obtain ⟨k3, z3⟩ := Zq.add a2 z2 h1
    obtain ⟨k4, z4⟩ := Zq.add a3 h2 z3
    rw [hg] at hf
    refine ⟨⟨h1.lt h.la, hx.lt h.lx, k1, fun e => (by rw [← hf] at e; cases e), fun _ => ⟨k2, k3, k4⟩⟩, z1, ?_⟩
    unfold tad
    rw [hg, ← hf]
    exact z4

theorem isz.uns {x : Nat} (h : isz x) : uns x = 0 := by
  unfold Go.Proofs.Ythdlomgjmbldfaa.uns
  have : (FloatKind.f64.format.order x 0 == some .eq) = true := by
    rcases h with rfl | rfl
    · kernel_rfl
    · kernel_rfl
  rw [if_pos this]

theorem Zq.uns {x y : Nat} (h : Zq x y) : uns x = uns y := by
  rcases h with rfl | ⟨h1, h2⟩
  · rfl
  · rw [h1.uns, h2.uns]

/-- A float of no unit is a nought. -/
theorem FV.isz {x : Nat} (h : FV x 0) : isz x := by
  obtain ⟨s, m, I, hlt, e1, _, h2⟩ := h
  have hm : m = 0 := by
    have := signed_natAbs s m I
    rw [← h2] at this
    rcases Nat.mul_eq_zero.1 this.symm with h | h
    · exact h
    · have := Nat.two_pow_pos I; omega
  subst hm
  have h1 : DF.signWeight = 9223372036854775808 := by decide
  have h2 : DF.binade = 4503599627370496 := by decide
  unfold Ieee.Format.read at e1
  simp only [h1, h2] at e1
  split at e1
  · injection e1 with _ p _
    unfold Go.Proofs.Ythdlomgjmbldfaa.isz
    omega
  · split at e1
    · injection e1 with _ p _
      omega
    · split at e1 <;> cases e1

theorem uns_alike {x : Nat} {v : Int} (h : FV x v) : Zq x (uns x) := by
  unfold Go.Proofs.Ythdlomgjmbldfaa.uns
  split
  · rename_i h0
    have h1 : FloatKind.f64.format.order x 0 = some (compare v 0) := order_fv h FV_zero
    rw [h1] at h0
    have h3 : compare v 0 = .eq := by simpa using h0
    have h4 := Int.compare_eq_eq.1 h3
    subst h4
    exact Or.inr ⟨FV.isz h, Or.inl rfl⟩
  · exact Zq.refl _

/-- The total of a list. -/
def tl (F : List Nat) : Nat × Nat := F.foldl tad (0, 0)

theorem tl_snoc (F : List Nat) (x : Nat) : tl (F ++ [x]) = tad (tl F) x := by unfold tl; rw [List.foldl_append]; rfl

/-- All of a list's sum is valid, but for the last step. -/
def TAll (F : List Nat) : Prop := ∀ i, i < F.length → TOk (tl (F.take i)) (F.getD i 0)

theorem TAll.nil : TAll [] := fun i hi => by simp at hi

theorem TAll.snoc {F : List Nat} {x : Nat} (h : TAll F) (hx : TOk (tl F) x) : TAll (F ++ [x]) := by
  intro i hi
  rw [List.length_append, List.length_singleton] at hi
  rcases Nat.lt_or_ge i F.length with h1 | h1
  · rw [List.take_append_of_le_length (by omega)]
    have : (F ++ [x]).getD i 0 = F.getD i 0 := by simp [List.getD, List.getElem?_append_left h1]
    rw [this]
    exact h i h1
  · obtain rfl : i = F.length := by omega
    have : (F ++ [x]).getD F.length 0 = x := by simp [List.getD]
    rw [List.take_left, this]
    exact hx

/-- The first k numbers of a row. -/
def fl (f : Nat → Nat) (k : Nat) : List Nat := (List.range k).map f

theorem fl_succ (f : Nat → Nat) (k : Nat) : fl f (k + 1) = fl f k ++ [f k] := by simp [fl, List.range_succ]

theorem fl_length (f : Nat → Nat) (k : Nat) : (fl f k).length = k := by simp [fl]

theorem tT_fl (L : List (Int × Nat)) (k : Nat) : tl (fl (timeAt L) k) = tT L k := by
  induction k with
  | zero => rfl
  | succ k ih => rw [fl_succ, tl_snoc, ih]; rfl

theorem tU_fl (n : Nat) (L : List (Int × Nat)) (k : Nat) : tl (fl (prodAt n L) k) = tU n L k := by
  induction k with
  | zero => rfl
  | succ k ih => rw [fl_succ, tl_snoc, ih]; rfl

end Go.Proofs.Ythdlomgjmbldfaa

/- The answer's small functions on floats: near, plusNought, SameFloat, Added, BlowsMay. -/
namespace Go.Proofs.Ythdlomgjmbldfaa
open Go.RowKit
set_option maxRecDepth 20000
set_option linter.unusedVariables false

theorem near_ok (x : Nat) (w : World) : Calls Try.prog 20 #[.float .f64 x] w fun e w' => e = .returned (.bool (mayB x)) ∧ w = w' := by
  unfold mayB
  cases h1 : (FloatKind.f64.format.order x 13965043853221167104 == some .gt || FloatKind.f64.format.order x 13965043853221167104 == some .eq) <;> cases h2 : (FloatKind.f64.format.order x 4741671816366391296 == some .lt || FloatKind.f64.format.order x 4741671816366391296 == some .eq)
  all_goals
    go_enter Try.func20, Try.ntmps20
    go_wp2
    all_goals (go_ret; exact ⟨rfl, rfl⟩)

theorem plusNought_ok (x : Nat) (w : World) : Calls Try.prog 18 #[.float .f64 x] w fun e w' => e = .returned (.float .f64 (uns x)) ∧ w = w' := by
  by_cases h : (FloatKind.f64.format.order x 0 == some .eq) = true
  · have hu : uns x = 0 := by unfold uns; rw [if_pos h]
    rw [hu]
    clear hu
    go_enter Try.func18, Try.ntmps18
    go_wp2
    go_ret
    exact ⟨rfl, rfl⟩
  · have hu : uns x = x := by unfold uns; rw [if_neg h]
    rw [hu]
    clear hu
    go_enter Try.func18, Try.ntmps18
    go_wp2
    go_ret
    exact ⟨rfl, rfl⟩

/-- Floats behind a slice value. -/
def Fls (w : World) (v : Value) (F : List Nat) : Prop :=
  (F = [] ∧ ∃ p c, v = .slice p 0 c) ∨
  ∃ b off cap, v = .slice (some ⟨b, off, none⟩) F.length cap ∧ 0 < F.length ∧ F.length ≤ cap ∧ cap ≤ 9223372036854775807 ∧ b < w.heap.size ∧
    ∀ j, j < F.length → w.cell? ⟨b, off + j, none⟩ = some (.float .f64 (F.getD j 0))

theorem Fls.form {w : World} {v : Value} {F : List Nat} (h : Fls w v F) : ∃ p cap, v = .slice p F.length cap := by
  rcases h with ⟨rfl, p, c, rfl⟩ | ⟨b, off, cap, h1, _⟩
  · exact ⟨p, c, rfl⟩
  · exact ⟨_, cap, h1⟩

theorem Fls.own {w : World} {base e : Nat} {v : Value} {n : Nat} {F : List Nat} (h : w.ownsRow base e 1 v n (F.map (Value.float .f64))) : Fls w v F := by
  obtain ⟨h1, h2⟩ := h
  rw [List.length_map, Nat.mul_one] at h1
  subst h1
  rcases h2 with ⟨rfl, h⟩ | ⟨g, cap, cur, hv, _, hh, hn, hm, hs, ht⟩
  · exact Or.inl ⟨List.length_eq_zero_iff.1 h, none, 0, rfl⟩
  · rcases Nat.eq_zero_or_pos F.length with h0 | h0
    · exact Or.inl ⟨List.length_eq_zero_iff.1 h0, _, cap, by rw [hv, h0]⟩
    · refine Or.inr ⟨g, 0, cap, hv, h0, hn, by unfold maxLen at hm; omega, ?_, fun j hj => ?_⟩
      · exact (Array.getElem?_eq_some_iff.1 hh).1
      · have hown : w.ownsRow base e 1 v F.length (F.map (Value.float .f64)) := ⟨by simp, Or.inr ⟨g, cap, cur, hv, ‹_›, hh, hn, hm, hs, ht⟩⟩
        have := hown.cells (g := g) (by rw [hv]; rfl) j (.float .f64 (F.getD j 0)) (by simp [List.getElem?_map, List.getD, List.getElem?_eq_getElem hj])
        rw [Addr.add_lit] at this
        exact this

theorem Fls.blk {w : World} {g : Nat} {F : List Nat} (h : FlsB w g F) (hl : F.length ≤ 1000) : Fls w (.slice (some ⟨g, 0, none⟩) F.length F.length) F := by
  rcases Nat.eq_zero_or_pos F.length with h0 | h0
  · exact Or.inl ⟨List.length_eq_zero_iff.1 h0, _, _, by rw [h0]⟩
  · exact Or.inr ⟨g, 0, _, rfl, h0, Nat.le_refl _, by omega, (Array.getElem?_eq_some_iff.1 h).1, fun j hj => by rw [Nat.zero_add]; exact (FlsB.cell h hj).1⟩

set_option maxHeartbeats 2000000 in
theorem added_ok (v : Value) (F : List Nat) (w : World) (hF : Fls w v F) (hl : F.length ≤ 10000) (hT : TAll F) (hs : FOk .add (tl F).1 (tl F).2) :
    Calls Try.prog 17 #[v] w fun e w' => e = .returned (.float .f64 (sm (tl F))) ∧ w = w' := by
  have HS := hide hs
  have HT := hide hT
  obtain ⟨R, hR⟩ : ∃ R, Hid (sm (tl F) = R) := ⟨_, rfl⟩
  rw [hR.out]
  obtain ⟨m, hm⟩ : ∃ m, Hid (F.length = m) := ⟨_, rfl⟩
  have hm2 : m ≤ 10000 := by rw [← hm.out]; exact hl
  obtain ⟨p, cap, hv⟩ : ∃ p cap, v = .slice p m cap := by rw [← hm.out]; exact hF.form
  subst hv
  have HC : ∀ k, k < m → Hid (∃ b off, p = some ⟨b, off, none⟩ ∧ m ≤ cap ∧ cap ≤ 9223372036854775807 ∧ w.cell? ⟨b, off + k, none⟩ = some (.float .f64 (F.getD k 0))) := fun k hk => by
    rcases hF with ⟨h1, _⟩ | ⟨b, off, cap', e, h0, h1, h2, h3, hc⟩
    · have := hm.out; rw [h1] at this; simp at this; omega
    · injection e with e1 e2 e3
      subst e3
      have := hm.out
      exact ⟨b, off, e1, by omega, h2, hc k (by omega)⟩
  clear hF hl hT hs
  go_enter Try.func17, Try.ntmps17
  go_wp2
  go_loop [3, 4, 5] (fun a l i => ∃ (k : Nat) (sa sl : Nat), k ≤ m ∧ i = .int .i64 k ∧ a = .float .f64 sa ∧ l = .float .f64 sl ∧ Hid (tl (F.take k) = (sa, sl))) (fun _ _ i => m - (intOf i).toNat)
  case atStart => exact ⟨0, 0, 0, by omega, rfl, rfl, rfl, rfl⟩
  case round =>
    obtain ⟨k, sa, sl, hk, rfl, rfl, rfl, hst⟩ := hrel
    by_cases hlt : k < m
    · obtain ⟨b, off, rfl, hcap, hcap2, hcell⟩ := (HC k hlt).out
      have hkF : k < F.length := by rw [hm.out]; exact hlt
      have hTk := HT.out k hkF
      rw [hst.out] at hTk
      have HN : Hid (tl (F.take (k + 1)) = tad (sa, sl) (F.getD k 0)) := by
        show tl (F.take (k + 1)) = tad (sa, sl) (F.getD k 0)
        rw [List.take_succ_eq_append_getElem hkF, tl_snoc, hst.out]
        simp [List.getD, List.getElem?_eq_getElem hkF]
      generalize F.getD k 0 = x at *
      have hxa := hTk.la
      have hxl := hTk.lx
      cases hg : fge sa x with
      | true =>
        obtain ⟨k2, k3, k4⟩ := hTk.ge hg
        have k1 := hTk.ok
        have HE : Hid (tad (sa, sl) x = (fop .add sa x, fop .add sl (fop .add (fop .sub sa (fop .add sa x)) x))) := by unfold tad; rw [hg]; exact rfl
        have hg2 : (FloatKind.f64.format.order (sa % 9223372036854775808) (x % 9223372036854775808) == some .gt || FloatKind.f64.format.order (sa % 9223372036854775808) (x % 9223372036854775808) == some .eq) = true := hg
        have r1 := fun w => run_float_arith (P := Try.prog) w .add 23 .f64 _ _ _ k1
        have r2 := fun w => run_float_arith (P := Try.prog) w .sub 23 .f64 _ _ _ k2
        have r3 := fun w => run_float_arith (P := Try.prog) w .add 23 .f64 _ _ _ k3
        have r4 := fun w => run_float_arith (P := Try.prog) w .add 23 .f64 _ _ _ k4
        dsimp only at r1 r2 r3 r4
        clear k1 k2 k3 k4 hTk hg
        generalize fop .add sl (fop .add (fop .sub sa (fop .add sa x)) x) = q4 at *
        generalize fop .add (fop .sub sa (fop .add sa x)) x = q3 at *
        generalize fop .sub sa (fop .add sa x) = q2 at *
        generalize fop .add sa x = q1 at *
        go_wp2_with fail
        refine (abs_ok _ hxa _).mono ?_
        rintro e0 w0 ⟨rfl, rfl⟩
        go_wp2_with fail
        refine (abs_ok _ hxl _).mono ?_
        rintro e0 w0 ⟨rfl, rfl⟩
        go_wp2
        go_round
        case rel => exact ⟨k + 1, q1, q4, by omega, by go_num, rfl, rfl, HN.out.trans HE.out⟩
        case measure => simp [intOf]; omega
      | false =>
        obtain ⟨k2, k3, k4⟩ := hTk.lt hg
        have k1 := hTk.ok
        have HE : Hid (tad (sa, sl) x = (fop .add sa x, fop .add sl (fop .add (fop .sub x (fop .add sa x)) sa))) := by unfold tad; rw [hg]; exact rfl
        have hg2 : (FloatKind.f64.format.order (sa % 9223372036854775808) (x % 9223372036854775808) == some .gt || FloatKind.f64.format.order (sa % 9223372036854775808) (x % 9223372036854775808) == some .eq) = false := hg
        have r1 := fun w => run_float_arith (P := Try.prog) w .add 23 .f64 _ _ _ k1
        have r2 := fun w => run_float_arith (P := Try.prog) w .sub 23 .f64 _ _ _ k2
        have r3 := fun w => run_float_arith (P := Try.prog) w .add 23 .f64 _ _ _ k3
        have r4 := fun w => run_float_arith (P := Try.prog) w .add 23 .f64 _ _ _ k4
        dsimp only at r1 r2 r3 r4
        clear k1 k2 k3 k4 hTk hg
        generalize fop .add sl (fop .add (fop .sub x (fop .add sa x)) sa) = q4 at *
        generalize fop .add (fop .sub x (fop .add sa x)) sa = q3 at *
        generalize fop .sub x (fop .add sa x) = q2 at *
        generalize fop .add sa x = q1 at *
        go_wp2_with fail
        refine (abs_ok _ hxa _).mono ?_
        rintro e0 w0 ⟨rfl, rfl⟩
        go_wp2_with fail
        refine (abs_ok _ hxl _).mono ?_
        rintro e0 w0 ⟨rfl, rfl⟩
        go_wp2
        go_round
        case rel => exact ⟨k + 1, q1, q4, by omega, by go_num, rfl, rfl, HN.out.trans HE.out⟩
        case measure => simp [intOf]; omega
    · have hks : tl F = (sa, sl) := by rw [← hst.out, List.take_of_length_le (by rw [hm.out]; omega)]
      have hs := HS.out
      have hr := hR.out
      unfold sm at hr
      rw [hks] at hs hr
      dsimp only at hs hr
      have r1 := fun w => run_float_arith (P := Try.prog) w .add 23 .f64 _ _ _ hs
      rw [hr] at r1
      clear HT HS hst hks hs hr HC hR
      go_wp2
      go_ret
      exact ⟨rfl, rfl⟩

end Go.Proofs.Ythdlomgjmbldfaa

/- The answer's SameFloat and BlowsMay. -/
namespace Go.Proofs.Ythdlomgjmbldfaa
open Go.RowKit
set_option maxRecDepth 20000
set_option linter.unusedVariables false

/-- x is a number (or an infinity). -/
def Num (x : Nat) : Prop := FloatKind.f64.format.order x x = some .eq
/-- x is none. -/
def Nan (x : Nat) : Prop := FloatKind.f64.format.order x x = none

theorem Nan.of {x : Nat} {s : Bool} {f : Nat} (h : DF.read x = .nan s f) : Nan x := by
  show Ieee.Datum.order (DF.read x) (DF.read x) = none
  rw [h]; rfl

theorem Num.fv {x : Nat} {v : Int} (h : FV x v) : Num x := by
  have e : FloatKind.f64.format.order x x = some (compare v v) := order_fv h h
  unfold Num
  rw [e]
  congr 1
  exact Int.compare_eq_eq.2 rfl

theorem Num.inf {x : Nat} {s : Bool} (h : DF.read x = .infinity s) : Num x := by
  show Ieee.Datum.order (DF.read x) (DF.read x) = some .eq
  rw [h]
  cases s <;> rfl

set_option maxHeartbeats 1000000 in
theorem same_num (x : Nat) (w : World) (h : Num x) (hz : (FloatKind.f64.format.order x 0 == some .eq) = true → isz x) :
    Calls Try.prog 9 #[.float .f64 x, .float .f64 x] w fun e w' => e = .returned (.bool true) ∧ w = w' := by
  have h1 : FloatKind.f64.format.order x x = some .eq := h
  by_cases h0 : (FloatKind.f64.format.order x 0 == some .eq) = true
  · have h2 : FloatKind.f64.format.order x 0 = some .eq := by simpa using h0
    obtain ⟨r, hr, hrr⟩ : ∃ r, floatBits .quo .f64 4607182418800017408 x = some r ∧ FloatKind.f64.format.order r r = some .eq := by
      rcases hz h0 with rfl | rfl
      · exact ⟨9218868437227405312, by kernel_rfl, by kernel_rfl⟩
      · exact ⟨18442240474082181120, by kernel_rfl, by kernel_rfl⟩
    have r1 := fun w => run_float_arith (P := Try.prog) w .quo 23 .f64 _ _ _ hr
    clear hr hz h0 h
    go_enter Try.func9, Try.ntmps9
    go_wp2
    go_ret
    exact ⟨rfl, rfl⟩
  · have h2 : ¬ FloatKind.f64.format.order x 0 = some .eq := by simpa using h0
    clear hz h0 h
    go_enter Try.func9, Try.ntmps9
    go_wp2
    go_ret
    exact ⟨rfl, rfl⟩

theorem same_nan (x y : Nat) (w : World) (hx : Nan x) (hy : Nan y) : Calls Try.prog 9 #[.float .f64 x, .float .f64 y] w fun e w' => e = .returned (.bool true) ∧ w = w' := by
  have h1 : FloatKind.f64.format.order x x = none := hx
  have h2 : FloatKind.f64.format.order y y = none := hy
  clear hx hy
  go_enter Try.func9, Try.ntmps9
  go_wp2
  go_ret
  exact ⟨rfl, rfl⟩

/-- Two floats that SameFloat calls the same. -/
def Alike (x y : Nat) : Prop := (x = y ∧ Num x ∧ ((FloatKind.f64.format.order x 0 == some .eq) = true → isz x)) ∨ (Nan x ∧ Nan y)

theorem same_alike {x y : Nat} (h : Alike x y) (w : World) : Calls Try.prog 9 #[.float .f64 x, .float .f64 y] w fun e w' => e = .returned (.bool true) ∧ w = w' := by
  rcases h with ⟨rfl, h1, h2⟩ | ⟨h1, h2⟩
  · exact same_num x w h1 h2
  · exact same_nan x y w h1 h2

theorem zero_isz {x : Nat} {v : Int} (h : FV x v) (h0 : (FloatKind.f64.format.order x 0 == some .eq) = true) : isz x := by
  have h1 : FloatKind.f64.format.order x 0 = some (compare v 0) := order_fv h FV_zero
  rw [h1] at h0
  have h3 : compare v 0 = .eq := by simpa using h0
  have h4 := Int.compare_eq_eq.1 h3
  subst h4
  exact FV.isz h

theorem Alike.fv {x : Nat} {v : Int} (h : FV x v) : Alike x x := Or.inl ⟨rfl, Num.fv h, zero_isz h⟩

theorem Alike.fb {x p : Nat} (h : FB x p) : Alike x x := by obtain ⟨v, h, _⟩ := h; exact Alike.fv h

set_option maxHeartbeats 4000000 in
theorem blowsMay_ok (n : Int) (v : Value) (L : List (Int × Nat)) (w : World) (hn : I64 n) (hv : Blows w v L) :
    Calls Try.prog 8 #[.int .i64 n, v] w fun e w' => e = .returned (.int .i64 (chkB n L)) ∧ Drw w w' := by
  obtain ⟨hn1, hn2⟩ := hn
  by_cases hc : n < 1 ∨ 12 < n ∨ L.length < 2
  · have HC : Hid (chkB n L = 1) := by unfold chkB; rw [if_pos hc]; exact rfl
    obtain ⟨p, cap, rfl⟩ := hv.form
    have hL : L.length ≤ 9223372036854775807 := by
      rcases hv with ⟨rfl, _⟩ | ⟨b, off, cap, e, h0, h1, h2, _⟩
      · simp
      · omega
    clear hv
    by_cases h1 : n < 1
    · go_enter Try.func8, Try.ntmps8
      go_wp2
      go_ret
      exact ⟨ret_int (by rw [HC.out]), Drw.refl _⟩
    · by_cases h2 : 12 < n
      · go_enter Try.func8, Try.ntmps8
        go_wp2
        go_ret
        exact ⟨ret_int (by rw [HC.out]), Drw.refl _⟩
      · have h3 : L.length < 2 := by omega
        generalize L.length = m at *
        go_enter Try.func8, Try.ntmps8
        go_wp2
        go_ret
        exact ⟨ret_int (by rw [HC.out]), Drw.refl _⟩
  · rcases hv with ⟨rfl, _⟩ | ⟨b, off, cap, rfl, h0, h1, h2, h3, hcell⟩
    · simp at hc
    by_cases h5 : 5000 < L.length
    · have HC : Hid (chkB n L = 3) := by unfold chkB; rw [if_neg hc, if_pos h5]; exact rfl
      have ⟨c1, c2, c3⟩ : 1 ≤ n ∧ n ≤ 12 ∧ 2 ≤ L.length := by omega
      clear hc hcell
      generalize L.length = m at *
      go_enter Try.func8, Try.ntmps8
      go_wp2
      go_ret
      exact ⟨ret_int (by rw [HC.out]), Drw.refl _⟩
    · have HB := fun k hk hb => hide (chkB_bad (k := k) hc h5 hk hb)
      have HF := fun hb => hide (chkB_fine (L := L) hc h5 hb)
      have HCE := hide hcell
      have ⟨c1, c2, c3⟩ : 1 ≤ n ∧ n ≤ 12 ∧ 2 ≤ L.length := by omega
      clear hc hcell
      generalize hR : chkB n L = R at *
      generalize hm : L.length = m at *
      go_enter Try.func8, Try.ntmps8
      go_wp2
      go_loopw [5] (fun i wr => ∃ k : Nat, k ≤ m ∧ i = .int .i64 k ∧ Hid (∀ j, j < k → badB n L j = false) ∧ Drw w wr) (fun i _ => m - (intOf i).toNat)
      case atStart => exact ⟨0, by omega, rfl, fun j hj => absurd hj (by omega), Drw.refl _⟩
      case round =>
        obtain ⟨k, hk, rfl, hfine, hbw⟩ := hrel
        by_cases hlt : k < m
        · obtain ⟨bell, hbell⟩ : ∃ y, Hid ((L.getD k (0, 0)).1 = y) := ⟨_, rfl⟩
          obtain ⟨time, htime⟩ : ∃ y, Hid ((L.getD k (0, 0)).2 = y) := ⟨_, rfl⟩
          have hcA : wr.cell? ⟨b, off + k * 2, none⟩ = some (.int .i64 bell) := by rw [← hbell.out, ← (HCE.out k (by omega)).1]; unfold World.cell?; rw [hbw.heap]
          have hcB : wr.cell? ⟨b, off + k * 2 + 1, none⟩ = some (.float .f64 time) := by rw [← htime.out, ← (HCE.out k (by omega)).2]; unfold World.cell?; rw [hbw.heap]
          by_cases hbad1 : bell < 0
          · have hd1 : decide (bell < 0) = true := decide_eq_true hbad1
            have HR := HB k (by omega) (by unfold badB; rw [hbell.out]; simp [hbad1])
            clear HB HF
            go_wp2_with fail
            refine (near_ok _ _).mono ?_
            rintro e w' ⟨rfl, rfl⟩
            go_wp2
            go_quiet (fail)
            go_wp2
            go_ret
            exact ⟨ret_int (by rw [HR.out]), ⟨hbw.heap, hbw.os, hbw.tape, hbw.output⟩⟩
          · have hd1 : decide (bell < 0) = false := decide_eq_false hbad1
            by_cases hbad2 : n ≤ bell
            · have hd2 : decide (n ≤ bell) = true := decide_eq_true hbad2
              have HR := HB k (by omega) (by unfold badB; rw [hbell.out]; simp [hbad2])
              clear HB HF
              go_wp2_with fail
              refine (near_ok _ _).mono ?_
              rintro e w' ⟨rfl, rfl⟩
              go_wp2
              go_quiet (fail)
              go_wp2
              go_ret
              exact ⟨ret_int (by rw [HR.out]), ⟨hbw.heap, hbw.os, hbw.tape, hbw.output⟩⟩
            · have hd2 : decide (n ≤ bell) = false := decide_eq_false hbad2
              cases hbad3 : mayB time with
              | false =>
                have HR := HB k (by omega) (by unfold badB; rw [htime.out]; simp [hbad3])
                clear HB HF
                go_wp2_with fail
                refine (near_ok _ _).mono ?_
                rintro e w' ⟨rfl, rfl⟩
                rw [hbad3]
                go_wp2
                go_quiet (fail)
                go_wp2
                go_ret
                exact ⟨ret_int (by rw [HR.out]), ⟨hbw.heap, hbw.os, hbw.tape, hbw.output⟩⟩
              | true =>
                rcases Nat.eq_zero_or_pos k with hk0 | hk0
                · have HN : Hid (∀ j, j < k + 1 → badB n L j = false) := fun j hj => by
                    by_cases hjk : j < k
                    · exact hfine.out j hjk
                    · obtain rfl : j = k := by omega
                      unfold badB
                      rw [hbell.out, htime.out]
                      simp [hbad1, hbad3, hk0]
                      omega
                  clear HB HF
                  subst hk0
                  simp only [Nat.zero_mul, Nat.add_zero] at hcA hcB
                  go_wp2_with fail
                  refine (near_ok _ _).mono ?_
                  rintro e w' ⟨rfl, rfl⟩
                  rw [hbad3]
                  go_wp2
                  go_quiet (fail)
                  go_wp2
                  go_roundw
                  case rel => exact ⟨1, by omega, by first | rfl | go_num, HN, ⟨hbw.heap, hbw.os, hbw.tape, hbw.output⟩⟩
                  case measure => simp [intOf]; omega
                · obtain ⟨km, rfl⟩ : ∃ km, k = km + 1 := ⟨k - 1, by omega⟩
                  obtain ⟨prev, hprev⟩ : ∃ y, Hid ((L.getD km (0, 0)).2 = y) := ⟨_, rfl⟩
                  have hcC : wr.cell? ⟨b, off + km * 2 + 1, none⟩ = some (.float .f64 prev) := by rw [← hprev.out, ← (HCE.out km (by omega)).2]; unfold World.cell?; rw [hbw.heap]
                  cases hless : (FloatKind.f64.format.order time prev == some .lt) with
                  | true =>
                    have HR := HB (km + 1) (by omega) (by unfold badB; rw [Nat.add_sub_cancel, htime.out, hprev.out]; simp [hless])
                    clear HB HF
                    go_wp2_with fail
                    refine (near_ok _ _).mono ?_
                    rintro e w' ⟨rfl, rfl⟩
                    rw [hbad3]
                    go_wp2
                    go_quiet (fail)
                    go_wp2
                    go_ret
                    exact ⟨ret_int (by rw [HR.out]), ⟨hbw.heap, hbw.os, hbw.tape, hbw.output⟩⟩
                  | false =>
                    have HN : Hid (∀ j, j < km + 1 + 1 → badB n L j = false) := fun j hj => by
                      by_cases hjk : j < km + 1
                      · exact hfine.out j hjk
                      · obtain rfl : j = km + 1 := by omega
                        unfold badB
                        rw [hbell.out, htime.out, Nat.add_sub_cancel, hprev.out, hless]
                        simp [hbad1, hbad3]
                        omega
                    clear HB HF
                    go_wp2_with fail
                    refine (near_ok _ _).mono ?_
                    rintro e w' ⟨rfl, rfl⟩
                    rw [hbad3]
                    go_wp2
                    go_quiet (fail)
                    go_wp2
                    go_roundw
                    case rel => exact ⟨km + 1 + 1, by omega, by first | rfl | go_num, HN, ⟨hbw.heap, hbw.os, hbw.tape, hbw.output⟩⟩
                    case measure => simp [intOf]; omega
        · have HR := HF (fun j hj => hfine.out j (by omega))
          clear HB HF
          go_wp2
          go_ret
          exact ⟨ret_int (by rw [HR.out]), hbw⟩

end Go.Proofs.Ythdlomgjmbldfaa

/- What the answer's Judge works out, plain: the same but for signs of noughts. -/
namespace Go.Proofs.Ythdlomgjmbldfaa
open Go.RowKit
set_option maxRecDepth 20000
set_option linter.unusedVariables false

def startR (n : Nat) (L : List (Int × Nat)) : Nat := fop .quo (fop .sub (sm (tT L L.length)) (fop .mul (gap0 n L) (fi (Xn n L.length : Int)))) (fi (L.length : Int))
def lineR (n : Nat) (L : List (Int × Nat)) (k : Nat) : Nat := fop .mul (gap0 n L) (fi (beatN n k))
def dR (n : Nat) (L : List (Int × Nat)) (k : Nat) : Nat := fop .sub (timeAt L k) (fop .add (startR n L) (lineR n L k))
def farR (n : Nat) (L : List (Int × Nat)) (k : Nat) : Nat := fabs (dR n L k)
def sqR (n : Nat) (L : List (Int × Nat)) (k : Nat) : Nat := fop .mul (dR n L k) (dR n L k)

/-- A bell's own, of the first k blows. -/
def ownR (n : Nat) (L : List (Int × Nat)) : Nat → Nat → List Nat
  | 0, _ => []
  | k + 1, j => if bellAt L k = j then ownR n L k j ++ [dR n L k] else ownR n L k j

section
variable {n : Nat} {L : List (Int × Nat)} (h : BOk n L)
include h

theorem BOk.zgap : Zq (gapOf n L) (gap0 n L) := by
  obtain ⟨v, hv, _⟩ := h.line0.2
  exact (uns_alike hv).symm

theorem BOk.zstart : FOk .mul (gap0 n L) (fi (Xn n L.length : Int)) ∧ FOk .sub (sm (Go.Proofs.Ythdlomgjmbldfaa.tT L L.length)) (fop .mul (gap0 n L) (fi (Xn n L.length : Int))) ∧ FOk .quo (fop .sub (sm (Go.Proofs.Ythdlomgjmbldfaa.tT L L.length)) (fop .mul (gap0 n L) (fi (Xn n L.length : Int)))) (fi (L.length : Int)) ∧ Zq (startOf n L) (startR n L) := by
  obtain ⟨k1, z1⟩ := Zq.mul h.near.d h.zgap (Zq.refl _)
  obtain ⟨k2, z2⟩ := Zq.sub h.near.e (Zq.refl _) z1
  obtain ⟨k3, z3⟩ := Zq.quo h.near.f z2
  refine ⟨k1, k2, k3, ?_⟩
  obtain ⟨v, hv, _⟩ := h.line.2
  have hs : FB (start0 n L) 250 := by
    obtain ⟨vt, vg⟩ := h.line0
    have vG : FB (gapOf n L) 124 := vg.uns
    obtain ⟨kd, vd⟩ := vG.mul h.X (by decide)
    obtain ⟨ke, ve⟩ := (vt.mono (show 48 ≤ 124 + 23 by decide)).sub vd (by decide)
    obtain ⟨kf, vf⟩ := ve.quo (d := (L.length : Int)) (by have := h.l2; omega) (by have := h.l5; omega) (by decide)
    exact vf.mono (by decide)
  obtain ⟨v0, hv0, _⟩ := hs
  exact (uns_alike hv0).symm.trans z3

theorem BOk.zd {k : Nat} (hk : k < L.length) : FOk .mul (gap0 n L) (fi (beatN n k)) ∧ FOk .add (startR n L) (lineR n L k) ∧ FOk .sub (timeAt L k) (fop .add (startR n L) (lineR n L k)) ∧ Zq (dAt n L k) (dR n L k) := by
  obtain ⟨o1, o2, o3, _⟩ := h.off hk
  obtain ⟨k1, z1⟩ := Zq.mul o1 h.zgap (Zq.refl _)
  obtain ⟨k2, z2⟩ := Zq.add o2 h.zstart.2.2.2 z1
  obtain ⟨k3, z3⟩ := Zq.sub o3 (Zq.refl _) z2
  exact ⟨k1, k2, k3, z3⟩

theorem BOk.dlt {k : Nat} (hk : k < L.length) : dR n L k < 18446744073709551616 := (h.zd hk).2.2.2.lt (h.off hk).2.2.2.lt

theorem BOk.far {k : Nat} (hk : k ≤ L.length) : tl (fl (farR n L) k) = Go.Proofs.Ythdlomgjmbldfaa.tO n L k := by
  induction k with
  | zero => rfl
  | succ k ih =>
    rw [fl_succ, tl_snoc, ih (by omega)]
    unfold farR
    rw [← (h.zd (k := k) (by omega)).2.2.2.fabs]
    rfl

theorem BOk.farAll {k : Nat} (hk : k ≤ L.length) : TAll (fl (farR n L) k) := by
  induction k with
  | zero => exact TAll.nil
  | succ k ih =>
    rw [fl_succ]
    refine (ih (by omega)).snoc ?_
    rw [h.far (k := k) (by omega)]
    unfold farR
    rw [← (h.zd (k := k) (by omega)).2.2.2.fabs]
    exact h.judge.o k (by omega)

theorem BOk.timesAll {k : Nat} (hk : k ≤ L.length) : TAll (fl (timeAt L) k) := by
  induction k with
  | zero => exact TAll.nil
  | succ k ih => rw [fl_succ]; refine (ih (by omega)).snoc ?_; rw [tT_fl]; exact h.near.t k (by omega)

theorem BOk.prodsAll {k : Nat} (hk : k ≤ L.length) : TAll (fl (prodAt n L) k) := by
  induction k with
  | zero => exact TAll.nil
  | succ k ih => rw [fl_succ]; refine (ih (by omega)).snoc ?_; rw [tU_fl]; exact h.near.u k (by omega)

theorem BOk.zsq {k : Nat} (hk : k < L.length) : FOk .mul (dR n L k) (dR n L k) ∧ Zq (fop .mul (dAt n L k) (dAt n L k)) (sqR n L k) := Zq.mul (h.sqr hk).1 (h.zd hk).2.2.2 (h.zd hk).2.2.2

theorem BOk.sq {k : Nat} (hk : k ≤ L.length) : TAll (fl (sqR n L) k) ∧ Zq (Go.Proofs.Ythdlomgjmbldfaa.tQ n L k).1 (tl (fl (sqR n L) k)).1 ∧ Zq (Go.Proofs.Ythdlomgjmbldfaa.tQ n L k).2 (tl (fl (sqR n L) k)).2 := by
  induction k with
  | zero => exact ⟨TAll.nil, Zq.refl _, Zq.refl _⟩
  | succ k ih =>
    obtain ⟨h1, h2, h3⟩ := ih (by omega)
    obtain ⟨k1, k2, k3⟩ := tad_alike (h.judge.q2 k (by omega)) h2 h3 (h.zsq (k := k) (by omega)).2
    rw [fl_succ]
    exact ⟨h1.snoc k1, by rw [tl_snoc]; exact k2, by rw [tl_snoc]; exact k3⟩

theorem BOk.ownR {k : Nat} (hk : k ≤ L.length) (j : Nat) (hj : j < n) : TAll (ownR n L k j) ∧ Zq ((ownS n L k).getD j (0, 0)).1 (tl (Go.Proofs.Ythdlomgjmbldfaa.ownR n L k j)).1 ∧ Zq ((ownS n L k).getD j (0, 0)).2 (tl (Go.Proofs.Ythdlomgjmbldfaa.ownR n L k j)).2 ∧ (manS n L k).getD j 0 = ((Go.Proofs.Ythdlomgjmbldfaa.ownR n L k j).length : Int) ∧ (Go.Proofs.Ythdlomgjmbldfaa.ownR n L k j).length ≤ k := by
  induction k with
  | zero =>
    have e1 : (ownS n L 0).getD j (0, 0) = (0, 0) := by simp [ownS, List.getD, hj]
    have e2 : (manS n L 0).getD j 0 = 0 := by simp [manS, List.getD, hj]
    rw [e1, e2]
    exact ⟨TAll.nil, Zq.refl _, Zq.refl _, rfl, Nat.le_refl _⟩
  | succ k ih =>
    obtain ⟨h1, h2, h3, h4, h5⟩ := ih (by omega)
    simp only [ownS, manS, Go.Proofs.Ythdlomgjmbldfaa.ownR]
    rw [getD_put, getD_put, ownS_length, manS_length]
    by_cases hb : bellAt L k = j
    · simp only [hb, hj, and_self, if_true]
      have hT := h.judge.w k (by omega)
      rw [hb] at hT
      obtain ⟨k1, k2, k3⟩ := tad_alike hT h2 h3 (h.zd (k := k) (by omega)).2.2.2
      refine ⟨h1.snoc k1, by rw [tl_snoc]; exact k2, by rw [tl_snoc]; exact k3, ?_, ?_⟩
      · rw [h4, List.length_append, List.length_singleton, Int.natCast_add]; rfl
      · rw [List.length_append, List.length_singleton]; omega
    · simp only [hb, false_and, if_false]
      exact ⟨h1, h2, h3, h4, by omega⟩

theorem BOk.bellR (i : Nat) (hi : i < n) : FOk .add (tl (Go.Proofs.Ythdlomgjmbldfaa.ownR n L L.length i)).1 (tl (Go.Proofs.Ythdlomgjmbldfaa.ownR n L L.length i)).2 ∧ (0 < (Go.Proofs.Ythdlomgjmbldfaa.ownR n L L.length i).length →
    FOk .quo (sm (tl (Go.Proofs.Ythdlomgjmbldfaa.ownR n L L.length i))) (fi ((Go.Proofs.Ythdlomgjmbldfaa.ownR n L L.length i).length : Int))) ∧ bellMean n L i = if 0 < (Go.Proofs.Ythdlomgjmbldfaa.ownR n L L.length i).length then uns (fop .quo (sm (tl (Go.Proofs.Ythdlomgjmbldfaa.ownR n L L.length i))) (fi ((Go.Proofs.Ythdlomgjmbldfaa.ownR n L L.length i).length : Int))) else 0 := by
  obtain ⟨h1, h2, h3, h4, h5⟩ := h.ownR (Nat.le_refl _) i hi
  obtain ⟨k1, z1⟩ := Zq.add (h.judge.sb i hi) h2 h3
  refine ⟨k1, fun hp => ?_, ?_⟩
  · have hq := h.judge.mb i hi (by rw [h4]; omega)
    rw [h4] at hq
    exact (Zq.quo hq z1).1
  · unfold bellMean
    rw [h4]
    by_cases hp : 0 < (Go.Proofs.Ythdlomgjmbldfaa.ownR n L L.length i).length
    · rw [if_pos (by omega), if_pos hp]
      have hq := h.judge.mb i hi (by rw [h4]; omega)
      rw [h4] at hq
      exact (Zq.quo hq z1).2.uns
    · rw [if_neg (by omega), if_neg hp]

theorem BOk.varR : FOk .add (tl (fl (sqR n L) L.length)).1 (tl (fl (sqR n L) L.length)).2 ∧ FOk .quo (sm (tl (fl (sqR n L) L.length))) (fi (L.length : Int)) ∧ Zq (fop .quo (sm (Go.Proofs.Ythdlomgjmbldfaa.tQ n L L.length)) (fi (L.length : Int))) (fop .quo (sm (tl (fl (sqR n L) L.length))) (fi (L.length : Int))) := by
  obtain ⟨_, h2, h3⟩ := h.sq (Nat.le_refl _)
  obtain ⟨k1, z1⟩ := Zq.add h.judge.sq h2 h3
  obtain ⟨k2, z2⟩ := Zq.quo h.judge.mq z1
  exact ⟨k1, k2, z2⟩

end
end Go.Proofs.Ythdlomgjmbldfaa

/- append, and where the new slice lies. -/
namespace Go.Proofs.Ythdlomgjmbldfaa
open Go.RowKit

theorem run_append_keep {P : Program} (w : World) (base : Nat) (t ty e : TypeId) (i : TypeInfo) (z : Value) (size bytes : Nat) (ht : P.underlying t = some (.slice e)) (hi : P.info? e = some i) (hz : i.zero = some z)
    (hsize : i.size = size) (hby : i.bytes = bytes) (hzs : z.cells.size = size) (hsz : 0 < size)
    (v : Value) (n : Nat) (xs : List Value) (hown : w.ownsRow base e size v n xs)
    (a : Addr) (m c : Nat) (news : List Value) (hl : news.length = m * size) (hnews : ∀ j u, news[j]? = some u → w.cell? (a.add j) = some u) (h1 : ∀ u ∈ news, u.oneCell' = true)
    (h63 : n + m ≤ maxLen) (hbytes : (n + m) * bytes ≤ 140737488355328) (hbase : base ≤ w.heap.size) :
    ∃ v' w', (Builtin.append_ #[t, t] ty #[v, .slice (some a) m c]).run P w = .ok v' w' ∧ w'.ownsRow base e size v' (n + m) (xs ++ news) ∧ w.grownBy w' v.ownBlock ∧
      (v'.ownBlock = v.ownBlock ∨ (v'.ownBlock = some w.heap.size ∧ w.grownBy w' none)) := by
  obtain ⟨v', w', hr, h2, h3, _, h5⟩ := run_append_own_at (P := P) w base t ty e i z size bytes ht hi hz hsize hby hzs hsz v n xs hown a m c news hl hnews h1 h63 hbytes hbase
  refine ⟨v', w', hr, h2, h3, ?_⟩
  subst hsize
  subst hby
  rcases hown.2 with ⟨rfl, rfl⟩ | ⟨g, cap, cur, rfl, hbg, hg, hnc, hcm, hcs, htake⟩
  · exact h5.imp id (fun h => ⟨h, h3⟩)
  · by_cases hroom : n + m ≤ cap
    · have hfit : n * i.size + news.length ≤ cur.size := by rw [hl, hcs, ← Nat.add_mul]; exact Nat.mul_le_mul_right _ hroom
      have hr' := run_append_room (P := P) w t ty e i ht hi g n cap cur hg a m c news hl hnews h1 hroom hfit
      rw [hr] at hr'
      obtain ⟨e1, _⟩ := Result.ok.inj hr'
      left; rw [e1]; rfl
    · have holds : ∀ j u, xs[j]? = some u → w.cell? ((⟨g, 0, none⟩ : Addr).add j) = some u := hown.cells (g := g) rfl
      have hsmall : n + m ≤ 9223372036854775807 := by simp only [maxLen] at h63; omega
      have hr' := run_append_grow (P := P) w t ty e i z ht hi hz ⟨g, 0, none⟩ n cap xs hown.1 holds a m c news hl hnews (by omega) (by omega) (growslice_fits (by omega) hbytes)
      rw [hr] at hr'
      obtain ⟨e1, e2⟩ := Result.ok.inj hr'
      right
      rw [e1, e2]
      exact ⟨rfl, ⟨rfl, rfl, rfl, by simp, fun k hk _ => Below.heap_alloc w.drew _ k hk⟩⟩

theorem wpList_append_keep {P : Program} (w : World) {ops : Array Oper} {rest : List Oper} {o : Oper} {a : Act} {Q : Exit → Act → World → Prop} (hgd : o.guard = none) (s x : Operand) (t : TypeId)
    (ho : o.op = .call { callee := .builtin .append, args := #[s, x], argTypes := #[t, t] })
    (base : Nat) (e : TypeId) (i : TypeInfo) (z : Value) (size bytes : Nat) (ht : P.underlying t = some (.slice e)) (hi : P.info? e = some i) (hz : i.zero = some z)
    (hsize : i.size = size) (hby : i.bytes = bytes) (hzs : z.cells.size = size) (hsz : 0 < size)
    (v : Value) (n : Nat) (xs : List Value) (hs : a.eval s = v) (hown : w.ownsRow base e size v n xs)
    (ad : Addr) (m c : Nat) (news : List Value) (hx : a.eval x = .slice (some ad) m c) (hl : news.length = m * size) (hnews : ∀ j u, news[j]? = some u → w.cell? (ad.add j) = some u) (h1 : ∀ u ∈ news, u.oneCell' = true)
    (h63 : n + m ≤ maxLen) (hbytes : (n + m) * bytes ≤ 140737488355328) (hbase : base ≤ w.heap.size)
    (h : ∀ v' w', w'.ownsRow base e size v' (n + m) (xs ++ news) → w.grownBy w' v.ownBlock → (v'.ownBlock = v.ownBlock ∨ (v'.ownBlock = some w.heap.size ∧ w.grownBy w' none)) → wpList P ops Q rest (a.put o.dst v') w') :
    wpList P ops Q (o :: rest) a w := by
  refine wpList_plain hgd fun K hK => ?_
  obtain ⟨v', w', hr, h2, h3, h4⟩ := run_append_keep (P := P) w base t o.type e i z size bytes ht hi hz hsize hby hzs hsz v n xs hown ad m c news hl hnews h1 h63 hbytes hbase
  unfold Oper.wp execOp
  simp only [ho, resolve, invoke, builtin, Sem.run_bind, Sem.run_pure, Result.andThen_ok, List.map_toArray, List.map_cons, List.map_nil, hs, hx, hr]
  exact hK _ _ (h v' w' h2 h3 h4)

/-- .. as one step of a region that draws. -/
theorem step_append_keep {P : Program} {ops : Array Oper} {o : Oper} {a : Act} {w : World} {K : Act → World → Prop} {Q : Exit → Act → World → Prop} {E : Prop} (hg : o.guard = none) (s x : Operand) (t : TypeId)
    (ho : o.op = .call { callee := .builtin .append, args := #[s, x], argTypes := #[t, t] })
    (base : Nat) (e : TypeId) (i : TypeInfo) (z : Value) (size bytes : Nat) (ht : P.underlying t = some (.slice e)) (hi : P.info? e = some i) (hz : i.zero = some z)
    (hsize : i.size = size) (hby : i.bytes = bytes) (hzs : z.cells.size = size) (hsz : 0 < size)
    (v : Value) (n : Nat) (xs : List Value) (hs : a.eval s = v) (hown : w.ownsRow base e size v n xs)
    (ad : Addr) (m c : Nat) (news : List Value) (hx : a.eval x = .slice (some ad) m c) (hl : news.length = m * size) (hnews : ∀ j u, news[j]? = some u → w.cell? (ad.add j) = some u) (h1 : ∀ u ∈ news, u.oneCell' = true)
    (h63 : n + m ≤ maxLen) (hbytes : (n + m) * bytes ≤ 140737488355328) (hbase : base ≤ w.heap.size)
    (h : ∀ v' w', w'.ownsRow base e size v' (n + m) (xs ++ news) → w.grownBy w' v.ownBlock → (v'.ownBlock = v.ownBlock ∨ (v'.ownBlock = some w.heap.size ∧ w.grownBy w' none)) → K (a.put o.dst v') w') :
    if Region.wanted o (yielded ops a.tmps) = true then Oper.wp P o a w K Q else E := by
  have hw : Region.wanted o (yielded ops a.tmps) = true := by simp [Region.wanted, hg]
  rw [if_pos hw]
  obtain ⟨v', w', hr, h2, h3, h4⟩ := run_append_keep (P := P) w base t o.type e i z size bytes ht hi hz hsize hby hzs hsz v n xs hown ad m c news hl hnews h1 h63 hbytes hbase
  unfold Oper.wp execOp
  simp only [ho, resolve, invoke, builtin, Sem.run_bind, Sem.run_pure, Result.andThen_ok, List.map_toArray, List.map_cons, List.map_nil, hs, hx, hr]
  exact h v' w' h2 h3 h4

end Go.Proofs.Ythdlomgjmbldfaa
