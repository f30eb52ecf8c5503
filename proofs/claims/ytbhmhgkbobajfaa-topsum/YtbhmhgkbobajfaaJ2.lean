/- Joined: FlM, FlN, FlO, FlP, FlB2, SsA, Cpx. -/
import Derived.Test.YtbhmhgkbobajfaaJ1
import Derived.Test.YtbhmhgkbobajfaaJ0
import Derived.Deep.WholeRow
import Derived.Deep.MidRow
/- Bounds: blows that may be make all of Judge's operations valid. -/
namespace Go.Proofs.Ytbhmhgkbobajfaa
open Go.RowKit
set_option maxRecDepth 20000
set_option linter.unusedVariables false

theorem read_cases (x : Nat) (hx : x < 18446744073709551616) : (∃ v, FV x v) ∨ (∃ s, DF.read x = .infinity s) ∨ (∃ s f, DF.read x = .nan s f) := by
  have h1 : DF.signWeight = 9223372036854775808 := by decide
  have h2 : DF.binade = 4503599627370496 := by decide
  have h3 : DF.infRung = 9218868437227405312 := by decide
  have h4 : DF.leastPlace = -1074 := by decide
  have hr : DF.read x = if x % 9223372036854775808 < 4503599627370496 then .number (x / 9223372036854775808 % 2 == 1) (x % 9223372036854775808) (-1074)
      else if x % 9223372036854775808 < 9218868437227405312 then .number (x / 9223372036854775808 % 2 == 1) (4503599627370496 + x % 9223372036854775808 % 4503599627370496) (-1074 + (x % 9223372036854775808 / 4503599627370496 - 1 : Nat))
      else if x % 9223372036854775808 = 9218868437227405312 then .infinity (x / 9223372036854775808 % 2 == 1) else .nan (x / 9223372036854775808 % 2 == 1) (x % 9223372036854775808 - 9218868437227405312) := by
    unfold Ieee.Format.read
    simp only [h1, h2, h3, h4]
  by_cases c1 : x % 9223372036854775808 < 4503599627370496
  · rw [if_pos c1] at hr
    exact Or.inl ⟨_, _, _, 0, hx, by rw [hr]; rfl, by omega, rfl⟩
  · rw [if_neg c1] at hr
    by_cases c2 : x % 9223372036854775808 < 9218868437227405312
    · rw [if_pos c2] at hr
      refine Or.inl ⟨_, x / 9223372036854775808 % 2 == 1, 4503599627370496 + x % 9223372036854775808 % 4503599627370496, x % 9223372036854775808 / 4503599627370496 - 1, hx, ?_, ?_, rfl⟩
      · rw [hr, show (-1074 : Int) + (x % 9223372036854775808 / 4503599627370496 - 1 : Nat) = ((x % 9223372036854775808 / 4503599627370496 - 1 : Nat) : Int) - 1074 from by omega]
      · omega
    · rw [if_neg c2] at hr
      by_cases c3 : x % 9223372036854775808 = 9218868437227405312
      · rw [if_pos c3] at hr
        exact Or.inr (Or.inl ⟨_, hr⟩)
      · rw [if_neg c3] at hr
        exact Or.inr (Or.inr ⟨_, _, hr⟩)

theorem FV_most : FV 4741671816366391296 (1000000000 * (UU : Int)) := by
  have e : floatOfInt .f64 1000000000 = 4741671816366391296 := by kernel_rfl
  rw [← e]
  exact FV_ofInt 1000000000 (by decide)

theorem FV_least : FV 13965043853221167104 (-1000000000 * (UU : Int)) := by
  have e : floatOfInt .f64 (-1000000000) = 13965043853221167104 := by kernel_rfl
  rw [← e]
  exact FV_ofInt (-1000000000) (by decide)

theorem mayB_FB {x : Nat} (hx : x < 18446744073709551616) (h : mayB x = true) : FB x 30 := by
  unfold mayB at h
  rw [Bool.and_eq_true] at h
  obtain ⟨hl, hm⟩ := h
  have hU := UU_pos
  rcases read_cases x hx with ⟨v, hv⟩ | ⟨s, hs⟩ | ⟨s, f, hn⟩
  · have e1 : FloatKind.f64.format.order x 13965043853221167104 = some (compare v (-1000000000 * (UU : Int))) := order_fv hv FV_least
    have e2 : FloatKind.f64.format.order x 4741671816366391296 = some (compare v (1000000000 * (UU : Int))) := order_fv hv FV_most
    rw [e1] at hl
    rw [e2] at hm
    have b1 : -1000000000 * (UU : Int) ≤ v := by
      rcases Int.lt_or_le v (-1000000000 * (UU : Int)) with h | h
      · rw [Int.compare_eq_lt.2 h] at hl; cases hl
      · exact h
    have b2 : v ≤ 1000000000 * (UU : Int) := by
      rcases Int.lt_or_le (1000000000 * (UU : Int)) v with h | h
      · rw [Int.compare_eq_gt.2 h] at hm; cases hm
      · exact h
    refine ⟨v, hv, ?_⟩
    rw [Nat.pow_add, show (2 : Nat) ^ 30 = 1073741824 from by decide]
    have : UU = 2 ^ XP := rfl
    rw [← this]
    omega
  · exfalso
    obtain ⟨s1, m1, I1, _, r1, _⟩ := FV_least
    obtain ⟨s2, m2, I2, _, r2, _⟩ := FV_most
    have e1 : FloatKind.f64.format.order x 13965043853221167104 = some (if s then .lt else .gt) := by
      show Ieee.Datum.order (DF.read x) (DF.read 13965043853221167104) = _
      rw [hs, r1]; rfl
    have e2 : FloatKind.f64.format.order x 4741671816366391296 = some (if s then .lt else .gt) := by
      show Ieee.Datum.order (DF.read x) (DF.read 4741671816366391296) = _
      rw [hs, r2]; rfl
    rw [e1] at hl
    rw [e2] at hm
    cases s
    · cases hm
    · cases hl
  · exfalso
    have e1 : FloatKind.f64.format.order x 13965043853221167104 = none := by
      show Ieee.Datum.order (DF.read x) (DF.read 13965043853221167104) = _
      rw [hn]; rfl
    rw [e1] at hl
    cases hl

/-- Blows of which Judge can be asked: at most 500, of n bells, each may be. -/
structure BOk (n : Nat) (L : List (Int × Nat)) : Prop where
  n1 : 1 ≤ n
  n12 : n ≤ 12
  l2 : 2 ≤ L.length
  l5 : L.length ≤ 500
  t : ∀ k, k < L.length → FB (timeAt L k) 30

section
variable {n : Nat} {L : List (Int × Nat)} (h : BOk n L)
include h

theorem BOk.beat {k : Nat} (hk : k < L.length) : FB (fi (beatN n k : Int)) 14 := by
  have h1 := beatN_le n k h.n1
  have h2 := h.l5
  exact FB.fi _ 14 (by rw [show (2 : Nat) ^ 14 = 16384 from by decide]; omega) (by decide)

theorem BOk.prod {k : Nat} (hk : k < L.length) : FOk .mul (fi (beatN n k : Int)) (timeAt L k) ∧ FB (prodAt n L k) 44 := (h.beat hk).mul (h.t k hk) (by decide)

theorem BOk.tT {k : Nat} (hk : k ≤ L.length) : TBd (tT L k) k 30 := by
  induction k with
  | zero => exact TBd.zero 30
  | succ k ih => exact ((ih (by omega)).add (h.t k (by omega)) (by have := h.l5; omega) (by decide)).2

theorem BOk.tU {k : Nat} (hk : k ≤ L.length) : TBd (tU n L k) k 44 := by
  induction k with
  | zero => exact TBd.zero 44
  | succ k ih => exact ((ih (by omega)).add (h.prod (k := k) (by omega)).2 (by have := h.l5; omega) (by decide)).2

theorem BOk.X : FB (fi (Xn n L.length : Int)) 23 := by
  have h1 := Xn_le n L.length h.n1 (by have := h.l5; omega)
  have h2 := h.l5
  exact FB.fi _ 23 (by rw [show (2 : Nat) ^ 23 = 8388608 from by decide]; omega) (by decide)

theorem BOk.N : FB (fi (L.length : Int)) 9 := by
  have h2 := h.l5
  exact FB.fi _ 9 (by rw [show (2 : Nat) ^ 9 = 512 from by decide]; omega) (by decide)

theorem BOk.D : 1 ≤ (L.length : Int) * (Qn n L.length : Int) - (Xn n L.length : Int) * (Xn n L.length : Int) ∧ ((L.length : Int) * (Qn n L.length : Int) - (Xn n L.length : Int) * (Xn n L.length : Int)).natAbs ≤ 9007199254740992 := by
  have h1 := Dn_pos n L.length h.n1 h.l2
  unfold Dn at h1
  have h2 := Qn_le n L.length h.n1 (by have := h.l5; omega)
  have h5 := h.l5
  have e1 : L.length * Qn n L.length ≤ 500 * 50000000000 := Nat.mul_le_mul h5 (by omega)
  have e2 : (L.length : Int) * (Qn n L.length : Int) ≤ 500 * 50000000000 := by rw [← Int.natCast_mul]; omega
  have e3 : 0 ≤ (Xn n L.length : Int) * (Xn n L.length : Int) := by rw [← Int.natCast_mul]; omega
  omega

/-- The line, ahead of the signs' being taken away. -/
theorem BOk.line0 : FB (sm (Go.Proofs.Ytbhmhgkbobajfaa.tT L L.length)) 48 ∧ FB (gap0 n L) 124 := by
  obtain ⟨_, vt⟩ := (h.tT (Nat.le_refl _)).sm h.l5 (by decide)
  obtain ⟨_, vu⟩ := (h.tU (Nat.le_refl _)).sm h.l5 (by decide)
  obtain ⟨_, va⟩ := h.N.mul vu (by decide)
  obtain ⟨_, vb⟩ := h.X.mul vt (by decide)
  obtain ⟨_, vc⟩ := va.sub (vb.mono (show 23 + (30 + 18) ≤ 9 + (44 + 18) by decide)) (by decide)
  exact ⟨vt, (vc.quo h.D.1 h.D.2 (by decide)).2⟩

theorem BOk.near : NOk n L := by
  obtain ⟨kt, vt⟩ := (h.tT (Nat.le_refl _)).sm h.l5 (by decide)
  obtain ⟨ku, vu⟩ := (h.tU (Nat.le_refl _)).sm h.l5 (by decide)
  obtain ⟨ka, va⟩ := h.N.mul vu (by decide)
  obtain ⟨kb, vb⟩ := h.X.mul vt (by decide)
  obtain ⟨kc, vc⟩ := va.sub (vb.mono (show 23 + (30 + 18) ≤ 9 + (44 + 18) by decide)) (by decide)
  obtain ⟨kg, vg⟩ := vc.quo h.D.1 h.D.2 (by decide)
  have vG : FB (gapOf n L) 124 := vg.uns
  obtain ⟨kd, vd⟩ := vG.mul h.X (by decide)
  obtain ⟨ke, ve⟩ := (vt.mono (show 30 + 18 ≤ 124 + 23 by decide)).sub vd (by decide)
  obtain ⟨kf, vf⟩ := ve.quo (d := (L.length : Int)) (by have := h.l2; omega) (by have := h.l5; omega) (by decide)
  have h5 := h.l5
  exact ⟨fun k hk => ((h.tT (Nat.le_of_lt hk)).add (h.t k hk) (by omega) (by decide)).1, fun k hk => (h.prod hk).1, fun k hk => ((h.tU (Nat.le_of_lt hk)).add (h.prod hk).2 (by omega) (by decide)).1, kt, ku, ka, kb, kc, kg, kd, ke, kf⟩

theorem BOk.line : FB (gapOf n L) 124 ∧ FB (startOf n L) 200 := by
  obtain ⟨vt, vg⟩ := h.line0
  have vG : FB (gapOf n L) 124 := vg.uns
  obtain ⟨kd, vd⟩ := vG.mul h.X (by decide)
  obtain ⟨ke, ve⟩ := (vt.mono (show 48 ≤ 124 + 23 by decide)).sub vd (by decide)
  obtain ⟨kf, vf⟩ := ve.quo (d := (L.length : Int)) (by have := h.l2; omega) (by have := h.l5; omega) (by decide)
  exact ⟨vG, (FB.uns vf).mono (by decide)⟩

theorem BOk.off {k : Nat} (hk : k < L.length) : FOk .mul (gapOf n L) (fi (beatN n k)) ∧ FOk .add (startOf n L) (fop .mul (gapOf n L) (fi (beatN n k))) ∧
    FOk .sub (timeAt L k) (fop .add (startOf n L) (fop .mul (gapOf n L) (fi (beatN n k)))) ∧ FB (dAt n L k) 202 := by
  obtain ⟨vG, vS⟩ := h.line
  obtain ⟨k1, v1⟩ := vG.mul (h.beat hk) (by decide)
  obtain ⟨k2, v2⟩ := vS.add (v1.mono (show 124 + 14 ≤ 200 by decide)) (by decide)
  obtain ⟨k3, v3⟩ := ((h.t k hk).mono (show 30 ≤ 200 + 1 by decide)).sub v2 (by decide)
  exact ⟨k1, k2, k3, v3⟩

theorem BOk.tO {k : Nat} (hk : k ≤ L.length) : TBd (tO n L k) k 202 := by
  induction k with
  | zero => exact TBd.zero 202
  | succ k ih => exact ((ih (by omega)).add (h.off (k := k) (by omega)).2.2.2.abs (by have := h.l5; omega) (by decide)).2

theorem BOk.sqr {k : Nat} (hk : k < L.length) : FOk .mul (dAt n L k) (dAt n L k) ∧ FB (fop .mul (dAt n L k) (dAt n L k)) 404 := (h.off hk).2.2.2.mul (h.off hk).2.2.2 (by decide)

theorem BOk.tQ {k : Nat} (hk : k ≤ L.length) : TBd (tQ n L k) k 404 := by
  induction k with
  | zero => exact TBd.zero 404
  | succ k ih => exact ((ih (by omega)).add (h.sqr (k := k) (by omega)).2 (by have := h.l5; omega) (by decide)).2

theorem BOk.own {k : Nat} (hk : k ≤ L.length) (j : Nat) : TBd ((ownS n L k).getD j (0, 0)) k 202 := by
  induction k generalizing j with
  | zero =>
    simp only [ownS, List.getD, List.getElem?_replicate]
    split <;> exact TBd.zero 202
  | succ k ih =>
    have h1 := ih (by omega)
    simp only [ownS]
    rw [getD_put]
    split
    · exact ((h1 _).add (h.off (k := k) (by omega)).2.2.2 (by have := h.l5; omega) (by decide)).2
    · exact (h1 j).mono (by omega)

theorem BOk.judge : JOk n L := by
  have h5 := h.l5
  have h2 := h.l2
  have qo := (h.tO (Nat.le_refl _)).sm h5 (by decide)
  have qq := (h.tQ (Nat.le_refl _)).sm h5 (by decide)
  refine ⟨h.near, fun k hk => (h.off hk).1, fun k hk => (h.off hk).2.1, fun k hk => (h.off hk).2.2.1, fun k hk => (h.off hk).2.2.2.lt, fun k hk => ((h.tO (Nat.le_of_lt hk)).add (h.off hk).2.2.2.abs (by omega) (by decide)).1, fun k hk => (h.sqr hk).1,
    fun k hk => ((h.tQ (Nat.le_of_lt hk)).add (h.sqr hk).2 (by omega) (by decide)).1, fun k hk => ((h.own (Nat.le_of_lt hk) _).add (h.off hk).2.2.2 (by omega) (by decide)).1, qo.1, ?_, qq.1, ?_, fun i _ => ((h.own (Nat.le_refl _) i).sm h5 (by decide)).1, fun i _ hi => ?_⟩
  · exact (qo.2.quo (d := (L.length : Int)) (by omega) (by omega) (by decide)).1
  · exact (qq.2.quo (d := (L.length : Int)) (by omega) (by omega) (by decide)).1
  · have hle := manS_le n L L.length i
    exact (((h.own (Nat.le_refl _) i).sm h5 (by decide)).2.quo (by omega) (by omega) (by decide)).1

end

theorem BOk.of {n : Nat} {L : List (Int × Nat)} (hc : chkB n L = 0) (h5 : L.length ≤ 500) (hx : ∀ k, k < L.length → timeAt L k < 18446744073709551616) : BOk n L ∧ ∀ k, k < L.length → 0 ≤ (L.getD k (0, 0)).1 ∧ (L.getD k (0, 0)).1 < n := by
  unfold chkB at hc
  by_cases h1 : (n : Int) < 1 ∨ 12 < (n : Int) ∨ L.length < 2
  · rw [if_pos h1] at hc; cases hc
  rw [if_neg h1] at hc
  by_cases h2 : 5000 < L.length
  · omega
  rw [if_neg h2] at hc
  by_cases h3 : ∃ k, k < L.length ∧ badB n L k = true
  · rw [if_pos h3] at hc; cases hc
  have h4 : ∀ k, k < L.length → badB n L k = false := fun k hk => by
    cases hb : badB n L k with
    | false => rfl
    | true => exact absurd ⟨k, hk, hb⟩ h3
  have h6 : ∀ k, k < L.length → mayB (timeAt L k) = true ∧ 0 ≤ (L.getD k (0, 0)).1 ∧ (L.getD k (0, 0)).1 < n := fun k hk => by
    have := h4 k hk
    unfold badB at this
    simp only [Bool.or_eq_false_iff, decide_eq_false_iff_not, Bool.not_eq_false'] at this
    obtain ⟨⟨⟨a, b⟩, c⟩, _⟩ := this
    exact ⟨c, by omega, by omega⟩
  exact ⟨⟨by omega, by omega, by omega, h5, fun k hk => mayB_FB (hx k hk) (h6 k hk).1⟩, fun k hk => (h6 k hk).2⟩

end Go.Proofs.Ytbhmhgkbobajfaa

/- Floats that are alike but for the sign of a nought; totals of lists. -/
namespace Go.Proofs.Ytbhmhgkbobajfaa
open Go.RowKit
set_option maxRecDepth 20000
set_option linter.unusedVariables false

def isz (x : Nat) : Prop := x = 0 ∨ x = 9223372036854775808

/-- The same, or both a nought. -/
def Zq (x y : Nat) : Prop := x = y ∨ isz x ∧ isz y

theorem Zq.refl (x : Nat) : Zq x x := Or.inl rfl

theorem Zq.symm {x y : Nat} (h : Zq x y) : Zq y x := h.elim (fun e => Or.inl e.symm) (fun e => Or.inr ⟨e.2, e.1⟩)

theorem Zq.trans {x y z : Nat} (h : Zq x y) (k : Zq y z) : Zq x z := by
  rcases h with rfl | ⟨h1, h2⟩
  · exact k
  · rcases k with rfl | ⟨k1, k2⟩
    · exact Or.inr ⟨h1, h2⟩
    · exact Or.inr ⟨h1, k2⟩

theorem isz.lt {x : Nat} (h : isz x) : x < 18446744073709551616 := by rcases h with h | h <;> omega

theorem Zq.lt {x y : Nat} (h : Zq x y) (hx : x < 18446744073709551616) : y < 18446744073709551616 := by
  rcases h with rfl | ⟨_, h⟩
  · exact hx
  · exact h.lt

theorem isz.read {x : Nat} (h : isz x) : ∃ s, DF.read x = .number s 0 (-1074) := by
  rcases h with rfl | rfl
  · exact ⟨false, by kernel_rfl⟩
  · exact ⟨true, by kernel_rfl⟩

theorem isz.fabs {x : Nat} (h : isz x) : fabs x = 0 := by rcases h with rfl | rfl <;> rfl

theorem Zq.fabs {x y : Nat} (h : Zq x y) : fabs x = fabs y := by
  rcases h with rfl | ⟨h1, h2⟩
  · rfl
  · rw [h1.fabs, h2.fabs]

theorem isz_word (s : Bool) : isz (DF.word s 0) := by
  cases s
  · exact Or.inl (by kernel_rfl)
  · exact Or.inr (by kernel_rfl)

theorem isz_write (s : Bool) (i : Int) : isz (DF.write (.number s 0 i)) := by
  show isz (DF.nearest s 0 i)
  unfold Ieee.Format.nearest
  rw [if_pos rfl]
  exact isz_word s

/-- Data that are the same but for the sign of a nought. -/
def Dq (a b : Ieee.Datum) : Prop := a = b ∨ ∃ s t i, a = .number s 0 i ∧ b = .number t 0 i

theorem Zq.read {x y : Nat} (h : Zq x y) : Dq (DF.read x) (DF.read y) := by
  rcases h with rfl | ⟨h1, h2⟩
  · exact Or.inl rfl
  · obtain ⟨s, e1⟩ := h1.read
    obtain ⟨t, e2⟩ := h2.read
    exact Or.inr ⟨s, t, -1074, e1, e2⟩

theorem Dq.write {a b : Ieee.Datum} (h : Dq a b) : Zq (DF.write a) (DF.write b) := by
  rcases h with rfl | ⟨s, t, i, rfl, rfl⟩
  · exact Zq.refl _
  · exact Or.inr ⟨isz_write _ _, isz_write _ _⟩

theorem Dq.opposite {a b : Ieee.Datum} (h : Dq a b) : Dq a.opposite b.opposite := by
  rcases h with rfl | ⟨s, t, i, rfl, rfl⟩
  · exact Or.inl rfl
  · exact Or.inr ⟨!s, !t, i, rfl, rfl⟩

/-- Both have an answer, and these are alike. -/
def Oq (a b : Option Ieee.Datum) : Prop := ∀ r, a = some r → ∃ q, b = some q ∧ Dq r q

theorem signed_zero (s : Bool) (u : Nat) : Ieee.signed s 0 u = 0 := by rw [signed_eq]; simp

theorem sum_alike (s s' t t' : Bool) (m n : Nat) (i j : Int) (h1 : m = 0 ∨ s = s') (h2 : n = 0 ∨ t = t') : Oq (Ieee.Datum.sum (.number s m i) (.number t n j)) (Ieee.Datum.sum (.number s' m i) (.number t' n j)) := by
  intro r hr
  simp only [Ieee.Datum.sum] at hr ⊢
  have e1 : ∀ u, Ieee.signed s m u = Ieee.signed s' m u := fun u => by
    rcases h1 with rfl | rfl
    · rw [signed_zero, signed_zero]
    · rfl
  have e2 : ∀ u, Ieee.signed t n u = Ieee.signed t' n u := fun u => by
    rcases h2 with rfl | rfl
    · rw [signed_zero, signed_zero]
    · rfl
  rw [e1, e2] at hr
  injection hr with hr
  refine ⟨_, rfl, ?_⟩
  rw [← hr]
  by_cases h0 : Ieee.signed s' m (i - min i j).toNat + Ieee.signed t' n (j - min i j).toNat = 0
  · rw [h0, if_pos rfl, if_pos rfl]
    exact Or.inr ⟨_, _, _, rfl, rfl⟩
  · rw [if_neg h0, if_neg h0]
    exact Or.inl rfl

theorem Dq.sum {a a' b b' : Ieee.Datum} (ha : Dq a a') (hb : Dq b b') : Oq (a.sum b) (a'.sum b') := by
  rcases ha with rfl | ⟨s, s', i, rfl, rfl⟩
  · rcases hb with rfl | ⟨t, t', j, rfl, rfl⟩
    · intro r hr; exact ⟨r, hr, Or.inl rfl⟩
    · cases a with
      | nan => intro r hr; cases hr
      | infinity s => intro r hr; exact ⟨r, hr, Or.inl rfl⟩
      | number s m i => exact sum_alike s s t t' m 0 i j (Or.inr rfl) (Or.inl rfl)
  · rcases hb with rfl | ⟨t, t', j, rfl, rfl⟩
    · cases b with
      | nan => intro r hr; cases hr
      | infinity t => intro r hr; exact ⟨r, hr, Or.inl rfl⟩
      | number t n j => exact sum_alike s s' t t 0 n i j (Or.inl rfl) (Or.inr rfl)
    · exact sum_alike s s' t t' 0 0 i j (Or.inl rfl) (Or.inl rfl)

theorem Dq.product {a a' b b' : Ieee.Datum} (ha : Dq a a') (hb : Dq b b') : Oq (a.product b) (a'.product b') := by
  rcases ha with rfl | ⟨s, s', i, rfl, rfl⟩
  · rcases hb with rfl | ⟨t, t', j, rfl, rfl⟩
    · intro r hr; exact ⟨r, hr, Or.inl rfl⟩
    · cases a with
      | nan => intro r hr; cases hr
      | infinity s => intro r hr; cases hr
      | number s m i =>
        intro r hr
        simp only [Ieee.Datum.product, Nat.mul_zero] at hr ⊢
        injection hr with hr
        exact ⟨_, rfl, Or.inr ⟨_, _, _, hr.symm, rfl⟩⟩
  · rcases hb with rfl | ⟨t, t', j, rfl, rfl⟩
    · cases b with
      | nan => intro r hr; cases hr
      | infinity t => intro r hr; cases hr
      | number t n j =>
        intro r hr
        simp only [Ieee.Datum.product, Nat.zero_mul] at hr ⊢
        injection hr with hr
        exact ⟨_, rfl, Or.inr ⟨_, _, _, hr.symm, rfl⟩⟩
    · intro r hr
      simp only [Ieee.Datum.product, Nat.zero_mul] at hr ⊢
      injection hr with hr
      exact ⟨_, rfl, Or.inr ⟨_, _, _, hr.symm, rfl⟩⟩

theorem Dq.quotient {a a' b : Ieee.Datum} (ha : Dq a a') : Oq (a.quotient 54 b) (a'.quotient 54 b) := by
  rcases ha with rfl | ⟨s, s', i, rfl, rfl⟩
  · intro r hr; exact ⟨r, hr, Or.inl rfl⟩
  · cases b with
    | nan => intro r hr; cases hr
    | infinity t =>
      intro r hr
      simp only [Ieee.Datum.quotient] at hr ⊢
      injection hr with hr
      exact ⟨_, rfl, Or.inr ⟨_, _, _, hr.symm, rfl⟩⟩
    | number t n j =>
      intro r hr
      simp only [Ieee.Datum.quotient] at hr ⊢
      by_cases hn : n = 0
      · rw [if_pos hn, if_pos trivial] at hr; cases hr
      · rw [if_neg hn] at hr ⊢
        injection hr with hr
        refine ⟨_, rfl, ?_⟩
        rw [← hr]
        simp only [Nat.zero_shiftLeft, Nat.zero_div, Nat.zero_mod, Nat.mul_zero, bne_self_eq_false, Bool.toNat_false, Nat.add_zero]
        exact Or.inr ⟨_, _, _, rfl, rfl⟩

theorem Oq.map {a b : Option Ieee.Datum} (h : Oq a b) {r : Nat} (hr : a.map DF.write = some r) : ∃ q, b.map DF.write = some q ∧ Zq r q := by
  cases a with
  | none => cases hr
  | some d =>
    obtain ⟨q, e, hd⟩ := h d rfl
    injection hr with hr
    exact ⟨_, by rw [e]; rfl, by rw [← hr]; exact hd.write⟩

theorem fop_alike {op : BinOp} {x y x' y' : Nat} (h : FOk op x y) (h2 : ∀ r, floatBits op .f64 x y = some r → ∃ q, floatBits op .f64 x' y' = some q ∧ Zq r q) : FOk op x' y' ∧ Zq (fop op x y) (fop op x' y') := by
  obtain ⟨q, e, hz⟩ := h2 _ h
  obtain ⟨k1, k2⟩ := FOk.of e
  exact ⟨k1, by rw [k2]; exact hz⟩

theorem Zq.add {x y x' y' : Nat} (h : FOk .add x y) (hx : Zq x x') (hy : Zq y y') : FOk .add x' y' ∧ Zq (fop .add x y) (fop .add x' y') :=
  fop_alike h (fun r hr => (hx.read.sum hy.read).map hr)

theorem Zq.sub {x y x' y' : Nat} (h : FOk .sub x y) (hx : Zq x x') (hy : Zq y y') : FOk .sub x' y' ∧ Zq (fop .sub x y) (fop .sub x' y') :=
  fop_alike h (fun r hr => (hx.read.sum hy.read.opposite).map hr)

theorem Zq.mul {x y x' y' : Nat} (h : FOk .mul x y) (hx : Zq x x') (hy : Zq y y') : FOk .mul x' y' ∧ Zq (fop .mul x y) (fop .mul x' y') :=
  fop_alike h (fun r hr => (hx.read.product hy.read).map hr)

theorem Zq.quo {x y x' : Nat} (h : FOk .quo x y) (hx : Zq x x') : FOk .quo x' y ∧ Zq (fop .quo x y) (fop .quo x' y) :=
  fop_alike h (fun r hr => (Dq.quotient hx.read).map hr)

theorem fge_alike {a x a' x' : Nat} (ha : Zq a a') (hx : Zq x x') : fge a x = fge a' x' := by
  have h1 := ha.fabs
  have h2 := hx.fabs
  unfold fabs at h1 h2
  unfold fge
  rw [h1, h2]

theorem tad_alike {s s' : Nat × Nat} {x x' : Nat} (h : TOk s x) (h1 : Zq s.1 s'.1) (h2 : Zq s.2 s'.2) (hx : Zq x x') : TOk s' x' ∧ Zq (tad s x).1 (tad s' x').1 ∧ Zq (tad s x).2 (tad s' x').2 := by
  obtain ⟨k1, z1⟩ := Zq.add h.ok h1 hx
  have hf := fge_alike h1 hx
  cases hg : fge s.1 x with
  | true =>
    obtain ⟨a1, a2, a3⟩ := h.ge hg
    obtain ⟨k2, z2⟩ := Zq.sub a1 h1 z1
    obtain ⟨k3, z3⟩ := Zq.add a2 z2 hx
    obtain ⟨k4, z4⟩ := Zq.add a3 h2 z3
    rw [hg] at hf
    refine ⟨⟨h1.lt h.la, hx.lt h.lx, k1, fun _ => ⟨k2, k3, k4⟩, fun e => by rw [← hf] at e; cases e⟩, z1, ?_⟩
    unfold tad
    rw [hg, ← hf]
    exact z4
  | false =>
    obtain ⟨a1, a2, a3⟩ := h.lt hg
    obtain ⟨k2, z2⟩ := Zq.sub a1 hx z1
    obtain ⟨k3, z3⟩ := Zq.add a2 z2 h1
    obtain ⟨k4, z4⟩ := Zq.add a3 h2 z3
    rw [hg] at hf
    refine ⟨⟨h1.lt h.la, hx.lt h.lx, k1, fun e => (by rw [← hf] at e; cases e), fun _ => ⟨k2, k3, k4⟩⟩, z1, ?_⟩
    unfold tad
    rw [hg, ← hf]
    exact z4

theorem isz.uns {x : Nat} (h : isz x) : uns x = 0 := by
  unfold Go.Proofs.Ytbhmhgkbobajfaa.uns
  have : (FloatKind.f64.format.order x 0 == some .eq) = true := by
    rcases h with rfl | rfl
    · kernel_rfl
    · kernel_rfl
  rw [if_pos this]

theorem Zq.uns {x y : Nat} (h : Zq x y) : uns x = uns y := by
  rcases h with rfl | ⟨h1, h2⟩
  · rfl
  · rw [h1.uns, h2.uns]

/-- A float of no unit is a nought. -/
theorem FV.isz {x : Nat} (h : FV x 0) : isz x := by
  obtain ⟨s, m, I, hlt, e1, _, h2⟩ := h
  have hm : m = 0 := by
    have := signed_natAbs s m I
    rw [← h2] at this
    rcases Nat.mul_eq_zero.1 this.symm with h | h
    · exact h
    · have := Nat.two_pow_pos I; omega
  subst hm
  have h1 : DF.signWeight = 9223372036854775808 := by decide
  have h2 : DF.binade = 4503599627370496 := by decide
  unfold Ieee.Format.read at e1
  simp only [h1, h2] at e1
  split at e1
  · injection e1 with _ p _
    unfold Go.Proofs.Ytbhmhgkbobajfaa.isz
    omega
  · split at e1
    · injection e1 with _ p _
      omega
    · split at e1 <;> cases e1

theorem uns_alike {x : Nat} {v : Int} (h : FV x v) : Zq x (uns x) := by
  unfold Go.Proofs.Ytbhmhgkbobajfaa.uns
  split
  · rename_i h0
    have h1 : FloatKind.f64.format.order x 0 = some (compare v 0) := order_fv h FV_zero
    rw [h1] at h0
    have h3 : compare v 0 = .eq := by simpa using h0
    have h4 := Int.compare_eq_eq.1 h3
    subst h4
    exact Or.inr ⟨FV.isz h, Or.inl rfl⟩
  · exact Zq.refl _

/-- The total of a list. -/
def tl (F : List Nat) : Nat × Nat := F.foldl tad (0, 0)

theorem tl_snoc (F : List Nat) (x : Nat) : tl (F ++ [x]) = tad (tl F) x := by unfold tl; rw [List.foldl_append]; rfl

/-- All of a list's sum is valid, but for the last step. -/
def TAll (F : List Nat) : Prop := ∀ i, i < F.length → TOk (tl (F.take i)) (F.getD i 0)

theorem TAll.nil : TAll [] := fun i hi => by simp at hi

theorem TAll.snoc {F : List Nat} {x : Nat} (h : TAll F) (hx : TOk (tl F) x) : TAll (F ++ [x]) := by
  intro i hi
  rw [List.length_append, List.length_singleton] at hi
  rcases Nat.lt_or_ge i F.length with h1 | h1
  · rw [List.take_append_of_le_length (by omega)]
    have : (F ++ [x]).getD i 0 = F.getD i 0 := by simp [List.getD, List.getElem?_append_left h1]
    rw [this]
    exact h i h1
  · obtain rfl : i = F.length := by omega
    have : (F ++ [x]).getD F.length 0 = x := by simp [List.getD]
    rw [List.take_left, this]
    exact hx

/-- The first k numbers of a row. -/
def fl (f : Nat → Nat) (k : Nat) : List Nat := (List.range k).map f

theorem fl_succ (f : Nat → Nat) (k : Nat) : fl f (k + 1) = fl f k ++ [f k] := by simp [fl, List.range_succ]

theorem fl_length (f : Nat → Nat) (k : Nat) : (fl f k).length = k := by simp [fl]

theorem tT_fl (L : List (Int × Nat)) (k : Nat) : tl (fl (timeAt L) k) = tT L k := by
  induction k with
  | zero => rfl
  | succ k ih => rw [fl_succ, tl_snoc, ih]; rfl

theorem tU_fl (n : Nat) (L : List (Int × Nat)) (k : Nat) : tl (fl (prodAt n L) k) = tU n L k := by
  induction k with
  | zero => rfl
  | succ k ih => rw [fl_succ, tl_snoc, ih]; rfl

end Go.Proofs.Ytbhmhgkbobajfaa

/- The answer's small functions on floats: near, plusNought, SameFloat, Added, BlowsMay. -/
namespace Go.Proofs.Ytbhmhgkbobajfaa
open Go.RowKit
set_option maxRecDepth 20000
set_option linter.unusedVariables false

theorem near_ok (x : Nat) (w : World) : Calls Try.prog 14 #[.float .f64 x] w fun e w' => e = .returned (.bool (mayB x)) ∧ w = w' := by
  unfold mayB
  cases h1 : (FloatKind.f64.format.order x 13965043853221167104 == some .gt || FloatKind.f64.format.order x 13965043853221167104 == some .eq) <;> cases h2 : (FloatKind.f64.format.order x 4741671816366391296 == some .lt || FloatKind.f64.format.order x 4741671816366391296 == some .eq)
  all_goals
    go_enter Try.func14, Try.ntmps14
    go_wp2
    all_goals (go_ret; exact ⟨rfl, rfl⟩)

theorem plusNought_ok (x : Nat) (w : World) : Calls Try.prog 15 #[.float .f64 x] w fun e w' => e = .returned (.float .f64 (uns x)) ∧ w = w' := by
  by_cases h : (FloatKind.f64.format.order x 0 == some .eq) = true
  · have hu : uns x = 0 := by unfold uns; rw [if_pos h]
    rw [hu]
    clear hu
    go_enter Try.func15, Try.ntmps15
    go_wp2
    go_ret
    exact ⟨rfl, rfl⟩
  · have hu : uns x = x := by unfold uns; rw [if_neg h]
    rw [hu]
    clear hu
    go_enter Try.func15, Try.ntmps15
    go_wp2
    go_ret
    exact ⟨rfl, rfl⟩

/-- Floats behind a slice value. -/
def Fls (w : World) (v : Value) (F : List Nat) : Prop :=
  (F = [] ∧ ∃ p c, v = .slice p 0 c) ∨
  ∃ b off cap, v = .slice (some ⟨b, off, none⟩) F.length cap ∧ 0 < F.length ∧ F.length ≤ cap ∧ cap ≤ 9223372036854775807 ∧ b < w.heap.size ∧
    ∀ j, j < F.length → w.cell? ⟨b, off + j, none⟩ = some (.float .f64 (F.getD j 0))

theorem Fls.form {w : World} {v : Value} {F : List Nat} (h : Fls w v F) : ∃ p cap, v = .slice p F.length cap := by
  rcases h with ⟨rfl, p, c, rfl⟩ | ⟨b, off, cap, h1, _⟩
  · exact ⟨p, c, rfl⟩
  · exact ⟨_, cap, h1⟩

theorem Fls.own {w : World} {base e : Nat} {v : Value} {n : Nat} {F : List Nat} (h : w.ownsRow base e 1 v n (F.map (Value.float .f64))) : Fls w v F := by
  obtain ⟨h1, h2⟩ := h
  rw [List.length_map, Nat.mul_one] at h1
  subst h1
  rcases h2 with ⟨rfl, h⟩ | ⟨g, cap, cur, hv, _, hh, hn, hm, hs, ht⟩
  · exact Or.inl ⟨List.length_eq_zero_iff.1 h, none, 0, rfl⟩
  · rcases Nat.eq_zero_or_pos F.length with h0 | h0
    · exact Or.inl ⟨List.length_eq_zero_iff.1 h0, _, cap, by rw [hv, h0]⟩
    · refine Or.inr ⟨g, 0, cap, hv, h0, hn, by unfold maxLen at hm; omega, ?_, fun j hj => ?_⟩
      · exact (Array.getElem?_eq_some_iff.1 hh).1
      · have hown : w.ownsRow base e 1 v F.length (F.map (Value.float .f64)) := ⟨by simp, Or.inr ⟨g, cap, cur, hv, ‹_›, hh, hn, hm, hs, ht⟩⟩
        have := hown.cells (g := g) (by rw [hv]; rfl) j (.float .f64 (F.getD j 0)) (by simp [List.getElem?_map, List.getD, List.getElem?_eq_getElem hj])
        rw [Addr.add_lit] at this
        exact this

theorem Fls.blk {w : World} {g : Nat} {F : List Nat} (h : FlsB w g F) (hl : F.length ≤ 1000) : Fls w (.slice (some ⟨g, 0, none⟩) F.length F.length) F := by
  rcases Nat.eq_zero_or_pos F.length with h0 | h0
  · exact Or.inl ⟨List.length_eq_zero_iff.1 h0, _, _, by rw [h0]⟩
  · exact Or.inr ⟨g, 0, _, rfl, h0, Nat.le_refl _, by omega, (Array.getElem?_eq_some_iff.1 h).1, fun j hj => by rw [Nat.zero_add]; exact (FlsB.cell h hj).1⟩

set_option maxHeartbeats 2000000 in
theorem added_ok (v : Value) (F : List Nat) (w : World) (hF : Fls w v F) (hl : F.length ≤ 10000) (hT : TAll F) (hs : FOk .add (tl F).1 (tl F).2) :
    Calls Try.prog 16 #[v] w fun e w' => e = .returned (.float .f64 (sm (tl F))) ∧ w = w' := by
  have HS := hide hs
  have HT := hide hT
  obtain ⟨R, hR⟩ : ∃ R, Hid (sm (tl F) = R) := ⟨_, rfl⟩
  rw [hR.out]
  obtain ⟨m, hm⟩ : ∃ m, Hid (F.length = m) := ⟨_, rfl⟩
  have hm2 : m ≤ 10000 := by rw [← hm.out]; exact hl
  obtain ⟨p, cap, hv⟩ : ∃ p cap, v = .slice p m cap := by rw [← hm.out]; exact hF.form
  subst hv
  have HC : ∀ k, k < m → Hid (∃ b off, p = some ⟨b, off, none⟩ ∧ m ≤ cap ∧ cap ≤ 9223372036854775807 ∧ w.cell? ⟨b, off + k, none⟩ = some (.float .f64 (F.getD k 0))) := fun k hk => by
    rcases hF with ⟨h1, _⟩ | ⟨b, off, cap', e, h0, h1, h2, h3, hc⟩
    · have := hm.out; rw [h1] at this; simp at this; omega
    · injection e with e1 e2 e3
      subst e3
      have := hm.out
      exact ⟨b, off, e1, by omega, h2, hc k (by omega)⟩
  clear hF hl hT hs
  go_enter Try.func16, Try.ntmps16
  go_wp2
  go_loop [3, 4, 5] (fun a l i => ∃ (k : Nat) (sa sl : Nat), k ≤ m ∧ i = .int .i64 k ∧ a = .float .f64 sa ∧ l = .float .f64 sl ∧ Hid (tl (F.take k) = (sa, sl))) (fun _ _ i => m - (intOf i).toNat)
  case atStart => exact ⟨0, 0, 0, by omega, rfl, rfl, rfl, rfl⟩
  case round =>
    obtain ⟨k, sa, sl, hk, rfl, rfl, rfl, hst⟩ := hrel
    by_cases hlt : k < m
    · obtain ⟨b, off, rfl, hcap, hcap2, hcell⟩ := (HC k hlt).out
      have hkF : k < F.length := by rw [hm.out]; exact hlt
      have hTk := HT.out k hkF
      rw [hst.out] at hTk
      have HN : Hid (tl (F.take (k + 1)) = tad (sa, sl) (F.getD k 0)) := by
        show tl (F.take (k + 1)) = tad (sa, sl) (F.getD k 0)
        rw [List.take_succ_eq_append_getElem hkF, tl_snoc, hst.out]
        simp [List.getD, List.getElem?_eq_getElem hkF]
      generalize F.getD k 0 = x at *
      have hxa := hTk.la
      have hxl := hTk.lx
      cases hg : fge sa x with
      | true =>
        obtain ⟨k2, k3, k4⟩ := hTk.ge hg
        have k1 := hTk.ok
        have HE : Hid (tad (sa, sl) x = (fop .add sa x, fop .add sl (fop .add (fop .sub sa (fop .add sa x)) x))) := by unfold tad; rw [hg]; exact rfl
        have hg2 : (FloatKind.f64.format.order (sa % 9223372036854775808) (x % 9223372036854775808) == some .gt || FloatKind.f64.format.order (sa % 9223372036854775808) (x % 9223372036854775808) == some .eq) = true := hg
        have r1 := fun w => run_float_arith (P := Try.prog) w .add 23 .f64 _ _ _ k1
        have r2 := fun w => run_float_arith (P := Try.prog) w .sub 23 .f64 _ _ _ k2
        have r3 := fun w => run_float_arith (P := Try.prog) w .add 23 .f64 _ _ _ k3
        have r4 := fun w => run_float_arith (P := Try.prog) w .add 23 .f64 _ _ _ k4
        dsimp only at r1 r2 r3 r4
        clear k1 k2 k3 k4 hTk hg
        generalize fop .add sl (fop .add (fop .sub sa (fop .add sa x)) x) = q4 at *
        generalize fop .add (fop .sub sa (fop .add sa x)) x = q3 at *
        generalize fop .sub sa (fop .add sa x) = q2 at *
        generalize fop .add sa x = q1 at *
        go_wp2_with fail
        refine (abs_ok _ hxa _).mono ?_
        rintro e0 w0 ⟨rfl, rfl⟩
        go_wp2_with fail
        refine (abs_ok _ hxl _).mono ?_
        rintro e0 w0 ⟨rfl, rfl⟩
        go_wp2
        go_round
        case rel => exact ⟨k + 1, q1, q4, by omega, by go_num, rfl, rfl, HN.out.trans HE.out⟩
        case measure => simp [intOf]; omega
      | false =>
        obtain ⟨k2, k3, k4⟩ := hTk.lt hg
        have k1 := hTk.ok
        have HE : Hid (tad (sa, sl) x = (fop .add sa x, fop .add sl (fop .add (fop .sub x (fop .add sa x)) sa))) := by unfold tad; rw [hg]; exact rfl
        have hg2 : (FloatKind.f64.format.order (sa % 9223372036854775808) (x % 9223372036854775808) == some .gt || FloatKind.f64.format.order (sa % 9223372036854775808) (x % 9223372036854775808) == some .eq) = false := hg
        have r1 := fun w => run_float_arith (P := Try.prog) w .add 23 .f64 _ _ _ k1
        have r2 := fun w => run_float_arith (P := Try.prog) w .sub 23 .f64 _ _ _ k2
        have r3 := fun w => run_float_arith (P := Try.prog) w .add 23 .f64 _ _ _ k3
        have r4 := fun w => run_float_arith (P := Try.prog) w .add 23 .f64 _ _ _ k4
        dsimp only at r1 r2 r3 r4
        clear k1 k2 k3 k4 hTk hg
        generalize fop .add sl (fop .add (fop .sub x (fop .add sa x)) sa) = q4 at *
        generalize fop .add (fop .sub x (fop .add sa x)) sa = q3 at *
        generalize fop .sub x (fop .add sa x) = q2 at *
        generalize fop .add sa x = q1 at *
        go_wp2_with fail
        refine (abs_ok _ hxa _).mono ?_
        rintro e0 w0 ⟨rfl, rfl⟩
        go_wp2_with fail
        refine (abs_ok _ hxl _).mono ?_
        rintro e0 w0 ⟨rfl, rfl⟩
        go_wp2
        go_round
        case rel => exact ⟨k + 1, q1, q4, by omega, by go_num, rfl, rfl, HN.out.trans HE.out⟩
        case measure => simp [intOf]; omega
    · have hks : tl F = (sa, sl) := by rw [← hst.out, List.take_of_length_le (by rw [hm.out]; omega)]
      have hs := HS.out
      have hr := hR.out
      unfold sm at hr
      rw [hks] at hs hr
      dsimp only at hs hr
      have r1 := fun w => run_float_arith (P := Try.prog) w .add 23 .f64 _ _ _ hs
      rw [hr] at r1
      clear HT HS hst hks hs hr HC hR
      go_wp2
      go_ret
      exact ⟨rfl, rfl⟩

end Go.Proofs.Ytbhmhgkbobajfaa

/- The answer's SameFloat and BlowsMay. -/
namespace Go.Proofs.Ytbhmhgkbobajfaa
open Go.RowKit
set_option maxRecDepth 20000
set_option linter.unusedVariables false

/-- x is a number (or an infinity). -/
def Num (x : Nat) : Prop := FloatKind.f64.format.order x x = some .eq
/-- x is none. -/
def Nan (x : Nat) : Prop := FloatKind.f64.format.order x x = none

theorem Nan.of {x : Nat} {s : Bool} {f : Nat} (h : DF.read x = .nan s f) : Nan x := by
  show Ieee.Datum.order (DF.read x) (DF.read x) = none
  rw [h]; rfl

theorem Num.fv {x : Nat} {v : Int} (h : FV x v) : Num x := by
  have e : FloatKind.f64.format.order x x = some (compare v v) := order_fv h h
  unfold Num
  rw [e]
  congr 1
  exact Int.compare_eq_eq.2 rfl

theorem Num.inf {x : Nat} {s : Bool} (h : DF.read x = .infinity s) : Num x := by
  show Ieee.Datum.order (DF.read x) (DF.read x) = some .eq
  rw [h]
  cases s <;> rfl

set_option maxHeartbeats 1000000 in
theorem same_num (x : Nat) (w : World) (h : Num x) (hz : (FloatKind.f64.format.order x 0 == some .eq) = true → isz x) :
    Calls Try.prog 9 #[.float .f64 x, .float .f64 x] w fun e w' => e = .returned (.bool true) ∧ w = w' := by
  have h1 : FloatKind.f64.format.order x x = some .eq := h
  by_cases h0 : (FloatKind.f64.format.order x 0 == some .eq) = true
  · have h2 : FloatKind.f64.format.order x 0 = some .eq := by simpa using h0
    obtain ⟨r, hr, hrr⟩ : ∃ r, floatBits .quo .f64 4607182418800017408 x = some r ∧ FloatKind.f64.format.order r r = some .eq := by
      rcases hz h0 with rfl | rfl
      · exact ⟨9218868437227405312, by kernel_rfl, by kernel_rfl⟩
      · exact ⟨18442240474082181120, by kernel_rfl, by kernel_rfl⟩
    have r1 := fun w => run_float_arith (P := Try.prog) w .quo 23 .f64 _ _ _ hr
    clear hr hz h0 h
    go_enter Try.func9, Try.ntmps9
    go_wp2
    go_ret
    exact ⟨rfl, rfl⟩
  · have h2 : ¬ FloatKind.f64.format.order x 0 = some .eq := by simpa using h0
    clear hz h0 h
    go_enter Try.func9, Try.ntmps9
    go_wp2
    go_ret
    exact ⟨rfl, rfl⟩

theorem same_nan (x y : Nat) (w : World) (hx : Nan x) (hy : Nan y) : Calls Try.prog 9 #[.float .f64 x, .float .f64 y] w fun e w' => e = .returned (.bool true) ∧ w = w' := by
  have h1 : FloatKind.f64.format.order x x = none := hx
  have h2 : FloatKind.f64.format.order y y = none := hy
  clear hx hy
  go_enter Try.func9, Try.ntmps9
  go_wp2
  go_ret
  exact ⟨rfl, rfl⟩

/-- Two floats that SameFloat calls the same. -/
def Alike (x y : Nat) : Prop := (x = y ∧ Num x ∧ ((FloatKind.f64.format.order x 0 == some .eq) = true → isz x)) ∨ (Nan x ∧ Nan y)

theorem same_alike {x y : Nat} (h : Alike x y) (w : World) : Calls Try.prog 9 #[.float .f64 x, .float .f64 y] w fun e w' => e = .returned (.bool true) ∧ w = w' := by
  rcases h with ⟨rfl, h1, h2⟩ | ⟨h1, h2⟩
  · exact same_num x w h1 h2
  · exact same_nan x y w h1 h2

theorem zero_isz {x : Nat} {v : Int} (h : FV x v) (h0 : (FloatKind.f64.format.order x 0 == some .eq) = true) : isz x := by
  have h1 : FloatKind.f64.format.order x 0 = some (compare v 0) := order_fv h FV_zero
  rw [h1] at h0
  have h3 : compare v 0 = .eq := by simpa using h0
  have h4 := Int.compare_eq_eq.1 h3
  subst h4
  exact FV.isz h

theorem Alike.fv {x : Nat} {v : Int} (h : FV x v) : Alike x x := Or.inl ⟨rfl, Num.fv h, zero_isz h⟩

theorem Alike.fb {x p : Nat} (h : FB x p) : Alike x x := by obtain ⟨v, h, _⟩ := h; exact Alike.fv h

end Go.Proofs.Ytbhmhgkbobajfaa

/- Totals of whole numbers, and bounded ones, by lists. -/
namespace Go.Proofs.Ytbhmhgkbobajfaa
open Go.RowKit
set_option maxRecDepth 20000
set_option linter.unusedVariables false

theorem sum_bound : ∀ (V : List Int), (∀ v, v ∈ V → v.natAbs ≤ 1000000) → V.sum.natAbs ≤ V.length * 1000000
  | [], _ => by simp
  | v :: V, h => by
    have h1 := sum_bound V (fun x hx => h x (List.mem_cons_of_mem _ hx))
    have h2 := h v (by simp)
    simp only [List.sum_cons, List.length_cons]
    omega

theorem TI.list : ∀ (V : List Int) (F G : List Nat) (a : Int), TAll G → TI (tl G) a → F.length = V.length → (a.natAbs + V.length * 1000000 ≤ 100000000000) → (∀ v, v ∈ V → v.natAbs ≤ 1000000) → (∀ j (h1 : j < F.length) (h2 : j < V.length), FI F[j] V[j]) →
    TAll (G ++ F) ∧ TI (tl (G ++ F)) (a + V.sum)
  | [], [], G, a, hG, hT, _, _, _, _ => by
    rw [List.append_nil]
    simp only [List.sum_nil, Int.add_zero]
    exact ⟨hG, hT⟩
  | v :: V, x :: F, G, a, hG, hT, hl, hb, hv, hf => by
    have hx := hf 0 (by simp) (by simp)
    simp only [List.getElem_cons_zero] at hx
    have hv0 := hv v (by simp)
    simp only [List.length_cons] at hl hb
    obtain ⟨k1, k2⟩ := hT.add hx (by omega) (by omega)
    have hrec := TI.list V F (G ++ [x]) (a + v) (hG.snoc k1) (by rw [tl_snoc]; exact k2) (by omega) (by omega) (fun y hy => hv y (List.mem_cons_of_mem _ hy)) (fun j h1 h2 => by
      have := hf (j + 1) (by simp; omega) (by simp; omega)
      simpa using this)
    rw [List.append_assoc] at hrec
    simp only [List.singleton_append] at hrec
    rw [List.sum_cons, ← Int.add_assoc]
    exact hrec
  | [], _ :: _, _, _, _, _, hl, _, _, _ => by simp at hl
  | _ :: _, [], _, _, _, _, hl, _, _, _ => by simp at hl

theorem TBd.list : ∀ (F G : List Nat) (i p : Nat), TAll G → TBd (tl G) i p → i + F.length ≤ 10000 → p ≤ 800 → (∀ x, x ∈ F → FB x p) → TAll (G ++ F) ∧ TBd (tl (G ++ F)) (i + F.length) p
  | [], G, i, p, hG, hT, _, _, _ => by
    rw [List.append_nil, List.length_nil, Nat.add_zero]
    exact ⟨hG, hT⟩
  | x :: F, G, i, p, hG, hT, hi, hp, hf => by
    simp only [List.length_cons] at hi
    obtain ⟨k1, k2⟩ := hT.add (hf x (by simp)) (by omega) hp
    have hrec := TBd.list F (G ++ [x]) (i + 1) p (hG.snoc k1) (by rw [tl_snoc]; exact k2) (by omega) hp (fun y hy => hf y (List.mem_cons_of_mem _ hy))
    rw [List.append_assoc] at hrec
    simp only [List.singleton_append] at hrec
    rw [List.length_cons, show i + (F.length + 1) = i + 1 + F.length from by omega]
    exact hrec

end Go.Proofs.Ytbhmhgkbobajfaa

/- Package strike: checkNumbers, Sum; the answer's SumOf. -/
namespace Go.Proofs.Ytbhmhgkbobajfaa
open Go.RowKit
set_option maxRecDepth 20000
set_option linter.unusedVariables false

/-- What is said of a row of numbers. -/
def chkF (F : List Nat) : Int := if 5000 < F.length then 3 else if ∃ k, k < F.length ∧ mayB (F.getD k 0) = false then 12 else 0

theorem chkF_bad {F : List Nat} {k : Nat} (h : ¬ 5000 < F.length) (hk : k < F.length) (hb : mayB (F.getD k 0) = false) : chkF F = 12 := by
  unfold chkF; rw [if_neg h, if_pos ⟨k, hk, hb⟩]

theorem chkF_fine {F : List Nat} (h : ¬ 5000 < F.length) (hb : ∀ k, k < F.length → mayB (F.getD k 0) = true) : chkF F = 0 := by
  unfold chkF; rw [if_neg h, if_neg]
  rintro ⟨k, hk, h3⟩
  rw [hb k hk] at h3
  cases h3

theorem Fls.cellAt {w : World} {p : Option Addr} {F : List Nat} {cap m : Nat} (hF : Fls w (.slice p m cap) F) (hm : F.length = m) : ∀ k, k < m → ∃ b off, p = some ⟨b, off, none⟩ ∧ m ≤ cap ∧ cap ≤ 9223372036854775807 ∧ b < w.heap.size ∧ w.cell? ⟨b, off + k, none⟩ = some (.float .f64 (F.getD k 0)) := fun k hk => by
  rcases hF with ⟨h1, _⟩ | ⟨b, off, cap', e, h0, h1, h2, h3, hc⟩
  · rw [h1] at hm; simp at hm; omega
  · injection e with e1 e2 e3
    subst e3
    exact ⟨b, off, e1, by omega, h2, h3, hc k (by omega)⟩

theorem Fls.len {w : World} {v : Value} {F : List Nat} (h : Fls w v F) : F.length ≤ 9223372036854775807 := by
  rcases h with ⟨rfl, _⟩ | ⟨b, off, cap, e, h0, h1, h2, _⟩
  · simp
  · omega

theorem Fls.below {w w' : World} {v : Value} {F : List Nat} (h : Fls w v F) (hw : Below w.heap.size w w') : Fls w' v F := by
  rcases h with h | ⟨b, off, cap, e, h0, h1, h2, h3, hc⟩
  · exact Or.inl h
  · refine Or.inr ⟨b, off, cap, e, h0, h1, h2, by have := hw.size; omega, fun j hj => ?_⟩
    rw [hw.cell (p := ⟨b, off + j, none⟩) h3]
    exact hc j hj

theorem Fls.drw {w w' : World} {v : Value} {F : List Nat} (h : Fls w v F) (hw : Drw w w') : Fls w' v F := h.below (hw.below _)

set_option maxHeartbeats 2000000 in
theorem checkN_ok (v : Value) (F : List Nat) (w : World) (hF : Fls w v F) :
    Calls Try.prog 11 #[v] w fun e w' => e = .returned (.int .i64 (chkF F)) ∧ w = w' := by
  have hL := hF.len
  obtain ⟨m, hm⟩ : ∃ m, Hid (F.length = m) := ⟨_, rfl⟩
  obtain ⟨p, cap, rfl⟩ : ∃ p cap, v = .slice p m cap := by rw [← hm.out]; exact hF.form
  rw [hm.out] at hL
  by_cases h5 : 5000 < m
  · have HC : Hid (chkF F = 3) := by unfold chkF; rw [hm.out, if_pos h5]; exact rfl
    clear hF
    go_enter Try.func11, Try.ntmps11
    go_wp2
    go_ret
    exact ⟨ret_int (by rw [HC.out]), rfl⟩
  · have HC := fun k hk => hide (hF.cellAt hm.out k hk)
    have HB := fun k hk hb => hide (chkF_bad (F := F) (k := k) (by rw [hm.out]; exact h5) hk hb)
    have HG := fun hb => hide (chkF_fine (F := F) (by rw [hm.out]; exact h5) hb)
    clear hF
    generalize hR : chkF F = R at *
    clear hR
    go_enter Try.func11, Try.ntmps11
    go_wp2
    go_loop [10] (fun i => ∃ k : Nat, k ≤ m ∧ i = .int .i64 k ∧ Hid (∀ j, j < k → mayB (F.getD j 0) = true)) (fun i => m - (intOf i).toNat)
    case atStart => exact ⟨0, by omega, rfl, fun j hj => absurd hj (by omega)⟩
    case round =>
      obtain ⟨k, hk, rfl, hfine⟩ := hrel
      by_cases hlt : k < m
      · obtain ⟨b, off, rfl, hcap, hcap2, _, hcell⟩ := (HC k hlt).out
        have hkF : k < F.length := by rw [hm.out]; exact hlt
        cases hb : mayB (F.getD k 0) with
        | false =>
          have HR := HB k hkF hb
          clear HB HG HC hfine
          generalize F.getD k 0 = x at *
          go_wp2_with fail
          refine (mayBe_ok _ _).mono ?_
          rintro e w' ⟨rfl, rfl⟩
          rw [hb]
          go_wp2
          go_ret
          exact ⟨ret_int (by rw [HR.out]), rfl⟩
        | true =>
          have HN : Hid (∀ j, j < k + 1 → mayB (F.getD j 0) = true) := fun j hj => by
            by_cases hjk : j < k
            · exact hfine.out j hjk
            · obtain rfl : j = k := by omega
              exact hb
          clear HB HG HC hfine
          generalize F.getD k 0 = x at *
          go_wp2_with fail
          refine (mayBe_ok _ _).mono ?_
          rintro e w' ⟨rfl, rfl⟩
          rw [hb]
          go_wp2
          go_round
          case rel => exact ⟨k + 1, by omega, by go_num, HN⟩
          case measure => simp [intOf]; omega
      · have HR := HG (fun j hj => hfine.out j (by rw [hm.out] at hj; omega))
        clear HB HG HC
        go_wp2
        go_ret
        exact ⟨ret_int (by rw [HR.out]), rfl⟩

def total0 (s : Nat × Nat) : Obj := .cells #[.float .f64 s.1, .float .f64 s.2] 41

/-- A total's own block, where one number more is added. -/
theorem total0_next {w w' : World} {b : Nat} {s t : Nat × Nat} (h : Wrote w w' b ((#[Value.float .f64 s.1, Value.float .f64 s.2].setIfInBounds (0 + 1) (.float .f64 t.2)).setIfInBounds 0 (.float .f64 t.1)) 41) : w'.heap[b]? = some (total0 t) := h.blk

theorem tadd0_ok (s : Nat × Nat) (x : Nat) (hT : TOk s x) (b : Nat) (w : World) (hb : w.heap[b]? = some (total0 s)) :
    Calls Try.prog 12 #[.pointer (some ⟨b, 0, none⟩), .float .f64 x] w fun e w' => e = .returned (.tuple #[]) ∧ w'.heap[b]? = some (total0 (tad s x)) ∧ Below b w w' ∧ w'.heap.size = w.heap.size ∧ ∀ k, k ≠ b → w'.heap[k]? = w.heap[k]? := by
  refine (tadd_ok s x hT b 0 w _ _ hb rfl rfl).mono ?_
  rintro e w' ⟨rfl, hw⟩
  exact ⟨rfl, hw.blk, hw.below (Nat.le_refl _), hw.size, hw.oth⟩

theorem tsum0_ok (s : Nat × Nat) (hT : FOk .add s.1 s.2) (b : Nat) (w : World) (hb : w.heap[b]? = some (total0 s)) :
    Calls Try.prog 13 #[.pointer (some ⟨b, 0, none⟩)] w fun e w' => e = .returned (.float .f64 (sm s)) ∧ Drw w w' :=
  tsum_ok s hT b 0 w _ _ hb rfl rfl

theorem sum_err (v : Value) (F : List Nat) (w : World) (hF : Fls w v F) (hc : chkF F ≠ 0) :
    Calls Try.prog 5 #[v] w fun e w' => e = .returned (.tuple #[.float .f64 0, .int .i64 (chkF F)]) ∧ w = w' := by
  have H := hide (checkN_ok v F w hF)
  obtain ⟨p, cap, rfl⟩ := hF.form
  clear hF
  generalize chkF F = c at *
  generalize F.length = m at *
  go_enter Try.func5, Try.ntmps5
  go_wp2_with fail
  refine H.out.mono ?_
  rintro e w' ⟨rfl, rfl⟩
  go_wp2
  go_ret2
  exact ⟨rfl, rfl⟩

set_option maxHeartbeats 2000000 in
theorem sum_ok (v : Value) (F : List Nat) (w : World) (hF : Fls w v F) (hc : chkF F = 0) (hT : TAll F) (hs : FOk .add (tl F).1 (tl F).2) :
    Calls Try.prog 5 #[v] w fun e w' => e = .returned (.tuple #[.float .f64 (sm (tl F)), .int .i64 0]) ∧ Below w.heap.size w w' := by
  have H := hide (checkN_ok v F w hF)
  rw [hc] at H
  have hL := hF.len
  have hSZ : ∀ w' : World, Below w.heap.size w w' → w.heap.size ≤ w'.heap.size := fun w' h => h.size
  obtain ⟨m, hm⟩ : ∃ m, Hid (F.length = m) := ⟨_, rfl⟩
  have h5 : m ≤ 5000 := by
    rcases Nat.lt_or_ge 5000 m with h | h
    · unfold chkF at hc; rw [hm.out, if_pos h] at hc; cases hc
    · exact h
  obtain ⟨p, cap, rfl⟩ : ∃ p cap, v = .slice p m cap := by rw [← hm.out]; exact hF.form
  have HC := fun k hk => hide (hF.cellAt hm.out k hk)
  have HT := hide hT
  have HS := hide (fun w9 hb => tsum0_ok (tl F) hs w.heap.size w9 hb)
  generalize hR : sm (tl F) = R at *
  clear hF hT hs hL hc hR
  go_enter Try.func5, Try.ntmps5
  go_wp2_with fail
  refine H.out.mono ?_
  rintro e w' ⟨rfl, rfl⟩
  clear H
  go_wp2
  go_loopw [15] (fun i wr => ∃ k : Nat, k ≤ m ∧ i = .int .i64 k ∧ Hid (wr.heap[w.heap.size]? = some (total0 (tl (F.take k)))) ∧ Hid (Below w.heap.size w wr)) (fun i _ => m - (intOf i).toNat)
  case atStart => exact ⟨0, by omega, rfl, alloc_at _ _, (Below.refl _ _).alloc (Nat.le_refl _) _⟩
  case round =>
    obtain ⟨k, hk, rfl, hblk, hbw⟩ := hrel
    by_cases hlt : k < m
    · obtain ⟨b, off, rfl, hcap, hcap2, hb, hcell⟩ := (HC k hlt).out
      have hkF : k < F.length := by rw [hm.out]; exact hlt
      have hcw : wr.cell? ⟨b, off + k, none⟩ = some (.float .f64 (F.getD k 0)) := by rw [hbw.out.cell (p := ⟨b, off + k, none⟩) hb]; exact hcell
      have HA := hide (tadd0_ok _ _ (HT.out k hkF) _ _ hblk.out)
      have HN : Hid (tad (tl (F.take k)) (F.getD k 0) = tl (F.take (k + 1))) := by
        show _ = _
        rw [List.take_succ_eq_append_getElem hkF, tl_snoc]
        simp [List.getD, List.getElem?_eq_getElem hkF]
      clear hcell HC HT HS
      generalize F.getD k 0 = x at *
      go_wp2_with fail
      refine HA.out.mono ?_
      rintro e w' ⟨rfl, hblk', hbl', _, _⟩
      have H1 := hide hblk'
      have H2 := hide (hbw.out.trans hbl')
      clear hblk' hbl' hcw
      go_wp2
      go_roundw
      case rel => exact ⟨k + 1, by omega, by go_num, by rw [← HN.out]; exact H1.out, H2.out⟩
      case measure => simp [intOf]; omega
    · have hks : F.take k = F := List.take_of_length_le (by rw [hm.out]; omega)
      rw [hks] at hblk
      have HA := hide (HS.out _ hblk.out)
      clear HS HT HC hks
      go_wp2_with fail
      refine HA.out.mono ?_
      rintro e w' ⟨rfl, hd⟩
      have H2 := hide (hbw.out.trans (hd.below _))
      clear hd
      go_wp2
      go_ret2
      exact ⟨rfl, H2.out⟩

end Go.Proofs.Ytbhmhgkbobajfaa

/- Arrays of eight complex numbers: loads, stores, results (as Ark has it for ints). -/
namespace Go.Proofs.Ytbhmhgkbobajfaa
open Go.RowKit

abbrev cv (p : Nat × Nat) : Value := .complex .f64 p.1 p.2

/-- Pairs as the cells of an array of complex numbers. -/
def cps (zs : List (Nat × Nat)) : Array Value := (zs.map cv).toArray

theorem cps_size (zs : List (Nat × Nat)) : (cps zs).size = zs.length := by simp [cps]

theorem cps_get {zs : List (Nat × Nat)} {j : Nat} (h : j < zs.length) : (cps zs)[j]? = some (cv (zs.getD j (0, 0))) := by
  simp [cps, List.getD, h]

theorem cps_one (zs : List (Nat × Nat)) : (cps zs).all (·.oneCell') = true := by
  rw [Array.all_eq_true_iff_forall_mem]
  intro v hv
  simp only [cps, List.mem_toArray, List.mem_map] at hv
  obtain ⟨a, _, rfl⟩ := hv
  rfl

/-- A block that is an array of eight complex numbers. -/
def Cpx (w : World) (b : Nat) (zs : List (Nat × Nat)) : Prop := w.heap[b]? = some (.cells (cps zs) 28) ∧ zs.length = 8

theorem Try.size28 : (Try.prog.info? 28).map (·.size) = some 8 := by kernel_rfl

theorem Cpx.lt {w : World} {b : Nat} {zs : List (Nat × Nat)} (h : Cpx w b zs) : b < w.heap.size := (Array.getElem?_eq_some_iff.1 h.1).1

theorem Cpx.cell {w : World} {b j : Nat} {zs : List (Nat × Nat)} (h : Cpx w b zs) (hj : j < 8) : w.cell? ⟨b, j, none⟩ = some (.complex .f64 (zs.getD j (0, 0)).1 (zs.getD j (0, 0)).2) ∧ w.frozen? ⟨b, j, none⟩ = false := by
  obtain ⟨h1, h2⟩ := h
  constructor
  · rw [cell_of_row _ _ j _ _ _ h1]; exact cps_get (by omega)
  · simp [World.frozen?, h1]

theorem cps_set (zs : List (Nat × Nat)) (k : Nat) (x y : Nat) : (cps zs).setIfInBounds k (.complex .f64 x y) = cps (zs.set k (x, y)) := by
  apply Array.toList_inj.1
  simp [cps]

theorem Cpx.set {w : World} {b k : Nat} {zs : List (Nat × Nat)} (h : Cpx w b zs) (x y : Nat) : Cpx (w.setCell ⟨b, k, none⟩ (.complex .f64 x y)) b (zs.set k (x, y)) := by
  refine ⟨?_, by rw [List.length_set]; exact h.2⟩
  rw [← cps_set]
  simp [World.setCell, Array.getElem?_modify, h.1]

theorem Cpx.alloc {w : World} {b : Nat} {zs : List (Nat × Nat)} (h : Cpx w b zs) (o : Obj) : Cpx (w.alloc o) b zs := ⟨by rw [Below.heap_alloc w o b h.lt]; exact h.1, h.2⟩

theorem Cpx.below {w w' : World} {b B : Nat} {zs : List (Nat × Nat)} (h : Cpx w b zs) (hb : Below B w w') (hB : b < B) : Cpx w' b zs := ⟨by rw [hb.block b hB]; exact h.1, h.2⟩

theorem Cpx.block {w w' : World} {b : Nat} {zs : List (Nat × Nat)} (h : Cpx w b zs) (hb : w'.heap[b]? = w.heap[b]?) : Cpx w' b zs := ⟨hb.trans h.1, h.2⟩

theorem Cpx.new (w : World) (zs : List (Nat × Nat)) (hl : zs.length = 8) : Cpx (w.alloc (.cells (cps zs) 28)) w.heap.size zs := ⟨heap_alloc_last w _, hl⟩

theorem Cpx.range {w : World} {b : Nat} {zs : List (Nat × Nat)} (h : Cpx w b zs) : w.rangeAt b 0 (zs.map cv) := by
  intro j v hv
  have hj : j < zs.length := by have := (List.getElem?_eq_some_iff.1 hv).1; simpa using this
  rw [Nat.zero_add, (h.cell (by rw [← h.2]; exact hj)).1]
  rw [← hv]
  simp [List.getD, hj]

def zerosC : List (Nat × Nat) := [(0, 0), (0, 0), (0, 0), (0, 0), (0, 0), (0, 0), (0, 0), (0, 0)]

abbrev zeroC : Obj := .cells #[.complex .f64 0 0, .complex .f64 0 0, .complex .f64 0 0, .complex .f64 0 0, .complex .f64 0 0, .complex .f64 0 0, .complex .f64 0 0, .complex .f64 0 0] 28

theorem zeros_cpx (w : World) : Cpx (w.alloc zeroC) w.heap.size zerosC := Cpx.new w zerosC rfl

/-- The whole array is read. -/
theorem wpList_load_cpx {ops : Array Oper} {rest : List Oper} {op : Oper} {a : Act} {w : World} {Q : Exit → Act → World → Prop} (hgd : op.guard = none) (x : Operand) (ho : op.op = .load 28 x)
    (b : Nat) (zs : List (Nat × Nat)) (hA : Cpx w b zs) (hx : a.eval x = .pointer (some ⟨b, 0, none⟩))
    (h : wpList Try.prog ops Q rest (a.put op.dst (.agg (cps zs))) w) : wpList Try.prog ops Q (op :: rest) a w :=
  wpList_load_mid hgd _ x ho b 0 hx (zs.map cv) _ hA.range Try.underlying28 rfl (by rw [Try.size28, List.length_map, hA.2]) h

/-- .. and written. -/
theorem run_store_cpx {w : World} {b : Nat} {zs ys : List (Nat × Nat)} (hA : Cpx w b zs) (hl : ys.length = 8) : ∃ w', (Instr.storeAt 28 (.pointer (some ⟨b, 0, none⟩)) (.agg (cps ys))).run Try.prog w = .ok () w' ∧ Cpx w' b ys ∧ w.grownBy w' (some b) ∧ w'.heap.size = w.heap.size := by
  refine ⟨w.setRow b (cps ys), ?_, ⟨?_, hl⟩, ⟨rfl, rfl, rfl, by simp [World.setRow], fun i hi hne => ?_⟩, by simp [World.setRow]⟩
  · simp only [Instr.storeAt, Instr.sureAddr, Sem.run_bind, Sem.run_pure, Result.andThen]
    exact run_storeVar_row w b _ _ _ _ hA.1 (by rw [Try.size28, cps_size, hl]) (by rw [cps_size, cps_size, hl, hA.2]) (cps_one ys)
  · simp [World.setRow, Array.getElem?_modify, hA.1]
  · simp only [World.setRow, Array.getElem?_modify]
    rw [if_neg (fun e => hne (by rw [e]))]

theorem wpList_store_cpx {ops : Array Oper} {rest : List Oper} {op : Oper} {a : Act} {w : World} {Q : Exit → Act → World → Prop} (hgd : op.guard = none) (x y : Operand) (ho : op.op = .store 28 x y)
    (b : Nat) (zs ys : List (Nat × Nat)) (hA : Cpx w b zs) (hx : a.eval x = .pointer (some ⟨b, 0, none⟩)) (hy : a.eval y = .agg (cps ys)) (hl : ys.length = 8)
    (h : ∀ w', Cpx w' b ys → w.grownBy w' (some b) → w'.heap.size = w.heap.size → wpList Try.prog ops Q rest (a.put op.dst undef) w') : wpList Try.prog ops Q (op :: rest) a w := by
  refine wpList_plain hgd fun K hK => ?_
  obtain ⟨w', hrun, h1, h2, h3⟩ := run_store_cpx (ys := ys) hA hl
  unfold Oper.wp execOp
  simp only [ho, hx, hy, hrun, Sem.run_bind, Sem.run_pure, Result.andThen_ok]
  exact hK _ _ (h w' h1 h2 h3)

theorem Cpx.set_other {w : World} {b b' k : Nat} {zs : List (Nat × Nat)} (h : Cpx w b zs) (hne : b ≠ b') (u : Value) : Cpx (w.setCell ⟨b', k, none⟩ u) b zs :=
  ⟨by rw [Below.heap_setCell _ _ _ _ (by exact hne)]; exact h.1, h.2⟩

/-- The result that lies in a cell. -/
theorem ret_cpx {fn : Func} {R : Ending → World → Prop} {a : Act} {w : World} {p : Tmp} {b : Nat} {zs : List (Nat × Nat)} (h : fn.results = #[.cell p 28]) (hp : a.tmps.getD p undef = .pointer (some ⟨b, 0, none⟩)) (hA : Cpx w b zs) (hd : a.defers = []) (hR : R (.returned (.agg (cps zs))) w) : bodyPost Try.prog fn R .ret a w :=
  bodyPost_ret (results_cell_row h a.tmps w b 28 (cps zs) (0, 0) _ hp hA.1 Try.underlying28 rfl (by rw [Try.size28, cps_size, hA.2])) hd hR

end Go.Proofs.Ytbhmhgkbobajfaa
