/- Contracts: Back, Rank. -/
import Derived.Test.YtgglbafcocbhbaaOwn
namespace Go.Proofs.Ytgglbafcocbhbaa
open Go.RowKit

/-- zs undoes r. -/
def Undoes (zs r : List Int) : Prop := zs.length = r.length ∧ ∀ j, j < r.length → zs.getD (r.getD j 0).toNat 0 = (j : Int)

theorem back_step {r zs : List Int} {k m : Nat} (hr : isRow r) (hk : k < r.length) (hm : r.getD k 0 = (m : Int)) (hz : zs.length = r.length ∧ ∀ j, j < k → zs.getD (r.getD j 0).toNat 0 = (j : Int)) :
    (zs.set m (k : Int)).length = r.length ∧ ∀ j, j < k + 1 → (zs.set m (k : Int)).getD (r.getD j 0).toNat 0 = (j : Int) := by
  have h1 := hr.at hk
  refine ⟨by rw [List.length_set]; exact hz.1, fun j hj => ?_⟩
  rw [getD_set (by have := hz.1; omega)]
  by_cases e : j = k
  · subst e; rw [hm, Int.toNat_natCast, if_pos rfl]
  · rw [if_neg]
    · exact hz.2 j (by omega)
    · intro h
      have h2 := hr.at (show j < r.length by omega)
      exact e (hr.inj (by omega) hk (by omega))

set_option maxHeartbeats 1000000 in
theorem back_ok (v1 : Value) (a : List Int) (w : World) (i1 : Ints w v1 a) (r1 : isRow a) (n1 : 1 ≤ a.length) (n2 : a.length ≤ 12) :
    Calls Try.prog 11 #[v1] w fun e w' => ∃ v zs, e = .returned (.tuple #[v, .int .i64 0]) ∧ Ints w' v zs ∧ Undoes zs a ∧ Below w.heap.size w w' := by
  obtain ⟨i0, hi, hz0, hz1, hz2⟩ := info_parts Try.info3
  have hc1 := chk_ok n1 n2 r1
  have C1 := check_any v1 a w i1
  rw [hc1] at C1
  have HC1 := hide C1
  have R1 := hide r1
  clear C1 hc1
  rcases i1 with ⟨rfl, p, c, rfl⟩ | ⟨b1, o1, cap1, rfl, h01, hcp1, hm1, hb1, hcell1⟩
  · simp at n1
  clear r1
  go_enter Try.func11, Try.ntmps11
  go_wp2_with fail
  refine HC1.out.mono ?_
  rintro e w2 ⟨rfl, hB2⟩
  clear HC1
  go_wp2_with (at_make; refine wpList_make_full _ rfl _ _ 22 rfl w.heap.size 3 i0 (.int .i64 0) 1 Try.underlying22 hi hz0 hz1 _ _ _ _ a.length rfl rfl (by omega) (by omega) ?b2 ?b3 hB2.size ?_)
  case b2 => rw [hz2]; omega
  case b3 => unfold maxLen; omega
  intro w0 hown0 hgrow0
  rw [made_ints] at hown0
  go_wp2
  go_loopw [18] (fun i wr => ∃ (k : Nat) (zs : List Int), k ≤ a.length ∧ i = .int .i64 k ∧ wr.ownsRow w.heap.size 3 1 (.slice (some ⟨w2.heap.size, 0, none⟩) a.length a.length) a.length (zs.map (Value.int .i64)) ∧ Hid (zs.length = a.length ∧ ∀ j, j < k → zs.getD (a.getD j 0).toNat 0 = (j : Int)) ∧ Below w.heap.size w wr) (fun i _ => a.length - (intOf i).toNat)
  case atStart => exact ⟨0, _, by omega, rfl, hown0, ⟨by simp, fun j hj => by omega⟩, hB2.grown hgrow0 hB2.size (fun k h => by cases h)⟩
  case round =>
    obtain ⟨k, zs, hk, rfl, hown, hz, hbw⟩ := hrel
    by_cases hlt : k < a.length
    · obtain ⟨p, hp, hcp⟩ := cellAt hcell1 hlt
      have hpr := R1.out.at hlt
      rw [show a.getD k 0 = p from hp.out] at hpr
      obtain ⟨m, rfl⟩ := Int.eq_ofNat_of_zero_le hpr.1
      have hma : m < a.length := by have := hpr.2; omega
      obtain ⟨y, hy, hcx, hfx⟩ := owns_cellAt hown hma
      have gp : wr.cell? ⟨b1, o1 + k, none⟩ = some (.int .i64 (m : Int)) := (hbw.cell (by exact hb1)).trans hcp
      have HZ := hide (back_step R1.out hlt hp.out hz.out)
      clear hcp hcell1 hpr
      go_wp2
      go_roundw
      case rel => exact ⟨k + 1, _, by omega, by go_num, owns_set_int hown _, HZ, hbw.setCell hB2.size _⟩
      case measure => simp [intOf]; omega
    · clear hcell1
      obtain rfl : k = a.length := by omega
      go_wp2
      go_ret2
      exact ⟨_, zs, rfl, Ints.own hown, hz.out, hbw⟩

/-- The rank's first k steps. -/
def rkTo (xs : List Int) : Nat → Nat
  | 0 => 0
  | k + 1 => rkTo xs k * (xs.length - k) + cnt (xs.getD k 0) (xs.drop (k + 1))

theorem rkTo_bound (xs : List Int) (k : Nat) (h : k ≤ xs.length) : (rkTo xs k + 1) * fct (xs.length - k) ≤ fct xs.length := by
  induction k with
  | zero => simp [rkTo]
  | succ k ih =>
    have h1 := ih (by omega)
    have h2 := cnt_le (xs.getD k 0) (xs.drop (k + 1))
    rw [List.length_drop] at h2
    have e : xs.length - k = (xs.length - (k + 1)) + 1 := by omega
    have h3 : rkTo xs (k + 1) + 1 ≤ (rkTo xs k + 1) * (xs.length - k) := by
      show rkTo xs k * (xs.length - k) + cnt (xs.getD k 0) (xs.drop (k + 1)) + 1 ≤ _
      rw [Nat.add_mul, Nat.one_mul]; omega
    calc (rkTo xs (k + 1) + 1) * fct (xs.length - (k + 1)) ≤ ((rkTo xs k + 1) * (xs.length - k)) * fct (xs.length - (k + 1)) := Nat.mul_le_mul_right _ h3
      _ = (rkTo xs k + 1) * fct (xs.length - k) := by rw [Nat.mul_assoc, e]; rfl
      _ ≤ fct xs.length := h1

theorem rkTo_le (xs : List Int) (k : Nat) (h : k ≤ xs.length) (h12 : xs.length ≤ 12) : rkTo xs k ≤ 479001600 := by
  have h1 := rkTo_bound xs k h
  have h2 := fct_pos (xs.length - k)
  have h3 : rkTo xs k + 1 ≤ (rkTo xs k + 1) * fct (xs.length - k) := Nat.le_mul_of_pos_right _ h2
  have h4 := fct_le h12
  omega

/-- 'r[k+1:]'. -/
theorem drop_ints {w : World} {b off cap k : Nat} {xs : List Int} (hk : k < xs.length) (hc : xs.length ≤ cap) (hm : cap ≤ 9223372036854775807) (hb : b < w.heap.size)
    (hcell : ∀ j, j < xs.length → w.cell? ⟨b, off + j, none⟩ = some (.int .i64 (xs.getD j 0))) :
    ∃ A : Addr, (if cap = k + 1 then some (⟨b, off, none⟩ : Addr) else some ⟨b, off + (k + 1), none⟩) = some A ∧ Hid (Ints w (.slice (some A) (xs.length - (k + 1)) (cap - (k + 1))) (xs.drop (k + 1))) := by
  by_cases h : xs.length = k + 1
  · have e : xs.drop (k + 1) = [] := List.drop_eq_nil_of_le (by omega)
    by_cases h2 : cap = k + 1
    · exact ⟨⟨b, off, none⟩, by simp [h2], Or.inl ⟨e, some ⟨b, off, none⟩, cap - (k + 1), by rw [h, Nat.sub_self]⟩⟩
    · exact ⟨⟨b, off + (k + 1), none⟩, by simp [h2], Or.inl ⟨e, some ⟨b, off + (k + 1), none⟩, cap - (k + 1), by rw [h, Nat.sub_self]⟩⟩
  · refine ⟨⟨b, off + (k + 1), none⟩, by rw [if_neg (by omega)], Or.inr ⟨b, off + (k + 1), cap - (k + 1), ?_, ?_, ?_, by omega, hb, fun j hj => ?_⟩⟩
    · rw [List.length_drop]
    · rw [List.length_drop]; omega
    · rw [List.length_drop]; omega
    · rw [List.length_drop] at hj
      rw [Nat.add_assoc, hcell (k + 1 + j) (by omega)]
      simp [List.getD]

set_option maxHeartbeats 1000000 in
theorem rank_ok (v1 : Value) (a : List Int) (w : World) (i1 : Ints w v1 a) (r1 : isRow a) (n1 : 1 ≤ a.length) (n2 : a.length ≤ 12) :
    Calls Try.prog 10 #[v1] w fun e w' => e = .returned (.tuple #[.int .i64 (rkTo a a.length), .int .i64 0]) ∧ Below w.heap.size w w' := by
  have hc1 := chk_ok n1 n2 r1
  have C1 := check_any v1 a w i1
  rw [hc1] at C1
  have HC1 := hide C1
  clear C1 hc1
  rcases i1 with ⟨rfl, p, c, rfl⟩ | ⟨b1, o1, cap1, rfl, h01, hcp1, hm1, hb1, hcell1⟩
  · simp at n1
  clear r1
  go_enter Try.func10, Try.ntmps10
  go_wp2_with fail
  refine HC1.out.mono ?_
  rintro e w2 ⟨rfl, hB2⟩
  clear HC1
  have hcell2 : ∀ j, j < a.length → w2.cell? ⟨b1, o1 + j, none⟩ = some (.int .i64 (a.getD j 0)) := fun j hj => (hB2.cell (by exact hb1)).trans (hcell1 j hj)
  have hb2 : b1 < w2.heap.size := Nat.lt_of_lt_of_le hb1 hB2.size
  clear hcell1
  go_wp2
  go_loop [5, 15] (fun r i => ∃ k : Nat, k ≤ a.length ∧ i = .int .i64 k ∧ r = .int .i64 (rkTo a k)) (fun _ i => a.length - (intOf i).toNat)
  case atStart => exact ⟨0, by omega, rfl, rfl⟩
  case round =>
    obtain ⟨k, hk, rfl, rfl⟩ := hrel
    by_cases hlt : k < a.length
    · obtain ⟨y, hy, hcy⟩ := cellAt hcell2 hlt
      have hb := rkTo_le a k hk n2
      have hcl := cnt_le y (a.drop (k + 1))
      rw [List.length_drop] at hcl
      have hmul : (rkTo a k : Int) * ((a.length : Int) - (k : Int)) ≤ 479001600 * 12 := by
        have h1 : (rkTo a k : Int) * ((a.length : Int) - (k : Int)) ≤ (rkTo a k : Int) * 12 := Int.mul_le_mul_of_nonneg_left (by omega) (by omega)
        omega
      have hmul0 : 0 ≤ (rkTo a k : Int) * ((a.length : Int) - (k : Int)) := Int.mul_nonneg (by omega) (by omega)
      obtain ⟨A, hA, hint⟩ := drop_ints (k := k) hlt hcp1 hm1 hb2 hcell2
      have HL := hide (lower_any _ _ y w2 hint.out)
      have HM : Hid ((rkTo a k : Int) * ((a.length : Int) - (k : Int)) + (cnt y (a.drop (k + 1)) : Int) = (rkTo a (k + 1) : Int)) := by
        show _ = ((rkTo a k * (a.length - k) + cnt (a.getD k 0) (a.drop (k + 1)) : Nat) : Int)
        rw [show a.getD k 0 = y from hy.out, Int.natCast_add, Int.natCast_mul, Int.natCast_sub hk]
      clear hcell2 hint
      go_wp2_with fail
      refine HL.out.mono ?_
      rintro e w' ⟨rfl, rfl⟩
      go_wp2
      go_round
      case rel => exact ⟨k + 1, by omega, by go_num, by rw [HM.out]⟩
      case measure => simp [intOf]; omega
    · clear hcell2
      obtain rfl : k = a.length := by omega
      go_wp2
      go_ret2
      exact ⟨rfl, hB2⟩

end Go.Proofs.Ytgglbafcocbhbaa
