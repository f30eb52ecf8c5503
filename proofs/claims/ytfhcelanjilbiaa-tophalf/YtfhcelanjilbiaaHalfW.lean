/- The walk of TopHalf: it answers true at every input. -/
import Derived.Test.YtfhcelanjilbiaaLead
namespace Go.Proofs.Ytfhcelanjilbiaa
open Go.RowKit

theorem prd_odd (n : Nat) (o : Bool) : ∀ (k : Nat) (ts : List (List Bool)), k ≤ ts.length → (∀ t, t ∈ ts → tsz t = n) → (∀ t, t ∈ ts → decide (tpr t % 2 = 1) = o) → odd (prd n (ts.take k)) = (o && decide (k % 2 = 1))
  | 0, ts, _, _, _ => by rw [List.take_zero]; show odd (rnd n) = _; rw [odd_rnd]; simp
  | k + 1, ts, hk, hz, ho => by
    have hlt : k < ts.length := hk
    have ih := prd_odd n o k ts (by omega) hz ho
    have hr := prd_row n (ts.take k) (fun t ht => hz t (List.mem_of_mem_take ht))
    rw [take_next hlt, prd_snoc, odd_by hr.1 (trow_row _) (by rw [trow_length, hz _ (List.getElem_mem hlt), hr.2]), ih, trow_odd, ho _ (List.getElem_mem hlt)]
    by_cases h : k % 2 = 1
    · rw [decide_eq_true h, decide_eq_false (show ¬ (k + 1) % 2 = 1 by omega)]; cases o <;> rfl
    · rw [decide_eq_false h, decide_eq_true (show (k + 1) % 2 = 1 by omega)]; cases o <;> rfl

/-- The tiles of the change that is put in, as far as place m. -/
def tile (o : Bool) (m : Nat) : List Bool := if o = true then (if m < 2 then [] else List.replicate (m - 2) true ++ [false]) else List.replicate m true

theorem tile_sz {o : Bool} {m : Nat} (h : 2 ≤ m) : tsz (tile o m) = m := by
  unfold tile
  cases o with
  | false => rw [if_neg (by decide)]; exact (trow_ones m).2.1
  | true =>
    rw [if_pos rfl, if_neg (by omega)]
    have : ∀ k, tsz (List.replicate k true ++ [false]) = k + 2 := by
      intro k
      induction k with
      | zero => rfl
      | succ k ih => rw [List.replicate_succ, List.cons_append, tsz, ih]
    rw [this]; omega

theorem tile_pr {o : Bool} {m : Nat} (h : 2 ≤ m) : decide (tpr (tile o m) % 2 = 1) = o := by
  unfold tile
  cases o with
  | false => rw [if_neg (by decide), (trow_ones m).2.2]; rfl
  | true =>
    rw [if_pos rfl, if_neg (by omega)]
    have : ∀ k, tpr (List.replicate k true ++ [false]) = 1 := by
      intro k
      induction k with
      | zero => rfl
      | succ k ih => rw [List.replicate_succ, List.cons_append, tpr, ih]
    rw [this]; rfl

theorem tile_add {o : Bool} {m : Nat} (h : o = false ∨ 2 ≤ m) : tpl (tile o (m + 1)) = tpl (tile o m) ++ [((m + 1 : Nat) : Int)] := by
  cases o with
  | false =>
    unfold tile
    rw [if_neg (by decide), if_neg (by decide), List.replicate_succ, tpl, (trow_ones m).2.1]
  | true =>
    have hm : 2 ≤ m := by rcases h with h | h; cases h; exact h
    have e : tile true (m + 1) = true :: tile true m := by
      unfold tile
      rw [if_pos rfl, if_pos rfl, if_neg (by omega), if_neg (by omega), show m + 1 - 2 = (m - 2) + 1 from by omega, List.replicate_succ, List.cons_append]
    rw [e, tpl, tile_sz hm]

theorem tile_skip {m : Nat} (h : ¬ 2 ≤ m) : tpl (tile true (m + 1)) = tpl (tile true m) := by
  match m, h with
  | 0, _ => rfl
  | 1, _ => rfl
  | m + 2, h => exact absurd (by omega) h

theorem tile_len (o : Bool) (m : Nat) : (tpl (tile o m)).length ≤ m := by
  by_cases h : 2 ≤ m
  · have h1 := tpl_length (tile o m)
    rw [tile_sz h] at h1
    omega
  · match m, h with
    | 0, _ => cases o <;> decide
    | 1, _ => cases o <;> decide
    | m + 2, h => exact absurd (by omega) h

theorem half_name : nm ⟨#[72, 97, 108, 102]⟩ = true := by decide +kernel

theorem tpr_half (t : List Bool) (n : Nat) (h : tsz t = n) : ((n : Int) - ((tpl t).length : Int)) / 2 % 2 = ((tpr t % 2 : Nat) : Int) := by
  have := tpl_length t
  omega

end Go.Proofs.Ytfhcelanjilbiaa
