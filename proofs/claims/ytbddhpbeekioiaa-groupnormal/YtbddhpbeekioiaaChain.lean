/- take and bring at all levels. -/
import Derived.Test.YtbddhpbeekioiaaTake
namespace Go.Proofs.Ytbddhpbeekioiaa
open Go.RowKit

theorem bring_all {n k : Nat} (hT : TakeSays n (k + 1)) (m : Nat) : BringSays n k m := by
  induction m using Nat.strongRecOn with
  | ind m ih =>
    intro B g pre l c st p F w
    cases h : l.tab.lookup (p.act l.base) with
    | some u => exact bring_old hT h
    | none => exact bring_new ih h

theorem take_all {n : Nat} : ∀ (d k : Nat), k + d = n → TakeSays n k
  | 0, k, hk => by
    intro B g pre cs st p F w hpre hn h12 hbs hnd hC hW hF
    have e : cs = [] := List.length_eq_zero_iff.1 (by omega)
    exact take_has hpre hn h12 hbs hnd hC hW hF (by rw [e]; rfl)
  | d + 1, k, hk => by
    intro B g pre cs st p F w hpre hn h12 hbs hnd hC hW hF
    cases hh : hasC cs p with
    | true => exact take_has hpre hn h12 hbs hnd hC hW hF hh
    | false =>
      cases cs with
      | nil => cases hh
      | cons l c => exact take_new (bring_all (take_all d (k + 1) (by omega)) 12) hpre hn h12 hbs hnd hC hW hF hh

end Go.Proofs.Ytbddhpbeekioiaa
