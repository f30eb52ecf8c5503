/- Contract: bellOf. -/
import Derived.Test.YtgglbafcocbhbaaText
import Derived.WalkSmall
namespace Go.Proofs.Ytgglbafcocbhbaa
open Go.RowKit
set_option maxRecDepth 20000

theorem byte_sign (m : Nat) (hm : m < 12) : (({ data := #[49, 50, 51, 52, 53, 54, 55, 56, 57, 48, 69, 84] } : ByteArray)[m]'(by exact hm)).toNat = sg m := by
  match m, hm with
  | 0, _ | 1, _ | 2, _ | 3, _ | 4, _ | 5, _ | 6, _ | 7, _ | 8, _ | 9, _ | 10, _ | 11, _ => rfl

theorem decode_sign (m : Nat) (hm : m < 12) : Utf8.decode { data := #[49, 50, 51, 52, 53, 54, 55, 56, 57, 48, 69, 84] } m = (sg m, 1) := by
  have h := byte_sign m hm
  rw [decode_ascii _ m (by exact hm) (by rw [h]; exact sg_lt m), h]

theorem sg_inj {i j : Nat} (hi : i < 12) (hj : j < 12) (h : sg i = sg j) : i = j := by
  have key : ∀ i : Fin 12, ∀ j : Fin 12, sg i.val = sg j.val → i = j := by decide
  have := key ⟨i, hi⟩ ⟨j, hj⟩ h
  exact congrArg Fin.val this

theorem next_sign (w : World) (k : Nat) (hk : k < 12) : ∀ ty, (Instr.next (.pointer (some ⟨w.heap.size, 0, none⟩)) true ty).run Try.prog (w.iter { data := #[49, 50, 51, 52, 53, 54, 55, 56, 57, 48, 69, 84] } k) =
    .ok (.tuple #[.bool true, .int .i64 (k : Int), .int .i32 ((sg k : Nat) : Int)]) (w.iter { data := #[49, 50, 51, 52, 53, 54, 55, 56, 57, 48, 69, 84] } (k + 1)) := by
  intro ty
  rw [run_next_any w _ k ty (by exact hk), decode_sign k hk]

theorem next_done (w : World) (k : Nat) (hk : ¬ k < 12) : ∀ ty, (Instr.next (.pointer (some ⟨w.heap.size, 0, none⟩)) true ty).run Try.prog (w.iter { data := #[49, 50, 51, 52, 53, 54, 55, 56, 57, 48, 69, 84] } k) =
    .ok (.tuple #[.bool false]) (w.iter { data := #[49, 50, 51, 52, 53, 54, 55, 56, 57, 48, 69, 84] } k) := by
  intro ty
  exact run_next_end w _ k ty (by exact hk)

theorem below_iter (w : World) (s : ByteArray) (k : Nat) : Below w.heap.size w (w.iter s k) := (Below.refl _ _).alloc (Nat.le_refl _) _

theorem ret_bell {k m : Nat} (h : k = m) : Ending.returned (.tuple #[.int .i64 (k : Int), .bool true]) = Ending.returned (.tuple #[.int .i64 (m : Int), .bool true]) := by rw [h]

set_option maxHeartbeats 1000000 in
theorem bell_yes (m : Nat) (hm : m < 12) (w : World) :
    Calls Try.prog 47 #[.int .i32 ((sg m : Nat) : Int)] w fun e w' => e = .returned (.tuple #[.int .i64 (m : Int), .bool true]) ∧ Below w.heap.size w w' := by
  go_enter Try.func47, Try.ntmps47
  go_wp2
  go_loopw [4] (fun _ wr => ∃ k : Nat, k ≤ m ∧ wr = w.iter { data := #[49, 50, 51, 52, 53, 54, 55, 56, 57, 48, 69, 84] } k) (fun _ wr => 12 - wr.iterPos w.heap.size)
  case atStart => exact ⟨0, by omega, rfl⟩
  case round =>
    obtain ⟨k, hk, rfl⟩ := hrel
    have hnx := next_sign w k (by omega)
    by_cases e : k = m
    · have HE := hide e
      have ht : (((sg k : Nat) : Int) == ((sg m : Nat) : Int)) = true := by rw [e]; simp
      clear e
      go_wp2
      go_ret2
      exact ⟨ret_bell HE.out, below_iter _ _ _⟩
    · have ht : (((sg k : Nat) : Int) == ((sg m : Nat) : Int)) = false := by
        rw [beq_eq_false_iff_ne]
        intro h
        exact e (sg_inj (by omega) hm (by omega))
      have hlt : k < m := by omega
      clear e
      go_wp2
      go_roundw
      case rel => exact ⟨k + 1, by omega, rfl⟩
      case measure => simp; omega

set_option maxHeartbeats 1000000 in
theorem bell_no (c : Int) (hc : ∀ m, m < 12 → c ≠ ((sg m : Nat) : Int)) (w : World) :
    Calls Try.prog 47 #[.int .i32 c] w fun e w' => e = .returned (.tuple #[.int .i64 0, .bool false]) ∧ Below w.heap.size w w' := by
  have HC := hide hc
  clear hc
  go_enter Try.func47, Try.ntmps47
  go_wp2
  go_loopw [4] (fun _ wr => ∃ k : Nat, k ≤ 12 ∧ wr = w.iter { data := #[49, 50, 51, 52, 53, 54, 55, 56, 57, 48, 69, 84] } k) (fun _ wr => 12 - wr.iterPos w.heap.size)
  case atStart => exact ⟨0, by omega, rfl⟩
  case round =>
    obtain ⟨k, hk, rfl⟩ := hrel
    by_cases hlt : k < 12
    · have hnx := next_sign w k hlt
      have ht : (((sg k : Nat) : Int) == c) = false := by
        rw [beq_eq_false_iff_ne]
        intro h
        exact HC.out k hlt h.symm
      go_wp2
      go_roundw
      case rel => exact ⟨k + 1, by omega, rfl⟩
      case measure => simp; omega
    · have hnx := next_done w k hlt
      go_wp2
      go_ret2
      exact ⟨rfl, below_iter _ _ _⟩

end Go.Proofs.Ytgglbafcocbhbaa
