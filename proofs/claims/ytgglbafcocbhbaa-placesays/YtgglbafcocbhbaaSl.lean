/- Lists of ints behind slice values; contracts of the functions that only read them: lower, Same, Check. -/
import Derived.Test.YtgglbafcocbhbaaNum
import Derived.Deep.LoopGhost
namespace Go.Proofs.Ytgglbafcocbhbaa
open Go.RowKit

/-- The slice value v reads as the list xs in the world w. -/
def Ints (w : World) (v : Value) (xs : List Int) : Prop :=
  (xs = [] ∧ ∃ p c, v = .slice p 0 c) ∨
  ∃ b off cap, v = .slice (some ⟨b, off, none⟩) xs.length cap ∧ 0 < xs.length ∧ xs.length ≤ cap ∧ cap ≤ 9223372036854775807 ∧ b < w.heap.size ∧
    ∀ j, j < xs.length → w.cell? ⟨b, off + j, none⟩ = some (.int .i64 (xs.getD j 0))

theorem Ints.mono {w w' : World} {v : Value} {xs : List Int} {B : Nat} (h : Ints w v xs) (hb : Below B w w') (hB : w.heap.size ≤ B) : Ints w' v xs := by
  rcases h with h | ⟨b, off, cap, h1, h2, h3, h4, h5, h6⟩
  · exact Or.inl h
  · refine Or.inr ⟨b, off, cap, h1, h2, h3, h4, Nat.lt_of_lt_of_le h5 hb.size, fun j hj => ?_⟩
    rw [hb.cell (p := ⟨b, off + j, none⟩) (Nat.lt_of_lt_of_le h5 hB)]
    exact h6 j hj

theorem Ints.below {w w' : World} {v : Value} {xs : List Int} (h : Ints w v xs) (hb : Below w.heap.size w w') : Ints w' v xs := h.mono hb (Nat.le_refl _)

theorem Ints.nil (w : World) : Ints w (.slice none 0 0) [] := Or.inl ⟨rfl, none, 0, rfl⟩

theorem Ints.form {w : World} {v : Value} {xs : List Int} (h : Ints w v xs) : ∃ p cap, v = .slice p xs.length cap := by
  rcases h with ⟨rfl, p, c, rfl⟩ | ⟨b, off, cap, h1, _⟩
  · exact ⟨p, c, rfl⟩
  · exact ⟨_, cap, h1⟩

/-- What the call owns reads as the list. -/
theorem Ints.own {w : World} {base e : Nat} {v : Value} {n : Nat} {xs : List Int} (h : w.ownsRow base e 1 v n (xs.map (Value.int .i64))) : Ints w v xs := by
  obtain ⟨h1, h2⟩ := h
  rw [List.length_map, Nat.mul_one] at h1
  subst h1
  rcases h2 with ⟨rfl, h⟩ | ⟨g, cap, cur, hv, _, hh, hn, hm, hs, ht⟩
  · exact Or.inl ⟨List.length_eq_zero_iff.1 h, none, 0, rfl⟩
  · rcases Nat.eq_zero_or_pos xs.length with h0 | h0
    · exact Or.inl ⟨List.length_eq_zero_iff.1 h0, _, cap, by rw [hv, h0]⟩
    · refine Or.inr ⟨g, 0, cap, hv, h0, hn, by unfold maxLen at hm; omega, ?_, fun j hj => ?_⟩
      · exact (Array.getElem?_eq_some_iff.1 hh).1
      · have hown : w.ownsRow base e 1 v xs.length (xs.map (Value.int .i64)) := ⟨by simp, Or.inr ⟨g, cap, cur, hv, ‹_›, hh, hn, hm, hs, ht⟩⟩
        have := hown.cells (g := g) (by rw [hv]; rfl) j (.int .i64 (xs.getD j 0)) (by simp [List.getElem?_map, List.getD, List.getElem?_eq_getElem hj])
        rw [Addr.add_lit] at this
        exact this

theorem cellAt {w : World} {b off k : Nat} {xs : List Int} (hcell : ∀ j, j < xs.length → w.cell? ⟨b, off + j, none⟩ = some (.int .i64 (xs.getD j 0))) (h : k < xs.length) :
    ∃ y, Hid (xs[k]?.getD 0 = y) ∧ w.cell? ⟨b, off + k, none⟩ = some (.int .i64 y) := ⟨_, rfl, hcell k h⟩

/-- How many of the list are less than x. -/
def cnt (x : Int) (xs : List Int) : Nat := (xs.filter (fun y => decide (y < x))).length

theorem cnt_le (x : Int) (xs : List Int) : cnt x xs ≤ xs.length := List.length_filter_le _ _

theorem take_snoc (xs : List Int) (k : Nat) (h : k < xs.length) : xs.take (k + 1) = xs.take k ++ [xs[k]?.getD 0] := by
  rw [List.take_succ_eq_append_getElem h]; simp [List.getElem?_eq_getElem h]

theorem cnt_snoc (x y : Int) (xs : List Int) : cnt x (xs ++ [y]) = cnt x xs + if y < x then 1 else 0 := by
  unfold cnt
  rw [List.filter_append, List.length_append]
  by_cases h : y < x <;> simp [h]

set_option maxHeartbeats 400000 in
theorem lower_any (v : Value) (xs : List Int) (x : Int) (w : World) (h : Ints w v xs) :
    Calls Try.prog 42 #[v, .int .i64 x] w fun e w' => e = .returned (.int .i64 (cnt x xs)) ∧ w = w' := by
  rcases h with ⟨rfl, p, c, rfl⟩ | ⟨b, off, cap, rfl, h0, hc, hm, hb, hcell⟩
  · go_enter Try.func42, Try.ntmps42
    go_wp2
    go_loop [5, 10] (fun m i => m = .int .i64 0 ∧ i = .int .i64 0) (fun _ _ => 0)
    case atStart => exact ⟨rfl, rfl⟩
    case round =>
      obtain ⟨rfl, rfl⟩ := hrel
      go_wp2
      go_ret
      exact ⟨rfl, rfl⟩
  · go_enter Try.func42, Try.ntmps42
    go_wp2
    go_loop [5, 10] (fun m i => ∃ k : Nat, k ≤ xs.length ∧ i = .int .i64 k ∧ m = .int .i64 (cnt x (xs.take k))) (fun _ i => xs.length - (intOf i).toNat)
    case atStart => exact ⟨0, by omega, rfl, rfl⟩
    case round =>
      obtain ⟨k, hk, rfl, rfl⟩ := hrel
      have hl := cnt_le x (xs.take k)
      have hl2 : (xs.take k).length ≤ k := List.length_take_le _ _
      by_cases hlt : k < xs.length
      · obtain ⟨y, hy, hcx⟩ := cellAt hcell hlt
        have HS : Hid (cnt x (xs.take (k + 1)) = cnt x (xs.take k) + if y < x then 1 else 0) := by rw [take_snoc xs k hlt, hy.out]; exact cnt_snoc _ _ _
        clear hcell
        go_wp2
        all_goals
          go_round
          case rel => exact ⟨k + 1, by omega, by go_num, by rw [HS.out]; first | (rw [if_pos (by assumption)]; go_num) | (rw [if_neg (by omega)]; go_num)⟩
          case measure => simp [intOf]; omega
      · clear hcell
        go_wp2
        go_ret
        exact ⟨ret_int (by rw [List.take_of_length_le (by omega)]), rfl⟩

end Go.Proofs.Ytgglbafcocbhbaa
