/- Contract: place.Parse, where it refuses at once. -/
import Derived.Test.YtgglbafcocbhbaaPrsB
namespace Go.Proofs.Ytgglbafcocbhbaa
open Go.RowKit Go.Lib
set_option maxRecDepth 20000

theorem two_cells (w : World) (x y : Value) (a b : TypeId) : ((w.alloc (.cells #[x] a)).alloc (.cells #[y] b)).heap[w.heap.size]? = some (.cells #[x] a) ∧ ((w.alloc (.cells #[x] a)).alloc (.cells #[y] b)).heap[w.heap.size + 1]? = some (.cells #[y] b) := by
  constructor
  · rw [Below.heap_alloc _ _ _ (by simp)]
    exact heap_alloc_new w _
  · have h9 := heap_alloc_new (w.alloc (.cells #[x] a)) (.cells #[y] b)
    rwa [show (w.alloc (.cells #[x] a)).heap.size = w.heap.size + 1 from by simp] at h9

theorem cell_of {w : World} {b : Nat} {x : Value} {t : TypeId} (h : w.heap[b]? = some (.cells #[x] t)) : w.cell? ⟨b, 0, none⟩ = some x := by simp [World.cell?, h]

set_option maxHeartbeats 4000000 in
theorem parse_count (n : Int) (s : ByteArray) (w : World) (hn : n < 1 ∨ 12 < n) :
    Calls Try.prog 30 #[.int .i64 n, .string s] w fun e w' => e = .returned (.tuple #[.slice none 0 0, .int .i64 1]) ∧ Below w.heap.size w w' := by
  go_enter_defers Try.func30, Try.ntmps30
  go_wp2_with fail
  refine (pmay_no _ _ hn).mono ?_
  rintro e w' ⟨rfl, rfl⟩
  have hB : Below w.heap.size w ((w.alloc (.cells #[.slice none 0 0] 25)).alloc (.cells #[.int .i64 1] 23)) := ((Below.refl _ _).alloc (Nat.le_refl _) _).alloc (by simp) _
  have hk := two_cells w (.slice none 0 0) (.int .i64 1) 25 23
  have hx1 : ((w.alloc (.cells #[.slice none 0 0] 25)).alloc (.cells #[.int .i64 1] 23)).cell? ⟨w.heap.size, 0, none⟩ = some (.slice none 0 0) := cell_of hk.1
  have hx2 : ((w.alloc (.cells #[.slice none 0 0] 25)).alloc (.cells #[.int .i64 1] 23)).cell? ⟨w.heap.size + 1, 0, none⟩ = some (.int .i64 1) := cell_of hk.2
  clear hk
  go_wp2
  simp [bodyPostD, Leaves, results, Try.results30, go_sem, hx1, hx2, hB]

set_option maxHeartbeats 4000000 in
theorem parse_long (n : Int) (s : ByteArray) (w : World) (hn1 : 1 ≤ n) (hn2 : n ≤ 12) (hs : 4000 < s.size) (hm : s.size ≤ 9223372036854775807) :
    Calls Try.prog 30 #[.int .i64 n, .string s] w fun e w' => e = .returned (.tuple #[.slice none 0 0, .int .i64 3]) ∧ Below w.heap.size w w' := by
  go_enter_defers Try.func30, Try.ntmps30
  go_wp2_with fail
  refine (pmay_yes _ _ hn1 hn2).mono ?_
  rintro e w' ⟨rfl, rfl⟩
  have hB : Below w.heap.size w ((w.alloc (.cells #[.slice none 0 0] 25)).alloc (.cells #[.int .i64 3] 23)) := ((Below.refl _ _).alloc (Nat.le_refl _) _).alloc (by simp) _
  have hk := two_cells w (.slice none 0 0) (.int .i64 3) 25 23
  have hx1 : ((w.alloc (.cells #[.slice none 0 0] 25)).alloc (.cells #[.int .i64 3] 23)).cell? ⟨w.heap.size, 0, none⟩ = some (.slice none 0 0) := cell_of hk.1
  have hx2 : ((w.alloc (.cells #[.slice none 0 0] 25)).alloc (.cells #[.int .i64 3] 23)).cell? ⟨w.heap.size + 1, 0, none⟩ = some (.int .i64 3) := cell_of hk.2
  clear hk
  go_wp2
  simp [bodyPostD, Leaves, results, Try.results30, go_sem, hx1, hx2, hB]

end Go.Proofs.Ytgglbafcocbhbaa
