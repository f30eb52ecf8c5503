/- Joined: Num, Sl, Same, Check, Own, Rank, Cyc, Cycs, Order, Sum, Sign, Text, Bell, Read, At. -/
import Derived.Test.YtahffpgadoiijaaGreatRows
import Derived.WalkKit
import Derived.WalkSpells
import Derived.WalkLawsBesides
import Derived.Deep.LoopGhost
import Derived.WalkSmall
import Derived.Lib.OthersKept
import Derived.Shelf.Slices.Delete
import Derived.Lib.OwnBridge
/- Contracts of the small functions on numbers: mayCount, Factorial, rowsOf, leastMultiple. -/
namespace Go.Proofs.YtahffpgadoiijaaGreat
open Go.RowKit

def fct : Nat → Nat
  | 0 => 1
  | n + 1 => (n + 1) * fct n

theorem fct_pos (n : Nat) : 0 < fct n := by
  induction n with
  | zero => decide
  | succ n ih => exact Nat.mul_pos (Nat.succ_pos n) ih

theorem fct_mono {a b : Nat} (h : a ≤ b) : fct a ≤ fct b := by
  induction b with
  | zero => have : a = 0 := by omega
            subst this; exact Nat.le_refl _
  | succ b ih =>
    by_cases e : a = b + 1
    · subst e; exact Nat.le_refl _
    · have h1 := ih (by omega)
      have h2 : fct b ≤ (b + 1) * fct b := Nat.le_mul_of_pos_left _ (Nat.succ_pos b)
      exact Nat.le_trans h1 h2

theorem fct_le {n : Nat} (h : n ≤ 12) : fct n ≤ 479001600 := Nat.le_trans (fct_mono h) (by decide)

theorem ret_int {k : IntKind} {a b : Int} (h : a = b) : Ending.returned (.int k a) = .returned (.int k b) := by rw [h]

set_option maxHeartbeats 400000 in
theorem mayCount_yes (n : Int) (w : World) (h1 : 1 ≤ n) (h2 : n ≤ 12) :
    Calls Tryz.prog 95 #[.int .i64 n] w fun e w' => e = .returned (.bool true) ∧ w = w' := by
  go_enter Tryz.func95, Tryz.ntmps95
  go_wp2
  go_ret
  exact ⟨rfl, rfl⟩

set_option maxHeartbeats 400000 in
theorem mayCount_no (n : Int) (w : World) (h : n < 1 ∨ 12 < n) :
    Calls Tryz.prog 95 #[.int .i64 n] w fun e w' => e = .returned (.bool false) ∧ w = w' := by
  rcases h with h | h
  · go_enter Tryz.func95, Tryz.ntmps95
    go_wp2
    go_ret
    exact ⟨rfl, rfl⟩
  · have h1 : 1 ≤ n := by omega
    have h2 : decide (n ≤ 12) = false := by simp; omega
    go_enter Tryz.func95, Tryz.ntmps95
    go_wp2
    go_ret
    exact ⟨rfl, rfl⟩

theorem fct_one {n : Nat} (h : n < 2) : fct n = 1 := by
  match n, h with
  | 0, _ => rfl
  | 1, _ => rfl

theorem fct_step {n : Nat} (h : ¬ n < 2) : n * fct (n - 1) = fct n := by
  match n, h with
  | n + 1, _ => rfl

set_option maxHeartbeats 400000 in
theorem factorial_any (n : Nat) (w : World) (h : n ≤ 12) :
    Calls Tryz.prog 47 #[.int .i64 n] w fun e w' => e = .returned (.int .i64 (fct n)) ∧ w = w' := by
  induction n with
  | zero =>
    go_enter Tryz.func47, Tryz.ntmps47
    go_wp2_with fail
    go_ret
    exact ⟨rfl, rfl⟩
  | succ n ih =>
    have ih' := ih (by omega)
    have IH : Hid (Calls Tryz.prog 47 #[.int .i64 n] w fun e w' => e = .returned (.int .i64 (fct n)) ∧ w = w') := ih'
    have hb := fct_le (n := n + 1) h
    have hb' := fct_le (n := n) (by omega)
    have hm : Hid (((n : Int) + 1) * (fct n : Int) = (fct (n + 1) : Int)) := by show _ = (((n + 1) * fct n : Nat) : Int); rw [Int.natCast_mul]; rfl
    clear ih ih'
    by_cases h2 : n = 0
    · subst h2
      go_enter Tryz.func47, Tryz.ntmps47
      go_wp2_with fail
      go_ret
      exact ⟨rfl, rfl⟩
    · have h3 : 1 ≤ n := by omega
      have h4 : ((n : Int) + 1) * (fct n : Int) ≤ 479001600 := by rw [hm.out]; omega
      have h5 : 0 ≤ ((n : Int) + 1) * (fct n : Int) := by rw [hm.out]; omega
      clear h2
      go_enter Tryz.func47, Tryz.ntmps47
      go_wp2_with fail
      first
        | refine IH.out.mono ?_
        | (rw [show ((n : Int) + 1 - 1) = (n : Int) from by omega]; refine IH.out.mono ?_)
      rintro e w' ⟨rfl, rfl⟩
      go_wp2_with fail
      go_ret
      exact ⟨ret_int hm.out, rfl⟩

theorem lcm_of_least {a b c : Nat} (ha : 1 ≤ a) (hb : 1 ≤ b) (hd : b ∣ c * a) (hc : 1 ≤ c) (hl : ∀ d, 1 ≤ d → d < c → ¬ b ∣ d * a) : c * a = Nat.lcm a b := by
  have h1 : Nat.lcm a b ∣ c * a := Nat.lcm_dvd (Nat.dvd_mul_left a c) hd
  have hp : 0 < Nat.lcm a b := Nat.lcm_pos ha hb
  have h2 : Nat.lcm a b ≤ c * a := Nat.le_of_dvd (Nat.mul_pos hc ha) h1
  obtain ⟨d, hd'⟩ := Nat.dvd_lcm_left a b
  have h3 : 1 ≤ d := by
    rcases Nat.eq_zero_or_pos d with h | h
    · rw [h, Nat.mul_zero] at hd'; omega
    · exact h
  have h4 : ¬ d < c := fun h => hl d h3 h (by rw [Nat.mul_comm, ← hd']; exact Nat.dvd_lcm_right a b)
  have h5 : c * a ≤ d * a := Nat.mul_le_mul_right a (by omega)
  rw [Nat.mul_comm d a, ← hd'] at h5
  omega

end Go.Proofs.YtahffpgadoiijaaGreat

/- Lists of ints behind slice values; contracts of the functions that only read them: lower, Same, Check. -/
namespace Go.Proofs.YtahffpgadoiijaaGreat
open Go.RowKit

/-- The slice value v reads as the list xs in the world w. -/
def Ints (w : World) (v : Value) (xs : List Int) : Prop :=
  (xs = [] ∧ ∃ p c, v = .slice p 0 c) ∨
  ∃ b off cap, v = .slice (some ⟨b, off, none⟩) xs.length cap ∧ 0 < xs.length ∧ xs.length ≤ cap ∧ cap ≤ 9223372036854775807 ∧ b < w.heap.size ∧
    ∀ j, j < xs.length → w.cell? ⟨b, off + j, none⟩ = some (.int .i64 (xs.getD j 0))

theorem Ints.mono {w w' : World} {v : Value} {xs : List Int} {B : Nat} (h : Ints w v xs) (hb : Below B w w') (hB : w.heap.size ≤ B) : Ints w' v xs := by
  rcases h with h | ⟨b, off, cap, h1, h2, h3, h4, h5, h6⟩
  · exact Or.inl h
  · refine Or.inr ⟨b, off, cap, h1, h2, h3, h4, Nat.lt_of_lt_of_le h5 hb.size, fun j hj => ?_⟩
    rw [hb.cell (p := ⟨b, off + j, none⟩) (Nat.lt_of_lt_of_le h5 hB)]
    exact h6 j hj

theorem Ints.below {w w' : World} {v : Value} {xs : List Int} (h : Ints w v xs) (hb : Below w.heap.size w w') : Ints w' v xs := h.mono hb (Nat.le_refl _)

theorem Ints.nil (w : World) : Ints w (.slice none 0 0) [] := Or.inl ⟨rfl, none, 0, rfl⟩

theorem Ints.form {w : World} {v : Value} {xs : List Int} (h : Ints w v xs) : ∃ p cap, v = .slice p xs.length cap := by
  rcases h with ⟨rfl, p, c, rfl⟩ | ⟨b, off, cap, h1, _⟩
  · exact ⟨p, c, rfl⟩
  · exact ⟨_, cap, h1⟩

/-- What the call owns reads as the list. -/
theorem Ints.own {w : World} {base e : Nat} {v : Value} {n : Nat} {xs : List Int} (h : w.ownsRow base e 1 v n (xs.map (Value.int .i64))) : Ints w v xs := by
  obtain ⟨h1, h2⟩ := h
  rw [List.length_map, Nat.mul_one] at h1
  subst h1
  rcases h2 with ⟨rfl, h⟩ | ⟨g, cap, cur, hv, _, hh, hn, hm, hs, ht⟩
  · exact Or.inl ⟨List.length_eq_zero_iff.1 h, none, 0, rfl⟩
  · rcases Nat.eq_zero_or_pos xs.length with h0 | h0
    · exact Or.inl ⟨List.length_eq_zero_iff.1 h0, _, cap, by rw [hv, h0]⟩
    · refine Or.inr ⟨g, 0, cap, hv, h0, hn, by unfold maxLen at hm; omega, ?_, fun j hj => ?_⟩
      · exact (Array.getElem?_eq_some_iff.1 hh).1
      · have hown : w.ownsRow base e 1 v xs.length (xs.map (Value.int .i64)) := ⟨by simp, Or.inr ⟨g, cap, cur, hv, ‹_›, hh, hn, hm, hs, ht⟩⟩
        have := hown.cells (g := g) (by rw [hv]; rfl) j (.int .i64 (xs.getD j 0)) (by simp [List.getElem?_map, List.getD, List.getElem?_eq_getElem hj])
        rw [Addr.add_lit] at this
        exact this

theorem cellAt {w : World} {b off k : Nat} {xs : List Int} (hcell : ∀ j, j < xs.length → w.cell? ⟨b, off + j, none⟩ = some (.int .i64 (xs.getD j 0))) (h : k < xs.length) :
    ∃ y, Hid (xs[k]?.getD 0 = y) ∧ w.cell? ⟨b, off + k, none⟩ = some (.int .i64 y) := ⟨_, rfl, hcell k h⟩

/-- How many of the list are less than x. -/
def cnt (x : Int) (xs : List Int) : Nat := (xs.filter (fun y => decide (y < x))).length

theorem cnt_le (x : Int) (xs : List Int) : cnt x xs ≤ xs.length := List.length_filter_le _ _

theorem take_snoc (xs : List Int) (k : Nat) (h : k < xs.length) : xs.take (k + 1) = xs.take k ++ [xs[k]?.getD 0] := by
  rw [List.take_succ_eq_append_getElem h]; simp [List.getElem?_eq_getElem h]

theorem cnt_snoc (x y : Int) (xs : List Int) : cnt x (xs ++ [y]) = cnt x xs + if y < x then 1 else 0 := by
  unfold cnt
  rw [List.filter_append, List.length_append]
  by_cases h : y < x <;> simp [h]

end Go.Proofs.YtahffpgadoiijaaGreat

/- Contracts: Same, Check. -/
namespace Go.Proofs.YtahffpgadoiijaaGreat
open Go.RowKit

theorem take_eq_snoc {xs ys : List Int} {k : Nat} (h : xs.take k = ys.take k) (hx : k < xs.length) (hy : k < ys.length) (e : xs[k]?.getD 0 = ys[k]?.getD 0) : xs.take (k + 1) = ys.take (k + 1) := by
  rw [take_snoc xs k hx, take_snoc ys k hy, h, e]

theorem ret_bool {a b : Bool} (h : a = b) : Ending.returned (.bool a) = .returned (.bool b) := by rw [h]

set_option maxHeartbeats 800000 in
theorem same_any (v1 v2 : Value) (xs ys : List Int) (w : World) (h1 : Ints w v1 xs) (h2 : Ints w v2 ys) :
    Calls Tryz.prog 32 #[v1, v2] w fun e w' => e = .returned (.bool (decide (xs = ys))) ∧ Below w.heap.size w w' := by
  by_cases hlen : xs.length = ys.length
  · rcases h1 with ⟨rfl, p, c, rfl⟩ | ⟨b, off, cap, rfl, h0, hc, hm, hb, hcell⟩
    · obtain rfl : ys = [] := List.length_eq_zero_iff.1 (by simpa using hlen.symm)
      obtain ⟨p2, c2, rfl⟩ := h2.form
      clear h2
      go_enter Tryz.func32, Tryz.ntmps32
      go_wp2
      go_loop [5] (fun i => i = .int .i64 0) (fun _ => 0)
      case atStart => rfl
      case round =>
        subst hrel
        go_wp2
        go_ret
        exact ⟨rfl, Below.refl _ _⟩
    · rcases h2 with ⟨rfl, p, c, rfl⟩ | ⟨b2, off2, cap2, rfl, h02, hc2, hm2, hb2, hcell2⟩
      · simp at hlen; subst hlen; simp at h0
      · have hl : (((xs.length : Nat) : Int) != ((ys.length : Nat) : Int)) = false := by rw [hlen]; simp
        have HL : Hid (xs.length = ys.length) := hlen
        clear hlen
        go_enter Tryz.func32, Tryz.ntmps32
        go_wp2
        go_loopw [5] (fun i wr => ∃ k : Nat, k ≤ xs.length ∧ i = .int .i64 k ∧ Hid (xs.take k = ys.take k) ∧ Below w.heap.size w wr) (fun i _ => xs.length - (intOf i).toNat)
        case atStart => exact ⟨0, by omega, rfl, by simp [Hid], Below.refl _ _⟩
        case round =>
          obtain ⟨k, hk, rfl, ht, hbw⟩ := hrel
          by_cases hlt : k < xs.length
          · have hlt2 : k < ys.length := by have := HL.out; omega
            obtain ⟨x, hx, hcx⟩ := cellAt hcell hlt
            obtain ⟨y, hy, hcy⟩ := cellAt hcell2 hlt2
            have gx : wr.cell? ⟨b, off + k, none⟩ = some (.int .i64 x) := (hbw.cell (by exact hb)).trans hcx
            have gy : wr.cell? ⟨b2, off2 + k, none⟩ = some (.int .i64 y) := (hbw.cell (by exact hb2)).trans hcy
            clear hcx hcy hcell hcell2
            by_cases hxy : x = y
            · subst hxy
              go_wp2
              go_region
              all_goals
                go_wp2
                go_roundw
                case rel => exact ⟨k + 1, by omega, by go_num, take_eq_snoc ht.out hlt hlt2 (by rw [hx.out, hy.out]), by first | exact hbw | exact hbw.drew | exact hbw.drew.drew⟩
                case measure => simp [intOf]; omega
            · have hne : (x != y) = true := by simpa using hxy
              have HXY : Hid (¬ x = y) := hxy
              clear hxy
              go_wp2
              go_region
              all_goals
                go_wp2
                go_ret
                refine ⟨ret_bool ?_, by first | exact hbw | exact hbw.drew | exact hbw.drew.drew⟩
                symm
                rw [decide_eq_false_iff_not]
                intro e
                exact HXY.out (by rw [← hx.out, ← hy.out, e])
          · clear hcell hcell2
            go_wp2
            go_ret
            refine ⟨ret_bool ?_, hbw⟩
            symm
            rw [decide_eq_true_iff]
            have h3 := ht.out
            have h4 := HL.out
            rwa [List.take_of_length_le (by omega), List.take_of_length_le (by omega)] at h3
  · obtain ⟨p1, c1, rfl⟩ := h1.form
    obtain ⟨p2, c2, rfl⟩ := h2.form
    have hl : (((xs.length : Nat) : Int) != ((ys.length : Nat) : Int)) = true := by rw [bne_iff_ne]; omega
    have hd : decide (xs = ys) = false := by rw [decide_eq_false_iff_not]; intro e; exact hlen (by rw [e])
    clear hlen h1 h2
    go_enter Tryz.func32, Tryz.ntmps32
    go_wp2
    go_ret
    exact ⟨ret_bool hd.symm, Below.refl _ _⟩

end Go.Proofs.YtahffpgadoiijaaGreat

/- Contract: Check. -/
namespace Go.Proofs.YtahffpgadoiijaaGreat
open Go.RowKit

/-- Each of 0 .. n - 1 once. -/
def isRow (xs : List Int) : Prop := (∀ y ∈ xs, 0 ≤ y ∧ y < xs.length) ∧ xs.Nodup

def instRow (xs : List Int) : Decidable (isRow xs) := by unfold isRow; exact inferInstance

/-- What Check says. -/
def chk (xs : List Int) : Int := if 1 ≤ xs.length ∧ xs.length ≤ 12 then (if @decide (isRow xs) (instRow xs) = true then 0 else 2) else 1

theorem chk_ok {xs : List Int} (h1 : 1 ≤ xs.length) (h2 : xs.length ≤ 12) (h : isRow xs) : chk xs = 0 := by
  unfold chk; rw [if_pos ⟨h1, h2⟩, if_pos (by simpa using h)]
theorem chk_row {xs : List Int} (h1 : 1 ≤ xs.length) (h2 : xs.length ≤ 12) (h : ¬ isRow xs) : chk xs = 2 := by
  unfold chk; rw [if_pos ⟨h1, h2⟩, if_neg (by simpa using h)]
theorem chk_count {xs : List Int} (h : ¬ (1 ≤ xs.length ∧ xs.length ≤ 12)) : chk xs = 1 := by
  unfold chk; rw [if_neg h]
theorem chk_zero {xs : List Int} (h : chk xs = 0) : 1 ≤ xs.length ∧ xs.length ≤ 12 ∧ isRow xs := by
  unfold chk at h
  split at h
  · rename_i h1
    split at h
    · rename_i h2; exact ⟨h1.1, h1.2, by simpa using h2⟩
    · omega
  · omega
theorem chk_range (xs : List Int) : 0 ≤ chk xs ∧ chk xs ≤ 2 := by
  unfold chk
  split
  · split <;> omega
  · omega

/-- Which bells there were: the array's cells. -/
def Marks (w : World) (b : Nat) (xs : List Int) : Prop :=
  ∀ j, j < 12 → w.cell? ⟨b, j, none⟩ = some (.bool (decide ((j : Int) ∈ xs))) ∧ w.frozen? ⟨b, j, none⟩ = false

theorem Marks.set {w : World} {b m : Nat} {xs : List Int} (h : Marks w b xs) (hm : m < 12) : Marks (w.setCell ⟨b, m, none⟩ (.bool true)) b (xs ++ [(m : Int)]) := by
  intro j hj
  refine ⟨?_, by rw [World.frozen?_setCell]; exact (h j hj).2⟩
  by_cases e : j = m
  · subst e
    rw [World.cell?_setCell_same _ _ _ (h j hj).1]
    simp
  · rw [World.cell?_setCell_other _ _ _ _ (by intro h; simp only [Addr.mk.injEq] at h; omega), (h j hj).1]
    have : ((j : Int) ∈ xs ++ [(m : Int)]) ↔ ((j : Int) ∈ xs) := by
      simp only [List.mem_append, List.mem_singleton]
      constructor
      · rintro (h | h)
        · exact h
        · omega
      · exact Or.inl
    simp only [this]

theorem marksAt {w : World} {b : Nat} {xs : List Int} {m : Nat} (h : Marks w b xs) (hm : m < 12) :
    ∃ t : Bool, Hid (t = decide ((m : Int) ∈ xs)) ∧ w.cell? ⟨b, m, none⟩ = some (.bool t) ∧ w.frozen? ⟨b, m, none⟩ = false := ⟨_, rfl, (h m hm).1, (h m hm).2⟩

theorem bad_of_take {xs : List Int} {k : Nat} (h : k < xs.length) (hb : ¬ (0 ≤ xs[k]?.getD 0 ∧ xs[k]?.getD 0 < xs.length) ∨ xs[k]?.getD 0 ∈ xs.take k) : ¬ isRow xs := by
  rintro ⟨h1, h2⟩
  have hm : xs[k]?.getD 0 = xs[k] := by simp [List.getElem?_eq_getElem h]
  rcases hb with hb | hb
  · exact hb (by rw [hm]; exact h1 _ (List.getElem_mem h))
  · rw [hm] at hb
    obtain ⟨i, hi, e⟩ := List.getElem_of_mem hb
    rw [List.length_take] at hi
    rw [List.getElem_take] at e
    have := (List.getElem_inj h2 (h₀ := by omega) (h₁ := h)).1 e
    omega

theorem row_of_steps {xs : List Int} (h1 : ∀ y ∈ xs, 0 ≤ y ∧ y < xs.length) (h2 : xs.Nodup) : isRow xs := ⟨h1, h2⟩

theorem good_snoc {xs : List Int} {k : Nat} {y : Int} (h : k < xs.length) (hy : xs[k]?.getD 0 = y) (h1 : ∀ z ∈ xs.take k, 0 ≤ z ∧ z < xs.length) (h2 : (xs.take k).Nodup)
    (h3 : 0 ≤ y) (h4 : y < xs.length) (h5 : ¬ y ∈ xs.take k) : (∀ z ∈ xs.take (k + 1), 0 ≤ z ∧ z < xs.length) ∧ (xs.take (k + 1)).Nodup := by
  rw [take_snoc xs k h, hy]
  constructor
  · intro z hz
    rcases List.mem_append.1 hz with hz | hz
    · exact h1 z hz
    · rw [List.mem_singleton.1 hz]; exact ⟨h3, h4⟩
  · rw [List.nodup_append]
    refine ⟨h2, by simp, ?_⟩
    intro a ha b hb e
    rw [List.mem_singleton] at hb
    subst hb; subst e
    exact h5 ha

/-- A number that an int may be. -/
def I64 (x : Int) : Prop := -9223372036854775808 ≤ x ∧ x ≤ 9223372036854775807

theorem hide {p : Prop} (h : p) : Hid p := h

theorem marks_start (w : World) : Marks (w.alloc (.cells #[.bool false, .bool false, .bool false, .bool false, .bool false, .bool false, .bool false, .bool false, .bool false, .bool false, .bool false, .bool false] 105)) w.heap.size (([] : List Int)) := by
  intro j hj
  constructor
  · match j, hj with
    | 0, _ | 1, _ | 2, _ | 3, _ | 4, _ | 5, _ | 6, _ | 7, _ | 8, _ | 9, _ | 10, _ | 11, _ => simp
  · rw [frozen?_alloc_cells]
    simp [World.frozen?]

set_option maxHeartbeats 1000000 in
theorem check_any (v : Value) (xs : List Int) (w : World) (h : Ints w v xs) :
    Calls Tryz.prog 76 #[v] w fun e w' => e = .returned (.int .i64 (chk xs)) ∧ Below w.heap.size w w' := by
  by_cases hc12 : 1 ≤ xs.length ∧ xs.length ≤ 12
  · obtain ⟨hn1, hn2⟩ := hc12
    rcases h with ⟨rfl, p, c, rfl⟩ | ⟨b, off, cap, rfl, h0, hc, hm, hb, hcell⟩
    · simp at hn1
    · go_enter Tryz.func76, Tryz.ntmps76
      go_wp2_with (go_at_call 95; refine (mayCount_yes _ _ (by omega) (by omega)).mono ?_; rintro e w' ⟨rfl, rfl⟩)
      go_loopw [12] (fun i wr => ∃ k : Nat, k ≤ xs.length ∧ i = .int .i64 k ∧ Hid (∀ y ∈ xs.take k, 0 ≤ y ∧ y < xs.length) ∧ Hid (xs.take k).Nodup ∧ Marks wr w.heap.size (xs.take k) ∧ Below w.heap.size w wr) (fun i _ => xs.length - (intOf i).toNat)
      case atStart =>
        refine ⟨0, by omega, rfl, by simp [Hid], by simp [Hid], marks_start w, (Below.refl _ _).alloc (Nat.le_refl _) _⟩
      case round =>
        obtain ⟨k, hk, rfl, hg1, hg2, hmk, hbw⟩ := hrel
        by_cases hlt : k < xs.length
        · obtain ⟨y, hy, hcx⟩ := cellAt hcell hlt
          have gx : wr.cell? ⟨b, off + k, none⟩ = some (.int .i64 y) := (hbw.cell (by exact hb)).trans hcx
          clear hcx hcell
          by_cases hy0 : y < 0
          · have HB := hide (chk_row hn1 hn2 (bad_of_take hlt (Or.inl (by rw [hy.out]; omega))))
            go_wp2
            go_ret
            exact ⟨ret_int HB.out.symm, hbw⟩
          · by_cases hyn : y < xs.length
            · obtain ⟨m, rfl⟩ := Int.eq_ofNat_of_zero_le (by omega : 0 ≤ y)
              have hm12 : m < 12 := by omega
              obtain ⟨t, ht, gt, gf⟩ := marksAt hmk hm12
              have hbs : w.heap.size < wr.heap.size := World.block_lt_of_cell? wr _ gt
              cases t with
              | true =>
                have HB := hide (chk_row hn1 hn2 (bad_of_take hlt (Or.inr (by rw [hy.out]; simpa using ht.out.symm))))
                go_wp2
                go_ret
                exact ⟨ret_int HB.out.symm, hbw⟩
              | false =>
                have HG := hide (good_snoc hlt hy.out hg1.out hg2.out (by omega) hyn (by simpa using ht.out.symm))
                have HM : Hid (xs.take (k + 1) = xs.take k ++ [(m : Int)]) := by rw [Hid, take_snoc xs k hlt, hy.out]
                go_wp2
                go_roundw
                case rel => exact ⟨k + 1, by omega, by go_num, HG.out.1, HG.out.2, by rw [HM.out]; exact hmk.set hm12, hbw.setCell (Nat.le_refl _) _⟩
                case measure => simp [intOf]; omega
            · have HB := hide (chk_row hn1 hn2 (bad_of_take hlt (Or.inl (by rw [hy.out]; omega))))
              go_wp2
              go_ret
              exact ⟨ret_int HB.out.symm, hbw⟩
        · have HB : Hid (chk xs = 0) := by
            have e : xs.take k = xs := List.take_of_length_le (by omega)
            exact chk_ok hn1 hn2 ⟨by have := hg1.out; rwa [e] at this, by have := hg2.out; rwa [e] at this⟩
          clear hcell
          go_wp2
          go_ret
          exact ⟨ret_int HB.out.symm, hbw⟩
  · obtain ⟨p, c, rfl⟩ := h.form
    have hch := chk_count hc12
    have HC : Hid (chk xs = 1) := hch
    have h3 : ((xs.length : Nat) : Int) < 1 ∨ 12 < ((xs.length : Nat) : Int) := by omega
    clear hch hc12 h
    go_enter Tryz.func76, Tryz.ntmps76
    go_wp2_with (go_at_call 95; refine (mayCount_no _ _ h3).mono ?_; rintro e w' ⟨rfl, rfl⟩)
    go_ret
    exact ⟨ret_int HC.out.symm, Below.refl _ _⟩

end Go.Proofs.YtahffpgadoiijaaGreat

/- Slices that a call has made itself; contracts: Rounds (both), Times, Back. -/
namespace Go.Proofs.YtahffpgadoiijaaGreat
open Go.RowKit

theorem Tryz.info3 : (Tryz.prog.info? 3).map (fun i => (i.zero, i.size, i.bytes)) = some (some (.int .i64 0), 1, 8) := by kernel_rfl

theorem owns_set {w : World} {base e g n cap m : Nat} {xs : List Value} (h : w.ownsRow base e 1 (.slice (some ⟨g, 0, none⟩) n cap) n xs) (u : Value) :
    (w.setCell ⟨g, m, none⟩ u).ownsRow base e 1 (.slice (some ⟨g, 0, none⟩) n cap) n (xs.set m u) := by
  obtain ⟨h1, h2⟩ := h
  refine ⟨by rw [List.length_set]; exact h1, ?_⟩
  rcases h2 with ⟨h2, _⟩ | ⟨g', cap', cur, hv, hb, hh, hn, hx, hs, ht⟩
  · cases h2
  · injection hv with e1 _ e3
    injection e1 with e1
    injection e1 with e1
    subst e1; subst e3
    refine Or.inr ⟨g, cap, cur.setIfInBounds m u, rfl, hb, ?_, hn, hx, by simpa using hs, ?_⟩
    · simp [World.setCell, Array.getElem?_modify, hh]
    · rw [Array.toList_setIfInBounds, List.take_set, ht]

theorem owns_cell {w : World} {base e g n cap j : Nat} {zs : List Int} (h : w.ownsRow base e 1 (.slice (some ⟨g, 0, none⟩) n cap) n (zs.map (Value.int .i64))) (hj : j < n) :
    w.cell? ⟨g, j, none⟩ = some (.int .i64 (zs.getD j 0)) ∧ w.frozen? ⟨g, j, none⟩ = false := by
  have hl : zs.length = n := by have := h.1; simpa using this
  constructor
  · have := h.cells (g := g) rfl j (.int .i64 (zs.getD j 0)) (by simp [List.getElem?_map, List.getD, List.getElem?_eq_getElem (by omega : j < zs.length)])
    rw [Addr.add_lit, Nat.zero_add] at this
    exact this
  · rcases h.2 with ⟨h2, _⟩ | ⟨g', cap', cur, hv, hb, hh, hn, hx, hs, ht⟩
    · cases h2
    · injection hv with e1 _ e3
      injection e1 with e1
      injection e1 with e1
      subst e1
      simp [World.frozen?, hh]

theorem owns_cellAt {w : World} {base e g n cap j : Nat} {zs : List Int} (h : w.ownsRow base e 1 (.slice (some ⟨g, 0, none⟩) n cap) n (zs.map (Value.int .i64))) (hj : j < n) :
    ∃ y, Hid (zs[j]?.getD 0 = y) ∧ w.cell? ⟨g, j, none⟩ = some (.int .i64 y) ∧ w.frozen? ⟨g, j, none⟩ = false := ⟨_, rfl, (owns_cell h hj).1, (owns_cell h hj).2⟩

theorem owns_set_int {w : World} {base e g n cap m : Nat} {zs : List Int} (h : w.ownsRow base e 1 (.slice (some ⟨g, 0, none⟩) n cap) n (zs.map (Value.int .i64))) (y : Int) :
    (w.setCell ⟨g, m, none⟩ (.int .i64 y)).ownsRow base e 1 (.slice (some ⟨g, 0, none⟩) n cap) n ((zs.set m y).map (Value.int .i64)) := by
  rw [List.map_set]; exact owns_set h _

theorem made_ints (n : Nat) : (madeCells #[Value.int .i64 0] n).toList = (List.replicate n (0 : Int)).map (Value.int .i64) := by
  apply List.ext_getElem
  · simp [madeCells]
  · intro i h1 h2
    simp [madeCells, Nat.mod_one]

/-- Rounds, as a list. -/
def rnd (n : Nat) : List Int := (List.range n).map (fun (i : Nat) => (i : Int))

theorem rnd_length (n : Nat) : (rnd n).length = n := by simp [rnd]

theorem rnd_get {n j : Nat} (h : j < n) : (rnd n).getD j 0 = j := by simp [rnd, List.getD, h]

theorem eq_rnd {n : Nat} {zs : List Int} (hl : zs.length = n) (h : ∀ j, j < n → zs.getD j 0 = (j : Int)) : zs = rnd n := by
  apply List.ext_getElem
  · rw [hl, rnd_length]
  · intro i h1 h2
    have h3 := h i (by omega)
    have h4 := rnd_get (n := n) (j := i) (by omega)
    simp only [List.getD, List.getElem?_eq_getElem h1, List.getElem?_eq_getElem h2, Option.getD_some] at h3 h4
    rw [h3, h4]

theorem getD_set {zs : List Int} {m j : Nat} {y : Int} (h : m < zs.length) : (zs.set m y).getD j 0 = if m = j then y else zs.getD j 0 := by
  simp only [List.getD, List.getElem?_set]
  by_cases e : m = j
  · subst e; simp [h]
  · simp [e]

theorem rnd_snoc (k : Nat) : rnd (k + 1) = rnd k ++ [(k : Int)] := by
  simp [rnd, List.range_succ]

set_option maxHeartbeats 1000000 in
theorem rrounds_ok (n : Nat) (w : World) (h2 : n ≤ 1000000) :
    Calls Tryz.prog 20 #[.int .i64 n] w fun e w' => ∃ v, e = .returned v ∧ w'.ownsRow w.heap.size 3 1 v n ((rnd n).map (Value.int .i64)) ∧ Below w.heap.size w w' := by
  obtain ⟨i0, hi, hz0, hz1, hz2⟩ := info_parts Tryz.info3
  go_enter Tryz.func20, Tryz.ntmps20
  go_wp2
  go_loopw [3, 4] (fun v i wr => ∃ (k : Nat), k ≤ n ∧ i = .int .i64 k ∧ wr.ownsRow w.heap.size 3 1 v k ((rnd k).map (Value.int .i64)) ∧ Below w.heap.size w wr) (fun _ i _ => n - (intOf i).toNat)
  case atStart => exact ⟨0, by omega, rfl, World.ownsRow_nil _ _ _ _, Below.refl _ _⟩
  case round =>
    obtain ⟨k, hk, rfl, hown, hbw⟩ := hrel
    by_cases hlt : k < n
    · have hbs := hbw.size
      go_wp2_with (at_builtin; refine wpList_append_own _ rfl _ _ 22 rfl w.heap.size 3 i0 (.int .i64 0) 1 8 Tryz.underlying22 hi hz0 hz1 hz2 rfl (by decide) _ _ _ rfl (hown.alloc _) ⟨wr.heap.size, 0, none⟩ 1 1 [.int .i64 (k : Int)] rfl rfl ?c1 ?c2 ?c3 ?c4 ?c5 ?_)
      case c1 => exact cell_one_new _ _ _
      case c2 => intro u hu; simp at hu; subst hu; rfl
      case c3 => unfold maxLen; omega
      case c4 => omega
      case c5 => simp; omega
      · intro v' w1 hown' hgrow _
        go_wp2
        go_roundw
        case rel => exact ⟨k + 1, by omega, by go_num, by rw [rnd_snoc, List.map_append]; exact hown', (hbw.alloc hbw.size _).grown hgrow (by simp; omega) (fun g hg => (hown.lt g hg).1)⟩
        case measure => simp [intOf]; omega
    · obtain rfl : k = n := by omega
      go_wp2
      go_ret
      exact ⟨_, rfl, hown, hbw⟩

/-- a, changed by b. -/
def by_ (a b : List Int) : List Int := b.map (fun j => a.getD j.toNat 0)

theorem by_length (a b : List Int) : (by_ a b).length = b.length := by simp [by_]

theorem by_get {a b : List Int} {j : Nat} (h : j < b.length) : (by_ a b).getD j 0 = a.getD (b.getD j 0).toNat 0 := by
  simp [by_, List.getD, h]

theorem ext_getD {xs ys : List Int} (hl : xs.length = ys.length) (h : ∀ j, j < xs.length → xs.getD j 0 = ys.getD j 0) : xs = ys := by
  apply List.ext_getElem hl
  intro i h1 h2
  have h3 := h i h1
  simpa only [List.getD, List.getElem?_eq_getElem h1, List.getElem?_eq_getElem h2, Option.getD_some] using h3

theorem isRow.at {xs : List Int} (h : isRow xs) {j : Nat} (hj : j < xs.length) : 0 ≤ xs.getD j 0 ∧ xs.getD j 0 < xs.length := by
  have e : xs.getD j 0 = xs[j] := by simp [List.getD, List.getElem?_eq_getElem hj]
  rw [e]
  exact h.1 _ (List.getElem_mem hj)

theorem isRow.inj {xs : List Int} (h : isRow xs) {i j : Nat} (hi : i < xs.length) (hj : j < xs.length) (e : xs.getD i 0 = xs.getD j 0) : i = j := by
  simp only [List.getD, List.getElem?_eq_getElem hi, List.getElem?_eq_getElem hj, Option.getD_some] at e
  exact (List.getElem_inj h.2).1 e

theorem times_step {a b zs : List Int} {k : Nat} {y : Int} (hk : k < b.length) (hy : y = a.getD (b.getD k 0).toNat 0) (hz : zs.length = b.length ∧ ∀ j, j < k → zs.getD j 0 = (by_ a b).getD j 0) :
    (zs.set k y).length = b.length ∧ ∀ j, j < k + 1 → (zs.set k y).getD j 0 = (by_ a b).getD j 0 := by
  refine ⟨by rw [List.length_set]; exact hz.1, fun j hj => ?_⟩
  rw [getD_set (by omega)]
  split
  · rename_i e; subst e; rw [by_get hk, hy]
  · exact hz.2 j (by omega)

end Go.Proofs.YtahffpgadoiijaaGreat

/- Contracts: Back, Rank. -/
namespace Go.Proofs.YtahffpgadoiijaaGreat
open Go.RowKit

/-- zs undoes r. -/
def Undoes (zs r : List Int) : Prop := zs.length = r.length ∧ ∀ j, j < r.length → zs.getD (r.getD j 0).toNat 0 = (j : Int)

theorem back_step {r zs : List Int} {k m : Nat} (hr : isRow r) (hk : k < r.length) (hm : r.getD k 0 = (m : Int)) (hz : zs.length = r.length ∧ ∀ j, j < k → zs.getD (r.getD j 0).toNat 0 = (j : Int)) :
    (zs.set m (k : Int)).length = r.length ∧ ∀ j, j < k + 1 → (zs.set m (k : Int)).getD (r.getD j 0).toNat 0 = (j : Int) := by
  have h1 := hr.at hk
  refine ⟨by rw [List.length_set]; exact hz.1, fun j hj => ?_⟩
  rw [getD_set (by have := hz.1; omega)]
  by_cases e : j = k
  · subst e; rw [hm, Int.toNat_natCast, if_pos rfl]
  · rw [if_neg]
    · exact hz.2 j (by omega)
    · intro h
      have h2 := hr.at (show j < r.length by omega)
      exact e (hr.inj (by omega) hk (by omega))

/-- The rank's first k steps. -/
def rkTo (xs : List Int) : Nat → Nat
  | 0 => 0
  | k + 1 => rkTo xs k * (xs.length - k) + cnt (xs.getD k 0) (xs.drop (k + 1))

theorem rkTo_bound (xs : List Int) (k : Nat) (h : k ≤ xs.length) : (rkTo xs k + 1) * fct (xs.length - k) ≤ fct xs.length := by
  induction k with
  | zero => simp [rkTo]
  | succ k ih =>
    have h1 := ih (by omega)
    have h2 := cnt_le (xs.getD k 0) (xs.drop (k + 1))
    rw [List.length_drop] at h2
    have e : xs.length - k = (xs.length - (k + 1)) + 1 := by omega
    have h3 : rkTo xs (k + 1) + 1 ≤ (rkTo xs k + 1) * (xs.length - k) := by
      show rkTo xs k * (xs.length - k) + cnt (xs.getD k 0) (xs.drop (k + 1)) + 1 ≤ _
      rw [Nat.add_mul, Nat.one_mul]; omega
    calc (rkTo xs (k + 1) + 1) * fct (xs.length - (k + 1)) ≤ ((rkTo xs k + 1) * (xs.length - k)) * fct (xs.length - (k + 1)) := Nat.mul_le_mul_right _ h3
      _ = (rkTo xs k + 1) * fct (xs.length - k) := by rw [Nat.mul_assoc, e]; rfl
      _ ≤ fct xs.length := h1

theorem rkTo_le (xs : List Int) (k : Nat) (h : k ≤ xs.length) (h12 : xs.length ≤ 12) : rkTo xs k ≤ 479001600 := by
  have h1 := rkTo_bound xs k h
  have h2 := fct_pos (xs.length - k)
  have h3 : rkTo xs k + 1 ≤ (rkTo xs k + 1) * fct (xs.length - k) := Nat.le_mul_of_pos_right _ h2
  have h4 := fct_le h12
  omega

/-- 'r[k+1:]'. -/
theorem drop_ints {w : World} {b off cap k : Nat} {xs : List Int} (hk : k < xs.length) (hc : xs.length ≤ cap) (hm : cap ≤ 9223372036854775807) (hb : b < w.heap.size)
    (hcell : ∀ j, j < xs.length → w.cell? ⟨b, off + j, none⟩ = some (.int .i64 (xs.getD j 0))) :
    ∃ A : Addr, (if cap = k + 1 then some (⟨b, off, none⟩ : Addr) else some ⟨b, off + (k + 1), none⟩) = some A ∧ Hid (Ints w (.slice (some A) (xs.length - (k + 1)) (cap - (k + 1))) (xs.drop (k + 1))) := by
  by_cases h : xs.length = k + 1
  · have e : xs.drop (k + 1) = [] := List.drop_eq_nil_of_le (by omega)
    by_cases h2 : cap = k + 1
    · exact ⟨⟨b, off, none⟩, by simp [h2], Or.inl ⟨e, some ⟨b, off, none⟩, cap - (k + 1), by rw [h, Nat.sub_self]⟩⟩
    · exact ⟨⟨b, off + (k + 1), none⟩, by simp [h2], Or.inl ⟨e, some ⟨b, off + (k + 1), none⟩, cap - (k + 1), by rw [h, Nat.sub_self]⟩⟩
  · refine ⟨⟨b, off + (k + 1), none⟩, by rw [if_neg (by omega)], Or.inr ⟨b, off + (k + 1), cap - (k + 1), ?_, ?_, ?_, by omega, hb, fun j hj => ?_⟩⟩
    · rw [List.length_drop]
    · rw [List.length_drop]; omega
    · rw [List.length_drop]; omega
    · rw [List.length_drop] at hj
      rw [Nat.add_assoc, hcell (k + 1 + j) (by omega)]
      simp [List.getD]

end Go.Proofs.YtahffpgadoiijaaGreat

/- Contract: cycleFrom. -/
namespace Go.Proofs.YtahffpgadoiijaaGreat
open Go.RowKit

/-- From a bell to the next one. -/
def nx (r : List Int) (x : Nat) : Nat := (r.getD x 0).toNat

/-- k steps on. -/
def it (r : List Int) : Nat → Nat → Nat
  | 0, x => x
  | k + 1, x => nx r (it r k x)

/-- The first k bells of a cycle. -/
def orb (r : List Int) (x k : Nat) : List Int := (List.range k).map (fun i => ((it r i x : Nat) : Int))

/-- The cycle's length. -/
def per (r : List Int) (x : Nat) : Nat := ((List.range r.length).find? (fun q => it r (q + 1) x == x)).getD 0 + 1

theorem orb_length (r : List Int) (x k : Nat) : (orb r x k).length = k := by simp [orb]

theorem orb_snoc (r : List Int) (x k : Nat) : orb r x (k + 1) = orb r x k ++ [((it r k x : Nat) : Int)] := by simp [orb, List.range_succ]

theorem nx_lt {r : List Int} (h : isRow r) {x : Nat} (hx : x < r.length) : nx r x < r.length := by
  have := h.at hx
  unfold nx; omega

theorem it_lt {r : List Int} (h : isRow r) {x : Nat} (hx : x < r.length) (k : Nat) : it r k x < r.length := by
  induction k with
  | zero => exact hx
  | succ k ih => exact nx_lt h ih

theorem nx_inj {r : List Int} (h : isRow r) {x y : Nat} (hx : x < r.length) (hy : y < r.length) (e : nx r x = nx r y) : x = y := by
  have h1 := h.at hx
  have h2 := h.at hy
  unfold nx at e
  exact h.inj hx hy (by omega)

theorem it_add (r : List Int) (i j x : Nat) : it r (i + j) x = it r i (it r j x) := by
  induction i with
  | zero => simp [it]
  | succ i ih => rw [Nat.succ_add]; show nx r (it r (i + j) x) = nx r (it r i (it r j x)); rw [ih]

theorem it_inj {r : List Int} (h : isRow r) {x y : Nat} (hx : x < r.length) (hy : y < r.length) (k : Nat) (e : it r k x = it r k y) : x = y := by
  induction k with
  | zero => exact e
  | succ k ih => exact ih (nx_inj h (it_lt h hx k) (it_lt h hy k) e)

theorem nodup_len {α : Type} [DecidableEq α] : ∀ (l m : List α), l.Nodup → (∀ x ∈ l, x ∈ m) → l.length ≤ m.length
  | [], _, _, _ => Nat.zero_le _
  | a :: l, m, hn, hs => by
    have ha : a ∈ m := hs a (List.mem_cons_self)
    have hn' := List.nodup_cons.1 hn
    have h := nodup_len l (m.erase a) hn'.2 (fun x hx => (List.mem_erase_of_ne (fun e => hn'.1 (by rw [← e]; exact hx))).2 (hs x (List.mem_cons_of_mem _ hx)))
    rw [List.length_erase_of_mem ha] at h
    have h0 : 0 < m.length := List.length_pos_of_mem ha
    simp only [List.length_cons]
    omega

/-- Some step of the first n comes back. -/
theorem it_back {r : List Int} (h : isRow r) {x : Nat} (hx : x < r.length) : ∃ q, q < r.length ∧ it r (q + 1) x = x := by
  apply Classical.byContradiction
  intro hn
  have hne : ∀ q, q < r.length → it r (q + 1) x ≠ x := fun q hq e => hn ⟨q, hq, e⟩
  have hd : ((List.range (r.length + 1)).map (fun i => it r i x)).Nodup := by
    rw [List.nodup_iff_pairwise_ne, List.pairwise_map]
    refine List.Pairwise.imp_of_mem ?_ (List.pairwise_lt_range (n := r.length + 1))
    intro i j hi hj hij e
    rw [List.mem_range] at hi hj
    have e1 : it r j x = it r i (it r (j - i) x) := by rw [← it_add, show i + (j - i) = j from by omega]
    rw [e1] at e
    have e2 := it_inj h hx (it_lt h hx (j - i)) i e
    exact hne (j - i - 1) (by omega) (by rw [show j - i - 1 + 1 = j - i from by omega]; exact e2.symm)
  have hl := nodup_len _ (List.range r.length) hd (fun y hy => by
    obtain ⟨i, _, rfl⟩ := List.mem_map.1 hy
    exact List.mem_range.2 (it_lt h hx i))
  simp at hl
  omega

theorem per_spec {r : List Int} (h : isRow r) {x : Nat} (hx : x < r.length) : 1 ≤ per r x ∧ per r x ≤ r.length ∧ it r (per r x) x = x ∧ ∀ q, 1 ≤ q → q < per r x → it r q x ≠ x := by
  unfold per
  cases hf : (List.range r.length).find? (fun q => it r (q + 1) x == x) with
  | none =>
    obtain ⟨q, hq, e⟩ := it_back h hx
    have := List.find?_eq_none.1 hf q (List.mem_range.2 hq)
    simp [e] at this
  | some p =>
    rw [Option.getD_some]
    obtain ⟨h1, l1, l2, h2, h3⟩ := List.find?_eq_some_iff_append.1 hf
    have hlen : l1.length = p := by
      have hp : (List.range r.length)[l1.length]? = some p := by rw [h2]; simp
      rw [List.getElem?_range] at hp
      · exact Option.some.inj hp
      · have := congrArg List.length h2; simp at this; omega
    have hp : p < r.length := by have := congrArg List.length h2; simp at this; omega
    refine ⟨by omega, by omega, by simpa using h1, fun q hq1 hq2 => ?_⟩
    have hm : (q - 1) ∈ l1 := by
      have h4 : (List.range r.length)[q - 1]? = some (q - 1) := by rw [List.getElem?_range (by omega)]
      rw [h2, List.getElem?_append_left (by omega)] at h4
      exact List.mem_of_getElem? h4
    have := h3 _ hm
    rw [show q - 1 + 1 = q from by omega] at this
    simpa using this

def sliceLen : Value → Nat
  | .slice _ n _ => n
  | _ => 0

theorem owns_len {w : World} {base e n : Nat} {v : Value} {xs : List Value} (h : w.ownsRow base e 1 v n xs) : sliceLen v = n := by
  rcases h.2 with ⟨rfl, h0⟩ | ⟨g, cap, cur, rfl, _⟩
  · rw [h0]; rfl
  · rfl

theorem owns_base {w : World} {base base' e n : Nat} {v : Value} {xs : List Value} (h : w.ownsRow base e 1 v n xs) (hb : base' ≤ base) : w.ownsRow base' e 1 v n xs := by
  obtain ⟨h1, h2⟩ := h
  refine ⟨h1, ?_⟩
  rcases h2 with h2 | ⟨g, cap, cur, hv, hg, r⟩
  · exact Or.inl h2
  · exact Or.inr ⟨g, cap, cur, hv, Nat.le_trans hb hg, r⟩

theorem one_owned (w : World) (x : Int) : (w.alloc (.cells #[.int .i64 x] 3)).ownsRow w.heap.size 3 1 (.slice (some ⟨w.heap.size, 0, none⟩) 1 1) 1 ([x].map (Value.int .i64)) :=
  ⟨by simp, Or.inr ⟨w.heap.size, 1, #[.int .i64 x], rfl, Nat.le_refl _, heap_alloc_new w _, Nat.le_refl _, by decide, by simp, by simp⟩⟩

set_option maxRecDepth 20000 in
set_option maxHeartbeats 1000000 in
theorem cycleFrom_ok (v1 : Value) (a : List Int) (x : Nat) (w : World) (i1 : Ints w v1 a) (r1 : isRow a) (n2 : a.length ≤ 12) (hx : x < a.length) :
    Calls Tryz.prog 77 #[v1, .int .i64 x] w fun e w' => ∃ v, e = .returned v ∧ w'.ownsRow w.heap.size 3 1 v (per a x) ((orb a x (per a x)).map (Value.int .i64)) ∧ Below w.heap.size w w' := by
  obtain ⟨i0, hi, hz0, hz1, hz2⟩ := info_parts Tryz.info3
  obtain ⟨p1, p2, p3, p4⟩ := per_spec r1 hx
  generalize per a x = p at p1 p2 p3 p4 ⊢
  have P3 := hide p3
  have P4 := hide p4
  have R1 := hide r1
  clear p3 p4 r1
  rcases i1 with ⟨rfl, q, c, rfl⟩ | ⟨b1, o1, cap1, rfl, h01, hcp1, hm1, hb1, hcell1⟩
  · simp at hx
  have hnx : ∀ y, y < a.length → a.getD y 0 = ((nx a y : Nat) : Int) := fun y hy => by
    have := R1.out.at hy
    unfold nx; omega
  obtain ⟨y, hy, hcy⟩ := cellAt hcell1 hx
  have hyx : y = ((it a 1 x : Nat) : Int) := hy.out.symm.trans (hnx x hx)
  rw [hyx] at hcy
  clear hyx hy
  have HNX := hide hnx
  have HCell := hide hcell1
  clear hnx hcell1
  go_enter Tryz.func77, Tryz.ntmps77
  go_wp2
  go_loopw [5, 6] (fun v bell wr => ∃ (k y : Nat), 1 ≤ k ∧ k ≤ p ∧ Hid (it a k x = y) ∧ y < a.length ∧ bell = .int .i64 (y : Int) ∧ wr.ownsRow w.heap.size 3 1 v k ((orb a x k).map (Value.int .i64)) ∧ Below w.heap.size w wr) (fun v _ _ => p - sliceLen v)
  case atStart => exact ⟨1, it a 1 x, by omega, p1, rfl, it_lt R1.out hx 1, rfl, one_owned w x, (Below.refl _ _).alloc (Nat.le_refl _) _⟩
  case round =>
    obtain ⟨k, y, hk1, hk2, hyk, hya, rfl, hown, hbw⟩ := hrel
    by_cases hlt : k < p
    · have hne : (((y : Nat) : Int) != ((x : Nat) : Int)) = true := by
        have := P4.out k hk1 hlt
        rw [hyk.out] at this
        rw [bne_iff_ne]; omega
      have hbs := hbw.size
      have hsl := hide (owns_len hown)
      have gy : wr.cell? ⟨b1, o1 + y, none⟩ = some (.int .i64 ((nx a y : Nat) : Int)) := (hbw.cell (by exact hb1)).trans ((HCell.out y hya).trans (by rw [HNX.out y hya]))
      go_wp2_with (at_builtin; refine wpList_append_own _ rfl _ _ 22 rfl w.heap.size 3 i0 (.int .i64 0) 1 8 Tryz.underlying22 hi hz0 hz1 hz2 rfl (by decide) _ _ _ rfl (hown.alloc _) ⟨wr.heap.size, 0, none⟩ 1 1 [.int .i64 (y : Int)] rfl rfl ?c1 ?c2 ?c3 ?c4 ?c5 ?_)
      case c1 => exact cell_one_new _ _ _
      case c2 => intro u hu; simp at hu; subst hu; rfl
      case c3 => unfold maxLen; omega
      case c4 => omega
      case c5 => simp; omega
      · intro v' w1 hown' hgrow _
        have hB1 : Below w.heap.size w w1 := (hbw.alloc hbw.size _).grown hgrow (by simp; omega) (fun g hg => (hown.lt g hg).1)
        have gy1 : w1.cell? ⟨b1, o1 + y, none⟩ = some (.int .i64 ((nx a y : Nat) : Int)) := (hB1.cell (by exact hb1)).trans ((hbw.cell (by exact hb1)).symm.trans gy)
        have hsl' := hide (owns_len hown')
        clear gy
        go_wp2
        go_roundw
        case rel => exact ⟨k + 1, nx a y, by omega, by omega, by show nx a (it a k x) = _; rw [hyk.out], nx_lt R1.out hya, rfl, by rw [orb_snoc, List.map_append, hyk.out]; exact hown', hB1⟩
        case measure => rw [hsl.out, hsl'.out]; omega
    · obtain rfl : k = p := by omega
      have hne : (((y : Nat) : Int) != ((x : Nat) : Int)) = false := by
        have := P3.out
        rw [hyk.out] at this
        rw [this]; simp
      go_wp2
      go_ret
      exact ⟨_, rfl, hown, hbw⟩

end Go.Proofs.YtahffpgadoiijaaGreat

/- Contract: Cycles. -/
namespace Go.Proofs.YtahffpgadoiijaaGreat
open Go.RowKit

theorem Tryz.info22 : (Tryz.prog.info? 22).map (fun i => (i.zero, i.size, i.bytes)) = some (some (.slice none 0 0), 1, 24) := by kernel_rfl

/-- The cycles that are found from the first k bells. -/
def cycsTo (r : List Int) : Nat → List (List Int)
  | 0 => []
  | k + 1 => if (k : Int) ∈ (cycsTo r k).flatten then cycsTo r k else cycsTo r k ++ [orb r k (per r k)]

/-- Each of the slices is the call's own and holds its list. -/
def OwnAll (w : World) (base : Nat) : List Value → List (List Int) → Prop
  | [], [] => True
  | u :: us, x :: xs => w.ownsRow base 3 1 u x.length (x.map (Value.int .i64)) ∧ OwnAll w base us xs
  | _, _ => False

theorem OwnAll.mono {w w' : World} {base : Nat} (h : ∀ u n xs, w.ownsRow base 3 1 u n xs → w'.ownsRow base 3 1 u n xs) : ∀ {us : List Value} {xs : List (List Int)}, OwnAll w base us xs → OwnAll w' base us xs
  | [], [], _ => trivial
  | _ :: _, _ :: _, ⟨h1, h2⟩ => ⟨h _ _ _ h1, OwnAll.mono h h2⟩

theorem OwnAll.snoc {w : World} {base : Nat} {u : Value} {x : List Int} (h : w.ownsRow base 3 1 u x.length (x.map (Value.int .i64))) : ∀ {us : List Value} {xs : List (List Int)}, OwnAll w base us xs → OwnAll w base (us ++ [u]) (xs ++ [x])
  | [], [], _ => ⟨h, trivial⟩
  | _ :: _, _ :: _, ⟨h1, h2⟩ => ⟨h1, OwnAll.snoc h h2⟩

theorem OwnAll.length {w : World} {base : Nat} : ∀ {us : List Value} {xs : List (List Int)}, OwnAll w base us xs → us.length = xs.length
  | [], [], _ => rfl
  | _ :: _, _ :: _, ⟨_, h2⟩ => by simp [OwnAll.length h2]

/-- Rows of different element types are different rows: what is owned of ints stays owned while the row of slices is written. -/
theorem owns_kept_ty {w w' : World} {base n m : Nat} {u v : Value} {xs ys : List Value} (h1 : w.ownsRow base 3 1 u n xs) (h2 : w.ownsRow base 22 1 v m ys) (hg : w.grownBy w' v.ownBlock) : w'.ownsRow base 3 1 u n xs := by
  refine h1.kept hg ?_
  rcases h1.2 with ⟨rfl, _⟩ | ⟨g1, c1, cur1, rfl, _, hh1, _⟩
  · exact Or.inl rfl
  · right
    rcases h2.2 with ⟨rfl, _⟩ | ⟨g2, c2, cur2, rfl, _, hh2, _⟩
    · intro e; cases e
    · intro e
      have e' : g1 = g2 := by simpa [Value.ownBlock] using e
      subst e'
      rw [hh1] at hh2
      injection hh2 with hh2
      injection hh2 with _ e2 _
      exact absurd e2 (by decide)

theorem marks_kept {w w' : World} {D : Nat} {row : Option Nat} {xs : List Int} (h : Marks w D xs) (hg : w.grownBy w' row) (hD : D < w.heap.size) (hr : some D ≠ row) : Marks w' D xs := by
  intro j hj
  have hb := hg.block D hD hr
  refine ⟨?_, ?_⟩
  · rw [World.cell?_of_block (w := w) (a := ⟨D, j, none⟩) hb]; exact (h j hj).1
  · rw [World.frozen?_of_block (w := w) (a := ⟨D, j, none⟩) hb]; exact (h j hj).2

theorem marks_below {w w' : World} {D B : Nat} {xs : List Int} (h : Marks w D xs) (hb : Below B w w') (hD : D < B) : Marks w' D xs := by
  intro j hj
  refine ⟨?_, ?_⟩
  · rw [hb.cell (p := ⟨D, j, none⟩) hD]; exact (h j hj).1
  · rw [hb.frozen (p := ⟨D, j, none⟩) hD]; exact (h j hj).2

theorem owns_below {w w' : World} {base B e n : Nat} {v : Value} {xs : List Value} (h : w.ownsRow base e 1 v n xs) (hb : Below B w w') (hB : w.heap.size ≤ B) : w'.ownsRow base e 1 v n xs := by
  obtain ⟨h1, h2⟩ := h
  refine ⟨h1, ?_⟩
  rcases h2 with h2 | ⟨g, cap, cur, hv, hg, hh, r⟩
  · exact Or.inl h2
  · have hlt : g < w.heap.size := (Array.getElem?_eq_some_iff.1 hh).1
    exact Or.inr ⟨g, cap, cur, hv, hg, by rw [hb.block g (by omega)]; exact hh, r⟩

theorem owns_form {w : World} {base e n : Nat} {v : Value} {xs : List Value} (h : w.ownsRow base e 1 v n xs) (hn : 1 ≤ n) : ∃ g cap, v = .slice (some ⟨g, 0, none⟩) n cap ∧ base ≤ g ∧ g < w.heap.size ∧ n ≤ cap ∧ cap ≤ 9223372036854775807 := by
  rcases h.2 with ⟨_, h0⟩ | ⟨g, cap, cur, rfl, hg, hh, hc, hm, _⟩
  · omega
  · exact ⟨g, cap, rfl, hg, (Array.getElem?_eq_some_iff.1 hh).1, hc, by unfold maxLen at hm; omega⟩

theorem cycleFrom_own (v1 : Value) (a : List Int) (x : Nat) (w : World) (i1 : Ints w v1 a) (r1 : isRow a) (n2 : a.length ≤ 12) (hx : x < a.length) :
    Calls Tryz.prog 77 #[v1, .int .i64 x] w fun e w' => ∃ g cap, e = .returned (.slice (some ⟨g, 0, none⟩) (per a x) cap) ∧ w.heap.size ≤ g ∧ per a x ≤ cap ∧ cap ≤ 9223372036854775807 ∧
      w'.ownsRow w.heap.size 3 1 (.slice (some ⟨g, 0, none⟩) (per a x) cap) (per a x) ((orb a x (per a x)).map (Value.int .i64)) ∧ Below w.heap.size w w' := by
  refine (cycleFrom_ok v1 a x w i1 r1 n2 hx).mono ?_
  rintro e w' ⟨v, rfl, hown, hb⟩
  obtain ⟨g, cap, rfl, h1, _, h2, h3⟩ := owns_form hown (per_spec r1 hx).1
  exact ⟨g, cap, rfl, h1, h2, h3, hown, hb⟩

theorem orb_at {r : List Int} {x k i : Nat} (h : i < k) : (orb r x k)[i]?.getD 0 = ((it r i x : Nat) : Int) := by simp [orb, h]

theorem orb_take {r : List Int} {x k i : Nat} (h : i < k) : (orb r x k).take (i + 1) = (orb r x k).take i ++ [((it r i x : Nat) : Int)] := by
  rw [take_snoc _ _ (by rw [orb_length]; exact h), orb_at h]

/-- What the outer loop's relation says of the world. -/
structure CycRel (w wr : World) (D : Nat) (a : List Int) (v : Value) (k : Nat) (vs : List Value) (xss : List (List Int)) : Prop where
  row : wr.ownsRow (D + 1) 22 1 v vs.length vs
  all : OwnAll wr (D + 1) vs xss
  found : Hid (xss = cycsTo a k)
  marks : Marks wr D xss.flatten
  size : D < wr.heap.size
  below : Below w.heap.size w wr

/-- .. and the inner one's. -/
structure MarkRel (w wr : World) (D : Nat) (v : Value) (vs : List Value) (xss : List (List Int)) (g p cap i : Nat) (o : List Int) : Prop where
  row : wr.ownsRow (D + 1) 22 1 v vs.length vs
  all : OwnAll wr (D + 1) vs xss
  one : wr.ownsRow (D + 1) 3 1 (.slice (some ⟨g, 0, none⟩) p cap) p (o.map (Value.int .i64))
  marks : Marks wr D (xss.flatten ++ o.take i)
  size : D < wr.heap.size
  below : Below w.heap.size w wr

theorem cycsTo_length (r : List Int) (k : Nat) : (cycsTo r k).length ≤ k := by
  induction k with
  | zero => exact Nat.le_refl _
  | succ k ih =>
    show (if (k : Int) ∈ (cycsTo r k).flatten then cycsTo r k else cycsTo r k ++ [orb r k (per r k)]).length ≤ k + 1
    split
    · omega
    · simp; omega

theorem CycRel.skip {w wr : World} {D k : Nat} {a : List Int} {v : Value} {vs : List Value} {xss : List (List Int)} (h : CycRel w wr D a v k vs xss) (hm : (k : Int) ∈ xss.flatten) : CycRel w wr D a v (k + 1) vs xss :=
  ⟨h.row, h.all, by show xss = if (k : Int) ∈ (cycsTo a k).flatten then cycsTo a k else cycsTo a k ++ [orb a k (per a k)]; rw [← h.found.out, if_pos hm], h.marks, h.size, h.below⟩

theorem CycRel.enter {w wr w1 : World} {D k g cap : Nat} {a : List Int} {v : Value} {vs : List Value} {xss : List (List Int)} (h : CycRel w wr D a v k vs xss) (hB : Below wr.heap.size wr w1)
    (ho : w1.ownsRow wr.heap.size 3 1 (.slice (some ⟨g, 0, none⟩) (per a k) cap) (per a k) ((orb a k (per a k)).map (Value.int .i64))) : MarkRel w w1 D v vs xss g (per a k) cap 0 (orb a k (per a k)) :=
  ⟨owns_below h.row hB (Nat.le_refl _), h.all.mono (fun _ _ _ h' => owns_below h' hB (Nat.le_refl _)), owns_base ho h.size, by rw [List.take_zero, List.append_nil]; exact marks_below h.marks hB h.size, Nat.lt_of_lt_of_le h.size hB.size, h.below.trans (hB.mono h.below.size)⟩

theorem MarkRel.step {w wr : World} {D g p cap i m B : Nat} {v : Value} {vs : List Value} {xss : List (List Int)} {o : List Int} (h : MarkRel w wr D v vs xss g p cap i o) (hm : m < 12) (ho : o.take (i + 1) = o.take i ++ [(m : Int)]) (hB : B = w.heap.size) (hD : B ≤ D) :
    MarkRel w (wr.setCell ⟨D, m, none⟩ (.bool true)) D v vs xss g p cap (i + 1) o :=
  ⟨ownsRow_setCell_below h.row (by exact Nat.lt_succ_self D) _, h.all.mono (fun _ _ _ h' => ownsRow_setCell_below h' (by exact Nat.lt_succ_self D) _), ownsRow_setCell_below h.one (by exact Nat.lt_succ_self D) _,
    by rw [ho, ← List.append_assoc]; exact h.marks.set hm, by simp [World.setCell]; exact h.size, h.below.setCell (by subst hB; exact hD) _⟩

theorem MarkRel.leave {w wr w' : World} {D g cap k : Nat} {a : List Int} {v v' : Value} {vs : List Value} {xss : List (List Int)} {o : Obj} (h : MarkRel w wr D v vs xss g (per a k) cap (per a k) (orb a k (per a k))) (hf : Hid (xss = cycsTo a k)) (hm : ¬ (k : Int) ∈ xss.flatten) (hD : w.heap.size ≤ D)
    (ho : w'.ownsRow (D + 1) 22 1 v' (vs.length + 1) (vs ++ [.slice (some ⟨g, 0, none⟩) (per a k) cap])) (hg : (wr.alloc o).grownBy w' v.ownBlock) : CycRel w w' D a v' (k + 1) (vs ++ [.slice (some ⟨g, 0, none⟩) (per a k) cap]) (xss ++ [orb a k (per a k)]) := by
  have hrow := h.row.alloc o
  have hs : D < (wr.alloc o).heap.size := by have := h.size; simp; omega
  refine ⟨by rw [List.length_append]; exact ho, ?_, ?_, ?_, Nat.lt_of_lt_of_le hs hg.size, ?_⟩
  · refine OwnAll.snoc ?_ (h.all.mono (fun _ _ _ h' => owns_kept_ty (h'.alloc o) hrow hg))
    rw [orb_length]
    exact owns_kept_ty (h.one.alloc o) hrow hg
  · show _ = if (k : Int) ∈ (cycsTo a k).flatten then cycsTo a k else cycsTo a k ++ [orb a k (per a k)]
    rw [← hf.out, if_neg hm]
  · have hmk := h.marks
    rw [List.take_of_length_le (by rw [orb_length]; exact Nat.le_refl _)] at hmk
    rw [List.flatten_append, show [orb a k (per a k)].flatten = orb a k (per a k) from by simp]
    refine marks_kept (marks_kept hmk (World.grownBy_alloc wr o none) h.size (by simp)) hg hs ?_
    intro e
    have := (h.row.lt D e.symm).1
    omega
  · refine (h.below.alloc h.below.size o).grown hg (by have := h.below.size; simp; omega) (fun g' hg' => ?_)
    have := (h.row.lt g' hg').1
    omega

set_option maxRecDepth 20000 in
set_option maxHeartbeats 2000000 in
theorem cycles_ok (v1 : Value) (a : List Int) (w : World) (i1 : Ints w v1 a) (r1 : isRow a) (n1 : 1 ≤ a.length) (n2 : a.length ≤ 12) :
    Calls Tryz.prog 59 #[v1] w fun e w' => ∃ v vs D, e = .returned (.tuple #[v, .int .i64 0]) ∧ w'.ownsRow D 22 1 v vs.length vs ∧ OwnAll w' D vs (cycsTo a a.length) ∧ w.heap.size ≤ D ∧ Below w.heap.size w w' := by
  obtain ⟨i0, hi, hz0, hz1, hz2⟩ := info_parts Tryz.info22
  have hc1 := chk_ok n1 n2 r1
  have C1 := check_any v1 a w i1
  rw [hc1] at C1
  have HC1 := hide C1
  have HI := hide i1
  have R1 := hide r1
  clear C1 hc1
  rcases i1 with ⟨rfl, p, c, rfl⟩ | ⟨b1, o1, cap1, rfl, h01, hcp1, hm1, hb1, hcell1⟩
  · simp at n1
  clear r1 hcell1
  go_enter Tryz.func59, Tryz.ntmps59
  go_wp2_with fail
  refine HC1.out.mono ?_
  rintro e w2 ⟨rfl, hB2⟩
  clear HC1
  have hD := hB2.size
  go_wp2
  go_loopw [6, 18] (fun v i wr => ∃ (k : Nat) (vs : List Value) (xss : List (List Int)), k ≤ a.length ∧ i = .int .i64 k ∧ CycRel w wr w2.heap.size a v k vs xss) (fun _ i _ => a.length - (intOf i).toNat)
  case atStart => exact ⟨0, [], [], by omega, rfl, ⟨World.ownsRow_nil _ _ _ _, trivial, rfl, marks_start w2, by simp, hB2.alloc hB2.size _⟩⟩
  case round =>
    obtain ⟨k, vs, xss, hk, rfl, hrel⟩ := hrel
    by_cases hlt : k < a.length
    · obtain ⟨t, ht, gt, gf⟩ := marksAt hrel.marks (show k < 12 by omega)
      cases t with
      | true =>
        have hin := hide (hrel.skip (by simpa using ht.out.symm))
        go_wp2
        go_roundw
        case rel => exact ⟨k + 1, vs, xss, by omega, by go_num, hin.out⟩
        case measure => simp [intOf]; omega
      | false =>
        have hni := hide (p := ¬ (k : Int) ∈ xss.flatten) (by simpa using ht.out.symm)
        have HCF := hide (cycleFrom_own _ a k wr (HI.out.below hrel.below) R1.out n2 hlt)
        have hper := (per_spec R1.out hlt).2.1
        have hit := hide (fun i => it_lt R1.out hlt i)
        go_wp2_with fail
        refine HCF.out.mono ?_
        rintro e w3 ⟨g, cap, rfl, hgs, hpc, hcm, hown3, hB3⟩
        have hmr := hrel.enter hB3 hown3
        have HF := hrel.found
        have HV := hide (OwnAll.length hrel.all)
        have HX : Hid (xss.length ≤ k) := by have := hrel.found.out; rw [this]; exact cycsTo_length a k
        clear hrel hown3 hB3 HCF gt gf ht hgs
        obtain ⟨wo, hwo⟩ : ∃ wo : World, wo = wr := ⟨_, rfl⟩
        clear hwo
        generalize hpp : per a k = p at *
        generalize hoo : orb a k p = o at *
        have HPP := hide hpp
        have HOO := hide hoo
        clear hpp hoo
        go_wp2
        go_loopw [29] (fun i wr => ∃ j : Nat, j ≤ p ∧ i = .int .i64 j ∧ MarkRel w wr w2.heap.size u6 vs xss g p cap j o) (fun i _ => p - (intOf i).toNat)
        case atStart => exact ⟨0, by omega, rfl, hmr⟩
        case round =>
          clear hmr
          obtain ⟨j, hj, rfl, hmr⟩ := hrel
          by_cases hjp : j < p
          · obtain ⟨y, hy, hcy, _⟩ := owns_cellAt hmr.one hjp
            have hym : y = ((it a j k : Nat) : Int) := by rw [← hy.out, ← HOO.out, orb_at hjp]
            have htk := hide (orb_take (r := a) (x := k) hjp)
            rw [HOO.out] at htk
            rw [hym] at hcy
            have hm12 : it a j k < 12 := by have := hit.out j; omega
            clear hy hym
            generalize it a j k = m at *
            obtain ⟨t, _, gt, gf⟩ := marksAt hmr.marks hm12
            go_wp2
            go_roundw
            case rel => exact ⟨j + 1, by omega, by go_num, hmr.step hm12 htk.out rfl hD⟩
            case measure => simp [intOf]; omega
          · obtain rfl : j = p := by omega
            have hbs := hmr.size
            have hvl : vs.length ≤ 12 := by have := HV.out; have := HX.out; omega
            go_wp2_with (at_builtin; refine wpList_append_own _ rfl _ _ 25 rfl (w2.heap.size + 1) 22 i0 (.slice none 0 0) 1 24 Tryz.underlying25 hi hz0 hz1 hz2 rfl (by decide) _ _ _ rfl (hmr.row.alloc _) ⟨wr.heap.size, 0, none⟩ 1 1 [.slice (some ⟨g, 0, none⟩) j cap] rfl rfl ?c1 ?c2 ?c3 ?c4 ?c5 ?_)
            case c1 => exact cell_one_new _ _ _
            case c2 => intro u hu; simp at hu; subst hu; rfl
            case c3 => unfold maxLen; omega
            case c4 => omega
            case c5 => simp; omega
            · intro v' w4 hown4 hgrow _
              go_wp2
              go_roundw
              case rel =>
                have hP := HPP.out
                subst hP
                have hO := HOO.out
                subst hO
                exact ⟨k + 1, _, _, by omega, by go_num, hmr.leave HF hni.out hD hown4 hgrow⟩
              case measure => simp [intOf]; omega
    · obtain rfl : k = a.length := by omega
      go_wp2
      go_ret2
      refine ⟨_, vs, w2.heap.size + 1, rfl, hrel.row, ?_, by omega, hrel.below⟩
      have := hrel.all
      rw [hrel.found.out] at this
      exact this

end Go.Proofs.YtahffpgadoiijaaGreat

/- Contract: Order. -/
namespace Go.Proofs.YtahffpgadoiijaaGreat
open Go.RowKit

def ordTo (xss : List (List Int)) : Nat → Nat
  | 0 => 1
  | j + 1 => Nat.lcm (ordTo xss j) (xss.getD j []).length

def oddTo (xss : List (List Int)) : Nat → Bool
  | 0 => false
  | j + 1 => if (xss.getD j []).length % 2 = 0 then !(oddTo xss j) else oddTo xss j

theorem cycsTo_len {a : List Int} (h : isRow a) (k : Nat) (hk : k ≤ a.length) : ∀ x ∈ cycsTo a k, 1 ≤ x.length ∧ x.length ≤ a.length := by
  induction k with
  | zero => intro x hx; cases hx
  | succ k ih =>
    intro x hx
    have hx' : x ∈ if (k : Int) ∈ (cycsTo a k).flatten then cycsTo a k else cycsTo a k ++ [orb a k (per a k)] := hx
    have hp := per_spec h (show k < a.length by omega)
    split at hx'
    · exact ih (by omega) x hx'
    · rcases List.mem_append.1 hx' with h1 | h1
      · exact ih (by omega) x h1
      · rw [List.mem_singleton.1 h1, orb_length]; exact ⟨hp.1, hp.2.1⟩

theorem cycsTo_pos (a : List Int) (k : Nat) : 1 ≤ (cycsTo a (k + 1)).length := by
  induction k with
  | zero => simp [cycsTo]
  | succ k ih =>
    show 1 ≤ (if ((k + 1 : Nat) : Int) ∈ (cycsTo a (k + 1)).flatten then cycsTo a (k + 1) else cycsTo a (k + 1) ++ [orb a (k + 1) (per a (k + 1))]).length
    split
    · exact ih
    · simp

theorem ordTo_bound {xss : List (List Int)} (h : ∀ x ∈ xss, 1 ≤ x.length ∧ x.length ≤ 12) (j : Nat) (hj : j ≤ xss.length) : 1 ≤ ordTo xss j ∧ ordTo xss j ≤ 12 ^ j := by
  induction j with
  | zero => exact ⟨Nat.le_refl _, Nat.le_refl _⟩
  | succ j ih =>
    obtain ⟨h1, h2⟩ := ih (by omega)
    have hx := h (xss.getD j []) (by rw [show xss.getD j [] = xss[j] from by simp [List.getD, List.getElem?_eq_getElem (show j < xss.length by omega)]]; exact List.getElem_mem _)
    have e : ordTo xss (j + 1) = Nat.lcm (ordTo xss j) (xss.getD j []).length := rfl
    rw [e]
    refine ⟨Nat.lcm_pos h1 hx.1, ?_⟩
    refine Nat.le_trans (Nat.le_of_dvd (Nat.mul_pos h1 hx.1) (Nat.lcm_dvd_mul _ _)) ?_
    rw [Nat.pow_succ]
    exact Nat.mul_le_mul h2 hx.2

theorem ownAll_at {w : World} {base : Nat} : ∀ {us : List Value} {xs : List (List Int)} {j : Nat}, OwnAll w base us xs → j < us.length → w.ownsRow base 3 1 (us.getD j undef) (xs.getD j []).length ((xs.getD j []).map (Value.int .i64))
  | _ :: _, _ :: _, 0, ⟨h1, _⟩, _ => h1
  | _ :: us, _ :: xs, j + 1, ⟨_, h2⟩, hj => by
    have := ownAll_at (j := j) h2 (by simpa using hj)
    simpa using this

theorem owns_slice {w : World} {base e n : Nat} {v : Value} {xs : List Value} (h : w.ownsRow base e 1 v n xs) : ∃ p cap, v = .slice p n cap := by
  rcases h.2 with ⟨rfl, h0⟩ | ⟨g, cap, cur, rfl, _⟩
  · exact ⟨none, 0, by rw [h0]⟩
  · exact ⟨_, cap, rfl⟩

theorem owns_val {w : World} {base e g n cap j : Nat} {vs : List Value} (h : w.ownsRow base e 1 (.slice (some ⟨g, 0, none⟩) n cap) n vs) (hj : j < n) : w.cell? ⟨g, j, none⟩ = some (vs.getD j undef) := by
  have hl : vs.length = n := by have := h.1; simpa using this
  have := h.cells (g := g) rfl j (vs.getD j undef) (by simp [List.getD, List.getElem?_eq_getElem (by omega : j < vs.length)])
  rw [Addr.add_lit, Nat.zero_add] at this
  exact this

theorem cyc_cell {w : World} {base g cap j : Nat} {vs : List Value} {xss : List (List Int)} (h : w.ownsRow base 22 1 (.slice (some ⟨g, 0, none⟩) vs.length cap) vs.length vs) (ha : OwnAll w base vs xss) (hj : j < vs.length) :
    ∃ p c, w.cell? ⟨g, j, none⟩ = some (.slice p (xss.getD j []).length c) := by
  obtain ⟨p, c, e⟩ := owns_slice (ownAll_at ha hj)
  exact ⟨p, c, by rw [owns_val h hj, e]⟩

theorem ret_ord {xss : List (List Int)} {i j : Nat} (h : i = j) : Ending.returned (.tuple #[.int .i64 (ordTo xss i), .bool (oddTo xss i), .int .i64 0]) = Ending.returned (.tuple #[.int .i64 (ordTo xss j), .bool (oddTo xss j), .int .i64 0]) := by rw [h]

end Go.Proofs.YtahffpgadoiijaaGreat

/- Plain: sums over places, the number of pairs that are the wrong way about, and that its parity is multiplied by composition. -/
namespace Go.Proofs.YtahffpgadoiijaaGreat

/-- The sum of f over 0 .. n - 1. -/
def S : Nat → (Nat → Nat) → Nat
  | 0, _ => 0
  | n + 1, f => S n f + f n

theorem S_congr {n : Nat} {f g : Nat → Nat} (h : ∀ i, i < n → f i = g i) : S n f = S n g := by
  induction n with
  | zero => rfl
  | succ n ih => show S n f + f n = S n g + g n; rw [ih (fun i hi => h i (by omega)), h n (by omega)]

theorem S_add (n : Nat) (f g : Nat → Nat) : S n (fun i => f i + g i) = S n f + S n g := by
  induction n with
  | zero => rfl
  | succ n ih => show S n (fun i => f i + g i) + (f n + g n) = (S n f + f n) + (S n g + g n); rw [ih]; omega

theorem S_mul (n c : Nat) (f : Nat → Nat) : S n (fun i => c * f i) = c * S n f := by
  induction n with
  | zero => rfl
  | succ n ih => show S n (fun i => c * f i) + c * f n = c * (S n f + f n); rw [ih, Nat.mul_add]

theorem S_zero (n : Nat) : S n (fun _ => 0) = 0 := by
  induction n with
  | zero => rfl
  | succ n ih => show S n (fun _ => 0) + 0 = 0; rw [ih]

/-- How many lie in an interval. -/
theorem S_between (n a b : Nat) (hab : a ≤ b) (hb : b ≤ n) : S n (fun i => if a ≤ i ∧ i < b then 1 else 0) = b - a := by
  induction n with
  | zero => show 0 = b - a; omega
  | succ n ih =>
    show S n (fun i => if a ≤ i ∧ i < b then 1 else 0) + (if a ≤ n ∧ n < b then 1 else 0) = b - a
    by_cases h : b ≤ n
    · rw [ih h, if_neg (by omega)]; rfl
    · have hbn : b = n + 1 := by omega
      subst hbn
      by_cases h2 : a ≤ n
      · have : S n (fun i => if a ≤ i ∧ i < n + 1 then 1 else 0) = S n (fun i => if a ≤ i ∧ i < n then 1 else 0) := S_congr (fun i hi => by
          by_cases h3 : a ≤ i
          · rw [if_pos ⟨h3, by omega⟩, if_pos ⟨h3, hi⟩]
          · rw [if_neg (fun h => h3 h.1), if_neg (fun h => h3 h.1)])
        rw [if_pos ⟨h2, by omega⟩]
        have key : ∀ m a, a ≤ m → S m (fun i => if a ≤ i ∧ i < m + 1 then 1 else 0) = m - a := by
          intro m a hm
          clear ih this
          induction m with
          | zero => show 0 = 0 - a; omega
          | succ m ihm =>
            show S m (fun i => if a ≤ i ∧ i < m + 1 + 1 then 1 else 0) + (if a ≤ m ∧ m < m + 1 + 1 then 1 else 0) = m + 1 - a
            have e : S m (fun i => if a ≤ i ∧ i < m + 1 + 1 then 1 else 0) = S m (fun i => if a ≤ i ∧ i < m + 1 then 1 else 0) := S_congr (fun i hi => by
              by_cases h3 : a ≤ i
              · rw [if_pos ⟨h3, by omega⟩, if_pos ⟨h3, by omega⟩]
              · rw [if_neg (fun h => h3 h.1), if_neg (fun h => h3 h.1)])
            rw [e]
            by_cases h4 : a ≤ m
            · rw [ihm h4, if_pos ⟨h4, by omega⟩]; omega
            · have z : S m (fun i => if a ≤ i ∧ i < m + 1 then 1 else 0) = S m (fun _ => 0) := S_congr (fun i hi => by rw [if_neg (by omega)])
              rw [z, S_zero, if_neg (by omega)]; omega
        rw [key n a h2]; omega
      · have z : S n (fun i => if a ≤ i ∧ i < n + 1 then 1 else 0) = S n (fun _ => 0) := S_congr (fun i hi => by rw [if_neg (by omega)])
        rw [z, S_zero, if_neg (by omega)]; omega

theorem S_swap2 (n : Nat) (F : Nat → Nat → Nat) (hs : ∀ i j, i < n → j < n → F i j = F j i) (h0 : ∀ i, i < n → F i i = 0) : S n (fun i => S n (fun j => F i j)) = 2 * S n (fun i => S i (fun j => F i j)) := by
  induction n with
  | zero => rfl
  | succ n ih =>
    show S n (fun i => S n (fun j => F i j) + F i n) + (S n (fun j => F n j) + F n n) = 2 * (S n (fun i => S i (fun j => F i j)) + S n (fun j => F n j))
    rw [S_add, ih (fun i j hi hj => hs i j (by omega) (by omega)) (fun i hi => h0 i (by omega)), h0 n (by omega), S_congr (fun i hi => hs i n (by omega) (by omega) : ∀ i, i < n → F i n = F n i)]
    generalize S n (fun i => S i (fun j => F i j)) = A
    show 2 * A + S n (F n) + (S n (F n) + 0) = 2 * (A + S n (F n))
    omega

/-- A sum over a list. -/
def Ls (f : Nat → Nat) : List Nat → Nat
  | [] => 0
  | x :: xs => f x + Ls f xs

theorem Ls_perm {f : Nat → Nat} {l m : List Nat} (h : l.Perm m) : Ls f l = Ls f m := by
  induction h with
  | nil => rfl
  | cons x _ ih => show f x + _ = f x + _; rw [ih]
  | swap x y l => show f y + (f x + Ls f l) = f x + (f y + Ls f l); omega
  | trans _ _ h1 h2 => rw [h1, h2]

theorem Ls_append (f : Nat → Nat) (l m : List Nat) : Ls f (l ++ m) = Ls f l + Ls f m := by
  induction l with
  | nil => show _ = 0 + _; rw [Nat.zero_add]; rfl
  | cons x l ih => show f x + Ls f (l ++ m) = f x + Ls f l + Ls f m; rw [ih]; omega

theorem S_list (f q : Nat → Nat) (n : Nat) : S n (fun i => f (q i)) = Ls f ((List.range n).map q) := by
  induction n with
  | zero => rfl
  | succ n ih =>
    show S n (fun i => f (q i)) + f (q n) = _
    rw [ih, List.range_succ, List.map_append, Ls_append]
    rfl

/-- q is a permutation of 0 .. n - 1. -/
def PermOn (n : Nat) (q : Nat → Nat) : Prop := (∀ i, i < n → q i < n) ∧ ∀ i j, i < n → j < n → q i = q j → i = j

theorem perm_list {n : Nat} {q : Nat → Nat} (h : PermOn n q) : ((List.range n).map q).Perm (List.range n) := by
  have hd : ((List.range n).map q).Nodup := by
    rw [List.nodup_iff_pairwise_ne, List.pairwise_map]
    refine List.Pairwise.imp_of_mem ?_ (List.pairwise_lt_range (n := n))
    intro i j hi hj hij e
    rw [List.mem_range] at hi hj
    have := h.2 i j hi hj e
    omega
  have hsub : ∀ (l m : List Nat), l.Nodup → (∀ x ∈ l, x ∈ m) → l.length = m.length → l.Perm m := by
    intro l
    induction l with
    | nil => intro m _ _ hl; rw [List.length_eq_zero_iff.1 hl.symm]
    | cons a l ih =>
      intro m hn hs hl
      have ha : a ∈ m := hs a List.mem_cons_self
      have hn' := List.nodup_cons.1 hn
      have h1 := ih (m.erase a) hn'.2 (fun x hx => (List.mem_erase_of_ne (fun e => hn'.1 (by rw [← e]; exact hx))).2 (hs x (List.mem_cons_of_mem _ hx))) (by rw [List.length_erase_of_mem ha]; simp at hl; omega)
      exact (h1.cons a).trans (List.perm_cons_erase ha).symm
  refine hsub _ _ hd (fun x hx => ?_) (by simp)
  obtain ⟨i, hi, rfl⟩ := List.mem_map.1 hx
  exact List.mem_range.2 (h.1 i (List.mem_range.1 hi))

theorem S_perm {n : Nat} {q : Nat → Nat} (h : PermOn n q) (f : Nat → Nat) : S n (fun i => f (q i)) = S n f := by
  rw [S_list f q n, Ls_perm (perm_list h)]
  have := S_list f (fun x => x) n
  simpa using this.symm

/-- 1, if the two are not the same. -/
def ne (x y : Bool) : Nat := if x = y then 0 else 1

theorem ne_tri (x y z : Bool) : ne x z + 2 * (ne x y * ne y z) = ne x y + ne y z := by cases x <;> cases y <;> cases z <;> decide

/-- Are the places i and j, in p, about as they are? -/
def dis (p : Nat → Nat) (i j : Nat) : Nat := ne (decide (i < j)) (decide (p i < p j))

theorem dis_sym {p : Nat → Nat} {i j : Nat} (h : p i = p j → i = j) : dis p i j = dis p j i := by
  unfold dis
  by_cases e : i = j
  · subst e; rfl
  · have e2 : p i ≠ p j := fun h' => e (h h')
    have h1 : decide (j < i) = !decide (i < j) := by by_cases h3 : i < j <;> simp [h3] <;> omega
    have h2 : decide (p j < p i) = !decide (p i < p j) := by by_cases h3 : p i < p j <;> simp [h3] <;> omega
    rw [h1, h2]
    cases decide (i < j) <;> cases decide (p i < p j) <;> decide

theorem dis_self (p : Nat → Nat) (i : Nat) : dis p i i = 0 := by unfold dis; simp [ne]

/-- The number of pairs that are the wrong way about. -/
def inv (n : Nat) (p : Nat → Nat) : Nat := S n (fun i => S i (fun j => dis p i j))

theorem inv_two {n : Nat} {p : Nat → Nat} (h : ∀ i j, i < n → j < n → p i = p j → i = j) : S n (fun i => S n (fun j => dis p i j)) = 2 * inv n p :=
  S_swap2 n _ (fun i j hi hj => dis_sym (h i j hi hj)) (fun i _ => dis_self p i)

theorem inv_congr {n : Nat} {p q : Nat → Nat} (h : ∀ i, i < n → p i = q i) : inv n p = inv n q :=
  S_congr (fun i hi => S_congr (fun j hj => by unfold dis; rw [h i hi, h j (by omega)]))

theorem inv_mul {n : Nat} {p q : Nat → Nat} (hq : PermOn n q) (hp : ∀ i j, i < n → j < n → p i = p j → i = j) : inv n (fun i => p (q i)) % 2 = (inv n p + inv n q) % 2 := by
  have hpq : ∀ i j, i < n → j < n → p (q i) = p (q j) → i = j := fun i j hi hj e => hq.2 i j hi hj (hp _ _ (hq.1 i hi) (hq.1 j hj) e)
  have hC := inv_two (p := fun i => p (q i)) hpq
  have hA := inv_two (p := q) hq.2
  have hB : S n (fun i => S n (fun j => dis p (q i) (q j))) = 2 * inv n p := by
    rw [← inv_two hp]
    rw [← S_perm hq (fun a => S n (fun b => dis p a b))]
    exact S_congr (fun i _ => S_perm hq (fun b => dis p (q i) b))
  have hM := S_swap2 n (fun i j => dis q i j * dis p (q i) (q j)) (fun i j hi hj => by rw [dis_sym (hq.2 i j hi hj), dis_sym (hp _ _ (hq.1 i hi) (hq.1 j hj))]) (fun i _ => by rw [dis_self, Nat.zero_mul])
  have key : S n (fun i => S n (fun j => dis (fun i => p (q i)) i j)) + 2 * S n (fun i => S n (fun j => dis q i j * dis p (q i) (q j))) = S n (fun i => S n (fun j => dis q i j)) + S n (fun i => S n (fun j => dis p (q i) (q j))) := by
    rw [← S_mul, ← S_add, ← S_add]
    refine S_congr (fun i _ => ?_)
    rw [← S_mul, ← S_add, ← S_add]
    exact S_congr (fun j _ => ne_tri _ _ _)
  rw [hC, hM, hA, hB] at key
  omega

/-- Two places exchanged. -/
def swp (a b i : Nat) : Nat := if i = a then b else if i = b then a else i

theorem swp_perm {n a b : Nat} (ha : a < n) (hb : b < n) : PermOn n (swp a b) := by
  constructor
  · intro i hi; unfold swp; split <;> (try split) <;> omega
  · intro i j _ _ e
    unfold swp at e
    split at e <;> split at e <;> (try split at e) <;> (try split at e) <;> omega

theorem swp_comm (a b i : Nat) : swp a b i = swp b a i := by unfold swp; split <;> split <;> omega

theorem inv_swp_lt {n a b : Nat} (hab : a < b) (hb : b < n) : inv n (swp a b) % 2 = 1 := by
  have hrow : ∀ i, i < n → S i (fun j => dis (swp a b) i j) = (if a + 1 ≤ i ∧ i < b then 1 else 0) + (b - a) * (if b ≤ i ∧ i < b + 1 then 1 else 0) := by
    intro i hi
    by_cases h1 : i = b
    · subst h1
      rw [if_neg (by omega), if_pos (by omega), ← S_between i a i (by omega) (Nat.le_refl _)]
      rw [Nat.zero_add, Nat.mul_one]
      refine S_congr (fun j hj => ?_)
      unfold dis swp
      rw [if_neg (by omega : ¬ i = a), if_pos rfl, decide_eq_false (by omega : ¬ i < j)]
      by_cases h2 : a ≤ j
      · by_cases h3 : j = a
        · rw [if_pos h3, decide_eq_true (by omega), if_pos ⟨h2, hj⟩]; rfl
        · rw [if_neg h3, if_neg (by omega), decide_eq_true (by omega), if_pos ⟨h2, hj⟩]; rfl
      · rw [if_neg (by omega : ¬ j = a), if_neg (by omega : ¬ j = i), decide_eq_false (by omega), if_neg (by omega)]; rfl
    · rw [if_neg (by omega : ¬ (b ≤ i ∧ i < b + 1)), Nat.mul_zero, Nat.add_zero]
      by_cases h2 : a + 1 ≤ i ∧ i < b
      · rw [if_pos h2, show (1 : Nat) = a + 1 - a from by omega, ← S_between i a (a + 1) (by omega) (by omega)]
        refine S_congr (fun j hj => ?_)
        unfold dis swp
        rw [if_neg (by omega : ¬ i = a), if_neg h1, decide_eq_false (by omega : ¬ i < j)]
        by_cases h3 : j = a
        · rw [if_pos h3, decide_eq_true (by omega), if_pos (by omega)]; rfl
        · rw [if_neg h3, if_neg (by omega), decide_eq_false (by omega), if_neg (by omega)]; rfl
      · rw [if_neg h2, ← S_zero i]
        refine S_congr (fun j hj => ?_)
        unfold dis swp
        rw [decide_eq_false (by omega : ¬ i < j)]
        by_cases h3 : i = a
        · rw [if_pos h3, if_neg (by omega), if_neg (by omega), decide_eq_false (by omega)]; rfl
        · rw [if_neg h3, if_neg h1]
          by_cases h4 : j = a
          · rw [if_pos h4, decide_eq_false (by omega)]; rfl
          · rw [if_neg h4]
            by_cases h5 : j = b
            · rw [if_pos h5, decide_eq_false (by omega)]; rfl
            · rw [if_neg h5, decide_eq_false (by omega)]; rfl
  have h : inv n (swp a b) = (b - (a + 1)) + (b - a) * 1 := by
    unfold inv
    rw [S_congr hrow, S_add, S_between n (a + 1) b (by omega) (by omega), S_mul, S_between n b (b + 1) (by omega) (by omega), show b + 1 - b = 1 from by omega]
  rw [h]; omega

theorem inv_swp {n a b : Nat} (hne : a ≠ b) (ha : a < n) (hb : b < n) : inv n (swp a b) % 2 = 1 := by
  rcases Nat.lt_or_gt_of_ne hne with h | h
  · exact inv_swp_lt h hb
  · rw [inv_congr (fun i _ => swp_comm a b i)]; exact inv_swp_lt h ha

theorem inv_id (n : Nat) : inv n (fun i => i) = 0 := by
  unfold inv
  rw [← S_zero n]
  refine S_congr (fun i hi => ?_)
  rw [← S_zero i]
  exact S_congr (fun j _ => by unfold dis; simp [ne])

end Go.Proofs.YtahffpgadoiijaaGreat

/- Plain: the parity that the cycles tell is the parity of the pairs that are the wrong way about. -/
namespace Go.Proofs.YtahffpgadoiijaaGreat

theorem cycsTo_succ (r : List Int) (k : Nat) : cycsTo r (k + 1) = if (k : Int) ∈ (cycsTo r k).flatten then cycsTo r k else cycsTo r k ++ [orb r k (per r k)] := rfl

theorem mem_orb {r : List Int} {x p : Nat} {y : Int} : y ∈ orb r x p ↔ ∃ i, i < p ∧ y = ((it r i x : Nat) : Int) := by
  unfold orb
  rw [List.mem_map]
  constructor
  · rintro ⟨i, hi, rfl⟩; exact ⟨i, List.mem_range.1 hi, rfl⟩
  · rintro ⟨i, hi, rfl⟩; exact ⟨i, List.mem_range.2 hi, rfl⟩

theorem cyc_form {r : List Int} {k : Nat} {c : List Int} (h : c ∈ cycsTo r k) : ∃ y, y < k ∧ c = orb r y (per r y) := by
  induction k with
  | zero => cases h
  | succ k ih =>
    rw [cycsTo_succ] at h
    split at h
    · obtain ⟨y, hy, e⟩ := ih h; exact ⟨y, by omega, e⟩
    · rcases List.mem_append.1 h with h | h
      · obtain ⟨y, hy, e⟩ := ih h; exact ⟨y, by omega, e⟩
      · exact ⟨k, by omega, List.mem_singleton.1 h⟩

theorem flat_back {r : List Int} (hr : isRow r) {k i : Nat} (hk : k ≤ r.length) (hi : i < r.length) (h : ((nx r i : Nat) : Int) ∈ (cycsTo r k).flatten) : (i : Int) ∈ (cycsTo r k).flatten := by
  obtain ⟨c, hc, hm⟩ := List.mem_flatten.1 h
  obtain ⟨y, hy, rfl⟩ := cyc_form hc
  obtain ⟨j, hj, e⟩ := mem_orb.1 hm
  have hy' : y < r.length := by omega
  obtain ⟨p1, _, p3, _⟩ := per_spec hr hy'
  refine List.mem_flatten.2 ⟨_, hc, mem_orb.2 ?_⟩
  have e' : nx r i = it r j y := by omega
  cases j with
  | zero =>
    refine ⟨per r y - 1, by omega, ?_⟩
    have e2 : nx r i = nx r (it r (per r y - 1) y) := by
      rw [e']
      show y = it r (per r y - 1 + 1) y
      rw [show per r y - 1 + 1 = per r y from by omega, p3]
    rw [nx_inj hr hi (it_lt hr hy' _) e2]
  | succ j =>
    refine ⟨j, by omega, ?_⟩
    rw [nx_inj hr hi (it_lt hr hy' j) e']

theorem it_notin {r : List Int} (hr : isRow r) {k : Nat} (hk : k < r.length) (h : ¬ (k : Int) ∈ (cycsTo r k).flatten) (j : Nat) : ¬ ((it r j k : Nat) : Int) ∈ (cycsTo r k).flatten := by
  induction j with
  | zero => exact h
  | succ j ih => exact fun h' => ih (flat_back hr (by omega) (it_lt hr hk j) h')

theorem orb_inj {r : List Int} (hr : isRow r) {x i j : Nat} (hx : x < r.length) (hi : i < per r x) (hj : j < per r x) (e : it r i x = it r j x) : i = j := by
  obtain ⟨_, _, _, p4⟩ := per_spec hr hx
  have key : ∀ i j, i < j → j < per r x → it r i x ≠ it r j x := by
    intro i j hij hj e
    have e1 : it r j x = it r i (it r (j - i) x) := by rw [← it_add, show i + (j - i) = j from by omega]
    rw [e1] at e
    have e2 := it_inj hr hx (it_lt hr hx (j - i)) i e
    exact p4 (j - i) (by omega) (by omega) e2.symm
  rcases Nat.lt_trichotomy i j with h | h | h
  · exact absurd e (key i j h hj)
  · exact h
  · exact absurd e.symm (key j i h hi)

/-- r on the cycles that are found so far; else nothing is moved. -/
def gk (r : List Int) (k i : Nat) : Nat := if (i : Int) ∈ (cycsTo r k).flatten then nx r i else i

/-- .. and j steps of the next cycle. -/
def hk (r : List Int) (k j i : Nat) : Nat := if (i : Int) ∈ (cycsTo r k).flatten then nx r i else if (i : Int) ∈ orb r k j then nx r i else if i = it r j k then k else i

theorem hk_zero (r : List Int) (k i : Nat) : hk r k 0 i = gk r k i := by
  unfold hk gk
  split
  · rfl
  · rw [if_neg (by simp [orb])]
    show (if i = k then k else i) = i
    split
    · omega
    · rfl

theorem hk_step {r : List Int} (hr : isRow r) {k j i : Nat} (hkl : k < r.length) (hn : ¬ (k : Int) ∈ (cycsTo r k).flatten) (hj : j + 1 < per r k) : hk r k (j + 1) i = hk r k j (swp (it r j k) (it r (j + 1) k) i) := by
  have n1 := it_notin hr hkl hn j
  have n2 := it_notin hr hkl hn (j + 1)
  have hne : it r j k ≠ it r (j + 1) k := fun e => by have := orb_inj hr hkl (by omega) hj e; omega
  have m1 : ¬ ((it r (j + 1) k : Nat) : Int) ∈ orb r k (j + 1) := by
    intro h
    obtain ⟨a, ha, e⟩ := mem_orb.1 h
    have := orb_inj hr hkl hj (by omega) (show it r (j + 1) k = it r a k by omega)
    omega
  have m2 : ¬ ((it r (j + 1) k : Nat) : Int) ∈ orb r k j := by
    intro h
    obtain ⟨a, ha, e⟩ := mem_orb.1 h
    exact m1 (mem_orb.2 ⟨a, by omega, e⟩)
  have m3 : ¬ ((it r j k : Nat) : Int) ∈ orb r k j := by
    intro h
    obtain ⟨a, ha, e⟩ := mem_orb.1 h
    have := orb_inj hr hkl (show j < per r k by omega) (by omega) (show it r j k = it r a k by omega)
    omega
  by_cases h1 : i = it r j k
  · subst h1
    have e : swp (it r j k) (it r (j + 1) k) (it r j k) = it r (j + 1) k := by unfold swp; rw [if_pos rfl]
    rw [e]
    unfold hk
    rw [if_neg n1, if_pos (mem_orb.2 ⟨j, by omega, rfl⟩), if_neg n2, if_neg m2, if_neg (Ne.symm hne)]
    rfl
  · by_cases h2 : i = it r (j + 1) k
    · subst h2
      have e : swp (it r j k) (it r (j + 1) k) (it r (j + 1) k) = it r j k := by unfold swp; rw [if_neg (Ne.symm hne), if_pos rfl]
      rw [e]
      unfold hk
      rw [if_neg n2, if_neg m1, if_pos rfl, if_neg n1, if_neg m3, if_pos rfl]
    · have e : swp (it r j k) (it r (j + 1) k) i = i := by unfold swp; rw [if_neg h1, if_neg h2]
      rw [e]
      unfold hk
      by_cases h3 : (i : Int) ∈ (cycsTo r k).flatten
      · rw [if_pos h3, if_pos h3]
      · rw [if_neg h3, if_neg h3, if_neg h2, if_neg h1]
        have : ((i : Int) ∈ orb r k (j + 1)) ↔ ((i : Int) ∈ orb r k j) := by
          rw [mem_orb, mem_orb]
          constructor
          · rintro ⟨a, ha, e⟩
            by_cases e2 : a = j
            · subst e2; exact absurd (by omega) h1
            · exact ⟨a, by omega, e⟩
          · rintro ⟨a, ha, e⟩; exact ⟨a, by omega, e⟩
        by_cases h4 : (i : Int) ∈ orb r k j
        · rw [if_pos (this.2 h4), if_pos h4]
        · rw [if_neg (fun h => h4 (this.1 h)), if_neg h4]

theorem hk_end {r : List Int} (hr : isRow r) {k : Nat} (hkl : k < r.length) (hn : ¬ (k : Int) ∈ (cycsTo r k).flatten) (i : Nat) : hk r k (per r k - 1) i = gk r (k + 1) i := by
  obtain ⟨p1, _, p3, _⟩ := per_spec hr hkl
  unfold hk gk
  rw [cycsTo_succ, if_neg hn, List.flatten_append]
  have hm : ((i : Int) ∈ (cycsTo r k).flatten ++ [orb r k (per r k)].flatten) ↔ ((i : Int) ∈ (cycsTo r k).flatten ∨ (i : Int) ∈ orb r k (per r k)) := by simp
  by_cases h1 : (i : Int) ∈ (cycsTo r k).flatten
  · rw [if_pos h1, if_pos (hm.2 (Or.inl h1))]
  · rw [if_neg h1]
    by_cases h2 : (i : Int) ∈ orb r k (per r k - 1)
    · obtain ⟨a, ha, e⟩ := mem_orb.1 h2
      rw [if_pos h2, if_pos (hm.2 (Or.inr (mem_orb.2 ⟨a, by omega, e⟩)))]
    · rw [if_neg h2]
      by_cases h3 : i = it r (per r k - 1) k
      · rw [if_pos h3, if_pos (hm.2 (Or.inr (mem_orb.2 ⟨per r k - 1, by omega, by omega⟩)))]
        subst h3
        show k = it r (per r k - 1 + 1) k
        rw [show per r k - 1 + 1 = per r k from by omega, p3]
      · rw [if_neg h3, if_neg]
        intro h
        rcases hm.1 h with h | h
        · exact h1 h
        · obtain ⟨a, ha, e⟩ := mem_orb.1 h
          by_cases e2 : a = per r k - 1
          · subst e2; exact h3 (by omega)
          · exact h2 (mem_orb.2 ⟨a, by omega, e⟩)

theorem hk_inv {r : List Int} (hr : isRow r) {k : Nat} (hkl : k < r.length) (hn : ¬ (k : Int) ∈ (cycsTo r k).flatten) (hg : ∀ i j, i < r.length → j < r.length → gk r k i = gk r k j → i = j) (j : Nat) (hj : j < per r k) :
    (∀ a b, a < r.length → b < r.length → hk r k j a = hk r k j b → a = b) ∧ inv r.length (hk r k j) % 2 = (inv r.length (gk r k) + j) % 2 := by
  induction j with
  | zero =>
    refine ⟨fun a b ha hb e => hg a b ha hb (by rw [← hk_zero, ← hk_zero]; exact e), ?_⟩
    rw [inv_congr (fun i _ => hk_zero r k i)]; rfl
  | succ j ih =>
    obtain ⟨i1, i2⟩ := ih (by omega)
    have hl1 := it_lt hr hkl j
    have hl2 := it_lt hr hkl (j + 1)
    have hp := swp_perm hl1 hl2
    have hne : it r j k ≠ it r (j + 1) k := fun e => by have := orb_inj hr hkl (by omega) hj e; omega
    constructor
    · intro a b ha hb e
      rw [hk_step hr hkl hn hj, hk_step hr hkl hn hj] at e
      exact hp.2 a b ha hb (i1 _ _ (hp.1 a ha) (hp.1 b hb) e)
    · rw [inv_congr (fun i _ => hk_step hr hkl hn hj), inv_mul hp i1]
      have := inv_swp hne hl1 hl2
      omega

theorem oddTo_snoc (xss : List (List Int)) (c : List Int) : oddTo (xss ++ [c]) (xss.length + 1) = if c.length % 2 = 0 then !(oddTo xss xss.length) else oddTo xss xss.length := by
  have hp : ∀ j, j ≤ xss.length → oddTo (xss ++ [c]) j = oddTo xss j := by
    intro j hj
    induction j with
    | zero => rfl
    | succ j ih =>
      have e : (xss ++ [c]).getD j [] = xss.getD j [] := by
        simp only [List.getD]; rw [List.getElem?_append_left (by omega)]
      show (if ((xss ++ [c]).getD j []).length % 2 = 0 then !(oddTo (xss ++ [c]) j) else oddTo (xss ++ [c]) j) = (if (xss.getD j []).length % 2 = 0 then !(oddTo xss j) else oddTo xss j)
      rw [e, ih (by omega)]
  have e : (xss ++ [c]).getD xss.length [] = c := by simp [List.getD]
  show (if ((xss ++ [c]).getD xss.length []).length % 2 = 0 then !(oddTo (xss ++ [c]) xss.length) else oddTo (xss ++ [c]) xss.length) = _
  rw [e, hp _ (Nat.le_refl _)]

theorem gk_inv {r : List Int} (hr : isRow r) (k : Nat) (hkl : k ≤ r.length) :
    (∀ a b, a < r.length → b < r.length → gk r k a = gk r k b → a = b) ∧ inv r.length (gk r k) % 2 = (if oddTo (cycsTo r k) (cycsTo r k).length = true then 1 else 0) := by
  induction k with
  | zero =>
    have e : ∀ i, gk r 0 i = i := fun i => by unfold gk; rw [if_neg (by simp [cycsTo])]
    refine ⟨fun a b _ _ h => by rwa [e, e] at h, ?_⟩
    rw [inv_congr (fun i _ => e i), inv_id]; rfl
  | succ k ih =>
    obtain ⟨i1, i2⟩ := ih (by omega)
    by_cases h : (k : Int) ∈ (cycsTo r k).flatten
    · have e : cycsTo r (k + 1) = cycsTo r k := by rw [cycsTo_succ, if_pos h]
      have e2 : ∀ i, gk r (k + 1) i = gk r k i := fun i => by unfold gk; rw [e]
      refine ⟨fun a b ha hb h' => i1 a b ha hb (by rwa [e2, e2] at h'), ?_⟩
      rw [inv_congr (fun i _ => e2 i), e]; exact i2
    · have hlt : k < r.length := by omega
      obtain ⟨p1, _, _, _⟩ := per_spec hr hlt
      obtain ⟨j1, j2⟩ := hk_inv hr hlt h i1 (per r k - 1) (by omega)
      have e := hk_end hr hlt h
      refine ⟨fun a b ha hb h' => j1 a b ha hb (by rw [e, e]; exact h'), ?_⟩
      rw [← inv_congr (fun i _ => e i), j2]
      have e3 : cycsTo r (k + 1) = cycsTo r k ++ [orb r k (per r k)] := by rw [cycsTo_succ, if_neg h]
      rw [e3, List.length_append, show ([orb r k (per r k)] : List (List Int)).length = 1 from rfl, oddTo_snoc, orb_length]
      cases hd : oddTo (cycsTo r k) (cycsTo r k).length with
      | true =>
        rw [hd] at i2
        simp only [if_true] at i2
        by_cases hp : per r k % 2 = 0
        · rw [if_pos hp]; simp; omega
        · rw [if_neg hp]; simp; omega
      | false =>
        rw [hd] at i2
        simp at i2
        by_cases hp : per r k % 2 = 0
        · rw [if_pos hp]; simp; omega
        · rw [if_neg hp]; simp; omega

theorem flat_all {r : List Int} (hr : isRow r) (k : Nat) (hkl : k ≤ r.length) (i : Nat) (hi : i < k) : (i : Int) ∈ (cycsTo r k).flatten := by
  induction k with
  | zero => omega
  | succ k ih =>
    rw [cycsTo_succ]
    by_cases h : (k : Int) ∈ (cycsTo r k).flatten
    · rw [if_pos h]
      by_cases e : i = k
      · subst e; exact h
      · exact ih (by omega) (by omega)
    · rw [if_neg h, List.flatten_append]
      by_cases e : i = k
      · subst e
        refine List.mem_append.2 (Or.inr ?_)
        simp only [List.flatten_cons, List.flatten_nil, List.append_nil]
        exact mem_orb.2 ⟨0, by have := (per_spec hr (show i < r.length by omega)).1; omega, rfl⟩
      · exact List.mem_append.2 (Or.inl (ih (by omega) (by omega)))

/-- Is the row odd, by its cycles? -/
def odd (r : List Int) : Bool := oddTo (cycsTo r r.length) (cycsTo r r.length).length

theorem odd_inv {r : List Int} (hr : isRow r) : inv r.length (nx r) % 2 = (if odd r = true then 1 else 0) := by
  have h := (gk_inv hr r.length (Nat.le_refl _)).2
  rw [inv_congr (q := gk r r.length) (fun i hi => by unfold gk; rw [if_pos (flat_all hr _ (Nat.le_refl _) i hi)])]
  exact h

theorem nx_perm {r : List Int} (hr : isRow r) : PermOn r.length (nx r) := ⟨fun _ hi => nx_lt hr hi, fun _ _ hi hj e => nx_inj hr hi hj e⟩

theorem isRow_by {a b : List Int} (ha : isRow a) (hb : isRow b) (hl : b.length = a.length) : isRow (by_ a b) := by
  have hat : ∀ j, j < b.length → (b.getD j 0).toNat < a.length := fun j hj => by have := hb.at hj; omega
  constructor
  · intro y hy
    obtain ⟨j, hj, rfl⟩ := List.getElem_of_mem hy
    have hj' : j < b.length := by rwa [by_length] at hj
    have e := by_get (a := a) hj'
    rw [show (by_ a b).getD j 0 = (by_ a b)[j] from by simp [List.getD, List.getElem?_eq_getElem hj]] at e
    rw [e, by_length, hl]
    exact ha.at (hat j hj')
  · rw [List.nodup_iff_pairwise_ne, List.pairwise_iff_getElem]
    intro i j hi hj hij e
    have hi' : i < b.length := by rwa [by_length] at hi
    have hj' : j < b.length := by rwa [by_length] at hj
    have e1 := by_get (a := a) hi'
    have e2 := by_get (a := a) hj'
    rw [show (by_ a b).getD i 0 = (by_ a b)[i] from by simp [List.getD, List.getElem?_eq_getElem hi]] at e1
    rw [show (by_ a b).getD j 0 = (by_ a b)[j] from by simp [List.getD, List.getElem?_eq_getElem hj]] at e2
    rw [e1, e2] at e
    have h1 := ha.inj (hat i hi') (hat j hj') e
    have b1 := hb.at hi'
    have b2 := hb.at hj'
    have := hb.inj hi' hj' (by omega)
    omega

theorem nx_by {a b : List Int} {i : Nat} (hi : i < b.length) : nx (by_ a b) i = nx a (nx b i) := by
  unfold nx; rw [by_get hi]

theorem odd_by {a b : List Int} (ha : isRow a) (hb : isRow b) (hl : b.length = a.length) : odd (by_ a b) = (odd a != odd b) := by
  have h1 := odd_inv (isRow_by ha hb hl)
  have h2 := odd_inv ha
  have h3 := odd_inv hb
  rw [by_length, inv_congr (fun i hi => nx_by hi), inv_mul (nx_perm hb) (by rw [hl]; exact (nx_perm ha).2)] at h1
  rw [hl] at h1 h3
  cases e1 : odd (by_ a b) <;> cases e2 : odd a <;> cases e3 : odd b <;> rw [e1] at h1 <;> rw [e2] at h2 <;> rw [e3] at h3 <;> simp at h1 h2 h3 ⊢ <;> omega

end Go.Proofs.YtahffpgadoiijaaGreat

/- Contract: Text. -/
namespace Go.Proofs.YtahffpgadoiijaaGreat
open Go.RowKit
set_option maxRecDepth 20000

theorem Tryz.info5 : (Tryz.prog.info? 5).map (fun i => (i.zero, i.size, i.bytes)) = some (some (.int .u8 0), 1, 1) := by kernel_rfl

/-- The signs. -/
def sg (m : Nat) : Nat := [49, 50, 51, 52, 53, 54, 55, 56, 57, 48, 69, 84].getD m 0

theorem sg_lt (m : Nat) : sg m < 128 := by
  match m with
  | 0 | 1 | 2 | 3 | 4 | 5 | 6 | 7 | 8 | 9 | 10 | 11 => decide
  | n + 12 => simp [sg]

/-- The text of a row, as numbers. -/
def txt (xs : List Int) : List Int := xs.map (fun x => ((sg x.toNat : Nat) : Int))

theorem txt_length (xs : List Int) : (txt xs).length = xs.length := by simp [txt]

theorem txt_snoc (xs : List Int) (m : Nat) : txt (xs ++ [(m : Int)]) = txt xs ++ [((sg m : Nat) : Int)] := by simp [txt]

theorem index_sign (m : Nat) (hm : m < 12) (w : World) : (Instr.index 9 (.string { data := #[49, 50, 51, 52, 53, 54, 55, 56, 57, 48, 69, 84] }) (.int .i64 (m : Int))).run Tryz.prog w = .ok (.int .u8 ((sg m : Nat) : Int)) w := by
  rw [run_index_string w 9 _ .i64 (m : Int) Tryz.underlying9, dif_pos ⟨by omega, by show (m : Int) < 12; omega⟩]
  match m, hm with
  | 0, _ | 1, _ | 2, _ | 3, _ | 4, _ | 5, _ | 6, _ | 7, _ | 8, _ | 9, _ | 10, _ | 11, _ => rfl

theorem owns_bytes {w : World} {base e g n cap : Nat} {zs : List Int} (h : w.ownsRow base e 1 (.slice (some ⟨g, 0, none⟩) n cap) n (zs.map (Value.int .u8))) (j : Nat) (hj : j < n) :
    w.cell? ⟨g, 0 + j, none⟩ = some (.int .u8 (zs.getD j 0)) := by
  have hl : zs.length = n := by have := h.1; simpa using this
  have := h.cells (g := g) rfl j (.int .u8 (zs.getD j 0)) (by simp [List.getElem?_map, List.getD, List.getElem?_eq_getElem (by omega : j < zs.length)])
  rw [Addr.add_lit] at this
  exact this

end Go.Proofs.YtahffpgadoiijaaGreat

/- Contract: bellOf. -/
namespace Go.Proofs.YtahffpgadoiijaaGreat
open Go.RowKit
set_option maxRecDepth 20000

theorem byte_sign (m : Nat) (hm : m < 12) : (({ data := #[49, 50, 51, 52, 53, 54, 55, 56, 57, 48, 69, 84] } : ByteArray)[m]'(by exact hm)).toNat = sg m := by
  match m, hm with
  | 0, _ | 1, _ | 2, _ | 3, _ | 4, _ | 5, _ | 6, _ | 7, _ | 8, _ | 9, _ | 10, _ | 11, _ => rfl

theorem decode_sign (m : Nat) (hm : m < 12) : Utf8.decode { data := #[49, 50, 51, 52, 53, 54, 55, 56, 57, 48, 69, 84] } m = (sg m, 1) := by
  have h := byte_sign m hm
  rw [decode_ascii _ m (by exact hm) (by rw [h]; exact sg_lt m), h]

theorem sg_inj {i j : Nat} (hi : i < 12) (hj : j < 12) (h : sg i = sg j) : i = j := by
  have key : ∀ i : Fin 12, ∀ j : Fin 12, sg i.val = sg j.val → i = j := by decide
  have := key ⟨i, hi⟩ ⟨j, hj⟩ h
  exact congrArg Fin.val this

theorem next_sign (w : World) (k : Nat) (hk : k < 12) : ∀ ty, (Instr.next (.pointer (some ⟨w.heap.size, 0, none⟩)) true ty).run Tryz.prog (w.iter { data := #[49, 50, 51, 52, 53, 54, 55, 56, 57, 48, 69, 84] } k) =
    .ok (.tuple #[.bool true, .int .i64 (k : Int), .int .i32 ((sg k : Nat) : Int)]) (w.iter { data := #[49, 50, 51, 52, 53, 54, 55, 56, 57, 48, 69, 84] } (k + 1)) := by
  intro ty
  rw [run_next_any w _ k ty (by exact hk), decode_sign k hk]

theorem next_done (w : World) (k : Nat) (hk : ¬ k < 12) : ∀ ty, (Instr.next (.pointer (some ⟨w.heap.size, 0, none⟩)) true ty).run Tryz.prog (w.iter { data := #[49, 50, 51, 52, 53, 54, 55, 56, 57, 48, 69, 84] } k) =
    .ok (.tuple #[.bool false]) (w.iter { data := #[49, 50, 51, 52, 53, 54, 55, 56, 57, 48, 69, 84] } k) := by
  intro ty
  exact run_next_end w _ k ty (by exact hk)

theorem below_iter (w : World) (s : ByteArray) (k : Nat) : Below w.heap.size w (w.iter s k) := (Below.refl _ _).alloc (Nat.le_refl _) _

theorem ret_bell {k m : Nat} (h : k = m) : Ending.returned (.tuple #[.int .i64 (k : Int), .bool true]) = Ending.returned (.tuple #[.int .i64 (m : Int), .bool true]) := by rw [h]

end Go.Proofs.YtahffpgadoiijaaGreat

/- Contract: Read, at every text. -/
namespace Go.Proofs.YtahffpgadoiijaaGreat
open Go.RowKit Go.Lib

/-- The bell of a sign; 12: none. -/
def bl (b : UInt8) : Nat := ((List.range 12).find? (fun m => sg m == b.toNat)).getD 12

theorem bl_sg {b : UInt8} (h : bl b < 12) : sg (bl b) = b.toNat := by
  unfold bl at h ⊢
  cases hf : (List.range 12).find? (fun m => sg m == b.toNat) with
  | none => rw [hf] at h; simp at h
  | some p => rw [Option.getD_some]; simpa using List.find?_some hf

theorem bl_of {b : UInt8} {m : Nat} (hm : m < 12) (h : sg m = b.toNat) : bl b = m := by
  have h1 : bl b < 12 := by
    unfold bl
    cases hf : (List.range 12).find? (fun m => sg m == b.toNat) with
    | none =>
      have := List.find?_eq_none.1 hf m (List.mem_range.2 hm)
      simp [h] at this
    | some p =>
      rw [Option.getD_some]
      exact List.mem_range.1 (List.mem_of_find?_eq_some hf)
  have h2 := bl_sg h1
  exact sg_inj h1 hm (by rw [h2, h])

/-- The bells of a text's bytes. -/
def bells (l : List UInt8) : List Int := l.map (fun b => ((bl b : Nat) : Int))

theorem bells_length (l : List UInt8) : (bells l).length = l.length := by simp [bells]

theorem bells_snoc (s : ByteArray) (k : Nat) (h : k < s.size) : bells (s.data.toList.take (k + 1)) = bells (s.data.toList.take k) ++ [((bl (s[k]'h) : Nat) : Int)] := by
  rw [List.take_succ_eq_append_getElem (by simpa using h)]
  simp [bells]
  rfl

theorem chk_take (xs : List Int) : chk (xs.take 13) = chk xs := by
  by_cases h : xs.length ≤ 13
  · rw [List.take_of_length_le h]
  · rw [chk_count (by rw [List.length_take]; omega), chk_count (by omega)]

/-- What the loop's relation says of the world. -/
structure ReadRel (w wr : World) (s : ByteArray) (v : Value) (pos : Nat) : Prop where
  iter : wr.heap[w.heap.size]? = some (.stringIter s pos)
  signs : ∀ j, (h : j < s.size) → j < pos → bl s[j] < 12
  row : wr.ownsRow (w.heap.size + 1) 3 1 v (min pos 13) (((bells (s.data.toList.take pos)).take 13).map (Value.int .i64))
  size : w.heap.size < wr.heap.size
  below : Below w.heap.size w wr

theorem ReadRel.next {w wr w1 : World} {s : ByteArray} {v : Value} {pos : Nat} (h : ReadRel w wr s v pos) (hp : pos < s.size) (hs : bl (s[pos]'hp) < 12) (hb : Below wr.heap.size (wr.iterAt w.heap.size s (pos + 1)) w1) :
    w1.heap[w.heap.size]? = some (.stringIter s (pos + 1)) ∧ w1.ownsRow (w.heap.size + 1) 3 1 v (min pos 13) (((bells (s.data.toList.take pos)).take 13).map (Value.int .i64)) ∧ w.heap.size < w1.heap.size ∧ Below w.heap.size w w1 ∧
      ∀ j, (h : j < s.size) → j < pos + 1 → bl s[j] < 12 := by
  have hz : (wr.iterAt w.heap.size s (pos + 1)).heap.size = wr.heap.size := iterAt_size _ _ _ _
  refine ⟨?_, ?_, ?_, ?_, ?_⟩
  · rw [hb.block _ h.size]; exact iterAt_heap wr _ s pos (pos + 1) h.iter
  · exact owns_below (ownsRow_iterAt h.row (Nat.lt_succ_self _) s (pos + 1)) hb (by rw [hz]; exact Nat.le_refl _)
  · have h1 := h.size; have h2 := hb.size; omega
  · exact (below_iterAt h.below (Nat.le_refl _) s (pos + 1)).trans (hb.mono (Nat.le_of_lt h.size))
  · intro j hj hjp
    by_cases e : j = pos
    · subst e; exact hs
    · exact h.signs j hj (by omega)

theorem not_sign {s : ByteArray} {pos : Nat} (hp : pos < s.size) (hs : ¬ bl (s[pos]'hp) < 12) : ∀ m, m < 12 → (((Utf8.decode s pos).1 : Nat) : Int) ≠ ((sg m : Nat) : Int) := by
  intro m hm e
  by_cases ha : (s[pos]'hp).toNat < 128
  · rw [decode_ascii s pos hp ha] at e
    exact hs (by rw [bl_of hm (by simp only at e; omega)]; exact hm)
  · have h1 := (decode_high s pos hp (by omega)).1
    have h2 := sg_lt m
    omega

theorem ret_read {v : Value} {a b : Int} (h : a = b) : Ending.returned (.tuple #[v, .int .i64 a]) = Ending.returned (.tuple #[v, .int .i64 b]) := by rw [h]

/-- What Read answers. -/
def ReadSays (s : ByteArray) (e : Ending) (w' : World) : Prop :=
  ((∃ q, ∃ h : q < s.size, ¬ bl s[q] < 12) ∧ e = .returned (.tuple #[.slice none 0 0, .int .i64 4])) ∨
  ((∀ q, (h : q < s.size) → bl s[q] < 12) ∧ ((chk (bells s.data.toList) = 0 ∧ ∃ v, e = .returned (.tuple #[v, .int .i64 0]) ∧ Ints w' v (bells s.data.toList)) ∨
    (chk (bells s.data.toList) ≠ 0 ∧ e = .returned (.tuple #[.slice none 0 0, .int .i64 (chk (bells s.data.toList))]))))

theorem take_room {l : List Int} {pos : Nat} {m : Int} (h : l.length = pos) (h13 : pos ≤ 12) : (l ++ [m]).take 13 = l.take 13 ++ [m] := by
  rw [List.take_of_length_le (by simp; omega), List.take_of_length_le (by omega)]

theorem take_full {l : List Int} {pos : Nat} {m : Int} (h : l.length = pos) (h13 : ¬ pos ≤ 12) : (l ++ [m]).take 13 = l.take 13 := by
  rw [List.take_append_of_le_length (by omega)]

theorem bells_take_length {s : ByteArray} {pos : Nat} (h : pos ≤ s.size) : (bells (s.data.toList.take pos)).length = pos := by
  have h' : s.size = s.data.size := rfl
  rw [bells_length, List.length_take, Array.length_toList]; omega

end Go.Proofs.YtahffpgadoiijaaGreat

/- Contracts: slices.Delete (off the library's shelf), At. -/
namespace Go.Proofs.YtahffpgadoiijaaGreat
open Go.RowKit Go.Lib

theorem erase_take_drop (zs : List Int) (i : Nat) (h : i < zs.length) : (zs.take i ++ zs.drop (i + 1) ++ List.replicate (i + 1 - i) 0).take (zs.length - 1) = zs.eraseIdx i := by
  rw [List.eraseIdx_eq_take_drop_succ, List.take_append_of_le_length (by simp; omega), List.take_of_length_le (by simp; omega)]

/-- The row with a rank, out of the bells that are left. -/
def atl : Nat → List Int → Nat → List Int
  | 0, _, _ => []
  | m + 1, L, k => L.getD (k / fct m) 0 :: atl m (L.eraseIdx (k / fct m)) (k % fct m)

end Go.Proofs.YtahffpgadoiijaaGreat
