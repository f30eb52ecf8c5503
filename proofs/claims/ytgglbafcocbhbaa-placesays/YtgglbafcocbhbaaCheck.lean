/- Contract: Check. -/
import Derived.Test.YtgglbafcocbhbaaSame
namespace Go.Proofs.Ytgglbafcocbhbaa
open Go.RowKit

/-- Each of 0 .. n - 1 once. -/
def isRow (xs : List Int) : Prop := (∀ y ∈ xs, 0 ≤ y ∧ y < xs.length) ∧ xs.Nodup

def instRow (xs : List Int) : Decidable (isRow xs) := by unfold isRow; exact inferInstance

/-- What Check says. -/
def chk (xs : List Int) : Int := if 1 ≤ xs.length ∧ xs.length ≤ 12 then (if @decide (isRow xs) (instRow xs) = true then 0 else 2) else 1

theorem chk_ok {xs : List Int} (h1 : 1 ≤ xs.length) (h2 : xs.length ≤ 12) (h : isRow xs) : chk xs = 0 := by
  unfold chk; rw [if_pos ⟨h1, h2⟩, if_pos (by simpa using h)]
theorem chk_row {xs : List Int} (h1 : 1 ≤ xs.length) (h2 : xs.length ≤ 12) (h : ¬ isRow xs) : chk xs = 2 := by
  unfold chk; rw [if_pos ⟨h1, h2⟩, if_neg (by simpa using h)]
theorem chk_count {xs : List Int} (h : ¬ (1 ≤ xs.length ∧ xs.length ≤ 12)) : chk xs = 1 := by
  unfold chk; rw [if_neg h]
theorem chk_zero {xs : List Int} (h : chk xs = 0) : 1 ≤ xs.length ∧ xs.length ≤ 12 ∧ isRow xs := by
  unfold chk at h
  split at h
  · rename_i h1
    split at h
    · rename_i h2; exact ⟨h1.1, h1.2, by simpa using h2⟩
    · omega
  · omega
theorem chk_range (xs : List Int) : 0 ≤ chk xs ∧ chk xs ≤ 2 := by
  unfold chk
  split
  · split <;> omega
  · omega

/-- Which bells there were: the array's cells. -/
def Marks (w : World) (b : Nat) (xs : List Int) : Prop :=
  ∀ j, j < 12 → w.cell? ⟨b, j, none⟩ = some (.bool (decide ((j : Int) ∈ xs))) ∧ w.frozen? ⟨b, j, none⟩ = false

theorem Marks.set {w : World} {b m : Nat} {xs : List Int} (h : Marks w b xs) (hm : m < 12) : Marks (w.setCell ⟨b, m, none⟩ (.bool true)) b (xs ++ [(m : Int)]) := by
  intro j hj
  refine ⟨?_, by rw [World.frozen?_setCell]; exact (h j hj).2⟩
  by_cases e : j = m
  · subst e
    rw [World.cell?_setCell_same _ _ _ (h j hj).1]
    simp
  · rw [World.cell?_setCell_other _ _ _ _ (by intro h; simp only [Addr.mk.injEq] at h; omega), (h j hj).1]
    have : ((j : Int) ∈ xs ++ [(m : Int)]) ↔ ((j : Int) ∈ xs) := by
      simp only [List.mem_append, List.mem_singleton]
      constructor
      · rintro (h | h)
        · exact h
        · omega
      · exact Or.inl
    simp only [this]

theorem marksAt {w : World} {b : Nat} {xs : List Int} {m : Nat} (h : Marks w b xs) (hm : m < 12) :
    ∃ t : Bool, Hid (t = decide ((m : Int) ∈ xs)) ∧ w.cell? ⟨b, m, none⟩ = some (.bool t) ∧ w.frozen? ⟨b, m, none⟩ = false := ⟨_, rfl, (h m hm).1, (h m hm).2⟩

theorem bad_of_take {xs : List Int} {k : Nat} (h : k < xs.length) (hb : ¬ (0 ≤ xs[k]?.getD 0 ∧ xs[k]?.getD 0 < xs.length) ∨ xs[k]?.getD 0 ∈ xs.take k) : ¬ isRow xs := by
  rintro ⟨h1, h2⟩
  have hm : xs[k]?.getD 0 = xs[k] := by simp [List.getElem?_eq_getElem h]
  rcases hb with hb | hb
  · exact hb (by rw [hm]; exact h1 _ (List.getElem_mem h))
  · rw [hm] at hb
    obtain ⟨i, hi, e⟩ := List.getElem_of_mem hb
    rw [List.length_take] at hi
    rw [List.getElem_take] at e
    have := (List.getElem_inj h2 (h₀ := by omega) (h₁ := h)).1 e
    omega

theorem row_of_steps {xs : List Int} (h1 : ∀ y ∈ xs, 0 ≤ y ∧ y < xs.length) (h2 : xs.Nodup) : isRow xs := ⟨h1, h2⟩

theorem good_snoc {xs : List Int} {k : Nat} {y : Int} (h : k < xs.length) (hy : xs[k]?.getD 0 = y) (h1 : ∀ z ∈ xs.take k, 0 ≤ z ∧ z < xs.length) (h2 : (xs.take k).Nodup)
    (h3 : 0 ≤ y) (h4 : y < xs.length) (h5 : ¬ y ∈ xs.take k) : (∀ z ∈ xs.take (k + 1), 0 ≤ z ∧ z < xs.length) ∧ (xs.take (k + 1)).Nodup := by
  rw [take_snoc xs k h, hy]
  constructor
  · intro z hz
    rcases List.mem_append.1 hz with hz | hz
    · exact h1 z hz
    · rw [List.mem_singleton.1 hz]; exact ⟨h3, h4⟩
  · rw [List.nodup_append]
    refine ⟨h2, by simp, ?_⟩
    intro a ha b hb e
    rw [List.mem_singleton] at hb
    subst hb; subst e
    exact h5 ha

theorem hide {p : Prop} (h : p) : Hid p := h

theorem marks_start (w : World) : Marks (w.alloc (.cells #[.bool false, .bool false, .bool false, .bool false, .bool false, .bool false, .bool false, .bool false, .bool false, .bool false, .bool false, .bool false] 64)) w.heap.size (([] : List Int)) := by
  intro j hj
  constructor
  · match j, hj with
    | 0, _ | 1, _ | 2, _ | 3, _ | 4, _ | 5, _ | 6, _ | 7, _ | 8, _ | 9, _ | 10, _ | 11, _ => simp
  · rw [frozen?_alloc_cells]
    simp [World.frozen?]

set_option maxHeartbeats 1000000 in
theorem check_any (v : Value) (xs : List Int) (w : World) (h : Ints w v xs) :
    Calls Try.prog 13 #[v] w fun e w' => e = .returned (.int .i64 (chk xs)) ∧ Below w.heap.size w w' := by
  by_cases hc12 : 1 ≤ xs.length ∧ xs.length ≤ 12
  · obtain ⟨hn1, hn2⟩ := hc12
    rcases h with ⟨rfl, p, c, rfl⟩ | ⟨b, off, cap, rfl, h0, hc, hm, hb, hcell⟩
    · simp at hn1
    · go_enter Try.func13, Try.ntmps13
      go_wp2_with (go_at_call 43; refine (mayCount_yes _ _ (by omega) (by omega)).mono ?_; rintro e w' ⟨rfl, rfl⟩)
      go_loopw [12] (fun i wr => ∃ k : Nat, k ≤ xs.length ∧ i = .int .i64 k ∧ Hid (∀ y ∈ xs.take k, 0 ≤ y ∧ y < xs.length) ∧ Hid (xs.take k).Nodup ∧ Marks wr w.heap.size (xs.take k) ∧ Below w.heap.size w wr) (fun i _ => xs.length - (intOf i).toNat)
      case atStart =>
        refine ⟨0, by omega, rfl, by simp [Hid], by simp [Hid], marks_start w, (Below.refl _ _).alloc (Nat.le_refl _) _⟩
      case round =>
        obtain ⟨k, hk, rfl, hg1, hg2, hmk, hbw⟩ := hrel
        by_cases hlt : k < xs.length
        · obtain ⟨y, hy, hcx⟩ := cellAt hcell hlt
          have gx : wr.cell? ⟨b, off + k, none⟩ = some (.int .i64 y) := (hbw.cell (by exact hb)).trans hcx
          clear hcx hcell
          by_cases hy0 : y < 0
          · have HB := hide (chk_row hn1 hn2 (bad_of_take hlt (Or.inl (by rw [hy.out]; omega))))
            go_wp2
            go_ret
            exact ⟨ret_int HB.out.symm, hbw⟩
          · by_cases hyn : y < xs.length
            · obtain ⟨m, rfl⟩ := Int.eq_ofNat_of_zero_le (by omega : 0 ≤ y)
              have hm12 : m < 12 := by omega
              obtain ⟨t, ht, gt, gf⟩ := marksAt hmk hm12
              have hbs : w.heap.size < wr.heap.size := World.block_lt_of_cell? wr _ gt
              cases t with
              | true =>
                have HB := hide (chk_row hn1 hn2 (bad_of_take hlt (Or.inr (by rw [hy.out]; simpa using ht.out.symm))))
                go_wp2
                go_ret
                exact ⟨ret_int HB.out.symm, hbw⟩
              | false =>
                have HG := hide (good_snoc hlt hy.out hg1.out hg2.out (by omega) hyn (by simpa using ht.out.symm))
                have HM : Hid (xs.take (k + 1) = xs.take k ++ [(m : Int)]) := by rw [Hid, take_snoc xs k hlt, hy.out]
                go_wp2
                go_roundw
                case rel => exact ⟨k + 1, by omega, by go_num, HG.out.1, HG.out.2, by rw [HM.out]; exact hmk.set hm12, hbw.setCell (Nat.le_refl _) _⟩
                case measure => simp [intOf]; omega
            · have HB := hide (chk_row hn1 hn2 (bad_of_take hlt (Or.inl (by rw [hy.out]; omega))))
              go_wp2
              go_ret
              exact ⟨ret_int HB.out.symm, hbw⟩
        · have HB : Hid (chk xs = 0) := by
            have e : xs.take k = xs := List.take_of_length_le (by omega)
            exact chk_ok hn1 hn2 ⟨by have := hg1.out; rwa [e] at this, by have := hg2.out; rwa [e] at this⟩
          clear hcell
          go_wp2
          go_ret
          exact ⟨ret_int HB.out.symm, hbw⟩
  · obtain ⟨p, c, rfl⟩ := h.form
    have hch := chk_count hc12
    have HC : Hid (chk xs = 1) := hch
    have h3 : ((xs.length : Nat) : Int) < 1 ∨ 12 < ((xs.length : Nat) : Int) := by omega
    clear hch hc12 h
    go_enter Try.func13, Try.ntmps13
    go_wp2_with (go_at_call 43; refine (mayCount_no _ _ h3).mono ?_; rintro e w' ⟨rfl, rfl⟩)
    go_ret
    exact ⟨ret_int HC.out.symm, Below.refl _ _⟩

end Go.Proofs.Ytgglbafcocbhbaa
