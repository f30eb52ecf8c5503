/- Joined: Num, Sl, Same, Check, CpA, Own, CpB, MsJ, BoA, BoD, BoE, BoF. -/
import Derived.Test.YtffnfchekbafmaaGreatDoorRows
import Derived.WalkKit
import Derived.WalkSpells
import Derived.WalkLawsBesides
import Derived.Deep.LoopGhost
import Derived.Shelf.Strings.Builder1
import Derived.Shelf.Utf8.AppendRunePlain
import Derived.Shelf.Strconv.Itoa1
import Derived.Shelf.Strings.Builder2
import Derived.Lib.ItoaNum
import Derived.Shelf.Strconv.Itoa3
import Derived.Lib.AppendIntMem
/- Contracts of the small functions on numbers: mayCount, Factorial, rowsOf, leastMultiple. -/
namespace Go.Proofs.YtffnfchekbafmaaGreatDoor
open Go.RowKit

def fct : Nat → Nat
  | 0 => 1
  | n + 1 => (n + 1) * fct n

theorem fct_pos (n : Nat) : 0 < fct n := by
  induction n with
  | zero => decide
  | succ n ih => exact Nat.mul_pos (Nat.succ_pos n) ih

theorem fct_mono {a b : Nat} (h : a ≤ b) : fct a ≤ fct b := by
  induction b with
  | zero => have : a = 0 := by omega
            subst this; exact Nat.le_refl _
  | succ b ih =>
    by_cases e : a = b + 1
    · subst e; exact Nat.le_refl _
    · have h1 := ih (by omega)
      have h2 : fct b ≤ (b + 1) * fct b := Nat.le_mul_of_pos_left _ (Nat.succ_pos b)
      exact Nat.le_trans h1 h2

theorem fct_le {n : Nat} (h : n ≤ 12) : fct n ≤ 479001600 := Nat.le_trans (fct_mono h) (by decide)

theorem ret_int {k : IntKind} {a b : Int} (h : a = b) : Ending.returned (.int k a) = .returned (.int k b) := by rw [h]

theorem fct_one {n : Nat} (h : n < 2) : fct n = 1 := by
  match n, h with
  | 0, _ => rfl
  | 1, _ => rfl

theorem fct_step {n : Nat} (h : ¬ n < 2) : n * fct (n - 1) = fct n := by
  match n, h with
  | n + 1, _ => rfl

theorem lcm_of_least {a b c : Nat} (ha : 1 ≤ a) (hb : 1 ≤ b) (hd : b ∣ c * a) (hc : 1 ≤ c) (hl : ∀ d, 1 ≤ d → d < c → ¬ b ∣ d * a) : c * a = Nat.lcm a b := by
  have h1 : Nat.lcm a b ∣ c * a := Nat.lcm_dvd (Nat.dvd_mul_left a c) hd
  have hp : 0 < Nat.lcm a b := Nat.lcm_pos ha hb
  have h2 : Nat.lcm a b ≤ c * a := Nat.le_of_dvd (Nat.mul_pos hc ha) h1
  obtain ⟨d, hd'⟩ := Nat.dvd_lcm_left a b
  have h3 : 1 ≤ d := by
    rcases Nat.eq_zero_or_pos d with h | h
    · rw [h, Nat.mul_zero] at hd'; omega
    · exact h
  have h4 : ¬ d < c := fun h => hl d h3 h (by rw [Nat.mul_comm, ← hd']; exact Nat.dvd_lcm_right a b)
  have h5 : c * a ≤ d * a := Nat.mul_le_mul_right a (by omega)
  rw [Nat.mul_comm d a, ← hd'] at h5
  omega

end Go.Proofs.YtffnfchekbafmaaGreatDoor

/- Lists of ints behind slice values; contracts of the functions that only read them: lower, Same, Check. -/
namespace Go.Proofs.YtffnfchekbafmaaGreatDoor
open Go.RowKit

/-- The slice value v reads as the list xs in the world w. -/
def Ints (w : World) (v : Value) (xs : List Int) : Prop :=
  (xs = [] ∧ ∃ p c, v = .slice p 0 c) ∨
  ∃ b off cap, v = .slice (some ⟨b, off, none⟩) xs.length cap ∧ 0 < xs.length ∧ xs.length ≤ cap ∧ cap ≤ 9223372036854775807 ∧ b < w.heap.size ∧
    ∀ j, j < xs.length → w.cell? ⟨b, off + j, none⟩ = some (.int .i64 (xs.getD j 0))

theorem Ints.mono {w w' : World} {v : Value} {xs : List Int} {B : Nat} (h : Ints w v xs) (hb : Below B w w') (hB : w.heap.size ≤ B) : Ints w' v xs := by
  rcases h with h | ⟨b, off, cap, h1, h2, h3, h4, h5, h6⟩
  · exact Or.inl h
  · refine Or.inr ⟨b, off, cap, h1, h2, h3, h4, Nat.lt_of_lt_of_le h5 hb.size, fun j hj => ?_⟩
    rw [hb.cell (p := ⟨b, off + j, none⟩) (Nat.lt_of_lt_of_le h5 hB)]
    exact h6 j hj

theorem Ints.below {w w' : World} {v : Value} {xs : List Int} (h : Ints w v xs) (hb : Below w.heap.size w w') : Ints w' v xs := h.mono hb (Nat.le_refl _)

theorem Ints.nil (w : World) : Ints w (.slice none 0 0) [] := Or.inl ⟨rfl, none, 0, rfl⟩

theorem Ints.form {w : World} {v : Value} {xs : List Int} (h : Ints w v xs) : ∃ p cap, v = .slice p xs.length cap := by
  rcases h with ⟨rfl, p, c, rfl⟩ | ⟨b, off, cap, h1, _⟩
  · exact ⟨p, c, rfl⟩
  · exact ⟨_, cap, h1⟩

/-- What the call owns reads as the list. -/
theorem Ints.own {w : World} {base e : Nat} {v : Value} {n : Nat} {xs : List Int} (h : w.ownsRow base e 1 v n (xs.map (Value.int .i64))) : Ints w v xs := by
  obtain ⟨h1, h2⟩ := h
  rw [List.length_map, Nat.mul_one] at h1
  subst h1
  rcases h2 with ⟨rfl, h⟩ | ⟨g, cap, cur, hv, _, hh, hn, hm, hs, ht⟩
  · exact Or.inl ⟨List.length_eq_zero_iff.1 h, none, 0, rfl⟩
  · rcases Nat.eq_zero_or_pos xs.length with h0 | h0
    · exact Or.inl ⟨List.length_eq_zero_iff.1 h0, _, cap, by rw [hv, h0]⟩
    · refine Or.inr ⟨g, 0, cap, hv, h0, hn, by unfold maxLen at hm; omega, ?_, fun j hj => ?_⟩
      · exact (Array.getElem?_eq_some_iff.1 hh).1
      · have hown : w.ownsRow base e 1 v xs.length (xs.map (Value.int .i64)) := ⟨by simp, Or.inr ⟨g, cap, cur, hv, ‹_›, hh, hn, hm, hs, ht⟩⟩
        have := hown.cells (g := g) (by rw [hv]; rfl) j (.int .i64 (xs.getD j 0)) (by simp [List.getElem?_map, List.getD, List.getElem?_eq_getElem hj])
        rw [Addr.add_lit] at this
        exact this

theorem cellAt {w : World} {b off k : Nat} {xs : List Int} (hcell : ∀ j, j < xs.length → w.cell? ⟨b, off + j, none⟩ = some (.int .i64 (xs.getD j 0))) (h : k < xs.length) :
    ∃ y, Hid (xs[k]?.getD 0 = y) ∧ w.cell? ⟨b, off + k, none⟩ = some (.int .i64 y) := ⟨_, rfl, hcell k h⟩

/-- How many of the list are less than x. -/
def cnt (x : Int) (xs : List Int) : Nat := (xs.filter (fun y => decide (y < x))).length

theorem cnt_le (x : Int) (xs : List Int) : cnt x xs ≤ xs.length := List.length_filter_le _ _

theorem take_snoc (xs : List Int) (k : Nat) (h : k < xs.length) : xs.take (k + 1) = xs.take k ++ [xs[k]?.getD 0] := by
  rw [List.take_succ_eq_append_getElem h]; simp [List.getElem?_eq_getElem h]

theorem cnt_snoc (x y : Int) (xs : List Int) : cnt x (xs ++ [y]) = cnt x xs + if y < x then 1 else 0 := by
  unfold cnt
  rw [List.filter_append, List.length_append]
  by_cases h : y < x <;> simp [h]

end Go.Proofs.YtffnfchekbafmaaGreatDoor

/- Contracts: Same, Check. -/
namespace Go.Proofs.YtffnfchekbafmaaGreatDoor
open Go.RowKit

theorem take_eq_snoc {xs ys : List Int} {k : Nat} (h : xs.take k = ys.take k) (hx : k < xs.length) (hy : k < ys.length) (e : xs[k]?.getD 0 = ys[k]?.getD 0) : xs.take (k + 1) = ys.take (k + 1) := by
  rw [take_snoc xs k hx, take_snoc ys k hy, h, e]

theorem ret_bool {a b : Bool} (h : a = b) : Ending.returned (.bool a) = .returned (.bool b) := by rw [h]

end Go.Proofs.YtffnfchekbafmaaGreatDoor

/- Contract: Check. -/
namespace Go.Proofs.YtffnfchekbafmaaGreatDoor
open Go.RowKit

/-- Each of 0 .. n - 1 once. -/
def isRow (xs : List Int) : Prop := (∀ y ∈ xs, 0 ≤ y ∧ y < xs.length) ∧ xs.Nodup

def instRow (xs : List Int) : Decidable (isRow xs) := by unfold isRow; exact inferInstance

/-- What Check says. -/
def chk (xs : List Int) : Int := if 1 ≤ xs.length ∧ xs.length ≤ 12 then (if @decide (isRow xs) (instRow xs) = true then 0 else 2) else 1

theorem chk_ok {xs : List Int} (h1 : 1 ≤ xs.length) (h2 : xs.length ≤ 12) (h : isRow xs) : chk xs = 0 := by
  unfold chk; rw [if_pos ⟨h1, h2⟩, if_pos (by simpa using h)]
theorem chk_row {xs : List Int} (h1 : 1 ≤ xs.length) (h2 : xs.length ≤ 12) (h : ¬ isRow xs) : chk xs = 2 := by
  unfold chk; rw [if_pos ⟨h1, h2⟩, if_neg (by simpa using h)]
theorem chk_count {xs : List Int} (h : ¬ (1 ≤ xs.length ∧ xs.length ≤ 12)) : chk xs = 1 := by
  unfold chk; rw [if_neg h]
theorem chk_zero {xs : List Int} (h : chk xs = 0) : 1 ≤ xs.length ∧ xs.length ≤ 12 ∧ isRow xs := by
  unfold chk at h
  split at h
  · rename_i h1
    split at h
    · rename_i h2; exact ⟨h1.1, h1.2, by simpa using h2⟩
    · omega
  · omega
theorem chk_range (xs : List Int) : 0 ≤ chk xs ∧ chk xs ≤ 2 := by
  unfold chk
  split
  · split <;> omega
  · omega

/-- Which bells there were: the array's cells. -/
def Marks (w : World) (b : Nat) (xs : List Int) : Prop :=
  ∀ j, j < 12 → w.cell? ⟨b, j, none⟩ = some (.bool (decide ((j : Int) ∈ xs))) ∧ w.frozen? ⟨b, j, none⟩ = false

theorem Marks.set {w : World} {b m : Nat} {xs : List Int} (h : Marks w b xs) (hm : m < 12) : Marks (w.setCell ⟨b, m, none⟩ (.bool true)) b (xs ++ [(m : Int)]) := by
  intro j hj
  refine ⟨?_, by rw [World.frozen?_setCell]; exact (h j hj).2⟩
  by_cases e : j = m
  · subst e
    rw [World.cell?_setCell_same _ _ _ (h j hj).1]
    simp
  · rw [World.cell?_setCell_other _ _ _ _ (by intro h; simp only [Addr.mk.injEq] at h; omega), (h j hj).1]
    have : ((j : Int) ∈ xs ++ [(m : Int)]) ↔ ((j : Int) ∈ xs) := by
      simp only [List.mem_append, List.mem_singleton]
      constructor
      · rintro (h | h)
        · exact h
        · omega
      · exact Or.inl
    simp only [this]

theorem marksAt {w : World} {b : Nat} {xs : List Int} {m : Nat} (h : Marks w b xs) (hm : m < 12) :
    ∃ t : Bool, Hid (t = decide ((m : Int) ∈ xs)) ∧ w.cell? ⟨b, m, none⟩ = some (.bool t) ∧ w.frozen? ⟨b, m, none⟩ = false := ⟨_, rfl, (h m hm).1, (h m hm).2⟩

theorem bad_of_take {xs : List Int} {k : Nat} (h : k < xs.length) (hb : ¬ (0 ≤ xs[k]?.getD 0 ∧ xs[k]?.getD 0 < xs.length) ∨ xs[k]?.getD 0 ∈ xs.take k) : ¬ isRow xs := by
  rintro ⟨h1, h2⟩
  have hm : xs[k]?.getD 0 = xs[k] := by simp [List.getElem?_eq_getElem h]
  rcases hb with hb | hb
  · exact hb (by rw [hm]; exact h1 _ (List.getElem_mem h))
  · rw [hm] at hb
    obtain ⟨i, hi, e⟩ := List.getElem_of_mem hb
    rw [List.length_take] at hi
    rw [List.getElem_take] at e
    have := (List.getElem_inj h2 (h₀ := by omega) (h₁ := h)).1 e
    omega

theorem row_of_steps {xs : List Int} (h1 : ∀ y ∈ xs, 0 ≤ y ∧ y < xs.length) (h2 : xs.Nodup) : isRow xs := ⟨h1, h2⟩

theorem good_snoc {xs : List Int} {k : Nat} {y : Int} (h : k < xs.length) (hy : xs[k]?.getD 0 = y) (h1 : ∀ z ∈ xs.take k, 0 ≤ z ∧ z < xs.length) (h2 : (xs.take k).Nodup)
    (h3 : 0 ≤ y) (h4 : y < xs.length) (h5 : ¬ y ∈ xs.take k) : (∀ z ∈ xs.take (k + 1), 0 ≤ z ∧ z < xs.length) ∧ (xs.take (k + 1)).Nodup := by
  rw [take_snoc xs k h, hy]
  constructor
  · intro z hz
    rcases List.mem_append.1 hz with hz | hz
    · exact h1 z hz
    · rw [List.mem_singleton.1 hz]; exact ⟨h3, h4⟩
  · rw [List.nodup_append]
    refine ⟨h2, by simp, ?_⟩
    intro a ha b hb e
    rw [List.mem_singleton] at hb
    subst hb; subst e
    exact h5 ha

/-- A number that an int may be. -/
def I64 (x : Int) : Prop := -9223372036854775808 ≤ x ∧ x ≤ 9223372036854775807

theorem hide {p : Prop} (h : p) : Hid p := h

end Go.Proofs.YtffnfchekbafmaaGreatDoor

/- Plain: how leads are told: runs of one call, each with its number. -/
namespace Go.Proofs.YtffnfchekbafmaaGreatDoor
open Go.RowKit

/-- A small number in decimal digits. -/
def decB (n : Nat) : List UInt8 := if n < 10 then [UInt8.ofNat (48 + n)] else [UInt8.ofNat (48 + n / 10), UInt8.ofNat (48 + n % 10)]

/-- The text of leads, of which so many of the first one's kind have gone by already. -/
def pF (sg : Nat → List UInt8) : Nat → List Nat → List UInt8
  | _, [] => []
  | n, x :: xs => if xs.head? = some x ∧ n + 1 < 99 then pF sg (n + 1) xs else (if 1 < n + 1 then decB (n + 1) else []) ++ sg x ++ pF sg 0 xs

/-- A run: so many of one kind, and then another one, or none, or enough. -/
structure Run (l : List Nat) (n run : Nat) : Prop where
  one : 1 ≤ run
  all : run ≤ l.length
  most : n + run ≤ 99
  same : ∀ j, j < run → l.getD j 0 = l.getD 0 0
  stop : run = l.length ∨ n + run = 99 ∨ l.getD run 0 ≠ l.getD 0 0

theorem pF_run (sg : Nat → List UInt8) : ∀ (run : Nat) (l : List Nat) (n : Nat), Run l n run → pF sg n l = (if 1 < n + run then decB (n + run) else []) ++ sg (l.getD 0 0) ++ pF sg 0 (l.drop run)
  | 0, l, n, h => absurd h.one (by omega)
  | 1, [], n, h => absurd h.all (by simp)
  | 1, x :: xs, n, h => by
    have hs := h.stop
    have hn : ¬ (xs.head? = some x ∧ n + 1 < 99) := by
      rintro ⟨h1, h2⟩
      rcases hs with h3 | h3 | h3
      · cases xs with
        | nil => cases h1
        | cons y ys => simp at h3
      · omega
      · cases xs with
        | nil => cases h1
        | cons y ys =>
          apply h3
          have : y = x := by simpa using h1
          subst this
          rfl
    rw [pF, if_neg hn]
    rfl
  | run + 2, [], n, h => absurd h.all (by simp)
  | run + 2, [x], n, h => absurd h.all (by simp)
  | run + 2, x :: y :: ys, n, h => by
    have hy : y = x := by
      have := h.same 1 (by omega)
      exact this
    subst hy
    have hm := h.most
    have hc : (y :: ys).head? = some y ∧ n + 1 < 99 := ⟨rfl, by omega⟩
    have hr : Run (y :: ys) (n + 1) (run + 1) := by
      refine ⟨by omega, by have := h.all; simp at this ⊢; omega, by omega, fun j hj => ?_, ?_⟩
      · have := h.same (j + 1) (by omega)
        exact this
      · rcases h.stop with h3 | h3 | h3
        · left; simp at h3 ⊢; omega
        · right; left; omega
        · right; right; exact h3
    have ih := pF_run sg (run + 1) (y :: ys) (n + 1) hr
    rw [pF, if_pos hc, ih]
    have e : n + 1 + (run + 1) = n + (run + 2) := by omega
    rw [e]
    rfl

theorem pF_top (sg : Nat → List UInt8) {l : List Nat} {run : Nat} (h : Run l 0 run) : pF sg 0 l = (if 1 < run then decB run else []) ++ sg (l.getD 0 0) ++ pF sg 0 (l.drop run) := by
  have := pF_run sg run l 0 h
  rwa [Nat.zero_add] at this

/-- One lead more, by what comes behind it. -/
theorem pF_step (sg : Nat → List UInt8) {l : List Nat} {i n : Nat} (hi : i < l.length) :
    pF sg n (l.drop i) = if i + 1 < l.length ∧ l.getD (i + 1) 0 = l.getD i 0 ∧ n + 1 < 99 then pF sg (n + 1) (l.drop (i + 1)) else (if 1 < n + 1 then decB (n + 1) else []) ++ sg (l.getD i 0) ++ pF sg 0 (l.drop (i + 1)) := by
  rw [List.drop_eq_getElem_cons hi, pF]
  have e : l.getD i 0 = l[i] := by simp [List.getD, hi]
  have hh : ((l.drop (i + 1)).head? = some l[i] ∧ n + 1 < 99) ↔ (i + 1 < l.length ∧ l.getD (i + 1) 0 = l.getD i 0 ∧ n + 1 < 99) := by
    rw [e]
    rcases Nat.lt_or_ge (i + 1) l.length with h1 | h1
    · rw [List.drop_eq_getElem_cons h1]
      simp [List.getD, h1]
    · rw [List.drop_eq_nil_of_le h1]
      simp
      omega
  by_cases hc : (l.drop (i + 1)).head? = some l[i] ∧ n + 1 < 99
  · rw [if_pos hc, if_pos (hh.1 hc)]
  · rw [if_neg hc, if_neg (fun h => hc (hh.2 h)), e]

theorem decB_length (n : Nat) : (decB n).length ≤ 2 := by
  unfold decB
  split <;> simp

theorem pF_length (sg : Nat → List UInt8) (h : ∀ x, (sg x).length ≤ 4) : ∀ (l : List Nat) (n : Nat), (pF sg n l).length ≤ 6 * l.length
  | [], n => by simp [pF]
  | x :: xs, n => by
    rw [pF]
    split
    · have := pF_length sg h xs (n + 1)
      simp; omega
    · have h1 := pF_length sg h xs 0
      have h2 := h x
      rw [List.length_append, List.length_append, List.length_cons]
      have h3 : (if 1 < n + 1 then decB (n + 1) else []).length ≤ 2 := by
        split
        · exact decB_length _
        · simp
      omega

end Go.Proofs.YtffnfchekbafmaaGreatDoor

/- Slices that a call has made itself; contracts: Rounds (both), Times, Back. -/
namespace Go.Proofs.YtffnfchekbafmaaGreatDoor
open Go.RowKit

theorem Tryz.info3 : (Tryz.prog.info? 3).map (fun i => (i.zero, i.size, i.bytes)) = some (some (.int .i64 0), 1, 8) := by kernel_rfl

theorem owns_set {w : World} {base e g n cap m : Nat} {xs : List Value} (h : w.ownsRow base e 1 (.slice (some ⟨g, 0, none⟩) n cap) n xs) (u : Value) :
    (w.setCell ⟨g, m, none⟩ u).ownsRow base e 1 (.slice (some ⟨g, 0, none⟩) n cap) n (xs.set m u) := by
  obtain ⟨h1, h2⟩ := h
  refine ⟨by rw [List.length_set]; exact h1, ?_⟩
  rcases h2 with ⟨h2, _⟩ | ⟨g', cap', cur, hv, hb, hh, hn, hx, hs, ht⟩
  · cases h2
  · injection hv with e1 _ e3
    injection e1 with e1
    injection e1 with e1
    subst e1; subst e3
    refine Or.inr ⟨g, cap, cur.setIfInBounds m u, rfl, hb, ?_, hn, hx, by simpa using hs, ?_⟩
    · simp [World.setCell, Array.getElem?_modify, hh]
    · rw [Array.toList_setIfInBounds, List.take_set, ht]

theorem owns_cell {w : World} {base e g n cap j : Nat} {zs : List Int} (h : w.ownsRow base e 1 (.slice (some ⟨g, 0, none⟩) n cap) n (zs.map (Value.int .i64))) (hj : j < n) :
    w.cell? ⟨g, j, none⟩ = some (.int .i64 (zs.getD j 0)) ∧ w.frozen? ⟨g, j, none⟩ = false := by
  have hl : zs.length = n := by have := h.1; simpa using this
  constructor
  · have := h.cells (g := g) rfl j (.int .i64 (zs.getD j 0)) (by simp [List.getElem?_map, List.getD, List.getElem?_eq_getElem (by omega : j < zs.length)])
    rw [Addr.add_lit, Nat.zero_add] at this
    exact this
  · rcases h.2 with ⟨h2, _⟩ | ⟨g', cap', cur, hv, hb, hh, hn, hx, hs, ht⟩
    · cases h2
    · injection hv with e1 _ e3
      injection e1 with e1
      injection e1 with e1
      subst e1
      simp [World.frozen?, hh]

theorem owns_cellAt {w : World} {base e g n cap j : Nat} {zs : List Int} (h : w.ownsRow base e 1 (.slice (some ⟨g, 0, none⟩) n cap) n (zs.map (Value.int .i64))) (hj : j < n) :
    ∃ y, Hid (zs[j]?.getD 0 = y) ∧ w.cell? ⟨g, j, none⟩ = some (.int .i64 y) ∧ w.frozen? ⟨g, j, none⟩ = false := ⟨_, rfl, (owns_cell h hj).1, (owns_cell h hj).2⟩

theorem owns_set_int {w : World} {base e g n cap m : Nat} {zs : List Int} (h : w.ownsRow base e 1 (.slice (some ⟨g, 0, none⟩) n cap) n (zs.map (Value.int .i64))) (y : Int) :
    (w.setCell ⟨g, m, none⟩ (.int .i64 y)).ownsRow base e 1 (.slice (some ⟨g, 0, none⟩) n cap) n ((zs.set m y).map (Value.int .i64)) := by
  rw [List.map_set]; exact owns_set h _

theorem made_ints (n : Nat) : (madeCells #[Value.int .i64 0] n).toList = (List.replicate n (0 : Int)).map (Value.int .i64) := by
  apply List.ext_getElem
  · simp [madeCells]
  · intro i h1 h2
    simp [madeCells, Nat.mod_one]

/-- Rounds, as a list. -/
def rnd (n : Nat) : List Int := (List.range n).map (fun (i : Nat) => (i : Int))

theorem rnd_length (n : Nat) : (rnd n).length = n := by simp [rnd]

theorem rnd_get {n j : Nat} (h : j < n) : (rnd n).getD j 0 = j := by simp [rnd, List.getD, h]

theorem eq_rnd {n : Nat} {zs : List Int} (hl : zs.length = n) (h : ∀ j, j < n → zs.getD j 0 = (j : Int)) : zs = rnd n := by
  apply List.ext_getElem
  · rw [hl, rnd_length]
  · intro i h1 h2
    have h3 := h i (by omega)
    have h4 := rnd_get (n := n) (j := i) (by omega)
    simp only [List.getD, List.getElem?_eq_getElem h1, List.getElem?_eq_getElem h2, Option.getD_some] at h3 h4
    rw [h3, h4]

theorem getD_set {zs : List Int} {m j : Nat} {y : Int} (h : m < zs.length) : (zs.set m y).getD j 0 = if m = j then y else zs.getD j 0 := by
  simp only [List.getD, List.getElem?_set]
  by_cases e : m = j
  · subst e; simp [h]
  · simp [e]

theorem rnd_snoc (k : Nat) : rnd (k + 1) = rnd k ++ [(k : Int)] := by
  simp [rnd, List.range_succ]

/-- a, changed by b. -/
def by_ (a b : List Int) : List Int := b.map (fun j => a.getD j.toNat 0)

theorem by_length (a b : List Int) : (by_ a b).length = b.length := by simp [by_]

theorem by_get {a b : List Int} {j : Nat} (h : j < b.length) : (by_ a b).getD j 0 = a.getD (b.getD j 0).toNat 0 := by
  simp [by_, List.getD, h]

theorem ext_getD {xs ys : List Int} (hl : xs.length = ys.length) (h : ∀ j, j < xs.length → xs.getD j 0 = ys.getD j 0) : xs = ys := by
  apply List.ext_getElem hl
  intro i h1 h2
  have h3 := h i h1
  simpa only [List.getD, List.getElem?_eq_getElem h1, List.getElem?_eq_getElem h2, Option.getD_some] using h3

theorem isRow.at {xs : List Int} (h : isRow xs) {j : Nat} (hj : j < xs.length) : 0 ≤ xs.getD j 0 ∧ xs.getD j 0 < xs.length := by
  have e : xs.getD j 0 = xs[j] := by simp [List.getD, List.getElem?_eq_getElem hj]
  rw [e]
  exact h.1 _ (List.getElem_mem hj)

theorem isRow.inj {xs : List Int} (h : isRow xs) {i j : Nat} (hi : i < xs.length) (hj : j < xs.length) (e : xs.getD i 0 = xs.getD j 0) : i = j := by
  simp only [List.getD, List.getElem?_eq_getElem hi, List.getElem?_eq_getElem hj, Option.getD_some] at e
  exact (List.getElem_inj h.2).1 e

theorem times_step {a b zs : List Int} {k : Nat} {y : Int} (hk : k < b.length) (hy : y = a.getD (b.getD k 0).toNat 0) (hz : zs.length = b.length ∧ ∀ j, j < k → zs.getD j 0 = (by_ a b).getD j 0) :
    (zs.set k y).length = b.length ∧ ∀ j, j < k + 1 → (zs.set k y).getD j 0 = (by_ a b).getD j 0 := by
  refine ⟨by rw [List.length_set]; exact hz.1, fun j hj => ?_⟩
  rw [getD_set (by omega)]
  split
  · rename_i e; subst e; rw [by_get hk, hy]
  · exact hz.2 j (by omega)

end Go.Proofs.YtffnfchekbafmaaGreatDoor

/- strings.Builder's methods that call.Print calls; strconv.Itoa of a small number. -/
namespace Go.Proofs.YtffnfchekbafmaaGreatDoor
open Go.RowKit Go.Shelf
set_option maxRecDepth 100000
set_option linter.unusedVariables false

def rnB : Go.Shelf.Ren := ⟨fun | 169 => 114 | n => n,
  fun | 0 => 0 | 3 => 3 | 5 => 5 | 9 => 9 | 37 => 22 | 70 => 154 | 72 => 156 | 127 => 117 | n => n, fun | n => n⟩

def rnItoa : Go.Shelf.Ren := ⟨fun | 283 => 79 | n => n,
  fun | 0 => 0 | 3 => 3 | 4 => 4 | 9 => 9 | n => n, fun | n => n⟩

theorem bl169 : Go.Proofs.Lays.n169 Tryz.prog rnB where
  mixed := by kernel_rfl
  f169 := by kernel_rfl
  t0 := by kernel_rfl
  a0 := fun w => by kernel_rfl
  z0 := fun w => by kernel_rfl
  v0 := fun w => by kernel_rfl
  t3 := by kernel_rfl
  a3 := fun w => by kernel_rfl
  z3 := fun w => by kernel_rfl
  v3 := fun w => by kernel_rfl
  t9 := by kernel_rfl
  a9 := fun w => by kernel_rfl
  z9 := fun w => by kernel_rfl
  v9 := fun w => by kernel_rfl
  t37 := by kernel_rfl
  a37 := fun w => by kernel_rfl
  z37 := fun w => by kernel_rfl
  v37 := fun w => by kernel_rfl
  t70 := by kernel_rfl
  a70 := fun w => by kernel_rfl
  z70 := fun w => by kernel_rfl
  v70 := fun w => by kernel_rfl
  t72 := by kernel_rfl
  a72 := fun w => by kernel_rfl
  z72 := fun w => by kernel_rfl
  v72 := fun w => by kernel_rfl
  t127 := by kernel_rfl
  a127 := fun w => by kernel_rfl
  z127 := fun w => by kernel_rfl
  v127 := fun w => by kernel_rfl

theorem bl283 : Go.Proofs.Lays.n283 Tryz.prog rnItoa where
  mixed := by kernel_rfl
  f283 := by kernel_rfl
  t3 := by kernel_rfl
  a3 := fun w => by kernel_rfl
  z3 := fun w => by kernel_rfl
  v3 := fun w => by kernel_rfl
  t4 := by kernel_rfl
  a4 := fun w => by kernel_rfl
  z4 := fun w => by kernel_rfl
  v4 := fun w => by kernel_rfl
  t9 := by kernel_rfl
  a9 := fun w => by kernel_rfl
  z9 := fun w => by kernel_rfl
  v9 := fun w => by kernel_rfl

theorem Tryz.infoByte : (Tryz.prog.info? 5).map (fun i => (i.zero, i.size, i.bytes)) = some (some (.int .u8 0), 1, 1) := by kernel_rfl

theorem blX : Builder.Extra Tryz.prog rnB where
  sizeBuilder := by kernel_rfl
  liesBuilder := by kernel_rfl
  t5 := by kernel_rfl
  a5 := fun w => by kernel_rfl
  z5 := fun w => by kernel_rfl
  v5 := fun w => by kernel_rfl
  infoByte := by kernel_rfl
  cellsByte := by kernel_rfl
  sizeByte := by kernel_rfl
  neB5 := by decide

/-- A builder that holds these bytes: fresh, or used. -/
abbrev Bld (B b : Nat) (l : List UInt8) (w : World) : Prop := Lib.IsBuilder 156 5 B b (Lib.byteCells l) w

theorem bString_ok (B b : Nat) (l : List UInt8) (w : World) (h : Bld B b l w) (hBw : B ≤ w.heap.size) :
    Calls Tryz.prog 114 #[.pointer (some ⟨b, 0, none⟩)] w fun e w' => e = .returned (.string ⟨l.toArray⟩) ∧ Below B w w' := Any.Builder_String_any bl169 blX B b l w h hBw

theorem small_ok (i : Nat) (h : i < 100) (w : World) : Calls Tryz.prog 79 #[.int .i64 i] w fun e w' => e = .returned (.string ⟨(Lib.decDigits i).toArray⟩) ∧ w' = w := Any.internal_strconv_small bl283 i h w

set_option maxHeartbeats 1000000 in
theorem formatInt_small (i : Nat) (h : i < 100) (w : World) : Calls Tryz.prog 78 #[.int .i64 i, .int .i64 10] w fun e w' => e = .returned (.string ⟨(Lib.decDigits i).toArray⟩) ∧ w = w' := by
  have HS := hide (fun W => small_ok i h W)
  have h1 : (0 : Int) ≤ (i : Int) := by omega
  have h2 : (i : Int) < 100 := by omega
  generalize (⟨(Lib.decDigits i).toArray⟩ : ByteArray) = t at *
  go_enter Tryz.func78, Tryz.ntmps78
  go_wp2_with fail
  refine (HS.out _).mono ?_
  rintro e w' ⟨rfl, rfl⟩
  go_wp2
  go_ret
  exact ⟨rfl, rfl⟩

theorem itoaI_small (i : Nat) (h : i < 100) (w : World) : Calls Tryz.prog 76 #[.int .i64 i] w fun e w' => e = .returned (.string ⟨(Lib.decDigits i).toArray⟩) ∧ w = w' := by
  have HS := hide (fun W => formatInt_small i h W)
  generalize (⟨(Lib.decDigits i).toArray⟩ : ByteArray) = t at *
  go_enter Tryz.func76, Tryz.ntmps76
  go_wp2_with fail
  refine (HS.out _).mono ?_
  rintro e w' ⟨rfl, rfl⟩
  go_wp2
  go_ret
  exact ⟨rfl, rfl⟩

theorem itoa_small (i : Nat) (h : i < 100) (w : World) : Calls Tryz.prog 66 #[.int .i64 i] w fun e w' => e = .returned (.string ⟨(Lib.decDigits i).toArray⟩) ∧ w = w' := by
  have HS := hide (fun W => itoaI_small i h W)
  generalize (⟨(Lib.decDigits i).toArray⟩ : ByteArray) = t at *
  go_enter Tryz.func66, Tryz.ntmps66
  go_wp2_with fail
  refine (HS.out _).mono ?_
  rintro e w' ⟨rfl, rfl⟩
  go_wp2
  go_ret
  exact ⟨rfl, rfl⟩

theorem dec_digits {n : Nat} (h : n < 100) : Lib.decDigits n = decB n := by
  have : ∀ m : Fin 100, Lib.decDigits m.1 = decB m.1 := by decide +kernel
  exact this ⟨n, h⟩

set_option maxHeartbeats 1000000 in
theorem copyCheck_ok (B b : Nat) (bs : List Value) (w : World) (h : Lib.IsBuilder 156 5 B b bs w) :
    Calls Tryz.prog 116 #[.pointer (some ⟨b, 0, none⟩)] w fun e w' => e = .returned (.tuple #[]) ∧ Lib.BuilderAt 156 5 B b (.pointer (some ⟨b, 0, none⟩)) bs w' ∧ Below B w w' := by
  obtain ⟨j, hj, hjs⟩ := Option.map_eq_some_iff.1 blX.sizeBuilder
  have hj' : Tryz.prog.info? 156 = some j := hj
  rcases h with h | h
  · have h0 := h.cell0
    have hsh := h.shape
    have hfz := h.frozen0
    have HP := hide (h.used (.pointer (some ⟨b, 0, none⟩)))
    have HB := hide ((Below.refl B w).setCell (p := ⟨b, 0, none⟩) h.1 (.pointer (some ⟨b, 0, none⟩)))
    clear h
    go_enter Tryz.func116, Tryz.ntmps116
    go_wp2
    rw [Lib.run_to_unsafe w ⟨b, 0, none⟩ Tryz.underlying154 Tryz.underlying158 hj' (by rw [hjs]; decide) hsh (Nat.zero_lt_succ 1)]
    simp only [Result.andThen]
    rw [Oper.upon_value]
    go_wp2
    rw [run_callFunc_extern Tryz.func118 (by kernel_rfl) (by kernel_rfl) (by kernel_rfl) (e := Extern.AbiNoEscape.same) (by kernel_rfl)]
    rw [Lib.run_noEscape]
    simp only [Result.andThen]
    rw [Oper.upon_value]
    go_wp2
    rw [Lib.run_from_unsafe w ⟨b, 0, none⟩ Tryz.underlying158 Tryz.underlying154 hj' hsh blX.liesBuilder]
    simp only [Result.andThen]
    rw [Oper.upon_value]
    go_wp2
    go_end0
    exact ⟨rfl, HP.out, HB.out⟩
  · have h0 := h.cell0
    have HP := hide h
    clear h
    go_enter Tryz.func116, Tryz.ntmps116
    go_wp2
    rw [Lib.run_neq_ptr_same w _ Tryz.underlying154 hj']
    go_wp2
    go_end0
    exact ⟨rfl, HP.out, Below.refl _ _⟩

theorem owns_sl9 {w : World} {base e size n : Nat} {v : Value} {xs : List Value} (h : w.ownsRow base e size v n xs) : ∃ p c, v = .slice p n c := by
  rcases h.2 with ⟨h1, h2⟩ | ⟨g, cap, cur, h1, _⟩
  · exact ⟨none, 0, by rw [h1, h2]⟩
  · exact ⟨_, cap, h1⟩

theorem bld_lt {B b : Nat} {p v : Value} {t : TypeId} {w : World} (hbk : w.heap[b]? = some (.cells #[p, v] t (0, 0))) : b < w.heap.size := (Array.getElem?_eq_some_iff.1 hbk).1

set_option maxHeartbeats 2000000 in
theorem writeString_ok (B b : Nat) (l : List UInt8) (s : ByteArray) (w : World) (h : Bld B b l w) (hlen : l.length + s.size ≤ 140737488355328) (hBw : B ≤ w.heap.size) :
    Calls Tryz.prog 113 #[.pointer (some ⟨b, 0, none⟩), .string s] w fun e w' => e = .returned (.tuple #[.int .i64 s.size, .nilIface]) ∧ Bld B b (l ++ s.data.toList) w' ∧ Below B w w' := by
  obtain ⟨i0, hi, hz0, hz1, hz2⟩ := info_parts Tryz.infoByte
  have HCC := hide (copyCheck_ok B b (Lib.byteCells l) w h)
  clear h
  go_enter Tryz.func113, Tryz.ntmps113
  go_wp2_with fail
  refine HCC.out.mono ?_
  rintro e w1 ⟨rfl, ⟨hB, v, hbk, hown, hne⟩, hb1⟩
  have c0 : w1.cell? ⟨b, 0, none⟩ = some (.pointer (some ⟨b, 0, none⟩)) := by rw [Lib.cell_of_heap hbk]; rfl
  have c1 : w1.cell? ⟨b, 1, none⟩ = some v := by rw [Lib.cell_of_heap hbk]; rfl
  have hs1 := hb1.size
  rw [Lib.byteCells_length] at hown
  go_wp2_with (at_builtin; refine Lib.wpList_append_own_string _ rfl _ _ 22 9 rfl B 5 i0 Tryz.underlying22 Tryz.underlying9 hi hz0 hz1 hz2 _ _ _ rfl hown s rfl ?c3 ?c4 ?c5 ?_)
  case c3 => unfold maxLen; omega
  case c4 => omega
  case c5 => omega
  intro v' w2 hown' hgrow _
  have hlt := bld_lt (B := B) hbk
  have hb2 : w2.heap[b]? = some (.cells #[.pointer (some ⟨b, 0, none⟩), v] 156 (0, 0)) := by
    rw [hgrow.block b hlt (fun e => hne e.symm)]
    exact hbk
  have d0 : w2.cell? ⟨b, 0, none⟩ = some (.pointer (some ⟨b, 0, none⟩)) := by rw [Lib.cell_of_heap hb2]; rfl
  have d1 : w2.cell? ⟨b, 1, none⟩ = some v := by rw [Lib.cell_of_heap hb2]; rfl
  have f1 : w2.frozen? ⟨b, 1, none⟩ = false := Lib.frozen_of_heap hb2 1
  obtain ⟨ao, n', cap, rfl⟩ : ∃ ao n' cap, v' = .slice ao n' cap := by
    rcases hown'.2 with ⟨hv, _⟩ | ⟨g, cap, cur, hv, _⟩
    · exact ⟨_, _, _, hv⟩
    · exact ⟨_, _, _, hv⟩
  go_wp2
  go_ret2
  refine ⟨rfl, Or.inr ?_, ?_⟩
  · rw [Lib.byteCells_append, ← Lib.strCells_eq]
    exact Lib.BuilderAt.put (T := 156) (e := 5) hB hb2 (bs' := Lib.byteCells l ++ Lib.strCells s) (by simpa [Lib.strCells_length, Lib.byteCells_length] using hown') (by decide)
  · exact (hb1.grown hgrow (by omega) (fun k hk => (hown.lt k hk).1)).setCell (p := ⟨b, 1, none⟩) hB _

end Go.Proofs.YtffnfchekbafmaaGreatDoor

/- strings.Join of three texts. -/
namespace Go.Proofs.YtffnfchekbafmaaGreatDoor
open Go.RowKit Go.Shelf
set_option maxRecDepth 100000
set_option linter.unusedVariables false

def rnGr : Go.Shelf.Ren := ⟨fun | 241 => 117 | 277 => 119 | n => n,
  fun | 0 => 0 | 3 => 3 | 5 => 5 | 37 => 22 | 70 => 154 | 72 => 156 | n => n, fun  | n => n⟩

theorem bl241 : Go.Proofs.Lays.n241 Tryz.prog rnGr where
  mixed := by kernel_rfl
  f241 := by kernel_rfl
  f277 := by kernel_rfl
  t0 := by kernel_rfl
  a0 := fun w => by kernel_rfl
  z0 := fun w => by kernel_rfl
  v0 := fun w => by kernel_rfl
  t3 := by kernel_rfl
  a3 := fun w => by kernel_rfl
  z3 := fun w => by kernel_rfl
  v3 := fun w => by kernel_rfl
  t37 := by kernel_rfl
  a37 := fun w => by kernel_rfl
  z37 := fun w => by kernel_rfl
  v37 := fun w => by kernel_rfl
  t70 := by kernel_rfl
  a70 := fun w => by kernel_rfl
  z70 := fun w => by kernel_rfl
  v70 := fun w => by kernel_rfl
  t72 := by kernel_rfl
  a72 := fun w => by kernel_rfl
  z72 := fun w => by kernel_rfl
  v72 := fun w => by kernel_rfl


theorem blG : Builder.Extra Tryz.prog rnGr where
  sizeBuilder := by kernel_rfl
  liesBuilder := by kernel_rfl
  t5 := by kernel_rfl
  a5 := fun w => by kernel_rfl
  z5 := fun w => by kernel_rfl
  v5 := fun w => by kernel_rfl
  infoByte := by kernel_rfl
  cellsByte := by kernel_rfl
  sizeByte := by kernel_rfl
  neB5 := by decide

/-- A builder that was never written. -/
def Bnew (w : World) (b : Nat) : Prop := w.heap[b]? = some (.cells #[.pointer none, .slice none 0 0] 156 (0, 0))

theorem Bnew.at {w : World} {b B : Nat} (h : Bnew w b) (hB : B ≤ b) : Lib.BuilderAt 156 5 B b (.pointer none) [] w := ⟨hB, _, h, World.ownsRow_nil _ _ _ _, by simp [Value.ownBlock]⟩

set_option maxHeartbeats 1000000 in
theorem copyCheck_new (b : Nat) (w : World) (h : Bnew w b) :
    Calls Tryz.prog 116 #[.pointer (some ⟨b, 0, none⟩)] w fun e w' => e = .returned (.tuple #[]) ∧ w' = w.setCell ⟨b, 0, none⟩ (.pointer (some ⟨b, 0, none⟩)) := by
  obtain ⟨j, hj, hjs⟩ := Option.map_eq_some_iff.1 blG.sizeBuilder
  have hj' : Tryz.prog.info? 156 = some j := hj
  have h1 := h.at (Nat.le_refl b)
  have h0 := h1.cell0
  have hsh := h1.shape
  have hfz := h1.frozen0
  clear h1 h
  go_enter Tryz.func116, Tryz.ntmps116
  go_wp2
  rw [Lib.run_to_unsafe w ⟨b, 0, none⟩ Tryz.underlying154 Tryz.underlying158 hj' (by rw [hjs]; decide) hsh (Nat.zero_lt_succ 1)]
  simp only [Result.andThen]
  rw [Oper.upon_value]
  go_wp2
  rw [run_callFunc_extern Tryz.func118 (by kernel_rfl) (by kernel_rfl) (by kernel_rfl) (e := Extern.AbiNoEscape.same) (by kernel_rfl)]
  rw [Lib.run_noEscape]
  simp only [Result.andThen]
  rw [Oper.upon_value]
  go_wp2
  rw [Lib.run_from_unsafe w ⟨b, 0, none⟩ Tryz.underlying158 Tryz.underlying154 hj' hsh blG.liesBuilder]
  simp only [Result.andThen]
  rw [Oper.upon_value]
  go_wp2
  go_end0
  exact ⟨rfl, rfl⟩

set_option maxHeartbeats 2000000 in
theorem grow_new (B b n : Nat) (w : World) (hB : B ≤ b) (h : Bnew w b) (hBw : B ≤ w.heap.size) (h1 : 1 ≤ n) (hn : n ≤ 1000000000) :
    Calls Tryz.prog 112 #[.pointer (some ⟨b, 0, none⟩), .int .i64 n] w fun e w' => e = .returned (.tuple #[]) ∧ Bld B b [] w' ∧ Below B w w' := by
  have HC := hide (copyCheck_new b w h)
  have hbk1 : (w.setCell ⟨b, 0, none⟩ (.pointer (some ⟨b, 0, none⟩))).heap[b]? = some (.cells #[.pointer (some ⟨b, 0, none⟩), .slice none 0 0] 156 (0, 0)) := by
    unfold Bnew at h
    simp [World.setCell, Array.getElem?_modify, h]
  have hB1 : Below B w (w.setCell ⟨b, 0, none⟩ (.pointer (some ⟨b, 0, none⟩))) := (Below.refl B w).setCell (p := ⟨b, 0, none⟩) hB _
  have hG : Calls Tryz.prog 117 #[.pointer (some ⟨b, 0, none⟩), .int .i64 n] (w.setCell ⟨b, 0, none⟩ (.pointer (some ⟨b, 0, none⟩))).drew _ := Any.Builder_grow_fresh (P := Tryz.prog) (ρ := rnGr) bl241 blG B b n _ hB hbk1 (by have := hB1.size; exact Nat.le_trans hBw this) (by omega)
  have HG := hide hG
  have c1 : (w.setCell ⟨b, 0, none⟩ (.pointer (some ⟨b, 0, none⟩))).cell? ⟨b, 1, none⟩ = some (.slice none 0 0) := by simp [World.cell?, hbk1]
  have hn0 : ¬ (n : Int) < 0 := by omega
  have hn1 : (0 : Int) < (n : Int) := by omega
  have c1' : (w.setCell ⟨b, 0, none⟩ (.pointer (some ⟨b, 0, none⟩))).drew.cell? ⟨b, 1, none⟩ = some (.slice none 0 0) := c1
  have HB1 := hide hB1
  clear h hbk1 hB1 hG
  generalize w.setCell ⟨b, 0, none⟩ (.pointer (some ⟨b, 0, none⟩)) = w1 at *
  go_enter Tryz.func112, Tryz.ntmps112
  go_wp2_with fail
  refine HC.out.mono ?_
  rintro e w' ⟨rfl, rfl⟩
  go_wp2
  have mixed : Tryz.prog.follows .mixedOrders = true := by kernel_rfl
  go_region_o
  all_goals
    go_wp2_with fail
    refine HG.out.mono ?_
    rintro e w2 ⟨rfl, hb2, hbel⟩
    have HF : Hid (Bld B b [] w2 ∧ Below B w w2) := ⟨Or.inr hb2, HB1.out.drew.trans hbel⟩
    go_wp2
    go_end0
    exact ⟨rfl, HF.out.1, HF.out.2⟩

/-- Three texts joined. -/
def joi (a b c : List UInt8) : List UInt8 := ((a ++ [124]) ++ b) ++ [124] ++ c

structure JoiW (w wr : World) (l : List UInt8) : Prop where
  bld : Bld w.heap.size w.heap.size l wr
  below : Below w.heap.size w wr

set_option maxHeartbeats 4000000 in
theorem join3 (g : Nat) (a b c : ByteArray) (w : World) (hg : g < w.heap.size) (p0 : w.cell? ⟨g, 0, none⟩ = some (.string a)) (p1 : w.cell? ⟨g, 1, none⟩ = some (.string b)) (p2 : w.cell? ⟨g, 2, none⟩ = some (.string c)) (ha : a.size ≤ 100000) (hb : b.size ≤ 100000) (hc : c.size ≤ 100000) :
    Calls Tryz.prog 109 #[.slice (some ⟨g, 0, none⟩) 3 3, .string ⟨#[124]⟩] w fun e w' => e = .returned (.string ⟨(joi a.data.toList b.data.toList c.data.toList).toArray⟩) ∧ Below w.heap.size w w' := by
  have la : a.data.toList.length = a.size := by rw [Array.length_toList]; rfl
  have lb : b.data.toList.length = b.size := by rw [Array.length_toList]; rfl
  have lc : c.data.toList.length = c.size := by rw [Array.length_toList]; rfl
  have hx : ∀ k, k < 3 → ∃ x : ByteArray, w.cell? ⟨g, k, none⟩ = some (.string x) ∧ x.size ≤ 100000 ∧ [a.size, b.size, c.size][k]? = some x.size := fun k hk => by
    match k, hk with
    | 0, _ => exact ⟨a, p0, ha, rfl⟩
    | 1, _ => exact ⟨b, p1, hb, rfl⟩
    | 2, _ => exact ⟨c, p2, hc, rfl⟩
  have HX := hide hx
  have LA := hide la
  have LB := hide lb
  have LC := hide lc
  clear hx la lb lc
  go_enter Tryz.func109, Tryz.ntmps109
  go_wp2
  go_loop [5, 41] (fun n i => ∃ k m : Nat, k ≤ 3 ∧ i = .int .i64 k ∧ n = .int .i64 m ∧ Hid (m = 2 + ([a.size, b.size, c.size].take k).sum)) (fun _ i => 3 - (intOf i).toNat)
  case atStart => exact ⟨0, 2, by omega, rfl, rfl, rfl⟩
  case round =>
    obtain ⟨k, m, hk, rfl, rfl, hm⟩ := hrel
    have hm3 : m ≤ 300002 := by
      have h9 := hm.out
      have : ([a.size, b.size, c.size].take k).sum ≤ a.size + b.size + c.size := by
        match k, hk with
        | 0, _ => simp
        | 1, _ => simp; omega
        | 2, _ => simp
        | 3, _ => simp; omega
      omega
    by_cases hlt : k < 3
    · obtain ⟨x, hxc, hxs, hxe⟩ := HX.out k hlt
      have HM : Hid (m + x.size = 2 + ([a.size, b.size, c.size].take (k + 1)).sum) := by
        show _ = _
        rw [List.take_add_one, hxe, List.sum_append, hm.out]
        simp; omega
      have hlt' : (k : Int) < 3 := by omega
      have hno : ¬ 9223372036854775807 - (m : Int) < (x.size : Int) := by omega
      clear hxe
      go_wp2
      go_round
      case rel => exact ⟨k + 1, m + x.size, by omega, by go_num, by go_num, HM⟩
      case measure => simp [intOf]; omega
    · have hk3 : k = 3 := by omega
      subst hk3
      have HBN : Hid (Bnew (w.alloc (.cells #[.pointer none, .slice none 0 0] 156)) w.heap.size) := heap_alloc_new w _
      have hb0 : Below w.heap.size w (w.alloc (.cells #[.pointer none, .slice none 0 0] 156)) := (Below.refl _ _).alloc (Nat.le_refl _) _
      have HGR := hide (grow_new w.heap.size w.heap.size m _ (Nat.le_refl _) HBN.out hb0.size (by have := hm.out; omega) (by omega))
      have HB0 := hide hb0
      clear hb0 hlt hm hm3
      go_wp2_with fail
      refine HGR.out.mono ?_
      rintro e w1 ⟨rfl, hB1, hbel1⟩
      have hbw1 := HB0.out.trans hbel1
      have q0 := (hbw1.cell (p := ⟨g, 0, none⟩) hg).trans p0
      have HB1 := hide hB1
      have HBW1 := hide hbw1
      clear hB1 hbel1 hbw1 HGR HB0 HBN
      go_wp2_with fail
      refine (writeString_ok w.heap.size w.heap.size [] a w1 HB1.out (by simp; omega) HBW1.out.size).mono ?_
      rintro e w2 ⟨rfl, hB2, hbel2⟩
      have HJ : Hid (JoiW w w2 a.data.toList) := ⟨by rw [List.nil_append] at hB2; exact hB2, HBW1.out.trans hbel2⟩
      clear hB2 hbel2 HB1 HBW1 q0
      go_wp2
      go_loopw [65] (fun i wr => ∃ (k : Nat) (l : List UInt8), k ≤ 2 ∧ i = .int .i64 k ∧ Hid (l = if k = 0 then a.data.toList else if k = 1 then (a.data.toList ++ [124]) ++ b.data.toList else joi a.data.toList b.data.toList c.data.toList) ∧ Hid (JoiW w wr l)) (fun i _ => 2 - (intOf i).toNat)
      case atStart => exact ⟨0, _, by omega, rfl, rfl, HJ⟩
      case round =>
        obtain ⟨k, l, hk, rfl, hl, hJ⟩ := hrel
        have hll : l.length ≤ 400000 := by
          have h9 := hl.out
          have := LA.out; have := LB.out; have := LC.out
          rw [h9]
          unfold joi
          split
          · omega
          · split <;> simp <;> omega
        by_cases hlt : k < 2
        · obtain ⟨x, hxc, hxs, hxe⟩ := HX.out (k + 1) (by omega)
          have hxl : (l ++ [124]) ++ x.data.toList = if k + 1 = 0 then a.data.toList else if k + 1 = 1 then (a.data.toList ++ [124]) ++ b.data.toList else joi a.data.toList b.data.toList c.data.toList := by
            have h9 := hl.out
            match k, hlt with
            | 0, _ =>
              have : x = b := by have := hxc.symm.trans p1; simpa using this
              rw [h9, this]; rfl
            | 1, _ =>
              have : x = c := by have := hxc.symm.trans p2; simpa using this
              rw [h9, this]; rfl
          have HXL := hide hxl
          have qx := (hJ.out.below.cell (p := ⟨g, k + 1, none⟩) hg).trans hxc
          have qx' : wr.cell? ⟨g, 1 + k, none⟩ = some (.string x) := by rw [Nat.add_comm]; exact qx
          have hlt' : (k : Int) < 2 := by omega
          have HW1 := hide (writeString_ok w.heap.size w.heap.size l ⟨#[124]⟩ wr hJ.out.bld (by rw [show (⟨#[124]⟩ : ByteArray).size = 1 from rfl]; omega) hJ.out.below.size)
          rw [show (⟨#[124]⟩ : ByteArray).size = 1 from rfl, show (⟨#[124]⟩ : ByteArray).data.toList = [124] from rfl] at HW1
          have HBW := hide hJ.out.below
          clear hxl hxc hxe hl hJ
          go_wp2_with fail
          refine HW1.out.mono ?_
          rintro e w3 ⟨rfl, hB3, hbel3⟩
          have hbw3 := HBW.out.trans hbel3
          have HW2 := hide (writeString_ok w.heap.size w.heap.size (l ++ [124]) x w3 hB3 (by simp; omega) hbw3.size)
          have HBW3 := hide hbw3
          clear hB3 hbel3 hbw3 HW1 HBW
          go_wp2_with fail
          refine HW2.out.mono ?_
          rintro e w4 ⟨rfl, hB4, hbel4⟩
          have HJ4 : Hid (JoiW w w4 ((l ++ [124]) ++ x.data.toList)) := ⟨hB4, HBW3.out.trans hbel4⟩
          clear hB4 hbel4 HW2 HBW3
          go_wp2
          go_roundw
          case rel => exact ⟨k + 1, _, by omega, by go_num, HXL, HJ4⟩
          case measure => simp [intOf]; omega
        · have hk2 : k = 2 := by omega
          subst hk2
          have HL : Hid (l = joi a.data.toList b.data.toList c.data.toList) := hl.out
          have HS := hide (bString_ok w.heap.size w.heap.size l wr hJ.out.bld hJ.out.below.size)
          have HBW := hide hJ.out.below
          rw [HL.out] at HS
          clear hl hJ HL
          go_wp2_with fail
          refine HS.out.mono ?_
          rintro e w3 ⟨rfl, hbel3⟩
          have HF := hide (HBW.out.trans hbel3)
          clear hbel3
          go_wp2
          go_ret
          exact ⟨rfl, HF.out⟩

end Go.Proofs.YtffnfchekbafmaaGreatDoor

/- Plain: lines of a book: decimal digits, the check (one byte that is another makes another check), first lines. -/
namespace Go.Proofs.YtffnfchekbafmaaGreatDoor
open Go.Lib (decDigits)

/-- The number that digits tell. -/
def decV (l : List UInt8) : Nat := l.foldl (fun a b => a * 10 + (b.toNat - 48)) 0

theorem ofNat_dig {d : Nat} (h : d < 10) : (UInt8.ofNat (48 + d)).toNat = 48 + d := by
  rw [UInt8.toNat_ofNat']; omega

theorem decV_dec (u : Nat) : decV (decDigits u) = u := by
  induction u using Nat.strongRecOn with
  | ind u ih =>
    rw [decDigits]
    by_cases h : u < 10
    · rw [dif_pos h]
      show 0 * 10 + ((UInt8.ofNat (48 + u)).toNat - 48) = u
      rw [ofNat_dig h]; omega
    · rw [dif_neg h]
      have h1 := ih (u / 10) (by omega)
      unfold decV at h1 ⊢
      rw [List.foldl_append, h1]
      show u / 10 * 10 + ((UInt8.ofNat (48 + u % 10)).toNat - 48) = u
      rw [ofNat_dig (by omega)]; omega

theorem dec_inj {u v : Nat} (h : decDigits u = decDigits v) : u = v := by rw [← decV_dec u, h, decV_dec v]

theorem dec_digs (u : Nat) : ∀ b, b ∈ decDigits u → 48 ≤ b.toNat ∧ b.toNat ≤ 57 := by
  induction u using Nat.strongRecOn with
  | ind u ih =>
    intro b hb
    rw [decDigits] at hb
    by_cases h : u < 10
    · rw [dif_pos h, List.mem_singleton] at hb
      rw [hb, ofNat_dig h]; omega
    · rw [dif_neg h, List.mem_append, List.mem_singleton] at hb
      rcases hb with hb | hb
      · exact ih (u / 10) (by omega) b hb
      · rw [hb, ofNat_dig (by omega)]; omega

/-- One step of the check. -/
def chkS (h : Nat) (b : UInt8) : Nat := (h * 33 % 4294967296) ^^^ b.toNat

/-- The check of a text. -/
def chkN (l : List UInt8) : Nat := l.foldl chkS 5381

theorem chkS_lt (h : Nat) (b : UInt8) : chkS h b < 4294967296 := by
  unfold chkS
  exact Nat.xor_lt_two_pow (n := 32) (by omega) (by have := b.toNat_lt; omega)

theorem inv33 {h : Nat} (hh : h < 4294967296) : (h * 33 % 4294967296) * 1041204193 % 4294967296 = h := by
  rw [Nat.mod_mul_mod, Nat.mul_assoc, show 33 * 1041204193 = 1 + 4294967296 * 8 from rfl, Nat.mul_add, Nat.mul_one, Nat.mul_left_comm, Nat.add_mul_mod_self_left, Nat.mod_eq_of_lt hh]

theorem chkS_inj {h k : Nat} {b : UInt8} (hh : h < 4294967296) (hk : k < 4294967296) (e : chkS h b = chkS k b) : h = k := by
  unfold chkS at e
  have e2 : h * 33 % 4294967296 = k * 33 % 4294967296 := by
    have := congrArg (· ^^^ b.toNat) e
    simpa only [Nat.xor_assoc, Nat.xor_self, Nat.xor_zero] using this
  rw [← inv33 hh, e2, inv33 hk]

theorem chkS_byte {h : Nat} {b c : UInt8} (e : chkS h b = chkS h c) : b = c := by
  unfold chkS at e
  have e2 : b.toNat = c.toNat := by
    have := congrArg (fun x => (h * 33 % 4294967296) ^^^ x) e
    simpa only [← Nat.xor_assoc, Nat.xor_self, Nat.zero_xor] using this
  exact UInt8.toNat_inj.1 e2

theorem chk_lt (l : List UInt8) : ∀ h, h < 4294967296 → l.foldl chkS h < 4294967296 := by
  induction l with
  | nil => intro h hh; exact hh
  | cons b l ih => intro h _; exact ih _ (chkS_lt h b)

theorem chk_tail {l : List UInt8} : ∀ {h k : Nat}, h < 4294967296 → k < 4294967296 → l.foldl chkS h = l.foldl chkS k → h = k := by
  induction l with
  | nil => intro h k _ _ e; exact e
  | cons b l ih => intro h k hh hk e; exact chkS_inj hh hk (ih (chkS_lt h b) (chkS_lt k b) e)

/-- One byte that is another makes another check. -/
theorem chk_one {a r : List UInt8} {x y : UInt8} (h : chkN (a ++ x :: r) = chkN (a ++ y :: r)) : x = y := by
  unfold chkN at h
  rw [List.foldl_append, List.foldl_append, List.foldl_cons, List.foldl_cons] at h
  exact chkS_byte (chk_tail (chkS_lt _ x) (chkS_lt _ y) h)

theorem chkN_lt (l : List UInt8) : chkN l < 4294967296 := chk_lt l 5381 (by decide)

/-! lines -/

/-- A text in which nothing stands that ends it. -/
def Cln (l : List UInt8) : Prop := ∀ b, b ∈ l → b ≠ 35 ∧ b ≠ 10

theorem Cln.dec (u : Nat) : Cln (decDigits u) := fun b hb => by
  have := dec_digs u b hb
  constructor <;> (intro e; subst e; revert this; decide)

/-- The line of a text. -/
def lnOf (T : List UInt8) : List UInt8 := T ++ 35 :: (decDigits (chkN T) ++ [10])

theorem lnOf_length (T : List UInt8) : (lnOf T).length = T.length + (decDigits (chkN T)).length + 2 := by
  unfold lnOf; simp; omega

/-- Two texts without a sign, ahead of that sign. -/
theorem cut_same {s : UInt8} : ∀ {a b r q : List UInt8}, (∀ x, x ∈ a → x ≠ s) → (∀ x, x ∈ b → x ≠ s) → a ++ s :: r = b ++ s :: q → a = b ∧ r = q
  | [], [], r, q, _, _, e => ⟨rfl, by simpa using e⟩
  | [], y :: b, r, q, _, hb, e => by
    rw [List.nil_append, List.cons_append] at e
    injection e with e1 _
    exact absurd e1.symm (hb y List.mem_cons_self)
  | x :: a, [], r, q, ha, _, e => by
    rw [List.nil_append, List.cons_append] at e
    injection e with e1 _
    exact absurd e1 (ha x List.mem_cons_self)
  | x :: a, y :: b, r, q, ha, hb, e => by
    rw [List.cons_append, List.cons_append] at e
    injection e with e1 e2
    obtain ⟨h1, h2⟩ := cut_same (fun z hz => ha z (List.mem_cons_of_mem _ hz)) (fun z hz => hb z (List.mem_cons_of_mem _ hz)) e2
    exact ⟨by rw [e1, h1], h2⟩

theorem lnOf_inj {T S : List UInt8} (hT : Cln T) (hS : Cln S) (h : lnOf T = lnOf S) : T = S := (cut_same (fun x hx => (hT x hx).1) (fun x hx => (hS x hx).1) h).1

/-- Where the first line ends: behind its newline; at the beginning, if there is none. -/
def nlA (bs : List UInt8) : Nat := match bs.findIdx? (fun b => b == 10) with | some i => i + 1 | none => 0

/-- The first line. -/
def fstL (bs : List UInt8) : List UInt8 := bs.take (nlA bs)

theorem findIdx_at : ∀ {a r : List UInt8}, (∀ x, x ∈ a → x ≠ 10) → (a ++ 10 :: r).findIdx? (fun b => b == 10) = some a.length
  | [], r, _ => by simp [List.findIdx?_cons]
  | x :: a, r, h => by
    have h1 : (x == 10) = false := by simpa using h x List.mem_cons_self
    rw [List.cons_append, List.findIdx?_cons, h1, findIdx_at (fun z hz => h z (List.mem_cons_of_mem _ hz))]
    simp

theorem fstL_at {a r : List UInt8} (h : ∀ x, x ∈ a → x ≠ 10) : fstL (a ++ 10 :: r) = a ++ [10] := by
  unfold fstL nlA
  rw [findIdx_at h]
  show (a ++ 10 :: r).take (a.length + 1) = _
  rw [List.take_append, List.take_of_length_le (by omega), show a.length + 1 - a.length = 1 by omega]
  rfl

theorem fstL_none {a : List UInt8} (h : ∀ x, x ∈ a → x ≠ 10) : fstL a = [] := by
  unfold fstL nlA
  have : a.findIdx? (fun b => b == 10) = none := by
    rw [List.findIdx?_eq_none_iff]
    intro x hx
    simpa using h x hx
  rw [this]
  rfl

theorem lnOf_form (T : List UInt8) : lnOf T = (T ++ 35 :: decDigits (chkN T)) ++ [10] := by unfold lnOf; simp

theorem line_no10 {T : List UInt8} (hT : Cln T) : ∀ x, x ∈ T ++ 35 :: decDigits (chkN T) → x ≠ 10 := fun x hx => by
  rcases List.mem_append.1 hx with h | h
  · exact (hT x h).2
  · rcases List.mem_cons.1 h with h | h
    · rw [h]; decide
    · exact (Cln.dec _ x h).2

/-- A line, and more behind it: it is the first one. -/
theorem fstL_line {T r : List UInt8} (hT : Cln T) : fstL (lnOf T ++ r) = lnOf T := by
  rw [lnOf_form, List.append_assoc]
  exact fstL_at (line_no10 hT)

/-- A line that is cut off is none. -/
theorem fstL_cut {T : List UInt8} (hT : Cln T) {c : Nat} (hc : c < (lnOf T).length) : fstL ((lnOf T).take c) = [] := by
  apply fstL_none
  intro x hx
  rw [lnOf_form, List.take_append_of_le_length (by rw [lnOf_form, List.length_append] at hc; simp at hc ⊢; omega)] at hx
  exact line_no10 hT x (List.mem_of_mem_take hx)

theorem no35 {T : List UInt8} {l : List UInt8} (h : ∀ x, x ∈ l → x ≠ 35) : l ≠ lnOf T := fun e => by
  have : (35 : UInt8) ∈ lnOf T := by unfold lnOf; simp
  rw [← e] at this
  exact h 35 this rfl

theorem lnOf_ne_nil (T : List UInt8) : [] ≠ lnOf T := no35 (fun x hx => by cases hx)

end Go.Proofs.YtffnfchekbafmaaGreatDoor

/- Contract: book.checkOf. -/
namespace Go.Proofs.YtffnfchekbafmaaGreatDoor
open Go.RowKit
set_option linter.unusedVariables false

theorem bits_xor_u32 (a b : Nat) (ha : a < 4294967296) (hb : b < 4294967296) :
    bits .xor .u32 (a : Int) (b : Int) = ((a ^^^ b : Nat) : Int) := by
  have hx : a ^^^ b < 2 ^ 32 := Nat.xor_lt_two_pow (by omega) (by omega)
  have h1 : (BitVec.ofInt 32 (a : Int)).toNat = a := by
    rw [BitVec.ofInt_natCast, BitVec.toNat_ofNat]; exact Nat.mod_eq_of_lt (by omega)
  have h2 : (BitVec.ofInt 32 (b : Int)).toNat = b := by
    rw [BitVec.ofInt_natCast, BitVec.toNat_ofNat]; exact Nat.mod_eq_of_lt (by omega)
  show IntKind.u32.wrap ((BitVec.ofInt 32 (a : Int) ^^^ BitVec.ofInt 32 (b : Int)).toNat : Int) = _
  rw [BitVec.toNat_xor, h1, h2, show ∀ n : Int, IntKind.u32.wrap n = n % 4294967296 from fun n => by simp [IntKind.wrap, IntKind.bits, IntKind.signed]]
  omega

theorem chkN_take {l : List UInt8} {k : Nat} {b : UInt8} (h : l[k]? = some b) : chkN (l.take (k + 1)) = chkS (chkN (l.take k)) b := by
  unfold chkN
  rw [List.take_add_one, h, List.foldl_append]
  rfl

set_option maxRecDepth 20000 in
set_option maxHeartbeats 2000000 in
theorem checkOf_ok (s : ByteArray) (w : World) (hs : s.size ≤ 1000000) :
    Calls Tryz.prog 111 #[.string s] w fun e w' => e = .returned (.int .u32 ((chkN s.data.toList : Nat) : Int)) ∧ w = w' := by
  have HT : Hid (s.data.toList.take s.size = s.data.toList) := List.take_of_length_le (by rw [Array.length_toList]; exact Nat.le_refl _)
  go_enter Tryz.func111, Tryz.ntmps111
  go_wp2
  go_loop [3, 7] (fun sh si => ∃ (k h : Nat), k ≤ s.size ∧ h < 4294967296 ∧ sh = .int .u32 (h : Int) ∧ si = .int .i64 (k : Int) ∧ Hid (h = chkN (s.data.toList.take k))) (fun _ si => s.size - (intOf si).toNat)
  case atStart => exact ⟨0, 5381, Nat.zero_le _, by decide, rfl, rfl, rfl⟩
  case round =>
    obtain ⟨k, h, hk, hh, rfl, rfl, hc⟩ := hrel
    by_cases hlt : k < s.size
    · obtain ⟨b, hb⟩ : ∃ b, b = s[k] := ⟨_, rfl⟩
      have hbl : s.data.toList[k]? = some b := by rw [hb, Array.getElem?_toList]; exact Array.getElem?_eq_getElem hlt
      have hbt := b.toNat_lt
      have HC : Hid (chkS h b = chkN (s.data.toList.take (k + 1))) := by show _ = _; rw [chkN_take hbl, ← hc.out]
      have hlt2 := chkS_lt h b
      have HX : Hid (bits BinOp.xor IntKind.u32 ((h : Int) * 33 % 4294967296) ((b.toNat : Int) % 4294967296) = ((chkS h b : Nat) : Int)) := by
        show _ = _
        have e1 : ((h : Int) * 33 % 4294967296) = ((h * 33 % 4294967296 : Nat) : Int) := by omega
        have e2 : ((b.toNat : Int) % 4294967296) = ((b.toNat : Nat) : Int) := by omega
        rw [e1, e2, bits_xor_u32 _ _ (by omega) (by omega)]
        rfl
      have HB := hide hb
      clear hb hbl hc hbt
      go_wp2
      rw [← HB.out, HX.out]
      go_round
      case rel => exact ⟨k + 1, chkS h b, hlt, hlt2, rfl, by go_num, HC⟩
      case measure => simp [intOf]; omega
    · obtain rfl : k = s.size := by omega
      have HE : Hid (h = chkN s.data.toList) := by show _ = _; rw [hc.out, HT.out]
      clear hc
      go_wp2
      go_ret
      exact ⟨by rw [HE.out]; rfl, rfl⟩

end Go.Proofs.YtffnfchekbafmaaGreatDoor

/- strconv.Itoa and what it leans on, laid; its contract at every number. -/
namespace Go.Proofs.YtffnfchekbafmaaGreatDoor
open Go.RowKit
set_option maxRecDepth 100000
set_option linter.unusedVariables false

def rnIt : Go.Shelf.Ren := ⟨fun | 129 => 84 | 171 => 66 | 243 => 76 | 246 => 78 | 283 => 79 | 284 => 80 | 285 => 81 | 286 => 82 | 317 => 83 | 318 => 85 | 319 => 86 | 320 => 87 | 337 => 88 | 338 => 89 | n => n,
  fun | 0 => 0 | 2 => 2 | 3 => 3 | 4 => 4 | 5 => 5 | 9 => 9 | 20 => 20 | 37 => 22 | 46 => 100 | 51 => 81 | 53 => 103 | 171 => 126 | 173 => 129 | 212 => 132 | 213 => 133 | 232 => 136 | 233 => 137 | n => n, fun | 17 => 5 | 18 => 6 | 19 => 7 | n => n⟩

theorem bl171 : Go.Proofs.LaysM.n171 Tryz.prog rnIt where
  mixed := by kernel_rfl
  f129 := by kernel_rfl
  f171 := by kernel_rfl
  f243 := by kernel_rfl
  f246 := by kernel_rfl
  f283 := by kernel_rfl
  f284 := by kernel_rfl
  f285 := by kernel_rfl
  f286 := by kernel_rfl
  f317 := by kernel_rfl
  f318 := by kernel_rfl
  f319 := by kernel_rfl
  f320 := by kernel_rfl
  f337 := by kernel_rfl
  f338 := by kernel_rfl
  t0 := by kernel_rfl
  a0 := fun w => by kernel_rfl
  z0 := fun w => by kernel_rfl
  v0 := fun w => by kernel_rfl
  t2 := by kernel_rfl
  a2 := fun w => by kernel_rfl
  z2 := fun w => by kernel_rfl
  v2 := fun w => by kernel_rfl
  t3 := by kernel_rfl
  a3 := fun w => by kernel_rfl
  z3 := fun w => by kernel_rfl
  v3 := fun w => by kernel_rfl
  t4 := by kernel_rfl
  a4 := fun w => by kernel_rfl
  z4 := fun w => by kernel_rfl
  v4 := fun w => by kernel_rfl
  t5 := by kernel_rfl
  a5 := fun w => by kernel_rfl
  z5 := fun w => by kernel_rfl
  v5 := fun w => by kernel_rfl
  t9 := by kernel_rfl
  a9 := fun w => by kernel_rfl
  z9 := fun w => by kernel_rfl
  v9 := fun w => by kernel_rfl
  t20 := by kernel_rfl
  a20 := fun w => by kernel_rfl
  z20 := fun w => by kernel_rfl
  v20 := fun w => by kernel_rfl
  t37 := by kernel_rfl
  a37 := fun w => by kernel_rfl
  z37 := fun w => by kernel_rfl
  v37 := fun w => by kernel_rfl
  t46 := by kernel_rfl
  a46 := fun w => by kernel_rfl
  z46 := fun w => by kernel_rfl
  v46 := fun w => by kernel_rfl
  t51 := by kernel_rfl
  a51 := fun w => by kernel_rfl
  z51 := fun w => by kernel_rfl
  v51 := fun w => by kernel_rfl
  t53 := by kernel_rfl
  a53 := fun w => by kernel_rfl
  z53 := fun w => by kernel_rfl
  v53 := fun w => by kernel_rfl
  t171 := by kernel_rfl
  a171 := fun w => by kernel_rfl
  z171 := fun w => by kernel_rfl
  v171 := fun w => by kernel_rfl
  t173 := by kernel_rfl
  a173 := fun w => by kernel_rfl
  z173 := fun w => by kernel_rfl
  v173 := fun w => by kernel_rfl
  t212 := by kernel_rfl
  a212 := fun w => by kernel_rfl
  z212 := fun w => by kernel_rfl
  v212 := fun w => by kernel_rfl
  t213 := by kernel_rfl
  a213 := fun w => by kernel_rfl
  z213 := fun w => by kernel_rfl
  t232 := by kernel_rfl
  a232 := fun w => by kernel_rfl
  z232 := fun w => by kernel_rfl
  v232 := fun w => by kernel_rfl
  t233 := by kernel_rfl
  a233 := fun w => by kernel_rfl
  z233 := fun w => by kernel_rfl
  v233 := fun w => by kernel_rfl
  g17 := by kernel_rfl
  g18 := by kernel_rfl
  g19 := by kernel_rfl
  i0 := by kernel_rfl
  i2 := by kernel_rfl
  i3 := by kernel_rfl
  i4 := by kernel_rfl
  i5 := by kernel_rfl
  i9 := by kernel_rfl
  i20 := by kernel_rfl
  i37 := by kernel_rfl
  i46 := by kernel_rfl
  i51 := by kernel_rfl
  i53 := by kernel_rfl
  i171 := by kernel_rfl
  i173 := by kernel_rfl
  i212 := by kernel_rfl
  i232 := by kernel_rfl
  i233 := by kernel_rfl
  m17 := by kernel_rfl
  m18 := by kernel_rfl
  m19 := by kernel_rfl


/-- The table of powers of ten lies as Go lays it. -/
def Tab10 (w : World) : Prop := Lib.TabIs Tryz.prog w "internal/strconv.uint64pow10" .u64 Lib.pow10Tab

theorem itoa_ok (u : Nat) (w : World) (hu : u ≤ 9223372036854775807) (ht : Tab10 w) :
    Calls Tryz.prog 66 #[.int .i64 (u : Int)] w fun e w' => e = .returned (.string ⟨(Go.Lib.decDigits u).toArray⟩) ∧ Below w.heap.size w w' := by
  refine (Any.strconv_Itoa bl171 (u : Int) (by omega) (by omega) w ht).mono ?_
  rintro e w' ⟨rfl, k, os, rfl⟩
  rw [Lib.itoa_nonneg]
  exact ⟨rfl, Lib.below_grow _ w (Nat.le_refl _) k os⟩

end Go.Proofs.YtffnfchekbafmaaGreatDoor

/- Contract: strconv.FormatUint in base ten. -/
namespace Go.Proofs.YtffnfchekbafmaaGreatDoor
open Go.RowKit Go.Sort
set_option maxRecDepth 100000
set_option linter.unusedVariables false

abbrev u8v : UInt8 → Value := fun b => Value.int .u8 (b.toNat : Int)

set_option maxHeartbeats 4000000 in
theorem fmtIn_ok (u : Nat) (w : World) (hu : u < 18446744073709551616) (ht : Tab10 w) :
    Calls Tryz.prog 115 #[.int .u64 (u : Int), .int .i64 10] w fun e w' => e = .returned (.string ⟨(Go.Lib.decDigits u).toArray⟩) ∧ Below w.heap.size w w' := by
  by_cases hs : u < 100
  · have HSm := hide (Any.internal_strconv_small { bl171 with } u hs w)
    have g1 : decide ((u : Int) < 100) = true := decide_eq_true (by omega)
    go_enter Tryz.func115, Tryz.ntmps115
    go_wp2_with fail
    refine HSm.out.mono ?_
    rintro e w' ⟨rfl, rfl⟩
    go_wp2
    go_ret
    exact ⟨rfl, Below.refl _ _⟩
  · have hu1 : 1 ≤ u := by omega
    have g1 : decide ((u : Int) < 100) = false := decide_eq_false (by omega)
    obtain ⟨nd, hnd⟩ : ∃ nd, nd = Lib.nDigits u := ⟨_, rfl⟩
    have hn20 : nd ≤ 20 := by
      have h5 := Lib.numDigits_eq u hu1 hu
      rw [hnd]
      split at h5 <;> omega
    have hDl : (Lib.decDigits u).length = nd := by rw [Lib.decDigits_length, hnd]
    obtain ⟨W, hW⟩ : ∃ W, W = w.alloc (.cells Lib.zeros24 126) := ⟨_, rfl⟩
    have hH := Lib.holds_zero0 w 126 nd (by omega)
    rw [← hW] at hH
    have HNd := hide (Any.internal_strconv_numDigits { bl171 with } u hu1 hu W (by rw [hW]; exact Lib.tabIs_alloc ht _))
    rw [← hnd] at HNd
    have HFm := hide (Any.internal_strconv_formatBase10 { bl171 with } w.heap.size 0 24 u (Array.replicate nd 0) W hH (by rw [Array.size_replicate, hnd]; exact Lib.lt_pow_nDigits u) hu (by rw [Array.size_replicate]; omega))
    rw [Array.size_replicate] at HFm
    have HCv : Hid (∀ (k v' : Nat) (dk : Array UInt8), Lib.FmtInv nd u 0 v' dk → (convert 22 9 (.slice (some ⟨w.heap.size, 0, none⟩) nd 24)).run Tryz.prog ((putRow u8v W w.heap.size 0 dk).drewN k) = .ok (.string ⟨(Lib.decDigits u).toArray⟩) ((putRow u8v W w.heap.size 0 dk).drewN k) ∧ Below w.heap.size w ((putRow u8v W w.heap.size 0 dk).drewN k)) := fun k v' dk hF => by
      constructor
      · have h5 := run_convert_bytes_back (P := Tryz.prog) ((putRow u8v W w.heap.size 0 dk).drewN k) 22 9 5 ⟨w.heap.size, 0, none⟩ 24 (Lib.decDigits u) Tryz.underlying22 Tryz.underlying5 Tryz.underlying9 (fun j hj => by
          have hj2 : j < nd := by rw [← hDl]; exact hj
          rw [hnd] at hF
          rw [Lib.row_is_numeral hF j hj, Lib.add_plain, World.cell?_drewN]
          exact cell?_putRow u8v W w.heap.size 0 _ dk hH (by rw [hF.size, Array.size_replicate, hnd]) j (by rw [hF.size, ← hnd]; exact hj2))
        rw [hDl] at h5
        exact h5
      · obtain ⟨os, eo⟩ := Lib.fin_at w (.cells Lib.zeros24 126) dk k 0
        rw [← hW] at eo
        rw [eo]
        exact Lib.below_grow _ w (Nat.le_refl _) k os
    have hd24 : nd ≤ 24 := by omega
    have hal : Tryz.prog.arrayLen 126 = 24 := by kernel_rfl
    have hsl : ∀ V, (Instr.sliceAt 126 (.pointer (some ⟨w.heap.size, 0, none⟩)) none (some (.int .i64 (nd : Int))) none).run Tryz.prog V = .ok (.slice (some ⟨w.heap.size, 0, none⟩) nd 24) V := fun V => by
      rw [run_sliceAt_array_h V 126 ⟨w.heap.size, 0, none⟩ (by kernel_rfl) .i64 (nd : Int) (by omega) (by rw [hal]; omega), hal]
      go_simp
    generalize (⟨(Lib.decDigits u).toArray⟩ : ByteArray) = R at *
    have HW := hide hW
    clear hH hDl hnd ht
    go_enter Tryz.func115, Tryz.ntmps115
    go_wp2_with fail
    change Calls _ _ _ (w.alloc (.cells Lib.zeros24 126)) _
    rw [← HW.out]
    refine HNd.out.mono ?_
    rintro e w' ⟨rfl, hww⟩
    subst hww
    go_wp2_with fail
    try rw [← HW.out]
    refine HFm.out.mono ?_
    rintro e w' ⟨rfl, k, v', dk, rfl, hF⟩
    obtain ⟨hcv, hb⟩ := HCv.out k v' dk hF
    have HB := hide hb
    clear hF hb HCv HFm HNd
    generalize hW5 : (putRow (fun (b : UInt8) => Value.int .u8 (b.toNat : Int)) w' w.heap.size 0 dk).drewN k = W5 at *
    go_wp2
    go_ret
    exact ⟨rfl, HB.out⟩

theorem fmtU_ok (u : Nat) (w : World) (hu : u < 18446744073709551616) (ht : Tab10 w) :
    Calls Tryz.prog 110 #[.int .u64 (u : Int), .int .i64 10] w fun e w' => e = .returned (.string ⟨(Go.Lib.decDigits u).toArray⟩) ∧ Below w.heap.size w w' := by
  have HF := hide (fmtIn_ok u w hu ht)
  clear ht
  generalize (⟨(Lib.decDigits u).toArray⟩ : ByteArray) = R at *
  go_enter Tryz.func110, Tryz.ntmps110
  go_wp2_with fail
  refine HF.out.mono ?_
  rintro e w' ⟨rfl, hb⟩
  go_wp2
  go_ret
  exact ⟨rfl, hb⟩

end Go.Proofs.YtffnfchekbafmaaGreatDoor
