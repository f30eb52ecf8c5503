/- Joined: FlD, FlE, FlF, Own, FlG, FlH, FlL, FlI. -/
import Derived.Test.YtbhmhgkbobajfaaJ0
import Derived.Deep.RegionHeld3
import Derived.Deep.QuietTactic
/- Package strike: small functions, Check. -/
namespace Go.Proofs.Ytbhmhgkbobajfaa
open Go.RowKit
set_option maxRecDepth 20000
set_option linter.unusedVariables false

/-- No sign on a nought. -/
def uns (x : Nat) : Nat := if (FloatKind.f64.format.order x 0 == some .eq) = true then 0 else x

/-- May x be a time? -/
def mayB (x : Nat) : Bool := (FloatKind.f64.format.order x 13965043853221167104 == some .gt || FloatKind.f64.format.order x 13965043853221167104 == some .eq) && (FloatKind.f64.format.order x 4741671816366391296 == some .lt || FloatKind.f64.format.order x 4741671816366391296 == some .eq)

theorem mayBe_ok (x : Nat) (w : World) : Calls Try.prog 19 #[.float .f64 x] w fun e w' => e = .returned (.bool (mayB x)) ∧ w = w' := by
  unfold mayB
  cases h1 : (FloatKind.f64.format.order x 13965043853221167104 == some .gt || FloatKind.f64.format.order x 13965043853221167104 == some .eq) <;> cases h2 : (FloatKind.f64.format.order x 4741671816366391296 == some .lt || FloatKind.f64.format.order x 4741671816366391296 == some .eq)
  all_goals
    go_enter Try.func19, Try.ntmps19
    go_wp2
    all_goals (go_ret; exact ⟨rfl, rfl⟩)

/-- When the k-th blow is due. -/
def beatN (n k : Nat) : Nat := k + k / (2 * n)

theorem beatN_le (n k : Nat) (h : 1 ≤ n) : beatN n k ≤ 2 * k := by
  unfold beatN
  have := Nat.div_le_self k (2 * n)
  omega

/-- Is the k-th blow wrong? -/
def badB (n : Int) (L : List (Int × Nat)) (k : Nat) : Bool :=
  decide ((L.getD k (0, 0)).1 < 0) || decide (n ≤ (L.getD k (0, 0)).1) || !mayB (L.getD k (0, 0)).2 || (decide (0 < k) && FloatKind.f64.format.order (L.getD k (0, 0)).2 (L.getD (k - 1) (0, 0)).2 == some .lt)

end Go.Proofs.Ytbhmhgkbobajfaa

/- Package strike: Check. -/
namespace Go.Proofs.Ytbhmhgkbobajfaa
open Go.RowKit
set_option maxRecDepth 20000
set_option linter.unusedVariables false

/-- What Check says of blows. -/
def chkB (n : Int) (L : List (Int × Nat)) : Int :=
  if n < 1 ∨ 12 < n ∨ L.length < 2 then 1 else if 5000 < L.length then 3 else if ∃ k, k < L.length ∧ badB n L k = true then 12 else 0

theorem chkB_bad {n : Int} {L : List (Int × Nat)} {k : Nat} (h : ¬ (n < 1 ∨ 12 < n ∨ L.length < 2)) (h2 : ¬ 5000 < L.length) (hk : k < L.length) (hb : badB n L k = true) : chkB n L = 12 := by
  unfold chkB; rw [if_neg h, if_neg h2, if_pos ⟨k, hk, hb⟩]

theorem chkB_fine {n : Int} {L : List (Int × Nat)} (h : ¬ (n < 1 ∨ 12 < n ∨ L.length < 2)) (h2 : ¬ 5000 < L.length) (hb : ∀ k, k < L.length → badB n L k = false) : chkB n L = 0 := by
  unfold chkB; rw [if_neg h, if_neg h2, if_neg]
  rintro ⟨k, hk, h3⟩
  rw [hb k hk] at h3
  cases h3

end Go.Proofs.Ytbhmhgkbobajfaa

/- Package strike: the straight line that is nearest. -/
namespace Go.Proofs.Ytbhmhgkbobajfaa
open Go.RowKit
set_option maxRecDepth 20000
set_option linter.unusedVariables false

abbrev fi (n : Int) : Nat := floatOfInt .f64 n

def Xn (n : Nat) : Nat → Nat
  | 0 => 0
  | k + 1 => Xn n k + beatN n k

def Qn (n : Nat) : Nat → Nat
  | 0 => 0
  | k + 1 => Qn n k + beatN n k * beatN n k

theorem Xn_le (n k : Nat) (h1 : 1 ≤ n) (hk : k ≤ 5000) : Xn n k ≤ k * 10000 := by
  induction k with
  | zero => simp [Xn]
  | succ k ih =>
    have := ih (by omega)
    have := beatN_le n k h1
    simp only [Xn]
    omega

theorem Qn_le (n k : Nat) (h1 : 1 ≤ n) (hk : k ≤ 5000) : Qn n k ≤ k * 100000000 := by
  induction k with
  | zero => simp [Qn]
  | succ k ih =>
    have := ih (by omega)
    have h2 := beatN_le n k h1
    have : beatN n k * beatN n k ≤ 10000 * 10000 := Nat.mul_le_mul (by omega) (by omega)
    simp only [Qn]
    omega

abbrev timeAt (L : List (Int × Nat)) (k : Nat) : Nat := (L.getD k (0, 0)).2

/-- Beat and time of the k-th blow, multiplied. -/
def prodAt (n : Nat) (L : List (Int × Nat)) (k : Nat) : Nat := fop .mul (fi (beatN n k)) (timeAt L k)

def tT (L : List (Int × Nat)) : Nat → Nat × Nat
  | 0 => (0, 0)
  | k + 1 => tad (tT L k) (timeAt L k)

def tU (n : Nat) (L : List (Int × Nat)) : Nat → Nat × Nat
  | 0 => (0, 0)
  | k + 1 => tad (tU n L k) (prodAt n L k)

def sm (s : Nat × Nat) : Nat := fop .add s.1 s.2

/-- Ahead of the sign's being taken away. -/
def gap0 (n : Nat) (L : List (Int × Nat)) : Nat :=
  fop .quo (fop .sub (fop .mul (fi (L.length : Int)) (sm (tU n L L.length))) (fop .mul (fi (Xn n L.length : Int)) (sm (tT L L.length)))) (fi ((L.length : Int) * (Qn n L.length : Int) - (Xn n L.length : Int) * (Xn n L.length : Int)))

def gapOf (n : Nat) (L : List (Int × Nat)) : Nat := uns (gap0 n L)

def start0 (n : Nat) (L : List (Int × Nat)) : Nat :=
  fop .quo (fop .sub (sm (tT L L.length)) (fop .mul (gapOf n L) (fi (Xn n L.length : Int)))) (fi (L.length : Int))

def startOf (n : Nat) (L : List (Int × Nat)) : Nat := uns (start0 n L)

/-- All operations on the way to the line are valid. -/
structure NOk (n : Nat) (L : List (Int × Nat)) : Prop where
  t : ∀ k, k < L.length → TOk (tT L k) (timeAt L k)
  p : ∀ k, k < L.length → FOk .mul (fi (beatN n k)) (timeAt L k)
  u : ∀ k, k < L.length → TOk (tU n L k) (prodAt n L k)
  st : FOk .add (tT L L.length).1 (tT L L.length).2
  su : FOk .add (tU n L L.length).1 (tU n L L.length).2
  a : FOk .mul (fi (L.length : Int)) (sm (tU n L L.length))
  b : FOk .mul (fi (Xn n L.length : Int)) (sm (tT L L.length))
  c : FOk .sub (fop .mul (fi (L.length : Int)) (sm (tU n L L.length))) (fop .mul (fi (Xn n L.length : Int)) (sm (tT L L.length)))
  g : FOk .quo (fop .sub (fop .mul (fi (L.length : Int)) (sm (tU n L L.length))) (fop .mul (fi (Xn n L.length : Int)) (sm (tT L L.length)))) (fi ((L.length : Int) * (Qn n L.length : Int) - (Xn n L.length : Int) * (Xn n L.length : Int)))
  d : FOk .mul (gapOf n L) (fi (Xn n L.length : Int))
  e : FOk .sub (sm (tT L L.length)) (fop .mul (gapOf n L) (fi (Xn n L.length : Int)))
  f : FOk .quo (fop .sub (sm (tT L L.length)) (fop .mul (gapOf n L) (fi (Xn n L.length : Int)))) (fi (L.length : Int))

theorem alloc_at (w : World) (o : Obj) : (w.alloc o).heap[w.heap.size]? = some o := heap_alloc_new w o

theorem alloc_at' (w : World) (o : Obj) {k : Nat} (h : k = w.heap.size) : (w.alloc o).heap[k]? = some o := by rw [h]; exact alloc_at w o

/-- A total, alone in a block. -/
def TotB (w : World) (b : Nat) (s : Nat × Nat) : Prop := w.heap[b]? = some (.cells #[.float .f64 s.1, .float .f64 s.2] 41)

theorem TotB.add (s : Nat × Nat) (x : Nat) (hT : TOk s x) {b : Nat} {w : World} (h : TotB w b s) :
    Calls Try.prog 12 #[.pointer (some ⟨b, 0, none⟩), .float .f64 x] w fun e w' => e = .returned (.tuple #[]) ∧ TotB w' b (tad s x) ∧ Wrote w w' b #[.float .f64 (tad s x).1, .float .f64 (tad s x).2] 41 := by
  refine (tadd_ok s x hT b 0 w _ _ h rfl rfl).mono ?_
  rintro e w' ⟨rfl, hw⟩
  have e9 : (#[Value.float .f64 s.1, .float .f64 s.2].setIfInBounds (0 + 1) (.float .f64 (tad s x).2)).setIfInBounds 0 (.float .f64 (tad s x).1) = #[.float .f64 (tad s x).1, .float .f64 (tad s x).2] := rfl
  rw [e9] at hw
  exact ⟨rfl, hw.blk, hw⟩

theorem TotB.sum (s : Nat × Nat) (hT : FOk .add s.1 s.2) {b : Nat} {w : World} (h : TotB w b s) :
    Calls Try.prog 13 #[.pointer (some ⟨b, 0, none⟩)] w fun e w' => e = .returned (.float .f64 (sm s)) ∧ Drw w w' := tsum_ok s hT b 0 w _ _ h rfl rfl

end Go.Proofs.Ytbhmhgkbobajfaa

/- Slices that a call has made itself; contracts: Rounds (both), Times, Back. -/
namespace Go.Proofs.Ytbhmhgkbobajfaa
open Go.RowKit

theorem Try.info3 : (Try.prog.info? 3).map (fun i => (i.zero, i.size, i.bytes)) = some (some (.int .i64 0), 1, 8) := by kernel_rfl

theorem owns_set {w : World} {base e g n cap m : Nat} {xs : List Value} (h : w.ownsRow base e 1 (.slice (some ⟨g, 0, none⟩) n cap) n xs) (u : Value) :
    (w.setCell ⟨g, m, none⟩ u).ownsRow base e 1 (.slice (some ⟨g, 0, none⟩) n cap) n (xs.set m u) := by
  obtain ⟨h1, h2⟩ := h
  refine ⟨by rw [List.length_set]; exact h1, ?_⟩
  rcases h2 with ⟨h2, _⟩ | ⟨g', cap', cur, hv, hb, hh, hn, hx, hs, ht⟩
  · cases h2
  · injection hv with e1 _ e3
    injection e1 with e1
    injection e1 with e1
    subst e1; subst e3
    refine Or.inr ⟨g, cap, cur.setIfInBounds m u, rfl, hb, ?_, hn, hx, by simpa using hs, ?_⟩
    · simp [World.setCell, Array.getElem?_modify, hh]
    · rw [Array.toList_setIfInBounds, List.take_set, ht]

theorem owns_cell {w : World} {base e g n cap j : Nat} {zs : List Int} (h : w.ownsRow base e 1 (.slice (some ⟨g, 0, none⟩) n cap) n (zs.map (Value.int .i64))) (hj : j < n) :
    w.cell? ⟨g, j, none⟩ = some (.int .i64 (zs.getD j 0)) ∧ w.frozen? ⟨g, j, none⟩ = false := by
  have hl : zs.length = n := by have := h.1; simpa using this
  constructor
  · have := h.cells (g := g) rfl j (.int .i64 (zs.getD j 0)) (by simp [List.getElem?_map, List.getD, List.getElem?_eq_getElem (by omega : j < zs.length)])
    rw [Addr.add_lit, Nat.zero_add] at this
    exact this
  · rcases h.2 with ⟨h2, _⟩ | ⟨g', cap', cur, hv, hb, hh, hn, hx, hs, ht⟩
    · cases h2
    · injection hv with e1 _ e3
      injection e1 with e1
      injection e1 with e1
      subst e1
      simp [World.frozen?, hh]

theorem owns_cellAt {w : World} {base e g n cap j : Nat} {zs : List Int} (h : w.ownsRow base e 1 (.slice (some ⟨g, 0, none⟩) n cap) n (zs.map (Value.int .i64))) (hj : j < n) :
    ∃ y, Hid (zs[j]?.getD 0 = y) ∧ w.cell? ⟨g, j, none⟩ = some (.int .i64 y) ∧ w.frozen? ⟨g, j, none⟩ = false := ⟨_, rfl, (owns_cell h hj).1, (owns_cell h hj).2⟩

theorem owns_set_int {w : World} {base e g n cap m : Nat} {zs : List Int} (h : w.ownsRow base e 1 (.slice (some ⟨g, 0, none⟩) n cap) n (zs.map (Value.int .i64))) (y : Int) :
    (w.setCell ⟨g, m, none⟩ (.int .i64 y)).ownsRow base e 1 (.slice (some ⟨g, 0, none⟩) n cap) n ((zs.set m y).map (Value.int .i64)) := by
  rw [List.map_set]; exact owns_set h _

theorem made_ints (n : Nat) : (madeCells #[Value.int .i64 0] n).toList = (List.replicate n (0 : Int)).map (Value.int .i64) := by
  apply List.ext_getElem
  · simp [madeCells]
  · intro i h1 h2
    simp [madeCells, Nat.mod_one]

/-- Rounds, as a list. -/
def rnd (n : Nat) : List Int := (List.range n).map (fun (i : Nat) => (i : Int))

theorem rnd_length (n : Nat) : (rnd n).length = n := by simp [rnd]

theorem rnd_get {n j : Nat} (h : j < n) : (rnd n).getD j 0 = j := by simp [rnd, List.getD, h]

theorem eq_rnd {n : Nat} {zs : List Int} (hl : zs.length = n) (h : ∀ j, j < n → zs.getD j 0 = (j : Int)) : zs = rnd n := by
  apply List.ext_getElem
  · rw [hl, rnd_length]
  · intro i h1 h2
    have h3 := h i (by omega)
    have h4 := rnd_get (n := n) (j := i) (by omega)
    simp only [List.getD, List.getElem?_eq_getElem h1, List.getElem?_eq_getElem h2, Option.getD_some] at h3 h4
    rw [h3, h4]

theorem getD_set {zs : List Int} {m j : Nat} {y : Int} (h : m < zs.length) : (zs.set m y).getD j 0 = if m = j then y else zs.getD j 0 := by
  simp only [List.getD, List.getElem?_set]
  by_cases e : m = j
  · subst e; simp [h]
  · simp [e]

theorem rnd_snoc (k : Nat) : rnd (k + 1) = rnd k ++ [(k : Int)] := by
  simp [rnd, List.range_succ]

/-- a, changed by b. -/
def by_ (a b : List Int) : List Int := b.map (fun j => a.getD j.toNat 0)

theorem by_length (a b : List Int) : (by_ a b).length = b.length := by simp [by_]

theorem by_get {a b : List Int} {j : Nat} (h : j < b.length) : (by_ a b).getD j 0 = a.getD (b.getD j 0).toNat 0 := by
  simp [by_, List.getD, h]

theorem ext_getD {xs ys : List Int} (hl : xs.length = ys.length) (h : ∀ j, j < xs.length → xs.getD j 0 = ys.getD j 0) : xs = ys := by
  apply List.ext_getElem hl
  intro i h1 h2
  have h3 := h i h1
  simpa only [List.getD, List.getElem?_eq_getElem h1, List.getElem?_eq_getElem h2, Option.getD_some] using h3

theorem isRow.at {xs : List Int} (h : isRow xs) {j : Nat} (hj : j < xs.length) : 0 ≤ xs.getD j 0 ∧ xs.getD j 0 < xs.length := by
  have e : xs.getD j 0 = xs[j] := by simp [List.getD, List.getElem?_eq_getElem hj]
  rw [e]
  exact h.1 _ (List.getElem_mem hj)

theorem isRow.inj {xs : List Int} (h : isRow xs) {i j : Nat} (hi : i < xs.length) (hj : j < xs.length) (e : xs.getD i 0 = xs.getD j 0) : i = j := by
  simp only [List.getD, List.getElem?_eq_getElem hi, List.getElem?_eq_getElem hj, Option.getD_some] at e
  exact (List.getElem_inj h.2).1 e

theorem times_step {a b zs : List Int} {k : Nat} {y : Int} (hk : k < b.length) (hy : y = a.getD (b.getD k 0).toNat 0) (hz : zs.length = b.length ∧ ∀ j, j < k → zs.getD j 0 = (by_ a b).getD j 0) :
    (zs.set k y).length = b.length ∧ ∀ j, j < k + 1 → (zs.set k y).getD j 0 = (by_ a b).getD j 0 := by
  refine ⟨by rw [List.length_set]; exact hz.1, fun j hj => ?_⟩
  rw [getD_set (by omega)]
  split
  · rename_i e; subst e; rw [by_get hk, hy]
  · exact hz.2 j (by omega)

end Go.Proofs.Ytbhmhgkbobajfaa

/- Package strike: what Judge keeps while it goes on. -/
namespace Go.Proofs.Ytbhmhgkbobajfaa
open Go.RowKit
set_option maxRecDepth 20000
set_option linter.unusedVariables false

/-- Totals, one behind the other, as cells. -/
def flat2 : List (Nat × Nat) → List Value
  | [] => []
  | s :: l => .float .f64 s.1 :: .float .f64 s.2 :: flat2 l

theorem flat2_length : ∀ l : List (Nat × Nat), (flat2 l).length = l.length * 2
  | [] => rfl
  | s :: l => by simp only [flat2, List.length_cons, flat2_length l]; omega

theorem flat2_get : ∀ (l : List (Nat × Nat)) (j : Nat), j < l.length → (flat2 l)[j * 2]? = some (.float .f64 (l.getD j (0, 0)).1) ∧ (flat2 l)[j * 2 + 1]? = some (.float .f64 (l.getD j (0, 0)).2)
  | s :: l, 0, _ => by simp [flat2]
  | s :: l, j + 1, h => by
    have := flat2_get l j (by simpa using h)
    rw [show (j + 1) * 2 = j * 2 + 1 + 1 from by omega]
    simpa [flat2] using this

theorem flat2_set : ∀ (l : List (Nat × Nat)) (j : Nat) (s : Nat × Nat), ((flat2 l).set (j * 2 + 1) (.float .f64 s.2)).set (j * 2) (.float .f64 s.1) = flat2 (l.set j s)
  | [], j, s => by simp [flat2]
  | t :: l, 0, s => by simp [flat2]
  | t :: l, j + 1, s => by
    rw [show (j + 1) * 2 = j * 2 + 1 + 1 from by omega]
    simpa [flat2] using flat2_set l j s

theorem flat2_zeros (n : Nat) : madeCells #[.float .f64 0, .float .f64 0] (n * 2) = (flat2 (List.replicate n (0, 0))).toArray := by
  apply Array.ext'
  apply List.ext_getElem?
  intro i
  have h1 : (madeCells #[.float .f64 0, .float .f64 0] (n * 2)).toList.length = n * 2 := by simp [madeCells]
  rcases Nat.lt_or_ge i (n * 2) with h | h
  · have e : (madeCells #[.float .f64 0, .float .f64 0] (n * 2)).toList[i]? = some (.float .f64 0) := by
      have : (madeCells #[Value.float .f64 0, .float .f64 0] (n * 2))[i]? = some (.float .f64 0) := by
        simp only [madeCells, Array.getElem?_map]
        rw [Array.getElem?_eq_getElem (by simpa using h)]
        simp only [Array.getElem_range, Option.map_some]
        rcases Nat.mod_two_eq_zero_or_one i with h2 | h2 <;> simp [h2]
      simpa using this
    rw [e]
    have hq : i / 2 < (List.replicate n ((0 : Nat), (0 : Nat))).length := by simp; omega
    have hg := flat2_get (List.replicate n (0, 0)) (i / 2) hq
    have hz : (List.replicate n ((0 : Nat), (0 : Nat))).getD (i / 2) (0, 0) = (0, 0) := by
      have : i / 2 < n := by simpa using hq
      simp [List.getD, this]
    rw [hz] at hg
    rcases Nat.mod_two_eq_zero_or_one i with h2 | h2
    · rw [show i / 2 * 2 = i from by omega] at hg; exact hg.1.symm
    · rw [show i / 2 * 2 + 1 = i from by omega] at hg; exact hg.2.symm
  · rw [List.getElem?_eq_none (by rw [h1]; exact h), List.getElem?_eq_none (by simp [flat2_length]; exact h)]

/-- Many totals in one block. -/
def TotsB (w : World) (g : Nat) (S : List (Nat × Nat)) : Prop := w.heap[g]? = some (.cells (flat2 S).toArray 41)

theorem TotsB.add (S : List (Nat × Nat)) (j x : Nat) (hj : j < S.length) (hT : TOk (S.getD j (0, 0)) x) {g : Nat} {w : World} (h : TotsB w g S) :
    Calls Try.prog 12 #[.pointer (some ⟨g, j * 2, none⟩), .float .f64 x] w fun e w' => e = .returned (.tuple #[]) ∧ TotsB w' g (S.set j (tad (S.getD j (0, 0)) x)) ∧ Wrote w w' g (flat2 (S.set j (tad (S.getD j (0, 0)) x))).toArray 41 := by
  have hg := flat2_get S j hj
  refine (tadd_ok (S.getD j (0, 0)) x hT g (j * 2) w _ _ h (by simpa using hg.1) (by simpa using hg.2)).mono ?_
  rintro e w' ⟨rfl, hw⟩
  have e9 : (((flat2 S).toArray.setIfInBounds (j * 2 + 1) (.float .f64 (tad (S.getD j (0, 0)) x).2)).setIfInBounds (j * 2) (.float .f64 (tad (S.getD j (0, 0)) x).1)) = (flat2 (S.set j (tad (S.getD j (0, 0)) x))).toArray := by
    rw [← flat2_set]; simp
  rw [e9] at hw
  exact ⟨rfl, hw.blk, hw⟩

/-- Numbers in one block. -/
def ManB (w : World) (g : Nat) (M : List Int) : Prop := w.heap[g]? = some (.cells (M.map (Value.int .i64)).toArray 3)

theorem ManB.cell {w : World} {g : Nat} {M : List Int} (h : ManB w g M) {j : Nat} (hj : j < M.length) : w.cell? ⟨g, j, none⟩ = some (.int .i64 (M.getD j 0)) ∧ w.frozen? ⟨g, j, none⟩ = false := by
  unfold ManB at h
  constructor
  · unfold World.cell?
    rw [h]
    simp [List.getD, hj]
  · unfold World.frozen?
    rw [h]
    simp

theorem ManB.set {w : World} {g : Nat} {M : List Int} (h : ManB w g M) (j : Nat) (y : Int) : ManB (w.setCell ⟨g, j, none⟩ (.int .i64 y)) g (M.set j y) := by
  unfold ManB at h ⊢
  simp [World.setCell, Array.getElem?_modify, h, List.map_set]

/-- Floats in one block. -/
def FlsB (w : World) (g : Nat) (F : List Nat) : Prop := w.heap[g]? = some (.cells (F.map (Value.float .f64)).toArray 23)

theorem FlsB.cell {w : World} {g : Nat} {F : List Nat} (h : FlsB w g F) {j : Nat} (hj : j < F.length) : w.cell? ⟨g, j, none⟩ = some (.float .f64 (F.getD j 0)) ∧ w.frozen? ⟨g, j, none⟩ = false := by
  unfold FlsB at h
  constructor
  · unfold World.cell?
    rw [h]
    simp [List.getD, hj]
  · unfold World.frozen?
    rw [h]
    simp

theorem FlsB.set {w : World} {g : Nat} {F : List Nat} (h : FlsB w g F) (j : Nat) (y : Nat) : FlsB (w.setCell ⟨g, j, none⟩ (.float .f64 y)) g (F.set j y) := by
  unfold FlsB at h ⊢
  simp [World.setCell, Array.getElem?_modify, h, List.map_set]

abbrev bellAt (L : List (Int × Nat)) (k : Nat) : Nat := (L.getD k (0, 0)).1.toNat

/-- How far off the k-th blow is. -/
def dAt (n : Nat) (L : List (Int × Nat)) (k : Nat) : Nat := fop .sub (timeAt L k) (fop .add (startOf n L) (fop .mul (gapOf n L) (fi (beatN n k))))

abbrev fabs (x : Nat) : Nat := x % 9223372036854775808

def tO (n : Nat) (L : List (Int × Nat)) : Nat → Nat × Nat
  | 0 => (0, 0)
  | k + 1 => tad (tO n L k) (fabs (dAt n L k))

def tQ (n : Nat) (L : List (Int × Nat)) : Nat → Nat × Nat
  | 0 => (0, 0)
  | k + 1 => tad (tQ n L k) (fop .mul (dAt n L k) (dAt n L k))

def ownS (n : Nat) (L : List (Int × Nat)) : Nat → List (Nat × Nat)
  | 0 => List.replicate n (0, 0)
  | k + 1 => (ownS n L k).set (bellAt L k) (tad ((ownS n L k).getD (bellAt L k) (0, 0)) (dAt n L k))

def manS (n : Nat) (L : List (Int × Nat)) : Nat → List Int
  | 0 => List.replicate n 0
  | k + 1 => (manS n L k).set (bellAt L k) ((manS n L k).getD (bellAt L k) 0 + 1)

theorem getD_put {α : Type} (l : List α) (i j : Nat) (v d : α) : (l.set i v).getD j d = if i = j ∧ j < l.length then v else l.getD j d := by
  simp only [List.getD, List.getElem?_set]
  by_cases h : i = j
  · subst h
    by_cases h2 : i < l.length
    · simp [h2]
    · simp [h2]
  · simp [h]

theorem ownS_length (n : Nat) (L : List (Int × Nat)) (k : Nat) : (ownS n L k).length = n := by
  induction k with
  | zero => simp [ownS]
  | succ k ih => simp only [ownS, List.length_set, ih]

theorem manS_length (n : Nat) (L : List (Int × Nat)) (k : Nat) : (manS n L k).length = n := by
  induction k with
  | zero => simp [manS]
  | succ k ih => simp only [manS, List.length_set, ih]

theorem manS_le (n : Nat) (L : List (Int × Nat)) (k j : Nat) : 0 ≤ (manS n L k).getD j 0 ∧ (manS n L k).getD j 0 ≤ k := by
  induction k with
  | zero =>
    simp only [manS, List.getD, List.getElem?_replicate]
    split <;> simp
  | succ k ih =>
    simp only [manS]
    rw [getD_put]
    split
    · rename_i h; have := ih; rw [← h.1] at this; omega
    · omega

/-- The mean of a bell's own. -/
def bellMean (n : Nat) (L : List (Int × Nat)) (i : Nat) : Nat := if 0 < (manS n L L.length).getD i 0 then uns (fop .quo (sm ((ownS n L L.length).getD i (0, 0))) (fi ((manS n L L.length).getD i 0))) else 0

def meanOf (n : Nat) (L : List (Int × Nat)) : Nat := uns (fop .quo (sm (tO n L L.length)) (fi (L.length : Int)))
def varOf (n : Nat) (L : List (Int × Nat)) : Nat := uns (fop .quo (sm (tQ n L L.length)) (fi (L.length : Int)))

/-- All operations of Judge, but for the root, are valid. -/
structure JOk (n : Nat) (L : List (Int × Nat)) : Prop where
  near : NOk n L
  m : ∀ k, k < L.length → FOk .mul (gapOf n L) (fi (beatN n k))
  a : ∀ k, k < L.length → FOk .add (startOf n L) (fop .mul (gapOf n L) (fi (beatN n k)))
  s : ∀ k, k < L.length → FOk .sub (timeAt L k) (fop .add (startOf n L) (fop .mul (gapOf n L) (fi (beatN n k))))
  d : ∀ k, k < L.length → dAt n L k < 18446744073709551616
  o : ∀ k, k < L.length → TOk (tO n L k) (fabs (dAt n L k))
  q : ∀ k, k < L.length → FOk .mul (dAt n L k) (dAt n L k)
  q2 : ∀ k, k < L.length → TOk (tQ n L k) (fop .mul (dAt n L k) (dAt n L k))
  w : ∀ k, k < L.length → TOk ((ownS n L k).getD (bellAt L k) (0, 0)) (dAt n L k)
  so : FOk .add (tO n L L.length).1 (tO n L L.length).2
  mo : FOk .quo (sm (tO n L L.length)) (fi (L.length : Int))
  sq : FOk .add (tQ n L L.length).1 (tQ n L L.length).2
  mq : FOk .quo (sm (tQ n L L.length)) (fi (L.length : Int))
  sb : ∀ i, i < n → FOk .add ((ownS n L L.length).getD i (0, 0)).1 ((ownS n L L.length).getD i (0, 0)).2
  mb : ∀ i, i < n → 0 < (manS n L L.length).getD i 0 → FOk .quo (sm ((ownS n L L.length).getD i (0, 0))) (fi ((manS n L L.length).getD i 0))

theorem Try.info41 : (Try.prog.info? 41).map (fun i => (i.zero, i.size, i.bytes)) = some (some (.agg #[.float .f64 0, .float .f64 0]), 2, 16) := by kernel_rfl
theorem Try.info23 : (Try.prog.info? 23).map (fun i => (i.zero, i.size, i.bytes)) = some (some (.float .f64 0), 1, 8) := by kernel_rfl

theorem run_make_many (n : Nat) (hn : n ≤ 12) (w : World) : (Instr.makeSlice 36 (.int .i64 (n : Int)) (.int .i64 (n : Int))).run Try.prog w = .ok (.slice (some ⟨w.heap.size, 0, none⟩) n n) (w.alloc (.cells ((List.replicate n (0 : Int)).map (Value.int .i64)).toArray 3)) := by
  obtain ⟨i, hi, hz0, hz1, hz2⟩ := info_parts Try.info3
  have := run_make (P := Try.prog) w 36 3 i _ Try.underlying36 hi hz0 .i64 .i64 n n (by omega) (Int.le_refl _) (by rw [hz2]; omega) (by omega)
  rw [this]
  simp only [Int.toNat_natCast, hz1, Nat.mul_one]
  rw [show (Value.int .i64 0).cells = #[Value.int .i64 0] from rfl, ← made_ints]

theorem made_floats (n : Nat) : (madeCells #[Value.float .f64 0] n).toList = (List.replicate n (0 : Nat)).map (Value.float .f64) := by
  apply List.ext_getElem
  · simp [madeCells]
  · intro i h1 h2
    simp [madeCells, Nat.mod_one]

theorem run_make_floats (n : Nat) (hn : n ≤ 12) (w : World) : (Instr.makeSlice 22 (.int .i64 (n : Int)) (.int .i64 (n : Int))).run Try.prog w = .ok (.slice (some ⟨w.heap.size, 0, none⟩) n n) (w.alloc (.cells ((List.replicate n (0 : Nat)).map (Value.float .f64)).toArray 23)) := by
  obtain ⟨i, hi, hz0, hz1, hz2⟩ := info_parts Try.info23
  have := run_make (P := Try.prog) w 22 23 i _ Try.underlying22 hi hz0 .i64 .i64 n n (by omega) (Int.le_refl _) (by rw [hz2]; omega) (by omega)
  rw [this]
  simp only [Int.toNat_natCast, hz1, Nat.mul_one]
  rw [show (Value.float .f64 0).cells = #[Value.float .f64 0] from rfl, ← made_floats]

end Go.Proofs.Ytbhmhgkbobajfaa

/- The square root; Judge. -/
namespace Go.Proofs.Ytbhmhgkbobajfaa
open Go.RowKit
set_option maxRecDepth 20000
set_option linter.unusedVariables false

/-- r is the root of x; where there is none, it is no number. -/
def SqrtOf (x r : Nat) : Prop := (DF.sqrt x = some r ∨ DF.sqrt x = none ∧ ∃ s f, DF.read r = .nan s f) ∧ r < 18446744073709551616

theorem nan_word (t : Nat) : (∃ s f, DF.read (t % 2 * 2 ^ 63 + 0x7ff0000000000000 + 1 + t / 2 % (2 ^ 52 - 1)) = .nan s f) ∧ t % 2 * 2 ^ 63 + 0x7ff0000000000000 + 1 + t / 2 % (2 ^ 52 - 1) < 18446744073709551616 := by
  have h1 : DF.signWeight = 9223372036854775808 := by decide
  have h2 : DF.binade = 4503599627370496 := by decide
  have h3 : DF.infRung = 9218868437227405312 := by decide
  generalize hx : t % 2 * 2 ^ 63 + 0x7ff0000000000000 + 1 + t / 2 % (2 ^ 52 - 1) = x
  have hq : t / 2 % (2 ^ 52 - 1) < 4503599627370495 := Nat.mod_lt _ (by decide)
  generalize t / 2 % (2 ^ 52 - 1) = q at *
  have h9 : t % 2 < 2 := Nat.mod_lt _ (by decide)
  generalize t % 2 = b at *
  have hr : 9218868437227405312 < x % 9223372036854775808 := by
    have : b = 0 ∨ b = 1 := by omega
    rcases this with h | h <;> subst h <;> omega
  refine ⟨?_, by omega⟩
  unfold Ieee.Format.read
  simp only [h1, h2, h3]
  rw [if_neg (by omega), if_neg (by omega), if_neg (by omega)]
  exact ⟨_, _, rfl⟩

theorem run_sqrt (x : Nat) (w : World) : ∃ r w', (callFunc 22 #[.float .f64 x]).run Try.prog w = .ok (.value (.float .f64 r)) w' ∧ SqrtOf x r ∧ Drw w w' := by
  rw [run_callFunc_extern Try.func22 (by kernel_rfl) (by kernel_rfl) (by kernel_rfl) (e := Extern.MathSqrt.sqrt) (by kernel_rfl)]
  cases h : FloatKind.f64.format.sqrt x with
  | some r =>
    refine ⟨r, w, ?_, ⟨Or.inl h, Ieee.Format.sqrt_lt DF h⟩, Drw.refl w⟩
    rw [show Extern.MathSqrt.sqrt #[Value.float .f64 x] = (match FloatKind.f64.format.sqrt x with | some r => pure (.float .f64 r) | none => do pure (.float .f64 (← choose (.nanBits .f64 x x)))) from rfl, h]
    rfl
  | none =>
    have hn := nan_word (w.tape w.drawn (.nanBits .f64 x x))
    refine ⟨_, w.drew, ?_, ⟨Or.inr ⟨h, hn.1⟩, hn.2⟩, ⟨rfl, rfl, rfl, rfl⟩⟩
    rw [show Extern.MathSqrt.sqrt #[Value.float .f64 x] = (match FloatKind.f64.format.sqrt x with | some r => pure (.float .f64 r) | none => do pure (.float .f64 (← choose (.nanBits .f64 x x)))) from rfl, h]
    simp [Question.forced, Question.cut]

theorem sqrt_ok (x : Nat) (w : World) : Calls Try.prog 18 #[.float .f64 x] w fun e w' => ∃ r, e = .returned (.float .f64 r) ∧ SqrtOf x r ∧ Drw w w' := by
  obtain ⟨r, w1, hr, hs, hd⟩ := run_sqrt x w
  have HS := hide hs
  go_enter Try.func18, Try.ntmps18
  go_wp2
  go_ret
  exact ⟨r, rfl, HS.out, hd⟩

/-- The means of the first j bells; noughts. -/
def belF (n : Nat) (L : List (Int × Nat)) (j : Nat) : List Nat := (List.range n).map (fun i => if i < j then bellMean n L i else 0)

theorem belF_zero (n : Nat) (L : List (Int × Nat)) : belF n L 0 = List.replicate n 0 := by
  unfold belF
  apply List.ext_getElem
  · simp
  · intro i h1 h2; simp

theorem belF_length (n : Nat) (L : List (Int × Nat)) (j : Nat) : (belF n L j).length = n := by simp [belF]

theorem belF_set (n : Nat) (L : List (Int × Nat)) (j : Nat) : (belF n L j).set j (bellMean n L j) = belF n L (j + 1) := by
  unfold belF
  apply List.ext_getElem
  · simp
  · intro i h1 h2
    simp only [List.getElem_set, List.getElem_map, List.getElem_range]
    by_cases h : j = i
    · subst h; simp
    · rw [if_neg h]
      by_cases h3 : i < j
      · rw [if_pos h3, if_pos (by omega)]
      · rw [if_neg h3, if_neg (by omega)]

theorem belF_skip (n : Nat) (L : List (Int × Nat)) (j : Nat) (h : bellMean n L j = 0) : belF n L (j + 1) = belF n L j := by
  unfold belF
  apply List.ext_getElem
  · simp
  · intro i h1 h2
    simp only [List.getElem_map, List.getElem_range]
    by_cases h3 : i < j
    · rw [if_pos h3, if_pos (by omega)]
    · rw [if_neg h3]
      by_cases h4 : i = j
      · subst h4; rw [if_pos (by omega), h]
      · rw [if_neg (by omega)]

theorem belF_all (n : Nat) (L : List (Int × Nat)) : belF n L n = (List.range n).map (bellMean n L) := by
  unfold belF
  apply List.map_congr_left
  intro i hi
  rw [if_pos (by simpa using hi)]

theorem cells5s {w1 : World} {B : Nat} {a b c d e : Value} {t : TypeId} (h : w1.heap[B]? = some (.cells #[a, b, c, d, e] t)) :
    w1.cell? ⟨B, 0, none⟩ = some a ∧ w1.cell? ⟨B, 1, none⟩ = some b ∧ w1.cell? ⟨B, 2, none⟩ = some c ∧ w1.cell? ⟨B, 3, none⟩ = some d ∧ w1.cell? ⟨B, 4, none⟩ = some e ∧ w1.frozen? ⟨B, 0, none⟩ = false ∧ w1.frozen? ⟨B, 1, none⟩ = false ∧ w1.frozen? ⟨B, 2, none⟩ = false ∧ w1.frozen? ⟨B, 3, none⟩ = false ∧ w1.frozen? ⟨B, 4, none⟩ = false := by
  simp [World.cell?, World.frozen?, h]

theorem four_blocks (w : World) (o1 o2 o3 o4 : Obj) : ((((w.alloc o1).alloc o2).alloc o3).alloc o4).drew.heap[w.heap.size]? = some o1 ∧ ((((w.alloc o1).alloc o2).alloc o3).alloc o4).drew.heap[w.heap.size + 1]? = some o2 ∧
    ((((w.alloc o1).alloc o2).alloc o3).alloc o4).drew.heap[w.heap.size + 1 + 1]? = some o3 ∧ ((((w.alloc o1).alloc o2).alloc o3).alloc o4).drew.heap[w.heap.size + 1 + 1 + 1]? = some o4 ∧ (∀ k, k < w.heap.size → ((((w.alloc o1).alloc o2).alloc o3).alloc o4).drew.heap[k]? = w.heap[k]?) ∧ ((((w.alloc o1).alloc o2).alloc o3).alloc o4).drew.heap.size = w.heap.size + 1 + 1 + 1 + 1 := by
  show ((((w.alloc o1).alloc o2).alloc o3).alloc o4).heap[w.heap.size]? = some o1 ∧ ((((w.alloc o1).alloc o2).alloc o3).alloc o4).heap[w.heap.size + 1]? = some o2 ∧
    ((((w.alloc o1).alloc o2).alloc o3).alloc o4).heap[w.heap.size + 1 + 1]? = some o3 ∧ ((((w.alloc o1).alloc o2).alloc o3).alloc o4).heap[w.heap.size + 1 + 1 + 1]? = some o4 ∧ (∀ k, k < w.heap.size → ((((w.alloc o1).alloc o2).alloc o3).alloc o4).heap[k]? = w.heap[k]?) ∧ ((((w.alloc o1).alloc o2).alloc o3).alloc o4).heap.size = w.heap.size + 1 + 1 + 1 + 1
  refine ⟨?_, ?_, ?_, ?_, fun k hk => ?_, by simp⟩
  · rw [Below.heap_alloc _ _ _ (by simp; omega), Below.heap_alloc _ _ _ (by simp; omega), Below.heap_alloc _ _ _ (by simp)]; exact alloc_at _ _
  · rw [Below.heap_alloc _ _ _ (by simp), Below.heap_alloc _ _ _ (by simp)]; exact alloc_at' _ _ (by simp)
  · rw [Below.heap_alloc _ _ _ (by simp)]; exact alloc_at' _ _ (by simp)
  · exact alloc_at' _ _ (by simp)
  · rw [Below.heap_alloc _ _ _ (by simp; omega), Below.heap_alloc _ _ _ (by simp; omega), Below.heap_alloc _ _ _ (by simp; omega), Below.heap_alloc _ _ _ hk]

/-- What Judge answers. -/
def JPost (n : Nat) (L : List (Int × Nat)) (w : World) (e : Ending) (w' : World) : Prop :=
  ∃ sp g, e = .returned (.tuple #[.agg #[.float .f64 (startOf n L), .float .f64 (gapOf n L), .float .f64 (meanOf n L), .float .f64 sp, .slice (some ⟨g, 0, none⟩) n n], .int .i64 0]) ∧ SqrtOf (varOf n L) sp ∧ FlsB w' g ((List.range n).map (bellMean n L)) ∧ w.heap.size ≤ g ∧ Below w.heap.size w w'

end Go.Proofs.Ytbhmhgkbobajfaa

/- Bounds: all that Judge works out is finite. -/
namespace Go.Proofs.Ytbhmhgkbobajfaa
open Go.RowKit
set_option maxRecDepth 20000
set_option linter.unusedVariables false

/-- x is finite, at most 2 ^ p without its sign. -/
def FB (x p : Nat) : Prop := ∃ v, FV x v ∧ v.natAbs ≤ 2 ^ (XP + p)

theorem FB.lt {x p : Nat} (h : FB x p) : x < 18446744073709551616 := by obtain ⟨v, h, _⟩ := h; exact FV.lt h

theorem FB.mono {x p q : Nat} (h : FB x p) (hp : p ≤ q) : FB x q := by
  obtain ⟨v, h1, h2⟩ := h
  exact ⟨v, h1, Nat.le_trans h2 (Nat.pow_le_pow_right (by decide) (by omega))⟩

theorem Rp_many (k p : Nat) (hk : k ≤ 9007199254740992) (hp : p ≤ 900) : Rp (k * 2 ^ (XP + p)) := ⟨k, XP + p, rfl, hk, by have := XP_eq; omega⟩

theorem two_more (p : Nat) : 2 ^ (XP + p) + 2 ^ (XP + p) = 1 * 2 ^ (XP + (p + 1)) := by
  rw [show XP + (p + 1) = XP + p + 1 from by omega, Nat.pow_succ]; omega

theorem FB.add {x y p : Nat} (hx : FB x p) (hy : FB y p) (hp : p ≤ 800) : FOk .add x y ∧ FB (fop .add x y) (p + 1) := by
  obtain ⟨a, h1, h2⟩ := hx
  obtain ⟨b, h3, h4⟩ := hy
  obtain ⟨r, v, h5, h6, h7⟩ := add_le h1 h3 h2 h4 (by rw [two_more]; exact Rp_many 1 (p + 1) (by decide) (by omega))
  obtain ⟨k1, k2⟩ := FOk.of (op := .add) (x := x) (y := y) h5
  refine ⟨k1, v, by rw [k2]; exact h6, ?_⟩
  rw [two_more, Nat.one_mul] at h7
  exact h7

theorem FB.sub {x y p : Nat} (hx : FB x p) (hy : FB y p) (hp : p ≤ 800) : FOk .sub x y ∧ FB (fop .sub x y) (p + 1) := by
  obtain ⟨a, h1, h2⟩ := hx
  obtain ⟨b, h3, h4⟩ := hy
  obtain ⟨r, v, h5, h6, h7⟩ := sub_le h1 h3 h2 h4 (by rw [two_more]; exact Rp_many 1 (p + 1) (by decide) (by omega))
  obtain ⟨k1, k2⟩ := FOk.of (op := .sub) (x := x) (y := y) h5
  refine ⟨k1, v, by rw [k2]; exact h6, ?_⟩
  rw [two_more, Nat.one_mul] at h7
  exact h7

theorem FB.mul {x y p q : Nat} (hx : FB x p) (hy : FB y q) (hp : p + q ≤ 800) : FOk .mul x y ∧ FB (fop .mul x y) (p + q) := by
  obtain ⟨a, h1, h2⟩ := hx
  obtain ⟨b, h3, h4⟩ := hy
  obtain ⟨r, v, h5, h6, h7⟩ := mul_le (C := 1 * 2 ^ (XP + (p + q))) h1 h3 (by
    refine Nat.le_trans (Nat.mul_le_mul h2 h4) ?_
    rw [Nat.one_mul]
    show _ ≤ 2 ^ (XP + (p + q)) * 2 ^ XP
    rw [← Nat.pow_add, ← Nat.pow_add]
    exact Nat.pow_le_pow_right (by decide) (by omega)) (Rp_many 1 (p + q) (by decide) (by omega))
  obtain ⟨k1, k2⟩ := FOk.of (op := .mul) (x := x) (y := y) h5
  rw [Nat.one_mul] at h7
  exact ⟨k1, v, by rw [k2]; exact h6, h7⟩

theorem FB.quo {x p : Nat} {d : Int} (hx : FB x p) (hd : 1 ≤ d) (hd2 : d.natAbs ≤ 9007199254740992) (hp : p ≤ 700) : FOk .quo x (fi d) ∧ FB (fop .quo x (fi d)) (p + 52) := by
  obtain ⟨a, h1, h2⟩ := hx
  have hy := FV_ofInt d hd2
  have hU := UU_pos
  obtain ⟨r, v, h5, h6, h7⟩ := div_le (C := 1 * 2 ^ (XP + (p + 52))) h1 hy (by
    have := Int.mul_le_mul_of_nonneg_right hd (show (0 : Int) ≤ (UU : Int) by omega)
    rw [Int.one_mul] at this
    exact this) (by
    rw [Nat.one_mul, show XP + (p + 52) = XP + p + 52 from by omega, Nat.pow_add 2 (XP + p) 52, show (2 : Nat) ^ 52 = 4503599627370496 from by decide]
    exact Nat.mul_le_mul_right _ h2) (Rp_many 1 (p + 52) (by decide) (by omega))
  obtain ⟨k1, k2⟩ := FOk.of (op := .quo) (x := x) (y := fi d) h5
  rw [Nat.one_mul] at h7
  exact ⟨k1, v, by rw [k2]; exact h6, h7⟩

theorem FB.fi (n : Int) (p : Nat) (h : n.natAbs ≤ 2 ^ p) (hp : p ≤ 53) : FB (fi n) p := by
  have hle : 2 ^ p ≤ 2 ^ 53 := Nat.pow_le_pow_right (by decide) hp
  refine ⟨n * (UU : Int), FV_ofInt n (by rw [show (9007199254740992 : Nat) = 2 ^ 53 from by decide]; omega), ?_⟩
  rw [Int.natAbs_mul, Int.natAbs_natCast, Nat.pow_add, Nat.mul_comm]
  exact Nat.mul_le_mul_left _ h

theorem FB.zero (p : Nat) : FB 0 p := ⟨0, FV_zero, by simp⟩

theorem FB.uns {x p : Nat} (h : FB x p) : FB (uns x) p := by
  unfold Go.Proofs.Ytbhmhgkbobajfaa.uns
  split
  · exact FB.zero p
  · exact h

theorem FB.abs {x p : Nat} (h : FB x p) : FB (fabs x) p := by
  obtain ⟨v, h1, h2⟩ := h
  exact ⟨_, FV_abs h1, by rw [Int.natAbs_natCast]; exact h2⟩

/-- A total of k numbers of at most 2 ^ p. -/
structure TBd (s : Nat × Nat) (k p : Nat) : Prop where
  all : ∃ v, FV s.1 v ∧ v.natAbs ≤ k * 2 ^ (XP + p)
  lost : ∃ v, FV s.2 v ∧ v.natAbs ≤ k * (k + 1) * 2 ^ (XP + p)

theorem TBd.zero (p : Nat) : TBd (0, 0) 0 p := ⟨⟨0, FV_zero, by simp⟩, ⟨0, FV_zero, by simp⟩⟩

theorem TBd.mono {s : Nat × Nat} {k j p : Nat} (h : TBd s k p) (hk : k ≤ j) : TBd s j p := by
  obtain ⟨⟨v, h1, h2⟩, ⟨u, h3, h4⟩⟩ := h
  exact ⟨⟨v, h1, Nat.le_trans h2 (Nat.mul_le_mul_right _ hk)⟩, ⟨u, h3, Nat.le_trans h4 (Nat.mul_le_mul_right _ (Nat.mul_le_mul hk (by omega)))⟩⟩

/-- Bounds that are so many times the same. -/
theorem add_many {x y k j p : Nat} (hx : ∃ v, FV x v ∧ v.natAbs ≤ k * 2 ^ (XP + p)) (hy : ∃ v, FV y v ∧ v.natAbs ≤ j * 2 ^ (XP + p)) (hk : k + j ≤ 9007199254740992) (hp : p ≤ 800) : FOk .add x y ∧ ∃ v, FV (fop .add x y) v ∧ v.natAbs ≤ (k + j) * 2 ^ (XP + p) := by
  obtain ⟨a, h1, h2⟩ := hx
  obtain ⟨b, h3, h4⟩ := hy
  obtain ⟨r, v, h5, h6, h7⟩ := add_le h1 h3 h2 h4 (by rw [← Nat.add_mul]; exact Rp_many _ p hk (by omega))
  obtain ⟨k1, k2⟩ := FOk.of (op := .add) (x := x) (y := y) h5
  exact ⟨k1, v, by rw [k2]; exact h6, by rw [Nat.add_mul]; exact h7⟩

theorem sub_many {x y k j p : Nat} (hx : ∃ v, FV x v ∧ v.natAbs ≤ k * 2 ^ (XP + p)) (hy : ∃ v, FV y v ∧ v.natAbs ≤ j * 2 ^ (XP + p)) (hk : k + j ≤ 9007199254740992) (hp : p ≤ 800) : FOk .sub x y ∧ ∃ v, FV (fop .sub x y) v ∧ v.natAbs ≤ (k + j) * 2 ^ (XP + p) := by
  obtain ⟨a, h1, h2⟩ := hx
  obtain ⟨b, h3, h4⟩ := hy
  obtain ⟨r, v, h5, h6, h7⟩ := sub_le h1 h3 h2 h4 (by rw [← Nat.add_mul]; exact Rp_many _ p hk (by omega))
  obtain ⟨k1, k2⟩ := FOk.of (op := .sub) (x := x) (y := y) h5
  exact ⟨k1, v, by rw [k2]; exact h6, by rw [Nat.add_mul]; exact h7⟩

theorem TBd.add {s : Nat × Nat} {k p x : Nat} (h : TBd s k p) (hx : FB x p) (hk : k ≤ 10000) (hp : p ≤ 800) : TOk s x ∧ TBd (tad s x) (k + 1) p := by
  have hx1 : ∃ v, FV x v ∧ v.natAbs ≤ 1 * 2 ^ (XP + p) := by obtain ⟨v, h1, h2⟩ := hx; exact ⟨v, h1, by rw [Nat.one_mul]; exact h2⟩
  have hkk : k * (k + 1) ≤ 10000 * 10001 := Nat.mul_le_mul hk (by omega)
  have e : (k + 1) * (k + 1 + 1) = k * (k + 1) + (2 * k + 2) := by
    simp only [Nat.mul_add, Nat.add_mul]; omega
  obtain ⟨k1, v1⟩ := add_many h.all hx1 (by omega) hp
  obtain ⟨k2, v2⟩ := sub_many h.all v1 (by omega) hp
  obtain ⟨k3, v3⟩ := add_many v2 hx1 (by omega) hp
  obtain ⟨k4, v4⟩ := add_many h.lost v3 (by omega) hp
  obtain ⟨k5, v5⟩ := sub_many hx1 v1 (by omega) hp
  obtain ⟨k6, v6⟩ := add_many v5 h.all (by omega) hp
  obtain ⟨k7, v7⟩ := add_many h.lost v6 (by omega) hp
  have hla : s.1 < 18446744073709551616 := by obtain ⟨v, h, _⟩ := h.all; exact FV.lt h
  refine ⟨⟨hla, hx.lt, k1, fun _ => ⟨k2, k3, k4⟩, fun _ => ⟨k5, k6, k7⟩⟩, ⟨v1, ?_⟩⟩
  rw [e]
  have e1 : k * (k + 1) + (k + (k + 1) + 1) = k * (k + 1) + (2 * k + 2) := by omega
  have e2 : k * (k + 1) + (1 + (k + 1) + k) = k * (k + 1) + (2 * k + 2) := by omega
  rw [e1] at v4
  rw [e2] at v7
  unfold tad
  dsimp only
  split
  · exact v4
  · exact v7

theorem TBd.sm {s : Nat × Nat} {k p : Nat} (h : TBd s k p) (hk : k ≤ 500) (hp : p ≤ 700) : FOk .add s.1 s.2 ∧ FB (sm s) (p + 18) := by
  have hkk : k * (k + 1) ≤ 500 * 501 := Nat.mul_le_mul hk (by omega)
  obtain ⟨k1, v, h1, h2⟩ := add_many h.all h.lost (by omega) (by omega)
  refine ⟨k1, v, h1, Nat.le_trans h2 ?_⟩
  rw [show XP + (p + 18) = 18 + (XP + p) from by omega, Nat.pow_add 2 18, show (2 : Nat) ^ 18 = 262144 from by decide]
  exact Nat.mul_le_mul_right _ (by omega)

end Go.Proofs.Ytbhmhgkbobajfaa

/- Floats that are whole numbers; blows that are in time, plain. -/
namespace Go.Proofs.Ytbhmhgkbobajfaa
open Go.RowKit
set_option maxRecDepth 20000
set_option linter.unusedVariables false

/-- x is this whole number. -/
def FI (x : Nat) (a : Int) : Prop := FV x (a * (UU : Int))

theorem natAbs_mul_UU (a : Int) : (a * (UU : Int)).natAbs = a.natAbs * UU := by rw [Int.natAbs_mul, Int.natAbs_natCast]

theorem FI.add {x y : Nat} {a b : Int} (hx : FI x a) (hy : FI y b) (h : (a + b).natAbs ≤ 9007199254740992) : FOk .add x y ∧ FI (fop .add x y) (a + b) := by
  have e : a * (UU : Int) + b * (UU : Int) = (a + b) * (UU : Int) := (Int.add_mul _ _ _).symm
  obtain ⟨r, h1, h2⟩ := add_eq hx hy (by rw [e, natAbs_mul_UU]; exact Rp_int _ h)
  obtain ⟨k1, k2⟩ := FOk.of (op := .add) (x := x) (y := y) h1
  rw [e] at h2
  exact ⟨k1, by rw [k2]; exact h2⟩

theorem FI.sub {x y : Nat} {a b : Int} (hx : FI x a) (hy : FI y b) (h : (a - b).natAbs ≤ 9007199254740992) : FOk .sub x y ∧ FI (fop .sub x y) (a - b) := by
  have e : a * (UU : Int) - b * (UU : Int) = (a - b) * (UU : Int) := (Int.sub_mul _ _ _).symm
  obtain ⟨r, h1, h2⟩ := sub_eq hx hy (by rw [e, natAbs_mul_UU]; exact Rp_int _ h)
  obtain ⟨k1, k2⟩ := FOk.of (op := .sub) (x := x) (y := y) h1
  rw [e] at h2
  exact ⟨k1, by rw [k2]; exact h2⟩

theorem FI.mul {x y : Nat} {a b : Int} (hx : FI x a) (hy : FI y b) (h : (a * b).natAbs ≤ 9007199254740992) : FOk .mul x y ∧ FI (fop .mul x y) (a * b) := by
  have e : a * (UU : Int) * (b * (UU : Int)) = a * b * (UU : Int) * (UU : Int) := by simp only [Int.mul_assoc, Int.mul_left_comm]
  obtain ⟨r, h1, h2⟩ := mul_eq hx hy e (by rw [natAbs_mul_UU]; exact Rp_int _ h)
  obtain ⟨k1, k2⟩ := FOk.of (op := .mul) (x := x) (y := y) h1
  exact ⟨k1, by rw [k2]; exact h2⟩

theorem FI.quo {x y : Nat} {c d : Int} (hx : FI x (c * d)) (hy : FI y d) (hd : d ≠ 0) (h : c.natAbs < 9007199254740992) : FOk .quo x y ∧ FI (fop .quo x y) c := by
  obtain ⟨r, h1, h2⟩ := div_eq hx hy hd h
  obtain ⟨k1, k2⟩ := FOk.of (op := .quo) (x := x) (y := y) h1
  exact ⟨k1, by rw [k2]; exact h2⟩

theorem FI.fi (n : Int) (h : n.natAbs ≤ 9007199254740992) : FI (fi n) n := FV_ofInt n h

theorem FI.zero : FI 0 0 := by unfold FI; rw [Int.zero_mul]; exact FV_zero

theorem FI.uns {x : Nat} {a : Int} (h : FI x a) : FI (uns x) a := by
  unfold Go.Proofs.Ytbhmhgkbobajfaa.uns
  split
  · rename_i h0
    have h1 := order_fv h FI.zero
    have h2 : FloatKind.f64.format.order x 0 = some (compare (a * (UU : Int)) (0 * (UU : Int))) := h1
    rw [h2, Int.zero_mul] at h0
    have h3 : compare (a * (UU : Int)) 0 = .eq := by simpa using h0
    have h4 := Int.compare_eq_eq.1 h3
    have hU := UU_pos
    have : a = 0 := by
      rcases Int.mul_eq_zero.1 h4 with h | h
      · exact h
      · omega
    subst this
    exact FI.zero
  · exact h

theorem FI.abs {x : Nat} {a : Int} (h : FI x a) : FI (fabs x) (a.natAbs : Int) := by
  have := FV_abs h
  rw [natAbs_mul_UU] at this
  unfold FI
  rw [← Int.natCast_mul]
  exact this

theorem FI.order {x y : Nat} {a : Int} (hx : FI x a) (hy : FI y a) : FloatKind.f64.format.order x y = some .eq := by
  have h : FloatKind.f64.format.order x y = some (compare (a * (UU : Int)) (a * (UU : Int))) := order_fv hx hy
  rw [h]
  congr 1
  exact Int.compare_eq_eq.2 rfl

/-- A total of whole numbers: nothing is lost. -/
structure TI (s : Nat × Nat) (a : Int) : Prop where
  all : FI s.1 a
  lost : FI s.2 0

theorem TI.zero : TI (0, 0) 0 := ⟨FI.zero, FI.zero⟩

theorem TI.add {s : Nat × Nat} {x : Nat} {a b : Int} (hs : TI s a) (hx : FI x b) (ha : a.natAbs ≤ 1000000000000000) (hb : b.natAbs ≤ 1000000000000000) : TOk s x ∧ TI (tad s x) (a + b) := by
  obtain ⟨k1, v1⟩ := hs.all.add hx (by omega)
  obtain ⟨k2, v2⟩ := hs.all.sub v1 (by omega)
  obtain ⟨k3, v3⟩ := v2.add hx (by omega)
  obtain ⟨k4, v4⟩ := hs.lost.add v3 (by omega)
  obtain ⟨k5, v5⟩ := hx.sub v1 (by omega)
  obtain ⟨k6, v6⟩ := v5.add hs.all (by omega)
  obtain ⟨k7, v7⟩ := hs.lost.add v6 (by omega)
  refine ⟨⟨FV.lt hs.all, FV.lt hx, k1, fun _ => ⟨k2, k3, k4⟩, fun _ => ⟨k5, k6, k7⟩⟩, ⟨v1, ?_⟩⟩
  have e1 : 0 + (a - (a + b) + b) = 0 := by omega
  have e2 : 0 + (b - (a + b) + a) = 0 := by omega
  rw [e1] at v4
  rw [e2] at v7
  unfold tad
  dsimp only
  split
  · exact v4
  · exact v7

theorem TI.sm {s : Nat × Nat} {a : Int} (hs : TI s a) (ha : a.natAbs ≤ 1000000000000000) : FOk .add s.1 s.2 ∧ FI (sm s) a := by
  obtain ⟨k1, v1⟩ := hs.all.add hs.lost (by omega)
  rw [Int.add_zero] at v1
  exact ⟨k1, v1⟩

/-- The sum of squares of how far the beats are from some number. -/
theorem sq_nonneg (n k : Nat) (c : Int) : 0 ≤ (Qn n k : Int) - 2 * c * (Xn n k : Int) + (k : Int) * (c * c) := by
  induction k with
  | zero => simp [Qn, Xn]
  | succ k ih =>
    simp only [Qn, Xn, Int.natCast_add, Int.natCast_mul]
    generalize (beatN n k : Int) = b
    generalize (Qn n k : Int) = q at *
    generalize (Xn n k : Int) = x at *
    generalize (k : Int) = kk at *
    have h : (q + b * b) - 2 * c * (x + b) + (kk + 1) * (c * c) = (q - 2 * c * x + kk * (c * c)) + (b - c) * (b - c) := by
      grind
    have h2 : 0 ≤ (b - c) * (b - c) := by
      rcases Int.le_total 0 (b - c) with h | h
      · exact Int.mul_nonneg h h
      · exact Int.mul_nonneg_of_nonpos_of_nonpos h h
    have h3 : ((1 : Nat) : Int) = 1 := rfl
    rw [h3, h]
    omega

/-- The divisor of the line. -/
def Dn (n k : Nat) : Int := (k : Int) * (Qn n k : Int) - (Xn n k : Int) * (Xn n k : Int)

theorem Dn_succ (n k : Nat) : Dn n k ≤ Dn n (k + 1) := by
  have h := sq_nonneg n k (beatN n k : Int)
  unfold Dn
  simp only [Qn, Xn, Int.natCast_add, Int.natCast_mul]
  generalize (beatN n k : Int) = b at *
  generalize (Qn n k : Int) = q at *
  generalize (Xn n k : Int) = x at *
  generalize (k : Int) = kk at *
  have h3 : ((1 : Nat) : Int) = 1 := rfl
  rw [h3]
  have e : (kk + 1) * (q + b * b) - (x + b) * (x + b) = kk * q - x * x + (q - 2 * b * x + kk * (b * b)) := by
    grind
  rw [e]
  omega

theorem Dn_pos (n k : Nat) (hn : 1 ≤ n) (hk : 2 ≤ k) : 1 ≤ Dn n k := by
  induction k with
  | zero => omega
  | succ k ih =>
    rcases Nat.lt_or_ge k 2 with h | h
    · obtain rfl : k = 1 := by omega
      have h1 : 1 / (2 * n) = 0 := Nat.div_eq_of_lt (by omega)
      simp [Dn, Qn, Xn, beatN, h1]
    · have := ih h
      have := Dn_succ n k
      omega

/-- Blows in time. -/
def inTime (n : Nat) (s g : Int) (m : Nat) : List (Int × Nat) := (List.range m).map (fun k => (((k % n : Nat) : Int), fi (s + g * (beatN n k : Int))))

theorem inTime_length (n : Nat) (s g : Int) (m : Nat) : (inTime n s g m).length = m := by simp [inTime]

theorem inTime_at {n : Nat} {s g : Int} {m k : Nat} (h : k < m) : (inTime n s g m).getD k (0, 0) = (((k % n : Nat) : Int), fi (s + g * (beatN n k : Int))) := by
  simp [inTime, List.getD, h]

theorem inTime_snoc (n : Nat) (s g : Int) (m : Nat) : inTime n s g (m + 1) = inTime n s g m ++ [(((m % n : Nat) : Int), fi (s + g * (beatN n m : Int)))] := by
  simp [inTime, List.range_succ]

theorem mul_le_of {a b : Int} {A B : Nat} (ha : a.natAbs ≤ A) (hb : b.natAbs ≤ B) : (a * b).natAbs ≤ A * B := by
  rw [Int.natAbs_mul]; exact Nat.mul_le_mul ha hb

/-- What is asked of the numbers. -/
structure InT (n : Nat) (s g : Int) (m : Nat) : Prop where
  n1 : 1 ≤ n
  n12 : n ≤ 12
  g0 : 0 ≤ g
  s : s.natAbs ≤ 100000
  g : g.natAbs ≤ 1000
  m2 : 2 ≤ m
  m3 : m ≤ 302

section
variable {n : Nat} {s g : Int} {m : Nat} (h : InT n s g m)
include h

theorem InT.beat {k : Nat} (hk : k < m) : beatN n k ≤ 604 := by
  have := beatN_le n k h.n1
  have := h.m3
  omega

theorem InT.X {k : Nat} (hk : k ≤ m) : Xn n k ≤ k * 604 := by
  induction k with
  | zero => simp [Xn]
  | succ k ih => have := ih (by omega); have := h.beat (k := k) (by omega); simp only [Xn]; omega

theorem InT.Q {k : Nat} (hk : k ≤ m) : Qn n k ≤ k * 364816 := by
  induction k with
  | zero => simp [Qn]
  | succ k ih =>
    have := ih (by omega)
    have h2 := h.beat (k := k) (by omega)
    have : beatN n k * beatN n k ≤ 604 * 604 := Nat.mul_le_mul h2 h2
    simp only [Qn]
    omega

theorem InT.timeB {k : Nat} (hk : k < m) : (s + g * (beatN n k : Int)).natAbs ≤ 704000 := by
  have h1 : (g * (beatN n k : Int)).natAbs ≤ 1000 * 604 := mul_le_of h.g (by have := h.beat hk; omega)
  have := h.s
  omega

theorem InT.time {k : Nat} (hk : k < m) : FI (timeAt (inTime n s g m) k) (s + g * (beatN n k : Int)) := by
  unfold timeAt
  rw [inTime_at hk]
  exact FI.fi _ (by have := h.timeB hk; omega)

theorem InT.prod {k : Nat} (hk : k < m) : FOk .mul (fi (beatN n k : Int)) (timeAt (inTime n s g m) k) ∧ FI (prodAt n (inTime n s g m) k) ((beatN n k : Int) * (s + g * (beatN n k : Int))) := by
  have hb := h.beat hk
  exact (FI.fi (beatN n k : Int) (by omega)).mul (h.time hk) (by have := mul_le_of (a := (beatN n k : Int)) (A := 604) (by omega) (h.timeB hk); omega)

theorem InT.tT {k : Nat} (hk : k ≤ m) : TI (tT (inTime n s g m) k) ((k : Int) * s + g * (Xn n k : Int)) ∧ ((k : Int) * s + g * (Xn n k : Int)).natAbs ≤ k * 704000 := by
  induction k with
  | zero => simp [Xn]; exact TI.zero
  | succ k ih =>
    obtain ⟨h1, h2⟩ := ih (by omega)
    have h3 := h.timeB (k := k) (by omega)
    have h4 := h.m3
    have e : ((k + 1 : Nat) : Int) * s + g * (Xn n (k + 1) : Int) = ((k : Int) * s + g * (Xn n k : Int)) + (s + g * (beatN n k : Int)) := by
      simp only [Xn, Int.natCast_add, Int.mul_add, Int.add_mul]
      rw [show ((1 : Nat) : Int) = 1 from rfl, Int.one_mul]
      omega
    rw [e]
    exact ⟨(h1.add (h.time (k := k) (by omega)) (by omega) (by omega)).2, by omega⟩

theorem InT.tU {k : Nat} (hk : k ≤ m) : TI (tU n (inTime n s g m) k) (s * (Xn n k : Int) + g * (Qn n k : Int)) ∧ (s * (Xn n k : Int) + g * (Qn n k : Int)).natAbs ≤ k * 425216000 := by
  induction k with
  | zero => simp [Xn, Qn]; exact TI.zero
  | succ k ih =>
    obtain ⟨h1, h2⟩ := ih (by omega)
    have h3 : ((beatN n k : Int) * (s + g * (beatN n k : Int))).natAbs ≤ 604 * 704000 := mul_le_of (by have := h.beat (k := k) (by omega); omega) (h.timeB (k := k) (by omega))
    have h4 := h.m3
    have e : s * (Xn n (k + 1) : Int) + g * (Qn n (k + 1) : Int) = (s * (Xn n k : Int) + g * (Qn n k : Int)) + ((beatN n k : Int) * (s + g * (beatN n k : Int))) := by
      simp only [Xn, Qn, Int.natCast_add, Int.natCast_mul, Int.mul_add]
      rw [Int.mul_comm (beatN n k : Int) s, Int.mul_left_comm (beatN n k : Int) g]
      omega
    rw [e]
    exact ⟨(h1.add (h.prod (k := k) (by omega)).2 (by omega) (by omega)).2, by omega⟩

/-- All of the line. -/
theorem InT.line : NOk n (inTime n s g m) ∧ FI (gapOf n (inTime n s g m)) g ∧ FI (startOf n (inTime n s g m)) s := by
  have hm := h.m3
  have hm2 := h.m2
  obtain ⟨t1, t2⟩ := h.tT (Nat.le_refl m)
  obtain ⟨u1, u2⟩ := h.tU (Nat.le_refl m)
  have hX := h.X (Nat.le_refl m)
  have hQ := h.Q (Nat.le_refl m)
  have ht2 : ((m : Int) * s + g * (Xn n m : Int)).natAbs ≤ 212608000 := by omega
  have hu2 : (s * (Xn n m : Int) + g * (Qn n m : Int)).natAbs ≤ 128415232000 := by omega
  clear t2 u2
  obtain ⟨kt, vt⟩ := t1.sm (by omega)
  obtain ⟨ku, vu⟩ := u1.sm (by omega)
  obtain ⟨ka, va⟩ := (FI.fi (m : Int) (by omega)).mul vu (by have := mul_le_of (a := (m : Int)) (A := 302) (by omega) hu2; omega)
  obtain ⟨kb, vb⟩ := (FI.fi (Xn n m : Int) (by omega)).mul vt (by have := mul_le_of (a := (Xn n m : Int)) (A := 182408) (by omega) ht2; omega)
  have hgs := h.g
  have hss := h.s
  have hD := Dn_pos n m h.n1 hm2
  have hDle : (Dn n m).natAbs ≤ 33272678464 := by
    have e1 : (m : Int) * (Qn n m : Int) ≤ 33272678464 := by
      have : m * Qn n m ≤ 302 * 110174432 := Nat.mul_le_mul hm (by omega)
      rw [← Int.natCast_mul]; omega
    have e2 : 0 ≤ (Xn n m : Int) * (Xn n m : Int) := by rw [← Int.natCast_mul]; omega
    unfold Dn at hD ⊢
    omega
  have eD : (m : Int) * (s * (Xn n m : Int) + g * (Qn n m : Int)) - (Xn n m : Int) * ((m : Int) * s + g * (Xn n m : Int)) = g * Dn n m := by
    unfold Dn
    generalize (Xn n m : Int) = X
    generalize (Qn n m : Int) = Q
    generalize (m : Int) = N
    grind
  obtain ⟨kc, vc⟩ := va.sub vb (by rw [eD]; have := mul_le_of hgs hDle; omega)
  rw [eD] at vc
  obtain ⟨kg, vg⟩ := vc.quo (FI.fi (Dn n m) (by omega)) (by omega) (by omega)
  have vG := vg.uns
  obtain ⟨kd, vd⟩ := vG.mul (FI.fi (Xn n m : Int) (by omega)) (by have := mul_le_of hgs (show (Xn n m : Int).natAbs ≤ 182408 by omega); omega)
  have eS : (m : Int) * s + g * (Xn n m : Int) - g * (Xn n m : Int) = s * (m : Int) := by rw [Int.mul_comm s]; omega
  have hsm : (s * (m : Int)).natAbs ≤ 100000 * 302 := mul_le_of hss (by omega)
  obtain ⟨ke, ve⟩ := vt.sub vd (by rw [eS]; omega)
  rw [eS] at ve
  obtain ⟨kf, vf⟩ := ve.quo (FI.fi (m : Int) (by omega)) (by omega) (by omega)
  have vS := vf.uns
  have hlen := inTime_length n s g m
  have eG : gapOf n (inTime n s g m) = uns (fop .quo (fop .sub (fop .mul (fi (m : Int)) (sm (Go.Proofs.Ytbhmhgkbobajfaa.tU n (inTime n s g m) m))) (fop .mul (fi (Xn n m : Int)) (sm (Go.Proofs.Ytbhmhgkbobajfaa.tT (inTime n s g m) m)))) (fi (Dn n m))) := by
    unfold gapOf gap0 Dn; rw [hlen]
  refine ⟨⟨?_, ?_, ?_, ?_, ?_, ?_, ?_, ?_, ?_, ?_, ?_, ?_⟩, ?_, ?_⟩
  · intro k hk
    rw [hlen] at hk
    obtain ⟨h1, h2⟩ := h.tT (Nat.le_of_lt hk)
    exact (h1.add (h.time hk) (by omega) (by have := h.timeB hk; omega)).1
  · intro k hk
    rw [hlen] at hk
    exact (h.prod hk).1
  · intro k hk
    rw [hlen] at hk
    obtain ⟨h1, h2⟩ := h.tU (Nat.le_of_lt hk)
    exact (h1.add (h.prod hk).2 (by omega) (by have := mul_le_of (a := (beatN n k : Int)) (A := 604) (by have := h.beat hk; omega) (h.timeB hk); omega)).1
  · rw [hlen]; exact kt
  · rw [hlen]; exact ku
  · rw [hlen]; exact ka
  · rw [hlen]; exact kb
  · rw [hlen]; exact kc
  · rw [hlen]; exact kg
  · rw [hlen, eG]; exact kd
  · rw [hlen, eG]; exact ke
  · rw [hlen, eG]; exact kf
  · rw [eG]; exact vG
  · have : startOf n (inTime n s g m) = uns (fop .quo (fop .sub (sm (Go.Proofs.Ytbhmhgkbobajfaa.tT (inTime n s g m) m)) (fop .mul (gapOf n (inTime n s g m)) (fi (Xn n m : Int)))) (fi (m : Int))) := by
      unfold startOf start0; rw [hlen]
    rw [this, eG]
    exact vS

end
end Go.Proofs.Ytbhmhgkbobajfaa
