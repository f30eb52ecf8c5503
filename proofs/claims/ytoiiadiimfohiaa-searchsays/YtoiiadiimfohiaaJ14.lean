/- Joined: SbC, SbE, SbG, SbH, SbD. -/
import Derived.Test.YtoiiadiimfohiaaJ13
import Derived.Test.YtoiiadiimfohiaaJ0
import Derived.Test.YtoiiadiimfohiaaJ9
import Derived.Test.YtoiiadiimfohiaaJ12
import Derived.Test.YtoiiadiimfohiaaJ5
import Derived.BigQuiet
import Derived.Deep.RegionHeld3
import Derived.Deep.Cut
import Derived.Test.YtoiiadiimfohiaaJ3
import Derived.Test.YtoiiadiimfohiaaJ6
import Derived.Test.YtoiiadiimfohiaaJ2
/- Contract: the answer's IsName. -/
namespace Go.Proofs.Ytoiiadiimfohiaa
open Go.RowKit
set_option maxRecDepth 20000
set_option linter.unusedVariables false

/-- A rune that may stand in a name. -/
def okR (c : Int) : Bool := decide ((65 ≤ c ∧ c ≤ 90) ∨ (97 ≤ c ∧ c ≤ 122) ∨ (48 ≤ c ∧ c ≤ 57) ∨ c = 32 ∨ (192 ≤ c ∧ c ≤ 382 ∧ c ≠ 215 ∧ c ≠ 247))

/-- A name, by its runes. -/
def isN (l : List Int) : Bool := decide (1 ≤ l.length ∧ l.length ≤ 20 ∧ l.getD 0 0 ≠ 32 ∧ l.getD (l.length - 1) 0 ≠ 32) && l.all okR

theorem isN_bad {l : List Int} {k : Nat} (hk : k < l.length) (h : okR (l.getD k 0) = false) : isN l = false := by
  unfold isN
  have : l.all okR = false := by
    rw [List.all_eq_false]
    refine ⟨l[k], List.getElem_mem hk, ?_⟩
    have e : l.getD k 0 = l[k] := by simp [List.getD, hk]
    rw [e] at h
    simp [h]
  rw [this, Bool.and_false]

theorem isN_good {l : List Int} (h1 : 1 ≤ l.length ∧ l.length ≤ 20 ∧ l.getD 0 0 ≠ 32 ∧ l.getD (l.length - 1) 0 ≠ 32) (h : ∀ k, k < l.length → okR (l.getD k 0) = true) : isN l = true := by
  unfold isN
  rw [decide_eq_true h1, Bool.true_and, List.all_eq_true]
  intro x hx
  obtain ⟨k, hk, rfl⟩ := List.getElem_of_mem hx
  have := h k hk
  have e : l.getD k 0 = l[k] := by simp [List.getD, hk]
  rw [e] at this
  exact this

theorem isN_form {l : List Int} (h1 : ¬ (1 ≤ l.length ∧ l.length ≤ 20 ∧ l.getD 0 0 ≠ 32 ∧ l.getD (l.length - 1) 0 ≠ 32)) : isN l = false := by
  unfold isN
  rw [decide_eq_false h1, Bool.false_and]

set_option maxHeartbeats 8000000 in
theorem isName_any (s : ByteArray) (w : World) (hs : s.size ≤ 1048576) :
    Calls Try.prog 35 #[.string s] w fun e w' => e = .returned (.bool (isN (arunes s))) ∧ Below w.heap.size w w' := by
  have HR := hide (runes_any s w hs)
  generalize arunes s = l at *
  by_cases hl0 : l.length = 0
  · have HN : Hid (isN l = false) := isN_form (by omega)
    rw [HN.out]
    go_enter Try.func35, Try.ntmps35
    go_wp2_with fail
    refine HR.out.mono ?_
    rintro e w1 ⟨v, rfl, hown, hb1⟩
    obtain ⟨p, c, rfl⟩ : ∃ p c, v = .slice p 0 c := by
      rw [hl0] at hown
      rcases hown.2 with ⟨e, _⟩ | ⟨g, c, cur, e, _⟩
      · exact ⟨_, _, e⟩
      · exact ⟨_, _, e⟩
    clear hown
    go_wp2
    go_ret
    exact ⟨rfl, hb1⟩
  · by_cases hl20 : 20 < l.length
    · have HN : Hid (isN l = false) := isN_form (by omega)
      rw [HN.out]
      obtain ⟨m, hm⟩ : ∃ m, Hid (l.length = m) := ⟨_, rfl⟩
      go_enter Try.func35, Try.ntmps35
      go_wp2_with fail
      refine HR.out.mono ?_
      rintro e w1 ⟨v, rfl, hown, hb1⟩
      obtain ⟨g, c, rfl, hg1, hg2, hc1, hc2⟩ := owns_form hown (by omega)
      clear hown
      have hm2 : 20 < m := by rw [← hm.out]; exact hl20
      rw [hm.out] at *
      have hm3 : m ≤ 9223372036854775807 := by omega
      go_wp2
      go_ret
      exact ⟨rfl, hb1⟩
    · obtain ⟨m, hm⟩ : ∃ m, Hid (l.length = m) := ⟨_, rfl⟩
      have hm1 : 1 ≤ m := by rw [← hm.out]; omega
      have hm2 : m ≤ 20 := by rw [← hm.out]; omega
      obtain ⟨km, hkm⟩ : ∃ km, m = km + 1 := ⟨m - 1, by omega⟩
      obtain ⟨x0, hx0⟩ : ∃ y, Hid (l.getD 0 0 = y) := ⟨_, rfl⟩
      obtain ⟨x9, hx9⟩ : ∃ y, Hid (l.getD (l.length - 1) 0 = y) := ⟨_, rfl⟩
      have HB := fun k (hk : k < m) (h : okR (l.getD k 0) = false) => hide (isN_bad (l := l) (k := k) (by rw [hm.out]; exact hk) h)
      have HF := fun (h1 : ¬ (x0 ≠ 32 ∧ x9 ≠ 32)) => hide (isN_form (l := l) (by rw [hx0.out, hx9.out]; exact fun e => h1 e.2.2))
      have HG := fun (h1 : x0 ≠ 32 ∧ x9 ≠ 32) (h : ∀ k, k < m → okR (l.getD k 0) = true) => hide (isN_good (l := l) ⟨by rw [hm.out]; exact hm1, by rw [hm.out]; exact hm2, by rw [hx0.out]; exact h1.1, by rw [hx9.out]; exact h1.2⟩ (by rw [hm.out]; exact h))
      generalize isN l = R at *
      go_enter Try.func35, Try.ntmps35
      go_wp2_with fail
      refine HR.out.mono ?_
      rintro e w1 ⟨v, rfl, hown, hb1⟩
      rw [hm.out] at hown
      obtain ⟨g, c, rfl, hg1, hg2, hc1, hc2⟩ := owns_form hown (by omega)
      have HC : Hid (∀ j, j < m → w1.cell? ⟨g, j, none⟩ = some (.int .i64 (l.getD j 0))) := fun j hj => (owns_cell hown hj).1
      have c0 : w1.cell? ⟨g, 0, none⟩ = some (.int .i64 x0) := by rw [HC.out 0 (by omega), hx0.out]
      have c9 : w1.cell? ⟨g, km, none⟩ = some (.int .i64 x9) := by rw [HC.out km (by omega), ← hx9.out, hm.out, hkm]; rfl
      clear hown HR
      by_cases h0 : x0 = 32
      · have HF := HF (fun e => e.1 h0)
        subst hkm
        go_wp2
        go_ret
        exact ⟨by rw [HF.out]; rfl, hb1⟩
      · by_cases h9 : x9 = 32
        · have HF := HF (fun e => e.2 h9)
          subst hkm
          go_wp2
          go_ret
          exact ⟨by rw [HF.out]; rfl, hb1⟩
        · have HG := HG ⟨h0, h9⟩
          clear HF
          have b0 : (x0 == 32) = false := by simpa using h0
          have b9 : (x9 == 32) = false := by simpa using h9
          subst hkm
          go_wp2
          go_loop [4] (fun i => ∃ k : Nat, k ≤ km + 1 ∧ i = .int .i64 k ∧ Hid (∀ j, j < k → okR (l.getD j 0) = true)) (fun i => km + 1 - (intOf i).toNat)
          case atStart => exact ⟨0, by omega, rfl, fun j hj => absurd hj (Nat.not_lt_zero j)⟩
          case round =>
            obtain ⟨k, hk, rfl, hi⟩ := hrel
            clear c0 c9 h0 h9 b0 b9
            by_cases hlt : k < km + 1
            · have hcx := HC.out k hlt
              have HBk := HB k hlt
              have HK : okR (l.getD k 0) = true → Hid (∀ j, j < k + 1 → okR (l.getD j 0) = true) := fun h j hj => by
                rcases Nat.lt_or_ge j k with h1 | h1
                · exact hi.out j h1
                · rw [show j = k by omega]; exact h
              generalize l.getD k 0 = x at *
              clear HG HB HC hx0 hx9
              by_cases d0 : 65 ≤ x ∧ x ≤ 90
              · have e0 : 65 ≤ x := by omega
                have e1 : x ≤ 90 := by omega
                have hp := HK (by unfold okR; exact decide_eq_true (by omega))
                clear HK HBk hi d0
                go_wp2
                go_round
                case rel => exact ⟨k + 1, by omega, by go_num, hp⟩
                case measure => simp [intOf]; omega
              by_cases d1 : 97 ≤ x ∧ x ≤ 122
              · have e0 : 65 ≤ x := by omega
                have e1 : ¬ x ≤ 90 := by omega
                have e2 : 97 ≤ x := by omega
                have e3 : x ≤ 122 := by omega
                have hp := HK (by unfold okR; exact decide_eq_true (by omega))
                clear HK HBk hi d0 d1
                go_wp2
                go_round
                case rel => exact ⟨k + 1, by omega, by go_num, hp⟩
                case measure => simp [intOf]; omega
              by_cases d2 : 122 < x ∧ x < 192
              · have e0 : 65 ≤ x := by omega
                have e1 : ¬ x ≤ 90 := by omega
                have e2 : 97 ≤ x := by omega
                have e3 : ¬ x ≤ 122 := by omega
                have e4 : 48 ≤ x := by omega
                have e5 : ¬ x ≤ 57 := by omega
                have e6 : (x == 32) = false := by simp; omega
                have e7 : x < 192 := by omega
                have hp := HBk (by unfold okR; exact decide_eq_false (by omega))
                clear HK HBk hi d0 d1 d2
                go_wp2
                go_ret
                exact ⟨ret_bool hp.out.symm, hb1⟩
              by_cases d3 : 382 < x
              · have e0 : 65 ≤ x := by omega
                have e1 : ¬ x ≤ 90 := by omega
                have e2 : 97 ≤ x := by omega
                have e3 : ¬ x ≤ 122 := by omega
                have e4 : 48 ≤ x := by omega
                have e5 : ¬ x ≤ 57 := by omega
                have e6 : (x == 32) = false := by simp; omega
                have e7 : ¬ x < 192 := by omega
                have e8 : 382 < x := by omega
                have hp := HBk (by unfold okR; exact decide_eq_false (by omega))
                clear HK HBk hi d0 d1 d2 d3
                go_wp2
                go_ret
                exact ⟨ret_bool hp.out.symm, hb1⟩
              by_cases d4 : x = 215
              · have e0 : 65 ≤ x := by omega
                have e1 : ¬ x ≤ 90 := by omega
                have e2 : 97 ≤ x := by omega
                have e3 : ¬ x ≤ 122 := by omega
                have e4 : 48 ≤ x := by omega
                have e5 : ¬ x ≤ 57 := by omega
                have e6 : (x == 32) = false := by simp; omega
                have e7 : ¬ x < 192 := by omega
                have e8 : ¬ 382 < x := by omega
                have e9 : (x == 215) = true := by simp; omega
                have hp := HBk (by unfold okR; exact decide_eq_false (by omega))
                clear HK HBk hi d0 d1 d2 d3 d4
                go_wp2
                go_ret
                exact ⟨ret_bool hp.out.symm, hb1⟩
              by_cases d5 : x = 247
              · have e0 : 65 ≤ x := by omega
                have e1 : ¬ x ≤ 90 := by omega
                have e2 : 97 ≤ x := by omega
                have e3 : ¬ x ≤ 122 := by omega
                have e4 : 48 ≤ x := by omega
                have e5 : ¬ x ≤ 57 := by omega
                have e6 : (x == 32) = false := by simp; omega
                have e7 : ¬ x < 192 := by omega
                have e8 : ¬ 382 < x := by omega
                have e9 : (x == 215) = false := by simp; omega
                have e10 : (x == 247) = true := by simp; omega
                have hp := HBk (by unfold okR; exact decide_eq_false (by omega))
                clear HK HBk hi d0 d1 d2 d3 d4 d5
                go_wp2
                go_ret
                exact ⟨ret_bool hp.out.symm, hb1⟩
              by_cases d6 : 192 ≤ x
              · have e0 : 65 ≤ x := by omega
                have e1 : ¬ x ≤ 90 := by omega
                have e2 : 97 ≤ x := by omega
                have e3 : ¬ x ≤ 122 := by omega
                have e4 : 48 ≤ x := by omega
                have e5 : ¬ x ≤ 57 := by omega
                have e6 : (x == 32) = false := by simp; omega
                have e7 : ¬ x < 192 := by omega
                have e8 : ¬ 382 < x := by omega
                have e9 : (x == 215) = false := by simp; omega
                have e10 : (x == 247) = false := by simp; omega
                have hp := HK (by unfold okR; exact decide_eq_true (by omega))
                clear HK HBk hi d0 d1 d2 d3 d4 d5 d6
                go_wp2
                go_round
                case rel => exact ⟨k + 1, by omega, by go_num, hp⟩
                case measure => simp [intOf]; omega
              by_cases d7 : 90 < x
              · have e0 : 65 ≤ x := by omega
                have e1 : ¬ x ≤ 90 := by omega
                have e2 : ¬ 97 ≤ x := by omega
                have e3 : 48 ≤ x := by omega
                have e4 : ¬ x ≤ 57 := by omega
                have e5 : (x == 32) = false := by simp; omega
                have e6 : x < 192 := by omega
                have hp := HBk (by unfold okR; exact decide_eq_false (by omega))
                clear HK HBk hi d0 d1 d2 d3 d4 d5 d6 d7
                go_wp2
                go_ret
                exact ⟨ret_bool hp.out.symm, hb1⟩
              by_cases d8 : 48 ≤ x ∧ x ≤ 57
              · have e0 : ¬ 65 ≤ x := by omega
                have e1 : ¬ 97 ≤ x := by omega
                have e2 : 48 ≤ x := by omega
                have e3 : x ≤ 57 := by omega
                have hp := HK (by unfold okR; exact decide_eq_true (by omega))
                clear HK HBk hi d0 d1 d2 d3 d4 d5 d6 d7 d8
                go_wp2
                go_round
                case rel => exact ⟨k + 1, by omega, by go_num, hp⟩
                case measure => simp [intOf]; omega
              by_cases d9 : 48 ≤ x
              · have e0 : ¬ 65 ≤ x := by omega
                have e1 : ¬ 97 ≤ x := by omega
                have e2 : 48 ≤ x := by omega
                have e3 : ¬ x ≤ 57 := by omega
                have e4 : (x == 32) = false := by simp; omega
                have e5 : x < 192 := by omega
                have hp := HBk (by unfold okR; exact decide_eq_false (by omega))
                clear HK HBk hi d0 d1 d2 d3 d4 d5 d6 d7 d8 d9
                go_wp2
                go_ret
                exact ⟨ret_bool hp.out.symm, hb1⟩
              by_cases d10 : x = 32
              · have e0 : ¬ 65 ≤ x := by omega
                have e1 : ¬ 97 ≤ x := by omega
                have e2 : ¬ 48 ≤ x := by omega
                have e3 : (x == 32) = true := by simp; omega
                have hp := HK (by unfold okR; exact decide_eq_true (by omega))
                clear HK HBk hi d0 d1 d2 d3 d4 d5 d6 d7 d8 d9 d10
                go_wp2
                go_round
                case rel => exact ⟨k + 1, by omega, by go_num, hp⟩
                case measure => simp [intOf]; omega
              have e0 : ¬ 65 ≤ x := by omega
              have e1 : ¬ 97 ≤ x := by omega
              have e2 : ¬ 48 ≤ x := by omega
              have e3 : (x == 32) = false := by simp; omega
              have e4 : x < 192 := by omega
              have hp := HBk (by unfold okR; exact decide_eq_false (by omega))
              clear HK HBk hi d0 d1 d2 d3 d4 d5 d6 d7 d8 d9 d10
              go_wp2
              go_ret
              exact ⟨ret_bool hp.out.symm, hb1⟩
            · have hp := HG (fun j hj => hi.out j (by omega))
              clear HG HB HC hi hx0 hx9
              go_wp2
              go_ret
              exact ⟨ret_bool hp.out.symm, hb1⟩

end Go.Proofs.Ytoiiadiimfohiaa

/- Contract: the answer's MethodMay, at a method that may be. -/
namespace Go.Proofs.Ytoiiadiimfohiaa
open Go.RowKit
set_option maxRecDepth 20000
set_option linter.unusedVariables false

/-- A method's cells, as a parameter is boxed. -/
abbrev mbox (s : ByteArray) (n : Int) (v : Value) : Obj := .cells #[.string s, .int .i64 n, v] 24

theorem mbox_cells (w : World) (s : ByteArray) (n : Int) (v : Value) : (w.alloc (mbox s n v)).cell? ⟨w.heap.size, 0, none⟩ = some (.string s) ∧ (w.alloc (mbox s n v)).cell? ⟨w.heap.size, 1, none⟩ = some (.int .i64 n) ∧ (w.alloc (mbox s n v)).cell? ⟨w.heap.size, 2, none⟩ = some v := by
  have h : (w.alloc (mbox s n v)).heap[w.heap.size]? = some (mbox s n v) := heap_alloc_new w _
  unfold World.cell?
  rw [h]
  exact ⟨rfl, rfl, rfl⟩

set_option maxHeartbeats 4000000 in
theorem rmay_ok (s : ByteArray) (n : Nat) (vp : Option Addr) (vc : Nat) (X : List (List Int)) (w : World) (hs : s.size ≤ 1048576) (hn : isN (arunes s) = true) (h1 : 2 ≤ n) (h2 : n ≤ 12) (hl1 : 1 ≤ X.length) (hl2 : X.length ≤ 200) (hv : IntsAll w (.slice vp X.length vc) X) (hX : ∀ x, x ∈ X → pc n x = 0) :
    Calls Try.prog 12 #[.agg #[.string s, .int .i64 n, .slice vp X.length vc]] w fun e w' => e = .returned (.int .i64 0) ∧ Below w.heap.size w w' := by
  obtain ⟨b, off, cap, hve, hbl, hc1, hc2, hcell⟩ := hv.cell (by omega)
  injection hve with e1 e2 e3
  subst e1; subst e3
  obtain ⟨m, hm⟩ : ∃ m, Hid (X.length = m) := ⟨_, rfl⟩
  rw [hm.out] at hc1 hl1 hl2 hcell ⊢
  have HCE := hide hcell
  have HX := hide hX
  have HB0 := hide ((Below.refl w.heap.size w).alloc (Nat.le_refl _) (mbox s n (.slice (some ⟨b, off, none⟩) m vc)))
  have HIN := hide (isName_any s (w.alloc (mbox s n (.slice (some ⟨b, off, none⟩) m vc))) hs)
  rw [hn] at HIN
  have HM := hide (mbox_cells w s n (.slice (some ⟨b, off, none⟩) m vc))
  obtain ⟨d0, d1, d2⟩ := HM.out
  clear hcell hv hX hn e2
  go_enter Try.func12, Try.ntmps12
  go_wp2_with fail
  refine HIN.out.mono ?_
  rintro e w1 ⟨rfl, hb1⟩
  have k1 : w1.cell? ⟨w.heap.size, 1, none⟩ = some (.int .i64 n) := by rw [hb1.cell (p := ⟨w.heap.size, 1, none⟩) (by simp)]; exact d1
  have k2 : w1.cell? ⟨w.heap.size, 2, none⟩ = some (.slice (some ⟨b, off, none⟩) m vc) := by rw [hb1.cell (p := ⟨w.heap.size, 2, none⟩) (by simp)]; exact d2
  have HB1 := hide (HB0.out.trans (hb1.mono HB0.out.size))
  clear hb1 HB0 HIN HM d0 d1 d2
  have g1 : ¬ (n : Int) < 2 := by omega
  have g2 : ¬ 12 < (n : Int) := by omega
  have g3 : ¬ (m : Int) < 1 := by omega
  have g4 : ¬ 200 < (m : Int) := by omega
  go_wp2
  go_loopw [4] (fun i wr => ∃ k : Nat, k ≤ m ∧ i = .int .i64 k ∧ Hid (Below w.heap.size w wr) ∧ wr.cell? ⟨w.heap.size, 1, none⟩ = some (.int .i64 n) ∧ wr.cell? ⟨w.heap.size, 2, none⟩ = some (.slice (some ⟨b, off, none⟩) m vc)) (fun i _ => m - (intOf i).toNat)
  case atStart => exact ⟨0, by omega, rfl, HB1, k1, k2⟩
  case round =>
    obtain ⟨k, hk, rfl, hbw, k1, k2⟩ := hrel
    by_cases hlt : k < m
    · have hkX : k < X.length := by rw [hm.out]; exact hlt
      obtain ⟨p, c, hcx, hix⟩ := HCE.out k hlt
      have gx := (hbw.out.cell (p := ⟨b, off + k, none⟩) (by exact hbl)).trans hcx
      have hz := HX.out (X.getD k []) (by simp [List.getD, hkX])
      have HC := hide (fun (W : World) (hW : Below w.heap.size w W) => changeMay_all n (.slice p (X.getD k []).length c) (X.getD k []) W (hix.out.below hW))
      rw [hz] at HC
      generalize (X.getD k []).length = pl at *
      have HC2 : ∀ W : World, Below w.heap.size w W → Calls Try.prog 36 #[.int .i64 n, .slice p pl c] W fun e w' => e = .returned (.int .i64 0) ∧ W = w' := HC.out
      clear hcx hix HC hz
      go_wp2_with fail
      go_quiet ((go_at_call 36; exact Calls.quiet_of_same ((HC2 _ (below_drewN hbw.out _)).mono (fun e wq h => ⟨h.1, h.2.symm⟩))))
      have HB3 := hide (below_drewN hbw.out nq)
      have k1' : (wr.drewN nq).cell? ⟨w.heap.size, 1, none⟩ = some (.int .i64 n) := k1
      have k2' : (wr.drewN nq).cell? ⟨w.heap.size, 2, none⟩ = some (.slice (some ⟨b, off, none⟩) m vc) := k2
      generalize wr.drewN nq = w3 at *
      clear k1 k2 hbw gx HC2
      go_wp2
      go_roundw
      case rel => exact ⟨k + 1, by omega, by go_num, HB3, k1', k2'⟩
      case measure => simp [intOf]; omega
    · go_wp2
      go_ret
      exact ⟨rfl, hbw.out⟩

end Go.Proofs.Ytoiiadiimfohiaa

/- Contract: the answer's TouchRows, the walk. -/
namespace Go.Proofs.Ytoiiadiimfohiaa
open Go.RowKit
set_option maxRecDepth 20000
set_option linter.unusedVariables false

/-- What TouchRows hands back. -/
def TRPost (L : List (List Int)) (w : World) (e : Ending) (w' : World) : Prop := ∃ v vs, e = .returned v ∧ LL w' w.heap.size v vs L ∧ Below w.heap.size w w'

theorem Vals.drop1 {w : World} {b c m : Nat} {vs : List Value} (h : Vals w (.slice (some ⟨b, 0, none⟩) (m + 1) c) vs) (hm : 1 ≤ m) : Vals w (.slice (some ⟨b, 1, none⟩) m (c - 1)) (vs.drop 1) := by
  rcases h with ⟨rfl, p', c', e⟩ | ⟨b', off, cap, e, h0, h1, h2, h3, hc⟩
  · injection e with _ e2 _; omega
  · injection e with e1 e2 e3
    injection e1 with e1
    injection e1 with e4 e5 _
    subst e4; subst e5; subst e3
    have hl : (vs.drop 1).length = m := by rw [List.length_drop]; omega
    refine Or.inr ⟨b, 1, c - 1, by rw [hl], by omega, by omega, by omega, h3, fun j hj => ?_⟩
    rw [hl] at hj
    have := hc (1 + j) (by omega)
    rw [Nat.zero_add] at this
    rw [this]
    simp [List.getD, Nat.add_comm]

set_option maxHeartbeats 16000000 in
theorem rtouch_ok (s : ByteArray) (n : Nat) (vp : Option Addr) (vc : Nat) (ts : List (List Bool)) (cv : Value) (cs : List (Int × List (List Int))) (SS : List (List (List Bool))) (lv : Value) (t : List Nat) (w : World) (h1 : 1 ≤ n) (h12 : n ≤ 12) (hl1 : 1 ≤ ts.length) (hl2 : ts.length ≤ 200)
    (hts : ∀ t, t ∈ ts → tsz t = n) (hv : IntsAll w (.slice vp ts.length vc) (ts.map tpl)) (hcv : CallsAt w cv cs) (hSS : ∀ c, c < cs.length → (cs.getD c (0, [])).2 = (SS.getD c []).map tpl ∧ (∀ t, t ∈ SS.getD c [] → tsz t = n) ∧ (SS.getD c []).length ≤ ts.length)
    (hI : Ints w lv (nI t)) (ht : t.length ≤ 60) (hin : ∀ c, c ∈ t → c < cs.length) :
    Calls Try.prog 16 #[.agg #[.string s, .int .i64 n, .slice vp ts.length vc], cv, lv] w (TRPost (leadTo n (allOf ts SS (nI t)) (t.length * ts.length)) w) := by
  obtain ⟨i0, hi, hz0, hz1, hz2⟩ := info_parts Try.info26
  obtain ⟨K, hK⟩ : ∃ K, Hid (ts.length = K) := ⟨_, rfl⟩
  obtain ⟨T, hT⟩ : ∃ T, Hid (t.length = T) := ⟨_, rfl⟩
  have hK1 : 1 ≤ K := by rw [← hK.out]; exact hl1
  have hK2 : K ≤ 200 := by rw [← hK.out]; exact hl2
  have hT2 : T ≤ 60 := by rw [← hT.out]; exact ht
  obtain ⟨cb, co, cc, hce, hcb, hcc1, hcc2, hcr⟩ := hcv
  subst hce
  obtain ⟨lp, lc, rfl⟩ : ∃ lp lc, lv = .slice lp T lc := by
    obtain ⟨p, c, e⟩ := hI.form
    rw [show (nI t).length = T from by simp [nI]; exact hT.out] at e
    exact ⟨p, c, e⟩
  have HI := hide hI
  have HIN := hide hin
  have HSS := hide hSS
  have HCR := hide hcr
  have HV := hide hv
  have HTS := hide hts
  obtain ⟨C, hC⟩ : ∃ C, Hid (cs.length = C) := ⟨_, rfl⟩
  rw [hK.out] at HV ⊢
  rw [hT.out]
  rw [hC.out] at hcc1
  have HB0 := hide ((Below.refl w.heap.size w).alloc (Nat.le_refl _) (mbox s n (.slice vp K vc)))
  have hM0 : (w.alloc (mbox s n (.slice vp K vc))).heap[w.heap.size]? = some (mbox s n (.slice vp K vc)) := heap_alloc_new w _
  obtain ⟨d0, d1, d2⟩ := mbox_cells w s n (.slice vp K vc)
  have HRO := hide (rrounds_ok n (w.alloc (mbox s n (.slice vp K vc))) (by omega))
  rw [hC.out]
  clear hI hin hSS hcr hv hts hl1 hl2 ht
  go_enter Try.func16, Try.ntmps16
  go_wp2_with fail
  refine HRO.out.mono ?_
  rintro e w1 ⟨v1, rfl, hown1, hb1⟩
  obtain ⟨g0, rc0, rfl, _, _, _, _⟩ := owns_form hown1 (by omega)
  have hs1 : w.heap.size + 1 ≤ w1.heap.size := by have := hb1.size; simpa using this
  have hM1 := hide ((hb1.block w.heap.size (by simp)).trans hM0)
  have HB1 := hide (HB0.out.trans (hb1.mono HB0.out.size))
  have hown1' : w1.ownsRow (w.heap.size + 1) 3 1 (.slice (some ⟨g0, 0, none⟩) n rc0) (rnd n).length ((rnd n).map (Value.int .i64)) := by
    rw [rnd_length]
    simpa using hown1
  have HL1 := hide (LL.one (base := w.heap.size + 1) hown1' hs1)
  have HM2 := hide ((Below.heap_alloc w1 (.cells #[.slice (some ⟨g0, 0, none⟩) n rc0] 26) w.heap.size (by omega)).trans hM1.out)
  have HB2 := hide (HB1.out.alloc (by omega) (.cells #[.slice (some ⟨g0, 0, none⟩) n rc0] 26))
  have hs2 : w.heap.size + 1 ≤ (w1.alloc (.cells #[.slice (some ⟨g0, 0, none⟩) n rc0] 26)).heap.size := by simp; omega
  clear hown1 hown1' hb1 hM1 HB1 HRO hM0 d0 d1 d2 HB0
  go_wp2
  go_loopw [7, 8] (fun ov i wr => ∃ (k : Nat) (vs : List Value), k ≤ T ∧ i = .int .i64 k ∧ Hid (LL wr (w.heap.size + 1) ov vs (leadTo n (allOf ts SS (nI (t.take k))) (k * K))) ∧ Hid (wr.heap[w.heap.size]? = some (mbox s n (.slice vp K vc))) ∧ Hid (Below w.heap.size w wr) ∧ w.heap.size + 1 ≤ wr.heap.size) (fun _ i _ => T - (intOf i).toNat)
  case atStart => exact ⟨0, [.slice (some ⟨g0, 0, none⟩) n rc0], by omega, rfl, by rw [List.take_zero, Nat.zero_mul]; exact HL1.out, HM2.out, HB2.out, hs2⟩
  case round =>
    obtain ⟨k, vs, hk, rfl, hL, hM, hbw, hsz⟩ := hrel
    clear HL1 HM2 HB2 hs2
    by_cases hlt : k < T
    · have hkt : k < t.length := by rw [hT.out]; exact hlt
      have hcC : t.getD k 0 < cs.length := HIN.out _ (by simp [List.getD, hkt])
      obtain ⟨hS1, hS2, hS3⟩ := HSS.out _ hcC
      obtain ⟨cu, hcs, hcu, hcI⟩ := HCR.out _ hcC
      rw [hS1] at hcI
      have HN := hide (allOf_snoc ts SS (t.take k) (t.getD k 0))
      rw [← take_snocN hkt] at HN
      have hFl : Hid ((allOf ts SS (nI (t.take k))).length = k * K) := by
        show _ = _
        unfold allOf
        rw [flat_length (K := K) _ (fun g hg => ?_), List.length_map]
        · simp [nI]; rw [hT.out, Nat.min_eq_left (by omega)]
        · obtain ⟨l, hl, rfl⟩ := List.mem_map.1 hg
          unfold nI at hl
          obtain ⟨c, hc, rfl⟩ := List.mem_map.1 hl
          rw [Int.toNat_natCast, ← hK.out]
          exact calledBy_length (HSS.out c (HIN.out c (List.mem_of_mem_take hc))).2.2
      have hFn : ∀ u, u ∈ allOf ts SS (nI (t.take k)) → tsz u = n := fun u hu => by
        unfold allOf at hu
        obtain ⟨l, hl, hu⟩ := List.mem_flatten.1 hu
        obtain ⟨c9, hc9, rfl⟩ := List.mem_map.1 hl
        unfold nI at hc9
        obtain ⟨c, hc, rfl⟩ := List.mem_map.1 hc9
        rw [Int.toNat_natCast] at hu
        exact calledBy_mem HTS.out (HSS.out c (HIN.out c (List.mem_of_mem_take hc))).2.1 u hu
      have hpr := prd_row n (allOf ts SS (nI (t.take k))) hFn
      have hAl := calledBy_length hS3
      have hAn := calledBy_mem HTS.out hS2
      have HMO := hide (leadTo_more n (allOf ts SS (nI (t.take k))) (calledBy ts (SS.getD (t.getD k 0) [])) hFl.out)
      rw [← HN.out, hAl, hK.out, show k * K + K = (k + 1) * K from by rw [Nat.succ_mul]] at HMO
      rw [hK.out] at hAl hS3
      have hlast : (leadTo n (allOf ts SS (nI (t.take k))) (k * K)).getD (k * K) [] = prd n (allOf ts SS (nI (t.take k))) := by rw [leadTo_get (Nat.le_refl _), List.take_of_length_le (by rw [hFl.out]; exact Nat.le_refl _)]
      have hvl : vs.length = k * K + 1 := by rw [hL.out.len, leadTo_length]
      have hat := hL.out.at (k := k * K) (by rw [leadTo_length]; omega)
      rw [hlast, hpr.2] at hat
      have hqb : k * K ≤ 60 * 200 := Nat.mul_le_mul (by omega) hK2
      have hrow := hL.out.row
      rw [hvl] at hrow
      generalize hq9 : k * K = q at *
      have HQ9 := hide hq9
      clear hq9
      obtain ⟨og, oc, rfl, hog1, hog2, hoc1, hoc2⟩ := owns_form hrow (by omega)
      obtain ⟨rg, rc, hrv, hrg1, hrg2, hrc1, hrc2⟩ := owns_form hat (by omega)
      rw [hrv] at hat
      have hcell : wr.cell? ⟨og, q, none⟩ = some (.slice (some ⟨rg, 0, none⟩) n rc) := by
        have := hrow.cells (g := og) rfl (q) (vs.getD (q) undef) (by rw [List.getD_eq_getElem?_getD]; rw [List.getElem?_eq_getElem (by omega)]; rfl)
        rw [Addr.add_lit, Nat.zero_add, hrv] at this
        exact this
      obtain ⟨lb, lo, hlpe, hlc1, hlc2, hlb, hlcell⟩ : ∃ lb lo, lp = some ⟨lb, lo, none⟩ ∧ T ≤ lc ∧ lc ≤ 9223372036854775807 ∧ lb < w.heap.size ∧ w.cell? ⟨lb, lo + k, none⟩ = some (.int .i64 ((t.getD k 0 : Nat) : Int)) := by
        rcases HI.out with ⟨e, _⟩ | ⟨b, off, cap, e, h0, h1', h2', h3', hc⟩
        · exfalso
          have : t = [] := by simpa [nI] using e
          rw [this] at hkt
          simp at hkt
        · injection e with e1 e2 e3
          subst e3
          refine ⟨b, off, e1, by omega, h2', h3', ?_⟩
          rw [hc k (by simp [nI]; exact hkt)]
          simp [nI, List.getD, hkt]
      subst hlpe
      obtain ⟨cp, ccc, rfl⟩ := hcI.len
      obtain ⟨N, hN9⟩ : ∃ N, Hid ((SS.getD (t.getD k 0) []).length = N) := ⟨_, rfl⟩
      rw [List.length_map, hN9.out] at hcI hcu
      obtain ⟨sg, hsg⟩ : ∃ sg, Hid ((cs.getD (t.getD k 0) (0, [])).1 = sg) := ⟨_, rfl⟩
      rw [hsg.out] at hcs
      have HA := hide (fun (W : World) (hW : Below w.heap.size w W) => (⟨HV.out.below hW, hcI.below hW⟩ : IntsAll W (.slice vp K vc) (ts.map tpl) ∧ IntsAll W (.slice cp N ccc) ((SS.getD (t.getD k 0) []).map tpl)))
      have hcS : t.getD k 0 < C := by rw [← hC.out]; exact hcC
      have e0 := (hbw.out.cell (p := ⟨lb, lo + k, none⟩) hlb).trans hlcell
      have e1 := (hbw.out.cell (p := ⟨cb, co + t.getD k 0 * 2, none⟩) hcb).trans hcs
      have e2 := (hbw.out.cell (p := ⟨cb, co + t.getD k 0 * 2 + 1, none⟩) hcb).trans hcu
      have m0 : wr.cell? ⟨w.heap.size, 0, none⟩ = some (.string s) := by unfold World.cell?; rw [hM.out]; rfl
      have m1 : wr.cell? ⟨w.heap.size, 1, none⟩ = some (.int .i64 n) := by unfold World.cell?; rw [hM.out]; rfl
      have m2 : wr.cell? ⟨w.heap.size, 2, none⟩ = some (.slice vp K vc) := by unfold World.cell?; rw [hM.out]; rfl
      have HAT := hide hat
      have HROW := hide hrow
      have HPR := hide hpr
      have HAN := hide hAn
      have HAL := hide hAl
      have HKB : Hid (N ≤ K) := by show _ ≤ _; rw [← hN9.out]; exact hS3
      obtain ⟨A, hA9⟩ : ∃ A, Hid (calledBy ts (SS.getD (t.getD k 0) []) = A) := ⟨_, rfl⟩
      have HJ : Hid (∀ (vs us : List Value) (W : World), vs.length = (ts.map tpl).length → us.length = ((SS.getD (t.getD k 0) []).map tpl).length → (∀ j, j < (ts.map tpl).length → Ints W (vs.getD j undef) ((ts.map tpl).getD j [])) → (∀ j, j < ((SS.getD (t.getD k 0) []).map tpl).length → Ints W (us.getD j undef) (((SS.getD (t.getD k 0) []).map tpl).getD j [])) → (vs.take (K - N) ++ us).length = (A.map tpl).length ∧ ∀ j, j < (A.map tpl).length → Ints W ((vs.take (K - N) ++ us).getD j undef) ((A.map tpl).getD j [])) := by
        intro vs us W hl1 hl2 hi1 hi2
        have hAe : A.map tpl = (ts.map tpl).take (K - N) ++ (SS.getD (t.getD k 0) []).map tpl := by
          rw [← hA9.out]
          unfold calledBy
          rw [List.map_append, List.map_take, hK.out, hN9.out]
        rw [hAe]
        refine ⟨by simp [hl1, hl2], ints_join (by simp [hl1]) (fun j hj => ?_) hi2⟩
        have hj' : j < (ts.map tpl).length := by rw [List.length_take] at hj; omega
        have hj2 : j < K - N := by rw [List.length_take] at hj; omega
        have := hi1 j hj'
        simpa [List.getD, List.getElem?_take, hj2] using this
      rw [hA9.out] at HMO HAN HAL
      clear hat hrow hpr hAn hAl hcs hcu hcI hlcell hS1 hS2 hS3 hlast hFn
      generalize t.getD k 0 = c at *
      go_upto_region 5 with fail
      refine wp_region_held_drew (S := fun W' => W'.cell? ⟨og, q, none⟩ = some (.slice (some ⟨rg, 0, none⟩) n rc) ∧ W'.cell? ⟨w.heap.size, 0, none⟩ = some (.string s) ∧ W'.cell? ⟨w.heap.size, 1, none⟩ = some (.int .i64 n) ∧ W'.cell? ⟨w.heap.size, 2, none⟩ = some (.slice vp K vc) ∧ W'.cell? ⟨lb, lo + k, none⟩ = some (.int .i64 (c : Int)) ∧ W'.cell? ⟨cb, co + c * 2, none⟩ = some (.int .i32 sg) ∧ W'.cell? ⟨cb, co + c * 2 + 1, none⟩ = some (.slice cp N ccc)) (by kernel_rfl) ⟨hcell, m0, m1, m2, e0, e1, e2⟩ (fun hS => ?_)
      refine wpAnyH_take (i := 0) (v := .slice (some ⟨og, 0, none⟩) (q + 1) oc) rfl (by kernel_rfl) (by kernel_rfl) (by kernel_rfl) (fun _ _ _ h => h) (Or.inl ⟨by kernel_rfl, fun w' hS' => by obtain ⟨q0, q1, q2, q3, q4, q5, q6⟩ := hS'; go_simp⟩) hS ?_
      refine wpAnyH_take (i := 1) (v := .slice (some ⟨og, 0, none⟩) (q + 1) oc) rfl (by kernel_rfl) (by kernel_rfl) (by kernel_rfl) (fun _ _ _ h => h) (Or.inl ⟨by kernel_rfl, fun w' hS' => by obtain ⟨q0, q1, q2, q3, q4, q5, q6⟩ := hS'; go_simp⟩) hS ?_
      refine wpAnyH_take (i := 2) (v := .int .i64 ((q + 1 : Nat) : Int)) rfl (by kernel_rfl) (by kernel_rfl) (by kernel_rfl) (fun _ _ _ h => h) (Or.inl ⟨by kernel_rfl, fun w' hS' => by obtain ⟨q0, q1, q2, q3, q4, q5, q6⟩ := hS'; go_simp⟩) hS ?_
      refine wpAnyH_take (i := 3) (v := .int .i64 ((q : Nat) : Int)) rfl (by kernel_rfl) (by kernel_rfl) (by kernel_rfl) (fun _ _ _ h => h) (Or.inl ⟨by kernel_rfl, fun w' hS' => by obtain ⟨q0, q1, q2, q3, q4, q5, q6⟩ := hS'; go_simp; (try (rw [IntKind.wrap_i64]; omega))⟩) hS ?_
      refine wpAnyH_take (i := 4) (v := .pointer (some ⟨og, q, none⟩)) rfl (by kernel_rfl) (by kernel_rfl) (by kernel_rfl) (fun _ _ _ h => h) (Or.inl ⟨by kernel_rfl, fun w' hS' => by obtain ⟨q0, q1, q2, q3, q4, q5, q6⟩ := hS'; go_simp; (try omega)⟩) hS ?_
      refine wpAnyH_take (i := 5) (v := .slice (some ⟨rg, 0, none⟩) n rc) rfl (by kernel_rfl) (by kernel_rfl) (by kernel_rfl) (fun _ _ _ h => h) (Or.inl ⟨by kernel_rfl, fun w' hS' => by obtain ⟨q0, q1, q2, q3, q4, q5, q6⟩ := hS'; go_simp⟩) hS ?_
      refine wpAnyH_take (i := 6) (v := .agg #[.string s, .int .i64 n, .slice vp K vc]) rfl (by kernel_rfl) (by kernel_rfl) (by kernel_rfl) (fun _ _ _ h => h) (Or.inl ⟨by kernel_rfl, fun w' hS' => by obtain ⟨q0, q1, q2, q3, q4, q5, q6⟩ := hS'; go_simp⟩) hS ?_
      refine wpAnyH_take (i := 7) (v := .slice (some ⟨cb, co, none⟩) C cc) rfl (by kernel_rfl) (by kernel_rfl) (by kernel_rfl) (fun _ _ _ h => h) (Or.inl ⟨by kernel_rfl, fun w' hS' => by obtain ⟨q0, q1, q2, q3, q4, q5, q6⟩ := hS'; go_simp⟩) hS ?_
      refine wpAnyH_take (i := 8) (v := .slice (some ⟨lb, lo, none⟩) T lc) rfl (by kernel_rfl) (by kernel_rfl) (by kernel_rfl) (fun _ _ _ h => h) (Or.inl ⟨by kernel_rfl, fun w' hS' => by obtain ⟨q0, q1, q2, q3, q4, q5, q6⟩ := hS'; go_simp⟩) hS ?_
      refine wpAnyH_take (i := 9) (v := .int .i64 (k : Int)) rfl (by kernel_rfl) (by kernel_rfl) (by kernel_rfl) (fun _ _ _ h => h) (Or.inl ⟨by kernel_rfl, fun w' hS' => by obtain ⟨q0, q1, q2, q3, q4, q5, q6⟩ := hS'; go_simp⟩) hS ?_
      refine wpAnyH_take (i := 10) (v := .pointer (some ⟨lb, lo + k, none⟩)) rfl (by kernel_rfl) (by kernel_rfl) (by kernel_rfl) (fun _ _ _ h => h) (Or.inl ⟨by kernel_rfl, fun w' hS' => by obtain ⟨q0, q1, q2, q3, q4, q5, q6⟩ := hS'; go_simp; (try omega)⟩) hS ?_
      refine wpAnyH_take (i := 11) (v := .int .i64 (c : Int)) rfl (by kernel_rfl) (by kernel_rfl) (by kernel_rfl) (fun _ _ _ h => h) (Or.inl ⟨by kernel_rfl, fun w' hS' => by obtain ⟨q0, q1, q2, q3, q4, q5, q6⟩ := hS'; go_simp⟩) hS ?_
      refine wpAnyH_take (i := 12) (v := .pointer (some ⟨cb, co + c * 2, none⟩)) rfl (by kernel_rfl) (by kernel_rfl) (by kernel_rfl) (fun _ _ _ h => h) (Or.inl ⟨by kernel_rfl, fun w' hS' => by obtain ⟨q0, q1, q2, q3, q4, q5, q6⟩ := hS'; go_simp; (try omega)⟩) hS ?_
      refine wpAnyH_take (i := 13) (v := .agg #[.int .i32 sg, .slice cp N ccc]) rfl (by kernel_rfl) (by kernel_rfl) (by kernel_rfl) (fun _ _ _ h => h) (Or.inl ⟨by kernel_rfl, fun w' hS' => by obtain ⟨q0, q1, q2, q3, q4, q5, q6⟩ := hS'; go_simp⟩) hS ?_
      refine wpAnyH_ready (rs := [14]) (by kernel_rfl) (by simp) ?_
      refine AllReadyH.cons rfl (fun K9 hK9 => ?_) AllReadyH.nil
      go_simp
      have hB3 := hbw.out.drew
      obtain ⟨hI1, hI2⟩ := HA.out wr.drew hB3
      obtain ⟨vs1, hV1, hVl1, hVi1⟩ := hI1
      obtain ⟨us1, hU1, hUl1, hUi1⟩ := hI2
      have hc1 : ∀ u ∈ vs1, u.oneCell' = true := vals_cells hVl1 hVi1
      have hc2 : ∀ u ∈ us1, u.oneCell' = true := vals_cells hUl1 hUi1
      refine (rends_ok s n vp K vc sg cp N ccc vs1 us1 wr.drew hV1 hU1 hK1 (by omega) HKB.out hc1 hc2).mono ?_
      rintro e w4 ⟨av, rfl, hav, hb4⟩
      have hs4 := hb4.size
      have hkeep : ∀ g j, g < wr.heap.size → w4.cell? ⟨g, j, none⟩ = wr.cell? ⟨g, j, none⟩ := fun g j hg => hb4.cell (p := ⟨g, j, none⟩) hg
      refine hK9.out _ _ ⟨by rw [hkeep _ _ hog2]; exact hcell, by rw [hkeep _ _ (by omega)]; exact m0, by rw [hkeep _ _ (by omega)]; exact m1, by rw [hkeep _ _ (by omega)]; exact m2, by rw [hkeep _ _ (by have := hbw.out.size; omega)]; exact e0, by rw [hkeep _ _ (by have := hbw.out.size; omega)]; exact e1, by rw [hkeep _ _ (by have := hbw.out.size; omega)]; exact e2⟩ (fun hS => ?_)
      clear hK9
      obtain ⟨hJ1, hJ2⟩ := HJ.out vs1 us1 w4 hVl1 hUl1 (fun j hj => (hVi1 j hj).below hb4) (fun j hj => (hUi1 j hj).below hb4)
      have hAv : IntsAll w4 av (A.map tpl) := by
        refine ⟨_, Vals.own (base := wr.drew.heap.size + 1 + 1) (e := 26) ?_, hJ1, hJ2⟩
        have hll : (vs1.take (K - N) ++ us1).length = K - N + N := by
          rw [List.length_append, List.length_take, vals_len hU1 |>.symm, ← vals_len hV1]
          omega
        rw [hll]
        exact hav
      have hAT4 : w4.ownsRow (w.heap.size + 1) 3 1 (.slice (some ⟨rg, 0, none⟩) n rc) n ((prd n (allOf ts SS (nI (t.take k)))).map (Value.int .i64)) := owns_below HAT.out.drew hb4 (Nat.le_refl _)
      refine wpAnyH_ready (rs := [15]) (by kernel_rfl) (by simp) ?_
      refine AllReadyH.cons rfl (fun K9 hK9 => ?_) AllReadyH.nil
      go_simp
      refine (rfrom_ok (w.heap.size + 1) (.slice (some ⟨rg, 0, none⟩) n rc) (prd n (allOf ts SS (nI (t.take k)))) n av A w4 HPR.out.1 HPR.out.2 h1 h12 hAT4 HAN.out (by rw [HAL.out]; exact hK1) (by rw [HAL.out]; omega) hAv (by have : wr.drew.heap.size = wr.heap.size := rfl; omega)).mono ?_
      rintro e w5 ⟨fv, fs, rfl, hfl, hfo, hb5⟩
      have hkeep5 : ∀ g j, g < wr.heap.size → w5.cell? ⟨g, j, none⟩ = wr.cell? ⟨g, j, none⟩ := fun g j hg => (hb5.cell (p := ⟨g, j, none⟩) (Nat.lt_of_lt_of_le hg hs4)).trans (hkeep g j hg)
      refine hK9.out _ _ ⟨by rw [hkeep5 _ _ hog2]; exact hcell, by rw [hkeep5 _ _ (by omega)]; exact m0, by rw [hkeep5 _ _ (by omega)]; exact m1, by rw [hkeep5 _ _ (by omega)]; exact m2, by rw [hkeep5 _ _ (by have := hbw.out.size; omega)]; exact e0, by rw [hkeep5 _ _ (by have := hbw.out.size; omega)]; exact e1, by rw [hkeep5 _ _ (by have := hbw.out.size; omega)]; exact e2⟩ (fun hS => ?_)
      clear hK9
      refine wpAnyH_take (i := 16) (v := fv) rfl (by kernel_rfl) (by kernel_rfl) (by kernel_rfl) (fun _ _ _ h => h) (Or.inl ⟨by kernel_rfl, fun w' hS' => by obtain ⟨q0, q1, q2, q3, q4, q5, q6⟩ := hS'; go_simp⟩) hS ?_
      refine wpAnyH_done (by kernel_rfl) ?_ _
      have hBr : Below wr.heap.size wr w5 := ((Below.refl _ _).drew.trans hb4).trans (hb5.mono hs4)
      have hs5 : wr.heap.size ≤ w5.heap.size := hBr.size
      have HL5 := hide (hL.out.below hBr)
      have HB5 := hide (hbw.out.trans (hBr.mono hbw.out.size))
      have HM5 := hide ((hBr.block w.heap.size (by omega)).trans hM.out)
      have hfsl : fs.length = K + 1 := by rw [hfl.len, frL_length, HAL.out]
      rw [hfsl] at hfo
      obtain ⟨fg, fc, rfl, hfg1, hfg2, hfc1, hfc2⟩ := owns_form hfo (by omega)
      have HFV := hide (Vals.drop1 (m := K) (Vals.own (by rw [hfsl]; exact hfo)) hK1)
      have HFA := hide (OwnAll.drop 1 hfl.all)
      have HFC := hide (fun u hu => OwnAll.cells hfl.all u (List.mem_of_mem_drop (i := 1) hu))
      have HFL : Hid ((fs.drop 1).length = K) := by show _ = _; rw [List.length_drop, hfsl]; rfl
      have hfne : ¬ fc = 1 := by omega
      clear hS hfl hfo hb5 hb4 hAT4 hAv hJ1 hJ2 hav hBr hL hM hbw hcell m0 m1 m2 e0 e1 e2 hV1 hU1 hVi1 hUi1 hc1 hc2 hkeep hkeep5 HAT HROW hVl1 hUl1 HA HJ
      have hrow5 := HL5.out.row
      rw [hvl] at hrow5
      have HRW := hide hrow5
      clear hrow5
      go_upto_region 6 with fail
      go_wp2_with (at_builtin; refine wpList_append_vals rfl _ _ 22 rfl (w.heap.size + 1) 26 i0 (.slice none 0 0) 24 Try.underlying22 hi hz0 hz1 hz2 rfl (.slice (some ⟨og, 0, none⟩) (q + 1) oc) (q + 1) vs rfl HRW.out (.slice (some ⟨fg, 1, none⟩) K (fc - 1)) (fs.drop 1) rfl HFV.out HFC.out ?a1 ?a2 ?a3 ?_)
      case a1 => rw [HFL.out]; unfold maxLen; omega
      case a2 => rw [HFL.out]; omega
      case a3 => omega
      intro v6 w6 hown6 hg6
      have HL6 : Hid (LL w6 (w.heap.size + 1) v6 (vs ++ fs.drop 1) (leadTo n (allOf ts SS (nI (t.take (k + 1)))) ((k + 1) * K))) := by
        rw [HMO.out]
        refine ⟨by rw [List.length_append, hvl, HFL.out, List.drop_one]; exact hown6, ?_⟩
        have hkp : ∀ (u : Value) (n' : Nat) (ys : List Value), w5.ownsRow (w.heap.size + 1) 3 1 u n' ys → w6.ownsRow (w.heap.size + 1) 3 1 u n' ys := fun u n' ys h => owns_kept_ty h HRW.out hg6
        exact OwnAll.join (by rw [← HAL.out]; exact HFA.out.mono (fun _ _ _ h => hkp _ _ _ h)) (HL5.out.all.mono (fun _ _ _ h => hkp _ _ _ h))
      have hogt : ∀ g, (Value.slice (some ⟨og, 0, none⟩) (q + 1) oc).ownBlock = some g → w.heap.size + 1 ≤ g := fun g e => (HRW.out.lt g e).1
      have HB6 := hide (HB5.out.grown hg6 (by omega) (fun g e => by have := hogt g e; omega))
      have HM6 := hide ((hg6.block w.heap.size (by omega) (fun e => by have := hogt _ e.symm; omega)).trans HM5.out)
      have hs6 := hg6.size
      clear hown6 hg6 HL5 HB5 HM5 HFV HFA HFC HRW HMO
      go_wp2
      go_roundw
      case rel => exact ⟨k + 1, _, by omega, by go_num, HL6, HM6, HB6, by omega⟩
      case measure => simp [intOf]; omega
    · obtain rfl : k = T := by omega
      have htk : t.take k = t := List.take_of_length_le (by rw [hT.out]; omega)
      rw [htk] at hL
      have HLL := hide (hL.out.low (Nat.le_succ _))
      clear hL
      go_wp2
      go_ret
      exact ⟨_, vs, rfl, HLL.out, hbw.out⟩

end Go.Proofs.Ytoiiadiimfohiaa

/- Contract: the answer's Prove. -/
namespace Go.Proofs.Ytoiiadiimfohiaa
open Go.RowKit
set_option maxRecDepth 20000
set_option linter.unusedVariables false

/-- What the answer's Prove says: how many changes, round, true. -/
def RProve (N n : Nat) (L : List (List Int)) (w : World) (e : Ending) (w' : World) : Prop :=
  ∃ (r q : Bool) (i j : Int), e = .returned (.agg #[.int .i64 (N : Int), .bool r, .bool q, .int .i64 i, .int .i64 j]) ∧ (q = true ↔ (L.take N).Nodup) ∧ (r = true ↔ L.getD N [] = rnd n) ∧ Below w.heap.size w w'

abbrev repC (N : Int) (r q : Bool) (i j : Int) : Obj := .cells #[.int .i64 N, .bool r, .bool q, .int .i64 i, .int .i64 j] 30

theorem set5 {W : World} {B : Nat} {a b c d e a' b' c' d' e' : Value} {t : TypeId} (h : W.heap[B]? = some (.cells #[a, b, c, d, e] t)) :
    (((((W.setCell ⟨B, 0, none⟩ a').setCell ⟨B, 1, none⟩ b').setCell ⟨B, 2, none⟩ c').setCell ⟨B, 3, none⟩ d').setCell ⟨B, 4, none⟩ e').heap[B]? = some (.cells #[a', b', c', d', e'] t) := by
  simp [World.setCell, Array.getElem?_modify, h]

theorem set3 {W : World} {B : Nat} {a b c d e c' d' e' : Value} {t : TypeId} (h : W.heap[B]? = some (.cells #[a, b, c, d, e] t)) :
    (((W.setCell ⟨B, 2, none⟩ c').setCell ⟨B, 3, none⟩ d').setCell ⟨B, 4, none⟩ e').heap[B]? = some (.cells #[a, b, c', d', e'] t) := by
  simp [World.setCell, Array.getElem?_modify, h]

theorem ret_rep {fn : Func} {R : Ending → World → Prop} {a : Act} {w : World} {p : Tmp} {b : Nat} {N : Int} {r q : Bool} {i j : Int} (h : fn.results = #[.cell p 30]) (hp : a.tmps.getD p undef = .pointer (some ⟨b, 0, none⟩)) (hA : w.heap[b]? = some (repC N r q i j)) (hd : a.defers = []) (hR : R (.returned (.agg #[.int .i64 N, .bool r, .bool q, .int .i64 i, .int .i64 j])) w) : bodyPost Try.prog fn R .ret a w :=
  bodyPost_ret (results_cell_row h a.tmps w b 30 #[.int .i64 N, .bool r, .bool q, .int .i64 i, .int .i64 j] (0, 0) _ hp hA Try.underlying30 rfl (by kernel_rfl)) hd hR

theorem rk_rnd {n : Nat} {a : List Int} (h12 : n ≤ 12) (ha : isRow a) (hl : a.length = n) : rkTo a a.length = 0 ↔ a = rnd n := by
  have key : ∀ k, k < 13 → rkTo (rnd k) k = 0 := by decide
  have h0 : rkTo (rnd n) (rnd n).length = 0 := by rw [rnd_length]; exact key n (by omega)
  constructor
  · intro h
    exact rank_inj ha (isRow_rnd n) (by rw [rnd_length, hl]) (by rw [h, h0])
  · intro h
    rw [h]
    exact h0

/-- Which ranks there were. -/
structure SeenR (f : Int → Option Value) (L : List (List Int)) (i : Nat) : Prop where
  mem : ∀ a : Int, (f a).isSome = true ↔ ∃ j, j < i ∧ ((rkTo (L.getD j []) (L.getD j []).length : Nat) : Int) = a
  int : ∀ a u, f a = Option.some u → ∃ x : Int, u = .int .i64 x

theorem SeenR.none (L : List (List Int)) : SeenR (fun _ => Option.none) L 0 := ⟨fun a => by simp, fun a u h => by cases h⟩

theorem SeenR.next {f : Int → Option Value} {L : List (List Int)} {i : Nat} (h : SeenR f L i) (x : Int) : SeenR (upd f ((rkTo (L.getD i []) (L.getD i []).length : Nat) : Int) (.int .i64 x)) L (i + 1) := by
  refine ⟨fun a => ?_, fun a u hu => ?_⟩
  · unfold upd
    by_cases e : a = ((rkTo (L.getD i []) (L.getD i []).length : Nat) : Int)
    · rw [if_pos e]
      exact ⟨fun _ => ⟨i, by omega, e.symm⟩, fun _ => rfl⟩
    · rw [if_neg e, h.mem]
      constructor
      · rintro ⟨j, hj, e2⟩; exact ⟨j, by omega, e2⟩
      · rintro ⟨j, hj, e2⟩
        rcases Nat.lt_or_ge j i with h9 | h9
        · exact ⟨j, h9, e2⟩
        · obtain rfl : j = i := by omega
          exact absurd e2.symm e
  · unfold upd at hu
    split at hu
    · injection hu with hu; exact ⟨x, hu.symm⟩
    · exact h.int a u hu

theorem nodup_take_succ {L : List (List Int)} {i : Nat} (hi : i < L.length) (h : (L.take i).Nodup) (hn : ∀ j, j < i → L.getD j [] ≠ L.getD i []) : (L.take (i + 1)).Nodup := by
  rw [List.take_succ_eq_append_getElem hi, List.nodup_append]
  refine ⟨h, by simp, fun a ha b hb e => ?_⟩
  simp at hb
  subst hb
  obtain ⟨j, hj, e2⟩ := List.getElem_of_mem ha
  rw [List.length_take] at hj
  refine hn j (by omega) ?_
  rw [List.getElem_take] at e2
  simp [List.getD, hi, show j < L.length by omega, e2, e]

theorem not_nodup_of {L : List (List Int)} {i j N : Nat} (hij : i < j) (hj : j < N) (hN : N ≤ L.length) (e : L.getD i [] = L.getD j []) : ¬ (L.take N).Nodup := by
  intro h
  have h1 : i < (L.take N).length := by rw [List.length_take]; omega
  have h2 : j < (L.take N).length := by rw [List.length_take]; omega
  refine (List.pairwise_iff_getElem.1 h) i j h1 h2 hij ?_
  rw [List.getElem_take, List.getElem_take]
  simpa [List.getD, show i < L.length by omega, show j < L.length by omega] using e

set_option maxHeartbeats 16000000 in
theorem rprove_ok (s : ByteArray) (n : Nat) (vp : Option Addr) (K vc : Nat) (cv lv : Value) (N : Nat) (L : List (List Int)) (w : World) (h1 : 1 ≤ n) (h12 : n ≤ 12) (hN1 : 1 ≤ N) (hN2 : N ≤ 20000) (hLl : L.length = N + 1) (hLr : ∀ r, r ∈ L → isRow r ∧ r.length = n)
    (cf : ∃ cp C cc, cv = .slice cp C cc) (lf : ∃ lp T lc, lv = .slice lp T lc)
    (hR : ∀ W, Below w.heap.size w W → Calls Try.prog 16 #[.agg #[.string s, .int .i64 n, .slice vp K vc], cv, lv] W (TRPost L W)) :
    Calls Try.prog 15 #[.agg #[.string s, .int .i64 n, .slice vp K vc], cv, lv] w (RProve N n L w) := by
  obtain ⟨cp, C, cc, rfl⟩ := cf
  obtain ⟨lp, T, lc, rfl⟩ := lf
  have HLR := hide (fun k (hk : k < N + 1) => hLr (L.getD k []) (by simp [List.getD, show k < L.length by omega]))
  have HLL := hide hLl
  have HB0 : Hid (Below w.heap.size w ((w.alloc (mbox s n (.slice vp K vc))).alloc (repC 0 false false 0 0))) := ((Below.refl _ _).alloc (Nat.le_refl _) _).alloc (by simp) _
  have HR0 := hide (hR _ HB0.out)
  have HM0 : Hid (((w.alloc (mbox s n (.slice vp K vc))).alloc (repC 0 false false 0 0)).heap[w.heap.size + 1]? = some (repC 0 false false 0 0)) := by
    have := heap_alloc_new (w.alloc (mbox s n (.slice vp K vc))) (repC 0 false false 0 0)
    rw [show (w.alloc (mbox s n (.slice vp K vc))).heap.size = w.heap.size + 1 from by simp] at this
    exact this
  have hmm := @run_makeMap Try.prog
  clear hR hLr hLl
  go_enter Try.func15, Try.ntmps15
  go_wp2_with fail
  refine HR0.out.mono ?_
  rintro e w1 ⟨v, vs, rfl, hL, hb1⟩
  have hz0 : ((w.alloc (mbox s n (.slice vp K vc))).alloc (repC 0 false false 0 0)).heap.size = w.heap.size + 2 := by simp
  have hs1 : w.heap.size + 2 ≤ w1.heap.size := by have := hb1.size; omega
  have HM1 := hide ((hb1.block (w.heap.size + 1) (by omega)).trans HM0.out)
  have HB1 := hide (HB0.out.trans (hb1.mono (by have := HB0.out.size; omega)))
  have hvl : vs.length = N + 1 := by rw [hL.len]; exact HLL.out
  have hrow := hL.row
  rw [hvl] at hrow
  obtain ⟨g, c, rfl, hg1, hg2, hc1, hc2⟩ := owns_form hrow (by omega)
  have HI1 := hide (fun k (hk : k < N + 1) => Ints.own (hL.at (k := k) (by rw [HLL.out]; exact hk)))
  have HV1 := hide (fun k (hk : k < N + 1) => owns_val hrow hk)
  clear hb1 HB0 HR0 HM0 hL hrow hz0
  -- the last row
  obtain ⟨pN, cN, eN⟩ := (HI1.out N (by omega)).form
  have hcN := HV1.out N (by omega)
  rw [eN] at hcN
  have hIN := HI1.out N (by omega)
  rw [eN] at hIN
  obtain ⟨hrN, hlN⟩ := HLR.out N (by omega)
  have HRK := hide (rrank_ok (.slice pN (L.getD N []).length cN) (L.getD N []) w1 hIN hrN (by omega) (by omega))
  have HZ := hide (rk_rnd h12 hrN hlN)
  rw [hlN] at hcN HRK HZ
  generalize rkTo (L.getD N []) n = rk at *
  clear hIN hrN hlN eN
  go_wp2_with fail
  refine HRK.out.mono ?_
  rintro e w2 ⟨rfl, hb2⟩
  have hs2 : w1.heap.size ≤ w2.heap.size := hb2.size
  have HM2 := hide ((hb2.block (w.heap.size + 1) (by omega)).trans HM1.out)
  have HB2 := hide (HB1.out.trans (hb2.mono (by omega)))
  have HI2 := hide (fun k (hk : k < N + 1) => (HI1.out k hk).below hb2)
  have HV2 := hide (fun k (hk : k < N + 1) => ((hb2.cell (p := ⟨g, k, none⟩) hg2).trans (HV1.out k hk) : w2.cell? ⟨g, k, none⟩ = _))
  have hgs2 : g < w2.heap.size := by omega
  clear hb2 HM1 HB1 HI1 HV1 hcN HRK
  obtain ⟨rd, hrd⟩ : ∃ rd, Hid (((rk : Int) == 0) = rd) := ⟨_, rfl⟩
  have hrd2 : ((rk : Int) == 0) = rd := hrd.out
  have KA : Hid (((w2.alloc (repC N rd true 0 0)).alloc (.map #[] 0)).heap[w2.heap.size]? = some (repC N rd true 0 0)) := (Below.heap_alloc _ _ _ (by simp)).trans (heap_alloc_new _ _)
  have KM : Hid (IMap ((w2.alloc (repC N rd true 0 0)).alloc (.map #[] 0)) (w2.heap.size + 1) 0 (fun _ => none)) := by
    have := IMap.made (w2.alloc (repC N rd true 0 0))
    rw [show (w2.alloc (repC N rd true 0 0)).heap.size = w2.heap.size + 1 from by simp] at this
    exact this
  have KB : Hid (Below w2.heap.size w2 ((w2.alloc (repC N rd true 0 0)).alloc (.map #[] 0))) := ((Below.refl _ _).alloc (Nat.le_refl _) _).alloc (by simp) _
  have KS : w2.heap.size + 2 ≤ ((w2.alloc (repC N rd true 0 0)).alloc (.map #[] 0)).heap.size := by simp
  go_wp2
  go_loopw [11] (fun i wr => ∃ (k : Nat) (f : Int → Option Value), k ≤ N ∧ i = .int .i64 k ∧ Hid (Below w2.heap.size w2 wr) ∧ Hid (wr.heap[w2.heap.size]? = some (repC N rd true 0 0)) ∧ Hid (IMap wr (w2.heap.size + 1) k f) ∧ Hid (SeenR f L k) ∧ Hid ((L.take k).Nodup) ∧ w2.heap.size + 2 ≤ wr.heap.size) (fun i _ => N - (intOf i).toNat)
  case atStart => exact ⟨0, fun _ => none, by omega, rfl, KB.out, KA.out, KM.out, SeenR.none L, (by simp : (L.take 0).Nodup), KS⟩
  case round =>
    obtain ⟨k, f, hk, rfl, hbw, hrp, hmp, hsn, hnd, hsz⟩ := hrel
    clear KA KM KB KS
    have HMr := hide ((hbw.out.block (w.heap.size + 1) (by omega)).trans HM2.out)
    have HBr := hide (HB2.out.trans (hbw.out.mono (by omega)))
    by_cases hlt : k < N
    · obtain ⟨pk, ck, ek⟩ := (HI2.out k (by omega)).form
      have hck := HV2.out k (by omega)
      have hIk := (HI2.out k (by omega)).below hbw.out
      rw [ek] at hck hIk
      have hcr := (hbw.out.cell (p := ⟨g, k, none⟩) hgs2).trans hck
      obtain ⟨hrk, hlk⟩ := HLR.out k (by omega)
      have HRK := hide (rrank_ok (.slice pk (L.getD k []).length ck) (L.getD k []) wr hIk hrk (by omega) (by omega))
      have hrb := rkTo_le (L.getD k []) (L.getD k []).length (Nat.le_refl _) (by omega)
      have HNX := hide (fun x => hsn.out.next x)
      have HHIT : Hid (∀ a : Nat, a = rkTo (L.getD k []) (L.getD k []).length → (f (a : Int)).isSome = true → ¬ (L.take N).Nodup) := by
        intro a ha hs9
        obtain ⟨j, hj, e⟩ := (hsn.out.mem _).1 hs9
        obtain ⟨hrj, hlj⟩ := HLR.out j (by omega)
        refine not_nodup_of hj hlt (by rw [HLL.out]; omega) (rank_inj hrj hrk (by rw [hlk, hlj]) ?_)
        omega
      have HMISS : Hid (∀ a : Nat, a = rkTo (L.getD k []) (L.getD k []).length → (f (a : Int)).isSome = false → (L.take (k + 1)).Nodup) := by
        intro a ha hs9
        refine nodup_take_succ (by rw [HLL.out]; omega) hnd.out (fun j hj e => ?_)
        have : (f (a : Int)).isSome = true := (hsn.out.mem _).2 ⟨j, hj, by rw [e, ha]⟩
        rw [hs9] at this
        cases this
      have HINT := hide (fun a u h => hsn.out.int a u h)
      clear hIk hck hrk hsn hnd ek
      generalize hra : rkTo (L.getD k []) (L.getD k []).length = ra at *
      have HRA := hide hra.symm
      clear hra
      rw [hlk] at hcr HRK
      clear hlk
      go_wp2_with fail
      refine HRK.out.mono ?_
      rintro e w4 ⟨rfl, hb4⟩
      have hs4 := hb4.size
      have HB4 := hide (hbw.out.trans (hb4.mono hbw.out.size))
      have HR4 := hide ((hb4.block w2.heap.size (by omega)).trans hrp.out)
      have hM4 := hmp.out.below hb4 (by omega)
      have HMr4 := hide ((hb4.block (w.heap.size + 1) (by omega)).trans HMr.out)
      have HBr4 := hide (HBr.out.trans (hb4.mono (by omega)))
      clear hb4 hbw hrp hmp HRK hcr HMr HBr
      cases hfa : f (ra : Int) with
      | none =>
        have HND := hide (HMISS.out ra rfl (by rw [hfa]; rfl))
        have HSN := hide (HNX.out (k : Int))
        clear HMISS HHIT HINT HNX
        go_wp2_with (first
          | (refine wpList_look_ok rfl _ _ 73 rfl 3 Try.underlying73 (Try.zero3 _) hM4 (ra : Int) rfl rfl (by omega) (by omega) ?_; rw [hfa])
          | (refine wpList_put rfl _ _ _ 73 rfl 3 Try.underlying73 hM4 (by unfold maxLen; omega) (ra : Int) (.int .i64 (k : Int)) rfl rfl rfl (by omega) (by omega) ?_; intro w5 hM5 hg5))
        have hB5 := hide (HB4.out.grown hg5 (by omega) (fun x e => by injection e with e; omega))
        have hR5 := hide ((hg5.block w2.heap.size (by omega) (fun e => by injection e with e; omega)).trans HR4.out)
        have hM5' := hide hM5
        have hs5 := hg5.size
        clear hg5 hM5 hM4 HB4 HR4 HMr4 HBr4
        go_wp2
        go_roundw
        case rel => exact ⟨k + 1, _, by omega, by go_num, hB5.out, hR5.out, hM5'.out, HSN.out, HND.out, by omega⟩
        case measure => simp [intOf]; omega
      | some u =>
        obtain ⟨x, rfl⟩ := HINT.out _ _ hfa
        have HNN := hide (HHIT.out ra rfl (by rw [hfa]; rfl))
        obtain ⟨z0, z1, z2, z3, z4, f0, f1, f2, f3, f4⟩ := cells5 HR4.out
        have hS3 := hide (set3 (c' := .bool false) (d' := .int .i64 (k : Int)) (e' := .int .i64 x) HR4.out)
        have hMr3 : Hid ((((w4.setCell ⟨w2.heap.size, 2, none⟩ (.bool false)).setCell ⟨w2.heap.size, 3, none⟩ (.int .i64 (k : Int))).setCell ⟨w2.heap.size, 4, none⟩ (.int .i64 x)).heap[w.heap.size + 1]? = some (repC 0 false false 0 0)) := by
          show _ = _
          rw [Below.heap_setCell _ _ _ _ (by simp; omega), Below.heap_setCell _ _ _ _ (by simp; omega), Below.heap_setCell _ _ _ _ (by simp; omega)]
          exact HMr4.out
        have hB3 : Hid (Below w.heap.size w (((w4.setCell ⟨w2.heap.size, 2, none⟩ (.bool false)).setCell ⟨w2.heap.size, 3, none⟩ (.int .i64 (k : Int))).setCell ⟨w2.heap.size, 4, none⟩ (.int .i64 x))) := ((HBr4.out.setCell (by simp; omega) _).setCell (by simp; omega) _).setCell (by simp; omega) _
        clear HMISS HHIT HINT HNX HMr4 HBr4
        go_upto_region 14 with (refine wpList_look_ok rfl _ _ 73 rfl 3 Try.underlying73 (Try.zero3 _) hM4 (ra : Int) rfl rfl (by omega) (by omega) ?_; rw [hfa])
        generalize ((w4.setCell ⟨w2.heap.size, 2, none⟩ (.bool false)).setCell ⟨w2.heap.size, 3, none⟩ (.int .i64 (k : Int))).setCell ⟨w2.heap.size, 4, none⟩ (.int .i64 x) = w6 at *
        clear z0 z1 z2 z3 z4 f0 f1 f2 f3 f4 hM4 HB4 HR4
        obtain ⟨z0, z1, z2, z3, z4, _, _, _, _, _⟩ := cells5 hS3.out
        obtain ⟨_, _, _, _, _, f0, f1, f2, f3, f4⟩ := cells5 hMr3.out
        obtain ⟨y0, y1, y2, y3, y4, _, _, _, _, _⟩ := cells5 hMr3.out
        have hF := hide (set5 (a' := .int .i64 (N : Int)) (b' := .bool rd) (c' := .bool false) (d' := .int .i64 (k : Int)) (e' := .int .i64 x) hMr3.out)
        have hFB := hide (((((hB3.out.setCell (p := ⟨w.heap.size + 1, 0, none⟩) (by simp) (.int .i64 (N : Int))).setCell (p := ⟨w.heap.size + 1, 1, none⟩) (by simp) (.bool rd)).setCell (p := ⟨w.heap.size + 1, 2, none⟩) (by simp) (.bool false)).setCell (p := ⟨w.heap.size + 1, 3, none⟩) (by simp) (.int .i64 (k : Int))).setCell (p := ⟨w.heap.size + 1, 4, none⟩) (by simp) (.int .i64 x))
        go_wp2
        exact ret_rep (p := 6) rfl rfl hF.out rfl ⟨rd, false, _, _, rfl, ⟨fun h => by (cases h), fun h => absurd h HNN.out⟩, by rw [← HZ.out, ← hrd.out]; simp, hFB.out⟩
    · obtain rfl : k = N := by omega
      obtain ⟨z0, z1, z2, z3, z4, _, _, _, _, _⟩ := cells5 hrp.out
      obtain ⟨y0, y1, y2, y3, y4, f0, f1, f2, f3, f4⟩ := cells5 HMr.out
      have hF := hide (set5 (a' := .int .i64 (k : Int)) (b' := .bool rd) (c' := .bool true) (d' := .int .i64 0) (e' := .int .i64 0) HMr.out)
      have hFB := hide (((((HBr.out.setCell (p := ⟨w.heap.size + 1, 0, none⟩) (by simp) (.int .i64 (k : Int))).setCell (p := ⟨w.heap.size + 1, 1, none⟩) (by simp) (.bool rd)).setCell (p := ⟨w.heap.size + 1, 2, none⟩) (by simp) (.bool true)).setCell (p := ⟨w.heap.size + 1, 3, none⟩) (by simp) (.int .i64 0)).setCell (p := ⟨w.heap.size + 1, 4, none⟩) (by simp) (.int .i64 0))
      go_wp2
      exact ret_rep (p := 6) rfl rfl hF.out rfl ⟨rd, true, _, _, rfl, ⟨fun _ => hnd.out, fun _ => rfl⟩, by rw [← HZ.out, ← hrd.out]; simp, hFB.out⟩

end Go.Proofs.Ytoiiadiimfohiaa

/- Contract: the answer's SignMay. -/
namespace Go.Proofs.Ytoiiadiimfohiaa
open Go.RowKit

set_option maxRecDepth 20000 in
set_option maxHeartbeats 4000000 in
theorem signMay_any (c : Int) (w : World) : Calls Try.prog 51 #[.int .i32 c] w fun e w' => e = .returned (.bool (sgnR c)) ∧ w = w' := by
  by_cases d0 : c < 33
  · have HP : Hid (sgnR c = false) := by unfold sgnR; exact decide_eq_false (by omega)
    have e0 : ¬ 48 ≤ c := by omega
    have e1 : ¬ 33 ≤ c := by omega
    clear d0
    generalize sgnR c = R at *
    go_enter Try.func51, Try.ntmps51
    go_wp2
    go_ret
    exact ⟨ret_bool HP.out.symm, rfl⟩
  by_cases d1 : 12287 < c
  · have HP : Hid (sgnR c = false) := by unfold sgnR; exact decide_eq_false (by omega)
    have e0 : 48 ≤ c := by omega
    have e1 : ¬ c ≤ 57 := by omega
    have e2 : 33 ≤ c := by omega
    have e3 : ¬ c ≤ 12287 := by omega
    clear d0 d1
    generalize sgnR c = R at *
    go_enter Try.func51, Try.ntmps51
    go_wp2
    go_ret
    exact ⟨ret_bool HP.out.symm, rfl⟩
  by_cases d2 : 48 ≤ c ∧ c ≤ 57
  · have HP : Hid (sgnR c = false) := by unfold sgnR; exact decide_eq_false (by omega)
    have e0 : 48 ≤ c := by omega
    have e1 : c ≤ 57 := by omega
    have e2 : 33 ≤ c := by omega
    have e3 : c ≤ 12287 := by omega
    clear d0 d1 d2
    generalize sgnR c = R at *
    go_enter Try.func51, Try.ntmps51
    go_wp2
    go_ret
    exact ⟨ret_bool HP.out.symm, rfl⟩
  by_cases d3 : c = 40
  · have HP : Hid (sgnR c = false) := by unfold sgnR; exact decide_eq_false (by omega)
    have e0 : ¬ 48 ≤ c := by omega
    have e1 : 33 ≤ c := by omega
    have e2 : c ≤ 12287 := by omega
    have e3 : (c != 40) = false := by simp; omega
    clear d0 d1 d2 d3
    generalize sgnR c = R at *
    go_enter Try.func51, Try.ntmps51
    go_wp2
    go_ret
    exact ⟨ret_bool HP.out.symm, rfl⟩
  by_cases d4 : c = 41
  · have HP : Hid (sgnR c = false) := by unfold sgnR; exact decide_eq_false (by omega)
    have e0 : ¬ 48 ≤ c := by omega
    have e1 : 33 ≤ c := by omega
    have e2 : c ≤ 12287 := by omega
    have e3 : (c != 40) = true := by simp; omega
    have e4 : (c != 41) = false := by simp; omega
    clear d0 d1 d2 d3 d4
    generalize sgnR c = R at *
    go_enter Try.func51, Try.ntmps51
    go_wp2
    go_ret
    exact ⟨ret_bool HP.out.symm, rfl⟩
  by_cases d5 : c < 48
  · have HP : Hid (sgnR c = true) := by unfold sgnR; exact decide_eq_true (by omega)
    have e0 : ¬ 48 ≤ c := by omega
    have e1 : 33 ≤ c := by omega
    have e2 : c ≤ 12287 := by omega
    have e3 : (c != 40) = true := by simp; omega
    have e4 : (c != 41) = true := by simp; omega
    have e5 : c < 127 := by omega
    clear d0 d1 d2 d3 d4 d5
    generalize sgnR c = R at *
    go_enter Try.func51, Try.ntmps51
    go_wp2
    go_ret
    exact ⟨ret_bool HP.out.symm, rfl⟩
  by_cases d6 : c < 127
  · have HP : Hid (sgnR c = true) := by unfold sgnR; exact decide_eq_true (by omega)
    have e0 : 48 ≤ c := by omega
    have e1 : ¬ c ≤ 57 := by omega
    have e2 : 33 ≤ c := by omega
    have e3 : c ≤ 12287 := by omega
    have e4 : (c != 40) = true := by simp; omega
    have e5 : (c != 41) = true := by simp; omega
    have e6 : c < 127 := by omega
    clear d0 d1 d2 d3 d4 d5 d6
    generalize sgnR c = R at *
    go_enter Try.func51, Try.ntmps51
    go_wp2
    go_ret
    exact ⟨ret_bool HP.out.symm, rfl⟩
  by_cases d7 : 160 < c
  · have HP : Hid (sgnR c = true) := by unfold sgnR; exact decide_eq_true (by omega)
    have e0 : 48 ≤ c := by omega
    have e1 : ¬ c ≤ 57 := by omega
    have e2 : 33 ≤ c := by omega
    have e3 : c ≤ 12287 := by omega
    have e4 : (c != 40) = true := by simp; omega
    have e5 : (c != 41) = true := by simp; omega
    have e6 : ¬ c < 127 := by omega
    have e7 : 160 < c := by omega
    clear d0 d1 d2 d3 d4 d5 d6 d7
    generalize sgnR c = R at *
    go_enter Try.func51, Try.ntmps51
    go_wp2
    go_ret
    exact ⟨ret_bool HP.out.symm, rfl⟩
  have HP : Hid (sgnR c = false) := by unfold sgnR; exact decide_eq_false (by omega)
  have e0 : 48 ≤ c := by omega
  have e1 : ¬ c ≤ 57 := by omega
  have e2 : 33 ≤ c := by omega
  have e3 : c ≤ 12287 := by omega
  have e4 : (c != 40) = true := by simp; omega
  have e5 : (c != 41) = true := by simp; omega
  have e6 : ¬ c < 127 := by omega
  have e7 : ¬ 160 < c := by omega
  clear d0 d1 d2 d3 d4 d5 d6 d7
  generalize sgnR c = R at *
  go_enter Try.func51, Try.ntmps51
  go_wp2
  go_ret
  exact ⟨ret_bool HP.out.symm, rfl⟩

end Go.Proofs.Ytoiiadiimfohiaa
