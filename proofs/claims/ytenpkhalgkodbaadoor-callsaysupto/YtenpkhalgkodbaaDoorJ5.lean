/- Joined: Meth, MdB, TtE, Sgn, TtG, TtJ, PickB, Pick, Raw, TtC, TtK. -/
import Derived.Test.YtenpkhalgkodbaaDoorJ2
import Derived.Test.YtenpkhalgkodbaaDoorJ4
import Derived.Test.YtenpkhalgkodbaaDoorJ3
import Derived.Test.YtenpkhalgkodbaaDoorJ0
import Derived.Deep.RegionHeld3
import Derived.Deep.QuietTactic
import Derived.Deep.CutRange
import Derived.Test.YtenpkhalgkodbaaDoorJ1
/- Contracts: method.Check. -/
namespace Go.Proofs.YtenpkhalgkodbaaDoor
open Go.RowKit

/-- A method as a value. -/
abbrev meth (s : ByteArray) (n : Int) (v : Value) : Value := .agg #[.string s, .int .i64 n, v]

set_option maxHeartbeats 400000 in
theorem mmay_yes (n : Int) (w : World) (h1 : 2 ≤ n) (h2 : n ≤ 12) :
    Calls Tryd.prog 47 #[.int .i64 n] w fun e w' => e = .returned (.bool true) ∧ w = w' := by
  go_enter Tryd.func47, Tryd.ntmps47
  go_wp2
  go_ret
  exact ⟨rfl, rfl⟩

set_option maxHeartbeats 400000 in
theorem mmay_no (n : Int) (w : World) (h : n < 2 ∨ 12 < n) :
    Calls Tryd.prog 47 #[.int .i64 n] w fun e w' => e = .returned (.bool false) ∧ w = w' := by
  rcases h with h | h
  · go_enter Tryd.func47, Tryd.ntmps47
    go_wp2
    go_ret
    exact ⟨rfl, rfl⟩
  · have h1 : 2 ≤ n := by omega
    have h2 : decide (n ≤ 12) = false := by simp; omega
    go_enter Tryd.func47, Tryd.ntmps47
    go_wp2
    go_ret
    exact ⟨rfl, rfl⟩

/-- Where a method lies. -/
structure Box (w : World) (B : Nat) (s : ByteArray) (n : Int) (v : Value) : Prop where
  c0 : w.cell? ⟨B, 0, none⟩ = some (.string s)
  c1 : w.cell? ⟨B, 1, none⟩ = some (.int .i64 n)
  c2 : w.cell? ⟨B, 2, none⟩ = some v
  lt : B < w.heap.size

theorem Box.start (w : World) (s : ByteArray) (n : Int) (v : Value) (t : TypeId) : Box (w.alloc (.cells #[.string s, .int .i64 n, v] t)) w.heap.size s n v := by
  refine ⟨?_, ?_, ?_, by simp⟩ <;> simp

theorem Box.below {w w' : World} {B : Nat} {s : ByteArray} {n : Int} {v : Value} (h : Box w B s n v) (hb : Below w.heap.size w w') : Box w' B s n v :=
  ⟨(hb.cell (p := ⟨B, 0, none⟩) h.lt).trans h.c0, (hb.cell (p := ⟨B, 1, none⟩) h.lt).trans h.c1, (hb.cell (p := ⟨B, 2, none⟩) h.lt).trans h.c2, Nat.lt_of_lt_of_le h.lt hb.size⟩

set_option maxRecDepth 20000 in
set_option maxHeartbeats 4000000 in
theorem mcheck_name (s : ByteArray) (n : Int) (v : Value) (w : World) (hs : s.size ≤ 9223372036854775807) (hn : nm s = false) :
    Calls Tryd.prog 25 #[meth s n v] w fun e w' => e = .returned (.int .i64 7) ∧ Below w.heap.size w w' := by
  unfold meth
  have HN := hide (fun W => name_any s W hs)
  rw [hn] at HN
  clear hn
  go_enter Tryd.func25, Tryd.ntmps25
  go_wp2_with fail
  refine (HN.out _).mono ?_
  rintro e w1 ⟨rfl, hb1⟩
  have hB : Below w.heap.size w w1 := ((Below.refl _ _).alloc (Nat.le_refl _) _).trans (hb1.mono (by simp))
  clear hb1 HN
  go_wp2
  go_ret
  exact ⟨rfl, hB⟩

set_option maxRecDepth 20000 in
set_option maxHeartbeats 4000000 in
theorem mcheck_ok (s : ByteArray) (n : Nat) (v : Value) (css : List (List Int)) (w : World) (hs : s.size ≤ 9223372036854775807) (hn : nm s = true) (h1 : 2 ≤ n) (h2 : n ≤ 12) (hl1 : 1 ≤ css.length) (hl2 : css.length ≤ 200) (hv : IntsAll w v css)
    (hok : ∀ k, k < css.length → okc n 0 (css.getD k []) = true) :
    Calls Tryd.prog 25 #[meth s n v] w fun e w' => e = .returned (.int .i64 0) ∧ Below w.heap.size w w' := by
  unfold meth
  have HN := hide (fun W => name_any s W hs)
  rw [hn] at HN
  obtain ⟨b, off, cap, rfl, hb, hc1, hc2, hcell⟩ := hv.cell hl1
  have HC := hide hcell
  have HOK := hide hok
  clear hn hv hok hcell
  go_enter Tryd.func25, Tryd.ntmps25
  go_wp2_with fail
  refine (HN.out _).mono ?_
  rintro e w1 ⟨rfl, hb1⟩
  have hB : Below w.heap.size w w1 := ((Below.refl _ _).alloc (Nat.le_refl _) _).trans (hb1.mono (by simp))
  have hx := (Box.start w s n (.slice (some ⟨b, off, none⟩) css.length cap) 24).below hb1
  have g1 := hx.c1
  have g2 := hx.c2
  have HX := hide hx
  clear hb1 HN hx
  go_wp2_with fail
  refine (mmay_yes _ _ (by omega) (by omega)).mono ?_
  rintro e w' ⟨rfl, rfl⟩
  go_wp2
  go_loop [29] (fun i => ∃ k : Nat, k ≤ css.length ∧ i = .int .i64 k) (fun i => css.length - (intOf i).toNat)
  case atStart => exact ⟨0, by omega, rfl⟩
  case round =>
    obtain ⟨k, hk, rfl⟩ := hrel
    by_cases hlt : k < css.length
    · obtain ⟨p, c, hcx, hix⟩ := HC.out k hlt
      have gx := (hB.cell (p := ⟨b, off + k, none⟩) (by exact hb)).trans hcx
      have HCk := hide (pcheck_any n _ _ w1 (by omega) (by omega) (hix.out.below hB))
      rw [show pck n (css.getD k []) = 0 from by unfold pck; rw [if_pos (HOK.out k hlt)]] at HCk
      generalize (css.getD k []).length = L at *
      clear hcx hix
      go_wp2_with fail
      refine HCk.out.mono ?_
      rintro e w' ⟨rfl, rfl⟩
      go_wp2
      go_round
      case rel => exact ⟨k + 1, by omega, by go_num⟩
      case measure => simp [intOf]; omega
    · go_wp2
      go_ret
      exact ⟨rfl, hB⟩

end Go.Proofs.YtenpkhalgkodbaaDoor

/- Contracts at every method: method.Check, the answer's MethodMay. -/
namespace Go.Proofs.YtenpkhalgkodbaaDoor
open Go.RowKit
set_option maxRecDepth 20000
set_option linter.unusedVariables false

/-- What is wrong with the first change that may not be. -/
def fstE (n : Int) : List (List Int) → Int
  | [] => 0
  | x :: X => if pc n x = 0 then fstE n X else pc n x

theorem fstE_ok {n : Int} {X : List (List Int)} {k : Nat} (hk : k < X.length) (h : pc n (X.getD k []) = 0) : fstE n (X.drop k) = fstE n (X.drop (k + 1)) := by
  rw [List.drop_eq_getElem_cons hk]
  have e : X.getD k [] = X[k] := by simp [List.getD, hk]
  rw [e] at h
  rw [fstE, if_pos h]

theorem fstE_bad {n : Int} {X : List (List Int)} {k : Nat} (hk : k < X.length) (h : pc n (X.getD k []) ≠ 0) : fstE n (X.drop k) = pc n (X.getD k []) := by
  rw [List.drop_eq_getElem_cons hk]
  have e : X.getD k [] = X[k] := by simp [List.getD, hk]
  rw [e] at h ⊢
  rw [fstE, if_neg h]

theorem fstE_zero {n : Int} : ∀ {X : List (List Int)}, fstE n X = 0 → ∀ x, x ∈ X → pc n x = 0
  | [], _, x, hx => by cases hx
  | y :: X, h, x, hx => by
    unfold fstE at h
    split at h
    · rename_i h0
      rcases List.mem_cons.1 hx with rfl | hx
      · exact h0
      · exact fstE_zero h x hx
    · rename_i h0; exact absurd h h0

/-- What is wrong with a method. -/
def mErr (s : ByteArray) (n : Int) (X : List (List Int)) : Int :=
  if nm s = true then (if n < 2 ∨ 12 < n ∨ X.length < 1 ∨ 200 < X.length then 1 else fstE n X) else 7

set_option maxHeartbeats 4000000 in
theorem mcheck_all (s : ByteArray) (n : Int) (v : Value) (X : List (List Int)) (w : World) (hs : s.size ≤ 9223372036854775807) (hv : IntsAll w v X) :
    Calls Tryd.prog 25 #[meth s n v] w fun e w' => e = .returned (.int .i64 (mErr s n X)) ∧ Below w.heap.size w w' := by
  by_cases hn : nm s = true
  · unfold mErr
    rw [if_pos hn]
    unfold meth
    have HN := hide (fun W => name_any s W hs)
    rw [hn] at HN
    obtain ⟨vp, vc, hve⟩ := hv.len
    obtain ⟨m, hm⟩ : ∃ m, Hid (X.length = m) := ⟨_, rfl⟩
    rw [hm.out] at hve ⊢
    subst hve
    have HV := hide hv
    clear hn hv
    have HX0 := hide (Box.start w s n (.slice vp m vc) 24)
    have HB0 := hide ((Below.refl w.heap.size w).alloc (Nat.le_refl _) (.cells #[.string s, .int .i64 n, .slice vp m vc] 24))
    by_cases hc : n < 2 ∨ 12 < n
    · rw [if_pos (by omega)]
      have HMM := hide (fun W => mmay_no n W hc)
      clear hc
      go_enter Tryd.func25, Tryd.ntmps25
      go_wp2_with fail
      refine (HN.out _).mono ?_
      rintro e w1 ⟨rfl, hb1⟩
      have HB := hide (HB0.out.trans (hb1.mono HB0.out.size))
      have g1 := (HX0.out.below hb1).c1
      clear hb1 HN HX0 HB0
      go_wp2_with fail
      refine (HMM.out _).mono ?_
      rintro e w' ⟨rfl, rfl⟩
      go_wp2
      go_ret
      exact ⟨rfl, HB.out⟩
    · have h1 : 2 ≤ n := by omega
      have h2 : n ≤ 12 := by omega
      by_cases hl : m < 1 ∨ 200 < m
      · rw [if_pos (by omega)]
        have HMM := hide (fun W => mmay_yes n W h1 h2)
        clear hc h1 h2
        go_enter Tryd.func25, Tryd.ntmps25
        go_wp2_with fail
        refine (HN.out _).mono ?_
        rintro e w1 ⟨rfl, hb1⟩
        have HB := hide (HB0.out.trans (hb1.mono HB0.out.size))
        have g1 := (HX0.out.below hb1).c1
        have g2 := (HX0.out.below hb1).c2
        clear hb1 HN HX0 HB0
        rcases hl with hl | hl
        · have hl1 : (m : Int) < 1 := by omega
          clear hl
          go_wp2_with fail
          refine (HMM.out _).mono ?_
          rintro e w' ⟨rfl, rfl⟩
          go_wp2
          go_ret
          exact ⟨rfl, HB.out⟩
        · have hl1 : ¬ (m : Int) < 1 := by omega
          have hl2 : 200 < (m : Int) := by omega
          clear hl
          go_wp2_with fail
          refine (HMM.out _).mono ?_
          rintro e w' ⟨rfl, rfl⟩
          go_wp2
          go_ret
          exact ⟨rfl, HB.out⟩
      · rw [if_neg (by omega)]
        have hl1 : ¬ (m : Int) < 1 := by omega
        have hl2 : ¬ 200 < (m : Int) := by omega
        have hm1 : 1 ≤ m := by omega
        obtain ⟨b, off, cap, hve, hb, hc1, hc2, hcell⟩ := HV.out.cell (by rw [hm.out]; exact hm1)
        rw [hm.out] at hve hc1 hcell
        simp only [Value.slice.injEq] at hve
        obtain ⟨rfl, _, rfl⟩ := hve
        have HC := hide hcell
        have HMM := hide (fun W => mmay_yes n W h1 h2)
        clear hc hcell HV hl
        obtain ⟨E, hE⟩ : ∃ E, Hid (fstE n X = E) := ⟨_, rfl⟩
        rw [hE.out]
        go_enter Tryd.func25, Tryd.ntmps25
        go_wp2_with fail
        refine (HN.out _).mono ?_
        rintro e w1 ⟨rfl, hb1⟩
        have hB := HB0.out.trans (hb1.mono HB0.out.size)
        have g1 := (HX0.out.below hb1).c1
        have g2 := (HX0.out.below hb1).c2
        clear hb1 HN HX0 HB0
        go_wp2_with fail
        refine (HMM.out _).mono ?_
        rintro e w' ⟨rfl, rfl⟩
        go_wp2
        go_loop [29] (fun i => ∃ k : Nat, k ≤ m ∧ i = .int .i64 k ∧ Hid (E = fstE n (X.drop k))) (fun i => m - (intOf i).toNat)
        case atStart => exact ⟨0, by omega, rfl, hE.out.symm⟩
        case round =>
          obtain ⟨k, hk, rfl, hEk⟩ := hrel
          by_cases hlt : k < m
          · have hkX : k < X.length := by rw [hm.out]; exact hlt
            obtain ⟨p, c, hcx, hix⟩ := HC.out k hlt
            have gx := (hB.cell (p := ⟨b, off + k, none⟩) (by exact hb)).trans hcx
            have HCk := hide (pcheck_all n _ _ w1 (hix.out.below hB))
            by_cases hz : pc n (X.getD k []) = 0
            · have HEN : Hid (E = fstE n (X.drop (k + 1))) := hEk.out.trans (fstE_ok hkX hz)
              rw [hz] at HCk
              clear hz hEk hcx hix
              generalize (X.getD k []).length = L at *
              go_wp2_with fail
              refine HCk.out.mono ?_
              rintro e w' ⟨rfl, rfl⟩
              go_wp2
              go_round
              case rel => exact ⟨k + 1, by omega, by go_num, HEN⟩
              case measure => simp [intOf]; omega
            · have HEN : Hid (E = pc n (X.getD k [])) := hEk.out.trans (fstE_bad hkX hz)
              have hzz : (pc n (X.getD k []) != 0) = true := by simpa using hz
              clear hz hEk hcx hix
              generalize (X.getD k []).length = L at *
              generalize pc n (X.getD k []) = pe at *
              go_wp2_with fail
              refine HCk.out.mono ?_
              rintro e w' ⟨rfl, rfl⟩
              go_wp2
              go_ret
              exact ⟨ret_int HEN.out.symm, hB⟩
          · obtain rfl : k = m := by omega
            have HEN : Hid (E = 0) := by show E = 0; rw [hEk.out, List.drop_eq_nil_of_le (by rw [hm.out]; exact Nat.le_refl _)]; rfl
            clear hEk
            go_wp2
            go_ret
            exact ⟨ret_int HEN.out.symm, hB⟩
  · have hn' : nm s = false := by simpa using hn
    unfold mErr
    rw [if_neg hn]
    exact mcheck_name s n v w hs hn'

set_option maxHeartbeats 4000000 in
theorem rmay_all (s : ByteArray) (n : Int) (v : Value) (X : List (List Int)) (w : World) (hs : s.size ≤ 1048576) (hv : IntsAll w v X) :
    Calls Tryd.prog 27 #[.agg #[.string s, .int .i64 n, v]] w fun e w' => e = .returned (.int .i64 (mErr s n X)) ∧ Below w.heap.size w w' := by
  obtain ⟨vp, vc, hve⟩ := hv.len
  obtain ⟨m, hm⟩ : ∃ m, Hid (X.length = m) := ⟨_, rfl⟩
  rw [hm.out] at hve
  subst hve
  have HV := hide hv
  have HB0 := hide ((Below.refl w.heap.size w).alloc (Nat.le_refl _) (mbox s n (.slice vp m vc)))
  have HIN := hide (isName_any s (w.alloc (mbox s n (.slice vp m vc))) hs)
  rw [nm_isN] at HIN
  obtain ⟨d0, d1, d2⟩ := mbox_cells w s n (.slice vp m vc)
  clear hv
  unfold mErr
  rw [hm.out]
  cases hn : nm s with
  | false =>
    rw [if_neg (by simp)]
    rw [hn] at HIN
    clear hn d1 d2 HV
    go_enter Tryd.func27, Tryd.ntmps27
    go_wp2_with fail
    refine HIN.out.mono ?_
    rintro e w1 ⟨rfl, hb1⟩
    have HB1 := hide (HB0.out.trans (hb1.mono HB0.out.size))
    clear hb1 HB0 HIN d0
    go_wp2
    go_ret
    exact ⟨rfl, HB1.out⟩
  | true =>
    rw [if_pos rfl]
    rw [hn] at HIN
    clear hn
    by_cases hc : n < 2 ∨ 12 < n ∨ m < 1 ∨ 200 < m
    · rw [if_pos hc]
      go_enter Tryd.func27, Tryd.ntmps27
      go_wp2_with fail
      refine HIN.out.mono ?_
      rintro e w1 ⟨rfl, hb1⟩
      have k1 : w1.cell? ⟨w.heap.size, 1, none⟩ = some (.int .i64 n) := by rw [hb1.cell (p := ⟨w.heap.size, 1, none⟩) (by simp)]; exact d1
      have k2 : w1.cell? ⟨w.heap.size, 2, none⟩ = some (.slice vp m vc) := by rw [hb1.cell (p := ⟨w.heap.size, 2, none⟩) (by simp)]; exact d2
      have HB1 := hide (HB0.out.trans (hb1.mono HB0.out.size))
      clear hb1 HB0 HIN d0 d1 d2
      by_cases h1 : n < 2
      · clear hc
        go_wp2
        go_ret
        exact ⟨rfl, HB1.out⟩
      · by_cases h2 : 12 < n
        · clear hc
          go_wp2
          go_ret
          exact ⟨rfl, HB1.out⟩
        · by_cases h3 : (m : Int) < 1
          · clear hc
            go_wp2
            go_ret
            exact ⟨rfl, HB1.out⟩
          · have h4 : 200 < (m : Int) := by omega
            clear hc
            go_wp2
            go_ret
            exact ⟨rfl, HB1.out⟩
    · rw [if_neg hc]
      have g1 : ¬ n < 2 := by omega
      have g2 : ¬ 12 < n := by omega
      have g3 : ¬ (m : Int) < 1 := by omega
      have g4 : ¬ 200 < (m : Int) := by omega
      obtain ⟨b, off, cap, hve, hbl, hc1, hc2, hcell⟩ := HV.out.cell (by rw [hm.out]; omega)
      rw [hm.out] at hve hc1 hcell
      simp only [Value.slice.injEq] at hve
      obtain ⟨rfl, _, rfl⟩ := hve
      have HCE := hide hcell
      obtain ⟨E, hE⟩ : ∃ E, Hid (fstE n X = E) := ⟨_, rfl⟩
      rw [hE.out]
      clear hc hcell HV
      go_enter Tryd.func27, Tryd.ntmps27
      go_wp2_with fail
      refine HIN.out.mono ?_
      rintro e w1 ⟨rfl, hb1⟩
      have k1 : w1.cell? ⟨w.heap.size, 1, none⟩ = some (.int .i64 n) := by rw [hb1.cell (p := ⟨w.heap.size, 1, none⟩) (by simp)]; exact d1
      have k2 : w1.cell? ⟨w.heap.size, 2, none⟩ = some (.slice (some ⟨b, off, none⟩) m vc) := by rw [hb1.cell (p := ⟨w.heap.size, 2, none⟩) (by simp)]; exact d2
      have HB1 := hide (HB0.out.trans (hb1.mono HB0.out.size))
      clear hb1 HB0 HIN d0 d1 d2
      go_wp2
      go_loopw [4] (fun i wr => ∃ k : Nat, k ≤ m ∧ i = .int .i64 k ∧ Hid (E = fstE n (X.drop k)) ∧ Hid (Below w.heap.size w wr) ∧ wr.cell? ⟨w.heap.size, 1, none⟩ = some (.int .i64 n) ∧ wr.cell? ⟨w.heap.size, 2, none⟩ = some (.slice (some ⟨b, off, none⟩) m vc)) (fun i _ => m - (intOf i).toNat)
      case atStart => exact ⟨0, by omega, rfl, hE.out.symm, HB1, k1, k2⟩
      case round =>
        clear k1 k2 HB1
        obtain ⟨k, hk, rfl, hEk, hbw, k1, k2⟩ := hrel
        by_cases hlt : k < m
        · have hkX : k < X.length := by rw [hm.out]; exact hlt
          obtain ⟨p, c, hcx, hix⟩ := HCE.out k hlt
          have gx := (hbw.out.cell (p := ⟨b, off + k, none⟩) (by exact hbl)).trans hcx
          have HC := hide (fun (W : World) (hW : Below w.heap.size w W) => changeMay_all n (.slice p (X.getD k []).length c) (X.getD k []) W (hix.out.below hW))
          have HEZ : Hid (pc n (X.getD k []) = 0 → E = fstE n (X.drop (k + 1))) := fun hz => hEk.out.trans (fstE_ok hkX hz)
          have HEB : Hid (pc n (X.getD k []) ≠ 0 → E = pc n (X.getD k [])) := fun hz => hEk.out.trans (fstE_bad hkX hz)
          clear hcx hix hEk
          generalize (X.getD k []).length = pl at *
          generalize pc n (X.getD k []) = pe at *
          have HC2 : ∀ W : World, Below w.heap.size w W → Calls Tryd.prog 28 #[.int .i64 n, .slice p pl c] W fun e w' => e = .returned (.int .i64 pe) ∧ W = w' := HC.out
          clear HC
          go_wp2_with fail
          go_quiet ((go_at_call 28; exact Calls.quiet_of_same ((HC2 _ (below_drewN hbw.out _)).mono (fun e wq h => ⟨h.1, h.2.symm⟩))))
          have HB3 := hide (below_drewN hbw.out nq)
          have k1' : (wr.drewN nq).cell? ⟨w.heap.size, 1, none⟩ = some (.int .i64 n) := k1
          have k2' : (wr.drewN nq).cell? ⟨w.heap.size, 2, none⟩ = some (.slice (some ⟨b, off, none⟩) m vc) := k2
          generalize wr.drewN nq = w3 at *
          clear k1 k2 hbw gx HC2
          by_cases hz : pe = 0
          · have HEN := hide (HEZ.out hz)
            subst hz
            clear HEZ HEB
            go_wp2
            go_roundw
            case rel => exact ⟨k + 1, by omega, by go_num, HEN, HB3, k1', k2'⟩
            case measure => simp [intOf]; omega
          · have HEN := hide (HEB.out hz)
            have hzz : (pe != 0) = true := by simpa using hz
            clear HEZ HEB hz
            go_wp2
            go_ret
            exact ⟨ret_int HEN.out.symm, HB3.out⟩
        · obtain rfl : k = m := by omega
          have HEN : Hid (E = 0) := by show E = 0; rw [hEk.out, List.drop_eq_nil_of_le (by rw [hm.out]; exact Nat.le_refl _)]; rfl
          clear hEk
          go_wp2
          go_ret
          exact ⟨ret_int HEN.out.symm, hbw.out⟩

end Go.Proofs.YtenpkhalgkodbaaDoor

/- Calls in memory; contracts: call.Sign's rest, truth.ByHeads' closure, slices.ContainsFunc where none is found. -/
namespace Go.Proofs.YtenpkhalgkodbaaDoor
open Go.RowKit

/-- The slice value v reads as calls: signs, and changes as places. -/
def CallsAt (w : World) (v : Value) (cs : List (Int × List (List Int))) : Prop :=
  ∃ b off cap, v = .slice (some ⟨b, off, none⟩) cs.length cap ∧ b < w.heap.size ∧ cs.length ≤ cap ∧ cap ≤ 9223372036854775807 ∧
    ∀ k, k < cs.length → ∃ u, w.cell? ⟨b, off + k * 2, none⟩ = some (.int .i32 (cs.getD k (0, [])).1) ∧ w.cell? ⟨b, off + k * 2 + 1, none⟩ = some u ∧ IntsAll w u (cs.getD k (0, [])).2

theorem CallsAt.below {w w' : World} {v : Value} {cs : List (Int × List (List Int))} (h : CallsAt w v cs) (hb : Below w.heap.size w w') : CallsAt w' v cs := by
  obtain ⟨b, off, cap, h1, h2, h3, h4, h5⟩ := h
  refine ⟨b, off, cap, h1, Nat.lt_of_lt_of_le h2 hb.size, h3, h4, fun k hk => ?_⟩
  obtain ⟨u, a1, a2, a3⟩ := h5 k hk
  exact ⟨u, (hb.cell (p := ⟨b, off + k * 2, none⟩) h2).trans a1, (hb.cell (p := ⟨b, off + k * 2 + 1, none⟩) h2).trans a2, a3.below hb⟩

theorem Tryd.size50 : (Tryd.prog.info? 50).map (·.size) = some 2 := by kernel_rfl

end Go.Proofs.YtenpkhalgkodbaaDoor

/- Plain: runes that may be signs of calls. -/
namespace Go.Proofs.YtenpkhalgkodbaaDoor
open Go.RowKit

/-- A rune that may be a call's sign. -/
def sgnR (c : Int) : Bool := decide (33 ≤ c ∧ c ≤ 12287 ∧ ¬ (48 ≤ c ∧ c ≤ 57) ∧ c ≠ 40 ∧ c ≠ 41 ∧ (c < 127 ∨ 160 < c))

theorem sgn_letter {c : Int} (h : 97 ≤ c ∧ c ≤ 122) : sgnR c = true := by
  unfold sgnR
  exact decide_eq_true (by omega)

end Go.Proofs.YtenpkhalgkodbaaDoor

/- Contracts: call.Sign; call.find where none is found. -/
namespace Go.Proofs.YtenpkhalgkodbaaDoor
open Go.RowKit

set_option maxRecDepth 20000 in
set_option maxHeartbeats 1000000 in
theorem cdigit_any (r : Int) (w : World) : Calls Tryd.prog 24 #[.int .i32 r] w fun e w' => e = .returned (.bool (decide (48 ≤ r ∧ r ≤ 57))) ∧ w = w' := by
  by_cases h1 : 48 ≤ r
  · by_cases h2 : r ≤ 57
    · rw [decide_eq_true ⟨h1, h2⟩]
      go_enter Tryd.func24, Tryd.ntmps24
      go_wp2
      go_ret
      first | exact ⟨rfl, rfl⟩ | exact ⟨by simp; omega, rfl⟩
    · rw [decide_eq_false (fun h => h2 h.2)]
      go_enter Tryd.func24, Tryd.ntmps24
      go_wp2
      go_ret
      first | exact ⟨rfl, rfl⟩ | exact ⟨by simp; omega, rfl⟩
  · rw [decide_eq_false (fun h => h1 h.1)]
    go_enter Tryd.func24, Tryd.ntmps24
    go_wp2
    go_ret
    first | exact ⟨rfl, rfl⟩ | exact ⟨by simp; omega, rfl⟩

set_option maxRecDepth 20000 in
set_option maxHeartbeats 2000000 in
theorem sign_any (r : Int) (w : World) : Calls Tryd.prog 6 #[.int .i32 r] w fun e w' => e = .returned (.bool (sgnR r)) ∧ w = w' := by
  have HD := hide (cdigit_any r w)
  by_cases d0 : 48 ≤ r ∧ r ≤ 57
  · have HP : Hid (sgnR r = false) := by unfold sgnR; exact decide_eq_false (by omega)
    have hdg : decide (48 ≤ r ∧ r ≤ 57) = true := decide_eq_true (by omega)
    rw [hdg] at HD
    clear hdg d0
    generalize sgnR r = R at *
    go_enter Tryd.func6, Tryd.ntmps6
    go_wp2_with fail
    refine HD.out.mono ?_
    rintro e w' ⟨rfl, rfl⟩
    go_wp2
    go_ret
    exact ⟨ret_bool HP.out.symm, rfl⟩
  by_cases d1 : r = 40
  · have HP : Hid (sgnR r = false) := by unfold sgnR; exact decide_eq_false (by omega)
    have hdg : decide (48 ≤ r ∧ r ≤ 57) = false := decide_eq_false (by omega)
    rw [hdg] at HD
    have e1 : (r == 40) = true := by rw [beq_iff_eq]; omega
    clear hdg d0 d1
    generalize sgnR r = R at *
    go_enter Tryd.func6, Tryd.ntmps6
    go_wp2_with fail
    refine HD.out.mono ?_
    rintro e w' ⟨rfl, rfl⟩
    go_wp2
    go_ret
    exact ⟨ret_bool HP.out.symm, rfl⟩
  by_cases d2 : r = 41
  · have HP : Hid (sgnR r = false) := by unfold sgnR; exact decide_eq_false (by omega)
    have hdg : decide (48 ≤ r ∧ r ≤ 57) = false := decide_eq_false (by omega)
    rw [hdg] at HD
    have e1 : (r == 40) = false := by rw [beq_eq_false_iff_ne]; omega
    have e2 : (r == 41) = true := by rw [beq_iff_eq]; omega
    clear hdg d0 d1 d2
    generalize sgnR r = R at *
    go_enter Tryd.func6, Tryd.ntmps6
    go_wp2_with fail
    refine HD.out.mono ?_
    rintro e w' ⟨rfl, rfl⟩
    go_wp2
    go_ret
    exact ⟨ret_bool HP.out.symm, rfl⟩
  by_cases d3 : 127 ≤ r ∧ r ≤ 160
  · have HP : Hid (sgnR r = false) := by unfold sgnR; exact decide_eq_false (by omega)
    have hdg : decide (48 ≤ r ∧ r ≤ 57) = false := decide_eq_false (by omega)
    rw [hdg] at HD
    have e1 : (r == 40) = false := by rw [beq_eq_false_iff_ne]; omega
    have e2 : (r == 41) = false := by rw [beq_eq_false_iff_ne]; omega
    have e3 : 127 ≤ r := by omega
    have e4 : r ≤ 160 := by omega
    clear hdg d0 d1 d2 d3
    generalize sgnR r = R at *
    go_enter Tryd.func6, Tryd.ntmps6
    go_wp2_with fail
    refine HD.out.mono ?_
    rintro e w' ⟨rfl, rfl⟩
    go_wp2
    go_ret
    exact ⟨ret_bool HP.out.symm, rfl⟩
  by_cases d4 : r < 33
  · have HP : Hid (sgnR r = false) := by unfold sgnR; exact decide_eq_false (by omega)
    have hdg : decide (48 ≤ r ∧ r ≤ 57) = false := decide_eq_false (by omega)
    rw [hdg] at HD
    have e1 : (r == 40) = false := by rw [beq_eq_false_iff_ne]; omega
    have e2 : (r == 41) = false := by rw [beq_eq_false_iff_ne]; omega
    have e3 : ¬ 127 ≤ r := by omega
    have e5 : ¬ 33 ≤ r := by omega
    clear hdg d0 d1 d2 d3 d4
    generalize sgnR r = R at *
    go_enter Tryd.func6, Tryd.ntmps6
    go_wp2_with fail
    refine HD.out.mono ?_
    rintro e w' ⟨rfl, rfl⟩
    go_wp2
    go_ret
    exact ⟨ret_bool HP.out.symm, rfl⟩
  by_cases d5 : 12287 < r
  · have HP : Hid (sgnR r = false) := by unfold sgnR; exact decide_eq_false (by omega)
    have hdg : decide (48 ≤ r ∧ r ≤ 57) = false := decide_eq_false (by omega)
    rw [hdg] at HD
    have e1 : (r == 40) = false := by rw [beq_eq_false_iff_ne]; omega
    have e2 : (r == 41) = false := by rw [beq_eq_false_iff_ne]; omega
    have e3 : 127 ≤ r := by omega
    have e4 : ¬ r ≤ 160 := by omega
    have e5 : 33 ≤ r := by omega
    have e6 : ¬ r ≤ 12287 := by omega
    have e7 : decide (r ≤ 12287) = false := decide_eq_false e6
    have E7 := hide e7
    clear hdg d0 d1 d2 d3 d4 d5
    generalize sgnR r = R at *
    go_enter Tryd.func6, Tryd.ntmps6
    go_wp2_with fail
    refine HD.out.mono ?_
    rintro e w' ⟨rfl, rfl⟩
    go_wp2
    go_ret
    first | exact ⟨ret_bool HP.out.symm, rfl⟩ | exact ⟨ret_bool (E7.out.trans HP.out.symm), rfl⟩
  by_cases d6 : 127 ≤ r
  · have HP : Hid (sgnR r = true) := by unfold sgnR; exact decide_eq_true (by omega)
    have hdg : decide (48 ≤ r ∧ r ≤ 57) = false := decide_eq_false (by omega)
    rw [hdg] at HD
    have e1 : (r == 40) = false := by rw [beq_eq_false_iff_ne]; omega
    have e2 : (r == 41) = false := by rw [beq_eq_false_iff_ne]; omega
    have e3 : 127 ≤ r := by omega
    have e4 : ¬ r ≤ 160 := by omega
    have e5 : 33 ≤ r := by omega
    have e6 : r ≤ 12287 := by omega
    clear hdg d0 d1 d2 d3 d4 d5 d6
    generalize sgnR r = R at *
    go_enter Tryd.func6, Tryd.ntmps6
    go_wp2_with fail
    refine HD.out.mono ?_
    rintro e w' ⟨rfl, rfl⟩
    go_wp2
    go_ret
    exact ⟨ret_bool HP.out.symm, rfl⟩
  have HP : Hid (sgnR r = true) := by unfold sgnR; exact decide_eq_true (by omega)
  have hdg : decide (48 ≤ r ∧ r ≤ 57) = false := decide_eq_false (by omega)
  rw [hdg] at HD
  have e1 : (r == 40) = false := by rw [beq_eq_false_iff_ne]; omega
  have e2 : (r == 41) = false := by rw [beq_eq_false_iff_ne]; omega
  have e3 : ¬ 127 ≤ r := by omega
  have e5 : 33 ≤ r := by omega
  have e6 : r ≤ 12287 := by omega
  clear hdg d0 d1 d2 d3 d4 d5 d6
  generalize sgnR r = R at *
  go_enter Tryd.func6, Tryd.ntmps6
  go_wp2_with fail
  refine HD.out.mono ?_
  rintro e w' ⟨rfl, rfl⟩
  go_wp2
  go_ret
  exact ⟨ret_bool HP.out.symm, rfl⟩

set_option maxRecDepth 20000 in
set_option maxHeartbeats 1000000 in
theorem isSign_ok (r s : Int) (u : Value) (B : Nat) (w : World) (hB : w.cell? ⟨B, 0, none⟩ = some (.int .i32 s)) (hb : B < w.heap.size) (hne : r ≠ s) :
    Calls Tryd.prog 72 #[.agg #[.int .i32 r, u], .pointer (some ⟨B, 0, none⟩)] w fun e w' => e = .returned (.bool false) ∧ Below w.heap.size w w' := by
  have hne' : (r == s) = false := by rw [beq_eq_false_iff_ne]; exact hne
  have hB1 : Below w.heap.size w (w.alloc (.cells #[.int .i32 r, u] 50)) := (Below.refl _ _).alloc (Nat.le_refl _) _
  have g1 : (w.alloc (.cells #[.int .i32 r, u] 50)).cell? ⟨B, 0, none⟩ = some (.int .i32 s) := (hB1.cell (p := ⟨B, 0, none⟩) hb).trans hB
  have g2 : (w.alloc (.cells #[.int .i32 r, u] 50)).cell? ⟨w.heap.size, 0, none⟩ = some (.int .i32 r) := by
    have h9 := heap_alloc_new w (.cells #[.int .i32 r, u] 50)
    unfold World.cell?
    simp only [h9]
    rfl
  clear hB
  go_enter Tryd.func72, Tryd.ntmps72
  go_wp2
  go_ret
  exact ⟨rfl, hB1⟩

set_option maxRecDepth 20000 in
set_option maxHeartbeats 1000000 in
theorem indexSign_none (s : Int) (B : Nat) (b off m cap : Nat) (w : World) (hB : w.cell? ⟨B, 0, none⟩ = some (.int .i32 s)) (hb : B < w.heap.size) (hbl : b < w.heap.size)
    (hcell : ∀ k, k < m → ∃ r u, w.cell? ⟨b, off + k * 2, none⟩ = some (.int .i32 r) ∧ w.cell? ⟨b, off + k * 2 + 1, none⟩ = some u ∧ r ≠ s ∧ u.oneCell' = true) (hm3 : m ≤ 1000) :
    Calls Tryd.prog 71 #[.slice (some ⟨b, off, none⟩) m cap, .func (.func 72) #[] #[.pointer (some ⟨B, 0, none⟩)]] w fun e w' => e = .returned (.int .i64 (-1)) ∧ Below w.heap.size w w' := by
  have HC := hide hcell
  have HB := hide hB
  clear hcell hB
  go_enter Tryd.func71, Tryd.ntmps71
  go_wp2
  go_loopw [8] (fun i wr => ∃ k : Nat, k ≤ m ∧ i = .int .i64 k ∧ Below w.heap.size w wr) (fun i _ => m - (intOf i).toNat)
  case atStart => exact ⟨0, by omega, rfl, Below.refl _ _⟩
  case round =>
    obtain ⟨k, hk, rfl, hbw⟩ := hrel
    have hbs := hbw.size
    by_cases hlt : k < m
    · obtain ⟨r, u, a1, a2, a3, a4⟩ := HC.out k hlt
      have g1 : wr.cell? ⟨b, off + k * 2, none⟩ = some (.int .i32 r) := (hbw.cell (by exact hbl)).trans a1
      have g2 : wr.cell? ⟨b, off + k * 2 + 1, none⟩ = some u := (hbw.cell (p := ⟨b, off + k * 2 + 1, none⟩) (by exact hbl)).trans a2
      have HK := hide (isSign_ok r s u B wr ((hbw.cell (p := ⟨B, 0, none⟩) hb).trans HB.out) (by omega) a3)
      clear a1 a2 a3
      go_wp2_with fail
      refine HK.out.mono ?_
      rintro e w2 ⟨rfl, hb2⟩
      have hB2 : Below w.heap.size w w2 := hbw.trans (hb2.mono hbs)
      clear hb2
      go_wp2
      go_roundw
      case rel => exact ⟨k + 1, by omega, by go_num, hB2⟩
      case measure => simp [intOf]; omega
    · go_wp2
      go_ret
      exact ⟨rfl, hbw⟩

set_option maxRecDepth 20000 in
set_option maxHeartbeats 1000000 in
theorem find_none (s : Int) (b off m cap : Nat) (w : World) (hbl : b < w.heap.size)
    (hcell : ∀ k, k < m → ∃ r u, w.cell? ⟨b, off + k * 2, none⟩ = some (.int .i32 r) ∧ w.cell? ⟨b, off + k * 2 + 1, none⟩ = some u ∧ r ≠ s ∧ u.oneCell' = true) (hm3 : m ≤ 1000) :
    Calls Tryd.prog 49 #[.slice (some ⟨b, off, none⟩) m cap, .int .i32 s] w fun e w' => e = .returned (.int .i64 (-1)) ∧ Below w.heap.size w w' := by
  have hmf : ∀ (fn : Fn) (first cap : Array Value) (w : World), (Instr.makeFunc fn first cap).run Tryd.prog w = .ok (.func fn first cap) w := fun _ _ _ _ => rfl
  have hB1 : Below w.heap.size w (w.alloc (.cells #[.int .i32 s] 21)) := (Below.refl _ _).alloc (Nat.le_refl _) _
  have h9 := heap_alloc_new w (.cells #[.int .i32 s] 21)
  have HI := hide (indexSign_none s w.heap.size b off m cap (w.alloc (.cells #[.int .i32 s] 21)) (by unfold World.cell?; simp only [h9]; rfl) (by simp) (by simp; omega) (fun k hk => by
    obtain ⟨r, u, a1, a2, a3⟩ := hcell k hk
    exact ⟨r, u, (hB1.cell (p := ⟨b, off + k * 2, none⟩) hbl).trans a1, (hB1.cell (p := ⟨b, off + k * 2 + 1, none⟩) hbl).trans a2, a3⟩) hm3)
  clear hcell h9
  go_enter Tryd.func49, Tryd.ntmps49
  go_wp2_with fail
  refine HI.out.mono ?_
  rintro e w2 ⟨rfl, hb2⟩
  have hB2 : Below w.heap.size w w2 := hB1.trans (hb2.mono (by simp))
  clear hb2 hB1
  go_wp2
  go_ret
  exact ⟨rfl, hB2⟩

set_option maxRecDepth 20000 in
set_option maxHeartbeats 2000000 in
theorem checkOne_ok (sn : ByteArray) (n : Int) (vp : Option Addr) (k vc : Nat) (s : Int) (cv : Value) (css : List (List Int)) (b off m cap : Nat) (w : World) (h1 : 1 ≤ n) (h2 : n ≤ 12) (hs1 : sgnR s = true) (hbl : b < w.heap.size)
    (hcell : ∀ k, k < m → ∃ r u, w.cell? ⟨b, off + k * 2, none⟩ = some (.int .i32 r) ∧ w.cell? ⟨b, off + k * 2 + 1, none⟩ = some u ∧ r ≠ s ∧ u.oneCell' = true) (hm3 : m ≤ 1000)
    (hcv : IntsAll w cv css) (hl : css.length ≤ k) (hok : ∀ j, j < css.length → okc n 0 (css.getD j []) = true) :
    Calls Tryd.prog 26 #[meth sn n (.slice vp k vc), .slice (some ⟨b, off, none⟩) m cap, .agg #[.int .i32 s, cv]] w fun e w' => e = .returned (.int .i64 0) ∧ Below w.heap.size w w' := by
  obtain ⟨cp, cc, rfl⟩ := hcv.len
  have hBW : Below w.heap.size w ((w.alloc (.cells #[.string sn, .int .i64 n, .slice vp k vc] 24)).alloc (.cells #[.int .i32 s, .slice cp css.length cc] 50)) := ((Below.refl _ _).alloc (Nat.le_refl _) _).alloc (by simp) _
  have hbox := ((Box.start w sn n (.slice vp k vc) 24).below ((Below.refl _ _).alloc (Nat.le_refl _) (.cells #[.int .i32 s, .slice cp css.length cc] 50)))
  have h9 := heap_alloc_new (w.alloc (.cells #[.string sn, .int .i64 n, .slice vp k vc] 24)) (.cells #[.int .i32 s, .slice cp css.length cc] 50)
  rw [show (w.alloc (.cells #[.string sn, .int .i64 n, .slice vp k vc] 24)).heap.size = w.heap.size + 1 from by simp] at h9
  have c0 : ((w.alloc (.cells #[.string sn, .int .i64 n, .slice vp k vc] 24)).alloc (.cells #[.int .i32 s, .slice cp css.length cc] 50)).cell? ⟨w.heap.size + 1, 0, none⟩ = some (.int .i32 s) := by
    unfold World.cell?; simp only [h9]; rfl
  have c1 : ((w.alloc (.cells #[.string sn, .int .i64 n, .slice vp k vc] 24)).alloc (.cells #[.int .i32 s, .slice cp css.length cc] 50)).cell? ⟨w.heap.size + 1, 1, none⟩ = some (.slice cp css.length cc) := by
    unfold World.cell?; simp only [h9]; rfl
  have HSG := hide (fun W => sign_any s W)
  rw [hs1] at HSG
  have HFD := hide (fun W (hb : Below w.heap.size w W) => find_none s b off m cap W (Nat.lt_of_lt_of_le hbl hb.size) (fun k hk => by
    obtain ⟨r, u, a1, a2, a3⟩ := hcell k hk
    exact ⟨r, u, (hb.cell (p := ⟨b, off + k * 2, none⟩) hbl).trans a1, (hb.cell (p := ⟨b, off + k * 2 + 1, none⟩) hbl).trans a2, a3⟩) hm3)
  have HCV := hide hcv
  have HOK := hide hok
  have HBX := hide hbox
  clear hcell hcv hok h9 hbox
  unfold meth
  go_enter Tryd.func26, Tryd.ntmps26
  go_wp2_with fail
  refine (HSG.out _).mono ?_
  rintro e w' ⟨rfl, rfl⟩
  go_wp2_with fail
  refine (HFD.out _ hBW).mono ?_
  rintro e w2 ⟨rfl, hb2⟩
  have hB2 : Below w.heap.size w w2 := hBW.trans (hb2.mono hBW.size)
  have d1 : w2.cell? ⟨w.heap.size + 1, 1, none⟩ = some (.slice cp css.length cc) := (hb2.cell (p := ⟨w.heap.size + 1, 1, none⟩) (by simp)).trans c1
  have hx2 := HBX.out.below hb2
  have e1 := hx2.c1
  have e2 := hx2.c2
  have hgt : ¬ (((k : Nat) : Int) < ((css.length : Nat) : Int)) := by omega
  have hgd : decide (((k : Nat) : Int) < ((css.length : Nat) : Int)) = false := decide_eq_false hgt
  have hgn : decide (k < css.length) = false := decide_eq_false (by omega)
  have HB2 := hide hB2
  have HE1 := hide e1
  clear c0 c1 hb2 HSG HFD hBW HBX hx2 hB2 hl hgt
  go_wp2
  go_loopw [32] (fun i wr => ∃ j : Nat, j ≤ css.length ∧ i = .int .i64 j ∧ Hid (Below w.heap.size w wr) ∧ Hid (wr.cell? ⟨w.heap.size, 1, none⟩ = some (.int .i64 n))) (fun i _ => css.length - (intOf i).toNat)
  case atStart => exact ⟨0, by omega, rfl, HB2, HE1⟩
  case round =>
    clear e1 HB2 HE1 d1 e2
    obtain ⟨j, hj, rfl, hbw, hen⟩ := hrel
    have hB2 := hbw.out
    have e1 := hen.out
    by_cases hlt : j < css.length
    · obtain ⟨b3, off3, cap3, he, hb3, hlc3, hcm3, hcell3⟩ := (HCV.out.below hB2).cell (by omega)
      simp only [Value.slice.injEq] at he
      obtain ⟨rfl, he2, rfl⟩ := he
      clear he2
      obtain ⟨q, c, hce, hint⟩ := hcell3 j hlt
      have HPC := hide (pcheck_any n _ _ _ h1 h2 hint.out)
      rw [show pck n (css.getD j []) = 0 from by unfold pck; rw [if_pos (HOK.out j hlt)]] at HPC
      clear hint hcell3
      generalize (css.getD j []).length = pl at hce HPC
      go_wp2_with fail
      refine HPC.out.mono ?_
      rintro e w' ⟨rfl, rfl⟩
      go_wp2
      go_roundw
      case rel => exact ⟨j + 1, by omega, by go_num, hbw, hen⟩
      case measure => simp [intOf]; omega
    · go_wp2
      go_ret
      exact ⟨rfl, hB2⟩

end Go.Proofs.YtenpkhalgkodbaaDoor

/- Contract: call.Check, where all may be. -/
namespace Go.Proofs.YtenpkhalgkodbaaDoor
open Go.RowKit

theorem below_drewJ (w : World) : Below w.heap.size w w.drew := (Below.refl _ _).drew

/-- What calls must be. -/
structure CallsOk (n : Int) (k : Nat) (cs : List (Int × List (List Int))) : Prop where
  sign : ∀ j, j < cs.length → sgnR (cs.getD j (0, [])).1 = true
  dist : ∀ i j, i < j → j < cs.length → (cs.getD i (0, [])).1 ≠ (cs.getD j (0, [])).1
  few : ∀ j, j < cs.length → (cs.getD j (0, [])).2.length ≤ k
  ok : ∀ j, j < cs.length → ∀ q, q < (cs.getD j (0, [])).2.length → okc n 0 ((cs.getD j (0, [])).2.getD q []) = true

set_option maxRecDepth 20000 in
set_option maxHeartbeats 4000000 in
theorem ccheck_ok (s : ByteArray) (n : Nat) (vp : Option Addr) (vc : Nat) (css : List (List Int)) (cv : Value) (cs : List (Int × List (List Int))) (w : World) (hs : s.size ≤ 9223372036854775807) (hn : nm s = true) (h1 : 2 ≤ n) (h2 : n ≤ 12) (hl1 : 1 ≤ css.length) (hl2 : css.length ≤ 200)
    (hv : IntsAll w (.slice vp css.length vc) css) (hok : ∀ k, k < css.length → okc n 0 (css.getD k []) = true) (hcv : CallsAt w cv cs) (hco : CallsOk n css.length cs) (hc1 : 1 ≤ cs.length) (hc2 : cs.length ≤ 8) :
    Calls Tryd.prog 8 #[meth s n (.slice vp css.length vc), cv] w fun e w' => e = .returned (.int .i64 0) ∧ Below w.heap.size w w' := by
  have hB0 : Below w.heap.size w (w.alloc (.cells #[.string s, .int .i64 n, .slice vp css.length vc] 24)) := (Below.refl _ _).alloc (Nat.le_refl _) _
  have HMC := hide (mcheck_ok s n (.slice vp css.length vc) css (w.alloc (.cells #[.string s, .int .i64 n, .slice vp css.length vc] 24)) hs hn h1 h2 hl1 hl2 (hv.below hB0) hok)
  have hbox := Box.start w s n (.slice vp css.length vc) 24
  obtain ⟨b, off, cap, rfl, hb, hlc, hcm, hcell⟩ := hcv
  have HC := hide hcell
  have HCO := hide hco
  have HBX := hide hbox
  clear hn hv hok hco hcell hbox
  generalize css.length = K at *
  unfold meth at HMC
  unfold meth
  go_enter Tryd.func8, Tryd.ntmps8
  go_wp2_with fail
  refine HMC.out.mono ?_
  rintro e w1 ⟨rfl, hb1⟩
  have hB1 : Below w.heap.size w w1 := hB0.trans (hb1.mono (by simp))
  have HX1 := hide (HBX.out.below hb1)
  clear HMC HBX hb1 hB0
  go_wp2
  go_loopw [24] (fun i wr => ∃ j : Nat, j ≤ cs.length ∧ i = .int .i64 j ∧ Hid (Box wr w.heap.size s n (.slice vp K vc)) ∧ Below w.heap.size w wr) (fun i _ => cs.length - (intOf i).toNat)
  case atStart => exact ⟨0, by omega, rfl, HX1, hB1⟩
  case round =>
    clear HX1 hB1
    obtain ⟨j, hj, rfl, hX, hbw⟩ := hrel
    have hbs := hbw.size
    by_cases hlt : j < cs.length
    · obtain ⟨u, a1, a2, a3⟩ := HC.out j hlt
      have g1 : wr.cell? ⟨b, off + j * 2, none⟩ = some (.int .i32 (cs.getD j (0, [])).1) := (hbw.cell (by exact hb)).trans a1
      have g2 : wr.cell? ⟨b, off + j * 2 + 1, none⟩ = some u := (hbw.cell (p := ⟨b, off + j * 2 + 1, none⟩) (by exact hb)).trans a2
      obtain ⟨up, uc, rfl⟩ := a3.len
      have HCK := hide (fun W (hW : Below w.heap.size w W) => checkOne_ok s n vp K vc (cs.getD j (0, [])).1 (.slice up (cs.getD j (0, [])).2.length uc) (cs.getD j (0, [])).2 b off j cap W (by omega) (by omega) (HCO.out.sign j hlt) (Nat.lt_of_lt_of_le hb hW.size) (fun i hi => by
        obtain ⟨u', b1, b2, b3⟩ := HC.out i (by omega)
        obtain ⟨p', c', e'⟩ := b3.len
        exact ⟨_, u', (hW.cell (p := ⟨b, off + i * 2, none⟩) hb).trans b1, (hW.cell (p := ⟨b, off + i * 2 + 1, none⟩) hb).trans b2, HCO.out.dist i j hi hlt, by rw [e']; rfl⟩) (by omega) (a3.below hW) (HCO.out.few j hlt) (HCO.out.ok j hlt))
      clear a1 a2 a3
      generalize (cs.getD j (0, [])).1 = sg at *
      generalize (cs.getD j (0, [])).2.length = ul at *
      go_upto_region 9 with fail
      have hXA := hX.out.below ((Below.refl wr.heap.size wr).alloc (Nat.le_refl _) (.cells #[.int .i32 sg, .slice up ul uc] 50))
      have h9 := heap_alloc_new wr (.cells #[.int .i32 sg, .slice up ul uc] 50)
      have hBA : Below w.heap.size w (wr.alloc (.cells #[.int .i32 sg, .slice up ul uc] 50)) := hbw.alloc hbs _
      have hRA : wr.heap.size < (wr.alloc (.cells #[.int .i32 sg, .slice up ul uc] 50)).heap.size := by simp
      have d0 : (wr.alloc (.cells #[.int .i32 sg, .slice up ul uc] 50)).cell? ⟨wr.heap.size, 0, none⟩ = some (.int .i32 sg) := by unfold World.cell?; simp only [h9]; rfl
      have d1 : (wr.alloc (.cells #[.int .i32 sg, .slice up ul uc] 50)).cell? ⟨wr.heap.size, 1, none⟩ = some (.slice up ul uc) := by unfold World.cell?; simp only [h9]; rfl
      have b0 := hXA.c0
      have b1 := hXA.c1
      have b2 := hXA.c2
      have hbl := hXA.lt
      have HXA := hide hXA
      clear h9 g1 g2 hX hXA
      generalize (wr.alloc (.cells #[.int .i32 sg, .slice up ul uc] 50)) = WA at *
      generalize wr.heap.size = RA at *
      refine wp_region_held_drew (S := fun W' => Below WA.heap.size WA W') (by kernel_rfl) (below_drewJ WA) (fun hS => ?_)
      refine wpAnyH_take (i := 0) (v := .agg #[.string s, .int .i64 (n : Int), .slice vp K vc]) rfl (by kernel_rfl) (by kernel_rfl) (by kernel_rfl) (fun _ _ _ h => h) (Or.inl ⟨by kernel_rfl, fun w' hS' => by have q0 := (Below.cell hS' (p := ⟨w.heap.size, 0, none⟩) (by exact hbl)).trans b0; have q1 := (Below.cell hS' (p := ⟨w.heap.size, 1, none⟩) (by exact hbl)).trans b1; have q2 := (Below.cell hS' (p := ⟨w.heap.size, 2, none⟩) (by exact hbl)).trans b2; clear hS'; go_simp⟩) hS ?_
      refine wpAnyH_take (i := 1) (v := .slice (some ⟨b, off, none⟩) cs.length cap) rfl (by kernel_rfl) (by kernel_rfl) (by kernel_rfl) (fun _ _ _ h => h) (Or.inl ⟨by kernel_rfl, fun w' hS' => by clear hS'; go_simp⟩) hS ?_
      refine wpAnyH_take (i := 2) (v := .int .i64 (j : Int)) rfl (by kernel_rfl) (by kernel_rfl) (by kernel_rfl) (fun _ _ _ h => h) (Or.inl ⟨by kernel_rfl, fun w' hS' => by clear hS'; go_simp⟩) hS ?_
      refine wpAnyH_take (i := 3) (v := .slice (some ⟨b, off, none⟩) j cap) rfl (by kernel_rfl) (by kernel_rfl) (by kernel_rfl) (fun _ _ _ h => h) (Or.inl ⟨by kernel_rfl, fun w' hS' => by clear hS'; go_simp; intro h0; exact absurd h0 (by omega)⟩) hS ?_
      refine wpAnyH_take (i := 4) (v := .agg #[.int .i32 sg, .slice up ul uc]) rfl (by kernel_rfl) (by kernel_rfl) (by kernel_rfl) (fun _ _ _ h => h) (Or.inl ⟨by kernel_rfl, fun w' hS' => by have q0 := (Below.cell hS' (p := ⟨RA, 0, none⟩) (by exact hRA)).trans d0; have q1 := (Below.cell hS' (p := ⟨RA, 1, none⟩) (by exact hRA)).trans d1; clear hS'; go_simp⟩) hS ?_
      refine wpAnyH_ready (rs := [5]) (by kernel_rfl) (by simp) ?_
      refine AllReadyH.cons rfl (fun K hK => ?_) AllReadyH.nil
      go_simp
      have hS0 := below_drewJ WA
      refine (HCK.out WA.drew (hBA.trans (hS0.mono hBA.size))).mono ?_
      rintro ex wo ⟨rfl, hbo⟩
      have hSo : Below WA.heap.size WA wo := hS0.trans (hbo.mono hS0.size)
      refine hK.out _ _ hSo (fun hS => ?_)
      clear hK
      refine wpAnyH_take (i := 6) (v := .int .i64 0) rfl (by kernel_rfl) (by kernel_rfl) (by kernel_rfl) (fun _ _ _ h => h) (Or.inl ⟨by kernel_rfl, fun w' hS' => by clear hS'; go_simp⟩) hS ?_
      refine wpAnyH_done (by kernel_rfl) ?_ _
      have HXo := hide (HXA.out.below hSo)
      have hBo : Below w.heap.size w wo := hBA.trans (hSo.mono hBA.size)
      clear hSo hbo hS0 HCK HXA
      go_wp2
      go_roundw
      case rel => exact ⟨j + 1, by omega, by go_num, HXo, hBo⟩
      case measure => simp [intOf]; omega
    · go_wp2
      go_ret
      exact ⟨rfl, hbw⟩

end Go.Proofs.YtenpkhalgkodbaaDoor

/- Contract: Pick. -/
namespace Go.Proofs.YtenpkhalgkodbaaDoor
open Go.RowKit

set_option maxHeartbeats 400000 in
theorem pick_any (c n : Int) (w : World) (h1 : -9223372036854775808 ≤ c) (h2 : c ≤ 9223372036854775807) (h3 : 0 < n) (h4 : n ≤ 9223372036854775807) :
    Calls Tryd.prog 17 #[.int .i64 c, .int .i64 n] w fun e w' => ∃ k : Int, 0 ≤ k ∧ k < n ∧ e = .returned (.int .i64 k) ∧ w = w' := by
  by_cases h : c < 0
  · go_enter Tryd.func17, Tryd.ntmps17
    go_wp2
    go_ret
    refine ⟨_, ?_, ?_, rfl, rfl⟩
    · rw [← Int.neg_tmod]; exact Int.tmod_nonneg _ (by omega)
    · rw [← Int.neg_tmod]; exact Int.tmod_lt_of_pos _ h3
  · go_enter Tryd.func17, Tryd.ntmps17
    go_wp2
    go_ret
    refine ⟨_, ?_, ?_, rfl, rfl⟩
    · exact Int.emod_nonneg _ (by omega)
    · exact Int.emod_lt_of_pos _ h3

/-- Which of n things a raw number speaks of. -/
def pk (c n : Int) : Int := (if c < 0 then -(c + 1) else c) % n

theorem pk_range (c : Int) {n : Int} (h : 0 < n) : 0 ≤ pk c n ∧ pk c n < n := ⟨Int.emod_nonneg _ (by omega), Int.emod_lt_of_pos _ h⟩

set_option maxHeartbeats 400000 in
theorem pick_det (c n : Int) (w : World) (h1 : -9223372036854775808 ≤ c) (h2 : c ≤ 9223372036854775807) (h3 : 0 < n) (h4 : n ≤ 9223372036854775807) :
    Calls Tryd.prog 17 #[.int .i64 c, .int .i64 n] w fun e w' => e = .returned (.int .i64 (pk c n)) ∧ w = w' := by
  by_cases h : c < 0
  · have HP : Hid (pk c n = (-(c + 1)) % n) := by show _ = _; unfold pk; rw [if_pos h]
    go_enter Tryd.func17, Tryd.ntmps17
    go_wp2
    go_ret
    refine ⟨ret_int ?_, rfl⟩
    rw [HP.out, ← Int.neg_tmod, Int.tmod_eq_emod_of_nonneg (by omega)]
  · have HP : Hid (pk c n = c % n) := by show _ = _; unfold pk; rw [if_neg h]
    go_enter Tryd.func17, Tryd.ntmps17
    go_wp2
    go_ret
    exact ⟨ret_int HP.out.symm, rfl⟩

end Go.Proofs.YtenpkhalgkodbaaDoor

/- Pick: see PickB. -/
namespace Go.Proofs.YtenpkhalgkodbaaDoor
end Go.Proofs.YtenpkhalgkodbaaDoor

/- Contract: Raw. -/
namespace Go.Proofs.YtenpkhalgkodbaaDoor
open Go.RowKit

theorem wrap_I64 (x : Int) : I64 (wrap64 x) := by
  unfold I64 wrap64
  omega

set_option maxRecDepth 20000 in
set_option maxHeartbeats 400000 in
theorem raw_any (v : Value) (xs : List Int) (k : Nat) (w : World) (h : Ints w v xs) (hx : ∀ x, x ∈ xs → I64 x) (hk : k ≤ 1000000) :
    Calls Tryd.prog 42 #[v, .int .i64 k] w fun e w' => ∃ x, I64 x ∧ e = .returned (.int .i64 x) ∧ w = w' := by
  rcases h with ⟨rfl, p, c, rfl⟩ | ⟨b, off, cap, rfl, h0, hc, hm, hb, hcell⟩
  · go_enter Tryd.func42, Tryd.ntmps42
    go_wp2
    go_ret
    exact ⟨0, ⟨by omega, by omega⟩, rfl, rfl⟩
  · have hml : k % xs.length < xs.length := Nat.mod_lt _ h0
    have hme : (k : Int) % (xs.length : Int) = ((k % xs.length : Nat) : Int) := (Int.natCast_emod k xs.length).symm
    obtain ⟨x, hxe, hcx⟩ := cellAt hcell hml
    have hxm : I64 x := hx x (by rw [← hxe.out, List.getElem?_eq_getElem hml]; exact List.getElem_mem hml)
    have hne : ((xs.length : Int) == 0) = false := by rw [beq_eq_false_iff_ne]; omega
    generalize k % xs.length = m at *
    have HX := hide hx
    clear hcell hx hxe
    go_enter Tryd.func42, Tryd.ntmps42
    go_wp2
    go_ret
    exact ⟨x, hxm, rfl, rfl⟩

end Go.Proofs.YtenpkhalgkodbaaDoor

/- Contracts: the answer's LeadsOf; call.checkLeads. -/
namespace Go.Proofs.YtenpkhalgkodbaaDoor
open Go.RowKit

set_option maxRecDepth 20000 in
set_option maxHeartbeats 2000000 in
theorem leadsOf_ok (v : Value) (xs : List Int) (m k : Nat) (w : World) (h : Ints w v xs) (hx : ∀ x, x ∈ xs → I64 x) (hm : m ≤ 1000) (hk1 : 1 ≤ k) (hk2 : k ≤ 1000) :
    Calls Tryd.prog 20 #[v, .int .i64 m, .int .i64 k] w fun e w' => ∃ (u : Value) (ls : List Int), e = .returned u ∧ w'.ownsRow w.heap.size 3 1 u m (ls.map (Value.int .i64)) ∧ (∀ l, l ∈ ls → 0 ≤ l ∧ l < (k : Int)) ∧ Below w.heap.size w w' := by
  obtain ⟨i0, hi, hz0, hz1, hz2⟩ := info_parts Tryd.info3
  obtain ⟨p0, c0, rfl⟩ := h.form
  have HI := hide h
  have HX := hide hx
  clear h hx
  go_enter Tryd.func20, Tryd.ntmps20
  go_wp2
  go_loopw [7, 8] (fun u i wr => ∃ (j : Nat) (ls : List Int), j ≤ m ∧ i = .int .i64 j ∧ Hid (wr.ownsRow w.heap.size 3 1 u j (ls.map (Value.int .i64))) ∧ Hid (∀ l, l ∈ ls → 0 ≤ l ∧ l < (k : Int)) ∧ Below w.heap.size w wr) (fun _ i _ => m - (intOf i).toNat)
  case atStart => exact ⟨0, [], by omega, rfl, World.ownsRow_nil _ _ _ _, (fun l h => by cases h), Below.refl _ _⟩
  case round =>
    obtain ⟨j, ls, hj, rfl, hO, hL, hbw⟩ := hrel
    have hbs := hbw.size
    have hrow := hO.out
    obtain ⟨up, uc, rfl⟩ := owns_slice hrow
    by_cases hlt : j < m
    · have HRW := hide (raw_any _ xs j wr (HI.out.below hbw) HX.out (by omega))
      go_wp2_with fail
      refine HRW.out.mono ?_
      rintro e wa ⟨x, hxi, rfl, rfl⟩
      go_wp2_with fail
      refine (pick_any x (k : Int) _ hxi.1 hxi.2 (by omega) (by omega)).mono ?_
      rintro e wa ⟨q, hq0, hq1, rfl, rfl⟩
      go_wp2_with (at_builtin; refine wpList_append_own _ rfl _ _ 26 rfl w.heap.size 3 i0 (.int .i64 0) 1 8 Tryd.underlying26 hi hz0 hz1 hz2 rfl (by decide) _ _ _ rfl (hrow.alloc _) ⟨wr.heap.size, 0, none⟩ 1 1 [.int .i64 q] rfl rfl ?c1 ?c2 ?c3 ?c4 ?c5 ?_)
      case c1 => exact cell_one_new _ _ _
      case c2 => intro u hu; simp at hu; subst hu; rfl
      case c3 => unfold maxLen; omega
      case c4 => omega
      case c5 => simp; omega
      · intro v' w1 hown' hgrow _
        have HO : Hid (w1.ownsRow w.heap.size 3 1 v' (j + 1) ((ls ++ [q]).map (Value.int .i64))) := by show World.ownsRow _ _ _ _ _ _ _; rw [List.map_append]; exact hown'
        have HL2 : Hid (∀ l, l ∈ ls ++ [q] → 0 ≤ l ∧ l < (k : Int)) := fun l h => by
          rcases List.mem_append.1 h with h | h
          · exact hL.out l h
          · rw [List.mem_singleton] at h; rw [h]; exact ⟨hq0, hq1⟩
        have HB1 : Hid (Below w.heap.size w w1) := (hbw.alloc hbw.size _).grown hgrow (by simp; omega) (fun g hg => (hrow.lt g hg).1)
        clear hown' hgrow hrow hO
        go_wp2
        go_roundw
        case rel => exact ⟨j + 1, ls ++ [q], by omega, by go_num, HO, HL2, HB1.out⟩
        case measure => simp [intOf]; omega
    · obtain rfl : j = m := by omega
      go_wp2
      go_ret
      exact ⟨_, ls, rfl, hrow, hL.out, hbw⟩

set_option maxRecDepth 20000 in
set_option maxHeartbeats 2000000 in
theorem checkLeads_ok (cp : Option Addr) (cl cc : Nat) (v : Value) (ls : List Int) (w : World) (h : Ints w v ls) (hl1 : 1 ≤ ls.length) (hl2 : ls.length ≤ 400) (hin : ∀ l, l ∈ ls → 0 ≤ l ∧ l < (cl : Int)) :
    Calls Tryd.prog 29 #[.slice cp cl cc, v] w fun e w' => e = .returned (.int .i64 0) ∧ w = w' := by
  rcases h with ⟨rfl, _⟩ | ⟨b, off, cap, rfl, h0, hc, hm, hb, hcell⟩
  · simp at hl1
  have HIN := hide hin
  clear hin
  go_enter Tryd.func29, Tryd.ntmps29
  go_wp2
  go_loop [17] (fun i => ∃ k : Nat, k ≤ ls.length ∧ i = .int .i64 k) (fun i => ls.length - (intOf i).toNat)
  case atStart => exact ⟨0, by omega, rfl⟩
  case round =>
    obtain ⟨k, hk, rfl⟩ := hrel
    by_cases hlt : k < ls.length
    · obtain ⟨y, hy, hcx⟩ := cellAt hcell hlt
      have hym : y ∈ ls := by
        rw [← hy.out, List.getElem?_eq_getElem hlt, Option.getD_some]
        exact List.getElem_mem _
      obtain ⟨y1, y2⟩ := HIN.out y hym
      have hy3 : ¬ y < 0 := by omega
      have hy4 : ¬ y ≥ (cl : Int) := by omega
      clear hcell hy hym
      go_wp2
      go_round
      case rel => exact ⟨k + 1, by omega, by go_num⟩
      case measure => simp [intOf]; omega
    · clear hcell
      go_wp2
      go_ret
      exact ⟨rfl, rfl⟩

end Go.Proofs.YtenpkhalgkodbaaDoor

/- Contract: call.May, where a touch may be. -/
namespace Go.Proofs.YtenpkhalgkodbaaDoor
open Go.RowKit

set_option maxRecDepth 20000 in
set_option maxHeartbeats 4000000 in
theorem may_ok (s : ByteArray) (n : Nat) (vp : Option Addr) (vc : Nat) (css : List (List Int)) (cv : Value) (cs : List (Int × List (List Int))) (lv : Value) (ls : List Int) (w : World) (hs : s.size ≤ 9223372036854775807) (hn : nm s = true) (h1 : 2 ≤ n) (h2 : n ≤ 12) (hl1 : 1 ≤ css.length) (hl2 : css.length ≤ 200)
    (hv : IntsAll w (.slice vp css.length vc) css) (hok : ∀ k, k < css.length → okc n 0 (css.getD k []) = true) (hcv : CallsAt w cv cs) (hco : CallsOk n css.length cs) (hc1 : 1 ≤ cs.length) (hc2 : cs.length ≤ 8)
    (hl : Ints w lv ls) (hN1 : 1 ≤ ls.length) (hN2 : ls.length ≤ 400) (hin : ∀ l, l ∈ ls → 0 ≤ l ∧ l < (cs.length : Int)) (hm : ls.length * css.length ≤ 20000) :
    Calls Tryd.prog 14 #[meth s n (.slice vp css.length vc), cv, lv] w fun e w' => e = .returned (.int .i64 0) ∧ Below w.heap.size w w' := by
  have hB0 : Below w.heap.size w (w.alloc (.cells #[.string s, .int .i64 n, .slice vp css.length vc] 24)) := (Below.refl _ _).alloc (Nat.le_refl _) _
  have HCC := hide (ccheck_ok s n vp vc css cv cs (w.alloc (.cells #[.string s, .int .i64 n, .slice vp css.length vc] 24)) hs hn h1 h2 hl1 hl2 (hv.below hB0) hok (hcv.below hB0) hco hc1 hc2)
  have hbox := Box.start w s n (.slice vp css.length vc) 24
  obtain ⟨b, off, cap, rfl, hb, hlc, hcm, hcell⟩ := hcv
  have HCL := hide (fun W (hW : Below w.heap.size w W) => checkLeads_ok (some ⟨b, off, none⟩) cs.length cap lv ls W (hl.below hW) hN1 hN2 hin)
  obtain ⟨lp, lc, rfl⟩ := hl.form
  have HBX := hide hbox
  have hmi : ((ls.length : Int)) * (css.length : Int) = ((ls.length * css.length : Nat) : Int) := (Int.natCast_mul _ _).symm
  clear hn hv hok hco hcell hbox hl hin
  generalize ls.length * css.length = P at *
  generalize css.length = K at *
  generalize ls.length = N at *
  unfold meth at HCC
  unfold meth
  go_enter Tryd.func14, Tryd.ntmps14
  go_wp2_with fail
  refine HCC.out.mono ?_
  rintro e w1 ⟨rfl, hb1⟩
  have hB1 : Below w.heap.size w w1 := hB0.trans (hb1.mono (by simp))
  have hX1 := HBX.out.below hb1
  have g2 := hX1.c2
  clear HCC HBX hb1 hB0
  go_wp2_with fail
  refine (HCL.out w1 hB1).mono ?_
  rintro e w2 ⟨rfl, rfl⟩
  clear HCL
  go_wp2
  go_ret
  exact ⟨rfl, hB1⟩

end Go.Proofs.YtenpkhalgkodbaaDoor
