/- Joined: ScE, ScF. -/
import Derived.Test.YtoiiadiimfohiaaJ15
/- The law TruthSays where a touch may not be. -/
namespace Go.Proofs.Ytoiiadiimfohiaa
open Go.RowKit
set_option maxRecDepth 20000
set_option linter.unusedVariables false

set_option maxHeartbeats 4000000 in
theorem truthSays_baa (s : ByteArray) (n : Int) (vp : Option Addr) (vc : Nat) (X : List (List Int)) (cp : Option Addr) (cc : Nat) (cs : List Cl) (lp : Option Addr) (lc : Nat) (ls : List Int) (w : World) (hs : s.size ≤ 1048576)
    (hv : IntsAll w (.slice vp X.length vc) X) (hcv : CallsIn w (.slice cp cs.length cc) cs) (hl : Ints w (.slice lp ls.length lc) ls) (hz : tErr s n X cs ls ≠ 0) (hm : mErr s n X ≠ 0)
    (k1 : cs.length ≤ 12) (k3 : ls.length ≤ 500) (gT : ¬ 60 < (ls.length : Int)) (gK : ¬ 40 < (X.length : Int)) :
    Calls Try.prog 3 #[.agg #[.string s, .int .i64 n, .slice vp X.length vc], .slice cp cs.length cc, .slice lp ls.length lc] w fun e w' => e = .returned (.bool true) ∧ Below w.heap.size w w' := by
  have hs2 : s.size ≤ 9223372036854775807 := Nat.le_trans hs (by omega)
  have HR : Hid (∀ W, Below w.heap.size w W → Calls Try.prog 25 #[meth s n (.slice vp X.length vc), .slice cp cs.length cc, .slice lp ls.length lc] W (NoRows (tErr s n X cs ls) W)) := fun W hW => rows_bad s n vp vc X _ cs _ ls W hs2 (hv.below hW) (hcv.below hW) (hl.below hW) hz
  have HMY := hide (fun W (hW : Below w.heap.size w W) => rtmay_all s n vp vc X _ cs _ ls W hs (hv.below hW) (hcv.below hW) (hl.below hW))
  have HMM := hide (fun W (hW : Below w.heap.size w W) => rmay_all s n _ X W hs (hv.below hW))
  have HFA := hide (fun W (hW : Below w.heap.size w W) => false_bad s n _ X W hs2 (hv.below hW) hm)
  have hmz : (mErr s n X == 0) = false := by rw [beq_eq_false_iff_ne]; exact hm
  have hmm : (mErr s n X != mErr s n X) = false := by simp
  generalize mErr s n X = me at *
  clear hm

  have HSUB : Hid (∀ W W', Below w.heap.size w W → Below W.heap.size W W' → Below w.heap.size w W') := fun W W' h1 h2 => h1.trans (h2.mono h1.size)
  have hzz : (tErr s n X cs ls != 0) = true := by simpa using hz
  have hze : (tErr s n X cs ls == 0) = false := by rw [beq_eq_false_iff_ne]; exact hz
  generalize tErr s n X cs ls = er at *
  have HPR := hide (fun W (hW : Below w.heap.size w W) => prove_bad s n vp X.length vc cp cs.length cc lp ls.length lc er W hz (fun W' hW' => HR.out W' (HSUB.out W W' hW hW')))
  have HHD := hide (fun W (hW : Below w.heap.size w W) => heads_bad s n vp X.length vc cp cs.length cc lp ls.length lc er W hz (fun W' hW' => HR.out W' (HSUB.out W W' hW hW')))
  have HBY := hide (fun W (hW : Below w.heap.size w W) => byHeads_bad s n vp X.length vc cp cs.length cc lp ls.length lc er W hz (fun W' hW' => HR.out W' (HSUB.out W W' hW hW')))
  unfold NoRows at HHD
  unfold meth at HPR HHD HBY HFA
  clear hv hcv hl hz HR HSUB hs hs2
  generalize X.length = K at *
  generalize cs.length = C at *
  generalize ls.length = T at *
  have HB0 := hide ((Below.refl w.heap.size w).alloc (Nat.le_refl _) (mbox s n (.slice vp K vc)))
  obtain ⟨d0, d1, d2⟩ := mbox_cells w s n (.slice vp K vc)
  have g1 : ¬ 12 < (C : Int) := by omega
  have g3 : ¬ 500 < (T : Int) := by omega
  go_enter Try.func3, Try.ntmps3
  go_wp2_with fail
  refine (HMY.out _ HB0.out).mono ?_
  rintro e w1 ⟨rfl, hb1⟩
  have x1 : ∀ j, w1.cell? ⟨w.heap.size, j, none⟩ = (w.alloc (mbox s n (.slice vp K vc))).cell? ⟨w.heap.size, j, none⟩ := fun j => hb1.cell (p := ⟨w.heap.size, j, none⟩) (by simp)
  have hs0 : w.heap.size < w1.heap.size := Nat.lt_of_lt_of_le (by simp) hb1.size
  have m0 := (x1 0).trans d0
  have m1 := (x1 1).trans d1
  have m2 := (x1 2).trans d2
  have HB1 := hide (HB0.out.trans (hb1.mono HB0.out.size))
  clear hb1 x1 d0 d1 d2 HB0 HMY
  go_wp2_with fail
  refine (HPR.out _ HB1.out).mono ?_
  rintro e w2 ⟨rfl, hb2⟩
  have hbA2 : Below w1.heap.size w1 (w2.alloc (repC 0 false false 0 0)) := hb2.alloc hb2.size _
  have x2 : ∀ j', (w2.alloc (repC 0 false false 0 0)).cell? ⟨w.heap.size, j', none⟩ = w1.cell? ⟨w.heap.size, j', none⟩ := fun j' => hbA2.cell (p := ⟨w.heap.size, j', none⟩) hs0
  have n0 := (x2 0).trans m0
  have n1 := (x2 1).trans m1
  have n2 := (x2 2).trans m2
  have HB2 := hide (HB1.out.trans (hbA2.mono HB1.out.size))
  have HN2 := hide (heap_alloc_new w2 (repC 0 false false 0 0))
  have hsz2 : w2.heap.size < (w2.alloc (repC 0 false false 0 0)).heap.size := by simp
  have hs2 : w.heap.size < w2.heap.size := Nat.lt_of_lt_of_le hs0 hb2.size
  clear hb2 hbA2 x2 m0 m1 m2 HB1 HPR
  go_wp2_with fail
  refine (HHD.out _ HB2.out).mono ?_
  rintro e w3 ⟨rfl, hb3⟩
  change Below (w2.alloc (repC 0 false false 0 0)).heap.size (w2.alloc (repC 0 false false 0 0)) w3 at hb3
  have HK3 := hide ((hb3.block w2.heap.size hsz2).trans HN2.out)
  have x3 : ∀ j', w3.cell? ⟨w.heap.size, j', none⟩ = (w2.alloc (repC 0 false false 0 0)).cell? ⟨w.heap.size, j', none⟩ := fun j' => hb3.cell (p := ⟨w.heap.size, j', none⟩) (by show w.heap.size < _; omega)
  have m0 := (x3 0).trans n0
  have m1 := (x3 1).trans n1
  have m2 := (x3 2).trans n2
  have HB3 := hide (HB2.out.trans (hb3.mono HB2.out.size))
  have hs3 : w2.heap.size < w3.heap.size := Nat.lt_of_lt_of_le hsz2 hb3.size
  clear hb3 x3 n0 n1 n2 HB2 HHD HN2 hsz2
  go_wp2_with fail
  refine (HBY.out _ HB3.out).mono ?_
  rintro e w4 ⟨rfl, hb4⟩
  have x4 : ∀ j', w4.cell? ⟨w.heap.size, j', none⟩ = w3.cell? ⟨w.heap.size, j', none⟩ := fun j' => hb4.cell (p := ⟨w.heap.size, j', none⟩) (by show w.heap.size < _; omega)
  have n0 := (x4 0).trans m0
  have n1 := (x4 1).trans m1
  have n2 := (x4 2).trans m2
  have HB4 := hide (HB3.out.trans (hb4.mono HB3.out.size))
  have HK4 := hide ((hb4.block w2.heap.size hs3).trans HK3.out)
  have hs4 : w2.heap.size < w4.heap.size := Nat.lt_of_lt_of_le hs3 hb4.size
  have hee : (er != er) = false := by simp
  clear hb4 x4 m0 m1 m2 HB3 HK3 HBY hs3
  go_wp2_with fail
  refine (HFA.out _ HB4.out).mono ?_
  rintro e w5 ⟨rfl, hb5⟩
  have x5 : ∀ j', w5.cell? ⟨w.heap.size, j', none⟩ = w4.cell? ⟨w.heap.size, j', none⟩ := fun j' => hb5.cell (p := ⟨w.heap.size, j', none⟩) (by show w.heap.size < _; omega)
  have m0 := (x5 0).trans n0
  have m1 := (x5 1).trans n1
  have m2 := (x5 2).trans n2
  have HB5 := hide (HB4.out.trans (hb5.mono HB4.out.size))
  have HK5 := hide ((hb5.block w2.heap.size hs4).trans HK4.out)
  have hs5 : w2.heap.size < w5.heap.size := Nat.lt_of_lt_of_le hs4 hb5.size
  clear hb5 x5 n0 n1 n2 HB4 HK4 HFA hs4
  go_wp2_with fail
  refine (HMM.out _ HB5.out).mono ?_
  rintro e w6 ⟨rfl, hb6⟩
  have HB6 := hide (HB5.out.trans (hb6.mono HB5.out.size))
  have HK6 := hide ((hb6.block w2.heap.size hs5).trans HK5.out)
  obtain ⟨z0, z1, z2, z3, z4, _⟩ := cells5 HK6.out
  clear hb6 m0 m1 m2 HB5 HK5 HMM hs5 HK6
  go_wp2
  go_ret
  exact ⟨by simp, HB6.out⟩

set_option maxHeartbeats 4000000 in
theorem truthSays_bab (s : ByteArray) (n : Int) (vp : Option Addr) (vc : Nat) (X : List (List Int)) (cp : Option Addr) (cc : Nat) (cs : List Cl) (lp : Option Addr) (lc : Nat) (ls : List Int) (w : World) (hs : s.size ≤ 1048576)
    (hv : IntsAll w (.slice vp X.length vc) X) (hcv : CallsIn w (.slice cp cs.length cc) cs) (hl : Ints w (.slice lp ls.length lc) ls) (hz : tErr s n X cs ls ≠ 0) (hm : mErr s n X ≠ 0)
    (k1 : cs.length ≤ 12) (k3 : ls.length ≤ 500) (gT : ¬ 60 < (ls.length : Int)) (gK : 40 < (X.length : Int)) (gK2 : ¬ (X.length : Int) < 201) :
    Calls Try.prog 3 #[.agg #[.string s, .int .i64 n, .slice vp X.length vc], .slice cp cs.length cc, .slice lp ls.length lc] w fun e w' => e = .returned (.bool true) ∧ Below w.heap.size w w' := by
  have hs2 : s.size ≤ 9223372036854775807 := Nat.le_trans hs (by omega)
  have HR : Hid (∀ W, Below w.heap.size w W → Calls Try.prog 25 #[meth s n (.slice vp X.length vc), .slice cp cs.length cc, .slice lp ls.length lc] W (NoRows (tErr s n X cs ls) W)) := fun W hW => rows_bad s n vp vc X _ cs _ ls W hs2 (hv.below hW) (hcv.below hW) (hl.below hW) hz
  have HMY := hide (fun W (hW : Below w.heap.size w W) => rtmay_all s n vp vc X _ cs _ ls W hs (hv.below hW) (hcv.below hW) (hl.below hW))
  have HMM := hide (fun W (hW : Below w.heap.size w W) => rmay_all s n _ X W hs (hv.below hW))
  have HFA := hide (fun W (hW : Below w.heap.size w W) => false_bad s n _ X W hs2 (hv.below hW) hm)
  have hmz : (mErr s n X == 0) = false := by rw [beq_eq_false_iff_ne]; exact hm
  have hmm : (mErr s n X != mErr s n X) = false := by simp
  generalize mErr s n X = me at *
  clear hm

  have HSUB : Hid (∀ W W', Below w.heap.size w W → Below W.heap.size W W' → Below w.heap.size w W') := fun W W' h1 h2 => h1.trans (h2.mono h1.size)
  have hzz : (tErr s n X cs ls != 0) = true := by simpa using hz
  have hze : (tErr s n X cs ls == 0) = false := by rw [beq_eq_false_iff_ne]; exact hz
  generalize tErr s n X cs ls = er at *
  have HPR := hide (fun W (hW : Below w.heap.size w W) => prove_bad s n vp X.length vc cp cs.length cc lp ls.length lc er W hz (fun W' hW' => HR.out W' (HSUB.out W W' hW hW')))
  have HHD := hide (fun W (hW : Below w.heap.size w W) => heads_bad s n vp X.length vc cp cs.length cc lp ls.length lc er W hz (fun W' hW' => HR.out W' (HSUB.out W W' hW hW')))
  have HBY := hide (fun W (hW : Below w.heap.size w W) => byHeads_bad s n vp X.length vc cp cs.length cc lp ls.length lc er W hz (fun W' hW' => HR.out W' (HSUB.out W W' hW hW')))
  unfold NoRows at HHD
  unfold meth at HPR HHD HBY HFA
  clear hv hcv hl hz HR HSUB hs hs2
  generalize X.length = K at *
  generalize cs.length = C at *
  generalize ls.length = T at *
  have HB0 := hide ((Below.refl w.heap.size w).alloc (Nat.le_refl _) (mbox s n (.slice vp K vc)))
  obtain ⟨d0, d1, d2⟩ := mbox_cells w s n (.slice vp K vc)
  have g1 : ¬ 12 < (C : Int) := by omega
  have g3 : ¬ 500 < (T : Int) := by omega
  go_enter Try.func3, Try.ntmps3
  go_wp2_with fail
  refine (HMY.out _ HB0.out).mono ?_
  rintro e w1 ⟨rfl, hb1⟩
  have x1 : ∀ j, w1.cell? ⟨w.heap.size, j, none⟩ = (w.alloc (mbox s n (.slice vp K vc))).cell? ⟨w.heap.size, j, none⟩ := fun j => hb1.cell (p := ⟨w.heap.size, j, none⟩) (by simp)
  have hs0 : w.heap.size < w1.heap.size := Nat.lt_of_lt_of_le (by simp) hb1.size
  have m0 := (x1 0).trans d0
  have m1 := (x1 1).trans d1
  have m2 := (x1 2).trans d2
  have HB1 := hide (HB0.out.trans (hb1.mono HB0.out.size))
  clear hb1 x1 d0 d1 d2 HB0 HMY
  go_wp2_with fail
  refine (HPR.out _ HB1.out).mono ?_
  rintro e w2 ⟨rfl, hb2⟩
  have hbA2 : Below w1.heap.size w1 (w2.alloc (repC 0 false false 0 0)) := hb2.alloc hb2.size _
  have x2 : ∀ j', (w2.alloc (repC 0 false false 0 0)).cell? ⟨w.heap.size, j', none⟩ = w1.cell? ⟨w.heap.size, j', none⟩ := fun j' => hbA2.cell (p := ⟨w.heap.size, j', none⟩) hs0
  have n0 := (x2 0).trans m0
  have n1 := (x2 1).trans m1
  have n2 := (x2 2).trans m2
  have HB2 := hide (HB1.out.trans (hbA2.mono HB1.out.size))
  have HN2 := hide (heap_alloc_new w2 (repC 0 false false 0 0))
  have hsz2 : w2.heap.size < (w2.alloc (repC 0 false false 0 0)).heap.size := by simp
  have hs2 : w.heap.size < w2.heap.size := Nat.lt_of_lt_of_le hs0 hb2.size
  clear hb2 hbA2 x2 m0 m1 m2 HB1 HPR
  go_wp2_with fail
  refine (HHD.out _ HB2.out).mono ?_
  rintro e w3 ⟨rfl, hb3⟩
  change Below (w2.alloc (repC 0 false false 0 0)).heap.size (w2.alloc (repC 0 false false 0 0)) w3 at hb3
  have HK3 := hide ((hb3.block w2.heap.size hsz2).trans HN2.out)
  have x3 : ∀ j', w3.cell? ⟨w.heap.size, j', none⟩ = (w2.alloc (repC 0 false false 0 0)).cell? ⟨w.heap.size, j', none⟩ := fun j' => hb3.cell (p := ⟨w.heap.size, j', none⟩) (by show w.heap.size < _; omega)
  have m0 := (x3 0).trans n0
  have m1 := (x3 1).trans n1
  have m2 := (x3 2).trans n2
  have HB3 := hide (HB2.out.trans (hb3.mono HB2.out.size))
  have hs3 : w2.heap.size < w3.heap.size := Nat.lt_of_lt_of_le hsz2 hb3.size
  clear hb3 x3 n0 n1 n2 HB2 HHD HN2 hsz2
  go_wp2_with fail
  refine (HBY.out _ HB3.out).mono ?_
  rintro e w4 ⟨rfl, hb4⟩
  have x4 : ∀ j', w4.cell? ⟨w.heap.size, j', none⟩ = w3.cell? ⟨w.heap.size, j', none⟩ := fun j' => hb4.cell (p := ⟨w.heap.size, j', none⟩) (by show w.heap.size < _; omega)
  have n0 := (x4 0).trans m0
  have n1 := (x4 1).trans m1
  have n2 := (x4 2).trans m2
  have HB4 := hide (HB3.out.trans (hb4.mono HB3.out.size))
  have HK4 := hide ((hb4.block w2.heap.size hs3).trans HK3.out)
  have hs4 : w2.heap.size < w4.heap.size := Nat.lt_of_lt_of_le hs3 hb4.size
  have hee : (er != er) = false := by simp
  clear hb4 x4 m0 m1 m2 HB3 HK3 HBY hs3
  go_wp2_with fail
  refine (HFA.out _ HB4.out).mono ?_
  rintro e w5 ⟨rfl, hb5⟩
  have x5 : ∀ j', w5.cell? ⟨w.heap.size, j', none⟩ = w4.cell? ⟨w.heap.size, j', none⟩ := fun j' => hb5.cell (p := ⟨w.heap.size, j', none⟩) (by show w.heap.size < _; omega)
  have m0 := (x5 0).trans n0
  have m1 := (x5 1).trans n1
  have m2 := (x5 2).trans n2
  have HB5 := hide (HB4.out.trans (hb5.mono HB4.out.size))
  have HK5 := hide ((hb5.block w2.heap.size hs4).trans HK4.out)
  have hs5 : w2.heap.size < w5.heap.size := Nat.lt_of_lt_of_le hs4 hb5.size
  clear hb5 x5 n0 n1 n2 HB4 HK4 HFA hs4
  go_wp2_with fail
  refine (HMM.out _ HB5.out).mono ?_
  rintro e w6 ⟨rfl, hb6⟩
  have HB6 := hide (HB5.out.trans (hb6.mono HB5.out.size))
  have HK6 := hide ((hb6.block w2.heap.size hs5).trans HK5.out)
  obtain ⟨z0, z1, z2, z3, z4, _⟩ := cells5 HK6.out
  clear hb6 m0 m1 m2 HB5 HK5 HMM hs5 HK6
  go_wp2
  go_ret
  exact ⟨by simp, HB6.out⟩

set_option maxHeartbeats 4000000 in
theorem truthSays_bba (s : ByteArray) (n : Int) (vp : Option Addr) (vc : Nat) (X : List (List Int)) (cp : Option Addr) (cc : Nat) (cs : List Cl) (lp : Option Addr) (lc : Nat) (ls : List Int) (w : World) (hs : s.size ≤ 1048576)
    (hv : IntsAll w (.slice vp X.length vc) X) (hcv : CallsIn w (.slice cp cs.length cc) cs) (hl : Ints w (.slice lp ls.length lc) ls) (hz : tErr s n X cs ls ≠ 0) (hm : mErr s n X ≠ 0)
    (k1 : cs.length ≤ 12) (k3 : ls.length ≤ 500) (gT : 60 < (ls.length : Int)) (gT2 : ¬ (ls.length : Int) < 401) (gK : ¬ 40 < (X.length : Int)) :
    Calls Try.prog 3 #[.agg #[.string s, .int .i64 n, .slice vp X.length vc], .slice cp cs.length cc, .slice lp ls.length lc] w fun e w' => e = .returned (.bool true) ∧ Below w.heap.size w w' := by
  have hs2 : s.size ≤ 9223372036854775807 := Nat.le_trans hs (by omega)
  have HR : Hid (∀ W, Below w.heap.size w W → Calls Try.prog 25 #[meth s n (.slice vp X.length vc), .slice cp cs.length cc, .slice lp ls.length lc] W (NoRows (tErr s n X cs ls) W)) := fun W hW => rows_bad s n vp vc X _ cs _ ls W hs2 (hv.below hW) (hcv.below hW) (hl.below hW) hz
  have HMY := hide (fun W (hW : Below w.heap.size w W) => rtmay_all s n vp vc X _ cs _ ls W hs (hv.below hW) (hcv.below hW) (hl.below hW))
  have HMM := hide (fun W (hW : Below w.heap.size w W) => rmay_all s n _ X W hs (hv.below hW))
  have HFA := hide (fun W (hW : Below w.heap.size w W) => false_bad s n _ X W hs2 (hv.below hW) hm)
  have hmz : (mErr s n X == 0) = false := by rw [beq_eq_false_iff_ne]; exact hm
  have hmm : (mErr s n X != mErr s n X) = false := by simp
  generalize mErr s n X = me at *
  clear hm

  have HSUB : Hid (∀ W W', Below w.heap.size w W → Below W.heap.size W W' → Below w.heap.size w W') := fun W W' h1 h2 => h1.trans (h2.mono h1.size)
  have hzz : (tErr s n X cs ls != 0) = true := by simpa using hz
  have hze : (tErr s n X cs ls == 0) = false := by rw [beq_eq_false_iff_ne]; exact hz
  generalize tErr s n X cs ls = er at *
  have HPR := hide (fun W (hW : Below w.heap.size w W) => prove_bad s n vp X.length vc cp cs.length cc lp ls.length lc er W hz (fun W' hW' => HR.out W' (HSUB.out W W' hW hW')))
  have HHD := hide (fun W (hW : Below w.heap.size w W) => heads_bad s n vp X.length vc cp cs.length cc lp ls.length lc er W hz (fun W' hW' => HR.out W' (HSUB.out W W' hW hW')))
  have HBY := hide (fun W (hW : Below w.heap.size w W) => byHeads_bad s n vp X.length vc cp cs.length cc lp ls.length lc er W hz (fun W' hW' => HR.out W' (HSUB.out W W' hW hW')))
  unfold NoRows at HHD
  unfold meth at HPR HHD HBY HFA
  clear hv hcv hl hz HR HSUB hs hs2
  generalize X.length = K at *
  generalize cs.length = C at *
  generalize ls.length = T at *
  have HB0 := hide ((Below.refl w.heap.size w).alloc (Nat.le_refl _) (mbox s n (.slice vp K vc)))
  obtain ⟨d0, d1, d2⟩ := mbox_cells w s n (.slice vp K vc)
  have g1 : ¬ 12 < (C : Int) := by omega
  have g3 : ¬ 500 < (T : Int) := by omega
  go_enter Try.func3, Try.ntmps3
  go_wp2_with fail
  refine (HMY.out _ HB0.out).mono ?_
  rintro e w1 ⟨rfl, hb1⟩
  have x1 : ∀ j, w1.cell? ⟨w.heap.size, j, none⟩ = (w.alloc (mbox s n (.slice vp K vc))).cell? ⟨w.heap.size, j, none⟩ := fun j => hb1.cell (p := ⟨w.heap.size, j, none⟩) (by simp)
  have hs0 : w.heap.size < w1.heap.size := Nat.lt_of_lt_of_le (by simp) hb1.size
  have m0 := (x1 0).trans d0
  have m1 := (x1 1).trans d1
  have m2 := (x1 2).trans d2
  have HB1 := hide (HB0.out.trans (hb1.mono HB0.out.size))
  clear hb1 x1 d0 d1 d2 HB0 HMY
  go_wp2_with fail
  refine (HPR.out _ HB1.out).mono ?_
  rintro e w2 ⟨rfl, hb2⟩
  have hbA2 : Below w1.heap.size w1 (w2.alloc (repC 0 false false 0 0)) := hb2.alloc hb2.size _
  have x2 : ∀ j', (w2.alloc (repC 0 false false 0 0)).cell? ⟨w.heap.size, j', none⟩ = w1.cell? ⟨w.heap.size, j', none⟩ := fun j' => hbA2.cell (p := ⟨w.heap.size, j', none⟩) hs0
  have n0 := (x2 0).trans m0
  have n1 := (x2 1).trans m1
  have n2 := (x2 2).trans m2
  have HB2 := hide (HB1.out.trans (hbA2.mono HB1.out.size))
  have HN2 := hide (heap_alloc_new w2 (repC 0 false false 0 0))
  have hsz2 : w2.heap.size < (w2.alloc (repC 0 false false 0 0)).heap.size := by simp
  have hs2 : w.heap.size < w2.heap.size := Nat.lt_of_lt_of_le hs0 hb2.size
  clear hb2 hbA2 x2 m0 m1 m2 HB1 HPR
  go_wp2_with fail
  refine (HHD.out _ HB2.out).mono ?_
  rintro e w3 ⟨rfl, hb3⟩
  change Below (w2.alloc (repC 0 false false 0 0)).heap.size (w2.alloc (repC 0 false false 0 0)) w3 at hb3
  have HK3 := hide ((hb3.block w2.heap.size hsz2).trans HN2.out)
  have x3 : ∀ j', w3.cell? ⟨w.heap.size, j', none⟩ = (w2.alloc (repC 0 false false 0 0)).cell? ⟨w.heap.size, j', none⟩ := fun j' => hb3.cell (p := ⟨w.heap.size, j', none⟩) (by show w.heap.size < _; omega)
  have m0 := (x3 0).trans n0
  have m1 := (x3 1).trans n1
  have m2 := (x3 2).trans n2
  have HB3 := hide (HB2.out.trans (hb3.mono HB2.out.size))
  have hs3 : w2.heap.size < w3.heap.size := Nat.lt_of_lt_of_le hsz2 hb3.size
  clear hb3 x3 n0 n1 n2 HB2 HHD HN2 hsz2
  go_wp2_with fail
  refine (HBY.out _ HB3.out).mono ?_
  rintro e w4 ⟨rfl, hb4⟩
  have x4 : ∀ j', w4.cell? ⟨w.heap.size, j', none⟩ = w3.cell? ⟨w.heap.size, j', none⟩ := fun j' => hb4.cell (p := ⟨w.heap.size, j', none⟩) (by show w.heap.size < _; omega)
  have n0 := (x4 0).trans m0
  have n1 := (x4 1).trans m1
  have n2 := (x4 2).trans m2
  have HB4 := hide (HB3.out.trans (hb4.mono HB3.out.size))
  have HK4 := hide ((hb4.block w2.heap.size hs3).trans HK3.out)
  have hs4 : w2.heap.size < w4.heap.size := Nat.lt_of_lt_of_le hs3 hb4.size
  have hee : (er != er) = false := by simp
  clear hb4 x4 m0 m1 m2 HB3 HK3 HBY hs3
  go_wp2_with fail
  refine (HFA.out _ HB4.out).mono ?_
  rintro e w5 ⟨rfl, hb5⟩
  have x5 : ∀ j', w5.cell? ⟨w.heap.size, j', none⟩ = w4.cell? ⟨w.heap.size, j', none⟩ := fun j' => hb5.cell (p := ⟨w.heap.size, j', none⟩) (by show w.heap.size < _; omega)
  have m0 := (x5 0).trans n0
  have m1 := (x5 1).trans n1
  have m2 := (x5 2).trans n2
  have HB5 := hide (HB4.out.trans (hb5.mono HB4.out.size))
  have HK5 := hide ((hb5.block w2.heap.size hs4).trans HK4.out)
  have hs5 : w2.heap.size < w5.heap.size := Nat.lt_of_lt_of_le hs4 hb5.size
  clear hb5 x5 n0 n1 n2 HB4 HK4 HFA hs4
  go_wp2_with fail
  refine (HMM.out _ HB5.out).mono ?_
  rintro e w6 ⟨rfl, hb6⟩
  have HB6 := hide (HB5.out.trans (hb6.mono HB5.out.size))
  have HK6 := hide ((hb6.block w2.heap.size hs5).trans HK5.out)
  obtain ⟨z0, z1, z2, z3, z4, _⟩ := cells5 HK6.out
  clear hb6 m0 m1 m2 HB5 HK5 HMM hs5 HK6
  go_wp2
  go_ret
  exact ⟨by simp, HB6.out⟩

set_option maxHeartbeats 4000000 in
theorem truthSays_bbb (s : ByteArray) (n : Int) (vp : Option Addr) (vc : Nat) (X : List (List Int)) (cp : Option Addr) (cc : Nat) (cs : List Cl) (lp : Option Addr) (lc : Nat) (ls : List Int) (w : World) (hs : s.size ≤ 1048576)
    (hv : IntsAll w (.slice vp X.length vc) X) (hcv : CallsIn w (.slice cp cs.length cc) cs) (hl : Ints w (.slice lp ls.length lc) ls) (hz : tErr s n X cs ls ≠ 0) (hm : mErr s n X ≠ 0)
    (k1 : cs.length ≤ 12) (k3 : ls.length ≤ 500) (gT : 60 < (ls.length : Int)) (gT2 : ¬ (ls.length : Int) < 401) (gK : 40 < (X.length : Int)) (gK2 : ¬ (X.length : Int) < 201) :
    Calls Try.prog 3 #[.agg #[.string s, .int .i64 n, .slice vp X.length vc], .slice cp cs.length cc, .slice lp ls.length lc] w fun e w' => e = .returned (.bool true) ∧ Below w.heap.size w w' := by
  have hs2 : s.size ≤ 9223372036854775807 := Nat.le_trans hs (by omega)
  have HR : Hid (∀ W, Below w.heap.size w W → Calls Try.prog 25 #[meth s n (.slice vp X.length vc), .slice cp cs.length cc, .slice lp ls.length lc] W (NoRows (tErr s n X cs ls) W)) := fun W hW => rows_bad s n vp vc X _ cs _ ls W hs2 (hv.below hW) (hcv.below hW) (hl.below hW) hz
  have HMY := hide (fun W (hW : Below w.heap.size w W) => rtmay_all s n vp vc X _ cs _ ls W hs (hv.below hW) (hcv.below hW) (hl.below hW))
  have HMM := hide (fun W (hW : Below w.heap.size w W) => rmay_all s n _ X W hs (hv.below hW))
  have HFA := hide (fun W (hW : Below w.heap.size w W) => false_bad s n _ X W hs2 (hv.below hW) hm)
  have hmz : (mErr s n X == 0) = false := by rw [beq_eq_false_iff_ne]; exact hm
  have hmm : (mErr s n X != mErr s n X) = false := by simp
  generalize mErr s n X = me at *
  clear hm

  have HSUB : Hid (∀ W W', Below w.heap.size w W → Below W.heap.size W W' → Below w.heap.size w W') := fun W W' h1 h2 => h1.trans (h2.mono h1.size)
  have hzz : (tErr s n X cs ls != 0) = true := by simpa using hz
  have hze : (tErr s n X cs ls == 0) = false := by rw [beq_eq_false_iff_ne]; exact hz
  generalize tErr s n X cs ls = er at *
  have HPR := hide (fun W (hW : Below w.heap.size w W) => prove_bad s n vp X.length vc cp cs.length cc lp ls.length lc er W hz (fun W' hW' => HR.out W' (HSUB.out W W' hW hW')))
  have HHD := hide (fun W (hW : Below w.heap.size w W) => heads_bad s n vp X.length vc cp cs.length cc lp ls.length lc er W hz (fun W' hW' => HR.out W' (HSUB.out W W' hW hW')))
  have HBY := hide (fun W (hW : Below w.heap.size w W) => byHeads_bad s n vp X.length vc cp cs.length cc lp ls.length lc er W hz (fun W' hW' => HR.out W' (HSUB.out W W' hW hW')))
  unfold NoRows at HHD
  unfold meth at HPR HHD HBY HFA
  clear hv hcv hl hz HR HSUB hs hs2
  generalize X.length = K at *
  generalize cs.length = C at *
  generalize ls.length = T at *
  have HB0 := hide ((Below.refl w.heap.size w).alloc (Nat.le_refl _) (mbox s n (.slice vp K vc)))
  obtain ⟨d0, d1, d2⟩ := mbox_cells w s n (.slice vp K vc)
  have g1 : ¬ 12 < (C : Int) := by omega
  have g3 : ¬ 500 < (T : Int) := by omega
  go_enter Try.func3, Try.ntmps3
  go_wp2_with fail
  refine (HMY.out _ HB0.out).mono ?_
  rintro e w1 ⟨rfl, hb1⟩
  have x1 : ∀ j, w1.cell? ⟨w.heap.size, j, none⟩ = (w.alloc (mbox s n (.slice vp K vc))).cell? ⟨w.heap.size, j, none⟩ := fun j => hb1.cell (p := ⟨w.heap.size, j, none⟩) (by simp)
  have hs0 : w.heap.size < w1.heap.size := Nat.lt_of_lt_of_le (by simp) hb1.size
  have m0 := (x1 0).trans d0
  have m1 := (x1 1).trans d1
  have m2 := (x1 2).trans d2
  have HB1 := hide (HB0.out.trans (hb1.mono HB0.out.size))
  clear hb1 x1 d0 d1 d2 HB0 HMY
  go_wp2_with fail
  refine (HPR.out _ HB1.out).mono ?_
  rintro e w2 ⟨rfl, hb2⟩
  have hbA2 : Below w1.heap.size w1 (w2.alloc (repC 0 false false 0 0)) := hb2.alloc hb2.size _
  have x2 : ∀ j', (w2.alloc (repC 0 false false 0 0)).cell? ⟨w.heap.size, j', none⟩ = w1.cell? ⟨w.heap.size, j', none⟩ := fun j' => hbA2.cell (p := ⟨w.heap.size, j', none⟩) hs0
  have n0 := (x2 0).trans m0
  have n1 := (x2 1).trans m1
  have n2 := (x2 2).trans m2
  have HB2 := hide (HB1.out.trans (hbA2.mono HB1.out.size))
  have HN2 := hide (heap_alloc_new w2 (repC 0 false false 0 0))
  have hsz2 : w2.heap.size < (w2.alloc (repC 0 false false 0 0)).heap.size := by simp
  have hs2 : w.heap.size < w2.heap.size := Nat.lt_of_lt_of_le hs0 hb2.size
  clear hb2 hbA2 x2 m0 m1 m2 HB1 HPR
  go_wp2_with fail
  refine (HHD.out _ HB2.out).mono ?_
  rintro e w3 ⟨rfl, hb3⟩
  change Below (w2.alloc (repC 0 false false 0 0)).heap.size (w2.alloc (repC 0 false false 0 0)) w3 at hb3
  have HK3 := hide ((hb3.block w2.heap.size hsz2).trans HN2.out)
  have x3 : ∀ j', w3.cell? ⟨w.heap.size, j', none⟩ = (w2.alloc (repC 0 false false 0 0)).cell? ⟨w.heap.size, j', none⟩ := fun j' => hb3.cell (p := ⟨w.heap.size, j', none⟩) (by show w.heap.size < _; omega)
  have m0 := (x3 0).trans n0
  have m1 := (x3 1).trans n1
  have m2 := (x3 2).trans n2
  have HB3 := hide (HB2.out.trans (hb3.mono HB2.out.size))
  have hs3 : w2.heap.size < w3.heap.size := Nat.lt_of_lt_of_le hsz2 hb3.size
  clear hb3 x3 n0 n1 n2 HB2 HHD HN2 hsz2
  go_wp2_with fail
  refine (HBY.out _ HB3.out).mono ?_
  rintro e w4 ⟨rfl, hb4⟩
  have x4 : ∀ j', w4.cell? ⟨w.heap.size, j', none⟩ = w3.cell? ⟨w.heap.size, j', none⟩ := fun j' => hb4.cell (p := ⟨w.heap.size, j', none⟩) (by show w.heap.size < _; omega)
  have n0 := (x4 0).trans m0
  have n1 := (x4 1).trans m1
  have n2 := (x4 2).trans m2
  have HB4 := hide (HB3.out.trans (hb4.mono HB3.out.size))
  have HK4 := hide ((hb4.block w2.heap.size hs3).trans HK3.out)
  have hs4 : w2.heap.size < w4.heap.size := Nat.lt_of_lt_of_le hs3 hb4.size
  have hee : (er != er) = false := by simp
  clear hb4 x4 m0 m1 m2 HB3 HK3 HBY hs3
  go_wp2_with fail
  refine (HFA.out _ HB4.out).mono ?_
  rintro e w5 ⟨rfl, hb5⟩
  have x5 : ∀ j', w5.cell? ⟨w.heap.size, j', none⟩ = w4.cell? ⟨w.heap.size, j', none⟩ := fun j' => hb5.cell (p := ⟨w.heap.size, j', none⟩) (by show w.heap.size < _; omega)
  have m0 := (x5 0).trans n0
  have m1 := (x5 1).trans n1
  have m2 := (x5 2).trans n2
  have HB5 := hide (HB4.out.trans (hb5.mono HB4.out.size))
  have HK5 := hide ((hb5.block w2.heap.size hs4).trans HK4.out)
  have hs5 : w2.heap.size < w5.heap.size := Nat.lt_of_lt_of_le hs4 hb5.size
  clear hb5 x5 n0 n1 n2 HB4 HK4 HFA hs4
  go_wp2_with fail
  refine (HMM.out _ HB5.out).mono ?_
  rintro e w6 ⟨rfl, hb6⟩
  have HB6 := hide (HB5.out.trans (hb6.mono HB5.out.size))
  have HK6 := hide ((hb6.block w2.heap.size hs5).trans HK5.out)
  obtain ⟨z0, z1, z2, z3, z4, _⟩ := cells5 HK6.out
  clear hb6 m0 m1 m2 HB5 HK5 HMM hs5 HK6
  go_wp2
  go_ret
  exact ⟨by simp, HB6.out⟩

end Go.Proofs.Ytoiiadiimfohiaa

/- The law TruthSays. -/
namespace Go.Proofs.Ytoiiadiimfohiaa
open Go.RowKit
set_option maxRecDepth 20000
set_option linter.unusedVariables false

set_option maxHeartbeats 2000000 in
theorem truthSays_skip (s : ByteArray) (n : Int) (vp : Option Addr) (K vc : Nat) (cp : Option Addr) (C cc : Nat) (lp : Option Addr) (T lc : Nat) (w : World) (h : 12 < C ∨ (60 < T ∧ T < 401) ∨ 500 < T ∨ (40 < K ∧ K < 201)) :
    Calls Try.prog 3 #[.agg #[.string s, .int .i64 n, .slice vp K vc], .slice cp C cc, .slice lp T lc] w fun e w' => e = .returned (.bool true) ∧ Below w.heap.size w w' := by
  have HB0 := hide ((Below.refl w.heap.size w).alloc (Nat.le_refl _) (mbox s n (.slice vp K vc)))
  obtain ⟨d0, d1, d2⟩ := mbox_cells w s n (.slice vp K vc)
  by_cases h1 : 12 < (C : Int)
  · clear h
    go_enter Try.func3, Try.ntmps3
    go_wp2
    go_ret
    exact ⟨rfl, HB0.out⟩
  · by_cases h2 : 60 < (T : Int)
    · by_cases h3 : (T : Int) < 401
      · clear h
        go_enter Try.func3, Try.ntmps3
        go_wp2
        go_ret
        exact ⟨rfl, HB0.out⟩
      · by_cases h4 : 500 < (T : Int)
        · clear h
          go_enter Try.func3, Try.ntmps3
          go_wp2
          go_ret
          exact ⟨rfl, HB0.out⟩
        · have h5 : 40 < (K : Int) := by omega
          have h6 : (K : Int) < 201 := by omega
          clear h
          go_enter Try.func3, Try.ntmps3
          go_wp2
          go_ret
          exact ⟨rfl, HB0.out⟩
    · have h4 : ¬ 500 < (T : Int) := by omega
      have h5 : 40 < (K : Int) := by omega
      have h6 : (K : Int) < 201 := by omega
      clear h
      go_enter Try.func3, Try.ntmps3
      go_wp2
      go_ret
      exact ⟨rfl, HB0.out⟩

theorem truthSays_walk (s : ByteArray) (n : Int) (mv : Value) (X : List (List Int)) (cv : Value) (cs : List Cl) (lv : Value) (ls : List Int) (w : World) (hs : s.size ≤ 1048576) (hv : IntsAll w mv X) (hcv : CallsIn w cv cs) (hl : Ints w lv ls) :
    Calls Try.prog 3 #[.agg #[.string s, .int .i64 n, mv], cv, lv] w fun e w' => e = .returned (.bool true) ∧ Below w.heap.size w w' := by
  obtain ⟨vp, vc, rfl⟩ := hv.len
  obtain ⟨cp, cc, rfl⟩ := hcv.form
  obtain ⟨lp, lc, rfl⟩ := hl.form
  by_cases h : 12 < cs.length ∨ (60 < ls.length ∧ ls.length < 401) ∨ 500 < ls.length ∨ (40 < X.length ∧ X.length < 201)
  · exact truthSays_skip s n vp X.length vc cp cs.length cc lp ls.length lc w h
  · by_cases hz : tErr s n X cs ls = 0
    · obtain ⟨N, ts, SS, t, rfl, e1, e2, hT⟩ := tErr_zero hz hs hv hcv hl (by omega)
      rw [e1, e2]
      exact truthSays_good s N vp vc ts _ cs SS lp lc t w hT (by have := hT.l2; omega)
    · by_cases hm : mErr s n X = 0
      · by_cases hT : 60 < ls.length
        · by_cases hK : 40 < X.length
          · exact truthSays_gbb s n vp vc X cp cc cs lp lc ls w hs hv hcv hl hz hm (by omega) (by omega) (by omega) (by omega) (by omega) (by omega)
          · exact truthSays_gba s n vp vc X cp cc cs lp lc ls w hs hv hcv hl hz hm (by omega) (by omega) (by omega) (by omega) (by omega)
        · by_cases hK : 40 < X.length
          · exact truthSays_gab s n vp vc X cp cc cs lp lc ls w hs hv hcv hl hz hm (by omega) (by omega) (by omega) (by omega) (by omega)
          · exact truthSays_gaa s n vp vc X cp cc cs lp lc ls w hs hv hcv hl hz hm (by omega) (by omega) (by omega) (by omega)
      · by_cases hT : 60 < ls.length
        · by_cases hK : 40 < X.length
          · exact truthSays_bbb s n vp vc X cp cc cs lp lc ls w hs hv hcv hl hz hm (by omega) (by omega) (by omega) (by omega) (by omega) (by omega)
          · exact truthSays_bba s n vp vc X cp cc cs lp lc ls w hs hv hcv hl hz hm (by omega) (by omega) (by omega) (by omega) (by omega)
        · by_cases hK : 40 < X.length
          · exact truthSays_bab s n vp vc X cp cc cs lp lc ls w hs hv hcv hl hz hm (by omega) (by omega) (by omega) (by omega) (by omega)
          · exact truthSays_baa s n vp vc X cp cc cs lp lc ls w hs hv hcv hl hz hm (by omega) (by omega) (by omega) (by omega)

end Go.Proofs.Ytoiiadiimfohiaa
