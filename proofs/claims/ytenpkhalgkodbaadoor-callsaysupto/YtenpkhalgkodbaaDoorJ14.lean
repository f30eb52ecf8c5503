/- Joined: CpG, CpH. -/
import Derived.Test.YtenpkhalgkodbaaDoorJ7
import Derived.Test.YtenpkhalgkodbaaDoorJ13
/- The law CallSays where a touch may not be. -/
namespace Go.Proofs.YtenpkhalgkodbaaDoor
open Go.RowKit Go.Shelf
set_option maxRecDepth 20000
set_option linter.unusedVariables false

set_option maxHeartbeats 8000000 in
theorem callSays_bada (s : ByteArray) (n : Int) (vp : Option Addr) (vc : Nat) (X : List (List Int)) (cp : Option Addr) (cc : Nat) (cs : List Cl) (lp : Option Addr) (lc : Nat) (ls : List Int) (c : Int) (w : World) (hs : s.size ≤ 1048576)
    (hv : IntsAll w (.slice vp X.length vc) X) (hcv : CallsIn w (.slice cp cs.length cc) cs) (hl : Ints w (.slice lp ls.length lc) ls) (hsr : ∀ c, c < cs.length → -2147483648 ≤ (cs.getD c (0, [])).1 ∧ (cs.getD c (0, [])).1 ≤ 2147483647) (hz : tErr s n X cs ls ≠ 0)
    (k1 : cs.length ≤ 12) (k3 : ls.length ≤ 500) (gT : ¬ 60 < (ls.length : Int)) :
    Calls Tryd.prog 3 #[.agg #[.string s, .int .i64 n, .slice vp X.length vc], .slice cp cs.length cc, .slice lp ls.length lc, .int .i32 c] w fun e w' => e = .returned (.bool true) ∧ Below w.heap.size w w' := by
  have hs2 : s.size ≤ 9223372036854775807 := Nat.le_trans hs (by omega)
  have HSG := hide (fun W => sign_any c W)
  have HSM := hide (fun W => signMay_any c W)
  have HCK := hide (fun W (hW : Below w.heap.size w W) => ccheck_all s n vp vc X _ cs W hs2 (hv.below hW) (hcv.below hW))
  have HCM := hide (fun W (hW : Below w.heap.size w W) => rcalls_all s n vp vc X _ cs W hs (hv.below hW) (hcv.below hW))
  have HPR := hide (fun W (hW : Below w.heap.size w W) => print_all _ cs _ ls W (hcv.below hW) (hl.below hW) hsr)
  have HRP := hide (fun W (hW : Below w.heap.size w W) => rprint_all _ cs _ ls W (hcv.below hW) (hl.below hW))
  have HTM := hide (fun W (hW : Below w.heap.size w W) => rtmay_all s n vp vc X _ cs _ ls W hs (hv.below hW) (hcv.below hW) (hl.below hW))
  have HMA := hide (fun W (hW : Below w.heap.size w W) => may_all s n vp vc X _ cs _ ls W hs2 (hv.below hW) (hcv.below hW) (hl.below hW))
  have HRW := hide (fun W (hW : Below w.heap.size w W) => rows_bad s n vp vc X _ cs _ ls W hs2 (hv.below hW) (hcv.below hW) (hl.below hW) hz)
  unfold NoRows at HRW
  have hzz : (tErr s n X cs ls != 0) = true := by simpa using hz
  have htt : (tErr s n X cs ls != tErr s n X cs ls) = false := by simp
  generalize tErr s n X cs ls = te at *
  unfold meth at HCK HMA HRW
  clear hv hcv hl hz hs hs2 hsr
  generalize sgnR c = sq at *
  generalize cErr s n X cs = ce at *
  generalize lErr cs.length ls = le at *
  generalize (⟨(prT cs ls).toArray⟩ : ByteArray) = TX at *
  generalize X.length = K at *
  generalize cs.length = C at *
  generalize ls.length = T at *
  have hq1 : (sq != sq) = false := by simp
  have hq2 : (ce != ce) = false := by simp
  have hq3 : (le != le) = false := by simp
  have HBA := hide ((Below.refl w.heap.size w).alloc (Nat.le_refl _) (mbox s n (.slice vp K vc)))
  obtain ⟨d0, d1, d2⟩ := mbox_cells w s n (.slice vp K vc)
  have hs0 : w.heap.size < (w.alloc (mbox s n (.slice vp K vc))).heap.size := by simp
  have g1 : ¬ 12 < (C : Int) := by omega
  have g3 : ¬ 500 < (T : Int) := by omega
  go_enter Tryd.func3, Tryd.ntmps3
  go_upto_region 3 with fail
  change Code.wp _ _ _ _ (w.alloc (mbox s n (.slice vp K vc)))
  generalize w.alloc (mbox s n (.slice vp K vc)) = wA at *
  refine wp_region_held_drew (S := fun W' => Below wA.heap.size wA W') (by kernel_rfl) (Below.refl wA.heap.size wA).drew (fun hS => ?_)
  refine wpAnyH_take (i := 0) (v := .int .i32 c) rfl (by kernel_rfl) (by kernel_rfl) (by kernel_rfl) (fun _ _ _ h => h) (Or.inl ⟨by kernel_rfl, fun w' hS' => by clear hS'; go_simp⟩) hS ?_
  refine wpAnyH_take (i := 2) (v := .int .i32 c) rfl (by kernel_rfl) (by kernel_rfl) (by kernel_rfl) (fun _ _ _ h => h) (Or.inl ⟨by kernel_rfl, fun w' hS' => by clear hS'; go_simp⟩) hS ?_
  refine wpAnyH_ready (rs := [1]) (by kernel_rfl) (by simp) ?_
  refine (AllReadyH.cons rfl (fun K9 hK9 => ?_) AllReadyH.nil)
  go_simp
  refine (HSG.out _).mono ?_
  rintro e wq ⟨rfl, rfl⟩
  refine hK9.out _ _ hS (fun hS => ?_)
  clear hK9
  refine wpAnyH_ready (rs := [3]) (by kernel_rfl) (by simp) ?_
  refine (AllReadyH.cons rfl (fun K9 hK9 => ?_) AllReadyH.nil)
  go_simp
  refine (HSM.out _).mono ?_
  rintro e wq ⟨rfl, rfl⟩
  refine hK9.out _ _ hS (fun hS => ?_)
  clear hK9
  refine wpAnyH_take (i := 4) (v := .bool false) rfl (by kernel_rfl) (by kernel_rfl) (by kernel_rfl) (fun _ _ _ h => h) (Or.inl ⟨by kernel_rfl, fun w' hS' => by clear hS'; go_simp⟩) hS ?_
  refine wpAnyH_take (i := 5) (v := .bool false) rfl (by kernel_rfl) (by kernel_rfl) (by kernel_rfl) (fun _ _ _ h => h) (Or.inl ⟨by kernel_rfl, fun w' hS' => by clear hS'; go_simp⟩) hS ?_
  refine wpAnyH_take (i := 6) (v := .agg #[.string s, .int .i64 n, .slice vp K vc]) rfl (by kernel_rfl) (by kernel_rfl) (by kernel_rfl) (fun _ _ _ h => h) (Or.inl ⟨by kernel_rfl, fun w' hS' => by have q0 := (Below.cell hS' (p := ⟨w.heap.size, 0, none⟩) hs0).trans d0; have q1 := (Below.cell hS' (p := ⟨w.heap.size, 1, none⟩) hs0).trans d1; have q2 := (Below.cell hS' (p := ⟨w.heap.size, 2, none⟩) hs0).trans d2; clear hS'; go_simp⟩) hS ?_
  refine wpAnyH_take (i := 7) (v := .slice cp C cc) rfl (by kernel_rfl) (by kernel_rfl) (by kernel_rfl) (fun _ _ _ h => h) (Or.inl ⟨by kernel_rfl, fun w' hS' => by clear hS'; go_simp⟩) hS ?_
  refine wpAnyH_take (i := 9) (v := .agg #[.string s, .int .i64 n, .slice vp K vc]) rfl (by kernel_rfl) (by kernel_rfl) (by kernel_rfl) (fun _ _ _ h => h) (Or.inl ⟨by kernel_rfl, fun w' hS' => by have q0 := (Below.cell hS' (p := ⟨w.heap.size, 0, none⟩) hs0).trans d0; have q1 := (Below.cell hS' (p := ⟨w.heap.size, 1, none⟩) hs0).trans d1; have q2 := (Below.cell hS' (p := ⟨w.heap.size, 2, none⟩) hs0).trans d2; clear hS'; go_simp⟩) hS ?_
  refine wpAnyH_take (i := 10) (v := .slice cp C cc) rfl (by kernel_rfl) (by kernel_rfl) (by kernel_rfl) (fun _ _ _ h => h) (Or.inl ⟨by kernel_rfl, fun w' hS' => by clear hS'; go_simp⟩) hS ?_
  have hS0 := hS
  refine wpAnyH_ready (rs := [8]) (by kernel_rfl) (by simp) ?_
  refine (AllReadyH.cons rfl (fun K9 hK9 => ?_) AllReadyH.nil)
  go_simp
  refine (HCK.out _ (HBA.out.trans (hS0.mono HBA.out.size))).mono ?_
  rintro e wk1 ⟨rfl, hbk1⟩
  have hB1 : Below wA.heap.size wA wk1 := hS0.trans (hbk1.mono hS0.size)
  refine hK9.out _ _ hB1 (fun hS => ?_)
  clear hK9
  refine wpAnyH_ready (rs := [11]) (by kernel_rfl) (by simp) ?_
  refine (AllReadyH.cons rfl (fun K9 hK9 => ?_) AllReadyH.nil)
  go_simp
  refine (HCM.out _ (HBA.out.trans (hB1.mono HBA.out.size))).mono ?_
  rintro e wk2 ⟨rfl, hbk2⟩
  have hB2 : Below wA.heap.size wA wk2 := hB1.trans (hbk2.mono hB1.size)
  refine hK9.out _ _ hB2 (fun hS => ?_)
  clear hK9
  refine wpAnyH_take (i := 12) (v := .bool false) rfl (by kernel_rfl) (by kernel_rfl) (by kernel_rfl) (fun _ _ _ h => h) (Or.inl ⟨by kernel_rfl, fun w' hS' => by clear hS'; go_simp⟩) hS ?_
  refine wpAnyH_take (i := 13) (v := .bool false) rfl (by kernel_rfl) (by kernel_rfl) (by kernel_rfl) (fun _ _ _ h => h) (Or.inl ⟨by kernel_rfl, fun w' hS' => by clear hS'; go_simp⟩) hS ?_
  refine wpAnyH_done (by kernel_rfl) ?_ _
  have HW2 := hide (HBA.out.trans (hB2.mono HBA.out.size))
  have m0 := (hB2.cell (p := ⟨w.heap.size, 0, none⟩) hs0).trans d0
  have m1 := (hB2.cell (p := ⟨w.heap.size, 1, none⟩) hs0).trans d1
  have m2 := (hB2.cell (p := ⟨w.heap.size, 2, none⟩) hs0).trans d2
  have hs2 : w.heap.size < wk2.heap.size := Nat.lt_of_lt_of_le hs0 hB2.size
  clear hS d0 d1 d2
  generalize wk2 = wp2 at *
  go_wp2_with fail
  refine (HPR.out _ HW2.out).mono ?_
  rintro e w3 ⟨rfl, hb3⟩
  have x2 : ∀ j', w3.cell? ⟨w.heap.size, j', none⟩ = wp2.cell? ⟨w.heap.size, j', none⟩ := fun j' => hb3.cell (p := ⟨w.heap.size, j', none⟩) hs2
  have n0 := (x2 0).trans m0
  have n1 := (x2 1).trans m1
  have n2 := (x2 2).trans m2
  have HW3 := hide (HW2.out.trans (hb3.mono HW2.out.size))
  have hs3 : w.heap.size < w3.heap.size := Nat.lt_of_lt_of_le hs2 hb3.size
  clear hb3 x2 m0 m1 m2 HW2
  go_wp2_with fail
  refine (HRP.out _ HW3.out).mono ?_
  rintro e w4 ⟨rfl, hb4⟩
  have x3 : ∀ j', w4.cell? ⟨w.heap.size, j', none⟩ = w3.cell? ⟨w.heap.size, j', none⟩ := fun j' => hb4.cell (p := ⟨w.heap.size, j', none⟩) hs3
  have m0 := (x3 0).trans n0
  have m1 := (x3 1).trans n1
  have m2 := (x3 2).trans n2
  have HW4 := hide (HW3.out.trans (hb4.mono HW3.out.size))
  have hs4 : w.heap.size < w4.heap.size := Nat.lt_of_lt_of_le hs3 hb4.size
  clear hb4 x3 n0 n1 n2 HW3
  go_wp2_with fail
  refine (HTM.out _ HW4.out).mono ?_
  rintro e w5 ⟨rfl, hb5⟩
  have x4 : ∀ j', w5.cell? ⟨w.heap.size, j', none⟩ = w4.cell? ⟨w.heap.size, j', none⟩ := fun j' => hb5.cell (p := ⟨w.heap.size, j', none⟩) hs4
  have n0 := (x4 0).trans m0
  have n1 := (x4 1).trans m1
  have n2 := (x4 2).trans m2
  have HW5 := hide (HW4.out.trans (hb5.mono HW4.out.size))
  have hs5 : w.heap.size < w5.heap.size := Nat.lt_of_lt_of_le hs4 hb5.size
  clear hb5 x4 m0 m1 m2 HW4
  go_wp2_with fail
  refine (HRW.out _ HW5.out).mono ?_
  rintro e w6 ⟨rfl, hb6⟩
  have x5 : ∀ j', w6.cell? ⟨w.heap.size, j', none⟩ = w5.cell? ⟨w.heap.size, j', none⟩ := fun j' => hb6.cell (p := ⟨w.heap.size, j', none⟩) hs5
  have m0 := (x5 0).trans n0
  have m1 := (x5 1).trans n1
  have m2 := (x5 2).trans n2
  have HW6 := hide (HW5.out.trans (hb6.mono HW5.out.size))
  have hs6 : w.heap.size < w6.heap.size := Nat.lt_of_lt_of_le hs5 hb6.size
  clear hb6 x5 n0 n1 n2 HW5
  go_wp2_with fail
  refine (HMA.out _ HW6.out).mono ?_
  rintro e w7 ⟨rfl, hb7⟩
  have HW7 := hide (HW6.out.trans (hb7.mono HW6.out.size))
  clear hb7 HW6
  go_wp2
  go_ret
  exact ⟨rfl, HW7.out⟩

set_option maxHeartbeats 8000000 in
theorem callSays_badb (s : ByteArray) (n : Int) (vp : Option Addr) (vc : Nat) (X : List (List Int)) (cp : Option Addr) (cc : Nat) (cs : List Cl) (lp : Option Addr) (lc : Nat) (ls : List Int) (c : Int) (w : World) (hs : s.size ≤ 1048576)
    (hv : IntsAll w (.slice vp X.length vc) X) (hcv : CallsIn w (.slice cp cs.length cc) cs) (hl : Ints w (.slice lp ls.length lc) ls) (hsr : ∀ c, c < cs.length → -2147483648 ≤ (cs.getD c (0, [])).1 ∧ (cs.getD c (0, [])).1 ≤ 2147483647) (hz : tErr s n X cs ls ≠ 0)
    (k1 : cs.length ≤ 12) (k3 : ls.length ≤ 500) (gT : 60 < (ls.length : Int)) (gT2 : ¬ (ls.length : Int) < 401) :
    Calls Tryd.prog 3 #[.agg #[.string s, .int .i64 n, .slice vp X.length vc], .slice cp cs.length cc, .slice lp ls.length lc, .int .i32 c] w fun e w' => e = .returned (.bool true) ∧ Below w.heap.size w w' := by
  have hs2 : s.size ≤ 9223372036854775807 := Nat.le_trans hs (by omega)
  have HSG := hide (fun W => sign_any c W)
  have HSM := hide (fun W => signMay_any c W)
  have HCK := hide (fun W (hW : Below w.heap.size w W) => ccheck_all s n vp vc X _ cs W hs2 (hv.below hW) (hcv.below hW))
  have HCM := hide (fun W (hW : Below w.heap.size w W) => rcalls_all s n vp vc X _ cs W hs (hv.below hW) (hcv.below hW))
  have HPR := hide (fun W (hW : Below w.heap.size w W) => print_all _ cs _ ls W (hcv.below hW) (hl.below hW) hsr)
  have HRP := hide (fun W (hW : Below w.heap.size w W) => rprint_all _ cs _ ls W (hcv.below hW) (hl.below hW))
  have HTM := hide (fun W (hW : Below w.heap.size w W) => rtmay_all s n vp vc X _ cs _ ls W hs (hv.below hW) (hcv.below hW) (hl.below hW))
  have HMA := hide (fun W (hW : Below w.heap.size w W) => may_all s n vp vc X _ cs _ ls W hs2 (hv.below hW) (hcv.below hW) (hl.below hW))
  have HRW := hide (fun W (hW : Below w.heap.size w W) => rows_bad s n vp vc X _ cs _ ls W hs2 (hv.below hW) (hcv.below hW) (hl.below hW) hz)
  unfold NoRows at HRW
  have hzz : (tErr s n X cs ls != 0) = true := by simpa using hz
  have htt : (tErr s n X cs ls != tErr s n X cs ls) = false := by simp
  generalize tErr s n X cs ls = te at *
  unfold meth at HCK HMA HRW
  clear hv hcv hl hz hs hs2 hsr
  generalize sgnR c = sq at *
  generalize cErr s n X cs = ce at *
  generalize lErr cs.length ls = le at *
  generalize (⟨(prT cs ls).toArray⟩ : ByteArray) = TX at *
  generalize X.length = K at *
  generalize cs.length = C at *
  generalize ls.length = T at *
  have hq1 : (sq != sq) = false := by simp
  have hq2 : (ce != ce) = false := by simp
  have hq3 : (le != le) = false := by simp
  have HBA := hide ((Below.refl w.heap.size w).alloc (Nat.le_refl _) (mbox s n (.slice vp K vc)))
  obtain ⟨d0, d1, d2⟩ := mbox_cells w s n (.slice vp K vc)
  have hs0 : w.heap.size < (w.alloc (mbox s n (.slice vp K vc))).heap.size := by simp
  have g1 : ¬ 12 < (C : Int) := by omega
  have g3 : ¬ 500 < (T : Int) := by omega
  go_enter Tryd.func3, Tryd.ntmps3
  go_upto_region 3 with fail
  change Code.wp _ _ _ _ (w.alloc (mbox s n (.slice vp K vc)))
  generalize w.alloc (mbox s n (.slice vp K vc)) = wA at *
  refine wp_region_held_drew (S := fun W' => Below wA.heap.size wA W') (by kernel_rfl) (Below.refl wA.heap.size wA).drew (fun hS => ?_)
  refine wpAnyH_take (i := 0) (v := .int .i32 c) rfl (by kernel_rfl) (by kernel_rfl) (by kernel_rfl) (fun _ _ _ h => h) (Or.inl ⟨by kernel_rfl, fun w' hS' => by clear hS'; go_simp⟩) hS ?_
  refine wpAnyH_take (i := 2) (v := .int .i32 c) rfl (by kernel_rfl) (by kernel_rfl) (by kernel_rfl) (fun _ _ _ h => h) (Or.inl ⟨by kernel_rfl, fun w' hS' => by clear hS'; go_simp⟩) hS ?_
  refine wpAnyH_ready (rs := [1]) (by kernel_rfl) (by simp) ?_
  refine (AllReadyH.cons rfl (fun K9 hK9 => ?_) AllReadyH.nil)
  go_simp
  refine (HSG.out _).mono ?_
  rintro e wq ⟨rfl, rfl⟩
  refine hK9.out _ _ hS (fun hS => ?_)
  clear hK9
  refine wpAnyH_ready (rs := [3]) (by kernel_rfl) (by simp) ?_
  refine (AllReadyH.cons rfl (fun K9 hK9 => ?_) AllReadyH.nil)
  go_simp
  refine (HSM.out _).mono ?_
  rintro e wq ⟨rfl, rfl⟩
  refine hK9.out _ _ hS (fun hS => ?_)
  clear hK9
  refine wpAnyH_take (i := 4) (v := .bool false) rfl (by kernel_rfl) (by kernel_rfl) (by kernel_rfl) (fun _ _ _ h => h) (Or.inl ⟨by kernel_rfl, fun w' hS' => by clear hS'; go_simp⟩) hS ?_
  refine wpAnyH_take (i := 5) (v := .bool false) rfl (by kernel_rfl) (by kernel_rfl) (by kernel_rfl) (fun _ _ _ h => h) (Or.inl ⟨by kernel_rfl, fun w' hS' => by clear hS'; go_simp⟩) hS ?_
  refine wpAnyH_take (i := 6) (v := .agg #[.string s, .int .i64 n, .slice vp K vc]) rfl (by kernel_rfl) (by kernel_rfl) (by kernel_rfl) (fun _ _ _ h => h) (Or.inl ⟨by kernel_rfl, fun w' hS' => by have q0 := (Below.cell hS' (p := ⟨w.heap.size, 0, none⟩) hs0).trans d0; have q1 := (Below.cell hS' (p := ⟨w.heap.size, 1, none⟩) hs0).trans d1; have q2 := (Below.cell hS' (p := ⟨w.heap.size, 2, none⟩) hs0).trans d2; clear hS'; go_simp⟩) hS ?_
  refine wpAnyH_take (i := 7) (v := .slice cp C cc) rfl (by kernel_rfl) (by kernel_rfl) (by kernel_rfl) (fun _ _ _ h => h) (Or.inl ⟨by kernel_rfl, fun w' hS' => by clear hS'; go_simp⟩) hS ?_
  refine wpAnyH_take (i := 9) (v := .agg #[.string s, .int .i64 n, .slice vp K vc]) rfl (by kernel_rfl) (by kernel_rfl) (by kernel_rfl) (fun _ _ _ h => h) (Or.inl ⟨by kernel_rfl, fun w' hS' => by have q0 := (Below.cell hS' (p := ⟨w.heap.size, 0, none⟩) hs0).trans d0; have q1 := (Below.cell hS' (p := ⟨w.heap.size, 1, none⟩) hs0).trans d1; have q2 := (Below.cell hS' (p := ⟨w.heap.size, 2, none⟩) hs0).trans d2; clear hS'; go_simp⟩) hS ?_
  refine wpAnyH_take (i := 10) (v := .slice cp C cc) rfl (by kernel_rfl) (by kernel_rfl) (by kernel_rfl) (fun _ _ _ h => h) (Or.inl ⟨by kernel_rfl, fun w' hS' => by clear hS'; go_simp⟩) hS ?_
  have hS0 := hS
  refine wpAnyH_ready (rs := [8]) (by kernel_rfl) (by simp) ?_
  refine (AllReadyH.cons rfl (fun K9 hK9 => ?_) AllReadyH.nil)
  go_simp
  refine (HCK.out _ (HBA.out.trans (hS0.mono HBA.out.size))).mono ?_
  rintro e wk1 ⟨rfl, hbk1⟩
  have hB1 : Below wA.heap.size wA wk1 := hS0.trans (hbk1.mono hS0.size)
  refine hK9.out _ _ hB1 (fun hS => ?_)
  clear hK9
  refine wpAnyH_ready (rs := [11]) (by kernel_rfl) (by simp) ?_
  refine (AllReadyH.cons rfl (fun K9 hK9 => ?_) AllReadyH.nil)
  go_simp
  refine (HCM.out _ (HBA.out.trans (hB1.mono HBA.out.size))).mono ?_
  rintro e wk2 ⟨rfl, hbk2⟩
  have hB2 : Below wA.heap.size wA wk2 := hB1.trans (hbk2.mono hB1.size)
  refine hK9.out _ _ hB2 (fun hS => ?_)
  clear hK9
  refine wpAnyH_take (i := 12) (v := .bool false) rfl (by kernel_rfl) (by kernel_rfl) (by kernel_rfl) (fun _ _ _ h => h) (Or.inl ⟨by kernel_rfl, fun w' hS' => by clear hS'; go_simp⟩) hS ?_
  refine wpAnyH_take (i := 13) (v := .bool false) rfl (by kernel_rfl) (by kernel_rfl) (by kernel_rfl) (fun _ _ _ h => h) (Or.inl ⟨by kernel_rfl, fun w' hS' => by clear hS'; go_simp⟩) hS ?_
  refine wpAnyH_done (by kernel_rfl) ?_ _
  have HW2 := hide (HBA.out.trans (hB2.mono HBA.out.size))
  have m0 := (hB2.cell (p := ⟨w.heap.size, 0, none⟩) hs0).trans d0
  have m1 := (hB2.cell (p := ⟨w.heap.size, 1, none⟩) hs0).trans d1
  have m2 := (hB2.cell (p := ⟨w.heap.size, 2, none⟩) hs0).trans d2
  have hs2 : w.heap.size < wk2.heap.size := Nat.lt_of_lt_of_le hs0 hB2.size
  clear hS d0 d1 d2
  generalize wk2 = wp2 at *
  go_wp2_with fail
  refine (HPR.out _ HW2.out).mono ?_
  rintro e w3 ⟨rfl, hb3⟩
  have x2 : ∀ j', w3.cell? ⟨w.heap.size, j', none⟩ = wp2.cell? ⟨w.heap.size, j', none⟩ := fun j' => hb3.cell (p := ⟨w.heap.size, j', none⟩) hs2
  have n0 := (x2 0).trans m0
  have n1 := (x2 1).trans m1
  have n2 := (x2 2).trans m2
  have HW3 := hide (HW2.out.trans (hb3.mono HW2.out.size))
  have hs3 : w.heap.size < w3.heap.size := Nat.lt_of_lt_of_le hs2 hb3.size
  clear hb3 x2 m0 m1 m2 HW2
  go_wp2_with fail
  refine (HRP.out _ HW3.out).mono ?_
  rintro e w4 ⟨rfl, hb4⟩
  have x3 : ∀ j', w4.cell? ⟨w.heap.size, j', none⟩ = w3.cell? ⟨w.heap.size, j', none⟩ := fun j' => hb4.cell (p := ⟨w.heap.size, j', none⟩) hs3
  have m0 := (x3 0).trans n0
  have m1 := (x3 1).trans n1
  have m2 := (x3 2).trans n2
  have HW4 := hide (HW3.out.trans (hb4.mono HW3.out.size))
  have hs4 : w.heap.size < w4.heap.size := Nat.lt_of_lt_of_le hs3 hb4.size
  clear hb4 x3 n0 n1 n2 HW3
  go_wp2_with fail
  refine (HTM.out _ HW4.out).mono ?_
  rintro e w5 ⟨rfl, hb5⟩
  have x4 : ∀ j', w5.cell? ⟨w.heap.size, j', none⟩ = w4.cell? ⟨w.heap.size, j', none⟩ := fun j' => hb5.cell (p := ⟨w.heap.size, j', none⟩) hs4
  have n0 := (x4 0).trans m0
  have n1 := (x4 1).trans m1
  have n2 := (x4 2).trans m2
  have HW5 := hide (HW4.out.trans (hb5.mono HW4.out.size))
  have hs5 : w.heap.size < w5.heap.size := Nat.lt_of_lt_of_le hs4 hb5.size
  clear hb5 x4 m0 m1 m2 HW4
  go_wp2_with fail
  refine (HRW.out _ HW5.out).mono ?_
  rintro e w6 ⟨rfl, hb6⟩
  have x5 : ∀ j', w6.cell? ⟨w.heap.size, j', none⟩ = w5.cell? ⟨w.heap.size, j', none⟩ := fun j' => hb6.cell (p := ⟨w.heap.size, j', none⟩) hs5
  have m0 := (x5 0).trans n0
  have m1 := (x5 1).trans n1
  have m2 := (x5 2).trans n2
  have HW6 := hide (HW5.out.trans (hb6.mono HW5.out.size))
  have hs6 : w.heap.size < w6.heap.size := Nat.lt_of_lt_of_le hs5 hb6.size
  clear hb6 x5 n0 n1 n2 HW5
  go_wp2_with fail
  refine (HMA.out _ HW6.out).mono ?_
  rintro e w7 ⟨rfl, hb7⟩
  have HW7 := hide (HW6.out.trans (hb7.mono HW6.out.size))
  clear hb7 HW6
  go_wp2
  go_ret
  exact ⟨rfl, HW7.out⟩

end Go.Proofs.YtenpkhalgkodbaaDoor

/- The law CallSays. -/
namespace Go.Proofs.YtenpkhalgkodbaaDoor
open Go.RowKit
set_option maxRecDepth 20000
set_option linter.unusedVariables false

set_option maxHeartbeats 2000000 in
theorem callSays_skip (s : ByteArray) (n : Int) (vp : Option Addr) (K vc : Nat) (cp : Option Addr) (C cc : Nat) (lp : Option Addr) (T lc : Nat) (c : Int) (w : World) (h : 12 < C ∨ (60 < T ∧ T < 401) ∨ 500 < T) :
    Calls Tryd.prog 3 #[.agg #[.string s, .int .i64 n, .slice vp K vc], .slice cp C cc, .slice lp T lc, .int .i32 c] w fun e w' => e = .returned (.bool true) ∧ Below w.heap.size w w' := by
  have HB0 := hide ((Below.refl w.heap.size w).alloc (Nat.le_refl _) (mbox s n (.slice vp K vc)))
  obtain ⟨d0, d1, d2⟩ := mbox_cells w s n (.slice vp K vc)
  by_cases h1 : 12 < (C : Int)
  · clear h
    go_enter Tryd.func3, Tryd.ntmps3
    go_wp2
    go_ret
    exact ⟨rfl, HB0.out⟩
  · have h2 : 60 < (T : Int) := by omega
    by_cases h3 : (T : Int) < 401
    · clear h
      go_enter Tryd.func3, Tryd.ntmps3
      go_wp2
      go_ret
      exact ⟨rfl, HB0.out⟩
    · have h4 : 500 < (T : Int) := by omega
      clear h
      go_enter Tryd.func3, Tryd.ntmps3
      go_wp2
      go_ret
      exact ⟨rfl, HB0.out⟩

theorem callSays_walk (s : ByteArray) (n : Int) (mv : Value) (X : List (List Int)) (cv : Value) (cs : List Cl) (lv : Value) (ls : List Int) (c : Int) (w : World) (hs : s.size ≤ 1048576) (hv : IntsAll w mv X) (hcv : CallsIn w cv cs) (hl : Ints w lv ls) (hsr : ∀ c, c < cs.length → -2147483648 ≤ (cs.getD c (0, [])).1 ∧ (cs.getD c (0, [])).1 ≤ 2147483647) :
    Calls Tryd.prog 3 #[.agg #[.string s, .int .i64 n, mv], cv, lv, .int .i32 c] w fun e w' => e = .returned (.bool true) ∧ Below w.heap.size w w' := by
  obtain ⟨vp, vc, rfl⟩ := hv.len
  obtain ⟨cp, cc, rfl⟩ := hcv.form
  obtain ⟨lp, lc, rfl⟩ := hl.form
  by_cases h : 12 < cs.length ∨ (60 < ls.length ∧ ls.length < 401) ∨ 500 < ls.length
  · exact callSays_skip s n vp X.length vc cp cs.length cc lp ls.length lc c w h
  · by_cases hz : tErr s n X cs ls = 0
    · have h4 : ls.length ≤ 400 := by
        obtain ⟨N, ts, SS, t, rfl, e1, e2, hT⟩ := tErr_zero hz hs hv hcv hl (by omega)
        have := hT.t2
        omega
      exact callSays_good s n vp vc X cp cc cs lp lc ls c w hs hv hcv hl hsr hz (by omega) (by omega) (by omega)
    · by_cases hT : 60 < ls.length
      · exact callSays_badb s n vp vc X cp cc cs lp lc ls c w hs hv hcv hl hsr hz (by omega) (by omega) (by omega) (by omega)
      · exact callSays_bada s n vp vc X cp cc cs lp lc ls c w hs hv hcv hl hsr hz (by omega) (by omega) (by omega)

end Go.Proofs.YtenpkhalgkodbaaDoor
