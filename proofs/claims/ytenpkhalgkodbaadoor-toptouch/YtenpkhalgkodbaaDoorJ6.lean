/- Joined: TtG, TtJ, PickB, Pick, Raw, TtC, TtK, MdC. -/
import Derived.Test.YtenpkhalgkodbaaDoorJ5
import Derived.Deep.RegionHeld3
import Derived.Deep.QuietTactic
import Derived.Deep.CutRange
import Derived.Test.YtenpkhalgkodbaaDoorJ0
import Derived.Test.YtenpkhalgkodbaaDoorJ2
import Derived.Test.YtenpkhalgkodbaaDoorJ4
/- Contracts: call.Sign; call.find where none is found. -/
namespace Go.Proofs.YtenpkhalgkodbaaDoor
open Go.RowKit

set_option maxRecDepth 20000 in
set_option maxHeartbeats 1000000 in
theorem cdigit_any (r : Int) (w : World) : Calls Tryd.prog 24 #[.int .i32 r] w fun e w' => e = .returned (.bool (decide (48 ≤ r ∧ r ≤ 57))) ∧ w = w' := by
  by_cases h1 : 48 ≤ r
  · by_cases h2 : r ≤ 57
    · rw [decide_eq_true ⟨h1, h2⟩]
      go_enter Tryd.func24, Tryd.ntmps24
      go_wp2
      go_ret
      first | exact ⟨rfl, rfl⟩ | exact ⟨by simp; omega, rfl⟩
    · rw [decide_eq_false (fun h => h2 h.2)]
      go_enter Tryd.func24, Tryd.ntmps24
      go_wp2
      go_ret
      first | exact ⟨rfl, rfl⟩ | exact ⟨by simp; omega, rfl⟩
  · rw [decide_eq_false (fun h => h1 h.1)]
    go_enter Tryd.func24, Tryd.ntmps24
    go_wp2
    go_ret
    first | exact ⟨rfl, rfl⟩ | exact ⟨by simp; omega, rfl⟩

set_option maxRecDepth 20000 in
set_option maxHeartbeats 2000000 in
theorem sign_any (r : Int) (w : World) : Calls Tryd.prog 6 #[.int .i32 r] w fun e w' => e = .returned (.bool (sgnR r)) ∧ w = w' := by
  have HD := hide (cdigit_any r w)
  by_cases d0 : 48 ≤ r ∧ r ≤ 57
  · have HP : Hid (sgnR r = false) := by unfold sgnR; exact decide_eq_false (by omega)
    have hdg : decide (48 ≤ r ∧ r ≤ 57) = true := decide_eq_true (by omega)
    rw [hdg] at HD
    clear hdg d0
    generalize sgnR r = R at *
    go_enter Tryd.func6, Tryd.ntmps6
    go_wp2_with fail
    refine HD.out.mono ?_
    rintro e w' ⟨rfl, rfl⟩
    go_wp2
    go_ret
    exact ⟨ret_bool HP.out.symm, rfl⟩
  by_cases d1 : r = 40
  · have HP : Hid (sgnR r = false) := by unfold sgnR; exact decide_eq_false (by omega)
    have hdg : decide (48 ≤ r ∧ r ≤ 57) = false := decide_eq_false (by omega)
    rw [hdg] at HD
    have e1 : (r == 40) = true := by rw [beq_iff_eq]; omega
    clear hdg d0 d1
    generalize sgnR r = R at *
    go_enter Tryd.func6, Tryd.ntmps6
    go_wp2_with fail
    refine HD.out.mono ?_
    rintro e w' ⟨rfl, rfl⟩
    go_wp2
    go_ret
    exact ⟨ret_bool HP.out.symm, rfl⟩
  by_cases d2 : r = 41
  · have HP : Hid (sgnR r = false) := by unfold sgnR; exact decide_eq_false (by omega)
    have hdg : decide (48 ≤ r ∧ r ≤ 57) = false := decide_eq_false (by omega)
    rw [hdg] at HD
    have e1 : (r == 40) = false := by rw [beq_eq_false_iff_ne]; omega
    have e2 : (r == 41) = true := by rw [beq_iff_eq]; omega
    clear hdg d0 d1 d2
    generalize sgnR r = R at *
    go_enter Tryd.func6, Tryd.ntmps6
    go_wp2_with fail
    refine HD.out.mono ?_
    rintro e w' ⟨rfl, rfl⟩
    go_wp2
    go_ret
    exact ⟨ret_bool HP.out.symm, rfl⟩
  by_cases d3 : 127 ≤ r ∧ r ≤ 160
  · have HP : Hid (sgnR r = false) := by unfold sgnR; exact decide_eq_false (by omega)
    have hdg : decide (48 ≤ r ∧ r ≤ 57) = false := decide_eq_false (by omega)
    rw [hdg] at HD
    have e1 : (r == 40) = false := by rw [beq_eq_false_iff_ne]; omega
    have e2 : (r == 41) = false := by rw [beq_eq_false_iff_ne]; omega
    have e3 : 127 ≤ r := by omega
    have e4 : r ≤ 160 := by omega
    clear hdg d0 d1 d2 d3
    generalize sgnR r = R at *
    go_enter Tryd.func6, Tryd.ntmps6
    go_wp2_with fail
    refine HD.out.mono ?_
    rintro e w' ⟨rfl, rfl⟩
    go_wp2
    go_ret
    exact ⟨ret_bool HP.out.symm, rfl⟩
  by_cases d4 : r < 33
  · have HP : Hid (sgnR r = false) := by unfold sgnR; exact decide_eq_false (by omega)
    have hdg : decide (48 ≤ r ∧ r ≤ 57) = false := decide_eq_false (by omega)
    rw [hdg] at HD
    have e1 : (r == 40) = false := by rw [beq_eq_false_iff_ne]; omega
    have e2 : (r == 41) = false := by rw [beq_eq_false_iff_ne]; omega
    have e3 : ¬ 127 ≤ r := by omega
    have e5 : ¬ 33 ≤ r := by omega
    clear hdg d0 d1 d2 d3 d4
    generalize sgnR r = R at *
    go_enter Tryd.func6, Tryd.ntmps6
    go_wp2_with fail
    refine HD.out.mono ?_
    rintro e w' ⟨rfl, rfl⟩
    go_wp2
    go_ret
    exact ⟨ret_bool HP.out.symm, rfl⟩
  by_cases d5 : 12287 < r
  · have HP : Hid (sgnR r = false) := by unfold sgnR; exact decide_eq_false (by omega)
    have hdg : decide (48 ≤ r ∧ r ≤ 57) = false := decide_eq_false (by omega)
    rw [hdg] at HD
    have e1 : (r == 40) = false := by rw [beq_eq_false_iff_ne]; omega
    have e2 : (r == 41) = false := by rw [beq_eq_false_iff_ne]; omega
    have e3 : 127 ≤ r := by omega
    have e4 : ¬ r ≤ 160 := by omega
    have e5 : 33 ≤ r := by omega
    have e6 : ¬ r ≤ 12287 := by omega
    have e7 : decide (r ≤ 12287) = false := decide_eq_false e6
    have E7 := hide e7
    clear hdg d0 d1 d2 d3 d4 d5
    generalize sgnR r = R at *
    go_enter Tryd.func6, Tryd.ntmps6
    go_wp2_with fail
    refine HD.out.mono ?_
    rintro e w' ⟨rfl, rfl⟩
    go_wp2
    go_ret
    first | exact ⟨ret_bool HP.out.symm, rfl⟩ | exact ⟨ret_bool (E7.out.trans HP.out.symm), rfl⟩
  by_cases d6 : 127 ≤ r
  · have HP : Hid (sgnR r = true) := by unfold sgnR; exact decide_eq_true (by omega)
    have hdg : decide (48 ≤ r ∧ r ≤ 57) = false := decide_eq_false (by omega)
    rw [hdg] at HD
    have e1 : (r == 40) = false := by rw [beq_eq_false_iff_ne]; omega
    have e2 : (r == 41) = false := by rw [beq_eq_false_iff_ne]; omega
    have e3 : 127 ≤ r := by omega
    have e4 : ¬ r ≤ 160 := by omega
    have e5 : 33 ≤ r := by omega
    have e6 : r ≤ 12287 := by omega
    clear hdg d0 d1 d2 d3 d4 d5 d6
    generalize sgnR r = R at *
    go_enter Tryd.func6, Tryd.ntmps6
    go_wp2_with fail
    refine HD.out.mono ?_
    rintro e w' ⟨rfl, rfl⟩
    go_wp2
    go_ret
    exact ⟨ret_bool HP.out.symm, rfl⟩
  have HP : Hid (sgnR r = true) := by unfold sgnR; exact decide_eq_true (by omega)
  have hdg : decide (48 ≤ r ∧ r ≤ 57) = false := decide_eq_false (by omega)
  rw [hdg] at HD
  have e1 : (r == 40) = false := by rw [beq_eq_false_iff_ne]; omega
  have e2 : (r == 41) = false := by rw [beq_eq_false_iff_ne]; omega
  have e3 : ¬ 127 ≤ r := by omega
  have e5 : 33 ≤ r := by omega
  have e6 : r ≤ 12287 := by omega
  clear hdg d0 d1 d2 d3 d4 d5 d6
  generalize sgnR r = R at *
  go_enter Tryd.func6, Tryd.ntmps6
  go_wp2_with fail
  refine HD.out.mono ?_
  rintro e w' ⟨rfl, rfl⟩
  go_wp2
  go_ret
  exact ⟨ret_bool HP.out.symm, rfl⟩

set_option maxRecDepth 20000 in
set_option maxHeartbeats 1000000 in
theorem isSign_ok (r s : Int) (u : Value) (B : Nat) (w : World) (hB : w.cell? ⟨B, 0, none⟩ = some (.int .i32 s)) (hb : B < w.heap.size) (hne : r ≠ s) :
    Calls Tryd.prog 72 #[.agg #[.int .i32 r, u], .pointer (some ⟨B, 0, none⟩)] w fun e w' => e = .returned (.bool false) ∧ Below w.heap.size w w' := by
  have hne' : (r == s) = false := by rw [beq_eq_false_iff_ne]; exact hne
  have hB1 : Below w.heap.size w (w.alloc (.cells #[.int .i32 r, u] 50)) := (Below.refl _ _).alloc (Nat.le_refl _) _
  have g1 : (w.alloc (.cells #[.int .i32 r, u] 50)).cell? ⟨B, 0, none⟩ = some (.int .i32 s) := (hB1.cell (p := ⟨B, 0, none⟩) hb).trans hB
  have g2 : (w.alloc (.cells #[.int .i32 r, u] 50)).cell? ⟨w.heap.size, 0, none⟩ = some (.int .i32 r) := by
    have h9 := heap_alloc_new w (.cells #[.int .i32 r, u] 50)
    unfold World.cell?
    simp only [h9]
    rfl
  clear hB
  go_enter Tryd.func72, Tryd.ntmps72
  go_wp2
  go_ret
  exact ⟨rfl, hB1⟩

set_option maxRecDepth 20000 in
set_option maxHeartbeats 1000000 in
theorem indexSign_none (s : Int) (B : Nat) (b off m cap : Nat) (w : World) (hB : w.cell? ⟨B, 0, none⟩ = some (.int .i32 s)) (hb : B < w.heap.size) (hbl : b < w.heap.size)
    (hcell : ∀ k, k < m → ∃ r u, w.cell? ⟨b, off + k * 2, none⟩ = some (.int .i32 r) ∧ w.cell? ⟨b, off + k * 2 + 1, none⟩ = some u ∧ r ≠ s ∧ u.oneCell' = true) (hm3 : m ≤ 1000) :
    Calls Tryd.prog 71 #[.slice (some ⟨b, off, none⟩) m cap, .func (.func 72) #[] #[.pointer (some ⟨B, 0, none⟩)]] w fun e w' => e = .returned (.int .i64 (-1)) ∧ Below w.heap.size w w' := by
  have HC := hide hcell
  have HB := hide hB
  clear hcell hB
  go_enter Tryd.func71, Tryd.ntmps71
  go_wp2
  go_loopw [8] (fun i wr => ∃ k : Nat, k ≤ m ∧ i = .int .i64 k ∧ Below w.heap.size w wr) (fun i _ => m - (intOf i).toNat)
  case atStart => exact ⟨0, by omega, rfl, Below.refl _ _⟩
  case round =>
    obtain ⟨k, hk, rfl, hbw⟩ := hrel
    have hbs := hbw.size
    by_cases hlt : k < m
    · obtain ⟨r, u, a1, a2, a3, a4⟩ := HC.out k hlt
      have g1 : wr.cell? ⟨b, off + k * 2, none⟩ = some (.int .i32 r) := (hbw.cell (by exact hbl)).trans a1
      have g2 : wr.cell? ⟨b, off + k * 2 + 1, none⟩ = some u := (hbw.cell (p := ⟨b, off + k * 2 + 1, none⟩) (by exact hbl)).trans a2
      have HK := hide (isSign_ok r s u B wr ((hbw.cell (p := ⟨B, 0, none⟩) hb).trans HB.out) (by omega) a3)
      clear a1 a2 a3
      go_wp2_with fail
      refine HK.out.mono ?_
      rintro e w2 ⟨rfl, hb2⟩
      have hB2 : Below w.heap.size w w2 := hbw.trans (hb2.mono hbs)
      clear hb2
      go_wp2
      go_roundw
      case rel => exact ⟨k + 1, by omega, by go_num, hB2⟩
      case measure => simp [intOf]; omega
    · go_wp2
      go_ret
      exact ⟨rfl, hbw⟩

set_option maxRecDepth 20000 in
set_option maxHeartbeats 1000000 in
theorem find_none (s : Int) (b off m cap : Nat) (w : World) (hbl : b < w.heap.size)
    (hcell : ∀ k, k < m → ∃ r u, w.cell? ⟨b, off + k * 2, none⟩ = some (.int .i32 r) ∧ w.cell? ⟨b, off + k * 2 + 1, none⟩ = some u ∧ r ≠ s ∧ u.oneCell' = true) (hm3 : m ≤ 1000) :
    Calls Tryd.prog 49 #[.slice (some ⟨b, off, none⟩) m cap, .int .i32 s] w fun e w' => e = .returned (.int .i64 (-1)) ∧ Below w.heap.size w w' := by
  have hmf : ∀ (fn : Fn) (first cap : Array Value) (w : World), (Instr.makeFunc fn first cap).run Tryd.prog w = .ok (.func fn first cap) w := fun _ _ _ _ => rfl
  have hB1 : Below w.heap.size w (w.alloc (.cells #[.int .i32 s] 21)) := (Below.refl _ _).alloc (Nat.le_refl _) _
  have h9 := heap_alloc_new w (.cells #[.int .i32 s] 21)
  have HI := hide (indexSign_none s w.heap.size b off m cap (w.alloc (.cells #[.int .i32 s] 21)) (by unfold World.cell?; simp only [h9]; rfl) (by simp) (by simp; omega) (fun k hk => by
    obtain ⟨r, u, a1, a2, a3⟩ := hcell k hk
    exact ⟨r, u, (hB1.cell (p := ⟨b, off + k * 2, none⟩) hbl).trans a1, (hB1.cell (p := ⟨b, off + k * 2 + 1, none⟩) hbl).trans a2, a3⟩) hm3)
  clear hcell h9
  go_enter Tryd.func49, Tryd.ntmps49
  go_wp2_with fail
  refine HI.out.mono ?_
  rintro e w2 ⟨rfl, hb2⟩
  have hB2 : Below w.heap.size w w2 := hB1.trans (hb2.mono (by simp))
  clear hb2 hB1
  go_wp2
  go_ret
  exact ⟨rfl, hB2⟩

set_option maxRecDepth 20000 in
set_option maxHeartbeats 2000000 in
theorem checkOne_ok (sn : ByteArray) (n : Int) (vp : Option Addr) (k vc : Nat) (s : Int) (cv : Value) (css : List (List Int)) (b off m cap : Nat) (w : World) (h1 : 1 ≤ n) (h2 : n ≤ 12) (hs1 : sgnR s = true) (hbl : b < w.heap.size)
    (hcell : ∀ k, k < m → ∃ r u, w.cell? ⟨b, off + k * 2, none⟩ = some (.int .i32 r) ∧ w.cell? ⟨b, off + k * 2 + 1, none⟩ = some u ∧ r ≠ s ∧ u.oneCell' = true) (hm3 : m ≤ 1000)
    (hcv : IntsAll w cv css) (hl : css.length ≤ k) (hok : ∀ j, j < css.length → okc n 0 (css.getD j []) = true) :
    Calls Tryd.prog 26 #[meth sn n (.slice vp k vc), .slice (some ⟨b, off, none⟩) m cap, .agg #[.int .i32 s, cv]] w fun e w' => e = .returned (.int .i64 0) ∧ Below w.heap.size w w' := by
  obtain ⟨cp, cc, rfl⟩ := hcv.len
  have hBW : Below w.heap.size w ((w.alloc (.cells #[.string sn, .int .i64 n, .slice vp k vc] 24)).alloc (.cells #[.int .i32 s, .slice cp css.length cc] 50)) := ((Below.refl _ _).alloc (Nat.le_refl _) _).alloc (by simp) _
  have hbox := ((Box.start w sn n (.slice vp k vc) 24).below ((Below.refl _ _).alloc (Nat.le_refl _) (.cells #[.int .i32 s, .slice cp css.length cc] 50)))
  have h9 := heap_alloc_new (w.alloc (.cells #[.string sn, .int .i64 n, .slice vp k vc] 24)) (.cells #[.int .i32 s, .slice cp css.length cc] 50)
  rw [show (w.alloc (.cells #[.string sn, .int .i64 n, .slice vp k vc] 24)).heap.size = w.heap.size + 1 from by simp] at h9
  have c0 : ((w.alloc (.cells #[.string sn, .int .i64 n, .slice vp k vc] 24)).alloc (.cells #[.int .i32 s, .slice cp css.length cc] 50)).cell? ⟨w.heap.size + 1, 0, none⟩ = some (.int .i32 s) := by
    unfold World.cell?; simp only [h9]; rfl
  have c1 : ((w.alloc (.cells #[.string sn, .int .i64 n, .slice vp k vc] 24)).alloc (.cells #[.int .i32 s, .slice cp css.length cc] 50)).cell? ⟨w.heap.size + 1, 1, none⟩ = some (.slice cp css.length cc) := by
    unfold World.cell?; simp only [h9]; rfl
  have HSG := hide (fun W => sign_any s W)
  rw [hs1] at HSG
  have HFD := hide (fun W (hb : Below w.heap.size w W) => find_none s b off m cap W (Nat.lt_of_lt_of_le hbl hb.size) (fun k hk => by
    obtain ⟨r, u, a1, a2, a3⟩ := hcell k hk
    exact ⟨r, u, (hb.cell (p := ⟨b, off + k * 2, none⟩) hbl).trans a1, (hb.cell (p := ⟨b, off + k * 2 + 1, none⟩) hbl).trans a2, a3⟩) hm3)
  have HCV := hide hcv
  have HOK := hide hok
  have HBX := hide hbox
  clear hcell hcv hok h9 hbox
  unfold meth
  go_enter Tryd.func26, Tryd.ntmps26
  go_wp2_with fail
  refine (HSG.out _).mono ?_
  rintro e w' ⟨rfl, rfl⟩
  go_wp2_with fail
  refine (HFD.out _ hBW).mono ?_
  rintro e w2 ⟨rfl, hb2⟩
  have hB2 : Below w.heap.size w w2 := hBW.trans (hb2.mono hBW.size)
  have d1 : w2.cell? ⟨w.heap.size + 1, 1, none⟩ = some (.slice cp css.length cc) := (hb2.cell (p := ⟨w.heap.size + 1, 1, none⟩) (by simp)).trans c1
  have hx2 := HBX.out.below hb2
  have e1 := hx2.c1
  have e2 := hx2.c2
  have hgt : ¬ (((k : Nat) : Int) < ((css.length : Nat) : Int)) := by omega
  have hgd : decide (((k : Nat) : Int) < ((css.length : Nat) : Int)) = false := decide_eq_false hgt
  have hgn : decide (k < css.length) = false := decide_eq_false (by omega)
  have HB2 := hide hB2
  have HE1 := hide e1
  clear c0 c1 hb2 HSG HFD hBW HBX hx2 hB2 hl hgt
  go_wp2
  go_loopw [32] (fun i wr => ∃ j : Nat, j ≤ css.length ∧ i = .int .i64 j ∧ Hid (Below w.heap.size w wr) ∧ Hid (wr.cell? ⟨w.heap.size, 1, none⟩ = some (.int .i64 n))) (fun i _ => css.length - (intOf i).toNat)
  case atStart => exact ⟨0, by omega, rfl, HB2, HE1⟩
  case round =>
    clear e1 HB2 HE1 d1 e2
    obtain ⟨j, hj, rfl, hbw, hen⟩ := hrel
    have hB2 := hbw.out
    have e1 := hen.out
    by_cases hlt : j < css.length
    · obtain ⟨b3, off3, cap3, he, hb3, hlc3, hcm3, hcell3⟩ := (HCV.out.below hB2).cell (by omega)
      simp only [Value.slice.injEq] at he
      obtain ⟨rfl, he2, rfl⟩ := he
      clear he2
      obtain ⟨q, c, hce, hint⟩ := hcell3 j hlt
      have HPC := hide (pcheck_any n _ _ _ h1 h2 hint.out)
      rw [show pck n (css.getD j []) = 0 from by unfold pck; rw [if_pos (HOK.out j hlt)]] at HPC
      clear hint hcell3
      generalize (css.getD j []).length = pl at hce HPC
      go_wp2_with fail
      refine HPC.out.mono ?_
      rintro e w' ⟨rfl, rfl⟩
      go_wp2
      go_roundw
      case rel => exact ⟨j + 1, by omega, by go_num, hbw, hen⟩
      case measure => simp [intOf]; omega
    · go_wp2
      go_ret
      exact ⟨rfl, hB2⟩

end Go.Proofs.YtenpkhalgkodbaaDoor

/- Contract: call.Check, where all may be. -/
namespace Go.Proofs.YtenpkhalgkodbaaDoor
open Go.RowKit

theorem below_drewJ (w : World) : Below w.heap.size w w.drew := (Below.refl _ _).drew

/-- What calls must be. -/
structure CallsOk (n : Int) (k : Nat) (cs : List (Int × List (List Int))) : Prop where
  sign : ∀ j, j < cs.length → sgnR (cs.getD j (0, [])).1 = true
  dist : ∀ i j, i < j → j < cs.length → (cs.getD i (0, [])).1 ≠ (cs.getD j (0, [])).1
  few : ∀ j, j < cs.length → (cs.getD j (0, [])).2.length ≤ k
  ok : ∀ j, j < cs.length → ∀ q, q < (cs.getD j (0, [])).2.length → okc n 0 ((cs.getD j (0, [])).2.getD q []) = true

set_option maxRecDepth 20000 in
set_option maxHeartbeats 4000000 in
theorem ccheck_ok (s : ByteArray) (n : Nat) (vp : Option Addr) (vc : Nat) (css : List (List Int)) (cv : Value) (cs : List (Int × List (List Int))) (w : World) (hs : s.size ≤ 9223372036854775807) (hn : nm s = true) (h1 : 2 ≤ n) (h2 : n ≤ 12) (hl1 : 1 ≤ css.length) (hl2 : css.length ≤ 200)
    (hv : IntsAll w (.slice vp css.length vc) css) (hok : ∀ k, k < css.length → okc n 0 (css.getD k []) = true) (hcv : CallsAt w cv cs) (hco : CallsOk n css.length cs) (hc1 : 1 ≤ cs.length) (hc2 : cs.length ≤ 8) :
    Calls Tryd.prog 8 #[meth s n (.slice vp css.length vc), cv] w fun e w' => e = .returned (.int .i64 0) ∧ Below w.heap.size w w' := by
  have hB0 : Below w.heap.size w (w.alloc (.cells #[.string s, .int .i64 n, .slice vp css.length vc] 24)) := (Below.refl _ _).alloc (Nat.le_refl _) _
  have HMC := hide (mcheck_ok s n (.slice vp css.length vc) css (w.alloc (.cells #[.string s, .int .i64 n, .slice vp css.length vc] 24)) hs hn h1 h2 hl1 hl2 (hv.below hB0) hok)
  have hbox := Box.start w s n (.slice vp css.length vc) 24
  obtain ⟨b, off, cap, rfl, hb, hlc, hcm, hcell⟩ := hcv
  have HC := hide hcell
  have HCO := hide hco
  have HBX := hide hbox
  clear hn hv hok hco hcell hbox
  generalize css.length = K at *
  unfold meth at HMC
  unfold meth
  go_enter Tryd.func8, Tryd.ntmps8
  go_wp2_with fail
  refine HMC.out.mono ?_
  rintro e w1 ⟨rfl, hb1⟩
  have hB1 : Below w.heap.size w w1 := hB0.trans (hb1.mono (by simp))
  have HX1 := hide (HBX.out.below hb1)
  clear HMC HBX hb1 hB0
  go_wp2
  go_loopw [24] (fun i wr => ∃ j : Nat, j ≤ cs.length ∧ i = .int .i64 j ∧ Hid (Box wr w.heap.size s n (.slice vp K vc)) ∧ Below w.heap.size w wr) (fun i _ => cs.length - (intOf i).toNat)
  case atStart => exact ⟨0, by omega, rfl, HX1, hB1⟩
  case round =>
    clear HX1 hB1
    obtain ⟨j, hj, rfl, hX, hbw⟩ := hrel
    have hbs := hbw.size
    by_cases hlt : j < cs.length
    · obtain ⟨u, a1, a2, a3⟩ := HC.out j hlt
      have g1 : wr.cell? ⟨b, off + j * 2, none⟩ = some (.int .i32 (cs.getD j (0, [])).1) := (hbw.cell (by exact hb)).trans a1
      have g2 : wr.cell? ⟨b, off + j * 2 + 1, none⟩ = some u := (hbw.cell (p := ⟨b, off + j * 2 + 1, none⟩) (by exact hb)).trans a2
      obtain ⟨up, uc, rfl⟩ := a3.len
      have HCK := hide (fun W (hW : Below w.heap.size w W) => checkOne_ok s n vp K vc (cs.getD j (0, [])).1 (.slice up (cs.getD j (0, [])).2.length uc) (cs.getD j (0, [])).2 b off j cap W (by omega) (by omega) (HCO.out.sign j hlt) (Nat.lt_of_lt_of_le hb hW.size) (fun i hi => by
        obtain ⟨u', b1, b2, b3⟩ := HC.out i (by omega)
        obtain ⟨p', c', e'⟩ := b3.len
        exact ⟨_, u', (hW.cell (p := ⟨b, off + i * 2, none⟩) hb).trans b1, (hW.cell (p := ⟨b, off + i * 2 + 1, none⟩) hb).trans b2, HCO.out.dist i j hi hlt, by rw [e']; rfl⟩) (by omega) (a3.below hW) (HCO.out.few j hlt) (HCO.out.ok j hlt))
      clear a1 a2 a3
      generalize (cs.getD j (0, [])).1 = sg at *
      generalize (cs.getD j (0, [])).2.length = ul at *
      go_upto_region 9 with fail
      have hXA := hX.out.below ((Below.refl wr.heap.size wr).alloc (Nat.le_refl _) (.cells #[.int .i32 sg, .slice up ul uc] 50))
      have h9 := heap_alloc_new wr (.cells #[.int .i32 sg, .slice up ul uc] 50)
      have hBA : Below w.heap.size w (wr.alloc (.cells #[.int .i32 sg, .slice up ul uc] 50)) := hbw.alloc hbs _
      have hRA : wr.heap.size < (wr.alloc (.cells #[.int .i32 sg, .slice up ul uc] 50)).heap.size := by simp
      have d0 : (wr.alloc (.cells #[.int .i32 sg, .slice up ul uc] 50)).cell? ⟨wr.heap.size, 0, none⟩ = some (.int .i32 sg) := by unfold World.cell?; simp only [h9]; rfl
      have d1 : (wr.alloc (.cells #[.int .i32 sg, .slice up ul uc] 50)).cell? ⟨wr.heap.size, 1, none⟩ = some (.slice up ul uc) := by unfold World.cell?; simp only [h9]; rfl
      have b0 := hXA.c0
      have b1 := hXA.c1
      have b2 := hXA.c2
      have hbl := hXA.lt
      have HXA := hide hXA
      clear h9 g1 g2 hX hXA
      generalize (wr.alloc (.cells #[.int .i32 sg, .slice up ul uc] 50)) = WA at *
      generalize wr.heap.size = RA at *
      refine wp_region_held_drew (S := fun W' => Below WA.heap.size WA W') (by kernel_rfl) (below_drewJ WA) (fun hS => ?_)
      refine wpAnyH_take (i := 0) (v := .agg #[.string s, .int .i64 (n : Int), .slice vp K vc]) rfl (by kernel_rfl) (by kernel_rfl) (by kernel_rfl) (fun _ _ _ h => h) (Or.inl ⟨by kernel_rfl, fun w' hS' => by have q0 := (Below.cell hS' (p := ⟨w.heap.size, 0, none⟩) (by exact hbl)).trans b0; have q1 := (Below.cell hS' (p := ⟨w.heap.size, 1, none⟩) (by exact hbl)).trans b1; have q2 := (Below.cell hS' (p := ⟨w.heap.size, 2, none⟩) (by exact hbl)).trans b2; clear hS'; go_simp⟩) hS ?_
      refine wpAnyH_take (i := 1) (v := .slice (some ⟨b, off, none⟩) cs.length cap) rfl (by kernel_rfl) (by kernel_rfl) (by kernel_rfl) (fun _ _ _ h => h) (Or.inl ⟨by kernel_rfl, fun w' hS' => by clear hS'; go_simp⟩) hS ?_
      refine wpAnyH_take (i := 2) (v := .int .i64 (j : Int)) rfl (by kernel_rfl) (by kernel_rfl) (by kernel_rfl) (fun _ _ _ h => h) (Or.inl ⟨by kernel_rfl, fun w' hS' => by clear hS'; go_simp⟩) hS ?_
      refine wpAnyH_take (i := 3) (v := .slice (some ⟨b, off, none⟩) j cap) rfl (by kernel_rfl) (by kernel_rfl) (by kernel_rfl) (fun _ _ _ h => h) (Or.inl ⟨by kernel_rfl, fun w' hS' => by clear hS'; go_simp; intro h0; exact absurd h0 (by omega)⟩) hS ?_
      refine wpAnyH_take (i := 4) (v := .agg #[.int .i32 sg, .slice up ul uc]) rfl (by kernel_rfl) (by kernel_rfl) (by kernel_rfl) (fun _ _ _ h => h) (Or.inl ⟨by kernel_rfl, fun w' hS' => by have q0 := (Below.cell hS' (p := ⟨RA, 0, none⟩) (by exact hRA)).trans d0; have q1 := (Below.cell hS' (p := ⟨RA, 1, none⟩) (by exact hRA)).trans d1; clear hS'; go_simp⟩) hS ?_
      refine wpAnyH_ready (rs := [5]) (by kernel_rfl) (by simp) ?_
      refine AllReadyH.cons rfl (fun K hK => ?_) AllReadyH.nil
      go_simp
      have hS0 := below_drewJ WA
      refine (HCK.out WA.drew (hBA.trans (hS0.mono hBA.size))).mono ?_
      rintro ex wo ⟨rfl, hbo⟩
      have hSo : Below WA.heap.size WA wo := hS0.trans (hbo.mono hS0.size)
      refine hK.out _ _ hSo (fun hS => ?_)
      clear hK
      refine wpAnyH_take (i := 6) (v := .int .i64 0) rfl (by kernel_rfl) (by kernel_rfl) (by kernel_rfl) (fun _ _ _ h => h) (Or.inl ⟨by kernel_rfl, fun w' hS' => by clear hS'; go_simp⟩) hS ?_
      refine wpAnyH_done (by kernel_rfl) ?_ _
      have HXo := hide (HXA.out.below hSo)
      have hBo : Below w.heap.size w wo := hBA.trans (hSo.mono hBA.size)
      clear hSo hbo hS0 HCK HXA
      go_wp2
      go_roundw
      case rel => exact ⟨j + 1, by omega, by go_num, HXo, hBo⟩
      case measure => simp [intOf]; omega
    · go_wp2
      go_ret
      exact ⟨rfl, hbw⟩

end Go.Proofs.YtenpkhalgkodbaaDoor

/- Contract: Pick. -/
namespace Go.Proofs.YtenpkhalgkodbaaDoor
open Go.RowKit

set_option maxHeartbeats 400000 in
theorem pick_any (c n : Int) (w : World) (h1 : -9223372036854775808 ≤ c) (h2 : c ≤ 9223372036854775807) (h3 : 0 < n) (h4 : n ≤ 9223372036854775807) :
    Calls Tryd.prog 17 #[.int .i64 c, .int .i64 n] w fun e w' => ∃ k : Int, 0 ≤ k ∧ k < n ∧ e = .returned (.int .i64 k) ∧ w = w' := by
  by_cases h : c < 0
  · go_enter Tryd.func17, Tryd.ntmps17
    go_wp2
    go_ret
    refine ⟨_, ?_, ?_, rfl, rfl⟩
    · rw [← Int.neg_tmod]; exact Int.tmod_nonneg _ (by omega)
    · rw [← Int.neg_tmod]; exact Int.tmod_lt_of_pos _ h3
  · go_enter Tryd.func17, Tryd.ntmps17
    go_wp2
    go_ret
    refine ⟨_, ?_, ?_, rfl, rfl⟩
    · exact Int.emod_nonneg _ (by omega)
    · exact Int.emod_lt_of_pos _ h3

/-- Which of n things a raw number speaks of. -/
def pk (c n : Int) : Int := (if c < 0 then -(c + 1) else c) % n

theorem pk_range (c : Int) {n : Int} (h : 0 < n) : 0 ≤ pk c n ∧ pk c n < n := ⟨Int.emod_nonneg _ (by omega), Int.emod_lt_of_pos _ h⟩

set_option maxHeartbeats 400000 in
theorem pick_det (c n : Int) (w : World) (h1 : -9223372036854775808 ≤ c) (h2 : c ≤ 9223372036854775807) (h3 : 0 < n) (h4 : n ≤ 9223372036854775807) :
    Calls Tryd.prog 17 #[.int .i64 c, .int .i64 n] w fun e w' => e = .returned (.int .i64 (pk c n)) ∧ w = w' := by
  by_cases h : c < 0
  · have HP : Hid (pk c n = (-(c + 1)) % n) := by show _ = _; unfold pk; rw [if_pos h]
    go_enter Tryd.func17, Tryd.ntmps17
    go_wp2
    go_ret
    refine ⟨ret_int ?_, rfl⟩
    rw [HP.out, ← Int.neg_tmod, Int.tmod_eq_emod_of_nonneg (by omega)]
  · have HP : Hid (pk c n = c % n) := by show _ = _; unfold pk; rw [if_neg h]
    go_enter Tryd.func17, Tryd.ntmps17
    go_wp2
    go_ret
    exact ⟨ret_int HP.out.symm, rfl⟩

end Go.Proofs.YtenpkhalgkodbaaDoor

/- Pick: see PickB. -/
namespace Go.Proofs.YtenpkhalgkodbaaDoor
end Go.Proofs.YtenpkhalgkodbaaDoor

/- Contract: Raw. -/
namespace Go.Proofs.YtenpkhalgkodbaaDoor
open Go.RowKit

theorem wrap_I64 (x : Int) : I64 (wrap64 x) := by
  unfold I64 wrap64
  omega

set_option maxRecDepth 20000 in
set_option maxHeartbeats 400000 in
theorem raw_any (v : Value) (xs : List Int) (k : Nat) (w : World) (h : Ints w v xs) (hx : ∀ x, x ∈ xs → I64 x) (hk : k ≤ 1000000) :
    Calls Tryd.prog 42 #[v, .int .i64 k] w fun e w' => ∃ x, I64 x ∧ e = .returned (.int .i64 x) ∧ w = w' := by
  rcases h with ⟨rfl, p, c, rfl⟩ | ⟨b, off, cap, rfl, h0, hc, hm, hb, hcell⟩
  · go_enter Tryd.func42, Tryd.ntmps42
    go_wp2
    go_ret
    exact ⟨0, ⟨by omega, by omega⟩, rfl, rfl⟩
  · have hml : k % xs.length < xs.length := Nat.mod_lt _ h0
    have hme : (k : Int) % (xs.length : Int) = ((k % xs.length : Nat) : Int) := (Int.natCast_emod k xs.length).symm
    obtain ⟨x, hxe, hcx⟩ := cellAt hcell hml
    have hxm : I64 x := hx x (by rw [← hxe.out, List.getElem?_eq_getElem hml]; exact List.getElem_mem hml)
    have hne : ((xs.length : Int) == 0) = false := by rw [beq_eq_false_iff_ne]; omega
    generalize k % xs.length = m at *
    have HX := hide hx
    clear hcell hx hxe
    go_enter Tryd.func42, Tryd.ntmps42
    go_wp2
    go_ret
    exact ⟨x, hxm, rfl, rfl⟩

end Go.Proofs.YtenpkhalgkodbaaDoor

/- Contracts: the answer's LeadsOf; call.checkLeads. -/
namespace Go.Proofs.YtenpkhalgkodbaaDoor
open Go.RowKit

set_option maxRecDepth 20000 in
set_option maxHeartbeats 2000000 in
theorem leadsOf_ok (v : Value) (xs : List Int) (m k : Nat) (w : World) (h : Ints w v xs) (hx : ∀ x, x ∈ xs → I64 x) (hm : m ≤ 1000) (hk1 : 1 ≤ k) (hk2 : k ≤ 1000) :
    Calls Tryd.prog 20 #[v, .int .i64 m, .int .i64 k] w fun e w' => ∃ (u : Value) (ls : List Int), e = .returned u ∧ w'.ownsRow w.heap.size 3 1 u m (ls.map (Value.int .i64)) ∧ (∀ l, l ∈ ls → 0 ≤ l ∧ l < (k : Int)) ∧ Below w.heap.size w w' := by
  obtain ⟨i0, hi, hz0, hz1, hz2⟩ := info_parts Tryd.info3
  obtain ⟨p0, c0, rfl⟩ := h.form
  have HI := hide h
  have HX := hide hx
  clear h hx
  go_enter Tryd.func20, Tryd.ntmps20
  go_wp2
  go_loopw [7, 8] (fun u i wr => ∃ (j : Nat) (ls : List Int), j ≤ m ∧ i = .int .i64 j ∧ Hid (wr.ownsRow w.heap.size 3 1 u j (ls.map (Value.int .i64))) ∧ Hid (∀ l, l ∈ ls → 0 ≤ l ∧ l < (k : Int)) ∧ Below w.heap.size w wr) (fun _ i _ => m - (intOf i).toNat)
  case atStart => exact ⟨0, [], by omega, rfl, World.ownsRow_nil _ _ _ _, (fun l h => by cases h), Below.refl _ _⟩
  case round =>
    obtain ⟨j, ls, hj, rfl, hO, hL, hbw⟩ := hrel
    have hbs := hbw.size
    have hrow := hO.out
    obtain ⟨up, uc, rfl⟩ := owns_slice hrow
    by_cases hlt : j < m
    · have HRW := hide (raw_any _ xs j wr (HI.out.below hbw) HX.out (by omega))
      go_wp2_with fail
      refine HRW.out.mono ?_
      rintro e wa ⟨x, hxi, rfl, rfl⟩
      go_wp2_with fail
      refine (pick_any x (k : Int) _ hxi.1 hxi.2 (by omega) (by omega)).mono ?_
      rintro e wa ⟨q, hq0, hq1, rfl, rfl⟩
      go_wp2_with (at_builtin; refine wpList_append_own _ rfl _ _ 26 rfl w.heap.size 3 i0 (.int .i64 0) 1 8 Tryd.underlying26 hi hz0 hz1 hz2 rfl (by decide) _ _ _ rfl (hrow.alloc _) ⟨wr.heap.size, 0, none⟩ 1 1 [.int .i64 q] rfl rfl ?c1 ?c2 ?c3 ?c4 ?c5 ?_)
      case c1 => exact cell_one_new _ _ _
      case c2 => intro u hu; simp at hu; subst hu; rfl
      case c3 => unfold maxLen; omega
      case c4 => omega
      case c5 => simp; omega
      · intro v' w1 hown' hgrow _
        have HO : Hid (w1.ownsRow w.heap.size 3 1 v' (j + 1) ((ls ++ [q]).map (Value.int .i64))) := by show World.ownsRow _ _ _ _ _ _ _; rw [List.map_append]; exact hown'
        have HL2 : Hid (∀ l, l ∈ ls ++ [q] → 0 ≤ l ∧ l < (k : Int)) := fun l h => by
          rcases List.mem_append.1 h with h | h
          · exact hL.out l h
          · rw [List.mem_singleton] at h; rw [h]; exact ⟨hq0, hq1⟩
        have HB1 : Hid (Below w.heap.size w w1) := (hbw.alloc hbw.size _).grown hgrow (by simp; omega) (fun g hg => (hrow.lt g hg).1)
        clear hown' hgrow hrow hO
        go_wp2
        go_roundw
        case rel => exact ⟨j + 1, ls ++ [q], by omega, by go_num, HO, HL2, HB1.out⟩
        case measure => simp [intOf]; omega
    · obtain rfl : j = m := by omega
      go_wp2
      go_ret
      exact ⟨_, ls, rfl, hrow, hL.out, hbw⟩

set_option maxRecDepth 20000 in
set_option maxHeartbeats 2000000 in
theorem checkLeads_ok (cp : Option Addr) (cl cc : Nat) (v : Value) (ls : List Int) (w : World) (h : Ints w v ls) (hl1 : 1 ≤ ls.length) (hl2 : ls.length ≤ 400) (hin : ∀ l, l ∈ ls → 0 ≤ l ∧ l < (cl : Int)) :
    Calls Tryd.prog 29 #[.slice cp cl cc, v] w fun e w' => e = .returned (.int .i64 0) ∧ w = w' := by
  rcases h with ⟨rfl, _⟩ | ⟨b, off, cap, rfl, h0, hc, hm, hb, hcell⟩
  · simp at hl1
  have HIN := hide hin
  clear hin
  go_enter Tryd.func29, Tryd.ntmps29
  go_wp2
  go_loop [17] (fun i => ∃ k : Nat, k ≤ ls.length ∧ i = .int .i64 k) (fun i => ls.length - (intOf i).toNat)
  case atStart => exact ⟨0, by omega, rfl⟩
  case round =>
    obtain ⟨k, hk, rfl⟩ := hrel
    by_cases hlt : k < ls.length
    · obtain ⟨y, hy, hcx⟩ := cellAt hcell hlt
      have hym : y ∈ ls := by
        rw [← hy.out, List.getElem?_eq_getElem hlt, Option.getD_some]
        exact List.getElem_mem _
      obtain ⟨y1, y2⟩ := HIN.out y hym
      have hy3 : ¬ y < 0 := by omega
      have hy4 : ¬ y ≥ (cl : Int) := by omega
      clear hcell hy hym
      go_wp2
      go_round
      case rel => exact ⟨k + 1, by omega, by go_num⟩
      case measure => simp [intOf]; omega
    · clear hcell
      go_wp2
      go_ret
      exact ⟨rfl, rfl⟩

end Go.Proofs.YtenpkhalgkodbaaDoor

/- Contract: call.May, where a touch may be. -/
namespace Go.Proofs.YtenpkhalgkodbaaDoor
open Go.RowKit

set_option maxRecDepth 20000 in
set_option maxHeartbeats 4000000 in
theorem may_ok (s : ByteArray) (n : Nat) (vp : Option Addr) (vc : Nat) (css : List (List Int)) (cv : Value) (cs : List (Int × List (List Int))) (lv : Value) (ls : List Int) (w : World) (hs : s.size ≤ 9223372036854775807) (hn : nm s = true) (h1 : 2 ≤ n) (h2 : n ≤ 12) (hl1 : 1 ≤ css.length) (hl2 : css.length ≤ 200)
    (hv : IntsAll w (.slice vp css.length vc) css) (hok : ∀ k, k < css.length → okc n 0 (css.getD k []) = true) (hcv : CallsAt w cv cs) (hco : CallsOk n css.length cs) (hc1 : 1 ≤ cs.length) (hc2 : cs.length ≤ 8)
    (hl : Ints w lv ls) (hN1 : 1 ≤ ls.length) (hN2 : ls.length ≤ 400) (hin : ∀ l, l ∈ ls → 0 ≤ l ∧ l < (cs.length : Int)) (hm : ls.length * css.length ≤ 20000) :
    Calls Tryd.prog 14 #[meth s n (.slice vp css.length vc), cv, lv] w fun e w' => e = .returned (.int .i64 0) ∧ Below w.heap.size w w' := by
  have hB0 : Below w.heap.size w (w.alloc (.cells #[.string s, .int .i64 n, .slice vp css.length vc] 24)) := (Below.refl _ _).alloc (Nat.le_refl _) _
  have HCC := hide (ccheck_ok s n vp vc css cv cs (w.alloc (.cells #[.string s, .int .i64 n, .slice vp css.length vc] 24)) hs hn h1 h2 hl1 hl2 (hv.below hB0) hok (hcv.below hB0) hco hc1 hc2)
  have hbox := Box.start w s n (.slice vp css.length vc) 24
  obtain ⟨b, off, cap, rfl, hb, hlc, hcm, hcell⟩ := hcv
  have HCL := hide (fun W (hW : Below w.heap.size w W) => checkLeads_ok (some ⟨b, off, none⟩) cs.length cap lv ls W (hl.below hW) hN1 hN2 hin)
  obtain ⟨lp, lc, rfl⟩ := hl.form
  have HBX := hide hbox
  have hmi : ((ls.length : Int)) * (css.length : Int) = ((ls.length * css.length : Nat) : Int) := (Int.natCast_mul _ _).symm
  clear hn hv hok hco hcell hbox hl hin
  generalize ls.length * css.length = P at *
  generalize css.length = K at *
  generalize ls.length = N at *
  unfold meth at HCC
  unfold meth
  go_enter Tryd.func14, Tryd.ntmps14
  go_wp2_with fail
  refine HCC.out.mono ?_
  rintro e w1 ⟨rfl, hb1⟩
  have hB1 : Below w.heap.size w w1 := hB0.trans (hb1.mono (by simp))
  have hX1 := HBX.out.below hb1
  have g2 := hX1.c2
  clear HCC HBX hb1 hB0
  go_wp2_with fail
  refine (HCL.out w1 hB1).mono ?_
  rintro e w2 ⟨rfl, rfl⟩
  clear HCL
  go_wp2
  go_ret
  exact ⟨rfl, hB1⟩

end Go.Proofs.YtenpkhalgkodbaaDoor

/- What is wrong with calls and leads; contracts at every call: call.checkOne. -/
namespace Go.Proofs.YtenpkhalgkodbaaDoor
open Go.RowKit
set_option maxRecDepth 20000
set_option linter.unusedVariables false

/-- A call: its sign and its changes. -/
abbrev Cl := Int × List (List Int)

/-- What is wrong with a call behind others. -/
def oErr (n : Int) (K : Nat) (ah : List Cl) (c : Cl) : Int :=
  if sgnR c.1 = true then (if c.1 ∈ ah.map Prod.fst then 8 else if K < c.2.length then 1 else fstE n c.2) else 4

def cFst (n : Int) (K : Nat) : List Cl → List Cl → Int
  | _, [] => 0
  | ah, c :: r => if oErr n K ah c = 0 then cFst n K (ah ++ [c]) r else oErr n K ah c

theorem cl_at {cs : List Cl} {j : Nat} (h : j < cs.length) : cs.drop j = cs.getD j (0, []) :: cs.drop (j + 1) ∧ cs.take (j + 1) = cs.take j ++ [cs.getD j (0, [])] := by
  have e : cs.getD j (0, []) = cs[j] := by simp [List.getD, h]
  rw [e]
  exact ⟨List.drop_eq_getElem_cons h, List.take_succ_eq_append_getElem h⟩

theorem cFst_ok {n : Int} {K : Nat} {cs : List Cl} {j : Nat} (h : j < cs.length) (hz : oErr n K (cs.take j) (cs.getD j (0, [])) = 0) : cFst n K (cs.take j) (cs.drop j) = cFst n K (cs.take (j + 1)) (cs.drop (j + 1)) := by
  rw [(cl_at h).1, (cl_at h).2, cFst, if_pos hz]

theorem cFst_bad {n : Int} {K : Nat} {cs : List Cl} {j : Nat} (h : j < cs.length) (hz : oErr n K (cs.take j) (cs.getD j (0, [])) ≠ 0) : cFst n K (cs.take j) (cs.drop j) = oErr n K (cs.take j) (cs.getD j (0, [])) := by
  rw [(cl_at h).1, cFst, if_neg hz]

/-- What is wrong with calls. -/
def cErr (s : ByteArray) (n : Int) (X : List (List Int)) (cs : List Cl) : Int :=
  if mErr s n X = 0 then (if cs.length < 1 ∨ 8 < cs.length then 1 else cFst n X.length [] cs) else mErr s n X

/-- What is wrong with leads. -/
def lErr (C : Nat) (ls : List Int) : Int :=
  if ls.length < 1 ∨ 400 < ls.length then 1 else if ∀ l, l ∈ ls → 0 ≤ l ∧ l < (C : Int) then 0 else 12

/-- What is wrong with a touch. -/
def tErr (s : ByteArray) (n : Int) (X : List (List Int)) (cs : List Cl) (ls : List Int) : Int :=
  if cErr s n X cs = 0 then (if lErr cs.length ls = 0 then (if 20000 < ls.length * X.length then 3 else 0) else lErr cs.length ls) else cErr s n X cs

/-- Calls in memory, none too. -/
def CallsIn (w : World) (v : Value) (cs : List Cl) : Prop := (cs = [] ∧ ∃ p c, v = .slice p 0 c) ∨ (1 ≤ cs.length ∧ CallsAt w v cs)

theorem CallsIn.below {w w' : World} {v : Value} {cs : List Cl} (h : CallsIn w v cs) (hb : Below w.heap.size w w') : CallsIn w' v cs := by
  rcases h with h | ⟨h1, h2⟩
  · exact Or.inl h
  · exact Or.inr ⟨h1, h2.below hb⟩

theorem CallsIn.form {w : World} {v : Value} {cs : List Cl} (h : CallsIn w v cs) : ∃ p c, v = .slice p cs.length c := by
  rcases h with ⟨rfl, p, c, rfl⟩ | ⟨h1, b, off, cap, rfl, _⟩
  · exact ⟨p, c, rfl⟩
  · exact ⟨_, cap, rfl⟩

set_option maxHeartbeats 1000000 in
theorem isSign_any (r s : Int) (u : Value) (B : Nat) (w : World) (hB : w.cell? ⟨B, 0, none⟩ = some (.int .i32 s)) (hb : B < w.heap.size) :
    Calls Tryd.prog 72 #[.agg #[.int .i32 r, u], .pointer (some ⟨B, 0, none⟩)] w fun e w' => e = .returned (.bool (r == s)) ∧ Below w.heap.size w w' := by
  have hB1 : Below w.heap.size w (w.alloc (.cells #[.int .i32 r, u] 50)) := (Below.refl _ _).alloc (Nat.le_refl _) _
  have g1 : (w.alloc (.cells #[.int .i32 r, u] 50)).cell? ⟨B, 0, none⟩ = some (.int .i32 s) := (hB1.cell (p := ⟨B, 0, none⟩) hb).trans hB
  have g2 : (w.alloc (.cells #[.int .i32 r, u] 50)).cell? ⟨w.heap.size, 0, none⟩ = some (.int .i32 r) := by
    have h9 := heap_alloc_new w (.cells #[.int .i32 r, u] 50)
    unfold World.cell?
    simp only [h9]
    rfl
  clear hB
  generalize hq : (r == s) = q at *
  go_enter Tryd.func72, Tryd.ntmps72
  go_wp2
  go_ret
  exact ⟨rfl, hB1⟩

set_option maxHeartbeats 1000000 in
theorem indexSign_any (s : Int) (B : Nat) (b off cap : Nat) (sg : List Int) (w : World) (hB : w.cell? ⟨B, 0, none⟩ = some (.int .i32 s)) (hb : B < w.heap.size) (hbl : b < w.heap.size)
    (hcell : ∀ k, k < sg.length → ∃ u, w.cell? ⟨b, off + k * 2, none⟩ = some (.int .i32 (sg.getD k 0)) ∧ w.cell? ⟨b, off + k * 2 + 1, none⟩ = some u ∧ u.oneCell' = true) (hm3 : sg.length ≤ 1000) :
    Calls Tryd.prog 71 #[.slice (some ⟨b, off, none⟩) sg.length cap, .func (.func 72) #[] #[.pointer (some ⟨B, 0, none⟩)]] w fun e w' => (∃ i : Int, e = .returned (.int .i64 i) ∧ (0 ≤ i ↔ s ∈ sg)) ∧ Below w.heap.size w w' := by
  have HC := hide hcell
  have HB := hide hB
  obtain ⟨m, hm⟩ : ∃ m, Hid (sg.length = m) := ⟨_, rfl⟩
  rw [hm.out] at HC hm3 ⊢
  clear hcell hB
  go_enter Tryd.func71, Tryd.ntmps71
  go_wp2
  go_loopw [8] (fun i wr => ∃ k : Nat, k ≤ m ∧ i = .int .i64 k ∧ Hid (∀ j, j < k → sg.getD j 0 ≠ s) ∧ Below w.heap.size w wr) (fun i _ => m - (intOf i).toNat)
  case atStart => exact ⟨0, by omega, rfl, (fun j hj => absurd hj (by omega)), Below.refl _ _⟩
  case round =>
    obtain ⟨k, hk, rfl, hN, hbw⟩ := hrel
    have hbs := hbw.size
    by_cases hlt : k < m
    · obtain ⟨u, a1, a2, a4⟩ := HC.out k hlt
      have g1 : wr.cell? ⟨b, off + k * 2, none⟩ = some (.int .i32 (sg.getD k 0)) := (hbw.cell (by exact hbl)).trans a1
      have g2 : wr.cell? ⟨b, off + k * 2 + 1, none⟩ = some u := (hbw.cell (p := ⟨b, off + k * 2 + 1, none⟩) (by exact hbl)).trans a2
      have HK := hide (isSign_any (sg.getD k 0) s u B wr ((hbw.cell (p := ⟨B, 0, none⟩) hb).trans HB.out) (by omega))
      clear a1 a2
      by_cases he : sg.getD k 0 = s
      · have HI : Hid (s ∈ sg) := by
          have hk' : k < sg.length := by rw [hm.out]; exact hlt
          show s ∈ sg
          rw [← he, List.getD, List.getElem?_eq_getElem hk', Option.getD_some]
          exact List.getElem_mem _
        rw [show (sg.getD k 0 == s) = true from by simpa using he] at HK
        clear he hN
        generalize sg.getD k 0 = r at *
        go_wp2_with fail
        refine HK.out.mono ?_
        rintro e w2 ⟨rfl, hb2⟩
        have hB2 : Below w.heap.size w w2 := hbw.trans (hb2.mono hbs)
        clear hb2
        go_wp2
        go_ret
        exact ⟨⟨(k : Int), rfl, ⟨fun _ => HI.out, fun _ => by omega⟩⟩, hB2⟩
      · rw [show (sg.getD k 0 == s) = false from by rw [beq_eq_false_iff_ne]; exact he] at HK
        have HN2 : Hid (∀ j, j < k + 1 → sg.getD j 0 ≠ s) := fun j hj => by
          rcases Nat.lt_succ_iff_lt_or_eq.1 hj with h | h
          · exact hN.out j h
          · rw [h]; exact he
        clear he hN
        generalize sg.getD k 0 = r at *
        go_wp2_with fail
        refine HK.out.mono ?_
        rintro e w2 ⟨rfl, hb2⟩
        have hB2 : Below w.heap.size w w2 := hbw.trans (hb2.mono hbs)
        clear hb2
        go_wp2
        go_roundw
        case rel => exact ⟨k + 1, by omega, by go_num, HN2, hB2⟩
        case measure => simp [intOf]; omega
    · have HNI : Hid (¬ s ∈ sg) := fun h => by
        obtain ⟨j, hj, e⟩ := List.getElem_of_mem h
        have := hN.out j (by rw [hm.out] at hj; omega)
        rw [List.getD, List.getElem?_eq_getElem hj, Option.getD_some] at this
        exact this e
      clear hN
      go_wp2
      go_ret
      exact ⟨⟨-1, rfl, ⟨fun h => absurd h (by omega), fun h => absurd h HNI.out⟩⟩, hbw⟩

set_option maxHeartbeats 1000000 in
theorem find_all (s : Int) (b off cap : Nat) (sg : List Int) (w : World) (hbl : b < w.heap.size)
    (hcell : ∀ k, k < sg.length → ∃ u, w.cell? ⟨b, off + k * 2, none⟩ = some (.int .i32 (sg.getD k 0)) ∧ w.cell? ⟨b, off + k * 2 + 1, none⟩ = some u ∧ u.oneCell' = true) (hm3 : sg.length ≤ 1000) :
    Calls Tryd.prog 49 #[.slice (some ⟨b, off, none⟩) sg.length cap, .int .i32 s] w fun e w' => (∃ i : Int, e = .returned (.int .i64 i) ∧ (0 ≤ i ↔ s ∈ sg)) ∧ Below w.heap.size w w' := by
  have hmf : ∀ (fn : Fn) (first cap : Array Value) (w : World), (Instr.makeFunc fn first cap).run Tryd.prog w = .ok (.func fn first cap) w := fun _ _ _ _ => rfl
  have hB1 : Below w.heap.size w (w.alloc (.cells #[.int .i32 s] 21)) := (Below.refl _ _).alloc (Nat.le_refl _) _
  have h9 := heap_alloc_new w (.cells #[.int .i32 s] 21)
  have HI := hide (indexSign_any s w.heap.size b off cap sg (w.alloc (.cells #[.int .i32 s] 21)) (by unfold World.cell?; simp only [h9]; rfl) (by simp) (by simp; omega) (fun k hk => by
    obtain ⟨u, a1, a2, a3⟩ := hcell k hk
    exact ⟨u, (hB1.cell (p := ⟨b, off + k * 2, none⟩) hbl).trans a1, (hB1.cell (p := ⟨b, off + k * 2 + 1, none⟩) hbl).trans a2, a3⟩) hm3)
  obtain ⟨m, hm⟩ : ∃ m, Hid (sg.length = m) := ⟨_, rfl⟩
  rw [hm.out] at HI ⊢
  clear hcell h9 hm3
  go_enter Tryd.func49, Tryd.ntmps49
  go_wp2_with fail
  refine HI.out.mono ?_
  rintro e w2 ⟨⟨i, rfl, hi⟩, hb2⟩
  have hB2 : Below w.heap.size w w2 := hB1.trans (hb2.mono (by simp))
  have HII := hide hi
  clear hb2 hB1 hi
  go_wp2
  go_ret
  exact ⟨⟨i, rfl, HII.out⟩, hB2⟩

set_option maxHeartbeats 4000000 in
theorem checkOne_all (sn : ByteArray) (n : Int) (vp : Option Addr) (k vc : Nat) (s : Int) (cv : Value) (css : List (List Int)) (b off cap : Nat) (ah : List Cl) (w : World) (hbl : b < w.heap.size)
    (hcell : ∀ k, k < ah.length → ∃ u, w.cell? ⟨b, off + k * 2, none⟩ = some (.int .i32 (ah.getD k (0, [])).1) ∧ w.cell? ⟨b, off + k * 2 + 1, none⟩ = some u ∧ u.oneCell' = true) (hm3 : ah.length ≤ 1000) (hcv : IntsAll w cv css) :
    Calls Tryd.prog 26 #[meth sn n (.slice vp k vc), .slice (some ⟨b, off, none⟩) ah.length cap, .agg #[.int .i32 s, cv]] w fun e w' => e = .returned (.int .i64 (oErr n k ah (s, css))) ∧ Below w.heap.size w w' := by
  obtain ⟨cp, cc, rfl⟩ := hcv.len
  have hBW : Below w.heap.size w ((w.alloc (.cells #[.string sn, .int .i64 n, .slice vp k vc] 24)).alloc (.cells #[.int .i32 s, .slice cp css.length cc] 50)) := ((Below.refl _ _).alloc (Nat.le_refl _) _).alloc (by simp) _
  have hbox := ((Box.start w sn n (.slice vp k vc) 24).below ((Below.refl _ _).alloc (Nat.le_refl _) (.cells #[.int .i32 s, .slice cp css.length cc] 50)))
  have h9 := heap_alloc_new (w.alloc (.cells #[.string sn, .int .i64 n, .slice vp k vc] 24)) (.cells #[.int .i32 s, .slice cp css.length cc] 50)
  rw [show (w.alloc (.cells #[.string sn, .int .i64 n, .slice vp k vc] 24)).heap.size = w.heap.size + 1 from by simp] at h9
  have c0 : ((w.alloc (.cells #[.string sn, .int .i64 n, .slice vp k vc] 24)).alloc (.cells #[.int .i32 s, .slice cp css.length cc] 50)).cell? ⟨w.heap.size + 1, 0, none⟩ = some (.int .i32 s) := by
    unfold World.cell?; simp only [h9]; rfl
  have c1 : ((w.alloc (.cells #[.string sn, .int .i64 n, .slice vp k vc] 24)).alloc (.cells #[.int .i32 s, .slice cp css.length cc] 50)).cell? ⟨w.heap.size + 1, 1, none⟩ = some (.slice cp css.length cc) := by
    unfold World.cell?; simp only [h9]; rfl
  have HSG := hide (fun W => sign_any s W)
  have HFD := hide (fun W (hb : Below w.heap.size w W) => find_all s b off cap (ah.map Prod.fst) W (Nat.lt_of_lt_of_le hbl hb.size) (fun k hk => by
    have hk' : k < ah.length := by simpa using hk
    obtain ⟨u, a1, a2, a3⟩ := hcell k hk'
    have e : (ah.map Prod.fst).getD k 0 = (ah.getD k (0, [])).1 := by simp [List.getD, hk']
    rw [e]
    exact ⟨u, (hb.cell (p := ⟨b, off + k * 2, none⟩) hbl).trans a1, (hb.cell (p := ⟨b, off + k * 2 + 1, none⟩) hbl).trans a2, a3⟩) (by rw [List.length_map]; exact hm3))
  rw [List.length_map] at HFD
  have HCV := hide hcv
  have HBX := hide hbox
  obtain ⟨m, hm⟩ : ∃ m, Hid (ah.length = m) := ⟨_, rfl⟩
  rw [hm.out] at HFD ⊢
  obtain ⟨N, hN⟩ : ∃ N, Hid (css.length = N) := ⟨_, rfl⟩
  rw [hN.out] at hBW c0 c1 HBX ⊢
  clear hcell hcv h9 hbox hm3
  unfold meth
  unfold oErr
  rw [hN.out]
  cases hsg : sgnR s with
  | false =>
    rw [if_neg (by simp)]
    rw [hsg] at HSG
    clear hsg
    go_enter Tryd.func26, Tryd.ntmps26
    go_wp2_with fail
    refine (HSG.out _).mono ?_
    rintro e w' ⟨rfl, rfl⟩
    go_wp2
    go_ret
    exact ⟨rfl, hBW⟩
  | true =>
    rw [if_pos rfl]
    rw [hsg] at HSG
    clear hsg
    by_cases hin : s ∈ ah.map Prod.fst
    · rw [if_pos hin]
      have HIN := hide hin
      clear hin
      go_enter Tryd.func26, Tryd.ntmps26
      go_wp2_with fail
      refine (HSG.out _).mono ?_
      rintro e w' ⟨rfl, rfl⟩
      go_wp2_with fail
      refine (HFD.out _ hBW).mono ?_
      rintro e w2 ⟨⟨i, rfl, hi⟩, hb2⟩
      have hi0 : 0 ≤ i := hi.2 HIN.out
      have HB2 := hide (hBW.trans (hb2.mono hBW.size))
      clear hi hb2 c0 c1 HSG HFD HBX
      go_wp2
      go_ret
      exact ⟨rfl, HB2.out⟩
    · rw [if_neg hin]
      have HIN := hide hin
      clear hin
      by_cases hkl : k < N
      · rw [if_pos hkl]
        have hgd : decide (((k : Nat) : Int) < ((N : Nat) : Int)) = true := decide_eq_true (by omega)
        have hgn : decide (k < N) = true := decide_eq_true hkl
        have hgi : (k : Int) < (N : Int) := by omega
        go_enter Tryd.func26, Tryd.ntmps26
        go_wp2_with fail
        refine (HSG.out _).mono ?_
        rintro e w' ⟨rfl, rfl⟩
        go_wp2_with fail
        refine (HFD.out _ hBW).mono ?_
        rintro e w2 ⟨⟨i, rfl, hi⟩, hb2⟩
        have hi0 : ¬ 0 ≤ i := fun h => HIN.out (hi.1 h)
        have HB2 := hide (hBW.trans (hb2.mono hBW.size))
        have d1 : w2.cell? ⟨w.heap.size + 1, 1, none⟩ = some (.slice cp N cc) := (hb2.cell (p := ⟨w.heap.size + 1, 1, none⟩) (by simp)).trans c1
        have e2 := (HBX.out.below hb2).c2
        clear hi hb2 c0 c1 HSG HFD HBX
        go_wp2
        go_ret
        exact ⟨rfl, HB2.out⟩
      · rw [if_neg hkl]
        obtain ⟨E, hE⟩ : ∃ E, Hid (fstE n css = E) := ⟨_, rfl⟩
        rw [hE.out]
        have hgd : decide (((k : Nat) : Int) < ((N : Nat) : Int)) = false := decide_eq_false (by omega)
        have hgn : decide (k < N) = false := decide_eq_false hkl
        go_enter Tryd.func26, Tryd.ntmps26
        go_wp2_with fail
        refine (HSG.out _).mono ?_
        rintro e w' ⟨rfl, rfl⟩
        go_wp2_with fail
        refine (HFD.out _ hBW).mono ?_
        rintro e w2 ⟨⟨i, rfl, hi⟩, hb2⟩
        have hi0 : ¬ 0 ≤ i := fun h => HIN.out (hi.1 h)
        have hB2 : Below w.heap.size w w2 := hBW.trans (hb2.mono hBW.size)
        have d1 : w2.cell? ⟨w.heap.size + 1, 1, none⟩ = some (.slice cp N cc) := (hb2.cell (p := ⟨w.heap.size + 1, 1, none⟩) (by simp)).trans c1
        have hx2 := HBX.out.below hb2
        have e1 := hx2.c1
        have e2 := hx2.c2
        have HB2 := hide hB2
        have HE1 := hide e1
        clear c0 c1 hb2 HSG HFD hBW HBX hx2 hB2 hkl hi
        go_wp2
        go_loopw [32] (fun i wr => ∃ j : Nat, j ≤ N ∧ i = .int .i64 j ∧ Hid (E = fstE n (css.drop j)) ∧ Hid (Below w.heap.size w wr) ∧ Hid (wr.cell? ⟨w.heap.size, 1, none⟩ = some (.int .i64 n))) (fun i _ => N - (intOf i).toNat)
        case atStart => exact ⟨0, by omega, rfl, hE.out.symm, HB2, HE1⟩
        case round =>
          clear e1 HB2 HE1 d1 e2
          obtain ⟨j, hj, rfl, hEk, hbw, hen⟩ := hrel
          have hB2 := hbw.out
          have e1 := hen.out
          by_cases hlt : j < N
          · have hjX : j < css.length := by rw [hN.out]; exact hlt
            obtain ⟨b3, off3, cap3, he, hb3, hlc3, hcm3, hcell3⟩ := (HCV.out.below hB2).cell (by rw [hN.out]; omega)
            rw [hN.out] at he hlc3 hcell3
            simp only [Value.slice.injEq] at he
            obtain ⟨rfl, he2, rfl⟩ := he
            clear he2
            obtain ⟨q, c, hce, hint⟩ := hcell3 j hlt
            have HPC := hide (pcheck_all n _ _ _ hint.out)
            clear hint hcell3
            by_cases hz : pc n (css.getD j []) = 0
            · have HEN : Hid (E = fstE n (css.drop (j + 1))) := hEk.out.trans (fstE_ok hjX hz)
              rw [hz] at HPC
              clear hz hEk
              generalize (css.getD j []).length = pl at hce HPC
              go_wp2_with fail
              refine HPC.out.mono ?_
              rintro e w' ⟨rfl, rfl⟩
              go_wp2
              go_roundw
              case rel => exact ⟨j + 1, by omega, by go_num, HEN, hbw, hen⟩
              case measure => simp [intOf]; omega
            · have HEN : Hid (E = pc n (css.getD j [])) := hEk.out.trans (fstE_bad hjX hz)
              have hzz : (pc n (css.getD j []) != 0) = true := by simpa using hz
              clear hz hEk
              generalize (css.getD j []).length = pl at hce HPC
              generalize pc n (css.getD j []) = pe at *
              go_wp2_with fail
              refine HPC.out.mono ?_
              rintro e w' ⟨rfl, rfl⟩
              go_wp2
              go_ret
              exact ⟨ret_int HEN.out.symm, hB2⟩
          · obtain rfl : j = N := by omega
            have HEN : Hid (E = 0) := by show E = 0; rw [hEk.out, List.drop_eq_nil_of_le (by rw [hN.out]; exact Nat.le_refl _)]; rfl
            clear hEk
            go_wp2
            go_ret
            exact ⟨ret_int HEN.out.symm, hB2⟩

end Go.Proofs.YtenpkhalgkodbaaDoor
