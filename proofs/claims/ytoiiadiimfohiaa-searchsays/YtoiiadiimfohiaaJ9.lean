/- Joined: TtE, Sgn, TtG, TtJ, TtC, TtK, TtH, ChMay, PSa, TtI. -/
import Derived.Test.YtoiiadiimfohiaaJ5
import Derived.Test.YtoiiadiimfohiaaJ0
import Derived.Test.YtoiiadiimfohiaaJ7
import Derived.Deep.RegionHeld3
import Derived.Deep.QuietTactic
import Derived.Deep.CutRange
import Derived.Test.YtoiiadiimfohiaaJ6
import Derived.Test.YtoiiadiimfohiaaJ8
/- Calls in memory; contracts: call.Sign's rest, truth.ByHeads' closure, slices.ContainsFunc where none is found. -/
namespace Go.Proofs.Ytoiiadiimfohiaa
open Go.RowKit

/-- The slice value v reads as calls: signs, and changes as places. -/
def CallsAt (w : World) (v : Value) (cs : List (Int × List (List Int))) : Prop :=
  ∃ b off cap, v = .slice (some ⟨b, off, none⟩) cs.length cap ∧ b < w.heap.size ∧ cs.length ≤ cap ∧ cap ≤ 9223372036854775807 ∧
    ∀ k, k < cs.length → ∃ u, w.cell? ⟨b, off + k * 2, none⟩ = some (.int .i32 (cs.getD k (0, [])).1) ∧ w.cell? ⟨b, off + k * 2 + 1, none⟩ = some u ∧ IntsAll w u (cs.getD k (0, [])).2

theorem CallsAt.below {w w' : World} {v : Value} {cs : List (Int × List (List Int))} (h : CallsAt w v cs) (hb : Below w.heap.size w w') : CallsAt w' v cs := by
  obtain ⟨b, off, cap, h1, h2, h3, h4, h5⟩ := h
  refine ⟨b, off, cap, h1, Nat.lt_of_lt_of_le h2 hb.size, h3, h4, fun k hk => ?_⟩
  obtain ⟨u, a1, a2, a3⟩ := h5 k hk
  exact ⟨u, (hb.cell (p := ⟨b, off + k * 2, none⟩) h2).trans a1, (hb.cell (p := ⟨b, off + k * 2 + 1, none⟩) h2).trans a2, a3.below hb⟩

theorem Try.size47 : (Try.prog.info? 47).map (·.size) = some 2 := by kernel_rfl

set_option maxRecDepth 20000 in
set_option maxHeartbeats 1000000 in
theorem longer_ok (c : Nat) (B : Nat) (v : Value) (cs : List (Int × List (List Int))) (w : World) (hB : w.cell? ⟨B, 0, none⟩ = some v) (h : CallsAt w v cs) (hc : c < cs.length) (hl : (cs.getD c (0, [])).2.length ≤ 1) :
    Calls Try.prog 29 #[.int .i64 c, .pointer (some ⟨B, 0, none⟩)] w fun e w' => e = .returned (.bool false) ∧ w = w' := by
  obtain ⟨b, off, cap, rfl, hb, hlc, hcm, hcell⟩ := h
  obtain ⟨u, a1, a2, a3⟩ := hcell c hc
  obtain ⟨up, uc, rfl⟩ := a3.len
  generalize (cs.getD c (0, [])).2.length = ul at *
  have hl2 : ¬ (1 : Int) < ((ul : Nat) : Int) := by omega
  clear hcell a3 a1
  go_enter Try.func29, Try.ntmps29
  go_wp2
  go_ret
  exact ⟨by simp, rfl⟩

set_option maxRecDepth 20000 in
set_option maxHeartbeats 1000000 in
theorem indexFunc_none (B : Nat) (v1 : Value) (ls : List Int) (w : World) (h : Ints w v1 ls) (h1 : 1 ≤ ls.length) (hcl : ∀ l, l ∈ ls → Calls Try.prog 29 #[.int .i64 l, .pointer (some ⟨B, 0, none⟩)] w fun e w' => e = .returned (.bool false) ∧ w = w') :
    Calls Try.prog 57 #[v1, .func (.func 29) #[] #[.pointer (some ⟨B, 0, none⟩)]] w fun e w' => e = .returned (.int .i64 (-1)) ∧ w = w' := by
  rcases h with ⟨rfl, _⟩ | ⟨b, off, cap, rfl, h0, hc, hm, hb, hcell⟩
  · simp at h1
  have HCL := hide hcl
  clear hcl
  go_enter Try.func57, Try.ntmps57
  go_wp2
  go_loop [8] (fun i => ∃ k : Nat, k ≤ ls.length ∧ i = .int .i64 k) (fun i => ls.length - (intOf i).toNat)
  case atStart => exact ⟨0, by omega, rfl⟩
  case round =>
    obtain ⟨k, hk, rfl⟩ := hrel
    by_cases hlt : k < ls.length
    · obtain ⟨y, hy, hcx⟩ := cellAt hcell hlt
      have hym : y ∈ ls := by
        rw [← hy.out, List.getElem?_eq_getElem hlt, Option.getD_some]
        exact List.getElem_mem _
      have HC1 := hide (HCL.out y hym)
      clear hcell hy hym
      go_wp2_with fail
      refine HC1.out.mono ?_
      rintro e w' ⟨rfl, rfl⟩
      go_wp2
      go_round
      case rel => exact ⟨k + 1, by omega, by go_num⟩
      case measure => simp [intOf]; omega
    · clear hcell
      go_wp2
      go_ret
      exact ⟨rfl, rfl⟩

set_option maxRecDepth 20000 in
set_option maxHeartbeats 1000000 in
theorem containsFunc_none (B : Nat) (v1 : Value) (ls : List Int) (w : World) (h : Ints w v1 ls) (h1 : 1 ≤ ls.length) (hcl : ∀ l, l ∈ ls → Calls Try.prog 29 #[.int .i64 l, .pointer (some ⟨B, 0, none⟩)] w fun e w' => e = .returned (.bool false) ∧ w = w') :
    Calls Try.prog 28 #[v1, .func (.func 29) #[] #[.pointer (some ⟨B, 0, none⟩)]] w fun e w' => e = .returned (.bool false) ∧ w = w' := by
  have HI := hide (indexFunc_none B v1 ls w h h1 hcl)
  obtain ⟨p, c, rfl⟩ := h.form
  clear h hcl
  go_enter Try.func28, Try.ntmps28
  go_wp2_with fail
  refine HI.out.mono ?_
  rintro e w' ⟨rfl, rfl⟩
  go_wp2
  go_ret
  exact ⟨rfl, rfl⟩

end Go.Proofs.Ytoiiadiimfohiaa

/- Plain: runes that may be signs of calls. -/
namespace Go.Proofs.Ytoiiadiimfohiaa
open Go.RowKit

/-- A rune that may be a call's sign. -/
def sgnR (c : Int) : Bool := decide (33 ≤ c ∧ c ≤ 12287 ∧ ¬ (48 ≤ c ∧ c ≤ 57) ∧ c ≠ 40 ∧ c ≠ 41 ∧ (c < 127 ∨ 160 < c))

theorem sgn_letter {c : Int} (h : 97 ≤ c ∧ c ≤ 122) : sgnR c = true := by
  unfold sgnR
  exact decide_eq_true (by omega)

end Go.Proofs.Ytoiiadiimfohiaa

/- Contracts: call.Sign; call.find where none is found. -/
namespace Go.Proofs.Ytoiiadiimfohiaa
open Go.RowKit

set_option maxRecDepth 20000 in
set_option maxHeartbeats 1000000 in
theorem cdigit_any (r : Int) (w : World) : Calls Try.prog 111 #[.int .i32 r] w fun e w' => e = .returned (.bool (decide (48 ≤ r ∧ r ≤ 57))) ∧ w = w' := by
  by_cases h1 : 48 ≤ r
  · by_cases h2 : r ≤ 57
    · rw [decide_eq_true ⟨h1, h2⟩]
      go_enter Try.func111, Try.ntmps111
      go_wp2
      go_ret
      first | exact ⟨rfl, rfl⟩ | exact ⟨by simp; omega, rfl⟩
    · rw [decide_eq_false (fun h => h2 h.2)]
      go_enter Try.func111, Try.ntmps111
      go_wp2
      go_ret
      first | exact ⟨rfl, rfl⟩ | exact ⟨by simp; omega, rfl⟩
  · rw [decide_eq_false (fun h => h1 h.1)]
    go_enter Try.func111, Try.ntmps111
    go_wp2
    go_ret
    first | exact ⟨rfl, rfl⟩ | exact ⟨by simp; omega, rfl⟩

set_option maxRecDepth 20000 in
set_option maxHeartbeats 2000000 in
theorem sign_any (r : Int) (w : World) : Calls Try.prog 94 #[.int .i32 r] w fun e w' => e = .returned (.bool (sgnR r)) ∧ w = w' := by
  have HD := hide (cdigit_any r w)
  by_cases d0 : 48 ≤ r ∧ r ≤ 57
  · have HP : Hid (sgnR r = false) := by unfold sgnR; exact decide_eq_false (by omega)
    have hdg : decide (48 ≤ r ∧ r ≤ 57) = true := decide_eq_true (by omega)
    rw [hdg] at HD
    clear hdg d0
    generalize sgnR r = R at *
    go_enter Try.func94, Try.ntmps94
    go_wp2_with fail
    refine HD.out.mono ?_
    rintro e w' ⟨rfl, rfl⟩
    go_wp2
    go_ret
    exact ⟨ret_bool HP.out.symm, rfl⟩
  by_cases d1 : r = 40
  · have HP : Hid (sgnR r = false) := by unfold sgnR; exact decide_eq_false (by omega)
    have hdg : decide (48 ≤ r ∧ r ≤ 57) = false := decide_eq_false (by omega)
    rw [hdg] at HD
    have e1 : (r == 40) = true := by rw [beq_iff_eq]; omega
    clear hdg d0 d1
    generalize sgnR r = R at *
    go_enter Try.func94, Try.ntmps94
    go_wp2_with fail
    refine HD.out.mono ?_
    rintro e w' ⟨rfl, rfl⟩
    go_wp2
    go_ret
    exact ⟨ret_bool HP.out.symm, rfl⟩
  by_cases d2 : r = 41
  · have HP : Hid (sgnR r = false) := by unfold sgnR; exact decide_eq_false (by omega)
    have hdg : decide (48 ≤ r ∧ r ≤ 57) = false := decide_eq_false (by omega)
    rw [hdg] at HD
    have e1 : (r == 40) = false := by rw [beq_eq_false_iff_ne]; omega
    have e2 : (r == 41) = true := by rw [beq_iff_eq]; omega
    clear hdg d0 d1 d2
    generalize sgnR r = R at *
    go_enter Try.func94, Try.ntmps94
    go_wp2_with fail
    refine HD.out.mono ?_
    rintro e w' ⟨rfl, rfl⟩
    go_wp2
    go_ret
    exact ⟨ret_bool HP.out.symm, rfl⟩
  by_cases d3 : 127 ≤ r ∧ r ≤ 160
  · have HP : Hid (sgnR r = false) := by unfold sgnR; exact decide_eq_false (by omega)
    have hdg : decide (48 ≤ r ∧ r ≤ 57) = false := decide_eq_false (by omega)
    rw [hdg] at HD
    have e1 : (r == 40) = false := by rw [beq_eq_false_iff_ne]; omega
    have e2 : (r == 41) = false := by rw [beq_eq_false_iff_ne]; omega
    have e3 : 127 ≤ r := by omega
    have e4 : r ≤ 160 := by omega
    clear hdg d0 d1 d2 d3
    generalize sgnR r = R at *
    go_enter Try.func94, Try.ntmps94
    go_wp2_with fail
    refine HD.out.mono ?_
    rintro e w' ⟨rfl, rfl⟩
    go_wp2
    go_ret
    exact ⟨ret_bool HP.out.symm, rfl⟩
  by_cases d4 : r < 33
  · have HP : Hid (sgnR r = false) := by unfold sgnR; exact decide_eq_false (by omega)
    have hdg : decide (48 ≤ r ∧ r ≤ 57) = false := decide_eq_false (by omega)
    rw [hdg] at HD
    have e1 : (r == 40) = false := by rw [beq_eq_false_iff_ne]; omega
    have e2 : (r == 41) = false := by rw [beq_eq_false_iff_ne]; omega
    have e3 : ¬ 127 ≤ r := by omega
    have e5 : ¬ 33 ≤ r := by omega
    clear hdg d0 d1 d2 d3 d4
    generalize sgnR r = R at *
    go_enter Try.func94, Try.ntmps94
    go_wp2_with fail
    refine HD.out.mono ?_
    rintro e w' ⟨rfl, rfl⟩
    go_wp2
    go_ret
    exact ⟨ret_bool HP.out.symm, rfl⟩
  by_cases d5 : 12287 < r
  · have HP : Hid (sgnR r = false) := by unfold sgnR; exact decide_eq_false (by omega)
    have hdg : decide (48 ≤ r ∧ r ≤ 57) = false := decide_eq_false (by omega)
    rw [hdg] at HD
    have e1 : (r == 40) = false := by rw [beq_eq_false_iff_ne]; omega
    have e2 : (r == 41) = false := by rw [beq_eq_false_iff_ne]; omega
    have e3 : 127 ≤ r := by omega
    have e4 : ¬ r ≤ 160 := by omega
    have e5 : 33 ≤ r := by omega
    have e6 : ¬ r ≤ 12287 := by omega
    have e7 : decide (r ≤ 12287) = false := decide_eq_false e6
    have E7 := hide e7
    clear hdg d0 d1 d2 d3 d4 d5
    generalize sgnR r = R at *
    go_enter Try.func94, Try.ntmps94
    go_wp2_with fail
    refine HD.out.mono ?_
    rintro e w' ⟨rfl, rfl⟩
    go_wp2
    go_ret
    first | exact ⟨ret_bool HP.out.symm, rfl⟩ | exact ⟨ret_bool (E7.out.trans HP.out.symm), rfl⟩
  by_cases d6 : 127 ≤ r
  · have HP : Hid (sgnR r = true) := by unfold sgnR; exact decide_eq_true (by omega)
    have hdg : decide (48 ≤ r ∧ r ≤ 57) = false := decide_eq_false (by omega)
    rw [hdg] at HD
    have e1 : (r == 40) = false := by rw [beq_eq_false_iff_ne]; omega
    have e2 : (r == 41) = false := by rw [beq_eq_false_iff_ne]; omega
    have e3 : 127 ≤ r := by omega
    have e4 : ¬ r ≤ 160 := by omega
    have e5 : 33 ≤ r := by omega
    have e6 : r ≤ 12287 := by omega
    clear hdg d0 d1 d2 d3 d4 d5 d6
    generalize sgnR r = R at *
    go_enter Try.func94, Try.ntmps94
    go_wp2_with fail
    refine HD.out.mono ?_
    rintro e w' ⟨rfl, rfl⟩
    go_wp2
    go_ret
    exact ⟨ret_bool HP.out.symm, rfl⟩
  have HP : Hid (sgnR r = true) := by unfold sgnR; exact decide_eq_true (by omega)
  have hdg : decide (48 ≤ r ∧ r ≤ 57) = false := decide_eq_false (by omega)
  rw [hdg] at HD
  have e1 : (r == 40) = false := by rw [beq_eq_false_iff_ne]; omega
  have e2 : (r == 41) = false := by rw [beq_eq_false_iff_ne]; omega
  have e3 : ¬ 127 ≤ r := by omega
  have e5 : 33 ≤ r := by omega
  have e6 : r ≤ 12287 := by omega
  clear hdg d0 d1 d2 d3 d4 d5 d6
  generalize sgnR r = R at *
  go_enter Try.func94, Try.ntmps94
  go_wp2_with fail
  refine HD.out.mono ?_
  rintro e w' ⟨rfl, rfl⟩
  go_wp2
  go_ret
  exact ⟨ret_bool HP.out.symm, rfl⟩

set_option maxRecDepth 20000 in
set_option maxHeartbeats 1000000 in
theorem isSign_ok (r s : Int) (u : Value) (B : Nat) (w : World) (hB : w.cell? ⟨B, 0, none⟩ = some (.int .i32 s)) (hb : B < w.heap.size) (hne : r ≠ s) :
    Calls Try.prog 113 #[.agg #[.int .i32 r, u], .pointer (some ⟨B, 0, none⟩)] w fun e w' => e = .returned (.bool false) ∧ Below w.heap.size w w' := by
  have hne' : (r == s) = false := by rw [beq_eq_false_iff_ne]; exact hne
  have hB1 : Below w.heap.size w (w.alloc (.cells #[.int .i32 r, u] 47)) := (Below.refl _ _).alloc (Nat.le_refl _) _
  have g1 : (w.alloc (.cells #[.int .i32 r, u] 47)).cell? ⟨B, 0, none⟩ = some (.int .i32 s) := (hB1.cell (p := ⟨B, 0, none⟩) hb).trans hB
  have g2 : (w.alloc (.cells #[.int .i32 r, u] 47)).cell? ⟨w.heap.size, 0, none⟩ = some (.int .i32 r) := by
    have h9 := heap_alloc_new w (.cells #[.int .i32 r, u] 47)
    unfold World.cell?
    simp only [h9]
    rfl
  clear hB
  go_enter Try.func113, Try.ntmps113
  go_wp2
  go_ret
  exact ⟨rfl, hB1⟩

set_option maxRecDepth 20000 in
set_option maxHeartbeats 1000000 in
theorem indexSign_none (s : Int) (B : Nat) (b off m cap : Nat) (w : World) (hB : w.cell? ⟨B, 0, none⟩ = some (.int .i32 s)) (hb : B < w.heap.size) (hbl : b < w.heap.size)
    (hcell : ∀ k, k < m → ∃ r u, w.cell? ⟨b, off + k * 2, none⟩ = some (.int .i32 r) ∧ w.cell? ⟨b, off + k * 2 + 1, none⟩ = some u ∧ r ≠ s ∧ u.oneCell' = true) (hm3 : m ≤ 1000) :
    Calls Try.prog 112 #[.slice (some ⟨b, off, none⟩) m cap, .func (.func 113) #[] #[.pointer (some ⟨B, 0, none⟩)]] w fun e w' => e = .returned (.int .i64 (-1)) ∧ Below w.heap.size w w' := by
  have HC := hide hcell
  have HB := hide hB
  clear hcell hB
  go_enter Try.func112, Try.ntmps112
  go_wp2
  go_loopw [8] (fun i wr => ∃ k : Nat, k ≤ m ∧ i = .int .i64 k ∧ Below w.heap.size w wr) (fun i _ => m - (intOf i).toNat)
  case atStart => exact ⟨0, by omega, rfl, Below.refl _ _⟩
  case round =>
    obtain ⟨k, hk, rfl, hbw⟩ := hrel
    have hbs := hbw.size
    by_cases hlt : k < m
    · obtain ⟨r, u, a1, a2, a3, a4⟩ := HC.out k hlt
      have g1 : wr.cell? ⟨b, off + k * 2, none⟩ = some (.int .i32 r) := (hbw.cell (by exact hbl)).trans a1
      have g2 : wr.cell? ⟨b, off + k * 2 + 1, none⟩ = some u := (hbw.cell (p := ⟨b, off + k * 2 + 1, none⟩) (by exact hbl)).trans a2
      have HK := hide (isSign_ok r s u B wr ((hbw.cell (p := ⟨B, 0, none⟩) hb).trans HB.out) (by omega) a3)
      clear a1 a2 a3
      go_wp2_with fail
      refine HK.out.mono ?_
      rintro e w2 ⟨rfl, hb2⟩
      have hB2 : Below w.heap.size w w2 := hbw.trans (hb2.mono hbs)
      clear hb2
      go_wp2
      go_roundw
      case rel => exact ⟨k + 1, by omega, by go_num, hB2⟩
      case measure => simp [intOf]; omega
    · go_wp2
      go_ret
      exact ⟨rfl, hbw⟩

set_option maxRecDepth 20000 in
set_option maxHeartbeats 1000000 in
theorem find_none (s : Int) (b off m cap : Nat) (w : World) (hbl : b < w.heap.size)
    (hcell : ∀ k, k < m → ∃ r u, w.cell? ⟨b, off + k * 2, none⟩ = some (.int .i32 r) ∧ w.cell? ⟨b, off + k * 2 + 1, none⟩ = some u ∧ r ≠ s ∧ u.oneCell' = true) (hm3 : m ≤ 1000) :
    Calls Try.prog 95 #[.slice (some ⟨b, off, none⟩) m cap, .int .i32 s] w fun e w' => e = .returned (.int .i64 (-1)) ∧ Below w.heap.size w w' := by
  have hmf : ∀ (fn : Fn) (first cap : Array Value) (w : World), (Instr.makeFunc fn first cap).run Try.prog w = .ok (.func fn first cap) w := fun _ _ _ _ => rfl
  have hB1 : Below w.heap.size w (w.alloc (.cells #[.int .i32 s] 21)) := (Below.refl _ _).alloc (Nat.le_refl _) _
  have h9 := heap_alloc_new w (.cells #[.int .i32 s] 21)
  have HI := hide (indexSign_none s w.heap.size b off m cap (w.alloc (.cells #[.int .i32 s] 21)) (by unfold World.cell?; simp only [h9]; rfl) (by simp) (by simp; omega) (fun k hk => by
    obtain ⟨r, u, a1, a2, a3⟩ := hcell k hk
    exact ⟨r, u, (hB1.cell (p := ⟨b, off + k * 2, none⟩) hbl).trans a1, (hB1.cell (p := ⟨b, off + k * 2 + 1, none⟩) hbl).trans a2, a3⟩) hm3)
  clear hcell h9
  go_enter Try.func95, Try.ntmps95
  go_wp2_with fail
  refine HI.out.mono ?_
  rintro e w2 ⟨rfl, hb2⟩
  have hB2 : Below w.heap.size w w2 := hB1.trans (hb2.mono (by simp))
  clear hb2 hB1
  go_wp2
  go_ret
  exact ⟨rfl, hB2⟩

set_option maxRecDepth 20000 in
set_option maxHeartbeats 2000000 in
theorem checkOne_ok (sn : ByteArray) (n : Int) (vp : Option Addr) (k vc : Nat) (s : Int) (cv : Value) (css : List (List Int)) (b off m cap : Nat) (w : World) (h1 : 1 ≤ n) (h2 : n ≤ 12) (hs1 : sgnR s = true) (hbl : b < w.heap.size)
    (hcell : ∀ k, k < m → ∃ r u, w.cell? ⟨b, off + k * 2, none⟩ = some (.int .i32 r) ∧ w.cell? ⟨b, off + k * 2 + 1, none⟩ = some u ∧ r ≠ s ∧ u.oneCell' = true) (hm3 : m ≤ 1000)
    (hcv : IntsAll w cv css) (hl : css.length ≤ k) (hok : ∀ j, j < css.length → okc n 0 (css.getD j []) = true) :
    Calls Try.prog 69 #[meth sn n (.slice vp k vc), .slice (some ⟨b, off, none⟩) m cap, .agg #[.int .i32 s, cv]] w fun e w' => e = .returned (.int .i64 0) ∧ Below w.heap.size w w' := by
  obtain ⟨cp, cc, rfl⟩ := hcv.len
  have hBW : Below w.heap.size w ((w.alloc (.cells #[.string sn, .int .i64 n, .slice vp k vc] 24)).alloc (.cells #[.int .i32 s, .slice cp css.length cc] 47)) := ((Below.refl _ _).alloc (Nat.le_refl _) _).alloc (by simp) _
  have hbox := ((Box.start w sn n (.slice vp k vc) 24).below ((Below.refl _ _).alloc (Nat.le_refl _) (.cells #[.int .i32 s, .slice cp css.length cc] 47)))
  have h9 := heap_alloc_new (w.alloc (.cells #[.string sn, .int .i64 n, .slice vp k vc] 24)) (.cells #[.int .i32 s, .slice cp css.length cc] 47)
  rw [show (w.alloc (.cells #[.string sn, .int .i64 n, .slice vp k vc] 24)).heap.size = w.heap.size + 1 from by simp] at h9
  have c0 : ((w.alloc (.cells #[.string sn, .int .i64 n, .slice vp k vc] 24)).alloc (.cells #[.int .i32 s, .slice cp css.length cc] 47)).cell? ⟨w.heap.size + 1, 0, none⟩ = some (.int .i32 s) := by
    unfold World.cell?; simp only [h9]; rfl
  have c1 : ((w.alloc (.cells #[.string sn, .int .i64 n, .slice vp k vc] 24)).alloc (.cells #[.int .i32 s, .slice cp css.length cc] 47)).cell? ⟨w.heap.size + 1, 1, none⟩ = some (.slice cp css.length cc) := by
    unfold World.cell?; simp only [h9]; rfl
  have HSG := hide (fun W => sign_any s W)
  rw [hs1] at HSG
  have HFD := hide (fun W (hb : Below w.heap.size w W) => find_none s b off m cap W (Nat.lt_of_lt_of_le hbl hb.size) (fun k hk => by
    obtain ⟨r, u, a1, a2, a3⟩ := hcell k hk
    exact ⟨r, u, (hb.cell (p := ⟨b, off + k * 2, none⟩) hbl).trans a1, (hb.cell (p := ⟨b, off + k * 2 + 1, none⟩) hbl).trans a2, a3⟩) hm3)
  have HCV := hide hcv
  have HOK := hide hok
  have HBX := hide hbox
  clear hcell hcv hok h9 hbox
  unfold meth
  go_enter Try.func69, Try.ntmps69
  go_wp2_with fail
  refine (HSG.out _).mono ?_
  rintro e w' ⟨rfl, rfl⟩
  go_wp2_with fail
  refine (HFD.out _ hBW).mono ?_
  rintro e w2 ⟨rfl, hb2⟩
  have hB2 : Below w.heap.size w w2 := hBW.trans (hb2.mono hBW.size)
  have d1 : w2.cell? ⟨w.heap.size + 1, 1, none⟩ = some (.slice cp css.length cc) := (hb2.cell (p := ⟨w.heap.size + 1, 1, none⟩) (by simp)).trans c1
  have hx2 := HBX.out.below hb2
  have e1 := hx2.c1
  have e2 := hx2.c2
  have hgt : ¬ (((k : Nat) : Int) < ((css.length : Nat) : Int)) := by omega
  have hgd : decide (((k : Nat) : Int) < ((css.length : Nat) : Int)) = false := decide_eq_false hgt
  have hgn : decide (k < css.length) = false := decide_eq_false (by omega)
  have HB2 := hide hB2
  have HE1 := hide e1
  clear c0 c1 hb2 HSG HFD hBW HBX hx2 hB2 hl hgt
  go_wp2
  go_loopw [32] (fun i wr => ∃ j : Nat, j ≤ css.length ∧ i = .int .i64 j ∧ Hid (Below w.heap.size w wr) ∧ Hid (wr.cell? ⟨w.heap.size, 1, none⟩ = some (.int .i64 n))) (fun i _ => css.length - (intOf i).toNat)
  case atStart => exact ⟨0, by omega, rfl, HB2, HE1⟩
  case round =>
    clear e1 HB2 HE1 d1 e2
    obtain ⟨j, hj, rfl, hbw, hen⟩ := hrel
    have hB2 := hbw.out
    have e1 := hen.out
    by_cases hlt : j < css.length
    · obtain ⟨b3, off3, cap3, he, hb3, hlc3, hcm3, hcell3⟩ := (HCV.out.below hB2).cell (by omega)
      simp only [Value.slice.injEq] at he
      obtain ⟨rfl, he2, rfl⟩ := he
      clear he2
      obtain ⟨q, c, hce, hint⟩ := hcell3 j hlt
      have HPC := hide (pcheck_any n _ _ _ h1 h2 hint.out)
      rw [show pck n (css.getD j []) = 0 from by unfold pck; rw [if_pos (HOK.out j hlt)]] at HPC
      clear hint hcell3
      generalize (css.getD j []).length = pl at hce HPC
      go_wp2_with fail
      refine HPC.out.mono ?_
      rintro e w' ⟨rfl, rfl⟩
      go_wp2
      go_roundw
      case rel => exact ⟨j + 1, by omega, by go_num, hbw, hen⟩
      case measure => simp [intOf]; omega
    · go_wp2
      go_ret
      exact ⟨rfl, hB2⟩

end Go.Proofs.Ytoiiadiimfohiaa

/- Contract: call.Check, where all may be. -/
namespace Go.Proofs.Ytoiiadiimfohiaa
open Go.RowKit

theorem below_drewJ (w : World) : Below w.heap.size w w.drew := (Below.refl _ _).drew

/-- What calls must be. -/
structure CallsOk (n : Int) (k : Nat) (cs : List (Int × List (List Int))) : Prop where
  sign : ∀ j, j < cs.length → sgnR (cs.getD j (0, [])).1 = true
  dist : ∀ i j, i < j → j < cs.length → (cs.getD i (0, [])).1 ≠ (cs.getD j (0, [])).1
  few : ∀ j, j < cs.length → (cs.getD j (0, [])).2.length ≤ k
  ok : ∀ j, j < cs.length → ∀ q, q < (cs.getD j (0, [])).2.length → okc n 0 ((cs.getD j (0, [])).2.getD q []) = true

set_option maxRecDepth 20000 in
set_option maxHeartbeats 4000000 in
theorem ccheck_ok (s : ByteArray) (n : Nat) (vp : Option Addr) (vc : Nat) (css : List (List Int)) (cv : Value) (cs : List (Int × List (List Int))) (w : World) (hs : s.size ≤ 9223372036854775807) (hn : nm s = true) (h1 : 2 ≤ n) (h2 : n ≤ 12) (hl1 : 1 ≤ css.length) (hl2 : css.length ≤ 200)
    (hv : IntsAll w (.slice vp css.length vc) css) (hok : ∀ k, k < css.length → okc n 0 (css.getD k []) = true) (hcv : CallsAt w cv cs) (hco : CallsOk n css.length cs) (hc1 : 1 ≤ cs.length) (hc2 : cs.length ≤ 8) :
    Calls Try.prog 46 #[meth s n (.slice vp css.length vc), cv] w fun e w' => e = .returned (.int .i64 0) ∧ Below w.heap.size w w' := by
  have hB0 : Below w.heap.size w (w.alloc (.cells #[.string s, .int .i64 n, .slice vp css.length vc] 24)) := (Below.refl _ _).alloc (Nat.le_refl _) _
  have HMC := hide (mcheck_ok s n (.slice vp css.length vc) css (w.alloc (.cells #[.string s, .int .i64 n, .slice vp css.length vc] 24)) hs hn h1 h2 hl1 hl2 (hv.below hB0) hok)
  have hbox := Box.start w s n (.slice vp css.length vc) 24
  obtain ⟨b, off, cap, rfl, hb, hlc, hcm, hcell⟩ := hcv
  have HC := hide hcell
  have HCO := hide hco
  have HBX := hide hbox
  clear hn hv hok hco hcell hbox
  generalize css.length = K at *
  unfold meth at HMC
  unfold meth
  go_enter Try.func46, Try.ntmps46
  go_wp2_with fail
  refine HMC.out.mono ?_
  rintro e w1 ⟨rfl, hb1⟩
  have hB1 : Below w.heap.size w w1 := hB0.trans (hb1.mono (by simp))
  have HX1 := hide (HBX.out.below hb1)
  clear HMC HBX hb1 hB0
  go_wp2
  go_loopw [24] (fun i wr => ∃ j : Nat, j ≤ cs.length ∧ i = .int .i64 j ∧ Hid (Box wr w.heap.size s n (.slice vp K vc)) ∧ Below w.heap.size w wr) (fun i _ => cs.length - (intOf i).toNat)
  case atStart => exact ⟨0, by omega, rfl, HX1, hB1⟩
  case round =>
    clear HX1 hB1
    obtain ⟨j, hj, rfl, hX, hbw⟩ := hrel
    have hbs := hbw.size
    by_cases hlt : j < cs.length
    · obtain ⟨u, a1, a2, a3⟩ := HC.out j hlt
      have g1 : wr.cell? ⟨b, off + j * 2, none⟩ = some (.int .i32 (cs.getD j (0, [])).1) := (hbw.cell (by exact hb)).trans a1
      have g2 : wr.cell? ⟨b, off + j * 2 + 1, none⟩ = some u := (hbw.cell (p := ⟨b, off + j * 2 + 1, none⟩) (by exact hb)).trans a2
      obtain ⟨up, uc, rfl⟩ := a3.len
      have HCK := hide (fun W (hW : Below w.heap.size w W) => checkOne_ok s n vp K vc (cs.getD j (0, [])).1 (.slice up (cs.getD j (0, [])).2.length uc) (cs.getD j (0, [])).2 b off j cap W (by omega) (by omega) (HCO.out.sign j hlt) (Nat.lt_of_lt_of_le hb hW.size) (fun i hi => by
        obtain ⟨u', b1, b2, b3⟩ := HC.out i (by omega)
        obtain ⟨p', c', e'⟩ := b3.len
        exact ⟨_, u', (hW.cell (p := ⟨b, off + i * 2, none⟩) hb).trans b1, (hW.cell (p := ⟨b, off + i * 2 + 1, none⟩) hb).trans b2, HCO.out.dist i j hi hlt, by rw [e']; rfl⟩) (by omega) (a3.below hW) (HCO.out.few j hlt) (HCO.out.ok j hlt))
      clear a1 a2 a3
      generalize (cs.getD j (0, [])).1 = sg at *
      generalize (cs.getD j (0, [])).2.length = ul at *
      go_upto_region 9 with fail
      have hXA := hX.out.below ((Below.refl wr.heap.size wr).alloc (Nat.le_refl _) (.cells #[.int .i32 sg, .slice up ul uc] 47))
      have h9 := heap_alloc_new wr (.cells #[.int .i32 sg, .slice up ul uc] 47)
      have hBA : Below w.heap.size w (wr.alloc (.cells #[.int .i32 sg, .slice up ul uc] 47)) := hbw.alloc hbs _
      have hRA : wr.heap.size < (wr.alloc (.cells #[.int .i32 sg, .slice up ul uc] 47)).heap.size := by simp
      have d0 : (wr.alloc (.cells #[.int .i32 sg, .slice up ul uc] 47)).cell? ⟨wr.heap.size, 0, none⟩ = some (.int .i32 sg) := by unfold World.cell?; simp only [h9]; rfl
      have d1 : (wr.alloc (.cells #[.int .i32 sg, .slice up ul uc] 47)).cell? ⟨wr.heap.size, 1, none⟩ = some (.slice up ul uc) := by unfold World.cell?; simp only [h9]; rfl
      have b0 := hXA.c0
      have b1 := hXA.c1
      have b2 := hXA.c2
      have hbl := hXA.lt
      have HXA := hide hXA
      clear h9 g1 g2 hX hXA
      generalize (wr.alloc (.cells #[.int .i32 sg, .slice up ul uc] 47)) = WA at *
      generalize wr.heap.size = RA at *
      refine wp_region_held_drew (S := fun W' => Below WA.heap.size WA W') (by kernel_rfl) (below_drewJ WA) (fun hS => ?_)
      refine wpAnyH_take (i := 0) (v := .agg #[.string s, .int .i64 (n : Int), .slice vp K vc]) rfl (by kernel_rfl) (by kernel_rfl) (by kernel_rfl) (fun _ _ _ h => h) (Or.inl ⟨by kernel_rfl, fun w' hS' => by have q0 := (Below.cell hS' (p := ⟨w.heap.size, 0, none⟩) (by exact hbl)).trans b0; have q1 := (Below.cell hS' (p := ⟨w.heap.size, 1, none⟩) (by exact hbl)).trans b1; have q2 := (Below.cell hS' (p := ⟨w.heap.size, 2, none⟩) (by exact hbl)).trans b2; clear hS'; go_simp⟩) hS ?_
      refine wpAnyH_take (i := 1) (v := .slice (some ⟨b, off, none⟩) cs.length cap) rfl (by kernel_rfl) (by kernel_rfl) (by kernel_rfl) (fun _ _ _ h => h) (Or.inl ⟨by kernel_rfl, fun w' hS' => by clear hS'; go_simp⟩) hS ?_
      refine wpAnyH_take (i := 2) (v := .int .i64 (j : Int)) rfl (by kernel_rfl) (by kernel_rfl) (by kernel_rfl) (fun _ _ _ h => h) (Or.inl ⟨by kernel_rfl, fun w' hS' => by clear hS'; go_simp⟩) hS ?_
      refine wpAnyH_take (i := 3) (v := .slice (some ⟨b, off, none⟩) j cap) rfl (by kernel_rfl) (by kernel_rfl) (by kernel_rfl) (fun _ _ _ h => h) (Or.inl ⟨by kernel_rfl, fun w' hS' => by clear hS'; go_simp; intro h0; exact absurd h0 (by omega)⟩) hS ?_
      refine wpAnyH_take (i := 4) (v := .agg #[.int .i32 sg, .slice up ul uc]) rfl (by kernel_rfl) (by kernel_rfl) (by kernel_rfl) (fun _ _ _ h => h) (Or.inl ⟨by kernel_rfl, fun w' hS' => by have q0 := (Below.cell hS' (p := ⟨RA, 0, none⟩) (by exact hRA)).trans d0; have q1 := (Below.cell hS' (p := ⟨RA, 1, none⟩) (by exact hRA)).trans d1; clear hS'; go_simp⟩) hS ?_
      refine wpAnyH_ready (rs := [5]) (by kernel_rfl) (by simp) ?_
      refine AllReadyH.cons rfl (fun K hK => ?_) AllReadyH.nil
      go_simp
      have hS0 := below_drewJ WA
      refine (HCK.out WA.drew (hBA.trans (hS0.mono hBA.size))).mono ?_
      rintro ex wo ⟨rfl, hbo⟩
      have hSo : Below WA.heap.size WA wo := hS0.trans (hbo.mono hS0.size)
      refine hK.out _ _ hSo (fun hS => ?_)
      clear hK
      refine wpAnyH_take (i := 6) (v := .int .i64 0) rfl (by kernel_rfl) (by kernel_rfl) (by kernel_rfl) (fun _ _ _ h => h) (Or.inl ⟨by kernel_rfl, fun w' hS' => by clear hS'; go_simp⟩) hS ?_
      refine wpAnyH_done (by kernel_rfl) ?_ _
      have HXo := hide (HXA.out.below hSo)
      have hBo : Below w.heap.size w wo := hBA.trans (hSo.mono hBA.size)
      clear hSo hbo hS0 HCK HXA
      go_wp2
      go_roundw
      case rel => exact ⟨j + 1, by omega, by go_num, HXo, hBo⟩
      case measure => simp [intOf]; omega
    · go_wp2
      go_ret
      exact ⟨rfl, hbw⟩

end Go.Proofs.Ytoiiadiimfohiaa

/- Contracts: the answer's LeadsOf; call.checkLeads. -/
namespace Go.Proofs.Ytoiiadiimfohiaa
open Go.RowKit

set_option maxRecDepth 20000 in
set_option maxHeartbeats 2000000 in
theorem leadsOf_ok (v : Value) (xs : List Int) (m k : Nat) (w : World) (h : Ints w v xs) (hx : ∀ x, x ∈ xs → I64 x) (hm : m ≤ 1000) (hk1 : 1 ≤ k) (hk2 : k ≤ 1000) :
    Calls Try.prog 21 #[v, .int .i64 m, .int .i64 k] w fun e w' => ∃ (u : Value) (ls : List Int), e = .returned u ∧ w'.ownsRow w.heap.size 3 1 u m (ls.map (Value.int .i64)) ∧ (∀ l, l ∈ ls → 0 ≤ l ∧ l < (k : Int)) ∧ Below w.heap.size w w' := by
  obtain ⟨i0, hi, hz0, hz1, hz2⟩ := info_parts Try.info3
  obtain ⟨p0, c0, rfl⟩ := h.form
  have HI := hide h
  have HX := hide hx
  clear h hx
  go_enter Try.func21, Try.ntmps21
  go_wp2
  go_loopw [7, 8] (fun u i wr => ∃ (j : Nat) (ls : List Int), j ≤ m ∧ i = .int .i64 j ∧ Hid (wr.ownsRow w.heap.size 3 1 u j (ls.map (Value.int .i64))) ∧ Hid (∀ l, l ∈ ls → 0 ≤ l ∧ l < (k : Int)) ∧ Below w.heap.size w wr) (fun _ i _ => m - (intOf i).toNat)
  case atStart => exact ⟨0, [], by omega, rfl, World.ownsRow_nil _ _ _ _, (fun l h => by cases h), Below.refl _ _⟩
  case round =>
    obtain ⟨j, ls, hj, rfl, hO, hL, hbw⟩ := hrel
    have hbs := hbw.size
    have hrow := hO.out
    obtain ⟨up, uc, rfl⟩ := owns_slice hrow
    by_cases hlt : j < m
    · have HRW := hide (raw_any _ xs j wr (HI.out.below hbw) HX.out (by omega))
      go_wp2_with fail
      refine HRW.out.mono ?_
      rintro e wa ⟨x, hxi, rfl, rfl⟩
      go_wp2_with fail
      refine (pick_any x (k : Int) _ hxi.1 hxi.2 (by omega) (by omega)).mono ?_
      rintro e wa ⟨q, hq0, hq1, rfl, rfl⟩
      go_wp2_with (at_builtin; refine wpList_append_own _ rfl _ _ 26 rfl w.heap.size 3 i0 (.int .i64 0) 1 8 Try.underlying26 hi hz0 hz1 hz2 rfl (by decide) _ _ _ rfl (hrow.alloc _) ⟨wr.heap.size, 0, none⟩ 1 1 [.int .i64 q] rfl rfl ?c1 ?c2 ?c3 ?c4 ?c5 ?_)
      case c1 => exact cell_one_new _ _ _
      case c2 => intro u hu; simp at hu; subst hu; rfl
      case c3 => unfold maxLen; omega
      case c4 => omega
      case c5 => simp; omega
      · intro v' w1 hown' hgrow _
        have HO : Hid (w1.ownsRow w.heap.size 3 1 v' (j + 1) ((ls ++ [q]).map (Value.int .i64))) := by show World.ownsRow _ _ _ _ _ _ _; rw [List.map_append]; exact hown'
        have HL2 : Hid (∀ l, l ∈ ls ++ [q] → 0 ≤ l ∧ l < (k : Int)) := fun l h => by
          rcases List.mem_append.1 h with h | h
          · exact hL.out l h
          · rw [List.mem_singleton] at h; rw [h]; exact ⟨hq0, hq1⟩
        have HB1 : Hid (Below w.heap.size w w1) := (hbw.alloc hbw.size _).grown hgrow (by simp; omega) (fun g hg => (hrow.lt g hg).1)
        clear hown' hgrow hrow hO
        go_wp2
        go_roundw
        case rel => exact ⟨j + 1, ls ++ [q], by omega, by go_num, HO, HL2, HB1.out⟩
        case measure => simp [intOf]; omega
    · obtain rfl : j = m := by omega
      go_wp2
      go_ret
      exact ⟨_, ls, rfl, hrow, hL.out, hbw⟩

set_option maxRecDepth 20000 in
set_option maxHeartbeats 2000000 in
theorem checkLeads_ok (cp : Option Addr) (cl cc : Nat) (v : Value) (ls : List Int) (w : World) (h : Ints w v ls) (hl1 : 1 ≤ ls.length) (hl2 : ls.length ≤ 400) (hin : ∀ l, l ∈ ls → 0 ≤ l ∧ l < (cl : Int)) :
    Calls Try.prog 73 #[.slice cp cl cc, v] w fun e w' => e = .returned (.int .i64 0) ∧ w = w' := by
  rcases h with ⟨rfl, _⟩ | ⟨b, off, cap, rfl, h0, hc, hm, hb, hcell⟩
  · simp at hl1
  have HIN := hide hin
  clear hin
  go_enter Try.func73, Try.ntmps73
  go_wp2
  go_loop [17] (fun i => ∃ k : Nat, k ≤ ls.length ∧ i = .int .i64 k) (fun i => ls.length - (intOf i).toNat)
  case atStart => exact ⟨0, by omega, rfl⟩
  case round =>
    obtain ⟨k, hk, rfl⟩ := hrel
    by_cases hlt : k < ls.length
    · obtain ⟨y, hy, hcx⟩ := cellAt hcell hlt
      have hym : y ∈ ls := by
        rw [← hy.out, List.getElem?_eq_getElem hlt, Option.getD_some]
        exact List.getElem_mem _
      obtain ⟨y1, y2⟩ := HIN.out y hym
      have hy3 : ¬ y < 0 := by omega
      have hy4 : ¬ y ≥ (cl : Int) := by omega
      clear hcell hy hym
      go_wp2
      go_round
      case rel => exact ⟨k + 1, by omega, by go_num⟩
      case measure => simp [intOf]; omega
    · clear hcell
      go_wp2
      go_ret
      exact ⟨rfl, rfl⟩

end Go.Proofs.Ytoiiadiimfohiaa

/- Contract: call.May, where a touch may be. -/
namespace Go.Proofs.Ytoiiadiimfohiaa
open Go.RowKit

set_option maxRecDepth 20000 in
set_option maxHeartbeats 4000000 in
theorem may_ok (s : ByteArray) (n : Nat) (vp : Option Addr) (vc : Nat) (css : List (List Int)) (cv : Value) (cs : List (Int × List (List Int))) (lv : Value) (ls : List Int) (w : World) (hs : s.size ≤ 9223372036854775807) (hn : nm s = true) (h1 : 2 ≤ n) (h2 : n ≤ 12) (hl1 : 1 ≤ css.length) (hl2 : css.length ≤ 200)
    (hv : IntsAll w (.slice vp css.length vc) css) (hok : ∀ k, k < css.length → okc n 0 (css.getD k []) = true) (hcv : CallsAt w cv cs) (hco : CallsOk n css.length cs) (hc1 : 1 ≤ cs.length) (hc2 : cs.length ≤ 8)
    (hl : Ints w lv ls) (hN1 : 1 ≤ ls.length) (hN2 : ls.length ≤ 400) (hin : ∀ l, l ∈ ls → 0 ≤ l ∧ l < (cs.length : Int)) (hm : ls.length * css.length ≤ 20000) :
    Calls Try.prog 52 #[meth s n (.slice vp css.length vc), cv, lv] w fun e w' => e = .returned (.int .i64 0) ∧ Below w.heap.size w w' := by
  have hB0 : Below w.heap.size w (w.alloc (.cells #[.string s, .int .i64 n, .slice vp css.length vc] 24)) := (Below.refl _ _).alloc (Nat.le_refl _) _
  have HCC := hide (ccheck_ok s n vp vc css cv cs (w.alloc (.cells #[.string s, .int .i64 n, .slice vp css.length vc] 24)) hs hn h1 h2 hl1 hl2 (hv.below hB0) hok (hcv.below hB0) hco hc1 hc2)
  have hbox := Box.start w s n (.slice vp css.length vc) 24
  obtain ⟨b, off, cap, rfl, hb, hlc, hcm, hcell⟩ := hcv
  have HCL := hide (fun W (hW : Below w.heap.size w W) => checkLeads_ok (some ⟨b, off, none⟩) cs.length cap lv ls W (hl.below hW) hN1 hN2 hin)
  obtain ⟨lp, lc, rfl⟩ := hl.form
  have HBX := hide hbox
  have hmi : ((ls.length : Int)) * (css.length : Int) = ((ls.length * css.length : Nat) : Int) := (Int.natCast_mul _ _).symm
  clear hn hv hok hco hcell hbox hl hin
  generalize ls.length * css.length = P at *
  generalize css.length = K at *
  generalize ls.length = N at *
  unfold meth at HCC
  unfold meth
  go_enter Try.func52, Try.ntmps52
  go_wp2_with fail
  refine HCC.out.mono ?_
  rintro e w1 ⟨rfl, hb1⟩
  have hB1 : Below w.heap.size w w1 := hB0.trans (hb1.mono (by simp))
  have hX1 := HBX.out.below hb1
  have g2 := hX1.c2
  clear HCC HBX hb1 hB0
  go_wp2_with fail
  refine (HCL.out w1 hB1).mono ?_
  rintro e w2 ⟨rfl, rfl⟩
  clear HCL
  go_wp2
  go_ret
  exact ⟨rfl, hB1⟩

end Go.Proofs.Ytoiiadiimfohiaa

/- Contract: the answer's CallsOf. -/
namespace Go.Proofs.Ytoiiadiimfohiaa
open Go.RowKit

/-- A call in the making: its sign, its changes as a value, and as lists. -/
structure Ce where
  sign : Int
  val : Value
  chs : List (List Int)

def ceCells (es : List Ce) : List Value := es.flatMap (fun e => [.int .i32 e.sign, e.val])

theorem ceCells_length (es : List Ce) : (ceCells es).length = es.length * 2 := by
  unfold ceCells
  rw [List.length_flatMap]
  show (es.map (fun _ => 2)).sum = _
  exact sum_const 2 es

theorem ceCells_snoc (es : List Ce) (e : Ce) : ceCells (es ++ [e]) = ceCells es ++ [.int .i32 e.sign, e.val] := by simp [ceCells, List.flatMap_append]

def sgnOf (k : Nat) : Int := if k = 0 then 112 else 97 + k

/-- What is known of calls that were made. -/
structure Cok (n : Nat) (w : World) (base : Nat) (es : List Ce) : Prop where
  ll : ∀ e, e ∈ es → ∃ vs, LL w base e.val vs e.chs
  sign : ∀ k, k < es.length → (es.getD k ⟨0, undef, []⟩).sign = sgnOf k
  few : ∀ e, e ∈ es → e.chs.length ≤ 1
  ok : ∀ e, e ∈ es → ∀ j, j < e.chs.length → okc n 0 (e.chs.getD j []) = true

theorem Cok.snoc {n : Nat} {w : World} {base : Nat} {es : List Ce} (h : Cok n w base es) (e : Ce) (h1 : ∃ vs, LL w base e.val vs e.chs) (h2 : e.sign = sgnOf es.length) (h3 : e.chs.length ≤ 1) (h4 : ∀ j, j < e.chs.length → okc n 0 (e.chs.getD j []) = true) : Cok n w base (es ++ [e]) := by
  refine ⟨fun x hx => ?_, fun k hk => ?_, fun x hx => ?_, fun x hx => ?_⟩
  · rcases List.mem_append.1 hx with hx | hx
    · exact h.ll x hx
    · rw [List.mem_singleton] at hx; rw [hx]; exact h1
  · rw [List.length_append] at hk
    by_cases hlt : k < es.length
    · rw [List.getD_eq_getElem?_getD, List.getElem?_append_left hlt, ← List.getD_eq_getElem?_getD]
      exact h.sign k hlt
    · have : k = es.length := by simp at hk; omega
      subst this
      rw [List.getD_eq_getElem?_getD, List.getElem?_append_right (Nat.le_refl _), Nat.sub_self]
      exact h2
  · rcases List.mem_append.1 hx with hx | hx
    · exact h.few x hx
    · rw [List.mem_singleton] at hx; rw [hx]; exact h3
  · rcases List.mem_append.1 hx with hx | hx
    · exact h.ok x hx
    · rw [List.mem_singleton] at hx; rw [hx]; exact h4

theorem Cok.mono {n : Nat} {w w' : World} {base : Nat} {es : List Ce} (h : Cok n w base es) (hm : ∀ v vs xss, LL w base v vs xss → LL w' base v vs xss) : Cok n w' base es :=
  ⟨fun e he => by obtain ⟨vs, h1⟩ := h.ll e he; exact ⟨vs, hm _ _ _ h1⟩, h.sign, h.few, h.ok⟩

/-- As calls. -/
def ceCalls (es : List Ce) : List (Int × List (List Int)) := es.map (fun e => (e.sign, e.chs))

theorem Cok.calls {n : Nat} {w : World} {base : Nat} {es : List Ce} {u : Value} (h : Cok n w base es) (hr : w.ownsRow base 47 2 u es.length (ceCells es)) (h1 : 1 ≤ es.length) : CallsAt w u (ceCalls es) := by
  have hl : (ceCalls es).length = es.length := by simp [ceCalls]
  rcases hr.2 with ⟨_, h0⟩ | ⟨g, cap, cur, hu, hg, hh, hc, hm, _⟩
  · omega
  refine ⟨g, 0, cap, by rw [hl]; exact hu, (Array.getElem?_eq_some_iff.1 hh).1, by rw [hl]; exact hc, by unfold maxLen at hm; omega, fun k hk => ?_⟩
  rw [hl] at hk
  have hcell : ∀ j v, (ceCells es)[j]? = some v → w.cell? ⟨g, 0 + j, none⟩ = some v := fun j v hj => by
    have := hr.cells (g := g) (by rw [hu]; rfl) j v hj
    rw [Addr.add_lit] at this
    exact this
  have e0 : (ceCells es)[k * 2 + 0]? = some (.int .i32 es[k].sign) := by
    unfold ceCells
    rw [flat_get _ 2 (fun _ => rfl) es k 0 hk (by decide)]
    rfl
  have e1 : (ceCells es)[k * 2 + 1]? = some es[k].val := by
    unfold ceCells
    rw [flat_get _ 2 (fun _ => rfl) es k 1 hk (by decide)]
    rfl
  have eg : (ceCalls es).getD k (0, []) = (es[k].sign, es[k].chs) := by simp [ceCalls, List.getD, hk]
  obtain ⟨vs, hll⟩ := h.ll es[k] (List.getElem_mem hk)
  rw [eg]
  refine ⟨es[k].val, hcell _ _ e0, ?_, hll.ints⟩
  have := hcell _ _ e1
  rwa [← Nat.add_assoc] at this

end Go.Proofs.Ytoiiadiimfohiaa

/- Contract: the answer's ChangeMay. -/
namespace Go.Proofs.Ytoiiadiimfohiaa
open Go.RowKit

set_option maxRecDepth 20000 in
set_option maxHeartbeats 2000000 in
theorem changeMay_any (n : Int) (v : Value) (ps : List Int) (w : World) (h1 : 1 ≤ n) (h2 : n ≤ 12) (i1 : Ints w v ps) :
    Calls Try.prog 36 #[.int .i64 n, v] w fun e w' => e = .returned (.int .i64 (pck n ps)) ∧ w = w' := by
  rcases i1 with ⟨rfl, p, c, rfl⟩ | ⟨b, off, cap, rfl, h0, hc, hm, hb, hcell⟩
  · go_enter Try.func36, Try.ntmps36
    go_wp2
    go_loop [5, 6] (fun l i => l = .int .i64 0 ∧ i = .int .i64 0) (fun _ _ => 0)
    case atStart => exact ⟨rfl, rfl⟩
    case round =>
      obtain ⟨rfl, rfl⟩ := hrel
      by_cases he : n % 2 = 0
      · have hp : Hid (pck n [] = 0) := by show _ = _; unfold pck okc; rw [if_pos (by simp; omega)]
        have ht : (n % 2 == 1) = false := by rw [beq_eq_false_iff_ne]; omega
        clear he
        go_wp2
        go_ret
        exact ⟨ret_int hp.out.symm, rfl⟩
      · have hp : Hid (pck n [] = 6) := by show _ = _; unfold pck okc; rw [if_neg (by simp; omega)]
        have ht : n % 2 = 1 := by omega
        clear he
        go_wp2
        go_ret
        exact ⟨ret_int hp.out.symm, rfl⟩
  · go_enter Try.func36, Try.ntmps36
    go_wp2
    go_loop [5, 6] (fun l i => ∃ (k : Nat) (L : Int), k ≤ ps.length ∧ i = .int .i64 k ∧ l = .int .i64 L ∧ 0 ≤ L ∧ L ≤ n ∧ Hid (okc n 0 ps = okc n L (ps.drop k))) (fun _ i => ps.length - (intOf i).toNat)
    case atStart => exact ⟨0, 0, by omega, rfl, rfl, by omega, by omega, rfl⟩
    case round =>
      obtain ⟨k, L, hk, rfl, rfl, hL0, hLn, hok⟩ := hrel
      by_cases hlt : k < ps.length
      · obtain ⟨y, hy, hcx⟩ := cellAt hcell hlt
        have HD : Hid (okc n 0 ps = (decide (L < y ∧ y ≤ n ∧ (y - L - 1) % 2 = 0) && okc n y (ps.drop (k + 1)))) := by
          show _ = _; rw [hok.out, drop_cons ps hlt, hy.out]; rfl
        clear hcell hok
        by_cases c1 : y ≤ L
        · have hp : Hid (pck n ps = 6) := by show _ = _; unfold pck; rw [HD.out, decide_eq_false (by omega)]; rfl
          go_wp2
          go_ret
          exact ⟨ret_int hp.out.symm, rfl⟩
        · by_cases c2 : n < y
          · have hp : Hid (pck n ps = 6) := by show _ = _; unfold pck; rw [HD.out, decide_eq_false (by omega)]; rfl
            have c3 : L < y := by omega
            clear c1
            go_wp2
            go_ret
            exact ⟨ret_int hp.out.symm, rfl⟩
          · have c3 : L < y := by omega
            have c4 : y ≤ n := by omega
            clear c1 c2
            by_cases c5 : (y - L) % 2 = 1
            · have HN : Hid (okc n 0 ps = okc n y (ps.drop (k + 1))) := by show _ = _; rw [HD.out, decide_eq_true (by omega)]; rfl
              have D5 : ((y - L) % 2 == 0) = false := by rw [beq_eq_false_iff_ne]; omega
              clear c5
              go_wp2
              go_round
              case rel => exact ⟨k + 1, y, by omega, by go_num, rfl, by omega, by omega, HN⟩
              case measure => simp [intOf]; omega
            · have hp : Hid (pck n ps = 6) := by show _ = _; unfold pck; rw [HD.out, decide_eq_false (by omega)]; rfl
              have D5 : (y - L) % 2 = 0 := by omega
              clear c5
              go_wp2
              go_ret
              exact ⟨ret_int hp.out.symm, rfl⟩
      · have HE : Hid (okc n 0 ps = decide ((n - L) % 2 = 0)) := by show _ = _; rw [hok.out, List.drop_of_length_le (by omega)]; rfl
        clear hcell hok
        by_cases c5 : (n - L) % 2 = 0
        · have hp : Hid (pck n ps = 0) := by show _ = _; unfold pck; rw [HE.out, decide_eq_true c5]; rfl
          have D5 : ((n - L) % 2 == 1) = false := by rw [beq_eq_false_iff_ne]; omega
          clear c5
          go_wp2
          go_ret
          exact ⟨ret_int hp.out.symm, rfl⟩
        · have hp : Hid (pck n ps = 6) := by show _ = _; unfold pck; rw [HE.out, decide_eq_false c5]; rfl
          have D5 : (n - L) % 2 = 1 := by omega
          clear c5
          go_wp2
          go_ret
          exact ⟨ret_int hp.out.symm, rfl⟩

end Go.Proofs.Ytoiiadiimfohiaa

/- Contracts: the answer's isIn and ChangeRow; Check, ChangeMay at every number; Row where it refuses. -/
namespace Go.Proofs.Ytoiiadiimfohiaa
open Go.RowKit

/-- What Check says at every number of bells. -/
def pc (n : Int) (ps : List Int) : Int := if 1 ≤ n ∧ n ≤ 12 then pck n ps else 1

theorem pc_range (n : Int) (ps : List Int) : pc n ps = 0 ∨ pc n ps = 1 ∨ pc n ps = 6 := by
  unfold pc
  split
  · rcases pck_range n ps with h | h <;> simp [h]
  · simp

theorem pcheck_all (n : Int) (v : Value) (ps : List Int) (w : World) (i1 : Ints w v ps) :
    Calls Try.prog 79 #[.int .i64 n, v] w fun e w' => e = .returned (.int .i64 (pc n ps)) ∧ w = w' := by
  by_cases h : 1 ≤ n ∧ n ≤ 12
  · unfold pc
    rw [if_pos h]
    exact pcheck_any n v ps w h.1 h.2 i1
  · unfold pc
    rw [if_neg h]
    exact pcheck_count n v w (by omega)

set_option maxRecDepth 20000 in
set_option maxHeartbeats 1000000 in
theorem changeMay_count (n : Int) (v : Value) (w : World) (h : n < 1 ∨ 12 < n) :
    Calls Try.prog 36 #[.int .i64 n, v] w fun e w' => e = .returned (.int .i64 1) ∧ w = w' := by
  rcases h with h | h
  · go_enter Try.func36, Try.ntmps36
    go_wp2
    go_ret
    exact ⟨rfl, rfl⟩
  · have h1 : ¬ n < 1 := by omega
    go_enter Try.func36, Try.ntmps36
    go_wp2
    go_ret
    exact ⟨rfl, rfl⟩

theorem changeMay_all (n : Int) (v : Value) (ps : List Int) (w : World) (i1 : Ints w v ps) :
    Calls Try.prog 36 #[.int .i64 n, v] w fun e w' => e = .returned (.int .i64 (pc n ps)) ∧ w = w' := by
  by_cases h : 1 ≤ n ∧ n ≤ 12
  · unfold pc
    rw [if_pos h]
    exact changeMay_any n v ps w h.1 h.2 i1
  · unfold pc
    rw [if_neg h]
    exact changeMay_count n v w (by omega)

set_option maxRecDepth 20000 in
set_option maxHeartbeats 1000000 in
theorem prow_no (n : Int) (v : Value) (ps : List Int) (w : World) (i1 : Ints w v ps) (h : pc n ps ≠ 0) :
    Calls Try.prog 60 #[.int .i64 n, v] w fun e w' => e = .returned (.tuple #[.slice none 0 0, .int .i64 (pc n ps)]) ∧ w = w' := by
  have HC := hide (pcheck_all n v ps w i1)
  have hr := pc_range n ps
  clear i1
  generalize pc n ps = z at *
  have hz : z = 1 ∨ z = 6 := by omega
  clear hr h
  rcases hz with rfl | rfl
  · go_enter Try.func60, Try.ntmps60
    go_wp2_with fail
    refine HC.out.mono ?_
    rintro e w' ⟨rfl, rfl⟩
    go_wp2
    go_ret2
    exact ⟨rfl, rfl⟩
  · go_enter Try.func60, Try.ntmps60
    go_wp2_with fail
    refine HC.out.mono ?_
    rintro e w' ⟨rfl, rfl⟩
    go_wp2
    go_ret2
    exact ⟨rfl, rfl⟩

set_option maxRecDepth 20000 in
set_option maxHeartbeats 1000000 in
theorem isIn_any (v : Value) (xs : List Int) (x : Int) (w : World) (h : Ints w v xs) :
    Calls Try.prog 93 #[v, .int .i64 x] w fun e w' => e = .returned (.bool (decide (x ∈ xs))) ∧ w = w' := by
  rcases h with ⟨rfl, p, c, rfl⟩ | ⟨b, off, cap, rfl, h0, hc, hm, hb, hcell⟩
  · go_enter Try.func93, Try.ntmps93
    go_wp2
    go_loop [5] (fun i => i = .int .i64 0) (fun _ => 0)
    case atStart => rfl
    case round =>
      subst hrel
      go_wp2
      go_ret
      exact ⟨by simp, rfl⟩
  · go_enter Try.func93, Try.ntmps93
    go_wp2
    go_loop [5] (fun i => ∃ k : Nat, k ≤ xs.length ∧ i = .int .i64 k ∧ Hid (x ∈ xs ↔ x ∈ xs.drop k)) (fun i => xs.length - (intOf i).toNat)
    case atStart => exact ⟨0, by omega, rfl, Iff.rfl⟩
    case round =>
      obtain ⟨k, hk, rfl, hi⟩ := hrel
      by_cases hlt : k < xs.length
      · obtain ⟨y, hy, hcx⟩ := cellAt hcell hlt
        have HD : Hid (x ∈ xs ↔ x = y ∨ x ∈ xs.drop (k + 1)) := by show _ ↔ _; rw [hi.out, drop_cons xs hlt, hy.out, List.mem_cons]
        clear hcell hi
        by_cases hxy : y = x
        · have hp : Hid (decide (x ∈ xs) = true) := decide_eq_true (HD.out.2 (Or.inl hxy.symm))
          subst hxy
          clear HD
          go_wp2
          go_ret
          exact ⟨ret_bool hp.out.symm, rfl⟩
        · have hp : Hid (x ∈ xs ↔ x ∈ xs.drop (k + 1)) := HD.out.trans ⟨fun h => h.resolve_left (fun e => hxy e.symm), Or.inr⟩
          have hne : (y == x) = false := by simpa using hxy
          clear hxy HD
          go_wp2
          go_round
          case rel => exact ⟨k + 1, by omega, by go_num, hp⟩
          case measure => simp [intOf]; omega
      · have hp : Hid (decide (x ∈ xs) = false) := by show _ = _; rw [decide_eq_false_iff_not, hi.out, List.drop_of_length_le (by omega)]; simp
        clear hcell hi
        go_wp2
        go_ret
        exact ⟨ret_bool hp.out.symm, rfl⟩

theorem cell_two_new (w : World) (x y : Value) (e : TypeId) : ∀ j u, [x, y][j]? = some u → (w.alloc (.cells #[x, y] e)).cell? ((⟨w.heap.size, 0, none⟩ : Addr).add j) = some u := by
  intro j u hj
  have h9 := heap_alloc_new w (.cells #[x, y] e)
  rw [Addr.add_lit]
  match j, hj with
  | 0, hj => simp at hj; subst hj; unfold World.cell?; simp only [h9]; rfl
  | 1, hj => simp at hj; subst hj; unfold World.cell?; simp only [h9]; rfl

def lenOf : Value → Nat
  | .slice _ l _ => l
  | _ => 0

set_option maxRecDepth 20000 in
set_option maxHeartbeats 4000000 in
theorem changeRow_ok (t : List Bool) (n : Nat) (v : Value) (w : World) (hn : tsz t = n) (h1 : 1 ≤ n) (h2 : n ≤ 12) (i1 : Ints w v (tpl t)) :
    Calls Try.prog 65 #[.int .i64 n, v] w fun e w' => ∃ v', e = .returned v' ∧ w'.ownsRow w.heap.size 3 1 v' n ((trow t).map (Value.int .i64)) ∧ Below w.heap.size w w' := by
  obtain ⟨i0, hi, hz0, hz1, hz2⟩ := info_parts Try.info3
  have HI := hide i1
  have HT := hide hn
  clear i1 hn
  go_enter Try.func65, Try.ntmps65
  go_wp2
  go_loopw [5] (fun o wr => ∃ (u s : List Bool), Hid (t = u ++ s) ∧ tsz s ≤ n ∧ wr.ownsRow w.heap.size 3 1 o (tsz s) ((trow s).map (Value.int .i64)) ∧ Below w.heap.size w wr) (fun o _ => n - lenOf o)
  case atStart => exact ⟨t, [], by show _ = _; simp, Nat.zero_le _, World.ownsRow_nil _ _ _ _, Below.refl _ _⟩
  case round =>
    obtain ⟨u, s, hus, hsn, hown, hbw⟩ := hrel
    obtain ⟨op, oc, rfl⟩ := owns_slice hown
    have hbs := hbw.size
    by_cases hlt : tsz s < n
    · obtain ⟨u', b, hu, hus'⟩ := til_next (u := u) (s := s) (by rw [← hus.out, HT.out]; exact hlt)
      have HU : Hid (t = u' ++ b :: s) := by show _ = _; rw [hus.out, hus']
      have HCo := hide (isIn_any v (tpl t) ((tsz s : Nat) + 1) wr (HI.out.below hbw))
      have hm := mem_next u' s b
      rw [← HU.out] at hm
      have hsz : tsz (b :: s) ≤ n := by have := tsz_mono (b :: s) u'; rw [← HU.out, HT.out] at this; exact this
      clear hu hus' hus
      cases b with
      | true =>
        rw [decide_eq_true (hm.2 rfl)] at HCo
        clear hm
        simp only [tsz] at hsz
        have HTR : Hid ((trow (true :: s)).map (Value.int .i64) = (trow s).map (Value.int .i64) ++ [.int .i64 ((tsz s : Nat) : Int)]) := by show _ = _; simp [trow]
        have HTS : Hid (tsz (true :: s) = tsz s + 1) := by show _ = _; simp [tsz]
        generalize hS : tsz s = S' at *
        go_wp2_with fail
        refine HCo.out.mono ?_
        rintro e w' ⟨rfl, rfl⟩
        go_wp2_with (at_builtin; refine wpList_append_own _ rfl _ _ 26 rfl w.heap.size 3 i0 (.int .i64 0) 1 8 Try.underlying26 hi hz0 hz1 hz2 rfl (by decide) _ _ _ rfl (hown.alloc _) ⟨wr.heap.size, 0, none⟩ 1 1 [.int .i64 (S' : Int)] rfl rfl ?c1 ?c2 ?c3 ?c4 ?c5 ?_)
        case c1 => exact cell_one_new _ _ _
        case c2 => intro u hu; simp at hu; subst hu; rfl
        case c3 => unfold maxLen; omega
        case c4 => omega
        case c5 => simp; omega
        · intro v' w1 hown' hgrow _
          obtain ⟨vp, vc, rfl⟩ := owns_slice hown'
          have HO : Hid (w1.ownsRow w.heap.size 3 1 (.slice vp (S' + 1) vc) (tsz (true :: s)) ((trow (true :: s)).map (Value.int .i64))) := by show World.ownsRow _ _ _ _ _ _ _; rw [HTS.out, HTR.out]; exact hown'
          have HB1 : Hid (Below w.heap.size w w1) := (hbw.alloc hbw.size _).grown hgrow (by simp; omega) (fun g hg => (hown.lt g hg).1)
          clear hown' hgrow hown
          go_wp2
          go_roundw
          case rel => exact ⟨u', true :: s, HU, by rw [HTS.out]; omega, HO.out, HB1.out⟩
          case measure => simp [lenOf]; omega
      | false =>
        rw [decide_eq_false (by rw [hm]; decide)] at HCo
        clear hm
        simp only [tsz] at hsz
        have HTR : Hid ((trow (false :: s)).map (Value.int .i64) = (trow s).map (Value.int .i64) ++ [.int .i64 (((tsz s : Nat) : Int) + 1), .int .i64 ((tsz s : Nat) : Int)]) := by show _ = _; simp [trow]
        have HTS : Hid (tsz (false :: s) = tsz s + 2) := by show _ = _; simp [tsz]
        generalize hS : tsz s = S' at *
        go_wp2_with fail
        refine HCo.out.mono ?_
        rintro e w' ⟨rfl, rfl⟩
        go_wp2_with (at_builtin; refine wpList_append_own _ rfl _ _ 26 rfl w.heap.size 3 i0 (.int .i64 0) 1 8 Try.underlying26 hi hz0 hz1 hz2 rfl (by decide) _ _ _ rfl (hown.alloc _) ⟨wr.heap.size, 0, none⟩ 2 2 [.int .i64 ((S' : Int) + 1), .int .i64 (S' : Int)] rfl rfl ?c1 ?c2 ?c3 ?c4 ?c5 ?_)
        case c1 => exact cell_two_new _ _ _ _
        case c2 => intro u hu; simp at hu; rcases hu with rfl | rfl <;> rfl
        case c3 => unfold maxLen; omega
        case c4 => omega
        case c5 => simp; omega
        · intro v' w1 hown' hgrow _
          obtain ⟨vp, vc, rfl⟩ := owns_slice hown'
          have HO : Hid (w1.ownsRow w.heap.size 3 1 (.slice vp (S' + 2) vc) (tsz (false :: s)) ((trow (false :: s)).map (Value.int .i64))) := by show World.ownsRow _ _ _ _ _ _ _; rw [HTS.out, HTR.out]; exact hown'
          have HB1 : Hid (Below w.heap.size w w1) := (hbw.alloc hbw.size _).grown hgrow (by simp; omega) (fun g hg => (hown.lt g hg).1)
          clear hown' hgrow hown
          go_wp2
          go_roundw
          case rel => exact ⟨u', false :: s, HU, by rw [HTS.out]; omega, HO.out, HB1.out⟩
          case measure => simp [lenOf]; omega
    · have hs : tsz s = n := by omega
      have hu : u = [] := til_whole (by rw [← hus.out, HT.out, hs]; exact Nat.le_refl _)
      have hts : t = s := by rw [hus.out, hu, List.nil_append]
      rw [hs] at hown ⊢
      have HOW : Hid (wr.ownsRow w.heap.size 3 1 (.slice op n oc) n ((trow t).map (Value.int .i64))) := by show World.ownsRow _ _ _ _ _ _ _; rw [hts]; exact hown
      clear hown hus hts hu hs hlt
      go_wp2
      go_ret
      exact ⟨_, rfl, HOW.out, hbw⟩

end Go.Proofs.Ytoiiadiimfohiaa

/- Contract: the answer's CallsOf. -/
namespace Go.Proofs.Ytoiiadiimfohiaa
open Go.RowKit

theorem Try.info47 : (Try.prog.info? 47).map (fun i => (i.zero, i.size, i.bytes)) = some (some (.agg #[.int .i32 0, .slice none 0 0]), 2, 32) := by kernel_rfl

theorem owns_sl {w : World} {base e size n : Nat} {v : Value} {xs : List Value} (h : w.ownsRow base e size v n xs) : ∃ p c, v = .slice p n c := by
  rcases h.2 with ⟨h1, h2⟩ | ⟨g, cap, cur, h1, _⟩
  · exact ⟨none, 0, by rw [h1, h2]⟩
  · exact ⟨_, cap, h1⟩

theorem owns_later {w w' : World} {base e size n : Nat} {v : Value} {xs : List Value} (h : w.ownsRow base e size v n xs) (hb : Below w.heap.size w w') : w'.ownsRow base e size v n xs := by
  refine ⟨h.1, ?_⟩
  rcases h.2 with h2 | ⟨g, cap, cur, hv, hg, hh, r⟩
  · exact Or.inl h2
  · exact Or.inr ⟨g, cap, cur, hv, hg, (hb.block g (Array.getElem?_eq_some_iff.1 hh).1).trans hh, r⟩

/-- A row of another type is not touched by a growing one. -/
theorem owns_call {w w' : World} {base e size n e2 s2 n2 b2 : Nat} {v v2 : Value} {xs xs2 : List Value} (h : w.ownsRow base e size v n xs) (h2 : w.ownsRow b2 e2 s2 v2 n2 xs2) (hg : w.grownBy w' v2.ownBlock) (hne : e ≠ e2) : w'.ownsRow base e size v n xs := by
  refine ⟨h.1, ?_⟩
  rcases h.2 with h3 | ⟨g, cap, cur, hv, hgb, hh, r⟩
  · exact Or.inl h3
  · refine Or.inr ⟨g, cap, cur, hv, hgb, ?_, r⟩
    rw [hg.block g (Array.getElem?_eq_some_iff.1 hh).1 (fun e' => ?_)]
    · exact hh
    · rcases h2.2 with ⟨h4, _⟩ | ⟨g2, cap2, cur2, hv2, _, hh2, _⟩
      · rw [h4] at e'; cases e'
      · rw [hv2] at e'
        have e3 : g2 = g := by cases e'; rfl
        rw [e3, hh] at hh2
        injection hh2 with hh3
        injection hh3 with _ hh4 _
        exact hne hh4

theorem tile_one {n : Nat} {ts : List (List Bool)} (h : ∀ t, t ∈ ts → tsz t = n) : ∀ j, j < (ts.map tpl).length → okc n 0 ((ts.map tpl).getD j []) = true := by
  intro j hj
  have hj' : j < ts.length := by simpa using hj
  have e : (ts.map tpl).getD j [] = tpl ts[j] := by simp [List.getD, hj']
  rw [e]
  exact (okc_iff n _).2 ⟨ts[j], h _ (List.getElem_mem hj'), rfl⟩

set_option maxRecDepth 20000 in
set_option maxHeartbeats 4000000 in
theorem callsOf_ok (v : Value) (xs : List Int) (n m : Nat) (w : World) (h : Ints w v xs) (hx : ∀ x, x ∈ xs → I64 x) (h1 : 1 ≤ n) (h12 : n ≤ 12) (hm1 : 1 ≤ m) (hm2 : m ≤ 8) :
    Calls Try.prog 20 #[v, .int .i64 n, .int .i64 m] w fun e w' => ∃ (u : Value) (es : List Ce), e = .returned u ∧ es.length = m ∧ w'.ownsRow w.heap.size 47 2 u m (ceCells es) ∧ Cok n w' w.heap.size es ∧ Below w.heap.size w w' := by
  obtain ⟨i0, hi, hz0, hz1, hz2⟩ := info_parts Try.info47
  obtain ⟨p0, c0, rfl⟩ := h.form
  have HI := hide h
  have HX := hide hx
  clear h hx
  have ho0 : (w.alloc (.cells #[.int .i32 112, .slice none 0 0] 47)).ownsRow w.heap.size 47 2 (.slice (some ⟨w.heap.size, 0, none⟩) 1 1) 1 (ceCells [⟨112, .slice none 0 0, []⟩]) := World.ownsRow_lit w #[.int .i32 112, .slice none 0 0] 1 (Nat.le_refl _) (by unfold maxLen; omega) rfl
  have HO0 := hide ho0
  have HC0 : Hid (Cok n (w.alloc (.cells #[.int .i32 112, .slice none 0 0] 47)) w.heap.size [⟨112, .slice none 0 0, []⟩]) := by
    refine ⟨fun e he => ?_, fun k hk => ?_, fun e he => ?_, fun e he j hj => ?_⟩
    · rw [List.mem_singleton] at he; rw [he]; exact ⟨[], LL.nil _ _⟩
    · have : k = 0 := by simp at hk; omega
      subst this; rfl
    · rw [List.mem_singleton] at he; rw [he]; exact Nat.zero_le _
    · rw [List.mem_singleton] at he; rw [he] at hj; simp at hj
  have hB0 : Below w.heap.size w (w.alloc (.cells #[.int .i32 112, .slice none 0 0] 47)) := (Below.refl _ _).alloc (Nat.le_refl _) _
  clear ho0
  go_enter Try.func20, Try.ntmps20
  go_wp2
  go_loopw [7, 8] (fun u i wr => ∃ (k : Nat) (es : List Ce), 1 ≤ k ∧ k ≤ m ∧ i = .int .i64 k ∧ Hid (es.length = k) ∧ Hid (wr.ownsRow w.heap.size 47 2 u k (ceCells es)) ∧ Hid (Cok n wr w.heap.size es) ∧ Below w.heap.size w wr) (fun _ i _ => m - (intOf i).toNat)
  case atStart => exact ⟨1, [⟨112, .slice none 0 0, []⟩], by omega, by omega, rfl, rfl, HO0, HC0, hB0⟩
  case round =>
    clear HO0 HC0 hB0
    obtain ⟨k, es, hk1, hk2, rfl, hel, hO, hC, hbw⟩ := hrel
    have hbs := hbw.size
    obtain ⟨up, uc, rfl⟩ := owns_sl hO.out
    by_cases hlt : k < m
    · have HCH := hide (changesOf_ok _ xs (11 * k) n 1 wr (HI.out.below hbw) HX.out (by omega) h1 h12 (by omega))
      go_wp2_with fail
      rw [show (11 * (k : Int)) = ((11 * k : Nat) : Int) from by omega]
      refine HCH.out.mono ?_
      rintro e w1 ⟨cu, cvs, ts, rfl, hl1, hts, hL1, hb1⟩
      have hbs1 := hb1.size
      have hL1' := hL1.low hbs
      obtain ⟨cp, cc, rfl⟩ := owns_slice hL1.row
      have hB1 : Below w.heap.size w w1 := hbw.trans (hb1.mono hbs)
      have hO1 : w1.ownsRow w.heap.size 47 2 (.slice up k uc) k (ceCells es) := owns_later hO.out hb1
      have hC1 := hC.out.mono (w' := w1) (fun v vs xss h => h.below hb1)
      have HC2 := hide (hC1.snoc ⟨97 + (k : Int), .slice cp cvs.length cc, ts.map tpl⟩ ⟨cvs, hL1'⟩ (by rw [hel.out]; unfold sgnOf; rw [if_neg (by omega)]) (by simp [hl1]) (tile_one hts))
      have HEL : Hid ((es ++ [(⟨97 + (k : Int), .slice cp cvs.length cc, ts.map tpl⟩ : Ce)]).length = k + 1) := by show _ = _; rw [List.length_append, hel.out]; rfl
      have HCS := hide (ceCells_snoc es ⟨97 + (k : Int), .slice cp cvs.length cc, ts.map tpl⟩)
      clear hL1 hL1' hb1 hC1 hO hC hl1 hts HCH hel
      go_wp2_with (at_builtin; refine wpList_append_own _ rfl _ _ 25 rfl w.heap.size 47 i0 (.agg #[.int .i32 0, .slice none 0 0]) 2 32 Try.underlying25 hi hz0 hz1 hz2 rfl (by decide) _ _ _ rfl (hO1.alloc _) ⟨w1.heap.size, 0, none⟩ 1 1 [.int .i32 (97 + (k : Int)), .slice cp cvs.length cc] rfl rfl ?c1 ?c2 ?c3 ?c4 ?c5 ?_)
      case c1 => exact cell_two_new _ _ _ _
      case c2 => intro u hu; simp at hu; rcases hu with rfl | rfl <;> rfl
      case c3 => unfold maxLen; omega
      case c4 => omega
      case c5 => simp; omega
      · intro v' w5 hown5 hg5 _
        have HO5 : Hid (w5.ownsRow w.heap.size 47 2 v' (k + 1) (ceCells (es ++ [(⟨97 + (k : Int), .slice cp cvs.length cc, ts.map tpl⟩ : Ce)]))) := by show World.ownsRow _ _ _ _ _ _ _; rw [HCS.out]; exact hown5
        have HC5 := hide (HC2.out.mono (w' := w5) (fun v vs xss h => ⟨owns_call (h.row.alloc _) (hO1.alloc _) hg5 (by decide), h.all.mono (fun _ _ _ h' => owns_call (h'.alloc _) (hO1.alloc _) hg5 (by decide))⟩))
        have HB5 : Hid (Below w.heap.size w w5) := (hB1.alloc hB1.size _).grown hg5 (by simp; omega) (fun g hg => (hO1.lt g hg).1)
        clear hown5 hg5 hO1 HC2 HCS
        go_wp2
        go_roundw
        case rel => exact ⟨k + 1, _, by omega, by omega, by go_num, HEL, HO5, HC5, HB5.out⟩
        case measure => simp [intOf]; omega
    · obtain rfl : k = m := by omega
      have HOx := hide hO.out
      have HCx := hide hC.out
      have HEx := hide hel.out
      clear hO hC hel
      go_wp2
      go_ret
      exact ⟨_, es, rfl, HEx.out, HOx.out, HCx.out, hbw⟩

end Go.Proofs.Ytoiiadiimfohiaa
