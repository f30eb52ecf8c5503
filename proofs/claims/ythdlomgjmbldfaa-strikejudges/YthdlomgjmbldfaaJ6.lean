/- Joined: FlW, FlX. -/
import Derived.Test.YthdlomgjmbldfaaJ5
/- The law StrikeJudges. -/
namespace Go.Proofs.Ythdlomgjmbldfaa
open Go.RowKit
set_option maxRecDepth 20000
set_option linter.unusedVariables false

theorem Blows.shorter {w : World} {v : Value} {L : List (Int × Nat)} (h : Blows w v L) : L.length ≤ 9223372036854775807 := by
  rcases h with ⟨rfl, _⟩ | ⟨b, off, cap, e, h0, h1, h2, _⟩
  · simp
  · omega

theorem Fls.below {w w' : World} {v : Value} {F : List Nat} (h : Fls w v F) (hb : Below w.heap.size w w') : Fls w' v F := by
  rcases h with h | ⟨b, off, cap, h1, h2, h3, h4, h5, h6⟩
  · exact Or.inl h
  · refine Or.inr ⟨b, off, cap, h1, h2, h3, h4, Nat.lt_of_lt_of_le h5 hb.size, fun j hj => ?_⟩
    rw [hb.cell (p := ⟨b, off + j, none⟩) h5]
    exact h6 j hj

/-- An answer of a Judge. -/
def GPost (e0 : Int) (Q : Nat → Nat → Nat → Nat → Prop) (F : List Nat) (w : World) (e : Ending) (w' : World) : Prop :=
  ∃ s g m p sv, e = .returned (.tuple #[.agg #[.float .f64 s, .float .f64 g, .float .f64 m, .float .f64 p, sv], .int .i64 e0]) ∧ Q s g m p ∧ Fls w' sv F ∧ Below w.heap.size w w'

set_option maxHeartbeats 8000000 in
theorem judges_tail (n : Int) (v : Value) (L : List (Int × Nat)) (w : World) (hn : I64 n) (hv : Blows w v L) (hl : ¬ (500 < L.length ∧ L.length < 5001)) (e0 : Int) (Q1 Q2 : Nat → Nat → Nat → Nat → Prop) (F : List Nat) (hF : F.length ≤ 100) (hFA : ∀ j, j < F.length → Alike (F.getD j 0) (F.getD j 0))
    (hJ : ∀ W, Below w.heap.size w W → Calls Try.prog 5 #[.int .i64 n, v] W (GPost e0 Q1 F W)) (hR : ∀ W, Below w.heap.size w W → Calls Try.prog 6 #[.int .i64 n, v] W (GPost e0 Q2 F W))
    (hQ : ∀ s g m p s' g' m' p', Q1 s g m p → Q2 s' g' m' p' → Alike s s' ∧ Alike g g' ∧ Alike m m' ∧ Alike p p') :
    Calls Try.prog 3 #[.int .i64 n, v] w fun e w' => e = .returned (.bool true) ∧ Below w.heap.size w w' := by
  have HJ := fun W hW => hide (hJ W hW)
  have HR := fun W hW => hide (hR W hW)
  have HC := fun W hW => hide (checkB_ok n v L W hn (hv.below (w' := W) hW))
  have HM := fun W hW => hide (blowsMay_ok n v L W hn (hv.below (w' := W) hW))
  have HFA := hide hFA
  have HQ := hide hQ
  have hl9 := hv.shorter
  obtain ⟨p, cap, rfl⟩ := hv.form
  clear hJ hR hv hFA hQ
  generalize chkB n L = c at *
  generalize L.length = m at *
  have hd1 : decide (500 < (m : Int)) = true → decide ((m : Int) < 5001) = false := fun h => by
    have := of_decide_eq_true h
    exact decide_eq_false (by omega)
  have hc500 : (500 < (m : Int) ∧ ¬ (m : Int) < 5001) ∨ ¬ 500 < (m : Int) := by omega
  clear hd1 hl
  obtain ⟨hr, hF9⟩ : ∃ k, Hid (F.length = k) := ⟨_, rfl⟩
  have hrl : hr ≤ 100 := by rw [← hF9.out]; exact hF
  rcases hc500 with ⟨hA, hB⟩ | hA
  all_goals
    go_enter Try.func3, Try.ntmps3
    go_wp2_with fail
    refine (HJ _ (Below.refl _ _)).out.mono ?_
    rintro e w1 ⟨s1, g1, m1, p1, sv1, rfl, hq1, hf1, hb1⟩
    obtain ⟨sp1, sc1, hsv1⟩ : ∃ p c, sv1 = .slice p hr c := by rw [← hF9.out]; exact hf1.form
    subst hsv1
    have hA5 := alloc_at w1 (.cells #[.float .f64 s1, .float .f64 g1, .float .f64 m1, .float .f64 p1, .slice sp1 hr sc1] 26)
    have hB1 := hb1.alloc hb1.size (.cells #[.float .f64 s1, .float .f64 g1, .float .f64 m1, .float .f64 p1, .slice sp1 hr sc1] 26)
    have hf1' := hf1.below ((Below.refl w1.heap.size w1).alloc (Nat.le_refl _) (.cells #[.float .f64 s1, .float .f64 g1, .float .f64 m1, .float .f64 p1, .slice sp1 hr sc1] 26))
    have hs1 : w1.heap.size < (w1.alloc (.cells #[.float .f64 s1, .float .f64 g1, .float .f64 m1, .float .f64 p1, .slice sp1 hr sc1] 26)).heap.size := by simp
    have HF1 := hide hf1'
    have HA5 := hide hA5
    clear hf1 hf1' hb1 hA5
    go_wp2_with fail
    generalize w1.alloc (.cells #[.float .f64 s1, .float .f64 g1, .float .f64 m1, .float .f64 p1, .slice sp1 hr sc1] 26) = W1 at *
    generalize hA5n : w1.heap.size = A5 at *
    refine (HR _ hB1).out.mono ?_
    rintro e w2 ⟨s2, g2, m2, p2, sv2, rfl, hq2, hf2, hb2⟩
    obtain ⟨sp2, sc2, hsv2⟩ : ∃ p c, sv2 = .slice p hr c := by rw [← hF9.out]; exact hf2.form
    subst hsv2
    have hB2 := hB1.trans (hb2.mono hB1.size)
    have hs2 := hb2.size
    have hal2 := (Below.refl w2.heap.size w2).alloc (Nat.le_refl _) (.cells #[.float .f64 s2, .float .f64 g2, .float .f64 m2, .float .f64 p2, .slice sp2 hr sc2] 26)
    have HF1b := hide ((HF1.out.below hb2).below hal2)
    have HF2b := hide (hf2.below hal2)
    have HA5b := hide ((Below.heap_alloc w2 (.cells #[.float .f64 s2, .float .f64 g2, .float .f64 m2, .float .f64 p2, .slice sp2 hr sc2] 26) A5 (by omega)).trans ((hb2.block A5 (by omega)).trans HA5.out))
    have HA7b := hide (alloc_at w2 (.cells #[.float .f64 s2, .float .f64 g2, .float .f64 m2, .float .f64 p2, .slice sp2 hr sc2] 26))
    have hB2b := hB2.alloc hB2.size (.cells #[.float .f64 s2, .float .f64 g2, .float .f64 m2, .float .f64 p2, .slice sp2 hr sc2] 26)
    have hs2b : w2.heap.size < (w2.alloc (.cells #[.float .f64 s2, .float .f64 g2, .float .f64 m2, .float .f64 p2, .slice sp2 hr sc2] 26)).heap.size := by simp
    clear hf2 hb2 hal2 HF1 HA5 hB1 hB2
    go_wp2_with fail
    generalize w2.alloc (.cells #[.float .f64 s2, .float .f64 g2, .float .f64 m2, .float .f64 p2, .slice sp2 hr sc2] 26) = W2 at *
    generalize hA7n : w2.heap.size = A7 at *
    clear hA5n hA7n
    refine (HC _ hB2b).out.mono ?_
    rintro e w3 ⟨rfl, hb3⟩
    have hB3 := hB2b.trans (hb3.mono hB2b.size)
    go_wp2_with fail
    refine (HM _ hB3).out.mono ?_
    rintro e w4 ⟨rfl, hd4⟩
    have hs3 := hb3.size
    have hA5c : w4.heap[A5]? = some (.cells #[.float .f64 s1, .float .f64 g1, .float .f64 m1, .float .f64 p1, .slice sp1 hr sc1] 26) := by rw [hd4.heap]; exact (hb3.block A5 (by omega)).trans HA5b.out
    have hA7c : w4.heap[A7]? = some (.cells #[.float .f64 s2, .float .f64 g2, .float .f64 m2, .float .f64 p2, .slice sp2 hr sc2] 26) := by rw [hd4.heap]; exact (hb3.block A7 (by omega)).trans HA7b.out
    have hF1c := (HF1b.out.below hb3).below (hd4.below _)
    have hF2c := (HF2b.out.below hb3).below (hd4.below _)
    have hB4 := hB3.trans (hd4.below _)
    obtain ⟨q1, q2, q3, q4⟩ := HQ.out s1 g1 m1 p1 s2 g2 m2 p2 hq1 hq2
    have HQ1 := hide q1
    have HQ2 := hide q2
    have HQ3 := hide q3
    have HQ4 := hide q4
    have HCL : ∀ W : World, Drw w4 W → ∀ j, j < hr → ∃ b1 o1 b2 o2 x, sp1 = some ⟨b1, o1, none⟩ ∧ sp2 = some ⟨b2, o2, none⟩ ∧ hr ≤ sc1 ∧ hr ≤ sc2 ∧ W.cell? ⟨b1, o1 + j, none⟩ = some (.float .f64 x) ∧ W.cell? ⟨b2, o2 + j, none⟩ = some (.float .f64 x) ∧ Alike x x := fun W hW j hj => by
      have hjF : j < F.length := by rw [hF9.out]; exact hj
      rcases hF1c with ⟨e, _⟩ | ⟨b1, o1, cap1, e1, _, hc1, _, _, hcell1⟩
      · rw [e] at hjF; simp at hjF
      rcases hF2c with ⟨e, _⟩ | ⟨b2, o2, cap2, e2, _, hc2, _, _, hcell2⟩
      · rw [e] at hjF; simp at hjF
      injection e1 with x1 _ x3
      injection e2 with y1 _ y3
      subst x3; subst y3
      rw [hF9.out] at hc1 hc2
      refine ⟨b1, o1, b2, o2, F.getD j 0, x1, y1, hc1, hc2, ?_, ?_, HFA.out j hjF⟩
      · rw [← hcell1 j hjF]; unfold World.cell?; rw [hW.heap]
      · rw [← hcell2 j hjF]; unfold World.cell?; rw [hW.heap]
    have HCL := hide HCL
    clear HF1b HF2b HA5b HA7b hb3 hd4 hF1c hF2c hB2b hB3 hq1 hq2 q1 q2 q3 q4 HJ HR HC HM
    obtain ⟨a0, a1, a2, a3, a4, _⟩ := cells5s hA5c
    obtain ⟨b0, b1, b2, b3, b4, _⟩ := cells5s hA7c
    have HA5d := hide hA5c
    have HA7d := hide hA7c
    clear hA5c hA7c
    go_wp2
    clear a0 a1 a2 a3 a4 b0 b1 b2 b3 b4
    go_loopw [9] (fun i wr => ∃ j : Nat, j ≤ hr ∧ i = .int .i64 j ∧ Hid (Drw w4 wr)) (fun i _ => hr - (intOf i).toNat)
    case atStart => exact ⟨0, by omega, rfl, Drw.refl _⟩
    case round =>
      obtain ⟨j, hj, rfl, hdr⟩ := hrel
      obtain ⟨a0, a1, a2, a3, a4, _⟩ := cells5s (show wr.heap[A5]? = _ from by rw [hdr.out.heap]; exact HA5d.out)
      obtain ⟨b0, b1, b2, b3, b4, _⟩ := cells5s (show wr.heap[A7]? = _ from by rw [hdr.out.heap]; exact HA7d.out)
      by_cases hjr : j < hr
      · obtain ⟨k1, o1, k2, o2, x, rfl, rfl, hc1, hc2, hx1, hx2, hal⟩ := HCL.out wr hdr.out j hjr
        have HAL := hide (fun W => same_alike hal W)
        clear hal
        go_wp2
        go_quiet ((go_at_call 9; exact Calls.quiet_of_same ((HAL.out _).mono (fun e w h => ⟨h.1, h.2.symm⟩))))
        go_wp2
        go_roundw
        case rel => exact ⟨j + 1, by omega, by go_num, ⟨hdr.out.heap, hdr.out.os, hdr.out.tape, hdr.out.output⟩⟩
        case measure => simp [intOf]; omega
      · have S1 := hide (fun W => same_alike HQ1.out W)
        have S2 := hide (fun W => same_alike HQ2.out W)
        have S3 := hide (fun W => same_alike HQ3.out W)
        have S4 := hide (fun W => same_alike HQ4.out W)
        have hB5 := hB4.trans (hdr.out.below _)
        go_wp2_with fail
        refine (S1.out _).mono ?_
        rintro e w9 ⟨rfl, rfl⟩
        go_wp2_with fail
        refine (S2.out _).mono ?_
        rintro e w9 ⟨rfl, rfl⟩
        go_wp2_with fail
        refine (S3.out _).mono ?_
        rintro e w9 ⟨rfl, rfl⟩
        go_wp2_with fail
        refine (S4.out _).mono ?_
        rintro e w9 ⟨rfl, rfl⟩
        go_wp2
        go_ret
        exact ⟨rfl, hB5⟩

end Go.Proofs.Ythdlomgjmbldfaa

/- The law StrikeJudges, all cases. -/
namespace Go.Proofs.Ythdlomgjmbldfaa
open Go.RowKit
set_option maxRecDepth 20000
set_option linter.unusedVariables false

theorem BOk.meanB {n : Nat} {L : List (Int × Nat)} (h : BOk n L) : FB (meanOf n L) 400 := by
  have qo := (h.tO (Nat.le_refl _)).sm h.l5 (by decide)
  exact (FB.uns (qo.2.quo (d := (L.length : Int)) (by have := h.l2; omega) (by have := h.l5; omega) (by decide)).2).mono (by decide)

theorem BOk.varB {n : Nat} {L : List (Int × Nat)} (h : BOk n L) : FB (fop .quo (sm (Go.Proofs.Ythdlomgjmbldfaa.tQ n L L.length)) (fi (L.length : Int))) 600 := by
  have qq := (h.tQ (Nat.le_refl _)).sm h.l5 (by decide)
  exact (qq.2.quo (d := (L.length : Int)) (by have := h.l2; omega) (by have := h.l5; omega) (by decide)).2.mono (by decide)

theorem BOk.bellB {n : Nat} {L : List (Int × Nat)} (h : BOk n L) (i : Nat) : FB (bellMean n L i) 400 := by
  unfold bellMean
  split
  · rename_i hi
    have hle := manS_le n L L.length i
    have h5 := h.l5
    exact (FB.uns (((h.own (Nat.le_refl _) i).sm h.l5 (by decide)).2.quo (by omega) (by omega) (by decide)).2).mono (by decide)
  · exact FB.zero _

theorem strikeJudges_walk (n : Int) (v : Value) (L : List (Int × Nat)) (w : World) (hn : I64 n) (hv : Blows w v L) (ht : ∀ k, k < L.length → timeAt L k < 18446744073709551616) :
    Calls Try.prog 3 #[.int .i64 n, v] w fun e w' => e = .returned (.bool true) ∧ Below w.heap.size w w' := by
  by_cases hl : 500 < L.length ∧ L.length < 5001
  · obtain ⟨p, cap, rfl⟩ := hv.form
    have h1 : (500 : Int) < (L.length : Int) := by omega
    have h2 : (L.length : Int) < 5001 := by omega
    clear hv ht hl
    generalize L.length = m at *
    go_enter Try.func3, Try.ntmps3
    go_wp2
    go_ret
    exact ⟨rfl, Below.refl _ _⟩
  · by_cases hc : chkB n L = 0
    · obtain ⟨k, rfl⟩ : ∃ k : Nat, n = (k : Int) := by
        refine ⟨n.toNat, ?_⟩
        have : ¬ (n < 1 ∨ 12 < n ∨ L.length < 2) := fun e => by unfold chkB at hc; rw [if_pos e] at hc; cases hc
        omega
      have h5 : L.length ≤ 500 := by
        rcases Nat.lt_or_ge 5000 L.length with e | e
        · exfalso
          unfold chkB at hc
          by_cases e1 : (k : Int) < 1 ∨ 12 < (k : Int) ∨ L.length < 2
          · rw [if_pos e1] at hc; cases hc
          · rw [if_neg e1, if_pos e] at hc; cases hc
        · omega
      obtain ⟨hok, hb⟩ := BOk.of hc h5 ht
      refine judges_tail k v L w hn hv hl 0 (fun s g m p => s = startOf k L ∧ g = gapOf k L ∧ m = meanOf k L ∧ SqrtOf (varOf k L) p) (fun s g m p => s = startOf k L ∧ g = gapOf k L ∧ m = meanOf k L ∧ ∃ v r, p = uns r ∧ Zq (fop .quo (sm (tQ k L L.length)) (fi (L.length : Int))) v ∧ SqrtOf v r) ((List.range k).map (bellMean k L)) (by have := hok.n12; simp; omega) (fun j hj => ?_) (fun W hW => ?_) (fun W hW => ?_) ?_
      · have hj' : j < k := by simpa using hj
        have e : ((List.range k).map (bellMean k L)).getD j 0 = bellMean k L j := by simp [List.getD, hj']
        rw [e]
        exact Alike.fb (hok.bellB j)
      · refine (judge_ok k v L W hok.n1 hok.n12 (hv.below hW) hc (by omega) hok.judge hb).mono ?_
        rintro e w' ⟨sp, g, rfl, hs, hf, _, hbl⟩
        have hfl := Fls.blk hf (by simp; have := hok.n12; omega)
        rw [List.length_map, List.length_range] at hfl
        exact ⟨_, _, _, _, _, rfl, ⟨rfl, rfl, rfl, hs⟩, hfl, hbl⟩
      · refine (rjudge_ok k v L W (hv.below hW) hc hok hb).mono ?_
        rintro e w' ⟨v9, r, sv, rfl, hz, hs, hf, hbl⟩
        exact ⟨_, _, _, _, _, rfl, ⟨rfl, rfl, rfl, v9, r, rfl, hz, hs⟩, hf, hbl⟩
      · rintro s g m p s' g' m' p' ⟨rfl, rfl, rfl, h1⟩ ⟨rfl, rfl, rfl, v9, r, rfl, hz, hs⟩
        exact ⟨Alike.fb hok.line.2, Alike.fb hok.line.1, Alike.fb hok.meanB, sqrt_alike hok.varB hz h1 hs⟩
    · refine judges_tail n v L w hn hv hl (chkB n L) (fun s g m p => s = 0 ∧ g = 0 ∧ m = 0 ∧ p = 0) (fun s g m p => s = 0 ∧ g = 0 ∧ m = 0 ∧ p = 0) [] (by simp) (fun j hj => by simp at hj) (fun W hW => ?_) (fun W hW => ?_) ?_
      · refine (judge_err n v L W hn (hv.below hW) hc).mono ?_
        rintro e w' ⟨rfl, hbl⟩
        exact ⟨_, _, _, _, _, rfl, ⟨rfl, rfl, rfl, rfl⟩, Or.inl ⟨rfl, _, _, rfl⟩, hbl⟩
      · refine (rjudge_err n v L W hn (hv.below hW) hc).mono ?_
        rintro e w' ⟨rfl, hbl⟩
        exact ⟨_, _, _, _, _, rfl, ⟨rfl, rfl, rfl, rfl⟩, Or.inl ⟨rfl, _, _, rfl⟩, hbl⟩
      · rintro s g m p s' g' m' p' ⟨rfl, rfl, rfl, rfl⟩ ⟨rfl, rfl, rfl, rfl⟩
        exact ⟨Alike.fv FV_zero, Alike.fv FV_zero, Alike.fv FV_zero, Alike.fv FV_zero⟩

end Go.Proofs.Ythdlomgjmbldfaa
