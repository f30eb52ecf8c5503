/- Joined: FlK. -/
import Derived.Test.YthdlomgjmbldfaaJ2
import Derived.Deep.RegionLaw
/- The law TopStruck. -/
namespace Go.Proofs.Ythdlomgjmbldfaa
open Go.RowKit
set_option maxRecDepth 20000
set_option linter.unusedVariables false

/-- Blows as cells. -/
def flatB : List (Int × Nat) → List Value
  | [] => []
  | s :: l => .int .i64 s.1 :: .float .f64 s.2 :: flatB l

theorem flatB_length : ∀ l : List (Int × Nat), (flatB l).length = l.length * 2
  | [] => rfl
  | s :: l => by simp only [flatB, List.length_cons, flatB_length l]; omega

theorem flatB_get : ∀ (l : List (Int × Nat)) (j : Nat), j < l.length → (flatB l)[j * 2]? = some (.int .i64 (l.getD j (0, 0)).1) ∧ (flatB l)[j * 2 + 1]? = some (.float .f64 (l.getD j (0, 0)).2)
  | s :: l, 0, _ => by simp [flatB]
  | s :: l, j + 1, h => by
    have := flatB_get l j (by simpa using h)
    rw [show (j + 1) * 2 = j * 2 + 1 + 1 from by omega]
    simpa [flatB] using this

theorem flatB_snoc : ∀ (l : List (Int × Nat)) (s : Int × Nat), flatB (l ++ [s]) = flatB l ++ [.int .i64 s.1, .float .f64 s.2]
  | [], s => rfl
  | t :: l, s => by simp only [List.cons_append, flatB, flatB_snoc l s]

/-- Blows that the call owns. -/
theorem Blows.own {w : World} {base e : Nat} {v : Value} {n : Nat} {L : List (Int × Nat)} (h : w.ownsRow base e 2 v n (flatB L)) : Blows w v L := by
  have h1 := h.1
  rw [flatB_length] at h1
  have hn : L.length = n := by omega
  subst hn
  rcases h.2 with ⟨rfl, h2⟩ | ⟨g, cap, cur, hv, hb, hh, hn, hm, hs, ht⟩
  · exact Or.inl ⟨List.length_eq_zero_iff.1 (by omega), none, 0, rfl⟩
  · rcases Nat.eq_zero_or_pos L.length with h0 | h0
    · exact Or.inl ⟨List.length_eq_zero_iff.1 h0, _, cap, by rw [hv, h0]⟩
    · refine Or.inr ⟨g, 0, cap, hv, h0, hn, by unfold maxLen at hm; omega, (Array.getElem?_eq_some_iff.1 hh).1, fun j hj => ?_⟩
      obtain ⟨e1, e2⟩ := flatB_get L j hj
      have c1 := h.cells (g := g) (by rw [hv]; rfl) _ _ e1
      have c2 := h.cells (g := g) (by rw [hv]; rfl) _ _ e2
      rw [Addr.add_lit] at c1 c2
      exact ⟨c1, by rw [← c2]; congr 1⟩

theorem Try.info35 : (Try.prog.info? 35).map (fun i => (i.zero, i.size, i.bytes)) = some (some (.agg #[.int .i64 0, .float .f64 0]), 2, 16) := by kernel_rfl

set_option maxHeartbeats 4000000 in
theorem topStruck_walk (n0 s0 g0 m0 : Int) (w : World) (hn0 : I64 n0) (hs0 : I64 s0) (hg0 : I64 g0) (hm0 : I64 m0) :
    Calls Try.prog 4 #[.int .i64 n0, .int .i64 s0, .int .i64 g0, .int .i64 m0] w fun e w' => e = .returned (.bool true) ∧ Below w.heap.size w w' := by
  obtain ⟨i0, hi, hz0, hz1, hz2⟩ := info_parts Try.info35
  have HP1 := fun W => hide (pick_det n0 12 W hn0.1 hn0.2 (by decide) (by decide))
  have HP2 := fun W => hide (pick_det s0 200000 W hs0.1 hs0.2 (by decide) (by decide))
  have HP3 := fun W => hide (pick_det g0 1000 W hg0.1 hg0.2 (by decide) (by decide))
  have HP4 := fun W => hide (pick_det m0 300 W hm0.1 hm0.2 (by decide) (by decide))
  have b1 := pk_range n0 (n := 12) (by decide)
  have b2 := pk_range s0 (n := 200000) (by decide)
  have b3 := pk_range g0 (n := 1000) (by decide)
  have b4 := pk_range m0 (n := 300) (by decide)
  generalize pk n0 12 = p1 at *
  generalize pk s0 200000 = p2 at *
  generalize pk g0 1000 = g at *
  generalize pk m0 300 = p4 at *
  obtain ⟨n, hn⟩ : ∃ n : Nat, 1 + p1 = (n : Int) := ⟨(p1 + 1).toNat, by omega⟩
  obtain ⟨m, hm⟩ : ∃ m : Nat, 2 + p4 = (m : Int) := ⟨(p4 + 2).toNat, by omega⟩
  obtain ⟨s, hs⟩ : ∃ s : Int, p2 - 100000 = s := ⟨_, rfl⟩
  have hI : InT n s g m := ⟨by omega, by omega, by omega, by omega, by omega, by omega, by omega⟩
  have HI := hide hI
  have hn1 := hI.n1
  have hn2 := hI.n12
  have hm1 := hI.m2
  have hm2 := hI.m3
  have hsb : -100000 ≤ s ∧ s ≤ 100000 := by omega
  have HN := hide hn
  have HM := hide hm
  have HS := hide hs
  clear hI hn hm hs
  go_enter Try.func4, Try.ntmps4
  go_wp2_with fail
  refine (HP1 _).out.mono ?_
  rintro e w9 ⟨rfl, rfl⟩
  go_wp2_with fail
  rw [HN.out]
  refine (HP2 _).out.mono ?_
  rintro e w9 ⟨rfl, rfl⟩
  go_wp2_with fail
  rw [HS.out]
  refine (HP3 _).out.mono ?_
  rintro e w9 ⟨rfl, rfl⟩
  go_wp2
  go_loopw [9, 10] (fun v i wr => ∃ k : Nat, k ≤ m ∧ i = .int .i64 k ∧ Hid (wr.ownsRow w.heap.size 35 2 v k (flatB (inTime n s g k))) ∧ Below w.heap.size w wr) (fun _ i _ => m - (intOf i).toNat)
  case atStart => exact ⟨0, by omega, rfl, World.ownsRow_nil _ _ _ _, Below.refl _ _⟩
  case round =>
    obtain ⟨k, hk, rfl, hown, hbw⟩ := hrel
    by_cases hlt : k < m
    · have hq : (k : Int).tdiv (2 * (n : Int)) = ((k / (2 * n) : Nat) : Int) := by
        rw [show (2 * (n : Int)) = ((2 * n : Nat) : Int) from by omega, ← Int.ofNat_tdiv]
      have hr : (k : Int).tmod (n : Int) = ((k % n : Nat) : Int) := by rw [← Int.ofNat_tmod]
      have hql : k / (2 * n) ≤ k := Nat.div_le_self _ _
      have hn0' : ¬ n = 0 := by omega
      have hn2' : ¬ (2 * (n : Int)) = 0 := by omega
      have hw1 : IntKind.i64.wrap (2 * (n : Int)) = 2 * (n : Int) := by simp only [IntKind.wrap, IntKind.bits, IntKind.signed]; simp; omega
      have HE : Hid (inTime n s g (k + 1) = inTime n s g k ++ [(((k % n : Nat) : Int), fi (s + g * ((k : Int) + ((k / (2 * n) : Nat) : Int))))]) := by
        rw [inTime_snoc]; unfold beatN; rw [Int.natCast_add]; exact rfl
      generalize k / (2 * n) = q at *
      generalize k % n = r at *
      have hgb : (g * ((k : Int) + (q : Int))).natAbs ≤ 1000 * 604 := mul_le_of (by omega) (by omega)
      have hgb1 : -604000 ≤ g * ((k : Int) + (q : Int)) ∧ g * ((k : Int) + (q : Int)) ≤ 604000 := by omega
      clear hgb
      have hw0 : IntKind.i64.wrap (q : Int) = (q : Int) := by rw [IntKind.wrap_i64]; omega
      have hw2 : IntKind.i64.wrap ((k : Int) + (q : Int)) = (k : Int) + (q : Int) := by simp only [IntKind.wrap, IntKind.bits, IntKind.signed]; simp; omega
      have hw3 : IntKind.i64.wrap (g * ((k : Int) + (q : Int))) = g * ((k : Int) + (q : Int)) := by simp only [IntKind.wrap, IntKind.bits, IntKind.signed]; generalize g * ((k : Int) + (q : Int)) = z at *; simp; omega
      have hw4 : IntKind.i64.wrap (s + g * ((k : Int) + (q : Int))) = s + g * ((k : Int) + (q : Int)) := by simp only [IntKind.wrap, IntKind.bits, IntKind.signed]; generalize g * ((k : Int) + (q : Int)) = z at *; simp; omega
      obtain ⟨vp, vc, rfl⟩ : ∃ p c, u9 = .slice p k c := by
        rcases hown.out.2 with ⟨h1, h2⟩ | ⟨g, cap, cur, h1, _⟩
        · exact ⟨_, _, by rw [h1, h2]⟩
        · exact ⟨_, _, h1⟩
      have hbs := hbw.size
      have hlt' : (k : Int) < 2 + p4 := by rw [HM.out]; omega
      have HO : Hid ((wr.alloc (.cells #[.int .i64 (r : Int), .float .f64 (floatOfInt .f64 (s + g * ((k : Int) + (q : Int))))] 35)).drew.ownsRow w.heap.size 35 2 (.slice vp k vc) k (flatB (inTime n s g k))) := (hown.out.alloc _).drew
      have HC : Hid (∀ j u, [Value.int .i64 (r : Int), .float .f64 (floatOfInt .f64 (s + g * ((k : Int) + (q : Int))))][j]? = some u → (wr.alloc (.cells #[.int .i64 (r : Int), .float .f64 (floatOfInt .f64 (s + g * ((k : Int) + (q : Int))))] 35)).drew.cell? ((⟨wr.heap.size, 0, none⟩ : Addr).add j) = some u) := fun j u hu => by
        rw [Addr.add_lit, Nat.zero_add]
        have := alloc_at wr (.cells #[.int .i64 (r : Int), .float .f64 (floatOfInt .f64 (s + g * ((k : Int) + (q : Int))))] 35)
        unfold World.cell?
        show (match (wr.alloc _).heap[wr.heap.size]? with | some (.cells c _ _) => c[j]? | _ => none) = some u
        rw [this]
        simpa using hu
      have HU : Hid (∀ u ∈ [Value.int .i64 (r : Int), .float .f64 (floatOfInt .f64 (s + g * ((k : Int) + (q : Int))))], u.oneCell' = true) := fun u hu => by
        rcases List.mem_cons.1 hu with rfl | hu
        · rfl
        · rcases List.mem_cons.1 hu with rfl | hu
          · rfl
          · cases hu
      have HM1 : Hid (k + 1 ≤ maxLen) := by unfold Hid maxLen; omega
      have HM2 : Hid ((k + 1) * 16 ≤ 140737488355328) := by unfold Hid; omega
      have HS1 : Hid (w.heap.size ≤ (wr.alloc (.cells #[.int .i64 (r : Int), .float .f64 (floatOfInt .f64 (s + g * ((k : Int) + (q : Int))))] 35)).drew.heap.size) := by show w.heap.size ≤ (wr.alloc _).heap.size; simp; omega
      go_wp2_with fail
      refine (HP4 _).out.mono ?_
      rintro e w9 ⟨rfl, rfl⟩
      go_wp2_with fail
      go_region_law ((refine step_append_keep rfl (.tmp 29) (.tmp 45) 22 rfl w.heap.size 35 i0 (.agg #[.int .i64 0, .float .f64 0]) 2 16 Try.underlying22 hi hz0 hz1 hz2 rfl (by decide) (.slice vp k vc) k (flatB (inTime n s g k)) rfl HO.out ⟨wr.heap.size, 0, none⟩ 1 1 [.int .i64 (r : Int), .float .f64 (floatOfInt .f64 (s + g * ((k : Int) + (q : Int))))] rfl rfl HC.out HU.out HM1.out HM2.out HS1.out ?_; intro v4 w4 hown4 hgrow4 hblk4))
      have hown5 : Hid (w4.ownsRow w.heap.size 35 2 v4 (k + 1) (flatB (inTime n s g (k + 1)))) := by rw [HE.out, flatB_snoc]; exact hown4
      have hb4 : Below w.heap.size w w4 := ((hbw.alloc hbs _).drew).grown hgrow4 HS1.out (fun x hx => (HO.out.lt x hx).1)
      clear HO HC HU HS1 hown4 hgrow4 hblk4 hown
      go_wp2
      go_roundw
      case rel =>
        have hfin : ∃ j : Nat, j ≤ m ∧ Value.int .i64 ((k : Int) + 1) = .int .i64 j ∧ Hid (w4.ownsRow w.heap.size 35 2 v4 j (flatB (inTime n s g j))) ∧ Below w.heap.size w w4 := ⟨k + 1, by omega, by go_num, hown5, hb4⟩
        first | exact hfin | ((repeat apply Exists.intro); exact ⟨hfin, rfl⟩)
      case measure => simp [intOf]; omega
    · have hlt' : ¬ (k : Int) < 2 + p4 := by rw [HM.out]; omega
      obtain rfl : k = m := by omega
      have hI := HI.out
      have HJ := hide (judge_ok n u9 (inTime n s g k) wr hn1 hn2 (Blows.own hown.out) hI.check (by rw [inTime_length]; omega) hI.judge (fun j hj => by
        rw [inTime_length] at hj
        rw [inTime_at hj]
        have := Nat.mod_lt j (show 0 < n by omega)
        exact ⟨by show (0 : Int) ≤ ((j % n : Nat) : Int); omega, by show ((j % n : Nat) : Int) < (n : Int); omega⟩))
      have hb2 := hI.line.2.1
      have hb3' := hI.line.2.2
      have hc1 : FloatKind.f64.format.order (startOf n (inTime n s g k)) (floatOfInt .f64 s) = some .eq := hb3'.order (FI.fi s (by omega))
      have hc2 : FloatKind.f64.format.order (gapOf n (inTime n s g k)) (floatOfInt .f64 g) = some .eq := hb2.order (FI.fi g (by omega))
      have hc3 : FloatKind.f64.format.order (meanOf n (inTime n s g k)) 0 = some .eq := hI.mean.order FI.zero
      have hc4 : ∀ r, SqrtOf (varOf n (inTime n s g k)) r → FloatKind.f64.format.order r 0 = some .eq := fun r hr => (hI.spread hr).order FI.zero
      have hc5 : ∀ j, FloatKind.f64.format.order (bellMean n (inTime n s g k) j) 0 = some .eq := fun j => (hI.bell j).order FI.zero
      unfold JPost at HJ
      generalize startOf n (inTime n s g k) = start at *
      generalize gapOf n (inTime n s g k) = gap at *
      generalize meanOf n (inTime n s g k) = mean at *
      have HC4 := hide hc4
      have HC5 := hide hc5
      have hbs := hbw.size
      clear hI hb2 hb3' hown hc4 hc5
      go_wp2_with fail
      refine (HP4 _).out.mono ?_
      rintro e w9 ⟨rfl, rfl⟩
      go_wp2_with fail
      refine HJ.out.mono ?_
      rintro e w5 ⟨sp, gb, rfl, hsp, hfl, hgb, hb5⟩
      have hc4 := HC4.out sp hsp
      have hB5 := hbw.trans (hb5.mono hbs)
      have hs5 := hb5.size
      have hgbl : gb < w5.heap.size := (Array.getElem?_eq_some_iff.1 hfl).1
      have HF : Hid (FlsB (w5.alloc (.cells #[.float .f64 start, .float .f64 gap, .float .f64 mean, .float .f64 sp, .slice (some ⟨gb, 0, none⟩) n n] 26)) gb ((List.range n).map (bellMean n (inTime n s g k)))) := (Below.heap_alloc w5 _ gb hgbl).trans hfl
      have hB6 := hB5.alloc (Nat.le_trans hbs hs5) (.cells #[.float .f64 start, .float .f64 gap, .float .f64 mean, .float .f64 sp, .slice (some ⟨gb, 0, none⟩) n n] 26)
      have hS6 := alloc_at w5 (.cells #[.float .f64 start, .float .f64 gap, .float .f64 mean, .float .f64 sp, .slice (some ⟨gb, 0, none⟩) n n] 26)
      have HSS := hide hS6
      clear hsp hfl hb5 hB5 HC4 HJ hS6
      go_wp2
      generalize w5.alloc (.cells #[.float .f64 start, .float .f64 gap, .float .f64 mean, .float .f64 sp, .slice (some ⟨gb, 0, none⟩) n n] 26) = W6 at *
      have hcs : W6.cell? ⟨w5.heap.size, 4, none⟩ = some (.slice (some ⟨gb, 0, none⟩) n n) := by unfold World.cell?; rw [HSS.out]; rfl
      go_loop [13] (fun i => ∃ j : Nat, j ≤ n ∧ i = .int .i64 j) (fun i => n - (intOf i).toNat)
      case atStart => exact ⟨0, by omega, rfl⟩
      case round =>
        obtain ⟨j, hj, rfl⟩ := hrel
        by_cases hjn : j < n
        · have hcb := (FlsB.cell HF.out (j := j) (by simpa using hjn)).1
          have hd : ((List.range n).map (bellMean n (inTime n s g k))).getD j 0 = bellMean n (inTime n s g k) j := by simp [List.getD, hjn]
          have hz := HC5.out j
          rw [hd] at hcb
          clear hd
          generalize bellMean n (inTime n s g k) j = bm at *
          go_wp2
          go_round
          case rel => exact ⟨j + 1, by omega, by go_num⟩
          case measure => simp [intOf]; omega
        · go_wp2
          go_ret
          exact ⟨rfl, hB6⟩

end Go.Proofs.Ythdlomgjmbldfaa
