/- Joined: SbZ, Tri, ScA. -/
import Derived.Test.YtoiiadiimfohiaaJ12
import Derived.BigQuiet
import Derived.Test.YtoiiadiimfohiaaJ3
import Derived.Test.YtoiiadiimfohiaaJ9
import Derived.Test.YtoiiadiimfohiaaJ8
import Derived.Test.YtoiiadiimfohiaaJ7
/- The law TruthSays at a touch that may be. -/
namespace Go.Proofs.Ytoiiadiimfohiaa
open Go.RowKit
set_option maxRecDepth 20000
set_option linter.unusedVariables false

/-- What ByHeads says. -/
def ByAll (one : Bool) (N : List (List Int)) (w : World) (e : Ending) (w' : World) : Prop :=
  ∃ (b : Bool) (eb : Int), e = .returned (.tuple #[.bool b, .int .i64 eb]) ∧ (one = true → eb = 0 ∧ (b = true ↔ N.Nodup)) ∧ (one = false → eb = 11 ∧ b = false) ∧ Below w.heap.size w w'

theorem headsOf_at (T : List (List Int)) {k N j : Nat} (h : j < N) : (headsOf T k N).getD j [] = T.getD (j * k) [] := by
  simp [headsOf, List.getD, h]

set_option maxHeartbeats 8000000 in
theorem truthSays_good (s : ByteArray) (n : Nat) (vp : Option Addr) (vc : Nat) (ts : List (List Bool)) (cv : Value) (cs : List (Int × List (List Int))) (SS : List (List (List Bool))) (lp : Option Addr) (lc : Nat) (t : List Nat) (w : World) (h : Tch w s n vp vc ts cv cs SS lp lc t) (hK40 : ts.length ≤ 40) :
    Calls Try.prog 3 #[.agg #[.string s, .int .i64 n, .slice vp ts.length vc], cv, .slice lp t.length lc] w fun e w' => e = .returned (.bool true) ∧ Below w.heap.size w w' := by
  obtain ⟨one, hone⟩ : ∃ one : Bool, one = true ↔ ∀ c, c ∈ t → (SS.getD c []).length ≤ 1 := ⟨decide (∀ c, c ∈ t → (SS.getD c []).length ≤ 1), by simp⟩
  have HBY : Hid (∀ W, Below w.heap.size w W → Calls Try.prog 10 #[meth s n (.slice vp ts.length vc), cv, .slice lp t.length lc] W (ByAll one ((tRow n ts SS t).take (t.length * ts.length)) W)) := fun W hW => by
    by_cases h9 : ∀ c, c ∈ t → (SS.getD c []).length ≤ 1
    · have ho : one = true := hone.2 h9
      subst ho
      refine ((h.below hW).byOne h9).mono ?_
      rintro e w' ⟨q, rfl, hq, hb⟩
      exact ⟨q, 0, rfl, fun _ => ⟨rfl, hq⟩, (fun h => by cases h), hb⟩
    · have ho : one = false := by
        cases h8 : one with
        | false => rfl
        | true => exact absurd (hone.1 h8) h9
      subst ho
      have h10 : ∃ c, c ∈ t ∧ 1 < (SS.getD c []).length := by
        apply Classical.byContradiction
        intro hn
        exact h9 (fun c hc => by
          rcases Nat.lt_or_ge 1 (SS.getD c []).length with h8 | h8
          · exact absurd ⟨c, hc, h8⟩ hn
          · exact h8)
      refine ((h.below hW).byLong h10).mono ?_
      rintro e w' ⟨rfl, hb⟩
      exact ⟨false, 11, rfl, (fun h => by cases h), fun _ => ⟨rfl, rfl⟩, hb⟩
  have HONE := hide hone
  have HMY := hide (fun W (hW : Below w.heap.size w W) => (h.below hW).may)
  have HMM := hide (fun W (hW : Below w.heap.size w W) => (h.below hW).mmay)
  have HPR := hide (fun W (hW : Below w.heap.size w W) => (h.below hW).prove)
  have HRP := hide (fun W (hW : Below w.heap.size w W) => (h.below hW).rprove)
  have HHD := hide (fun W (hW : Below w.heap.size w W) => (h.below hW).heads)
  have HFA := hide (fun W (hW : Below w.heap.size w W) => (h.below hW).fals)
  have HRF := hide (fun W (hW : Below w.heap.size w W) => (h.below hW).rfals)
  have HRR := hide (fun W (hW : Below w.heap.size w W) => (h.below hW).rrows)
  unfold meth at HPR HHD HFA HBY
  have HTL := hide (tRow_length n ts SS t)
  have HRW := hide h.rws
  have HLR := hide (ldr_rows h.tz)
  have hn1 := h.n1
  have hn2 := h.n2
  have hT1 := h.t1
  have hT2 := h.t2
  have hK1 := h.l1
  have hC2 := h.c2
  have HLA := hide h.lat
  have HCA := hide h.cat
  have HTI := hide h.tin
  have HCS := hide h.css
  have HT0 : Hid ((tRow n ts SS t).getD 0 [] = rnd n) := by
    show _ = _
    unfold tRow
    rw [leadTo_get (Nat.zero_le _), List.take_zero]
    rfl
  obtain ⟨cb, co, cc, hcve, hcb, hcc1, hcc2, hccell⟩ := h.cat
  subst hcve
  have HCC := hide hccell
  clear h hone hccell
  obtain ⟨C, hC⟩ : ∃ C, Hid (cs.length = C) := ⟨_, rfl⟩
  obtain ⟨K, hK⟩ : ∃ K, Hid (ts.length = K) := ⟨_, rfl⟩
  obtain ⟨T, hT⟩ : ∃ T, Hid (t.length = T) := ⟨_, rfl⟩
  rw [hC.out] at HMY HPR HRP HHD HRR HBY hC2 hcc1 HTI HCC ⊢
  rw [hK.out] at HMY HMM HPR HRP HHD HFA HRF HRR HBY HTL hK1 hK40 ⊢
  rw [hT.out] at HMY HPR HRP HHD HRR HBY HTL hT1 hT2 HLA ⊢
  have HLC : Hid (∀ k, k < T → ∃ lb lo, lp = some ⟨lb, lo, none⟩ ∧ T ≤ lc ∧ lc ≤ 9223372036854775807 ∧ lb < w.heap.size ∧ t.getD k 0 < C ∧ t.getD k 0 ∈ t ∧ w.cell? ⟨lb, lo + k, none⟩ = some (.int .i64 ((t.getD k 0 : Nat) : Int))) := fun k hk => by
    have hkt : k < t.length := by rw [hT.out]; exact hk
    have hmem : t.getD k 0 ∈ t := by simp [List.getD, hkt]
    have hcC : t.getD k 0 < C := HTI.out _ hmem
    rcases HLA.out with ⟨e, _⟩ | ⟨b, off, cap, e, h0, h1', h2', h3', hc⟩
    · exfalso
      have : t = [] := by simpa [nI] using e
      rw [this] at hkt
      simp at hkt
    · injection e with e1 e2 e3
      subst e3
      refine ⟨b, off, e1, by omega, h2', h3', hcC, hmem, ?_⟩
      rw [hc k (by simp [nI]; exact hkt)]
      simp [nI, List.getD, hkt]
  have HLN : Hid (∀ c, c ∈ t → (cs.getD c (0, [])).2.length = (SS.getD c []).length) := fun c hc => by
    rw [(HCS.out c (by rw [hC.out]; exact HTI.out c hc)).1, List.length_map]
  have HB0 := hide ((Below.refl w.heap.size w).alloc (Nat.le_refl _) (mbox s n (.slice vp K vc)))
  obtain ⟨d0, d1, d2⟩ := mbox_cells w s n (.slice vp K vc)
  have g1 : ¬ 12 < (C : Int) := by omega
  have g2 : ¬ 60 < (T : Int) := by omega
  have g3 : ¬ 500 < (T : Int) := by omega
  have g4 : ¬ 40 < (K : Int) := by omega
  generalize hLe : T * K = L at *
  have HLE := hide hLe
  generalize hRt : tRow n ts SS t = R at *
  clear hLe hRt HLA HCA HTI HCS
  generalize hLd : ldr n ts = Ld at *
  have HLD := hide hLd
  clear hLd
  go_enter Try.func3, Try.ntmps3
  go_wp2_with fail
  refine (HMY.out _ HB0.out).mono ?_
  rintro e w1 ⟨rfl, hb1⟩
  have x1 : ∀ j, w1.cell? ⟨w.heap.size, j, none⟩ = (w.alloc (mbox s n (.slice vp K vc))).cell? ⟨w.heap.size, j, none⟩ := fun j => hb1.cell (p := ⟨w.heap.size, j, none⟩) (by simp)
  have hs0 : w.heap.size < w1.heap.size := Nat.lt_of_lt_of_le (by simp) hb1.size
  have m0 := (x1 0).trans d0
  have m1 := (x1 1).trans d1
  have m2 := (x1 2).trans d2
  have HB1 := hide (HB0.out.trans (hb1.mono HB0.out.size))
  clear hb1 x1 d0 d1 d2 HB0 HMY
  go_wp2_with fail
  refine (HPR.out _ HB1.out).mono ?_
  rintro e w2 ⟨r, q, i, j, rfl, hdup, hr, hb2⟩
  have HDUP := hide hdup
  have HRR2 := hide hr
  have hbA2 : Below w1.heap.size w1 (w2.alloc (repC L r q i j)) := hb2.alloc hb2.size _
  have x2 : ∀ j', (w2.alloc (repC L r q i j)).cell? ⟨w.heap.size, j', none⟩ = w1.cell? ⟨w.heap.size, j', none⟩ := fun j' => hbA2.cell (p := ⟨w.heap.size, j', none⟩) hs0
  have n0 := (x2 0).trans m0
  have n1 := (x2 1).trans m1
  have n2 := (x2 2).trans m2
  have HB2 := hide (HB1.out.trans (hbA2.mono HB1.out.size))
  have HN2 := hide (heap_alloc_new w2 (repC L r q i j))
  have hsz2 : w2.heap.size < (w2.alloc (repC L r q i j)).heap.size := by simp
  have hs2 : w.heap.size < w2.heap.size := Nat.lt_of_lt_of_le hs0 hb2.size
  clear hdup hr hb2 hbA2 x2 m0 m1 m2 HB1 HPR
  go_wp2_with fail
  refine (HHD.out _ HB2.out).mono ?_
  rintro e w3 ⟨hd, hvs, rfl, hL3, hb3⟩
  change Below (w2.alloc (repC L r q i j)).heap.size (w2.alloc (repC L r q i j)) w3 at hb3
  have HK3 := hide ((hb3.block w2.heap.size hsz2).trans HN2.out)
  have x3 : ∀ j', w3.cell? ⟨w.heap.size, j', none⟩ = (w2.alloc (repC L r q i j)).cell? ⟨w.heap.size, j', none⟩ := fun j' => hb3.cell (p := ⟨w.heap.size, j', none⟩) (by show w.heap.size < _; omega)
  have m0 := (x3 0).trans n0
  have m1 := (x3 1).trans n1
  have m2 := (x3 2).trans n2
  have HB3 := hide (HB2.out.trans (hb3.mono HB2.out.size))
  have HH3 := hide hL3.ints
  have hhl : hvs.length = T := by rw [hL3.len, headsOf_length]
  obtain ⟨hp, hc, rfl⟩ := owns_slice hL3.row
  rw [hhl] at HH3 ⊢
  have hs3 : w2.heap.size < w3.heap.size := Nat.lt_of_lt_of_le hsz2 hb3.size
  clear hL3 hb3 x3 n0 n1 n2 HB2 HHD HN2 hsz2 hhl
  go_wp2_with fail
  refine (HBY.out _ HB3.out).mono ?_
  rintro e w4 ⟨b, eb, rfl, hby1, hby2, hb4⟩
  have HY1 := hide hby1
  have HY2 := hide hby2
  have x4 : ∀ j', w4.cell? ⟨w.heap.size, j', none⟩ = w3.cell? ⟨w.heap.size, j', none⟩ := fun j' => hb4.cell (p := ⟨w.heap.size, j', none⟩) (by show w.heap.size < _; omega)
  have n0 := (x4 0).trans m0
  have n1 := (x4 1).trans m1
  have n2 := (x4 2).trans m2
  have HB4 := hide (HB3.out.trans (hb4.mono HB3.out.size))
  have HK4 := hide ((hb4.block w2.heap.size hs3).trans HK3.out)
  have HH4 := hide (HH3.out.below hb4)
  have hs4 : w2.heap.size < w4.heap.size := Nat.lt_of_lt_of_le hs3 hb4.size
  clear hby1 hby2 hb4 x4 m0 m1 m2 HB3 HK3 HH3 HBY hs3
  go_wp2_with fail
  refine (HFA.out _ HB4.out).mono ?_
  rintro e w5 ⟨u5, vs5, X5, t5, rfl, hpm5, hL5, hnd5, hb5⟩
  have HPM5 := hide hpm5
  rw [HLD.out] at HPM5 hnd5
  have HND5 := hide hnd5
  have HI5 := hide hL5.ints
  have hl5 : vs5.length = X5.length := hL5.len
  obtain ⟨p5, c5, rfl⟩ := owns_slice hL5.row
  rw [hl5] at HI5 ⊢
  have x5 : ∀ j', w5.cell? ⟨w.heap.size, j', none⟩ = w4.cell? ⟨w.heap.size, j', none⟩ := fun j' => hb5.cell (p := ⟨w.heap.size, j', none⟩) (by show w.heap.size < _; omega)
  have m0 := (x5 0).trans n0
  have m1 := (x5 1).trans n1
  have m2 := (x5 2).trans n2
  have HB5 := hide (HB4.out.trans (hb5.mono HB4.out.size))
  have HK5 := hide ((hb5.block w2.heap.size hs4).trans HK4.out)
  have HH5 := hide (HH4.out.below hb5)
  have hs5 : w2.heap.size < w5.heap.size := Nat.lt_of_lt_of_le hs4 hb5.size
  clear hpm5 hnd5 hL5 hl5 hb5 x5 n0 n1 n2 HB4 HK4 HH4 HFA hs4
  go_wp2_with fail
  refine (HMM.out _ HB5.out).mono ?_
  rintro e w6 ⟨rfl, hb6⟩
  have x6 : ∀ j', w6.cell? ⟨w.heap.size, j', none⟩ = w5.cell? ⟨w.heap.size, j', none⟩ := fun j' => hb6.cell (p := ⟨w.heap.size, j', none⟩) (by show w.heap.size < _; omega)
  have n0 := (x6 0).trans m0
  have n1 := (x6 1).trans m1
  have n2 := (x6 2).trans m2
  have HB6 := hide (HB5.out.trans (hb6.mono HB5.out.size))
  have HK6 := hide ((hb6.block w2.heap.size hs5).trans HK5.out)
  have HH6 := hide (HH5.out.below hb6)
  have HI6 := hide (HI5.out.below hb6)
  have hs6 : w2.heap.size < w6.heap.size := Nat.lt_of_lt_of_le hs5 hb6.size
  clear hb6 x6 m0 m1 m2 HB5 HK5 HH5 HI5 HMM hs5
  go_wp2_with fail
  refine (HRF.out _ HB6.out).mono ?_
  rintro e w7 ⟨u7, X7, t7, rfl, hI7, hnd7, hri7, hme7, hb7⟩
  have htt : t7 = t5 := by
    have h9 := hnd7.trans HND5.out.symm
    cases t5 <;> cases t7 <;> simp_all
  have hXX : X5 = X7 := by
    obtain ⟨pm, so⟩ := HPM5.out
    have hf := hdsTo_fact n (pr Ld)
    have hr5 : Ris X5 := so.imp (fun {a b} h => by rw [blw_lcmp]; exact decide_eq_false (Int.not_lt.2 h))
    refine rising_eq (hr5.rising (pm.nodup_iff.2 hf.1)) hri7 (fun x => ?_)
    rw [pm.mem_iff, hme7]
    exact hf.2.1 x
  subst htt hXX
  have x7 : ∀ j', w7.cell? ⟨w.heap.size, j', none⟩ = w6.cell? ⟨w.heap.size, j', none⟩ := fun j' => hb7.cell (p := ⟨w.heap.size, j', none⟩) (by show w.heap.size < _; omega)
  have m0 := (x7 0).trans n0
  have m1 := (x7 1).trans n1
  have m2 := (x7 2).trans n2
  have HB7 := hide (HB6.out.trans (hb7.mono HB6.out.size))
  have HK7 := hide ((hb7.block w2.heap.size hs6).trans HK6.out)
  have HH7 := hide (HH6.out.below hb7)
  have HSA0 := hide (sameAll_any _ _ _ _ w7 (HI6.out.below hb7) hI7)
  have HSA : Hid (Calls Try.prog 14 #[.slice p5 X5.length c5, u7] w7 fun e w' => e = .returned (.bool true) ∧ Below w7.heap.size w7 w') := HSA0.out.mono (fun e w' h => ⟨h.1.trans (by simp), h.2⟩)
  obtain ⟨p7, c7, rfl⟩ := hI7.len
  have hs7 : w2.heap.size < w7.heap.size := Nat.lt_of_lt_of_le hs6 hb7.size
  clear hI7 hnd7 hri7 hme7 hb7 x7 n0 n1 n2 HB6 HK6 HH6 HI6 HRF HPM5 HND5 HSA0 hs6
  go_wp2_with fail
  refine HSA.out.mono ?_
  rintro e w8 ⟨rfl, hb8⟩
  have x8 : ∀ j', w8.cell? ⟨w.heap.size, j', none⟩ = w7.cell? ⟨w.heap.size, j', none⟩ := fun j' => hb8.cell (p := ⟨w.heap.size, j', none⟩) (by show w.heap.size < _; omega)
  have n0 := (x8 0).trans m0
  have n1 := (x8 1).trans m1
  have n2 := (x8 2).trans m2
  have HB8 := hide (HB7.out.trans (hb8.mono HB7.out.size))
  have HK8 := hide ((hb8.block w2.heap.size hs7).trans HK7.out)
  have HH8 := hide (HH7.out.below hb8)
  have hs8 : w2.heap.size < w8.heap.size := Nat.lt_of_lt_of_le hs7 hb8.size
  have htn : (t7 != t7) = false := by simp
  clear hb8 x8 m0 m1 m2 HB7 HK7 HH7 HSA hs7
  go_wp2_with fail
  refine (HRP.out _ HB8.out).mono ?_
  rintro e w9 ⟨r9, q9, i9, j9, rfl, hdup9, hr9, hb9⟩
  obtain ⟨rfl, rfl, rfl⟩ := Dup.unique (by rw [HTL.out]; omega) HDUP.out hdup9
  have hrr : r9 = r := by
    rw [Bool.eq_iff_iff, hr9, HRR2.out, HT0.out]
    simp
  subst hrr
  have hbA9 : Below w8.heap.size w8 (w9.alloc (repC L r9 q i j)) := hb9.alloc hb9.size _
  have x9 : ∀ j', (w9.alloc (repC L r9 q i j)).cell? ⟨w.heap.size, j', none⟩ = w8.cell? ⟨w.heap.size, j', none⟩ := fun j' => hbA9.cell (p := ⟨w.heap.size, j', none⟩) (by show w.heap.size < _; omega)
  have m0 := (x9 0).trans n0
  have m1 := (x9 1).trans n1
  have m2 := (x9 2).trans n2
  have HB9 := hide (HB8.out.trans (hbA9.mono HB8.out.size))
  have HN9 := hide (heap_alloc_new w9 (repC L r9 q i j))
  have HK9 := hide ((hbA9.block w2.heap.size hs8).trans HK8.out)
  have HH9 := hide (HH8.out.below hbA9)
  have hs9 : w9.heap.size < (w9.alloc (repC L r9 q i j)).heap.size := by simp
  have hs9' : w2.heap.size < w9.heap.size := Nat.lt_of_lt_of_le hs8 hb9.size
  clear hdup9 hr9 hb9 hbA9 x9 n0 n1 n2 HB8 HK8 HH8 HRP HRR2 HT0 hs8
  go_wp2_with fail
  refine (HRR.out _ HB9.out).mono ?_
  rintro e wa ⟨rv, rvs, rfl, hLa, hba⟩
  change Below (w9.alloc (repC L r9 q i j)).heap.size (w9.alloc (repC L r9 q i j)) wa at hba
  have xa : ∀ j', wa.cell? ⟨w.heap.size, j', none⟩ = (w9.alloc (repC L r9 q i j)).cell? ⟨w.heap.size, j', none⟩ := fun j' => hba.cell (p := ⟨w.heap.size, j', none⟩) (by show w.heap.size < _; omega)
  have n2 := (xa 2).trans m2
  have HBa := hide (HB9.out.trans (hba.mono HB9.out.size))
  have HNa := hide ((hba.block w9.heap.size hs9).trans HN9.out)
  have HKa := hide ((hba.block w2.heap.size (by omega)).trans HK9.out)
  have HHa := hide (HH9.out.below hba)
  have HRa := hide hLa.ints
  have hrl : rvs.length = L + 1 := by rw [hLa.len, HTL.out]
  obtain ⟨rp, rc, rfl⟩ := owns_slice hLa.row
  rw [hrl] at ⊢
  have hRl : R.length = L + 1 := HTL.out
  have HRc := hRl
  have hsa : w9.heap.size < wa.heap.size := Nat.lt_of_lt_of_le hs9 hba.size
  clear hLa hba xa m0 m1 m2 HB9 HK9 HH9 HN9 HRR
  obtain ⟨hb', ho', hcp, hhe, hhb, hh1, hh2, hhcell⟩ := HHa.out.cell (by rw [headsOf_length]; exact hT1)
  rw [headsOf_length] at hhe hh1 hhcell
  simp only [Value.slice.injEq] at hhe
  obtain ⟨rfl, _, rfl⟩ := hhe
  have HHC := hide hhcell
  obtain ⟨rb, ro, rcp, hre, hrb, hr1, hr2, hrcell⟩ := HRa.out.cell (by rw [hRl]; omega)
  rw [hRl, hrl] at hre
  rw [hRl] at hr1 hrcell
  simp only [Value.slice.injEq] at hre
  obtain ⟨rfl, _, rfl⟩ := hre
  have HRC := hide hrcell
  have HRl := hide hRl
  clear hhcell hrcell HHa HRa hRl HRc hrl
  have HKa2 := HKa
  go_wp2
  go_loopw [21] (fun iv wr => ∃ k : Nat, k ≤ T ∧ iv = .int .i64 k ∧ Hid (Below wa.heap.size wa wr)) (fun iv _ => T - (intOf iv).toNat)
  case atStart => exact ⟨0, by omega, rfl, Below.refl _ _⟩
  case round =>
    obtain ⟨k, hk, rfl, hbr⟩ := hrel
    have hbs := hbr.out.size
    have n2' := (hbr.out.cell (p := ⟨w.heap.size, 2, none⟩) (by show w.heap.size < _; omega)).trans n2
    by_cases hkT : k < T
    · have hkK : k * K ≤ T * K := Nat.mul_le_mul_right K hk
      rw [HLE.out] at hkK
      have hLb : L ≤ 2400 := by rw [← HLE.out]; exact Nat.mul_le_mul hT2 hK40
      obtain ⟨xp, xc, hcx, hix⟩ := HHC.out k hkT
      obtain ⟨yp, yc, hcy, hiy⟩ := HRC.out (k * K) (by omega)
      have hhe9 := headsOf_at R (k := K) hkT
      rw [hhe9] at hcx hix
      have gx := (hbr.out.cell (p := ⟨hb', ho' + k, none⟩) hhb).trans hcx
      have gy := (hbr.out.cell (p := ⟨rb, ro + k * K, none⟩) hrb).trans hcy
      have HSM : Hid (∀ W, Below wr.heap.size wr W → Calls Try.prog 17 #[.slice xp (R.getD (k * K) []).length xc, .slice yp (R.getD (k * K) []).length yc] W fun e w' => e = .returned (.bool true) ∧ Below W.heap.size W w') := fun W hW => (same_any _ _ _ _ W ((hix.out.below hbr.out).below hW) ((hiy.out.below hbr.out).below hW)).mono (fun e w' h => ⟨h.1.trans (by simp), h.2⟩)
      obtain ⟨m, hm⟩ : ∃ m, Hid (k * K = m) := ⟨_, rfl⟩
      have hmi : (k : Int) * (K : Int) = (m : Int) := by rw [← hm.out]; exact (Int.natCast_mul k K).symm
      have hmw : IntKind.i64.wrap (m : Int) = (m : Int) := by rw [IntKind.wrap_i64]; have := hm.out; omega
      rw [hm.out] at gx gy HSM hkK
      have hmL : m < L + 1 := by omega
      have hmLi : (m : Int) < ((L + 1 : Nat) : Int) := by omega
      generalize (R.getD m []).length = xn at *
      have hTT : ((T : Int) != (T : Int)) = false := by simp
      have hbw : hb' < wr.heap.size := Nat.lt_of_lt_of_le hhb hbs
      have hbw2 : rb < wr.heap.size := Nat.lt_of_lt_of_le hrb hbs
      have hbw3 : w.heap.size < wr.heap.size := by omega
      clear hcx hcy hix hiy hhe9
      go_upto_region 23 with fail
      refine wp_region_held_drew (S := fun W' => W'.cell? ⟨hb', ho' + k, none⟩ = some (.slice xp xn xc) ∧ W'.cell? ⟨rb, ro + m, none⟩ = some (.slice yp xn yc) ∧ W'.cell? ⟨w.heap.size, 2, none⟩ = some (.slice vp K vc)) (by kernel_rfl) ⟨gx, gy, n2'⟩ (fun hS => ?_)
      refine wpAnyH_take (i := 0) (v := .slice (some ⟨hb', ho', none⟩) T hc) rfl (by kernel_rfl) (by kernel_rfl) (by kernel_rfl) (fun _ _ _ h => h) (Or.inl ⟨by kernel_rfl, fun w' hS' => by obtain ⟨q0, q1, q2⟩ := hS'; go_simp⟩) hS ?_
      refine wpAnyH_take (i := 1) (v := .int .i64 T) rfl (by kernel_rfl) (by kernel_rfl) (by kernel_rfl) (fun _ _ _ h => h) (Or.inl ⟨by kernel_rfl, fun w' hS' => by obtain ⟨q0, q1, q2⟩ := hS'; go_simp⟩) hS ?_
      refine wpAnyH_take (i := 2) (v := .slice lp T lc) rfl (by kernel_rfl) (by kernel_rfl) (by kernel_rfl) (fun _ _ _ h => h) (Or.inl ⟨by kernel_rfl, fun w' hS' => by obtain ⟨q0, q1, q2⟩ := hS'; go_simp⟩) hS ?_
      refine wpAnyH_take (i := 3) (v := .int .i64 T) rfl (by kernel_rfl) (by kernel_rfl) (by kernel_rfl) (fun _ _ _ h => h) (Or.inl ⟨by kernel_rfl, fun w' hS' => by obtain ⟨q0, q1, q2⟩ := hS'; go_simp⟩) hS ?_
      refine wpAnyH_take (i := 4) (v := .bool false) rfl (by kernel_rfl) (by kernel_rfl) (by kernel_rfl) (fun _ _ _ h => h) (Or.inl ⟨by kernel_rfl, fun w' hS' => by obtain ⟨q0, q1, q2⟩ := hS'; go_simp⟩) hS ?_
      refine wpAnyH_take (i := 5) (v := .bool false) rfl (by kernel_rfl) (by kernel_rfl) (by kernel_rfl) (fun _ _ _ h => h) (Or.inl ⟨by kernel_rfl, fun w' hS' => by obtain ⟨q0, q1, q2⟩ := hS'; go_simp⟩) hS ?_
      refine wpAnyH_take (i := 6) (v := .slice (some ⟨hb', ho', none⟩) T hc) rfl (by kernel_rfl) (by kernel_rfl) (by kernel_rfl) (fun _ _ _ h => h) (Or.inl ⟨by kernel_rfl, fun w' hS' => by obtain ⟨q0, q1, q2⟩ := hS'; go_simp⟩) hS ?_
      refine wpAnyH_take (i := 7) (v := .int .i64 k) rfl (by kernel_rfl) (by kernel_rfl) (by kernel_rfl) (fun _ _ _ h => h) (Or.inl ⟨by kernel_rfl, fun w' hS' => by obtain ⟨q0, q1, q2⟩ := hS'; go_simp⟩) hS ?_
      refine wpAnyH_take (i := 8) (v := .pointer (some ⟨hb', ho' + k, none⟩)) rfl (by kernel_rfl) (by kernel_rfl) (by kernel_rfl) (fun _ _ _ h => h) (Or.inl ⟨by kernel_rfl, fun w' hS' => by obtain ⟨q0, q1, q2⟩ := hS'; go_simp; (try omega)⟩) hS ?_
      refine wpAnyH_take (i := 9) (v := .slice xp xn xc) rfl (by kernel_rfl) (by kernel_rfl) (by kernel_rfl) (fun _ _ _ h => h) (Or.inl ⟨by kernel_rfl, fun w' hS' => by obtain ⟨q0, q1, q2⟩ := hS'; go_simp⟩) hS ?_
      refine wpAnyH_take (i := 10) (v := .slice (some ⟨rb, ro, none⟩) (L + 1) rc) rfl (by kernel_rfl) (by kernel_rfl) (by kernel_rfl) (fun _ _ _ h => h) (Or.inl ⟨by kernel_rfl, fun w' hS' => by obtain ⟨q0, q1, q2⟩ := hS'; go_simp⟩) hS ?_
      refine wpAnyH_take (i := 11) (v := .int .i64 k) rfl (by kernel_rfl) (by kernel_rfl) (by kernel_rfl) (fun _ _ _ h => h) (Or.inl ⟨by kernel_rfl, fun w' hS' => by obtain ⟨q0, q1, q2⟩ := hS'; go_simp⟩) hS ?_
      refine wpAnyH_take (i := 12) (v := .pointer (some ⟨w.heap.size, 2, none⟩)) rfl (by kernel_rfl) (by kernel_rfl) (by kernel_rfl) (fun _ _ _ h => h) (Or.inl ⟨by kernel_rfl, fun w' hS' => by obtain ⟨q0, q1, q2⟩ := hS'; go_simp⟩) hS ?_
      refine wpAnyH_take (i := 13) (v := .slice vp K vc) rfl (by kernel_rfl) (by kernel_rfl) (by kernel_rfl) (fun _ _ _ h => h) (Or.inl ⟨by kernel_rfl, fun w' hS' => by obtain ⟨q0, q1, q2⟩ := hS'; go_simp⟩) hS ?_
      refine wpAnyH_take (i := 14) (v := .int .i64 K) rfl (by kernel_rfl) (by kernel_rfl) (by kernel_rfl) (fun _ _ _ h => h) (Or.inl ⟨by kernel_rfl, fun w' hS' => by obtain ⟨q0, q1, q2⟩ := hS'; go_simp⟩) hS ?_
      refine wpAnyH_take (i := 15) (v := .int .i64 m) rfl (by kernel_rfl) (by kernel_rfl) (by kernel_rfl) (fun _ _ _ h => h) (Or.inl ⟨by kernel_rfl, fun w' hS' => by obtain ⟨q0, q1, q2⟩ := hS'; go_simp; (try (rw [IntKind.wrap_i64]; omega))⟩) hS ?_
      refine wpAnyH_take (i := 16) (v := .pointer (some ⟨rb, ro + m, none⟩)) rfl (by kernel_rfl) (by kernel_rfl) (by kernel_rfl) (fun _ _ _ h => h) (Or.inl ⟨by kernel_rfl, fun w' hS' => by obtain ⟨q0, q1, q2⟩ := hS'; go_simp; (try omega)⟩) hS ?_
      refine wpAnyH_take (i := 17) (v := .slice yp xn yc) rfl (by kernel_rfl) (by kernel_rfl) (by kernel_rfl) (fun _ _ _ h => h) (Or.inl ⟨by kernel_rfl, fun w' hS' => by obtain ⟨q0, q1, q2⟩ := hS'; go_simp⟩) hS ?_
      refine wpAnyH_ready (rs := [18]) (by kernel_rfl) (by simp) ?_
      refine AllReadyH.cons rfl (fun K9 hK9 => ?_) AllReadyH.nil
      go_simp
      have hdr : Below wr.heap.size wr wr.drew := (Below.refl _ _).drew
      refine (HSM.out wr.drew hdr).mono ?_
      rintro e w4' ⟨rfl, hb4⟩
      have hb4' : Below wr.heap.size wr w4' := hdr.trans hb4
      refine hK9.out _ _ ⟨(hb4'.cell (p := ⟨hb', ho' + k, none⟩) hbw).trans gx, (hb4'.cell (p := ⟨rb, ro + m, none⟩) hbw2).trans gy, (hb4'.cell (p := ⟨w.heap.size, 2, none⟩) hbw3).trans n2'⟩ (fun hS => ?_)
      clear hK9
      refine wpAnyH_take (i := 19) (v := .bool false) rfl (by kernel_rfl) (by kernel_rfl) (by kernel_rfl) (fun _ _ _ h => h) (Or.inl ⟨by kernel_rfl, fun w' hS' => by obtain ⟨q0, q1, q2⟩ := hS'; go_simp⟩) hS ?_
      refine wpAnyH_take (i := 20) (v := .bool false) rfl (by kernel_rfl) (by kernel_rfl) (by kernel_rfl) (fun _ _ _ h => h) (Or.inl ⟨by kernel_rfl, fun w' hS' => by obtain ⟨q0, q1, q2⟩ := hS'; go_simp⟩) hS ?_
      refine wpAnyH_done (by kernel_rfl) ?_ _
      have HBX := hide (hbr.out.trans (hb4'.mono hbs))
      clear hS gx gy n2' HSM hb4 hb4' hdr hbr hmi hmw hmLi
      go_wp2
      go_roundw
      case rel => exact ⟨k + 1, by omega, by go_num, HBX⟩
      case measure => simp [intOf]; omega
    · obtain rfl : k = T := by omega
      have HKr := hide ((hbr.out.block w2.heap.size (by omega)).trans HKa.out)
      have HNr := hide ((hbr.out.block w9.heap.size (by omega)).trans HNa.out)
      have HBr := hide (HBa.out.trans (hbr.out.mono HBa.out.size))
      have HCr : Hid (∀ c, c < C → ∃ u : Option Addr × Nat, wr.cell? ⟨cb, co + c * 2, none⟩ = some (.int .i32 (cs.getD c (0, [])).1) ∧ wr.cell? ⟨cb, co + c * 2 + 1, none⟩ = some (.slice u.1 (cs.getD c (0, [])).2.length u.2)) := fun c hc => by
        obtain ⟨u, a1, a2, a3⟩ := HCC.out c hc
        obtain ⟨p, c', e⟩ := a3.len
        refine ⟨(p, c'), (HBr.out.cell (p := ⟨cb, co + c * 2, none⟩) hcb).trans a1, ?_⟩
        rw [e] at a2
        exact (HBr.out.cell (p := ⟨cb, co + c * 2 + 1, none⟩) hcb).trans a2
      have HLr : Hid (∀ j, j < k → ∃ lb lo, lp = some ⟨lb, lo, none⟩ ∧ k ≤ lc ∧ lc ≤ 9223372036854775807 ∧ t.getD j 0 < C ∧ t.getD j 0 ∈ t ∧ wr.cell? ⟨lb, lo + j, none⟩ = some (.int .i64 ((t.getD j 0 : Nat) : Int))) := fun j hj => by
        obtain ⟨lb, lo, e, h1, h2, h3, h4, h5, h6⟩ := HLC.out j hj
        exact ⟨lb, lo, e, h1, h2, h4, h5, (HBr.out.cell (p := ⟨lb, lo + j, none⟩) h3).trans h6⟩
      clear hbr HHC HRC HKa HNa HBa HLC HCC n2 n2' HTL HRW HLR HLE HKa2
      generalize wr = wz at *
      go_wp2
      go_loop [22, 23] (fun ov kv => ∃ (o : Bool) (m : Nat), m ≤ k ∧ ov = .bool o ∧ kv = .int .i64 m ∧ Hid (o = true ↔ ∀ j, j < m → (SS.getD (t.getD j 0) []).length ≤ 1)) (fun _ kv => k - (intOf kv).toNat)
      case atStart => exact ⟨true, 0, by omega, rfl, rfl, ⟨fun _ j hj => absurd hj (by omega), fun _ => rfl⟩⟩
      case round =>
        obtain ⟨o, m, hm, rfl, rfl, ho⟩ := hrel
        by_cases hmk : m < k
        · obtain ⟨lb, lo, rfl, hl1, hl2, hcC, hcm, hcl⟩ := HLr.out m hmk
          obtain ⟨⟨up, uc⟩, a1, a2⟩ := HCr.out (t.getD m 0) hcC
          have hln := HLN.out _ hcm
          have HST : Hid (∀ o' : Bool, (o' = true ↔ o = true ∧ (SS.getD (t.getD m 0) []).length ≤ 1) → (o' = true ↔ ∀ j, j < m + 1 → (SS.getD (t.getD j 0) []).length ≤ 1)) := fun o' h' => by
            rw [h', ho.out]
            constructor
            · rintro ⟨h8, h9⟩ j hj
              rcases Nat.lt_succ_iff_lt_or_eq.1 hj with h | h
              · exact h8 j h
              · rw [h]; exact h9
            · intro h8
              exact ⟨fun j hj => h8 j (by omega), h8 m (by omega)⟩
          rw [hln] at a2
          clear hln hcm ho
          generalize t.getD m 0 = c at *
          generalize (SS.getD c []).length = ul at *
          have hcCi : (c : Int) < (C : Int) := by omega
          cases o with
          | false =>
            have HF := hide (HST.out false (by simp))
            clear HST
            go_wp2
            go_round
            case rel => exact ⟨false, m + 1, by omega, rfl, by go_num, HF⟩
            case measure => simp [intOf]; omega
          | true =>
            by_cases hul : ul ≤ 1
            · have HF := hide (HST.out true (by simp [hul]))
              have hui : (ul : Int) < 2 := by omega
              have hud : decide ((ul : Int) < 2) = true := decide_eq_true hui
              have hud2 : decide (ul < 2) = true := decide_eq_true (by omega)
              clear HST
              go_wp2
              go_round
              case rel => exact ⟨true, m + 1, by omega, rfl, by go_num, HF⟩
              case measure => simp [intOf]; omega
            · have HF := hide (HST.out false (by simp [hul]))
              have hui : ¬ (ul : Int) < 2 := by omega
              have hud : decide ((ul : Int) < 2) = false := decide_eq_false hui
              have hud2 : decide (ul < 2) = false := decide_eq_false (by omega)
              clear HST
              go_wp2
              go_round
              case rel => exact ⟨false, m + 1, by omega, rfl, by go_num, HF⟩
              case measure => simp [intOf]; omega
        · obtain rfl : m = k := by omega
          have hoo : o = one := by
            rw [Bool.eq_iff_iff, ho.out, HONE.out]
            constructor
            · intro h9 c hc
              obtain ⟨j, hj, e⟩ := List.getElem_of_mem hc
              have := h9 j (by rw [← hT.out]; exact hj)
              have e2 : t.getD j 0 = c := by rw [List.getD, List.getElem?_eq_getElem hj, Option.getD_some, e]
              rw [e2] at this
              exact this
            · intro h9 j hj
              exact h9 _ (by have hj' : j < t.length := by rw [hT.out]; exact hj
                             simp [List.getD, hj'])
          subst hoo
          obtain ⟨z0, z1, z2, z3, z4, _⟩ := cells5 HKr.out
          obtain ⟨y0, y1, y2, y3, y4, _⟩ := cells5 HNr.out
          clear ho HONE HLr HCr HLN HKr HNr
          cases o with
          | false =>
            obtain ⟨rfl, rfl⟩ := HY2.out rfl
            clear HY1 HY2 HDUP
            go_wp2
            go_ret
            exact ⟨by simp, HBr.out⟩
          | true =>
            obtain ⟨rfl, hbn⟩ := HY1.out rfl
            have hbq : b = q := by
              rw [Bool.eq_iff_iff, hbn]
              rcases HDUP.out with ⟨h1, h2, _⟩ | ⟨h1, i', j', h2, h3, h4, h5, _⟩
              · simp [h1, h2]
              · rw [h1]
                constructor
                · intro h9
                  exact absurd h9 (not_nodup_of h2 h3 (by rw [HRl.out]; omega) h4.symm)
                · intro h9; cases h9
            subst hbq
            clear HY1 HY2 HDUP hbn
            go_wp2
            go_ret
            exact ⟨by simp, HBr.out⟩

end Go.Proofs.Ytoiiadiimfohiaa

/- Plain: the name of what is made of raw numbers. -/
namespace Go.Proofs.Ytoiiadiimfohiaa
open Go.RowKit
set_option maxRecDepth 20000

def tri : ByteArray := ⟨#[84, 114, 105, 101, 100]⟩

theorem tri_nm : nm tri = true := tried_name
theorem tri_size : tri.size = 5 := rfl
theorem tri_le : tri.size ≤ 1048576 := by rw [tri_size]; omega
theorem tri_le2 : tri.size ≤ 9223372036854775807 := by rw [tri_size]; omega
theorem tri_isN : isN (arunes tri) = true := by decide +kernel

end Go.Proofs.Ytoiiadiimfohiaa

/- The law TruthMade. -/
namespace Go.Proofs.Ytoiiadiimfohiaa
open Go.RowKit
set_option maxRecDepth 20000
set_option linter.unusedVariables false

theorem nat_list {k : Nat} : ∀ {ls : List Int}, (∀ l, l ∈ ls → 0 ≤ l ∧ l < (k : Int)) → ∃ t : List Nat, nI t = ls ∧ ∀ c, c ∈ t → c < k
  | [], _ => ⟨[], rfl, fun c hc => by cases hc⟩
  | l :: ls, h => by
    obtain ⟨t, h1, h2⟩ := nat_list (ls := ls) (fun x hx => h x (List.mem_cons_of_mem _ hx))
    obtain ⟨a1, a2⟩ := h l List.mem_cons_self
    refine ⟨l.toNat :: t, ?_, fun c hc => ?_⟩
    · show ((l.toNat : Nat) : Int) :: nI t = l :: ls
      rw [h1, Int.toNat_of_nonneg a1]
    · rcases List.mem_cons.1 hc with rfl | hc
      · omega
      · exact h2 c hc

set_option maxHeartbeats 2000000 in
theorem truthMade_walk (v : Value) (xs : List Int) (a1 a2 a3 a4 : Int) (w : World) (hi : Ints w v xs) (hx : ∀ x, x ∈ xs → I64 x) (i1 : I64 a1) (i2 : I64 a2) (i3 : I64 a3) (i4 : I64 a4) :
    Calls Try.prog 4 #[v, .int .i64 a1, .int .i64 a2, .int .i64 a3, .int .i64 a4] w fun e w' => e = .returned (.bool true) ∧ Below w.heap.size w w' := by
  obtain ⟨p0, c0, rfl⟩ := hi.form
  by_cases hl : 256 < xs.length
  · clear hi hx
    generalize xs.length = m at *
    go_enter Try.func4, Try.ntmps4
    go_wp2
    go_ret
    exact ⟨rfl, Below.refl _ _⟩
  · have HP1 := hide (fun W => pick_det a1 7 W i1.1 i1.2 (by decide) (by decide))
    have HP2 := hide (fun W => pick_det a2 16 W i2.1 i2.2 (by decide) (by decide))
    have HP3 := hide (fun W => pick_det a3 3 W i3.1 i3.2 (by decide) (by decide))
    have HP4 := hide (fun W => pick_det a4 20 W i4.1 i4.2 (by decide) (by decide))
    have b1 := pk_range a1 (n := 7) (by decide)
    have b2 := pk_range a2 (n := 16) (by decide)
    have b3 := pk_range a3 (n := 3) (by decide)
    have b4 := pk_range a4 (n := 20) (by decide)
    generalize pk a1 7 = q1 at *
    generalize pk a2 16 = q2 at *
    generalize pk a3 3 = q3 at *
    generalize pk a4 20 = q4 at *
    obtain ⟨n, hn⟩ : ∃ n : Nat, 2 + q1 = (n : Int) := ⟨(q1 + 2).toNat, by omega⟩
    obtain ⟨M, hM⟩ : ∃ M : Nat, 1 + q2 = (M : Int) := ⟨(q2 + 1).toNat, by omega⟩
    obtain ⟨C, hC⟩ : ∃ C : Nat, 1 + q3 = (C : Int) := ⟨(q3 + 1).toNat, by omega⟩
    obtain ⟨N, hN⟩ : ∃ N : Nat, 1 + q4 = (N : Int) := ⟨(q4 + 1).toNat, by omega⟩
    have n1 : 2 ≤ n ∧ n ≤ 8 := by omega
    have M1 : 1 ≤ M ∧ M ≤ 16 := by omega
    have C1 : 1 ≤ C ∧ C ≤ 3 := by omega
    have N1 : 1 ≤ N ∧ N ≤ 20 := by omega
    have HI := hide hi
    have HX := hide hx
    have EN := hide hn
    have EM := hide hM
    have EC := hide hC
    have hN9 := hN
    have HMO := hide (methodOf_ok _ xs n M w hi hx (by omega) (by omega) (by omega))
    generalize hxl : xs.length = m at *
    have HXL := hide hxl
    clear hi hx hn hM hC hxl
    go_enter Try.func4, Try.ntmps4
    go_wp2_with fail
    refine (HP1.out _).mono ?_
    rintro e wa ⟨rfl, rfl⟩
    go_wp2_with fail
    refine (HP3.out _).mono ?_
    rintro e wa ⟨rfl, rfl⟩
    go_wp2_with fail
    refine (HP2.out _).mono ?_
    rintro e wa ⟨rfl, rfl⟩
    go_wp2_with fail
    rw [EN.out, EM.out, EC.out]
    refine HMO.out.mono ?_
    rintro e w3 ⟨u, vs, ts, rfl, hlen, hts, hLL, hb3⟩
    obtain ⟨up, uc, hue⟩ := hLL.ints.len
    rw [List.length_map] at hue
    subst hue
    subst hlen
    have hbA : Below w.heap.size w (w3.alloc (mbox tri n (.slice up ts.length uc))) := hb3.alloc hb3.size _
    have HV := hide (hLL.ints.below ((Below.refl _ _).alloc (Nat.le_refl _) (mbox tri n (.slice up ts.length uc))))
    have HTS := hide hts
    have hs3 := hb3.size
    obtain ⟨d0, d1, d2⟩ := mbox_cells w3 tri n (.slice up ts.length uc)
    clear hts hLL hb3
    go_upto_region 6 with fail
    change Code.wp _ _ _ _ (w3.alloc (mbox tri n (.slice up ts.length uc)))
    generalize w3.alloc (mbox tri n (.slice up ts.length uc)) = wA at *
    generalize w3.heap.size = B at *
    refine wp_region_held_drew (S := fun W' => W'.cell? ⟨B, 0, none⟩ = some (.string tri) ∧ W'.cell? ⟨B, 1, none⟩ = some (.int .i64 n) ∧ W'.cell? ⟨B, 2, none⟩ = some (.slice up ts.length uc)) (by kernel_rfl) ⟨d0, d1, d2⟩ (fun hS => ?_)
    refine wpAnyH_take (i := 0) (v := .agg #[.string tri, .int .i64 n, .slice up ts.length uc]) rfl (by kernel_rfl) (by kernel_rfl) (by kernel_rfl) (fun _ _ _ h => h) (Or.inl ⟨by kernel_rfl, fun w' hS' => by obtain ⟨q0, q1, q2⟩ := hS'; go_simp⟩) hS ?_
    refine wpAnyH_take (i := 1) (v := .slice p0 m c0) rfl (by kernel_rfl) (by kernel_rfl) (by kernel_rfl) (fun _ _ _ h => h) (Or.inl ⟨by kernel_rfl, fun w' hS' => by obtain ⟨q0, q1, q2⟩ := hS'; go_simp⟩) hS ?_
    refine wpAnyH_take (i := 2) (v := .int .i64 n) rfl (by kernel_rfl) (by kernel_rfl) (by kernel_rfl) (fun _ _ _ h => h) (Or.inl ⟨by kernel_rfl, fun w' hS' => by obtain ⟨q0, q1, q2⟩ := hS'; go_simp⟩) hS ?_
    refine wpAnyH_take (i := 3) (v := .int .i64 C) rfl (by kernel_rfl) (by kernel_rfl) (by kernel_rfl) (fun _ _ _ h => h) (Or.inl ⟨by kernel_rfl, fun w' hS' => by obtain ⟨q0, q1, q2⟩ := hS'; go_simp⟩) hS ?_
    refine wpAnyH_take (i := 5) (v := .slice p0 m c0) rfl (by kernel_rfl) (by kernel_rfl) (by kernel_rfl) (fun _ _ _ h => h) (Or.inl ⟨by kernel_rfl, fun w' hS' => by obtain ⟨q0, q1, q2⟩ := hS'; go_simp⟩) hS ?_
    refine wpAnyH_take (i := 6) (v := .int .i64 a4) rfl (by kernel_rfl) (by kernel_rfl) (by kernel_rfl) (fun _ _ _ h => h) (Or.inl ⟨by kernel_rfl, fun w' hS' => by obtain ⟨q0, q1, q2⟩ := hS'; go_simp⟩) hS ?_
    refine wpAnyH_take (i := 9) (v := .int .i64 C) rfl (by kernel_rfl) (by kernel_rfl) (by kernel_rfl) (fun _ _ _ h => h) (Or.inl ⟨by kernel_rfl, fun w' hS' => by obtain ⟨q0, q1, q2⟩ := hS'; go_simp⟩) hS ?_
    refine wpAnyH_ready (rs := [4]) (by kernel_rfl) (by simp) ?_
    refine AllReadyH.cons rfl (fun K9 hK9 => ?_) AllReadyH.nil
    go_simp
    have hbD : Below w.heap.size w wA.drew := hbA.drew
    refine (callsOf_ok _ xs n C wA.drew (HI.out.below hbD) HX.out (by omega) (by omega) C1.1 (by omega)).mono ?_
    rintro e w4 ⟨cv, es, rfl, hel, hO4, hC4, hb4⟩
    have hb4' : Below wA.heap.size wA w4 := (Below.refl _ _).drew.trans hb4
    have hB4 : Below w.heap.size w w4 := hbA.trans (hb4'.mono hbA.size)
    have hlA : B < wA.heap.size := World.block_lt_of_cell? wA _ d0
    have hkp : ∀ j, w4.cell? ⟨B, j, none⟩ = wA.cell? ⟨B, j, none⟩ := fun j => hb4'.cell (p := ⟨B, j, none⟩) hlA
    refine hK9.out _ _ ⟨by rw [hkp]; exact d0, by rw [hkp]; exact d1, by rw [hkp]; exact d2⟩ (fun hS => ?_)
    clear hK9
    have hCA := hC4.calls (by rw [hel]; exact hO4) (by omega)
    have hCK := hC4.callsOk (K := ts.length) (by omega) M1.1
    obtain ⟨SS, hSS⟩ := hC4.tiles
    have hcl : (ceCalls es).length = C := by rw [← hel]; simp [ceCalls]
    rw [hel, ← hcl] at hSS
    have HV4 := hide (HV.out.below hb4')
    have HCA := hide hCA
    have HCK := hide hCK
    have HSS := hide hSS
    clear hCA hCK hSS hC4 hO4 HV hb4 hb4' hbD hkp
    generalize ceCalls es = cs at *
    refine wpAnyH_ready (rs := [7]) (by kernel_rfl) (by simp) ?_
    refine AllReadyH.cons rfl (fun K9 hK9 => ?_) AllReadyH.nil
    go_simp
    refine (HP4.out _).mono ?_
    rintro e wb ⟨rfl, rfl⟩
    refine hK9.out _ _ hS (fun hS => ?_)
    clear hK9
    refine wpAnyH_take (i := 8) (v := .int .i64 (N : Int)) rfl (by kernel_rfl) (by kernel_rfl) (by kernel_rfl) (fun _ _ _ h => h) (Or.inl ⟨by kernel_rfl, fun w' hS' => by obtain ⟨q0, q1, q2⟩ := hS'; go_simp; (try (rw [IntKind.wrap_i64]; omega))⟩) hS ?_
    refine wpAnyH_ready (rs := [10]) (by kernel_rfl) (by simp) ?_
    refine AllReadyH.cons rfl (fun K9 hK9 => ?_) AllReadyH.nil
    go_simp
    refine (leadsOf_ok _ xs N C w4 (HI.out.below hB4) HX.out (by omega) C1.1 (by omega)).mono ?_
    rintro e w5 ⟨lv, ls, rfl, hO5, hin5, hb5⟩
    obtain ⟨t, htn, htc⟩ := nat_list hin5
    have hlB : B < w4.heap.size := World.block_lt_of_cell? w4 _ hS.1
    have hkp5 : ∀ j, w5.cell? ⟨B, j, none⟩ = w4.cell? ⟨B, j, none⟩ := fun j => hb5.cell (p := ⟨B, j, none⟩) hlB
    refine hK9.out _ _ ⟨by rw [hkp5]; exact hS.1, by rw [hkp5]; exact hS.2.1, by rw [hkp5]; exact hS.2.2⟩ (fun hS => ?_)
    clear hK9
    have hll : t.length = N := by
      have h9 := hO5.1
      rw [← htn, List.length_map, nI_len] at h9
      simpa using h9
    have hI5 : Ints w5 lv (nI t) := by rw [htn]; exact Ints.own hO5
    obtain ⟨lp, lc, hle⟩ := hI5.form
    rw [nI_len, hll] at hle
    subst hle
    have hB5 : Below w.heap.size w w5 := hB4.trans (hb5.mono hB4.size)
    have hTch : Tch w5 tri n up uc ts cv cs SS lp lc t :=
      { size := tri_le, nam := tri_nm, isn := tri_isN, n1 := n1.1, n2 := by omega, l1 := M1.1, l2 := by omega, tz := HTS.out, val := HV4.out.below hb5, cat := HCA.out.below hb5, cok := HCK.out, c1 := by rw [hcl]; exact C1.1, c2 := by rw [hcl]; omega
        css := fun c hc => ⟨(HSS.out c hc).1, (HSS.out c hc).2.1, Nat.le_trans (HSS.out c hc).2.2 M1.1⟩, lat := by rw [hll]; exact hI5, t1 := by rw [hll]; exact N1.1, t2 := by rw [hll]; omega, tin := fun c hc => by rw [hcl]; exact htc c hc
        mul := by rw [hll]; exact Nat.le_trans (Nat.mul_le_mul N1.2 M1.2) (by decide) }
    have hTS := truthSays_good tri n up uc ts cv cs SS lp lc t w5 hTch (by omega)
    rw [hll] at hTS
    have HTS9 := hide hTS
    clear hTS hTch hI5 hO5 hin5 htn htc hkp5
    refine wpAnyH_ready (rs := [11]) (by kernel_rfl) (by simp) ?_
    refine AllReadyH.cons rfl (fun K9 hK9 => ?_) AllReadyH.nil
    go_simp
    refine HTS9.out.mono ?_
    rintro e w7 ⟨rfl, hb7⟩
    have hlB : B < w5.heap.size := World.block_lt_of_cell? w5 _ hS.1
    have hkp7 : ∀ j, w7.cell? ⟨B, j, none⟩ = w5.cell? ⟨B, j, none⟩ := fun j => hb7.cell (p := ⟨B, j, none⟩) hlB
    refine hK9.out _ _ ⟨by rw [hkp7]; exact hS.1, by rw [hkp7]; exact hS.2.1, by rw [hkp7]; exact hS.2.2⟩ (fun hS => ?_)
    clear hK9
    refine wpAnyH_take (i := 12) (v := .bool true) rfl (by kernel_rfl) (by kernel_rfl) (by kernel_rfl) (fun _ _ _ h => h) (Or.inl ⟨by kernel_rfl, fun w' hS' => by obtain ⟨q0, q1, q2⟩ := hS'; go_simp⟩) hS ?_
    refine wpAnyH_done (by kernel_rfl) ?_ _
    have HB7 := hide (hB5.trans (hb7.mono hB5.size))
    clear hS hb7 HTS9 HV4 HCA HCK HSS hkp7
    go_wp2
    go_ret
    exact ⟨rfl, HB7.out⟩

end Go.Proofs.Ytoiiadiimfohiaa
