/- The walk of TopCourse: it answers true at every input. (Written by mkcourse.py.) -/
import Derived.Test.YtfhcelanjilbiaaMethOf
import Derived.Deep.RegionHeld3
import Derived.Deep.QuietTactic
namespace Go.Proofs.Ytfhcelanjilbiaa
open Go.RowKit

theorem ord_840 {r : List Int} (hr : isRow r) (h8 : r.length ≤ 8) : ord r ≤ 840 := by
  refine Nat.le_of_dvd (by decide) ?_
  unfold ord
  rw [ordTo_dvd _ _ _ (Nat.le_refl _)]
  intro i hi
  have hc : (cycsTo r r.length).getD i [] ∈ cycsTo r r.length := by
    rw [show (cycsTo r r.length).getD i [] = (cycsTo r r.length)[i] from by simp [List.getD, List.getElem?_eq_getElem hi]]
    exact List.getElem_mem hi
  have hl := cycsTo_len hr r.length (Nat.le_refl _) _ hc
  have hall : ∀ k : Fin 9, 1 ≤ k.1 → k.1 ∣ 840 := by decide
  exact hall ⟨((cycsTo r r.length).getD i []).length, by omega⟩ (by show 1 ≤ ((cycsTo r r.length).getD i []).length; omega)

theorem pw_left {r : List Int} (hr : isRow r) (a : Nat) : by_ r (pw r a) = pw r (a + 1) := by
  refine ext_getD (by rw [by_length, pw_length, pw_length]) (fun j hj => ?_)
  rw [by_length, pw_length] at hj
  rw [by_get (by rw [pw_length]; exact hj), pw_get hj, pw_get hj]
  have h1 := it_lt hr hj a
  show r.getD ((it r a j : Nat) : Int).toNat 0 = ((it r (a + 1) j : Nat) : Int)
  have h2 := hr.at h1
  show _ = ((nx r (it r a j) : Nat) : Int)
  unfold nx
  rw [Int.toNat_natCast]
  omega

/-- The head, changed by a row of the course, is the row a lead on. -/
theorem crs_turn {n : Nat} {ts : List (List Bool)} (hts : ∀ t, t ∈ ts → tsz t = n) (hl : 1 ≤ ts.length) {i : Nat} (hi : i < ord (prd n ts) * ts.length) :
    by_ (prd n ts) ((crs n ts (ord (prd n ts) * ts.length)).getD i []) = (crs n ts (ord (prd n ts) * ts.length)).getD ((i + ts.length) % (ord (prd n ts) * ts.length)) [] := by
  have hH := prd_row n ts hts
  have hj : (i + ts.length) % (ord (prd n ts) * ts.length) < ord (prd n ts) * ts.length := Nat.mod_lt _ (by omega)
  have hX := prd_row n (ts.take (i % ts.length)) (fun t ht => hts t (List.mem_of_mem_take ht))
  rw [crs_get hi, crs_get hj, ← by_assoc hX.1 (by rw [hX.2, pw_length, hH.2]), pw_left hH.1]
  have hk : i / ts.length < ord (prd n ts) := by rw [Nat.div_lt_iff_lt_mul (by omega)]; exact hi
  have hdm := Nat.div_add_mod i ts.length
  generalize ha : i / ts.length = a at *
  generalize hb : i % ts.length = b at *
  have hbl : b < ts.length := by rw [← hb]; exact Nat.mod_lt _ (by omega)
  by_cases hlast : a + 1 < ord (prd n ts)
  · have h1 : i + ts.length < ord (prd n ts) * ts.length := by
      have h2 : (a + 1 + 1) * ts.length ≤ ord (prd n ts) * ts.length := Nat.mul_le_mul_right _ hlast
      rw [Nat.add_mul, Nat.add_mul, Nat.one_mul, Nat.mul_comm a] at h2
      omega
    rw [Nat.mod_eq_of_lt h1]
    have h3 : (i + ts.length) / ts.length = a + 1 := by rw [Nat.add_div_right _ (by omega), ha]
    have h4 : (i + ts.length) % ts.length = b := by rw [Nat.add_mod_right, hb]
    rw [h3, h4]
  · have hae : a + 1 = ord (prd n ts) := by omega
    have h1 : i + ts.length = b + ord (prd n ts) * ts.length := by
      rw [← hae, Nat.add_mul, Nat.one_mul, Nat.mul_comm a]; omega
    have h2 : b < ord (prd n ts) * ts.length := Nat.lt_of_lt_of_le hbl (Nat.le_mul_of_pos_left _ (by omega))
    rw [h1, Nat.add_mod_right, Nat.mod_eq_of_lt h2, Nat.div_eq_of_lt hbl, Nat.mod_eq_of_lt hbl, hae, pw_zero]
    rw [(ord_pw hH.1 _).2 (Nat.dvd_refl _)]

theorem crs_zero {n : Nat} {ts : List (List Bool)} (hts : ∀ t, t ∈ ts → tsz t = n) {c : Nat} (hc : 0 < c) : (crs n ts c).getD 0 [] = rnd n := by
  have hH := prd_row n ts hts
  rw [crs_get hc, Nat.zero_div, Nat.zero_mod, List.take_zero, pw_zero, hH.2]
  show by_ (rnd n) (rnd n) = rnd n
  rw [← (trow_ones n).1, trow_twice, (trow_ones n).2.1, (trow_ones n).1]

theorem crs_row {n : Nat} {ts : List (List Bool)} (hts : ∀ t, t ∈ ts → tsz t = n) {c i : Nat} (hi : i < c) : isRow ((crs n ts c).getD i []) ∧ ((crs n ts c).getD i []).length = n := by
  have hH := prd_row n ts hts
  have hX := prd_row n (ts.take (i % ts.length)) (fun t ht => hts t (List.mem_of_mem_take ht))
  rw [crs_get hi]
  exact ⟨isRow_by (isRow_pw hH.1 _) hX.1 (by rw [hX.2, pw_length, hH.2]), by rw [by_length, hX.2]⟩

theorem below_drew (w : World) : Below w.heap.size w w.drew := (Below.refl _ _).drew

set_option maxRecDepth 20000 in
set_option maxHeartbeats 400000 in
theorem topCourse_long (v : Value) (xs : List Int) (a1 a2 a3 : Int) (w : World) (hi : Ints w v xs) (hl : 256 < xs.length) :
    Calls Try.prog 9 #[v, .int .i64 a1, .int .i64 a2, .int .i64 a3] w fun e w' => e = .returned (.bool true) ∧ Below w.heap.size w w' := by
  obtain ⟨p, c, rfl⟩ := hi.form
  clear hi
  go_enter Try.func9, Try.ntmps9
  go_wp2
  go_ret
  exact ⟨rfl, Below.refl _ _⟩

set_option maxRecDepth 100000 in
set_option maxHeartbeats 8000000 in
theorem topCourse_short (v : Value) (xs : List Int) (a1 a2 a3 : Int) (w : World) (hin : Ints w v xs) (hx : ∀ x, x ∈ xs → I64 x) (hl : xs.length ≤ 256) (h1 : I64 a1) (h2 : I64 a2) (h3 : I64 a3) :
    Calls Try.prog 9 #[v, .int .i64 a1, .int .i64 a2, .int .i64 a3] w fun e w' => e = .returned (.bool true) ∧ Below w.heap.size w w' := by
  obtain ⟨p0, c0, rfl⟩ := hin.form
  have HI := hide hin
  have HX := hide hx
  obtain ⟨l1, u1⟩ := h1
  obtain ⟨l2, u2⟩ := h2
  obtain ⟨l3, u3⟩ := h3
  clear hin hx
  go_enter Try.func9, Try.ntmps9
  go_wp2_with fail
  refine (pick_any _ _ _ l1 u1 (by omega) (by omega)).mono ?_
  rintro e wa ⟨q, hq0, hq1, rfl, rfl⟩
  obtain ⟨m0, rfl⟩ := Int.eq_ofNat_of_zero_le hq0
  go_wp2_with fail
  refine (pick_any _ _ _ l2 u2 (by omega) (by omega)).mono ?_
  rintro e wa ⟨q, hq2, hq3, rfl, rfl⟩
  obtain ⟨m1, rfl⟩ := Int.eq_ofNat_of_zero_le hq2
  go_wp2_with fail
  rw [show (2 + (m0 : Int)) = ((m0 + 2 : Nat) : Int) from by omega, show (1 + (m1 : Int)) = ((m1 + 1 : Nat) : Int) from by omega]
  generalize hn : m0 + 2 = n
  generalize hL : m1 + 1 = L
  have n1 : 2 ≤ n := by omega
  have n2 : n ≤ 8 := by omega
  have L1 : 1 ≤ L := by omega
  have L2 : L ≤ 20 := by omega
  clear hn hL hq0 hq1 hq2 hq3 l1 u1 l2 u2
  refine (methodOf_ok _ xs n L _ HI.out HX.out (by omega) (by omega) (by omega)).mono ?_
  rintro e w1 ⟨u, vs, ts, rfl, hlen, hts, hLL, hb1⟩
  have HTS := hide hts
  have HLE := hide hlen
  have hx1 := (Box.start w1 ⟨#[84, 114, 105, 101, 100]⟩ n u 66)
  have hbA : Below w.heap.size w (w1.alloc (.cells #[.string ⟨#[84, 114, 105, 101, 100]⟩, .int .i64 (n : Int), u] 66)) := hb1.alloc hb1.size _
  have hia : IntsAll (w1.alloc (.cells #[.string ⟨#[84, 114, 105, 101, 100]⟩, .int .i64 (n : Int), u] 66)) u (ts.map tpl) := hLL.ints.below ((Below.refl _ _).alloc (Nat.le_refl _) _)
  obtain ⟨up, uc, hue⟩ := hLL.ints.len
  rw [List.length_map, HLE.out] at hue
  subst hue
  have hH := prd_row n ts hts
  have ho8 := ord_840 hH.1 (by omega)
  have ho1 := (ord_pos hH.1 (by omega)).1
  have hfit : ord (prd n ts) * ts.length ≤ 20000 := by
    rw [HLE.out]
    exact Nat.le_trans (Nat.mul_le_mul ho8 L2) (by decide)
  have HC := hide (course_ok ⟨#[84, 114, 105, 101, 100]⟩ n _ ts _ (by decide) tried_name n1 (by omega) (by omega) (by omega) hts hia hfit)
  have HHDc := hide (fun W hb => head_ok ⟨#[84, 114, 105, 101, 100]⟩ n _ ts W (by decide) tried_name n1 (by omega) (by omega) (by omega) hts (hia.below hb))
  have HHR := hide hH
  have HFI := hide hfit
  have HTU := hide (fun i (hi : i < ord (prd n ts) * ts.length) => crs_turn hts (by omega) hi)
  have HCZ := hide (fun c (hc : 0 < c) => crs_zero hts (c := c) hc)
  have HCR := hide (fun c i (hi : i < c) => crs_row hts (c := c) (i := i) hi)
  have HX1 := hide hx1
  rw [HLE.out] at HC HFI HTU
  clear hts hLL hia hH hlen hx1 hfit hb1
  go_wp2_with fail
  refine HC.out.mono ?_
  rintro e w2 ⟨cu, cvs, rfl, hCL, hb2⟩
  have hB2 := hbA.trans (hb2.mono hbA.size)
  have hx2 := HX1.out.below hb2
  have g0 := hx2.c0
  have g1 := hx2.c1
  have g2 := hx2.c2
  have HX2 := hide hx2
  have HCL := hide hCL
  clear hx2 HX1 HC hCL
  go_wp2_with fail
  refine (HHDc.out _ hb2).mono ?_
  rintro e w4 ⟨hu, rfl, hhu, hb4⟩
  have hB4 := hB2.trans (hb4.mono hB2.size)
  have hx4 := HX2.out.below hb4
  have gB1 := hx4.c1
  have gB2 := hx4.c2
  have hBl := hx4.lt
  have hCL4 := HCL.out.below hb4
  have hkl : 1 ≤ ord (prd n ts) * L := Nat.mul_pos ho1 L1
  obtain ⟨cb, co, cc, hce, hcb, hcc1, hcc2, hccell⟩ := hCL4.ints.cell (by rw [crs_length]; exact hkl)
  rw [crs_length] at hce hcc1 hccell
  subst hce
  obtain ⟨hp, hc, hhe⟩ := owns_slice hhu
  subst hhe
  have HHD := hide hhu
  have HHL := hide HHR.out.2
  have HCC := hide hccell
  have HKL : Hid (ord (prd n ts) * L ≤ 20000) := HFI.out
  clear hCL4 HCL HHDc hb2 hb4 HX2 hx4 g0 g1 g2 hhu hccell hB2 hbA
  generalize hB : w1.heap.size = B at *
  clear hB
  generalize hK : ord (prd n ts) = K at *
  have HK := hide hK
  clear hK
  have hkL1 : K * L ≤ 20000 := HKL.out
  have hm0 : (0 : Int) ≤ (K : Int) * (L : Int) := by rw [← Int.natCast_mul]; omega
  have hm1 : (K : Int) * (L : Int) ≤ 20000 := by rw [← Int.natCast_mul]; omega
  have hne : (((K * L : Nat) : Int) != (K : Int) * (L : Int)) = false := by rw [Int.natCast_mul]; simp
  have hnz : (((K * L : Nat) : Int) == 0) = false := by rw [beq_eq_false_iff_ne]; omega
  have HKLe : Hid ((K : Int) * (L : Int) = ((K * L : Nat) : Int)) := by show _ = _; rw [Int.natCast_mul]
  go_wp2_with fail
  rw [HKLe.out]
  generalize hKL : K * L = KL at *
  have HKq := hide hKL
  have hKz : (0 : Int) < (KL : Int) := by omega
  clear hm0 hm1 hne hnz HKLe hKL
  refine (pick_any _ _ _ l3 u3 hKz (by omega)).mono ?_
  rintro e wa ⟨q, hq0, hq1, rfl, rfl⟩
  obtain ⟨i, rfl⟩ := Int.eq_ofNat_of_zero_le hq0
  have hiK : i < KL := by omega
  have hjK : (i + L) % KL < KL := Nat.mod_lt _ (by omega)
  have HJ : Hid (((i : Int) + (L : Int)) % (KL : Int) = (((i + L) % KL : Nat) : Int)) := by show _ = _; rw [Int.natCast_emod, Int.natCast_add]
  obtain ⟨p0', c0', hc0, hi0⟩ := HCC.out 0 (by omega)
  obtain ⟨p1, c1, hc1, hi1⟩ := HCC.out i hiK
  obtain ⟨p2, c2, hc2, hi2⟩ := HCC.out _ hjK
  have HBY := hide (HTU.out i hiK)
  have HBR := HCR.out KL i hiK
  have HZ := HCZ.out KL (by omega)
  have HBJ := HCR.out KL _ hjK
  rw [HZ, rnd_length] at hc0 hi0
  rw [HBR.2] at hc1 hi1
  rw [HBJ.2] at hc2 hi2
  have HBYr : Hid (∀ q, q < ((crs n ts KL).getD i []).length → 0 ≤ ((crs n ts KL).getD i []).getD q 0 ∧ ((crs n ts KL).getD i []).getD q 0 < (prd n ts).length) := by
    intro q hq
    have := HBR.1.at hq
    rw [HBR.2] at this
    rw [HHL.out]; exact this
  have HXL := hide HBR.2
  generalize hjj : (i + L) % KL = j at *
  clear hjj HZ HBR HBJ HCC HTU HCR HCZ hq0 hq1 l3 u3
  have HI0 := hi0
  have HI1 := hi1
  have HI2 := hi2
  clear hi0 hi1 hi2
  generalize (crs n ts KL).getD j [] = XJ at *
  generalize (crs n ts KL).getD i [] = XI at *
  generalize prd n ts = H at *
  go_wp2_with fail
  rw [HJ.out]
  refine wp_region_held_drew (S := fun W' => Below w4.heap.size w4 W') (by kernel_rfl) (below_drew w4) (fun hS => ?_)
  refine wpAnyH_take (i := 0) (v := .slice (some ⟨cb, co, none⟩) KL cc) rfl (by kernel_rfl) (by kernel_rfl) (by kernel_rfl) (fun _ _ _ h => h) (Or.inl ⟨by kernel_rfl, fun w' hS' => by clear hS'; go_simp⟩) hS ?_
  refine wpAnyH_take (i := 1) (v := .pointer (some ⟨cb, co, none⟩)) rfl (by kernel_rfl) (by kernel_rfl) (by kernel_rfl) (fun _ _ _ h => h) (Or.inl ⟨by kernel_rfl, fun w' hS' => by clear hS'; go_simp; intro h0; omega⟩) hS ?_
  refine wpAnyH_take (i := 2) (v := .slice p0' n c0') rfl (by kernel_rfl) (by kernel_rfl) (by kernel_rfl) (fun _ _ _ h => h) (Or.inl ⟨by kernel_rfl, fun w' hS' => by have hq := (Below.cell hS' (p := ⟨cb, co, none⟩) (by exact hcb)).trans hc0; clear hS'; go_simp⟩) hS ?_
  refine wpAnyH_take (i := 3) (v := .pointer (some ⟨B, 1, none⟩)) rfl (by kernel_rfl) (by kernel_rfl) (by kernel_rfl) (fun _ _ _ h => h) (Or.inl ⟨by kernel_rfl, fun w' hS' => by clear hS'; go_simp⟩) hS ?_
  refine wpAnyH_take (i := 4) (v := .int .i64 (n : Int)) rfl (by kernel_rfl) (by kernel_rfl) (by kernel_rfl) (fun _ _ _ h => h) (Or.inl ⟨by kernel_rfl, fun w' hS' => by have hq := (Below.cell hS' (p := ⟨B, 1, none⟩) (by exact hBl)).trans gB1; clear hS'; go_simp⟩) hS ?_
  refine wpAnyH_ready (rs := [5]) (by kernel_rfl) (by simp) ?_
  refine AllReadyH.cons rfl (fun K hK => ?_) AllReadyH.nil
  go_simp
  refine (rrounds_ok n _ (by omega)).mono ?_
  rintro ex wo ⟨vA, rfl, hoA, hbA⟩
  have iA := Ints.own hoA
  have hS0 := below_drew w4
  have hSA : Below w4.heap.size w4 wo := hS0.trans (hbA.mono hS0.size)
  refine hK.out _ _ hSA (fun hS => ?_)
  clear hK
  have HSm := hide (same_any _ vA _ _ wo (HI0.out.below hSA) iA)
  rw [decide_eq_true rfl] at HSm
  refine wpAnyH_ready (rs := [6]) (by kernel_rfl) (by simp) ?_
  refine AllReadyH.cons rfl (fun K hK => ?_) AllReadyH.nil
  go_simp
  refine HSm.out.mono ?_
  rintro ex wq ⟨rfl, hbB⟩
  have hSq : Below w4.heap.size w4 wq := hSA.trans (hbB.mono hSA.size)
  refine hK.out _ _ hSq (fun hS => ?_)
  clear hK HSm
  refine wpAnyH_take (i := 7) (v := .bool true) rfl (by kernel_rfl) (by kernel_rfl) (by kernel_rfl) (fun _ _ _ h => h) (Or.inl ⟨by kernel_rfl, fun w' hS' => by clear hS'; go_simp⟩) hS ?_
  refine wpAnyH_take (i := 8) (v := .slice hp n hc) rfl (by kernel_rfl) (by kernel_rfl) (by kernel_rfl) (fun _ _ _ h => h) (Or.inl ⟨by kernel_rfl, fun w' hS' => by clear hS'; go_simp⟩) hS ?_
  refine wpAnyH_take (i := 9) (v := .slice (some ⟨cb, co, none⟩) KL cc) rfl (by kernel_rfl) (by kernel_rfl) (by kernel_rfl) (fun _ _ _ h => h) (Or.inl ⟨by kernel_rfl, fun w' hS' => by clear hS'; go_simp⟩) hS ?_
  refine wpAnyH_take (i := 10) (v := .int .i64 (i : Int)) rfl (by kernel_rfl) (by kernel_rfl) (by kernel_rfl) (fun _ _ _ h => h) (Or.inl ⟨by kernel_rfl, fun w' hS' => by clear hS'; go_simp⟩) hS ?_
  refine wpAnyH_take (i := 11) (v := .pointer (some ⟨cb, co + i, none⟩)) rfl (by kernel_rfl) (by kernel_rfl) (by kernel_rfl) (fun _ _ _ h => h) (Or.inl ⟨by kernel_rfl, fun w' hS' => by clear hS'; go_simp⟩) hS ?_
  refine wpAnyH_take (i := 12) (v := .slice p1 n c1) rfl (by kernel_rfl) (by kernel_rfl) (by kernel_rfl) (fun _ _ _ h => h) (Or.inl ⟨by kernel_rfl, fun w' hS' => by have hq := (Below.cell hS' (p := ⟨cb, co + i, none⟩) (by exact hcb)).trans hc1; clear hS'; go_simp⟩) hS ?_
  refine wpAnyH_take (i := 14) (v := .slice (some ⟨cb, co, none⟩) KL cc) rfl (by kernel_rfl) (by kernel_rfl) (by kernel_rfl) (fun _ _ _ h => h) (Or.inl ⟨by kernel_rfl, fun w' hS' => by clear hS'; go_simp⟩) hS ?_
  refine wpAnyH_take (i := 15) (v := .int .i64 (j : Int)) rfl (by kernel_rfl) (by kernel_rfl) (by kernel_rfl) (fun _ _ _ h => h) (Or.inl ⟨by kernel_rfl, fun w' hS' => by clear hS'; go_simp⟩) hS ?_
  refine wpAnyH_take (i := 16) (v := .pointer (some ⟨cb, co + j, none⟩)) rfl (by kernel_rfl) (by kernel_rfl) (by kernel_rfl) (fun _ _ _ h => h) (Or.inl ⟨by kernel_rfl, fun w' hS' => by clear hS'; go_simp⟩) hS ?_
  refine wpAnyH_take (i := 17) (v := .slice p2 n c2) rfl (by kernel_rfl) (by kernel_rfl) (by kernel_rfl) (fun _ _ _ h => h) (Or.inl ⟨by kernel_rfl, fun w' hS' => by have hq := (Below.cell hS' (p := ⟨cb, co + j, none⟩) (by exact hcb)).trans hc2; clear hS'; go_simp⟩) hS ?_
  have HB3 := hide (rby_ok (.slice hp n hc) (.slice p1 n c1) _ _ wq ((Ints.own HHD.out).below hSq) (HI1.out.below hSq) HBYr.out (by rw [HHL.out]; omega) (by rw [HXL.out]; omega))
  rw [HBY.out] at HB3
  refine wpAnyH_ready (rs := [13]) (by kernel_rfl) (by simp) ?_
  refine AllReadyH.cons rfl (fun K hK => ?_) AllReadyH.nil
  go_simp
  refine HB3.out.mono ?_
  rintro ex wt ⟨vC, rfl, hoC, hbC⟩
  have hSC : Below w4.heap.size w4 wt := hSq.trans (hbC.mono hSq.size)
  refine hK.out _ _ hSC (fun hS => ?_)
  clear hK HB3
  have HSm := hide (same_any vC _ _ _ wt hoC (HI2.out.below hSC))
  rw [decide_eq_true rfl] at HSm
  refine wpAnyH_ready (rs := [18]) (by kernel_rfl) (by simp) ?_
  refine AllReadyH.cons rfl (fun K hK => ?_) AllReadyH.nil
  go_simp
  refine HSm.out.mono ?_
  rintro ex wu ⟨rfl, hbD⟩
  have hSD : Below w4.heap.size w4 wu := hSC.trans (hbD.mono hSC.size)
  refine hK.out _ _ hSD (fun hS => ?_)
  clear hK HSm
  refine wpAnyH_take (i := 19) (v := .bool true) rfl (by kernel_rfl) (by kernel_rfl) (by kernel_rfl) (fun _ _ _ h => h) (Or.inl ⟨by kernel_rfl, fun w' _ => by go_simp⟩) hS ?_
  refine wpAnyH_take (i := 20) (v := .bool true) rfl (by kernel_rfl) (by kernel_rfl) (by kernel_rfl) (fun _ _ _ h => h) (Or.inl ⟨by kernel_rfl, fun w' _ => by go_simp⟩) hS ?_
  refine wpAnyH_done (by kernel_rfl) ?_ _
  have hBD : Below w.heap.size w wu := hB4.trans (hSD.mono hB4.size)
  clear hS hSD hSC hSq hSA
  go_wp2
  go_ret
  exact ⟨rfl, hBD⟩

theorem topCourse_walk (v : Value) (xs : List Int) (a1 a2 a3 : Int) (w : World) (hin : Ints w v xs) (hx : ∀ x, x ∈ xs → I64 x) (h1 : I64 a1) (h2 : I64 a2) (h3 : I64 a3) :
    Calls Try.prog 9 #[v, .int .i64 a1, .int .i64 a2, .int .i64 a3] w fun e w' => e = .returned (.bool true) ∧ Below w.heap.size w w' := by
  by_cases hl : xs.length ≤ 256
  · exact topCourse_short v xs a1 a2 a3 w hin hx hl h1 h2 h3
  · exact topCourse_long v xs a1 a2 a3 w hin (by omega)
end Go.Proofs.Ytfhcelanjilbiaa
