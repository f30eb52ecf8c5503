/- Joined: GrH, GrI, GrJ. -/
import Derived.Test.YtimfoggjocajiaaJ16
/- The walk of GroupSays, a way. -/
namespace Go.Proofs.Ytimfoggjocajiaa
open Go.RowKit

set_option maxRecDepth 20000 in
set_option maxHeartbeats 8000000 in
theorem groupSays_a1 (n : Nat) (v v2 v3 : Value) (gss : List (List Int)) (xs ys : List Int) (bell : Int) (w : World) (t1 t2 : Bool) (g1 : decide ((200 : Int) < (ys.length : Int)) = t1) (g2 : decide ((ys.length : Int) < 20001) = t2) (g3 : (t1 && t2) = false)
    (hA : IntsAll w v gss) (hR : RowsN n gss) (h2 : Ints w v2 xs) (h3 : Ints w v3 ys) (hy : ∀ x, x ∈ ys → I64 x) (h1 : 1 ≤ n) (h12 : n ≤ 12) (h8 : gss.length ≤ 8) (hz : chk xs ≠ 0) :
    Calls Try.prog 3 #[.int .i64 n, v, v2, v3, .int .i64 bell] w fun e w' => Told w e w' := by
  obtain ⟨i0, hi, hz0, hz1, hz2⟩ := info_parts Try.info23
  have q1 := run_ptr_ne
  have hgz := gchk_rows h1 h12 hR
  have hgl : (gss.map pad).length ≤ 1000000 := by rw [List.length_map]; omega
  have HGL := hide hgl
  have HMk := hide (make_ok n v gss w hA h1 h12 h8 hR)
  have HM : Hid (∀ w', Below w.heap.size w w' → Calls Try.prog 15 #[.int .i64 n, v] w' fun e w'' => e = .returned (.int .i64 0) ∧ w' = w'') := fun w' hb => by have := gensMay_ok n v gss w' (hA.below hb) h1 h12 h8; rwa [hgz] at this
  have HK : Hid (∀ w', Below w.heap.size w w' → Calls Try.prog 16 #[.int .i64 n, v] w' fun e w'' => e = .returned (.int .i64 0) ∧ Below w'.heap.size w' w'') := fun w' hb => by have := gcheck_ok n v gss w' (hA.below hb) h1 h12 h8; rwa [hgz] at this
  have HSz : Hid (∀ w', Below w.heap.size w w' → Calls Try.prog 17 #[.int .i64 n, v] w' fun e w'' => e = .returned (.int .i64 ((sz (Gen (fun y => y ∈ gss.map pad)) n : Nat) : Int)) ∧ Below w'.heap.size w' w'') := fun w' hb => sizes_ok n v gss w' (hA.below hb) hR h1 h12 (by omega)
  have HRM : Hid (∀ w', Below w.heap.size w w' → Calls Try.prog 23 #[v2] w' fun e w'' => e = .returned (.int .i64 (chk xs)) ∧ w' = w'') := fun w' hb => rowMay_any v2 xs w' (h2.below hb)
  have HRS : Hid (∀ w', Below w.heap.size w w' → Calls Try.prog 21 #[.int .i64 n, v, v3] w' fun e w'' => SaidPost n (gss.map pad) ys w' e w'') := fun w' hb => rsay_any n v v3 gss ys w' h1 h12 (hA.below hb) hR h8 (h3.below hb) hy
  have HA := hide hA
  have HR := hide hR
  have HI2 := hide h2
  have HI3 := hide h3
  have HY := hide hy
  have hrc : rchk n xs = chk xs := by unfold rchk; rw [if_neg hz]
  have HZ : Hid (rchk n xs ≠ 0) := by show _ ≠ _; rw [hrc]; exact hz
  have hbe : (chk xs == 0) = false := beq_eq_false_iff_ne.2 hz
  generalize hfz : chk xs = fz at *
  have HRC := hide hrc
  clear hrc hz hfz
  obtain ⟨p2, c2, rfl⟩ := h2.form
  obtain ⟨p3, c3, rfl⟩ := h3.form
  generalize hsz : sz (Gen (fun y => y ∈ gss.map pad)) n = z at *
  have HSZ := hide hsz
  clear hA hR h2 h3 hy hgz hgl hsz
  cases t1 <;> cases t2 <;> simp at g3 <;>
  · clear g3
    go_enter Try.func3, Try.ntmps3
    go_wp2_with fail
    refine HMk.out.mono ?_
    rintro ex w1 ⟨g5, rfl, hG5, hb1⟩
    have HG5 := hide hG5
    obtain ⟨gb1, _, _, _, _, _, _, rfl, _⟩ := hG5
    go_wp2_with fail
    refine (HM.out w1 hb1).mono ?_
    rintro ex w2 ⟨rfl, rfl⟩
    go_wp2_with fail
    refine (HK.out w1 hb1).mono ?_
    rintro ex w3 ⟨rfl, hb3⟩
    have hB3 := hb1.trans (hb3.mono hb1.size)
    have HG3 := hide (HG5.out.below hb3 (Nat.le_refl _))
    clear hb3 HMk HG5 hb1
    go_wp2_with fail
    refine (HSz.out w3 hB3).mono ?_
    rintro ex w4 ⟨rfl, hb4⟩
    have hB4 := hB3.trans (hb4.mono hB3.size)
    have HG4 := hide (HG3.out.below hb4 (Nat.le_refl _))
    have HGs := hide (gsize_ok n _ (gss.map pad) w4 h12 HG4.out)
    rw [HSZ.out] at HGs
    clear hb4 hB3 HG3
    go_wp2_with fail
    refine HGs.out.mono ?_
    rintro ex w5 ⟨rfl, hb5⟩
    have hB5 := hB4.trans (hb5.mono hB4.size)
    have HG5 := hide (HG4.out.below hb5 (Nat.le_refl _))
    have HGb := hide (gbells_ok n _ (gss.map pad) w5 HG5.out)
    clear hb5 hB4 HG4 HGs
    go_wp2_with fail
    refine HGb.out.mono ?_
    rintro ex w6 ⟨rfl, rfl⟩
    have HSy := hide (say_any n _ _ (gss.map pad) ys w5 h12 HG5.out HGL.out (HI3.out.below hB5) HY.out)
    clear HGb
    go_wp2_with fail
    refine HSy.out.mono ?_
    rintro ex w7 ⟨va, rfl, hIa, hb7⟩
    have hB7 := hB5.trans (hb7.mono hB5.size)
    have HG7 := hide (HG5.out.below hb7 (Nat.le_refl _))
    have HIa := hide hIa
    clear hIa hb7 hB5 HSy HG5
    go_wp2_with fail
    refine (HRS.out w7 hB7).mono ?_
    rintro ex w8 ⟨vb, rfl, hIb, hb8⟩
    generalize saidC (gss.map pad) ys = sc at *
    generalize saidL n (gss.map pad) ys = sl at *
    have hB8 := hB7.trans (hb8.mono hB7.size)
    have HG8 := hide (HG7.out.below hb8 (Nat.le_refl _))
    have HSm := hide (same_any va vb sl sl w8 (HIa.out.below hb8) hIb)
    rw [decide_eq_true rfl] at HSm
    clear hIb hb8 hB7 HG7 HIa
    go_wp2_with fail
    refine HSm.out.mono ?_
    rintro ex w9 ⟨rfl, hb9⟩
    have hB9 := hB8.trans (hb9.mono hB8.size)
    have HG9 := hide (HG8.out.below hb9 (Nat.le_refl _))
    clear hb9 hB8 HG8 HSm
    go_wp2_with fail
    refine (HRM.out w9 hB9).mono ?_
    rintro ex w10 ⟨rfl, rfl⟩
    have HHs := hide (ghas_no n _ _ (gss.map pad) xs w9 HG9.out (HI2.out.below hB9) HZ.out)
    rw [HRC.out] at HHs
    go_wp2_with fail
    refine HHs.out.mono ?_
    rintro ex w11 ⟨rfl, hb11⟩
    have hB11 := hB9.trans (hb11.mono hB9.size)
    have HGL2 := hide (GLaw.mk (HG9.out.below hb11 (Nat.le_refl _)) (HA.out.below hB11) HR.out (HI2.out.below hB11) h1 h12 h8)
    have HGR := hide (groupRows_any _ _ _ n gss xs bell w11 HGL2.out)
    rw [HSZ.out, HRC.out] at HGR
    have HBf := hide hB11
    clear hb11 hB11 HHs HGL2 HG9
    rcases (show z ≤ 720 ∨ (720 < z ∧ z ≤ 5040) ∨ 5040 < z by omega) with hc | hc | hc
    · have d1 : decide ((720 : Int) < (z : Int)) = false := decide_eq_false (by omega)
      go_wp2_with fail
      refine HGR.out.mono ?_
      rintro ex w20 ⟨rfl, hb20⟩
      have HBg := hide (HBf.out.trans (hb20.mono HBf.out.size))
      clear hb20
      go_wp2
      go_ret
      exact ⟨rfl, HBg.out⟩
    · have d1 : decide ((720 : Int) < (z : Int)) = true := decide_eq_true (by omega)
      have d2 : decide ((z : Int) < 5041) = true := decide_eq_true (by omega)
      go_wp2
      go_ret
      exact ⟨rfl, HBf.out⟩
    · have d1 : decide ((720 : Int) < (z : Int)) = true := decide_eq_true (by omega)
      have d2 : decide ((z : Int) < 5041) = false := decide_eq_false (by omega)
      go_wp2_with fail
      refine HGR.out.mono ?_
      rintro ex w20 ⟨rfl, hb20⟩
      have HBg := hide (HBf.out.trans (hb20.mono HBf.out.size))
      clear hb20
      go_wp2
      go_ret
      exact ⟨rfl, HBg.out⟩

set_option maxRecDepth 20000 in
set_option maxHeartbeats 8000000 in
theorem groupSays_a2 (n : Nat) (v v2 v3 : Value) (gss : List (List Int)) (xs ys : List Int) (bell : Int) (w : World) (t1 t2 : Bool) (g1 : decide ((200 : Int) < (ys.length : Int)) = t1) (g2 : decide ((ys.length : Int) < 20001) = t2) (g3 : (t1 && t2) = false)
    (hA : IntsAll w v gss) (hR : RowsN n gss) (h2 : Ints w v2 xs) (h3 : Ints w v3 ys) (hy : ∀ x, x ∈ ys → I64 x) (h1 : 1 ≤ n) (h12 : n ≤ 12) (h8 : gss.length ≤ 8) (hz : chk xs = 0) (hl : xs.length ≠ n) :
    Calls Try.prog 3 #[.int .i64 n, v, v2, v3, .int .i64 bell] w fun e w' => Told w e w' := by
  obtain ⟨i0, hi, hz0, hz1, hz2⟩ := info_parts Try.info23
  have q1 := run_ptr_ne
  have hgz := gchk_rows h1 h12 hR
  have hgl : (gss.map pad).length ≤ 1000000 := by rw [List.length_map]; omega
  have HGL := hide hgl
  have HMk := hide (make_ok n v gss w hA h1 h12 h8 hR)
  have HM : Hid (∀ w', Below w.heap.size w w' → Calls Try.prog 15 #[.int .i64 n, v] w' fun e w'' => e = .returned (.int .i64 0) ∧ w' = w'') := fun w' hb => by have := gensMay_ok n v gss w' (hA.below hb) h1 h12 h8; rwa [hgz] at this
  have HK : Hid (∀ w', Below w.heap.size w w' → Calls Try.prog 16 #[.int .i64 n, v] w' fun e w'' => e = .returned (.int .i64 0) ∧ Below w'.heap.size w' w'') := fun w' hb => by have := gcheck_ok n v gss w' (hA.below hb) h1 h12 h8; rwa [hgz] at this
  have HSz : Hid (∀ w', Below w.heap.size w w' → Calls Try.prog 17 #[.int .i64 n, v] w' fun e w'' => e = .returned (.int .i64 ((sz (Gen (fun y => y ∈ gss.map pad)) n : Nat) : Int)) ∧ Below w'.heap.size w' w'') := fun w' hb => sizes_ok n v gss w' (hA.below hb) hR h1 h12 (by omega)
  have HRM : Hid (∀ w', Below w.heap.size w w' → Calls Try.prog 23 #[v2] w' fun e w'' => e = .returned (.int .i64 (chk xs)) ∧ w' = w'') := fun w' hb => rowMay_any v2 xs w' (h2.below hb)
  have HRS : Hid (∀ w', Below w.heap.size w w' → Calls Try.prog 21 #[.int .i64 n, v, v3] w' fun e w'' => SaidPost n (gss.map pad) ys w' e w'') := fun w' hb => rsay_any n v v3 gss ys w' h1 h12 (hA.below hb) hR h8 (h3.below hb) hy
  have HA := hide hA
  have HR := hide hR
  have HI2 := hide h2
  have HI3 := hide h3
  have HY := hide hy
  have HRC : Hid (rchk n xs = 1) := by show _ = _; unfold rchk; rw [if_pos hz, if_neg hl]
  have HZ : Hid (rchk n xs ≠ 0) := by show _ ≠ _; rw [HRC.out]; decide
  rw [hz] at HRM
  have hne : ((xs.length : Int) != (n : Int)) = true := by rw [bne_iff_ne]; omega
  have hneI : ¬ (xs.length : Int) = (n : Int) := by omega
  clear hz hl
  obtain ⟨p2, c2, rfl⟩ := h2.form
  obtain ⟨p3, c3, rfl⟩ := h3.form
  generalize hsz : sz (Gen (fun y => y ∈ gss.map pad)) n = z at *
  have HSZ := hide hsz
  clear hA hR h2 h3 hy hgz hgl hsz
  cases t1 <;> cases t2 <;> simp at g3 <;>
  · clear g3
    go_enter Try.func3, Try.ntmps3
    go_wp2_with fail
    refine HMk.out.mono ?_
    rintro ex w1 ⟨g5, rfl, hG5, hb1⟩
    have HG5 := hide hG5
    obtain ⟨gb1, _, _, _, _, _, _, rfl, _⟩ := hG5
    go_wp2_with fail
    refine (HM.out w1 hb1).mono ?_
    rintro ex w2 ⟨rfl, rfl⟩
    go_wp2_with fail
    refine (HK.out w1 hb1).mono ?_
    rintro ex w3 ⟨rfl, hb3⟩
    have hB3 := hb1.trans (hb3.mono hb1.size)
    have HG3 := hide (HG5.out.below hb3 (Nat.le_refl _))
    clear hb3 HMk HG5 hb1
    go_wp2_with fail
    refine (HSz.out w3 hB3).mono ?_
    rintro ex w4 ⟨rfl, hb4⟩
    have hB4 := hB3.trans (hb4.mono hB3.size)
    have HG4 := hide (HG3.out.below hb4 (Nat.le_refl _))
    have HGs := hide (gsize_ok n _ (gss.map pad) w4 h12 HG4.out)
    rw [HSZ.out] at HGs
    clear hb4 hB3 HG3
    go_wp2_with fail
    refine HGs.out.mono ?_
    rintro ex w5 ⟨rfl, hb5⟩
    have hB5 := hB4.trans (hb5.mono hB4.size)
    have HG5 := hide (HG4.out.below hb5 (Nat.le_refl _))
    have HGb := hide (gbells_ok n _ (gss.map pad) w5 HG5.out)
    clear hb5 hB4 HG4 HGs
    go_wp2_with fail
    refine HGb.out.mono ?_
    rintro ex w6 ⟨rfl, rfl⟩
    have HSy := hide (say_any n _ _ (gss.map pad) ys w5 h12 HG5.out HGL.out (HI3.out.below hB5) HY.out)
    clear HGb
    go_wp2_with fail
    refine HSy.out.mono ?_
    rintro ex w7 ⟨va, rfl, hIa, hb7⟩
    have hB7 := hB5.trans (hb7.mono hB5.size)
    have HG7 := hide (HG5.out.below hb7 (Nat.le_refl _))
    have HIa := hide hIa
    clear hIa hb7 hB5 HSy HG5
    go_wp2_with fail
    refine (HRS.out w7 hB7).mono ?_
    rintro ex w8 ⟨vb, rfl, hIb, hb8⟩
    generalize saidC (gss.map pad) ys = sc at *
    generalize saidL n (gss.map pad) ys = sl at *
    have hB8 := hB7.trans (hb8.mono hB7.size)
    have HG8 := hide (HG7.out.below hb8 (Nat.le_refl _))
    have HSm := hide (same_any va vb sl sl w8 (HIa.out.below hb8) hIb)
    rw [decide_eq_true rfl] at HSm
    clear hIb hb8 hB7 HG7 HIa
    go_wp2_with fail
    refine HSm.out.mono ?_
    rintro ex w9 ⟨rfl, hb9⟩
    have hB9 := hB8.trans (hb9.mono hB8.size)
    have HG9 := hide (HG8.out.below hb9 (Nat.le_refl _))
    clear hb9 hB8 HG8 HSm
    go_wp2_with fail
    refine (HRM.out w9 hB9).mono ?_
    rintro ex w10 ⟨rfl, rfl⟩
    have HHs := hide (ghas_no n _ _ (gss.map pad) xs w9 HG9.out (HI2.out.below hB9) HZ.out)
    rw [HRC.out] at HHs
    go_wp2_with fail
    refine HHs.out.mono ?_
    rintro ex w11 ⟨rfl, hb11⟩
    have hB11 := hB9.trans (hb11.mono hB9.size)
    have HGL2 := hide (GLaw.mk (HG9.out.below hb11 (Nat.le_refl _)) (HA.out.below hB11) HR.out (HI2.out.below hB11) h1 h12 h8)
    have HGR := hide (groupRows_any _ _ _ n gss xs bell w11 HGL2.out)
    rw [HSZ.out, HRC.out] at HGR
    have HBf := hide hB11
    clear hb11 hB11 HHs HGL2 HG9
    rcases (show z ≤ 720 ∨ (720 < z ∧ z ≤ 5040) ∨ 5040 < z by omega) with hc | hc | hc
    · have d1 : decide ((720 : Int) < (z : Int)) = false := decide_eq_false (by omega)
      go_wp2_with fail
      refine HGR.out.mono ?_
      rintro ex w20 ⟨rfl, hb20⟩
      have HBg := hide (HBf.out.trans (hb20.mono HBf.out.size))
      clear hb20
      go_wp2
      go_ret
      exact ⟨rfl, HBg.out⟩
    · have d1 : decide ((720 : Int) < (z : Int)) = true := decide_eq_true (by omega)
      have d2 : decide ((z : Int) < 5041) = true := decide_eq_true (by omega)
      go_wp2
      go_ret
      exact ⟨rfl, HBf.out⟩
    · have d1 : decide ((720 : Int) < (z : Int)) = true := decide_eq_true (by omega)
      have d2 : decide ((z : Int) < 5041) = false := decide_eq_false (by omega)
      go_wp2_with fail
      refine HGR.out.mono ?_
      rintro ex w20 ⟨rfl, hb20⟩
      have HBg := hide (HBf.out.trans (hb20.mono HBf.out.size))
      clear hb20
      go_wp2
      go_ret
      exact ⟨rfl, HBg.out⟩

end Go.Proofs.Ytimfoggjocajiaa

/- The walk of GroupSays, a way. -/
namespace Go.Proofs.Ytimfoggjocajiaa
open Go.RowKit

set_option maxRecDepth 20000 in
set_option maxHeartbeats 8000000 in
theorem groupSays_b (n : Nat) (v v2 v3 : Value) (gss : List (List Int)) (xs ys : List Int) (bell : Int) (w : World) (t1 t2 : Bool) (g1 : decide ((200 : Int) < (ys.length : Int)) = t1) (g2 : decide ((ys.length : Int) < 20001) = t2) (g3 : (t1 && t2) = false)
    (hA : IntsAll w v gss) (hR : RowsN n gss) (h2 : Ints w v2 xs) (h3 : Ints w v3 ys) (hy : ∀ x, x ∈ ys → I64 x) (h1 : 1 ≤ n) (h12 : n ≤ 12) (h8 : gss.length ≤ 8) (hz : rchk n xs = 0) :
    Calls Try.prog 3 #[.int .i64 n, v, v2, v3, .int .i64 bell] w fun e w' => Told w e w' := by
  obtain ⟨i0, hi, hz0, hz1, hz2⟩ := info_parts Try.info23
  have q1 := run_ptr_ne
  have hgz := gchk_rows h1 h12 hR
  have hgl : (gss.map pad).length ≤ 1000000 := by rw [List.length_map]; omega
  have HGL := hide hgl
  have HMk := hide (make_ok n v gss w hA h1 h12 h8 hR)
  have HM : Hid (∀ w', Below w.heap.size w w' → Calls Try.prog 15 #[.int .i64 n, v] w' fun e w'' => e = .returned (.int .i64 0) ∧ w' = w'') := fun w' hb => by have := gensMay_ok n v gss w' (hA.below hb) h1 h12 h8; rwa [hgz] at this
  have HK : Hid (∀ w', Below w.heap.size w w' → Calls Try.prog 16 #[.int .i64 n, v] w' fun e w'' => e = .returned (.int .i64 0) ∧ Below w'.heap.size w' w'') := fun w' hb => by have := gcheck_ok n v gss w' (hA.below hb) h1 h12 h8; rwa [hgz] at this
  have HSz : Hid (∀ w', Below w.heap.size w w' → Calls Try.prog 17 #[.int .i64 n, v] w' fun e w'' => e = .returned (.int .i64 ((sz (Gen (fun y => y ∈ gss.map pad)) n : Nat) : Int)) ∧ Below w'.heap.size w' w'') := fun w' hb => sizes_ok n v gss w' (hA.below hb) hR h1 h12 (by omega)
  have HRM : Hid (∀ w', Below w.heap.size w w' → Calls Try.prog 23 #[v2] w' fun e w'' => e = .returned (.int .i64 (chk xs)) ∧ w' = w'') := fun w' hb => rowMay_any v2 xs w' (h2.below hb)
  have HRS : Hid (∀ w', Below w.heap.size w w' → Calls Try.prog 21 #[.int .i64 n, v, v3] w' fun e w'' => SaidPost n (gss.map pad) ys w' e w'') := fun w' hb => rsay_any n v v3 gss ys w' h1 h12 (hA.below hb) hR h8 (h3.below hb) hy
  have HA := hide hA
  have HR := hide hR
  have HI2 := hide h2
  have HI3 := hide h3
  have HY := hide hy
  obtain ⟨hxr, hxl, _, _⟩ := rchk_zero hz
  have hcz : chk xs = 0 := chk_ok (by omega) (by omega) hxr
  rw [hcz] at HRM
  have HZ := hide hz
  have HT := hide (sizes_one h12 hR hxr hxl)
  have HRN : Hid (RowsN n (gss ++ [xs])) := fun y hy => by
    rcases List.mem_append.1 hy with hy | hy
    · exact hR y hy
    · rw [List.mem_singleton.1 hy]; exact ⟨hxr, hxl⟩
  clear hcz hz hxr
  obtain ⟨p2, c2, rfl⟩ := h2.form
  rw [hxl] at *
  clear hxl
  obtain ⟨p3, c3, rfl⟩ := h3.form
  generalize hsz : sz (Gen (fun y => y ∈ gss.map pad)) n = z at *
  have HSZ := hide hsz
  clear hA hR h2 h3 hy hgz hgl hsz
  cases t1 <;> cases t2 <;> simp at g3 <;>
  · clear g3
    go_enter Try.func3, Try.ntmps3
    go_wp2_with fail
    refine HMk.out.mono ?_
    rintro ex w1 ⟨g5, rfl, hG5, hb1⟩
    have HG5 := hide hG5
    obtain ⟨gb1, _, _, _, _, _, _, rfl, _⟩ := hG5
    go_wp2_with fail
    refine (HM.out w1 hb1).mono ?_
    rintro ex w2 ⟨rfl, rfl⟩
    go_wp2_with fail
    refine (HK.out w1 hb1).mono ?_
    rintro ex w3 ⟨rfl, hb3⟩
    have hB3 := hb1.trans (hb3.mono hb1.size)
    have HG3 := hide (HG5.out.below hb3 (Nat.le_refl _))
    clear hb3 HMk HG5 hb1
    go_wp2_with fail
    refine (HSz.out w3 hB3).mono ?_
    rintro ex w4 ⟨rfl, hb4⟩
    have hB4 := hB3.trans (hb4.mono hB3.size)
    have HG4 := hide (HG3.out.below hb4 (Nat.le_refl _))
    have HGs := hide (gsize_ok n _ (gss.map pad) w4 h12 HG4.out)
    rw [HSZ.out] at HGs
    clear hb4 hB3 HG3
    go_wp2_with fail
    refine HGs.out.mono ?_
    rintro ex w5 ⟨rfl, hb5⟩
    have hB5 := hB4.trans (hb5.mono hB4.size)
    have HG5 := hide (HG4.out.below hb5 (Nat.le_refl _))
    have HGb := hide (gbells_ok n _ (gss.map pad) w5 HG5.out)
    clear hb5 hB4 HG4 HGs
    go_wp2_with fail
    refine HGb.out.mono ?_
    rintro ex w6 ⟨rfl, rfl⟩
    have HSy := hide (say_any n _ _ (gss.map pad) ys w5 h12 HG5.out HGL.out (HI3.out.below hB5) HY.out)
    clear HGb
    go_wp2_with fail
    refine HSy.out.mono ?_
    rintro ex w7 ⟨va, rfl, hIa, hb7⟩
    have hB7 := hB5.trans (hb7.mono hB5.size)
    have HG7 := hide (HG5.out.below hb7 (Nat.le_refl _))
    have HIa := hide hIa
    clear hIa hb7 hB5 HSy HG5
    go_wp2_with fail
    refine (HRS.out w7 hB7).mono ?_
    rintro ex w8 ⟨vb, rfl, hIb, hb8⟩
    generalize saidC (gss.map pad) ys = sc at *
    generalize saidL n (gss.map pad) ys = sl at *
    have hB8 := hB7.trans (hb8.mono hB7.size)
    have HG8 := hide (HG7.out.below hb8 (Nat.le_refl _))
    have HSm := hide (same_any va vb sl sl w8 (HIa.out.below hb8) hIb)
    rw [decide_eq_true rfl] at HSm
    clear hIb hb8 hB7 HG7 HIa
    go_wp2_with fail
    refine HSm.out.mono ?_
    rintro ex w9 ⟨rfl, hb9⟩
    have hB9 := hB8.trans (hb9.mono hB8.size)
    have HG9 := hide (HG8.out.below hb9 (Nat.le_refl _))
    clear hb9 hB8 HG8 HSm
    go_wp2_with fail
    refine (HRM.out w9 hB9).mono ?_
    rintro ex w10 ⟨rfl, rfl⟩
    have HHs := hide (ghas_ok n _ _ (gss.map pad) xs w9 HG9.out (HI2.out.below hB9) HZ.out)
    go_wp2_with fail
    refine HHs.out.mono ?_
    rintro ex w11 ⟨tin, htin, rfl, hb11⟩
    have hB11 := hB9.trans (hb11.mono hB9.size)
    have HG11 := hide (HG9.out.below hb11 (Nat.le_refl _))
    have HTIN := hide htin
    have hs2 := hB11.size
    obtain ⟨vs, hV, hvl, hve⟩ := HA.out.below hB11
    have HXa := hide (HI2.out.below hB11)
    have HVE := hide hve
    have HVL := hide hvl
    have hvl8 : vs.length ≤ 8 := by omega
    have hbE : Below w11.heap.size w11 (w11.alloc (.cells #[] 23)) := (Below.refl _ _).alloc (Nat.le_refl _) _
    have HVa := hide (hV.below hbE)
    have HCE := hide (vals_cells hvl hve)
    have HE5 : Hid ((w11.alloc (.cells #[] 23)).ownsRow w11.heap.size 23 1 (.slice (some ⟨w11.heap.size, 0, none⟩) 0 0) 0 []) := World.ownsRow_made w11 #[] 0 (Nat.le_refl _) (by decide) (by simp)
    have HMZ : Hid (w11.heap.size ≤ (w11.alloc (.cells #[] 23)).heap.size) := by unfold Hid; simp
    have HM1 : Hid (0 + vs.length ≤ maxLen) := by unfold Hid maxLen; omega
    have HM2 : Hid ((0 + vs.length) * 24 ≤ 140737488355328) := by unfold Hid; omega
    have HB11 := hide hB11
    clear hb11 hB9 hV hve hvl hbE htin HHs hB11 HG9
    go_wp2_with (at_builtin; refine wpList_append_want (by rfl) _ _ 22 rfl w11.heap.size 23 i0 (.slice none 0 0) 24 Try.underlying22 hi hz0 hz1 hz2 rfl _ _ _ rfl HE5.out v vs rfl HVa.out HCE.out HM1.out HM2.out HMZ.out ?_)
    intro v6 w12 hown6 hg6
    have hown6 : w12.ownsRow w11.heap.size 23 1 v6 vs.length vs := by simpa using hown6
    have hb6 : Below w11.heap.size w11 w12 := ((Below.refl _ _).alloc (Nat.le_refl _) _).grown hg6 (by simp) (fun k hk => by have e' : w11.heap.size = k := Option.some.inj hk; omega)
    have hs6 := hb6.size
    have HO6 : Hid (∀ o : Obj, (w12.alloc o).ownsRow w11.heap.size 23 1 v6 vs.length vs) := fun o => hown6.alloc o
    have HO6' := hide hown6
    have HV6 : Hid (Vals (w12.alloc (.cells #[.slice p2 n c2] 23)) (.slice (some ⟨w12.heap.size, 0, none⟩) 1 1) [.slice p2 n c2]) := vals_one _ _ _
    have HC6 : Hid (∀ u ∈ [Value.slice p2 n c2], u.oneCell' = true) := fun u hu => by rw [List.mem_singleton.1 hu]; rfl
    have HM3 : Hid (vs.length + [Value.slice p2 n c2].length ≤ maxLen) := by unfold Hid maxLen; simp; omega
    have HM4 : Hid ((vs.length + [Value.slice p2 n c2].length) * 24 ≤ 140737488355328) := by unfold Hid; simp; omega
    have HM5 : Hid (w11.heap.size ≤ (w12.alloc (.cells #[.slice p2 n c2] 23)).heap.size) := by unfold Hid; simp; omega
    have HB6 := hide hb6
    clear hown6 hg6 hb6 HE5 HVa HCE
    go_wp2_with (at_builtin; refine wpList_append_want (by rfl) _ _ 22 rfl w11.heap.size 23 i0 (.slice none 0 0) 24 Try.underlying22 hi hz0 hz1 hz2 rfl _ _ _ rfl (HO6.out _) _ [Value.slice p2 n c2] rfl HV6.out HC6.out HM3.out HM4.out HM5.out ?_)
    intro v7 w13 hown7 hg7
    have hb7 : Below w11.heap.size w11 w13 := (HB6.out.alloc HB6.out.size _).grown hg7 (by simp; omega) (fun k hk => (HO6'.out.lt k hk).1)
    have hown7 : w13.ownsRow w11.heap.size 23 1 v7 (vs ++ [Value.slice p2 n c2]).length (vs ++ [Value.slice p2 n c2]) := by simpa using hown7
    have hA7 : IntsAll w13 v7 (gss ++ [xs]) := gens_more HVL.out HVE.out HXa.out hb7 (Vals.own hown7)
    have hl9 : (gss ++ [xs]).length ≤ 144 := by simp; omega
    have HSy := hide (sizes_ok n v7 (gss ++ [xs]) w13 hA7 HRN.out h1 h12 hl9)
    have HB13 := hide (HB11.out.trans (hb7.mono hs2))
    have HG13 := hide (HG11.out.below hb7 (Nat.le_refl _))
    clear hown7 hg7 hb7 hA7 hl9 HO6 HO6' HV6 HB6 HG11
    generalize hsy : sz (Gen (fun y => y ∈ (gss ++ [xs]).map pad)) n = y at *
    have HTY : Hid (tin = true ↔ y = z) := HTIN.out.trans HT.out.symm
    clear hsy HTIN
    go_wp2_with fail
    refine HSy.out.mono ?_
    rintro ex w14 ⟨rfl, hb14⟩
    have hB14 := HB13.out.trans (hb14.mono HB13.out.size)
    have HGL2 := hide (GLaw.mk (HG13.out.below hb14 (Nat.le_refl _)) (HA.out.below hB14) HR.out (HI2.out.below hB14) h1 h12 h8)
    have HGR := hide (groupRows_any _ _ _ n gss xs bell w14 HGL2.out)
    rw [HSZ.out, HZ.out] at HGR
    have HBf := hide hB14
    have hyz : ((y : Int) == (z : Int)) = tin := by
      cases tin with
      | true => have := HTY.out.1 rfl; rw [this]; simp
      | false =>
        have h9 : ¬ y = z := fun e => by have := HTY.out.2 e; cases this
        exact beq_eq_false_iff_ne.2 (by omega)
    clear hb14 hB14 HSy HGL2 HG13 HTY
    cases tin
    all_goals
      rcases (show z ≤ 720 ∨ (720 < z ∧ z ≤ 5040) ∨ 5040 < z by omega) with hc | hc | hc
      · have d1 : decide ((720 : Int) < (z : Int)) = false := decide_eq_false (by omega)
        go_wp2_with fail
        refine HGR.out.mono ?_
        rintro ex w20 ⟨rfl, hb20⟩
        have HBg := hide (HBf.out.trans (hb20.mono HBf.out.size))
        clear hb20
        go_wp2
        go_ret
        exact ⟨rfl, HBg.out⟩
      · have d1 : decide ((720 : Int) < (z : Int)) = true := decide_eq_true (by omega)
        have d2 : decide ((z : Int) < 5041) = true := decide_eq_true (by omega)
        go_wp2
        go_ret
        exact ⟨rfl, HBf.out⟩
      · have d1 : decide ((720 : Int) < (z : Int)) = true := decide_eq_true (by omega)
        have d2 : decide ((z : Int) < 5041) = false := decide_eq_false (by omega)
        go_wp2_with fail
        refine HGR.out.mono ?_
        rintro ex w20 ⟨rfl, hb20⟩
        have HBg := hide (HBf.out.trans (hb20.mono HBf.out.size))
        clear hb20
        go_wp2
        go_ret
        exact ⟨rfl, HBg.out⟩

end Go.Proofs.Ytimfoggjocajiaa

/- GroupSays answers true at every input. -/
namespace Go.Proofs.Ytimfoggjocajiaa
open Go.RowKit

theorem groupSays_any (n : Int) (v v2 v3 : Value) (gss : List (List Int)) (xs ys : List Int) (bell : Int) (w : World) (hA : IntsAll w v gss) (h2 : Ints w v2 xs) (h3 : Ints w v3 ys) (hy : ∀ x, x ∈ ys → I64 x) :
    Calls Try.prog 3 #[.int .i64 n, v, v2, v3, .int .i64 bell] w fun e w' => Told w e w' := by
  by_cases hp : 200 < ys.length ∧ ys.length < 20001
  · exact groupSays_pass n v v2 v3 ys bell w h3 hp.1 hp.2
  · have hl : ys.length ≤ 200 ∨ 20000 < ys.length := by omega
    have g3 : (decide ((200 : Int) < (ys.length : Int)) && decide ((ys.length : Int) < 20001)) = false := by
      rcases hl with hl | hl
      · rw [decide_eq_false (by omega)]; rfl
      · rw [decide_eq_false (p := (ys.length : Int) < 20001) (by omega), Bool.and_false]
    by_cases hb : n < 1 ∨ 12 < n ∨ 8 < gss.length
    · refine groupSays_no n v v2 v3 ys bell 1 w h3 hl (by decide) (fun w' hb' => ?_) (fun w' hb' => gensMay_bad n v gss w' (hA.below hb') hb)
      refine (gcheck_bad n v gss w' (hA.below hb') hb).mono ?_
      rintro e w'' ⟨rfl, rfl⟩
      exact ⟨rfl, Below.refl _ _⟩
    · obtain ⟨m, rfl⟩ := Int.eq_ofNat_of_zero_le (show 0 ≤ n by omega)
      have h1 : 1 ≤ m := by omega
      have h12 : m ≤ 12 := by omega
      have h8 : gss.length ≤ 8 := by omega
      by_cases hz : gchk m gss = 0
      · have hR := gchk_back hz
        by_cases hx : rchk m xs = 0
        · exact groupSays_b m v v2 v3 gss xs ys bell w _ _ rfl rfl g3 hA hR h2 h3 hy h1 h12 h8 hx
        · by_cases hc : chk xs = 0
          · exact groupSays_a2 m v v2 v3 gss xs ys bell w _ _ rfl rfl g3 hA hR h2 h3 hy h1 h12 h8 hc (fun e => hx (by unfold rchk; rw [if_pos hc, if_pos e]))
          · exact groupSays_a1 m v v2 v3 gss xs ys bell w _ _ rfl rfl g3 hA hR h2 h3 hy h1 h12 h8 hc
      · exact groupSays_no m v v2 v3 ys bell _ w h3 hl hz (fun w' hb' => gcheck_ok m v gss w' (hA.below hb') h1 h12 h8) (fun w' hb' => gensMay_ok m v gss w' (hA.below hb') h1 h12 h8)

theorem groupSays_walk (n : Int) (v : Value) (gss : List (List Int)) (v2 : Value) (xs : List Int) (v3 : Value) (ys : List Int) (bell : Int) (w : World) (_ : I64 n) (hA : IntsAll w v gss) (h2 : Ints w v2 xs) (_ : ∀ x, x ∈ xs → I64 x) (h3 : Ints w v3 ys) (hy : ∀ x, x ∈ ys → I64 x) (_ : I64 bell) :
    Calls Try.prog 3 #[.int .i64 n, v, v2, v3, .int .i64 bell] w fun e w' => e = .returned (.bool true) ∧ Below w.heap.size w w' := groupSays_any n v v2 v3 gss xs ys bell w hA h2 h3 hy

end Go.Proofs.Ytimfoggjocajiaa
