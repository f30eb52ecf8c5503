/- Joined: SsB, SsC, SsD, AppK, FRw, SsE. -/
import Derived.Test.YtbhmhgkbobajfaaJ2
import Derived.Laws.ResultCell
import Derived.Test.YtbhmhgkbobajfaaJ0
import Derived.Maps.AppendAt
/- Package strike: eighths, rhythm, Rhythm. -/
namespace Go.Proofs.Ytbhmhgkbobajfaa
open Go.RowKit
set_option maxRecDepth 20000
set_option linter.unusedVariables false

/-- The root of a half. -/
abbrev hf : Nat := 4604544271217802189
/-- The same, with a sign. -/
abbrev hm : Nat := 13827916308072577997
abbrev one : Nat := 4607182418800017408
abbrev mone : Nat := 13830554455654793216

theorem sqrt_half {r : Nat} (h : SqrtOf 4602678819172646912 r) : r = hf := by
  have e : DF.sqrt 4602678819172646912 = some hf := by kernel_rfl
  rcases h.1 with h | ⟨h, _⟩
  · rw [e] at h; injection h with h; exact h.symm
  · rw [e] at h; cases h

/-- The eighths of a turn. -/
def eig : List (Nat × Nat) := [(one, 0), (hf, hf), (0, one), (hm, hf), (mone, 0), (hm, hm), (0, mone), (hf, hm)]

@[go_sem] theorem unary_negf (k : FloatKind) (b : Nat) : Op.unary .neg (.float k b) = pure (.float k (Op.negFloat k b)) := rfl

theorem neg_hf : Op.negFloat .f64 hf = hm := by kernel_rfl

set_option maxHeartbeats 2000000 in
theorem eighths_ok (w : World) : Calls Try.prog 21 #[] w fun e w' => e = .returned (.agg (cps eig)) ∧ Below w.heap.size w w' := by
  have H0 := zeros_cpx w
  have HB := (Below.refl w.heap.size w).alloc (Nat.le_refl _) zeroC
  go_enter Try.func21, Try.ntmps21
  go_wp2_with fail
  refine (sqrt_ok _ _).mono ?_
  rintro e w1 ⟨r, rfl, hr, hd⟩
  obtain rfl := sqrt_half hr
  have hn := neg_hf
  have H1 : Cpx w1 w.heap.size zerosC := H0.block (by rw [hd.heap])
  have HB1 := hide (HB.trans (hd.below _))
  clear H0 HB hd hr
  go_wp2_with (first | fail | (refine wpList_store_cpx rfl _ _ rfl _ _ eig H1 rfl rfl rfl ?_; intro w2 hA hg hsz))
  go_wp2
  exact ret_cpx rfl rfl hA rfl ⟨rfl, HB1.out.grown hg HB1.out.size (fun k h => by cases h; exact Nat.le_refl _)⟩

/-- Which eighth. -/
def wj (j k : Nat) : Nat := j * k % 8

def reA (j k : Nat) : Nat := (eig.getD (wj j k) (0, 0)).1
def imA (j k : Nat) : Nat := (eig.getD (wj j k) (0, 0)).2

/-- The numbers of a rhythm's first part, and of its second. -/
def rhR (F : List Nat) (j : Nat) : List Nat := (List.range F.length).map (fun k => fop .mul (F.getD k 0) (reA j k))
def rhI (F : List Nat) (j : Nat) : List Nat := (List.range F.length).map (fun k => fop .mul (F.getD k 0) (imA j k))

theorem rhR_len (F : List Nat) (j : Nat) : (rhR F j).length = F.length := by simp [rhR]
theorem rhI_len (F : List Nat) (j : Nat) : (rhI F j).length = F.length := by simp [rhI]
theorem rhR_at (F : List Nat) (j k : Nat) (h : k < F.length) : (rhR F j).getD k 0 = fop .mul (F.getD k 0) (reA j k) := by simp [rhR, List.getD, h]
theorem rhI_at (F : List Nat) (j k : Nat) (h : k < F.length) : (rhI F j).getD k 0 = fop .mul (F.getD k 0) (imA j k) := by simp [rhI, List.getD, h]

/-- All operations of a rhythm are valid. -/
structure ROk (F : List Nat) (j : Nat) : Prop where
  mr : ∀ k, k < F.length → FOk .mul (F.getD k 0) (reA j k)
  mi : ∀ k, k < F.length → FOk .mul (F.getD k 0) (imA j k)
  tr : TAll (rhR F j)
  ti : TAll (rhI F j)
  sr : FOk .add (tl (rhR F j)).1 (tl (rhR F j)).2
  si : FOk .add (tl (rhI F j)).1 (tl (rhI F j)).2

theorem tl_take_succ {G : List Nat} {k x : Nat} (h : k < G.length) (e : G.getD k 0 = x) : tad (tl (G.take k)) x = tl (G.take (k + 1)) := by
  rw [List.take_succ_eq_append_getElem h, tl_snoc, ← e]
  simp [List.getD, List.getElem?_eq_getElem h]

theorem wj_lt (j k : Nat) : wj j k < 8 := Nat.mod_lt _ (by decide)

set_option maxHeartbeats 4000000 in
theorem rhythm_ok (v : Value) (F : List Nat) (j : Nat) (w : World) (hF : Fls w v F) (hl : F.length ≤ 5000) (hj : j < 8) (hO : ROk F j) :
    Calls Try.prog 17 #[v, .int .i64 j] w fun e w' => e = .returned (.complex .f64 (sm (tl (rhR F j))) (sm (tl (rhI F j)))) ∧ Below w.heap.size w w' := by
  obtain ⟨m, hm9⟩ : ∃ m, Hid (F.length = m) := ⟨_, rfl⟩
  have hlm : m ≤ 5000 := by rw [← hm9.out]; exact hl
  obtain ⟨p, cap, rfl⟩ : ∃ p cap, v = .slice p m cap := by rw [← hm9.out]; exact hF.form
  have HC := fun k hk => hide (hF.cellAt hm9.out k hk)
  have HO := hide hO
  obtain ⟨s1, e1⟩ : ∃ s1, Hid (sm (tl (rhR F j)) = s1) := ⟨_, rfl⟩
  obtain ⟨s2, e2⟩ : ∃ s2, Hid (sm (tl (rhI F j)) = s2) := ⟨_, rfl⟩
  rw [e1.out, e2.out]
  obtain ⟨B, hB⟩ : ∃ B, Hid (w.heap.size = B) := ⟨_, rfl⟩
  have HB0 : Hid (Below w.heap.size w ((w.alloc (total0 (0, 0))).alloc (total0 (0, 0)))) := ((Below.refl _ _).alloc (Nat.le_refl _) _).alloc (by simp) _
  have HA0 : Hid (((w.alloc (total0 (0, 0))).alloc (total0 (0, 0))).heap[w.heap.size]? = some (total0 (0, 0))) := (Below.heap_alloc _ _ _ (by simp)).trans (alloc_at _ _)
  have HA1 : Hid (((w.alloc (total0 (0, 0))).alloc (total0 (0, 0))).heap[w.heap.size + 1]? = some (total0 (0, 0))) := by
    have := alloc_at (w.alloc (total0 (0, 0))) (total0 (0, 0))
    rw [show (w.alloc (total0 (0, 0))).heap.size = w.heap.size + 1 from by simp] at this
    exact this
  clear hF hl hO
  go_enter Try.func17, Try.ntmps17
  go_wp2_with fail
  refine (eighths_ok _).mono ?_
  rintro e w1 ⟨rfl, hb1⟩
  have hs1 : w.heap.size + 2 ≤ w1.heap.size := by have := hb1.size; simp at this; omega
  have hz1 : ((w.alloc (total0 (0, 0))).alloc (total0 (0, 0))).heap.size = w.heap.size + 2 := by simp
  have K0 := hide ((hb1.block w.heap.size (by simp; omega)).trans HA0.out)
  have K1 := hide ((hb1.block (w.heap.size + 1) (by simp)).trans HA1.out)
  have KB := hide (HB0.out.trans (hb1.mono (by simp; omega)))
  have KC := zeros_cpx w1
  clear hb1 HA0 HA1 HB0 hz1
  go_wp2_with (first | fail | (refine wpList_store_cpx rfl _ _ rfl _ _ eig KC rfl rfl rfl ?_; intro w2 hA hg hsz))
  have hsz2 : w2.heap.size = w1.heap.size + 1 := by rw [hsz]; simp
  have L0 := hide ((hg.block w.heap.size (by simp; omega) (by simp; omega)).trans ((Below.heap_alloc _ _ _ (by omega)).trans K0.out))
  have L1 := hide ((hg.block (w.heap.size + 1) (by simp; omega) (by simp; omega)).trans ((Below.heap_alloc _ _ _ (by omega)).trans K1.out))
  have LB := hide ((KB.out.alloc (by omega) zeroC).grown hg (by simp; omega) (fun k h => by cases h; omega))
  have LA := hide hA
  clear K0 K1 KB KC hg hsz hA
  generalize hB2 : w1.heap.size = B2 at *
  clear hB2
  go_wp2
  go_loopw [14] (fun i wr => ∃ k : Nat, k ≤ m ∧ i = .int .i64 k ∧ Hid (wr.heap[w.heap.size]? = some (total0 (tl ((rhR F j).take k)))) ∧ Hid (wr.heap[w.heap.size + 1]? = some (total0 (tl ((rhI F j).take k)))) ∧ Hid (Cpx wr B2 eig) ∧ Hid (Below w.heap.size w wr)) (fun i _ => m - (intOf i).toNat)
  case atStart => exact ⟨0, by omega, rfl, L0.out, L1.out, LA.out, LB.out⟩
  case round =>
    obtain ⟨k, hk, rfl, h0, h1, hA, hbw⟩ := hrel
    clear L0 L1 LA LB
    by_cases hlt : k < m
    · obtain ⟨b, off, rfl, hcap, hcap2, hb, hcell⟩ := (HC k hlt).out
      have hkF : k < F.length := by rw [hm9.out]; exact hlt
      have hcw : wr.cell? ⟨b, off + k, none⟩ = some (.float .f64 (F.getD k 0)) := by rw [hbw.out.cell (p := ⟨b, off + k, none⟩) hb]; exact hcell
      have hO := HO.out
      have kr : TOk (tl ((rhR F j).take k)) (fop .mul (F.getD k 0) (reA j k)) := by have := hO.tr k (by rw [rhR_len]; exact hkF); rw [rhR_at F j k hkF] at this; exact this
      have ki : TOk (tl ((rhI F j).take k)) (fop .mul (F.getD k 0) (imA j k)) := by have := hO.ti k (by rw [rhI_len]; exact hkF); rw [rhI_at F j k hkF] at this; exact this
      have mr := hO.mr k hkF
      have mi := hO.mi k hkF
      have hcA := (hA.out.cell (wj_lt j k)).1
      have HR := hide (tadd0_ok _ _ kr _ _ h0.out)
      have HI := hide (fun w9 h9 => tadd0_ok _ _ ki (w.heap.size + 1) w9 h9)
      have HN1 := hide (tl_take_succ (G := rhR F j) (by rw [rhR_len]; exact hkF) (rhR_at F j k hkF))
      have HN2 := hide (tl_take_succ (G := rhI F j) (by rw [rhI_len]; exact hkF) (rhI_at F j k hkF))
      have hjk : j * k ≤ 35000 := Nat.le_trans (Nat.mul_le_mul (show j ≤ 7 by omega) (show k ≤ 5000 by omega)) (by decide)
      have hwl := wj_lt j k
      have hm1 : (j : Int) * (k : Int) = ((j * k : Nat) : Int) := (Int.natCast_mul j k).symm
      have hm2 : ((j * k : Nat) : Int).tmod 8 = ((wj j k : Nat) : Int) := rfl
      have r1 := fun w => run_float_arith (P := Try.prog) w .mul 23 .f64 _ _ _ mr
      have r2 := fun w => run_float_arith (P := Try.prog) w .mul 23 .f64 _ _ _ mi
      have hr0 : (eig.getD (wj j k) (0, 0)).1 = reA j k := rfl
      have hi0 : (eig.getD (wj j k) (0, 0)).2 = imA j k := rfl
      rw [hr0, hi0] at hcA
      clear hcell HC kr ki mr mi hO HO hr0 hi0
      generalize fop .mul (F.getD k 0) (reA j k) = yr at *
      generalize fop .mul (F.getD k 0) (imA j k) = yi at *
      generalize F.getD k 0 = x at *
      generalize reA j k = ar at *
      generalize imA j k = ai at *
      generalize wj j k = q at *
      generalize j * k = jk at *
      go_wp2_with fail
      refine HR.out.mono ?_
      rintro e w3 ⟨rfl, hblk3, hbl3, hsz3, hoth3⟩
      have h1' := HI.out w3 ((hoth3 _ (by omega)).trans h1.out)
      clear HI
      go_wp2_with fail
      refine h1'.mono ?_
      rintro e w4 ⟨rfl, hblk4, hbl4, hsz4, hoth4⟩
      have G0 := hide ((hoth4 w.heap.size (by omega)).trans hblk3)
      have G1 := hide hblk4
      have GA := hide (hA.out.block ((hoth4 B2 (by omega)).trans (hoth3 B2 (by omega))))
      have GB := hide ((hbw.out.trans hbl3).trans (hbl4.mono (by omega)))
      clear hblk3 hbl3 hsz3 hoth3 hblk4 hbl4 hsz4 hoth4 hcw hcA
      go_wp2
      go_roundw
      case rel => exact ⟨k + 1, by omega, by go_num, by rw [← HN1.out]; exact G0.out, by rw [← HN2.out]; exact G1.out, GA.out, GB.out⟩
      case measure => simp [intOf]; omega
    · have q1 : (rhR F j).take k = rhR F j := List.take_of_length_le (by rw [rhR_len, hm9.out]; omega)
      have q2 : (rhI F j).take k = rhI F j := List.take_of_length_le (by rw [rhI_len, hm9.out]; omega)
      rw [q1] at h0
      rw [q2] at h1
      have H1 := hide (tsum0_ok _ HO.out.sr _ _ h0.out)
      have H2 := hide (fun w9 h9 => tsum0_ok _ HO.out.si (w.heap.size + 1) w9 h9)
      rw [e1.out] at H1
      rw [e2.out] at H2
      clear HC HO q1 q2
      go_wp2_with fail
      refine H1.out.mono ?_
      rintro e w3 ⟨rfl, hd3⟩
      have H2' := H2.out w3 (by rw [hd3.heap]; exact h1.out)
      clear H2
      go_wp2_with fail
      refine H2'.mono ?_
      rintro e w4 ⟨rfl, hd4⟩
      have GB := hide ((hbw.out.trans (hd3.below _)).trans (hd4.below _))
      clear hd3 hd4
      go_wp2
      go_ret
      exact ⟨rfl, GB.out⟩

end Go.Proofs.Ytbhmhgkbobajfaa

/- Package strike: Rhythm. -/
namespace Go.Proofs.Ytbhmhgkbobajfaa
open Go.RowKit
set_option maxRecDepth 20000
set_option linter.unusedVariables false

/-- A rhythm. -/
def rh1 (F : List Nat) (j : Nat) : Nat × Nat := (sm (tl (rhR F j)), sm (tl (rhI F j)))
def rhAll (F : List Nat) : List (Nat × Nat) := (List.range 8).map (rh1 F)

theorem rhAll_len (F : List Nat) : (rhAll F).length = 8 := by simp [rhAll]
theorem rhAll_at (F : List Nat) (j : Nat) (h : j < 8) : (rhAll F).getD j (0, 0) = rh1 F j := by simp [rhAll, List.getD, h]

theorem eq_rhAll {F : List Nat} {zs : List (Nat × Nat)} (hl : zs.length = 8) (h : ∀ j, j < 8 → zs.getD j (0, 0) = rh1 F j) : zs = rhAll F := by
  apply List.ext_getElem (by rw [hl, rhAll_len])
  intro i h1 h2
  have := h i (by omega)
  rw [← rhAll_at F i (by omega)] at this
  simpa [List.getD, h1, h2] using this

@[go_sem] theorem run_store_complex (P : Program) (w : World) (a : Addr) (k : FloatKind) (x y : Nat) (m) : (store a (.complex k x y) m).run P w = stored P w a (.complex k x y) m := run_store P w a _ m rfl

theorem ret_cpx_tmp {fn : Func} {R : Ending → World → Prop} {a : Act} {w : World} {p u : Tmp} {b : Nat} {zs : List (Nat × Nat)} {t : Value} (h : fn.results = #[.cell p 28, .tmp u]) (hp : a.tmps.getD p undef = .pointer (some ⟨b, 0, none⟩)) (hu : a.tmps.getD u undef = t) (hA : Cpx w b zs) (hd : a.defers = []) (hR : R (.returned (.tuple #[.agg (cps zs), t])) w) : bodyPost Try.prog fn R .ret a w := by
  refine bodyPost_ret (v := .tuple #[.agg (cps zs), t]) ?_ hd hR
  have hp' : a.tmps[p]?.getD undef = .pointer (some ⟨b, 0, none⟩) := by simpa using hp
  have hu' : a.tmps[u]?.getD undef = t := by simpa using hu
  rw [results_cell_tmp h]
  simp [hp', hu', asAddr, Result.andThen, run_loadVar_row w b 28 28 (cps zs) _ _ hA.1 Try.underlying28 rfl (by rw [cps_size, hA.2]; kernel_rfl)]

set_option maxHeartbeats 2000000 in
theorem rhythmP_err (v : Value) (F : List Nat) (w : World) (hF : Fls w v F) (hc : chkF F ≠ 0) :
    Calls Try.prog 7 #[v] w fun e w' => e = .returned (.tuple #[.agg (cps zerosC), .int .i64 (chkF F)]) ∧ Below w.heap.size w w' := by
  have HB0 := hide ((Below.refl w.heap.size w).alloc (Nat.le_refl _) zeroC)
  have H := hide (checkN_ok v F (w.alloc zeroC) (hF.below HB0.out))
  have H0 := hide (zeros_cpx w)
  obtain ⟨p, cap, rfl⟩ := hF.form
  clear hF
  generalize chkF F = c at *
  generalize F.length = m at *
  go_enter Try.func7, Try.ntmps7
  go_wp2_with fail
  refine H.out.mono ?_
  rintro e w1 ⟨rfl, rfl⟩
  go_wp2_with (first | fail | (refine wpList_store_cpx rfl _ _ rfl _ _ zerosC H0.out rfl rfl rfl ?_; intro w2 hA hg hsz))
  go_wp2
  exact ret_cpx_tmp (p := 2) (u := 3) rfl rfl rfl hA rfl ⟨rfl, HB0.out.grown hg (by simp) (fun k h => by cases h; exact Nat.le_refl _)⟩

set_option maxHeartbeats 4000000 in
theorem rhythmP_ok (v : Value) (F : List Nat) (w : World) (hF : Fls w v F) (hc : chkF F = 0) (hO : ∀ j, j < 8 → ROk F j) :
    Calls Try.prog 7 #[v] w fun e w' => e = .returned (.tuple #[.agg (cps (rhAll F)), .int .i64 0]) ∧ Below w.heap.size w w' := by
  have HB0 := hide ((Below.refl w.heap.size w).alloc (Nat.le_refl _) zeroC)
  have H := hide (checkN_ok v F (w.alloc zeroC) (hF.below HB0.out))
  rw [hc] at H
  have h5 : F.length ≤ 5000 := by
    rcases Nat.lt_or_ge 5000 F.length with h | h
    · unfold chkF at hc; rw [if_pos h] at hc; cases hc
    · exact h
  have HR := hide (fun j hj W hW => rhythm_ok v F j W (hF.below hW) h5 hj (hO j hj))
  have H0 := hide (zeros_cpx w)
  obtain ⟨p, cap, rfl⟩ := hF.form
  clear hF h5 hc hO
  generalize F.length = m at *
  obtain ⟨R, hR⟩ : ∃ R, Hid (rhAll F = R) := ⟨_, rfl⟩
  rw [hR.out]
  go_enter Try.func7, Try.ntmps7
  go_wp2_with fail
  refine H.out.mono ?_
  rintro e w1 ⟨rfl, rfl⟩
  clear H
  have K0 := hide (H0.out.alloc zeroC)
  have KA := hide (zeros_cpx (w.alloc zeroC))
  have KB := hide (HB0.out.alloc (by simp) zeroC)
  rw [show (w.alloc zeroC).heap.size = w.heap.size + 1 from by simp] at KA
  clear H0 HB0
  go_wp2
  go_loopw [13] (fun i wr => ∃ (k : Nat) (zs : List (Nat × Nat)), k ≤ 8 ∧ i = .int .i64 k ∧ Hid (Cpx wr w.heap.size zerosC) ∧ Hid (Cpx wr (w.heap.size + 1) zs) ∧ Hid (∀ j, j < k → zs.getD j (0, 0) = rh1 F j) ∧ Hid (Below w.heap.size w wr)) (fun i _ => 8 - (intOf i).toNat)
  case atStart => exact ⟨0, zerosC, by omega, rfl, K0.out, KA.out, fun j hj => absurd hj (by omega), KB.out⟩
  case round =>
    obtain ⟨k, zs, hk, rfl, h0, hA, hz, hbw⟩ := hrel
    clear K0 KA KB
    by_cases hlt : k < 8
    · have HK := hide (HR.out k hlt wr hbw.out)
      have HZ : Hid (∀ j, j < k + 1 → (zs.set k (rh1 F k)).getD j (0, 0) = rh1 F j) := fun j hj => by
        by_cases e : j = k
        · subst e
          simp [List.getD, hA.out.2, hlt]
        · have := hz.out j (by omega)
          simp only [List.getD] at this ⊢
          rw [List.getElem?_set_ne (by omega)]
          exact this
      have hf1 : sm (tl (rhR F k)) = (rh1 F k).1 := rfl
      have hf2 : sm (tl (rhI F k)) = (rh1 F k).2 := rfl
      rw [hf1, hf2] at HK
      clear HR hf1 hf2
      generalize rh1 F k = q at *
      obtain ⟨q1, q2⟩ := q
      dsimp only at HK
      go_wp2_with fail
      refine HK.out.mono ?_
      rintro e w3 ⟨rfl, hb3⟩
      have hs := hA.out.lt
      have hA3 := hA.out.below hb3 hs
      have h03 := h0.out.below hb3 h0.out.lt
      have hfc := hA3.cell hlt
      have ⟨hc1, hc2⟩ := hfc
      have G0 := hide (h03.set_other (b' := w.heap.size + 1) (k := k) (by omega) (.complex .f64 q1 q2))
      have GA := hide (hA3.set (k := k) q1 q2)
      have GB := hide ((hbw.out.trans (hb3.mono hbw.out.size)).setCell (p := ⟨w.heap.size + 1, k, none⟩) (by simp) (.complex .f64 q1 q2))
      clear hb3 hA3 h03 hfc hs
      go_wp2
      go_roundw
      case rel => exact ⟨k + 1, _, by omega, by go_num, G0.out, GA.out, HZ, GB.out⟩
      case measure => simp [intOf]; omega
    · have hzs := hide (eq_rhAll hA.out.2 (fun j hj => hz.out j (by omega)))
      have hA9 := hA.out
      have h09 := h0.out
      have hl := hA9.2
      go_wp2_with (first | refine wpList_load_cpx rfl _ rfl _ _ hA9 rfl ?_ | (refine wpList_store_cpx rfl _ _ rfl _ _ _ h09 rfl rfl hl ?_; intro w2 hA2 hg2 hsz2))
      go_wp2
      exact ret_cpx_tmp (p := 2) (u := 3) rfl rfl rfl hA2 rfl ⟨by rw [hzs.out, hR.out]; rfl, hbw.out.grown hg2 hbw.out.size (fun k h => by cases h; exact Nat.le_refl _)⟩

end Go.Proofs.Ytbhmhgkbobajfaa

/- Sums are never a nought with a sign; what may be summed up is valid. -/
namespace Go.Proofs.Ytbhmhgkbobajfaa
open Go.RowKit
set_option maxRecDepth 20000
set_option linter.unusedVariables false

/-- A nought with a sign. -/
abbrev M0 : Nat := 9223372036854775808

theorem word_ne (neg : Bool) (r : Nat) (h0 : 0 < r) (h1 : r ≤ 9218868437227405312) : DF.word neg r ≠ M0 := by
  have hs : DF.signWeight = 9223372036854775808 := by decide
  unfold Ieee.Format.word
  cases neg <;> simp [hs, M0] <;> omega

theorem nearest_ne (neg : Bool) (mag P : Nat) (h0 : 0 < mag) : DF.nearest neg mag ((P : Int) - 1074 - (0 : Nat)) ≠ M0 := by
  obtain ⟨L, kept, hn, h1, h2, h3, h4, h5⟩ := nearest_parts neg mag P 0 h0
  rw [hn]
  have hk : 0 < kept := by
    rcases Nat.eq_zero_or_pos L with h | h
    · subst h
      have : 1 ≤ kept := h5 1 (by
        rw [Nat.add_zero, Nat.pow_zero, Nat.mul_one]
        exact Nat.mul_pos h0 (Nat.two_pow_pos P))
      omega
    · have := h2 h; omega
  exact word_ne neg _ (by omega) (Nat.min_le_right _ _)

theorem add_ne {x y r : Nat} {a b : Int} (hx : FV x a) (hy : FV y b) (hne : x ≠ M0) (hr : DF.add x y = some r) : r ≠ M0 := by
  have hx9 := hx
  obtain ⟨s, m, I, _, e1, _, hv⟩ := hx
  obtain ⟨u, n, J, _, e2, _, hw⟩ := hy
  have hadd : DF.add x y = some (DF.nearest (if Ieee.signed s m (I - min I J) + Ieee.signed u n (J - min I J) = 0 then s && u else decide (Ieee.signed s m (I - min I J) + Ieee.signed u n (J - min I J) < 0)) (Ieee.signed s m (I - min I J) + Ieee.signed u n (J - min I J)).natAbs (((min I J : Nat) : Int) - 1074 - (0 : Nat))) := by
    unfold Ieee.Format.add
    rw [e1, e2, sum_read]
    rfl
  rw [hadd] at hr
  injection hr with hr
  rw [← hr]
  by_cases h0 : Ieee.signed s m (I - min I J) + Ieee.signed u n (J - min I J) = 0
  · rw [if_pos h0, h0]
    cases hs : s with
    | false =>
      rw [Bool.false_and]
      have : DF.nearest false (0 : Int).natAbs (((min I J : Nat) : Int) - 1074 - (0 : Nat)) = DF.word false 0 := by
        unfold Ieee.Format.nearest
        rw [if_pos (by rfl)]
      rw [this]
      decide
    | true =>
      cases hu : u with
      | false =>
        rw [Bool.and_false]
        have : DF.nearest false (0 : Int).natAbs (((min I J : Nat) : Int) - 1074 - (0 : Nat)) = DF.word false 0 := by
          unfold Ieee.Format.nearest
          rw [if_pos (by rfl)]
        rw [this]
        decide
      | true =>
        exfalso
        subst hs; subst hu
        rw [signed_eq, signed_eq, if_pos rfl, if_pos rfl] at h0
        have hm0 : m * 2 ^ (I - min I J) = 0 := by omega
        have hm : m = 0 := by
          rcases Nat.mul_eq_zero.1 hm0 with h | h
          · exact h
          · have := Nat.two_pow_pos (I - min I J); omega
        subst hm
        have ha : a = 0 := by rw [hv, signed_zero]
        rw [ha] at hx9
        rcases FV.isz hx9 with h | h
        · rw [h, show DF.read 0 = .number false 0 (-1074) from by kernel_rfl] at e1
          injection e1 with q _ _
          cases q
        · exact hne h
  · rw [if_neg h0]
    exact nearest_ne _ _ _ (by omega)

/-- No part has a sign on a nought. -/
def NZ (s : Nat × Nat) : Prop := s.1 ≠ M0 ∧ s.2 ≠ M0

theorem fop_ne {x y : Nat} {k j : Nat} {a b : Int} (hx : FV x a) (hy : FV y b) (h : FOk .add x y) (hne : x ≠ M0) : fop .add x y ≠ M0 := add_ne hx hy hne h

theorem NZ.tad {s : Nat × Nat} {k p x : Nat} (hz : NZ s) (h : TBd s k p) (hx : FB x p) (hk : k ≤ 10000) (hp : p ≤ 800) : NZ (tad s x) := by
  have hx1 : ∃ v, FV x v ∧ v.natAbs ≤ 1 * 2 ^ (XP + p) := by obtain ⟨v, h1, h2⟩ := hx; exact ⟨v, h1, by rw [Nat.one_mul]; exact h2⟩
  have hkk : k * (k + 1) ≤ 10000 * 10001 := Nat.mul_le_mul hk (by omega)
  obtain ⟨k1, v1⟩ := add_many h.all hx1 (by omega) hp
  obtain ⟨k2, v2⟩ := sub_many h.all v1 (by omega) hp
  obtain ⟨k3, v3⟩ := add_many v2 hx1 (by omega) hp
  obtain ⟨k4, v4⟩ := add_many h.lost v3 (by omega) hp
  obtain ⟨k5, v5⟩ := sub_many hx1 v1 (by omega) hp
  obtain ⟨k6, v6⟩ := add_many v5 h.all (by omega) hp
  obtain ⟨k7, v7⟩ := add_many h.lost v6 (by omega) hp
  obtain ⟨va, fa, _⟩ := h.all
  obtain ⟨vl, fl, _⟩ := h.lost
  obtain ⟨vx, fx, _⟩ := hx
  obtain ⟨v3, f3, _⟩ := v3
  obtain ⟨v6, f6, _⟩ := v6
  refine ⟨add_ne fa fx hz.1 k1, ?_⟩
  unfold Go.Proofs.Ytbhmhgkbobajfaa.tad
  dsimp only
  split
  · exact add_ne fl f3 hz.2 k4
  · exact add_ne fl f6 hz.2 k7

/-- Bounded numbers. -/
theorem NZ.list : ∀ (F G : List Nat) (i p : Nat), NZ (tl G) → TBd (tl G) i p → i + F.length ≤ 10000 → p ≤ 800 → (∀ x, x ∈ F → FB x p) → NZ (tl (G ++ F))
  | [], G, i, p, hG, hT, _, _, _ => by rw [List.append_nil]; exact hG
  | x :: F, G, i, p, hG, hT, hi, hp, hf => by
    simp only [List.length_cons] at hi
    obtain ⟨k1, k2⟩ := hT.add (hf x (by simp)) (by omega) hp
    have hrec := NZ.list F (G ++ [x]) (i + 1) p (by rw [tl_snoc]; exact hG.tad hT (hf x (by simp)) (by omega) hp) (by rw [tl_snoc]; exact k2) (by omega) hp (fun y hy => hf y (List.mem_cons_of_mem _ hy))
    rw [List.append_assoc] at hrec
    exact hrec

/-- All of a sum of at most 500 bounded numbers. -/
structure SOk (F : List Nat) : Prop where
  all : TAll F
  ok : FOk .add (tl F).1 (tl F).2
  fb : FB (sm (tl F)) 100
  us : uns (sm (tl F)) = sm (tl F)

theorem SOk.of {F : List Nat} {p : Nat} (hl : F.length ≤ 500) (hp : p ≤ 60) (h : ∀ x, x ∈ F → FB x p) : SOk F := by
  obtain ⟨h1, h2⟩ := TBd.list F [] 0 p TAll.nil (TBd.zero p) (by omega) (by omega) h
  have h3 := NZ.list F [] 0 p ⟨by decide, by decide⟩ (TBd.zero p) (by omega) (by omega) h
  rw [List.nil_append] at h1 h2 h3
  rw [Nat.zero_add] at h2
  obtain ⟨k1, k2⟩ := h2.sm hl (by omega)
  refine ⟨h1, k1, k2.mono (by omega), ?_⟩
  obtain ⟨va, fa, _⟩ := h2.all
  obtain ⟨vl, fl, _⟩ := h2.lost
  have hne : sm (tl F) ≠ M0 := add_ne fa fl h3.1 k1
  by_cases h0 : (FloatKind.f64.format.order (sm (tl F)) 0 == some .eq) = true
  · obtain ⟨v, fv, _⟩ := k2
    rcases zero_isz fv h0 with e | e
    · rw [e]; exact isz.uns (Or.inl rfl)
    · exact absurd e hne
  · unfold Go.Proofs.Ytbhmhgkbobajfaa.uns; rw [if_neg h0]

theorem SOk.alike {F : List Nat} (h : SOk F) : Alike (sm (tl F)) (uns (sm (tl F))) := by rw [h.us]; exact Alike.fb h.fb

theorem eig_fb (i : Nat) : FB (eig.getD i (0, 0)).1 30 ∧ FB (eig.getD i (0, 0)).2 30 := by
  have f0 : FB 0 30 := FB.zero 30
  have f1 : FB one 30 := mayB_FB (by decide) (by kernel_rfl)
  have f2 : FB hf 30 := mayB_FB (by decide) (by kernel_rfl)
  have f3 : FB hm 30 := mayB_FB (by decide) (by kernel_rfl)
  have f4 : FB mone 30 := mayB_FB (by decide) (by kernel_rfl)
  by_cases h : i < 8
  · rcases (show i = 0 ∨ i = 1 ∨ i = 2 ∨ i = 3 ∨ i = 4 ∨ i = 5 ∨ i = 6 ∨ i = 7 by omega) with rfl | rfl | rfl | rfl | rfl | rfl | rfl | rfl
    all_goals (constructor <;> assumption)
  · have : eig.getD i (0, 0) = (0, 0) := by
      unfold List.getD
      rw [List.getElem?_eq_none (by simp [eig]; omega)]
      rfl
    rw [this]
    exact ⟨f0, f0⟩

/-- What is true of numbers that may be. -/
structure NOkF (F : List Nat) : Prop where
  len : F.length ≤ 500
  fb : ∀ x, x ∈ F → FB x 30

theorem NOkF.of {F : List Nat} (hc : chkF F = 0) (hl : F.length ≤ 500) (ht : ∀ x, x ∈ F → x < 18446744073709551616) : NOkF F := by
  refine ⟨hl, fun x hx => mayB_FB (ht x hx) ?_⟩
  obtain ⟨k, hk, e⟩ := List.getElem_of_mem hx
  unfold chkF at hc
  rw [if_neg (by omega)] at hc
  by_cases h3 : ∃ k, k < F.length ∧ mayB (F.getD k 0) = false
  · rw [if_pos h3] at hc; cases hc
  · cases hb : mayB x with
    | true => rfl
    | false => exact absurd ⟨k, hk, by simp [List.getD, hk, e, hb]⟩ h3

theorem NOkF.at {F : List Nat} (h : NOkF F) {k : Nat} (hk : k < F.length) : FB (F.getD k 0) 30 := by
  have : F.getD k 0 = F[k] := by simp [List.getD, hk]
  rw [this]
  exact h.fb _ (List.getElem_mem hk)

theorem NOkF.sum {F : List Nat} (h : NOkF F) : SOk F := SOk.of h.len (show 30 ≤ 60 by decide) h.fb

theorem NOkF.re {F : List Nat} (h : NOkF F) (j : Nat) : SOk (rhR F j) := by
  refine SOk.of (p := 60) (by rw [rhR_len]; exact h.len) (by decide) (fun x hx => ?_)
  simp only [rhR, List.mem_map, List.mem_range] at hx
  obtain ⟨k, hk, rfl⟩ := hx
  exact ((h.at hk).mul (eig_fb (wj j k)).1 (by decide)).2

theorem NOkF.im {F : List Nat} (h : NOkF F) (j : Nat) : SOk (rhI F j) := by
  refine SOk.of (p := 60) (by rw [rhI_len]; exact h.len) (by decide) (fun x hx => ?_)
  simp only [rhI, List.mem_map, List.mem_range] at hx
  obtain ⟨k, hk, rfl⟩ := hx
  exact ((h.at hk).mul (eig_fb (wj j k)).2 (by decide)).2

theorem NOkF.rok {F : List Nat} (h : NOkF F) (j : Nat) : ROk F j :=
  ⟨fun k hk => ((h.at hk).mul (eig_fb (wj j k)).1 (by decide)).1, fun k hk => ((h.at hk).mul (eig_fb (wj j k)).2 (by decide)).1, (h.re j).all, (h.im j).all, (h.re j).ok, (h.im j).ok⟩

end Go.Proofs.Ytbhmhgkbobajfaa

/- append, and where the new slice lies. -/
namespace Go.Proofs.Ytbhmhgkbobajfaa
open Go.RowKit

theorem run_append_keep {P : Program} (w : World) (base : Nat) (t ty e : TypeId) (i : TypeInfo) (z : Value) (size bytes : Nat) (ht : P.underlying t = some (.slice e)) (hi : P.info? e = some i) (hz : i.zero = some z)
    (hsize : i.size = size) (hby : i.bytes = bytes) (hzs : z.cells.size = size) (hsz : 0 < size)
    (v : Value) (n : Nat) (xs : List Value) (hown : w.ownsRow base e size v n xs)
    (a : Addr) (m c : Nat) (news : List Value) (hl : news.length = m * size) (hnews : ∀ j u, news[j]? = some u → w.cell? (a.add j) = some u) (h1 : ∀ u ∈ news, u.oneCell' = true)
    (h63 : n + m ≤ maxLen) (hbytes : (n + m) * bytes ≤ 140737488355328) (hbase : base ≤ w.heap.size) :
    ∃ v' w', (Builtin.append_ #[t, t] ty #[v, .slice (some a) m c]).run P w = .ok v' w' ∧ w'.ownsRow base e size v' (n + m) (xs ++ news) ∧ w.grownBy w' v.ownBlock ∧
      (v'.ownBlock = v.ownBlock ∨ (v'.ownBlock = some w.heap.size ∧ w.grownBy w' none)) := by
  obtain ⟨v', w', hr, h2, h3, _, h5⟩ := run_append_own_at (P := P) w base t ty e i z size bytes ht hi hz hsize hby hzs hsz v n xs hown a m c news hl hnews h1 h63 hbytes hbase
  refine ⟨v', w', hr, h2, h3, ?_⟩
  subst hsize
  subst hby
  rcases hown.2 with ⟨rfl, rfl⟩ | ⟨g, cap, cur, rfl, hbg, hg, hnc, hcm, hcs, htake⟩
  · exact h5.imp id (fun h => ⟨h, h3⟩)
  · by_cases hroom : n + m ≤ cap
    · have hfit : n * i.size + news.length ≤ cur.size := by rw [hl, hcs, ← Nat.add_mul]; exact Nat.mul_le_mul_right _ hroom
      have hr' := run_append_room (P := P) w t ty e i ht hi g n cap cur hg a m c news hl hnews h1 hroom hfit
      rw [hr] at hr'
      obtain ⟨e1, _⟩ := Result.ok.inj hr'
      left; rw [e1]; rfl
    · have holds : ∀ j u, xs[j]? = some u → w.cell? ((⟨g, 0, none⟩ : Addr).add j) = some u := hown.cells (g := g) rfl
      have hsmall : n + m ≤ 9223372036854775807 := by simp only [maxLen] at h63; omega
      have hr' := run_append_grow (P := P) w t ty e i z ht hi hz ⟨g, 0, none⟩ n cap xs hown.1 holds a m c news hl hnews (by omega) (by omega) (growslice_fits (by omega) hbytes)
      rw [hr] at hr'
      obtain ⟨e1, e2⟩ := Result.ok.inj hr'
      right
      rw [e1, e2]
      exact ⟨rfl, ⟨rfl, rfl, rfl, by simp, fun k hk _ => Below.heap_alloc w.drew _ k hk⟩⟩

theorem wpList_append_keep {P : Program} (w : World) {ops : Array Oper} {rest : List Oper} {o : Oper} {a : Act} {Q : Exit → Act → World → Prop} (hgd : o.guard = none) (s x : Operand) (t : TypeId)
    (ho : o.op = .call { callee := .builtin .append, args := #[s, x], argTypes := #[t, t] })
    (base : Nat) (e : TypeId) (i : TypeInfo) (z : Value) (size bytes : Nat) (ht : P.underlying t = some (.slice e)) (hi : P.info? e = some i) (hz : i.zero = some z)
    (hsize : i.size = size) (hby : i.bytes = bytes) (hzs : z.cells.size = size) (hsz : 0 < size)
    (v : Value) (n : Nat) (xs : List Value) (hs : a.eval s = v) (hown : w.ownsRow base e size v n xs)
    (ad : Addr) (m c : Nat) (news : List Value) (hx : a.eval x = .slice (some ad) m c) (hl : news.length = m * size) (hnews : ∀ j u, news[j]? = some u → w.cell? (ad.add j) = some u) (h1 : ∀ u ∈ news, u.oneCell' = true)
    (h63 : n + m ≤ maxLen) (hbytes : (n + m) * bytes ≤ 140737488355328) (hbase : base ≤ w.heap.size)
    (h : ∀ v' w', w'.ownsRow base e size v' (n + m) (xs ++ news) → w.grownBy w' v.ownBlock → (v'.ownBlock = v.ownBlock ∨ (v'.ownBlock = some w.heap.size ∧ w.grownBy w' none)) → wpList P ops Q rest (a.put o.dst v') w') :
    wpList P ops Q (o :: rest) a w := by
  refine wpList_plain hgd fun K hK => ?_
  obtain ⟨v', w', hr, h2, h3, h4⟩ := run_append_keep (P := P) w base t o.type e i z size bytes ht hi hz hsize hby hzs hsz v n xs hown ad m c news hl hnews h1 h63 hbytes hbase
  unfold Oper.wp execOp
  simp only [ho, resolve, invoke, builtin, Sem.run_bind, Sem.run_pure, Result.andThen_ok, List.map_toArray, List.map_cons, List.map_nil, hs, hx, hr]
  exact hK _ _ (h v' w' h2 h3 h4)

/-- .. as one step of a region that draws. -/
theorem step_append_keep {P : Program} {ops : Array Oper} {o : Oper} {a : Act} {w : World} {K : Act → World → Prop} {Q : Exit → Act → World → Prop} {E : Prop} (hg : o.guard = none) (s x : Operand) (t : TypeId)
    (ho : o.op = .call { callee := .builtin .append, args := #[s, x], argTypes := #[t, t] })
    (base : Nat) (e : TypeId) (i : TypeInfo) (z : Value) (size bytes : Nat) (ht : P.underlying t = some (.slice e)) (hi : P.info? e = some i) (hz : i.zero = some z)
    (hsize : i.size = size) (hby : i.bytes = bytes) (hzs : z.cells.size = size) (hsz : 0 < size)
    (v : Value) (n : Nat) (xs : List Value) (hs : a.eval s = v) (hown : w.ownsRow base e size v n xs)
    (ad : Addr) (m c : Nat) (news : List Value) (hx : a.eval x = .slice (some ad) m c) (hl : news.length = m * size) (hnews : ∀ j u, news[j]? = some u → w.cell? (ad.add j) = some u) (h1 : ∀ u ∈ news, u.oneCell' = true)
    (h63 : n + m ≤ maxLen) (hbytes : (n + m) * bytes ≤ 140737488355328) (hbase : base ≤ w.heap.size)
    (h : ∀ v' w', w'.ownsRow base e size v' (n + m) (xs ++ news) → w.grownBy w' v.ownBlock → (v'.ownBlock = v.ownBlock ∨ (v'.ownBlock = some w.heap.size ∧ w.grownBy w' none)) → K (a.put o.dst v') w') :
    if Region.wanted o (yielded ops a.tmps) = true then Oper.wp P o a w K Q else E := by
  have hw : Region.wanted o (yielded ops a.tmps) = true := by simp [Region.wanted, hg]
  rw [if_pos hw]
  obtain ⟨v', w', hr, h2, h3, h4⟩ := run_append_keep (P := P) w base t o.type e i z size bytes ht hi hz hsize hby hzs hsz v n xs hown ad m c news hl hnews h1 h63 hbytes hbase
  unfold Oper.wp execOp
  simp only [ho, resolve, invoke, builtin, Sem.run_bind, Sem.run_pure, Result.andThen_ok, List.map_toArray, List.map_cons, List.map_nil, hs, hx, hr]
  exact h v' w' h2 h3 h4

end Go.Proofs.Ytbhmhgkbobajfaa

/- Rows of floats that a call owns, one more put behind. -/
namespace Go.Proofs.Ytbhmhgkbobajfaa
open Go.RowKit
set_option maxRecDepth 20000
set_option linter.unusedVariables false

theorem fr_block {w w' : World} {base e n : Nat} {v : Value} {xs : List Value} (h : w.ownsRow base e 1 v n xs) (hb : ∀ g, v.ownBlock = some g → w'.heap[g]? = w.heap[g]?) : w'.ownsRow base e 1 v n xs := by
  obtain ⟨h1, h2⟩ := h
  refine ⟨h1, ?_⟩
  rcases h2 with h2 | ⟨g, cap, cur, hv, hg, hh, r⟩
  · exact Or.inl h2
  · exact Or.inr ⟨g, cap, cur, hv, hg, (hb g (by rw [hv]; rfl)).trans hh, r⟩

/-- Rows of unlike elements are unlike blocks. -/
theorem fr_ty {w : World} {base base' e e' n m : Nat} {u v : Value} {xs ys : List Value} (h1 : w.ownsRow base e 1 u n xs) (h2 : w.ownsRow base' e' 1 v m ys) (he : e ≠ e') : ∀ g, u.ownBlock = some g → v.ownBlock ≠ some g := by
  intro g hu hv
  rcases h1.2 with ⟨rfl, _⟩ | ⟨g1, c1, cur1, rfl, _, hh1, _⟩
  · cases hu
  · rcases h2.2 with ⟨rfl, _⟩ | ⟨g2, c2, cur2, rfl, _, hh2, _⟩
    · cases hv
    · have e1 : g1 = g := by simpa [Value.ownBlock] using hu
      have e2 : g2 = g := by simpa [Value.ownBlock] using hv
      subst e1; subst e2
      rw [hh1] at hh2
      injection hh2 with hh2
      injection hh2 with _ e2 _
      exact he e2

structure FR (w : World) (base m : Nat) (R : Nat → Value × List Nat) : Prop where
  own : ∀ i, i < m → w.ownsRow base 23 1 (R i).1 (R i).2.length ((R i).2.map (Value.float .f64))
  apart : ∀ i j, i < m → j < m → i ≠ j → ∀ g, (R i).1.ownBlock = some g → (R j).1.ownBlock ≠ some g

theorem FR.of {w w' : World} {base m : Nat} {R : Nat → Value × List Nat} (h : FR w base m R) (hb : ∀ g, base ≤ g → g < w.heap.size → (∃ i, i < m ∧ (R i).1.ownBlock = some g) → w'.heap[g]? = w.heap[g]?) : FR w' base m R :=
  ⟨fun i hi => fr_block (h.own i hi) (fun g hg => hb g ((h.own i hi).lt g hg).1 ((h.own i hi).lt g hg).2 ⟨i, hi, hg⟩), h.apart⟩

theorem FR.push {w w' : World} {base m : Nat} {R : Nat → Value × List Nat} {i y : Nat} {v' : Value} (h : FR w base m R) (hi : i < m) (h4 : w'.ownsRow base 23 1 v' ((R i).2.length + 1) (((R i).2 ++ [y]).map (Value.float .f64)))
    (hg : w.grownBy w' (R i).1.ownBlock) (hv : v'.ownBlock = (R i).1.ownBlock ∨ v'.ownBlock = some w.heap.size) : FR w' base m (fun j => if j = i then (v', (R i).2 ++ [y]) else R j) := by
  have hlt : ∀ j, j < m → ∀ g, (R j).1.ownBlock = some g → g < w.heap.size := fun j hj g e => ((h.own j hj).lt g e).2
  refine ⟨fun j hj => ?_, fun a b ha hb hab g e1 e2 => ?_⟩
  · by_cases e : j = i
    · subst e
      simp only [if_true]
      rw [List.length_append, List.length_singleton]
      exact h4
    · simp only [if_neg e]
      exact fr_block (h.own j hj) (fun g hgb => hg.block g (hlt j hj g hgb) (fun e2 => h.apart j i hj hi e g hgb e2.symm))
  · by_cases ea : a = i
    · by_cases eb : b = i
      · exact hab (ea.trans eb.symm)
      · simp only [if_pos ea, if_neg eb] at e1 e2
        rcases hv with hv | hv
        · rw [hv] at e1; exact h.apart i b hi hb (fun e => eb e.symm) g e1 e2
        · rw [hv] at e1
          have := hlt b hb g e2
          injection e1 with e1
          omega
    · by_cases eb : b = i
      · simp only [if_neg ea, if_pos eb] at e1 e2
        rcases hv with hv | hv
        · rw [hv] at e2; exact h.apart a i ha hi ea g e1 e2
        · rw [hv] at e2
          have := hlt a ha g e1
          injection e2 with e2
          omega
      · simp only [if_neg ea, if_neg eb] at e1 e2
        exact h.apart a b ha hb hab g e1 e2

/-- One float is put behind others. -/
theorem wpList_push {w : World} {ops : Array Oper} {rest : List Oper} {o : Oper} {a : Act} {Q : Exit → Act → World → Prop} (hgd : o.guard = none) (s x : Operand)
    (ho : o.op = .call { callee := .builtin .append, args := #[s, x], argTypes := #[22, 22] })
    (base : Nat) (v : Value) (F : List Nat) (hs : a.eval s = v) (hown : w.ownsRow base 23 1 v F.length (F.map (Value.float .f64)))
    (B y : Nat) (hx : a.eval x = .slice (some ⟨B, 0, none⟩) 1 1) (hB : w.heap[B]? = some (.cells #[.float .f64 y] 23)) (hl : F.length ≤ 10000) (hbase : base ≤ w.heap.size)
    (h : ∀ v' w', w'.ownsRow base 23 1 v' (F.length + 1) ((F ++ [y]).map (Value.float .f64)) → w.grownBy w' v.ownBlock → (v'.ownBlock = v.ownBlock ∨ v'.ownBlock = some w.heap.size) → wpList Try.prog ops Q rest (a.put o.dst v') w') :
    wpList Try.prog ops Q (o :: rest) a w := by
  obtain ⟨i0, hi, hz0, hz1, hz2⟩ := info_parts Try.info23
  refine wpList_append_keep w hgd s x 22 ho base 23 i0 (.float .f64 0) 1 8 Try.underlying22 hi hz0 hz1 hz2 rfl (by decide) v F.length _ hs hown ⟨B, 0, none⟩ 1 1 [.float .f64 y] hx rfl (fun j u hu => ?_) (fun u hu => ?_) (by unfold maxLen; omega) (by omega) hbase (fun v' w' h1 h2 h3 => ?_)
  · rw [Addr.add_lit, Nat.zero_add]
    unfold World.cell?
    rw [hB]
    simpa using hu
  · rw [List.mem_singleton] at hu; subst hu; rfl
  · exact h v' w' (by rw [List.map_append]; exact h1) h2 (h3.imp id (fun e => e.1))

theorem wpList_pushI {w : World} {ops : Array Oper} {rest : List Oper} {o : Oper} {a : Act} {Q : Exit → Act → World → Prop} (hgd : o.guard = none) (s x : Operand)
    (ho : o.op = .call { callee := .builtin .append, args := #[s, x], argTypes := #[36, 36] })
    (base : Nat) (v : Value) (F : List Int) (hs : a.eval s = v) (hown : w.ownsRow base 3 1 v F.length (F.map (Value.int .i64)))
    (B : Nat) (y : Int) (hx : a.eval x = .slice (some ⟨B, 0, none⟩) 1 1) (hB : w.heap[B]? = some (.cells #[.int .i64 y] 3)) (hl : F.length ≤ 10000) (hbase : base ≤ w.heap.size)
    (h : ∀ v' w', w'.ownsRow base 3 1 v' (F.length + 1) ((F ++ [y]).map (Value.int .i64)) → w.grownBy w' v.ownBlock → (v'.ownBlock = v.ownBlock ∨ v'.ownBlock = some w.heap.size) → wpList Try.prog ops Q rest (a.put o.dst v') w') :
    wpList Try.prog ops Q (o :: rest) a w := by
  obtain ⟨i0, hi, hz0, hz1, hz2⟩ := info_parts Try.info3
  refine wpList_append_keep w hgd s x 36 ho base 3 i0 (.int .i64 0) 1 8 Try.underlying36 hi hz0 hz1 hz2 rfl (by decide) v F.length _ hs hown ⟨B, 0, none⟩ 1 1 [.int .i64 y] hx rfl (fun j u hu => ?_) (fun u hu => ?_) (by unfold maxLen; omega) (by omega) hbase (fun v' w' h1 h2 h3 => ?_)
  · rw [Addr.add_lit, Nat.zero_add]
    unfold World.cell?
    rw [hB]
    simpa using hu
  · rw [List.mem_singleton] at hu; subst hu; rfl
  · exact h v' w' (by rw [List.map_append]; exact h1) h2 (h3.imp id (fun e => e.1))

abbrev two (a b : Value × List Nat) : Nat → Value × List Nat := fun i => if i = 0 then a else b

end Go.Proofs.Ytbhmhgkbobajfaa

/- The answer's SumOf; what its Rhythm has in memory. -/
namespace Go.Proofs.Ytbhmhgkbobajfaa
open Go.RowKit
set_option maxRecDepth 20000
set_option linter.unusedVariables false

set_option maxHeartbeats 2000000 in
theorem sumOf_err (v : Value) (F : List Nat) (w : World) (hF : Fls w v F) (hc : chkF F ≠ 0) :
    Calls Try.prog 6 #[v] w fun e w' => e = .returned (.tuple #[.float .f64 0, .int .i64 (chkF F)]) ∧ w = w' := by
  have hL := hF.len
  obtain ⟨m, hm⟩ : ∃ m, Hid (F.length = m) := ⟨_, rfl⟩
  obtain ⟨p, cap, rfl⟩ : ∃ p cap, v = .slice p m cap := by rw [← hm.out]; exact hF.form
  rw [hm.out] at hL
  by_cases h5 : 5000 < m
  · have HC : Hid (chkF F = 3) := by unfold chkF; rw [hm.out, if_pos h5]; exact rfl
    rw [HC.out]
    clear hF hc HC
    go_enter Try.func6, Try.ntmps6
    go_wp2
    go_ret2
    exact ⟨rfl, rfl⟩
  · have HC := fun k hk => hide (hF.cellAt hm.out k hk)
    have HB := fun k hk hb => hide (chkF_bad (F := F) (k := k) (by rw [hm.out]; exact h5) hk hb)
    have HG := hide (fun hb => hc (chkF_fine (F := F) (by rw [hm.out]; exact h5) hb))
    clear hF hc
    generalize hR : chkF F = R at *
    clear hR
    go_enter Try.func6, Try.ntmps6
    go_wp2
    go_loop [4] (fun i => ∃ k : Nat, k ≤ m ∧ i = .int .i64 k ∧ Hid (∀ j, j < k → mayB (F.getD j 0) = true)) (fun i => m - (intOf i).toNat)
    case atStart => exact ⟨0, by omega, rfl, fun j hj => absurd hj (by omega)⟩
    case round =>
      obtain ⟨k, hk, rfl, hfine⟩ := hrel
      by_cases hlt : k < m
      · obtain ⟨b, off, rfl, hcap, hcap2, _, hcell⟩ := (HC k hlt).out
        have hkF : k < F.length := by rw [hm.out]; exact hlt
        cases hb : mayB (F.getD k 0) with
        | false =>
          have HR := HB k hkF hb
          clear HB HG HC hfine
          generalize F.getD k 0 = x at *
          go_wp2_with fail
          refine (near_ok _ _).mono ?_
          rintro e w' ⟨rfl, rfl⟩
          rw [hb]
          go_wp2
          go_ret2
          exact ⟨by rw [HR.out]; rfl, rfl⟩
        | true =>
          have HN : Hid (∀ j, j < k + 1 → mayB (F.getD j 0) = true) := fun j hj => by
            by_cases hjk : j < k
            · exact hfine.out j hjk
            · obtain rfl : j = k := by omega
              exact hb
          clear HB HG HC hfine
          generalize F.getD k 0 = x at *
          go_wp2_with fail
          refine (near_ok _ _).mono ?_
          rintro e w' ⟨rfl, rfl⟩
          rw [hb]
          go_wp2
          go_round
          case rel => exact ⟨k + 1, by omega, by go_num, HN⟩
          case measure => simp [intOf]; omega
      · exact absurd (fun j hj => hfine.out j (by rw [hm.out] at hj; omega)) HG.out

theorem chkF_all {F : List Nat} (hc : chkF F = 0) : ∀ k, k < F.length → mayB (F.getD k 0) = true := fun k hk => by
  unfold chkF at hc
  by_cases h5 : 5000 < F.length
  · rw [if_pos h5] at hc; cases hc
  · rw [if_neg h5] at hc
    by_cases h3 : ∃ k, k < F.length ∧ mayB (F.getD k 0) = false
    · rw [if_pos h3] at hc; cases hc
    · cases hb : mayB (F.getD k 0) with
      | true => rfl
      | false => exact absurd ⟨k, hk, hb⟩ h3

set_option maxHeartbeats 2000000 in
theorem sumOf_ok (v : Value) (F : List Nat) (w : World) (hF : Fls w v F) (hc : chkF F = 0) (hl : F.length ≤ 500) (hS : SOk F) :
    Calls Try.prog 6 #[v] w fun e w' => e = .returned (.tuple #[.float .f64 (uns (sm (tl F))), .int .i64 0]) ∧ w = w' := by
  have HA := hide (added_ok v F w hF (by omega) hS.all hS.ok)
  obtain ⟨m, hm⟩ : ∃ m, Hid (F.length = m) := ⟨_, rfl⟩
  obtain ⟨p, cap, rfl⟩ : ∃ p cap, v = .slice p m cap := by rw [← hm.out]; exact hF.form
  rw [hm.out] at hl
  have HC := fun k hk => hide (hF.cellAt hm.out k hk)
  have HM := hide (chkF_all hc)
  clear hF hc hS
  generalize sm (tl F) = R at *
  go_enter Try.func6, Try.ntmps6
  go_wp2
  go_loop [4] (fun i => ∃ k : Nat, k ≤ m ∧ i = .int .i64 k) (fun i => m - (intOf i).toNat)
  case atStart => exact ⟨0, by omega, rfl⟩
  case round =>
    obtain ⟨k, hk, rfl⟩ := hrel
    by_cases hlt : k < m
    · obtain ⟨b, off, rfl, hcap, hcap2, _, hcell⟩ := (HC k hlt).out
      have hb := HM.out k (by rw [hm.out]; exact hlt)
      clear HA HM HC
      generalize F.getD k 0 = x at *
      go_wp2_with fail
      refine (near_ok _ _).mono ?_
      rintro e w' ⟨rfl, rfl⟩
      rw [hb]
      go_wp2
      go_round
      case rel => exact ⟨k + 1, by omega, by go_num⟩
      case measure => simp [intOf]; omega
    · clear HM HC
      go_wp2_with fail
      refine HA.out.mono ?_
      rintro e w' ⟨rfl, rfl⟩
      go_wp2_with fail
      refine (plusNought_ok _ _).mono ?_
      rintro e w' ⟨rfl, rfl⟩
      go_wp2
      go_ret2
      exact ⟨rfl, rfl⟩

abbrev reC : Obj := .cells #[.float .f64 one, .float .f64 hf, .float .f64 0, .float .f64 hm, .float .f64 mone, .float .f64 hm, .float .f64 0, .float .f64 hf] 23
abbrev imC : Obj := .cells #[.float .f64 0, .float .f64 hf, .float .f64 one, .float .f64 hf, .float .f64 0, .float .f64 hm, .float .f64 mone, .float .f64 hm] 23

theorem reC_cell {w : World} {B j : Nat} (h : w.heap[B]? = some reC) (hj : j < 8) : w.cell? ⟨B, j, none⟩ = some (.float .f64 (eig.getD j (0, 0)).1) := by
  unfold World.cell?
  rw [h]
  rcases (show j = 0 ∨ j = 1 ∨ j = 2 ∨ j = 3 ∨ j = 4 ∨ j = 5 ∨ j = 6 ∨ j = 7 by omega) with rfl | rfl | rfl | rfl | rfl | rfl | rfl | rfl <;> rfl

theorem imC_cell {w : World} {B j : Nat} (h : w.heap[B]? = some imC) (hj : j < 8) : w.cell? ⟨B, j, none⟩ = some (.float .f64 (eig.getD j (0, 0)).2) := by
  unfold World.cell?
  rw [h]
  rcases (show j = 0 ∨ j = 1 ∨ j = 2 ∨ j = 3 ∨ j = 4 ∨ j = 5 ∨ j = 6 ∨ j = 7 by omega) with rfl | rfl | rfl | rfl | rfl | rfl | rfl | rfl <;> rfl

/-- What the answer's Rhythm has in memory: two rows of products, and what was found. -/
structure Q2 (w wr : World) (B : Nat) (A C : List Nat) (O : List (Nat × Nat)) (av bv ov : Value) : Prop where
  fr : FR wr (B + 2) 2 (two (av, A) (bv, C))
  ro : wr.ownsRow (B + 2) 27 1 ov O.length (O.map cv)
  re : wr.heap[B]? = some reC
  im : wr.heap[B + 1]? = some imC
  bl : Below w.heap.size w wr
  sz : B + 2 ≤ wr.heap.size
  lo : w.heap.size ≤ B

section
variable {w wr : World} {B : Nat} {A C : List Nat} {O : List (Nat × Nat)} {av bv ov : Value}

theorem Q2.one (h : Q2 w wr B A C O av bv ov) : wr.ownsRow (B + 2) 23 1 av A.length (A.map (Value.float .f64)) := by
  have := h.fr.own 0 (by decide)
  simp only [two, if_true] at this
  exact this

theorem Q2.two (h : Q2 w wr B A C O av bv ov) : wr.ownsRow (B + 2) 23 1 bv C.length (C.map (Value.float .f64)) := by
  have := h.fr.own 1 (by decide)
  simp only [Go.Proofs.Ytbhmhgkbobajfaa.two, show ¬ (1 : Nat) = 0 from by decide, if_false] at this
  exact this

theorem Q2.of {w' : World} (h : Q2 w wr B A C O av bv ov) (hb : ∀ g, g < wr.heap.size → w'.heap[g]? = wr.heap[g]?) (hbl : Below w.heap.size w w') (hsz : wr.heap.size ≤ w'.heap.size) : Q2 w w' B A C O av bv ov :=
  ⟨h.fr.of (fun g _ hg _ => hb g hg), fr_block h.ro (fun g e => hb g (h.ro.lt g e).2), (hb _ (by have := h.sz; omega)).trans h.re, (hb _ (by have := h.sz; omega)).trans h.im, hbl, Nat.le_trans h.sz hsz, h.lo⟩

theorem Q2.alloc (h : Q2 w wr B A C O av bv ov) (o : Obj) : Q2 w (wr.alloc o) B A C O av bv ov :=
  h.of (fun g hg => Below.heap_alloc wr o g hg) (h.bl.alloc (by have := h.sz; have := h.lo; omega) o) (by simp)

theorem Q2.keep {w' : World} (h : Q2 w wr B A C O av bv ov) (hd : Drw wr w') : Q2 w w' B A C O av bv ov :=
  h.of (fun g _ => by rw [hd.heap]) (h.bl.trans (hd.below _)) (by rw [hd.heap]; exact Nat.le_refl _)

theorem Q2.low {w' : World} (h : Q2 w wr B A C O av bv ov) (hb : Below wr.heap.size wr w') : Q2 w w' B A C O av bv ov :=
  h.of (fun g hg => hb.block g hg) (h.bl.trans (hb.mono h.bl.size)) hb.size

theorem Q2.pushA {w' : World} {v' : Value} {y : Nat} (h : Q2 w wr B A C O av bv ov) (h4 : w'.ownsRow (B + 2) 23 1 v' (A.length + 1) ((A ++ [y]).map (Value.float .f64))) (hg : wr.grownBy w' av.ownBlock) (hv : v'.ownBlock = av.ownBlock ∨ v'.ownBlock = some wr.heap.size) : Q2 w w' B (A ++ [y]) C O v' bv ov := by
  have hsz := h.sz
  have hlo := h.lo
  have hf := h.fr.push (i := 0) (y := y) (v' := v') (w' := w') (by decide) (by simp only [Go.Proofs.Ytbhmhgkbobajfaa.two, if_true]; exact h4) (by simp only [Go.Proofs.Ytbhmhgkbobajfaa.two, if_true]; exact hg) (by simp only [Go.Proofs.Ytbhmhgkbobajfaa.two, if_true]; exact hv)
  refine ⟨?_, fr_block h.ro (fun g e => hg.block g (h.ro.lt g e).2 (fun e2 => fr_ty h.ro h.one (by decide) g e e2.symm)), (hg.block _ (by omega) (fun e => by have := (h.one.lt _ e.symm).1; omega)).trans h.re, (hg.block _ (by omega) (fun e => by have := (h.one.lt _ e.symm).1; omega)).trans h.im, h.bl.grown hg (by omega) (fun k hk => by have := (h.one.lt k hk).1; omega), Nat.le_trans hsz hg.size, hlo⟩
  have e : (fun j => if j = 0 then (v', (Go.Proofs.Ytbhmhgkbobajfaa.two (av, A) (bv, C) 0).2 ++ [y]) else Go.Proofs.Ytbhmhgkbobajfaa.two (av, A) (bv, C) j) = Go.Proofs.Ytbhmhgkbobajfaa.two (v', A ++ [y]) (bv, C) := by
    funext j
    unfold Go.Proofs.Ytbhmhgkbobajfaa.two
    by_cases hj : j = 0
    · simp [hj]
    · simp [hj]
  rw [e] at hf
  exact hf

theorem Q2.pushB {w' : World} {v' : Value} {y : Nat} (h : Q2 w wr B A C O av bv ov) (h4 : w'.ownsRow (B + 2) 23 1 v' (C.length + 1) ((C ++ [y]).map (Value.float .f64))) (hg : wr.grownBy w' bv.ownBlock) (hv : v'.ownBlock = bv.ownBlock ∨ v'.ownBlock = some wr.heap.size) : Q2 w w' B A (C ++ [y]) O av v' ov := by
  have hsz := h.sz
  have hlo := h.lo
  have hf := h.fr.push (i := 1) (y := y) (v' := v') (w' := w') (by decide) (by simp only [Go.Proofs.Ytbhmhgkbobajfaa.two, show ¬ (1 : Nat) = 0 from by decide, if_false]; exact h4) (by simp only [Go.Proofs.Ytbhmhgkbobajfaa.two, show ¬ (1 : Nat) = 0 from by decide, if_false]; exact hg) (by simp only [Go.Proofs.Ytbhmhgkbobajfaa.two, show ¬ (1 : Nat) = 0 from by decide, if_false]; exact hv)
  refine ⟨⟨fun i hi => ?_, fun i j hi hj hij => ?_⟩, fr_block h.ro (fun g e => hg.block g (h.ro.lt g e).2 (fun e2 => fr_ty h.ro h.two (by decide) g e e2.symm)), (hg.block _ (by omega) (fun e => by have := (h.two.lt _ e.symm).1; omega)).trans h.re, (hg.block _ (by omega) (fun e => by have := (h.two.lt _ e.symm).1; omega)).trans h.im, h.bl.grown hg (by omega) (fun k hk => by have := (h.two.lt k hk).1; omega), Nat.le_trans hsz hg.size, hlo⟩
  · have := hf.own i hi
    by_cases h0 : i = 0
    · subst h0
      simpa [Go.Proofs.Ytbhmhgkbobajfaa.two] using this
    · obtain rfl : i = 1 := by omega
      simp only [Go.Proofs.Ytbhmhgkbobajfaa.two, show ¬ (1 : Nat) = 0 from by decide, if_false, if_true] at this ⊢
      exact this
  · have := hf.apart i j hi hj hij
    rcases (show i = 0 ∨ i = 1 by omega) with rfl | rfl <;> rcases (show j = 0 ∨ j = 1 by omega) with rfl | rfl
    · exact absurd rfl hij
    · simpa [Go.Proofs.Ytbhmhgkbobajfaa.two] using this
    · simpa [Go.Proofs.Ytbhmhgkbobajfaa.two] using this
    · exact absurd rfl hij

/-- A new round: both rows are nothing again. -/
theorem Q2.fresh (h : Q2 w wr B A C O av bv ov) : Q2 w wr B [] [] O (.slice none 0 0) (.slice none 0 0) ov := by
  refine ⟨⟨fun i hi => ?_, fun i j hi hj hij g e => ?_⟩, h.ro, h.re, h.im, h.bl, h.sz, h.lo⟩
  · rcases (show i = 0 ∨ i = 1 by omega) with rfl | rfl
    · exact World.ownsRow_nil _ _ _ _
    · exact World.ownsRow_nil _ _ _ _
  · rcases (show i = 0 ∨ i = 1 by omega) with rfl | rfl
    · cases e
    · cases e

/-- One more is found. -/
theorem Q2.pushO {w' : World} {v' : Value} {y : Nat × Nat} (h : Q2 w wr B A C O av bv ov) (h4 : w'.ownsRow (B + 2) 27 1 v' (O.length + 1) ((O ++ [y]).map cv)) (hg : wr.grownBy w' ov.ownBlock) : Q2 w w' B [] [] (O ++ [y]) (.slice none 0 0) (.slice none 0 0) v' := by
  have hsz := h.sz
  have hlo := h.lo
  refine ⟨⟨fun i hi => ?_, fun i j hi hj hij g e => ?_⟩, by rw [List.length_append, List.length_singleton]; exact h4, (hg.block _ (by omega) (fun e => by have := (h.ro.lt _ e.symm).1; omega)).trans h.re, (hg.block _ (by omega) (fun e => by have := (h.ro.lt _ e.symm).1; omega)).trans h.im, h.bl.grown hg (by omega) (fun k hk => by have := (h.ro.lt k hk).1; omega), Nat.le_trans hsz hg.size, hlo⟩
  · rcases (show i = 0 ∨ i = 1 by omega) with rfl | rfl
    · exact World.ownsRow_nil _ _ _ _
    · exact World.ownsRow_nil _ _ _ _
  · rcases (show i = 0 ∨ i = 1 by omega) with rfl | rfl
    · cases e
    · cases e

end

theorem Try.info27 : (Try.prog.info? 27).map (fun i => (i.zero, i.size, i.bytes)) = some (some (.complex .f64 0 0), 1, 16) := by kernel_rfl

/-- One complex number is put behind others. -/
theorem wpList_pushC {w : World} {ops : Array Oper} {rest : List Oper} {o : Oper} {a : Act} {Q : Exit → Act → World → Prop} (hgd : o.guard = none) (s x : Operand)
    (ho : o.op = .call { callee := .builtin .append, args := #[s, x], argTypes := #[31, 31] })
    (base : Nat) (v : Value) (F : List (Nat × Nat)) (hs : a.eval s = v) (hown : w.ownsRow base 27 1 v F.length (F.map cv))
    (B : Nat) (y : Nat × Nat) (hx : a.eval x = .slice (some ⟨B, 0, none⟩) 1 1) (hB : w.heap[B]? = some (.cells #[cv y] 27)) (hl : F.length ≤ 10000) (hbase : base ≤ w.heap.size)
    (h : ∀ v' w', w'.ownsRow base 27 1 v' (F.length + 1) ((F ++ [y]).map cv) → w.grownBy w' v.ownBlock → (v'.ownBlock = v.ownBlock ∨ v'.ownBlock = some w.heap.size) → wpList Try.prog ops Q rest (a.put o.dst v') w') :
    wpList Try.prog ops Q (o :: rest) a w := by
  obtain ⟨i0, hi, hz0, hz1, hz2⟩ := info_parts Try.info27
  refine wpList_append_keep w hgd s x 31 ho base 27 i0 (.complex .f64 0 0) 1 16 Try.underlying31 hi hz0 hz1 hz2 rfl (by decide) v F.length _ hs hown ⟨B, 0, none⟩ 1 1 [cv y] hx rfl (fun j u hu => ?_) (fun u hu => ?_) (by unfold maxLen; omega) (by omega) hbase (fun v' w' h1 h2 h3 => ?_)
  · rw [Addr.add_lit, Nat.zero_add]
    unfold World.cell?
    rw [hB]
    simpa using hu
  · rw [List.mem_singleton] at hu; subst hu; rfl
  · exact h v' w' (by rw [List.map_append]; exact h1) h2 (h3.imp id (fun e => e.1))

end Go.Proofs.Ytbhmhgkbobajfaa
