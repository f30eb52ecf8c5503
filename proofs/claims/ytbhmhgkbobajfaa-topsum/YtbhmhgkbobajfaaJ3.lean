/- Joined: SsB, SsC, SsD, SsP, FlY, FlZ. -/
import Derived.Test.YtbhmhgkbobajfaaJ2
import Derived.Laws.ResultCell
import Derived.Test.YtbhmhgkbobajfaaJ0
/- Package strike: eighths, rhythm, Rhythm. -/
namespace Go.Proofs.Ytbhmhgkbobajfaa
open Go.RowKit
set_option maxRecDepth 20000
set_option linter.unusedVariables false

/-- The root of a half. -/
abbrev hf : Nat := 4604544271217802189
/-- The same, with a sign. -/
abbrev hm : Nat := 13827916308072577997
abbrev one : Nat := 4607182418800017408
abbrev mone : Nat := 13830554455654793216

theorem sqrt_half {r : Nat} (h : SqrtOf 4602678819172646912 r) : r = hf := by
  have e : DF.sqrt 4602678819172646912 = some hf := by kernel_rfl
  rcases h.1 with h | ⟨h, _⟩
  · rw [e] at h; injection h with h; exact h.symm
  · rw [e] at h; cases h

/-- The eighths of a turn. -/
def eig : List (Nat × Nat) := [(one, 0), (hf, hf), (0, one), (hm, hf), (mone, 0), (hm, hm), (0, mone), (hf, hm)]

@[go_sem] theorem unary_negf (k : FloatKind) (b : Nat) : Op.unary .neg (.float k b) = pure (.float k (Op.negFloat k b)) := rfl

theorem neg_hf : Op.negFloat .f64 hf = hm := by kernel_rfl

set_option maxHeartbeats 2000000 in
theorem eighths_ok (w : World) : Calls Try.prog 21 #[] w fun e w' => e = .returned (.agg (cps eig)) ∧ Below w.heap.size w w' := by
  have H0 := zeros_cpx w
  have HB := (Below.refl w.heap.size w).alloc (Nat.le_refl _) zeroC
  go_enter Try.func21, Try.ntmps21
  go_wp2_with fail
  refine (sqrt_ok _ _).mono ?_
  rintro e w1 ⟨r, rfl, hr, hd⟩
  obtain rfl := sqrt_half hr
  have hn := neg_hf
  have H1 : Cpx w1 w.heap.size zerosC := H0.block (by rw [hd.heap])
  have HB1 := hide (HB.trans (hd.below _))
  clear H0 HB hd hr
  go_wp2_with (first | fail | (refine wpList_store_cpx rfl _ _ rfl _ _ eig H1 rfl rfl rfl ?_; intro w2 hA hg hsz))
  go_wp2
  exact ret_cpx rfl rfl hA rfl ⟨rfl, HB1.out.grown hg HB1.out.size (fun k h => by cases h; exact Nat.le_refl _)⟩

/-- Which eighth. -/
def wj (j k : Nat) : Nat := j * k % 8

def reA (j k : Nat) : Nat := (eig.getD (wj j k) (0, 0)).1
def imA (j k : Nat) : Nat := (eig.getD (wj j k) (0, 0)).2

/-- The numbers of a rhythm's first part, and of its second. -/
def rhR (F : List Nat) (j : Nat) : List Nat := (List.range F.length).map (fun k => fop .mul (F.getD k 0) (reA j k))
def rhI (F : List Nat) (j : Nat) : List Nat := (List.range F.length).map (fun k => fop .mul (F.getD k 0) (imA j k))

theorem rhR_len (F : List Nat) (j : Nat) : (rhR F j).length = F.length := by simp [rhR]
theorem rhI_len (F : List Nat) (j : Nat) : (rhI F j).length = F.length := by simp [rhI]
theorem rhR_at (F : List Nat) (j k : Nat) (h : k < F.length) : (rhR F j).getD k 0 = fop .mul (F.getD k 0) (reA j k) := by simp [rhR, List.getD, h]
theorem rhI_at (F : List Nat) (j k : Nat) (h : k < F.length) : (rhI F j).getD k 0 = fop .mul (F.getD k 0) (imA j k) := by simp [rhI, List.getD, h]

/-- All operations of a rhythm are valid. -/
structure ROk (F : List Nat) (j : Nat) : Prop where
  mr : ∀ k, k < F.length → FOk .mul (F.getD k 0) (reA j k)
  mi : ∀ k, k < F.length → FOk .mul (F.getD k 0) (imA j k)
  tr : TAll (rhR F j)
  ti : TAll (rhI F j)
  sr : FOk .add (tl (rhR F j)).1 (tl (rhR F j)).2
  si : FOk .add (tl (rhI F j)).1 (tl (rhI F j)).2

theorem tl_take_succ {G : List Nat} {k x : Nat} (h : k < G.length) (e : G.getD k 0 = x) : tad (tl (G.take k)) x = tl (G.take (k + 1)) := by
  rw [List.take_succ_eq_append_getElem h, tl_snoc, ← e]
  simp [List.getD, List.getElem?_eq_getElem h]

theorem wj_lt (j k : Nat) : wj j k < 8 := Nat.mod_lt _ (by decide)

set_option maxHeartbeats 4000000 in
theorem rhythm_ok (v : Value) (F : List Nat) (j : Nat) (w : World) (hF : Fls w v F) (hl : F.length ≤ 5000) (hj : j < 8) (hO : ROk F j) :
    Calls Try.prog 17 #[v, .int .i64 j] w fun e w' => e = .returned (.complex .f64 (sm (tl (rhR F j))) (sm (tl (rhI F j)))) ∧ Below w.heap.size w w' := by
  obtain ⟨m, hm9⟩ : ∃ m, Hid (F.length = m) := ⟨_, rfl⟩
  have hlm : m ≤ 5000 := by rw [← hm9.out]; exact hl
  obtain ⟨p, cap, rfl⟩ : ∃ p cap, v = .slice p m cap := by rw [← hm9.out]; exact hF.form
  have HC := fun k hk => hide (hF.cellAt hm9.out k hk)
  have HO := hide hO
  obtain ⟨s1, e1⟩ : ∃ s1, Hid (sm (tl (rhR F j)) = s1) := ⟨_, rfl⟩
  obtain ⟨s2, e2⟩ : ∃ s2, Hid (sm (tl (rhI F j)) = s2) := ⟨_, rfl⟩
  rw [e1.out, e2.out]
  obtain ⟨B, hB⟩ : ∃ B, Hid (w.heap.size = B) := ⟨_, rfl⟩
  have HB0 : Hid (Below w.heap.size w ((w.alloc (total0 (0, 0))).alloc (total0 (0, 0)))) := ((Below.refl _ _).alloc (Nat.le_refl _) _).alloc (by simp) _
  have HA0 : Hid (((w.alloc (total0 (0, 0))).alloc (total0 (0, 0))).heap[w.heap.size]? = some (total0 (0, 0))) := (Below.heap_alloc _ _ _ (by simp)).trans (alloc_at _ _)
  have HA1 : Hid (((w.alloc (total0 (0, 0))).alloc (total0 (0, 0))).heap[w.heap.size + 1]? = some (total0 (0, 0))) := by
    have := alloc_at (w.alloc (total0 (0, 0))) (total0 (0, 0))
    rw [show (w.alloc (total0 (0, 0))).heap.size = w.heap.size + 1 from by simp] at this
    exact this
  clear hF hl hO
  go_enter Try.func17, Try.ntmps17
  go_wp2_with fail
  refine (eighths_ok _).mono ?_
  rintro e w1 ⟨rfl, hb1⟩
  have hs1 : w.heap.size + 2 ≤ w1.heap.size := by have := hb1.size; simp at this; omega
  have hz1 : ((w.alloc (total0 (0, 0))).alloc (total0 (0, 0))).heap.size = w.heap.size + 2 := by simp
  have K0 := hide ((hb1.block w.heap.size (by simp; omega)).trans HA0.out)
  have K1 := hide ((hb1.block (w.heap.size + 1) (by simp)).trans HA1.out)
  have KB := hide (HB0.out.trans (hb1.mono (by simp; omega)))
  have KC := zeros_cpx w1
  clear hb1 HA0 HA1 HB0 hz1
  go_wp2_with (first | fail | (refine wpList_store_cpx rfl _ _ rfl _ _ eig KC rfl rfl rfl ?_; intro w2 hA hg hsz))
  have hsz2 : w2.heap.size = w1.heap.size + 1 := by rw [hsz]; simp
  have L0 := hide ((hg.block w.heap.size (by simp; omega) (by simp; omega)).trans ((Below.heap_alloc _ _ _ (by omega)).trans K0.out))
  have L1 := hide ((hg.block (w.heap.size + 1) (by simp; omega) (by simp; omega)).trans ((Below.heap_alloc _ _ _ (by omega)).trans K1.out))
  have LB := hide ((KB.out.alloc (by omega) zeroC).grown hg (by simp; omega) (fun k h => by cases h; omega))
  have LA := hide hA
  clear K0 K1 KB KC hg hsz hA
  generalize hB2 : w1.heap.size = B2 at *
  clear hB2
  go_wp2
  go_loopw [14] (fun i wr => ∃ k : Nat, k ≤ m ∧ i = .int .i64 k ∧ Hid (wr.heap[w.heap.size]? = some (total0 (tl ((rhR F j).take k)))) ∧ Hid (wr.heap[w.heap.size + 1]? = some (total0 (tl ((rhI F j).take k)))) ∧ Hid (Cpx wr B2 eig) ∧ Hid (Below w.heap.size w wr)) (fun i _ => m - (intOf i).toNat)
  case atStart => exact ⟨0, by omega, rfl, L0.out, L1.out, LA.out, LB.out⟩
  case round =>
    obtain ⟨k, hk, rfl, h0, h1, hA, hbw⟩ := hrel
    clear L0 L1 LA LB
    by_cases hlt : k < m
    · obtain ⟨b, off, rfl, hcap, hcap2, hb, hcell⟩ := (HC k hlt).out
      have hkF : k < F.length := by rw [hm9.out]; exact hlt
      have hcw : wr.cell? ⟨b, off + k, none⟩ = some (.float .f64 (F.getD k 0)) := by rw [hbw.out.cell (p := ⟨b, off + k, none⟩) hb]; exact hcell
      have hO := HO.out
      have kr : TOk (tl ((rhR F j).take k)) (fop .mul (F.getD k 0) (reA j k)) := by have := hO.tr k (by rw [rhR_len]; exact hkF); rw [rhR_at F j k hkF] at this; exact this
      have ki : TOk (tl ((rhI F j).take k)) (fop .mul (F.getD k 0) (imA j k)) := by have := hO.ti k (by rw [rhI_len]; exact hkF); rw [rhI_at F j k hkF] at this; exact this
      have mr := hO.mr k hkF
      have mi := hO.mi k hkF
      have hcA := (hA.out.cell (wj_lt j k)).1
      have HR := hide (tadd0_ok _ _ kr _ _ h0.out)
      have HI := hide (fun w9 h9 => tadd0_ok _ _ ki (w.heap.size + 1) w9 h9)
      have HN1 := hide (tl_take_succ (G := rhR F j) (by rw [rhR_len]; exact hkF) (rhR_at F j k hkF))
      have HN2 := hide (tl_take_succ (G := rhI F j) (by rw [rhI_len]; exact hkF) (rhI_at F j k hkF))
      have hjk : j * k ≤ 35000 := Nat.le_trans (Nat.mul_le_mul (show j ≤ 7 by omega) (show k ≤ 5000 by omega)) (by decide)
      have hwl := wj_lt j k
      have hm1 : (j : Int) * (k : Int) = ((j * k : Nat) : Int) := (Int.natCast_mul j k).symm
      have hm2 : ((j * k : Nat) : Int).tmod 8 = ((wj j k : Nat) : Int) := rfl
      have r1 := fun w => run_float_arith (P := Try.prog) w .mul 23 .f64 _ _ _ mr
      have r2 := fun w => run_float_arith (P := Try.prog) w .mul 23 .f64 _ _ _ mi
      have hr0 : (eig.getD (wj j k) (0, 0)).1 = reA j k := rfl
      have hi0 : (eig.getD (wj j k) (0, 0)).2 = imA j k := rfl
      rw [hr0, hi0] at hcA
      clear hcell HC kr ki mr mi hO HO hr0 hi0
      generalize fop .mul (F.getD k 0) (reA j k) = yr at *
      generalize fop .mul (F.getD k 0) (imA j k) = yi at *
      generalize F.getD k 0 = x at *
      generalize reA j k = ar at *
      generalize imA j k = ai at *
      generalize wj j k = q at *
      generalize j * k = jk at *
      go_wp2_with fail
      refine HR.out.mono ?_
      rintro e w3 ⟨rfl, hblk3, hbl3, hsz3, hoth3⟩
      have h1' := HI.out w3 ((hoth3 _ (by omega)).trans h1.out)
      clear HI
      go_wp2_with fail
      refine h1'.mono ?_
      rintro e w4 ⟨rfl, hblk4, hbl4, hsz4, hoth4⟩
      have G0 := hide ((hoth4 w.heap.size (by omega)).trans hblk3)
      have G1 := hide hblk4
      have GA := hide (hA.out.block ((hoth4 B2 (by omega)).trans (hoth3 B2 (by omega))))
      have GB := hide ((hbw.out.trans hbl3).trans (hbl4.mono (by omega)))
      clear hblk3 hbl3 hsz3 hoth3 hblk4 hbl4 hsz4 hoth4 hcw hcA
      go_wp2
      go_roundw
      case rel => exact ⟨k + 1, by omega, by go_num, by rw [← HN1.out]; exact G0.out, by rw [← HN2.out]; exact G1.out, GA.out, GB.out⟩
      case measure => simp [intOf]; omega
    · have q1 : (rhR F j).take k = rhR F j := List.take_of_length_le (by rw [rhR_len, hm9.out]; omega)
      have q2 : (rhI F j).take k = rhI F j := List.take_of_length_le (by rw [rhI_len, hm9.out]; omega)
      rw [q1] at h0
      rw [q2] at h1
      have H1 := hide (tsum0_ok _ HO.out.sr _ _ h0.out)
      have H2 := hide (fun w9 h9 => tsum0_ok _ HO.out.si (w.heap.size + 1) w9 h9)
      rw [e1.out] at H1
      rw [e2.out] at H2
      clear HC HO q1 q2
      go_wp2_with fail
      refine H1.out.mono ?_
      rintro e w3 ⟨rfl, hd3⟩
      have H2' := H2.out w3 (by rw [hd3.heap]; exact h1.out)
      clear H2
      go_wp2_with fail
      refine H2'.mono ?_
      rintro e w4 ⟨rfl, hd4⟩
      have GB := hide ((hbw.out.trans (hd3.below _)).trans (hd4.below _))
      clear hd3 hd4
      go_wp2
      go_ret
      exact ⟨rfl, GB.out⟩

end Go.Proofs.Ytbhmhgkbobajfaa

/- Package strike: Rhythm. -/
namespace Go.Proofs.Ytbhmhgkbobajfaa
open Go.RowKit
set_option maxRecDepth 20000
set_option linter.unusedVariables false

/-- A rhythm. -/
def rh1 (F : List Nat) (j : Nat) : Nat × Nat := (sm (tl (rhR F j)), sm (tl (rhI F j)))
def rhAll (F : List Nat) : List (Nat × Nat) := (List.range 8).map (rh1 F)

theorem rhAll_len (F : List Nat) : (rhAll F).length = 8 := by simp [rhAll]
theorem rhAll_at (F : List Nat) (j : Nat) (h : j < 8) : (rhAll F).getD j (0, 0) = rh1 F j := by simp [rhAll, List.getD, h]

theorem eq_rhAll {F : List Nat} {zs : List (Nat × Nat)} (hl : zs.length = 8) (h : ∀ j, j < 8 → zs.getD j (0, 0) = rh1 F j) : zs = rhAll F := by
  apply List.ext_getElem (by rw [hl, rhAll_len])
  intro i h1 h2
  have := h i (by omega)
  rw [← rhAll_at F i (by omega)] at this
  simpa [List.getD, h1, h2] using this

@[go_sem] theorem run_store_complex (P : Program) (w : World) (a : Addr) (k : FloatKind) (x y : Nat) (m) : (store a (.complex k x y) m).run P w = stored P w a (.complex k x y) m := run_store P w a _ m rfl

theorem ret_cpx_tmp {fn : Func} {R : Ending → World → Prop} {a : Act} {w : World} {p u : Tmp} {b : Nat} {zs : List (Nat × Nat)} {t : Value} (h : fn.results = #[.cell p 28, .tmp u]) (hp : a.tmps.getD p undef = .pointer (some ⟨b, 0, none⟩)) (hu : a.tmps.getD u undef = t) (hA : Cpx w b zs) (hd : a.defers = []) (hR : R (.returned (.tuple #[.agg (cps zs), t])) w) : bodyPost Try.prog fn R .ret a w := by
  refine bodyPost_ret (v := .tuple #[.agg (cps zs), t]) ?_ hd hR
  have hp' : a.tmps[p]?.getD undef = .pointer (some ⟨b, 0, none⟩) := by simpa using hp
  have hu' : a.tmps[u]?.getD undef = t := by simpa using hu
  rw [results_cell_tmp h]
  simp [hp', hu', asAddr, Result.andThen, run_loadVar_row w b 28 28 (cps zs) _ _ hA.1 Try.underlying28 rfl (by rw [cps_size, hA.2]; kernel_rfl)]

set_option maxHeartbeats 2000000 in
theorem rhythmP_err (v : Value) (F : List Nat) (w : World) (hF : Fls w v F) (hc : chkF F ≠ 0) :
    Calls Try.prog 7 #[v] w fun e w' => e = .returned (.tuple #[.agg (cps zerosC), .int .i64 (chkF F)]) ∧ Below w.heap.size w w' := by
  have HB0 := hide ((Below.refl w.heap.size w).alloc (Nat.le_refl _) zeroC)
  have H := hide (checkN_ok v F (w.alloc zeroC) (hF.below HB0.out))
  have H0 := hide (zeros_cpx w)
  obtain ⟨p, cap, rfl⟩ := hF.form
  clear hF
  generalize chkF F = c at *
  generalize F.length = m at *
  go_enter Try.func7, Try.ntmps7
  go_wp2_with fail
  refine H.out.mono ?_
  rintro e w1 ⟨rfl, rfl⟩
  go_wp2_with (first | fail | (refine wpList_store_cpx rfl _ _ rfl _ _ zerosC H0.out rfl rfl rfl ?_; intro w2 hA hg hsz))
  go_wp2
  exact ret_cpx_tmp (p := 2) (u := 3) rfl rfl rfl hA rfl ⟨rfl, HB0.out.grown hg (by simp) (fun k h => by cases h; exact Nat.le_refl _)⟩

set_option maxHeartbeats 4000000 in
theorem rhythmP_ok (v : Value) (F : List Nat) (w : World) (hF : Fls w v F) (hc : chkF F = 0) (hO : ∀ j, j < 8 → ROk F j) :
    Calls Try.prog 7 #[v] w fun e w' => e = .returned (.tuple #[.agg (cps (rhAll F)), .int .i64 0]) ∧ Below w.heap.size w w' := by
  have HB0 := hide ((Below.refl w.heap.size w).alloc (Nat.le_refl _) zeroC)
  have H := hide (checkN_ok v F (w.alloc zeroC) (hF.below HB0.out))
  rw [hc] at H
  have h5 : F.length ≤ 5000 := by
    rcases Nat.lt_or_ge 5000 F.length with h | h
    · unfold chkF at hc; rw [if_pos h] at hc; cases hc
    · exact h
  have HR := hide (fun j hj W hW => rhythm_ok v F j W (hF.below hW) h5 hj (hO j hj))
  have H0 := hide (zeros_cpx w)
  obtain ⟨p, cap, rfl⟩ := hF.form
  clear hF h5 hc hO
  generalize F.length = m at *
  obtain ⟨R, hR⟩ : ∃ R, Hid (rhAll F = R) := ⟨_, rfl⟩
  rw [hR.out]
  go_enter Try.func7, Try.ntmps7
  go_wp2_with fail
  refine H.out.mono ?_
  rintro e w1 ⟨rfl, rfl⟩
  clear H
  have K0 := hide (H0.out.alloc zeroC)
  have KA := hide (zeros_cpx (w.alloc zeroC))
  have KB := hide (HB0.out.alloc (by simp) zeroC)
  rw [show (w.alloc zeroC).heap.size = w.heap.size + 1 from by simp] at KA
  clear H0 HB0
  go_wp2
  go_loopw [13] (fun i wr => ∃ (k : Nat) (zs : List (Nat × Nat)), k ≤ 8 ∧ i = .int .i64 k ∧ Hid (Cpx wr w.heap.size zerosC) ∧ Hid (Cpx wr (w.heap.size + 1) zs) ∧ Hid (∀ j, j < k → zs.getD j (0, 0) = rh1 F j) ∧ Hid (Below w.heap.size w wr)) (fun i _ => 8 - (intOf i).toNat)
  case atStart => exact ⟨0, zerosC, by omega, rfl, K0.out, KA.out, fun j hj => absurd hj (by omega), KB.out⟩
  case round =>
    obtain ⟨k, zs, hk, rfl, h0, hA, hz, hbw⟩ := hrel
    clear K0 KA KB
    by_cases hlt : k < 8
    · have HK := hide (HR.out k hlt wr hbw.out)
      have HZ : Hid (∀ j, j < k + 1 → (zs.set k (rh1 F k)).getD j (0, 0) = rh1 F j) := fun j hj => by
        by_cases e : j = k
        · subst e
          simp [List.getD, hA.out.2, hlt]
        · have := hz.out j (by omega)
          simp only [List.getD] at this ⊢
          rw [List.getElem?_set_ne (by omega)]
          exact this
      have hf1 : sm (tl (rhR F k)) = (rh1 F k).1 := rfl
      have hf2 : sm (tl (rhI F k)) = (rh1 F k).2 := rfl
      rw [hf1, hf2] at HK
      clear HR hf1 hf2
      generalize rh1 F k = q at *
      obtain ⟨q1, q2⟩ := q
      dsimp only at HK
      go_wp2_with fail
      refine HK.out.mono ?_
      rintro e w3 ⟨rfl, hb3⟩
      have hs := hA.out.lt
      have hA3 := hA.out.below hb3 hs
      have h03 := h0.out.below hb3 h0.out.lt
      have hfc := hA3.cell hlt
      have ⟨hc1, hc2⟩ := hfc
      have G0 := hide (h03.set_other (b' := w.heap.size + 1) (k := k) (by omega) (.complex .f64 q1 q2))
      have GA := hide (hA3.set (k := k) q1 q2)
      have GB := hide ((hbw.out.trans (hb3.mono hbw.out.size)).setCell (p := ⟨w.heap.size + 1, k, none⟩) (by simp) (.complex .f64 q1 q2))
      clear hb3 hA3 h03 hfc hs
      go_wp2
      go_roundw
      case rel => exact ⟨k + 1, _, by omega, by go_num, G0.out, GA.out, HZ, GB.out⟩
      case measure => simp [intOf]; omega
    · have hzs := hide (eq_rhAll hA.out.2 (fun j hj => hz.out j (by omega)))
      have hA9 := hA.out
      have h09 := h0.out
      have hl := hA9.2
      go_wp2_with (first | refine wpList_load_cpx rfl _ rfl _ _ hA9 rfl ?_ | (refine wpList_store_cpx rfl _ _ rfl _ _ _ h09 rfl rfl hl ?_; intro w2 hA2 hg2 hsz2))
      go_wp2
      exact ret_cpx_tmp (p := 2) (u := 3) rfl rfl rfl hA2 rfl ⟨by rw [hzs.out, hR.out]; rfl, hbw.out.grown hg2 hbw.out.size (fun k h => by cases h; exact Nat.le_refl _)⟩

end Go.Proofs.Ytbhmhgkbobajfaa

/- Sums are never a nought with a sign; what may be summed up is valid. -/
namespace Go.Proofs.Ytbhmhgkbobajfaa
open Go.RowKit
set_option maxRecDepth 20000
set_option linter.unusedVariables false

/-- A nought with a sign. -/
abbrev M0 : Nat := 9223372036854775808

theorem word_ne (neg : Bool) (r : Nat) (h0 : 0 < r) (h1 : r ≤ 9218868437227405312) : DF.word neg r ≠ M0 := by
  have hs : DF.signWeight = 9223372036854775808 := by decide
  unfold Ieee.Format.word
  cases neg <;> simp [hs, M0] <;> omega

theorem nearest_ne (neg : Bool) (mag P : Nat) (h0 : 0 < mag) : DF.nearest neg mag ((P : Int) - 1074 - (0 : Nat)) ≠ M0 := by
  obtain ⟨L, kept, hn, h1, h2, h3, h4, h5⟩ := nearest_parts neg mag P 0 h0
  rw [hn]
  have hk : 0 < kept := by
    rcases Nat.eq_zero_or_pos L with h | h
    · subst h
      have : 1 ≤ kept := h5 1 (by
        rw [Nat.add_zero, Nat.pow_zero, Nat.mul_one]
        exact Nat.mul_pos h0 (Nat.two_pow_pos P))
      omega
    · have := h2 h; omega
  exact word_ne neg _ (by omega) (Nat.min_le_right _ _)

theorem add_ne {x y r : Nat} {a b : Int} (hx : FV x a) (hy : FV y b) (hne : x ≠ M0) (hr : DF.add x y = some r) : r ≠ M0 := by
  have hx9 := hx
  obtain ⟨s, m, I, _, e1, _, hv⟩ := hx
  obtain ⟨u, n, J, _, e2, _, hw⟩ := hy
  have hadd : DF.add x y = some (DF.nearest (if Ieee.signed s m (I - min I J) + Ieee.signed u n (J - min I J) = 0 then s && u else decide (Ieee.signed s m (I - min I J) + Ieee.signed u n (J - min I J) < 0)) (Ieee.signed s m (I - min I J) + Ieee.signed u n (J - min I J)).natAbs (((min I J : Nat) : Int) - 1074 - (0 : Nat))) := by
    unfold Ieee.Format.add
    rw [e1, e2, sum_read]
    rfl
  rw [hadd] at hr
  injection hr with hr
  rw [← hr]
  by_cases h0 : Ieee.signed s m (I - min I J) + Ieee.signed u n (J - min I J) = 0
  · rw [if_pos h0, h0]
    cases hs : s with
    | false =>
      rw [Bool.false_and]
      have : DF.nearest false (0 : Int).natAbs (((min I J : Nat) : Int) - 1074 - (0 : Nat)) = DF.word false 0 := by
        unfold Ieee.Format.nearest
        rw [if_pos (by rfl)]
      rw [this]
      decide
    | true =>
      cases hu : u with
      | false =>
        rw [Bool.and_false]
        have : DF.nearest false (0 : Int).natAbs (((min I J : Nat) : Int) - 1074 - (0 : Nat)) = DF.word false 0 := by
          unfold Ieee.Format.nearest
          rw [if_pos (by rfl)]
        rw [this]
        decide
      | true =>
        exfalso
        subst hs; subst hu
        rw [signed_eq, signed_eq, if_pos rfl, if_pos rfl] at h0
        have hm0 : m * 2 ^ (I - min I J) = 0 := by omega
        have hm : m = 0 := by
          rcases Nat.mul_eq_zero.1 hm0 with h | h
          · exact h
          · have := Nat.two_pow_pos (I - min I J); omega
        subst hm
        have ha : a = 0 := by rw [hv, signed_zero]
        rw [ha] at hx9
        rcases FV.isz hx9 with h | h
        · rw [h, show DF.read 0 = .number false 0 (-1074) from by kernel_rfl] at e1
          injection e1 with q _ _
          cases q
        · exact hne h
  · rw [if_neg h0]
    exact nearest_ne _ _ _ (by omega)

/-- No part has a sign on a nought. -/
def NZ (s : Nat × Nat) : Prop := s.1 ≠ M0 ∧ s.2 ≠ M0

theorem fop_ne {x y : Nat} {k j : Nat} {a b : Int} (hx : FV x a) (hy : FV y b) (h : FOk .add x y) (hne : x ≠ M0) : fop .add x y ≠ M0 := add_ne hx hy hne h

theorem NZ.tad {s : Nat × Nat} {k p x : Nat} (hz : NZ s) (h : TBd s k p) (hx : FB x p) (hk : k ≤ 10000) (hp : p ≤ 800) : NZ (tad s x) := by
  have hx1 : ∃ v, FV x v ∧ v.natAbs ≤ 1 * 2 ^ (XP + p) := by obtain ⟨v, h1, h2⟩ := hx; exact ⟨v, h1, by rw [Nat.one_mul]; exact h2⟩
  have hkk : k * (k + 1) ≤ 10000 * 10001 := Nat.mul_le_mul hk (by omega)
  obtain ⟨k1, v1⟩ := add_many h.all hx1 (by omega) hp
  obtain ⟨k2, v2⟩ := sub_many h.all v1 (by omega) hp
  obtain ⟨k3, v3⟩ := add_many v2 hx1 (by omega) hp
  obtain ⟨k4, v4⟩ := add_many h.lost v3 (by omega) hp
  obtain ⟨k5, v5⟩ := sub_many hx1 v1 (by omega) hp
  obtain ⟨k6, v6⟩ := add_many v5 h.all (by omega) hp
  obtain ⟨k7, v7⟩ := add_many h.lost v6 (by omega) hp
  obtain ⟨va, fa, _⟩ := h.all
  obtain ⟨vl, fl, _⟩ := h.lost
  obtain ⟨vx, fx, _⟩ := hx
  obtain ⟨v3, f3, _⟩ := v3
  obtain ⟨v6, f6, _⟩ := v6
  refine ⟨add_ne fa fx hz.1 k1, ?_⟩
  unfold Go.Proofs.Ytbhmhgkbobajfaa.tad
  dsimp only
  split
  · exact add_ne fl f3 hz.2 k4
  · exact add_ne fl f6 hz.2 k7

/-- Bounded numbers. -/
theorem NZ.list : ∀ (F G : List Nat) (i p : Nat), NZ (tl G) → TBd (tl G) i p → i + F.length ≤ 10000 → p ≤ 800 → (∀ x, x ∈ F → FB x p) → NZ (tl (G ++ F))
  | [], G, i, p, hG, hT, _, _, _ => by rw [List.append_nil]; exact hG
  | x :: F, G, i, p, hG, hT, hi, hp, hf => by
    simp only [List.length_cons] at hi
    obtain ⟨k1, k2⟩ := hT.add (hf x (by simp)) (by omega) hp
    have hrec := NZ.list F (G ++ [x]) (i + 1) p (by rw [tl_snoc]; exact hG.tad hT (hf x (by simp)) (by omega) hp) (by rw [tl_snoc]; exact k2) (by omega) hp (fun y hy => hf y (List.mem_cons_of_mem _ hy))
    rw [List.append_assoc] at hrec
    exact hrec

/-- All of a sum of at most 500 bounded numbers. -/
structure SOk (F : List Nat) : Prop where
  all : TAll F
  ok : FOk .add (tl F).1 (tl F).2
  fb : FB (sm (tl F)) 100
  us : uns (sm (tl F)) = sm (tl F)

theorem SOk.of {F : List Nat} {p : Nat} (hl : F.length ≤ 500) (hp : p ≤ 60) (h : ∀ x, x ∈ F → FB x p) : SOk F := by
  obtain ⟨h1, h2⟩ := TBd.list F [] 0 p TAll.nil (TBd.zero p) (by omega) (by omega) h
  have h3 := NZ.list F [] 0 p ⟨by decide, by decide⟩ (TBd.zero p) (by omega) (by omega) h
  rw [List.nil_append] at h1 h2 h3
  rw [Nat.zero_add] at h2
  obtain ⟨k1, k2⟩ := h2.sm hl (by omega)
  refine ⟨h1, k1, k2.mono (by omega), ?_⟩
  obtain ⟨va, fa, _⟩ := h2.all
  obtain ⟨vl, fl, _⟩ := h2.lost
  have hne : sm (tl F) ≠ M0 := add_ne fa fl h3.1 k1
  by_cases h0 : (FloatKind.f64.format.order (sm (tl F)) 0 == some .eq) = true
  · obtain ⟨v, fv, _⟩ := k2
    rcases zero_isz fv h0 with e | e
    · rw [e]; exact isz.uns (Or.inl rfl)
    · exact absurd e hne
  · unfold Go.Proofs.Ytbhmhgkbobajfaa.uns; rw [if_neg h0]

theorem SOk.alike {F : List Nat} (h : SOk F) : Alike (sm (tl F)) (uns (sm (tl F))) := by rw [h.us]; exact Alike.fb h.fb

theorem eig_fb (i : Nat) : FB (eig.getD i (0, 0)).1 30 ∧ FB (eig.getD i (0, 0)).2 30 := by
  have f0 : FB 0 30 := FB.zero 30
  have f1 : FB one 30 := mayB_FB (by decide) (by kernel_rfl)
  have f2 : FB hf 30 := mayB_FB (by decide) (by kernel_rfl)
  have f3 : FB hm 30 := mayB_FB (by decide) (by kernel_rfl)
  have f4 : FB mone 30 := mayB_FB (by decide) (by kernel_rfl)
  by_cases h : i < 8
  · rcases (show i = 0 ∨ i = 1 ∨ i = 2 ∨ i = 3 ∨ i = 4 ∨ i = 5 ∨ i = 6 ∨ i = 7 by omega) with rfl | rfl | rfl | rfl | rfl | rfl | rfl | rfl
    all_goals (constructor <;> assumption)
  · have : eig.getD i (0, 0) = (0, 0) := by
      unfold List.getD
      rw [List.getElem?_eq_none (by simp [eig]; omega)]
      rfl
    rw [this]
    exact ⟨f0, f0⟩

/-- What is true of numbers that may be. -/
structure NOkF (F : List Nat) : Prop where
  len : F.length ≤ 500
  fb : ∀ x, x ∈ F → FB x 30

theorem NOkF.of {F : List Nat} (hc : chkF F = 0) (hl : F.length ≤ 500) (ht : ∀ x, x ∈ F → x < 18446744073709551616) : NOkF F := by
  refine ⟨hl, fun x hx => mayB_FB (ht x hx) ?_⟩
  obtain ⟨k, hk, e⟩ := List.getElem_of_mem hx
  unfold chkF at hc
  rw [if_neg (by omega)] at hc
  by_cases h3 : ∃ k, k < F.length ∧ mayB (F.getD k 0) = false
  · rw [if_pos h3] at hc; cases hc
  · cases hb : mayB x with
    | true => rfl
    | false => exact absurd ⟨k, hk, by simp [List.getD, hk, e, hb]⟩ h3

theorem NOkF.at {F : List Nat} (h : NOkF F) {k : Nat} (hk : k < F.length) : FB (F.getD k 0) 30 := by
  have : F.getD k 0 = F[k] := by simp [List.getD, hk]
  rw [this]
  exact h.fb _ (List.getElem_mem hk)

theorem NOkF.sum {F : List Nat} (h : NOkF F) : SOk F := SOk.of h.len (show 30 ≤ 60 by decide) h.fb

theorem NOkF.re {F : List Nat} (h : NOkF F) (j : Nat) : SOk (rhR F j) := by
  refine SOk.of (p := 60) (by rw [rhR_len]; exact h.len) (by decide) (fun x hx => ?_)
  simp only [rhR, List.mem_map, List.mem_range] at hx
  obtain ⟨k, hk, rfl⟩ := hx
  exact ((h.at hk).mul (eig_fb (wj j k)).1 (by decide)).2

theorem NOkF.im {F : List Nat} (h : NOkF F) (j : Nat) : SOk (rhI F j) := by
  refine SOk.of (p := 60) (by rw [rhI_len]; exact h.len) (by decide) (fun x hx => ?_)
  simp only [rhI, List.mem_map, List.mem_range] at hx
  obtain ⟨k, hk, rfl⟩ := hx
  exact ((h.at hk).mul (eig_fb (wj j k)).2 (by decide)).2

theorem NOkF.rok {F : List Nat} (h : NOkF F) (j : Nat) : ROk F j :=
  ⟨fun k hk => ((h.at hk).mul (eig_fb (wj j k)).1 (by decide)).1, fun k hk => ((h.at hk).mul (eig_fb (wj j k)).2 (by decide)).1, (h.re j).all, (h.im j).all, (h.re j).ok, (h.im j).ok⟩

end Go.Proofs.Ytbhmhgkbobajfaa

/- Plain: rhythms of whole numbers. -/
namespace Go.Proofs.Ytbhmhgkbobajfaa
open Go.RowKit
set_option maxRecDepth 20000
set_option linter.unusedVariables false

/-- A sum with weights. -/
def ws (c : Nat → Int) (K : List Int) : Int := ((List.range K.length).map (fun i => K.getD i 0 * c i)).sum

theorem ws_snoc (c : Nat → Int) (K : List Int) (k : Int) : ws c (K ++ [k]) = ws c K + k * c K.length := by
  unfold ws
  rw [List.length_append, List.length_singleton, List.range_succ, List.map_append, List.sum_append]
  congr 1
  · congr 1
    apply List.map_congr_left
    intro i hi
    rw [List.mem_range] at hi
    simp [List.getD, List.getElem?_append_left hi]
  · simp [List.getD]

def c0 (i : Nat) : Int := 1 - 2 * ((i % 2 : Nat) : Int)
def c1 (i : Nat) : Int := if i % 4 = 0 then 1 else if i % 4 = 2 then -1 else 0
def c2 (i : Nat) : Int := if i % 4 = 1 then 1 else if i % 4 = 3 then -1 else 0

/-- Numbers of at most 1000. -/
structure Sml (K : List Int) : Prop where
  len : K.length ≤ 400
  b : ∀ k, k ∈ K → k.natAbs ≤ 1000

def fls (K : List Int) : List Nat := K.map fi

theorem fls_len (K : List Int) : (fls K).length = K.length := by simp [fls]

theorem fls_at {K : List Int} {i : Nat} (h : i < K.length) : (fls K).getD i 0 = fi (K.getD i 0) := by simp [fls, List.getD, h]

theorem Sml.at {K : List Int} (h : Sml K) {i : Nat} (hi : i < K.length) : (K.getD i 0).natAbs ≤ 1000 := by
  have : K.getD i 0 = K[i] := by simp [List.getD, hi]
  rw [this]
  exact h.b _ (List.getElem_mem hi)

theorem mayB_fi {k : Int} (h : k.natAbs ≤ 1000000000) : mayB (fi k) = true := by
  have hv := FV_ofInt k (by omega)
  have hU := UU_pos
  have e1 : FloatKind.f64.format.order (fi k) 13965043853221167104 = some (compare (k * (UU : Int)) (-1000000000 * (UU : Int))) := order_fv hv FV_least
  have e2 : FloatKind.f64.format.order (fi k) 4741671816366391296 = some (compare (k * (UU : Int)) (1000000000 * (UU : Int))) := order_fv hv FV_most
  have hUi : (0 : Int) < (UU : Int) := by omega
  have b1 : -1000000000 * (UU : Int) ≤ k * (UU : Int) := Int.mul_le_mul_of_nonneg_right (by omega) (by omega)
  have b2 : k * (UU : Int) ≤ 1000000000 * (UU : Int) := Int.mul_le_mul_of_nonneg_right (by omega) (by omega)
  unfold mayB
  rw [e1, e2]
  rw [Bool.and_eq_true]
  constructor
  · rcases Int.lt_or_eq_of_le b1 with h | h
    · rw [Int.compare_eq_gt.2 h]; rfl
    · rw [← h, Int.compare_eq_eq.2 rfl]; rfl
  · rcases Int.lt_or_eq_of_le b2 with h | h
    · rw [Int.compare_eq_lt.2 h]; rfl
    · rw [h, Int.compare_eq_eq.2 rfl]; rfl

theorem Sml.chk {K : List Int} (h : Sml K) : chkF (fls K) = 0 := by
  have hl := h.len
  refine chkF_fine (by rw [fls_len]; omega) (fun k hk => ?_)
  rw [fls_len] at hk
  rw [fls_at hk]
  exact mayB_fi (by have := h.at hk; omega)

theorem Sml.nok {K : List Int} (h : Sml K) : NOkF (fls K) := by
  have hl := h.len
  refine NOkF.of h.chk (by rw [fls_len]; omega) (fun x hx => ?_)
  unfold fls at hx
  rw [List.mem_map] at hx
  obtain ⟨k, hk, rfl⟩ := hx
  exact FV.lt (FV_ofInt k (by have := h.b k hk; omega))

/-- Weighted sums come out whole. -/
theorem Sml.part {K : List Int} (h : Sml K) (c : Nat → Int) (hc : ∀ i, (c i).natAbs ≤ 1) (A : Nat → Nat) (hA : ∀ i, FI (A i) (c i)) (G : List Nat) (hG : G = (List.range (fls K).length).map (fun i => fop .mul ((fls K).getD i 0) (A i))) :
    FI (sm (tl G)) (ws c K) ∧ (ws c K).natAbs ≤ 400000 := by
  have hl := h.len
  have hm : ∀ i, i < K.length → FI (fop .mul ((fls K).getD i 0) (A i)) (K.getD i 0 * c i) := fun i hi => by
    rw [fls_at hi]
    have h1 := h.at hi
    have h2 : (K.getD i 0 * c i).natAbs ≤ 1000 * 1 := mul_le_of h1 (hc i)
    exact ((FI.fi (K.getD i 0) (by omega)).mul (hA i) (by omega)).2
  have hb : ∀ v, v ∈ (List.range K.length).map (fun i => K.getD i 0 * c i) → v.natAbs ≤ 1000 := fun v hv => by
    rw [List.mem_map] at hv
    obtain ⟨i, hi, rfl⟩ := hv
    rw [List.mem_range] at hi
    have h2 : (K.getD i 0 * c i).natAbs ≤ 1000 * 1 := mul_le_of (h.at hi) (hc i)
    omega
  have hsum : (ws c K).natAbs ≤ 400000 := by
    have : ∀ (V : List Int), (∀ v, v ∈ V → v.natAbs ≤ 1000) → V.sum.natAbs ≤ V.length * 1000 := by
      intro V
      induction V with
      | nil => intro _; simp
      | cons v V ih =>
        intro hv
        have h1 := ih (fun x hx => hv x (List.mem_cons_of_mem _ hx))
        have h2 := hv v (by simp)
        simp only [List.sum_cons, List.length_cons]
        omega
    have h3 := this _ hb
    rw [List.length_map, List.length_range] at h3
    unfold ws
    omega
  obtain ⟨_, h2⟩ := TI.list ((List.range K.length).map (fun i => K.getD i 0 * c i)) G [] 0 TAll.nil TI.zero (by rw [hG]; simp [fls]) (by simp; omega) (fun v hv => by have := hb v hv; omega) (fun j h1 h2 => by
    simp only [hG, List.getElem_map, List.getElem_range]
    exact hm j (by simpa using h2))
  rw [List.nil_append, Int.zero_add] at h2
  exact ⟨(h2.sm (by show (ws c K).natAbs ≤ _; omega)).2, hsum⟩

theorem FI_one : FI one 1 := by
  have e : floatOfInt .f64 1 = one := by kernel_rfl
  rw [← e]
  exact FI.fi 1 (by decide)

theorem FI_mone : FI mone (-1) := by
  have e : floatOfInt .f64 (-1) = mone := by kernel_rfl
  rw [← e]
  exact FI.fi (-1) (by decide)

theorem re0 (i : Nat) : FI (reA 0 i) 1 := by
  have : wj 0 i = 0 := by unfold wj; rw [Nat.zero_mul]
  unfold reA; rw [this]; exact FI_one

theorem im0 (i : Nat) : FI (imA 0 i) 0 := by
  have : wj 0 i = 0 := by unfold wj; rw [Nat.zero_mul]
  unfold imA; rw [this]; exact FI.zero

theorem re4 (i : Nat) : FI (reA 4 i) (c0 i) := by
  rcases (show i % 2 = 0 ∨ i % 2 = 1 by omega) with h | h
  · have e : wj 4 i = 0 := by unfold wj; omega
    unfold reA c0; rw [e, h]; exact FI_one
  · have e : wj 4 i = 4 := by unfold wj; omega
    unfold reA c0; rw [e, h]; exact FI_mone

theorem im4 (i : Nat) : FI (imA 4 i) 0 := by
  rcases (show i % 2 = 0 ∨ i % 2 = 1 by omega) with h | h
  · have e : wj 4 i = 0 := by unfold wj; omega
    unfold imA; rw [e]; exact FI.zero
  · have e : wj 4 i = 4 := by unfold wj; omega
    unfold imA; rw [e]; exact FI.zero

theorem re2 (i : Nat) : FI (reA 2 i) (c1 i) := by
  rcases (show i % 4 = 0 ∨ i % 4 = 1 ∨ i % 4 = 2 ∨ i % 4 = 3 by omega) with h | h | h | h
  · have e : wj 2 i = 0 := by unfold wj; omega
    unfold reA c1; rw [e, h]; exact FI_one
  · have e : wj 2 i = 2 := by unfold wj; omega
    unfold reA c1; rw [e, h]; exact FI.zero
  · have e : wj 2 i = 4 := by unfold wj; omega
    unfold reA c1; rw [e, h]; exact FI_mone
  · have e : wj 2 i = 6 := by unfold wj; omega
    unfold reA c1; rw [e, h]; exact FI.zero

theorem im2 (i : Nat) : FI (imA 2 i) (c2 i) := by
  rcases (show i % 4 = 0 ∨ i % 4 = 1 ∨ i % 4 = 2 ∨ i % 4 = 3 by omega) with h | h | h | h
  · have e : wj 2 i = 0 := by unfold wj; omega
    unfold imA c2; rw [e, h]; exact FI.zero
  · have e : wj 2 i = 2 := by unfold wj; omega
    unfold imA c2; rw [e, h]; exact FI_one
  · have e : wj 2 i = 4 := by unfold wj; omega
    unfold imA c2; rw [e, h]; exact FI.zero
  · have e : wj 2 i = 6 := by unfold wj; omega
    unfold imA c2; rw [e, h]; exact FI_mone

theorem c0_b (i : Nat) : (c0 i).natAbs ≤ 1 := by unfold c0; omega
theorem c1_b (i : Nat) : (c1 i).natAbs ≤ 1 := by unfold c1; split; omega; split <;> omega
theorem c2_b (i : Nat) : (c2 i).natAbs ≤ 1 := by unfold c2; split; omega; split <;> omega

theorem sum_noughts (n : Nat) : ((List.range n).map (fun _ => (0 : Int))).sum = 0 := by
  induction n with
  | zero => rfl
  | succ n ih => rw [List.range_succ, List.map_append, List.sum_append, ih]; rfl

theorem ws_zero (K : List Int) : ws (fun _ => 0) K = 0 := by
  unfold ws
  simp only [Int.mul_zero]
  exact sum_noughts _

/-- A bell's rhythm compared: the same number. -/
structure Rhy (K : List Int) : Prop where
  r0 : FI (rh1 (fls K) 0).1 (ws (fun _ => 1) K)
  i0 : FI (rh1 (fls K) 0).2 0
  r4 : FI (rh1 (fls K) 4).1 (ws c0 K)
  i4 : FI (rh1 (fls K) 4).2 0
  r2 : FI (rh1 (fls K) 2).1 (ws c1 K)
  i2 : FI (rh1 (fls K) 2).2 (ws c2 K)
  b : (ws (fun _ => 1) K).natAbs ≤ 400000
  b0 : (ws c0 K).natAbs ≤ 400000
  b1 : (ws c1 K).natAbs ≤ 400000
  b2 : (ws c2 K).natAbs ≤ 400000

theorem Sml.rhy {K : List Int} (h : Sml K) : Rhy K := by
  have p0 := h.part (fun _ => 1) (fun _ => by decide) (reA 0) re0 (rhR (fls K) 0) rfl
  have q0 := h.part (fun _ => 0) (fun _ => by decide) (imA 0) im0 (rhI (fls K) 0) rfl
  have p4 := h.part c0 c0_b (reA 4) re4 (rhR (fls K) 4) rfl
  have q4 := h.part (fun _ => 0) (fun _ => by decide) (imA 4) im4 (rhI (fls K) 4) rfl
  have p2 := h.part c1 c1_b (reA 2) re2 (rhR (fls K) 2) rfl
  have q2 := h.part c2 c2_b (imA 2) im2 (rhI (fls K) 2) rfl
  rw [ws_zero] at q0 q4
  exact ⟨p0.1, q0.1, p4.1, q4.1, p2.1, q2.1, p0.2, p4.2, p2.2, q2.2⟩

end Go.Proofs.Ytbhmhgkbobajfaa

/- Sums of numbers that are whole in small units: nothing is lost. -/
namespace Go.Proofs.Ytbhmhgkbobajfaa
open Go.RowKit
set_option maxRecDepth 20000
set_option linter.unusedVariables false

/-- What is written is less than a last digit off. -/
theorem nearest_near (neg : Bool) (mag P q N : Nat) (hq : q ≤ 1900) (hv : mag * 2 ^ P = N * 2 ^ q) (hN : N ≤ 4722366482869645213696) : ∃ t : Nat, FV (DF.nearest neg mag ((P : Int) - 1074 - (0 : Nat))) (if neg then -((t * 2 ^ q : Nat) : Int) else ((t * 2 ^ q : Nat) : Int)) ∧ t ≤ N + 1048576 ∧ N ≤ t + 1048576 := by
  rcases Nat.eq_zero_or_pos mag with h0 | h0
  · subst h0
    have hN0 : N = 0 := by
      rw [Nat.zero_mul] at hv
      rcases Nat.mul_eq_zero.1 hv.symm with h | h
      · exact h
      · have := Nat.two_pow_pos q; omega
    refine ⟨0, ?_, by omega, by omega⟩
    unfold Ieee.Format.nearest
    rw [if_pos rfl]
    simpa using FV_zero_word neg
  · obtain ⟨L, kept, hn, h1, h2, h3, h4, h5⟩ := nearest_parts neg mag P 0 h0
    simp only [Nat.add_zero] at h3 h4 h5
    rw [hv] at h3 h4 h5
    have hLq : 0 < L → L ≤ q + 20 := fun hL => by
      have h8 : N * 2 ^ q ≤ 2 ^ 72 * 2 ^ q := Nat.mul_le_mul_right _ (by rw [show (2 : Nat) ^ 72 = 4722366482869645213696 from by decide]; exact hN)
      have h9 := Nat.le_trans (h3 hL) h8
      rw [show (4503599627370496 : Nat) = 2 ^ 52 from by decide, ← Nat.pow_add, ← Nat.pow_add] at h9
      have := (Nat.pow_le_pow_iff_right (by decide : 1 < 2)).1 h9
      omega
    have hL2 : L ≤ 1991 := by
      rcases Nat.eq_zero_or_pos L with e | e
      · omega
      · have := hLq e; omega
    have hFV := FV_word neg L kept h1 h2 (by omega)
    rw [hn, Nat.min_eq_left (by omega)]
    rcases Nat.le_total L q with hl | hl
    · have e : N * 2 ^ q = N * 2 ^ (q - L) * 2 ^ L := by rw [Nat.mul_assoc, ← Nat.pow_add]; congr 2; omega
      have hk : kept = N * 2 ^ (q - L) := Nat.le_antisymm (h4 _ (by rw [← e]; exact Nat.le_refl _)) (h5 _ (by rw [← e]; exact Nat.le_refl _))
      have e2 : kept * 2 ^ L = N * 2 ^ q := by rw [hk, ← e]
      rw [e2] at hFV
      exact ⟨N, hFV, by omega, by omega⟩
    · have e2 : kept * 2 ^ L = kept * 2 ^ (L - q) * 2 ^ q := by rw [Nat.mul_assoc, ← Nat.pow_add]; congr 2; omega
      have hpow : 2 ^ (L - q) ≤ 1048576 := by
        rcases Nat.eq_zero_or_pos L with e | e
        · subst e; rw [Nat.zero_sub]; decide
        · rw [show (1048576 : Nat) = 2 ^ 20 from by decide]
          exact Nat.pow_le_pow_right (by decide) (by have := hLq e; omega)
      have hqp := Nat.two_pow_pos q
      have el : ∀ K, K * 2 ^ L = K * 2 ^ (L - q) * 2 ^ q := fun K => by rw [Nat.mul_assoc, ← Nat.pow_add]; congr 2; omega
      have hdm := Nat.div_add_mod N (2 ^ (L - q))
      have hml := Nat.mod_lt N (Nat.two_pow_pos (L - q))
      generalize hK : N / 2 ^ (L - q) = K at *
      rw [Nat.mul_comm] at hdm
      have k1 : K ≤ kept := h5 K (by rw [el]; exact Nat.mul_le_mul_right _ (by omega))
      have k2 : kept ≤ K + 1 := h4 (K + 1) (by rw [el]; exact Nat.mul_le_mul_right _ (by rw [Nat.add_mul, Nat.one_mul]; omega))
      have m1 : K * 2 ^ (L - q) ≤ kept * 2 ^ (L - q) := Nat.mul_le_mul_right _ k1
      have m2 : kept * 2 ^ (L - q) ≤ K * 2 ^ (L - q) + 2 ^ (L - q) := by have := Nat.mul_le_mul_right (2 ^ (L - q)) k2; rw [Nat.add_mul, Nat.one_mul] at this; exact this
      rw [e2] at hFV
      exact ⟨kept * 2 ^ (L - q), hFV, by omega, by omega⟩

/-- The unit: 2 ^ -40. -/
def EU : Nat := 2 ^ (XP - 40)

theorem EU_eq : EU = 2 ^ (XP - 40) := by unfold EU; rfl

theorem EU_pos : 0 < EU := Nat.two_pow_pos _

/-- x is so many units. -/
def FE (x : Nat) (a : Int) : Prop := FV x (a * (EU : Int))

theorem Rp_EU (n : Nat) (h : n ≤ 9007199254740992) : Rp (n * EU) := ⟨n, XP - 40, rfl, h, by have := XP_eq; omega⟩

theorem natAbs_EU (a : Int) : (a * (EU : Int)).natAbs = a.natAbs * EU := by rw [Int.natAbs_mul, Int.natAbs_natCast]

theorem FE.add {x y : Nat} {a b : Int} (hx : FE x a) (hy : FE y b) (h : (a + b).natAbs ≤ 9007199254740992) : FOk .add x y ∧ FE (fop .add x y) (a + b) := by
  have e : a * (EU : Int) + b * (EU : Int) = (a + b) * (EU : Int) := (Int.add_mul _ _ _).symm
  obtain ⟨r, h1, h2⟩ := add_eq hx hy (by rw [e, natAbs_EU]; exact Rp_EU _ h)
  obtain ⟨k1, k2⟩ := FOk.of (op := .add) (x := x) (y := y) h1
  rw [e] at h2
  exact ⟨k1, by rw [k2]; exact h2⟩

theorem FE.sub {x y : Nat} {a b : Int} (hx : FE x a) (hy : FE y b) (h : (a - b).natAbs ≤ 9007199254740992) : FOk .sub x y ∧ FE (fop .sub x y) (a - b) := by
  have e : a * (EU : Int) - b * (EU : Int) = (a - b) * (EU : Int) := (Int.sub_mul _ _ _).symm
  obtain ⟨r, h1, h2⟩ := sub_eq hx hy (by rw [e, natAbs_EU]; exact Rp_EU _ h)
  obtain ⟨k1, k2⟩ := FOk.of (op := .sub) (x := x) (y := y) h1
  rw [e] at h2
  exact ⟨k1, by rw [k2]; exact h2⟩

/-- A difference that is one of the two floats, with its sign turned. -/
theorem sub_self_like {x t y : Nat} {a b c : Int} (hx : FV x a) (ht : FV t b) (hy : FV y c) (h : a - b = -c) (hc : c.natAbs ≤ 2 ^ (XP + 40)) : ∃ r, DF.sub x t = some r ∧ FV r (a - b) := by
  obtain ⟨s, m, I, _, e, hm, hv⟩ := hy
  refine sub_eq hx ht ?_
  rw [h, Int.natAbs_neg, hv, signed_natAbs]
  rcases Nat.eq_zero_or_pos m with h0 | h0
  · subst h0; rw [Nat.zero_mul]; exact ⟨0, 0, rfl, by omega, by omega⟩
  · refine ⟨m, I, rfl, by omega, ?_⟩
    rw [hv, signed_natAbs] at hc
    have h1 : 1 * 2 ^ I ≤ m * 2 ^ I := Nat.mul_le_mul_right _ h0
    rw [Nat.one_mul] at h1
    have h2 := (Nat.pow_le_pow_iff_right (by decide : 1 < 2)).1 (Nat.le_trans h1 hc)
    have := XP_eq
    omega

theorem EU_bound {a : Int} (h : a.natAbs ≤ 2361183241434822606848) : (a * (EU : Int)).natAbs ≤ 2 ^ (XP + 40) := by
  rw [natAbs_EU]
  refine Nat.le_trans (Nat.mul_le_mul_right _ h) ?_
  rw [show (2361183241434822606848 : Nat) = 2 ^ 71 from by decide]
  unfold EU
  rw [← Nat.pow_add]
  exact Nat.pow_le_pow_right (by decide) (by have := XP_eq; omega)

/-- A sum of such numbers is near. -/
theorem FE.near {x y : Nat} {a b : Int} (hx : FE x a) (hy : FE y b) (h : (a + b).natAbs ≤ 4722366482869645213696) : FOk .add x y ∧ ∃ t, FE (fop .add x y) t ∧ (t - (a + b)).natAbs ≤ 1048576 := by
  obtain ⟨s, m, I, _, e1, _, hv⟩ := hx
  obtain ⟨u, n, J, _, e2, _, hw⟩ := hy
  have hadd : DF.add x y = some (DF.nearest (if Ieee.signed s m (I - min I J) + Ieee.signed u n (J - min I J) = 0 then s && u else decide (Ieee.signed s m (I - min I J) + Ieee.signed u n (J - min I J) < 0)) (Ieee.signed s m (I - min I J) + Ieee.signed u n (J - min I J)).natAbs (((min I J : Nat) : Int) - 1074 - (0 : Nat))) := by
    unfold Ieee.Format.add
    rw [e1, e2, sum_read]
    rfl
  have hs := sum_scaled s u m n I J
  rw [← hv, ← hw, ← Int.add_mul] at hs
  generalize hT : Ieee.signed s m (I - min I J) + Ieee.signed u n (J - min I J) = T at *
  generalize hP : min I J = P at *
  generalize hN : (if T = 0 then s && u else decide (T < 0)) = neg at *
  obtain ⟨k1, k2⟩ := FOk.of (op := .add) (x := x) (y := y) hadd
  refine ⟨k1, ?_⟩
  rw [k2]
  -- the same sum, with a place of its own
  have hEU : (0 : Int) < (EU : Int) := by have := EU_pos; omega
  have hpw : (0 : Int) < ((2 ^ P : Nat) : Int) := by have := Nat.two_pow_pos P; omega
  have hnab : T.natAbs * 2 ^ P = (a + b).natAbs * EU := by
    have := congrArg Int.natAbs hs
    rw [Int.natAbs_mul, Int.natAbs_natCast, natAbs_EU] at this
    exact this
  have hsgn : neg = true → a + b ≤ 0 := fun e => by
    rw [← hN] at e
    by_cases h0 : T = 0
    · rw [h0, Int.zero_mul] at hs
      rcases Int.mul_eq_zero.1 hs.symm with h | h <;> omega
    · rw [if_neg h0] at e
      have hT0 : T < 0 := by simpa using e
      have : (a + b) * (EU : Int) < 0 := by rw [← hs]; exact Int.mul_neg_of_neg_of_pos hT0 hpw
      rcases Int.lt_or_le 0 (a + b) with h | h
      · have := Int.mul_pos h hEU; omega
      · exact h
  have hsgn2 : neg = false → 0 ≤ a + b := fun e => by
    rw [← hN] at e
    by_cases h0 : T = 0
    · rw [h0, Int.zero_mul] at hs
      rcases Int.mul_eq_zero.1 hs.symm with h | h <;> omega
    · rw [if_neg h0] at e
      have hT0 : ¬ T < 0 := by simpa using e
      have : 0 < (a + b) * (EU : Int) := by rw [← hs]; exact Int.mul_pos (by omega) hpw
      rcases Int.lt_or_le (a + b) 0 with h | h
      · have := Int.mul_neg_of_neg_of_pos h hEU; omega
      · exact h
  obtain ⟨t, hF, t1, t2⟩ := nearest_near neg T.natAbs P (XP - 40) (a + b).natAbs (by have := XP_eq; omega) (by rw [hnab, EU_eq]) h
  rw [← EU_eq] at hF
  cases neg with
  | true =>
    rw [if_pos rfl] at hF
    refine ⟨-(t : Int), ?_, by have := hsgn rfl; omega⟩
    unfold FE
    rw [Int.neg_mul, ← Int.natCast_mul]
    exact hF
  | false =>
    rw [if_neg (by decide)] at hF
    refine ⟨(t : Int), ?_, by have := hsgn2 rfl; omega⟩
    unfold FE
    rw [← Int.natCast_mul]
    exact hF

theorem FE.order {x y : Nat} {a b : Int} (hx : FE x a) (hy : FE y b) : FloatKind.f64.format.order (x % 9223372036854775808) (y % 9223372036854775808) = some (compare a.natAbs b.natAbs) := by
  have h : FloatKind.f64.format.order (x % 9223372036854775808) (y % 9223372036854775808) = some (compare ((a * (EU : Int)).natAbs : Int) ((b * (EU : Int)).natAbs : Int)) := order_fv (FV_abs hx) (FV_abs hy)
  rw [h, natAbs_EU, natAbs_EU]
  congr 1
  have hE := EU_pos
  rcases Nat.lt_trichotomy a.natAbs b.natAbs with h | h | h
  · rw [Nat.compare_eq_lt.2 h, Int.compare_eq_lt.2 (by have := Nat.mul_lt_mul_of_pos_right h hE; omega)]
  · rw [h, Nat.compare_eq_eq.2 rfl, Int.compare_eq_eq.2 rfl]
  · rw [Nat.compare_eq_gt.2 h, Int.compare_eq_gt.2 (by have := Nat.mul_lt_mul_of_pos_right h hE; omega)]

theorem FE.fge {x y : Nat} {a b : Int} (hx : FE x a) (hy : FE y b) : fge x y = decide (b.natAbs ≤ a.natAbs) := by
  unfold Go.Proofs.Ytbhmhgkbobajfaa.fge
  rw [hx.order hy]
  rcases Nat.lt_trichotomy a.natAbs b.natAbs with h | h | h
  · rw [Nat.compare_eq_lt.2 h, decide_eq_false (by omega)]; rfl
  · rw [Nat.compare_eq_eq.2 h, decide_eq_true (by omega)]; rfl
  · rw [Nat.compare_eq_gt.2 h, decide_eq_true (by omega)]; rfl

/-- One number more: nothing is lost. -/
theorem FE.tad {s : Nat × Nat} {x : Nat} {A l b : Int} (hA : FE s.1 A) (hl : FE s.2 l) (hx : FE x b) (bA : A.natAbs ≤ 2361183241434822606848) (bb : b.natAbs ≤ 2361183241434822606848) (bl : l.natAbs ≤ 1125899906842624)
    (hc : (A + b).natAbs ≤ 9007199254740992 ∨ (b.natAbs ≤ 1000 ∧ b.natAbs ≤ A.natAbs) ∨ (A.natAbs ≤ 1099511627776 ∧ A.natAbs < b.natAbs)) :
    TOk s x ∧ ∃ A' l', FE (tad s x).1 A' ∧ FE (tad s x).2 l' ∧ A' + l' = A + b + l ∧ (A' - (A + b)).natAbs ≤ 1048576 ∧ ((A + b).natAbs ≤ 9007199254740992 → A' = A + b) := by
  have hg := hA.fge hx
  have hla := FV.lt hA
  have hlx := FV.lt hx
  by_cases h1 : (A + b).natAbs ≤ 9007199254740992
  · obtain ⟨k1, v1⟩ := hA.add hx h1
    have e1 : A * (EU : Int) - (A + b) * (EU : Int) = -(b * (EU : Int)) := by rw [← Int.sub_mul, ← Int.neg_mul]; congr 1; omega
    have e2 : b * (EU : Int) - (A + b) * (EU : Int) = -(A * (EU : Int)) := by rw [← Int.sub_mul, ← Int.neg_mul]; congr 1; omega
    have z0 : Rp 0 := ⟨0, 0, rfl, by omega, by omega⟩
    obtain ⟨r2, d2, w2⟩ := sub_self_like hA v1 hx e1 (EU_bound bb)
    obtain ⟨k2, f2⟩ := FOk.of (op := .sub) d2
    obtain ⟨r3, d3, w3⟩ := add_eq (y := x) w2 hx (by rw [e1, show -(b * (EU : Int)) + b * (EU : Int) = 0 from by omega]; exact z0)
    obtain ⟨k3, f3⟩ := FOk.of (op := .add) d3
    obtain ⟨r4, d4, w4⟩ := sub_self_like hx v1 hA e2 (EU_bound bA)
    obtain ⟨k4, f4⟩ := FOk.of (op := .sub) d4
    obtain ⟨r5, d5, w5⟩ := add_eq (y := s.1) w4 hA (by rw [e2, show -(A * (EU : Int)) + A * (EU : Int) = 0 from by omega]; exact z0)
    obtain ⟨k5, f5⟩ := FOk.of (op := .add) d5
    have u3 : FE r3 0 := by unfold FE; rw [Int.zero_mul]; rw [e1, show -(b * (EU : Int)) + b * (EU : Int) = 0 from by omega] at w3; exact w3
    have u5 : FE r5 0 := by unfold FE; rw [Int.zero_mul]; rw [e2, show -(A * (EU : Int)) + A * (EU : Int) = 0 from by omega] at w5; exact w5
    obtain ⟨k6, v6⟩ := hl.add u3 (by omega)
    obtain ⟨k7, v7⟩ := hl.add u5 (by omega)
    refine ⟨⟨hla, hlx, k1, fun _ => ⟨k2, by rw [f2]; exact k3, by rw [f2, f3]; exact k6⟩, fun _ => ⟨k4, by rw [f4]; exact k5, by rw [f4, f5]; exact k7⟩⟩, A + b, l, v1, ?_, by omega, by simp, fun _ => rfl⟩
    unfold Go.Proofs.Ytbhmhgkbobajfaa.tad
    dsimp only
    split
    · rw [f2, f3]; rw [Int.add_zero] at v6; exact v6
    · rw [f4, f5]; rw [Int.add_zero] at v7; exact v7
  · obtain ⟨k1, t, v1, hn⟩ := hA.near hx (by omega)
    rcases hc with hc | ⟨h2, h3⟩ | ⟨h2, h3⟩
    · exact absurd hc h1
    · rw [decide_eq_true h3] at hg
      obtain ⟨k2, v2⟩ := hA.sub v1 (by omega)
      obtain ⟨k3, v3⟩ := v2.add hx (by omega)
      obtain ⟨k4, v4⟩ := hl.add v3 (by omega)
      refine ⟨⟨hla, hlx, k1, fun _ => ⟨k2, k3, k4⟩, fun e => by rw [hg] at e; cases e⟩, t, l + (A - t + b), v1, ?_, by omega, hn, fun e => absurd e h1⟩
      unfold Go.Proofs.Ytbhmhgkbobajfaa.tad
      dsimp only
      rw [if_pos hg]
      exact v4
    · rw [decide_eq_false (by omega)] at hg
      obtain ⟨k2, v2⟩ := hx.sub v1 (by omega)
      obtain ⟨k3, v3⟩ := v2.add hA (by omega)
      obtain ⟨k4, v4⟩ := hl.add v3 (by omega)
      refine ⟨⟨hla, hlx, k1, fun e => (by rw [hg] at e; cases e), fun _ => ⟨k2, k3, k4⟩⟩, t, l + (b - t + A), v1, ?_, by omega, hn, fun e => absurd e h1⟩
      unfold Go.Proofs.Ytbhmhgkbobajfaa.tad
      dsimp only
      rw [if_neg (by rw [hg]; decide)]
      exact v4

end Go.Proofs.Ytbhmhgkbobajfaa

/- A great number that comes and goes: the sum of the small ones stays, plain. -/
namespace Go.Proofs.Ytbhmhgkbobajfaa
open Go.RowKit
set_option maxRecDepth 20000
set_option linter.unusedVariables false

/-- A total behind i numbers: sg times the great one, S of small ones. -/
structure SE (s : Nat × Nat) (BB : Int) (i : Nat) (sg S : Int) : Prop where
  ex : ∃ A l, FE s.1 A ∧ FE s.2 l ∧ A + l = sg * BB + S ∧ (A - sg * BB).natAbs ≤ i * 2097152 ∧ l.natAbs ≤ i * 1048576
  sg : sg = -1 ∨ sg = 0 ∨ sg = 1

theorem FE.zero : FE 0 0 := by unfold FE; rw [Int.zero_mul]; exact FV_zero

theorem SE.zero (BB : Int) : SE (0, 0) BB 0 0 0 := ⟨⟨0, 0, FE.zero, FE.zero, by omega, by omega, by omega⟩, Or.inr (Or.inl rfl)⟩

/-- A great number that may be: 2^40 to 2^70 units. -/
structure Big (BB : Int) : Prop where
  lo : 1099511627776 ≤ BB
  hi : BB ≤ 1180591620717411303424

theorem SE.small {s : Nat × Nat} {BB : Int} {i x : Nat} {sg S k : Int} (h : SE s BB i sg S) (hB : Big BB) (hi : i ≤ 410) (hx : FE x k) (hk : k.natAbs ≤ 1000) : TOk s x ∧ SE (tad s x) BB (i + 1) sg (S + k) := by
  obtain ⟨⟨A, l, hA, hl, he, h1, h2⟩, hsg⟩ := h
  have hlo := hB.lo
  have hhi := hB.hi
  have hsB : sg * BB = -BB ∨ sg * BB = 0 ∨ sg * BB = BB := by
    rcases hsg with rfl | rfl | rfl
    · left; omega
    · right; left; omega
    · right; right; omega
  generalize hC : sg * BB = C at *
  obtain ⟨hT, A', l', f1, f2, e1, e2, e3⟩ := hA.tad hl hx (by omega) (by omega) (by omega) (by
    rcases hsB with e | e | e
    · right; left; exact ⟨hk, by omega⟩
    · left; omega
    · right; left; exact ⟨hk, by omega⟩)
  exact ⟨hT, ⟨A', l', f1, f2, by rw [hC]; omega, by rw [hC]; omega, by omega⟩, hsg⟩

theorem SE.big {s : Nat × Nat} {BB : Int} {i x : Nat} {sg S d : Int} (h : SE s BB i sg S) (hB : Big BB) (hi : i ≤ 410) (hx : FE x (d * BB)) (hd : d = 1 ∨ d = -1) (hsd : sg + d = -1 ∨ sg + d = 0 ∨ sg + d = 1) : TOk s x ∧ SE (tad s x) BB (i + 1) (sg + d) S := by
  obtain ⟨⟨A, l, hA, hl, he, h1, h2⟩, hsg⟩ := h
  have hlo := hB.lo
  have hhi := hB.hi
  have e9 : (sg + d) * BB = sg * BB + d * BB := Int.add_mul _ _ _
  have hcase : (sg * BB = 0 ∧ (d * BB = BB ∨ d * BB = -BB)) ∨ (sg * BB = BB ∧ d * BB = -BB) ∨ (sg * BB = -BB ∧ d * BB = BB) := by
    rcases hsg with rfl | rfl | rfl <;> rcases hd with rfl | rfl <;> omega
  generalize d * BB = D at *
  generalize hC : (sg + d) * BB = C' at *
  generalize sg * BB = C at *
  obtain ⟨hT, A', l', f1, f2, e1, e2, e3⟩ := hA.tad hl hx (by omega) (by omega) (by omega) (by
    rcases hcase with ⟨e, e'⟩ | ⟨e, e'⟩ | ⟨e, e'⟩
    · right; right; exact ⟨by omega, by omega⟩
    · left; omega
    · left; omega)
  exact ⟨hT, ⟨A', l', f1, f2, by rw [hC]; omega, by rw [hC]; omega, by omega⟩, hsd⟩

/-- Tokens: a small number (0, k), or the great one (1, 0), (-1, 0). -/
def TkOk : Int → List (Int × Int) → Prop
  | _, [] => True
  | sg, t :: l => ((t.1 = 0 ∧ t.2.natAbs ≤ 1000) ∨ ((t.1 = 1 ∨ t.1 = -1) ∧ t.2 = 0)) ∧ (sg + t.1 = -1 ∨ sg + t.1 = 0 ∨ sg + t.1 = 1) ∧ TkOk (sg + t.1) l

def tkG : List (Int × Int) → Int
  | [] => 0
  | t :: l => t.1 + tkG l

def tkS : List (Int × Int) → Int
  | [] => 0
  | t :: l => t.2 + tkS l

theorem tkG_append : ∀ a b : List (Int × Int), tkG (a ++ b) = tkG a + tkG b
  | [], b => by simp [tkG]
  | t :: a, b => by simp only [List.cons_append, tkG, tkG_append a b]; omega

theorem tkS_append : ∀ a b : List (Int × Int), tkS (a ++ b) = tkS a + tkS b
  | [], b => by simp [tkS]
  | t :: a, b => by simp only [List.cons_append, tkS, tkS_append a b]; omega

theorem TkOk_append : ∀ (sg : Int) (a b : List (Int × Int)), TkOk sg a → TkOk (sg + tkG a) b → TkOk sg (a ++ b)
  | sg, [], b, _, h => by simpa [tkG] using h
  | sg, t :: a, b, h1, h2 => by
    refine ⟨h1.1, h1.2.1, TkOk_append (sg + t.1) a b h1.2.2 ?_⟩
    rw [show sg + t.1 + tkG a = sg + tkG (t :: a) from by simp only [tkG]; omega]
    exact h2

/-- Small numbers alone. -/
theorem small_tokens : ∀ (sg : Int) (ks : List Int), (sg = -1 ∨ sg = 0 ∨ sg = 1) → (∀ k, k ∈ ks → k.natAbs ≤ 1000) → TkOk sg (ks.map (fun k => ((0 : Int), k))) ∧ tkG (ks.map (fun k => ((0 : Int), k))) = 0
  | sg, [], _, _ => ⟨trivial, rfl⟩
  | sg, k :: ks, h, hk => by
    have := small_tokens sg ks h (fun x hx => hk x (List.mem_cons_of_mem _ hx))
    refine ⟨⟨Or.inl ⟨rfl, hk k (by simp)⟩, by simpa using h, ?_⟩, by simp only [List.map_cons, tkG]; omega⟩
    simpa using this.1

/-- The total of floats that are such tokens. -/
theorem SE.all (BB : Int) (hB : Big BB) : ∀ (Z : List (Int × Int)) (F G : List Nat) (i : Nat) (sg S : Int), TAll G → G.length = i → SE (tl G) BB i sg S → TkOk sg Z → F.length = Z.length → i + Z.length ≤ 410 → (∀ j (h1 : j < F.length) (h2 : j < Z.length), FE F[j] (Z[j].1 * BB + Z[j].2)) →
    TAll (G ++ F) ∧ SE (tl (G ++ F)) BB (i + Z.length) (sg + tkG Z) (S + tkS Z)
  | [], [], G, i, sg, S, hG, _, hS, _, _, _, _ => by
    rw [List.append_nil]
    simp only [tkG, tkS, List.length_nil, Nat.add_zero, Int.add_zero]
    exact ⟨hG, hS⟩
  | t :: Z, x :: F, G, i, sg, S, hG, hGl, hS, hZ, hl, hi, hv => by
    have hx := hv 0 (by simp) (by simp)
    simp only [List.getElem_cons_zero] at hx
    simp only [List.length_cons] at hl hi
    have hstep : TOk (tl G) x ∧ SE (tad (tl G) x) BB (i + 1) (sg + t.1) (S + t.2) := by
      rcases hZ.1 with ⟨e1, e2⟩ | ⟨e1, e2⟩
      · rw [e1, Int.zero_mul, Int.zero_add] at hx
        have := hS.small hB (by omega) hx e2
        rw [e1, Int.add_zero]
        exact this
      · rw [e2, Int.add_zero] at hx
        have := hS.big hB (by omega) hx e1 hZ.2.1
        rw [e2, Int.add_zero]
        exact this
    have hG' : TAll (G ++ [x]) := hG.snoc hstep.1
    have hrec := SE.all BB hB Z F (G ++ [x]) (i + 1) (sg + t.1) (S + t.2) hG' (by simp [hGl]) (by rw [tl_snoc]; exact hstep.2) hZ.2.2 (by omega) (by omega) (fun j h1 h2 => by
      have := hv (j + 1) (by simp; omega) (by simp; omega)
      simpa using this)
    rw [List.append_assoc] at hrec
    simp only [List.singleton_append] at hrec
    refine ⟨hrec.1, ?_⟩
    have e1 : i + 1 + Z.length = i + (t :: Z).length := by simp; omega
    have e2 : sg + t.1 + tkG Z = sg + tkG (t :: Z) := by simp only [tkG]; omega
    have e3 : S + t.2 + tkS Z = S + tkS (t :: Z) := by simp only [tkS]; omega
    rw [e1, e2, e3] at hrec
    exact hrec.2
  | [], _ :: _, _, _, _, _, _, _, _, _, hl, _, _ => by simp at hl
  | _ :: _, [], _, _, _, _, _, _, _, _, hl, _, _ => by simp at hl

/-- Where the great one has come and gone: the sum of the small ones, to the last bit. -/
theorem SE.done {F : List Nat} {Z : List (Int × Int)} {BB : Int} (hB : Big BB) (hl : F.length = Z.length) (hn : Z.length ≤ 410) (hZ : TkOk 0 Z) (hG : tkG Z = 0) (hS : (tkS Z).natAbs ≤ 9007199254740992) (hv : ∀ j (h1 : j < F.length) (h2 : j < Z.length), FE F[j] (Z[j].1 * BB + Z[j].2)) :
    TAll F ∧ FOk .add (tl F).1 (tl F).2 ∧ FE (fop .add (tl F).1 (tl F).2) (tkS Z) := by
  obtain ⟨h1, ⟨A, l, hA, hl', he, _⟩, _⟩ := SE.all BB hB Z F [] 0 0 0 TAll.nil rfl (SE.zero BB) hZ hl (by omega) hv
  rw [List.nil_append] at h1 hA hl'
  rw [hG] at he
  have e : A + l = tkS Z := by omega
  obtain ⟨k1, v1⟩ := hA.add hl' (by rw [e]; exact hS)
  rw [e] at v1
  exact ⟨h1, k1, v1⟩

end Go.Proofs.Ytbhmhgkbobajfaa
