/- Joined: KoW, KoX, KoY, KoZ, KpA, KpB, KpC, KpD. -/
import Derived.Test.YtahffpgadoiijaaJ14
import Derived.Test.YtahffpgadoiijaaJ13
import Derived.Test.YtahffpgadoiijaaJ5
/- Contract: colour.mean (written by mkkow.py). -/
namespace Go.Proofs.Ytahffpgadoiijaa
open Go.RowKit
set_option linter.unusedVariables false

/-- Rows of the first so many kinds, and what is summed over them. -/
def mR (Z : List (Value × List Nat × Nat)) (k : Nat) : Nat := ((Z.take k).map (fun z => z.2.2)).sum
def mA (f : List Nat → Nat) (Z : List (Value × List Nat × Nat)) (k : Nat) : Nat := ((Z.take k).map (fun z => z.2.2 * f z.2.1)).sum

theorem mR_succ {Z : List (Value × List Nat × Nat)} {k : Nat} {z : Value × List Nat × Nat} (h : Z[k]? = some z) : mR Z (k + 1) = mR Z k + z.2.2 := by
  unfold mR; rw [List.take_add_one, h, List.map_append, List.sum_append]; simp
theorem mA_succ {f : List Nat → Nat} {Z : List (Value × List Nat × Nat)} {k : Nat} {z : Value × List Nat × Nat} (h : Z[k]? = some z) : mA f Z (k + 1) = mA f Z k + z.2.2 * f z.2.1 := by
  unfold mA; rw [List.take_add_one, h, List.map_append, List.sum_append]; simp

theorem mR_le {Z : List (Value × List Nat × Nat)} : ∀ (k : Nat), mR Z k ≤ (Z.map (fun z => z.2.2)).sum := fun k => by
  unfold mR
  rw [← List.take_append_drop k Z, List.map_append, List.sum_append, List.take_append_drop]
  exact Nat.le_add_right _ _

theorem mA_le {f : List Nat → Nat} {M : Nat} : ∀ {Z : List (Value × List Nat × Nat)}, (∀ z, z ∈ Z → f z.2.1 ≤ M) → ∀ (k : Nat), mA f Z k ≤ mR Z k * M
  | [], _, k => by unfold mA; simp
  | z :: Z, h, 0 => by unfold mA; simp
  | z :: Z, h, k + 1 => by
    have ih := mA_le (Z := Z) (fun y hy => h y (List.mem_cons_of_mem _ hy)) k
    unfold mA mR at ih ⊢
    rw [List.take_succ_cons, List.map_cons, List.sum_cons, List.map_cons, List.sum_cons, Nat.add_mul]
    exact Nat.add_le_add (Nat.mul_le_mul (Nat.le_refl _) (h z List.mem_cons_self)) ih


set_option maxRecDepth 20000 in
set_option maxHeartbeats 4000000 in
theorem meanC_ok (base B : Nat) (v : Value) (Z : List (Value × List Nat × Nat)) (f : List Nat → Nat) (w : World) (hZ : KsAt w base v Z) (hpos : 0 < Z.length) (hN : Z.length ≤ 5040)
    (hf : ∀ z, z ∈ Z → ∀ W, Below w.heap.size w W → Calls Try.prog 37 #[z.1, .pointer (some ⟨B, 0, none⟩)] W fun e w' => e = .returned (.int .i64 ((f z.2.1 : Nat) : Int)) ∧ Below W.heap.size W w') (hM : ∀ z, z ∈ Z → f z.2.1 ≤ 68719476736) (hs : (Z.map (fun z => z.2.2)).sum ≤ 5040) (hs1 : 1 ≤ (Z.map (fun z => z.2.2)).sum) :
    Calls Try.prog 36 #[v, .func (.func 37) #[] #[.pointer (some ⟨B, 0, none⟩)]] w fun e w' => e = .returned (.int .i64 (((Z.map (fun z => z.2.2 * f z.2.1)).sum / (Z.map (fun z => z.2.2)).sum : Nat) : Int)) ∧ Below w.heap.size w w' := by
  have HR : Hid (∀ k z, Z[k]? = some z → mR Z (k + 1) = mR Z k + z.2.2) := fun k z h => mR_succ h
  have HA : Hid (∀ k z, Z[k]? = some z → mA f Z (k + 1) = mA f Z k + z.2.2 * f z.2.1) := fun k z h => mA_succ h
  have HRl : Hid (∀ k, mR Z k ≤ 5040) := fun k => Nat.le_trans (mR_le k) hs
  have HAl : Hid (∀ k, mA f Z k ≤ 346346162749440) := fun k => Nat.le_trans (mA_le hM k) (by have h5 := Nat.le_trans (mR_le (Z := Z) k) hs; exact Nat.le_trans (Nat.mul_le_mul h5 (Nat.le_refl _)) (by decide))
  have HR0 : Hid (mR Z 0 = 0) := rfl
  have HA0 : Hid (mA f Z 0 = 0) := rfl
  have HRn : Hid (mR Z Z.length = (Z.map (fun z => z.2.2)).sum) := by show _ = _; unfold mR; rw [List.take_length]
  have HAn : Hid (mA f Z Z.length = (Z.map (fun z => z.2.2 * f z.2.1)).sum) := by show _ = _; unfold mA; rw [List.take_length]
  obtain ⟨b, cap, e0, hb1, hb2, hc1, hc2, hcell⟩ := hZ.cell hpos
  subst e0
  have HC : Hid (∀ k, k < Z.length → ∃ p c l m g x, Z[k]? = some (x, g, m) ∧ w.cell? ⟨b, k * 2, none⟩ = some (.slice p l c) ∧ w.cell? ⟨b, k * 2 + 1, none⟩ = some (.int .i64 (m : Int)) ∧ ∀ W, Below w.heap.size w W → Calls Try.prog 37 #[.slice p l c, .pointer (some ⟨B, 0, none⟩)] W fun e w' => e = .returned (.int .i64 ((f g : Nat) : Int)) ∧ Below W.heap.size W w') := fun k hk => by
    have hz : Z[k]? = some Z[k] := List.getElem?_eq_getElem hk
    obtain ⟨a1, a2, _, a3⟩ := hcell k _ hz
    obtain ⟨p, c, ef⟩ := a3.form
    refine ⟨p, c, _, Z[k].2.2, Z[k].2.1, Z[k].1, hz, by rw [← ef]; exact a1, a2, fun W hW => ?_⟩
    rw [← ef]
    exact hf _ (List.getElem_mem hk) W hW
  generalize (Z.map (fun z => z.2.2 * f z.2.1)).sum = As at *
  generalize (Z.map (fun z => z.2.2)).sum = Rs at *
  generalize hNN : Z.length = N at *
  clear hZ hf hM hcell hNN
  go_enter Try.func36, Try.ntmps36
  go_wp2
  go_loopw [5, 6, 11] (fun sr sa si wr => ∃ (k r a : Nat), k ≤ N ∧ sr = .int .i64 (r : Int) ∧ sa = .int .i64 (a : Int) ∧ si = .int .i64 (k : Int) ∧ Hid (r = mR Z k) ∧ Hid (a = mA f Z k) ∧ Below w.heap.size w wr) (fun _ _ si _ => N - (intOf si).toNat)
  case atStart => exact ⟨0, 0, 0, Nat.zero_le _, rfl, rfl, rfl, HR0.out.symm, HA0.out.symm, Below.refl _ _⟩
  case round =>
    obtain ⟨k, r, a, hk, rfl, rfl, rfl, hr, ha, hbm⟩ := hrel
    by_cases hlt : k < N
    · obtain ⟨p, c, l, m, g, x, hz, q1, q2, hcall⟩ := HC.out k hlt
      have gx : wr.cell? ⟨b, k * 2, none⟩ = some (.slice p l c) := (hbm.cell (by exact hb2)).trans q1
      have gy : wr.cell? ⟨b, k * 2 + 1, none⟩ = some (.int .i64 (m : Int)) := (hbm.cell (by exact hb2)).trans q2
      have HR1 := hide (HR.out k _ hz)
      have HA1 := hide (HA.out k _ hz)
      have hrl : r + m ≤ 5040 := by have h5 := HRl.out (k + 1); rw [HR1.out, ← hr.out] at h5; exact h5
      have hal : a + m * f g ≤ 346346162749440 := by have h5 := HAl.out (k + 1); rw [HA1.out, ← ha.out] at h5; exact h5
      have HCall := hide hcall
      generalize hfg : f g = fg at *
      have HFG := hide hfg
      have hml : m * fg ≤ 346346162749440 := by omega
      generalize hmf : m * fg = mf at *
      have HMF := hide hmf
      have hmfI : (m : Int) * (fg : Int) = (mf : Int) := by rw [← hmf]; exact (Int.natCast_mul _ _).symm
      have HBM := hide hbm
      have hbs := hbm.size
      have hne9 : ¬ (wr.heap.size = b) := by omega
      clear q1 q2 hz hcall hfg hmf hbm
      go_wp2
      obtain ⟨WA, hWA⟩ : ∃ WA, WA = wr.alloc (.cells #[.slice p l c, .int .i64 (m : Int)] 58) := ⟨_, rfl⟩
      rw [← hWA]
      have hBA : Below wr.heap.size wr WA := by rw [hWA]; exact (Below.refl _ _).alloc (Nat.le_refl _) _
      have hhA : WA.heap[wr.heap.size]? = some (.cells #[.slice p l c, .int .i64 (m : Int)] 58) := by rw [hWA]; exact heap_alloc_new wr _
      have hd0 : WA.cell? ⟨wr.heap.size, 0, none⟩ = some (.slice p l c) := by simp [World.cell?, hhA]
      have hd1 : WA.cell? ⟨wr.heap.size, 1, none⟩ = some (.int .i64 (m : Int)) := by simp [World.cell?, hhA]
      have hsA : wr.heap.size < WA.heap.size := by rw [hWA]; simp
      have HBA := hide (HBM.out.trans (hBA.mono HBM.out.size))
      have hw1 : IntKind.i64.wrap (mf : Int) = (mf : Int) := by rw [IntKind.wrap_i64]; omega
      have hw2 : IntKind.i64.wrap ((a : Int) + (mf : Int)) = (a : Int) + (mf : Int) := by rw [IntKind.wrap_i64]; omega
      clear hWA hBA gx gy hhA
      refine wp_region_held_drew (S := fun W' => W'.cell? ⟨wr.heap.size, 0, none⟩ = some (.slice p l c) ∧ W'.cell? ⟨wr.heap.size, 1, none⟩ = some (.int .i64 (m : Int))) (by kernel_rfl) ⟨hd0, hd1⟩ (fun hS => ?_)
      refine wpAnyH_take (i := 0) (v := .int .i64 (a : Int)) rfl (by kernel_rfl) (by kernel_rfl) (by kernel_rfl) (fun _ _ _ h => h) (Or.inl ⟨by kernel_rfl, fun w' hS' => by clear hS'; go_simp⟩) hS ?_
      refine wpAnyH_take (i := 1) (v := .pointer (some ⟨wr.heap.size, 1, none⟩)) rfl (by kernel_rfl) (by kernel_rfl) (by kernel_rfl) (fun _ _ _ h => h) (Or.inl ⟨by kernel_rfl, fun w' hS' => by clear hS'; go_simp⟩) hS ?_
      refine wpAnyH_take (i := 2) (v := .int .i64 (m : Int)) rfl (by kernel_rfl) (by kernel_rfl) (by kernel_rfl) (fun _ _ _ h => h) (Or.inl ⟨by kernel_rfl, fun w' hS' => by have h2 := hS'.2; clear hS'; go_simp⟩) hS ?_
      refine wpAnyH_take (i := 3) (v := .func (.func 37) #[] #[.pointer (some ⟨B, 0, none⟩)]) rfl (by kernel_rfl) (by kernel_rfl) (by kernel_rfl) (fun _ _ _ h => h) (Or.inl ⟨by kernel_rfl, fun w' hS' => by clear hS'; go_simp⟩) hS ?_
      refine wpAnyH_take (i := 4) (v := .pointer (some ⟨wr.heap.size, 0, none⟩)) rfl (by kernel_rfl) (by kernel_rfl) (by kernel_rfl) (fun _ _ _ h => h) (Or.inl ⟨by kernel_rfl, fun w' hS' => by clear hS'; go_simp⟩) hS ?_
      refine wpAnyH_take (i := 5) (v := .slice p l c) rfl (by kernel_rfl) (by kernel_rfl) (by kernel_rfl) (fun _ _ _ h => h) (Or.inl ⟨by kernel_rfl, fun w' hS' => by have h2 := hS'.1; clear hS'; go_simp⟩) hS ?_
      refine wpAnyH_ready (rs := [6]) (by kernel_rfl) (by simp) ?_
      refine AllReadyH.cons rfl (fun K9 hK9 => ?_) AllReadyH.nil
      go_simp
      refine (HCall.out WA.drew HBA.out.drew).mono ?_
      rintro e w5 ⟨rfl, hb5⟩
      replace hb5 := undrew hb5
      have hs5 : w5.cell? ⟨wr.heap.size, 0, none⟩ = some (.slice p l c) ∧ w5.cell? ⟨wr.heap.size, 1, none⟩ = some (.int .i64 (m : Int)) := ⟨(hb5.cell (p := ⟨wr.heap.size, 0, none⟩) hsA).trans hd0, (hb5.cell (p := ⟨wr.heap.size, 1, none⟩) hsA).trans hd1⟩
      have HB5 := hide (HBA.out.trans (hb5.mono HBA.out.size))
      refine hK9.out _ _ hs5 (fun hS => ?_)
      clear hK9 hb5
      refine wpAnyH_take (i := 7) (v := .int .i64 (mf : Int)) rfl (by kernel_rfl) (by kernel_rfl) (by kernel_rfl) (fun _ _ _ h => h) (Or.inl ⟨by kernel_rfl, fun w' hS' => by clear hS'; go_simp⟩) hS ?_
      refine wpAnyH_take (i := 8) (v := .int .i64 ((a : Int) + (mf : Int))) rfl (by kernel_rfl) (by kernel_rfl) (by kernel_rfl) (fun _ _ _ h => h) (Or.inl ⟨by kernel_rfl, fun w' hS' => by clear hS'; go_simp⟩) hS ?_
      refine wpAnyH_ready (rs := [9]) (by kernel_rfl) (by simp) ?_
      refine AllReadyH.cons rfl (fun K9 hK9 => ?_) AllReadyH.nil
      go_simp
      refine hK9.out _ _ hs5 (fun _ => ?_)
      clear hK9
      refine wpAnyH_done (by kernel_rfl) ?_ _
      have HR2 : Hid (r + m = mR Z (k + 1)) := by show _ = _; rw [HR1.out, ← hr.out]
      have HA2 : Hid (a + mf = mA f Z (k + 1)) := by show _ = _; rw [HA1.out, ← ha.out]
      go_wp2
      go_roundw
      case rel =>
        have hfin : ∃ (k' r' a' : Nat), k' ≤ N ∧ Value.int .i64 ((r : Int) + (m : Int)) = .int .i64 (r' : Int) ∧ Value.int .i64 ((a : Int) + (mf : Int)) = .int .i64 (a' : Int) ∧ Value.int .i64 ((k : Int) + 1) = .int .i64 (k' : Int) ∧ Hid (r' = mR Z k') ∧ Hid (a' = mA f Z k') ∧ Below w.heap.size w w5 := ⟨k + 1, r + m, a + mf, hlt, by go_num, by go_num, by go_num, HR2, HA2, HB5.out⟩
        first
          | exact hfin
          | ((repeat apply Exists.intro); exact ⟨hfin, rfl⟩)
      case measure => simp [intOf]; omega
    · obtain rfl : N = k := by omega
      have hre : r = Rs := by rw [hr.out, HRn.out]
      have hae : a = As := by rw [ha.out, HAn.out]
      subst hre; subst hae
      have hq : (a : Int).tdiv (r : Int) = ((a / r : Nat) : Int) := by rw [← Int.ofNat_tdiv]
      have hal := HAl.out N
      rw [← ha.out] at hal
      have hql : a / r ≤ a := Nat.div_le_self _ _
      have hr0 : ¬ ((r : Int) = 0) := by omega
      have HQ := hide hq
      generalize hqq : a / r = q at *
      have HQQ := hide hqq
      clear hr ha hqq HQ
      go_wp2
      go_ret
      exact ⟨by rw [HQQ.out]; rfl, hbm⟩

set_option maxRecDepth 20000 in
set_option maxHeartbeats 4000000 in
theorem meanW_ok (base B : Nat) (v : Value) (Z : List (Value × List Nat × Nat)) (f : List Nat → Nat) (w : World) (hZ : KsAt w base v Z) (hpos : 0 < Z.length) (hN : Z.length ≤ 5040)
    (hf : ∀ z, z ∈ Z → ∀ W, Below w.heap.size w W → Calls Try.prog 49 #[z.1, .pointer (some ⟨B, 0, none⟩)] W fun e w' => e = .returned (.int .i64 ((f z.2.1 : Nat) : Int)) ∧ Below W.heap.size W w') (hM : ∀ z, z ∈ Z → f z.2.1 ≤ 68719476736) (hs : (Z.map (fun z => z.2.2)).sum ≤ 5040) (hs1 : 1 ≤ (Z.map (fun z => z.2.2)).sum) :
    Calls Try.prog 36 #[v, .func (.func 49) #[] #[.pointer (some ⟨B, 0, none⟩)]] w fun e w' => e = .returned (.int .i64 (((Z.map (fun z => z.2.2 * f z.2.1)).sum / (Z.map (fun z => z.2.2)).sum : Nat) : Int)) ∧ Below w.heap.size w w' := by
  have HR : Hid (∀ k z, Z[k]? = some z → mR Z (k + 1) = mR Z k + z.2.2) := fun k z h => mR_succ h
  have HA : Hid (∀ k z, Z[k]? = some z → mA f Z (k + 1) = mA f Z k + z.2.2 * f z.2.1) := fun k z h => mA_succ h
  have HRl : Hid (∀ k, mR Z k ≤ 5040) := fun k => Nat.le_trans (mR_le k) hs
  have HAl : Hid (∀ k, mA f Z k ≤ 346346162749440) := fun k => Nat.le_trans (mA_le hM k) (by have h5 := Nat.le_trans (mR_le (Z := Z) k) hs; exact Nat.le_trans (Nat.mul_le_mul h5 (Nat.le_refl _)) (by decide))
  have HR0 : Hid (mR Z 0 = 0) := rfl
  have HA0 : Hid (mA f Z 0 = 0) := rfl
  have HRn : Hid (mR Z Z.length = (Z.map (fun z => z.2.2)).sum) := by show _ = _; unfold mR; rw [List.take_length]
  have HAn : Hid (mA f Z Z.length = (Z.map (fun z => z.2.2 * f z.2.1)).sum) := by show _ = _; unfold mA; rw [List.take_length]
  obtain ⟨b, cap, e0, hb1, hb2, hc1, hc2, hcell⟩ := hZ.cell hpos
  subst e0
  have HC : Hid (∀ k, k < Z.length → ∃ p c l m g x, Z[k]? = some (x, g, m) ∧ w.cell? ⟨b, k * 2, none⟩ = some (.slice p l c) ∧ w.cell? ⟨b, k * 2 + 1, none⟩ = some (.int .i64 (m : Int)) ∧ ∀ W, Below w.heap.size w W → Calls Try.prog 49 #[.slice p l c, .pointer (some ⟨B, 0, none⟩)] W fun e w' => e = .returned (.int .i64 ((f g : Nat) : Int)) ∧ Below W.heap.size W w') := fun k hk => by
    have hz : Z[k]? = some Z[k] := List.getElem?_eq_getElem hk
    obtain ⟨a1, a2, _, a3⟩ := hcell k _ hz
    obtain ⟨p, c, ef⟩ := a3.form
    refine ⟨p, c, _, Z[k].2.2, Z[k].2.1, Z[k].1, hz, by rw [← ef]; exact a1, a2, fun W hW => ?_⟩
    rw [← ef]
    exact hf _ (List.getElem_mem hk) W hW
  generalize (Z.map (fun z => z.2.2 * f z.2.1)).sum = As at *
  generalize (Z.map (fun z => z.2.2)).sum = Rs at *
  generalize hNN : Z.length = N at *
  clear hZ hf hM hcell hNN
  go_enter Try.func36, Try.ntmps36
  go_wp2
  go_loopw [5, 6, 11] (fun sr sa si wr => ∃ (k r a : Nat), k ≤ N ∧ sr = .int .i64 (r : Int) ∧ sa = .int .i64 (a : Int) ∧ si = .int .i64 (k : Int) ∧ Hid (r = mR Z k) ∧ Hid (a = mA f Z k) ∧ Below w.heap.size w wr) (fun _ _ si _ => N - (intOf si).toNat)
  case atStart => exact ⟨0, 0, 0, Nat.zero_le _, rfl, rfl, rfl, HR0.out.symm, HA0.out.symm, Below.refl _ _⟩
  case round =>
    obtain ⟨k, r, a, hk, rfl, rfl, rfl, hr, ha, hbm⟩ := hrel
    by_cases hlt : k < N
    · obtain ⟨p, c, l, m, g, x, hz, q1, q2, hcall⟩ := HC.out k hlt
      have gx : wr.cell? ⟨b, k * 2, none⟩ = some (.slice p l c) := (hbm.cell (by exact hb2)).trans q1
      have gy : wr.cell? ⟨b, k * 2 + 1, none⟩ = some (.int .i64 (m : Int)) := (hbm.cell (by exact hb2)).trans q2
      have HR1 := hide (HR.out k _ hz)
      have HA1 := hide (HA.out k _ hz)
      have hrl : r + m ≤ 5040 := by have h5 := HRl.out (k + 1); rw [HR1.out, ← hr.out] at h5; exact h5
      have hal : a + m * f g ≤ 346346162749440 := by have h5 := HAl.out (k + 1); rw [HA1.out, ← ha.out] at h5; exact h5
      have HCall := hide hcall
      generalize hfg : f g = fg at *
      have HFG := hide hfg
      have hml : m * fg ≤ 346346162749440 := by omega
      generalize hmf : m * fg = mf at *
      have HMF := hide hmf
      have hmfI : (m : Int) * (fg : Int) = (mf : Int) := by rw [← hmf]; exact (Int.natCast_mul _ _).symm
      have HBM := hide hbm
      have hbs := hbm.size
      have hne9 : ¬ (wr.heap.size = b) := by omega
      clear q1 q2 hz hcall hfg hmf hbm
      go_wp2
      obtain ⟨WA, hWA⟩ : ∃ WA, WA = wr.alloc (.cells #[.slice p l c, .int .i64 (m : Int)] 58) := ⟨_, rfl⟩
      rw [← hWA]
      have hBA : Below wr.heap.size wr WA := by rw [hWA]; exact (Below.refl _ _).alloc (Nat.le_refl _) _
      have hhA : WA.heap[wr.heap.size]? = some (.cells #[.slice p l c, .int .i64 (m : Int)] 58) := by rw [hWA]; exact heap_alloc_new wr _
      have hd0 : WA.cell? ⟨wr.heap.size, 0, none⟩ = some (.slice p l c) := by simp [World.cell?, hhA]
      have hd1 : WA.cell? ⟨wr.heap.size, 1, none⟩ = some (.int .i64 (m : Int)) := by simp [World.cell?, hhA]
      have hsA : wr.heap.size < WA.heap.size := by rw [hWA]; simp
      have HBA := hide (HBM.out.trans (hBA.mono HBM.out.size))
      have hw1 : IntKind.i64.wrap (mf : Int) = (mf : Int) := by rw [IntKind.wrap_i64]; omega
      have hw2 : IntKind.i64.wrap ((a : Int) + (mf : Int)) = (a : Int) + (mf : Int) := by rw [IntKind.wrap_i64]; omega
      clear hWA hBA gx gy hhA
      refine wp_region_held_drew (S := fun W' => W'.cell? ⟨wr.heap.size, 0, none⟩ = some (.slice p l c) ∧ W'.cell? ⟨wr.heap.size, 1, none⟩ = some (.int .i64 (m : Int))) (by kernel_rfl) ⟨hd0, hd1⟩ (fun hS => ?_)
      refine wpAnyH_take (i := 0) (v := .int .i64 (a : Int)) rfl (by kernel_rfl) (by kernel_rfl) (by kernel_rfl) (fun _ _ _ h => h) (Or.inl ⟨by kernel_rfl, fun w' hS' => by clear hS'; go_simp⟩) hS ?_
      refine wpAnyH_take (i := 1) (v := .pointer (some ⟨wr.heap.size, 1, none⟩)) rfl (by kernel_rfl) (by kernel_rfl) (by kernel_rfl) (fun _ _ _ h => h) (Or.inl ⟨by kernel_rfl, fun w' hS' => by clear hS'; go_simp⟩) hS ?_
      refine wpAnyH_take (i := 2) (v := .int .i64 (m : Int)) rfl (by kernel_rfl) (by kernel_rfl) (by kernel_rfl) (fun _ _ _ h => h) (Or.inl ⟨by kernel_rfl, fun w' hS' => by have h2 := hS'.2; clear hS'; go_simp⟩) hS ?_
      refine wpAnyH_take (i := 3) (v := .func (.func 49) #[] #[.pointer (some ⟨B, 0, none⟩)]) rfl (by kernel_rfl) (by kernel_rfl) (by kernel_rfl) (fun _ _ _ h => h) (Or.inl ⟨by kernel_rfl, fun w' hS' => by clear hS'; go_simp⟩) hS ?_
      refine wpAnyH_take (i := 4) (v := .pointer (some ⟨wr.heap.size, 0, none⟩)) rfl (by kernel_rfl) (by kernel_rfl) (by kernel_rfl) (fun _ _ _ h => h) (Or.inl ⟨by kernel_rfl, fun w' hS' => by clear hS'; go_simp⟩) hS ?_
      refine wpAnyH_take (i := 5) (v := .slice p l c) rfl (by kernel_rfl) (by kernel_rfl) (by kernel_rfl) (fun _ _ _ h => h) (Or.inl ⟨by kernel_rfl, fun w' hS' => by have h2 := hS'.1; clear hS'; go_simp⟩) hS ?_
      refine wpAnyH_ready (rs := [6]) (by kernel_rfl) (by simp) ?_
      refine AllReadyH.cons rfl (fun K9 hK9 => ?_) AllReadyH.nil
      go_simp
      refine (HCall.out WA.drew HBA.out.drew).mono ?_
      rintro e w5 ⟨rfl, hb5⟩
      replace hb5 := undrew hb5
      have hs5 : w5.cell? ⟨wr.heap.size, 0, none⟩ = some (.slice p l c) ∧ w5.cell? ⟨wr.heap.size, 1, none⟩ = some (.int .i64 (m : Int)) := ⟨(hb5.cell (p := ⟨wr.heap.size, 0, none⟩) hsA).trans hd0, (hb5.cell (p := ⟨wr.heap.size, 1, none⟩) hsA).trans hd1⟩
      have HB5 := hide (HBA.out.trans (hb5.mono HBA.out.size))
      refine hK9.out _ _ hs5 (fun hS => ?_)
      clear hK9 hb5
      refine wpAnyH_take (i := 7) (v := .int .i64 (mf : Int)) rfl (by kernel_rfl) (by kernel_rfl) (by kernel_rfl) (fun _ _ _ h => h) (Or.inl ⟨by kernel_rfl, fun w' hS' => by clear hS'; go_simp⟩) hS ?_
      refine wpAnyH_take (i := 8) (v := .int .i64 ((a : Int) + (mf : Int))) rfl (by kernel_rfl) (by kernel_rfl) (by kernel_rfl) (fun _ _ _ h => h) (Or.inl ⟨by kernel_rfl, fun w' hS' => by clear hS'; go_simp⟩) hS ?_
      refine wpAnyH_ready (rs := [9]) (by kernel_rfl) (by simp) ?_
      refine AllReadyH.cons rfl (fun K9 hK9 => ?_) AllReadyH.nil
      go_simp
      refine hK9.out _ _ hs5 (fun _ => ?_)
      clear hK9
      refine wpAnyH_done (by kernel_rfl) ?_ _
      have HR2 : Hid (r + m = mR Z (k + 1)) := by show _ = _; rw [HR1.out, ← hr.out]
      have HA2 : Hid (a + mf = mA f Z (k + 1)) := by show _ = _; rw [HA1.out, ← ha.out]
      go_wp2
      go_roundw
      case rel =>
        have hfin : ∃ (k' r' a' : Nat), k' ≤ N ∧ Value.int .i64 ((r : Int) + (m : Int)) = .int .i64 (r' : Int) ∧ Value.int .i64 ((a : Int) + (mf : Int)) = .int .i64 (a' : Int) ∧ Value.int .i64 ((k : Int) + 1) = .int .i64 (k' : Int) ∧ Hid (r' = mR Z k') ∧ Hid (a' = mA f Z k') ∧ Below w.heap.size w w5 := ⟨k + 1, r + m, a + mf, hlt, by go_num, by go_num, by go_num, HR2, HA2, HB5.out⟩
        first
          | exact hfin
          | ((repeat apply Exists.intro); exact ⟨hfin, rfl⟩)
      case measure => simp [intOf]; omega
    · obtain rfl : N = k := by omega
      have hre : r = Rs := by rw [hr.out, HRn.out]
      have hae : a = As := by rw [ha.out, HAn.out]
      subst hre; subst hae
      have hq : (a : Int).tdiv (r : Int) = ((a / r : Nat) : Int) := by rw [← Int.ofNat_tdiv]
      have hal := HAl.out N
      rw [← ha.out] at hal
      have hql : a / r ≤ a := Nat.div_le_self _ _
      have hr0 : ¬ ((r : Int) = 0) := by omega
      have HQ := hide hq
      generalize hqq : a / r = q at *
      have HQQ := hide hqq
      clear hr ha hqq HQ
      go_wp2
      go_ret
      exact ⟨by rw [HQQ.out]; rfl, hbm⟩

end Go.Proofs.Ytahffpgadoiijaa

/- Contracts: what a row leaves by its cycles (the functions in Count and With); mayColour; Kinds' refusals; Count. -/
namespace Go.Proofs.Ytahffpgadoiijaa
open Go.RowKit
set_option linter.unusedVariables false

theorem lsUp_len (K : List Nat) : ∀ i, (lsUp K i).length = (K.take i).sum
  | 0 => by rw [List.take_zero]; rfl
  | i + 1 => by
    rw [lsUp_succ, List.length_append, lsUp_len K i, List.length_replicate, List.take_add_one, List.sum_append, List.getD]
    cases K[i]? with
    | none => rfl
    | some x => simp

theorem kl_sums {r : List Int} (hr : isRow r) : (kl r).sum = (cycsTo r r.length).length := by
  have h := kl_sum hr
  rw [lsUp_len, ← kl_length r, List.take_length, kl_length] at h
  exact h

theorem kl_sum12 {r : List Int} (hr : isRow r) (h : r.length ≤ 12) : (kl r).sum ≤ 12 := by
  rw [kl_sums hr]
  have := cycsTo_length r r.length
  omega

theorem take_sum_le (K : List Nat) (i : Nat) : (K.take i).sum ≤ K.sum := by
  have h : K.sum = (K.take i).sum + (K.drop i).sum := by rw [← List.sum_append, List.take_append_drop]
  omega

set_option maxRecDepth 20000 in
set_option maxHeartbeats 2000000 in
theorem count1_ok (c B : Nat) (K : List Nat) (v : Value) (w : World) (hI : Ints w v (natI K)) (hc : w.cell? ⟨B, 0, none⟩ = some (.int .i64 (c : Int))) (hB : B < w.heap.size) (hc8 : c ≤ 8) (hs : K.sum ≤ 12) (hk1 : 1 ≤ K.length) (hk : K.length ≤ 12) :
    Calls Try.prog 37 #[v, .pointer (some ⟨B, 0, none⟩)] w fun e w' => e = .returned (.int .i64 ((c ^ K.sum : Nat) : Int)) ∧ Below w.heap.size w w' := by
  have hnl : (natI K).length = K.length := natI_length K
  rcases hI with ⟨h0, _⟩ | ⟨b, off, cap, rfl, h0, hcp, hm, hb, hcell⟩
  · rw [h0] at hnl; simp at hnl; omega
  have HP : Hid (∀ (t : Nat) (W : World), t ≤ 12 → Calls Try.prog 38 #[.int .i64 (c : Int), .int .i64 (t : Int)] W fun e w' => e = .returned (.int .i64 ((c ^ t : Nat) : Int)) ∧ W = w') := fun t W ht => power_ok c t W hc8 ht
  have HC : Hid (∀ k, k < K.length → ∃ t : Nat, t ≤ 12 ∧ w.cell? ⟨b, off + k, none⟩ = some (.int .i64 (t : Int)) ∧ (K.take (k + 1)).sum = (K.take k).sum + t) := fun k hk' => by
    refine ⟨K.getD k 0, ?_, ?_, ?_⟩
    · have h5 := take_sum_le K (k + 1)
      rw [List.take_add_one, List.getElem?_eq_getElem hk', List.sum_append] at h5
      simp only [List.getD, List.getElem?_eq_getElem hk', Option.getD_some]
      simp at h5
      omega
    · rw [hcell k (by rw [hnl]; exact hk'), natI_getD]
    · rw [List.take_add_one, List.getElem?_eq_getElem hk', List.sum_append]
      simp [List.getD, hk']
  have HL : Hid (∀ k, (K.take k).sum ≤ 12) := fun k => Nat.le_trans (take_sum_le K k) hs
  have HE : Hid ((K.take K.length).sum = K.sum) := by show _ = _; rw [List.take_length]
  rw [hnl] at hcp ⊢
  generalize hKl : K.length = L at *
  generalize hRR : c ^ K.sum = RR at *
  have HRR := hide hRR
  clear hcell hnl hKl h0 hRR
  go_enter Try.func37, Try.ntmps37
  go_wp2
  go_loop [4, 9] (fun sx si => ∃ (k a : Nat), k ≤ L ∧ sx = .int .i64 (a : Int) ∧ si = .int .i64 (k : Int) ∧ Hid (a = c ^ (K.take k).sum)) (fun _ si => L - (intOf si).toNat)
  case atStart => exact ⟨0, 1, Nat.zero_le _, rfl, rfl, by show 1 = c ^ (K.take 0).sum; rw [List.take_zero]; rfl⟩
  case round =>
    obtain ⟨k, a, hk', rfl, rfl, ha⟩ := hrel
    by_cases hlt : k < L
    · obtain ⟨t, ht, hct, hsm⟩ := HC.out k hlt
      have hal : a * c ^ t ≤ 68719476736 := by
        rw [ha.out, ← Nat.pow_add, ← hsm]
        exact pow_le12 hc8 (HL.out (k + 1))
      have HA2 : Hid (a * c ^ t = c ^ (K.take (k + 1)).sum) := by show _ = _; rw [ha.out, ← Nat.pow_add, ← hsm]
      have HPt := hide (HP.out t w ht)
      generalize hct2 : c ^ t = ct at *
      obtain ⟨m, hm'⟩ : ∃ m, m = a * ct := ⟨_, rfl⟩
      rw [← hm'] at hal HA2
      have hmI : (a : Int) * (ct : Int) = (m : Int) := by rw [hm']; exact (Int.natCast_mul _ _).symm
      clear hct2 hm' ha hsm
      go_wp2_with fail
      refine HPt.out.mono ?_
      rintro e w' ⟨rfl, rfl⟩
      go_wp2
      go_round
      case rel => exact ⟨k + 1, m, hlt, by go_num, by go_num, HA2⟩
      case measure => simp [intOf]; omega
    · obtain rfl : L = k := by omega
      have HF : Hid (a = RR) := by show _ = _; rw [ha.out, HE.out, HRR.out]
      clear ha
      go_wp2
      go_ret
      exact ⟨by rw [← HF.out]; rfl, Below.refl _ _⟩

set_option maxRecDepth 20000 in
set_option maxHeartbeats 2000000 in
theorem with1_ok (B : Nat) (many K : List Nat) (v vm : Value) (w : World) (hI : Ints w v (natI K)) (hm : Ints w vm (natI many)) (hc : w.cell? ⟨B, 0, none⟩ = some vm) (hm1 : 1 ≤ many.length) (hm8 : many.length ≤ 8) (hM : ∀ x, x ∈ many → x ≤ 12) (hk1 : 1 ≤ K.length) (hk : K.length ≤ 12) (hs : K.sum ≤ 12) :
    Calls Try.prog 49 #[v, .pointer (some ⟨B, 0, none⟩)] w fun e w' => e = .returned (.int .i64 ((Wn many.length (lsUp K K.length) (fun j => many.getD j 0) : Nat) : Int)) ∧ Below w.heap.size w w' := by
  have HF := hide (fillings_ok many K v vm w hI hm hm1 hm8 hM hk1 hk (by rw [lsUp_len, List.take_length]; exact hs))
  obtain ⟨p1, c1, e1⟩ := hI.form
  obtain ⟨p2, c2, e2⟩ := hm.form
  subst e1; subst e2
  generalize (natI K).length = l1 at *
  generalize (natI many).length = l2 at *
  generalize Wn many.length (lsUp K K.length) (fun j => many.getD j 0) = W9 at *
  clear hI hm hm1 hm8 hM hk1 hk hs
  go_enter Try.func49, Try.ntmps49
  go_wp2_with fail
  refine HF.out.mono ?_
  rintro e w' ⟨rfl, hb⟩
  go_wp2
  go_ret
  exact ⟨rfl, hb⟩

set_option maxRecDepth 20000 in
theorem mayColour_ok (c : Int) (w : World) : Calls Try.prog 35 #[.int .i64 c] w fun e w' => e = .returned (.bool (decide (0 ≤ c ∧ c ≤ 8))) ∧ w = w' := by
  by_cases h1 : 0 ≤ c
  · by_cases h2 : c ≤ 8
    · have HD : Hid (decide (0 ≤ c ∧ c ≤ 8) = true) := decide_eq_true ⟨h1, h2⟩
      generalize decide (0 ≤ c ∧ c ≤ 8) = d at *
      have g1 : decide (c ≥ 0) = true := decide_eq_true h1
      go_enter Try.func35, Try.ntmps35
      go_wp2
      go_ret
      exact ⟨by rw [HD.out]; rfl, rfl⟩
    · have HD : Hid (decide (0 ≤ c ∧ c ≤ 8) = false) := decide_eq_false (fun h => h2 h.2)
      generalize decide (0 ≤ c ∧ c ≤ 8) = d at *
      go_enter Try.func35, Try.ntmps35
      go_wp2
      go_ret
      exact ⟨by rw [HD.out]; rfl, rfl⟩
  · have HD : Hid (decide (0 ≤ c ∧ c ≤ 8) = false) := decide_eq_false (fun h => h1 h.1)
    generalize decide (0 ≤ c ∧ c ≤ 8) = d at *
    go_enter Try.func35, Try.ntmps35
    go_wp2
    go_ret
    exact ⟨by rw [HD.out]; rfl, rfl⟩

set_option maxRecDepth 20000 in
theorem kinds_no (n : Int) (v : Value) (c : Int) (w : World) (hc : c ≠ 0) (hk : Calls Try.prog 51 #[.int .i64 n, v] w fun e w' => e = .returned (.int .i64 c) ∧ Below w.heap.size w w') :
    Calls Try.prog 7 #[.int .i64 n, v] w fun e w' => e = .returned (.tuple #[.slice none 0 0, .int .i64 c]) ∧ Below w.heap.size w w' := by
  have HK := hide (make_refuses n v c w hc hk)
  have hne : (c != 0) = true := by rw [bne_iff_ne]; exact hc
  clear hk hc
  go_enter Try.func7, Try.ntmps7
  go_wp2_with fail
  refine HK.out.mono ?_
  rintro e w1 ⟨rfl, hb1⟩
  go_wp2
  go_ret2
  exact ⟨rfl, hb1⟩

/-- What is counted: as many as a row leaves, in the mean. -/
def CntOk (n c : Nat) (gss : List (List Int)) (cv : Nat) : Prop := ∀ X : List Pm, X.Nodup → (∀ x, x ∈ X ↔ Gen (fun y => y ∈ gss.map pad) x) → cv = (X.map (fun x => c ^ (kl (cut n x)).sum)).sum / X.length

def WthOk (n : Nat) (many : List Nat) (gss : List (List Int)) (cv : Nat) : Prop := ∀ X : List Pm, X.Nodup → (∀ x, x ∈ X ↔ Gen (fun y => y ∈ gss.map pad) x) → cv = (X.map (fun x => Wn many.length (lsUp (kl (cut n x)) n) (fun j => many.getD j 0))).sum / X.length

theorem perm_of_mem {X Y : List Pm} {G : Pm → Prop} (h1 : X.Nodup) (h2 : Y.Nodup) (a : ∀ x, x ∈ X ↔ G x) (b : ∀ x, x ∈ Y ↔ G x) : X.Perm Y :=
  (List.perm_ext_iff_of_nodup h1 h2).2 (fun x => by rw [a, b])

/-- What is summed over kinds, as a sum over rows. -/
theorem kinds_sum {n : Nat} {Z : List (Value × List Nat × Nat)} {X Y : List Pm} (f : List Nat → Nat) (hK : KOk (Z.map (·.2)) (X.map (fun x => kl (cut n x)))) (hp : X.Perm Y) : (Z.map (fun z => z.2.2 * f z.2.1)).sum = (Y.map (fun x => f (kl (cut n x)))).sum ∧ (Z.map (fun z => z.2.2)).sum = Y.length := by
  have h1 := hK.sum f
  have h2 := hK.total
  rw [List.map_map] at h1 h2
  rw [List.map_map] at h1
  refine ⟨?_, ?_⟩
  · rw [show (fun z : Value × List Nat × Nat => z.2.2 * f z.2.1) = ((fun p : List Nat × Nat => p.2 * f p.1) ∘ (·.2)) from rfl, h1]
    exact (hp.map _).sum_nat
  · rw [show (fun z : Value × List Nat × Nat => z.2.2) = ((fun p : List Nat × Nat => p.2) ∘ (·.2)) from rfl, h2, List.length_map]
    exact hp.length_eq

end Go.Proofs.Ytahffpgadoiijaa

/- Contracts: Count; checkMany; With. -/
namespace Go.Proofs.Ytahffpgadoiijaa
open Go.RowKit
set_option linter.unusedVariables false

/-- What Kinds tells, ready for the mean. -/
structure KUse (n : Nat) (gss : List (List Int)) (Z : List (Value × List Nat × Nat)) (X : List Pm) : Prop where
  ok : KOk (Z.map (·.2)) (X.map (fun x => kl (cut n x)))
  len : ∀ z, z ∈ Z → z.2.1.length = n
  few : X.length ≤ 5040
  nd : X.Nodup
  mem : ∀ x, x ∈ X ↔ Gen (fun y => y ∈ gss.map pad) x

theorem KUse.xpos {n : Nat} {gss : List (List Int)} {Z : List (Value × List Nat × Nat)} {X : List Pm} (h : KUse n gss Z X) : 1 ≤ X.length := List.length_pos_of_mem ((h.mem 1).2 Gen.one)

theorem KUse.pos {n : Nat} {gss : List (List Int)} {Z : List (Value × List Nat × Nat)} {X : List Pm} (h : KUse n gss Z X) : 0 < Z.length := by
  have h1 : kl (cut n 1) ∈ (Z.map (·.2)).map (·.1) := (h.ok.mem _).2 (List.mem_map.2 ⟨1, (h.mem 1).2 Gen.one, rfl⟩)
  have h2 := List.length_pos_of_mem h1
  rw [List.length_map, List.length_map] at h2
  exact h2

theorem KUse.zlen {n : Nat} {gss : List (List Int)} {Z : List (Value × List Nat × Nat)} {X : List Pm} (h : KUse n gss Z X) : Z.length ≤ 5040 := by
  have h2 := h.ok.len
  rw [List.length_map, List.length_map] at h2
  exact Nat.le_trans h2 h.few

theorem KUse.total {n : Nat} {gss : List (List Int)} {Z : List (Value × List Nat × Nat)} {X : List Pm} (h : KUse n gss Z X) : (Z.map (fun z => z.2.2)).sum = X.length := (kinds_sum (fun _ => 1) h.ok (List.Perm.refl X)).2

theorem KUse.sum12 {n : Nat} {gss : List (List Int)} {Z : List (Value × List Nat × Nat)} {X : List Pm} (h : KUse n gss Z X) (h12 : n ≤ 12) (hR : RowsN n gss) : ∀ z, z ∈ Z → z.2.1.sum ≤ 12 := fun z hz => by
  have h1 : z.2.1 ∈ X.map (fun x => kl (cut n x)) := (h.ok.mem _).1 (List.mem_map.2 ⟨z.2, List.mem_map.2 ⟨z, hz, rfl⟩, rfl⟩)
  obtain ⟨x, hx, e⟩ := List.mem_map.1 h1
  rw [← e]
  exact kl_sum12 (cut_row h12 (gens_fix h12 hR ((h.mem x).1 hx))) (by rw [cut_length h12 x]; exact h12)

/-- What Count (or With) leaves. -/
def CtPost (P : Nat → Prop) (n : Nat) (gss : List (List Int)) (w : World) (e : Ending) (w' : World) : Prop :=
  Below w.heap.size w w' ∧ if 5040 < sz (Gen (fun y => y ∈ gss.map pad)) n then e = .returned (.tuple #[.int .i64 0, .int .i64 3]) else
    ∃ cv : Nat, e = .returned (.tuple #[.int .i64 (cv : Int), .int .i64 0]) ∧ P cv

set_option maxRecDepth 20000 in
set_option maxHeartbeats 4000000 in
theorem count_ok (n c : Nat) (v : Value) (gss : List (List Int)) (w : World) (hA : IntsAll w v gss) (hR : RowsN n gss) (h1 : 1 ≤ n) (h12 : n ≤ 12) (h8 : gss.length ≤ 8) (hc8 : c ≤ 8) :
    Calls Try.prog 11 #[.int .i64 n, v, .int .i64 (c : Int)] w (CtPost (CntOk n c gss) n gss w) := by
  have hbW : Below w.heap.size w (w.alloc (.cells #[.int .i64 (c : Int)] 3)) := (Below.refl _ _).alloc (Nat.le_refl _) _
  have HKd := hide (kinds_ok n v gss (w.alloc (.cells #[.int .i64 (c : Int)] 3)) (hA.below hbW) hR h1 h12 h8)
  have hmc : decide (0 ≤ (c : Int) ∧ (c : Int) ≤ 8) = true := decide_eq_true ⟨by omega, by omega⟩
  have HMC : Hid (∀ W, Calls Try.prog 35 #[.int .i64 (c : Int)] W fun e w' => e = .returned (.bool true) ∧ W = w') := fun W => by have := mayColour_ok (c : Int) W; rwa [hmc] at this
  have hcell : (w.alloc (.cells #[.int .i64 (c : Int)] 3)).cell? ⟨w.heap.size, 0, none⟩ = some (.int .i64 (c : Int)) := by simp only [World.cell?, heap_alloc_new w (.cells #[.int .i64 (c : Int)] 3)]; rfl
  have hsz : w.heap.size < (w.alloc (.cells #[.int .i64 (c : Int)] 3)).heap.size := by simp
  have HMn : Hid (∀ (vk : Value) (Z : List (Value × List Nat × Nat)) (X : List Pm) (W : World) (base : Nat), KsAt W base vk Z → KUse n gss Z X → Below (w.alloc (.cells #[.int .i64 (c : Int)] 3)).heap.size (w.alloc (.cells #[.int .i64 (c : Int)] 3)) W → Calls Try.prog 36 #[vk, .func (.func 37) #[] #[.pointer (some ⟨w.heap.size, 0, none⟩)]] W fun e w' => (∃ cv : Nat, e = .returned (.int .i64 (cv : Int)) ∧ CntOk n c gss cv) ∧ Below W.heap.size W w') := fun vk Z X W base hZ hU hW => by
    refine (meanC_ok base w.heap.size vk Z (fun K => c ^ K.sum) W hZ hU.pos hU.zlen (fun z hz W' hW' => ?_) (fun z hz => pow_le12 hc8 (hU.sum12 h12 hR z hz)) (by rw [hU.total]; exact hU.few) (by rw [hU.total]; exact hU.xpos)).mono ?_
    · have hl := hU.len z hz
      refine count1_ok c w.heap.size z.2.1 z.1 W' ((Ints.own (hZ.all z hz)).below hW') ?_ ?_ hc8 (hU.sum12 h12 hR z hz) (by rw [hl]; exact h1) (by rw [hl]; exact h12)
      · rw [hW'.cell (p := ⟨w.heap.size, 0, none⟩) (Nat.lt_of_lt_of_le hsz hW.size), hW.cell (p := ⟨w.heap.size, 0, none⟩) hsz]; exact hcell
      · exact Nat.lt_of_lt_of_le hsz (Nat.le_trans hW.size hW'.size)
    · rintro e w' ⟨rfl, hb⟩
      refine ⟨⟨_, rfl, fun Y hY hYm => ?_⟩, hb⟩
      obtain ⟨k1, k2⟩ := kinds_sum (fun K => c ^ K.sum) hU.ok (perm_of_mem hU.nd hY hU.mem hYm)
      rw [k1, k2]
  have HKU : Hid (∀ e w', KdPost n gss (w.alloc (.cells #[.int .i64 (c : Int)] 3)) e w' → Below w.heap.size w w' ∧ Below (w.alloc (.cells #[.int .i64 (c : Int)] 3)).heap.size (w.alloc (.cells #[.int .i64 (c : Int)] 3)) w' ∧ ((5040 < sz (Gen (fun y => y ∈ gss.map pad)) n ∧ e = .returned (.tuple #[.slice none 0 0, .int .i64 3])) ∨ (¬ 5040 < sz (Gen (fun y => y ∈ gss.map pad)) n ∧ ∃ v Z X, e = .returned (.tuple #[v, .int .i64 0]) ∧ KsAt w' (w.alloc (.cells #[.int .i64 (c : Int)] 3)).heap.size v Z ∧ KUse n gss Z X))) := fun e w' h => by
    obtain ⟨a, b⟩ := h
    refine ⟨hbW.trans (a.mono hbW.size), a, ?_⟩
    by_cases hbig : 5040 < sz (Gen (fun y => y ∈ gss.map pad)) n
    · rw [if_pos hbig] at b; exact Or.inl ⟨hbig, b⟩
    · rw [if_neg hbig] at b
      obtain ⟨v, Z, X, b1, b2, b3, b4, b5, b6, b7⟩ := b
      exact Or.inr ⟨hbig, v, Z, X, b1, b2, b3, b4, by rw [b5]; omega, b6, b7⟩
  have HE1 : Hid (∀ w', Below w.heap.size w w' → 5040 < sz (Gen (fun y => y ∈ gss.map pad)) n → CtPost (CntOk n c gss) n gss w (.returned (.tuple #[.int .i64 0, .int .i64 3])) w') := fun w' hb h => ⟨hb, by rw [if_pos h]⟩
  have HE2 : Hid (∀ w' cv, Below w.heap.size w w' → ¬ 5040 < sz (Gen (fun y => y ∈ gss.map pad)) n → CntOk n c gss cv → CtPost (CntOk n c gss) n gss w (.returned (.tuple #[.int .i64 (cv : Int), .int .i64 0])) w') := fun w' cv hb h h2 => ⟨hb, by rw [if_neg h]; exact ⟨cv, rfl, h2⟩⟩
  obtain ⟨pv, cv, ev⟩ := hA.len
  subst ev
  generalize gss.length = gl at *
  generalize hPP : CtPost (CntOk n c gss) n gss w = PP at *
  clear hA hR hPP hmc hbW
  go_enter Try.func11, Try.ntmps11
  go_wp2_with fail
  refine (HMC.out _).mono ?_
  rintro e w1 ⟨rfl, rfl⟩
  go_wp2_with fail
  refine HKd.out.mono ?_
  intro e w2 hK
  obtain ⟨hb2, hb2', hK2⟩ := HKU.out e w2 hK
  clear hK
  rcases hK2 with ⟨hbig, rfl⟩ | ⟨hbig, vk, Z, X, rfl, hZ, hU⟩
  · have HE := hide (HE1.out w2 hb2 hbig)
    clear hbig
    go_wp2
    exact HE.out
  · have HM := hide (HMn.out vk Z X w2 _ hZ hU hb2')
    obtain ⟨pk, ck, ek⟩ := owns_sliceK hZ.row
    have HBg := hide hbig
    have HB2 := hide hb2
    subst ek
    generalize Z.length = zl at *
    clear hZ hU hbig hb2' hb2
    go_wp2_with fail
    refine HM.out.mono ?_
    rintro e w3 ⟨⟨q, rfl, hq⟩, hb3⟩
    have HE := hide (HE2.out w3 q (HB2.out.trans (hb3.mono HB2.out.size)) HBg.out hq)
    clear hq hb3
    go_wp2
    exact HE.out

end Go.Proofs.Ytahffpgadoiijaa

/- Contracts: checkMany; With. -/
namespace Go.Proofs.Ytahffpgadoiijaa
open Go.RowKit
set_option linter.unusedVariables false

/-- The sum as it is reckoned: it may wrap. -/
def wsm : List Int → Int → Int
  | [], a => a
  | x :: xs, a => wsm xs (IntKind.i64.wrap (a + x))

theorem wsm_snoc : ∀ (xs : List Int) (x a : Int), wsm (xs ++ [x]) a = IntKind.i64.wrap (wsm xs a + x)
  | [], x, a => rfl
  | y :: xs, x, a => wsm_snoc xs x (IntKind.i64.wrap (a + y))

theorem wsm_take {xs : List Int} {k : Nat} {x : Int} (h : xs[k]? = some x) : wsm (xs.take (k + 1)) 0 = IntKind.i64.wrap (wsm (xs.take k) 0 + x) := by
  rw [List.take_add_one, h]; exact wsm_snoc _ _ _

def mOk (n : Int) (xs : List Int) : Bool := xs.all (fun x => decide (0 ≤ x ∧ x ≤ n))

theorem mOk_take {n : Int} {xs : List Int} {k : Nat} {x : Int} (h : xs[k]? = some x) : mOk n (xs.take (k + 1)) = (mOk n (xs.take k) && decide (0 ≤ x ∧ x ≤ n)) := by
  unfold mOk
  rw [List.take_add_one, h, List.all_append]
  simp

theorem mOk_bad {n : Int} {xs : List Int} {k : Nat} {x : Int} (h : xs[k]? = some x) (hb : ¬ (0 ≤ x ∧ x ≤ n)) : mOk n xs = false := by
  unfold mOk
  rw [List.all_eq_false]
  exact ⟨x, List.mem_of_getElem? h, by simpa using hb⟩

/-- What With asks of the numbers. -/
def cmE (n : Int) (xs : List Int) : Int := if 8 < xs.length then 12 else if mOk n xs = false then 12 else if wsm xs 0 = n then 0 else 1

set_option maxRecDepth 20000 in
set_option maxHeartbeats 2000000 in
theorem checkMany_ok (n : Int) (v : Value) (xs : List Int) (w : World) (hI : Ints w v xs) :
    Calls Try.prog 48 #[.int .i64 n, v] w fun e w' => e = .returned (.int .i64 (cmE n xs)) ∧ w = w' := by
  have HI := hide hI
  obtain ⟨p0, c0, rfl⟩ := hI.form
  clear hI
  by_cases h8 : 8 < xs.length
  · have HE : Hid (cmE n xs = 12) := by show _ = _; unfold cmE; rw [if_pos h8]
    generalize xs.length = L at *
    generalize cmE n xs = E at *
    go_enter Try.func48, Try.ntmps48
    go_wp2
    go_ret
    exact ⟨by rw [HE.out]; rfl, rfl⟩
  · have HE1 : Hid (mOk n xs = false → cmE n xs = 12) := fun h => by unfold cmE; rw [if_neg h8, if_pos h]
    have HE2 : Hid (mOk n xs = true → cmE n xs = if wsm xs 0 = n then 0 else 1) := fun h => by unfold cmE; rw [if_neg h8, if_neg (by rw [h]; decide)]
    have HC : Hid (∀ k, k < xs.length → ∃ b off x, xs[k]? = some x ∧ p0 = some ⟨b, off, none⟩ ∧ xs.length ≤ c0 ∧ c0 ≤ 9223372036854775807 ∧ w.cell? ⟨b, off + k, none⟩ = some (.int .i64 x)) := fun k hk => by
      rcases HI.out with ⟨h0, _⟩ | ⟨b, off, cap, hv, h0, hcp, hm, hb, hcell⟩
      · rw [h0] at hk; simp at hk
      · injection hv with e1 _ e3
        subst e1; subst e3
        refine ⟨b, off, xs[k], List.getElem?_eq_getElem hk, rfl, hcp, hm, ?_⟩
        rw [hcell k hk]
        simp [List.getD, hk]
    have HT : Hid (xs.take xs.length = xs) := List.take_length
    generalize hLL : xs.length = L at *
    generalize cmE n xs = E at *
    clear hLL HI
    go_enter Try.func48, Try.ntmps48
    go_wp2
    go_loop [5, 13] (fun sa si => ∃ (k : Nat) (a : Int), k ≤ L ∧ sa = .int .i64 a ∧ si = .int .i64 (k : Int) ∧ Hid (a = wsm (xs.take k) 0) ∧ Hid (mOk n (xs.take k) = true)) (fun _ si => L - (intOf si).toNat)
    case atStart => exact ⟨0, 0, Nat.zero_le _, rfl, rfl, rfl, rfl⟩
    case round =>
      obtain ⟨k, a, hk, rfl, rfl, ha, hm⟩ := hrel
      by_cases hlt : k < L
      · obtain ⟨b, off, x, hx, rfl, hc1, hc2, hcx⟩ := HC.out k hlt
        by_cases h0 : x < 0
        · have HF := hide (HE1.out (mOk_bad hx (fun h => by omega)))
          have hd : decide (x < 0) = true := decide_eq_true h0
          clear hx
          go_wp2
          go_ret
          exact ⟨by rw [HF.out]; rfl, rfl⟩
        · have hd : decide (x < 0) = false := decide_eq_false h0
          by_cases h1 : n < x
          · have HF := hide (HE1.out (mOk_bad hx (fun h => by omega)))
            have hd2 : decide (x > n) = true := decide_eq_true h1
            clear hx
            go_wp2
            go_ret
            exact ⟨by rw [HF.out]; rfl, rfl⟩
          · have hd2 : decide (x > n) = false := decide_eq_false h1
            have HA : Hid (IntKind.i64.wrap (a + x) = wsm (xs.take (k + 1)) 0) := by show _ = _; rw [wsm_take hx, ← ha.out]
            have HM : Hid (mOk n (xs.take (k + 1)) = true) := by show _ = _; rw [mOk_take hx, hm.out, decide_eq_true ⟨by omega, by omega⟩]; rfl
            generalize hax : IntKind.i64.wrap (a + x) = ax at *
            clear hx ha hm
            go_wp2
            go_round
            case rel => exact ⟨k + 1, ax, hlt, by first | rfl | (rw [hax]) | go_num, by go_num, HA, HM⟩
            case measure => simp [intOf]; omega
      · obtain rfl : L = k := by omega
        have hm' := hm.out
        have ha' := ha.out
        rw [HT.out] at hm' ha'
        have HF := hide (HE2.out hm')
        rw [← ha'] at HF
        clear hm' ha' hm ha
        by_cases he : a = n
        · rw [if_pos he] at HF
          have hd : (a != n) = false := by simpa using he
          go_wp2
          go_ret
          exact ⟨by rw [HF.out]; rfl, rfl⟩
        · rw [if_neg he] at HF
          have hd : (a != n) = true := by simpa using he
          go_wp2
          go_ret
          exact ⟨by rw [HF.out]; rfl, rfl⟩

theorem wsm_nat : ∀ (many : List Nat) (a : Nat), a + many.sum ≤ 1000000 → wsm (natI many) (a : Int) = ((a + many.sum : Nat) : Int)
  | [], a, _ => by show (a : Int) = _; simp
  | x :: many, a, h => by
    rw [List.sum_cons] at h
    show wsm (natI many) (IntKind.i64.wrap ((a : Int) + (x : Int))) = _
    rw [show IntKind.i64.wrap ((a : Int) + (x : Int)) = ((a + x : Nat) : Int) by rw [IntKind.wrap_i64]; omega, wsm_nat many (a + x) (by omega), List.sum_cons, Nat.add_assoc]

/-- Numbers that With takes, of bells that may be. -/
theorem cmE_zero {n : Nat} {xs : List Int} (h : cmE (n : Int) xs = 0) (h1 : 1 ≤ n) (h12 : n ≤ 12) : ∃ many : List Nat, xs = natI many ∧ 1 ≤ many.length ∧ many.length ≤ 8 ∧ (∀ x, x ∈ many → x ≤ 12) := by
  unfold cmE at h
  by_cases a : 8 < xs.length
  · rw [if_pos a] at h; omega
  · rw [if_neg a] at h
    by_cases b : mOk (n : Int) xs = false
    · rw [if_pos b] at h; omega
    · rw [if_neg b] at h
      have b' : mOk (n : Int) xs = true := by simpa using b
      unfold mOk at b'
      rw [List.all_eq_true] at b'
      have hb : ∀ x, x ∈ xs → 0 ≤ x ∧ x ≤ (n : Int) := fun x hx => by simpa using b' x hx
      have e : xs = natI (xs.map Int.toNat) := by
        unfold natI
        rw [List.map_map]
        refine ((List.map_congr_left (fun x hx => ?_)).trans (List.map_id xs)).symm
        have := (hb x hx).1
        show ((x.toNat : Nat) : Int) = x
        omega
      refine ⟨xs.map Int.toNat, e, ?_, by rw [List.length_map]; omega, fun y hy => ?_⟩
      · rcases Nat.eq_zero_or_pos (xs.map Int.toNat).length with h0 | h0
        · rw [List.length_map] at h0
          have : xs = [] := List.eq_nil_of_length_eq_zero h0
          rw [this] at h
          simp [wsm] at h
          omega
        · exact h0
      · obtain ⟨x, hx, rfl⟩ := List.mem_map.1 hy
        have := hb x hx
        omega

theorem cmE_case (n : Int) (xs : List Int) : cmE n xs = 0 ∨ cmE n xs = 1 ∨ cmE n xs = 12 := by
  unfold cmE
  split
  · exact Or.inr (Or.inr rfl)
  · split
    · exact Or.inr (Or.inr rfl)
    · split
      · exact Or.inl rfl
      · exact Or.inr (Or.inl rfl)

end Go.Proofs.Ytahffpgadoiijaa

/- Contracts: With; refusals of Count and With. -/
namespace Go.Proofs.Ytahffpgadoiijaa
open Go.RowKit
set_option linter.unusedVariables false

theorem wn_bound {many K : List Nat} (hm8 : many.length ≤ 8) (hs : K.sum ≤ 12) : Wn many.length (lsUp K K.length) (fun j => many.getD j 0) ≤ 68719476736 := by
  refine Nat.le_trans (Wn_le _ _ _) (pow_le12 hm8 ?_)
  rw [lsUp_len, List.take_length]; exact hs

set_option maxRecDepth 20000 in
set_option maxHeartbeats 4000000 in
theorem with_ok (n : Nat) (many : List Nat) (v vm : Value) (gss : List (List Int)) (w : World) (hA : IntsAll w v gss) (hI : Ints w vm (natI many)) (hR : RowsN n gss) (h1 : 1 ≤ n) (h12 : n ≤ 12) (h8 : gss.length ≤ 8) (hm1 : 1 ≤ many.length) (hm8 : many.length ≤ 8) (hM : ∀ x, x ∈ many → x ≤ 12) (hcm : cmE (n : Int) (natI many) = 0) :
    Calls Try.prog 18 #[.int .i64 n, v, vm] w (CtPost (WthOk n many gss) n gss w) := by
  have hbW : Below w.heap.size w (w.alloc (.cells #[vm] 23)) := (Below.refl _ _).alloc (Nat.le_refl _) _
  have HKd := hide (kinds_ok n v gss (w.alloc (.cells #[vm] 23)) (hA.below hbW) hR h1 h12 h8)
  have HMC : Hid (Calls Try.prog 48 #[.int .i64 n, vm] (w.alloc (.cells #[vm] 23)) fun e w' => e = .returned (.int .i64 0) ∧ (w.alloc (.cells #[vm] 23)) = w') := by have := checkMany_ok (n : Int) vm (natI many) _ (hI.below hbW); rwa [hcm] at this
  have hcell : (w.alloc (.cells #[vm] 23)).cell? ⟨w.heap.size, 0, none⟩ = some vm := by simp only [World.cell?, heap_alloc_new w (.cells #[vm] 23)]; rfl
  have hsz : w.heap.size < (w.alloc (.cells #[vm] 23)).heap.size := by simp
  have HMn : Hid (∀ (vk : Value) (Z : List (Value × List Nat × Nat)) (X : List Pm) (W : World) (base : Nat), KsAt W base vk Z → KUse n gss Z X → Below (w.alloc (.cells #[vm] 23)).heap.size (w.alloc (.cells #[vm] 23)) W → Calls Try.prog 36 #[vk, .func (.func 49) #[] #[.pointer (some ⟨w.heap.size, 0, none⟩)]] W fun e w' => (∃ cv : Nat, e = .returned (.int .i64 (cv : Int)) ∧ WthOk n many gss cv) ∧ Below W.heap.size W w') := fun vk Z X W base hZ hU hW => by
    refine (meanW_ok base w.heap.size vk Z (fun K => Wn many.length (lsUp K K.length) (fun j => many.getD j 0)) W hZ hU.pos hU.zlen (fun z hz W' hW' => ?_) (fun z hz => wn_bound hm8 (hU.sum12 h12 hR z hz)) (by rw [hU.total]; exact hU.few) (by rw [hU.total]; exact hU.xpos)).mono ?_
    · have hl := hU.len z hz
      refine with1_ok w.heap.size many z.2.1 z.1 vm W' ((Ints.own (hZ.all z hz)).below hW') (((hI.below hbW).below hW).below hW') ?_ hm1 hm8 hM (by rw [hl]; exact h1) (by rw [hl]; exact h12) (hU.sum12 h12 hR z hz)
      rw [hW'.cell (p := ⟨w.heap.size, 0, none⟩) (Nat.lt_of_lt_of_le hsz hW.size), hW.cell (p := ⟨w.heap.size, 0, none⟩) hsz]; exact hcell
    · rintro e w' ⟨rfl, hb⟩
      refine ⟨⟨_, rfl, fun Y hY hYm => ?_⟩, hb⟩
      obtain ⟨k1, k2⟩ := kinds_sum (fun K => Wn many.length (lsUp K K.length) (fun j => many.getD j 0)) hU.ok (perm_of_mem hU.nd hY hU.mem hYm)
      rw [k1, k2]
      congr 2
      refine List.map_congr_left (fun x hx => ?_)
      rw [kl_length, cut_length h12 x]
  have HKU : Hid (∀ e w', KdPost n gss (w.alloc (.cells #[vm] 23)) e w' → Below w.heap.size w w' ∧ Below (w.alloc (.cells #[vm] 23)).heap.size (w.alloc (.cells #[vm] 23)) w' ∧ ((5040 < sz (Gen (fun y => y ∈ gss.map pad)) n ∧ e = .returned (.tuple #[.slice none 0 0, .int .i64 3])) ∨ (¬ 5040 < sz (Gen (fun y => y ∈ gss.map pad)) n ∧ ∃ v Z X, e = .returned (.tuple #[v, .int .i64 0]) ∧ KsAt w' (w.alloc (.cells #[vm] 23)).heap.size v Z ∧ KUse n gss Z X))) := fun e w' h => by
    obtain ⟨a, b⟩ := h
    refine ⟨hbW.trans (a.mono hbW.size), a, ?_⟩
    by_cases hbig : 5040 < sz (Gen (fun y => y ∈ gss.map pad)) n
    · rw [if_pos hbig] at b; exact Or.inl ⟨hbig, b⟩
    · rw [if_neg hbig] at b
      obtain ⟨v, Z, X, b1, b2, b3, b4, b5, b6, b7⟩ := b
      exact Or.inr ⟨hbig, v, Z, X, b1, b2, b3, b4, by rw [b5]; omega, b6, b7⟩
  have HE1 : Hid (∀ w', Below w.heap.size w w' → 5040 < sz (Gen (fun y => y ∈ gss.map pad)) n → CtPost (WthOk n many gss) n gss w (.returned (.tuple #[.int .i64 0, .int .i64 3])) w') := fun w' hb h => ⟨hb, by rw [if_pos h]⟩
  have HE2 : Hid (∀ w' cv, Below w.heap.size w w' → ¬ 5040 < sz (Gen (fun y => y ∈ gss.map pad)) n → WthOk n many gss cv → CtPost (WthOk n many gss) n gss w (.returned (.tuple #[.int .i64 (cv : Int), .int .i64 0])) w') := fun w' cv hb h h2 => ⟨hb, by rw [if_neg h]; exact ⟨cv, rfl, h2⟩⟩
  obtain ⟨pv, cv, ev⟩ := hA.len
  obtain ⟨pm, cm, em⟩ := hI.form
  subst ev; subst em
  generalize gss.length = gl at *
  generalize hPP : CtPost (WthOk n many gss) n gss w = PP at *
  generalize (natI many).length = ml at *
  clear hA hR hPP hI hbW hcm hm1 hm8 hM
  go_enter Try.func18, Try.ntmps18
  go_wp2_with fail
  refine HMC.out.mono ?_
  rintro e w1 ⟨rfl, rfl⟩
  go_wp2_with fail
  refine HKd.out.mono ?_
  intro e w2 hK
  obtain ⟨hb2, hb2', hK2⟩ := HKU.out e w2 hK
  clear hK
  rcases hK2 with ⟨hbig, rfl⟩ | ⟨hbig, vk, Z, X, rfl, hZ, hU⟩
  · have HE := hide (HE1.out w2 hb2 hbig)
    clear hbig
    go_wp2
    exact HE.out
  · have HM := hide (HMn.out vk Z X w2 _ hZ hU hb2')
    obtain ⟨pk, ck, ek⟩ := owns_sliceK hZ.row
    have HBg := hide hbig
    have HB2 := hide hb2
    subst ek
    generalize Z.length = zl at *
    clear hZ hU hbig hb2' hb2
    go_wp2_with fail
    refine HM.out.mono ?_
    rintro e w3 ⟨⟨q, rfl, hq⟩, hb3⟩
    have HE := hide (HE2.out w3 q (HB2.out.trans (hb3.mono HB2.out.size)) HBg.out hq)
    clear hq hb3
    go_wp2
    exact HE.out

set_option maxRecDepth 20000 in
theorem with_bad (n : Int) (v vm : Value) (xs : List Int) (w : World) (hI : Ints w vm xs) (hc : cmE n xs ≠ 0) (hv : ∃ p l c, v = .slice p l c) :
    Calls Try.prog 18 #[.int .i64 n, v, vm] w fun e w' => e = .returned (.tuple #[.int .i64 0, .int .i64 (cmE n xs)]) ∧ Below w.heap.size w w' := by
  have hbW : Below w.heap.size w (w.alloc (.cells #[vm] 23)) := (Below.refl _ _).alloc (Nat.le_refl _) _
  have HMC := hide (checkMany_ok n vm xs _ (hI.below hbW))
  obtain ⟨pm, cm, em⟩ := hI.form
  obtain ⟨pv, lv, cv, rfl⟩ := hv
  subst em
  generalize xs.length = ml at *
  have hne : (cmE n xs != 0) = true := by rw [bne_iff_ne]; exact hc
  generalize cmE n xs = E at *
  have HB := hide hbW
  clear hI hbW hc
  go_enter Try.func18, Try.ntmps18
  go_wp2_with fail
  refine HMC.out.mono ?_
  rintro e w1 ⟨rfl, rfl⟩
  go_wp2
  go_ret2
  exact ⟨rfl, HB.out⟩

set_option maxRecDepth 20000 in
theorem with_no (n : Int) (v vm : Value) (xs : List Int) (c : Int) (w : World) (hI : Ints w vm xs) (h0 : cmE n xs = 0) (hv : ∃ p l c, v = .slice p l c) (hc : c ≠ 0)
    (hk : ∀ w', Below w.heap.size w w' → Calls Try.prog 51 #[.int .i64 n, v] w' fun e w'' => e = .returned (.int .i64 c) ∧ Below w'.heap.size w' w'') :
    Calls Try.prog 18 #[.int .i64 n, v, vm] w fun e w' => e = .returned (.tuple #[.int .i64 0, .int .i64 c]) ∧ Below w.heap.size w w' := by
  have hbW : Below w.heap.size w (w.alloc (.cells #[vm] 23)) := (Below.refl _ _).alloc (Nat.le_refl _) _
  have HMC := hide (checkMany_ok n vm xs _ (hI.below hbW))
  rw [h0] at HMC
  have HKd := hide (kinds_no n v c _ hc (hk _ hbW))
  obtain ⟨pm, cm, em⟩ := hI.form
  obtain ⟨pv, lv, cv, rfl⟩ := hv
  subst em
  generalize xs.length = ml at *
  have hne : (c != 0) = true := by rw [bne_iff_ne]; exact hc
  have HB := hide hbW
  clear hI hbW hc hk h0
  go_enter Try.func18, Try.ntmps18
  go_wp2_with fail
  refine HMC.out.mono ?_
  rintro e w1 ⟨rfl, rfl⟩
  go_wp2_with fail
  refine HKd.out.mono ?_
  rintro e w2 ⟨rfl, hb2⟩
  have hB2 := HB.out.trans (hb2.mono HB.out.size)
  clear hb2
  go_wp2
  go_ret2
  exact ⟨rfl, hB2⟩

set_option maxRecDepth 20000 in
theorem count_bad (n : Int) (v : Value) (c : Int) (w : World) (hc : ¬ (0 ≤ c ∧ c ≤ 8)) (hv : ∃ p l c, v = .slice p l c) :
    Calls Try.prog 11 #[.int .i64 n, v, .int .i64 c] w fun e w' => e = .returned (.tuple #[.int .i64 0, .int .i64 12]) ∧ Below w.heap.size w w' := by
  have hbW : Below w.heap.size w (w.alloc (.cells #[.int .i64 c] 3)) := (Below.refl _ _).alloc (Nat.le_refl _) _
  have HMC := hide (mayColour_ok c (w.alloc (.cells #[.int .i64 c] 3)))
  rw [decide_eq_false hc] at HMC
  obtain ⟨pv, lv, cv, rfl⟩ := hv
  have HB := hide hbW
  clear hbW hc
  go_enter Try.func11, Try.ntmps11
  go_wp2_with fail
  refine HMC.out.mono ?_
  rintro e w1 ⟨rfl, rfl⟩
  go_wp2
  go_ret2
  exact ⟨rfl, HB.out⟩

set_option maxRecDepth 20000 in
theorem count_no (n : Int) (v : Value) (k c : Int) (w : World) (hk0 : 0 ≤ k ∧ k ≤ 8) (hv : ∃ p l c, v = .slice p l c) (hc : c ≠ 0)
    (hk : ∀ w', Below w.heap.size w w' → Calls Try.prog 51 #[.int .i64 n, v] w' fun e w'' => e = .returned (.int .i64 c) ∧ Below w'.heap.size w' w'') :
    Calls Try.prog 11 #[.int .i64 n, v, .int .i64 k] w fun e w' => e = .returned (.tuple #[.int .i64 0, .int .i64 c]) ∧ Below w.heap.size w w' := by
  have hbW : Below w.heap.size w (w.alloc (.cells #[.int .i64 k] 3)) := (Below.refl _ _).alloc (Nat.le_refl _) _
  have HMC := hide (mayColour_ok k (w.alloc (.cells #[.int .i64 k] 3)))
  rw [decide_eq_true hk0] at HMC
  have HKd := hide (kinds_no n v c _ hc (hk _ hbW))
  obtain ⟨pv, lv, cv, rfl⟩ := hv
  have hne : (c != 0) = true := by rw [bne_iff_ne]; exact hc
  have HB := hide hbW
  clear hbW hc hk hk0
  go_enter Try.func11, Try.ntmps11
  go_wp2_with fail
  refine HMC.out.mono ?_
  rintro e w1 ⟨rfl, rfl⟩
  go_wp2_with fail
  refine HKd.out.mono ?_
  rintro e w2 ⟨rfl, hb2⟩
  have hB2 := HB.out.trans (hb2.mono HB.out.size)
  clear hb2
  go_wp2
  go_ret2
  exact ⟨rfl, hB2⟩

end Go.Proofs.Ytahffpgadoiijaa

/- Contract: Patterns. -/
namespace Go.Proofs.Ytahffpgadoiijaa
open Go.RowKit
set_option linter.unusedVariables false

/-- What Patterns leaves. -/
def PtPost (n c : Nat) (gss : List (List Int)) (w : World) (e : Ending) (w' : World) : Prop :=
  Below w.heap.size w w' ∧ if 5040 < sz (Gen (fun y => y ∈ gss.map pad)) n ∨ 5040 < c ^ n then e = .returned (.tuple #[.slice none 0 0, .int .i64 3]) else
    ∃ (v : Value) (vs : List Value), e = .returned (.tuple #[v, .int .i64 0]) ∧ LL w' w.heap.size v vs ((frN n c gss (c ^ n)).map (colL n c))

set_option maxRecDepth 20000 in
set_option maxHeartbeats 4000000 in
theorem patterns_ok (n c : Nat) (v : Value) (gss : List (List Int)) (w : World) (hA : IntsAll w v gss) (hR : RowsN n gss) (h1 : 1 ≤ n) (h12 : n ≤ 12) (h8 : gss.length ≤ 8) (hc8 : c ≤ 8) :
    Calls Try.prog 17 #[.int .i64 n, v, .int .i64 (c : Int)] w (PtPost n c gss w) := by
  have HMk := hide (make_ok n v gss w hA h1 h12 h8 hR)
  have hmc : decide (0 ≤ (c : Int) ∧ (c : Int) ≤ 8) = true := decide_eq_true ⟨by omega, by omega⟩
  have HMC : Hid (∀ W, Calls Try.prog 35 #[.int .i64 (c : Int)] W fun e w' => e = .returned (.bool true) ∧ W = w') := fun W => by have := mayColour_ok (c : Int) W; rwa [hmc] at this
  have HPw : Hid (∀ W, Calls Try.prog 38 #[.int .i64 (c : Int), .int .i64 (n : Int)] W fun e w' => e = .returned (.int .i64 ((c ^ n : Nat) : Int)) ∧ W = w') := fun W => power_ok c n W hc8 h12
  have HSz : Hid (∀ u W, GroupAt W u n (gss.map pad) → Calls Try.prog 46 #[u] W fun e w' => e = .returned (.int .i64 ((sz (Gen (fun y => y ∈ gss.map pad)) n : Nat) : Int)) ∧ Below W.heap.size W w') := fun u W hG => gsize_ok n u (gss.map pad) W h12 hG
  have HFr : Hid (∀ W, c ^ n ≤ 5040 → Below w.heap.size w W → Calls Try.prog 47 #[.int .i64 (n : Int), v, .int .i64 (c : Int), .int .i64 ((c ^ n : Nat) : Int)] W fun e w' => ∃ v vs, e = .returned v ∧ LL w' W.heap.size v vs ((frN n c gss (c ^ n)).map (colL n c)) ∧ Below W.heap.size W w') := fun W hAll hW => firsts_ok n c v gss W (hA.below hW) hR h1 h12 hc8 h8 hAll
  have HE1 : Hid (∀ w', Below w.heap.size w w' → (5040 < sz (Gen (fun y => y ∈ gss.map pad)) n ∨ 5040 < c ^ n) → PtPost n c gss w (.returned (.tuple #[.slice none 0 0, .int .i64 3])) w') := fun w' hb h => ⟨hb, by rw [if_pos h]⟩
  have HE2 : Hid (∀ v vs w' B, Below w.heap.size w w' → w.heap.size ≤ B → ¬ (5040 < sz (Gen (fun y => y ∈ gss.map pad)) n ∨ 5040 < c ^ n) → LL w' B v vs ((frN n c gss (c ^ n)).map (colL n c)) → PtPost n c gss w (.returned (.tuple #[v, .int .i64 0])) w') := fun v vs w' B hb hB h h2 => ⟨hb, by rw [if_neg h]; exact ⟨v, vs, rfl, h2.low hB⟩⟩
  have hpl := pow_le12 hc8 h12
  have hsl : (sz (Gen (fun y => y ∈ gss.map pad)) n) ≤ 479001600 := by
    have hd := sz_fct (Gen.sub (fun y => y ∈ gss.map pad)) h12 (fun x hx => gens_fix h12 hR hx)
    have hf : fct n ≤ 479001600 ∧ 0 < fct n := by
      rcases (show n = 1 ∨ n = 2 ∨ n = 3 ∨ n = 4 ∨ n = 5 ∨ n = 6 ∨ n = 7 ∨ n = 8 ∨ n = 9 ∨ n = 10 ∨ n = 11 ∨ n = 12 by omega) with rfl | rfl | rfl | rfl | rfl | rfl | rfl | rfl | rfl | rfl | rfl | rfl <;> decide
    exact Nat.le_trans (Nat.le_of_dvd hf.2 hd) hf.1
  obtain ⟨pv, cv, ev⟩ := hA.len
  subst ev
  generalize gss.length = gl at *
  generalize hPP : PtPost n c gss w = PP at *
  generalize (frN n c gss (c ^ n)).map (colL n c) = FR at *
  generalize c ^ n = A at *
  generalize sz (Gen (fun y => y ∈ gss.map pad)) n = Sz at *
  clear hA hR hPP hmc
  go_enter Try.func17, Try.ntmps17
  go_wp2_with fail
  refine (HMC.out _).mono ?_
  rintro e w1 ⟨rfl, rfl⟩
  go_wp2_with fail
  refine HMk.out.mono ?_
  rintro e w1 ⟨u, rfl, hG, hb1⟩
  have HS1 := hide (HSz.out u w1 hG)
  obtain ⟨gb1, _, _, _, _, _, _, rfl, _⟩ := hG
  go_wp2_with fail
  refine (HPw.out _).mono ?_
  rintro e w2 ⟨rfl, rfl⟩
  go_wp2_with fail
  refine HS1.out.mono ?_
  rintro e w2 ⟨rfl, hb2⟩
  have hB2 := hb1.trans (hb2.mono hb1.size)
  clear hb1 hb2 HS1
  by_cases hs : 5040 < Sz
  · have hd : decide ((Sz : Int) > 5040) = true := decide_eq_true (by omega)
    have HE := hide (HE1.out w2 hB2 (Or.inl hs))
    go_wp2
    exact HE.out
  · have hd : decide ((Sz : Int) > 5040) = false := decide_eq_false (by omega)
    by_cases ha : 5040 < A
    · have hd2 : decide ((A : Int) > 5040) = true := decide_eq_true (by omega)
      have HE := hide (HE1.out w2 hB2 (Or.inr ha))
      go_wp2
      exact HE.out
    · have hd2 : decide ((A : Int) > 5040) = false := decide_eq_false (by omega)
      have HF := hide (HFr.out w2 (by omega) hB2)
      have HN : Hid (¬ (5040 < Sz ∨ 5040 < A)) := fun h => by omega
      have HB2 := hide hB2
      clear hB2
      go_wp2_with fail
      refine HF.out.mono ?_
      rintro e w3 ⟨vf, vs, rfl, hL, hb3⟩
      have HE := hide (HE2.out vf vs w3 _ (HB2.out.trans (hb3.mono HB2.out.size)) HB2.out.size HN.out hL)
      obtain ⟨pf, cf, ef⟩ := owns_slice hL.row
      subst ef
      generalize vs.length = vl at *
      clear hL hb3
      go_wp2
      exact HE.out

set_option maxRecDepth 20000 in
theorem patterns_bad (n : Int) (v : Value) (c : Int) (w : World) (hc : ¬ (0 ≤ c ∧ c ≤ 8)) (hv : ∃ p l c, v = .slice p l c) :
    Calls Try.prog 17 #[.int .i64 n, v, .int .i64 c] w fun e w' => e = .returned (.tuple #[.slice none 0 0, .int .i64 12]) ∧ Below w.heap.size w w' := by
  have HMC := hide (mayColour_ok c w)
  rw [decide_eq_false hc] at HMC
  obtain ⟨pv, lv, cv, rfl⟩ := hv
  clear hc
  go_enter Try.func17, Try.ntmps17
  go_wp2_with fail
  refine HMC.out.mono ?_
  rintro e w1 ⟨rfl, rfl⟩
  go_wp2
  go_ret2
  exact ⟨rfl, Below.refl _ _⟩

set_option maxRecDepth 20000 in
theorem patterns_no (n : Int) (v : Value) (k c : Int) (w : World) (hk0 : 0 ≤ k ∧ k ≤ 8) (hv : ∃ p l c, v = .slice p l c) (hc : c ≠ 0)
    (hk : Calls Try.prog 51 #[.int .i64 n, v] w fun e w'' => e = .returned (.int .i64 c) ∧ Below w.heap.size w w'') :
    Calls Try.prog 17 #[.int .i64 n, v, .int .i64 k] w fun e w' => e = .returned (.tuple #[.slice none 0 0, .int .i64 c]) ∧ Below w.heap.size w w' := by
  have HMC := hide (mayColour_ok k w)
  rw [decide_eq_true hk0] at HMC
  have HKd := hide (make_refuses n v c w hc hk)
  obtain ⟨pv, lv, cv, rfl⟩ := hv
  have hne : (c != 0) = true := by rw [bne_iff_ne]; exact hc
  clear hc hk hk0
  go_enter Try.func17, Try.ntmps17
  go_wp2_with fail
  refine HMC.out.mono ?_
  rintro e w1 ⟨rfl, rfl⟩
  go_wp2_with fail
  refine HKd.out.mono ?_
  rintro e w2 ⟨rfl, hb2⟩
  go_wp2
  go_ret2
  exact ⟨rfl, hb2⟩

end Go.Proofs.Ytahffpgadoiijaa

/- Plain: what is counted is how many first ones there are; those of each distribution are, together, all. -/
namespace Go.Proofs.Ytahffpgadoiijaa
set_option linter.unusedVariables false

theorem cnt_pat {n c : Nat} {gss : List (List Int)} {cv : Nat} (h : CntOk n c gss cv) (h12 : n ≤ 12) (hc : 1 ≤ c) (hR : RowsN n gss) : cv = (frN n c gss (c ^ n)).length := by
  have hf : ∀ x, Gen (fun y => y ∈ gss.map pad) x → Fixes (fun b => n ≤ b) x := fun x hx => gens_fix h12 hR hx
  obtain ⟨X, hX, hm, _⟩ := sz_list (Gen.sub (fun y => y ∈ gss.map pad)) h12 hf
  have h1 := h X hX hm
  have h2 := burn_all h12 hc (Gen.sub _) hf hX hm
  have h3 : X.map (fun x => c ^ (kl (cut n x)).sum) = X.map (fun x => c ^ (cycsTo (cut n x) n).length) := List.map_congr_left (fun x hx => by
    rw [kl_sums (cut_row h12 (hf x ((hm x).1 hx))), cut_length h12 x])
  rw [h1, h3, h2, frN_eq h12 hc hR hX hm]
  exact Nat.mul_div_cancel _ (List.length_pos_of_mem ((hm 1).2 Gen.one))

theorem wth_pat {n : Nat} {many : List Nat} {gss : List (List Int)} {cv : Nat} (h : WthOk n many gss cv) (h12 : n ≤ 12) (hc : 1 ≤ many.length) (hR : RowsN n gss) : cv = (frN n many.length gss (many.length ^ n)).countP (fun k => qMany many (colD n many.length k)) := by
  have hf : ∀ x, Gen (fun y => y ∈ gss.map pad) x → Fixes (fun b => n ≤ b) x := fun x hx => gens_fix h12 hR hx
  obtain ⟨X, hX, hm, _⟩ := sz_list (Gen.sub (fun y => y ∈ gss.map pad)) h12 hf
  have h1 := h X hX hm
  have h2 := burn_many h12 hc (Gen.sub _) hf hX hm
  rw [h1, h2, frN_eq h12 hc hR hX hm, Nat.mul_div_cancel _ (List.length_pos_of_mem ((hm 1).2 Gen.one)), List.countP_filter]
  congr 1
  funext k
  exact Bool.and_comm _ _

theorem frN_pos {n c A : Nat} {gss : List (List Int)} (h : 1 ≤ A) : 1 ≤ (frN n c gss A).length := by
  refine List.length_pos_of_mem (a := 0) ?_
  unfold frN
  rw [List.mem_filter]
  refine ⟨List.mem_range.2 h, ?_⟩
  simp

theorem count_01 : ∀ (P : List Nat), (∀ x, x ∈ P → x < 2) → P.countP (fun x => x == 0) + P.countP (fun x => x == 1) = P.length
  | [], _ => rfl
  | x :: P, h => by
    have ih := count_01 P (fun y hy => h y (List.mem_cons_of_mem _ hy))
    have hx := h x List.mem_cons_self
    rw [List.countP_cons, List.countP_cons, List.length_cons]
    rcases (show x = 0 ∨ x = 1 by omega) with rfl | rfl
    · simp; omega
    · simp; omega

theorem qTwo {n k i : Nat} (hi : i ≤ n) : qMany [i, n - i] (colD n 2 k) = decide ((colD n 2 k).countP (fun x => x == 0) = i) := by
  have h := count_01 (colD n 2 k) (colD_lt (by decide))
  rw [colD_length] at h
  have e : qMany [i, n - i] (colD n 2 k) = (((colD n 2 k).countP (fun x => x == 0) == i) && (((colD n 2 k).countP (fun x => x == 1) == n - i) && true)) := rfl
  rw [e, Bool.eq_iff_iff]
  simp
  omega

theorem two_sum {n : Nat} (F : List Nat) : ((List.range (n + 1)).map (fun i => F.countP (fun k => qMany [i, n - i] (colD n 2 k)))).sum = F.length := by
  have h1 : (List.range (n + 1)).map (fun i => F.countP (fun k => qMany [i, n - i] (colD n 2 k))) = (List.range (n + 1)).map (fun i => (F.map (fun k => if (colD n 2 k).countP (fun x => x == 0) = i then 1 else 0)).sum) := List.map_congr_left (fun i hi => by
    have hi' := List.mem_range.1 hi
    rw [lcountP_sum]
    refine lsum_congr (fun k _ => ?_)
    rw [qTwo (by omega)]
    simp)
  rw [h1, lsum_swap (fun i k => if (colD n 2 k).countP (fun x => x == 0) = i then 1 else 0)]
  rw [lsum_const _ F 1 (fun k _ => ?_), Nat.mul_one]
  have hle : (colD n 2 k).countP (fun x => x == 0) ≤ n := by
    have := List.countP_le_length (p := fun x => x == 0) (l := colD n 2 k)
    rwa [colD_length] at this
  rw [lsum_one (fun i => if (colD n 2 k).countP (fun x => x == 0) = i then 1 else 0) (List.range (n + 1)) List.nodup_range ((colD n 2 k).countP (fun x => x == 0)) (List.mem_range.2 (by omega)) (fun y _ hy => if_neg (fun e => hy e.symm)), if_pos rfl]

/-- Those of the first so many distributions, together. -/
def sm2 (n : Nat) (F : List Nat) (i : Nat) : Nat := ((List.range i).map (fun i => F.countP (fun k => qMany [i, n - i] (colD n 2 k)))).sum

theorem sm2_succ (n : Nat) (F : List Nat) (i : Nat) : sm2 n F (i + 1) = sm2 n F i + F.countP (fun k => qMany [i, n - i] (colD n 2 k)) := by
  unfold sm2
  rw [List.range_succ, List.map_append, List.sum_append]
  simp

theorem sm2_le {n i : Nat} {F : List Nat} (h : i ≤ n + 1) : sm2 n F i ≤ F.length := by
  have h2 : sm2 n F (n + 1) = F.length := two_sum F
  have key : ∀ d, sm2 n F i ≤ sm2 n F (i + d) := fun d => by
    induction d with
    | zero => exact Nat.le_refl _
    | succ d ih => rw [show i + (d + 1) = i + d + 1 by omega, sm2_succ]; omega
  have := key (n + 1 - i)
  rw [show i + (n + 1 - i) = n + 1 by omega, h2] at this
  exact this

theorem cm_two {n i : Nat} (h12 : n ≤ 12) (hi : i ≤ n) : cmE (n : Int) (natI [i, n - i]) = 0 := by
  have h2 := wsm_nat [i, n - i] 0 (by simp; omega)
  have e : ([i, n - i] : List Nat).sum = n := by simp; omega
  rw [e] at h2
  unfold cmE
  rw [if_neg (by rw [natI_length]; simp), if_neg, if_pos (by rw [show ((0 : Nat) : Int) = 0 from rfl] at h2; rw [h2]; omega)]
  unfold mOk natI
  simp
  omega

end Go.Proofs.Ytahffpgadoiijaa

/- TopBurnside: the walk. -/
namespace Go.Proofs.Ytahffpgadoiijaa
open Go.RowKit
set_option linter.unusedVariables false

theorem ints_pair (w : World) (a b : Int) : Ints (w.alloc (.cells #[.int .i64 a, .int .i64 b] 3)) (.slice (some ⟨w.heap.size, 0, none⟩) 2 2) [a, b] := by
  have hh := heap_alloc_new w (.cells #[.int .i64 a, .int .i64 b] 3)
  refine Or.inr ⟨w.heap.size, 0, 2, rfl, by simp, by simp, by decide, (Array.getElem?_eq_some_iff.1 hh).1, fun j hj => ?_⟩
  have hj2 : j < 2 := hj
  simp only [World.cell?, hh]
  rcases (show j = 0 ∨ j = 1 by omega) with rfl | rfl <;> rfl

set_option maxRecDepth 20000 in
set_option maxHeartbeats 2000000 in
theorem tburn_long (v : Value) (xs : List Int) (a1 a2 : Int) (w : World) (h : Ints w v xs) (hl : 256 < xs.length) :
    Calls Try.prog 4 #[v, .int .i64 a1, .int .i64 a2] w fun e w' => e = .returned (.bool true) ∧ Below w.heap.size w w' := by
  obtain ⟨p, c, e⟩ := h.form
  subst e
  clear h
  generalize xs.length = L at *
  go_enter Try.func4, Try.ntmps4
  go_wp2
  go_ret
  exact ⟨rfl, Below.refl _ _⟩

/-- All that the law asks of the program, of bells and rows as they are made. -/
structure Brn (n : Nat) (vg : Value) (gss : List (List Int)) (w : World) (F : Nat → List Nat) : Prop where
  cnt : ∀ (c : Nat) (W : World), 1 ≤ c → c ≤ 3 → Below w.heap.size w W → Calls Try.prog 11 #[.int .i64 n, vg, .int .i64 (c : Int)] W fun e w' => e = .returned (.tuple #[.int .i64 ((F c).length : Int), .int .i64 0]) ∧ Below W.heap.size W w'
  pat : ∀ (c : Nat) (W : World), 1 ≤ c → c ≤ 3 → Below w.heap.size w W → Calls Try.prog 17 #[.int .i64 n, vg, .int .i64 (c : Int)] W fun e w' => ∃ p q, e = .returned (.tuple #[.slice p (F c).length q, .int .i64 0]) ∧ Below W.heap.size W w'
  wth : ∀ (i : Nat) (W : World), i ≤ n → Below w.heap.size w W → Calls Try.prog 18 #[.int .i64 n, vg, .slice (some ⟨W.heap.size, 0, none⟩) 2 2] (W.alloc (.cells #[.int .i64 (i : Int), .int .i64 ((n - i : Nat) : Int)] 3)) fun e w' => e = .returned (.tuple #[.int .i64 (((F 2).countP (fun k => qMany [i, n - i] (colD n 2 k)) : Nat) : Int), .int .i64 0]) ∧ Below W.heap.size W w'
  pos : ∀ c : Nat, 1 ≤ c → 1 ≤ (F c).length
  few : ∀ c : Nat, c ≤ 3 → (F c).length ≤ 1000

theorem pow_small {n c : Nat} (hn : n ≤ 6) (hc : c ≤ 3) : c ^ n ≤ 729 := Nat.le_trans (Nat.pow_le_pow_left hc n) (Nat.le_trans (Nat.pow_le_pow_right (by decide) hn) (by decide))

set_option maxRecDepth 20000 in
theorem brn_ok (n : Nat) (vg : Value) (gss : List (List Int)) (w : World) (hA : IntsAll w vg gss) (hR : RowsN n gss) (h1 : 1 ≤ n) (h6 : n ≤ 6) (h8 : gss.length ≤ 8) : Brn n vg gss w (fun c => frN n c gss (c ^ n)) := by
  have h12 : n ≤ 12 := by omega
  have hsz : ¬ 5040 < sz (Gen (fun y => y ∈ gss.map pad)) n := by
    have hd := sz_fct (Gen.sub (fun y => y ∈ gss.map pad)) h12 (fun x hx => gens_fix h12 hR hx)
    have hf : fct n ≤ 720 ∧ 0 < fct n := by
      rcases (show n = 1 ∨ n = 2 ∨ n = 3 ∨ n = 4 ∨ n = 5 ∨ n = 6 by omega) with rfl | rfl | rfl | rfl | rfl | rfl <;> decide
    have := Nat.le_trans (Nat.le_of_dvd hf.2 hd) hf.1
    omega
  refine ⟨fun c W hc1 hc3 hW => ?_, fun c W hc1 hc3 hW => ?_, fun i W hi hW => ?_, fun c hc1 => frN_pos (Nat.pow_pos hc1), fun c hc3 => Nat.le_trans (frN_len n c gss _) (Nat.le_trans (pow_small h6 hc3) (by decide))⟩
  · refine (count_ok n c vg gss W (hA.below hW) hR h1 h12 h8 (by omega)).mono ?_
    rintro e w' ⟨hb, hp⟩
    rw [if_neg hsz] at hp
    obtain ⟨cv, rfl, hcv⟩ := hp
    rw [cnt_pat hcv h12 hc1 hR]
    exact ⟨rfl, hb⟩
  · refine (patterns_ok n c vg gss W (hA.below hW) hR h1 h12 h8 (by omega)).mono ?_
    rintro e w' ⟨hb, hp⟩
    rw [if_neg (by have := pow_small h6 hc3; omega)] at hp
    obtain ⟨v, vs, rfl, hL⟩ := hp
    obtain ⟨p, q, e⟩ := owns_slice hL.row
    have hvl : vs.length = (frN n c gss (c ^ n)).length := by rw [hL.len, List.length_map]
    subst e
    rw [hvl]
    exact ⟨p, q, rfl, hb⟩
  · have hb : Below W.heap.size W (W.alloc (.cells #[.int .i64 (i : Int), .int .i64 ((n - i : Nat) : Int)] 3)) := (Below.refl _ _).alloc (Nat.le_refl _) _
    refine (with_ok n [i, n - i] vg _ gss _ ((hA.below hW).below hb) (ints_pair W _ _) hR h1 h12 h8 (by simp) (by simp) (fun x hx => ?_) (cm_two h12 hi)).mono ?_
    · simp at hx; omega
    · rintro e w' ⟨hb', hp⟩
      rw [if_neg hsz] at hp
      obtain ⟨cv, rfl, hcv⟩ := hp
      rw [wth_pat hcv h12 (by simp) hR]
      exact ⟨rfl, hb.trans (hb'.mono hb.size)⟩

set_option maxRecDepth 20000 in
set_option maxHeartbeats 8000000 in
theorem tburn_ok (v : Value) (xs : List Int) (a1 a2 : Int) (w : World) (h : Ints w v xs) (hx : ∀ x, x ∈ xs → I64 x) (hl : xs.length ≤ 256) (i1 : I64 a1) (i2 : I64 a2) :
    Calls Try.prog 4 #[v, .int .i64 a1, .int .i64 a2] w fun e w' => e = .returned (.bool true) ∧ Below w.heap.size w w' := by
  obtain ⟨l1, r1⟩ := i1
  obtain ⟨l2, r2⟩ := i2
  have HI := hide h
  have HX := hide hx
  obtain ⟨p, c, e⟩ := h.form
  subst e
  have hl' : ¬ ((256 : Int) < (xs.length : Int)) := by omega
  clear h hx
  go_enter Try.func4, Try.ntmps4
  go_wp2_with fail
  refine (pick_any a1 6 _ l1 r1 (by omega) (by omega)).mono ?_
  rintro ex wp ⟨k1, k1a, k1b, rfl, rfl⟩
  obtain ⟨n0, rfl⟩ := Int.eq_ofNat_of_zero_le k1a
  obtain ⟨n, hn⟩ : ∃ n : Nat, n = n0 + 1 := ⟨_, rfl⟩
  have hnI : (1 : Int) + (n0 : Int) = (n : Int) := by omega
  have h1 : 1 ≤ n := by omega
  have h6 : n ≤ 6 := by omega
  clear hn k1a k1b l1 r1
  go_wp2_with fail
  refine (pick_any a2 3 _ l2 r2 (by omega) (by omega)).mono ?_
  rintro ex wp ⟨k2, k2a, k2b, rfl, rfl⟩
  obtain ⟨m, rfl⟩ := Int.eq_ofNat_of_zero_le k2a
  have hm3 : m ≤ 2 := by omega
  have HR1 : Hid (Calls Try.prog 16 #[.slice p xs.length c, .int .i64 0, .int .i64 n, .int .i64 m] w fun e w' => ∃ u vs xss, e = .returned u ∧ RowsRel w w' n m u vs xss) := rowsOf_ok2 (.slice p xs.length c) xs 0 n m w HI.out HX.out (by omega) h1 (by omega) (by omega)
  clear k2a k2b l2 r2
  go_wp2_with fail
  refine HR1.out.mono ?_
  rintro ex w1 ⟨u1, vs1, gss, rfl, hR1⟩
  have hB1 := hR1.below
  have hbr := brn_ok n u1 gss w1 hR1.all'.1 hR1.rows h1 h6 (by rw [hR1.all'.2]; omega)
  obtain ⟨pg, cg, eg⟩ := hR1.all'.1.len
  subst eg
  generalize gss.length = gl at *
  generalize hF : (fun c => frN n c gss (c ^ n)) = F at *
  have HCn := hide hbr.cnt
  have HPt := hide hbr.pat
  have HWt := hide hbr.wth
  have HPo := hide hbr.pos
  have HFe := hide hbr.few
  have HS0 : Hid (sm2 n (F 2) 0 = 0) := rfl
  have HSs : Hid (∀ i, sm2 n (F 2) (i + 1) = sm2 n (F 2) i + (F 2).countP (fun k => qMany [i, n - i] (colD n 2 k))) := fun i => sm2_succ n (F 2) i
  have HSl : Hid (∀ i, i ≤ n + 1 → sm2 n (F 2) i ≤ 1000) := fun i hi => Nat.le_trans (sm2_le hi) (HFe.out 2 (by decide))
  have HSn : Hid (sm2 n (F 2) (n + 1) = (F 2).length) := two_sum (F 2)
  have HB1 := hide hB1
  clear HR1 hR1 hbr hF hnI hB1 HI HX
  obtain ⟨fl, hfl⟩ : ∃ fl : Nat → Nat, ∀ c, fl c = (F c).length := ⟨_, fun _ => rfl⟩
  obtain ⟨fq, hfq⟩ : ∃ fq : Nat → Nat, ∀ i, fq i = (F 2).countP (fun k => qMany [i, n - i] (colD n 2 k)) := ⟨_, fun _ => rfl⟩
  obtain ⟨fs, hfs⟩ : ∃ fs : Nat → Nat, ∀ i, fs i = sm2 n (F 2) i := ⟨_, fun _ => rfl⟩
  simp only [← hfl] at HCn HPt HPo HFe HSn
  simp only [← hfq] at HWt HSs
  simp only [← hfs] at HS0 HSs HSl HSn
  clear hfl hfq hfs
  go_wp2
  go_loopw [8] (fun si wr => ∃ c : Nat, 1 ≤ c ∧ c ≤ 4 ∧ si = .int .i64 (c : Int) ∧ Below w1.heap.size w1 wr) (fun si _ => 4 - (intOf si).toNat)
  case atStart => exact ⟨1, by decide, by decide, rfl, Below.refl _ _⟩
  case round =>
    obtain ⟨c', hc1, hc4, rfl, hbm⟩ := hrel
    by_cases hlt : c' < 4
    · have HC := hide (HCn.out c' wr hc1 (by omega) hbm)
      have HBm := hide hbm
      have hp1 := HPo.out c' hc1
      have hf1 := HFe.out c' (by omega)
      have HP : Hid (∀ W, Below w1.heap.size w1 W → Calls Try.prog 17 #[.int .i64 n, .slice pg gl cg, .int .i64 (c' : Int)] W fun e w' => ∃ p q, e = .returned (.tuple #[.slice p (fl c') q, .int .i64 0]) ∧ Below W.heap.size W w') := fun W hW => HPt.out c' W hc1 (by omega) hW
      generalize fl c' = fc at *
      clear hbm
      go_wp2_with fail
      refine HC.out.mono ?_
      rintro ex w2 ⟨rfl, hb2⟩
      have hB2 := HBm.out.trans (hb2.mono HBm.out.size)
      have HP2 := hide (HP.out w2 hB2)
      have HB2 := hide hB2
      clear hb2 hB2 HP HC
      go_wp2_with fail
      refine HP2.out.mono ?_
      rintro ex w3 ⟨pp, qq, rfl, hb3⟩
      have hB3 := HB2.out.trans (hb3.mono HB2.out.size)
      have g1 : ((fc : Int) != (fc : Int)) = false := by simp
      have g2 : decide ((fc : Int) < 1) = false := decide_eq_false (by omega)
      clear hb3 HP2 HB2 HBm
      go_wp2
      go_roundw
      case rel => exact ⟨c' + 1, by omega, hlt, by go_num, hB3⟩
      case measure => simp [intOf]; omega
    · obtain rfl : c' = 4 := by omega
      have HC := hide (HCn.out 2 wr (by decide) (by decide) hbm)
      have HBm := hide hbm
      have hf2 := HFe.out 2 (by decide)
      have HSn' := HSn
      generalize fl 2 = f2 at *
      clear hbm
      go_wp2_with fail
      refine HC.out.mono ?_
      rintro ex w2 ⟨rfl, hb2⟩
      have HB2 := hide (HBm.out.trans (hb2.mono HBm.out.size))
      clear hb2 HC HBm HCn HPt
      go_wp2
      go_loopw [15, 16] (fun ss si wr => ∃ (i s : Nat), i ≤ n + 1 ∧ ss = .int .i64 (s : Int) ∧ si = .int .i64 (i : Int) ∧ Hid (s = fs i) ∧ Below w1.heap.size w1 wr) (fun _ si _ => n + 1 - (intOf si).toNat)
      case atStart => exact ⟨0, 0, Nat.zero_le _, rfl, rfl, HS0.out.symm, HB2.out⟩
      case round =>
        obtain ⟨i, s, hi, rfl, rfl, hs, hbi⟩ := hrel
        by_cases hin : i ≤ n
        · have HW := hide (HWt.out i wr hin hbi)
          obtain ⟨d, hd⟩ : ∃ d, d = n - i := ⟨_, rfl⟩
          have hdI : (n : Int) - (i : Int) = (d : Int) := by omega
          rw [← hd] at HW
          have HS2 : Hid (s + fq i = fs (i + 1)) := by show _ = _; rw [HSs.out i, hs.out]
          have hsl : s + fq i ≤ 1000 := by rw [HS2.out]; exact HSl.out (i + 1) (by omega)
          generalize fq i = qi at *
          have HBi := hide hbi
          have hleq : decide ((i : Int) ≤ (n : Int)) = true := decide_eq_true (by omega)
          clear hbi hs hd
          go_wp2_with fail
          refine HW.out.mono ?_
          rintro ex w4 ⟨rfl, hb4⟩
          have hB4 := HBi.out.trans (hb4.mono HBi.out.size)
          clear hb4 HW HBi
          go_wp2
          go_roundw
          case rel => exact ⟨i + 1, s + qi, by omega, by go_num, by go_num, HS2, hB4⟩
          case measure => simp [intOf]; omega
        · obtain rfl : i = n + 1 := by omega
          have hsf : s = f2 := by rw [hs.out, HSn.out]
          subst hsf
          have hleq : decide (((n + 1 : Nat) : Int) ≤ (n : Int)) = false := decide_eq_false (by omega)
          have hB4 := HB1.out.trans (hbi.mono HB1.out.size)
          clear hs hbi
          go_wp2
          go_ret
          exact ⟨rfl, hB4⟩

theorem topBurnside_walk (v : Value) (xs : List Int) (a1 a2 : Int) (w : World) (h : Ints w v xs) (hx : ∀ x, x ∈ xs → I64 x) (i1 : I64 a1) (i2 : I64 a2) :
    Calls Try.prog 4 #[v, .int .i64 a1, .int .i64 a2] w fun e w' => e = .returned (.bool true) ∧ Below w.heap.size w w' := by
  by_cases hl : 256 < xs.length
  · exact tburn_long v xs a1 a2 w h hl
  · exact tburn_ok v xs a1 a2 w h hx (by omega) i1 i2

end Go.Proofs.Ytahffpgadoiijaa
