/- Joined: BqI, BqJ, BqK, BqL, BqM, BqN, BqO, BqP, BoU. -/
import Derived.Test.YtffnfchekbafmaaGreatDoorJ10
import Derived.Test.YtffnfchekbafmaaGreatDoorJ9
import Derived.Test.YtffnfchekbafmaaGreatDoorJ6
import Derived.Deep.RegionHeld3
import Derived.Deep.QuietTactic
import Derived.Deep.CutRange
/- Contract: slices.symMergeCmpFunc, whole. -/
namespace Go.Proofs.YtffnfchekbafmaaGreatDoor
open Go.RowKit Go.Lib
set_option maxRecDepth 100000
set_option linter.unusedVariables false

/-- What a call of symMerge answers for parts of at most so many. -/
def SymOk (K : Nat) : Prop := ∀ (B g n c a m b : Nat) (f : TagF Value) (w : World), b - a ≤ K → EnR w B g n c f → (∀ k, k < n → GoodE (f k).1) → Srd kOf f a m → Srd kOf f m b → Plc f a m m b → a < m → m < b → b ≤ n → n ≤ 1000000 →
  Calls Tryz.prog 55 #[.slice (some ⟨g, 0, none⟩) n c, .int .i64 (a : Int), .int .i64 (m : Int), .int .i64 (b : Int), cmpV] w fun e w' => ∃ f', e = .returned (.tuple #[]) ∧ EnR w' B g n c f' ∧ Pw n a b f f' ∧ Srd kOf f' a b ∧ But g w w'

set_option maxHeartbeats 16000000 in
theorem symC_ok (K : Nat) (IH : SymOk K) (B g n c a m b : Nat) (f : TagF Value) (w : World) (hK : b - a ≤ K + 1) (h : EnR w B g n c f) (hG : ∀ k, k < n → GoodE (f k).1) (hL : Srd kOf f a m) (hR : Srd kOf f m b) (hP : Plc f a m m b) (h1 : a + 1 < m) (h3 : m + 1 < b) (h2 : b ≤ n) (hnn : n ≤ 1000000) :
    Calls Tryz.prog 55 #[.slice (some ⟨g, 0, none⟩) n c, .int .i64 (a : Int), .int .i64 (m : Int), .int .i64 (b : Int), cmpV] w fun e w' => ∃ f', e = .returned (.tuple #[]) ∧ EnR w' B g n c f' ∧ Pw n a b f f' ∧ Srd kOf f' a b ∧ But g w w' := by
  obtain ⟨cur, hh, hBg, hn1, hn2⟩ := h.blk
  have HE := hide h
  have HG := hide hG
  have HLL := hide hL
  have HRR := hide hR
  have HPP := hide hP
  have HIH := hide IH
  obtain ⟨mid, hmid⟩ : ∃ mid, mid = (a + b) / 2 := ⟨_, rfl⟩
  obtain ⟨nn, hnnE⟩ : ∃ nn, nn = mid + m := ⟨_, rfl⟩
  obtain ⟨p, hpE⟩ : ∃ p, p = nn - 1 := ⟨_, rfl⟩
  have hma : a < mid := by omega
  have hmb : mid < b := by omega
  have hw1 : IntKind.i64.wrap ((m : Int) - (a : Int)) = (m : Int) - (a : Int) := by rw [IntKind.wrap_i64]; omega
  have hw1e : ((m : Int) - (a : Int) == 1) = false := by rw [beq_eq_false_iff_ne]; omega
  have hw2 : IntKind.i64.wrap ((b : Int) - (m : Int)) = (b : Int) - (m : Int) := by rw [IntKind.wrap_i64]; omega
  have hw2e : ((b : Int) - (m : Int) == 1) = false := by rw [beq_eq_false_iff_ne]; omega
  have hqe : ((a : Int) + (b : Int)) / 2 = (mid : Int) := by omega
  have hw3 : IntKind.i64.wrap ((mid : Int) + (m : Int)) = (nn : Int) := by rw [IntKind.wrap_i64]; omega
  have hw4 : IntKind.i64.wrap ((nn : Int) - 1) = (p : Int) := by rw [IntKind.wrap_i64]; omega
  have hmid1 : 2 * mid ≤ a + b := by omega
  have hmid2 : a + b ≤ 2 * mid + 1 := by omega
  have hnn3 : nn ≤ mid + m := by omega
  have hnn4 : mid + m ≤ nn := by omega
  have hp3 : p + 1 ≤ nn := by omega
  have hp4 : nn ≤ p + 1 := by omega
  clear h hh hG hL hR hP IH hmid hnnE hpE
  unfold cmpV
  go_enter Tryz.func55, Tryz.ntmps55
  go_upto_if 140 with fail
  go_cut [20, 21] from 140 to 146 (fun sv rv wx => ∃ lo hi : Nat, sv = .int .i64 (lo : Int) ∧ rv = .int .i64 (hi : Int) ∧ (a ≤ lo ∧ lo ≤ hi ∧ hi ≤ m ∧ hi ≤ mid) ∧ (lo = a ∨ nn - lo = b) ∧ (hi = m ∨ hi = mid) ∧ nn ≤ b + lo ∧ m + hi ≤ nn ∧ wx = w)
  case first =>
    by_cases hmm : mid < m
    · have hmm1 : (mid : Int) < (m : Int) := by omega
      have hw5 : IntKind.i64.wrap ((nn : Int) - (b : Int)) = ((nn - b : Nat) : Int) := by rw [IntKind.wrap_i64]; omega
      go_wp2_with fail
      go_meet
      exact ⟨nn - b, mid, rfl, rfl, ⟨by omega, by omega, by omega, by omega⟩, by omega, Or.inr rfl, by omega, by omega, rfl⟩
    · have hmm1 : ¬ (mid : Int) < (m : Int) := by omega
      have hmm2 : (m : Int) ≤ (mid : Int) := by omega
      go_wp2_with fail
      go_meet
      exact ⟨a, m, rfl, rfl, ⟨Nat.le_refl _, by omega, Nat.le_refl _, by omega⟩, Or.inl rfl, Or.inl rfl, by omega, by omega, rfl⟩
  case rest =>
    obtain ⟨lo, hi, rfl, rfl, ⟨q1, q2, q3, q4⟩, q5, q6, q7, q8, hwc⟩ := hcut
    have hwc2 := hwc.symm
    clear hwc
    subst hwc2
    have HMON : Hid (∀ x y, lo ≤ x → x ≤ y → y < hi → kOf (f (p - x)).1 < kOf (f x).1 → kOf (f (p - y)).1 < kOf (f y).1) := fun x y hx hxy hy hq => by
      rcases Nat.eq_or_lt_of_le hxy with e | e
      · rw [← e]; exact hq
      · have e1 := (HLL.out x y (by omega) e (by omega)).key_le
        have e2 := (HRR.out (p - y) (p - x) (by omega) (by omega) (by omega)).key_le
        omega
    go_wp2_with fail
    go_loopw [20, 21] (fun iv jv wr => ∃ i j : Nat, lo ≤ i ∧ i ≤ j ∧ j ≤ hi ∧ iv = .int .i64 (i : Int) ∧ jv = .int .i64 (j : Int) ∧ Hid (∀ y, lo ≤ y → y < i → ¬ kOf (f (p - y)).1 < kOf (f y).1) ∧ Hid (∀ y, j ≤ y → y < hi → kOf (f (p - y)).1 < kOf (f y).1) ∧ Hid (EnR wr B g n c f) ∧ Hid (But g w wr)) (fun iv jv _ => (RowKit.intOf jv).toNat - (RowKit.intOf iv).toNat)
    case atStart => exact ⟨lo, hi, Nat.le_refl _, q2, Nat.le_refl _, rfl, rfl, (fun y h1 h2 => absurd h1 (by omega)), (fun y h1 h2 => absurd h1 (by omega)), HE, But.refl _ _⟩
    case round =>
      obtain ⟨i, j, hi1, hij, hj, rfl, rfl, HLO, HHI, HE2, HB2⟩ := hrel
      clear HE hw1 hw1e hw2 hw2e hw3 hw4
      by_cases hlt : i < j
      · have hlt1 : (i : Int) < (j : Int) := by omega
        have hq1 : i ≤ (i + j) / 2 := by omega
        have hq2 : (i + j) / 2 < j := by omega
        have hqe2 : ((i : Int) + (j : Int)) / 2 = (((i + j) / 2 : Nat) : Int) := by omega
        generalize (i + j) / 2 = cc at *
        have hw6 : IntKind.i64.wrap ((p : Int) - (cc : Int)) = ((p - cc : Nat) : Int) := by rw [IntKind.wrap_i64]; omega
        have hpc1 : p - cc < n := by omega
        obtain ⟨pc, hpc⟩ : ∃ pc, p - cc = pc := ⟨_, rfl⟩
        rw [hpc] at hw6 hpc1
        have HPC := hide hpc
        clear hpc
        obtain ⟨cx, fx⟩ := HE2.out.cell (k := pc) (by omega)
        obtain ⟨cy, fy⟩ := HE2.out.cell (k := cc) (by omega)
        go_upto_region 35 with fail
        go_cut [171] from 158 to 171 (fun v wx => ∃ bo : Bool, v = .bool bo ∧ Hid (bo = false → kOf (f pc).1 < kOf (f cc).1) ∧ Hid (bo = true → ¬ kOf (f pc).1 < kOf (f cc).1) ∧ Hid (EnR wx B g n c f) ∧ Hid (But g w wx))
        case first =>
          have hbx : 0 ≤ (pc : Int) ∧ (pc : Int) < (n : Int) := by omega
          have hby : 0 ≤ (cc : Int) ∧ (cc : Int) < (n : Int) := by omega
          have HCM : Hid (∀ W, Calls Tryz.prog 28 #[.iface 75 (f pc).1, .iface 75 (f cc).1] W fun e w' => (∃ z : Int, e = .returned (.int .i64 z) ∧ (z < 0 ↔ kOf (f pc).1 < kOf (f cc).1)) ∧ Below W.heap.size W w') := fun W => cmp_ok _ _ W (HG.out pc (by omega)) (HG.out cc (by omega))
          unfold enE at cx cy
          generalize (f pc).1 = xi at *
          generalize (f cc).1 = yi at *
          refine wp_region_held_drew (S := fun W' => W'.cell? ⟨g, pc, none⟩ = some (.iface 75 xi) ∧ W'.cell? ⟨g, cc, none⟩ = some (.iface 75 yi)) (by kernel_rfl) ⟨cx, cy⟩ (fun hS => ?_)
          refine wpAnyH_take (i := 0) (v := .func (.func 28) #[] #[]) rfl (by kernel_rfl) (by kernel_rfl) (by kernel_rfl) (fun _ _ _ h => h) (Or.inl ⟨by kernel_rfl, fun w' hS' => by clear hS'; go_simp⟩) hS ?_
          refine wpAnyH_take (i := 1) (v := .slice (some ⟨g, 0, none⟩) n c) rfl (by kernel_rfl) (by kernel_rfl) (by kernel_rfl) (fun _ _ _ h => h) (Or.inl ⟨by kernel_rfl, fun w' hS' => by clear hS'; go_simp⟩) hS ?_
          refine wpAnyH_take (i := 2) (v := .int .i64 (p : Int)) rfl (by kernel_rfl) (by kernel_rfl) (by kernel_rfl) (fun _ _ _ h => h) (Or.inl ⟨by kernel_rfl, fun w' hS' => by clear hS'; go_simp⟩) hS ?_
          refine wpAnyH_take (i := 3) (v := .int .i64 (cc : Int)) rfl (by kernel_rfl) (by kernel_rfl) (by kernel_rfl) (fun _ _ _ h => h) (Or.inl ⟨by kernel_rfl, fun w' hS' => by clear hS'; go_simp⟩) hS ?_
          refine wpAnyH_take (i := 4) (v := .int .i64 (pc : Int)) rfl (by kernel_rfl) (by kernel_rfl) (by kernel_rfl) (fun _ _ _ h => h) (Or.inl ⟨by kernel_rfl, fun w' hS' => by clear hS'; go_simp⟩) hS ?_
          refine wpAnyH_take (i := 5) (v := .pointer (some ⟨g, pc, none⟩)) rfl (by kernel_rfl) (by kernel_rfl) (by kernel_rfl) (fun _ _ _ h => h) (Or.inl ⟨by kernel_rfl, fun w' hS' => by clear hS'; go_simp⟩) hS ?_
          refine wpAnyH_take (i := 6) (v := .iface 75 xi) rfl (by kernel_rfl) (by kernel_rfl) (by kernel_rfl) (fun _ _ _ h => h) (Or.inl ⟨by kernel_rfl, fun w' hS' => by have hq := hS'.1; clear hS'; go_simp⟩) hS ?_
          refine wpAnyH_take (i := 7) (v := .slice (some ⟨g, 0, none⟩) n c) rfl (by kernel_rfl) (by kernel_rfl) (by kernel_rfl) (fun _ _ _ h => h) (Or.inl ⟨by kernel_rfl, fun w' hS' => by clear hS'; go_simp⟩) hS ?_
          refine wpAnyH_take (i := 8) (v := .int .i64 (cc : Int)) rfl (by kernel_rfl) (by kernel_rfl) (by kernel_rfl) (fun _ _ _ h => h) (Or.inl ⟨by kernel_rfl, fun w' hS' => by clear hS'; go_simp⟩) hS ?_
          refine wpAnyH_take (i := 9) (v := .pointer (some ⟨g, cc, none⟩)) rfl (by kernel_rfl) (by kernel_rfl) (by kernel_rfl) (fun _ _ _ h => h) (Or.inl ⟨by kernel_rfl, fun w' hS' => by clear hS'; go_simp⟩) hS ?_
          refine wpAnyH_take (i := 10) (v := .iface 75 yi) rfl (by kernel_rfl) (by kernel_rfl) (by kernel_rfl) (fun _ _ _ h => h) (Or.inl ⟨by kernel_rfl, fun w' hS' => by have hq := hS'.2; clear hS'; go_simp⟩) hS ?_
          refine wpAnyH_ready (rs := [11]) (by kernel_rfl) (by simp) ?_
          refine AllReadyH.cons rfl (fun K hK => ?_) AllReadyH.nil
          go_simp
          refine (HCM.out _).mono ?_
          rintro e w4 ⟨⟨z, rfl, hz⟩, hb4⟩
          have hb4' : Below wr.heap.size wr w4 := ((Below.refl wr.heap.size wr).drew).trans hb4
          refine hK.out _ _ ⟨(hb4'.cell (p := ⟨g, pc, none⟩) (World.block_lt_of_cell? _ _ cx)).trans cx, (hb4'.cell (p := ⟨g, cc, none⟩) (World.block_lt_of_cell? _ _ cy)).trans cy⟩ (fun hS => ?_)
          clear hK
          have HEX : Hid (EnR w4 B g n c f) := HE2.out.below hb4'
          have HBX : Hid (But g w w4) := HB2.out.trans (But.of hb4')
          refine wpAnyH_take (i := 12) (v := .bool (decide (z < 0))) rfl (by kernel_rfl) (by kernel_rfl) (by kernel_rfl) (fun _ _ _ h => h) (Or.inl ⟨by kernel_rfl, fun w' hS' => by clear hS'; go_simp⟩) hS ?_
          refine wpAnyH_take (i := 13) (v := .bool (!decide (z < 0))) rfl (by kernel_rfl) (by kernel_rfl) (by kernel_rfl) (fun _ _ _ h => h) (Or.inl ⟨by kernel_rfl, fun w' hS' => by clear hS'; go_simp⟩) hS ?_
          have HR1 : Hid ((!decide (z < 0)) = false → kOf xi < kOf yi) := fun h => hz.1 (by simpa using h)
          have HR2 : Hid ((!decide (z < 0)) = true → ¬ kOf xi < kOf yi) := fun h h7 => by have := hz.2 h7; simp at h; omega
          clear hz
          refine wpAnyH_done (by kernel_rfl) ?_ _
          clear hb4 hb4' hS HE2 HB2
          go_simp
          go_step
          go_meet
          exact ⟨_, rfl, HR1, HR2, HEX, HBX⟩
        case rest =>
          obtain ⟨bo, rfl, HR1, HR2, HE3, HB3⟩ := hcut
          clear HE2 HB2 cx fx cy fy
          generalize wc = W3 at *
          cases bo with
          | true =>
            have HN : Hid (∀ y, lo ≤ y → y < cc + 1 → ¬ kOf (f (p - y)).1 < kOf (f y).1) := fun y h1 h2 h9 => by
              have e1 := HR2.out rfl
              rw [← HPC.out] at e1
              exact e1 (HMON.out y cc h1 (by omega) (by omega) h9)
            clear HR1 HR2 HLO
            go_wp2
            go_roundw
            case rel => exact ⟨cc + 1, j, by omega, by omega, hj, by go_num, rfl, HN, HHI, HE3, HB3⟩
            case measure => simp [RowKit.intOf]; omega
          | false =>
            have HN : Hid (∀ y, cc ≤ y → y < hi → kOf (f (p - y)).1 < kOf (f y).1) := fun y h1 h2 => by
              have e1 := HR1.out rfl
              rw [← HPC.out] at e1
              exact HMON.out cc y (by omega) h1 h2 e1
            clear HR1 HR2 HHI
            go_wp2
            go_roundw
            case rel => exact ⟨i, cc, hi1, hq1, by omega, rfl, rfl, HLO, HN, HE3, HB3⟩
            case measure => simp [RowKit.intOf]; omega
      · obtain rfl : i = j := by omega
        obtain ⟨en, hen⟩ : ∃ en, en = nn - i := ⟨_, rfl⟩
        have hw7 : IntKind.i64.wrap ((nn : Int) - (i : Int)) = (en : Int) := by rw [IntKind.wrap_i64]; omega
        have hCUT := sym_cut (mid := mid) (st := i) (en := en) HLL.out HRR.out HPP.out (by omega) (by omega) (by omega) (by omega) (by omega) (fun h1 h2 => by
          have e := HLO.out (i - 1) (by omega) (by omega)
          rw [show p - (i - 1) = en by omega] at e
          omega) (fun h1 h2 => by
          have e := HHI.out i (Nat.le_refl _) (by omega)
          rw [show p - i = en - 1 by omega] at e
          exact e)
        have HCUT := hide hCUT
        have HPW : Hid (Pw n a b f (rotF f i m en)) := rotF_pw f (by omega) (by omega) (by omega) (by omega) h2
        have z1 : a ≤ i := by omega
        have z2 : i ≤ m := by omega
        have z3 : m ≤ en := by omega
        have z4 : en ≤ b := by omega
        have z5 : i ≤ mid := by omega
        have z6 : mid ≤ en := by omega
        have HG1 : Hid (∀ k, k < n → GoodE (rotF f i m en k).1) := GoodE.come HG.out HPW.out h2
        clear hCUT HLO HHI HMON hen
        go_upto_region 39 with fail
        go_cut [185] from 178 to 185 (fun v wx => ∃ bo : Bool, v = .bool bo ∧ (bo = true ↔ (i < m ∧ m < en)) ∧ wx = wr)
        case first =>
          by_cases d1 : i < m
          · by_cases d2 : m < en
            · have e1 : (i : Int) < (m : Int) := by omega
              have e2 : (m : Int) < (en : Int) := by omega
              have HD : Hid (i < m ∧ m < en) := ⟨d1, d2⟩
              clear d1 d2
              go_wp2_with fail
              go_meet
              exact ⟨true, rfl, ⟨fun _ => HD.out, fun _ => rfl⟩, rfl⟩
            · have e1 : (i : Int) < (m : Int) := by omega
              have e2 : ¬ (m : Int) < (en : Int) := by omega
              have HD : Hid (¬ (i < m ∧ m < en)) := fun h => d2 h.2
              go_wp2_with fail
              go_meet
              exact ⟨false, rfl, ⟨fun h => (by cases h), fun h => absurd h HD.out⟩, rfl⟩
          · have e1 : ¬ (i : Int) < (m : Int) := by omega
            have HD : Hid (¬ (i < m ∧ m < en)) := fun h => d1 h.1
            go_wp2_with fail
            go_meet
            exact ⟨false, rfl, ⟨fun h => (by cases h), fun h => absurd h HD.out⟩, rfl⟩
        case rest =>
          obtain ⟨bo, rfl, hbo, rfl⟩ := hcut
          generalize wc = W1 at *
          go_upto_if 185 with fail
          go_cut [] from 186 to 191 (fun wx => Hid (EnR wx B g n c (rotF f i m en)) ∧ Hid (But g w wx))
          case first =>
            cases bo with
            | true =>
              obtain ⟨d1, d2⟩ := hbo.1 rfl
              have HRT := hide (rotate_ok B g n c i m en f (.func (.func 28) #[] #[]) W1 HE2.out d1 d2 (by omega))
              clear hbo d1 d2
              go_wp2_with fail
              refine HRT.out.mono ?_
              rintro e9 w9 ⟨rfl, h5, h6⟩
              have HF : Hid (EnR w9 B g n c (rotF f i m en)) := h5
              have HF2 : Hid (But g w w9) := HB2.out.trans h6
              clear h5 h6 HRT
              go_wp2_with fail
              go_meet
              exact ⟨HF, HF2⟩
            | false =>
              have HF : Hid (EnR W1 B g n c (rotF f i m en)) := by
                show EnR _ _ _ _ _ _
                have hno : ¬ (i < m ∧ m < en) := fun h => by have := hbo.2 h; cases this
                rw [rotF_none (by omega) z2 z3]
                exact HE2.out
              clear hbo
              go_wp2_with fail
              go_meet
              exact ⟨HF, HB2⟩
          case rest =>
            obtain ⟨HE5, HB5⟩ := hcut
            clear HE2 HB2 hbo
            generalize wc = W2 at *
            go_upto_region 41 with fail
            go_cut [199] from 192 to 199 (fun v wx => ∃ bo : Bool, v = .bool bo ∧ (bo = true ↔ (a < i ∧ i < mid)) ∧ wx = W2)
            case first =>
              by_cases d1 : a < i
              · by_cases d2 : i < mid
                · have e1 : (a : Int) < (i : Int) := by omega
                  have e2 : (i : Int) < (mid : Int) := by omega
                  have HD : Hid (a < i ∧ i < mid) := ⟨d1, d2⟩
                  clear d1 d2
                  go_wp2_with fail
                  go_meet
                  exact ⟨true, rfl, ⟨fun _ => HD.out, fun _ => rfl⟩, rfl⟩
                · have e1 : (a : Int) < (i : Int) := by omega
                  have e2 : ¬ (i : Int) < (mid : Int) := by omega
                  have HD : Hid (¬ (a < i ∧ i < mid)) := fun h => d2 h.2
                  go_wp2_with fail
                  go_meet
                  exact ⟨false, rfl, ⟨fun h => (by cases h), fun h => absurd h HD.out⟩, rfl⟩
              · have e1 : ¬ (a : Int) < (i : Int) := by omega
                have HD : Hid (¬ (a < i ∧ i < mid)) := fun h => d1 h.1
                go_wp2_with fail
                go_meet
                exact ⟨false, rfl, ⟨fun h => (by cases h), fun h => absurd h HD.out⟩, rfl⟩
            case rest =>
              obtain ⟨bo, rfl, hbo, rfl⟩ := hcut
              generalize wc = W2 at *
              go_upto_if 199 with fail
              go_cut [] from 200 to 205 (fun wx => ∃ f2 : TagF Value, Hid (EnR wx B g n c f2) ∧ Hid (Pw n a mid (rotF f i m en) f2) ∧ Hid (Srd kOf f2 a mid) ∧ Hid (But g w wx))
              case first =>
                cases bo with
                | true =>
                  obtain ⟨d1, d2⟩ := hbo.1 rfl
                  have HRC := HIH.out B g n c a i mid (rotF f i m en) W2 (by omega) HE5.out HG1.out HCUT.out.2.1 HCUT.out.2.2.1 HCUT.out.2.2.2.2.2.1 d1 d2 (by omega) hnn
                  unfold cmpV at HRC
                  have HRC := hide HRC
                  clear hbo d1 d2
                  go_wp2_with fail
                  refine HRC.out.mono ?_
                  rintro e9 w9 ⟨f2, rfl, h5, h6, h7, h8⟩
                  have HF1 := hide h5
                  have HF2 := hide h6
                  have HF3 := hide h7
                  have HF4 : Hid (But g w w9) := HB5.out.trans h8
                  clear h5 h6 h7 h8 HRC
                  go_wp2_with fail
                  go_meet
                  exact ⟨f2, HF1, HF2, HF3, HF4⟩
                | false =>
                  have HS : Hid (Srd kOf (rotF f i m en) a mid) := by
                    have hno : ¬ (a < i ∧ i < mid) := fun h => by have := hbo.2 h; cases this
                    exact srd_none (by omega) HCUT.out.2.1 HCUT.out.2.2.1
                  clear hbo
                  go_wp2_with fail
                  go_meet
                  exact ⟨_, HE5, Pw.refl _ _ _ _, HS, HB5⟩
              case rest =>
                obtain ⟨f2, HE6, HPW6, HS6, HB6⟩ := hcut
                clear HE5 HB5 hbo
                generalize wc = W3 at *
                have HG6 : Hid (∀ k, k < n → GoodE (f2 k).1) := GoodE.come HG1.out HPW6.out (by omega)
                have HM1 : Hid (Srd kOf f2 mid en) := HCUT.out.2.2.2.1.kept HPW6.out (Or.inl (Nat.le_refl _))
                have HM2 : Hid (Srd kOf f2 en b) := HCUT.out.2.2.2.2.1.kept HPW6.out (Or.inl z6)
                have HM3 : Hid (Plc f2 mid en en b) := HCUT.out.2.2.2.2.2.2.kept HPW6.out (Or.inl (Nat.le_refl _)) (Or.inl z6)
                have HDN : Hid (∀ f3, Pw n mid b f2 f3 → Srd kOf f3 mid b → Srd kOf f3 a b ∧ Pw n a b f f3) := fun f3 p3 s3 => by
                  obtain ⟨r1, r2⟩ := merge_halves HCUT.out.1 (by omega) (by omega) HPW6.out HS6.out p3 s3
                  exact ⟨r1, HPW.out.trans r2⟩
                go_upto_region 43 with fail
                go_cut [213] from 206 to 213 (fun v wx => ∃ bo : Bool, v = .bool bo ∧ (bo = true ↔ (mid < en ∧ en < b)) ∧ wx = W3)
                case first =>
                  by_cases d1 : mid < en
                  · by_cases d2 : en < b
                    · have e1 : (mid : Int) < (en : Int) := by omega
                      have e2 : (en : Int) < (b : Int) := by omega
                      have HD : Hid (mid < en ∧ en < b) := ⟨d1, d2⟩
                      clear d1 d2
                      go_wp2_with fail
                      go_meet
                      exact ⟨true, rfl, ⟨fun _ => HD.out, fun _ => rfl⟩, rfl⟩
                    · have e1 : (mid : Int) < (en : Int) := by omega
                      have e2 : ¬ (en : Int) < (b : Int) := by omega
                      have HD : Hid (¬ (mid < en ∧ en < b)) := fun h => d2 h.2
                      go_wp2_with fail
                      go_meet
                      exact ⟨false, rfl, ⟨fun h => (by cases h), fun h => absurd h HD.out⟩, rfl⟩
                  · have e1 : ¬ (mid : Int) < (en : Int) := by omega
                    have HD : Hid (¬ (mid < en ∧ en < b)) := fun h => d1 h.1
                    go_wp2_with fail
                    go_meet
                    exact ⟨false, rfl, ⟨fun h => (by cases h), fun h => absurd h HD.out⟩, rfl⟩
                case rest =>
                  obtain ⟨bo, rfl, hbo, rfl⟩ := hcut
                  generalize wc = W3 at *
                  cases bo with
                  | true =>
                    obtain ⟨d1, d2⟩ := hbo.1 rfl
                    have HRC := HIH.out B g n c mid en b f2 W3 (by omega) HE6.out HG6.out HM1.out HM2.out HM3.out d1 d2 h2 hnn
                    unfold cmpV at HRC
                    have HRC := hide HRC
                    clear hbo d1 d2
                    go_wp2_with fail
                    refine HRC.out.mono ?_
                    rintro e9 w9 ⟨f3, rfl, h5, h6, h7, h8⟩
                    obtain ⟨r1, r2⟩ := HDN.out f3 h6 h7
                    have HF1 := hide h5
                    have HF2 := hide r1
                    have HF3 := hide r2
                    have HF4 : Hid (But g w w9) := HB6.out.trans h8
                    clear h5 h6 h7 h8 HRC r1 r2
                    go_wp2_with fail
                    exact bodyPost_end (results_none rfl _ _ _) rfl ⟨f3, rfl, HF1.out, HF3.out, HF2.out, HF4.out⟩
                  | false =>
                    have HS : Hid (Srd kOf f2 mid b) := by
                      have hno : ¬ (mid < en ∧ en < b) := fun h => by have := hbo.2 h; cases this
                      exact srd_none (by omega) HM1.out HM2.out
                    have HFF := hide (HDN.out f2 (Pw.refl _ _ _ _) HS.out)
                    clear hbo
                    go_wp2_with fail
                    exact bodyPost_end (results_none rfl _ _ _) rfl ⟨f2, rfl, HE6.out, HFF.out.2, HFF.out.1, HB6.out⟩

theorem sym_ok : ∀ K, SymOk K
  | 0 => fun B g n c a m b f w hK _ _ _ _ _ h1 h2 _ _ => by omega
  | K + 1 => fun B g n c a m b f w hK h hG hL hR hP h1 h2 h3 h4 => by
    by_cases c1 : m = a + 1
    · subst c1
      exact symA_ok B g n c a b f w h hG hR hP (by omega) h3 h4
    · by_cases c2 : b = m + 1
      · subst c2
        exact symB_ok B g n c a m f w h hG hL hP (by omega) h3 h4
      · exact symC_ok K (sym_ok K) B g n c a m b f w hK h hG hL hR hP (by omega) (by omega) h3 h4

end Go.Proofs.YtffnfchekbafmaaGreatDoor

/- Plain: blocks in order, blocks merged. -/
namespace Go.Proofs.YtffnfchekbafmaaGreatDoor
variable {α : Type}

/-- Each block of so many is in order. -/
def SB (key : α → Int) (bs n : Nat) (f : TagF α) : Prop := ∀ t x y, bs * t ≤ x → x < y → y < bs * t + bs → y < n → LtK key (f x) (f y)

/-- What stands in a block came out of it. -/
def PB (bs n : Nat) (f : TagF α) : Prop := ∀ t k, bs * t ≤ k → k < bs * t + bs → k < n → bs * t ≤ (f k).2 ∧ (f k).2 < bs * t + bs

theorem blk_lt {bs t s : Nat} (h : s < t) : bs * s + bs ≤ bs * t := by
  have := Nat.mul_le_mul_left bs (show s + 1 ≤ t from h)
  rw [Nat.mul_add, Nat.mul_one] at this
  exact this

theorem blk_eq {bs t s k : Nat} (h1 : bs * t ≤ k) (h2 : k < bs * t + bs) (h3 : bs * s ≤ k) (h4 : k < bs * s + bs) : s = t := by
  rcases Nat.lt_trichotomy s t with h | h | h
  · have := blk_lt (bs := bs) h; omega
  · exact h
  · have := blk_lt (bs := bs) h; omega

/-- The first t blocks are done. -/
structure BlkI (key : α → Int) (bs n t : Nat) (f g : TagF α) : Prop where
  done : ∀ s x y, s < t → bs * s ≤ x → x < y → y < bs * s + bs → LtK key (g x) (g y)
  pb : PB bs n g
  rest : ∀ k, bs * t ≤ k → g k = f k
  pw : Pw n 0 n f g

theorem BlkI.start {key : α → Int} {bs n : Nat} {f : TagF α} (h : PB bs n f) : BlkI key bs n 0 f f := ⟨fun s x y hs => absurd hs (by omega), h, fun _ _ => rfl, Pw.refl _ _ _ _⟩

theorem pb_moved {bs n t e : Nat} {g h : TagF α} (hp : PB bs n g) (p : Pw n (bs * t) e g h) (he : e ≤ bs * t + bs) (hn : e ≤ n) : PB bs n h := fun s k k1 k2 k3 => by
  by_cases c : bs * t ≤ k ∧ k < e
  · obtain ⟨j, j1, j2, ej⟩ := p.come k c.1 c.2
    have e1 : s = t := blk_eq (k := k) c.1 (by omega) k1 k2
    rw [ej, e1]
    exact hp t j j1 (by omega) (by omega)
  · rw [p.out k c]; exact hp s k k1 k2 k3

theorem BlkI.step {key : α → Int} {bs n t : Nat} {f g h : TagF α} (b : BlkI key bs n t f g) (p : Pw n (bs * t) (bs * t + bs) g h) (s : Srd key h (bs * t) (bs * t + bs)) (hn : bs * t + bs ≤ n) : BlkI key bs n (t + 1) f h := by
  have e : bs * (t + 1) = bs * t + bs := by rw [Nat.mul_add, Nat.mul_one]
  refine ⟨fun r x y hr hx hxy hy => ?_, pb_moved b.pb p (Nat.le_refl _) hn, fun k hk => ?_, b.pw.trans (p.mono (Nat.zero_le _) hn)⟩
  · rcases Nat.lt_succ_iff_lt_or_eq.1 hr with h1 | h1
    · have := blk_lt (bs := bs) h1
      rw [p.out x (by omega), p.out y (by omega)]
      exact b.done r x y h1 hx hxy hy
    · subst h1; exact s x y hx hxy hy
  · rw [p.out k (by omega)]; exact b.rest k (by omega)

theorem BlkI.last {key : α → Int} {bs n t : Nat} {f g h : TagF α} (b : BlkI key bs n t f g) (p : Pw n (bs * t) n g h) (s : Srd key h (bs * t) n) (hn : n < bs * t + bs) : SB key bs n h ∧ PB bs n h ∧ Pw n 0 n f h := by
  refine ⟨fun r x y hx hxy hy hyn => ?_, pb_moved b.pb p (by omega) (Nat.le_refl _), b.pw.trans (p.mono (Nat.zero_le _) (Nat.le_refl _))⟩
  rcases Nat.lt_trichotomy r t with h1 | h1 | h1
  · have := blk_lt (bs := bs) h1
    rw [p.out x (by omega), p.out y (by omega)]
    exact b.done r x y h1 hx hxy hy
  · subst h1; exact s x y hx hxy hyn
  · have := blk_lt (bs := bs) h1; omega

theorem pb_double {bs n : Nat} {f : TagF α} (h : PB bs n f) : PB (2 * bs) n f := fun t k k1 k2 k3 => by
  have e1 : 2 * bs * t = bs * (2 * t) := by rw [Nat.mul_comm 2 bs, Nat.mul_assoc]
  have e2 : bs * (2 * t + 1) = bs * (2 * t) + bs := by rw [Nat.mul_add, Nat.mul_one]
  rw [e1] at k1 k2 ⊢
  by_cases c : k < bs * (2 * t) + bs
  · have := h (2 * t) k k1 c k3; omega
  · have := h (2 * t + 1) k (by omega) (by omega) k3; omega

/-- Two blocks side by side, ready to be merged. -/
theorem sb_pair {key : α → Int} {bs n t e : Nat} {f g : TagF α} (h : SB key bs n f) (hp : PB bs n f) (hr : ∀ k, 2 * bs * t ≤ k → g k = f k) (he : e ≤ n) (he2 : e ≤ 2 * bs * t + 2 * bs) :
    (∀ m, m ≤ e → m ≤ 2 * bs * t + bs → Srd key g (2 * bs * t) m) ∧ Srd key g (2 * bs * t + bs) e ∧ Plc g (2 * bs * t) (2 * bs * t + bs) (2 * bs * t + bs) e := by
  have e1 : 2 * bs * t = bs * (2 * t) := by rw [Nat.mul_comm 2 bs, Nat.mul_assoc]
  have e2 : bs * (2 * t + 1) = bs * (2 * t) + bs := by rw [Nat.mul_add, Nat.mul_one]
  rw [e1] at hr he2 ⊢
  refine ⟨fun m m1 m2 x y hx hxy hy => ?_, fun x y hx hxy hy => ?_, fun x y hx hx2 hy hy2 => ?_⟩
  · rw [hr x hx, hr y (by omega)]; exact h (2 * t) x y hx hxy (by omega) (by omega)
  · rw [hr x (by omega), hr y (by omega)]; exact h (2 * t + 1) x y (by omega) hxy (by omega) (by omega)
  · rw [hr x hx, hr y (by omega)]
    have a1 := hp (2 * t) x hx hx2 (by omega)
    have a2 := hp (2 * t + 1) y (by omega) (by omega) (by omega)
    omega

theorem pb_self {bs n : Nat} {f : TagF α} (h : ∀ k, k < n → (f k).2 = k) : PB bs n f := fun t k k1 k2 k3 => by rw [h k k3]; exact ⟨k1, k2⟩

end Go.Proofs.YtffnfchekbafmaaGreatDoor

/- Contract: slices.stableCmpFunc. -/
namespace Go.Proofs.YtffnfchekbafmaaGreatDoor
open Go.RowKit Go.Lib
set_option maxRecDepth 100000
set_option linter.unusedVariables false

set_option maxHeartbeats 16000000 in
theorem stable_ok (B g n c : Nat) (f : TagF Value) (w : World) (h : EnR w B g n c f) (hG : ∀ k, k < n → GoodE (f k).1) (hp : ∀ k, k < n → (f k).2 = k) (hnn : n ≤ 1000000) :
    Calls Tryz.prog 39 #[.slice (some ⟨g, 0, none⟩) n c, .int .i64 (n : Int), cmpV] w fun e w' => ∃ f', e = .returned (.tuple #[]) ∧ EnR w' B g n c f' ∧ Pw n 0 n f f' ∧ Srd kOf f' 0 n ∧ But g w w' := by
  obtain ⟨cur, hh, hBg, hn1, hn2⟩ := h.blk
  have HE := hide h
  have HG := hide hG
  have HP := hide hp
  have HB0 : Hid (BlkI kOf 20 n 0 f f) := BlkI.start (pb_self hp)
  clear h hh hG hp
  go_enter Tryz.func39, Tryz.ntmps39
  go_wp2
  go_loopw [7, 8] (fun av bv wr => ∃ (t A : Nat) (f1 : TagF Value), A ≤ n ∧ av = .int .i64 (A : Int) ∧ bv = .int .i64 ((A + 20 : Nat) : Int) ∧ Hid (A = 20 * t) ∧ Hid (EnR wr B g n c f1) ∧ Hid (BlkI kOf 20 n t f f1) ∧ Hid (But g w wr)) (fun av _ _ => n + 1 - (RowKit.intOf av).toNat)
  case atStart => exact ⟨0, 0, f, Nat.zero_le _, rfl, rfl, rfl, HE, HB0, But.refl _ _⟩
  case round =>
    obtain ⟨t, A, f1, hA, rfl, rfl, HA, HE1, HI1, HB1⟩ := hrel
    clear HE HB0
    have HG1 : Hid (∀ k, k < n → GoodE (f1 k).1) := GoodE.come HG.out HI1.out.pw (Nat.le_refl _)
    have HPL : Hid (∀ e, e ≤ n → ∀ x y, A ≤ x → x < y → y < e → (f1 x).2 < (f1 y).2) := fun e he x y hx hxy hy => by
      have hA' := HA.out
      rw [HI1.out.rest x (by omega), HI1.out.rest y (by omega), HP.out x (by omega), HP.out y (by omega)]
      exact hxy
    by_cases hb : A + 20 ≤ n
    · have hb1 : ((A + 20 : Nat) : Int) ≤ (n : Int) := by omega
      have HS := insSort_ok B g n c A (A + 20) f1 wr HE1.out HG1.out (HPL.out _ hb) hA hb hBg hnn
      have HS := hide HS
      have hw1 : IntKind.i64.wrap (((A + 20 : Nat) : Int) + 20) = ((A + 20 + 20 : Nat) : Int) := by rw [IntKind.wrap_i64]; omega
      generalize hAA : A + 20 = A2 at *
      have HAA := hide hAA
      have hm : A < A2 := by omega
      clear hAA
      go_wp2_with fail
      refine HS.out.mono ?_
      rintro e9 w1 ⟨f2, rfl, h5, h6, h7, h8⟩
      have HE2 := hide h5
      have HI2 : Hid (BlkI kOf 20 n (t + 1) f f2) := by
        have hA' := HA.out
        have hA2 := HAA.out
        rw [← hA2, hA'] at h6 h7
        exact HI1.out.step h6 h7 (by omega)
      have HB2 : Hid (But g w w1) := HB1.out.trans h8
      have HA2 : Hid (A2 = 20 * (t + 1)) := by have := HA.out; have := HAA.out; show _ = _; omega
      clear h5 h6 h7 h8 HS HE1 HI1 HB1 HPL
      go_wp2
      go_roundw
      case rel => exact ⟨t + 1, A2, f2, hb, rfl, by go_num, HA2, HE2, HI2, HB2⟩
      case measure => simp [RowKit.intOf]; omega
    · have hb1 : ¬ ((A + 20 : Nat) : Int) ≤ (n : Int) := by omega
      have hb2 : (n : Int) < ((A + 20 : Nat) : Int) := by omega
      have HS := hide (insSort_ok B g n c A n f1 wr HE1.out HG1.out (HPL.out _ (Nat.le_refl _)) hA (Nat.le_refl _) hBg hnn)
      have HLAST : Hid (∀ f2, Pw n A n f1 f2 → Srd kOf f2 A n → SB kOf 20 n f2 ∧ PB 20 n f2 ∧ Pw n 0 n f f2) := fun f2 h6 h7 => by
        have hA' := HA.out
        rw [hA'] at h6 h7
        exact HI1.out.last h6 h7 (by omega)
      generalize A + 20 = A2 at *
      clear HPL
      go_wp2_with fail
      refine HS.out.mono ?_
      rintro e9 w1 ⟨f2, rfl, h5, h6, h7, h8⟩
      have HE2 := hide h5
      have HSB := hide (HLAST.out f2 h6 h7)
      have HB2 : Hid (But g w w1) := HB1.out.trans h8
      clear h5 h6 h7 h8 HS HE1 HI1 HB1 HLAST HA HG1
      go_wp2_with fail
      go_loopw [6] (fun sv wr => ∃ (bs : Nat) (f0 : TagF Value), 1 ≤ bs ∧ bs ≤ 2000000 ∧ sv = .int .i64 (bs : Int) ∧ Hid (SB kOf bs n f0 ∧ PB bs n f0 ∧ Pw n 0 n f f0) ∧ Hid (EnR wr B g n c f0) ∧ Hid (But g w wr)) (fun sv _ => n - (RowKit.intOf sv).toNat)
      case atStart => exact ⟨20, f2, by decide, by decide, rfl, HSB, HE2, HB2⟩
      case round =>
        obtain ⟨bs, f0, hs1, hs2, rfl, HSB, HE3, HB3⟩ := hrel
        clear HE2 HB2
        by_cases hbn : bs < n
        · have hbn1 : (bs : Int) < (n : Int) := by omega
          have hw2 : IntKind.i64.wrap (2 * (bs : Int)) = ((2 * bs : Nat) : Int) := by rw [IntKind.wrap_i64]; omega
          have HB0 : Hid (BlkI kOf (2 * bs) n 0 f0 f0) := BlkI.start (pb_double HSB.out.2.1)
          have HG0 : Hid (∀ k, k < n → GoodE (f0 k).1) := GoodE.come HG.out HSB.out.2.2 (Nat.le_refl _)
          go_wp2_with fail
          go_loopw [7, 8] (fun av bv wr => ∃ (t A : Nat) (f1 : TagF Value), A ≤ n ∧ av = .int .i64 (A : Int) ∧ bv = .int .i64 ((A + 2 * bs : Nat) : Int) ∧ Hid (A = 2 * bs * t) ∧ Hid (EnR wr B g n c f1) ∧ Hid (BlkI kOf (2 * bs) n t f0 f1) ∧ Hid (But g w wr)) (fun av _ _ => n + 1 - (RowKit.intOf av).toNat)
          case atStart => exact ⟨0, 0, f0, Nat.zero_le _, rfl, by simp, rfl, HE3, HB0, HB3⟩
          case round =>
            obtain ⟨t, A, f1, hA, rfl, rfl, HA, HE4, HI4, HB4⟩ := hrel
            clear HB0 HE3 HB3
            have HG4 : Hid (∀ k, k < n → GoodE (f1 k).1) := GoodE.come HG0.out HI4.out.pw (Nat.le_refl _)
            have hw3 : IntKind.i64.wrap ((A : Int) + (bs : Int)) = ((A + bs : Nat) : Int) := by rw [IntKind.wrap_i64]; omega
            have HREST : Hid (∀ k, 2 * bs * t ≤ k → f1 k = f0 k) := HI4.out.rest
            by_cases hb : A + 2 * bs ≤ n
            · have hb1 : ((A + 2 * bs : Nat) : Int) ≤ (n : Int) := by omega
              have hA' := HA.out
              obtain ⟨y1, y2, y3⟩ := sb_pair (e := A + 2 * bs) HSB.out.1 HSB.out.2.1 HREST.out hb (by rw [hA']; exact Nat.le_refl _)
              rw [← hA'] at y1 y2 y3
              have HS := hide (sym_ok (A + 2 * bs - A) B g n c A (A + bs) (A + 2 * bs) f1 wr (Nat.le_refl _) HE4.out HG4.out (y1 (A + bs) (by omega) (Nat.le_refl _)) y2 y3 (by omega) (by omega) hb hnn)
              have hw4 : IntKind.i64.wrap (((A + 2 * bs : Nat) : Int) + ((2 * bs : Nat) : Int)) = ((A + 2 * bs + 2 * bs : Nat) : Int) := by rw [IntKind.wrap_i64]; omega
              have HNX : Hid (∀ f2, Pw n A (A + 2 * bs) f1 f2 → Srd kOf f2 A (A + 2 * bs) → BlkI kOf (2 * bs) n (t + 1) f0 f2) := fun f2 h6 h7 => by
                rw [hA'] at h6 h7
                exact HI4.out.step h6 h7 (by omega)
              have HA2 : Hid (A + 2 * bs = 2 * bs * (t + 1)) := by show _ = _; rw [Nat.mul_add, Nat.mul_one]; omega
              have hlt : A < A + 2 * bs := by omega
              clear y1 y2 y3 hA' HI4 HE4 HG4 HREST
              generalize A + 2 * bs = A2 at *
              generalize A + bs = Am at *
              go_wp2_with fail
              refine HS.out.mono ?_
              rintro e9 w1 ⟨f2, rfl, h5, h6, h7, h8⟩
              have HE5 := hide h5
              have HI5 := hide (HNX.out f2 h6 h7)
              have HB5 : Hid (But g w w1) := HB4.out.trans h8
              clear h5 h6 h7 h8 HS HNX HB4
              go_wp2
              go_roundw
              case rel => exact ⟨t + 1, A2, f2, hb, rfl, by go_num, HA2, HE5, HI5, HB5⟩
              case measure => simp [RowKit.intOf]; omega
            · have hb1 : ¬ ((A + 2 * bs : Nat) : Int) ≤ (n : Int) := by omega
              have hb2 : (n : Int) < ((A + 2 * bs : Nat) : Int) := by omega
              have hA' := HA.out
              obtain ⟨y1, y2, y3⟩ := sb_pair (e := n) HSB.out.1 HSB.out.2.1 HREST.out (Nat.le_refl _) (by rw [← hA']; omega)
              rw [← hA'] at y1 y2 y3
              have hw5 : IntKind.i64.wrap ((bs : Int) * 2) = ((2 * bs : Nat) : Int) := by rw [IntKind.wrap_i64]; omega
              have HLAST : Hid (∀ f2, Pw n A n f1 f2 → Srd kOf f2 A n → SB kOf (2 * bs) n f2 ∧ PB (2 * bs) n f2 ∧ Pw n 0 n f f2) := fun f2 h6 h7 => by
                rw [hA'] at h6 h7
                obtain ⟨r1, r2, r3⟩ := HI4.out.last h6 h7 (by omega)
                exact ⟨r1, r2, HSB.out.2.2.trans r3⟩
              by_cases hmn : A + bs < n
              · have hmn1 : ((A + bs : Nat) : Int) < (n : Int) := by omega
                have HS := hide (sym_ok (n - A) B g n c A (A + bs) n f1 wr (Nat.le_refl _) HE4.out HG4.out (y1 (A + bs) (by omega) (Nat.le_refl _)) y2 y3 (by omega) hmn (Nat.le_refl _) hnn)
                clear y1 y2 y3 hA' HI4 HE4 HG4 HREST HSB
                generalize A + 2 * bs = A2 at *
                generalize A + bs = Am at *
                go_wp2_with fail
                refine HS.out.mono ?_
                rintro e9 w1 ⟨f2, rfl, h5, h6, h7, h8⟩
                have HE5 := hide h5
                have HI5 := hide (HLAST.out f2 h6 h7)
                have HB5 : Hid (But g w w1) := HB4.out.trans h8
                clear h5 h6 h7 h8 HS HLAST HB4
                go_wp2
                go_roundw
                case rel => exact ⟨2 * bs, f2, by omega, by omega, by go_num, HI5, HE5, HB5⟩
                case measure => simp [RowKit.intOf]; omega
              · have hmn1 : ¬ ((A + bs : Nat) : Int) < (n : Int) := by omega
                have hmn2 : (n : Int) ≤ ((A + bs : Nat) : Int) := by omega
                have HI5 := hide (HLAST.out f1 (Pw.refl _ _ _ _) (y1 n (Nat.le_refl _) (by omega)))
                clear y1 y2 y3 hA' HI4 HG4 HREST HSB HLAST
                generalize A + 2 * bs = A2 at *
                generalize A + bs = Am at *
                go_wp2
                go_roundw
                case rel => exact ⟨2 * bs, f1, by omega, by omega, by go_num, HI5, HE4, HB4⟩
                case measure => simp [RowKit.intOf]; omega
        · have hbn1 : ¬ (bs : Int) < (n : Int) := by omega
          have HF : Hid (Srd kOf f0 0 n ∧ Pw n 0 n f f0) := ⟨fun x y hx hxy hy => HSB.out.1 0 x y (by omega) hxy (by omega) hy, HSB.out.2.2⟩
          go_wp2
          exact bodyPost_end (results_none rfl _ _ _) rfl ⟨rfl, f0, HE3.out, HF.out.2, HF.out.1, HB3.out⟩

end Go.Proofs.YtffnfchekbafmaaGreatDoor

/- Contract: slices.SortStableFunc of entries. -/
namespace Go.Proofs.YtffnfchekbafmaaGreatDoor
open Go.RowKit Go.Lib
set_option maxRecDepth 100000
set_option linter.unusedVariables false

set_option maxHeartbeats 4000000 in
theorem sortStable_ok (B g n c : Nat) (f : TagF Value) (w : World) (h : EnR w B g n c f) (hG : ∀ k, k < n → GoodE (f k).1) (hp : ∀ k, k < n → (f k).2 = k) (hnn : n ≤ 1000000) :
    Calls Tryz.prog 27 #[.slice (some ⟨g, 0, none⟩) n c, cmpV] w fun e w' => ∃ f', e = .returned (.tuple #[]) ∧ EnR w' B g n c f' ∧ Pw n 0 n f f' ∧ Srd kOf f' 0 n ∧ But g w w' := by
  have HS := hide (stable_ok B g n c f w h hG hp hnn)
  clear h hG hp
  go_enter Tryz.func27, Tryz.ntmps27
  go_wp2_with fail
  refine HS.out.mono ?_
  rintro e9 w1 ⟨f2, rfl, h5, h6, h7, h8⟩
  have HQ := hide (show EnR w1 B g n c f2 ∧ Pw n 0 n f f2 ∧ Srd kOf f2 0 n ∧ But g w w1 from ⟨h5, h6, h7, h8⟩)
  clear h5 h6 h7 h8 HS
  go_wp2
  exact bodyPost_end (results_none rfl _ _ _) rfl ⟨f2, rfl, HQ.out⟩

end Go.Proofs.YtffnfchekbafmaaGreatDoor

/- Contract: slices.Clone of entries. -/
namespace Go.Proofs.YtffnfchekbafmaaGreatDoor
open Go.RowKit Go.Lib
set_option maxRecDepth 100000
set_option linter.unusedVariables false

set_option maxHeartbeats 4000000 in
theorem cloneE_ok (v : Value) (xs : List Value) (w : World) (h : SlAt w v xs) (h1 : ∀ x ∈ xs, ∃ y, x = .iface 75 y) (hn : xs.length ≤ 1000000) :
    Calls Tryz.prog 26 #[v] w fun e w' => ∃ v', e = .returned v' ∧ w'.ownsRow w.heap.size 39 1 v' xs.length xs ∧ Below w.heap.size w w' := by
  obtain ⟨a, c, rfl, hc1, hc2, hnone, hcell⟩ := h
  obtain ⟨i0, hi, hz0, hz1, hz2⟩ := info_parts Tryz.info39
  have hq : ∀ (w : World) (a : Option Addr) (n c n' c' : Nat), (binOp .eql 34 (.slice a n c) (.slice none n' c')).run Tryz.prog w = .ok (.bool a.isNone) w := fun w a n c n' c' => Lib.run_eql_slice_nil w _ _ a n c n' c' Tryz.underlying34
  cases a with
  | none =>
    obtain ⟨e0, e1⟩ := hnone rfl
    obtain rfl : xs = [] := List.eq_nil_of_length_eq_zero e0
    subst e1
    clear hcell hnone
    go_enter Tryz.func26, Tryz.ntmps26
    go_wp2
    go_ret
    exact ⟨_, rfl, ⟨rfl, Or.inl ⟨rfl, rfl⟩⟩, Below.refl _ _⟩
  | some ad =>
    have HC : Hid (∀ (o : Obj) (j : Nat) (u : Value), xs[j]? = some u → (w.alloc o).cell? (ad.add j) = some u) := fun o j u hj => by
      have hjl := (List.getElem?_eq_some_iff.1 hj).1
      rcases hcell with h0 | ⟨g, o', e, hg, hc⟩
      · omega
      · obtain rfl := Option.some.inj e
        rw [Addr.add_lit]
        exact Lib.cell?_alloc_some _ (hc j u hj)
    have HX := hide h1
    clear hcell hnone h1
    go_enter Tryz.func26, Tryz.ntmps26
    go_wp2_with (at_builtin; refine wpList_append_own _ rfl _ _ 34 rfl w.heap.size 39 i0 .nilIface 1 16 Tryz.underlying34 hi hz0 hz1 hz2 rfl (by decide) _ _ _ rfl (World.ownsRow_made w #[] 0 (Nat.le_refl _) (Nat.zero_le _) rfl) ad xs.length c xs rfl ?qc1 ?qc2 ?qc3 ?qc4 ?qc5 ?qc6 ?_)
    case qc1 => omega
    case qc2 => intro j u hj; exact HC.out _ j u hj
    case qc3 => intro u hu; obtain ⟨x, rfl⟩ := HX.out u hu; rfl
    case qc4 => unfold maxLen; omega
    case qc5 => omega
    case qc6 => simp
    intro v' w1 hown hgrow hnil
    have hb : Below w.heap.size w w1 := ((Below.refl _ w).alloc (Nat.le_refl _) _).grown hgrow (by simp) (by intro k hk; simp [Value.ownBlock] at hk; omega)
    go_wp2
    go_ret
    exact ⟨v', rfl, by simpa using hown, hb⟩

end Go.Proofs.YtffnfchekbafmaaGreatDoor

/- Contract: slices.SortStableFunc of no entries at all. -/
namespace Go.Proofs.YtffnfchekbafmaaGreatDoor
open Go.RowKit Go.Lib
set_option maxRecDepth 100000
set_option linter.unusedVariables false

set_option maxHeartbeats 4000000 in
theorem insNil_ok (w : World) :
    Calls Tryz.prog 54 #[.slice none 0 0, .int .i64 0, .int .i64 0, cmpV] w fun e w' => e = .returned (.tuple #[]) ∧ w' = w := by
  unfold cmpV
  go_enter Tryz.func54, Tryz.ntmps54
  go_wp2
  go_loopw [8] (fun iv wr => iv = .int .i64 1 ∧ wr = w) (fun _ _ => 0)
  case atStart => exact ⟨by go_num, rfl⟩
  case round =>
    obtain ⟨rfl, rfl⟩ := hrel
    go_wp2
    exact bodyPost_end (results_none rfl _ _ _) rfl ⟨rfl, rfl⟩

set_option maxHeartbeats 4000000 in
theorem stableNil_ok (w : World) :
    Calls Tryz.prog 39 #[.slice none 0 0, .int .i64 0, cmpV] w fun e w' => e = .returned (.tuple #[]) ∧ w' = w := by
  go_enter Tryz.func39, Tryz.ntmps39
  go_wp2
  go_loopw [7, 8] (fun av bv wr => av = .int .i64 0 ∧ bv = .int .i64 20 ∧ wr = w) (fun _ _ _ => 0)
  case atStart => exact ⟨rfl, rfl, rfl⟩
  case round =>
    obtain ⟨rfl, rfl, rfl⟩ := hrel
    have HS := hide (insNil_ok wr)
    go_wp2_with fail
    refine HS.out.mono ?_
    rintro e9 w1 ⟨rfl, rfl⟩
    clear HS
    go_wp2_with fail
    go_loopw [6] (fun sv wr => sv = .int .i64 20 ∧ wr = w1) (fun _ _ => 0)
    case atStart => exact ⟨rfl, rfl⟩
    case round =>
      obtain ⟨rfl, rfl⟩ := hrel
      go_wp2
      exact bodyPost_end (results_none rfl _ _ _) rfl ⟨rfl, rfl⟩

set_option maxHeartbeats 4000000 in
theorem sortNil_ok (w : World) :
    Calls Tryz.prog 27 #[.slice none 0 0, cmpV] w fun e w' => e = .returned (.tuple #[]) ∧ w' = w := by
  have HS := hide (stableNil_ok w)
  go_enter Tryz.func27, Tryz.ntmps27
  go_wp2_with fail
  refine HS.out.mono ?_
  rintro e9 w1 ⟨rfl, rfl⟩
  go_wp2
  exact bodyPost_end (results_none rfl _ _ _) rfl ⟨rfl, rfl⟩

end Go.Proofs.YtffnfchekbafmaaGreatDoor

/- Contract: (*Book).byDay: the entries, stably by their days. -/
namespace Go.Proofs.YtffnfchekbafmaaGreatDoor
open Go.RowKit Go.Lib
set_option maxRecDepth 100000
set_option linter.unusedVariables false

/-- What an entry holds. -/
def innE : Value → Value
  | .iface _ x => x
  | v => v

/-- Entries, each with its place. -/
def tagE (xs : List Value) : TagF Value := fun k => (innE (xs.getD k .nilIface), k)

theorem Ent.form {w : World} {x : Value} {T : List UInt8} (h : Ent w x T) : ∃ y, x = .iface 75 y ∧ GoodE y := by
  obtain ⟨d, c, m, ring, v, _, h2, h3, _⟩ := h
  obtain ⟨g, o, cap, cur, fr, e, _⟩ := h3
  subst e
  exact ⟨_, h2, _, _, _, _, _, _, rfl⟩

theorem Ents.form {w : World} {xs : List Value} {A : List (List UInt8)} (h : Ents w xs A) {k : Nat} (hk : k < xs.length) : ∃ y, xs[k]? = some (.iface 75 y) ∧ GoodE y := by
  have hk2 : k < A.length := by rw [← h.1]; exact hk
  obtain ⟨y, e, hy⟩ := (h.2 k _ _ (List.getElem?_eq_getElem hk) (List.getElem?_eq_getElem hk2)).form
  exact ⟨y, by rw [List.getElem?_eq_getElem hk, e], hy⟩

theorem tagE_get {xs : List Value} {k : Nat} {y : Value} (h : xs[k]? = some (.iface 75 y)) : tagE xs k = (y, k) := by
  unfold tagE
  rw [List.getD_eq_getElem?_getD, h]
  rfl

theorem tagE_good {w : World} {xs : List Value} {A : List (List UInt8)} (h : Ents w xs A) : ∀ k, k < xs.length → GoodE (tagE xs k).1 := fun k hk => by
  obtain ⟨y, e, hy⟩ := h.form hk
  rw [tagE_get e]
  exact hy

theorem tagE_vls {w : World} {xs : List Value} {A : List (List UInt8)} (h : Ents w xs A) : vls xs.length (tagE xs) = xs := by
  apply List.ext_getElem?
  intro k
  by_cases hk : k < xs.length
  · obtain ⟨y, e, hy⟩ := h.form hk
    rw [vls_get hk, tagE_get e, e]
  · rw [List.getElem?_eq_none (by rw [vls_length]; omega), List.getElem?_eq_none (by omega)]

set_option maxHeartbeats 4000000 in
theorem byDay_ok (p : Nat) (u : Value) (xs : List Value) (A : List (List UInt8)) (w : World) (hp : w.heap[p]? = some (.cells #[u] 36)) (hS : SlAt w u xs) (hE : Ents w xs A) (hn : xs.length ≤ 1000000) :
    Calls Tryz.prog 15 #[.pointer (some ⟨p, 0, none⟩)] w fun e w' => ∃ (v' : Value) (f' : TagF Value), e = .returned v' ∧ w'.ownsRow w.heap.size 39 1 v' xs.length (vls xs.length f') ∧ Pw xs.length 0 xs.length (tagE xs) f' ∧ Srd kOf f' 0 xs.length ∧ Below w.heap.size w w' := by
  have c0 : w.cell? ⟨p, 0, none⟩ = some u := by rw [World.cell?, hp]; rfl
  have HS := hide (cloneE_ok u xs w hS (fun x hx => by
    obtain ⟨k, hk, e⟩ := List.getElem_of_mem hx
    obtain ⟨y, e2, _⟩ := hE.form hk
    rw [List.getElem?_eq_getElem hk, e] at e2
    exact ⟨y, Option.some.inj e2⟩) hn)
  have HV := hide (tagE_vls hE)
  have HG := hide (tagE_good hE)
  clear hS hE
  go_enter Tryz.func15, Tryz.ntmps15
  go_wp2_with fail
  refine HS.out.mono ?_
  rintro e9 w1 ⟨v', rfl, hO, hB⟩
  clear HS c0
  have HB := hide hB
  clear hB
  rcases hO.2 with ⟨rfl, h0⟩ | ⟨g, c, cur, rfl, hg, hh, h1, h2, h3, h4⟩
  · have HS2 := hide (sortNil_ok w1)
    clear hO
    go_wp2_with fail
    refine HS2.out.mono ?_
    rintro e8 w2 ⟨rfl, rfl⟩
    clear HS2
    go_wp2
    go_ret
    exact ⟨_, tagE xs, rfl, ⟨by rw [vls_length, Nat.mul_one], Or.inl ⟨rfl, h0⟩⟩, Pw.refl _ _ _ _, fun i j hi hij hj => absurd hj (by omega), HB.out⟩
  · have HE1 : Hid (EnR w1 w.heap.size g xs.length c (tagE xs)) := by
      show w1.ownsRow w.heap.size 39 1 (.slice (some ⟨g, 0, none⟩) xs.length c) xs.length (vls xs.length (tagE xs))
      rw [HV.out]; exact hO
    have HS2 := hide (sortStable_ok w.heap.size g xs.length c (tagE xs) w1 HE1.out HG.out (fun k _ => rfl) hn)
    clear hO hh h1 h2 h3 h4 HE1
    go_wp2_with fail
    refine HS2.out.mono ?_
    rintro e8 w2 ⟨f', rfl, h5, h6, h7, h8⟩
    have HQ := hide (show w2.ownsRow w.heap.size 39 1 (.slice (some ⟨g, 0, none⟩) xs.length c) xs.length (vls xs.length f') ∧ Pw xs.length 0 xs.length (tagE xs) f' ∧ Srd kOf f' 0 xs.length ∧ Below w.heap.size w w2 from ⟨h5, h6, h7, HB.out.trans (h8.below hg HB.out.size)⟩)
    clear HS2 h5 h6 h7 h8
    go_wp2
    go_ret
    exact ⟨_, f', rfl, HQ.out⟩

end Go.Proofs.YtffnfchekbafmaaGreatDoor

/- Contract: records: the records of the entries. -/
namespace Go.Proofs.YtffnfchekbafmaaGreatDoor
open Go.RowKit Go.Lib
set_option maxRecDepth 100000
set_option linter.unusedVariables false

theorem Tryz.info44 : (Tryz.prog.info? 44).map (fun i => (i.zero, i.size, i.bytes)) = some (some (.agg #[.int .i64 0, .int .i64 0, .string ByteArray.empty, .slice none 0 0]), 4, 56) := by kernel_rfl

/-- The cells of a record that may be, with its text. -/
def Rc1 (w : World) (q : List Value) (T : List UInt8) : Prop := ∃ (d c : Nat) (m : ByteArray) (ring : List ByteArray) (v : Value), MayR (d : Int) (c : Int) m ring ∧ q = [.int .i64 (d : Int), .int .i64 (c : Int), .string m, v] ∧ RgS w v ring ∧ T = (txB d c m ring).data.toList

theorem Rc1.keep {w w' : World} {q : List Value} {T : List UInt8} (h : Rc1 w q T) (k : StrK w w') : Rc1 w' q T := by
  obtain ⟨d, c, m, ring, v, h1, h2, h3, h4⟩ := h
  exact ⟨d, c, m, ring, v, h1, h2, h3.keep k, h4⟩

/-- Records in a row. -/
def Rcs (w : World) (qs : List (List Value)) (Ts : List (List UInt8)) : Prop := qs.length = Ts.length ∧ ∀ (j : Nat) (q : List Value) (T : List UInt8), qs[j]? = some q → Ts[j]? = some T → Rc1 w q T

theorem Rcs.keep {w w' : World} {qs : List (List Value)} {Ts : List (List UInt8)} (h : Rcs w qs Ts) (k : StrK w w') : Rcs w' qs Ts := ⟨h.1, fun j x T h1 h2 => (h.2 j x T h1 h2).keep k⟩

theorem Rcs.snoc {w : World} {qs : List (List Value)} {Ts : List (List UInt8)} {q : List Value} {T : List UInt8} (h : Rcs w qs Ts) (hx : Rc1 w q T) : Rcs w (qs ++ [q]) (Ts ++ [T]) := by
  refine ⟨by rw [List.length_append, List.length_append, h.1]; rfl, fun j y S h1 h2 => ?_⟩
  by_cases hj : j < qs.length
  · rw [List.getElem?_append_left hj] at h1
    rw [List.getElem?_append_left (by rw [← h.1]; exact hj)] at h2
    exact h.2 j y S h1 h2
  · rw [List.getElem?_append_right (by omega)] at h1
    rw [List.getElem?_append_right (by rw [← h.1]; omega), ← h.1] at h2
    obtain ⟨k, hk⟩ : ∃ k, k = j - qs.length := ⟨_, rfl⟩
    rw [← hk] at h1 h2
    cases k with
    | zero => simp at h1 h2; subst h1; subst h2; exact hx
    | succ k => simp at h1

theorem fr4 {w w' : World} {base e n : Nat} {v : Value} {xs : List Value} (h : w.ownsRow base e 4 v n xs) (hb : ∀ g, v.ownBlock = some g → w'.heap[g]? = w.heap[g]?) : w'.ownsRow base e 4 v n xs := by
  obtain ⟨h1, h2⟩ := h
  refine ⟨h1, ?_⟩
  rcases h2 with h2 | ⟨g, cap, cur, hv, hg, hh, r⟩
  · exact Or.inl h2
  · exact Or.inr ⟨g, cap, cur, hv, hg, (hb g (by rw [hv]; rfl)).trans hh, r⟩

theorem form4 {w : World} {base e n : Nat} {v : Value} {xs : List Value} (h : w.ownsRow base e 4 v n xs) : ∃ p c, v = .slice p n c := by
  rcases h.2 with ⟨e, e2⟩ | ⟨g, c, cur, e, _⟩
  · exact ⟨_, _, by rw [e, e2]⟩
  · exact ⟨_, _, e⟩

theorem StrK.grown4 {w w' : World} {base n : Nat} {u : Value} {xs : List Value} (h : w.ownsRow base 44 4 u n xs) (hg : w.grownBy w' u.ownBlock) : StrK w w' := fun b cur fr e => by
  have hb := (Array.getElem?_eq_some_iff.1 e).1
  refine (hg.block b hb (fun hk => ?_)).trans e
  rcases h.2 with ⟨rfl, _⟩ | ⟨g, c, cur2, rfl, _, hh, _⟩
  · cases hk
  · simp only [Value.ownBlock, Option.some.injEq] at hk
    subst hk
    rw [hh] at e
    injection e with e
    injection e with _ e2 _
    exact absurd e2 (by decide)

set_option maxHeartbeats 4000000 in
theorem records_ok (v : Value) (xs : List Value) (Ts : List (List UInt8)) (w : World) (hs : SlAt w v xs) (hE : Ents w xs Ts) (hl : xs.length ≤ 1000) :
    Calls Tryz.prog 14 #[v] w fun e w' => ∃ (u : Value) (qs : List (List Value)), e = .returned u ∧ w'.ownsRow w.heap.size 44 4 u xs.length qs.flatten ∧ Rcs w' qs Ts ∧ Below w.heap.size w w' := by
  obtain ⟨i0, hi, hz0, hz1, hz2⟩ := info_parts Tryz.info44
  have HTl : Hid (Ts.take xs.length = Ts) := List.take_of_length_le (by rw [hE.1]; exact Nat.le_refl _)
  obtain ⟨a, cap, rfl, h1, h2, h3, h4⟩ := hs
  have HST : Hid (∀ k, k < xs.length → ∃ (d c : Nat) (m : ByteArray) (ring : List ByteArray) (g9 o9 n9 cap9 : Nat) (g o : Nat), a = some ⟨g, o, none⟩ ∧ g < w.heap.size ∧ w.cell? ⟨g, o + k, none⟩ = some (.iface 75 (.agg #[.int .i64 (d : Int), .int .i64 (c : Int), .string m, .slice (some ⟨g9, o9, none⟩) n9 cap9])) ∧ MayR (d : Int) (c : Int) m ring ∧ RgS w (.slice (some ⟨g9, o9, none⟩) n9 cap9) ring ∧ Ts.take (k + 1) = Ts.take k ++ [(txB d c m ring).data.toList]) := fun k hk => by
    obtain ⟨T, hT⟩ : ∃ T, Ts[k]? = some T := ⟨_, List.getElem?_eq_getElem (by rw [← hE.1]; exact hk)⟩
    obtain ⟨x, hx⟩ : ∃ x, xs[k]? = some x := ⟨_, List.getElem?_eq_getElem hk⟩
    obtain ⟨d, c, m, ring, rv, e1, rfl, e3, rfl⟩ := hE.2 k x T hx hT
    obtain ⟨g9, o9, cap9, cur9, fr9, rfl, -⟩ := e3.mem
    rcases h4 with h0 | ⟨g, o, ea, hg, hc⟩
    · omega
    · exact ⟨d, c, m, ring, g9, o9, _, cap9, g, o, ea, hg, hc k _ hx, e1, e3, by rw [List.take_add_one, hT]; rfl⟩
  generalize hL : xs.length = L at *
  have hL9 : L ≤ 1000 := hl
  clear hL hE h4 h3
  go_enter Tryz.func14, Tryz.ntmps14
  go_wp2
  go_loopw [3, 8] (fun tv iv wr => ∃ (k : Nat) (ua : Option Addr) (uc : Nat) (qs : List (List Value)), k ≤ L ∧ tv = .slice ua k uc ∧ iv = .int .i64 (k : Int) ∧ Hid (wr.ownsRow w.heap.size 44 4 (.slice ua k uc) k qs.flatten) ∧ Hid (Rcs wr qs (Ts.take k)) ∧ Hid (Below w.heap.size w wr)) (fun _ iv _ => L - (RowKit.intOf iv).toNat)
  case atStart => exact ⟨0, none, 0, [], Nat.zero_le _, rfl, rfl, World.ownsRow_nil _ _ _ _, ⟨rfl, fun j q T h _ => by simp at h⟩, Below.refl _ _⟩
  case round =>
    obtain ⟨k, ua, uc, qs, hk, rfl, rfl, HO, HR, HB⟩ := hrel
    by_cases hlt : k < L
    · have hi1 : (k : Int) < (L : Int) := by omega
      obtain ⟨d, c, m, ring, g9, o9, n9, cap9, g, o, rfl, hg, hcell, hM, hRg, hsn⟩ := HST.out k hlt
      have hc1 : wr.cell? ⟨g, o + k, none⟩ = some (.iface 75 (.agg #[.int .i64 (d : Int), .int .i64 (c : Int), .string m, .slice (some ⟨g9, o9, none⟩) n9 cap9])) := (HB.out.cell (p := ⟨g, o + k, none⟩) hg).trans hcell
      have HRC := hide (record_ok (d : Int) (c : Int) m (.slice (some ⟨g9, o9, none⟩) n9 cap9) ring wr (hRg.keep (StrK.of HB.out)).rg hM.some (by have := hM.few; omega))
      have HM := hide hM
      have HSN := hide hsn
      clear hsn hM hRg hcell HST
      go_wp2_with fail
      refine HRC.out.mono ?_
      rintro e W1 ⟨v', rfl, hr, hb1⟩
      have HRV := hide hr
      have HO1 : Hid (W1.ownsRow w.heap.size 44 4 (.slice ua k uc) k qs.flatten) := fr4 HO.out (fun g hg => hb1.block g (HO.out.lt g hg).2)
      have HB1 : Hid (Below w.heap.size w W1) := HB.out.trans (hb1.mono HB.out.size)
      have HR1 : Hid (Rcs W1 qs (Ts.take k)) := HR.out.keep (StrK.of hb1)
      have HZ := hide HB1.out.size
      obtain ⟨g8, o8, cap8, cur8, fr8, ev8, -⟩ := hr.mem
      subst ev8
      clear hb1 HRC hr HO HB HR
      go_wp2_with (at_builtin; refine wpList_append_own _ rfl _ _ 26 rfl w.heap.size 44 i0 (.agg #[.int .i64 0, .int .i64 0, .string ByteArray.empty, .slice none 0 0]) 4 56 Tryz.underlying26 hi hz0 hz1 hz2 rfl (by decide) _ _ _ rfl (HO1.out.alloc _) ⟨W1.heap.size, 0, none⟩ 1 1 [.int .i64 (d : Int), .int .i64 (c : Int), .string m, .slice (some ⟨g8, o8, none⟩) ring.length cap8] rfl rfl ?c1 ?c2 ?c3 ?c4 ?c5 ?_)
      case c1 =>
        intro j u hj
        rw [Addr.add_lit, Nat.zero_add]
        simp only [World.cell?, heap_alloc_new W1 (.cells #[.int .i64 (d : Int), .int .i64 (c : Int), .string m, .slice (some ⟨g8, o8, none⟩) ring.length cap8] 44)]
        simpa using hj
      case c2 => intro u hu; simp at hu; rcases hu with rfl | rfl | rfl | rfl <;> rfl
      case c3 => unfold maxLen; omega
      case c4 => omega
      case c5 => have := HZ.out; simp; omega
      intro u' w2 h4 hg4 _
      have hg14 : W1.grownBy w2 (Value.slice ua k uc).ownBlock := (World.grownBy_alloc W1 _ _).trans hg4
      have HSK : Hid (StrK W1 w2) := StrK.grown4 HO1.out hg14
      have HB2 : Hid (Below w.heap.size w w2) := HB1.out.grown hg14 HZ.out (fun k hk => (HO1.out.lt k hk).1)
      have HR2 : Hid (Rcs w2 (qs ++ [[.int .i64 (d : Int), .int .i64 (c : Int), .string m, .slice (some ⟨g8, o8, none⟩) ring.length cap8]]) (Ts.take (k + 1))) := by
        show Rcs _ _ _
        rw [HSN.out]
        exact (HR1.out.keep HSK.out).snoc ⟨d, c, m, ring, _, HM.out, rfl, HRV.out.keep HSK.out, rfl⟩
      obtain ⟨va, vc, ev⟩ := form4 h4
      subst ev
      have HF : Hid (w2.ownsRow w.heap.size 44 4 (.slice va (k + 1) vc) (k + 1) (qs ++ [[Value.int .i64 (d : Int), Value.int .i64 (c : Int), Value.string m, Value.slice (some ⟨g8, o8, none⟩) ring.length cap8]]).flatten) := by
        show World.ownsRow _ _ _ _ _ _ _
        rw [List.flatten_append]
        simpa using h4
      clear h4 hg4 hg14 HSK HR1 HO1
      go_wp2
      go_roundw
      case rel => exact ⟨k + 1, va, vc, _, by omega, rfl, by go_num, HF, HR2, HB2⟩
      case measure => simp [RowKit.intOf]; omega
    · have hi1 : decide ((k : Int) < (L : Int)) = false := decide_eq_false (by omega)
      obtain rfl : k = L := by omega
      have HR2 : Hid (Rcs wr qs Ts) := by have := HR.out; rwa [HTl.out] at this
      go_wp2
      go_ret
      exact ⟨_, qs, rfl, HO.out, HR2.out, HB.out⟩

end Go.Proofs.YtffnfchekbafmaaGreatDoor

/- Contract: the answer's RecordOf. -/
namespace Go.Proofs.YtffnfchekbafmaaGreatDoor
open Go.RowKit Go.Lib
set_option maxRecDepth 100000
set_option linter.unusedVariables false

def nmAda : ByteArray := ⟨#[65, 100, 97]⟩
def nmBo : ByteArray := ⟨#[66, 111]⟩
def nmCy : ByteArray := ⟨#[67, 121, 32, 195, 150, 122]⟩
def nmDee : ByteArray := ⟨#[68, 101, 101]⟩
def nmE7 : ByteArray := ⟨#[69, 55]⟩
def nmPB : ByteArray := ⟨#[80, 108, 97, 105, 110, 32, 66, 111, 98]⟩

def NM5 : List ByteArray := [nmAda, nmBo, nmCy, nmDee, nmE7]

theorem NM5_names : ∀ x, x ∈ NM5 → nm x = true := by
  intro x hx
  simp only [NM5, List.mem_cons, List.not_mem_nil, or_false] at hx
  rcases hx with rfl | rfl | rfl | rfl | rfl <;> kernel_rfl

theorem nmPB_name : nm nmPB = true := by kernel_rfl

theorem NM5_nodup : NM5.Nodup := by decide

theorem Tryz.info9 : (Tryz.prog.info? 9).map (fun i => (i.zero, i.size, i.bytes)) = some (some (.string ByteArray.empty), 1, 16) := infoStrB

theorem rgS_own {w : World} {base : Nat} {v : Value} {ring : List ByteArray} (h : w.ownsRow base 9 1 v ring.length (ring.map Value.string)) (h1 : 1 ≤ ring.length) : RgS w v ring := by
  rcases h.2 with ⟨_, h0⟩ | ⟨g, cap, cur, rfl, hg, hh, hn1, hn2, hn3, hn4⟩
  · omega
  · refine ⟨g, 0, cap, cur, _, rfl, hh, hn1, by unfold maxLen at hn2; omega, fun j x hj => ?_⟩
    have hjl : j < ring.length := (List.getElem?_eq_some_iff.1 hj).1
    have h5 : (ring.map Value.string)[j]? = some (.string x) := by rw [List.getElem?_map, hj]; rfl
    rw [← hn4, List.getElem?_take, if_pos (by omega), Array.getElem?_toList] at h5
    rw [Nat.zero_add]
    exact h5

/-- What the loop of RecordOf knows. -/
structure RcR (d c : Int) (B b : Nat) (w wr : World) (k : Nat) (ring : List ByteArray) (ua : Option Addr) (uc : Nat) : Prop where
  res : wr.heap[B]? = some (.cells #[.int .i64 0, .int .i64 0, .string ⟨#[]⟩, .slice none 0 0] 44)
  nms : wr.heap[B + 1]? = some (.cells #[.string nmAda, .string nmBo, .string nmCy, .string nmDee, .string nmE7] 9)
  rcd : wr.heap[b]? = some (.cells #[.int .i64 d, .int .i64 c, .string nmPB, .slice ua ring.length uc] 44)
  own : wr.ownsRow (B + 3) 9 1 (.slice ua ring.length uc) ring.length (ring.map Value.string)
  sub : ring.Sublist (NM5.take k)
  some : k = 5 → 1 ≤ ring.length
  below : Below B w wr

end Go.Proofs.YtffnfchekbafmaaGreatDoor
