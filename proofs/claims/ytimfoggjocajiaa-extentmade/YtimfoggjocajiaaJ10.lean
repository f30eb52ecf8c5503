/- Joined: SbU, GensM, RoA, RoB, GNormQ, AppW, GrA, ExA, GrB, GrC, CoA, XtB. -/
import Derived.Test.YtimfoggjocajiaaJ9
import Derived.Test.YtimfoggjocajiaaJ7
import Derived.BigQuiet
import Derived.Test.YtimfoggjocajiaaJ4
import Derived.Test.YtimfoggjocajiaaJ8
import Derived.Deep.QuietTactic
import Derived.Test.YtimfoggjocajiaaJ0
import Derived.Deep.CutBlock
import Derived.Test.YtimfoggjocajiaaJ1
/- Contract: the answer's Ordered. -/
namespace Go.Proofs.Ytimfoggjocajiaa
open Go.RowKit
set_option maxRecDepth 20000
set_option linter.unusedVariables false

theorem Vals.dropK {w : World} {b o c m k : Nat} {vs : List Value} (h : Vals w (.slice (some ⟨b, o, none⟩) m c) vs) (hk : k < m) : Vals w (.slice (some ⟨b, o + k, none⟩) (m - k) (c - k)) (vs.drop k) := by
  rcases h with ⟨rfl, p', c', e⟩ | ⟨b', off, cap, e, h0, h1, h2, h3, hc⟩
  · simp at e; omega
  · simp only [Value.slice.injEq, Option.some.injEq, Addr.mk.injEq, and_true] at e
    obtain ⟨⟨rfl, rfl⟩, rfl, rfl⟩ := e
    refine Or.inr ⟨b, o + k, c - k, by rw [List.length_drop], by rw [List.length_drop]; omega, by rw [List.length_drop]; omega, by omega, h3, fun j hj => ?_⟩
    rw [List.length_drop] at hj
    rw [show o + k + j = o + (k + j) from by omega, hc (k + j) (by omega)]
    simp [List.getD]

def OrdPost (P : List (Value × List Int)) (w : World) (e : Ending) (w' : World) : Prop :=
  ∃ (u : Value) (P' : List (Value × List Int)), e = .returned u ∧ Vals w' u (P'.map Prod.fst) ∧ P'.Perm P ∧ P'.Pairwise (fun a b => blw b.2 a.2 = false) ∧ Below w.heap.size w w'

/-- What a list of values and what they read as gives at an index. -/
theorem pv_at {A : List (Value × List Int)} {i : Nat} (h : i < A.length) : ∃ x, A[i]? = some x ∧ x ∈ A ∧ (A.map Prod.fst).getD i undef = x.1 := by
  refine ⟨A[i], List.getElem?_eq_getElem h, List.getElem_mem h, by simp [List.getD, h]⟩

theorem Vals.cells {w : World} {v : Value} {vs : List Value} {m : Nat} (h : Vals w v vs) (hm : vs.length = m) (h1 : 1 ≤ m) : ∃ b off cap, v = .slice (some ⟨b, off, none⟩) m cap ∧ m ≤ cap ∧ cap ≤ 9223372036854775807 ∧ b < w.heap.size ∧ ∀ j, j < m → w.cell? ⟨b, off + j, none⟩ = some (vs.getD j undef) := by
  subst hm
  rcases h with ⟨rfl, p', c', e⟩ | ⟨b, off, cap, e, h0, h1, h2, h3, hc⟩
  · simp at h1
  · exact ⟨b, off, cap, e, h1, h2, h3, hc⟩

/-- What the merging knows. -/
structure MRel (A B Z : List (Value × List Int)) (w2 wr : World) (v : Value) (i k : Nat) : Prop where
  own : wr.ownsRow w2.heap.size 23 1 v Z.length (Z.map Prod.fst)
  eq : mrg A B = Z ++ mrg (A.drop i) (B.drop k)
  len : Z.length = i + k
  below : Below w2.heap.size w2 wr

theorem MRel.later {A B Z : List (Value × List Int)} {w2 wr w9 : World} {v : Value} {i k : Nat} (h : MRel A B Z w2 wr v i k) (hb : Below wr.heap.size wr w9) : MRel A B Z w2 w9 v i k :=
  ⟨owns_below h.own hb (Nat.le_refl _), h.eq, h.len, h.below.trans (hb.mono h.below.size)⟩

theorem MRel.next {A B Z : List (Value × List Int)} {w2 wr w9 : World} {v v9 : Value} {i k i' k' : Nat} {x : Value × List Int} {o : Obj} (h : MRel A B Z w2 wr v i k) (hx : mrg (A.drop i) (B.drop k) = x :: mrg (A.drop i') (B.drop k')) (hl : i' + k' = i + k + 1)
    (ho : w9.ownsRow w2.heap.size 23 1 v9 (Z.length + 1) (Z.map Prod.fst ++ [x.1])) (hg : (wr.alloc o).grownBy w9 v.ownBlock) : MRel A B (Z ++ [x]) w2 w9 v9 i' k' := by
  refine ⟨?_, ?_, ?_, ?_⟩
  · rw [List.length_append, List.map_append]; exact ho
  · rw [h.eq, hx, List.append_assoc]; rfl
  · rw [List.length_append, h.len]; simp; omega
  · exact (h.below.alloc h.below.size _).grown hg (by have := h.below.size; simp; omega) (fun g hg' => (h.own.lt g hg').1)

set_option maxHeartbeats 4000000 in
theorem ordered_ok (W0 : World) : ∀ (N : Nat) (P : List (Value × List Int)) (v : Value) (w : World), P.length ≤ N → P.length ≤ 1000000 → Vals w v (P.map Prod.fst) → Below W0.heap.size W0 w → (∀ p, p ∈ P → Ints W0 p.1 p.2 ∧ p.2.length ≤ 1000000) →
    Calls Try.prog 47 #[v] w (OrdPost P w) := by
  intro N
  induction N using Nat.strongRecOn with
  | ind N ih =>
    intro P v w hN hM hv hW hP
    obtain ⟨j0, hj, hq0, hq1, hq2⟩ := info_parts Try.info23
    by_cases h2 : P.length < 2
    · have HP : Hid (OrdPost P w (.returned v) w) := by
        refine ⟨v, P, rfl, hv, List.Perm.refl _, ?_, Below.refl _ _⟩
        match P, h2 with
        | [], _ => exact List.Pairwise.nil
        | [a], _ => exact List.pairwise_singleton _ _
      obtain ⟨p, c, hve⟩ := hv.form
      rw [List.length_map] at hve
      subst hve
      have h2' : (P.length : Int) < 2 := by omega
      clear hv hP ih hW
      generalize P.length = m at *
      go_enter Try.func47, Try.ntmps47
      go_wp2
      go_ret
      exact HP.out
    · obtain ⟨m, hm⟩ : ∃ m, Hid (P.length = m) := ⟨_, rfl⟩
      have hmP : (P.map Prod.fst).length = m := by rw [List.length_map]; exact hm.out
      rw [hm.out] at h2 hN hM
      obtain ⟨b, off, cap, rfl, hc1, hc2, hbl, hcell⟩ := hv.cells hmP (by omega)
      obtain ⟨q, hq⟩ : ∃ q, Hid (q = m / 2) := ⟨_, rfl⟩
      have hqv := hq.out
      have hq1' : 1 ≤ q := by omega
      have hq2' : q < m := by omega
      have hdv : (m : Int).tdiv 2 = (q : Int) := by
        rw [show (2 : Int) = ((2 : Nat) : Int) from rfl, ← Int.ofNat_tdiv, hqv]
      have HV1 := hide (hv.take (k := q) (by rw [hmP]; omega))
      have HV2 := hide (hv.dropK hq2')
      have HI := hide hP
      have HW := hide hW
      have HIH := hide ih
      have hg2 : ¬ (m : Int) < 2 := by omega
      clear hv hP hcell hqv ih hW hmP
      have HT1 : Hid (∀ p, p ∈ P.take q → Ints W0 p.1 p.2 ∧ p.2.length ≤ 1000000) := fun p hp => HI.out p (List.mem_of_mem_take hp)
      have HT2 : Hid (∀ p, p ∈ P.drop q → Ints W0 p.1 p.2 ∧ p.2.length ≤ 1000000) := fun p hp => HI.out p (List.mem_of_mem_drop hp)
      have HC1 : Hid (Calls Try.prog 47 #[.slice (some ⟨b, off, none⟩) q cap] w (OrdPost (P.take q) w)) := by
        have hl : (P.take q).length = q := by rw [List.length_take, hm.out]; omega
        exact HIH.out q (by omega) (P.take q) _ w (by omega) (by omega) (by rw [List.map_take]; exact HV1.out) HW.out HT1.out
      have HC2 : Hid (∀ W, Below w.heap.size w W → Calls Try.prog 47 #[.slice (some ⟨b, off + q, none⟩) (m - q) (cap - q)] W (OrdPost (P.drop q) W)) := fun W hb => by
        have hl : (P.drop q).length = m - q := by rw [List.length_drop, hm.out]
        exact HIH.out (m - q) (by omega) (P.drop q) _ W (by omega) (by omega) (by rw [List.map_drop]; exact HV2.out.below hb) (HW.out.trans (hb.mono HW.out.size)) HT2.out
      clear HIH HV1 HV2
      go_enter Try.func47, Try.ntmps47
      go_wp2_with fail
      refine HC1.out.mono ?_
      rintro e w1 ⟨u1, A, rfl, hA1, hA2, hA3, hb1⟩
      have HA1 := hide hA1
      have HA2 := hide hA2
      have HA3 := hide hA3
      have hAl : A.length = q := by rw [hA2.length_eq, List.length_take, hm.out]; omega
      obtain ⟨ab, ao, ac, rfl, hac1, hac2, hab, hacell⟩ := hA1.cells (m := q) (by rw [List.length_map]; exact hAl) hq1'
      have HAC := hide hacell
      clear hA1 hA2 hA3 HC1 hacell
      go_wp2_with fail
      refine (HC2.out w1 hb1).mono ?_
      rintro e w2 ⟨u2, B, rfl, hB1, hB2, hB3, hb2⟩
      have HB2 := hide hB2
      have HB3 := hide hB3
      have hBl : B.length = m - q := by rw [hB2.length_eq, List.length_drop, hm.out]
      obtain ⟨bb, bo, bc, rfl, hbc1, hbc2, hbb, hbcell⟩ := hB1.cells (m := m - q) (by rw [List.length_map]; exact hBl) (by omega)
      obtain ⟨r, hr⟩ : ∃ r, m - q = r := ⟨_, rfl⟩
      rw [hr] at hbcell hbc1 hBl ⊢
      have HBC := hide hbcell
      have HAC2 : Hid (∀ j, j < q → w2.cell? ⟨ab, ao + j, none⟩ = some ((A.map Prod.fst).getD j undef)) := fun j hj => (hb2.cell (p := ⟨ab, ao + j, none⟩) hab).trans (HAC.out j hj)
      have hab2 : ab < w2.heap.size := Nat.lt_of_lt_of_le hab hb2.size
      have hbw2 : Below w.heap.size w w2 := hb1.trans (hb2.mono hb1.size)
      have HIA : Hid (∀ p, p ∈ A → Ints W0 p.1 p.2 ∧ p.2.length ≤ 1000000) := fun p hp => HT1.out p (HA2.out.mem_iff.1 hp)
      have HIB : Hid (∀ p, p ∈ B → Ints W0 p.1 p.2 ∧ p.2.length ≤ 1000000) := fun p hp => HT2.out p (HB2.out.mem_iff.1 hp)
      have HAl := hide hAl
      have HBl := hide hBl
      have HW2 : Hid (Below W0.heap.size W0 w2) := HW.out.trans (hbw2.mono HW.out.size)
      have HR0 : Hid (MRel A B [] w2 w2 (.slice none 0 0) 0 0) := ⟨World.ownsRow_nil _ _ _ _, rfl, rfl, Below.refl _ _⟩
      have HPOST : Hid (∀ Z v wr, MRel A B Z w2 wr v q r → OrdPost P w (.returned v) wr) := fun Z v wr hR => by
        have hz : Z = mrg A B := by
          have h9 := hR.eq
          rw [List.drop_eq_nil_of_le (by rw [HAl.out]; exact Nat.le_refl _), List.drop_eq_nil_of_le (by rw [HBl.out]; exact Nat.le_refl _), mrg_nil, List.append_nil] at h9
          exact h9.symm
        refine ⟨v, Z, rfl, Vals.own (by rw [List.length_map]; exact hR.own), ?_, ?_, hbw2.trans (hR.below.mono hbw2.size)⟩
        · rw [hz]
          have h9 := (mrg_perm A B).trans (HA2.out.append HB2.out)
          rw [List.take_append_drop] at h9
          exact h9
        · rw [hz]; exact mrg_ris A B HA3.out HB3.out
      have hrm : r + q = m := by omega
      clear hB1 hB2 hB3 hb1 hb2 HC2 HAC hbcell hAl hBl hr hdv
      go_wp2
      go_loopw [5, 6, 7] (fun hd iv kv wr => ∃ (Z : List (Value × List Int)) (i k : Nat), i ≤ q ∧ k ≤ r ∧ iv = .int .i64 i ∧ kv = .int .i64 k ∧ Hid (MRel A B Z w2 wr hd i k)) (fun _ iv kv _ => q + r - ((intOf iv).toNat + (intOf kv).toNat))
      case atStart => exact ⟨[], 0, 0, by omega, by omega, rfl, rfl, HR0⟩
      case round =>
        clear HR0
        obtain ⟨Z, i, k, hi, hk, rfl, rfl, hR⟩ := hrel
        have hbr := hR.out.below
        have hbs := hbr.size
        have hZb : Z.length ≤ 1000000 := by rw [hR.out.len]; omega
        have hrow := hR.out.own
        obtain ⟨zp, zc, rfl⟩ := owns_slice hrow
        have HRW := hide hrow
        clear hrow
        by_cases hiq : i < q
        · obtain ⟨x, hx1, hx2, hx3⟩ := pv_at (A := A) (i := i) (by rw [HAl.out]; exact hiq)
          have gx := (hbr.cell (p := ⟨ab, ao + i, none⟩) hab2).trans (HAC2.out i hiq)
          rw [hx3] at gx
          obtain ⟨xi, xl⟩ := HIA.out x hx2
          obtain ⟨xp, xc, hxe⟩ := xi.form
          rw [hxe] at gx
          by_cases hkr : k < r
          · obtain ⟨y, hy1, hy2, hy3⟩ := pv_at (A := B) (i := k) (by rw [HBl.out]; exact hkr)
            have gy := (hbr.cell (p := ⟨bb, bo + k, none⟩) hbb).trans (HBC.out k hkr)
            rw [hy3] at gy
            obtain ⟨yi, yl⟩ := HIB.out y hy2
            obtain ⟨yp, yc, hye⟩ := yi.form
            rw [hye] at gy
            have HBQ : Hid (∀ mm, Calls Try.prog 93 #[.slice yp y.2.length yc, .slice xp x.2.length xc] (wr.drewN mm) fun e w' => e = .returned (.bool (blw y.2 x.2)) ∧ ∃ m', w' = (wr.drewN mm).drewN m') := fun mm => by
              have hbb9 : Below W0.heap.size W0 (wr.drewN mm) := below_drewN (HW2.out.trans (hbr.mono HW2.out.size)) mm
              exact rbelow_q _ _ _ _ (wr.drewN mm) (by rw [← hye]; exact yi.below hbb9) (by rw [← hxe]; exact xi.below hbb9) yl xl
            have HLX := hide (fun h => mrg_left (B := B) (k := k) hx1 (Or.inr ⟨y, hy1, h⟩))
            have HRX := hide (fun h => mrg_right (A := A) (i := i) hy1 (Or.inr ⟨x, hx1, h⟩))
            have hd1 : decide ((i : Int) < (q : Int)) = true := decide_eq_true (by omega)
            have hd2 : ((k : Int) == (r : Int)) = false := by simp; omega
            have hik : (i : Int) < (q : Int) := by omega
            have HXE := hide hxe
            have HYE := hide hye
            clear xi yi xl yl hxe hye hx2 hy2 hx3 hy3 hx1 hy1
            generalize x.2.length = xn at *
            generalize y.2.length = yn at *
            go_wp2
            cases hc : blw y.2 x.2 with
            | false =>
              rw [hc] at HBQ
              have HNX := hide (HLX.out hc)
              clear hc
              go_quiet ((go_at_call 93; exact Calls.quiet_of (HBQ.out _)))
              have HR9 := hide (hR.out.later (below_drewN (Below.refl _ _) nq))
              have gx9 : (wr.drewN nq).cell? ⟨ab, ao + i, none⟩ = some (.slice xp xn xc) := gx
              have gy9 : (wr.drewN nq).cell? ⟨bb, bo + k, none⟩ = some (.slice yp yn yc) := gy
              clear HBQ HLX HRX gx gy hR
              generalize wr.drewN nq = wX at *
              have hrow9 := HR9.out.own
              have hs9 := HR9.out.below.size
              go_wp2_with (at_builtin; refine wpList_append_own _ rfl _ _ 22 rfl w2.heap.size 23 j0 (.slice none 0 0) 1 24 Try.underlying22 hj hq0 hq1 hq2 rfl (by decide) _ _ _ rfl (hrow9.alloc _) ⟨wX.heap.size, 0, none⟩ 1 1 [.slice xp xn xc] rfl rfl ?c1a ?c2a ?c3a ?c4a ?c5a ?_)
              case c1a => exact cell_one_new _ _ _
              case c2a => intro u hu; simp at hu; subst hu; rfl
              case c3a => unfold maxLen; omega
              case c4a => omega
              case c5a => simp; omega
              · intro v9 w9 hown9 hg9 _
                have HRN := hide (HR9.out.next (x := x) HNX.out (by omega) (by rw [HXE.out]; exact hown9) hg9)
                clear hown9 hg9 HR9 hrow9 HNX
                go_wp2
                go_roundw
                case rel => exact ⟨Z ++ [x], i + 1, k, by omega, by omega, by go_num, rfl, HRN⟩
                case measure => simp [intOf]; omega
            | true =>
              rw [hc] at HBQ
              have HNX := hide (HRX.out hc)
              clear hc
              go_quiet ((go_at_call 93; exact Calls.quiet_of (HBQ.out _)))
              have HR9 := hide (hR.out.later (below_drewN (Below.refl _ _) nq))
              have gx9 : (wr.drewN nq).cell? ⟨ab, ao + i, none⟩ = some (.slice xp xn xc) := gx
              have gy9 : (wr.drewN nq).cell? ⟨bb, bo + k, none⟩ = some (.slice yp yn yc) := gy
              clear HBQ HLX HRX gx gy hR
              generalize wr.drewN nq = wX at *
              have hrow9 := HR9.out.own
              have hs9 := HR9.out.below.size
              go_wp2_with (at_builtin; refine wpList_append_own _ rfl _ _ 22 rfl w2.heap.size 23 j0 (.slice none 0 0) 1 24 Try.underlying22 hj hq0 hq1 hq2 rfl (by decide) _ _ _ rfl (hrow9.alloc _) ⟨wX.heap.size, 0, none⟩ 1 1 [.slice yp yn yc] rfl rfl ?c1b ?c2b ?c3b ?c4b ?c5b ?_)
              case c1b => exact cell_one_new _ _ _
              case c2b => intro u hu; simp at hu; subst hu; rfl
              case c3b => unfold maxLen; omega
              case c4b => omega
              case c5b => simp; omega
              · intro v9 w9 hown9 hg9 _
                have HRN := hide (HR9.out.next (x := y) HNX.out (by omega) (by rw [HYE.out]; exact hown9) hg9)
                clear hown9 hg9 HR9 hrow9 HNX
                go_wp2
                go_roundw
                case rel => exact ⟨Z ++ [y], i, k + 1, by omega, by omega, rfl, by go_num, HRN⟩
                case measure => simp [intOf]; omega
          · obtain rfl : k = r := by omega
            have HNX := hide (mrg_left (B := B) (k := k) hx1 (Or.inl HBl.out.symm))
            have hik : (i : Int) < (q : Int) := by omega
            have hd1 : decide ((i : Int) < (q : Int)) = true := decide_eq_true (by omega)
            have HXE := hide hxe
            clear xi xl hxe hx2 hx3 hx1
            generalize x.2.length = xn at *
            go_wp2
            go_quiet (fail)
            have HR9 := hide (hR.out.later (below_drewN (Below.refl _ _) nq))
            have gx9 : (wr.drewN nq).cell? ⟨ab, ao + i, none⟩ = some (.slice xp xn xc) := gx
            clear gx hR
            generalize wr.drewN nq = wX at *
            have hrow9 := HR9.out.own
            have hs9 := HR9.out.below.size
            go_wp2_with (at_builtin; refine wpList_append_own _ rfl _ _ 22 rfl w2.heap.size 23 j0 (.slice none 0 0) 1 24 Try.underlying22 hj hq0 hq1 hq2 rfl (by decide) _ _ _ rfl (hrow9.alloc _) ⟨wX.heap.size, 0, none⟩ 1 1 [.slice xp xn xc] rfl rfl ?c1c ?c2c ?c3c ?c4c ?c5c ?_)
            case c1c => exact cell_one_new _ _ _
            case c2c => intro u hu; simp at hu; subst hu; rfl
            case c3c => unfold maxLen; omega
            case c4c => omega
            case c5c => simp; omega
            · intro v9 w9 hown9 hg9 _
              have HRN := hide (HR9.out.next (x := x) HNX.out (by omega) (by rw [HXE.out]; exact hown9) hg9)
              clear hown9 hg9 HR9 hrow9 HNX
              go_wp2
              go_roundw
              case rel => exact ⟨Z ++ [x], i + 1, k, by omega, by omega, by go_num, rfl, HRN⟩
              case measure => simp [intOf]; omega
        · obtain rfl : i = q := by omega
          by_cases hkr : k < r
          · obtain ⟨y, hy1, hy2, hy3⟩ := pv_at (A := B) (i := k) (by rw [HBl.out]; exact hkr)
            have gy := (hbr.cell (p := ⟨bb, bo + k, none⟩) hbb).trans (HBC.out k hkr)
            rw [hy3] at gy
            obtain ⟨yi, yl⟩ := HIB.out y hy2
            obtain ⟨yp, yc, hye⟩ := yi.form
            rw [hye] at gy
            have HNX := hide (mrg_right (A := A) (i := i) hy1 (Or.inl HAl.out.symm))
            have hik : ¬ (i : Int) < (i : Int) := by omega
            have hkk : (k : Int) < (r : Int) := by omega
            have hd1 : decide ((i : Int) < (i : Int)) = false := decide_eq_false (by omega)
            have hd2 : decide ((k : Int) < (r : Int)) = true := decide_eq_true (by omega)
            have HYE := hide hye
            clear yi yl hye hy2 hy3 hy1
            generalize y.2.length = yn at *
            go_wp2
            go_quiet (fail)
            have HR9 := hide (hR.out.later (below_drewN (Below.refl _ _) nq))
            have gy9 : (wr.drewN nq).cell? ⟨bb, bo + k, none⟩ = some (.slice yp yn yc) := gy
            clear gy hR
            generalize wr.drewN nq = wX at *
            have hrow9 := HR9.out.own
            have hs9 := HR9.out.below.size
            go_wp2_with (at_builtin; refine wpList_append_own _ rfl _ _ 22 rfl w2.heap.size 23 j0 (.slice none 0 0) 1 24 Try.underlying22 hj hq0 hq1 hq2 rfl (by decide) _ _ _ rfl (hrow9.alloc _) ⟨wX.heap.size, 0, none⟩ 1 1 [.slice yp yn yc] rfl rfl ?c1d ?c2d ?c3d ?c4d ?c5d ?_)
            case c1d => exact cell_one_new _ _ _
            case c2d => intro u hu; simp at hu; subst hu; rfl
            case c3d => unfold maxLen; omega
            case c4d => omega
            case c5d => simp; omega
            · intro v9 w9 hown9 hg9 _
              have HRN := hide (HR9.out.next (x := y) HNX.out (by omega) (by rw [HYE.out]; exact hown9) hg9)
              clear hown9 hg9 HR9 hrow9 HNX
              go_wp2
              go_roundw
              case rel => exact ⟨Z ++ [y], i, k + 1, by omega, by omega, rfl, by go_num, HRN⟩
              case measure => simp [intOf]; omega
          · obtain rfl : k = r := by omega
            have HP := hide (HPOST.out Z _ wr hR.out)
            clear hR HPOST HRW
            have hd1 : decide ((i : Int) < (i : Int)) = false := decide_eq_false (by omega)
            have hd2 : decide ((k : Int) < (k : Int)) = false := decide_eq_false (by omega)
            go_wp2
            go_ret
            exact HP.out

end Go.Proofs.Ytimfoggjocajiaa

/- Rows that were made of raw numbers, in a later world; what a law answers (out of GNormA). -/
namespace Go.Proofs.Ytimfoggjocajiaa
open Go.RowKit

theorem run_ptr_ne (a : Addr) (w : World) : (binOp BinOp.eql 24 (.pointer (some a)) (.pointer none)).run Try.prog w = .ok (.bool false) w := by kernel_rfl

/-- Rows that were made of raw numbers, in a later world. -/
structure Gens (w wr : World) (n m : Nat) (u : Value) (vs : List Value) (xss : List (List Int)) : Prop where
  row : wr.ownsRow w.heap.size 23 1 u m vs
  all : OwnAll wr w.heap.size vs xss
  len : vs.length = m
  rows : RowsN n xss

theorem Gens.later {w wr w' : World} {n m : Nat} {u : Value} {vs : List Value} {xss : List (List Int)} (h : Gens w wr n m u vs xss) (hb : Below wr.heap.size wr w') : Gens w w' n m u vs xss :=
  ⟨owns_below h.row hb (Nat.le_refl _), h.all.mono (fun _ _ _ h' => owns_below h' hb (Nat.le_refl _)), h.len, h.rows⟩

theorem Gens.made {w wa wr : World} {n m : Nat} {u : Value} {vs : List Value} {xss : List (List Int)} (h : RowsRel wa wr n m u vs xss) (hs : w.heap.size ≤ wa.heap.size) : Gens w wr n m u vs xss :=
  ⟨owns_base h.row hs, OwnAll.low hs h.all, h.len, h.rows⟩

theorem Gens.ints {w wr : World} {n m : Nat} {u : Value} {vs : List Value} {xss : List (List Int)} (h : Gens w wr n m u vs xss) : IntsAll wr u xss := by
  have hr := h.row
  rw [← h.len] at hr
  exact IntsAll.own hr h.all

theorem Gens.size {w wr : World} {n m : Nat} {u : Value} {vs : List Value} {xss : List (List Int)} (h : Gens w wr n m u vs xss) : xss.length = m := by rw [← OwnAll.length h.all]; exact h.len

def Told (w : World) (e : Ending) (w' : World) : Prop := e = .returned (.bool true) ∧ Below w.heap.size w w'

theorem Ints.open {w : World} {p : Option Addr} {n c : Nat} {xs : List Int} (h : Ints w (.slice p n c) xs) (h0 : 0 < xs.length) : ∃ b off, p = some ⟨b, off, none⟩ ∧ xs.length ≤ c ∧ c ≤ 9223372036854775807 ∧ b < w.heap.size ∧ ∀ j, j < xs.length → w.cell? ⟨b, off + j, none⟩ = some (.int .i64 (xs.getD j 0)) := by
  rcases h with ⟨rfl, _⟩ | ⟨b, off, cap, h1, h2, h3, h4, h5, h6⟩
  · simp at h0
  · injection h1 with e1 e2 e3
    exact ⟨b, off, e1, by omega, by omega, h5, h6⟩

end Go.Proofs.Ytimfoggjocajiaa

/- Contract: the answer's Orbits. -/
namespace Go.Proofs.Ytimfoggjocajiaa
open Go.RowKit

/-- Which bells rows have in a place, in order. -/
def thr (rows : List (List Int)) (n b : Nat) : List Nat := (List.range n).filter (fun k => rows.any (fun r => r.getD b 0 == (k : Int)))

def rorbsTo (rows : List (List Int)) (n : Nat) : Nat → List (List Nat)
  | 0 => []
  | b + 1 => if (thr rows n b).head? = some b then rorbsTo rows n b ++ [thr rows n b] else rorbsTo rows n b

theorem rorbsTo_length (rows : List (List Int)) (n : Nat) : ∀ k, (rorbsTo rows n k).length ≤ k
  | 0 => Nat.le_refl _
  | k + 1 => by
    have := rorbsTo_length rows n k
    show (if _ then _ else _ : List (List Nat)).length ≤ k + 1
    split
    · rw [List.length_append]; simp; omega
    · omega

theorem mem_thr {rows : List (List Int)} {n b k : Nat} : k ∈ thr rows n b ↔ k < n ∧ ∃ r, r ∈ rows ∧ r.getD b 0 = (k : Int) := by
  unfold thr
  rw [List.mem_filter, List.mem_range, List.any_eq_true]
  simp only [beq_iff_eq]

theorem thr_sorted (rows : List (List Int)) (n b : Nat) : (thr rows n b).Pairwise (· < ·) := by
  unfold thr
  exact List.Pairwise.filter _ List.pairwise_lt_range

/-- The first of a sorted list is the least. -/
theorem head_least : ∀ (L : List Nat) (b : Nat), L.Pairwise (· < ·) → b ∈ L → (L.head? = some b ↔ ∀ a, a ∈ L → b ≤ a)
  | [], b, _, h => by cases h
  | c :: L, b, hs, h => by
    rw [List.pairwise_cons] at hs
    rw [List.head?_cons]
    constructor
    · intro e a ha
      have := Option.some.inj e
      subst this
      rcases List.mem_cons.1 ha with e | e
      · omega
      · have := hs.1 a e; omega
    · intro hl
      have h1 := hl c List.mem_cons_self
      rcases List.mem_cons.1 h with e | e
      · rw [e]
      · have := hs.1 b e; omega

/-- Rows of a group tell its orbits. -/
theorem rorbs_eq {gs : List Pm} {n : Nat} {rows : List (List Int)} (h12 : n ≤ 12) (hr : ∀ r, r ∈ rows ↔ ∃ x, Gen (fun y => y ∈ gs) x ∧ r = cut n x) : rorbsTo rows n n = orbsTo gs n n := by
  have ht : ∀ b, b < n → thr rows n b = orbS gs n b := fun b hb => by
    refine sorted_ext _ _ (thr_sorted rows n b) (orbS_sorted gs n b) (fun k => ?_)
    rw [mem_thr, mem_orbS]
    constructor
    · rintro ⟨h1, r, hm, e⟩
      obtain ⟨x, hx, rfl⟩ := (hr r).1 hm
      refine ⟨h1, x, hx, ?_⟩
      have e2 := cut_get x h12 hb
      rw [e2] at e
      omega
    · rintro ⟨h1, x, hx, e⟩
      refine ⟨h1, cut n x, (hr _).2 ⟨x, hx, rfl⟩, ?_⟩
      rw [cut_get x h12 hb, e]
  have key : ∀ k, k ≤ n → rorbsTo rows n k = orbsTo gs n k := by
    intro k
    induction k with
    | zero => intro _; rfl
    | succ k ih =>
      intro hk
      have ih' := ih (by omega)
      have hkm : k ∈ orbS gs n k := mem_orbS.2 ⟨by omega, 1, Gen.one, Pm.act_one k⟩
      show (if (thr rows n k).head? = some k then rorbsTo rows n k ++ [thr rows n k] else rorbsTo rows n k) = _
      rw [ht k (by omega), ih']
      by_cases hm : k ∈ (orbsTo gs n k).flatten
      · rw [orbsTo_yes hm, if_neg]
        intro e
        have hl := (head_least _ _ (orbS_sorted gs n k) hkm).1 e
        obtain ⟨O, hO, hkO⟩ := List.mem_flatten.1 hm
        obtain ⟨a, ha, rfl⟩ := orbsTo_form k O hO
        have hra := (mem_orbS.1 hkO).2
        have := hl a (mem_orbS.2 ⟨by omega, reach_back hra⟩)
        omega
      · rw [orbsTo_no hm, if_pos]
        refine (head_least _ _ (orbS_sorted gs n k) hkm).2 (fun a ha => ?_)
        rcases Nat.lt_or_ge a k with hlt | hge
        · exfalso
          have := orbsTo_all (gs := gs) (n := n) k (by omega) a hlt
          obtain ⟨O, hO, haO⟩ := List.mem_flatten.1 this
          obtain ⟨c, hc, rfl⟩ := orbsTo_form k O hO
          exact hm (List.mem_flatten.2 ⟨_, hO, mem_orbS.2 ⟨by omega, reach_trans (mem_orbS.1 haO).2 (reach_back (mem_orbS.1 ha).2)⟩⟩)
        · exact hge
  exact key n (Nat.le_refl _)

end Go.Proofs.Ytimfoggjocajiaa

/- Contract: the answer's Orbits: the walk. -/
namespace Go.Proofs.Ytimfoggjocajiaa
open Go.RowKit

/-- Marks of the bells that the first i rows have in a place. -/
def MarkedBy (rows : List (List Int)) (n b i : Nat) (zs : List Int) : Prop :=
  zs.length = n ∧ ∀ k, k < n → zs.getD k 0 = if (rows.take i).any (fun r => r.getD b 0 == (k : Int)) then 1 else 0

theorem MarkedBy.start (rows : List (List Int)) (n b : Nat) : MarkedBy rows n b 0 (List.replicate n 0) :=
  ⟨by simp, fun k hk => by simp [List.getD, hk]⟩

theorem MarkedBy.step {rows : List (List Int)} {n b i m : Nat} {zs r : List Int} (h : MarkedBy rows n b i zs) (hr : rows[i]? = some r) (hm : r.getD b 0 = (m : Int)) : MarkedBy rows n b (i + 1) (zs.set m 1) := by
  refine ⟨by rw [List.length_set]; exact h.1, fun k hk => ?_⟩
  rw [List.take_add_one, hr, List.any_append]
  have hks : k < zs.length := by rw [h.1]; exact hk
  by_cases e : m = k
  · subst e
    have h1 : (zs.set m 1).getD m 0 = 1 := by simp [List.getD, hks]
    have h2 : (Option.some r).toList.any (fun r => r.getD b 0 == (m : Int)) = true := by show (r.getD b 0 == (m : Int) || false) = true; rw [hm, Bool.or_false, beq_self_eq_true]
    rw [h1, h2, Bool.or_true]
    rfl
  · have h1 : (zs.set m 1).getD k 0 = zs.getD k 0 := by simp [List.getD, e]
    have h2 : (Option.some r).toList.any (fun r => r.getD b 0 == (k : Int)) = false := by
      show (r.getD b 0 == (k : Int) || false) = false
      rw [hm, Bool.or_false, beq_eq_false_iff_ne]
      omega
    rw [h1, h.2 k hk, h2, Bool.or_false]

/-- The bells below k that are marked. -/
def thrTo (rows : List (List Int)) (b k : Nat) : List Nat := (List.range k).filter (fun k => rows.any (fun r => r.getD b 0 == (k : Int)))

theorem thrTo_yes {rows : List (List Int)} {b k : Nat} (h : rows.any (fun r => r.getD b 0 == (k : Int)) = true) : thrTo rows b (k + 1) = thrTo rows b k ++ [k] := by
  unfold thrTo
  rw [List.range_succ, List.filter_append]
  simp only [List.filter_cons, h, if_true, List.filter_nil]

theorem thrTo_no {rows : List (List Int)} {b k : Nat} (h : rows.any (fun r => r.getD b 0 == (k : Int)) = false) : thrTo rows b (k + 1) = thrTo rows b k := by
  unfold thrTo
  rw [List.range_succ, List.filter_append]
  simp only [List.filter_cons, h, List.filter_nil]
  simp

theorem thrTo_length (rows : List (List Int)) (b k : Nat) : (thrTo rows b k).length ≤ k := by
  unfold thrTo
  have := List.length_filter_le (fun (k : Nat) => rows.any (fun r => r.getD b 0 == (k : Int))) (List.range k)
  rwa [List.length_range] at this

/-- A row among some, in memory. -/
theorem IntsAll.row {w : World} {p : Option Addr} {N c : Nat} {rows : List (List Int)} (h : IntsAll w (.slice p N c) rows) (h0 : 0 < rows.length) : ∃ g off, p = some ⟨g, off, none⟩ ∧ N = rows.length ∧ rows.length ≤ c ∧ c ≤ 9223372036854775807 ∧ g < w.heap.size ∧
    ∀ i r, rows[i]? = some r → 0 < r.length → ∃ b2 o2 c2, w.cell? ⟨g, off + i, none⟩ = some (.slice (some ⟨b2, o2, none⟩) r.length c2) ∧ r.length ≤ c2 ∧ c2 ≤ 9223372036854775807 ∧ b2 < w.heap.size ∧ ∀ j, j < r.length → w.cell? ⟨b2, o2 + j, none⟩ = some (.int .i64 (r.getD j 0)) := by
  obtain ⟨vs, hv, hl, he⟩ := h
  rcases hv with ⟨e, _⟩ | ⟨g, off, cap, h1, h2, h3, h4, h5, h6⟩
  · rw [e] at hl; simp at hl; omega
  · injection h1 with e1 e2 e3
    refine ⟨g, off, e1, by omega, by omega, by omega, h5, fun i r hr hr0 => ?_⟩
    have hi := (List.getElem?_eq_some_iff.1 hr).1
    have hI := he i hi
    have er : rows.getD i [] = r := by rw [List.getD, hr]; rfl
    rw [er] at hI
    have hc := h6 i (by omega)
    rcases hI with ⟨e, _⟩ | ⟨b2, o2, c2, g1, g2, g3, g4, g5, g6⟩
    · rw [e] at hr0; simp at hr0
    · exact ⟨b2, o2, c2, by rw [hc, g1], g3, g4, g5, g6⟩

set_option maxRecDepth 20000 in
set_option maxHeartbeats 4000000 in
theorem rorbits_ok (n : Nat) (v : Value) (rows : List (List Int)) (w : World) (hA : IntsAll w v rows) (h1 : 1 ≤ n) (h12 : n ≤ 12) (hr : ∀ r, r ∈ rows → r.length = n ∧ ∀ j, j < n → ∃ m : Nat, m < n ∧ r.getD j 0 = (m : Int)) (hN : rows.length ≤ 1000000) (h0 : 1 ≤ rows.length) :
    Calls Try.prog 70 #[.int .i64 n, v] w fun e w' => ∃ (u : Value) (vs : List Value), e = .returned u ∧ LL w' w.heap.size u vs ((rorbsTo rows n n).map natI) ∧ Below w.heap.size w w' := by
  obtain ⟨i0, hi, hz0, hz1, hz2⟩ := info_parts Try.info3
  obtain ⟨j0, hj0, jz0, jz1, jz2⟩ := info_parts Try.info23
  obtain ⟨p, N, c, rfl⟩ : ∃ p N c, v = .slice p N c := by obtain ⟨vs, hv, _⟩ := hA; obtain ⟨p, c, e⟩ := hv.form; exact ⟨p, _, c, e⟩
  obtain ⟨g, off, rfl, rfl, hc1, hc2, hg, hcell⟩ := hA.row h0
  have HCL := hide hcell
  have HR := hide hr
  generalize hrl : rows.length = rl at *
  have HRL := hide hrl
  clear hA hcell hr hrl
  go_enter Try.func70, Try.ntmps70
  go_wp2
  go_loopw [5, 6] (fun so sb wr => ∃ (b : Nat) (u : Value) (vs : List Value), b ≤ n ∧ so = u ∧ sb = .int .i64 b ∧ LL wr w.heap.size u vs ((rorbsTo rows n b).map natI) ∧ Below w.heap.size w wr) (fun _ sb _ => n - (intOf sb).toNat)
  case atStart => exact ⟨0, _, [], Nat.zero_le _, rfl, rfl, LL.nil _ _, Below.refl _ _⟩
  case round =>
    obtain ⟨b, u, vs, hb, rfl, rfl, hLL, hbw⟩ := hrel
    by_cases hlt : b < n
    · have HLL := hide hLL
      have HBW := hide hbw
      have hsw := hbw.size
      have hvl : vs.length ≤ n := by
        have h1' := hLL.len
        have h2' := rorbsTo_length rows n b
        rw [List.length_map] at h1'
        omega
      obtain ⟨wo, hwo⟩ : ∃ wo, wo = wr := ⟨_, rfl⟩
      subst hwo
      clear hLL hbw
      go_wp2_with (at_make; refine wpList_make_full _ rfl _ _ 23 rfl wo.heap.size 3 i0 (.int .i64 0) 1 Try.underlying23 hi hz0 hz1 _ _ _ _ n rfl rfl (by omega) (by omega) ?b2 ?b3 ?b4 ?_)
      case b2 => rw [hz2]; omega
      case b3 => unfold maxLen; omega
      case b4 => omega
      intro w1 hown1 hg1
      rw [made_ints] at hown1
      have hB1 : Below wo.heap.size wo w1 := (Below.refl _ _).grown hg1 (Nat.le_refl _) (fun k h => by cases h)
      go_wp2
      go_loopw [8] (fun si wr => ∃ (i : Nat) (zs : List Int), i ≤ rl ∧ si = .int .i64 i ∧ Hid (MarkedBy rows n b i zs) ∧ wr.ownsRow wo.heap.size 3 1 (.slice (some ⟨wo.heap.size, 0, none⟩) n n) n (zs.map (Value.int .i64)) ∧ Below wo.heap.size wo wr) (fun si _ => rl - (intOf si).toNat)
      case atStart => exact ⟨0, _, Nat.zero_le _, rfl, MarkedBy.start rows n b, hown1, hB1⟩
      case round =>
        clear hown1 hB1 hg1
        obtain ⟨i, zs, hi', rfl, hM, hown, hbw⟩ := hrel
        by_cases hit : i < rl
        · obtain ⟨r, hr⟩ : ∃ r, rows[i]? = some r := ⟨_, List.getElem?_eq_getElem (by rw [HRL.out]; exact hit)⟩
          obtain ⟨hrl, hrm⟩ := HR.out r (List.mem_of_getElem? hr)
          obtain ⟨m, hmn, hm⟩ := hrm b hlt
          obtain ⟨b2, o2, c2, hq1, hq2, hq3, hq4, hq5⟩ := HCL.out i r hr (by omega)
          have hBw : Below w.heap.size w wr := HBW.out.trans (hbw.mono hsw)
          have hcr := (hBw.cell (p := ⟨g, off + i, none⟩) hg).trans hq1
          have hcm := (hBw.cell (p := ⟨b2, o2 + b, none⟩) hq4).trans (hq5 b (by omega))
          rw [hm] at hcm
          rw [hrl] at hcr hq2
          obtain ⟨y, hy, hcx, hfx⟩ := owns_cellAt hown hmn
          have HM2 := hide (hM.out.step hr hm)
          clear hq5 hrm hm hr hrl hq1 hy
          go_wp2
          go_roundw
          case rel => exact ⟨i + 1, _, by omega, by go_num, HM2, owns_set_int hown _, hbw.setCell (Nat.le_refl _) _⟩
          case measure => simp [intOf]; omega
        · obtain rfl : i = rl := by omega
          have hzl := hM.out.1
          have HT : Hid (∀ k, k < n → wr.cell? ⟨wo.heap.size, k, none⟩ = some (.int .i64 (if rows.any (fun r => r.getD b 0 == (k : Int)) then 1 else 0))) := fun k hk => by
            have h1' := (owns_cell hown hk).1
            have h2' := hM.out.2 k hk
            rw [List.take_of_length_le (by rw [HRL.out]; exact Nat.le_refl _)] at h2'
            rw [h2'] at h1'
            exact h1'
          have hlt2 : wo.heap.size < wr.heap.size := (hown.lt wo.heap.size rfl).2
          have HB2 := hide hbw
          obtain ⟨w2, hw2⟩ : ∃ w2, w2 = wr := ⟨_, rfl⟩
          subst hw2
          clear hown hM hbw hzl
          go_wp2
          go_loopw [9, 10] (fun so sk wr => ∃ (k : Nat) (u : Value) (L : List Nat), k ≤ n ∧ so = u ∧ sk = .int .i64 k ∧ Hid (L = thrTo rows b k) ∧ wr.ownsRow w2.heap.size 3 1 u L.length ((natI L).map (Value.int .i64)) ∧ Below w2.heap.size w2 wr) (fun _ sk _ => n - (intOf sk).toNat)
          case atStart => exact ⟨0, _, [], Nat.zero_le _, rfl, rfl, rfl, World.ownsRow_nil _ _ _ _, Below.refl _ _⟩
          case round =>
            obtain ⟨k, u, L, hk, rfl, rfl, hL, hown, hbw⟩ := hrel
            have hLn : L.length ≤ n := by rw [hL.out]; exact Nat.le_trans (thrTo_length rows b k) hk
            by_cases hkt : k < n
            · have hct := (hbw.cell (p := ⟨wo.heap.size, k, none⟩) hlt2).trans (HT.out k hkt)
              have hs3 := hbw.size
              cases ha : rows.any (fun r => r.getD b 0 == (k : Int)) with
              | true =>
                rw [ha, if_pos rfl] at hct
                have HL2 : Hid (L ++ [k] = thrTo rows b (k + 1)) := by show _ = _; rw [thrTo_yes ha, hL.out]
                have HOW := hide hown
                have HBW3 := hide hbw
                clear ha hL hown hbw
                generalize hll : L.length = ll at *
                have HLn := hide hll
                clear hll
                go_wp2_with (at_builtin; refine wpList_append_own _ rfl _ _ 23 rfl w2.heap.size 3 i0 (.int .i64 0) 1 8 Try.underlying23 hi hz0 hz1 hz2 rfl (by decide) _ _ _ rfl (HOW.out.alloc _) ⟨wr.heap.size, 0, none⟩ 1 1 [.int .i64 (k : Int)] rfl rfl ?c1 ?c2 ?c3 ?c4 ?c5 ?_)
                case c1 => exact cell_one_new _ _ _
                case c2 => intro u hu; simp at hu; subst hu; rfl
                case c3 => unfold maxLen; omega
                case c4 => omega
                case c5 => simp; omega
                intro v8 w8 hown8 hg8 _
                have HB8 : Hid (Below w2.heap.size w2 w8) := (HBW3.out.alloc hs3 _).grown hg8 (by simp; omega) (fun g hg => (HOW.out.lt g hg).1)
                have HO8 : Hid (w8.ownsRow w2.heap.size 3 1 v8 (L ++ [k]).length ((natI (L ++ [k])).map (Value.int .i64))) := by
                  show World.ownsRow _ _ _ _ _ _ _
                  unfold natI at *
                  rw [List.length_append, List.map_append, List.map_append, HLn.out]; exact hown8
                clear hown8 hg8 HOW HBW3
                go_wp2
                go_roundw
                case rel =>
                  have hfin : ∃ (k' : Nat) (u : Value) (L : List Nat), k' ≤ n ∧ v8 = u ∧ Value.int .i64 ((k : Int) + 1) = .int .i64 (k' : Int) ∧ Hid (L = thrTo rows b k') ∧ w8.ownsRow w2.heap.size 3 1 u L.length ((natI L).map (Value.int .i64)) ∧ Below w2.heap.size w2 w8 := ⟨k + 1, _, L ++ [k], hkt, rfl, by go_num, HL2, HO8.out, HB8.out⟩
                  first
                    | exact hfin
                    | ((repeat apply Exists.intro); exact ⟨hfin, rfl⟩)
                case measure => simp [intOf]; omega
              | false =>
                rw [ha, if_neg (by decide)] at hct
                have HL2 : Hid (L = thrTo rows b (k + 1)) := by show _ = _; rw [thrTo_no ha, hL.out]
                have HOW := hide hown
                have HBW3 := hide hbw
                clear ha hL hown hbw
                go_wp2
                go_roundw
                case rel =>
                  have hfin : ∃ (k' : Nat) (u : Value) (L : List Nat), k' ≤ n ∧ u9 = u ∧ Value.int .i64 ((k : Int) + 1) = .int .i64 (k' : Int) ∧ Hid (L = thrTo rows b k') ∧ wr.ownsRow w2.heap.size 3 1 u L.length ((natI L).map (Value.int .i64)) ∧ Below w2.heap.size w2 wr := ⟨k + 1, _, L, hkt, rfl, by go_num, HL2, HOW.out, HBW3.out⟩
                  first
                    | exact hfin
                    | ((repeat apply Exists.intro); exact ⟨hfin, rfl⟩)
                case measure => simp [intOf]; omega
            · obtain rfl : k = n := by omega
              have hLt : L = thr rows k b := hL.out
              obtain ⟨r, hr⟩ : ∃ r, rows[0]? = some r := ⟨_, List.getElem?_eq_getElem (by rw [HRL.out]; exact h0)⟩
              obtain ⟨hrl, hrm⟩ := HR.out r (List.mem_of_getElem? hr)
              obtain ⟨m, hmn, hm⟩ := hrm b hlt
              have hLm : m ∈ L := by rw [hLt]; exact mem_thr.2 ⟨hmn, r, List.mem_of_getElem? hr, hm⟩
              obtain ⟨a, L', hLe⟩ : ∃ a L', L = a :: L' := by
                cases L with
                | nil => cases hLm
                | cons a L' => exact ⟨a, L', rfl⟩
              have hL1 : 1 ≤ L.length := List.length_pos_of_mem hLm
              have hown' := hown
              obtain ⟨ob, oc, eo, ho1, ho2, ho3, ho4⟩ := owns_form hown hL1
              subst eo
              have hnl : (natI L).length = L.length := by unfold natI; rw [List.length_map]
              have hca : wr.cell? ⟨ob, 0, none⟩ = some (.int .i64 (a : Int)) := by
                have := (owns_cell hown (j := 0) (by omega)).1
                rw [hLe] at this
                exact this
              have hB3 : Below wo.heap.size wo wr := HB2.out.trans (hbw.mono HB2.out.size)
              have hBw : Below w.heap.size w wr := HBW.out.trans (hB3.mono hsw)
              have hs4 := hBw.size
              have HBw := hide hBw
              have HL3 := hide (HLL.out.below hB3)
              have HO3 : Hid (wr.ownsRow w.heap.size 3 1 (.slice (some ⟨ob, 0, none⟩) L.length oc) (natI L).length ((natI L).map (Value.int .i64))) := by
                show World.ownsRow _ _ _ _ _ _ _
                rw [hnl]; exact owns_base hown (Nat.le_trans hsw HB2.out.size)
              have hhd : (thr rows k b).head? = some a := by rw [← hLt, hLe]; rfl
              have HLe : Hid (L = thr rows k b) := hLt
              have HNL := hide hnl
              clear hown hown' hL hbw hB3 hBw hr hrl hrm hm hLm hLe hLt hnl
              generalize hll : L.length = ll at *
              have HLn := hide hll
              clear hll
              by_cases hab : a = b
              · subst hab
                have HX : Hid (rorbsTo rows k (a + 1) = rorbsTo rows k a ++ [L]) := by
                  show (if (thr rows k a).head? = some a then _ else _) = _
                  rw [if_pos hhd, HLe.out]
                have HrL := hide HL3.out.row
                go_wp2_with (at_builtin; refine wpList_append_own _ rfl _ _ 22 rfl w.heap.size 23 j0 (.slice none 0 0) 1 24 Try.underlying22 hj0 jz0 jz1 jz2 rfl (by decide) _ _ _ rfl (HrL.out.alloc _) ⟨wr.heap.size, 0, none⟩ 1 1 [.slice (some ⟨ob, 0, none⟩) ll oc] rfl rfl ?d1 ?d2 ?d3 ?d4 ?d5 ?_)
                case d1 => exact cell_one_new _ _ _
                case d2 => intro u hu; simp at hu; subst hu; rfl
                case d3 => unfold maxLen; omega
                case d4 => omega
                case d5 => simp; omega
                intro v9 w9 hown9 hg9 _
                have HL9 := hide (HL3.out.push HO3.out hown9 hg9)
                have HB9 := hide (HL3.out.step HBw.out (Nat.le_refl _) hs4 hg9)
                clear hown9 hg9
                go_wp2
                go_roundw
                case rel =>
                  have hfin : ∃ (b' : Nat) (u : Value) (vs : List Value), b' ≤ k ∧ v9 = u ∧ Value.int .i64 ((a : Int) + 1) = .int .i64 (b' : Int) ∧ LL w9 w.heap.size u vs ((rorbsTo rows k b').map natI) ∧ Below w.heap.size w w9 := ⟨a + 1, _, _, hlt, rfl, by go_num, by rw [HX.out, List.map_append]; exact HL9.out, HB9.out⟩
                  first
                    | exact hfin
                    | ((repeat apply Exists.intro); exact ⟨hfin, rfl⟩)
                case measure => simp [intOf]; omega
              · have HX : Hid (rorbsTo rows k (b + 1) = rorbsTo rows k b) := by
                  show (if (thr rows k b).head? = some b then _ else _) = _
                  rw [if_neg (by rw [hhd]; intro e; exact hab (Option.some.inj e))]
                have habI : ¬ (a : Int) = (b : Int) := by omega
                go_wp2
                go_roundw
                case rel =>
                  have hfin : ∃ (b' : Nat) (u : Value) (vs : List Value), b' ≤ k ∧ u5 = u ∧ Value.int .i64 ((b : Int) + 1) = .int .i64 (b' : Int) ∧ LL wr w.heap.size u vs ((rorbsTo rows k b').map natI) ∧ Below w.heap.size w wr := ⟨b + 1, _, vs, hlt, rfl, by go_num, by rw [HX.out]; exact HL3.out, HBw.out⟩
                  first
                    | exact hfin
                    | ((repeat apply Exists.intro); exact ⟨hfin, rfl⟩)
                case measure => simp [intOf]; omega
    · obtain rfl : b = n := by omega
      have HLL := hide hLL
      have HBW := hide hbw
      clear hLL hbw
      go_wp2
      go_ret
      exact ⟨_, vs, rfl, HLL.out, HBW.out⟩
end Go.Proofs.Ytimfoggjocajiaa

/- Plain: how many rows few bells have; what sizes tell (out of GNormP). -/
namespace Go.Proofs.Ytimfoggjocajiaa
open Go.RowKit

theorem rkP_lt {n : Nat} (x : Pm) (h12 : n ≤ 12) : rkP n x < fct n := by
  unfold rkP
  have h := rankR_lt (cut n x)
  rw [← rkTo_all, cut_length h12] at h
  exact h

theorem RunOk.few {n : Nat} {xss : List (List Int)} {S : List (Pm × List Int)} (h12 : n ≤ 12) (h : RowsN n xss) (hS : RunOk (letters 0 xss) S) : S.length ≤ fct n := by
  have hn : (S.map (fun e => rkP n e.1)).Nodup := by
    have h1 := hS.nodup
    have hf : ∀ e, e ∈ S → Fixes (fun b => n ≤ b) e.1 := fun e he => hS.fix h12 h he
    clear hS
    induction S with
    | nil => simp
    | cons e S ih =>
      rw [List.map_cons, List.nodup_cons] at h1 ⊢
      refine ⟨fun hm => h1.1 ?_, ih h1.2 (fun e he => hf e (List.mem_cons_of_mem _ he))⟩
      obtain ⟨e', he', h2⟩ := List.mem_map.1 hm
      exact List.mem_map.2 ⟨e', he', rkP_inj h12 (hf e' (List.mem_cons_of_mem _ he')) (hf e List.mem_cons_self) h2⟩
  have := nodup_len (S.map (fun e => rkP n e.1)) (List.range (fct n)) hn (fun b hb => by
    obtain ⟨e, _, rfl⟩ := List.mem_map.1 hb
    exact List.mem_range.2 (rkP_lt e.1 h12))
  rwa [List.length_map, List.length_range] at this

theorem fct_five {n : Nat} (h : n ≤ 5) : fct n ≤ 120 := by
  have key : ∀ k, k < 6 → fct k ≤ 120 := by decide
  exact key n (by omega)

/-- Sizes tell whether all of the second are in the first. -/
theorem sizes_tell {n : Nat} {gss sss : List (List Int)} (h12 : n ≤ 12) (hg : RowsN n gss) (hs : RowsN n sss) :
    sz (Gen (fun y => y ∈ (gss ++ sss).map pad)) n = sz (Gen (fun y => y ∈ gss.map pad)) n ↔ ∀ y, y ∈ sss.map pad → Gen (fun y => y ∈ gss.map pad) y := by
  have hsub : ∀ x, Gen (fun y => y ∈ gss.map pad) x → Gen (fun y => y ∈ (gss ++ sss).map pad) x := fun x => Gen.mono (fun y hy => by rw [List.map_append]; exact List.mem_append_left _ hy)
  constructor
  · intro he y hy
    refine sz_all (Gen.sub _) (Gen.sub _) hsub h12 (fun x hx => hx.least (fixes_sub _) (fun s hs' => ?_)) he.symm y (Gen.of (by rw [List.map_append]; exact List.mem_append_right _ hy))
    obtain ⟨Z, hZ, rfl⟩ := List.mem_map.1 hs'
    rcases List.mem_append.1 hZ with hZ | hZ
    · exact pad_fixes h12 (hg Z hZ).2 (hg Z hZ).1
    · exact pad_fixes h12 (hs Z hZ).2 (hs Z hZ).1
  · intro h
    refine sz_congr (fun x => ⟨fun hx => hx.least (Gen.sub _) (fun s hs' => ?_), hsub x⟩) n
    rw [List.map_append] at hs'
    rcases List.mem_append.1 hs' with h1 | h1
    · exact Gen.of h1
    · exact h s h1

end Go.Proofs.Ytimfoggjocajiaa

/- append of what came in, wherever the operation is wanted. -/
namespace Go.Proofs.Ytimfoggjocajiaa
open Go.RowKit

/-- An operation that is wanted, guarded or not. -/
theorem wpList_want {P : Program} {ops : Array Oper} {Q : Exit → Act → World → Prop} {a : Act} {w : World} {rest : List Oper} {o : Oper} (hw : Region.wanted o (yielded ops a.tmps) = true)
    (h : ∀ K : Act → World → Prop, (∀ a w, wpList P ops Q rest a w → K a w) → o.wp P a w K Q) : wpList P ops Q (o :: rest) a w :=
  wpList_step fun K hK => by rw [if_pos hw]; exact h K hK

/-- 'append(a, b...)': a owned, b whatever came in; the operation guarded or not. -/
theorem wpList_append_want {P : Program} {w : World} {ops : Array Oper} {rest : List Oper} {o : Oper} {a : Act} {Q : Exit → Act → World → Prop} (hgd : Region.wanted o (yielded ops a.tmps) = true) (s x : Operand) (t : TypeId)
    (ho : o.op = .call { callee := .builtin .append, args := #[s, x], argTypes := #[t, t] })
    (base : Nat) (e : TypeId) (i : TypeInfo) (z : Value) (bytes : Nat) (ht : P.underlying t = some (.slice e)) (hi : P.info? e = some i) (hz : i.zero = some z)
    (hsize : i.size = 1) (hby : i.bytes = bytes) (hzs : z.cells.size = 1)
    (v : Value) (n : Nat) (xs : List Value) (hs : a.eval s = v) (hown : w.ownsRow base e 1 v n xs)
    (u : Value) (news : List Value) (hx : a.eval x = u) (hsrc : Vals w u news) (h1 : ∀ u ∈ news, u.oneCell' = true)
    (h63 : n + news.length ≤ maxLen) (hbytes : (n + news.length) * bytes ≤ 140737488355328) (hbase : base ≤ w.heap.size)
    (h : ∀ v' w', w'.ownsRow base e 1 v' (n + news.length) (xs ++ news) → w.grownBy w' v.ownBlock → wpList P ops Q rest (a.put o.dst v') w') :
    wpList P ops Q (o :: rest) a w := by
  refine wpList_want hgd fun K hK => ?_
  obtain ⟨v', w', hr, h2, h3⟩ := run_append_vals (P := P) w base t o.type e i z bytes ht hi hz hsize hby hzs v n xs hown u news hsrc h1 h63 hbytes hbase
  unfold Oper.wp execOp
  simp only [ho, resolve, invoke, builtin, Sem.run_bind, Sem.run_pure, Result.andThen_ok, List.map_toArray, List.map_cons, List.map_nil, hs, hx, hr]
  exact hK _ _ (h v' w' h2 h3)

/-- One value in a block of its own. -/
theorem vals_one (w : World) (u : Value) (t : TypeId) : Vals (w.alloc (.cells #[u] t)) (.slice (some ⟨w.heap.size, 0, none⟩) 1 1) [u] :=
  Or.inr ⟨w.heap.size, 0, 1, rfl, by simp, by simp, by omega, by simp, fun j hj => by
    have : j = 0 := by simp at hj; omega
    subst this
    have := cell_one_new w u t 0 u rfl
    rw [Addr.add_lit] at this
    exact this⟩

end Go.Proofs.Ytimfoggjocajiaa

/- Plain: all rows of a group, in order; letters; what sizes tell. Contract: the answer's Ordered over rows that came in. -/
namespace Go.Proofs.Ytimfoggjocajiaa
open Go.RowKit

theorem letters_glet : ∀ (k : Nat) (gss : List (List Int)), glet k (gss.map pad) = letters k gss
  | _, [] => rfl
  | k, x :: t => by
    show ((k : Int) + 1, pad x) :: (-(k : Int) - 1, (pad x)⁻¹) :: glet (k + 1) (t.map pad) = ((k : Int) + 1, pad x) :: (-((k : Int) + 1), (pad x)⁻¹) :: letters (k + 1) t
    rw [letters_glet (k + 1) t, show (-(k : Int) - 1) = -((k : Int) + 1) by omega]

theorem lcmp_app : ∀ (a b c : List Int), a.length = b.length → lcmp (a ++ c) (b ++ c) = lcmp a b
  | [], [], c, _ => by rw [List.nil_append]; exact lcmp_self c
  | x :: a, y :: b, c, h => by
    have := lcmp_app a b c (by simpa using h)
    rw [List.cons_append, List.cons_append, lcmp_cons, lcmp_cons, this]

theorem cut_l {n : Nat} {x : Pm} (h12 : n ≤ 12) (hf : Fixes (fun b => n ≤ b) x) : x.l = cut n x ++ (rnd 12).drop n := by
  have h := pad_l (by rw [cut_length h12]; exact h12) (cut_row h12 hf)
  rw [pad_cut h12 hf, cut_length h12] at h
  exact h

theorem cut_lcmp {n : Nat} {x y : Pm} (h12 : n ≤ 12) (hx : Fixes (fun b => n ≤ b) x) (hy : Fixes (fun b => n ≤ b) y) : lcmp x.l y.l = lcmp (cut n x) (cut n y) := by
  rw [cut_l h12 hx, cut_l h12 hy]
  exact lcmp_app _ _ _ (by rw [cut_length h12, cut_length h12])

theorem cut_inj {n : Nat} {x y : Pm} (h12 : n ≤ 12) (hx : Fixes (fun b => n ≤ b) x) (hy : Fixes (fun b => n ≤ b) y) (h : cut n x = cut n y) : x = y := by
  rw [← pad_cut h12 hx, h, pad_cut h12 hy]

theorem nodup_cut {n : Nat} (h12 : n ≤ 12) : ∀ (X : List Pm), (∀ x, x ∈ X → Fixes (fun b => n ≤ b) x) → X.Nodup → (X.map (cut n)).Nodup
  | [], _, _ => by simp
  | a :: l, hf, h => by
    rw [List.nodup_cons] at h
    rw [List.map_cons, List.nodup_cons]
    exact ⟨fun hm => by
      obtain ⟨b, hb, e⟩ := List.mem_map.1 hm
      exact h.1 (by rw [← cut_inj h12 (hf b (List.mem_cons_of_mem _ hb)) (hf a List.mem_cons_self) e]; exact hb), nodup_cut h12 l (fun x hx => hf x (List.mem_cons_of_mem _ hx)) h.2⟩

/-- Rows in order, each once. -/
theorem cut_rising {n : Nat} {X : List Pm} (h12 : n ≤ 12) (hf : ∀ x, x ∈ X → Fixes (fun b => n ≤ b) x) (hn : X.Nodup) (hs : X.Pairwise (fun a b => 0 ≤ lcmp b.l a.l)) : (X.map (cut n)).Pairwise (fun a b => blw a b = true) := by
  refine Ris.rising ?_ (nodup_cut h12 X hf hn)
  show (X.map (cut n)).Pairwise _
  rw [List.pairwise_map]
  refine List.Pairwise.imp_of_mem (fun {a b} ha hb h => ?_) hs
  rw [blw_lcmp, ← cut_lcmp h12 (hf b hb) (hf a ha)]
  exact decide_eq_false (by omega)

/-- All rows of a group in order are told by whoever lists them. -/
theorem group_ordered {n : Nat} {X : List Pm} {R Y : List (List Int)} {S : List Pm} (h12 : n ≤ 12) (hf : ∀ x, x ∈ X → Fixes (fun b => n ≤ b) x) (hn : X.Nodup) (hs : X.Pairwise (fun a b => 0 ≤ lcmp b.l a.l)) (hS : S.Nodup) (hm : ∀ x, x ∈ X ↔ x ∈ S) (hR : R = S.map (cut n)) (hY : Y.Perm R) (hYs : Ris Y) : X.map (cut n) = Y := by
  have hSf : ∀ x, x ∈ S → Fixes (fun b => n ≤ b) x := fun x hx => hf x ((hm x).2 hx)
  refine rising_eq (cut_rising h12 hf hn hs) (hYs.rising (hY.nodup_iff.2 (by rw [hR]; exact nodup_cut h12 S hSf hS))) (fun r => ?_)
  rw [hY.mem_iff, hR, List.mem_map, List.mem_map]
  exact ⟨fun ⟨x, h1, h2⟩ => ⟨x, (hm x).1 h1, h2⟩, fun ⟨x, h1, h2⟩ => ⟨x, (hm x).2 h1, h2⟩⟩

theorem gchk_back {n : Nat} : ∀ {xss : List (List Int)}, gchk n xss = 0 → RowsN n xss
  | [], _ => fun x hx => by cases hx
  | x :: t, h => by
    have h' : (if rchk n x = 0 then gchk n t else rchk n x) = 0 := h
    by_cases e : rchk n x = 0
    · rw [if_pos e] at h'
      intro y hy
      rcases List.mem_cons.1 hy with rfl | hy
      · exact ⟨(rchk_zero e).1, (rchk_zero e).2.1⟩
      · exact gchk_back h' y hy
    · rw [if_neg e] at h'
      exact absurd h' e

/-- The answer's Ordered over what came in. -/
theorem rordered_all (v : Value) (rows : List (List Int)) (w : World) (h : IntsAll w v rows) (hN : rows.length ≤ 1000000) (hr : ∀ r, r ∈ rows → r.length ≤ 1000000) :
    Calls Try.prog 47 #[v] w fun e w' => ∃ u Y, e = .returned u ∧ IntsAll w' u Y ∧ Y.Perm rows ∧ Ris Y ∧ Below w.heap.size w w' := by
  obtain ⟨vs, hv, hl, he⟩ := h
  have hzl : (vs.zip rows).length = rows.length := by rw [List.length_zip]; omega
  have hfst : (vs.zip rows).map Prod.fst = vs := List.map_fst_zip (by omega)
  have hsnd : (vs.zip rows).map Prod.snd = rows := List.map_snd_zip (by omega)
  have hP : ∀ p, p ∈ vs.zip rows → Ints w p.1 p.2 ∧ p.2.length ≤ 1000000 := fun p hp => by
    obtain ⟨j, hj, e⟩ := List.getElem_of_mem hp
    rw [hzl] at hj
    have h1 := he j hj
    have hjv : j < vs.length := by omega
    rw [List.getElem_zip] at e
    rw [← e]
    refine ⟨?_, hr _ (List.getElem_mem _)⟩
    simpa [List.getD, hjv, hj] using h1
  refine (ordered_ok w (vs.zip rows).length (vs.zip rows) v w (Nat.le_refl _) (by omega) (by rw [hfst]; exact hv) (Below.refl _ _) hP).mono ?_
  rintro e w' ⟨u, P', rfl, hV, hp, hs, hb⟩
  refine ⟨u, P'.map Prod.snd, rfl, ⟨P'.map Prod.fst, hV, by rw [List.length_map, List.length_map], fun j hj => ?_⟩, ?_, ?_, hb⟩
  · rw [List.length_map] at hj
    have h1 := (hP P'[j] (hp.mem_iff.1 (List.getElem_mem hj))).1.below hb
    simpa [List.getD, hj] using h1
  · have := hp.map Prod.snd
    rwa [hsnd] at this
  · show (P'.map Prod.snd).Pairwise _
    rw [List.pairwise_map]
    exact hs

/-- What one row more tells. -/
theorem sizes_one {n : Nat} {gss : List (List Int)} {xs : List Int} (h12 : n ≤ 12) (hg : RowsN n gss) (hx : isRow xs) (hl : xs.length = n) : sz (Gen (fun y => y ∈ (gss ++ [xs]).map pad)) n = sz (Gen (fun y => y ∈ gss.map pad)) n ↔ Gen (fun y => y ∈ gss.map pad) (pad xs) := by
  rw [sizes_tell h12 hg (fun y hy => by rw [List.mem_singleton.1 hy]; exact ⟨hx, hl⟩)]
  constructor
  · intro h; exact h (pad xs) (by simp)
  · intro h y hy
    have : y = pad xs := by simpa using hy
    rw [this]; exact h

end Go.Proofs.Ytimfoggjocajiaa

/- Plain: the rows of a group by their numbers; where a change leads from each. -/
namespace Go.Proofs.Ytimfoggjocajiaa

/-- A row's number. -/
noncomputable def ix (X : List Pm) (p : Pm) : Nat := open Classical in X.findIdx (fun q => decide (q = p))

theorem ix_lt {X : List Pm} {p : Pm} (h : p ∈ X) : ix X p < X.length := by
  classical
  exact List.findIdx_lt_length.2 ⟨p, h, decide_eq_true rfl⟩

theorem ix_get {X : List Pm} {p : Pm} (h : p ∈ X) : X[ix X p]? = some p := by
  classical
  have hl := ix_lt h
  rw [List.getElem?_eq_getElem hl]
  have := List.findIdx_getElem (p := fun q : Pm => decide (q = p)) (w := hl)
  exact congrArg some (of_decide_eq_true this)

theorem get_inj {X : List Pm} (hn : X.Nodup) {i j : Nat} {p : Pm} (hi : X[i]? = some p) (hj : X[j]? = some p) : i = j := by
  have h1 := (List.getElem?_eq_some_iff.1 hi)
  have h2 := (List.getElem?_eq_some_iff.1 hj)
  obtain ⟨l1, e1⟩ := h1
  obtain ⟨l2, e2⟩ := h2
  exact (List.getElem_inj (h₀ := l1) (h₁ := l2) hn).1 (by rw [e1, e2])

theorem ix_of {X : List Pm} (hn : X.Nodup) {i : Nat} {p : Pm} (hi : X[i]? = some p) : ix X p = i := get_inj hn (ix_get (List.mem_of_getElem? hi)) hi

/-- Where a change leads from each row. -/
noncomputable def mv (X : List Pm) (c : Pm) : List Int := X.map (fun p => ((ix X (p * c) : Nat) : Int))

theorem mv_length (X : List Pm) (c : Pm) : (mv X c).length = X.length := by unfold mv; rw [List.length_map]

theorem mv_get {X : List Pm} {c p : Pm} {i : Nat} (h : X[i]? = some p) : (mv X c)[i]? = some ((ix X (p * c) : Nat) : Int) := by unfold mv; rw [List.getElem?_map, h]; rfl

theorem mv_nx {X : List Pm} {c p : Pm} {i : Nat} (h : X[i]? = some p) : nx (mv X c) i = ix X (p * c) := by
  unfold nx
  rw [List.getD, mv_get h]
  rfl

/-- What is closed under a change. -/
def Cls (X : List Pm) (c : Pm) : Prop := ∀ p, p ∈ X → p * c ∈ X

theorem mv_row {X : List Pm} (hn : X.Nodup) {c : Pm} (hc : Cls X c) : isRow (mv X c) := by
  refine ⟨fun y hy => ?_, ?_⟩
  · unfold mv at hy
    obtain ⟨p, hp, rfl⟩ := List.mem_map.1 hy
    rw [mv_length]
    exact ⟨by omega, by have := ix_lt (hc p hp); omega⟩
  · unfold mv
    rw [List.Nodup, List.pairwise_map]
    refine List.Pairwise.imp_of_mem (fun {a b} ha hb h e => h ?_) hn
    have e1 : ix X (a * c) = ix X (b * c) := by omega
    have h1 := ix_get (hc a ha)
    rw [e1, ix_get (hc b hb)] at h1
    have e2 := Option.some.inj h1
    have := congrArg (fun z => z * c⁻¹) e2
    simp only [Pm.mul_assoc, Pm.mul_inv, Pm.mul_one] at this
    exact this.symm

theorem mv_by {X : List Pm} {c d : Pm} (hd : Cls X d) : by_ (mv X c) (mv X d) = mv X (d * c) := by
  refine List.ext_getElem? (fun i => ?_)
  unfold by_
  cases hi : X[i]? with
  | none =>
    have hl := List.getElem?_eq_none_iff.1 hi
    rw [List.getElem?_eq_none (by rw [List.length_map, mv_length]; exact hl), List.getElem?_eq_none (by rw [mv_length]; exact hl)]
  | some p =>
    rw [List.getElem?_map, mv_get hi, mv_get hi, Option.map_some]
    have hp := hd p (List.mem_of_getElem? hi)
    have h2 := mv_get (c := c) (ix_get hp)
    rw [List.getD, Int.toNat_natCast, h2, Pm.mul_assoc]
    rfl

theorem mv_one {X : List Pm} (hn : X.Nodup) : mv X 1 = (List.range X.length).map (fun i => ((i : Nat) : Int)) := by
  refine List.ext_getElem? (fun i => ?_)
  cases hi : X[i]? with
  | none =>
    have hl := List.getElem?_eq_none_iff.1 hi
    rw [List.getElem?_eq_none (by rw [mv_length]; exact hl), List.getElem?_eq_none (by simp; exact hl)]
  | some p =>
    have hl := (List.getElem?_eq_some_iff.1 hi).1
    rw [mv_get hi, Pm.mul_one, ix_of hn hi, List.getElem?_map, List.getElem?_range hl]
    rfl

end Go.Proofs.Ytimfoggjocajiaa

/- The walk of groupRows where the group has more rows than are told. -/
namespace Go.Proofs.Ytimfoggjocajiaa
open Go.RowKit

/-- What a law of a group knows. -/
structure GLaw (w : World) (v vg vr : Value) (n : Nat) (gss : List (List Int)) (xs : List Int) : Prop where
  grp : GroupAt w v n (gss.map pad)
  gens : IntsAll w vg gss
  rows : RowsN n gss
  row : Ints w vr xs
  one : 1 ≤ n
  twelve : n ≤ 12
  eight : gss.length ≤ 8

theorem GLaw.later {w w' : World} {v vg vr : Value} {n : Nat} {gss : List (List Int)} {xs : List Int} (h : GLaw w v vg vr n gss xs) (hb : Below w.heap.size w w') : GLaw w' v vg vr n gss xs :=
  ⟨h.grp.below hb (Nat.le_refl _), h.gens.below hb, h.rows, h.row.below hb, h.one, h.twelve, h.eight⟩

/-- Rows that came in and one more. -/
theorem gens_more {w w' : World} {u v' : Value} {vs : List Value} {gss : List (List Int)} {xs : List Int} (hl : vs.length = gss.length) (he : ∀ j, j < gss.length → Ints w (vs.getD j undef) (gss.getD j [])) (hx : Ints w u xs) (hb : Below w.heap.size w w') (hv : Vals w' v' (vs ++ [u])) : IntsAll w' v' (gss ++ [xs]) := by
  refine ⟨vs ++ [u], hv, by simp [hl], fun j hj => ?_⟩
  refine (ints_join hl he (vs := [u]) (xb := [xs]) (fun j hj => ?_) j hj).below hb
  have : j = 0 := by simp at hj; omega
  subst this
  exact hx

set_option maxRecDepth 20000 in
set_option maxHeartbeats 2000000 in
theorem groupRows_refused (v vg vr : Value) (n : Nat) (gss : List (List Int)) (xs : List Int) (bell : Int) (w : World) (h : GLaw w v vg vr n gss xs) (hz : rchk n xs ≠ 0) (hs : 5040 < sz (Gen (fun y => y ∈ gss.map pad)) n) :
    Calls Try.prog 25 #[v, .int .i64 n, vg, vr, .int .i64 (rchk n xs), .int .i64 bell, .int .i64 ((sz (Gen (fun y => y ∈ gss.map pad)) n : Nat) : Int)] w fun e w' => Told w e w' := by
  have h12 := h.twelve
  have HW := hide (word_ok n v vr (gss.map pad) xs w h12 (by rw [List.length_map]; have := h.eight; omega) h.grp h.row)
  have HE : Hid (∀ w', Below w.heap.size w w' → Calls Try.prog 56 #[v] w' fun e w'' => ElPost n (gss.map pad) w' e w'') := fun w' hb => elements_ok n v _ w' h12 (h.grp.below hb (Nat.le_refl _))
  have HS := hide hs
  have HZ := hide hz
  generalize hsz : sz (Gen (fun y => y ∈ gss.map pad)) n = z at *
  have HSZ := hide hsz
  have hsI : (5040 : Int) < (z : Int) := by omega
  have hne : (rchk n xs == 0) = false := beq_eq_false_iff_ne.2 hz
  clear h hsz
  go_enter Try.func25, Try.ntmps25
  go_wp2_with fail
  refine HW.out.mono ?_
  rintro ex w1 ⟨hb1, hpost⟩
  obtain rfl : ex = .returned (.tuple #[.slice none 0 0, .int .i64 (rchk n xs)]) := by
    rcases hpost with h | h | h | h
    · exact h.2
    · exact absurd h.1 HZ.out
    · exact absurd h.1 HZ.out
    · exact absurd h.1 HZ.out
  clear hpost HW
  go_wp2_with fail
  refine (HE.out w1 hb1).mono ?_
  rintro ex w2 ⟨hb2, hpost⟩
  rw [HSZ.out, if_pos HS.out] at hpost
  subst hpost
  have HB2 := hide (hb1.trans (hb2.mono hb1.size))
  clear hb1 hb2 HE
  go_wp2
  go_ret
  exact ⟨rfl, HB2.out⟩

set_option maxRecDepth 20000 in
set_option maxHeartbeats 4000000 in
theorem groupRows_big (v vg vr : Value) (n : Nat) (gss : List (List Int)) (xs : List Int) (bell : Int) (w : World) (h : GLaw w v vg vr n gss xs) (hz : rchk n xs = 0) (hs : 5040 < sz (Gen (fun y => y ∈ gss.map pad)) n) :
    Calls Try.prog 25 #[v, .int .i64 n, vg, vr, .int .i64 0, .int .i64 bell, .int .i64 ((sz (Gen (fun y => y ∈ gss.map pad)) n : Nat) : Int)] w fun e w' => Told w e w' := by
  have h12 := h.twelve
  have h1 := h.one
  have h8 := h.eight
  obtain ⟨i0, hi, hz0, hz1, hz2⟩ := info_parts Try.info23
  obtain ⟨hxr, hxl, _, _⟩ := rchk_zero hz
  have HT := hide (sizes_one h12 h.rows hxr hxl)
  have HRN : Hid (RowsN n (gss ++ [xs])) := fun y hy => by
    rcases List.mem_append.1 hy with hy | hy
    · exact h.rows y hy
    · rw [List.mem_singleton.1 hy]; exact ⟨hxr, hxl⟩
  have HW := hide (word_ok n v vr (gss.map pad) xs w h12 (by rw [List.length_map]; omega) h.grp h.row)
  have HE : Hid (∀ w', Below w.heap.size w w' → Calls Try.prog 56 #[v] w' fun e w'' => ElPost n (gss.map pad) w' e w'') := fun w' hb => elements_ok n v _ w' h12 (h.grp.below hb (Nat.le_refl _))
  have HG := hide h.gens
  have HX := hide h.row
  obtain ⟨px, cx, rfl⟩ := h.row.form
  have HS := hide hs
  have HZ := hide hz
  generalize hsz : sz (Gen (fun y => y ∈ gss.map pad)) n = z at *
  have HSZ := hide hsz
  have hsI : (5040 : Int) < (z : Int) := by omega
  rw [hxl] at *
  clear h hsz hxr
  go_enter Try.func25, Try.ntmps25
  go_wp2_with fail
  refine HW.out.mono ?_
  rintro ex w1 ⟨hb1, hpost⟩
  obtain ⟨er, rfl, her⟩ : ∃ er : Int, ex = .returned (.tuple #[.slice none 0 0, .int .i64 er]) ∧ ((Gen (fun y => y ∈ gss.map pad) (pad xs) ∧ er = 3) ∨ (¬ Gen (fun y => y ∈ gss.map pad) (pad xs) ∧ er = 14)) := by
    rcases hpost with h | h | h | h
    · exact absurd HZ.out h.1
    · exact ⟨14, h.2.2, Or.inr ⟨h.2.1, rfl⟩⟩
    · exact ⟨3, h.2.2.2, Or.inl ⟨h.2.1, rfl⟩⟩
    · have := h.2.2.1; rw [HSZ.out] at this; have := HS.out; omega
  clear hpost HW
  go_wp2_with fail
  refine (HE.out w1 hb1).mono ?_
  rintro ex w2 ⟨hb2, hpost⟩
  rw [HSZ.out, if_pos HS.out] at hpost
  subst hpost
  have hB2 := hb1.trans (hb2.mono hb1.size)
  have hs2 := hB2.size
  obtain ⟨vs, hV, hvl, hve⟩ := HG.out.below hB2
  have HXa := hide (HX.out.below hB2)
  have HVE := hide hve
  have HVL := hide hvl
  have hvl8 : vs.length ≤ 8 := by omega
  have hbE : Below w2.heap.size w2 (w2.alloc (.cells #[] 23)) := (Below.refl _ _).alloc (Nat.le_refl _) _
  have HVa := hide (hV.below hbE)
  have HCE := hide (vals_cells hvl hve)
  have HE5 : Hid ((w2.alloc (.cells #[] 23)).ownsRow w2.heap.size 23 1 (.slice (some ⟨w2.heap.size, 0, none⟩) 0 0) 0 []) := World.ownsRow_made w2 #[] 0 (Nat.le_refl _) (by decide) (by simp)
  have HMZ : Hid (w2.heap.size ≤ (w2.alloc (.cells #[] 23)).heap.size) := by unfold Hid; simp
  have HM1 : Hid (0 + vs.length ≤ maxLen) := by unfold Hid maxLen; omega
  have HM2 : Hid ((0 + vs.length) * 24 ≤ 140737488355328) := by unfold Hid; omega
  clear hb1 hb2 HE hV hve hvl hbE
  have HB2 := hide hB2
  clear hB2
  go_wp2_with (at_builtin; refine wpList_append_want (by rfl) _ _ 22 rfl w2.heap.size 23 i0 (.slice none 0 0) 24 Try.underlying22 hi hz0 hz1 hz2 rfl _ _ _ rfl HE5.out vg vs rfl HVa.out HCE.out HM1.out HM2.out HMZ.out ?_)
  intro v6 w6 hown6 hg6
  have hown6 : w6.ownsRow w2.heap.size 23 1 v6 vs.length vs := by simpa using hown6
  have hb6 : Below w2.heap.size w2 w6 := ((Below.refl _ _).alloc (Nat.le_refl _) _).grown hg6 (by simp) (fun k hk => by have e' : w2.heap.size = k := Option.some.inj hk; omega)
  have hs6 := hb6.size
  have HO6 : Hid (∀ o : Obj, (w6.alloc o).ownsRow w2.heap.size 23 1 v6 vs.length vs) := fun o => hown6.alloc o
  have HO6' := hide hown6
  have HV6 : Hid (Vals (w6.alloc (.cells #[.slice px n cx] 23)) (.slice (some ⟨w6.heap.size, 0, none⟩) 1 1) [.slice px n cx]) := vals_one _ _ _
  have HC6 : Hid (∀ u ∈ [Value.slice px n cx], u.oneCell' = true) := fun u hu => by rw [List.mem_singleton.1 hu]; rfl
  have HM3 : Hid (vs.length + [Value.slice px n cx].length ≤ maxLen) := by unfold Hid maxLen; simp; omega
  have HM4 : Hid ((vs.length + [Value.slice px n cx].length) * 24 ≤ 140737488355328) := by unfold Hid; simp; omega
  have HM5 : Hid (w2.heap.size ≤ (w6.alloc (.cells #[.slice px n cx] 23)).heap.size) := by unfold Hid; simp; omega
  have HB6 := hide hb6
  clear hown6 hg6 hb6 HE5 HVa HCE
  go_wp2_with (at_builtin; refine wpList_append_want (by rfl) _ _ 22 rfl w2.heap.size 23 i0 (.slice none 0 0) 24 Try.underlying22 hi hz0 hz1 hz2 rfl _ _ _ rfl (HO6.out _) _ [Value.slice px n cx] rfl HV6.out HC6.out HM3.out HM4.out HM5.out ?_)
  intro v7 w7 hown7 hg7
  have hb7 : Below w2.heap.size w2 w7 := (HB6.out.alloc HB6.out.size _).grown hg7 (by simp; omega) (fun k hk => (HO6'.out.lt k hk).1)
  have hown7 : w7.ownsRow w2.heap.size 23 1 v7 (vs ++ [Value.slice px n cx]).length (vs ++ [Value.slice px n cx]) := by simpa using hown7
  have hA7 : IntsAll w7 v7 (gss ++ [xs]) := gens_more HVL.out HVE.out HXa.out hb7 (Vals.own hown7)
  have hl9 : (gss ++ [xs]).length ≤ 144 := by simp; omega
  have HSz := hide (sizes_ok n v7 (gss ++ [xs]) w7 hA7 HRN.out h1 h12 hl9)
  have HB7 := hide (HB2.out.trans (hb7.mono hs2))
  clear hown7 hg7 hb7 hA7 hl9 HO6 HO6' HV6 HB6 HB2 HRN
  generalize hsy : sz (Gen (fun y => y ∈ (gss ++ [xs]).map pad)) n = y at *
  clear hsy
  go_wp2_with fail
  refine HSz.out.mono ?_
  rintro ex w8 ⟨rfl, hb8⟩
  have HB8 := hide (HB7.out.trans (hb8.mono HB7.out.size))
  clear hb8 HSz HB7
  rcases her with ⟨hg, rfl⟩ | ⟨hg, rfl⟩
  · obtain rfl : y = z := HT.out.2 hg
    go_wp2
    go_ret
    exact ⟨rfl, HB8.out⟩
  · have hyz : ¬ (y : Int) = (z : Int) := fun e => hg (HT.out.1 (by omega))
    go_wp2
    go_ret
    exact ⟨rfl, HB8.out⟩

end Go.Proofs.Ytimfoggjocajiaa

/- Plain: which rows leave a bell where it is. Rows that came in, one by one. -/
namespace Go.Proofs.Ytimfoggjocajiaa
open Go.RowKit

theorem IntsAll.rowI {w : World} {p : Option Addr} {N c : Nat} {rows : List (List Int)} (h : IntsAll w (.slice p N c) rows) (h0 : 0 < rows.length) : ∃ g off, p = some ⟨g, off, none⟩ ∧ N = rows.length ∧ rows.length ≤ c ∧ c ≤ 9223372036854775807 ∧ g < w.heap.size ∧
    ∀ i r, rows[i]? = some r → ∃ u, w.cell? ⟨g, off + i, none⟩ = some u ∧ Ints w u r := by
  obtain ⟨vs, hv, hl, he⟩ := h
  rcases hv with ⟨e, _⟩ | ⟨g, off, cap, h1, h2, h3, h4, h5, h6⟩
  · rw [e] at hl; simp at hl; omega
  · injection h1 with e1 e2 e3
    refine ⟨g, off, e1, by omega, by omega, by omega, h5, fun i r hr => ?_⟩
    have hi := (List.getElem?_eq_some_iff.1 hr).1
    have hI := he i hi
    have er : rows.getD i [] = r := by rw [List.getD, hr]; rfl
    rw [er] at hI
    exact ⟨_, h6 i (by omega), hI⟩

/-- The rows that have a bell in its own place. -/
def stayL (bell : Nat) (L : List (List Int)) : List (List Int) := L.filter (fun r => decide (r.getD bell 0 = (bell : Int)))

theorem stayL_cut {n bell : Nat} (h12 : n ≤ 12) (hb : bell < n) (S : List Pm) : stayL bell (S.map (cut n)) = (S.filter (fun x => decide (x.act bell = bell))).map (cut n) := by
  unfold stayL
  rw [List.filter_map]
  congr 1
  refine List.filter_congr (fun x _ => ?_)
  show decide ((cut n x).getD bell 0 = (bell : Int)) = _
  rw [cut_get x h12 hb]
  by_cases e : x.act bell = bell
  · rw [decide_eq_true e, decide_eq_true (by omega)]
  · rw [decide_eq_false e, decide_eq_false (by omega)]

/-- Those among the first i, in memory. -/
structure StayR (w wr : World) (u : Value) (vs : List Value) (bell i : Nat) (R : List (List Int)) : Prop where
  row : wr.ownsRow w.heap.size 23 1 u vs.length vs
  len : vs.length = (stayL bell (R.take i)).length
  all : ∀ j, j < (stayL bell (R.take i)).length → Ints w (vs.getD j undef) ((stayL bell (R.take i)).getD j [])
  below : Below w.heap.size w wr

theorem StayR.start (w : World) (bell : Nat) (R : List (List Int)) : StayR w w (.slice none 0 0) [] bell 0 R :=
  ⟨World.ownsRow_nil _ _ _ _, by simp [stayL], fun j hj => by simp [stayL] at hj, Below.refl _ _⟩

theorem stayL_yes {bell i : Nat} {R : List (List Int)} {r : List Int} (hr : R[i]? = some r) (h : r.getD bell 0 = (bell : Int)) : stayL bell (R.take (i + 1)) = stayL bell (R.take i) ++ [r] := by
  unfold stayL
  rw [List.take_add_one, hr, List.filter_append]
  show _ ++ List.filter _ [r] = _
  rw [List.filter_cons, if_pos (decide_eq_true h)]
  rfl

theorem stayL_no {bell i : Nat} {R : List (List Int)} {r : List Int} (hr : R[i]? = some r) (h : ¬ r.getD bell 0 = (bell : Int)) : stayL bell (R.take (i + 1)) = stayL bell (R.take i) := by
  unfold stayL
  rw [List.take_add_one, hr, List.filter_append]
  show _ ++ List.filter _ [r] = _
  rw [List.filter_cons, if_neg (by rw [decide_eq_true_iff]; exact h)]
  simp

theorem StayR.same {w wr : World} {u : Value} {vs : List Value} {bell i : Nat} {R : List (List Int)} {r : List Int} (h : StayR w wr u vs bell i R) (hr : R[i]? = some r) (hn : ¬ r.getD bell 0 = (bell : Int)) : StayR w wr u vs bell (i + 1) R := by
  have e := stayL_no hr hn
  refine ⟨h.row, by rw [e]; exact h.len, by rw [e]; exact h.all, h.below⟩

theorem StayR.more {w wr w' : World} {u u' v : Value} {vs : List Value} {bell i : Nat} {R : List (List Int)} {r : List Int} {o : Obj} (h : StayR w wr u vs bell i R) (hr : R[i]? = some r) (hn : r.getD bell 0 = (bell : Int)) (hv : Ints w v r)
    (hown : w'.ownsRow w.heap.size 23 1 u' (vs.length + 1) (vs ++ [v])) (hg : (wr.alloc o).grownBy w' u.ownBlock) : StayR w w' u' (vs ++ [v]) bell (i + 1) R := by
  have e := stayL_yes hr hn
  refine ⟨by rw [List.length_append]; exact hown, by rw [e, List.length_append, List.length_append, h.len]; rfl, ?_, ?_⟩
  · rw [e]
    refine ints_join h.len h.all (fun j hj => ?_)
    have : j = 0 := by simp at hj; omega
    subst this
    exact hv
  · exact (h.below.alloc h.below.size _).grown hg (by have := h.below.size; simp; omega) (fun g hg' => (h.row.lt g hg').1)

theorem StayR.done {w wr : World} {u : Value} {vs : List Value} {bell : Nat} {R : List (List Int)} (h : StayR w wr u vs bell R.length R) : IntsAll wr u (stayL bell R) := by
  have h1 := h.len
  have h2 := h.all
  rw [List.take_length] at h1 h2
  exact ⟨vs, Vals.own h.row, h1, fun j hj => (h2 j hj).below h.below⟩

theorem stayL_length (bell : Nat) (L : List (List Int)) : (stayL bell L).length ≤ L.length := List.length_filter_le _ _

/-- What a search that has gone through all has found. -/
structure Found (n : Nat) (gss : List (List Int)) (S : List (Pm × List Int)) : Prop where
  run : Run (letters 0 gss) S.length S
  nodup : (S.map (·.1)).Nodup
  mem : ∀ x, x ∈ S.map (·.1) ↔ Gen (fun y => y ∈ gss.map pad) x
  fix : ∀ x, x ∈ S.map (·.1) → Fixes (fun b => n ≤ b) x
  pos : 1 ≤ S.length

theorem gens_fix {n : Nat} {gss : List (List Int)} (h12 : n ≤ 12) (hr : RowsN n gss) {x : Pm} (hx : Gen (fun y => y ∈ gss.map pad) x) : Fixes (fun b => n ≤ b) x :=
  hx.least (fixes_sub _) (fun s hs => by obtain ⟨y, hy, rfl⟩ := List.mem_map.1 hs; exact pad_fixes h12 (hr y hy).2 (hr y hy).1)

theorem Found.of {n : Nat} {gss : List (List Int)} {S : List (Pm × List Int)} (h12 : n ≤ 12) (hr : RowsN n gss) (h : Run (letters 0 gss) S.length S) : Found n gss S := by
  have hm : ∀ x, x ∈ S.map (·.1) ↔ Gen (fun y => y ∈ gss.map pad) x := fun x => (h.all (Nat.le_refl _) x).trans (letters_gen 0 gss x)
  exact ⟨h, h.ok.nodup, hm, fun x hx => gens_fix h12 hr ((hm x).1 hx), List.length_pos_of_mem h.ok.first⟩

theorem Found.size {n : Nat} {gss : List (List Int)} {S : List (Pm × List Int)} (h12 : n ≤ 12) (h : Found n gss S) : S.length = sz (Gen (fun y => y ∈ gss.map pad)) n := by
  have := sz_is (Gen.sub _) h12 (fun x hx => h.fix x ((h.mem x).2 hx)) h.nodup h.mem
  rwa [List.length_map] at this

theorem found_few {n : Nat} {gss : List (List Int)} {S : List (Pm × List Int)} (h12 : n ≤ 12) (hr : RowsN n gss) (h : RunOk (letters 0 gss) S) : S.length ≤ sz (Gen (fun y => y ∈ gss.map pad)) n := by
  classical
  obtain ⟨L, l1, l2, l3⟩ := sz_list (Gen.sub (fun y => y ∈ gss.map pad)) h12 (fun x hx => gens_fix h12 hr hx)
  rw [← l3]
  have := nodup_len (S.map (·.1)) L h.nodup (fun x hx => by
    obtain ⟨e, he, rfl⟩ := List.mem_map.1 hx
    exact (l2 _).2 ((letters_gen 0 gss _).1 (h.gen e he)))
  rwa [List.length_map] at this

theorem Found.rows {n : Nat} {gss : List (List Int)} {S : List (Pm × List Int)} (h12 : n ≤ 12) (h : Found n gss S) : ∀ r, r ∈ S.map (fun e => cut n e.1) → r.length = n ∧ ∀ j, j < n → ∃ m : Nat, m < n ∧ r.getD j 0 = (m : Int) := by
  intro r hr
  obtain ⟨e, he, rfl⟩ := List.mem_map.1 hr
  have hf := h.fix e.1 (List.mem_map_of_mem he)
  exact ⟨cut_length h12 _, fun j hj => ⟨e.1.act j, fix_lt hf hj, cut_get e.1 h12 hj⟩⟩

theorem Found.cuts (n : Nat) (S : List (Pm × List Int)) : S.map (fun e => cut n e.1) = (S.map (·.1)).map (cut n) := by rw [List.map_map]; rfl

/-- The answer's orbits are the group's. -/
theorem Found.orbits {n : Nat} {gss : List (List Int)} {S : List (Pm × List Int)} (h12 : n ≤ 12) (h : Found n gss S) : rorbsTo (S.map (fun e => cut n e.1)) n n = orbsTo (gss.map pad) n n := by
  refine rorbs_eq h12 (fun r => ?_)
  rw [Found.cuts, List.mem_map]
  exact ⟨fun ⟨x, h1, h2⟩ => ⟨x, (h.mem x).1 h1, h2.symm⟩, fun ⟨x, h1, h2⟩ => ⟨x, (h.mem x).2 h1, h2.symm⟩⟩

/-- Where a row is found. -/
theorem Found.at {n : Nat} {gss : List (List Int)} {S : List (Pm × List Int)} {xs : List Int} (h12 : n ≤ 12) (h : Found n gss S) (hx : isRow xs) (hl : xs.length = n) (hg : Gen (fun y => y ∈ gss.map pad) (pad xs)) : ∃ (k : Nat) (e : Pm × List Int), S[k]? = some e ∧ e.1 = pad xs ∧ ∀ (i : Nat) (d : Pm × List Int), S[i]? = some d → (cut n d.1 = xs ↔ i = k) := by
  obtain ⟨e, he, e1⟩ := List.mem_map.1 ((h.mem _).2 hg)
  obtain ⟨k, hk, ek⟩ := List.getElem_of_mem he
  refine ⟨k, e, by rw [List.getElem?_eq_getElem hk, ek], e1, fun i d hd => ?_⟩
  constructor
  · intro hc
    have hdm := List.mem_of_getElem? hd
    have h1 : d.1 = pad xs := by rw [← hc, pad_cut h12 (h.fix d.1 (List.mem_map_of_mem hdm))]
    have hi := (List.getElem?_eq_some_iff.1 hd).1
    have hd2 := (List.getElem?_eq_some_iff.1 hd).2
    have hn := h.nodup
    have h2 : (S.map (·.1))[i]'(by rw [List.length_map]; exact hi) = (S.map (·.1))[k]'(by rw [List.length_map]; exact hk) := by
      rw [List.getElem_map, List.getElem_map, hd2, ek, h1, e1]
    exact (List.getElem_inj hn).1 h2
  · intro e3
    subst e3
    rw [List.getElem?_eq_getElem hk, ek] at hd
    rw [← Option.some.inj hd, e1, cut_pad h12 hl hx]

theorem Found.not {n : Nat} {gss : List (List Int)} {S : List (Pm × List Int)} {xs : List Int} (h12 : n ≤ 12) (h : Found n gss S) (hg : ¬ Gen (fun y => y ∈ gss.map pad) (pad xs)) : ∀ (i : Nat) (d : Pm × List Int), S[i]? = some d → ¬ cut n d.1 = xs := fun i d hd hc => by
  have hm := List.mem_map_of_mem (f := fun e : Pm × List Int => e.1) (List.mem_of_getElem? hd)
  refine hg ?_
  rw [← hc, pad_cut h12 (h.fix _ hm)]
  exact (h.mem _).1 hm

end Go.Proofs.Ytimfoggjocajiaa

/- Plain: parts of a group: the least of what undoes a part's rows; how parts are found. -/
namespace Go.Proofs.Ytimfoggjocajiaa

/-- What undoes the rows of x's part: the least of them. -/
structure MinOf (H : Pm → Prop) (n : Nat) (x y : Pm) : Prop where
  part : H (x * y)
  least : ∀ p, p < n → ∀ c, Low H p c → y.act p ≤ y.act (c.act p)

theorem MinOf.unique {H : Pm → Prop} (hH : Sub H) {n : Nat} (hf : ∀ h, H h → Fixes (fun b => n ≤ b) h) {x x' y y' : Pm} (h : MinOf H n x y) (h' : MinOf H n x' y') (hx : H (x' * x⁻¹)) : y = y' := by
  have hc : H (y⁻¹ * y') := by
    have h1 := hH.mul (hH.mul (hH.inv h.part) (hH.inv hx)) h'.part
    rw [Pm.inv_prod, Pm.inv_prod, Pm.inv_inv] at h1
    have e : y⁻¹ * x⁻¹ * (x * x'⁻¹) * (x' * y') = y⁻¹ * y' := by
      rw [Pm.mul_assoc, Pm.mul_assoc, Pm.mul_assoc, ← Pm.mul_assoc x'⁻¹, Pm.inv_mul, Pm.one_mul, ← Pm.mul_assoc x⁻¹, Pm.inv_mul, Pm.one_mul]
    rwa [e] at h1
  have e1 : ∀ b, y'.act b = y.act ((y⁻¹ * y').act b) := fun b => by rw [← Pm.act_mul, Pm.mul_inv_cancel]
  have e2 : ∀ b, y.act b = y'.act ((y⁻¹ * y')⁻¹.act b) := fun b => by
    rw [← Pm.act_mul, Pm.inv_prod, Pm.inv_inv, Pm.mul_inv_cancel]
  have key : ∀ p, p ≤ n → ∀ b, b < p → (y⁻¹ * y').act b = b := by
    intro p
    induction p with
    | zero => intro _ b hb; omega
    | succ p ih =>
      intro hp b hb
      by_cases e : b = p
      · subst e
        have hl : Low H b (y⁻¹ * y') := ⟨hc, ih (by omega)⟩
        have a1 := h.least b (by omega) _ hl
        have a2 := h'.least b (by omega) _ ((low_sub hH b).inv hl)
        rw [← e1] at a1
        rw [← e2] at a2
        have e3 : y.act ((y⁻¹ * y').act b) = y.act b := by rw [← e1]; omega
        exact y.act_inj e3
      · exact ih (by omega) b (by omega)
  have hone : y⁻¹ * y' = 1 := Pm.ext' (fun b _ => by
    rw [Pm.act_one]
    rcases Nat.lt_or_ge b n with hb | hb
    · exact key n (Nat.le_refl _) b hb
    · exact hf _ hc b hb)
  have := Pm.mul_inv_cancel y y'
  rw [hone, Pm.mul_one] at this
  exact this

theorem MinOf.same {H : Pm → Prop} (hH : Sub H) {n : Nat} {x x' y : Pm} (h : MinOf H n x y) (h' : MinOf H n x' y) : H (x' * x⁻¹) := by
  have := hH.mul h'.part (hH.inv h.part)
  rwa [Pm.inv_prod, Pm.mul_assoc, Pm.mul_inv_cancel] at this

/-- A least one of some numbers. -/
theorem least_of {α : Type} (P : α → Prop) (f : α → Nat) : ∀ (m : Nat) (a : α), P a → f a ≤ m → ∃ c, P c ∧ ∀ d, P d → f c ≤ f d
  | 0, a, ha, hm => ⟨a, ha, fun d _ => by omega⟩
  | m + 1, a, ha, hm => by
    by_cases h : ∃ d, P d ∧ f d < f a
    · obtain ⟨d, hd, hlt⟩ := h
      exact least_of P f m d hd (by omega)
    · exact ⟨a, ha, fun d hd => by rcases Nat.lt_or_ge (f d) (f a) with h1 | h1; exact absurd ⟨d, hd, h1⟩ h; exact h1⟩

/-- One place more. -/
structure MinTo (H : Pm → Prop) (k : Nat) (x y : Pm) : Prop where
  part : H (x * y)
  least : ∀ p, p < k → ∀ c, Low H p c → y.act p ≤ y.act (c.act p)

theorem MinTo.start {H : Pm → Prop} (hH : Sub H) (x : Pm) : MinTo H 0 x x⁻¹ := ⟨by rw [Pm.mul_inv]; exact hH.one, fun p hp => by omega⟩

theorem MinTo.step {H : Pm → Prop} (hH : Sub H) {k : Nat} {x y c : Pm} (h : MinTo H k x y) (hc : Low H k c) (hl : ∀ d, Low H k d → y.act (c.act k) ≤ y.act (d.act k)) : MinTo H (k + 1) x (y * c) := by
  refine ⟨by rw [← Pm.mul_assoc]; exact hH.mul h.part hc.1, fun p hp d hd => ?_⟩
  by_cases e : p = k
  · subst e
    rw [Pm.act_mul, Pm.act_mul, ← Pm.act_mul c d]
    exact hl _ ((low_sub hH p).mul hc hd)
  · have hcp : Low H p c := ⟨hc.1, fun b hb => hc.2 b (by omega)⟩
    rw [Pm.act_mul, Pm.act_mul, hc.2 p (by omega), ← Pm.act_mul c d]
    exact h.least p (by omega) _ ((low_sub hH p).mul hcp hd)

theorem MinTo.stay {H : Pm → Prop} {k : Nat} {x y : Pm} (h : MinTo H k x y) (hl : ∀ d, Low H k d → y.act k ≤ y.act (d.act k)) : MinTo H (k + 1) x y :=
  ⟨h.part, fun p hp d hd => by
    by_cases e : p = k
    · subst e; exact hl d hd
    · exact h.least p (by omega) d hd⟩

theorem MinTo.exists {H : Pm → Prop} (hH : Sub H) (x : Pm) : ∀ k, ∃ y, MinTo H k x y
  | 0 => ⟨_, MinTo.start hH x⟩
  | k + 1 => by
    obtain ⟨y, hy⟩ := MinTo.exists hH x k
    obtain ⟨c, hc, hl⟩ := least_of (Low H k) (fun c => y.act (c.act k)) _ 1 (low_sub hH k).one (Nat.le_refl _)
    exact ⟨_, hy.step hH hc hl⟩

theorem MinTo.of {H : Pm → Prop} {n : Nat} {x y : Pm} (h : MinTo H n x y) : MinOf H n x y := ⟨h.part, h.least⟩

/-- A part's mark. -/
noncomputable def mkY (H : Pm → Prop) (n : Nat) (x : Pm) : Pm := open Classical in if h : ∃ y, MinOf H n x y then Classical.choose h else 1

noncomputable def mkN (H : Pm → Prop) (n : Nat) (x : Pm) : Nat := rkP n (mkY H n x)

theorem mkY_min {H : Pm → Prop} (hH : Sub H) (n : Nat) (x : Pm) : MinOf H n x (mkY H n x) := by
  have h : ∃ y, MinOf H n x y := by obtain ⟨y, hy⟩ := MinTo.exists hH x n; exact ⟨y, hy.of⟩
  unfold mkY
  rw [dif_pos h]
  exact Classical.choose_spec h

theorem MinOf.fix {H : Pm → Prop} {n : Nat} (hf : ∀ h, H h → Fixes (fun b => n ≤ b) h) {x y : Pm} (hx : Fixes (fun b => n ≤ b) x) (h : MinOf H n x y) : Fixes (fun b => n ≤ b) y := by
  have := (fixes_sub (fun b => n ≤ b)).mul ((fixes_sub (fun b => n ≤ b)).inv hx) (hf _ h.part)
  rwa [Pm.inv_mul_cancel] at this

theorem mkN_of {H : Pm → Prop} (hH : Sub H) {n : Nat} (hf : ∀ h, H h → Fixes (fun b => n ≤ b) h) {x y : Pm} (h : MinOf H n x y) : rkP n y = mkN H n x := by
  unfold mkN
  rw [h.unique hH hf (mkY_min hH n x) (by rw [Pm.mul_inv]; exact hH.one)]

theorem mkN_eq {H : Pm → Prop} (hH : Sub H) {n : Nat} (h12 : n ≤ 12) (hf : ∀ h, H h → Fixes (fun b => n ≤ b) h) {x x' : Pm} (hx : Fixes (fun b => n ≤ b) x) (hx' : Fixes (fun b => n ≤ b) x') : mkN H n x = mkN H n x' ↔ H (x' * x⁻¹) := by
  constructor
  · intro h
    have e := rkP_inj h12 ((mkY_min hH n x).fix hf hx) ((mkY_min hH n x').fix hf hx') h
    have h1 := mkY_min hH n x
    rw [e] at h1
    exact h1.same hH (mkY_min hH n x')
  · intro h
    unfold mkN
    rw [(mkY_min hH n x).unique hH hf (mkY_min hH n x') h]

/-! parts, found one behind the other -/

/-- Which part a row is of, among those found; as many as there are, if of none. -/
noncomputable def cix (H : Pm → Prop) (T : List (Pm × List Int)) (r : Pm) : Nat := open Classical in T.findIdx (fun d => decide (H (r * d.1⁻¹)))

theorem cix_le (H : Pm → Prop) (T : List (Pm × List Int)) (r : Pm) : cix H T r ≤ T.length := List.findIdx_le_length

theorem cix_at {H : Pm → Prop} {T : List (Pm × List Int)} {r : Pm} (h : cix H T r < T.length) : ∃ d, T[cix H T r]? = some d ∧ H (r * d.1⁻¹) := by
  classical
  refine ⟨T[cix H T r], List.getElem?_eq_getElem h, ?_⟩
  have := List.findIdx_getElem (p := fun d : Pm × List Int => decide (H (r * d.1⁻¹))) (w := h)
  exact of_decide_eq_true this

theorem cix_none {H : Pm → Prop} {T : List (Pm × List Int)} {r : Pm} (h : ¬ cix H T r < T.length) : ∀ d, d ∈ T → ¬ H (r * d.1⁻¹) := by
  classical
  intro d hd hH
  exact h (List.findIdx_lt_length.2 ⟨d, hd, decide_eq_true hH⟩)

/-- One letter tried on a part. -/
noncomputable def tryC (H : Pm → Prop) (e : Pm × List Int) (s : List (Pm × List Int) × List Nat) (l : Int × Pm) : List (Pm × List Int) × List Nat :=
  (if cix H s.1 (e.1 * l.2) < s.1.length then s.1 else s.1 ++ [(e.1 * l.2, e.2 ++ [l.1])], s.2 ++ [cix H s.1 (e.1 * l.2)])

noncomputable def tryCs (H : Pm → Prop) (L : List (Int × Pm)) (e : Pm × List Int) (T : List (Pm × List Int)) (j : Nat) : List (Pm × List Int) × List Nat := (L.take j).foldl (tryC H e) (T, [])

theorem tryCs_zero (H : Pm → Prop) (L : List (Int × Pm)) (e : Pm × List Int) (T : List (Pm × List Int)) : tryCs H L e T 0 = (T, []) := by unfold tryCs; rw [List.take_zero]; rfl

theorem tryCs_succ {H : Pm → Prop} {L : List (Int × Pm)} {e : Pm × List Int} {T : List (Pm × List Int)} {j : Nat} {l : Int × Pm} (h : L[j]? = some l) : tryCs H L e T (j + 1) = tryC H e (tryCs H L e T j) l := by
  unfold tryCs
  rw [List.take_add_one, h, List.foldl_append]
  rfl

/-- Rows that words of letters say. -/
inductive Wdl (L : List (Int × Pm)) : List Int → Pm → Prop
  | nil : Wdl L [] 1
  | snoc {wd : List Int} {x : Pm} {l : Int × Pm} : Wdl L wd x → l ∈ L → Wdl L (wd ++ [l.1]) (x * l.2)

/-- What holds of parts. -/
structure PartOk (H : Pm → Prop) (L : List (Int × Pm)) (T : List (Pm × List Int)) : Prop where
  apart : T.Pairwise (fun a b => ¬ H (b.1 * a.1⁻¹))
  gen : ∀ e, e ∈ T → Gen (fun x => ∃ l, l ∈ L ∧ l.2 = x) e.1
  first : T[0]? = some (1, [])
  said : ∀ e, e ∈ T → Wdl L e.2 e.1
  short : ∀ e, e ∈ T → e.2.length < T.length

theorem PartOk.start (H : Pm → Prop) (L : List (Int × Pm)) : PartOk H L [(1, [])] :=
  ⟨by simp, fun e he => by rw [List.mem_singleton.1 he]; exact Gen.one, rfl, fun e he => by rw [List.mem_singleton.1 he]; exact Wdl.nil, fun e he => by rw [List.mem_singleton.1 he]; simp⟩

/-- What one line says: where each letter leads. -/
def LineOk (H : Pm → Prop) (L : List (Int × Pm)) (e : Pm × List Int) (T : List (Pm × List Int)) (j : Nat) (line : List Nat) : Prop :=
  line.length = j ∧ ∀ k l, k < j → L[k]? = some l → ∃ (m : Nat) (d : Pm × List Int), line[k]? = some m ∧ T[m]? = some d ∧ H (e.1 * l.2 * d.1⁻¹)

theorem LineOk.more {H : Pm → Prop} {L : List (Int × Pm)} {e : Pm × List Int} {T : List (Pm × List Int)} {j : Nat} {line : List Nat} (h : LineOk H L e T j line) (more : List (Pm × List Int)) : LineOk H L e (T ++ more) j line :=
  ⟨h.1, fun k l hk hl => by
    obtain ⟨m, d, h1, h2, h3⟩ := h.2 k l hk hl
    exact ⟨m, d, h1, by rw [List.getElem?_append_left (List.getElem?_eq_some_iff.1 h2).1]; exact h2, h3⟩⟩

theorem LineOk.push {H : Pm → Prop} {L : List (Int × Pm)} {e : Pm × List Int} {T : List (Pm × List Int)} {j m : Nat} {line : List Nat} {l : Int × Pm} {d : Pm × List Int} (h : LineOk H L e T j line) (hl : L[j]? = some l) (hd : T[m]? = some d) (hH : H (e.1 * l.2 * d.1⁻¹)) : LineOk H L e T (j + 1) (line ++ [m]) := by
  refine ⟨by rw [List.length_append, h.1]; rfl, fun k l' hk hl' => ?_⟩
  by_cases ek : k = j
  · subst ek
    rw [hl] at hl'
    rw [← Option.some.inj hl']
    exact ⟨m, d, by rw [List.getElem?_append_right (by rw [h.1]; exact Nat.le_refl _), h.1, Nat.sub_self]; rfl, hd, hH⟩
  · obtain ⟨m', d', h1, h2, h3⟩ := h.2 k l' (by omega) hl'
    exact ⟨m', d', by rw [List.getElem?_append_left (by rw [h.1]; omega)]; exact h1, h2, h3⟩

theorem PartOk.new {H : Pm → Prop} {L : List (Int × Pm)} {T : List (Pm × List Int)} (h : PartOk H L T) {e : Pm × List Int} (he : e ∈ T) {l : Int × Pm} (hl : l ∈ L) (hn : ∀ d, d ∈ T → ¬ H (e.1 * l.2 * d.1⁻¹)) : PartOk H L (T ++ [(e.1 * l.2, e.2 ++ [l.1])]) := by
  refine ⟨?_, ?_, ?_, ?_, ?_⟩
  · rw [List.pairwise_append]
    refine ⟨h.apart, by simp, fun a ha b hb => ?_⟩
    rw [List.mem_singleton.1 hb]
    exact hn a ha
  · intro x hx
    rcases List.mem_append.1 hx with hx | hx
    · exact h.gen x hx
    · rw [List.mem_singleton.1 hx]; exact Gen.right (h.gen e he) ⟨l, hl, rfl⟩
  · rw [List.getElem?_append_left (List.getElem?_eq_some_iff.1 h.first).1]; exact h.first
  · intro x hx
    rcases List.mem_append.1 hx with hx | hx
    · exact h.said x hx
    · rw [List.mem_singleton.1 hx]; exact Wdl.snoc (h.said e he) hl
  · intro x hx
    rw [List.length_append, List.length_singleton]
    rcases List.mem_append.1 hx with hx | hx
    · have := h.short x hx; omega
    · rw [List.mem_singleton.1 hx]
      have := h.short e he
      simp only [List.length_append, List.length_singleton]
      omega

/-- What holds while a part's letters are tried. -/
structure TryOk (H : Pm → Prop) (L : List (Int × Pm)) (e : Pm × List Int) (T : List (Pm × List Int)) (j : Nat) (s : List (Pm × List Int) × List Nat) : Prop where
  ok : PartOk H L s.1
  line : LineOk H L e s.1 j s.2
  more : ∃ m, s.1 = T ++ m

theorem tryCs_ok {H : Pm → Prop} {L : List (Int × Pm)} (hH : Sub H) {e : Pm × List Int} {T : List (Pm × List Int)} (hT : PartOk H L T) (he : e ∈ T) : ∀ j, j ≤ L.length → TryOk H L e T j (tryCs H L e T j)
  | 0, _ => by rw [tryCs_zero]; exact ⟨hT, ⟨rfl, fun k l hk => by omega⟩, [], by simp⟩
  | j + 1, hj => by
    have ih := tryCs_ok hH hT he j (by omega)
    obtain ⟨l, hl⟩ : ∃ l, L[j]? = some l := ⟨_, List.getElem?_eq_getElem (by omega)⟩
    rw [tryCs_succ hl]
    obtain ⟨m, hm⟩ := ih.more
    have he' : e ∈ (tryCs H L e T j).1 := by rw [hm]; exact List.mem_append_left _ he
    unfold tryC
    by_cases hc : cix H (tryCs H L e T j).1 (e.1 * l.2) < (tryCs H L e T j).1.length
    · rw [if_pos hc]
      obtain ⟨d, hd, hHd⟩ := cix_at hc
      exact ⟨ih.ok, ih.line.push hl hd hHd, m, hm⟩
    · rw [if_neg hc]
      have hn := cix_none hc
      have hce : cix H (tryCs H L e T j).1 (e.1 * l.2) = (tryCs H L e T j).1.length := by have := cix_le H (tryCs H L e T j).1 (e.1 * l.2); omega
      refine ⟨ih.ok.new he' (List.mem_of_getElem? hl) hn, (ih.line.more [(e.1 * l.2, e.2 ++ [l.1])]).push hl (d := (e.1 * l.2, e.2 ++ [l.1])) ?_ (by rw [Pm.mul_inv]; exact hH.one), m ++ [(e.1 * l.2, e.2 ++ [l.1])], by rw [hm, List.append_assoc]⟩
      rw [hce, List.getElem?_append_right (Nat.le_refl _), Nat.sub_self]
      rfl

/-- Parts 0 to i - 1 are gone through. -/
inductive RunC (H : Pm → Prop) (L : List (Int × Pm)) : Nat → List (Pm × List Int) → List (List Nat) → Prop
  | start : RunC H L 0 [(1, [])] []
  | step {i : Nat} {T : List (Pm × List Int)} {N : List (List Nat)} {e : Pm × List Int} : RunC H L i T N → T[i]? = some e → RunC H L (i + 1) (tryCs H L e T L.length).1 (N ++ [(tryCs H L e T L.length).2])

theorem RunC.det {H : Pm → Prop} {L : List (Int × Pm)} {i : Nat} {S T : List (Pm × List Int)} {M N : List (List Nat)} (h : RunC H L i S M) (k : RunC H L i T N) : S = T ∧ M = N := by
  induction h generalizing T N with
  | start => cases k; exact ⟨rfl, rfl⟩
  | step _ he ih =>
    cases k with
    | step k' he' =>
      obtain ⟨e1, e2⟩ := ih k'
      subst e1
      subst e2
      rw [he] at he'
      rw [Option.some.inj he']
      exact ⟨rfl, rfl⟩

/-- All that holds. -/
structure RunCOk (H : Pm → Prop) (L : List (Int × Pm)) (i : Nat) (T : List (Pm × List Int)) (N : List (List Nat)) : Prop where
  ok : PartOk H L T
  len : N.length = i
  le : i ≤ T.length
  line : ∀ k, k < i → ∃ e ln, T[k]? = some e ∧ N[k]? = some ln ∧ LineOk H L e T L.length ln

theorem RunC.ok {H : Pm → Prop} {L : List (Int × Pm)} (hH : Sub H) {i : Nat} {T : List (Pm × List Int)} {N : List (List Nat)} (h : RunC H L i T N) : RunCOk H L i T N := by
  induction h with
  | start => exact ⟨PartOk.start H L, rfl, Nat.zero_le _, fun k hk => by omega⟩
  | @step i T N e h he ih =>
    have ht := tryCs_ok hH ih.ok (List.mem_of_getElem? he) L.length (Nat.le_refl _)
    obtain ⟨m, hm⟩ := ht.more
    have hi := (List.getElem?_eq_some_iff.1 he).1
    refine ⟨ht.ok, by rw [List.length_append, ih.len]; rfl, by rw [hm, List.length_append]; omega, fun k hk => ?_⟩
    by_cases ek : k = i
    · subst ek
      refine ⟨e, _, by rw [hm, List.getElem?_append_left hi]; exact he, ?_, ht.line⟩
      rw [List.getElem?_append_right (by rw [ih.len]; exact Nat.le_refl _), ih.len, Nat.sub_self]; rfl
    · obtain ⟨e', ln, h1, h2, h3⟩ := ih.line k (by omega)
      refine ⟨e', ln, by rw [hm, List.getElem?_append_left (by omega)]; exact h1, by rw [List.getElem?_append_left (by rw [ih.len]; omega)]; exact h2, ?_⟩
      rw [hm]; exact h3.more m

theorem RunC.pre {H : Pm → Prop} {L : List (Int × Pm)} {j : Nat} {T : List (Pm × List Int)} {N : List (List Nat)} (h : RunC H L j T N) : ∀ i, i ≤ j → ∃ S M, RunC H L i S M := by
  induction h with
  | start => intro i hi; have : i = 0 := by omega
             subst this; exact ⟨_, _, RunC.start⟩
  | @step j S N e0 h he ih =>
    intro i hi
    by_cases e : i ≤ j
    · exact ih i e
    · have e2 : i = j + 1 := by omega
      subst e2
      exact ⟨_, _, RunC.step h he⟩

/-- Whoever has gone through all has found the same. -/
theorem RunC.unique {H : Pm → Prop} {L : List (Int × Pm)} {i j : Nat} {S T : List (Pm × List Int)} {M N : List (List Nat)} (h : RunC H L i S M) (k : RunC H L j T N) (hi : S.length ≤ i) (hj : T.length ≤ j) : S = T ∧ M = N := by
  have key : ∀ {i j : Nat} {S T : List (Pm × List Int)} {M N : List (List Nat)}, RunC H L i S M → RunC H L j T N → S.length ≤ i → i ≤ j → i = j := fun {i j S T M N} h k hi hij => by
    rcases Nat.lt_or_ge i j with hlt | hge
    · obtain ⟨S', M', h'⟩ := k.pre (i + 1) hlt
      cases h' with
      | step h'' he =>
        rw [(h.det h'').1] at hi
        have := (List.getElem?_eq_some_iff.1 he).1
        omega
    · omega
  rcases Nat.le_total i j with hij | hij
  · have := key h k hi hij
    subst this; exact h.det k
  · have := key k h hj hij
    subst this; exact h.det k

/-- Of the parts found each row is of one at most. -/
theorem PartOk.one {H : Pm → Prop} {L : List (Int × Pm)} (hH : Sub H) {T : List (Pm × List Int)} (h : PartOk H L T) {i j : Nat} {d e : Pm × List Int} {r : Pm} (hi : T[i]? = some d) (hj : T[j]? = some e) (h1 : H (r * d.1⁻¹)) (h2 : H (r * e.1⁻¹)) : i = j := by
  have key : ∀ {i j : Nat} {d e : Pm × List Int}, T[i]? = some d → T[j]? = some e → H (r * d.1⁻¹) → H (r * e.1⁻¹) → ¬ i < j := fun {i j d e} hi hj h1 h2 hlt => by
    have hj' := (List.getElem?_eq_some_iff.1 hj).1
    have hi' := (List.getElem?_eq_some_iff.1 hi).1
    have := List.pairwise_iff_getElem.1 h.apart i j hi' hj' hlt
    rw [(List.getElem?_eq_some_iff.1 hi).2, (List.getElem?_eq_some_iff.1 hj).2] at this
    refine this ?_
    have h3 := hH.mul (hH.inv h2) h1
    rwa [Pm.inv_prod, Pm.inv_inv, Pm.mul_assoc, Pm.inv_mul_cancel] at h3
  rcases Nat.lt_trichotomy i j with hlt | e | hlt
  · exact absurd hlt (key hi hj h1 h2)
  · exact e
  · exact absurd hlt (key hj hi h2 h1)

/-- Whoever has gone through all has found all parts. -/
theorem RunC.all {H : Pm → Prop} {L : List (Int × Pm)} (hH : Sub H) {i : Nat} {T : List (Pm × List Int)} {N : List (List Nat)} (h : RunC H L i T N) (hi : T.length ≤ i) {x : Pm} (hx : Gen (fun x => ∃ l, l ∈ L ∧ l.2 = x) x) : ∃ (k : Nat) (d : Pm × List Int), T[k]? = some d ∧ H (x * d.1⁻¹) := by
  have hO := h.ok hH
  have closed : ∀ y, (∃ (k : Nat) (d : Pm × List Int), T[k]? = some d ∧ H (y * d.1⁻¹)) → ∀ l, l ∈ L → ∃ (k : Nat) (d : Pm × List Int), T[k]? = some d ∧ H (y * l.2 * d.1⁻¹) := by
    rintro y ⟨k, d, hd, hy⟩ l hl
    have hk := (List.getElem?_eq_some_iff.1 hd).1
    obtain ⟨e, ln, h1, _, h3⟩ := hO.line k (by omega)
    rw [hd] at h1
    have he := Option.some.inj h1
    subst he
    obtain ⟨j, hj, ej⟩ := List.getElem_of_mem hl
    obtain ⟨m, d', _, h4, h5⟩ := h3.2 j l hj (by rw [List.getElem?_eq_getElem hj, ej])
    refine ⟨m, d', h4, ?_⟩
    have := hH.mul hy h5
    rwa [show y * d.1⁻¹ * (d.1 * l.2 * d'.1⁻¹) = y * l.2 * d'.1⁻¹ by rw [Pm.mul_assoc, Pm.mul_assoc d.1, Pm.inv_mul_cancel, ← Pm.mul_assoc]] at this
  have right : ∀ z, Gen (fun x => ∃ l, l ∈ L ∧ l.2 = x) z → ∀ y, (∃ (k : Nat) (d : Pm × List Int), T[k]? = some d ∧ H (y * d.1⁻¹)) → ∃ (k : Nat) (d : Pm × List Int), T[k]? = some d ∧ H (y * z * d.1⁻¹) := by
    intro z hz
    induction hz with
    | one => intro y hy; rw [Pm.mul_one]; exact hy
    | mul hs _ ih =>
      intro y hy
      obtain ⟨l, hl, rfl⟩ := hs
      rw [← Pm.mul_assoc]
      exact ih _ (closed y hy l hl)
  have := right x hx 1 ⟨0, _, hO.ok.first, by rw [Pm.inv_one, Pm.mul_one]; exact hH.one⟩
  rwa [Pm.one_mul] at this

theorem PartOk.few {H : Pm → Prop} {L : List (Int × Pm)} (hH : Sub H) {T : List (Pm × List Int)} (h : PartOk H L T) {X : List Pm} (hX : ∀ x, Gen (fun x => ∃ l, l ∈ L ∧ l.2 = x) x → x ∈ X) : T.length ≤ X.length := by
  classical
  have hn : (T.map (·.1)).Nodup := by
    rw [List.Nodup, List.pairwise_map]
    refine h.apart.imp (fun {a b} hab e => hab ?_)
    rw [e, Pm.mul_inv]; exact hH.one
  have := nodup_len (T.map (·.1)) X hn (fun x hx => by
    obtain ⟨e, he, rfl⟩ := List.mem_map.1 hx
    exact hX _ (h.gen e he))
  rwa [List.length_map] at this

end Go.Proofs.Ytimfoggjocajiaa

/- Maps that are sets of numbers: look, len, put, take out; what lies under a walk. -/
namespace Go.Proofs.Ytimfoggjocajiaa
open Go.RowKit Go.Maps Go.ChangeMaps
open Go.WideElems (rg)

/-- Block b is a map[int]int whose keys are these numbers, each once. -/
def ISet (w : World) (b : Nat) (ks : List Nat) : Prop :=
  ks.Nodup ∧ ∃ D : DataW Value, w.ownsMap Try.prog 3 heldElem b ks.length D ∧ Maps.size D = ks.length ∧ ∀ a : Nat, Maps.has D (.int .i64 (a : Int)) = decide (a ∈ ks)

theorem ISet.lt {w : World} {b : Nat} {ks : List Nat} (h : ISet w b ks) : b < w.heap.size := by
  obtain ⟨_, D, h1, _⟩ := h; exact h1.lt

theorem ISet.of_block {w w' : World} {b : Nat} {ks : List Nat} (h : ISet w b ks) (hb : w'.heap[b]? = w.heap[b]?) : ISet w' b ks := by
  obtain ⟨hn, D, ⟨es, c, h1, h2⟩, h3⟩ := h; exact ⟨hn, D, ⟨es, c, hb.trans h1, h2⟩, h3⟩

theorem ISet.look {w : World} {b : Nat} {ks : List Nat} (h : ISet w b ks) (a : Nat) (ha : (a : Int) ≤ 9223372036854775807) :
    ∃ v, (Instr.lookup 108 (.map (some b)) (.int .i64 (a : Int)) true).run Try.prog w = .ok (.tuple #[v, .bool (decide (a ∈ ks))]) w := by
  obtain ⟨_, D, hD, hs, hf⟩ := h
  obtain ⟨v, ps, hrun, hv⟩ := hD.look_ok keyedI Try.underlying108 (Try.zero3 w) (zd := .held (.int .i64 0)) (zp := []) rfl (wfI (a := (a : Int)) (by omega) ha)
  exact ⟨v, by rw [hrun, hf a]⟩

theorem ISet.len {w : World} {b : Nat} {ks : List Nat} (h : ISet w b ks) (ty : TypeId) : (Builtin.len_ #[108] ty #[.map (some b)]).run Try.prog w = .ok (.int .i64 (ks.length : Int)) w := by
  obtain ⟨_, D, hD, hs, hf⟩ := h
  rw [hD.len Try.underlying108, hs]

theorem int_lit_ne {x a : Nat} (e : x ≠ a) : (Lit.int .i64 (x : Int)) ≠ Lit.int .i64 (a : Int) := fun h => e (by have := (Lit.int.inj h).2; omega)

theorem ISet.put {w : World} {b : Nat} {ks : List Nat} (h : ISet w b ks) (a : Nat) (ha : (a : Int) ≤ 9223372036854775807) (hn : a ∉ ks) (hl : ks.length < maxLen) (v : Value) :
    ∃ w', (Instr.mapUpdate 108 (.map (some b)) (.int .i64 (a : Int)) v).run Try.prog w = .ok () w' ∧ ISet w' b (a :: ks) ∧ w.mapTurned w' b := by
  obtain ⟨hnd, D, hD, hs, hf⟩ := h
  have hkey := wfI (a := (a : Int)) (by omega) ha
  obtain ⟨w', hrun, hD', hg⟩ := hD.store (val := v) (d := .held v) (ps := []) keyedI Try.underlying108 hl hkey rfl
  have hk : WideAt.IsKeyLit (.int .i64 (a : Int)) := keyedI.key hkey
  refine ⟨w', hrun, ⟨List.nodup_cons.2 ⟨hn, hnd⟩, _, hD', ?_, fun x => ?_⟩, hg⟩
  · rw [Maps.size_put (hD.tidy keyedI), hf a, if_neg (by simpa using hn), hs]; rfl
  · by_cases e : x = a
    · subst e
      rw [has_put_same hD.isMap hk]
      simp
    · rw [has_put_other (int_lit_ne e), hf x]
      simp [e]

theorem ISet.drop {w : World} {b a : Nat} {ks : List Nat} (h : ISet w b (a :: ks)) (ha : (a : Int) ≤ 9223372036854775807) (ty : TypeId) :
    ∃ w', (Builtin.delete_ #[108, 3] ty #[.map (some b), .int .i64 (a : Int)]).run Try.prog w = .ok (.tuple #[]) w' ∧ ISet w' b ks ∧ w.mapTurned w' b := by
  obtain ⟨hnd, D, hD, hs, hf⟩ := h
  have hkey := wfI (a := (a : Int)) (by omega) ha
  obtain ⟨w', hrun, hD', hg⟩ := hD.drop keyedI Try.underlying108 hkey ty
  have hk : WideAt.IsKeyLit (.int .i64 (a : Int)) := keyedI.key hkey
  have hna := (List.nodup_cons.1 hnd).1
  have hsz : Maps.size (D.del (.int .i64 (a : Int))) = ks.length := by
    have := Maps.size_del (k := (.int .i64 (a : Int))) (hD.tidy keyedI)
    rw [hf a, if_pos (by simp), hs] at this
    simp at this
    exact this
  refine ⟨w', hrun, ⟨(List.nodup_cons.1 hnd).2, _, ?_, hsz, fun x => ?_⟩, hg⟩
  · obtain ⟨es, c, r1, r2, r3, r4⟩ := hD'
    refine ⟨es, c, r1, r2, ?_, r4⟩
    have e1 : Maps.size (DataW.map ((es.toList.map (rg Try.prog 3 heldElem)).foldr DataW.insert [])) = es.size := by simp [Maps.size, length_sorted]
    rw [← r4, hsz] at e1
    omega
  · by_cases e : x = a
    · subst e
      rw [has_del_same]
      simp [hna]
    · rw [has_del_other (int_lit_ne e), hf x]
      simp [e]

/-! at the operation -/
section
variable {ops : Array Oper} {rest : List Oper} {o : Oper} {a : Act} {w : World} {Q : Exit → Act → World → Prop}

theorem wpList_drop (hg : o.guard = none) (m x : Operand) (hop : o.op = Op.call { callee := Callee.builtin Builtin.delete, args := #[m, x], argTypes := #[108, 3] })
    {b k : Nat} {ks : List Nat} (h : ISet w b (k :: ks)) (hm : a.eval m = .map (some b)) (hx : a.eval x = .int .i64 (k : Int)) (hk : (k : Int) ≤ 9223372036854775807)
    (hK : ∀ w', ISet w' b ks → w.mapTurned w' b → wpList Try.prog ops Q rest (a.put o.dst (.tuple #[])) w') : wpList Try.prog ops Q (o :: rest) a w := by
  refine wpList_plain hg fun K' hK' => ?_
  obtain ⟨w', hrun, r1, r2⟩ := h.drop hk o.type
  unfold Oper.wp
  simp [execOp, hop, resolve, invoke, builtin, hm, hx, hrun, Result.andThen]
  exact hK' _ _ (hK w' r1 r2)
end

/-- Below block number B all is as it was, but for two blocks. -/
structure Frm (B sb mb : Nat) (w w' : World) : Prop where
  os : w'.os = w.os
  tape : w'.tape = w.tape
  output : w'.output = w.output
  size : w.heap.size ≤ w'.heap.size
  block : ∀ b, b < B → b ≠ sb → b ≠ mb → w'.heap[b]? = w.heap[b]?

theorem Frm.refl (B sb mb : Nat) (w : World) : Frm B sb mb w w := ⟨rfl, rfl, rfl, Nat.le_refl _, fun _ _ _ _ => rfl⟩

theorem Frm.trans {B sb mb : Nat} {a b c : World} (h : Frm B sb mb a b) (k : Frm B sb mb b c) : Frm B sb mb a c :=
  ⟨k.os.trans h.os, k.tape.trans h.tape, k.output.trans h.output, Nat.le_trans h.size k.size, fun x h1 h2 h3 => (k.block x h1 h2 h3).trans (h.block x h1 h2 h3)⟩

theorem Frm.of_below {B sb mb X : Nat} {w w' : World} (h : Below X w w') (hX : B ≤ X) : Frm B sb mb w w' := ⟨h.os, h.tape, h.output, h.size, fun x h1 _ _ => h.block x (by omega)⟩

theorem Frm.below {B sb mb X : Nat} {w w' : World} (h : Frm B sb mb w w') (hX : X ≤ B) (h1 : X ≤ sb) (h2 : X ≤ mb) : Below X w w' := ⟨h.os, h.tape, h.output, h.size, fun x hx => h.block x (by omega) (by omega) (by omega)⟩

theorem Frm.set {B sb mb : Nat} {w w' : World} (h : Frm B sb mb w w') (j : Nat) (u : Value) : Frm B sb mb w (w'.setCell ⟨sb, j, none⟩ u) :=
  h.trans ⟨rfl, rfl, rfl, by simp [World.setCell], fun x _ h2 _ => Below.heap_setCell _ _ _ _ h2⟩

theorem Frm.turned {B sb mb : Nat} {w w' w'' : World} (h : Frm B sb mb w w') (ht : w'.mapTurned w'' mb) : Frm B sb mb w w'' := by
  obtain ⟨es, c, es', c', h1, rfl⟩ := ht
  refine h.trans ⟨rfl, rfl, rfl, by simp [setBlock], fun x _ _ h3 => ?_⟩
  simp [setBlock, Ne.symm h3]

theorem turned_block {w w' : World} {mb x : Nat} (ht : w.mapTurned w' mb) (hx : x ≠ mb) : w'.heap[x]? = w.heap[x]? := by
  obtain ⟨es, c, es', c', h1, rfl⟩ := ht
  simp [setBlock, Ne.symm hx]

theorem turned_size {w w' : World} {mb : Nat} (ht : w.mapTurned w' mb) : w'.heap.size = w.heap.size := by
  obtain ⟨es, c, es', c', h1, rfl⟩ := ht
  simp [setBlock]

theorem owns_block {w w' : World} {base e n : Nat} {v : Value} {xs : List Value} (h : w.ownsRow base e 1 v n xs) (hb : ∀ g, v.ownBlock = some g → w'.heap[g]? = w.heap[g]?) : w'.ownsRow base e 1 v n xs := by
  obtain ⟨h1, h2⟩ := h
  refine ⟨h1, ?_⟩
  rcases h2 with h2 | ⟨g, cap, cur, hv, hg, hh, r⟩
  · exact Or.inl h2
  · exact Or.inr ⟨g, cap, cur, hv, hg, (hb g (by rw [hv]; rfl)).trans hh, r⟩

theorem cells4 {w1 : World} {B : Nat} {a b c d : Value} {t : TypeId} (h : w1.heap[B]? = some (.cells #[a, b, c, d] t)) :
    w1.cell? ⟨B, 0, none⟩ = some a ∧ w1.cell? ⟨B, 1, none⟩ = some b ∧ w1.cell? ⟨B, 2, none⟩ = some c ∧ w1.cell? ⟨B, 3, none⟩ = some d ∧ w1.frozen? ⟨B, 0, none⟩ = false ∧ w1.frozen? ⟨B, 3, none⟩ = false := by
  simp [World.cell?, World.frozen?, h]

theorem set4 {w1 : World} {B : Nat} {a b c d : Value} {t : TypeId} (h : w1.heap[B]? = some (.cells #[a, b, c, d] t)) (u : Value) : (w1.setCell ⟨B, 3, none⟩ u).heap[B]? = some (.cells #[a, b, c, u] t) := by
  simp [World.setCell, Array.getElem?_modify, h]

end Go.Proofs.Ytimfoggjocajiaa
