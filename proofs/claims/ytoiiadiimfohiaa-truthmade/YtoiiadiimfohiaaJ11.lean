/- Joined: XtQ, SbU, SbV, SbW. -/
import Derived.Test.YtoiiadiimfohiaaJ10
import Derived.Test.YtoiiadiimfohiaaJ5
import Derived.Test.YtoiiadiimfohiaaJ8
import Derived.BigQuiet
import Derived.Test.YtoiiadiimfohiaaJ9
import Derived.Test.YtoiiadiimfohiaaJ3
/- The answer's Below only reads; lists of numbers as words. -/
namespace Go.Proofs.Ytoiiadiimfohiaa
open Go.RowKit

set_option maxRecDepth 20000 in
set_option maxHeartbeats 2000000 in
theorem rbelow_q (v1 v2 : Value) (xs ys : List Int) (w : World) (h1 : Ints w v1 xs) (h2 : Ints w v2 ys) (hl1 : xs.length ≤ 1000000) (hl2 : ys.length ≤ 1000000) :
    Calls Try.prog 67 #[v1, v2] w fun e w' => e = .returned (.bool (blw xs ys)) ∧ ∃ m, w' = w.drewN m := by
  obtain ⟨p1, c1, rfl⟩ := h1.form
  obtain ⟨p2, c2, rfl⟩ := h2.form
  have HC1 := hide h1
  have HC2 := hide h2
  clear h1 h2
  go_enter Try.func67, Try.ntmps67
  go_wp2
  go_loopw [5] (fun i wr => ∃ k : Nat, k ≤ xs.length ∧ k ≤ ys.length ∧ i = .int .i64 k ∧ Hid (blw xs ys = blw (xs.drop k) (ys.drop k)) ∧ ∃ m, wr = w.drewN m) (fun i _ => xs.length - (intOf i).toNat)
  case atStart => exact ⟨0, by omega, by omega, rfl, rfl, 0, rfl⟩
  case round =>
    obtain ⟨k, hk, hk2, rfl, ht, dm, rfl⟩ := hrel
    by_cases hlt : k < xs.length
    · by_cases hlt2 : k < ys.length
      · rcases HC1.out with ⟨rfl, _⟩ | ⟨b, off, cap, hv, h0, hc, hm, hb, hcell⟩
        · simp at hlt
        rcases HC2.out with ⟨rfl, _⟩ | ⟨b2, off2, cap2, hv2, h02, hc2, hm2, hb2, hcell2⟩
        · simp at hlt2
        simp only [Value.slice.injEq] at hv hv2
        obtain ⟨rfl, _, rfl⟩ := hv
        obtain ⟨rfl, _, rfl⟩ := hv2
        obtain ⟨x, hx, hcx⟩ := cellAt hcell hlt
        obtain ⟨y, hy, hcy⟩ := cellAt hcell2 hlt2
        have gx : w.cell? ⟨b, off + k, none⟩ = some (.int .i64 x) := hcx
        have gy : w.cell? ⟨b2, off2 + k, none⟩ = some (.int .i64 y) := hcy
        have HD : Hid (blw xs ys = if x = y then blw (xs.drop (k + 1)) (ys.drop (k + 1)) else decide (x < y)) := by show _ = _; rw [ht.out, drop_cons xs hlt, drop_cons ys hlt2, hx.out, hy.out]; rfl
        clear hcx hcy hcell hcell2 ht hx hy
        by_cases hxy : x = y
        · subst hxy
          have HD' : Hid (blw xs ys = blw (xs.drop (k + 1)) (ys.drop (k + 1))) := by have := HD.out; rw [if_pos rfl] at this; exact this
          clear HD
          go_wp2
          go_region
          all_goals
            go_wp2
            go_roundw
            case rel => exact ⟨k + 1, by omega, by omega, by go_num, HD', by first | exact ⟨_, rfl⟩ | exact ⟨dm + 1, rfl⟩ | exact ⟨dm + 2, rfl⟩⟩
            case measure => simp [intOf]; omega
        · have hne : (x != y) = true := by simpa using hxy
          have HD' : Hid (blw xs ys = decide (x < y)) := by have := HD.out; rw [if_neg hxy] at this; exact this
          clear HD hxy
          go_wp2
          go_region
          all_goals
            go_wp2
            go_region
            all_goals
              go_wp2
              go_ret
              exact ⟨ret_bool HD'.out.symm, by first | exact ⟨_, rfl⟩ | exact ⟨dm + 1, rfl⟩ | exact ⟨dm + 2, rfl⟩⟩
      · have HE : Hid (blw xs ys = decide (xs.length < ys.length)) := by show _ = _; rw [ht.out]; exact blw_end xs ys k (fun h => hlt2 h.2) hk hk2
        go_wp2
        go_ret
        exact ⟨ret_bool (by rw [HE.out]), _, rfl⟩
    · have HE : Hid (blw xs ys = decide (xs.length < ys.length)) := by show _ = _; rw [ht.out]; exact blw_end xs ys k (fun h => hlt h.1) hk hk2
      go_wp2
      go_ret
      exact ⟨ret_bool (by rw [HE.out]), _, rfl⟩

theorem blw_nI : ∀ x y : List Nat, blw (nI x) (nI y) = true ↔ Ltl x y
  | [], [] => by simp [nI, blw, Ltl]
  | [], _ :: _ => by simp [nI, blw, Ltl]
  | _ :: _, [] => by simp [nI, blw, Ltl]
  | a :: x, b :: y => by
    have ih := blw_nI x y
    show (if ((a : Nat) : Int) = ((b : Nat) : Int) then blw (nI x) (nI y) else decide (((a : Nat) : Int) < ((b : Nat) : Int))) = true ↔ (a < b ∨ (a = b ∧ Ltl x y))
    by_cases h : a = b
    · rw [if_pos (by rw [h]), ih]
      constructor
      · exact fun h2 => Or.inr ⟨h, h2⟩
      · rintro (h2 | h2)
        · omega
        · exact h2.2
    · rw [if_neg (by omega), decide_eq_true_iff]
      constructor
      · exact fun h2 => Or.inl (by omega)
      · rintro (h2 | h2)
        · omega
        · exact absurd h2.1 h

end Go.Proofs.Ytoiiadiimfohiaa

/- Contract: the answer's Ordered. -/
namespace Go.Proofs.Ytoiiadiimfohiaa
open Go.RowKit
set_option maxRecDepth 20000
set_option linter.unusedVariables false

theorem Vals.dropK {w : World} {b o c m k : Nat} {vs : List Value} (h : Vals w (.slice (some ⟨b, o, none⟩) m c) vs) (hk : k < m) : Vals w (.slice (some ⟨b, o + k, none⟩) (m - k) (c - k)) (vs.drop k) := by
  rcases h with ⟨rfl, p', c', e⟩ | ⟨b', off, cap, e, h0, h1, h2, h3, hc⟩
  · simp at e; omega
  · simp only [Value.slice.injEq, Option.some.injEq, Addr.mk.injEq, and_true] at e
    obtain ⟨⟨rfl, rfl⟩, rfl, rfl⟩ := e
    refine Or.inr ⟨b, o + k, c - k, by rw [List.length_drop], by rw [List.length_drop]; omega, by rw [List.length_drop]; omega, by omega, h3, fun j hj => ?_⟩
    rw [List.length_drop] at hj
    rw [show o + k + j = o + (k + j) from by omega, hc (k + j) (by omega)]
    simp [List.getD]

def OrdPost (P : List (Value × List Int)) (w : World) (e : Ending) (w' : World) : Prop :=
  ∃ (u : Value) (P' : List (Value × List Int)), e = .returned u ∧ Vals w' u (P'.map Prod.fst) ∧ P'.Perm P ∧ P'.Pairwise (fun a b => blw b.2 a.2 = false) ∧ Below w.heap.size w w'

/-- What a list of values and what they read as gives at an index. -/
theorem pv_at {A : List (Value × List Int)} {i : Nat} (h : i < A.length) : ∃ x, A[i]? = some x ∧ x ∈ A ∧ (A.map Prod.fst).getD i undef = x.1 := by
  refine ⟨A[i], List.getElem?_eq_getElem h, List.getElem_mem h, by simp [List.getD, h]⟩

theorem Vals.cells {w : World} {v : Value} {vs : List Value} {m : Nat} (h : Vals w v vs) (hm : vs.length = m) (h1 : 1 ≤ m) : ∃ b off cap, v = .slice (some ⟨b, off, none⟩) m cap ∧ m ≤ cap ∧ cap ≤ 9223372036854775807 ∧ b < w.heap.size ∧ ∀ j, j < m → w.cell? ⟨b, off + j, none⟩ = some (vs.getD j undef) := by
  subst hm
  rcases h with ⟨rfl, p', c', e⟩ | ⟨b, off, cap, e, h0, h1, h2, h3, hc⟩
  · simp at h1
  · exact ⟨b, off, cap, e, h1, h2, h3, hc⟩

/-- What the merging knows. -/
structure MRel (A B Z : List (Value × List Int)) (w2 wr : World) (v : Value) (i k : Nat) : Prop where
  own : wr.ownsRow w2.heap.size 26 1 v Z.length (Z.map Prod.fst)
  eq : mrg A B = Z ++ mrg (A.drop i) (B.drop k)
  len : Z.length = i + k
  below : Below w2.heap.size w2 wr

theorem MRel.later {A B Z : List (Value × List Int)} {w2 wr w9 : World} {v : Value} {i k : Nat} (h : MRel A B Z w2 wr v i k) (hb : Below wr.heap.size wr w9) : MRel A B Z w2 w9 v i k :=
  ⟨owns_below h.own hb (Nat.le_refl _), h.eq, h.len, h.below.trans (hb.mono h.below.size)⟩

theorem MRel.next {A B Z : List (Value × List Int)} {w2 wr w9 : World} {v v9 : Value} {i k i' k' : Nat} {x : Value × List Int} {o : Obj} (h : MRel A B Z w2 wr v i k) (hx : mrg (A.drop i) (B.drop k) = x :: mrg (A.drop i') (B.drop k')) (hl : i' + k' = i + k + 1)
    (ho : w9.ownsRow w2.heap.size 26 1 v9 (Z.length + 1) (Z.map Prod.fst ++ [x.1])) (hg : (wr.alloc o).grownBy w9 v.ownBlock) : MRel A B (Z ++ [x]) w2 w9 v9 i' k' := by
  refine ⟨?_, ?_, ?_, ?_⟩
  · rw [List.length_append, List.map_append]; exact ho
  · rw [h.eq, hx, List.append_assoc]; rfl
  · rw [List.length_append, h.len]; simp; omega
  · exact (h.below.alloc h.below.size _).grown hg (by have := h.below.size; simp; omega) (fun g hg' => (h.own.lt g hg').1)

set_option maxHeartbeats 4000000 in
theorem ordered_ok (W0 : World) : ∀ (N : Nat) (P : List (Value × List Int)) (v : Value) (w : World), P.length ≤ N → P.length ≤ 1000000 → Vals w v (P.map Prod.fst) → Below W0.heap.size W0 w → (∀ p, p ∈ P → Ints W0 p.1 p.2 ∧ p.2.length ≤ 1000000) →
    Calls Try.prog 42 #[v] w (OrdPost P w) := by
  intro N
  induction N using Nat.strongRecOn with
  | ind N ih =>
    intro P v w hN hM hv hW hP
    obtain ⟨j0, hj, hq0, hq1, hq2⟩ := info_parts Try.info26
    by_cases h2 : P.length < 2
    · have HP : Hid (OrdPost P w (.returned v) w) := by
        refine ⟨v, P, rfl, hv, List.Perm.refl _, ?_, Below.refl _ _⟩
        match P, h2 with
        | [], _ => exact List.Pairwise.nil
        | [a], _ => exact List.pairwise_singleton _ _
      obtain ⟨p, c, hve⟩ := hv.form
      rw [List.length_map] at hve
      subst hve
      have h2' : (P.length : Int) < 2 := by omega
      clear hv hP ih hW
      generalize P.length = m at *
      go_enter Try.func42, Try.ntmps42
      go_wp2
      go_ret
      exact HP.out
    · obtain ⟨m, hm⟩ : ∃ m, Hid (P.length = m) := ⟨_, rfl⟩
      have hmP : (P.map Prod.fst).length = m := by rw [List.length_map]; exact hm.out
      rw [hm.out] at h2 hN hM
      obtain ⟨b, off, cap, rfl, hc1, hc2, hbl, hcell⟩ := hv.cells hmP (by omega)
      obtain ⟨q, hq⟩ : ∃ q, Hid (q = m / 2) := ⟨_, rfl⟩
      have hqv := hq.out
      have hq1' : 1 ≤ q := by omega
      have hq2' : q < m := by omega
      have hdv : (m : Int).tdiv 2 = (q : Int) := by
        rw [show (2 : Int) = ((2 : Nat) : Int) from rfl, ← Int.ofNat_tdiv, hqv]
      have HV1 := hide (hv.take (k := q) (by rw [hmP]; omega))
      have HV2 := hide (hv.dropK hq2')
      have HI := hide hP
      have HW := hide hW
      have HIH := hide ih
      have hg2 : ¬ (m : Int) < 2 := by omega
      clear hv hP hcell hqv ih hW hmP
      have HT1 : Hid (∀ p, p ∈ P.take q → Ints W0 p.1 p.2 ∧ p.2.length ≤ 1000000) := fun p hp => HI.out p (List.mem_of_mem_take hp)
      have HT2 : Hid (∀ p, p ∈ P.drop q → Ints W0 p.1 p.2 ∧ p.2.length ≤ 1000000) := fun p hp => HI.out p (List.mem_of_mem_drop hp)
      have HC1 : Hid (Calls Try.prog 42 #[.slice (some ⟨b, off, none⟩) q cap] w (OrdPost (P.take q) w)) := by
        have hl : (P.take q).length = q := by rw [List.length_take, hm.out]; omega
        exact HIH.out q (by omega) (P.take q) _ w (by omega) (by omega) (by rw [List.map_take]; exact HV1.out) HW.out HT1.out
      have HC2 : Hid (∀ W, Below w.heap.size w W → Calls Try.prog 42 #[.slice (some ⟨b, off + q, none⟩) (m - q) (cap - q)] W (OrdPost (P.drop q) W)) := fun W hb => by
        have hl : (P.drop q).length = m - q := by rw [List.length_drop, hm.out]
        exact HIH.out (m - q) (by omega) (P.drop q) _ W (by omega) (by omega) (by rw [List.map_drop]; exact HV2.out.below hb) (HW.out.trans (hb.mono HW.out.size)) HT2.out
      clear HIH HV1 HV2
      go_enter Try.func42, Try.ntmps42
      go_wp2_with fail
      refine HC1.out.mono ?_
      rintro e w1 ⟨u1, A, rfl, hA1, hA2, hA3, hb1⟩
      have HA1 := hide hA1
      have HA2 := hide hA2
      have HA3 := hide hA3
      have hAl : A.length = q := by rw [hA2.length_eq, List.length_take, hm.out]; omega
      obtain ⟨ab, ao, ac, rfl, hac1, hac2, hab, hacell⟩ := hA1.cells (m := q) (by rw [List.length_map]; exact hAl) hq1'
      have HAC := hide hacell
      clear hA1 hA2 hA3 HC1 hacell
      go_wp2_with fail
      refine (HC2.out w1 hb1).mono ?_
      rintro e w2 ⟨u2, B, rfl, hB1, hB2, hB3, hb2⟩
      have HB2 := hide hB2
      have HB3 := hide hB3
      have hBl : B.length = m - q := by rw [hB2.length_eq, List.length_drop, hm.out]
      obtain ⟨bb, bo, bc, rfl, hbc1, hbc2, hbb, hbcell⟩ := hB1.cells (m := m - q) (by rw [List.length_map]; exact hBl) (by omega)
      obtain ⟨r, hr⟩ : ∃ r, m - q = r := ⟨_, rfl⟩
      rw [hr] at hbcell hbc1 hBl ⊢
      have HBC := hide hbcell
      have HAC2 : Hid (∀ j, j < q → w2.cell? ⟨ab, ao + j, none⟩ = some ((A.map Prod.fst).getD j undef)) := fun j hj => (hb2.cell (p := ⟨ab, ao + j, none⟩) hab).trans (HAC.out j hj)
      have hab2 : ab < w2.heap.size := Nat.lt_of_lt_of_le hab hb2.size
      have hbw2 : Below w.heap.size w w2 := hb1.trans (hb2.mono hb1.size)
      have HIA : Hid (∀ p, p ∈ A → Ints W0 p.1 p.2 ∧ p.2.length ≤ 1000000) := fun p hp => HT1.out p (HA2.out.mem_iff.1 hp)
      have HIB : Hid (∀ p, p ∈ B → Ints W0 p.1 p.2 ∧ p.2.length ≤ 1000000) := fun p hp => HT2.out p (HB2.out.mem_iff.1 hp)
      have HAl := hide hAl
      have HBl := hide hBl
      have HW2 : Hid (Below W0.heap.size W0 w2) := HW.out.trans (hbw2.mono HW.out.size)
      have HR0 : Hid (MRel A B [] w2 w2 (.slice none 0 0) 0 0) := ⟨World.ownsRow_nil _ _ _ _, rfl, rfl, Below.refl _ _⟩
      have HPOST : Hid (∀ Z v wr, MRel A B Z w2 wr v q r → OrdPost P w (.returned v) wr) := fun Z v wr hR => by
        have hz : Z = mrg A B := by
          have h9 := hR.eq
          rw [List.drop_eq_nil_of_le (by rw [HAl.out]; exact Nat.le_refl _), List.drop_eq_nil_of_le (by rw [HBl.out]; exact Nat.le_refl _), mrg_nil, List.append_nil] at h9
          exact h9.symm
        refine ⟨v, Z, rfl, Vals.own (by rw [List.length_map]; exact hR.own), ?_, ?_, hbw2.trans (hR.below.mono hbw2.size)⟩
        · rw [hz]
          have h9 := (mrg_perm A B).trans (HA2.out.append HB2.out)
          rw [List.take_append_drop] at h9
          exact h9
        · rw [hz]; exact mrg_ris A B HA3.out HB3.out
      have hrm : r + q = m := by omega
      clear hB1 hB2 hB3 hb1 hb2 HC2 HAC hbcell hAl hBl hr hdv
      go_wp2
      go_loopw [5, 6, 7] (fun hd iv kv wr => ∃ (Z : List (Value × List Int)) (i k : Nat), i ≤ q ∧ k ≤ r ∧ iv = .int .i64 i ∧ kv = .int .i64 k ∧ Hid (MRel A B Z w2 wr hd i k)) (fun _ iv kv _ => q + r - ((intOf iv).toNat + (intOf kv).toNat))
      case atStart => exact ⟨[], 0, 0, by omega, by omega, rfl, rfl, HR0⟩
      case round =>
        clear HR0
        obtain ⟨Z, i, k, hi, hk, rfl, rfl, hR⟩ := hrel
        have hbr := hR.out.below
        have hbs := hbr.size
        have hZb : Z.length ≤ 1000000 := by rw [hR.out.len]; omega
        have hrow := hR.out.own
        obtain ⟨zp, zc, rfl⟩ := owns_slice hrow
        have HRW := hide hrow
        clear hrow
        by_cases hiq : i < q
        · obtain ⟨x, hx1, hx2, hx3⟩ := pv_at (A := A) (i := i) (by rw [HAl.out]; exact hiq)
          have gx := (hbr.cell (p := ⟨ab, ao + i, none⟩) hab2).trans (HAC2.out i hiq)
          rw [hx3] at gx
          obtain ⟨xi, xl⟩ := HIA.out x hx2
          obtain ⟨xp, xc, hxe⟩ := xi.form
          rw [hxe] at gx
          by_cases hkr : k < r
          · obtain ⟨y, hy1, hy2, hy3⟩ := pv_at (A := B) (i := k) (by rw [HBl.out]; exact hkr)
            have gy := (hbr.cell (p := ⟨bb, bo + k, none⟩) hbb).trans (HBC.out k hkr)
            rw [hy3] at gy
            obtain ⟨yi, yl⟩ := HIB.out y hy2
            obtain ⟨yp, yc, hye⟩ := yi.form
            rw [hye] at gy
            have HBQ : Hid (∀ mm, Calls Try.prog 67 #[.slice yp y.2.length yc, .slice xp x.2.length xc] (wr.drewN mm) fun e w' => e = .returned (.bool (blw y.2 x.2)) ∧ ∃ m', w' = (wr.drewN mm).drewN m') := fun mm => by
              have hbb9 : Below W0.heap.size W0 (wr.drewN mm) := below_drewN (HW2.out.trans (hbr.mono HW2.out.size)) mm
              exact rbelow_q _ _ _ _ (wr.drewN mm) (by rw [← hye]; exact yi.below hbb9) (by rw [← hxe]; exact xi.below hbb9) yl xl
            have HLX := hide (fun h => mrg_left (B := B) (k := k) hx1 (Or.inr ⟨y, hy1, h⟩))
            have HRX := hide (fun h => mrg_right (A := A) (i := i) hy1 (Or.inr ⟨x, hx1, h⟩))
            have hd1 : decide ((i : Int) < (q : Int)) = true := decide_eq_true (by omega)
            have hd2 : ((k : Int) == (r : Int)) = false := by simp; omega
            have hik : (i : Int) < (q : Int) := by omega
            have HXE := hide hxe
            have HYE := hide hye
            clear xi yi xl yl hxe hye hx2 hy2 hx3 hy3 hx1 hy1
            generalize x.2.length = xn at *
            generalize y.2.length = yn at *
            go_wp2
            cases hc : blw y.2 x.2 with
            | false =>
              rw [hc] at HBQ
              have HNX := hide (HLX.out hc)
              clear hc
              go_quiet ((go_at_call 67; exact Calls.quiet_of (HBQ.out _)))
              have HR9 := hide (hR.out.later (below_drewN (Below.refl _ _) nq))
              have gx9 : (wr.drewN nq).cell? ⟨ab, ao + i, none⟩ = some (.slice xp xn xc) := gx
              have gy9 : (wr.drewN nq).cell? ⟨bb, bo + k, none⟩ = some (.slice yp yn yc) := gy
              clear HBQ HLX HRX gx gy hR
              generalize wr.drewN nq = wX at *
              have hrow9 := HR9.out.own
              have hs9 := HR9.out.below.size
              go_wp2_with (at_builtin; refine wpList_append_own _ rfl _ _ 22 rfl w2.heap.size 26 j0 (.slice none 0 0) 1 24 Try.underlying22 hj hq0 hq1 hq2 rfl (by decide) _ _ _ rfl (hrow9.alloc _) ⟨wX.heap.size, 0, none⟩ 1 1 [.slice xp xn xc] rfl rfl ?c1a ?c2a ?c3a ?c4a ?c5a ?_)
              case c1a => exact cell_one_new _ _ _
              case c2a => intro u hu; simp at hu; subst hu; rfl
              case c3a => unfold maxLen; omega
              case c4a => omega
              case c5a => simp; omega
              · intro v9 w9 hown9 hg9 _
                have HRN := hide (HR9.out.next (x := x) HNX.out (by omega) (by rw [HXE.out]; exact hown9) hg9)
                clear hown9 hg9 HR9 hrow9 HNX
                go_wp2
                go_roundw
                case rel => exact ⟨Z ++ [x], i + 1, k, by omega, by omega, by go_num, rfl, HRN⟩
                case measure => simp [intOf]; omega
            | true =>
              rw [hc] at HBQ
              have HNX := hide (HRX.out hc)
              clear hc
              go_quiet ((go_at_call 67; exact Calls.quiet_of (HBQ.out _)))
              have HR9 := hide (hR.out.later (below_drewN (Below.refl _ _) nq))
              have gx9 : (wr.drewN nq).cell? ⟨ab, ao + i, none⟩ = some (.slice xp xn xc) := gx
              have gy9 : (wr.drewN nq).cell? ⟨bb, bo + k, none⟩ = some (.slice yp yn yc) := gy
              clear HBQ HLX HRX gx gy hR
              generalize wr.drewN nq = wX at *
              have hrow9 := HR9.out.own
              have hs9 := HR9.out.below.size
              go_wp2_with (at_builtin; refine wpList_append_own _ rfl _ _ 22 rfl w2.heap.size 26 j0 (.slice none 0 0) 1 24 Try.underlying22 hj hq0 hq1 hq2 rfl (by decide) _ _ _ rfl (hrow9.alloc _) ⟨wX.heap.size, 0, none⟩ 1 1 [.slice yp yn yc] rfl rfl ?c1b ?c2b ?c3b ?c4b ?c5b ?_)
              case c1b => exact cell_one_new _ _ _
              case c2b => intro u hu; simp at hu; subst hu; rfl
              case c3b => unfold maxLen; omega
              case c4b => omega
              case c5b => simp; omega
              · intro v9 w9 hown9 hg9 _
                have HRN := hide (HR9.out.next (x := y) HNX.out (by omega) (by rw [HYE.out]; exact hown9) hg9)
                clear hown9 hg9 HR9 hrow9 HNX
                go_wp2
                go_roundw
                case rel => exact ⟨Z ++ [y], i, k + 1, by omega, by omega, rfl, by go_num, HRN⟩
                case measure => simp [intOf]; omega
          · obtain rfl : k = r := by omega
            have HNX := hide (mrg_left (B := B) (k := k) hx1 (Or.inl HBl.out.symm))
            have hik : (i : Int) < (q : Int) := by omega
            have hd1 : decide ((i : Int) < (q : Int)) = true := decide_eq_true (by omega)
            have HXE := hide hxe
            clear xi xl hxe hx2 hx3 hx1
            generalize x.2.length = xn at *
            go_wp2
            go_quiet (fail)
            have HR9 := hide (hR.out.later (below_drewN (Below.refl _ _) nq))
            have gx9 : (wr.drewN nq).cell? ⟨ab, ao + i, none⟩ = some (.slice xp xn xc) := gx
            clear gx hR
            generalize wr.drewN nq = wX at *
            have hrow9 := HR9.out.own
            have hs9 := HR9.out.below.size
            go_wp2_with (at_builtin; refine wpList_append_own _ rfl _ _ 22 rfl w2.heap.size 26 j0 (.slice none 0 0) 1 24 Try.underlying22 hj hq0 hq1 hq2 rfl (by decide) _ _ _ rfl (hrow9.alloc _) ⟨wX.heap.size, 0, none⟩ 1 1 [.slice xp xn xc] rfl rfl ?c1c ?c2c ?c3c ?c4c ?c5c ?_)
            case c1c => exact cell_one_new _ _ _
            case c2c => intro u hu; simp at hu; subst hu; rfl
            case c3c => unfold maxLen; omega
            case c4c => omega
            case c5c => simp; omega
            · intro v9 w9 hown9 hg9 _
              have HRN := hide (HR9.out.next (x := x) HNX.out (by omega) (by rw [HXE.out]; exact hown9) hg9)
              clear hown9 hg9 HR9 hrow9 HNX
              go_wp2
              go_roundw
              case rel => exact ⟨Z ++ [x], i + 1, k, by omega, by omega, by go_num, rfl, HRN⟩
              case measure => simp [intOf]; omega
        · obtain rfl : i = q := by omega
          by_cases hkr : k < r
          · obtain ⟨y, hy1, hy2, hy3⟩ := pv_at (A := B) (i := k) (by rw [HBl.out]; exact hkr)
            have gy := (hbr.cell (p := ⟨bb, bo + k, none⟩) hbb).trans (HBC.out k hkr)
            rw [hy3] at gy
            obtain ⟨yi, yl⟩ := HIB.out y hy2
            obtain ⟨yp, yc, hye⟩ := yi.form
            rw [hye] at gy
            have HNX := hide (mrg_right (A := A) (i := i) hy1 (Or.inl HAl.out.symm))
            have hik : ¬ (i : Int) < (i : Int) := by omega
            have hkk : (k : Int) < (r : Int) := by omega
            have hd1 : decide ((i : Int) < (i : Int)) = false := decide_eq_false (by omega)
            have hd2 : decide ((k : Int) < (r : Int)) = true := decide_eq_true (by omega)
            have HYE := hide hye
            clear yi yl hye hy2 hy3 hy1
            generalize y.2.length = yn at *
            go_wp2
            go_quiet (fail)
            have HR9 := hide (hR.out.later (below_drewN (Below.refl _ _) nq))
            have gy9 : (wr.drewN nq).cell? ⟨bb, bo + k, none⟩ = some (.slice yp yn yc) := gy
            clear gy hR
            generalize wr.drewN nq = wX at *
            have hrow9 := HR9.out.own
            have hs9 := HR9.out.below.size
            go_wp2_with (at_builtin; refine wpList_append_own _ rfl _ _ 22 rfl w2.heap.size 26 j0 (.slice none 0 0) 1 24 Try.underlying22 hj hq0 hq1 hq2 rfl (by decide) _ _ _ rfl (hrow9.alloc _) ⟨wX.heap.size, 0, none⟩ 1 1 [.slice yp yn yc] rfl rfl ?c1d ?c2d ?c3d ?c4d ?c5d ?_)
            case c1d => exact cell_one_new _ _ _
            case c2d => intro u hu; simp at hu; subst hu; rfl
            case c3d => unfold maxLen; omega
            case c4d => omega
            case c5d => simp; omega
            · intro v9 w9 hown9 hg9 _
              have HRN := hide (HR9.out.next (x := y) HNX.out (by omega) (by rw [HYE.out]; exact hown9) hg9)
              clear hown9 hg9 HR9 hrow9 HNX
              go_wp2
              go_roundw
              case rel => exact ⟨Z ++ [y], i, k + 1, by omega, by omega, rfl, by go_num, HRN⟩
              case measure => simp [intOf]; omega
          · obtain rfl : k = r := by omega
            have HP := hide (HPOST.out Z _ wr hR.out)
            clear hR HPOST HRW
            have hd1 : decide ((i : Int) < (i : Int)) = false := decide_eq_false (by omega)
            have hd2 : decide ((k : Int) < (k : Int)) = false := decide_eq_false (by omega)
            go_wp2
            go_ret
            exact HP.out

end Go.Proofs.Ytoiiadiimfohiaa

/- Plain: the heads that the answer's False gathers; contract: its first part. -/
namespace Go.Proofs.Ytoiiadiimfohiaa
open Go.RowKit Go.Maps
set_option maxRecDepth 20000
set_option linter.unusedVariables false

theorem by_un_rnd2 {n : Nat} (h12 : n ≤ 12) {a b : List Int} (ha : Rw n a) (hb : Rw n b) : by_ a (un b) = rnd n ↔ a = b := by
  constructor
  · intro h
    refine Rw.eq h12 ha hb ?_
    have h2 := ha.pad_by h12 hb.un
    rw [h, pad_rnd h12, hb.pad_un h12] at h2
    have h3 : pad a * (pad b)⁻¹ * pad b = 1 * pad b := by rw [← h2]
    rw [Pm.mul_assoc, Pm.inv_mul, Pm.mul_one, Pm.one_mul] at h3
    exact h3
  · rintro rfl
    refine Rw.eq h12 (ha.by ha.un) (Rw.rnd n) ?_
    rw [ha.pad_by h12 ha.un, ha.pad_un h12, pad_rnd h12, Pm.mul_inv]

/-- All rows that make one of another, one's own rows first. -/
def prA (L : List (List Int)) : List (List Int) := L.flatMap (fun a => L.map (fun b => by_ a (un b)))

theorem prA_mem {L : List (List Int)} {h : List Int} : h ∈ prA L ↔ h ∈ pr L := by
  rw [pr_mem]
  simp only [prA, List.mem_flatMap, List.mem_map]
  constructor
  · rintro ⟨a, ha, b, hb, e⟩; exact ⟨b, hb, a, ha, e⟩
  · rintro ⟨b, hb, a, ha, e⟩; exact ⟨a, ha, b, hb, e⟩

theorem prA_length (L : List (List Int)) : (prA L).length = L.length * L.length := by
  unfold prA
  rw [List.length_flatMap]
  simp only [List.length_map]
  exact sum_const _ L

theorem prA_next {L : List (List Int)} {p q : Nat} (hp : p < L.length) (hq : q < L.length) : (prA L).take (p * L.length + q + 1) = (prA L).take (p * L.length + q) ++ [by_ (L.getD p []) (un (L.getD q []))] := by
  have h : (prA L)[p * L.length + q]? = some (by_ (L.getD p []) (un (L.getD q []))) := by
    unfold prA
    rw [flat_get _ L.length (fun a => List.length_map _) L p q hp hq, List.getElem?_map, List.getElem?_eq_getElem hq]
    simp [List.getD, List.getElem?_eq_getElem hq, List.getElem?_eq_getElem hp]
  rw [List.take_add_one, h]
  rfl

/-- What is gathered of some pairs. -/
def gth (n : Nat) (L : List (List Int)) (m : Nat) : List (List Int) := ((prA L).take m).filter (fun h => decide (h ≠ rnd n))

theorem gth_hit {n : Nat} {L : List (List Int)} {p q : Nat} (hp : p < L.length) (hq : q < L.length) (h : by_ (L.getD p []) (un (L.getD q [])) = rnd n) : gth n L (p * L.length + q + 1) = gth n L (p * L.length + q) := by
  unfold gth
  rw [prA_next hp hq, List.filter_append, h]
  simp

theorem gth_miss {n : Nat} {L : List (List Int)} {p q : Nat} (hp : p < L.length) (hq : q < L.length) (h : by_ (L.getD p []) (un (L.getD q [])) ≠ rnd n) : gth n L (p * L.length + q + 1) = gth n L (p * L.length + q) ++ [by_ (L.getD p []) (un (L.getD q []))] := by
  unfold gth
  rw [prA_next hp hq, List.filter_append]
  generalize by_ (L.getD p []) (un (L.getD q [])) = x at *
  simp [h]

theorem gth_length (n : Nat) (L : List (List Int)) (m : Nat) : (gth n L m).length ≤ L.length * L.length := by
  unfold gth
  refine Nat.le_trans (List.length_filter_le _ _) ?_
  rw [List.length_take, prA_length]
  exact Nat.min_le_right _ _

theorem gth_all (n : Nat) (L : List (List Int)) (h : List Int) : h ∈ gth n L (L.length * L.length) ↔ h ∈ pr L ∧ h ≠ rnd n := by
  unfold gth
  rw [List.take_of_length_le (by rw [prA_length]; exact Nat.le_refl _), List.mem_filter, prA_mem]
  simp

/-- Two of the first pairs are alike. -/
def Sf (L : List (List Int)) (m : Nat) (t : Bool) : Prop := t = true ↔ ∃ i k, i * L.length + k < m ∧ i < L.length ∧ k < L.length ∧ i ≠ k ∧ L.getD i [] = L.getD k []

theorem Sf.zero (L : List (List Int)) : Sf L 0 false := ⟨(fun h => by cases h), fun ⟨_, _, h, _⟩ => absurd h (by omega)⟩

theorem pair_uniq {K i k p q : Nat} (hk : k < K) (hq : q < K) (h : i * K + k = p * K + q) : i = p ∧ k = q := by
  have h1 : (i * K + k) / K = i := by rw [Nat.mul_comm, Nat.mul_add_div (by omega), Nat.div_eq_of_lt hk, Nat.add_zero]
  have h2 : (p * K + q) / K = p := by rw [Nat.mul_comm, Nat.mul_add_div (by omega), Nat.div_eq_of_lt hq, Nat.add_zero]
  have h3 : i = p := by rw [← h1, ← h2, h]
  subst h3
  exact ⟨rfl, by omega⟩

theorem Sf.next {L : List (List Int)} {p q : Nat} {t : Bool} (hp : p < L.length) (hq : q < L.length) (h : Sf L (p * L.length + q) t) {t' : Bool} (ht : t' = true ↔ t = true ∨ (p ≠ q ∧ L.getD p [] = L.getD q [])) : Sf L (p * L.length + q + 1) t' := by
  unfold Sf at *
  rw [ht, h]
  constructor
  · rintro (⟨i, k, h1, h2⟩ | ⟨h1, h2⟩)
    · exact ⟨i, k, by omega, h2⟩
    · exact ⟨p, q, by omega, hp, hq, h1, h2⟩
  · rintro ⟨i, k, h1, h2, h3, h4, h5⟩
    rcases Nat.lt_or_ge (i * L.length + k) (p * L.length + q) with h9 | h9
    · exact Or.inl ⟨i, k, h9, h2, h3, h4, h5⟩
    · obtain ⟨rfl, rfl⟩ := pair_uniq h3 hq (show i * L.length + k = p * L.length + q by omega)
      exact Or.inr ⟨h4, h5⟩

theorem Sf.all {L : List (List Int)} {t : Bool} (h : Sf L (L.length * L.length) t) : t = false ↔ L.Nodup := by
  rw [List.nodup_iff_pairwise_ne] at *
  have hn : L.Nodup ↔ ∀ i j, i < j → j < L.length → L.getD i [] ≠ L.getD j [] := by
    unfold List.Nodup
    rw [List.pairwise_iff_getElem]
    constructor
    · intro h i j hij hj
      have := h i j (by omega) hj hij
      simpa [List.getD, show i < L.length by omega, hj] using this
    · intro h i j hi hj hij
      have := h i j hij hj
      simpa [List.getD, hi, hj] using this
  constructor
  · intro ht
    refine hn.2 (fun i j hij hj e => ?_)
    have : t = true := h.2 ⟨i, j, ?_, by omega, hj, by omega, e⟩
    · rw [ht] at this; cases this
    · have : i * L.length + L.length ≤ L.length * L.length := by rw [← Nat.succ_mul]; exact Nat.mul_le_mul_right _ (by omega)
      omega
  · intro hd
    cases ht : t with
    | false => rfl
    | true =>
      obtain ⟨i, k, _, h1, h2, h3, h4⟩ := h.1 ht
      rcases Nat.lt_or_ge i k with h9 | h9
      · exact absurd h4 (hn.1 hd i k h9 h2)
      · exact absurd h4.symm (hn.1 hd k i (by omega) h1)

end Go.Proofs.Ytoiiadiimfohiaa

/- Contract: the answer's False. -/
namespace Go.Proofs.Ytoiiadiimfohiaa
open Go.RowKit Go.Maps
set_option maxRecDepth 20000
set_option linter.unusedVariables false

/-- Values and what they read as. -/
structure VL (w : World) (us : List Value) (X : List (List Int)) : Prop where
  len : us.length = X.length
  at_ : ∀ j, j < X.length → Ints w (us.getD j undef) (X.getD j [])

theorem VL.nil (w : World) : VL w [] [] := ⟨rfl, fun j hj => absurd hj (by simp)⟩

theorem VL.push {w : World} {us : List Value} {X : List (List Int)} {u : Value} {x : List Int} (h : VL w us X) (hu : Ints w u x) : VL w (us ++ [u]) (X ++ [x]) := by
  refine ⟨by rw [List.length_append, List.length_append, h.len]; rfl, ints_join h.len h.at_ (fun j hj => ?_)⟩
  have : j = 0 := by simp at hj; exact hj
  subst this
  exact hu

def RFPost (n : Nat) (L : List (List Int)) (w : World) (e : Ending) (w' : World) : Prop :=
  ∃ u X t, e = .returned (.tuple #[u, .bool t]) ∧ IntsAll w' u X ∧ (t = false ↔ L.Nodup) ∧ X.Pairwise (fun a b => blw a b = true) ∧ (∀ h, h ∈ X ↔ h ∈ pr L ∧ h ≠ rnd n) ∧ Below w.heap.size w w'

/-- What both loops know. -/
structure RFRel (n : Nat) (L : List (List Int)) (w1 wr : World) (hd : Value) (vs : List Value) (t : Bool) (m : Nat) : Prop where
  ll : LL wr w1.heap.size hd vs (gth n L m)
  sf : Sf L m t
  below : Below w1.heap.size w1 wr

theorem RFRel.later {n : Nat} {L : List (List Int)} {w1 wr w' : World} {hd : Value} {vs : List Value} {t : Bool} {m : Nat} (h : RFRel n L w1 wr hd vs t m) (hb : Below wr.heap.size wr w') : RFRel n L w1 w' hd vs t m :=
  ⟨h.ll.below hb, h.sf, h.below.trans (hb.mono h.below.size)⟩

theorem pairs_of {w : World} {base : Nat} : ∀ {vs : List Value} {X : List (List Int)}, OwnAll w base vs X → ∃ P : List (Value × List Int), P.map Prod.fst = vs ∧ P.map Prod.snd = X ∧ ∀ p, p ∈ P → Ints w p.1 p.2
  | [], [], _ => ⟨[], rfl, rfl, fun p hp => by cases hp⟩
  | [], _ :: _, h => h.elim
  | _ :: _, [], h => h.elim
  | v :: vs, x :: X, h => by
    obtain ⟨P, h1, h2, h3⟩ := pairs_of h.2
    refine ⟨(v, x) :: P, by rw [List.map_cons, h1], by rw [List.map_cons, h2], fun p hp => ?_⟩
    rcases List.mem_cons.1 hp with rfl | hp
    · exact Ints.own h.1
    · exact h3 p hp

theorem nubTo_len (X : List (List Int)) : ∀ k, (nubTo X k).length ≤ k
  | 0 => Nat.le_refl _
  | k + 1 => by
    have := nubTo_len X k
    rw [nubTo]
    split
    · rw [List.length_append]; simp; omega
    · omega

theorem gth_rows {n : Nat} {L : List (List Int)} (hL : ∀ r, r ∈ L → Rw n r) {m : Nat} : ∀ x, x ∈ gth n L m → Rw n x := by
  intro x hx
  unfold gth at hx
  have h1 := List.mem_of_mem_take (List.mem_filter.1 hx).1
  exact pr_rows hL x (prA_mem.1 h1)

def NubRel (X : List (List Int)) (w6 wr : World) (base : Nat) (hd : Value) (us : List Value) (W0 : World) (k : Nat) : Prop :=
  wr.ownsRow base 26 1 hd us.length us ∧ VL W0 us (nubTo X k) ∧ Below w6.heap.size w6 wr

set_option maxHeartbeats 8000000 in
theorem rfalse_ok (s : ByteArray) (n : Nat) (vp : Option Addr) (vc : Nat) (ts : List (List Bool)) (w : World) (h1 : 2 ≤ n) (h12 : n ≤ 12) (hl1 : 1 ≤ ts.length) (hl2 : ts.length ≤ 200) (hts : ∀ t, t ∈ ts → tsz t = n) (hv : IntsAll w (.slice vp ts.length vc) (ts.map tpl)) :
    Calls Try.prog 13 #[.agg #[.string s, .int .i64 n, .slice vp ts.length vc]] w (RFPost n (ldr n ts) w) := by
  obtain ⟨j0, hj, hq0, hq1, hq2⟩ := info_parts Try.info26
  have HRW := hide (ldr_rows hts)
  have HRL := hide (ldr_length n ts)
  have HFL : Hid (frL (rnd n) ts ts.length = leadTo n ts ts.length) := by
    show _ = _
    unfold frL leadTo
    rfl
  have HTS := hide hts
  have HV := hide hv
  have HB0 := hide ((Below.refl w.heap.size w).alloc (Nat.le_refl _) (mbox s n (.slice vp ts.length vc)))
  obtain ⟨d0, d1, d2⟩ := mbox_cells w s n (.slice vp ts.length vc)
  obtain ⟨K, hK⟩ : ∃ K, Hid (ts.length = K) := ⟨_, rfl⟩
  have HRO := hide (fun W => rrounds_ok n W (by omega))
  rw [hK.out] at hl1 hl2 d1 d2 HB0 ⊢
  rw [hK.out] at HV
  rw [hK.out] at HRL
  have hs0 : w.heap.size < (w.alloc (mbox s n (.slice vp K vc))).heap.size := by simp
  clear hts hv
  go_enter Try.func13, Try.ntmps13
  go_upto_region 1 with fail
  change Code.wp _ _ _ _ (w.alloc (mbox s n (.slice vp K vc)))
  generalize w.alloc (mbox s n (.slice vp K vc)) = wA at *
  refine wp_region_held_drew (S := fun W' => W'.cell? ⟨w.heap.size, 1, none⟩ = some (.int .i64 n) ∧ W'.cell? ⟨w.heap.size, 2, none⟩ = some (.slice vp K vc)) (by kernel_rfl) ⟨d1, d2⟩ (fun hS => ?_)
  refine wpAnyH_take (i := 0) (v := .pointer (some ⟨w.heap.size, 1, none⟩)) rfl (by kernel_rfl) (by kernel_rfl) (by kernel_rfl) (fun _ _ _ h => h) (Or.inl ⟨by kernel_rfl, fun w' hS' => by obtain ⟨q0, q1⟩ := hS'; go_simp⟩) hS ?_
  refine wpAnyH_take (i := 1) (v := .int .i64 n) rfl (by kernel_rfl) (by kernel_rfl) (by kernel_rfl) (fun _ _ _ h => h) (Or.inl ⟨by kernel_rfl, fun w' hS' => by obtain ⟨q0, q1⟩ := hS'; go_simp⟩) hS ?_
  refine wpAnyH_take (i := 3) (v := .pointer (some ⟨w.heap.size, 2, none⟩)) rfl (by kernel_rfl) (by kernel_rfl) (by kernel_rfl) (fun _ _ _ h => h) (Or.inl ⟨by kernel_rfl, fun w' hS' => by obtain ⟨q0, q1⟩ := hS'; go_simp⟩) hS ?_
  refine wpAnyH_take (i := 4) (v := .slice vp K vc) rfl (by kernel_rfl) (by kernel_rfl) (by kernel_rfl) (fun _ _ _ h => h) (Or.inl ⟨by kernel_rfl, fun w' hS' => by obtain ⟨q0, q1⟩ := hS'; go_simp⟩) hS ?_
  refine wpAnyH_ready (rs := [2]) (by kernel_rfl) (by simp) ?_
  refine AllReadyH.cons rfl (fun K9 hK9 => ?_) AllReadyH.nil
  go_simp
  refine (HRO.out wA.drew).mono ?_
  rintro e w1 ⟨rv, rfl, hrv, hb1⟩
  have hbA1 : Below wA.heap.size wA w1 := (Below.refl _ _).drew.trans hb1
  have hc1 : ∀ j, w1.cell? ⟨w.heap.size, j, none⟩ = wA.cell? ⟨w.heap.size, j, none⟩ := fun j => hbA1.cell (p := ⟨w.heap.size, j, none⟩) hs0
  refine hK9.out _ _ ⟨by rw [hc1]; exact d1, by rw [hc1]; exact d2⟩ (fun hS => ?_)
  clear hK9
  refine wpAnyH_ready (rs := [5]) (by kernel_rfl) (by simp) ?_
  refine AllReadyH.cons rfl (fun K9 hK9 => ?_) AllReadyH.nil
  go_simp
  have hB1 : Below w.heap.size w w1 := HB0.out.trans (hbA1.mono HB0.out.size)
  have hF := rfrom_ok wA.heap.size rv (rnd n) n (.slice vp K vc) ts w1 (isRow_rnd n) (rnd_length n) (by omega) h12 hrv HTS.out (by rw [hK.out]; exact hl1) (by rw [hK.out]; omega) (HV.out.below hB1) hb1.size
  rw [HFL.out] at hF
  refine hF.mono ?_
  rintro e w2 ⟨lv, vs, rfl, hL2, _, hb2⟩
  have hc2 : ∀ j, w2.cell? ⟨w.heap.size, j, none⟩ = wA.cell? ⟨w.heap.size, j, none⟩ := fun j => (hb2.cell (p := ⟨w.heap.size, j, none⟩) (Nat.lt_of_lt_of_le hs0 hbA1.size)).trans (hc1 j)
  refine hK9.out _ _ ⟨by rw [hc2]; exact d1, by rw [hc2]; exact d2⟩ (fun hS => ?_)
  clear hK9
  refine wpAnyH_take (i := 6) (v := lv) rfl (by kernel_rfl) (by kernel_rfl) (by kernel_rfl) (fun _ _ _ h => h) (Or.inl ⟨by kernel_rfl, fun w' hS' => by obtain ⟨q0, q1⟩ := hS'; go_simp⟩) hS ?_
  refine wpAnyH_done (by kernel_rfl) ?_ _
  have hB2 : Below w.heap.size w w2 := hB1.trans (hb2.mono hB1.size)
  have hvl : vs.length = K + 1 := by rw [hL2.len, leadTo_length, hK.out]
  have hr2 := hL2.row
  rw [hvl] at hr2
  obtain ⟨gu, cu, rfl, hgu1, hgu2, hcu1, hcu2⟩ := owns_form hr2 (by omega)
  have hI := hL2.front hvl (k := K) (by omega) hl1 hgu2 hcu1 hcu2
  rw [show (leadTo n ts ts.length).take K = ldr n ts from by unfold ldr; rw [hK.out]] at hI
  have HI := hide hI
  clear hS hL2 hb2 hr2 hrv hb1 hbA1 hc1 hc2 hI HV HB0 HRO d0 d1 d2 hF hvl HFL hs0 HTS hB1
  generalize ldr n ts = L at *
  have hcell := HI.out.cell (by rw [HRL.out]; exact hl1)
  rw [HRL.out] at hcell
  obtain ⟨b9, o9, c9, he9, hb9, _, _, hcell⟩ := hcell
  simp only [Value.slice.injEq, Option.some.injEq, Addr.mk.injEq, and_true] at he9
  obtain ⟨⟨rfl, rfl⟩, _, rfl⟩ := he9
  have HC := hide hcell
  have HRX : Hid (∀ k, k < K → Rw n (L.getD k [])) := fun k hk => HRW.out _ (by rw [List.getD_eq_getElem?_getD, List.getElem?_eq_getElem (by rw [HRL.out]; exact hk)]; exact List.getElem_mem _)
  have HR0 : Hid (RFRel n L w2 w2 (.slice none 0 0) [] false (0 * K)) := ⟨by rw [Nat.zero_mul]; exact LL.nil _ _, by rw [Nat.zero_mul]; exact Sf.zero L, Below.refl _ _⟩
  have hsubK : ((K + 1 : Nat) : Int) - 1 = (K : Int) := by omega
  have hwK : IntKind.i64.wrap (K : Int) = (K : Int) := by rw [IntKind.wrap_i64]; omega
  clear hcell
  go_wp2
  go_loopw [5, 6, 7] (fun sv hd iv wr => ∃ (t : Bool) (vs : List Value) (p : Nat), p ≤ K ∧ sv = .bool t ∧ iv = .int .i64 p ∧ Hid (RFRel n L w2 wr hd vs t (p * K))) (fun _ _ iv _ => K - (intOf iv).toNat)
  case atStart => exact ⟨false, [], 0, by omega, rfl, rfl, HR0⟩
  case round =>
    clear HR0
    obtain ⟨t, vs, p, hp, rfl, rfl, hR⟩ := hrel
    obtain ⟨zp, zc, rfl⟩ := owns_slice hR.out.ll.row
    by_cases hpK : p < K
    · have HI0 : Hid (RFRel n L w2 wr (.slice zp vs.length zc) vs t (p * K + 0)) := hR.out
      clear hR
      go_wp2
      go_loopw [5, 6, 8] (fun sv hd kv wl => ∃ (t : Bool) (vs : List Value) (q : Nat), q ≤ K ∧ sv = .bool t ∧ kv = .int .i64 q ∧ Hid (RFRel n L w2 wl hd vs t (p * K + q))) (fun _ _ kv _ => K - (intOf kv).toNat)
      case atStart => exact ⟨t, vs, 0, by omega, rfl, rfl, HI0⟩
      case round =>
        clear HI0
        obtain ⟨t, vs, q, hq, rfl, rfl, hR⟩ := hrel
        obtain ⟨zp, zc, rfl⟩ := owns_slice hR.out.ll.row
        by_cases hqK : q < K
        · have hbr := hR.out.below
          have hbs := hbr.size
          obtain ⟨p1, c1, hce1, hi1⟩ := HC.out p hpK
          obtain ⟨p2, c2, hce2, hi2⟩ := HC.out q hqK
          have r1 := HRX.out p hpK
          have r2 := HRX.out q hqK
          have g1 := (hbr.cell (p := ⟨gu, 0 + p, none⟩) hgu2).trans hce1
          have g2 := (hbr.cell (p := ⟨gu, 0 + q, none⟩) hgu2).trans hce2
          rw [r1.len, Nat.zero_add] at g1
          rw [r2.len, Nat.zero_add] at g2
          rw [r1.len] at hi1
          rw [r2.len] at hi2
          have HU := hide (fun W (hW : Below wr.heap.size wr W) => undo_own (.slice p2 n c2) (L.getD q []) W ((hi2.out.below hbr).below hW) r2.row (by rw [r2.len]; omega) (by rw [r2.len]; exact h12))
          rw [r2.len] at HU
          have HBY := hide (fun W (hW : Below wr.heap.size wr W) (zs : List Int) (uv : Value) (hz : Undoes zs (L.getD q [])) (hu : Ints W uv zs) => rby_own (.slice p1 n c1) uv (L.getD p []) zs W ((hi1.out.below hbr).below hW) hu (fun j hj => by
            rw [undoes_un r2.row hz] at hj ⊢
            have h9 := r2.un.row.at hj
            rw [r1.len]
            rw [r2.un.len] at h9
            exact h9) (by rw [r1.len]; omega) (by rw [undoes_un r2.row hz, r2.un.len]; omega))
          have HE : Hid (by_ (L.getD p []) (un (L.getD q [])) = rnd n ↔ L.getD p [] = L.getD q []) := by_un_rnd2 h12 r1 r2
          have HHR := hide (r1.by r2.un)
          have HUN : Hid (∀ zs, Undoes zs (L.getD q []) → zs = un (L.getD q [])) := fun zs hz => undoes_un r2.row hz
          have HUL := hide r2.un.len
          have HLp : Hid (p < L.length) := by show p < L.length; rw [HRL.out]; exact hpK
          have HLq : Hid (q < L.length) := by show q < L.length; rw [HRL.out]; exact hqK
          have HHIT : Hid (by_ (L.getD p []) (un (L.getD q [])) = rnd n → gth n L (p * K + q + 1) = gth n L (p * K + q)) := by
            intro h
            have h9 := gth_hit (n := n) HLp.out HLq.out h
            rw [HRL.out] at h9
            exact h9
          have HMIS : Hid (by_ (L.getD p []) (un (L.getD q [])) ≠ rnd n → gth n L (p * K + q + 1) = gth n L (p * K + q) ++ [by_ (L.getD p []) (un (L.getD q []))]) := by
            intro h
            have h9 := gth_miss (n := n) HLp.out HLq.out h
            rw [HRL.out] at h9
            exact h9
          have HSF : Hid (∀ t' : Bool, (t' = true ↔ t = true ∨ (p ≠ q ∧ L.getD p [] = L.getD q [])) → Sf L (p * K + q + 1) t') := by
            intro t' ht
            have h9 := hR.out.sf
            rw [← HRL.out] at h9 ⊢
            exact h9.next HLp.out HLq.out ht
          clear hce1 hce2 hi1 hi2 r1 r2
          generalize hHe : by_ (L.getD p []) (un (L.getD q [])) = H at *
          have HHE := hide hHe
          clear hHe
          go_upto_region 11 with fail
          refine wp_region_held_drew (S := fun W' => W'.cell? ⟨gu, p, none⟩ = some (.slice p1 n c1) ∧ W'.cell? ⟨gu, q, none⟩ = some (.slice p2 n c2)) (by kernel_rfl) ⟨g1, g2⟩ (fun hS => ?_)
          refine wpAnyH_take (i := 0) (v := .slice (some ⟨gu, 0, none⟩) K cu) rfl (by kernel_rfl) (by kernel_rfl) (by kernel_rfl) (fun _ _ _ h => h) (Or.inl ⟨by kernel_rfl, fun w' hS' => by obtain ⟨q0, q1⟩ := hS'; go_simp⟩) hS ?_
          refine wpAnyH_take (i := 1) (v := .int .i64 p) rfl (by kernel_rfl) (by kernel_rfl) (by kernel_rfl) (fun _ _ _ h => h) (Or.inl ⟨by kernel_rfl, fun w' hS' => by obtain ⟨q0, q1⟩ := hS'; go_simp⟩) hS ?_
          refine wpAnyH_take (i := 2) (v := .pointer (some ⟨gu, p, none⟩)) rfl (by kernel_rfl) (by kernel_rfl) (by kernel_rfl) (fun _ _ _ h => h) (Or.inl ⟨by kernel_rfl, fun w' hS' => by obtain ⟨q0, q1⟩ := hS'; go_simp; (try omega)⟩) hS ?_
          refine wpAnyH_take (i := 3) (v := .slice p1 n c1) rfl (by kernel_rfl) (by kernel_rfl) (by kernel_rfl) (fun _ _ _ h => h) (Or.inl ⟨by kernel_rfl, fun w' hS' => by obtain ⟨q0, q1⟩ := hS'; go_simp⟩) hS ?_
          refine wpAnyH_take (i := 4) (v := .slice (some ⟨gu, 0, none⟩) K cu) rfl (by kernel_rfl) (by kernel_rfl) (by kernel_rfl) (fun _ _ _ h => h) (Or.inl ⟨by kernel_rfl, fun w' hS' => by obtain ⟨q0, q1⟩ := hS'; go_simp⟩) hS ?_
          refine wpAnyH_take (i := 5) (v := .int .i64 q) rfl (by kernel_rfl) (by kernel_rfl) (by kernel_rfl) (fun _ _ _ h => h) (Or.inl ⟨by kernel_rfl, fun w' hS' => by obtain ⟨q0, q1⟩ := hS'; go_simp⟩) hS ?_
          refine wpAnyH_take (i := 6) (v := .pointer (some ⟨gu, q, none⟩)) rfl (by kernel_rfl) (by kernel_rfl) (by kernel_rfl) (fun _ _ _ h => h) (Or.inl ⟨by kernel_rfl, fun w' hS' => by obtain ⟨q0, q1⟩ := hS'; go_simp; (try omega)⟩) hS ?_
          refine wpAnyH_take (i := 7) (v := .slice p2 n c2) rfl (by kernel_rfl) (by kernel_rfl) (by kernel_rfl) (fun _ _ _ h => h) (Or.inl ⟨by kernel_rfl, fun w' hS' => by obtain ⟨q0, q1⟩ := hS'; go_simp⟩) hS ?_
          refine wpAnyH_ready (rs := [8]) (by kernel_rfl) (by simp) ?_
          refine AllReadyH.cons rfl (fun K9 hK9 => ?_) AllReadyH.nil
          go_simp
          have hdr : Below wr.heap.size wr wr.drew := (Below.refl _ _).drew
          refine (HU.out wr.drew hdr).mono ?_
          rintro e w3 ⟨uv, zs, rfl, huo, hun, hb3⟩
          have hb3' : Below wr.heap.size wr w3 := hdr.trans hb3
          refine hK9.out _ _ ⟨(hb3'.cell (p := ⟨gu, p, none⟩) (Nat.lt_of_lt_of_le hgu2 hbs)).trans g1, (hb3'.cell (p := ⟨gu, q, none⟩) (Nat.lt_of_lt_of_le hgu2 hbs)).trans g2⟩ (fun hS => ?_)
          clear hK9
          have hBY := HBY.out w3 hb3' zs uv hun (Ints.own huo)
          have hzu := HUN.out zs hun
          rw [hzu, HUL.out, HHE.out] at hBY
          refine wpAnyH_ready (rs := [9]) (by kernel_rfl) (by simp) ?_
          refine AllReadyH.cons rfl (fun K9 hK9 => ?_) AllReadyH.nil
          go_simp
          refine hBY.mono ?_
          rintro e w4 ⟨hvv, rfl, hvo, hb4⟩
          have hb4' : Below wr.heap.size wr w4 := hb3'.trans (hb4.mono hb3'.size)
          refine hK9.out _ _ ⟨(hb4'.cell (p := ⟨gu, p, none⟩) (Nat.lt_of_lt_of_le hgu2 hbs)).trans g1, (hb4'.cell (p := ⟨gu, q, none⟩) (Nat.lt_of_lt_of_le hgu2 hbs)).trans g2⟩ (fun hS => ?_)
          clear hK9
          obtain ⟨hp4, hc4, rfl⟩ := owns_slice hvo
          refine wpAnyH_take (i := 10) (v := .slice hp4 n hc4) rfl (by kernel_rfl) (by kernel_rfl) (by kernel_rfl) (fun _ _ _ h => h) (Or.inl ⟨by kernel_rfl, fun w' hS' => by obtain ⟨q0, q1⟩ := hS'; go_simp⟩) hS ?_
          refine wpAnyH_done (by kernel_rfl) ?_ _
          have hR4 := hR.out.later hb4'
          have HO4 := hide (owns_base hvo (Nat.le_trans hbs hb3'.size))
          have HRK := hide (rrank_ok (.slice hp4 n hc4) H w4 (by have := Ints.own HO4.out; exact this) HHR.out.row (by rw [HHR.out.len]; omega) (by rw [HHR.out.len]; exact h12))
          have HZ := hide (rk_rnd h12 HHR.out.row HHR.out.len)
          have HR4 := hide hR4
          have hrb := rkTo_le H H.length (Nat.le_refl _) (by rw [HHR.out.len]; exact h12)
          clear hS hR hR4 hvo huo hun hb3 hb3' hb4 hb4' hBY hzu HU HBY HUN HUL g1 g2 hdr
          generalize rkTo H H.length = rk at *
          go_wp2_with fail
          refine HRK.out.mono ?_
          rintro e w5 ⟨rfl, hb5⟩
          have HR5 := hide (HR4.out.later hb5)
          have HO5 := hide (owns_below HO4.out hb5 (Nat.le_refl _))
          clear hb5 HR4 HO4 HRK
          by_cases hz : rk = 0
          · have hH : H = rnd n := HZ.out.1 hz
            subst hz
            have HG := hide (HHIT.out hH)
            have HLL : Hid (L.getD p [] = L.getD q []) := HE.out.1 hH
            have HRN : Hid (∀ t' : Bool, (t' = true ↔ t = true ∨ p ≠ q) → RFRel n L w2 w5 (.slice zp vs.length zc) vs t' (p * K + (q + 1))) := by
              intro t' ht
              refine ⟨?_, HSF.out t' (by rw [ht]; constructor <;> (rintro (h | h) <;> first | exact Or.inl h | exact Or.inr ⟨h, HLL.out⟩ | exact Or.inr h.1)), HR5.out.below⟩
              have := HR5.out.ll
              rw [← HG.out] at this
              exact this
            clear hH HHIT HMIS HSF HZ HE HG HLL HHR
            cases t with
            | true =>
              have HF := hide (HRN.out true (by simp))
              clear HRN HR5
              go_wp2
              go_roundw
              case rel => exact ⟨true, vs, q + 1, by omega, rfl, by go_num, HF⟩
              case measure => simp [intOf]; omega
            | false =>
              by_cases hpq : p = q
              · have HF := hide (HRN.out false (by simp [hpq]))
                have hne : ((p : Int) != (q : Int)) = false := by simp [hpq]
                clear HRN HR5 hpq
                go_wp2
                go_roundw
                case rel => exact ⟨false, vs, q + 1, by omega, rfl, by go_num, HF⟩
                case measure => simp [intOf]; omega
              · have HF := hide (HRN.out true (by simp [hpq]))
                have hne : ((p : Int) != (q : Int)) = true := by simp; omega
                clear HRN HR5 hpq
                go_wp2
                go_roundw
                case rel => exact ⟨true, vs, q + 1, by omega, rfl, by go_num, HF⟩
                case measure => simp [intOf]; omega
          · have hH : H ≠ rnd n := fun e => hz (HZ.out.2 e)
            have HG := hide (HMIS.out hH)
            have HNL : Hid (L.getD p [] ≠ L.getD q []) := fun e => hH (HE.out.2 e)
            have HSN : Hid (Sf L (p * K + (q + 1)) t) := HSF.out t (by constructor <;> (rintro h <;> first | exact Or.inl h | skip); rcases h with h | h <;> first | exact h | exact absurd h.2 HNL.out)
            have hz1 : ((rk : Int) == 0) = false := by simp; omega
            have hrow := HR5.out.ll.row
            have hvb : vs.length ≤ 40000 := by
              have h9 := gth_length n L (p * K + q)
              rw [← HR5.out.ll.len, HRL.out] at h9
              have h8 : K * K ≤ 200 * 200 := Nat.mul_le_mul hl2 hl2
              omega
            have hbs5 := HR5.out.below.size
            clear hH HHIT HMIS HSF HZ HE HNL hz
            go_wp2_with (at_builtin; refine wpList_append_own _ rfl _ _ 22 rfl w2.heap.size 26 j0 (.slice none 0 0) 1 24 Try.underlying22 hj hq0 hq1 hq2 rfl (by decide) _ _ _ rfl (hrow.alloc _) ⟨w5.heap.size, 0, none⟩ 1 1 [.slice hp4 n hc4] rfl rfl ?c1 ?c2 ?c3 ?c4 ?c5 ?_)
            case c1 => exact cell_one_new _ _ _
            case c2 => intro u hu; simp at hu; subst hu; rfl
            case c3 => unfold maxLen; omega
            case c4 => omega
            case c5 => simp; omega
            · intro v9 w9 hown9 hg9 _
              have hL9 := HR5.out.ll.push (X := H) (by rw [HHR.out.len]; exact HO5.out) hown9 hg9
              have hbw9 := HR5.out.ll.step HR5.out.below (Nat.le_refl _) hbs5 hg9
              have HF : Hid (RFRel n L w2 w9 v9 (vs ++ [.slice hp4 n hc4]) t (p * K + (q + 1))) := ⟨by have h8 : gth n L (p * K + (q + 1)) = _ := HG.out; rw [h8]; exact hL9, HSN.out, hbw9⟩
              clear hL9 hbw9 hown9 hg9 hrow HR5 HO5 HG HSN HHR
              go_wp2
              go_roundw
              case rel => exact ⟨t, _, q + 1, by omega, rfl, by go_num, HF⟩
              case measure => simp [intOf]; omega
        · obtain rfl : q = K := by omega
          have HF : Hid (RFRel n L w2 wr (.slice zp vs.length zc) vs t ((p + 1) * q)) := by rw [Nat.succ_mul]; exact hR.out
          clear hR
          go_wp2
          go_roundw
          case rel => exact ⟨t, vs, p + 1, by omega, rfl, by go_num, HF⟩
          case measure => simp [intOf]; omega
    · obtain rfl : p = K := by omega
      have hbr := hR.out.below
      have HND : Hid (t = false ↔ L.Nodup) := by
        have h9 := hR.out.sf
        rw [← HRL.out] at h9
        exact h9.all
      obtain ⟨P, hP1, hP2, hP3⟩ := pairs_of hR.out.ll.all
      have HPX := hide hP2
      have HPR : Hid (∀ x, x ∈ P.map Prod.snd → Rw n x) := fun x hx => by rw [hP2] at hx; exact gth_rows HRW.out x hx
      have hPl : P.length = vs.length := by rw [← hP1, List.length_map]
      have hvb : vs.length ≤ 40000 := by
        have h9 := gth_length n L (p * p)
        rw [← hR.out.ll.len, HRL.out] at h9
        have h8 : p * p ≤ 200 * 200 := Nat.mul_le_mul hl2 hl2
        omega
      have HP3 := hide hP3
      have HOR := hide (ordered_ok wr P.length P (.slice zp vs.length zc) wr (Nat.le_refl _) (by omega) (by rw [hP1]; exact Vals.own hR.out.ll.row) (Below.refl _ _) (fun x hx => ⟨HP3.out x hx, by rw [(HPR.out x.2 (List.mem_map_of_mem hx)).len]; omega⟩))
      have hBr : Below w.heap.size w wr := hB2.trans (hbr.mono hB2.size)
      have HGA := hide (gth_all n L)
      rw [HRL.out] at HGA
      clear hP1 hP2 hP3 hR HI HC HRX hB2 hgu1 hgu2
      go_wp2_with fail
      refine HOR.out.mono ?_
      rintro e w6 ⟨u6, P6, rfl, hV6, hpm6, hris6, hb6⟩
      have hX6 : Ris (P6.map Prod.snd) := List.pairwise_map.2 hris6
      have HNF := hide (nubTo_fact hX6)
      have hm6 : P6.length = P.length := hpm6.length_eq
      have HMEM : Hid (∀ h, h ∈ P6.map Prod.snd ↔ h ∈ pr L ∧ h ≠ rnd n) := fun h => by
        rw [← HGA.out, ← HPX.out]
        exact (hpm6.map Prod.snd).mem_iff
      have HI6 : Hid (∀ k, k < P6.length → Ints wr (P6.getD k (undef, [])).1 ((P6.map Prod.snd).getD k []) ∧ (P6.map Prod.fst).getD k undef = (P6.getD k (undef, [])).1) := fun k hk => by
        have e1 : P6.getD k (undef, []) = P6[k] := by simp [List.getD, hk]
        have e2 : (P6.map Prod.snd).getD k [] = P6[k].2 := by simp [List.getD, hk]
        have e3 : (P6.map Prod.fst).getD k undef = P6[k].1 := by simp [List.getD, hk]
        rw [e1, e2, e3]
        exact ⟨HP3.out _ (hpm6.mem_iff.1 (List.getElem_mem hk)), rfl⟩
      have hXl : (P6.map Prod.snd).length = P6.length := List.length_map _
      have HXl := hide hXl
      have hB6 : Below w.heap.size w w6 := hBr.trans (hb6.mono hBr.size)
      have HV6 := hide hV6
      obtain ⟨up, uc, hue⟩ := hV6.form
      rw [List.length_map] at hue
      subst hue
      obtain ⟨m, hm⟩ : ∃ m, Hid (P6.length = m) := ⟨_, rfl⟩
      have hmb : m ≤ 40000 := by rw [← hm.out]; omega
      rw [hm.out] at HXl HI6 HV6 ⊢
      have HIW := hide hb6
      clear hX6 hris6 hpm6 hm6 hXl hV6 HOR HP3 HPX HPR hPl HGA
      generalize P6.map Prod.snd = X at *
      have HN0 : Hid (NubRel X w6 w6 w6.heap.size (.slice none 0 0) [] wr 0) := ⟨World.ownsRow_nil _ _ _ _, VL.nil _, Below.refl _ _⟩
      have HCE : Hid (∀ k, k < m → ∃ b off, up = some ⟨b, off, none⟩ ∧ b < w6.heap.size ∧ m ≤ uc ∧ uc ≤ 9223372036854775807 ∧ ∃ xp xc, w6.cell? ⟨b, off + k, none⟩ = some (.slice xp (X.getD k []).length xc) ∧ Ints wr (.slice xp (X.getD k []).length xc) (X.getD k [])) := fun k hk => by
        have h9 := HV6.out
        obtain ⟨b, off, cap, e, hm1, hm2, hb, hce⟩ := h9.cells (m := m) (by rw [List.length_map]; exact hm.out) (by omega)
        simp only [Value.slice.injEq] at e
        obtain ⟨rfl, _, rfl⟩ := e
        obtain ⟨i1, i2⟩ := HI6.out k hk
        obtain ⟨xp, xc, e⟩ := i1.form
        refine ⟨b, off, rfl, hb, hm1, hm2, xp, xc, ?_, by rw [← e]; exact i1⟩
        rw [hce k hk, i2, e]
      clear HV6 HI6
      have HXl2 := HXl
      generalize wr = W0 at *
      go_wp2
      go_loopw [10, 11] (fun hd iv wl => ∃ (us : List Value) (k : Nat), k ≤ m ∧ iv = .int .i64 k ∧ Hid (NubRel X w6 wl w6.heap.size hd us W0 k)) (fun _ iv _ => m - (intOf iv).toNat)
      case atStart => exact ⟨[], 0, by omega, rfl, HN0⟩
      case round =>
        clear HN0
        obtain ⟨us, k, hk, rfl, hR⟩ := hrel
        obtain ⟨hro, hvl, hbl⟩ := hR.out
        obtain ⟨zp, zc, rfl⟩ := owns_slice hro
        have hbs := hbl.size
        have hub : us.length ≤ 40000 := by
          have h9 := nubTo_len X k
          rw [← hvl.len] at h9
          omega
        have HVL := hide hvl
        have HRO := hide hro
        clear hvl hR hro
        by_cases hkm : k < m
        · obtain ⟨b, off, rfl, hb, hm1, hm2, xp, xc, hce, hix⟩ := HCE.out k hkm
          have gx := (hbl.cell (p := ⟨b, off + k, none⟩) hb).trans hce
          have HIX := hide hix
          have HNS : Hid (nubTo X (k + 1) = if k = 0 ∨ X.getD k [] ≠ X.getD (k - 1) [] then nubTo X k ++ [X.getD k []] else nubTo X k) := rfl
          clear hce hix
          by_cases hk0 : k = 0
          · have HNX : Hid (nubTo X (k + 1) = nubTo X k ++ [X.getD k []]) := by have h9 := HNS.out; rw [if_pos (Or.inl hk0)] at h9; exact h9
            have HVN : Hid (VL W0 (us ++ [.slice xp (X.getD k []).length xc]) (nubTo X (k + 1))) := by rw [HNX.out]; exact HVL.out.push HIX.out
            have hz1 : ((k : Int) == 0) = true := by simp; omega
            clear HNS HNX hk0 HIX
            generalize (X.getD k []).length = xn at *
            go_wp2
            go_quiet (fail)
            have HRX9 := hide (owns_below HRO.out (below_drewN (Below.refl _ _) nq) (Nat.le_refl _))
            have hbX := below_drewN hbl nq
            have gx9 : (wr.drewN nq).cell? ⟨b, off + k, none⟩ = some (.slice xp xn xc) := gx
            clear gx HRO HVL
            generalize wr.drewN nq = wX at *
            have hrow9 := HRX9.out
            have hs9 := hbX.size
            go_wp2_with (at_builtin; refine wpList_append_own _ rfl _ _ 22 rfl w6.heap.size 26 j0 (.slice none 0 0) 1 24 Try.underlying22 hj hq0 hq1 hq2 rfl (by decide) _ _ _ rfl (hrow9.alloc _) ⟨wX.heap.size, 0, none⟩ 1 1 [.slice xp xn xc] rfl rfl ?c1a ?c2a ?c3a ?c4a ?c5a ?_)
            case c1a => exact cell_one_new _ _ _
            case c2a => intro u hu; simp at hu; subst hu; rfl
            case c3a => unfold maxLen; omega
            case c4a => omega
            case c5a => simp; omega
            · intro v9 w9 hown9 hg9 _
              have HF : Hid (NubRel X w6 w9 w6.heap.size v9 (us ++ [.slice xp xn xc]) W0 (k + 1)) := ⟨by rw [List.length_append]; exact hown9, HVN.out, (hbX.alloc hs9 _).grown hg9 (by simp; omega) (fun g hg' => (HRX9.out.lt g hg').1)⟩
              clear hown9 hg9 hrow9 HVN HRX9
              go_wp2
              go_roundw
              case rel => exact ⟨_, k + 1, by omega, by go_num, HF⟩
              case measure => simp [intOf]; omega
          · obtain ⟨km, hkm1⟩ : ∃ km, km + 1 = k := ⟨k - 1, by omega⟩
            have hkm2 : k - 1 = km := by omega
            obtain ⟨b', off', hbe, hb', _, _, yp, yc, hcy, hiy⟩ := HCE.out km (by omega)
            simp only [Option.some.injEq, Addr.mk.injEq, and_true] at hbe
            obtain ⟨rfl, rfl⟩ := hbe
            have gy := (hbl.cell (p := ⟨b, off + km, none⟩) hb).trans hcy
            have hz1 : ((k : Int) == 0) = false := by simp; omega
            have hsub : (k : Int) - 1 = (km : Int) := by omega
            have hwk : IntKind.i64.wrap (km : Int) = (km : Int) := by rw [IntKind.wrap_i64]; omega
            have hkb : (km : Int) < (m : Int) := by omega
            have hkmm : km < m := by omega
            have HSM := hide (fun W (hW : Below wr.heap.size wr W) => same_any (.slice xp (X.getD k []).length xc) (.slice yp (X.getD km []).length yc) (X.getD k []) (X.getD km []) W (((HIX.out.below HIW.out).below hbl).below hW) (((hiy.below HIW.out).below hbl).below hW))
            have HNS2 := HNS
            rw [hkm2] at HNS2
            have hbw : b < wr.heap.size := Nat.lt_of_lt_of_le hb hbs
            have HKM := hide hkm1
            clear hcy hiy HNS hkm2 hkm1
            obtain ⟨qq, hqq⟩ : ∃ qq, Hid (decide (X.getD k [] = X.getD km []) = qq) := ⟨_, rfl⟩
            rw [hqq.out] at HSM
            have HVK : Hid (Ints W0 (.slice xp (X.getD k []).length xc) (X.getD k [])) := HIX
            clear HIX
            generalize hxn : (X.getD k []).length = xn at *
            clear hxn
            generalize (X.getD km []).length = yn at *
            go_upto_region 20 with fail
            refine wp_region_held_drew (S := fun W' => W'.cell? ⟨b, off + k, none⟩ = some (.slice xp xn xc) ∧ W'.cell? ⟨b, off + km, none⟩ = some (.slice yp yn yc)) (by kernel_rfl) ⟨gx, gy⟩ (fun hS => ?_)
            refine wpAnyH_take (i := 0) (v := .int .i64 k) rfl (by kernel_rfl) (by kernel_rfl) (by kernel_rfl) (fun _ _ _ h => h) (Or.inl ⟨by kernel_rfl, fun w' hS' => by obtain ⟨q0, q1⟩ := hS'; go_simp⟩) hS ?_
            refine wpAnyH_take (i := 1) (v := .bool false) rfl (by kernel_rfl) (by kernel_rfl) (by kernel_rfl) (fun _ _ _ h => h) (Or.inl ⟨by kernel_rfl, fun w' hS' => by obtain ⟨q0, q1⟩ := hS'; go_simp⟩) hS ?_
            refine wpAnyH_take (i := 2) (v := .bool false) rfl (by kernel_rfl) (by kernel_rfl) (by kernel_rfl) (fun _ _ _ h => h) (Or.inl ⟨by kernel_rfl, fun w' hS' => by obtain ⟨q0, q1⟩ := hS'; go_simp⟩) hS ?_
            refine wpAnyH_take (i := 3) (v := .slice (some ⟨b, off, none⟩) m uc) rfl (by kernel_rfl) (by kernel_rfl) (by kernel_rfl) (fun _ _ _ h => h) (Or.inl ⟨by kernel_rfl, fun w' hS' => by obtain ⟨q0, q1⟩ := hS'; go_simp⟩) hS ?_
            refine wpAnyH_take (i := 4) (v := .int .i64 k) rfl (by kernel_rfl) (by kernel_rfl) (by kernel_rfl) (fun _ _ _ h => h) (Or.inl ⟨by kernel_rfl, fun w' hS' => by obtain ⟨q0, q1⟩ := hS'; go_simp⟩) hS ?_
            refine wpAnyH_take (i := 5) (v := .pointer (some ⟨b, off + k, none⟩)) rfl (by kernel_rfl) (by kernel_rfl) (by kernel_rfl) (fun _ _ _ h => h) (Or.inl ⟨by kernel_rfl, fun w' hS' => by obtain ⟨q0, q1⟩ := hS'; go_simp; (try omega)⟩) hS ?_
            refine wpAnyH_take (i := 6) (v := .slice xp xn xc) rfl (by kernel_rfl) (by kernel_rfl) (by kernel_rfl) (fun _ _ _ h => h) (Or.inl ⟨by kernel_rfl, fun w' hS' => by obtain ⟨q0, q1⟩ := hS'; go_simp⟩) hS ?_
            refine wpAnyH_take (i := 7) (v := .slice (some ⟨b, off, none⟩) m uc) rfl (by kernel_rfl) (by kernel_rfl) (by kernel_rfl) (fun _ _ _ h => h) (Or.inl ⟨by kernel_rfl, fun w' hS' => by obtain ⟨q0, q1⟩ := hS'; go_simp⟩) hS ?_
            refine wpAnyH_take (i := 8) (v := .int .i64 k) rfl (by kernel_rfl) (by kernel_rfl) (by kernel_rfl) (fun _ _ _ h => h) (Or.inl ⟨by kernel_rfl, fun w' hS' => by obtain ⟨q0, q1⟩ := hS'; go_simp⟩) hS ?_
            refine wpAnyH_take (i := 9) (v := .int .i64 km) rfl (by kernel_rfl) (by kernel_rfl) (by kernel_rfl) (fun _ _ _ h => h) (Or.inl ⟨by kernel_rfl, fun w' hS' => by obtain ⟨q0, q1⟩ := hS'; go_simp; (try (rw [IntKind.wrap_i64]; omega))⟩) hS ?_
            refine wpAnyH_take (i := 10) (v := .pointer (some ⟨b, off + km, none⟩)) rfl (by kernel_rfl) (by kernel_rfl) (by kernel_rfl) (fun _ _ _ h => h) (Or.inl ⟨by kernel_rfl, fun w' hS' => by obtain ⟨q0, q1⟩ := hS'; go_simp; (try omega)⟩) hS ?_
            refine wpAnyH_take (i := 11) (v := .slice yp yn yc) rfl (by kernel_rfl) (by kernel_rfl) (by kernel_rfl) (fun _ _ _ h => h) (Or.inl ⟨by kernel_rfl, fun w' hS' => by obtain ⟨q0, q1⟩ := hS'; go_simp⟩) hS ?_
            refine wpAnyH_ready (rs := [12]) (by kernel_rfl) (by simp) ?_
            refine AllReadyH.cons rfl (fun K9 hK9 => ?_) AllReadyH.nil
            go_simp
            have hdr : Below wr.heap.size wr wr.drew := (Below.refl _ _).drew
            refine (HSM.out wr.drew hdr).mono ?_
            rintro e w4 ⟨rfl, hb4⟩
            refine hK9.out _ _ ⟨((hdr.trans hb4).cell (p := ⟨b, off + k, none⟩) hbw).trans gx, ((hdr.trans hb4).cell (p := ⟨b, off + km, none⟩) hbw).trans gy⟩ (fun hS => ?_)
            clear hK9
            refine wpAnyH_take (i := 13) (v := .bool (!qq)) rfl (by kernel_rfl) (by kernel_rfl) (by kernel_rfl) (fun _ _ _ h => h) (Or.inl ⟨by kernel_rfl, fun w' hS' => by obtain ⟨q0, q1⟩ := hS'; go_simp⟩) hS ?_
            refine wpAnyH_take (i := 14) (v := .bool (!qq)) rfl (by kernel_rfl) (by kernel_rfl) (by kernel_rfl) (fun _ _ _ h => h) (Or.inl ⟨by kernel_rfl, fun w' hS' => by obtain ⟨q0, q1⟩ := hS'; go_simp⟩) hS ?_
            refine wpAnyH_done (by kernel_rfl) ?_ _
            have hB4 : Below wr.heap.size wr w4 := hdr.trans (hb4.mono (Nat.le_refl _))
            have HRX9 := hide (owns_below HRO.out hB4 (Nat.le_refl _))
            have hbX : Below w6.heap.size w6 w4 := hbl.trans (hB4.mono hbs)
            have gx9 : w4.cell? ⟨b, off + k, none⟩ = some (.slice xp xn xc) := hS.1
            have hsX := hB4.size
            clear hS HRO gx gy hB4 hb4 hdr HSM
            cases qq with
            | true =>
              have HNX : Hid (nubTo X (k + 1) = nubTo X k) := by
                have h9 := HNS2.out
                rw [if_neg (fun h => h.elim hk0 (fun h => h (of_decide_eq_true hqq.out)))] at h9
                exact h9
              have HF : Hid (NubRel X w6 w4 w6.heap.size (.slice zp us.length zc) us W0 (k + 1)) := ⟨HRX9.out, by rw [HNX.out]; exact HVL.out, hbX⟩
              clear HNS2 HNX HVL HVK HRX9 hqq
              go_wp2
              go_roundw
              case rel => exact ⟨us, k + 1, by omega, by go_num, HF⟩
              case measure => simp [intOf]; omega
            | false =>
              have HNX : Hid (nubTo X (k + 1) = nubTo X k ++ [X.getD k []]) := by
                have h9 := HNS2.out
                rw [if_pos (Or.inr (of_decide_eq_false hqq.out))] at h9
                exact h9
              have HVN : Hid (VL W0 (us ++ [.slice xp xn xc]) (nubTo X (k + 1))) := by rw [HNX.out]; exact HVL.out.push HVK.out
              clear HNS2 HNX HVL HVK hqq hk0
              generalize w4 = wX at *
              have hrow9 := HRX9.out
              have hs9 := hbX.size
              go_wp2_with (at_builtin; refine wpList_append_own _ rfl _ _ 22 rfl w6.heap.size 26 j0 (.slice none 0 0) 1 24 Try.underlying22 hj hq0 hq1 hq2 rfl (by decide) _ _ _ rfl (hrow9.alloc _) ⟨wX.heap.size, 0, none⟩ 1 1 [.slice xp xn xc] rfl rfl ?c1b ?c2b ?c3b ?c4b ?c5b ?_)
              case c1b => exact cell_one_new _ _ _
              case c2b => intro u hu; simp at hu; subst hu; rfl
              case c3b => unfold maxLen; omega
              case c4b => omega
              case c5b => simp; omega
              · intro v9 w9 hown9 hg9 _
                have HF : Hid (NubRel X w6 w9 w6.heap.size v9 (us ++ [.slice xp xn xc]) W0 (k + 1)) := ⟨by rw [List.length_append]; exact hown9, HVN.out, (hbX.alloc hs9 _).grown hg9 (by simp; omega) (fun g hg' => (HRX9.out.lt g hg').1)⟩
                clear hown9 hg9 hrow9 HVN HRX9
                go_wp2
                go_roundw
                case rel => exact ⟨_, k + 1, by omega, by go_num, HF⟩
                case measure => simp [intOf]; omega
        · obtain rfl : k = m := by omega
          have HP : Hid (RFPost n L w (.returned (.tuple #[.slice zp us.length zc, .bool t])) wr) := by
            obtain ⟨n1, n2⟩ := HNF.out k (by rw [HXl.out]; exact Nat.le_refl _)
            have hWr : Below W0.heap.size W0 wr := HIW.out.trans (hbl.mono HIW.out.size)
            refine ⟨_, nubTo X k, t, rfl, ⟨us, Vals.own HRO.out, HVL.out.len, fun j hj => (HVL.out.at_ j hj).below hWr⟩, HND.out, n1, fun h => ?_, hB6.trans (hbl.mono hB6.size)⟩
            rw [n2 h, List.take_of_length_le (by rw [HXl.out]; exact Nat.le_refl _), HMEM.out]
          clear HRO HVL HND
          go_wp2
          go_ret2
          exact HP.out

end Go.Proofs.Ytoiiadiimfohiaa
