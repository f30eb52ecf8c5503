/- Joined: RoB, GNormQ, AppW, GrA, ExA, GrB, GrC, CoA, XtB, CoB, CoC, GeT. -/
import Derived.Test.YtimfoggjocajiaaJ9
import Derived.Deep.QuietTactic
import Derived.Test.YtimfoggjocajiaaJ8
import Derived.Test.YtimfoggjocajiaaJ4
import Derived.Test.YtimfoggjocajiaaJ0
import Derived.Deep.CutBlock
import Derived.Test.YtimfoggjocajiaaJ1
import Derived.Test.YtimfoggjocajiaaJ7
import Derived.Test.YtimfoggjocajiaaJ3
/- Contract: the answer's Orbits: the walk. -/
namespace Go.Proofs.Ytimfoggjocajiaa
open Go.RowKit

/-- Marks of the bells that the first i rows have in a place. -/
def MarkedBy (rows : List (List Int)) (n b i : Nat) (zs : List Int) : Prop :=
  zs.length = n ∧ ∀ k, k < n → zs.getD k 0 = if (rows.take i).any (fun r => r.getD b 0 == (k : Int)) then 1 else 0

theorem MarkedBy.start (rows : List (List Int)) (n b : Nat) : MarkedBy rows n b 0 (List.replicate n 0) :=
  ⟨by simp, fun k hk => by simp [List.getD, hk]⟩

theorem MarkedBy.step {rows : List (List Int)} {n b i m : Nat} {zs r : List Int} (h : MarkedBy rows n b i zs) (hr : rows[i]? = some r) (hm : r.getD b 0 = (m : Int)) : MarkedBy rows n b (i + 1) (zs.set m 1) := by
  refine ⟨by rw [List.length_set]; exact h.1, fun k hk => ?_⟩
  rw [List.take_add_one, hr, List.any_append]
  have hks : k < zs.length := by rw [h.1]; exact hk
  by_cases e : m = k
  · subst e
    have h1 : (zs.set m 1).getD m 0 = 1 := by simp [List.getD, hks]
    have h2 : (Option.some r).toList.any (fun r => r.getD b 0 == (m : Int)) = true := by show (r.getD b 0 == (m : Int) || false) = true; rw [hm, Bool.or_false, beq_self_eq_true]
    rw [h1, h2, Bool.or_true]
    rfl
  · have h1 : (zs.set m 1).getD k 0 = zs.getD k 0 := by simp [List.getD, e]
    have h2 : (Option.some r).toList.any (fun r => r.getD b 0 == (k : Int)) = false := by
      show (r.getD b 0 == (k : Int) || false) = false
      rw [hm, Bool.or_false, beq_eq_false_iff_ne]
      omega
    rw [h1, h.2 k hk, h2, Bool.or_false]

/-- The bells below k that are marked. -/
def thrTo (rows : List (List Int)) (b k : Nat) : List Nat := (List.range k).filter (fun k => rows.any (fun r => r.getD b 0 == (k : Int)))

theorem thrTo_yes {rows : List (List Int)} {b k : Nat} (h : rows.any (fun r => r.getD b 0 == (k : Int)) = true) : thrTo rows b (k + 1) = thrTo rows b k ++ [k] := by
  unfold thrTo
  rw [List.range_succ, List.filter_append]
  simp only [List.filter_cons, h, if_true, List.filter_nil]

theorem thrTo_no {rows : List (List Int)} {b k : Nat} (h : rows.any (fun r => r.getD b 0 == (k : Int)) = false) : thrTo rows b (k + 1) = thrTo rows b k := by
  unfold thrTo
  rw [List.range_succ, List.filter_append]
  simp only [List.filter_cons, h, List.filter_nil]
  simp

theorem thrTo_length (rows : List (List Int)) (b k : Nat) : (thrTo rows b k).length ≤ k := by
  unfold thrTo
  have := List.length_filter_le (fun (k : Nat) => rows.any (fun r => r.getD b 0 == (k : Int))) (List.range k)
  rwa [List.length_range] at this

/-- A row among some, in memory. -/
theorem IntsAll.row {w : World} {p : Option Addr} {N c : Nat} {rows : List (List Int)} (h : IntsAll w (.slice p N c) rows) (h0 : 0 < rows.length) : ∃ g off, p = some ⟨g, off, none⟩ ∧ N = rows.length ∧ rows.length ≤ c ∧ c ≤ 9223372036854775807 ∧ g < w.heap.size ∧
    ∀ i r, rows[i]? = some r → 0 < r.length → ∃ b2 o2 c2, w.cell? ⟨g, off + i, none⟩ = some (.slice (some ⟨b2, o2, none⟩) r.length c2) ∧ r.length ≤ c2 ∧ c2 ≤ 9223372036854775807 ∧ b2 < w.heap.size ∧ ∀ j, j < r.length → w.cell? ⟨b2, o2 + j, none⟩ = some (.int .i64 (r.getD j 0)) := by
  obtain ⟨vs, hv, hl, he⟩ := h
  rcases hv with ⟨e, _⟩ | ⟨g, off, cap, h1, h2, h3, h4, h5, h6⟩
  · rw [e] at hl; simp at hl; omega
  · injection h1 with e1 e2 e3
    refine ⟨g, off, e1, by omega, by omega, by omega, h5, fun i r hr hr0 => ?_⟩
    have hi := (List.getElem?_eq_some_iff.1 hr).1
    have hI := he i hi
    have er : rows.getD i [] = r := by rw [List.getD, hr]; rfl
    rw [er] at hI
    have hc := h6 i (by omega)
    rcases hI with ⟨e, _⟩ | ⟨b2, o2, c2, g1, g2, g3, g4, g5, g6⟩
    · rw [e] at hr0; simp at hr0
    · exact ⟨b2, o2, c2, by rw [hc, g1], g3, g4, g5, g6⟩

set_option maxRecDepth 20000 in
set_option maxHeartbeats 4000000 in
theorem rorbits_ok (n : Nat) (v : Value) (rows : List (List Int)) (w : World) (hA : IntsAll w v rows) (h1 : 1 ≤ n) (h12 : n ≤ 12) (hr : ∀ r, r ∈ rows → r.length = n ∧ ∀ j, j < n → ∃ m : Nat, m < n ∧ r.getD j 0 = (m : Int)) (hN : rows.length ≤ 1000000) (h0 : 1 ≤ rows.length) :
    Calls Try.prog 70 #[.int .i64 n, v] w fun e w' => ∃ (u : Value) (vs : List Value), e = .returned u ∧ LL w' w.heap.size u vs ((rorbsTo rows n n).map natI) ∧ Below w.heap.size w w' := by
  obtain ⟨i0, hi, hz0, hz1, hz2⟩ := info_parts Try.info3
  obtain ⟨j0, hj0, jz0, jz1, jz2⟩ := info_parts Try.info23
  obtain ⟨p, N, c, rfl⟩ : ∃ p N c, v = .slice p N c := by obtain ⟨vs, hv, _⟩ := hA; obtain ⟨p, c, e⟩ := hv.form; exact ⟨p, _, c, e⟩
  obtain ⟨g, off, rfl, rfl, hc1, hc2, hg, hcell⟩ := hA.row h0
  have HCL := hide hcell
  have HR := hide hr
  generalize hrl : rows.length = rl at *
  have HRL := hide hrl
  clear hA hcell hr hrl
  go_enter Try.func70, Try.ntmps70
  go_wp2
  go_loopw [5, 6] (fun so sb wr => ∃ (b : Nat) (u : Value) (vs : List Value), b ≤ n ∧ so = u ∧ sb = .int .i64 b ∧ LL wr w.heap.size u vs ((rorbsTo rows n b).map natI) ∧ Below w.heap.size w wr) (fun _ sb _ => n - (intOf sb).toNat)
  case atStart => exact ⟨0, _, [], Nat.zero_le _, rfl, rfl, LL.nil _ _, Below.refl _ _⟩
  case round =>
    obtain ⟨b, u, vs, hb, rfl, rfl, hLL, hbw⟩ := hrel
    by_cases hlt : b < n
    · have HLL := hide hLL
      have HBW := hide hbw
      have hsw := hbw.size
      have hvl : vs.length ≤ n := by
        have h1' := hLL.len
        have h2' := rorbsTo_length rows n b
        rw [List.length_map] at h1'
        omega
      obtain ⟨wo, hwo⟩ : ∃ wo, wo = wr := ⟨_, rfl⟩
      subst hwo
      clear hLL hbw
      go_wp2_with (at_make; refine wpList_make_full _ rfl _ _ 23 rfl wo.heap.size 3 i0 (.int .i64 0) 1 Try.underlying23 hi hz0 hz1 _ _ _ _ n rfl rfl (by omega) (by omega) ?b2 ?b3 ?b4 ?_)
      case b2 => rw [hz2]; omega
      case b3 => unfold maxLen; omega
      case b4 => omega
      intro w1 hown1 hg1
      rw [made_ints] at hown1
      have hB1 : Below wo.heap.size wo w1 := (Below.refl _ _).grown hg1 (Nat.le_refl _) (fun k h => by cases h)
      go_wp2
      go_loopw [8] (fun si wr => ∃ (i : Nat) (zs : List Int), i ≤ rl ∧ si = .int .i64 i ∧ Hid (MarkedBy rows n b i zs) ∧ wr.ownsRow wo.heap.size 3 1 (.slice (some ⟨wo.heap.size, 0, none⟩) n n) n (zs.map (Value.int .i64)) ∧ Below wo.heap.size wo wr) (fun si _ => rl - (intOf si).toNat)
      case atStart => exact ⟨0, _, Nat.zero_le _, rfl, MarkedBy.start rows n b, hown1, hB1⟩
      case round =>
        clear hown1 hB1 hg1
        obtain ⟨i, zs, hi', rfl, hM, hown, hbw⟩ := hrel
        by_cases hit : i < rl
        · obtain ⟨r, hr⟩ : ∃ r, rows[i]? = some r := ⟨_, List.getElem?_eq_getElem (by rw [HRL.out]; exact hit)⟩
          obtain ⟨hrl, hrm⟩ := HR.out r (List.mem_of_getElem? hr)
          obtain ⟨m, hmn, hm⟩ := hrm b hlt
          obtain ⟨b2, o2, c2, hq1, hq2, hq3, hq4, hq5⟩ := HCL.out i r hr (by omega)
          have hBw : Below w.heap.size w wr := HBW.out.trans (hbw.mono hsw)
          have hcr := (hBw.cell (p := ⟨g, off + i, none⟩) hg).trans hq1
          have hcm := (hBw.cell (p := ⟨b2, o2 + b, none⟩) hq4).trans (hq5 b (by omega))
          rw [hm] at hcm
          rw [hrl] at hcr hq2
          obtain ⟨y, hy, hcx, hfx⟩ := owns_cellAt hown hmn
          have HM2 := hide (hM.out.step hr hm)
          clear hq5 hrm hm hr hrl hq1 hy
          go_wp2
          go_roundw
          case rel => exact ⟨i + 1, _, by omega, by go_num, HM2, owns_set_int hown _, hbw.setCell (Nat.le_refl _) _⟩
          case measure => simp [intOf]; omega
        · obtain rfl : i = rl := by omega
          have hzl := hM.out.1
          have HT : Hid (∀ k, k < n → wr.cell? ⟨wo.heap.size, k, none⟩ = some (.int .i64 (if rows.any (fun r => r.getD b 0 == (k : Int)) then 1 else 0))) := fun k hk => by
            have h1' := (owns_cell hown hk).1
            have h2' := hM.out.2 k hk
            rw [List.take_of_length_le (by rw [HRL.out]; exact Nat.le_refl _)] at h2'
            rw [h2'] at h1'
            exact h1'
          have hlt2 : wo.heap.size < wr.heap.size := (hown.lt wo.heap.size rfl).2
          have HB2 := hide hbw
          obtain ⟨w2, hw2⟩ : ∃ w2, w2 = wr := ⟨_, rfl⟩
          subst hw2
          clear hown hM hbw hzl
          go_wp2
          go_loopw [9, 10] (fun so sk wr => ∃ (k : Nat) (u : Value) (L : List Nat), k ≤ n ∧ so = u ∧ sk = .int .i64 k ∧ Hid (L = thrTo rows b k) ∧ wr.ownsRow w2.heap.size 3 1 u L.length ((natI L).map (Value.int .i64)) ∧ Below w2.heap.size w2 wr) (fun _ sk _ => n - (intOf sk).toNat)
          case atStart => exact ⟨0, _, [], Nat.zero_le _, rfl, rfl, rfl, World.ownsRow_nil _ _ _ _, Below.refl _ _⟩
          case round =>
            obtain ⟨k, u, L, hk, rfl, rfl, hL, hown, hbw⟩ := hrel
            have hLn : L.length ≤ n := by rw [hL.out]; exact Nat.le_trans (thrTo_length rows b k) hk
            by_cases hkt : k < n
            · have hct := (hbw.cell (p := ⟨wo.heap.size, k, none⟩) hlt2).trans (HT.out k hkt)
              have hs3 := hbw.size
              cases ha : rows.any (fun r => r.getD b 0 == (k : Int)) with
              | true =>
                rw [ha, if_pos rfl] at hct
                have HL2 : Hid (L ++ [k] = thrTo rows b (k + 1)) := by show _ = _; rw [thrTo_yes ha, hL.out]
                have HOW := hide hown
                have HBW3 := hide hbw
                clear ha hL hown hbw
                generalize hll : L.length = ll at *
                have HLn := hide hll
                clear hll
                go_wp2_with (at_builtin; refine wpList_append_own _ rfl _ _ 23 rfl w2.heap.size 3 i0 (.int .i64 0) 1 8 Try.underlying23 hi hz0 hz1 hz2 rfl (by decide) _ _ _ rfl (HOW.out.alloc _) ⟨wr.heap.size, 0, none⟩ 1 1 [.int .i64 (k : Int)] rfl rfl ?c1 ?c2 ?c3 ?c4 ?c5 ?_)
                case c1 => exact cell_one_new _ _ _
                case c2 => intro u hu; simp at hu; subst hu; rfl
                case c3 => unfold maxLen; omega
                case c4 => omega
                case c5 => simp; omega
                intro v8 w8 hown8 hg8 _
                have HB8 : Hid (Below w2.heap.size w2 w8) := (HBW3.out.alloc hs3 _).grown hg8 (by simp; omega) (fun g hg => (HOW.out.lt g hg).1)
                have HO8 : Hid (w8.ownsRow w2.heap.size 3 1 v8 (L ++ [k]).length ((natI (L ++ [k])).map (Value.int .i64))) := by
                  show World.ownsRow _ _ _ _ _ _ _
                  unfold natI at *
                  rw [List.length_append, List.map_append, List.map_append, HLn.out]; exact hown8
                clear hown8 hg8 HOW HBW3
                go_wp2
                go_roundw
                case rel =>
                  have hfin : ∃ (k' : Nat) (u : Value) (L : List Nat), k' ≤ n ∧ v8 = u ∧ Value.int .i64 ((k : Int) + 1) = .int .i64 (k' : Int) ∧ Hid (L = thrTo rows b k') ∧ w8.ownsRow w2.heap.size 3 1 u L.length ((natI L).map (Value.int .i64)) ∧ Below w2.heap.size w2 w8 := ⟨k + 1, _, L ++ [k], hkt, rfl, by go_num, HL2, HO8.out, HB8.out⟩
                  first
                    | exact hfin
                    | ((repeat apply Exists.intro); exact ⟨hfin, rfl⟩)
                case measure => simp [intOf]; omega
              | false =>
                rw [ha, if_neg (by decide)] at hct
                have HL2 : Hid (L = thrTo rows b (k + 1)) := by show _ = _; rw [thrTo_no ha, hL.out]
                have HOW := hide hown
                have HBW3 := hide hbw
                clear ha hL hown hbw
                go_wp2
                go_roundw
                case rel =>
                  have hfin : ∃ (k' : Nat) (u : Value) (L : List Nat), k' ≤ n ∧ u9 = u ∧ Value.int .i64 ((k : Int) + 1) = .int .i64 (k' : Int) ∧ Hid (L = thrTo rows b k') ∧ wr.ownsRow w2.heap.size 3 1 u L.length ((natI L).map (Value.int .i64)) ∧ Below w2.heap.size w2 wr := ⟨k + 1, _, L, hkt, rfl, by go_num, HL2, HOW.out, HBW3.out⟩
                  first
                    | exact hfin
                    | ((repeat apply Exists.intro); exact ⟨hfin, rfl⟩)
                case measure => simp [intOf]; omega
            · obtain rfl : k = n := by omega
              have hLt : L = thr rows k b := hL.out
              obtain ⟨r, hr⟩ : ∃ r, rows[0]? = some r := ⟨_, List.getElem?_eq_getElem (by rw [HRL.out]; exact h0)⟩
              obtain ⟨hrl, hrm⟩ := HR.out r (List.mem_of_getElem? hr)
              obtain ⟨m, hmn, hm⟩ := hrm b hlt
              have hLm : m ∈ L := by rw [hLt]; exact mem_thr.2 ⟨hmn, r, List.mem_of_getElem? hr, hm⟩
              obtain ⟨a, L', hLe⟩ : ∃ a L', L = a :: L' := by
                cases L with
                | nil => cases hLm
                | cons a L' => exact ⟨a, L', rfl⟩
              have hL1 : 1 ≤ L.length := List.length_pos_of_mem hLm
              have hown' := hown
              obtain ⟨ob, oc, eo, ho1, ho2, ho3, ho4⟩ := owns_form hown hL1
              subst eo
              have hnl : (natI L).length = L.length := by unfold natI; rw [List.length_map]
              have hca : wr.cell? ⟨ob, 0, none⟩ = some (.int .i64 (a : Int)) := by
                have := (owns_cell hown (j := 0) (by omega)).1
                rw [hLe] at this
                exact this
              have hB3 : Below wo.heap.size wo wr := HB2.out.trans (hbw.mono HB2.out.size)
              have hBw : Below w.heap.size w wr := HBW.out.trans (hB3.mono hsw)
              have hs4 := hBw.size
              have HBw := hide hBw
              have HL3 := hide (HLL.out.below hB3)
              have HO3 : Hid (wr.ownsRow w.heap.size 3 1 (.slice (some ⟨ob, 0, none⟩) L.length oc) (natI L).length ((natI L).map (Value.int .i64))) := by
                show World.ownsRow _ _ _ _ _ _ _
                rw [hnl]; exact owns_base hown (Nat.le_trans hsw HB2.out.size)
              have hhd : (thr rows k b).head? = some a := by rw [← hLt, hLe]; rfl
              have HLe : Hid (L = thr rows k b) := hLt
              have HNL := hide hnl
              clear hown hown' hL hbw hB3 hBw hr hrl hrm hm hLm hLe hLt hnl
              generalize hll : L.length = ll at *
              have HLn := hide hll
              clear hll
              by_cases hab : a = b
              · subst hab
                have HX : Hid (rorbsTo rows k (a + 1) = rorbsTo rows k a ++ [L]) := by
                  show (if (thr rows k a).head? = some a then _ else _) = _
                  rw [if_pos hhd, HLe.out]
                have HrL := hide HL3.out.row
                go_wp2_with (at_builtin; refine wpList_append_own _ rfl _ _ 22 rfl w.heap.size 23 j0 (.slice none 0 0) 1 24 Try.underlying22 hj0 jz0 jz1 jz2 rfl (by decide) _ _ _ rfl (HrL.out.alloc _) ⟨wr.heap.size, 0, none⟩ 1 1 [.slice (some ⟨ob, 0, none⟩) ll oc] rfl rfl ?d1 ?d2 ?d3 ?d4 ?d5 ?_)
                case d1 => exact cell_one_new _ _ _
                case d2 => intro u hu; simp at hu; subst hu; rfl
                case d3 => unfold maxLen; omega
                case d4 => omega
                case d5 => simp; omega
                intro v9 w9 hown9 hg9 _
                have HL9 := hide (HL3.out.push HO3.out hown9 hg9)
                have HB9 := hide (HL3.out.step HBw.out (Nat.le_refl _) hs4 hg9)
                clear hown9 hg9
                go_wp2
                go_roundw
                case rel =>
                  have hfin : ∃ (b' : Nat) (u : Value) (vs : List Value), b' ≤ k ∧ v9 = u ∧ Value.int .i64 ((a : Int) + 1) = .int .i64 (b' : Int) ∧ LL w9 w.heap.size u vs ((rorbsTo rows k b').map natI) ∧ Below w.heap.size w w9 := ⟨a + 1, _, _, hlt, rfl, by go_num, by rw [HX.out, List.map_append]; exact HL9.out, HB9.out⟩
                  first
                    | exact hfin
                    | ((repeat apply Exists.intro); exact ⟨hfin, rfl⟩)
                case measure => simp [intOf]; omega
              · have HX : Hid (rorbsTo rows k (b + 1) = rorbsTo rows k b) := by
                  show (if (thr rows k b).head? = some b then _ else _) = _
                  rw [if_neg (by rw [hhd]; intro e; exact hab (Option.some.inj e))]
                have habI : ¬ (a : Int) = (b : Int) := by omega
                go_wp2
                go_roundw
                case rel =>
                  have hfin : ∃ (b' : Nat) (u : Value) (vs : List Value), b' ≤ k ∧ u5 = u ∧ Value.int .i64 ((b : Int) + 1) = .int .i64 (b' : Int) ∧ LL wr w.heap.size u vs ((rorbsTo rows k b').map natI) ∧ Below w.heap.size w wr := ⟨b + 1, _, vs, hlt, rfl, by go_num, by rw [HX.out]; exact HL3.out, HBw.out⟩
                  first
                    | exact hfin
                    | ((repeat apply Exists.intro); exact ⟨hfin, rfl⟩)
                case measure => simp [intOf]; omega
    · obtain rfl : b = n := by omega
      have HLL := hide hLL
      have HBW := hide hbw
      clear hLL hbw
      go_wp2
      go_ret
      exact ⟨_, vs, rfl, HLL.out, HBW.out⟩
end Go.Proofs.Ytimfoggjocajiaa

/- Plain: how many rows few bells have; what sizes tell (out of GNormP). -/
namespace Go.Proofs.Ytimfoggjocajiaa
open Go.RowKit

theorem rkP_lt {n : Nat} (x : Pm) (h12 : n ≤ 12) : rkP n x < fct n := by
  unfold rkP
  have h := rankR_lt (cut n x)
  rw [← rkTo_all, cut_length h12] at h
  exact h

theorem RunOk.few {n : Nat} {xss : List (List Int)} {S : List (Pm × List Int)} (h12 : n ≤ 12) (h : RowsN n xss) (hS : RunOk (letters 0 xss) S) : S.length ≤ fct n := by
  have hn : (S.map (fun e => rkP n e.1)).Nodup := by
    have h1 := hS.nodup
    have hf : ∀ e, e ∈ S → Fixes (fun b => n ≤ b) e.1 := fun e he => hS.fix h12 h he
    clear hS
    induction S with
    | nil => simp
    | cons e S ih =>
      rw [List.map_cons, List.nodup_cons] at h1 ⊢
      refine ⟨fun hm => h1.1 ?_, ih h1.2 (fun e he => hf e (List.mem_cons_of_mem _ he))⟩
      obtain ⟨e', he', h2⟩ := List.mem_map.1 hm
      exact List.mem_map.2 ⟨e', he', rkP_inj h12 (hf e' (List.mem_cons_of_mem _ he')) (hf e List.mem_cons_self) h2⟩
  have := nodup_len (S.map (fun e => rkP n e.1)) (List.range (fct n)) hn (fun b hb => by
    obtain ⟨e, _, rfl⟩ := List.mem_map.1 hb
    exact List.mem_range.2 (rkP_lt e.1 h12))
  rwa [List.length_map, List.length_range] at this

theorem fct_five {n : Nat} (h : n ≤ 5) : fct n ≤ 120 := by
  have key : ∀ k, k < 6 → fct k ≤ 120 := by decide
  exact key n (by omega)

/-- Sizes tell whether all of the second are in the first. -/
theorem sizes_tell {n : Nat} {gss sss : List (List Int)} (h12 : n ≤ 12) (hg : RowsN n gss) (hs : RowsN n sss) :
    sz (Gen (fun y => y ∈ (gss ++ sss).map pad)) n = sz (Gen (fun y => y ∈ gss.map pad)) n ↔ ∀ y, y ∈ sss.map pad → Gen (fun y => y ∈ gss.map pad) y := by
  have hsub : ∀ x, Gen (fun y => y ∈ gss.map pad) x → Gen (fun y => y ∈ (gss ++ sss).map pad) x := fun x => Gen.mono (fun y hy => by rw [List.map_append]; exact List.mem_append_left _ hy)
  constructor
  · intro he y hy
    refine sz_all (Gen.sub _) (Gen.sub _) hsub h12 (fun x hx => hx.least (fixes_sub _) (fun s hs' => ?_)) he.symm y (Gen.of (by rw [List.map_append]; exact List.mem_append_right _ hy))
    obtain ⟨Z, hZ, rfl⟩ := List.mem_map.1 hs'
    rcases List.mem_append.1 hZ with hZ | hZ
    · exact pad_fixes h12 (hg Z hZ).2 (hg Z hZ).1
    · exact pad_fixes h12 (hs Z hZ).2 (hs Z hZ).1
  · intro h
    refine sz_congr (fun x => ⟨fun hx => hx.least (Gen.sub _) (fun s hs' => ?_), hsub x⟩) n
    rw [List.map_append] at hs'
    rcases List.mem_append.1 hs' with h1 | h1
    · exact Gen.of h1
    · exact h s h1

end Go.Proofs.Ytimfoggjocajiaa

/- append of what came in, wherever the operation is wanted. -/
namespace Go.Proofs.Ytimfoggjocajiaa
open Go.RowKit

/-- An operation that is wanted, guarded or not. -/
theorem wpList_want {P : Program} {ops : Array Oper} {Q : Exit → Act → World → Prop} {a : Act} {w : World} {rest : List Oper} {o : Oper} (hw : Region.wanted o (yielded ops a.tmps) = true)
    (h : ∀ K : Act → World → Prop, (∀ a w, wpList P ops Q rest a w → K a w) → o.wp P a w K Q) : wpList P ops Q (o :: rest) a w :=
  wpList_step fun K hK => by rw [if_pos hw]; exact h K hK

/-- 'append(a, b...)': a owned, b whatever came in; the operation guarded or not. -/
theorem wpList_append_want {P : Program} {w : World} {ops : Array Oper} {rest : List Oper} {o : Oper} {a : Act} {Q : Exit → Act → World → Prop} (hgd : Region.wanted o (yielded ops a.tmps) = true) (s x : Operand) (t : TypeId)
    (ho : o.op = .call { callee := .builtin .append, args := #[s, x], argTypes := #[t, t] })
    (base : Nat) (e : TypeId) (i : TypeInfo) (z : Value) (bytes : Nat) (ht : P.underlying t = some (.slice e)) (hi : P.info? e = some i) (hz : i.zero = some z)
    (hsize : i.size = 1) (hby : i.bytes = bytes) (hzs : z.cells.size = 1)
    (v : Value) (n : Nat) (xs : List Value) (hs : a.eval s = v) (hown : w.ownsRow base e 1 v n xs)
    (u : Value) (news : List Value) (hx : a.eval x = u) (hsrc : Vals w u news) (h1 : ∀ u ∈ news, u.oneCell' = true)
    (h63 : n + news.length ≤ maxLen) (hbytes : (n + news.length) * bytes ≤ 140737488355328) (hbase : base ≤ w.heap.size)
    (h : ∀ v' w', w'.ownsRow base e 1 v' (n + news.length) (xs ++ news) → w.grownBy w' v.ownBlock → wpList P ops Q rest (a.put o.dst v') w') :
    wpList P ops Q (o :: rest) a w := by
  refine wpList_want hgd fun K hK => ?_
  obtain ⟨v', w', hr, h2, h3⟩ := run_append_vals (P := P) w base t o.type e i z bytes ht hi hz hsize hby hzs v n xs hown u news hsrc h1 h63 hbytes hbase
  unfold Oper.wp execOp
  simp only [ho, resolve, invoke, builtin, Sem.run_bind, Sem.run_pure, Result.andThen_ok, List.map_toArray, List.map_cons, List.map_nil, hs, hx, hr]
  exact hK _ _ (h v' w' h2 h3)

/-- One value in a block of its own. -/
theorem vals_one (w : World) (u : Value) (t : TypeId) : Vals (w.alloc (.cells #[u] t)) (.slice (some ⟨w.heap.size, 0, none⟩) 1 1) [u] :=
  Or.inr ⟨w.heap.size, 0, 1, rfl, by simp, by simp, by omega, by simp, fun j hj => by
    have : j = 0 := by simp at hj; omega
    subst this
    have := cell_one_new w u t 0 u rfl
    rw [Addr.add_lit] at this
    exact this⟩

end Go.Proofs.Ytimfoggjocajiaa

/- Plain: all rows of a group, in order; letters; what sizes tell. Contract: the answer's Ordered over rows that came in. -/
namespace Go.Proofs.Ytimfoggjocajiaa
open Go.RowKit

theorem letters_glet : ∀ (k : Nat) (gss : List (List Int)), glet k (gss.map pad) = letters k gss
  | _, [] => rfl
  | k, x :: t => by
    show ((k : Int) + 1, pad x) :: (-(k : Int) - 1, (pad x)⁻¹) :: glet (k + 1) (t.map pad) = ((k : Int) + 1, pad x) :: (-((k : Int) + 1), (pad x)⁻¹) :: letters (k + 1) t
    rw [letters_glet (k + 1) t, show (-(k : Int) - 1) = -((k : Int) + 1) by omega]

theorem lcmp_app : ∀ (a b c : List Int), a.length = b.length → lcmp (a ++ c) (b ++ c) = lcmp a b
  | [], [], c, _ => by rw [List.nil_append]; exact lcmp_self c
  | x :: a, y :: b, c, h => by
    have := lcmp_app a b c (by simpa using h)
    rw [List.cons_append, List.cons_append, lcmp_cons, lcmp_cons, this]

theorem cut_l {n : Nat} {x : Pm} (h12 : n ≤ 12) (hf : Fixes (fun b => n ≤ b) x) : x.l = cut n x ++ (rnd 12).drop n := by
  have h := pad_l (by rw [cut_length h12]; exact h12) (cut_row h12 hf)
  rw [pad_cut h12 hf, cut_length h12] at h
  exact h

theorem cut_lcmp {n : Nat} {x y : Pm} (h12 : n ≤ 12) (hx : Fixes (fun b => n ≤ b) x) (hy : Fixes (fun b => n ≤ b) y) : lcmp x.l y.l = lcmp (cut n x) (cut n y) := by
  rw [cut_l h12 hx, cut_l h12 hy]
  exact lcmp_app _ _ _ (by rw [cut_length h12, cut_length h12])

theorem cut_inj {n : Nat} {x y : Pm} (h12 : n ≤ 12) (hx : Fixes (fun b => n ≤ b) x) (hy : Fixes (fun b => n ≤ b) y) (h : cut n x = cut n y) : x = y := by
  rw [← pad_cut h12 hx, h, pad_cut h12 hy]

theorem nodup_cut {n : Nat} (h12 : n ≤ 12) : ∀ (X : List Pm), (∀ x, x ∈ X → Fixes (fun b => n ≤ b) x) → X.Nodup → (X.map (cut n)).Nodup
  | [], _, _ => by simp
  | a :: l, hf, h => by
    rw [List.nodup_cons] at h
    rw [List.map_cons, List.nodup_cons]
    exact ⟨fun hm => by
      obtain ⟨b, hb, e⟩ := List.mem_map.1 hm
      exact h.1 (by rw [← cut_inj h12 (hf b (List.mem_cons_of_mem _ hb)) (hf a List.mem_cons_self) e]; exact hb), nodup_cut h12 l (fun x hx => hf x (List.mem_cons_of_mem _ hx)) h.2⟩

/-- Rows in order, each once. -/
theorem cut_rising {n : Nat} {X : List Pm} (h12 : n ≤ 12) (hf : ∀ x, x ∈ X → Fixes (fun b => n ≤ b) x) (hn : X.Nodup) (hs : X.Pairwise (fun a b => 0 ≤ lcmp b.l a.l)) : (X.map (cut n)).Pairwise (fun a b => blw a b = true) := by
  refine Ris.rising ?_ (nodup_cut h12 X hf hn)
  show (X.map (cut n)).Pairwise _
  rw [List.pairwise_map]
  refine List.Pairwise.imp_of_mem (fun {a b} ha hb h => ?_) hs
  rw [blw_lcmp, ← cut_lcmp h12 (hf b hb) (hf a ha)]
  exact decide_eq_false (by omega)

/-- All rows of a group in order are told by whoever lists them. -/
theorem group_ordered {n : Nat} {X : List Pm} {R Y : List (List Int)} {S : List Pm} (h12 : n ≤ 12) (hf : ∀ x, x ∈ X → Fixes (fun b => n ≤ b) x) (hn : X.Nodup) (hs : X.Pairwise (fun a b => 0 ≤ lcmp b.l a.l)) (hS : S.Nodup) (hm : ∀ x, x ∈ X ↔ x ∈ S) (hR : R = S.map (cut n)) (hY : Y.Perm R) (hYs : Ris Y) : X.map (cut n) = Y := by
  have hSf : ∀ x, x ∈ S → Fixes (fun b => n ≤ b) x := fun x hx => hf x ((hm x).2 hx)
  refine rising_eq (cut_rising h12 hf hn hs) (hYs.rising (hY.nodup_iff.2 (by rw [hR]; exact nodup_cut h12 S hSf hS))) (fun r => ?_)
  rw [hY.mem_iff, hR, List.mem_map, List.mem_map]
  exact ⟨fun ⟨x, h1, h2⟩ => ⟨x, (hm x).1 h1, h2⟩, fun ⟨x, h1, h2⟩ => ⟨x, (hm x).2 h1, h2⟩⟩

theorem gchk_back {n : Nat} : ∀ {xss : List (List Int)}, gchk n xss = 0 → RowsN n xss
  | [], _ => fun x hx => by cases hx
  | x :: t, h => by
    have h' : (if rchk n x = 0 then gchk n t else rchk n x) = 0 := h
    by_cases e : rchk n x = 0
    · rw [if_pos e] at h'
      intro y hy
      rcases List.mem_cons.1 hy with rfl | hy
      · exact ⟨(rchk_zero e).1, (rchk_zero e).2.1⟩
      · exact gchk_back h' y hy
    · rw [if_neg e] at h'
      exact absurd h' e

/-- The answer's Ordered over what came in. -/
theorem rordered_all (v : Value) (rows : List (List Int)) (w : World) (h : IntsAll w v rows) (hN : rows.length ≤ 1000000) (hr : ∀ r, r ∈ rows → r.length ≤ 1000000) :
    Calls Try.prog 47 #[v] w fun e w' => ∃ u Y, e = .returned u ∧ IntsAll w' u Y ∧ Y.Perm rows ∧ Ris Y ∧ Below w.heap.size w w' := by
  obtain ⟨vs, hv, hl, he⟩ := h
  have hzl : (vs.zip rows).length = rows.length := by rw [List.length_zip]; omega
  have hfst : (vs.zip rows).map Prod.fst = vs := List.map_fst_zip (by omega)
  have hsnd : (vs.zip rows).map Prod.snd = rows := List.map_snd_zip (by omega)
  have hP : ∀ p, p ∈ vs.zip rows → Ints w p.1 p.2 ∧ p.2.length ≤ 1000000 := fun p hp => by
    obtain ⟨j, hj, e⟩ := List.getElem_of_mem hp
    rw [hzl] at hj
    have h1 := he j hj
    have hjv : j < vs.length := by omega
    rw [List.getElem_zip] at e
    rw [← e]
    refine ⟨?_, hr _ (List.getElem_mem _)⟩
    simpa [List.getD, hjv, hj] using h1
  refine (ordered_ok w (vs.zip rows).length (vs.zip rows) v w (Nat.le_refl _) (by omega) (by rw [hfst]; exact hv) (Below.refl _ _) hP).mono ?_
  rintro e w' ⟨u, P', rfl, hV, hp, hs, hb⟩
  refine ⟨u, P'.map Prod.snd, rfl, ⟨P'.map Prod.fst, hV, by rw [List.length_map, List.length_map], fun j hj => ?_⟩, ?_, ?_, hb⟩
  · rw [List.length_map] at hj
    have h1 := (hP P'[j] (hp.mem_iff.1 (List.getElem_mem hj))).1.below hb
    simpa [List.getD, hj] using h1
  · have := hp.map Prod.snd
    rwa [hsnd] at this
  · show (P'.map Prod.snd).Pairwise _
    rw [List.pairwise_map]
    exact hs

/-- What one row more tells. -/
theorem sizes_one {n : Nat} {gss : List (List Int)} {xs : List Int} (h12 : n ≤ 12) (hg : RowsN n gss) (hx : isRow xs) (hl : xs.length = n) : sz (Gen (fun y => y ∈ (gss ++ [xs]).map pad)) n = sz (Gen (fun y => y ∈ gss.map pad)) n ↔ Gen (fun y => y ∈ gss.map pad) (pad xs) := by
  rw [sizes_tell h12 hg (fun y hy => by rw [List.mem_singleton.1 hy]; exact ⟨hx, hl⟩)]
  constructor
  · intro h; exact h (pad xs) (by simp)
  · intro h y hy
    have : y = pad xs := by simpa using hy
    rw [this]; exact h

end Go.Proofs.Ytimfoggjocajiaa

/- Plain: the rows of a group by their numbers; where a change leads from each. -/
namespace Go.Proofs.Ytimfoggjocajiaa

/-- A row's number. -/
noncomputable def ix (X : List Pm) (p : Pm) : Nat := open Classical in X.findIdx (fun q => decide (q = p))

theorem ix_lt {X : List Pm} {p : Pm} (h : p ∈ X) : ix X p < X.length := by
  classical
  exact List.findIdx_lt_length.2 ⟨p, h, decide_eq_true rfl⟩

theorem ix_get {X : List Pm} {p : Pm} (h : p ∈ X) : X[ix X p]? = some p := by
  classical
  have hl := ix_lt h
  rw [List.getElem?_eq_getElem hl]
  have := List.findIdx_getElem (p := fun q : Pm => decide (q = p)) (w := hl)
  exact congrArg some (of_decide_eq_true this)

theorem get_inj {X : List Pm} (hn : X.Nodup) {i j : Nat} {p : Pm} (hi : X[i]? = some p) (hj : X[j]? = some p) : i = j := by
  have h1 := (List.getElem?_eq_some_iff.1 hi)
  have h2 := (List.getElem?_eq_some_iff.1 hj)
  obtain ⟨l1, e1⟩ := h1
  obtain ⟨l2, e2⟩ := h2
  exact (List.getElem_inj (h₀ := l1) (h₁ := l2) hn).1 (by rw [e1, e2])

theorem ix_of {X : List Pm} (hn : X.Nodup) {i : Nat} {p : Pm} (hi : X[i]? = some p) : ix X p = i := get_inj hn (ix_get (List.mem_of_getElem? hi)) hi

/-- Where a change leads from each row. -/
noncomputable def mv (X : List Pm) (c : Pm) : List Int := X.map (fun p => ((ix X (p * c) : Nat) : Int))

theorem mv_length (X : List Pm) (c : Pm) : (mv X c).length = X.length := by unfold mv; rw [List.length_map]

theorem mv_get {X : List Pm} {c p : Pm} {i : Nat} (h : X[i]? = some p) : (mv X c)[i]? = some ((ix X (p * c) : Nat) : Int) := by unfold mv; rw [List.getElem?_map, h]; rfl

theorem mv_nx {X : List Pm} {c p : Pm} {i : Nat} (h : X[i]? = some p) : nx (mv X c) i = ix X (p * c) := by
  unfold nx
  rw [List.getD, mv_get h]
  rfl

/-- What is closed under a change. -/
def Cls (X : List Pm) (c : Pm) : Prop := ∀ p, p ∈ X → p * c ∈ X

theorem mv_row {X : List Pm} (hn : X.Nodup) {c : Pm} (hc : Cls X c) : isRow (mv X c) := by
  refine ⟨fun y hy => ?_, ?_⟩
  · unfold mv at hy
    obtain ⟨p, hp, rfl⟩ := List.mem_map.1 hy
    rw [mv_length]
    exact ⟨by omega, by have := ix_lt (hc p hp); omega⟩
  · unfold mv
    rw [List.Nodup, List.pairwise_map]
    refine List.Pairwise.imp_of_mem (fun {a b} ha hb h e => h ?_) hn
    have e1 : ix X (a * c) = ix X (b * c) := by omega
    have h1 := ix_get (hc a ha)
    rw [e1, ix_get (hc b hb)] at h1
    have e2 := Option.some.inj h1
    have := congrArg (fun z => z * c⁻¹) e2
    simp only [Pm.mul_assoc, Pm.mul_inv, Pm.mul_one] at this
    exact this.symm

theorem mv_by {X : List Pm} {c d : Pm} (hd : Cls X d) : by_ (mv X c) (mv X d) = mv X (d * c) := by
  refine List.ext_getElem? (fun i => ?_)
  unfold by_
  cases hi : X[i]? with
  | none =>
    have hl := List.getElem?_eq_none_iff.1 hi
    rw [List.getElem?_eq_none (by rw [List.length_map, mv_length]; exact hl), List.getElem?_eq_none (by rw [mv_length]; exact hl)]
  | some p =>
    rw [List.getElem?_map, mv_get hi, mv_get hi, Option.map_some]
    have hp := hd p (List.mem_of_getElem? hi)
    have h2 := mv_get (c := c) (ix_get hp)
    rw [List.getD, Int.toNat_natCast, h2, Pm.mul_assoc]
    rfl

theorem mv_one {X : List Pm} (hn : X.Nodup) : mv X 1 = (List.range X.length).map (fun i => ((i : Nat) : Int)) := by
  refine List.ext_getElem? (fun i => ?_)
  cases hi : X[i]? with
  | none =>
    have hl := List.getElem?_eq_none_iff.1 hi
    rw [List.getElem?_eq_none (by rw [mv_length]; exact hl), List.getElem?_eq_none (by simp; exact hl)]
  | some p =>
    have hl := (List.getElem?_eq_some_iff.1 hi).1
    rw [mv_get hi, Pm.mul_one, ix_of hn hi, List.getElem?_map, List.getElem?_range hl]
    rfl

end Go.Proofs.Ytimfoggjocajiaa

/- The walk of groupRows where the group has more rows than are told. -/
namespace Go.Proofs.Ytimfoggjocajiaa
open Go.RowKit

/-- What a law of a group knows. -/
structure GLaw (w : World) (v vg vr : Value) (n : Nat) (gss : List (List Int)) (xs : List Int) : Prop where
  grp : GroupAt w v n (gss.map pad)
  gens : IntsAll w vg gss
  rows : RowsN n gss
  row : Ints w vr xs
  one : 1 ≤ n
  twelve : n ≤ 12
  eight : gss.length ≤ 8

theorem GLaw.later {w w' : World} {v vg vr : Value} {n : Nat} {gss : List (List Int)} {xs : List Int} (h : GLaw w v vg vr n gss xs) (hb : Below w.heap.size w w') : GLaw w' v vg vr n gss xs :=
  ⟨h.grp.below hb (Nat.le_refl _), h.gens.below hb, h.rows, h.row.below hb, h.one, h.twelve, h.eight⟩

/-- Rows that came in and one more. -/
theorem gens_more {w w' : World} {u v' : Value} {vs : List Value} {gss : List (List Int)} {xs : List Int} (hl : vs.length = gss.length) (he : ∀ j, j < gss.length → Ints w (vs.getD j undef) (gss.getD j [])) (hx : Ints w u xs) (hb : Below w.heap.size w w') (hv : Vals w' v' (vs ++ [u])) : IntsAll w' v' (gss ++ [xs]) := by
  refine ⟨vs ++ [u], hv, by simp [hl], fun j hj => ?_⟩
  refine (ints_join hl he (vs := [u]) (xb := [xs]) (fun j hj => ?_) j hj).below hb
  have : j = 0 := by simp at hj; omega
  subst this
  exact hx

set_option maxRecDepth 20000 in
set_option maxHeartbeats 2000000 in
theorem groupRows_refused (v vg vr : Value) (n : Nat) (gss : List (List Int)) (xs : List Int) (bell : Int) (w : World) (h : GLaw w v vg vr n gss xs) (hz : rchk n xs ≠ 0) (hs : 5040 < sz (Gen (fun y => y ∈ gss.map pad)) n) :
    Calls Try.prog 25 #[v, .int .i64 n, vg, vr, .int .i64 (rchk n xs), .int .i64 bell, .int .i64 ((sz (Gen (fun y => y ∈ gss.map pad)) n : Nat) : Int)] w fun e w' => Told w e w' := by
  have h12 := h.twelve
  have HW := hide (word_ok n v vr (gss.map pad) xs w h12 (by rw [List.length_map]; have := h.eight; omega) h.grp h.row)
  have HE : Hid (∀ w', Below w.heap.size w w' → Calls Try.prog 56 #[v] w' fun e w'' => ElPost n (gss.map pad) w' e w'') := fun w' hb => elements_ok n v _ w' h12 (h.grp.below hb (Nat.le_refl _))
  have HS := hide hs
  have HZ := hide hz
  generalize hsz : sz (Gen (fun y => y ∈ gss.map pad)) n = z at *
  have HSZ := hide hsz
  have hsI : (5040 : Int) < (z : Int) := by omega
  have hne : (rchk n xs == 0) = false := beq_eq_false_iff_ne.2 hz
  clear h hsz
  go_enter Try.func25, Try.ntmps25
  go_wp2_with fail
  refine HW.out.mono ?_
  rintro ex w1 ⟨hb1, hpost⟩
  obtain rfl : ex = .returned (.tuple #[.slice none 0 0, .int .i64 (rchk n xs)]) := by
    rcases hpost with h | h | h | h
    · exact h.2
    · exact absurd h.1 HZ.out
    · exact absurd h.1 HZ.out
    · exact absurd h.1 HZ.out
  clear hpost HW
  go_wp2_with fail
  refine (HE.out w1 hb1).mono ?_
  rintro ex w2 ⟨hb2, hpost⟩
  rw [HSZ.out, if_pos HS.out] at hpost
  subst hpost
  have HB2 := hide (hb1.trans (hb2.mono hb1.size))
  clear hb1 hb2 HE
  go_wp2
  go_ret
  exact ⟨rfl, HB2.out⟩

set_option maxRecDepth 20000 in
set_option maxHeartbeats 4000000 in
theorem groupRows_big (v vg vr : Value) (n : Nat) (gss : List (List Int)) (xs : List Int) (bell : Int) (w : World) (h : GLaw w v vg vr n gss xs) (hz : rchk n xs = 0) (hs : 5040 < sz (Gen (fun y => y ∈ gss.map pad)) n) :
    Calls Try.prog 25 #[v, .int .i64 n, vg, vr, .int .i64 0, .int .i64 bell, .int .i64 ((sz (Gen (fun y => y ∈ gss.map pad)) n : Nat) : Int)] w fun e w' => Told w e w' := by
  have h12 := h.twelve
  have h1 := h.one
  have h8 := h.eight
  obtain ⟨i0, hi, hz0, hz1, hz2⟩ := info_parts Try.info23
  obtain ⟨hxr, hxl, _, _⟩ := rchk_zero hz
  have HT := hide (sizes_one h12 h.rows hxr hxl)
  have HRN : Hid (RowsN n (gss ++ [xs])) := fun y hy => by
    rcases List.mem_append.1 hy with hy | hy
    · exact h.rows y hy
    · rw [List.mem_singleton.1 hy]; exact ⟨hxr, hxl⟩
  have HW := hide (word_ok n v vr (gss.map pad) xs w h12 (by rw [List.length_map]; omega) h.grp h.row)
  have HE : Hid (∀ w', Below w.heap.size w w' → Calls Try.prog 56 #[v] w' fun e w'' => ElPost n (gss.map pad) w' e w'') := fun w' hb => elements_ok n v _ w' h12 (h.grp.below hb (Nat.le_refl _))
  have HG := hide h.gens
  have HX := hide h.row
  obtain ⟨px, cx, rfl⟩ := h.row.form
  have HS := hide hs
  have HZ := hide hz
  generalize hsz : sz (Gen (fun y => y ∈ gss.map pad)) n = z at *
  have HSZ := hide hsz
  have hsI : (5040 : Int) < (z : Int) := by omega
  rw [hxl] at *
  clear h hsz hxr
  go_enter Try.func25, Try.ntmps25
  go_wp2_with fail
  refine HW.out.mono ?_
  rintro ex w1 ⟨hb1, hpost⟩
  obtain ⟨er, rfl, her⟩ : ∃ er : Int, ex = .returned (.tuple #[.slice none 0 0, .int .i64 er]) ∧ ((Gen (fun y => y ∈ gss.map pad) (pad xs) ∧ er = 3) ∨ (¬ Gen (fun y => y ∈ gss.map pad) (pad xs) ∧ er = 14)) := by
    rcases hpost with h | h | h | h
    · exact absurd HZ.out h.1
    · exact ⟨14, h.2.2, Or.inr ⟨h.2.1, rfl⟩⟩
    · exact ⟨3, h.2.2.2, Or.inl ⟨h.2.1, rfl⟩⟩
    · have := h.2.2.1; rw [HSZ.out] at this; have := HS.out; omega
  clear hpost HW
  go_wp2_with fail
  refine (HE.out w1 hb1).mono ?_
  rintro ex w2 ⟨hb2, hpost⟩
  rw [HSZ.out, if_pos HS.out] at hpost
  subst hpost
  have hB2 := hb1.trans (hb2.mono hb1.size)
  have hs2 := hB2.size
  obtain ⟨vs, hV, hvl, hve⟩ := HG.out.below hB2
  have HXa := hide (HX.out.below hB2)
  have HVE := hide hve
  have HVL := hide hvl
  have hvl8 : vs.length ≤ 8 := by omega
  have hbE : Below w2.heap.size w2 (w2.alloc (.cells #[] 23)) := (Below.refl _ _).alloc (Nat.le_refl _) _
  have HVa := hide (hV.below hbE)
  have HCE := hide (vals_cells hvl hve)
  have HE5 : Hid ((w2.alloc (.cells #[] 23)).ownsRow w2.heap.size 23 1 (.slice (some ⟨w2.heap.size, 0, none⟩) 0 0) 0 []) := World.ownsRow_made w2 #[] 0 (Nat.le_refl _) (by decide) (by simp)
  have HMZ : Hid (w2.heap.size ≤ (w2.alloc (.cells #[] 23)).heap.size) := by unfold Hid; simp
  have HM1 : Hid (0 + vs.length ≤ maxLen) := by unfold Hid maxLen; omega
  have HM2 : Hid ((0 + vs.length) * 24 ≤ 140737488355328) := by unfold Hid; omega
  clear hb1 hb2 HE hV hve hvl hbE
  have HB2 := hide hB2
  clear hB2
  go_wp2_with (at_builtin; refine wpList_append_want (by rfl) _ _ 22 rfl w2.heap.size 23 i0 (.slice none 0 0) 24 Try.underlying22 hi hz0 hz1 hz2 rfl _ _ _ rfl HE5.out vg vs rfl HVa.out HCE.out HM1.out HM2.out HMZ.out ?_)
  intro v6 w6 hown6 hg6
  have hown6 : w6.ownsRow w2.heap.size 23 1 v6 vs.length vs := by simpa using hown6
  have hb6 : Below w2.heap.size w2 w6 := ((Below.refl _ _).alloc (Nat.le_refl _) _).grown hg6 (by simp) (fun k hk => by have e' : w2.heap.size = k := Option.some.inj hk; omega)
  have hs6 := hb6.size
  have HO6 : Hid (∀ o : Obj, (w6.alloc o).ownsRow w2.heap.size 23 1 v6 vs.length vs) := fun o => hown6.alloc o
  have HO6' := hide hown6
  have HV6 : Hid (Vals (w6.alloc (.cells #[.slice px n cx] 23)) (.slice (some ⟨w6.heap.size, 0, none⟩) 1 1) [.slice px n cx]) := vals_one _ _ _
  have HC6 : Hid (∀ u ∈ [Value.slice px n cx], u.oneCell' = true) := fun u hu => by rw [List.mem_singleton.1 hu]; rfl
  have HM3 : Hid (vs.length + [Value.slice px n cx].length ≤ maxLen) := by unfold Hid maxLen; simp; omega
  have HM4 : Hid ((vs.length + [Value.slice px n cx].length) * 24 ≤ 140737488355328) := by unfold Hid; simp; omega
  have HM5 : Hid (w2.heap.size ≤ (w6.alloc (.cells #[.slice px n cx] 23)).heap.size) := by unfold Hid; simp; omega
  have HB6 := hide hb6
  clear hown6 hg6 hb6 HE5 HVa HCE
  go_wp2_with (at_builtin; refine wpList_append_want (by rfl) _ _ 22 rfl w2.heap.size 23 i0 (.slice none 0 0) 24 Try.underlying22 hi hz0 hz1 hz2 rfl _ _ _ rfl (HO6.out _) _ [Value.slice px n cx] rfl HV6.out HC6.out HM3.out HM4.out HM5.out ?_)
  intro v7 w7 hown7 hg7
  have hb7 : Below w2.heap.size w2 w7 := (HB6.out.alloc HB6.out.size _).grown hg7 (by simp; omega) (fun k hk => (HO6'.out.lt k hk).1)
  have hown7 : w7.ownsRow w2.heap.size 23 1 v7 (vs ++ [Value.slice px n cx]).length (vs ++ [Value.slice px n cx]) := by simpa using hown7
  have hA7 : IntsAll w7 v7 (gss ++ [xs]) := gens_more HVL.out HVE.out HXa.out hb7 (Vals.own hown7)
  have hl9 : (gss ++ [xs]).length ≤ 144 := by simp; omega
  have HSz := hide (sizes_ok n v7 (gss ++ [xs]) w7 hA7 HRN.out h1 h12 hl9)
  have HB7 := hide (HB2.out.trans (hb7.mono hs2))
  clear hown7 hg7 hb7 hA7 hl9 HO6 HO6' HV6 HB6 HB2 HRN
  generalize hsy : sz (Gen (fun y => y ∈ (gss ++ [xs]).map pad)) n = y at *
  clear hsy
  go_wp2_with fail
  refine HSz.out.mono ?_
  rintro ex w8 ⟨rfl, hb8⟩
  have HB8 := hide (HB7.out.trans (hb8.mono HB7.out.size))
  clear hb8 HSz HB7
  rcases her with ⟨hg, rfl⟩ | ⟨hg, rfl⟩
  · obtain rfl : y = z := HT.out.2 hg
    go_wp2
    go_ret
    exact ⟨rfl, HB8.out⟩
  · have hyz : ¬ (y : Int) = (z : Int) := fun e => hg (HT.out.1 (by omega))
    go_wp2
    go_ret
    exact ⟨rfl, HB8.out⟩

end Go.Proofs.Ytimfoggjocajiaa

/- Plain: which rows leave a bell where it is. Rows that came in, one by one. -/
namespace Go.Proofs.Ytimfoggjocajiaa
open Go.RowKit

theorem IntsAll.rowI {w : World} {p : Option Addr} {N c : Nat} {rows : List (List Int)} (h : IntsAll w (.slice p N c) rows) (h0 : 0 < rows.length) : ∃ g off, p = some ⟨g, off, none⟩ ∧ N = rows.length ∧ rows.length ≤ c ∧ c ≤ 9223372036854775807 ∧ g < w.heap.size ∧
    ∀ i r, rows[i]? = some r → ∃ u, w.cell? ⟨g, off + i, none⟩ = some u ∧ Ints w u r := by
  obtain ⟨vs, hv, hl, he⟩ := h
  rcases hv with ⟨e, _⟩ | ⟨g, off, cap, h1, h2, h3, h4, h5, h6⟩
  · rw [e] at hl; simp at hl; omega
  · injection h1 with e1 e2 e3
    refine ⟨g, off, e1, by omega, by omega, by omega, h5, fun i r hr => ?_⟩
    have hi := (List.getElem?_eq_some_iff.1 hr).1
    have hI := he i hi
    have er : rows.getD i [] = r := by rw [List.getD, hr]; rfl
    rw [er] at hI
    exact ⟨_, h6 i (by omega), hI⟩

/-- The rows that have a bell in its own place. -/
def stayL (bell : Nat) (L : List (List Int)) : List (List Int) := L.filter (fun r => decide (r.getD bell 0 = (bell : Int)))

theorem stayL_cut {n bell : Nat} (h12 : n ≤ 12) (hb : bell < n) (S : List Pm) : stayL bell (S.map (cut n)) = (S.filter (fun x => decide (x.act bell = bell))).map (cut n) := by
  unfold stayL
  rw [List.filter_map]
  congr 1
  refine List.filter_congr (fun x _ => ?_)
  show decide ((cut n x).getD bell 0 = (bell : Int)) = _
  rw [cut_get x h12 hb]
  by_cases e : x.act bell = bell
  · rw [decide_eq_true e, decide_eq_true (by omega)]
  · rw [decide_eq_false e, decide_eq_false (by omega)]

/-- Those among the first i, in memory. -/
structure StayR (w wr : World) (u : Value) (vs : List Value) (bell i : Nat) (R : List (List Int)) : Prop where
  row : wr.ownsRow w.heap.size 23 1 u vs.length vs
  len : vs.length = (stayL bell (R.take i)).length
  all : ∀ j, j < (stayL bell (R.take i)).length → Ints w (vs.getD j undef) ((stayL bell (R.take i)).getD j [])
  below : Below w.heap.size w wr

theorem StayR.start (w : World) (bell : Nat) (R : List (List Int)) : StayR w w (.slice none 0 0) [] bell 0 R :=
  ⟨World.ownsRow_nil _ _ _ _, by simp [stayL], fun j hj => by simp [stayL] at hj, Below.refl _ _⟩

theorem stayL_yes {bell i : Nat} {R : List (List Int)} {r : List Int} (hr : R[i]? = some r) (h : r.getD bell 0 = (bell : Int)) : stayL bell (R.take (i + 1)) = stayL bell (R.take i) ++ [r] := by
  unfold stayL
  rw [List.take_add_one, hr, List.filter_append]
  show _ ++ List.filter _ [r] = _
  rw [List.filter_cons, if_pos (decide_eq_true h)]
  rfl

theorem stayL_no {bell i : Nat} {R : List (List Int)} {r : List Int} (hr : R[i]? = some r) (h : ¬ r.getD bell 0 = (bell : Int)) : stayL bell (R.take (i + 1)) = stayL bell (R.take i) := by
  unfold stayL
  rw [List.take_add_one, hr, List.filter_append]
  show _ ++ List.filter _ [r] = _
  rw [List.filter_cons, if_neg (by rw [decide_eq_true_iff]; exact h)]
  simp

theorem StayR.same {w wr : World} {u : Value} {vs : List Value} {bell i : Nat} {R : List (List Int)} {r : List Int} (h : StayR w wr u vs bell i R) (hr : R[i]? = some r) (hn : ¬ r.getD bell 0 = (bell : Int)) : StayR w wr u vs bell (i + 1) R := by
  have e := stayL_no hr hn
  refine ⟨h.row, by rw [e]; exact h.len, by rw [e]; exact h.all, h.below⟩

theorem StayR.more {w wr w' : World} {u u' v : Value} {vs : List Value} {bell i : Nat} {R : List (List Int)} {r : List Int} {o : Obj} (h : StayR w wr u vs bell i R) (hr : R[i]? = some r) (hn : r.getD bell 0 = (bell : Int)) (hv : Ints w v r)
    (hown : w'.ownsRow w.heap.size 23 1 u' (vs.length + 1) (vs ++ [v])) (hg : (wr.alloc o).grownBy w' u.ownBlock) : StayR w w' u' (vs ++ [v]) bell (i + 1) R := by
  have e := stayL_yes hr hn
  refine ⟨by rw [List.length_append]; exact hown, by rw [e, List.length_append, List.length_append, h.len]; rfl, ?_, ?_⟩
  · rw [e]
    refine ints_join h.len h.all (fun j hj => ?_)
    have : j = 0 := by simp at hj; omega
    subst this
    exact hv
  · exact (h.below.alloc h.below.size _).grown hg (by have := h.below.size; simp; omega) (fun g hg' => (h.row.lt g hg').1)

theorem StayR.done {w wr : World} {u : Value} {vs : List Value} {bell : Nat} {R : List (List Int)} (h : StayR w wr u vs bell R.length R) : IntsAll wr u (stayL bell R) := by
  have h1 := h.len
  have h2 := h.all
  rw [List.take_length] at h1 h2
  exact ⟨vs, Vals.own h.row, h1, fun j hj => (h2 j hj).below h.below⟩

theorem stayL_length (bell : Nat) (L : List (List Int)) : (stayL bell L).length ≤ L.length := List.length_filter_le _ _

/-- What a search that has gone through all has found. -/
structure Found (n : Nat) (gss : List (List Int)) (S : List (Pm × List Int)) : Prop where
  run : Run (letters 0 gss) S.length S
  nodup : (S.map (·.1)).Nodup
  mem : ∀ x, x ∈ S.map (·.1) ↔ Gen (fun y => y ∈ gss.map pad) x
  fix : ∀ x, x ∈ S.map (·.1) → Fixes (fun b => n ≤ b) x
  pos : 1 ≤ S.length

theorem gens_fix {n : Nat} {gss : List (List Int)} (h12 : n ≤ 12) (hr : RowsN n gss) {x : Pm} (hx : Gen (fun y => y ∈ gss.map pad) x) : Fixes (fun b => n ≤ b) x :=
  hx.least (fixes_sub _) (fun s hs => by obtain ⟨y, hy, rfl⟩ := List.mem_map.1 hs; exact pad_fixes h12 (hr y hy).2 (hr y hy).1)

theorem Found.of {n : Nat} {gss : List (List Int)} {S : List (Pm × List Int)} (h12 : n ≤ 12) (hr : RowsN n gss) (h : Run (letters 0 gss) S.length S) : Found n gss S := by
  have hm : ∀ x, x ∈ S.map (·.1) ↔ Gen (fun y => y ∈ gss.map pad) x := fun x => (h.all (Nat.le_refl _) x).trans (letters_gen 0 gss x)
  exact ⟨h, h.ok.nodup, hm, fun x hx => gens_fix h12 hr ((hm x).1 hx), List.length_pos_of_mem h.ok.first⟩

theorem Found.size {n : Nat} {gss : List (List Int)} {S : List (Pm × List Int)} (h12 : n ≤ 12) (h : Found n gss S) : S.length = sz (Gen (fun y => y ∈ gss.map pad)) n := by
  have := sz_is (Gen.sub _) h12 (fun x hx => h.fix x ((h.mem x).2 hx)) h.nodup h.mem
  rwa [List.length_map] at this

theorem found_few {n : Nat} {gss : List (List Int)} {S : List (Pm × List Int)} (h12 : n ≤ 12) (hr : RowsN n gss) (h : RunOk (letters 0 gss) S) : S.length ≤ sz (Gen (fun y => y ∈ gss.map pad)) n := by
  classical
  obtain ⟨L, l1, l2, l3⟩ := sz_list (Gen.sub (fun y => y ∈ gss.map pad)) h12 (fun x hx => gens_fix h12 hr hx)
  rw [← l3]
  have := nodup_len (S.map (·.1)) L h.nodup (fun x hx => by
    obtain ⟨e, he, rfl⟩ := List.mem_map.1 hx
    exact (l2 _).2 ((letters_gen 0 gss _).1 (h.gen e he)))
  rwa [List.length_map] at this

theorem Found.rows {n : Nat} {gss : List (List Int)} {S : List (Pm × List Int)} (h12 : n ≤ 12) (h : Found n gss S) : ∀ r, r ∈ S.map (fun e => cut n e.1) → r.length = n ∧ ∀ j, j < n → ∃ m : Nat, m < n ∧ r.getD j 0 = (m : Int) := by
  intro r hr
  obtain ⟨e, he, rfl⟩ := List.mem_map.1 hr
  have hf := h.fix e.1 (List.mem_map_of_mem he)
  exact ⟨cut_length h12 _, fun j hj => ⟨e.1.act j, fix_lt hf hj, cut_get e.1 h12 hj⟩⟩

theorem Found.cuts (n : Nat) (S : List (Pm × List Int)) : S.map (fun e => cut n e.1) = (S.map (·.1)).map (cut n) := by rw [List.map_map]; rfl

/-- The answer's orbits are the group's. -/
theorem Found.orbits {n : Nat} {gss : List (List Int)} {S : List (Pm × List Int)} (h12 : n ≤ 12) (h : Found n gss S) : rorbsTo (S.map (fun e => cut n e.1)) n n = orbsTo (gss.map pad) n n := by
  refine rorbs_eq h12 (fun r => ?_)
  rw [Found.cuts, List.mem_map]
  exact ⟨fun ⟨x, h1, h2⟩ => ⟨x, (h.mem x).1 h1, h2.symm⟩, fun ⟨x, h1, h2⟩ => ⟨x, (h.mem x).2 h1, h2.symm⟩⟩

/-- Where a row is found. -/
theorem Found.at {n : Nat} {gss : List (List Int)} {S : List (Pm × List Int)} {xs : List Int} (h12 : n ≤ 12) (h : Found n gss S) (hx : isRow xs) (hl : xs.length = n) (hg : Gen (fun y => y ∈ gss.map pad) (pad xs)) : ∃ (k : Nat) (e : Pm × List Int), S[k]? = some e ∧ e.1 = pad xs ∧ ∀ (i : Nat) (d : Pm × List Int), S[i]? = some d → (cut n d.1 = xs ↔ i = k) := by
  obtain ⟨e, he, e1⟩ := List.mem_map.1 ((h.mem _).2 hg)
  obtain ⟨k, hk, ek⟩ := List.getElem_of_mem he
  refine ⟨k, e, by rw [List.getElem?_eq_getElem hk, ek], e1, fun i d hd => ?_⟩
  constructor
  · intro hc
    have hdm := List.mem_of_getElem? hd
    have h1 : d.1 = pad xs := by rw [← hc, pad_cut h12 (h.fix d.1 (List.mem_map_of_mem hdm))]
    have hi := (List.getElem?_eq_some_iff.1 hd).1
    have hd2 := (List.getElem?_eq_some_iff.1 hd).2
    have hn := h.nodup
    have h2 : (S.map (·.1))[i]'(by rw [List.length_map]; exact hi) = (S.map (·.1))[k]'(by rw [List.length_map]; exact hk) := by
      rw [List.getElem_map, List.getElem_map, hd2, ek, h1, e1]
    exact (List.getElem_inj hn).1 h2
  · intro e3
    subst e3
    rw [List.getElem?_eq_getElem hk, ek] at hd
    rw [← Option.some.inj hd, e1, cut_pad h12 hl hx]

theorem Found.not {n : Nat} {gss : List (List Int)} {S : List (Pm × List Int)} {xs : List Int} (h12 : n ≤ 12) (h : Found n gss S) (hg : ¬ Gen (fun y => y ∈ gss.map pad) (pad xs)) : ∀ (i : Nat) (d : Pm × List Int), S[i]? = some d → ¬ cut n d.1 = xs := fun i d hd hc => by
  have hm := List.mem_map_of_mem (f := fun e : Pm × List Int => e.1) (List.mem_of_getElem? hd)
  refine hg ?_
  rw [← hc, pad_cut h12 (h.fix _ hm)]
  exact (h.mem _).1 hm

end Go.Proofs.Ytimfoggjocajiaa

/- Plain: parts of a group: the least of what undoes a part's rows; how parts are found. -/
namespace Go.Proofs.Ytimfoggjocajiaa

/-- What undoes the rows of x's part: the least of them. -/
structure MinOf (H : Pm → Prop) (n : Nat) (x y : Pm) : Prop where
  part : H (x * y)
  least : ∀ p, p < n → ∀ c, Low H p c → y.act p ≤ y.act (c.act p)

theorem MinOf.unique {H : Pm → Prop} (hH : Sub H) {n : Nat} (hf : ∀ h, H h → Fixes (fun b => n ≤ b) h) {x x' y y' : Pm} (h : MinOf H n x y) (h' : MinOf H n x' y') (hx : H (x' * x⁻¹)) : y = y' := by
  have hc : H (y⁻¹ * y') := by
    have h1 := hH.mul (hH.mul (hH.inv h.part) (hH.inv hx)) h'.part
    rw [Pm.inv_prod, Pm.inv_prod, Pm.inv_inv] at h1
    have e : y⁻¹ * x⁻¹ * (x * x'⁻¹) * (x' * y') = y⁻¹ * y' := by
      rw [Pm.mul_assoc, Pm.mul_assoc, Pm.mul_assoc, ← Pm.mul_assoc x'⁻¹, Pm.inv_mul, Pm.one_mul, ← Pm.mul_assoc x⁻¹, Pm.inv_mul, Pm.one_mul]
    rwa [e] at h1
  have e1 : ∀ b, y'.act b = y.act ((y⁻¹ * y').act b) := fun b => by rw [← Pm.act_mul, Pm.mul_inv_cancel]
  have e2 : ∀ b, y.act b = y'.act ((y⁻¹ * y')⁻¹.act b) := fun b => by
    rw [← Pm.act_mul, Pm.inv_prod, Pm.inv_inv, Pm.mul_inv_cancel]
  have key : ∀ p, p ≤ n → ∀ b, b < p → (y⁻¹ * y').act b = b := by
    intro p
    induction p with
    | zero => intro _ b hb; omega
    | succ p ih =>
      intro hp b hb
      by_cases e : b = p
      · subst e
        have hl : Low H b (y⁻¹ * y') := ⟨hc, ih (by omega)⟩
        have a1 := h.least b (by omega) _ hl
        have a2 := h'.least b (by omega) _ ((low_sub hH b).inv hl)
        rw [← e1] at a1
        rw [← e2] at a2
        have e3 : y.act ((y⁻¹ * y').act b) = y.act b := by rw [← e1]; omega
        exact y.act_inj e3
      · exact ih (by omega) b (by omega)
  have hone : y⁻¹ * y' = 1 := Pm.ext' (fun b _ => by
    rw [Pm.act_one]
    rcases Nat.lt_or_ge b n with hb | hb
    · exact key n (Nat.le_refl _) b hb
    · exact hf _ hc b hb)
  have := Pm.mul_inv_cancel y y'
  rw [hone, Pm.mul_one] at this
  exact this

theorem MinOf.same {H : Pm → Prop} (hH : Sub H) {n : Nat} {x x' y : Pm} (h : MinOf H n x y) (h' : MinOf H n x' y) : H (x' * x⁻¹) := by
  have := hH.mul h'.part (hH.inv h.part)
  rwa [Pm.inv_prod, Pm.mul_assoc, Pm.mul_inv_cancel] at this

/-- A least one of some numbers. -/
theorem least_of {α : Type} (P : α → Prop) (f : α → Nat) : ∀ (m : Nat) (a : α), P a → f a ≤ m → ∃ c, P c ∧ ∀ d, P d → f c ≤ f d
  | 0, a, ha, hm => ⟨a, ha, fun d _ => by omega⟩
  | m + 1, a, ha, hm => by
    by_cases h : ∃ d, P d ∧ f d < f a
    · obtain ⟨d, hd, hlt⟩ := h
      exact least_of P f m d hd (by omega)
    · exact ⟨a, ha, fun d hd => by rcases Nat.lt_or_ge (f d) (f a) with h1 | h1; exact absurd ⟨d, hd, h1⟩ h; exact h1⟩

/-- One place more. -/
structure MinTo (H : Pm → Prop) (k : Nat) (x y : Pm) : Prop where
  part : H (x * y)
  least : ∀ p, p < k → ∀ c, Low H p c → y.act p ≤ y.act (c.act p)

theorem MinTo.start {H : Pm → Prop} (hH : Sub H) (x : Pm) : MinTo H 0 x x⁻¹ := ⟨by rw [Pm.mul_inv]; exact hH.one, fun p hp => by omega⟩

theorem MinTo.step {H : Pm → Prop} (hH : Sub H) {k : Nat} {x y c : Pm} (h : MinTo H k x y) (hc : Low H k c) (hl : ∀ d, Low H k d → y.act (c.act k) ≤ y.act (d.act k)) : MinTo H (k + 1) x (y * c) := by
  refine ⟨by rw [← Pm.mul_assoc]; exact hH.mul h.part hc.1, fun p hp d hd => ?_⟩
  by_cases e : p = k
  · subst e
    rw [Pm.act_mul, Pm.act_mul, ← Pm.act_mul c d]
    exact hl _ ((low_sub hH p).mul hc hd)
  · have hcp : Low H p c := ⟨hc.1, fun b hb => hc.2 b (by omega)⟩
    rw [Pm.act_mul, Pm.act_mul, hc.2 p (by omega), ← Pm.act_mul c d]
    exact h.least p (by omega) _ ((low_sub hH p).mul hcp hd)

theorem MinTo.stay {H : Pm → Prop} {k : Nat} {x y : Pm} (h : MinTo H k x y) (hl : ∀ d, Low H k d → y.act k ≤ y.act (d.act k)) : MinTo H (k + 1) x y :=
  ⟨h.part, fun p hp d hd => by
    by_cases e : p = k
    · subst e; exact hl d hd
    · exact h.least p (by omega) d hd⟩

theorem MinTo.exists {H : Pm → Prop} (hH : Sub H) (x : Pm) : ∀ k, ∃ y, MinTo H k x y
  | 0 => ⟨_, MinTo.start hH x⟩
  | k + 1 => by
    obtain ⟨y, hy⟩ := MinTo.exists hH x k
    obtain ⟨c, hc, hl⟩ := least_of (Low H k) (fun c => y.act (c.act k)) _ 1 (low_sub hH k).one (Nat.le_refl _)
    exact ⟨_, hy.step hH hc hl⟩

theorem MinTo.of {H : Pm → Prop} {n : Nat} {x y : Pm} (h : MinTo H n x y) : MinOf H n x y := ⟨h.part, h.least⟩

/-- A part's mark. -/
noncomputable def mkY (H : Pm → Prop) (n : Nat) (x : Pm) : Pm := open Classical in if h : ∃ y, MinOf H n x y then Classical.choose h else 1

noncomputable def mkN (H : Pm → Prop) (n : Nat) (x : Pm) : Nat := rkP n (mkY H n x)

theorem mkY_min {H : Pm → Prop} (hH : Sub H) (n : Nat) (x : Pm) : MinOf H n x (mkY H n x) := by
  have h : ∃ y, MinOf H n x y := by obtain ⟨y, hy⟩ := MinTo.exists hH x n; exact ⟨y, hy.of⟩
  unfold mkY
  rw [dif_pos h]
  exact Classical.choose_spec h

theorem MinOf.fix {H : Pm → Prop} {n : Nat} (hf : ∀ h, H h → Fixes (fun b => n ≤ b) h) {x y : Pm} (hx : Fixes (fun b => n ≤ b) x) (h : MinOf H n x y) : Fixes (fun b => n ≤ b) y := by
  have := (fixes_sub (fun b => n ≤ b)).mul ((fixes_sub (fun b => n ≤ b)).inv hx) (hf _ h.part)
  rwa [Pm.inv_mul_cancel] at this

theorem mkN_of {H : Pm → Prop} (hH : Sub H) {n : Nat} (hf : ∀ h, H h → Fixes (fun b => n ≤ b) h) {x y : Pm} (h : MinOf H n x y) : rkP n y = mkN H n x := by
  unfold mkN
  rw [h.unique hH hf (mkY_min hH n x) (by rw [Pm.mul_inv]; exact hH.one)]

theorem mkN_eq {H : Pm → Prop} (hH : Sub H) {n : Nat} (h12 : n ≤ 12) (hf : ∀ h, H h → Fixes (fun b => n ≤ b) h) {x x' : Pm} (hx : Fixes (fun b => n ≤ b) x) (hx' : Fixes (fun b => n ≤ b) x') : mkN H n x = mkN H n x' ↔ H (x' * x⁻¹) := by
  constructor
  · intro h
    have e := rkP_inj h12 ((mkY_min hH n x).fix hf hx) ((mkY_min hH n x').fix hf hx') h
    have h1 := mkY_min hH n x
    rw [e] at h1
    exact h1.same hH (mkY_min hH n x')
  · intro h
    unfold mkN
    rw [(mkY_min hH n x).unique hH hf (mkY_min hH n x') h]

/-! parts, found one behind the other -/

/-- Which part a row is of, among those found; as many as there are, if of none. -/
noncomputable def cix (H : Pm → Prop) (T : List (Pm × List Int)) (r : Pm) : Nat := open Classical in T.findIdx (fun d => decide (H (r * d.1⁻¹)))

theorem cix_le (H : Pm → Prop) (T : List (Pm × List Int)) (r : Pm) : cix H T r ≤ T.length := List.findIdx_le_length

theorem cix_at {H : Pm → Prop} {T : List (Pm × List Int)} {r : Pm} (h : cix H T r < T.length) : ∃ d, T[cix H T r]? = some d ∧ H (r * d.1⁻¹) := by
  classical
  refine ⟨T[cix H T r], List.getElem?_eq_getElem h, ?_⟩
  have := List.findIdx_getElem (p := fun d : Pm × List Int => decide (H (r * d.1⁻¹))) (w := h)
  exact of_decide_eq_true this

theorem cix_none {H : Pm → Prop} {T : List (Pm × List Int)} {r : Pm} (h : ¬ cix H T r < T.length) : ∀ d, d ∈ T → ¬ H (r * d.1⁻¹) := by
  classical
  intro d hd hH
  exact h (List.findIdx_lt_length.2 ⟨d, hd, decide_eq_true hH⟩)

/-- One letter tried on a part. -/
noncomputable def tryC (H : Pm → Prop) (e : Pm × List Int) (s : List (Pm × List Int) × List Nat) (l : Int × Pm) : List (Pm × List Int) × List Nat :=
  (if cix H s.1 (e.1 * l.2) < s.1.length then s.1 else s.1 ++ [(e.1 * l.2, e.2 ++ [l.1])], s.2 ++ [cix H s.1 (e.1 * l.2)])

noncomputable def tryCs (H : Pm → Prop) (L : List (Int × Pm)) (e : Pm × List Int) (T : List (Pm × List Int)) (j : Nat) : List (Pm × List Int) × List Nat := (L.take j).foldl (tryC H e) (T, [])

theorem tryCs_zero (H : Pm → Prop) (L : List (Int × Pm)) (e : Pm × List Int) (T : List (Pm × List Int)) : tryCs H L e T 0 = (T, []) := by unfold tryCs; rw [List.take_zero]; rfl

theorem tryCs_succ {H : Pm → Prop} {L : List (Int × Pm)} {e : Pm × List Int} {T : List (Pm × List Int)} {j : Nat} {l : Int × Pm} (h : L[j]? = some l) : tryCs H L e T (j + 1) = tryC H e (tryCs H L e T j) l := by
  unfold tryCs
  rw [List.take_add_one, h, List.foldl_append]
  rfl

/-- Rows that words of letters say. -/
inductive Wdl (L : List (Int × Pm)) : List Int → Pm → Prop
  | nil : Wdl L [] 1
  | snoc {wd : List Int} {x : Pm} {l : Int × Pm} : Wdl L wd x → l ∈ L → Wdl L (wd ++ [l.1]) (x * l.2)

/-- What holds of parts. -/
structure PartOk (H : Pm → Prop) (L : List (Int × Pm)) (T : List (Pm × List Int)) : Prop where
  apart : T.Pairwise (fun a b => ¬ H (b.1 * a.1⁻¹))
  gen : ∀ e, e ∈ T → Gen (fun x => ∃ l, l ∈ L ∧ l.2 = x) e.1
  first : T[0]? = some (1, [])
  said : ∀ e, e ∈ T → Wdl L e.2 e.1
  short : ∀ e, e ∈ T → e.2.length < T.length

theorem PartOk.start (H : Pm → Prop) (L : List (Int × Pm)) : PartOk H L [(1, [])] :=
  ⟨by simp, fun e he => by rw [List.mem_singleton.1 he]; exact Gen.one, rfl, fun e he => by rw [List.mem_singleton.1 he]; exact Wdl.nil, fun e he => by rw [List.mem_singleton.1 he]; simp⟩

/-- What one line says: where each letter leads. -/
def LineOk (H : Pm → Prop) (L : List (Int × Pm)) (e : Pm × List Int) (T : List (Pm × List Int)) (j : Nat) (line : List Nat) : Prop :=
  line.length = j ∧ ∀ k l, k < j → L[k]? = some l → ∃ (m : Nat) (d : Pm × List Int), line[k]? = some m ∧ T[m]? = some d ∧ H (e.1 * l.2 * d.1⁻¹)

theorem LineOk.more {H : Pm → Prop} {L : List (Int × Pm)} {e : Pm × List Int} {T : List (Pm × List Int)} {j : Nat} {line : List Nat} (h : LineOk H L e T j line) (more : List (Pm × List Int)) : LineOk H L e (T ++ more) j line :=
  ⟨h.1, fun k l hk hl => by
    obtain ⟨m, d, h1, h2, h3⟩ := h.2 k l hk hl
    exact ⟨m, d, h1, by rw [List.getElem?_append_left (List.getElem?_eq_some_iff.1 h2).1]; exact h2, h3⟩⟩

theorem LineOk.push {H : Pm → Prop} {L : List (Int × Pm)} {e : Pm × List Int} {T : List (Pm × List Int)} {j m : Nat} {line : List Nat} {l : Int × Pm} {d : Pm × List Int} (h : LineOk H L e T j line) (hl : L[j]? = some l) (hd : T[m]? = some d) (hH : H (e.1 * l.2 * d.1⁻¹)) : LineOk H L e T (j + 1) (line ++ [m]) := by
  refine ⟨by rw [List.length_append, h.1]; rfl, fun k l' hk hl' => ?_⟩
  by_cases ek : k = j
  · subst ek
    rw [hl] at hl'
    rw [← Option.some.inj hl']
    exact ⟨m, d, by rw [List.getElem?_append_right (by rw [h.1]; exact Nat.le_refl _), h.1, Nat.sub_self]; rfl, hd, hH⟩
  · obtain ⟨m', d', h1, h2, h3⟩ := h.2 k l' (by omega) hl'
    exact ⟨m', d', by rw [List.getElem?_append_left (by rw [h.1]; omega)]; exact h1, h2, h3⟩

theorem PartOk.new {H : Pm → Prop} {L : List (Int × Pm)} {T : List (Pm × List Int)} (h : PartOk H L T) {e : Pm × List Int} (he : e ∈ T) {l : Int × Pm} (hl : l ∈ L) (hn : ∀ d, d ∈ T → ¬ H (e.1 * l.2 * d.1⁻¹)) : PartOk H L (T ++ [(e.1 * l.2, e.2 ++ [l.1])]) := by
  refine ⟨?_, ?_, ?_, ?_, ?_⟩
  · rw [List.pairwise_append]
    refine ⟨h.apart, by simp, fun a ha b hb => ?_⟩
    rw [List.mem_singleton.1 hb]
    exact hn a ha
  · intro x hx
    rcases List.mem_append.1 hx with hx | hx
    · exact h.gen x hx
    · rw [List.mem_singleton.1 hx]; exact Gen.right (h.gen e he) ⟨l, hl, rfl⟩
  · rw [List.getElem?_append_left (List.getElem?_eq_some_iff.1 h.first).1]; exact h.first
  · intro x hx
    rcases List.mem_append.1 hx with hx | hx
    · exact h.said x hx
    · rw [List.mem_singleton.1 hx]; exact Wdl.snoc (h.said e he) hl
  · intro x hx
    rw [List.length_append, List.length_singleton]
    rcases List.mem_append.1 hx with hx | hx
    · have := h.short x hx; omega
    · rw [List.mem_singleton.1 hx]
      have := h.short e he
      simp only [List.length_append, List.length_singleton]
      omega

/-- What holds while a part's letters are tried. -/
structure TryOk (H : Pm → Prop) (L : List (Int × Pm)) (e : Pm × List Int) (T : List (Pm × List Int)) (j : Nat) (s : List (Pm × List Int) × List Nat) : Prop where
  ok : PartOk H L s.1
  line : LineOk H L e s.1 j s.2
  more : ∃ m, s.1 = T ++ m

theorem tryCs_ok {H : Pm → Prop} {L : List (Int × Pm)} (hH : Sub H) {e : Pm × List Int} {T : List (Pm × List Int)} (hT : PartOk H L T) (he : e ∈ T) : ∀ j, j ≤ L.length → TryOk H L e T j (tryCs H L e T j)
  | 0, _ => by rw [tryCs_zero]; exact ⟨hT, ⟨rfl, fun k l hk => by omega⟩, [], by simp⟩
  | j + 1, hj => by
    have ih := tryCs_ok hH hT he j (by omega)
    obtain ⟨l, hl⟩ : ∃ l, L[j]? = some l := ⟨_, List.getElem?_eq_getElem (by omega)⟩
    rw [tryCs_succ hl]
    obtain ⟨m, hm⟩ := ih.more
    have he' : e ∈ (tryCs H L e T j).1 := by rw [hm]; exact List.mem_append_left _ he
    unfold tryC
    by_cases hc : cix H (tryCs H L e T j).1 (e.1 * l.2) < (tryCs H L e T j).1.length
    · rw [if_pos hc]
      obtain ⟨d, hd, hHd⟩ := cix_at hc
      exact ⟨ih.ok, ih.line.push hl hd hHd, m, hm⟩
    · rw [if_neg hc]
      have hn := cix_none hc
      have hce : cix H (tryCs H L e T j).1 (e.1 * l.2) = (tryCs H L e T j).1.length := by have := cix_le H (tryCs H L e T j).1 (e.1 * l.2); omega
      refine ⟨ih.ok.new he' (List.mem_of_getElem? hl) hn, (ih.line.more [(e.1 * l.2, e.2 ++ [l.1])]).push hl (d := (e.1 * l.2, e.2 ++ [l.1])) ?_ (by rw [Pm.mul_inv]; exact hH.one), m ++ [(e.1 * l.2, e.2 ++ [l.1])], by rw [hm, List.append_assoc]⟩
      rw [hce, List.getElem?_append_right (Nat.le_refl _), Nat.sub_self]
      rfl

/-- Parts 0 to i - 1 are gone through. -/
inductive RunC (H : Pm → Prop) (L : List (Int × Pm)) : Nat → List (Pm × List Int) → List (List Nat) → Prop
  | start : RunC H L 0 [(1, [])] []
  | step {i : Nat} {T : List (Pm × List Int)} {N : List (List Nat)} {e : Pm × List Int} : RunC H L i T N → T[i]? = some e → RunC H L (i + 1) (tryCs H L e T L.length).1 (N ++ [(tryCs H L e T L.length).2])

theorem RunC.det {H : Pm → Prop} {L : List (Int × Pm)} {i : Nat} {S T : List (Pm × List Int)} {M N : List (List Nat)} (h : RunC H L i S M) (k : RunC H L i T N) : S = T ∧ M = N := by
  induction h generalizing T N with
  | start => cases k; exact ⟨rfl, rfl⟩
  | step _ he ih =>
    cases k with
    | step k' he' =>
      obtain ⟨e1, e2⟩ := ih k'
      subst e1
      subst e2
      rw [he] at he'
      rw [Option.some.inj he']
      exact ⟨rfl, rfl⟩

/-- All that holds. -/
structure RunCOk (H : Pm → Prop) (L : List (Int × Pm)) (i : Nat) (T : List (Pm × List Int)) (N : List (List Nat)) : Prop where
  ok : PartOk H L T
  len : N.length = i
  le : i ≤ T.length
  line : ∀ k, k < i → ∃ e ln, T[k]? = some e ∧ N[k]? = some ln ∧ LineOk H L e T L.length ln

theorem RunC.ok {H : Pm → Prop} {L : List (Int × Pm)} (hH : Sub H) {i : Nat} {T : List (Pm × List Int)} {N : List (List Nat)} (h : RunC H L i T N) : RunCOk H L i T N := by
  induction h with
  | start => exact ⟨PartOk.start H L, rfl, Nat.zero_le _, fun k hk => by omega⟩
  | @step i T N e h he ih =>
    have ht := tryCs_ok hH ih.ok (List.mem_of_getElem? he) L.length (Nat.le_refl _)
    obtain ⟨m, hm⟩ := ht.more
    have hi := (List.getElem?_eq_some_iff.1 he).1
    refine ⟨ht.ok, by rw [List.length_append, ih.len]; rfl, by rw [hm, List.length_append]; omega, fun k hk => ?_⟩
    by_cases ek : k = i
    · subst ek
      refine ⟨e, _, by rw [hm, List.getElem?_append_left hi]; exact he, ?_, ht.line⟩
      rw [List.getElem?_append_right (by rw [ih.len]; exact Nat.le_refl _), ih.len, Nat.sub_self]; rfl
    · obtain ⟨e', ln, h1, h2, h3⟩ := ih.line k (by omega)
      refine ⟨e', ln, by rw [hm, List.getElem?_append_left (by omega)]; exact h1, by rw [List.getElem?_append_left (by rw [ih.len]; omega)]; exact h2, ?_⟩
      rw [hm]; exact h3.more m

theorem RunC.pre {H : Pm → Prop} {L : List (Int × Pm)} {j : Nat} {T : List (Pm × List Int)} {N : List (List Nat)} (h : RunC H L j T N) : ∀ i, i ≤ j → ∃ S M, RunC H L i S M := by
  induction h with
  | start => intro i hi; have : i = 0 := by omega
             subst this; exact ⟨_, _, RunC.start⟩
  | @step j S N e0 h he ih =>
    intro i hi
    by_cases e : i ≤ j
    · exact ih i e
    · have e2 : i = j + 1 := by omega
      subst e2
      exact ⟨_, _, RunC.step h he⟩

/-- Whoever has gone through all has found the same. -/
theorem RunC.unique {H : Pm → Prop} {L : List (Int × Pm)} {i j : Nat} {S T : List (Pm × List Int)} {M N : List (List Nat)} (h : RunC H L i S M) (k : RunC H L j T N) (hi : S.length ≤ i) (hj : T.length ≤ j) : S = T ∧ M = N := by
  have key : ∀ {i j : Nat} {S T : List (Pm × List Int)} {M N : List (List Nat)}, RunC H L i S M → RunC H L j T N → S.length ≤ i → i ≤ j → i = j := fun {i j S T M N} h k hi hij => by
    rcases Nat.lt_or_ge i j with hlt | hge
    · obtain ⟨S', M', h'⟩ := k.pre (i + 1) hlt
      cases h' with
      | step h'' he =>
        rw [(h.det h'').1] at hi
        have := (List.getElem?_eq_some_iff.1 he).1
        omega
    · omega
  rcases Nat.le_total i j with hij | hij
  · have := key h k hi hij
    subst this; exact h.det k
  · have := key k h hj hij
    subst this; exact h.det k

/-- Of the parts found each row is of one at most. -/
theorem PartOk.one {H : Pm → Prop} {L : List (Int × Pm)} (hH : Sub H) {T : List (Pm × List Int)} (h : PartOk H L T) {i j : Nat} {d e : Pm × List Int} {r : Pm} (hi : T[i]? = some d) (hj : T[j]? = some e) (h1 : H (r * d.1⁻¹)) (h2 : H (r * e.1⁻¹)) : i = j := by
  have key : ∀ {i j : Nat} {d e : Pm × List Int}, T[i]? = some d → T[j]? = some e → H (r * d.1⁻¹) → H (r * e.1⁻¹) → ¬ i < j := fun {i j d e} hi hj h1 h2 hlt => by
    have hj' := (List.getElem?_eq_some_iff.1 hj).1
    have hi' := (List.getElem?_eq_some_iff.1 hi).1
    have := List.pairwise_iff_getElem.1 h.apart i j hi' hj' hlt
    rw [(List.getElem?_eq_some_iff.1 hi).2, (List.getElem?_eq_some_iff.1 hj).2] at this
    refine this ?_
    have h3 := hH.mul (hH.inv h2) h1
    rwa [Pm.inv_prod, Pm.inv_inv, Pm.mul_assoc, Pm.inv_mul_cancel] at h3
  rcases Nat.lt_trichotomy i j with hlt | e | hlt
  · exact absurd hlt (key hi hj h1 h2)
  · exact e
  · exact absurd hlt (key hj hi h2 h1)

/-- Whoever has gone through all has found all parts. -/
theorem RunC.all {H : Pm → Prop} {L : List (Int × Pm)} (hH : Sub H) {i : Nat} {T : List (Pm × List Int)} {N : List (List Nat)} (h : RunC H L i T N) (hi : T.length ≤ i) {x : Pm} (hx : Gen (fun x => ∃ l, l ∈ L ∧ l.2 = x) x) : ∃ (k : Nat) (d : Pm × List Int), T[k]? = some d ∧ H (x * d.1⁻¹) := by
  have hO := h.ok hH
  have closed : ∀ y, (∃ (k : Nat) (d : Pm × List Int), T[k]? = some d ∧ H (y * d.1⁻¹)) → ∀ l, l ∈ L → ∃ (k : Nat) (d : Pm × List Int), T[k]? = some d ∧ H (y * l.2 * d.1⁻¹) := by
    rintro y ⟨k, d, hd, hy⟩ l hl
    have hk := (List.getElem?_eq_some_iff.1 hd).1
    obtain ⟨e, ln, h1, _, h3⟩ := hO.line k (by omega)
    rw [hd] at h1
    have he := Option.some.inj h1
    subst he
    obtain ⟨j, hj, ej⟩ := List.getElem_of_mem hl
    obtain ⟨m, d', _, h4, h5⟩ := h3.2 j l hj (by rw [List.getElem?_eq_getElem hj, ej])
    refine ⟨m, d', h4, ?_⟩
    have := hH.mul hy h5
    rwa [show y * d.1⁻¹ * (d.1 * l.2 * d'.1⁻¹) = y * l.2 * d'.1⁻¹ by rw [Pm.mul_assoc, Pm.mul_assoc d.1, Pm.inv_mul_cancel, ← Pm.mul_assoc]] at this
  have right : ∀ z, Gen (fun x => ∃ l, l ∈ L ∧ l.2 = x) z → ∀ y, (∃ (k : Nat) (d : Pm × List Int), T[k]? = some d ∧ H (y * d.1⁻¹)) → ∃ (k : Nat) (d : Pm × List Int), T[k]? = some d ∧ H (y * z * d.1⁻¹) := by
    intro z hz
    induction hz with
    | one => intro y hy; rw [Pm.mul_one]; exact hy
    | mul hs _ ih =>
      intro y hy
      obtain ⟨l, hl, rfl⟩ := hs
      rw [← Pm.mul_assoc]
      exact ih _ (closed y hy l hl)
  have := right x hx 1 ⟨0, _, hO.ok.first, by rw [Pm.inv_one, Pm.mul_one]; exact hH.one⟩
  rwa [Pm.one_mul] at this

theorem PartOk.few {H : Pm → Prop} {L : List (Int × Pm)} (hH : Sub H) {T : List (Pm × List Int)} (h : PartOk H L T) {X : List Pm} (hX : ∀ x, Gen (fun x => ∃ l, l ∈ L ∧ l.2 = x) x → x ∈ X) : T.length ≤ X.length := by
  classical
  have hn : (T.map (·.1)).Nodup := by
    rw [List.Nodup, List.pairwise_map]
    refine h.apart.imp (fun {a b} hab e => hab ?_)
    rw [e, Pm.mul_inv]; exact hH.one
  have := nodup_len (T.map (·.1)) X hn (fun x hx => by
    obtain ⟨e, he, rfl⟩ := List.mem_map.1 hx
    exact hX _ (h.gen e he))
  rwa [List.length_map] at this

end Go.Proofs.Ytimfoggjocajiaa

/- Maps that are sets of numbers: look, len, put, take out; what lies under a walk. -/
namespace Go.Proofs.Ytimfoggjocajiaa
open Go.RowKit Go.Maps Go.ChangeMaps
open Go.WideElems (rg)

/-- Block b is a map[int]int whose keys are these numbers, each once. -/
def ISet (w : World) (b : Nat) (ks : List Nat) : Prop :=
  ks.Nodup ∧ ∃ D : DataW Value, w.ownsMap Try.prog 3 heldElem b ks.length D ∧ Maps.size D = ks.length ∧ ∀ a : Nat, Maps.has D (.int .i64 (a : Int)) = decide (a ∈ ks)

theorem ISet.lt {w : World} {b : Nat} {ks : List Nat} (h : ISet w b ks) : b < w.heap.size := by
  obtain ⟨_, D, h1, _⟩ := h; exact h1.lt

theorem ISet.of_block {w w' : World} {b : Nat} {ks : List Nat} (h : ISet w b ks) (hb : w'.heap[b]? = w.heap[b]?) : ISet w' b ks := by
  obtain ⟨hn, D, ⟨es, c, h1, h2⟩, h3⟩ := h; exact ⟨hn, D, ⟨es, c, hb.trans h1, h2⟩, h3⟩

theorem ISet.look {w : World} {b : Nat} {ks : List Nat} (h : ISet w b ks) (a : Nat) (ha : (a : Int) ≤ 9223372036854775807) :
    ∃ v, (Instr.lookup 108 (.map (some b)) (.int .i64 (a : Int)) true).run Try.prog w = .ok (.tuple #[v, .bool (decide (a ∈ ks))]) w := by
  obtain ⟨_, D, hD, hs, hf⟩ := h
  obtain ⟨v, ps, hrun, hv⟩ := hD.look_ok keyedI Try.underlying108 (Try.zero3 w) (zd := .held (.int .i64 0)) (zp := []) rfl (wfI (a := (a : Int)) (by omega) ha)
  exact ⟨v, by rw [hrun, hf a]⟩

theorem ISet.len {w : World} {b : Nat} {ks : List Nat} (h : ISet w b ks) (ty : TypeId) : (Builtin.len_ #[108] ty #[.map (some b)]).run Try.prog w = .ok (.int .i64 (ks.length : Int)) w := by
  obtain ⟨_, D, hD, hs, hf⟩ := h
  rw [hD.len Try.underlying108, hs]

theorem int_lit_ne {x a : Nat} (e : x ≠ a) : (Lit.int .i64 (x : Int)) ≠ Lit.int .i64 (a : Int) := fun h => e (by have := (Lit.int.inj h).2; omega)

theorem ISet.put {w : World} {b : Nat} {ks : List Nat} (h : ISet w b ks) (a : Nat) (ha : (a : Int) ≤ 9223372036854775807) (hn : a ∉ ks) (hl : ks.length < maxLen) (v : Value) :
    ∃ w', (Instr.mapUpdate 108 (.map (some b)) (.int .i64 (a : Int)) v).run Try.prog w = .ok () w' ∧ ISet w' b (a :: ks) ∧ w.mapTurned w' b := by
  obtain ⟨hnd, D, hD, hs, hf⟩ := h
  have hkey := wfI (a := (a : Int)) (by omega) ha
  obtain ⟨w', hrun, hD', hg⟩ := hD.store (val := v) (d := .held v) (ps := []) keyedI Try.underlying108 hl hkey rfl
  have hk : WideAt.IsKeyLit (.int .i64 (a : Int)) := keyedI.key hkey
  refine ⟨w', hrun, ⟨List.nodup_cons.2 ⟨hn, hnd⟩, _, hD', ?_, fun x => ?_⟩, hg⟩
  · rw [Maps.size_put (hD.tidy keyedI), hf a, if_neg (by simpa using hn), hs]; rfl
  · by_cases e : x = a
    · subst e
      rw [has_put_same hD.isMap hk]
      simp
    · rw [has_put_other (int_lit_ne e), hf x]
      simp [e]

theorem ISet.drop {w : World} {b a : Nat} {ks : List Nat} (h : ISet w b (a :: ks)) (ha : (a : Int) ≤ 9223372036854775807) (ty : TypeId) :
    ∃ w', (Builtin.delete_ #[108, 3] ty #[.map (some b), .int .i64 (a : Int)]).run Try.prog w = .ok (.tuple #[]) w' ∧ ISet w' b ks ∧ w.mapTurned w' b := by
  obtain ⟨hnd, D, hD, hs, hf⟩ := h
  have hkey := wfI (a := (a : Int)) (by omega) ha
  obtain ⟨w', hrun, hD', hg⟩ := hD.drop keyedI Try.underlying108 hkey ty
  have hk : WideAt.IsKeyLit (.int .i64 (a : Int)) := keyedI.key hkey
  have hna := (List.nodup_cons.1 hnd).1
  have hsz : Maps.size (D.del (.int .i64 (a : Int))) = ks.length := by
    have := Maps.size_del (k := (.int .i64 (a : Int))) (hD.tidy keyedI)
    rw [hf a, if_pos (by simp), hs] at this
    simp at this
    exact this
  refine ⟨w', hrun, ⟨(List.nodup_cons.1 hnd).2, _, ?_, hsz, fun x => ?_⟩, hg⟩
  · obtain ⟨es, c, r1, r2, r3, r4⟩ := hD'
    refine ⟨es, c, r1, r2, ?_, r4⟩
    have e1 : Maps.size (DataW.map ((es.toList.map (rg Try.prog 3 heldElem)).foldr DataW.insert [])) = es.size := by simp [Maps.size, length_sorted]
    rw [← r4, hsz] at e1
    omega
  · by_cases e : x = a
    · subst e
      rw [has_del_same]
      simp [hna]
    · rw [has_del_other (int_lit_ne e), hf x]
      simp [e]

/-! at the operation -/
section
variable {ops : Array Oper} {rest : List Oper} {o : Oper} {a : Act} {w : World} {Q : Exit → Act → World → Prop}

theorem wpList_drop (hg : o.guard = none) (m x : Operand) (hop : o.op = Op.call { callee := Callee.builtin Builtin.delete, args := #[m, x], argTypes := #[108, 3] })
    {b k : Nat} {ks : List Nat} (h : ISet w b (k :: ks)) (hm : a.eval m = .map (some b)) (hx : a.eval x = .int .i64 (k : Int)) (hk : (k : Int) ≤ 9223372036854775807)
    (hK : ∀ w', ISet w' b ks → w.mapTurned w' b → wpList Try.prog ops Q rest (a.put o.dst (.tuple #[])) w') : wpList Try.prog ops Q (o :: rest) a w := by
  refine wpList_plain hg fun K' hK' => ?_
  obtain ⟨w', hrun, r1, r2⟩ := h.drop hk o.type
  unfold Oper.wp
  simp [execOp, hop, resolve, invoke, builtin, hm, hx, hrun, Result.andThen]
  exact hK' _ _ (hK w' r1 r2)
end

/-- Below block number B all is as it was, but for two blocks. -/
structure Frm (B sb mb : Nat) (w w' : World) : Prop where
  os : w'.os = w.os
  tape : w'.tape = w.tape
  output : w'.output = w.output
  size : w.heap.size ≤ w'.heap.size
  block : ∀ b, b < B → b ≠ sb → b ≠ mb → w'.heap[b]? = w.heap[b]?

theorem Frm.refl (B sb mb : Nat) (w : World) : Frm B sb mb w w := ⟨rfl, rfl, rfl, Nat.le_refl _, fun _ _ _ _ => rfl⟩

theorem Frm.trans {B sb mb : Nat} {a b c : World} (h : Frm B sb mb a b) (k : Frm B sb mb b c) : Frm B sb mb a c :=
  ⟨k.os.trans h.os, k.tape.trans h.tape, k.output.trans h.output, Nat.le_trans h.size k.size, fun x h1 h2 h3 => (k.block x h1 h2 h3).trans (h.block x h1 h2 h3)⟩

theorem Frm.of_below {B sb mb X : Nat} {w w' : World} (h : Below X w w') (hX : B ≤ X) : Frm B sb mb w w' := ⟨h.os, h.tape, h.output, h.size, fun x h1 _ _ => h.block x (by omega)⟩

theorem Frm.below {B sb mb X : Nat} {w w' : World} (h : Frm B sb mb w w') (hX : X ≤ B) (h1 : X ≤ sb) (h2 : X ≤ mb) : Below X w w' := ⟨h.os, h.tape, h.output, h.size, fun x hx => h.block x (by omega) (by omega) (by omega)⟩

theorem Frm.set {B sb mb : Nat} {w w' : World} (h : Frm B sb mb w w') (j : Nat) (u : Value) : Frm B sb mb w (w'.setCell ⟨sb, j, none⟩ u) :=
  h.trans ⟨rfl, rfl, rfl, by simp [World.setCell], fun x _ h2 _ => Below.heap_setCell _ _ _ _ h2⟩

theorem Frm.turned {B sb mb : Nat} {w w' w'' : World} (h : Frm B sb mb w w') (ht : w'.mapTurned w'' mb) : Frm B sb mb w w'' := by
  obtain ⟨es, c, es', c', h1, rfl⟩ := ht
  refine h.trans ⟨rfl, rfl, rfl, by simp [setBlock], fun x _ _ h3 => ?_⟩
  simp [setBlock, Ne.symm h3]

theorem turned_block {w w' : World} {mb x : Nat} (ht : w.mapTurned w' mb) (hx : x ≠ mb) : w'.heap[x]? = w.heap[x]? := by
  obtain ⟨es, c, es', c', h1, rfl⟩ := ht
  simp [setBlock, Ne.symm hx]

theorem turned_size {w w' : World} {mb : Nat} (ht : w.mapTurned w' mb) : w'.heap.size = w.heap.size := by
  obtain ⟨es, c, es', c', h1, rfl⟩ := ht
  simp [setBlock]

theorem owns_block {w w' : World} {base e n : Nat} {v : Value} {xs : List Value} (h : w.ownsRow base e 1 v n xs) (hb : ∀ g, v.ownBlock = some g → w'.heap[g]? = w.heap[g]?) : w'.ownsRow base e 1 v n xs := by
  obtain ⟨h1, h2⟩ := h
  refine ⟨h1, ?_⟩
  rcases h2 with h2 | ⟨g, cap, cur, hv, hg, hh, r⟩
  · exact Or.inl h2
  · exact Or.inr ⟨g, cap, cur, hv, hg, (hb g (by rw [hv]; rfl)).trans hh, r⟩

theorem cells4 {w1 : World} {B : Nat} {a b c d : Value} {t : TypeId} (h : w1.heap[B]? = some (.cells #[a, b, c, d] t)) :
    w1.cell? ⟨B, 0, none⟩ = some a ∧ w1.cell? ⟨B, 1, none⟩ = some b ∧ w1.cell? ⟨B, 2, none⟩ = some c ∧ w1.cell? ⟨B, 3, none⟩ = some d ∧ w1.frozen? ⟨B, 0, none⟩ = false ∧ w1.frozen? ⟨B, 3, none⟩ = false := by
  simp [World.cell?, World.frozen?, h]

theorem set4 {w1 : World} {B : Nat} {a b c d : Value} {t : TypeId} (h : w1.heap[B]? = some (.cells #[a, b, c, d] t)) (u : Value) : (w1.setCell ⟨B, 3, none⟩ u).heap[B]? = some (.cells #[a, b, c, u] t) := by
  simp [World.setCell, Array.getElem?_modify, h]

end Go.Proofs.Ytimfoggjocajiaa

/- Contract: coset.bringing: by a place, then by a bell, a row that brings it there. -/
namespace Go.Proofs.Ytimfoggjocajiaa
open Go.RowKit

theorem Try.info145 : (Try.prog.info? 145).map (fun i => (i.zero, i.size, i.bytes)) = some (some (.map none), 1, 8) := by kernel_rfl
theorem Try.zero23 (w : World) : (zeroValue 23).run Try.prog w = .ok (.slice none 0 0) w := by kernel_rfl

/-- How far the maps hold what the first i rows bring. -/
structure BrTo (w wr : World) (n m0 : Nat) (X : List Pm) (i : Nat) (fs : Nat → Int → Option Value) : Prop where
  far : w.heap.size < m0
  row : ∀ p, p < n → wr.cell? ⟨w.heap.size, p, none⟩ = some (.map (some (m0 + p)))
  maps : ∀ p, p < n → IMap wr (m0 + p) i (fs p)
  sound : ∀ p, p < n → ∀ (a : Int) (u : Value), fs p a = some u → ∃ c, c ∈ X ∧ (∀ b, b < p → c.act b = b) ∧ a = ((c.act p : Nat) : Int) ∧ c.act p ≠ p ∧ Ints w u (cut n c)
  full : ∀ p, p < n → ∀ c, c ∈ X.take i → (∀ b, b < p → c.act b = b) → c.act p ≠ p → ∃ u, fs p ((c.act p : Nat) : Int) = some u
  below : Below w.heap.size w wr

theorem imap_drew {w : World} {b n : Nat} {f : Int → Option Value} (h : IMap w b n f) : IMap w.drew b n f := h.of_block rfl

theorem BrTo.same {w wr : World} {n m0 i : Nat} {X : List Pm} {fs : Nat → Int → Option Value} (h : BrTo w wr n m0 X i fs) {c : Pm} (hc : X[i]? = some c) (hf : ∀ p, p < n → c.act p = p) : BrTo w wr n m0 X (i + 1) fs :=
  ⟨h.far, h.row, fun p hp => (h.maps p hp).mono (Nat.le_succ i), h.sound, fun p hp d hd h1 h2 => by
    rw [List.take_add_one, hc, List.mem_append] at hd
    rcases hd with hd | hd
    · exact h.full p hp d hd h1 h2
    · have : d = c := by simpa using hd
      subst this
      exact absurd (hf p hp) h2, h.below⟩

theorem BrTo.put {w wr w' : World} {n m0 i p0 : Nat} {X : List Pm} {fs : Nat → Int → Option Value} {u : Value} (h : BrTo w wr n m0 X i fs) {c : Pm} (hc : X[i]? = some c) (hp0 : p0 < n) (hlow : ∀ b, b < p0 → c.act b = b) (hne : c.act p0 ≠ p0) (hu : Ints w u (cut n c))
    (hM : IMap w' (m0 + p0) (i + 1) (upd (fs p0) ((c.act p0 : Nat) : Int) u)) (hg : wr.drew.grownBy w' (some (m0 + p0))) :
    BrTo w w' n m0 X (i + 1) (fun p => if p = p0 then upd (fs p0) ((c.act p0 : Nat) : Int) u else fs p) := by
  have hblk : ∀ b, b < wr.heap.size → b ≠ m0 + p0 → w'.heap[b]? = wr.heap[b]? := fun b hb hne' => hg.block b hb (fun e => hne' (Option.some.inj e))
  have hcm := List.mem_of_getElem? hc
  have hfar := h.far
  refine ⟨h.far, fun p hp => ?_, fun p hp => ?_, fun p hp a v hv => ?_, fun p hp d hd h1 h2 => ?_, ?_⟩
  · rw [World.cell?_of_block (w := wr) (hblk w.heap.size (Nat.lt_of_lt_of_le (by omega) (Nat.succ_le_of_lt (h.maps p hp).lt)) (by omega))]
    exact h.row p hp
  · by_cases e : p = p0
    · subst e; simp only [if_pos]; exact hM
    · simp only [if_neg e]
      exact ((h.maps p hp).mono (Nat.le_succ i)).of_block (hblk _ (h.maps p hp).lt (by omega))
  · by_cases e : p = p0
    · subst e
      simp only [if_pos] at hv
      unfold upd at hv
      by_cases ea : a = ((c.act p : Nat) : Int)
      · rw [if_pos ea] at hv
        rw [← Option.some.inj hv]
        exact ⟨c, hcm, hlow, ea, hne, hu⟩
      · rw [if_neg ea] at hv
        exact h.sound p hp a v hv
    · simp only [if_neg e] at hv
      exact h.sound p hp a v hv
  · rw [List.take_add_one, hc, List.mem_append] at hd
    by_cases e : p = p0
    · subst e
      simp only [if_pos]
      unfold upd
      by_cases ea : ((d.act p : Nat) : Int) = ((c.act p : Nat) : Int)
      · exact ⟨u, if_pos ea⟩
      · rw [if_neg ea]
        rcases hd with hd | hd
        · exact h.full p hp d hd h1 h2
        · have : d = c := by simpa using hd
          subst this
          exact absurd rfl ea
    · simp only [if_neg e]
      rcases hd with hd | hd
      · exact h.full p hp d hd h1 h2
      · have : d = c := by simpa using hd
        subst this
        rcases Nat.lt_or_ge p p0 with hl | hl
        · exact absurd (hlow p hl) h2
        · exact absurd (h1 p0 (by omega)) hne
  · exact (h.below.trans ((Below.refl _ _).drew.mono (Nat.le_refl _))).grown hg (by have := h.below.size; exact this) (fun g hg' => by have := Option.some.inj hg'; omega)

/-- What mark reads: maps by place. -/
structure BrAt (w : World) (v : Value) (n m0 : Nat) (H : Pm → Prop) (b : Nat) (fs : Nat → Int → Option Value) (k : Nat) : Prop where
  val : v = .slice (some ⟨b, 0, none⟩) n n
  lt : b < w.heap.size
  row : ∀ p, p < n → w.cell? ⟨b, p, none⟩ = some (.map (some (m0 + p)))
  maps : ∀ p, p < n → IMap w (m0 + p) k (fs p)
  sound : ∀ p, p < n → ∀ (a : Int) (u : Value), fs p a = some u → ∃ c, Low H p c ∧ a = ((c.act p : Nat) : Int) ∧ c.act p ≠ p ∧ Ints w u (cut n c)
  full : ∀ p, p < n → ∀ c, Low H p c → c.act p ≠ p → ∃ u, fs p ((c.act p : Nat) : Int) = some u

theorem BrAt.later {w w' : World} {v : Value} {n m0 b k : Nat} {H : Pm → Prop} {fs : Nat → Int → Option Value} (h : BrAt w v n m0 H b fs k) (hb : Below w.heap.size w w') : BrAt w' v n m0 H b fs k :=
  ⟨h.val, Nat.lt_of_lt_of_le h.lt hb.size, fun p hp => (hb.cell (p := ⟨b, p, none⟩) h.lt).trans (h.row p hp), fun p hp => (h.maps p hp).below hb (h.maps p hp).lt, fun p hp a u hu => by
    obtain ⟨c, h1, h2, h3, h4⟩ := h.sound p hp a u hu
    exact ⟨c, h1, h2, h3, h4.below hb⟩, h.full⟩

theorem BrTo.done {w wr : World} {n m0 : Nat} {X : List Pm} {H : Pm → Prop} {fs : Nat → Int → Option Value} (h : BrTo w wr n m0 X X.length fs) (hX : ∀ x, x ∈ X ↔ H x) (h1 : 1 ≤ n) : BrAt wr (.slice (some ⟨w.heap.size, 0, none⟩) n n) n m0 H w.heap.size fs X.length :=
  ⟨rfl, by have := (h.maps 0 (by omega)).lt; have := h.far; omega, h.row, h.maps, fun p hp a u hu => by
    obtain ⟨c, h1, h2, h3, h4, h5⟩ := h.sound p hp a u hu
    exact ⟨c, ⟨(hX c).1 h1, h2⟩, h3, h4, h5.below h.below⟩, fun p hp c hc hne => h.full p hp c (by rw [List.take_length]; exact (hX c).2 hc.1) hc.2 hne⟩

theorem made_maps (n : Nat) : (madeCells #[Value.map none] n).toList = List.replicate n (.map none) := by
  apply List.ext_getElem
  · simp [madeCells]
  · intro i h1 h2
    simp [madeCells, Nat.mod_one]

/-- The maps that were made so far. -/
structure BrM (w wr : World) (n m0 k : Nat) : Prop where
  far : w.heap.size < m0
  row : wr.ownsRow w.heap.size 145 1 (.slice (some ⟨w.heap.size, 0, none⟩) n n) n ((List.range k).map (fun p => Value.map (some (m0 + p))) ++ List.replicate (n - k) (.map none))
  size : wr.heap.size = m0 + k
  maps : ∀ p, p < k → IMap wr (m0 + p) 0 (fun _ => none)
  below : Below w.heap.size w wr

theorem BrM.step {w wr : World} {n m0 k : Nat} (h : BrM w wr n m0 k) (hk : k < n) : BrM w ((wr.alloc (.map #[] 0)).setCell ⟨w.heap.size, k, none⟩ (.map (some (m0 + k)))) n m0 (k + 1) := by
  have hs : (wr.alloc (.map #[] 0)).heap.size = m0 + (k + 1) := by simp [h.size]; omega
  have hfar := h.far
  refine ⟨hfar, ?_, by simp [World.setCell, h.size]; omega, fun p hp => ?_, ?_⟩
  · have h1 := owns_set (m := k) (h.row.alloc (.map #[] 0)) (.map (some (m0 + k)))
    have e : ((List.range k).map (fun p => Value.map (some (m0 + p))) ++ List.replicate (n - k) (Value.map none)).set k (.map (some (m0 + k))) = (List.range (k + 1)).map (fun p => Value.map (some (m0 + p))) ++ List.replicate (n - (k + 1)) (.map none) := by
      have h9 := set_at (Value.map none) (.map (some (m0 + k))) (n - (k + 1)) ((List.range k).map (fun p => Value.map (some (m0 + p))))
      rw [List.length_map, List.length_range, show n - (k + 1) + 1 = n - k by omega] at h9
      rw [h9, List.range_succ, List.map_append]
      rfl
    rw [e] at h1
    exact h1
  · by_cases e : p = k
    · subst e
      have h9 := IMap.made wr
      rw [h.size] at h9
      exact h9.of_block (Below.heap_setCell _ _ _ _ (by show m0 + p ≠ w.heap.size; omega))
    · exact ((h.maps p (by omega)).alloc _).of_block (Below.heap_setCell _ _ _ _ (by show m0 + p ≠ w.heap.size; omega))
  · exact (h.below.alloc h.below.size _).setCell (Nat.le_refl _) _

theorem BrM.done {w wr : World} {n m0 : Nat} (h : BrM w wr n m0 n) (X : List Pm) : BrTo w wr n m0 X 0 (fun _ _ => none) := by
  refine ⟨h.far, fun p hp => ?_, h.maps, fun p hp a u hu => (by cases hu), fun p hp c hc => (by simp at hc), h.below⟩
  have := h.row.cells (g := w.heap.size) rfl p (.map (some (m0 + p))) (by
    rw [Nat.sub_self, List.replicate_zero, List.append_nil, List.getElem?_map, List.getElem?_range hp]; rfl)
  rw [Addr.add_lit, Nat.zero_add] at this
  exact this

end Go.Proofs.Ytimfoggjocajiaa

/- Contract: coset.bringing: the walk. -/
namespace Go.Proofs.Ytimfoggjocajiaa
open Go.RowKit

set_option maxRecDepth 20000 in
set_option maxHeartbeats 4000000 in
theorem bringing_ok (n : Nat) (v : Value) (X : List Pm) (w : World) (hA : IntsAll w v (X.map (cut n))) (hX1 : 1 ≤ X.length) (hN : X.length ≤ 1000000) (h1 : 1 ≤ n) (h12 : n ≤ 12) (hf : ∀ x, x ∈ X → Fixes (fun b => n ≤ b) x) :
    Calls Try.prog 72 #[.int .i64 n, v] w fun e w' => ∃ m0 fs, e = .returned (.slice (some ⟨w.heap.size, 0, none⟩) n n) ∧ BrTo w w' n m0 X X.length fs := by
  obtain ⟨i0, hi, hz0, hz1, hz2⟩ := info_parts Try.info145
  have hmm := @run_makeMap Try.prog
  obtain ⟨pr, Nr, cr, rfl⟩ : ∃ p N c, v = .slice p N c := by obtain ⟨p, c, e⟩ := hA.len; exact ⟨p, _, c, e⟩
  obtain ⟨gr, offr, rfl, hNr, hcr1, hcr2, hgr, hcell⟩ := hA.rowI (by rw [List.length_map]; exact hX1)
  rw [List.length_map] at hNr hcr1
  have HCL : Hid (∀ i x, X[i]? = some x → ∃ u, w.cell? ⟨gr, offr + i, none⟩ = some u ∧ Ints w u (cut n x)) := fun i x hx => hcell i _ (by rw [List.getElem?_map, hx]; rfl)
  have HF := hide hf
  generalize hxl : X.length = xl at *
  have HXL := hide hxl
  have hNr' := hNr.symm
  subst hNr'
  clear hA hcell hf hxl hNr
  go_enter Try.func72, Try.ntmps72
  go_wp2_with (at_make; refine wpList_make_full _ rfl _ _ 106 rfl w.heap.size 145 i0 (.map none) 1 Try.underlying106 hi hz0 hz1 _ _ _ _ n rfl rfl (by omega) (by omega) ?b2 ?b3 (Nat.le_refl _) ?_)
  case b2 => rw [hz2]; omega
  case b3 => unfold maxLen; omega
  intro w1 hown1 hg1
  rw [made_maps] at hown1
  have hm0 : w.heap.size < w1.heap.size := (hown1.lt w.heap.size rfl).2
  have HM0 : Hid (BrM w w1 n w1.heap.size 0) := ⟨hm0, by simpa using hown1, rfl, fun p hp => by omega, (Below.refl _ _).grown hg1 (Nat.le_refl _) (fun k h => by cases h)⟩
  obtain ⟨m0, hm0e⟩ : ∃ m0, m0 = w1.heap.size := ⟨_, rfl⟩
  rw [← hm0e] at HM0 hm0
  clear hown1 hg1 hm0e
  go_wp2
  go_loopw [14] (fun si wr => ∃ k : Nat, k ≤ n ∧ si = .int .i64 k ∧ BrM w wr n m0 k) (fun si _ => n - (intOf si).toNat)
  case atStart => exact ⟨0, Nat.zero_le _, rfl, HM0.out⟩
  case round =>
    clear HM0
    obtain ⟨k, hk, rfl, hM⟩ := hrel
    by_cases hlt : k < n
    · have hM2 := hM.step hlt
      have hbk := row_cellE (hM.row.alloc (.map #[] 0)) hlt
      obtain ⟨⟨u, hcu⟩, hfu⟩ := hbk
      have hsz := hM.size
      have HM2 := hide hM2
      rw [← hsz] at HM2
      clear hM hM2 hsz
      go_wp2
      go_roundw
      case rel => exact ⟨k + 1, hlt, by go_num, HM2.out⟩
      case measure => simp [intOf]; omega
    · obtain rfl : n = k := by omega
      have HD := hide (hM.done X)
      clear hM
      go_wp2
      go_loopw [24] (fun si wr => ∃ (i : Nat) (fs : Nat → Int → Option Value), i ≤ xl ∧ si = .int .i64 i ∧ BrTo w wr n m0 X i fs) (fun si _ => xl - (intOf si).toNat)
      case atStart => exact ⟨0, _, Nat.zero_le _, rfl, HD.out⟩
      case round =>
        clear HD
        obtain ⟨i, fs, hix, rfl, hB⟩ := hrel
        by_cases hit : i < xl
        · obtain ⟨c, hc⟩ : ∃ c, X[i]? = some c := ⟨_, List.getElem?_eq_getElem (by rw [HXL.out]; exact hit)⟩
          obtain ⟨u, hcu, hiu⟩ := HCL.out i c hc
          have hcu' := (hB.below.cell (p := ⟨gr, offr + i, none⟩) hgr).trans hcu
          have HIU := hide hiu
          obtain ⟨p2, c2, e2⟩ := hiu.form
          subst e2
          obtain ⟨b2, o2, rfl, hl1, hl2, hl3, hl4⟩ := hiu.open (by rw [cut_length h12]; omega)
          rw [cut_length h12] at hcu' hl1 HIU hl4
          have HB := hide hB
          have HC := hide hc
          have HL4 : Hid (∀ j, j < n → ∀ W, Below w.heap.size w W → W.cell? ⟨b2, o2 + j, none⟩ = some (.int .i64 ((c.act j : Nat) : Int))) := fun j hj W hW => by
            rw [← cut_get c h12 hj]
            exact (hW.cell (p := ⟨b2, o2 + j, none⟩) hl3).trans (hl4 j hj)
          obtain ⟨wo, hwo⟩ : ∃ wo, wo = wr := ⟨_, rfl⟩
          subst hwo
          have hbw := hB.below
          clear hcu hiu hc hl4 hB
          go_wp2
          go_loopw [9] (fun sp wr => ∃ p : Nat, p ≤ n ∧ sp = .int .i64 p ∧ Hid (∀ b, b < p → c.act b = b) ∧ wr = wo) (fun sp _ => n - (intOf sp).toNat)
          case atStart => exact ⟨0, Nat.zero_le _, rfl, fun b hb => by omega, rfl⟩
          case round =>
            obtain ⟨p, hp, rfl, hlow, hww⟩ := hrel
            have hww' := hww.symm
            subst hww'
            clear hww
            by_cases hpn : p < n
            · have hcp := HL4.out p hpn wo hbw
              have hpI : (p : Int) < (n : Int) := by omega
              by_cases hfx : c.act p = p
              · have HL2 : Hid (∀ b, b < p + 1 → c.act b = b) := fun b hb => by
                  by_cases e : b = p
                  · rw [e]; exact hfx
                  · exact hlow.out b (by omega)
                rw [hfx] at hcp
                clear hlow hfx
                go_wp2
                go_roundw
                case rel =>
                  first
                    | exact ⟨p + 1, hpn, by go_num, HL2, rfl⟩
                    | exact ⟨p + 1, hpn, by go_num, HL2, trivial⟩
                case measure => simp [intOf]; omega
              · have hfI : ¬ ((c.act p : Nat) : Int) = (p : Int) := by omega
                have hck := HB.out.row p hpn
                have hfI2 : (((c.act p : Nat) : Int) == (p : Int)) = false := beq_eq_false_iff_ne.2 hfI
                have ha12 : c.act p < 12 := c.act_lt (by omega)
                obtain ⟨w9, hrun, hM9, hg9⟩ := (imap_drew (HB.out.maps p hpn)).put Try.underlying145 (show i < maxLen by unfold maxLen; omega) (a := ((c.act p : Nat) : Int)) (by omega) (by omega) (.slice (some ⟨b2, o2, none⟩) n c2)
                have HB9 := hide (HB.out.put HC.out hpn hlow.out hfx HIU.out hM9 hg9)
                clear hM9 hg9 hlow hfx HIU
                generalize c.act p = cp at *
                go_upto_region 14 with fail
                go_region
                go_wp2
                go_roundw
                case rel =>
                  have hfin : ∃ (i' : Nat) (fs : Nat → Int → Option Value), i' ≤ xl ∧ Value.int .i64 ((i : Int) + 1) = .int .i64 (i' : Int) ∧ BrTo w w9 n m0 X i' fs := ⟨i + 1, _, hit, by go_num, HB9.out⟩
                  first
                    | exact hfin
                    | ((repeat apply Exists.intro); exact ⟨hfin, rfl⟩)
                case measure => simp [intOf]; omega
            · obtain rfl : n = p := by omega
              have HB9 := hide (HB.out.same HC.out (fun p hp => hlow.out p hp))
              clear hlow
              go_wp2
              go_roundw
              case rel =>
                have hfin : ∃ (i' : Nat) (fs : Nat → Int → Option Value), i' ≤ xl ∧ Value.int .i64 ((i : Int) + 1) = .int .i64 (i' : Int) ∧ BrTo w wo n m0 X i' fs := ⟨i + 1, _, hit, by go_num, HB9.out⟩
                first
                  | exact hfin
                  | ((repeat apply Exists.intro); exact ⟨hfin, rfl⟩)
              case measure => simp [intOf]; omega
        · obtain rfl : xl = i := by omega
          have HB := hide hB
          clear hB
          go_wp2
          go_ret
          exact ⟨m0, fs, rfl, HB.out⟩

end Go.Proofs.Ytimfoggjocajiaa

/- Contract: newChain by the bases that Still turns (mkget.py). -/
namespace Go.Proofs.Ytimfoggjocajiaa
open Go.RowKit

theorem link_laidT {w wr w1 w2 : World} {n j c : Nat} {bs : List Nat} {st : Nat → St} (hPre : PreAt wr w.heap.size w.heap.size n (((bs.take j).map lk0).map rawOf) st) (hlt : j < n) (hbl : bs.length = n) (hbj : bs[j]? = some c) (hbw : Below w.heap.size w wr) (hb01 : Below wr.heap.size wr w1) (hs1 : wr.heap.size < w1.heap.size)
    (hM2 : IMap w2 wr.heap.size (0 + 1) (upd (fun _ => none) (c : Int) (pv 1))) (hg2 : w1.grownBy w2 (some wr.heap.size)) :
    ∃ st', PreAt ((w2.alloc (.cells #[.int .i64 (c : Int)] 3)).setCells w.heap.size (j * 4) [.int .i64 (c : Int), .map (some wr.heap.size), .slice (some ⟨w2.heap.size, 0, none⟩) 1 1, .slice none 0 0]) w.heap.size w.heap.size n (((bs.take (j + 1)).map lk0).map rawOf) st' ∧ Below w.heap.size w ((w2.alloc (.cells #[.int .i64 (c : Int)] 3)).setCells w.heap.size (j * 4) [.int .i64 (c : Int), .map (some wr.heap.size), .slice (some ⟨w2.heap.size, 0, none⟩) 1 1, .slice none 0 0]) := by
  have hR : (((bs.take j).map lk0).map rawOf).length = j := by simp; omega
  have hs2 := hg2.size
  have hbs := hbw.size
  have hb2 : Below wr.heap.size wr (w2.alloc (.cells #[.int .i64 (c : Int)] 3)) := (hb01.grown hg2 hb01.size (fun k h => by have := Option.some.inj h; omega)).alloc (by omega) _
  have hM3 := hM2.alloc (.cells #[.int .i64 (c : Int)] 3)
  rw [tabF_one] at hM3
  have hO : (w2.alloc (.cells #[.int .i64 (c : Int)] 3)).ownsRow w.heap.size 3 1 (.slice (some ⟨w2.heap.size, 0, none⟩) 1 1) 1 [.int .i64 (c : Int)] := owns_base (one_owned w2 (c : Int)) (by omega)
  have hst := hPre.step (base := c) (by rw [hR]; exact hlt) hb2 hM3 (by omega) (Nat.le_refl _) hO (by omega)
  rw [hR, show ((bs.take j).map lk0).map rawOf ++ [rawOf (lk0 c)] = ((bs.take (j + 1)).map lk0).map rawOf from by rw [List.take_add_one, hbj]; simp] at hst
  exact ⟨_, hst, (hbw.trans (hb2.mono hbw.size)).trans (below_setCells _ _ _ _ (Nat.le_refl _))⟩

set_option maxRecDepth 20000 in
set_option maxHeartbeats 4000000 in
theorem newChainT_ok (n b2 b3 : Nat) (bs : List Nat) (v1 : Value) (gs : List Pm) (w : World) (h1 : 1 ≤ n) (h12 : n ≤ 12) (hP : Packs w v1 gs) (hgs : gs.length ≤ 8916100448256) (hF : ∀ x, x ∈ gs → Fixes (fun b => n ≤ b) x) (hbl : bs.length = n) (hb12 : ∀ b, b ∈ bs → b < 12) (hba : ∀ b, b < 12 → n ≤ b ∨ b ∈ bs)
    (hBase : ∀ (j c : Nat) (W : World), bs[j]? = some c → Below w.heap.size w W → Calls Try.prog 97 #[.int .i64 (j : Int), .pointer (some ⟨b3, 0, none⟩), .pointer (some ⟨b2, 0, none⟩)] W fun e w' => e = .returned (.int .i64 (c : Int)) ∧ Below W.heap.size W w') :
    Calls Try.prog 98 #[.int .i64 n, v1, .func (.func 97) #[] #[.pointer (some ⟨b3, 0, none⟩), .pointer (some ⟨b2, 0, none⟩)]] w fun e w' => ∃ g C st, e = .returned (.slice (some ⟨g, 0, none⟩) n n) ∧ Chained w' w.heap.size g n bs C st gs ∧ Below w.heap.size w w' := by
  obtain ⟨i0, hi, hz0, hz1, hz2⟩ := info_parts Try.info136
  obtain ⟨pp, pcap, rfl⟩ := hP.form
  have HP := hide hP
  have HFx := hide hF
  have HBL := hide hbl
  have HB12 := hide hb12
  have HBA := hide hba
  have HBase := hide hBase
  have hmm := @run_makeMap Try.prog
  have hl1 := (1 : Pm).len
  clear hP hF hbl hb12 hba hBase
  go_enter Try.func98, Try.ntmps98
  go_wp2_with (at_make; refine wpList_make_full _ rfl _ _ 97 rfl w.heap.size 136 i0 (.agg #[.int .i64 0, .map none, .slice none 0 0, .slice none 0 0]) 4 Try.underlying97 hi hz0 hz1 _ _ _ _ n rfl rfl (by omega) (by omega) ?b2 ?b3 (Nat.le_refl _) ?_)
  case b2 => rw [hz2]; omega
  case b3 => unfold maxLen; omega
  intro w0 hown0 hgrow0
  have hPre0 : PreAt w0 w.heap.size w.heap.size n (((bs.take 0).map lk0).map rawOf) (fun _ => ⟨0, .slice none 0 0, .slice none 0 0⟩) := by
    refine ⟨?_, Nat.le_refl _, fun j r h => by simp at h, fun i j h => by simp at h, fun i j h => by simp at h, fun i j h => by simp at h⟩
    rcases hown0.2 with ⟨h, _⟩ | ⟨g', cap', cur, hv, _, hh, _, _, hs, _⟩
    · cases h
    · injection hv with e1 _ e3
      injection e1 with e1
      injection e1 with e1
      subst e1; subst e3
      exact ⟨cur, hh, by rw [hs, Nat.mul_comm]⟩
  have hB0 : Below w.heap.size w w0 := (Below.refl _ _).grown hgrow0 (Nat.le_refl _) (fun k h => by cases h)
  clear hown0 hgrow0
  go_wp2
  go_loopw [16] (fun i wr => ∃ (j : Nat) (st : Nat → St), j ≤ n ∧ i = .int .i64 j ∧ PreAt wr w.heap.size w.heap.size n (((bs.take j).map lk0).map rawOf) st ∧ Below w.heap.size w wr) (fun i _ => n - (intOf i).toNat)
  case atStart => exact ⟨0, _, by omega, rfl, hPre0, hB0⟩
  case round =>
    clear hPre0 hB0
    obtain ⟨j, st, hj, rfl, hPre, hbw⟩ := hrel
    by_cases hlt : j < n
    · obtain ⟨c, hbj⟩ : ∃ c, bs[j]? = some c := ⟨_, List.getElem?_eq_getElem (by rw [HBL.out]; exact hlt)⟩
      have hc12 : c < 12 := HB12.out c (List.mem_of_getElem? hbj)
      have HBJ := hide hbj
      have HCal := hide (HBase.out j c wr hbj hbw)
      clear hbj
      have HPre := hide hPre
      have hbs := hbw.size
      have hsw : w.heap.size < wr.heap.size := by obtain ⟨cs, ho, _⟩ := hPre.obj; exact (Array.getElem?_eq_some_iff.1 ho).1
      clear hPre
      go_wp2_with fail
      refine HCal.out.mono ?_
      rintro e wc ⟨rfl, hbc⟩
      have hM0 := IMap.made wc
      have hbwc : Below w.heap.size w wc := hbw.trans (hbc.mono hbw.size)
      have HPreC := hide (HPre.out.below hbc (Nat.le_refl _))
      have hswc : w.heap.size < wc.heap.size := Nat.lt_of_lt_of_le hsw hbc.size
      clear HPre HCal hbw hbs hsw hbc
      have HPre := HPreC
      have hbw := hbwc
      have hsw := hswc
      have hbs := hbwc.size
      clear HPreC hbwc hswc
      go_wp2_with fail
      refine (prounds_ok _).mono ?_
      rintro e w1 ⟨rfl, hb1⟩
      replace hb1 := below_alloc hb1
      have hM1 := hM0.below hb1 (by omega)
      have hb01 : Below wc.heap.size wc w1 := ((Below.refl _ _).alloc (Nat.le_refl _) _).trans (hb1.mono (by omega))
      have hs1 : wc.heap.size < w1.heap.size := by have := hb1.size; simp at this; omega
      clear hM0 hb1
      have hgth : ∀ (W : World) (o : Obj), W.heap[w.heap.size]? = wc.heap[w.heap.size]? → w.heap.size < W.heap.size → (W.alloc o).there w.heap.size (j * 4) 4 := fun W o hW hlt2 => by
        obtain ⟨cs, ho, hos⟩ := HPre.out.obj
        exact there_obj ((Below.heap_alloc W o _ hlt2).trans (hW.trans ho)) hos _ _ (by omega)
      have HG := hide hgth
      have HZL : Hid (0 < maxLen) := by unfold Hid maxLen; omega
      have HJ1 : Hid (-9223372036854775808 ≤ (c : Int)) := by show _ ≤ _; omega
      have HJ2 : Hid ((c : Int) ≤ 9223372036854775807) := by show _ ≤ _; omega
      clear hgth
      go_wp2_with (refine wpList_insert rfl _ _ _ 134 rfl 91 Try.underlying134 hM1 HZL.out (c : Int) (pv 1) rfl rfl rfl HJ1.out HJ2.out ?_)
      intro w2 hM2 hg2
      have hth2 := HG.out w2 (.cells #[.int .i64 (c : Int)] 3) ((hg2.block w.heap.size (by omega) (by intro e; have := Option.some.inj e; omega)).trans (hb01.block w.heap.size hsw)) (by have := hg2.size; omega)
      obtain ⟨x0, d0⟩ := Option.isSome_iff_exists.1 (hth2 0 (by omega)).1
      obtain ⟨x1, d1⟩ := Option.isSome_iff_exists.1 (hth2 1 (by omega)).1
      obtain ⟨x2, d2⟩ := Option.isSome_iff_exists.1 (hth2 2 (by omega)).1
      obtain ⟨x3, d3⟩ := Option.isSome_iff_exists.1 (hth2 3 (by omega)).1
      have f0 := (hth2 0 (by omega)).2
      have f1 := (hth2 1 (by omega)).2
      have f2 := (hth2 2 (by omega)).2
      have f3 := (hth2 3 (by omega)).2
      rw [Nat.add_zero] at d0 f0
      have hLL := link_laidT HPre.out hlt HBL.out HBJ.out hbw hb01 hs1 hM2 hg2
      have HLL := hide hLL
      clear hLL hM2 hg2 hth2 hb01 hM1 HG HZL HJ1 HJ2
      obtain ⟨st', HST, HB3⟩ := HLL.out
      replace HST := hide HST
      replace HB3 := hide HB3
      clear HLL
      go_wp2
      go_roundw
      case rel =>
        have hfin : ∃ (j' : Nat) (st : Nat → St), j' ≤ n ∧ Value.int .i64 ((j : Int) + 1) = .int .i64 (j' : Int) ∧ PreAt ((w2.alloc (.cells #[.int .i64 (c : Int)] 3)).setCells w.heap.size (j * 4) [.int .i64 (c : Int), .map (some wc.heap.size), .slice (some ⟨w2.heap.size, 0, none⟩) 1 1, .slice none 0 0]) w.heap.size w.heap.size n (((bs.take j').map lk0).map rawOf) st ∧ Below w.heap.size w ((w2.alloc (.cells #[.int .i64 (c : Int)] 3)).setCells w.heap.size (j * 4) [.int .i64 (c : Int), .map (some wc.heap.size), .slice (some ⟨w2.heap.size, 0, none⟩) 1 1, .slice none 0 0]) :=
          ⟨j + 1, _, by omega, by go_num, HST.out, HB3.out⟩
        first
          | exact hfin
          | ((repeat apply Exists.intro); exact ⟨hfin, rfl⟩)
      case measure => simp [intOf]; omega
    · obtain rfl : j = n := by omega
      have hCh := hPre.all (by rw [List.take_of_length_le (by rw [HBL.out]; exact Nat.le_refl _)]; simp; exact HBL.out)
      rw [List.take_of_length_le (by rw [HBL.out]; exact Nat.le_refl _)] at hCh
      have HCh := hide hCh
      have HBw := hide hbw
      have hbs := hbw.size
      clear hPre hCh hbw
      obtain ⟨wo, hwo⟩ : ∃ wo : World, wo = wr := ⟨_, rfl⟩
      go_wp2
      go_loopw [36] (fun i wr => ∃ (q : Nat) (C : List Lk) (st : Nat → St), q ≤ gs.length ∧ i = .int .i64 q ∧ C.length = j ∧ Hid (C.map (·.base) = bs) ∧ Whole (fun b => j ≤ b) C ∧ Hid (∀ x, Prd C x ↔ Gen (fun y => y ∈ gs.take q) x) ∧ ChainAt wr w.heap.size w.heap.size (C.map rawOf) st ∧ Below w.heap.size w wr ∧ Hid (∀ l, l ∈ C → l.gens.Nodup)) (fun i _ => gs.length - (intOf i).toNat)
      case atStart =>
        refine ⟨0, bs.map lk0, st, by omega, rfl, by simp; exact HBL.out, ?_, whole_lk0 _ _ (fun b hb => ?_), ?_, HCh.out, HBw.out, ?_⟩
        · show (bs.map lk0).map (·.base) = _
          rw [List.map_map]
          exact List.map_id _
        · exact HBA.out b hb
        · intro x
          rw [prd_lk0, List.take_zero]
          exact ⟨fun e => by rw [e]; exact Gen.one, gen_none⟩
        · intro l hl
          obtain ⟨b, _, rfl⟩ := List.mem_map.1 hl
          exact List.nodup_nil
      case round =>
        clear hwo
        obtain ⟨q, C, st, hq, rfl, hlen, hbas, hW, hg, hCh, hbw, hnd⟩ := hrel
        by_cases hlt : q < gs.length
        · obtain ⟨s, hs⟩ : ∃ s, gs[q]? = some s := ⟨_, List.getElem?_eq_getElem hlt⟩
          have hfs := HFx.out s (List.mem_of_getElem? hs)
          have hPk := HP.out.below hbw (Nat.le_refl _)
          obtain ⟨b, off, hpp, hrange, hb⟩ : ∃ b off, pp = some ⟨b, off, none⟩ ∧ wr.rangeAt b (off + q * 12) (s.l.map (Value.int .i8)) ∧ gs.length ≤ pcap := by
            rcases hPk with ⟨e, _⟩ | ⟨b, off, cap, hv, _, hc, _, _, hr⟩
            · rw [e] at hlt; simp at hlt
            · injection hv with e1 _ e3
              exact ⟨b, off, e1, hr q s hs, by omega⟩
          have hin : (Try.prog.info? 91).map (·.size) = some (s.l.map (Value.int .i8)).length := by rw [List.length_map, s.len]; exact Try.size91
          have hsl := s.len
          have HS := hide hs
          have HCh := hide hCh
          have HW := hide hW
          have HLen := hide hlen
          have hbs := hbw.size
          subst hpp
          clear hs hPk hCh hW hlen
          go_wp2_with (first
            | refine wpList_load_mid rfl 91 _ rfl b _ rfl _ _ hrange Try.underlying91 rfl hin ?_
            | (refine wpList_store_arr rfl _ _ rfl wr.heap.size zeros12 s.l (zeros_new wr) rfl rfl hsl ?_; intro w6 hX6 hg6)
            | refine wpList_load_arr rfl _ rfl wr.heap.size s.l hX6 rfl ?_)
          have hb6 : Below wr.heap.size wr w6 := ((Below.refl _ _).alloc (Nat.le_refl _) _).grown hg6 (by simp) (fun k h => by have := Option.some.inj h; omega)
          have hC6 := HCh.out.below hb6 (Nat.le_refl _)
          have hbl : ∀ l, l ∈ C → l.base < 12 := fun l hl => by
            exact HB12.out _ (by rw [← hbas.out]; exact List.mem_map.2 ⟨l, hl, rfl⟩)
          have hT := take_all j 0 (by omega) w.heap.size w.heap.size [] C st s (fun b => j ≤ b) w6 rfl (by rw [HLen.out]; omega) h12 hbl hnd.out hC6 HW.out hfs
          have HT := hide hT
          have HB6 := hide hb6
          have HC6 := hide hC6
          clear hT hb6 hC6 hX6 hg6 hrange
          refine HT.out.mono ?_
          rintro e w7 ⟨v, rfl, C', st', hW7, hT7, hC7, hK7, hf7, hn7, hs7⟩
          have hg7 := chained_take HS.out hW7 hg.out hT7
          have hB7 : Below w.heap.size w w7 := (hbw.trans (HB6.out.mono hbw.size)).trans (hK7.toBelow (by have := HB6.out.size; omega) (fun b x hb hf => by have := (foot_lt HC6.out hf).2; omega))
          have HG7 := hide hg7
          clear hg7
          go_wp2
          go_roundw
          case rel =>
            have hfin : ∃ (q' : Nat) (C : List Lk) (st : Nat → St), q' ≤ gs.length ∧ Value.int .i64 ((q : Int) + 1) = .int .i64 (q' : Int) ∧ C.length = j ∧ Hid (C.map (·.base) = bs) ∧ Whole (fun b => j ≤ b) C ∧ Hid (∀ x, Prd C x ↔ Gen (fun y => y ∈ gs.take q') x) ∧ ChainAt w7 w.heap.size w.heap.size (C.map rawOf) st ∧ Below w.heap.size w w7 ∧ Hid (∀ l, l ∈ C → l.gens.Nodup) :=
              ⟨q + 1, C', st', by omega, by go_num, hT7.len.trans HLen.out, hT7.bases.trans hbas.out, hW7, HG7, hC7, hB7, hn7⟩
            first
              | exact hfin
              | ((repeat apply Exists.intro); exact ⟨hfin, rfl⟩)
          case measure => simp [intOf]; omega
        · have hgf : ∀ x, Prd C x ↔ Gen (fun y => y ∈ gs) x := fun x => by have := hg.out x; rw [List.take_of_length_le (by omega)] at this; exact this
          have HCd := hide (Chained.mk hlen hbas.out hW hgf hCh hnd.out)
          clear hW hCh hgf hg
          go_wp2
          go_ret
          exact ⟨_, C, st, rfl, HCd.out, hbw⟩
end Go.Proofs.Ytimfoggjocajiaa
