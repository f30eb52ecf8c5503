/- Joined: SbG, TtR, TtL, Course, MethOf, LdR, Tch. -/
import Derived.Test.YtenpkhalgkodbaaDoorJ11
import Derived.Test.YtenpkhalgkodbaaDoorJ4
import Derived.Deep.RegionHeld3
import Derived.Deep.Cut
import Derived.Test.YtenpkhalgkodbaaDoorJ10
import Derived.Test.YtenpkhalgkodbaaDoorJ5
import Derived.Laws.ResultCell
import Derived.Test.YtenpkhalgkodbaaDoorJ9
/- Contract: the answer's TouchRows, the walk. -/
namespace Go.Proofs.YtenpkhalgkodbaaDoor
open Go.RowKit
set_option maxRecDepth 20000
set_option linter.unusedVariables false

/-- What TouchRows hands back. -/
def TRPost (L : List (List Int)) (w : World) (e : Ending) (w' : World) : Prop := ∃ v vs, e = .returned v ∧ LL w' w.heap.size v vs L ∧ Below w.heap.size w w'

theorem Vals.drop1 {w : World} {b c m : Nat} {vs : List Value} (h : Vals w (.slice (some ⟨b, 0, none⟩) (m + 1) c) vs) (hm : 1 ≤ m) : Vals w (.slice (some ⟨b, 1, none⟩) m (c - 1)) (vs.drop 1) := by
  rcases h with ⟨rfl, p', c', e⟩ | ⟨b', off, cap, e, h0, h1, h2, h3, hc⟩
  · injection e with _ e2 _; omega
  · injection e with e1 e2 e3
    injection e1 with e1
    injection e1 with e4 e5 _
    subst e4; subst e5; subst e3
    have hl : (vs.drop 1).length = m := by rw [List.length_drop]; omega
    refine Or.inr ⟨b, 1, c - 1, by rw [hl], by omega, by omega, by omega, h3, fun j hj => ?_⟩
    rw [hl] at hj
    have := hc (1 + j) (by omega)
    rw [Nat.zero_add] at this
    rw [this]
    simp [List.getD, Nat.add_comm]

set_option maxHeartbeats 16000000 in
theorem rtouch_ok (s : ByteArray) (n : Nat) (vp : Option Addr) (vc : Nat) (ts : List (List Bool)) (cv : Value) (cs : List (Int × List (List Int))) (SS : List (List (List Bool))) (lv : Value) (t : List Nat) (w : World) (h1 : 1 ≤ n) (h12 : n ≤ 12) (hl1 : 1 ≤ ts.length) (hl2 : ts.length ≤ 200)
    (hts : ∀ t, t ∈ ts → tsz t = n) (hv : IntsAll w (.slice vp ts.length vc) (ts.map tpl)) (hcv : CallsAt w cv cs) (hSS : ∀ c, c < cs.length → (cs.getD c (0, [])).2 = (SS.getD c []).map tpl ∧ (∀ t, t ∈ SS.getD c [] → tsz t = n) ∧ (SS.getD c []).length ≤ ts.length)
    (hI : Ints w lv (nI t)) (ht : t.length ≤ 60) (hin : ∀ c, c ∈ t → c < cs.length) :
    Calls Tryd.prog 16 #[.agg #[.string s, .int .i64 n, .slice vp ts.length vc], cv, lv] w (TRPost (leadTo n (allOf ts SS (nI t)) (t.length * ts.length)) w) := by
  obtain ⟨i0, hi, hz0, hz1, hz2⟩ := info_parts Tryd.info26
  obtain ⟨K, hK⟩ : ∃ K, Hid (ts.length = K) := ⟨_, rfl⟩
  obtain ⟨T, hT⟩ : ∃ T, Hid (t.length = T) := ⟨_, rfl⟩
  have hK1 : 1 ≤ K := by rw [← hK.out]; exact hl1
  have hK2 : K ≤ 200 := by rw [← hK.out]; exact hl2
  have hT2 : T ≤ 60 := by rw [← hT.out]; exact ht
  obtain ⟨cb, co, cc, hce, hcb, hcc1, hcc2, hcr⟩ := hcv
  subst hce
  obtain ⟨lp, lc, rfl⟩ : ∃ lp lc, lv = .slice lp T lc := by
    obtain ⟨p, c, e⟩ := hI.form
    rw [show (nI t).length = T from by simp [nI]; exact hT.out] at e
    exact ⟨p, c, e⟩
  have HI := hide hI
  have HIN := hide hin
  have HSS := hide hSS
  have HCR := hide hcr
  have HV := hide hv
  have HTS := hide hts
  obtain ⟨C, hC⟩ : ∃ C, Hid (cs.length = C) := ⟨_, rfl⟩
  rw [hK.out] at HV ⊢
  rw [hT.out]
  rw [hC.out] at hcc1
  have HB0 := hide ((Below.refl w.heap.size w).alloc (Nat.le_refl _) (mbox s n (.slice vp K vc)))
  have hM0 : (w.alloc (mbox s n (.slice vp K vc))).heap[w.heap.size]? = some (mbox s n (.slice vp K vc)) := heap_alloc_new w _
  obtain ⟨d0, d1, d2⟩ := mbox_cells w s n (.slice vp K vc)
  have HRO := hide (rrounds_ok n (w.alloc (mbox s n (.slice vp K vc))) (by omega))
  rw [hC.out]
  clear hI hin hSS hcr hv hts hl1 hl2 ht
  go_enter Tryd.func16, Tryd.ntmps16
  go_wp2_with fail
  refine HRO.out.mono ?_
  rintro e w1 ⟨v1, rfl, hown1, hb1⟩
  obtain ⟨g0, rc0, rfl, _, _, _, _⟩ := owns_form hown1 (by omega)
  have hs1 : w.heap.size + 1 ≤ w1.heap.size := by have := hb1.size; simpa using this
  have hM1 := hide ((hb1.block w.heap.size (by simp)).trans hM0)
  have HB1 := hide (HB0.out.trans (hb1.mono HB0.out.size))
  have hown1' : w1.ownsRow (w.heap.size + 1) 3 1 (.slice (some ⟨g0, 0, none⟩) n rc0) (rnd n).length ((rnd n).map (Value.int .i64)) := by
    rw [rnd_length]
    simpa using hown1
  have HL1 := hide (LL.one (base := w.heap.size + 1) hown1' hs1)
  have HM2 := hide ((Below.heap_alloc w1 (.cells #[.slice (some ⟨g0, 0, none⟩) n rc0] 26) w.heap.size (by omega)).trans hM1.out)
  have HB2 := hide (HB1.out.alloc (by omega) (.cells #[.slice (some ⟨g0, 0, none⟩) n rc0] 26))
  have hs2 : w.heap.size + 1 ≤ (w1.alloc (.cells #[.slice (some ⟨g0, 0, none⟩) n rc0] 26)).heap.size := by simp; omega
  clear hown1 hown1' hb1 hM1 HB1 HRO hM0 d0 d1 d2 HB0
  go_wp2
  go_loopw [7, 8] (fun ov i wr => ∃ (k : Nat) (vs : List Value), k ≤ T ∧ i = .int .i64 k ∧ Hid (LL wr (w.heap.size + 1) ov vs (leadTo n (allOf ts SS (nI (t.take k))) (k * K))) ∧ Hid (wr.heap[w.heap.size]? = some (mbox s n (.slice vp K vc))) ∧ Hid (Below w.heap.size w wr) ∧ w.heap.size + 1 ≤ wr.heap.size) (fun _ i _ => T - (intOf i).toNat)
  case atStart => exact ⟨0, [.slice (some ⟨g0, 0, none⟩) n rc0], by omega, rfl, by rw [List.take_zero, Nat.zero_mul]; exact HL1.out, HM2.out, HB2.out, hs2⟩
  case round =>
    obtain ⟨k, vs, hk, rfl, hL, hM, hbw, hsz⟩ := hrel
    clear HL1 HM2 HB2 hs2
    by_cases hlt : k < T
    · have hkt : k < t.length := by rw [hT.out]; exact hlt
      have hcC : t.getD k 0 < cs.length := HIN.out _ (by simp [List.getD, hkt])
      obtain ⟨hS1, hS2, hS3⟩ := HSS.out _ hcC
      obtain ⟨cu, hcs, hcu, hcI⟩ := HCR.out _ hcC
      rw [hS1] at hcI
      have HN := hide (allOf_snoc ts SS (t.take k) (t.getD k 0))
      rw [← take_snocN hkt] at HN
      have hFl : Hid ((allOf ts SS (nI (t.take k))).length = k * K) := by
        show _ = _
        unfold allOf
        rw [flat_length (K := K) _ (fun g hg => ?_), List.length_map]
        · simp [nI]; rw [hT.out, Nat.min_eq_left (by omega)]
        · obtain ⟨l, hl, rfl⟩ := List.mem_map.1 hg
          unfold nI at hl
          obtain ⟨c, hc, rfl⟩ := List.mem_map.1 hl
          rw [Int.toNat_natCast, ← hK.out]
          exact calledBy_length (HSS.out c (HIN.out c (List.mem_of_mem_take hc))).2.2
      have hFn : ∀ u, u ∈ allOf ts SS (nI (t.take k)) → tsz u = n := fun u hu => by
        unfold allOf at hu
        obtain ⟨l, hl, hu⟩ := List.mem_flatten.1 hu
        obtain ⟨c9, hc9, rfl⟩ := List.mem_map.1 hl
        unfold nI at hc9
        obtain ⟨c, hc, rfl⟩ := List.mem_map.1 hc9
        rw [Int.toNat_natCast] at hu
        exact calledBy_mem HTS.out (HSS.out c (HIN.out c (List.mem_of_mem_take hc))).2.1 u hu
      have hpr := prd_row n (allOf ts SS (nI (t.take k))) hFn
      have hAl := calledBy_length hS3
      have hAn := calledBy_mem HTS.out hS2
      have HMO := hide (leadTo_more n (allOf ts SS (nI (t.take k))) (calledBy ts (SS.getD (t.getD k 0) [])) hFl.out)
      rw [← HN.out, hAl, hK.out, show k * K + K = (k + 1) * K from by rw [Nat.succ_mul]] at HMO
      rw [hK.out] at hAl hS3
      have hlast : (leadTo n (allOf ts SS (nI (t.take k))) (k * K)).getD (k * K) [] = prd n (allOf ts SS (nI (t.take k))) := by rw [leadTo_get (Nat.le_refl _), List.take_of_length_le (by rw [hFl.out]; exact Nat.le_refl _)]
      have hvl : vs.length = k * K + 1 := by rw [hL.out.len, leadTo_length]
      have hat := hL.out.at (k := k * K) (by rw [leadTo_length]; omega)
      rw [hlast, hpr.2] at hat
      have hqb : k * K ≤ 60 * 200 := Nat.mul_le_mul (by omega) hK2
      have hrow := hL.out.row
      rw [hvl] at hrow
      generalize hq9 : k * K = q at *
      have HQ9 := hide hq9
      clear hq9
      obtain ⟨og, oc, rfl, hog1, hog2, hoc1, hoc2⟩ := owns_form hrow (by omega)
      obtain ⟨rg, rc, hrv, hrg1, hrg2, hrc1, hrc2⟩ := owns_form hat (by omega)
      rw [hrv] at hat
      have hcell : wr.cell? ⟨og, q, none⟩ = some (.slice (some ⟨rg, 0, none⟩) n rc) := by
        have := hrow.cells (g := og) rfl (q) (vs.getD (q) undef) (by rw [List.getD_eq_getElem?_getD]; rw [List.getElem?_eq_getElem (by omega)]; rfl)
        rw [Addr.add_lit, Nat.zero_add, hrv] at this
        exact this
      obtain ⟨lb, lo, hlpe, hlc1, hlc2, hlb, hlcell⟩ : ∃ lb lo, lp = some ⟨lb, lo, none⟩ ∧ T ≤ lc ∧ lc ≤ 9223372036854775807 ∧ lb < w.heap.size ∧ w.cell? ⟨lb, lo + k, none⟩ = some (.int .i64 ((t.getD k 0 : Nat) : Int)) := by
        rcases HI.out with ⟨e, _⟩ | ⟨b, off, cap, e, h0, h1', h2', h3', hc⟩
        · exfalso
          have : t = [] := by simpa [nI] using e
          rw [this] at hkt
          simp at hkt
        · injection e with e1 e2 e3
          subst e3
          refine ⟨b, off, e1, by omega, h2', h3', ?_⟩
          rw [hc k (by simp [nI]; exact hkt)]
          simp [nI, List.getD, hkt]
      subst hlpe
      obtain ⟨cp, ccc, rfl⟩ := hcI.len
      obtain ⟨N, hN9⟩ : ∃ N, Hid ((SS.getD (t.getD k 0) []).length = N) := ⟨_, rfl⟩
      rw [List.length_map, hN9.out] at hcI hcu
      obtain ⟨sg, hsg⟩ : ∃ sg, Hid ((cs.getD (t.getD k 0) (0, [])).1 = sg) := ⟨_, rfl⟩
      rw [hsg.out] at hcs
      have HA := hide (fun (W : World) (hW : Below w.heap.size w W) => (⟨HV.out.below hW, hcI.below hW⟩ : IntsAll W (.slice vp K vc) (ts.map tpl) ∧ IntsAll W (.slice cp N ccc) ((SS.getD (t.getD k 0) []).map tpl)))
      have hcS : t.getD k 0 < C := by rw [← hC.out]; exact hcC
      have e0 := (hbw.out.cell (p := ⟨lb, lo + k, none⟩) hlb).trans hlcell
      have e1 := (hbw.out.cell (p := ⟨cb, co + t.getD k 0 * 2, none⟩) hcb).trans hcs
      have e2 := (hbw.out.cell (p := ⟨cb, co + t.getD k 0 * 2 + 1, none⟩) hcb).trans hcu
      have m0 : wr.cell? ⟨w.heap.size, 0, none⟩ = some (.string s) := by unfold World.cell?; rw [hM.out]; rfl
      have m1 : wr.cell? ⟨w.heap.size, 1, none⟩ = some (.int .i64 n) := by unfold World.cell?; rw [hM.out]; rfl
      have m2 : wr.cell? ⟨w.heap.size, 2, none⟩ = some (.slice vp K vc) := by unfold World.cell?; rw [hM.out]; rfl
      have HAT := hide hat
      have HROW := hide hrow
      have HPR := hide hpr
      have HAN := hide hAn
      have HAL := hide hAl
      have HKB : Hid (N ≤ K) := by show _ ≤ _; rw [← hN9.out]; exact hS3
      obtain ⟨A, hA9⟩ : ∃ A, Hid (calledBy ts (SS.getD (t.getD k 0) []) = A) := ⟨_, rfl⟩
      have HJ : Hid (∀ (vs us : List Value) (W : World), vs.length = (ts.map tpl).length → us.length = ((SS.getD (t.getD k 0) []).map tpl).length → (∀ j, j < (ts.map tpl).length → Ints W (vs.getD j undef) ((ts.map tpl).getD j [])) → (∀ j, j < ((SS.getD (t.getD k 0) []).map tpl).length → Ints W (us.getD j undef) (((SS.getD (t.getD k 0) []).map tpl).getD j [])) → (vs.take (K - N) ++ us).length = (A.map tpl).length ∧ ∀ j, j < (A.map tpl).length → Ints W ((vs.take (K - N) ++ us).getD j undef) ((A.map tpl).getD j [])) := by
        intro vs us W hl1 hl2 hi1 hi2
        have hAe : A.map tpl = (ts.map tpl).take (K - N) ++ (SS.getD (t.getD k 0) []).map tpl := by
          rw [← hA9.out]
          unfold calledBy
          rw [List.map_append, List.map_take, hK.out, hN9.out]
        rw [hAe]
        refine ⟨by simp [hl1, hl2], ints_join (by simp [hl1]) (fun j hj => ?_) hi2⟩
        have hj' : j < (ts.map tpl).length := by rw [List.length_take] at hj; omega
        have hj2 : j < K - N := by rw [List.length_take] at hj; omega
        have := hi1 j hj'
        simpa [List.getD, List.getElem?_take, hj2] using this
      rw [hA9.out] at HMO HAN HAL
      clear hat hrow hpr hAn hAl hcs hcu hcI hlcell hS1 hS2 hS3 hlast hFn
      generalize t.getD k 0 = c at *
      go_upto_region 5 with fail
      refine wp_region_held_drew (S := fun W' => W'.cell? ⟨og, q, none⟩ = some (.slice (some ⟨rg, 0, none⟩) n rc) ∧ W'.cell? ⟨w.heap.size, 0, none⟩ = some (.string s) ∧ W'.cell? ⟨w.heap.size, 1, none⟩ = some (.int .i64 n) ∧ W'.cell? ⟨w.heap.size, 2, none⟩ = some (.slice vp K vc) ∧ W'.cell? ⟨lb, lo + k, none⟩ = some (.int .i64 (c : Int)) ∧ W'.cell? ⟨cb, co + c * 2, none⟩ = some (.int .i32 sg) ∧ W'.cell? ⟨cb, co + c * 2 + 1, none⟩ = some (.slice cp N ccc)) (by kernel_rfl) ⟨hcell, m0, m1, m2, e0, e1, e2⟩ (fun hS => ?_)
      refine wpAnyH_take (i := 0) (v := .slice (some ⟨og, 0, none⟩) (q + 1) oc) rfl (by kernel_rfl) (by kernel_rfl) (by kernel_rfl) (fun _ _ _ h => h) (Or.inl ⟨by kernel_rfl, fun w' hS' => by obtain ⟨q0, q1, q2, q3, q4, q5, q6⟩ := hS'; go_simp⟩) hS ?_
      refine wpAnyH_take (i := 1) (v := .slice (some ⟨og, 0, none⟩) (q + 1) oc) rfl (by kernel_rfl) (by kernel_rfl) (by kernel_rfl) (fun _ _ _ h => h) (Or.inl ⟨by kernel_rfl, fun w' hS' => by obtain ⟨q0, q1, q2, q3, q4, q5, q6⟩ := hS'; go_simp⟩) hS ?_
      refine wpAnyH_take (i := 2) (v := .int .i64 ((q + 1 : Nat) : Int)) rfl (by kernel_rfl) (by kernel_rfl) (by kernel_rfl) (fun _ _ _ h => h) (Or.inl ⟨by kernel_rfl, fun w' hS' => by obtain ⟨q0, q1, q2, q3, q4, q5, q6⟩ := hS'; go_simp⟩) hS ?_
      refine wpAnyH_take (i := 3) (v := .int .i64 ((q : Nat) : Int)) rfl (by kernel_rfl) (by kernel_rfl) (by kernel_rfl) (fun _ _ _ h => h) (Or.inl ⟨by kernel_rfl, fun w' hS' => by obtain ⟨q0, q1, q2, q3, q4, q5, q6⟩ := hS'; go_simp; (try (rw [IntKind.wrap_i64]; omega))⟩) hS ?_
      refine wpAnyH_take (i := 4) (v := .pointer (some ⟨og, q, none⟩)) rfl (by kernel_rfl) (by kernel_rfl) (by kernel_rfl) (fun _ _ _ h => h) (Or.inl ⟨by kernel_rfl, fun w' hS' => by obtain ⟨q0, q1, q2, q3, q4, q5, q6⟩ := hS'; go_simp; (try omega)⟩) hS ?_
      refine wpAnyH_take (i := 5) (v := .slice (some ⟨rg, 0, none⟩) n rc) rfl (by kernel_rfl) (by kernel_rfl) (by kernel_rfl) (fun _ _ _ h => h) (Or.inl ⟨by kernel_rfl, fun w' hS' => by obtain ⟨q0, q1, q2, q3, q4, q5, q6⟩ := hS'; go_simp⟩) hS ?_
      refine wpAnyH_take (i := 6) (v := .agg #[.string s, .int .i64 n, .slice vp K vc]) rfl (by kernel_rfl) (by kernel_rfl) (by kernel_rfl) (fun _ _ _ h => h) (Or.inl ⟨by kernel_rfl, fun w' hS' => by obtain ⟨q0, q1, q2, q3, q4, q5, q6⟩ := hS'; go_simp⟩) hS ?_
      refine wpAnyH_take (i := 7) (v := .slice (some ⟨cb, co, none⟩) C cc) rfl (by kernel_rfl) (by kernel_rfl) (by kernel_rfl) (fun _ _ _ h => h) (Or.inl ⟨by kernel_rfl, fun w' hS' => by obtain ⟨q0, q1, q2, q3, q4, q5, q6⟩ := hS'; go_simp⟩) hS ?_
      refine wpAnyH_take (i := 8) (v := .slice (some ⟨lb, lo, none⟩) T lc) rfl (by kernel_rfl) (by kernel_rfl) (by kernel_rfl) (fun _ _ _ h => h) (Or.inl ⟨by kernel_rfl, fun w' hS' => by obtain ⟨q0, q1, q2, q3, q4, q5, q6⟩ := hS'; go_simp⟩) hS ?_
      refine wpAnyH_take (i := 9) (v := .int .i64 (k : Int)) rfl (by kernel_rfl) (by kernel_rfl) (by kernel_rfl) (fun _ _ _ h => h) (Or.inl ⟨by kernel_rfl, fun w' hS' => by obtain ⟨q0, q1, q2, q3, q4, q5, q6⟩ := hS'; go_simp⟩) hS ?_
      refine wpAnyH_take (i := 10) (v := .pointer (some ⟨lb, lo + k, none⟩)) rfl (by kernel_rfl) (by kernel_rfl) (by kernel_rfl) (fun _ _ _ h => h) (Or.inl ⟨by kernel_rfl, fun w' hS' => by obtain ⟨q0, q1, q2, q3, q4, q5, q6⟩ := hS'; go_simp; (try omega)⟩) hS ?_
      refine wpAnyH_take (i := 11) (v := .int .i64 (c : Int)) rfl (by kernel_rfl) (by kernel_rfl) (by kernel_rfl) (fun _ _ _ h => h) (Or.inl ⟨by kernel_rfl, fun w' hS' => by obtain ⟨q0, q1, q2, q3, q4, q5, q6⟩ := hS'; go_simp⟩) hS ?_
      refine wpAnyH_take (i := 12) (v := .pointer (some ⟨cb, co + c * 2, none⟩)) rfl (by kernel_rfl) (by kernel_rfl) (by kernel_rfl) (fun _ _ _ h => h) (Or.inl ⟨by kernel_rfl, fun w' hS' => by obtain ⟨q0, q1, q2, q3, q4, q5, q6⟩ := hS'; go_simp; (try omega)⟩) hS ?_
      refine wpAnyH_take (i := 13) (v := .agg #[.int .i32 sg, .slice cp N ccc]) rfl (by kernel_rfl) (by kernel_rfl) (by kernel_rfl) (fun _ _ _ h => h) (Or.inl ⟨by kernel_rfl, fun w' hS' => by obtain ⟨q0, q1, q2, q3, q4, q5, q6⟩ := hS'; go_simp⟩) hS ?_
      refine wpAnyH_ready (rs := [14]) (by kernel_rfl) (by simp) ?_
      refine AllReadyH.cons rfl (fun K9 hK9 => ?_) AllReadyH.nil
      go_simp
      have hB3 := hbw.out.drew
      obtain ⟨hI1, hI2⟩ := HA.out wr.drew hB3
      obtain ⟨vs1, hV1, hVl1, hVi1⟩ := hI1
      obtain ⟨us1, hU1, hUl1, hUi1⟩ := hI2
      have hc1 : ∀ u ∈ vs1, u.oneCell' = true := vals_cells hVl1 hVi1
      have hc2 : ∀ u ∈ us1, u.oneCell' = true := vals_cells hUl1 hUi1
      refine (rends_ok s n vp K vc sg cp N ccc vs1 us1 wr.drew hV1 hU1 hK1 (by omega) HKB.out hc1 hc2).mono ?_
      rintro e w4 ⟨av, rfl, hav, hb4⟩
      have hs4 := hb4.size
      have hkeep : ∀ g j, g < wr.heap.size → w4.cell? ⟨g, j, none⟩ = wr.cell? ⟨g, j, none⟩ := fun g j hg => hb4.cell (p := ⟨g, j, none⟩) hg
      refine hK9.out _ _ ⟨by rw [hkeep _ _ hog2]; exact hcell, by rw [hkeep _ _ (by omega)]; exact m0, by rw [hkeep _ _ (by omega)]; exact m1, by rw [hkeep _ _ (by omega)]; exact m2, by rw [hkeep _ _ (by have := hbw.out.size; omega)]; exact e0, by rw [hkeep _ _ (by have := hbw.out.size; omega)]; exact e1, by rw [hkeep _ _ (by have := hbw.out.size; omega)]; exact e2⟩ (fun hS => ?_)
      clear hK9
      obtain ⟨hJ1, hJ2⟩ := HJ.out vs1 us1 w4 hVl1 hUl1 (fun j hj => (hVi1 j hj).below hb4) (fun j hj => (hUi1 j hj).below hb4)
      have hAv : IntsAll w4 av (A.map tpl) := by
        refine ⟨_, Vals.own (base := wr.drew.heap.size + 1 + 1) (e := 26) ?_, hJ1, hJ2⟩
        have hll : (vs1.take (K - N) ++ us1).length = K - N + N := by
          rw [List.length_append, List.length_take, vals_len hU1 |>.symm, ← vals_len hV1]
          omega
        rw [hll]
        exact hav
      have hAT4 : w4.ownsRow (w.heap.size + 1) 3 1 (.slice (some ⟨rg, 0, none⟩) n rc) n ((prd n (allOf ts SS (nI (t.take k)))).map (Value.int .i64)) := owns_below HAT.out.drew hb4 (Nat.le_refl _)
      refine wpAnyH_ready (rs := [15]) (by kernel_rfl) (by simp) ?_
      refine AllReadyH.cons rfl (fun K9 hK9 => ?_) AllReadyH.nil
      go_simp
      refine (rfrom_ok (w.heap.size + 1) (.slice (some ⟨rg, 0, none⟩) n rc) (prd n (allOf ts SS (nI (t.take k)))) n av A w4 HPR.out.1 HPR.out.2 h1 h12 hAT4 HAN.out (by rw [HAL.out]; exact hK1) (by rw [HAL.out]; omega) hAv (by have : wr.drew.heap.size = wr.heap.size := rfl; omega)).mono ?_
      rintro e w5 ⟨fv, fs, rfl, hfl, hfo, hb5⟩
      have hkeep5 : ∀ g j, g < wr.heap.size → w5.cell? ⟨g, j, none⟩ = wr.cell? ⟨g, j, none⟩ := fun g j hg => (hb5.cell (p := ⟨g, j, none⟩) (Nat.lt_of_lt_of_le hg hs4)).trans (hkeep g j hg)
      refine hK9.out _ _ ⟨by rw [hkeep5 _ _ hog2]; exact hcell, by rw [hkeep5 _ _ (by omega)]; exact m0, by rw [hkeep5 _ _ (by omega)]; exact m1, by rw [hkeep5 _ _ (by omega)]; exact m2, by rw [hkeep5 _ _ (by have := hbw.out.size; omega)]; exact e0, by rw [hkeep5 _ _ (by have := hbw.out.size; omega)]; exact e1, by rw [hkeep5 _ _ (by have := hbw.out.size; omega)]; exact e2⟩ (fun hS => ?_)
      clear hK9
      refine wpAnyH_take (i := 16) (v := fv) rfl (by kernel_rfl) (by kernel_rfl) (by kernel_rfl) (fun _ _ _ h => h) (Or.inl ⟨by kernel_rfl, fun w' hS' => by obtain ⟨q0, q1, q2, q3, q4, q5, q6⟩ := hS'; go_simp⟩) hS ?_
      refine wpAnyH_done (by kernel_rfl) ?_ _
      have hBr : Below wr.heap.size wr w5 := ((Below.refl _ _).drew.trans hb4).trans (hb5.mono hs4)
      have hs5 : wr.heap.size ≤ w5.heap.size := hBr.size
      have HL5 := hide (hL.out.below hBr)
      have HB5 := hide (hbw.out.trans (hBr.mono hbw.out.size))
      have HM5 := hide ((hBr.block w.heap.size (by omega)).trans hM.out)
      have hfsl : fs.length = K + 1 := by rw [hfl.len, frL_length, HAL.out]
      rw [hfsl] at hfo
      obtain ⟨fg, fc, rfl, hfg1, hfg2, hfc1, hfc2⟩ := owns_form hfo (by omega)
      have HFV := hide (Vals.drop1 (m := K) (Vals.own (by rw [hfsl]; exact hfo)) hK1)
      have HFA := hide (OwnAll.drop 1 hfl.all)
      have HFC := hide (fun u hu => OwnAll.cells hfl.all u (List.mem_of_mem_drop (i := 1) hu))
      have HFL : Hid ((fs.drop 1).length = K) := by show _ = _; rw [List.length_drop, hfsl]; rfl
      have hfne : ¬ fc = 1 := by omega
      clear hS hfl hfo hb5 hb4 hAT4 hAv hJ1 hJ2 hav hBr hL hM hbw hcell m0 m1 m2 e0 e1 e2 hV1 hU1 hVi1 hUi1 hc1 hc2 hkeep hkeep5 HAT HROW hVl1 hUl1 HA HJ
      have hrow5 := HL5.out.row
      rw [hvl] at hrow5
      have HRW := hide hrow5
      clear hrow5
      go_upto_region 6 with fail
      go_wp2_with (at_builtin; refine wpList_append_vals rfl _ _ 22 rfl (w.heap.size + 1) 26 i0 (.slice none 0 0) 24 Tryd.underlying22 hi hz0 hz1 hz2 rfl (.slice (some ⟨og, 0, none⟩) (q + 1) oc) (q + 1) vs rfl HRW.out (.slice (some ⟨fg, 1, none⟩) K (fc - 1)) (fs.drop 1) rfl HFV.out HFC.out ?a1 ?a2 ?a3 ?_)
      case a1 => rw [HFL.out]; unfold maxLen; omega
      case a2 => rw [HFL.out]; omega
      case a3 => omega
      intro v6 w6 hown6 hg6
      have HL6 : Hid (LL w6 (w.heap.size + 1) v6 (vs ++ fs.drop 1) (leadTo n (allOf ts SS (nI (t.take (k + 1)))) ((k + 1) * K))) := by
        rw [HMO.out]
        refine ⟨by rw [List.length_append, hvl, HFL.out, List.drop_one]; exact hown6, ?_⟩
        have hkp : ∀ (u : Value) (n' : Nat) (ys : List Value), w5.ownsRow (w.heap.size + 1) 3 1 u n' ys → w6.ownsRow (w.heap.size + 1) 3 1 u n' ys := fun u n' ys h => owns_kept_ty h HRW.out hg6
        exact OwnAll.join (by rw [← HAL.out]; exact HFA.out.mono (fun _ _ _ h => hkp _ _ _ h)) (HL5.out.all.mono (fun _ _ _ h => hkp _ _ _ h))
      have hogt : ∀ g, (Value.slice (some ⟨og, 0, none⟩) (q + 1) oc).ownBlock = some g → w.heap.size + 1 ≤ g := fun g e => (HRW.out.lt g e).1
      have HB6 := hide (HB5.out.grown hg6 (by omega) (fun g e => by have := hogt g e; omega))
      have HM6 := hide ((hg6.block w.heap.size (by omega) (fun e => by have := hogt _ e.symm; omega)).trans HM5.out)
      have hs6 := hg6.size
      clear hown6 hg6 HL5 HB5 HM5 HFV HFA HFC HRW HMO
      go_wp2
      go_roundw
      case rel => exact ⟨k + 1, _, by omega, by go_num, HL6, HM6, HB6, by omega⟩
      case measure => simp [intOf]; omega
    · obtain rfl : k = T := by omega
      have htk : t.take k = t := List.take_of_length_le (by rw [hT.out]; omega)
      rw [htk] at hL
      have HLL := hide (hL.out.low (Nat.le_succ _))
      clear hL
      go_wp2
      go_ret
      exact ⟨_, vs, rfl, HLL.out, hbw.out⟩

end Go.Proofs.YtenpkhalgkodbaaDoor

/- Plain: what the answer's calls are; the leads of a touch differ in their last change alone. -/
namespace Go.Proofs.YtenpkhalgkodbaaDoor
open Go.RowKit

theorem ceCalls_get {es : List Ce} {k : Nat} (hk : k < es.length) : (ceCalls es).getD k (0, []) = (es[k].sign, es[k].chs) := by
  simp [ceCalls, List.getD, hk]

theorem Cok.callsOk {n K : Nat} {w : World} {base : Nat} {es : List Ce} (h : Cok n w base es) (hm : es.length ≤ 8) (hK : 1 ≤ K) : CallsOk n K (ceCalls es) := by
  have hl : (ceCalls es).length = es.length := by simp [ceCalls]
  have hsg : ∀ k (hk : k < es.length), es[k].sign = sgnOf k := fun k hk => by
    have := h.sign k hk
    rwa [List.getD_eq_getElem?_getD, List.getElem?_eq_getElem hk, Option.getD_some] at this
  refine ⟨fun j hj => ?_, fun i j hij hj => ?_, fun j hj => ?_, fun j hj q hq => ?_⟩
  · rw [hl] at hj
    rw [ceCalls_get hj]
    show sgnR es[j].sign = true
    rw [hsg j hj]; refine sgn_letter ?_; unfold sgnOf; split <;> omega
  · rw [hl] at hj
    rw [ceCalls_get hj, ceCalls_get (show i < es.length by omega)]
    show es[i].sign ≠ es[j].sign
    rw [hsg j hj, hsg i (by omega)]; unfold sgnOf; split <;> split <;> omega
  · rw [hl] at hj
    rw [ceCalls_get hj]
    exact Nat.le_trans (h.few _ (List.getElem_mem hj)) hK
  · rw [hl] at hj
    rw [ceCalls_get hj] at hq ⊢
    exact h.ok _ (List.getElem_mem hj) q hq

theorem tiles_of {n : Nat} : ∀ (X : List (List Int)), (∀ j, j < X.length → okc n 0 (X.getD j []) = true) → ∃ ss : List (List Bool), X = ss.map tpl ∧ ∀ t, t ∈ ss → tsz t = n
  | [], _ => ⟨[], rfl, fun t ht => by cases ht⟩
  | x :: X, h => by
    obtain ⟨t, ht1, ht2⟩ := (okc_iff n x).1 (h 0 (by simp))
    obtain ⟨ss, hs, hn⟩ := tiles_of X (fun j hj => by have := h (j + 1) (by simp; omega); simpa [List.getD] using this)
    refine ⟨t :: ss, by rw [List.map_cons, ht2, ← hs], fun t' h' => ?_⟩
    rcases List.mem_cons.1 h' with e | e
    · rw [e]; exact ht1
    · exact hn t' e

theorem tiles_all {n : Nat} : ∀ (es : List Ce), (∀ e, e ∈ es → ∀ j, j < e.chs.length → okc n 0 (e.chs.getD j []) = true) → ∃ SS : List (List (List Bool)), SS.length = es.length ∧ ∀ c (hc : c < es.length), es[c].chs = (SS.getD c []).map tpl ∧ ∀ t, t ∈ SS.getD c [] → tsz t = n
  | [], _ => ⟨[], rfl, fun c hc => by simp at hc⟩
  | e :: es, h => by
    obtain ⟨ss, h1, h2⟩ := tiles_of e.chs (h e (by simp))
    obtain ⟨SS, h3, h4⟩ := tiles_all es (fun e' h' => h e' (List.mem_cons_of_mem _ h'))
    refine ⟨ss :: SS, by simp [h3], fun c hc => ?_⟩
    cases c with
    | zero => exact ⟨h1, h2⟩
    | succ c => exact h4 c (by simpa using hc)

theorem Cok.tiles {n : Nat} {w : World} {base : Nat} {es : List Ce} (h : Cok n w base es) : ∃ SS : List (List (List Bool)), ∀ c, c < es.length → ((ceCalls es).getD c (0, [])).2 = (SS.getD c []).map tpl ∧ (∀ t, t ∈ SS.getD c [] → tsz t = n) ∧ (SS.getD c []).length ≤ 1 := by
  obtain ⟨SS, _, h2⟩ := tiles_all es h.ok
  refine ⟨SS, fun c hc => ?_⟩
  obtain ⟨h3, h4⟩ := h2 c hc
  rw [ceCalls_get hc]
  refine ⟨h3, h4, ?_⟩
  have := h.few _ (List.getElem_mem hc)
  rw [h3, List.length_map] at this
  exact this

theorem calledBy_take {ts ss : List (List Bool)} (h : ss.length ≤ 1) {q : Nat} (hq : q < ts.length) : (calledBy ts ss).take q = ts.take q := by
  unfold calledBy
  rw [List.take_append_of_le_length (by rw [List.length_take]; omega), List.take_take, Nat.min_eq_left (by omega)]

/-- The rows of a touch by calls that have at most one change, where they are called. -/
theorem touch_used {n : Nat} {ts : List (List Bool)} {SS : List (List (List Bool))} {ls : List Int} (hl1 : 1 ≤ ts.length) (hts : ∀ t, t ∈ ts → tsz t = n) (hS : ∀ l, l ∈ ls → (∀ t, t ∈ SS.getD l.toNat [] → tsz t = n) ∧ (SS.getD l.toNat []).length ≤ 1) :
    (leadTo n (allOf ts SS ls) (ls.length * ts.length)).take (ls.length * ts.length) = touchRows (headsOf (leadTo n (allOf ts SS ls) (ls.length * ts.length)) ts.length ls.length) (ldr n ts) ∧ ∀ t, t ∈ allOf ts SS ls → tsz t = n := by
  have hG : ∀ g, g ∈ ls.map (fun l => calledBy ts (SS.getD l.toNat [])) → g.length = ts.length := by
    intro g hg
    obtain ⟨l, hl, rfl⟩ := List.mem_map.1 hg
    exact calledBy_length (Nat.le_trans (hS l hl).2 hl1)
  have hFn : ∀ t, t ∈ allOf ts SS ls → tsz t = n := by
    intro t ht
    obtain ⟨g, hg, htg⟩ := List.mem_flatten.1 ht
    obtain ⟨l, hl, rfl⟩ := List.mem_map.1 hg
    exact calledBy_mem hts (hS l hl).1 t htg
  refine ⟨touch_rows (N := ls.length) hl1 rfl (by unfold allOf; rw [flat_length _ hG, List.length_map]) hFn hts (fun m' q hm hq => ?_) ls.length (Nat.le_refl _), hFn⟩
  unfold allOf
  rw [flat_drop _ m' hG (by rw [List.length_map]; exact hm), List.getElem_map]
  have h1 := (hS ls[m'] (List.getElem_mem hm)).2
  rw [List.take_append_of_le_length (by rw [calledBy_length (Nat.le_trans h1 hl1)]; omega)]
  exact calledBy_take h1 hq

/-- The rows of a touch by calls of at most one change. -/
theorem touch_all {n m : Nat} {ts : List (List Bool)} {SS : List (List (List Bool))} {ls : List Int} (hl1 : 1 ≤ ts.length) (hts : ∀ t, t ∈ ts → tsz t = n) (hin : ∀ l, l ∈ ls → 0 ≤ l ∧ l < (m : Int)) (hS : ∀ c, c < m → (∀ t, t ∈ SS.getD c [] → tsz t = n) ∧ (SS.getD c []).length ≤ 1) :
    (leadTo n (allOf ts SS ls) (ls.length * ts.length)).take (ls.length * ts.length) = touchRows (headsOf (leadTo n (allOf ts SS ls) (ls.length * ts.length)) ts.length ls.length) (ldr n ts) ∧ ∀ t, t ∈ allOf ts SS ls → tsz t = n :=
  touch_used hl1 hts (fun l hl => hS l.toNat (by have := hin l hl; omega))

/-- The changes of a touch are of so many bells. -/
theorem allOf_size {n : Nat} {ts : List (List Bool)} {SS : List (List (List Bool))} {ls : List Int} (hts : ∀ t, t ∈ ts → tsz t = n) (hS : ∀ l, l ∈ ls → ∀ t, t ∈ SS.getD l.toNat [] → tsz t = n) : ∀ t, t ∈ allOf ts SS ls → tsz t = n := by
  intro t ht
  obtain ⟨g, hg, htg⟩ := List.mem_flatten.1 ht
  obtain ⟨l, hl, rfl⟩ := List.mem_map.1 hg
  exact calledBy_mem hts (hS l hl) t htg

end Go.Proofs.YtenpkhalgkodbaaDoor

/- Contract: truth.Prove, over what call.Rows tells. -/
namespace Go.Proofs.YtenpkhalgkodbaaDoor
open Go.RowKit

def ProvePost (L : Nat) (T : List (List Int)) (w : World) (e : Ending) (w' : World) : Prop :=
  ∃ (r t : Bool) (i j : Int), e = .returned (.tuple #[.agg #[.int .i64 L, .bool r, .bool t, .int .i64 i, .int .i64 j], .int .i64 0]) ∧ (t = true ↔ (T.take L).Nodup) ∧ r = decide (T.getD L [] = T.getD 0 []) ∧ Below w.heap.size w w'

theorem cells5 {w1 : World} {B : Nat} {a b c d e : Value} {t : TypeId} (h : w1.heap[B]? = some (.cells #[a, b, c, d, e] t)) :
    w1.cell? ⟨B, 0, none⟩ = some a ∧ w1.cell? ⟨B, 1, none⟩ = some b ∧ w1.cell? ⟨B, 2, none⟩ = some c ∧ w1.cell? ⟨B, 3, none⟩ = some d ∧ w1.cell? ⟨B, 4, none⟩ = some e ∧ w1.frozen? ⟨B, 0, none⟩ = false ∧ w1.frozen? ⟨B, 1, none⟩ = false ∧ w1.frozen? ⟨B, 2, none⟩ = false ∧ w1.frozen? ⟨B, 3, none⟩ = false ∧ w1.frozen? ⟨B, 4, none⟩ = false := by
  simp [World.cell?, World.frozen?, h]

end Go.Proofs.YtenpkhalgkodbaaDoor

/- Contracts: method.Head, courseFits, method.Course, MethodOf. -/
namespace Go.Proofs.YtenpkhalgkodbaaDoor
open Go.RowKit

/-- The first rows of a course. -/
def crs (n : Nat) (ts : List (List Bool)) (c : Nat) : List (List Int) := (List.range c).map (fun i => by_ (pw (prd n ts) (i / ts.length)) (prd n (ts.take (i % ts.length))))

theorem crs_snoc (n : Nat) (ts : List (List Bool)) (a b : Nat) (hb : b < ts.length) : crs n ts (a * ts.length + b + 1) = crs n ts (a * ts.length + b) ++ [by_ (pw (prd n ts) a) (prd n (ts.take b))] := by
  unfold crs
  rw [List.range_succ, List.map_append]
  have h1 : (a * ts.length + b) / ts.length = a := by
    rw [Nat.mul_comm, Nat.mul_add_div (by omega), Nat.div_eq_of_lt hb, Nat.add_zero]
  have h2 : (a * ts.length + b) % ts.length = b := by
    rw [Nat.mul_comm, Nat.mul_add_mod, Nat.mod_eq_of_lt hb]
  simp only [List.map_cons, List.map_nil, h1, h2]

theorem crs_length (n : Nat) (ts : List (List Bool)) (c : Nat) : (crs n ts c).length = c := by simp [crs]

theorem crs_get {n c i : Nat} {ts : List (List Bool)} (h : i < c) : (crs n ts c).getD i [] = by_ (pw (prd n ts) (i / ts.length)) (prd n (ts.take (i % ts.length))) := by simp [crs, List.getD, h]

theorem pw_zero (r : List Int) : pw r 0 = rnd r.length := by unfold pw rnd; rfl

/-- What the loops of Course know. -/
structure CrsRel (w3 wr : World) (n : Nat) (ts : List (List Bool)) (a b : Nat) (f u : Value) (vs : List Value) : Prop where
  ll : LL wr w3.heap.size u vs (crs n ts (a * ts.length + b))
  row : wr.ownsRow w3.heap.size 3 1 f n ((pw (prd n ts) a).map (Value.int .i64))
  below : Below w3.heap.size w3 wr

end Go.Proofs.YtenpkhalgkodbaaDoor

/- Contract: MethodOf. -/
namespace Go.Proofs.YtenpkhalgkodbaaDoor
open Go.RowKit

theorem tried_name : nm ⟨#[84, 114, 105, 101, 100]⟩ = true := by decide +kernel

theorem cells3 {w1 : World} {B : Nat} {a b c : Value} {t : TypeId} (h : w1.heap[B]? = some (.cells #[a, b, c] t)) :
    w1.cell? ⟨B, 0, none⟩ = some a ∧ w1.cell? ⟨B, 1, none⟩ = some b ∧ w1.cell? ⟨B, 2, none⟩ = some c ∧ w1.frozen? ⟨B, 0, none⟩ = false ∧ w1.frozen? ⟨B, 1, none⟩ = false ∧ w1.frozen? ⟨B, 2, none⟩ = false := by
  simp [World.cell?, World.frozen?, h]

theorem LL.set {w : World} {base b j : Nat} {v x : Value} {vs : List Value} {xss : List (List Int)} (h : LL w base v vs xss) (hb : b < base) : LL (w.setCell ⟨b, j, none⟩ x) base v vs xss :=
  ⟨ownsRow_setCell_below h.row (by exact hb) _, h.all.mono (fun _ _ _ h' => ownsRow_setCell_below h' (by exact hb) _)⟩

set_option maxRecDepth 20000 in
set_option maxHeartbeats 2000000 in
theorem methodOf_ok (v : Value) (xs : List Int) (n m : Nat) (w : World) (h : Ints w v xs) (hx : ∀ x, x ∈ xs → I64 x) (h1 : 1 ≤ n) (h12 : n ≤ 12) (hm : m ≤ 1000) :
    Calls Tryd.prog 18 #[v, .int .i64 n, .int .i64 m] w fun e w' => ∃ (u : Value) (vs : List Value) (ts : List (List Bool)), e = .returned (.agg #[.string ⟨#[84, 114, 105, 101, 100]⟩, .int .i64 n, u]) ∧ ts.length = m ∧ (∀ t, t ∈ ts → tsz t = n) ∧ LL w' (w.heap.size + 1) u vs (ts.map tpl) ∧ Below w.heap.size w w' := by
  have HC := hide (fun W (hb : Below w.heap.size w W) => changesOf_ok v xs 3 n m W (h.below hb) hx (by omega) h1 h12 hm)
  clear h hx
  go_enter Tryd.func18, Tryd.ntmps18
  go_wp2_with fail
  refine (HC.out _ ((Below.refl _ _).alloc (Nat.le_refl _) _)).mono ?_
  rintro e w1 ⟨u, vs, ts, rfl, hl, hts, hL, hb1⟩
  have hblk0 := (hb1.block w.heap.size (by simp)).trans (heap_alloc_new w _)
  obtain ⟨z0, z1, z2, f0, f1, f2⟩ := cells3 (w1 := w1) (B := w.heap.size) hblk0
  obtain ⟨up, uc, rfl⟩ := owns_slice hL.row
  have HBK : Hid ((((w1.setCell ⟨w.heap.size, 0, none⟩ (.string ⟨#[84, 114, 105, 101, 100]⟩)).setCell ⟨w.heap.size, 1, none⟩ (.int .i64 n)).setCell ⟨w.heap.size, 2, none⟩ (.slice up vs.length uc)).heap[w.heap.size]? = some (.cells #[.string ⟨#[84, 114, 105, 101, 100]⟩, .int .i64 n, .slice up vs.length uc] 24)) := by
    show _ = _
    simp [World.setCell, Array.getElem?_modify, hblk0]
  clear hblk0
  have HT := hide hts
  have HL := hide hL
  have HLE := hide hl
  clear hts hL hl HC
  have hB : Below w.heap.size w w1 := ((Below.refl _ _).alloc (Nat.le_refl _) _).trans (hb1.mono (by simp))
  have HLL := hide (HL.out.low (show w.heap.size + 1 ≤ _ by simp))
  clear HL
  go_wp2
  refine bodyPost_ret (results_cell_row (p := 6) (ty := 24) rfl _ _ w.heap.size 24 _ _ _ rfl HBK.out Tryd.underlying24 rfl (by kernel_rfl)) rfl ?_
  exact ⟨_, vs, ts, rfl, HLE.out, HT.out, ((HLL.out.set (Nat.lt_succ_self _)).set (Nat.lt_succ_self _)).set (Nat.lt_succ_self _), ((hB.setCell (Nat.le_refl _) _).setCell (Nat.le_refl _) _).setCell (Nat.le_refl _) _⟩

end Go.Proofs.YtenpkhalgkodbaaDoor

/- Rows of a lead are rows. -/
namespace Go.Proofs.YtenpkhalgkodbaaDoor
open Go.RowKit

theorem leadTo_rows {n k : Nat} {F : List (List Bool)} (h : ∀ t, t ∈ F → tsz t = n) : ∀ r, r ∈ leadTo n F k → Rw n r := by
  intro r hr
  obtain ⟨j, _, rfl⟩ := List.mem_map.1 hr
  have := prd_row n (F.take j) (fun t ht => h t (List.mem_of_mem_take ht))
  exact ⟨this.1, this.2⟩

end Go.Proofs.YtenpkhalgkodbaaDoor

/- A touch that may be: its rows on both sides. -/
namespace Go.Proofs.YtenpkhalgkodbaaDoor
open Go.RowKit
set_option maxRecDepth 20000
set_option linter.unusedVariables false

/-- A touch that may be, in memory. -/
structure Tch (W : World) (s : ByteArray) (n : Nat) (vp : Option Addr) (vc : Nat) (ts : List (List Bool)) (cv : Value) (cs : List (Int × List (List Int))) (SS : List (List (List Bool))) (lp : Option Addr) (lc : Nat) (t : List Nat) : Prop where
  size : s.size ≤ 1048576
  nam : nm s = true
  isn : isN (arunes s) = true
  n1 : 2 ≤ n
  n2 : n ≤ 12
  l1 : 1 ≤ ts.length
  l2 : ts.length ≤ 200
  tz : ∀ t, t ∈ ts → tsz t = n
  val : IntsAll W (.slice vp ts.length vc) (ts.map tpl)
  cat : CallsAt W cv cs
  cok : CallsOk n ts.length cs
  c1 : 1 ≤ cs.length
  c2 : cs.length ≤ 8
  css : ∀ c, c < cs.length → (cs.getD c (0, [])).2 = (SS.getD c []).map tpl ∧ (∀ t, t ∈ SS.getD c [] → tsz t = n) ∧ (SS.getD c []).length ≤ ts.length
  lat : Ints W (.slice lp t.length lc) (nI t)
  t1 : 1 ≤ t.length
  t2 : t.length ≤ 60
  tin : ∀ c, c ∈ t → c < cs.length
  mul : t.length * ts.length ≤ 20000

variable {W : World} {s : ByteArray} {n : Nat} {vp : Option Addr} {vc : Nat} {ts : List (List Bool)} {cv : Value} {cs : List (Int × List (List Int))} {SS : List (List (List Bool))} {lp : Option Addr} {lc : Nat} {t : List Nat}

theorem Tch.below {W' : World} (h : Tch W s n vp vc ts cv cs SS lp lc t) (hb : Below W.heap.size W W') : Tch W' s n vp vc ts cv cs SS lp lc t :=
  { h with val := h.val.below hb, cat := h.cat.below hb, lat := h.lat.below hb }

/-- All its rows. -/
def tRow (n : Nat) (ts : List (List Bool)) (SS : List (List (List Bool))) (t : List Nat) : List (List Int) := leadTo n (allOf ts SS (nI t)) (t.length * ts.length)

theorem Tch.nin (h : Tch W s n vp vc ts cv cs SS lp lc t) : ∀ l, l ∈ nI t → 0 ≤ l ∧ l < (cs.length : Int) := by
  intro l hl
  obtain ⟨c, hc, rfl⟩ := List.mem_map.1 (show l ∈ t.map _ from hl)
  have := h.tin c hc
  constructor <;> omega

theorem Tch.sz (h : Tch W s n vp vc ts cv cs SS lp lc t) : ∀ u, u ∈ allOf ts SS (nI t) → tsz u = n :=
  allOf_size h.tz (fun l hl => (h.css l.toNat (by have := h.nin l hl; omega)).2.1)

theorem tRow_length (n : Nat) (ts : List (List Bool)) (SS : List (List (List Bool))) (t : List Nat) : (tRow n ts SS t).length = t.length * ts.length + 1 := leadTo_length _ _ _

theorem Tch.rws (h : Tch W s n vp vc ts cv cs SS lp lc t) : ∀ r, r ∈ tRow n ts SS t → Rw n r := leadTo_rows h.sz

theorem Tch.one (h : Tch W s n vp vc ts cv cs SS lp lc t) : 1 ≤ t.length * ts.length := Nat.mul_le_mul h.t1 h.l1

theorem Tch.rows (h : Tch W s n vp vc ts cv cs SS lp lc t) : Calls Tryd.prog 13 #[meth s n (.slice vp ts.length vc), cv, .slice lp t.length lc] W (RowsPost (tRow n ts SS t) W) := by
  have h9 := crows_ok s n vp vc ts cv cs SS (.slice lp t.length lc) (nI t) W (Nat.le_trans h.size (by omega)) h.nam h.n1 h.n2 h.l1 h.l2 h.tz h.val h.cat h.cok h.c1 h.c2 h.css h.lat (by rw [nI_len]; exact h.t1) (by rw [nI_len]; have := h.t2; omega) h.nin (by rw [nI_len]; exact h.mul)
  rw [nI_len] at h9
  exact h9

theorem Tch.rrows (h : Tch W s n vp vc ts cv cs SS lp lc t) : Calls Tryd.prog 16 #[.agg #[.string s, .int .i64 n, .slice vp ts.length vc], cv, .slice lp t.length lc] W (TRPost (tRow n ts SS t) W) :=
  rtouch_ok s n vp vc ts cv cs SS _ t W (by have := h.n1; omega) h.n2 h.l1 h.l2 h.tz h.val h.cat h.css h.lat h.t2 h.tin

theorem Tch.may (h : Tch W s n vp vc ts cv cs SS lp lc t) : Calls Tryd.prog 12 #[.agg #[.string s, .int .i64 n, .slice vp ts.length vc], cv, .slice lp t.length lc] W fun e w' => e = .returned (.int .i64 0) ∧ Below W.heap.size W w' := by
  have h9 := rtmay_ok s n vp vc (ts.map tpl) cv cs (.slice lp t.length lc) t W h.size h.isn h.n1 h.n2 (by rw [List.length_map]; exact h.l1) (by rw [List.length_map]; exact h.l2) (by rw [List.length_map]; exact h.val) (fun k hk => tile_ok h.tz hk) h.cat (by rw [List.length_map]; exact h.cok) h.c1 h.c2 h.lat h.t1 (by have := h.t2; omega) h.tin (by rw [List.length_map]; exact h.mul)
  rw [List.length_map] at h9
  exact h9

theorem Tch.mmay (h : Tch W s n vp vc ts cv cs SS lp lc t) : Calls Tryd.prog 27 #[.agg #[.string s, .int .i64 n, .slice vp ts.length vc]] W fun e w' => e = .returned (.int .i64 0) ∧ Below W.heap.size W w' := by
  have h9 := rmay_ok s n vp vc (ts.map tpl) W h.size h.isn h.n1 h.n2 (by rw [List.length_map]; exact h.l1) (by rw [List.length_map]; exact h.l2) (by rw [List.length_map]; exact h.val) (fun x hx => by
    obtain ⟨j, hj, e⟩ := List.getElem_of_mem hx
    have := tile_ok h.tz hj
    rw [List.getD_eq_getElem?_getD, List.getElem?_eq_getElem hj, Option.getD_some, e] at this
    exact pc_ok (by have := h.n1; omega) h.n2 this)
  rw [List.length_map] at h9
  exact h9

end Go.Proofs.YtenpkhalgkodbaaDoor
