/- Joined: SbW, TtB, Srt, SrtB, SrtC, TrF. -/
import Derived.Test.YtoiiadiimfohiaaJ12
import Derived.Test.YtoiiadiimfohiaaJ11
import Derived.Test.YtoiiadiimfohiaaJ8
import Derived.Test.YtoiiadiimfohiaaJ9
import Derived.Test.YtoiiadiimfohiaaJ0
import Derived.Shelf.SlSortCmp.Whole1
import Derived.Test.YtoiiadiimfohiaaJ7
import Derived.Shelf.SlSortCmp.NoneTotal
/- Contract: the answer's False. -/
namespace Go.Proofs.Ytoiiadiimfohiaa
open Go.RowKit Go.Maps
set_option maxRecDepth 20000
set_option linter.unusedVariables false

/-- Values and what they read as. -/
structure VL (w : World) (us : List Value) (X : List (List Int)) : Prop where
  len : us.length = X.length
  at_ : ∀ j, j < X.length → Ints w (us.getD j undef) (X.getD j [])

theorem VL.nil (w : World) : VL w [] [] := ⟨rfl, fun j hj => absurd hj (by simp)⟩

theorem VL.push {w : World} {us : List Value} {X : List (List Int)} {u : Value} {x : List Int} (h : VL w us X) (hu : Ints w u x) : VL w (us ++ [u]) (X ++ [x]) := by
  refine ⟨by rw [List.length_append, List.length_append, h.len]; rfl, ints_join h.len h.at_ (fun j hj => ?_)⟩
  have : j = 0 := by simp at hj; exact hj
  subst this
  exact hu

def RFPost (n : Nat) (L : List (List Int)) (w : World) (e : Ending) (w' : World) : Prop :=
  ∃ u X t, e = .returned (.tuple #[u, .bool t]) ∧ IntsAll w' u X ∧ (t = false ↔ L.Nodup) ∧ X.Pairwise (fun a b => blw a b = true) ∧ (∀ h, h ∈ X ↔ h ∈ pr L ∧ h ≠ rnd n) ∧ Below w.heap.size w w'

/-- What both loops know. -/
structure RFRel (n : Nat) (L : List (List Int)) (w1 wr : World) (hd : Value) (vs : List Value) (t : Bool) (m : Nat) : Prop where
  ll : LL wr w1.heap.size hd vs (gth n L m)
  sf : Sf L m t
  below : Below w1.heap.size w1 wr

theorem RFRel.later {n : Nat} {L : List (List Int)} {w1 wr w' : World} {hd : Value} {vs : List Value} {t : Bool} {m : Nat} (h : RFRel n L w1 wr hd vs t m) (hb : Below wr.heap.size wr w') : RFRel n L w1 w' hd vs t m :=
  ⟨h.ll.below hb, h.sf, h.below.trans (hb.mono h.below.size)⟩

theorem pairs_of {w : World} {base : Nat} : ∀ {vs : List Value} {X : List (List Int)}, OwnAll w base vs X → ∃ P : List (Value × List Int), P.map Prod.fst = vs ∧ P.map Prod.snd = X ∧ ∀ p, p ∈ P → Ints w p.1 p.2
  | [], [], _ => ⟨[], rfl, rfl, fun p hp => by cases hp⟩
  | [], _ :: _, h => h.elim
  | _ :: _, [], h => h.elim
  | v :: vs, x :: X, h => by
    obtain ⟨P, h1, h2, h3⟩ := pairs_of h.2
    refine ⟨(v, x) :: P, by rw [List.map_cons, h1], by rw [List.map_cons, h2], fun p hp => ?_⟩
    rcases List.mem_cons.1 hp with rfl | hp
    · exact Ints.own h.1
    · exact h3 p hp

theorem nubTo_len (X : List (List Int)) : ∀ k, (nubTo X k).length ≤ k
  | 0 => Nat.le_refl _
  | k + 1 => by
    have := nubTo_len X k
    rw [nubTo]
    split
    · rw [List.length_append]; simp; omega
    · omega

theorem gth_rows {n : Nat} {L : List (List Int)} (hL : ∀ r, r ∈ L → Rw n r) {m : Nat} : ∀ x, x ∈ gth n L m → Rw n x := by
  intro x hx
  unfold gth at hx
  have h1 := List.mem_of_mem_take (List.mem_filter.1 hx).1
  exact pr_rows hL x (prA_mem.1 h1)

def NubRel (X : List (List Int)) (w6 wr : World) (base : Nat) (hd : Value) (us : List Value) (W0 : World) (k : Nat) : Prop :=
  wr.ownsRow base 26 1 hd us.length us ∧ VL W0 us (nubTo X k) ∧ Below w6.heap.size w6 wr

set_option maxHeartbeats 8000000 in
theorem rfalse_ok (s : ByteArray) (n : Nat) (vp : Option Addr) (vc : Nat) (ts : List (List Bool)) (w : World) (h1 : 2 ≤ n) (h12 : n ≤ 12) (hl1 : 1 ≤ ts.length) (hl2 : ts.length ≤ 200) (hts : ∀ t, t ∈ ts → tsz t = n) (hv : IntsAll w (.slice vp ts.length vc) (ts.map tpl)) :
    Calls Try.prog 13 #[.agg #[.string s, .int .i64 n, .slice vp ts.length vc]] w (RFPost n (ldr n ts) w) := by
  obtain ⟨j0, hj, hq0, hq1, hq2⟩ := info_parts Try.info26
  have HRW := hide (ldr_rows hts)
  have HRL := hide (ldr_length n ts)
  have HFL : Hid (frL (rnd n) ts ts.length = leadTo n ts ts.length) := by
    show _ = _
    unfold frL leadTo
    rfl
  have HTS := hide hts
  have HV := hide hv
  have HB0 := hide ((Below.refl w.heap.size w).alloc (Nat.le_refl _) (mbox s n (.slice vp ts.length vc)))
  obtain ⟨d0, d1, d2⟩ := mbox_cells w s n (.slice vp ts.length vc)
  obtain ⟨K, hK⟩ : ∃ K, Hid (ts.length = K) := ⟨_, rfl⟩
  have HRO := hide (fun W => rrounds_ok n W (by omega))
  rw [hK.out] at hl1 hl2 d1 d2 HB0 ⊢
  rw [hK.out] at HV
  rw [hK.out] at HRL
  have hs0 : w.heap.size < (w.alloc (mbox s n (.slice vp K vc))).heap.size := by simp
  clear hts hv
  go_enter Try.func13, Try.ntmps13
  go_upto_region 1 with fail
  change Code.wp _ _ _ _ (w.alloc (mbox s n (.slice vp K vc)))
  generalize w.alloc (mbox s n (.slice vp K vc)) = wA at *
  refine wp_region_held_drew (S := fun W' => W'.cell? ⟨w.heap.size, 1, none⟩ = some (.int .i64 n) ∧ W'.cell? ⟨w.heap.size, 2, none⟩ = some (.slice vp K vc)) (by kernel_rfl) ⟨d1, d2⟩ (fun hS => ?_)
  refine wpAnyH_take (i := 0) (v := .pointer (some ⟨w.heap.size, 1, none⟩)) rfl (by kernel_rfl) (by kernel_rfl) (by kernel_rfl) (fun _ _ _ h => h) (Or.inl ⟨by kernel_rfl, fun w' hS' => by obtain ⟨q0, q1⟩ := hS'; go_simp⟩) hS ?_
  refine wpAnyH_take (i := 1) (v := .int .i64 n) rfl (by kernel_rfl) (by kernel_rfl) (by kernel_rfl) (fun _ _ _ h => h) (Or.inl ⟨by kernel_rfl, fun w' hS' => by obtain ⟨q0, q1⟩ := hS'; go_simp⟩) hS ?_
  refine wpAnyH_take (i := 3) (v := .pointer (some ⟨w.heap.size, 2, none⟩)) rfl (by kernel_rfl) (by kernel_rfl) (by kernel_rfl) (fun _ _ _ h => h) (Or.inl ⟨by kernel_rfl, fun w' hS' => by obtain ⟨q0, q1⟩ := hS'; go_simp⟩) hS ?_
  refine wpAnyH_take (i := 4) (v := .slice vp K vc) rfl (by kernel_rfl) (by kernel_rfl) (by kernel_rfl) (fun _ _ _ h => h) (Or.inl ⟨by kernel_rfl, fun w' hS' => by obtain ⟨q0, q1⟩ := hS'; go_simp⟩) hS ?_
  refine wpAnyH_ready (rs := [2]) (by kernel_rfl) (by simp) ?_
  refine AllReadyH.cons rfl (fun K9 hK9 => ?_) AllReadyH.nil
  go_simp
  refine (HRO.out wA.drew).mono ?_
  rintro e w1 ⟨rv, rfl, hrv, hb1⟩
  have hbA1 : Below wA.heap.size wA w1 := (Below.refl _ _).drew.trans hb1
  have hc1 : ∀ j, w1.cell? ⟨w.heap.size, j, none⟩ = wA.cell? ⟨w.heap.size, j, none⟩ := fun j => hbA1.cell (p := ⟨w.heap.size, j, none⟩) hs0
  refine hK9.out _ _ ⟨by rw [hc1]; exact d1, by rw [hc1]; exact d2⟩ (fun hS => ?_)
  clear hK9
  refine wpAnyH_ready (rs := [5]) (by kernel_rfl) (by simp) ?_
  refine AllReadyH.cons rfl (fun K9 hK9 => ?_) AllReadyH.nil
  go_simp
  have hB1 : Below w.heap.size w w1 := HB0.out.trans (hbA1.mono HB0.out.size)
  have hF := rfrom_ok wA.heap.size rv (rnd n) n (.slice vp K vc) ts w1 (isRow_rnd n) (rnd_length n) (by omega) h12 hrv HTS.out (by rw [hK.out]; exact hl1) (by rw [hK.out]; omega) (HV.out.below hB1) hb1.size
  rw [HFL.out] at hF
  refine hF.mono ?_
  rintro e w2 ⟨lv, vs, rfl, hL2, _, hb2⟩
  have hc2 : ∀ j, w2.cell? ⟨w.heap.size, j, none⟩ = wA.cell? ⟨w.heap.size, j, none⟩ := fun j => (hb2.cell (p := ⟨w.heap.size, j, none⟩) (Nat.lt_of_lt_of_le hs0 hbA1.size)).trans (hc1 j)
  refine hK9.out _ _ ⟨by rw [hc2]; exact d1, by rw [hc2]; exact d2⟩ (fun hS => ?_)
  clear hK9
  refine wpAnyH_take (i := 6) (v := lv) rfl (by kernel_rfl) (by kernel_rfl) (by kernel_rfl) (fun _ _ _ h => h) (Or.inl ⟨by kernel_rfl, fun w' hS' => by obtain ⟨q0, q1⟩ := hS'; go_simp⟩) hS ?_
  refine wpAnyH_done (by kernel_rfl) ?_ _
  have hB2 : Below w.heap.size w w2 := hB1.trans (hb2.mono hB1.size)
  have hvl : vs.length = K + 1 := by rw [hL2.len, leadTo_length, hK.out]
  have hr2 := hL2.row
  rw [hvl] at hr2
  obtain ⟨gu, cu, rfl, hgu1, hgu2, hcu1, hcu2⟩ := owns_form hr2 (by omega)
  have hI := hL2.front hvl (k := K) (by omega) hl1 hgu2 hcu1 hcu2
  rw [show (leadTo n ts ts.length).take K = ldr n ts from by unfold ldr; rw [hK.out]] at hI
  have HI := hide hI
  clear hS hL2 hb2 hr2 hrv hb1 hbA1 hc1 hc2 hI HV HB0 HRO d0 d1 d2 hF hvl HFL hs0 HTS hB1
  generalize ldr n ts = L at *
  have hcell := HI.out.cell (by rw [HRL.out]; exact hl1)
  rw [HRL.out] at hcell
  obtain ⟨b9, o9, c9, he9, hb9, _, _, hcell⟩ := hcell
  simp only [Value.slice.injEq, Option.some.injEq, Addr.mk.injEq, and_true] at he9
  obtain ⟨⟨rfl, rfl⟩, _, rfl⟩ := he9
  have HC := hide hcell
  have HRX : Hid (∀ k, k < K → Rw n (L.getD k [])) := fun k hk => HRW.out _ (by rw [List.getD_eq_getElem?_getD, List.getElem?_eq_getElem (by rw [HRL.out]; exact hk)]; exact List.getElem_mem _)
  have HR0 : Hid (RFRel n L w2 w2 (.slice none 0 0) [] false (0 * K)) := ⟨by rw [Nat.zero_mul]; exact LL.nil _ _, by rw [Nat.zero_mul]; exact Sf.zero L, Below.refl _ _⟩
  have hsubK : ((K + 1 : Nat) : Int) - 1 = (K : Int) := by omega
  have hwK : IntKind.i64.wrap (K : Int) = (K : Int) := by rw [IntKind.wrap_i64]; omega
  clear hcell
  go_wp2
  go_loopw [5, 6, 7] (fun sv hd iv wr => ∃ (t : Bool) (vs : List Value) (p : Nat), p ≤ K ∧ sv = .bool t ∧ iv = .int .i64 p ∧ Hid (RFRel n L w2 wr hd vs t (p * K))) (fun _ _ iv _ => K - (intOf iv).toNat)
  case atStart => exact ⟨false, [], 0, by omega, rfl, rfl, HR0⟩
  case round =>
    clear HR0
    obtain ⟨t, vs, p, hp, rfl, rfl, hR⟩ := hrel
    obtain ⟨zp, zc, rfl⟩ := owns_slice hR.out.ll.row
    by_cases hpK : p < K
    · have HI0 : Hid (RFRel n L w2 wr (.slice zp vs.length zc) vs t (p * K + 0)) := hR.out
      clear hR
      go_wp2
      go_loopw [5, 6, 8] (fun sv hd kv wl => ∃ (t : Bool) (vs : List Value) (q : Nat), q ≤ K ∧ sv = .bool t ∧ kv = .int .i64 q ∧ Hid (RFRel n L w2 wl hd vs t (p * K + q))) (fun _ _ kv _ => K - (intOf kv).toNat)
      case atStart => exact ⟨t, vs, 0, by omega, rfl, rfl, HI0⟩
      case round =>
        clear HI0
        obtain ⟨t, vs, q, hq, rfl, rfl, hR⟩ := hrel
        obtain ⟨zp, zc, rfl⟩ := owns_slice hR.out.ll.row
        by_cases hqK : q < K
        · have hbr := hR.out.below
          have hbs := hbr.size
          obtain ⟨p1, c1, hce1, hi1⟩ := HC.out p hpK
          obtain ⟨p2, c2, hce2, hi2⟩ := HC.out q hqK
          have r1 := HRX.out p hpK
          have r2 := HRX.out q hqK
          have g1 := (hbr.cell (p := ⟨gu, 0 + p, none⟩) hgu2).trans hce1
          have g2 := (hbr.cell (p := ⟨gu, 0 + q, none⟩) hgu2).trans hce2
          rw [r1.len, Nat.zero_add] at g1
          rw [r2.len, Nat.zero_add] at g2
          rw [r1.len] at hi1
          rw [r2.len] at hi2
          have HU := hide (fun W (hW : Below wr.heap.size wr W) => undo_own (.slice p2 n c2) (L.getD q []) W ((hi2.out.below hbr).below hW) r2.row (by rw [r2.len]; omega) (by rw [r2.len]; exact h12))
          rw [r2.len] at HU
          have HBY := hide (fun W (hW : Below wr.heap.size wr W) (zs : List Int) (uv : Value) (hz : Undoes zs (L.getD q [])) (hu : Ints W uv zs) => rby_own (.slice p1 n c1) uv (L.getD p []) zs W ((hi1.out.below hbr).below hW) hu (fun j hj => by
            rw [undoes_un r2.row hz] at hj ⊢
            have h9 := r2.un.row.at hj
            rw [r1.len]
            rw [r2.un.len] at h9
            exact h9) (by rw [r1.len]; omega) (by rw [undoes_un r2.row hz, r2.un.len]; omega))
          have HE : Hid (by_ (L.getD p []) (un (L.getD q [])) = rnd n ↔ L.getD p [] = L.getD q []) := by_un_rnd2 h12 r1 r2
          have HHR := hide (r1.by r2.un)
          have HUN : Hid (∀ zs, Undoes zs (L.getD q []) → zs = un (L.getD q [])) := fun zs hz => undoes_un r2.row hz
          have HUL := hide r2.un.len
          have HLp : Hid (p < L.length) := by show p < L.length; rw [HRL.out]; exact hpK
          have HLq : Hid (q < L.length) := by show q < L.length; rw [HRL.out]; exact hqK
          have HHIT : Hid (by_ (L.getD p []) (un (L.getD q [])) = rnd n → gth n L (p * K + q + 1) = gth n L (p * K + q)) := by
            intro h
            have h9 := gth_hit (n := n) HLp.out HLq.out h
            rw [HRL.out] at h9
            exact h9
          have HMIS : Hid (by_ (L.getD p []) (un (L.getD q [])) ≠ rnd n → gth n L (p * K + q + 1) = gth n L (p * K + q) ++ [by_ (L.getD p []) (un (L.getD q []))]) := by
            intro h
            have h9 := gth_miss (n := n) HLp.out HLq.out h
            rw [HRL.out] at h9
            exact h9
          have HSF : Hid (∀ t' : Bool, (t' = true ↔ t = true ∨ (p ≠ q ∧ L.getD p [] = L.getD q [])) → Sf L (p * K + q + 1) t') := by
            intro t' ht
            have h9 := hR.out.sf
            rw [← HRL.out] at h9 ⊢
            exact h9.next HLp.out HLq.out ht
          clear hce1 hce2 hi1 hi2 r1 r2
          generalize hHe : by_ (L.getD p []) (un (L.getD q [])) = H at *
          have HHE := hide hHe
          clear hHe
          go_upto_region 11 with fail
          refine wp_region_held_drew (S := fun W' => W'.cell? ⟨gu, p, none⟩ = some (.slice p1 n c1) ∧ W'.cell? ⟨gu, q, none⟩ = some (.slice p2 n c2)) (by kernel_rfl) ⟨g1, g2⟩ (fun hS => ?_)
          refine wpAnyH_take (i := 0) (v := .slice (some ⟨gu, 0, none⟩) K cu) rfl (by kernel_rfl) (by kernel_rfl) (by kernel_rfl) (fun _ _ _ h => h) (Or.inl ⟨by kernel_rfl, fun w' hS' => by obtain ⟨q0, q1⟩ := hS'; go_simp⟩) hS ?_
          refine wpAnyH_take (i := 1) (v := .int .i64 p) rfl (by kernel_rfl) (by kernel_rfl) (by kernel_rfl) (fun _ _ _ h => h) (Or.inl ⟨by kernel_rfl, fun w' hS' => by obtain ⟨q0, q1⟩ := hS'; go_simp⟩) hS ?_
          refine wpAnyH_take (i := 2) (v := .pointer (some ⟨gu, p, none⟩)) rfl (by kernel_rfl) (by kernel_rfl) (by kernel_rfl) (fun _ _ _ h => h) (Or.inl ⟨by kernel_rfl, fun w' hS' => by obtain ⟨q0, q1⟩ := hS'; go_simp; (try omega)⟩) hS ?_
          refine wpAnyH_take (i := 3) (v := .slice p1 n c1) rfl (by kernel_rfl) (by kernel_rfl) (by kernel_rfl) (fun _ _ _ h => h) (Or.inl ⟨by kernel_rfl, fun w' hS' => by obtain ⟨q0, q1⟩ := hS'; go_simp⟩) hS ?_
          refine wpAnyH_take (i := 4) (v := .slice (some ⟨gu, 0, none⟩) K cu) rfl (by kernel_rfl) (by kernel_rfl) (by kernel_rfl) (fun _ _ _ h => h) (Or.inl ⟨by kernel_rfl, fun w' hS' => by obtain ⟨q0, q1⟩ := hS'; go_simp⟩) hS ?_
          refine wpAnyH_take (i := 5) (v := .int .i64 q) rfl (by kernel_rfl) (by kernel_rfl) (by kernel_rfl) (fun _ _ _ h => h) (Or.inl ⟨by kernel_rfl, fun w' hS' => by obtain ⟨q0, q1⟩ := hS'; go_simp⟩) hS ?_
          refine wpAnyH_take (i := 6) (v := .pointer (some ⟨gu, q, none⟩)) rfl (by kernel_rfl) (by kernel_rfl) (by kernel_rfl) (fun _ _ _ h => h) (Or.inl ⟨by kernel_rfl, fun w' hS' => by obtain ⟨q0, q1⟩ := hS'; go_simp; (try omega)⟩) hS ?_
          refine wpAnyH_take (i := 7) (v := .slice p2 n c2) rfl (by kernel_rfl) (by kernel_rfl) (by kernel_rfl) (fun _ _ _ h => h) (Or.inl ⟨by kernel_rfl, fun w' hS' => by obtain ⟨q0, q1⟩ := hS'; go_simp⟩) hS ?_
          refine wpAnyH_ready (rs := [8]) (by kernel_rfl) (by simp) ?_
          refine AllReadyH.cons rfl (fun K9 hK9 => ?_) AllReadyH.nil
          go_simp
          have hdr : Below wr.heap.size wr wr.drew := (Below.refl _ _).drew
          refine (HU.out wr.drew hdr).mono ?_
          rintro e w3 ⟨uv, zs, rfl, huo, hun, hb3⟩
          have hb3' : Below wr.heap.size wr w3 := hdr.trans hb3
          refine hK9.out _ _ ⟨(hb3'.cell (p := ⟨gu, p, none⟩) (Nat.lt_of_lt_of_le hgu2 hbs)).trans g1, (hb3'.cell (p := ⟨gu, q, none⟩) (Nat.lt_of_lt_of_le hgu2 hbs)).trans g2⟩ (fun hS => ?_)
          clear hK9
          have hBY := HBY.out w3 hb3' zs uv hun (Ints.own huo)
          have hzu := HUN.out zs hun
          rw [hzu, HUL.out, HHE.out] at hBY
          refine wpAnyH_ready (rs := [9]) (by kernel_rfl) (by simp) ?_
          refine AllReadyH.cons rfl (fun K9 hK9 => ?_) AllReadyH.nil
          go_simp
          refine hBY.mono ?_
          rintro e w4 ⟨hvv, rfl, hvo, hb4⟩
          have hb4' : Below wr.heap.size wr w4 := hb3'.trans (hb4.mono hb3'.size)
          refine hK9.out _ _ ⟨(hb4'.cell (p := ⟨gu, p, none⟩) (Nat.lt_of_lt_of_le hgu2 hbs)).trans g1, (hb4'.cell (p := ⟨gu, q, none⟩) (Nat.lt_of_lt_of_le hgu2 hbs)).trans g2⟩ (fun hS => ?_)
          clear hK9
          obtain ⟨hp4, hc4, rfl⟩ := owns_slice hvo
          refine wpAnyH_take (i := 10) (v := .slice hp4 n hc4) rfl (by kernel_rfl) (by kernel_rfl) (by kernel_rfl) (fun _ _ _ h => h) (Or.inl ⟨by kernel_rfl, fun w' hS' => by obtain ⟨q0, q1⟩ := hS'; go_simp⟩) hS ?_
          refine wpAnyH_done (by kernel_rfl) ?_ _
          have hR4 := hR.out.later hb4'
          have HO4 := hide (owns_base hvo (Nat.le_trans hbs hb3'.size))
          have HRK := hide (rrank_ok (.slice hp4 n hc4) H w4 (by have := Ints.own HO4.out; exact this) HHR.out.row (by rw [HHR.out.len]; omega) (by rw [HHR.out.len]; exact h12))
          have HZ := hide (rk_rnd h12 HHR.out.row HHR.out.len)
          have HR4 := hide hR4
          have hrb := rkTo_le H H.length (Nat.le_refl _) (by rw [HHR.out.len]; exact h12)
          clear hS hR hR4 hvo huo hun hb3 hb3' hb4 hb4' hBY hzu HU HBY HUN HUL g1 g2 hdr
          generalize rkTo H H.length = rk at *
          go_wp2_with fail
          refine HRK.out.mono ?_
          rintro e w5 ⟨rfl, hb5⟩
          have HR5 := hide (HR4.out.later hb5)
          have HO5 := hide (owns_below HO4.out hb5 (Nat.le_refl _))
          clear hb5 HR4 HO4 HRK
          by_cases hz : rk = 0
          · have hH : H = rnd n := HZ.out.1 hz
            subst hz
            have HG := hide (HHIT.out hH)
            have HLL : Hid (L.getD p [] = L.getD q []) := HE.out.1 hH
            have HRN : Hid (∀ t' : Bool, (t' = true ↔ t = true ∨ p ≠ q) → RFRel n L w2 w5 (.slice zp vs.length zc) vs t' (p * K + (q + 1))) := by
              intro t' ht
              refine ⟨?_, HSF.out t' (by rw [ht]; constructor <;> (rintro (h | h) <;> first | exact Or.inl h | exact Or.inr ⟨h, HLL.out⟩ | exact Or.inr h.1)), HR5.out.below⟩
              have := HR5.out.ll
              rw [← HG.out] at this
              exact this
            clear hH HHIT HMIS HSF HZ HE HG HLL HHR
            cases t with
            | true =>
              have HF := hide (HRN.out true (by simp))
              clear HRN HR5
              go_wp2
              go_roundw
              case rel => exact ⟨true, vs, q + 1, by omega, rfl, by go_num, HF⟩
              case measure => simp [intOf]; omega
            | false =>
              by_cases hpq : p = q
              · have HF := hide (HRN.out false (by simp [hpq]))
                have hne : ((p : Int) != (q : Int)) = false := by simp [hpq]
                clear HRN HR5 hpq
                go_wp2
                go_roundw
                case rel => exact ⟨false, vs, q + 1, by omega, rfl, by go_num, HF⟩
                case measure => simp [intOf]; omega
              · have HF := hide (HRN.out true (by simp [hpq]))
                have hne : ((p : Int) != (q : Int)) = true := by simp; omega
                clear HRN HR5 hpq
                go_wp2
                go_roundw
                case rel => exact ⟨true, vs, q + 1, by omega, rfl, by go_num, HF⟩
                case measure => simp [intOf]; omega
          · have hH : H ≠ rnd n := fun e => hz (HZ.out.2 e)
            have HG := hide (HMIS.out hH)
            have HNL : Hid (L.getD p [] ≠ L.getD q []) := fun e => hH (HE.out.2 e)
            have HSN : Hid (Sf L (p * K + (q + 1)) t) := HSF.out t (by constructor <;> (rintro h <;> first | exact Or.inl h | skip); rcases h with h | h <;> first | exact h | exact absurd h.2 HNL.out)
            have hz1 : ((rk : Int) == 0) = false := by simp; omega
            have hrow := HR5.out.ll.row
            have hvb : vs.length ≤ 40000 := by
              have h9 := gth_length n L (p * K + q)
              rw [← HR5.out.ll.len, HRL.out] at h9
              have h8 : K * K ≤ 200 * 200 := Nat.mul_le_mul hl2 hl2
              omega
            have hbs5 := HR5.out.below.size
            clear hH HHIT HMIS HSF HZ HE HNL hz
            go_wp2_with (at_builtin; refine wpList_append_own _ rfl _ _ 22 rfl w2.heap.size 26 j0 (.slice none 0 0) 1 24 Try.underlying22 hj hq0 hq1 hq2 rfl (by decide) _ _ _ rfl (hrow.alloc _) ⟨w5.heap.size, 0, none⟩ 1 1 [.slice hp4 n hc4] rfl rfl ?c1 ?c2 ?c3 ?c4 ?c5 ?_)
            case c1 => exact cell_one_new _ _ _
            case c2 => intro u hu; simp at hu; subst hu; rfl
            case c3 => unfold maxLen; omega
            case c4 => omega
            case c5 => simp; omega
            · intro v9 w9 hown9 hg9 _
              have hL9 := HR5.out.ll.push (X := H) (by rw [HHR.out.len]; exact HO5.out) hown9 hg9
              have hbw9 := HR5.out.ll.step HR5.out.below (Nat.le_refl _) hbs5 hg9
              have HF : Hid (RFRel n L w2 w9 v9 (vs ++ [.slice hp4 n hc4]) t (p * K + (q + 1))) := ⟨by have h8 : gth n L (p * K + (q + 1)) = _ := HG.out; rw [h8]; exact hL9, HSN.out, hbw9⟩
              clear hL9 hbw9 hown9 hg9 hrow HR5 HO5 HG HSN HHR
              go_wp2
              go_roundw
              case rel => exact ⟨t, _, q + 1, by omega, rfl, by go_num, HF⟩
              case measure => simp [intOf]; omega
        · obtain rfl : q = K := by omega
          have HF : Hid (RFRel n L w2 wr (.slice zp vs.length zc) vs t ((p + 1) * q)) := by rw [Nat.succ_mul]; exact hR.out
          clear hR
          go_wp2
          go_roundw
          case rel => exact ⟨t, vs, p + 1, by omega, rfl, by go_num, HF⟩
          case measure => simp [intOf]; omega
    · obtain rfl : p = K := by omega
      have hbr := hR.out.below
      have HND : Hid (t = false ↔ L.Nodup) := by
        have h9 := hR.out.sf
        rw [← HRL.out] at h9
        exact h9.all
      obtain ⟨P, hP1, hP2, hP3⟩ := pairs_of hR.out.ll.all
      have HPX := hide hP2
      have HPR : Hid (∀ x, x ∈ P.map Prod.snd → Rw n x) := fun x hx => by rw [hP2] at hx; exact gth_rows HRW.out x hx
      have hPl : P.length = vs.length := by rw [← hP1, List.length_map]
      have hvb : vs.length ≤ 40000 := by
        have h9 := gth_length n L (p * p)
        rw [← hR.out.ll.len, HRL.out] at h9
        have h8 : p * p ≤ 200 * 200 := Nat.mul_le_mul hl2 hl2
        omega
      have HP3 := hide hP3
      have HOR := hide (ordered_ok wr P.length P (.slice zp vs.length zc) wr (Nat.le_refl _) (by omega) (by rw [hP1]; exact Vals.own hR.out.ll.row) (Below.refl _ _) (fun x hx => ⟨HP3.out x hx, by rw [(HPR.out x.2 (List.mem_map_of_mem hx)).len]; omega⟩))
      have hBr : Below w.heap.size w wr := hB2.trans (hbr.mono hB2.size)
      have HGA := hide (gth_all n L)
      rw [HRL.out] at HGA
      clear hP1 hP2 hP3 hR HI HC HRX hB2 hgu1 hgu2
      go_wp2_with fail
      refine HOR.out.mono ?_
      rintro e w6 ⟨u6, P6, rfl, hV6, hpm6, hris6, hb6⟩
      have hX6 : Ris (P6.map Prod.snd) := List.pairwise_map.2 hris6
      have HNF := hide (nubTo_fact hX6)
      have hm6 : P6.length = P.length := hpm6.length_eq
      have HMEM : Hid (∀ h, h ∈ P6.map Prod.snd ↔ h ∈ pr L ∧ h ≠ rnd n) := fun h => by
        rw [← HGA.out, ← HPX.out]
        exact (hpm6.map Prod.snd).mem_iff
      have HI6 : Hid (∀ k, k < P6.length → Ints wr (P6.getD k (undef, [])).1 ((P6.map Prod.snd).getD k []) ∧ (P6.map Prod.fst).getD k undef = (P6.getD k (undef, [])).1) := fun k hk => by
        have e1 : P6.getD k (undef, []) = P6[k] := by simp [List.getD, hk]
        have e2 : (P6.map Prod.snd).getD k [] = P6[k].2 := by simp [List.getD, hk]
        have e3 : (P6.map Prod.fst).getD k undef = P6[k].1 := by simp [List.getD, hk]
        rw [e1, e2, e3]
        exact ⟨HP3.out _ (hpm6.mem_iff.1 (List.getElem_mem hk)), rfl⟩
      have hXl : (P6.map Prod.snd).length = P6.length := List.length_map _
      have HXl := hide hXl
      have hB6 : Below w.heap.size w w6 := hBr.trans (hb6.mono hBr.size)
      have HV6 := hide hV6
      obtain ⟨up, uc, hue⟩ := hV6.form
      rw [List.length_map] at hue
      subst hue
      obtain ⟨m, hm⟩ : ∃ m, Hid (P6.length = m) := ⟨_, rfl⟩
      have hmb : m ≤ 40000 := by rw [← hm.out]; omega
      rw [hm.out] at HXl HI6 HV6 ⊢
      have HIW := hide hb6
      clear hX6 hris6 hpm6 hm6 hXl hV6 HOR HP3 HPX HPR hPl HGA
      generalize P6.map Prod.snd = X at *
      have HN0 : Hid (NubRel X w6 w6 w6.heap.size (.slice none 0 0) [] wr 0) := ⟨World.ownsRow_nil _ _ _ _, VL.nil _, Below.refl _ _⟩
      have HCE : Hid (∀ k, k < m → ∃ b off, up = some ⟨b, off, none⟩ ∧ b < w6.heap.size ∧ m ≤ uc ∧ uc ≤ 9223372036854775807 ∧ ∃ xp xc, w6.cell? ⟨b, off + k, none⟩ = some (.slice xp (X.getD k []).length xc) ∧ Ints wr (.slice xp (X.getD k []).length xc) (X.getD k [])) := fun k hk => by
        have h9 := HV6.out
        obtain ⟨b, off, cap, e, hm1, hm2, hb, hce⟩ := h9.cells (m := m) (by rw [List.length_map]; exact hm.out) (by omega)
        simp only [Value.slice.injEq] at e
        obtain ⟨rfl, _, rfl⟩ := e
        obtain ⟨i1, i2⟩ := HI6.out k hk
        obtain ⟨xp, xc, e⟩ := i1.form
        refine ⟨b, off, rfl, hb, hm1, hm2, xp, xc, ?_, by rw [← e]; exact i1⟩
        rw [hce k hk, i2, e]
      clear HV6 HI6
      have HXl2 := HXl
      generalize wr = W0 at *
      go_wp2
      go_loopw [10, 11] (fun hd iv wl => ∃ (us : List Value) (k : Nat), k ≤ m ∧ iv = .int .i64 k ∧ Hid (NubRel X w6 wl w6.heap.size hd us W0 k)) (fun _ iv _ => m - (intOf iv).toNat)
      case atStart => exact ⟨[], 0, by omega, rfl, HN0⟩
      case round =>
        clear HN0
        obtain ⟨us, k, hk, rfl, hR⟩ := hrel
        obtain ⟨hro, hvl, hbl⟩ := hR.out
        obtain ⟨zp, zc, rfl⟩ := owns_slice hro
        have hbs := hbl.size
        have hub : us.length ≤ 40000 := by
          have h9 := nubTo_len X k
          rw [← hvl.len] at h9
          omega
        have HVL := hide hvl
        have HRO := hide hro
        clear hvl hR hro
        by_cases hkm : k < m
        · obtain ⟨b, off, rfl, hb, hm1, hm2, xp, xc, hce, hix⟩ := HCE.out k hkm
          have gx := (hbl.cell (p := ⟨b, off + k, none⟩) hb).trans hce
          have HIX := hide hix
          have HNS : Hid (nubTo X (k + 1) = if k = 0 ∨ X.getD k [] ≠ X.getD (k - 1) [] then nubTo X k ++ [X.getD k []] else nubTo X k) := rfl
          clear hce hix
          by_cases hk0 : k = 0
          · have HNX : Hid (nubTo X (k + 1) = nubTo X k ++ [X.getD k []]) := by have h9 := HNS.out; rw [if_pos (Or.inl hk0)] at h9; exact h9
            have HVN : Hid (VL W0 (us ++ [.slice xp (X.getD k []).length xc]) (nubTo X (k + 1))) := by rw [HNX.out]; exact HVL.out.push HIX.out
            have hz1 : ((k : Int) == 0) = true := by simp; omega
            clear HNS HNX hk0 HIX
            generalize (X.getD k []).length = xn at *
            go_wp2
            go_quiet (fail)
            have HRX9 := hide (owns_below HRO.out (below_drewN (Below.refl _ _) nq) (Nat.le_refl _))
            have hbX := below_drewN hbl nq
            have gx9 : (wr.drewN nq).cell? ⟨b, off + k, none⟩ = some (.slice xp xn xc) := gx
            clear gx HRO HVL
            generalize wr.drewN nq = wX at *
            have hrow9 := HRX9.out
            have hs9 := hbX.size
            go_wp2_with (at_builtin; refine wpList_append_own _ rfl _ _ 22 rfl w6.heap.size 26 j0 (.slice none 0 0) 1 24 Try.underlying22 hj hq0 hq1 hq2 rfl (by decide) _ _ _ rfl (hrow9.alloc _) ⟨wX.heap.size, 0, none⟩ 1 1 [.slice xp xn xc] rfl rfl ?c1a ?c2a ?c3a ?c4a ?c5a ?_)
            case c1a => exact cell_one_new _ _ _
            case c2a => intro u hu; simp at hu; subst hu; rfl
            case c3a => unfold maxLen; omega
            case c4a => omega
            case c5a => simp; omega
            · intro v9 w9 hown9 hg9 _
              have HF : Hid (NubRel X w6 w9 w6.heap.size v9 (us ++ [.slice xp xn xc]) W0 (k + 1)) := ⟨by rw [List.length_append]; exact hown9, HVN.out, (hbX.alloc hs9 _).grown hg9 (by simp; omega) (fun g hg' => (HRX9.out.lt g hg').1)⟩
              clear hown9 hg9 hrow9 HVN HRX9
              go_wp2
              go_roundw
              case rel => exact ⟨_, k + 1, by omega, by go_num, HF⟩
              case measure => simp [intOf]; omega
          · obtain ⟨km, hkm1⟩ : ∃ km, km + 1 = k := ⟨k - 1, by omega⟩
            have hkm2 : k - 1 = km := by omega
            obtain ⟨b', off', hbe, hb', _, _, yp, yc, hcy, hiy⟩ := HCE.out km (by omega)
            simp only [Option.some.injEq, Addr.mk.injEq, and_true] at hbe
            obtain ⟨rfl, rfl⟩ := hbe
            have gy := (hbl.cell (p := ⟨b, off + km, none⟩) hb).trans hcy
            have hz1 : ((k : Int) == 0) = false := by simp; omega
            have hsub : (k : Int) - 1 = (km : Int) := by omega
            have hwk : IntKind.i64.wrap (km : Int) = (km : Int) := by rw [IntKind.wrap_i64]; omega
            have hkb : (km : Int) < (m : Int) := by omega
            have hkmm : km < m := by omega
            have HSM := hide (fun W (hW : Below wr.heap.size wr W) => same_any (.slice xp (X.getD k []).length xc) (.slice yp (X.getD km []).length yc) (X.getD k []) (X.getD km []) W (((HIX.out.below HIW.out).below hbl).below hW) (((hiy.below HIW.out).below hbl).below hW))
            have HNS2 := HNS
            rw [hkm2] at HNS2
            have hbw : b < wr.heap.size := Nat.lt_of_lt_of_le hb hbs
            have HKM := hide hkm1
            clear hcy hiy HNS hkm2 hkm1
            obtain ⟨qq, hqq⟩ : ∃ qq, Hid (decide (X.getD k [] = X.getD km []) = qq) := ⟨_, rfl⟩
            rw [hqq.out] at HSM
            have HVK : Hid (Ints W0 (.slice xp (X.getD k []).length xc) (X.getD k [])) := HIX
            clear HIX
            generalize hxn : (X.getD k []).length = xn at *
            clear hxn
            generalize (X.getD km []).length = yn at *
            go_upto_region 20 with fail
            refine wp_region_held_drew (S := fun W' => W'.cell? ⟨b, off + k, none⟩ = some (.slice xp xn xc) ∧ W'.cell? ⟨b, off + km, none⟩ = some (.slice yp yn yc)) (by kernel_rfl) ⟨gx, gy⟩ (fun hS => ?_)
            refine wpAnyH_take (i := 0) (v := .int .i64 k) rfl (by kernel_rfl) (by kernel_rfl) (by kernel_rfl) (fun _ _ _ h => h) (Or.inl ⟨by kernel_rfl, fun w' hS' => by obtain ⟨q0, q1⟩ := hS'; go_simp⟩) hS ?_
            refine wpAnyH_take (i := 1) (v := .bool false) rfl (by kernel_rfl) (by kernel_rfl) (by kernel_rfl) (fun _ _ _ h => h) (Or.inl ⟨by kernel_rfl, fun w' hS' => by obtain ⟨q0, q1⟩ := hS'; go_simp⟩) hS ?_
            refine wpAnyH_take (i := 2) (v := .bool false) rfl (by kernel_rfl) (by kernel_rfl) (by kernel_rfl) (fun _ _ _ h => h) (Or.inl ⟨by kernel_rfl, fun w' hS' => by obtain ⟨q0, q1⟩ := hS'; go_simp⟩) hS ?_
            refine wpAnyH_take (i := 3) (v := .slice (some ⟨b, off, none⟩) m uc) rfl (by kernel_rfl) (by kernel_rfl) (by kernel_rfl) (fun _ _ _ h => h) (Or.inl ⟨by kernel_rfl, fun w' hS' => by obtain ⟨q0, q1⟩ := hS'; go_simp⟩) hS ?_
            refine wpAnyH_take (i := 4) (v := .int .i64 k) rfl (by kernel_rfl) (by kernel_rfl) (by kernel_rfl) (fun _ _ _ h => h) (Or.inl ⟨by kernel_rfl, fun w' hS' => by obtain ⟨q0, q1⟩ := hS'; go_simp⟩) hS ?_
            refine wpAnyH_take (i := 5) (v := .pointer (some ⟨b, off + k, none⟩)) rfl (by kernel_rfl) (by kernel_rfl) (by kernel_rfl) (fun _ _ _ h => h) (Or.inl ⟨by kernel_rfl, fun w' hS' => by obtain ⟨q0, q1⟩ := hS'; go_simp; (try omega)⟩) hS ?_
            refine wpAnyH_take (i := 6) (v := .slice xp xn xc) rfl (by kernel_rfl) (by kernel_rfl) (by kernel_rfl) (fun _ _ _ h => h) (Or.inl ⟨by kernel_rfl, fun w' hS' => by obtain ⟨q0, q1⟩ := hS'; go_simp⟩) hS ?_
            refine wpAnyH_take (i := 7) (v := .slice (some ⟨b, off, none⟩) m uc) rfl (by kernel_rfl) (by kernel_rfl) (by kernel_rfl) (fun _ _ _ h => h) (Or.inl ⟨by kernel_rfl, fun w' hS' => by obtain ⟨q0, q1⟩ := hS'; go_simp⟩) hS ?_
            refine wpAnyH_take (i := 8) (v := .int .i64 k) rfl (by kernel_rfl) (by kernel_rfl) (by kernel_rfl) (fun _ _ _ h => h) (Or.inl ⟨by kernel_rfl, fun w' hS' => by obtain ⟨q0, q1⟩ := hS'; go_simp⟩) hS ?_
            refine wpAnyH_take (i := 9) (v := .int .i64 km) rfl (by kernel_rfl) (by kernel_rfl) (by kernel_rfl) (fun _ _ _ h => h) (Or.inl ⟨by kernel_rfl, fun w' hS' => by obtain ⟨q0, q1⟩ := hS'; go_simp; (try (rw [IntKind.wrap_i64]; omega))⟩) hS ?_
            refine wpAnyH_take (i := 10) (v := .pointer (some ⟨b, off + km, none⟩)) rfl (by kernel_rfl) (by kernel_rfl) (by kernel_rfl) (fun _ _ _ h => h) (Or.inl ⟨by kernel_rfl, fun w' hS' => by obtain ⟨q0, q1⟩ := hS'; go_simp; (try omega)⟩) hS ?_
            refine wpAnyH_take (i := 11) (v := .slice yp yn yc) rfl (by kernel_rfl) (by kernel_rfl) (by kernel_rfl) (fun _ _ _ h => h) (Or.inl ⟨by kernel_rfl, fun w' hS' => by obtain ⟨q0, q1⟩ := hS'; go_simp⟩) hS ?_
            refine wpAnyH_ready (rs := [12]) (by kernel_rfl) (by simp) ?_
            refine AllReadyH.cons rfl (fun K9 hK9 => ?_) AllReadyH.nil
            go_simp
            have hdr : Below wr.heap.size wr wr.drew := (Below.refl _ _).drew
            refine (HSM.out wr.drew hdr).mono ?_
            rintro e w4 ⟨rfl, hb4⟩
            refine hK9.out _ _ ⟨((hdr.trans hb4).cell (p := ⟨b, off + k, none⟩) hbw).trans gx, ((hdr.trans hb4).cell (p := ⟨b, off + km, none⟩) hbw).trans gy⟩ (fun hS => ?_)
            clear hK9
            refine wpAnyH_take (i := 13) (v := .bool (!qq)) rfl (by kernel_rfl) (by kernel_rfl) (by kernel_rfl) (fun _ _ _ h => h) (Or.inl ⟨by kernel_rfl, fun w' hS' => by obtain ⟨q0, q1⟩ := hS'; go_simp⟩) hS ?_
            refine wpAnyH_take (i := 14) (v := .bool (!qq)) rfl (by kernel_rfl) (by kernel_rfl) (by kernel_rfl) (fun _ _ _ h => h) (Or.inl ⟨by kernel_rfl, fun w' hS' => by obtain ⟨q0, q1⟩ := hS'; go_simp⟩) hS ?_
            refine wpAnyH_done (by kernel_rfl) ?_ _
            have hB4 : Below wr.heap.size wr w4 := hdr.trans (hb4.mono (Nat.le_refl _))
            have HRX9 := hide (owns_below HRO.out hB4 (Nat.le_refl _))
            have hbX : Below w6.heap.size w6 w4 := hbl.trans (hB4.mono hbs)
            have gx9 : w4.cell? ⟨b, off + k, none⟩ = some (.slice xp xn xc) := hS.1
            have hsX := hB4.size
            clear hS HRO gx gy hB4 hb4 hdr HSM
            cases qq with
            | true =>
              have HNX : Hid (nubTo X (k + 1) = nubTo X k) := by
                have h9 := HNS2.out
                rw [if_neg (fun h => h.elim hk0 (fun h => h (of_decide_eq_true hqq.out)))] at h9
                exact h9
              have HF : Hid (NubRel X w6 w4 w6.heap.size (.slice zp us.length zc) us W0 (k + 1)) := ⟨HRX9.out, by rw [HNX.out]; exact HVL.out, hbX⟩
              clear HNS2 HNX HVL HVK HRX9 hqq
              go_wp2
              go_roundw
              case rel => exact ⟨us, k + 1, by omega, by go_num, HF⟩
              case measure => simp [intOf]; omega
            | false =>
              have HNX : Hid (nubTo X (k + 1) = nubTo X k ++ [X.getD k []]) := by
                have h9 := HNS2.out
                rw [if_pos (Or.inr (of_decide_eq_false hqq.out))] at h9
                exact h9
              have HVN : Hid (VL W0 (us ++ [.slice xp xn xc]) (nubTo X (k + 1))) := by rw [HNX.out]; exact HVL.out.push HVK.out
              clear HNS2 HNX HVL HVK hqq hk0
              generalize w4 = wX at *
              have hrow9 := HRX9.out
              have hs9 := hbX.size
              go_wp2_with (at_builtin; refine wpList_append_own _ rfl _ _ 22 rfl w6.heap.size 26 j0 (.slice none 0 0) 1 24 Try.underlying22 hj hq0 hq1 hq2 rfl (by decide) _ _ _ rfl (hrow9.alloc _) ⟨wX.heap.size, 0, none⟩ 1 1 [.slice xp xn xc] rfl rfl ?c1b ?c2b ?c3b ?c4b ?c5b ?_)
              case c1b => exact cell_one_new _ _ _
              case c2b => intro u hu; simp at hu; subst hu; rfl
              case c3b => unfold maxLen; omega
              case c4b => omega
              case c5b => simp; omega
              · intro v9 w9 hown9 hg9 _
                have HF : Hid (NubRel X w6 w9 w6.heap.size v9 (us ++ [.slice xp xn xc]) W0 (k + 1)) := ⟨by rw [List.length_append]; exact hown9, HVN.out, (hbX.alloc hs9 _).grown hg9 (by simp; omega) (fun g hg' => (HRX9.out.lt g hg').1)⟩
                clear hown9 hg9 hrow9 HVN HRX9
                go_wp2
                go_roundw
                case rel => exact ⟨_, k + 1, by omega, by go_num, HF⟩
                case measure => simp [intOf]; omega
        · obtain rfl : k = m := by omega
          have HP : Hid (RFPost n L w (.returned (.tuple #[.slice zp us.length zc, .bool t])) wr) := by
            obtain ⟨n1, n2⟩ := HNF.out k (by rw [HXl.out]; exact Nat.le_refl _)
            have hWr : Below W0.heap.size W0 wr := HIW.out.trans (hbl.mono HIW.out.size)
            refine ⟨_, nubTo X k, t, rfl, ⟨us, Vals.own HRO.out, HVL.out.len, fun j hj => (HVL.out.at_ j hj).below hWr⟩, HND.out, n1, fun h => ?_, hB6.trans (hbl.mono hB6.size)⟩
            rw [n2 h, List.take_of_length_le (by rw [HXl.out]; exact Nat.le_refl _), HMEM.out]
          clear HRO HVL HND
          go_wp2
          go_ret2
          exact HP.out

end Go.Proofs.Ytoiiadiimfohiaa

/- Contract: truth.meet. -/
namespace Go.Proofs.Ytoiiadiimfohiaa
open Go.RowKit Go.Maps

/-- What the map tells of a list of rows. -/
def InM (n : Nat) (X : List (List Int)) (f : List Int → Option Value) : Prop := ∀ x, Rw n x → ((f (kp x)).isSome = true ↔ x ∈ X)

theorem InM.add {n : Nat} {X : List (List Int)} {f : List Int → Option Value} (h : InM n X f) {r : List Int} (hr : Rw n r) (v : Value) : InM n (X ++ [r]) (kupd f (kp r) v) := by
  intro x hx
  unfold kupd
  rw [List.mem_append, List.mem_singleton]
  by_cases e : kp x = kp r
  · rw [if_pos e]
    have : x = r := kp_inj hx.len hr.len e
    simp [this]
  · rw [if_neg e, h x hx]
    exact ⟨Or.inl, fun h1 => h1.resolve_right (fun h2 => e (by rw [h2]))⟩

/-- No two of the first p heads and those behind are one of X apart. -/
def NoMeet (Hs X : List (List Int)) (p : Nat) : Prop := ∀ a b, a < p → a < b → b < Hs.length → by_ (un (Hs.getD a [])) (Hs.getD b []) ∉ X

theorem noMeet_all {Hs X : List (List Int)} (h : NoMeet Hs X Hs.length) : Hs.Pairwise (fun h h' => by_ (un h) h' ∉ X) := by
  rw [List.pairwise_iff_getElem]
  intro i j hi hj hij
  have := h i j hi hij hj
  simpa [List.getD, List.getElem?_eq_getElem hi, List.getElem?_eq_getElem hj] using this

theorem meet_not {Hs X : List (List Int)} {i j : Nat} (hij : i < j) (hj : j < Hs.length) (h : by_ (un (Hs.getD i [])) (Hs.getD j []) ∈ X) : ¬ Hs.Pairwise (fun h h' => by_ (un h) h' ∉ X) := by
  intro hp
  rw [List.pairwise_iff_getElem] at hp
  have := hp i j (by omega) hj hij
  refine this ?_
  simpa [List.getD, List.getElem?_eq_getElem (show i < Hs.length by omega), List.getElem?_eq_getElem hj] using h

def MeetPost (Hs X : List (List Int)) (w : World) (e : Ending) (w' : World) : Prop :=
  ∃ t : Bool, e = .returned (.bool t) ∧ (t = false ↔ Hs.Pairwise (fun h h' => by_ (un h) h' ∉ X)) ∧ Below w.heap.size w w'

set_option maxRecDepth 20000 in
set_option maxHeartbeats 8000000 in
theorem meet_ok (n : Nat) (v1 v2 : Value) (Hs X : List (List Int)) (w : World) (hv1 : IntsAll w v1 Hs) (hv2 : IntsAll w v2 X) (h1 : 1 ≤ n) (h12 : n ≤ 12) (hH : ∀ r, r ∈ Hs → Rw n r) (hX : ∀ r, r ∈ X → Rw n r) (hl1 : 1 ≤ Hs.length) (hl2 : Hs.length ≤ 1000) (hx2 : X.length ≤ 40000) :
    Calls Try.prog 30 #[v1, v2] w (MeetPost Hs X w) := by
  have hmm := @run_makeMap Try.prog
  obtain ⟨b, off, cap, rfl, hb, hlc, hcm, hcell⟩ := hv1.cell hl1
  have HC := hide hcell
  have HH : Hid (∀ k, k < Hs.length → Rw n (Hs.getD k [])) := fun k hk => hH _ (by rw [List.getD_eq_getElem?_getD, List.getElem?_eq_getElem hk]; exact List.getElem_mem hk)
  have HX : Hid (∀ k, k < X.length → Rw n (X.getD k [])) := fun k hk => hX _ (by rw [List.getD_eq_getElem?_getD, List.getElem?_eq_getElem hk]; exact List.getElem_mem hk)
  obtain ⟨xp, xc, rfl⟩ := hv2.len
  have HV2 := hide hv2
  clear hv1 hcell hH hX hv2
  have HM0 : Hid (KMap 101 .i64 (w.alloc (.map #[] 0)) w.heap.size 0 (fun _ => none)) := KMap.made _ _ w
  go_enter Try.func30, Try.ntmps30
  go_wp2
  go_loopw [21] (fun i wr => ∃ (k : Nat) (f : List Int → Option Value), k ≤ X.length ∧ i = .int .i64 k ∧ Hid (KMap 101 .i64 wr w.heap.size k f) ∧ Hid (InM n (X.take k) f) ∧ Hid (Below w.heap.size w wr)) (fun i _ => X.length - (intOf i).toNat)
  case atStart => exact ⟨0, fun _ => none, by omega, rfl, HM0, (fun x _ => ⟨(fun h => by cases h), (fun h => by simp at h)⟩), (Below.refl _ _).alloc (Nat.le_refl _) _⟩
  case round =>
    clear HM0
    obtain ⟨k, f, hk, rfl, hM, hI, hbl⟩ := hrel
    have hbw := hbl.out
    have hbs := hbw.size
    by_cases hlt : k < X.length
    · obtain ⟨b2, off2, cap2, he, hb2, hlc2, hcm2, hcell2⟩ := HV2.out.cell (by omega)
      simp only [Value.slice.injEq] at he
      obtain ⟨rfl, he2, rfl⟩ := he
      clear he2
      obtain ⟨p, c, hce, hint⟩ := hcell2 k hlt
      have hRw := HX.out k hlt
      have gp : wr.cell? ⟨b2, off2 + k, none⟩ = some (.slice p (X.getD k []).length c) := (hbw.cell (by exact hb2)).trans hce
      have HKO := hide (keyOf_ok _ _ wr (hint.out.below hbw) (by rw [hRw.len]; exact h1) (by rw [hRw.len]; exact h12))
      have hok := kp_ok h12 hRw
      have HAD := hide (fun v => hI.out.add hRw v)
      have HTK : Hid (X.take (k + 1) = X.take k ++ [X.getD k []]) := by
        show _ = _
        rw [List.take_add_one, List.getElem?_eq_getElem hlt]; simp [List.getD, List.getElem?_eq_getElem hlt]
      clear hce hint hcell2 hRw hI
      generalize X.getD k [] = R at *
      generalize R.length = rl at *
      have hMl := hM.out.lt
      go_wp2_with fail
      refine HKO.out.mono ?_
      rintro e w1 ⟨rfl, hb1⟩
      have hbs1 := hb1.size
      have hM1 := hM.out.below hb1 hMl
      obtain ⟨w2, hput, hM2, hg2⟩ := hM1.put keyT Try.underlying99 (show k < maxLen by unfold maxLen; omega) hok (.int .i64 (k : Int))
      have HM2 := hide hM2
      have HI2 : Hid (InM n (X.take (k + 1)) (kupd f (kp R) (.int .i64 (k : Int)))) := by
        show InM _ _ _
        rw [HTK.out]; exact HAD.out _
      have HB2 : Hid (Below w.heap.size w w2) := (hbw.trans (hb1.mono hbs)).grown hg2 ((hbw.trans (hb1.mono hbs)).size) (fun g hg => by cases hg; exact Nat.le_refl _)
      clear hM1 hM2 hg2 hb1 hM hbl hbw HKO HAD HTK
      go_wp2
      go_roundw
      case rel => exact ⟨k + 1, _, by omega, by go_num, HM2, HI2, HB2⟩
      case measure => simp [intOf]; omega
    · have HIX : Hid (InM n X f) := by
        have h9 := hI.out
        rw [List.take_of_length_le (by omega)] at h9
        exact h9
      have HMX := hide hM.out
      have HBX := hide hbw
      clear hM hI hbl hbw HV2 HX
      go_wp2
      clear hlt hk hx2
      go_loopw [33] (fun i wr => ∃ (p : Nat), p ≤ Hs.length ∧ i = .int .i64 p ∧ Hid (KMap 101 .i64 wr w.heap.size k f) ∧ Hid (NoMeet Hs X p) ∧ Hid (Below w.heap.size w wr)) (fun i _ => Hs.length - (intOf i).toNat)
      case atStart => exact ⟨0, by omega, rfl, HMX, (fun a b h => absurd h (Nat.not_lt_zero _)), HBX⟩
      case round =>
        clear HMX HBX
        obtain ⟨p, hp, rfl, hM, hN, hbl⟩ := hrel
        have hbw := hbl.out
        have hbs := hbw.size
        by_cases hlt : p < Hs.length
        · obtain ⟨p1, c1, hce, hint⟩ := HC.out p hlt
          have hRw := HH.out p hlt
          have gp : wr.cell? ⟨b, off + p, none⟩ = some (.slice p1 (Hs.getD p []).length c1) := (hbw.cell (by exact hb)).trans hce
          have hBK := back_own _ _ wr (hint.out.below hbw) hRw.row (by rw [hRw.len]; exact h1) (by rw [hRw.len]; exact h12)
          have HU : Hid (∀ zs, Undoes zs (Hs.getD p []) → zs = un (Hs.getD p [])) := fun zs h => undoes_un hRw.row h
          have HUR := hide hRw.un
          rw [hRw.len] at hBK gp
          have HBK := hide hBK
          have HUN : Hid (∃ U, U = un (Hs.getD p [])) := ⟨_, rfl⟩
          have hMl := hM.out.lt
          clear hce hint hRw hBK
          go_wp2_with fail
          refine HBK.out.mono ?_
          rintro e w2 ⟨bv, zs, rfl, hbo, hun, hb2⟩
          have HZU := hide (HU.out zs hun)
          have HZR : Hid (Rw n zs) := by show Rw n zs; rw [HZU.out]; exact HUR.out
          have HBO := hide (owns_base hbo hbs)
          obtain ⟨bp, bc, rfl⟩ := owns_slice hbo
          have HM2 := hide (hM.out.below hb2 hMl)
          have HB2 : Hid (Below w.heap.size w w2) := hbw.trans (hb2.mono hbs)
          clear hbo hun HBK HU hM hbl hb2
          have HNX : Hid (∀ j0, (∀ j, j < j0 → by_ zs (Hs.getD (p + 1 + j) []) ∉ X) → Hs.length - (p + 1) ≤ j0 → NoMeet Hs X (p + 1)) := by
            intro j0 h3 h4 x y hx hy hyl
            rcases Nat.lt_succ_iff_lt_or_eq.1 hx with hx | hx
            · exact hN.out x y hx hy hyl
            · subst hx
              have h5 := h3 (y - (x + 1)) (by omega)
              rw [show x + 1 + (y - (x + 1)) = y from by omega, HZU.out] at h5
              exact h5
          by_cases hcap : p + 1 < cap
          · go_wp2
            go_loopw [48] (fun i wl => ∃ (q : Nat), q ≤ Hs.length - (p + 1) ∧ i = .int .i64 q ∧ Hid (KMap 101 .i64 wl w.heap.size k f) ∧ Hid (∀ j, j < q → by_ zs (Hs.getD (p + 1 + j) []) ∉ X) ∧ Hid (Below w.heap.size w wl) ∧ Hid (wl.ownsRow w.heap.size 3 1 (.slice bp n bc) n (zs.map (Value.int .i64)))) (fun i _ => Hs.length - (p + 1) - (intOf i).toNat)
            case atStart => exact ⟨0, by omega, rfl, HM2, (fun j h => absurd h (Nat.not_lt_zero _)), HB2, HBO⟩
            case round =>
              clear HM2 HB2 HBO
              obtain ⟨q, hq, rfl, hM3, hN3, hbl3, hBO3⟩ := hrel
              have hbw3 := hbl3.out
              have hbs3 := hbw3.size
              by_cases hlt3 : q < Hs.length - (p + 1)
              · obtain ⟨p3, c3, hce, hint⟩ := HC.out (p + 1 + q) (by omega)
                have hRq := HH.out (p + 1 + q) (by omega)
                have gq : wr.cell? ⟨b, off + (p + 1) + q, none⟩ = some (.slice p3 (Hs.getD (p + 1 + q) []).length c3) := by
                  rw [show off + (p + 1) + q = off + (p + 1 + q) from by omega]
                  exact (hbw3.cell (by exact hb)).trans hce
                have hT := times_own _ _ zs (Hs.getD (p + 1 + q) []) wr (Ints.own hBO3.out) (hint.out.below hbw3) HZR.out.row hRq.row (by rw [HZR.out.len]; exact h1) (by rw [HZR.out.len]; exact h12) (by rw [HZR.out.len, hRq.len])
                have hHr : Rw n (by_ zs (Hs.getD (p + 1 + q) [])) := HZR.out.by hRq
                rw [HZR.out.len] at hT
                rw [hRq.len] at gq
                rw [hRq.len] at hT
                have HT := hide hT
                have HMT : Hid (by_ zs (Hs.getD (p + 1 + q) []) ∈ X → ¬ Hs.Pairwise (fun h h' => by_ (un h) h' ∉ X)) := fun h => meet_not (i := p) (j := p + 1 + q) (by omega) (by omega) (by rw [← HZU.out]; exact h)
                have HNJ : Hid (by_ zs (Hs.getD (p + 1 + q) []) ∉ X → ∀ j, j < q + 1 → by_ zs (Hs.getD (p + 1 + j) []) ∉ X) := by
                  intro h9 j hj
                  rcases Nat.lt_succ_iff_lt_or_eq.1 hj with hj | rfl
                  · exact hN3.out j hj
                  · exact h9
                have HF := hide (HIX.out _ hHr)
                have hok := kp_ok h12 hHr
                have HHR := hide hHr
                have hMl3 := hM3.out.lt
                clear hce hint hRq hT hHr
                generalize by_ zs (Hs.getD (p + 1 + q) []) = D at *
                go_wp2_with fail
                refine HT.out.mono ?_
                rintro e w5 ⟨dv, rfl, hown5, hb5⟩
                have HKO := hide (keyOf_ok dv D w5 (Ints.own hown5) (by rw [HHR.out.len]; exact h1) (by rw [HHR.out.len]; exact h12))
                obtain ⟨dp, dc, rfl⟩ := owns_slice hown5
                have hM5 := hM3.out.below hb5 hMl3
                have hB5 : Below w.heap.size w w5 := hbw3.trans (hb5.mono hbs3)
                have hBO5 := owns_below hBO3.out hb5 (Nat.le_refl _)
                have hMl5 := hM5.lt
                clear hown5 HT hM3 hbl3 hBO3 hb5
                go_wp2_with fail
                refine HKO.out.mono ?_
                rintro e w6 ⟨rfl, hb6⟩
                have hM6 := hM5.below hb6 hMl5
                have hB6 : Below w.heap.size w w6 := hB5.trans (hb6.mono hB5.size)
                have HBO6 := hide (owns_below hBO5 hb6 (Nat.le_refl _))
                have hlook := hM6.look_ok keyT Try.underlying99 (Try.zero3 w6) hok
                have HM6 := hide hM6
                clear hM5 hBO5 hb6 hM6 HKO
                cases hf : f (kp D) with
                | some u =>
                  rw [hf] at hlook
                  have HP : Hid (MeetPost Hs X w (.returned (.bool true)) w6) := ⟨true, rfl, ⟨(fun h => by cases h), fun h => absurd h (HMT.out (HF.out.1 (by rw [hf]; rfl)))⟩, hB6⟩
                  clear hf HM6 HBO6
                  go_wp2
                  go_ret
                  exact HP.out
                | none =>
                  rw [hf] at hlook
                  have HN6 := hide (HNJ.out (fun h => by have := HF.out.2 h; rw [hf] at this; cases this))
                  have HB6 := hide hB6
                  clear hf hB6
                  go_wp2
                  go_roundw
                  case rel => exact ⟨q + 1, by omega, by go_num, HM6, HN6, HB6, HBO6⟩
                  case measure => simp [intOf]; omega
              · have HN4 := hide (HNX.out q hN3.out (by omega))
                have HM4 := hide hM3.out
                have HB4 := hide hbw3
                clear hM3 hN3 hbl3 hBO3 HNX hN
                go_wp2
                go_roundw
                case rel => exact ⟨p + 1, by omega, by go_num, HM4, HN4, HB4⟩
                case measure => simp [intOf]; omega
          · obtain rfl : cap = p + 1 := by omega
            clear hcap
            go_wp2
            go_loopw [48] (fun i wl => ∃ (q : Nat), q ≤ Hs.length - (p + 1) ∧ i = .int .i64 q ∧ Hid (KMap 101 .i64 wl w.heap.size k f) ∧ Hid (∀ j, j < q → by_ zs (Hs.getD (p + 1 + j) []) ∉ X) ∧ Hid (Below w.heap.size w wl)) (fun i _ => Hs.length - (p + 1) - (intOf i).toNat)
            case atStart => exact ⟨0, by omega, rfl, HM2, (fun j h => absurd h (Nat.not_lt_zero _)), HB2⟩
            case round =>
              clear HM2 HB2 HBO
              obtain ⟨q, hq, rfl, hM3, hN3, hbl3⟩ := hrel
              have hlt3 : ¬ q < Hs.length - (p + 1) := by omega
              have HN4 := hide (HNX.out q hN3.out (by omega))
              have HM4 := hide hM3.out
              have HB4 := hide hbl3.out
              clear hM3 hN3 hbl3 HNX hN
              go_wp2
              go_roundw
              case rel => exact ⟨p + 1, by omega, by go_num, HM4, HN4, HB4⟩
              case measure => simp [intOf]; omega
        · have HP : Hid (MeetPost Hs X w (.returned (.bool false)) wr) := by
            have hpe : p = Hs.length := by omega
            have h9 := hN.out
            rw [hpe] at h9
            exact ⟨false, rfl, ⟨fun _ => noMeet_all h9, fun _ => rfl⟩, hbw⟩
          clear hM hN hbl
          go_wp2
          go_ret
          exact HP.out

end Go.Proofs.Ytoiiadiimfohiaa

/- slices.SortFunc over lists of lists, off the library's shelf: what it leans on. -/
namespace Go.Proofs.Ytoiiadiimfohiaa
open Go.RowKit Go.Shelf

def rnS : Go.Shelf.Ren := ⟨fun x => match x with | 6 => 33 | 14 => 61 | 15 => 62 | 20 => 81 | 21 => 82 | 22 => 83 | 23 => 84 | 24 => 85 | 25 => 86 | 26 => 87 | 27 => 88 | 28 => 89 | 29 => 90 | 46 => 106 | 47 => 107 | 48 => 108 | 49 => 109 | 50 => 110 | 57 => 114 | y => y,
  fun x => match x with | 0 => 0 | 3 => 3 | 4 => 4 | 5 => 5 | 9 => 9 | 22 => 22 | 24 => 26 | 25 => 65 | 39 => 108 | 45 => 123 | 46 => 124 | 50 => 74 | 53 => 130 | 55 => 132 | 66 => 142 | 70 => 146 | 76 => 150 | 77 => 133 | y => y, fun x => x⟩

theorem laysS : Go.Proofs.SlLaysF.n6 Try.prog rnS where
  mixed := by kernel_rfl
  f6 := ⟨ "slices.SortFunc[[][]int,[]int]", by kernel_rfl, by kernel_rfl⟩
  f14 := ⟨ "slices.pdqsortCmpFunc[[]int]", by kernel_rfl, by kernel_rfl⟩
  f15 := by kernel_rfl
  f20 := ⟨ "slices.insertionSortCmpFunc[[]int]", by kernel_rfl, by kernel_rfl⟩
  f21 := ⟨ "slices.heapSortCmpFunc[[]int]", by kernel_rfl, by kernel_rfl⟩
  f22 := ⟨ "slices.breakPatternsCmpFunc[[]int]", by kernel_rfl, by kernel_rfl⟩
  f23 := ⟨ "slices.choosePivotCmpFunc[[]int]", by kernel_rfl, by kernel_rfl⟩
  f24 := ⟨ "slices.reverseRangeCmpFunc[[]int]", by kernel_rfl, by kernel_rfl⟩
  f25 := ⟨ "slices.partialInsertionSortCmpFunc[[]int]", by kernel_rfl, by kernel_rfl⟩
  f26 := ⟨ "slices.partitionEqualCmpFunc[[]int]", by kernel_rfl, by kernel_rfl⟩
  f27 := ⟨ "slices.partitionCmpFunc[[]int]", by kernel_rfl, by kernel_rfl⟩
  f28 := by kernel_rfl
  f29 := by kernel_rfl
  f46 := ⟨ "slices.siftDownCmpFunc[[]int]", by kernel_rfl, by kernel_rfl⟩
  f47 := by kernel_rfl
  f48 := by kernel_rfl
  f49 := ⟨ "slices.medianAdjacentCmpFunc[[]int]", by kernel_rfl, by kernel_rfl⟩
  f50 := ⟨ "slices.medianCmpFunc[[]int]", by kernel_rfl, by kernel_rfl⟩
  f57 := ⟨ "slices.order2CmpFunc[[]int]", by kernel_rfl, by kernel_rfl⟩
  t0 := by kernel_rfl
  a0 := fun w => by kernel_rfl
  z0 := fun w => by kernel_rfl
  v0 := fun w => by kernel_rfl
  t3 := by kernel_rfl
  a3 := fun w => by kernel_rfl
  z3 := fun w => by kernel_rfl
  v3 := fun w => by kernel_rfl
  t4 := by kernel_rfl
  a4 := fun w => by kernel_rfl
  z4 := fun w => by kernel_rfl
  v4 := fun w => by kernel_rfl
  t5 := by kernel_rfl
  a5 := fun w => by kernel_rfl
  z5 := fun w => by kernel_rfl
  v5 := fun w => by kernel_rfl
  t9 := by kernel_rfl
  a9 := fun w => by kernel_rfl
  z9 := fun w => by kernel_rfl
  v9 := fun w => by kernel_rfl
  t22 := by kernel_rfl
  a22 := fun w => by kernel_rfl
  z22 := fun w => by kernel_rfl
  v22 := fun w => by kernel_rfl
  a24 := fun w => by kernel_rfl
  z24 := fun w => by kernel_rfl
  t25 := by kernel_rfl
  a25 := fun w => by kernel_rfl
  z25 := fun w => by kernel_rfl
  v25 := fun w => by kernel_rfl
  t39 := by kernel_rfl
  a39 := fun w => by kernel_rfl
  z39 := fun w => by kernel_rfl
  v39 := fun w => by kernel_rfl
  t45 := by kernel_rfl
  a45 := fun w => by kernel_rfl
  z45 := fun w => by kernel_rfl
  v45 := fun w => by kernel_rfl
  t46 := by kernel_rfl
  a46 := fun w => by kernel_rfl
  z46 := fun w => by kernel_rfl
  v46 := fun w => by kernel_rfl
  t50 := by kernel_rfl
  a50 := fun w => by kernel_rfl
  z50 := fun w => by kernel_rfl
  v50 := fun w => by kernel_rfl
  t53 := by kernel_rfl
  a53 := fun w => by kernel_rfl
  z53 := fun w => by kernel_rfl
  v53 := fun w => by kernel_rfl
  t55 := by kernel_rfl
  a55 := fun w => by kernel_rfl
  z55 := fun w => by kernel_rfl
  v55 := fun w => by kernel_rfl
  t66 := by kernel_rfl
  a66 := fun w => by kernel_rfl
  z66 := fun w => by kernel_rfl
  v66 := fun w => by kernel_rfl
  t70 := by kernel_rfl
  a70 := fun w => by kernel_rfl
  z70 := fun w => by kernel_rfl
  v70 := fun w => by kernel_rfl
  t76 := by kernel_rfl
  a76 := fun w => by kernel_rfl
  z76 := fun w => by kernel_rfl
  v76 := fun w => by kernel_rfl
  t77 := by kernel_rfl
  a77 := fun w => by kernel_rfl
  z77 := fun w => by kernel_rfl
  v77 := fun w => by kernel_rfl

end Go.Proofs.Ytoiiadiimfohiaa

/- Contract: slices.SortFunc with slices.Compare over a list of rows that the call owns: they are the same rows, in some order. -/

namespace Go.Proofs.Ytoiiadiimfohiaa
open Go.RowKit Go.Shelf Go.Lib Go.Sort

/-- A row of n bells that the call owns. -/
structure El (w : World) (base n : Nat) where
  v : Value
  xs : List Int
  own : w.ownsRow base 3 1 v n (xs.map (Value.int .i64))

theorem El.len {w : World} {base n : Nat} (e : El w base n) : e.xs.length = n := by have := e.own.1; simpa using this

theorem els {w : World} {base n : Nat} : ∀ {vs : List Value} {X : List (List Int)}, OwnAll w base vs X → (∀ x, x ∈ X → x.length = n) → ∃ l : List (El w base n), l.map El.v = vs ∧ l.map El.xs = X
  | [], [], _, _ => ⟨[], rfl, rfl⟩
  | [], _ :: _, h, _ => h.elim
  | _ :: _, [], h, _ => h.elim
  | v :: vs, x :: X, h, hx => by
    obtain ⟨l, h1, h2⟩ := els (vs := vs) (X := X) h.2 (fun y hy => hx y (List.mem_cons_of_mem _ hy))
    have hl : x.length = n := hx x List.mem_cons_self
    refine ⟨⟨v, x, by have := h.1; rw [hl] at this; exact this⟩ :: l, ?_, ?_⟩
    · rw [List.map_cons, h1]
    · rw [List.map_cons, h2]

section
variable {α : Type} [Inhabited α]

theorem sw_block (enc : α → Value) (w : World) (blk off m : Nat) (dk : Array α) (os : Array Obj) {b : Nat} (hne : b ≠ blk) (hb : b < w.heap.size) : (sortWorld enc w blk off m dk os).heap[b]? = w.heap[b]? := by
  unfold sortWorld grow putRow mapBlock Sort.ahead
  simp only
  rw [Array.getElem?_append_left (by simpa using hb), Array.getElem?_modify, if_neg (fun e => hne e.symm)]

theorem sw_own (enc : α → Value) (w : World) (blk off m : Nat) (dk : Array α) (os : Array Obj) {base e size n : Nat} {v : Value} {xs : List Value} (h : w.ownsRow base e size v n xs) (hne : ∀ g, v.ownBlock = some g → g ≠ blk) : (sortWorld enc w blk off m dk os).ownsRow base e size v n xs := by
  refine ⟨h.1, ?_⟩
  rcases h.2 with h2 | ⟨g, cap, cur, hv, hgg, hh, r⟩
  · exact Or.inl h2
  · refine Or.inr ⟨g, cap, cur, hv, hgg, ?_, r⟩
    rw [sw_block enc w blk off m dk os (hne g (by rw [hv]; rfl)) (Array.getElem?_eq_some_iff.1 hh).1]
    exact hh

theorem sw_row (enc : α → Value) (w : World) (blk m : Nat) (dk : Array α) (os : Array Obj) {cur : Array Value} {e : TypeId} (h : w.heap[blk]? = some (.cells cur e (0, 0))) : (sortWorld enc w blk 0 m dk os).heap[blk]? = some (.cells (putCells enc 0 dk cur) e (0, 0)) := by
  have hb := (Array.getElem?_eq_some_iff.1 h).1
  unfold sortWorld grow putRow mapBlock Sort.ahead
  simp only
  rw [Array.getElem?_append_left (by simpa using hb), Array.getElem?_modify, if_pos rfl, h]
  rfl

theorem put_take (enc : α → Value) (dk : Array α) (cur : Array Value) (h : dk.size ≤ cur.size) : (putCells enc 0 dk cur).toList.take dk.size = dk.toList.map enc := by
  refine List.ext_getElem (by simp [putCells]; omega) (fun i h1 h2 => ?_)
  have hi : i < dk.size := by simpa using h2
  simp only [putCells, List.getElem_take, Array.toList_mapIdx, List.getElem_mapIdx, List.getElem_map, Array.getElem_toList]
  rw [if_pos ⟨Nat.zero_le _, by omega⟩, Nat.sub_zero, getElem!_pos dk i hi]
end

theorem all_of_els {w' : World} {base w0b n : Nat} {w : World} : ∀ (l : List (El w w0b n)), (∀ e : El w w0b n, w'.ownsRow base 3 1 e.v n (e.xs.map (Value.int .i64))) → OwnAll w' base (l.map El.v) (l.map El.xs)
  | [], _ => trivial
  | e :: l, h => by
    refine ⟨?_, all_of_els l h⟩
    have h9 := h e
    have hl := e.len
    cases e with
    | mk v xs own =>
      simp only at h9 hl
      show w'.ownsRow base 3 1 v xs.length (xs.map (Value.int .i64))
      rw [hl]
      exact h9

set_option maxRecDepth 20000 in
set_option maxHeartbeats 2000000 in
theorem sort_ok (n base : Nat) (u : Value) (vs : List Value) (X : List (List Int)) (w : World) (hLL : LL w base u vs X) (hX : ∀ x, x ∈ X → x.length = n) (h1 : 1 ≤ n) (hN : 1 ≤ X.length) (hN2 : X.length ≤ 40000) :
    Calls Try.prog 33 #[u, .func (.func 34) #[] #[]] w fun e w' => e = .returned (.tuple #[]) ∧ ∃ vs' X', (X'.Perm X ∧ X'.Pairwise (fun a b => 0 ≤ lcmp b a)) ∧ LL w' base u vs' X' ∧ Below base w w' := by
  obtain ⟨l, hv, hx⟩ := els hLL.all hX
  have hll : l.length = X.length := by rw [← hx, List.length_map]
  have hne : l ≠ [] := fun e => by rw [e] at hll; simp at hll; omega
  haveI : Inhabited (El w base n) := ⟨l.head hne⟩
  have hvl : vs.length = l.length := by rw [← hv, List.length_map]
  have hrow := hLL.row
  rcases hrow.2 with ⟨_, h0⟩ | ⟨g, cap, cur, hu, hgb, hh, hc1, hc2, hcs, hct⟩
  · omega
  have hg := (Array.getElem?_eq_some_iff.1 hh).1
  have hoff : ∀ (e : El w base n) g', e.v.ownBlock = some g' → g' ≠ g := by
    intro e g' hg' e'
    have h9 := e.own.2
    rcases h9 with ⟨h9, h0⟩ | ⟨g2, cap2, cur2, hv2, _, hh2, _⟩
    · rw [h9] at hg'; cases hg'
    · rw [hv2] at hg'
      have e2 : g2 = g' := by cases hg'; rfl
      rw [e2, e', hh] at hh2
      cases hh2
  have hcmp : CmpLays1 Try.prog 34 #[] (El.v (w := w) (base := base) (n := n)) (fun x y => lcmp x.xs y.xs) g 0 l.toArray.size w := by
    intro m os dk _ x y
    have i1 := Ints.own (sw_own El.v w g 0 m dk os x.own (hoff x))
    have i2 := Ints.own (sw_own El.v w g 0 m dk os y.own (hoff y))
    refine (compare_ok x.v y.v x.xs y.xs (sortWorld El.v w g 0 m dk os) i1 i2 (by rw [x.len]; exact h1) (by rw [x.len, y.len])).mono ?_
    rintro e w' ⟨rfl, rfl⟩
    exact ⟨rfl, 0, #[], by simp [World.drewN]⟩
  have hO : SWO (ltOf (fun x y : El w base n => lcmp x.xs y.xs)) := by
    refine ⟨fun x => ?_, fun x y z a1 a2 => ?_, fun x y z a1 a2 => ?_⟩
    · show decide (lcmp x.xs x.xs < 0) = false
      rw [lcmp_self]; decide
    · unfold ltOf at *; exact decide_eq_true (lcmp_trans _ _ _ (of_decide_eq_true a1) (of_decide_eq_true a2))
    · unfold ltOf at *; exact decide_eq_false (lcmp_ntrans _ _ _ (of_decide_eq_false a1) (of_decide_eq_false a2))
  have h1c : OneCell (El.v (w := w) (base := base) (n := n)) := fun x => by
    obtain ⟨p, c, e⟩ := owns_slice x.own
    rw [e]; rfl
  have hH : Holds (El.v (w := w) (base := base) (n := n)) w g 0 l.toArray := by
    intro j hj
    have hj' : j < l.length := by simpa using hj
    refine ⟨?_, by simp [World.frozen?, hh]⟩
    rw [hu] at hrow
    rw [Nat.zero_add, owns_val hrow (by omega), getElem!_pos _ j hj, ← hv]
    simp [List.getD, hj']
  have eg : ∀ args w, (callFunc 34 args).run Try.prog w = .ok (.enter 34 args) w := enters_of Try.func34 (by kernel_rfl) rfl
  have hcon := Any.slices_SortFunc laysS (El.v (w := w) (base := base) (n := n)) h1c (fun x y => lcmp x.xs y.xs) hO 34 #[] g 0 cap l.toArray w eg hcmp hH hg (by simp; omega)
  have hsz : l.toArray.size = vs.length := by simp [hvl]
  rw [hsz] at hcon
  rw [hu]
  refine Calls.mono (show Calls Try.prog 33 _ _ _ from hcon) ?_
  rintro e w' ⟨rfl, d', k, os, hp, hso, rfl⟩
  have hds : d'.size = vs.length := by rw [hp.1, hsz]
  have hperm : d'.toList.Perm l := by
    have h9 := hp.2.2
    have e1 : (d'.extract 0 vs.length).toList = d'.toList := by rw [← hds]; simp
    have e2 : (l.toArray.extract 0 vs.length).toList = l := by rw [← hsz]; simp
    rw [e1, e2] at h9
    exact h9
  refine ⟨rfl, d'.toList.map El.v, d'.toList.map El.xs, ⟨?_, ?_⟩, ⟨?_, ?_⟩, ?_⟩
  · rw [← hx]; exact hperm.map _
  · rw [List.pairwise_map, List.pairwise_iff_getElem]
    intro i j hi hj hij
    have hi' : i < d'.size := by simpa using hi
    have hj' : j < d'.size := by simpa using hj
    have h9 := hso i j (Nat.zero_le _) hij (by omega)
    rw [getElem!_pos d' i hi', getElem!_pos d' j hj'] at h9
    unfold ltOf at h9
    exact Int.not_lt.1 (of_decide_eq_false h9)
  · have hlen : (d'.toList.map El.v).length = vs.length := by simp [hds]
    rw [hlen]
    refine ⟨by rw [hlen, Nat.mul_one], Or.inr ⟨g, cap, putCells El.v 0 d' cur, rfl, hgb, sw_row El.v w g k d' os hh, hc1, hc2, ?_, ?_⟩⟩
    · rw [← hcs]; simp [putCells]
    · rw [Nat.mul_one, ← hds]
      exact put_take El.v d' cur (by rw [hds, hcs, Nat.mul_one]; exact hc1)
  · exact all_of_els d'.toList (fun e => sw_own El.v w g 0 k d' os e.own (hoff e))
  · refine ⟨rfl, rfl, rfl, ?_, fun b hb => sw_block El.v w g 0 k d' os (by omega) (by omega)⟩
    unfold sortWorld grow putRow mapBlock Sort.ahead
    simp

end Go.Proofs.Ytoiiadiimfohiaa

/- Contract: slices.SortFunc with slices.Compare over a list of rows that the call owns, none among them too. -/
namespace Go.Proofs.Ytoiiadiimfohiaa
open Go.RowKit Go.Shelf

theorem sort_any (n base : Nat) (u : Value) (vs : List Value) (X : List (List Int)) (w : World) (hLL : LL w base u vs X) (hX : ∀ x, x ∈ X → x.length = n) (h1 : 1 ≤ n) (hN2 : X.length ≤ 40000) :
    Calls Try.prog 33 #[u, .func (.func 34) #[] #[]] w fun e w' => e = .returned (.tuple #[]) ∧ ∃ vs' X', (X'.Perm X ∧ X'.Pairwise (fun a b => 0 ≤ lcmp b a)) ∧ LL w' base u vs' X' ∧ Below base w w' := by
  by_cases hN : 1 ≤ X.length
  · exact sort_ok n base u vs X w hLL hX h1 hN hN2
  · have hv0 : vs.length = 0 := by rw [hLL.len]; omega
    obtain ⟨p, c, hu⟩ := owns_slice hLL.row
    have hS := AnyF.slices_SortFunc_none (P := Try.prog) (ρ := rnS) { laysS with } p c (.func (.func 34) #[] #[]) w
    rw [hu, hv0]
    refine Calls.mono (show Calls Try.prog 33 _ _ _ from hS) ?_
    rintro e w' ⟨rfl, rfl⟩
    refine ⟨rfl, vs, X, ⟨List.Perm.refl _, by rw [List.length_eq_zero_iff.1 (show X.length = 0 by omega)]; exact List.Pairwise.nil⟩, ?_, Below.refl _ _⟩
    rw [hu, hv0] at hLL
    exact hLL

end Go.Proofs.Ytoiiadiimfohiaa

/- Contract: truth.False. -/
namespace Go.Proofs.Ytoiiadiimfohiaa
open Go.RowKit Go.Maps

def FalsePost (n : Nat) (ts : List (List Bool)) (w : World) (e : Ending) (w' : World) : Prop :=
  ∃ u vs X t, e = .returned (.tuple #[u, .bool t, .int .i64 0]) ∧ (X.Perm (hds n (ldr n ts)) ∧ X.Pairwise (fun a b => 0 ≤ lcmp b a)) ∧ LL w' w.heap.size u vs X ∧ (t = false ↔ (ldr n ts).Nodup) ∧ Below w.heap.size w w'

set_option maxRecDepth 20000 in
set_option maxHeartbeats 4000000 in
theorem false_ok (s : ByteArray) (n : Nat) (v : Value) (ts : List (List Bool)) (w : World) (hs : s.size ≤ 9223372036854775807) (hn : nm s = true) (h1 : 2 ≤ n) (h2 : n ≤ 12) (hl1 : 1 ≤ ts.length) (hl2 : ts.length ≤ 200) (hts : ∀ t, t ∈ ts → tsz t = n)
    (hv : IntsAll w v (ts.map tpl)) :
    Calls Try.prog 11 #[meth s n v] w (FalsePost n ts w) := by
  have HLD := hide (fun W (hb : Below w.heap.size w W) => lead_ok s n v ts W hs hn h1 h2 hl1 hl2 hts (hv.below hb))
  have hlm : (ts.map tpl).length = ts.length := List.length_map _
  obtain ⟨pv, cv, hve⟩ := hv.len
  rw [hlm] at hve
  subst hve
  have HRW := hide (ldr_rows hts)
  have HRL := hide (ldr_length n ts)
  have HLT := hide (leadTo_length n ts ts.length)
  clear hn hv hts hlm
  unfold meth
  unfold meth at HLD
  go_enter Try.func11, Try.ntmps11
  go_wp2_with fail
  refine (HLD.out _ ((Below.refl _ _).alloc (Nat.le_refl _) _)).mono ?_
  rintro e w1 ⟨u, vs, rfl, hL1, hb1⟩
  have hB1 : Below w.heap.size w w1 := ((Below.refl _ _).alloc (Nat.le_refl _) _).trans (hb1.mono (by simp))
  have hx := (Box.start w s n (.slice pv ts.length cv) 24).below hb1
  have g2 := hx.c2
  have hvl : vs.length = ts.length + 1 := by rw [hL1.len, HLT.out]
  have hr1 := hL1.row
  rw [hvl] at hr1
  obtain ⟨gu, cu, rfl, hgu1, hgu2, hcu1, hcu2⟩ := owns_form hr1 (by omega)
  have hI := hL1.front hvl (k := ts.length) (by omega) hl1 hgu2 hcu1 hcu2
  rw [show (leadTo n ts ts.length).take ts.length = ldr n ts from rfl] at hI
  have HRP := hide (repeated_ok n _ (ldr n ts) w1 hI (by omega) h2 HRW.out (by rw [HRL.out]; exact hl1) (by rw [HRL.out]; omega))
  have HBT := hide (fun W (hb : Below w1.heap.size w1 W) => between_ok n _ (ldr n ts) W (hI.below hb) (by omega) h2 HRW.out (by rw [HRL.out]; exact hl1) (by rw [HRL.out]; exact hl2))
  have hbs1 := hB1.size
  have HHL : Hid ((hds n (ldr n ts)).length ≤ 40000) := by
    have h3 := (hdsTo_fact n (pr (ldr n ts))).2.2
    rw [pr_length, HRL.out] at h3
    have h4 : ts.length * ts.length ≤ 200 * 200 := Nat.mul_le_mul hl2 hl2
    show (hdsTo n (pr (ldr n ts))).length ≤ 40000
    omega
  have HHR : Hid (∀ x, x ∈ hds n (ldr n ts) → x.length = n) := fun x hx => (pr_rows HRW.out x (((hdsTo_fact n (pr (ldr n ts))).2.1 x).1 hx).1).len
  clear hL1 hb1 HLD hx hvl hr1 hI
  go_wp2_with fail
  refine HRP.out.mono ?_
  rintro e w2 ⟨i, j, t, rfl, hnd, hb2⟩
  have HND := hide hnd
  clear hnd HRP
  go_wp2_with fail
  refine (HBT.out w2 hb2).mono ?_
  rintro e w3 ⟨hd, hvs, rfl, hL3, hb3⟩
  have hB2 : Below w.heap.size w w2 := hB1.trans (hb2.mono hbs1)
  have hL3' := hL3.low hB2.size
  have hB3 : Below w.heap.size w w3 := hB2.trans (hb3.mono hB2.size)
  have HSO := hide (sort_any n w.heap.size hd hvs (hds n (ldr n ts)) w3 hL3' HHR.out (by omega) HHL.out)
  obtain ⟨hp, hc, rfl⟩ := owns_slice hL3.row
  clear HBT hL3 hL3' hb2 hb3
  go_wp2_with fail
  refine HSO.out.mono ?_
  rintro e w4 ⟨rfl, vs', X', hpm, hL4, hb4⟩
  have HP : Hid (FalsePost n ts w (.returned (.tuple #[.slice hp hvs.length hc, .bool t, .int .i64 0])) w4) := ⟨_, vs', X', t, rfl, hpm, hL4, HND.out, hB3.trans hb4⟩
  clear hpm hL4 hb4 HSO HND
  go_wp2
  go_ret3
  exact HP.out

end Go.Proofs.Ytoiiadiimfohiaa
