/- Joined: ExN, TtC, ExJ, ExP. -/
import Derived.Test.YtimfoggjocajiaaJ13
import Derived.Test.YtimfoggjocajiaaJ4
import Derived.Test.YtimfoggjocajiaaJ9
import Derived.Test.YtimfoggjocajiaaJ11
import Derived.Test.YtimfoggjocajiaaJ10
import Derived.Test.YtimfoggjocajiaaJ3
/- Contract: the answer's Circuits. -/
namespace Go.Proofs.Ytimfoggjocajiaa
open Go.RowKit

theorem filter_lt {p q : Nat → Bool} : ∀ (l : List Nat), (∀ i, i ∈ l → q i = true → p i = true) → (∃ m, m ∈ l ∧ p m = true ∧ q m = false) → (l.filter q).length < (l.filter p).length
  | [], _, ⟨m, h, _⟩ => by cases h
  | a :: l, h, ⟨m, hm, hp, hq⟩ => by
    have hle : (l.filter q).length ≤ (l.filter p).length := by
      have : ∀ l : List Nat, (∀ i, i ∈ l → q i = true → p i = true) → (l.filter q).length ≤ (l.filter p).length := fun l => by
        induction l with
        | nil => intro _; simp
        | cons b l ih =>
          intro h
          have := ih (fun i hi => h i (List.mem_cons_of_mem _ hi))
          rw [List.filter_cons, List.filter_cons]
          by_cases hb : q b = true
          · rw [if_pos hb, if_pos (h b List.mem_cons_self hb)]; simp; omega
          · rw [if_neg hb]
            split
            · simp; omega
            · exact this
      exact this l (fun i hi => h i (List.mem_cons_of_mem _ hi))
    rw [List.filter_cons, List.filter_cons]
    rcases List.mem_cons.1 hm with e | e
    · subst e
      rw [if_neg (by rw [hq]; decide), if_pos hp]
      simp; omega
    · have ih := filter_lt l (fun i hi => h i (List.mem_cons_of_mem _ hi)) ⟨m, e, hp, hq⟩
      by_cases hb : q a = true
      · rw [if_pos hb, if_pos (h a List.mem_cons_self hb)]; simp; omega
      · rw [if_neg hb]
        split
        · simp; omega
        · exact ih

/-- How many are not marked yet. -/
noncomputable def unm (D N : Nat) (w : World) : Nat := open Classical in ((List.range N).filter (fun i => decide (w.cell? ⟨D, i, none⟩ = some (.int .i64 0)))).length

theorem unm_set {w : World} {D N m : Nat} {zs : List Int} (h : w.ownsRow D 3 1 (.slice (some ⟨D, 0, none⟩) N N) N (zs.map (Value.int .i64))) (hm : m < N) (h0 : zs.getD m 0 = 0) : unm D N (w.setCell ⟨D, m, none⟩ (.int .i64 1)) < unm D N w := by
  classical
  have h2 := owns_set_int (m := m) h 1
  have hl : zs.length = N := by have h9 := h.1; rw [List.length_map] at h9; omega
  refine filter_lt _ (fun i hi hq => ?_) ⟨m, List.mem_range.2 hm, decide_eq_true ?_, decide_eq_false ?_⟩
  · have hi' := List.mem_range.1 hi
    have hq' := of_decide_eq_true hq
    rw [(owns_cell h2 hi').1, getD_set (by omega)] at hq'
    refine decide_eq_true ?_
    rw [(owns_cell h hi').1]
    by_cases e : m = i
    · rw [if_pos e] at hq'; simp at hq'
    · rw [if_neg e] at hq'; exact hq'
  · rw [(owns_cell h hm).1, h0]
  · rw [(owns_cell h2 hm).1, getD_set (by omega), if_pos rfl]
    simp

set_option maxRecDepth 20000 in
set_option maxHeartbeats 8000000 in
theorem rcirc_ok (n : Nat) (G : Pm → Prop) (X : List Pm) (a b : Pm) (vR vx vy vc : Value) (cs : List Int) (w : World) (hR : Rws n G X) (ha : G a) (hb : G b) (hX : IntsAll w vR (X.map (cut n))) (hx : Ints w vx (cut n a)) (hy : Ints w vy (cut n b)) (hc : Ints w vc cs) (hcl : cs.length = (qs X a b).length) :
    Calls Try.prog 51 #[vR, vx, vy, vc] w fun e w' => e = .returned (.int .i64 (((cycsTo (nxL X a b (qs X a b) cs) X.length).length : Nat) : Int)) ∧ Below w.heap.size w w' := by
  obtain ⟨j0, hji, hjz0, hjz1, hjz2⟩ := info_parts Try.info3
  have hmm := @run_makeMap Try.prog
  have h1 := hR.one
  have h12 := hR.twelve
  have hpos := hR.pos
  have hfew := hR.few
  have hfa := hR.fix a ha
  have hfb := hR.fix b hb
  have HQs := hide (rqsets_ok n G X a b vR vx vy w hR ha hb hX hx hy)
  obtain ⟨pR, cR, eR⟩ := hX.len
  rw [List.length_map] at eR
  subst eR
  obtain ⟨gR, oR, epR, -, hR1, hR2, hR3, hR4⟩ := hX.rowI (by rw [List.length_map]; exact hpos)
  subst epR
  rw [List.length_map] at hR1
  have HCL : Hid (∀ W, Below w.heap.size w W → ∀ i p, X[i]? = some p → ∃ pp cc, W.cell? ⟨gR, oR + i, none⟩ = some (.slice pp n cc) ∧ Ints W (.slice pp n cc) (cut n p)) := fun W hW i p hp => by
    obtain ⟨u, hu, hI⟩ := hR4 i (cut n p) (by rw [List.getElem?_map, hp]; rfl)
    obtain ⟨pp, cc, e⟩ := hI.form
    rw [cut_length h12] at e
    subst e
    exact ⟨pp, cc, (hW.cell (p := ⟨gR, oR + i, none⟩) hR3).trans hu, hI.below hW⟩
  obtain ⟨px, cx, ex1⟩ := hx.form
  rw [cut_length h12] at ex1
  subst ex1
  obtain ⟨py, cy, ey1⟩ := hy.form
  rw [cut_length h12] at ey1
  subst ey1
  obtain ⟨pc, cc, ec1⟩ := hc.form
  subst ec1
  have HX := hide hx
  have HY := hide hy
  have HC := hide hc
  have HRw := hide hR
  have HSts : Hid (Sts X.length (nx (mv X (a * b⁻¹))) (qs X a b)) := qs_sts hR ha hb
  have HNR := hide (nxL_row hR ha hb cs)
  have HFX : Hid (∀ i p, X[i]? = some p → Fixes (fun b => n ≤ b) p) := fun i p hp => hR.fix p ((hR.mem p).1 (List.mem_of_getElem? hp))
  have HTG : Hid (∀ (c : Int) (d : Pm) (i : Nat) (p : Pm), (c = 1 ∧ d = b) ∨ (c ≠ 1 ∧ d = a) → X[i]? = some p → p * d ∈ X ∧ Fixes (fun b => n ≤ b) (p * d) ∧ tgt X a b c i = ((ix X (p * d) : Nat) : Int)) := fun c d i p hcd hp => by
    have hpG := (hR.mem p).1 (List.mem_of_getElem? hp)
    rcases hcd with ⟨e1, e2⟩ | ⟨e1, e2⟩
    · subst e2
      refine ⟨hR.cls hb p (List.mem_of_getElem? hp), hR.fix _ (hR.sub.mul hpG hb), ?_⟩
      unfold tgt
      rw [if_pos e1, List.getD, mv_get hp]; rfl
    · subst e2
      refine ⟨hR.cls ha p (List.mem_of_getElem? hp), hR.fix _ (hR.sub.mul hpG ha), ?_⟩
      unfold tgt
      rw [if_neg e1, List.getD, mv_get hp]; rfl
  have HNL := hide (nxL_length X a b (qs X a b) cs)
  clear hx hy hR ha hb hX hR4 hc
  generalize hN : X.length = N at *
  have HN := hide hN
  clear hN
  generalize hal : (qs X a b).length = al at *
  have HAL := hide hal
  rw [hcl] at HC
  clear hal
  generalize hcl9 : cs.length = cl at *
  subst hcl
  have HCLN := hide hcl9
  clear hcl9
  go_enter Try.func51, Try.ntmps51
  go_wp2_with fail
  refine HQs.out.mono ?_
  rintro ex w1 ⟨u1, rfl, hI1, hb1⟩
  have HI1 := hide hI1
  have HB1 := hide hb1
  obtain ⟨pl, cl2, el⟩ := hI1.len
  rw [HAL.out] at el
  subst el
  have HM0 : Hid (IMap (w1.alloc (.map #[] 0)) w1.heap.size 0 (fun _ => none)) := IMap.made w1
  have HB0 : Hid (Below w1.heap.size w1 (w1.alloc (.map #[] 0))) := (Below.refl _ _).alloc (Nat.le_refl _) _
  clear hI1 hb1 HQs
  go_wp2
  go_loopw [11] (fun si wr => ∃ (i : Nat) (F : Int → Option Value), i ≤ N ∧ si = .int .i64 (i : Int) ∧ IMap wr w1.heap.size i F ∧ Hid (PlTo n X i F) ∧ Below w1.heap.size w1 wr) (fun si _ => N - (intOf si).toNat)
  case atStart => exact ⟨0, _, Nat.zero_le _, rfl, HM0.out, fun j p hj => absurd hj (by omega), HB0.out⟩
  case round =>
    clear HM0 HB0
    obtain ⟨i, F, hiN, rfl, hM, hP, hbi⟩ := hrel
    have hBi := HB1.out.trans (hbi.mono HB1.out.size)
    by_cases hlt : i < N
    · obtain ⟨p, hp⟩ : ∃ p, X[i]? = some p := ⟨_, List.getElem?_eq_getElem (by rw [HN.out]; exact hlt)⟩
      obtain ⟨pp, cc2, hcp, hIp⟩ := HCL.out wr hBi i p hp
      have HRk := hide (rcut_rank n p (.slice pp n cc2) wr h1 h12 (HFX.out i p hp) hIp)
      have hrk := rkP_le (n := n) p h12
      have HP2 : Hid (PlTo n X (i + 1) (upd F ((rkP n p : Nat) : Int) (.int .i64 (i : Int)))) := hP.out.step HRw.out hp
      have HM := hide hM
      have HBI := hide hbi
      generalize rkP n p = rk at *
      clear hM hP hp hIp hbi
      go_wp2_with fail
      refine HRk.out.mono ?_
      rintro ex w3 ⟨rfl, hb3⟩
      have HM3 := hide (HM.out.below hb3 HM.out.lt)
      have hcl3 : i < maxLen := by unfold maxLen; omega
      have HB3 := hide (HBI.out.trans (hb3.mono HBI.out.size))
      clear hb3 HRk HM HBI hBi
      go_wp2_with (at_mapUpdate; refine wpList_put rfl _ _ _ 108 rfl 3 Try.underlying108 HM3.out hcl3 ((rk : Nat) : Int) (.int .i64 (i : Int)) rfl rfl rfl (by omega) (by omega) ?_)
      intro w4 hM4 hg4
      have HM4 := hide hM4
      have HB4 := hide (HB3.out.grown hg4 HB3.out.size (fun k hk => by have := Option.some.inj hk; omega))
      clear hM4 hg4 HM3 HB3
      go_wp2
      go_roundw
      case rel =>
        have hfin : ∃ (i' : Nat) (F : Int → Option Value), i' ≤ N ∧ Value.int .i64 ((i : Int) + 1) = .int .i64 (i' : Int) ∧ IMap w4 w1.heap.size i' F ∧ Hid (PlTo n X i' F) ∧ Below w1.heap.size w1 w4 := ⟨i + 1, _, hlt, by go_num, HM4.out, HP2, HB4.out⟩
        first
          | exact hfin
          | ((repeat apply Exists.intro); exact ⟨hfin, rfl⟩)
      case measure => simp [intOf]; omega
    · obtain rfl : N = i := by omega
      obtain ⟨w2, hw2⟩ : ∃ w2, w2 = wr := ⟨_, rfl⟩
      subst hw2
      have HM2 := hide hM
      have HB2 := hide hBi
      have HI2 := hide (HI1.out.below hbi)
      clear hM hBi hbi HI1
      go_wp2_with (at_make; refine wpList_make_full _ rfl _ _ 23 rfl w2.heap.size 3 j0 (.int .i64 0) 1 Try.underlying23 hji hjz0 hjz1 _ _ _ _ N rfl rfl (by omega) (by omega) ?b2 ?b3 (Nat.le_refl _) ?_)
      case b2 => rw [hjz2]; omega
      case b3 => unfold maxLen; omega
      intro w3 hown3 hg3
      rw [made_ints] at hown3
      have HO3 := hide hown3
      have HB3 : Hid (Below w2.heap.size w2 w3) := (Below.refl _ _).grown hg3 (Nat.le_refl _) (fun k h => by cases h)
      have HNX0 : Hid (NxTo X a b (qs X a b) cs 0 0 (List.replicate N 0)) := NxTo.start _ _ _ _ _ _ (by rw [List.length_replicate, HN.out])
      clear hown3 hg3
      go_wp2
      go_loopw [13] (fun sk wr => ∃ (k : Nat) (zs : List Int), k ≤ cl ∧ sk = .int .i64 (k : Int) ∧ Hid (wr.ownsRow w2.heap.size 3 1 (.slice (some ⟨w2.heap.size, 0, none⟩) N N) N (zs.map (Value.int .i64))) ∧ Hid (NxTo X a b (qs X a b) cs k 0 zs) ∧ Below w2.heap.size w2 wr) (fun sk _ => cl - (intOf sk).toNat)
      case atStart => exact ⟨0, _, Nat.zero_le _, rfl, HO3, HNX0, HB3.out⟩
      case round =>
        clear HO3 HNX0 HB3
        obtain ⟨k, zs, hk, rfl, hO, hNx, hbk⟩ := hrel
        by_cases hlt : k < cl
        · obtain ⟨S, hS⟩ : ∃ S, (qs X a b)[k]? = some S := ⟨_, List.getElem?_eq_getElem (by rw [HAL.out]; exact hlt)⟩
          obtain ⟨gl, ol, epl, -, hl1, hl2, hl3, hl4⟩ := HI2.out.rowI (by rw [HAL.out]; omega)
          rw [HAL.out] at hl1
          subst epl
          obtain ⟨uS, hcS0, hIS⟩ := hl4 k S hS
          obtain ⟨pS, cS, epS⟩ := hIS.form
          obtain ⟨sl, hsl⟩ : ∃ sl, sl = S.length := ⟨_, rfl⟩
          rw [← hsl] at epS
          subst epS
          have HSL := hide hsl
          have HS := hide hS
          have HIS := hide hIS
          obtain ⟨bc, oc, epc, kc1, kc2, kc3, kc4⟩ := HC.out.open (by rw [HCLN.out]; omega)
          rw [HCLN.out] at kc1 kc4
          subst epc
          obtain ⟨c, hcv⟩ : ∃ c, c = cs.getD k 0 := ⟨_, rfl⟩
          have HCV := hide hcv
          have hBw := fun W (hW : Below w2.heap.size w2 W) => HB2.out.trans (hW.mono HB2.out.size)
          have HCC : Hid (∀ W, Below w2.heap.size w2 W → W.cell? ⟨bc, oc + k, none⟩ = some (.int .i64 c)) := fun W hW => by rw [hcv]; exact ((hBw W hW).cell (p := ⟨bc, oc + k, none⟩) kc3).trans (kc4 k hlt)
          have HBw := hide hBw
          have HCS : Hid (∀ W, Below w2.heap.size w2 W → W.cell? ⟨gl, ol + k, none⟩ = some (.slice pS sl cS)) := fun W hW => (hW.cell (p := ⟨gl, ol + k, none⟩) hl3).trans hcS0
          have HO := hO
          have HNx := hNx
          have HBK := hide hbk
          clear hl4 hcS0 hIS hS kc4 hsl hcv hBw hO hNx hbk
          go_wp2
          go_loopw [14] (fun sj wr => ∃ (j : Nat) (zs : List Int), j ≤ sl ∧ sj = .int .i64 (j : Int) ∧ Hid (wr.ownsRow w2.heap.size 3 1 (.slice (some ⟨w2.heap.size, 0, none⟩) N N) N (zs.map (Value.int .i64))) ∧ Hid (NxTo X a b (qs X a b) cs k j zs) ∧ Below w2.heap.size w2 wr) (fun sj _ => sl - (intOf sj).toNat)
          case atStart => exact ⟨0, zs, Nat.zero_le _, rfl, HO, HNx, HBK.out⟩
          case round =>
            clear HO HNx HBK
            obtain ⟨j, zs, hj, rfl, hO, hNx, hbj⟩ := hrel
            have hc1 := HCS.out wr hbj
            have hcc := HCC.out wr hbj
            by_cases hjs : j < sl
            · obtain ⟨y, hy⟩ : ∃ y, S[j]? = some y := ⟨_, List.getElem?_eq_getElem (by rw [← HSL.out]; exact hjs)⟩
              obtain ⟨r, hrN, er⟩ := HSts.out.below k S y HS.out (List.mem_of_getElem? hy)
              subst er
              obtain ⟨bS, oS, epS, ks1, ks2, ks3, ks4⟩ := HIS.out.open (by rw [← HSL.out]; omega)
              rw [← HSL.out] at ks1 ks4
              subst epS
              have hc2 : wr.cell? ⟨bS, oS + j, none⟩ = some (.int .i64 (r : Int)) := by
                have h9 := ks4 j hjs
                rw [List.getD, hy] at h9
                exact (hbj.cell (p := ⟨bS, oS + j, none⟩) ks3).trans h9
              obtain ⟨p, hp⟩ : ∃ p, X[r]? = some p := ⟨_, List.getElem?_eq_getElem (by rw [HN.out]; exact hrN)⟩
              obtain ⟨pp, cc2, hcp, hIp⟩ := HCL.out wr (HBw.out wr hbj) r p hp
              have hfp := HFX.out r p hp
              have hgl2 : gl < w2.heap.size := hl3
              have hbS2 : bS < w2.heap.size := ks3
              have hgR2 : gR < w2.heap.size := Nat.lt_of_lt_of_le hR3 HB2.out.size
              have key : ∀ (d : Pm) (pd : Option Addr) (cd : Nat), (c = 1 ∧ d = b) ∨ (c ≠ 1 ∧ d = a) → True := fun _ _ _ _ => trivial
              clear key
              by_cases hc1' : c = 1
              · obtain ⟨hmem, hfpd, htg⟩ := HTG.out c b r p (Or.inl ⟨hc1', rfl⟩) hp
                have hix : ix X (p * b) < N := by rw [← HN.out]; exact ix_lt hmem
                have HPK : Hid (F ((rkP n (p * b) : Nat) : Int) = some (.int .i64 ((ix X (p * b) : Nat) : Int))) := hP.out _ _ hix (ix_get hmem)
                have hrk := rkP_le (n := n) (p * b) h12
                have HNx2 : Hid (NxTo X a b (qs X a b) cs k (j + 1) (zs.set r ((ix X (p * b) : Nat) : Int))) := by
                  have h9 := hNx.out.step (show Sts X.length _ _ by rw [HN.out]; exact HSts.out) HS.out hy (by rw [HN.out]; exact hrN)
                  rw [← HCV.out, htg] at h9
                  exact h9
                have HFPD := hide hfpd
                have HFD := hide hfb
                have HID : Hid (∀ W, Below wr.heap.size wr W → Ints W (.slice py n cy) (cut n b)) := fun W hW => (HY.out.below (HBw.out wr hbj)).below hW
                have hceq : (c == 1) = true := by simpa using hc1'
                subst hc1'
                clear hmem hfpd htg hp hy
                have HBy := hide (fun W (hW : Below wr.heap.size wr W) => rcut_by n p b (.slice pp n cc2) (.slice py n cy) W h1 h12 hfp HFD.out (hIp.below hW) (HID.out W hW))
                have hd0 : Below wr.heap.size wr wr.drew := (Below.refl _ _).drew
                have HKP : Hid (∀ W, Below wr.heap.size wr W → (W.cell? ⟨gl, ol + k, none⟩ = some (.slice (some ⟨bS, oS, none⟩) sl cS) ∧ W.cell? ⟨bS, oS + j, none⟩ = some (.int .i64 (r : Int)) ∧ W.cell? ⟨gR, oR + r, none⟩ = some (.slice pp n cc2))) := fun W hW => ⟨(hW.cell (p := ⟨gl, ol + k, none⟩) (World.block_lt_of_cell? wr _ hc1)).trans hc1, (hW.cell (p := ⟨bS, oS + j, none⟩) (World.block_lt_of_cell? wr _ hc2)).trans hc2, (hW.cell (p := ⟨gR, oR + r, none⟩) (World.block_lt_of_cell? wr _ hcp)).trans hcp⟩
                have hcS := HKP.out wr (Below.refl _ _)
                have HMr : Hid (∀ W, Below wr.heap.size wr W → IMap W w1.heap.size N F) := fun W hW => (HM2.out.below hbj HM2.out.lt).below hW (Nat.lt_of_lt_of_le HM2.out.lt hbj.size)
                have HOr : Hid (∀ W, Below wr.heap.size wr W → W.ownsRow w2.heap.size 3 1 (.slice (some ⟨w2.heap.size, 0, none⟩) N N) N (zs.map (Value.int .i64))) := fun W hW => owns_below hO.out hW (Nat.le_refl _)
                have HBJ := hide hbj
                clear hIp hfp hO hNx
                go_upto_region 17 with fail
                refine wp_region_held_drew (S := fun W' => W'.cell? ⟨gl, ol + k, none⟩ = some (.slice (some ⟨bS, oS, none⟩) sl cS) ∧ W'.cell? ⟨bS, oS + j, none⟩ = some (.int .i64 (r : Int)) ∧ W'.cell? ⟨gR, oR + r, none⟩ = some (.slice pp n cc2)) (by kernel_rfl) hcS (fun hS => ?_)
                refine wpAnyH_take (i := 0) (v := .slice (some ⟨w2.heap.size, 0, none⟩) N N) rfl (by kernel_rfl) (by kernel_rfl) (by kernel_rfl) (fun _ _ _ h => h) (Or.inl ⟨by kernel_rfl, fun w' hS' => by clear hS'; go_simp⟩) hS ?_
                refine wpAnyH_take (i := 1) (v := .slice (some ⟨gl, ol, none⟩) cl cl2) rfl (by kernel_rfl) (by kernel_rfl) (by kernel_rfl) (fun _ _ _ h => h) (Or.inl ⟨by kernel_rfl, fun w' hS' => by clear hS'; go_simp⟩) hS ?_
                refine wpAnyH_take (i := 2) (v := .int .i64 (k : Int)) rfl (by kernel_rfl) (by kernel_rfl) (by kernel_rfl) (fun _ _ _ h => h) (Or.inl ⟨by kernel_rfl, fun w' hS' => by clear hS'; go_simp⟩) hS ?_
                refine wpAnyH_take (i := 3) (v := .pointer (some ⟨gl, ol + k, none⟩)) rfl (by kernel_rfl) (by kernel_rfl) (by kernel_rfl) (fun _ _ _ h => h) (Or.inl ⟨by kernel_rfl, fun w' hS' => by clear hS'; go_simp⟩) hS ?_
                refine wpAnyH_take (i := 4) (v := .slice (some ⟨bS, oS, none⟩) sl cS) rfl (by kernel_rfl) (by kernel_rfl) (by kernel_rfl) (fun _ _ _ h => h) (Or.inl ⟨by kernel_rfl, fun w' hS' => by obtain ⟨hS1', hS2', hS3'⟩ := hS'; go_simp⟩) hS ?_
                refine wpAnyH_take (i := 5) (v := .int .i64 (j : Int)) rfl (by kernel_rfl) (by kernel_rfl) (by kernel_rfl) (fun _ _ _ h => h) (Or.inl ⟨by kernel_rfl, fun w' hS' => by clear hS'; go_simp⟩) hS ?_
                refine wpAnyH_take (i := 6) (v := .pointer (some ⟨bS, oS + j, none⟩)) rfl (by kernel_rfl) (by kernel_rfl) (by kernel_rfl) (fun _ _ _ h => h) (Or.inl ⟨by kernel_rfl, fun w' hS' => by clear hS'; go_simp⟩) hS ?_
                refine wpAnyH_take (i := 7) (v := .int .i64 (r : Int)) rfl (by kernel_rfl) (by kernel_rfl) (by kernel_rfl) (fun _ _ _ h => h) (Or.inl ⟨by kernel_rfl, fun w' hS' => by obtain ⟨hS1', hS2', hS3'⟩ := hS'; go_simp⟩) hS ?_
                refine wpAnyH_take (i := 8) (v := .map (some w1.heap.size)) rfl (by kernel_rfl) (by kernel_rfl) (by kernel_rfl) (fun _ _ _ h => h) (Or.inl ⟨by kernel_rfl, fun w' hS' => by clear hS'; go_simp⟩) hS ?_
                refine wpAnyH_take (i := 9) (v := .slice (some ⟨gR, oR, none⟩) N cR) rfl (by kernel_rfl) (by kernel_rfl) (by kernel_rfl) (fun _ _ _ h => h) (Or.inl ⟨by kernel_rfl, fun w' hS' => by clear hS'; go_simp⟩) hS ?_
                refine wpAnyH_take (i := 10) (v := .slice (some ⟨gl, ol, none⟩) cl cl2) rfl (by kernel_rfl) (by kernel_rfl) (by kernel_rfl) (fun _ _ _ h => h) (Or.inl ⟨by kernel_rfl, fun w' hS' => by clear hS'; go_simp⟩) hS ?_
                refine wpAnyH_take (i := 11) (v := .int .i64 (k : Int)) rfl (by kernel_rfl) (by kernel_rfl) (by kernel_rfl) (fun _ _ _ h => h) (Or.inl ⟨by kernel_rfl, fun w' hS' => by clear hS'; go_simp⟩) hS ?_
                refine wpAnyH_take (i := 12) (v := .pointer (some ⟨gl, ol + k, none⟩)) rfl (by kernel_rfl) (by kernel_rfl) (by kernel_rfl) (fun _ _ _ h => h) (Or.inl ⟨by kernel_rfl, fun w' hS' => by clear hS'; go_simp⟩) hS ?_
                refine wpAnyH_take (i := 13) (v := .slice (some ⟨bS, oS, none⟩) sl cS) rfl (by kernel_rfl) (by kernel_rfl) (by kernel_rfl) (fun _ _ _ h => h) (Or.inl ⟨by kernel_rfl, fun w' hS' => by obtain ⟨hS1', hS2', hS3'⟩ := hS'; go_simp⟩) hS ?_
                refine wpAnyH_take (i := 14) (v := .int .i64 (j : Int)) rfl (by kernel_rfl) (by kernel_rfl) (by kernel_rfl) (fun _ _ _ h => h) (Or.inl ⟨by kernel_rfl, fun w' hS' => by clear hS'; go_simp⟩) hS ?_
                refine wpAnyH_take (i := 15) (v := .pointer (some ⟨bS, oS + j, none⟩)) rfl (by kernel_rfl) (by kernel_rfl) (by kernel_rfl) (fun _ _ _ h => h) (Or.inl ⟨by kernel_rfl, fun w' hS' => by clear hS'; go_simp⟩) hS ?_
                refine wpAnyH_take (i := 16) (v := .int .i64 (r : Int)) rfl (by kernel_rfl) (by kernel_rfl) (by kernel_rfl) (fun _ _ _ h => h) (Or.inl ⟨by kernel_rfl, fun w' hS' => by obtain ⟨hS1', hS2', hS3'⟩ := hS'; go_simp⟩) hS ?_
                refine wpAnyH_take (i := 17) (v := .pointer (some ⟨gR, oR + r, none⟩)) rfl (by kernel_rfl) (by kernel_rfl) (by kernel_rfl) (fun _ _ _ h => h) (Or.inl ⟨by kernel_rfl, fun w' hS' => by clear hS'; go_simp⟩) hS ?_
                refine wpAnyH_take (i := 18) (v := .slice pp n cc2) rfl (by kernel_rfl) (by kernel_rfl) (by kernel_rfl) (fun _ _ _ h => h) (Or.inl ⟨by kernel_rfl, fun w' hS' => by obtain ⟨hS1', hS2', hS3'⟩ := hS'; go_simp⟩) hS ?_
                refine wpAnyH_take (i := 19) (v := .slice py n cy) rfl (by kernel_rfl) (by kernel_rfl) (by kernel_rfl) (fun _ _ _ h => h) (Or.inl ⟨by kernel_rfl, fun w' hS' => by clear hS'; go_simp⟩) hS ?_
                refine wpAnyH_ready (rs := [20]) (by kernel_rfl) (by simp) ?_
                refine AllReadyH.cons rfl (fun K hK => ?_) AllReadyH.nil
                go_simp
                refine (HBy.out wr.drew hd0).mono ?_
                rintro ex w6 ⟨u6, rfl, hown6, hb6⟩
                have hb6' := hd0.trans hb6
                have HRk := hide (rcut_rank n (p * b) u6 w6 h1 h12 HFPD.out (Ints.own hown6))
                refine hK.out _ _ (HKP.out w6 hb6') (fun hS => ?_)
                clear hK hown6 HBy
                refine wpAnyH_ready (rs := [21]) (by kernel_rfl) (by simp) ?_
                refine AllReadyH.cons rfl (fun K hK => ?_) AllReadyH.nil
                go_simp
                refine HRk.out.mono ?_
                rintro ex w7 ⟨rfl, hb7⟩
                have hb7' := hb6'.trans (hb7.mono hb6'.size)
                refine hK.out _ _ (HKP.out w7 hb7') (fun hS => ?_)
                clear hK HRk hb6 hb7 hb6'
                refine wpAnyH_ready (rs := [22]) (by kernel_rfl) (by simp) ?_
                refine AllReadyH.cons rfl (fun K hK => ?_) AllReadyH.nil
                have hlk := (HMr.out w7 hb7').look Try.underlying108 (Try.zero3 w7) (a := ((rkP n (p * b) : Nat) : Int)) (by omega) (by omega)
                rw [HPK.out] at hlk
                go_simp
                refine hK.out _ _ (HKP.out w7 hb7') (fun hS => ?_)
                clear hK
                refine wpAnyH_take (i := 23) (v := .pointer (some ⟨w2.heap.size, r, none⟩)) rfl (by kernel_rfl) (by kernel_rfl) (by kernel_rfl) (fun _ _ _ h => h) (Or.inl ⟨by kernel_rfl, fun w' hS' => by clear hS'; go_simp⟩) hS ?_
                refine wpAnyH_ready (rs := [24]) (by kernel_rfl) (by simp) ?_
                refine AllReadyH.cons rfl (fun K hK => ?_) AllReadyH.nil
                have hO7 := HOr.out w7 hb7'
                obtain ⟨y7, _, hcy7, hfy7⟩ := owns_cellAt hO7 hrN
                have HO8 := hide (owns_set_int (m := r) hO7 (((ix X (p * b) : Nat) : Int)))
                have hb27 := HBJ.out.trans (hb7'.mono HBJ.out.size)
                have HB8 : Hid (Below w2.heap.size w2 (w7.setCell ⟨w2.heap.size, r, none⟩ (.int .i64 ((ix X (p * b) : Nat) : Int)))) := hb27.setCell (Nat.le_refl _) _
                obtain ⟨ks1, ks2, ks3⟩ := HKP.out w7 hb7'
                go_simp
                refine hK.out _ _ ⟨?_, ?_, ?_⟩ (fun hS => ?_)
                · rw [World.cell?_setCell_other _ _ _ _ (by intro h; simp only [Addr.mk.injEq] at h; omega)]; exact ks1
                · rw [World.cell?_setCell_other _ _ _ _ (by intro h; simp only [Addr.mk.injEq] at h; omega)]; exact ks2
                · rw [World.cell?_setCell_other _ _ _ _ (by intro h; simp only [Addr.mk.injEq] at h; omega)]; exact ks3
                clear hK hS hlk hO7 hcy7 hfy7 ks1 ks2 ks3 hb27 hb7' HKP HMr HOr HBJ hcS
                refine wpAnyH_done (by kernel_rfl) ?_ _
                generalize ((ix X (p * b) : Nat) : Int) = zz at *
                go_wp2
                go_roundw
                case rel =>
                  have hfin : ∃ (j' : Nat) (zs : List Int), j' ≤ sl ∧ Value.int .i64 ((j : Int) + 1) = .int .i64 (j' : Int) ∧ Hid ((w7.setCell ⟨w2.heap.size, r, none⟩ (.int .i64 zz)).ownsRow w2.heap.size 3 1 (.slice (some ⟨w2.heap.size, 0, none⟩) N N) N (zs.map (Value.int .i64))) ∧ Hid (NxTo X a b (qs X a b) cs k j' zs) ∧ Below w2.heap.size w2 (w7.setCell ⟨w2.heap.size, r, none⟩ (.int .i64 zz)) := ⟨j + 1, _, hjs, by go_num, HO8, HNx2, HB8.out⟩
                  first
                    | exact hfin
                    | ((repeat apply Exists.intro); exact ⟨hfin, rfl⟩)
                case measure => simp [intOf]; omega
              · obtain ⟨hmem, hfpd, htg⟩ := HTG.out c a r p (Or.inr ⟨hc1', rfl⟩) hp
                have hix : ix X (p * a) < N := by rw [← HN.out]; exact ix_lt hmem
                have HPK : Hid (F ((rkP n (p * a) : Nat) : Int) = some (.int .i64 ((ix X (p * a) : Nat) : Int))) := hP.out _ _ hix (ix_get hmem)
                have hrk := rkP_le (n := n) (p * a) h12
                have HNx2 : Hid (NxTo X a b (qs X a b) cs k (j + 1) (zs.set r ((ix X (p * a) : Nat) : Int))) := by
                  have h9 := hNx.out.step (show Sts X.length _ _ by rw [HN.out]; exact HSts.out) HS.out hy (by rw [HN.out]; exact hrN)
                  rw [← HCV.out, htg] at h9
                  exact h9
                have HFPD := hide hfpd
                have HFD := hide hfa
                have HID : Hid (∀ W, Below wr.heap.size wr W → Ints W (.slice px n cx) (cut n a)) := fun W hW => (HX.out.below (HBw.out wr hbj)).below hW
                have hceq : (c == 1) = false := beq_eq_false_iff_ne.2 hc1'
                clear hc1'
                clear hmem hfpd htg hp hy
                have HBy := hide (fun W (hW : Below wr.heap.size wr W) => rcut_by n p a (.slice pp n cc2) (.slice px n cx) W h1 h12 hfp HFD.out (hIp.below hW) (HID.out W hW))
                have hd0 : Below wr.heap.size wr wr.drew := (Below.refl _ _).drew
                have HKP : Hid (∀ W, Below wr.heap.size wr W → (W.cell? ⟨gl, ol + k, none⟩ = some (.slice (some ⟨bS, oS, none⟩) sl cS) ∧ W.cell? ⟨bS, oS + j, none⟩ = some (.int .i64 (r : Int)) ∧ W.cell? ⟨gR, oR + r, none⟩ = some (.slice pp n cc2))) := fun W hW => ⟨(hW.cell (p := ⟨gl, ol + k, none⟩) (World.block_lt_of_cell? wr _ hc1)).trans hc1, (hW.cell (p := ⟨bS, oS + j, none⟩) (World.block_lt_of_cell? wr _ hc2)).trans hc2, (hW.cell (p := ⟨gR, oR + r, none⟩) (World.block_lt_of_cell? wr _ hcp)).trans hcp⟩
                have hcS := HKP.out wr (Below.refl _ _)
                have HMr : Hid (∀ W, Below wr.heap.size wr W → IMap W w1.heap.size N F) := fun W hW => (HM2.out.below hbj HM2.out.lt).below hW (Nat.lt_of_lt_of_le HM2.out.lt hbj.size)
                have HOr : Hid (∀ W, Below wr.heap.size wr W → W.ownsRow w2.heap.size 3 1 (.slice (some ⟨w2.heap.size, 0, none⟩) N N) N (zs.map (Value.int .i64))) := fun W hW => owns_below hO.out hW (Nat.le_refl _)
                have HBJ := hide hbj
                clear hIp hfp hO hNx
                go_upto_region 17 with fail
                refine wp_region_held_drew (S := fun W' => W'.cell? ⟨gl, ol + k, none⟩ = some (.slice (some ⟨bS, oS, none⟩) sl cS) ∧ W'.cell? ⟨bS, oS + j, none⟩ = some (.int .i64 (r : Int)) ∧ W'.cell? ⟨gR, oR + r, none⟩ = some (.slice pp n cc2)) (by kernel_rfl) hcS (fun hS => ?_)
                refine wpAnyH_take (i := 0) (v := .slice (some ⟨w2.heap.size, 0, none⟩) N N) rfl (by kernel_rfl) (by kernel_rfl) (by kernel_rfl) (fun _ _ _ h => h) (Or.inl ⟨by kernel_rfl, fun w' hS' => by clear hS'; go_simp⟩) hS ?_
                refine wpAnyH_take (i := 1) (v := .slice (some ⟨gl, ol, none⟩) cl cl2) rfl (by kernel_rfl) (by kernel_rfl) (by kernel_rfl) (fun _ _ _ h => h) (Or.inl ⟨by kernel_rfl, fun w' hS' => by clear hS'; go_simp⟩) hS ?_
                refine wpAnyH_take (i := 2) (v := .int .i64 (k : Int)) rfl (by kernel_rfl) (by kernel_rfl) (by kernel_rfl) (fun _ _ _ h => h) (Or.inl ⟨by kernel_rfl, fun w' hS' => by clear hS'; go_simp⟩) hS ?_
                refine wpAnyH_take (i := 3) (v := .pointer (some ⟨gl, ol + k, none⟩)) rfl (by kernel_rfl) (by kernel_rfl) (by kernel_rfl) (fun _ _ _ h => h) (Or.inl ⟨by kernel_rfl, fun w' hS' => by clear hS'; go_simp⟩) hS ?_
                refine wpAnyH_take (i := 4) (v := .slice (some ⟨bS, oS, none⟩) sl cS) rfl (by kernel_rfl) (by kernel_rfl) (by kernel_rfl) (fun _ _ _ h => h) (Or.inl ⟨by kernel_rfl, fun w' hS' => by obtain ⟨hS1', hS2', hS3'⟩ := hS'; go_simp⟩) hS ?_
                refine wpAnyH_take (i := 5) (v := .int .i64 (j : Int)) rfl (by kernel_rfl) (by kernel_rfl) (by kernel_rfl) (fun _ _ _ h => h) (Or.inl ⟨by kernel_rfl, fun w' hS' => by clear hS'; go_simp⟩) hS ?_
                refine wpAnyH_take (i := 6) (v := .pointer (some ⟨bS, oS + j, none⟩)) rfl (by kernel_rfl) (by kernel_rfl) (by kernel_rfl) (fun _ _ _ h => h) (Or.inl ⟨by kernel_rfl, fun w' hS' => by clear hS'; go_simp⟩) hS ?_
                refine wpAnyH_take (i := 7) (v := .int .i64 (r : Int)) rfl (by kernel_rfl) (by kernel_rfl) (by kernel_rfl) (fun _ _ _ h => h) (Or.inl ⟨by kernel_rfl, fun w' hS' => by obtain ⟨hS1', hS2', hS3'⟩ := hS'; go_simp⟩) hS ?_
                refine wpAnyH_take (i := 8) (v := .map (some w1.heap.size)) rfl (by kernel_rfl) (by kernel_rfl) (by kernel_rfl) (fun _ _ _ h => h) (Or.inl ⟨by kernel_rfl, fun w' hS' => by clear hS'; go_simp⟩) hS ?_
                refine wpAnyH_take (i := 9) (v := .slice (some ⟨gR, oR, none⟩) N cR) rfl (by kernel_rfl) (by kernel_rfl) (by kernel_rfl) (fun _ _ _ h => h) (Or.inl ⟨by kernel_rfl, fun w' hS' => by clear hS'; go_simp⟩) hS ?_
                refine wpAnyH_take (i := 10) (v := .slice (some ⟨gl, ol, none⟩) cl cl2) rfl (by kernel_rfl) (by kernel_rfl) (by kernel_rfl) (fun _ _ _ h => h) (Or.inl ⟨by kernel_rfl, fun w' hS' => by clear hS'; go_simp⟩) hS ?_
                refine wpAnyH_take (i := 11) (v := .int .i64 (k : Int)) rfl (by kernel_rfl) (by kernel_rfl) (by kernel_rfl) (fun _ _ _ h => h) (Or.inl ⟨by kernel_rfl, fun w' hS' => by clear hS'; go_simp⟩) hS ?_
                refine wpAnyH_take (i := 12) (v := .pointer (some ⟨gl, ol + k, none⟩)) rfl (by kernel_rfl) (by kernel_rfl) (by kernel_rfl) (fun _ _ _ h => h) (Or.inl ⟨by kernel_rfl, fun w' hS' => by clear hS'; go_simp⟩) hS ?_
                refine wpAnyH_take (i := 13) (v := .slice (some ⟨bS, oS, none⟩) sl cS) rfl (by kernel_rfl) (by kernel_rfl) (by kernel_rfl) (fun _ _ _ h => h) (Or.inl ⟨by kernel_rfl, fun w' hS' => by obtain ⟨hS1', hS2', hS3'⟩ := hS'; go_simp⟩) hS ?_
                refine wpAnyH_take (i := 14) (v := .int .i64 (j : Int)) rfl (by kernel_rfl) (by kernel_rfl) (by kernel_rfl) (fun _ _ _ h => h) (Or.inl ⟨by kernel_rfl, fun w' hS' => by clear hS'; go_simp⟩) hS ?_
                refine wpAnyH_take (i := 15) (v := .pointer (some ⟨bS, oS + j, none⟩)) rfl (by kernel_rfl) (by kernel_rfl) (by kernel_rfl) (fun _ _ _ h => h) (Or.inl ⟨by kernel_rfl, fun w' hS' => by clear hS'; go_simp⟩) hS ?_
                refine wpAnyH_take (i := 16) (v := .int .i64 (r : Int)) rfl (by kernel_rfl) (by kernel_rfl) (by kernel_rfl) (fun _ _ _ h => h) (Or.inl ⟨by kernel_rfl, fun w' hS' => by obtain ⟨hS1', hS2', hS3'⟩ := hS'; go_simp⟩) hS ?_
                refine wpAnyH_take (i := 17) (v := .pointer (some ⟨gR, oR + r, none⟩)) rfl (by kernel_rfl) (by kernel_rfl) (by kernel_rfl) (fun _ _ _ h => h) (Or.inl ⟨by kernel_rfl, fun w' hS' => by clear hS'; go_simp⟩) hS ?_
                refine wpAnyH_take (i := 18) (v := .slice pp n cc2) rfl (by kernel_rfl) (by kernel_rfl) (by kernel_rfl) (fun _ _ _ h => h) (Or.inl ⟨by kernel_rfl, fun w' hS' => by obtain ⟨hS1', hS2', hS3'⟩ := hS'; go_simp⟩) hS ?_
                refine wpAnyH_take (i := 19) (v := .slice px n cx) rfl (by kernel_rfl) (by kernel_rfl) (by kernel_rfl) (fun _ _ _ h => h) (Or.inl ⟨by kernel_rfl, fun w' hS' => by clear hS'; go_simp⟩) hS ?_
                refine wpAnyH_ready (rs := [20]) (by kernel_rfl) (by simp) ?_
                refine AllReadyH.cons rfl (fun K hK => ?_) AllReadyH.nil
                go_simp
                refine (HBy.out wr.drew hd0).mono ?_
                rintro ex w6 ⟨u6, rfl, hown6, hb6⟩
                have hb6' := hd0.trans hb6
                have HRk := hide (rcut_rank n (p * a) u6 w6 h1 h12 HFPD.out (Ints.own hown6))
                refine hK.out _ _ (HKP.out w6 hb6') (fun hS => ?_)
                clear hK hown6 HBy
                refine wpAnyH_ready (rs := [21]) (by kernel_rfl) (by simp) ?_
                refine AllReadyH.cons rfl (fun K hK => ?_) AllReadyH.nil
                go_simp
                refine HRk.out.mono ?_
                rintro ex w7 ⟨rfl, hb7⟩
                have hb7' := hb6'.trans (hb7.mono hb6'.size)
                refine hK.out _ _ (HKP.out w7 hb7') (fun hS => ?_)
                clear hK HRk hb6 hb7 hb6'
                refine wpAnyH_ready (rs := [22]) (by kernel_rfl) (by simp) ?_
                refine AllReadyH.cons rfl (fun K hK => ?_) AllReadyH.nil
                have hlk := (HMr.out w7 hb7').look Try.underlying108 (Try.zero3 w7) (a := ((rkP n (p * a) : Nat) : Int)) (by omega) (by omega)
                rw [HPK.out] at hlk
                go_simp
                refine hK.out _ _ (HKP.out w7 hb7') (fun hS => ?_)
                clear hK
                refine wpAnyH_take (i := 23) (v := .pointer (some ⟨w2.heap.size, r, none⟩)) rfl (by kernel_rfl) (by kernel_rfl) (by kernel_rfl) (fun _ _ _ h => h) (Or.inl ⟨by kernel_rfl, fun w' hS' => by clear hS'; go_simp⟩) hS ?_
                refine wpAnyH_ready (rs := [24]) (by kernel_rfl) (by simp) ?_
                refine AllReadyH.cons rfl (fun K hK => ?_) AllReadyH.nil
                have hO7 := HOr.out w7 hb7'
                obtain ⟨y7, _, hcy7, hfy7⟩ := owns_cellAt hO7 hrN
                have HO8 := hide (owns_set_int (m := r) hO7 (((ix X (p * a) : Nat) : Int)))
                have hb27 := HBJ.out.trans (hb7'.mono HBJ.out.size)
                have HB8 : Hid (Below w2.heap.size w2 (w7.setCell ⟨w2.heap.size, r, none⟩ (.int .i64 ((ix X (p * a) : Nat) : Int)))) := hb27.setCell (Nat.le_refl _) _
                obtain ⟨ks1, ks2, ks3⟩ := HKP.out w7 hb7'
                go_simp
                refine hK.out _ _ ⟨?_, ?_, ?_⟩ (fun hS => ?_)
                · rw [World.cell?_setCell_other _ _ _ _ (by intro h; simp only [Addr.mk.injEq] at h; omega)]; exact ks1
                · rw [World.cell?_setCell_other _ _ _ _ (by intro h; simp only [Addr.mk.injEq] at h; omega)]; exact ks2
                · rw [World.cell?_setCell_other _ _ _ _ (by intro h; simp only [Addr.mk.injEq] at h; omega)]; exact ks3
                clear hK hS hlk hO7 hcy7 hfy7 ks1 ks2 ks3 hb27 hb7' HKP HMr HOr HBJ hcS
                refine wpAnyH_done (by kernel_rfl) ?_ _
                generalize ((ix X (p * a) : Nat) : Int) = zz at *
                go_wp2
                go_roundw
                case rel =>
                  have hfin : ∃ (j' : Nat) (zs : List Int), j' ≤ sl ∧ Value.int .i64 ((j : Int) + 1) = .int .i64 (j' : Int) ∧ Hid ((w7.setCell ⟨w2.heap.size, r, none⟩ (.int .i64 zz)).ownsRow w2.heap.size 3 1 (.slice (some ⟨w2.heap.size, 0, none⟩) N N) N (zs.map (Value.int .i64))) ∧ Hid (NxTo X a b (qs X a b) cs k j' zs) ∧ Below w2.heap.size w2 (w7.setCell ⟨w2.heap.size, r, none⟩ (.int .i64 zz)) := ⟨j + 1, _, hjs, by go_num, HO8, HNx2, HB8.out⟩
                  first
                    | exact hfin
                    | ((repeat apply Exists.intro); exact ⟨hfin, rfl⟩)
                case measure => simp [intOf]; omega
            · obtain rfl : sl = j := by omega
              have HNx2 : Hid (NxTo X a b (qs X a b) cs (k + 1) 0 zs) := by
                have h9 := hNx.out
                rw [HSL.out] at h9
                exact h9.turn HS.out
              clear hNx
              go_wp2
              go_roundw
              case rel =>
                have hfin : ∃ (k' : Nat) (zs : List Int), k' ≤ cl ∧ Value.int .i64 ((k : Int) + 1) = .int .i64 (k' : Int) ∧ Hid (wr.ownsRow w2.heap.size 3 1 (.slice (some ⟨w2.heap.size, 0, none⟩) N N) N (zs.map (Value.int .i64))) ∧ Hid (NxTo X a b (qs X a b) cs k' 0 zs) ∧ Below w2.heap.size w2 wr := ⟨k + 1, _, hlt, by go_num, hO, HNx2, hbj⟩
                first
                  | exact hfin
                  | ((repeat apply Exists.intro); exact ⟨hfin, rfl⟩)
              case measure => simp [intOf]; omega
        · obtain rfl : cl = k := by omega
          have hze : zs = nxL X a b (qs X a b) cs := by
            have h9 := hNx.out
            rw [← HAL.out] at h9
            exact h9.done (show Sts X.length _ _ by rw [HN.out]; exact HSts.out)
          have hOT : wr.ownsRow w2.heap.size 3 1 (.slice (some ⟨w2.heap.size, 0, none⟩) N N) N ((nxL X a b (qs X a b) cs).map (Value.int .i64)) := by rw [← hze]; exact hO.out
          have HOT := hide hOT
          obtain ⟨w3, hw3⟩ : ∃ w3, w3 = wr := ⟨_, rfl⟩
          subst hw3
          have HB3 := hide (HB2.out.trans (hbk.mono HB2.out.size))
          clear hO hNx hze hOT hbk
          generalize hrr : nxL X a b (qs X a b) cs = r at *
          have HRR := hide hrr
          clear hrr
          go_wp2_with (at_make; refine wpList_make_full _ rfl _ _ 23 rfl w3.heap.size 3 j0 (.int .i64 0) 1 Try.underlying23 hji hjz0 hjz1 _ _ _ _ N rfl rfl (by omega) (by omega) ?b5 ?b6 (Nat.le_refl _) ?_)
          case b5 => rw [hjz2]; omega
          case b6 => unfold maxLen; omega
          intro w4 hown4 hg4
          rw [made_ints] at hown4
          have HO4 := hide hown4
          have HB4 : Hid (Below w3.heap.size w3 w4) := (Below.refl _ _).grown hg4 (Nat.le_refl _) (fun k h => by cases h)
          clear hown4 hg4
          go_wp2
          go_loopw [16, 18] (fun sn si wr => ∃ (k c : Nat) (ds : List Int), k ≤ N ∧ sn = .int .i64 (c : Int) ∧ si = .int .i64 (k : Int) ∧ Hid (c = (cycsTo r k).length) ∧ Hid (wr.ownsRow w3.heap.size 3 1 (.slice (some ⟨w3.heap.size, 0, none⟩) N N) N (ds.map (Value.int .i64))) ∧ Hid (∀ i, i < N → ds.getD i 0 = if (i : Int) ∈ (cycsTo r k).flatten then 1 else 0) ∧ Below w3.heap.size w3 wr) (fun _ si _ => N - (intOf si).toNat)
          case atStart => exact ⟨0, 0, _, Nat.zero_le _, rfl, rfl, rfl, HO4, fun i hi => by rw [if_neg (by simp [cycsTo])]; simp [List.getD, hi], HB4.out⟩
          case round =>
            clear HO4 HB4
            obtain ⟨k, c, ds, hk, rfl, rfl, hcn, hO, hD, hbk⟩ := hrel
            by_cases hlt : k < N
            · have hkl : k < r.length := by rw [HNL.out]; exact hlt
              obtain ⟨y, hy, hcy, hfy⟩ := owns_cellAt hO.out hlt
              have hyd : ds.getD k 0 = y := hy.out
              have hcle : c ≤ N := by rw [hcn.out]; have := cycsTo_length r k; omega
              by_cases hin : (k : Int) ∈ (cycsTo r k).flatten
              · have hy1 : y = 1 := by rw [← hyd, hD.out k hlt, if_pos hin]
                have hc9 : cycsTo r (k + 1) = cycsTo r k := by rw [cycsTo_succ, if_pos hin]
                have HC2 : Hid (c = (cycsTo r (k + 1)).length) := by show _ = _; rw [hc9]; exact hcn.out
                have HD2 : Hid (∀ i, i < N → ds.getD i 0 = if (i : Int) ∈ (cycsTo r (k + 1)).flatten then 1 else 0) := by rw [hc9]; exact hD
                subst hy1
                clear hy hyd hD hcn hin hc9
                go_wp2
                go_roundw
                case rel =>
                  have hfin : ∃ (k' c' : Nat) (ds : List Int), k' ≤ N ∧ Value.int .i64 (c : Int) = .int .i64 (c' : Int) ∧ Value.int .i64 ((k : Int) + 1) = .int .i64 (k' : Int) ∧ Hid (c' = (cycsTo r k').length) ∧ Hid (wr.ownsRow w3.heap.size 3 1 (.slice (some ⟨w3.heap.size, 0, none⟩) N N) N (ds.map (Value.int .i64))) ∧ Hid (∀ i, i < N → ds.getD i 0 = if (i : Int) ∈ (cycsTo r k').flatten then 1 else 0) ∧ Below w3.heap.size w3 wr := ⟨k + 1, c, _, hlt, rfl, by go_num, HC2, hO, HD2, hbk⟩
                  first
                    | exact hfin
                    | ((repeat apply Exists.intro); exact ⟨hfin, rfl⟩)
                case measure => simp [intOf]; omega
              · have hy1 : y = 0 := by rw [← hyd, hD.out k hlt, if_neg hin]
                have hc9 : cycsTo r (k + 1) = cycsTo r k ++ [orb r k (per r k)] := by rw [cycsTo_succ, if_neg hin]
                have HC2 : Hid (c + 1 = (cycsTo r (k + 1)).length) := by show _ = _; rw [hc9, List.length_append, hcn.out]; rfl
                obtain ⟨p1, p2, p3, p4⟩ := per_spec HNR.out hkl
                have HIT : Hid (∀ j, it r j k < N) := fun j => by have := it_lt HNR.out hkl j; rw [HNL.out] at this; exact this
                have HNX : Hid (∀ j, j < per r k → ¬ ((it r j k : Nat) : Int) ∈ (cycsTo r k).flatten ∧ ¬ ((it r j k : Nat) : Int) ∈ orb r k j) := fun j hj => by
                  refine ⟨it_notin HNR.out hkl hin j, fun h => ?_⟩
                  obtain ⟨i, hi, e⟩ := mem_orb.1 h
                  have := orb_inj HNR.out hkl (by omega) hj (show it r i k = it r j k by omega)
                  omega
                have HEND : Hid (((it r (per r k) k : Nat) : Int) ∈ orb r k (per r k)) := by
                  rw [p3]
                  exact mem_orb.2 ⟨0, by omega, rfl⟩
                have HSC : Hid (∀ j, r.getD (it r j k) 0 = ((it r (j + 1) k : Nat) : Int)) := fun j => by
                  have h9 := HNR.out.at (show it r j k < r.length from it_lt HNR.out hkl j)
                  show _ = ((nx r (it r j k) : Nat) : Int)
                  unfold nx
                  omega
                have HD0 : Hid (∀ i, i < N → ds.getD i 0 = if (i : Int) ∈ (cycsTo r k).flatten ∨ (i : Int) ∈ orb r k 0 then 1 else 0) := fun i hi => by
                  rw [hD.out i hi]
                  simp [orb]
                have HDE : Hid (∀ (es : List Int), (∀ i, i < N → es.getD i 0 = if (i : Int) ∈ (cycsTo r k).flatten ∨ (i : Int) ∈ orb r k (per r k) then 1 else 0) → ∀ i, i < N → es.getD i 0 = if (i : Int) ∈ (cycsTo r (k + 1)).flatten then 1 else 0) := fun es h i hi => by
                  rw [h i hi, hc9, List.flatten_append]
                  simp
                have HK0 : Hid ((k : Int) = ((it r 0 k : Nat) : Int)) := rfl
                have HO0 := hO
                have HBK := hide hbk
                generalize hpp : per r k = pp at *
                have HPP := hide hpp
                subst hy1
                clear hy hyd hD hcn hin hc9 hkl p2 p3 p4 hpp hO hbk
                go_wp2
                go_loopw [19] (fun sa wr => ∃ (j : Nat) (es : List Int), j ≤ pp ∧ sa = .int .i64 ((it r j k : Nat) : Int) ∧ Hid (wr.ownsRow w3.heap.size 3 1 (.slice (some ⟨w3.heap.size, 0, none⟩) N N) N (es.map (Value.int .i64))) ∧ Hid (∀ i, i < N → es.getD i 0 = if (i : Int) ∈ (cycsTo r k).flatten ∨ (i : Int) ∈ orb r k j then 1 else 0) ∧ Below w3.heap.size w3 wr) (fun _ wr => unm w3.heap.size N wr)
                case atStart => exact ⟨0, ds, Nat.zero_le _, by rw [← HK0.out], HO0, HD0, HBK.out⟩
                case round =>
                  clear HO0 HD0 HBK
                  obtain ⟨j, es, hj, rfl, hO, hE, hbj⟩ := hrel
                  have hia := HIT.out j
                  obtain ⟨y, hy, hcy, hfy⟩ := owns_cellAt hO.out hia
                  have hye : es.getD (it r j k) 0 = y := hy.out
                  by_cases hjp : j < pp
                  · have hnn := HNX.out j hjp
                    have hy0 : y = 0 := by rw [← hye, hE.out _ hia, if_neg (fun h => h.elim hnn.1 hnn.2)]
                    have hlen : es.length = N := by have h9 := hO.out.1; rw [List.length_map] at h9; omega
                    have HE2 : Hid (∀ i, i < N → (es.set (it r j k) 1).getD i 0 = if (i : Int) ∈ (cycsTo r k).flatten ∨ (i : Int) ∈ orb r k (j + 1) then 1 else 0) := fun i hi => by
                      rw [getD_set (by omega), orb_snoc]
                      by_cases e : it r j k = i
                      · rw [if_pos e, ← e, if_pos (by simp)]
                      · rw [if_neg e, hE.out i hi]
                        have e2 : ¬ (i : Int) = ((it r j k : Nat) : Int) := by omega
                        simp [e2]
                    have HUN : Hid (unm w3.heap.size N (wr.setCell ⟨w3.heap.size, it r j k, none⟩ (.int .i64 1)) < unm w3.heap.size N wr) := unm_set hO.out hia (by rw [hye, hy0])
                    have HOs := hide (owns_set_int (m := it r j k) hO.out 1)
                    have hbs : Below w3.heap.size w3 (wr.setCell ⟨w3.heap.size, it r j k, none⟩ (.int .i64 1)) := hbj.setCell (Nat.le_refl _) _
                    have HBs := hide hbs
                    have hct : (wr.setCell ⟨w3.heap.size, it r j k, none⟩ (.int .i64 1)).cell? ⟨w2.heap.size, it r j k, none⟩ = some (.int .i64 ((it r (j + 1) k : Nat) : Int)) := by
                      rw [← HSC.out j]
                      exact (owns_cell (owns_below HOT.out hbs (Nat.le_refl _)) hia).1
                    have HAT : Hid (∀ z, z = it r (j + 1) k → Value.int .i64 ((z : Nat) : Int) = .int .i64 ((it r (j + 1) k : Nat) : Int)) := fun z hz => by rw [hz]
                    subst hy0
                    generalize hm2 : it r (j + 1) k = m2 at *
                    have HM2' := hide hm2
                    generalize it r j k = m at *
                    clear hy hye hnn hlen hO hE hbj hbs hm2
                    go_wp2
                    go_roundw
                    case rel =>
                      have hfin : ∃ (j' : Nat) (es : List Int), j' ≤ pp ∧ Value.int .i64 (m2 : Int) = .int .i64 ((it r j' k : Nat) : Int) ∧ Hid ((wr.setCell ⟨w3.heap.size, m, none⟩ (.int .i64 1)).ownsRow w3.heap.size 3 1 (.slice (some ⟨w3.heap.size, 0, none⟩) N N) N (es.map (Value.int .i64))) ∧ Hid (∀ i, i < N → es.getD i 0 = if (i : Int) ∈ (cycsTo r k).flatten ∨ (i : Int) ∈ orb r k j' then 1 else 0) ∧ Below w3.heap.size w3 (wr.setCell ⟨w3.heap.size, m, none⟩ (.int .i64 1)) := ⟨j + 1, _, hjp, by rw [HM2'.out], HOs, HE2, HBs.out⟩
                      first
                        | exact hfin
                        | ((repeat apply Exists.intro); exact ⟨hfin, rfl⟩)
                    case measure => exact HUN.out
                  · obtain rfl : j = pp := by omega
                    have hy1 : y = 1 := by rw [← hye, hE.out _ hia, if_pos (Or.inr HEND.out)]
                    have HD2 : Hid (∀ i, i < N → es.getD i 0 = if (i : Int) ∈ (cycsTo r (k + 1)).flatten then 1 else 0) := HDE.out es hE.out
                    subst hy1
                    generalize it r j k = m at *
                    clear hy hye hE
                    go_wp2
                    go_roundw
                    case rel =>
                      have hfin : ∃ (k' c' : Nat) (ds : List Int), k' ≤ N ∧ Value.int .i64 ((c : Int) + 1) = .int .i64 (c' : Int) ∧ Value.int .i64 ((k : Int) + 1) = .int .i64 (k' : Int) ∧ Hid (c' = (cycsTo r k').length) ∧ Hid (wr.ownsRow w3.heap.size 3 1 (.slice (some ⟨w3.heap.size, 0, none⟩) N N) N (ds.map (Value.int .i64))) ∧ Hid (∀ i, i < N → ds.getD i 0 = if (i : Int) ∈ (cycsTo r k').flatten then 1 else 0) ∧ Below w3.heap.size w3 wr := ⟨k + 1, c + 1, _, hlt, by go_num, by go_num, HC2, hO, HD2, hbj⟩
                      first
                        | exact hfin
                        | ((repeat apply Exists.intro); exact ⟨hfin, rfl⟩)
                    case measure => simp [intOf]; omega
            · obtain rfl : N = k := by omega
              have HCN2 : Hid (c = (cycsTo r N).length) := hcn
              have HBF := hide (HB3.out.trans (hbk.mono HB3.out.size))
              clear hO hD hbk hcn
              go_wp2
              go_ret
              exact ⟨by rw [HCN2.out, ← HRR.out]; rfl, HBF.out⟩

end Go.Proofs.Ytimfoggjocajiaa

/- Contracts: the answer's LeadsOf; call.checkLeads. -/
namespace Go.Proofs.Ytimfoggjocajiaa
open Go.RowKit

set_option maxRecDepth 20000 in
set_option maxHeartbeats 2000000 in
theorem leadsOf_ok (v : Value) (xs : List Int) (m k : Nat) (w : World) (h : Ints w v xs) (hx : ∀ x, x ∈ xs → I64 x) (hm : m ≤ 1000) (hk1 : 1 ≤ k) (hk2 : k ≤ 1000) :
    Calls Try.prog 29 #[v, .int .i64 m, .int .i64 k] w fun e w' => ∃ (u : Value) (ls : List Int), e = .returned u ∧ w'.ownsRow w.heap.size 3 1 u m (ls.map (Value.int .i64)) ∧ (∀ l, l ∈ ls → 0 ≤ l ∧ l < (k : Int)) ∧ Below w.heap.size w w' := by
  obtain ⟨i0, hi, hz0, hz1, hz2⟩ := info_parts Try.info3
  obtain ⟨p0, c0, rfl⟩ := h.form
  have HI := hide h
  have HX := hide hx
  clear h hx
  go_enter Try.func29, Try.ntmps29
  go_wp2
  go_loopw [7, 8] (fun u i wr => ∃ (j : Nat) (ls : List Int), j ≤ m ∧ i = .int .i64 j ∧ Hid (wr.ownsRow w.heap.size 3 1 u j (ls.map (Value.int .i64))) ∧ Hid (∀ l, l ∈ ls → 0 ≤ l ∧ l < (k : Int)) ∧ Below w.heap.size w wr) (fun _ i _ => m - (intOf i).toNat)
  case atStart => exact ⟨0, [], by omega, rfl, World.ownsRow_nil _ _ _ _, (fun l h => by cases h), Below.refl _ _⟩
  case round =>
    obtain ⟨j, ls, hj, rfl, hO, hL, hbw⟩ := hrel
    have hbs := hbw.size
    have hrow := hO.out
    obtain ⟨up, uc, rfl⟩ := owns_slice hrow
    by_cases hlt : j < m
    · have HRW := hide (raw_any _ xs j wr (HI.out.below hbw) HX.out (by omega))
      go_wp2_with fail
      refine HRW.out.mono ?_
      rintro e wa ⟨x, hxi, rfl, rfl⟩
      go_wp2_with fail
      refine (pick_any x (k : Int) _ hxi.1 hxi.2 (by omega) (by omega)).mono ?_
      rintro e wa ⟨q, hq0, hq1, rfl, rfl⟩
      go_wp2_with (at_builtin; refine wpList_append_own _ rfl _ _ 23 rfl w.heap.size 3 i0 (.int .i64 0) 1 8 Try.underlying23 hi hz0 hz1 hz2 rfl (by decide) _ _ _ rfl (hrow.alloc _) ⟨wr.heap.size, 0, none⟩ 1 1 [.int .i64 q] rfl rfl ?c1 ?c2 ?c3 ?c4 ?c5 ?_)
      case c1 => exact cell_one_new _ _ _
      case c2 => intro u hu; simp at hu; subst hu; rfl
      case c3 => unfold maxLen; omega
      case c4 => omega
      case c5 => simp; omega
      · intro v' w1 hown' hgrow _
        have HO : Hid (w1.ownsRow w.heap.size 3 1 v' (j + 1) ((ls ++ [q]).map (Value.int .i64))) := by show World.ownsRow _ _ _ _ _ _ _; rw [List.map_append]; exact hown'
        have HL2 : Hid (∀ l, l ∈ ls ++ [q] → 0 ≤ l ∧ l < (k : Int)) := fun l h => by
          rcases List.mem_append.1 h with h | h
          · exact hL.out l h
          · rw [List.mem_singleton] at h; rw [h]; exact ⟨hq0, hq1⟩
        have HB1 : Hid (Below w.heap.size w w1) := (hbw.alloc hbw.size _).grown hgrow (by simp; omega) (fun g hg => (hrow.lt g hg).1)
        clear hown' hgrow hrow hO
        go_wp2
        go_roundw
        case rel => exact ⟨j + 1, ls ++ [q], by omega, by go_num, HO, HL2, HB1.out⟩
        case measure => simp [intOf]; omega
    · obtain rfl : j = m := by omega
      go_wp2
      go_ret
      exact ⟨_, ls, rfl, hrow, hL.out, hbw⟩

end Go.Proofs.Ytimfoggjocajiaa

/- The walk of TopRankin: it answers true at every input. -/
namespace Go.Proofs.Ytimfoggjocajiaa
open Go.RowKit

theorem Rws.unique {n : Nat} {G : Pm → Prop} {X Y : List Pm} (h : Rws n G X) (h' : Rws n G Y) : X = Y := by
  have h12 := h.twelve
  have fX : ∀ x, x ∈ X → Fixes (fun b => n ≤ b) x := fun x hx => h.fix x ((h.mem x).1 hx)
  have fY : ∀ x, x ∈ Y → Fixes (fun b => n ≤ b) x := fun x hx => h'.fix x ((h'.mem x).1 hx)
  have e : X.map (cut n) = Y.map (cut n) := rising_eq (cut_rising h12 fX h.nodup h.sorted) (cut_rising h12 fY h'.nodup h'.sorted) (fun r => by
    rw [List.mem_map, List.mem_map]
    exact ⟨fun ⟨x, h1, h2⟩ => ⟨x, (h'.mem x).2 ((h.mem x).1 h1), h2⟩, fun ⟨x, h1, h2⟩ => ⟨x, (h.mem x).2 ((h'.mem x).1 h1), h2⟩⟩)
  have back : ∀ (Z : List Pm), (∀ x, x ∈ Z → Fixes (fun b => n ≤ b) x) → (Z.map (cut n)).map pad = Z := fun Z hZ => by
    rw [List.map_map]
    conv => rhs; rw [← List.map_id Z]
    exact List.map_congr_left (fun x hx => pad_cut h12 (hZ x hx))
  rw [← back X fX, e, back Y fY]

theorem qs_flat {n : Nat} {G : Pm → Prop} {X : List Pm} (hR : Rws n G X) {a b : Pm} (ha : G a) (hb : G b) : (qs X a b).flatten.length = X.length := by
  have h9 := flat_count (mv_row hR.nodup (hR.cls (hR.sub.mul ha (hR.sub.inv hb))))
  rw [mv_length] at h9
  have : ∀ l : List (List Int), (l.map srt).flatten.length = l.flatten.length := fun l => by
    induction l with
    | nil => rfl
    | cons c l ih => rw [List.map_cons, List.flatten_cons, List.flatten_cons, List.length_append, List.length_append, ih, srt_length]
  unfold qs
  rw [this, h9]

theorem nxL_zero (X : List Pm) (a b : Pm) (A : List (List Int)) (k : Nat) : nxL X a b A (List.replicate k 0) = mv X a := by
  refine ext_getD (by rw [nxL_length, mv_length]) (fun r hr => ?_)
  rw [nxL_length] at hr
  have hp : X[r]? = some X[r] := List.getElem?_eq_getElem hr
  have hc : ¬ chc A (List.replicate k 0) r = 1 := by
    unfold chc
    rw [List.getD]
    intro h
    by_cases hk : sof A r < k
    · rw [List.getElem?_replicate, if_pos hk] at h; simp at h
    · rw [List.getElem?_replicate, if_neg hk] at h; simp at h
  rw [nxL_get hp, if_neg hc, List.getD, mv_get hp]
  rfl

theorem ints_one {w : World} {m : Nat} {v1 : Value} {xs : List Int} (hm : w.heap.size = m) (h1 : Ints w v1 xs) : IntsAll (w.alloc (.cells #[v1] 23)) (.slice (some ⟨m, 0, none⟩) 1 1) [xs] := by
  subst hm
  have hb : Below w.heap.size w (w.alloc (.cells #[v1] 23)) := (Below.refl _ _).alloc (Nat.le_refl _) _
  refine ⟨[v1], Or.inr ⟨w.heap.size, 0, 1, rfl, by simp, by simp, by omega, by simp, fun j hj => ?_⟩, rfl, fun j hj => ?_⟩
  · have e : j = 0 := by simp at hj; omega
    subst e
    have h9 := cell_one_new w v1 23 0 v1 rfl
    rw [Addr.add_lit] at h9
    exact h9
  · have e : j = 0 := by simp at hj; omega
    subst e
    exact h1.below hb

theorem rdN_ok {X : List Pm} {a b : Pm} {cs : List Int} (h : rdE (qs X a b) cs = 0) : rdN X a b cs = (cycsTo (nxL X a b (qs X a b) cs) X.length).length := by unfold rdN; rw [if_pos h]

set_option maxRecDepth 20000 in
theorem trankin_long (v : Value) (xs : List Int) (a1 a2 a3 : Int) (w : World) (h : Ints w v xs) (hl : 256 < xs.length) :
    Calls Try.prog 13 #[v, .int .i64 a1, .int .i64 a2, .int .i64 a3] w fun e w' => Told w e w' := by
  obtain ⟨p, c, rfl⟩ := h.form
  have hl' : (256 : Int) < (xs.length : Int) := by omega
  clear h
  go_enter Try.func13, Try.ntmps13
  go_wp2
  go_ret
  exact ⟨rfl, Below.refl _ _⟩

set_option maxRecDepth 20000 in
set_option maxHeartbeats 8000000 in
theorem trankin_ok (v : Value) (raw : List Int) (a1 a2 a3 : Int) (w : World) (h : Ints w v raw) (hx : ∀ x, x ∈ raw → I64 x) (hl : raw.length ≤ 256) (i1 : I64 a1) (i2 : I64 a2) (i3 : I64 a3) :
    Calls Try.prog 13 #[v, .int .i64 a1, .int .i64 a2, .int .i64 a3] w fun e w' => Told w e w' := by
  obtain ⟨j0, hji, hjz0, hjz1, hjz2⟩ := info_parts Try.info3
  have HI := hide h
  have HX := hide hx
  have HI2 := hide i2
  have HI3 := hide i3
  obtain ⟨p, c, rfl⟩ := h.form
  obtain ⟨l1, r1⟩ := i1
  have q1 := run_ptr_ne
  have hl' : ¬ ((256 : Int) < (raw.length : Int)) := by omega
  clear h hx i2 i3
  go_enter Try.func13, Try.ntmps13
  go_wp2_with fail
  refine (pick_any a1 5 _ l1 r1 (by omega) (by omega)).mono ?_
  rintro ex wp ⟨k1, k1a, k1b, rfl, rfl⟩
  obtain ⟨n0, rfl⟩ := Int.eq_ofNat_of_zero_le k1a
  obtain ⟨n, hn⟩ : ∃ n : Nat, n = n0 + 1 := ⟨_, rfl⟩
  have hnI : (1 : Int) + (n0 : Int) = (n : Int) := by omega
  have h1 : 1 ≤ n := by omega
  have h5 : n ≤ 5 := by omega
  have h12 : n ≤ 12 := by omega
  have HR1 := hide (rowOf_ok a2 n w HI2.out h12)
  clear hn k1a k1b l1 r1
  go_wp2_with fail
  refine HR1.out.mono ?_
  rintro ex w1 ⟨vx, xs, rfl, hxr, hxl, hown1, hb1⟩
  have HX1 := hide (Ints.own hown1)
  have HR2 := hide (rowOf_ok a3 n w1 HI3.out h12)
  obtain ⟨px, cx, ex1⟩ := owns_slice hown1
  subst ex1
  clear hown1 HR1 hnI
  go_wp2_with fail
  refine HR2.out.mono ?_
  rintro ex w2 ⟨vy, ys, rfl, hyr, hyl, hown2, hb2⟩
  have HX2 := hide (HX1.out.below hb2)
  have HY2 := hide (Ints.own hown2)
  have hB2 := hb1.trans (hb2.mono hb1.size)
  obtain ⟨py, cy, ey1⟩ := owns_slice hown2
  subst ey1
  have hRN : RowsN n [xs, ys] := fun z hz => by
    rcases List.mem_cons.1 hz with e | hz
    · rw [e]; exact ⟨hxr, hxl⟩
    · rw [List.mem_singleton.1 hz]; exact ⟨hyr, hyl⟩
  have hRX : RowsN n [xs] := fun z hz => by rw [List.mem_singleton.1 hz]; exact ⟨hxr, hxl⟩
  have HRN := hide hRN
  have HRX := hide hRX
  have hz1 : sz (G2 xs ys) n ≤ 1000 := by
    have hd := sz_fct (Gen.sub (fun y => y ∈ [xs, ys].map pad)) h12 (fun x hx => gens_fix h12 hRN hx)
    have hf : fct n ≤ 120 ∧ 0 < fct n := by
      rcases (show n = 1 ∨ n = 2 ∨ n = 3 ∨ n = 4 ∨ n = 5 by omega) with rfl | rfl | rfl | rfl | rfl <;> decide
    exact Nat.le_trans (Nat.le_trans (Nat.le_of_dvd hf.2 hd) hf.1) (by omega)
  have HQs := hide (qsets_ok n (.slice px n cx) (.slice py n cy) xs ys w2 HX2.out HY2.out h1 h12 hxl hRN hz1)
  have HRd : Hid (∀ (W : World) (u : Value) (cs : List Int), Below w2.heap.size w2 W → Ints W u cs → Calls Try.prog 49 #[.slice px n cx, .slice py n cy, u] W fun e w' => RoundsPost n xs ys cs W e w') := fun W u cs hW hu => rounds2_ok n _ _ u xs ys cs W (HX2.out.below hW) (HY2.out.below hW) hu h1 h12 hxl hRN hz1
  have HMk2 : Hid (∀ (W : World) (u : Value), IntsAll W u [xs, ys] → Calls Try.prog 14 #[.int .i64 n, u] W fun e w' => ∃ u, e = .returned (.tuple #[u, .int .i64 0]) ∧ GroupAt w' u n ([xs, ys].map pad) ∧ Below W.heap.size W w') := fun W u hu => make_ok n u [xs, ys] W hu h1 h12 (by simp) hRN
  have HMk1 : Hid (∀ (W : World) (u : Value), IntsAll W u [xs] → Calls Try.prog 14 #[.int .i64 n, u] W fun e w' => ∃ u, e = .returned (.tuple #[u, .int .i64 0]) ∧ GroupAt w' u n ([xs].map pad) ∧ Below W.heap.size W w') := fun W u hu => make_ok n u [xs] W hu h1 h12 (by simp) hRX
  have HXR : Hid (isRow xs ∧ xs.length = n) := ⟨hxr, hxl⟩
  have HYR : Hid (isRow ys ∧ ys.length = n) := ⟨hyr, hyl⟩
  clear hown2 hb1 hb2 HR2 HX1 hRN hRX hz1 hxr hxl hyr hyl
  go_wp2_with fail
  refine HQs.out.mono ?_
  rintro ex w3 ⟨ul, us, X, rfl, hRw, hL, hb3⟩
  have HRw := hide hRw
  have hfew := hRw.few
  have HQF := hide (qs_flat hRw (g2_left xs ys) (g2_right xs ys))
  have HQN : Hid ((qs X (pad xs) (pad ys)).length ≤ X.length) := by unfold qs; rw [List.length_map]; exact cycsTo_length _ _
  have HL := hide hL
  obtain ⟨al, hal⟩ : ∃ al, al = (qs X (pad xs) (pad ys)).length := ⟨_, rfl⟩
  have HAL := hide hal
  obtain ⟨pl, ql, el⟩ := owns_slice hL.row
  rw [hL.len, ← hal] at el
  subst el
  have hall : al ≤ 1000 := by rw [hal]; have := HQN.out; omega
  have hB3 := hB2.trans (hb3.mono hB2.size)
  have hbA : Below w3.heap.size w3 (w3.alloc (.cells #[.slice px n cx, .slice py n cy] 23)) := (Below.refl _ _).alloc (Nat.le_refl _) _
  have HIA := hide (ints_two (w := w3) (m := w3.heap.size) rfl (HX2.out.below hb3) (HY2.out.below hb3))
  have HBA := hide hbA
  have HB23 := hide hb3
  clear hL hal hRw hb3 hbA HQs
  go_wp2_with fail
  refine (HMk2.out _ _ HIA.out).mono ?_
  rintro ex w4 ⟨u4, rfl, hG4, hb4⟩
  have HG4 := hide hG4
  obtain ⟨gb4, _, _, _, _, _, _, rfl, _⟩ := hG4
  have hb34 := HBA.out.trans (hb4.mono HBA.out.size)
  have hB4 := hB3.trans (hb34.mono hB3.size)
  have hb24 := HB23.out.trans (hb34.mono HB23.out.size)
  have HIO := hide (ints_one (w := w4) (m := w4.heap.size) rfl (HX2.out.below hb24))
  have HBO : Hid (Below w4.heap.size w4 (w4.alloc (.cells #[.slice px n cx] 23))) := (Below.refl _ _).alloc (Nat.le_refl _) _
  have HL4 := hide (HL.out.below hb34)
  have HB24 := hide hb24
  clear hb4 hb34 hb24 HIA HBA HB23 HL hB3 HMk2
  go_wp2_with fail
  refine (HMk1.out _ _ HIO.out).mono ?_
  rintro ex w5 ⟨u5, rfl, hG5, hb5⟩
  have HG5 := hide hG5
  obtain ⟨gb5, _, _, _, _, _, _, rfl, _⟩ := hG5
  have hb45 := HBO.out.trans (hb5.mono HBO.out.size)
  have hB5 := hB4.trans (hb45.mono hB4.size)
  have HB25 := hide (HB24.out.trans (hb45.mono HB24.out.size))
  have HGg := hide (HG4.out.below hb45 (Nat.le_refl _))
  have HL5 := hide (HL4.out.below hb45)
  clear hb5 hb45 HIO HBO HL4 HG4 hB4 HB24 HMk1
  generalize hN : X.length = N at *
  have HN := hide hN
  clear hN
  have HSum : Hid (∀ k (S : List Int), (qs X (pad xs) (pad ys))[k]? = some S → ((qs X (pad xs) (pad ys)).take (k + 1)).flatten.length = ((qs X (pad xs) (pad ys)).take k).flatten.length + S.length) := fun k S hS => by
    rw [List.take_add_one, hS, List.flatten_append, List.length_append]
    simp
  have HSle : Hid (∀ k, ((qs X (pad xs) (pad ys)).take k).flatten.length ≤ N) := fun k => by
    rw [← HQF.out]
    conv => rhs; rw [← List.take_append_drop k (qs X (pad xs) (pad ys)), List.flatten_append, List.length_append]
    omega
  go_wp2
  go_loopw [17, 18] (fun ss si wr => ∃ (k s : Nat), k ≤ al ∧ si = .int .i64 (k : Int) ∧ ss = .int .i64 (s : Int) ∧ Hid (s = ((qs X (pad xs) (pad ys)).take k).flatten.length) ∧ wr = w5) (fun _ si _ => al - (intOf si).toNat)
  case atStart => exact ⟨0, 0, Nat.zero_le _, rfl, rfl, rfl, rfl⟩
  case round =>
    obtain ⟨k, s, hk, rfl, rfl, hs, hww⟩ := hrel
    have hww' := hww.symm
    subst hww'
    clear hww
    by_cases hlt : k < al
    · obtain ⟨S, hS⟩ : ∃ S, (qs X (pad xs) (pad ys))[k]? = some S := ⟨_, List.getElem?_eq_getElem (by rw [← HAL.out]; exact hlt)⟩
      have hrr := HL5.out.row
      rw [HL5.out.len, ← HAL.out] at hrr
      obtain ⟨gl, cl, egl, hgl1, hgl2, hgl3, hgl4⟩ := owns_form hrr (by omega)
      injection egl with eg1 eg2 eg3
      subst eg1
      subst eg3
      obtain ⟨uS, hcS, hoS⟩ := word_at hrr HL5.out.all hS HAL.out.symm
      obtain ⟨pS, cS, epS⟩ := owns_slice hoS
      subst epS
      have hs2 : s + S.length = ((qs X (pad xs) (pad ys)).take (k + 1)).flatten.length := by rw [HSum.out k S hS, hs.out]
      have hsl := HSle.out (k + 1)
      rw [← hs2] at hsl
      have HS2 := hide hs2
      generalize S.length = sl at *
      clear hrr hoS hS hs hs2 eg2
      go_wp2
      go_roundw
      case rel =>
        first
          | exact ⟨k + 1, s + sl, hlt, by go_num, by go_num, HS2, rfl⟩
          | exact ⟨k + 1, s + sl, hlt, by go_num, by go_num, HS2, trivial⟩
      case measure => simp [intOf]; omega
    · obtain rfl : al = k := by omega
      have hsN : s = N := by rw [hs.out, HAL.out, List.take_length]; exact HQF.out
      clear hs
      subst hsN
      have HLd := hide (leadsOf_ok (.slice p raw.length c) raw al 2 w5 (HI.out.below hB5) HX.out (by omega) (by omega) (by omega))
      go_wp2_with fail
      refine HLd.out.mono ?_
      rintro ex w6 ⟨vl, ls, rfl, hown6, hls, hb6⟩
      have hlsl : ls.length = al := by have h9 := hown6.1; rw [List.length_map] at h9; omega
      have hB6 := hB5.trans (hb6.mono hB5.size)
      have hb26 := HB25.out.trans (hb6.mono HB25.out.size)
      have HR6 := hide (HRd.out w6 vl ls hb26 (Ints.own hown6))
      have HG6 := hide (HGg.out.below hb6 (Nat.le_refl _))
      have HH6 := hide (HG5.out.below hb6 (Nat.le_refl _))
      have HB26 := hide hb26
      have hE1 : rdE (qs X (pad xs) (pad ys)) ls = 0 := rdE_ok (by rw [hlsl]; exact HAL.out) (fun z hz => by have := hls z hz; omega)
      have HE1 := hide hE1
      have HK1 := hide (rdN_ok hE1)
      have hpos : 1 ≤ s := by rw [← HN.out]; exact HRw.out.pos
      have hal1 : 1 ≤ al := by
        rcases Nat.eq_zero_or_pos al with h0 | h0
        · have h9 := HQF.out
          rw [List.length_eq_zero_iff.1 (HAL.out.symm.trans h0)] at h9
          simp at h9
          omega
        · exact h0
      obtain ⟨pv, cv, epv⟩ := owns_slice hown6
      subst epv
      clear hown6 hb6 hb26 hB5 HB25 HGg HG5 HLd hlsl hls hE1
      go_wp2_with fail
      refine HR6.out.mono ?_
      rintro ex w7 ⟨X7, hRw7, rfl, hb7⟩
      have eX := hRw7.unique HRw.out
      subst eX
      rw [HE1.out]
      have hB7 := hB6.trans (hb7.mono hB6.size)
      have HB27 := hide (HB26.out.trans (hb7.mono HB26.out.size))
      have HG7 := hide (HG6.out.below hb7 (Nat.le_refl _))
      have HH7 := hide (HH6.out.below hb7 (Nat.le_refl _))
      have hK0 := HK1.out
      rw [HN.out] at hK0
      have hk1 : 1 ≤ rdN X7 (pad xs) (pad ys) ls := by
        rw [hK0]
        obtain ⟨s', hs'⟩ : ∃ s', s = s' + 1 := ⟨s - 1, by omega⟩
        rw [hs']; exact cycsTo_pos _ _
      have hk2 : rdN X7 (pad xs) (pad ys) ls ≤ s := by rw [hK0]; exact cycsTo_length _ _
      have HPar : Hid (∀ o, o % 2 = 1 → pwP (pad xs * (pad ys)⁻¹) o = 1 → rdN X7 (pad xs) (pad ys) ls % 2 = (cycsTo (mv X7 (pad xs)) X7.length).length % 2) := fun o ho hp => by rw [HK1.out]; exact rankin HRw.out (g2_left xs ys) (g2_right xs ys) ls ho hp
      have HE2 : Hid (rdE (qs X7 (pad xs) (pad ys)) (List.replicate al 0) = 0) := rdE_ok (by rw [List.length_replicate]; exact HAL.out) (fun z hz => by rw [List.eq_of_mem_replicate hz]; exact Or.inl rfl)
      have HK2 : Hid (rdN X7 (pad xs) (pad ys) (List.replicate al 0) = (cycsTo (mv X7 (pad xs)) X7.length).length) := by show _ = _; rw [rdN_ok HE2.out, nxL_zero]
      have hpc := plain_count HRw.out (g2_left xs ys)
      have hpl : (cycsTo (mv X7 (pad xs)) X7.length).length ≤ X7.length := cycsTo_length _ _
      have hszg : sz (Gen (fun y => y ∈ [xs, ys].map pad)) n = s := by rw [← HN.out]; exact (sz_is HRw.out.sub h12 HRw.out.fix HRw.out.nodup HRw.out.mem).symm
      have HSG := hide (gsize_ok n _ ([xs, ys].map pad) w7 h12 HG7.out)
      rw [hszg] at HSG
      rw [HN.out] at hpc hpl
      rw [HN.out] at HPar HK2
      generalize rdN X7 (pad xs) (pad ys) ls = kk at *
      have HSZ := hide hszg
      clear hRw7 hb7 hB6 HB26 HG6 HH6 HR6 HE1 HK1 hK0 hszg
      go_wp2_with (at_make; refine wpList_make_full _ rfl _ _ 23 rfl w7.heap.size 3 j0 (.int .i64 0) 1 Try.underlying23 hji hjz0 hjz1 _ _ _ _ al rfl rfl (by omega) (by omega) ?b2 ?b3 (Nat.le_refl _) ?_)
      case b2 => rw [hjz2]; omega
      case b3 => unfold maxLen; omega
      intro w8 hown8 hg8
      rw [made_ints] at hown8
      have hb8 : Below w7.heap.size w7 w8 := (Below.refl _ _).grown hg8 (Nat.le_refl _) (fun k h => by cases h)
      have hB8 := hB7.trans (hb8.mono hB7.size)
      have HB28 := hide (HB27.out.trans (hb8.mono HB27.out.size))
      have HG8 := hide (HG7.out.below hb8 (Nat.le_refl _))
      have HH8 := hide (HH7.out.below hb8 (Nat.le_refl _))
      have HR8 := hide (HRd.out w8 _ (List.replicate al 0) HB28.out (Ints.own hown8))
      clear hown8 hg8 hb8 hB7 HB27 HG7 HH7 HSG
      go_wp2_with fail
      refine HR8.out.mono ?_
      rintro ex w9 ⟨X9, hRw9, rfl, hb9⟩
      have eX := hRw9.unique HRw.out
      subst eX
      rw [HE2.out, HK2.out]
      have hB9 := hB8.trans (hb9.mono hB8.size)
      have HB29 := hide (HB28.out.trans (hb9.mono HB28.out.size))
      have HG9 := hide (HG8.out.below hb9 (Nat.le_refl _))
      have HH9 := hide (HH8.out.below hb9 (Nat.le_refl _))
      have HSG := hide (gsize_ok n _ ([xs, ys].map pad) w9 h12 HG9.out)
      rw [HSZ.out] at HSG
      have hpc' : (cycsTo (mv X9 (pad xs)) s).length * sz (Gen (fun y => y ∈ [xs].map pad)) n = s := hpc
      generalize hplv : (cycsTo (mv X9 (pad xs)) s).length = plv at *
      generalize hszx : sz (Gen (fun y => y ∈ [xs].map pad)) n = zx at *
      have HZX := hide hszx
      have hpcI : (plv : Int) * (zx : Int) = (s : Int) := by rw [← hpc']; simp
      have HPC := hide hpc'
      have hplv1 : plv ≤ 1000 := by omega
      have hzx1 : zx ≤ 1000 := by
        rcases Nat.eq_zero_or_pos plv with h0 | h0
        · rw [h0] at hpc'; omega
        · have : 1 * zx ≤ plv * zx := Nat.mul_le_mul h0 (Nat.le_refl _)
          omega
      have g1 : decide ((kk : Int) < 1) = false := decide_eq_false (by omega)
      have g2 : decide ((s : Int) < (kk : Int)) = false := decide_eq_false (by omega)
      clear hRw9 hb9 hB8 HB28 HG8 HH8 HR8 HE2 HK2 hpc hpc' hszx hplv
      go_wp2_with fail
      refine HSG.out.mono ?_
      rintro ex w10 ⟨rfl, hb10⟩
      have hB10 := hB9.trans (hb10.mono hB9.size)
      have HB210 := hide (HB29.out.trans (hb10.mono HB29.out.size))
      have HG10 := hide (HG9.out.below hb10 (Nat.le_refl _))
      have HH10 := hide (HH9.out.below hb10 (Nat.le_refl _))
      have HSH := hide (gsize_ok n _ ([xs].map pad) w10 h12 HH10.out)
      rw [HZX.out] at HSH
      clear hb10 hB9 HB29 HG9 HH9 HSG
      go_wp2_with fail
      refine HSH.out.mono ?_
      rintro ex w11 ⟨rfl, hb11⟩
      have hB11 := hB10.trans (hb11.mono hB10.size)
      have HB211 := hide (HB210.out.trans (hb11.mono HB210.out.size))
      have HG11 := hide (HG10.out.below hb11 (Nat.le_refl _))
      have HSG := hide (gsize_ok n _ ([xs, ys].map pad) w11 h12 HG11.out)
      rw [HSZ.out] at HSG
      clear hb11 hB10 HB210 HG10 HH10 HSH
      go_wp2_with fail
      refine HSG.out.mono ?_
      rintro ex w12 ⟨rfl, hb12⟩
      have hB12 := hB11.trans (hb12.mono hB11.size)
      have HB212 := hide (HB211.out.trans (hb12.mono HB211.out.size))
      have hfx := pad_fixes h12 HXR.out.2 HXR.out.1
      have hfy := pad_fixes h12 HYR.out.2 HYR.out.1
      have HUn := hide (rcut_undo n (pad ys) (.slice py n cy) w12 h1 h12 hfy (by rw [cut_pad h12 HYR.out.2 HYR.out.1]; exact HY2.out.below HB212.out))
      have HFX := hide hfx
      have HFY := hide hfy
      clear hb12 hB11 HB211 HG11 HSG hfx hfy
      go_wp2_with fail
      refine HUn.out.mono ?_
      rintro ex w13 ⟨u13, rfl, hown13, hb13⟩
      have hB13 := hB12.trans (hb13.mono hB12.size)
      have HB213 := hide (HB212.out.trans (hb13.mono HB212.out.size))
      have HBy := hide (rcut_by n (pad xs) (pad ys)⁻¹ (.slice px n cx) u13 w13 h1 h12 HFX.out ((fixes_sub _).inv HFY.out) (by rw [cut_pad h12 HXR.out.2 HXR.out.1]; exact HX2.out.below HB213.out) (Ints.own hown13))
      obtain ⟨p13, c13, e13⟩ := owns_slice hown13
      subst e13
      clear hown13 hb13 hB12 HB212 HUn
      go_wp2_with fail
      refine HBy.out.mono ?_
      rintro ex w14 ⟨u14, rfl, hown14, hb14⟩
      have hB14 := hB13.trans (hb14.mono hB13.size)
      have hfp : Fixes (fun b => n ≤ b) (pad xs * (pad ys)⁻¹) := (fixes_sub _).mul HFX.out ((fixes_sub _).inv HFY.out)
      have HOr := hide (order_ord h1 h12 (show RowAt w14 u14 n (cut n (pad xs * (pad ys)⁻¹)) from ⟨Ints.own hown14, cut_row h12 hfp, cut_length h12 _⟩))
      have HPO := hide (pwP_ord h12 hfp)
      obtain ⟨p14, c14, e14⟩ := owns_slice hown14
      subst e14
      clear hown14 hb14 hB13 HB213 HBy hfp
      go_wp2_with fail
      refine HOr.out.mono ?_
      rintro ex w15 ⟨rfl, ho1, ho2, hb15⟩
      have HB15 := hide (hB14.trans (hb15.mono hB14.size))
      have hpar : ord (cut n (pad xs * (pad ys)⁻¹)) % 2 = 1 → kk % 2 = plv % 2 := fun ho => HPar.out _ ho HPO.out
      generalize ord (cut n (pad xs * (pad ys)⁻¹)) = o at *
      generalize odd (cut n (pad xs * (pad ys)⁻¹)) = od at *
      have m1 : (o : Int).tmod 2 = ((o % 2 : Nat) : Int) := rfl
      have m2 : (kk : Int).tmod 2 = ((kk % 2 : Nat) : Int) := rfl
      have m3 : (plv : Int).tmod 2 = ((plv % 2 : Nat) : Int) := rfl
      rcases Nat.mod_two_eq_zero_or_one o with ho | ho
      · rw [ho] at m1
        have m1' : (o : Int).tmod 2 = 0 := m1
        clear m1 m2 m3 hpar hb15 HOr
        go_wp2
        go_ret
        exact ⟨rfl, HB15.out⟩
      · rw [ho] at m1
        have m1' : (o : Int).tmod 2 = 1 := m1
        have hpp := hpar ho
        rw [hpp] at m2
        generalize plv % 2 = r2 at *
        clear m1 hpar hb15 HOr hpp
        go_wp2
        go_ret
        exact ⟨rfl, HB15.out⟩

theorem topRankin_walk (v : Value) (xs : List Int) (a1 a2 a3 : Int) (w : World) (h : Ints w v xs) (hx : ∀ x, x ∈ xs → I64 x) (i1 : I64 a1) (i2 : I64 a2) (i3 : I64 a3) :
    Calls Try.prog 13 #[v, .int .i64 a1, .int .i64 a2, .int .i64 a3] w fun e w' => e = .returned (.bool true) ∧ Below w.heap.size w w' := by
  by_cases hl : 256 < xs.length
  · exact trankin_long v xs a1 a2 a3 w h hl
  · exact trankin_ok v xs a1 a2 a3 w h hx (by omega) i1 i2 i3

end Go.Proofs.Ytimfoggjocajiaa

/- ExtentSays: rows of one length. -/
namespace Go.Proofs.Ytimfoggjocajiaa
open Go.RowKit
set_option linter.unusedVariables false

set_option maxRecDepth 20000 in
set_option maxHeartbeats 8000000 in
theorem extentSays_mid (n zs : Nat) (v1 v2 v3 : Value) (xs ys cs : List Int) (w : World) (h1 : Ints w v1 xs) (h2 : Ints w v2 ys) (h3 : Ints w v3 cs) (hn1 : 1 ≤ n) (h12 : n ≤ 12) (hl : xs.length = n) (hR : RowsN n [xs, ys]) (hz : sz (G2 xs ys) n = zs) (hm1 : 200 < zs) (hm2 : zs < 5041) :
    Calls Try.prog 8 #[v1, v2, v3] w fun e w' => Told w e w' := by
  have hgz := gchk_rows hn1 h12 hR
  have HM : Hid (∀ W v, IntsAll W v [xs, ys] → Calls Try.prog 15 #[.int .i64 (n : Int), v] W fun e w' => e = .returned (.int .i64 0) ∧ W = w') := fun W v hv => by have := gensMay_ok n v [xs, ys] W hv hn1 h12 (by simp); rwa [hgz] at this
  have HSz : Hid (∀ W v, IntsAll W v [xs, ys] → Calls Try.prog 17 #[.int .i64 (n : Int), v] W fun e w' => e = .returned (.int .i64 (zs : Int)) ∧ Below W.heap.size W w') := fun W v hv => by
    have := sizes_ok n v [xs, ys] W hv hR hn1 h12 (by simp)
    rw [show sz (Gen (fun y => y ∈ [xs, ys].map pad)) n = zs from hz] at this
    exact this
  have H1 := hide h1
  have H2 := hide h2
  have H3 := hide h3
  have HI0 := hide (ints_two (w := w) (m := w.heap.size) rfl h1 h2)
  have hyl := (hR ys (by simp)).2
  obtain ⟨p1, c1, e1⟩ := h1.form
  obtain ⟨p2, c2, e2⟩ := h2.form
  obtain ⟨p3, c3, e3⟩ := h3.form
  rw [hl] at e1
  rw [hyl] at e2
  subst e1
  subst e2
  subst e3
  generalize hcl9 : cs.length = cl at *
  have HCLN := hide hcl9
  have HB0 : Hid (Below w.heap.size w (w.alloc (.cells #[.slice p1 n c1, .slice p2 n c2] 23))) := (Below.refl _ _).alloc (Nat.le_refl _) _
  clear h1 h2 h3 hgz hyl hl hR hz hcl9
  go_enter Try.func8, Try.ntmps8
  go_wp2_with fail
  refine (HM.out _ _ HI0.out).mono ?_
  rintro ex w1 ⟨rfl, hw1⟩
  have HB1 : Hid (Below w.heap.size w w1) := by rw [← hw1]; exact HB0.out
  have HI1 := hide (ints_two (w := w1) (m := w1.heap.size) rfl (H1.out.below HB1.out) (H2.out.below HB1.out))
  have HB1' : Hid (Below w1.heap.size w1 (w1.alloc (.cells #[.slice p1 n c1, .slice p2 n c2] 23))) := (Below.refl _ _).alloc (Nat.le_refl _) _
  clear hw1 HM HI0 HB0
  have g1 : (200 : Int) < (zs : Int) := by omega
  have g2 : (zs : Int) < 5041 := by omega
  go_wp2_with fail
  refine (HSz.out _ _ HI1.out).mono ?_
  rintro ex w2 ⟨rfl, hb2⟩
  have hb12 := HB1'.out.trans (hb2.mono HB1'.out.size)
  have HB2 := hide (HB1.out.trans (hb12.mono HB1.out.size))
  clear hb2 hb12 HB1 HB1' HI1 HSz
  go_wp2
  go_ret
  exact ⟨rfl, HB2.out⟩

set_option maxRecDepth 20000 in
set_option maxHeartbeats 8000000 in
theorem extentSays_lim (n zs : Nat) (v1 v2 v3 : Value) (xs ys cs : List Int) (w : World) (h1 : Ints w v1 xs) (h2 : Ints w v2 ys) (h3 : Ints w v3 cs) (hn1 : 1 ≤ n) (h12 : n ≤ 12) (hl : xs.length = n) (hR : RowsN n [xs, ys]) (hz : sz (G2 xs ys) n = zs) (hm1 : 5040 < zs) :
    Calls Try.prog 8 #[v1, v2, v3] w fun e w' => Told w e w' := by
  have hgz := gchk_rows hn1 h12 hR
  have HM : Hid (∀ W v, IntsAll W v [xs, ys] → Calls Try.prog 15 #[.int .i64 (n : Int), v] W fun e w' => e = .returned (.int .i64 0) ∧ W = w') := fun W v hv => by have := gensMay_ok n v [xs, ys] W hv hn1 h12 (by simp); rwa [hgz] at this
  have HSz : Hid (∀ W v, IntsAll W v [xs, ys] → Calls Try.prog 17 #[.int .i64 (n : Int), v] W fun e w' => e = .returned (.int .i64 (zs : Int)) ∧ Below W.heap.size W w') := fun W v hv => by
    have := sizes_ok n v [xs, ys] W hv hR hn1 h12 (by simp)
    rw [show sz (Gen (fun y => y ∈ [xs, ys].map pad)) n = zs from hz] at this
    exact this
  have H1 := hide h1
  have H2 := hide h2
  have H3 := hide h3
  have HEx : Hid (∀ W, Below w.heap.size w W → Calls Try.prog 94 #[v1, v2] W fun e w' => ExNo 3 W e w') := fun W hW => exits_lim n v1 v2 xs ys W (h1.below hW) (h2.below hW) hn1 h12 hl hR (by rw [hz]; exact hm1)
  have HQ : Hid (∀ W, Below w.heap.size w W → Calls Try.prog 48 #[v1, v2] W fun e w' => QNo 3 W e w') := fun W hW => qsets_no v1 v2 3 W (by decide) (HEx.out W hW)
  have HRd : Hid (∀ W, Below w.heap.size w W → Calls Try.prog 49 #[v1, v2, v3] W fun e w' => e = .returned (.tuple #[.int .i64 0, .int .i64 3]) ∧ Below W.heap.size W w') := fun W hW => rounds_no v1 v2 v3 3 W (by decide) (HEx.out W hW)
  have HI0 := hide (ints_two (w := w) (m := w.heap.size) rfl h1 h2)
  have hyl := (hR ys (by simp)).2
  obtain ⟨p1, c1, e1⟩ := h1.form
  obtain ⟨p2, c2, e2⟩ := h2.form
  obtain ⟨p3, c3, e3⟩ := h3.form
  rw [hl] at e1
  rw [hyl] at e2
  subst e1
  subst e2
  subst e3
  generalize hcl9 : cs.length = cl at *
  have HCLN := hide hcl9
  have HB0 : Hid (Below w.heap.size w (w.alloc (.cells #[.slice p1 n c1, .slice p2 n c2] 23))) := (Below.refl _ _).alloc (Nat.le_refl _) _
  clear h1 h2 h3 hgz hyl hl hR hz hcl9
  go_enter Try.func8, Try.ntmps8
  go_wp2_with fail
  refine (HM.out _ _ HI0.out).mono ?_
  rintro ex w1 ⟨rfl, hw1⟩
  have HB1 : Hid (Below w.heap.size w w1) := by rw [← hw1]; exact HB0.out
  have HI1 := hide (ints_two (w := w1) (m := w1.heap.size) rfl (H1.out.below HB1.out) (H2.out.below HB1.out))
  have HB1' : Hid (Below w1.heap.size w1 (w1.alloc (.cells #[.slice p1 n c1, .slice p2 n c2] 23))) := (Below.refl _ _).alloc (Nat.le_refl _) _
  clear hw1 HM HI0 HB0
  have g1 : decide ((200 : Int) < (zs : Int)) = true := decide_eq_true (by omega)
  have g2 : decide ((zs : Int) < 5041) = false := decide_eq_false (by omega)
  have g3 : decide ((5040 : Int) < (zs : Int)) = true := decide_eq_true (by omega)
  clear hm1
  go_wp2_with fail
  refine (HSz.out _ _ HI1.out).mono ?_
  rintro ex w2 ⟨rfl, hb2⟩
  have hb12 := HB1'.out.trans (hb2.mono HB1'.out.size)
  have HB2 := hide (HB1.out.trans (hb12.mono HB1.out.size))
  clear hb2 hb12 HB1 HB1' HI1 HSz
  go_wp2_with fail
  refine (HQ.out w2 HB2.out).mono ?_
  rintro ex w3 ⟨rfl, hb3⟩
  have HB3 := hide (HB2.out.trans (hb3.mono HB2.out.size))
  clear hb3 HB2
  go_wp2_with fail
  refine (HRd.out w3 HB3.out).mono ?_
  rintro ex w4 ⟨rfl, hb4⟩
  have HB4 := hide (HB3.out.trans (hb4.mono HB3.out.size))
  clear hb4 HB3
  go_wp2
  go_ret
  exact ⟨rfl, HB4.out⟩

set_option maxRecDepth 20000 in
set_option maxHeartbeats 8000000 in
theorem extentSays_ok (n zs : Nat) (v1 v2 v3 : Value) (xs ys cs : List Int) (w : World) (h1 : Ints w v1 xs) (h2 : Ints w v2 ys) (h3 : Ints w v3 cs) (hn1 : 1 ≤ n) (h12 : n ≤ 12) (hl : xs.length = n) (hR : RowsN n [xs, ys]) (hz : sz (G2 xs ys) n = zs) (hm1 : zs ≤ 200) :
    Calls Try.prog 8 #[v1, v2, v3] w fun e w' => Told w e w' := by
  have hgz := gchk_rows hn1 h12 hR
  have HM : Hid (∀ W v, IntsAll W v [xs, ys] → Calls Try.prog 15 #[.int .i64 (n : Int), v] W fun e w' => e = .returned (.int .i64 0) ∧ W = w') := fun W v hv => by have := gensMay_ok n v [xs, ys] W hv hn1 h12 (by simp); rwa [hgz] at this
  have HSz : Hid (∀ W v, IntsAll W v [xs, ys] → Calls Try.prog 17 #[.int .i64 (n : Int), v] W fun e w' => e = .returned (.int .i64 (zs : Int)) ∧ Below W.heap.size W w') := fun W v hv => by
    have := sizes_ok n v [xs, ys] W hv hR hn1 h12 (by simp)
    rw [show sz (Gen (fun y => y ∈ [xs, ys].map pad)) n = zs from hz] at this
    exact this
  have H1 := hide h1
  have H2 := hide h2
  have H3 := hide h3
  have HQ : Hid (∀ W, Below w.heap.size w W → Calls Try.prog 48 #[v1, v2] W fun e w' => QPost n xs ys W e w') := fun W hW => qsets_ok n v1 v2 xs ys W (h1.below hW) (h2.below hW) hn1 h12 hl hR (by rw [hz]; omega)
  have HRd : Hid (∀ W, Below w.heap.size w W → Calls Try.prog 49 #[v1, v2, v3] W fun e w' => RoundsPost n xs ys cs W e w') := fun W hW => rounds2_ok n v1 v2 v3 xs ys cs W (h1.below hW) (h2.below hW) (h3.below hW) hn1 h12 hl hR (by rw [hz]; omega)
  have HCd : Hid (∀ W v, IntsAll W v [xs, ys] → Calls Try.prog 31 #[.int .i64 (n : Int), v, .int .i64 5040] W fun e w' => ClosedPost n [xs, ys] 5040 W e w') := fun W v hv => closed_ok n 5040 v [xs, ys] W hv hR hn1 h12 (by simp) (by omega) (by omega)
  have HRN := hide hR
  have HZ := hide hz
  have HCX : Hid (cut n (pad xs) = xs) := cut_pad h12 hl (hR xs (by simp)).1
  have HCY : Hid (cut n (pad ys) = ys) := cut_pad h12 (hR ys (by simp)).2 (hR ys (by simp)).1
  have HI0 := hide (ints_two (w := w) (m := w.heap.size) rfl h1 h2)
  have hyl := (hR ys (by simp)).2
  obtain ⟨p1, c1, e1⟩ := h1.form
  obtain ⟨p2, c2, e2⟩ := h2.form
  obtain ⟨p3, c3, e3⟩ := h3.form
  rw [hl] at e1
  rw [hyl] at e2
  subst e1
  subst e2
  subst e3
  generalize hcl9 : cs.length = cl at *
  have HCLN := hide hcl9
  have HB0 : Hid (Below w.heap.size w (w.alloc (.cells #[.slice p1 n c1, .slice p2 n c2] 23))) := (Below.refl _ _).alloc (Nat.le_refl _) _
  clear h1 h2 h3 hgz hyl hl hR hz hcl9
  go_enter Try.func8, Try.ntmps8
  go_wp2_with fail
  refine (HM.out _ _ HI0.out).mono ?_
  rintro ex w1 ⟨rfl, hw1⟩
  have HB1 : Hid (Below w.heap.size w w1) := by rw [← hw1]; exact HB0.out
  have HI1 := hide (ints_two (w := w1) (m := w1.heap.size) rfl (H1.out.below HB1.out) (H2.out.below HB1.out))
  have HB1' : Hid (Below w1.heap.size w1 (w1.alloc (.cells #[.slice p1 n c1, .slice p2 n c2] 23))) := (Below.refl _ _).alloc (Nat.le_refl _) _
  clear hw1 HM HI0 HB0
  have g1 : ¬ (200 : Int) < (zs : Int) := by omega
  have g3 : ¬ (5040 : Int) < (zs : Int) := by omega
  go_wp2_with fail
  refine (HSz.out _ _ HI1.out).mono ?_
  rintro ex w2 ⟨rfl, hb2⟩
  have hb12 := HB1'.out.trans (hb2.mono HB1'.out.size)
  have HB2 := hide (HB1.out.trans (hb12.mono HB1.out.size))
  clear hb2 hb12 HB1 HB1' HI1 HSz
  have HI2 := hide (ints_two (w := w2) (m := w2.heap.size) rfl (H1.out.below HB2.out) (H2.out.below HB2.out))
  have HB2' : Hid (Below w2.heap.size w2 (w2.alloc (.cells #[.slice p1 n c1, .slice p2 n c2] 23))) := (Below.refl _ _).alloc (Nat.le_refl _) _
  go_wp2_with fail
  refine (HCd.out _ _ HI2.out).mono ?_
  rintro ex w3 ⟨hb3, hcl⟩
  rcases hcl with ⟨vr, vw, Sr, rfl, hIr, hIw, hrun, hSl⟩ | ⟨rfl, Sr, hrok, hlong⟩
  rotate_left
  · exact absurd (found_few h12 HRN.out hrok) (by have h9 : sz (Gen (fun y => y ∈ [xs, ys].map pad)) n = zs := HZ.out; rw [h9]; omega)
  have hb23 := HB2'.out.trans (hb3.mono HB2'.out.size)
  have HB3 := hide (HB2.out.trans (hb23.mono HB2.out.size))
  have HFd := hide (Found.of h12 HRN.out hrun)
  have hSl2 : Sr.length ≤ 1000000 := by omega
  have HOr := hide (rordered_all vr (Sr.map (fun e => cut n e.1)) w3 hIr (by rw [List.length_map]; exact hSl2) (fun r hr => by obtain ⟨y, _, rfl⟩ := List.mem_map.1 hr; rw [cut_length h12]; omega))
  clear hIr hIw hrun hb3 hb23 HI2 HB2' HB2 HCd hSl
  go_wp2_with fail
  refine HOr.out.mono ?_
  rintro ex w4 ⟨u4, Y, rfl, hIY, hperm, hris, hb4⟩
  have HB4 := hide (HB3.out.trans (hb4.mono HB3.out.size))
  have HIY := hide hIY
  have HPM := hide hperm
  have HRS := hide hris
  clear hIY hperm hris hb4 HB3 HOr
  go_wp2_with fail
  refine (HQ.out w4 HB4.out).mono ?_
  rintro ex w5 ⟨ul, us, X, rfl, hRw, hL, hb5⟩
  have hXY : X.map (cut n) = Y := group_ordered (S := Sr.map (·.1)) h12 (fun x hx => hRw.fix x ((hRw.mem x).1 hx)) hRw.nodup hRw.sorted HFd.out.nodup (fun x => (hRw.mem x).trans (HFd.out.mem x).symm) (by rw [List.map_map]; rfl) HPM.out HRS.out
  have HB5 := hide (HB4.out.trans (hb5.mono HB4.out.size))
  have HIX5 : Hid (IntsAll w5 u4 (X.map (cut n))) := by rw [hXY]; exact HIY.out.below hb5
  have HL5 := hide hL.ints
  have HRw := hide hRw
  obtain ⟨pl, ql, el⟩ := hL.ints.len
  subst el
  clear hRw hL hb5 hXY HIY HPM HRS HB4 HFd
  go_wp2_with fail
  refine (HRd.out w5 HB5.out).mono ?_
  rintro ex w6 ⟨X6, hRw6, rfl, hb6⟩
  have eX := hRw6.unique HRw.out
  subst eX
  have HB6 := hide (HB5.out.trans (hb6.mono HB5.out.size))
  have HIX6 := hide (HIX5.out.below hb6)
  have HL6 := hide (HL5.out.below hb6)
  have HRQ := hide (rqsets_ok n (G2 xs ys) X6 (pad xs) (pad ys) u4 (.slice p1 n c1) (.slice p2 n c2) w6 HRw.out (g2_left xs ys) (g2_right xs ys) HIX6.out (by rw [HCX.out]; exact H1.out.below HB6.out) (by rw [HCY.out]; exact H2.out.below HB6.out))
  clear hRw6 hb6 HIX5 HL5 HB5
  go_wp2_with fail
  refine HRQ.out.mono ?_
  rintro ex w7 ⟨u7, rfl, hI7, hb7⟩
  have HB7 := hide (HB6.out.trans (hb7.mono HB6.out.size))
  have HIX7 := hide (HIX6.out.below hb7)
  have HSA := hide (sameAll_any _ u7 _ _ w7 (HL6.out.below hb7) hI7)
  rw [decide_eq_true rfl] at HSA
  obtain ⟨p7, c7, e7⟩ := hI7.len
  subst e7
  clear hI7 hb7 HIX6 HL6 HB6 HRQ
  generalize hql : (qs X6 (pad xs) (pad ys)).length = ql6 at *
  have HQL := hide hql
  go_wp2_with fail
  refine HSA.out.mono ?_
  rintro ex w8 ⟨rfl, hb8⟩
  have HB8 := hide (HB7.out.trans (hb8.mono HB7.out.size))
  have HIX8 := hide (HIX7.out.below hb8)
  clear hb8 HIX7 HB7 HSA hql
  by_cases hcl : cl = ql6
  · subst hcl
    go_wp2
    go_loopw [15] (fun si wr => ∃ k : Nat, k ≤ cl ∧ si = .int .i64 (k : Int) ∧ Hid (∀ i, i < k → cs.getD i 0 = 0 ∨ cs.getD i 0 = 1) ∧ Below w8.heap.size w8 wr) (fun si _ => cl - (intOf si).toNat)
    case atStart => exact ⟨0, Nat.zero_le _, rfl, fun i hi => absurd hi (by omega), Below.refl _ _⟩
    case round =>
      obtain ⟨k, hk, rfl, hgd, hbk⟩ := hrel
      have hBk := HB8.out.trans (hbk.mono HB8.out.size)
      by_cases hlt : k < cl
      · obtain ⟨bc, oc, epc, kc1, kc2, kc3, kc4⟩ := H3.out.open (by rw [HCLN.out]; omega)
        rw [HCLN.out] at kc1 kc4
        subst epc
        have hcc := (hBk.cell (p := ⟨bc, oc + k, none⟩) kc3).trans (kc4 k hlt)
        have HCM : Hid (cs.getD k 0 ∈ cs) := by
          have h9 : k < cs.length := by rw [HCLN.out]; exact hlt
          rw [List.getD, List.getElem?_eq_getElem h9]
          exact List.getElem_mem h9
        obtain ⟨c, hcv⟩ : ∃ c, c = cs.getD k 0 := ⟨_, rfl⟩
        have HCV := hide hcv
        rw [← hcv] at hcc
        clear kc4 hcv
        by_cases hgood : c = 0 ∨ c = 1
        · have g1 : decide (c < 0) = false := decide_eq_false (by omega)
          have g2 : decide (1 < c) = false := decide_eq_false (by omega)
          have HGD : Hid (∀ i, i < k + 1 → cs.getD i 0 = 0 ∨ cs.getD i 0 = 1) := fun i hi => by
            by_cases e : i = k
            · subst e; rw [← HCV.out]; exact hgood
            · exact hgd.out i (by omega)
          clear hgd hgood
          go_wp2
          go_roundw
          case rel => exact ⟨k + 1, hlt, by go_num, HGD, hbk⟩
          case measure => simp [intOf]; omega
        · have e1 := rdE_value (A := qs X6 (pad xs) (pad ys)) (cs := cs) (by rw [HQL.out]; exact HCLN.out) HCM.out (by rw [← HCV.out]; omega) (by rw [← HCV.out]; omega)
          have e2 : rdN X6 (pad xs) (pad ys) cs = 0 := by unfold rdN; rw [e1, if_neg (by decide)]
          rw [e1, e2]
          have HBK := hide hBk
          have hcase : c < 0 ∨ (¬ c < 0 ∧ 1 < c) := by omega
          clear e1 e2 hgd hbk hBk
          rcases hcase with g1 | ⟨g1, g2⟩ <;>
          · clear hgood
            go_wp2
            go_ret
            exact ⟨rfl, HBK.out⟩
      · obtain rfl : cl = k := by omega
        have hgd2 : ∀ c, c ∈ cs → c = 0 ∨ c = 1 := fun c hc => by
          obtain ⟨i, hi, e⟩ := List.getElem_of_mem hc
          have h9 := hgd.out i (by rw [← HCLN.out]; exact hi)
          rw [List.getD, List.getElem?_eq_getElem hi, e] at h9
          exact h9
        have e1 := rdE_ok (A := qs X6 (pad xs) (pad ys)) (cs := cs) (by rw [HQL.out]; exact HCLN.out) hgd2
        have e2 := rdN_ok e1
        rw [e1, e2]
        have HCi := hide (rcirc_ok n (G2 xs ys) X6 (pad xs) (pad ys) u4 (.slice p1 n c1) (.slice p2 n c2) (.slice p3 cl c3) cs wr HRw.out (g2_left xs ys) (g2_right xs ys) (HIX8.out.below hbk) (by rw [HCX.out]; exact H1.out.below hBk) (by rw [HCY.out]; exact H2.out.below hBk) (H3.out.below hBk) (by rw [HQL.out]; exact HCLN.out))
        have HBK := hide hBk
        generalize (cycsTo (nxL X6 (pad xs) (pad ys) (qs X6 (pad xs) (pad ys)) cs) X6.length).length = RR at *
        clear e1 e2 hgd2 hgd hbk hBk
        go_wp2_with fail
        refine HCi.out.mono ?_
        rintro ex w9 ⟨rfl, hb9⟩
        have HB9 := hide (HBK.out.trans (hb9.mono HBK.out.size))
        clear hb9 HCi
        go_wp2
        go_ret
        exact ⟨rfl, HB9.out⟩
  · have e1 := rdE_count (A := qs X6 (pad xs) (pad ys)) (cs := cs) (by rw [HQL.out, HCLN.out]; exact hcl)
    have e2 : rdN X6 (pad xs) (pad ys) cs = 0 := by unfold rdN; rw [e1, if_neg (by decide)]
    rw [e1, e2]
    have hne : ((cl : Int) != (ql6 : Int)) = true := by rw [bne_iff_ne]; omega
    clear e1 e2
    clear hcl
    go_wp2
    go_ret
    exact ⟨rfl, HB8.out⟩

theorem extentSays_walk (v1 : Value) (xs : List Int) (v2 : Value) (ys : List Int) (v3 : Value) (cs : List Int) (w : World) (h1 : Ints w v1 xs) (_ : ∀ x, x ∈ xs → I64 x) (h2 : Ints w v2 ys) (_ : ∀ x, x ∈ ys → I64 x) (h3 : Ints w v3 cs) (_ : ∀ x, x ∈ cs → I64 x) :
    Calls Try.prog 8 #[v1, v2, v3] w fun e w' => e = .returned (.bool true) ∧ Below w.heap.size w w' := by
  by_cases hb : xs.length < 1 ∨ 12 < xs.length
  · have hb' : ((xs.length : Nat) : Int) < 1 ∨ 12 < ((xs.length : Nat) : Int) ∨ 8 < [xs, ys].length := by omega
    refine extentSays_no v1 v2 v3 xs ys 1 w h1 h2 (by decide) (fun W v hv => ?_) (fun W v hv => gensMay_bad _ v [xs, ys] W hv hb')
    refine (gcheck_bad _ v [xs, ys] W hv hb').mono ?_
    rintro e w'' ⟨rfl, rfl⟩
    exact ⟨rfl, Below.refl _ _⟩
  · have hn1 : 1 ≤ xs.length := by omega
    have h12 : xs.length ≤ 12 := by omega
    by_cases hz : gchk xs.length [xs, ys] = 0
    · have hR := gchk_back hz
      by_cases hm1 : sz (G2 xs ys) xs.length ≤ 200
      · exact extentSays_ok xs.length _ v1 v2 v3 xs ys cs w h1 h2 h3 hn1 h12 rfl hR rfl hm1
      · by_cases hm2 : sz (G2 xs ys) xs.length < 5041
        · exact extentSays_mid xs.length _ v1 v2 v3 xs ys cs w h1 h2 h3 hn1 h12 rfl hR rfl (by omega) hm2
        · exact extentSays_lim xs.length _ v1 v2 v3 xs ys cs w h1 h2 h3 hn1 h12 rfl hR rfl (by omega)
    · exact extentSays_no v1 v2 v3 xs ys _ w h1 h2 hz (fun W v hv => gcheck_ok _ v [xs, ys] W hv hn1 h12 (by simp)) (fun W v hv => gensMay_ok _ v [xs, ys] W hv hn1 h12 (by simp))

end Go.Proofs.Ytimfoggjocajiaa
