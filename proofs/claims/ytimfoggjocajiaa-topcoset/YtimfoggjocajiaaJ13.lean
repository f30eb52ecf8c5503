/- Joined: CoM, CoN, GeV, GrD, GrE, GrF, GrG. -/
import Derived.Test.YtimfoggjocajiaaJ12
import Derived.Test.YtimfoggjocajiaaJ5
import Derived.Test.YtimfoggjocajiaaJ10
import Derived.Test.YtimfoggjocajiaaJ6
import Derived.Test.YtimfoggjocajiaaJ11
/- Contract: coset.Make, where it makes a table. -/
namespace Go.Proofs.Ytimfoggjocajiaa
open Go.RowKit

/-- What Make leaves. -/
def CMade (n : Nat) (H : Pm → Prop) (gss : List (List Int)) (w : World) (e : Ending) (w' : World) : Prop :=
  ∃ (u : Value) (T : List (Pm × List Int)) (N : List (List Nat)), e = .returned (.tuple #[u, .int .i64 0]) ∧ TabAt w' u n H T N ∧ RunC H (letters 0 gss) T.length T N ∧ Below w.heap.size w w'

theorem FillIn.tab {w0 w w' : World} {B T M n m0 b k0 : Nat} {vb vlet : Value} {H : Pm → Prop} {fs : Nat → Int → Option Value} {gss : List (List Int)} {X : List Pm} {e : Ending} (h : FillIn w0 w B T M n m0 b k0 vb vlet H fs gss X) (hF : FillPost w T M n vb H gss e w') :
    e = .returned (.tuple #[]) ∧ ∃ (TT : List (Pm × List Int)) (N : List (List Nat)), TabAt w' (.pointer (some ⟨T, 0, none⟩)) n H TT N ∧ RunC H (letters 0 gss) TT.length TT N ∧ Below w0.heap.size w0 w' := by
  obtain ⟨e1, TT, N, F, cnt, v1, v2, v3, s1, s2, s3, hR, hM, hF⟩ := hF
  have hb : Below w0.heap.size w0 w' := h.b0.trans (hF.frm.below h.b0.size h.t0 h.mt0)
  exact ⟨e1, TT, N, ⟨h.sub, h.hfix, h.one, h.twelve, T, M, m0, b, k0, cnt, w.heap.size, vb, v3, v2, s3, s2, fs, F, rfl, hF.blk, h.br.later hb, hF.map, hM, hF.quad.tri.l3, hF.quad.tri.l2⟩, hR, hb⟩

set_option maxRecDepth 20000 in
set_option maxHeartbeats 8000000 in
theorem cmake_ok (n : Nat) (vg vs : Value) (gss sss : List (List Int)) (w : World) (hA : IntsAll w vg gss) (hS : IntsAll w vs sss) (hR : RowsN n gss) (hRs : RowsN n sss) (h1 : 1 ≤ n) (h12 : n ≤ 12) (h8 : gss.length ≤ 8) (h8s : sss.length ≤ 8) (hm : ∀ x, x ∈ sss → Gen (fun y => y ∈ gss.map pad) (pad x))
    (hf : sz (Gen (fun y => y ∈ sss.map pad)) n ≤ 1000) (ha : sz (Gen (fun y => y ∈ gss.map pad)) n ≤ 1000 * sz (Gen (fun y => y ∈ sss.map pad)) n) :
    Calls Try.prog 30 #[.int .i64 n, vg, vs] w fun e w' => CMade n (Gen (fun y => y ∈ sss.map pad)) gss w e w' := by
  have HMk := hide (make_ok n vg gss w hA h1 h12 h8 hR)
  have HMk2 : Hid (∀ w', Below w.heap.size w w' → Calls Try.prog 14 #[.int .i64 n, vs] w' fun e w'' => ∃ u, e = .returned (.tuple #[u, .int .i64 0]) ∧ GroupAt w'' u n (sss.map pad) ∧ Below w'.heap.size w' w'') := fun w' hb => make_ok n vs sss w' (hS.below hb) h1 h12 h8s hRs
  obtain ⟨X, x1, x2, x3⟩ := sz_list (Gen.sub (fun y => y ∈ gss.map pad)) h12 (fun x hx => gens_fix h12 hR hx)
  have HXA : Hid (∀ x, Gen (fun x => ∃ l, l ∈ letters 0 gss ∧ l.2 = x) x → x ∈ X) := fun x hx => (x2 x).2 ((letters_gen 0 gss x).1 hx)
  have HXL : Hid (X.length ≤ 1000000) := by have : X.length ≤ 1000000 := (by omega); exact this
  have HSF : Hid (∀ h, Gen (fun y => y ∈ sss.map pad) h → Fixes (fun b => n ≤ b) h) := fun h hh => gens_fix h12 hRs hh
  have HA := hide hA
  have HS := hide hS
  have HR := hide hR
  have HRS := hide hRs
  have HM := hide hm
  obtain ⟨ps, cs, rfl⟩ := hS.len
  generalize hzs : sz (Gen (fun y => y ∈ sss.map pad)) n = zs at *
  generalize hzg : sz (Gen (fun y => y ∈ gss.map pad)) n = zg at *
  have HZS := hide hzs
  have HZG := hide hzg
  generalize hsl : sss.length = sl at *
  have HSL := hide hsl
  clear hA hS hR hRs hm x1 x2 x3 hzs hzg hsl
  have hmm := @run_makeMap Try.prog
  have g1 : decide ((1000 : Int) < (zs : Int)) = false := decide_eq_false (by omega)
  have g2 : decide ((1000 : Int) * (zs : Int) < (zg : Int)) = false := decide_eq_false (by omega)
  go_enter Try.func30, Try.ntmps30
  go_wp2_with fail
  refine HMk.out.mono ?_
  rintro ex w1 ⟨u1, rfl, hG1, hb1⟩
  have HG1 := hide hG1
  obtain ⟨gb1, _, _, _, _, _, _, rfl, _⟩ := hG1
  go_wp2_with fail
  refine (HMk2.out w1 hb1).mono ?_
  rintro ex w2 ⟨u2, rfl, hG2, hb2⟩
  have HG2 := hide hG2
  obtain ⟨gb2, _, _, _, _, _, _, rfl, _⟩ := hG2
  have hB2 := hb1.trans (hb2.mono hb1.size)
  have HGw := hide (HG1.out.below hb2 (Nat.le_refl _))
  clear hb1 hb2 HMk HMk2 HG1
  go_wp2
  go_loopw [37] (fun si wr => ∃ k : Nat, k ≤ sl ∧ si = .int .i64 k ∧ Below w2.heap.size w2 wr) (fun si _ => sl - (intOf si).toNat)
  case atStart => exact ⟨0, Nat.zero_le _, rfl, Below.refl _ _⟩
  case round =>
    obtain ⟨k, hk, rfl, hbk⟩ := hrel
    have hBk := hB2.trans (hbk.mono hB2.size)
    by_cases hkl : k < sl
    · obtain ⟨x, hx⟩ : ∃ x, sss[k]? = some x := ⟨_, List.getElem?_eq_getElem (by rw [HSL.out]; exact hkl)⟩
      obtain ⟨gg, og, hpg, hNg, hcg1, hcg2, hgg, hcellg⟩ := HS.out.rowI (by rw [HSL.out]; omega)
      obtain ⟨ux, hcux, hiux⟩ := hcellg _ x hx
      rw [HSL.out] at hcg1
      subst hpg
      have hcux' := (hBk.cell (p := ⟨gg, og + k, none⟩) hgg).trans hcux
      have hxm := List.mem_of_getElem? hx
      obtain ⟨hxr, hxl⟩ := HRS.out x hxm
      have hrz : rchk n x = 0 := by unfold rchk; rw [chk_ok (by omega) (by omega) hxr, if_pos rfl, if_pos hxl]
      have HHs := hide (ghas_ok n _ ux (gss.map pad) x wr (HGw.out.below hbk (Nat.le_refl _)) (hiux.below hBk) hrz)
      have HXM := hide (HM.out x hxm)
      obtain ⟨px, cx, epx⟩ := hiux.form
      rw [hxl] at epx
      subst epx
      clear hNg hcellg hcux hiux hx hxm hxr hxl hrz
      go_wp2_with fail
      refine HHs.out.mono ?_
      rintro ex w3 ⟨t, ht, rfl, hb3⟩
      have et : t = true := ht.2 HXM.out
      subst et
      have hb3' := hbk.trans (hb3.mono hbk.size)
      clear ht hb3 HHs HXM
      go_wp2
      go_roundw
      case rel =>
        have hfin : ∃ k' : Nat, k' ≤ sl ∧ Value.int .i64 ((k : Int) + 1) = .int .i64 (k' : Int) ∧ Below w2.heap.size w2 w3 := ⟨k + 1, hkl, by go_num, hb3'⟩
        first
          | exact hfin
          | ((repeat apply Exists.intro); exact ⟨hfin, rfl⟩)
      case measure => simp [intOf]; omega
    · obtain rfl : sl = k := by omega
      have HGc := hide (HG2.out.below hbk (Nat.le_refl _))
      have HGg := hide (HGw.out.below hbk (Nat.le_refl _))
      have HSz1 := hide (gsize_ok n _ (sss.map pad) wr h12 HGc.out)
      rw [HZS.out] at HSz1
      clear hbk HG2 HGw hB2
      go_wp2_with fail
      refine HSz1.out.mono ?_
      rintro ex w3 ⟨rfl, hb3⟩
      have hB3 := hBk.trans (hb3.mono hBk.size)
      have HGc3 := hide (HGc.out.below hb3 (Nat.le_refl _))
      have HGg3 := hide (HGg.out.below hb3 (Nat.le_refl _))
      have HSz2 := hide (gsize_ok n _ (gss.map pad) w3 h12 HGg3.out)
      rw [HZG.out] at HSz2
      clear hb3 hBk HGc HGg HSz1
      go_wp2_with fail
      refine HSz2.out.mono ?_
      rintro ex w4 ⟨rfl, hb4⟩
      have hB4 := hB3.trans (hb4.mono hB3.size)
      have HGc4 := hide (HGc3.out.below hb4 (Nat.le_refl _))
      have HSz3 := hide (gsize_ok n _ (sss.map pad) w4 h12 HGc4.out)
      rw [HZS.out] at HSz3
      clear hb4 hB3 HGc3 HGg3 HSz2
      go_wp2_with fail
      refine HSz3.out.mono ?_
      rintro ex w5 ⟨rfl, hb5⟩
      have hB5 := hB4.trans (hb5.mono hB4.size)
      have HGc5 := hide (HGc4.out.below hb5 (Nat.le_refl _))
      have HEl := hide (elements_ok n _ (sss.map pad) w5 h12 HGc5.out)
      clear hb5 hB4 HGc4 HSz3
      go_wp2_with fail
      refine HEl.out.mono ?_
      rintro ex w6 hE
      unfold ElPost at hE
      rw [HZS.out, if_neg (by omega)] at hE
      obtain ⟨hb6, ve, vse, Y, rfl, hYl, hYn, hYm, _, hLL⟩ := hE
      have hB6 := hB5.trans (hb6.mono hB5.size)
      have hY1 : 1 ≤ Y.length := List.length_pos_of_mem ((hYm 1).2 Gen.one)
      have HBr := hide (bringing_ok n ve Y w6 hLL.ints hY1 (by omega) h1 h12 (fun x hx => HSF.out x ((hYm x).1 hx)))
      have HYM := hide hYm
      obtain ⟨pe, qe, epe⟩ := hLL.ints.len
      rw [List.length_map, hYl] at epe
      subst epe
      clear hb6 hB5 hYl hYn hYm hLL HEl HGc5
      go_wp2_with fail
      refine HBr.out.mono ?_
      rintro ex w7 ⟨m0, fs, rfl, hBT⟩
      have hB7 := hB6.trans (hBT.below.mono hB6.size)
      have HBA := hide (hBT.done HYM.out h1)
      have HLt : Hid (∀ W, Below w7.heap.size w7 W → Calls Try.prog 74 #[vg] W fun e w' => ∃ u, e = .returned u ∧ LetAt w7 W.heap.size w' u n gss ∧ Below W.heap.size W w') := fun W hW => lettersOf_ok n vg gss w7 W (HA.out.below hB7) hW HR.out h1 h12 (by omega)
      have HB7 := hide hB7
      clear hBT HBr hB6 hB7
      go_wp2_with fail
      obtain ⟨W, hW⟩ : ∃ W, W = (w7.alloc (.map #[] 0)).alloc (.cells (tabC n w7.heap.size (.slice (some ⟨w6.heap.size, 0, none⟩) n n) (.slice none 0 0) (.slice none 0 0)) 110) := ⟨_, rfl⟩
      have hbW : Below w7.heap.size w7 W := by rw [hW]; exact ((Below.refl _ _).alloc (Nat.le_refl _) _).alloc (by simp) _
      have hsW : W.heap.size = w7.heap.size + 2 := by rw [hW]; simp
      have hkW : W.heap[w7.heap.size + 1]? = some (.cells (tabC n w7.heap.size (.slice (some ⟨w6.heap.size, 0, none⟩) n n) (.slice none 0 0) (.slice none 0 0)) 110) := by
        rw [hW]
        have h9 := heap_alloc_last (w7.alloc (.map #[] 0)) (.cells (tabC n w7.heap.size (.slice (some ⟨w6.heap.size, 0, none⟩) n n) (.slice none 0 0) (.slice none 0 0)) 110)
        simpa using h9
      have hmW : IMap W w7.heap.size 0 (fun _ => none) := by rw [hW]; exact (IMap.made w7).alloc _
      refine (HLt.out _ (by rw [hW] at hbW; exact hbW)).mono ?_
      rintro ex w9 ⟨vl, rfl, hLet, hb9⟩
      rw [← hW] at hLet
      have hb9 : Below W.heap.size W w9 := by rw [hW]; exact hb9
      have hFI : FillIn w7 w9 W.heap.size (w7.heap.size + 1) w7.heap.size n m0 w6.heap.size Y.length (.slice (some ⟨w6.heap.size, 0, none⟩) n n) vl (Gen (fun y => y ∈ sss.map pad)) fs gss X :=
        ⟨Gen.sub _, HSF.out, HBA.out, hbW.trans (hb9.mono hbW.size), by omega, Nat.le_refl _, by omega, by omega, by omega, hb9.size, hLet, HR.out, h1, h12, by omega, HXA.out, HXL.out⟩
      have HFl := hide (fill_ok w7 w9 W.heap.size (w7.heap.size + 1) w7.heap.size n m0 w6.heap.size Y.length (.slice (some ⟨w6.heap.size, 0, none⟩) n n) vl (Gen (fun y => y ∈ sss.map pad)) fs gss X hFI ((hb9.block _ (by omega)).trans hkW) (hmW.below hb9 hmW.lt))
      have HFI := hide hFI
      obtain ⟨pl, ql, epl⟩ := hLet.form
      subst epl
      clear hLet hb9 hFI hbW hsW hkW hmW HLt HBA
      go_wp2_with fail
      refine HFl.out.mono ?_
      rintro ex w10 hFP
      obtain ⟨rfl, TT, N, hTab, hRun, hb10⟩ := HFI.out.tab hFP
      have HTab := hide hTab
      have HRun := hide hRun
      have HB10 := hide (HB7.out.trans (hb10.mono HB7.out.size))
      clear hFP hTab hRun hb10 HFl HFI hW
      go_wp2
      go_ret2
      exact ⟨_, TT, N, rfl, HTab.out, HRun.out, HB10.out⟩

end Go.Proofs.Ytimfoggjocajiaa

/- Contracts: coset's copied, All, Of. -/
namespace Go.Proofs.Ytimfoggjocajiaa
open Go.RowKit

theorem run_tab_ne (a : Addr) (w : World) : (binOp BinOp.eql 45 (.pointer (some a)) (.pointer none)).run Try.prog w = .ok (.bool false) w := by kernel_rfl
theorem run_tab_nil (w : World) : (binOp BinOp.eql 45 (.pointer none) (.pointer none)).run Try.prog w = .ok (.bool true) w := by kernel_rfl

set_option maxRecDepth 20000 in
set_option maxHeartbeats 4000000 in
theorem copied_ok (v : Value) (vs : List Value) (A : List (List Int)) (B : Nat) (w : World) (h : LL w B v vs A) (h1 : 1 ≤ A.length) (hN : A.length ≤ 1000000) (hr : ∀ r, r ∈ A → r.length ≤ 1000000) :
    Calls Try.prog 76 #[v] w fun e w' => ∃ u us, e = .returned u ∧ LL w' w.heap.size u us A ∧ Below w.heap.size w w' := by
  obtain ⟨i0, hi, hz0, hz1, hz2⟩ := info_parts Try.info23
  have hrow := h.row
  rw [h.len] at hrow
  obtain ⟨g, q, rfl, hg1, hg2, hq1, hq2⟩ := owns_form hrow h1
  have HRow := hide hrow
  have HAll := hide h.all
  have HR := hide hr
  generalize hal : A.length = al at *
  have HAL := hide hal
  clear h hr hrow hal
  go_enter Try.func76, Try.ntmps76
  go_wp2_with (at_make; refine wpList_make_full _ rfl _ _ 22 rfl w.heap.size 23 i0 (.slice none 0 0) 1 Try.underlying22 hi hz0 hz1 _ _ _ _ al rfl rfl (by omega) (by omega) ?b2 ?b3 ?b4 ?_)
  case b2 => rw [hz2]; omega
  case b3 => unfold maxLen; omega
  case b4 => exact Nat.le_refl _
  intro w1 hown1 hgrow1
  rw [made_rows] at hown1
  have hB1 : Below w.heap.size w w1 := (Below.refl _ _).grown hgrow1 (Nat.le_refl _) (fun k h => by cases h)
  have HC0 : Hid (CpR w w1 al A 0 []) := ⟨hown1, rfl, trivial, hB1⟩
  clear hown1 hgrow1 hB1
  go_wp2
  go_loopw [11] (fun si wr => ∃ (i : Nat) (us : List Value), i ≤ al ∧ si = .int .i64 i ∧ CpR w wr al A i us) (fun si _ => al - (intOf si).toNat)
  case atStart => exact ⟨0, [], Nat.zero_le _, rfl, HC0.out⟩
  case round =>
    clear HC0
    obtain ⟨i, us, hil, rfl, hC⟩ := hrel
    by_cases hlt : i < al
    · obtain ⟨X, hX⟩ : ∃ X, A[i]? = some X := ⟨_, List.getElem?_eq_getElem (by rw [HAL.out]; exact hlt)⟩
      obtain ⟨ux, hcux, houx⟩ := word_at HRow.out HAll.out hX HAL.out
      have hcux' := (hC.below.cell (p := ⟨g, i, none⟩) hg2).trans hcux
      have hox := owns_below houx hC.below (Nat.le_refl _)
      obtain ⟨px, cx, epx⟩ := owns_slice houx
      have HCl := hide (clone_own hox (HR.out X (List.mem_of_getElem? hX)))
      subst epx
      have HC := hide hC
      have HX := hide hX
      obtain ⟨⟨y, hcy⟩, hfy⟩ := row_cellE hC.row hlt
      have hsz : w.heap.size < wr.heap.size := (hC.row.lt w.heap.size rfl).2
      generalize hxl : X.length = xl at *
      have HXL := hide hxl
      clear hcux houx hox hC hX hxl
      go_wp2_with fail
      refine HCl.out.mono ?_
      rintro ex w2 ⟨u2, rfl, hown2, hb2⟩
      have HC2 := hide (HC.out.step hlt HX.out hb2 (by rw [HXL.out]; exact hown2))
      have hcy2 := (hb2.cell (p := ⟨w.heap.size, i, none⟩) hsz).trans hcy
      have hfy2 : w2.frozen? ⟨w.heap.size, i, none⟩ = false := (row_cellE (owns_below HC.out.row hb2 (Nat.le_refl _)) hlt).2
      obtain ⟨p2, c2, e2⟩ := owns_slice hown2
      subst e2
      clear hown2 hb2 HCl HC hcy hfy
      go_wp2
      go_roundw
      case rel =>
        have hfin : ∃ (i' : Nat) (us : List Value), i' ≤ al ∧ Value.int .i64 ((i : Int) + 1) = .int .i64 (i' : Int) ∧ CpR w (w2.setCell ⟨w.heap.size, i, none⟩ (.slice p2 xl c2)) al A i' us := ⟨i + 1, _, hlt, by go_num, HC2.out⟩
        first
          | exact hfin
          | ((repeat apply Exists.intro); exact ⟨hfin, rfl⟩)
      case measure => simp [intOf]; omega
    · obtain rfl : al = i := by omega
      have HD := hide (hC.done HAL.out)
      have HB := hide hC.below
      clear hC
      go_wp2
      go_ret
      exact ⟨_, _, rfl, HD.out, HB.out⟩

/-- What All leaves. -/
def CAll (TT : List (Pm × List Int)) (N : List (List Nat)) (w : World) (e : Ending) (w' : World) : Prop :=
  ∃ (u1 u2 : Value), e = .returned (.tuple #[u1, u2]) ∧ IntsAll w' u1 (N.map natI) ∧ IntsAll w' u2 (TT.map (·.2)) ∧ Below w.heap.size w w'

set_option maxRecDepth 20000 in
set_option maxHeartbeats 4000000 in
theorem call_all (v : Value) (n : Nat) (H : Pm → Prop) (TT : List (Pm × List Int)) (N : List (List Nat)) (w : World) (h : TabAt w v n H TT N) (h1 : 1 ≤ TT.length) (hN : N.length = TT.length) (hT : TT.length ≤ 1000000) (hr : ∀ r, r ∈ N → r.length ≤ 1000000) (hr2 : ∀ e, e ∈ TT → e.2.length ≤ 1000000) :
    Calls Try.prog 33 #[v] w fun e w' => CAll TT N w e w' := by
  obtain ⟨T, M, m0, b, k0, cnt, B, vb, vn, vw, sn, sw, fs, F, rfl, hblk, _, _, _, hL3, hL4⟩ := h.mem
  have hTw : T < w.heap.size := (Array.getElem?_eq_some_iff.1 hblk).1
  have HK : Hid (∀ W, Below w.heap.size w W → W.cell? ⟨T, 3, none⟩ = some vn ∧ W.cell? ⟨T, 4, none⟩ = some vw) := fun W hW => by
    have h9 := cells5 ((hW.block T hTw).trans hblk)
    exact ⟨h9.2.2.2.1, h9.2.2.2.2.1⟩
  have HC3 : Hid (∀ W, Below w.heap.size w W → Calls Try.prog 76 #[vn] W fun e w' => ∃ u us, e = .returned u ∧ LL w' W.heap.size u us (N.map natI) ∧ Below W.heap.size W w') := fun W hW => copied_ok vn sn _ B W (hL3.below hW) (by rw [List.length_map]; omega) (by rw [List.length_map]; omega) (fun r hr' => by obtain ⟨y, hy, rfl⟩ := List.mem_map.1 hr'; rw [natI_length]; exact hr y hy)
  have HC4 : Hid (∀ W, Below w.heap.size w W → Calls Try.prog 76 #[vw] W fun e w' => ∃ u us, e = .returned u ∧ LL w' W.heap.size u us (TT.map (·.2)) ∧ Below W.heap.size W w') := fun W hW => copied_ok vw sw _ B W (hL4.below hW) (by rw [List.length_map]; exact h1) (by rw [List.length_map]; exact hT) (fun r hr' => by obtain ⟨y, hy, rfl⟩ := List.mem_map.1 hr'; exact hr2 y hy)
  have hd0 : Below w.heap.size w w.drew := (Below.refl _ _).drew
  have hS0 := HK.out w (Below.refl _ _)
  clear hblk hL3 hL4 h h1 hN hT hr hr2
  go_enter Try.func33, Try.ntmps33
  go_upto_region 1 with fail
  refine wp_region_held_drew (S := fun W' => W'.cell? ⟨T, 3, none⟩ = some vn ∧ W'.cell? ⟨T, 4, none⟩ = some vw) (by kernel_rfl) hS0 (fun hS => ?_)
  refine wpAnyH_take (i := 0) (v := .pointer (some ⟨T, 0, none⟩)) rfl (by kernel_rfl) (by kernel_rfl) (by kernel_rfl) (fun _ _ _ h => h) (Or.inl ⟨by kernel_rfl, fun w' hS' => by clear hS'; go_simp⟩) hS ?_
  refine wpAnyH_take (i := 1) (v := .pointer (some ⟨T, 0, none⟩)) rfl (by kernel_rfl) (by kernel_rfl) (by kernel_rfl) (fun _ _ _ h => h) (Or.inl ⟨by kernel_rfl, fun w' hS' => by clear hS'; go_simp⟩) hS ?_
  refine wpAnyH_take (i := 2) (v := .pointer (some ⟨T, 3, none⟩)) rfl (by kernel_rfl) (by kernel_rfl) (by kernel_rfl) (fun _ _ _ h => h) (Or.inl ⟨by kernel_rfl, fun w' hS' => by clear hS'; go_simp⟩) hS ?_
  refine wpAnyH_take (i := 3) (v := vn) rfl (by kernel_rfl) (by kernel_rfl) (by kernel_rfl) (fun _ _ _ h => h) (Or.inl ⟨by kernel_rfl, fun w' hS' => by obtain ⟨hS1', hS2'⟩ := hS'; go_simp⟩) hS ?_
  refine wpAnyH_take (i := 5) (v := .pointer (some ⟨T, 0, none⟩)) rfl (by kernel_rfl) (by kernel_rfl) (by kernel_rfl) (fun _ _ _ h => h) (Or.inl ⟨by kernel_rfl, fun w' hS' => by clear hS'; go_simp⟩) hS ?_
  refine wpAnyH_take (i := 6) (v := .pointer (some ⟨T, 0, none⟩)) rfl (by kernel_rfl) (by kernel_rfl) (by kernel_rfl) (fun _ _ _ h => h) (Or.inl ⟨by kernel_rfl, fun w' hS' => by clear hS'; go_simp⟩) hS ?_
  refine wpAnyH_take (i := 7) (v := .pointer (some ⟨T, 4, none⟩)) rfl (by kernel_rfl) (by kernel_rfl) (by kernel_rfl) (fun _ _ _ h => h) (Or.inl ⟨by kernel_rfl, fun w' hS' => by clear hS'; go_simp⟩) hS ?_
  refine wpAnyH_take (i := 8) (v := vw) rfl (by kernel_rfl) (by kernel_rfl) (by kernel_rfl) (fun _ _ _ h => h) (Or.inl ⟨by kernel_rfl, fun w' hS' => by obtain ⟨hS1', hS2'⟩ := hS'; go_simp⟩) hS ?_
  refine wpAnyH_ready (rs := [4]) (by kernel_rfl) (by simp) ?_
  refine AllReadyH.cons rfl (fun K hK => ?_) AllReadyH.nil
  go_simp
  refine (HC3.out w.drew hd0).mono ?_
  rintro ex w5 ⟨u5, us5, rfl, hL5, hb5⟩
  have hb5' : Below w.heap.size w w5 := hd0.trans hb5
  refine hK.out _ _ (HK.out w5 hb5') (fun hS => ?_)
  clear hK
  refine wpAnyH_ready (rs := [9]) (by kernel_rfl) (by simp) ?_
  refine AllReadyH.cons rfl (fun K hK => ?_) AllReadyH.nil
  go_simp
  refine (HC4.out w5 hb5').mono ?_
  rintro ex w6 ⟨u6, us6, rfl, hL6, hb6⟩
  have HI5 := hide (hL5.ints.below hb6)
  have HI6 := hide hL6.ints
  have HB6 := hide (hb5'.trans (hb6.mono hb5'.size))
  refine hK.out _ _ (HK.out w6 HB6.out) (fun hS => ?_)
  clear hK
  refine wpAnyH_take (i := 10) (v := u5) rfl (by kernel_rfl) (by kernel_rfl) (by kernel_rfl) (fun _ _ _ h => h) (Or.inl ⟨by kernel_rfl, fun w' hS' => by clear hS'; go_simp⟩) hS ?_
  refine wpAnyH_take (i := 11) (v := u6) rfl (by kernel_rfl) (by kernel_rfl) (by kernel_rfl) (fun _ _ _ h => h) (Or.inl ⟨by kernel_rfl, fun w' hS' => by clear hS'; go_simp⟩) hS ?_
  refine wpAnyH_done (by kernel_rfl) ?_ _
  clear hS hL5 hL6 hb5 hb5' hb6
  go_wp2
  go_ret2
  exact ⟨_, _, rfl, HI5.out, HI6.out, HB6.out⟩

/-- Of, where a row is refused. -/
theorem of_no (v vr : Value) (n : Nat) (H : Pm → Prop) (TT : List (Pm × List Int)) (N : List (List Nat)) (xs : List Int) (w : World) (h : TabAt w v n H TT N) (hI : Ints w vr xs) (hz : rchk n xs ≠ 0) :
    Calls Try.prog 37 #[v, vr] w fun e w' => e = .returned (.tuple #[.int .i64 0, .int .i64 (rchk n xs)]) ∧ Below w.heap.size w w' := by
  obtain ⟨T, M, m0, b, k0, cnt, B, vb, vn, vw, sn, sw, fs, F, rfl, hblk, _⟩ := h.mem
  have hTw : T < w.heap.size := (Array.getElem?_eq_some_iff.1 hblk).1
  have HK := hide (check_any vr xs w hI)
  have hc0 := (cells5 hblk).1
  obtain ⟨p, c, rfl⟩ := hI.form
  by_cases hc : chk xs = 0
  · have hl : xs.length ≠ n := fun e => hz (by unfold rchk; rw [if_pos hc, if_pos e])
    have e1 : rchk n xs = 1 := by unfold rchk; rw [if_pos hc, if_neg hl]
    rw [e1]
    rw [hc] at HK
    have hne : ((xs.length : Int) != (n : Int)) = true := by rw [bne_iff_ne]; omega
    generalize xs.length = xl at *
    clear hblk hz hc hl e1 hI h
    go_enter Try.func37, Try.ntmps37
    go_wp2_with fail
    refine HK.out.mono ?_
    rintro ex w1 ⟨rfl, hb1⟩
    have hc1 := (hb1.cell (p := ⟨T, 0, none⟩) hTw).trans hc0
    go_wp2
    go_ret2
    exact ⟨rfl, hb1⟩
  · have e1 : rchk n xs = chk xs := by unfold rchk; rw [if_neg hc]
    rw [e1]
    have hne : (chk xs != 0) = true := by rw [bne_iff_ne]; exact hc
    generalize chk xs = c1 at *
    generalize xs.length = xl at *
    clear hblk hz hc e1 hI h
    go_enter Try.func37, Try.ntmps37
    go_wp2_with fail
    refine HK.out.mono ?_
    rintro ex w1 ⟨rfl, hb1⟩
    go_wp2
    go_ret2
    exact ⟨rfl, hb1⟩

/-- Of: which part, and the error. -/
noncomputable def ofP (H : Pm → Prop) (TT : List (Pm × List Int)) (x : Pm) : Nat × Int := if cix H TT x < TT.length then (cix H TT x, 0) else (0, 14)

set_option maxRecDepth 20000 in
set_option maxHeartbeats 4000000 in
theorem of_in (v vr : Value) (n : Nat) (H : Pm → Prop) (TT : List (Pm × List Int)) (N : List (List Nat)) (x : Pm) (w : World) (h : TabAt w v n H TT N) (hx : Fixes (fun b => n ≤ b) x) (hI : Ints w vr (cut n x)) (hcx : cix H TT x < TT.length) :
    Calls Try.prog 37 #[v, vr] w fun e w' => e = .returned (.tuple #[.int .i64 ((cix H TT x : Nat) : Int), .int .i64 0]) ∧ Below w.heap.size w w' := by
  have h1 := h.one
  have h12 := h.twelve
  obtain ⟨T, M, m0, b, k0, cnt, B, vb, vn, vw, sn, sw, fs, F, rfl, hblk, hBr, hMp, hMk, _⟩ := h.mem
  have hTw : T < w.heap.size := (Array.getElem?_eq_some_iff.1 hblk).1
  have HK := hide (check_any vr (cut n x) w hI)
  rw [chk_ok (by rw [cut_length h12]; exact h1) (by rw [cut_length h12]; exact h12) (cut_row h12 hx)] at HK
  have HKP : Hid (∀ W, Below w.heap.size w W → W.cell? ⟨T, 2, none⟩ = some (.map (some M))) := fun W hW => (cells5 ((hW.block T hTw).trans hblk)).2.2.1
  have hc0 := (cells5 hblk).1
  have HMrk : Hid (∀ W, Below w.heap.size w W → Calls Try.prog 78 #[.pointer (some ⟨T, 0, none⟩), vr] W fun e w' => e = .returned (.int .i64 ((mkN H n x : Nat) : Int)) ∧ Below W.heap.size W w') := fun W hW => mark_ok n m0 b k0 T vb vr H fs x W h1 h12 h.sub h.hfix (hBr.later hW) (Nat.lt_of_lt_of_le hTw hW.size) ((hW.cell (p := ⟨T, 1, none⟩) hTw).trans (cells5 hblk).2.1) hx (hI.below hW)
  have HMp : Hid (∀ W, Below w.heap.size w W → IMap W M cnt F) := fun W hW => hMp.below hW hMp.lt
  have hFv := hMk x hx
  rw [partV_some hcx] at hFv
  generalize cix H TT x = kk at *
  have hmk := mkN_le (H := H) (n := n) x h12
  obtain ⟨p, c, ep⟩ := hI.form
  rw [cut_length h12] at ep
  subst ep
  generalize mkN H n x = mk at *
  clear hblk hBr hMp hMk hI h hx
  go_enter Try.func37, Try.ntmps37
  go_wp2_with fail
  refine HK.out.mono ?_
  rintro ex w1 ⟨rfl, hb1⟩
  have hc1 := (hb1.cell (p := ⟨T, 0, none⟩) hTw).trans hc0
  have hd1 : Below w.heap.size w w1.drew := hb1.trans ((Below.refl _ _).drew.mono hb1.size)
  have hc2 := HKP.out w1 hb1
  go_upto_region 6 with fail
  refine wp_region_held_drew (S := fun W' => W'.cell? ⟨T, 2, none⟩ = some (.map (some M))) (by kernel_rfl) hc2 (fun hS => ?_)
  refine wpAnyH_take (i := 0) (v := .pointer (some ⟨T, 0, none⟩)) rfl (by kernel_rfl) (by kernel_rfl) (by kernel_rfl) (fun _ _ _ h => h) (Or.inl ⟨by kernel_rfl, fun w' hS' => by clear hS'; go_simp⟩) hS ?_
  refine wpAnyH_take (i := 1) (v := .pointer (some ⟨T, 0, none⟩)) rfl (by kernel_rfl) (by kernel_rfl) (by kernel_rfl) (fun _ _ _ h => h) (Or.inl ⟨by kernel_rfl, fun w' hS' => by clear hS'; go_simp⟩) hS ?_
  refine wpAnyH_take (i := 2) (v := .pointer (some ⟨T, 2, none⟩)) rfl (by kernel_rfl) (by kernel_rfl) (by kernel_rfl) (fun _ _ _ h => h) (Or.inl ⟨by kernel_rfl, fun w' hS' => by clear hS'; go_simp⟩) hS ?_
  refine wpAnyH_take (i := 3) (v := .map (some M)) rfl (by kernel_rfl) (by kernel_rfl) (by kernel_rfl) (fun _ _ _ h => h) (Or.inl ⟨by kernel_rfl, fun w' hS' => by go_simp⟩) hS ?_
  refine wpAnyH_take (i := 4) (v := .pointer (some ⟨T, 0, none⟩)) rfl (by kernel_rfl) (by kernel_rfl) (by kernel_rfl) (fun _ _ _ h => h) (Or.inl ⟨by kernel_rfl, fun w' hS' => by clear hS'; go_simp⟩) hS ?_
  refine wpAnyH_take (i := 5) (v := .slice p n c) rfl (by kernel_rfl) (by kernel_rfl) (by kernel_rfl) (fun _ _ _ h => h) (Or.inl ⟨by kernel_rfl, fun w' hS' => by clear hS'; go_simp⟩) hS ?_
  refine wpAnyH_ready (rs := [6]) (by kernel_rfl) (by simp) ?_
  refine AllReadyH.cons rfl (fun K hK => ?_) AllReadyH.nil
  go_simp
  refine (HMrk.out w1.drew hd1).mono ?_
  rintro ex w2 ⟨rfl, hb2⟩
  have hb2' := hd1.trans (hb2.mono hd1.size)
  refine hK.out _ _ (HKP.out w2 hb2') (fun hS => ?_)
  clear hK hb2
  refine wpAnyH_ready (rs := [7]) (by kernel_rfl) (by simp) ?_
  refine AllReadyH.cons rfl (fun K hK => ?_) AllReadyH.nil
  have hlk := (HMp.out w2 hb2').look_ok Try.underlying108 (Try.zero3 w2) (a := ((mk : Nat) : Int)) (by omega) (by omega)
  rw [hFv] at hlk
  go_simp
  refine hK.out _ _ (HKP.out w2 hb2') (fun hS => ?_)
  clear hK hlk
  refine wpAnyH_take (i := 8) (v := .tuple #[.int .i64 (kk : Int), .bool true]) rfl (by kernel_rfl) (by kernel_rfl) (by kernel_rfl) (fun _ _ _ h => h) (Or.inl ⟨by kernel_rfl, fun w' hS' => by clear hS'; go_simp⟩) hS ?_
  refine wpAnyH_take (i := 9) (v := .int .i64 (kk : Int)) rfl (by kernel_rfl) (by kernel_rfl) (by kernel_rfl) (fun _ _ _ h => h) (Or.inl ⟨by kernel_rfl, fun w' hS' => by clear hS'; go_simp⟩) hS ?_
  refine wpAnyH_take (i := 10) (v := .bool true) rfl (by kernel_rfl) (by kernel_rfl) (by kernel_rfl) (fun _ _ _ h => h) (Or.inl ⟨by kernel_rfl, fun w' hS' => by clear hS'; go_simp⟩) hS ?_
  refine wpAnyH_take (i := 11) (v := .int .i64 (kk : Int)) rfl (by kernel_rfl) (by kernel_rfl) (by kernel_rfl) (fun _ _ _ h => h) (Or.inl ⟨by kernel_rfl, fun w' hS' => by clear hS'; go_simp⟩) hS ?_
  refine wpAnyH_take (i := 12) (v := .bool true) rfl (by kernel_rfl) (by kernel_rfl) (by kernel_rfl) (fun _ _ _ h => h) (Or.inl ⟨by kernel_rfl, fun w' hS' => by clear hS'; go_simp⟩) hS ?_
  refine wpAnyH_done (by kernel_rfl) ?_ _
  clear hS
  go_wp2
  go_ret2
  exact ⟨rfl, hb2'⟩

set_option maxRecDepth 20000 in
set_option maxHeartbeats 4000000 in
theorem of_out (v vr : Value) (n : Nat) (H : Pm → Prop) (TT : List (Pm × List Int)) (N : List (List Nat)) (x : Pm) (w : World) (h : TabAt w v n H TT N) (hx : Fixes (fun b => n ≤ b) x) (hI : Ints w vr (cut n x)) (hcx : ¬ cix H TT x < TT.length) :
    Calls Try.prog 37 #[v, vr] w fun e w' => e = .returned (.tuple #[.int .i64 0, .int .i64 14]) ∧ Below w.heap.size w w' := by
  have h1 := h.one
  have h12 := h.twelve
  obtain ⟨T, M, m0, b, k0, cnt, B, vb, vn, vw, sn, sw, fs, F, rfl, hblk, hBr, hMp, hMk, _⟩ := h.mem
  have hTw : T < w.heap.size := (Array.getElem?_eq_some_iff.1 hblk).1
  have HK := hide (check_any vr (cut n x) w hI)
  rw [chk_ok (by rw [cut_length h12]; exact h1) (by rw [cut_length h12]; exact h12) (cut_row h12 hx)] at HK
  have HKP : Hid (∀ W, Below w.heap.size w W → W.cell? ⟨T, 2, none⟩ = some (.map (some M))) := fun W hW => (cells5 ((hW.block T hTw).trans hblk)).2.2.1
  have hc0 := (cells5 hblk).1
  have HMrk : Hid (∀ W, Below w.heap.size w W → Calls Try.prog 78 #[.pointer (some ⟨T, 0, none⟩), vr] W fun e w' => e = .returned (.int .i64 ((mkN H n x : Nat) : Int)) ∧ Below W.heap.size W w') := fun W hW => mark_ok n m0 b k0 T vb vr H fs x W h1 h12 h.sub h.hfix (hBr.later hW) (Nat.lt_of_lt_of_le hTw hW.size) ((hW.cell (p := ⟨T, 1, none⟩) hTw).trans (cells5 hblk).2.1) hx (hI.below hW)
  have HMp : Hid (∀ W, Below w.heap.size w W → IMap W M cnt F) := fun W hW => hMp.below hW hMp.lt
  have hFv := hMk x hx
  rw [partV_none hcx] at hFv
  have hmk := mkN_le (H := H) (n := n) x h12
  obtain ⟨p, c, ep⟩ := hI.form
  rw [cut_length h12] at ep
  subst ep
  generalize mkN H n x = mk at *
  clear hblk hBr hMp hMk hI h hx
  go_enter Try.func37, Try.ntmps37
  go_wp2_with fail
  refine HK.out.mono ?_
  rintro ex w1 ⟨rfl, hb1⟩
  have hc1 := (hb1.cell (p := ⟨T, 0, none⟩) hTw).trans hc0
  have hd1 : Below w.heap.size w w1.drew := hb1.trans ((Below.refl _ _).drew.mono hb1.size)
  have hc2 := HKP.out w1 hb1
  go_upto_region 6 with fail
  refine wp_region_held_drew (S := fun W' => W'.cell? ⟨T, 2, none⟩ = some (.map (some M))) (by kernel_rfl) hc2 (fun hS => ?_)
  refine wpAnyH_take (i := 0) (v := .pointer (some ⟨T, 0, none⟩)) rfl (by kernel_rfl) (by kernel_rfl) (by kernel_rfl) (fun _ _ _ h => h) (Or.inl ⟨by kernel_rfl, fun w' hS' => by clear hS'; go_simp⟩) hS ?_
  refine wpAnyH_take (i := 1) (v := .pointer (some ⟨T, 0, none⟩)) rfl (by kernel_rfl) (by kernel_rfl) (by kernel_rfl) (fun _ _ _ h => h) (Or.inl ⟨by kernel_rfl, fun w' hS' => by clear hS'; go_simp⟩) hS ?_
  refine wpAnyH_take (i := 2) (v := .pointer (some ⟨T, 2, none⟩)) rfl (by kernel_rfl) (by kernel_rfl) (by kernel_rfl) (fun _ _ _ h => h) (Or.inl ⟨by kernel_rfl, fun w' hS' => by clear hS'; go_simp⟩) hS ?_
  refine wpAnyH_take (i := 3) (v := .map (some M)) rfl (by kernel_rfl) (by kernel_rfl) (by kernel_rfl) (fun _ _ _ h => h) (Or.inl ⟨by kernel_rfl, fun w' hS' => by go_simp⟩) hS ?_
  refine wpAnyH_take (i := 4) (v := .pointer (some ⟨T, 0, none⟩)) rfl (by kernel_rfl) (by kernel_rfl) (by kernel_rfl) (fun _ _ _ h => h) (Or.inl ⟨by kernel_rfl, fun w' hS' => by clear hS'; go_simp⟩) hS ?_
  refine wpAnyH_take (i := 5) (v := .slice p n c) rfl (by kernel_rfl) (by kernel_rfl) (by kernel_rfl) (fun _ _ _ h => h) (Or.inl ⟨by kernel_rfl, fun w' hS' => by clear hS'; go_simp⟩) hS ?_
  refine wpAnyH_ready (rs := [6]) (by kernel_rfl) (by simp) ?_
  refine AllReadyH.cons rfl (fun K hK => ?_) AllReadyH.nil
  go_simp
  refine (HMrk.out w1.drew hd1).mono ?_
  rintro ex w2 ⟨rfl, hb2⟩
  have hb2' := hd1.trans (hb2.mono hd1.size)
  refine hK.out _ _ (HKP.out w2 hb2') (fun hS => ?_)
  clear hK hb2
  refine wpAnyH_ready (rs := [7]) (by kernel_rfl) (by simp) ?_
  refine AllReadyH.cons rfl (fun K hK => ?_) AllReadyH.nil
  have hlk := (HMp.out w2 hb2').look_ok Try.underlying108 (Try.zero3 w2) (a := ((mk : Nat) : Int)) (by omega) (by omega)
  rw [hFv] at hlk
  go_simp
  refine hK.out _ _ (HKP.out w2 hb2') (fun hS => ?_)
  clear hK hlk
  refine wpAnyH_take (i := 8) (v := .tuple #[.int .i64 0, .bool false]) rfl (by kernel_rfl) (by kernel_rfl) (by kernel_rfl) (fun _ _ _ h => h) (Or.inl ⟨by kernel_rfl, fun w' hS' => by clear hS'; go_simp⟩) hS ?_
  refine wpAnyH_take (i := 9) (v := .int .i64 0) rfl (by kernel_rfl) (by kernel_rfl) (by kernel_rfl) (fun _ _ _ h => h) (Or.inl ⟨by kernel_rfl, fun w' hS' => by clear hS'; go_simp⟩) hS ?_
  refine wpAnyH_take (i := 10) (v := .bool false) rfl (by kernel_rfl) (by kernel_rfl) (by kernel_rfl) (fun _ _ _ h => h) (Or.inl ⟨by kernel_rfl, fun w' hS' => by clear hS'; go_simp⟩) hS ?_
  refine wpAnyH_take (i := 11) (v := .int .i64 0) rfl (by kernel_rfl) (by kernel_rfl) (by kernel_rfl) (fun _ _ _ h => h) (Or.inl ⟨by kernel_rfl, fun w' hS' => by clear hS'; go_simp⟩) hS ?_
  refine wpAnyH_take (i := 12) (v := .bool false) rfl (by kernel_rfl) (by kernel_rfl) (by kernel_rfl) (fun _ _ _ h => h) (Or.inl ⟨by kernel_rfl, fun w' hS' => by clear hS'; go_simp⟩) hS ?_
  refine wpAnyH_done (by kernel_rfl) ?_ _
  clear hS
  go_wp2
  go_ret2
  exact ⟨rfl, hb2'⟩

theorem of_ok (v vr : Value) (n : Nat) (H : Pm → Prop) (TT : List (Pm × List Int)) (N : List (List Nat)) (x : Pm) (w : World) (h : TabAt w v n H TT N) (hx : Fixes (fun b => n ≤ b) x) (hI : Ints w vr (cut n x)) :
    Calls Try.prog 37 #[v, vr] w fun e w' => e = .returned (.tuple #[.int .i64 (((ofP H TT x).1 : Nat) : Int), .int .i64 (ofP H TT x).2]) ∧ Below w.heap.size w w' := by
  unfold ofP
  by_cases hcx : cix H TT x < TT.length
  · rw [if_pos hcx]; exact of_in v vr n H TT N x w h hx hI hcx
  · rw [if_neg hcx]; exact of_out v vr n H TT N x w h hx hI hcx

end Go.Proofs.Ytimfoggjocajiaa

/- Contract: a group's Still where the bell is none. -/
namespace Go.Proofs.Ytimfoggjocajiaa
open Go.RowKit

set_option maxRecDepth 20000 in
set_option maxHeartbeats 2000000 in
theorem still_low (n : Nat) (bell : Int) (v : Value) (gs : List Pm) (w : World) (hb : bell < 0) (hG : GroupAt w v n gs) :
    Calls Try.prog 52 #[v, .int .i64 bell] w fun e w' => e = .returned (.tuple #[.pointer none, .int .i64 12]) ∧ Below w.heap.size w w' := by
  obtain ⟨g1, vg1, B1, c1, bs1, C1, st1, rfl, hg1, a10, a11, a12, hP1, hC1, hb1, rfl⟩ := hG
  clear hP1 hC1 hb1 a12 a11
  have hd0 : decide (bell < 0) = true := decide_eq_true hb
  have hBX : Below w.heap.size w ((w.alloc (.cells #[.pointer (some ⟨g1, 0, none⟩)] 24)).alloc (.cells #[.int .i64 bell] 3)) := ((Below.refl _ _).alloc (Nat.le_refl _) _).alloc (by simp) _
  have HBX := hide hBX
  clear hBX
  go_enter Try.func52, Try.ntmps52
  go_wp2
  go_quiet (fail)
  go_wp2
  go_ret2
  exact ⟨rfl, HBX.out.trans ((below_dN _ nq).mono HBX.out.size)⟩

set_option maxRecDepth 20000 in
set_option maxHeartbeats 2000000 in
theorem still_high (n : Nat) (bell : Int) (v : Value) (gs : List Pm) (w : World) (h12 : n ≤ 12) (hb : (n : Int) ≤ bell) (hG : GroupAt w v n gs) :
    Calls Try.prog 52 #[v, .int .i64 bell] w fun e w' => e = .returned (.tuple #[.pointer none, .int .i64 12]) ∧ Below w.heap.size w w' := by
  obtain ⟨g1, vg1, B1, c1, bs1, C1, st1, rfl, hg1, a10, a11, a12, hP1, hC1, hb1, rfl⟩ := hG
  clear hP1 hC1 hb1 a12 a11
  have hd0 : decide (bell < 0) = false := decide_eq_false (by omega)
  have hd1 : decide ((n : Int) ≤ bell) = true := decide_eq_true hb
  have hBX : Below w.heap.size w ((w.alloc (.cells #[.pointer (some ⟨g1, 0, none⟩)] 24)).alloc (.cells #[.int .i64 bell] 3)) := ((Below.refl _ _).alloc (Nat.le_refl _) _).alloc (by simp) _
  have k2 : ((w.alloc (.cells #[.pointer (some ⟨g1, 0, none⟩)] 24)).alloc (.cells #[.int .i64 bell] 3)).cell? ⟨w.heap.size, 0, none⟩ = some (.pointer (some ⟨g1, 0, none⟩)) := by
    rw [cell_of_row _ w.heap.size 0 _ _ _ ((Below.heap_alloc _ _ _ (by simp)).trans (heap_alloc_new w _))]; rfl
  have k3 : ((w.alloc (.cells #[.pointer (some ⟨g1, 0, none⟩)] 24)).alloc (.cells #[.int .i64 bell] 3)).cell? ⟨w.heap.size + 1, 0, none⟩ = some (.int .i64 bell) := by
    have := heap_alloc_new (w.alloc (.cells #[.pointer (some ⟨g1, 0, none⟩)] 24)) (.cells #[.int .i64 bell] 3)
    rw [show (w.alloc (.cells #[.pointer (some ⟨g1, 0, none⟩)] 24)).heap.size = w.heap.size + 1 from by simp] at this
    rw [cell_of_row _ (w.heap.size + 1) 0 _ _ _ this]; rfl
  go_enter Try.func52, Try.ntmps52
  go_wp2
  change Code.wp _ _ _ _ ((w.alloc (.cells #[.pointer (some ⟨g1, 0, none⟩)] 24)).alloc (.cells #[.int .i64 bell] 3))
  generalize (w.alloc (.cells #[.pointer (some ⟨g1, 0, none⟩)] 24)).alloc (.cells #[.int .i64 bell] 3) = X0 at *
  have k10 : X0.cell? ⟨g1, 0, none⟩ = some (.int .i64 (n : Int)) := (hBX.cell (p := ⟨g1, 0, none⟩) hg1).trans a10
  have HBX := hide hBX
  clear hBX a10
  go_quiet (fail)
  go_wp2
  go_ret2
  exact ⟨rfl, HBX.out.trans ((below_dN _ nq).mono HBX.out.size)⟩

end Go.Proofs.Ytimfoggjocajiaa

/- The walk of groupRows where the group's rows are told. -/
namespace Go.Proofs.Ytimfoggjocajiaa
open Go.RowKit

theorem run_ptr_nil (w : World) : (binOp BinOp.eql 24 (.pointer none) (.pointer none)).run Try.prog w = .ok (.bool true) w := by kernel_rfl

set_option maxRecDepth 20000 in
set_option maxHeartbeats 8000000 in
theorem groupRows_a (v vg vr : Value) (n : Nat) (gss : List (List Int)) (xs : List Int) (bell : Int) (w : World) (h : GLaw w v vg vr n gss xs) (hz : rchk n xs ≠ 0) (hs : sz (Gen (fun y => y ∈ gss.map pad)) n ≤ 5040) :
    Calls Try.prog 25 #[v, .int .i64 n, vg, vr, .int .i64 (rchk n xs), .int .i64 bell, .int .i64 ((sz (Gen (fun y => y ∈ gss.map pad)) n : Nat) : Int)] w fun e w' => Told w e w' := by
  have h12 := h.twelve
  have h1 := h.one
  have h8 := h.eight
  have q1 := run_ptr_ne
  have q2 := run_ptr_nil
  obtain ⟨i0, hi, hz0, hz1, hz2⟩ := info_parts Try.info23
  have hgl : (gss.map pad).length ≤ 1000000 := by rw [List.length_map]; omega
  have HGL := hide hgl
  have HG := hide h.grp
  have HGR := hide h.rows
  have HXr := hide h.row
  have HW := hide (word_ok n v vr (gss.map pad) xs w h12 hgl h.grp h.row)
  have HE : Hid (∀ w', Below w.heap.size w w' → Calls Try.prog 56 #[v] w' fun e w'' => ElPost n (gss.map pad) w' e w'') := fun w' hb => elements_ok n v _ w' h12 (h.grp.below hb (Nat.le_refl _))
  have HCd : Hid (∀ w', Below w.heap.size w w' → Calls Try.prog 31 #[.int .i64 n, vg, .int .i64 5040] w' fun e w'' => ClosedPost n gss 5040 w' e w'') := fun w' hb => closed_ok n 5040 vg gss w' (h.gens.below hb) h.rows h1 h12 (by omega) (by omega) (by omega)
  have HO : Hid (∀ w', Below w.heap.size w w' → Calls Try.prog 53 #[v] w' fun e w'' => ∃ (u : Value) (vs : List Value), e = .returned u ∧ LL w'' w'.heap.size u vs ((orbsTo (gss.map pad) n n).map natI) ∧ Below w'.heap.size w' w'') := fun w' hb => orbits_ok n v _ w' h12 (h.grp.below hb (Nat.le_refl _))
  have HS := hide hs
  have HZ := hide hz
  have hne : (rchk n xs == 0) = false := beq_eq_false_iff_ne.2 hz
  have hbn : (rchk n xs != 0) = true := by rw [bne_iff_ne]; exact hz
  generalize hsz : sz (Gen (fun y => y ∈ gss.map pad)) n = z at *
  have HSZ := hide hsz
  have hsI : ¬ ((5040 : Int) < (z : Int)) := by omega
  clear h hsz hgl hz
  generalize hfz : rchk n xs = fz at *
  have HFZ := hide hfz
  clear hfz
  go_enter Try.func25, Try.ntmps25
  go_wp2_with fail
  refine HW.out.mono ?_
  rintro ex w1 ⟨hb1, hpost⟩
  rw [HFZ.out] at hpost
  obtain rfl : ex = .returned (.tuple #[.slice none 0 0, .int .i64 fz]) := by
    rcases hpost with h | h | h | h
    · exact h.2
    · exact absurd h.1 HZ.out
    · exact absurd h.1 HZ.out
    · exact absurd h.1 HZ.out
  clear hpost HW
  go_wp2_with fail
  refine (HE.out w1 hb1).mono ?_
  rintro ex w2 ⟨hb2, hpost⟩
  rw [HSZ.out, if_neg (by have := HS.out; omega)] at hpost
  obtain ⟨ve, vse, X, rfl, hXl, hXn, hXm, hXs, hLE⟩ := hpost
  have hB2 := hb1.trans (hb2.mono hb1.size)
  have HLE := hide hLE.ints
  clear hLE hb1 hb2
  go_wp2_with fail
  refine (HCd.out w2 hB2).mono ?_
  rintro ex w3 ⟨hb3, hpost⟩
  obtain ⟨vrs, vws, S, rfl, hAr, hAw, hF⟩ : ∃ vr vw S, ex = .returned (.tuple #[vr, vw]) ∧ IntsAll w3 vr (S.map (fun e => cut n e.1)) ∧ IntsAll w3 vw (S.map (·.2)) ∧ Found n gss S := by
    rcases hpost with ⟨vr, vw, S, h1', h2', h3', h4', _⟩ | ⟨_, S, h1', h2'⟩
    · exact ⟨vr, vw, S, h1', h2', h3', Found.of h12 HGR.out h4'⟩
    · have := found_few h12 HGR.out h1'
      rw [HSZ.out] at this
      have := HS.out
      omega
  have hSl : S.length = z := by rw [← HSZ.out]; exact hF.size h12
  have HF := hide hF
  have hB3 := hB2.trans (hb3.mono hB2.size)
  have HXF : Hid (∀ x, x ∈ X → Fixes (fun b => n ≤ b) x) := fun x hx => gens_fix h12 HGR.out ((hXm x).1 hx)
  have HOrd := hide (rordered_all vrs _ w3 hAr (by rw [List.length_map]; have := HS.out; omega) (fun r hr => by have := (hF.rows h12 r hr).1; omega))
  obtain ⟨R, hR⟩ : ∃ R, R = S.map (fun e => cut n e.1) := ⟨_, rfl⟩
  rw [← hR] at hAr HOrd
  have hRl : R.length = z := by rw [hR, List.length_map]; exact hSl
  have HRows : Hid (∀ r, r ∈ R → r.length = n ∧ ∀ j, j < n → ∃ m : Nat, m < n ∧ r.getD j 0 = (m : Int)) := by
    show ∀ r, r ∈ R → _
    rw [hR]; exact hF.rows h12
  have HR := hide hR
  have HRL := hide hRl
  have HSL := hide hSl
  have HAr := hide hAr
  have HAw := hide hAw
  have HLE3 := hide (HLE.out.below hb3)
  have HXM := hide hXm
  have HXS := hide hXs
  have HXN := hide hXn
  clear hpost hAr hAw hF hR hRl hSl hXm hXs hXn hXl hb3 HLE HCd HE
  go_wp2_with fail
  refine HOrd.out.mono ?_
  rintro ex w4 ⟨vo, Y, rfl, hAo, hYp, hYs, hb4⟩
  have hYe : X.map (cut n) = Y := group_ordered h12 HXF.out HXN.out HXS.out HF.out.nodup (fun x => (HXM.out x).trans (HF.out.mem x).symm) (by rw [HR.out]; exact Found.cuts n S) hYp hYs
  have HSa := hide (sameAll_any ve vo (X.map (cut n)) Y w4 (HLE3.out.below hb4) hAo)
  rw [decide_eq_true hYe] at HSa
  have hB4 := hB3.trans (hb4.mono hB3.size)
  have HB34 := hide hb4
  clear hAo hYp hYs hYe hb4 HOrd HLE3
  go_wp2_with fail
  refine HSa.out.mono ?_
  rintro ex w5 ⟨rfl, hb5⟩
  have hB5 := hB4.trans (hb5.mono hB4.size)
  have HB35 := hide (HB34.out.trans (hb5.mono HB34.out.size))
  clear hb5 HSa hB4 HB34
  go_wp2_with fail
  refine (HO.out w5 hB5).mono ?_
  rintro ex w6 ⟨vob, vobs, rfl, hLO, hb6⟩
  have hB6 := hB5.trans (hb6.mono hB5.size)
  have HB36 := hide (HB35.out.trans (hb6.mono HB35.out.size))
  have HRo := hide (rorbits_ok n vrs R w6 (HAr.out.below HB36.out) h1 h12 HRows.out (by rw [HRL.out]; have := HS.out; omega) (by rw [HRL.out, ← HSL.out]; exact HF.out.pos))
  have HLO := hide hLO.ints
  clear hLO hb6 hB5 HB35 HO
  go_wp2_with fail
  refine HRo.out.mono ?_
  rintro ex w7 ⟨vro, vros, rfl, hLR, hb7⟩
  have hB7 := hB6.trans (hb7.mono hB6.size)
  have HB37 := hide (HB36.out.trans (hb7.mono HB36.out.size))
  have HSb := hide (sameAll_any vob vro _ _ w7 (HLO.out.below hb7) hLR.ints)
  have hoe : (orbsTo (gss.map pad) n n).map natI = (rorbsTo R n n).map natI := by rw [HR.out, HF.out.orbits h12]
  rw [decide_eq_true hoe] at HSb
  clear hLR hb7 hB6 HRo HLO hoe HB36
  go_wp2_with fail
  refine HSb.out.mono ?_
  rintro ex w8 ⟨rfl, hb8⟩
  have hB8 := hB7.trans (hb8.mono hB7.size)
  have hB38 := HB37.out.trans (hb8.mono HB37.out.size)
  have hs8 := hB8.size
  have HB8 := hide hB8
  have hAr8 := HAr.out.below hB38
  have hAw8 := HAw.out.below hB38
  have hzp : 1 ≤ z := by rw [← HSL.out]; exact HF.out.pos
  have hz5 : z ≤ 5040 := HS.out
  obtain ⟨pr, Nr, cr, rfl⟩ : ∃ p N c, vrs = .slice p N c := by obtain ⟨p, c, e⟩ := hAr8.len; exact ⟨p, _, c, e⟩
  obtain ⟨gr, offr, rfl, hNr, hcr1, hcr2, hgr, hcell⟩ := hAr8.rowI (by rw [HRL.out]; exact hzp)
  rw [HRL.out] at hNr hcr1
  have hNr' := hNr.symm
  subst hNr'
  obtain ⟨pw, Nw, cw, rfl⟩ : ∃ p N c, vws = .slice p N c := by obtain ⟨p, c, e⟩ := hAw8.len; exact ⟨p, _, c, e⟩
  obtain ⟨gw, offw, rfl, hNw, hcw1, hcw2, hgw, hcellw⟩ := hAw8.rowI (by rw [List.length_map, HSL.out]; exact hzp)
  rw [List.length_map, HSL.out] at hNw hcw1
  have hNw' := hNw.symm
  subst hNw'
  have HCL := hide hcell
  have HCW := hide hcellw
  have HX8 := hide (HXr.out.below hB8)
  have HG8 := hide (HG.out.below hB8 (Nat.le_refl _))
  clear hcell hcellw hAr8 hAw8 hB38 hb8 hB8 hB7 hB2 hB3 HSb HB37 HAr HAw
  go_wp2
  go_loopw [21, 22] (fun sa si wr => sa = .int .i64 (-1) ∧ si = .int .i64 0 ∧ wr = w8) (fun _ _ _ => 0)
  case atStart => exact ⟨rfl, rfl, rfl⟩
  case round =>
    obtain ⟨rfl, rfl, hww⟩ := hrel
    have hww' := hww.symm
    subst hww'
    have hzI : (0 : Int) < (z : Int) := by omega
    have hbw : Below w8.heap.size w8 w8 := Below.refl _ _
    clear hww
    rcases (show bell < 0 ∨ (n : Int) ≤ bell ∨ (0 ≤ bell ∧ bell < (n : Int)) by omega) with hbl | hbl | hbl
    · have HSt := hide (still_low n bell v (gss.map pad) w8 hbl (HG8.out.below hbw (Nat.le_refl _)))
      go_wp2_with fail
      refine HSt.out.mono ?_
      rintro ex w13 ⟨rfl, hb13⟩
      have HBf := hide (HB8.out.trans ((hbw.trans (hb13.mono hbw.size)).mono hs8))
      clear hb13
      go_wp2
      go_ret
      exact ⟨rfl, HBf.out⟩
    · have hbl0 : ¬ bell < 0 := by omega
      have HSt := hide (still_high n bell v (gss.map pad) w8 h12 hbl (HG8.out.below hbw (Nat.le_refl _)))
      go_wp2_with fail
      refine HSt.out.mono ?_
      rintro ex w13 ⟨rfl, hb13⟩
      have HBf := hide (HB8.out.trans ((hbw.trans (hb13.mono hbw.size)).mono hs8))
      clear hb13
      go_wp2
      go_ret
      exact ⟨rfl, HBf.out⟩
    · obtain ⟨bl, rfl⟩ := Int.eq_ofNat_of_zero_le hbl.1
      have hbn' : bl < n := by omega
      have hd0 : decide ((bl : Int) < 0) = false := decide_eq_false (by omega)
      have hd1 : decide (n ≤ bl) = false := decide_eq_false (by omega)
      have hd2 : decide ((n : Int) ≤ (bl : Int)) = false := decide_eq_false (by omega)
      have HSt := hide (still_ok n bl v (gss.map pad) w8 h1 h12 hbn' HGL.out (HG8.out.below hbw (Nat.le_refl _)))
      clear hbl
      go_wp2_with fail
      refine HSt.out.mono ?_
      rintro ex w13 ⟨v13, hsg, rfl, hGS, hst, hb13⟩
      have hB13 : Below w8.heap.size w8 w13 := hbw.trans (hb13.mono hbw.size)
      have HGS := hide hGS
      have HSTA := hide hst
      obtain ⟨gb2, _, _, _, _, _, _, rfl, _⟩ := hGS
      have HCL13 : Hid (∀ i r, R[i]? = some r → ∃ u, w13.cell? ⟨gr, offr + i, none⟩ = some u ∧ Ints w13 u r) := fun i r hr => by
        obtain ⟨u, h1', h2'⟩ := HCL.out i r hr
        exact ⟨u, (hB13.cell (p := ⟨gr, offr + i, none⟩) hgr).trans h1', h2'.below hB13⟩
      have HB13 := hide (HB8.out.trans (hB13.mono hs8))
      have hgr13 : gr < w13.heap.size := Nat.lt_of_lt_of_le hgr hB13.size
      clear hst hb13 hB13 HSt hbw HCL HCW hgr
      go_wp2
      go_loopw [25, 26] (fun su si wr => ∃ (i : Nat) (u : Value) (vs : List Value), i ≤ z ∧ su = u ∧ si = .int .i64 i ∧ StayR w13 wr u vs bl i R) (fun _ si _ => z - (intOf si).toNat)
      case atStart => exact ⟨0, _, [], Nat.zero_le _, rfl, rfl, StayR.start w13 bl R⟩
      case round =>
        obtain ⟨i, u, vs, hiz, rfl, rfl, hSR⟩ := hrel
        have hsr := hSR.below.size
        by_cases hit : i < z
        · obtain ⟨r, hr⟩ : ∃ r, R[i]? = some r := ⟨_, List.getElem?_eq_getElem (by rw [HRL.out]; exact hit)⟩
          obtain ⟨u2, hcu, hiu⟩ := HCL13.out i r hr
          obtain ⟨hrl, hrm⟩ := HRows.out r (List.mem_of_getElem? hr)
          obtain ⟨m, hmn, hm⟩ := hrm bl hbn'
          have hcu' := (hSR.below.cell (p := ⟨gr, offr + i, none⟩) hgr13).trans hcu
          have HIU := hide hiu
          obtain ⟨p2, c2, e2⟩ := hiu.form
          subst e2
          obtain ⟨b2, o2, rfl, hl1, hl2, hl3, hl4⟩ := hiu.open (by omega)
          have hcm := (hSR.below.cell (p := ⟨b2, o2 + bl, none⟩) hl3).trans (hl4 bl (by omega))
          rw [hm] at hcm
          have HRI := hide hr
          have HM := hide hm
          have HSR := hide hSR
          rw [hrl] at hcu' hl1
          have HRLN := hide hrl
          have hvl : vs.length ≤ 5040 := by
            have h1' := hSR.len
            have h2' := stayL_length bl (R.take i)
            rw [List.length_take] at h2'
            omega
          clear hcu hiu hrm hm hr hl4 hSR hrl
          by_cases hmb : m = bl
          · have HM2 : Hid (r.getD bl 0 = (bl : Int)) := by show _ = _; rw [HM.out, hmb]
            rw [hmb] at hcm
            clear HM hmb hmn
            have HIU' : Hid (Ints w13 (.slice (some ⟨b2, o2, none⟩) n c2) r) := by show Ints _ _ _; have := HIU.out; rw [HRLN.out] at this; exact this
            have HrS := hide HSR.out.row
            go_wp2_with (at_builtin; go_loud (refine wpList_append_own _ rfl _ _ 22 rfl w13.heap.size 23 i0 (.slice none 0 0) 1 24 Try.underlying22 hi hz0 hz1 hz2 rfl (by decide) _ _ _ rfl (HrS.out.alloc _) ⟨wr.heap.size, 0, none⟩ 1 1 [.slice (some ⟨b2, o2, none⟩) n c2] rfl rfl ?d1 ?d2 ?d3 ?d4 ?d5 ?_))
            case d1 => exact cell_one_new _ _ _
            case d2 => intro u hu; simp at hu; subst hu; rfl
            case d3 => unfold maxLen; omega
            case d4 => omega
            case d5 => simp; omega
            intro v9 w9 hown9 hg9 _
            have HS9 := hide (HSR.out.more HRI.out HM2.out HIU'.out hown9 hg9)
            clear hown9 hg9
            go_wp2
            go_roundw
            case rel =>
              have hfin : ∃ (i' : Nat) (u : Value) (vs : List Value), i' ≤ z ∧ v9 = u ∧ Value.int .i64 ((i : Int) + 1) = .int .i64 (i' : Int) ∧ StayR w13 w9 u vs bl i' R := ⟨i + 1, _, _, hit, rfl, by go_num, HS9.out⟩
              first
                | exact hfin
                | ((repeat apply Exists.intro); exact ⟨hfin, rfl⟩)
            case measure => simp [intOf]; omega
          · have hmbI : ¬ (m : Int) = (bl : Int) := by omega
            have HS9 := hide (HSR.out.same HRI.out (by rw [HM.out]; exact hmbI))
            go_wp2
            go_roundw
            case rel =>
              have hfin : ∃ (i' : Nat) (u : Value) (vs : List Value), i' ≤ z ∧ u25 = u ∧ Value.int .i64 ((i : Int) + 1) = .int .i64 (i' : Int) ∧ StayR w13 wr u vs bl i' R := ⟨i + 1, _, vs, hit, rfl, by go_num, HS9.out⟩
              first
                | exact hfin
                | ((repeat apply Exists.intro); exact ⟨hfin, rfl⟩)
            case measure => simp [intOf]; omega
        · obtain rfl : i = z := by omega
          have hRi := HRL.out
          have hdn : StayR w13 wr u25 vs bl R.length R := by rw [hRi]; exact hSR
          have HAst := hide hdn.done
          have hb14 := hSR.below
          have HB14 := hide (HB13.out.trans (hb14.mono HB13.out.size))
          have HGS14 := hide (HGS.out.below hb14 (Nat.le_refl _))
          have HEl := hide (elements_ok n _ hsg wr h12 HGS14.out)
          have hszh : sz (Gen (fun y => y ∈ hsg)) n ≤ 5040 := by
            refine Nat.le_trans (sz_mono (H := Gen (fun y => y ∈ gss.map pad)) (fun x hx => ((HSTA.out x).1 hx).1) h12) ?_
            rw [HSZ.out]; exact HS.out
          have HSH := hide hszh
          clear hdn hSR hb14 hszh hRi
          go_wp2_with fail
          refine HEl.out.mono ?_
          rintro ex w15 ⟨hb15, hpost⟩
          rw [if_neg (by have := HSH.out; omega)] at hpost
          obtain ⟨vx, vxs, XX, rfl, hXl, hXn, hXm, hXs, hLX⟩ := hpost
          have HB15 := hide (HB14.out.trans (hb15.mono HB14.out.size))
          have HGb := hide (gbells_ok n _ hsg w15 (HGS14.out.below hb15 (Nat.le_refl _)))
          have HLX := hide hLX.ints
          have HAs2 := hide (HAst.out.below hb15)
          have HXN := hide hXn
          have HXM := hide hXm
          have HXS := hide hXs
          clear hXl hXn hXm hXs hLX hb15 HEl HAst
          go_wp2_with fail
          refine HGb.out.mono ?_
          rintro ex w16 ⟨rfl, hw16⟩
          subst hw16
          have HOd := hide (rordered_all u25 (stayL bl R) w15 HAs2.out (by have h1' := stayL_length bl R; rw [HRL.out] at h1'; omega) (fun r hr => by have h1' := (HRows.out r ((List.mem_filter.1 hr).1)).1; omega))
          clear HGb HAs2
          go_wp2_with fail
          refine HOd.out.mono ?_
          rintro ex w17 ⟨vo, Y, rfl, hAo, hYp, hYs, hb17⟩
          have HB17 := hide (HB15.out.trans (hb17.mono HB15.out.size))
          have hYe : XX.map (cut n) = Y := by
            refine group_ordered (S := (S.map (·.1)).filter (fun x => decide (x.act bl = bl))) h12 (fun x hx => ?_) HXN.out HXS.out (HF.out.nodup.sublist List.filter_sublist) (fun x => ?_) (R := stayL bl R) ?_ hYp hYs
            · exact gens_fix h12 HGR.out ((HSTA.out x).1 ((HXM.out x).1 hx)).1
            · rw [HXM.out, HSTA.out, List.mem_filter, decide_eq_true_iff, HF.out.mem]
            · rw [HR.out, Found.cuts, stayL_cut h12 hbn']
          have HSc := hide (sameAll_any vx vo (XX.map (cut n)) Y w17 (HLX.out.below hb17) hAo)
          rw [decide_eq_true hYe] at HSc
          clear hAo hYp hYs hYe hb17 HOd HLX
          go_wp2_with fail
          refine HSc.out.mono ?_
          rintro ex w18 ⟨rfl, hb18⟩
          have HB18 := hide (HB17.out.trans (hb18.mono HB17.out.size))
          clear hb18 HSc
          go_wp2
          go_ret
          exact ⟨rfl, HB18.out⟩

end Go.Proofs.Ytimfoggjocajiaa

/- The walk of groupRows where the group's rows are told: the next way. -/
namespace Go.Proofs.Ytimfoggjocajiaa
open Go.RowKit

set_option maxRecDepth 20000 in
set_option maxHeartbeats 8000000 in
theorem groupRows_b (v vg vr : Value) (n : Nat) (gss : List (List Int)) (xs : List Int) (bell : Int) (w : World) (h : GLaw w v vg vr n gss xs) (hz : rchk n xs = 0) (hg : ¬ Gen (fun y => y ∈ gss.map pad) (pad xs)) (hs : sz (Gen (fun y => y ∈ gss.map pad)) n ≤ 5040) :
    Calls Try.prog 25 #[v, .int .i64 n, vg, vr, .int .i64 0, .int .i64 bell, .int .i64 ((sz (Gen (fun y => y ∈ gss.map pad)) n : Nat) : Int)] w fun e w' => Told w e w' := by
  have h12 := h.twelve
  have h1 := h.one
  have h8 := h.eight
  have q1 := run_ptr_ne
  have q2 := run_ptr_nil
  obtain ⟨i0, hi, hz0, hz1, hz2⟩ := info_parts Try.info23
  have hgl : (gss.map pad).length ≤ 1000000 := by rw [List.length_map]; omega
  have HGL := hide hgl
  have HG := hide h.grp
  have HGR := hide h.rows
  have HXr := hide h.row
  have HW := hide (word_ok n v vr (gss.map pad) xs w h12 hgl h.grp h.row)
  have HE : Hid (∀ w', Below w.heap.size w w' → Calls Try.prog 56 #[v] w' fun e w'' => ElPost n (gss.map pad) w' e w'') := fun w' hb => elements_ok n v _ w' h12 (h.grp.below hb (Nat.le_refl _))
  have HCd : Hid (∀ w', Below w.heap.size w w' → Calls Try.prog 31 #[.int .i64 n, vg, .int .i64 5040] w' fun e w'' => ClosedPost n gss 5040 w' e w'') := fun w' hb => closed_ok n 5040 vg gss w' (h.gens.below hb) h.rows h1 h12 (by omega) (by omega) (by omega)
  have HO : Hid (∀ w', Below w.heap.size w w' → Calls Try.prog 53 #[v] w' fun e w'' => ∃ (u : Value) (vs : List Value), e = .returned u ∧ LL w'' w'.heap.size u vs ((orbsTo (gss.map pad) n n).map natI) ∧ Below w'.heap.size w' w'') := fun w' hb => orbits_ok n v _ w' h12 (h.grp.below hb (Nat.le_refl _))
  have HS := hide hs
  have HZ := hide hz
  obtain ⟨hxr, hxl, _, _⟩ := rchk_zero hz
  have HXR := hide hxr
  have HXL := hide hxl
  have HGEN := hide hg
  clear hxr hxl hg
  generalize hsz : sz (Gen (fun y => y ∈ gss.map pad)) n = z at *
  have HSZ := hide hsz
  have hsI : ¬ ((5040 : Int) < (z : Int)) := by omega
  clear h hsz hgl hz
  go_enter Try.func25, Try.ntmps25
  go_wp2_with fail
  refine HW.out.mono ?_
  rintro ex w1 ⟨hb1, hpost⟩
  obtain rfl : ex = .returned (.tuple #[.slice none 0 0, .int .i64 14]) := by
    rcases hpost with h | h | h | h
    · exact absurd HZ.out h.1
    · exact h.2.2
    · exact absurd h.2.1 HGEN.out
    · exact absurd h.2.1 HGEN.out
  clear hpost HW
  go_wp2_with fail
  refine (HE.out w1 hb1).mono ?_
  rintro ex w2 ⟨hb2, hpost⟩
  rw [HSZ.out, if_neg (by have := HS.out; omega)] at hpost
  obtain ⟨ve, vse, X, rfl, hXl, hXn, hXm, hXs, hLE⟩ := hpost
  have hB2 := hb1.trans (hb2.mono hb1.size)
  have HLE := hide hLE.ints
  clear hLE hb1 hb2
  go_wp2_with fail
  refine (HCd.out w2 hB2).mono ?_
  rintro ex w3 ⟨hb3, hpost⟩
  obtain ⟨vrs, vws, S, rfl, hAr, hAw, hF⟩ : ∃ vr vw S, ex = .returned (.tuple #[vr, vw]) ∧ IntsAll w3 vr (S.map (fun e => cut n e.1)) ∧ IntsAll w3 vw (S.map (·.2)) ∧ Found n gss S := by
    rcases hpost with ⟨vr, vw, S, h1', h2', h3', h4', _⟩ | ⟨_, S, h1', h2'⟩
    · exact ⟨vr, vw, S, h1', h2', h3', Found.of h12 HGR.out h4'⟩
    · have := found_few h12 HGR.out h1'
      rw [HSZ.out] at this
      have := HS.out
      omega
  have hSl : S.length = z := by rw [← HSZ.out]; exact hF.size h12
  have HF := hide hF
  have hB3 := hB2.trans (hb3.mono hB2.size)
  have HXF : Hid (∀ x, x ∈ X → Fixes (fun b => n ≤ b) x) := fun x hx => gens_fix h12 HGR.out ((hXm x).1 hx)
  have HOrd := hide (rordered_all vrs _ w3 hAr (by rw [List.length_map]; have := HS.out; omega) (fun r hr => by have := (hF.rows h12 r hr).1; omega))
  obtain ⟨R, hR⟩ : ∃ R, R = S.map (fun e => cut n e.1) := ⟨_, rfl⟩
  rw [← hR] at hAr HOrd
  have hRl : R.length = z := by rw [hR, List.length_map]; exact hSl
  have HRows : Hid (∀ r, r ∈ R → r.length = n ∧ ∀ j, j < n → ∃ m : Nat, m < n ∧ r.getD j 0 = (m : Int)) := by
    show ∀ r, r ∈ R → _
    rw [hR]; exact hF.rows h12
  have HR := hide hR
  have HRL := hide hRl
  have HSL := hide hSl
  have HAr := hide hAr
  have HAw := hide hAw
  have HLE3 := hide (HLE.out.below hb3)
  have HXM := hide hXm
  have HXS := hide hXs
  have HXN := hide hXn
  clear hpost hAr hAw hF hR hRl hSl hXm hXs hXn hXl hb3 HLE HCd HE
  go_wp2_with fail
  refine HOrd.out.mono ?_
  rintro ex w4 ⟨vo, Y, rfl, hAo, hYp, hYs, hb4⟩
  have hYe : X.map (cut n) = Y := group_ordered h12 HXF.out HXN.out HXS.out HF.out.nodup (fun x => (HXM.out x).trans (HF.out.mem x).symm) (by rw [HR.out]; exact Found.cuts n S) hYp hYs
  have HSa := hide (sameAll_any ve vo (X.map (cut n)) Y w4 (HLE3.out.below hb4) hAo)
  rw [decide_eq_true hYe] at HSa
  have hB4 := hB3.trans (hb4.mono hB3.size)
  have HB34 := hide hb4
  clear hAo hYp hYs hYe hb4 HOrd HLE3
  go_wp2_with fail
  refine HSa.out.mono ?_
  rintro ex w5 ⟨rfl, hb5⟩
  have hB5 := hB4.trans (hb5.mono hB4.size)
  have HB35 := hide (HB34.out.trans (hb5.mono HB34.out.size))
  clear hb5 HSa hB4 HB34
  go_wp2_with fail
  refine (HO.out w5 hB5).mono ?_
  rintro ex w6 ⟨vob, vobs, rfl, hLO, hb6⟩
  have hB6 := hB5.trans (hb6.mono hB5.size)
  have HB36 := hide (HB35.out.trans (hb6.mono HB35.out.size))
  have HRo := hide (rorbits_ok n vrs R w6 (HAr.out.below HB36.out) h1 h12 HRows.out (by rw [HRL.out]; have := HS.out; omega) (by rw [HRL.out, ← HSL.out]; exact HF.out.pos))
  have HLO := hide hLO.ints
  clear hLO hb6 hB5 HB35 HO
  go_wp2_with fail
  refine HRo.out.mono ?_
  rintro ex w7 ⟨vro, vros, rfl, hLR, hb7⟩
  have hB7 := hB6.trans (hb7.mono hB6.size)
  have HB37 := hide (HB36.out.trans (hb7.mono HB36.out.size))
  have HSb := hide (sameAll_any vob vro _ _ w7 (HLO.out.below hb7) hLR.ints)
  have hoe : (orbsTo (gss.map pad) n n).map natI = (rorbsTo R n n).map natI := by rw [HR.out, HF.out.orbits h12]
  rw [decide_eq_true hoe] at HSb
  clear hLR hb7 hB6 HRo HLO hoe HB36
  go_wp2_with fail
  refine HSb.out.mono ?_
  rintro ex w8 ⟨rfl, hb8⟩
  have hB8 := hB7.trans (hb8.mono hB7.size)
  have hB38 := HB37.out.trans (hb8.mono HB37.out.size)
  have hs8 := hB8.size
  have HB8 := hide hB8
  have hAr8 := HAr.out.below hB38
  have hAw8 := HAw.out.below hB38
  have hzp : 1 ≤ z := by rw [← HSL.out]; exact HF.out.pos
  have hz5 : z ≤ 5040 := HS.out
  obtain ⟨pr, Nr, cr, rfl⟩ : ∃ p N c, vrs = .slice p N c := by obtain ⟨p, c, e⟩ := hAr8.len; exact ⟨p, _, c, e⟩
  obtain ⟨gr, offr, rfl, hNr, hcr1, hcr2, hgr, hcell⟩ := hAr8.rowI (by rw [HRL.out]; exact hzp)
  rw [HRL.out] at hNr hcr1
  have hNr' := hNr.symm
  subst hNr'
  obtain ⟨pw, Nw, cw, rfl⟩ : ∃ p N c, vws = .slice p N c := by obtain ⟨p, c, e⟩ := hAw8.len; exact ⟨p, _, c, e⟩
  obtain ⟨gw, offw, rfl, hNw, hcw1, hcw2, hgw, hcellw⟩ := hAw8.rowI (by rw [List.length_map, HSL.out]; exact hzp)
  rw [List.length_map, HSL.out] at hNw hcw1
  have hNw' := hNw.symm
  subst hNw'
  have HCL := hide hcell
  have HCW := hide hcellw
  have HX8 := hide (HXr.out.below hB8)
  have HG8 := hide (HG.out.below hB8 (Nat.le_refl _))
  have HKK : Hid (∀ (i : Nat) (r : List Int), R[i]? = some r → ¬ r = xs) := fun i r hr => by
    rw [HR.out, List.getElem?_map] at hr
    obtain ⟨d, hd, rfl⟩ := Option.map_eq_some_iff.1 hr
    exact HF.out.not h12 HGEN.out i d hd
  clear hcell hcellw hAr8 hAw8 hB38 hb8 hB8 hB7 hB2 hB3 HSb HB37 HAr HAw
  go_wp2
  go_loopw [21, 22] (fun sa si wr => ∃ i : Nat, i ≤ z ∧ sa = .int .i64 (-1) ∧ si = .int .i64 i ∧ Below w8.heap.size w8 wr) (fun _ si _ => z - (intOf si).toNat)
  case atStart => exact ⟨0, Nat.zero_le _, rfl, rfl, Below.refl _ _⟩
  case round =>
    obtain ⟨i, hiz, rfl, rfl, hbw⟩ := hrel
    by_cases hit : i < z
    · obtain ⟨r, hr⟩ : ∃ r, R[i]? = some r := ⟨_, List.getElem?_eq_getElem (by rw [HRL.out]; exact hit)⟩
      obtain ⟨u2, hcu, hiu⟩ := HCL.out i r hr
      have hcu' := (hbw.cell (p := ⟨gr, offr + i, none⟩) hgr).trans hcu
      have HSm := hide (same_any u2 vr r xs wr (hiu.below hbw) (HX8.out.below hbw))
      rw [decide_eq_false (HKK.out i r hr)] at HSm
      have hsw := hbw.size
      clear hcu hiu hr
      go_wp2_with fail
      refine HSm.out.mono ?_
      rintro ex w9 ⟨rfl, hb9⟩
      have HB9 := hide (hbw.trans (hb9.mono hsw))
      clear hb9 hbw HSm
      go_wp2
      go_roundw
      case rel =>
        have hfin : ∃ i' : Nat, i' ≤ z ∧ Value.int .i64 (-1) = .int .i64 (-1) ∧ Value.int .i64 ((i : Int) + 1) = .int .i64 (i' : Int) ∧ Below w8.heap.size w8 w9 := ⟨i + 1, hit, rfl, by go_num, HB9.out⟩
        first
          | exact hfin
          | ((repeat apply Exists.intro); exact ⟨hfin, rfl⟩)
          | exact ⟨i + 1, hit, by go_num, HB9.out⟩
      case measure => simp [intOf]; omega
    · obtain rfl : z = i := by omega
      obtain ⟨W, hW⟩ : ∃ W, W = wr := ⟨_, rfl⟩
      subst hW
      rcases (show bell < 0 ∨ (n : Int) ≤ bell ∨ (0 ≤ bell ∧ bell < (n : Int)) by omega) with hbl | hbl | hbl
      · have HSt := hide (still_low n bell v (gss.map pad) W hbl (HG8.out.below hbw (Nat.le_refl _)))
        go_wp2_with fail
        refine HSt.out.mono ?_
        rintro ex w13 ⟨rfl, hb13⟩
        have HBf := hide (HB8.out.trans ((hbw.trans (hb13.mono hbw.size)).mono hs8))
        clear hb13
        go_wp2
        go_ret
        exact ⟨rfl, HBf.out⟩
      · have hbl0 : ¬ bell < 0 := by omega
        have HSt := hide (still_high n bell v (gss.map pad) W h12 hbl (HG8.out.below hbw (Nat.le_refl _)))
        go_wp2_with fail
        refine HSt.out.mono ?_
        rintro ex w13 ⟨rfl, hb13⟩
        have HBf := hide (HB8.out.trans ((hbw.trans (hb13.mono hbw.size)).mono hs8))
        clear hb13
        go_wp2
        go_ret
        exact ⟨rfl, HBf.out⟩
      · obtain ⟨bl, rfl⟩ := Int.eq_ofNat_of_zero_le hbl.1
        have hbn' : bl < n := by omega
        have hd0 : decide ((bl : Int) < 0) = false := decide_eq_false (by omega)
        have hd1 : decide (n ≤ bl) = false := decide_eq_false (by omega)
        have hd2 : decide ((n : Int) ≤ (bl : Int)) = false := decide_eq_false (by omega)
        have HSt := hide (still_ok n bl v (gss.map pad) W h1 h12 hbn' HGL.out (HG8.out.below hbw (Nat.le_refl _)))
        clear hbl
        go_wp2_with fail
        refine HSt.out.mono ?_
        rintro ex w13 ⟨v13, hsg, rfl, hGS, hst, hb13⟩
        have hB13 : Below w8.heap.size w8 w13 := hbw.trans (hb13.mono hbw.size)
        have HGS := hide hGS
        have HSTA := hide hst
        obtain ⟨gb2, _, _, _, _, _, _, rfl, _⟩ := hGS
        have HCL13 : Hid (∀ i r, R[i]? = some r → ∃ u, w13.cell? ⟨gr, offr + i, none⟩ = some u ∧ Ints w13 u r) := fun i r hr => by
          obtain ⟨u, h1', h2'⟩ := HCL.out i r hr
          exact ⟨u, (hB13.cell (p := ⟨gr, offr + i, none⟩) hgr).trans h1', h2'.below hB13⟩
        have HB13 := hide (HB8.out.trans (hB13.mono hs8))
        have hgr13 : gr < w13.heap.size := Nat.lt_of_lt_of_le hgr hB13.size
        clear hst hb13 hB13 HSt hbw HCL HCW hgr
        go_wp2
        go_loopw [25, 26] (fun su si wr => ∃ (i : Nat) (u : Value) (vs : List Value), i ≤ z ∧ su = u ∧ si = .int .i64 i ∧ StayR w13 wr u vs bl i R) (fun _ si _ => z - (intOf si).toNat)
        case atStart => exact ⟨0, _, [], Nat.zero_le _, rfl, rfl, StayR.start w13 bl R⟩
        case round =>
          obtain ⟨i, u, vs, hiz, rfl, rfl, hSR⟩ := hrel
          have hsr := hSR.below.size
          by_cases hit : i < z
          · obtain ⟨r, hr⟩ : ∃ r, R[i]? = some r := ⟨_, List.getElem?_eq_getElem (by rw [HRL.out]; exact hit)⟩
            obtain ⟨u2, hcu, hiu⟩ := HCL13.out i r hr
            obtain ⟨hrl, hrm⟩ := HRows.out r (List.mem_of_getElem? hr)
            obtain ⟨m, hmn, hm⟩ := hrm bl hbn'
            have hcu' := (hSR.below.cell (p := ⟨gr, offr + i, none⟩) hgr13).trans hcu
            have HIU := hide hiu
            obtain ⟨p2, c2, e2⟩ := hiu.form
            subst e2
            obtain ⟨b2, o2, rfl, hl1, hl2, hl3, hl4⟩ := hiu.open (by omega)
            have hcm := (hSR.below.cell (p := ⟨b2, o2 + bl, none⟩) hl3).trans (hl4 bl (by omega))
            rw [hm] at hcm
            have HRI := hide hr
            have HM := hide hm
            have HSR := hide hSR
            rw [hrl] at hcu' hl1
            have HRLN := hide hrl
            have hvl : vs.length ≤ 5040 := by
              have h1' := hSR.len
              have h2' := stayL_length bl (R.take i)
              rw [List.length_take] at h2'
              omega
            clear hcu hiu hrm hm hr hl4 hSR hrl
            by_cases hmb : m = bl
            · have HM2 : Hid (r.getD bl 0 = (bl : Int)) := by show _ = _; rw [HM.out, hmb]
              rw [hmb] at hcm
              clear HM hmb hmn
              have HIU' : Hid (Ints w13 (.slice (some ⟨b2, o2, none⟩) n c2) r) := by show Ints _ _ _; have := HIU.out; rw [HRLN.out] at this; exact this
              have HrS := hide HSR.out.row
              go_wp2_with (at_builtin; go_loud (refine wpList_append_own _ rfl _ _ 22 rfl w13.heap.size 23 i0 (.slice none 0 0) 1 24 Try.underlying22 hi hz0 hz1 hz2 rfl (by decide) _ _ _ rfl (HrS.out.alloc _) ⟨wr.heap.size, 0, none⟩ 1 1 [.slice (some ⟨b2, o2, none⟩) n c2] rfl rfl ?d1 ?d2 ?d3 ?d4 ?d5 ?_))
              case d1 => exact cell_one_new _ _ _
              case d2 => intro u hu; simp at hu; subst hu; rfl
              case d3 => unfold maxLen; omega
              case d4 => omega
              case d5 => simp; omega
              intro v9 w9 hown9 hg9 _
              have HS9 := hide (HSR.out.more HRI.out HM2.out HIU'.out hown9 hg9)
              clear hown9 hg9
              go_wp2
              go_roundw
              case rel =>
                have hfin : ∃ (i' : Nat) (u : Value) (vs : List Value), i' ≤ z ∧ v9 = u ∧ Value.int .i64 ((i : Int) + 1) = .int .i64 (i' : Int) ∧ StayR w13 w9 u vs bl i' R := ⟨i + 1, _, _, hit, rfl, by go_num, HS9.out⟩
                first
                  | exact hfin
                  | ((repeat apply Exists.intro); exact ⟨hfin, rfl⟩)
              case measure => simp [intOf]; omega
            · have hmbI : ¬ (m : Int) = (bl : Int) := by omega
              have HS9 := hide (HSR.out.same HRI.out (by rw [HM.out]; exact hmbI))
              go_wp2
              go_roundw
              case rel =>
                have hfin : ∃ (i' : Nat) (u : Value) (vs : List Value), i' ≤ z ∧ u25 = u ∧ Value.int .i64 ((i : Int) + 1) = .int .i64 (i' : Int) ∧ StayR w13 wr u vs bl i' R := ⟨i + 1, _, vs, hit, rfl, by go_num, HS9.out⟩
                first
                  | exact hfin
                  | ((repeat apply Exists.intro); exact ⟨hfin, rfl⟩)
              case measure => simp [intOf]; omega
          · obtain rfl : i = z := by omega
            have hRi := HRL.out
            have hdn : StayR w13 wr u25 vs bl R.length R := by rw [hRi]; exact hSR
            have HAst := hide hdn.done
            have hb14 := hSR.below
            have HB14 := hide (HB13.out.trans (hb14.mono HB13.out.size))
            have HGS14 := hide (HGS.out.below hb14 (Nat.le_refl _))
            have HEl := hide (elements_ok n _ hsg wr h12 HGS14.out)
            have hszh : sz (Gen (fun y => y ∈ hsg)) n ≤ 5040 := by
              refine Nat.le_trans (sz_mono (H := Gen (fun y => y ∈ gss.map pad)) (fun x hx => ((HSTA.out x).1 hx).1) h12) ?_
              rw [HSZ.out]; exact HS.out
            have HSH := hide hszh
            clear hdn hSR hb14 hszh hRi
            go_wp2_with fail
            refine HEl.out.mono ?_
            rintro ex w15 ⟨hb15, hpost⟩
            rw [if_neg (by have := HSH.out; omega)] at hpost
            obtain ⟨vx, vxs, XX, rfl, hXl, hXn, hXm, hXs, hLX⟩ := hpost
            have HB15 := hide (HB14.out.trans (hb15.mono HB14.out.size))
            have HGb := hide (gbells_ok n _ hsg w15 (HGS14.out.below hb15 (Nat.le_refl _)))
            have HLX := hide hLX.ints
            have HAs2 := hide (HAst.out.below hb15)
            have HXN := hide hXn
            have HXM := hide hXm
            have HXS := hide hXs
            clear hXl hXn hXm hXs hLX hb15 HEl HAst
            go_wp2_with fail
            refine HGb.out.mono ?_
            rintro ex w16 ⟨rfl, hw16⟩
            subst hw16
            have HOd := hide (rordered_all u25 (stayL bl R) w15 HAs2.out (by have h1' := stayL_length bl R; rw [HRL.out] at h1'; omega) (fun r hr => by have h1' := (HRows.out r ((List.mem_filter.1 hr).1)).1; omega))
            clear HGb HAs2
            go_wp2_with fail
            refine HOd.out.mono ?_
            rintro ex w17 ⟨vo, Y, rfl, hAo, hYp, hYs, hb17⟩
            have HB17 := hide (HB15.out.trans (hb17.mono HB15.out.size))
            have hYe : XX.map (cut n) = Y := by
              refine group_ordered (S := (S.map (·.1)).filter (fun x => decide (x.act bl = bl))) h12 (fun x hx => ?_) HXN.out HXS.out (HF.out.nodup.sublist List.filter_sublist) (fun x => ?_) (R := stayL bl R) ?_ hYp hYs
              · exact gens_fix h12 HGR.out ((HSTA.out x).1 ((HXM.out x).1 hx)).1
              · rw [HXM.out, HSTA.out, List.mem_filter, decide_eq_true_iff, HF.out.mem]
              · rw [HR.out, Found.cuts, stayL_cut h12 hbn']
            have HSc := hide (sameAll_any vx vo (XX.map (cut n)) Y w17 (HLX.out.below hb17) hAo)
            rw [decide_eq_true hYe] at HSc
            clear hAo hYp hYs hYe hb17 HOd HLX
            go_wp2_with fail
            refine HSc.out.mono ?_
            rintro ex w18 ⟨rfl, hb18⟩
            have HB18 := hide (HB17.out.trans (hb18.mono HB17.out.size))
            clear hb18 HSc
            go_wp2
            go_ret
            exact ⟨rfl, HB18.out⟩

end Go.Proofs.Ytimfoggjocajiaa

/- The walk of groupRows where the group's rows are told: the next way. -/
namespace Go.Proofs.Ytimfoggjocajiaa
open Go.RowKit

set_option maxRecDepth 20000 in
set_option maxHeartbeats 8000000 in
theorem groupRows_c (v vg vr : Value) (n : Nat) (gss : List (List Int)) (xs : List Int) (bell : Int) (w : World) (h : GLaw w v vg vr n gss xs) (hz : rchk n xs = 0) (hg : Gen (fun y => y ∈ gss.map pad) (pad xs)) (hs : sz (Gen (fun y => y ∈ gss.map pad)) n ≤ 5040) :
    Calls Try.prog 25 #[v, .int .i64 n, vg, vr, .int .i64 0, .int .i64 bell, .int .i64 ((sz (Gen (fun y => y ∈ gss.map pad)) n : Nat) : Int)] w fun e w' => Told w e w' := by
  have h12 := h.twelve
  have h1 := h.one
  have h8 := h.eight
  have q1 := run_ptr_ne
  have q2 := run_ptr_nil
  obtain ⟨i0, hi, hz0, hz1, hz2⟩ := info_parts Try.info23
  have hgl : (gss.map pad).length ≤ 1000000 := by rw [List.length_map]; omega
  have HGL := hide hgl
  have HG := hide h.grp
  have HGR := hide h.rows
  have HXr := hide h.row
  have HW := hide (word_ok n v vr (gss.map pad) xs w h12 hgl h.grp h.row)
  have HE : Hid (∀ w', Below w.heap.size w w' → Calls Try.prog 56 #[v] w' fun e w'' => ElPost n (gss.map pad) w' e w'') := fun w' hb => elements_ok n v _ w' h12 (h.grp.below hb (Nat.le_refl _))
  have HCd : Hid (∀ w', Below w.heap.size w w' → Calls Try.prog 31 #[.int .i64 n, vg, .int .i64 5040] w' fun e w'' => ClosedPost n gss 5040 w' e w'') := fun w' hb => closed_ok n 5040 vg gss w' (h.gens.below hb) h.rows h1 h12 (by omega) (by omega) (by omega)
  have HO : Hid (∀ w', Below w.heap.size w w' → Calls Try.prog 53 #[v] w' fun e w'' => ∃ (u : Value) (vs : List Value), e = .returned u ∧ LL w'' w'.heap.size u vs ((orbsTo (gss.map pad) n n).map natI) ∧ Below w'.heap.size w' w'') := fun w' hb => orbits_ok n v _ w' h12 (h.grp.below hb (Nat.le_refl _))
  have HS := hide hs
  have HZ := hide hz
  obtain ⟨hxr, hxl, _, _⟩ := rchk_zero hz
  have HXR := hide hxr
  have HXL := hide hxl
  have HGEN := hide hg
  clear hxr hxl hg
  generalize hsz : sz (Gen (fun y => y ∈ gss.map pad)) n = z at *
  have HSZ := hide hsz
  have hsI : ¬ ((5040 : Int) < (z : Int)) := by omega
  clear h hsz hgl hz
  go_enter Try.func25, Try.ntmps25
  go_wp2_with fail
  refine HW.out.mono ?_
  rintro ex w1 ⟨hb1, hpost⟩
  obtain ⟨vd, wd, iw, Sw, rfl, hrun, hmem, hown⟩ : ∃ (u : Value) (wd : List Int) (i : Nat) (S : List (Pm × List Int)), ex = .returned (.tuple #[u, .int .i64 0]) ∧ Run (glet 0 (gss.map pad)) i S ∧ (pad xs, wd) ∈ S ∧ w1.ownsRow w.heap.size 3 1 u wd.length (wd.map (Value.int .i64)) := by
    rcases hpost with h | h | h | h
    · exact absurd HZ.out h.1
    · exact absurd HGEN.out h.2.1
    · have := h.2.2.1; rw [HSZ.out] at this; have := HS.out; omega
    · exact h.2.2.2
  rw [letters_glet] at hrun
  have HRw := hide hrun
  have HMw := hide hmem
  have HWd := hide (Ints.own hown)
  clear hrun hmem hown
  clear hpost HW
  go_wp2_with fail
  refine (HE.out w1 hb1).mono ?_
  rintro ex w2 ⟨hb2, hpost⟩
  rw [HSZ.out, if_neg (by have := HS.out; omega)] at hpost
  obtain ⟨ve, vse, X, rfl, hXl, hXn, hXm, hXs, hLE⟩ := hpost
  have hB2 := hb1.trans (hb2.mono hb1.size)
  have HLE := hide hLE.ints
  have HWd2 := hide (HWd.out.below hb2)
  clear hLE hb1 hb2
  go_wp2_with fail
  refine (HCd.out w2 hB2).mono ?_
  rintro ex w3 ⟨hb3, hpost⟩
  obtain ⟨vrs, vws, S, rfl, hAr, hAw, hF⟩ : ∃ vr vw S, ex = .returned (.tuple #[vr, vw]) ∧ IntsAll w3 vr (S.map (fun e => cut n e.1)) ∧ IntsAll w3 vw (S.map (·.2)) ∧ Found n gss S := by
    rcases hpost with ⟨vr, vw, S, h1', h2', h3', h4', _⟩ | ⟨_, S, h1', h2'⟩
    · exact ⟨vr, vw, S, h1', h2', h3', Found.of h12 HGR.out h4'⟩
    · have := found_few h12 HGR.out h1'
      rw [HSZ.out] at this
      have := HS.out
      omega
  have hSl : S.length = z := by rw [← HSZ.out]; exact hF.size h12
  have HF := hide hF
  have hB3 := hB2.trans (hb3.mono hB2.size)
  have HXF : Hid (∀ x, x ∈ X → Fixes (fun b => n ≤ b) x) := fun x hx => gens_fix h12 HGR.out ((hXm x).1 hx)
  have HOrd := hide (rordered_all vrs _ w3 hAr (by rw [List.length_map]; have := HS.out; omega) (fun r hr => by have := (hF.rows h12 r hr).1; omega))
  obtain ⟨R, hR⟩ : ∃ R, R = S.map (fun e => cut n e.1) := ⟨_, rfl⟩
  rw [← hR] at hAr HOrd
  have hRl : R.length = z := by rw [hR, List.length_map]; exact hSl
  have HRows : Hid (∀ r, r ∈ R → r.length = n ∧ ∀ j, j < n → ∃ m : Nat, m < n ∧ r.getD j 0 = (m : Int)) := by
    show ∀ r, r ∈ R → _
    rw [hR]; exact hF.rows h12
  have HR := hide hR
  have HRL := hide hRl
  have HSL := hide hSl
  have HAr := hide hAr
  have HAw := hide hAw
  have HLE3 := hide (HLE.out.below hb3)
  have HXM := hide hXm
  have HXS := hide hXs
  have HXN := hide hXn
  have HWd3 := hide (HWd2.out.below hb3)
  clear HWd2 HWd
  clear hpost hAr hAw hF hR hRl hSl hXm hXs hXn hXl hb3 HLE HCd HE
  go_wp2_with fail
  refine HOrd.out.mono ?_
  rintro ex w4 ⟨vo, Y, rfl, hAo, hYp, hYs, hb4⟩
  have hYe : X.map (cut n) = Y := group_ordered h12 HXF.out HXN.out HXS.out HF.out.nodup (fun x => (HXM.out x).trans (HF.out.mem x).symm) (by rw [HR.out]; exact Found.cuts n S) hYp hYs
  have HSa := hide (sameAll_any ve vo (X.map (cut n)) Y w4 (HLE3.out.below hb4) hAo)
  rw [decide_eq_true hYe] at HSa
  have hB4 := hB3.trans (hb4.mono hB3.size)
  have HB34 := hide hb4
  clear hAo hYp hYs hYe hb4 HOrd HLE3
  go_wp2_with fail
  refine HSa.out.mono ?_
  rintro ex w5 ⟨rfl, hb5⟩
  have hB5 := hB4.trans (hb5.mono hB4.size)
  have HB35 := hide (HB34.out.trans (hb5.mono HB34.out.size))
  clear hb5 HSa hB4 HB34
  go_wp2_with fail
  refine (HO.out w5 hB5).mono ?_
  rintro ex w6 ⟨vob, vobs, rfl, hLO, hb6⟩
  have hB6 := hB5.trans (hb6.mono hB5.size)
  have HB36 := hide (HB35.out.trans (hb6.mono HB35.out.size))
  have HRo := hide (rorbits_ok n vrs R w6 (HAr.out.below HB36.out) h1 h12 HRows.out (by rw [HRL.out]; have := HS.out; omega) (by rw [HRL.out, ← HSL.out]; exact HF.out.pos))
  have HLO := hide hLO.ints
  clear hLO hb6 hB5 HB35 HO
  go_wp2_with fail
  refine HRo.out.mono ?_
  rintro ex w7 ⟨vro, vros, rfl, hLR, hb7⟩
  have hB7 := hB6.trans (hb7.mono hB6.size)
  have HB37 := hide (HB36.out.trans (hb7.mono HB36.out.size))
  have HSb := hide (sameAll_any vob vro _ _ w7 (HLO.out.below hb7) hLR.ints)
  have hoe : (orbsTo (gss.map pad) n n).map natI = (rorbsTo R n n).map natI := by rw [HR.out, HF.out.orbits h12]
  rw [decide_eq_true hoe] at HSb
  clear hLR hb7 hB6 HRo HLO hoe HB36
  go_wp2_with fail
  refine HSb.out.mono ?_
  rintro ex w8 ⟨rfl, hb8⟩
  have hB8 := hB7.trans (hb8.mono hB7.size)
  have hB38 := HB37.out.trans (hb8.mono HB37.out.size)
  have hs8 := hB8.size
  have HB8 := hide hB8
  have hAr8 := HAr.out.below hB38
  have hAw8 := HAw.out.below hB38
  have hzp : 1 ≤ z := by rw [← HSL.out]; exact HF.out.pos
  have hz5 : z ≤ 5040 := HS.out
  obtain ⟨pr, Nr, cr, rfl⟩ : ∃ p N c, vrs = .slice p N c := by obtain ⟨p, c, e⟩ := hAr8.len; exact ⟨p, _, c, e⟩
  obtain ⟨gr, offr, rfl, hNr, hcr1, hcr2, hgr, hcell⟩ := hAr8.rowI (by rw [HRL.out]; exact hzp)
  rw [HRL.out] at hNr hcr1
  have hNr' := hNr.symm
  subst hNr'
  obtain ⟨pw, Nw, cw, rfl⟩ : ∃ p N c, vws = .slice p N c := by obtain ⟨p, c, e⟩ := hAw8.len; exact ⟨p, _, c, e⟩
  obtain ⟨gw, offw, rfl, hNw, hcw1, hcw2, hgw, hcellw⟩ := hAw8.rowI (by rw [List.length_map, HSL.out]; exact hzp)
  rw [List.length_map, HSL.out] at hNw hcw1
  have hNw' := hNw.symm
  subst hNw'
  have HCL := hide hcell
  have HCW := hide hcellw
  have HX8 := hide (HXr.out.below hB8)
  have HG8 := hide (HG.out.below hB8 (Nat.le_refl _))
  have HWd8 := hide (HWd3.out.below hB38)
  obtain ⟨pd, cd, evd⟩ := HWd8.out.form
  subst evd
  obtain ⟨k0, e0, hk0, he0, hkk⟩ := HF.out.at h12 HXR.out HXL.out HGEN.out
  have hk0z : k0 < z := by rw [← HSL.out]; exact (List.getElem?_eq_some_iff.1 hk0).1
  have hwe : wd = e0.2 := pair_eq HF.out.nodup (HRw.out.full HF.out.run (Nat.le_refl _) HMw.out) (by rw [← he0]; exact List.mem_of_getElem? hk0)
  obtain ⟨uw, hcuw, hiuw⟩ := HCW.out k0 e0.2 (by rw [List.getElem?_map, hk0]; rfl)
  rw [← hwe] at hiuw
  have HUW := hide hiuw
  have HKK : Hid (∀ (i : Nat) (r : List Int), R[i]? = some r → (r = xs ↔ i = k0)) := fun i r hr => by
    rw [HR.out, List.getElem?_map] at hr
    obtain ⟨d, hd, rfl⟩ := Option.map_eq_some_iff.1 hr
    exact hkk i d hd
  clear hwe hiuw hkk hk0 he0 HWd3 HRw HMw
  clear hcell hcellw hAr8 hAw8 hB38 hb8 hB8 hB7 hB2 hB3 HSb HB37 HAr HAw
  go_wp2
  go_loopw [21, 22] (fun sa si wr => ∃ (i : Nat) (a : Int), i ≤ z ∧ sa = .int .i64 a ∧ si = .int .i64 i ∧ Hid (a = if k0 < i then (k0 : Int) else -1) ∧ Below w8.heap.size w8 wr) (fun _ si _ => z - (intOf si).toNat)
  case atStart => exact ⟨0, -1, Nat.zero_le _, rfl, rfl, rfl, Below.refl _ _⟩
  case round =>
    obtain ⟨i, a, hiz, rfl, rfl, ha, hbw⟩ := hrel
    by_cases hit : i < z
    · obtain ⟨r, hr⟩ : ∃ r, R[i]? = some r := ⟨_, List.getElem?_eq_getElem (by rw [HRL.out]; exact hit)⟩
      obtain ⟨u2, hcu, hiu⟩ := HCL.out i r hr
      have hcu' := (hbw.cell (p := ⟨gr, offr + i, none⟩) hgr).trans hcu
      have HSm := hide (same_any u2 vr r xs wr (hiu.below hbw) (HX8.out.below hbw))
      have hsw := hbw.size
      by_cases hik : i = k0
      · rw [decide_eq_true ((HKK.out i r hr).2 hik)] at HSm
        have HA2 : Hid ((i : Int) = if k0 < i + 1 then (k0 : Int) else -1) := by show _ = _; rw [if_pos (by omega)]; omega
        clear hcu hiu hr hik
        go_wp2_with fail
        refine HSm.out.mono ?_
        rintro ex w9 ⟨rfl, hb9⟩
        have HB9 := hide (hbw.trans (hb9.mono hsw))
        clear hb9 hbw HSm
        go_wp2
        go_roundw
        case rel =>
          have hfin : ∃ (i' : Nat) (a : Int), i' ≤ z ∧ Value.int .i64 (i : Int) = .int .i64 a ∧ Value.int .i64 ((i : Int) + 1) = .int .i64 (i' : Int) ∧ Hid (a = if k0 < i' then (k0 : Int) else -1) ∧ Below w8.heap.size w8 w9 := ⟨i + 1, _, hit, rfl, by go_num, HA2, HB9.out⟩
          first
            | exact hfin
            | ((repeat apply Exists.intro); exact ⟨hfin, rfl⟩)
        case measure => simp [intOf]; omega
      · rw [decide_eq_false (fun h => hik ((HKK.out i r hr).1 h))] at HSm
        have HA2 : Hid (a = if k0 < i + 1 then (k0 : Int) else -1) := by
          show _ = _
          rw [ha.out]
          by_cases hlt : k0 < i
          · rw [if_pos hlt, if_pos (by omega)]
          · rw [if_neg hlt, if_neg (by omega)]
        clear hcu hiu hr ha hik
        go_wp2_with fail
        refine HSm.out.mono ?_
        rintro ex w9 ⟨rfl, hb9⟩
        have HB9 := hide (hbw.trans (hb9.mono hsw))
        clear hb9 hbw HSm
        go_wp2
        go_roundw
        case rel =>
          have hfin : ∃ (i' : Nat) (a' : Int), i' ≤ z ∧ Value.int .i64 a = .int .i64 a' ∧ Value.int .i64 ((i : Int) + 1) = .int .i64 (i' : Int) ∧ Hid (a' = if k0 < i' then (k0 : Int) else -1) ∧ Below w8.heap.size w8 w9 := ⟨i + 1, _, hit, rfl, by go_num, HA2, HB9.out⟩
          first
            | exact hfin
            | ((repeat apply Exists.intro); exact ⟨hfin, rfl⟩)
        case measure => simp [intOf]; omega
    · obtain rfl : z = i := by omega
      have hak : a = (k0 : Int) := by rw [ha.out, if_pos hk0z]
      subst hak
      have hcw' := (hbw.cell (p := ⟨gw, offw + k0, none⟩) hgw).trans hcuw
      have HSm := hide (same_any _ uw wd wd wr (HWd8.out.below hbw) (HUW.out.below hbw))
      rw [decide_eq_true rfl] at HSm
      have hk0I : ¬ ((k0 : Int) < 0) := by omega
      have hsw := hbw.size
      go_wp2_with fail
      refine HSm.out.mono ?_
      rintro ex W ⟨rfl, hb9⟩
      replace hbw := hbw.trans (hb9.mono hsw)
      clear hb9 HSm hcw' ha
      rcases (show bell < 0 ∨ (n : Int) ≤ bell ∨ (0 ≤ bell ∧ bell < (n : Int)) by omega) with hbl | hbl | hbl
      · have HSt := hide (still_low n bell v (gss.map pad) W hbl (HG8.out.below hbw (Nat.le_refl _)))
        go_wp2_with fail
        refine HSt.out.mono ?_
        rintro ex w13 ⟨rfl, hb13⟩
        have HBf := hide (HB8.out.trans ((hbw.trans (hb13.mono hbw.size)).mono hs8))
        clear hb13
        go_wp2
        go_ret
        exact ⟨rfl, HBf.out⟩
      · have hbl0 : ¬ bell < 0 := by omega
        have HSt := hide (still_high n bell v (gss.map pad) W h12 hbl (HG8.out.below hbw (Nat.le_refl _)))
        go_wp2_with fail
        refine HSt.out.mono ?_
        rintro ex w13 ⟨rfl, hb13⟩
        have HBf := hide (HB8.out.trans ((hbw.trans (hb13.mono hbw.size)).mono hs8))
        clear hb13
        go_wp2
        go_ret
        exact ⟨rfl, HBf.out⟩
      · obtain ⟨bl, rfl⟩ := Int.eq_ofNat_of_zero_le hbl.1
        have hbn' : bl < n := by omega
        have hd0 : decide ((bl : Int) < 0) = false := decide_eq_false (by omega)
        have hd1 : decide (n ≤ bl) = false := decide_eq_false (by omega)
        have hd2 : decide ((n : Int) ≤ (bl : Int)) = false := decide_eq_false (by omega)
        have HSt := hide (still_ok n bl v (gss.map pad) W h1 h12 hbn' HGL.out (HG8.out.below hbw (Nat.le_refl _)))
        clear hbl
        go_wp2_with fail
        refine HSt.out.mono ?_
        rintro ex w13 ⟨v13, hsg, rfl, hGS, hst, hb13⟩
        have hB13 : Below w8.heap.size w8 w13 := hbw.trans (hb13.mono hbw.size)
        have HGS := hide hGS
        have HSTA := hide hst
        obtain ⟨gb2, _, _, _, _, _, _, rfl, _⟩ := hGS
        have HCL13 : Hid (∀ i r, R[i]? = some r → ∃ u, w13.cell? ⟨gr, offr + i, none⟩ = some u ∧ Ints w13 u r) := fun i r hr => by
          obtain ⟨u, h1', h2'⟩ := HCL.out i r hr
          exact ⟨u, (hB13.cell (p := ⟨gr, offr + i, none⟩) hgr).trans h1', h2'.below hB13⟩
        have HB13 := hide (HB8.out.trans (hB13.mono hs8))
        have hgr13 : gr < w13.heap.size := Nat.lt_of_lt_of_le hgr hB13.size
        clear hst hb13 hB13 HSt hbw HCL HCW hgr
        go_wp2
        go_loopw [25, 26] (fun su si wr => ∃ (i : Nat) (u : Value) (vs : List Value), i ≤ z ∧ su = u ∧ si = .int .i64 i ∧ StayR w13 wr u vs bl i R) (fun _ si _ => z - (intOf si).toNat)
        case atStart => exact ⟨0, _, [], Nat.zero_le _, rfl, rfl, StayR.start w13 bl R⟩
        case round =>
          obtain ⟨i, u, vs, hiz, rfl, rfl, hSR⟩ := hrel
          have hsr := hSR.below.size
          by_cases hit : i < z
          · obtain ⟨r, hr⟩ : ∃ r, R[i]? = some r := ⟨_, List.getElem?_eq_getElem (by rw [HRL.out]; exact hit)⟩
            obtain ⟨u2, hcu, hiu⟩ := HCL13.out i r hr
            obtain ⟨hrl, hrm⟩ := HRows.out r (List.mem_of_getElem? hr)
            obtain ⟨m, hmn, hm⟩ := hrm bl hbn'
            have hcu' := (hSR.below.cell (p := ⟨gr, offr + i, none⟩) hgr13).trans hcu
            have HIU := hide hiu
            obtain ⟨p2, c2, e2⟩ := hiu.form
            subst e2
            obtain ⟨b2, o2, rfl, hl1, hl2, hl3, hl4⟩ := hiu.open (by omega)
            have hcm := (hSR.below.cell (p := ⟨b2, o2 + bl, none⟩) hl3).trans (hl4 bl (by omega))
            rw [hm] at hcm
            have HRI := hide hr
            have HM := hide hm
            have HSR := hide hSR
            rw [hrl] at hcu' hl1
            have HRLN := hide hrl
            have hvl : vs.length ≤ 5040 := by
              have h1' := hSR.len
              have h2' := stayL_length bl (R.take i)
              rw [List.length_take] at h2'
              omega
            clear hcu hiu hrm hm hr hl4 hSR hrl
            by_cases hmb : m = bl
            · have HM2 : Hid (r.getD bl 0 = (bl : Int)) := by show _ = _; rw [HM.out, hmb]
              rw [hmb] at hcm
              clear HM hmb hmn
              have HIU' : Hid (Ints w13 (.slice (some ⟨b2, o2, none⟩) n c2) r) := by show Ints _ _ _; have := HIU.out; rw [HRLN.out] at this; exact this
              have HrS := hide HSR.out.row
              go_wp2_with (at_builtin; go_loud (refine wpList_append_own _ rfl _ _ 22 rfl w13.heap.size 23 i0 (.slice none 0 0) 1 24 Try.underlying22 hi hz0 hz1 hz2 rfl (by decide) _ _ _ rfl (HrS.out.alloc _) ⟨wr.heap.size, 0, none⟩ 1 1 [.slice (some ⟨b2, o2, none⟩) n c2] rfl rfl ?d1 ?d2 ?d3 ?d4 ?d5 ?_))
              case d1 => exact cell_one_new _ _ _
              case d2 => intro u hu; simp at hu; subst hu; rfl
              case d3 => unfold maxLen; omega
              case d4 => omega
              case d5 => simp; omega
              intro v9 w9 hown9 hg9 _
              have HS9 := hide (HSR.out.more HRI.out HM2.out HIU'.out hown9 hg9)
              clear hown9 hg9
              go_wp2
              go_roundw
              case rel =>
                have hfin : ∃ (i' : Nat) (u : Value) (vs : List Value), i' ≤ z ∧ v9 = u ∧ Value.int .i64 ((i : Int) + 1) = .int .i64 (i' : Int) ∧ StayR w13 w9 u vs bl i' R := ⟨i + 1, _, _, hit, rfl, by go_num, HS9.out⟩
                first
                  | exact hfin
                  | ((repeat apply Exists.intro); exact ⟨hfin, rfl⟩)
              case measure => simp [intOf]; omega
            · have hmbI : ¬ (m : Int) = (bl : Int) := by omega
              have HS9 := hide (HSR.out.same HRI.out (by rw [HM.out]; exact hmbI))
              go_wp2
              go_roundw
              case rel =>
                have hfin : ∃ (i' : Nat) (u : Value) (vs : List Value), i' ≤ z ∧ u25 = u ∧ Value.int .i64 ((i : Int) + 1) = .int .i64 (i' : Int) ∧ StayR w13 wr u vs bl i' R := ⟨i + 1, _, vs, hit, rfl, by go_num, HS9.out⟩
                first
                  | exact hfin
                  | ((repeat apply Exists.intro); exact ⟨hfin, rfl⟩)
              case measure => simp [intOf]; omega
          · obtain rfl : i = z := by omega
            have hRi := HRL.out
            have hdn : StayR w13 wr u25 vs bl R.length R := by rw [hRi]; exact hSR
            have HAst := hide hdn.done
            have hb14 := hSR.below
            have HB14 := hide (HB13.out.trans (hb14.mono HB13.out.size))
            have HGS14 := hide (HGS.out.below hb14 (Nat.le_refl _))
            have HEl := hide (elements_ok n _ hsg wr h12 HGS14.out)
            have hszh : sz (Gen (fun y => y ∈ hsg)) n ≤ 5040 := by
              refine Nat.le_trans (sz_mono (H := Gen (fun y => y ∈ gss.map pad)) (fun x hx => ((HSTA.out x).1 hx).1) h12) ?_
              rw [HSZ.out]; exact HS.out
            have HSH := hide hszh
            clear hdn hSR hb14 hszh hRi
            go_wp2_with fail
            refine HEl.out.mono ?_
            rintro ex w15 ⟨hb15, hpost⟩
            rw [if_neg (by have := HSH.out; omega)] at hpost
            obtain ⟨vx, vxs, XX, rfl, hXl, hXn, hXm, hXs, hLX⟩ := hpost
            have HB15 := hide (HB14.out.trans (hb15.mono HB14.out.size))
            have HGb := hide (gbells_ok n _ hsg w15 (HGS14.out.below hb15 (Nat.le_refl _)))
            have HLX := hide hLX.ints
            have HAs2 := hide (HAst.out.below hb15)
            have HXN := hide hXn
            have HXM := hide hXm
            have HXS := hide hXs
            clear hXl hXn hXm hXs hLX hb15 HEl HAst
            go_wp2_with fail
            refine HGb.out.mono ?_
            rintro ex w16 ⟨rfl, hw16⟩
            subst hw16
            have HOd := hide (rordered_all u25 (stayL bl R) w15 HAs2.out (by have h1' := stayL_length bl R; rw [HRL.out] at h1'; omega) (fun r hr => by have h1' := (HRows.out r ((List.mem_filter.1 hr).1)).1; omega))
            clear HGb HAs2
            go_wp2_with fail
            refine HOd.out.mono ?_
            rintro ex w17 ⟨vo, Y, rfl, hAo, hYp, hYs, hb17⟩
            have HB17 := hide (HB15.out.trans (hb17.mono HB15.out.size))
            have hYe : XX.map (cut n) = Y := by
              refine group_ordered (S := (S.map (·.1)).filter (fun x => decide (x.act bl = bl))) h12 (fun x hx => ?_) HXN.out HXS.out (HF.out.nodup.sublist List.filter_sublist) (fun x => ?_) (R := stayL bl R) ?_ hYp hYs
              · exact gens_fix h12 HGR.out ((HSTA.out x).1 ((HXM.out x).1 hx)).1
              · rw [HXM.out, HSTA.out, List.mem_filter, decide_eq_true_iff, HF.out.mem]
              · rw [HR.out, Found.cuts, stayL_cut h12 hbn']
            have HSc := hide (sameAll_any vx vo (XX.map (cut n)) Y w17 (HLX.out.below hb17) hAo)
            rw [decide_eq_true hYe] at HSc
            clear hAo hYp hYs hYe hb17 HOd HLX
            go_wp2_with fail
            refine HSc.out.mono ?_
            rintro ex w18 ⟨rfl, hb18⟩
            have HB18 := hide (HB17.out.trans (hb18.mono HB17.out.size))
            clear hb18 HSc
            go_wp2
            go_ret
            exact ⟨rfl, HB18.out⟩

end Go.Proofs.Ytimfoggjocajiaa

/- The walk of GroupSays: it answers true at every input. -/
namespace Go.Proofs.Ytimfoggjocajiaa
open Go.RowKit

/-- What is said: an error, or a row. -/
noncomputable def saidC (gs : List Pm) (ys : List Int) : Int := if 20000 < ys.length then 3 else if (say gs ys 1).isSome then 0 else 12
noncomputable def saidL (n : Nat) (gs : List Pm) (ys : List Int) : List Int := if 20000 < ys.length then [] else (say gs ys 1).elim [] (cut n)

def SaidPost (n : Nat) (gs : List Pm) (ys : List Int) (w : World) (e : Ending) (w' : World) : Prop :=
  ∃ a, e = .returned (.tuple #[a, .int .i64 (saidC gs ys)]) ∧ Ints w' a (saidL n gs ys) ∧ Below w.heap.size w w'

theorem say_any (n : Nat) (v v2 : Value) (gs : List Pm) (ys : List Int) (w : World) (h12 : n ≤ 12) (hG : GroupAt w v n gs) (hgl : gs.length ≤ 1000000) (hI : Ints w v2 ys) (hx : ∀ x, x ∈ ys → I64 x) :
    Calls Try.prog 20 #[v, v2] w fun e w' => SaidPost n gs ys w e w' := by
  by_cases hl : 20000 < ys.length
  · refine (say_long n v v2 gs ys w hG hI hl).mono ?_
    rintro e w' ⟨rfl, rfl⟩
    exact ⟨_, by unfold saidC; rw [if_pos hl], by unfold saidL; rw [if_pos hl]; exact Ints.nil _, Below.refl _ _⟩
  · refine (say_ok n v v2 gs ys w h12 hG hgl hI hx (by omega)).mono ?_
    rintro e w' ⟨h | ⟨u, p, h1, rfl, h2⟩, hb⟩
    · obtain ⟨h1, rfl⟩ := h
      exact ⟨_, by unfold saidC; rw [if_neg hl, h1]; rfl, by unfold saidL; rw [if_neg hl, h1]; exact Ints.nil _, hb⟩
    · refine ⟨u, by unfold saidC; rw [if_neg hl, h1]; rfl, ?_, hb⟩
      unfold saidL; rw [if_neg hl, h1]; exact Ints.own h2

set_option maxRecDepth 20000 in
theorem rsay_long (n : Nat) (v v2 : Value) (ys : List Int) (w : World) (hI : Ints w v2 ys) (hl : 20000 < ys.length) :
    Calls Try.prog 21 #[.int .i64 n, v, v2] w fun e w' => e = .returned (.tuple #[.slice none 0 0, .int .i64 3]) ∧ w = w' := by
  obtain ⟨p, c, rfl⟩ := hI.form
  have hlI : (20000 : Int) < (ys.length : Int) := by omega
  clear hI
  go_enter Try.func21, Try.ntmps21
  go_wp2
  go_ret2
  exact ⟨rfl, rfl⟩

theorem rsay_any (n : Nat) (v v2 : Value) (gss : List (List Int)) (ys : List Int) (w : World) (h1 : 1 ≤ n) (h12 : n ≤ 12) (hA : IntsAll w v gss) (hR : RowsN n gss) (h8 : gss.length ≤ 8) (hI : Ints w v2 ys) (hx : ∀ x, x ∈ ys → I64 x) :
    Calls Try.prog 21 #[.int .i64 n, v, v2] w fun e w' => SaidPost n (gss.map pad) ys w e w' := by
  by_cases hl : 20000 < ys.length
  · refine (rsay_long n v v2 ys w hI hl).mono ?_
    rintro e w' ⟨rfl, rfl⟩
    exact ⟨_, by unfold saidC; rw [if_pos hl], by unfold saidL; rw [if_pos hl]; exact Ints.nil _, Below.refl _ _⟩
  · refine (rsay_ok n v v2 gss ys w h1 h12 hA hR h8 hI hx (by omega)).mono ?_
    rintro e w' ⟨h | ⟨u, p, h1, _, rfl, h2⟩, hb⟩
    · obtain ⟨h1, rfl⟩ := h
      exact ⟨_, by unfold saidC; rw [if_neg hl, h1]; rfl, by unfold saidL; rw [if_neg hl, h1]; exact Ints.nil _, hb⟩
    · refine ⟨u, by unfold saidC; rw [if_neg hl, h1]; rfl, ?_, hb⟩
      unfold saidL; rw [if_neg hl, h1]; exact h2

theorem groupRows_any (v vg vr : Value) (n : Nat) (gss : List (List Int)) (xs : List Int) (bell : Int) (w : World) (h : GLaw w v vg vr n gss xs) :
    Calls Try.prog 25 #[v, .int .i64 n, vg, vr, .int .i64 (rchk n xs), .int .i64 bell, .int .i64 ((sz (Gen (fun y => y ∈ gss.map pad)) n : Nat) : Int)] w fun e w' => Told w e w' := by
  by_cases hs : 5040 < sz (Gen (fun y => y ∈ gss.map pad)) n
  · by_cases hz : rchk n xs = 0
    · rw [hz]; exact groupRows_big v vg vr n gss xs bell w h hz hs
    · exact groupRows_refused v vg vr n gss xs bell w h hz hs
  · by_cases hz : rchk n xs = 0
    · rw [hz]
      by_cases hg : Gen (fun y => y ∈ gss.map pad) (pad xs)
      · exact groupRows_c v vg vr n gss xs bell w h hz hg (by omega)
      · exact groupRows_b v vg vr n gss xs bell w h hz hg (by omega)
    · exact groupRows_a v vg vr n gss xs bell w h hz (by omega)

set_option maxRecDepth 20000 in
theorem groupSays_pass (n : Int) (v v2 v3 : Value) (ys : List Int) (bell : Int) (w : World) (h3 : Ints w v3 ys) (hl1 : 200 < ys.length) (hl2 : ys.length < 20001) :
    Calls Try.prog 3 #[.int .i64 n, v, v2, v3, .int .i64 bell] w fun e w' => Told w e w' := by
  obtain ⟨p3, c3, rfl⟩ := h3.form
  have g1 : decide ((200 : Int) < (ys.length : Int)) = true := decide_eq_true (by omega)
  have g2 : decide ((ys.length : Int) < 20001) = true := decide_eq_true (by omega)
  have g3 : (200 : Int) < (ys.length : Int) := by omega
  have g4 : (ys.length : Int) < 20001 := by omega
  clear h3 hl1 hl2
  go_enter Try.func3, Try.ntmps3
  go_wp2
  go_ret
  exact ⟨rfl, Below.refl _ _⟩

set_option maxRecDepth 20000 in
set_option maxHeartbeats 2000000 in
theorem groupSays_no (n : Int) (v v2 v3 : Value) (ys : List Int) (bell c : Int) (w : World) (h3 : Ints w v3 ys) (hl : ys.length ≤ 200 ∨ 20000 < ys.length) (hc : c ≠ 0)
    (hk : ∀ w', Below w.heap.size w w' → Calls Try.prog 16 #[.int .i64 n, v] w' fun e w'' => e = .returned (.int .i64 c) ∧ Below w'.heap.size w' w'')
    (hm : ∀ w', Below w.heap.size w w' → Calls Try.prog 15 #[.int .i64 n, v] w' fun e w'' => e = .returned (.int .i64 c) ∧ w' = w'') :
    Calls Try.prog 3 #[.int .i64 n, v, v2, v3, .int .i64 bell] w fun e w' => Told w e w' := by
  obtain ⟨p3, c3, rfl⟩ := h3.form
  have HMk := hide (make_refuses n v c w hc (hk w (Below.refl _ _)))
  have HK := hide hk
  have HM := hide hm
  have q2 := run_ptr_nil
  have hcn : (c != 0) = true := by rw [bne_iff_ne]; exact hc
  have hcI : ¬ c = 0 := hc
  clear h3 hk hm
  have key : ∀ t1 t2 : Bool, decide ((200 : Int) < (ys.length : Int)) = t1 → decide ((ys.length : Int) < 20001) = t2 → (t1 && t2) = false → Calls Try.prog 3 #[.int .i64 n, v, v2, .slice p3 ys.length c3, .int .i64 bell] w fun e w' => Told w e w' := by
    intro t1 t2 g1 g2 g3
    cases t1 <;> cases t2 <;> simp at g3 <;>
    · clear g3
      go_enter Try.func3, Try.ntmps3
      go_wp2_with fail
      refine HMk.out.mono ?_
      rintro ex w1 ⟨rfl, hb1⟩
      go_wp2_with fail
      refine (HM.out w1 hb1).mono ?_
      rintro ex w2 ⟨rfl, rfl⟩
      go_wp2_with fail
      refine (HK.out w1 hb1).mono ?_
      rintro ex w3 ⟨rfl, hb3⟩
      have HB3 := hide (hb1.trans (hb3.mono hb1.size))
      clear hb1 hb3
      go_wp2
      go_ret
      exact ⟨rfl, HB3.out⟩
  refine key _ _ rfl rfl ?_
  rcases hl with hl | hl
  · rw [decide_eq_false (by omega)]; rfl
  · rw [decide_eq_false (p := (ys.length : Int) < 20001) (by omega), Bool.and_false]

end Go.Proofs.Ytimfoggjocajiaa
