/- Joined: CoN, CoP, CoU, CoV, CoW, CoX. -/
import Derived.Test.YtimfoggjocajiaaJ12
import Derived.Test.YtimfoggjocajiaaJ11
import Derived.Test.YtimfoggjocajiaaJ10
import Derived.Test.YtimfoggjocajiaaJ6
import Derived.Test.YtimfoggjocajiaaJ9
import Derived.Test.YtimfoggjocajiaaJ8
import Derived.Test.YtimfoggjocajiaaJ4
/- Contracts: coset's copied, All, Of. -/
namespace Go.Proofs.Ytimfoggjocajiaa
open Go.RowKit

theorem run_tab_ne (a : Addr) (w : World) : (binOp BinOp.eql 45 (.pointer (some a)) (.pointer none)).run Try.prog w = .ok (.bool false) w := by kernel_rfl
theorem run_tab_nil (w : World) : (binOp BinOp.eql 45 (.pointer none) (.pointer none)).run Try.prog w = .ok (.bool true) w := by kernel_rfl

set_option maxRecDepth 20000 in
set_option maxHeartbeats 4000000 in
theorem copied_ok (v : Value) (vs : List Value) (A : List (List Int)) (B : Nat) (w : World) (h : LL w B v vs A) (h1 : 1 ≤ A.length) (hN : A.length ≤ 1000000) (hr : ∀ r, r ∈ A → r.length ≤ 1000000) :
    Calls Try.prog 76 #[v] w fun e w' => ∃ u us, e = .returned u ∧ LL w' w.heap.size u us A ∧ Below w.heap.size w w' := by
  obtain ⟨i0, hi, hz0, hz1, hz2⟩ := info_parts Try.info23
  have hrow := h.row
  rw [h.len] at hrow
  obtain ⟨g, q, rfl, hg1, hg2, hq1, hq2⟩ := owns_form hrow h1
  have HRow := hide hrow
  have HAll := hide h.all
  have HR := hide hr
  generalize hal : A.length = al at *
  have HAL := hide hal
  clear h hr hrow hal
  go_enter Try.func76, Try.ntmps76
  go_wp2_with (at_make; refine wpList_make_full _ rfl _ _ 22 rfl w.heap.size 23 i0 (.slice none 0 0) 1 Try.underlying22 hi hz0 hz1 _ _ _ _ al rfl rfl (by omega) (by omega) ?b2 ?b3 ?b4 ?_)
  case b2 => rw [hz2]; omega
  case b3 => unfold maxLen; omega
  case b4 => exact Nat.le_refl _
  intro w1 hown1 hgrow1
  rw [made_rows] at hown1
  have hB1 : Below w.heap.size w w1 := (Below.refl _ _).grown hgrow1 (Nat.le_refl _) (fun k h => by cases h)
  have HC0 : Hid (CpR w w1 al A 0 []) := ⟨hown1, rfl, trivial, hB1⟩
  clear hown1 hgrow1 hB1
  go_wp2
  go_loopw [11] (fun si wr => ∃ (i : Nat) (us : List Value), i ≤ al ∧ si = .int .i64 i ∧ CpR w wr al A i us) (fun si _ => al - (intOf si).toNat)
  case atStart => exact ⟨0, [], Nat.zero_le _, rfl, HC0.out⟩
  case round =>
    clear HC0
    obtain ⟨i, us, hil, rfl, hC⟩ := hrel
    by_cases hlt : i < al
    · obtain ⟨X, hX⟩ : ∃ X, A[i]? = some X := ⟨_, List.getElem?_eq_getElem (by rw [HAL.out]; exact hlt)⟩
      obtain ⟨ux, hcux, houx⟩ := word_at HRow.out HAll.out hX HAL.out
      have hcux' := (hC.below.cell (p := ⟨g, i, none⟩) hg2).trans hcux
      have hox := owns_below houx hC.below (Nat.le_refl _)
      obtain ⟨px, cx, epx⟩ := owns_slice houx
      have HCl := hide (clone_own hox (HR.out X (List.mem_of_getElem? hX)))
      subst epx
      have HC := hide hC
      have HX := hide hX
      obtain ⟨⟨y, hcy⟩, hfy⟩ := row_cellE hC.row hlt
      have hsz : w.heap.size < wr.heap.size := (hC.row.lt w.heap.size rfl).2
      generalize hxl : X.length = xl at *
      have HXL := hide hxl
      clear hcux houx hox hC hX hxl
      go_wp2_with fail
      refine HCl.out.mono ?_
      rintro ex w2 ⟨u2, rfl, hown2, hb2⟩
      have HC2 := hide (HC.out.step hlt HX.out hb2 (by rw [HXL.out]; exact hown2))
      have hcy2 := (hb2.cell (p := ⟨w.heap.size, i, none⟩) hsz).trans hcy
      have hfy2 : w2.frozen? ⟨w.heap.size, i, none⟩ = false := (row_cellE (owns_below HC.out.row hb2 (Nat.le_refl _)) hlt).2
      obtain ⟨p2, c2, e2⟩ := owns_slice hown2
      subst e2
      clear hown2 hb2 HCl HC hcy hfy
      go_wp2
      go_roundw
      case rel =>
        have hfin : ∃ (i' : Nat) (us : List Value), i' ≤ al ∧ Value.int .i64 ((i : Int) + 1) = .int .i64 (i' : Int) ∧ CpR w (w2.setCell ⟨w.heap.size, i, none⟩ (.slice p2 xl c2)) al A i' us := ⟨i + 1, _, hlt, by go_num, HC2.out⟩
        first
          | exact hfin
          | ((repeat apply Exists.intro); exact ⟨hfin, rfl⟩)
      case measure => simp [intOf]; omega
    · obtain rfl : al = i := by omega
      have HD := hide (hC.done HAL.out)
      have HB := hide hC.below
      clear hC
      go_wp2
      go_ret
      exact ⟨_, _, rfl, HD.out, HB.out⟩

/-- What All leaves. -/
def CAll (TT : List (Pm × List Int)) (N : List (List Nat)) (w : World) (e : Ending) (w' : World) : Prop :=
  ∃ (u1 u2 : Value), e = .returned (.tuple #[u1, u2]) ∧ IntsAll w' u1 (N.map natI) ∧ IntsAll w' u2 (TT.map (·.2)) ∧ Below w.heap.size w w'

set_option maxRecDepth 20000 in
set_option maxHeartbeats 4000000 in
theorem call_all (v : Value) (n : Nat) (H : Pm → Prop) (TT : List (Pm × List Int)) (N : List (List Nat)) (w : World) (h : TabAt w v n H TT N) (h1 : 1 ≤ TT.length) (hN : N.length = TT.length) (hT : TT.length ≤ 1000000) (hr : ∀ r, r ∈ N → r.length ≤ 1000000) (hr2 : ∀ e, e ∈ TT → e.2.length ≤ 1000000) :
    Calls Try.prog 33 #[v] w fun e w' => CAll TT N w e w' := by
  obtain ⟨T, M, m0, b, k0, cnt, B, vb, vn, vw, sn, sw, fs, F, rfl, hblk, _, _, _, hL3, hL4⟩ := h.mem
  have hTw : T < w.heap.size := (Array.getElem?_eq_some_iff.1 hblk).1
  have HK : Hid (∀ W, Below w.heap.size w W → W.cell? ⟨T, 3, none⟩ = some vn ∧ W.cell? ⟨T, 4, none⟩ = some vw) := fun W hW => by
    have h9 := cells5 ((hW.block T hTw).trans hblk)
    exact ⟨h9.2.2.2.1, h9.2.2.2.2.1⟩
  have HC3 : Hid (∀ W, Below w.heap.size w W → Calls Try.prog 76 #[vn] W fun e w' => ∃ u us, e = .returned u ∧ LL w' W.heap.size u us (N.map natI) ∧ Below W.heap.size W w') := fun W hW => copied_ok vn sn _ B W (hL3.below hW) (by rw [List.length_map]; omega) (by rw [List.length_map]; omega) (fun r hr' => by obtain ⟨y, hy, rfl⟩ := List.mem_map.1 hr'; rw [natI_length]; exact hr y hy)
  have HC4 : Hid (∀ W, Below w.heap.size w W → Calls Try.prog 76 #[vw] W fun e w' => ∃ u us, e = .returned u ∧ LL w' W.heap.size u us (TT.map (·.2)) ∧ Below W.heap.size W w') := fun W hW => copied_ok vw sw _ B W (hL4.below hW) (by rw [List.length_map]; exact h1) (by rw [List.length_map]; exact hT) (fun r hr' => by obtain ⟨y, hy, rfl⟩ := List.mem_map.1 hr'; exact hr2 y hy)
  have hd0 : Below w.heap.size w w.drew := (Below.refl _ _).drew
  have hS0 := HK.out w (Below.refl _ _)
  clear hblk hL3 hL4 h h1 hN hT hr hr2
  go_enter Try.func33, Try.ntmps33
  go_upto_region 1 with fail
  refine wp_region_held_drew (S := fun W' => W'.cell? ⟨T, 3, none⟩ = some vn ∧ W'.cell? ⟨T, 4, none⟩ = some vw) (by kernel_rfl) hS0 (fun hS => ?_)
  refine wpAnyH_take (i := 0) (v := .pointer (some ⟨T, 0, none⟩)) rfl (by kernel_rfl) (by kernel_rfl) (by kernel_rfl) (fun _ _ _ h => h) (Or.inl ⟨by kernel_rfl, fun w' hS' => by clear hS'; go_simp⟩) hS ?_
  refine wpAnyH_take (i := 1) (v := .pointer (some ⟨T, 0, none⟩)) rfl (by kernel_rfl) (by kernel_rfl) (by kernel_rfl) (fun _ _ _ h => h) (Or.inl ⟨by kernel_rfl, fun w' hS' => by clear hS'; go_simp⟩) hS ?_
  refine wpAnyH_take (i := 2) (v := .pointer (some ⟨T, 3, none⟩)) rfl (by kernel_rfl) (by kernel_rfl) (by kernel_rfl) (fun _ _ _ h => h) (Or.inl ⟨by kernel_rfl, fun w' hS' => by clear hS'; go_simp⟩) hS ?_
  refine wpAnyH_take (i := 3) (v := vn) rfl (by kernel_rfl) (by kernel_rfl) (by kernel_rfl) (fun _ _ _ h => h) (Or.inl ⟨by kernel_rfl, fun w' hS' => by obtain ⟨hS1', hS2'⟩ := hS'; go_simp⟩) hS ?_
  refine wpAnyH_take (i := 5) (v := .pointer (some ⟨T, 0, none⟩)) rfl (by kernel_rfl) (by kernel_rfl) (by kernel_rfl) (fun _ _ _ h => h) (Or.inl ⟨by kernel_rfl, fun w' hS' => by clear hS'; go_simp⟩) hS ?_
  refine wpAnyH_take (i := 6) (v := .pointer (some ⟨T, 0, none⟩)) rfl (by kernel_rfl) (by kernel_rfl) (by kernel_rfl) (fun _ _ _ h => h) (Or.inl ⟨by kernel_rfl, fun w' hS' => by clear hS'; go_simp⟩) hS ?_
  refine wpAnyH_take (i := 7) (v := .pointer (some ⟨T, 4, none⟩)) rfl (by kernel_rfl) (by kernel_rfl) (by kernel_rfl) (fun _ _ _ h => h) (Or.inl ⟨by kernel_rfl, fun w' hS' => by clear hS'; go_simp⟩) hS ?_
  refine wpAnyH_take (i := 8) (v := vw) rfl (by kernel_rfl) (by kernel_rfl) (by kernel_rfl) (fun _ _ _ h => h) (Or.inl ⟨by kernel_rfl, fun w' hS' => by obtain ⟨hS1', hS2'⟩ := hS'; go_simp⟩) hS ?_
  refine wpAnyH_ready (rs := [4]) (by kernel_rfl) (by simp) ?_
  refine AllReadyH.cons rfl (fun K hK => ?_) AllReadyH.nil
  go_simp
  refine (HC3.out w.drew hd0).mono ?_
  rintro ex w5 ⟨u5, us5, rfl, hL5, hb5⟩
  have hb5' : Below w.heap.size w w5 := hd0.trans hb5
  refine hK.out _ _ (HK.out w5 hb5') (fun hS => ?_)
  clear hK
  refine wpAnyH_ready (rs := [9]) (by kernel_rfl) (by simp) ?_
  refine AllReadyH.cons rfl (fun K hK => ?_) AllReadyH.nil
  go_simp
  refine (HC4.out w5 hb5').mono ?_
  rintro ex w6 ⟨u6, us6, rfl, hL6, hb6⟩
  have HI5 := hide (hL5.ints.below hb6)
  have HI6 := hide hL6.ints
  have HB6 := hide (hb5'.trans (hb6.mono hb5'.size))
  refine hK.out _ _ (HK.out w6 HB6.out) (fun hS => ?_)
  clear hK
  refine wpAnyH_take (i := 10) (v := u5) rfl (by kernel_rfl) (by kernel_rfl) (by kernel_rfl) (fun _ _ _ h => h) (Or.inl ⟨by kernel_rfl, fun w' hS' => by clear hS'; go_simp⟩) hS ?_
  refine wpAnyH_take (i := 11) (v := u6) rfl (by kernel_rfl) (by kernel_rfl) (by kernel_rfl) (fun _ _ _ h => h) (Or.inl ⟨by kernel_rfl, fun w' hS' => by clear hS'; go_simp⟩) hS ?_
  refine wpAnyH_done (by kernel_rfl) ?_ _
  clear hS hL5 hL6 hb5 hb5' hb6
  go_wp2
  go_ret2
  exact ⟨_, _, rfl, HI5.out, HI6.out, HB6.out⟩

/-- Of, where a row is refused. -/
theorem of_no (v vr : Value) (n : Nat) (H : Pm → Prop) (TT : List (Pm × List Int)) (N : List (List Nat)) (xs : List Int) (w : World) (h : TabAt w v n H TT N) (hI : Ints w vr xs) (hz : rchk n xs ≠ 0) :
    Calls Try.prog 37 #[v, vr] w fun e w' => e = .returned (.tuple #[.int .i64 0, .int .i64 (rchk n xs)]) ∧ Below w.heap.size w w' := by
  obtain ⟨T, M, m0, b, k0, cnt, B, vb, vn, vw, sn, sw, fs, F, rfl, hblk, _⟩ := h.mem
  have hTw : T < w.heap.size := (Array.getElem?_eq_some_iff.1 hblk).1
  have HK := hide (check_any vr xs w hI)
  have hc0 := (cells5 hblk).1
  obtain ⟨p, c, rfl⟩ := hI.form
  by_cases hc : chk xs = 0
  · have hl : xs.length ≠ n := fun e => hz (by unfold rchk; rw [if_pos hc, if_pos e])
    have e1 : rchk n xs = 1 := by unfold rchk; rw [if_pos hc, if_neg hl]
    rw [e1]
    rw [hc] at HK
    have hne : ((xs.length : Int) != (n : Int)) = true := by rw [bne_iff_ne]; omega
    generalize xs.length = xl at *
    clear hblk hz hc hl e1 hI h
    go_enter Try.func37, Try.ntmps37
    go_wp2_with fail
    refine HK.out.mono ?_
    rintro ex w1 ⟨rfl, hb1⟩
    have hc1 := (hb1.cell (p := ⟨T, 0, none⟩) hTw).trans hc0
    go_wp2
    go_ret2
    exact ⟨rfl, hb1⟩
  · have e1 : rchk n xs = chk xs := by unfold rchk; rw [if_neg hc]
    rw [e1]
    have hne : (chk xs != 0) = true := by rw [bne_iff_ne]; exact hc
    generalize chk xs = c1 at *
    generalize xs.length = xl at *
    clear hblk hz hc e1 hI h
    go_enter Try.func37, Try.ntmps37
    go_wp2_with fail
    refine HK.out.mono ?_
    rintro ex w1 ⟨rfl, hb1⟩
    go_wp2
    go_ret2
    exact ⟨rfl, hb1⟩

/-- Of: which part, and the error. -/
noncomputable def ofP (H : Pm → Prop) (TT : List (Pm × List Int)) (x : Pm) : Nat × Int := if cix H TT x < TT.length then (cix H TT x, 0) else (0, 14)

set_option maxRecDepth 20000 in
set_option maxHeartbeats 4000000 in
theorem of_in (v vr : Value) (n : Nat) (H : Pm → Prop) (TT : List (Pm × List Int)) (N : List (List Nat)) (x : Pm) (w : World) (h : TabAt w v n H TT N) (hx : Fixes (fun b => n ≤ b) x) (hI : Ints w vr (cut n x)) (hcx : cix H TT x < TT.length) :
    Calls Try.prog 37 #[v, vr] w fun e w' => e = .returned (.tuple #[.int .i64 ((cix H TT x : Nat) : Int), .int .i64 0]) ∧ Below w.heap.size w w' := by
  have h1 := h.one
  have h12 := h.twelve
  obtain ⟨T, M, m0, b, k0, cnt, B, vb, vn, vw, sn, sw, fs, F, rfl, hblk, hBr, hMp, hMk, _⟩ := h.mem
  have hTw : T < w.heap.size := (Array.getElem?_eq_some_iff.1 hblk).1
  have HK := hide (check_any vr (cut n x) w hI)
  rw [chk_ok (by rw [cut_length h12]; exact h1) (by rw [cut_length h12]; exact h12) (cut_row h12 hx)] at HK
  have HKP : Hid (∀ W, Below w.heap.size w W → W.cell? ⟨T, 2, none⟩ = some (.map (some M))) := fun W hW => (cells5 ((hW.block T hTw).trans hblk)).2.2.1
  have hc0 := (cells5 hblk).1
  have HMrk : Hid (∀ W, Below w.heap.size w W → Calls Try.prog 78 #[.pointer (some ⟨T, 0, none⟩), vr] W fun e w' => e = .returned (.int .i64 ((mkN H n x : Nat) : Int)) ∧ Below W.heap.size W w') := fun W hW => mark_ok n m0 b k0 T vb vr H fs x W h1 h12 h.sub h.hfix (hBr.later hW) (Nat.lt_of_lt_of_le hTw hW.size) ((hW.cell (p := ⟨T, 1, none⟩) hTw).trans (cells5 hblk).2.1) hx (hI.below hW)
  have HMp : Hid (∀ W, Below w.heap.size w W → IMap W M cnt F) := fun W hW => hMp.below hW hMp.lt
  have hFv := hMk x hx
  rw [partV_some hcx] at hFv
  generalize cix H TT x = kk at *
  have hmk := mkN_le (H := H) (n := n) x h12
  obtain ⟨p, c, ep⟩ := hI.form
  rw [cut_length h12] at ep
  subst ep
  generalize mkN H n x = mk at *
  clear hblk hBr hMp hMk hI h hx
  go_enter Try.func37, Try.ntmps37
  go_wp2_with fail
  refine HK.out.mono ?_
  rintro ex w1 ⟨rfl, hb1⟩
  have hc1 := (hb1.cell (p := ⟨T, 0, none⟩) hTw).trans hc0
  have hd1 : Below w.heap.size w w1.drew := hb1.trans ((Below.refl _ _).drew.mono hb1.size)
  have hc2 := HKP.out w1 hb1
  go_upto_region 6 with fail
  refine wp_region_held_drew (S := fun W' => W'.cell? ⟨T, 2, none⟩ = some (.map (some M))) (by kernel_rfl) hc2 (fun hS => ?_)
  refine wpAnyH_take (i := 0) (v := .pointer (some ⟨T, 0, none⟩)) rfl (by kernel_rfl) (by kernel_rfl) (by kernel_rfl) (fun _ _ _ h => h) (Or.inl ⟨by kernel_rfl, fun w' hS' => by clear hS'; go_simp⟩) hS ?_
  refine wpAnyH_take (i := 1) (v := .pointer (some ⟨T, 0, none⟩)) rfl (by kernel_rfl) (by kernel_rfl) (by kernel_rfl) (fun _ _ _ h => h) (Or.inl ⟨by kernel_rfl, fun w' hS' => by clear hS'; go_simp⟩) hS ?_
  refine wpAnyH_take (i := 2) (v := .pointer (some ⟨T, 2, none⟩)) rfl (by kernel_rfl) (by kernel_rfl) (by kernel_rfl) (fun _ _ _ h => h) (Or.inl ⟨by kernel_rfl, fun w' hS' => by clear hS'; go_simp⟩) hS ?_
  refine wpAnyH_take (i := 3) (v := .map (some M)) rfl (by kernel_rfl) (by kernel_rfl) (by kernel_rfl) (fun _ _ _ h => h) (Or.inl ⟨by kernel_rfl, fun w' hS' => by go_simp⟩) hS ?_
  refine wpAnyH_take (i := 4) (v := .pointer (some ⟨T, 0, none⟩)) rfl (by kernel_rfl) (by kernel_rfl) (by kernel_rfl) (fun _ _ _ h => h) (Or.inl ⟨by kernel_rfl, fun w' hS' => by clear hS'; go_simp⟩) hS ?_
  refine wpAnyH_take (i := 5) (v := .slice p n c) rfl (by kernel_rfl) (by kernel_rfl) (by kernel_rfl) (fun _ _ _ h => h) (Or.inl ⟨by kernel_rfl, fun w' hS' => by clear hS'; go_simp⟩) hS ?_
  refine wpAnyH_ready (rs := [6]) (by kernel_rfl) (by simp) ?_
  refine AllReadyH.cons rfl (fun K hK => ?_) AllReadyH.nil
  go_simp
  refine (HMrk.out w1.drew hd1).mono ?_
  rintro ex w2 ⟨rfl, hb2⟩
  have hb2' := hd1.trans (hb2.mono hd1.size)
  refine hK.out _ _ (HKP.out w2 hb2') (fun hS => ?_)
  clear hK hb2
  refine wpAnyH_ready (rs := [7]) (by kernel_rfl) (by simp) ?_
  refine AllReadyH.cons rfl (fun K hK => ?_) AllReadyH.nil
  have hlk := (HMp.out w2 hb2').look_ok Try.underlying108 (Try.zero3 w2) (a := ((mk : Nat) : Int)) (by omega) (by omega)
  rw [hFv] at hlk
  go_simp
  refine hK.out _ _ (HKP.out w2 hb2') (fun hS => ?_)
  clear hK hlk
  refine wpAnyH_take (i := 8) (v := .tuple #[.int .i64 (kk : Int), .bool true]) rfl (by kernel_rfl) (by kernel_rfl) (by kernel_rfl) (fun _ _ _ h => h) (Or.inl ⟨by kernel_rfl, fun w' hS' => by clear hS'; go_simp⟩) hS ?_
  refine wpAnyH_take (i := 9) (v := .int .i64 (kk : Int)) rfl (by kernel_rfl) (by kernel_rfl) (by kernel_rfl) (fun _ _ _ h => h) (Or.inl ⟨by kernel_rfl, fun w' hS' => by clear hS'; go_simp⟩) hS ?_
  refine wpAnyH_take (i := 10) (v := .bool true) rfl (by kernel_rfl) (by kernel_rfl) (by kernel_rfl) (fun _ _ _ h => h) (Or.inl ⟨by kernel_rfl, fun w' hS' => by clear hS'; go_simp⟩) hS ?_
  refine wpAnyH_take (i := 11) (v := .int .i64 (kk : Int)) rfl (by kernel_rfl) (by kernel_rfl) (by kernel_rfl) (fun _ _ _ h => h) (Or.inl ⟨by kernel_rfl, fun w' hS' => by clear hS'; go_simp⟩) hS ?_
  refine wpAnyH_take (i := 12) (v := .bool true) rfl (by kernel_rfl) (by kernel_rfl) (by kernel_rfl) (fun _ _ _ h => h) (Or.inl ⟨by kernel_rfl, fun w' hS' => by clear hS'; go_simp⟩) hS ?_
  refine wpAnyH_done (by kernel_rfl) ?_ _
  clear hS
  go_wp2
  go_ret2
  exact ⟨rfl, hb2'⟩

set_option maxRecDepth 20000 in
set_option maxHeartbeats 4000000 in
theorem of_out (v vr : Value) (n : Nat) (H : Pm → Prop) (TT : List (Pm × List Int)) (N : List (List Nat)) (x : Pm) (w : World) (h : TabAt w v n H TT N) (hx : Fixes (fun b => n ≤ b) x) (hI : Ints w vr (cut n x)) (hcx : ¬ cix H TT x < TT.length) :
    Calls Try.prog 37 #[v, vr] w fun e w' => e = .returned (.tuple #[.int .i64 0, .int .i64 14]) ∧ Below w.heap.size w w' := by
  have h1 := h.one
  have h12 := h.twelve
  obtain ⟨T, M, m0, b, k0, cnt, B, vb, vn, vw, sn, sw, fs, F, rfl, hblk, hBr, hMp, hMk, _⟩ := h.mem
  have hTw : T < w.heap.size := (Array.getElem?_eq_some_iff.1 hblk).1
  have HK := hide (check_any vr (cut n x) w hI)
  rw [chk_ok (by rw [cut_length h12]; exact h1) (by rw [cut_length h12]; exact h12) (cut_row h12 hx)] at HK
  have HKP : Hid (∀ W, Below w.heap.size w W → W.cell? ⟨T, 2, none⟩ = some (.map (some M))) := fun W hW => (cells5 ((hW.block T hTw).trans hblk)).2.2.1
  have hc0 := (cells5 hblk).1
  have HMrk : Hid (∀ W, Below w.heap.size w W → Calls Try.prog 78 #[.pointer (some ⟨T, 0, none⟩), vr] W fun e w' => e = .returned (.int .i64 ((mkN H n x : Nat) : Int)) ∧ Below W.heap.size W w') := fun W hW => mark_ok n m0 b k0 T vb vr H fs x W h1 h12 h.sub h.hfix (hBr.later hW) (Nat.lt_of_lt_of_le hTw hW.size) ((hW.cell (p := ⟨T, 1, none⟩) hTw).trans (cells5 hblk).2.1) hx (hI.below hW)
  have HMp : Hid (∀ W, Below w.heap.size w W → IMap W M cnt F) := fun W hW => hMp.below hW hMp.lt
  have hFv := hMk x hx
  rw [partV_none hcx] at hFv
  have hmk := mkN_le (H := H) (n := n) x h12
  obtain ⟨p, c, ep⟩ := hI.form
  rw [cut_length h12] at ep
  subst ep
  generalize mkN H n x = mk at *
  clear hblk hBr hMp hMk hI h hx
  go_enter Try.func37, Try.ntmps37
  go_wp2_with fail
  refine HK.out.mono ?_
  rintro ex w1 ⟨rfl, hb1⟩
  have hc1 := (hb1.cell (p := ⟨T, 0, none⟩) hTw).trans hc0
  have hd1 : Below w.heap.size w w1.drew := hb1.trans ((Below.refl _ _).drew.mono hb1.size)
  have hc2 := HKP.out w1 hb1
  go_upto_region 6 with fail
  refine wp_region_held_drew (S := fun W' => W'.cell? ⟨T, 2, none⟩ = some (.map (some M))) (by kernel_rfl) hc2 (fun hS => ?_)
  refine wpAnyH_take (i := 0) (v := .pointer (some ⟨T, 0, none⟩)) rfl (by kernel_rfl) (by kernel_rfl) (by kernel_rfl) (fun _ _ _ h => h) (Or.inl ⟨by kernel_rfl, fun w' hS' => by clear hS'; go_simp⟩) hS ?_
  refine wpAnyH_take (i := 1) (v := .pointer (some ⟨T, 0, none⟩)) rfl (by kernel_rfl) (by kernel_rfl) (by kernel_rfl) (fun _ _ _ h => h) (Or.inl ⟨by kernel_rfl, fun w' hS' => by clear hS'; go_simp⟩) hS ?_
  refine wpAnyH_take (i := 2) (v := .pointer (some ⟨T, 2, none⟩)) rfl (by kernel_rfl) (by kernel_rfl) (by kernel_rfl) (fun _ _ _ h => h) (Or.inl ⟨by kernel_rfl, fun w' hS' => by clear hS'; go_simp⟩) hS ?_
  refine wpAnyH_take (i := 3) (v := .map (some M)) rfl (by kernel_rfl) (by kernel_rfl) (by kernel_rfl) (fun _ _ _ h => h) (Or.inl ⟨by kernel_rfl, fun w' hS' => by go_simp⟩) hS ?_
  refine wpAnyH_take (i := 4) (v := .pointer (some ⟨T, 0, none⟩)) rfl (by kernel_rfl) (by kernel_rfl) (by kernel_rfl) (fun _ _ _ h => h) (Or.inl ⟨by kernel_rfl, fun w' hS' => by clear hS'; go_simp⟩) hS ?_
  refine wpAnyH_take (i := 5) (v := .slice p n c) rfl (by kernel_rfl) (by kernel_rfl) (by kernel_rfl) (fun _ _ _ h => h) (Or.inl ⟨by kernel_rfl, fun w' hS' => by clear hS'; go_simp⟩) hS ?_
  refine wpAnyH_ready (rs := [6]) (by kernel_rfl) (by simp) ?_
  refine AllReadyH.cons rfl (fun K hK => ?_) AllReadyH.nil
  go_simp
  refine (HMrk.out w1.drew hd1).mono ?_
  rintro ex w2 ⟨rfl, hb2⟩
  have hb2' := hd1.trans (hb2.mono hd1.size)
  refine hK.out _ _ (HKP.out w2 hb2') (fun hS => ?_)
  clear hK hb2
  refine wpAnyH_ready (rs := [7]) (by kernel_rfl) (by simp) ?_
  refine AllReadyH.cons rfl (fun K hK => ?_) AllReadyH.nil
  have hlk := (HMp.out w2 hb2').look_ok Try.underlying108 (Try.zero3 w2) (a := ((mk : Nat) : Int)) (by omega) (by omega)
  rw [hFv] at hlk
  go_simp
  refine hK.out _ _ (HKP.out w2 hb2') (fun hS => ?_)
  clear hK hlk
  refine wpAnyH_take (i := 8) (v := .tuple #[.int .i64 0, .bool false]) rfl (by kernel_rfl) (by kernel_rfl) (by kernel_rfl) (fun _ _ _ h => h) (Or.inl ⟨by kernel_rfl, fun w' hS' => by clear hS'; go_simp⟩) hS ?_
  refine wpAnyH_take (i := 9) (v := .int .i64 0) rfl (by kernel_rfl) (by kernel_rfl) (by kernel_rfl) (fun _ _ _ h => h) (Or.inl ⟨by kernel_rfl, fun w' hS' => by clear hS'; go_simp⟩) hS ?_
  refine wpAnyH_take (i := 10) (v := .bool false) rfl (by kernel_rfl) (by kernel_rfl) (by kernel_rfl) (fun _ _ _ h => h) (Or.inl ⟨by kernel_rfl, fun w' hS' => by clear hS'; go_simp⟩) hS ?_
  refine wpAnyH_take (i := 11) (v := .int .i64 0) rfl (by kernel_rfl) (by kernel_rfl) (by kernel_rfl) (fun _ _ _ h => h) (Or.inl ⟨by kernel_rfl, fun w' hS' => by clear hS'; go_simp⟩) hS ?_
  refine wpAnyH_take (i := 12) (v := .bool false) rfl (by kernel_rfl) (by kernel_rfl) (by kernel_rfl) (fun _ _ _ h => h) (Or.inl ⟨by kernel_rfl, fun w' hS' => by clear hS'; go_simp⟩) hS ?_
  refine wpAnyH_done (by kernel_rfl) ?_ _
  clear hS
  go_wp2
  go_ret2
  exact ⟨rfl, hb2'⟩

theorem of_ok (v vr : Value) (n : Nat) (H : Pm → Prop) (TT : List (Pm × List Int)) (N : List (List Nat)) (x : Pm) (w : World) (h : TabAt w v n H TT N) (hx : Fixes (fun b => n ≤ b) x) (hI : Ints w vr (cut n x)) :
    Calls Try.prog 37 #[v, vr] w fun e w' => e = .returned (.tuple #[.int .i64 (((ofP H TT x).1 : Nat) : Int), .int .i64 (ofP H TT x).2]) ∧ Below w.heap.size w w' := by
  unfold ofP
  by_cases hcx : cix H TT x < TT.length
  · rw [if_pos hcx]; exact of_in v vr n H TT N x w h hx hI hcx
  · rw [if_neg hcx]; exact of_out v vr n H TT N x w h hx hI hcx

end Go.Proofs.Ytimfoggjocajiaa

/- Plain: Lagrange over the parts that were found; what leads there and back; what a part's word says. -/
namespace Go.Proofs.Ytimfoggjocajiaa

theorem PartOk.cix {H : Pm → Prop} {L : List (Int × Pm)} (hH : Sub H) {T : List (Pm × List Int)} (h : PartOk H L T) {i : Nat} {d : Pm × List Int} {x : Pm} (hi : T[i]? = some d) (hx : H (x * d.1⁻¹)) : cix H T x = i := by
  have hlt : Go.Proofs.Ytimfoggjocajiaa.cix H T x < T.length := by
    rcases Nat.lt_or_ge (Go.Proofs.Ytimfoggjocajiaa.cix H T x) T.length with h' | h'
    · exact h'
    · exact absurd hx (cix_none (by omega) d (List.mem_of_getElem? hi))
  obtain ⟨d', h1, h2⟩ := cix_at hlt
  exact h.one hH h1 hi h2 hx

/-- LAGRANGE. -/
theorem parts_size {G H : Pm → Prop} (hG : Sub G) (hH : Sub H) (hs : ∀ x, H x → G x) {n : Nat} (hn : n ≤ 12) (hf : ∀ x, G x → Fixes (fun b => n ≤ b) x) {L : List (Int × Pm)} (hL : ∀ x, Gen (fun x => ∃ l, l ∈ L ∧ l.2 = x) x ↔ G x) {i : Nat} {T : List (Pm × List Int)} {N : List (List Nat)} (h : RunC H L i T N) (hi : T.length ≤ i) : T.length * sz H n = sz G n := by
  obtain ⟨M, m1, m2, m3⟩ := sz_list hH hn (fun x hx => hf x (hs x hx))
  have hO := h.ok hH
  have hat : ∀ k, k ∈ List.range T.length → ∃ d, T[k]? = some d := fun k hk => ⟨_, List.getElem?_eq_getElem (List.mem_range.1 hk)⟩
  have hgen : ∀ (k : Nat) (d : Pm × List Int), T[k]? = some d → G d.1 := fun k d hd => (hL _).1 (hO.ok.gen d (List.mem_of_getElem? hd))
  have hlen := flat_lenK (fun k => M.map (fun y => y * (T.getD k (1, [])).1)) M.length (List.range T.length) (fun k _ => by rw [List.length_map])
  rw [List.length_range] at hlen
  rw [← m3, ← hlen]
  refine sz_is hG hn hf ?_ (fun x => ?_)
  · refine nodup_flatK _ (fun x => cix H T x) _ List.nodup_range (fun k _ => nodup_mapI _ (fun a b e => ?_) _ m1) (fun k hk x hx => ?_)
    · have e' : a * (T.getD k (1, [])).1 = b * (T.getD k (1, [])).1 := e
      have := congrArg (fun z => z * (T.getD k (1, [])).1⁻¹) e'
      simpa only [Pm.mul_assoc, Pm.mul_inv, Pm.mul_one] using this
    · obtain ⟨d, hd⟩ := hat k hk
      obtain ⟨y, hy, rfl⟩ := List.mem_map.1 hx
      have e : T.getD k (1, []) = d := by rw [List.getD, hd]; rfl
      refine hO.ok.cix hH hd ?_
      rw [e, Pm.mul_assoc, Pm.mul_inv, Pm.mul_one]
      exact (m2 y).1 hy
  · rw [List.mem_flatMap]
    constructor
    · rintro ⟨k, hk, hx⟩
      obtain ⟨d, hd⟩ := hat k hk
      obtain ⟨y, hy, rfl⟩ := List.mem_map.1 hx
      have e : T.getD k (1, []) = d := by rw [List.getD, hd]; rfl
      rw [e]
      exact hG.mul (hs _ ((m2 y).1 hy)) (hgen k d hd)
    · intro hx
      obtain ⟨k, d, hd, hk⟩ := h.all hH hi ((hL x).2 hx)
      refine ⟨k, List.mem_range.2 (List.getElem?_eq_some_iff.1 hd).1, List.mem_map.2 ⟨_, (m2 _).2 hk, ?_⟩⟩
      have e : T.getD k (1, []) = d := by rw [List.getD, hd]; rfl
      rw [e, Pm.mul_assoc, Pm.inv_mul, Pm.mul_one]

/-- A line leads as a letter says. -/
theorem RunC.leads {H : Pm → Prop} {L : List (Int × Pm)} (hH : Sub H) {i : Nat} {T : List (Pm × List Int)} {N : List (List Nat)} (h : RunC H L i T N) {k : Nat} {d : Pm × List Int} {ln : List Nat} (hk : T[k]? = some d) (hn : N[k]? = some ln) : ln.length = L.length ∧ ∀ (j : Nat) (l : Int × Pm), L[j]? = some l → ∃ (m : Nat) (c : Pm × List Int), ln[j]? = some m ∧ T[m]? = some c ∧ H (d.1 * l.2 * c.1⁻¹) := by
  have hO := h.ok hH
  have hki : k < i := by rw [← hO.len]; exact (List.getElem?_eq_some_iff.1 hn).1
  obtain ⟨e, ln', h1, h2, h3⟩ := hO.line k hki
  rw [hk] at h1
  rw [hn] at h2
  have e1 := Option.some.inj h1
  have e2 := Option.some.inj h2
  subst e1
  subst e2
  exact ⟨h3.1, fun j l hl => h3.2 j l (List.getElem?_eq_some_iff.1 hl).1 hl⟩

/-- There and back. -/
theorem RunC.back {H : Pm → Prop} {L : List (Int × Pm)} (hH : Sub H) {i : Nat} {T : List (Pm × List Int)} {N : List (List Nat)} (h : RunC H L i T N) {k m j j' : Nat} {d : Pm × List Int} {ln ln' : List Nat} {l l' : Int × Pm} (hk : T[k]? = some d) (hn : N[k]? = some ln) (hl : L[j]? = some l) (hl' : L[j']? = some l') (hi : l'.2 = l.2⁻¹) (hm : ln[j]? = some m) (hn' : N[m]? = some ln') : ln'[j']? = some k := by
  obtain ⟨m', c, h1, h2, h3⟩ := (h.leads hH hk hn).2 j l hl
  rw [hm] at h1
  have e1 := Option.some.inj h1
  subst e1
  obtain ⟨k', c', h4, h5, h6⟩ := (h.leads hH h2 hn').2 j' l' hl'
  rw [h4]
  have h7 : H (c.1 * l'.2 * d.1⁻¹) := by
    have := hH.inv h3
    rw [Pm.inv_prod, Pm.inv_prod, Pm.inv_inv, ← Pm.mul_assoc] at this
    rw [hi]; exact this
  rw [(h.ok hH).ok.one hH h5 hk h6 h7]

/-- A part's word says its row. -/
theorem Wdl.said {gs : List Pm} {wd : List Int} {x : Pm} (h : Wdl (glet 0 gs) wd x) : say gs wd 1 = some x := by
  induction h with
  | nil => rfl
  | @snoc wd x l _ hl ih =>
    rw [say_app, ih]
    show (lett gs l.1).elim none (fun y => say gs [] (x * y)) = _
    rw [glet_lett hl]
    rfl

/-- What TopCoset asks of the lines. -/
theorem RunC.cos {H : Pm → Prop} {gss : List (List Int)} (hH : Sub H) {T : List (Pm × List Int)} {N : List (List Nat)} (h : RunC H (letters 0 gss) T.length T N) {i : Nat} (hi : i < T.length) : ∃ ln, N[i]? = some ln ∧ ln.length = 2 * gss.length ∧ ∀ k, k < gss.length → ∃ m ln', ln[2 * k]? = some m ∧ m < T.length ∧ N[m]? = some ln' ∧ ln'.length = 2 * gss.length ∧ ln'[2 * k + 1]? = some i := by
  have hO := h.ok hH
  have line : ∀ j, j < T.length → ∃ d ln, T[j]? = some d ∧ N[j]? = some ln ∧ ln.length = 2 * gss.length := fun j hj => by
    obtain ⟨d, ln, h1, h2, h3⟩ := hO.line j hj
    exact ⟨d, ln, h1, h2, by rw [h3.1, letters_length]⟩
  obtain ⟨d, ln, h1, h2, h3⟩ := line i hi
  refine ⟨ln, h2, h3, fun k hk => ?_⟩
  obtain ⟨x, hx⟩ : ∃ x, gss[k]? = some x := ⟨_, List.getElem?_eq_getElem hk⟩
  obtain ⟨m, c, h4, h5, h6⟩ := (h.leads hH h1 h2).2 _ _ (letters_even (k := 0) hx)
  have hm := (List.getElem?_eq_some_iff.1 h5).1
  obtain ⟨_, ln', _, h8, h9⟩ := line m hm
  exact ⟨m, ln', h4, hm, h8, h9, h.back hH h1 h2 (letters_even (k := 0) hx) (letters_odd (k := 0) hx) rfl h4 h8⟩

theorem RunC.word {H : Pm → Prop} {gss : List (List Int)} (hH : Sub H) {T : List (Pm × List Int)} {N : List (List Nat)} (h : RunC H (letters 0 gss) T.length T N) {i : Nat} {e : Pm × List Int} (hi : T[i]? = some e) : say (gss.map pad) e.2 1 = some e.1 ∧ cix H T e.1 = i ∧ e.2.length < T.length := by
  have hO := h.ok hH
  have hm := List.mem_of_getElem? hi
  refine ⟨?_, hO.ok.cix hH hi (by rw [Pm.mul_inv]; exact hH.one), hO.ok.short e hm⟩
  have := hO.ok.said e hm
  rw [← letters_glet] at this
  exact this.said

end Go.Proofs.Ytimfoggjocajiaa

/- CosetSays: refusals; groups that are too great. -/
namespace Go.Proofs.Ytimfoggjocajiaa
set_option linter.unusedVariables false
open Go.RowKit

/-- Rows that came in and others behind them. -/
theorem gens_both {w w' : World} {v' : Value} {vs us : List Value} {gss sss : List (List Int)} (hl : vs.length = gss.length) (he : ∀ j, j < gss.length → Ints w (vs.getD j undef) (gss.getD j [])) (hl2 : us.length = sss.length) (he2 : ∀ j, j < sss.length → Ints w (us.getD j undef) (sss.getD j [])) (hb : Below w.heap.size w w') (hv : Vals w' v' (vs ++ us)) : IntsAll w' v' (gss ++ sss) :=
  ⟨vs ++ us, hv, by simp [hl, hl2], fun j hj => (ints_join hl he he2 j hj).below hb⟩

set_option maxRecDepth 20000 in
set_option maxHeartbeats 2000000 in
theorem cosetSays_no1 (n : Int) (v v2 v3 : Value) (c : Int) (w : World) (hc : c ≠ 0)
    (hk : Calls Try.prog 16 #[.int .i64 n, v] w fun e w' => e = .returned (.int .i64 c) ∧ Below w.heap.size w w')
    (hm : ∀ w', Below w.heap.size w w' → Calls Try.prog 15 #[.int .i64 n, v] w' fun e w'' => e = .returned (.int .i64 c) ∧ w' = w'') :
    Calls Try.prog 5 #[.int .i64 n, v, v2, v3] w fun e w' => Told w e w' := by
  have HMk := hide (cmake_no1 n v v2 c w hc hk)
  have HM := hide hm
  have q2 := run_tab_nil
  have hne : (c == 0) = false := beq_eq_false_iff_ne.2 hc
  have hne2 : (c != 0) = true := by rw [bne_iff_ne]; exact hc
  clear hk hm hc
  go_enter Try.func5, Try.ntmps5
  go_wp2_with fail
  refine HMk.out.mono ?_
  rintro ex w1 ⟨rfl, hb1⟩
  go_wp2_with fail
  refine (HM.out w1 hb1).mono ?_
  rintro ex w2 ⟨rfl, rfl⟩
  go_wp2
  go_ret
  exact ⟨rfl, hb1⟩

set_option maxRecDepth 20000 in
set_option maxHeartbeats 2000000 in
theorem cosetSays_no2 (n : Nat) (v v2 v3 : Value) (gss : List (List Int)) (c : Int) (w : World) (hA : IntsAll w v gss) (hR : RowsN n gss) (h1 : 1 ≤ n) (h12 : n ≤ 12) (h8 : gss.length ≤ 8) (hc : c ≠ 0)
    (hk : ∀ w', Below w.heap.size w w' → Calls Try.prog 16 #[.int .i64 n, v2] w' fun e w'' => e = .returned (.int .i64 c) ∧ Below w'.heap.size w' w'')
    (hm : ∀ w', Below w.heap.size w w' → Calls Try.prog 15 #[.int .i64 n, v2] w' fun e w'' => e = .returned (.int .i64 c) ∧ w' = w'') :
    Calls Try.prog 5 #[.int .i64 n, v, v2, v3] w fun e w' => Told w e w' := by
  have HMk := hide (cmake_no2 n v v2 gss c w hA hR h1 h12 h8 hc hk)
  have hgz := gchk_rows h1 h12 hR
  have HM1 : Hid (∀ w', Below w.heap.size w w' → Calls Try.prog 15 #[.int .i64 n, v] w' fun e w'' => e = .returned (.int .i64 0) ∧ w' = w'') := fun w' hb => by have := gensMay_ok n v gss w' (hA.below hb) h1 h12 h8; rwa [hgz] at this
  have HM := hide hm
  have q2 := run_tab_nil
  have hne : (c == 0) = false := beq_eq_false_iff_ne.2 hc
  have hne2 : (c != 0) = true := by rw [bne_iff_ne]; exact hc
  clear hk hm hc hA hR hgz
  go_enter Try.func5, Try.ntmps5
  go_wp2_with fail
  refine HMk.out.mono ?_
  rintro ex w1 ⟨rfl, hb1⟩
  go_wp2_with fail
  refine (HM1.out w1 hb1).mono ?_
  rintro ex w2 ⟨rfl, rfl⟩
  go_wp2_with fail
  refine (HM.out w1 hb1).mono ?_
  rintro ex w2 ⟨rfl, rfl⟩
  go_wp2
  go_ret
  exact ⟨rfl, hb1⟩

/-- Sizes, and what the law reckons with them. -/
structure CSz (n : Nat) (gss sss : List (List Int)) (zg zs q : Nat) : Prop where
  g : sz (Gen (fun y => y ∈ gss.map pad)) n = zg
  s : sz (Gen (fun y => y ∈ sss.map pad)) n = zs
  pos : 1 ≤ zs
  quo : (zg : Int).tdiv (zs : Int) = (q : Int)
  ge : q = zg / zs
  le : zg ≤ 479001600
  les : zs ≤ 479001600

theorem CSz.of {n : Nat} {gss sss : List (List Int)} (h12 : n ≤ 12) (h1 : 1 ≤ n) (hR : RowsN n gss) (hRs : RowsN n sss) : CSz n gss sss (sz (Gen (fun y => y ∈ gss.map pad)) n) (sz (Gen (fun y => y ∈ sss.map pad)) n) (sz (Gen (fun y => y ∈ gss.map pad)) n / sz (Gen (fun y => y ∈ sss.map pad)) n) := by
  have hzle : ∀ (l : List (List Int)), RowsN n l → sz (Gen (fun y => y ∈ l.map pad)) n ≤ 479001600 := fun l hl => by
    have hd := sz_fct (Gen.sub (fun y => y ∈ l.map pad)) h12 (fun x hx => gens_fix h12 hl hx)
    have hf : fct n ≤ 479001600 ∧ 0 < fct n := by
      rcases (show n = 1 ∨ n = 2 ∨ n = 3 ∨ n = 4 ∨ n = 5 ∨ n = 6 ∨ n = 7 ∨ n = 8 ∨ n = 9 ∨ n = 10 ∨ n = 11 ∨ n = 12 by omega) with rfl | rfl | rfl | rfl | rfl | rfl | rfl | rfl | rfl | rfl | rfl | rfl <;> decide
    exact Nat.le_trans (Nat.le_of_dvd hf.2 hd) hf.1
  refine ⟨rfl, rfl, ?_, by rw [← Int.ofNat_tdiv], rfl, hzle gss hR, hzle sss hRs⟩
  obtain ⟨L, _, l2, l3⟩ := sz_list (Gen.sub (fun y => y ∈ sss.map pad)) h12 (fun x hx => gens_fix h12 hRs hx)
  rw [← l3]; exact List.length_pos_of_mem ((l2 1).2 Gen.one)

set_option maxRecDepth 20000 in
set_option maxHeartbeats 8000000 in
theorem cosetSays_member (n : Nat) (v v2 v3 : Value) (gss sss : List (List Int)) (xs : List Int) (zg zs q : Nat) (w : World) (hA : IntsAll w v gss) (hS : IntsAll w v2 sss) (hI : Ints w v3 xs) (hR : RowsN n gss) (hRs : RowsN n sss) (h1 : 1 ≤ n) (h12 : n ≤ 12) (h8 : gss.length ≤ 8) (h8s : sss.length ≤ 8) (hz : CSz n gss sss zg zs q) (hm : ∃ x, x ∈ sss ∧ ¬ Gen (fun y => y ∈ gss.map pad) (pad x)) :
    Calls Try.prog 5 #[.int .i64 n, v, v2, v3] w fun e w' => Told w e w' := by
  obtain ⟨i0, hi, hz0, hz1, hz2⟩ := info_parts Try.info23
  have q1 := run_tab_ne
  have q2 := run_tab_nil
  have HZ := hide hz
  obtain ⟨ezg, ezs, hzp, hq, hqe, hle, hles⟩ := hz
  have hqle : q ≤ 479001600 := by rw [hqe]; exact Nat.le_trans (Nat.div_le_self _ _) hle
  have HMk := hide (cmake_rest n v v2 gss sss 14 w hA hS hR hRs h1 h12 h8 h8s (Or.inl ⟨rfl, hm⟩))
  have HTell := hide (sizes_tell h12 hR hRs)
  rw [ezg] at HTell
  have HRN : Hid (RowsN n (gss ++ sss)) := fun y hy => by
    rcases List.mem_append.1 hy with hy | hy
    · exact hR y hy
    · exact hRs y hy
  have hgz := gchk_rows h1 h12 hR
  have hsz := gchk_rows h1 h12 hRs
  have HM1 : Hid (∀ w', Below w.heap.size w w' → Calls Try.prog 15 #[.int .i64 n, v] w' fun e w'' => e = .returned (.int .i64 0) ∧ w' = w'') := fun w' hb => by have := gensMay_ok n v gss w' (hA.below hb) h1 h12 h8; rwa [hgz] at this
  have HM2 : Hid (∀ w', Below w.heap.size w w' → Calls Try.prog 15 #[.int .i64 n, v2] w' fun e w'' => e = .returned (.int .i64 0) ∧ w' = w'') := fun w' hb => by have := gensMay_ok n v2 sss w' (hS.below hb) h1 h12 h8s; rwa [hsz] at this
  have HSz1 : Hid (∀ w', Below w.heap.size w w' → Calls Try.prog 17 #[.int .i64 n, v] w' fun e w'' => e = .returned (.int .i64 (zg : Int)) ∧ Below w'.heap.size w' w'') := fun w' hb => by have := sizes_ok n v gss w' (hA.below hb) hR h1 h12 (by omega); rwa [ezg] at this
  have HSz2 : Hid (∀ w', Below w.heap.size w w' → Calls Try.prog 17 #[.int .i64 n, v2] w' fun e w'' => e = .returned (.int .i64 (zs : Int)) ∧ Below w'.heap.size w' w'') := fun w' hb => by have := sizes_ok n v2 sss w' (hS.below hb) hRs h1 h12 (by omega); rwa [ezs] at this
  have HA := hide hA
  have HS := hide hS
  clear hA hS hR hRs hgz hsz ezg ezs hqe 
  go_enter Try.func5, Try.ntmps5
  go_wp2_with fail
  refine HMk.out.mono ?_
  rintro ex w1 ⟨rfl, hb1⟩
  go_wp2_with fail
  refine (HM1.out w1 hb1).mono ?_
  rintro ex w2 ⟨rfl, rfl⟩
  go_wp2_with fail
  refine (HM2.out w1 hb1).mono ?_
  rintro ex w2 ⟨rfl, rfl⟩
  go_wp2_with fail
  refine (HSz1.out w1 hb1).mono ?_
  rintro ex w3 ⟨rfl, hb3⟩
  have hB3 := hb1.trans (hb3.mono hb1.size)
  go_wp2_with fail
  refine (HSz2.out w3 hB3).mono ?_
  rintro ex w4 ⟨rfl, hb4⟩
  have hB4 := hB3.trans (hb4.mono hB3.size)
  obtain ⟨vs, hV, hvl, hve⟩ := HA.out.below hB4
  obtain ⟨us, hU, hul, hue⟩ := HS.out.below hB4
  have HVE := hide hve
  have HVL := hide hvl
  have HUE := hide hue
  have HUL := hide hul
  have hvl8 : vs.length ≤ 8 := by omega
  have hul8 : us.length ≤ 8 := by omega
  have hs4 := hB4.size
  have hbE : Below w4.heap.size w4 (w4.alloc (.cells #[] 23)) := (Below.refl _ _).alloc (Nat.le_refl _) _
  have HVa := hide (hV.below hbE)
  have HCE := hide (vals_cells hvl hve)
  have HUa : Hid (∀ W, Below w4.heap.size w4 W → Vals W v2 us) := fun W hW => hU.below hW
  have HCU := hide (vals_cells hul hue)
  have HE5 : Hid ((w4.alloc (.cells #[] 23)).ownsRow w4.heap.size 23 1 (.slice (some ⟨w4.heap.size, 0, none⟩) 0 0) 0 []) := World.ownsRow_made w4 #[] 0 (Nat.le_refl _) (by decide) (by simp)
  have HMZ : Hid (w4.heap.size ≤ (w4.alloc (.cells #[] 23)).heap.size) := by unfold Hid; simp
  have HN1 : Hid (0 + vs.length ≤ maxLen) := by unfold Hid maxLen; omega
  have HN2 : Hid ((0 + vs.length) * 24 ≤ 140737488355328) := by unfold Hid; omega
  have HB4 := hide hB4
  clear hb1 hb3 hb4 hB3 hV hU hve hvl hue hul hbE hB4 HMk HM1 HM2 HSz1 HSz2
  go_wp2_with (at_builtin; refine wpList_append_want (by rfl) _ _ 22 rfl w4.heap.size 23 i0 (.slice none 0 0) 24 Try.underlying22 hi hz0 hz1 hz2 rfl _ _ _ rfl HE5.out v vs rfl HVa.out HCE.out HN1.out HN2.out HMZ.out ?_)
  intro v6 w6 hown6 hg6
  have hown6 : w6.ownsRow w4.heap.size 23 1 v6 vs.length vs := by simpa using hown6
  have hb6 : Below w4.heap.size w4 w6 := ((Below.refl _ _).alloc (Nat.le_refl _) _).grown hg6 (by simp) (fun k hk => by have e' : w4.heap.size = k := Option.some.inj hk; omega)
  have HO6 := hide hown6
  have HU6 := hide (HUa.out w6 hb6)
  have HN3 : Hid (vs.length + us.length ≤ maxLen) := by unfold Hid maxLen; omega
  have HN4 : Hid ((vs.length + us.length) * 24 ≤ 140737488355328) := by unfold Hid; omega
  have HN5 : Hid (w4.heap.size ≤ w6.heap.size) := hb6.size
  have HB6 := hide hb6
  clear hown6 hg6 hb6 HE5 HVa HCE HUa HN1 HN2 HMZ
  go_wp2_with (at_builtin; refine wpList_append_want (by rfl) _ _ 22 rfl w4.heap.size 23 i0 (.slice none 0 0) 24 Try.underlying22 hi hz0 hz1 hz2 rfl _ _ _ rfl HO6.out v2 us rfl HU6.out HCU.out HN3.out HN4.out HN5.out ?_)
  intro v7 w7 hown7 hg7
  have hb7 : Below w4.heap.size w4 w7 := HB6.out.grown hg7 HB6.out.size (fun k hk => (HO6.out.lt k hk).1)
  have hown7 : w7.ownsRow w4.heap.size 23 1 v7 (vs ++ us).length (vs ++ us) := by rw [List.length_append]; exact hown7
  have hA7 : IntsAll w7 v7 (gss ++ sss) := gens_both HVL.out HVE.out HUL.out HUE.out hb7 (Vals.own hown7)
  have HSz := hide (sizes_ok n v7 (gss ++ sss) w7 hA7 HRN.out h1 h12 (by rw [List.length_append]; omega))
  have HB7 := hide (HB4.out.trans (hb7.mono HB4.out.size))
  have HB47 := hide hb7
  clear hown7 hg7 hb7 hA7 HO6 HU6 HB6 HB4 HRN HCU HN3 HN4 HN5 HVE HVL HUE HUL
  generalize hsy : sz (Gen (fun y => y ∈ (gss ++ sss).map pad)) n = y at *
  clear hsy
  have hyz : ¬ (y : Int) = (zg : Int) := fun e => by
    obtain ⟨x, hx, hn⟩ := hm
    exact hn (HTell.out.1 (by omega) _ (List.mem_map.2 ⟨x, hx, rfl⟩))
  clear hm
  go_wp2_with fail
  refine HSz.out.mono ?_
  rintro ex w8 ⟨rfl, hb8⟩
  have HB8 := hide (HB7.out.trans (hb8.mono HB7.out.size))
  clear hb8 HSz HB7
  go_wp2
  go_ret
  exact ⟨rfl, HB8.out⟩

set_option maxRecDepth 20000 in
set_option maxHeartbeats 8000000 in
theorem cosetSays_limit1 (n : Nat) (v v2 v3 : Value) (gss sss : List (List Int)) (xs : List Int) (zg zs q : Nat) (w : World) (hA : IntsAll w v gss) (hS : IntsAll w v2 sss) (hI : Ints w v3 xs) (hR : RowsN n gss) (hRs : RowsN n sss) (h1 : 1 ≤ n) (h12 : n ≤ 12) (h8 : gss.length ≤ 8) (h8s : sss.length ≤ 8) (hz : CSz n gss sss zg zs q) (hm : ∀ x, x ∈ sss → Gen (fun y => y ∈ gss.map pad) (pad x)) (hb : 1000 < zs) :
    Calls Try.prog 5 #[.int .i64 n, v, v2, v3] w fun e w' => Told w e w' := by
  obtain ⟨i0, hi, hz0, hz1, hz2⟩ := info_parts Try.info23
  have q1 := run_tab_ne
  have q2 := run_tab_nil
  have HZ := hide hz
  obtain ⟨ezg, ezs, hzp, hq, hqe, hle, hles⟩ := hz
  have hqle : q ≤ 479001600 := by rw [hqe]; exact Nat.le_trans (Nat.div_le_self _ _) hle
  have HMk := hide (cmake_rest n v v2 gss sss 3 w hA hS hR hRs h1 h12 h8 h8s (Or.inr ⟨rfl, hm, by rw [ezg, ezs]; omega⟩))
  have HTell := hide (sizes_tell h12 hR hRs)
  rw [ezg] at HTell
  have HRN : Hid (RowsN n (gss ++ sss)) := fun y hy => by
    rcases List.mem_append.1 hy with hy | hy
    · exact hR y hy
    · exact hRs y hy
  have hgz := gchk_rows h1 h12 hR
  have hsz := gchk_rows h1 h12 hRs
  have HM1 : Hid (∀ w', Below w.heap.size w w' → Calls Try.prog 15 #[.int .i64 n, v] w' fun e w'' => e = .returned (.int .i64 0) ∧ w' = w'') := fun w' hb => by have := gensMay_ok n v gss w' (hA.below hb) h1 h12 h8; rwa [hgz] at this
  have HM2 : Hid (∀ w', Below w.heap.size w w' → Calls Try.prog 15 #[.int .i64 n, v2] w' fun e w'' => e = .returned (.int .i64 0) ∧ w' = w'') := fun w' hb => by have := gensMay_ok n v2 sss w' (hS.below hb) h1 h12 h8s; rwa [hsz] at this
  have HSz1 : Hid (∀ w', Below w.heap.size w w' → Calls Try.prog 17 #[.int .i64 n, v] w' fun e w'' => e = .returned (.int .i64 (zg : Int)) ∧ Below w'.heap.size w' w'') := fun w' hb => by have := sizes_ok n v gss w' (hA.below hb) hR h1 h12 (by omega); rwa [ezg] at this
  have HSz2 : Hid (∀ w', Below w.heap.size w w' → Calls Try.prog 17 #[.int .i64 n, v2] w' fun e w'' => e = .returned (.int .i64 (zs : Int)) ∧ Below w'.heap.size w' w'') := fun w' hb => by have := sizes_ok n v2 sss w' (hS.below hb) hRs h1 h12 (by omega); rwa [ezs] at this
  have HA := hide hA
  have HS := hide hS
  clear hA hS hR hRs hgz hsz ezg ezs hqe 
  go_enter Try.func5, Try.ntmps5
  go_wp2_with fail
  refine HMk.out.mono ?_
  rintro ex w1 ⟨rfl, hb1⟩
  go_wp2_with fail
  refine (HM1.out w1 hb1).mono ?_
  rintro ex w2 ⟨rfl, rfl⟩
  go_wp2_with fail
  refine (HM2.out w1 hb1).mono ?_
  rintro ex w2 ⟨rfl, rfl⟩
  go_wp2_with fail
  refine (HSz1.out w1 hb1).mono ?_
  rintro ex w3 ⟨rfl, hb3⟩
  have hB3 := hb1.trans (hb3.mono hb1.size)
  go_wp2_with fail
  refine (HSz2.out w3 hB3).mono ?_
  rintro ex w4 ⟨rfl, hb4⟩
  have hB4 := hB3.trans (hb4.mono hB3.size)
  obtain ⟨vs, hV, hvl, hve⟩ := HA.out.below hB4
  obtain ⟨us, hU, hul, hue⟩ := HS.out.below hB4
  have HVE := hide hve
  have HVL := hide hvl
  have HUE := hide hue
  have HUL := hide hul
  have hvl8 : vs.length ≤ 8 := by omega
  have hul8 : us.length ≤ 8 := by omega
  have hs4 := hB4.size
  have hbE : Below w4.heap.size w4 (w4.alloc (.cells #[] 23)) := (Below.refl _ _).alloc (Nat.le_refl _) _
  have HVa := hide (hV.below hbE)
  have HCE := hide (vals_cells hvl hve)
  have HUa : Hid (∀ W, Below w4.heap.size w4 W → Vals W v2 us) := fun W hW => hU.below hW
  have HCU := hide (vals_cells hul hue)
  have HE5 : Hid ((w4.alloc (.cells #[] 23)).ownsRow w4.heap.size 23 1 (.slice (some ⟨w4.heap.size, 0, none⟩) 0 0) 0 []) := World.ownsRow_made w4 #[] 0 (Nat.le_refl _) (by decide) (by simp)
  have HMZ : Hid (w4.heap.size ≤ (w4.alloc (.cells #[] 23)).heap.size) := by unfold Hid; simp
  have HN1 : Hid (0 + vs.length ≤ maxLen) := by unfold Hid maxLen; omega
  have HN2 : Hid ((0 + vs.length) * 24 ≤ 140737488355328) := by unfold Hid; omega
  have HB4 := hide hB4
  clear hb1 hb3 hb4 hB3 hV hU hve hvl hue hul hbE hB4 HMk HM1 HM2 HSz1 HSz2
  go_wp2_with (at_builtin; refine wpList_append_want (by rfl) _ _ 22 rfl w4.heap.size 23 i0 (.slice none 0 0) 24 Try.underlying22 hi hz0 hz1 hz2 rfl _ _ _ rfl HE5.out v vs rfl HVa.out HCE.out HN1.out HN2.out HMZ.out ?_)
  intro v6 w6 hown6 hg6
  have hown6 : w6.ownsRow w4.heap.size 23 1 v6 vs.length vs := by simpa using hown6
  have hb6 : Below w4.heap.size w4 w6 := ((Below.refl _ _).alloc (Nat.le_refl _) _).grown hg6 (by simp) (fun k hk => by have e' : w4.heap.size = k := Option.some.inj hk; omega)
  have HO6 := hide hown6
  have HU6 := hide (HUa.out w6 hb6)
  have HN3 : Hid (vs.length + us.length ≤ maxLen) := by unfold Hid maxLen; omega
  have HN4 : Hid ((vs.length + us.length) * 24 ≤ 140737488355328) := by unfold Hid; omega
  have HN5 : Hid (w4.heap.size ≤ w6.heap.size) := hb6.size
  have HB6 := hide hb6
  clear hown6 hg6 hb6 HE5 HVa HCE HUa HN1 HN2 HMZ
  go_wp2_with (at_builtin; refine wpList_append_want (by rfl) _ _ 22 rfl w4.heap.size 23 i0 (.slice none 0 0) 24 Try.underlying22 hi hz0 hz1 hz2 rfl _ _ _ rfl HO6.out v2 us rfl HU6.out HCU.out HN3.out HN4.out HN5.out ?_)
  intro v7 w7 hown7 hg7
  have hb7 : Below w4.heap.size w4 w7 := HB6.out.grown hg7 HB6.out.size (fun k hk => (HO6.out.lt k hk).1)
  have hown7 : w7.ownsRow w4.heap.size 23 1 v7 (vs ++ us).length (vs ++ us) := by rw [List.length_append]; exact hown7
  have hA7 : IntsAll w7 v7 (gss ++ sss) := gens_both HVL.out HVE.out HUL.out HUE.out hb7 (Vals.own hown7)
  have HSz := hide (sizes_ok n v7 (gss ++ sss) w7 hA7 HRN.out h1 h12 (by rw [List.length_append]; omega))
  have HB7 := hide (HB4.out.trans (hb7.mono HB4.out.size))
  have HB47 := hide hb7
  clear hown7 hg7 hb7 hA7 HO6 HU6 HB6 HB4 HRN HCU HN3 HN4 HN5 HVE HVL HUE HUL
  generalize hsy : sz (Gen (fun y => y ∈ (gss ++ sss).map pad)) n = y at *
  clear hsy
  obtain rfl : zg = y := (HTell.out.2 (fun u hu => by obtain ⟨x, hx, rfl⟩ := List.mem_map.1 hu; exact hm x hx)).symm
  clear hm
  have g1 : (1000 : Int) < (zs : Int) := by omega
  go_wp2_with fail
  refine HSz.out.mono ?_
  rintro ex w8 ⟨rfl, hb8⟩
  have HB8 := hide (HB7.out.trans (hb8.mono HB7.out.size))
  clear hb8 HSz HB7
  go_wp2
  go_ret
  exact ⟨rfl, HB8.out⟩

set_option maxRecDepth 20000 in
set_option maxHeartbeats 8000000 in
theorem cosetSays_limit2 (n : Nat) (v v2 v3 : Value) (gss sss : List (List Int)) (xs : List Int) (zg zs q : Nat) (w : World) (hA : IntsAll w v gss) (hS : IntsAll w v2 sss) (hI : Ints w v3 xs) (hR : RowsN n gss) (hRs : RowsN n sss) (h1 : 1 ≤ n) (h12 : n ≤ 12) (h8 : gss.length ≤ 8) (h8s : sss.length ≤ 8) (hz : CSz n gss sss zg zs q) (hm : ∀ x, x ∈ sss → Gen (fun y => y ∈ gss.map pad) (pad x)) (hb : zs ≤ 1000) (hb2 : 1000 * zs < zg) (hb3 : 1000 < q) :
    Calls Try.prog 5 #[.int .i64 n, v, v2, v3] w fun e w' => Told w e w' := by
  obtain ⟨i0, hi, hz0, hz1, hz2⟩ := info_parts Try.info23
  have q1 := run_tab_ne
  have q2 := run_tab_nil
  have HZ := hide hz
  obtain ⟨ezg, ezs, hzp, hq, hqe, hle, hles⟩ := hz
  have hqle : q ≤ 479001600 := by rw [hqe]; exact Nat.le_trans (Nat.div_le_self _ _) hle
  have HMk := hide (cmake_rest n v v2 gss sss 3 w hA hS hR hRs h1 h12 h8 h8s (Or.inr ⟨rfl, hm, by rw [ezg, ezs]; omega⟩))
  have HTell := hide (sizes_tell h12 hR hRs)
  rw [ezg] at HTell
  have HRN : Hid (RowsN n (gss ++ sss)) := fun y hy => by
    rcases List.mem_append.1 hy with hy | hy
    · exact hR y hy
    · exact hRs y hy
  have hgz := gchk_rows h1 h12 hR
  have hsz := gchk_rows h1 h12 hRs
  have HM1 : Hid (∀ w', Below w.heap.size w w' → Calls Try.prog 15 #[.int .i64 n, v] w' fun e w'' => e = .returned (.int .i64 0) ∧ w' = w'') := fun w' hb => by have := gensMay_ok n v gss w' (hA.below hb) h1 h12 h8; rwa [hgz] at this
  have HM2 : Hid (∀ w', Below w.heap.size w w' → Calls Try.prog 15 #[.int .i64 n, v2] w' fun e w'' => e = .returned (.int .i64 0) ∧ w' = w'') := fun w' hb => by have := gensMay_ok n v2 sss w' (hS.below hb) h1 h12 h8s; rwa [hsz] at this
  have HSz1 : Hid (∀ w', Below w.heap.size w w' → Calls Try.prog 17 #[.int .i64 n, v] w' fun e w'' => e = .returned (.int .i64 (zg : Int)) ∧ Below w'.heap.size w' w'') := fun w' hb => by have := sizes_ok n v gss w' (hA.below hb) hR h1 h12 (by omega); rwa [ezg] at this
  have HSz2 : Hid (∀ w', Below w.heap.size w w' → Calls Try.prog 17 #[.int .i64 n, v2] w' fun e w'' => e = .returned (.int .i64 (zs : Int)) ∧ Below w'.heap.size w' w'') := fun w' hb => by have := sizes_ok n v2 sss w' (hS.below hb) hRs h1 h12 (by omega); rwa [ezs] at this
  have HA := hide hA
  have HS := hide hS
  clear hA hS hR hRs hgz hsz ezg ezs hqe 
  go_enter Try.func5, Try.ntmps5
  go_wp2_with fail
  refine HMk.out.mono ?_
  rintro ex w1 ⟨rfl, hb1⟩
  go_wp2_with fail
  refine (HM1.out w1 hb1).mono ?_
  rintro ex w2 ⟨rfl, rfl⟩
  go_wp2_with fail
  refine (HM2.out w1 hb1).mono ?_
  rintro ex w2 ⟨rfl, rfl⟩
  go_wp2_with fail
  refine (HSz1.out w1 hb1).mono ?_
  rintro ex w3 ⟨rfl, hb3⟩
  have hB3 := hb1.trans (hb3.mono hb1.size)
  go_wp2_with fail
  refine (HSz2.out w3 hB3).mono ?_
  rintro ex w4 ⟨rfl, hb4⟩
  have hB4 := hB3.trans (hb4.mono hB3.size)
  obtain ⟨vs, hV, hvl, hve⟩ := HA.out.below hB4
  obtain ⟨us, hU, hul, hue⟩ := HS.out.below hB4
  have HVE := hide hve
  have HVL := hide hvl
  have HUE := hide hue
  have HUL := hide hul
  have hvl8 : vs.length ≤ 8 := by omega
  have hul8 : us.length ≤ 8 := by omega
  have hs4 := hB4.size
  have hbE : Below w4.heap.size w4 (w4.alloc (.cells #[] 23)) := (Below.refl _ _).alloc (Nat.le_refl _) _
  have HVa := hide (hV.below hbE)
  have HCE := hide (vals_cells hvl hve)
  have HUa : Hid (∀ W, Below w4.heap.size w4 W → Vals W v2 us) := fun W hW => hU.below hW
  have HCU := hide (vals_cells hul hue)
  have HE5 : Hid ((w4.alloc (.cells #[] 23)).ownsRow w4.heap.size 23 1 (.slice (some ⟨w4.heap.size, 0, none⟩) 0 0) 0 []) := World.ownsRow_made w4 #[] 0 (Nat.le_refl _) (by decide) (by simp)
  have HMZ : Hid (w4.heap.size ≤ (w4.alloc (.cells #[] 23)).heap.size) := by unfold Hid; simp
  have HN1 : Hid (0 + vs.length ≤ maxLen) := by unfold Hid maxLen; omega
  have HN2 : Hid ((0 + vs.length) * 24 ≤ 140737488355328) := by unfold Hid; omega
  have HB4 := hide hB4
  clear hb1 hb3 hb4 hB3 hV hU hve hvl hue hul hbE hB4 HMk HM1 HM2 HSz1 HSz2
  go_wp2_with (at_builtin; refine wpList_append_want (by rfl) _ _ 22 rfl w4.heap.size 23 i0 (.slice none 0 0) 24 Try.underlying22 hi hz0 hz1 hz2 rfl _ _ _ rfl HE5.out v vs rfl HVa.out HCE.out HN1.out HN2.out HMZ.out ?_)
  intro v6 w6 hown6 hg6
  have hown6 : w6.ownsRow w4.heap.size 23 1 v6 vs.length vs := by simpa using hown6
  have hb6 : Below w4.heap.size w4 w6 := ((Below.refl _ _).alloc (Nat.le_refl _) _).grown hg6 (by simp) (fun k hk => by have e' : w4.heap.size = k := Option.some.inj hk; omega)
  have HO6 := hide hown6
  have HU6 := hide (HUa.out w6 hb6)
  have HN3 : Hid (vs.length + us.length ≤ maxLen) := by unfold Hid maxLen; omega
  have HN4 : Hid ((vs.length + us.length) * 24 ≤ 140737488355328) := by unfold Hid; omega
  have HN5 : Hid (w4.heap.size ≤ w6.heap.size) := hb6.size
  have HB6 := hide hb6
  clear hown6 hg6 hb6 HE5 HVa HCE HUa HN1 HN2 HMZ
  go_wp2_with (at_builtin; refine wpList_append_want (by rfl) _ _ 22 rfl w4.heap.size 23 i0 (.slice none 0 0) 24 Try.underlying22 hi hz0 hz1 hz2 rfl _ _ _ rfl HO6.out v2 us rfl HU6.out HCU.out HN3.out HN4.out HN5.out ?_)
  intro v7 w7 hown7 hg7
  have hb7 : Below w4.heap.size w4 w7 := HB6.out.grown hg7 HB6.out.size (fun k hk => (HO6.out.lt k hk).1)
  have hown7 : w7.ownsRow w4.heap.size 23 1 v7 (vs ++ us).length (vs ++ us) := by rw [List.length_append]; exact hown7
  have hA7 : IntsAll w7 v7 (gss ++ sss) := gens_both HVL.out HVE.out HUL.out HUE.out hb7 (Vals.own hown7)
  have HSz := hide (sizes_ok n v7 (gss ++ sss) w7 hA7 HRN.out h1 h12 (by rw [List.length_append]; omega))
  have HB7 := hide (HB4.out.trans (hb7.mono HB4.out.size))
  have HB47 := hide hb7
  clear hown7 hg7 hb7 hA7 HO6 HU6 HB6 HB4 HRN HCU HN3 HN4 HN5 HVE HVL HUE HUL
  generalize hsy : sz (Gen (fun y => y ∈ (gss ++ sss).map pad)) n = y at *
  clear hsy
  obtain rfl : zg = y := (HTell.out.2 (fun u hu => by obtain ⟨x, hx, rfl⟩ := List.mem_map.1 hu; exact hm x hx)).symm
  clear hm
  have g1 : decide ((1000 : Int) < (zs : Int)) = false := decide_eq_false (by omega)
  have g2 : (1000 : Int) < (q : Int) := by omega
  go_wp2_with fail
  refine HSz.out.mono ?_
  rintro ex w8 ⟨rfl, hb8⟩
  have HB8 := hide (HB7.out.trans (hb8.mono HB7.out.size))
  clear hb8 HSz HB7
  go_wp2
  go_ret
  exact ⟨rfl, HB8.out⟩

set_option maxRecDepth 20000 in
set_option maxHeartbeats 8000000 in
theorem cosetSays_great (n : Nat) (v v2 v3 : Value) (gss sss : List (List Int)) (xs : List Int) (zg zs q : Nat) (w : World) (hA : IntsAll w v gss) (hS : IntsAll w v2 sss) (hI : Ints w v3 xs) (hR : RowsN n gss) (hRs : RowsN n sss) (h1 : 1 ≤ n) (h12 : n ≤ 12) (h8 : gss.length ≤ 8) (h8s : sss.length ≤ 8) (hz : CSz n gss sss zg zs q) (hm : ∀ x, x ∈ sss → Gen (fun y => y ∈ gss.map pad) (pad x)) (hb : zs ≤ 1000) (hb2 : zg ≤ 1000 * zs) (hb3 : q ≤ 1000) (hbig : 5040 < zg) :
    Calls Try.prog 5 #[.int .i64 n, v, v2, v3] w fun e w' => Told w e w' := by
  obtain ⟨i0, hi, hz0, hz1, hz2⟩ := info_parts Try.info23
  have q1 := run_tab_ne
  have q2 := run_tab_nil
  have HZ := hide hz
  obtain ⟨ezg, ezs, hzp, hq, hqe, hle, hles⟩ := hz
  have hqle : q ≤ 479001600 := by rw [hqe]; exact Nat.le_trans (Nat.div_le_self _ _) hle
  have HMk := hide (cmake_ok n v v2 gss sss w hA hS hR hRs h1 h12 h8 h8s hm (by rw [ezs]; exact hb) (by rw [ezg, ezs]; exact hb2))
  have HTell := hide (sizes_tell h12 hR hRs)
  rw [ezg] at HTell
  have HRN : Hid (RowsN n (gss ++ sss)) := fun y hy => by
    rcases List.mem_append.1 hy with hy | hy
    · exact hR y hy
    · exact hRs y hy
  have hgz := gchk_rows h1 h12 hR
  have hsz := gchk_rows h1 h12 hRs
  have HM1 : Hid (∀ w', Below w.heap.size w w' → Calls Try.prog 15 #[.int .i64 n, v] w' fun e w'' => e = .returned (.int .i64 0) ∧ w' = w'') := fun w' hb => by have := gensMay_ok n v gss w' (hA.below hb) h1 h12 h8; rwa [hgz] at this
  have HM2 : Hid (∀ w', Below w.heap.size w w' → Calls Try.prog 15 #[.int .i64 n, v2] w' fun e w'' => e = .returned (.int .i64 0) ∧ w' = w'') := fun w' hb => by have := gensMay_ok n v2 sss w' (hS.below hb) h1 h12 h8s; rwa [hsz] at this
  have HSz1 : Hid (∀ w', Below w.heap.size w w' → Calls Try.prog 17 #[.int .i64 n, v] w' fun e w'' => e = .returned (.int .i64 (zg : Int)) ∧ Below w'.heap.size w' w'') := fun w' hb => by have := sizes_ok n v gss w' (hA.below hb) hR h1 h12 (by omega); rwa [ezg] at this
  have HSz2 : Hid (∀ w', Below w.heap.size w w' → Calls Try.prog 17 #[.int .i64 n, v2] w' fun e w'' => e = .returned (.int .i64 (zs : Int)) ∧ Below w'.heap.size w' w'') := fun w' hb => by have := sizes_ok n v2 sss w' (hS.below hb) hRs h1 h12 (by omega); rwa [ezs] at this
  have HA := hide hA
  have HS := hide hS
  clear hA hS hR hRs hgz hsz ezg ezs hqe 
  go_enter Try.func5, Try.ntmps5
  go_wp2_with fail
  refine HMk.out.mono ?_
  rintro ex w1 ⟨u1, T, N, rfl, hT1, hRun, hb1⟩
  have HT1 := hide hT1
  have HRun := hide hRun
  obtain ⟨tb, _, _, _, _, _, _, _, _, _, _, _, _, _, rfl, _⟩ := hT1.mem
  clear hT1 hRun
  go_wp2_with fail
  refine (HM1.out w1 hb1).mono ?_
  rintro ex w2 ⟨rfl, rfl⟩
  go_wp2_with fail
  refine (HM2.out w1 hb1).mono ?_
  rintro ex w2 ⟨rfl, rfl⟩
  go_wp2_with fail
  refine (HSz1.out w1 hb1).mono ?_
  rintro ex w3 ⟨rfl, hb3⟩
  have hB3 := hb1.trans (hb3.mono hb1.size)
  go_wp2_with fail
  refine (HSz2.out w3 hB3).mono ?_
  rintro ex w4 ⟨rfl, hb4⟩
  have hB4 := hB3.trans (hb4.mono hB3.size)
  obtain ⟨vs, hV, hvl, hve⟩ := HA.out.below hB4
  obtain ⟨us, hU, hul, hue⟩ := HS.out.below hB4
  have HVE := hide hve
  have HVL := hide hvl
  have HUE := hide hue
  have HUL := hide hul
  have hvl8 : vs.length ≤ 8 := by omega
  have hul8 : us.length ≤ 8 := by omega
  have hs4 := hB4.size
  have hbE : Below w4.heap.size w4 (w4.alloc (.cells #[] 23)) := (Below.refl _ _).alloc (Nat.le_refl _) _
  have HVa := hide (hV.below hbE)
  have HCE := hide (vals_cells hvl hve)
  have HUa : Hid (∀ W, Below w4.heap.size w4 W → Vals W v2 us) := fun W hW => hU.below hW
  have HCU := hide (vals_cells hul hue)
  have HE5 : Hid ((w4.alloc (.cells #[] 23)).ownsRow w4.heap.size 23 1 (.slice (some ⟨w4.heap.size, 0, none⟩) 0 0) 0 []) := World.ownsRow_made w4 #[] 0 (Nat.le_refl _) (by decide) (by simp)
  have HMZ : Hid (w4.heap.size ≤ (w4.alloc (.cells #[] 23)).heap.size) := by unfold Hid; simp
  have HN1 : Hid (0 + vs.length ≤ maxLen) := by unfold Hid maxLen; omega
  have HN2 : Hid ((0 + vs.length) * 24 ≤ 140737488355328) := by unfold Hid; omega
  have HB4 := hide hB4
  clear hb1 hb3 hb4 hB3 hV hU hve hvl hue hul hbE hB4 HMk HM1 HM2 HSz1 HSz2
  go_wp2_with (at_builtin; refine wpList_append_want (by rfl) _ _ 22 rfl w4.heap.size 23 i0 (.slice none 0 0) 24 Try.underlying22 hi hz0 hz1 hz2 rfl _ _ _ rfl HE5.out v vs rfl HVa.out HCE.out HN1.out HN2.out HMZ.out ?_)
  intro v6 w6 hown6 hg6
  have hown6 : w6.ownsRow w4.heap.size 23 1 v6 vs.length vs := by simpa using hown6
  have hb6 : Below w4.heap.size w4 w6 := ((Below.refl _ _).alloc (Nat.le_refl _) _).grown hg6 (by simp) (fun k hk => by have e' : w4.heap.size = k := Option.some.inj hk; omega)
  have HO6 := hide hown6
  have HU6 := hide (HUa.out w6 hb6)
  have HN3 : Hid (vs.length + us.length ≤ maxLen) := by unfold Hid maxLen; omega
  have HN4 : Hid ((vs.length + us.length) * 24 ≤ 140737488355328) := by unfold Hid; omega
  have HN5 : Hid (w4.heap.size ≤ w6.heap.size) := hb6.size
  have HB6 := hide hb6
  clear hown6 hg6 hb6 HE5 HVa HCE HUa HN1 HN2 HMZ
  go_wp2_with (at_builtin; refine wpList_append_want (by rfl) _ _ 22 rfl w4.heap.size 23 i0 (.slice none 0 0) 24 Try.underlying22 hi hz0 hz1 hz2 rfl _ _ _ rfl HO6.out v2 us rfl HU6.out HCU.out HN3.out HN4.out HN5.out ?_)
  intro v7 w7 hown7 hg7
  have hb7 : Below w4.heap.size w4 w7 := HB6.out.grown hg7 HB6.out.size (fun k hk => (HO6.out.lt k hk).1)
  have hown7 : w7.ownsRow w4.heap.size 23 1 v7 (vs ++ us).length (vs ++ us) := by rw [List.length_append]; exact hown7
  have hA7 : IntsAll w7 v7 (gss ++ sss) := gens_both HVL.out HVE.out HUL.out HUE.out hb7 (Vals.own hown7)
  have HSz := hide (sizes_ok n v7 (gss ++ sss) w7 hA7 HRN.out h1 h12 (by rw [List.length_append]; omega))
  have HB7 := hide (HB4.out.trans (hb7.mono HB4.out.size))
  have HB47 := hide hb7
  clear hown7 hg7 hb7 hA7 HO6 HU6 HB6 HB4 HRN HCU HN3 HN4 HN5 HVE HVL HUE HUL
  generalize hsy : sz (Gen (fun y => y ∈ (gss ++ sss).map pad)) n = y at *
  clear hsy
  obtain rfl : zg = y := (HTell.out.2 (fun u hu => by obtain ⟨x, hx, rfl⟩ := List.mem_map.1 hu; exact hm x hx)).symm
  clear hm
  have g1 : decide ((1000 : Int) < (zs : Int)) = false := decide_eq_false (by omega)
  have g2 : decide ((1000 : Int) < (q : Int)) = false := decide_eq_false (by omega)
  obtain ⟨P, hP⟩ : ∃ P, P = zs * zg := ⟨_, rfl⟩
  have hPI : (zs : Int) * (zg : Int) = (P : Int) := by rw [hP]; simp
  have hPle : P ≤ 479001600000 := by rw [hP]; exact Nat.mul_le_mul hb hle
  have hPq : (P : Int).tdiv (zs : Int) = (zg : Int) := by rw [hP, ← Int.ofNat_tdiv, Nat.mul_div_cancel_left _ hzp]
  clear hP
  go_wp2_with fail
  refine HSz.out.mono ?_
  rintro ex w8 ⟨rfl, hb8⟩
  have HB8 := hide (HB7.out.trans (hb8.mono HB7.out.size))
  clear hb8 HSz HB7
  go_wp2
  go_ret
  exact ⟨rfl, HB8.out⟩

end Go.Proofs.Ytimfoggjocajiaa

/- CosetSays: groups that are small enough. -/
namespace Go.Proofs.Ytimfoggjocajiaa
set_option linter.unusedVariables false
open Go.RowKit

set_option maxRecDepth 20000 in
set_option maxHeartbeats 8000000 in
theorem cosetSays_small1 (n : Nat) (v v2 v3 : Value) (gss sss : List (List Int)) (xs : List Int) (zg zs q : Nat) (w : World) (hA : IntsAll w v gss) (hS : IntsAll w v2 sss) (hI : Ints w v3 xs) (hR : RowsN n gss) (hRs : RowsN n sss) (h1 : 1 ≤ n) (h12 : n ≤ 12) (h8 : gss.length ≤ 8) (h8s : sss.length ≤ 8) (hz : CSz n gss sss zg zs q) (hm : ∀ x, x ∈ sss → Gen (fun y => y ∈ gss.map pad) (pad x)) (hb : zs ≤ 1000) (hb2 : zg ≤ 1000 * zs) (hb3 : q ≤ 1000) (hsm : zg ≤ 5040) (hcx : chk xs ≠ 0) :
    Calls Try.prog 5 #[.int .i64 n, v, v2, v3] w fun e w' => Told w e w' := by
  obtain ⟨i0, hi, hz0, hz1, hz2⟩ := info_parts Try.info23
  have q1 := run_tab_ne
  have q2 := run_tab_nil
  have HZ := hide hz
  obtain ⟨ezg, ezs, hzp, hq, hqe, hle, hles⟩ := hz
  have hqle : q ≤ 479001600 := by rw [hqe]; exact Nat.le_trans (Nat.div_le_self _ _) hle
  have HMk := hide (cmake_ok n v v2 gss sss w hA hS hR hRs h1 h12 h8 h8s hm (by rw [ezs]; exact hb) (by rw [ezg, ezs]; exact hb2))
  have HTell := hide (sizes_tell h12 hR hRs)
  rw [ezg] at HTell
  have HRN : Hid (RowsN n (gss ++ sss)) := fun y hy => by
    rcases List.mem_append.1 hy with hy | hy
    · exact hR y hy
    · exact hRs y hy
  have hgz := gchk_rows h1 h12 hR
  have hsz := gchk_rows h1 h12 hRs
  have HM1 : Hid (∀ w', Below w.heap.size w w' → Calls Try.prog 15 #[.int .i64 n, v] w' fun e w'' => e = .returned (.int .i64 0) ∧ w' = w'') := fun w' hb => by have := gensMay_ok n v gss w' (hA.below hb) h1 h12 h8; rwa [hgz] at this
  have HM2 : Hid (∀ w', Below w.heap.size w w' → Calls Try.prog 15 #[.int .i64 n, v2] w' fun e w'' => e = .returned (.int .i64 0) ∧ w' = w'') := fun w' hb => by have := gensMay_ok n v2 sss w' (hS.below hb) h1 h12 h8s; rwa [hsz] at this
  have HSz1 : Hid (∀ w', Below w.heap.size w w' → Calls Try.prog 17 #[.int .i64 n, v] w' fun e w'' => e = .returned (.int .i64 (zg : Int)) ∧ Below w'.heap.size w' w'') := fun w' hb => by have := sizes_ok n v gss w' (hA.below hb) hR h1 h12 (by omega); rwa [ezg] at this
  have HSz2 : Hid (∀ w', Below w.heap.size w w' → Calls Try.prog 17 #[.int .i64 n, v2] w' fun e w'' => e = .returned (.int .i64 (zs : Int)) ∧ Below w'.heap.size w' w'') := fun w' hb => by have := sizes_ok n v2 sss w' (hS.below hb) hRs h1 h12 (by omega); rwa [ezs] at this
  have HA := hide hA
  have HS := hide hS
  have HI := hide hI
  have HR := hide hR
  have HRS := hide hRs
  have HMM := hide hm
  obtain ⟨p3, c3, ep3⟩ := hI.form
  subst ep3
  clear hA hS hR hRs hgz hsz ezg ezs hqe hI
  go_enter Try.func5, Try.ntmps5
  go_wp2_with fail
  refine HMk.out.mono ?_
  rintro ex w1 ⟨u1, T, N, rfl, hT1, hRun, hb1⟩
  have HT1 := hide hT1
  have HRun := hide hRun
  obtain ⟨tb, _, _, _, _, _, _, _, _, _, _, _, _, _, rfl, _⟩ := hT1.mem
  clear hT1 hRun
  go_wp2_with fail
  refine (HM1.out w1 hb1).mono ?_
  rintro ex w2 ⟨rfl, rfl⟩
  go_wp2_with fail
  refine (HM2.out w1 hb1).mono ?_
  rintro ex w2 ⟨rfl, rfl⟩
  go_wp2_with fail
  refine (HSz1.out w1 hb1).mono ?_
  rintro ex w3 ⟨rfl, hb3⟩
  have hB3 := hb1.trans (hb3.mono hb1.size)
  go_wp2_with fail
  refine (HSz2.out w3 hB3).mono ?_
  rintro ex w4 ⟨rfl, hb4⟩
  have hB4 := hB3.trans (hb4.mono hB3.size)
  obtain ⟨vs, hV, hvl, hve⟩ := HA.out.below hB4
  obtain ⟨us, hU, hul, hue⟩ := HS.out.below hB4
  have HB14 := hide (hb3.trans (hb4.mono hb3.size))
  have HVE := hide hve
  have HVL := hide hvl
  have HUE := hide hue
  have HUL := hide hul
  have hvl8 : vs.length ≤ 8 := by omega
  have hul8 : us.length ≤ 8 := by omega
  have hs4 := hB4.size
  have hbE : Below w4.heap.size w4 (w4.alloc (.cells #[] 23)) := (Below.refl _ _).alloc (Nat.le_refl _) _
  have HVa := hide (hV.below hbE)
  have HCE := hide (vals_cells hvl hve)
  have HUa : Hid (∀ W, Below w4.heap.size w4 W → Vals W v2 us) := fun W hW => hU.below hW
  have HCU := hide (vals_cells hul hue)
  have HE5 : Hid ((w4.alloc (.cells #[] 23)).ownsRow w4.heap.size 23 1 (.slice (some ⟨w4.heap.size, 0, none⟩) 0 0) 0 []) := World.ownsRow_made w4 #[] 0 (Nat.le_refl _) (by decide) (by simp)
  have HMZ : Hid (w4.heap.size ≤ (w4.alloc (.cells #[] 23)).heap.size) := by unfold Hid; simp
  have HN1 : Hid (0 + vs.length ≤ maxLen) := by unfold Hid maxLen; omega
  have HN2 : Hid ((0 + vs.length) * 24 ≤ 140737488355328) := by unfold Hid; omega
  have HB4 := hide hB4
  clear hb1 hb3 hb4 hB3 hV hU hve hvl hue hul hbE hB4 HMk HM1 HM2 HSz1 HSz2
  go_wp2_with (at_builtin; refine wpList_append_want (by rfl) _ _ 22 rfl w4.heap.size 23 i0 (.slice none 0 0) 24 Try.underlying22 hi hz0 hz1 hz2 rfl _ _ _ rfl HE5.out v vs rfl HVa.out HCE.out HN1.out HN2.out HMZ.out ?_)
  intro v6 w6 hown6 hg6
  have hown6 : w6.ownsRow w4.heap.size 23 1 v6 vs.length vs := by simpa using hown6
  have hb6 : Below w4.heap.size w4 w6 := ((Below.refl _ _).alloc (Nat.le_refl _) _).grown hg6 (by simp) (fun k hk => by have e' : w4.heap.size = k := Option.some.inj hk; omega)
  have HO6 := hide hown6
  have HU6 := hide (HUa.out w6 hb6)
  have HN3 : Hid (vs.length + us.length ≤ maxLen) := by unfold Hid maxLen; omega
  have HN4 : Hid ((vs.length + us.length) * 24 ≤ 140737488355328) := by unfold Hid; omega
  have HN5 : Hid (w4.heap.size ≤ w6.heap.size) := hb6.size
  have HB6 := hide hb6
  clear hown6 hg6 hb6 HE5 HVa HCE HUa HN1 HN2 HMZ
  go_wp2_with (at_builtin; refine wpList_append_want (by rfl) _ _ 22 rfl w4.heap.size 23 i0 (.slice none 0 0) 24 Try.underlying22 hi hz0 hz1 hz2 rfl _ _ _ rfl HO6.out v2 us rfl HU6.out HCU.out HN3.out HN4.out HN5.out ?_)
  intro v7 w7 hown7 hg7
  have hb7 : Below w4.heap.size w4 w7 := HB6.out.grown hg7 HB6.out.size (fun k hk => (HO6.out.lt k hk).1)
  have hown7 : w7.ownsRow w4.heap.size 23 1 v7 (vs ++ us).length (vs ++ us) := by rw [List.length_append]; exact hown7
  have hA7 : IntsAll w7 v7 (gss ++ sss) := gens_both HVL.out HVE.out HUL.out HUE.out hb7 (Vals.own hown7)
  have HSz := hide (sizes_ok n v7 (gss ++ sss) w7 hA7 HRN.out h1 h12 (by rw [List.length_append]; omega))
  have HB7 := hide (HB4.out.trans (hb7.mono HB4.out.size))
  have HB47 := hide hb7
  clear hown7 hg7 hb7 hA7 HO6 HU6 HB6 HB4 HRN HCU HN3 HN4 HN5 HVE HVL HUE HUL
  generalize hsy : sz (Gen (fun y => y ∈ (gss ++ sss).map pad)) n = y at *
  clear hsy
  obtain rfl : zg = y := (HTell.out.2 (fun u hu => by obtain ⟨x, hx, rfl⟩ := List.mem_map.1 hu; exact hm x hx)).symm
  clear hm
  have g1 : decide ((1000 : Int) < (zs : Int)) = false := decide_eq_false (by omega)
  have g2 : decide ((1000 : Int) < (q : Int)) = false := decide_eq_false (by omega)
  obtain ⟨P, hP⟩ : ∃ P, P = zs * zg := ⟨_, rfl⟩
  have hPI : (zs : Int) * (zg : Int) = (P : Int) := by rw [hP]; simp
  have hPle : P ≤ 479001600000 := by rw [hP]; exact Nat.mul_le_mul hb hle
  have hPq : (P : Int).tdiv (zs : Int) = (zg : Int) := by rw [hP, ← Int.ofNat_tdiv, Nat.mul_div_cancel_left _ hzp]
  clear hP
  go_wp2_with fail
  refine HSz.out.mono ?_
  rintro ex w8 ⟨rfl, hb8⟩
  have HB8 := hide (HB7.out.trans (hb8.mono HB7.out.size))
  have hb18 : Below w1.heap.size w1 w8 := (HB14.out.trans (HB47.out.mono HB14.out.size)).trans (hb8.mono (HB14.out.trans (HB47.out.mono HB14.out.size)).size)
  have HT8 := hide (HT1.out.later hb18)
  have HCd := hide (closed_ok n 1000 v2 sss w8 (HS.out.below HB8.out) HRS.out h1 h12 (by omega) (by omega) (by omega))
  clear hb8 HSz HB7 hb18 HB14 HB47
  go_wp2_with fail
  refine HCd.out.mono ?_
  rintro ex w9 ⟨hb9, hcl⟩
  rcases hcl with ⟨vr, vw, Sr, rfl, hIr, hIw, hrun, hSl⟩ | ⟨rfl, Sr, hrok, hlong⟩
  rotate_left
  · exact absurd (found_few h12 HRS.out hrok) (by rw [HZ.out.s]; omega)
  have hB9 := HB8.out.trans (hb9.mono HB8.out.size)
  have HFd := hide (Found.of h12 HRS.out hrun)
  have HT9 := hide (HT8.out.later hb9)
  have hIr' : IntsAll w9 vr ((Sr.map (·.1)).map (cut n)) := by rw [List.map_map]; exact hIr
  have HIr := hide hIr'
  obtain ⟨X, x1, x2, x3⟩ := sz_list (Gen.sub (fun y => y ∈ gss.map pad)) h12 (fun x hx => gens_fix h12 HR.out hx)
  have HPa := hide (rparts_ok n v vr gss (Sr.map (·.1)) X (Gen (fun y => y ∈ sss.map pad)) w9 (HA.out.below hB9) HR.out hIr' (Gen.sub _) HFd.out.mem (fun h hh => gens_fix h12 HRS.out hh) h1 h12 (by omega) (by rw [List.length_map]; omega) (fun x hx => (x2 x).2 ((letters_gen 0 gss x).1 hx)) (by rw [x3, HZ.out.g]; omega))
  have HSX : Hid (T.length ≤ 5040) := by
    have h9 := (HRun.out.ok (Gen.sub _)).ok.few (Gen.sub _) (X := X) (fun x hx => (x2 x).2 ((letters_gen 0 gss x).1 hx))
    rw [x3, HZ.out.g] at h9
    exact Nat.le_trans h9 hsm
  clear hIr hIw hrun hb9 HT8 HB8 HCd x1 x2 x3
  go_wp2_with fail
  refine HPa.out.mono ?_
  rintro ex w10 ⟨vn, vw2, vr2, T', N', rfl, hRun', hIn, hIw2, hIr2, hb10⟩
  obtain ⟨eT, eN⟩ := RunC.unique hRun' HRun.out (Nat.le_refl _) (Nat.le_refl _)
  subst eT
  subst eN
  have hB10 := hB9.trans (hb10.mono hB9.size)
  have hT10 := HT9.out.later hb10
  have HT10 := hide hT10
  have HIr10 := hide (HIr.out.below hb10)
  have hO := hRun'.ok (Gen.sub _)
  have htl1 : 1 ≤ T'.length := (List.getElem?_eq_some_iff.1 hO.ok.first).1
  have HAl := hide (call_all (.pointer (some ⟨tb, 0, none⟩)) n _ T' N' w10 hT10 htl1 hO.len (by have := HSX.out; omega) (fun r hr => by
    obtain ⟨j, hj, ej⟩ := List.getElem_of_mem hr
    obtain ⟨ln, h1', h2', _⟩ := hRun'.cos (Gen.sub _) (i := j) (by have := hO.len; omega)
    rw [List.getElem?_eq_getElem hj] at h1'
    rw [← ej, Option.some.inj h1', h2']; omega) (fun e he => by have := hO.ok.short e he; have := HSX.out; omega))
  have HIn := hide hIn
  have HIw := hide hIw2
  have HIr2 := hide hIr2
  clear hIn hIw2 hIr2 hb10 hB9 HT9 HIr HPa hT10 hO htl1 hRun'
  go_wp2_with fail
  refine HAl.out.mono ?_
  rintro ex w11 ⟨un, uw, rfl, hJn, hJw, hb11⟩
  have hB11 := hB10.trans (hb11.mono hB10.size)
  have HT11 := hide (HT10.out.later hb11)
  have HIr11 := hide (HIr10.out.below hb11)
  have HIq11 := hide (HIr2.out.below hb11)
  have HSA1 := hide (sameAll_any un vn (N'.map natI) (N'.map natI) w11 hJn (HIn.out.below hb11))
  rw [decide_eq_true rfl] at HSA1
  have HJw := hide hJw
  have HIw11 := hide (HIw.out.below hb11)
  clear hJn hJw hb11 hB10 HT10 HIr10 HIr2 HIn HIw HAl
  go_wp2_with fail
  refine HSA1.out.mono ?_
  rintro ex w12 ⟨rfl, hb12⟩
  have hB12 := hB11.trans (hb12.mono hB11.size)
  have HT12 := hide (HT11.out.later hb12)
  have HIr12 := hide (HIr11.out.below hb12)
  have HIq12 := hide (HIq11.out.below hb12)
  have HSA2 := hide (sameAll_any uw vw2 (T'.map (·.2)) (T'.map (·.2)) w12 (HJw.out.below hb12) (HIw11.out.below hb12))
  rw [decide_eq_true rfl] at HSA2
  clear hb12 hB11 HT11 HIr11 HIq11 HSA1 HJw HIw11
  go_wp2_with fail
  refine HSA2.out.mono ?_
  rintro ex w13 ⟨rfl, hb13⟩
  have hB13 := hB12.trans (hb13.mono hB12.size)
  have HT13 := hide (HT12.out.later hb13)
  have HIr13 := hide (HIr12.out.below hb13)
  have HIq13 := hide (HIq12.out.below hb13)
  have HRM := hide (rowMay_any (.slice p3 xs.length c3) xs w13 (HI.out.below hB13))
  clear hb13 hB12 HT12 HIr12 HIq12 HSA2
  have hne : (chk xs == 0) = false := beq_eq_false_iff_ne.2 hcx
  have e1 : rchk n xs = chk xs := by unfold rchk; rw [if_neg hcx]
  have HOf := hide (of_no _ (.slice p3 xs.length c3) n _ T' N' xs w13 HT13.out (HI.out.below hB13) (by rw [e1]; exact hcx))
  rw [e1] at HOf
  generalize chk xs = cx at *
  clear hcx e1
  go_wp2_with fail
  refine HRM.out.mono ?_
  rintro ex w14 ⟨rfl, rfl⟩
  go_wp2_with fail
  refine HOf.out.mono ?_
  rintro ex w15 ⟨rfl, hb15⟩
  have HB15 := hide (hB13.trans (hb15.mono hB13.size))
  clear hb15
  go_wp2
  go_ret
  exact ⟨rfl, HB15.out⟩


set_option maxRecDepth 20000 in
set_option maxHeartbeats 8000000 in
theorem cosetSays_small2 (n : Nat) (v v2 v3 : Value) (gss sss : List (List Int)) (xs : List Int) (zg zs q : Nat) (w : World) (hA : IntsAll w v gss) (hS : IntsAll w v2 sss) (hI : Ints w v3 xs) (hR : RowsN n gss) (hRs : RowsN n sss) (h1 : 1 ≤ n) (h12 : n ≤ 12) (h8 : gss.length ≤ 8) (h8s : sss.length ≤ 8) (hz : CSz n gss sss zg zs q) (hm : ∀ x, x ∈ sss → Gen (fun y => y ∈ gss.map pad) (pad x)) (hb : zs ≤ 1000) (hb2 : zg ≤ 1000 * zs) (hb3 : q ≤ 1000) (hsm : zg ≤ 5040) (hcx : chk xs = 0) (hlx : xs.length ≠ n) :
    Calls Try.prog 5 #[.int .i64 n, v, v2, v3] w fun e w' => Told w e w' := by
  obtain ⟨i0, hi, hz0, hz1, hz2⟩ := info_parts Try.info23
  have q1 := run_tab_ne
  have q2 := run_tab_nil
  have HZ := hide hz
  obtain ⟨ezg, ezs, hzp, hq, hqe, hle, hles⟩ := hz
  have hqle : q ≤ 479001600 := by rw [hqe]; exact Nat.le_trans (Nat.div_le_self _ _) hle
  have HMk := hide (cmake_ok n v v2 gss sss w hA hS hR hRs h1 h12 h8 h8s hm (by rw [ezs]; exact hb) (by rw [ezg, ezs]; exact hb2))
  have HTell := hide (sizes_tell h12 hR hRs)
  rw [ezg] at HTell
  have HRN : Hid (RowsN n (gss ++ sss)) := fun y hy => by
    rcases List.mem_append.1 hy with hy | hy
    · exact hR y hy
    · exact hRs y hy
  have hgz := gchk_rows h1 h12 hR
  have hsz := gchk_rows h1 h12 hRs
  have HM1 : Hid (∀ w', Below w.heap.size w w' → Calls Try.prog 15 #[.int .i64 n, v] w' fun e w'' => e = .returned (.int .i64 0) ∧ w' = w'') := fun w' hb => by have := gensMay_ok n v gss w' (hA.below hb) h1 h12 h8; rwa [hgz] at this
  have HM2 : Hid (∀ w', Below w.heap.size w w' → Calls Try.prog 15 #[.int .i64 n, v2] w' fun e w'' => e = .returned (.int .i64 0) ∧ w' = w'') := fun w' hb => by have := gensMay_ok n v2 sss w' (hS.below hb) h1 h12 h8s; rwa [hsz] at this
  have HSz1 : Hid (∀ w', Below w.heap.size w w' → Calls Try.prog 17 #[.int .i64 n, v] w' fun e w'' => e = .returned (.int .i64 (zg : Int)) ∧ Below w'.heap.size w' w'') := fun w' hb => by have := sizes_ok n v gss w' (hA.below hb) hR h1 h12 (by omega); rwa [ezg] at this
  have HSz2 : Hid (∀ w', Below w.heap.size w w' → Calls Try.prog 17 #[.int .i64 n, v2] w' fun e w'' => e = .returned (.int .i64 (zs : Int)) ∧ Below w'.heap.size w' w'') := fun w' hb => by have := sizes_ok n v2 sss w' (hS.below hb) hRs h1 h12 (by omega); rwa [ezs] at this
  have HA := hide hA
  have HS := hide hS
  have HI := hide hI
  have HR := hide hR
  have HRS := hide hRs
  have HMM := hide hm
  obtain ⟨p3, c3, ep3⟩ := hI.form
  subst ep3
  clear hA hS hR hRs hgz hsz ezg ezs hqe hI
  go_enter Try.func5, Try.ntmps5
  go_wp2_with fail
  refine HMk.out.mono ?_
  rintro ex w1 ⟨u1, T, N, rfl, hT1, hRun, hb1⟩
  have HT1 := hide hT1
  have HRun := hide hRun
  obtain ⟨tb, _, _, _, _, _, _, _, _, _, _, _, _, _, rfl, _⟩ := hT1.mem
  clear hT1 hRun
  go_wp2_with fail
  refine (HM1.out w1 hb1).mono ?_
  rintro ex w2 ⟨rfl, rfl⟩
  go_wp2_with fail
  refine (HM2.out w1 hb1).mono ?_
  rintro ex w2 ⟨rfl, rfl⟩
  go_wp2_with fail
  refine (HSz1.out w1 hb1).mono ?_
  rintro ex w3 ⟨rfl, hb3⟩
  have hB3 := hb1.trans (hb3.mono hb1.size)
  go_wp2_with fail
  refine (HSz2.out w3 hB3).mono ?_
  rintro ex w4 ⟨rfl, hb4⟩
  have hB4 := hB3.trans (hb4.mono hB3.size)
  obtain ⟨vs, hV, hvl, hve⟩ := HA.out.below hB4
  obtain ⟨us, hU, hul, hue⟩ := HS.out.below hB4
  have HB14 := hide (hb3.trans (hb4.mono hb3.size))
  have HVE := hide hve
  have HVL := hide hvl
  have HUE := hide hue
  have HUL := hide hul
  have hvl8 : vs.length ≤ 8 := by omega
  have hul8 : us.length ≤ 8 := by omega
  have hs4 := hB4.size
  have hbE : Below w4.heap.size w4 (w4.alloc (.cells #[] 23)) := (Below.refl _ _).alloc (Nat.le_refl _) _
  have HVa := hide (hV.below hbE)
  have HCE := hide (vals_cells hvl hve)
  have HUa : Hid (∀ W, Below w4.heap.size w4 W → Vals W v2 us) := fun W hW => hU.below hW
  have HCU := hide (vals_cells hul hue)
  have HE5 : Hid ((w4.alloc (.cells #[] 23)).ownsRow w4.heap.size 23 1 (.slice (some ⟨w4.heap.size, 0, none⟩) 0 0) 0 []) := World.ownsRow_made w4 #[] 0 (Nat.le_refl _) (by decide) (by simp)
  have HMZ : Hid (w4.heap.size ≤ (w4.alloc (.cells #[] 23)).heap.size) := by unfold Hid; simp
  have HN1 : Hid (0 + vs.length ≤ maxLen) := by unfold Hid maxLen; omega
  have HN2 : Hid ((0 + vs.length) * 24 ≤ 140737488355328) := by unfold Hid; omega
  have HB4 := hide hB4
  clear hb1 hb3 hb4 hB3 hV hU hve hvl hue hul hbE hB4 HMk HM1 HM2 HSz1 HSz2
  go_wp2_with (at_builtin; refine wpList_append_want (by rfl) _ _ 22 rfl w4.heap.size 23 i0 (.slice none 0 0) 24 Try.underlying22 hi hz0 hz1 hz2 rfl _ _ _ rfl HE5.out v vs rfl HVa.out HCE.out HN1.out HN2.out HMZ.out ?_)
  intro v6 w6 hown6 hg6
  have hown6 : w6.ownsRow w4.heap.size 23 1 v6 vs.length vs := by simpa using hown6
  have hb6 : Below w4.heap.size w4 w6 := ((Below.refl _ _).alloc (Nat.le_refl _) _).grown hg6 (by simp) (fun k hk => by have e' : w4.heap.size = k := Option.some.inj hk; omega)
  have HO6 := hide hown6
  have HU6 := hide (HUa.out w6 hb6)
  have HN3 : Hid (vs.length + us.length ≤ maxLen) := by unfold Hid maxLen; omega
  have HN4 : Hid ((vs.length + us.length) * 24 ≤ 140737488355328) := by unfold Hid; omega
  have HN5 : Hid (w4.heap.size ≤ w6.heap.size) := hb6.size
  have HB6 := hide hb6
  clear hown6 hg6 hb6 HE5 HVa HCE HUa HN1 HN2 HMZ
  go_wp2_with (at_builtin; refine wpList_append_want (by rfl) _ _ 22 rfl w4.heap.size 23 i0 (.slice none 0 0) 24 Try.underlying22 hi hz0 hz1 hz2 rfl _ _ _ rfl HO6.out v2 us rfl HU6.out HCU.out HN3.out HN4.out HN5.out ?_)
  intro v7 w7 hown7 hg7
  have hb7 : Below w4.heap.size w4 w7 := HB6.out.grown hg7 HB6.out.size (fun k hk => (HO6.out.lt k hk).1)
  have hown7 : w7.ownsRow w4.heap.size 23 1 v7 (vs ++ us).length (vs ++ us) := by rw [List.length_append]; exact hown7
  have hA7 : IntsAll w7 v7 (gss ++ sss) := gens_both HVL.out HVE.out HUL.out HUE.out hb7 (Vals.own hown7)
  have HSz := hide (sizes_ok n v7 (gss ++ sss) w7 hA7 HRN.out h1 h12 (by rw [List.length_append]; omega))
  have HB7 := hide (HB4.out.trans (hb7.mono HB4.out.size))
  have HB47 := hide hb7
  clear hown7 hg7 hb7 hA7 HO6 HU6 HB6 HB4 HRN HCU HN3 HN4 HN5 HVE HVL HUE HUL
  generalize hsy : sz (Gen (fun y => y ∈ (gss ++ sss).map pad)) n = y at *
  clear hsy
  obtain rfl : zg = y := (HTell.out.2 (fun u hu => by obtain ⟨x, hx, rfl⟩ := List.mem_map.1 hu; exact hm x hx)).symm
  clear hm
  have g1 : decide ((1000 : Int) < (zs : Int)) = false := decide_eq_false (by omega)
  have g2 : decide ((1000 : Int) < (q : Int)) = false := decide_eq_false (by omega)
  obtain ⟨P, hP⟩ : ∃ P, P = zs * zg := ⟨_, rfl⟩
  have hPI : (zs : Int) * (zg : Int) = (P : Int) := by rw [hP]; simp
  have hPle : P ≤ 479001600000 := by rw [hP]; exact Nat.mul_le_mul hb hle
  have hPq : (P : Int).tdiv (zs : Int) = (zg : Int) := by rw [hP, ← Int.ofNat_tdiv, Nat.mul_div_cancel_left _ hzp]
  clear hP
  go_wp2_with fail
  refine HSz.out.mono ?_
  rintro ex w8 ⟨rfl, hb8⟩
  have HB8 := hide (HB7.out.trans (hb8.mono HB7.out.size))
  have hb18 : Below w1.heap.size w1 w8 := (HB14.out.trans (HB47.out.mono HB14.out.size)).trans (hb8.mono (HB14.out.trans (HB47.out.mono HB14.out.size)).size)
  have HT8 := hide (HT1.out.later hb18)
  have HCd := hide (closed_ok n 1000 v2 sss w8 (HS.out.below HB8.out) HRS.out h1 h12 (by omega) (by omega) (by omega))
  clear hb8 HSz HB7 hb18 HB14 HB47
  go_wp2_with fail
  refine HCd.out.mono ?_
  rintro ex w9 ⟨hb9, hcl⟩
  rcases hcl with ⟨vr, vw, Sr, rfl, hIr, hIw, hrun, hSl⟩ | ⟨rfl, Sr, hrok, hlong⟩
  rotate_left
  · exact absurd (found_few h12 HRS.out hrok) (by rw [HZ.out.s]; omega)
  have hB9 := HB8.out.trans (hb9.mono HB8.out.size)
  have HFd := hide (Found.of h12 HRS.out hrun)
  have HT9 := hide (HT8.out.later hb9)
  have hIr' : IntsAll w9 vr ((Sr.map (·.1)).map (cut n)) := by rw [List.map_map]; exact hIr
  have HIr := hide hIr'
  obtain ⟨X, x1, x2, x3⟩ := sz_list (Gen.sub (fun y => y ∈ gss.map pad)) h12 (fun x hx => gens_fix h12 HR.out hx)
  have HPa := hide (rparts_ok n v vr gss (Sr.map (·.1)) X (Gen (fun y => y ∈ sss.map pad)) w9 (HA.out.below hB9) HR.out hIr' (Gen.sub _) HFd.out.mem (fun h hh => gens_fix h12 HRS.out hh) h1 h12 (by omega) (by rw [List.length_map]; omega) (fun x hx => (x2 x).2 ((letters_gen 0 gss x).1 hx)) (by rw [x3, HZ.out.g]; omega))
  have HSX : Hid (T.length ≤ 5040) := by
    have h9 := (HRun.out.ok (Gen.sub _)).ok.few (Gen.sub _) (X := X) (fun x hx => (x2 x).2 ((letters_gen 0 gss x).1 hx))
    rw [x3, HZ.out.g] at h9
    exact Nat.le_trans h9 hsm
  clear hIr hIw hrun hb9 HT8 HB8 HCd x1 x2 x3
  go_wp2_with fail
  refine HPa.out.mono ?_
  rintro ex w10 ⟨vn, vw2, vr2, T', N', rfl, hRun', hIn, hIw2, hIr2, hb10⟩
  obtain ⟨eT, eN⟩ := RunC.unique hRun' HRun.out (Nat.le_refl _) (Nat.le_refl _)
  subst eT
  subst eN
  have hB10 := hB9.trans (hb10.mono hB9.size)
  have hT10 := HT9.out.later hb10
  have HT10 := hide hT10
  have HIr10 := hide (HIr.out.below hb10)
  have hO := hRun'.ok (Gen.sub _)
  have htl1 : 1 ≤ T'.length := (List.getElem?_eq_some_iff.1 hO.ok.first).1
  have HAl := hide (call_all (.pointer (some ⟨tb, 0, none⟩)) n _ T' N' w10 hT10 htl1 hO.len (by have := HSX.out; omega) (fun r hr => by
    obtain ⟨j, hj, ej⟩ := List.getElem_of_mem hr
    obtain ⟨ln, h1', h2', _⟩ := hRun'.cos (Gen.sub _) (i := j) (by have := hO.len; omega)
    rw [List.getElem?_eq_getElem hj] at h1'
    rw [← ej, Option.some.inj h1', h2']; omega) (fun e he => by have := hO.ok.short e he; have := HSX.out; omega))
  have HIn := hide hIn
  have HIw := hide hIw2
  have HIr2 := hide hIr2
  clear hIn hIw2 hIr2 hb10 hB9 HT9 HIr HPa hT10 hO htl1 hRun'
  go_wp2_with fail
  refine HAl.out.mono ?_
  rintro ex w11 ⟨un, uw, rfl, hJn, hJw, hb11⟩
  have hB11 := hB10.trans (hb11.mono hB10.size)
  have HT11 := hide (HT10.out.later hb11)
  have HIr11 := hide (HIr10.out.below hb11)
  have HIq11 := hide (HIr2.out.below hb11)
  have HSA1 := hide (sameAll_any un vn (N'.map natI) (N'.map natI) w11 hJn (HIn.out.below hb11))
  rw [decide_eq_true rfl] at HSA1
  have HJw := hide hJw
  have HIw11 := hide (HIw.out.below hb11)
  clear hJn hJw hb11 hB10 HT10 HIr10 HIr2 HIn HIw HAl
  go_wp2_with fail
  refine HSA1.out.mono ?_
  rintro ex w12 ⟨rfl, hb12⟩
  have hB12 := hB11.trans (hb12.mono hB11.size)
  have HT12 := hide (HT11.out.later hb12)
  have HIr12 := hide (HIr11.out.below hb12)
  have HIq12 := hide (HIq11.out.below hb12)
  have HSA2 := hide (sameAll_any uw vw2 (T'.map (·.2)) (T'.map (·.2)) w12 (HJw.out.below hb12) (HIw11.out.below hb12))
  rw [decide_eq_true rfl] at HSA2
  clear hb12 hB11 HT11 HIr11 HIq11 HSA1 HJw HIw11
  go_wp2_with fail
  refine HSA2.out.mono ?_
  rintro ex w13 ⟨rfl, hb13⟩
  have hB13 := hB12.trans (hb13.mono hB12.size)
  have HT13 := hide (HT12.out.later hb13)
  have HIr13 := hide (HIr12.out.below hb13)
  have HIq13 := hide (HIq12.out.below hb13)
  have HRM := hide (rowMay_any (.slice p3 xs.length c3) xs w13 (HI.out.below hB13))
  clear hb13 hB12 HT12 HIr12 HIq12 HSA2
  have e1 : rchk n xs = 1 := by unfold rchk; rw [if_pos hcx, if_neg hlx]
  have HOf := hide (of_no _ (.slice p3 xs.length c3) n _ T' N' xs w13 HT13.out (HI.out.below hB13) (by rw [e1]; decide))
  rw [e1] at HOf
  rw [hcx] at HRM
  have hneI : ((xs.length : Int) != (n : Int)) = true := by rw [bne_iff_ne]; omega
  generalize xs.length = xl at *
  clear hcx e1 hlx
  go_wp2_with fail
  refine HRM.out.mono ?_
  rintro ex w14 ⟨rfl, rfl⟩
  go_wp2_with fail
  refine HOf.out.mono ?_
  rintro ex w15 ⟨rfl, hb15⟩
  have HB15 := hide (hB13.trans (hb15.mono hB13.size))
  clear hb15
  go_wp2
  go_ret
  exact ⟨rfl, HB15.out⟩


end Go.Proofs.Ytimfoggjocajiaa

/- CosetSays: groups that are small enough, and a row. -/
namespace Go.Proofs.Ytimfoggjocajiaa
set_option linter.unusedVariables false
open Go.RowKit

/-- What the law has found when it has looked at k parts. -/
noncomputable def ofTo (H : Pm → Prop) (T : List (Pm × List Int)) (x : Pm) (k : Nat) : Nat × Int := if cix H T x < k then (cix H T x, 0) else (0, 14)

theorem ofTo_zero (H : Pm → Prop) (T : List (Pm × List Int)) (x : Pm) : ofTo H T x 0 = (0, 14) := if_neg (by omega)

theorem ofTo_in {H : Pm → Prop} {L : List (Int × Pm)} (hH : Sub H) {T : List (Pm × List Int)} (h : PartOk H L T) {x : Pm} {k : Nat} {d : Pm × List Int} (hd : T[k]? = some d) (hx : H (x * d.1⁻¹)) : ofTo H T x (k + 1) = (k, 0) := by
  unfold ofTo
  rw [h.cix hH hd hx, if_pos (by omega)]

theorem ofTo_out {H : Pm → Prop} {T : List (Pm × List Int)} {x : Pm} {k : Nat} {d : Pm × List Int} (hd : T[k]? = some d) (hx : ¬ H (x * d.1⁻¹)) : ofTo H T x (k + 1) = ofTo H T x k := by
  have hne : cix H T x ≠ k := fun e => by
    have hk := (List.getElem?_eq_some_iff.1 hd).1
    obtain ⟨d', h1, h2⟩ := cix_at (H := H) (T := T) (r := x) (by omega)
    rw [e, hd] at h1
    rw [← Option.some.inj h1] at h2
    exact hx h2
  unfold ofTo
  by_cases h : cix H T x < k
  · rw [if_pos h, if_pos (by omega)]
  · rw [if_neg h, if_neg (by omega)]

set_option maxRecDepth 20000 in
set_option maxHeartbeats 8000000 in
theorem cosetSays_small3 (n : Nat) (v v2 v3 : Value) (gss sss : List (List Int)) (xs : List Int) (zg zs q : Nat) (w : World) (hA : IntsAll w v gss) (hS : IntsAll w v2 sss) (hI : Ints w v3 xs) (hR : RowsN n gss) (hRs : RowsN n sss) (h1 : 1 ≤ n) (h12 : n ≤ 12) (h8 : gss.length ≤ 8) (h8s : sss.length ≤ 8) (hz : CSz n gss sss zg zs q) (hm : ∀ x, x ∈ sss → Gen (fun y => y ∈ gss.map pad) (pad x)) (hb : zs ≤ 1000) (hb2 : zg ≤ 1000 * zs) (hb3 : q ≤ 1000) (hsm : zg ≤ 5040) (hcx : chk xs = 0) (hlx : xs.length = n) :
    Calls Try.prog 5 #[.int .i64 n, v, v2, v3] w fun e w' => Told w e w' := by
  obtain ⟨i0, hi, hz0, hz1, hz2⟩ := info_parts Try.info23
  have q1 := run_tab_ne
  have q2 := run_tab_nil
  have HZ := hide hz
  obtain ⟨ezg, ezs, hzp, hq, hqe, hle, hles⟩ := hz
  have hqle : q ≤ 479001600 := by rw [hqe]; exact Nat.le_trans (Nat.div_le_self _ _) hle
  have HMk := hide (cmake_ok n v v2 gss sss w hA hS hR hRs h1 h12 h8 h8s hm (by rw [ezs]; exact hb) (by rw [ezg, ezs]; exact hb2))
  have HTell := hide (sizes_tell h12 hR hRs)
  rw [ezg] at HTell
  have HRN : Hid (RowsN n (gss ++ sss)) := fun y hy => by
    rcases List.mem_append.1 hy with hy | hy
    · exact hR y hy
    · exact hRs y hy
  have hgz := gchk_rows h1 h12 hR
  have hsz := gchk_rows h1 h12 hRs
  have HM1 : Hid (∀ w', Below w.heap.size w w' → Calls Try.prog 15 #[.int .i64 n, v] w' fun e w'' => e = .returned (.int .i64 0) ∧ w' = w'') := fun w' hb => by have := gensMay_ok n v gss w' (hA.below hb) h1 h12 h8; rwa [hgz] at this
  have HM2 : Hid (∀ w', Below w.heap.size w w' → Calls Try.prog 15 #[.int .i64 n, v2] w' fun e w'' => e = .returned (.int .i64 0) ∧ w' = w'') := fun w' hb => by have := gensMay_ok n v2 sss w' (hS.below hb) h1 h12 h8s; rwa [hsz] at this
  have HSz1 : Hid (∀ w', Below w.heap.size w w' → Calls Try.prog 17 #[.int .i64 n, v] w' fun e w'' => e = .returned (.int .i64 (zg : Int)) ∧ Below w'.heap.size w' w'') := fun w' hb => by have := sizes_ok n v gss w' (hA.below hb) hR h1 h12 (by omega); rwa [ezg] at this
  have HSz2 : Hid (∀ w', Below w.heap.size w w' → Calls Try.prog 17 #[.int .i64 n, v2] w' fun e w'' => e = .returned (.int .i64 (zs : Int)) ∧ Below w'.heap.size w' w'') := fun w' hb => by have := sizes_ok n v2 sss w' (hS.below hb) hRs h1 h12 (by omega); rwa [ezs] at this
  have HA := hide hA
  have HS := hide hS
  have HI := hide hI
  have HR := hide hR
  have HRS := hide hRs
  have HMM := hide hm
  obtain ⟨p3, c3, ep3⟩ := hI.form
  subst ep3
  clear hA hS hR hRs hgz hsz ezg ezs hqe hI
  go_enter Try.func5, Try.ntmps5
  go_wp2_with fail
  refine HMk.out.mono ?_
  rintro ex w1 ⟨u1, T, N, rfl, hT1, hRun, hb1⟩
  have HT1 := hide hT1
  have HRun := hide hRun
  obtain ⟨tb, _, _, _, _, _, _, _, _, _, _, _, _, _, rfl, _⟩ := hT1.mem
  clear hT1 hRun
  go_wp2_with fail
  refine (HM1.out w1 hb1).mono ?_
  rintro ex w2 ⟨rfl, rfl⟩
  go_wp2_with fail
  refine (HM2.out w1 hb1).mono ?_
  rintro ex w2 ⟨rfl, rfl⟩
  go_wp2_with fail
  refine (HSz1.out w1 hb1).mono ?_
  rintro ex w3 ⟨rfl, hb3⟩
  have hB3 := hb1.trans (hb3.mono hb1.size)
  go_wp2_with fail
  refine (HSz2.out w3 hB3).mono ?_
  rintro ex w4 ⟨rfl, hb4⟩
  have hB4 := hB3.trans (hb4.mono hB3.size)
  obtain ⟨vs, hV, hvl, hve⟩ := HA.out.below hB4
  obtain ⟨us, hU, hul, hue⟩ := HS.out.below hB4
  have HB14 := hide (hb3.trans (hb4.mono hb3.size))
  have HVE := hide hve
  have HVL := hide hvl
  have HUE := hide hue
  have HUL := hide hul
  have hvl8 : vs.length ≤ 8 := by omega
  have hul8 : us.length ≤ 8 := by omega
  have hs4 := hB4.size
  have hbE : Below w4.heap.size w4 (w4.alloc (.cells #[] 23)) := (Below.refl _ _).alloc (Nat.le_refl _) _
  have HVa := hide (hV.below hbE)
  have HCE := hide (vals_cells hvl hve)
  have HUa : Hid (∀ W, Below w4.heap.size w4 W → Vals W v2 us) := fun W hW => hU.below hW
  have HCU := hide (vals_cells hul hue)
  have HE5 : Hid ((w4.alloc (.cells #[] 23)).ownsRow w4.heap.size 23 1 (.slice (some ⟨w4.heap.size, 0, none⟩) 0 0) 0 []) := World.ownsRow_made w4 #[] 0 (Nat.le_refl _) (by decide) (by simp)
  have HMZ : Hid (w4.heap.size ≤ (w4.alloc (.cells #[] 23)).heap.size) := by unfold Hid; simp
  have HN1 : Hid (0 + vs.length ≤ maxLen) := by unfold Hid maxLen; omega
  have HN2 : Hid ((0 + vs.length) * 24 ≤ 140737488355328) := by unfold Hid; omega
  have HB4 := hide hB4
  clear hb1 hb3 hb4 hB3 hV hU hve hvl hue hul hbE hB4 HMk HM1 HM2 HSz1 HSz2
  go_wp2_with (at_builtin; refine wpList_append_want (by rfl) _ _ 22 rfl w4.heap.size 23 i0 (.slice none 0 0) 24 Try.underlying22 hi hz0 hz1 hz2 rfl _ _ _ rfl HE5.out v vs rfl HVa.out HCE.out HN1.out HN2.out HMZ.out ?_)
  intro v6 w6 hown6 hg6
  have hown6 : w6.ownsRow w4.heap.size 23 1 v6 vs.length vs := by simpa using hown6
  have hb6 : Below w4.heap.size w4 w6 := ((Below.refl _ _).alloc (Nat.le_refl _) _).grown hg6 (by simp) (fun k hk => by have e' : w4.heap.size = k := Option.some.inj hk; omega)
  have HO6 := hide hown6
  have HU6 := hide (HUa.out w6 hb6)
  have HN3 : Hid (vs.length + us.length ≤ maxLen) := by unfold Hid maxLen; omega
  have HN4 : Hid ((vs.length + us.length) * 24 ≤ 140737488355328) := by unfold Hid; omega
  have HN5 : Hid (w4.heap.size ≤ w6.heap.size) := hb6.size
  have HB6 := hide hb6
  clear hown6 hg6 hb6 HE5 HVa HCE HUa HN1 HN2 HMZ
  go_wp2_with (at_builtin; refine wpList_append_want (by rfl) _ _ 22 rfl w4.heap.size 23 i0 (.slice none 0 0) 24 Try.underlying22 hi hz0 hz1 hz2 rfl _ _ _ rfl HO6.out v2 us rfl HU6.out HCU.out HN3.out HN4.out HN5.out ?_)
  intro v7 w7 hown7 hg7
  have hb7 : Below w4.heap.size w4 w7 := HB6.out.grown hg7 HB6.out.size (fun k hk => (HO6.out.lt k hk).1)
  have hown7 : w7.ownsRow w4.heap.size 23 1 v7 (vs ++ us).length (vs ++ us) := by rw [List.length_append]; exact hown7
  have hA7 : IntsAll w7 v7 (gss ++ sss) := gens_both HVL.out HVE.out HUL.out HUE.out hb7 (Vals.own hown7)
  have HSz := hide (sizes_ok n v7 (gss ++ sss) w7 hA7 HRN.out h1 h12 (by rw [List.length_append]; omega))
  have HB7 := hide (HB4.out.trans (hb7.mono HB4.out.size))
  have HB47 := hide hb7
  clear hown7 hg7 hb7 hA7 HO6 HU6 HB6 HB4 HRN HCU HN3 HN4 HN5 HVE HVL HUE HUL
  generalize hsy : sz (Gen (fun y => y ∈ (gss ++ sss).map pad)) n = y at *
  clear hsy
  obtain rfl : zg = y := (HTell.out.2 (fun u hu => by obtain ⟨x, hx, rfl⟩ := List.mem_map.1 hu; exact hm x hx)).symm
  clear hm
  have g1 : decide ((1000 : Int) < (zs : Int)) = false := decide_eq_false (by omega)
  have g2 : decide ((1000 : Int) < (q : Int)) = false := decide_eq_false (by omega)
  obtain ⟨P, hP⟩ : ∃ P, P = zs * zg := ⟨_, rfl⟩
  have hPI : (zs : Int) * (zg : Int) = (P : Int) := by rw [hP]; simp
  have hPle : P ≤ 479001600000 := by rw [hP]; exact Nat.mul_le_mul hb hle
  have hPq : (P : Int).tdiv (zs : Int) = (zg : Int) := by rw [hP, ← Int.ofNat_tdiv, Nat.mul_div_cancel_left _ hzp]
  clear hP
  go_wp2_with fail
  refine HSz.out.mono ?_
  rintro ex w8 ⟨rfl, hb8⟩
  have HB8 := hide (HB7.out.trans (hb8.mono HB7.out.size))
  have hb18 : Below w1.heap.size w1 w8 := (HB14.out.trans (HB47.out.mono HB14.out.size)).trans (hb8.mono (HB14.out.trans (HB47.out.mono HB14.out.size)).size)
  have HT8 := hide (HT1.out.later hb18)
  have HCd := hide (closed_ok n 1000 v2 sss w8 (HS.out.below HB8.out) HRS.out h1 h12 (by omega) (by omega) (by omega))
  clear hb8 HSz HB7 hb18 HB14 HB47
  go_wp2_with fail
  refine HCd.out.mono ?_
  rintro ex w9 ⟨hb9, hcl⟩
  rcases hcl with ⟨vr, vw, Sr, rfl, hIr, hIw, hrun, hSl⟩ | ⟨rfl, Sr, hrok, hlong⟩
  rotate_left
  · exact absurd (found_few h12 HRS.out hrok) (by rw [HZ.out.s]; omega)
  have hB9 := HB8.out.trans (hb9.mono HB8.out.size)
  have HFd := hide (Found.of h12 HRS.out hrun)
  have HT9 := hide (HT8.out.later hb9)
  have hIr' : IntsAll w9 vr ((Sr.map (·.1)).map (cut n)) := by rw [List.map_map]; exact hIr
  have HIr := hide hIr'
  obtain ⟨X, x1, x2, x3⟩ := sz_list (Gen.sub (fun y => y ∈ gss.map pad)) h12 (fun x hx => gens_fix h12 HR.out hx)
  have HPa := hide (rparts_ok n v vr gss (Sr.map (·.1)) X (Gen (fun y => y ∈ sss.map pad)) w9 (HA.out.below hB9) HR.out hIr' (Gen.sub _) HFd.out.mem (fun h hh => gens_fix h12 HRS.out hh) h1 h12 (by omega) (by rw [List.length_map]; omega) (fun x hx => (x2 x).2 ((letters_gen 0 gss x).1 hx)) (by rw [x3, HZ.out.g]; omega))
  have HSX : Hid (T.length ≤ 5040) := by
    have h9 := (HRun.out.ok (Gen.sub _)).ok.few (Gen.sub _) (X := X) (fun x hx => (x2 x).2 ((letters_gen 0 gss x).1 hx))
    rw [x3, HZ.out.g] at h9
    exact Nat.le_trans h9 hsm
  clear hIr hIw hrun hb9 HT8 HB8 HCd x1 x2 x3
  go_wp2_with fail
  refine HPa.out.mono ?_
  rintro ex w10 ⟨vn, vw2, vr2, T', N', rfl, hRun', hIn, hIw2, hIr2, hb10⟩
  obtain ⟨eT, eN⟩ := RunC.unique hRun' HRun.out (Nat.le_refl _) (Nat.le_refl _)
  subst eT
  subst eN
  have hB10 := hB9.trans (hb10.mono hB9.size)
  have hT10 := HT9.out.later hb10
  have HT10 := hide hT10
  have HIr10 := hide (HIr.out.below hb10)
  have hO := hRun'.ok (Gen.sub _)
  have htl1 : 1 ≤ T'.length := (List.getElem?_eq_some_iff.1 hO.ok.first).1
  have HAl := hide (call_all (.pointer (some ⟨tb, 0, none⟩)) n _ T' N' w10 hT10 htl1 hO.len (by have := HSX.out; omega) (fun r hr => by
    obtain ⟨j, hj, ej⟩ := List.getElem_of_mem hr
    obtain ⟨ln, h1', h2', _⟩ := hRun'.cos (Gen.sub _) (i := j) (by have := hO.len; omega)
    rw [List.getElem?_eq_getElem hj] at h1'
    rw [← ej, Option.some.inj h1', h2']; omega) (fun e he => by have := hO.ok.short e he; have := HSX.out; omega))
  have HIn := hide hIn
  have HIw := hide hIw2
  have HIr2 := hide hIr2
  clear hIn hIw2 hIr2 hb10 hB9 HT9 HIr HPa hT10 hO htl1 hRun'
  go_wp2_with fail
  refine HAl.out.mono ?_
  rintro ex w11 ⟨un, uw, rfl, hJn, hJw, hb11⟩
  have hB11 := hB10.trans (hb11.mono hB10.size)
  have HT11 := hide (HT10.out.later hb11)
  have HIr11 := hide (HIr10.out.below hb11)
  have HIq11 := hide (HIr2.out.below hb11)
  have HSA1 := hide (sameAll_any un vn (N'.map natI) (N'.map natI) w11 hJn (HIn.out.below hb11))
  rw [decide_eq_true rfl] at HSA1
  have HJw := hide hJw
  have HIw11 := hide (HIw.out.below hb11)
  clear hJn hJw hb11 hB10 HT10 HIr10 HIr2 HIn HIw HAl
  go_wp2_with fail
  refine HSA1.out.mono ?_
  rintro ex w12 ⟨rfl, hb12⟩
  have hB12 := hB11.trans (hb12.mono hB11.size)
  have HT12 := hide (HT11.out.later hb12)
  have HIr12 := hide (HIr11.out.below hb12)
  have HIq12 := hide (HIq11.out.below hb12)
  have HSA2 := hide (sameAll_any uw vw2 (T'.map (·.2)) (T'.map (·.2)) w12 (HJw.out.below hb12) (HIw11.out.below hb12))
  rw [decide_eq_true rfl] at HSA2
  clear hb12 hB11 HT11 HIr11 HIq11 HSA1 HJw HIw11
  go_wp2_with fail
  refine HSA2.out.mono ?_
  rintro ex w13 ⟨rfl, hb13⟩
  have hB13 := hB12.trans (hb13.mono hB12.size)
  have HT13 := hide (HT12.out.later hb13)
  have HIr13 := hide (HIr12.out.below hb13)
  have HIq13 := hide (HIq12.out.below hb13)
  have HRM := hide (rowMay_any (.slice p3 xs.length c3) xs w13 (HI.out.below hB13))
  clear hb13 hB12 HT12 HIr12 HIq12 HSA2
  obtain ⟨x, hxe⟩ : ∃ x, x = pad xs := ⟨_, rfl⟩
  have hxr : isRow xs := by
    have h9 : rchk n xs = 0 := by unfold rchk; rw [if_pos hcx, if_pos hlx]
    exact (rchk_zero h9).1
  have hcut : cut n x = xs := by rw [hxe]; exact cut_pad h12 hlx hxr
  have HXF : Hid (Fixes (fun b => n ≤ b) x) := by rw [hxe]; exact pad_fixes h12 hlx hxr
  have hIx : Ints w13 (.slice p3 xs.length c3) (cut n x) := by rw [hcut]; exact HI.out.below hB13
  have HIX := hide hIx
  have HRC := hide (HRun.out.ok (Gen.sub _))
  have HOF : Hid (∀ W, Below w13.heap.size w13 W → Calls Try.prog 37 #[.pointer (some ⟨tb, 0, none⟩), .slice p3 xs.length c3] W fun e w' => e = .returned (.tuple #[.int .i64 (((ofP (Gen (fun y => y ∈ sss.map pad)) T' x).1 : Nat) : Int), .int .i64 (ofP (Gen (fun y => y ∈ sss.map pad)) T' x).2]) ∧ Below W.heap.size W w') := fun W hW => of_ok _ _ n _ T' N' x W (HT13.out.later hW) HXF.out (hIx.below hW)
  have HOE : Hid (ofP (Gen (fun y => y ∈ sss.map pad)) T' x = ofTo (Gen (fun y => y ∈ sss.map pad)) T' x T'.length) := rfl
  have HT0 := hide (ofTo_zero (Gen (fun y => y ∈ sss.map pad)) T' x)
  rw [hcx] at HRM
  rw [hlx] at *
  obtain ⟨tl, htl⟩ : ∃ tl, tl = T'.length := ⟨_, rfl⟩
  obtain ⟨p2, q2, e2⟩ := HIq13.out.len
  rw [List.length_map, ← htl] at e2
  rw [← htl] at HOE HSX
  obtain ⟨p1, q1', e1⟩ := HIr13.out.len
  rw [List.length_map] at e1
  subst e1
  subst e2
  generalize hHs : Sr.map (·.1) = Hs at *
  generalize hhl : Hs.length = hl at *
  have HHL := hide hhl
  have HTL : Hid (T'.length = tl) := htl.symm
  have HMEM := hide HFd.out.mem
  have hhl1 : hl ≤ 1000 := by have h9 : Sr.length = hl := (by rw [← hhl, ← hHs, List.length_map]); omega
  have htl5 : tl ≤ 5040 := HSX.out
  rw [hHs] at HMEM
  clear hcx hlx hxr hcut hxe hIx HFd HT13 hHs hhl htl HSX
  go_wp2_with fail
  refine HRM.out.mono ?_
  rintro ex w14 ⟨rfl, rfl⟩
  clear HRM
  go_wp2
  go_loopw [11, 21, 22] (fun sf sw sk wr => ∃ (k a : Nat) (f : Int), k ≤ tl ∧ sf = .int .i64 f ∧ sw = .int .i64 (a : Int) ∧ sk = .int .i64 (k : Int) ∧ Hid ((a, f) = ofTo (Gen (fun y => y ∈ sss.map pad)) T' x k) ∧ Below w13.heap.size w13 wr) (fun _ _ sk _ => tl - (intOf sk).toNat)
  case atStart => exact ⟨0, 0, 14, Nat.zero_le _, rfl, rfl, rfl, HT0.out.symm, Below.refl _ _⟩
  case round =>
    obtain ⟨k, a, f, hk, rfl, rfl, rfl, hof, hbk⟩ := hrel
    by_cases hkl : k < tl
    · obtain ⟨d, hd⟩ : ∃ d, T'[k]? = some d := ⟨_, List.getElem?_eq_getElem (by rw [HTL.out]; exact hkl)⟩
      have HDF : Hid (Fixes (fun b => n ≤ b) d.1) := gens_fix h12 HR.out ((letters_gen 0 gss _).1 (HRC.out.ok.gen d (List.mem_of_getElem? hd)))
      obtain ⟨gr, or, epr, -, hr1, hr2, hr3, hr4⟩ := HIq13.out.rowI (by rw [List.length_map, HTL.out]; omega)
      rw [List.length_map, HTL.out] at hr1
      subst epr
      obtain ⟨ur, hcr, hIr⟩ := hr4 k (cut n d.1) (by rw [List.getElem?_map, hd]; rfl)
      have hcr' := (hbk.cell (p := ⟨gr, or + k, none⟩) hr3).trans hcr
      have HUn := hide (rcut_undo n d.1 ur wr h1 h12 HDF.out (hIr.below hbk))
      obtain ⟨pu, cu, epu⟩ := hIr.form
      rw [cut_length h12] at epu
      subst epu
      have HD := hide hd
      clear hr4 hIr hcr hd
      go_wp2_with fail
      refine HUn.out.mono ?_
      rintro ex w15 ⟨u15, rfl, hown15, hb15⟩
      have hbk5 := hbk.trans (hb15.mono hbk.size)
      have HBy := hide (rcut_by n x d.1⁻¹ (.slice p3 n c3) u15 w15 h1 h12 HXF.out ((fixes_sub _).inv HDF.out) (HIX.out.below hbk5) (Ints.own hown15))
      obtain ⟨p5, c5, e5⟩ := owns_slice hown15
      subst e5
      clear hown15 hb15 HUn
      go_wp2_with fail
      refine HBy.out.mono ?_
      rintro ex w16 ⟨u16, rfl, hown16, hb16⟩
      have hbk6 := hbk5.trans (hb16.mono hbk5.size)
      have HI6 := hide (Ints.own hown16)
      obtain ⟨p6, c6, e6⟩ := owns_slice hown16
      subst e6
      have HYF : Hid (Fixes (fun b => n ≤ b) (x * d.1⁻¹)) := (fixes_sub _).mul HXF.out ((fixes_sub _).inv HDF.out)
      have HBK6 := hide hbk6
      clear hown16 hb16 hbk5 hbk HBy hbk6
      go_wp2
      go_loopw [11, 21, 24] (fun sf sw sm wr => ∃ (m : Nat) (t : Bool), m ≤ hl ∧ sf = .int .i64 (cond t 0 f) ∧ sw = .int .i64 (cond t (k : Int) (a : Int)) ∧ sm = .int .i64 (m : Int) ∧ Hid (t = true ↔ x * d.1⁻¹ ∈ Hs.take m) ∧ Below w16.heap.size w16 wr) (fun _ _ sm _ => hl - (intOf sm).toNat)
      case atStart => exact ⟨0, false, Nat.zero_le _, rfl, rfl, rfl, by unfold Hid; simp, Below.refl _ _⟩
      case round =>
        obtain ⟨m, t, hm, rfl, rfl, rfl, ht, hbm⟩ := hrel
        by_cases hml : m < hl
        · obtain ⟨z, hzm⟩ : ∃ z, Hs[m]? = some z := ⟨_, List.getElem?_eq_getElem (by rw [HHL.out]; exact hml)⟩
          have hbm13 := HBK6.out.trans (hbm.mono HBK6.out.size)
          obtain ⟨gs, os, eps, -, hs1, hs2, hs3, hs4⟩ := HIr13.out.rowI (by rw [List.length_map, HHL.out]; omega)
          rw [List.length_map, HHL.out] at hs1
          subst eps
          obtain ⟨us, hcs, hIs⟩ := hs4 m (cut n z) (by rw [List.getElem?_map, hzm]; rfl)
          have hcs' := (hbm13.cell (p := ⟨gs, os + m, none⟩) hs3).trans hcs
          have HSm := hide (same_any us (.slice p6 n c6) (cut n z) (cut n (x * d.1⁻¹)) wr (hIs.below hbm13) (HI6.out.below hbm))
          obtain ⟨ps, cs, eps2⟩ := hIs.form
          rw [cut_length h12] at eps2
          subst eps2
          have HZF : Hid (Fixes (fun b => n ≤ b) z) := gens_fix h12 HRS.out ((HMEM.out z).1 (List.mem_of_getElem? hzm))
          have htk : Hs.take (m + 1) = Hs.take m ++ [z] := by rw [List.take_add_one, hzm]; rfl
          have HTN : Hid (z = x * d.1⁻¹ → x * d.1⁻¹ ∈ Hs.take (m + 1)) := fun e => by rw [htk, ← e]; simp
          have HTO : Hid (z ≠ x * d.1⁻¹ → (t = true ↔ x * d.1⁻¹ ∈ Hs.take (m + 1))) := fun e => by
            rw [htk, List.mem_append, List.mem_singleton, ← ht.out]
            exact ⟨Or.inl, fun h => h.elim id (fun h => absurd h.symm e)⟩
          have HCI : Hid (cut n z = cut n (x * d.1⁻¹) → z = x * d.1⁻¹) := fun e => cut_inj h12 HZF.out HYF.out e
          clear hs4 hIs hcs hzm htk ht
          by_cases heq : cut n z = cut n (x * d.1⁻¹)
          · rw [decide_eq_true heq] at HSm
            have HT2 : Hid (x * d.1⁻¹ ∈ Hs.take (m + 1)) := HTN.out (HCI.out heq)
            clear heq HTN HTO HCI
            go_wp2_with fail
            refine HSm.out.mono ?_
            rintro ex w17 ⟨rfl, hb17⟩
            have HB17 := hide (hbm.trans (hb17.mono hbm.size))
            clear hb17 hbm hbm13 HSm
            go_wp2
            go_roundw
            case rel =>
              have hfin : ∃ (m' : Nat) (t : Bool), m' ≤ hl ∧ Value.int .i64 0 = .int .i64 (cond t 0 f) ∧ Value.int .i64 (k : Int) = .int .i64 (cond t (k : Int) (a : Int)) ∧ Value.int .i64 ((m : Int) + 1) = .int .i64 (m' : Int) ∧ Hid (t = true ↔ x * d.1⁻¹ ∈ Hs.take m') ∧ Below w16.heap.size w16 w17 := ⟨m + 1, true, hml, rfl, rfl, by go_num, ⟨fun _ => HT2.out, fun _ => rfl⟩, HB17.out⟩
              first
                | exact hfin
                | ((repeat apply Exists.intro); exact ⟨hfin, rfl⟩)
            case measure => simp [intOf]; omega
          · rw [decide_eq_false heq] at HSm
            have HT2 : Hid (t = true ↔ x * d.1⁻¹ ∈ Hs.take (m + 1)) := HTO.out (fun e => heq (by rw [e]))
            clear heq HTN HTO HCI
            generalize hcf : cond t 0 f = cf at *
            generalize hcw : cond t (k : Int) (a : Int) = cw at *
            have HCF := hide hcf
            have HCW := hide hcw
            clear hcf hcw
            go_wp2_with fail
            refine HSm.out.mono ?_
            rintro ex w17 ⟨rfl, hb17⟩
            have HB17 := hide (hbm.trans (hb17.mono hbm.size))
            clear hb17 hbm hbm13 HSm
            go_wp2
            go_roundw
            case rel =>
              have hfin : ∃ (m' : Nat) (t : Bool), m' ≤ hl ∧ Value.int .i64 cf = .int .i64 (cond t 0 f) ∧ Value.int .i64 cw = .int .i64 (cond t (k : Int) (a : Int)) ∧ Value.int .i64 ((m : Int) + 1) = .int .i64 (m' : Int) ∧ Hid (t = true ↔ x * d.1⁻¹ ∈ Hs.take m') ∧ Below w16.heap.size w16 w17 := ⟨m + 1, t, hml, by rw [HCF.out], by rw [HCW.out], by go_num, HT2, HB17.out⟩
              first
                | exact hfin
                | ((repeat apply Exists.intro); exact ⟨hfin, rfl⟩)
            case measure => simp [intOf]; omega
        · obtain rfl : hl = m := by omega
          have htm : t = true ↔ Gen (fun y => y ∈ sss.map pad) (x * d.1⁻¹) := by
            have h9 := ht.out
            rw [← HHL.out, List.take_length] at h9
            exact h9.trans (HMEM.out _)
          have HBm := hide (HBK6.out.trans (hbm.mono HBK6.out.size))
          cases t with
          | true =>
            have HO2 : Hid ((k, (0 : Int)) = ofTo (Gen (fun y => y ∈ sss.map pad)) T' x (k + 1)) := (ofTo_in (Gen.sub _) HRC.out.ok HD.out (htm.1 rfl)).symm
            clear htm ht hbm
            simp only [cond_true]
            go_wp2
            go_roundw
            case rel =>
              have hfin : ∃ (k' a' : Nat) (f' : Int), k' ≤ tl ∧ Value.int .i64 0 = .int .i64 f' ∧ Value.int .i64 (k : Int) = .int .i64 (a' : Int) ∧ Value.int .i64 ((k : Int) + 1) = .int .i64 (k' : Int) ∧ Hid ((a', f') = ofTo (Gen (fun y => y ∈ sss.map pad)) T' x k') ∧ Below w13.heap.size w13 wr := ⟨k + 1, k, 0, hkl, rfl, rfl, by go_num, HO2, HBm.out⟩
              first
                | exact hfin
                | ((repeat apply Exists.intro); exact ⟨hfin, rfl⟩)
            case measure => simp [intOf]; omega
          | false =>
            have HO2 : Hid ((a, f) = ofTo (Gen (fun y => y ∈ sss.map pad)) T' x (k + 1)) := by
              have h9 := ofTo_out HD.out (fun h => by have := htm.2 h; cases this)
              exact hof.out.trans h9.symm
            clear htm ht hbm
            simp only [cond_false]
            go_wp2
            go_roundw
            case rel =>
              have hfin : ∃ (k' a' : Nat) (f' : Int), k' ≤ tl ∧ Value.int .i64 f = .int .i64 f' ∧ Value.int .i64 (a : Int) = .int .i64 (a' : Int) ∧ Value.int .i64 ((k : Int) + 1) = .int .i64 (k' : Int) ∧ Hid ((a', f') = ofTo (Gen (fun y => y ∈ sss.map pad)) T' x k') ∧ Below w13.heap.size w13 wr := ⟨k + 1, a, f, hkl, rfl, rfl, by go_num, HO2, HBm.out⟩
              first
                | exact hfin
                | ((repeat apply Exists.intro); exact ⟨hfin, rfl⟩)
            case measure => simp [intOf]; omega
    · obtain rfl : tl = k := by omega
      have HO := hide (HOF.out wr hbk)
      have e9 : ofP (Gen (fun y => y ∈ sss.map pad)) T' x = (a, f) := HOE.out.trans hof.out.symm
      rw [e9] at HO
      have HBW := hide (hB13.trans (hbk.mono hB13.size))
      clear e9 hof HOF hbk
      go_wp2_with fail
      refine HO.out.mono ?_
      rintro ex w17 ⟨rfl, hb17⟩
      have HB17 := hide (HBW.out.trans (hb17.mono HBW.out.size))
      clear hb17 HO
      go_wp2
      go_ret
      exact ⟨rfl, HB17.out⟩


end Go.Proofs.Ytimfoggjocajiaa

/- CosetSays answers true at every input. -/
namespace Go.Proofs.Ytimfoggjocajiaa
open Go.RowKit

theorem cosetSays_any (n : Int) (v v2 v3 : Value) (gss sss : List (List Int)) (xs : List Int) (w : World) (hA : IntsAll w v gss) (hS : IntsAll w v2 sss) (hI : Ints w v3 xs) :
    Calls Try.prog 5 #[.int .i64 n, v, v2, v3] w fun e w' => Told w e w' := by
  by_cases hb : n < 1 ∨ 12 < n ∨ 8 < gss.length
  · refine cosetSays_no1 n v v2 v3 1 w (by decide) ?_ (fun w' hb' => gensMay_bad n v gss w' (hA.below hb') hb)
    refine (gcheck_bad n v gss w hA hb).mono ?_
    rintro e w'' ⟨rfl, rfl⟩
    exact ⟨rfl, Below.refl _ _⟩
  · obtain ⟨m, rfl⟩ := Int.eq_ofNat_of_zero_le (show 0 ≤ n by omega)
    have h1 : 1 ≤ m := by omega
    have h12 : m ≤ 12 := by omega
    have h8 : gss.length ≤ 8 := by omega
    by_cases hz : gchk m gss = 0
    · have hR := gchk_back hz
      by_cases h8s : sss.length ≤ 8
      · by_cases hz2 : gchk m sss = 0
        · have hRs := gchk_back hz2
          have hC := CSz.of h12 h1 hR hRs
          have hdv : (∀ x, x ∈ sss → Gen (fun y => y ∈ gss.map pad) (pad x)) → sz (Gen (fun y => y ∈ sss.map pad)) m ∣ sz (Gen (fun y => y ∈ gss.map pad)) m := fun hm => sz_dvd (Gen.sub _) (Gen.sub _) (fun x hx => hx.least (Gen.sub _) (fun y hy => by
            obtain ⟨z, hz, rfl⟩ := List.mem_map.1 hy
            exact hm z hz)) h12 (fun x hx => gens_fix h12 hR hx)
          generalize sz (Gen (fun y => y ∈ gss.map pad)) m = zg at *
          generalize sz (Gen (fun y => y ∈ sss.map pad)) m = zs at *
          by_cases hm : ∀ x, x ∈ sss → Gen (fun y => y ∈ gss.map pad) (pad x)
          · obtain ⟨q, hq⟩ := hdv hm
            have hqe : zg / zs = q := by rw [hq, Nat.mul_div_cancel_left _ hC.pos]
            rw [hqe] at hC
            by_cases hb1 : 1000 < zs
            · exact cosetSays_limit1 m v v2 v3 gss sss xs zg zs q w hA hS hI hR hRs h1 h12 h8 h8s hC hm hb1
            · by_cases hb2 : 1000 < q
              · refine cosetSays_limit2 m v v2 v3 gss sss xs zg zs q w hA hS hI hR hRs h1 h12 h8 h8s hC hm (by omega) ?_ hb2
                rw [hq, Nat.mul_comm]
                exact Nat.mul_lt_mul_of_pos_left hb2 hC.pos
              · have hb3 : zg ≤ 1000 * zs := by rw [hq, Nat.mul_comm]; exact Nat.mul_le_mul_right _ (by omega)
                by_cases hg : 5040 < zg
                · exact cosetSays_great m v v2 v3 gss sss xs zg zs q w hA hS hI hR hRs h1 h12 h8 h8s hC hm (by omega) hb3 (by omega) hg
                · by_cases hc : chk xs = 0
                  · by_cases hl : xs.length = m
                    · exact cosetSays_small3 m v v2 v3 gss sss xs zg zs q w hA hS hI hR hRs h1 h12 h8 h8s hC hm (by omega) hb3 (by omega) (by omega) hc hl
                    · exact cosetSays_small2 m v v2 v3 gss sss xs zg zs q w hA hS hI hR hRs h1 h12 h8 h8s hC hm (by omega) hb3 (by omega) (by omega) hc hl
                  · exact cosetSays_small1 m v v2 v3 gss sss xs zg zs q w hA hS hI hR hRs h1 h12 h8 h8s hC hm (by omega) hb3 (by omega) (by omega) hc
          · have hm' : ∃ x, x ∈ sss ∧ ¬ Gen (fun y => y ∈ gss.map pad) (pad x) := by
              apply Classical.byContradiction
              intro hno
              exact hm (fun x hx => Classical.byContradiction (fun hn => hno ⟨x, hx, hn⟩))
            exact cosetSays_member m v v2 v3 gss sss xs zg zs _ w hA hS hI hR hRs h1 h12 h8 h8s hC hm'
        · exact cosetSays_no2 m v v2 v3 gss _ w hA hR h1 h12 h8 hz2 (fun w' hb' => gcheck_ok m v2 sss w' (hS.below hb') h1 h12 h8s) (fun w' hb' => gensMay_ok m v2 sss w' (hS.below hb') h1 h12 h8s)
      · refine cosetSays_no2 m v v2 v3 gss 1 w hA hR h1 h12 h8 (by decide) (fun w' hb' => ?_) (fun w' hb' => gensMay_bad m v2 sss w' (hS.below hb') (by omega))
        refine (gcheck_bad m v2 sss w' (hS.below hb') (by omega)).mono ?_
        rintro e w'' ⟨rfl, rfl⟩
        exact ⟨rfl, Below.refl _ _⟩
    · exact cosetSays_no1 m v v2 v3 _ w hz (gcheck_ok m v gss w hA h1 h12 h8) (fun w' hb' => gensMay_ok m v gss w' (hA.below hb') h1 h12 h8)

theorem cosetSays_walk (n : Int) (v : Value) (gss : List (List Int)) (v2 : Value) (sss : List (List Int)) (v3 : Value) (xs : List Int) (w : World) (_ : I64 n) (hA : IntsAll w v gss) (hS : IntsAll w v2 sss) (hI : Ints w v3 xs) (_ : ∀ x, x ∈ xs → I64 x) :
    Calls Try.prog 5 #[.int .i64 n, v, v2, v3] w fun e w' => e = .returned (.bool true) ∧ Below w.heap.size w w' := cosetSays_any n v v2 v3 gss sss xs w hA hS hI

end Go.Proofs.Ytimfoggjocajiaa
