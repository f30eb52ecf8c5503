/- The walk of TopMirror: it answers true at every input. (Written by mkmirror.py.) -/
import Derived.Test.YtfhcelanjilbiaaMirM
import Derived.Test.YtfhcelanjilbiaaMethOf
import Derived.Deep.RegionHeld3
import Derived.Deep.QuietTactic
namespace Go.Proofs.Ytfhcelanjilbiaa
open Go.RowKit

theorem mirror_name : nm ⟨#[77, 105, 114, 114, 111, 114]⟩ = true := by decide +kernel

set_option maxRecDepth 20000 in
set_option maxHeartbeats 400000 in
theorem topMirror_long (v : Value) (xs : List Int) (a1 a2 a3 : Int) (w : World) (hi : Ints w v xs) (hl : 256 < xs.length) :
    Calls Try.prog 8 #[v, .int .i64 a1, .int .i64 a2, .int .i64 a3] w fun e w' => e = .returned (.bool true) ∧ Below w.heap.size w w' := by
  obtain ⟨p, c, rfl⟩ := hi.form
  clear hi
  go_enter Try.func8, Try.ntmps8
  go_wp2
  go_ret
  exact ⟨rfl, Below.refl _ _⟩

set_option maxRecDepth 100000 in
set_option maxHeartbeats 8000000 in
theorem topMirror_short (v : Value) (xs : List Int) (a1 a2 a3 : Int) (w : World) (hin : Ints w v xs) (hx : ∀ x, x ∈ xs → I64 x) (hl : xs.length ≤ 256) (h1 : I64 a1) (h2 : I64 a2) (h3 : I64 a3) :
    Calls Try.prog 8 #[v, .int .i64 a1, .int .i64 a2, .int .i64 a3] w fun e w' => e = .returned (.bool true) ∧ Below w.heap.size w w' := by
  obtain ⟨i0, hi, hz0, hz1, hz2⟩ := info_parts Try.info22
  obtain ⟨p0, c0, rfl⟩ := hin.form
  have HI := hide hin
  have HX := hide hx
  have H3 := hide h3
  obtain ⟨l1, u1⟩ := h1
  obtain ⟨l2, u2⟩ := h2
  clear hin hx h3
  go_enter Try.func8, Try.ntmps8
  go_wp2_with fail
  refine (pick_any _ _ _ l1 u1 (by omega) (by omega)).mono ?_
  rintro e wa ⟨q, hq0, hq1, rfl, rfl⟩
  obtain ⟨m0, rfl⟩ := Int.eq_ofNat_of_zero_le hq0
  go_wp2_with fail
  refine (pick_any _ _ _ l2 u2 (by omega) (by omega)).mono ?_
  rintro e wa ⟨q, hq2, hq3, rfl, rfl⟩
  obtain ⟨m1, rfl⟩ := Int.eq_ofNat_of_zero_le hq2
  go_wp2_with fail
  rw [show (2 + (m0 : Int)) = ((m0 + 2 : Nat) : Int) from by omega, show (1 + (m1 : Int)) = ((m1 + 1 : Nat) : Int) from by omega]
  generalize hn : m0 + 2 = n
  generalize hL : m1 + 1 = H
  have n1 : 2 ≤ n := by omega
  have n2 : n ≤ 12 := by omega
  have L1 : 1 ≤ H := by omega
  have L2 : H ≤ 20 := by omega
  clear hn hL hq0 hq1 hq2 hq3 l1 u1 l2 u2
  refine (changesOf_ok _ xs 0 n H _ HI.out HX.out (by omega) (by omega) (by omega) (by omega)).mono ?_
  rintro e w1 ⟨lv, vs, ts, rfl, hlen, hts, hLL, hb1⟩
  have hvl : vs.length = H := by rw [hLL.len, List.length_map, hlen]
  have hrow1 := hLL.row
  rw [hvl] at hrow1
  obtain ⟨g, lc, hle, hg1, hg2, hlc1, hlc2⟩ := owns_form hrow1 L1
  subst hle
  have hgty : ∃ cur, w1.heap[g]? = some (.cells cur 22) := by
    rcases hrow1.2 with ⟨h', _⟩ | ⟨g', cap', cur', h', _, hh, _⟩
    · cases h'
    · injection h' with e1; injection e1 with e1; injection e1 with e1; subst e1; exact ⟨cur', hh⟩
  have hba : Below w1.heap.size w1 (w1.alloc (.cells #[.string ⟨#[77, 105, 114, 114, 111, 114]⟩, .int .i64 (n : Int), .slice (some ⟨g, 0, none⟩) H lc] 66)) := (Below.refl _ _).alloc (Nat.le_refl _) _
  have HM0 : Hid (MirRel w (w1.alloc (.cells #[.string ⟨#[77, 105, 114, 114, 111, 114]⟩, .int .i64 (n : Int), .slice (some ⟨g, 0, none⟩) H lc] 66)) w1.heap.size n ⟨#[77, 105, 114, 114, 111, 114]⟩ g H vs (.slice (some ⟨g, 0, none⟩) H lc) vs (sofar ts (H - 1))) := by
    rw [← hlen, sofar_start]
    obtain ⟨cur, hcur⟩ := hgty
    refine ⟨by rw [hlen]; exact heap_alloc_new _ _, by rw [hlen]; exact hLL.below hba, by rw [hlen]; exact List.take_of_length_le (by omega), fun j hj => ?_, by simp; omega, ⟨cur, by rw [hlen]; exact (hba.block g hg2).trans hcur⟩, by rw [hlen]; exact hb1.alloc hb1.size _⟩
    rw [hlen]
    exact (hba.cell (p := ⟨g, j, none⟩) hg2).trans (owns_val hrow1 (by omega))
  have HTS := hide hts
  have HLE := hide hlen
  have hBm := hb1.size
  have hgB : g ≠ w1.heap.size := by omega
  have HHB : Hid (∀ k, k < vs.length → True) := fun _ _ => trivial
  have HVL := hide hvl
  clear hLL hrow1 hgty hba hts hlen hb1 hvl HHB
  go_wp2_with fail
  go_loopw [11] (fun i wr => ∃ (d : Nat) (u : Value) (us : List Value), d ≤ H - 1 ∧ i = .int .i64 ((d : Int) - 1) ∧ Hid (us.length = 2 * H - 1 - d) ∧ Hid (MirRel w wr w1.heap.size n ⟨#[77, 105, 114, 114, 111, 114]⟩ g H vs u us (sofar ts d))) (fun i _ => (intOf i + 1).toNat)
  case atStart => exact ⟨H - 1, _, vs, Nat.le_refl _, by congr 1; omega, (show _ = _ by rw [HVL.out]; omega), HM0⟩
  case round =>
    obtain ⟨d', u, us, hd, rfl, hul, hM⟩ := hrel
    clear HM0
    by_cases hlt : 1 ≤ d'
    · obtain ⟨d, rfl⟩ : ∃ d, d' = d + 1 := ⟨d' - 1, by omega⟩
      have hdt : d < ts.length := by rw [HLE.out]; omega
      have HSO : Hid (sofar ts d = sofar ts (d + 1) ++ [ts[d]]) := sofar_step (by rw [HLE.out]; omega)
      have hul' : us.length = 2 * H - 1 - (d + 1) := hul.out
      generalize hulq : 2 * H - 1 - (d + 1) = ul at *
      have hrow := hM.out.ll.row
      rw [hul'] at hrow
      obtain ⟨gu, uc, hue, hgu1, hgu2, huc1, huc2⟩ := owns_form hrow (by omega)
      subst hue
      -- the element
      have hcd := hM.out.cells d (by omega)
      have hdu : d < us.length := by omega
      have hxo := hM.out.ll.at (k := d) (by rw [List.length_map]; unfold sofar; simp; omega)
      have hxv : us.getD d undef = vs.getD d undef := by
        rw [← hM.out.pre]; simp [List.getD, show d < H by omega]
      have hxt : ((sofar ts (d + 1)).map tpl).getD d [] = tpl ts[d] := by
        unfold sofar
        rw [List.map_append]
        simp only [List.getD]
        rw [List.getElem?_append_left (by simpa using hdt), List.getElem?_map, List.getElem?_eq_getElem hdt]
        rfl
      rw [hxv, hxt] at hxo
      obtain ⟨xp, xc, hxe⟩ := owns_slice hxo
      generalize hxl : (tpl ts[d]).length = xl at *
      rw [hxe] at hcd hxo
      have hxc := hcd
      have gB2 := (cells3 hM.out.box).2.2.1
      have hbA : Below wr.heap.size wr (wr.alloc (.cells #[.slice xp xl xc] 22)).drew := ((Below.refl _ _).alloc (Nat.le_refl _) _).drew
      have hMA := hM.out.later hbA
      have hxA : (wr.alloc (.cells #[.slice xp xl xc] 22)).drew.ownsRow w.heap.size 3 1 (.slice xp xl xc) (tpl ts[d]).length ((tpl ts[d]).map (Value.int .i64)) := by rw [hxl]; exact owns_below hxo hbA (Nat.le_refl _)
      have hrowA := hMA.ll.row
      rw [hul'] at hrowA
      have hxcA := hMA.cells d (by omega)
      rw [hxe] at hxcA
      have HUE := hide hul'
      have HUL : Hid (ul + 1 = 2 * H - 1 - d) := by show _ = _; omega
      have hdH : d < H := by omega
      have hBl : w1.heap.size < wr.heap.size := (Array.getElem?_eq_some_iff.1 hM.out.box).1
      have hbs := hM.out.below.size
      rw [show (((d + 1 : Nat) : Int) - 1) = (d : Int) from by omega]
      go_wp2_with fail
      refine wp_region_held_drew (S := fun W' => W'.cell? ⟨g, d, none⟩ = some (.slice xp xl xc)) (by kernel_rfl) hxc (fun hS => ?_)
      refine wpAnyH_take (i := 0) (v := .pointer (some ⟨w1.heap.size, 2, none⟩)) rfl (by kernel_rfl) (by kernel_rfl) (by kernel_rfl) (fun _ _ _ h => h) (Or.inl ⟨by kernel_rfl, fun w' hS' => by clear hS'; go_simp⟩) hS ?_
      refine wpAnyH_take (i := 2) (v := .slice (some ⟨g, 0, none⟩) H lc) rfl (by kernel_rfl) (by kernel_rfl) (by kernel_rfl) (fun _ _ _ h => h) (Or.inl ⟨by kernel_rfl, fun w' hS' => by clear hS'; go_simp⟩) hS ?_
      refine wpAnyH_take (i := 3) (v := .int .i64 (d : Int)) rfl (by kernel_rfl) (by kernel_rfl) (by kernel_rfl) (fun _ _ _ h => h) (Or.inl ⟨by kernel_rfl, fun w' hS' => by clear hS'; go_simp⟩) hS ?_
      refine wpAnyH_take (i := 4) (v := .pointer (some ⟨g, d, none⟩)) rfl (by kernel_rfl) (by kernel_rfl) (by kernel_rfl) (fun _ _ _ h => h) (Or.inl ⟨by kernel_rfl, fun w' hS' => by clear hS'; go_simp⟩) hS ?_
      refine wpAnyH_take (i := 5) (v := .slice xp xl xc) rfl (by kernel_rfl) (by kernel_rfl) (by kernel_rfl) (fun _ _ _ h => h) (Or.inl ⟨by kernel_rfl, fun w' hS' => by have hq := hS'; clear hS'; go_simp⟩) hS ?_
      refine wpAnyH_ready (rs := [1, 6]) (by kernel_rfl) (by simp) ?_
      refine AllReadyH.cons rfl (fun K hK => ?_) (AllReadyH.cons rfl (fun K hK => ?_) AllReadyH.nil)
      · go_simp
        refine hK.out _ _ hxc (fun hS => ?_)
        clear hK
        refine wpAnyH_ready (rs := [6]) (by kernel_rfl) (by simp) ?_
        refine AllReadyH.cons rfl (fun K hK => ?_) AllReadyH.nil
        go_simp
        refine hK.out _ _ hxcA (fun hS => ?_)
        clear hK
        refine wpAnyH_ready (rs := [7]) (by kernel_rfl) (by simp) ?_
        refine AllReadyH.cons rfl (fun K hK => ?_) AllReadyH.nil
        refine step_append_keep rfl _ _ 25 rfl w.heap.size 22 i0 (.slice none 0 0) 1 24 Try.underlying25 hi hz0 hz1 hz2 rfl (by decide) _ ul us rfl hrowA ⟨wr.heap.size, 0, none⟩ 1 1 [.slice xp xl xc] rfl rfl (cell_one_new wr.drew _ _) (fun u hu => by simp at hu; subst hu; rfl) (by unfold maxLen; omega) (by omega) (by simp; omega) ?_
        intro v5 w5 hown5 hg5 hk5
        obtain ⟨hM6, hbox5⟩ := hMA.step hBm (by omega) hxA (by rw [HUE.out]; exact hown5) hg5 hk5
        obtain ⟨z0, z1, z2, f0, f1, f2⟩ := cells3 hbox5
        obtain ⟨g5, c5, rfl, _, _, _, _⟩ := owns_form hown5 (by omega)
        rw [← HSO.out] at hM6
        have hS6 := hM6.cells (d) (by omega)
        rw [hxe] at hS6
        have hS5 : w5.cell? ⟨g, d, none⟩ = some (.slice xp xl xc) := by
          rw [World.cell?_setCell_other _ _ _ _ (by intro e; simp only [Addr.mk.injEq] at e; exact hgB e.1.symm)] at hS6
          exact hS6
        refine hK.out _ _ hS5 (fun hS => ?_)
        clear hK
        refine wpAnyH_take (i := 8) (v := .pointer (some ⟨w1.heap.size, 2, none⟩)) rfl (by kernel_rfl) (by kernel_rfl) (by kernel_rfl) (fun _ _ _ h => h) (Or.inl ⟨by kernel_rfl, fun w' hS' => by clear hS'; go_simp⟩) hS ?_
        refine wpAnyH_ready (rs := [9]) (by kernel_rfl) (by simp) ?_
        refine AllReadyH.cons rfl (fun K hK => ?_) AllReadyH.nil
        go_simp
        refine hK.out _ _ hS6 (fun hS => ?_)
        clear hK
        refine wpAnyH_done (by kernel_rfl) ?_ _
        have HM6 := hide hM6
        have HLU : Hid ((us ++ [Value.slice xp xl xc]).length = 2 * H - 1 - d) := by show _ = _; rw [List.length_append, HUE.out]; exact HUL.out
        clear hS hM6 hown5 hg5 hk5
        go_wp2
        go_roundw
        case rel =>
          have hfin : ∃ (d' : Nat) (u : Value) (us : List Value), d' ≤ H - 1 ∧ Value.int .i64 ((d : Int) - 1) = .int .i64 ((d' : Int) - 1) ∧ Hid (us.length = 2 * H - 1 - d') ∧ Hid (MirRel w _ w1.heap.size n _ g H vs u us (sofar ts d')) := ⟨d, _, _, by omega, by go_num, HLU, HM6⟩
          first
            | exact hfin
            | ((repeat apply Exists.intro); exact ⟨hfin, rfl⟩)
        case measure => first | (simp [intOf]; done) | (simp [intOf]; omega)
      · go_simp
        refine hK.out _ _ hxcA (fun hS => ?_)
        clear hK
        refine wpAnyH_ready (rs := [1]) (by kernel_rfl) (by simp) ?_
        refine AllReadyH.cons rfl (fun K hK => ?_) AllReadyH.nil
        go_simp
        refine hK.out _ _ hxcA (fun hS => ?_)
        clear hK
        refine wpAnyH_ready (rs := [7]) (by kernel_rfl) (by simp) ?_
        refine AllReadyH.cons rfl (fun K hK => ?_) AllReadyH.nil
        refine step_append_keep rfl _ _ 25 rfl w.heap.size 22 i0 (.slice none 0 0) 1 24 Try.underlying25 hi hz0 hz1 hz2 rfl (by decide) _ ul us rfl hrowA ⟨wr.heap.size, 0, none⟩ 1 1 [.slice xp xl xc] rfl rfl (cell_one_new wr.drew _ _) (fun u hu => by simp at hu; subst hu; rfl) (by unfold maxLen; omega) (by omega) (by simp; omega) ?_
        intro v5 w5 hown5 hg5 hk5
        obtain ⟨hM6, hbox5⟩ := hMA.step hBm (by omega) hxA (by rw [HUE.out]; exact hown5) hg5 hk5
        obtain ⟨z0, z1, z2, f0, f1, f2⟩ := cells3 hbox5
        obtain ⟨g5, c5, rfl, _, _, _, _⟩ := owns_form hown5 (by omega)
        rw [← HSO.out] at hM6
        have hS6 := hM6.cells (d) (by omega)
        rw [hxe] at hS6
        have hS5 : w5.cell? ⟨g, d, none⟩ = some (.slice xp xl xc) := by
          rw [World.cell?_setCell_other _ _ _ _ (by intro e; simp only [Addr.mk.injEq] at e; exact hgB e.1.symm)] at hS6
          exact hS6
        refine hK.out _ _ hS5 (fun hS => ?_)
        clear hK
        refine wpAnyH_take (i := 8) (v := .pointer (some ⟨w1.heap.size, 2, none⟩)) rfl (by kernel_rfl) (by kernel_rfl) (by kernel_rfl) (fun _ _ _ h => h) (Or.inl ⟨by kernel_rfl, fun w' hS' => by clear hS'; go_simp⟩) hS ?_
        refine wpAnyH_ready (rs := [9]) (by kernel_rfl) (by simp) ?_
        refine AllReadyH.cons rfl (fun K hK => ?_) AllReadyH.nil
        go_simp
        refine hK.out _ _ hS6 (fun hS => ?_)
        clear hK
        refine wpAnyH_done (by kernel_rfl) ?_ _
        have HM6 := hide hM6
        have HLU : Hid ((us ++ [Value.slice xp xl xc]).length = 2 * H - 1 - d) := by show _ = _; rw [List.length_append, HUE.out]; exact HUL.out
        clear hS hM6 hown5 hg5 hk5
        go_wp2
        go_roundw
        case rel =>
          have hfin : ∃ (d' : Nat) (u : Value) (us : List Value), d' ≤ H - 1 ∧ Value.int .i64 ((d : Int) - 1) = .int .i64 ((d' : Int) - 1) ∧ Hid (us.length = 2 * H - 1 - d') ∧ Hid (MirRel w _ w1.heap.size n _ g H vs u us (sofar ts d')) := ⟨d, _, _, by omega, by go_num, HLU, HM6⟩
          first
            | exact hfin
            | ((repeat apply Exists.intro); exact ⟨hfin, rfl⟩)
        case measure => first | (simp [intOf]; done) | (simp [intOf]; omega)
    · obtain rfl : d' = 0 := by omega
      have hul' : us.length = 2 * H - 1 - 0 := hul.out
      generalize hulq : 2 * H - 1 - 0 = ul at *
      have hrow := hM.out.ll.row
      rw [hul'] at hrow
      obtain ⟨gu, uc, hue, hgu1, hgu2, huc1, huc2⟩ := owns_form hrow (by omega)
      subst hue
      have gB2 := (cells3 hM.out.box).2.2.1
      have HUE := hide hul'
      have hbs := hM.out.below.size
      have hBl : w1.heap.size < wr.heap.size := (Array.getElem?_eq_some_iff.1 hM.out.box).1
      go_wp2_with fail
      refine wp_region_held_drew (S := fun _ => True) (by kernel_rfl) trivial (fun hS => ?_)
      refine wpAnyH_take (i := 0) (v := .pointer (some ⟨w1.heap.size, 2, none⟩)) rfl (by kernel_rfl) (by kernel_rfl) (by kernel_rfl) (fun _ _ _ h => h) (Or.inl ⟨by kernel_rfl, fun w' hS' => by clear hS'; go_simp⟩) hS ?_
      refine wpAnyH_take (i := 2) (v := .int .i64 a3) rfl (by kernel_rfl) (by kernel_rfl) (by kernel_rfl) (fun _ _ _ h => h) (Or.inl ⟨by kernel_rfl, fun w' hS' => by clear hS'; go_simp⟩) hS ?_
      refine wpAnyH_take (i := 3) (v := .int .i64 (n : Int)) rfl (by kernel_rfl) (by kernel_rfl) (by kernel_rfl) (fun _ _ _ h => h) (Or.inl ⟨by kernel_rfl, fun w' hS' => by clear hS'; go_simp⟩) hS ?_
      refine wpAnyH_ready (rs := [1, 4]) (by kernel_rfl) (by simp) ?_
      refine AllReadyH.cons rfl (fun K hK => ?_) (AllReadyH.cons rfl (fun K hK => ?_) AllReadyH.nil)
      · go_simp
        refine hK.out _ _ trivial (fun hS => ?_)
        clear hK
        refine wpAnyH_ready (rs := [4]) (by kernel_rfl) (by simp) ?_
        refine AllReadyH.cons rfl (fun K hK => ?_) AllReadyH.nil
        go_simp
        refine (changeOf_ok a3 n _ H3.out (by omega) n2).mono ?_
        rintro ex wx ⟨xv, q, rfl, hq, hxo, hbx0⟩
        have hbx : Below wr.heap.size wr wx := ⟨hbx0.os, hbx0.tape, hbx0.output, hbx0.size, hbx0.block⟩
        have hxo1 : wx.ownsRow w.heap.size 3 1 xv (tpl q).length ((tpl q).map (Value.int .i64)) := owns_base hxo hbs
        obtain ⟨xp, xc, rfl⟩ := owns_slice hxo1
        have HQ := hide hq
        have hMx := hM.out.later hbx
        have gBx := (cells3 hMx.box).2.2.1
        have hBlx : w1.heap.size < wx.heap.size := Nat.lt_of_lt_of_le hBl hbx.size
        refine hK.out _ _ trivial (fun hS => ?_)
        clear hK hbx0 hq hxo
        refine wpAnyH_ready (rs := [5]) (by kernel_rfl) (by simp) ?_
        refine AllReadyH.cons rfl (fun K hK => ?_) AllReadyH.nil
        go_simp
        refine hK.out _ _ trivial (fun hS => ?_)
        clear hK
        have hbA : Below wx.heap.size wx (wx.alloc (.cells #[.slice xp (tpl q).length xc] 22)) := (Below.refl _ _).alloc (Nat.le_refl _) _
        have hMA := hMx.later hbA
        have hxA := owns_below hxo1 hbA (Nat.le_refl _)
        have hrowA := hMA.ll.row
        rw [hul'] at hrowA
        refine wpAnyH_ready (rs := [6]) (by kernel_rfl) (by simp) ?_
        refine AllReadyH.cons rfl (fun K hK => ?_) AllReadyH.nil
        refine step_append_keep rfl _ _ 25 rfl w.heap.size 22 i0 (.slice none 0 0) 1 24 Try.underlying25 hi hz0 hz1 hz2 rfl (by decide) _ ul us rfl hrowA ⟨wx.heap.size, 0, none⟩ 1 1 [.slice xp (tpl q).length xc] rfl rfl (cell_one_new wx _ _) (fun u hu => by simp at hu; subst hu; rfl) (by unfold maxLen; omega) (by omega) (by simp; have := hbx.size; omega) ?_
        intro v5 w5 hown5 hg5 hk5
        obtain ⟨hM6, hbox5⟩ := hMA.step hBm (by omega) hxA (by rw [HUE.out]; exact hown5) hg5 hk5
        obtain ⟨z0, z1, z2, f0, f1, f2⟩ := cells3 hbox5
        obtain ⟨g5, c5, rfl, _, _, _, _⟩ := owns_form hown5 (by omega)
        rw [sofar_end] at hM6
        refine hK.out _ _ trivial (fun hS => ?_)
        clear hK
        refine wpAnyH_take (i := 7) (v := .pointer (some ⟨w1.heap.size, 2, none⟩)) rfl (by kernel_rfl) (by kernel_rfl) (by kernel_rfl) (fun _ _ _ h => h) (Or.inl ⟨by kernel_rfl, fun w' hS' => by clear hS'; go_simp⟩) hS ?_
        refine wpAnyH_ready (rs := [8]) (by kernel_rfl) (by simp) ?_
        refine AllReadyH.cons rfl (fun K hK => ?_) AllReadyH.nil
        go_simp
        refine hK.out _ _ trivial (fun hS => ?_)
        clear hK
        refine wpAnyH_done (by kernel_rfl) ?_ _
        have hTS := HTS.out
        have hlt : 1 ≤ ts.length := by rw [HLE.out]; exact L1
        have hms : ∀ t, t ∈ pal ts ++ [q] → tsz t = n := by
          intro t ht
          rcases List.mem_append.1 ht with h | h
          · exact pal_mem hTS t h
          · rw [List.mem_singleton.1 h]; exact HQ.out
        have hml : (pal ts ++ [q]).length = ul + 1 := by
          rw [List.length_append, pal_length hlt, HLE.out]; simp; omega
        have HMir := hide (pal_mir hlt q)
        have HPT := hide (pal_twice hlt hTS)
        have HPR := hide (prd_row n (pal ts) (pal_mem hTS))
        have HTK : Hid ((pal ts ++ [q]).take ul = pal ts) := by
          show _ = _
          have hpl : (pal ts).length = ul := by have := hml; rw [List.length_append] at this; simp at this; omega
          rw [← hpl, List.take_left]
        have hB6 := hM6.below
        have hia := hM6.ll.ints
        obtain ⟨y0, y1, y2, _, _, _⟩ := cells3 hM6.box
        generalize w5.setCell ⟨w1.heap.size, 2, none⟩ (.slice (some ⟨g5, 0, none⟩) (ul + 1) c5) = w6 at *
        have hboxl : w1.heap.size < w6.heap.size := (Array.getElem?_eq_some_iff.1 hM6.box).1
        have HMI := hide (mirrored_ok ⟨#[77, 105, 114, 114, 111, 114]⟩ n _ ((pal ts ++ [q]).map tpl) w6 (by decide) mirror_name n1 n2 (by rw [List.length_map, hml]; omega) (by rw [List.length_map, hml]; omega) hia (fun k hk => tile_ok hms hk))
        have HLD := hide (fun W (hb : Below w6.heap.size w6 W) => lead_ok ⟨#[77, 105, 114, 114, 111, 114]⟩ n _ (pal ts ++ [q]) W (by decide) mirror_name n1 n2 (by rw [hml]; omega) (by rw [hml]; omega) hms (hia.below hb))
        rw [hml] at HLD
        generalize pal ts ++ [q] = ms at *
        clear hS hM6 hown5 hg5 hk5 hMA hMx hbA hxA hrowA hxo1 hbx gBx hbox5 z0 z1 z2 f0 f1 f2 hia hms hM gB2 HQ hrow hml
        go_wp2_with fail
        refine HMI.out.mono ?_
        rintro ex w7 ⟨bm, hbm, rfl, hb7⟩
        obtain rfl : bm = true := hbm.2 HMir.out
        have hy : ∀ j, w7.cell? ⟨w1.heap.size, j, none⟩ = w6.cell? ⟨w1.heap.size, j, none⟩ := fun j => hb7.cell (p := ⟨w1.heap.size, j, none⟩) hboxl
        have x0 := (hy 0).trans y0
        have x1 := (hy 1).trans y1
        have x2 := (hy 2).trans y2
        have hB7 := hB6.trans (hb7.mono hB6.size)
        clear hbm HMI HMir hy
        go_wp2_with fail
        refine (HLD.out _ hb7).mono ?_
        rintro ex w8 ⟨ru, rus, rfl, hL8, hb8⟩
        have hB8 := hB7.trans (hb8.mono hB7.size)
        obtain ⟨rb, ro, rc, hre, hrb, hrc1, hrc2, hrcell⟩ := hL8.ints.cell (by rw [leadTo_length]; omega)
        rw [leadTo_length] at hre hrc1 hrcell
        subst hre
        obtain ⟨rp, rcc, hcx, hix⟩ := hrcell ul (by omega)
        rw [leadTo_get (by omega), HTK.out] at hcx hix
        rw [HPR.out.2] at hcx hix
        have hx2' : w8.cell? ⟨w1.heap.size, 2, none⟩ = _ := (hb8.cell (p := ⟨w1.heap.size, 2, none⟩) (Nat.lt_of_lt_of_le hboxl hb7.size)).trans x2
        have hra : RowAt w8 (.slice rp n rcc) n (prd n (pal ts)) := ⟨hix.out, HPR.out.1, HPR.out.2⟩
        have HOR := hide (order_ord (by omega) n2 hra)
        have HO2 := hide (ord_le_two HPR.out.1 (by rw [HPR.out.2]; exact HPT.out))
        have hcz : ((ul : Int) + 1 + 1 - 2) = (ul : Int) := by omega
        clear hL8 hrcell hix hra HLD x0 x1 x2 y0 y1 y2 hb7 hb8 HTK HPR HPT
        go_wp2_with fail
        refine HOR.out.mono ?_
        rintro ex w9 ⟨rfl, ho1, ho2, hb9⟩
        have ho3 := HO2.out
        have hB9 := hB8.trans (hb9.mono hB8.size)
        generalize ord (prd n (pal ts)) = o at *
        clear HOR HO2
        go_wp2
        go_ret
        refine ⟨ret_bool ?_, hB9⟩
        first
          | rfl
          | (exact decide_eq_true (by omega))
      · go_simp
        refine (changeOf_ok a3 n _ H3.out (by omega) n2).mono ?_
        rintro ex wx ⟨xv, q, rfl, hq, hxo, hbx0⟩
        have hbx : Below wr.heap.size wr wx := ⟨hbx0.os, hbx0.tape, hbx0.output, hbx0.size, hbx0.block⟩
        have hxo1 : wx.ownsRow w.heap.size 3 1 xv (tpl q).length ((tpl q).map (Value.int .i64)) := owns_base hxo hbs
        obtain ⟨xp, xc, rfl⟩ := owns_slice hxo1
        have HQ := hide hq
        have hMx := hM.out.later hbx
        have gBx := (cells3 hMx.box).2.2.1
        have hBlx : w1.heap.size < wx.heap.size := Nat.lt_of_lt_of_le hBl hbx.size
        refine hK.out _ _ trivial (fun hS => ?_)
        clear hK hbx0 hq hxo
        refine wpAnyH_ready (rs := [1, 5]) (by kernel_rfl) (by simp) ?_
        refine AllReadyH.cons rfl (fun K hK => ?_) (AllReadyH.cons rfl (fun K hK => ?_) AllReadyH.nil)
        · go_simp
          refine hK.out _ _ trivial (fun hS => ?_)
          clear hK
          refine wpAnyH_ready (rs := [5]) (by kernel_rfl) (by simp) ?_
          refine AllReadyH.cons rfl (fun K hK => ?_) AllReadyH.nil
          go_simp
          refine hK.out _ _ trivial (fun hS => ?_)
          clear hK
          have hbA : Below wx.heap.size wx (wx.alloc (.cells #[.slice xp (tpl q).length xc] 22)) := (Below.refl _ _).alloc (Nat.le_refl _) _
          have hMA := hMx.later hbA
          have hxA := owns_below hxo1 hbA (Nat.le_refl _)
          have hrowA := hMA.ll.row
          rw [hul'] at hrowA
          refine wpAnyH_ready (rs := [6]) (by kernel_rfl) (by simp) ?_
          refine AllReadyH.cons rfl (fun K hK => ?_) AllReadyH.nil
          refine step_append_keep rfl _ _ 25 rfl w.heap.size 22 i0 (.slice none 0 0) 1 24 Try.underlying25 hi hz0 hz1 hz2 rfl (by decide) _ ul us rfl hrowA ⟨wx.heap.size, 0, none⟩ 1 1 [.slice xp (tpl q).length xc] rfl rfl (cell_one_new wx _ _) (fun u hu => by simp at hu; subst hu; rfl) (by unfold maxLen; omega) (by omega) (by simp; have := hbx.size; omega) ?_
          intro v5 w5 hown5 hg5 hk5
          obtain ⟨hM6, hbox5⟩ := hMA.step hBm (by omega) hxA (by rw [HUE.out]; exact hown5) hg5 hk5
          obtain ⟨z0, z1, z2, f0, f1, f2⟩ := cells3 hbox5
          obtain ⟨g5, c5, rfl, _, _, _, _⟩ := owns_form hown5 (by omega)
          rw [sofar_end] at hM6
          refine hK.out _ _ trivial (fun hS => ?_)
          clear hK
          refine wpAnyH_take (i := 7) (v := .pointer (some ⟨w1.heap.size, 2, none⟩)) rfl (by kernel_rfl) (by kernel_rfl) (by kernel_rfl) (fun _ _ _ h => h) (Or.inl ⟨by kernel_rfl, fun w' hS' => by clear hS'; go_simp⟩) hS ?_
          refine wpAnyH_ready (rs := [8]) (by kernel_rfl) (by simp) ?_
          refine AllReadyH.cons rfl (fun K hK => ?_) AllReadyH.nil
          go_simp
          refine hK.out _ _ trivial (fun hS => ?_)
          clear hK
          refine wpAnyH_done (by kernel_rfl) ?_ _
          have hTS := HTS.out
          have hlt : 1 ≤ ts.length := by rw [HLE.out]; exact L1
          have hms : ∀ t, t ∈ pal ts ++ [q] → tsz t = n := by
            intro t ht
            rcases List.mem_append.1 ht with h | h
            · exact pal_mem hTS t h
            · rw [List.mem_singleton.1 h]; exact HQ.out
          have hml : (pal ts ++ [q]).length = ul + 1 := by
            rw [List.length_append, pal_length hlt, HLE.out]; simp; omega
          have HMir := hide (pal_mir hlt q)
          have HPT := hide (pal_twice hlt hTS)
          have HPR := hide (prd_row n (pal ts) (pal_mem hTS))
          have HTK : Hid ((pal ts ++ [q]).take ul = pal ts) := by
            show _ = _
            have hpl : (pal ts).length = ul := by have := hml; rw [List.length_append] at this; simp at this; omega
            rw [← hpl, List.take_left]
          have hB6 := hM6.below
          have hia := hM6.ll.ints
          obtain ⟨y0, y1, y2, _, _, _⟩ := cells3 hM6.box
          generalize w5.setCell ⟨w1.heap.size, 2, none⟩ (.slice (some ⟨g5, 0, none⟩) (ul + 1) c5) = w6 at *
          have hboxl : w1.heap.size < w6.heap.size := (Array.getElem?_eq_some_iff.1 hM6.box).1
          have HMI := hide (mirrored_ok ⟨#[77, 105, 114, 114, 111, 114]⟩ n _ ((pal ts ++ [q]).map tpl) w6 (by decide) mirror_name n1 n2 (by rw [List.length_map, hml]; omega) (by rw [List.length_map, hml]; omega) hia (fun k hk => tile_ok hms hk))
          have HLD := hide (fun W (hb : Below w6.heap.size w6 W) => lead_ok ⟨#[77, 105, 114, 114, 111, 114]⟩ n _ (pal ts ++ [q]) W (by decide) mirror_name n1 n2 (by rw [hml]; omega) (by rw [hml]; omega) hms (hia.below hb))
          rw [hml] at HLD
          generalize pal ts ++ [q] = ms at *
          clear hS hM6 hown5 hg5 hk5 hMA hMx hbA hxA hrowA hxo1 hbx gBx hbox5 z0 z1 z2 f0 f1 f2 hia hms hM gB2 HQ hrow hml
          go_wp2_with fail
          refine HMI.out.mono ?_
          rintro ex w7 ⟨bm, hbm, rfl, hb7⟩
          obtain rfl : bm = true := hbm.2 HMir.out
          have hy : ∀ j, w7.cell? ⟨w1.heap.size, j, none⟩ = w6.cell? ⟨w1.heap.size, j, none⟩ := fun j => hb7.cell (p := ⟨w1.heap.size, j, none⟩) hboxl
          have x0 := (hy 0).trans y0
          have x1 := (hy 1).trans y1
          have x2 := (hy 2).trans y2
          have hB7 := hB6.trans (hb7.mono hB6.size)
          clear hbm HMI HMir hy
          go_wp2_with fail
          refine (HLD.out _ hb7).mono ?_
          rintro ex w8 ⟨ru, rus, rfl, hL8, hb8⟩
          have hB8 := hB7.trans (hb8.mono hB7.size)
          obtain ⟨rb, ro, rc, hre, hrb, hrc1, hrc2, hrcell⟩ := hL8.ints.cell (by rw [leadTo_length]; omega)
          rw [leadTo_length] at hre hrc1 hrcell
          subst hre
          obtain ⟨rp, rcc, hcx, hix⟩ := hrcell ul (by omega)
          rw [leadTo_get (by omega), HTK.out] at hcx hix
          rw [HPR.out.2] at hcx hix
          have hx2' : w8.cell? ⟨w1.heap.size, 2, none⟩ = _ := (hb8.cell (p := ⟨w1.heap.size, 2, none⟩) (Nat.lt_of_lt_of_le hboxl hb7.size)).trans x2
          have hra : RowAt w8 (.slice rp n rcc) n (prd n (pal ts)) := ⟨hix.out, HPR.out.1, HPR.out.2⟩
          have HOR := hide (order_ord (by omega) n2 hra)
          have HO2 := hide (ord_le_two HPR.out.1 (by rw [HPR.out.2]; exact HPT.out))
          have hcz : ((ul : Int) + 1 + 1 - 2) = (ul : Int) := by omega
          clear hL8 hrcell hix hra HLD x0 x1 x2 y0 y1 y2 hb7 hb8 HTK HPR HPT
          go_wp2_with fail
          refine HOR.out.mono ?_
          rintro ex w9 ⟨rfl, ho1, ho2, hb9⟩
          have ho3 := HO2.out
          have hB9 := hB8.trans (hb9.mono hB8.size)
          generalize ord (prd n (pal ts)) = o at *
          clear HOR HO2
          go_wp2
          go_ret
          refine ⟨ret_bool ?_, hB9⟩
          first
            | rfl
            | (exact decide_eq_true (by omega))
        · go_simp
          refine hK.out _ _ trivial (fun hS => ?_)
          clear hK
          refine wpAnyH_ready (rs := [1]) (by kernel_rfl) (by simp) ?_
          refine AllReadyH.cons rfl (fun K hK => ?_) AllReadyH.nil
          go_simp
          refine hK.out _ _ trivial (fun hS => ?_)
          clear hK
          have hbA : Below wx.heap.size wx (wx.alloc (.cells #[.slice xp (tpl q).length xc] 22)) := (Below.refl _ _).alloc (Nat.le_refl _) _
          have hMA := hMx.later hbA
          have hxA := owns_below hxo1 hbA (Nat.le_refl _)
          have hrowA := hMA.ll.row
          rw [hul'] at hrowA
          refine wpAnyH_ready (rs := [6]) (by kernel_rfl) (by simp) ?_
          refine AllReadyH.cons rfl (fun K hK => ?_) AllReadyH.nil
          refine step_append_keep rfl _ _ 25 rfl w.heap.size 22 i0 (.slice none 0 0) 1 24 Try.underlying25 hi hz0 hz1 hz2 rfl (by decide) _ ul us rfl hrowA ⟨wx.heap.size, 0, none⟩ 1 1 [.slice xp (tpl q).length xc] rfl rfl (cell_one_new wx _ _) (fun u hu => by simp at hu; subst hu; rfl) (by unfold maxLen; omega) (by omega) (by simp; have := hbx.size; omega) ?_
          intro v5 w5 hown5 hg5 hk5
          obtain ⟨hM6, hbox5⟩ := hMA.step hBm (by omega) hxA (by rw [HUE.out]; exact hown5) hg5 hk5
          obtain ⟨z0, z1, z2, f0, f1, f2⟩ := cells3 hbox5
          obtain ⟨g5, c5, rfl, _, _, _, _⟩ := owns_form hown5 (by omega)
          rw [sofar_end] at hM6
          refine hK.out _ _ trivial (fun hS => ?_)
          clear hK
          refine wpAnyH_take (i := 7) (v := .pointer (some ⟨w1.heap.size, 2, none⟩)) rfl (by kernel_rfl) (by kernel_rfl) (by kernel_rfl) (fun _ _ _ h => h) (Or.inl ⟨by kernel_rfl, fun w' hS' => by clear hS'; go_simp⟩) hS ?_
          refine wpAnyH_ready (rs := [8]) (by kernel_rfl) (by simp) ?_
          refine AllReadyH.cons rfl (fun K hK => ?_) AllReadyH.nil
          go_simp
          refine hK.out _ _ trivial (fun hS => ?_)
          clear hK
          refine wpAnyH_done (by kernel_rfl) ?_ _
          have hTS := HTS.out
          have hlt : 1 ≤ ts.length := by rw [HLE.out]; exact L1
          have hms : ∀ t, t ∈ pal ts ++ [q] → tsz t = n := by
            intro t ht
            rcases List.mem_append.1 ht with h | h
            · exact pal_mem hTS t h
            · rw [List.mem_singleton.1 h]; exact HQ.out
          have hml : (pal ts ++ [q]).length = ul + 1 := by
            rw [List.length_append, pal_length hlt, HLE.out]; simp; omega
          have HMir := hide (pal_mir hlt q)
          have HPT := hide (pal_twice hlt hTS)
          have HPR := hide (prd_row n (pal ts) (pal_mem hTS))
          have HTK : Hid ((pal ts ++ [q]).take ul = pal ts) := by
            show _ = _
            have hpl : (pal ts).length = ul := by have := hml; rw [List.length_append] at this; simp at this; omega
            rw [← hpl, List.take_left]
          have hB6 := hM6.below
          have hia := hM6.ll.ints
          obtain ⟨y0, y1, y2, _, _, _⟩ := cells3 hM6.box
          generalize w5.setCell ⟨w1.heap.size, 2, none⟩ (.slice (some ⟨g5, 0, none⟩) (ul + 1) c5) = w6 at *
          have hboxl : w1.heap.size < w6.heap.size := (Array.getElem?_eq_some_iff.1 hM6.box).1
          have HMI := hide (mirrored_ok ⟨#[77, 105, 114, 114, 111, 114]⟩ n _ ((pal ts ++ [q]).map tpl) w6 (by decide) mirror_name n1 n2 (by rw [List.length_map, hml]; omega) (by rw [List.length_map, hml]; omega) hia (fun k hk => tile_ok hms hk))
          have HLD := hide (fun W (hb : Below w6.heap.size w6 W) => lead_ok ⟨#[77, 105, 114, 114, 111, 114]⟩ n _ (pal ts ++ [q]) W (by decide) mirror_name n1 n2 (by rw [hml]; omega) (by rw [hml]; omega) hms (hia.below hb))
          rw [hml] at HLD
          generalize pal ts ++ [q] = ms at *
          clear hS hM6 hown5 hg5 hk5 hMA hMx hbA hxA hrowA hxo1 hbx gBx hbox5 z0 z1 z2 f0 f1 f2 hia hms hM gB2 HQ hrow hml
          go_wp2_with fail
          refine HMI.out.mono ?_
          rintro ex w7 ⟨bm, hbm, rfl, hb7⟩
          obtain rfl : bm = true := hbm.2 HMir.out
          have hy : ∀ j, w7.cell? ⟨w1.heap.size, j, none⟩ = w6.cell? ⟨w1.heap.size, j, none⟩ := fun j => hb7.cell (p := ⟨w1.heap.size, j, none⟩) hboxl
          have x0 := (hy 0).trans y0
          have x1 := (hy 1).trans y1
          have x2 := (hy 2).trans y2
          have hB7 := hB6.trans (hb7.mono hB6.size)
          clear hbm HMI HMir hy
          go_wp2_with fail
          refine (HLD.out _ hb7).mono ?_
          rintro ex w8 ⟨ru, rus, rfl, hL8, hb8⟩
          have hB8 := hB7.trans (hb8.mono hB7.size)
          obtain ⟨rb, ro, rc, hre, hrb, hrc1, hrc2, hrcell⟩ := hL8.ints.cell (by rw [leadTo_length]; omega)
          rw [leadTo_length] at hre hrc1 hrcell
          subst hre
          obtain ⟨rp, rcc, hcx, hix⟩ := hrcell ul (by omega)
          rw [leadTo_get (by omega), HTK.out] at hcx hix
          rw [HPR.out.2] at hcx hix
          have hx2' : w8.cell? ⟨w1.heap.size, 2, none⟩ = _ := (hb8.cell (p := ⟨w1.heap.size, 2, none⟩) (Nat.lt_of_lt_of_le hboxl hb7.size)).trans x2
          have hra : RowAt w8 (.slice rp n rcc) n (prd n (pal ts)) := ⟨hix.out, HPR.out.1, HPR.out.2⟩
          have HOR := hide (order_ord (by omega) n2 hra)
          have HO2 := hide (ord_le_two HPR.out.1 (by rw [HPR.out.2]; exact HPT.out))
          have hcz : ((ul : Int) + 1 + 1 - 2) = (ul : Int) := by omega
          clear hL8 hrcell hix hra HLD x0 x1 x2 y0 y1 y2 hb7 hb8 HTK HPR HPT
          go_wp2_with fail
          refine HOR.out.mono ?_
          rintro ex w9 ⟨rfl, ho1, ho2, hb9⟩
          have ho3 := HO2.out
          have hB9 := hB8.trans (hb9.mono hB8.size)
          generalize ord (prd n (pal ts)) = o at *
          clear HOR HO2
          go_wp2
          go_ret
          refine ⟨ret_bool ?_, hB9⟩
          first
            | rfl
            | (exact decide_eq_true (by omega))

theorem topMirror_walk (v : Value) (xs : List Int) (a1 a2 a3 : Int) (w : World) (hin : Ints w v xs) (hx : ∀ x, x ∈ xs → I64 x) (h1 : I64 a1) (h2 : I64 a2) (h3 : I64 a3) :
    Calls Try.prog 8 #[v, .int .i64 a1, .int .i64 a2, .int .i64 a3] w fun e w' => e = .returned (.bool true) ∧ Below w.heap.size w w' := by
  by_cases hl : xs.length ≤ 256
  · exact topMirror_short v xs a1 a2 a3 w hin hx hl h1 h2 h3
  · exact topMirror_long v xs a1 a2 a3 w hin (by omega)

end Go.Proofs.Ytfhcelanjilbiaa
