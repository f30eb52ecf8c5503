/- Joined: TpG, CpA, CpB, MdD, XtA. -/
import Derived.Test.YtenpkhalgkodbaaDoorJ7
import Derived.Test.YtenpkhalgkodbaaDoorJ0
import Derived.Shelf.Strings.Builder1
import Derived.Shelf.Utf8.AppendRunePlain
import Derived.Shelf.Strconv.Itoa1
import Derived.Test.YtenpkhalgkodbaaDoorJ6
/- Contract: the touch reader's closing. -/
namespace Go.Proofs.YtenpkhalgkodbaaDoor
open Go.RowKit
set_option maxRecDepth 20000
set_option linter.unusedVariables false

theorem owns_less {w : World} {base e g : Nat} {oc : Nat} {a b c d : Value} (h : w.ownsRow base e 2 (.slice (some ⟨g, 0, none⟩) 2 oc) 2 [a, b, c, d]) : w.ownsRow base e 2 (.slice (some ⟨g, 0, none⟩) 1 oc) 1 [a, b] := by
  refine ⟨rfl, ?_⟩
  rcases h.2 with ⟨h', _⟩ | ⟨g', cap, cur, h', hb, hh, hc, hm, hs, ht⟩
  · simp at h'
  · simp only [Value.slice.injEq, Option.some.injEq, Addr.mk.injEq, and_true, true_and] at h'
    obtain ⟨rfl, rfl⟩ := h'
    refine Or.inr ⟨g, oc, cur, rfl, hb, hh, by omega, hm, hs, ?_⟩
    have := congrArg (List.take 2) ht
    rw [List.take_take] at this
    simpa using this

/-- A bracket has been shut, its leads not yet put into the text. -/
theorem TsAt.shut {w : World} {B R o oc tm : Nat} {cv lv : Value} {ld : List Int} (h : TsAt w B R cv o oc lv ⟨0, true, tm, ld⟩) : TsAt (w.setCell ⟨R, 1, none⟩ (.slice (some ⟨o, 0, none⟩) 1 oc)) B R cv o oc (.slice none 0 0) ⟨0, false, 0, []⟩ := by
  refine ⟨?_, h.hB, ?_, World.ownsRow_nil _ _ _ _, fun _ => rfl⟩
  · rw [heap_setC h.blk]; rfl
  · exact ownsRow_setCell_other (a := ⟨R, 1, none⟩) (owns_less h.opn) (fun e => h.oR (Option.some.inj e)) _

set_option maxHeartbeats 6000000 in
theorem closing_ok (B R tm o oc : Nat) (cv lv : Value) (ld : List Int) (w : World) (h : TsAt w B R cv o oc lv ⟨0, true, tm, ld⟩) (hl : 1 ≤ ld.length) (ht : 1 ≤ tm) (ht2 : tm ≤ 400) (hm : ld.length * tm ≤ 400) (hBw : B ≤ w.heap.size) :
    Calls Tryd.prog 64 #[.pointer (some ⟨R, 0, none⟩)] w fun e w' => e = .returned (.int .i64 0) ∧ Ts w' B R cv ⟨0, false, 0, repL tm ld⟩ ∧ Bel B w w' := by
  have hlm : ld.length ≤ 400 := Nat.le_trans (Nat.le_mul_of_pos_right _ ht) hm
  have HWI : Hid (∀ W, Below w.heap.size w W → Calls Tryd.prog 67 #[.pointer (some ⟨R, 0, none⟩)] W fun e w' => e = .returned (.int .i64 1) ∧ w' = W) := fun W hW => within_ok B R o oc cv _ _ W (h.later hW)
  have c1 : w.cell? ⟨R, 1, none⟩ = some (.slice (some ⟨o, 0, none⟩) 2 oc) := h.c1
  have c2 : w.cell? ⟨R, 2, none⟩ = some (.int .i64 0) := h.c2
  have k2 : w.cell? ⟨o, 2, none⟩ = some (.int .i64 tm) := h.opn.cellAt 2 (by show 2 < 2 * 2; decide)
  have k3 : w.cell? ⟨o, 3, none⟩ = some lv := h.opn.cellAt 3 (by show 3 < 2 * 2; decide)
  have hoc : 2 ≤ oc := by
    rcases h.opn.2 with ⟨h', _⟩ | ⟨g, cap, cur, h', _, _, hc, _⟩
    · simp at h'
    · simp only [Value.slice.injEq, Option.some.injEq, Addr.mk.injEq, and_true, true_and] at h'
      unfold tsN at hc
      simp at hc
      omega
  obtain ⟨cc9, hc9, hBo9⟩ := h.oblk
  have hol : o < w.heap.size := (Array.getElem?_eq_some_iff.1 hc9).1
  have hRl := h.lt
  have hIn : Ints w lv ld := Ints.own h.own
  obtain ⟨lp, lc, rfl⟩ := owns_slice h.own
  have HI := hide hIn
  have HT := hide h
  obtain ⟨K, hK⟩ : ∃ K, ld.length = K := ⟨_, rfl⟩
  have HKE := hide hK
  rw [show (TSt.ld ⟨0, true, tm, ld⟩).length = K from hK] at k3 HT
  rw [show (TSt.ld ⟨0, true, tm, ld⟩).length = ld.length from rfl] at HI
  have hK0 : ¬ ((K : Int) = 0) := by omega
  have hd0 : Below w.heap.size w w.drew := (Below.refl _ _).drew
  have hA : Below w.heap.size w (w.alloc (.cells #[.int .i64 0, .slice none 0 0] 96)).drew := ((Below.refl w.heap.size w).alloc (Nat.le_refl _) _).drew
  have hA2 : Below w.heap.size w (w.alloc (.cells #[.int .i64 tm, .slice lp K lc] 96)).drew := ((Below.refl w.heap.size w).alloc (Nat.le_refl _) _).drew
  have h8 := heap_alloc_new w (.cells #[.int .i64 tm, .slice lp K lc] 96)
  have l0 : (w.alloc (.cells #[.int .i64 tm, .slice lp K lc] 96)).drew.cell? ⟨w.heap.size, 0, none⟩ = some (.int .i64 tm) := by show (w.alloc (.cells #[.int .i64 tm, .slice lp K lc] 96)).cell? _ = _; unfold World.cell?; simp only [h8]; rfl
  have l1 : (w.alloc (.cells #[.int .i64 tm, .slice lp K lc] 96)).drew.cell? ⟨w.heap.size, 1, none⟩ = some (.slice lp K lc) := by show (w.alloc (.cells #[.int .i64 tm, .slice lp K lc] 96)).cell? _ = _; unfold World.cell?; simp only [h8]; rfl
  have n1 := (hA2.cell (p := ⟨R, 1, none⟩) hRl).trans c1
  have n2 := (hA2.cell (p := ⟨R, 2, none⟩) hRl).trans c2
  have HNR : Hid (w.heap.size ≠ R) := fun e => by omega
  clear h8
  clear h hIn hc9 hK
  go_enter Tryd.func64, Tryd.ntmps64
  go_upto_region 1 with fail
  refine wp_region_held_drew (S := fun W' => W'.cell? ⟨R, 1, none⟩ = some (.slice (some ⟨o, 0, none⟩) 2 oc) ∧ W'.cell? ⟨o, 2, none⟩ = some (.int .i64 tm) ∧ W'.cell? ⟨o, 3, none⟩ = some (.slice lp K lc)) (by kernel_rfl) ⟨c1, k2, k3⟩ (fun hS => ?_)
  refine wpAnyH_take (i := 0) (v := .pointer (some ⟨R, 0, none⟩)) rfl (by kernel_rfl) (by kernel_rfl) (by kernel_rfl) (fun _ _ _ h => h) (Or.inl ⟨by kernel_rfl, fun w' hS' => by have q1 := hS'.1; have q2 := hS'.2.1; have q3 := hS'.2.2; clear hS'; go_simp⟩) hS ?_
  refine wpAnyH_take (i := 1) (v := .pointer (some ⟨R, 0, none⟩)) rfl (by kernel_rfl) (by kernel_rfl) (by kernel_rfl) (fun _ _ _ h => h) (Or.inl ⟨by kernel_rfl, fun w' hS' => by have q1 := hS'.1; have q2 := hS'.2.1; have q3 := hS'.2.2; clear hS'; go_simp⟩) hS ?_
  refine wpAnyH_take (i := 2) (v := .pointer (some ⟨R, 1, none⟩)) rfl (by kernel_rfl) (by kernel_rfl) (by kernel_rfl) (fun _ _ _ h => h) (Or.inl ⟨by kernel_rfl, fun w' hS' => by have q1 := hS'.1; have q2 := hS'.2.1; have q3 := hS'.2.2; clear hS'; go_simp⟩) hS ?_
  refine wpAnyH_take (i := 3) (v := .slice (some ⟨o, 0, none⟩) 2 oc) rfl (by kernel_rfl) (by kernel_rfl) (by kernel_rfl) (fun _ _ _ h => h) (Or.inl ⟨by kernel_rfl, fun w' hS' => by have q1 := hS'.1; have q2 := hS'.2.1; have q3 := hS'.2.2; clear hS'; go_simp⟩) hS ?_
  refine wpAnyH_take (i := 4) (v := .pointer (some ⟨R, 0, none⟩)) rfl (by kernel_rfl) (by kernel_rfl) (by kernel_rfl) (fun _ _ _ h => h) (Or.inl ⟨by kernel_rfl, fun w' hS' => by have q1 := hS'.1; have q2 := hS'.2.1; have q3 := hS'.2.2; clear hS'; go_simp⟩) hS ?_
  refine wpAnyH_take (i := 5) (v := .pointer (some ⟨R, 0, none⟩)) rfl (by kernel_rfl) (by kernel_rfl) (by kernel_rfl) (fun _ _ _ h => h) (Or.inl ⟨by kernel_rfl, fun w' hS' => by have q1 := hS'.1; have q2 := hS'.2.1; have q3 := hS'.2.2; clear hS'; go_simp⟩) hS ?_
  refine wpAnyH_take (i := 6) (v := .pointer (some ⟨R, 1, none⟩)) rfl (by kernel_rfl) (by kernel_rfl) (by kernel_rfl) (fun _ _ _ h => h) (Or.inl ⟨by kernel_rfl, fun w' hS' => by have q1 := hS'.1; have q2 := hS'.2.1; have q3 := hS'.2.2; clear hS'; go_simp⟩) hS ?_
  refine wpAnyH_take (i := 7) (v := .slice (some ⟨o, 0, none⟩) 2 oc) rfl (by kernel_rfl) (by kernel_rfl) (by kernel_rfl) (fun _ _ _ h => h) (Or.inl ⟨by kernel_rfl, fun w' hS' => by have q1 := hS'.1; have q2 := hS'.2.1; have q3 := hS'.2.2; clear hS'; go_simp⟩) hS ?_
  refine wpAnyH_take (i := 8) (v := .int .i64 2) rfl (by kernel_rfl) (by kernel_rfl) (by kernel_rfl) (fun _ _ _ h => h) (Or.inl ⟨by kernel_rfl, fun w' hS' => by have q1 := hS'.1; have q2 := hS'.2.1; have q3 := hS'.2.2; clear hS'; go_simp⟩) hS ?_
  refine wpAnyH_take (i := 9) (v := .int .i64 1) rfl (by kernel_rfl) (by kernel_rfl) (by kernel_rfl) (fun _ _ _ h => h) (Or.inl ⟨by kernel_rfl, fun w' hS' => by have q1 := hS'.1; have q2 := hS'.2.1; have q3 := hS'.2.2; clear hS'; go_simp; (try (rw [IntKind.wrap_i64]; omega))⟩) hS ?_
  refine wpAnyH_take (i := 10) (v := .pointer (some ⟨o, 2, none⟩)) rfl (by kernel_rfl) (by kernel_rfl) (by kernel_rfl) (fun _ _ _ h => h) (Or.inl ⟨by kernel_rfl, fun w' hS' => by have q1 := hS'.1; have q2 := hS'.2.1; have q3 := hS'.2.2; clear hS'; go_simp⟩) hS ?_
  refine wpAnyH_take (i := 11) (v := .agg #[.int .i64 tm, .slice lp K lc]) rfl (by kernel_rfl) (by kernel_rfl) (by kernel_rfl) (fun _ _ _ h => h) (Or.inl ⟨by kernel_rfl, fun w' hS' => by have q1 := hS'.1; have q2 := hS'.2.1; have q3 := hS'.2.2; clear hS'; go_simp⟩) hS ?_
  refine wpAnyH_ready (rs := [12]) (by kernel_rfl) (by simp) ?_
  refine (AllReadyH.cons rfl (fun K9 hK9 => ?_) AllReadyH.nil)
  go_simp
  refine hK9.out _ _ ⟨(hA.cell (p := ⟨R, 1, none⟩) hRl).trans c1, (hA.cell (p := ⟨o, 2, none⟩) hol).trans k2, (hA.cell (p := ⟨o, 3, none⟩) hol).trans k3⟩ (fun hS => ?_)
  clear hK9
  refine wpAnyH_ready (rs := [13]) (by kernel_rfl) (by simp) ?_
  refine (AllReadyH.cons rfl (fun K9 hK9 => ?_) AllReadyH.nil)
  go_simp
  refine hK9.out _ _ ⟨n1, (hA2.cell (p := ⟨o, 2, none⟩) hol).trans k2, (hA2.cell (p := ⟨o, 3, none⟩) hol).trans k3⟩ (fun hS => ?_)
  clear hK9
  refine wpAnyH_done (by kernel_rfl) ?_ _
  have HTL := hide (HT.out.later hA2)
  have HWL := hide (HWI.out _ hA2)
  have HBL : Hid (Bel B w (w.alloc (.cells #[.int .i64 tm, .slice lp K lc] 96)).drew) := Bel.of hA2 hBw
  clear hS hA HT HWI HI c1 c2 k2 k3 hA2
  generalize (w.alloc (.cells #[.int .i64 tm, .slice lp K lc] 96)).drew = wL at *
  generalize w.heap.size = lb at *
  go_wp2_with fail
  refine HWL.out.mono ?_
  rintro e w1 ⟨rfl, rfl⟩
  clear HWL
  have hdL : Below w1.heap.size w1 w1.drew := (Below.refl _ _).drew
  have n1d : w1.drew.cell? ⟨R, 1, none⟩ = some (.slice (some ⟨o, 0, none⟩) 2 oc) := n1
  have f1d : w1.drew.frozen? ⟨R, 1, none⟩ = false := HTL.out.frz 1
  have f1 : w1.frozen? ⟨R, 1, none⟩ = false := HTL.out.frz 1
  have HTS := hide ((HTL.out.shut).later ((Below.refl _ _).drew))
  have HOS : Hid (Ints (w1.setCell ⟨R, 1, none⟩ (.slice (some ⟨o, 0, none⟩) 1 oc)).drew (.slice lp K lc) ld) := Ints.own (ownsRow_setCell_other (a := ⟨R, 1, none⟩) HTL.out.own HTL.out.lR _).drew
  have s0 : (w1.setCell ⟨R, 1, none⟩ (.slice (some ⟨o, 0, none⟩) 1 oc)).drew.cell? ⟨lb, 0, none⟩ = some (.int .i64 tm) := by show (w1.setCell ⟨R, 1, none⟩ (.slice (some ⟨o, 0, none⟩) 1 oc)).cell? _ = _; rw [World.cell?_setCell_other _ _ _ _ (fun e => HNR.out (congrArg Addr.block e).symm)]; exact l0
  have s1 : (w1.setCell ⟨R, 1, none⟩ (.slice (some ⟨o, 0, none⟩) 1 oc)).drew.cell? ⟨lb, 1, none⟩ = some (.slice lp K lc) := by show (w1.setCell ⟨R, 1, none⟩ (.slice (some ⟨o, 0, none⟩) 1 oc)).cell? _ = _; rw [World.cell?_setCell_other _ _ _ _ (fun e => HNR.out (congrArg Addr.block e).symm)]; exact l1
  have HBS : Hid (Bel B w (w1.setCell ⟨R, 1, none⟩ (.slice (some ⟨o, 0, none⟩) 1 oc)).drew) := (HBL.out.setCell (p := ⟨R, 1, none⟩) HTL.out.hB _).drew
  have hsS : B ≤ (w1.setCell ⟨R, 1, none⟩ (.slice (some ⟨o, 0, none⟩) 1 oc)).drew.heap.size := by have := HTS.out.lt; have := HTS.out.hB; omega
  have HAD := hide (add_ok B R o oc cv _ _ _ ld tm _ HTS.out HOS.out hl ht ht2 (by show 0 + ld.length * tm ≤ 400; omega) hsS)
  clear HTS HOS HTL HBL hdL
  go_upto_region 4 with fail
  refine wp_region_held_drew (S := fun _ => True) (by kernel_rfl) trivial (fun _ => ?_)
  refine wpAnyH_take (i := 0) (v := .pointer (some ⟨R, 0, none⟩)) rfl (by kernel_rfl) (by kernel_rfl) (by kernel_rfl) (fun _ _ _ h => h) (Or.inl ⟨by kernel_rfl, fun w' hS' => by go_simp⟩) trivial ?_
  refine wpAnyH_take (i := 1) (v := .pointer (some ⟨R, 0, none⟩)) rfl (by kernel_rfl) (by kernel_rfl) (by kernel_rfl) (fun _ _ _ h => h) (Or.inl ⟨by kernel_rfl, fun w' hS' => by go_simp⟩) trivial ?_
  refine wpAnyH_take (i := 2) (v := .pointer (some ⟨R, 0, none⟩)) rfl (by kernel_rfl) (by kernel_rfl) (by kernel_rfl) (fun _ _ _ h => h) (Or.inl ⟨by kernel_rfl, fun w' hS' => by go_simp⟩) trivial ?_
  refine wpAnyH_take (i := 3) (v := .pointer (some ⟨R, 1, none⟩)) rfl (by kernel_rfl) (by kernel_rfl) (by kernel_rfl) (fun _ _ _ h => h) (Or.inl ⟨by kernel_rfl, fun w' hS' => by go_simp⟩) trivial ?_
  refine wpAnyH_take (i := 5) (v := .pointer (some ⟨R, 0, none⟩)) rfl (by kernel_rfl) (by kernel_rfl) (by kernel_rfl) (fun _ _ _ h => h) (Or.inl ⟨by kernel_rfl, fun w' hS' => by go_simp⟩) trivial ?_
  refine wpAnyH_take (i := 6) (v := .pointer (some ⟨R, 0, none⟩)) rfl (by kernel_rfl) (by kernel_rfl) (by kernel_rfl) (fun _ _ _ h => h) (Or.inl ⟨by kernel_rfl, fun w' hS' => by go_simp⟩) trivial ?_
  refine wpAnyH_take (i := 7) (v := .pointer (some ⟨R, 1, none⟩)) rfl (by kernel_rfl) (by kernel_rfl) (by kernel_rfl) (fun _ _ _ h => h) (Or.inl ⟨by kernel_rfl, fun w' hS' => by go_simp⟩) trivial ?_
  refine wpAnyH_ready (rs := [4, 8]) (by kernel_rfl) (by simp) ?_
  refine (AllReadyH.cons rfl (fun K9 hK9 => ?_) (AllReadyH.cons rfl (fun K9 hK9 => ?_) AllReadyH.nil))
  · go_simp
    refine hK9.out _ _ trivial (fun _ => ?_)
    clear hK9
    refine wpAnyH_ready (rs := [8]) (by kernel_rfl) (by simp) ?_
    refine (AllReadyH.cons rfl (fun K9 hK9 => ?_) AllReadyH.nil)
    go_simp
    refine hK9.out _ _ trivial (fun _ => ?_)
    clear hK9
    refine wpAnyH_take (i := 9) (v := .int .i64 2) rfl (by kernel_rfl) (by kernel_rfl) (by kernel_rfl) (fun _ _ _ h => h) (Or.inl ⟨by kernel_rfl, fun w' hS' => by go_simp⟩) trivial ?_
    refine wpAnyH_take (i := 10) (v := .int .i64 1) rfl (by kernel_rfl) (by kernel_rfl) (by kernel_rfl) (fun _ _ _ h => h) (Or.inl ⟨by kernel_rfl, fun w' hS' => by go_simp; (try (rw [IntKind.wrap_i64]; omega))⟩) trivial ?_
    refine wpAnyH_take (i := 11) (v := .slice (some ⟨o, 0, none⟩) 1 oc) rfl (by kernel_rfl) (by kernel_rfl) (by kernel_rfl) (fun _ _ _ h => h) (Or.inl ⟨by kernel_rfl, fun w' hS' => by go_simp; (intro h0; exact absurd h0 (by omega))⟩) trivial ?_
    refine wpAnyH_take (i := 12) (v := .pointer (some ⟨R, 0, none⟩)) rfl (by kernel_rfl) (by kernel_rfl) (by kernel_rfl) (fun _ _ _ h => h) (Or.inl ⟨by kernel_rfl, fun w' hS' => by go_simp⟩) trivial ?_
    refine wpAnyH_take (i := 13) (v := .pointer (some ⟨R, 1, none⟩)) rfl (by kernel_rfl) (by kernel_rfl) (by kernel_rfl) (fun _ _ _ h => h) (Or.inl ⟨by kernel_rfl, fun w' hS' => by go_simp⟩) trivial ?_
    refine wpAnyH_ready (rs := [14]) (by kernel_rfl) (by simp) ?_
    refine (AllReadyH.cons rfl (fun K9 hK9 => ?_) AllReadyH.nil)
    go_simp
    refine hK9.out _ _ trivial (fun _ => ?_)
    clear hK9
    refine wpAnyH_done (by kernel_rfl) ?_ _
    generalize (w1.setCell ⟨R, 1, none⟩ (.slice (some ⟨o, 0, none⟩) 1 oc)).drew = wS at *
    go_wp2_with fail
    refine HAD.out.mono ?_
    rintro e w6 ⟨rfl, h6, hb6⟩
    have HF : Hid (Ts w6 B R cv ⟨0, false, 0, repL tm ld⟩ ∧ Bel B w w6) := ⟨by rw [List.nil_append] at h6; exact h6, HBS.out.trans hb6⟩
    clear h6 hb6 HAD HBS
    go_wp2
    go_ret
    exact ⟨rfl, HF.out⟩
  · go_simp
    refine hK9.out _ _ trivial (fun _ => ?_)
    clear hK9
    refine wpAnyH_take (i := 9) (v := .int .i64 2) rfl (by kernel_rfl) (by kernel_rfl) (by kernel_rfl) (fun _ _ _ h => h) (Or.inl ⟨by kernel_rfl, fun w' hS' => by go_simp⟩) trivial ?_
    refine wpAnyH_take (i := 10) (v := .int .i64 1) rfl (by kernel_rfl) (by kernel_rfl) (by kernel_rfl) (fun _ _ _ h => h) (Or.inl ⟨by kernel_rfl, fun w' hS' => by go_simp; (try (rw [IntKind.wrap_i64]; omega))⟩) trivial ?_
    refine wpAnyH_ready (rs := [4]) (by kernel_rfl) (by simp) ?_
    refine (AllReadyH.cons rfl (fun K9 hK9 => ?_) AllReadyH.nil)
    go_simp
    refine hK9.out _ _ trivial (fun _ => ?_)
    clear hK9
    refine wpAnyH_take (i := 11) (v := .slice (some ⟨o, 0, none⟩) 1 oc) rfl (by kernel_rfl) (by kernel_rfl) (by kernel_rfl) (fun _ _ _ h => h) (Or.inl ⟨by kernel_rfl, fun w' hS' => by go_simp; (intro h0; exact absurd h0 (by omega))⟩) trivial ?_
    refine wpAnyH_take (i := 12) (v := .pointer (some ⟨R, 0, none⟩)) rfl (by kernel_rfl) (by kernel_rfl) (by kernel_rfl) (fun _ _ _ h => h) (Or.inl ⟨by kernel_rfl, fun w' hS' => by go_simp⟩) trivial ?_
    refine wpAnyH_take (i := 13) (v := .pointer (some ⟨R, 1, none⟩)) rfl (by kernel_rfl) (by kernel_rfl) (by kernel_rfl) (fun _ _ _ h => h) (Or.inl ⟨by kernel_rfl, fun w' hS' => by go_simp⟩) trivial ?_
    refine wpAnyH_ready (rs := [14]) (by kernel_rfl) (by simp) ?_
    refine (AllReadyH.cons rfl (fun K9 hK9 => ?_) AllReadyH.nil)
    go_simp
    refine hK9.out _ _ trivial (fun _ => ?_)
    clear hK9
    refine wpAnyH_done (by kernel_rfl) ?_ _
    generalize (w1.setCell ⟨R, 1, none⟩ (.slice (some ⟨o, 0, none⟩) 1 oc)).drew = wS at *
    go_wp2_with fail
    refine HAD.out.mono ?_
    rintro e w6 ⟨rfl, h6, hb6⟩
    have HF : Hid (Ts w6 B R cv ⟨0, false, 0, repL tm ld⟩ ∧ Bel B w w6) := ⟨by rw [List.nil_append] at h6; exact h6, HBS.out.trans hb6⟩
    clear h6 hb6 HAD HBS
    go_wp2
    go_ret
    exact ⟨rfl, HF.out⟩

end Go.Proofs.YtenpkhalgkodbaaDoor

/- Plain: how leads are told: runs of one call, each with its number. -/
namespace Go.Proofs.YtenpkhalgkodbaaDoor
open Go.RowKit

/-- A small number in decimal digits. -/
def decB (n : Nat) : List UInt8 := if n < 10 then [UInt8.ofNat (48 + n)] else [UInt8.ofNat (48 + n / 10), UInt8.ofNat (48 + n % 10)]

/-- The text of leads, of which so many of the first one's kind have gone by already. -/
def pF (sg : Nat → List UInt8) : Nat → List Nat → List UInt8
  | _, [] => []
  | n, x :: xs => if xs.head? = some x ∧ n + 1 < 99 then pF sg (n + 1) xs else (if 1 < n + 1 then decB (n + 1) else []) ++ sg x ++ pF sg 0 xs

/-- A run: so many of one kind, and then another one, or none, or enough. -/
structure Run (l : List Nat) (n run : Nat) : Prop where
  one : 1 ≤ run
  all : run ≤ l.length
  most : n + run ≤ 99
  same : ∀ j, j < run → l.getD j 0 = l.getD 0 0
  stop : run = l.length ∨ n + run = 99 ∨ l.getD run 0 ≠ l.getD 0 0

theorem pF_run (sg : Nat → List UInt8) : ∀ (run : Nat) (l : List Nat) (n : Nat), Run l n run → pF sg n l = (if 1 < n + run then decB (n + run) else []) ++ sg (l.getD 0 0) ++ pF sg 0 (l.drop run)
  | 0, l, n, h => absurd h.one (by omega)
  | 1, [], n, h => absurd h.all (by simp)
  | 1, x :: xs, n, h => by
    have hs := h.stop
    have hn : ¬ (xs.head? = some x ∧ n + 1 < 99) := by
      rintro ⟨h1, h2⟩
      rcases hs with h3 | h3 | h3
      · cases xs with
        | nil => cases h1
        | cons y ys => simp at h3
      · omega
      · cases xs with
        | nil => cases h1
        | cons y ys =>
          apply h3
          have : y = x := by simpa using h1
          subst this
          rfl
    rw [pF, if_neg hn]
    rfl
  | run + 2, [], n, h => absurd h.all (by simp)
  | run + 2, [x], n, h => absurd h.all (by simp)
  | run + 2, x :: y :: ys, n, h => by
    have hy : y = x := by
      have := h.same 1 (by omega)
      exact this
    subst hy
    have hm := h.most
    have hc : (y :: ys).head? = some y ∧ n + 1 < 99 := ⟨rfl, by omega⟩
    have hr : Run (y :: ys) (n + 1) (run + 1) := by
      refine ⟨by omega, by have := h.all; simp at this ⊢; omega, by omega, fun j hj => ?_, ?_⟩
      · have := h.same (j + 1) (by omega)
        exact this
      · rcases h.stop with h3 | h3 | h3
        · left; simp at h3 ⊢; omega
        · right; left; omega
        · right; right; exact h3
    have ih := pF_run sg (run + 1) (y :: ys) (n + 1) hr
    rw [pF, if_pos hc, ih]
    have e : n + 1 + (run + 1) = n + (run + 2) := by omega
    rw [e]
    rfl

theorem pF_top (sg : Nat → List UInt8) {l : List Nat} {run : Nat} (h : Run l 0 run) : pF sg 0 l = (if 1 < run then decB run else []) ++ sg (l.getD 0 0) ++ pF sg 0 (l.drop run) := by
  have := pF_run sg run l 0 h
  rwa [Nat.zero_add] at this

/-- One lead more, by what comes behind it. -/
theorem pF_step (sg : Nat → List UInt8) {l : List Nat} {i n : Nat} (hi : i < l.length) :
    pF sg n (l.drop i) = if i + 1 < l.length ∧ l.getD (i + 1) 0 = l.getD i 0 ∧ n + 1 < 99 then pF sg (n + 1) (l.drop (i + 1)) else (if 1 < n + 1 then decB (n + 1) else []) ++ sg (l.getD i 0) ++ pF sg 0 (l.drop (i + 1)) := by
  rw [List.drop_eq_getElem_cons hi, pF]
  have e : l.getD i 0 = l[i] := by simp [List.getD, hi]
  have hh : ((l.drop (i + 1)).head? = some l[i] ∧ n + 1 < 99) ↔ (i + 1 < l.length ∧ l.getD (i + 1) 0 = l.getD i 0 ∧ n + 1 < 99) := by
    rw [e]
    rcases Nat.lt_or_ge (i + 1) l.length with h1 | h1
    · rw [List.drop_eq_getElem_cons h1]
      simp [List.getD, h1]
    · rw [List.drop_eq_nil_of_le h1]
      simp
      omega
  by_cases hc : (l.drop (i + 1)).head? = some l[i] ∧ n + 1 < 99
  · rw [if_pos hc, if_pos (hh.1 hc)]
  · rw [if_neg hc, if_neg (fun h => hc (hh.2 h)), e]

theorem decB_length (n : Nat) : (decB n).length ≤ 2 := by
  unfold decB
  split <;> simp

theorem pF_length (sg : Nat → List UInt8) (h : ∀ x, (sg x).length ≤ 4) : ∀ (l : List Nat) (n : Nat), (pF sg n l).length ≤ 6 * l.length
  | [], n => by simp [pF]
  | x :: xs, n => by
    rw [pF]
    split
    · have := pF_length sg h xs (n + 1)
      simp; omega
    · have h1 := pF_length sg h xs 0
      have h2 := h x
      rw [List.length_append, List.length_append, List.length_cons]
      have h3 : (if 1 < n + 1 then decB (n + 1) else []).length ≤ 2 := by
        split
        · exact decB_length _
        · simp
      omega

end Go.Proofs.YtenpkhalgkodbaaDoor

/- strings.Builder's methods that call.Print calls; strconv.Itoa of a small number. -/
namespace Go.Proofs.YtenpkhalgkodbaaDoor
open Go.RowKit Go.Shelf
set_option maxRecDepth 100000
set_option linter.unusedVariables false

def rnB : Go.Shelf.Ren := ⟨fun | 169 => 34 | 242 => 53 | 278 => 76 | 283 => 83 | n => n,
  fun | 0 => 0 | 3 => 3 | 4 => 4 | 5 => 5 | 9 => 9 | 21 => 21 | 37 => 55 | 46 => 117 | 51 => 103 | 70 => 54 | 72 => 57 | 127 => 83 | n => n, fun | n => n⟩

theorem bl169 : Go.Proofs.Lays.n169 Tryd.prog rnB where
  mixed := by kernel_rfl
  f169 := by kernel_rfl
  t0 := by kernel_rfl
  a0 := fun w => by kernel_rfl
  z0 := fun w => by kernel_rfl
  v0 := fun w => by kernel_rfl
  t3 := by kernel_rfl
  a3 := fun w => by kernel_rfl
  z3 := fun w => by kernel_rfl
  v3 := fun w => by kernel_rfl
  t9 := by kernel_rfl
  a9 := fun w => by kernel_rfl
  z9 := fun w => by kernel_rfl
  v9 := fun w => by kernel_rfl
  t37 := by kernel_rfl
  a37 := fun w => by kernel_rfl
  z37 := fun w => by kernel_rfl
  v37 := fun w => by kernel_rfl
  t70 := by kernel_rfl
  a70 := fun w => by kernel_rfl
  z70 := fun w => by kernel_rfl
  v70 := fun w => by kernel_rfl
  t72 := by kernel_rfl
  a72 := fun w => by kernel_rfl
  z72 := fun w => by kernel_rfl
  v72 := fun w => by kernel_rfl
  t127 := by kernel_rfl
  a127 := fun w => by kernel_rfl
  z127 := fun w => by kernel_rfl
  v127 := fun w => by kernel_rfl

theorem bl242 : Go.Proofs.Lays.n242 Tryd.prog rnB where
  mixed := by kernel_rfl
  f242 := by kernel_rfl
  f278 := by kernel_rfl
  t4 := by kernel_rfl
  a4 := fun w => by kernel_rfl
  z4 := fun w => by kernel_rfl
  v4 := fun w => by kernel_rfl
  t5 := by kernel_rfl
  a5 := fun w => by kernel_rfl
  z5 := fun w => by kernel_rfl
  v5 := fun w => by kernel_rfl
  t21 := by kernel_rfl
  a21 := fun w => by kernel_rfl
  z21 := fun w => by kernel_rfl
  v21 := fun w => by kernel_rfl
  t37 := by kernel_rfl
  a37 := fun w => by kernel_rfl
  z37 := fun w => by kernel_rfl
  v37 := fun w => by kernel_rfl
  t46 := by kernel_rfl
  a46 := fun w => by kernel_rfl
  z46 := fun w => by kernel_rfl
  v46 := fun w => by kernel_rfl
  t51 := by kernel_rfl
  a51 := fun w => by kernel_rfl
  z51 := fun w => by kernel_rfl
  v51 := fun w => by kernel_rfl

theorem bl283 : Go.Proofs.Lays.n283 Tryd.prog rnB where
  mixed := by kernel_rfl
  f283 := by kernel_rfl
  t3 := by kernel_rfl
  a3 := fun w => by kernel_rfl
  z3 := fun w => by kernel_rfl
  v3 := fun w => by kernel_rfl
  t4 := by kernel_rfl
  a4 := fun w => by kernel_rfl
  z4 := fun w => by kernel_rfl
  v4 := fun w => by kernel_rfl
  t9 := by kernel_rfl
  a9 := fun w => by kernel_rfl
  z9 := fun w => by kernel_rfl
  v9 := fun w => by kernel_rfl

theorem Tryd.infoByte : (Tryd.prog.info? 5).map (fun i => (i.zero, i.size, i.bytes)) = some (some (.int .u8 0), 1, 1) := by kernel_rfl

theorem blX : Builder.Extra Tryd.prog rnB where
  sizeBuilder := by kernel_rfl
  liesBuilder := by kernel_rfl
  t5 := by kernel_rfl
  a5 := fun w => by kernel_rfl
  z5 := fun w => by kernel_rfl
  v5 := fun w => by kernel_rfl
  infoByte := by kernel_rfl
  cellsByte := by kernel_rfl
  sizeByte := by kernel_rfl
  neB5 := by decide

/-- A builder that holds these bytes: fresh, or used. -/
abbrev Bld (B b : Nat) (l : List UInt8) (w : World) : Prop := Lib.IsBuilder 57 5 B b (Lib.byteCells l) w

theorem bString_ok (B b : Nat) (l : List UInt8) (w : World) (h : Bld B b l w) (hBw : B ≤ w.heap.size) :
    Calls Tryd.prog 34 #[.pointer (some ⟨b, 0, none⟩)] w fun e w' => e = .returned (.string ⟨l.toArray⟩) ∧ Below B w w' := Any.Builder_String_any bl169 blX B b l w h hBw

theorem appendRune_ok (B : Nat) (v : Value) (n : Nat) (xs : List Value) (r : Int) (hr0 : -2147483648 ≤ r) (hr1 : r ≤ 2147483647) (w : World) (hown : w.ownsRow B 5 1 v n xs) (hlen : n + 4 ≤ 140737488355328) (hBw : B ≤ w.heap.size) :
    Calls Tryd.prog 53 #[v, .int .i32 r] w fun e w' => ∃ v', e = .returned v' ∧ w'.ownsRow B 5 1 v' (n + (Lib.runeCells r).length) (xs ++ Lib.runeCells r) ∧ ∃ o, (w.alloc o).grownBy w' v.ownBlock := Any.utf8_AppendRune_plain bl242 Tryd.infoByte B v n xs r hr0 hr1 w hown hlen hBw

theorem small_ok (i : Nat) (h : i < 100) (w : World) : Calls Tryd.prog 83 #[.int .i64 i] w fun e w' => e = .returned (.string ⟨(Lib.decDigits i).toArray⟩) ∧ w' = w := Any.internal_strconv_small bl283 i h w

set_option maxHeartbeats 1000000 in
theorem formatInt_small (i : Nat) (h : i < 100) (w : World) : Calls Tryd.prog 75 #[.int .i64 i, .int .i64 10] w fun e w' => e = .returned (.string ⟨(Lib.decDigits i).toArray⟩) ∧ w = w' := by
  have HS := hide (fun W => small_ok i h W)
  have h1 : (0 : Int) ≤ (i : Int) := by omega
  have h2 : (i : Int) < 100 := by omega
  generalize (⟨(Lib.decDigits i).toArray⟩ : ByteArray) = t at *
  go_enter Tryd.func75, Tryd.ntmps75
  go_wp2_with fail
  refine (HS.out _).mono ?_
  rintro e w' ⟨rfl, rfl⟩
  go_wp2
  go_ret
  exact ⟨rfl, rfl⟩

theorem itoaI_small (i : Nat) (h : i < 100) (w : World) : Calls Tryd.prog 52 #[.int .i64 i] w fun e w' => e = .returned (.string ⟨(Lib.decDigits i).toArray⟩) ∧ w = w' := by
  have HS := hide (fun W => formatInt_small i h W)
  generalize (⟨(Lib.decDigits i).toArray⟩ : ByteArray) = t at *
  go_enter Tryd.func52, Tryd.ntmps52
  go_wp2_with fail
  refine (HS.out _).mono ?_
  rintro e w' ⟨rfl, rfl⟩
  go_wp2
  go_ret
  exact ⟨rfl, rfl⟩

theorem itoa_small (i : Nat) (h : i < 100) (w : World) : Calls Tryd.prog 32 #[.int .i64 i] w fun e w' => e = .returned (.string ⟨(Lib.decDigits i).toArray⟩) ∧ w = w' := by
  have HS := hide (fun W => itoaI_small i h W)
  generalize (⟨(Lib.decDigits i).toArray⟩ : ByteArray) = t at *
  go_enter Tryd.func32, Tryd.ntmps32
  go_wp2_with fail
  refine (HS.out _).mono ?_
  rintro e w' ⟨rfl, rfl⟩
  go_wp2
  go_ret
  exact ⟨rfl, rfl⟩

theorem dec_digits {n : Nat} (h : n < 100) : Lib.decDigits n = decB n := by
  have : ∀ m : Fin 100, Lib.decDigits m.1 = decB m.1 := by decide +kernel
  exact this ⟨n, h⟩

set_option maxHeartbeats 1000000 in
theorem copyCheck_ok (B b : Nat) (bs : List Value) (w : World) (h : Lib.IsBuilder 57 5 B b bs w) :
    Calls Tryd.prog 51 #[.pointer (some ⟨b, 0, none⟩)] w fun e w' => e = .returned (.tuple #[]) ∧ Lib.BuilderAt 57 5 B b (.pointer (some ⟨b, 0, none⟩)) bs w' ∧ Below B w w' := by
  obtain ⟨j, hj, hjs⟩ := Option.map_eq_some_iff.1 blX.sizeBuilder
  have hj' : Tryd.prog.info? 57 = some j := hj
  rcases h with h | h
  · have h0 := h.cell0
    have hsh := h.shape
    have hfz := h.frozen0
    have HP := hide (h.used (.pointer (some ⟨b, 0, none⟩)))
    have HB := hide ((Below.refl B w).setCell (p := ⟨b, 0, none⟩) h.1 (.pointer (some ⟨b, 0, none⟩)))
    clear h
    go_enter Tryd.func51, Tryd.ntmps51
    go_wp2
    rw [Lib.run_to_unsafe w ⟨b, 0, none⟩ Tryd.underlying54 Tryd.underlying100 hj' (by rw [hjs]; decide) hsh (Nat.zero_lt_succ 1)]
    simp only [Result.andThen]
    rw [Oper.upon_value]
    go_wp2
    rw [run_callFunc_extern Tryd.func74 (by kernel_rfl) (by kernel_rfl) (by kernel_rfl) (e := Extern.AbiNoEscape.same) (by kernel_rfl)]
    rw [Lib.run_noEscape]
    simp only [Result.andThen]
    rw [Oper.upon_value]
    go_wp2
    rw [Lib.run_from_unsafe w ⟨b, 0, none⟩ Tryd.underlying100 Tryd.underlying54 hj' hsh blX.liesBuilder]
    simp only [Result.andThen]
    rw [Oper.upon_value]
    go_wp2
    go_end0
    exact ⟨rfl, HP.out, HB.out⟩
  · have h0 := h.cell0
    have HP := hide h
    clear h
    go_enter Tryd.func51, Tryd.ntmps51
    go_wp2
    rw [Lib.run_neq_ptr_same w _ Tryd.underlying54 hj']
    go_wp2
    go_end0
    exact ⟨rfl, HP.out, Below.refl _ _⟩

theorem owns_sl9 {w : World} {base e size n : Nat} {v : Value} {xs : List Value} (h : w.ownsRow base e size v n xs) : ∃ p c, v = .slice p n c := by
  rcases h.2 with ⟨h1, h2⟩ | ⟨g, cap, cur, h1, _⟩
  · exact ⟨none, 0, by rw [h1, h2]⟩
  · exact ⟨_, cap, h1⟩

theorem bld_lt {B b : Nat} {p v : Value} {t : TypeId} {w : World} (hbk : w.heap[b]? = some (.cells #[p, v] t (0, 0))) : b < w.heap.size := (Array.getElem?_eq_some_iff.1 hbk).1

set_option maxHeartbeats 2000000 in
theorem writeString_ok (B b : Nat) (l : List UInt8) (s : ByteArray) (w : World) (h : Bld B b l w) (hlen : l.length + s.size ≤ 140737488355328) (hBw : B ≤ w.heap.size) :
    Calls Tryd.prog 31 #[.pointer (some ⟨b, 0, none⟩), .string s] w fun e w' => e = .returned (.tuple #[.int .i64 s.size, .nilIface]) ∧ Bld B b (l ++ s.data.toList) w' ∧ Below B w w' := by
  obtain ⟨i0, hi, hz0, hz1, hz2⟩ := info_parts Tryd.infoByte
  have HCC := hide (copyCheck_ok B b (Lib.byteCells l) w h)
  clear h
  go_enter Tryd.func31, Tryd.ntmps31
  go_wp2_with fail
  refine HCC.out.mono ?_
  rintro e w1 ⟨rfl, ⟨hB, v, hbk, hown, hne⟩, hb1⟩
  have c0 : w1.cell? ⟨b, 0, none⟩ = some (.pointer (some ⟨b, 0, none⟩)) := by rw [Lib.cell_of_heap hbk]; rfl
  have c1 : w1.cell? ⟨b, 1, none⟩ = some v := by rw [Lib.cell_of_heap hbk]; rfl
  have hs1 := hb1.size
  rw [Lib.byteCells_length] at hown
  go_wp2_with (at_builtin; refine Lib.wpList_append_own_string _ rfl _ _ 55 9 rfl B 5 i0 Tryd.underlying55 Tryd.underlying9 hi hz0 hz1 hz2 _ _ _ rfl hown s rfl ?c3 ?c4 ?c5 ?_)
  case c3 => unfold maxLen; omega
  case c4 => omega
  case c5 => omega
  intro v' w2 hown' hgrow _
  have hlt := bld_lt (B := B) hbk
  have hb2 : w2.heap[b]? = some (.cells #[.pointer (some ⟨b, 0, none⟩), v] 57 (0, 0)) := by
    rw [hgrow.block b hlt (fun e => hne e.symm)]
    exact hbk
  have d0 : w2.cell? ⟨b, 0, none⟩ = some (.pointer (some ⟨b, 0, none⟩)) := by rw [Lib.cell_of_heap hb2]; rfl
  have d1 : w2.cell? ⟨b, 1, none⟩ = some v := by rw [Lib.cell_of_heap hb2]; rfl
  have f1 : w2.frozen? ⟨b, 1, none⟩ = false := Lib.frozen_of_heap hb2 1
  obtain ⟨ao, n', cap, rfl⟩ : ∃ ao n' cap, v' = .slice ao n' cap := by
    rcases hown'.2 with ⟨hv, _⟩ | ⟨g, cap, cur, hv, _⟩
    · exact ⟨_, _, _, hv⟩
    · exact ⟨_, _, _, hv⟩
  go_wp2
  go_ret2
  refine ⟨rfl, Or.inr ?_, ?_⟩
  · rw [Lib.byteCells_append, ← Lib.strCells_eq]
    exact Lib.BuilderAt.put (T := 57) (e := 5) hB hb2 (bs' := Lib.byteCells l ++ Lib.strCells s) (by simpa [Lib.strCells_length, Lib.byteCells_length] using hown') (by decide)
  · exact (hb1.grown hgrow (by omega) (fun k hk => (hown.lt k hk).1)).setCell (p := ⟨b, 1, none⟩) hB _

set_option maxHeartbeats 2000000 in
theorem writeRune_ok (B b : Nat) (l : List UInt8) (r : Int) (hr0 : -2147483648 ≤ r) (hr1 : r ≤ 2147483647) (w : World) (h : Bld B b l w) (hlen : l.length + 4 ≤ 140737488355328) (hBw : B ≤ w.heap.size) :
    Calls Tryd.prog 33 #[.pointer (some ⟨b, 0, none⟩), .int .i32 r] w fun e w' => (∃ x, e = .returned (.tuple #[x, .nilIface])) ∧ Bld B b (l ++ Lib.encodeRune r) w' ∧ Below B w w' := by
  have HCC := hide (copyCheck_ok B b (Lib.byteCells l) w h)
  clear h
  go_enter Tryd.func33, Tryd.ntmps33
  go_wp2_with fail
  refine HCC.out.mono ?_
  rintro e w1 ⟨rfl, ⟨hB, v, hbk, hown, hne⟩, hb1⟩
  have c0 : w1.cell? ⟨b, 0, none⟩ = some (.pointer (some ⟨b, 0, none⟩)) := by rw [Lib.cell_of_heap hbk]; rfl
  rw [Lib.byteCells_length] at hown
  obtain ⟨ap, ac, rfl⟩ := owns_sl9 hown
  have c1 : w1.cell? ⟨b, 1, none⟩ = some (.slice ap l.length ac) := by rw [Lib.cell_of_heap hbk]; rfl
  have hs1 := hb1.size
  have HAR := hide (appendRune_ok B (.slice ap l.length ac) l.length (Lib.byteCells l) r hr0 hr1 w1 hown hlen (by omega))
  have HOW := hide hown
  have HBK := hide hbk
  have hlt := bld_lt (B := B) hbk
  have HRL := hide (Lib.runeCells_le r)
  clear hown hbk
  go_wp2_with fail
  refine HAR.out.mono ?_
  rintro e w2 ⟨v', rfl, hown', o, hgrow⟩
  have hb2 : w2.heap[b]? = some (.cells #[.pointer (some ⟨b, 0, none⟩), .slice ap l.length ac] 57 (0, 0)) := by
    rw [hgrow.block b (by simp; omega) (fun e => hne e.symm), Lib.alloc_old w1 _ b hlt]
    exact HBK.out
  have d0 : w2.cell? ⟨b, 0, none⟩ = some (.pointer (some ⟨b, 0, none⟩)) := by rw [Lib.cell_of_heap hb2]; rfl
  have d1 : w2.cell? ⟨b, 1, none⟩ = some (.slice ap l.length ac) := by rw [Lib.cell_of_heap hb2]; rfl
  have f1 : w2.frozen? ⟨b, 1, none⟩ = false := Lib.frozen_of_heap hb2 1
  have HBD : Hid (Lib.BuilderAt 57 5 B b (.pointer (some ⟨b, 0, none⟩)) (Lib.byteCells l ++ Lib.runeCells r) (w2.setCell ⟨b, 1, none⟩ v')) := Lib.BuilderAt.put (T := 57) (e := 5) hB hb2 (bs' := Lib.byteCells l ++ Lib.runeCells r) (by simpa [Lib.byteCells_length] using hown') (by decide)
  have HBB : Hid (Below B w (w2.setCell ⟨b, 1, none⟩ v')) := ((hb1.alloc (by omega) _).grown hgrow (by simp; omega) (fun k hk => (HOW.out.lt k hk).1)).setCell (p := ⟨b, 1, none⟩) hB _
  obtain ⟨vp, vc, rfl⟩ := owns_sl9 hown'
  clear hown' hgrow HAR HCC HOW HBK
  generalize (Lib.runeCells r).length = rl at *
  go_wp2
  go_ret2
  refine ⟨⟨_, rfl⟩, Or.inr ?_, HBB.out⟩
  rw [Lib.byteCells_append, Lib.byteCells_encodeRune]
  exact HBD.out

end Go.Proofs.YtenpkhalgkodbaaDoor

/- Contracts at every input: call.Check, call.checkLeads, call.May. -/
namespace Go.Proofs.YtenpkhalgkodbaaDoor
open Go.RowKit
set_option maxRecDepth 20000
set_option linter.unusedVariables false

set_option maxHeartbeats 8000000 in
theorem ccheck_all (s : ByteArray) (n : Int) (vp : Option Addr) (vc : Nat) (css : List (List Int)) (cv : Value) (cs : List Cl) (w : World) (hs : s.size ≤ 9223372036854775807)
    (hv : IntsAll w (.slice vp css.length vc) css) (hcv : CallsIn w cv cs) :
    Calls Tryd.prog 8 #[meth s n (.slice vp css.length vc), cv] w fun e w' => e = .returned (.int .i64 (cErr s n css cs)) ∧ Below w.heap.size w w' := by
  have hB0 : Below w.heap.size w (w.alloc (.cells #[.string s, .int .i64 n, .slice vp css.length vc] 24)) := (Below.refl _ _).alloc (Nat.le_refl _) _
  have HMC := hide (mcheck_all s n (.slice vp css.length vc) css (w.alloc (.cells #[.string s, .int .i64 n, .slice vp css.length vc] 24)) hs (hv.below hB0))
  have hbox := Box.start w s n (.slice vp css.length vc) 24
  obtain ⟨cp, cc, rfl⟩ := hcv.form
  have HBX := hide hbox
  unfold cErr
  generalize mErr s n css = me at *
  obtain ⟨K, hK⟩ : ∃ K, Hid (css.length = K) := ⟨_, rfl⟩
  rw [hK.out] at hB0 HMC HBX ⊢
  obtain ⟨C, hC⟩ : ∃ C, Hid (cs.length = C) := ⟨_, rfl⟩
  rw [hC.out]
  have HCV := hide hcv
  clear hv hbox hcv
  unfold meth at HMC
  unfold meth
  by_cases hz : me = 0
  · subst hz
    rw [if_pos rfl]
    by_cases hcl : C < 1 ∨ 8 < C
    · rw [if_pos hcl]
      go_enter Tryd.func8, Tryd.ntmps8
      go_wp2_with fail
      refine HMC.out.mono ?_
      rintro e w1 ⟨rfl, hb1⟩
      have HB1 := hide (hB0.trans (hb1.mono (by simp)))
      clear HMC HBX hb1 hB0
      by_cases h1 : (C : Int) < 1
      · clear hcl
        go_wp2
        go_ret
        exact ⟨rfl, HB1.out⟩
      · have h2 : 8 < (C : Int) := by omega
        clear hcl
        go_wp2
        go_ret
        exact ⟨rfl, HB1.out⟩
    · rw [if_neg hcl]
      have hC1 : ¬ (C : Int) < 1 := by omega
      have hC2 : ¬ 8 < (C : Int) := by omega
      have hC3 : 1 ≤ C ∧ C ≤ 8 := by omega
      obtain ⟨b, off, cap, hce, hb, hlc, hcm, hcell⟩ : CallsAt w (.slice cp C cc) cs := by
        rcases HCV.out with ⟨h1, _⟩ | ⟨_, h2⟩
        · exfalso; have := hC.out; rw [h1] at this; simp at this; omega
        · rw [hC.out] at h2; exact h2
      rw [hC.out] at hce hlc
      simp only [Value.slice.injEq] at hce
      obtain ⟨rfl, _, rfl⟩ := hce
      have HC := hide hcell
      obtain ⟨E, hE⟩ : ∃ E, Hid (cFst n K [] cs = E) := ⟨_, rfl⟩
      rw [hE.out]
      clear hcell HCV hcl
      go_enter Tryd.func8, Tryd.ntmps8
      go_wp2_with fail
      refine HMC.out.mono ?_
      rintro e w1 ⟨rfl, hb1⟩
      have hB1 : Below w.heap.size w w1 := hB0.trans (hb1.mono (by simp))
      have HX1 := hide (HBX.out.below hb1)
      clear HMC HBX hb1 hB0
      go_wp2
      go_loopw [24] (fun i wr => ∃ j : Nat, j ≤ C ∧ i = .int .i64 j ∧ Hid (E = cFst n K (cs.take j) (cs.drop j)) ∧ Hid (Box wr w.heap.size s n (.slice vp K vc)) ∧ Below w.heap.size w wr) (fun i _ => C - (intOf i).toNat)
      case atStart => exact ⟨0, by omega, rfl, hE.out.symm, HX1, hB1⟩
      case round =>
        clear HX1 hB1
        obtain ⟨j, hj, rfl, hEk, hX, hbw⟩ := hrel
        have hbs := hbw.size
        by_cases hlt : j < C
        · have hjc : j < cs.length := by rw [hC.out]; exact hlt
          obtain ⟨u, a1, a2, a3⟩ := HC.out j hjc
          have g1 : wr.cell? ⟨b, off + j * 2, none⟩ = some (.int .i32 (cs.getD j (0, [])).1) := (hbw.cell (by exact hb)).trans a1
          have g2 : wr.cell? ⟨b, off + j * 2 + 1, none⟩ = some u := (hbw.cell (p := ⟨b, off + j * 2 + 1, none⟩) (by exact hb)).trans a2
          obtain ⟨up, uc, rfl⟩ := a3.len
          have htl : (cs.take j).length = j := by rw [List.length_take]; omega
          have HCK := hide (fun W (hW : Below w.heap.size w W) => checkOne_all s n vp K vc (cs.getD j (0, [])).1 (.slice up (cs.getD j (0, [])).2.length uc) (cs.getD j (0, [])).2 b off cc (cs.take j) W (Nat.lt_of_lt_of_le hb hW.size) (fun i hi => by
            have hij : i < j := by rw [htl] at hi; exact hi
            obtain ⟨u', b1, b2, b3⟩ := HC.out i (by omega)
            obtain ⟨p', c', e'⟩ := b3.len
            have e1 : (cs.take j).getD i (0, []) = cs.getD i (0, []) := by simp [List.getD, hij]
            rw [e1]
            exact ⟨u', (hW.cell (p := ⟨b, off + i * 2, none⟩) hb).trans b1, (hW.cell (p := ⟨b, off + i * 2 + 1, none⟩) hb).trans b2, by rw [e']; rfl⟩) (by rw [htl]; omega) (a3.below hW))
          rw [htl] at HCK
          have HEZ : Hid (oErr n K (cs.take j) (cs.getD j (0, [])) = 0 → E = cFst n K (cs.take (j + 1)) (cs.drop (j + 1))) := fun h => hEk.out.trans (cFst_ok hjc h)
          have HEB : Hid (oErr n K (cs.take j) (cs.getD j (0, [])) ≠ 0 → E = oErr n K (cs.take j) (cs.getD j (0, []))) := fun h => hEk.out.trans (cFst_bad hjc h)
          have HCK2 : Hid (∀ W, Below w.heap.size w W → Calls Tryd.prog 26 #[meth s n (.slice vp K vc), .slice (some ⟨b, off, none⟩) j cc, .agg #[.int .i32 (cs.getD j (0, [])).1, .slice up (cs.getD j (0, [])).2.length uc]] W fun e w' => e = .returned (.int .i64 (oErr n K (cs.take j) (cs.getD j (0, [])))) ∧ Below W.heap.size W w') := HCK.out
          clear a1 a2 a3 HCK hEk htl
          generalize oErr n K (cs.take j) (cs.getD j (0, [])) = oe at *
          generalize (cs.getD j (0, [])).1 = sg at *
          generalize (cs.getD j (0, [])).2.length = ul at *
          unfold meth at HCK2
          go_upto_region 9 with fail
          have hXA := hX.out.below ((Below.refl wr.heap.size wr).alloc (Nat.le_refl _) (.cells #[.int .i32 sg, .slice up ul uc] 50))
          have h9 := heap_alloc_new wr (.cells #[.int .i32 sg, .slice up ul uc] 50)
          have hBA : Below w.heap.size w (wr.alloc (.cells #[.int .i32 sg, .slice up ul uc] 50)) := hbw.alloc hbs _
          have hRA : wr.heap.size < (wr.alloc (.cells #[.int .i32 sg, .slice up ul uc] 50)).heap.size := by simp
          have d0 : (wr.alloc (.cells #[.int .i32 sg, .slice up ul uc] 50)).cell? ⟨wr.heap.size, 0, none⟩ = some (.int .i32 sg) := by unfold World.cell?; simp only [h9]; rfl
          have d1 : (wr.alloc (.cells #[.int .i32 sg, .slice up ul uc] 50)).cell? ⟨wr.heap.size, 1, none⟩ = some (.slice up ul uc) := by unfold World.cell?; simp only [h9]; rfl
          have b0 := hXA.c0
          have b1 := hXA.c1
          have b2 := hXA.c2
          have hbl := hXA.lt
          have HXA := hide hXA
          clear h9 g1 g2 hX hXA
          generalize (wr.alloc (.cells #[.int .i32 sg, .slice up ul uc] 50)) = WA at *
          generalize wr.heap.size = RA at *
          refine wp_region_held_drew (S := fun W' => Below WA.heap.size WA W') (by kernel_rfl) (below_drewJ WA) (fun hS => ?_)
          refine wpAnyH_take (i := 0) (v := .agg #[.string s, .int .i64 n, .slice vp K vc]) rfl (by kernel_rfl) (by kernel_rfl) (by kernel_rfl) (fun _ _ _ h => h) (Or.inl ⟨by kernel_rfl, fun w' hS' => by have q0 := (Below.cell hS' (p := ⟨w.heap.size, 0, none⟩) (by exact hbl)).trans b0; have q1 := (Below.cell hS' (p := ⟨w.heap.size, 1, none⟩) (by exact hbl)).trans b1; have q2 := (Below.cell hS' (p := ⟨w.heap.size, 2, none⟩) (by exact hbl)).trans b2; clear hS'; go_simp⟩) hS ?_
          refine wpAnyH_take (i := 1) (v := .slice (some ⟨b, off, none⟩) C cc) rfl (by kernel_rfl) (by kernel_rfl) (by kernel_rfl) (fun _ _ _ h => h) (Or.inl ⟨by kernel_rfl, fun w' hS' => by clear hS'; go_simp⟩) hS ?_
          refine wpAnyH_take (i := 2) (v := .int .i64 (j : Int)) rfl (by kernel_rfl) (by kernel_rfl) (by kernel_rfl) (fun _ _ _ h => h) (Or.inl ⟨by kernel_rfl, fun w' hS' => by clear hS'; go_simp⟩) hS ?_
          refine wpAnyH_take (i := 3) (v := .slice (some ⟨b, off, none⟩) j cc) rfl (by kernel_rfl) (by kernel_rfl) (by kernel_rfl) (fun _ _ _ h => h) (Or.inl ⟨by kernel_rfl, fun w' hS' => by clear hS'; go_simp; intro h0; exact absurd h0 (by omega)⟩) hS ?_
          refine wpAnyH_take (i := 4) (v := .agg #[.int .i32 sg, .slice up ul uc]) rfl (by kernel_rfl) (by kernel_rfl) (by kernel_rfl) (fun _ _ _ h => h) (Or.inl ⟨by kernel_rfl, fun w' hS' => by have q0 := (Below.cell hS' (p := ⟨RA, 0, none⟩) (by exact hRA)).trans d0; have q1 := (Below.cell hS' (p := ⟨RA, 1, none⟩) (by exact hRA)).trans d1; clear hS'; go_simp⟩) hS ?_
          refine wpAnyH_ready (rs := [5]) (by kernel_rfl) (by simp) ?_
          refine AllReadyH.cons rfl (fun K9 hK9 => ?_) AllReadyH.nil
          go_simp
          have hS0 := below_drewJ WA
          refine (HCK2.out WA.drew (hBA.trans (hS0.mono hBA.size))).mono ?_
          rintro ex wo ⟨rfl, hbo⟩
          have hSo : Below WA.heap.size WA wo := hS0.trans (hbo.mono hS0.size)
          refine hK9.out _ _ hSo (fun hS => ?_)
          clear hK9
          refine wpAnyH_take (i := 6) (v := .int .i64 oe) rfl (by kernel_rfl) (by kernel_rfl) (by kernel_rfl) (fun _ _ _ h => h) (Or.inl ⟨by kernel_rfl, fun w' hS' => by clear hS'; go_simp⟩) hS ?_
          refine wpAnyH_done (by kernel_rfl) ?_ _
          have HXo := hide (HXA.out.below hSo)
          have hBo : Below w.heap.size w wo := hBA.trans (hSo.mono hBA.size)
          clear hSo hbo hS0 HCK2 HXA
          by_cases hoz : oe = 0
          · have HEN := hide (HEZ.out hoz)
            subst hoz
            clear HEZ HEB
            go_wp2
            go_roundw
            case rel => exact ⟨j + 1, by omega, by go_num, HEN, HXo, hBo⟩
            case measure => simp [intOf]; omega
          · have HEN := hide (HEB.out hoz)
            have hzz : (oe != 0) = true := by simpa using hoz
            clear HEZ HEB hoz
            go_wp2
            go_ret
            exact ⟨ret_int HEN.out.symm, hBo⟩
        · obtain rfl : j = C := by omega
          have HEN : Hid (E = 0) := by show E = 0; rw [hEk.out, List.drop_eq_nil_of_le (by rw [hC.out]; exact Nat.le_refl _)]; rfl
          clear hEk
          go_wp2
          go_ret
          exact ⟨ret_int HEN.out.symm, hbw⟩
  · rw [if_neg hz]
    have hzz : (me != 0) = true := by simpa using hz
    clear hz
    go_enter Tryd.func8, Tryd.ntmps8
    go_wp2_with fail
    refine HMC.out.mono ?_
    rintro e w1 ⟨rfl, hb1⟩
    have HB1 := hide (hB0.trans (hb1.mono (by simp)))
    clear HMC HBX hb1 hB0
    go_wp2
    go_ret
    exact ⟨rfl, HB1.out⟩

set_option maxHeartbeats 4000000 in
theorem checkLeads_all (cp : Option Addr) (C cc : Nat) (v : Value) (ls : List Int) (w : World) (h : Ints w v ls) :
    Calls Tryd.prog 29 #[.slice cp C cc, v] w fun e w' => e = .returned (.int .i64 (lErr C ls)) ∧ w = w' := by
  obtain ⟨lp, lc, rfl⟩ := h.form
  obtain ⟨N, hN⟩ : ∃ N, Hid (ls.length = N) := ⟨_, rfl⟩
  have HI := hide h
  unfold lErr
  rw [hN.out] at HI ⊢
  clear h
  by_cases hl : N < 1 ∨ 400 < N
  · rw [if_pos hl]
    by_cases h1 : (N : Int) < 1
    · clear hl
      go_enter Tryd.func29, Tryd.ntmps29
      go_wp2
      go_ret
      exact ⟨rfl, rfl⟩
    · have h2 : 400 < (N : Int) := by omega
      clear hl
      go_enter Tryd.func29, Tryd.ntmps29
      go_wp2
      go_ret
      exact ⟨rfl, rfl⟩
  · rw [if_neg hl]
    rcases HI.out with ⟨hnil, _⟩ | ⟨b, off, cap, hle, h0, hc, hm, hb, hcell⟩
    · exfalso; have := hN.out; rw [hnil] at this; simp at this; omega
    rw [hN.out] at hle hc
    simp only [Value.slice.injEq] at hle
    obtain ⟨rfl, _, rfl⟩ := hle
    have HC := hide hcell
    have h1 : ¬ (N : Int) < 1 := by omega
    have h2 : ¬ 400 < (N : Int) := by omega
    obtain ⟨E, hE⟩ : ∃ E : Int, Hid ((if ∀ l, l ∈ ls → 0 ≤ l ∧ l < (C : Int) then 0 else 12) = E) := ⟨_, rfl⟩
    rw [hE.out]
    clear hl hcell HI
    go_enter Tryd.func29, Tryd.ntmps29
    go_wp2
    go_loop [17] (fun i => ∃ k : Nat, k ≤ N ∧ i = .int .i64 k ∧ Hid (∀ j, j < k → 0 ≤ ls.getD j 0 ∧ ls.getD j 0 < (C : Int))) (fun i => N - (intOf i).toNat)
    case atStart => exact ⟨0, by omega, rfl, (fun j hj => absurd hj (by omega))⟩
    case round =>
      obtain ⟨k, hk, rfl, hA⟩ := hrel
      by_cases hlt : k < N
      · have hkl : k < ls.length := by rw [hN.out]; exact hlt
        obtain ⟨y, hy, hcx⟩ := cellAt HC.out hkl
        have hyk : ls.getD k 0 = y := hy.out
        have hym : y ∈ ls := by
          rw [← hyk, List.getD, List.getElem?_eq_getElem hkl, Option.getD_some]
          exact List.getElem_mem _
        by_cases hyb : 0 ≤ y ∧ y < (C : Int)
        · have HA2 : Hid (∀ j, j < k + 1 → 0 ≤ ls.getD j 0 ∧ ls.getD j 0 < (C : Int)) := fun j hj => by
            rcases Nat.lt_succ_iff_lt_or_eq.1 hj with h | h
            · exact hA.out j h
            · rw [h, hyk]; exact hyb
          have hy3 : ¬ y < 0 := by omega
          have hy4 : ¬ y ≥ (C : Int) := by omega
          clear hy hym hyk hyb hA
          go_wp2
          go_round
          case rel => exact ⟨k + 1, by omega, by go_num, HA2⟩
          case measure => simp [intOf]; omega
        · have HE : Hid (E = 12) := by show E = 12; rw [← hE.out, if_neg (fun h => hyb (h y hym))]
          by_cases hy3 : y < 0
          · clear hy hym hyk hyb hA
            go_wp2
            go_ret
            exact ⟨ret_int HE.out.symm, rfl⟩
          · have hy4 : y ≥ (C : Int) := by omega
            clear hy hym hyk hyb hA
            go_wp2
            go_ret
            exact ⟨ret_int HE.out.symm, rfl⟩
      · obtain rfl : k = N := by omega
        have HE : Hid (E = 0) := by
          show E = 0
          rw [← hE.out, if_pos]
          intro l hl
          obtain ⟨j, hj, e⟩ := List.getElem_of_mem hl
          have := hA.out j (by rw [hN.out] at hj; exact hj)
          rw [List.getD, List.getElem?_eq_getElem hj, Option.getD_some, e] at this
          exact this
        clear hA
        go_wp2
        go_ret
        exact ⟨ret_int HE.out.symm, rfl⟩

set_option maxHeartbeats 4000000 in
theorem may_all (s : ByteArray) (n : Int) (vp : Option Addr) (vc : Nat) (css : List (List Int)) (cv : Value) (cs : List Cl) (lv : Value) (ls : List Int) (w : World) (hs : s.size ≤ 9223372036854775807)
    (hv : IntsAll w (.slice vp css.length vc) css) (hcv : CallsIn w cv cs) (hl : Ints w lv ls) :
    Calls Tryd.prog 14 #[meth s n (.slice vp css.length vc), cv, lv] w fun e w' => e = .returned (.int .i64 (tErr s n css cs ls)) ∧ Below w.heap.size w w' := by
  have hB0 : Below w.heap.size w (w.alloc (.cells #[.string s, .int .i64 n, .slice vp css.length vc] 24)) := (Below.refl _ _).alloc (Nat.le_refl _) _
  have HCC := hide (ccheck_all s n vp vc css cv cs (w.alloc (.cells #[.string s, .int .i64 n, .slice vp css.length vc] 24)) hs (hv.below hB0) (hcv.below hB0))
  have hbox := Box.start w s n (.slice vp css.length vc) 24
  obtain ⟨cp, cc, rfl⟩ := hcv.form
  have HCL := hide (fun W (hW : Below w.heap.size w W) => checkLeads_all cp cs.length cc lv ls W (hl.below hW))
  obtain ⟨lp, lc, rfl⟩ := hl.form
  have HBX := hide hbox
  have hmi : ((ls.length : Int)) * (css.length : Int) = ((ls.length * css.length : Nat) : Int) := (Int.natCast_mul _ _).symm
  have HSM : Hid (cErr s n css cs = 0 → lErr cs.length ls = 0 → ls.length * css.length ≤ 80000) := fun h1 h2 => by
    have a1 : mErr s n css = 0 := by
      unfold cErr at h1
      split at h1
      · assumption
      · rename_i h; exact absurd h1 h
    have a2 : css.length ≤ 200 := by
      unfold mErr at a1
      split at a1
      · split at a1
        · cases a1
        · omega
      · cases a1
    have a3 : ls.length ≤ 400 := by
      unfold lErr at h2
      split at h2
      · cases h2
      · omega
    exact Nat.mul_le_mul a3 a2
  clear hv hbox hl hcv
  unfold tErr
  generalize ls.length * css.length = P at *
  generalize cErr s n css cs = ce at *
  generalize lErr cs.length ls = le at *
  generalize css.length = K at *
  generalize ls.length = N at *
  generalize cs.length = C at *
  unfold meth at HCC
  unfold meth
  by_cases hz : ce = 0
  · subst hz
    rw [if_pos rfl]
    by_cases hlz : le = 0
    · subst hlz
      rw [if_pos rfl]
      have hPb := HSM.out rfl rfl
      by_cases hP : 20000 < P
      · rw [if_pos hP]
        have hPi : 20000 < (P : Int) := by omega
        go_enter Tryd.func14, Tryd.ntmps14
        go_wp2_with fail
        refine HCC.out.mono ?_
        rintro e w1 ⟨rfl, hb1⟩
        have hB1 : Below w.heap.size w w1 := hB0.trans (hb1.mono (by simp))
        have g2 := (HBX.out.below hb1).c2
        clear HCC HBX hb1 hB0
        go_wp2_with fail
        refine (HCL.out w1 hB1).mono ?_
        rintro e w2 ⟨rfl, rfl⟩
        clear HCL
        go_wp2
        go_ret
        exact ⟨rfl, hB1⟩
      · rw [if_neg hP]
        have hPi : ¬ 20000 < (P : Int) := by omega
        go_enter Tryd.func14, Tryd.ntmps14
        go_wp2_with fail
        refine HCC.out.mono ?_
        rintro e w1 ⟨rfl, hb1⟩
        have hB1 : Below w.heap.size w w1 := hB0.trans (hb1.mono (by simp))
        have g2 := (HBX.out.below hb1).c2
        clear HCC HBX hb1 hB0
        go_wp2_with fail
        refine (HCL.out w1 hB1).mono ?_
        rintro e w2 ⟨rfl, rfl⟩
        clear HCL
        go_wp2
        go_ret
        exact ⟨rfl, hB1⟩
    · rw [if_neg hlz]
      have hzz : (le != 0) = true := by simpa using hlz
      clear hlz HSM
      go_enter Tryd.func14, Tryd.ntmps14
      go_wp2_with fail
      refine HCC.out.mono ?_
      rintro e w1 ⟨rfl, hb1⟩
      have hB1 : Below w.heap.size w w1 := hB0.trans (hb1.mono (by simp))
      clear HCC HBX hb1 hB0
      go_wp2_with fail
      refine (HCL.out w1 hB1).mono ?_
      rintro e w2 ⟨rfl, rfl⟩
      clear HCL
      go_wp2
      go_ret
      exact ⟨rfl, hB1⟩
  · rw [if_neg hz]
    have hzz : (ce != 0) = true := by simpa using hz
    clear hz HSM
    go_enter Tryd.func14, Tryd.ntmps14
    go_wp2_with fail
    refine HCC.out.mono ?_
    rintro e w1 ⟨rfl, hb1⟩
    have hB1 : Below w.heap.size w w1 := hB0.trans (hb1.mono (by simp))
    clear HCC HBX hb1 hB0
    go_wp2
    go_ret
    exact ⟨rfl, hB1⟩

end Go.Proofs.YtenpkhalgkodbaaDoor

/- Plain: ways through all rows, one after another, in the order of lists; how many unlike numbers there are below a bound. -/
namespace Go.Proofs.YtenpkhalgkodbaaDoor
open Go.RowKit

/-- A way that goes on from a number, which has met these: each number once, and then 0. -/
def Good (nx : Nat → Nat → Nat) (K all : Nat) : List Nat → Nat → List Nat → Prop
  | _, _, [] => False
  | ks, at_, k :: t => k < K ∧ ((t = [] ∧ nx k at_ = 0 ∧ ks.length = all) ∨ (nx k at_ ∉ ks ∧ Good nx K all (nx k at_ :: ks) (nx k at_) t))

/-- The order of lists. -/
def Ltl : List Nat → List Nat → Prop
  | [], [] => False
  | [], _ :: _ => True
  | _ :: _, [] => False
  | a :: x, b :: y => a < b ∨ (a = b ∧ Ltl x y)

theorem nodup_le : ∀ (n : Nat) (l : List Nat), l.Nodup → (∀ x, x ∈ l → x < n) → l.length ≤ n
  | 0, l, _, h => by
    cases l with
    | nil => simp
    | cons x t => exact absurd (h x (by simp)) (by omega)
  | n + 1, l, hn, h => by
    by_cases hm : n ∈ l
    · have h1 := nodup_le n (l.erase n) (hn.erase n) (fun x hx => by
        have hx2 := (List.Nodup.mem_erase_iff hn).1 hx
        have := h x hx2.2
        have := hx2.1
        omega)
      have h2 := List.length_erase_of_mem hm
      have h3 : 0 < l.length := List.length_pos_of_mem hm
      omega
    · have h1 := nodup_le n l hn (fun x hx => by
        have := h x hx
        have : x ≠ n := fun e => hm (e ▸ hx)
        omega)
      omega

/-- The numbers that are tried stand for all: each once, in order. -/
structure Tried (nx : Nat → Nat → Nat) (K : Nat) (tr : List Nat) : Prop where
  low : ∀ k, k ∈ tr → k < K
  sorted : tr.Pairwise (· < ·)
  all : ∀ k, k < K → ∃ k', k' ∈ tr ∧ k' ≤ k ∧ ∀ a, nx k' a = nx k a

theorem Good.same {nx : Nat → Nat → Nat} {K all : Nat} {ks : List Nat} {a k k' : Nat} {t : List Nat} (h : Good nx K all ks a (k :: t)) (hk : k' < K) (e : nx k' a = nx k a) : Good nx K all ks a (k' :: t) := by
  unfold Good at h ⊢
  rw [e]
  exact ⟨hk, h.2⟩

theorem sorted_before {tr : List Nat} (h : tr.Pairwise (· < ·)) {i : Nat} (hi : i < tr.length) {k : Nat} (hk : k ∈ tr) (hlt : k < tr.getD i 0) : ∃ j, j < i ∧ tr.getD j 0 = k := by
  obtain ⟨j, hj, e⟩ := List.getElem_of_mem hk
  have ei : tr.getD i 0 = tr[i] := by simp [List.getD, hi]
  refine ⟨j, ?_, by simp [List.getD, hj, e]⟩
  rcases Nat.lt_trichotomy j i with h1 | h1 | h1
  · exact h1
  · subst h1; omega
  · have := List.pairwise_iff_getElem.1 h i j hi hj h1
    omega

/-- What is found first is the least. -/
theorem least_found {nx : Nat → Nat → Nat} {K all : Nat} {tr ks : List Nat} {a i : Nat} {q : List Nat} (hT : Tried nx K tr) (hi : i < tr.length) (hno : ∀ j, j < i → ∀ t, ¬ Good nx K all ks a (tr.getD j 0 :: t))
    (hq : ∀ t, Good nx K all ks a (tr.getD i 0 :: t) → ¬ Ltl t q) : ∀ t, Good nx K all ks a t → ¬ Ltl t (tr.getD i 0 :: q) := by
  intro t ht hl
  cases t with
  | nil => exact ht
  | cons k t =>
    have hk : k < K := by unfold Good at ht; exact ht.1
    rcases (show k < tr.getD i 0 ∨ (k = tr.getD i 0 ∧ Ltl t q) from hl) with h | ⟨rfl, h⟩
    · obtain ⟨k', hm, hle, he⟩ := hT.all k hk
      obtain ⟨j, hj, e⟩ := sorted_before hT.sorted hi hm (by omega)
      refine hno j hj t ?_
      rw [e]
      exact ht.same (hT.low k' hm) (he a)
    · exact hq t ht h

theorem none_found {nx : Nat → Nat → Nat} {K all : Nat} {tr ks : List Nat} {a : Nat} (hT : Tried nx K tr) (hno : ∀ j, j < tr.length → ∀ t, ¬ Good nx K all ks a (tr.getD j 0 :: t)) : ∀ t, ¬ Good nx K all ks a t := by
  intro t ht
  cases t with
  | nil => exact ht
  | cons k t =>
    have hk : k < K := by unfold Good at ht; exact ht.1
    obtain ⟨k', hm, hle, he⟩ := hT.all k hk
    obtain ⟨j, hj, e⟩ := List.getElem_of_mem hm
    refine hno j hj t ?_
    rw [show tr.getD j 0 = k' from by simp [List.getD, hj, e]]
    exact ht.same (hT.low k' hm) (he a)

/-- A step that is barred. -/
theorem good_barred {nx : Nat → Nat → Nat} {K all : Nat} {ks : List Nat} {a k : Nat} (h1 : nx k a ∈ ks) (h2 : ¬ (nx k a = 0 ∧ ks.length = all)) : ∀ t, ¬ Good nx K all ks a (k :: t) := by
  intro t ht
  unfold Good at ht
  rcases ht.2 with ⟨_, h3, h4⟩ | ⟨h3, _⟩
  · exact h2 ⟨h3, h4⟩
  · exact h3 h1

/-- Home. -/
theorem good_home {nx : Nat → Nat → Nat} {K all : Nat} {ks : List Nat} {a k : Nat} (hk : k < K) (h1 : nx k a = 0) (h2 : ks.length = all) : Good nx K all ks a [k] ∧ ∀ t, Good nx K all ks a (k :: t) → ¬ Ltl t [] := by
  refine ⟨⟨hk, Or.inl ⟨rfl, h1, h2⟩⟩, fun t _ hl => ?_⟩
  cases t with
  | nil => exact hl
  | cons _ _ => exact hl

theorem good_on {nx : Nat → Nat → Nat} {K all : Nat} {ks : List Nat} {a k : Nat} (h2 : ¬ (nx k a = 0 ∧ ks.length = all)) (t : List Nat) : Good nx K all ks a (k :: t) → Good nx K all (nx k a :: ks) (nx k a) t := by
  intro ht
  unfold Good at ht
  rcases ht.2 with ⟨_, h3, h4⟩ | ⟨_, h3⟩
  · exact absurd ⟨h3, h4⟩ h2
  · exact h3

def nI (l : List Nat) : List Int := l.map (fun (k : Nat) => (k : Int))

theorem nI_len (l : List Nat) : (nI l).length = l.length := by simp [nI]

theorem nI_get (l : List Nat) {i : Nat} (h : i < l.length) : (nI l).getD i 0 = ((l.getD i 0 : Nat) : Int) := by simp [nI, List.getD, h]

end Go.Proofs.YtenpkhalgkodbaaDoor
