/- Contracts: slices.Delete (off the library's shelf), At. -/
import Derived.Test.YtgglbafcocbhbaaRead
import Derived.Shelf.Slices.Delete
import Derived.Lib.OwnBridge
namespace Go.Proofs.Ytgglbafcocbhbaa
open Go.RowKit Go.Lib

def rn : Go.Shelf.Ren := ⟨fun x => match x with | 23 => 46 | y => y, fun x => match x with | 22 => 22 | 3 => 3 | 4 => 4 | 0 => 0 | y => y, fun x => x⟩

theorem lays23 : Go.Proofs.Lays2.n23 Try.prog rn where
  mixed := by kernel_rfl
  f23 := by kernel_rfl
  t0 := by kernel_rfl
  a0 := fun w => by kernel_rfl
  z0 := fun w => by kernel_rfl
  v0 := fun w => by kernel_rfl
  t3 := by kernel_rfl
  a3 := fun w => by kernel_rfl
  z3 := fun w => by kernel_rfl
  v3 := fun w => by kernel_rfl
  t4 := by kernel_rfl
  a4 := fun w => by kernel_rfl
  z4 := fun w => by kernel_rfl
  v4 := fun w => by kernel_rfl
  t22 := by kernel_rfl
  a22 := fun w => by kernel_rfl
  z22 := fun w => by kernel_rfl
  v22 := fun w => by kernel_rfl
  i3 := by kernel_rfl

theorem del_any (g cap i : Nat) (d : Array Int) (w : World) (hH : Go.Sort.Holds Go.Proofs.encI w g 0 d) (hcap : d.size ≤ cap) (hm : cap ≤ 9223372036854775807) (hi : i < d.size) :
    Calls Try.prog 46 #[.slice (some ⟨g, 0, none⟩) d.size cap, .int .i64 i, .int .i64 ((i : Int) + 1)] w fun e w' => e = .returned (.slice (some ⟨g, 0, none⟩) (d.size - (i + 1 - i)) cap) ∧ ∃ q, w' = Go.Sort.putRow Go.Proofs.encI (Go.Sort.ahead w q) g 0 (d.toList.take i ++ d.toList.drop (i + 1) ++ List.replicate (i + 1 - i) 0).toArray :=
  Go.Proofs.Any.slices_Delete_int_arr lays23 g 0 cap i (i + 1) d w hH hcap hm (Nat.le_succ i) hi

theorem erase_take_drop (zs : List Int) (i : Nat) (h : i < zs.length) : (zs.take i ++ zs.drop (i + 1) ++ List.replicate (i + 1 - i) 0).take (zs.length - 1) = zs.eraseIdx i := by
  rw [List.eraseIdx_eq_take_drop_succ, List.take_append_of_le_length (by simp; omega), List.take_of_length_le (by simp; omega)]

theorem del_own {base g n cap i : Nat} {zs : List Int} {w : World} (h : w.ownsRow base 3 1 (.slice (some ⟨g, 0, none⟩) n cap) n (zs.map (Value.int .i64))) (hi : i < n) :
    Calls Try.prog 46 #[.slice (some ⟨g, 0, none⟩) n cap, .int .i64 i, .int .i64 ((i : Int) + 1)] w fun e w' => e = .returned (.slice (some ⟨g, 0, none⟩) (n - 1) cap) ∧
      w'.ownsRow base 3 1 (.slice (some ⟨g, 0, none⟩) (n - 1) cap) (n - 1) ((zs.eraseIdx i).map (Value.int .i64)) ∧ w.grownBy w' (some g) := by
  have hl : zs.length = n := by have := h.1; simpa using this
  obtain ⟨g', cap', hv, _, _, hn, hm, _, hH⟩ := holds_of_ownsRow (enc := Go.Proofs.encI) h (by intro e; cases e)
  injection hv with e1 _ e3
  injection e1 with e1
  injection e1 with e1
  subst e1; subst e3
  have hd := del_any g cap i zs.toArray w hH (by simp; omega) (by unfold maxLen at hm; omega) (by simp; omega)
  have hsz : zs.toArray.size = n := by simp [hl]
  rw [hsz] at hd
  refine hd.mono ?_
  rintro e w' ⟨rfl, q, rfl⟩
  refine ⟨by rw [show i + 1 - i = 1 from by omega], ?_, ?_⟩
  · have := ownsRow_putRow (enc := Go.Proofs.encI) (q := q) (k := n - 1) (ys := zs.take i ++ zs.drop (i + 1) ++ List.replicate (i + 1 - i) 0) h (by simp; omega) (by omega)
    rw [show n - 1 = zs.length - 1 from by omega, erase_take_drop zs i (by omega)] at this
    rw [show n - 1 = zs.length - 1 from by omega]
    exact this
  · refine ⟨rfl, rfl, rfl, by simp [Go.Sort.putRow, Go.Sort.mapBlock, Go.Sort.ahead], fun k _ hk => ?_⟩
    simp [Go.Sort.putRow, Go.Sort.mapBlock, Go.Sort.ahead, Array.getElem?_modify, show g ≠ k from fun e => hk (by rw [e])]

/-- The row with a rank, out of the bells that are left. -/
def atl : Nat → List Int → Nat → List Int
  | 0, _, _ => []
  | m + 1, L, k => L.getD (k / fct m) 0 :: atl m (L.eraseIdx (k / fct m)) (k % fct m)

set_option maxRecDepth 20000 in
set_option maxHeartbeats 4000000 in
theorem at_ok (n k : Nat) (w : World) (h1 : 1 ≤ n) (h2 : n ≤ 12) (hk : k < fct n) :
    Calls Try.prog 24 #[.int .i64 n, .int .i64 k] w fun e w' => ∃ v, e = .returned (.tuple #[v, .int .i64 0]) ∧ Ints w' v (atl n (rnd n) k) ∧ Below w.heap.size w w' := by
  obtain ⟨i0, hi, hz0, hz1, hz2⟩ := info_parts Try.info3
  have HR := hide (rounds_ok n w h1 h2)
  have hfn := fct_le h2
  go_enter Try.func24, Try.ntmps24
  go_wp2_with fail
  refine HR.out.mono ?_
  rintro e w1 ⟨v1, rfl, hown1, hb1⟩
  obtain ⟨g, cap, rfl, hg1, hg2, hgc, hcm⟩ := owns_form hown1 h1
  have HF := hide (rowsOf_any n w1 h2)
  have hb1s := hb1.size
  clear HR
  go_wp2_with fail
  refine HF.out.mono ?_
  rintro e w2 ⟨rfl, rfl⟩
  clear HF
  go_wp2_with (at_make; refine wpList_make_own _ rfl _ _ 22 rfl w.heap.size 3 i0 (.int .i64 0) 1 Try.underlying22 hi hz0 hz1 _ _ _ n rfl rfl (by omega) ?b2 ?b3 hb1.size ?_)
  case b2 => rw [hz2]; omega
  case b3 => unfold maxLen; omega
  intro w0 hown0 hgrow0
  go_wp2
  go_loopw [1, 6, 8, 9] (fun sk sl sm sr wr => ∃ (m kk : Nat) (L xs : List Int), m ≤ n ∧ kk < fct m ∧ sk = .int .i64 (kk : Int) ∧ sl = .slice (some ⟨g, 0, none⟩) m cap ∧ sm = .int .i64 (fct m : Nat) ∧ sr = .slice (some ⟨w1.heap.size, 0, none⟩) (n - m) n ∧
      wr.ownsRow w.heap.size 3 1 (.slice (some ⟨g, 0, none⟩) m cap) m (L.map (Value.int .i64)) ∧ wr.ownsRow w.heap.size 3 1 (.slice (some ⟨w1.heap.size, 0, none⟩) (n - m) n) (n - m) (xs.map (Value.int .i64)) ∧
      Hid (xs ++ atl m L kk = atl n (rnd n) k) ∧ Below w.heap.size w wr) (fun _ sl _ _ _ => sliceLen sl)
  case atStart =>
    refine ⟨n, k, rnd n, [], Nat.le_refl _, hk, rfl, rfl, rfl, by rw [Nat.sub_self], ?_, by rw [Nat.sub_self]; exact hown0, rfl, hb1.grown hgrow0 hb1.size (fun k h => by cases h)⟩
    exact hown1.kept hgrow0 (Or.inr (by intro e; cases e))
  case round =>
    obtain ⟨m, kk, L, xs, hmn, hkk, rfl, rfl, rfl, rfl, hl, hr, hat, hbw⟩ := hrel
    have hbs := hbw.size
    cases m with
    | zero =>
      have e0 : L = [] := by have := hl.1; simpa using this
      go_wp2
      go_ret2
      refine ⟨_, rfl, ?_, hbw⟩
      have := Ints.own hr
      rw [← hat.out]
      simpa [atl] using this
    | succ m =>
      have hG := fct_pos m
      have hFG : fct (m + 1) = (m + 1) * fct m := rfl
      have hGb := fct_le (n := m) (by omega)
      have hFb := fct_le (n := m + 1) (by omega)
      have hq : ((fct (m + 1) : Nat) : Int) / ((m : Int) + 1) = ((fct m : Nat) : Int) := by
        rw [hFG, Int.natCast_mul]
        exact Int.mul_ediv_cancel_left _ (by omega)
      have hdl : kk / fct m < m + 1 := by rw [Nat.div_lt_iff_lt_mul hG, ← hFG]; exact hkk
      have hml : kk % fct m < fct m := Nat.mod_lt _ hG
      have hq2 : (kk : Int) / ((fct m : Nat) : Int) = ((kk / fct m : Nat) : Int) := (Int.natCast_ediv kk (fct m)).symm
      have hr2 : (kk : Int) % ((fct m : Nat) : Int) = ((kk % fct m : Nat) : Int) := (Int.natCast_emod kk (fct m)).symm
      have hstep : Hid (xs ++ [L.getD (kk / fct m) 0] ++ atl m (L.eraseIdx (kk / fct m)) (kk % fct m) = atl n (rnd n) k) := by
        show _ = _
        rw [← hat.out, List.append_assoc]; rfl
      generalize kk / fct m = q at *
      generalize kk % fct m = r at *
      have HFG := hide hFG
      clear hFG hat
      generalize hGe : fct m = G at *
      have HGe := hide hGe
      clear hGe
      generalize fct (m + 1) = F at *
      obtain ⟨y, hy, hcy, hfy⟩ := owns_cellAt hl hdl
      rw [show L.getD q 0 = y from hy.out] at hstep
      have HDL := hide (fun (w3 : World) h3 => del_own (w := w3) (zs := L) (base := w.heap.size) (g := g) (n := m + 1) (cap := cap) (i := q) h3 hdl)
      go_wp2_with (at_builtin; refine wpList_append_fits _ rfl _ _ 22 rfl w.heap.size 3 i0 1 Try.underlying22 hi hz1 w1.heap.size (n - (m + 1)) n _ rfl (hr.alloc _) ⟨wr.heap.size, 0, none⟩ 1 1 [.int .i64 y] rfl rfl ?c1 ?c2 ?c3 ?_)
      case c1 => exact cell_one_new _ _ _
      case c2 => intro u hu; simp at hu; subst hu; rfl
      case c3 => omega
      · intro w3 hown3 hgrow3
        have hl3 := (hl.alloc (.cells #[.int .i64 y] 3)).kept hgrow3 (Or.inr (by intro e; have e' : g = w1.heap.size := Option.some.inj e; omega))
        have hb3 : Below w.heap.size w w3 := (hbw.alloc hbw.size _).grown hgrow3 (by simp; omega) (fun k hk => by have e' : w1.heap.size = k := Option.some.inj hk; omega)
        have hb3s := hb3.size
        have HL3 := hide hl3
        have HO3 := hide hown3
        clear hl3 hown3 hl hr hcy hfy hgrow3
        go_wp2_with fail
        refine (HDL.out w3 HL3.out).mono ?_
        rintro e w4 ⟨rfl, hl4, hg4⟩
        rw [Nat.add_sub_cancel] at hl4 ⊢
        have hr4 := HO3.out.kept hg4 (Or.inr (by intro e; have e' : w1.heap.size = g := Option.some.inj e; omega))
        have hb4 : Below w.heap.size w w4 := hb3.grown hg4 hb3s (fun k hk => by have e' : g = k := Option.some.inj hk; omega)
        rw [show n - (m + 1) + 1 = n - m from by omega] at hr4
        have HL4 := hide hl4
        have HR4 := hide hr4
        clear hl4 hr4 HO3 HL3 HDL hg4
        have enm : n - (m + 1) + 1 = n - m := by omega
        go_wp2
        go_roundw
        case rel => exact ⟨m, r, _, xs ++ [y], by omega, by rw [HGe.out]; exact hml, rfl, rfl, by rw [HGe.out], rfl, HL4.out, by rw [List.map_append]; exact HR4.out, hstep, hb4⟩
        case measure => simp [sliceLen]

end Go.Proofs.Ytgglbafcocbhbaa
