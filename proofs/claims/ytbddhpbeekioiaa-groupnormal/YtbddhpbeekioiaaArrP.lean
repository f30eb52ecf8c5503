/- Contracts: pack, unpack. -/
import Derived.Test.YtbddhpbeekioiaaArr
namespace Go.Proofs.Ytbddhpbeekioiaa
open Go.RowKit

theorem pack_step {xs : List Int} {k : Nat} (h1 : xs.length ≤ 12) (hk : k < xs.length) : (xs.take k ++ (rnd 12).drop k).set k (xs.getD k 0) = xs.take (k + 1) ++ (rnd 12).drop (k + 1) := by
  apply List.ext_getElem?
  intro i
  rw [List.getElem?_set, List.length_append, List.length_take, List.length_drop, rnd_length]
  by_cases e : k = i
  · subst e
    rw [if_pos rfl, if_pos (by omega), List.getElem?_append_left (by rw [List.length_take]; omega), List.getElem?_take]
    simp [List.getD, List.getElem?_eq_getElem hk]
  · rw [if_neg e]
    by_cases hi : i < k
    · rw [List.getElem?_append_left (by rw [List.length_take]; omega), List.getElem?_append_left (by rw [List.length_take]; omega), List.getElem?_take, List.getElem?_take, if_pos hi, if_pos (by omega)]
    · rw [List.getElem?_append_right (by rw [List.length_take]; omega), List.getElem?_append_right (by rw [List.length_take]; omega), List.getElem?_drop, List.getElem?_drop, List.length_take, List.length_take]
      congr 1
      omega

theorem below_alloc {w w1 : World} {o : Obj} (h : Below (w.alloc o).heap.size (w.alloc o) w1) : Below (w.heap.size + 1) (w.alloc o) w1 := by
  have e : (w.alloc o).heap.size = w.heap.size + 1 := by simp
  rwa [e] at h

set_option maxRecDepth 20000 in
set_option maxHeartbeats 1000000 in
theorem pack_ok (v : Value) (xs : List Int) (w : World) (hI : Ints w v xs) (hr : isRow xs) (h1 : 1 ≤ xs.length) (h12 : xs.length ≤ 12) : Calls Try.prog 62 #[v] w fun e w' => e = .returned (pv (pad xs)) ∧ Below w.heap.size w w' := by
  unfold pv
  have HP := hide (pad_l h12 hr)
  have HR := hide hr
  have hl1 := (1 : Pm).len
  have HL1 : Hid ((1 : Pm).l = rnd 12) := Pm.one_l
  clear hr
  rcases hI with ⟨rfl, p, c, rfl⟩ | ⟨b1, o1, cap1, rfl, h01, hcp1, hm1, hb1, hcell1⟩
  · simp at h1
  · have HC := hide hcell1
    clear hcell1
    go_enter Try.func62, Try.ntmps62
    go_wp2_with fail
    refine (prounds_ok _).mono ?_
    unfold pv
    rintro e w1 ⟨rfl, hb⟩
    replace hb := below_alloc hb
    have hR := (zeros_new w).below hb (by omega)
    have hB : Below w.heap.size w w1 := ((Below.refl _ _).alloc (Nat.le_refl _) _).trans (hb.mono (by omega))
    have hS : w.heap.size < w1.heap.size := by have := hb.size; simp at this; omega
    clear hb
    go_wp2_with (refine wpList_store_arr rfl _ _ rfl w1.heap.size zeros12 _ (zeros_new w1) rfl rfl hl1 ?_; intro w2 hA2 hg2)
    have hR2 := (hR.alloc _).kept hg2 (by intro e; injection e with e; omega)
    have hB2 := (hB.alloc (by omega) _).grown hg2 (by simp; omega) (fun k h => by cases h; omega)
    rw [HL1.out] at hA2
    generalize w1.heap.size = D at *
    clear hR hB hg2
    go_wp2
    go_loopw [9] (fun i wr => ∃ k : Nat, k ≤ xs.length ∧ i = .int .i64 k ∧ Arr wr w.heap.size zeros12 ∧ Arr wr D (xs.take k ++ (rnd 12).drop k) ∧ Below w.heap.size w wr) (fun i _ => 12 - (intOf i).toNat)
    case atStart => exact ⟨0, by omega, rfl, hR2, hA2, hB2⟩
    case round =>
      clear hR2 hA2 hB2
      obtain ⟨k, hk, rfl, hR, hA, hbw⟩ := hrel
      by_cases hlt : k < xs.length
      · obtain ⟨y, hy, hcx⟩ := cellAt HC.out hlt
        have hpr := HR.out.at hlt
        rw [show xs.getD k 0 = y from hy.out] at hpr
        obtain ⟨m, rfl⟩ := Int.eq_ofNat_of_zero_le hpr.1
        have hm12 : m < 12 := by omega
        have gp : wr.cell? ⟨b1, o1 + k, none⟩ = some (.int .i64 (m : Int)) := (hbw.cell (by exact hb1)).trans hcx
        obtain ⟨u, hu, hcu, hfu⟩ := hA.at (show k < 12 by omega)
        have HS := hide (pack_step h12 hlt)
        rw [show xs.getD k 0 = (m : Int) from hy.out] at HS
        clear hpr hcx hu
        go_wp2
        go_roundw
        case rel => exact ⟨k + 1, by omega, by go_num, hR.set_other (by omega) _, by rw [← HS.out]; exact hA.set _, hbw.setCell (by simp; omega) _⟩
        case measure => simp [intOf]; omega
      · obtain rfl : k = xs.length := by omega
        have hl := hA.2
        have HE : Hid (xs.take xs.length ++ (rnd 12).drop xs.length = (pad xs).l) := by show _ = _; rw [HP.out, List.take_length]
        rw [HE.out] at hA hl
        go_wp2_with (first | refine wpList_load_arr rfl _ rfl _ _ hA rfl ?_ | (refine wpList_store_arr rfl _ _ rfl _ _ _ hR rfl rfl hl ?_; intro w1 hR1 hg1))
        go_wp2
        exact ret_arr rfl rfl hR1 rfl ⟨rfl, hbw.grown hg1 hbw.size (fun k h => by cases h; omega)⟩

set_option maxRecDepth 20000 in
set_option maxHeartbeats 1000000 in
theorem unpack_ok (x : Pm) (n : Nat) (w : World) (hn : n ≤ 12) : Calls Try.prog 70 #[pv x, .int .i64 n] w fun e w' => ∃ v, e = .returned v ∧ w'.ownsRow w.heap.size 3 1 v n ((cut n x).map (Value.int .i64)) ∧ Below w.heap.size w w' := by
  obtain ⟨i0, hi, hz0, hz1, hz2⟩ := info_parts Try.info3
  unfold pv
  have hx := x.len
  have HA := hide (Arr.new w x.l hx)
  go_enter Try.func70, Try.ntmps70
  go_wp2_with (at_make; refine wpList_make_full _ rfl _ _ 22 rfl w.heap.size 3 i0 (.int .i64 0) 1 Try.underlying22 hi hz0 hz1 _ _ _ _ n rfl rfl (by omega) (by omega) ?b2 ?b3 ?b4 ?_)
  case b2 => rw [hz2]; omega
  case b3 => unfold maxLen; omega
  case b4 => simp
  intro w0 hown0 hgrow0
  rw [made_ints] at hown0
  have hA0 := HA.out.kept hgrow0 (by simp)
  have hB0 := ((Below.refl w.heap.size w).alloc (Nat.le_refl _) (.cells (i8s x.l) 92)).grown hgrow0 (by simp) (fun k h => by cases h)
  clear HA hgrow0
  go_wp2
  go_loopw [11] (fun i wr => ∃ (k : Nat) (zs : List Int), k ≤ n ∧ i = .int .i64 k ∧ Arr wr w.heap.size x.l ∧ wr.ownsRow w.heap.size 3 1 (.slice (some ⟨w.heap.size + 1, 0, none⟩) n n) n (zs.map (Value.int .i64)) ∧ Hid (zs.length = n ∧ ∀ j, j < k → zs.getD j 0 = (cut n x).getD j 0) ∧ Below w.heap.size w wr) (fun i _ => n - (intOf i).toNat)
  case atStart => exact ⟨0, _, by omega, rfl, hA0, hown0, ⟨by simp, fun j hj => by omega⟩, hB0⟩
  case round =>
    clear hA0 hown0 hB0
    obtain ⟨k, zs, hk, rfl, hA, hown, hz, hbw⟩ := hrel
    by_cases hlt : k < n
    · obtain ⟨y, hy, hcx, hfx⟩ := owns_cellAt hown hlt
      have hq : x.l.getD k 0 = ((x.act k : Nat) : Int) := x.getD_act (by omega)
      have hm := x.act_lt (show k < 12 by omega)
      have hcp := (hA.cell (show k < 12 by omega)).1
      rw [hq] at hcp
      have HZ : Hid ((zs.set k ((x.act k : Nat) : Int)).length = n ∧ ∀ j, j < k + 1 → (zs.set k ((x.act k : Nat) : Int)).getD j 0 = (cut n x).getD j 0) := by
        refine ⟨by rw [List.length_set]; exact hz.out.1, fun j hj => ?_⟩
        rw [getD_set (by have := hz.out.1; omega)]
        split
        · rename_i e; subst e; rw [cut_get x hn hlt]
        · exact hz.out.2 j (by omega)
      clear hq hy
      generalize x.act k = m at *
      go_wp2
      go_roundw
      case rel => exact ⟨k + 1, _, by omega, by go_num, hA.set_other (by omega) _, owns_set_int hown _, HZ, hbw.setCell (by simp) _⟩
      case measure => simp [intOf]; omega
    · obtain rfl : k = n := by omega
      have HE : Hid (zs = cut k x) := ext_getD (by rw [hz.out.1, cut_length hn]) (fun j hj => hz.out.2 j (by have := hz.out.1; omega))
      go_wp2
      go_ret
      rw [← HE.out]
      exact ⟨_, rfl, hown, hbw⟩
end Go.Proofs.Ytbddhpbeekioiaa
