/- Contracts: Raw, RowOf, RowsOf. -/
import Derived.Test.YtbddhpbeekioiaaRefD
import Derived.Test.YtbddhpbeekioiaaPick
import Derived.Test.YtbddhpbeekioiaaMakeB
namespace Go.Proofs.Ytbddhpbeekioiaa
open Go.RowKit

/-- A number that an int may be. -/
def I64 (x : Int) : Prop := -9223372036854775808 ≤ x ∧ x ≤ 9223372036854775807

theorem wrap_I64 (x : Int) : I64 (wrap64 x) := by
  unfold I64 wrap64
  omega

set_option maxRecDepth 20000 in
set_option maxHeartbeats 400000 in
theorem raw_any (v : Value) (xs : List Int) (k : Nat) (w : World) (h : Ints w v xs) (hx : ∀ x, x ∈ xs → I64 x) (hk : k ≤ 1000000) :
    Calls Try.prog 52 #[v, .int .i64 k] w fun e w' => ∃ x, I64 x ∧ e = .returned (.int .i64 x) ∧ w = w' := by
  rcases h with ⟨rfl, p, c, rfl⟩ | ⟨b, off, cap, rfl, h0, hc, hm, hb, hcell⟩
  · go_enter Try.func52, Try.ntmps52
    go_wp2
    go_ret
    exact ⟨0, ⟨by omega, by omega⟩, rfl, rfl⟩
  · have hml : k % xs.length < xs.length := Nat.mod_lt _ h0
    have hme : (k : Int) % (xs.length : Int) = ((k % xs.length : Nat) : Int) := (Int.natCast_emod k xs.length).symm
    obtain ⟨x, hxe, hcx⟩ := cellAt hcell hml
    have hxm : I64 x := hx x (by rw [← hxe.out, List.getElem?_eq_getElem hml]; exact List.getElem_mem hml)
    have hne : ((xs.length : Int) == 0) = false := by rw [beq_eq_false_iff_ne]; omega
    generalize k % xs.length = m at *
    have HX := hide hx
    clear hcell hx hxe
    go_enter Try.func52, Try.ntmps52
    go_wp2
    go_ret
    exact ⟨x, hxm, rfl, rfl⟩

set_option maxRecDepth 20000 in
set_option maxHeartbeats 400000 in
theorem rowOf_ok (c : Int) (n : Nat) (w : World) (h : I64 c) (h12 : n ≤ 12) :
    Calls Try.prog 44 #[.int .i64 c, .int .i64 n] w fun e w' => ∃ v X, e = .returned v ∧ isRow X ∧ X.length = n ∧ w'.ownsRow w.heap.size 3 1 v n (X.map (Value.int .i64)) ∧ Below w.heap.size w w' := by
  obtain ⟨l0, u0⟩ := h
  have hF0 : (0 : Int) < ((fct n : Nat) : Int) := by have := fct_pos n; omega
  have hF1 : ((fct n : Nat) : Int) ≤ 9223372036854775807 := by have := fct_le h12; omega
  go_enter Try.func44, Try.ntmps44
  go_wp2_with fail
  refine (factorial_any n _ h12).mono ?_
  rintro e wa ⟨rfl, rfl⟩
  go_wp2_with fail
  refine (pick_any _ _ _ l0 u0 hF0 hF1).mono ?_
  rintro e wa ⟨k, hk0, hk1, rfl, rfl⟩
  obtain ⟨kx, rfl⟩ := Int.eq_ofNat_of_zero_le hk0
  have hkx : kx < fct n := by omega
  clear hk0 hk1 l0 u0
  go_wp2_with fail
  refine (rat_own n kx _ h12 hkx).mono ?_
  rintro e w1 ⟨v, rfl, ho, hb⟩
  have HO := hide ho
  clear ho
  go_wp2
  go_ret
  exact ⟨_, rowAt n kx, rfl, rowAt_row hkx, rowAt_length hkx, HO.out, hb⟩

structure RowsRel (w wr : World) (n k : Nat) (v : Value) (vs : List Value) (xss : List (List Int)) : Prop where
  row : wr.ownsRow w.heap.size 22 1 v k vs
  all : OwnAll wr w.heap.size vs xss
  len : vs.length = k
  rows : RowsN n xss
  below : Below w.heap.size w wr

set_option maxRecDepth 20000 in
set_option maxHeartbeats 2000000 in
theorem rowsOf_ok2 (v : Value) (xs : List Int) (f n m : Nat) (w : World) (h : Ints w v xs) (hx : ∀ x, x ∈ xs → I64 x) (hf : f ≤ 1000) (h1 : 1 ≤ n) (h12 : n ≤ 12) (hm : m ≤ 1000) :
    Calls Try.prog 43 #[v, .int .i64 f, .int .i64 n, .int .i64 m] w fun e w' => ∃ u vs xss, e = .returned u ∧ RowsRel w w' n m u vs xss := by
  obtain ⟨i0, hi, hz0, hz1, hz2⟩ := info_parts Try.info22
  have HI := hide h
  have HX := hide hx
  clear h hx
  go_enter Try.func43, Try.ntmps43
  go_wp2
  go_loopw [9, 10] (fun u i wr => ∃ (k : Nat) (vs : List Value) (xss : List (List Int)), k ≤ m ∧ i = .int .i64 k ∧ RowsRel w wr n k u vs xss) (fun _ i _ => m - (intOf i).toNat)
  case atStart => exact ⟨0, [], [], by omega, rfl, ⟨World.ownsRow_nil _ _ _ _, trivial, rfl, (fun x hx => absurd hx (by simp)), Below.refl _ _⟩⟩
  case round =>
    obtain ⟨k, vs, xss, hk, rfl, hR⟩ := hrel
    have hbw := hR.below
    have hbs := hbw.size
    by_cases hlt : k < m
    · have HR := hide hR
      have e1 : (f : Int) + (k : Int) = ((f + k : Nat) : Int) := by omega
      have e2 : ((f + k : Nat) : Int) + 1 = ((f + k + 1 : Nat) : Int) := by omega
      have E1 := hide e1
      have E2 := hide e2
      have HRaw1 := hide (raw_any v xs (f + k) wr (HI.out.below hbw) HX.out (by omega))
      have HRaw2 := hide (raw_any v xs (f + k + 1) wr (HI.out.below hbw) HX.out (by omega))
      rw [← E2.out] at HRaw2
      rw [← E1.out] at HRaw1 HRaw2
      clear e1 e2 hR hbw
      go_wp2_with fail
      refine HRaw1.out.mono ?_
      rintro e wa ⟨x1, hx1, rfl, rfl⟩
      go_wp2_with fail
      refine HRaw2.out.mono ?_
      rintro e wa ⟨x2, hx2, rfl, rfl⟩
      go_wp2_with fail
      refine (rowOf_ok _ n _ (wrap_I64 _) h12).mono ?_
      rintro e w1 ⟨u, X, rfl, hXr, hXl, ho, hb1⟩
      obtain ⟨gx, cx, rfl, _, _, _, _⟩ := owns_form ho h1
      have hrow1 := owns_below HR.out.row hb1 (Nat.le_refl _)
      have hs1 := hb1.size
      go_wp2_with (at_builtin; refine wpList_append_own _ rfl _ _ 25 rfl w.heap.size 22 i0 (.slice none 0 0) 1 24 Try.underlying25 hi hz0 hz1 hz2 rfl (by decide) _ _ _ rfl (hrow1.alloc _) ⟨w1.heap.size, 0, none⟩ 1 1 [.slice (some ⟨gx, 0, none⟩) n cx] rfl rfl ?c1 ?c2 ?c3 ?c4 ?c5 ?_)
      case c1 => exact cell_one_new _ _ _
      case c2 => intro u hu; simp at hu; subst hu; rfl
      case c3 => unfold maxLen; omega
      case c4 => omega
      case c5 => simp; omega
      · intro v' w4 hown4 hgrow _
        have hR4 : RowsRel w w4 n (k + 1) v' (vs ++ [.slice (some ⟨gx, 0, none⟩) n cx]) (xss ++ [X]) := by
          refine ⟨hown4, OwnAll.snoc ?_ (HR.out.all.mono (fun _ _ _ h' => owns_kept_ty ((owns_below h' hb1 (Nat.le_refl _)).alloc _) (hrow1.alloc _) hgrow)), by rw [List.length_append, HR.out.len]; rfl, ?_, ?_⟩
          · rw [hXl]
            exact owns_kept_ty ((owns_base ho hbs).alloc _) (hrow1.alloc _) hgrow
          · intro y hy
            rcases List.mem_append.1 hy with hy | hy
            · exact HR.out.rows y hy
            · rw [List.mem_singleton.1 hy]; exact ⟨hXr, hXl⟩
          · refine ((HR.out.below.trans (hb1.mono hbs)).alloc (by omega) _).grown hgrow (by simp; omega) (fun g' hg' => (hrow1.lt g' hg').1)
        have HR4 := hide hR4
        clear hR4 hown4 hgrow hrow1 ho
        go_wp2
        go_roundw
        case rel => exact ⟨k + 1, _, _, by omega, by go_num, HR4.out⟩
        case measure => simp [intOf]; omega
    · obtain rfl : k = m := by omega
      have HR := hide hR
      clear hR hbw
      go_wp2
      go_ret
      exact ⟨_, vs, xss, rfl, HR.out⟩

theorem RowsRel.all' {w w' : World} {n m : Nat} {u : Value} {vs : List Value} {xss : List (List Int)} (h : RowsRel w w' n m u vs xss) : IntsAll w' u xss ∧ xss.length = m := by
  have e := OwnAll.length h.all
  have hr := h.row
  rw [← h.len] at hr
  exact ⟨IntsAll.own hr h.all, by rw [← e]; exact h.len⟩

end Go.Proofs.Ytbddhpbeekioiaa
