/- Contract: Text. -/
import Derived.Test.YtgglbafcocbhbaaOrder
namespace Go.Proofs.Ytgglbafcocbhbaa
open Go.RowKit
set_option maxRecDepth 20000

theorem Try.info5 : (Try.prog.info? 5).map (fun i => (i.zero, i.size, i.bytes)) = some (some (.int .u8 0), 1, 1) := by kernel_rfl

/-- The signs. -/
def sg (m : Nat) : Nat := [49, 50, 51, 52, 53, 54, 55, 56, 57, 48, 69, 84].getD m 0

theorem sg_lt (m : Nat) : sg m < 128 := by
  match m with
  | 0 | 1 | 2 | 3 | 4 | 5 | 6 | 7 | 8 | 9 | 10 | 11 => decide
  | n + 12 => simp [sg]

/-- The text of a row, as numbers. -/
def txt (xs : List Int) : List Int := xs.map (fun x => ((sg x.toNat : Nat) : Int))

theorem txt_length (xs : List Int) : (txt xs).length = xs.length := by simp [txt]

theorem txt_snoc (xs : List Int) (m : Nat) : txt (xs ++ [(m : Int)]) = txt xs ++ [((sg m : Nat) : Int)] := by simp [txt]

theorem index_sign (m : Nat) (hm : m < 12) (w : World) : (Instr.index 9 (.string { data := #[49, 50, 51, 52, 53, 54, 55, 56, 57, 48, 69, 84] }) (.int .i64 (m : Int))).run Try.prog w = .ok (.int .u8 ((sg m : Nat) : Int)) w := by
  rw [run_index_string w 9 _ .i64 (m : Int) Try.underlying9, dif_pos ⟨by omega, by show (m : Int) < 12; omega⟩]
  match m, hm with
  | 0, _ | 1, _ | 2, _ | 3, _ | 4, _ | 5, _ | 6, _ | 7, _ | 8, _ | 9, _ | 10, _ | 11, _ => rfl

theorem owns_bytes {w : World} {base e g n cap : Nat} {zs : List Int} (h : w.ownsRow base e 1 (.slice (some ⟨g, 0, none⟩) n cap) n (zs.map (Value.int .u8))) (j : Nat) (hj : j < n) :
    w.cell? ⟨g, 0 + j, none⟩ = some (.int .u8 (zs.getD j 0)) := by
  have hl : zs.length = n := by have := h.1; simpa using this
  have := h.cells (g := g) rfl j (.int .u8 (zs.getD j 0)) (by simp [List.getElem?_map, List.getD, List.getElem?_eq_getElem (by omega : j < zs.length)])
  rw [Addr.add_lit] at this
  exact this

set_option maxHeartbeats 2000000 in
theorem text_ok (v1 : Value) (a : List Int) (w : World) (i1 : Ints w v1 a) (r1 : isRow a) (n1 : 1 ≤ a.length) (n2 : a.length ≤ 12) :
    Calls Try.prog 12 #[v1] w fun e w' => e = .returned (.tuple #[.string (strOfNums (txt a)), .int .i64 0]) ∧ Below w.heap.size w w' := by
  obtain ⟨i0, hi, hz0, hz1, hz2⟩ := info_parts Try.info5
  have hc1 := chk_ok n1 n2 r1
  have C1 := check_any v1 a w i1
  rw [hc1] at C1
  have HC1 := hide C1
  have R1 := hide r1
  clear C1 hc1
  rcases i1 with ⟨rfl, p, c, rfl⟩ | ⟨b1, o1, cap1, rfl, h01, hcp1, hm1, hb1, hcell1⟩
  · simp at n1
  clear r1
  go_enter Try.func12, Try.ntmps12
  go_wp2_with fail
  refine HC1.out.mono ?_
  rintro e w2 ⟨rfl, hB2⟩
  clear HC1
  have hB2s := hB2.size
  go_wp2_with (at_make; refine wpList_make_own _ rfl _ _ 68 rfl w.heap.size 5 i0 (.int .u8 0) 1 Try.underlying68 hi hz0 hz1 _ _ _ a.length rfl rfl (by omega) ?b2 ?b3 hB2.size ?_)
  case b2 => rw [hz2]; omega
  case b3 => unfold maxLen; omega
  intro w0 hown0 hgrow0
  go_wp2
  go_loopw [5, 18] (fun v i wr => ∃ (k : Nat), k ≤ a.length ∧ i = .int .i64 k ∧ wr.ownsRow w.heap.size 5 1 v k ((txt (a.take k)).map (Value.int .u8)) ∧ Below w.heap.size w wr) (fun _ i _ => a.length - (intOf i).toNat)
  case atStart => exact ⟨0, by omega, rfl, hown0, hB2.grown hgrow0 hB2.size (fun k h => by cases h)⟩
  case round =>
    obtain ⟨k, hk, rfl, hown, hbw⟩ := hrel
    have hbs := hbw.size
    by_cases hlt : k < a.length
    · obtain ⟨p, hp, hcp⟩ := cellAt hcell1 hlt
      have hpr := R1.out.at hlt
      rw [show a.getD k 0 = p from hp.out] at hpr
      obtain ⟨m, rfl⟩ := Int.eq_ofNat_of_zero_le hpr.1
      have hm12 : m < 12 := by have := hpr.2; omega
      have gp : wr.cell? ⟨b1, o1 + k, none⟩ = some (.int .i64 (m : Int)) := (hbw.cell (by exact hb1)).trans hcp
      have hix := index_sign m hm12
      have HT : Hid (txt (a.take (k + 1)) = txt (a.take k) ++ [((sg m : Nat) : Int)]) := by show _ = _; rw [take_snoc a k hlt, hp.out, txt_snoc]
      clear hcp hcell1 hpr
      go_wp2_with (at_builtin; refine wpList_append_own _ rfl _ _ 68 rfl w.heap.size 5 i0 (.int .u8 0) 1 1 Try.underlying68 hi hz0 hz1 hz2 rfl (by decide) _ _ _ rfl (hown.alloc _) ⟨wr.heap.size, 0, none⟩ 1 1 [.int .u8 ((sg m : Nat) : Int)] rfl rfl ?c1 ?c2 ?c3 ?c4 ?c5 ?_)
      case c1 => exact cell_one_new _ _ _
      case c2 => intro u hu; simp at hu; subst hu; rfl
      case c3 => unfold maxLen; omega
      case c4 => omega
      case c5 => simp; omega
      · intro v' w1 hown' hgrow _
        go_wp2
        go_roundw
        case rel => exact ⟨k + 1, by omega, by go_num, by rw [HT.out, List.map_append]; exact hown', (hbw.alloc hbw.size _).grown hgrow (by simp; omega) (fun g hg => (hown.lt g hg).1)⟩
        case measure => simp [intOf]; omega
    · obtain rfl : k = a.length := by omega
      rw [List.take_length] at hown
      obtain ⟨g, cap, hv, hg, hg2, hgc, hcm⟩ := owns_form hown n1
      rw [hv] at hown ⊢
      have hcv := fun dst hd => run_convert_bytes_arg (P := Try.prog) wr 68 5 Try.underlying68 Try.underlying5 g 0 a.length cap (txt a) (txt_length a) (owns_bytes hown) dst hd
      clear hcell1
      go_wp2
      go_ret2
      exact ⟨rfl, hbw⟩

end Go.Proofs.Ytgglbafcocbhbaa
