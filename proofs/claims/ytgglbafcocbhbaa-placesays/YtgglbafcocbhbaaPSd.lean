/- Contract: the answer's PlacesText. -/
import Derived.Test.YtgglbafcocbhbaaPSc
namespace Go.Proofs.Ytgglbafcocbhbaa
open Go.RowKit

set_option maxRecDepth 20000 in
set_option maxHeartbeats 8000000 in
theorem placesText_ok (v : Value) (l : List (List Int)) (w : World) (hv : IntsAll w v l) (h1 : 1 ≤ l.length) (h2 : l.length ≤ 200) (hbo : ∀ k, k < l.length → (l.getD k []).length ≤ 12 ∧ ∀ p, p ∈ l.getD k [] → 1 ≤ p ∧ p ≤ 12) (hln : ∀ k, (ptx l k).length ≤ 13 * k) :
    Calls Try.prog 37 #[v] w fun e w' => e = .returned (.string (strOfNums (ptx l l.length))) ∧ w = w' := by
  have HBO := hide hbo
  have HLN := hide hln
  obtain ⟨b, off, cap, rfl, hb, hlc, hcm, hcell⟩ := hv.cell h1
  have HC := hide hcell
  clear hbo hln hv hcell
  go_enter Try.func37, Try.ntmps37
  go_wp2
  go_loop [3, 4] (fun s i => ∃ k : Nat, k ≤ l.length ∧ i = .int .i64 k ∧ s = .string (strOfNums (ptx l k))) (fun _ i => l.length - (intOf i).toNat)
  case atStart => exact ⟨0, by omega, rfl, rfl⟩
  case round =>
    obtain ⟨k, hk, rfl, rfl⟩ := hrel
    have hln := HLN.out k
    by_cases hlt : k < l.length
    · obtain ⟨p, c, gp, hint⟩ := HC.out k hlt
      have hb12 := (HBO.out k hlt).1
      have HPX : Hid (ptx l (k + 1) = ptx l k ++ pcs (dk l k) (l.getD k [])) := rfl
      have HDK : Hid (dk l k = decide (0 < k ∧ l.getD (k - 1) [] ≠ [])) := rfl
      generalize hT : ptx l k = T at *
      have hs1 : (strOfNums T).size ≤ 2600 := by rw [strOfNums_size]; omega
      by_cases h0 : l.getD k [] = []
      · have HT : Hid (ptx l (k + 1) = T ++ [120]) := by show _ = _; rw [HPX.out]; unfold pcs; rw [if_pos h0]
        rw [h0] at gp
        have gp' : w.cell? ⟨b, off + k, none⟩ = some (.slice p 0 c) := gp
        have hadd := run_string_add_sum (P := Try.prog) w (strOfNums T) ⟨#[120]⟩ (by have : (⟨#[120]⟩ : ByteArray).size = 1 := rfl; omega)
        have HA := hide (str_append T [120])
        clear gp hint HDK HPX hb12 h0 hs1
        go_wp2
        go_round
        case rel => exact ⟨k + 1, by omega, by go_num, by rw [HT.out, ← HA.out]; rfl⟩
        case measure => simp [intOf]; omega
      · have HT : Hid (ptx l (k + 1) = (T ++ (if dk l k = true then [46] else [])) ++ sgs (l.getD k [])) := by show _ = _; rw [HPX.out]; unfold pcs; rw [if_neg h0, ← List.append_assoc]
        have hpl : 1 ≤ (l.getD k []).length := by
          cases hg : l.getD k [] with
          | nil => exact absurd hg h0
          | cons => simp
        have hne : (((l.getD k []).length : Int) == 0) = false := by rw [beq_eq_false_iff_ne]; omega
        have HPP : Hid (∀ q, q ∈ l.getD k [] → 1 ≤ q ∧ q ≤ 12) := (HBO.out k hlt).2
        clear h0 HPX
        generalize hps : l.getD k [] = ps at *
        generalize hpn : ps.length = pl at *
        go_upto_region 7 with fail
        go_cut [30] from 6 to 52 (fun x wx => x = .bool (dk l k) ∧ wx = w)
        case first =>
          clear HT HPP hint
          obtain rfl | ⟨q, rfl⟩ : k = 0 ∨ ∃ q, k = q + 1 := by
            cases k with
            | zero => exact Or.inl rfl
            | succ q => exact Or.inr ⟨q, rfl⟩
          · have HD : Hid (dk l 0 = false) := by show _ = _; rw [HDK.out]; simp
            clear HDK
            go_wp2
            go_meet
            exact ⟨by rw [HD.out], rfl⟩
          · obtain ⟨p2, c2, gq, _⟩ := HC.out q (by omega)
            have HD : Hid (dk l (q + 1) = decide (0 < (l.getD q []).length)) := by
              show _ = _
              rw [HDK.out]
              refine decide_eq_decide.2 ?_
              have : l.getD q [] ≠ [] ↔ 0 < (l.getD q []).length := List.length_pos_iff.symm
              rw [show q + 1 - 1 = q from rfl, this]
              omega
            clear HDK
            generalize (l.getD q []).length = ql at *
            go_wp2
            go_meet
            exact ⟨by rw [HD.out], rfl⟩
        case rest =>
          obtain ⟨rfl, rfl⟩ := hcut
          clear HDK
          generalize dk l k = d at *
          go_upto_if 30 with fail
          go_cut [3] from 6 to 52 (fun t wx => t = .string (strOfNums (T ++ (if d = true then [46] else []))) ∧ wx = wc)
          case first =>
            cases d with
            | false =>
              clear HT
              go_wp2
              go_meet
              exact ⟨by rw [if_neg (by decide), List.append_nil], rfl⟩
            | true =>
              have hadd := run_string_add_sum (P := Try.prog) wc (strOfNums T) ⟨#[46]⟩ (by have : (⟨#[46]⟩ : ByteArray).size = 1 := rfl; omega)
              have HA := hide (str_append T [46])
              clear HT
              go_wp2
              go_meet
              exact ⟨by rw [if_pos (by trivial), ← HA.out]; rfl, rfl⟩
          case rest =>
            obtain ⟨rfl, rfl⟩ := hcut
            have ht2 : (T ++ (if d = true then [46] else [])).length ≤ 13 * k + 1 := by
              rw [List.length_append]
              cases d <;> simp <;> omega
            clear hne hs1
            generalize T ++ (if d = true then [46] else []) = T2 at *
            rcases hint.out with ⟨h, _⟩ | ⟨b3, o3, cap3, he, h03, hc3, hm3, hb3, hcell3⟩
            · rw [h] at hpn; simp at hpn; omega
            simp only [Value.slice.injEq] at he
            obtain ⟨rfl, he2, rfl⟩ := he
            clear he2
            have HC3 := hide hcell3
            clear hint hcell3 hln
            have HO0 : Hid (strOfNums T2 = strOfNums (T2 ++ sgs (ps.take 0))) := by
              show _ = _
              rw [List.take_zero, show sgs [] = [] from rfl, List.append_nil]
            go_wp2
            go_loop [3, 5] (fun t i => ∃ (j : Nat), j ≤ pl ∧ i = .int .i64 j ∧ t = .string (strOfNums (T2 ++ sgs (ps.take j)))) (fun _ i => pl - (intOf i).toNat)
            case atStart => exact ⟨0, by omega, rfl, by rw [HO0.out]⟩
            case round =>
              obtain ⟨j, hj, rfl, rfl⟩ := hrel
              clear HO0
              have hl3 : (strOfNums (T2 ++ sgs (ps.take j))).size ≤ 13 * k + 20 := by rw [strOfNums_size, List.length_append, sgs_length, List.length_take]; omega
              by_cases hlt3 : j < pl
              · obtain ⟨x, hx, hcx⟩ := cellAt HC3.out (show j < ps.length by omega)
                have hxm : x ∈ ps := by
                  rw [← hx.out, List.getElem?_eq_getElem (by omega), Option.getD_some]
                  exact List.getElem_mem _
                have hxb := HPP.out x hxm
                obtain ⟨m, hm⟩ : ∃ m : Nat, x = (m : Int) + 1 := ⟨(x - 1).toNat, by omega⟩
                subst hm
                have hm12 : m < 12 := by omega
                have HS : Hid (T2 ++ sgs (ps.take (j + 1)) = (T2 ++ sgs (ps.take j)) ++ [((sg m : Nat) : Int)]) := by
                  show _ = _
                  rw [take_snoc ps j (by omega), hx.out, List.append_assoc]
                  congr 1
                  simp [sgs]
                clear hxm hxb hx
                generalize T2 ++ sgs (ps.take j) = T3 at *
                have HSG := hide (signOf_ok m hm12 wc)
                have hs9 : (strOfNums [((sg m : Nat) : Int)]).size = 1 := by rw [strOfNums_size]; rfl
                have hadd := run_string_add_sum (P := Try.prog) wc (strOfNums T3) (strOfNums [((sg m : Nat) : Int)]) (by omega)
                have HA := hide (str_append T3 [((sg m : Nat) : Int)])
                go_wp2_with fail
                refine HSG.out.mono ?_
                rintro e w' ⟨rfl, rfl⟩
                go_wp2
                go_round
                case rel => exact ⟨j + 1, by omega, by go_num, by rw [HS.out, ← HA.out]⟩
                case measure => simp [intOf] <;> omega
              · have HO : Hid (strOfNums (T2 ++ sgs (ps.take j)) = strOfNums (ptx l (k + 1))) := by
                  show _ = _
                  rw [HT.out, List.take_of_length_le (show ps.length ≤ j by omega)]
                go_wp2
                go_round
                case rel => exact ⟨k + 1, by omega, by go_num, by rw [HO.out]⟩
                case measure => simp [intOf] <;> omega
    · obtain rfl : k = l.length := by omega
      go_wp2
      go_ret
      exact ⟨rfl, rfl⟩

end Go.Proofs.Ytgglbafcocbhbaa
