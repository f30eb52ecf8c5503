/- The walk of TopHalf: it answers true at every input. (Written by mkhalf.py.) -/
import Derived.Test.YtfhcelanjilbiaaHalfW
namespace Go.Proofs.Ytfhcelanjilbiaa
open Go.RowKit

set_option maxRecDepth 20000 in
set_option maxHeartbeats 400000 in
theorem topHalf_long (v : Value) (xs : List Int) (a1 a2 : Int) (o : Bool) (w : World) (hi : Ints w v xs) (hl : 256 < xs.length) :
    Calls Try.prog 10 #[v, .int .i64 a1, .int .i64 a2, .bool o] w fun e w' => e = .returned (.bool true) ∧ Below w.heap.size w w' := by
  obtain ⟨p, c, rfl⟩ := hi.form
  clear hi
  go_enter Try.func10, Try.ntmps10
  go_wp2
  go_ret
  exact ⟨rfl, Below.refl _ _⟩

set_option maxRecDepth 100000 in
set_option maxHeartbeats 8000000 in
theorem topHalf_true (v : Value) (xs : List Int) (a1 a2 : Int) (w : World) (hin : Ints w v xs) (hx : ∀ x, x ∈ xs → I64 x) (hl : xs.length ≤ 256) (h1 : I64 a1) (h2 : I64 a2) :
    Calls Try.prog 10 #[v, .int .i64 a1, .int .i64 a2, .bool true] w fun e w' => e = .returned (.bool true) ∧ Below w.heap.size w w' := by
  obtain ⟨i0, hi, hz0, hz1, hz2⟩ := info_parts Try.info22
  obtain ⟨j0, hj, hy0, hy1, hy2⟩ := info_parts Try.info3
  obtain ⟨p0, c0, rfl⟩ := hin.form
  have HI := hide hin
  have HX := hide hx
  obtain ⟨l1, u1⟩ := h1
  have hpr := pk_range a2 (n := 20) (by omega)
  have HPK := hide (fun W => pick_det a2 20 W h2.1 h2.2 (by omega) (by omega))
  obtain ⟨M, hM⟩ := Int.eq_ofNat_of_zero_le hpr.1
  rw [hM] at HPK hpr
  have hM20 : M < 20 := by omega
  clear hin hx h2 hM hpr
  go_enter Try.func10, Try.ntmps10
  go_wp2_with fail
  refine (pick_any _ _ _ l1 u1 (by omega) (by omega)).mono ?_
  rintro e wa ⟨q, hq0, hq1, rfl, rfl⟩
  obtain ⟨m0, rfl⟩ := Int.eq_ofNat_of_zero_le hq0
  go_wp2_with fail
  rw [show (3 + (m0 : Int)) = ((m0 + 3 : Nat) : Int) from by omega]
  generalize hn : m0 + 3 = n
  have n1 : 3 ≤ n := by omega
  have n2 : n ≤ 12 := by omega
  clear hn hq0 hq1 l1 u1
  go_loopw [9, 10] (fun u i wr => ∃ (k : Nat) (vs : List Value) (ts : List (List Bool)), k ≤ M + 1 ∧ i = .int .i64 k ∧ Hid (ts.length = k) ∧ Hid (vs.length = k) ∧ Hid (∀ t, t ∈ ts → tsz t = n) ∧ Hid (∀ t, t ∈ ts → decide (tpr t % 2 = 1) = true) ∧ Hid (LL wr w.heap.size u vs (ts.map tpl)) ∧ Below w.heap.size w wr) (fun _ i _ => M + 1 - (intOf i).toNat)
  case atStart => exact ⟨0, [], [], by omega, rfl, rfl, rfl, (fun t ht => by cases ht), (fun t ht => by cases ht), LL.nil _ _, Below.refl _ _⟩
  case round =>
    obtain ⟨k, vs, ts, hk, rfl, hl', hlv, hts, hps, hL, hbw⟩ := hrel
    have hl := hl'
    have hbs := hbw.size
    by_cases hlt : k < M + 1
    · have HRaw1 := hide (raw_any _ xs k wr (HI.out.below hbw) HX.out (by omega))
      go_wp2_with fail
      refine (HPK.out _).mono ?_
      rintro e wa ⟨rfl, rfl⟩
      go_wp2_with fail
      refine HRaw1.out.mono ?_
      rintro e wa ⟨x1, hx1, rfl, rfl⟩
      go_wp2_with fail
      refine (changeOf_ok x1 n _ hx1 (by omega) n2).mono ?_
      rintro e w1 ⟨u, t, rfl, ht, ho, hb1⟩
      have HL1 := hide (hL.out.below hb1)
      have HOU := hide (owns_base ho hbs)
      obtain ⟨p, c, rfl⟩ := owns_slice ho
      have HT := hide ht
      have hb2 := hbw.trans (hb1.mono hbs)
      have HPH := hide (tpr_half t n ht)
      have hle : (tpl t).length ≤ n := by have := tpl_length t; omega
      clear ho hL ht hb1 hbw HRaw1 hx1
      generalize hpl' : (tpl t).length = pl at *
      have hpl := hide hpl'
      clear hpl'
      cases hd : decide (tpr t % 2 = 1) with
      | true =>
        have HP := hide hd
        have hX : (((n : Int) - (pl : Int)) / 2 % 2 == 1) = true := by
          have h3 := HPH.out
          rw [h3, Bool.eq_iff_iff]
          have h4 := hd
          simp at h4 ⊢
          omega
        clear hd HPH
        have hrowA := HL1.out.row
        rw [hlv.out] at hrowA
        have hsA := hb2.size
        go_wp2_with (at_builtin; refine wpList_append_own _ rfl _ _ 25 rfl w.heap.size 22 i0 (.slice none 0 0) 1 24 Try.underlying25 hi hz0 hz1 hz2 rfl (by decide) _ _ _ rfl (hrowA.alloc _) ⟨w1.heap.size, 0, none⟩ 1 1 [.slice p pl c] rfl rfl ?c1 ?c2 ?c3 ?c4 ?c5 ?_)
        case c1 => exact cell_one_new _ _ _
        case c2 => intro u hu; simp at hu; subst hu; rfl
        case c3 => unfold maxLen; omega
        case c4 => omega
        case c5 => simp; omega
        · intro v' w4 hown4 hgrow _
          have HL4 : Hid (LL w4 w.heap.size v' (vs ++ [.slice p pl c]) ((ts ++ [t]).map tpl)) := by
            show LL _ _ _ _ _
            rw [List.map_append]
            exact HL1.out.push (by rw [hpl.out]; exact HOU.out) (by rw [hlv.out]; exact hown4) hgrow
          have hB4 := HL1.out.step hb2 (Nat.le_refl _) hsA hgrow
          have HLE : Hid ((ts ++ [t]).length = k + 1) := by show _ = _; rw [List.length_append, hl.out]; rfl
          have HLV : Hid ((vs ++ [Value.slice p pl c]).length = k + 1) := by show _ = _; rw [List.length_append, hlv.out]; rfl
          have HTS : Hid (∀ t', t' ∈ ts ++ [t] → tsz t' = n) := by
            intro t' ht'
            rcases List.mem_append.1 ht' with h | h
            · exact hts.out t' h
            · rw [List.mem_singleton.1 h]; exact HT.out
          have HPS : Hid (∀ t', t' ∈ ts ++ [t] → decide (tpr t' % 2 = 1) = true) := by
            intro t' ht'
            rcases List.mem_append.1 ht' with h | h
            · exact hps.out t' h
            · rw [List.mem_singleton.1 h]; exact HP.out
          clear hown4 hgrow hrowA
          go_wp2
          go_roundw
          case rel => exact ⟨k + 1, _, ts ++ [t], by omega, by go_num, HLE, HLV, HTS, HPS, HL4, hB4⟩
          case measure => simp [intOf]; omega
      | false =>
        have hX : (((n : Int) - (pl : Int)) / 2 % 2 == 1) = false := by
          have h3 := HPH.out
          rw [h3, Bool.eq_iff_iff]
          have h4 := hd
          simp at h4 ⊢
          omega
        clear hd HPH HOU
        go_wp2_with fail
        go_loopw [11, 12] (fun c i w3 => ∃ m : Nat, m ≤ n ∧ i = .int .i64 ((m + 1 : Nat) : Int) ∧ Hid (w3.ownsRow w1.heap.size 3 1 c (tpl (tile true m)).length ((tpl (tile true m)).map (Value.int .i64))) ∧ Below w1.heap.size w1 w3) (fun _ i _ => n + 1 - (intOf i).toNat)
        case atStart => exact ⟨0, by omega, rfl, World.ownsRow_nil _ _ _ _, Below.refl _ _⟩
        case round =>
          obtain ⟨m, hm, rfl, hcw, hcb⟩ := hrel
          have hcl := tile_len true m
          by_cases hmn : m + 1 ≤ n
          · have hcown := hcw.out
            have hcs := hcb.size
            clear hcw
            by_cases h2m : 2 ≤ m
            · go_wp2_with (at_builtin; refine wpList_append_own _ rfl _ _ 22 rfl w1.heap.size 3 j0 (.int .i64 0) 1 8 Try.underlying22 hj hy0 hy1 hy2 rfl (by decide) _ _ _ rfl (hcown.alloc _) ⟨wr.heap.size, 0, none⟩ 1 1 [.int .i64 ((m + 1 : Nat) : Int)] rfl rfl ?d1 ?d2 ?d3 ?d4 ?d5 ?_)
              case d1 => exact cell_one_new _ _ _
              case d2 => intro u hu; simp at hu; subst hu; rfl
              case d3 => unfold maxLen; omega
              case d4 => omega
              case d5 => simp; omega
              · intro v' w4 hown4 hgrow _
                have HW4 : Hid (w4.ownsRow w1.heap.size 3 1 v' (tpl (tile true (m + 1))).length ((tpl (tile true (m + 1))).map (Value.int .i64))) := by
                  show World.ownsRow _ _ _ _ _ _ _
                  rw [tile_add (Or.inr h2m), List.length_append, List.map_append]
                  exact hown4
                have hB4 := (hcb.alloc hcb.size _).grown hgrow (by simp; omega) (fun g hg => (hcown.lt g hg).1)
                clear hown4 hgrow hcown
                go_wp2
                go_roundw
                case rel => exact ⟨m + 1, by omega, by go_num, HW4, hB4⟩
                case measure => simp [intOf]; omega
            · have HS := hide (tile_skip h2m)
              rw [← HS.out] at hcown
              have HCW := hide hcown
              clear hcown
              go_wp2
              go_roundw
              case rel => exact ⟨m + 1, by omega, by go_num, HCW, hcb⟩
              case measure => simp [intOf]; omega
          · obtain rfl : n = m := by omega
            have HLW := hide (HL1.out.below hcb)
            have hcs := hcb.size
            have hs1 := hb2.size
            have HOW := hide (owns_base hcw.out hs1)
            obtain ⟨p, c, hf⟩ := owns_slice hcw.out
            have HF := hide hf
            rw [HF.out] at HOW ⊢
            have hb5 := hb2.trans (hcb.mono hs1)
            have HTT := hide (tile_sz (o := true) (m := n) (by omega))
            have HTP := hide (tile_pr (o := true) (m := n) (by omega))
            clear hpl hX hle hb2 hcw hf hcb HF
            generalize hpl' : (tpl (tile true n)).length = pl at *
            have hpl := hide hpl'
            clear hpl'
            generalize tile true n = T at *
            have hrowA := HLW.out.row
            rw [hlv.out] at hrowA
            have hsA := hb5.size
            go_wp2_with (at_builtin; refine wpList_append_own _ rfl _ _ 25 rfl w.heap.size 22 i0 (.slice none 0 0) 1 24 Try.underlying25 hi hz0 hz1 hz2 rfl (by decide) _ _ _ rfl (hrowA.alloc _) ⟨wr.heap.size, 0, none⟩ 1 1 [.slice p pl c] rfl rfl ?c1 ?c2 ?c3 ?c4 ?c5 ?_)
            case c1 => exact cell_one_new _ _ _
            case c2 => intro u hu; simp at hu; subst hu; rfl
            case c3 => unfold maxLen; omega
            case c4 => omega
            case c5 => simp; omega
            · intro v' w4 hown4 hgrow _
              have HL4 : Hid (LL w4 w.heap.size v' (vs ++ [.slice p pl c]) ((ts ++ [T]).map tpl)) := by
                show LL _ _ _ _ _
                rw [List.map_append]
                exact HLW.out.push (by rw [hpl.out]; exact HOW.out) (by rw [hlv.out]; exact hown4) hgrow
              have hB4 := HLW.out.step hb5 (Nat.le_refl _) hsA hgrow
              have HLE : Hid ((ts ++ [T]).length = k + 1) := by show _ = _; rw [List.length_append, hl.out]; rfl
              have HLV : Hid ((vs ++ [Value.slice p pl c]).length = k + 1) := by show _ = _; rw [List.length_append, hlv.out]; rfl
              have HTS : Hid (∀ t', t' ∈ ts ++ [T] → tsz t' = n) := by
                intro t' ht'
                rcases List.mem_append.1 ht' with h | h
                · exact hts.out t' h
                · rw [List.mem_singleton.1 h]; exact HTT.out
              have HPS : Hid (∀ t', t' ∈ ts ++ [T] → decide (tpr t' % 2 = 1) = true) := by
                intro t' ht'
                rcases List.mem_append.1 ht' with h | h
                · exact hps.out t' h
                · rw [List.mem_singleton.1 h]; exact HTP.out
              clear hown4 hgrow hrowA
              go_wp2
              go_roundw
              case rel => exact ⟨k + 1, _, ts ++ [T], by omega, by go_num, HLE, HLV, HTS, HPS, HL4, hB4⟩
              case measure => simp [intOf]; omega
    · obtain rfl : k = M + 1 := by omega
      have HLI := hide hL.out.ints
      obtain ⟨lp, lc, hf⟩ := owns_slice hL.out.row
      rw [hlv.out] at hf
      subst hf
      have hlm := hl.out
      have HLD := hide (lead_ok ⟨#[72, 97, 108, 102]⟩ n _ ts wr (by decide) half_name (by omega) n2 (by omega) (by omega) hts.out HLI.out)
      rw [hlm] at HLD
      have HODD := hide (fun j (hj : j ≤ M + 1) => prd_odd n true j ts (by omega) hts.out hps.out)
      have HROW := hide (fun j => prd_row n (ts.take j) (fun t ht => hts.out t (List.mem_of_mem_take ht)))
      clear hlm hL HLI hl hl'
      go_wp2_with fail
      refine (HPK.out _).mono ?_
      rintro e wa ⟨rfl, rfl⟩
      go_wp2_with fail
      refine HLD.out.mono ?_
      rintro e w5 ⟨ru, rvs, rfl, hLL, hb5⟩
      have hB5 := hbw.trans (hb5.mono hbs)
      obtain ⟨rb, ro, rc, hre, hrb, hrc1, hrc2, hrcell⟩ := hLL.ints.cell (by rw [leadTo_length]; omega)
      rw [leadTo_length] at hre hrc1 hrcell
      subst hre
      have HRC := hide hrcell
      clear hrcell hLL HLD hb5 hbw
      go_wp2
      go_loopw [15] (fun i w6 => ∃ j : Nat, j ≤ M + 1 + 1 ∧ i = .int .i64 j ∧ Below w5.heap.size w5 w6) (fun i _ => M + 2 - (intOf i).toNat)
      case atStart => exact ⟨0, by omega, rfl, Below.refl _ _⟩
      case round =>
        obtain ⟨j, hj, rfl, hb6⟩ := hrel
        by_cases hjl : j < M + 1 + 1
        · obtain ⟨rp, rcc, hcx, hix⟩ := HRC.out j hjl
          rw [leadTo_get (by omega)] at hcx hix
          have gx := (hb6.cell (p := ⟨rb, ro + j, none⟩) (by exact hrb)).trans hcx
          have hrr := HROW.out j
          have HOO := hide (HODD.out j (by omega))
          have hra : RowAt wr (.slice rp (prd n (ts.take j)).length rcc) n (prd n (ts.take j)) := ⟨hix.out.below hb6, hrr.1, hrr.2⟩
          have HOR := hide (order_ord (by omega) n2 hra)
          generalize prd n (ts.take j) = X at *
          rw [HOO.out] at HOR
          generalize X.length = XL at *
          generalize ord X = XO at *
          clear hrr hra hcx hix
          by_cases hj2 : j % 2 = 1
          · have hj3 : ((j : Int) % 2 == 1) = true := by rw [beq_iff_eq]; omega
            rw [decide_eq_true hj2] at HOR
            clear hj2
            go_wp2_with fail
            refine HOR.out.mono ?_
            rintro e w7 ⟨rfl, _, _, hb7⟩
            have hB7 := hb6.trans (hb7.mono hb6.size)
            clear hb7 HOR
            go_wp2
            go_roundw
            case rel => exact ⟨j + 1, by omega, by go_num, hB7⟩
            case measure => simp [intOf]; omega
          · have hj3 : ((j : Int) % 2 == 1) = false := by rw [beq_eq_false_iff_ne]; omega
            rw [decide_eq_false hj2] at HOR
            clear hj2
            go_wp2_with fail
            refine HOR.out.mono ?_
            rintro e w7 ⟨rfl, _, _, hb7⟩
            have hB7 := hb6.trans (hb7.mono hb6.size)
            clear hb7 HOR
            go_wp2
            go_roundw
            case rel => exact ⟨j + 1, by omega, by go_num, hB7⟩
            case measure => simp [intOf]; omega
        · go_wp2
          go_ret
          exact ⟨rfl, hB5.trans (hb6.mono hB5.size)⟩

set_option maxRecDepth 100000 in
set_option maxHeartbeats 8000000 in
theorem topHalf_false (v : Value) (xs : List Int) (a1 a2 : Int) (w : World) (hin : Ints w v xs) (hx : ∀ x, x ∈ xs → I64 x) (hl : xs.length ≤ 256) (h1 : I64 a1) (h2 : I64 a2) :
    Calls Try.prog 10 #[v, .int .i64 a1, .int .i64 a2, .bool false] w fun e w' => e = .returned (.bool true) ∧ Below w.heap.size w w' := by
  obtain ⟨i0, hi, hz0, hz1, hz2⟩ := info_parts Try.info22
  obtain ⟨j0, hj, hy0, hy1, hy2⟩ := info_parts Try.info3
  obtain ⟨p0, c0, rfl⟩ := hin.form
  have HI := hide hin
  have HX := hide hx
  obtain ⟨l1, u1⟩ := h1
  have hpr := pk_range a2 (n := 20) (by omega)
  have HPK := hide (fun W => pick_det a2 20 W h2.1 h2.2 (by omega) (by omega))
  obtain ⟨M, hM⟩ := Int.eq_ofNat_of_zero_le hpr.1
  rw [hM] at HPK hpr
  have hM20 : M < 20 := by omega
  clear hin hx h2 hM hpr
  go_enter Try.func10, Try.ntmps10
  go_wp2_with fail
  refine (pick_any _ _ _ l1 u1 (by omega) (by omega)).mono ?_
  rintro e wa ⟨q, hq0, hq1, rfl, rfl⟩
  obtain ⟨m0, rfl⟩ := Int.eq_ofNat_of_zero_le hq0
  go_wp2_with fail
  rw [show (3 + (m0 : Int)) = ((m0 + 3 : Nat) : Int) from by omega]
  generalize hn : m0 + 3 = n
  have n1 : 3 ≤ n := by omega
  have n2 : n ≤ 12 := by omega
  clear hn hq0 hq1 l1 u1
  go_loopw [9, 10] (fun u i wr => ∃ (k : Nat) (vs : List Value) (ts : List (List Bool)), k ≤ M + 1 ∧ i = .int .i64 k ∧ Hid (ts.length = k) ∧ Hid (vs.length = k) ∧ Hid (∀ t, t ∈ ts → tsz t = n) ∧ Hid (∀ t, t ∈ ts → decide (tpr t % 2 = 1) = false) ∧ Hid (LL wr w.heap.size u vs (ts.map tpl)) ∧ Below w.heap.size w wr) (fun _ i _ => M + 1 - (intOf i).toNat)
  case atStart => exact ⟨0, [], [], by omega, rfl, rfl, rfl, (fun t ht => by cases ht), (fun t ht => by cases ht), LL.nil _ _, Below.refl _ _⟩
  case round =>
    obtain ⟨k, vs, ts, hk, rfl, hl', hlv, hts, hps, hL, hbw⟩ := hrel
    have hl := hl'
    have hbs := hbw.size
    by_cases hlt : k < M + 1
    · have HRaw1 := hide (raw_any _ xs k wr (HI.out.below hbw) HX.out (by omega))
      go_wp2_with fail
      refine (HPK.out _).mono ?_
      rintro e wa ⟨rfl, rfl⟩
      go_wp2_with fail
      refine HRaw1.out.mono ?_
      rintro e wa ⟨x1, hx1, rfl, rfl⟩
      go_wp2_with fail
      refine (changeOf_ok x1 n _ hx1 (by omega) n2).mono ?_
      rintro e w1 ⟨u, t, rfl, ht, ho, hb1⟩
      have HL1 := hide (hL.out.below hb1)
      have HOU := hide (owns_base ho hbs)
      obtain ⟨p, c, rfl⟩ := owns_slice ho
      have HT := hide ht
      have hb2 := hbw.trans (hb1.mono hbs)
      have HPH := hide (tpr_half t n ht)
      have hle : (tpl t).length ≤ n := by have := tpl_length t; omega
      clear ho hL ht hb1 hbw HRaw1 hx1
      generalize hpl' : (tpl t).length = pl at *
      have hpl := hide hpl'
      clear hpl'
      cases hd : decide (tpr t % 2 = 1) with
      | false =>
        have HP := hide hd
        have hX : (((n : Int) - (pl : Int)) / 2 % 2 == 1) = false := by
          have h3 := HPH.out
          rw [h3, Bool.eq_iff_iff]
          have h4 := hd
          simp at h4 ⊢
          omega
        clear hd HPH
        have hrowA := HL1.out.row
        rw [hlv.out] at hrowA
        have hsA := hb2.size
        go_wp2_with (at_builtin; refine wpList_append_own _ rfl _ _ 25 rfl w.heap.size 22 i0 (.slice none 0 0) 1 24 Try.underlying25 hi hz0 hz1 hz2 rfl (by decide) _ _ _ rfl (hrowA.alloc _) ⟨w1.heap.size, 0, none⟩ 1 1 [.slice p pl c] rfl rfl ?c1 ?c2 ?c3 ?c4 ?c5 ?_)
        case c1 => exact cell_one_new _ _ _
        case c2 => intro u hu; simp at hu; subst hu; rfl
        case c3 => unfold maxLen; omega
        case c4 => omega
        case c5 => simp; omega
        · intro v' w4 hown4 hgrow _
          have HL4 : Hid (LL w4 w.heap.size v' (vs ++ [.slice p pl c]) ((ts ++ [t]).map tpl)) := by
            show LL _ _ _ _ _
            rw [List.map_append]
            exact HL1.out.push (by rw [hpl.out]; exact HOU.out) (by rw [hlv.out]; exact hown4) hgrow
          have hB4 := HL1.out.step hb2 (Nat.le_refl _) hsA hgrow
          have HLE : Hid ((ts ++ [t]).length = k + 1) := by show _ = _; rw [List.length_append, hl.out]; rfl
          have HLV : Hid ((vs ++ [Value.slice p pl c]).length = k + 1) := by show _ = _; rw [List.length_append, hlv.out]; rfl
          have HTS : Hid (∀ t', t' ∈ ts ++ [t] → tsz t' = n) := by
            intro t' ht'
            rcases List.mem_append.1 ht' with h | h
            · exact hts.out t' h
            · rw [List.mem_singleton.1 h]; exact HT.out
          have HPS : Hid (∀ t', t' ∈ ts ++ [t] → decide (tpr t' % 2 = 1) = false) := by
            intro t' ht'
            rcases List.mem_append.1 ht' with h | h
            · exact hps.out t' h
            · rw [List.mem_singleton.1 h]; exact HP.out
          clear hown4 hgrow hrowA
          go_wp2
          go_roundw
          case rel => exact ⟨k + 1, _, ts ++ [t], by omega, by go_num, HLE, HLV, HTS, HPS, HL4, hB4⟩
          case measure => simp [intOf]; omega
      | true =>
        have hX : (((n : Int) - (pl : Int)) / 2 % 2 == 1) = true := by
          have h3 := HPH.out
          rw [h3, Bool.eq_iff_iff]
          have h4 := hd
          simp at h4 ⊢
          omega
        clear hd HPH HOU
        go_wp2_with fail
        go_loopw [11, 12] (fun c i w3 => ∃ m : Nat, m ≤ n ∧ i = .int .i64 ((m + 1 : Nat) : Int) ∧ Hid (w3.ownsRow w1.heap.size 3 1 c (tpl (tile false m)).length ((tpl (tile false m)).map (Value.int .i64))) ∧ Below w1.heap.size w1 w3) (fun _ i _ => n + 1 - (intOf i).toNat)
        case atStart => exact ⟨0, by omega, rfl, World.ownsRow_nil _ _ _ _, Below.refl _ _⟩
        case round =>
          obtain ⟨m, hm, rfl, hcw, hcb⟩ := hrel
          have hcl := tile_len false m
          by_cases hmn : m + 1 ≤ n
          · have hcown := hcw.out
            have hcs := hcb.size
            clear hcw
            go_wp2_with (at_builtin; refine wpList_append_own _ rfl _ _ 22 rfl w1.heap.size 3 j0 (.int .i64 0) 1 8 Try.underlying22 hj hy0 hy1 hy2 rfl (by decide) _ _ _ rfl (hcown.alloc _) ⟨wr.heap.size, 0, none⟩ 1 1 [.int .i64 ((m + 1 : Nat) : Int)] rfl rfl ?d1 ?d2 ?d3 ?d4 ?d5 ?_)
            case d1 => exact cell_one_new _ _ _
            case d2 => intro u hu; simp at hu; subst hu; rfl
            case d3 => unfold maxLen; omega
            case d4 => omega
            case d5 => simp; omega
            · intro v' w4 hown4 hgrow _
              have HW4 : Hid (w4.ownsRow w1.heap.size 3 1 v' (tpl (tile false (m + 1))).length ((tpl (tile false (m + 1))).map (Value.int .i64))) := by
                show World.ownsRow _ _ _ _ _ _ _
                rw [tile_add (Or.inl rfl), List.length_append, List.map_append]
                exact hown4
              have hB4 := (hcb.alloc hcb.size _).grown hgrow (by simp; omega) (fun g hg => (hcown.lt g hg).1)
              clear hown4 hgrow hcown
              go_wp2
              go_roundw
              case rel => exact ⟨m + 1, by omega, by go_num, HW4, hB4⟩
              case measure => simp [intOf]; omega
          · obtain rfl : n = m := by omega
            have HLW := hide (HL1.out.below hcb)
            have hcs := hcb.size
            have hs1 := hb2.size
            have HOW := hide (owns_base hcw.out hs1)
            obtain ⟨p, c, hf⟩ := owns_slice hcw.out
            have HF := hide hf
            rw [HF.out] at HOW ⊢
            have hb5 := hb2.trans (hcb.mono hs1)
            have HTT := hide (tile_sz (o := false) (m := n) (by omega))
            have HTP := hide (tile_pr (o := false) (m := n) (by omega))
            clear hpl hX hle hb2 hcw hf hcb HF
            generalize hpl' : (tpl (tile false n)).length = pl at *
            have hpl := hide hpl'
            clear hpl'
            generalize tile false n = T at *
            have hrowA := HLW.out.row
            rw [hlv.out] at hrowA
            have hsA := hb5.size
            go_wp2_with (at_builtin; refine wpList_append_own _ rfl _ _ 25 rfl w.heap.size 22 i0 (.slice none 0 0) 1 24 Try.underlying25 hi hz0 hz1 hz2 rfl (by decide) _ _ _ rfl (hrowA.alloc _) ⟨wr.heap.size, 0, none⟩ 1 1 [.slice p pl c] rfl rfl ?c1 ?c2 ?c3 ?c4 ?c5 ?_)
            case c1 => exact cell_one_new _ _ _
            case c2 => intro u hu; simp at hu; subst hu; rfl
            case c3 => unfold maxLen; omega
            case c4 => omega
            case c5 => simp; omega
            · intro v' w4 hown4 hgrow _
              have HL4 : Hid (LL w4 w.heap.size v' (vs ++ [.slice p pl c]) ((ts ++ [T]).map tpl)) := by
                show LL _ _ _ _ _
                rw [List.map_append]
                exact HLW.out.push (by rw [hpl.out]; exact HOW.out) (by rw [hlv.out]; exact hown4) hgrow
              have hB4 := HLW.out.step hb5 (Nat.le_refl _) hsA hgrow
              have HLE : Hid ((ts ++ [T]).length = k + 1) := by show _ = _; rw [List.length_append, hl.out]; rfl
              have HLV : Hid ((vs ++ [Value.slice p pl c]).length = k + 1) := by show _ = _; rw [List.length_append, hlv.out]; rfl
              have HTS : Hid (∀ t', t' ∈ ts ++ [T] → tsz t' = n) := by
                intro t' ht'
                rcases List.mem_append.1 ht' with h | h
                · exact hts.out t' h
                · rw [List.mem_singleton.1 h]; exact HTT.out
              have HPS : Hid (∀ t', t' ∈ ts ++ [T] → decide (tpr t' % 2 = 1) = false) := by
                intro t' ht'
                rcases List.mem_append.1 ht' with h | h
                · exact hps.out t' h
                · rw [List.mem_singleton.1 h]; exact HTP.out
              clear hown4 hgrow hrowA
              go_wp2
              go_roundw
              case rel => exact ⟨k + 1, _, ts ++ [T], by omega, by go_num, HLE, HLV, HTS, HPS, HL4, hB4⟩
              case measure => simp [intOf]; omega
    · obtain rfl : k = M + 1 := by omega
      have HLI := hide hL.out.ints
      obtain ⟨lp, lc, hf⟩ := owns_slice hL.out.row
      rw [hlv.out] at hf
      subst hf
      have hlm := hl.out
      have HLD := hide (lead_ok ⟨#[72, 97, 108, 102]⟩ n _ ts wr (by decide) half_name (by omega) n2 (by omega) (by omega) hts.out HLI.out)
      rw [hlm] at HLD
      have HODD := hide (fun j (hj : j ≤ M + 1) => prd_odd n false j ts (by omega) hts.out hps.out)
      have HROW := hide (fun j => prd_row n (ts.take j) (fun t ht => hts.out t (List.mem_of_mem_take ht)))
      clear hlm hL HLI hl hl'
      go_wp2_with fail
      refine (HPK.out _).mono ?_
      rintro e wa ⟨rfl, rfl⟩
      go_wp2_with fail
      refine HLD.out.mono ?_
      rintro e w5 ⟨ru, rvs, rfl, hLL, hb5⟩
      have hB5 := hbw.trans (hb5.mono hbs)
      obtain ⟨rb, ro, rc, hre, hrb, hrc1, hrc2, hrcell⟩ := hLL.ints.cell (by rw [leadTo_length]; omega)
      rw [leadTo_length] at hre hrc1 hrcell
      subst hre
      have HRC := hide hrcell
      clear hrcell hLL HLD hb5 hbw
      go_wp2
      go_loopw [15] (fun i w6 => ∃ j : Nat, j ≤ M + 1 + 1 ∧ i = .int .i64 j ∧ Below w5.heap.size w5 w6) (fun i _ => M + 2 - (intOf i).toNat)
      case atStart => exact ⟨0, by omega, rfl, Below.refl _ _⟩
      case round =>
        obtain ⟨j, hj, rfl, hb6⟩ := hrel
        by_cases hjl : j < M + 1 + 1
        · obtain ⟨rp, rcc, hcx, hix⟩ := HRC.out j hjl
          rw [leadTo_get (by omega)] at hcx hix
          have gx := (hb6.cell (p := ⟨rb, ro + j, none⟩) (by exact hrb)).trans hcx
          have hrr := HROW.out j
          have HOO := hide (HODD.out j (by omega))
          have hra : RowAt wr (.slice rp (prd n (ts.take j)).length rcc) n (prd n (ts.take j)) := ⟨hix.out.below hb6, hrr.1, hrr.2⟩
          have HOR := hide (order_ord (by omega) n2 hra)
          generalize prd n (ts.take j) = X at *
          rw [HOO.out] at HOR
          generalize X.length = XL at *
          generalize ord X = XO at *
          clear hrr hra hcx hix
          by_cases hj2 : j % 2 = 1
          · have hj3 : ((j : Int) % 2 == 1) = true := by rw [beq_iff_eq]; omega
            rw [decide_eq_true hj2] at HOR
            clear hj2
            go_wp2_with fail
            refine HOR.out.mono ?_
            rintro e w7 ⟨rfl, _, _, hb7⟩
            have hB7 := hb6.trans (hb7.mono hb6.size)
            clear hb7 HOR
            go_wp2
            go_roundw
            case rel => exact ⟨j + 1, by omega, by go_num, hB7⟩
            case measure => simp [intOf]; omega
          · have hj3 : ((j : Int) % 2 == 1) = false := by rw [beq_eq_false_iff_ne]; omega
            rw [decide_eq_false hj2] at HOR
            clear hj2
            go_wp2_with fail
            refine HOR.out.mono ?_
            rintro e w7 ⟨rfl, _, _, hb7⟩
            have hB7 := hb6.trans (hb7.mono hb6.size)
            clear hb7 HOR
            go_wp2
            go_roundw
            case rel => exact ⟨j + 1, by omega, by go_num, hB7⟩
            case measure => simp [intOf]; omega
        · go_wp2
          go_ret
          exact ⟨rfl, hB5.trans (hb6.mono hB5.size)⟩

theorem topHalf_walk (v : Value) (xs : List Int) (a1 a2 : Int) (o : Bool) (w : World) (hin : Ints w v xs) (hx : ∀ x, x ∈ xs → I64 x) (h1 : I64 a1) (h2 : I64 a2) :
    Calls Try.prog 10 #[v, .int .i64 a1, .int .i64 a2, .bool o] w fun e w' => e = .returned (.bool true) ∧ Below w.heap.size w w' := by
  by_cases hl : xs.length ≤ 256
  · cases o with
    | true => exact topHalf_true v xs a1 a2 w hin hx hl h1 h2
    | false => exact topHalf_false v xs a1 a2 w hin hx hl h1 h2
  · exact topHalf_long v xs a1 a2 o w hin (by omega)

end Go.Proofs.Ytfhcelanjilbiaa
