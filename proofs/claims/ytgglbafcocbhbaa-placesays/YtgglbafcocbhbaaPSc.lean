/- Contract: place.Print. -/
import Derived.Test.YtgglbafcocbhbaaPSa
import Derived.Test.YtgglbafcocbhbaaPSb
import Derived.Test.YtgglbafcocbhbaaIAl
import Derived.Deep.CutRange
namespace Go.Proofs.Ytgglbafcocbhbaa
open Go.RowKit

theorem pc_zero {n : Int} {ps : List Int} (h : pc n ps = 0) : 1 ≤ n ∧ n ≤ 12 ∧ okc n 0 ps = true := by
  unfold pc at h
  by_cases hn : 1 ≤ n ∧ n ≤ 12
  · rw [if_pos hn] at h
    unfold pck at h
    by_cases ho : okc n 0 ps = true
    · exact ⟨hn.1, hn.2, ho⟩
    · rw [if_neg ho] at h; omega
  · rw [if_neg hn] at h; omega

theorem pc_all {n : Int} {l : List (List Int)} (hok : ∀ j, j < l.length → pc n (l.getD j []) = 0) : ∀ ps, ps ∈ l → pc n ps = 0 := by
  intro ps hp
  obtain ⟨j, hj, e⟩ := List.getElem_of_mem hp
  have := hok j hj
  rw [List.getD_eq_getElem?_getD, List.getElem?_eq_getElem hj, Option.getD_some, e] at this
  exact this

set_option maxRecDepth 20000 in
set_option maxHeartbeats 2000000 in
theorem print_count (n : Int) (v : Value) (l : List (List Int)) (w : World) (hv : IntsAll w v l) (h : l.length < 1 ∨ 200 < l.length) :
    Calls Try.prog 36 #[.int .i64 n, v] w fun e w' => e = .returned (.tuple #[.string ⟨#[]⟩, .int .i64 1]) ∧ w = w' := by
  obtain ⟨p, c, rfl⟩ := hv.len
  clear hv
  rcases h with h | h
  · obtain rfl : l = [] := List.length_eq_zero_iff.1 (by omega)
    clear h
    go_enter Try.func36, Try.ntmps36
    go_wp2
    go_ret2
    exact ⟨rfl, rfl⟩
  · have h1 : ¬ l.length < 1 := by omega
    generalize l.length = N at *
    go_enter Try.func36, Try.ntmps36
    go_wp2
    go_ret2
    exact ⟨rfl, rfl⟩

set_option maxRecDepth 20000 in
set_option maxHeartbeats 4000000 in
theorem print_bad (n : Int) (v : Value) (l : List (List Int)) (w : World) (hv : IntsAll w v l) (h1 : 1 ≤ l.length) (h2 : l.length ≤ 200) (k0 : Nat) (hk0 : k0 < l.length) (hbad : pc n (l.getD k0 []) ≠ 0) (hok : ∀ j, j < k0 → pc n (l.getD j []) = 0) :
    Calls Try.prog 36 #[.int .i64 n, v] w fun e w' => e = .returned (.tuple #[.string ⟨#[]⟩, .int .i64 (pc n (l.getD k0 []))]) ∧ w = w' := by
  obtain ⟨b, off, cap, rfl, hb, hlc, hcm, hcell⟩ := hv.cell h1
  have HOK := hide hok
  have HC := hide hcell
  have hr := pc_range n (l.getD k0 [])
  generalize hz0 : pc n (l.getD k0 []) = z at *
  have HZ := hide hz0
  have hz : z = 1 ∨ z = 6 := by omega
  clear hok hv hcell hbad hr hz0
  go_enter Try.func36, Try.ntmps36
  go_wp2
  go_loop [24] (fun i => ∃ k : Nat, k ≤ k0 ∧ i = .int .i64 k) (fun i => l.length - (intOf i).toNat)
  case atStart => exact ⟨0, by omega, rfl⟩
  case round =>
    obtain ⟨k, hk, rfl⟩ := hrel
    have hlt : k < l.length := by omega
    obtain ⟨p, c, hce, hint⟩ := HC.out k hlt
    have HPC := hide (pcheck_all n _ _ w hint.out)
    by_cases he : k < k0
    · rw [HOK.out k he] at HPC
      clear hint
      generalize (l.getD k []).length = pl at hce HPC
      go_wp2_with fail
      refine HPC.out.mono ?_
      rintro e w' ⟨rfl, rfl⟩
      go_wp2
      go_round
      case rel => exact ⟨k + 1, by omega, by go_num⟩
      case measure => simp [intOf]; omega
    · obtain rfl : k = k0 := by omega
      rw [HZ.out] at HPC
      clear hint HZ
      generalize (l.getD k []).length = pl at hce HPC
      rcases hz with rfl | rfl
      · go_wp2_with fail
        refine HPC.out.mono ?_
        rintro e w' ⟨rfl, rfl⟩
        go_wp2
        go_ret2
        exact ⟨rfl, rfl⟩
      · go_wp2_with fail
        refine HPC.out.mono ?_
        rintro e w' ⟨rfl, rfl⟩
        go_wp2
        go_ret2
        exact ⟨rfl, rfl⟩

set_option maxRecDepth 20000 in
set_option maxHeartbeats 8000000 in
theorem print_ok (n : Int) (v : Value) (l : List (List Int)) (w : World) (hv : IntsAll w v l) (h1 : 1 ≤ l.length) (h2 : l.length ≤ 200) (hok : ∀ j, j < l.length → pc n (l.getD j []) = 0) :
    Calls Try.prog 36 #[.int .i64 n, v] w fun e w' => e = .returned (.tuple #[.string (strOfNums (ptx l l.length)), .int .i64 0]) ∧ Below w.heap.size w w' := by
  obtain ⟨i0, hi, hz0, hz1, hz2⟩ := info_parts Try.info5
  have HBO : Hid (∀ k, k < l.length → (l.getD k []).length ≤ 12 ∧ ∀ p, p ∈ l.getD k [] → 1 ≤ p ∧ p ≤ 12) := fun k hk => by
    obtain ⟨a1, a2, a3⟩ := pc_zero (hok k hk)
    exact okc_bound a1 a2 a3
  have HLN : Hid (∀ k, (ptx l k).length ≤ 13 * k) := ptx_length l (fun ps hp => by
    obtain ⟨a1, a2, a3⟩ := pc_zero (pc_all hok ps hp)
    exact (okc_bound a1 a2 a3).1)
  obtain ⟨b, off, cap, rfl, hb, hlc, hcm, hcell⟩ := hv.cell h1
  have HOK := hide hok
  have HC := hide hcell
  clear hok hv hcell
  go_enter Try.func36, Try.ntmps36
  go_wp2
  go_loop [24] (fun i => ∃ k : Nat, k ≤ l.length ∧ i = .int .i64 k) (fun i => l.length - (intOf i).toNat)
  case atStart => exact ⟨0, by omega, rfl⟩
  case round =>
    obtain ⟨k, hk, rfl⟩ := hrel
    by_cases hlt : k < l.length
    · obtain ⟨p, c, hce, hint⟩ := HC.out k hlt
      have HPC := hide (pcheck_all n _ _ w hint.out)
      rw [HOK.out k hlt] at HPC
      clear hint
      generalize (l.getD k []).length = pl at hce HPC
      go_wp2_with fail
      refine HPC.out.mono ?_
      rintro e w' ⟨rfl, rfl⟩
      go_wp2
      go_round
      case rel => exact ⟨k + 1, by omega, by go_num⟩
      case measure => simp [intOf]; omega
    · clear hk
      go_wp2
      go_loopw [9, 37] (fun t i wr => ∃ (k : Nat), k ≤ l.length ∧ i = .int .i64 k ∧ Hid (wr.ownsRow w.heap.size 5 1 t (ptx l k).length ((ptx l k).map (Value.int .u8))) ∧ Below w.heap.size w wr) (fun _ i _ => l.length - (intOf i).toNat)
      case atStart => exact ⟨0, by omega, rfl, World.ownsRow_nil _ _ _ _, Below.refl _ _⟩
      case round =>
        clear hlt
        obtain ⟨k, hk, rfl, hown, hbw⟩ := hrel
        have hbs := hbw.size
        have hln := HLN.out k
        by_cases hlt : k < l.length
        · obtain ⟨p, c, hce, hint⟩ := HC.out k hlt
          have gp : wr.cell? ⟨b, off + k, none⟩ = some (.slice p (l.getD k []).length c) := (hbw.cell (by exact hb)).trans hce
          have hrow := hown.out
          have hb12 := (HBO.out k hlt).1
          have HPX : Hid (ptx l (k + 1) = ptx l k ++ pcs (dk l k) (l.getD k [])) := rfl
          have hdk : dk l k = decide (0 < k ∧ l.getD (k - 1) [] ≠ []) := rfl
          have HDK := hide hdk
          clear hdk hce hown
          obtain ⟨tp, tc, rfl⟩ := owns_slice hrow
          generalize hT : ptx l k = T at *
          generalize hTl : T.length = tl at *
          by_cases h0 : l.getD k [] = []
          · have HT : Hid (ptx l (k + 1) = T ++ [120]) := by show _ = _; rw [HPX.out]; unfold pcs; rw [if_pos h0]
            rw [h0] at gp
            have gp' : wr.cell? ⟨b, off + k, none⟩ = some (.slice p 0 c) := gp
            clear gp hint HDK HPX hb12 h0
            go_wp2_with (at_builtin; refine wpList_append_own _ rfl _ _ 68 rfl w.heap.size 5 i0 (.int .u8 0) 1 1 Try.underlying68 hi hz0 hz1 hz2 rfl (by decide) _ _ _ rfl (hrow.alloc _) ⟨wr.heap.size, 0, none⟩ 1 1 [.int .u8 120] rfl rfl ?c1 ?c2 ?c3 ?c4 ?c5 ?_)
            case c1 => exact cell_one_new _ _ _
            case c2 => intro u hu; simp at hu; subst hu; rfl
            case c3 => unfold maxLen; omega
            case c4 => omega
            case c5 => simp; omega
            · intro v' w1 hown' hgrow _
              have HO : Hid (w1.ownsRow w.heap.size 5 1 v' (ptx l (k + 1)).length ((ptx l (k + 1)).map (Value.int .u8))) := by show World.ownsRow _ _ _ _ _ _ _; rw [HT.out, List.length_append, List.map_append, hTl]; exact hown'
              have HB1 : Hid (Below w.heap.size w w1) := (hbw.alloc hbw.size _).grown hgrow (by simp; omega) (fun g hg => (hrow.lt g hg).1)
              clear hown' hgrow hrow HT
              go_wp2
              go_roundw
              case rel => exact ⟨k + 1, by omega, by go_num, HO, HB1.out⟩
              case measure => simp [intOf]; omega
          · have HT : Hid (ptx l (k + 1) = (T ++ (if dk l k = true then [46] else [])) ++ sgs (l.getD k [])) := by show _ = _; rw [HPX.out]; unfold pcs; rw [if_neg h0, ← List.append_assoc]
            have hpl : 1 ≤ (l.getD k []).length := by
              cases hg : l.getD k [] with
              | nil => exact absurd hg h0
              | cons => simp
            have hne : (((l.getD k []).length : Int) == 0) = false := by rw [beq_eq_false_iff_ne]; omega
            have HPP : Hid (∀ q, q ∈ l.getD k [] → 1 ≤ q ∧ q ≤ 12) := (HBO.out k hlt).2
            clear h0 HPX
            generalize hps : l.getD k [] = ps at *
            generalize hpn : ps.length = pl at *
            go_upto_region 16 with fail
            go_cut [37, 58] from 37 to 75 (fun ci x wx => ci = .int .i64 (k : Int) ∧ x = .bool (dk l k) ∧ wx = wr)
            case first =>
              clear hrow HT HPP hint
              obtain rfl | ⟨q, rfl⟩ : k = 0 ∨ ∃ q, k = q + 1 := by
                cases k with
                | zero => exact Or.inl rfl
                | succ q => exact Or.inr ⟨q, rfl⟩
              · have HD : Hid (dk l 0 = false) := by show _ = _; rw [HDK.out]; simp
                clear HDK
                go_wp2
                go_meet
                exact ⟨rfl, by rw [HD.out], rfl⟩
              · obtain ⟨p2, c2, hce2, _⟩ := HC.out q (by omega)
                have gq : wr.cell? ⟨b, off + q, none⟩ = some (.slice p2 (l.getD q []).length c2) := (hbw.cell (by exact hb)).trans hce2
                have HD : Hid (dk l (q + 1) = decide (0 < (l.getD q []).length)) := by
                  show _ = _
                  rw [HDK.out]
                  refine decide_eq_decide.2 ?_
                  have : l.getD q [] ≠ [] ↔ 0 < (l.getD q []).length := List.length_pos_iff.symm
                  rw [show q + 1 - 1 = q from rfl, this]
                  omega
                clear hce2 HDK
                generalize (l.getD q []).length = ql at *
                go_wp2
                go_meet
                exact ⟨rfl, by rw [HD.out], rfl⟩
            case rest =>
              obtain ⟨rfl, rfl, rfl⟩ := hcut
              clear HDK
              generalize dk l k = d at *
              go_upto_if 58 with fail
              go_cut [9, 37] from 37 to 75 (fun t ci wc => ci = .int .i64 (k : Int) ∧ Hid (wc.ownsRow w.heap.size 5 1 t (T ++ (if d = true then [46] else [])).length ((T ++ (if d = true then [46] else [])).map (Value.int .u8))) ∧ Below w.heap.size w wc)
              case first =>
                cases d with
                | false =>
                  have HO : Hid (wc.ownsRow w.heap.size 5 1 (.slice tp tl tc) (T ++ (if false = true then [46] else [])).length ((T ++ (if false = true then [46] else [])).map (Value.int .u8))) := by show World.ownsRow _ _ _ _ _ _ _; rw [if_neg (by decide), List.append_nil, hTl]; exact hrow
                  clear hrow HT
                  go_wp2
                  go_meet
                  exact ⟨rfl, HO, hbw⟩
                | true =>
                  go_wp2_with (at_builtin; refine wpList_append_own _ rfl _ _ 68 rfl w.heap.size 5 i0 (.int .u8 0) 1 1 Try.underlying68 hi hz0 hz1 hz2 rfl (by decide) _ _ _ rfl (hrow.alloc _) ⟨wc.heap.size, 0, none⟩ 1 1 [.int .u8 46] rfl rfl ?d1 ?d2 ?d3 ?d4 ?d5 ?_)
                  case d2 => first | rfl | (intro u hu; simp at hu; subst hu; rfl)
                  case d3 => unfold maxLen; omega
                  case d4 => omega
                  case d5 => first | omega | (simp; omega)
                  · intro v' w1 hown' hgrow _
                    have HO : Hid (w1.ownsRow w.heap.size 5 1 v' (T ++ (if true = true then [46] else [])).length ((T ++ (if true = true then [46] else [])).map (Value.int .u8))) := by show World.ownsRow _ _ _ _ _ _ _; rw [if_pos rfl, List.length_append, List.map_append, hTl]; exact hown'
                    have HB1 : Hid (Below w.heap.size w w1) := (hbw.alloc hbw.size _).grown hgrow (by simp; omega) (fun g hg => (hrow.lt g hg).1)
                    clear hown' hgrow hrow HT
                    go_wp2
                    go_meet
                    exact ⟨rfl, HO, HB1.out⟩
              case rest =>
                obtain ⟨rfl, hr2, hbw2⟩ := hcut
                have hrow2 := hr2.out
                have hbs2 := hbw2.size
                obtain ⟨tp2, tc2, rfl⟩ := owns_slice hrow2
                have ht2 : (T ++ (if d = true then [46] else [])).length ≤ 13 * k + 1 := by
                  rw [List.length_append, hTl]
                  cases d <;> simp <;> omega
                clear hrow hbw hr2 hbs hne
                generalize T ++ (if d = true then [46] else []) = T2 at *
                rcases hint.out with ⟨h, _⟩ | ⟨b3, o3, cap3, he, h03, hc3, hm3, hb3, hcell3⟩
                · rw [h] at hpn; simp at hpn; omega
                simp only [Value.slice.injEq] at he
                obtain ⟨rfl, he2, rfl⟩ := he
                clear he2
                have HC3 := hide hcell3
                clear hint hcell3 hln
                have HO0 : Hid (wc.ownsRow w.heap.size 5 1 (.slice tp2 T2.length tc2) (T2 ++ sgs (ps.take 0)).length ((T2 ++ sgs (ps.take 0)).map (Value.int .u8))) := by
                  show World.ownsRow _ _ _ _ _ _ _
                  rw [List.take_zero, show sgs [] = [] from rfl, List.append_nil]
                  exact hrow2
                clear hrow2
                go_wp2
                go_loopw [9, 64] (fun t i wr => ∃ (j : Nat), j ≤ pl ∧ i = .int .i64 j ∧ Hid (wr.ownsRow w.heap.size 5 1 t (T2 ++ sgs (ps.take j)).length ((T2 ++ sgs (ps.take j)).map (Value.int .u8))) ∧ Below w.heap.size w wr) (fun _ i _ => pl - (intOf i).toNat)
                case atStart => exact ⟨0, by omega, rfl, HO0, hbw2⟩
                case round =>
                  obtain ⟨j, hj, rfl, hown3, hbw3⟩ := hrel
                  clear HO0 hbw2 hbs2
                  have hbs3 := hbw3.size
                  have hrow3 := hown3.out
                  obtain ⟨tp3, tc3, rfl⟩ := owns_slice hrow3
                  have hl3 : (T2 ++ sgs (ps.take j)).length ≤ 13 * k + 20 := by rw [List.length_append, sgs_length, List.length_take]; omega
                  by_cases hlt3 : j < pl
                  · obtain ⟨x, hx, hcx⟩ := cellAt HC3.out (show j < ps.length by omega)
                    have hxm : x ∈ ps := by
                      rw [← hx.out, List.getElem?_eq_getElem (by omega), Option.getD_some]
                      exact List.getElem_mem _
                    have hxb := HPP.out x hxm
                    obtain ⟨m, hm⟩ : ∃ m : Nat, x = (m : Int) + 1 := ⟨(x - 1).toNat, by omega⟩
                    subst hm
                    have hm12 : m < 12 := by omega
                    have gx : wr.cell? ⟨b3, o3 + j, none⟩ = some (.int .i64 ((m : Int) + 1)) := (hbw3.cell (by exact hb3)).trans hcx
                    have hix := index_sign m hm12
                    have HS : Hid (T2 ++ sgs (ps.take (j + 1)) = (T2 ++ sgs (ps.take j)) ++ [((sg m : Nat) : Int)]) := by
                      show _ = _
                      rw [take_snoc ps j (by omega), hx.out, List.append_assoc]
                      congr 1
                      simp [sgs]
                    clear hcx hxm hxb hx hown3
                    generalize T2 ++ sgs (ps.take j) = T3 at *
                    generalize hT3 : T3.length = t3 at *
                    go_wp2_with (at_builtin; refine wpList_append_own _ rfl _ _ 68 rfl w.heap.size 5 i0 (.int .u8 0) 1 1 Try.underlying68 hi hz0 hz1 hz2 rfl (by decide) _ _ _ rfl (hrow3.alloc _) ⟨wr.heap.size, 0, none⟩ 1 1 [.int .u8 ((sg m : Nat) : Int)] rfl rfl ?f1 ?f2 ?f3 ?f4 ?f5 ?_)
                    case f1 => first | exact cell_one_new _ _ _ | simp | (intro j' u hj'; exact cell_one_new _ _ _ j' u hj')
                    case f2 => first | rfl | (intro u hu; simp at hu; subst hu; rfl)
                    case f3 => unfold maxLen; omega
                    case f4 => omega
                    case f5 => first | omega | (simp; omega)
                    · intro v' w1 hown' hgrow _
                      have HO : Hid (w1.ownsRow w.heap.size 5 1 v' (T2 ++ sgs (ps.take (j + 1))).length ((T2 ++ sgs (ps.take (j + 1))).map (Value.int .u8))) := by show World.ownsRow _ _ _ _ _ _ _; rw [HS.out, List.length_append, List.map_append, hT3]; exact hown'
                      have HB1 : Hid (Below w.heap.size w w1) := (hbw3.alloc hbw3.size _).grown hgrow (by simp; omega) (fun g hg => (hrow3.lt g hg).1)
                      clear hown' hgrow hrow3 HS
                      go_wp2
                      go_roundw
                      case rel => exact ⟨j + 1, by omega, by go_num, HO, HB1.out⟩
                      case measure => simp [intOf] <;> omega
                  · have HO : Hid (wr.ownsRow w.heap.size 5 1 (.slice tp3 (T2 ++ sgs (ps.take j)).length tc3) (ptx l (k + 1)).length ((ptx l (k + 1)).map (Value.int .u8))) := by
                      show World.ownsRow _ _ _ _ _ _ _
                      rw [HT.out]
                      rw [List.take_of_length_le (show ps.length ≤ j by omega)] at hrow3 ⊢
                      exact hrow3
                    clear hrow3 hown3
                    generalize (T2 ++ sgs (ps.take j)).length = t3 at *
                    go_wp2
                    go_roundw
                    case rel => exact ⟨k + 1, by omega, by go_num, HO, hbw3⟩
                    case measure => simp [intOf] <;> omega
        · obtain rfl : k = l.length := by omega
          have hne : 1 ≤ (ptx l l.length).length := by
            obtain ⟨m, hm⟩ : ∃ m, l.length = m + 1 := ⟨l.length - 1, by omega⟩
            rw [hm]
            have := (pcs_length (dk l m) (l.getD m [])).1
            simp only [ptx, List.length_append]
            omega
          have hrow := hown.out
          obtain ⟨g, cap', hv, hg, hg2, hgc, hcm'⟩ := owns_form hrow hne
          subst hv
          have hcv := fun dst hd => run_convert_bytes_arg (P := Try.prog) wr 68 5 Try.underlying68 Try.underlying5 g 0 (ptx l l.length).length cap' (ptx l l.length) rfl (owns_bytes hrow) dst hd
          clear hown hrow
          go_wp2
          go_ret2
          exact ⟨rfl, hbw⟩

end Go.Proofs.Ytgglbafcocbhbaa
