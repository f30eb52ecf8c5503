/- Joined: PSc, PSd, MsC, MsD, XtA, CpC, CpD, SbA, MsE. -/
import Derived.Test.YtfngadfkopfhcaaGreatDoorJ4
import Derived.Test.YtfngadfkopfhcaaGreatDoorJ7
import Derived.Deep.CutRange
import Derived.Test.YtfngadfkopfhcaaGreatDoorJ0
import Derived.BigQuiet
import Derived.Stop.FmtQuoteTie
import Derived.Laws.BytesArg
/- Contract: place.Print. -/
namespace Go.Proofs.YtfngadfkopfhcaaGreatDoor
open Go.RowKit

theorem pc_zero {n : Int} {ps : List Int} (h : pc n ps = 0) : 1 ≤ n ∧ n ≤ 12 ∧ okc n 0 ps = true := by
  unfold pc at h
  by_cases hn : 1 ≤ n ∧ n ≤ 12
  · rw [if_pos hn] at h
    unfold pck at h
    by_cases ho : okc n 0 ps = true
    · exact ⟨hn.1, hn.2, ho⟩
    · rw [if_neg ho] at h; omega
  · rw [if_neg hn] at h; omega

theorem pc_all {n : Int} {l : List (List Int)} (hok : ∀ j, j < l.length → pc n (l.getD j []) = 0) : ∀ ps, ps ∈ l → pc n ps = 0 := by
  intro ps hp
  obtain ⟨j, hj, e⟩ := List.getElem_of_mem hp
  have := hok j hj
  rw [List.getD_eq_getElem?_getD, List.getElem?_eq_getElem hj, Option.getD_some, e] at this
  exact this

set_option maxRecDepth 20000 in
set_option maxHeartbeats 2000000 in
theorem print_count (n : Int) (v : Value) (l : List (List Int)) (w : World) (hv : IntsAll w v l) (h : l.length < 1 ∨ 200 < l.length) :
    Calls Tryz.prog 34 #[.int .i64 n, v] w fun e w' => e = .returned (.tuple #[.string ⟨#[]⟩, .int .i64 1]) ∧ w = w' := by
  obtain ⟨p, c, rfl⟩ := hv.len
  clear hv
  rcases h with h | h
  · obtain rfl : l = [] := List.length_eq_zero_iff.1 (by omega)
    clear h
    go_enter Tryz.func34, Tryz.ntmps34
    go_wp2
    go_ret2
    exact ⟨rfl, rfl⟩
  · have h1 : ¬ l.length < 1 := by omega
    generalize l.length = N at *
    go_enter Tryz.func34, Tryz.ntmps34
    go_wp2
    go_ret2
    exact ⟨rfl, rfl⟩

set_option maxRecDepth 20000 in
set_option maxHeartbeats 4000000 in
theorem print_bad (n : Int) (v : Value) (l : List (List Int)) (w : World) (hv : IntsAll w v l) (h1 : 1 ≤ l.length) (h2 : l.length ≤ 200) (k0 : Nat) (hk0 : k0 < l.length) (hbad : pc n (l.getD k0 []) ≠ 0) (hok : ∀ j, j < k0 → pc n (l.getD j []) = 0) :
    Calls Tryz.prog 34 #[.int .i64 n, v] w fun e w' => e = .returned (.tuple #[.string ⟨#[]⟩, .int .i64 (pc n (l.getD k0 []))]) ∧ w = w' := by
  obtain ⟨b, off, cap, rfl, hb, hlc, hcm, hcell⟩ := hv.cell h1
  have HOK := hide hok
  have HC := hide hcell
  have hr := pc_range n (l.getD k0 [])
  generalize hz0 : pc n (l.getD k0 []) = z at *
  have HZ := hide hz0
  have hz : z = 1 ∨ z = 6 := by omega
  clear hok hv hcell hbad hr hz0
  go_enter Tryz.func34, Tryz.ntmps34
  go_wp2
  go_loop [24] (fun i => ∃ k : Nat, k ≤ k0 ∧ i = .int .i64 k) (fun i => l.length - (intOf i).toNat)
  case atStart => exact ⟨0, by omega, rfl⟩
  case round =>
    obtain ⟨k, hk, rfl⟩ := hrel
    have hlt : k < l.length := by omega
    obtain ⟨p, c, hce, hint⟩ := HC.out k hlt
    have HPC := hide (pcheck_all n _ _ w hint.out)
    by_cases he : k < k0
    · rw [HOK.out k he] at HPC
      clear hint
      generalize (l.getD k []).length = pl at hce HPC
      go_wp2_with fail
      refine HPC.out.mono ?_
      rintro e w' ⟨rfl, rfl⟩
      go_wp2
      go_round
      case rel => exact ⟨k + 1, by omega, by go_num⟩
      case measure => simp [intOf]; omega
    · obtain rfl : k = k0 := by omega
      rw [HZ.out] at HPC
      clear hint HZ
      generalize (l.getD k []).length = pl at hce HPC
      rcases hz with rfl | rfl
      · go_wp2_with fail
        refine HPC.out.mono ?_
        rintro e w' ⟨rfl, rfl⟩
        go_wp2
        go_ret2
        exact ⟨rfl, rfl⟩
      · go_wp2_with fail
        refine HPC.out.mono ?_
        rintro e w' ⟨rfl, rfl⟩
        go_wp2
        go_ret2
        exact ⟨rfl, rfl⟩

set_option maxRecDepth 20000 in
set_option maxHeartbeats 8000000 in
theorem print_ok (n : Int) (v : Value) (l : List (List Int)) (w : World) (hv : IntsAll w v l) (h1 : 1 ≤ l.length) (h2 : l.length ≤ 200) (hok : ∀ j, j < l.length → pc n (l.getD j []) = 0) :
    Calls Tryz.prog 34 #[.int .i64 n, v] w fun e w' => e = .returned (.tuple #[.string (strOfNums (ptx l l.length)), .int .i64 0]) ∧ Below w.heap.size w w' := by
  obtain ⟨i0, hi, hz0, hz1, hz2⟩ := info_parts Tryz.info5
  have HBO : Hid (∀ k, k < l.length → (l.getD k []).length ≤ 12 ∧ ∀ p, p ∈ l.getD k [] → 1 ≤ p ∧ p ≤ 12) := fun k hk => by
    obtain ⟨a1, a2, a3⟩ := pc_zero (hok k hk)
    exact okc_bound a1 a2 a3
  have HLN : Hid (∀ k, (ptx l k).length ≤ 13 * k) := ptx_length l (fun ps hp => by
    obtain ⟨a1, a2, a3⟩ := pc_zero (pc_all hok ps hp)
    exact (okc_bound a1 a2 a3).1)
  obtain ⟨b, off, cap, rfl, hb, hlc, hcm, hcell⟩ := hv.cell h1
  have HOK := hide hok
  have HC := hide hcell
  clear hok hv hcell
  go_enter Tryz.func34, Tryz.ntmps34
  go_wp2
  go_loop [24] (fun i => ∃ k : Nat, k ≤ l.length ∧ i = .int .i64 k) (fun i => l.length - (intOf i).toNat)
  case atStart => exact ⟨0, by omega, rfl⟩
  case round =>
    obtain ⟨k, hk, rfl⟩ := hrel
    by_cases hlt : k < l.length
    · obtain ⟨p, c, hce, hint⟩ := HC.out k hlt
      have HPC := hide (pcheck_all n _ _ w hint.out)
      rw [HOK.out k hlt] at HPC
      clear hint
      generalize (l.getD k []).length = pl at hce HPC
      go_wp2_with fail
      refine HPC.out.mono ?_
      rintro e w' ⟨rfl, rfl⟩
      go_wp2
      go_round
      case rel => exact ⟨k + 1, by omega, by go_num⟩
      case measure => simp [intOf]; omega
    · clear hk
      go_wp2
      go_loopw [9, 37] (fun t i wr => ∃ (k : Nat), k ≤ l.length ∧ i = .int .i64 k ∧ Hid (wr.ownsRow w.heap.size 5 1 t (ptx l k).length ((ptx l k).map (Value.int .u8))) ∧ Below w.heap.size w wr) (fun _ i _ => l.length - (intOf i).toNat)
      case atStart => exact ⟨0, by omega, rfl, World.ownsRow_nil _ _ _ _, Below.refl _ _⟩
      case round =>
        clear hlt
        obtain ⟨k, hk, rfl, hown, hbw⟩ := hrel
        have hbs := hbw.size
        have hln := HLN.out k
        by_cases hlt : k < l.length
        · obtain ⟨p, c, hce, hint⟩ := HC.out k hlt
          have gp : wr.cell? ⟨b, off + k, none⟩ = some (.slice p (l.getD k []).length c) := (hbw.cell (by exact hb)).trans hce
          have hrow := hown.out
          have hb12 := (HBO.out k hlt).1
          have HPX : Hid (ptx l (k + 1) = ptx l k ++ pcs (dk l k) (l.getD k [])) := rfl
          have hdk : dk l k = decide (0 < k ∧ l.getD (k - 1) [] ≠ []) := rfl
          have HDK := hide hdk
          clear hdk hce hown
          obtain ⟨tp, tc, rfl⟩ := owns_slice hrow
          generalize hT : ptx l k = T at *
          generalize hTl : T.length = tl at *
          by_cases h0 : l.getD k [] = []
          · have HT : Hid (ptx l (k + 1) = T ++ [120]) := by show _ = _; rw [HPX.out]; unfold pcs; rw [if_pos h0]
            rw [h0] at gp
            have gp' : wr.cell? ⟨b, off + k, none⟩ = some (.slice p 0 c) := gp
            clear gp hint HDK HPX hb12 h0
            go_wp2_with (at_builtin; refine wpList_append_own _ rfl _ _ 82 rfl w.heap.size 5 i0 (.int .u8 0) 1 1 Tryz.underlying82 hi hz0 hz1 hz2 rfl (by decide) _ _ _ rfl (hrow.alloc _) ⟨wr.heap.size, 0, none⟩ 1 1 [.int .u8 120] rfl rfl ?c1 ?c2 ?c3 ?c4 ?c5 ?_)
            case c1 => exact cell_one_new _ _ _
            case c2 => intro u hu; simp at hu; subst hu; rfl
            case c3 => unfold maxLen; omega
            case c4 => omega
            case c5 => simp; omega
            · intro v' w1 hown' hgrow _
              have HO : Hid (w1.ownsRow w.heap.size 5 1 v' (ptx l (k + 1)).length ((ptx l (k + 1)).map (Value.int .u8))) := by show World.ownsRow _ _ _ _ _ _ _; rw [HT.out, List.length_append, List.map_append, hTl]; exact hown'
              have HB1 : Hid (Below w.heap.size w w1) := (hbw.alloc hbw.size _).grown hgrow (by simp; omega) (fun g hg => (hrow.lt g hg).1)
              clear hown' hgrow hrow HT
              go_wp2
              go_roundw
              case rel => exact ⟨k + 1, by omega, by go_num, HO, HB1.out⟩
              case measure => simp [intOf]; omega
          · have HT : Hid (ptx l (k + 1) = (T ++ (if dk l k = true then [46] else [])) ++ sgs (l.getD k [])) := by show _ = _; rw [HPX.out]; unfold pcs; rw [if_neg h0, ← List.append_assoc]
            have hpl : 1 ≤ (l.getD k []).length := by
              cases hg : l.getD k [] with
              | nil => exact absurd hg h0
              | cons => simp
            have hne : (((l.getD k []).length : Int) == 0) = false := by rw [beq_eq_false_iff_ne]; omega
            have HPP : Hid (∀ q, q ∈ l.getD k [] → 1 ≤ q ∧ q ≤ 12) := (HBO.out k hlt).2
            clear h0 HPX
            generalize hps : l.getD k [] = ps at *
            generalize hpn : ps.length = pl at *
            go_upto_region 16 with fail
            go_cut [37, 58] from 37 to 75 (fun ci x wx => ci = .int .i64 (k : Int) ∧ x = .bool (dk l k) ∧ wx = wr)
            case first =>
              clear hrow HT HPP hint
              obtain rfl | ⟨q, rfl⟩ : k = 0 ∨ ∃ q, k = q + 1 := by
                cases k with
                | zero => exact Or.inl rfl
                | succ q => exact Or.inr ⟨q, rfl⟩
              · have HD : Hid (dk l 0 = false) := by show _ = _; rw [HDK.out]; simp
                clear HDK
                go_wp2
                go_meet
                exact ⟨rfl, by rw [HD.out], rfl⟩
              · obtain ⟨p2, c2, hce2, _⟩ := HC.out q (by omega)
                have gq : wr.cell? ⟨b, off + q, none⟩ = some (.slice p2 (l.getD q []).length c2) := (hbw.cell (by exact hb)).trans hce2
                have HD : Hid (dk l (q + 1) = decide (0 < (l.getD q []).length)) := by
                  show _ = _
                  rw [HDK.out]
                  refine decide_eq_decide.2 ?_
                  have : l.getD q [] ≠ [] ↔ 0 < (l.getD q []).length := List.length_pos_iff.symm
                  rw [show q + 1 - 1 = q from rfl, this]
                  omega
                clear hce2 HDK
                generalize (l.getD q []).length = ql at *
                go_wp2
                go_meet
                exact ⟨rfl, by rw [HD.out], rfl⟩
            case rest =>
              obtain ⟨rfl, rfl, rfl⟩ := hcut
              clear HDK
              generalize dk l k = d at *
              go_upto_if 58 with fail
              go_cut [9, 37] from 37 to 75 (fun t ci wc => ci = .int .i64 (k : Int) ∧ Hid (wc.ownsRow w.heap.size 5 1 t (T ++ (if d = true then [46] else [])).length ((T ++ (if d = true then [46] else [])).map (Value.int .u8))) ∧ Below w.heap.size w wc)
              case first =>
                cases d with
                | false =>
                  have HO : Hid (wc.ownsRow w.heap.size 5 1 (.slice tp tl tc) (T ++ (if false = true then [46] else [])).length ((T ++ (if false = true then [46] else [])).map (Value.int .u8))) := by show World.ownsRow _ _ _ _ _ _ _; rw [if_neg (by decide), List.append_nil, hTl]; exact hrow
                  clear hrow HT
                  go_wp2
                  go_meet
                  exact ⟨rfl, HO, hbw⟩
                | true =>
                  go_wp2_with (at_builtin; refine wpList_append_own _ rfl _ _ 82 rfl w.heap.size 5 i0 (.int .u8 0) 1 1 Tryz.underlying82 hi hz0 hz1 hz2 rfl (by decide) _ _ _ rfl (hrow.alloc _) ⟨wc.heap.size, 0, none⟩ 1 1 [.int .u8 46] rfl rfl ?d1 ?d2 ?d3 ?d4 ?d5 ?_)
                  case d2 => first | rfl | (intro u hu; simp at hu; subst hu; rfl)
                  case d3 => unfold maxLen; omega
                  case d4 => omega
                  case d5 => first | omega | (simp; omega)
                  · intro v' w1 hown' hgrow _
                    have HO : Hid (w1.ownsRow w.heap.size 5 1 v' (T ++ (if true = true then [46] else [])).length ((T ++ (if true = true then [46] else [])).map (Value.int .u8))) := by show World.ownsRow _ _ _ _ _ _ _; rw [if_pos rfl, List.length_append, List.map_append, hTl]; exact hown'
                    have HB1 : Hid (Below w.heap.size w w1) := (hbw.alloc hbw.size _).grown hgrow (by simp; omega) (fun g hg => (hrow.lt g hg).1)
                    clear hown' hgrow hrow HT
                    go_wp2
                    go_meet
                    exact ⟨rfl, HO, HB1.out⟩
              case rest =>
                obtain ⟨rfl, hr2, hbw2⟩ := hcut
                have hrow2 := hr2.out
                have hbs2 := hbw2.size
                obtain ⟨tp2, tc2, rfl⟩ := owns_slice hrow2
                have ht2 : (T ++ (if d = true then [46] else [])).length ≤ 13 * k + 1 := by
                  rw [List.length_append, hTl]
                  cases d <;> simp <;> omega
                clear hrow hbw hr2 hbs hne
                generalize T ++ (if d = true then [46] else []) = T2 at *
                rcases hint.out with ⟨h, _⟩ | ⟨b3, o3, cap3, he, h03, hc3, hm3, hb3, hcell3⟩
                · rw [h] at hpn; simp at hpn; omega
                simp only [Value.slice.injEq] at he
                obtain ⟨rfl, he2, rfl⟩ := he
                clear he2
                have HC3 := hide hcell3
                clear hint hcell3 hln
                have HO0 : Hid (wc.ownsRow w.heap.size 5 1 (.slice tp2 T2.length tc2) (T2 ++ sgs (ps.take 0)).length ((T2 ++ sgs (ps.take 0)).map (Value.int .u8))) := by
                  show World.ownsRow _ _ _ _ _ _ _
                  rw [List.take_zero, show sgs [] = [] from rfl, List.append_nil]
                  exact hrow2
                clear hrow2
                go_wp2
                go_loopw [9, 64] (fun t i wr => ∃ (j : Nat), j ≤ pl ∧ i = .int .i64 j ∧ Hid (wr.ownsRow w.heap.size 5 1 t (T2 ++ sgs (ps.take j)).length ((T2 ++ sgs (ps.take j)).map (Value.int .u8))) ∧ Below w.heap.size w wr) (fun _ i _ => pl - (intOf i).toNat)
                case atStart => exact ⟨0, by omega, rfl, HO0, hbw2⟩
                case round =>
                  obtain ⟨j, hj, rfl, hown3, hbw3⟩ := hrel
                  clear HO0 hbw2 hbs2
                  have hbs3 := hbw3.size
                  have hrow3 := hown3.out
                  obtain ⟨tp3, tc3, rfl⟩ := owns_slice hrow3
                  have hl3 : (T2 ++ sgs (ps.take j)).length ≤ 13 * k + 20 := by rw [List.length_append, sgs_length, List.length_take]; omega
                  by_cases hlt3 : j < pl
                  · obtain ⟨x, hx, hcx⟩ := cellAt HC3.out (show j < ps.length by omega)
                    have hxm : x ∈ ps := by
                      rw [← hx.out, List.getElem?_eq_getElem (by omega), Option.getD_some]
                      exact List.getElem_mem _
                    have hxb := HPP.out x hxm
                    obtain ⟨m, hm⟩ : ∃ m : Nat, x = (m : Int) + 1 := ⟨(x - 1).toNat, by omega⟩
                    subst hm
                    have hm12 : m < 12 := by omega
                    have gx : wr.cell? ⟨b3, o3 + j, none⟩ = some (.int .i64 ((m : Int) + 1)) := (hbw3.cell (by exact hb3)).trans hcx
                    have hix := index_sign m hm12
                    have HS : Hid (T2 ++ sgs (ps.take (j + 1)) = (T2 ++ sgs (ps.take j)) ++ [((sg m : Nat) : Int)]) := by
                      show _ = _
                      rw [take_snoc ps j (by omega), hx.out, List.append_assoc]
                      congr 1
                      simp [sgs]
                    clear hcx hxm hxb hx hown3
                    generalize T2 ++ sgs (ps.take j) = T3 at *
                    generalize hT3 : T3.length = t3 at *
                    go_wp2_with (at_builtin; refine wpList_append_own _ rfl _ _ 82 rfl w.heap.size 5 i0 (.int .u8 0) 1 1 Tryz.underlying82 hi hz0 hz1 hz2 rfl (by decide) _ _ _ rfl (hrow3.alloc _) ⟨wr.heap.size, 0, none⟩ 1 1 [.int .u8 ((sg m : Nat) : Int)] rfl rfl ?f1 ?f2 ?f3 ?f4 ?f5 ?_)
                    case f1 => first | exact cell_one_new _ _ _ | simp | (intro j' u hj'; exact cell_one_new _ _ _ j' u hj')
                    case f2 => first | rfl | (intro u hu; simp at hu; subst hu; rfl)
                    case f3 => unfold maxLen; omega
                    case f4 => omega
                    case f5 => first | omega | (simp; omega)
                    · intro v' w1 hown' hgrow _
                      have HO : Hid (w1.ownsRow w.heap.size 5 1 v' (T2 ++ sgs (ps.take (j + 1))).length ((T2 ++ sgs (ps.take (j + 1))).map (Value.int .u8))) := by show World.ownsRow _ _ _ _ _ _ _; rw [HS.out, List.length_append, List.map_append, hT3]; exact hown'
                      have HB1 : Hid (Below w.heap.size w w1) := (hbw3.alloc hbw3.size _).grown hgrow (by simp; omega) (fun g hg => (hrow3.lt g hg).1)
                      clear hown' hgrow hrow3 HS
                      go_wp2
                      go_roundw
                      case rel => exact ⟨j + 1, by omega, by go_num, HO, HB1.out⟩
                      case measure => simp [intOf] <;> omega
                  · have HO : Hid (wr.ownsRow w.heap.size 5 1 (.slice tp3 (T2 ++ sgs (ps.take j)).length tc3) (ptx l (k + 1)).length ((ptx l (k + 1)).map (Value.int .u8))) := by
                      show World.ownsRow _ _ _ _ _ _ _
                      rw [HT.out]
                      rw [List.take_of_length_le (show ps.length ≤ j by omega)] at hrow3 ⊢
                      exact hrow3
                    clear hrow3 hown3
                    generalize (T2 ++ sgs (ps.take j)).length = t3 at *
                    go_wp2
                    go_roundw
                    case rel => exact ⟨k + 1, by omega, by go_num, HO, hbw3⟩
                    case measure => simp [intOf] <;> omega
        · obtain rfl : k = l.length := by omega
          have hne : 1 ≤ (ptx l l.length).length := by
            obtain ⟨m, hm⟩ : ∃ m, l.length = m + 1 := ⟨l.length - 1, by omega⟩
            rw [hm]
            have := (pcs_length (dk l m) (l.getD m [])).1
            simp only [ptx, List.length_append]
            omega
          have hrow := hown.out
          obtain ⟨g, cap', hv, hg, hg2, hgc, hcm'⟩ := owns_form hrow hne
          subst hv
          have hcv := fun dst hd => run_convert_bytes_arg (P := Tryz.prog) wr 82 5 Tryz.underlying82 Tryz.underlying5 g 0 (ptx l l.length).length cap' (ptx l l.length) rfl (owns_bytes hrow) dst hd
          clear hown hrow
          go_wp2
          go_ret2
          exact ⟨rfl, hbw⟩

end Go.Proofs.YtfngadfkopfhcaaGreatDoor

/- Contract: the answer's PlacesText. -/
namespace Go.Proofs.YtfngadfkopfhcaaGreatDoor
open Go.RowKit

set_option maxRecDepth 20000 in
set_option maxHeartbeats 8000000 in
theorem placesText_ok (v : Value) (l : List (List Int)) (w : World) (hv : IntsAll w v l) (h1 : 1 ≤ l.length) (h2 : l.length ≤ 200) (hbo : ∀ k, k < l.length → (l.getD k []).length ≤ 12 ∧ ∀ p, p ∈ l.getD k [] → 1 ≤ p ∧ p ≤ 12) (hln : ∀ k, (ptx l k).length ≤ 13 * k) :
    Calls Tryz.prog 43 #[v] w fun e w' => e = .returned (.string (strOfNums (ptx l l.length))) ∧ w = w' := by
  have HBO := hide hbo
  have HLN := hide hln
  obtain ⟨b, off, cap, rfl, hb, hlc, hcm, hcell⟩ := hv.cell h1
  have HC := hide hcell
  clear hbo hln hv hcell
  go_enter Tryz.func43, Tryz.ntmps43
  go_wp2
  go_loop [3, 4] (fun s i => ∃ k : Nat, k ≤ l.length ∧ i = .int .i64 k ∧ s = .string (strOfNums (ptx l k))) (fun _ i => l.length - (intOf i).toNat)
  case atStart => exact ⟨0, by omega, rfl, rfl⟩
  case round =>
    obtain ⟨k, hk, rfl, rfl⟩ := hrel
    have hln := HLN.out k
    by_cases hlt : k < l.length
    · obtain ⟨p, c, gp, hint⟩ := HC.out k hlt
      have hb12 := (HBO.out k hlt).1
      have HPX : Hid (ptx l (k + 1) = ptx l k ++ pcs (dk l k) (l.getD k [])) := rfl
      have HDK : Hid (dk l k = decide (0 < k ∧ l.getD (k - 1) [] ≠ [])) := rfl
      generalize hT : ptx l k = T at *
      have hs1 : (strOfNums T).size ≤ 2600 := by rw [strOfNums_size]; omega
      by_cases h0 : l.getD k [] = []
      · have HT : Hid (ptx l (k + 1) = T ++ [120]) := by show _ = _; rw [HPX.out]; unfold pcs; rw [if_pos h0]
        rw [h0] at gp
        have gp' : w.cell? ⟨b, off + k, none⟩ = some (.slice p 0 c) := gp
        have hadd := run_string_add_sum (P := Tryz.prog) w (strOfNums T) ⟨#[120]⟩ (by have : (⟨#[120]⟩ : ByteArray).size = 1 := rfl; omega)
        have HA := hide (str_append T [120])
        clear gp hint HDK HPX hb12 h0 hs1
        go_wp2
        go_round
        case rel => exact ⟨k + 1, by omega, by go_num, by rw [HT.out, ← HA.out]; rfl⟩
        case measure => simp [intOf]; omega
      · have HT : Hid (ptx l (k + 1) = (T ++ (if dk l k = true then [46] else [])) ++ sgs (l.getD k [])) := by show _ = _; rw [HPX.out]; unfold pcs; rw [if_neg h0, ← List.append_assoc]
        have hpl : 1 ≤ (l.getD k []).length := by
          cases hg : l.getD k [] with
          | nil => exact absurd hg h0
          | cons => simp
        have hne : (((l.getD k []).length : Int) == 0) = false := by rw [beq_eq_false_iff_ne]; omega
        have HPP : Hid (∀ q, q ∈ l.getD k [] → 1 ≤ q ∧ q ≤ 12) := (HBO.out k hlt).2
        clear h0 HPX
        generalize hps : l.getD k [] = ps at *
        generalize hpn : ps.length = pl at *
        go_upto_region 7 with fail
        go_cut [30] from 6 to 52 (fun x wx => x = .bool (dk l k) ∧ wx = w)
        case first =>
          clear HT HPP hint
          obtain rfl | ⟨q, rfl⟩ : k = 0 ∨ ∃ q, k = q + 1 := by
            cases k with
            | zero => exact Or.inl rfl
            | succ q => exact Or.inr ⟨q, rfl⟩
          · have HD : Hid (dk l 0 = false) := by show _ = _; rw [HDK.out]; simp
            clear HDK
            go_wp2
            go_meet
            exact ⟨by rw [HD.out], rfl⟩
          · obtain ⟨p2, c2, gq, _⟩ := HC.out q (by omega)
            have HD : Hid (dk l (q + 1) = decide (0 < (l.getD q []).length)) := by
              show _ = _
              rw [HDK.out]
              refine decide_eq_decide.2 ?_
              have : l.getD q [] ≠ [] ↔ 0 < (l.getD q []).length := List.length_pos_iff.symm
              rw [show q + 1 - 1 = q from rfl, this]
              omega
            clear HDK
            generalize (l.getD q []).length = ql at *
            go_wp2
            go_meet
            exact ⟨by rw [HD.out], rfl⟩
        case rest =>
          obtain ⟨rfl, rfl⟩ := hcut
          clear HDK
          generalize dk l k = d at *
          go_upto_if 30 with fail
          go_cut [3] from 6 to 52 (fun t wx => t = .string (strOfNums (T ++ (if d = true then [46] else []))) ∧ wx = wc)
          case first =>
            cases d with
            | false =>
              clear HT
              go_wp2
              go_meet
              exact ⟨by rw [if_neg (by decide), List.append_nil], rfl⟩
            | true =>
              have hadd := run_string_add_sum (P := Tryz.prog) wc (strOfNums T) ⟨#[46]⟩ (by have : (⟨#[46]⟩ : ByteArray).size = 1 := rfl; omega)
              have HA := hide (str_append T [46])
              clear HT
              go_wp2
              go_meet
              exact ⟨by rw [if_pos (by trivial), ← HA.out]; rfl, rfl⟩
          case rest =>
            obtain ⟨rfl, rfl⟩ := hcut
            have ht2 : (T ++ (if d = true then [46] else [])).length ≤ 13 * k + 1 := by
              rw [List.length_append]
              cases d <;> simp <;> omega
            clear hne hs1
            generalize T ++ (if d = true then [46] else []) = T2 at *
            rcases hint.out with ⟨h, _⟩ | ⟨b3, o3, cap3, he, h03, hc3, hm3, hb3, hcell3⟩
            · rw [h] at hpn; simp at hpn; omega
            simp only [Value.slice.injEq] at he
            obtain ⟨rfl, he2, rfl⟩ := he
            clear he2
            have HC3 := hide hcell3
            clear hint hcell3 hln
            have HO0 : Hid (strOfNums T2 = strOfNums (T2 ++ sgs (ps.take 0))) := by
              show _ = _
              rw [List.take_zero, show sgs [] = [] from rfl, List.append_nil]
            go_wp2
            go_loop [3, 5] (fun t i => ∃ (j : Nat), j ≤ pl ∧ i = .int .i64 j ∧ t = .string (strOfNums (T2 ++ sgs (ps.take j)))) (fun _ i => pl - (intOf i).toNat)
            case atStart => exact ⟨0, by omega, rfl, by rw [HO0.out]⟩
            case round =>
              obtain ⟨j, hj, rfl, rfl⟩ := hrel
              clear HO0
              have hl3 : (strOfNums (T2 ++ sgs (ps.take j))).size ≤ 13 * k + 20 := by rw [strOfNums_size, List.length_append, sgs_length, List.length_take]; omega
              by_cases hlt3 : j < pl
              · obtain ⟨x, hx, hcx⟩ := cellAt HC3.out (show j < ps.length by omega)
                have hxm : x ∈ ps := by
                  rw [← hx.out, List.getElem?_eq_getElem (by omega), Option.getD_some]
                  exact List.getElem_mem _
                have hxb := HPP.out x hxm
                obtain ⟨m, hm⟩ : ∃ m : Nat, x = (m : Int) + 1 := ⟨(x - 1).toNat, by omega⟩
                subst hm
                have hm12 : m < 12 := by omega
                have HS : Hid (T2 ++ sgs (ps.take (j + 1)) = (T2 ++ sgs (ps.take j)) ++ [((sg m : Nat) : Int)]) := by
                  show _ = _
                  rw [take_snoc ps j (by omega), hx.out, List.append_assoc]
                  congr 1
                  simp [sgs]
                clear hxm hxb hx
                generalize T2 ++ sgs (ps.take j) = T3 at *
                have HSG := hide (signOf_ok m hm12 wc)
                have hs9 : (strOfNums [((sg m : Nat) : Int)]).size = 1 := by rw [strOfNums_size]; rfl
                have hadd := run_string_add_sum (P := Tryz.prog) wc (strOfNums T3) (strOfNums [((sg m : Nat) : Int)]) (by omega)
                have HA := hide (str_append T3 [((sg m : Nat) : Int)])
                go_wp2_with fail
                refine HSG.out.mono ?_
                rintro e w' ⟨rfl, rfl⟩
                go_wp2
                go_round
                case rel => exact ⟨j + 1, by omega, by go_num, by rw [HS.out, ← HA.out]⟩
                case measure => simp [intOf] <;> omega
              · have HO : Hid (strOfNums (T2 ++ sgs (ps.take j)) = strOfNums (ptx l (k + 1))) := by
                  show _ = _
                  rw [HT.out, List.take_of_length_le (show ps.length ≤ j by omega)]
                go_wp2
                go_round
                case rel => exact ⟨k + 1, by omega, by go_num, by rw [HO.out]⟩
                case measure => simp [intOf] <;> omega
    · obtain rfl : k = l.length := by omega
      go_wp2
      go_ret
      exact ⟨rfl, rfl⟩

end Go.Proofs.YtfngadfkopfhcaaGreatDoor

/- Contracts: method.Line, Course's limit, Write. -/
namespace Go.Proofs.YtfngadfkopfhcaaGreatDoor
open Go.RowKit
set_option maxRecDepth 20000
set_option linter.unusedVariables false

/-- Where a bell is, row by row. -/
def lin (L : List (List Int)) (x : Int) : List Int := L.map (fun r => idx x r 0 + 1)

theorem idx_range (x : Int) : ∀ (r : List Int) (k : Nat), idx x r k = -1 ∨ ((k : Int) ≤ idx x r k ∧ idx x r k < (k + r.length : Nat))
  | [], k => Or.inl rfl
  | y :: r, k => by
    unfold idx
    split
    · right; simp; omega
    · rcases idx_range x r (k + 1) with h | h
      · exact Or.inl h
      · right; rw [List.length_cons]; omega

set_option maxHeartbeats 4000000 in
theorem line_no (s : ByteArray) (n : Nat) (v : Value) (ts : List (List Bool)) (x : Int) (w : World) (hs : s.size ≤ 9223372036854775807) (hn : nm s = true) (h1 : 2 ≤ n) (h2 : n ≤ 12) (hl1 : 1 ≤ ts.length) (hl2 : ts.length ≤ 200) (hts : ∀ t, t ∈ ts → tsz t = n)
    (hv : IntsAll w v (ts.map tpl)) (hx : x < 0 ∨ (n : Int) ≤ x) :
    Calls Tryz.prog 21 #[meth s n v, .int .i64 x] w fun e w' => e = .returned (.tuple #[.slice none 0 0, .int .i64 12]) ∧ Below w.heap.size w w' := by
  obtain ⟨vp, vc, rfl⟩ := hv.len
  have HC := hide (lead_ok s n _ ts _ hs hn h1 h2 hl1 hl2 hts (hv.below (mbe w s n (.slice vp (ts.map tpl).length vc))))
  have HB := hide (mbe w s n (.slice vp (ts.map tpl).length vc))
  have hx0 := Box.start w s n (.slice vp (ts.map tpl).length vc) 24
  have HX := hide hx0
  generalize (ts.map tpl).length = L at *
  clear hv hn hts hx0
  unfold meth at *
  have hc : x < 0 ∨ (¬ x < 0 ∧ (n : Int) ≤ x) := by omega
  rcases hc with hc | ⟨hc1, hc2⟩
  all_goals
    clear hx
    go_enter Tryz.func21, Tryz.ntmps21
    go_wp2_with fail
    refine HC.out.mono ?_
    rintro e w1 ⟨u, vs, rfl, hL, hb1⟩
    obtain ⟨up, uc, rfl⟩ := owns_slice hL.row
    have g1 := (HX.out.below hb1).c1
    have HF := hide (HB.out.trans (hb1.mono HB.out.size))
    clear hL hb1 HC HX
    go_wp2
    go_ret2
    exact ⟨rfl, HF.out⟩

set_option maxHeartbeats 4000000 in
theorem line_ok (s : ByteArray) (n : Nat) (v : Value) (ts : List (List Bool)) (x : Int) (w : World) (hs : s.size ≤ 9223372036854775807) (hn : nm s = true) (h1 : 2 ≤ n) (h2 : n ≤ 12) (hl1 : 1 ≤ ts.length) (hl2 : ts.length ≤ 200) (hts : ∀ t, t ∈ ts → tsz t = n)
    (hv : IntsAll w v (ts.map tpl)) (hx1 : 0 ≤ x) (hx2 : x < (n : Int)) :
    Calls Tryz.prog 21 #[meth s n v, .int .i64 x] w fun e w' => ∃ u, e = .returned (.tuple #[u, .int .i64 0]) ∧ Ints w' u (lin (leadTo n ts ts.length) x) ∧ Below w.heap.size w w' := by
  obtain ⟨i0, hi, hz0, hz1, hz2⟩ := info_parts Tryz.info3
  obtain ⟨vp, vc, rfl⟩ := hv.len
  have HC := hide (lead_ok s n _ ts _ hs hn h1 h2 hl1 hl2 hts (hv.below (mbe w s n (.slice vp (ts.map tpl).length vc))))
  have HB := hide (mbe w s n (.slice vp (ts.map tpl).length vc))
  have hx0 := Box.start w s n (.slice vp (ts.map tpl).length vc) 24
  have HX := hide hx0
  have HRL : Hid (∀ r, r ∈ leadTo n ts ts.length → r.length = n) := fun r hr => by
    unfold leadTo at hr
    obtain ⟨j, _, rfl⟩ := List.mem_map.1 hr
    exact (prd_row n (ts.take j) (fun t ht => hts t (List.mem_of_mem_take ht))).2
  have HLL := hide (leadTo_length n ts ts.length)
  generalize leadTo n ts ts.length = R at *
  generalize (ts.map tpl).length = L at *
  generalize ts.length = K at *
  clear hv hn hts hx0
  unfold meth at *
  have hx3 : ¬ x < 0 := by omega
  have hx4 : ¬ (n : Int) ≤ x := by omega
  go_enter Tryz.func21, Tryz.ntmps21
  go_wp2_with fail
  refine HC.out.mono ?_
  rintro e w1 ⟨u, vs, rfl, hL, hb1⟩
  have hvl : vs.length = K + 1 := by rw [hL.len]; exact HLL.out
  obtain ⟨g, uc, rfl, hg1, hg2, huc, huc2⟩ := owns_form hL.row (by omega)
  have g1 := (HX.out.below hb1).c1
  have HBW := hide (HB.out.trans (hb1.mono HB.out.size))
  rw [hvl]
  have HL := hide hL
  have HVL := hide hvl
  rw [hvl] at huc
  clear hL hb1 HC HX hvl
  go_wp2_with (at_make; refine wpList_make_full _ rfl _ _ 30 rfl w1.heap.size 3 i0 (.int .i64 0) 1 Tryz.underlying30 hi hz0 hz1 _ _ _ _ (K + 1) rfl rfl ?b0 ?b1 ?b2 ?b3 (Nat.le_refl _) ?_)
  case b0 => omega
  case b1 => omega
  case b2 => rw [hz2]; omega
  case b3 => unfold maxLen; omega
  intro w0 hown0 hgrow0
  rw [made_ints] at hown0
  have HB0 : Hid (Below w1.heap.size w1 w0) := (Below.refl _ _).grown hgrow0 (Nat.le_refl _) (fun k h => by cases h)
  clear hgrow0
  go_wp2
  go_loopw [32] (fun i wr => ∃ (k : Nat) (zs : List Int), k ≤ K + 1 ∧ i = .int .i64 k ∧ Hid (wr.ownsRow w1.heap.size 3 1 (.slice (some ⟨w1.heap.size, 0, none⟩) (K + 1) (K + 1)) (K + 1) (zs.map (Value.int .i64))) ∧ Hid (zs.length = K + 1 ∧ ∀ j, j < k → zs.getD j 0 = idx x (R.getD j []) 0 + 1) ∧ Hid (Below w1.heap.size w1 wr)) (fun i _ => K + 1 - (intOf i).toNat)
  case atStart => exact ⟨0, _, by omega, rfl, hown0, ⟨by simp, fun j hj => by omega⟩, HB0⟩
  case round =>
    obtain ⟨k, zs, hk, rfl, hown, hz, hbw⟩ := hrel
    clear hown0 HB0
    by_cases hlt : k < K + 1
    · have hLr := HL.out.below hbw.out
      have hrow := hLr.at (k := k) (by rw [HLL.out]; exact hlt)
      have hcell := hLr.row.cells (g := g) rfl k (vs.getD k undef) (by simp [List.getD, show k < vs.length from by rw [HVL.out]; exact hlt])
      rw [Addr.add_lit, Nat.zero_add] at hcell
      have hrl : (R.getD k []).length = n := HRL.out _ (by rw [List.getD_eq_getElem?_getD, List.getElem?_eq_getElem (by rw [HLL.out]; exact hlt)]; exact List.getElem_mem _)
      have HID := hide (index_any _ (R.getD k []) x wr (Ints.own hrow))
      have hir := idx_range x (R.getD k []) 0
      rw [hrl] at hir
      obtain ⟨g', rc, hvf, _⟩ := owns_form hrow (by omega)
      rw [hvf] at hcell HID
      obtain ⟨y, hy, hcx, hfx⟩ := owns_cellAt hown.out hlt
      have HZ : Hid ((zs.set k (idx x (R.getD k []) 0 + 1)).length = K + 1 ∧ ∀ j, j < k + 1 → (zs.set k (idx x (R.getD k []) 0 + 1)).getD j 0 = idx x (R.getD j []) 0 + 1) := by
        refine ⟨by rw [List.length_set]; exact hz.out.1, fun j hj => ?_⟩
        have hzl := hz.out.1
        by_cases e : j = k
        · subst e; simp [List.getD, show j < zs.length from by omega]
        · rw [← hz.out.2 j (by omega)]
          simp [List.getD, show ¬ k = j from fun h => e h.symm]
      generalize idx x (R.getD k []) 0 = ix at *
      have HB5 : Hid (Below w1.heap.size w1 (wr.setCell ⟨w1.heap.size, k, none⟩ (.int .i64 (ix + 1)))) := hbw.out.setCell (p := ⟨w1.heap.size, k, none⟩) (Nat.le_refl _) _
      have HO5 : Hid ((wr.setCell ⟨w1.heap.size, k, none⟩ (.int .i64 (ix + 1))).ownsRow w1.heap.size 3 1 (.slice (some ⟨w1.heap.size, 0, none⟩) (K + 1) (K + 1)) (K + 1) ((zs.set k (ix + 1)).map (Value.int .i64))) := owns_set_int hown.out _
      generalize (R.getD k []).length = rl at *
      clear hLr hrow hvf hz hbw hown hrl
      go_wp2_with fail
      refine HID.out.mono ?_
      rintro e w' ⟨rfl, rfl⟩
      go_wp2
      go_roundw
      case rel => exact ⟨k + 1, _, by omega, by go_num, HO5, HZ, HB5⟩
      case measure => simp [intOf]; omega
    · obtain rfl : k = K + 1 := by omega
      have HF : Hid (Ints wr (.slice (some ⟨w1.heap.size, 0, none⟩) (K + 1) (K + 1)) (lin R x) ∧ Below w.heap.size w wr) := by
        refine ⟨?_, HBW.out.trans (hbw.out.mono HBW.out.size)⟩
        have e : zs = lin R x := by
          apply List.ext_getElem?
          intro j
          have hl1 : zs.length = K + 1 := hz.out.1
          have hl2 : (lin R x).length = K + 1 := by unfold lin; rw [List.length_map]; exact HLL.out
          rcases Nat.lt_or_ge j (K + 1) with h | h
          · rw [List.getElem?_eq_getElem (by omega), List.getElem?_eq_getElem (by omega)]
            have := hz.out.2 j h
            simp [List.getD, show j < zs.length from by omega, show j < R.length from by rw [HLL.out]; exact h] at this
            simp [lin, this]
          · rw [List.getElem?_eq_none (by omega), List.getElem?_eq_none (by omega)]
        rw [← e]
        have h9 := Ints.own hown.out
        exact h9
      clear hown hz hbw
      go_wp2
      go_ret2
      exact ⟨_, rfl, HF.out.1, HF.out.2⟩

set_option maxHeartbeats 400000 in
theorem course_no (s : ByteArray) (n : Nat) (v : Value) (ts : List (List Bool)) (w : World) (hs : s.size ≤ 9223372036854775807) (hn : nm s = true) (h1 : 2 ≤ n) (h2 : n ≤ 12) (hl1 : 1 ≤ ts.length) (hl2 : ts.length ≤ 200) (hts : ∀ t, t ∈ ts → tsz t = n)
    (hv : IntsAll w v (ts.map tpl)) (hfit : ¬ ord (prd n ts) * ts.length ≤ 20000) :
    Calls Tryz.prog 46 #[meth s n v] w fun e w' => e = .returned (.tuple #[.slice none 0 0, .int .i64 3]) ∧ Below w.heap.size w w' := by
  obtain ⟨vp, vc, hve⟩ := hv.len
  rw [List.length_map] at hve
  subst hve
  have HC := hide (lead_ok s n _ ts _ hs hn h1 h2 hl1 hl2 hts (hv.below (mbe w s n (.slice vp ts.length vc))))
  have HH := hide (fun W (hb : Below w.heap.size w W) => head_ok s n _ ts W hs hn h1 h2 hl1 hl2 hts (hv.below hb))
  have HB := hide (mbe w s n (.slice vp ts.length vc))
  have hx0 := Box.start w s n (.slice vp ts.length vc) 24
  have HX := hide hx0
  have hop := ord_pos (prd_row n ts hts).1 (by rw [(prd_row n ts hts).2]; exact h2)
  have hfb : ord (prd n ts) * ts.length ≤ 200000000000000000 := Nat.le_trans (Nat.mul_le_mul hop.2 hl2) (by decide)
  have HFT := hide (fun W => fits_any (ord (prd n ts)) ts.length W (by omega))
  rw [decide_eq_false hfit] at HFT
  generalize ord (prd n ts) = o at *
  generalize leadTo n ts ts.length = R at *
  generalize ts.length = K at *
  clear hv hn hts hx0 hfit hfb hop
  unfold meth at *
  go_enter Tryz.func46, Tryz.ntmps46
  go_wp2_with fail
  refine HC.out.mono ?_
  rintro e w1 ⟨u, vs, rfl, hL, hb1⟩
  obtain ⟨up, uc, rfl⟩ := owns_slice hL.row
  have hb2 := HB.out.trans (hb1.mono HB.out.size)
  have HX1 := HX.out.below hb1
  have g0 := HX1.c0
  have g1 := HX1.c1
  have g2 := HX1.c2
  have HHH := hide (HH.out w1 hb2)
  have HX2 := hide HX1
  have HB2 := hide hb2
  clear hL hb1 hb2 HX1 HC HH HB HX
  go_wp2_with fail
  refine HHH.out.mono ?_
  rintro e w2 ⟨u2, rfl, hu2, hb2⟩
  obtain ⟨up2, uc2, rfl⟩ := owns_slice hu2
  have k2 := (HX2.out.below hb2).c2
  have HF := hide (HB2.out.trans (hb2.mono HB2.out.size))
  clear hu2 hb2 HHH HX2 g0 g1 g2
  go_wp2_with fail
  refine (HFT.out _).mono ?_
  rintro e w' ⟨rfl, rfl⟩
  go_wp2
  go_ret2
  exact ⟨rfl, HF.out⟩

end Go.Proofs.YtfngadfkopfhcaaGreatDoor

/- Contract: method.Write. -/
namespace Go.Proofs.YtfngadfkopfhcaaGreatDoor
open Go.RowKit
set_option maxRecDepth 20000
set_option linter.unusedVariables false

/-- The places of a method, as a text. -/
def pls (X : List (List Int)) : ByteArray := strOfNums (ptx X X.length)

/-- A method as a line. -/
def wln (s : ByteArray) (n : Nat) (X : List (List Int)) : ByteArray := ⟨(joi s.data.toList (decB n) (pls X).data.toList).toArray⟩

set_option maxHeartbeats 4000000 in
theorem write_ok (s : ByteArray) (n : Nat) (v : Value) (X : List (List Int)) (w : World) (hs : s.size ≤ 100000) (hz : mErr s n X = 0) (h1 : 2 ≤ n) (h2 : n ≤ 12) (hl1 : 1 ≤ X.length) (hl2 : X.length ≤ 200) (hX : ∀ j, j < X.length → pc n (X.getD j []) = 0) (hps : (pls X).size ≤ 100000)
    (hv : IntsAll w v X) :
    Calls Tryz.prog 11 #[meth s n v] w fun e w' => e = .returned (.tuple #[.string (wln s n X), .int .i64 0]) ∧ Below w.heap.size w w' := by
  obtain ⟨vp, vc, rfl⟩ := hv.len
  have HC := hide (mcheck_all s n _ X _ (by omega) (hv.below (mbe w s n (.slice vp X.length vc))))
  rw [hz] at HC
  have HP := hide (fun W (hb : Below w.heap.size w W) => print_ok (n : Int) _ X W (hv.below hb) hl1 hl2 hX)
  have HB := hide (mbe w s n (.slice vp X.length vc))
  have hx0 := Box.start w s n (.slice vp X.length vc) 24
  have HX := hide hx0
  have hdd : (⟨(Lib.decDigits n).toArray⟩ : ByteArray).data.toList = decB n := by show Lib.decDigits n = _; exact dec_digits (by omega)
  have hds : (⟨(Lib.decDigits n).toArray⟩ : ByteArray).size ≤ 100000 := by
    have : (⟨(Lib.decDigits n).toArray⟩ : ByteArray).size = (decB n).length := by rw [← hdd, Array.length_toList]; rfl
    rw [this]; have := decB_length n; omega
  have HW : Hid (wln s n X = ⟨(joi s.data.toList (⟨(Lib.decDigits n).toArray⟩ : ByteArray).data.toList (pls X).data.toList).toArray⟩) := by show _ = _; unfold wln; rw [hdd]
  have HIT := hide (fun W => itoa_small n (by omega) W)
  rw [show strOfNums (ptx X X.length) = pls X from rfl] at HP
  generalize (⟨(Lib.decDigits n).toArray⟩ : ByteArray) = dg at *
  generalize pls X = pt at *
  generalize wln s n X = res at *
  generalize X.length = L at *
  clear hv hx0 hX hdd hz
  unfold meth at *
  go_enter Tryz.func11, Tryz.ntmps11
  go_wp2_with fail
  refine HC.out.mono ?_
  rintro e w1 ⟨rfl, hb1⟩
  have hb2 := HB.out.trans (hb1.mono HB.out.size)
  have hx1 := HX.out.below hb1
  have g1 := hx1.c1
  have g2 := hx1.c2
  have HPP := hide (HP.out w1 hb2)
  have HX1 := hide hx1
  have HB2 := hide hb2
  clear hb1 hb2 hx1 HC HP HX HB
  go_wp2_with fail
  refine HPP.out.mono ?_
  rintro e W ⟨rfl, hb3⟩
  have hx2 := HX1.out.below hb3
  have c0 := hx2.c0
  have c1 := hx2.c1
  have hlt := hx2.lt
  have HB3 := hide (HB2.out.trans (hb3.mono HB2.out.size))
  clear hb3 hx2 HX1 HB2 HPP g1 g2
  go_wp2_with fail
  refine wp_region_held_drew (S := fun W' => Below W.heap.size W W') (by kernel_rfl) (Below.refl W.heap.size W).drew (fun hS => ?_)
  refine wpAnyH_take (i := 0) (v := .pointer (some ⟨w.heap.size, 0, none⟩)) rfl (by kernel_rfl) (by kernel_rfl) (by kernel_rfl) (fun _ _ _ h => h) (Or.inl ⟨by kernel_rfl, fun w' hS' => by clear hS'; go_simp⟩) hS ?_
  refine wpAnyH_take (i := 1) (v := .string s) rfl (by kernel_rfl) (by kernel_rfl) (by kernel_rfl) (fun _ _ _ h => h) (Or.inl ⟨by kernel_rfl, fun w' hS' => by have q0 := (hS'.cell (p := ⟨w.heap.size, 0, none⟩) hlt).trans c0; clear hS'; go_simp⟩) hS ?_
  refine wpAnyH_take (i := 2) (v := .pointer (some ⟨w.heap.size, 1, none⟩)) rfl (by kernel_rfl) (by kernel_rfl) (by kernel_rfl) (fun _ _ _ h => h) (Or.inl ⟨by kernel_rfl, fun w' hS' => by clear hS'; go_simp⟩) hS ?_
  refine wpAnyH_take (i := 3) (v := .int .i64 (n : Int)) rfl (by kernel_rfl) (by kernel_rfl) (by kernel_rfl) (fun _ _ _ h => h) (Or.inl ⟨by kernel_rfl, fun w' hS' => by have q1 := (hS'.cell (p := ⟨w.heap.size, 1, none⟩) hlt).trans c1; clear hS'; go_simp⟩) hS ?_
  refine wpAnyH_take (i := 5) (v := .string pt) rfl (by kernel_rfl) (by kernel_rfl) (by kernel_rfl) (fun _ _ _ h => h) (Or.inl ⟨by kernel_rfl, fun w' hS' => by clear hS'; go_simp⟩) hS ?_
  refine wpAnyH_ready (rs := [4]) (by kernel_rfl) (by simp) ?_
  refine AllReadyH.cons rfl (fun K hK => ?_) AllReadyH.nil
  go_simp
  refine (HIT.out _).mono ?_
  rintro e w' ⟨rfl, rfl⟩
  refine hK.out _ _ hS (fun hS => ?_)
  clear hK
  have HS0 := hide hS
  refine wpAnyH_ready (rs := [6]) (by kernel_rfl) (by simp) ?_
  refine AllReadyH.cons rfl (fun K hK => ?_) AllReadyH.nil
  go_simp
  have hal : Below W.heap.size W (W.drew.alloc (.cells #[.string s, .string dg, .string pt] 9)) := HS0.out.alloc (Nat.le_refl _) _
  refine hK.out _ _ hal (fun hS => ?_)
  clear hK
  have hnw : (W.drew.alloc (.cells #[.string s, .string dg, .string pt] 9)).heap[W.heap.size]? = some (.cells #[.string s, .string dg, .string pt] 9) := heap_alloc_new W.drew _
  have HJ := hide (join3 W.heap.size s dg pt (W.drew.alloc (.cells #[.string s, .string dg, .string pt] 9)) (by simp) (by rw [cell_of_row _ _ 0 _ _ _ hnw]; rfl) (by rw [cell_of_row _ _ 1 _ _ _ hnw]; rfl) (by rw [cell_of_row _ _ 2 _ _ _ hnw]; rfl) hs hds hps)
  rw [← HW.out] at HJ
  refine wpAnyH_ready (rs := [7]) (by kernel_rfl) (by simp) ?_
  refine AllReadyH.cons rfl (fun K hK => ?_) AllReadyH.nil
  go_simp
  refine HJ.out.mono ?_
  rintro e w5 ⟨rfl, hb5⟩
  have hb6 : Below W.heap.size W w5 := hal.trans (hb5.mono (by simp))
  have HF := hide (HB3.out.trans (hb6.mono HB3.out.size))
  refine hK.out _ _ hb6 (fun hS => ?_)
  clear hK hb5 HJ
  refine wpAnyH_take (i := 8) (v := .string res) rfl (by kernel_rfl) (by kernel_rfl) (by kernel_rfl) (fun _ _ _ h => h) (Or.inl ⟨by kernel_rfl, fun w' hS' => by clear hS'; go_simp⟩) hS ?_
  refine wpAnyH_take (i := 9) (v := .int .i64 0) rfl (by kernel_rfl) (by kernel_rfl) (by kernel_rfl) (fun _ _ _ h => h) (Or.inl ⟨by kernel_rfl, fun w' hS' => by clear hS'; go_simp⟩) hS ?_
  refine wpAnyH_done (by kernel_rfl) ?_ _
  go_wp2
  go_ret2
  exact ⟨rfl, HF.out⟩

end Go.Proofs.YtfngadfkopfhcaaGreatDoor

/- Plain: ways through all rows, one after another, in the order of lists; how many unlike numbers there are below a bound. -/
namespace Go.Proofs.YtfngadfkopfhcaaGreatDoor
open Go.RowKit

/-- A way that goes on from a number, which has met these: each number once, and then 0. -/
def Good (nx : Nat → Nat → Nat) (K all : Nat) : List Nat → Nat → List Nat → Prop
  | _, _, [] => False
  | ks, at_, k :: t => k < K ∧ ((t = [] ∧ nx k at_ = 0 ∧ ks.length = all) ∨ (nx k at_ ∉ ks ∧ Good nx K all (nx k at_ :: ks) (nx k at_) t))

/-- The order of lists. -/
def Ltl : List Nat → List Nat → Prop
  | [], [] => False
  | [], _ :: _ => True
  | _ :: _, [] => False
  | a :: x, b :: y => a < b ∨ (a = b ∧ Ltl x y)

theorem nodup_le : ∀ (n : Nat) (l : List Nat), l.Nodup → (∀ x, x ∈ l → x < n) → l.length ≤ n
  | 0, l, _, h => by
    cases l with
    | nil => simp
    | cons x t => exact absurd (h x (by simp)) (by omega)
  | n + 1, l, hn, h => by
    by_cases hm : n ∈ l
    · have h1 := nodup_le n (l.erase n) (hn.erase n) (fun x hx => by
        have hx2 := (List.Nodup.mem_erase_iff hn).1 hx
        have := h x hx2.2
        have := hx2.1
        omega)
      have h2 := List.length_erase_of_mem hm
      have h3 : 0 < l.length := List.length_pos_of_mem hm
      omega
    · have h1 := nodup_le n l hn (fun x hx => by
        have := h x hx
        have : x ≠ n := fun e => hm (e ▸ hx)
        omega)
      omega

/-- The numbers that are tried stand for all: each once, in order. -/
structure Tried (nx : Nat → Nat → Nat) (K : Nat) (tr : List Nat) : Prop where
  low : ∀ k, k ∈ tr → k < K
  sorted : tr.Pairwise (· < ·)
  all : ∀ k, k < K → ∃ k', k' ∈ tr ∧ k' ≤ k ∧ ∀ a, nx k' a = nx k a

theorem Good.same {nx : Nat → Nat → Nat} {K all : Nat} {ks : List Nat} {a k k' : Nat} {t : List Nat} (h : Good nx K all ks a (k :: t)) (hk : k' < K) (e : nx k' a = nx k a) : Good nx K all ks a (k' :: t) := by
  unfold Good at h ⊢
  rw [e]
  exact ⟨hk, h.2⟩

theorem sorted_before {tr : List Nat} (h : tr.Pairwise (· < ·)) {i : Nat} (hi : i < tr.length) {k : Nat} (hk : k ∈ tr) (hlt : k < tr.getD i 0) : ∃ j, j < i ∧ tr.getD j 0 = k := by
  obtain ⟨j, hj, e⟩ := List.getElem_of_mem hk
  have ei : tr.getD i 0 = tr[i] := by simp [List.getD, hi]
  refine ⟨j, ?_, by simp [List.getD, hj, e]⟩
  rcases Nat.lt_trichotomy j i with h1 | h1 | h1
  · exact h1
  · subst h1; omega
  · have := List.pairwise_iff_getElem.1 h i j hi hj h1
    omega

/-- What is found first is the least. -/
theorem least_found {nx : Nat → Nat → Nat} {K all : Nat} {tr ks : List Nat} {a i : Nat} {q : List Nat} (hT : Tried nx K tr) (hi : i < tr.length) (hno : ∀ j, j < i → ∀ t, ¬ Good nx K all ks a (tr.getD j 0 :: t))
    (hq : ∀ t, Good nx K all ks a (tr.getD i 0 :: t) → ¬ Ltl t q) : ∀ t, Good nx K all ks a t → ¬ Ltl t (tr.getD i 0 :: q) := by
  intro t ht hl
  cases t with
  | nil => exact ht
  | cons k t =>
    have hk : k < K := by unfold Good at ht; exact ht.1
    rcases (show k < tr.getD i 0 ∨ (k = tr.getD i 0 ∧ Ltl t q) from hl) with h | ⟨rfl, h⟩
    · obtain ⟨k', hm, hle, he⟩ := hT.all k hk
      obtain ⟨j, hj, e⟩ := sorted_before hT.sorted hi hm (by omega)
      refine hno j hj t ?_
      rw [e]
      exact ht.same (hT.low k' hm) (he a)
    · exact hq t ht h

theorem none_found {nx : Nat → Nat → Nat} {K all : Nat} {tr ks : List Nat} {a : Nat} (hT : Tried nx K tr) (hno : ∀ j, j < tr.length → ∀ t, ¬ Good nx K all ks a (tr.getD j 0 :: t)) : ∀ t, ¬ Good nx K all ks a t := by
  intro t ht
  cases t with
  | nil => exact ht
  | cons k t =>
    have hk : k < K := by unfold Good at ht; exact ht.1
    obtain ⟨k', hm, hle, he⟩ := hT.all k hk
    obtain ⟨j, hj, e⟩ := List.getElem_of_mem hm
    refine hno j hj t ?_
    rw [show tr.getD j 0 = k' from by simp [List.getD, hj, e]]
    exact ht.same (hT.low k' hm) (he a)

/-- A step that is barred. -/
theorem good_barred {nx : Nat → Nat → Nat} {K all : Nat} {ks : List Nat} {a k : Nat} (h1 : nx k a ∈ ks) (h2 : ¬ (nx k a = 0 ∧ ks.length = all)) : ∀ t, ¬ Good nx K all ks a (k :: t) := by
  intro t ht
  unfold Good at ht
  rcases ht.2 with ⟨_, h3, h4⟩ | ⟨h3, _⟩
  · exact h2 ⟨h3, h4⟩
  · exact h3 h1

/-- Home. -/
theorem good_home {nx : Nat → Nat → Nat} {K all : Nat} {ks : List Nat} {a k : Nat} (hk : k < K) (h1 : nx k a = 0) (h2 : ks.length = all) : Good nx K all ks a [k] ∧ ∀ t, Good nx K all ks a (k :: t) → ¬ Ltl t [] := by
  refine ⟨⟨hk, Or.inl ⟨rfl, h1, h2⟩⟩, fun t _ hl => ?_⟩
  cases t with
  | nil => exact hl
  | cons _ _ => exact hl

theorem good_on {nx : Nat → Nat → Nat} {K all : Nat} {ks : List Nat} {a k : Nat} (h2 : ¬ (nx k a = 0 ∧ ks.length = all)) (t : List Nat) : Good nx K all ks a (k :: t) → Good nx K all (nx k a :: ks) (nx k a) t := by
  intro ht
  unfold Good at ht
  rcases ht.2 with ⟨_, h3, h4⟩ | ⟨_, h3⟩
  · exact absurd ⟨h3, h4⟩ h2
  · exact h3

def nI (l : List Nat) : List Int := l.map (fun (k : Nat) => (k : Int))

theorem nI_len (l : List Nat) : (nI l).length = l.length := by simp [nI]

theorem nI_get (l : List Nat) {i : Nat} (h : i < l.length) : (nI l).getD i 0 = ((l.getD i 0 : Nat) : Int) := by simp [nI, List.getD, h]

end Go.Proofs.YtfngadfkopfhcaaGreatDoor

/- Contracts: call.runOf, call.Print. -/
namespace Go.Proofs.YtfngadfkopfhcaaGreatDoor
open Go.RowKit Go.Shelf
set_option maxRecDepth 20000
set_option linter.unusedVariables false

/-- The k-th cell of leads in memory. -/
theorem lead_cell {w : World} {v : Value} {t : List Nat} (h : Ints w v (nI t)) (h1 : 1 ≤ t.length) : ∃ b off cap, v = .slice (some ⟨b, off, none⟩) t.length cap ∧ t.length ≤ cap ∧ cap ≤ 9223372036854775807 ∧ b < w.heap.size ∧ ∀ k, k < t.length → w.cell? ⟨b, off + k, none⟩ = some (.int .i64 ((t.getD k 0 : Nat) : Int)) := by
  rcases h with ⟨e, _⟩ | ⟨b, off, cap, e, h0, h2, h3, h4, hc⟩
  · exfalso
    have : t = [] := by simpa [nI] using e
    rw [this] at h1
    simp at h1
  · rw [nI_len] at e h2
    refine ⟨b, off, cap, e, h2, h3, h4, fun k hk => ?_⟩
    rw [hc k (by rw [nI_len]; exact hk), nI_get t hk]

/-- The bytes of a call's sign. -/
def sgB (cs : List Cl) (c : Nat) : List UInt8 := Lib.encodeRune (cs.getD c (0, [])).1

theorem sgB_length (cs : List Cl) (c : Nat) : (sgB cs c).length ≤ 4 := by
  unfold sgB
  have := (Lib.runeCells_le (cs.getD c (0, [])).1).2
  rwa [Lib.runeCells_length] at this

/-- What Print tells of leads: their text, or nothing. -/
def prT (cs : List Cl) (ls : List Int) : List UInt8 := if lErr cs.length ls = 0 then pF (sgB cs) 0 (ls.map Int.toNat) else []

def sLen : Value → Nat
  | .slice _ n _ => n
  | _ => 0

/-- What the loop of Print knows. -/
structure PRel (cs : List Cl) (L : List UInt8) (B : Nat) (w wr : World) (lv : Value) (t : List Nat) (acc : List UInt8) : Prop where
  lat : Ints w lv (nI t)
  bld : Bld B B acc wr
  eq : L = acc ++ pF (sgB cs) 0 t
  few : acc.length + 6 * t.length ≤ 6 * 400
  below : Below B w wr

theorem Ints.drop9 {w : World} {b off cap n k : Nat} {t : List Nat} (h : Ints w (.slice (some ⟨b, off, none⟩) n cap) (nI t)) (hn : t.length = n) (hk : k ≤ n) : Ints w (.slice (some ⟨b, off + k, none⟩) (n - k) (cap - k)) (nI (t.drop k)) := by
  rcases Nat.eq_or_lt_of_le hk with e | e
  · subst e
    refine Or.inl ⟨?_, some ⟨b, off + k, none⟩, cap - k, ?_⟩
    · rw [List.drop_eq_nil_of_le (by omega)]; rfl
    · rw [Nat.sub_self]
  · obtain ⟨b', off', cap', e1, h2, h3, h4, hc⟩ := lead_cell h (by omega)
    rw [hn] at e1 h2 hc
    simp only [Value.slice.injEq, Option.some.injEq, Addr.mk.injEq, and_true] at e1
    obtain ⟨⟨rfl, rfl⟩, _, rfl⟩ := e1
    have hl : (nI (t.drop k)).length = n - k := by rw [nI_len, List.length_drop, hn]
    refine Or.inr ⟨b, off + k, cap - k, by rw [hl], by rw [hl]; omega, by rw [hl]; omega, by omega, h4, fun j hj => ?_⟩
    rw [hl] at hj
    rw [Nat.add_assoc, hc (k + j) (by omega), nI_get _ (by rw [List.length_drop]; omega)]
    simp [List.getD]

end Go.Proofs.YtfngadfkopfhcaaGreatDoor

/- Contracts: the answer's Dec of small numbers, PrintTouch. -/
namespace Go.Proofs.YtfngadfkopfhcaaGreatDoor
open Go.RowKit Go.Shelf
set_option maxRecDepth 20000
set_option linter.unusedVariables false

theorem str_app (a b : List UInt8) : (⟨a.toArray⟩ : ByteArray) ++ ⟨b.toArray⟩ = ⟨(a ++ b).toArray⟩ := by
  apply ByteArray.ext
  simp

theorem str_size (a : List UInt8) : (⟨a.toArray⟩ : ByteArray).size = a.length := by
  show a.toArray.size = _
  simp

theorem byte_str (n b : Nat) (W : World) (hk : W.cell? ⟨b, 0, none⟩ = some (.int .u8 (48 + (n : Int)))) : (convert 82 9 (.slice (some ⟨b, 0, none⟩) 1 1)).run Tryz.prog W = .ok (.string ⟨[UInt8.ofNat (48 + n)].toArray⟩) W := by
  have h := run_convert_bytes_arg (P := Tryz.prog) (w := W) 82 5 Tryz.underlying82 Tryz.underlying5 b 0 1 1 [48 + (n : Int)] rfl (fun i hi => by
    obtain rfl : i = 0 := by omega
    simpa using hk) 9 Tryz.underlying9
  rw [h]
  congr 3

set_option maxHeartbeats 2000000 in
theorem decS_one (n : Nat) (h : n < 10) (w : World) : Calls Tryz.prog 42 #[.int .i64 n] w fun e w' => e = .returned (.string ⟨[UInt8.ofNat (48 + n)].toArray⟩) ∧ Below w.heap.size w w' := by
  have h1 : ¬ (n : Int) < -9 := by omega
  have h2 : ¬ (n : Int) < 0 := by omega
  have h3 : (n : Int) < 10 := by omega
  have hcv := byte_str n w.heap.size (w.alloc (.cells #[.int .u8 (48 + (n : Int))] 5)) (by simp)
  have HB := hide ((Below.refl w.heap.size w).alloc (Nat.le_refl _) (.cells #[.int .u8 (48 + (n : Int))] 5))
  go_enter Tryz.func42, Tryz.ntmps42
  go_wp2
  go_ret
  exact ⟨rfl, HB.out⟩

set_option maxHeartbeats 4000000 in
theorem decS_two (n : Nat) (h0 : 10 ≤ n) (h : n < 100) (w : World) : Calls Tryz.prog 42 #[.int .i64 n] w fun e w' => e = .returned (.string ⟨(decB n).toArray⟩) ∧ Below w.heap.size w w' := by
  have h1 : ¬ (n : Int) < -9 := by omega
  have h2 : ¬ (n : Int) < 0 := by omega
  have h3 : ¬ (n : Int) < 10 := by omega
  obtain ⟨q, hq⟩ : ∃ q, Hid (n / 10 = q) := ⟨_, rfl⟩
  obtain ⟨m, hm⟩ : ∃ m, Hid (n % 10 = m) := ⟨_, rfl⟩
  have hq1 := hq.out
  have hm1 := hm.out
  have hq10 : q < 10 := by omega
  have hm10 : m < 10 := by omega
  have hdv : (n : Int).tdiv 10 = (q : Int) := by rw [show (10 : Int) = ((10 : Nat) : Int) from rfl, ← Int.ofNat_tdiv, hq1]
  have hmd : (n : Int).tmod 10 = (m : Int) := by rw [show (10 : Int) = ((10 : Nat) : Int) from rfl, ← Int.ofNat_tmod, hm1]
  have HD := hide (fun W => decS_one q hq10 W)
  have HBS := hide (fun b W hk => byte_str m b W hk)
  obtain ⟨sq, hsq⟩ : ∃ sq, Hid ((⟨[UInt8.ofNat (48 + q)].toArray⟩ : ByteArray) = sq) := ⟨_, rfl⟩
  obtain ⟨sm, hsm⟩ : ∃ sm, Hid ((⟨[UInt8.ofNat (48 + m)].toArray⟩ : ByteArray) = sm) := ⟨_, rfl⟩
  rw [hsq.out] at HD
  rw [hsm.out] at HBS
  have hadd := fun W => run_string_add_sum (P := Tryz.prog) (w := W) sq sm (by rw [← hsq.out, ← hsm.out, str_size, str_size]; simp)
  have HFIN : Hid ((⟨(decB n).toArray⟩ : ByteArray) = sq ++ sm) := by
    show _ = _
    rw [← hsq.out, ← hsm.out, str_app]
    unfold decB
    rw [if_neg (by omega), hq1, hm1]
    rfl
  clear hq1 hm1
  go_enter Tryz.func42, Tryz.ntmps42
  go_upto_region 7 with fail
  refine wp_region_held_drew (S := fun W' => Below w.heap.size w W') (by kernel_rfl) (Below.refl w.heap.size w).drew (fun hS => ?_)
  refine wpAnyH_take (i := 0) (v := .int .i64 n) rfl (by kernel_rfl) (by kernel_rfl) (by kernel_rfl) (fun _ _ _ h => h) (Or.inl ⟨by kernel_rfl, fun w' hS' => by clear hS'; go_simp⟩) hS ?_
  refine wpAnyH_take (i := 1) (v := .int .i64 q) rfl (by kernel_rfl) (by kernel_rfl) (by kernel_rfl) (fun _ _ _ h => h) (Or.inl ⟨by kernel_rfl, fun w' hS' => by clear hS'; go_simp; (try (rw [IntKind.wrap_i64]; omega))⟩) hS ?_
  refine wpAnyH_take (i := 3) (v := .int .i64 n) rfl (by kernel_rfl) (by kernel_rfl) (by kernel_rfl) (fun _ _ _ h => h) (Or.inl ⟨by kernel_rfl, fun w' hS' => by clear hS'; go_simp⟩) hS ?_
  refine wpAnyH_take (i := 4) (v := .int .i64 m) rfl (by kernel_rfl) (by kernel_rfl) (by kernel_rfl) (fun _ _ _ h => h) (Or.inl ⟨by kernel_rfl, fun w' hS' => by clear hS'; go_simp; (try (rw [IntKind.wrap_i64]; omega))⟩) hS ?_
  refine wpAnyH_take (i := 5) (v := .int .i64 (48 + (m : Int))) rfl (by kernel_rfl) (by kernel_rfl) (by kernel_rfl) (fun _ _ _ h => h) (Or.inl ⟨by kernel_rfl, fun w' hS' => by clear hS'; go_simp; (try (rw [IntKind.wrap_i64]; omega))⟩) hS ?_
  refine wpAnyH_take (i := 6) (v := .int .u8 (48 + (m : Int))) rfl (by kernel_rfl) (by kernel_rfl) (by kernel_rfl) (fun _ _ _ h => h) (Or.inl ⟨by kernel_rfl, fun w' hS' => by clear hS'; go_simp; (try (rw [IntKind.wrap_u8]; omega))⟩) hS ?_
  refine wpAnyH_ready (rs := [2, 7]) (by kernel_rfl) (by simp) ?_
  refine (AllReadyH.cons rfl (fun K9 hK9 => ?_) (AllReadyH.cons rfl (fun K9 hK9 => ?_) AllReadyH.nil))
  · go_simp
    refine (HD.out _).mono ?_
    rintro e w1 ⟨rfl, hb1⟩
    have hB1 : Below w.heap.size w w1 := (Below.refl w.heap.size w).drew.trans hb1
    refine hK9.out _ _ hB1 (fun hS => ?_)
    clear hK9
    refine wpAnyH_ready (rs := [7]) (by kernel_rfl) (by simp) ?_
    refine (AllReadyH.cons rfl (fun K9 hK9 => ?_) AllReadyH.nil)
    go_simp
    have hB2 : Below w.heap.size w (w1.alloc (.cells #[.int .u8 (48 + (m : Int))] 5)) := hB1.alloc hB1.size _
    have hcv := HBS.out w1.heap.size (w1.alloc (.cells #[.int .u8 (48 + (m : Int))] 5)) (by simp)
    refine hK9.out _ _ hB2 (fun hS => ?_)
    clear hK9
    refine wpAnyH_ready (rs := [8]) (by kernel_rfl) (by simp) ?_
    refine (AllReadyH.cons rfl (fun K9 hK9 => ?_) AllReadyH.nil)
    go_simp
    refine hK9.out _ _ hB2 (fun hS => ?_)
    clear hK9 hcv
    refine wpAnyH_take (i := 9) (v := .string (sq ++ sm)) rfl (by kernel_rfl) (by kernel_rfl) (by kernel_rfl) (fun _ _ _ h => h) (Or.inl ⟨by kernel_rfl, fun w' hS' => by clear hS'; go_simp⟩) hS ?_
    refine wpAnyH_take (i := 10) (v := .string (sq ++ sm)) rfl (by kernel_rfl) (by kernel_rfl) (by kernel_rfl) (fun _ _ _ h => h) (Or.inl ⟨by kernel_rfl, fun w' hS' => by clear hS'; go_simp⟩) hS ?_
    refine wpAnyH_done (by kernel_rfl) ?_ _
    have HBF := hide hB2
    clear hS
    go_wp2
    go_ret
    exact ⟨by rw [HFIN.out]; rfl, HBF.out⟩
  · go_simp
    have hBA : Below w.heap.size w (w.alloc (.cells #[.int .u8 (48 + (m : Int))] 5)).drew := ((Below.refl w.heap.size w).alloc (Nat.le_refl _) _).drew
    have hcv := HBS.out w.heap.size (w.alloc (.cells #[.int .u8 (48 + (m : Int))] 5)).drew (by show (w.alloc (.cells #[.int .u8 (48 + (m : Int))] 5)).cell? _ = _; simp)
    refine hK9.out _ _ hBA (fun hS => ?_)
    clear hK9
    refine wpAnyH_ready (rs := [2, 8]) (by kernel_rfl) (by simp) ?_
    refine (AllReadyH.cons rfl (fun K9 hK9 => ?_) (AllReadyH.cons rfl (fun K9 hK9 => ?_) AllReadyH.nil))
    · go_simp
      refine (HD.out _).mono ?_
      rintro e w1 ⟨rfl, hb1⟩
      have hB1 : Below w.heap.size w w1 := hBA.trans (hb1.mono hBA.size)
      have hk : w1.cell? ⟨w.heap.size, 0, none⟩ = some (.int .u8 (48 + (m : Int))) := (hb1.cell (p := ⟨w.heap.size, 0, none⟩) (by show w.heap.size < (w.alloc (.cells #[.int .u8 (48 + (m : Int))] 5)).heap.size; simp)).trans (by show (w.alloc (.cells #[.int .u8 (48 + (m : Int))] 5)).cell? _ = _; simp)
      have hcv2 := HBS.out w.heap.size w1 hk
      refine hK9.out _ _ hB1 (fun hS => ?_)
      clear hK9
      refine wpAnyH_ready (rs := [8]) (by kernel_rfl) (by simp) ?_
      refine (AllReadyH.cons rfl (fun K9 hK9 => ?_) AllReadyH.nil)
      go_simp
      refine hK9.out _ _ hB1 (fun hS => ?_)
      clear hK9 hcv2
      refine wpAnyH_take (i := 9) (v := .string (sq ++ sm)) rfl (by kernel_rfl) (by kernel_rfl) (by kernel_rfl) (fun _ _ _ h => h) (Or.inl ⟨by kernel_rfl, fun w' hS' => by clear hS'; go_simp⟩) hS ?_
      refine wpAnyH_take (i := 10) (v := .string (sq ++ sm)) rfl (by kernel_rfl) (by kernel_rfl) (by kernel_rfl) (fun _ _ _ h => h) (Or.inl ⟨by kernel_rfl, fun w' hS' => by clear hS'; go_simp⟩) hS ?_
      refine wpAnyH_done (by kernel_rfl) ?_ _
      have HBF := hide hB1
      clear hS
      go_wp2
      go_ret
      exact ⟨by rw [HFIN.out]; rfl, HBF.out⟩
    · go_simp
      refine hK9.out _ _ hBA (fun hS => ?_)
      clear hK9 hcv
      refine wpAnyH_ready (rs := [2]) (by kernel_rfl) (by simp) ?_
      refine (AllReadyH.cons rfl (fun K9 hK9 => ?_) AllReadyH.nil)
      go_simp
      refine (HD.out _).mono ?_
      rintro e w1 ⟨rfl, hb1⟩
      have hB1 : Below w.heap.size w w1 := hBA.trans (hb1.mono hBA.size)
      refine hK9.out _ _ hB1 (fun hS => ?_)
      clear hK9
      refine wpAnyH_take (i := 9) (v := .string (sq ++ sm)) rfl (by kernel_rfl) (by kernel_rfl) (by kernel_rfl) (fun _ _ _ h => h) (Or.inl ⟨by kernel_rfl, fun w' hS' => by clear hS'; go_simp⟩) hS ?_
      refine wpAnyH_take (i := 10) (v := .string (sq ++ sm)) rfl (by kernel_rfl) (by kernel_rfl) (by kernel_rfl) (fun _ _ _ h => h) (Or.inl ⟨by kernel_rfl, fun w' hS' => by clear hS'; go_simp⟩) hS ?_
      refine wpAnyH_done (by kernel_rfl) ?_ _
      have HBF := hide hB1
      clear hS
      go_wp2
      go_ret
      exact ⟨by rw [HFIN.out]; rfl, HBF.out⟩

theorem enc_rune (r : Int) : Utf8.encode r = ⟨(Lib.encodeRune r).toArray⟩ := by
  have key : (Utf8.encode r).data.toList = Lib.encodeRune r := by
    unfold Lib.encodeRune
    by_cases h0 : r < 0
    · have v : Utf8.valid r = false := by simp [Utf8.valid]; omega
      rw [Lib.encodeRuneZ_bad (by omega)]
      simp [Utf8.encode, v, Utf8.runeError]
    · obtain ⟨n, rfl⟩ : ∃ n : Nat, r = (n : Int) := ⟨r.toNat, by omega⟩
      rw [← Go.Extern.FmtText.encode_eq n]
      unfold Go.Extern.FmtText.nums
      rw [List.map_map]
      exact ((List.map_congr_left (fun b _ => by simp)).trans (List.map_id _)).symm
  apply ByteArray.ext
  rw [← key]

end Go.Proofs.YtfngadfkopfhcaaGreatDoor

/- Contract: the answer's From. -/
namespace Go.Proofs.YtfngadfkopfhcaaGreatDoor
open Go.RowKit
set_option maxRecDepth 20000
set_option linter.unusedVariables false

/-- A row, changed by the first k changes. -/
def frW (r : List Int) (ts : List (List Bool)) (k : Nat) : List Int := (ts.take k).foldl (fun r t => by_ r (trow t)) r

/-- All rows from one on. -/
def frL (r : List Int) (ts : List (List Bool)) (k : Nat) : List (List Int) := (List.range (k + 1)).map (fun j => frW r ts j)

theorem frL_succ (r : List Int) (ts : List (List Bool)) (k : Nat) : frL r ts (k + 1) = frL r ts k ++ [frW r ts (k + 1)] := by
  unfold frL
  rw [List.range_succ (n := k + 1), List.map_append]
  rfl

theorem frL_length (r : List Int) (ts : List (List Bool)) (k : Nat) : (frL r ts k).length = k + 1 := by simp [frL]

theorem frW_succ {r : List Int} {ts : List (List Bool)} {k : Nat} (h : k < ts.length) : frW r ts (k + 1) = by_ (frW r ts k) (trow ts[k]) := by
  unfold frW
  rw [List.take_succ_eq_append_getElem h, List.foldl_append]
  rfl

theorem frW_row {r : List Int} {n : Nat} {ts : List (List Bool)} (hr : isRow r) (hn : r.length = n) (hts : ∀ t, t ∈ ts → tsz t = n) (k : Nat) : isRow (frW r ts k) ∧ (frW r ts k).length = n := by
  unfold frW
  have : ∀ (l : List (List Bool)) (x : List Int), isRow x → x.length = n → (∀ t, t ∈ l → tsz t = n) → isRow (l.foldl (fun r t => by_ r (trow t)) x) ∧ (l.foldl (fun r t => by_ r (trow t)) x).length = n := by
    intro l
    induction l with
    | nil => intro x h1 h2 _; exact ⟨h1, h2⟩
    | cons t l ih =>
      intro x h1 h2 h3
      have ht := h3 t (by simp)
      have hl : (trow t).length = n := by rw [trow_length]; exact ht
      exact ih (by_ x (trow t)) (isRow_by h1 (trow_row t) (by rw [hl, h2])) (by rw [by_length, hl]) (fun u hu => h3 u (List.mem_cons_of_mem _ hu))
  exact this _ r hr hn (fun t ht => hts t (List.mem_of_mem_take ht))

set_option maxHeartbeats 4000000 in
theorem rfrom_ok (base : Nat) (rv : Value) (r : List Int) (n : Nat) (cv : Value) (ts : List (List Bool)) (w : World) (hr : isRow r) (hrn : r.length = n) (h1 : 1 ≤ n) (h12 : n ≤ 12) (hown : w.ownsRow base 3 1 rv n (r.map (Value.int .i64))) (hts : ∀ t, t ∈ ts → tsz t = n) (hl1 : 1 ≤ ts.length) (hl2 : ts.length ≤ 1000) (hc : IntsAll w cv (ts.map tpl)) (hbase : base ≤ w.heap.size) :
    Calls Tryz.prog 14 #[rv, cv] w fun e w' => ∃ v vs, e = .returned v ∧ LL w' base v vs (frL r ts ts.length) ∧ w'.ownsRow w.heap.size 30 1 v vs.length vs ∧ Below w.heap.size w w' := by
  obtain ⟨i0, hi, hz0, hz1, hz2⟩ := info_parts Tryz.info30
  obtain ⟨b, off, cap, hve, hbl, hc1, hc2, hcell⟩ := hc.cell (by rw [List.length_map]; omega)
  rw [List.length_map] at hve hc1 hcell
  subst hve
  obtain ⟨m, hm⟩ : ∃ m, Hid (ts.length = m) := ⟨_, rfl⟩
  rw [hm.out] at hc1 hl1 hl2 hcell
  have HCE := hide hcell
  have HTS := hide hts
  have HRW := hide (fun k => frW_row hr hrn hts k)
  obtain ⟨g0, rc0, rfl, hg01, hg02, hrc01, hrc02⟩ := owns_form hown (by omega)
  have HO := hide hown
  rw [hm.out]
  have HL0 : Hid (LL (w.alloc (.cells #[.slice (some ⟨g0, 0, none⟩) n rc0] 30)) base (.slice (some ⟨w.heap.size, 0, none⟩) 1 1) [.slice (some ⟨g0, 0, none⟩) n rc0] (frL r ts 0)) := by
    have : frL r ts 0 = [r] := by simp [frL, frW]
    rw [this]
    exact LL.one (X := r) (by rw [hrn]; exact hown) hbase
  have HR0 : Hid ((w.alloc (.cells #[.slice (some ⟨g0, 0, none⟩) n rc0] 30)).ownsRow base 3 1 (.slice (some ⟨g0, 0, none⟩) n rc0) n ((frW r ts 0).map (Value.int .i64))) := by
    have : frW r ts 0 = r := by simp [frW]
    rw [this]
    exact hown.alloc _
  have HU0 : Hid ((w.alloc (.cells #[.slice (some ⟨g0, 0, none⟩) n rc0] 30)).ownsRow w.heap.size 30 1 (.slice (some ⟨w.heap.size, 0, none⟩) 1 1) (0 + 1) [.slice (some ⟨g0, 0, none⟩) n rc0]) := World.ownsRow_lit w #[.slice (some ⟨g0, 0, none⟩) n rc0] 1 (Nat.le_refl _) (by unfold maxLen; omega) rfl
  have hB0 := (Below.refl w.heap.size w).alloc (Nat.le_refl _) (.cells #[.slice (some ⟨g0, 0, none⟩) n rc0] 30)
  clear hown hcell hts hc hr
  go_enter Tryz.func14, Tryz.ntmps14
  go_wp2
  go_loopw [0, 5, 6] (fun rw u i wr => ∃ (k g c : Nat) (vs : List Value), k ≤ m ∧ i = .int .i64 k ∧ rw = .slice (some ⟨g, 0, none⟩) n c ∧ Hid (vs.length = k + 1) ∧ Hid (LL wr base u vs (frL r ts k)) ∧ Hid (wr.ownsRow w.heap.size 30 1 u (k + 1) vs) ∧ Hid (wr.ownsRow base 3 1 (.slice (some ⟨g, 0, none⟩) n c) n ((frW r ts k).map (Value.int .i64))) ∧ Below w.heap.size w wr) (fun _ _ i _ => m - (intOf i).toNat)
  case atStart => exact ⟨0, g0, rc0, [.slice (some ⟨g0, 0, none⟩) n rc0], by omega, rfl, rfl, (show [Value.slice (some ⟨g0, 0, none⟩) n rc0].length = 0 + 1 from rfl), HL0, HU0, HR0, hB0⟩
  case round =>
    obtain ⟨k, g, rc, vs, hk, rfl, rfl, hlv, hL, hU, hR, hbw⟩ := hrel
    clear HL0 HR0 HU0 hB0
    by_cases hlt : k < m
    · have hlt' : k < ts.length := by rw [hm.out]; exact hlt
      obtain ⟨p, c, hcx, hix⟩ := HCE.out k hlt
      have hbs := hbw.size
      have gx := (hbw.cell (p := ⟨b, off + k, none⟩) (by exact hbl)).trans hcx
      have ht : tsz ts[k] = n := HTS.out _ (List.getElem_mem hlt')
      have hgk : (ts.map tpl).getD k [] = tpl ts[k] := by simp [List.getD, hlt']
      have hix2 := hix.out
      rw [hgk] at hix2 gx
      have HCR := hide (changeRow_ok ts[k] n _ wr ht h1 h12 (hix2.below hbw))
      have HN := hide (frW_succ (r := r) hlt')
      generalize ts[k] = t at *
      generalize (tpl t).length = pl at *
      have HT0 := hide ht
      clear ht hcx hix hix2 hgk
      go_wp2_with fail
      refine HCR.out.mono ?_
      rintro e w3 ⟨cv3, rfl, hcv3, hb3⟩
      have hrow3 := owns_below hR.out hb3 (Nat.le_refl _)
      have hbw3 := hbw.trans (hb3.mono hbs)
      have hbs3 := hb3.size
      have HBY := hide (rby_own _ cv3 (frW r ts k) (trow t) w3 (Ints.own hrow3) (Ints.own hcv3) (fun j hj => by
        have h9 := trow_mem t ((trow t).getD j 0) (by simp [List.getD, hj])
        rw [(HRW.out k).2, ← HT0.out]
        exact h9) (by rw [(HRW.out k).2]; exact h1) (by rw [trow_length, HT0.out]; omega))
      rw [← HN.out, trow_length, HT0.out] at HBY
      have HL3 := hide (hL.out.below hb3)
      have HU3 := hide (owns_below hU.out hb3 (Nat.le_refl _))
      clear hrow3 hcv3 hb3 hL hU hR HCR hbw gx
      go_wp2_with fail
      refine HBY.out.mono ?_
      rintro e w4 ⟨rn, rfl, hrn4, hb4⟩
      obtain ⟨g', rc', rfl, hg3, hg4, hrc3, hrc4⟩ := owns_form hrn4 (by omega)
      have hL4 := HL3.out.below hb4
      have hbw4 := hbw3.trans (hb4.mono (by omega))
      have hbs4 := hb4.size
      have hrn' := owns_base hrn4 (show base ≤ w3.heap.size by omega)
      have hrow4 := owns_below HU3.out hb4 (Nat.le_refl _)
      have HU4 := hide hrow4
      have HL4 := hide hL4
      have HRN := hide hrn'
      have HRK := hide (HRW.out (k + 1))
      clear hrn4 hrn' hL4 HL3 HU3 HBY hb4 hbw3
      go_wp2_with (at_builtin; refine wpList_append_own _ rfl _ _ 22 rfl w.heap.size 30 i0 (.slice none 0 0) 1 24 Tryz.underlying22 hi hz0 hz1 hz2 rfl (by decide) _ _ _ rfl (hrow4.alloc _) ⟨w4.heap.size, 0, none⟩ 1 1 [.slice (some ⟨g', 0, none⟩) n rc'] rfl rfl ?c1 ?c2 ?c3 ?c4 ?c5 ?_)
      case c1 => exact cell_one_new _ _ _
      case c2 => intro u hu; simp at hu; subst hu; rfl
      case c3 => unfold maxLen; omega
      case c4 => omega
      case c5 => simp; omega
      · intro v' w5 hown5 hgrow _
        have HL5 : Hid (LL w5 base v' (vs ++ [.slice (some ⟨g', 0, none⟩) n rc']) (frL r ts (k + 1))) := by
          rw [frL_succ]
          exact HL4.out.push (X := frW r ts (k + 1)) (by rw [HRK.out.2]; exact HRN.out) (by rw [hlv.out]; exact owns_base hown5 hbase) hgrow
        have HR5 := hide (HL4.out.kept HRN.out hgrow)
        have hB5 : Below w.heap.size w w5 := (hbw4.alloc (by omega) _).grown hgrow (by simp; omega) (fun g hg => (HU4.out.lt g hg).1)
        have HU5 := hide hown5
        clear hown5 hgrow HL4 HRN hrow4 HU4
        go_wp2
        go_roundw
        case rel => exact ⟨k + 1, g', rc', _, by omega, by go_num, rfl, (show (vs ++ [Value.slice (some ⟨g', 0, none⟩) n rc']).length = k + 1 + 1 by rw [List.length_append, hlv.out]; rfl), HL5, HU5, HR5, hB5⟩
        case measure => simp [intOf]; omega
    · obtain rfl : k = m := by omega
      go_wp2
      go_ret
      exact ⟨_, vs, rfl, hL.out, by rw [hlv.out]; exact hU.out, hbw⟩

end Go.Proofs.YtfngadfkopfhcaaGreatDoor

/- Contracts: the answer's MethodLine, Mirrored, Line. -/
namespace Go.Proofs.YtfngadfkopfhcaaGreatDoor
open Go.RowKit
set_option maxRecDepth 20000
set_option linter.unusedVariables false

theorem decS_any (n : Nat) (h : n < 100) (w : World) : Calls Tryz.prog 42 #[.int .i64 n] w fun e w' => e = .returned (.string ⟨(decB n).toArray⟩) ∧ Below w.heap.size w w' := by
  by_cases h0 : n < 10
  · rw [show decB n = [UInt8.ofNat (48 + n)] from by unfold decB; rw [if_pos h0]]
    exact decS_one n h0 w
  · exact decS_two n (by omega) h w

theorem wln_cat (s : ByteArray) (n : Nat) (X : List (List Int)) : (((s ++ ⟨#[124]⟩) ++ ⟨(decB n).toArray⟩) ++ ⟨#[124]⟩) ++ pls X = wln s n X := by
  have h : ∀ (x y : ByteArray), x ++ y = ⟨(x.data.toList ++ y.data.toList).toArray⟩ := fun x y => str_app x.data.toList y.data.toList
  unfold wln joi
  rw [h s, h, h, h]

set_option maxHeartbeats 4000000 in
theorem methodLine_ok (s : ByteArray) (n : Nat) (v : Value) (X : List (List Int)) (w : World) (hs : s.size ≤ 100000) (h2 : n ≤ 12) (hl1 : 1 ≤ X.length) (hl2 : X.length ≤ 200) (hbo : ∀ k, k < X.length → (X.getD k []).length ≤ 12 ∧ ∀ p, p ∈ X.getD k [] → 1 ≤ p ∧ p ≤ 12) (hln : ∀ k, (ptx X k).length ≤ 13 * k) (hps : (pls X).size ≤ 100000)
    (hv : IntsAll w v X) :
    Calls Tryz.prog 19 #[.agg #[.string s, .int .i64 n, v]] w fun e w' => e = .returned (.string (wln s n X)) ∧ Below w.heap.size w w' := by
  obtain ⟨vp, vc, rfl⟩ := hv.len
  have HP := hide (fun W (hb : Below w.heap.size w W) => placesText_ok _ X W (hv.below hb) hl1 hl2 hbo hln)
  rw [show strOfNums (ptx X X.length) = pls X from rfl] at HP
  have HW := hide (wln_cat s n X)
  have HD := hide (fun W => decS_any n (by omega) W)
  have hdl : (⟨(decB n).toArray⟩ : ByteArray).size ≤ 2 := by rw [str_size]; exact decB_length n
  have hb0 := mbe w s n (.slice vp X.length vc)
  have hx0 := Box.start w s n (.slice vp X.length vc) 24
  have c0 := hx0.c0
  have c1 := hx0.c1
  have c2 := hx0.c2
  have hlt := hx0.lt
  have HB0 := hide hb0
  generalize (⟨(decB n).toArray⟩ : ByteArray) = dg at *
  generalize pls X = pt at *
  generalize wln s n X = res at *
  generalize X.length = L at *
  clear hv hbo hln hx0
  go_enter Tryz.func19, Tryz.ntmps19
  go_upto_region 1 with fail
  generalize w.alloc (.cells #[.string s, .int .i64 n, .slice vp L vc] 24) = W at *
  refine wp_region_held_drew (S := fun W' => Below W.heap.size W W') (by kernel_rfl) (Below.refl W.heap.size W).drew (fun hS => ?_)
  refine wpAnyH_take (i := 0) (v := .pointer (some ⟨w.heap.size, 0, none⟩)) rfl (by kernel_rfl) (by kernel_rfl) (by kernel_rfl) (fun _ _ _ h => h) (Or.inl ⟨by kernel_rfl, fun w' hS' => by clear hS'; go_simp⟩) hS ?_
  refine wpAnyH_take (i := 1) (v := .string s) rfl (by kernel_rfl) (by kernel_rfl) (by kernel_rfl) (fun _ _ _ h => h) (Or.inl ⟨by kernel_rfl, fun w' hS' => by have q0 := (hS'.cell (p := ⟨w.heap.size, 0, none⟩) hlt).trans c0; clear hS'; go_simp⟩) hS ?_
  refine wpAnyH_take (i := 2) (v := .string (s ++ ⟨#[124]⟩)) rfl (by kernel_rfl) (by kernel_rfl) (by kernel_rfl) (fun _ _ _ h => h) (Or.inl ⟨by kernel_rfl, fun w' hS' => by clear hS'; go_simp; omega⟩) hS ?_
  refine wpAnyH_take (i := 3) (v := .pointer (some ⟨w.heap.size, 1, none⟩)) rfl (by kernel_rfl) (by kernel_rfl) (by kernel_rfl) (fun _ _ _ h => h) (Or.inl ⟨by kernel_rfl, fun w' hS' => by clear hS'; go_simp⟩) hS ?_
  refine wpAnyH_take (i := 4) (v := .int .i64 (n : Int)) rfl (by kernel_rfl) (by kernel_rfl) (by kernel_rfl) (fun _ _ _ h => h) (Or.inl ⟨by kernel_rfl, fun w' hS' => by have q1 := (hS'.cell (p := ⟨w.heap.size, 1, none⟩) hlt).trans c1; clear hS'; go_simp⟩) hS ?_
  refine wpAnyH_take (i := 8) (v := .pointer (some ⟨w.heap.size, 2, none⟩)) rfl (by kernel_rfl) (by kernel_rfl) (by kernel_rfl) (fun _ _ _ h => h) (Or.inl ⟨by kernel_rfl, fun w' hS' => by clear hS'; go_simp⟩) hS ?_
  refine wpAnyH_take (i := 9) (v := .slice vp L vc) rfl (by kernel_rfl) (by kernel_rfl) (by kernel_rfl) (fun _ _ _ h => h) (Or.inl ⟨by kernel_rfl, fun w' hS' => by have q1 := (hS'.cell (p := ⟨w.heap.size, 2, none⟩) hlt).trans c2; clear hS'; go_simp⟩) hS ?_
  refine wpAnyH_ready (rs := [5]) (by kernel_rfl) (by simp) ?_
  refine AllReadyH.cons rfl (fun K hK => ?_) AllReadyH.nil
  go_simp
  refine (HD.out _).mono ?_
  rintro e w1 ⟨rfl, hb1⟩
  have hb1' : Below W.heap.size W w1 := Below.trans hS hb1
  refine hK.out _ _ hb1' (fun hS => ?_)
  clear hK hb1
  have HS1 := hide hb1'
  refine wpAnyH_take (i := 6) (v := .string ((s ++ ⟨#[124]⟩) ++ dg)) rfl (by kernel_rfl) (by kernel_rfl) (by kernel_rfl) (fun _ _ _ h => h) (Or.inl ⟨by kernel_rfl, fun w' hS' => by clear hS'; go_simp; omega⟩) hS ?_
  refine wpAnyH_take (i := 7) (v := .string (((s ++ ⟨#[124]⟩) ++ dg) ++ ⟨#[124]⟩)) rfl (by kernel_rfl) (by kernel_rfl) (by kernel_rfl) (fun _ _ _ h => h) (Or.inl ⟨by kernel_rfl, fun w' hS' => by clear hS'; go_simp; omega⟩) hS ?_
  refine wpAnyH_ready (rs := [10]) (by kernel_rfl) (by simp) ?_
  refine AllReadyH.cons rfl (fun K hK => ?_) AllReadyH.nil
  go_simp
  refine (HP.out _ (HB0.out.trans (HS1.out.mono HB0.out.size))).mono ?_
  rintro e w' ⟨rfl, rfl⟩
  refine hK.out _ _ HS1.out (fun hS => ?_)
  clear hK
  refine wpAnyH_take (i := 11) (v := .string res) rfl (by kernel_rfl) (by kernel_rfl) (by kernel_rfl) (fun _ _ _ h => h) (Or.inl ⟨by kernel_rfl, fun w' hS' => by clear hS'; rw [← HW.out]; go_simp; omega⟩) hS ?_
  refine wpAnyH_take (i := 12) (v := .string res) rfl (by kernel_rfl) (by kernel_rfl) (by kernel_rfl) (fun _ _ _ h => h) (Or.inl ⟨by kernel_rfl, fun w' hS' => by clear hS'; go_simp⟩) hS ?_
  refine wpAnyH_done (by kernel_rfl) ?_ _
  go_wp2
  go_ret
  exact ⟨rfl, HB0.out.trans (HS1.out.mono HB0.out.size)⟩

end Go.Proofs.YtfngadfkopfhcaaGreatDoor
