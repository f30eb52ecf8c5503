/- The walk of GroupNormal where both groups have as many bells: it answers true at every input. -/
import Derived.Test.YtbddhpbeekioiaaGNormA
namespace Go.Proofs.Ytbddhpbeekioiaa
open Go.RowKit

theorem step_look_is {ops : Array Oper} {o : Oper} {a : Act} {w : World} {K : Act → World → Prop} {Q : Exit → Act → World → Prop} {E : Prop} (hw : Region.wanted o (yielded ops a.tmps) = true) (m x : Operand) (t : TypeId) (hop : o.op = Op.lookup t m x false) (e : TypeId) (ht : Try.prog.underlying t = some (.map 3 e)) {z : Value} (hz : (zeroValue e).run Try.prog w = .ok z w)
    {b n : Nat} {f : Int → Option Value} (h : IMap w b n f) (k : Int) (hm : a.eval m = .map (some b)) (hx : a.eval x = .int .i64 k) (h1 : -9223372036854775808 ≤ k) (h2 : k ≤ 9223372036854775807) {v : Value} (hv : (f k).getD z = v)
    (hK : K (a.put o.dst v) w) : if Region.wanted o (yielded ops a.tmps) = true then Oper.wp Try.prog o a w K Q else E := by
  subst hv
  rw [if_pos hw]
  have hrun := h.look ht hz h1 h2
  unfold Oper.wp
  simp [execOp, hop, hm, hx, hrun, Result.andThen]
  exact hK

theorem Closed.form {n most : Nat} {xss : List (List Int)} {w w' : World} {e : Ending} (h : ClosedPost n xss most w e w') (h12 : n ≤ 12) (hr : RowsN n xss) (hm : fct n ≤ most) :
    Below w.heap.size w w' ∧ ∃ p c vw S, e = .returned (.tuple #[.slice p S.length c, vw]) ∧ IntsAll w' (.slice p S.length c) (S.map (fun e => cut n e.1)) ∧ Run (letters 0 xss) S.length S ∧ S.length ≤ fct n := by
  obtain ⟨hb, ⟨vr, vw, S, rfl, h1, _, h2, _⟩ | ⟨_, S, h1, h2⟩⟩ := h
  · have hf := h1
    obtain ⟨vs, hv, hl, _⟩ := h1
    obtain ⟨p, c, rfl⟩ := hv.form
    rw [hl, List.length_map] at hf
    exact ⟨hb, p, c, vw, S, by rw [hl, List.length_map], hf, h2, h2.ok.few h12 hr⟩
  · have := h1.few h12 hr
    omega

set_option maxRecDepth 20000 in
set_option maxHeartbeats 16000000 in
theorem gnorm_same (v : Value) (xs : List Int) (a1 a2 a3 : Int) (w : World) (h : Ints w v xs) (hx : ∀ x, x ∈ xs → I64 x) (hl : xs.length ≤ 256) (i1 : I64 a1) (i2 : I64 a2) (i3 : I64 a3) :
    Calls Try.prog 6 #[v, .int .i64 a1, .int .i64 a2, .int .i64 a3, .bool false] w fun e w' => Told w e w' := by
  obtain ⟨i0, hi, hz0, hz1, hz2⟩ := info_parts Try.info22
  have hmm := @run_makeMap Try.prog
  have HI := hide h
  have HX := hide hx
  obtain ⟨p, c, rfl⟩ := h.form
  obtain ⟨l1, r1⟩ := i1
  obtain ⟨l2, r2⟩ := i2
  obtain ⟨l3, r3⟩ := i3
  have q1 := run_ptr_ne
  have hl' : ¬ ((256 : Int) < (xs.length : Int)) := by omega
  clear h hx
  go_enter Try.func6, Try.ntmps6
  go_wp2_with fail
  refine (pick_any a1 5 _ l1 r1 (by omega) (by omega)).mono ?_
  rintro ex wp ⟨k1, k1a, k1b, rfl, rfl⟩
  obtain ⟨n0, rfl⟩ := Int.eq_ofNat_of_zero_le k1a
  obtain ⟨n, hn⟩ : ∃ n : Nat, n = n0 + 1 := ⟨_, rfl⟩
  have hnI : (1 : Int) + (n0 : Int) = (n : Int) := by omega
  have h1 : 1 ≤ n := by omega
  have h5 : n ≤ 5 := by omega
  have h12 : n ≤ 12 := by omega
  clear hn k1a k1b l1 r1
  go_wp2_with fail
  refine (pick_any a2 4 _ l2 r2 (by omega) (by omega)).mono ?_
  rintro ex wp ⟨k2, k2a, k2b, rfl, rfl⟩
  obtain ⟨m, rfl⟩ := Int.eq_ofNat_of_zero_le k2a
  have hm4 : m < 4 := by omega
  have HR1 : Hid (Calls Try.prog 43 #[.slice p xs.length c, .int .i64 0, .int .i64 n, .int .i64 m] w fun e w' => ∃ u vs xss, e = .returned u ∧ RowsRel w w' n m u vs xss) := rowsOf_ok2 (.slice p xs.length c) xs 0 n m w HI.out HX.out (by omega) h1 h12 (by omega)
  clear k2a k2b l2 r2
  go_wp2_with fail
  refine HR1.out.mono ?_
  rintro ex w1 ⟨u1, vs1, gss, rfl, hR1⟩
  have hB1 := hR1.below
  have hs1 := hB1.size
  have HGN1 := hide (Gens.made (w := w) hR1 (Nat.le_refl _))
  clear HR1 hR1
  go_wp2_with fail
  refine (pick_any a3 3 _ l3 r3 (by omega) (by omega)).mono ?_
  rintro ex wp ⟨k3, k3a, k3b, rfl, rfl⟩
  obtain ⟨f, rfl⟩ := Int.eq_ofNat_of_zero_le k3a
  have hf3 : f < 3 := by omega
  have HR2 : Hid (Calls Try.prog 43 #[.slice p xs.length c, .int .i64 5, .int .i64 n, .int .i64 f] w1 fun e w' => ∃ u vs xss, e = .returned u ∧ RowsRel w1 w' n f u vs xss) := rowsOf_ok2 (.slice p xs.length c) xs 5 n f w1 (HI.out.below hB1) HX.out (by omega) h1 h12 (by omega)
  clear k3a k3b l3 r3
  go_wp2_with fail
  refine HR2.out.mono ?_
  rintro ex w2 ⟨u2, vs2, sss, rfl, hR2⟩
  have hb2 := hR2.below
  have hB2 : Below w.heap.size w w2 := hB1.trans (hb2.mono hs1)
  have hs2 := hb2.size
  have HGN2 := hide (Gens.made (w := w) hR2 hs1)
  have HGN1b := hide (HGN1.out.later hb2)
  have hgl : gss.length = m := HGN1.out.size
  have hsl : sss.length = f := HGN2.out.size
  have HM5 := hide (make_ok n u1 gss w2 HGN1b.out.ints h1 h12 (by omega) HGN1.out.rows)
  clear HR2 hR2 HGN1
  go_wp2_with fail
  refine HM5.out.mono ?_
  rintro ex w5 ⟨g5, rfl, hG5, hb5⟩
  have hB5 : Below w.heap.size w w5 := hB2.trans (hb5.mono hB2.size)
  have hs5 := hb5.size
  have HG5 := hide hG5
  have HA5 := hide (HGN1b.out.later hb5)
  have HS5 := hide (HGN2.out.later hb5)
  obtain ⟨gb1, _, _, _, _, _, _, rfl, _⟩ := hG5
  clear HM5 HGN1b HGN2 hb2 hB1 hB2
  have HM6 := hide (make_ok n u2 sss w5 HS5.out.ints h1 h12 (by omega) HS5.out.rows)
  go_wp2_with fail
  refine HM6.out.mono ?_
  rintro ex w7 ⟨h7, rfl, hH7, hb7⟩
  have hB7 : Below w.heap.size w w7 := hB5.trans (hb7.mono hB5.size)
  have hG7 := HG5.out.below hb7 (Nat.le_refl _)
  have HN := hide (normal_ok n _ h7 _ _ w7 h12 hG7 hH7 (by rw [List.length_map]; omega) (by rw [List.length_map]; omega))
  have HA7 := hide (HA5.out.later hb7)
  have HS7 := hide (HS5.out.later hb7)
  obtain ⟨gb2, _, _, _, _, _, _, rfl, _⟩ := hH7
  clear HM6 HG5 hG7 hb7 HA5 HS5
  go_wp2_with fail
  refine HN.out.mono ?_
  rintro ex w8 ⟨r, cd, rfl, hcase, hb8⟩
  have HCASE := hide hcase
  have hB8 : Below w.heap.size w w8 := hB7.trans (hb8.mono hB7.size)
  have hA8 := HA7.out.later hb8
  have hS8 := HS7.out.later hb8
  have hfc := fct_five h5
  have HC1 : Hid (Calls Try.prog 47 #[.int .i64 n, u1, .int .i64 5040] w8 fun e w' => ClosedPost n gss 5040 w8 e w') := closed_ok n 5040 u1 gss w8 hA8.ints hA8.rows h1 h12 (by omega) (by omega) (by omega)
  have HA8 := hide hA8
  have HS8 := hide hS8
  clear HN hcase HA7 HS7 hb8 hA8 hS8
  go_wp2_with fail
  refine HC1.out.mono ?_
  rintro ex w9 hp9
  obtain ⟨hb9, pa, ca, vw1, S1, rfl, hI1, hR1, hl1⟩ := Closed.form hp9 h12 HA8.out.rows (by omega)
  have hB9 : Below w.heap.size w w9 := hB8.trans (hb9.mono hB8.size)
  have hA9 := HA8.out.later hb9
  have hS9 := HS8.out.later hb9
  have HC2 : Hid (Calls Try.prog 47 #[.int .i64 n, u2, .int .i64 5040] w9 fun e w' => ClosedPost n sss 5040 w9 e w') := closed_ok n 5040 u2 sss w9 hS9.ints hS9.rows h1 h12 (by omega) (by omega) (by omega)
  have HA9 := hide hA9
  have HS9 := hide hS9
  have HI1 := hide hI1
  have HR1 := hide hR1
  clear HC1 hp9 HA8 HS8 hb9 hA9 hS9 hI1 hR1
  go_wp2_with fail
  refine HC2.out.mono ?_
  rintro ex w10 hp10
  obtain ⟨hb10, ps, cs, vw2, S2, rfl, hI2, hR2, hl2⟩ := Closed.form hp10 h12 HS9.out.rows (by omega)
  have hB10 : Below w.heap.size w w10 := hB9.trans (hb10.mono hB9.size)
  have hA10 := HA9.out.later hb10
  have hS10 := HS9.out.later hb10
  have HZ1 := hide (sizes_ok n u1 gss w10 hA10.ints hA10.rows h1 h12 (by omega))
  have HA10 := hide hA10
  have HS10 := hide hS10
  have HI1' := hide (HI1.out.below hb10)
  have HI2 := hide hI2
  have HR2 := hide hR2
  clear HC2 hp10 HA9 HS9 HI1 hb10 hA10 hS10 hI2 hR2
  obtain ⟨s1, hs1e⟩ : ∃ s1, s1 = sz (Gen (fun y => y ∈ gss.map pad)) n := ⟨_, rfl⟩
  rw [← hs1e] at HZ1
  have HS1E := hide hs1e
  clear hs1e
  go_wp2_with fail
  refine HZ1.out.mono ?_
  rintro ex w11 ⟨rfl, hb11⟩
  have hB11 : Below w.heap.size w w11 := hB10.trans (hb11.mono hB10.size)
  have hA11 := HA10.out.later hb11
  have hS11 := HS10.out.later hb11
  have HI1b := hide (HI1'.out.below hb11)
  have HI2b := hide (HI2.out.below hb11)
  have hE : Hid ((w11.alloc (.cells #[] 22)).ownsRow w11.heap.size 22 1 (.slice (some ⟨w11.heap.size, 0, none⟩) 0 0) 0 []) := World.ownsRow_made w11 #[] 0 (Nat.le_refl _) (by decide) (by simp)
  have hal : Below w11.heap.size w11 (w11.alloc (.cells #[] 22)) := (Below.refl _ _).alloc (Nat.le_refl _) _
  have HA12 := hide (hA11.later hal)
  have HON1 := hide (OwnAll.cells hA11.all)
  have HON2 := hide (OwnAll.cells hS11.all)
  have HA11 := hide hA11
  have HS11 := hide hS11
  have HAL := hide hal
  clear HZ1 HA10 HS10 HI1' HI2 hb11 hA11 hS11 hal
  go_wp2_with (at_builtin; refine wpList_append_more rfl _ _ 25 rfl w11.heap.size w.heap.size 22 i0 (.slice none 0 0) 24 Try.underlying25 hi hz0 hz1 hz2 rfl _ 0 [] rfl hE.out u1 m vs1 rfl HA12.out.row HON1.out ?c3 ?c4 ?c5 ?_)
  case c3 => unfold maxLen; omega
  case c4 => omega
  case c5 => simp
  intro v13 w13 hown13 hg13
  have hb13 : Below w11.heap.size w11 w13 := HAL.out.grown hg13 (by simp) (fun k hk => by have e' : w11.heap.size = k := Option.some.inj hk; omega)
  have HS13 := hide (HS11.out.later hb13)
  have hs13 := hb13.size
  have HB13 := hide hb13
  have HO13 := hide hown13
  clear hE HAL HA12 hg13 hb13 hown13
  go_wp2_with (at_builtin; refine wpList_append_more rfl _ _ 25 rfl w11.heap.size w.heap.size 22 i0 (.slice none 0 0) 24 Try.underlying25 hi hz0 hz1 hz2 rfl _ m vs1 rfl HO13.out u2 f vs2 rfl HS13.out.row HON2.out ?c3 ?c4 ?c5 ?_)
  case c3 => unfold maxLen; omega
  case c4 => omega
  case c5 => omega
  intro v14 w14 hown14 hg14
  have hb14 : Below w11.heap.size w11 w14 := HB13.out.grown hg14 hs13 (fun k hk => (HO13.out.lt k hk).1)
  have hA14 := HA11.out.later hb14
  have hS14 := HS11.out.later hb14
  have hrow14 : w14.ownsRow w11.heap.size 22 1 v14 (vs1 ++ vs2).length (vs1 ++ vs2) := by
    rw [List.length_append, hA14.len, hS14.len]
    exact hown14
  have hI14 : IntsAll w14 v14 (gss ++ sss) := IntsAll.own (base := w.heap.size) (owns_base hrow14 hB11.size) (OwnAll.join hS14.all hA14.all)
  have HI1c := hide (HI1b.out.below hb14)
  have HI2c := hide (HI2b.out.below hb14)
  have hB14 : Below w.heap.size w w14 := hB11.trans (hb14.mono hB11.size)
  have HZ2 := hide (sizes_ok n v14 (gss ++ sss) w14 hI14 (fun x hx => by rcases List.mem_append.1 hx with hx | hx; exact hA14.rows x hx; exact hS14.rows x hx) h1 h12 (by rw [List.length_append]; omega))
  have htell := sizes_tell h12 hA14.rows hS14.rows
  obtain ⟨s2, hs2e⟩ : ∃ s2, s2 = sz (Gen (fun y => y ∈ (gss ++ sss).map pad)) n := ⟨_, rfl⟩
  rw [← hs2e] at HZ2 htell
  rw [← HS1E.out] at htell
  have HTELL := hide htell
  have HAR := hide hA14.rows
  have HSR := hide hS14.rows
  clear hs2e htell hown14 hg14 hrow14 hI14 hA14 hS14 HA11 HS11 HI1b HI2b HB13 HO13 HS13 hb14 HON1 HON2 HS1E
  go_wp2_with fail
  refine HZ2.out.mono ?_
  rintro ex ws ⟨rfl, hb15⟩
  have hBs : Below w.heap.size w ws := hB14.trans (hb15.mono hB14.size)
  have HIA := hide (HI1c.out.below hb15)
  have HIS := hide (HI2c.out.below hb15)
  have hss := hBs.size
  clear HZ2 hb15 HI1c HI2c
  rcases HCASE.out with ⟨rfl, rfl, y, hy, hny⟩ | ⟨rfl, hall, hrr⟩
  · have hne : (((s2 : Nat) : Int) != ((s1 : Nat) : Int)) = true := by
      rw [bne_iff_ne]
      intro e'
      exact hny (HTELL.out.1 (by omega) y hy)
    clear hy hny HTELL HCASE HIA HIS HR1 HR2
    go_wp2
    go_ret
    exact ⟨rfl, hBs⟩
  · have hne : (((s2 : Nat) : Int) != ((s1 : Nat) : Int)) = false := by
      rw [bne_eq_false_iff_eq]
      have := HTELL.out.2 hall
      omega
    have HRR := hide hrr
    have HM0 := hide (IMap.made ws)
    have hbm : Below ws.heap.size ws (ws.alloc (.map #[] 0)) := (Below.refl _ _).alloc (Nat.le_refl _) _
    clear hall hrr HTELL HCASE
    go_wp2
    go_loopw [26] (fun u26 wr => ∃ k : Nat, k ≤ S2.length ∧ u26 = .int .i64 k ∧ Hid (IMap wr ws.heap.size k (seenOf n (S2.take k))) ∧ Below ws.heap.size ws wr) (fun u26 _ => S2.length - (intOf u26).toNat)
    case atStart => exact ⟨0, by omega, rfl, HM0.out.congr (fun a => by simp [seenOf]), hbm⟩
    case round =>
      clear HM0 hbm
      obtain ⟨k, hk, rfl, HM, hbw⟩ := hrel
      have hbws := hbw.size
      by_cases hkl : k < S2.length
      · obtain ⟨s, hs⟩ : ∃ s, S2[k]? = some s := ⟨_, List.getElem?_eq_getElem hkl⟩
        have hsm := List.mem_of_getElem? hs
        have hsf := HR2.out.ok.fix h12 HSR.out hsm
        obtain ⟨bs, os, hpp, hbs, hNc, hNN, bx, ox, cx, hcx, hix, _, _, _⟩ := (HIS.out.below hbw).nth (j := k) (X := cut n s.1) (n := n) (by rw [List.getElem?_map, hs]; rfl) (cut_length h12 s.1) h1
        clear hNN
        subst hpp
        have HRK := hide (rrank_ok (.slice (some ⟨bx, ox, none⟩) n cx) (cut n s.1) wr hix.out (cut_row h12 hsf) (by rw [cut_length h12]; exact h1) (by rw [cut_length h12]; exact h12))
        have hkk : rkTo (cut n s.1) (cut n s.1).length = rkP n s.1 := by rw [cut_length h12]; rfl
        rw [hkk] at HRK
        have hkb := rkP_le s.1 h12
        have hk1 : -9223372036854775808 ≤ ((rkP n s.1 : Nat) : Int) := by omega
        have hk2 : ((rkP n s.1 : Nat) : Int) ≤ 9223372036854775807 := by omega
        have HTK : Hid (S2.take (k + 1) = S2.take k ++ [s]) := by show _ = _; rw [List.take_add_one, hs]; rfl
        have hkm : k < maxLen := by unfold maxLen; omega
        clear hs hsm hsf hkk hix
        go_wp2_with fail
        refine HRK.out.mono ?_
        rintro ex wk ⟨rfl, hbk⟩
        have HMk := hide (HM.out.below hbk HM.out.lt)
        have hBk : Below ws.heap.size ws wk := hbw.trans (hbk.mono hbw.size)
        clear HRK hbk
        go_wp2_with (at_mapUpdate; refine wpList_put rfl _ _ _ 71 rfl 4 Try.underlying71 HMk.out hkm ((rkP n s.1 : Nat) : Int) (.bool true) rfl rfl rfl hk1 hk2 ?_)
        intro wl hMl hgl2
        have HMl : Hid (IMap wl ws.heap.size (k + 1) (seenOf n (S2.take (k + 1)))) := by
          unfold Hid
          rw [HTK.out]
          exact hMl.congr (fun a => by have := seen_put n (S2.take k) s.1 s.2 a; exact this)
        have hBl : Below ws.heap.size ws wl := hBk.grown hgl2 hBk.size (fun b hb => by injection hb with hb; omega)
        clear hMl hgl2 HMk
        go_wp2
        go_roundw
        case rel => exact ⟨k + 1, by omega, by go_num, HMl, hBl⟩
        case measure => simp [intOf]; omega
      · have hke : k = S2.length := by omega
        have HMs : Hid (IMap wr ws.heap.size S2.length (seenOf n S2)) := by
          have := HM.out
          rw [hke, List.take_length] at this
          exact this
        clear HM hke
        go_wp2
        go_loopw [24, 27] (fun u24 u27 wr => ∃ (i : Nat) (t : Bool), i ≤ S1.length ∧ u27 = .int .i64 i ∧ u24 = .bool t ∧ Hid (PairsTo S1 S2 i 0 t) ∧ Hid (IMap wr ws.heap.size S2.length (seenOf n S2)) ∧ Below ws.heap.size ws wr) (fun _ u27 _ => S1.length - (intOf u27).toNat)
        case atStart => exact ⟨0, true, by omega, rfl, rfl, PairsTo.start _ _, HMs, hbw⟩
        case round =>
          clear HMs hbw hbws
          obtain ⟨i, t, hiS, rfl, rfl, HPT, HM, hbw⟩ := hrel
          by_cases hil : i < S1.length
          · go_wp2
            go_loopw [24, 28] (fun u24 u28 wr => ∃ (j : Nat) (t : Bool), j ≤ S2.length ∧ u28 = .int .i64 j ∧ u24 = .bool t ∧ Hid (PairsTo S1 S2 i j t) ∧ Hid (IMap wr ws.heap.size S2.length (seenOf n S2)) ∧ Below ws.heap.size ws wr) (fun _ u28 _ => S2.length - (intOf u28).toNat)
            case atStart => exact ⟨0, t, by omega, rfl, rfl, HPT, HM, hbw⟩
            case round =>
              clear HPT HM hbw
              obtain ⟨j, t, hj, rfl, rfl, HPT0, HM, hbw⟩ := hrel
              have hbws := hbw.size
              by_cases hjl : j < S2.length
              · cases t with
                | false =>
                  have HPT := hide (HPT0.out.no)
                  clear HPT0
                  go_wp2
                  go_quiet (fail)
                  have HMq := hide (HM.out.below (below_drewN wr nq) HM.out.lt)
                  have hBq : Below ws.heap.size ws (wr.drewN nq) := hbw.trans ((below_drewN wr nq).mono hbw.size)
                  go_wp2
                  go_roundw
                  case rel => exact ⟨j + 1, false, by omega, by go_num, rfl, HPT, HMq, hBq⟩
                  case measure => simp [intOf]; omega
                | true =>
                  obtain ⟨e, he⟩ : ∃ e, S1[i]? = some e := ⟨_, List.getElem?_eq_getElem hil⟩
                  obtain ⟨s, hs⟩ : ∃ s, S2[j]? = some s := ⟨_, List.getElem?_eq_getElem hjl⟩
                  have hem := List.mem_of_getElem? he
                  have hsm := List.mem_of_getElem? hs
                  have hef := HR1.out.ok.fix h12 HAR.out hem
                  have hsf := HR2.out.ok.fix h12 HSR.out hsm
                  obtain ⟨ba, oa, hpa, hba, hNa, hNN1, bx, ox, cx, hcA, hixA, _, _, _⟩ := (HIA.out.below hbw).nth (j := i) (X := cut n e.1) (n := n) (by rw [List.getElem?_map, he]; rfl) (cut_length h12 e.1) h1
                  clear hNN1
                  subst hpa
                  obtain ⟨bs, os, hpb, hbs, hNb, hNN2, by_1, oy, cy, hcB, hixB, _, _, _⟩ := (HIS.out.below hbw).nth (j := j) (X := cut n s.1) (n := n) (by rw [List.getElem?_map, hs]; rfl) (cut_length h12 s.1) h1
                  clear hNN2
                  subst hpb
                  have hesF : Fixes (fun b => n ≤ b) (e.1 * s.1) := (fixes_sub _).mul hef hsf
                  have hcF : Fixes (fun b => n ≤ b) (e.1 * s.1 * (e.1)⁻¹) := (fixes_sub _).mul hesF ((fixes_sub _).inv hef)
                  have HBY : Hid (∀ W, Below wr.heap.size wr W → Calls Try.prog 24 #[.slice (some ⟨bx, ox, none⟩) n cx, .slice (some ⟨by_1, oy, none⟩) n cy] W fun e' w' => ∃ v, e' = .returned v ∧ w'.ownsRow W.heap.size 3 1 v n ((cut n (e.1 * s.1)).map (Value.int .i64)) ∧ Below W.heap.size W w') := by
                    intro W hW
                    have h3 := rby_own (.slice (some ⟨bx, ox, none⟩) n cx) (.slice (some ⟨by_1, oy, none⟩) n cy) (cut n e.1) (cut n s.1) W (hixA.out.below hW) (hixB.out.below hW) (fun j hj => by have := (cut_row h12 hsf).at (j := j) hj; rw [cut_length h12] at this ⊢; exact this) (by rw [cut_length h12]; exact h1) (by rw [cut_length h12]; omega)
                    rw [by_cut h12 hef (cut_row h12 hsf) (cut_length h12 s.1), pad_cut h12 hsf, cut_length h12] at h3
                    exact h3
                  have HUD : Hid (∀ W, Below wr.heap.size wr W → Calls Try.prog 21 #[.slice (some ⟨bx, ox, none⟩) n cx] W fun e' w' => ∃ v zs, e' = .returned v ∧ w'.ownsRow W.heap.size 3 1 v (cut n e.1).length (zs.map (Value.int .i64)) ∧ Undoes zs (cut n e.1) ∧ Below W.heap.size W w') := fun W hW => undo_own (.slice (some ⟨bx, ox, none⟩) n cx) (cut n e.1) W (hixA.out.below hW) (cut_row h12 hef) (by rw [cut_length h12]; exact h1) (by rw [cut_length h12]; exact h12)
                  have HXL := hide (cut_length h12 e.1)
                  have HXR := hide (cut_row h12 hef)
                  have HEF := hide hef
                  have HESF := hide hesF
                  have HCF := hide hcF
                  have HKK : Hid (rkTo (cut n (e.1 * s.1 * (e.1)⁻¹)) (cut n (e.1 * s.1 * (e.1)⁻¹)).length = rkP n (e.1 * s.1 * (e.1)⁻¹)) := by show _ = _; rw [cut_length h12]; rfl
                  have hkb := rkP_le (e.1 * s.1 * (e.1)⁻¹) h12
                  have hk1 : -9223372036854775808 ≤ ((rkP n (e.1 * s.1 * (e.1)⁻¹) : Nat) : Int) := by omega
                  have hk2 : ((rkP n (e.1 * s.1 * (e.1)⁻¹) : Nat) : Int) ≤ 9223372036854775807 := by omega
                  obtain ⟨cc, hcc, hlk⟩ : ∃ cc : Bool, (cc = true ↔ e.1 * s.1 * (e.1)⁻¹ ∈ S2.map (·.1)) ∧ (seenOf n S2 ((rkP n (e.1 * s.1 * (e.1)⁻¹) : Nat) : Int)).getD (.bool false) = .bool cc := by
                    by_cases hin : e.1 * s.1 * (e.1)⁻¹ ∈ S2.map (·.1)
                    · exact ⟨true, ⟨fun _ => hin, fun _ => rfl⟩, by rw [seen_old hin]; rfl⟩
                    · exact ⟨false, ⟨fun h => (by cases h), fun h => absurd h hin⟩, by rw [seen_new h12 (fun x hx => HR2.out.ok.fix h12 HSR.out hx) hcF hin]; rfl⟩
                  have HPT : Hid (PairsTo S1 S2 i (j + 1) cc) := HPT0.out.yes cc (hcc.trans ⟨fun h e' s' he' hs' => by
                    rw [he] at he'; rw [hs] at hs'
                    obtain rfl := Option.some.inj he'
                    obtain rfl := Option.some.inj hs'
                    exact h, fun h => h e s he hs⟩)
                  have HLK := hide hlk
                  have hmlt := HM.out.lt
                  have hSd := below_drew wr
                  clear he hs hem hsm hef hsf hesF hcF hixA hixB hkb hcc hlk HPT0
                  go_wp2
                  refine wp_region_held_drew (S := fun W' => Below wr.heap.size wr W') (by kernel_rfl) (below_drew wr) (fun hS => ?_)
                  refine wpAnyH_take (i := 0) (v := .bool true) rfl (by kernel_rfl) (by kernel_rfl) (by kernel_rfl) (fun _ _ _ h => h) (Or.inl ⟨by kernel_rfl, fun w' hS' => by clear hS'; go_simp⟩) hS ?_
                  refine wpAnyH_take (i := 1) (v := .bool true) rfl (by kernel_rfl) (by kernel_rfl) (by kernel_rfl) (fun _ _ _ h => h) (Or.inl ⟨by kernel_rfl, fun w' hS' => by clear hS'; go_simp⟩) hS ?_
                  refine wpAnyH_take (i := 2) (v := .map (some ws.heap.size)) rfl (by kernel_rfl) (by kernel_rfl) (by kernel_rfl) (fun _ _ _ h => h) (Or.inl ⟨by kernel_rfl, fun w' hS' => by clear hS'; go_simp⟩) hS ?_
                  refine wpAnyH_take (i := 3) (v := .slice (some ⟨ba, oa, none⟩) S1.length ca) rfl (by kernel_rfl) (by kernel_rfl) (by kernel_rfl) (fun _ _ _ h => h) (Or.inl ⟨by kernel_rfl, fun w' hS' => by clear hS'; go_simp⟩) hS ?_
                  refine wpAnyH_take (i := 4) (v := .int .i64 (i : Int)) rfl (by kernel_rfl) (by kernel_rfl) (by kernel_rfl) (fun _ _ _ h => h) (Or.inl ⟨by kernel_rfl, fun w' hS' => by clear hS'; go_simp⟩) hS ?_
                  refine wpAnyH_take (i := 5) (v := .pointer (some ⟨ba, oa + i, none⟩)) rfl (by kernel_rfl) (by kernel_rfl) (by kernel_rfl) (fun _ _ _ h => h) (Or.inl ⟨by kernel_rfl, fun w' hS' => by clear hS'; go_simp⟩) hS ?_
                  refine wpAnyH_take (i := 6) (v := .slice (some ⟨bx, ox, none⟩) n cx) rfl (by kernel_rfl) (by kernel_rfl) (by kernel_rfl) (fun _ _ _ h => h) (Or.inl ⟨by kernel_rfl, fun w' hS' => by have hq := (Below.cell hS' (p := ⟨ba, oa + i, none⟩) (by exact hba)).trans hcA; clear hS'; go_simp⟩) hS ?_
                  refine wpAnyH_take (i := 7) (v := .slice (some ⟨bs, os, none⟩) S2.length cs) rfl (by kernel_rfl) (by kernel_rfl) (by kernel_rfl) (fun _ _ _ h => h) (Or.inl ⟨by kernel_rfl, fun w' hS' => by clear hS'; go_simp⟩) hS ?_
                  refine wpAnyH_take (i := 8) (v := .int .i64 (j : Int)) rfl (by kernel_rfl) (by kernel_rfl) (by kernel_rfl) (fun _ _ _ h => h) (Or.inl ⟨by kernel_rfl, fun w' hS' => by clear hS'; go_simp⟩) hS ?_
                  refine wpAnyH_take (i := 9) (v := .pointer (some ⟨bs, os + j, none⟩)) rfl (by kernel_rfl) (by kernel_rfl) (by kernel_rfl) (fun _ _ _ h => h) (Or.inl ⟨by kernel_rfl, fun w' hS' => by clear hS'; go_simp⟩) hS ?_
                  refine wpAnyH_take (i := 10) (v := .slice (some ⟨by_1, oy, none⟩) n cy) rfl (by kernel_rfl) (by kernel_rfl) (by kernel_rfl) (fun _ _ _ h => h) (Or.inl ⟨by kernel_rfl, fun w' hS' => by have hq := (Below.cell hS' (p := ⟨bs, os + j, none⟩) (by exact hbs)).trans hcB; clear hS'; go_simp⟩) hS ?_
                  refine wpAnyH_take (i := 12) (v := .slice (some ⟨ba, oa, none⟩) S1.length ca) rfl (by kernel_rfl) (by kernel_rfl) (by kernel_rfl) (fun _ _ _ h => h) (Or.inl ⟨by kernel_rfl, fun w' hS' => by clear hS'; go_simp⟩) hS ?_
                  refine wpAnyH_take (i := 13) (v := .int .i64 (i : Int)) rfl (by kernel_rfl) (by kernel_rfl) (by kernel_rfl) (fun _ _ _ h => h) (Or.inl ⟨by kernel_rfl, fun w' hS' => by clear hS'; go_simp⟩) hS ?_
                  refine wpAnyH_take (i := 14) (v := .pointer (some ⟨ba, oa + i, none⟩)) rfl (by kernel_rfl) (by kernel_rfl) (by kernel_rfl) (fun _ _ _ h => h) (Or.inl ⟨by kernel_rfl, fun w' hS' => by clear hS'; go_simp⟩) hS ?_
                  refine wpAnyH_take (i := 15) (v := .slice (some ⟨bx, ox, none⟩) n cx) rfl (by kernel_rfl) (by kernel_rfl) (by kernel_rfl) (fun _ _ _ h => h) (Or.inl ⟨by kernel_rfl, fun w' hS' => by have hq := (Below.cell hS' (p := ⟨ba, oa + i, none⟩) (by exact hba)).trans hcA; clear hS'; go_simp⟩) hS ?_
                  refine wpAnyH_ready (rs := [11]) (by kernel_rfl) (by simp) ?_
                  refine AllReadyH.cons rfl (fun K hK => ?_) AllReadyH.nil
                  go_simp
                  refine (HBY.out _ hSd).mono ?_
                  rintro ex wo ⟨vA, rfl, hoA, hbA⟩
                  obtain ⟨gA, cA, rfl, _, _, _, _⟩ := owns_form hoA h1
                  have iA := Ints.own hoA
                  have hSA : Below wr.heap.size wr wo := Below.trans hSd (hbA.mono hSd.size)
                  refine hK.out _ _ hSA (fun hS => ?_)
                  clear hK
                  refine wpAnyH_ready (rs := [16]) (by kernel_rfl) (by simp) ?_
                  refine AllReadyH.cons rfl (fun K hK => ?_) AllReadyH.nil
                  go_simp
                  refine (HUD.out _ hSA).mono ?_
                  rintro ex wq ⟨vB, zs, rfl, hoB, hzu, hbB⟩
                  rw [HXL.out] at hoB
                  obtain ⟨gB, cB, rfl, _, _, _, _⟩ := owns_form hoB h1
                  have iB := Ints.own hoB
                  have hSq : Below wr.heap.size wr wq := Below.trans hSA (hbB.mono hSA.size)
                  refine hK.out _ _ hSq (fun hS => ?_)
                  clear hK
                  have hzr := isRow_undoes HXR.out hzu
                  have hzl : zs.length = n := hzu.1.trans HXL.out
                  have hpz : pad zs = (e.1)⁻¹ := by rw [pad_undoes (by rw [HXL.out]; exact h12) HXR.out hzu, pad_cut h12 HEF.out]
                  have hyE : by_ (cut n (e.1 * s.1)) zs = cut n (e.1 * s.1 * (e.1)⁻¹) := by rw [by_cut h12 HESF.out hzr hzl, hpz]
                  have HB3 := hide (rby_own (.slice (some ⟨gA, 0, none⟩) n cA) (.slice (some ⟨gB, 0, none⟩) n cB) (cut n (e.1 * s.1)) zs wq (iA.below hbB) iB (fun j hj => by rw [cut_length h12]; have := hzr.at (j := j) hj; rw [hzl] at this; exact this) (by rw [cut_length h12]; exact h1) (by omega))
                  rw [hyE, hzl] at HB3
                  clear hzr hzl hpz hyE hzu
                  refine wpAnyH_ready (rs := [17]) (by kernel_rfl) (by simp) ?_
                  refine AllReadyH.cons rfl (fun K hK => ?_) AllReadyH.nil
                  go_simp
                  refine HB3.out.mono ?_
                  rintro ex wt ⟨vC, rfl, hoC, hbC⟩
                  obtain ⟨gC, cC, rfl, _, _, _, _⟩ := owns_form hoC h1
                  have hSC : Below wr.heap.size wr wt := Below.trans hSq (hbC.mono hSq.size)
                  refine hK.out _ _ hSC (fun hS => ?_)
                  clear hK HB3
                  have HRK := hide (rrank_ok (.slice (some ⟨gC, 0, none⟩) n cC) (cut n (e.1 * s.1 * (e.1)⁻¹)) wt (Ints.own hoC) (cut_row h12 HCF.out) (by rw [cut_length h12]; exact h1) (by rw [cut_length h12]; exact h12))
                  rw [HKK.out] at HRK
                  refine wpAnyH_ready (rs := [18]) (by kernel_rfl) (by simp) ?_
                  refine AllReadyH.cons rfl (fun K hK => ?_) AllReadyH.nil
                  go_simp
                  refine HRK.out.mono ?_
                  rintro ex wu ⟨rfl, hbD⟩
                  have hSD : Below wr.heap.size wr wu := Below.trans hSC (hbD.mono hSC.size)
                  refine hK.out _ _ hSD (fun hS => ?_)
                  clear hK HRK hoC hbC hbD hSC
                  have hMD := HM.out.below hSD hmlt
                  refine wpAnyH_ready (rs := [19]) (by kernel_rfl) (by simp) ?_
                  refine AllReadyH.cons rfl (fun K hK => ?_) AllReadyH.nil
                  refine step_look_is (by kernel_rfl) _ _ 71 rfl 4 Try.underlying71 (Try.zero4 _) hMD ((rkP n (e.1 * s.1 * (e.1)⁻¹) : Nat) : Int) rfl rfl hk1 hk2 HLK.out ?_
                  refine hK.out _ _ hSD (fun hS => ?_)
                  clear hK
                  refine wpAnyH_take (i := 20) (v := .bool cc) rfl (by kernel_rfl) (by kernel_rfl) (by kernel_rfl) (fun _ _ _ h => h) (Or.inl ⟨by kernel_rfl, fun w' _ => by go_simp⟩) hS ?_
                  refine wpAnyH_take (i := 21) (v := .bool cc) rfl (by kernel_rfl) (by kernel_rfl) (by kernel_rfl) (fun _ _ _ h => h) (Or.inl ⟨by kernel_rfl, fun w' _ => by go_simp⟩) hS ?_
                  refine wpAnyH_done (by kernel_rfl) ?_ _
                  have hBD : Below ws.heap.size ws wu := hbw.trans (hSD.mono hbw.size)
                  have HMD := hide hMD
                  clear hMD hSD hS iA iB
                  go_wp2
                  go_roundw
                  case rel => exact ⟨j + 1, cc, by omega, by go_num, rfl, HPT, HMD, hBD⟩
                  case measure => simp [intOf]; omega
              · have hje : j = S2.length := by omega
                have HPT : Hid (PairsTo S1 S2 (i + 1) 0 t) := by have := HPT0.out; rw [hje] at this; exact this.next
                clear hje HPT0
                go_wp2
                go_roundw
                case rel => exact ⟨i + 1, t, by omega, by go_num, rfl, HPT, HM, hbw⟩
                case measure => simp [intOf]; omega
          · have hie : i = S1.length := by omega
            have hpt := HPT.out
            rw [hie] at hpt
            have htr := hpt.tell HR1.out HR2.out
            have hrt : r = t := by
              rw [Bool.eq_iff_iff]
              exact HRR.out.trans htr.symm
            subst hrt
            have hBf : Below w.heap.size w wr := hBs.trans (hbw.mono hBs.size)
            clear hie hpt htr HPT
            have hrr2 : (r == r) = true := by simp
            go_wp2
            go_ret
            exact ⟨rfl, hBf⟩

end Go.Proofs.Ytbddhpbeekioiaa
