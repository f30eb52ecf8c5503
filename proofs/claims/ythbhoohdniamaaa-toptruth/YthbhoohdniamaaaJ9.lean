/- Joined: TtQ, TtR, TtL, TtB, TtF. -/
import Derived.Test.YthbhoohdniamaaaJ7
import Derived.Test.YthbhoohdniamaaaJ8
import Derived.Laws.ResultCell
import Derived.Test.YthbhoohdniamaaaJ4
/- Contract: call.Rows. -/
namespace Go.Proofs.Ythbhoohdniamaaa
open Go.RowKit

theorem Try.info24 : (Try.prog.info? 24).map (fun i => (i.zero, i.size, i.bytes)) = some (some (.slice none 0 0), 1, 24) := by kernel_rfl

/-- The leads of the calls, as rows. -/
structure LLL (ts : List (List Bool)) (SS : List (List (List Bool))) (w : World) (base : Nat) (v : Value) (us : List Value) : Prop where
  row : w.ownsRow base 24 1 v us.length us
  all : ∀ k, k < us.length → ∃ vs, LL w base (us.getD k undef) vs ((calledBy ts (SS.getD k [])).map trow)

theorem LLL.nil (ts : List (List Bool)) (SS : List (List (List Bool))) (w : World) (base : Nat) : LLL ts SS w base (.slice none 0 0) [] := ⟨World.ownsRow_nil _ _ _ _, fun k hk => by simp at hk⟩

theorem LLL.below {ts : List (List Bool)} {SS : List (List (List Bool))} {w w' : World} {base : Nat} {v : Value} {us : List Value} (h : LLL ts SS w base v us) (hb : Below w.heap.size w w') : LLL ts SS w' base v us :=
  ⟨owns_below h.row hb (Nat.le_refl _), fun k hk => by obtain ⟨vs, hv⟩ := h.all k hk; exact ⟨vs, hv.below hb⟩⟩

theorem LLL.push {ts : List (List Bool)} {SS : List (List (List Bool))} {w w4 : World} {base : Nat} {v v' u : Value} {us vs : List Value} {o : Obj} (h : LLL ts SS w base v us) (hu : LL w base u vs ((calledBy ts (SS.getD us.length [])).map trow))
    (hown : w4.ownsRow base 24 1 v' (us.length + 1) (us ++ [u])) (hg : (w.alloc o).grownBy w4 v.ownBlock) : LLL ts SS w4 base v' (us ++ [u]) := by
  have keep : ∀ {x : Value} {ys : List Value} {X : List (List Int)}, LL w base x ys X → LL w4 base x ys X := fun hx =>
    ⟨owns_call (hx.row.alloc o) (h.row.alloc o) hg (by decide), hx.all.mono (fun _ _ _ h' => owns_call (h'.alloc o) (h.row.alloc o) hg (by decide))⟩
  refine ⟨by rw [List.length_append]; exact hown, fun k hk => ?_⟩
  rw [List.length_append, List.length_singleton] at hk
  by_cases hlt : k < us.length
  · obtain ⟨ys, hy⟩ := h.all k hlt
    refine ⟨ys, ?_⟩
    rw [show (us ++ [u]).getD k undef = us.getD k undef from by simp [List.getD, List.getElem?_append_left hlt]]
    exact keep hy
  · obtain rfl : k = us.length := by omega
    refine ⟨vs, ?_⟩
    rw [show (us ++ [u]).getD us.length undef = u from by simp [List.getD]]
    exact keep hu

/-- All changes of a touch. -/
def allOf (ts : List (List Bool)) (SS : List (List (List Bool))) (ls : List Int) : List (List Bool) := (ls.map (fun l => calledBy ts (SS.getD l.toNat []))).flatten

/-- Rows in the making, and the last of them. -/
structure RR (base n : Nat) (F : List (List Bool)) (w : World) (k : Nat) (r rows : Value) (vs : List Value) : Prop where
  ll : LL w base rows vs (leadTo n F k)
  row : w.ownsRow base 3 1 r n ((prd n (F.take k)).map (Value.int .i64))

theorem flat_next {α : Type} {K : Nat} (G : List (List α)) (hG : ∀ g, g ∈ G → g.length = K) {i q : Nat} (hi : i < G.length) {g : List α} (hg : G[i] = g) (hq : q < g.length) : G.flatten.take (i * K + q + 1) = G.flatten.take (i * K + q) ++ [g[q]] := by
  have h1 := flat_drop G i hG hi
  rw [hg] at h1
  rw [Nat.add_assoc, take_more _ (i * K) (q + 1), take_more _ (i * K) q, h1, List.append_assoc, List.take_append_of_le_length (by omega), List.take_append_of_le_length (by omega), List.take_succ_eq_append_getElem hq]

set_option maxRecDepth 20000 in
set_option maxHeartbeats 4000000 in
theorem crows_ok (s : ByteArray) (n : Nat) (vp : Option Addr) (vc : Nat) (ts : List (List Bool)) (cv : Value) (cs : List (Int × List (List Int))) (SS : List (List (List Bool))) (lv : Value) (ls : List Int) (w : World) (hs : s.size ≤ 9223372036854775807) (hn : nm s = true) (h1 : 2 ≤ n) (h2 : n ≤ 12) (hl1 : 1 ≤ ts.length) (hl2 : ts.length ≤ 200)
    (hts : ∀ t, t ∈ ts → tsz t = n) (hv : IntsAll w (.slice vp ts.length vc) (ts.map tpl)) (hcv : CallsAt w cv cs) (hco : CallsOk n ts.length cs) (hc1 : 1 ≤ cs.length) (hc2 : cs.length ≤ 8)
    (hSS : ∀ c, c < cs.length → (cs.getD c (0, [])).2 = (SS.getD c []).map tpl ∧ (∀ t, t ∈ SS.getD c [] → tsz t = n) ∧ (SS.getD c []).length ≤ ts.length)
    (hl : Ints w lv ls) (hN1 : 1 ≤ ls.length) (hN2 : ls.length ≤ 400) (hin : ∀ l, l ∈ ls → 0 ≤ l ∧ l < (cs.length : Int)) (hm : ls.length * ts.length ≤ 20000) :
    Calls Try.prog 23 #[meth s n (.slice vp ts.length vc), cv, lv] w (RowsPost (leadTo n (allOf ts SS ls) (ls.length * ts.length)) w) := by
  obtain ⟨i0, hi0, hz0, hz1, hz2⟩ := info_parts Try.info24
  obtain ⟨j0, hji, hq0, hq1, hq2⟩ := info_parts Try.info22
  have hB0 : Below w.heap.size w (w.alloc (.cells #[.string s, .int .i64 n, .slice vp ts.length vc] 26)) := (Below.refl _ _).alloc (Nat.le_refl _) _
  have hmay := may_ok s n vp vc (ts.map tpl) cv cs lv ls (w.alloc (.cells #[.string s, .int .i64 n, .slice vp ts.length vc] 26)) hs hn h1 h2 (by rw [List.length_map]; exact hl1) (by rw [List.length_map]; exact hl2) (by rw [List.length_map]; exact hv.below hB0) (fun k hk => tile_ok hts hk) (hcv.below hB0) (by rw [List.length_map]; exact hco) hc1 hc2 (hl.below hB0) hN1 hN2 hin (by rw [List.length_map]; exact hm)
  rw [List.length_map] at hmay
  have HM := hide hmay
  have hbox := Box.start w s n (.slice vp ts.length vc) 26
  obtain ⟨b, off, cap, rfl, hb, hlc, hcm, hcell⟩ := hcv
  obtain ⟨lp, lc, rfl⟩ := hl.form
  have HC := hide hcell
  have HSS := hide hSS
  have HBX := hide hbox
  have HI := hide hl
  have HIN := hide hin
  have HTS := hide hts
  have HV := hide hv
  clear hmay hbox hcell hSS hin hts hv hn hco hl
  unfold meth at HM
  unfold meth
  go_enter Try.func23, Try.ntmps23
  go_wp2_with fail
  refine HM.out.mono ?_
  rintro e w1 ⟨rfl, hb1⟩
  have hB1 : Below w.heap.size w w1 := hB0.trans (hb1.mono (by simp))
  have HX1 := hide (HBX.out.below hb1)
  clear HM HBX hb1 hB0
  go_wp2
  go_loopw [9, 28] (fun hv i wr => ∃ (j : Nat) (us : List Value), j ≤ cs.length ∧ i = .int .i64 j ∧ Hid (us.length = j) ∧ Hid (LLL ts SS wr (w.heap.size + 1) hv us) ∧ Hid (Box wr w.heap.size s n (.slice vp ts.length vc)) ∧ Below w.heap.size w wr) (fun _ i _ => cs.length - (intOf i).toNat)
  case atStart => exact ⟨0, [], by omega, rfl, (show ([] : List Value).length = 0 from rfl), LLL.nil _ _ _ _, HX1, hB1⟩
  case round =>
    clear HX1 hB1
    obtain ⟨j, us, hj, rfl, hul, hL, hX, hbw⟩ := hrel
    have hbs := hbw.size
    have hxl := hX.out.lt
    obtain ⟨hp, hc, rfl⟩ := owns_slice hL.out.row
    have hul2 := hul.out
    by_cases hlt : j < cs.length
    · obtain ⟨u, a1, a2, a3⟩ := HC.out j hlt
      obtain ⟨s1, s2, s3⟩ := HSS.out j hlt
      have g1 : wr.cell? ⟨b, off + j * 2, none⟩ = some (.int .i32 (cs.getD j (0, [])).1) := (hbw.cell (by exact hb)).trans a1
      have g2 : wr.cell? ⟨b, off + j * 2 + 1, none⟩ = some u := (hbw.cell (p := ⟨b, off + j * 2 + 1, none⟩) (by exact hb)).trans a2
      rw [s1] at a3
      obtain ⟨up, uc, rfl⟩ := a3.len
      rw [List.length_map] at a3 g2
      have b0 := hX.out.c0
      have b1 := hX.out.c1
      have b2 := hX.out.c2
      have HLO := hide (fun W (hW : Below w.heap.size w W) => leadOf_ok s n vp vc ts (cs.getD j (0, [])).1 up uc (SS.getD j []) W (by omega) h2 hl1 hl2 HTS.out (HV.out.below hW) s2 (a3.below hW) s3)
      clear a1 a2 a3 s1 s2 s3
      generalize (cs.getD j (0, [])).1 = sg at *
      rw [hul2]
      unfold meth at HLO
      have HBA := hide (hbw.alloc hbs (.cells #[.int .i32 sg, .slice up (SS.getD j []).length uc] 54))
      have HXA := hide (hX.out.below ((Below.refl _ _).alloc (Nat.le_refl _) (.cells #[.int .i32 sg, .slice up (SS.getD j []).length uc] 54)))
      have HLA := hide (hL.out.below ((Below.refl _ _).alloc (Nat.le_refl _) (.cells #[.int .i32 sg, .slice up (SS.getD j []).length uc] 54)))
      have hSA : wr.heap.size + 1 = (wr.alloc (.cells #[.int .i32 sg, .slice up (SS.getD j []).length uc] 54)).heap.size := by simp
      clear hX hL
      generalize (SS.getD j []).length = sl at *
      go_wp2_with fail
      refine (HLO.out _ HBA.out).mono ?_
      rintro e w3 ⟨u, vs, rfl, hLu, hb3⟩
      have hbs3 := hb3.size
      rw [← hSA] at hbs3
      have hL3 := HLA.out.below hb3
      have HX3 := hide (HXA.out.below hb3)
      have hbw3 : Below w.heap.size w w3 := HBA.out.trans (hb3.mono HBA.out.size)
      have hLu2 := hLu.low (show w.heap.size + 1 ≤ _ by rw [← hSA]; omega)
      rw [← hul2] at hLu2
      obtain ⟨ap, ac, rfl⟩ := owns_slice hLu2.row
      have hvl3 : vs.length ≤ 200 := by rw [hLu2.len, List.length_map, calledBy_length (HSS.out us.length (by omega)).2.2]; exact hl2
      have hrow := hL3.row
      have HL3 := hide hL3
      have HLU := hide hLu2
      rw [hul2] at hrow
      clear hLu hLu2 hL3 hb3 HLO HXA HLA HBA
      generalize vs.length = al at *
      go_wp2_with (at_builtin; refine wpList_append_own _ rfl _ _ 91 rfl (w.heap.size + 1) 24 i0 (.slice none 0 0) 1 24 Try.underlying91 hi0 hz0 hz1 hz2 rfl (by decide) _ _ _ rfl (hrow.alloc _) ⟨w3.heap.size, 0, none⟩ 1 1 [.slice ap al ac] rfl rfl ?c1 ?c2 ?c3 ?c4 ?c5 ?_)
      case c1 => exact cell_one_new _ _ _
      case c2 => intro u hu; simp at hu; subst hu; rfl
      case c3 => unfold maxLen; omega
      case c4 => omega
      case c5 => simp; omega
      · intro v' w5 hown5 hg5 _
        rw [← hul2] at hown5 hg5
        have HL5 := hide (HL3.out.push HLU.out hown5 hg5)
        have hb5 : Below (w.heap.size + 1) w3 w5 := ((Below.refl _ _).alloc (by omega) _).grown hg5 (by simp; omega) (fun g hg => (HL3.out.row.lt g hg).1)
        have HX5 := hide (HX3.out.keep hb5 (Nat.lt_succ_self _))
        have HV5 : Hid ((us ++ [Value.slice ap al ac]).length = j + 1) := by show _ = _; rw [List.length_append, hul2]; rfl
        have HB5 := hide (hbw3.trans (hb5.mono (Nat.le_succ _)))
        clear hown5 hg5 hb5 hrow HL3 HLU HX3
        go_wp2
        go_roundw
        case rel => exact ⟨j + 1, _, by omega, by go_num, HV5, HL5, HX5, HB5.out⟩
        case measure => simp [intOf]; omega
    · obtain rfl : j = cs.length := by omega
      obtain ⟨W0, hW0⟩ : ∃ W, W = wr := ⟨wr, rfl⟩
      subst hW0
      have hr0 := hL.out.row
      rw [hul2] at hr0
      obtain ⟨gb, gc, hge, hgb1, hgb2, hgc1, hgc2⟩ := owns_form hr0 (by omega)
      have hge' : hp = some ⟨gb, 0, none⟩ ∧ hc = gc := by simpa using hge
      obtain ⟨rfl, rfl⟩ := hge'
      have g1 := hX.out.c1
      have HR0 := hide hr0
      rw [hul2]
      clear hge hr0
      go_wp2_with fail
      refine (rounds_ok n W0 (by omega) h2).mono ?_
      rintro e w2 ⟨r0, rfl, hro, hb2⟩
      obtain ⟨rg, rc, rfl, hrg1, hrg2, hrc, hrc2⟩ := owns_form hro (by omega)
      have hbs2 := hb2.size
      have HRR : Hid (RR W0.heap.size n (allOf ts SS ls) (w2.alloc (.cells #[.slice (some ⟨rg, 0, none⟩) n rc] 22)) (0 * ts.length) (.slice (some ⟨rg, 0, none⟩) n rc) (.slice (some ⟨w2.heap.size, 0, none⟩) 1 1) [.slice (some ⟨rg, 0, none⟩) n rc]) := by
        rw [Nat.zero_mul]
        exact ⟨LL.one (X := rnd n) (by rw [rnd_length]; exact hro) hbs2, hro.alloc _⟩
      have HB2 := hide (hb2.alloc hbs2 (.cells #[.slice (some ⟨rg, 0, none⟩) n rc] 22))
      have hGl : ∀ g, g ∈ ls.map (fun l => calledBy ts (SS.getD l.toNat [])) → g.length = ts.length := by
        intro g hg
        obtain ⟨l, hl, rfl⟩ := List.mem_map.1 hg
        obtain ⟨l1, l2⟩ := HIN.out l hl
        exact calledBy_length (HSS.out l.toNat (by omega)).2.2
      have HGL := hide hGl
      have HFM : Hid (∀ t, t ∈ allOf ts SS ls → tsz t = n) := by
        show ∀ t, _ → _
        intro t ht
        obtain ⟨g, hg, htg⟩ := List.mem_flatten.1 ht
        obtain ⟨l, hl, rfl⟩ := List.mem_map.1 hg
        obtain ⟨l1, l2⟩ := HIN.out l hl
        exact calledBy_mem HTS.out (HSS.out l.toNat (by omega)).2.1 t htg
      clear hro hb2 hGl g1
      have HLLL := hide hL.out
      have hW0s := hbs
      have hW0b := hbw
      clear hL hX
      go_wp2
      go_loopw [12, 14, 49] (fun r rows i wr => ∃ (k : Nat) (vs : List Value), k ≤ ls.length ∧ i = .int .i64 k ∧ Hid (RR W0.heap.size n (allOf ts SS ls) wr (k * ts.length) r rows vs) ∧ Below W0.heap.size W0 wr) (fun _ _ i _ => ls.length - (intOf i).toNat)
      case atStart => exact ⟨0, _, by omega, rfl, HRR, HB2.out⟩
      case round =>
        clear HRR HB2
        obtain ⟨k, vs, hk, rfl, hR, hbk⟩ := hrel
        have hbks := hbk.size
        obtain ⟨yp, yc, rfl⟩ := owns_slice hR.out.ll.row
        obtain ⟨xp, xc, rfl⟩ := owns_slice hR.out.row
        have hvl : vs.length = k * ts.length + 1 := by rw [hR.out.ll.len, leadTo_length]
        rw [hvl]
        by_cases hlt2 : k < ls.length
        · rcases HI.out with ⟨h0, _⟩ | ⟨lb, lo, lcap, hle, hl0, hlc0, hlm, hlb, hlcell⟩
          · rw [h0] at hN1; simp at hN1
          obtain ⟨rfl, rfl⟩ : lp = some ⟨lb, lo, none⟩ ∧ lc = lcap := by simpa using hle
          obtain ⟨y, hy, gl⟩ := cellAt hlcell hlt2
          have hbww : Below w.heap.size w wr := hW0b.trans (hbk.mono hW0s)
          have gl2 := (hbww.cell (p := ⟨lb, lo + k, none⟩) hlb).trans gl
          have hyk : ls[k] = y := by rw [← hy.out, List.getElem?_eq_getElem hlt2, Option.getD_some]
          obtain ⟨y1, y2⟩ := HIN.out y (by rw [← hyk]; exact List.getElem_mem hlt2)
          obtain ⟨c, rfl⟩ := Int.eq_ofNat_of_zero_le y1
          have hcl : c < cs.length := by omega
          obtain ⟨s1, s2, s3⟩ := HSS.out c hcl
          have gh := (hbk.cell (p := ⟨gb, c, none⟩) hgb2).trans (owns_val HR0.out hcl)
          obtain ⟨ys, hys⟩ := HLLL.out.all c (by rw [hul2]; exact hcl)
          have hZl := calledBy_length s3
          have hZn := calledBy_mem HTS.out s2
          have hGk : (ls.map (fun l => calledBy ts (SS.getD l.toNat [])))[k]'(by rw [List.length_map]; exact hlt2) = calledBy ts (SS.getD c []) := by
            rw [List.getElem_map, hyk]; rfl
          have HFN := hide (fun q (hq : q < (calledBy ts (SS.getD c [])).length) => flat_next (ls.map (fun l => calledBy ts (SS.getD l.toNat []))) HGL.out (i := k) (q := q) (by rw [List.length_map]; exact hlt2) hGk hq)
          obtain ⟨zb, zo, zc, hze, hzb, hzc, hzm, hzcell⟩ := hys.ints.cell (by rw [List.length_map, hZl]; exact hl1)
          rw [List.length_map, hZl] at hze hzc
          rw [hze] at gh
          have HZC := hide hzcell
          have HZL := hide hZl
          have HZN := hide hZn
          have hPK : (k + 1) * ts.length ≤ 20000 := Nat.le_trans (Nat.mul_le_mul_right _ hlt2) hm
          rw [Nat.succ_mul] at hPK
          have HSM : Hid ((k + 1) * ts.length = k * ts.length + ts.length) := Nat.succ_mul _ _
          clear s1 s2 s3 hys hGk hze hzcell hZl hZn hle gl hlcell hy
          rw [show ls.map (fun l => calledBy ts (SS.getD l.toNat [])) = ls.map (fun l => calledBy ts (SS.getD l.toNat [])) from rfl] at HFN
          change Hid (∀ q (hq : q < (calledBy ts (SS.getD c [])).length), (allOf ts SS ls).take (k * ts.length + q + 1) = (allOf ts SS ls).take (k * ts.length + q) ++ [(calledBy ts (SS.getD c []))[q]]) at HFN
          generalize calledBy ts (SS.getD c []) = Z at *
          have HR2 : Hid (RR W0.heap.size n (allOf ts SS ls) wr (k * ts.length + 0) (.slice xp n xc) (.slice yp (k * ts.length + 1) yc) vs) := by show RR _ _ _ _ _ _ _ _; rw [Nat.add_zero, ← hvl]; exact hR.out
          clear hR
          generalize k * ts.length = P at *
          go_wp2
          go_loopw [12, 14, 58] (fun r rows i wr => ∃ (q : Nat) (vs : List Value), q ≤ ts.length ∧ i = .int .i64 q ∧ Hid (RR W0.heap.size n (allOf ts SS ls) wr (P + q) r rows vs) ∧ Below W0.heap.size W0 wr) (fun _ _ i _ => ts.length - (intOf i).toNat)
          case atStart => exact ⟨0, _, by omega, rfl, HR2, hbk⟩
          case round =>
            clear HR2 hbk hvl
            obtain ⟨q, vs, hq, rfl, hR, hbk⟩ := hrel
            have hbks := hbk.size
            obtain ⟨yp, yc, rfl⟩ := owns_slice hR.out.ll.row
            obtain ⟨xp, xc, rfl⟩ := owns_slice hR.out.row
            have hvl : vs.length = P + q + 1 := by rw [hR.out.ll.len, leadTo_length]
            rw [hvl]
            by_cases hlt3 : q < ts.length
            · have hqz : q < Z.length := by rw [HZL.out]; exact hlt3
              obtain ⟨p, pc, gx, hix⟩ := HZC.out q (by rw [List.length_map]; exact hqz)
              have hgk : (Z.map trow).getD q [] = trow Z[q] := by simp [List.getD, hqz]
              have ht : tsz Z[q] = n := HZN.out _ (List.getElem_mem hqz)
              have hix2 := hix.out
              rw [hgk] at hix2 gx
              have hnx := HFN.out q hqz
              have HTK : Hid (prd n ((allOf ts SS ls).take (P + q + 1)) = by_ (prd n ((allOf ts SS ls).take (P + q))) (trow Z[q])) := by show _ = _; rw [hnx, prd_snoc]
              have hpr := prd_row n ((allOf ts SS ls).take (P + q)) (fun t ht' => HFM.out t (List.mem_of_mem_take ht'))
              have gy := (hbk.cell (p := ⟨zb, zo + q, none⟩) hzb).trans gx
              have HT := hide (times_own _ _ (prd n ((allOf ts SS ls).take (P + q))) (trow Z[q]) wr (Ints.own hR.out.row) (hix2.below hbk) hpr.1 (trow_row _) (by rw [hpr.2]; omega) (by rw [hpr.2]; omega) (by rw [trow_length, hpr.2, ht]))
              rw [hpr.2, ← HTK.out] at HT
              clear hnx hix hix2 hgk gx hpr HTK
              rw [trow_length, ht] at gy HT
              clear ht
              go_wp2_with fail
              refine HT.out.mono ?_
              rintro e w4 ⟨rn, rfl, hrn, hb4⟩
              obtain ⟨g', rc', rfl, hg3, hg4, hrc3, hrc4⟩ := owns_form hrn (by omega)
              have hL4 := hR.out.ll.below hb4
              have hbs4 := hb4.size
              have hbk4 : Below W0.heap.size W0 w4 := hbk.trans (hb4.mono hbks)
              have hrn' := owns_base hrn hbks
              have hrow4 := hL4.row
              rw [hvl] at hrow4
              have HL4 := hide hL4
              have HRN := hide hrn'
              clear hrn hrn' hL4 HT hb4 hR gy
              go_wp2_with (at_builtin; refine wpList_append_own _ rfl _ _ 24 rfl W0.heap.size 22 j0 (.slice none 0 0) 1 24 Try.underlying24 hji hq0 hq1 hq2 rfl (by decide) _ _ _ rfl (hrow4.alloc _) ⟨w4.heap.size, 0, none⟩ 1 1 [.slice (some ⟨g', 0, none⟩) n rc'] rfl rfl ?e1 ?e2 ?e3 ?e4 ?e5 ?_)
              case e1 => exact cell_one_new _ _ _
              case e2 => intro u hu; simp at hu; subst hu; rfl
              case e3 => unfold maxLen; omega
              case e4 => omega
              case e5 => simp; omega
              · intro v' w5 hown5 hg5 _
                rw [← hvl] at hown5 hg5
                have HR5 : Hid (RR W0.heap.size n (allOf ts SS ls) w5 (P + (q + 1)) (.slice (some ⟨g', 0, none⟩) n rc') v' (vs ++ [.slice (some ⟨g', 0, none⟩) n rc'])) := by
                  refine ⟨?_, HL4.out.kept HRN.out hg5⟩
                  rw [← Nat.add_assoc, leadTo_snoc]
                  refine HL4.out.push ?_ hown5 hg5
                  rw [(prd_row n ((allOf ts SS ls).take (P + q + 1)) (fun t ht' => HFM.out t (List.mem_of_mem_take ht'))).2]
                  exact HRN.out
                have HB5 := hide (HL4.out.step hbk4 (Nat.le_refl _) (by omega) hg5)
                clear hown5 hg5 hrow4 HL4 HRN
                go_wp2
                go_roundw
                case rel => exact ⟨q + 1, _, by omega, by go_num, HR5, HB5.out⟩
                case measure => simp [intOf]; omega
            · obtain rfl : q = ts.length := by omega
              have HR3 : Hid (RR W0.heap.size n (allOf ts SS ls) wr ((k + 1) * ts.length) (.slice xp n xc) (.slice yp (P + ts.length + 1) yc) vs) := by show RR _ _ _ _ _ _ _ _; rw [HSM.out, ← hvl]; exact hR.out
              clear hR
              go_wp2
              go_roundw
              case rel => exact ⟨k + 1, _, by omega, by go_num, HR3, hbk⟩
              case measure => simp [intOf]; omega
        · obtain rfl : k = ls.length := by omega
          have HF := hide hR.out.ll
          clear hR
          rw [hvl] at HF
          have HFin : Hid (Below w.heap.size w wr) := hW0b.trans (hbk.mono hW0s)
          go_wp2
          go_ret2
          exact ⟨_, vs, rfl, HF.out.low hW0s, HFin.out⟩

end Go.Proofs.Ythbhoohdniamaaa

/- Plain: what the answer's calls are; the leads of a touch differ in their last change alone. -/
namespace Go.Proofs.Ythbhoohdniamaaa
open Go.RowKit

theorem ceCalls_get {es : List Ce} {k : Nat} (hk : k < es.length) : (ceCalls es).getD k (0, []) = (es[k].sign, es[k].chs) := by
  simp [ceCalls, List.getD, hk]

theorem Cok.callsOk {n K : Nat} {w : World} {base : Nat} {es : List Ce} (h : Cok n w base es) (hm : es.length ≤ 8) (hK : 1 ≤ K) : CallsOk n K (ceCalls es) := by
  have hl : (ceCalls es).length = es.length := by simp [ceCalls]
  have hsg : ∀ k (hk : k < es.length), es[k].sign = sgnOf k := fun k hk => by
    have := h.sign k hk
    rwa [List.getD_eq_getElem?_getD, List.getElem?_eq_getElem hk, Option.getD_some] at this
  refine ⟨fun j hj => ?_, fun i j hij hj => ?_, fun j hj => ?_, fun j hj q hq => ?_⟩
  · rw [hl] at hj
    rw [ceCalls_get hj]
    show 97 ≤ es[j].sign ∧ es[j].sign ≤ 122
    rw [hsg j hj]; unfold sgnOf; split <;> omega
  · rw [hl] at hj
    rw [ceCalls_get hj, ceCalls_get (show i < es.length by omega)]
    show es[i].sign ≠ es[j].sign
    rw [hsg j hj, hsg i (by omega)]; unfold sgnOf; split <;> split <;> omega
  · rw [hl] at hj
    rw [ceCalls_get hj]
    exact Nat.le_trans (h.few _ (List.getElem_mem hj)) hK
  · rw [hl] at hj
    rw [ceCalls_get hj] at hq ⊢
    exact h.ok _ (List.getElem_mem hj) q hq

theorem tiles_of {n : Nat} : ∀ (X : List (List Int)), (∀ j, j < X.length → okc n 0 (X.getD j []) = true) → ∃ ss : List (List Bool), X = ss.map tpl ∧ ∀ t, t ∈ ss → tsz t = n
  | [], _ => ⟨[], rfl, fun t ht => by cases ht⟩
  | x :: X, h => by
    obtain ⟨t, ht1, ht2⟩ := (okc_iff n x).1 (h 0 (by simp))
    obtain ⟨ss, hs, hn⟩ := tiles_of X (fun j hj => by have := h (j + 1) (by simp; omega); simpa [List.getD] using this)
    refine ⟨t :: ss, by rw [List.map_cons, ht2, ← hs], fun t' h' => ?_⟩
    rcases List.mem_cons.1 h' with e | e
    · rw [e]; exact ht1
    · exact hn t' e

theorem tiles_all {n : Nat} : ∀ (es : List Ce), (∀ e, e ∈ es → ∀ j, j < e.chs.length → okc n 0 (e.chs.getD j []) = true) → ∃ SS : List (List (List Bool)), SS.length = es.length ∧ ∀ c (hc : c < es.length), es[c].chs = (SS.getD c []).map tpl ∧ ∀ t, t ∈ SS.getD c [] → tsz t = n
  | [], _ => ⟨[], rfl, fun c hc => by simp at hc⟩
  | e :: es, h => by
    obtain ⟨ss, h1, h2⟩ := tiles_of e.chs (h e (by simp))
    obtain ⟨SS, h3, h4⟩ := tiles_all es (fun e' h' => h e' (List.mem_cons_of_mem _ h'))
    refine ⟨ss :: SS, by simp [h3], fun c hc => ?_⟩
    cases c with
    | zero => exact ⟨h1, h2⟩
    | succ c => exact h4 c (by simpa using hc)

theorem Cok.tiles {n : Nat} {w : World} {base : Nat} {es : List Ce} (h : Cok n w base es) : ∃ SS : List (List (List Bool)), ∀ c, c < es.length → ((ceCalls es).getD c (0, [])).2 = (SS.getD c []).map tpl ∧ (∀ t, t ∈ SS.getD c [] → tsz t = n) ∧ (SS.getD c []).length ≤ 1 := by
  obtain ⟨SS, _, h2⟩ := tiles_all es h.ok
  refine ⟨SS, fun c hc => ?_⟩
  obtain ⟨h3, h4⟩ := h2 c hc
  rw [ceCalls_get hc]
  refine ⟨h3, h4, ?_⟩
  have := h.few _ (List.getElem_mem hc)
  rw [h3, List.length_map] at this
  exact this

theorem calledBy_take {ts ss : List (List Bool)} (h : ss.length ≤ 1) {q : Nat} (hq : q < ts.length) : (calledBy ts ss).take q = ts.take q := by
  unfold calledBy
  rw [List.take_append_of_le_length (by rw [List.length_take]; omega), List.take_take, Nat.min_eq_left (by omega)]

/-- The rows of a touch by calls of at most one change. -/
theorem touch_all {n m : Nat} {ts : List (List Bool)} {SS : List (List (List Bool))} {ls : List Int} (hl1 : 1 ≤ ts.length) (hts : ∀ t, t ∈ ts → tsz t = n) (hin : ∀ l, l ∈ ls → 0 ≤ l ∧ l < (m : Int)) (hS : ∀ c, c < m → (∀ t, t ∈ SS.getD c [] → tsz t = n) ∧ (SS.getD c []).length ≤ 1) :
    (leadTo n (allOf ts SS ls) (ls.length * ts.length)).take (ls.length * ts.length) = touchRows (headsOf (leadTo n (allOf ts SS ls) (ls.length * ts.length)) ts.length ls.length) (ldr n ts) ∧ ∀ t, t ∈ allOf ts SS ls → tsz t = n := by
  have hG : ∀ g, g ∈ ls.map (fun l => calledBy ts (SS.getD l.toNat [])) → g.length = ts.length := by
    intro g hg
    obtain ⟨l, hl, rfl⟩ := List.mem_map.1 hg
    obtain ⟨l1, l2⟩ := hin l hl
    exact calledBy_length (Nat.le_trans (hS l.toNat (by omega)).2 hl1)
  have hFn : ∀ t, t ∈ allOf ts SS ls → tsz t = n := by
    intro t ht
    obtain ⟨g, hg, htg⟩ := List.mem_flatten.1 ht
    obtain ⟨l, hl, rfl⟩ := List.mem_map.1 hg
    obtain ⟨l1, l2⟩ := hin l hl
    exact calledBy_mem hts (hS l.toNat (by omega)).1 t htg
  refine ⟨touch_rows (N := ls.length) hl1 rfl (by unfold allOf; rw [flat_length _ hG, List.length_map]) hFn hts (fun m' q hm hq => ?_) ls.length (Nat.le_refl _), hFn⟩
  unfold allOf
  rw [flat_drop _ m' hG (by rw [List.length_map]; exact hm), List.getElem_map]
  obtain ⟨l1, l2⟩ := hin ls[m'] (List.getElem_mem hm)
  have h1 := (hS ls[m'].toNat (by omega)).2
  rw [List.take_append_of_le_length (by rw [calledBy_length (Nat.le_trans h1 hl1)]; omega)]
  exact calledBy_take h1 hq

end Go.Proofs.Ythbhoohdniamaaa

/- Contract: truth.Prove, over what call.Rows tells. -/
namespace Go.Proofs.Ythbhoohdniamaaa
open Go.RowKit

def ProvePost (L : Nat) (T : List (List Int)) (w : World) (e : Ending) (w' : World) : Prop :=
  ∃ (r t : Bool) (i j : Int), e = .returned (.tuple #[.agg #[.int .i64 L, .bool r, .bool t, .int .i64 i, .int .i64 j], .int .i64 0]) ∧ (t = true ↔ (T.take L).Nodup) ∧ Below w.heap.size w w'

theorem cells5 {w1 : World} {B : Nat} {a b c d e : Value} {t : TypeId} (h : w1.heap[B]? = some (.cells #[a, b, c, d, e] t)) :
    w1.cell? ⟨B, 0, none⟩ = some a ∧ w1.cell? ⟨B, 1, none⟩ = some b ∧ w1.cell? ⟨B, 2, none⟩ = some c ∧ w1.cell? ⟨B, 3, none⟩ = some d ∧ w1.cell? ⟨B, 4, none⟩ = some e ∧ w1.frozen? ⟨B, 0, none⟩ = false ∧ w1.frozen? ⟨B, 1, none⟩ = false ∧ w1.frozen? ⟨B, 2, none⟩ = false ∧ w1.frozen? ⟨B, 3, none⟩ = false ∧ w1.frozen? ⟨B, 4, none⟩ = false := by
  simp [World.cell?, World.frozen?, h]

theorem ret_row_tmp {fn : Func} {R : Ending → World → Prop} {a : Act} {w : World} {p u : Tmp} {b : Nat} {cs : Array Value} {t : Value} (h : fn.results = #[.cell p 32, .tmp u]) (hp : a.tmps.getD p undef = .pointer (some ⟨b, 0, none⟩)) (hu : a.tmps.getD u undef = t) (hg : w.heap[b]? = some (.cells cs 32)) (hz : cs.size = 5) (hd : a.defers = []) (hR : R (.returned (.tuple #[.agg cs, t])) w) : bodyPost Try.prog fn R .ret a w := by
  refine bodyPost_ret (v := .tuple #[.agg cs, t]) ?_ hd hR
  have hp' : a.tmps[p]?.getD undef = .pointer (some ⟨b, 0, none⟩) := by simpa using hp
  have hu' : a.tmps[u]?.getD undef = t := by simpa using hu
  rw [results_cell_tmp h]
  simp [hp', hu', asAddr, Result.andThen, run_loadVar_row w b 32 32 cs _ _ hg Try.underlying32 rfl (by rw [hz]; kernel_rfl)]

set_option maxRecDepth 20000 in
set_option maxHeartbeats 4000000 in
theorem prove_ok (s : ByteArray) (n : Nat) (vp : Option Addr) (k vc : Nat) (cv : Value) (lv : Value) (L : Nat) (T : List (List Int)) (w : World) (h1 : 1 ≤ n) (h12 : n ≤ 12) (hT : T.length = L + 1) (hL1 : 1 ≤ L) (hL2 : L ≤ 1000) (hTr : ∀ r, r ∈ T → Rw n r)
    (hR : ∀ W, Below w.heap.size w W → Calls Try.prog 23 #[meth s n (.slice vp k vc), cv, lv] W (RowsPost T W)) :
    Calls Try.prog 10 #[meth s n (.slice vp k vc), cv, lv] w (ProvePost L T w) := by
  have hB0 : Below w.heap.size w ((w.alloc (.cells #[.string s, .int .i64 n, .slice vp k vc] 26)).alloc (.cells #[.int .i64 0, .bool false, .bool false, .int .i64 0, .int .i64 0] 32)) := ((Below.refl _ _).alloc (Nat.le_refl _) _).alloc (by simp) _
  have HR := hide (hR _ hB0)
  have HT := hide hT
  have HTR := hide hTr
  clear hR hT hTr
  unfold meth at HR
  unfold meth
  go_enter Try.func10, Try.ntmps10
  go_wp2_with fail
  refine HR.out.mono ?_
  rintro e w1 ⟨u, vs, rfl, hL, hb1⟩
  have hB1 : Below w.heap.size w w1 := hB0.trans (hb1.mono hB0.size)
  have hblk1 : w1.heap[w.heap.size + 1]? = some (.cells #[.int .i64 0, .bool false, .bool false, .int .i64 0, .int .i64 0] 32) := (hb1.block (w.heap.size + 1) (by simp)).trans (by
    have h9 := heap_alloc_new (w.alloc (.cells #[.string s, .int .i64 n, .slice vp k vc] 26)) (.cells #[.int .i64 0, .bool false, .bool false, .int .i64 0, .int .i64 0] 32)
    rw [show (w.alloc (.cells #[.string s, .int .i64 n, .slice vp k vc] 26)).heap.size = w.heap.size + 1 from by simp] at h9
    exact h9)
  have hL' := hL.low (show w.heap.size + 2 ≤ _ by simp)
  have hvl : vs.length = L + 1 := by rw [hL.len, HT.out]
  have hr1 := hL'.row
  rw [hvl] at hr1
  obtain ⟨gu, cu, rfl, hgu1, hgu2, hcu1, hcu2⟩ := owns_form hr1 (by omega)
  have HVL := hide hvl
  have HLL := hide hL'
  have HK := hide hblk1
  have hrp := hide (fun W (hW : Below w1.heap.size w1 W) => repeated_ok n _ (T.take L) W ((hL'.front hvl (Nat.le_succ L) hL1 hgu2 hcu1 hcu2).below hW) h1 h12 (fun r hr => HTR.out r (List.mem_of_mem_take hr)) (by rw [List.length_take, HT.out]; omega) (by rw [List.length_take, HT.out]; omega))
  clear hL hb1 hL' hr1 HR hvl hblk1
  go_wp2_with fail
  refine (hrp.out w1 (Below.refl _ _)).mono ?_
  rintro e w2 ⟨i, j, t, rfl, ht, hb2⟩
  have hB2 : Below w.heap.size w w2 := hB1.trans (hb2.mono hB1.size)
  have hbs2 := hB2.size
  have hL2' := HLL.out.below hb2
  have hr2 := hL2'.row
  rw [HVL.out] at hr2
  have c0 := owns_val hr2 (show 0 < L + 1 by omega)
  have cL := owns_val hr2 (show L < L + 1 by omega)
  have i0 := Ints.own (hL2'.at (k := 0) (by rw [HT.out]; omega))
  have iL := Ints.own (hL2'.at (k := L) (by rw [HT.out]; omega))
  obtain ⟨p0, d0, e0⟩ := i0.form
  obtain ⟨pL, dL, eL⟩ := iL.form
  rw [e0] at c0 i0
  rw [eL] at cL iL
  have HEQ := hide (fun W (hW : Below w2.heap.size w2 W) => equal_any _ _ _ _ W (iL.below hW) (i0.below hW))
  have HBK := hide ((hb2.block (w.heap.size + 1) (by omega)).trans HK.out)
  have hlt1 : w.heap.size + 1 < w2.heap.size := Nat.lt_of_lt_of_le (by omega) hb2.size
  have hgu3 : gu < w2.heap.size := Nat.lt_of_lt_of_le hgu2 hb2.size
  have HTN := hide ht
  clear hL2' hr2 i0 iL e0 eL HLL HVL HK hrp ht hB0 hB1 HTR HT
  generalize (T.getD 0 []).length = l0 at *
  generalize (T.getD L []).length = lL at *
  generalize decide (T.getD L [] = T.getD 0 []) = rd at *
  go_upto_region 6 with fail
  refine wp_region_held_drew (S := fun W' => W'.cell? ⟨gu, 0, none⟩ = some (.slice p0 l0 d0) ∧ W'.cell? ⟨gu, L, none⟩ = some (.slice pL lL dL)) (by kernel_rfl) ⟨c0, cL⟩ (fun hS => ?_)
  refine wpAnyH_take (i := 0) (v := .int .i64 (L : Int)) rfl (by kernel_rfl) (by kernel_rfl) (by kernel_rfl) (fun _ _ _ h => h) (Or.inl ⟨by kernel_rfl, fun w' hS' => by obtain ⟨q0, q1⟩ := hS'; go_simp⟩) hS ?_
  refine wpAnyH_take (i := 1) (v := .slice (some ⟨gu, 0, none⟩) (L + 1) cu) rfl (by kernel_rfl) (by kernel_rfl) (by kernel_rfl) (fun _ _ _ h => h) (Or.inl ⟨by kernel_rfl, fun w' hS' => by obtain ⟨q0, q1⟩ := hS'; go_simp⟩) hS ?_
  refine wpAnyH_take (i := 2) (v := .int .i64 (L : Int)) rfl (by kernel_rfl) (by kernel_rfl) (by kernel_rfl) (fun _ _ _ h => h) (Or.inl ⟨by kernel_rfl, fun w' hS' => by obtain ⟨q0, q1⟩ := hS'; go_simp⟩) hS ?_
  refine wpAnyH_take (i := 3) (v := .pointer (some ⟨gu, L, none⟩)) rfl (by kernel_rfl) (by kernel_rfl) (by kernel_rfl) (fun _ _ _ h => h) (Or.inl ⟨by kernel_rfl, fun w' hS' => by obtain ⟨q0, q1⟩ := hS'; go_simp; intro h0; exact absurd h0 (by omega)⟩) hS ?_
  refine wpAnyH_take (i := 4) (v := .slice pL lL dL) rfl (by kernel_rfl) (by kernel_rfl) (by kernel_rfl) (fun _ _ _ h => h) (Or.inl ⟨by kernel_rfl, fun w' hS' => by obtain ⟨q0, q1⟩ := hS'; go_simp⟩) hS ?_
  refine wpAnyH_take (i := 5) (v := .slice (some ⟨gu, 0, none⟩) (L + 1) cu) rfl (by kernel_rfl) (by kernel_rfl) (by kernel_rfl) (fun _ _ _ h => h) (Or.inl ⟨by kernel_rfl, fun w' hS' => by obtain ⟨q0, q1⟩ := hS'; go_simp⟩) hS ?_
  refine wpAnyH_take (i := 6) (v := .pointer (some ⟨gu, 0, none⟩)) rfl (by kernel_rfl) (by kernel_rfl) (by kernel_rfl) (fun _ _ _ h => h) (Or.inl ⟨by kernel_rfl, fun w' hS' => by obtain ⟨q0, q1⟩ := hS'; go_simp⟩) hS ?_
  refine wpAnyH_take (i := 7) (v := .slice p0 l0 d0) rfl (by kernel_rfl) (by kernel_rfl) (by kernel_rfl) (fun _ _ _ h => h) (Or.inl ⟨by kernel_rfl, fun w' hS' => by obtain ⟨q0, q1⟩ := hS'; go_simp⟩) hS ?_
  refine wpAnyH_take (i := 9) (v := .bool t) rfl (by kernel_rfl) (by kernel_rfl) (by kernel_rfl) (fun _ _ _ h => h) (Or.inl ⟨by kernel_rfl, fun w' hS' => by obtain ⟨q0, q1⟩ := hS'; go_simp⟩) hS ?_
  refine wpAnyH_take (i := 10) (v := .bool (!t)) rfl (by kernel_rfl) (by kernel_rfl) (by kernel_rfl) (fun _ _ _ h => h) (Or.inl ⟨by kernel_rfl, fun w' hS' => by obtain ⟨q0, q1⟩ := hS'; go_simp⟩) hS ?_
  refine wpAnyH_take (i := 11) (v := .int .i64 i) rfl (by kernel_rfl) (by kernel_rfl) (by kernel_rfl) (fun _ _ _ h => h) (Or.inl ⟨by kernel_rfl, fun w' hS' => by obtain ⟨q0, q1⟩ := hS'; go_simp⟩) hS ?_
  refine wpAnyH_take (i := 12) (v := .int .i64 j) rfl (by kernel_rfl) (by kernel_rfl) (by kernel_rfl) (fun _ _ _ h => h) (Or.inl ⟨by kernel_rfl, fun w' hS' => by obtain ⟨q0, q1⟩ := hS'; go_simp⟩) hS ?_
  refine wpAnyH_ready (rs := [8]) (by kernel_rfl) (by simp) ?_
  refine AllReadyH.cons rfl (fun K hK => ?_) AllReadyH.nil
  go_simp
  have hS0 := below_drewJ w2
  refine (HEQ.out w2.drew hS0).mono ?_
  rintro ex wo ⟨rfl, hbo⟩
  have hSo : Below w2.heap.size w2 wo := hS0.trans (hbo.mono hS0.size)
  have hC0 : wo.cell? ⟨gu, 0, none⟩ = some (.slice p0 l0 d0) := (hSo.cell (p := ⟨gu, 0, none⟩) hgu3).trans c0
  have hCL : wo.cell? ⟨gu, L, none⟩ = some (.slice pL lL dL) := (hSo.cell (p := ⟨gu, L, none⟩) hgu3).trans cL
  have hko := (hSo.block (w.heap.size + 1) hlt1).trans HBK.out
  have hBo : Below w.heap.size w wo := hB2.trans (hSo.mono hB2.size)
  refine hK.out _ _ ⟨hC0, hCL⟩ (fun hS => ?_)
  clear hK
  refine wpAnyH_take (i := 13) (v := .agg #[.int .i64 (L : Int), .bool rd, .bool (!t), .int .i64 i, .int .i64 j]) rfl (by kernel_rfl) (by kernel_rfl) (by kernel_rfl) (fun _ _ _ h => h) (Or.inl ⟨by kernel_rfl, fun w' hS' => by obtain ⟨q0, q1⟩ := hS'; go_simp⟩) hS ?_
  refine wpAnyH_ready (rs := [14]) (by kernel_rfl) (by simp) ?_
  refine AllReadyH.cons rfl (fun K hK => ?_) AllReadyH.nil
  obtain ⟨z0, z1, z2, z3, z4, f0, f1, f2, f3, f4⟩ := cells5 hko
  go_simp
  have HBF : Hid ((((((wo.setCell ⟨w.heap.size + 1, 0, none⟩ (.int .i64 (L : Int))).setCell ⟨w.heap.size + 1, 1, none⟩ (.bool rd)).setCell ⟨w.heap.size + 1, 2, none⟩ (.bool (!t))).setCell ⟨w.heap.size + 1, 3, none⟩ (.int .i64 i)).setCell ⟨w.heap.size + 1, 4, none⟩ (.int .i64 j)).heap[w.heap.size + 1]? = some (.cells #[.int .i64 (L : Int), .bool rd, .bool (!t), .int .i64 i, .int .i64 j] 32)) := by
    show _ = _
    simp [World.setCell, Array.getElem?_modify, hko]
  have HBZ : Hid (Below w.heap.size w (((((wo.setCell ⟨w.heap.size + 1, 0, none⟩ (.int .i64 (L : Int))).setCell ⟨w.heap.size + 1, 1, none⟩ (.bool rd)).setCell ⟨w.heap.size + 1, 2, none⟩ (.bool (!t))).setCell ⟨w.heap.size + 1, 3, none⟩ (.int .i64 i)).setCell ⟨w.heap.size + 1, 4, none⟩ (.int .i64 j))) :=
    ((((hBo.setCell (Nat.le_succ _) _).setCell (Nat.le_succ _) _).setCell (Nat.le_succ _) _).setCell (Nat.le_succ _) _).setCell (Nat.le_succ _) _
  have hne : w.heap.size + 1 ≠ gu := by omega
  have HS2 : Hid ((((((wo.setCell ⟨w.heap.size + 1, 0, none⟩ (.int .i64 (L : Int))).setCell ⟨w.heap.size + 1, 1, none⟩ (.bool rd)).setCell ⟨w.heap.size + 1, 2, none⟩ (.bool (!t))).setCell ⟨w.heap.size + 1, 3, none⟩ (.int .i64 i)).setCell ⟨w.heap.size + 1, 4, none⟩ (.int .i64 j)).heap[gu]? = wo.heap[gu]?) := by
    show _ = _
    simp [World.setCell, Array.getElem?_modify, hne]
  generalize (((((wo.setCell ⟨w.heap.size + 1, 0, none⟩ (.int .i64 (L : Int))).setCell ⟨w.heap.size + 1, 1, none⟩ (.bool rd)).setCell ⟨w.heap.size + 1, 2, none⟩ (.bool (!t))).setCell ⟨w.heap.size + 1, 3, none⟩ (.int .i64 i)).setCell ⟨w.heap.size + 1, 4, none⟩ (.int .i64 j)) = wz at *
  refine hK.out _ _ ⟨by rw [← hC0]; unfold World.cell?; simp only [HS2.out], by rw [← hCL]; unfold World.cell?; simp only [HS2.out]⟩ (fun hS => ?_)
  clear hK z0 z1 z2 z3 z4 f0 f1 f2 f3 f4
  refine wpAnyH_take (i := 15) (v := .int .i64 0) rfl (by kernel_rfl) (by kernel_rfl) (by kernel_rfl) (fun _ _ _ h => h) (Or.inl ⟨by kernel_rfl, fun w' hS' => by clear hS'; go_simp⟩) hS ?_
  refine wpAnyH_done (by kernel_rfl) ?_ _
  go_wp2
  refine ret_row_tmp (p := 6) (u := 7) rfl rfl rfl HBF.out rfl rfl ⟨rd, !t, i, j, rfl, ?_, HBZ.out⟩
  rw [← HTN.out]
  cases t <;> decide

end Go.Proofs.Ythbhoohdniamaaa

/- Contract: truth.meet. -/
namespace Go.Proofs.Ythbhoohdniamaaa
open Go.RowKit Go.Maps

/-- What the map tells of a list of rows. -/
def InM (n : Nat) (X : List (List Int)) (f : List Int → Option Value) : Prop := ∀ x, Rw n x → ((f (kp x)).isSome = true ↔ x ∈ X)

theorem InM.add {n : Nat} {X : List (List Int)} {f : List Int → Option Value} (h : InM n X f) {r : List Int} (hr : Rw n r) (v : Value) : InM n (X ++ [r]) (kupd f (kp r) v) := by
  intro x hx
  unfold kupd
  rw [List.mem_append, List.mem_singleton]
  by_cases e : kp x = kp r
  · rw [if_pos e]
    have : x = r := kp_inj hx.len hr.len e
    simp [this]
  · rw [if_neg e, h x hx]
    exact ⟨Or.inl, fun h1 => h1.resolve_right (fun h2 => e (by rw [h2]))⟩

/-- No two of the first p heads and those behind are one of X apart. -/
def NoMeet (Hs X : List (List Int)) (p : Nat) : Prop := ∀ a b, a < p → a < b → b < Hs.length → by_ (un (Hs.getD a [])) (Hs.getD b []) ∉ X

theorem noMeet_all {Hs X : List (List Int)} (h : NoMeet Hs X Hs.length) : Hs.Pairwise (fun h h' => by_ (un h) h' ∉ X) := by
  rw [List.pairwise_iff_getElem]
  intro i j hi hj hij
  have := h i j hi hij hj
  simpa [List.getD, List.getElem?_eq_getElem hi, List.getElem?_eq_getElem hj] using this

theorem meet_not {Hs X : List (List Int)} {i j : Nat} (hij : i < j) (hj : j < Hs.length) (h : by_ (un (Hs.getD i [])) (Hs.getD j []) ∈ X) : ¬ Hs.Pairwise (fun h h' => by_ (un h) h' ∉ X) := by
  intro hp
  rw [List.pairwise_iff_getElem] at hp
  have := hp i j (by omega) hj hij
  refine this ?_
  simpa [List.getD, List.getElem?_eq_getElem (show i < Hs.length by omega), List.getElem?_eq_getElem hj] using h

def MeetPost (Hs X : List (List Int)) (w : World) (e : Ending) (w' : World) : Prop :=
  ∃ t : Bool, e = .returned (.bool t) ∧ (t = false ↔ Hs.Pairwise (fun h h' => by_ (un h) h' ∉ X)) ∧ Below w.heap.size w w'

set_option maxRecDepth 20000 in
set_option maxHeartbeats 8000000 in
theorem meet_ok (n : Nat) (v1 v2 : Value) (Hs X : List (List Int)) (w : World) (hv1 : IntsAll w v1 Hs) (hv2 : IntsAll w v2 X) (h1 : 1 ≤ n) (h12 : n ≤ 12) (hH : ∀ r, r ∈ Hs → Rw n r) (hX : ∀ r, r ∈ X → Rw n r) (hl1 : 1 ≤ Hs.length) (hl2 : Hs.length ≤ 1000) (hx2 : X.length ≤ 40000) :
    Calls Try.prog 30 #[v1, v2] w (MeetPost Hs X w) := by
  have hmm := @run_makeMap Try.prog
  obtain ⟨b, off, cap, rfl, hb, hlc, hcm, hcell⟩ := hv1.cell hl1
  have HC := hide hcell
  have HH : Hid (∀ k, k < Hs.length → Rw n (Hs.getD k [])) := fun k hk => hH _ (by rw [List.getD_eq_getElem?_getD, List.getElem?_eq_getElem hk]; exact List.getElem_mem hk)
  have HX : Hid (∀ k, k < X.length → Rw n (X.getD k [])) := fun k hk => hX _ (by rw [List.getD_eq_getElem?_getD, List.getElem?_eq_getElem hk]; exact List.getElem_mem hk)
  obtain ⟨xp, xc, rfl⟩ := hv2.len
  have HV2 := hide hv2
  clear hv1 hcell hH hX hv2
  have HM0 : Hid (KMap 98 .i64 (w.alloc (.map #[] 0)) w.heap.size 0 (fun _ => none)) := KMap.made _ _ w
  go_enter Try.func30, Try.ntmps30
  go_wp2
  go_loopw [21] (fun i wr => ∃ (k : Nat) (f : List Int → Option Value), k ≤ X.length ∧ i = .int .i64 k ∧ Hid (KMap 98 .i64 wr w.heap.size k f) ∧ Hid (InM n (X.take k) f) ∧ Hid (Below w.heap.size w wr)) (fun i _ => X.length - (intOf i).toNat)
  case atStart => exact ⟨0, fun _ => none, by omega, rfl, HM0, (fun x _ => ⟨(fun h => by cases h), (fun h => by simp at h)⟩), (Below.refl _ _).alloc (Nat.le_refl _) _⟩
  case round =>
    clear HM0
    obtain ⟨k, f, hk, rfl, hM, hI, hbl⟩ := hrel
    have hbw := hbl.out
    have hbs := hbw.size
    by_cases hlt : k < X.length
    · obtain ⟨b2, off2, cap2, he, hb2, hlc2, hcm2, hcell2⟩ := HV2.out.cell (by omega)
      simp only [Value.slice.injEq] at he
      obtain ⟨rfl, he2, rfl⟩ := he
      clear he2
      obtain ⟨p, c, hce, hint⟩ := hcell2 k hlt
      have hRw := HX.out k hlt
      have gp : wr.cell? ⟨b2, off2 + k, none⟩ = some (.slice p (X.getD k []).length c) := (hbw.cell (by exact hb2)).trans hce
      have HKO := hide (keyOf_ok _ _ wr (hint.out.below hbw) (by rw [hRw.len]; exact h1) (by rw [hRw.len]; exact h12))
      have hok := kp_ok h12 hRw
      have HAD := hide (fun v => hI.out.add hRw v)
      have HTK : Hid (X.take (k + 1) = X.take k ++ [X.getD k []]) := by
        show _ = _
        rw [List.take_add_one, List.getElem?_eq_getElem hlt]; simp [List.getD, List.getElem?_eq_getElem hlt]
      clear hce hint hcell2 hRw hI
      generalize X.getD k [] = R at *
      generalize R.length = rl at *
      have hMl := hM.out.lt
      go_wp2_with fail
      refine HKO.out.mono ?_
      rintro e w1 ⟨rfl, hb1⟩
      have hbs1 := hb1.size
      have hM1 := hM.out.below hb1 hMl
      obtain ⟨w2, hput, hM2, hg2⟩ := hM1.put keyT Try.underlying96 (show k < maxLen by unfold maxLen; omega) hok (.int .i64 (k : Int))
      have HM2 := hide hM2
      have HI2 : Hid (InM n (X.take (k + 1)) (kupd f (kp R) (.int .i64 (k : Int)))) := by
        show InM _ _ _
        rw [HTK.out]; exact HAD.out _
      have HB2 : Hid (Below w.heap.size w w2) := (hbw.trans (hb1.mono hbs)).grown hg2 ((hbw.trans (hb1.mono hbs)).size) (fun g hg => by cases hg; exact Nat.le_refl _)
      clear hM1 hM2 hg2 hb1 hM hbl hbw HKO HAD HTK
      go_wp2
      go_roundw
      case rel => exact ⟨k + 1, _, by omega, by go_num, HM2, HI2, HB2⟩
      case measure => simp [intOf]; omega
    · have HIX : Hid (InM n X f) := by
        have h9 := hI.out
        rw [List.take_of_length_le (by omega)] at h9
        exact h9
      have HMX := hide hM.out
      have HBX := hide hbw
      clear hM hI hbl hbw HV2 HX
      go_wp2
      clear hlt hk hx2
      go_loopw [33] (fun i wr => ∃ (p : Nat), p ≤ Hs.length ∧ i = .int .i64 p ∧ Hid (KMap 98 .i64 wr w.heap.size k f) ∧ Hid (NoMeet Hs X p) ∧ Hid (Below w.heap.size w wr)) (fun i _ => Hs.length - (intOf i).toNat)
      case atStart => exact ⟨0, by omega, rfl, HMX, (fun a b h => absurd h (Nat.not_lt_zero _)), HBX⟩
      case round =>
        clear HMX HBX
        obtain ⟨p, hp, rfl, hM, hN, hbl⟩ := hrel
        have hbw := hbl.out
        have hbs := hbw.size
        by_cases hlt : p < Hs.length
        · obtain ⟨p1, c1, hce, hint⟩ := HC.out p hlt
          have hRw := HH.out p hlt
          have gp : wr.cell? ⟨b, off + p, none⟩ = some (.slice p1 (Hs.getD p []).length c1) := (hbw.cell (by exact hb)).trans hce
          have hBK := back_own _ _ wr (hint.out.below hbw) hRw.row (by rw [hRw.len]; exact h1) (by rw [hRw.len]; exact h12)
          have HU : Hid (∀ zs, Undoes zs (Hs.getD p []) → zs = un (Hs.getD p [])) := fun zs h => undoes_un hRw.row h
          have HUR := hide hRw.un
          rw [hRw.len] at hBK gp
          have HBK := hide hBK
          have HUN : Hid (∃ U, U = un (Hs.getD p [])) := ⟨_, rfl⟩
          have hMl := hM.out.lt
          clear hce hint hRw hBK
          go_wp2_with fail
          refine HBK.out.mono ?_
          rintro e w2 ⟨bv, zs, rfl, hbo, hun, hb2⟩
          have HZU := hide (HU.out zs hun)
          have HZR : Hid (Rw n zs) := by show Rw n zs; rw [HZU.out]; exact HUR.out
          have HBO := hide (owns_base hbo hbs)
          obtain ⟨bp, bc, rfl⟩ := owns_slice hbo
          have HM2 := hide (hM.out.below hb2 hMl)
          have HB2 : Hid (Below w.heap.size w w2) := hbw.trans (hb2.mono hbs)
          clear hbo hun HBK HU hM hbl hb2
          have HNX : Hid (∀ j0, (∀ j, j < j0 → by_ zs (Hs.getD (p + 1 + j) []) ∉ X) → Hs.length - (p + 1) ≤ j0 → NoMeet Hs X (p + 1)) := by
            intro j0 h3 h4 x y hx hy hyl
            rcases Nat.lt_succ_iff_lt_or_eq.1 hx with hx | hx
            · exact hN.out x y hx hy hyl
            · subst hx
              have h5 := h3 (y - (x + 1)) (by omega)
              rw [show x + 1 + (y - (x + 1)) = y from by omega, HZU.out] at h5
              exact h5
          by_cases hcap : p + 1 < cap
          · go_wp2
            go_loopw [48] (fun i wl => ∃ (q : Nat), q ≤ Hs.length - (p + 1) ∧ i = .int .i64 q ∧ Hid (KMap 98 .i64 wl w.heap.size k f) ∧ Hid (∀ j, j < q → by_ zs (Hs.getD (p + 1 + j) []) ∉ X) ∧ Hid (Below w.heap.size w wl) ∧ Hid (wl.ownsRow w.heap.size 3 1 (.slice bp n bc) n (zs.map (Value.int .i64)))) (fun i _ => Hs.length - (p + 1) - (intOf i).toNat)
            case atStart => exact ⟨0, by omega, rfl, HM2, (fun j h => absurd h (Nat.not_lt_zero _)), HB2, HBO⟩
            case round =>
              clear HM2 HB2 HBO
              obtain ⟨q, hq, rfl, hM3, hN3, hbl3, hBO3⟩ := hrel
              have hbw3 := hbl3.out
              have hbs3 := hbw3.size
              by_cases hlt3 : q < Hs.length - (p + 1)
              · obtain ⟨p3, c3, hce, hint⟩ := HC.out (p + 1 + q) (by omega)
                have hRq := HH.out (p + 1 + q) (by omega)
                have gq : wr.cell? ⟨b, off + (p + 1) + q, none⟩ = some (.slice p3 (Hs.getD (p + 1 + q) []).length c3) := by
                  rw [show off + (p + 1) + q = off + (p + 1 + q) from by omega]
                  exact (hbw3.cell (by exact hb)).trans hce
                have hT := times_own _ _ zs (Hs.getD (p + 1 + q) []) wr (Ints.own hBO3.out) (hint.out.below hbw3) HZR.out.row hRq.row (by rw [HZR.out.len]; exact h1) (by rw [HZR.out.len]; exact h12) (by rw [HZR.out.len, hRq.len])
                have hHr : Rw n (by_ zs (Hs.getD (p + 1 + q) [])) := HZR.out.by hRq
                rw [HZR.out.len] at hT
                rw [hRq.len] at gq
                rw [hRq.len] at hT
                have HT := hide hT
                have HMT : Hid (by_ zs (Hs.getD (p + 1 + q) []) ∈ X → ¬ Hs.Pairwise (fun h h' => by_ (un h) h' ∉ X)) := fun h => meet_not (i := p) (j := p + 1 + q) (by omega) (by omega) (by rw [← HZU.out]; exact h)
                have HNJ : Hid (by_ zs (Hs.getD (p + 1 + q) []) ∉ X → ∀ j, j < q + 1 → by_ zs (Hs.getD (p + 1 + j) []) ∉ X) := by
                  intro h9 j hj
                  rcases Nat.lt_succ_iff_lt_or_eq.1 hj with hj | rfl
                  · exact hN3.out j hj
                  · exact h9
                have HF := hide (HIX.out _ hHr)
                have hok := kp_ok h12 hHr
                have HHR := hide hHr
                have hMl3 := hM3.out.lt
                clear hce hint hRq hT hHr
                generalize by_ zs (Hs.getD (p + 1 + q) []) = D at *
                go_wp2_with fail
                refine HT.out.mono ?_
                rintro e w5 ⟨dv, rfl, hown5, hb5⟩
                have HKO := hide (keyOf_ok dv D w5 (Ints.own hown5) (by rw [HHR.out.len]; exact h1) (by rw [HHR.out.len]; exact h12))
                obtain ⟨dp, dc, rfl⟩ := owns_slice hown5
                have hM5 := hM3.out.below hb5 hMl3
                have hB5 : Below w.heap.size w w5 := hbw3.trans (hb5.mono hbs3)
                have hBO5 := owns_below hBO3.out hb5 (Nat.le_refl _)
                have hMl5 := hM5.lt
                clear hown5 HT hM3 hbl3 hBO3 hb5
                go_wp2_with fail
                refine HKO.out.mono ?_
                rintro e w6 ⟨rfl, hb6⟩
                have hM6 := hM5.below hb6 hMl5
                have hB6 : Below w.heap.size w w6 := hB5.trans (hb6.mono hB5.size)
                have HBO6 := hide (owns_below hBO5 hb6 (Nat.le_refl _))
                have hlook := hM6.look_ok keyT Try.underlying96 (Try.zero3 w6) hok
                have HM6 := hide hM6
                clear hM5 hBO5 hb6 hM6 HKO
                cases hf : f (kp D) with
                | some u =>
                  rw [hf] at hlook
                  have HP : Hid (MeetPost Hs X w (.returned (.bool true)) w6) := ⟨true, rfl, ⟨(fun h => by cases h), fun h => absurd h (HMT.out (HF.out.1 (by rw [hf]; rfl)))⟩, hB6⟩
                  clear hf HM6 HBO6
                  go_wp2
                  go_ret
                  exact HP.out
                | none =>
                  rw [hf] at hlook
                  have HN6 := hide (HNJ.out (fun h => by have := HF.out.2 h; rw [hf] at this; cases this))
                  have HB6 := hide hB6
                  clear hf hB6
                  go_wp2
                  go_roundw
                  case rel => exact ⟨q + 1, by omega, by go_num, HM6, HN6, HB6, HBO6⟩
                  case measure => simp [intOf]; omega
              · have HN4 := hide (HNX.out q hN3.out (by omega))
                have HM4 := hide hM3.out
                have HB4 := hide hbw3
                clear hM3 hN3 hbl3 hBO3 HNX hN
                go_wp2
                go_roundw
                case rel => exact ⟨p + 1, by omega, by go_num, HM4, HN4, HB4⟩
                case measure => simp [intOf]; omega
          · obtain rfl : cap = p + 1 := by omega
            clear hcap
            go_wp2
            go_loopw [48] (fun i wl => ∃ (q : Nat), q ≤ Hs.length - (p + 1) ∧ i = .int .i64 q ∧ Hid (KMap 98 .i64 wl w.heap.size k f) ∧ Hid (∀ j, j < q → by_ zs (Hs.getD (p + 1 + j) []) ∉ X) ∧ Hid (Below w.heap.size w wl)) (fun i _ => Hs.length - (p + 1) - (intOf i).toNat)
            case atStart => exact ⟨0, by omega, rfl, HM2, (fun j h => absurd h (Nat.not_lt_zero _)), HB2⟩
            case round =>
              clear HM2 HB2 HBO
              obtain ⟨q, hq, rfl, hM3, hN3, hbl3⟩ := hrel
              have hlt3 : ¬ q < Hs.length - (p + 1) := by omega
              have HN4 := hide (HNX.out q hN3.out (by omega))
              have HM4 := hide hM3.out
              have HB4 := hide hbl3.out
              clear hM3 hN3 hbl3 HNX hN
              go_wp2
              go_roundw
              case rel => exact ⟨p + 1, by omega, by go_num, HM4, HN4, HB4⟩
              case measure => simp [intOf]; omega
        · have HP : Hid (MeetPost Hs X w (.returned (.bool false)) wr) := by
            have hpe : p = Hs.length := by omega
            have h9 := hN.out
            rw [hpe] at h9
            exact ⟨false, rfl, ⟨fun _ => noMeet_all h9, fun _ => rfl⟩, hbw⟩
          clear hM hN hbl
          go_wp2
          go_ret
          exact HP.out

end Go.Proofs.Ythbhoohdniamaaa

/- Contract: truth.ByHeads, over what call.Rows tells. -/
namespace Go.Proofs.Ythbhoohdniamaaa
open Go.RowKit

theorem cell_of' {w : World} {b : Nat} {x : Value} {t : TypeId} (h : w.heap[b]? = some (.cells #[x] t)) : w.cell? ⟨b, 0, none⟩ = some x := by simp [World.cell?, h]

def ByPost (n : Nat) (P Hs : List (List Int)) (w : World) (e : Ending) (w' : World) : Prop :=
  ∃ t : Bool, e = .returned (.tuple #[.bool t, .int .i64 0]) ∧ (t = true ↔ P.Nodup ∧ Hs.Nodup ∧ Hs.Pairwise (fun h h' => by_ (un h) h' ∉ hds n P)) ∧ Below w.heap.size w w'

theorem headsOf_length (T : List (List Int)) (k N : Nat) : (headsOf T k N).length = N := by simp [headsOf]

set_option maxRecDepth 20000 in
set_option maxHeartbeats 4000000 in
theorem byHeads_ok (s : ByteArray) (n : Nat) (vp : Option Addr) (vc : Nat) (ts : List (List Bool)) (cv : Value) (cs : List (Int × List (List Int))) (lp : Option Addr) (lc : Nat) (ls : List Int) (T : List (List Int)) (w : World)
    (hs : s.size ≤ 9223372036854775807) (hn : nm s = true) (h1 : 2 ≤ n) (h2 : n ≤ 12) (hl1 : 1 ≤ ts.length) (hl2 : ts.length ≤ 200) (hts : ∀ t, t ∈ ts → tsz t = n) (hv : IntsAll w (.slice vp ts.length vc) (ts.map tpl))
    (hcv : CallsAt w cv cs) (hcl : ∀ c, c < cs.length → (cs.getD c (0, [])).2.length ≤ 1) (hlv : Ints w (.slice lp ls.length lc) ls) (hN1 : 1 ≤ ls.length) (hN2 : ls.length ≤ 400) (hls : ∀ l, l ∈ ls → 0 ≤ l ∧ l < (cs.length : Int))
    (hT : T.length = ls.length * ts.length + 1) (hTr : ∀ h, h ∈ headsOf T ts.length ls.length → Rw n h)
    (hR : ∀ W, Below w.heap.size w W → Calls Try.prog 23 #[meth s n (.slice vp ts.length vc), cv, .slice lp ls.length lc] W (RowsPost T W)) :
    Calls Try.prog 11 #[meth s n (.slice vp ts.length vc), cv, .slice lp ls.length lc] w (ByPost n (ldr n ts) (headsOf T ts.length ls.length) w) := by
  have hmf : ∀ (fn : Fn) (first cap : Array Value) (w : World), (Instr.makeFunc fn first cap).run Try.prog w = .ok (.func fn first cap) w := fun _ _ _ _ => rfl
  have hBW : Below w.heap.size w ((w.alloc (.cells #[.string s, .int .i64 n, .slice vp ts.length vc] 26)).alloc (.cells #[cv] 28)) := ((Below.refl _ _).alloc (Nat.le_refl _) _).alloc (by simp) _
  have HH := hide (heads_ok s n vp ts.length vc cv lp ls.length lc T ((w.alloc (.cells #[.string s, .int .i64 n, .slice vp ts.length vc] 26)).alloc (.cells #[cv] 28)) hl1 hN2 hl2 hT (fun W hb => hR W (hBW.trans (hb.mono hBW.size))))
  have hbox := ((Box.start w s n (.slice vp ts.length vc) 26).below ((Below.refl _ _).alloc (Nat.le_refl _) (.cells #[cv] 28)))
  have hcb : ((w.alloc (.cells #[.string s, .int .i64 n, .slice vp ts.length vc] 26)).alloc (.cells #[cv] 28)).cell? ⟨w.heap.size + 1, 0, none⟩ = some cv := by
    have h9 := heap_alloc_new (w.alloc (.cells #[.string s, .int .i64 n, .slice vp ts.length vc] 26)) (.cells #[cv] 28)
    rw [show (w.alloc (.cells #[.string s, .int .i64 n, .slice vp ts.length vc] 26)).heap.size = w.heap.size + 1 from by simp] at h9
    exact cell_of' h9
  have HCV := hide hcv
  have HCL := hide hcl
  have HLV := hide hlv
  have HLS := hide hls
  have HTR := hide hTr
  have HF := hide (fun W (hb : Below w.heap.size w W) => false_ok s n (.slice vp ts.length vc) ts W hs hn h1 h2 hl1 hl2 hts (hv.below hb))
  have HRW := hide (ldr_rows hts)
  have HRL := hide (ldr_length n ts)
  have HBX := hide hbox
  have HCB := hide hcb
  obtain ⟨cb, coff, ccap, rfl, _, _, _, _⟩ := hcv
  clear hR hcl hlv hls hTr hn hts hv hT hbox
  unfold meth at HH HF
  unfold meth
  go_enter Try.func11, Try.ntmps11
  go_wp2_with fail
  refine HH.out.mono ?_
  rintro e w2 ⟨hd, hvs, rfl, hL2, hb2⟩
  have hB2 : Below w.heap.size w w2 := hBW.trans (hb2.mono hBW.size)
  have hbs2 := hB2.size
  have hcb2 : w2.cell? ⟨w.heap.size + 1, 0, none⟩ = some (.slice (some ⟨cb, coff, none⟩) cs.length ccap) := (hb2.cell (p := ⟨w.heap.size + 1, 0, none⟩) (by simp)).trans HCB.out
  have HB2x := hide (HBX.out.below hb2)
  have HCF := hide (containsFunc_none (w.heap.size + 1) (.slice lp ls.length lc) ls w2 (HLV.out.below hB2) hN1 (fun l hl => by
    obtain ⟨l1, l2⟩ := HLS.out l hl
    obtain ⟨c, rfl⟩ := Int.eq_ofNat_of_zero_le l1
    exact longer_ok c (w.heap.size + 1) _ cs w2 hcb2 (HCV.out.below hB2) (by omega) (HCL.out c (by omega))))
  obtain ⟨hdp, hdc, rfl⟩ := owns_slice hL2.row
  have hhl : hvs.length = ls.length := by rw [hL2.len, headsOf_length]
  have HI2 := hide hL2.ints
  rw [hhl]
  rw [hhl] at HI2
  have g0 := HB2x.out.c0
  have g1 := HB2x.out.c1
  have g2 := HB2x.out.c2
  clear hL2 hb2 hcb2 HH HCB HBX hhl
  go_wp2_with fail
  refine HCF.out.mono ?_
  rintro e w' ⟨rfl, rfl⟩
  go_wp2_with fail
  refine (HF.out w2 hB2).mono ?_
  rintro e w3 ⟨fu, fvs, X, t1, rfl, hpm, hL3, ht1, hb3⟩
  have hbs3 := hb3.size
  have HPM := hide hpm
  have HT1 := hide ht1
  obtain ⟨fp, fc, rfl⟩ := owns_slice hL3.row
  have HI3 := hide hL3.ints
  have hfl : fvs.length = X.length := hL3.len
  rw [hfl]
  rw [hfl] at HI3
  have HIH3 := hide (HI2.out.below hb3)
  have hB3 : Below w.heap.size w w3 := hB2.trans (hb3.mono hbs2)
  have HHl := hide (headsOf_length T ts.length ls.length)
  have HRP := hide (repeated_ok n _ (headsOf T ts.length ls.length) w3 HIH3.out (by omega) h2 HTR.out (by rw [HHl.out]; exact hN1) (by rw [HHl.out]; omega))
  have HXR : Hid (∀ r, r ∈ X → Rw n r) := fun r hr => pr_rows HRW.out r (((hdsTo_fact n (pr (ldr n ts))).2.1 r).1 (HPM.out.mem_iff.1 hr)).1
  have HXL : Hid (X.length ≤ 40000) := by
    have h3 := (hdsTo_fact n (pr (ldr n ts))).2.2
    rw [pr_length, HRL.out] at h3
    have h4 : ts.length * ts.length ≤ 200 * 200 := Nat.mul_le_mul hl2 hl2
    show X.length ≤ 40000
    rw [HPM.out.length_eq]
    show (hdsTo n (pr (ldr n ts))).length ≤ 40000
    omega
  have HMT := hide (fun W (hb : Below w3.heap.size w3 W) => meet_ok n _ _ (headsOf T ts.length ls.length) X W (HIH3.out.below hb) (HI3.out.below hb) (by omega) h2 HTR.out HXR.out (by rw [HHl.out]; exact hN1) (by rw [HHl.out]; omega) HXL.out)
  have HPP : Hid ((headsOf T ts.length ls.length).Pairwise (fun h h' => by_ (un h) h' ∉ X) ↔ (headsOf T ts.length ls.length).Pairwise (fun h h' => by_ (un h) h' ∉ hds n (ldr n ts))) :=
    List.Pairwise.iff (fun a b => by rw [HPM.out.mem_iff])
  clear hpm ht1 hL3 hb3 HF hfl g0 g1 g2
  go_wp2_with fail
  refine HRP.out.mono ?_
  rintro e w4 ⟨i, j, t2, rfl, ht2, hb4⟩
  have HT2 := hide ht2
  have hB4 : Below w.heap.size w w4 := hB3.trans (hb4.mono hB3.size)
  have HM4 := hide (HMT.out w4 hb4)
  clear ht2 hb4 HMT HRP
  cases t1 with
  | true =>
    have HP : Hid (ByPost n (ldr n ts) (headsOf T ts.length ls.length) w (.returned (.tuple #[.bool false, .int .i64 0])) w4) := ⟨false, rfl, ⟨(fun h => by cases h), fun h => absurd (HT1.out.2 h.1) (by decide)⟩, hB4⟩
    go_wp2
    go_ret2
    exact HP.out
  | false =>
    cases t2 with
    | true =>
      have HP : Hid (ByPost n (ldr n ts) (headsOf T ts.length ls.length) w (.returned (.tuple #[.bool false, .int .i64 0])) w4) := ⟨false, rfl, ⟨(fun h => by cases h), fun h => absurd (HT2.out.2 h.2.1) (by decide)⟩, hB4⟩
      go_wp2
      go_ret2
      exact HP.out
    | false =>
      go_wp2_with fail
      refine HM4.out.mono ?_
      rintro e w5 ⟨t3, rfl, ht3, hb5⟩
      have HP : Hid (ByPost n (ldr n ts) (headsOf T ts.length ls.length) w (.returned (.tuple #[.bool (!t3), .int .i64 0])) w5) := by
        refine ⟨!t3, rfl, ?_, hB4.trans (hb5.mono hB4.size)⟩
        rw [← HPP.out, ← ht3]
        have a1 := HT1.out.1 (by first | rfl | trivial)
        have a2 := HT2.out.1 (by first | rfl | trivial)
        cases t3 <;> simp [a1, a2]
      clear ht3 hb5
      go_wp2
      go_ret2
      exact HP.out

end Go.Proofs.Ythbhoohdniamaaa
