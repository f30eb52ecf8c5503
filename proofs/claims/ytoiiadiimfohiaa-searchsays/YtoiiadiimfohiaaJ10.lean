/- Joined: TtQ, TtR, SaM, Rep, Has. -/
import Derived.Test.YtoiiadiimfohiaaJ8
import Derived.Test.YtoiiadiimfohiaaJ9
import Derived.Test.YtoiiadiimfohiaaJ5
import Derived.Test.YtoiiadiimfohiaaJ2
import Derived.Deep.RegionLaw
import Derived.Deep.RegionWith
import Derived.Deep.RegionHeld3
/- Contract: call.Rows. -/
namespace Go.Proofs.Ytoiiadiimfohiaa
open Go.RowKit

theorem Try.info22 : (Try.prog.info? 22).map (fun i => (i.zero, i.size, i.bytes)) = some (some (.slice none 0 0), 1, 24) := by kernel_rfl

/-- The leads of the calls, as rows. -/
structure LLL (ts : List (List Bool)) (SS : List (List (List Bool))) (w : World) (base : Nat) (v : Value) (us : List Value) : Prop where
  row : w.ownsRow base 22 1 v us.length us
  all : ∀ k, k < us.length → ∃ vs, LL w base (us.getD k undef) vs ((calledBy ts (SS.getD k [])).map trow)

theorem LLL.nil (ts : List (List Bool)) (SS : List (List (List Bool))) (w : World) (base : Nat) : LLL ts SS w base (.slice none 0 0) [] := ⟨World.ownsRow_nil _ _ _ _, fun k hk => by simp at hk⟩

theorem LLL.below {ts : List (List Bool)} {SS : List (List (List Bool))} {w w' : World} {base : Nat} {v : Value} {us : List Value} (h : LLL ts SS w base v us) (hb : Below w.heap.size w w') : LLL ts SS w' base v us :=
  ⟨owns_below h.row hb (Nat.le_refl _), fun k hk => by obtain ⟨vs, hv⟩ := h.all k hk; exact ⟨vs, hv.below hb⟩⟩

theorem LLL.push {ts : List (List Bool)} {SS : List (List (List Bool))} {w w4 : World} {base : Nat} {v v' u : Value} {us vs : List Value} {o : Obj} (h : LLL ts SS w base v us) (hu : LL w base u vs ((calledBy ts (SS.getD us.length [])).map trow))
    (hown : w4.ownsRow base 22 1 v' (us.length + 1) (us ++ [u])) (hg : (w.alloc o).grownBy w4 v.ownBlock) : LLL ts SS w4 base v' (us ++ [u]) := by
  have keep : ∀ {x : Value} {ys : List Value} {X : List (List Int)}, LL w base x ys X → LL w4 base x ys X := fun hx =>
    ⟨owns_call (hx.row.alloc o) (h.row.alloc o) hg (by decide), hx.all.mono (fun _ _ _ h' => owns_call (h'.alloc o) (h.row.alloc o) hg (by decide))⟩
  refine ⟨by rw [List.length_append]; exact hown, fun k hk => ?_⟩
  rw [List.length_append, List.length_singleton] at hk
  by_cases hlt : k < us.length
  · obtain ⟨ys, hy⟩ := h.all k hlt
    refine ⟨ys, ?_⟩
    rw [show (us ++ [u]).getD k undef = us.getD k undef from by simp [List.getD, List.getElem?_append_left hlt]]
    exact keep hy
  · obtain rfl : k = us.length := by omega
    refine ⟨vs, ?_⟩
    rw [show (us ++ [u]).getD us.length undef = u from by simp [List.getD]]
    exact keep hu

/-- All changes of a touch. -/
def allOf (ts : List (List Bool)) (SS : List (List (List Bool))) (ls : List Int) : List (List Bool) := (ls.map (fun l => calledBy ts (SS.getD l.toNat []))).flatten

/-- Rows in the making, and the last of them. -/
structure RR (base n : Nat) (F : List (List Bool)) (w : World) (k : Nat) (r rows : Value) (vs : List Value) : Prop where
  ll : LL w base rows vs (leadTo n F k)
  row : w.ownsRow base 3 1 r n ((prd n (F.take k)).map (Value.int .i64))

theorem flat_next {α : Type} {K : Nat} (G : List (List α)) (hG : ∀ g, g ∈ G → g.length = K) {i q : Nat} (hi : i < G.length) {g : List α} (hg : G[i] = g) (hq : q < g.length) : G.flatten.take (i * K + q + 1) = G.flatten.take (i * K + q) ++ [g[q]] := by
  have h1 := flat_drop G i hG hi
  rw [hg] at h1
  rw [Nat.add_assoc, take_more _ (i * K) (q + 1), take_more _ (i * K) q, h1, List.append_assoc, List.take_append_of_le_length (by omega), List.take_append_of_le_length (by omega), List.take_succ_eq_append_getElem hq]

set_option maxRecDepth 20000 in
set_option maxHeartbeats 4000000 in
theorem crows_ok (s : ByteArray) (n : Nat) (vp : Option Addr) (vc : Nat) (ts : List (List Bool)) (cv : Value) (cs : List (Int × List (List Int))) (SS : List (List (List Bool))) (lv : Value) (ls : List Int) (w : World) (hs : s.size ≤ 9223372036854775807) (hn : nm s = true) (h1 : 2 ≤ n) (h2 : n ≤ 12) (hl1 : 1 ≤ ts.length) (hl2 : ts.length ≤ 200)
    (hts : ∀ t, t ∈ ts → tsz t = n) (hv : IntsAll w (.slice vp ts.length vc) (ts.map tpl)) (hcv : CallsAt w cv cs) (hco : CallsOk n ts.length cs) (hc1 : 1 ≤ cs.length) (hc2 : cs.length ≤ 8)
    (hSS : ∀ c, c < cs.length → (cs.getD c (0, [])).2 = (SS.getD c []).map tpl ∧ (∀ t, t ∈ SS.getD c [] → tsz t = n) ∧ (SS.getD c []).length ≤ ts.length)
    (hl : Ints w lv ls) (hN1 : 1 ≤ ls.length) (hN2 : ls.length ≤ 400) (hin : ∀ l, l ∈ ls → 0 ≤ l ∧ l < (cs.length : Int)) (hm : ls.length * ts.length ≤ 20000) :
    Calls Try.prog 25 #[meth s n (.slice vp ts.length vc), cv, lv] w (RowsPost (leadTo n (allOf ts SS ls) (ls.length * ts.length)) w) := by
  obtain ⟨i0, hi0, hz0, hz1, hz2⟩ := info_parts Try.info22
  obtain ⟨j0, hji, hq0, hq1, hq2⟩ := info_parts Try.info26
  have hB0 : Below w.heap.size w (w.alloc (.cells #[.string s, .int .i64 n, .slice vp ts.length vc] 24)) := (Below.refl _ _).alloc (Nat.le_refl _) _
  have hmay := may_ok s n vp vc (ts.map tpl) cv cs lv ls (w.alloc (.cells #[.string s, .int .i64 n, .slice vp ts.length vc] 24)) hs hn h1 h2 (by rw [List.length_map]; exact hl1) (by rw [List.length_map]; exact hl2) (by rw [List.length_map]; exact hv.below hB0) (fun k hk => tile_ok hts hk) (hcv.below hB0) (by rw [List.length_map]; exact hco) hc1 hc2 (hl.below hB0) hN1 hN2 hin (by rw [List.length_map]; exact hm)
  rw [List.length_map] at hmay
  have HM := hide hmay
  have hbox := Box.start w s n (.slice vp ts.length vc) 24
  obtain ⟨b, off, cap, rfl, hb, hlc, hcm, hcell⟩ := hcv
  obtain ⟨lp, lc, rfl⟩ := hl.form
  have HC := hide hcell
  have HSS := hide hSS
  have HBX := hide hbox
  have HI := hide hl
  have HIN := hide hin
  have HTS := hide hts
  have HV := hide hv
  clear hmay hbox hcell hSS hin hts hv hn hco hl
  unfold meth at HM
  unfold meth
  go_enter Try.func25, Try.ntmps25
  go_wp2_with fail
  refine HM.out.mono ?_
  rintro e w1 ⟨rfl, hb1⟩
  have hB1 : Below w.heap.size w w1 := hB0.trans (hb1.mono (by simp))
  have HX1 := hide (HBX.out.below hb1)
  clear HM HBX hb1 hB0
  go_wp2
  go_loopw [9, 28] (fun hv i wr => ∃ (j : Nat) (us : List Value), j ≤ cs.length ∧ i = .int .i64 j ∧ Hid (us.length = j) ∧ Hid (LLL ts SS wr (w.heap.size + 1) hv us) ∧ Hid (Box wr w.heap.size s n (.slice vp ts.length vc)) ∧ Below w.heap.size w wr) (fun _ i _ => cs.length - (intOf i).toNat)
  case atStart => exact ⟨0, [], by omega, rfl, (show ([] : List Value).length = 0 from rfl), LLL.nil _ _ _ _, HX1, hB1⟩
  case round =>
    clear HX1 hB1
    obtain ⟨j, us, hj, rfl, hul, hL, hX, hbw⟩ := hrel
    have hbs := hbw.size
    have hxl := hX.out.lt
    obtain ⟨hp, hc, rfl⟩ := owns_slice hL.out.row
    have hul2 := hul.out
    by_cases hlt : j < cs.length
    · obtain ⟨u, a1, a2, a3⟩ := HC.out j hlt
      obtain ⟨s1, s2, s3⟩ := HSS.out j hlt
      have g1 : wr.cell? ⟨b, off + j * 2, none⟩ = some (.int .i32 (cs.getD j (0, [])).1) := (hbw.cell (by exact hb)).trans a1
      have g2 : wr.cell? ⟨b, off + j * 2 + 1, none⟩ = some u := (hbw.cell (p := ⟨b, off + j * 2 + 1, none⟩) (by exact hb)).trans a2
      rw [s1] at a3
      obtain ⟨up, uc, rfl⟩ := a3.len
      rw [List.length_map] at a3 g2
      have b0 := hX.out.c0
      have b1 := hX.out.c1
      have b2 := hX.out.c2
      have HLO := hide (fun W (hW : Below w.heap.size w W) => leadOf_ok s n vp vc ts (cs.getD j (0, [])).1 up uc (SS.getD j []) W (by omega) h2 hl1 hl2 HTS.out (HV.out.below hW) s2 (a3.below hW) s3)
      clear a1 a2 a3 s1 s2 s3
      generalize (cs.getD j (0, [])).1 = sg at *
      rw [hul2]
      unfold meth at HLO
      have HBA := hide (hbw.alloc hbs (.cells #[.int .i32 sg, .slice up (SS.getD j []).length uc] 47))
      have HXA := hide (hX.out.below ((Below.refl _ _).alloc (Nat.le_refl _) (.cells #[.int .i32 sg, .slice up (SS.getD j []).length uc] 47)))
      have HLA := hide (hL.out.below ((Below.refl _ _).alloc (Nat.le_refl _) (.cells #[.int .i32 sg, .slice up (SS.getD j []).length uc] 47)))
      have hSA : wr.heap.size + 1 = (wr.alloc (.cells #[.int .i32 sg, .slice up (SS.getD j []).length uc] 47)).heap.size := by simp
      clear hX hL
      generalize (SS.getD j []).length = sl at *
      go_wp2_with fail
      refine (HLO.out _ HBA.out).mono ?_
      rintro e w3 ⟨u, vs, rfl, hLu, hb3⟩
      have hbs3 := hb3.size
      rw [← hSA] at hbs3
      have hL3 := HLA.out.below hb3
      have HX3 := hide (HXA.out.below hb3)
      have hbw3 : Below w.heap.size w w3 := HBA.out.trans (hb3.mono HBA.out.size)
      have hLu2 := hLu.low (show w.heap.size + 1 ≤ _ by rw [← hSA]; omega)
      rw [← hul2] at hLu2
      obtain ⟨ap, ac, rfl⟩ := owns_slice hLu2.row
      have hvl3 : vs.length ≤ 200 := by rw [hLu2.len, List.length_map, calledBy_length (HSS.out us.length (by omega)).2.2]; exact hl2
      have hrow := hL3.row
      have HL3 := hide hL3
      have HLU := hide hLu2
      rw [hul2] at hrow
      clear hLu hLu2 hL3 hb3 HLO HXA HLA HBA
      generalize vs.length = al at *
      go_wp2_with (at_builtin; refine wpList_append_own _ rfl _ _ 95 rfl (w.heap.size + 1) 22 i0 (.slice none 0 0) 1 24 Try.underlying95 hi0 hz0 hz1 hz2 rfl (by decide) _ _ _ rfl (hrow.alloc _) ⟨w3.heap.size, 0, none⟩ 1 1 [.slice ap al ac] rfl rfl ?c1 ?c2 ?c3 ?c4 ?c5 ?_)
      case c1 => exact cell_one_new _ _ _
      case c2 => intro u hu; simp at hu; subst hu; rfl
      case c3 => unfold maxLen; omega
      case c4 => omega
      case c5 => simp; omega
      · intro v' w5 hown5 hg5 _
        rw [← hul2] at hown5 hg5
        have HL5 := hide (HL3.out.push HLU.out hown5 hg5)
        have hb5 : Below (w.heap.size + 1) w3 w5 := ((Below.refl _ _).alloc (by omega) _).grown hg5 (by simp; omega) (fun g hg => (HL3.out.row.lt g hg).1)
        have HX5 := hide (HX3.out.keep hb5 (Nat.lt_succ_self _))
        have HV5 : Hid ((us ++ [Value.slice ap al ac]).length = j + 1) := by show _ = _; rw [List.length_append, hul2]; rfl
        have HB5 := hide (hbw3.trans (hb5.mono (Nat.le_succ _)))
        clear hown5 hg5 hb5 hrow HL3 HLU HX3
        go_wp2
        go_roundw
        case rel => exact ⟨j + 1, _, by omega, by go_num, HV5, HL5, HX5, HB5.out⟩
        case measure => simp [intOf]; omega
    · obtain rfl : j = cs.length := by omega
      obtain ⟨W0, hW0⟩ : ∃ W, W = wr := ⟨wr, rfl⟩
      subst hW0
      have hr0 := hL.out.row
      rw [hul2] at hr0
      obtain ⟨gb, gc, hge, hgb1, hgb2, hgc1, hgc2⟩ := owns_form hr0 (by omega)
      have hge' : hp = some ⟨gb, 0, none⟩ ∧ hc = gc := by simpa using hge
      obtain ⟨rfl, rfl⟩ := hge'
      have g1 := hX.out.c1
      have HR0 := hide hr0
      rw [hul2]
      clear hge hr0
      go_wp2_with fail
      refine (rounds_ok n W0 (by omega) h2).mono ?_
      rintro e w2 ⟨r0, rfl, hro, hb2⟩
      obtain ⟨rg, rc, rfl, hrg1, hrg2, hrc, hrc2⟩ := owns_form hro (by omega)
      have hbs2 := hb2.size
      have HRR : Hid (RR W0.heap.size n (allOf ts SS ls) (w2.alloc (.cells #[.slice (some ⟨rg, 0, none⟩) n rc] 26)) (0 * ts.length) (.slice (some ⟨rg, 0, none⟩) n rc) (.slice (some ⟨w2.heap.size, 0, none⟩) 1 1) [.slice (some ⟨rg, 0, none⟩) n rc]) := by
        rw [Nat.zero_mul]
        exact ⟨LL.one (X := rnd n) (by rw [rnd_length]; exact hro) hbs2, hro.alloc _⟩
      have HB2 := hide (hb2.alloc hbs2 (.cells #[.slice (some ⟨rg, 0, none⟩) n rc] 26))
      have hGl : ∀ g, g ∈ ls.map (fun l => calledBy ts (SS.getD l.toNat [])) → g.length = ts.length := by
        intro g hg
        obtain ⟨l, hl, rfl⟩ := List.mem_map.1 hg
        obtain ⟨l1, l2⟩ := HIN.out l hl
        exact calledBy_length (HSS.out l.toNat (by omega)).2.2
      have HGL := hide hGl
      have HFM : Hid (∀ t, t ∈ allOf ts SS ls → tsz t = n) := by
        show ∀ t, _ → _
        intro t ht
        obtain ⟨g, hg, htg⟩ := List.mem_flatten.1 ht
        obtain ⟨l, hl, rfl⟩ := List.mem_map.1 hg
        obtain ⟨l1, l2⟩ := HIN.out l hl
        exact calledBy_mem HTS.out (HSS.out l.toNat (by omega)).2.1 t htg
      clear hro hb2 hGl g1
      have HLLL := hide hL.out
      have hW0s := hbs
      have hW0b := hbw
      clear hL hX
      go_wp2
      go_loopw [12, 14, 49] (fun r rows i wr => ∃ (k : Nat) (vs : List Value), k ≤ ls.length ∧ i = .int .i64 k ∧ Hid (RR W0.heap.size n (allOf ts SS ls) wr (k * ts.length) r rows vs) ∧ Below W0.heap.size W0 wr) (fun _ _ i _ => ls.length - (intOf i).toNat)
      case atStart => exact ⟨0, _, by omega, rfl, HRR, HB2.out⟩
      case round =>
        clear HRR HB2
        obtain ⟨k, vs, hk, rfl, hR, hbk⟩ := hrel
        have hbks := hbk.size
        obtain ⟨yp, yc, rfl⟩ := owns_slice hR.out.ll.row
        obtain ⟨xp, xc, rfl⟩ := owns_slice hR.out.row
        have hvl : vs.length = k * ts.length + 1 := by rw [hR.out.ll.len, leadTo_length]
        rw [hvl]
        by_cases hlt2 : k < ls.length
        · rcases HI.out with ⟨h0, _⟩ | ⟨lb, lo, lcap, hle, hl0, hlc0, hlm, hlb, hlcell⟩
          · rw [h0] at hN1; simp at hN1
          obtain ⟨rfl, rfl⟩ : lp = some ⟨lb, lo, none⟩ ∧ lc = lcap := by simpa using hle
          obtain ⟨y, hy, gl⟩ := cellAt hlcell hlt2
          have hbww : Below w.heap.size w wr := hW0b.trans (hbk.mono hW0s)
          have gl2 := (hbww.cell (p := ⟨lb, lo + k, none⟩) hlb).trans gl
          have hyk : ls[k] = y := by rw [← hy.out, List.getElem?_eq_getElem hlt2, Option.getD_some]
          obtain ⟨y1, y2⟩ := HIN.out y (by rw [← hyk]; exact List.getElem_mem hlt2)
          obtain ⟨c, rfl⟩ := Int.eq_ofNat_of_zero_le y1
          have hcl : c < cs.length := by omega
          obtain ⟨s1, s2, s3⟩ := HSS.out c hcl
          have gh := (hbk.cell (p := ⟨gb, c, none⟩) hgb2).trans (owns_val HR0.out hcl)
          obtain ⟨ys, hys⟩ := HLLL.out.all c (by rw [hul2]; exact hcl)
          have hZl := calledBy_length s3
          have hZn := calledBy_mem HTS.out s2
          have hGk : (ls.map (fun l => calledBy ts (SS.getD l.toNat [])))[k]'(by rw [List.length_map]; exact hlt2) = calledBy ts (SS.getD c []) := by
            rw [List.getElem_map, hyk]; rfl
          have HFN := hide (fun q (hq : q < (calledBy ts (SS.getD c [])).length) => flat_next (ls.map (fun l => calledBy ts (SS.getD l.toNat []))) HGL.out (i := k) (q := q) (by rw [List.length_map]; exact hlt2) hGk hq)
          obtain ⟨zb, zo, zc, hze, hzb, hzc, hzm, hzcell⟩ := hys.ints.cell (by rw [List.length_map, hZl]; exact hl1)
          rw [List.length_map, hZl] at hze hzc
          rw [hze] at gh
          have HZC := hide hzcell
          have HZL := hide hZl
          have HZN := hide hZn
          have hPK : (k + 1) * ts.length ≤ 20000 := Nat.le_trans (Nat.mul_le_mul_right _ hlt2) hm
          rw [Nat.succ_mul] at hPK
          have HSM : Hid ((k + 1) * ts.length = k * ts.length + ts.length) := Nat.succ_mul _ _
          clear s1 s2 s3 hys hGk hze hzcell hZl hZn hle gl hlcell hy
          rw [show ls.map (fun l => calledBy ts (SS.getD l.toNat [])) = ls.map (fun l => calledBy ts (SS.getD l.toNat [])) from rfl] at HFN
          change Hid (∀ q (hq : q < (calledBy ts (SS.getD c [])).length), (allOf ts SS ls).take (k * ts.length + q + 1) = (allOf ts SS ls).take (k * ts.length + q) ++ [(calledBy ts (SS.getD c []))[q]]) at HFN
          generalize calledBy ts (SS.getD c []) = Z at *
          have HR2 : Hid (RR W0.heap.size n (allOf ts SS ls) wr (k * ts.length + 0) (.slice xp n xc) (.slice yp (k * ts.length + 1) yc) vs) := by show RR _ _ _ _ _ _ _ _; rw [Nat.add_zero, ← hvl]; exact hR.out
          clear hR
          generalize k * ts.length = P at *
          go_wp2
          go_loopw [12, 14, 58] (fun r rows i wr => ∃ (q : Nat) (vs : List Value), q ≤ ts.length ∧ i = .int .i64 q ∧ Hid (RR W0.heap.size n (allOf ts SS ls) wr (P + q) r rows vs) ∧ Below W0.heap.size W0 wr) (fun _ _ i _ => ts.length - (intOf i).toNat)
          case atStart => exact ⟨0, _, by omega, rfl, HR2, hbk⟩
          case round =>
            clear HR2 hbk hvl
            obtain ⟨q, vs, hq, rfl, hR, hbk⟩ := hrel
            have hbks := hbk.size
            obtain ⟨yp, yc, rfl⟩ := owns_slice hR.out.ll.row
            obtain ⟨xp, xc, rfl⟩ := owns_slice hR.out.row
            have hvl : vs.length = P + q + 1 := by rw [hR.out.ll.len, leadTo_length]
            rw [hvl]
            by_cases hlt3 : q < ts.length
            · have hqz : q < Z.length := by rw [HZL.out]; exact hlt3
              obtain ⟨p, pc, gx, hix⟩ := HZC.out q (by rw [List.length_map]; exact hqz)
              have hgk : (Z.map trow).getD q [] = trow Z[q] := by simp [List.getD, hqz]
              have ht : tsz Z[q] = n := HZN.out _ (List.getElem_mem hqz)
              have hix2 := hix.out
              rw [hgk] at hix2 gx
              have hnx := HFN.out q hqz
              have HTK : Hid (prd n ((allOf ts SS ls).take (P + q + 1)) = by_ (prd n ((allOf ts SS ls).take (P + q))) (trow Z[q])) := by show _ = _; rw [hnx, prd_snoc]
              have hpr := prd_row n ((allOf ts SS ls).take (P + q)) (fun t ht' => HFM.out t (List.mem_of_mem_take ht'))
              have gy := (hbk.cell (p := ⟨zb, zo + q, none⟩) hzb).trans gx
              have HT := hide (times_own _ _ (prd n ((allOf ts SS ls).take (P + q))) (trow Z[q]) wr (Ints.own hR.out.row) (hix2.below hbk) hpr.1 (trow_row _) (by rw [hpr.2]; omega) (by rw [hpr.2]; omega) (by rw [trow_length, hpr.2, ht]))
              rw [hpr.2, ← HTK.out] at HT
              clear hnx hix hix2 hgk gx hpr HTK
              rw [trow_length, ht] at gy HT
              clear ht
              go_wp2_with fail
              refine HT.out.mono ?_
              rintro e w4 ⟨rn, rfl, hrn, hb4⟩
              obtain ⟨g', rc', rfl, hg3, hg4, hrc3, hrc4⟩ := owns_form hrn (by omega)
              have hL4 := hR.out.ll.below hb4
              have hbs4 := hb4.size
              have hbk4 : Below W0.heap.size W0 w4 := hbk.trans (hb4.mono hbks)
              have hrn' := owns_base hrn hbks
              have hrow4 := hL4.row
              rw [hvl] at hrow4
              have HL4 := hide hL4
              have HRN := hide hrn'
              clear hrn hrn' hL4 HT hb4 hR gy
              go_wp2_with (at_builtin; refine wpList_append_own _ rfl _ _ 22 rfl W0.heap.size 26 j0 (.slice none 0 0) 1 24 Try.underlying22 hji hq0 hq1 hq2 rfl (by decide) _ _ _ rfl (hrow4.alloc _) ⟨w4.heap.size, 0, none⟩ 1 1 [.slice (some ⟨g', 0, none⟩) n rc'] rfl rfl ?e1 ?e2 ?e3 ?e4 ?e5 ?_)
              case e1 => exact cell_one_new _ _ _
              case e2 => intro u hu; simp at hu; subst hu; rfl
              case e3 => unfold maxLen; omega
              case e4 => omega
              case e5 => simp; omega
              · intro v' w5 hown5 hg5 _
                rw [← hvl] at hown5 hg5
                have HR5 : Hid (RR W0.heap.size n (allOf ts SS ls) w5 (P + (q + 1)) (.slice (some ⟨g', 0, none⟩) n rc') v' (vs ++ [.slice (some ⟨g', 0, none⟩) n rc'])) := by
                  refine ⟨?_, HL4.out.kept HRN.out hg5⟩
                  rw [← Nat.add_assoc, leadTo_snoc]
                  refine HL4.out.push ?_ hown5 hg5
                  rw [(prd_row n ((allOf ts SS ls).take (P + q + 1)) (fun t ht' => HFM.out t (List.mem_of_mem_take ht'))).2]
                  exact HRN.out
                have HB5 := hide (HL4.out.step hbk4 (Nat.le_refl _) (by omega) hg5)
                clear hown5 hg5 hrow4 HL4 HRN
                go_wp2
                go_roundw
                case rel => exact ⟨q + 1, _, by omega, by go_num, HR5, HB5.out⟩
                case measure => simp [intOf]; omega
            · obtain rfl : q = ts.length := by omega
              have HR3 : Hid (RR W0.heap.size n (allOf ts SS ls) wr ((k + 1) * ts.length) (.slice xp n xc) (.slice yp (P + ts.length + 1) yc) vs) := by show RR _ _ _ _ _ _ _ _; rw [HSM.out, ← hvl]; exact hR.out
              clear hR
              go_wp2
              go_roundw
              case rel => exact ⟨k + 1, _, by omega, by go_num, HR3, hbk⟩
              case measure => simp [intOf]; omega
        · obtain rfl : k = ls.length := by omega
          have HF := hide hR.out.ll
          clear hR
          rw [hvl] at HF
          have HFin : Hid (Below w.heap.size w wr) := hW0b.trans (hbk.mono hW0s)
          go_wp2
          go_ret2
          exact ⟨_, vs, rfl, HF.out.low hW0s, HFin.out⟩

end Go.Proofs.Ytoiiadiimfohiaa

/- Plain: what the answer's calls are; the leads of a touch differ in their last change alone. -/
namespace Go.Proofs.Ytoiiadiimfohiaa
open Go.RowKit

theorem ceCalls_get {es : List Ce} {k : Nat} (hk : k < es.length) : (ceCalls es).getD k (0, []) = (es[k].sign, es[k].chs) := by
  simp [ceCalls, List.getD, hk]

theorem Cok.callsOk {n K : Nat} {w : World} {base : Nat} {es : List Ce} (h : Cok n w base es) (hm : es.length ≤ 8) (hK : 1 ≤ K) : CallsOk n K (ceCalls es) := by
  have hl : (ceCalls es).length = es.length := by simp [ceCalls]
  have hsg : ∀ k (hk : k < es.length), es[k].sign = sgnOf k := fun k hk => by
    have := h.sign k hk
    rwa [List.getD_eq_getElem?_getD, List.getElem?_eq_getElem hk, Option.getD_some] at this
  refine ⟨fun j hj => ?_, fun i j hij hj => ?_, fun j hj => ?_, fun j hj q hq => ?_⟩
  · rw [hl] at hj
    rw [ceCalls_get hj]
    show sgnR es[j].sign = true
    rw [hsg j hj]; refine sgn_letter ?_; unfold sgnOf; split <;> omega
  · rw [hl] at hj
    rw [ceCalls_get hj, ceCalls_get (show i < es.length by omega)]
    show es[i].sign ≠ es[j].sign
    rw [hsg j hj, hsg i (by omega)]; unfold sgnOf; split <;> split <;> omega
  · rw [hl] at hj
    rw [ceCalls_get hj]
    exact Nat.le_trans (h.few _ (List.getElem_mem hj)) hK
  · rw [hl] at hj
    rw [ceCalls_get hj] at hq ⊢
    exact h.ok _ (List.getElem_mem hj) q hq

theorem tiles_of {n : Nat} : ∀ (X : List (List Int)), (∀ j, j < X.length → okc n 0 (X.getD j []) = true) → ∃ ss : List (List Bool), X = ss.map tpl ∧ ∀ t, t ∈ ss → tsz t = n
  | [], _ => ⟨[], rfl, fun t ht => by cases ht⟩
  | x :: X, h => by
    obtain ⟨t, ht1, ht2⟩ := (okc_iff n x).1 (h 0 (by simp))
    obtain ⟨ss, hs, hn⟩ := tiles_of X (fun j hj => by have := h (j + 1) (by simp; omega); simpa [List.getD] using this)
    refine ⟨t :: ss, by rw [List.map_cons, ht2, ← hs], fun t' h' => ?_⟩
    rcases List.mem_cons.1 h' with e | e
    · rw [e]; exact ht1
    · exact hn t' e

theorem tiles_all {n : Nat} : ∀ (es : List Ce), (∀ e, e ∈ es → ∀ j, j < e.chs.length → okc n 0 (e.chs.getD j []) = true) → ∃ SS : List (List (List Bool)), SS.length = es.length ∧ ∀ c (hc : c < es.length), es[c].chs = (SS.getD c []).map tpl ∧ ∀ t, t ∈ SS.getD c [] → tsz t = n
  | [], _ => ⟨[], rfl, fun c hc => by simp at hc⟩
  | e :: es, h => by
    obtain ⟨ss, h1, h2⟩ := tiles_of e.chs (h e (by simp))
    obtain ⟨SS, h3, h4⟩ := tiles_all es (fun e' h' => h e' (List.mem_cons_of_mem _ h'))
    refine ⟨ss :: SS, by simp [h3], fun c hc => ?_⟩
    cases c with
    | zero => exact ⟨h1, h2⟩
    | succ c => exact h4 c (by simpa using hc)

theorem Cok.tiles {n : Nat} {w : World} {base : Nat} {es : List Ce} (h : Cok n w base es) : ∃ SS : List (List (List Bool)), ∀ c, c < es.length → ((ceCalls es).getD c (0, [])).2 = (SS.getD c []).map tpl ∧ (∀ t, t ∈ SS.getD c [] → tsz t = n) ∧ (SS.getD c []).length ≤ 1 := by
  obtain ⟨SS, _, h2⟩ := tiles_all es h.ok
  refine ⟨SS, fun c hc => ?_⟩
  obtain ⟨h3, h4⟩ := h2 c hc
  rw [ceCalls_get hc]
  refine ⟨h3, h4, ?_⟩
  have := h.few _ (List.getElem_mem hc)
  rw [h3, List.length_map] at this
  exact this

theorem calledBy_take {ts ss : List (List Bool)} (h : ss.length ≤ 1) {q : Nat} (hq : q < ts.length) : (calledBy ts ss).take q = ts.take q := by
  unfold calledBy
  rw [List.take_append_of_le_length (by rw [List.length_take]; omega), List.take_take, Nat.min_eq_left (by omega)]

/-- The rows of a touch by calls that have at most one change, where they are called. -/
theorem touch_used {n : Nat} {ts : List (List Bool)} {SS : List (List (List Bool))} {ls : List Int} (hl1 : 1 ≤ ts.length) (hts : ∀ t, t ∈ ts → tsz t = n) (hS : ∀ l, l ∈ ls → (∀ t, t ∈ SS.getD l.toNat [] → tsz t = n) ∧ (SS.getD l.toNat []).length ≤ 1) :
    (leadTo n (allOf ts SS ls) (ls.length * ts.length)).take (ls.length * ts.length) = touchRows (headsOf (leadTo n (allOf ts SS ls) (ls.length * ts.length)) ts.length ls.length) (ldr n ts) ∧ ∀ t, t ∈ allOf ts SS ls → tsz t = n := by
  have hG : ∀ g, g ∈ ls.map (fun l => calledBy ts (SS.getD l.toNat [])) → g.length = ts.length := by
    intro g hg
    obtain ⟨l, hl, rfl⟩ := List.mem_map.1 hg
    exact calledBy_length (Nat.le_trans (hS l hl).2 hl1)
  have hFn : ∀ t, t ∈ allOf ts SS ls → tsz t = n := by
    intro t ht
    obtain ⟨g, hg, htg⟩ := List.mem_flatten.1 ht
    obtain ⟨l, hl, rfl⟩ := List.mem_map.1 hg
    exact calledBy_mem hts (hS l hl).1 t htg
  refine ⟨touch_rows (N := ls.length) hl1 rfl (by unfold allOf; rw [flat_length _ hG, List.length_map]) hFn hts (fun m' q hm hq => ?_) ls.length (Nat.le_refl _), hFn⟩
  unfold allOf
  rw [flat_drop _ m' hG (by rw [List.length_map]; exact hm), List.getElem_map]
  have h1 := (hS ls[m'] (List.getElem_mem hm)).2
  rw [List.take_append_of_le_length (by rw [calledBy_length (Nat.le_trans h1 hl1)]; omega)]
  exact calledBy_take h1 hq

/-- The rows of a touch by calls of at most one change. -/
theorem touch_all {n m : Nat} {ts : List (List Bool)} {SS : List (List (List Bool))} {ls : List Int} (hl1 : 1 ≤ ts.length) (hts : ∀ t, t ∈ ts → tsz t = n) (hin : ∀ l, l ∈ ls → 0 ≤ l ∧ l < (m : Int)) (hS : ∀ c, c < m → (∀ t, t ∈ SS.getD c [] → tsz t = n) ∧ (SS.getD c []).length ≤ 1) :
    (leadTo n (allOf ts SS ls) (ls.length * ts.length)).take (ls.length * ts.length) = touchRows (headsOf (leadTo n (allOf ts SS ls) (ls.length * ts.length)) ts.length ls.length) (ldr n ts) ∧ ∀ t, t ∈ allOf ts SS ls → tsz t = n :=
  touch_used hl1 hts (fun l hl => hS l.toNat (by have := hin l hl; omega))

/-- The changes of a touch are of so many bells. -/
theorem allOf_size {n : Nat} {ts : List (List Bool)} {SS : List (List (List Bool))} {ls : List Int} (hts : ∀ t, t ∈ ts → tsz t = n) (hS : ∀ l, l ∈ ls → ∀ t, t ∈ SS.getD l.toNat [] → tsz t = n) : ∀ t, t ∈ allOf ts SS ls → tsz t = n := by
  intro t ht
  obtain ⟨g, hg, htg⟩ := List.mem_flatten.1 ht
  obtain ⟨l, hl, rfl⟩ := List.mem_map.1 hg
  exact calledBy_mem hts (hS l hl) t htg

end Go.Proofs.Ytoiiadiimfohiaa

/- Plain: the rows of a touch, as call.Rows tells them, and the leads of a search. -/
namespace Go.Proofs.Ytoiiadiimfohiaa
open Go.RowKit

/-- The leads by calls, packed. -/
noncomputable def gOf (n : Nat) (ts : List (List Bool)) (SS : List (List (List Bool))) (C : Nat) : List (List Pm × Pm) :=
  (List.range C).map (fun c => (((leadTo n (calledBy ts (SS.getD c [])) ts.length).take ts.length).map pad, pad (prd n (calledBy ts (SS.getD c [])))))

theorem gOf_length (n : Nat) (ts : List (List Bool)) (SS : List (List (List Bool))) (C : Nat) : (gOf n ts SS C).length = C := by simp [gOf]

theorem gOf_get (n : Nat) (ts : List (List Bool)) (SS : List (List (List Bool))) {C c : Nat} (h : c < C) : (gOf n ts SS C).getD c ([], 1) = (((leadTo n (calledBy ts (SS.getD c [])) ts.length).take ts.length).map pad, pad (prd n (calledBy ts (SS.getD c [])))) := by
  simp [gOf, List.getD, h]

noncomputable def rowsP (n : Nat) (F : List (List Bool)) (m : Nat) : List Pm := (List.range m).map (fun j => pad (prd n (F.take j)))

theorem rowsP_lead (n : Nat) (F : List (List Bool)) (m : Nat) : ((leadTo n F m).take m).map pad = rowsP n F m := by
  unfold leadTo rowsP
  rw [← List.map_take, List.map_map, List.range_succ, List.take_append_of_le_length (by simp), List.take_of_length_le (by simp)]
  rfl

theorem rowsP_append {n K m : Nat} (h12 : n ≤ 12) {A F : List (List Bool)} (hA : A.length = K) (hAn : ∀ t, t ∈ A → tsz t = n) (hFn : ∀ t, t ∈ F → tsz t = n) : rowsP n (A ++ F) (K + m) = rowsP n A K ++ (rowsP n F m).map (fun x => pad (prd n A) * x) := by
  unfold rowsP
  rw [List.range_add, List.map_append, List.map_map, List.map_map]
  congr 1
  · refine List.map_congr_left (fun j hj => ?_)
    have hj' : j < K := by simpa using hj
    rw [List.take_append_of_le_length (by omega)]
  · refine List.map_congr_left (fun j _ => ?_)
    show pad (prd n ((A ++ F).take (K + j))) = pad (prd n A) * pad (prd n (F.take j))
    have h1 := prd_row n A hAn
    have h2 := prd_row n (F.take j) (fun t ht => hFn t (List.mem_of_mem_take ht))
    rw [← pad_by (by rw [h1.2]; exact h12) h1.1 h2.1 (by rw [h2.2, h1.2]), ← prd_append A (F.take j) hAn (fun t ht => hFn t (List.mem_of_mem_take ht))]
    congr 2
    rw [← hA, List.take_length_add_append]

theorem touch_pm {n C : Nat} (h12 : n ≤ 12) {ts : List (List Bool)} {SS : List (List (List Bool))} (hl1 : 1 ≤ ts.length) (hts : ∀ t, t ∈ ts → tsz t = n) (hS : ∀ c, c < C → (∀ t, t ∈ SS.getD c [] → tsz t = n) ∧ (SS.getD c []).length ≤ ts.length) :
    ∀ ls : List Nat, (∀ c, c ∈ ls → c < C) → (rowsP n (allOf ts SS (nI ls)) (ls.length * ts.length) = tRows (gOf n ts SS C) 1 ls ∧ pad (prd n (allOf ts SS (nI ls))) = tEnd (gOf n ts SS C) 1 ls) ∧ ∀ t, t ∈ allOf ts SS (nI ls) → tsz t = n
  | [], _ => by
    refine ⟨⟨by simp [rowsP, tRows], ?_⟩, fun t ht => by simp [allOf, nI] at ht⟩
    show pad (rnd n) = 1
    exact pad_rnd h12
  | c :: ls, hc => by
    obtain ⟨⟨ih1, ih2⟩, ih3⟩ := touch_pm h12 hl1 hts hS ls (fun x hx => hc x (List.mem_cons_of_mem _ hx))
    have hcC := hc c (by simp)
    have hAl : (calledBy ts (SS.getD c [])).length = ts.length := calledBy_length (hS c hcC).2
    have hAn := calledBy_mem hts (hS c hcC).1
    have hF : allOf ts SS (nI (c :: ls)) = calledBy ts (SS.getD c []) ++ allOf ts SS (nI ls) := by
      simp [allOf, nI]
    have hh := tRows_head (gOf n ts SS C) ls (pad (prd n (calledBy ts (SS.getD c [])))) 1
    rw [Pm.mul_one] at hh
    refine ⟨⟨?_, ?_⟩, fun t ht => ?_⟩
    · rw [hF, List.length_cons, Nat.succ_mul, Nat.add_comm, rowsP_append h12 hAl hAn ih3, ih1]
      show _ = rws 1 _ ++ tRows _ (1 * _) ls
      rw [gOf_get n ts SS hcC, Pm.one_mul, hh.1, rowsP_lead]
      congr 1
      unfold rws
      exact ((List.map_congr_left (fun x _ => Pm.one_mul x)).trans (List.map_id _)).symm
    · rw [hF, prd_append _ _ hAn ih3]
      have h1 := prd_row n _ hAn
      have h2 := prd_row n _ ih3
      rw [pad_by (by rw [h1.2]; exact h12) h1.1 h2.1 (by rw [h2.2, h1.2]), ih2]
      show _ = tEnd _ (1 * _) ls
      rw [gOf_get n ts SS hcC, Pm.one_mul, hh.2]
    · rw [hF] at ht
      rcases List.mem_append.1 ht with h | h
      · exact hAn t h
      · exact ih3 t h

/-- True: no row but the last comes twice, as packed rows or not. -/
theorem nodup_pad {n : Nat} (h12 : n ≤ 12) {L : List (List Int)} (hL : ∀ r, r ∈ L → isRow r ∧ r.length = n) : (L.map pad).Nodup ↔ L.Nodup := by
  induction L with
  | nil => simp
  | cons x t ih =>
    have hx := hL x (by simp)
    rw [List.map_cons, List.nodup_cons, List.nodup_cons, ih (fun r hr => hL r (List.mem_cons_of_mem _ hr))]
    have : pad x ∈ t.map pad ↔ x ∈ t := by
      rw [List.mem_map]
      constructor
      · rintro ⟨y, hy, e⟩
        have hy' := hL y (List.mem_cons_of_mem _ hy)
        have := pad_inj (by rw [hy'.2]; exact h12) hy'.1 hx.1 (by rw [hx.2, hy'.2]) e
        exact this ▸ hy
      · exact fun h => ⟨x, h, rfl⟩
    rw [this]

end Go.Proofs.Ytoiiadiimfohiaa

/- A chain of links in memory: what lies where, what each step leaves as it was. -/
namespace Go.Proofs.Ytoiiadiimfohiaa
open Go.RowKit

/-! frames, cell by cell -/

structure Keep (S : Nat → Nat → Prop) (w w' : World) : Prop where
  os : w'.os = w.os
  tape : w'.tape = w.tape
  output : w'.output = w.output
  size : w.heap.size ≤ w'.heap.size
  block : ∀ b, b < w.heap.size → (∀ x, ¬ S b x) → w'.heap[b]? = w.heap[b]?
  cell : ∀ b x, b < w.heap.size → ¬ S b x → w'.cell? ⟨b, x, none⟩ = w.cell? ⟨b, x, none⟩

theorem Keep.refl (S : Nat → Nat → Prop) (w : World) : Keep S w w := ⟨rfl, rfl, rfl, Nat.le_refl _, fun _ _ _ => rfl, fun _ _ _ _ => rfl⟩

theorem Keep.trans {S S1 : Nat → Nat → Prop} {w w1 w2 : World} (h : Keep S w w1) (h1 : Keep S1 w1 w2) (hs : ∀ b x, b < w.heap.size → S1 b x → S b x) : Keep S w w2 :=
  ⟨h1.os.trans h.os, h1.tape.trans h.tape, h1.output.trans h.output, Nat.le_trans h.size h1.size,
    fun b hb hn => (h1.block b (Nat.lt_of_lt_of_le hb h.size) (fun x hx => hn x (hs b x hb hx))).trans (h.block b hb hn),
    fun b x hb hn => (h1.cell b x (Nat.lt_of_lt_of_le hb h.size) (fun hx => hn (hs b x hb hx))).trans (h.cell b x hb hn)⟩

theorem Keep.mono {S S' : Nat → Nat → Prop} {w w' : World} (h : Keep S w w') (hs : ∀ b x, S b x → S' b x) : Keep S' w w' :=
  ⟨h.os, h.tape, h.output, h.size, fun b hb hn => h.block b hb (fun x hx => hn x (hs b x hx)), fun b x hb hn => h.cell b x hb (fun hx => hn (hs b x hx))⟩

theorem Keep.of_below {S : Nat → Nat → Prop} {w w' : World} {B : Nat} (h : Below B w w') (hB : w.heap.size ≤ B) : Keep S w w' :=
  ⟨h.os, h.tape, h.output, h.size, fun b hb _ => h.block b (by omega), fun b x hb _ => h.cell (p := ⟨b, x, none⟩) (by show b < B; omega)⟩

theorem Keep.toBelow {S : Nat → Nat → Prop} {w w' : World} {B : Nat} (h : Keep S w w') (hB : B ≤ w.heap.size) (hs : ∀ b x, b < B → ¬ S b x) : Below B w w' :=
  ⟨h.os, h.tape, h.output, h.size, fun b hb => h.block b (by omega) (fun x => hs b x hb)⟩

/-! what lies where -/

structure St where
  m : Nat
  vb : Value
  vg : Value

structure Raw where
  base : Nat
  n : Nat
  f : Int → Option Value
  bs : List Value
  gs : List Pm

def gcells : List Pm → List Value
  | [] => []
  | x :: t => x.l.map (Value.int .i8) ++ gcells t

theorem gcells_length : ∀ gs : List Pm, (gcells gs).length = gs.length * 12
  | [] => rfl
  | x :: t => by simp [gcells, gcells_length t, x.len]; omega

theorem gcells_snoc (gs : List Pm) (p : Pm) : gcells (gs ++ [p]) = gcells gs ++ p.l.map (Value.int .i8) := by
  induction gs with
  | nil => simp [gcells]
  | cons x t ih => simp [gcells, ih]

def updS (st : Nat → St) (k : Nat) (s : St) : Nat → St := fun j => if j = k then s else st j

theorem owns_obj {w : World} {base e size n : Nat} {v : Value} {xs : List Value} (h : w.ownsRow base e size v n xs) {b : Nat} (hb : v.ownBlock = some b) : ∃ cur, w.heap[b]? = some (.cells cur e) := by
  rcases h.2 with ⟨rfl, _⟩ | ⟨g, cap, cur, rfl, _, hh, _⟩
  · cases hb
  · have : g = b := by simpa [Value.ownBlock] using hb
    subst this; exact ⟨cur, hh⟩

theorem owns_of_block {w w' : World} {base e size n : Nat} {v : Value} {xs : List Value} (h : w.ownsRow base e size v n xs) (hb : ∀ b, v.ownBlock = some b → w'.heap[b]? = w.heap[b]?) : w'.ownsRow base e size v n xs := by
  obtain ⟨h1, h2⟩ := h
  refine ⟨h1, ?_⟩
  rcases h2 with h2 | ⟨g, cap, cur, rfl, r1, hh, r2⟩
  · exact Or.inl h2
  · exact Or.inr ⟨g, cap, cur, rfl, r1, (hb g rfl).trans hh, r2⟩

/-- Which cells the links from k on may still change. -/
def Foot (g k : Nat) (R : List Raw) (st : Nat → St) (b x : Nat) : Prop :=
  (b = g ∧ 4 * k ≤ x) ∨ ∃ j r, k ≤ j ∧ R[j]? = some r ∧ (b = (st j).m ∨ ((st j).vb.ownBlock = some b ∧ r.bs.length ≤ x) ∨ ((st j).vg.ownBlock = some b ∧ 12 * r.gs.length ≤ x))

theorem get_lt {R : List Raw} {k : Nat} {r : Raw} (h : R[k]? = some r) : k < R.length := (List.getElem?_eq_some_iff.1 h).1

theorem owns_prefix {w w' : World} {base e size n n' : Nat} {v v' : Value} {xs ys : List Value} {b x : Nat} (h : w.ownsRow base e size v n xs) (h' : w'.ownsRow base e size v' n' (xs ++ ys)) (hb : v.ownBlock = some b) (hb' : v'.ownBlock = some b) (hx : x < xs.length) :
    w'.cell? ⟨b, x, none⟩ = w.cell? ⟨b, x, none⟩ := by
  have h1 := h.cells hb x xs[x] (List.getElem?_eq_getElem hx)
  have h2 := h'.cells hb' x xs[x] (by rw [List.getElem?_append_left hx]; exact List.getElem?_eq_getElem hx)
  rw [Addr.add_lit, Nat.zero_add] at h1 h2
  rw [h1, h2]

theorem cell_setCell_ne (w : World) (b x y : Nat) (u : Value) (b' : Nat) (h : b' ≠ b ∨ y ≠ x) : (w.setCell ⟨b, x, none⟩ u).cell? ⟨b', y, none⟩ = w.cell? ⟨b', y, none⟩ := by
  refine World.cell?_setCell_other _ _ _ _ (fun e => ?_)
  simp only [Addr.mk.injEq] at e
  rcases h with h | h
  · exact h e.1.symm
  · exact h e.2.1.symm

theorem obj_setCell {w : World} {g x T : Nat} {cs : Array Value} (u : Value) (h : w.heap[g]? = some (.cells cs T)) : ∃ cs', (w.setCell ⟨g, x, none⟩ u).heap[g]? = some (.cells cs' T) ∧ cs'.size = cs.size := by
  refine ⟨cs.setIfInBounds x u, ?_, by simp⟩
  simp [World.setCell, Array.getElem?_modify, h]

end Go.Proofs.Ytoiiadiimfohiaa

/- Contract: has. -/
namespace Go.Proofs.Ytoiiadiimfohiaa
open Go.RowKit

/-! steps of a region that draws -/
section
variable {ops : Array Oper} {o : Oper} {a : Act} {w : World} {K : Act → World → Prop} {Q : Exit → Act → World → Prop} {E : Prop}

theorem step_value (hg : o.guard = none) {v : Value} {w' : World} (hrun : (execOp a.eval o).run Try.prog w = .ok (.value v) w') (h : K (a.put o.dst v) w') : if Region.wanted o (yielded ops a.tmps) = true then Oper.wp Try.prog o a w K Q else E := by
  have hw : Region.wanted o (yielded ops a.tmps) = true := by simp [Region.wanted, hg]
  rw [if_pos hw]
  unfold Oper.wp
  rw [hrun]
  exact h

theorem step_skip (hg : o.guard = none) {w' : World} (hrun : (execOp a.eval o).run Try.prog w = .ok (.skip) w') (h : K (a.put o.dst undef) w') : if Region.wanted o (yielded ops a.tmps) = true then Oper.wp Try.prog o a w K Q else E := by
  have hw : Region.wanted o (yielded ops a.tmps) = true := by simp [Region.wanted, hg]
  rw [if_pos hw]
  unfold Oper.wp
  rw [hrun]
  exact h

theorem step_look_ok (hg : o.guard = none) (m x : Operand) (t : TypeId) (hop : o.op = Op.lookup t m x true) (e : TypeId) (ht : Try.prog.underlying t = some (.map 3 e)) {z : Value} (hz : (zeroValue e).run Try.prog w = .ok z w)
    {b n : Nat} {f : Int → Option Value} (h : IMap w b n f) (k : Int) (hm : a.eval m = .map (some b)) (hx : a.eval x = .int .i64 k) (h1 : -9223372036854775808 ≤ k) (h2 : k ≤ 9223372036854775807)
    (hK : K (a.put o.dst (.tuple #[(f k).getD z, .bool (f k).isSome])) w) : if Region.wanted o (yielded ops a.tmps) = true then Oper.wp Try.prog o a w K Q else E :=
  step_value hg (by unfold execOp; simp only [hop, hm, hx, h.look_ok ht hz h1 h2, Sem.run_bind, Sem.run_pure, Result.andThen_ok]) hK

theorem step_look (hg : o.guard = none) (m x : Operand) (t : TypeId) (hop : o.op = Op.lookup t m x false) (e : TypeId) (ht : Try.prog.underlying t = some (.map 3 e)) {z : Value} (hz : (zeroValue e).run Try.prog w = .ok z w)
    {b n : Nat} {f : Int → Option Value} (h : IMap w b n f) (k : Int) (hm : a.eval m = .map (some b)) (hx : a.eval x = .int .i64 k) (h1 : -9223372036854775808 ≤ k) (h2 : k ≤ 9223372036854775807)
    (hK : K (a.put o.dst ((f k).getD z)) w) : if Region.wanted o (yielded ops a.tmps) = true then Oper.wp Try.prog o a w K Q else E :=
  step_value hg (by unfold execOp; simp only [hop, hm, hx, h.look ht hz h1 h2, Sem.run_bind, Sem.run_pure, Result.andThen_ok]) hK

theorem step_put (hg : o.guard = none) (m x v : Operand) (t : TypeId) (hop : o.op = Op.mapUpdate t m x v) (e : TypeId) (ht : Try.prog.underlying t = some (.map 3 e))
    {b n : Nat} {f : Int → Option Value} (h : IMap w b n f) (hn : n < maxLen) (k : Int) (val : Value) (hm : a.eval m = .map (some b)) (hx : a.eval x = .int .i64 k) (hv : a.eval v = val) (h1 : -9223372036854775808 ≤ k) (h2 : k ≤ 9223372036854775807)
    (hK : ∀ w', IMap w' b (n + 1) (upd f k val) → w.grownBy w' (some b) → K (a.put o.dst undef) w') : if Region.wanted o (yielded ops a.tmps) = true then Oper.wp Try.prog o a w K Q else E := by
  obtain ⟨w', hrun, r1, r2⟩ := h.put ht hn h1 h2 val
  exact step_skip hg (by unfold execOp; simp only [hop, hm, hx, hv, hrun, Sem.run_bind, Sem.run_pure, Result.andThen_ok]) (hK w' r1 r2)
end

/-- A store into the block that was made last. -/
theorem wpList_store_new {ops : Array Oper} {rest : List Oper} {op : Oper} {a : Act} {w : World} {Q : Exit → Act → World → Prop} (hgd : op.guard = none) (T : TypeId) (x y : Operand) (ho : op.op = .store T x y) (c c' : Array Value)
    (hx : a.eval x = .pointer (some ⟨w.heap.size, 0, none⟩)) (hy : a.eval y = .agg c') (hi : (Try.prog.info? T).map (·.size) = some c'.size) (hs : c.size = c'.size) (h1 : c'.all (·.oneCell') = true)
    (h : wpList Try.prog ops Q rest (a.put op.dst undef) (w.alloc (.cells c' T))) : wpList Try.prog ops Q (op :: rest) a (w.alloc (.cells c T)) := by
  refine wpList_plain hgd fun K hK => ?_
  unfold Oper.wp execOp
  simp only [ho, hx, hy, run_storeAt_new w T c c' hi hs h1, Sem.run_bind, Sem.run_pure, Result.andThen_ok]
  exact hK _ _ h

/-! links as they lie -/

def tabF (tab : List (Nat × Pm)) : Int → Option Value := fun a => if 0 ≤ a then (tab.lookup a.toNat).map pv else none

def rawOf (l : Lk) : Raw := ⟨l.base, l.tab.length, tabF l.tab, l.tab.map (fun e => .int .i64 ((e.1 : Nat) : Int)), l.gens⟩

theorem tabF_nat (tab : List (Nat × Pm)) (b : Nat) : tabF tab (b : Int) = (tab.lookup b).map pv := by unfold tabF; rw [if_pos (by omega), Int.toNat_natCast]

theorem hasC_step {C : List Lk} {j : Nat} {l : Lk} (hl : C[j]? = some l) (q : Pm) : hasC (C.drop j) q = (l.tab.lookup (q.act l.base)).elim false (fun u => hasC (C.drop (j + 1)) (u⁻¹ * q)) := by
  obtain ⟨hj, rfl⟩ := List.getElem?_eq_some_iff.1 hl
  rw [List.drop_eq_getElem_cons hj]
  rfl

theorem owns_slice12 {w : World} {base e size n : Nat} {v : Value} {xs : List Value} (h : w.ownsRow base e size v n xs) : ∃ p cap, v = .slice p n cap := by
  rcases h.2 with ⟨rfl, rfl⟩ | ⟨g, cap, cur, rfl, _⟩
  · exact ⟨none, 0, rfl⟩
  · exact ⟨_, cap, rfl⟩

theorem heap_setCells_ne (b : Nat) : ∀ (vs : List Value) (o : Nat) (w : World) (x : Nat), x ≠ b → (w.setCells b o vs).heap[x]? = w.heap[x]?
  | [], _, _, _, _ => rfl
  | v :: r, o, w, x, h => by
    rw [World.setCells, heap_setCells_ne b r (o + 1) _ x h]
    exact Below.heap_setCell w ⟨b, o, none⟩ v x h

theorem i8_one (ys : List Int) : ∀ v ∈ ys.map (Value.int .i8), v.oneCell' = true := by
  intro v hv
  obtain ⟨a, _, rfl⟩ := List.mem_map.1 hv
  rfl

theorem undrew {w w' : World} (h : Below w.drew.heap.size w.drew w') : Below w.heap.size w w' := ⟨h.os, h.tape, h.output, h.size, h.block⟩

/-- What a look-up in a link gives. -/
theorem look_tab (tab : List (Nat × Pm)) (b : Nat) : ∃ (ys : List Int) (t : Bool), ys.length = 12 ∧ (tabF tab (b : Int)).getD (.agg (i8s zeros12)) = .agg (i8s ys) ∧ (tabF tab (b : Int)).isSome = t ∧ Hid ((t = true → ∃ u, tab.lookup b = some u ∧ ys = u.l) ∧ (t = false → tab.lookup b = none)) := by
  rw [tabF_nat]
  cases h : tab.lookup b with
  | none => exact ⟨zeros12, false, rfl, rfl, rfl, And.intro (fun h => Bool.noConfusion h) (fun _ => rfl)⟩
  | some u => exact ⟨u.l, true, u.len, rfl, rfl, And.intro (fun _ => ⟨u, rfl, rfl⟩) (fun h => Bool.noConfusion h)⟩

end Go.Proofs.Ytoiiadiimfohiaa
