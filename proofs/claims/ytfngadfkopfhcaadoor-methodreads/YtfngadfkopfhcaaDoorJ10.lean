/- Joined: PPw, PPz, MMay. -/
import Derived.Test.YtfngadfkopfhcaaDoorJ9
import Derived.Deep.CutRange
import Derived.Test.YtfngadfkopfhcaaDoorJ4
import Derived.Test.YtfngadfkopfhcaaDoorJ0
/- Contract: the answer's ParsePlaces, where it reads. (Written by mkpp.py.) -/
namespace Go.Proofs.YtfngadfkopfhcaaDoor
open Go.RowKit

theorem RS.Fine.stp {n : Int} {cs : List Nat} {k : Nat} {st st' : RS} (h : RS.Fine k st) (hk : k < cs.length) (h0 : stp n cs k st = (0, st')) : RS.Fine (k + 1) st' := by
  unfold Go.Proofs.YtfngadfkopfhcaaDoor.stp at h0
  rw [if_pos hk] at h0
  have := h.take (n := n) (c := cs.getD k 0) (by rw [h0])
  rw [h0] at this
  exact this

theorem PInv.step {n : Int} {cs : List Nat} {L : List Int} {w w5 : World} {rv av bv ov : Value} {k D : Nat} {avs bvs : List Value} {st st' : RS} (hR : PR n cs k st) (hF : k ≤ cs.length → RS.Fine k st) (hk : k ≤ cs.length) (h0 : stp n cs k st = (0, st'))
    (hov : st'.opn = [] → ov = .slice none 0 0) (hb : Below w.heap.size w w5) (hP : PA w5 w.heap.size D rv av bv ov L avs bvs st'.all st'.block st'.opn) : PInv n cs L w w5 rv av bv ov (k + 1) st' :=
  ⟨hR.step hk h0, fun h => (hF hk).stp (by omega) h0, hov, hb, D, avs, bvs, hP⟩

theorem post_bad {n : Int} {s : ByteArray} {w w' : World} {z : Int} (h : RS.parse n si (runesOf s) = (z, [])) (hb : Below w.heap.size w w') : ParseOwn n s w (.returned (.tuple #[.slice none 0 0, .int .i64 z])) w' := by
  refine ⟨hb, _, [], by rw [h], ?_⟩
  rw [h]
  exact LL.nil _ _

theorem PInv.bad {n : Int} {s : ByteArray} {w w' : World} {k : Nat} {st : RS} {z : Int} (hR : PR n (runesOf s) k st) (hk : k ≤ (runesOf s).length) (h0 : (stp n (runesOf s) k st).1 = z) (hz : z ≠ 0) (hb : Below w.heap.size w w') : ParseOwn n s w (.returned (.tuple #[.slice none 0 0, .int .i64 z])) w' := post_bad (hR.bad hk h0 hz) hb

/-- Behind the signs' end. -/
def CutP (n : Int) (L : List Int) (w wc : World) (rv av bv : Value) (st : RS) : Prop :=
  (st.endSigns n).1 = 0 ∧ Below w.heap.size w wc ∧ ∃ D avs bvs, PA wc w.heap.size D rv av bv (.slice none 0 0) L avs bvs (st.endSigns n).2.all (st.endSigns n).2.block []

theorem add_word {n : Int} {st : RS} {ps : List Int} (h : okc n 0 ps = true) : st.add n ps = (if 200 < (st.block ++ [ps]).length then 3 else 0, { st with block := st.block ++ [ps], dot := false }) := by unfold RS.add; rw [if_pos h]
theorem add_no {n : Int} {st : RS} {ps : List Int} (h : ¬ okc n 0 ps = true) : st.add n ps = (6, st) := by unfold RS.add; rw [if_neg h]

theorem endSigns_some {n : Int} {st : RS} (h : st.opn ≠ []) : st.endSigns n = RS.add n { st with opn := [] } (fill2 n (fill1 st.opn)) := by unfold RS.endSigns; rw [if_neg h]
theorem endSigns_none {n : Int} {st : RS} (h : st.opn = []) : st.endSigns n = (0, st) := by unfold RS.endSigns; rw [if_pos h]

/-- One list more of a block turned about. -/
theorem back_snoc {α : Type} (d : α) (l : List α) (m : Nat) (h : m + 2 ≤ l.length) : (l.dropLast.reverse).take (m + 1) = (l.dropLast.reverse).take m ++ [l.getD (l.length - 2 - m) d] := by
  rw [List.take_add_one, List.getElem?_eq_getElem (by simp; omega)]
  congr 1
  simp only [Option.toList_some, List.cons.injEq, and_true]
  rw [List.getElem_reverse, List.getElem_dropLast, List.getD_eq_getElem?_getD, List.getElem?_eq_getElem (by omega), Option.getD_some]
  congr 1
  simp only [List.length_dropLast]
  omega

theorem addr_add (b t : Nat) : (⟨b, 0, none⟩ : Addr).add t = ⟨b, t, none⟩ := by
  unfold Addr.add
  split <;> simp_all

theorem back_all {α : Type} (l : List α) (m : Nat) (h : l.length ≤ m + 1) : (l.dropLast.reverse).take m = l.dropLast.reverse := List.take_of_length_le (by simp; omega)

theorem LL.one_cells {w : World} {base : Nat} {v : Value} {vs : List Value} {xss : List (List Int)} (h : LL w base v vs xss) : ∀ u ∈ vs, u.oneCell' = true := by
  have ha := h.all
  clear h
  intro u hu
  induction vs generalizing xss with
  | nil => cases hu
  | cons x xs ih =>
    cases xss with
    | nil => exact ha.elim
    | cons y ys =>
      rcases List.mem_cons.1 hu with rfl | hu
      · obtain ⟨p, c, e⟩ := owns_slice ha.1
        rw [e]; rfl
      · exact ih ha.2 hu

theorem OwnAll.take {w : World} {base : Nat} : ∀ {us : List Value} {xs : List (List Int)} (m : Nat), OwnAll w base us xs → OwnAll w base (us.take m) (xs.take m)
  | [], [], m, _ => by cases m <;> trivial
  | [], _ :: _, _, h => h.elim
  | _ :: _, [], _, h => h.elim
  | _ :: _, _ :: _, 0, _ => trivial
  | _ :: _, _ :: _, m + 1, h => ⟨h.1, OwnAll.take m h.2⟩

set_option maxRecDepth 20000 in
set_option maxHeartbeats 16000000 in
theorem parsePlaces_own (n : Int) (s : ByteArray) (w : World) (hn1 : 1 ≤ n) (hn2 : n ≤ 12) (hs : s.size ≤ 4000) :
    Calls Tryd.prog 16 #[.int .i64 n, .string s] w fun e w' => ParseOwn n s w e w' := by
  obtain ⟨i0, hi, hz0, hz1, hz2⟩ := info_parts Tryd.info3
  obtain ⟨j0, hj, hq0, hq1, hq2⟩ := info_parts Tryd.info47
  have HAL := hide (arunes_length s)
  have hrl := runesOf_length s
  have HRU := hide (fun k h => ru_at s k h)
  go_enter Tryd.func16, Tryd.ntmps16
  go_wp2_with fail
  refine (runes_any s w (by omega)).mono ?_
  rintro e w1 ⟨v1, rfl, hown1, hb1⟩
  have hb1s := hb1.size
  obtain ⟨p1, c1, rfl⟩ := owns_slice hown1
  have HLEN : Hid ((arunes s ++ [44]).length = (arunes s).length + 1) := by simp [Hid]
  have hal1 : (arunes s).length ≤ 4000 := by have := HAL.out; omega
  generalize (arunes s).length = al1 at *
  go_wp2_with (at_builtin; refine wpList_append_own _ rfl _ _ 47 rfl w.heap.size 3 i0 (.int .i64 0) 1 8 Tryd.underlying47 hi hz0 hz1 hz2 rfl (by decide) _ _ _ rfl (hown1.alloc _) ⟨w1.heap.size, 0, none⟩ 1 1 [.int .i64 44] rfl rfl ?c1 ?c2 ?c3 ?c4 ?c5 ?_)
  case c1 => exact cell_one_new _ _ _
  case c2 => intro u hu; simp at hu; subst hu; rfl
  case c3 => unfold maxLen; omega
  case c4 => omega
  case c5 => simp; omega
  intro rv w2 hown2 hg2 _
  have hb2 : Below w.heap.size w w2 := (hb1.alloc hb1s _).grown hg2 (by simp; omega) (fun g hg => (hown1.lt g hg).1)
  have hrv : w2.ownsRow w.heap.size 3 1 rv (arunes s ++ [44]).length ((arunes s ++ [44]).map (Value.int .i64)) := by
    rw [List.map_append, HLEN.out]; exact hown2
  generalize hL : arunes s ++ [44] = L at *
  have HLL : Hid (L.length = (runesOf s).length + 1) := by show _ = _; have := HAL.out; have := HLEN.out; omega
  have hLp : 1 ≤ L.length := by have := HLL.out; omega
  clear hown1 hg2 hown2 hb1 hb1s HLEN HAL hL hal1
  obtain ⟨rg, rcap, rfl, hr1, hr2, hr3, hr4⟩ := owns_form hrv hLp
  have hs2 := hb2.size
  have HI0 : Hid (PInv n (runesOf s) L w w2 (.slice (some ⟨rg, 0, none⟩) L.length rcap) (.slice none 0 0) (.slice none 0 0) (.slice none 0 0) 0 RS.new) :=
    ⟨PR.start _ _, fun _ => RS.Fine.new, fun _ => rfl, hb2, w2.heap.size, [], [], hrv, fun b hb => (hrv.lt b hb).2, LL.nil _ _, Lo.nil _, LL.nil _ _, Lo.nil _, (fun u hu => by cases hu), World.ownsRow_nil _ _ _ _, Or.inl rfl, hs2, Nat.le_refl _⟩
  clear hrv hb2
  go_wp2
  go_loopw [6, 7, 8, 9, 10, 11, 13] (fun av bv ov mi be dd i wr => ∃ (k : Nat) (st : RS) (m b d : Bool), k ≤ L.length ∧ i = .int .i64 k ∧ mi = .bool m ∧ be = .bool b ∧ dd = .bool d ∧ Hid (m = st.mirrored ∧ b = bg st ∧ d = dt st) ∧ Hid (PInv n (runesOf s) L w wr (.slice (some ⟨rg, 0, none⟩) L.length rcap) av bv ov k st)) (fun _ _ _ _ _ _ i _ => L.length - (intOf i).toNat)
  case atStart => exact ⟨0, RS.new, false, true, false, by omega, rfl, rfl, rfl, rfl, ⟨rfl, rfl, rfl⟩, HI0⟩
  case round =>
    clear HI0 hs2 hr1 hr2
    obtain ⟨k, st, m, b, d, hk, rfl, rfl, rfl, rfl, hfl, hI⟩ := hrel
    obtain ⟨hPR, hFi, hov, hbw, D, avs, bvs, hPA⟩ := hI.out
    clear hI
    have HFL : Hid (m = st.mirrored ∧ b = bg st ∧ d = dt st) := hfl.out
    clear hfl
    have hbs := hbw.size
    have HPR := hide hPR
    have HFI := hide hFi
    have HPA := hide hPA
    obtain ⟨ap, ac, rfl⟩ := owns_slice hPA.all.row
    obtain ⟨bp, bc, rfl⟩ := owns_slice hPA.block.row
    obtain ⟨op, oc, hoe⟩ := owns_slice hPA.opn
    subst hoe
    by_cases hlt : k < L.length
    · have hkN : k ≤ (runesOf s).length := by have := HLL.out; omega
      obtain ⟨c, hc, hcc, _⟩ := owns_cellAt hPA.runes hlt
      have hRU := HRU.out k hkN
      rw [show L.getD k 0 = c from hc.out] at hRU
      have hsr := sa_range c
      have hopl : st.opn.length ≤ 4000 := by have := (hFi hkN).opn; omega
      have HSG := hide (hFi hkN).signs
      have hbl2 : bvs.length ≤ 200 := by rw [hPA.block.len]; exact (hFi hkN).block
      have hal2 : avs.length ≤ 200 := by rw [hPA.all.len]; exact (hFi hkN).all
      have hDh := hPA.high
      have hDl := hPA.low
      have hopn := hPA.opn
      have HOV := hide hov
      clear hc hPR hFi hPA hov
      by_cases hsg : 0 ≤ sa c
      · have HSTP := hide (stp_sign (n := n) (st := st) hRU hsg)
        have HB := hide (bell_any c wr)
        have HOPN := hide hopn
        have hrow := hopn
        generalize sa c = x at *
        generalize hol : st.opn.length = ol at *
        clear hopn
        go_wp2_with fail
        refine HB.out.mono ?_
        rintro e w' ⟨rfl, rfl⟩
        go_wp2_with (at_builtin; refine wpList_append_own _ rfl _ _ 47 rfl D 3 i0 (.int .i64 0) 1 8 Tryd.underlying47 hi hz0 hz1 hz2 rfl (by decide) _ _ _ rfl (hrow.alloc _) ⟨wr.heap.size, 0, none⟩ 1 1 [.int .i64 (x + 1)] rfl rfl ?c1 ?c2 ?c3 ?c4 ?c5 ?_)
        case c1 => exact cell_one_new _ _ _
        case c2 => intro u hu; simp at hu; subst hu; rfl
        case c3 => unfold maxLen; omega
        case c4 => omega
        case c5 => simp; omega
        · intro v' w5 hown5 hg5 _
          have hB5 : Below D wr w5 := ((Below.refl D wr).alloc hDh _).grown hg5 (by simp; omega) (fun g hg => (hrow.lt g hg).1)
          have hP5 := HPA.out.signs (ov' := v') (op' := st.opn ++ [x + 1]) hB5 (by rw [List.length_append, List.map_append, hol]; exact hown5)
          have HI5 : Hid (PInv n (runesOf s) L w w5 _ _ _ v' (k + 1) { st with opn := st.opn ++ [x + 1] }) := PInv.step HPR.out HFI.out hkN HSTP.out (fun e => by simp at e) (hbw.trans (hB5.mono hDl)) hP5
          have HF5 : Hid (m = RS.mirrored { st with opn := st.opn ++ [x + 1] } ∧ false = bg { st with opn := st.opn ++ [x + 1] } ∧ false = dt { st with opn := st.opn ++ [x + 1] }) := ⟨HFL.out.1, by simp [bg], by simp [dt]⟩
          clear hown5 hg5 hB5 hP5 hrow
          go_wp2
          go_roundw
          case rel => exact ⟨k + 1, _, m, false, false, by omega, by go_num, rfl, rfl, rfl, HF5, HI5⟩
          case measure => simp [intOf]; omega
      · have HSTP := hide (stp_no (n := n) (st := st) hRU (by omega))
        have HB := hide (bell_any c wr)
        have hxn : sa c < 0 := by omega
        have hE : ((k : Int) == ((L.length : Nat) : Int) - 1) = decide (k = (runesOf s).length) := by
          by_cases e : k = (runesOf s).length
          · rw [decide_eq_true e, beq_iff_eq]; have := HLL.out; omega
          · rw [decide_eq_false e, beq_eq_false_iff_ne]; have := HLL.out; omega
        generalize decide (k = (runesOf s).length) = ee at *
        generalize sa c = x at *
        generalize hol : st.opn.length = ol at *
        clear hsg hsr hRU
        go_wp2_with fail
        refine HB.out.mono ?_
        rintro e w' ⟨rfl, rfl⟩
        clear HB
        go_upto_if 60 with fail
        go_cut [7, 8] from 34 to 156 (fun bv ov wc => ov = .slice none 0 0 ∧ Hid (CutP n L w wc (.slice (some ⟨rg, 0, none⟩) L.length rcap) (.slice ap avs.length ac) bv st))
        case first =>
          by_cases ho : ol = 0
          · subst ho
            have ho' : st.opn = [] := List.length_eq_zero_iff.1 hol
            have hov := HOV.out ho'
            have HC : Hid (CutP n L w wr (.slice (some ⟨rg, 0, none⟩) L.length rcap) (.slice ap avs.length ac) (.slice bp bvs.length bc) st) := by
              refine ⟨by rw [endSigns_none ho'], hbw, wr.heap.size, avs, bvs, ?_⟩
              rw [endSigns_none ho']
              exact HPA.out.fresh
            clear hopn
            go_wp2
            go_meet
            exact ⟨by first | exact hov | rfl, HC⟩
          · have ho' : st.opn ≠ [] := fun e => ho (by rw [← hol, e]; rfl)
            have hpo : 0 < ol := by omega
            have HEN := hide (endSigns_some (n := n) ho')
            have HE := hide (ended_any n D st.opn _ wr hn1 hn2 (by rw [hol]; exact hopn) hDh (by omega) (by omega) HSG.out)
            have HB0 : Hid (∀ z, (st.endSigns n).1 = z → z ≠ 0 → ∀ wx, Below w.heap.size w wx → ParseOwn n s w (.returned (.tuple #[.slice none 0 0, .int .i64 z])) wx) := by
              intro z hz hz0 wx hbx
              refine PInv.bad HPR.out hkN ?_ hz0 hbx
              rw [HSTP.out, if_neg (by rw [hz]; exact hz0)]
              exact hz
            clear ho hopn
            go_wp2_with fail
            refine HE.out.mono ?_
            rintro e w3 ⟨hb3, xv, rfl, hx3⟩
            have hs3 := hb3.size
            have hP3 := HPA.out.signs (ov' := .slice none 0 0) (op' := []) hb3 (World.ownsRow_nil _ _ _ _)
            have hB3 : Below w.heap.size w w3 := hbw.trans (hb3.mono hDl)
            by_cases hok : okc n 0 (fill2 n (fill1 st.opn)) = true
            · have hz : pck n (fill2 n (fill1 st.opn)) = 0 := by unfold pck; rw [if_pos hok]
              have hxo := hx3 hz
              obtain ⟨xp, xc, rfl⟩ := owns_slice hxo
              rw [hz]
              have HAW : Hid (st.endSigns n = (if 200 < (st.block ++ [fill2 n (fill1 st.opn)]).length then 3 else 0, { st with opn := [], block := st.block ++ [fill2 n (fill1 st.opn)], dot := false })) := by show _ = _; rw [HEN.out, add_word hok]
              have HXO := hide (owns_base hxo hDl)
              have HBL3 : Hid (bvs.length = st.block.length) := hP3.block.len
              generalize hxs : fill2 n (fill1 st.opn) = xs at *
              generalize hxl : xs.length = xl at *
              have hA := hP3.later ((Below.refl _ _).alloc (Nat.le_refl _) (.cells #[.slice xp xl xc] 47))
              have hrowA := hA.block.row
              have HA := hide hA
              clear hx3 hxo hz hok hP3 hA HE hxs
              go_wp2_with (at_builtin; refine wpList_append_keep _ rfl _ _ 22 rfl w.heap.size 47 j0 (.slice none 0 0) 1 24 Tryd.underlying22 hj hq0 hq1 hq2 rfl (by decide) _ _ _ rfl hrowA ⟨w3.heap.size, 0, none⟩ 1 1 [.slice xp xl xc] rfl rfl ?c1 ?c2 ?c3 ?c4 ?c5 ?_)
              case c1 => exact cell_one_new _ _ _
              case c2 => intro u hu; simp at hu; subst hu; rfl
              case c3 => unfold maxLen; omega
              case c4 => omega
              case c5 => simp; omega
              · intro v' w5 hown5 hg5 hk5
                have hsz : (w3.alloc (.cells #[.slice xp xl xc] 47)).heap.size = w3.heap.size + 1 := by simp
                obtain ⟨hP5, hB5⟩ := HA.out.push (ps := xs) (by rw [hxl]; exact HXO.out.alloc _) hown5 hg5 (by rw [hsz]; exact hk5)
                have hBw5 : Below w.heap.size w w5 := (hB3.alloc (by omega) (.cells #[.slice xp xl xc] 47)).trans hB5
                have HP5 := hide hP5
                obtain ⟨vp, vc, rfl⟩ := owns_slice hown5
                have hbn : (st.block ++ [xs]).length = bvs.length + 1 := by rw [List.length_append, HBL3.out]; rfl
                clear hP5 hown5 hg5 hk5 hB5 hrowA hsz
                by_cases h2 : 200 < bvs.length + 1
                · have HR : Hid (ParseOwn n s w (.returned (.tuple #[.slice none 0 0, .int .i64 3])) w5) := HB0.out 3 (by rw [HAW.out, if_pos (by rw [hbn]; exact h2)]) (by decide) _ hBw5
                  have h2' : (200 : Int) < ((bvs.length : Nat) : Int) + 1 := by omega
                  clear HAW HP5 hbn
                  go_wp2
                  go_ret2
                  exact HR.out
                · have HC : Hid (CutP n L w w5 (.slice (some ⟨rg, 0, none⟩) L.length rcap) (.slice ap avs.length ac) (.slice vp (bvs.length + 1) vc) st) := by
                    refine ⟨by rw [HAW.out, if_neg (by rw [hbn]; exact h2)], hBw5, w5.heap.size, avs, bvs ++ [.slice xp xl xc], ?_⟩
                    rw [HAW.out]
                    exact HP5.out
                  have h2' : ((bvs.length : Nat) : Int) + 1 ≤ 200 := by omega
                  clear HAW HP5 hbn
                  go_wp2
                  go_meet
                  exact ⟨rfl, HC⟩
            · have hz : pck n (fill2 n (fill1 st.opn)) = 6 := by unfold pck; rw [if_neg hok]
              rw [hz]
              have HR : Hid (ParseOwn n s w (.returned (.tuple #[.slice none 0 0, .int .i64 6])) w3) := HB0.out 6 (by rw [HEN.out, add_no hok]) (by decide) _ hB3
              clear hx3 hok hz hP3
              go_wp2
              go_ret2
              exact HR.out
        case rest =>
          obtain ⟨rfl, hC⟩ := hcut
          obtain ⟨h0, hbc, D2, avs2, bvs2, hP⟩ := hC.out
          obtain ⟨f1, f2, f3, f4, f5, f6⟩ := endSigns_flags h0
          have hF1 := ((HFI.out hkN).endSigns h0).1
          have HS2 : Hid (stp n (runesOf s) k st = rest n (st.endSigns n).2 c ee) := by show _ = _; rw [HSTP.out, if_pos h0]
          have HFL2 : Hid (m = (st.endSigns n).2.mirrored ∧ b = bg (st.endSigns n).2 ∧ d = dt (st.endSigns n).2) := by rw [f1, f2, f3]; exact HFL.out
          clear hC HSTP HFL HSG HOV HPA hopn f1 f2 f3 f5 f6 h0 hbw hol hopl hDh hDl
          generalize (st.endSigns n).2 = st1 at *
          have hdd : d = st1.dot := by rw [HFL2.out.2.2]; unfold dt; rw [f4]; simp
          have hbb : b = (!st1.marked && decide (st1.block = [])) := by rw [HFL2.out.2.1]; unfold bg; rw [f4]; simp
          have hmm := HFL2.out.1
          obtain ⟨bp2, bc2, rfl⟩ := owns_slice hP.block.row
          obtain ⟨ap2, ac2, hae⟩ := owns_slice hP.all.row
          have HAL3 : Hid (avs2.length = avs.length) := by injection hae with _ h _; exact h.symm
          have hbl3 : bvs2.length = st1.block.length := hP.block.len
          have hbl4 : bvs2.length ≤ 200 := by rw [hbl3]; exact hF1.block
          have hbsc := hbc.size
          have HP := hide hP
          have HZB : Hid (st1.block = [] ↔ bvs2.length = 0) := by rw [hbl3]; exact List.length_eq_zero_iff.symm
          have HBAD : Hid (∀ z, (rest n st1 c ee).1 = z → z ≠ 0 → ∀ wx, Below w.heap.size w wx → ParseOwn n s w (.returned (.tuple #[.slice none 0 0, .int .i64 z])) wx) := by
            intro z hz hz0 wx hbx
            exact PInv.bad HPR.out hkN (by rw [HS2.out]; exact hz) hz0 hbx
          have HOK : Hid (∀ st' av bv wx D avs bvs, rest n st1 c ee = (0, st') → st'.opn = [] → Below w.heap.size w wx → PA wx w.heap.size D (.slice (some ⟨rg, 0, none⟩) L.length rcap) av bv (.slice none 0 0) L avs bvs st'.all st'.block [] → PInv n (runesOf s) L w wx (.slice (some ⟨rg, 0, none⟩) L.length rcap) av bv (.slice none 0 0) (k + 1) st') := by
            intro st' av bv wx D avs bvs h1 h2 h3 h4
            refine PInv.step (D := D) (avs := avs) (bvs := bvs) HPR.out HFI.out hkN (by rw [HS2.out]; exact h1) (fun _ => rfl) h3 ?_
            rw [h2]; exact h4
          have HBB := hide hbb
          have HDD := hide hdd
          have HMM := hide hmm
          have HO4 := hide f4
          clear HS2 HFL2 HPR HFI hF1 hbb hdd hmm f4 hP hbl3 hae
          by_cases h38 : c = 38
          · subst h38
            have hrest : rest n st1 38 ee = st1.mark true := rfl
            cases b with
            | true =>
              have hmk : st1.marked = false ∧ st1.block = [] := by have := HBB.out; simpa using this.symm
              have HI5 := hide (HOK.out { st1 with marked := true, mirrored := true } _ _ _ _ _ _ (by rw [hrest]; unfold RS.mark; rw [if_neg (by simp [hmk.1, hmk.2])]) HO4.out hbc HP.out)
              have HF5 : Hid (true = RS.mirrored { st1 with marked := true, mirrored := true } ∧ false = bg { st1 with marked := true, mirrored := true } ∧ d = dt { st1 with marked := true, mirrored := true }) := ⟨rfl, rfl, by rw [HDD.out]; unfold dt; rw [show RS.opn { st1 with marked := true, mirrored := true } = [] from HO4.out]; simp⟩
              clear HBAD HOK HP HZB HBB HDD HMM HO4 hmk hrest
              go_wp2
              go_roundw
              case rel => exact ⟨k + 1, _, true, false, d, by omega, by go_num, rfl, rfl, rfl, HF5, HI5⟩
              case measure => simp [intOf]; omega
            | false =>
              have hmk : st1.marked = true ∨ st1.block ≠ [] := by
                have := HBB.out
                cases h1 : st1.marked with
                | true => exact Or.inl rfl
                | false => exact Or.inr (fun e => by rw [h1, e] at this; simp at this)
              have HR : Hid (ParseOwn n s w (.returned (.tuple #[.slice none 0 0, .int .i64 4])) wc) := HBAD.out 4 (by rw [hrest]; unfold RS.mark; rw [if_pos hmk]) (by decide) _ hbc
              clear HBAD HOK HP HZB HBB HDD HMM HO4
              clear hmk hrest
              go_wp2
              go_ret2
              exact HR.out
          by_cases h43 : c = 43
          · subst h43
            have hrest : rest n st1 43 ee = st1.mark false := rfl
            cases b with
            | true =>
              have hmk : st1.marked = false ∧ st1.block = [] := by have := HBB.out; simpa using this.symm
              have HI5 := hide (HOK.out { st1 with marked := true, mirrored := false } _ _ _ _ _ _ (by rw [hrest]; unfold RS.mark; rw [if_neg (by simp [hmk.1, hmk.2])]) HO4.out hbc HP.out)
              have HF5 : Hid (false = RS.mirrored { st1 with marked := true, mirrored := false } ∧ false = bg { st1 with marked := true, mirrored := false } ∧ d = dt { st1 with marked := true, mirrored := false }) := ⟨rfl, rfl, by rw [HDD.out]; unfold dt; rw [show RS.opn { st1 with marked := true, mirrored := false } = [] from HO4.out]; simp⟩
              clear HBAD HOK HP HZB HBB HDD HMM HO4 hmk hrest
              go_wp2
              go_roundw
              case rel => exact ⟨k + 1, _, false, false, d, by omega, by go_num, rfl, rfl, rfl, HF5, HI5⟩
              case measure => simp [intOf]; omega
            | false =>
              have hmk : st1.marked = true ∨ st1.block ≠ [] := by
                have := HBB.out
                cases h1 : st1.marked with
                | true => exact Or.inl rfl
                | false => exact Or.inr (fun e => by rw [h1, e] at this; simp at this)
              have HR : Hid (ParseOwn n s w (.returned (.tuple #[.slice none 0 0, .int .i64 4])) wc) := HBAD.out 4 (by rw [hrest]; unfold RS.mark; rw [if_pos hmk]) (by decide) _ hbc
              clear HBAD HOK HP HZB HBB HDD HMM HO4
              clear hmk hrest
              go_wp2
              go_ret2
              exact HR.out
          have e38 : (c == 38) = false := by rw [beq_eq_false_iff_ne]; exact h38
          have e43 : (c == 43) = false := by rw [beq_eq_false_iff_ne]; exact h43
          go_upto_region 31 with fail
          go_cut [77] from 34 to 156 (fun v wx => v = .bool false ∧ wx = wc)
          case first =>
            cases b with
            | true =>
              go_wp2
              go_meet
              exact ⟨rfl, rfl⟩
            | false =>
              go_wp2
              go_meet
              exact ⟨rfl, rfl⟩
          case rest =>
            obtain ⟨rfl, rfl⟩ := hcut
            by_cases h120 : c = 120
            · subst h120
              have hrest : rest n st1 120 ee = st1.add n [] := by unfold rest; rw [if_pos (by omega)]
              have HCM := hide (changeMay_any n (.slice none 0 0) [] wc hn1 hn2 (Or.inl ⟨rfl, none, 0, rfl⟩))
              by_cases hok : okc n 0 [] = true
              · have hz : pck n [] = 0 := by unfold pck; rw [if_pos hok]
                rw [hz] at HCM
                have HAW : Hid (rest n st1 120 ee = (if 200 < (st1.block ++ [[]]).length then 3 else 0, { st1 with block := st1.block ++ [[]], dot := false })) := by show _ = _; rw [hrest, add_word hok]
                have hA := HP.out.later ((Below.refl _ _).alloc (Nat.le_refl _) (.cells #[.slice none 0 0] 47))
                have hrowA := hA.block.row
                have HA := hide hA
                have hbn : (st1.block ++ [[]]).length = bvs2.length + 1 := by rw [List.length_append, ← HP.out.block.len]; rfl
                clear hA hok hz hrest HP
                go_wp2_with fail
                refine HCM.out.mono ?_
                rintro e w' ⟨rfl, rfl⟩
                go_wp2_with (at_builtin; refine wpList_append_keep _ rfl _ _ 22 rfl w.heap.size 47 j0 (.slice none 0 0) 1 24 Tryd.underlying22 hj hq0 hq1 hq2 rfl (by decide) _ _ _ rfl hrowA ⟨wc.heap.size, 0, none⟩ 1 1 [.slice none 0 0] rfl rfl ?c1 ?c2 ?c3 ?c4 ?c5 ?_)
                case c1 => exact cell_one_new _ _ _
                case c2 => intro u hu; simp at hu; subst hu; rfl
                case c3 => unfold maxLen; omega
                case c4 => omega
                case c5 => simp; omega
                · intro v' w5 hown5 hg5 hk5
                  have hsz : (wc.alloc (.cells #[.slice none 0 0] 47)).heap.size = wc.heap.size + 1 := by simp
                  obtain ⟨hP5, hB5⟩ := HA.out.push (ps := []) (World.ownsRow_nil _ _ _ _) hown5 hg5 (by rw [hsz]; exact hk5)
                  have hBw5 : Below w.heap.size w w5 := (hbc.alloc hbsc (.cells #[.slice none 0 0] 47)).trans hB5
                  have HP5 := hide hP5
                  obtain ⟨vp, vc, rfl⟩ := owns_slice hown5
                  clear hP5 hown5 hg5 hk5 hB5 hrowA hsz HA
                  by_cases h2 : 200 < bvs2.length + 1
                  · have HR : Hid (ParseOwn n s w (.returned (.tuple #[.slice none 0 0, .int .i64 3])) w5) := HBAD.out 3 (by rw [HAW.out, if_pos (by rw [hbn]; exact h2)]) (by decide) _ hBw5
                    have h2' : (200 : Int) < ((bvs2.length : Nat) : Int) + 1 := by omega
                    clear HAW HP5 hbn HBAD HOK HZB HBB HDD HMM HO4
                    go_wp2
                    go_ret2
                    exact HR.out
                  · have HI5 := hide (HOK.out { st1 with block := st1.block ++ [[]], dot := false } _ _ _ _ _ _ (by rw [HAW.out, if_neg (by rw [hbn]; exact h2)]) HO4.out hBw5 HP5.out)
                    have HF5 : Hid (m = RS.mirrored { st1 with block := st1.block ++ [[]], dot := false } ∧ false = bg { st1 with block := st1.block ++ [[]], dot := false } ∧ false = dt { st1 with block := st1.block ++ [[]], dot := false }) := ⟨HMM.out, by simp [bg], by simp [dt]⟩
                    have h2' : ((bvs2.length : Nat) : Int) + 1 ≤ 200 := by omega
                    clear HAW HP5 hbn HBAD HOK HZB HBB HDD HMM HO4
                    go_wp2
                    go_roundw
                    case rel => exact ⟨k + 1, _, m, false, false, by omega, by go_num, rfl, rfl, rfl, HF5, HI5⟩
                    case measure => simp [intOf]; omega
              · have hz : pck n [] = 6 := by unfold pck; rw [if_neg hok]
                rw [hz] at HCM
                have HR : Hid (ParseOwn n s w (.returned (.tuple #[.slice none 0 0, .int .i64 6])) wc) := HBAD.out 6 (by rw [hrest, add_no hok]) (by decide) _ hbc
                clear HBAD HOK HP HZB HBB HDD HMM HO4 hok hz hrest
                go_wp2_with fail
                refine HCM.out.mono ?_
                rintro e w' ⟨rfl, rfl⟩
                go_wp2
                go_ret2
                exact HR.out
            by_cases h88 : c = 88
            · subst h88
              have hrest : rest n st1 88 ee = st1.add n [] := by unfold rest; rw [if_pos (by omega)]
              have HCM := hide (changeMay_any n (.slice none 0 0) [] wc hn1 hn2 (Or.inl ⟨rfl, none, 0, rfl⟩))
              by_cases hok : okc n 0 [] = true
              · have hz : pck n [] = 0 := by unfold pck; rw [if_pos hok]
                rw [hz] at HCM
                have HAW : Hid (rest n st1 88 ee = (if 200 < (st1.block ++ [[]]).length then 3 else 0, { st1 with block := st1.block ++ [[]], dot := false })) := by show _ = _; rw [hrest, add_word hok]
                have hA := HP.out.later ((Below.refl _ _).alloc (Nat.le_refl _) (.cells #[.slice none 0 0] 47))
                have hrowA := hA.block.row
                have HA := hide hA
                have hbn : (st1.block ++ [[]]).length = bvs2.length + 1 := by rw [List.length_append, ← HP.out.block.len]; rfl
                clear hA hok hz hrest HP
                go_wp2_with fail
                refine HCM.out.mono ?_
                rintro e w' ⟨rfl, rfl⟩
                go_wp2_with (at_builtin; refine wpList_append_keep _ rfl _ _ 22 rfl w.heap.size 47 j0 (.slice none 0 0) 1 24 Tryd.underlying22 hj hq0 hq1 hq2 rfl (by decide) _ _ _ rfl hrowA ⟨wc.heap.size, 0, none⟩ 1 1 [.slice none 0 0] rfl rfl ?c1 ?c2 ?c3 ?c4 ?c5 ?_)
                case c1 => exact cell_one_new _ _ _
                case c2 => intro u hu; simp at hu; subst hu; rfl
                case c3 => unfold maxLen; omega
                case c4 => omega
                case c5 => simp; omega
                · intro v' w5 hown5 hg5 hk5
                  have hsz : (wc.alloc (.cells #[.slice none 0 0] 47)).heap.size = wc.heap.size + 1 := by simp
                  obtain ⟨hP5, hB5⟩ := HA.out.push (ps := []) (World.ownsRow_nil _ _ _ _) hown5 hg5 (by rw [hsz]; exact hk5)
                  have hBw5 : Below w.heap.size w w5 := (hbc.alloc hbsc (.cells #[.slice none 0 0] 47)).trans hB5
                  have HP5 := hide hP5
                  obtain ⟨vp, vc, rfl⟩ := owns_slice hown5
                  clear hP5 hown5 hg5 hk5 hB5 hrowA hsz HA
                  by_cases h2 : 200 < bvs2.length + 1
                  · have HR : Hid (ParseOwn n s w (.returned (.tuple #[.slice none 0 0, .int .i64 3])) w5) := HBAD.out 3 (by rw [HAW.out, if_pos (by rw [hbn]; exact h2)]) (by decide) _ hBw5
                    have h2' : (200 : Int) < ((bvs2.length : Nat) : Int) + 1 := by omega
                    clear HAW HP5 hbn HBAD HOK HZB HBB HDD HMM HO4
                    go_wp2
                    go_ret2
                    exact HR.out
                  · have HI5 := hide (HOK.out { st1 with block := st1.block ++ [[]], dot := false } _ _ _ _ _ _ (by rw [HAW.out, if_neg (by rw [hbn]; exact h2)]) HO4.out hBw5 HP5.out)
                    have HF5 : Hid (m = RS.mirrored { st1 with block := st1.block ++ [[]], dot := false } ∧ false = bg { st1 with block := st1.block ++ [[]], dot := false } ∧ false = dt { st1 with block := st1.block ++ [[]], dot := false }) := ⟨HMM.out, by simp [bg], by simp [dt]⟩
                    have h2' : ((bvs2.length : Nat) : Int) + 1 ≤ 200 := by omega
                    clear HAW HP5 hbn HBAD HOK HZB HBB HDD HMM HO4
                    go_wp2
                    go_roundw
                    case rel => exact ⟨k + 1, _, m, false, false, by omega, by go_num, rfl, rfl, rfl, HF5, HI5⟩
                    case measure => simp [intOf]; omega
              · have hz : pck n [] = 6 := by unfold pck; rw [if_neg hok]
                rw [hz] at HCM
                have HR : Hid (ParseOwn n s w (.returned (.tuple #[.slice none 0 0, .int .i64 6])) wc) := HBAD.out 6 (by rw [hrest, add_no hok]) (by decide) _ hbc
                clear HBAD HOK HP HZB HBB HDD HMM HO4 hok hz hrest
                go_wp2_with fail
                refine HCM.out.mono ?_
                rintro e w' ⟨rfl, rfl⟩
                go_wp2
                go_ret2
                exact HR.out
            by_cases h45 : c = 45
            · subst h45
              have hrest : rest n st1 45 ee = st1.add n [] := by unfold rest; rw [if_pos (by omega)]
              have HCM := hide (changeMay_any n (.slice none 0 0) [] wc hn1 hn2 (Or.inl ⟨rfl, none, 0, rfl⟩))
              by_cases hok : okc n 0 [] = true
              · have hz : pck n [] = 0 := by unfold pck; rw [if_pos hok]
                rw [hz] at HCM
                have HAW : Hid (rest n st1 45 ee = (if 200 < (st1.block ++ [[]]).length then 3 else 0, { st1 with block := st1.block ++ [[]], dot := false })) := by show _ = _; rw [hrest, add_word hok]
                have hA := HP.out.later ((Below.refl _ _).alloc (Nat.le_refl _) (.cells #[.slice none 0 0] 47))
                have hrowA := hA.block.row
                have HA := hide hA
                have hbn : (st1.block ++ [[]]).length = bvs2.length + 1 := by rw [List.length_append, ← HP.out.block.len]; rfl
                clear hA hok hz hrest HP
                go_wp2_with fail
                refine HCM.out.mono ?_
                rintro e w' ⟨rfl, rfl⟩
                go_wp2_with (at_builtin; refine wpList_append_keep _ rfl _ _ 22 rfl w.heap.size 47 j0 (.slice none 0 0) 1 24 Tryd.underlying22 hj hq0 hq1 hq2 rfl (by decide) _ _ _ rfl hrowA ⟨wc.heap.size, 0, none⟩ 1 1 [.slice none 0 0] rfl rfl ?c1 ?c2 ?c3 ?c4 ?c5 ?_)
                case c1 => exact cell_one_new _ _ _
                case c2 => intro u hu; simp at hu; subst hu; rfl
                case c3 => unfold maxLen; omega
                case c4 => omega
                case c5 => simp; omega
                · intro v' w5 hown5 hg5 hk5
                  have hsz : (wc.alloc (.cells #[.slice none 0 0] 47)).heap.size = wc.heap.size + 1 := by simp
                  obtain ⟨hP5, hB5⟩ := HA.out.push (ps := []) (World.ownsRow_nil _ _ _ _) hown5 hg5 (by rw [hsz]; exact hk5)
                  have hBw5 : Below w.heap.size w w5 := (hbc.alloc hbsc (.cells #[.slice none 0 0] 47)).trans hB5
                  have HP5 := hide hP5
                  obtain ⟨vp, vc, rfl⟩ := owns_slice hown5
                  clear hP5 hown5 hg5 hk5 hB5 hrowA hsz HA
                  by_cases h2 : 200 < bvs2.length + 1
                  · have HR : Hid (ParseOwn n s w (.returned (.tuple #[.slice none 0 0, .int .i64 3])) w5) := HBAD.out 3 (by rw [HAW.out, if_pos (by rw [hbn]; exact h2)]) (by decide) _ hBw5
                    have h2' : (200 : Int) < ((bvs2.length : Nat) : Int) + 1 := by omega
                    clear HAW HP5 hbn HBAD HOK HZB HBB HDD HMM HO4
                    go_wp2
                    go_ret2
                    exact HR.out
                  · have HI5 := hide (HOK.out { st1 with block := st1.block ++ [[]], dot := false } _ _ _ _ _ _ (by rw [HAW.out, if_neg (by rw [hbn]; exact h2)]) HO4.out hBw5 HP5.out)
                    have HF5 : Hid (m = RS.mirrored { st1 with block := st1.block ++ [[]], dot := false } ∧ false = bg { st1 with block := st1.block ++ [[]], dot := false } ∧ false = dt { st1 with block := st1.block ++ [[]], dot := false }) := ⟨HMM.out, by simp [bg], by simp [dt]⟩
                    have h2' : ((bvs2.length : Nat) : Int) + 1 ≤ 200 := by omega
                    clear HAW HP5 hbn HBAD HOK HZB HBB HDD HMM HO4
                    go_wp2
                    go_roundw
                    case rel => exact ⟨k + 1, _, m, false, false, by omega, by go_num, rfl, rfl, rfl, HF5, HI5⟩
                    case measure => simp [intOf]; omega
              · have hz : pck n [] = 6 := by unfold pck; rw [if_neg hok]
                rw [hz] at HCM
                have HR : Hid (ParseOwn n s w (.returned (.tuple #[.slice none 0 0, .int .i64 6])) wc) := HBAD.out 6 (by rw [hrest, add_no hok]) (by decide) _ hbc
                clear HBAD HOK HP HZB HBB HDD HMM HO4 hok hz hrest
                go_wp2_with fail
                refine HCM.out.mono ?_
                rintro e w' ⟨rfl, rfl⟩
                go_wp2
                go_ret2
                exact HR.out
            by_cases h215 : c = 215
            · subst h215
              have hrest : rest n st1 215 ee = st1.add n [] := by unfold rest; rw [if_pos (by omega)]
              have HCM := hide (changeMay_any n (.slice none 0 0) [] wc hn1 hn2 (Or.inl ⟨rfl, none, 0, rfl⟩))
              by_cases hok : okc n 0 [] = true
              · have hz : pck n [] = 0 := by unfold pck; rw [if_pos hok]
                rw [hz] at HCM
                have HAW : Hid (rest n st1 215 ee = (if 200 < (st1.block ++ [[]]).length then 3 else 0, { st1 with block := st1.block ++ [[]], dot := false })) := by show _ = _; rw [hrest, add_word hok]
                have hA := HP.out.later ((Below.refl _ _).alloc (Nat.le_refl _) (.cells #[.slice none 0 0] 47))
                have hrowA := hA.block.row
                have HA := hide hA
                have hbn : (st1.block ++ [[]]).length = bvs2.length + 1 := by rw [List.length_append, ← HP.out.block.len]; rfl
                clear hA hok hz hrest HP
                go_wp2_with fail
                refine HCM.out.mono ?_
                rintro e w' ⟨rfl, rfl⟩
                go_wp2_with (at_builtin; refine wpList_append_keep _ rfl _ _ 22 rfl w.heap.size 47 j0 (.slice none 0 0) 1 24 Tryd.underlying22 hj hq0 hq1 hq2 rfl (by decide) _ _ _ rfl hrowA ⟨wc.heap.size, 0, none⟩ 1 1 [.slice none 0 0] rfl rfl ?c1 ?c2 ?c3 ?c4 ?c5 ?_)
                case c1 => exact cell_one_new _ _ _
                case c2 => intro u hu; simp at hu; subst hu; rfl
                case c3 => unfold maxLen; omega
                case c4 => omega
                case c5 => simp; omega
                · intro v' w5 hown5 hg5 hk5
                  have hsz : (wc.alloc (.cells #[.slice none 0 0] 47)).heap.size = wc.heap.size + 1 := by simp
                  obtain ⟨hP5, hB5⟩ := HA.out.push (ps := []) (World.ownsRow_nil _ _ _ _) hown5 hg5 (by rw [hsz]; exact hk5)
                  have hBw5 : Below w.heap.size w w5 := (hbc.alloc hbsc (.cells #[.slice none 0 0] 47)).trans hB5
                  have HP5 := hide hP5
                  obtain ⟨vp, vc, rfl⟩ := owns_slice hown5
                  clear hP5 hown5 hg5 hk5 hB5 hrowA hsz HA
                  by_cases h2 : 200 < bvs2.length + 1
                  · have HR : Hid (ParseOwn n s w (.returned (.tuple #[.slice none 0 0, .int .i64 3])) w5) := HBAD.out 3 (by rw [HAW.out, if_pos (by rw [hbn]; exact h2)]) (by decide) _ hBw5
                    have h2' : (200 : Int) < ((bvs2.length : Nat) : Int) + 1 := by omega
                    clear HAW HP5 hbn HBAD HOK HZB HBB HDD HMM HO4
                    go_wp2
                    go_ret2
                    exact HR.out
                  · have HI5 := hide (HOK.out { st1 with block := st1.block ++ [[]], dot := false } _ _ _ _ _ _ (by rw [HAW.out, if_neg (by rw [hbn]; exact h2)]) HO4.out hBw5 HP5.out)
                    have HF5 : Hid (m = RS.mirrored { st1 with block := st1.block ++ [[]], dot := false } ∧ false = bg { st1 with block := st1.block ++ [[]], dot := false } ∧ false = dt { st1 with block := st1.block ++ [[]], dot := false }) := ⟨HMM.out, by simp [bg], by simp [dt]⟩
                    have h2' : ((bvs2.length : Nat) : Int) + 1 ≤ 200 := by omega
                    clear HAW HP5 hbn HBAD HOK HZB HBB HDD HMM HO4
                    go_wp2
                    go_roundw
                    case rel => exact ⟨k + 1, _, m, false, false, by omega, by go_num, rfl, rfl, rfl, HF5, HI5⟩
                    case measure => simp [intOf]; omega
              · have hz : pck n [] = 6 := by unfold pck; rw [if_neg hok]
                rw [hz] at HCM
                have HR : Hid (ParseOwn n s w (.returned (.tuple #[.slice none 0 0, .int .i64 6])) wc) := HBAD.out 6 (by rw [hrest, add_no hok]) (by decide) _ hbc
                clear HBAD HOK HP HZB HBB HDD HMM HO4 hok hz hrest
                go_wp2_with fail
                refine HCM.out.mono ?_
                rintro e w' ⟨rfl, rfl⟩
                go_wp2
                go_ret2
                exact HR.out
            by_cases h46 : c = 46
            · subst h46
              by_cases hz : bvs2.length = 0
              · have hN : st1.needs = true := by unfold RS.needs; rw [decide_eq_true (HZB.out.2 hz)]; rfl
                have HR : Hid (ParseOwn n s w (.returned (.tuple #[.slice none 0 0, .int .i64 4])) wc) := HBAD.out 4 (by show (if st1.needs = true then ((4 : Int), st1) else _).1 = 4; rw [if_pos hN]) (by decide) _ hbc
                clear HBAD HOK HP HZB HBB HDD HMM HO4
                clear hN
                go_wp2
                go_ret2
                exact HR.out
              · have hz' : (((bvs2.length : Nat) : Int) == 0) = false := by rw [beq_eq_false_iff_ne]; omega
                have hbne : st1.block ≠ [] := fun e => hz (HZB.out.1 e)
                cases d with
                | true =>
                  have hN : st1.needs = true := by unfold RS.needs; rw [← HDD.out]; simp
                  have HR : Hid (ParseOwn n s w (.returned (.tuple #[.slice none 0 0, .int .i64 4])) wc) := HBAD.out 4 (by show (if st1.needs = true then ((4 : Int), st1) else _).1 = 4; rw [if_pos hN]) (by decide) _ hbc
                  clear HBAD HOK HP HZB HBB HDD HMM HO4
                  clear hN
                  go_wp2
                  go_ret2
                  exact HR.out
                | false =>
                  have hN : st1.needs = false := by unfold RS.needs; rw [← HDD.out, decide_eq_false hbne]; rfl
                  have HI5 := hide (HOK.out { st1 with dot := true } _ _ _ _ _ _ (by show (if st1.needs = true then ((4 : Int), st1) else (0, { st1 with dot := true })) = _; rw [if_neg (by rw [hN]; decide)]) HO4.out hbc HP.out)
                  have HF5 : Hid (m = RS.mirrored { st1 with dot := true } ∧ b = bg { st1 with dot := true } ∧ true = dt { st1 with dot := true }) := ⟨HMM.out, by rw [HBB.out]; unfold bg; rw [show RS.opn { st1 with dot := true } = [] from HO4.out]; simp, by unfold dt; rw [show RS.opn { st1 with dot := true } = [] from HO4.out]; rfl⟩
                  clear HBAD HOK HP HZB HBB HDD HMM HO4 hN hbne hz
                  go_wp2
                  go_roundw
                  case rel => exact ⟨k + 1, _, m, b, true, by omega, by go_num, rfl, rfl, rfl, HF5, HI5⟩
                  case measure => simp [intOf]; omega
            by_cases h44 : c = 44
            · subst h44
              by_cases hz : bvs2.length = 0
              · have hN : st1.needs = true := by unfold RS.needs; rw [decide_eq_true (HZB.out.2 hz)]; rfl
                cases ee with
                | true =>
                  have HR : Hid (ParseOwn n s w (.returned (.tuple #[.slice none 0 0, .int .i64 5])) wc) := HBAD.out 5 (by show (if st1.needs = true then ((5 : Int), st1) else _).1 = 5; rw [if_pos hN]) (by decide) _ hbc
                  clear HBAD HOK HP HZB HBB HDD HMM HO4
                  clear hN
                  go_wp2
                  go_ret2
                  exact HR.out
                | false =>
                  have HR : Hid (ParseOwn n s w (.returned (.tuple #[.slice none 0 0, .int .i64 4])) wc) := HBAD.out 4 (by show (if st1.needs = true then ((4 : Int), st1) else _).1 = 4; rw [if_pos hN]) (by decide) _ hbc
                  clear HBAD HOK HP HZB HBB HDD HMM HO4
                  clear hN
                  go_wp2
                  go_ret2
                  exact HR.out
              · have hz' : (((bvs2.length : Nat) : Int) == 0) = false := by rw [beq_eq_false_iff_ne]; omega
                have hbne : st1.block ≠ [] := fun e => hz (HZB.out.1 e)
                cases d with
                | true =>
                  have hN : st1.needs = true := by unfold RS.needs; rw [← HDD.out]; simp
                  cases ee with
                  | true =>
                    have HR : Hid (ParseOwn n s w (.returned (.tuple #[.slice none 0 0, .int .i64 5])) wc) := HBAD.out 5 (by show (if st1.needs = true then ((5 : Int), st1) else _).1 = 5; rw [if_pos hN]) (by decide) _ hbc
                    clear HBAD HOK HP HZB HBB HDD HMM HO4
                    clear hN
                    go_wp2
                    go_ret2
                    exact HR.out
                  | false =>
                    have HR : Hid (ParseOwn n s w (.returned (.tuple #[.slice none 0 0, .int .i64 4])) wc) := HBAD.out 4 (by show (if st1.needs = true then ((4 : Int), st1) else _).1 = 4; rw [if_pos hN]) (by decide) _ hbc
                    clear HBAD HOK HP HZB HBB HDD HMM HO4
                    clear hN
                    go_wp2
                    go_ret2
                    exact HR.out
                | false =>
                  have hN : st1.needs = false := by unfold RS.needs; rw [← HDD.out, decide_eq_false hbne]; rfl
                  have hrest : rest n st1 44 ee = st1.endBlock := by
                    show (if st1.needs = true then _ else st1.endBlock) = _
                    rw [if_neg (by rw [hN]; decide)]
                  have hb1 : 1 ≤ bvs2.length := by omega
                  have hbrow := HP.out.block.row
                  have harow := HP.out.all.row
                  obtain ⟨bg2, bcap2, hbe, hbg1, hbg2, hbg3, hbg4⟩ := owns_form hbrow hb1
                  injection hbe with hbe1 _ hbe2
                  subst hbe1
                  subst hbe2
                  have hsrc : ∀ j u, bvs2[j]? = some u → wc.cell? ((⟨bg2, 0, none⟩ : Addr).add j) = some u := hbrow.cells (g := bg2) rfl
                  have h1c := LL.one_cells HP.out.block
                  rw [HAL3.out] at harow
                  clear hN hz
                  go_wp2_with (at_builtin; refine wpList_append_keep _ rfl _ _ 22 rfl w.heap.size 47 j0 (.slice none 0 0) 1 24 Tryd.underlying22 hj hq0 hq1 hq2 rfl (by decide) _ _ _ rfl harow ⟨bg2, 0, none⟩ bvs2.length bc2 bvs2 rfl (by simp) hsrc h1c ?c3 ?c4 ?c5 ?_)
                  case c3 => unfold maxLen; omega
                  case c4 => omega
                  · intro v' w5 hown5 hg5 hk5
                    obtain ⟨hP5, hB5⟩ := HP.out.more HP.out.block.all (by rw [HAL3.out]; exact hown5) hg5 hk5
                    have hBw5 : Below w.heap.size w w5 := hbc.trans hB5
                    have HP5 := hide hP5
                    obtain ⟨vp, vc, rfl⟩ := owns_slice hown5
                    have HBLL : Hid (bvs2.length = st1.block.length) := HP.out.block.len
                    clear hP5 hown5 hg5 hk5 hB5 hsrc h1c harow hbrow HP
                    have HBK : Hid (st1.back = if m = true then st1.block.dropLast.reverse else []) := by show _ = _; rw [HMM.out]; rfl
                    have HEB : Hid (rest n st1 44 ee = (if 200 < (st1.all ++ st1.block ++ st1.back).length then 3 else 0, { st1 with all := st1.all ++ st1.block ++ st1.back, block := [], marked := false, mirrored := false })) := hrest
                    clear hrest
                    have HIN0 : Hid (∃ D, PA w5 w.heap.size D (.slice (some ⟨rg, 0, none⟩) L.length rcap) (.slice vp (avs.length + bvs2.length) vc) (.slice (some ⟨bg2, 0, none⟩) bvs2.length bc2) (.slice none 0 0) L (avs2 ++ bvs2 ++ (bvs2.dropLast.reverse).take 0) bvs2 (st1.all ++ st1.block ++ (st1.block.dropLast.reverse).take 0) st1.block []) := ⟨_, by simpa using HP5.out⟩
                    clear HP5
                    go_wp2
                    go_loopw [6, 20] (fun av i wl => ∃ (q : Nat), q + 1 ≤ bvs2.length ∧ Hid (i = .int .i64 ((bvs2.length : Int) - 2 - q)) ∧ Hid (m = false → q = 0) ∧ Hid (Below w.heap.size w wl) ∧ Hid (∃ D, PA wl w.heap.size D (.slice (some ⟨rg, 0, none⟩) L.length rcap) av (.slice (some ⟨bg2, 0, none⟩) bvs2.length bc2) (.slice none 0 0) L (avs2 ++ bvs2 ++ (bvs2.dropLast.reverse).take q) bvs2 (st1.all ++ st1.block ++ (st1.block.dropLast.reverse).take q) st1.block [])) (fun _ i _ => ((intOf i) + 1).toNat)
                    case atStart => exact ⟨0, by omega, by show _ = _; simp, fun _ => rfl, hBw5, HIN0⟩
                    case round =>
                      obtain ⟨q, hq, hqi, hqm, hbl, hPL⟩ := hrel
                      have hqi' := hqi.out
                      clear hqi
                      subst hqi'
                      clear HIN0
                      obtain ⟨D6, hP6⟩ := hPL.out
                      have hb6 := hbl.out
                      have hbs6 := hb6.size
                      by_cases hgo : m = true ∧ q + 2 ≤ bvs2.length
                      · obtain ⟨rfl, hq2'⟩ := hgo
                        have hge : (0 : Int) ≤ (bvs2.length : Int) - 2 - q := by omega
                        obtain ⟨t, ht⟩ : ∃ t : Nat, (bvs2.length : Int) - 2 - q = t := ⟨bvs2.length - 2 - q, by omega⟩
                        have htl : t < bvs2.length := by omega
                        have htq : t = bvs2.length - 2 - q := by omega
                        have hce := hP6.block.row.cells (g := bg2) rfl t (bvs2.getD t undef) (by rw [List.getElem?_eq_getElem htl, List.getD_eq_getElem?_getD, List.getElem?_eq_getElem htl]; rfl)
                        have hce' : wr.cell? ⟨bg2, t, none⟩ = some (bvs2.getD t undef) := by rw [← addr_add bg2 t]; exact hce
                        have hue := hP6.block.at (k := t) (by rw [← HBLL.out]; exact htl)
                        have HSV : Hid ((bvs2.dropLast.reverse).take (q + 1) = (bvs2.dropLast.reverse).take q ++ [bvs2.getD t undef]) := by show _ = _; rw [htq]; exact back_snoc undef bvs2 q hq2'
                        have HSX : Hid ((st1.block.dropLast.reverse).take (q + 1) = (st1.block.dropLast.reverse).take q ++ [st1.block.getD t []]) := by show _ = _; rw [htq, HBLL.out]; exact back_snoc [] st1.block q (by rw [← HBLL.out]; exact hq2')
                        obtain ⟨up, uc, hup⟩ := owns_slice hue
                        rw [hup] at hce' hue HSV
                        generalize hul : (st1.block.getD t []).length = ul at *
                        have hA := hP6.later ((Below.refl _ _).alloc (Nat.le_refl _) (.cells #[.slice up ul uc] 47))
                        have hrowA := hA.all.row
                        have HA := hide hA
                        have hvl : (avs2 ++ bvs2 ++ (bvs2.dropLast.reverse).take q).length ≤ 700 := by have := HAL3.out; simp only [List.length_append, List.length_take, List.length_reverse, List.length_dropLast]; omega
                        obtain ⟨lp, lc, rfl⟩ := owns_slice hrowA
                        generalize hvls : avs2 ++ bvs2 ++ (bvs2.dropLast.reverse).take q = vls at *
                        rw [ht]
                        have HT := hide ht
                        clear hce hA hup hP6 hPL htq ht hge
                        go_wp2_with (at_builtin; refine wpList_append_keep _ rfl _ _ 22 rfl w.heap.size 47 j0 (.slice none 0 0) 1 24 Tryd.underlying22 hj hq0 hq1 hq2 rfl (by decide) _ _ _ rfl hrowA ⟨wr.heap.size, 0, none⟩ 1 1 [.slice up ul uc] rfl rfl ?e1 ?e2 ?e3 ?e4 ?e5 ?_)
                        case e2 => first | rfl | (intro u hu; simp at hu; subst hu; rfl)
                        case e3 => unfold maxLen; omega
                        case e4 => omega
                        case e5 => first | omega | (simp; omega)
                        · intro v7 w7 hown7 hg7 hk7
                          have hsz : (wr.alloc (.cells #[.slice up ul uc] 47)).heap.size = wr.heap.size + 1 := by simp
                          obtain ⟨hP7, hB7⟩ := HA.out.more (us := [.slice up ul uc]) (xss := [st1.block.getD t []]) ⟨by rw [hul]; exact hue.alloc _, trivial⟩ hown7 hg7 (by rw [hsz]; exact hk7)
                          have hBw7 : Below w.heap.size w w7 := (hb6.alloc hbs6 (.cells #[.slice up ul uc] 47)).trans hB7
                          have HP7 : Hid (∃ D, PA w7 w.heap.size D (.slice (some ⟨rg, 0, none⟩) L.length rcap) v7 (.slice (some ⟨bg2, 0, none⟩) bvs2.length bc2) (.slice none 0 0) L (avs2 ++ bvs2 ++ (bvs2.dropLast.reverse).take (q + 1)) bvs2 (st1.all ++ st1.block ++ (st1.block.dropLast.reverse).take (q + 1)) st1.block []) := by
                            refine ⟨w7.heap.size, ?_⟩
                            rw [HSV.out, HSX.out, ← List.append_assoc, ← List.append_assoc, hvls]
                            exact hP7
                          clear hP7 hown7 hg7 hk7 hB7 hrowA hsz HA hue hce'
                          go_wp2
                          go_roundw
                          case rel => exact ⟨q + 1, by omega, by show _ = _; first | (congr 1; have := HT.out; omega) | congr 1, (fun e => by cases e), hBw7, HP7⟩
                          case measure => simp [intOf] <;> omega
                      · have HBQ : Hid ((st1.block.dropLast.reverse).take q = st1.back) := by
                          show _ = _
                          rw [HBK.out]
                          cases m with
                          | true => rw [if_pos rfl]; exact back_all _ _ (by rw [← HBLL.out]; have : ¬ (q + 2 ≤ bvs2.length) := fun e => hgo ⟨rfl, e⟩; omega)
                          | false => rw [if_neg (by decide), hqm.out rfl]; rfl
                        have hPS := hP6.shut
                        rw [HBQ.out] at hPS
                        have hall : (avs2 ++ bvs2 ++ (bvs2.dropLast.reverse).take q).length = (st1.all ++ st1.block ++ st1.back).length := hPS.all.len
                        obtain ⟨lp, lc, rfl⟩ := owns_slice hP6.all.row
                        rw [hall]
                        rw [hall] at hPS
                        have HPS := hide hPS
                        generalize hal : (st1.all ++ st1.block ++ st1.back).length = tl at *
                        have htl : tl ≤ 700 := by rw [← hall]; have := HAL3.out; simp only [List.length_append, List.length_take, List.length_reverse, List.length_dropLast]; omega
                        have hstop : m = false ∨ (bvs2.length : Int) - 2 - q < 0 := by
                          cases m with
                          | false => exact Or.inl rfl
                          | true => exact Or.inr (by have : ¬ (q + 2 ≤ bvs2.length) := fun e => hgo ⟨rfl, e⟩; omega)
                        clear hPS hP6 hPL hall hgo
                        generalize hid : (bvs2.length : Int) - 2 - q = id at *
                        by_cases h2 : 200 < tl
                        · have HR : Hid (ParseOwn n s w (.returned (.tuple #[.slice none 0 0, .int .i64 3])) wr) := HBAD.out 3 (by rw [HEB.out, if_pos (by first | exact h2 | (rw [hal]; exact h2))]) (by decide) _ hb6
                          clear HBAD HOK HZB HBB HDD HMM HO4 HEB HBK HBQ hid
                          rcases hstop with rfl | hstop
                          · by_cases hi0 : id < 0
                            · go_wp2
                              go_ret2
                              exact HR.out
                            · go_wp2
                              go_ret2
                              exact HR.out
                          · go_wp2
                            go_ret2
                            exact HR.out
                        · have HI5 := hide (HOK.out { st1 with all := st1.all ++ st1.block ++ st1.back, block := [], marked := false, mirrored := false } _ _ _ _ _ _ (by rw [HEB.out, if_neg (by first | exact h2 | (rw [hal]; exact h2))]) HO4.out hb6 HPS.out)
                          have HF5 : Hid (false = RS.mirrored { st1 with all := st1.all ++ st1.block ++ st1.back, block := [], marked := false, mirrored := false } ∧ true = bg { st1 with all := st1.all ++ st1.block ++ st1.back, block := [], marked := false, mirrored := false } ∧ false = dt { st1 with all := st1.all ++ st1.block ++ st1.back, block := [], marked := false, mirrored := false }) := ⟨rfl, by unfold bg; rw [show RS.opn { st1 with all := st1.all ++ st1.block ++ st1.back, block := [], marked := false, mirrored := false } = [] from HO4.out]; rfl, by unfold dt; rw [show RS.dot { st1 with all := st1.all ++ st1.block ++ st1.back, block := [], marked := false, mirrored := false } = false from HDD.out.symm]; rfl⟩
                          clear HBAD HOK HZB HBB HDD HMM HO4 HEB HBK HBQ hid
                          rcases hstop with rfl | hstop
                          · by_cases hi0 : id < 0
                            · go_wp2
                              go_roundw
                              case rel => exact ⟨k + 1, _, false, true, false, by omega, by go_num, rfl, rfl, rfl, HF5, HI5⟩
                              case measure => simp [intOf]; omega
                            · go_wp2
                              go_roundw
                              case rel => exact ⟨k + 1, _, false, true, false, by omega, by go_num, rfl, rfl, rfl, HF5, HI5⟩
                              case measure => simp [intOf]; omega
                          · go_wp2
                            go_roundw
                            case rel => exact ⟨k + 1, _, false, true, false, by omega, by go_num, rfl, rfl, rfl, HF5, HI5⟩
                            case measure => simp [intOf]; omega
            have hcn : True := trivial
            have hrest : rest n st1 c ee = (4, st1) := by
              unfold rest
              rw [if_neg (by omega), if_neg (by omega), if_neg (by omega), if_neg (by omega), if_neg (by omega)]
            have e38 : (c == 38) = false := by rw [beq_eq_false_iff_ne]; omega
            have e43 : (c == 43) = false := by rw [beq_eq_false_iff_ne]; omega
            have e120 : (c == 120) = false := by rw [beq_eq_false_iff_ne]; omega
            have e88 : (c == 88) = false := by rw [beq_eq_false_iff_ne]; omega
            have e45 : (c == 45) = false := by rw [beq_eq_false_iff_ne]; omega
            have e215 : (c == 215) = false := by rw [beq_eq_false_iff_ne]; omega
            have e46 : (c == 46) = false := by rw [beq_eq_false_iff_ne]; omega
            have e44 : (c == 44) = false := by rw [beq_eq_false_iff_ne]; omega
            have HR : Hid (ParseOwn n s w (.returned (.tuple #[.slice none 0 0, .int .i64 4])) wc) := HBAD.out 4 (by rw [hrest]) (by decide) _ hbc
            clear HBAD HOK HP HZB HBB HDD HMM HO4 hrest hcn
            go_wp2
            go_ret2
            exact HR.out
    · have hke : k = (runesOf s).length + 1 := by have := HLL.out; omega
      have hpd := HPR.out
      rw [hke] at hpd
      have HDO := hide hpd.done
      have HIN := hide hPA.all
      have hP : ParseOwn n s w (.returned (.tuple #[.slice ap avs.length ac, .int .i64 0])) wr := by
        refine ⟨hbw, _, avs, by rw [HDO.out], ?_⟩
        rw [HDO.out]
        exact HIN.out
      have HP := hide hP
      clear hP hpd hke hPA hPR hFi hov HDO HIN
      go_wp2
      go_ret2
      exact HP.out

theorem parsePlaces_ok (n : Int) (s : ByteArray) (w : World) (hn1 : 1 ≤ n) (hn2 : n ≤ 12) (hs : s.size ≤ 4000) :
    Calls Tryd.prog 16 #[.int .i64 n, .string s] w fun e w' => ParsePost n s w e w' := (parsePlaces_own n s w hn1 hn2 hs).mono fun _ _ h => h.post

end Go.Proofs.YtfngadfkopfhcaaDoor

/- The walk of PlaceParses. -/
namespace Go.Proofs.YtfngadfkopfhcaaDoor
open Go.RowKit

def PP2 (code : Int) (xss : List (List Int)) (w : World) (e : Ending) (w' : World) : Prop := Below w.heap.size w w' ∧ ∃ v, e = .returned (.tuple #[v, .int .i64 code]) ∧ IntsAll w' v xss

theorem PP2.none {code : Int} {w w' : World} (h : Below w.heap.size w w') : PP2 code [] w (.returned (.tuple #[.slice none 0 0, .int .i64 code])) w' :=
  ⟨h, _, rfl, [], Or.inl ⟨rfl, _, _, rfl⟩, rfl, fun j hj => by simp at hj⟩

end Go.Proofs.YtfngadfkopfhcaaDoor

/- Contract: method.mayCount. -/
namespace Go.Proofs.YtfngadfkopfhcaaDoor
open Go.RowKit

set_option maxHeartbeats 400000 in
theorem mmay_yes (n : Int) (w : World) (h1 : 2 ≤ n) (h2 : n ≤ 12) :
    Calls Tryd.prog 11 #[.int .i64 n] w fun e w' => e = .returned (.bool true) ∧ w = w' := by
  go_enter Tryd.func11, Tryd.ntmps11
  go_wp2
  go_ret
  exact ⟨rfl, rfl⟩

set_option maxHeartbeats 400000 in
theorem mmay_no (n : Int) (w : World) (h : n < 2 ∨ 12 < n) :
    Calls Tryd.prog 11 #[.int .i64 n] w fun e w' => e = .returned (.bool false) ∧ w = w' := by
  rcases h with h | h
  · go_enter Tryd.func11, Tryd.ntmps11
    go_wp2
    go_ret
    exact ⟨rfl, rfl⟩
  · have h1 : 2 ≤ n := by omega
    have h2 : decide (n ≤ 12) = false := by simp; omega
    go_enter Tryd.func11, Tryd.ntmps11
    go_wp2
    go_ret
    exact ⟨rfl, rfl⟩

end Go.Proofs.YtfngadfkopfhcaaDoor
