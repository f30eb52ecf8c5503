/- Joined: Rd3, Cln, Rd4. -/
import Derived.Test.YtfngadfkopfhcaaDoorJ5
import Derived.Deep.Cut
import Derived.Deep.RegionHeld3
import Derived.Deep.QuietTactic
/- Contract: (*reader).endSigns. (Written by mkends.py.) -/
namespace Go.Proofs.YtfngadfkopfhcaaDoor
open Go.RowKit

theorem own_ty_ne {w : World} {b1 b2 e1 e2 n1 n2 : Nat} {v1 v2 : Value} {xs ys : List Value} (h1 : w.ownsRow b1 e1 1 v1 n1 xs) (h2 : w.ownsRow b2 e2 1 v2 n2 ys) (hne : e1 ≠ e2) : v1.ownBlock = none ∨ v1.ownBlock ≠ v2.ownBlock := by
  rcases h1.2 with ⟨rfl, _⟩ | ⟨g, cap, cur, rfl, _, hh, _⟩
  · exact Or.inl rfl
  · refine Or.inr (fun e => ?_)
    rcases h2.2 with ⟨rfl, _⟩ | ⟨g', cap', cur', rfl, _, hh', _⟩
    · cases e
    · have : g = g' := Option.some.inj e
      subst this
      rw [hh] at hh'
      injection hh' with hh'
      injection hh' with _ h2
      exact hne h2

theorem OwnAll.memw {w w' : World} {base : Nat} : ∀ {us : List Value} {xs : List (List Int)}, (∀ u n ys, u ∈ us → w.ownsRow base 3 1 u n ys → w'.ownsRow base 3 1 u n ys) → OwnAll w base us xs → OwnAll w' base us xs
  | [], [], _, h => h
  | [], _ :: _, _, h => h.elim
  | _ :: _, [], _, h => h.elim
  | _ :: _, _ :: _, hk, h => ⟨hk _ _ _ List.mem_cons_self h.1, OwnAll.memw (fun u' n ys hu => hk u' n ys (List.mem_cons_of_mem _ hu)) h.2⟩

section
variable {w : World} {R D : Nat} {n : Int} {av bv ov : Value} {avs bvs : List Value} {st : RS}

theorem RdAt.shutD (h : RdAt w R D n av bv ov avs bvs st) : RdAt (w.setCell ⟨R, 5, none⟩ (.slice none 0 0)) R D n av bv (.slice none 0 0) avs bvs { st with opn := [] } :=
  ⟨by rw [heap_set7 h.blk]; rfl, h.all.setR, h.block.setR, World.ownsRow_nil _ _ _ _, h.inner, h.sep, h.low, by simp [World.setCell]; exact h.high, fun _ => rfl⟩

/-- A row of numbers apart grows. -/
theorem RdAt.apart {w2 : World} {u : Value} {k : Nat} {us : List Value} (h : RdAt w R D n av bv (.slice none 0 0) avs bvs st) (ho : st.opn = []) (hu : w.ownsRow D 3 1 u k us) (hg : w.grownBy w2 u.ownBlock) : RdAt w2 R D n av bv (.slice none 0 0) avs bvs st := by
  have hin : ∀ x m ys, x ∈ avs ++ bvs → w.ownsRow (R + 1) 3 1 x m ys → w2.ownsRow (R + 1) 3 1 x m ys := by
    intro x m ys hx hr
    refine hr.kept hg ?_
    cases hb : x.ownBlock with
    | none => exact Or.inl rfl
    | some b =>
      refine Or.inr (fun e => ?_)
      have h1 := h.inner x hx b hb
      have h2 := (hu.lt b e.symm).1
      omega
  refine ⟨?_, ⟨h.all.row.kept hg (own_ty_ne h.all.row hu (by decide)), h.all.all.memw (fun x m ys hx => hin x m ys (List.mem_append.2 (Or.inl hx)))⟩, ⟨h.block.row.kept hg (own_ty_ne h.block.row hu (by decide)), h.block.all.memw (fun x m ys hx => hin x m ys (List.mem_append.2 (Or.inr hx)))⟩, by rw [ho]; exact World.ownsRow_nil _ _ _ _, h.inner, h.sep, h.low, Nat.le_trans h.high hg.size, fun _ => rfl⟩
  rw [hg.block R h.lt (fun e => by have := (hu.lt R e.symm).1; have := h.low; omega)]
  exact h.blk

end

theorem Goes.after {w w1 w' : World} {R : Nat} {n : Int} {p : Int × RS} {e : Ending} (h : Goes w1 R n p e w') (hb : Bel R w w1) : Goes w R n p e w' := ⟨hb.trans h.1, h.2⟩

theorem last_get (l : List Int) (h : 1 ≤ l.length) : l.getLastD 0 = l.getD (l.length - 1) 0 := by
  rcases List.eq_nil_or_concat l with rfl | ⟨l', b, rfl⟩
  · simp at h
  · simp [List.getD]

theorem head_get (l : List Int) (h : 1 ≤ l.length) : l.headD 0 = l.getD 0 0 := by
  cases l with
  | nil => simp at h
  | cons a l => rfl

theorem fill1_len (l : List Int) : l.length ≤ (fill1 l).length ∧ (fill1 l).length ≤ l.length + 1 := by unfold fill1; split <;> simp

theorem fill1_range {l : List Int} (h : ∀ x ∈ l, 1 ≤ x ∧ x ≤ 12) : ∀ x ∈ fill1 l, 1 ≤ x ∧ x ≤ 12 := by
  unfold fill1
  intro x hx
  split at hx
  · rcases List.mem_cons.1 hx with rfl | hx
    · omega
    · exact h x hx
  · exact h x hx

set_option maxRecDepth 20000 in
set_option maxHeartbeats 8000000 in
theorem endSigns_any (R : Nat) (n : Int) (st : RS) (w : World) (h : Rd w R n st) (hn1 : 1 ≤ n) (hn2 : n ≤ 12) (hbl : st.block.length ≤ 1000) (hop : ∀ x ∈ st.opn, 1 ≤ x ∧ x ≤ 12) (hol : st.opn.length ≤ 5000) :
    Calls Tryd.prog 40 #[.pointer (some ⟨R, 0, none⟩)] w fun e w' => Goes w R n (st.endSigns n) e w' := by
  obtain ⟨j0, hj, hq0, hq1, hq2⟩ := info_parts Tryd.info3
  obtain ⟨D, av, bv, ov, avs, bvs, h⟩ := h
  obtain ⟨c0, c1, c2, c3, c4, c5, c6⟩ := cells7 h.blk
  have f5 := frozen7 h.blk 5
  by_cases hz : st.opn = []
  · have HM : Hid (st.endSigns n = (0, st)) := by show _ = _; unfold RS.endSigns; rw [if_pos hz]
    obtain ⟨p, c, hoe⟩ := owns_slice h.opn
    rw [hz] at hoe
    rw [hoe] at c5
    have HH := hide h
    clear h hoe c0 c1 c2 c3 c4 c6 hz hop hol
    simp only [List.length_nil] at c5
    go_enter Tryd.func40, Tryd.ntmps40
    go_wp2
    first
      | exact bodyPost_ret (results_none rfl _ _ _) rfl (Goes.ok HM.out (Bel.refl _ _) ⟨_, _, _, _, _, _, HH.out⟩)
      | exact bodyPost_end (results_none rfl _ _ _) rfl (Goes.ok HM.out (Bel.refl _ _) ⟨_, _, _, _, _, _, HH.out⟩)
  · have HM : Hid (st.endSigns n = RS.add n { st with opn := [] } (fill2 n (fill1 st.opn))) := by show _ = _; unfold RS.endSigns; rw [if_neg hz]
    have hpos : 1 ≤ st.opn.length := by cases ho : st.opn with | nil => exact absurd ho hz | cons a l => simp
    have hopn := h.opn
    have HR1 := hide h.shutD
    have hD1 := h.low
    have hD2 := h.high
    have hbv : bvs.length ≤ 1000 := by rw [h.block.len]; exact hbl
    clear h c1 c2 c3 c4 c6 hz
    generalize st.opn = l at *
    obtain ⟨g, cap, hoe, hg1, hg2, hcap1, hcap2⟩ := owns_form hopn hpos
    rw [hoe] at c5 hopn
    clear hoe
    have hown1 := ownsRow_setCell_below hopn (a := ⟨R, 5, none⟩) (by exact hD1) (.slice none 0 0)
    have hB1 : Bel R w (w.setCell ⟨R, 5, none⟩ (.slice none 0 0)) := (Bel.refl R w).setCell (p := ⟨R, 5, none⟩) (Nat.le_refl _) _
    have g0 := (cells7 HR1.out.blk).1
    obtain ⟨y0, hy0, hcx, _⟩ := owns_cellAt hown1 hpos
    have hy0r : 1 ≤ y0 ∧ y0 ≤ 12 := by
      rw [← hy0.out]
      refine hop _ ?_
      rw [List.getElem?_eq_getElem (by omega : 0 < l.length)]
      exact List.getElem_mem _
    have hhd : l.headD 0 = y0 := by rw [head_get l hpos]; exact hy0.out
    have hsz1 : (w.setCell ⟨R, 5, none⟩ (.slice none 0 0)).heap.size = w.heap.size := by simp [World.setCell]
    have hRw : R < w.heap.size := by omega
    have hlz : (((l.length : Nat) : Int) == 0) = false := by rw [beq_eq_false_iff_ne]; omega
    have HOW := hide hown1
    have hgR : g ≠ R := by omega
    have hcw := (owns_cell hopn hpos).1
    rw [show l.getD 0 0 = y0 from by rw [← head_get l hpos, hhd]] at hcw
    have HOP := hide hopn
    clear hopn hown1 hy0 hcx
    by_cases hev : y0 % 2 = 0
    · have hf1 : Hid (fill1 l = 1 :: l) := by show _ = _; unfold fill1; rw [hhd, if_pos hev]
      have hd0 : (y0 % 2 == 0) = true := by simpa using hev
      have HL1 : Hid ((fill1 l).length = l.length + 1) := by show _ = _; rw [hf1.out]; rfl
      have HFR := hide (fill1_range hop)
      have hbA : Below (w.setCell ⟨R, 5, none⟩ (.slice none 0 0)).heap.size (w.setCell ⟨R, 5, none⟩ (.slice none 0 0)) ((w.setCell ⟨R, 5, none⟩ (.slice none 0 0)).alloc (.cells #[.int .i64 1] 3)) := (Below.refl _ _).alloc (Nat.le_refl _) _
      have hRA := HR1.out.later hbA
      have hOA := HOW.out.alloc (.cells #[.int .i64 1] 3)
      have hnew : ((w.setCell ⟨R, 5, none⟩ (.slice none 0 0)).alloc (.cells #[.int .i64 1] 3)).heap[w.heap.size]? = some (.cells #[.int .i64 1] 3) := by
        have h9 := heap_alloc_new (w.setCell ⟨R, 5, none⟩ (.slice none 0 0)) (.cells #[.int .i64 1] 3)
        rwa [hsz1] at h9
      have HIN := hide (ins_own hOA hpos (by simp; omega) (by omega) hnew (by omega))
      have HOA := hide hOA
      have HRA := hide hRA
      clear hev hhd hOA hRA hnew
      go_enter Tryd.func40, Tryd.ntmps40
      go_wp2_with fail
      refine HIN.out.mono ?_
      rintro e w2 ⟨v2, rfl, hown2, hg2'⟩
      obtain ⟨g2, cap2, rfl, hga, hgb, hgc, hgd⟩ := owns_form hown2 (by omega)
      have HR2 := hide (HRA.out.apart rfl HOA.out hg2')
      have hB2 : Bel R w w2 := (hB1.trans ((Bel.refl R (w.setCell ⟨R, 5, none⟩ (.slice none 0 0))).alloc (by omega) _)).trans (Bel.grown HOA.out hD1 (by simp; omega) hg2')
      have hs2 : D ≤ w2.heap.size := HR2.out.high
      have HO2 := hide hown2
      have HF1 := hf1
      generalize hl1 : (1 : Int) :: l = l1 at *
      have HM2 : Hid (l1.length = l.length + 1) := by show _ = _; rw [← hl1]; rfl
      clear hown2 hg2' HIN HOA HRA HR1 hl1 HL1 hf1 hcw
      generalize hmm : l.length + 1 = m2 at *
      have hm2a : m2 ≤ 5001 := by omega
      have hm2b : 1 ≤ m2 := by omega
      clear hmm
      have hrow2 := HO2.out
      have hRW2 := HR2.out
      have hcell1 : ∀ j u, [Value.int .i64 n][j]? = some u → (w2.alloc (.cells #[.int .i64 n] 3)).cell? ((⟨w2.heap.size, 0, none⟩ : Addr).add j) = some u := by
        exact cell_one_new _ _ _
      have hM1 : 1 ≤ m2 := by omega
      have hM5 : m2 ≤ 5001 := by omega
      obtain ⟨y, hy, hcy, _⟩ := owns_cellAt hrow2 (show m2 - 1 < m2 by omega)
      have hyr : 1 ≤ y ∧ y ≤ 12 := by
        rw [← hy.out]
        refine HFR.out _ ?_
        rw [HF1.out, List.getElem?_eq_getElem (by rw [HM2.out]; omega)]
        exact List.getElem_mem _
      have hyl : l1.getLastD 0 = y := by rw [last_get l1 (by rw [HM2.out]; omega), HM2.out]; exact hy.out
      have gb := (cells7 hRW2.blk).1
      have hy9 : l1.getD (m2 - 1) 0 = y := hy.out
      have hmi : ((m2 : Nat) : Int) - 1 = ((m2 - 1 : Nat) : Int) := by omega
      clear hy
      generalize hmq : m2 - 1 = mq at *
      have hmq2 : mq < m2 := by omega
      clear hmq
      by_cases hlt : y < n
      · by_cases hodd : (n - y) % 2 = 1
        · have HF2 : Hid (fill2 n l1 = l1 ++ [n]) := by show _ = _; unfold fill2; rw [hyl, if_pos ⟨hlt, hodd⟩]
          have HPA := hide (fun W => pairs_any (n - y) W (by omega) (by omega))
          rw [decide_eq_false (show ¬ (n - y) % 2 = 0 by omega)] at HPA
          clear hyl hodd
          go_wp2_with fail
          go_region
          all_goals
            go_wp2_with fail
            refine (HPA.out _).mono ?_
            rintro e w' ⟨rfl, rfl⟩
            go_wp2_with (at_builtin; refine wpList_append_own _ rfl _ _ 47 rfl D 3 j0 (.int .i64 0) 1 8 Tryd.underlying47 hj hq0 hq1 hq2 rfl (by decide) _ _ _ rfl (show (w2.alloc (.cells #[.int .i64 n] 3)).drew.ownsRow D 3 1 _ _ _ from hrow2.alloc _) ⟨w2.heap.size, 0, none⟩ 1 1 [.int .i64 n] rfl rfl ?c1 ?c2 ?c3 ?c4 ?c5 ?_)
            case c1 => exact hcell1
            case c2 => intro u hu; simp at hu; subst hu; rfl
            case c3 => unfold maxLen; omega
            case c4 => omega
            case c5 => simp; omega
            · intro v' w5 hown5 hgrow _
              have hR5 := (hRW2.later (((Below.refl _ _).alloc (Nat.le_refl _) (.cells #[.int .i64 n] 3)).drew)).apart rfl (show (w2.alloc (.cells #[.int .i64 n] 3)).drew.ownsRow D 3 1 _ _ _ from hrow2.alloc _) hgrow
              have hB5 : Bel R w w5 := (hB2.trans (((Bel.refl R w2).alloc (by omega) (.cells #[.int .i64 n] 3)).drew)).trans (Bel.grown (show (w2.alloc (.cells #[.int .i64 n] 3)).drew.ownsRow D 3 1 _ _ _ from hrow2.alloc _) hD1 (by show R ≤ (w2.alloc (.cells #[.int .i64 n] 3)).heap.size; simp; omega) hgrow)
              have hown6 : w5.ownsRow D 3 1 v' (l1 ++ [n]).length ((l1 ++ [n]).map (Value.int .i64)) := by
                rw [List.length_append, HM2.out, List.map_append]; exact hown5
              have HAD := hide (add_any R D n av bv avs bvs _ v' (l1 ++ [n]) w5 hR5 rfl hn1 hn2 hbv (owns_base hown6 hD1))
              have hF2 : Hid (st.endSigns n = RS.add n { st with opn := [] } (l1 ++ [n])) := by show _ = _; rw [HM.out, HF1.out, HF2.out]
              obtain ⟨vp, vc, rfl⟩ := owns_slice hown5
              clear hown5 hgrow hrow2 hR5 hown6 hRW2
              go_wp2_with fail
              refine HAD.out.mono ?_
              rintro e w6 hgo
              have hgo2 : Goes w R n (st.endSigns n) e w6 := by rw [hF2.out]; exact hgo.after hB5
              have HG := hide hgo2
              rcases hgo2.2 with ⟨_, he, _⟩ | ⟨_, he⟩
              · subst he
                clear hgo hgo2
                go_wp2
                exact bodyPost_end (results_none rfl _ _ _) rfl HG.out
              · subst he
                clear hgo hgo2
                unfold thrown
                go_wp2
                exact ⟨rfl, HG.out⟩
        · have HF2 : Hid (fill2 n l1 = l1) := by show _ = _; unfold fill2; rw [hyl, if_neg (fun e => hodd e.2)]
          have HPA := hide (fun W => pairs_any (n - y) W (by omega) (by omega))
          rw [decide_eq_true (show (n - y) % 2 = 0 by omega)] at HPA
          clear hyl hodd
          go_wp2_with fail
          go_region
          all_goals
            go_wp2_with fail
            refine (HPA.out _).mono ?_
            rintro e w' ⟨rfl, rfl⟩
            have HAD := hide (add_any R D n av bv avs bvs _ _ l1 (w2).drew (hRW2.later (Below.refl _ _).drew) rfl hn1 hn2 hbv (by rw [HM2.out]; exact owns_base (show (w2).drew.ownsRow D 3 1 _ _ _ from hrow2) hD1))
            have hF2 : Hid (st.endSigns n = RS.add n { st with opn := [] } l1) := by show _ = _; rw [HM.out, HF1.out, HF2.out]
            clear hrow2 hRW2
            go_wp2_with fail
            refine HAD.out.mono ?_
            rintro e w6 hgo
            have hgo2 : Goes w R n (st.endSigns n) e w6 := by rw [hF2.out]; exact hgo.after hB2.drew
            have HG := hide hgo2
            rcases hgo2.2 with ⟨_, he, _⟩ | ⟨_, he⟩
            · subst he
              clear hgo hgo2
              go_wp2
              exact bodyPost_end (results_none rfl _ _ _) rfl HG.out
            · subst he
              clear hgo hgo2
              unfold thrown
              go_wp2
              exact ⟨rfl, HG.out⟩
      · have HF2 : Hid (fill2 n l1 = l1) := by show _ = _; unfold fill2; rw [hyl, if_neg (fun e => hlt e.1)]
        clear hyl
        go_wp2_with fail
        go_region
        all_goals
          have HAD := hide (add_any R D n av bv avs bvs _ _ l1 (w2).drew (hRW2.later (Below.refl _ _).drew) rfl hn1 hn2 hbv (by rw [HM2.out]; exact owns_base (show (w2).drew.ownsRow D 3 1 _ _ _ from hrow2) hD1))
          have hF2 : Hid (st.endSigns n = RS.add n { st with opn := [] } l1) := by show _ = _; rw [HM.out, HF1.out, HF2.out]
          clear hrow2 hRW2
          go_wp2_with fail
          refine HAD.out.mono ?_
          rintro e w6 hgo
          have hgo2 : Goes w R n (st.endSigns n) e w6 := by rw [hF2.out]; exact hgo.after hB2.drew
          have HG := hide hgo2
          rcases hgo2.2 with ⟨_, he, _⟩ | ⟨_, he⟩
          · subst he
            clear hgo hgo2
            go_wp2
            exact bodyPost_end (results_none rfl _ _ _) rfl HG.out
          · subst he
            clear hgo hgo2
            unfold thrown
            go_wp2
            exact ⟨rfl, HG.out⟩
    · have HF1 : Hid (fill1 l = l) := by show _ = _; unfold fill1; rw [hhd, if_neg hev]
      have hd0 : (y0 % 2 == 0) = false := by simpa using hev
      have HFR := hide (fill1_range hop)
      generalize hm1 : l.length = m1 at *
      have HM2 := hide hm1
      clear hm1
      have hs2 : D ≤ (w.setCell ⟨R, 5, none⟩ (.slice none 0 0)).heap.size := by omega
      clear hev hhd
      go_enter Tryd.func40, Tryd.ntmps40
      have hrow2 := HOW.out
      have hRW2 := HR1.out
      have hcell : ∀ j u, [Value.int .i64 n][j]? = some u → ((w.setCell ⟨R, 5, none⟩ (.slice none 0 0)).alloc (.cells #[.int .i64 n] 3)).cell? ((⟨w.heap.size, 0, none⟩ : Addr).add j) = some u := by
        have h9 := cell_one_new (w.setCell ⟨R, 5, none⟩ (.slice none 0 0)) (.int .i64 n) 3
        rwa [hsz1] at h9
      have hM1 : 1 ≤ m1 := by omega
      have hM5 : m1 ≤ 5001 := by omega
      obtain ⟨y, hy, hcy, _⟩ := owns_cellAt hrow2 (show m1 - 1 < m1 by omega)
      have hyr : 1 ≤ y ∧ y ≤ 12 := by
        rw [← hy.out]
        refine HFR.out _ ?_
        rw [HF1.out, List.getElem?_eq_getElem (by rw [HM2.out]; omega)]
        exact List.getElem_mem _
      have hyl : l.getLastD 0 = y := by rw [last_get l (by rw [HM2.out]; omega), HM2.out]; exact hy.out
      have gb := (cells7 hRW2.blk).1
      have hy9 : l.getD (m1 - 1) 0 = y := hy.out
      have hmi : ((m1 : Nat) : Int) - 1 = ((m1 - 1 : Nat) : Int) := by omega
      clear hy
      have hcyw := (owns_cell HOP.out (show m1 - 1 < m1 by omega)).1
      rw [show l.getD (m1 - 1) 0 = y from hy9] at hcyw
      generalize hmq : m1 - 1 = mq at *
      have hmq2 : mq < m1 := by omega
      clear hmq
      by_cases hlt : y < n
      · by_cases hodd : (n - y) % 2 = 1
        · have HF2 : Hid (fill2 n l = l ++ [n]) := by show _ = _; unfold fill2; rw [hyl, if_pos ⟨hlt, hodd⟩]
          have HPA := hide (fun W => pairs_any (n - y) W (by omega) (by omega))
          rw [decide_eq_false (show ¬ (n - y) % 2 = 0 by omega)] at HPA
          clear hyl hodd
          go_wp2_with fail
          go_region
          all_goals
            go_wp2_with fail
            refine (HPA.out _).mono ?_
            rintro e w' ⟨rfl, rfl⟩
            go_wp2_with (at_builtin; refine wpList_append_own _ rfl _ _ 47 rfl D 3 j0 (.int .i64 0) 1 8 Tryd.underlying47 hj hq0 hq1 hq2 rfl (by decide) _ _ _ rfl (show ((w.setCell ⟨R, 5, none⟩ (.slice none 0 0)).alloc (.cells #[.int .i64 n] 3)).drew.ownsRow D 3 1 _ _ _ from hrow2.alloc _) ⟨w.heap.size, 0, none⟩ 1 1 [.int .i64 n] rfl rfl ?c1 ?c2 ?c3 ?c4 ?c5 ?_)
            case c1 => exact hcell
            case c2 => intro u hu; simp at hu; subst hu; rfl
            case c3 => unfold maxLen; omega
            case c4 => omega
            case c5 => simp; omega
            · intro v' w5 hown5 hgrow _
              have hR5 := (hRW2.later (((Below.refl _ _).alloc (Nat.le_refl _) (.cells #[.int .i64 n] 3)).drew)).apart rfl (show ((w.setCell ⟨R, 5, none⟩ (.slice none 0 0)).alloc (.cells #[.int .i64 n] 3)).drew.ownsRow D 3 1 _ _ _ from hrow2.alloc _) hgrow
              have hB5 : Bel R w w5 := (hB1.trans (((Bel.refl R (w.setCell ⟨R, 5, none⟩ (.slice none 0 0))).alloc (by omega) (.cells #[.int .i64 n] 3)).drew)).trans (Bel.grown (show ((w.setCell ⟨R, 5, none⟩ (.slice none 0 0)).alloc (.cells #[.int .i64 n] 3)).drew.ownsRow D 3 1 _ _ _ from hrow2.alloc _) hD1 (by show R ≤ ((w.setCell ⟨R, 5, none⟩ (.slice none 0 0)).alloc (.cells #[.int .i64 n] 3)).heap.size; simp; omega) hgrow)
              have hown6 : w5.ownsRow D 3 1 v' (l ++ [n]).length ((l ++ [n]).map (Value.int .i64)) := by
                rw [List.length_append, HM2.out, List.map_append]; exact hown5
              have HAD := hide (add_any R D n av bv avs bvs _ v' (l ++ [n]) w5 hR5 rfl hn1 hn2 hbv (owns_base hown6 hD1))
              have hF2 : Hid (st.endSigns n = RS.add n { st with opn := [] } (l ++ [n])) := by show _ = _; rw [HM.out, HF1.out, HF2.out]
              obtain ⟨vp, vc, rfl⟩ := owns_slice hown5
              clear hown5 hgrow hrow2 hR5 hown6 hRW2
              go_wp2_with fail
              refine HAD.out.mono ?_
              rintro e w6 hgo
              have hgo2 : Goes w R n (st.endSigns n) e w6 := by rw [hF2.out]; exact hgo.after hB5
              have HG := hide hgo2
              rcases hgo2.2 with ⟨_, he, _⟩ | ⟨_, he⟩
              · subst he
                clear hgo hgo2
                go_wp2
                exact bodyPost_end (results_none rfl _ _ _) rfl HG.out
              · subst he
                clear hgo hgo2
                unfold thrown
                go_wp2
                exact ⟨rfl, HG.out⟩
        · have HF2 : Hid (fill2 n l = l) := by show _ = _; unfold fill2; rw [hyl, if_neg (fun e => hodd e.2)]
          have HPA := hide (fun W => pairs_any (n - y) W (by omega) (by omega))
          rw [decide_eq_true (show (n - y) % 2 = 0 by omega)] at HPA
          clear hyl hodd
          go_wp2_with fail
          go_region
          all_goals
            go_wp2_with fail
            refine (HPA.out _).mono ?_
            rintro e w' ⟨rfl, rfl⟩
            have HAD := hide (add_any R D n av bv avs bvs _ _ l ((w.setCell ⟨R, 5, none⟩ (.slice none 0 0))).drew (hRW2.later (Below.refl _ _).drew) rfl hn1 hn2 hbv (by rw [HM2.out]; exact owns_base (show ((w.setCell ⟨R, 5, none⟩ (.slice none 0 0))).drew.ownsRow D 3 1 _ _ _ from hrow2) hD1))
            have hF2 : Hid (st.endSigns n = RS.add n { st with opn := [] } l) := by show _ = _; rw [HM.out, HF1.out, HF2.out]
            clear hrow2 hRW2
            go_wp2_with fail
            refine HAD.out.mono ?_
            rintro e w6 hgo
            have hgo2 : Goes w R n (st.endSigns n) e w6 := by rw [hF2.out]; exact hgo.after hB1.drew
            have HG := hide hgo2
            rcases hgo2.2 with ⟨_, he, _⟩ | ⟨_, he⟩
            · subst he
              clear hgo hgo2
              go_wp2
              exact bodyPost_end (results_none rfl _ _ _) rfl HG.out
            · subst he
              clear hgo hgo2
              unfold thrown
              go_wp2
              exact ⟨rfl, HG.out⟩
      · have HF2 : Hid (fill2 n l = l) := by show _ = _; unfold fill2; rw [hyl, if_neg (fun e => hlt e.1)]
        clear hyl
        go_wp2_with fail
        go_region
        all_goals
          have HAD := hide (add_any R D n av bv avs bvs _ _ l ((w.setCell ⟨R, 5, none⟩ (.slice none 0 0))).drew (hRW2.later (Below.refl _ _).drew) rfl hn1 hn2 hbv (by rw [HM2.out]; exact owns_base (show ((w.setCell ⟨R, 5, none⟩ (.slice none 0 0))).drew.ownsRow D 3 1 _ _ _ from hrow2) hD1))
          have hF2 : Hid (st.endSigns n = RS.add n { st with opn := [] } l) := by show _ = _; rw [HM.out, HF1.out, HF2.out]
          clear hrow2 hRW2
          go_wp2_with fail
          refine HAD.out.mono ?_
          rintro e w6 hgo
          have hgo2 : Goes w R n (st.endSigns n) e w6 := by rw [hF2.out]; exact hgo.after hB1.drew
          have HG := hide hgo2
          rcases hgo2.2 with ⟨_, he, _⟩ | ⟨_, he⟩
          · subst he
            clear hgo hgo2
            go_wp2
            exact bodyPost_end (results_none rfl _ _ _) rfl HG.out
          · subst he
            clear hgo hgo2
            unfold thrown
            go_wp2
            exact ⟨rfl, HG.out⟩

end Go.Proofs.YtfngadfkopfhcaaDoor

/- Contract: slices.Clone of a row of the call's own. -/
namespace Go.Proofs.YtfngadfkopfhcaaDoor
open Go.RowKit

set_option maxRecDepth 20000 in
set_option maxHeartbeats 1000000 in
theorem clone_own {base : Nat} {v : Value} {xs : List Int} {w : World} (h : w.ownsRow base 3 1 v xs.length (xs.map (Value.int .i64))) (hl : xs.length ≤ 1000000) :
    Calls Tryd.prog 63 #[v] w fun e w' => ∃ v', e = .returned v' ∧ w'.ownsRow w.heap.size 3 1 v' xs.length (xs.map (Value.int .i64)) ∧ Below w.heap.size w w' := by
  obtain ⟨j0, hj, hq0, hq1, hq2⟩ := info_parts Tryd.info3
  have q1 := run_nil_eq
  have q3 := run_some_eq
  rcases h.2 with ⟨rfl, hz⟩ | ⟨g, cap, cur, rfl, hbg, hh, hnc, hm, hs, ht⟩
  · have hx : xs = [] := List.length_eq_zero_iff.1 hz
    subst hx
    clear h hz
    go_enter Tryd.func63, Tryd.ntmps63
    go_wp2
    go_ret
    exact ⟨_, rfl, World.ownsRow_nil _ _ _ _, Below.refl _ _⟩
  · have h1c : ∀ v ∈ xs.map (Value.int .i64), v.oneCell' = true := by
      intro v hv'
      obtain ⟨z, _, rfl⟩ := List.mem_map.1 hv'
      rfl
    have hnew : (w.alloc (.cells #[] 3)).ownsRow w.heap.size 3 1 (.slice (some ⟨w.heap.size, 0, none⟩) 0 0) 0 [] := World.ownsRow_made w #[] 0 (Nat.le_refl _) (by unfold maxLen; omega) rfl
    have hsrc := h.alloc (.cells #[] 3)
    clear hh hs ht h
    go_enter Tryd.func63, Tryd.ntmps63
    go_wp2_with (at_builtin; refine wpList_append_more rfl _ _ 47 rfl w.heap.size base 3 j0 (.int .i64 0) 8 Tryd.underlying47 hj hq0 hq1 hq2 rfl _ _ _ rfl hnew _ _ _ rfl hsrc h1c ?c3 ?c4 ?c5 ?_)
    case c3 => unfold maxLen; omega
    case c4 => omega
    case c5 => simp
    · intro v' w' hown hgrow
      have hB : Below w.heap.size w w' := ((Below.refl _ _).alloc (Nat.le_refl _) _).grown hgrow (by simp) (fun k hk => by have : w.heap.size = k := Option.some.inj hk; omega)
      try rw [Nat.zero_add] at hown
      try rw [List.nil_append] at hown
      clear hgrow
      go_wp2
      go_ret
      exact ⟨_, rfl, hown, hB⟩

end Go.Proofs.YtfngadfkopfhcaaDoor

/- Contracts: slices.Clone, (*reader).endBlock. -/
namespace Go.Proofs.YtfngadfkopfhcaaDoor
open Go.RowKit

section
variable {w : World} {R D : Nat} {n : Int} {av bv ov : Value} {avs bvs : List Value} {st : RS}

/-- More changes behind all. -/
theorem RdAt.more {w5 : World} {v' : Value} {us : List Value} {xss : List (List Int)} (h : RdAt w R D n av bv (.slice none 0 0) avs bvs st) (ho : st.opn = []) (hu : OwnAll w (R + 1) us xss)
    (hown : w5.ownsRow (R + 1) 47 1 v' (avs.length + us.length) (avs ++ us)) (hg : w.grownBy w5 av.ownBlock) (hk : v'.ownBlock = av.ownBlock ∨ (v'.ownBlock = some w.heap.size ∧ w.grownBy w5 none)) :
    RdAt (w5.setCell ⟨R, 1, none⟩ v') R w5.heap.size n v' bv (.slice none 0 0) (avs ++ us) bvs { st with all := st.all ++ xss } ∧ w5.heap[R]? = w.heap[R]? ∧ Bel R w w5 ∧ LL w5 (R + 1) bv bvs st.block := by
  have hRb : some R ≠ av.ownBlock := fun e => by have := (h.all.row.lt R e.symm).1; omega
  have hblk := (hg.block R h.lt hRb).trans h.blk
  have hne : bv.ownBlock = none ∨ bv.ownBlock ≠ av.ownBlock := by
    rcases h.sep with hs | hs
    · cases hb : bv.ownBlock with
      | none => exact Or.inl rfl
      | some b => exact Or.inr (by rw [hs]; exact fun e => by cases e)
    · exact Or.inr (fun e => hs e.symm)
  have hbl : LL w5 (R + 1) bv bvs st.block := h.block.kept_row h.all.row hg hne
  have hall : LL w5 (R + 1) v' (avs ++ us) (st.all ++ xss) := ⟨by rw [List.length_append]; exact hown, OwnAll.join (hu.mono (fun _ _ _ h' => owns_kept_ty h' h.all.row hg)) (h.all.all.mono (fun _ _ _ h' => owns_kept_ty h' h.all.row hg))⟩
  refine ⟨⟨by rw [heap_set7 hblk]; rfl, hall.setR, hbl.setR, by rw [ho]; exact World.ownsRow_nil _ _ _ _, ?_, ?_, ?_, by simp [World.setCell], fun _ => rfl⟩, hg.block R h.lt hRb, ?_, hbl⟩
  · intro u hu b hb
    rcases List.mem_append.1 hu with hu | hu
    · exact hall.lt u hu b hb
    · exact hbl.lt u hu b hb
  · rcases hk with hk | ⟨hk, _⟩
    · rw [hk]; exact h.sep
    · rw [hk]
      refine Or.inr (fun e => ?_)
      have := (h.block.row.lt w.heap.size e.symm).2
      omega
  · have := h.lt; have := hg.size; omega
  · exact Bel.grown h.all.row (Nat.le_refl _) (Nat.le_of_lt h.lt) hg

end

end Go.Proofs.YtfngadfkopfhcaaDoor
