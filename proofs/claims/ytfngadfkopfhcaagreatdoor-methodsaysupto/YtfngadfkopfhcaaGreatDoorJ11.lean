/- Joined: Rd3, Cln, Rd4, Rd5, IdxA, Rd6. -/
import Derived.Test.YtfngadfkopfhcaaGreatDoorJ10
import Derived.Deep.Cut
import Derived.Test.YtfngadfkopfhcaaGreatDoorJ4
import Derived.Deep.RegionHeld3
import Derived.Deep.QuietTactic
import Derived.Test.YtfngadfkopfhcaaGreatDoorJ2
/- Contract: (*reader).endSigns. (Written by mkends.py.) -/
namespace Go.Proofs.YtfngadfkopfhcaaGreatDoor
open Go.RowKit

theorem own_ty_ne {w : World} {b1 b2 e1 e2 n1 n2 : Nat} {v1 v2 : Value} {xs ys : List Value} (h1 : w.ownsRow b1 e1 1 v1 n1 xs) (h2 : w.ownsRow b2 e2 1 v2 n2 ys) (hne : e1 ≠ e2) : v1.ownBlock = none ∨ v1.ownBlock ≠ v2.ownBlock := by
  rcases h1.2 with ⟨rfl, _⟩ | ⟨g, cap, cur, rfl, _, hh, _⟩
  · exact Or.inl rfl
  · refine Or.inr (fun e => ?_)
    rcases h2.2 with ⟨rfl, _⟩ | ⟨g', cap', cur', rfl, _, hh', _⟩
    · cases e
    · have : g = g' := Option.some.inj e
      subst this
      rw [hh] at hh'
      injection hh' with hh'
      injection hh' with _ h2
      exact hne h2

theorem OwnAll.memw {w w' : World} {base : Nat} : ∀ {us : List Value} {xs : List (List Int)}, (∀ u n ys, u ∈ us → w.ownsRow base 3 1 u n ys → w'.ownsRow base 3 1 u n ys) → OwnAll w base us xs → OwnAll w' base us xs
  | [], [], _, h => h
  | [], _ :: _, _, h => h.elim
  | _ :: _, [], _, h => h.elim
  | _ :: _, _ :: _, hk, h => ⟨hk _ _ _ List.mem_cons_self h.1, OwnAll.memw (fun u' n ys hu => hk u' n ys (List.mem_cons_of_mem _ hu)) h.2⟩

section
variable {w : World} {R D : Nat} {n : Int} {av bv ov : Value} {avs bvs : List Value} {st : RS}

theorem RdAt.shutD (h : RdAt w R D n av bv ov avs bvs st) : RdAt (w.setCell ⟨R, 5, none⟩ (.slice none 0 0)) R D n av bv (.slice none 0 0) avs bvs { st with opn := [] } :=
  ⟨by rw [heap_set7 h.blk]; rfl, h.all.setR, h.block.setR, World.ownsRow_nil _ _ _ _, h.inner, h.sep, h.low, by simp [World.setCell]; exact h.high, fun _ => rfl⟩

/-- A row of numbers apart grows. -/
theorem RdAt.apart {w2 : World} {u : Value} {k : Nat} {us : List Value} (h : RdAt w R D n av bv (.slice none 0 0) avs bvs st) (ho : st.opn = []) (hu : w.ownsRow D 3 1 u k us) (hg : w.grownBy w2 u.ownBlock) : RdAt w2 R D n av bv (.slice none 0 0) avs bvs st := by
  have hin : ∀ x m ys, x ∈ avs ++ bvs → w.ownsRow (R + 1) 3 1 x m ys → w2.ownsRow (R + 1) 3 1 x m ys := by
    intro x m ys hx hr
    refine hr.kept hg ?_
    cases hb : x.ownBlock with
    | none => exact Or.inl rfl
    | some b =>
      refine Or.inr (fun e => ?_)
      have h1 := h.inner x hx b hb
      have h2 := (hu.lt b e.symm).1
      omega
  refine ⟨?_, ⟨h.all.row.kept hg (own_ty_ne h.all.row hu (by decide)), h.all.all.memw (fun x m ys hx => hin x m ys (List.mem_append.2 (Or.inl hx)))⟩, ⟨h.block.row.kept hg (own_ty_ne h.block.row hu (by decide)), h.block.all.memw (fun x m ys hx => hin x m ys (List.mem_append.2 (Or.inr hx)))⟩, by rw [ho]; exact World.ownsRow_nil _ _ _ _, h.inner, h.sep, h.low, Nat.le_trans h.high hg.size, fun _ => rfl⟩
  rw [hg.block R h.lt (fun e => by have := (hu.lt R e.symm).1; have := h.low; omega)]
  exact h.blk

end

theorem Goes.after {w w1 w' : World} {R : Nat} {n : Int} {p : Int × RS} {e : Ending} (h : Goes w1 R n p e w') (hb : Bel R w w1) : Goes w R n p e w' := ⟨hb.trans h.1, h.2⟩

theorem last_get (l : List Int) (h : 1 ≤ l.length) : l.getLastD 0 = l.getD (l.length - 1) 0 := by
  rcases List.eq_nil_or_concat l with rfl | ⟨l', b, rfl⟩
  · simp at h
  · simp [List.getD]

theorem head_get (l : List Int) (h : 1 ≤ l.length) : l.headD 0 = l.getD 0 0 := by
  cases l with
  | nil => simp at h
  | cons a l => rfl

theorem fill1_len (l : List Int) : l.length ≤ (fill1 l).length ∧ (fill1 l).length ≤ l.length + 1 := by unfold fill1; split <;> simp

theorem fill1_range {l : List Int} (h : ∀ x ∈ l, 1 ≤ x ∧ x ≤ 12) : ∀ x ∈ fill1 l, 1 ≤ x ∧ x ≤ 12 := by
  unfold fill1
  intro x hx
  split at hx
  · rcases List.mem_cons.1 hx with rfl | hx
    · omega
    · exact h x hx
  · exact h x hx

set_option maxRecDepth 20000 in
set_option maxHeartbeats 8000000 in
theorem endSigns_any (R : Nat) (n : Int) (st : RS) (w : World) (h : Rd w R n st) (hn1 : 1 ≤ n) (hn2 : n ≤ 12) (hbl : st.block.length ≤ 1000) (hop : ∀ x ∈ st.opn, 1 ≤ x ∧ x ≤ 12) (hol : st.opn.length ≤ 5000) :
    Calls Tryz.prog 96 #[.pointer (some ⟨R, 0, none⟩)] w fun e w' => Goes w R n (st.endSigns n) e w' := by
  obtain ⟨j0, hj, hq0, hq1, hq2⟩ := info_parts Tryz.info3
  obtain ⟨D, av, bv, ov, avs, bvs, h⟩ := h
  obtain ⟨c0, c1, c2, c3, c4, c5, c6⟩ := cells7 h.blk
  have f5 := frozen7 h.blk 5
  by_cases hz : st.opn = []
  · have HM : Hid (st.endSigns n = (0, st)) := by show _ = _; unfold RS.endSigns; rw [if_pos hz]
    obtain ⟨p, c, hoe⟩ := owns_slice h.opn
    rw [hz] at hoe
    rw [hoe] at c5
    have HH := hide h
    clear h hoe c0 c1 c2 c3 c4 c6 hz hop hol
    simp only [List.length_nil] at c5
    go_enter Tryz.func96, Tryz.ntmps96
    go_wp2
    first
      | exact bodyPost_ret (results_none rfl _ _ _) rfl (Goes.ok HM.out (Bel.refl _ _) ⟨_, _, _, _, _, _, HH.out⟩)
      | exact bodyPost_end (results_none rfl _ _ _) rfl (Goes.ok HM.out (Bel.refl _ _) ⟨_, _, _, _, _, _, HH.out⟩)
  · have HM : Hid (st.endSigns n = RS.add n { st with opn := [] } (fill2 n (fill1 st.opn))) := by show _ = _; unfold RS.endSigns; rw [if_neg hz]
    have hpos : 1 ≤ st.opn.length := by cases ho : st.opn with | nil => exact absurd ho hz | cons a l => simp
    have hopn := h.opn
    have HR1 := hide h.shutD
    have hD1 := h.low
    have hD2 := h.high
    have hbv : bvs.length ≤ 1000 := by rw [h.block.len]; exact hbl
    clear h c1 c2 c3 c4 c6 hz
    generalize st.opn = l at *
    obtain ⟨g, cap, hoe, hg1, hg2, hcap1, hcap2⟩ := owns_form hopn hpos
    rw [hoe] at c5 hopn
    clear hoe
    have hown1 := ownsRow_setCell_below hopn (a := ⟨R, 5, none⟩) (by exact hD1) (.slice none 0 0)
    have hB1 : Bel R w (w.setCell ⟨R, 5, none⟩ (.slice none 0 0)) := (Bel.refl R w).setCell (p := ⟨R, 5, none⟩) (Nat.le_refl _) _
    have g0 := (cells7 HR1.out.blk).1
    obtain ⟨y0, hy0, hcx, _⟩ := owns_cellAt hown1 hpos
    have hy0r : 1 ≤ y0 ∧ y0 ≤ 12 := by
      rw [← hy0.out]
      refine hop _ ?_
      rw [List.getElem?_eq_getElem (by omega : 0 < l.length)]
      exact List.getElem_mem _
    have hhd : l.headD 0 = y0 := by rw [head_get l hpos]; exact hy0.out
    have hsz1 : (w.setCell ⟨R, 5, none⟩ (.slice none 0 0)).heap.size = w.heap.size := by simp [World.setCell]
    have hRw : R < w.heap.size := by omega
    have hlz : (((l.length : Nat) : Int) == 0) = false := by rw [beq_eq_false_iff_ne]; omega
    have HOW := hide hown1
    have hgR : g ≠ R := by omega
    have hcw := (owns_cell hopn hpos).1
    rw [show l.getD 0 0 = y0 from by rw [← head_get l hpos, hhd]] at hcw
    have HOP := hide hopn
    clear hopn hown1 hy0 hcx
    by_cases hev : y0 % 2 = 0
    · have hf1 : Hid (fill1 l = 1 :: l) := by show _ = _; unfold fill1; rw [hhd, if_pos hev]
      have hd0 : (y0 % 2 == 0) = true := by simpa using hev
      have HL1 : Hid ((fill1 l).length = l.length + 1) := by show _ = _; rw [hf1.out]; rfl
      have HFR := hide (fill1_range hop)
      have hbA : Below (w.setCell ⟨R, 5, none⟩ (.slice none 0 0)).heap.size (w.setCell ⟨R, 5, none⟩ (.slice none 0 0)) ((w.setCell ⟨R, 5, none⟩ (.slice none 0 0)).alloc (.cells #[.int .i64 1] 3)) := (Below.refl _ _).alloc (Nat.le_refl _) _
      have hRA := HR1.out.later hbA
      have hOA := HOW.out.alloc (.cells #[.int .i64 1] 3)
      have hnew : ((w.setCell ⟨R, 5, none⟩ (.slice none 0 0)).alloc (.cells #[.int .i64 1] 3)).heap[w.heap.size]? = some (.cells #[.int .i64 1] 3) := by
        have h9 := heap_alloc_new (w.setCell ⟨R, 5, none⟩ (.slice none 0 0)) (.cells #[.int .i64 1] 3)
        rwa [hsz1] at h9
      have HIN := hide (ins_own hOA hpos (by simp; omega) (by omega) hnew (by omega))
      have HOA := hide hOA
      have HRA := hide hRA
      clear hev hhd hOA hRA hnew
      go_enter Tryz.func96, Tryz.ntmps96
      go_wp2_with fail
      refine HIN.out.mono ?_
      rintro e w2 ⟨v2, rfl, hown2, hg2'⟩
      obtain ⟨g2, cap2, rfl, hga, hgb, hgc, hgd⟩ := owns_form hown2 (by omega)
      have HR2 := hide (HRA.out.apart rfl HOA.out hg2')
      have hB2 : Bel R w w2 := (hB1.trans ((Bel.refl R (w.setCell ⟨R, 5, none⟩ (.slice none 0 0))).alloc (by omega) _)).trans (Bel.grown HOA.out hD1 (by simp; omega) hg2')
      have hs2 : D ≤ w2.heap.size := HR2.out.high
      have HO2 := hide hown2
      have HF1 := hf1
      generalize hl1 : (1 : Int) :: l = l1 at *
      have HM2 : Hid (l1.length = l.length + 1) := by show _ = _; rw [← hl1]; rfl
      clear hown2 hg2' HIN HOA HRA HR1 hl1 HL1 hf1 hcw
      generalize hmm : l.length + 1 = m2 at *
      have hm2a : m2 ≤ 5001 := by omega
      have hm2b : 1 ≤ m2 := by omega
      clear hmm
      have hrow2 := HO2.out
      have hRW2 := HR2.out
      have hcell1 : ∀ j u, [Value.int .i64 n][j]? = some u → (w2.alloc (.cells #[.int .i64 n] 3)).cell? ((⟨w2.heap.size, 0, none⟩ : Addr).add j) = some u := by
        exact cell_one_new _ _ _
      have hM1 : 1 ≤ m2 := by omega
      have hM5 : m2 ≤ 5001 := by omega
      obtain ⟨y, hy, hcy, _⟩ := owns_cellAt hrow2 (show m2 - 1 < m2 by omega)
      have hyr : 1 ≤ y ∧ y ≤ 12 := by
        rw [← hy.out]
        refine HFR.out _ ?_
        rw [HF1.out, List.getElem?_eq_getElem (by rw [HM2.out]; omega)]
        exact List.getElem_mem _
      have hyl : l1.getLastD 0 = y := by rw [last_get l1 (by rw [HM2.out]; omega), HM2.out]; exact hy.out
      have gb := (cells7 hRW2.blk).1
      have hy9 : l1.getD (m2 - 1) 0 = y := hy.out
      have hmi : ((m2 : Nat) : Int) - 1 = ((m2 - 1 : Nat) : Int) := by omega
      clear hy
      generalize hmq : m2 - 1 = mq at *
      have hmq2 : mq < m2 := by omega
      clear hmq
      by_cases hlt : y < n
      · by_cases hodd : (n - y) % 2 = 1
        · have HF2 : Hid (fill2 n l1 = l1 ++ [n]) := by show _ = _; unfold fill2; rw [hyl, if_pos ⟨hlt, hodd⟩]
          have HPA := hide (fun W => pairs_any (n - y) W (by omega) (by omega))
          rw [decide_eq_false (show ¬ (n - y) % 2 = 0 by omega)] at HPA
          clear hyl hodd
          go_wp2_with fail
          go_region
          all_goals
            go_wp2_with fail
            refine (HPA.out _).mono ?_
            rintro e w' ⟨rfl, rfl⟩
            go_wp2_with (at_builtin; refine wpList_append_own _ rfl _ _ 30 rfl D 3 j0 (.int .i64 0) 1 8 Tryz.underlying30 hj hq0 hq1 hq2 rfl (by decide) _ _ _ rfl (show (w2.alloc (.cells #[.int .i64 n] 3)).drew.ownsRow D 3 1 _ _ _ from hrow2.alloc _) ⟨w2.heap.size, 0, none⟩ 1 1 [.int .i64 n] rfl rfl ?c1 ?c2 ?c3 ?c4 ?c5 ?_)
            case c1 => exact hcell1
            case c2 => intro u hu; simp at hu; subst hu; rfl
            case c3 => unfold maxLen; omega
            case c4 => omega
            case c5 => simp; omega
            · intro v' w5 hown5 hgrow _
              have hR5 := (hRW2.later (((Below.refl _ _).alloc (Nat.le_refl _) (.cells #[.int .i64 n] 3)).drew)).apart rfl (show (w2.alloc (.cells #[.int .i64 n] 3)).drew.ownsRow D 3 1 _ _ _ from hrow2.alloc _) hgrow
              have hB5 : Bel R w w5 := (hB2.trans (((Bel.refl R w2).alloc (by omega) (.cells #[.int .i64 n] 3)).drew)).trans (Bel.grown (show (w2.alloc (.cells #[.int .i64 n] 3)).drew.ownsRow D 3 1 _ _ _ from hrow2.alloc _) hD1 (by show R ≤ (w2.alloc (.cells #[.int .i64 n] 3)).heap.size; simp; omega) hgrow)
              have hown6 : w5.ownsRow D 3 1 v' (l1 ++ [n]).length ((l1 ++ [n]).map (Value.int .i64)) := by
                rw [List.length_append, HM2.out, List.map_append]; exact hown5
              have HAD := hide (add_any R D n av bv avs bvs _ v' (l1 ++ [n]) w5 hR5 rfl hn1 hn2 hbv (owns_base hown6 hD1))
              have hF2 : Hid (st.endSigns n = RS.add n { st with opn := [] } (l1 ++ [n])) := by show _ = _; rw [HM.out, HF1.out, HF2.out]
              obtain ⟨vp, vc, rfl⟩ := owns_slice hown5
              clear hown5 hgrow hrow2 hR5 hown6 hRW2
              go_wp2_with fail
              refine HAD.out.mono ?_
              rintro e w6 hgo
              have hgo2 : Goes w R n (st.endSigns n) e w6 := by rw [hF2.out]; exact hgo.after hB5
              have HG := hide hgo2
              rcases hgo2.2 with ⟨_, he, _⟩ | ⟨_, he⟩
              · subst he
                clear hgo hgo2
                go_wp2
                exact bodyPost_end (results_none rfl _ _ _) rfl HG.out
              · subst he
                clear hgo hgo2
                unfold thrown
                go_wp2
                exact ⟨rfl, HG.out⟩
        · have HF2 : Hid (fill2 n l1 = l1) := by show _ = _; unfold fill2; rw [hyl, if_neg (fun e => hodd e.2)]
          have HPA := hide (fun W => pairs_any (n - y) W (by omega) (by omega))
          rw [decide_eq_true (show (n - y) % 2 = 0 by omega)] at HPA
          clear hyl hodd
          go_wp2_with fail
          go_region
          all_goals
            go_wp2_with fail
            refine (HPA.out _).mono ?_
            rintro e w' ⟨rfl, rfl⟩
            have HAD := hide (add_any R D n av bv avs bvs _ _ l1 (w2).drew (hRW2.later (Below.refl _ _).drew) rfl hn1 hn2 hbv (by rw [HM2.out]; exact owns_base (show (w2).drew.ownsRow D 3 1 _ _ _ from hrow2) hD1))
            have hF2 : Hid (st.endSigns n = RS.add n { st with opn := [] } l1) := by show _ = _; rw [HM.out, HF1.out, HF2.out]
            clear hrow2 hRW2
            go_wp2_with fail
            refine HAD.out.mono ?_
            rintro e w6 hgo
            have hgo2 : Goes w R n (st.endSigns n) e w6 := by rw [hF2.out]; exact hgo.after hB2.drew
            have HG := hide hgo2
            rcases hgo2.2 with ⟨_, he, _⟩ | ⟨_, he⟩
            · subst he
              clear hgo hgo2
              go_wp2
              exact bodyPost_end (results_none rfl _ _ _) rfl HG.out
            · subst he
              clear hgo hgo2
              unfold thrown
              go_wp2
              exact ⟨rfl, HG.out⟩
      · have HF2 : Hid (fill2 n l1 = l1) := by show _ = _; unfold fill2; rw [hyl, if_neg (fun e => hlt e.1)]
        clear hyl
        go_wp2_with fail
        go_region
        all_goals
          have HAD := hide (add_any R D n av bv avs bvs _ _ l1 (w2).drew (hRW2.later (Below.refl _ _).drew) rfl hn1 hn2 hbv (by rw [HM2.out]; exact owns_base (show (w2).drew.ownsRow D 3 1 _ _ _ from hrow2) hD1))
          have hF2 : Hid (st.endSigns n = RS.add n { st with opn := [] } l1) := by show _ = _; rw [HM.out, HF1.out, HF2.out]
          clear hrow2 hRW2
          go_wp2_with fail
          refine HAD.out.mono ?_
          rintro e w6 hgo
          have hgo2 : Goes w R n (st.endSigns n) e w6 := by rw [hF2.out]; exact hgo.after hB2.drew
          have HG := hide hgo2
          rcases hgo2.2 with ⟨_, he, _⟩ | ⟨_, he⟩
          · subst he
            clear hgo hgo2
            go_wp2
            exact bodyPost_end (results_none rfl _ _ _) rfl HG.out
          · subst he
            clear hgo hgo2
            unfold thrown
            go_wp2
            exact ⟨rfl, HG.out⟩
    · have HF1 : Hid (fill1 l = l) := by show _ = _; unfold fill1; rw [hhd, if_neg hev]
      have hd0 : (y0 % 2 == 0) = false := by simpa using hev
      have HFR := hide (fill1_range hop)
      generalize hm1 : l.length = m1 at *
      have HM2 := hide hm1
      clear hm1
      have hs2 : D ≤ (w.setCell ⟨R, 5, none⟩ (.slice none 0 0)).heap.size := by omega
      clear hev hhd
      go_enter Tryz.func96, Tryz.ntmps96
      have hrow2 := HOW.out
      have hRW2 := HR1.out
      have hcell : ∀ j u, [Value.int .i64 n][j]? = some u → ((w.setCell ⟨R, 5, none⟩ (.slice none 0 0)).alloc (.cells #[.int .i64 n] 3)).cell? ((⟨w.heap.size, 0, none⟩ : Addr).add j) = some u := by
        have h9 := cell_one_new (w.setCell ⟨R, 5, none⟩ (.slice none 0 0)) (.int .i64 n) 3
        rwa [hsz1] at h9
      have hM1 : 1 ≤ m1 := by omega
      have hM5 : m1 ≤ 5001 := by omega
      obtain ⟨y, hy, hcy, _⟩ := owns_cellAt hrow2 (show m1 - 1 < m1 by omega)
      have hyr : 1 ≤ y ∧ y ≤ 12 := by
        rw [← hy.out]
        refine HFR.out _ ?_
        rw [HF1.out, List.getElem?_eq_getElem (by rw [HM2.out]; omega)]
        exact List.getElem_mem _
      have hyl : l.getLastD 0 = y := by rw [last_get l (by rw [HM2.out]; omega), HM2.out]; exact hy.out
      have gb := (cells7 hRW2.blk).1
      have hy9 : l.getD (m1 - 1) 0 = y := hy.out
      have hmi : ((m1 : Nat) : Int) - 1 = ((m1 - 1 : Nat) : Int) := by omega
      clear hy
      have hcyw := (owns_cell HOP.out (show m1 - 1 < m1 by omega)).1
      rw [show l.getD (m1 - 1) 0 = y from hy9] at hcyw
      generalize hmq : m1 - 1 = mq at *
      have hmq2 : mq < m1 := by omega
      clear hmq
      by_cases hlt : y < n
      · by_cases hodd : (n - y) % 2 = 1
        · have HF2 : Hid (fill2 n l = l ++ [n]) := by show _ = _; unfold fill2; rw [hyl, if_pos ⟨hlt, hodd⟩]
          have HPA := hide (fun W => pairs_any (n - y) W (by omega) (by omega))
          rw [decide_eq_false (show ¬ (n - y) % 2 = 0 by omega)] at HPA
          clear hyl hodd
          go_wp2_with fail
          go_region
          all_goals
            go_wp2_with fail
            refine (HPA.out _).mono ?_
            rintro e w' ⟨rfl, rfl⟩
            go_wp2_with (at_builtin; refine wpList_append_own _ rfl _ _ 30 rfl D 3 j0 (.int .i64 0) 1 8 Tryz.underlying30 hj hq0 hq1 hq2 rfl (by decide) _ _ _ rfl (show ((w.setCell ⟨R, 5, none⟩ (.slice none 0 0)).alloc (.cells #[.int .i64 n] 3)).drew.ownsRow D 3 1 _ _ _ from hrow2.alloc _) ⟨w.heap.size, 0, none⟩ 1 1 [.int .i64 n] rfl rfl ?c1 ?c2 ?c3 ?c4 ?c5 ?_)
            case c1 => exact hcell
            case c2 => intro u hu; simp at hu; subst hu; rfl
            case c3 => unfold maxLen; omega
            case c4 => omega
            case c5 => simp; omega
            · intro v' w5 hown5 hgrow _
              have hR5 := (hRW2.later (((Below.refl _ _).alloc (Nat.le_refl _) (.cells #[.int .i64 n] 3)).drew)).apart rfl (show ((w.setCell ⟨R, 5, none⟩ (.slice none 0 0)).alloc (.cells #[.int .i64 n] 3)).drew.ownsRow D 3 1 _ _ _ from hrow2.alloc _) hgrow
              have hB5 : Bel R w w5 := (hB1.trans (((Bel.refl R (w.setCell ⟨R, 5, none⟩ (.slice none 0 0))).alloc (by omega) (.cells #[.int .i64 n] 3)).drew)).trans (Bel.grown (show ((w.setCell ⟨R, 5, none⟩ (.slice none 0 0)).alloc (.cells #[.int .i64 n] 3)).drew.ownsRow D 3 1 _ _ _ from hrow2.alloc _) hD1 (by show R ≤ ((w.setCell ⟨R, 5, none⟩ (.slice none 0 0)).alloc (.cells #[.int .i64 n] 3)).heap.size; simp; omega) hgrow)
              have hown6 : w5.ownsRow D 3 1 v' (l ++ [n]).length ((l ++ [n]).map (Value.int .i64)) := by
                rw [List.length_append, HM2.out, List.map_append]; exact hown5
              have HAD := hide (add_any R D n av bv avs bvs _ v' (l ++ [n]) w5 hR5 rfl hn1 hn2 hbv (owns_base hown6 hD1))
              have hF2 : Hid (st.endSigns n = RS.add n { st with opn := [] } (l ++ [n])) := by show _ = _; rw [HM.out, HF1.out, HF2.out]
              obtain ⟨vp, vc, rfl⟩ := owns_slice hown5
              clear hown5 hgrow hrow2 hR5 hown6 hRW2
              go_wp2_with fail
              refine HAD.out.mono ?_
              rintro e w6 hgo
              have hgo2 : Goes w R n (st.endSigns n) e w6 := by rw [hF2.out]; exact hgo.after hB5
              have HG := hide hgo2
              rcases hgo2.2 with ⟨_, he, _⟩ | ⟨_, he⟩
              · subst he
                clear hgo hgo2
                go_wp2
                exact bodyPost_end (results_none rfl _ _ _) rfl HG.out
              · subst he
                clear hgo hgo2
                unfold thrown
                go_wp2
                exact ⟨rfl, HG.out⟩
        · have HF2 : Hid (fill2 n l = l) := by show _ = _; unfold fill2; rw [hyl, if_neg (fun e => hodd e.2)]
          have HPA := hide (fun W => pairs_any (n - y) W (by omega) (by omega))
          rw [decide_eq_true (show (n - y) % 2 = 0 by omega)] at HPA
          clear hyl hodd
          go_wp2_with fail
          go_region
          all_goals
            go_wp2_with fail
            refine (HPA.out _).mono ?_
            rintro e w' ⟨rfl, rfl⟩
            have HAD := hide (add_any R D n av bv avs bvs _ _ l ((w.setCell ⟨R, 5, none⟩ (.slice none 0 0))).drew (hRW2.later (Below.refl _ _).drew) rfl hn1 hn2 hbv (by rw [HM2.out]; exact owns_base (show ((w.setCell ⟨R, 5, none⟩ (.slice none 0 0))).drew.ownsRow D 3 1 _ _ _ from hrow2) hD1))
            have hF2 : Hid (st.endSigns n = RS.add n { st with opn := [] } l) := by show _ = _; rw [HM.out, HF1.out, HF2.out]
            clear hrow2 hRW2
            go_wp2_with fail
            refine HAD.out.mono ?_
            rintro e w6 hgo
            have hgo2 : Goes w R n (st.endSigns n) e w6 := by rw [hF2.out]; exact hgo.after hB1.drew
            have HG := hide hgo2
            rcases hgo2.2 with ⟨_, he, _⟩ | ⟨_, he⟩
            · subst he
              clear hgo hgo2
              go_wp2
              exact bodyPost_end (results_none rfl _ _ _) rfl HG.out
            · subst he
              clear hgo hgo2
              unfold thrown
              go_wp2
              exact ⟨rfl, HG.out⟩
      · have HF2 : Hid (fill2 n l = l) := by show _ = _; unfold fill2; rw [hyl, if_neg (fun e => hlt e.1)]
        clear hyl
        go_wp2_with fail
        go_region
        all_goals
          have HAD := hide (add_any R D n av bv avs bvs _ _ l ((w.setCell ⟨R, 5, none⟩ (.slice none 0 0))).drew (hRW2.later (Below.refl _ _).drew) rfl hn1 hn2 hbv (by rw [HM2.out]; exact owns_base (show ((w.setCell ⟨R, 5, none⟩ (.slice none 0 0))).drew.ownsRow D 3 1 _ _ _ from hrow2) hD1))
          have hF2 : Hid (st.endSigns n = RS.add n { st with opn := [] } l) := by show _ = _; rw [HM.out, HF1.out, HF2.out]
          clear hrow2 hRW2
          go_wp2_with fail
          refine HAD.out.mono ?_
          rintro e w6 hgo
          have hgo2 : Goes w R n (st.endSigns n) e w6 := by rw [hF2.out]; exact hgo.after hB1.drew
          have HG := hide hgo2
          rcases hgo2.2 with ⟨_, he, _⟩ | ⟨_, he⟩
          · subst he
            clear hgo hgo2
            go_wp2
            exact bodyPost_end (results_none rfl _ _ _) rfl HG.out
          · subst he
            clear hgo hgo2
            unfold thrown
            go_wp2
            exact ⟨rfl, HG.out⟩

end Go.Proofs.YtfngadfkopfhcaaGreatDoor

/- Contract: slices.Clone of a row of the call's own. -/
namespace Go.Proofs.YtfngadfkopfhcaaGreatDoor
open Go.RowKit

set_option maxRecDepth 20000 in
set_option maxHeartbeats 1000000 in
theorem clone_own {base : Nat} {v : Value} {xs : List Int} {w : World} (h : w.ownsRow base 3 1 v xs.length (xs.map (Value.int .i64))) (hl : xs.length ≤ 1000000) :
    Calls Tryz.prog 119 #[v] w fun e w' => ∃ v', e = .returned v' ∧ w'.ownsRow w.heap.size 3 1 v' xs.length (xs.map (Value.int .i64)) ∧ Below w.heap.size w w' := by
  obtain ⟨j0, hj, hq0, hq1, hq2⟩ := info_parts Tryz.info3
  have q1 := run_nil_eq
  have q3 := run_some_eq
  rcases h.2 with ⟨rfl, hz⟩ | ⟨g, cap, cur, rfl, hbg, hh, hnc, hm, hs, ht⟩
  · have hx : xs = [] := List.length_eq_zero_iff.1 hz
    subst hx
    clear h hz
    go_enter Tryz.func119, Tryz.ntmps119
    go_wp2
    go_ret
    exact ⟨_, rfl, World.ownsRow_nil _ _ _ _, Below.refl _ _⟩
  · have h1c : ∀ v ∈ xs.map (Value.int .i64), v.oneCell' = true := by
      intro v hv'
      obtain ⟨z, _, rfl⟩ := List.mem_map.1 hv'
      rfl
    have hnew : (w.alloc (.cells #[] 3)).ownsRow w.heap.size 3 1 (.slice (some ⟨w.heap.size, 0, none⟩) 0 0) 0 [] := World.ownsRow_made w #[] 0 (Nat.le_refl _) (by unfold maxLen; omega) rfl
    have hsrc := h.alloc (.cells #[] 3)
    clear hh hs ht h
    go_enter Tryz.func119, Tryz.ntmps119
    go_wp2_with (at_builtin; refine wpList_append_more rfl _ _ 30 rfl w.heap.size base 3 j0 (.int .i64 0) 8 Tryz.underlying30 hj hq0 hq1 hq2 rfl _ _ _ rfl hnew _ _ _ rfl hsrc h1c ?c3 ?c4 ?c5 ?_)
    case c3 => unfold maxLen; omega
    case c4 => omega
    case c5 => simp
    · intro v' w' hown hgrow
      have hB : Below w.heap.size w w' := ((Below.refl _ _).alloc (Nat.le_refl _) _).grown hgrow (by simp) (fun k hk => by have : w.heap.size = k := Option.some.inj hk; omega)
      try rw [Nat.zero_add] at hown
      try rw [List.nil_append] at hown
      clear hgrow
      go_wp2
      go_ret
      exact ⟨_, rfl, hown, hB⟩

end Go.Proofs.YtfngadfkopfhcaaGreatDoor

/- Contracts: slices.Clone, (*reader).endBlock. -/
namespace Go.Proofs.YtfngadfkopfhcaaGreatDoor
open Go.RowKit

section
variable {w : World} {R D : Nat} {n : Int} {av bv ov : Value} {avs bvs : List Value} {st : RS}

/-- More changes behind all. -/
theorem RdAt.more {w5 : World} {v' : Value} {us : List Value} {xss : List (List Int)} (h : RdAt w R D n av bv (.slice none 0 0) avs bvs st) (ho : st.opn = []) (hu : OwnAll w (R + 1) us xss)
    (hown : w5.ownsRow (R + 1) 30 1 v' (avs.length + us.length) (avs ++ us)) (hg : w.grownBy w5 av.ownBlock) (hk : v'.ownBlock = av.ownBlock ∨ (v'.ownBlock = some w.heap.size ∧ w.grownBy w5 none)) :
    RdAt (w5.setCell ⟨R, 1, none⟩ v') R w5.heap.size n v' bv (.slice none 0 0) (avs ++ us) bvs { st with all := st.all ++ xss } ∧ w5.heap[R]? = w.heap[R]? ∧ Bel R w w5 ∧ LL w5 (R + 1) bv bvs st.block := by
  have hRb : some R ≠ av.ownBlock := fun e => by have := (h.all.row.lt R e.symm).1; omega
  have hblk := (hg.block R h.lt hRb).trans h.blk
  have hne : bv.ownBlock = none ∨ bv.ownBlock ≠ av.ownBlock := by
    rcases h.sep with hs | hs
    · cases hb : bv.ownBlock with
      | none => exact Or.inl rfl
      | some b => exact Or.inr (by rw [hs]; exact fun e => by cases e)
    · exact Or.inr (fun e => hs e.symm)
  have hbl : LL w5 (R + 1) bv bvs st.block := h.block.kept_row h.all.row hg hne
  have hall : LL w5 (R + 1) v' (avs ++ us) (st.all ++ xss) := ⟨by rw [List.length_append]; exact hown, OwnAll.join (hu.mono (fun _ _ _ h' => owns_kept_ty h' h.all.row hg)) (h.all.all.mono (fun _ _ _ h' => owns_kept_ty h' h.all.row hg))⟩
  refine ⟨⟨by rw [heap_set7 hblk]; rfl, hall.setR, hbl.setR, by rw [ho]; exact World.ownsRow_nil _ _ _ _, ?_, ?_, ?_, by simp [World.setCell], fun _ => rfl⟩, hg.block R h.lt hRb, ?_, hbl⟩
  · intro u hu b hb
    rcases List.mem_append.1 hu with hu | hu
    · exact hall.lt u hu b hb
    · exact hbl.lt u hu b hb
  · rcases hk with hk | ⟨hk, _⟩
    · rw [hk]; exact h.sep
    · rw [hk]
      refine Or.inr (fun e => ?_)
      have := (h.block.row.lt w.heap.size e.symm).2
      omega
  · have := h.lt; have := hg.size; omega
  · exact Bel.grown h.all.row (Nat.le_refl _) (Nat.le_of_lt h.lt) hg

end

end Go.Proofs.YtfngadfkopfhcaaGreatDoor

/- Contract: (*reader).endBlock. (Written by mkendb.py.) -/
namespace Go.Proofs.YtfngadfkopfhcaaGreatDoor
open Go.RowKit

/-- How far a block has been told back: the changes so far, when the next one is the d-th. -/
def backTo (b : List (List Int)) (d : Nat) : List (List Int) := (b.dropLast.drop d).reverse

theorem backTo_start (b : List (List Int)) : backTo b (b.length - 1) = [] := by unfold backTo; rw [List.drop_of_length_le (by simp)]; rfl

theorem backTo_end (b : List (List Int)) : backTo b 0 = b.dropLast.reverse := by unfold backTo; simp

theorem backTo_step {b : List (List Int)} {d : Nat} (h : d < b.length - 1) : backTo b d = backTo b (d + 1) ++ [b.getD d []] := by
  have hd : d < b.dropLast.length := by simp; omega
  unfold backTo
  rw [List.drop_eq_getElem_cons hd, List.reverse_cons, List.getElem_dropLast]
  congr 2
  simp [List.getD, List.getElem?_eq_getElem (show d < b.length by omega)]

theorem backTo_length (b : List (List Int)) (d : Nat) : (backTo b d).length = b.length - 1 - d := by unfold backTo; simp

theorem RdAt.wipe {w : World} {R D : Nat} {n : Int} {av bv ov : Value} {avs bvs : List Value} {st : RS} (h : RdAt w R D n av bv ov avs bvs st) : RdAt (w.setCell ⟨R, 2, none⟩ (.slice none 0 0)) R D n av (.slice none 0 0) ov avs [] { st with block := [] } := by
  refine ⟨by rw [heap_set7 h.blk]; rfl, h.all.setR, LL.nil _ _, ownsRow_setCell_below h.opn (by exact h.low) _, fun u hu => h.inner u (by rw [List.append_nil] at hu; exact List.mem_append.2 (Or.inl hu)), ?_, h.low, by simp [World.setCell]; exact h.high, h.nilo⟩
  cases hav : av.ownBlock with
  | none => exact Or.inl rfl
  | some b => exact Or.inr (fun e => by cases e)

set_option maxRecDepth 20000 in
set_option maxHeartbeats 8000000 in
theorem endBlock_any (R : Nat) (n : Int) (st : RS) (w : World) (h : Rd w R n st) (hop : st.opn = []) (hbl : 1 ≤ st.block.length ∧ st.block.length ≤ 1000) (hal : st.all.length ≤ 1000) (hxs : ∀ j, (st.block.getD j []).length ≤ 1000000) :
    Calls Tryz.prog 99 #[.pointer (some ⟨R, 0, none⟩)] w fun e w' => Goes w R n st.endBlock e w' := by
  obtain ⟨i0, hi, hz0, hz1, hz2⟩ := info_parts Tryz.info30
  obtain ⟨D, av, bv, ov, avs, bvs, h0⟩ := h
  obtain rfl := h0.nilo hop
  have HHd := hide (h0.later (Below.refl _ _).drew)
  obtain ⟨c0, c1, c2, c3, c4, c5, c6⟩ := cells7 h0.blk
  have HO := hide hop
  have hRl := h0.lt
  have hbr := h0.block.row
  have hbll := h0.block.len
  have hall := h0.all.len
  have harow := h0.all.row
  obtain ⟨gb, bc, hbe, hgb1, hgb2, hbc1, hbc2⟩ := owns_form hbr (by omega)
  have HBE := hide hbe
  have hbcells := hbr.cells (g := gb) (by rw [hbe]; rfl)
  have hb1c := OwnAll.cells h0.block.all
  rw [hbe] at c2
  obtain ⟨ap, ac, hae⟩ := owns_slice harow
  have HAE := hide hae
  rw [hae] at c1 harow
  generalize hAL : avs.length = al at *
  generalize hBL : bvs.length = bl at *
  have HAL := hide hAL
  have HBL := hide hBL
  have hal2 : al ≤ 1000 := by omega
  have hbl2 : bl ≤ 1000 := by omega
  have hbl1 : 1 ≤ bl := by omega
  have hbl' : bvs.length = bl * 1 := by omega
  clear hAL hBL h0 hbr hbe hae hbll hall c0 c3 c4 c5 c6
  go_enter Tryz.func99, Tryz.ntmps99
  go_wp2_with fail
  refine wp_region_held_drew (S := fun W' => W'.cell? ⟨R, 2, none⟩ = some (.slice (some ⟨gb, 0, none⟩) bl bc)) (by kernel_rfl) c2 (fun hS => ?_)
  refine wpAnyH_take (i := 0) (v := .pointer (some ⟨R, 0, none⟩)) rfl (by kernel_rfl) (by kernel_rfl) (by kernel_rfl) (fun _ _ _ h => h) (Or.inl ⟨by kernel_rfl, fun w' hS' => by clear hS'; go_simp⟩) hS ?_
  refine wpAnyH_take (i := 1) (v := .pointer (some ⟨R, 0, none⟩)) rfl (by kernel_rfl) (by kernel_rfl) (by kernel_rfl) (fun _ _ _ h => h) (Or.inl ⟨by kernel_rfl, fun w' hS' => by clear hS'; go_simp⟩) hS ?_
  refine wpAnyH_take (i := 2) (v := .pointer (some ⟨R, 0, none⟩)) rfl (by kernel_rfl) (by kernel_rfl) (by kernel_rfl) (fun _ _ _ h => h) (Or.inl ⟨by kernel_rfl, fun w' hS' => by clear hS'; go_simp⟩) hS ?_
  refine wpAnyH_take (i := 3) (v := .pointer (some ⟨R, 1, none⟩)) rfl (by kernel_rfl) (by kernel_rfl) (by kernel_rfl) (fun _ _ _ h => h) (Or.inl ⟨by kernel_rfl, fun w' hS' => by clear hS'; go_simp⟩) hS ?_
  refine wpAnyH_take (i := 5) (v := .pointer (some ⟨R, 0, none⟩)) rfl (by kernel_rfl) (by kernel_rfl) (by kernel_rfl) (fun _ _ _ h => h) (Or.inl ⟨by kernel_rfl, fun w' hS' => by clear hS'; go_simp⟩) hS ?_
  refine wpAnyH_take (i := 6) (v := .pointer (some ⟨R, 0, none⟩)) rfl (by kernel_rfl) (by kernel_rfl) (by kernel_rfl) (fun _ _ _ h => h) (Or.inl ⟨by kernel_rfl, fun w' hS' => by clear hS'; go_simp⟩) hS ?_
  refine wpAnyH_take (i := 7) (v := .pointer (some ⟨R, 2, none⟩)) rfl (by kernel_rfl) (by kernel_rfl) (by kernel_rfl) (fun _ _ _ h => h) (Or.inl ⟨by kernel_rfl, fun w' hS' => by clear hS'; go_simp⟩) hS ?_
  refine wpAnyH_take (i := 8) (v := .slice (some ⟨gb, 0, none⟩) bl bc) rfl (by kernel_rfl) (by kernel_rfl) (by kernel_rfl) (fun _ _ _ h => h) (Or.inl ⟨by kernel_rfl, fun w' hS' => by have hq := hS'; clear hS'; go_simp⟩) hS ?_
  refine wpAnyH_ready (rs := [4]) (by kernel_rfl) (by simp) ?_
  refine AllReadyH.cons rfl (fun K hK => ?_) AllReadyH.nil
  go_simp
  refine hK.out _ _ c2 (fun hS => ?_)
  clear hK
  refine wpAnyH_ready (rs := [9]) (by kernel_rfl) (by simp) ?_
  refine AllReadyH.cons rfl (fun K hK => ?_) AllReadyH.nil
  refine step_append_keep rfl _ _ 22 rfl (R + 1) 30 i0 (.slice none 0 0) 1 24 Tryz.underlying22 hi hz0 hz1 hz2 rfl (by decide) _ al avs rfl (show w.drew.ownsRow (R + 1) 30 1 _ al avs from harow) ⟨gb, 0, none⟩ bl bc bvs rfl hbl' hbcells hb1c (by unfold maxLen; omega) (by omega) (by show R + 1 ≤ w.heap.size; omega) ?_
  intro v5 w5 hown5 hg5 hk5
  obtain ⟨hM6, hb5, hB5, hL5⟩ := HHd.out.more HO.out (HHd.out.block.all) (by rw [HAL.out, HBL.out]; exact hown5) (by rw [HAE.out]; exact hg5) (by rw [HAE.out]; exact hk5)
  have hblk5 := hb5.trans HHd.out.blk
  obtain ⟨d0, d1, d2, d3, d4, d5, d6⟩ := cells7 hblk5
  have f1 := frozen7 hblk5 1
  rw [HBE.out] at d2
  obtain ⟨vp, vc, rfl⟩ := owns_slice hown5
  refine hK.out _ _ d2 (fun hS => ?_)
  clear hK
  refine wpAnyH_take (i := 10) (v := .pointer (some ⟨R, 0, none⟩)) rfl (by kernel_rfl) (by kernel_rfl) (by kernel_rfl) (fun _ _ _ h => h) (Or.inl ⟨by kernel_rfl, fun w' hS' => by clear hS'; go_simp⟩) hS ?_
  refine wpAnyH_take (i := 11) (v := .pointer (some ⟨R, 1, none⟩)) rfl (by kernel_rfl) (by kernel_rfl) (by kernel_rfl) (fun _ _ _ h => h) (Or.inl ⟨by kernel_rfl, fun w' hS' => by clear hS'; go_simp⟩) hS ?_
  refine wpAnyH_ready (rs := [12]) (by kernel_rfl) (by simp) ?_
  refine AllReadyH.cons rfl (fun K hK => ?_) AllReadyH.nil
  go_simp
  have e2 := (cells7 hM6.blk).2.2.1
  rw [HBE.out] at e2
  refine hK.out _ _ e2 (fun hS => ?_)
  clear hK
  refine wpAnyH_done (by kernel_rfl) ?_ _
  have hB6 : Bel R w (w5.setCell ⟨R, 1, none⟩ (.slice vp (al + bl) vc)) := (((Bel.refl R w).drew).trans hB5).setCell (p := ⟨R, 1, none⟩) (Nat.le_refl _) _
  have HM6 := hide hM6
  have HAS : Hid (st.all.length + st.block.length + st.block.length ≤ 3000) := by show _ ≤ _; omega
  have k4 := (cells7 hM6.blk).2.2.2.2.1
  generalize hw6 : w5.setCell ⟨R, 1, none⟩ (.slice vp (al + bl) vc) = w6 at *
  clear hM6 hown5 hg5 hk5 hb5 hB5 hL5 hblk5 d0 d1 d2 d3 d4 d5 d6 f1 hw6 hS HHd harow hbcells hb1c c1 c2
  cases hmir : st.mirrored with
  | false =>
    have HEq : Hid (st.all ++ st.block ++ st.back = st.all ++ st.block) := by show _ = _; unfold RS.back; rw [hmir, if_neg (by decide), List.append_nil]
    have HASS := HAS
    have HAS : Hid ((st.all ++ st.block).length ≤ 3000) := by show _ ≤ _; rw [List.length_append]; have := HASS.out; omega
    rw [hmir] at k4
    clear HASS
    obtain ⟨q0, q1, q2, q3, q4, q5, q6⟩ := cells7 HM6.out.blk
    have r2 := frozen7 HM6.out.blk 2
    have r3 := frozen7 HM6.out.blk 3
    have r4 := frozen7 HM6.out.blk 4
    have HNR := hide (needRoom_any _ (avs ++ bvs) w6 (R + 1) HM6.out.all.row (by rw [HM6.out.all.len]; show ((st.all ++ st.block)).length ≤ 1000000; have := HAS.out; omega))
    have hlA : ((avs ++ bvs)).length = ((st.all ++ st.block)).length := HM6.out.all.len
    rw [hlA] at HNR
    obtain ⟨fp, fc, hfe⟩ := owns_slice HM6.out.all.row
    rw [hlA] at hfe
    have hW2 := HM6.out.wipe
    have hW3 := hW2.flags false st.mirrored st.dot 3 (.bool false) rfl
    have hW4 := hW3.flags false false st.dot 4 (.bool false) rfl
    have HW4 := hide hW4
    have hBw : Bel R w (((w6.setCell ⟨R, 2, none⟩ (.slice none 0 0)).setCell ⟨R, 3, none⟩ (.bool false)).setCell ⟨R, 4, none⟩ (.bool false)) := ((hB6.setCell (p := ⟨R, 2, none⟩) (Nat.le_refl _) _).setCell (p := ⟨R, 3, none⟩) (Nat.le_refl _) _).setCell (p := ⟨R, 4, none⟩) (Nat.le_refl _) _
    rw [hfe] at HNR q1
    clear hW2 hW3 hW4 hlA hfe
    generalize hAl : ((st.all ++ st.block)).length = AL at *
    have HALe := hide hAl
    clear hAl
    go_wp2_with fail
    refine HNR.out.mono ?_
    rintro e w' ⟨rfl, rfl⟩
    by_cases h2 : 200 < AL
    · rw [if_pos h2]
      have HM2 : Hid (st.endBlock.1 = 3) := by show _ = _; unfold RS.endBlock; rw [HEq.out, HALe.out]; exact if_pos h2
      unfold thrown
      go_wp2
      exact ⟨rfl, Goes.bad HM2.out (by decide) hB6⟩
    · rw [if_neg h2]
      have HM2 : Hid (st.endBlock = (0, { st with all := (st.all ++ st.block), block := [], marked := false, mirrored := false })) := by show _ = _; unfold RS.endBlock; rw [HEq.out, HALe.out, if_neg h2]
      go_wp2
      exact bodyPost_end (results_none rfl _ _ _) rfl (Goes.ok HM2.out hBw ⟨_, _, _, _, _, _, HW4.out⟩)
  | true =>
    have HEq : Hid (st.all ++ st.block ++ st.back = st.all ++ st.block ++ backTo st.block 0) := by show _ = _; unfold RS.back; rw [hmir, if_pos rfl, backTo_end]
    have HBK : Hid (st.block.length = bl) := by show _ = _; rw [← HM6.out.block.len, HBL.out]
    have HS0 : Hid (RdAt w6 R w5.heap.size n (.slice vp (al + bl) vc) bv (.slice none 0 0) (avs ++ bvs) bvs { st with all := st.all ++ st.block ++ backTo st.block (bl - 1) }) := by
      show RdAt _ _ _ _ _ _ _ _ _ _
      rw [← HBK.out, backTo_start, List.append_nil]
      have := HM6.out
      rwa [HBK.out]
    have HL0 : Hid ((avs ++ bvs).length = al + bl + (bl - 1 - (bl - 1))) := by show _ = _; rw [List.length_append, HAL.out, HBL.out]; omega
    rw [hmir] at k4
    have k2 := (cells7 HM6.out.blk).2.2.1
    rw [HBE.out] at k2
    clear hmir
    go_wp2_with fail
    go_loopw [2] (fun i wr => ∃ (d' : Nat) (u : Value) (us : List Value) (D' : Nat), d' ≤ bl - 1 ∧ i = .int .i64 ((d' : Int) - 1) ∧ Hid (us.length = al + bl + (bl - 1 - d')) ∧ Hid (RdAt wr R D' n u bv (.slice none 0 0) us bvs { st with all := st.all ++ st.block ++ backTo st.block d' }) ∧ Bel R w wr) (fun i _ => (intOf i + 1).toNat)
    case atStart => exact ⟨bl - 1, _, _, _, Nat.le_refl _, by congr 1; omega, HL0, HS0, hB6⟩
    case round =>
      obtain ⟨d', u, avr, D', hd', rfl, hLr, hMr, hBr⟩ := hrel
      clear HS0 HL0 k2 k4 hB6
      by_cases hlt : 1 ≤ d'
      · obtain ⟨d, rfl⟩ : ∃ d, d' = d + 1 := ⟨d' - 1, by omega⟩
        have HST : Hid (backTo st.block d = backTo st.block (d + 1) ++ [st.block.getD d []]) := backTo_step (by rw [HBK.out]; omega)
        have k1 := (cells7 hMr.out.blk).2.1
        have k2 := (cells7 hMr.out.blk).2.2.1
        rw [HBE.out] at k2
        obtain ⟨ap', ac', hue⟩ := owns_slice hMr.out.all.row
        rw [hLr.out] at hue
        generalize hLq : al + bl + (bl - 1 - (d + 1)) = L at *
        have hL3 : L ≤ 3000 := by omega
        have hdb : d < bl := by omega
        have HLd : Hid (L + 1 = al + bl + (bl - 1 - d)) := by show _ = _; omega
        subst hue
        have hbrow := hMr.out.block.row
        rw [HBE.out, HBL.out] at hbrow
        have kx := owns_val hbrow (j := d) (by omega)
        have hxo := hMr.out.block.at (k := d) (by rw [HBK.out]; omega)
        obtain ⟨xp, xc, hxe⟩ := owns_slice hxo
        generalize hxl : (st.block.getD d []).length = xl at *
        rw [hxe] at kx hxo
        have HXE := hide hxe
        have HXL := hide hxl
        have HXLn := hide hxl
        have hRr := hMr.out.lt
        have hgbr : gb < wr.heap.size := (hbrow.lt gb rfl).2
        have HCl := hide (clone_own (w := wr.drew) (xs := st.block.getD d []) (show wr.drew.ownsRow (R + 1) 3 1 _ _ _ from by rw [hxl]; exact hxo) (hxs d))
        have HLr := hLr
        have HMr := hMr
        clear hLr hMr hbrow hxo hxe hxl hLq
        rw [show (((d + 1 : Nat) : Int) - 1) = (d : Int) from by omega]
        go_wp2_with fail
        refine wp_region_held_drew (S := fun W' => W'.cell? ⟨R, 2, none⟩ = some (.slice (some ⟨gb, 0, none⟩) bl bc) ∧ W'.cell? ⟨gb, d, none⟩ = some (.slice xp xl xc)) (by kernel_rfl) ⟨k2, kx⟩ (fun hS => ?_)
        refine wpAnyH_take (i := 0) (v := .pointer (some ⟨R, 0, none⟩)) rfl (by kernel_rfl) (by kernel_rfl) (by kernel_rfl) (fun _ _ _ h => h) (Or.inl ⟨by kernel_rfl, fun w' hS' => by clear hS'; go_simp⟩) hS ?_
        refine wpAnyH_take (i := 1) (v := .pointer (some ⟨R, 0, none⟩)) rfl (by kernel_rfl) (by kernel_rfl) (by kernel_rfl) (fun _ _ _ h => h) (Or.inl ⟨by kernel_rfl, fun w' hS' => by clear hS'; go_simp⟩) hS ?_
        refine wpAnyH_take (i := 2) (v := .pointer (some ⟨R, 0, none⟩)) rfl (by kernel_rfl) (by kernel_rfl) (by kernel_rfl) (fun _ _ _ h => h) (Or.inl ⟨by kernel_rfl, fun w' hS' => by clear hS'; go_simp⟩) hS ?_
        refine wpAnyH_take (i := 3) (v := .pointer (some ⟨R, 1, none⟩)) rfl (by kernel_rfl) (by kernel_rfl) (by kernel_rfl) (fun _ _ _ h => h) (Or.inl ⟨by kernel_rfl, fun w' hS' => by clear hS'; go_simp⟩) hS ?_
        refine wpAnyH_take (i := 5) (v := .pointer (some ⟨R, 0, none⟩)) rfl (by kernel_rfl) (by kernel_rfl) (by kernel_rfl) (fun _ _ _ h => h) (Or.inl ⟨by kernel_rfl, fun w' hS' => by clear hS'; go_simp⟩) hS ?_
        refine wpAnyH_take (i := 6) (v := .pointer (some ⟨R, 0, none⟩)) rfl (by kernel_rfl) (by kernel_rfl) (by kernel_rfl) (fun _ _ _ h => h) (Or.inl ⟨by kernel_rfl, fun w' hS' => by clear hS'; go_simp⟩) hS ?_
        refine wpAnyH_take (i := 7) (v := .pointer (some ⟨R, 2, none⟩)) rfl (by kernel_rfl) (by kernel_rfl) (by kernel_rfl) (fun _ _ _ h => h) (Or.inl ⟨by kernel_rfl, fun w' hS' => by clear hS'; go_simp⟩) hS ?_
        refine wpAnyH_take (i := 8) (v := .slice (some ⟨gb, 0, none⟩) bl bc) rfl (by kernel_rfl) (by kernel_rfl) (by kernel_rfl) (fun _ _ _ h => h) (Or.inl ⟨by kernel_rfl, fun w' hS' => by have hq := hS'.1; clear hS'; go_simp⟩) hS ?_
        refine wpAnyH_take (i := 9) (v := .int .i64 (d : Int)) rfl (by kernel_rfl) (by kernel_rfl) (by kernel_rfl) (fun _ _ _ h => h) (Or.inl ⟨by kernel_rfl, fun w' hS' => by clear hS'; go_simp⟩) hS ?_
        refine wpAnyH_take (i := 10) (v := .pointer (some ⟨gb, d, none⟩)) rfl (by kernel_rfl) (by kernel_rfl) (by kernel_rfl) (fun _ _ _ h => h) (Or.inl ⟨by kernel_rfl, fun w' hS' => by clear hS'; go_simp⟩) hS ?_
        refine wpAnyH_take (i := 11) (v := .slice xp xl xc) rfl (by kernel_rfl) (by kernel_rfl) (by kernel_rfl) (fun _ _ _ h => h) (Or.inl ⟨by kernel_rfl, fun w' hS' => by have hq := hS'.2; clear hS'; go_simp⟩) hS ?_
        refine wpAnyH_ready (rs := [4, 12]) (by kernel_rfl) (by simp) ?_
        refine AllReadyH.cons rfl (fun K hK => ?_) (AllReadyH.cons rfl (fun K hK => ?_) AllReadyH.nil)
        · go_simp
          refine hK.out _ _ ⟨k2, kx⟩ (fun hS => ?_)
          clear hK
          refine wpAnyH_ready (rs := [12]) (by kernel_rfl) (by simp) ?_
          refine AllReadyH.cons rfl (fun K hK => ?_) AllReadyH.nil
          go_simp
          refine HCl.out.mono ?_
          rintro ex w4 ⟨y4, rfl, hy4, hb4'⟩
          have hb4 : Below wr.heap.size wr w4 := ⟨hb4'.os, hb4'.tape, hb4'.output, hb4'.size, hb4'.block⟩
          have hs4 := hb4.size
          have hR4 : R + 1 ≤ wr.drew.heap.size := hRr
          rw [HXLn.out] at hy4
          obtain ⟨yp, yc, rfl⟩ := owns_slice hy4
          have g1 := (hb4.cell (p := ⟨R, 1, none⟩) hRr).trans k1
          have g2 := (hb4.cell (p := ⟨R, 2, none⟩) hRr).trans k2
          have gx := (hb4.cell (p := ⟨gb, d, none⟩) hgbr).trans kx
          have hRw4 : R < w4.heap.size := Nat.lt_of_lt_of_le hRr hs4
          refine hK.out _ _ ⟨g2, gx⟩ (fun hS => ?_)
          clear hK hb4'
          refine wpAnyH_ready (rs := [13]) (by kernel_rfl) (by simp) ?_
          refine AllReadyH.cons rfl (fun K hK => ?_) AllReadyH.nil
          go_simp
          refine hK.out _ _ ⟨(World.cell?_of_block (w := w4) (a := ⟨R, 2, none⟩) (Below.heap_alloc w4 _ R hRw4)).trans g2, (World.cell?_of_block (w := w4) (a := ⟨gb, d, none⟩) (Below.heap_alloc w4 _ gb (Nat.lt_of_lt_of_le hgbr hs4))).trans gx⟩ (fun hS => ?_)
          clear hK
          have hbA : Below wr.heap.size wr (w4.alloc (.cells #[.slice yp xl yc] 30)) := hb4.trans (((Below.refl w4.heap.size w4).alloc (Nat.le_refl _) _).mono hb4.size)
          have hMA := HMr.out.later hbA
          have harA := hMA.all.row
          rw [HLr.out] at harA
          have hyA : OwnAll (w4.alloc (.cells #[.slice yp xl yc] 30)) (R + 1) [.slice yp xl yc] [st.block.getD d []] := ⟨by rw [HXL.out]; exact (owns_base hy4 hR4).alloc _, trivial⟩
          refine wpAnyH_ready (rs := [14]) (by kernel_rfl) (by simp) ?_
          refine AllReadyH.cons rfl (fun K hK => ?_) AllReadyH.nil
          refine step_append_keep rfl _ _ 22 rfl (R + 1) 30 i0 (.slice none 0 0) 1 24 Tryz.underlying22 hi hz0 hz1 hz2 rfl (by decide) _ L avr rfl harA ⟨w4.heap.size, 0, none⟩ 1 1 [.slice yp xl yc] rfl rfl (cell_one_new w4 _ _) (fun u hu => by simp at hu; subst hu; rfl) (by unfold maxLen; omega) (by omega) (by simp; omega) ?_
          intro v5 w5 hown5 hg5 hk5
          obtain ⟨hM6, hb5, hB5, hL5⟩ := hMA.more HO.out hyA (by rw [HLr.out]; exact hown5) hg5 hk5
          have hblk5 := hb5.trans hMA.blk
          obtain ⟨d0, d1, d2, d3, d4, d5, d6⟩ := cells7 hblk5
          have f1 := frozen7 hblk5 1
          have d2' := d2
          rw [HBE.out] at d2'
          have hx5 := hL5.row
          rw [HBE.out, HBL.out] at hx5
          have hx5c := owns_val hx5 (j := d) (by omega)
          rw [HXE.out] at hx5c
          obtain ⟨vp, vc, rfl⟩ := owns_slice hown5
          refine hK.out _ _ ⟨d2', hx5c⟩ (fun hS => ?_)
          clear hK
          refine wpAnyH_take (i := 15) (v := .pointer (some ⟨R, 0, none⟩)) rfl (by kernel_rfl) (by kernel_rfl) (by kernel_rfl) (fun _ _ _ h => h) (Or.inl ⟨by kernel_rfl, fun w' hS' => by clear hS'; go_simp⟩) hS ?_
          refine wpAnyH_take (i := 16) (v := .pointer (some ⟨R, 1, none⟩)) rfl (by kernel_rfl) (by kernel_rfl) (by kernel_rfl) (fun _ _ _ h => h) (Or.inl ⟨by kernel_rfl, fun w' hS' => by clear hS'; go_simp⟩) hS ?_
          refine wpAnyH_ready (rs := [17]) (by kernel_rfl) (by simp) ?_
          refine AllReadyH.cons rfl (fun K hK => ?_) AllReadyH.nil
          go_simp
          have e2 := (cells7 hM6.blk).2.2.1
          rw [HBE.out] at e2
          have hx6 := hM6.block.row
          rw [HBE.out, HBL.out] at hx6
          have hx6c := owns_val hx6 (j := d) (by omega)
          rw [HXE.out] at hx6c
          refine hK.out _ _ ⟨e2, hx6c⟩ (fun hS => ?_)
          clear hK
          refine wpAnyH_done (by kernel_rfl) ?_ _
          have hM7 : RdAt (w5.setCell ⟨R, 1, none⟩ (.slice vp (L + 1) vc)) R w5.heap.size n (.slice vp (L + 1) vc) bv (.slice none 0 0) (avr ++ [.slice yp xl yc]) bvs { st with all := st.all ++ st.block ++ backTo st.block d } := by
            rw [HST.out, ← List.append_assoc]; exact hM6
          have HM7 := hide hM7
          have HL7 : Hid ((avr ++ [Value.slice yp xl yc]).length = al + bl + (bl - 1 - d)) := by show _ = _; rw [List.length_append, HLr.out]; exact HLd.out
          have hB7 : Bel R w (w5.setCell ⟨R, 1, none⟩ (.slice vp (L + 1) vc)) := ((hBr.trans (Bel.of hbA (by omega))).trans hB5).setCell (p := ⟨R, 1, none⟩) (Nat.le_refl _) _
          clear hS hM6 hM7 hown5 hg5 hk5 hMA harA hyA hbA hL5 hx5 hx6 hblk5 d0 d1 d2 d3 d4 d5 d6
          go_wp2
          go_roundw
          case rel =>
            have hfin : ∃ (d' : Nat) (u : Value) (us : List Value) (D' : Nat), d' ≤ bl - 1 ∧ Value.int .i64 ((d : Int) - 1) = .int .i64 ((d' : Int) - 1) ∧ Hid (us.length = al + bl + (bl - 1 - d')) ∧ Hid (RdAt _ R D' n u bv (.slice none 0 0) us bvs { st with all := st.all ++ st.block ++ backTo st.block d' }) ∧ Bel R w _ := ⟨d, _, _, _, by omega, by go_num, HL7, HM7, hB7⟩
            first
              | exact hfin
              | ((repeat apply Exists.intro); exact ⟨hfin, rfl⟩)
          case measure => first | (simp [intOf]; done) | (simp [intOf]; omega)
        · go_simp
          refine HCl.out.mono ?_
          rintro ex w4 ⟨y4, rfl, hy4, hb4'⟩
          have hb4 : Below wr.heap.size wr w4 := ⟨hb4'.os, hb4'.tape, hb4'.output, hb4'.size, hb4'.block⟩
          have hs4 := hb4.size
          have hR4 : R + 1 ≤ wr.drew.heap.size := hRr
          rw [HXLn.out] at hy4
          obtain ⟨yp, yc, rfl⟩ := owns_slice hy4
          have g1 := (hb4.cell (p := ⟨R, 1, none⟩) hRr).trans k1
          have g2 := (hb4.cell (p := ⟨R, 2, none⟩) hRr).trans k2
          have gx := (hb4.cell (p := ⟨gb, d, none⟩) hgbr).trans kx
          have hRw4 : R < w4.heap.size := Nat.lt_of_lt_of_le hRr hs4
          refine hK.out _ _ ⟨g2, gx⟩ (fun hS => ?_)
          clear hK hb4'
          refine wpAnyH_ready (rs := [4, 13]) (by kernel_rfl) (by simp) ?_
          refine AllReadyH.cons rfl (fun K hK => ?_) (AllReadyH.cons rfl (fun K hK => ?_) AllReadyH.nil)
          · go_simp
            refine hK.out _ _ ⟨g2, gx⟩ (fun hS => ?_)
            clear hK
            refine wpAnyH_ready (rs := [13]) (by kernel_rfl) (by simp) ?_
            refine AllReadyH.cons rfl (fun K hK => ?_) AllReadyH.nil
            go_simp
            refine hK.out _ _ ⟨(World.cell?_of_block (w := w4) (a := ⟨R, 2, none⟩) (Below.heap_alloc w4 _ R hRw4)).trans g2, (World.cell?_of_block (w := w4) (a := ⟨gb, d, none⟩) (Below.heap_alloc w4 _ gb (Nat.lt_of_lt_of_le hgbr hs4))).trans gx⟩ (fun hS => ?_)
            clear hK
            have hbA : Below wr.heap.size wr (w4.alloc (.cells #[.slice yp xl yc] 30)) := hb4.trans (((Below.refl w4.heap.size w4).alloc (Nat.le_refl _) _).mono hb4.size)
            have hMA := HMr.out.later hbA
            have harA := hMA.all.row
            rw [HLr.out] at harA
            have hyA : OwnAll (w4.alloc (.cells #[.slice yp xl yc] 30)) (R + 1) [.slice yp xl yc] [st.block.getD d []] := ⟨by rw [HXL.out]; exact (owns_base hy4 hR4).alloc _, trivial⟩
            refine wpAnyH_ready (rs := [14]) (by kernel_rfl) (by simp) ?_
            refine AllReadyH.cons rfl (fun K hK => ?_) AllReadyH.nil
            refine step_append_keep rfl _ _ 22 rfl (R + 1) 30 i0 (.slice none 0 0) 1 24 Tryz.underlying22 hi hz0 hz1 hz2 rfl (by decide) _ L avr rfl harA ⟨w4.heap.size, 0, none⟩ 1 1 [.slice yp xl yc] rfl rfl (cell_one_new w4 _ _) (fun u hu => by simp at hu; subst hu; rfl) (by unfold maxLen; omega) (by omega) (by simp; omega) ?_
            intro v5 w5 hown5 hg5 hk5
            obtain ⟨hM6, hb5, hB5, hL5⟩ := hMA.more HO.out hyA (by rw [HLr.out]; exact hown5) hg5 hk5
            have hblk5 := hb5.trans hMA.blk
            obtain ⟨d0, d1, d2, d3, d4, d5, d6⟩ := cells7 hblk5
            have f1 := frozen7 hblk5 1
            have d2' := d2
            rw [HBE.out] at d2'
            have hx5 := hL5.row
            rw [HBE.out, HBL.out] at hx5
            have hx5c := owns_val hx5 (j := d) (by omega)
            rw [HXE.out] at hx5c
            obtain ⟨vp, vc, rfl⟩ := owns_slice hown5
            refine hK.out _ _ ⟨d2', hx5c⟩ (fun hS => ?_)
            clear hK
            refine wpAnyH_take (i := 15) (v := .pointer (some ⟨R, 0, none⟩)) rfl (by kernel_rfl) (by kernel_rfl) (by kernel_rfl) (fun _ _ _ h => h) (Or.inl ⟨by kernel_rfl, fun w' hS' => by clear hS'; go_simp⟩) hS ?_
            refine wpAnyH_take (i := 16) (v := .pointer (some ⟨R, 1, none⟩)) rfl (by kernel_rfl) (by kernel_rfl) (by kernel_rfl) (fun _ _ _ h => h) (Or.inl ⟨by kernel_rfl, fun w' hS' => by clear hS'; go_simp⟩) hS ?_
            refine wpAnyH_ready (rs := [17]) (by kernel_rfl) (by simp) ?_
            refine AllReadyH.cons rfl (fun K hK => ?_) AllReadyH.nil
            go_simp
            have e2 := (cells7 hM6.blk).2.2.1
            rw [HBE.out] at e2
            have hx6 := hM6.block.row
            rw [HBE.out, HBL.out] at hx6
            have hx6c := owns_val hx6 (j := d) (by omega)
            rw [HXE.out] at hx6c
            refine hK.out _ _ ⟨e2, hx6c⟩ (fun hS => ?_)
            clear hK
            refine wpAnyH_done (by kernel_rfl) ?_ _
            have hM7 : RdAt (w5.setCell ⟨R, 1, none⟩ (.slice vp (L + 1) vc)) R w5.heap.size n (.slice vp (L + 1) vc) bv (.slice none 0 0) (avr ++ [.slice yp xl yc]) bvs { st with all := st.all ++ st.block ++ backTo st.block d } := by
              rw [HST.out, ← List.append_assoc]; exact hM6
            have HM7 := hide hM7
            have HL7 : Hid ((avr ++ [Value.slice yp xl yc]).length = al + bl + (bl - 1 - d)) := by show _ = _; rw [List.length_append, HLr.out]; exact HLd.out
            have hB7 : Bel R w (w5.setCell ⟨R, 1, none⟩ (.slice vp (L + 1) vc)) := ((hBr.trans (Bel.of hbA (by omega))).trans hB5).setCell (p := ⟨R, 1, none⟩) (Nat.le_refl _) _
            clear hS hM6 hM7 hown5 hg5 hk5 hMA harA hyA hbA hL5 hx5 hx6 hblk5 d0 d1 d2 d3 d4 d5 d6
            go_wp2
            go_roundw
            case rel =>
              have hfin : ∃ (d' : Nat) (u : Value) (us : List Value) (D' : Nat), d' ≤ bl - 1 ∧ Value.int .i64 ((d : Int) - 1) = .int .i64 ((d' : Int) - 1) ∧ Hid (us.length = al + bl + (bl - 1 - d')) ∧ Hid (RdAt _ R D' n u bv (.slice none 0 0) us bvs { st with all := st.all ++ st.block ++ backTo st.block d' }) ∧ Bel R w _ := ⟨d, _, _, _, by omega, by go_num, HL7, HM7, hB7⟩
              first
                | exact hfin
                | ((repeat apply Exists.intro); exact ⟨hfin, rfl⟩)
            case measure => first | (simp [intOf]; done) | (simp [intOf]; omega)
          · go_simp
            refine hK.out _ _ ⟨(World.cell?_of_block (w := w4) (a := ⟨R, 2, none⟩) (Below.heap_alloc w4 _ R hRw4)).trans g2, (World.cell?_of_block (w := w4) (a := ⟨gb, d, none⟩) (Below.heap_alloc w4 _ gb (Nat.lt_of_lt_of_le hgbr hs4))).trans gx⟩ (fun hS => ?_)
            clear hK
            refine wpAnyH_ready (rs := [4]) (by kernel_rfl) (by simp) ?_
            refine AllReadyH.cons rfl (fun K hK => ?_) AllReadyH.nil
            go_simp
            refine hK.out _ _ ⟨(World.cell?_of_block (w := w4) (a := ⟨R, 2, none⟩) (Below.heap_alloc w4 _ R hRw4)).trans g2, (World.cell?_of_block (w := w4) (a := ⟨gb, d, none⟩) (Below.heap_alloc w4 _ gb (Nat.lt_of_lt_of_le hgbr hs4))).trans gx⟩ (fun hS => ?_)
            clear hK
            have hbA : Below wr.heap.size wr (w4.alloc (.cells #[.slice yp xl yc] 30)) := hb4.trans (((Below.refl w4.heap.size w4).alloc (Nat.le_refl _) _).mono hb4.size)
            have hMA := HMr.out.later hbA
            have harA := hMA.all.row
            rw [HLr.out] at harA
            have hyA : OwnAll (w4.alloc (.cells #[.slice yp xl yc] 30)) (R + 1) [.slice yp xl yc] [st.block.getD d []] := ⟨by rw [HXL.out]; exact (owns_base hy4 hR4).alloc _, trivial⟩
            refine wpAnyH_ready (rs := [14]) (by kernel_rfl) (by simp) ?_
            refine AllReadyH.cons rfl (fun K hK => ?_) AllReadyH.nil
            refine step_append_keep rfl _ _ 22 rfl (R + 1) 30 i0 (.slice none 0 0) 1 24 Tryz.underlying22 hi hz0 hz1 hz2 rfl (by decide) _ L avr rfl harA ⟨w4.heap.size, 0, none⟩ 1 1 [.slice yp xl yc] rfl rfl (cell_one_new w4 _ _) (fun u hu => by simp at hu; subst hu; rfl) (by unfold maxLen; omega) (by omega) (by simp; omega) ?_
            intro v5 w5 hown5 hg5 hk5
            obtain ⟨hM6, hb5, hB5, hL5⟩ := hMA.more HO.out hyA (by rw [HLr.out]; exact hown5) hg5 hk5
            have hblk5 := hb5.trans hMA.blk
            obtain ⟨d0, d1, d2, d3, d4, d5, d6⟩ := cells7 hblk5
            have f1 := frozen7 hblk5 1
            have d2' := d2
            rw [HBE.out] at d2'
            have hx5 := hL5.row
            rw [HBE.out, HBL.out] at hx5
            have hx5c := owns_val hx5 (j := d) (by omega)
            rw [HXE.out] at hx5c
            obtain ⟨vp, vc, rfl⟩ := owns_slice hown5
            refine hK.out _ _ ⟨d2', hx5c⟩ (fun hS => ?_)
            clear hK
            refine wpAnyH_take (i := 15) (v := .pointer (some ⟨R, 0, none⟩)) rfl (by kernel_rfl) (by kernel_rfl) (by kernel_rfl) (fun _ _ _ h => h) (Or.inl ⟨by kernel_rfl, fun w' hS' => by clear hS'; go_simp⟩) hS ?_
            refine wpAnyH_take (i := 16) (v := .pointer (some ⟨R, 1, none⟩)) rfl (by kernel_rfl) (by kernel_rfl) (by kernel_rfl) (fun _ _ _ h => h) (Or.inl ⟨by kernel_rfl, fun w' hS' => by clear hS'; go_simp⟩) hS ?_
            refine wpAnyH_ready (rs := [17]) (by kernel_rfl) (by simp) ?_
            refine AllReadyH.cons rfl (fun K hK => ?_) AllReadyH.nil
            go_simp
            have e2 := (cells7 hM6.blk).2.2.1
            rw [HBE.out] at e2
            have hx6 := hM6.block.row
            rw [HBE.out, HBL.out] at hx6
            have hx6c := owns_val hx6 (j := d) (by omega)
            rw [HXE.out] at hx6c
            refine hK.out _ _ ⟨e2, hx6c⟩ (fun hS => ?_)
            clear hK
            refine wpAnyH_done (by kernel_rfl) ?_ _
            have hM7 : RdAt (w5.setCell ⟨R, 1, none⟩ (.slice vp (L + 1) vc)) R w5.heap.size n (.slice vp (L + 1) vc) bv (.slice none 0 0) (avr ++ [.slice yp xl yc]) bvs { st with all := st.all ++ st.block ++ backTo st.block d } := by
              rw [HST.out, ← List.append_assoc]; exact hM6
            have HM7 := hide hM7
            have HL7 : Hid ((avr ++ [Value.slice yp xl yc]).length = al + bl + (bl - 1 - d)) := by show _ = _; rw [List.length_append, HLr.out]; exact HLd.out
            have hB7 : Bel R w (w5.setCell ⟨R, 1, none⟩ (.slice vp (L + 1) vc)) := ((hBr.trans (Bel.of hbA (by omega))).trans hB5).setCell (p := ⟨R, 1, none⟩) (Nat.le_refl _) _
            clear hS hM6 hM7 hown5 hg5 hk5 hMA harA hyA hbA hL5 hx5 hx6 hblk5 d0 d1 d2 d3 d4 d5 d6
            go_wp2
            go_roundw
            case rel =>
              have hfin : ∃ (d' : Nat) (u : Value) (us : List Value) (D' : Nat), d' ≤ bl - 1 ∧ Value.int .i64 ((d : Int) - 1) = .int .i64 ((d' : Int) - 1) ∧ Hid (us.length = al + bl + (bl - 1 - d')) ∧ Hid (RdAt _ R D' n u bv (.slice none 0 0) us bvs { st with all := st.all ++ st.block ++ backTo st.block d' }) ∧ Bel R w _ := ⟨d, _, _, _, by omega, by go_num, HL7, HM7, hB7⟩
              first
                | exact hfin
                | ((repeat apply Exists.intro); exact ⟨hfin, rfl⟩)
            case measure => first | (simp [intOf]; done) | (simp [intOf]; omega)
      · obtain rfl : d' = 0 := by omega
        have HMr := hMr
        have HASS := HAS
        have HAS : Hid ((st.all ++ st.block ++ backTo st.block 0).length ≤ 3000) := by show _ ≤ _; rw [List.length_append, List.length_append, backTo_length]; have := HASS.out; omega
        clear hMr HASS
        obtain ⟨q0, q1, q2, q3, q4, q5, q6⟩ := cells7 HMr.out.blk
        have r2 := frozen7 HMr.out.blk 2
        have r3 := frozen7 HMr.out.blk 3
        have r4 := frozen7 HMr.out.blk 4
        have HNR := hide (needRoom_any _ avr wr (R + 1) HMr.out.all.row (by rw [HMr.out.all.len]; show ((st.all ++ st.block ++ backTo st.block 0)).length ≤ 1000000; have := HAS.out; omega))
        have hlA : (avr).length = ((st.all ++ st.block ++ backTo st.block 0)).length := HMr.out.all.len
        rw [hlA] at HNR
        obtain ⟨fp, fc, hfe⟩ := owns_slice HMr.out.all.row
        rw [hlA] at hfe
        have hW2 := HMr.out.wipe
        have hW3 := hW2.flags false st.mirrored st.dot 3 (.bool false) rfl
        have hW4 := hW3.flags false false st.dot 4 (.bool false) rfl
        have HW4 := hide hW4
        have hBw : Bel R w (((wr.setCell ⟨R, 2, none⟩ (.slice none 0 0)).setCell ⟨R, 3, none⟩ (.bool false)).setCell ⟨R, 4, none⟩ (.bool false)) := ((hBr.setCell (p := ⟨R, 2, none⟩) (Nat.le_refl _) _).setCell (p := ⟨R, 3, none⟩) (Nat.le_refl _) _).setCell (p := ⟨R, 4, none⟩) (Nat.le_refl _) _
        rw [hfe] at HNR q1
        clear hW2 hW3 hW4 hlA hfe
        generalize hAl : ((st.all ++ st.block ++ backTo st.block 0)).length = AL at *
        have HALe := hide hAl
        clear hAl
        go_wp2_with fail
        refine HNR.out.mono ?_
        rintro e w' ⟨rfl, rfl⟩
        by_cases h2 : 200 < AL
        · rw [if_pos h2]
          have HM2 : Hid (st.endBlock.1 = 3) := by show _ = _; unfold RS.endBlock; rw [HEq.out, HALe.out]; exact if_pos h2
          unfold thrown
          go_wp2
          exact ⟨rfl, Goes.bad HM2.out (by decide) hBr⟩
        · rw [if_neg h2]
          have HM2 : Hid (st.endBlock = (0, { st with all := (st.all ++ st.block ++ backTo st.block 0), block := [], marked := false, mirrored := false })) := by show _ = _; unfold RS.endBlock; rw [HEq.out, HALe.out, if_neg h2]
          go_wp2
          exact bodyPost_end (results_none rfl _ _ _) rfl (Goes.ok HM2.out hBw ⟨_, _, _, _, _, _, HW4.out⟩)

end Go.Proofs.YtfngadfkopfhcaaGreatDoor

/- Contract: strings.IndexRune at the signs, at every rune. -/
namespace Go.Proofs.YtfngadfkopfhcaaGreatDoor
open Go.RowKit

theorem indexRune_any (c : Nat) (w : World) (h2 : c < 55296 ∨ 57343 < c) (h3 : c ≤ 1114111) :
    Calls Tryz.prog 95 #[.string ⟨#[49, 50, 51, 52, 53, 54, 55, 56, 57, 48, 69, 84]⟩, .int .i32 c] w fun e w' => e = .returned (.int .i64 (si c)) ∧ Below w.heap.size w w' := by
  by_cases h1 : c < 128
  · exact indexRune_low c w h1
  · have hs : si c = -1 := by unfold si; rw [if_neg h1]
    rw [hs]
    by_cases h4 : c = 65533
    · subst h4; exact indexRune_bad w
    · exact indexRune_high c w (by omega) (by omega) (by omega) (by omega)

theorem si_range (c : Nat) : -1 ≤ si c ∧ si c ≤ 11 := by
  unfold si
  by_cases h : c < 128
  · rw [if_pos h]
    have key : ∀ k : Fin 128, -1 ≤ Go.Lib.indexByte [49, 50, 51, 52, 53, 54, 55, 56, 57, 48, 69, 84] k.1.toUInt8 ∧ Go.Lib.indexByte [49, 50, 51, 52, 53, 54, 55, 56, 57, 48, 69, 84] k.1.toUInt8 ≤ 11 := by decide +kernel
    exact key ⟨c, h⟩
  · rw [if_neg h]; omega

end Go.Proofs.YtfngadfkopfhcaaGreatDoor

/- Contracts: strings.IndexRune at the signs, (*reader).take, (*reader).end. (Written by mktk.py.) -/
namespace Go.Proofs.YtfngadfkopfhcaaGreatDoor
open Go.RowKit

/-- What bounds a reader keeps, behind k runes. -/
structure RS.Fine (k : Nat) (st : RS) : Prop where
  block : st.block.length ≤ 200
  all : st.all.length ≤ 200
  signs : ∀ x ∈ st.opn, 1 ≤ x ∧ x ≤ 12
  opn : st.opn.length ≤ k
  inner : ∀ j, (st.block.getD j []).length ≤ k + 2

theorem RS.Fine.new : RS.Fine 0 RS.new := ⟨by decide, by decide, (fun x hx => by cases hx), by decide, fun j => by simp [RS.new]⟩

theorem fill_len (n : Int) (l : List Int) : (fill2 n (fill1 l)).length ≤ l.length + 2 := by
  have := fill1_len l
  unfold fill2
  split
  · simp; omega
  · omega

theorem getD_snoc_len {b : List (List Int)} {p : List Int} {k : Nat} (h : ∀ j, (b.getD j []).length ≤ k) (hp : p.length ≤ k) (j : Nat) : ((b ++ [p]).getD j []).length ≤ k := by
  by_cases hj : j < b.length
  · have := h j
    simp only [List.getD] at this ⊢
    rw [List.getElem?_append_left hj]; exact this
  · simp only [List.getD]
    rw [List.getElem?_append_right (by omega)]
    cases hq : j - b.length with
    | zero => simpa using hp
    | succ q => simp

theorem RS.Fine.mono {k k' : Nat} {st : RS} (h : RS.Fine k st) (hk : k ≤ k') : RS.Fine k' st := ⟨h.block, h.all, h.signs, Nat.le_trans h.opn hk, fun j => Nat.le_trans (h.inner j) (by omega)⟩

theorem RS.Fine.add {k : Nat} {n : Int} {st : RS} {ps : List Int} (h : RS.Fine k st) (hp : ps.length ≤ k + 2) (h0 : (st.add n ps).1 = 0) : RS.Fine k (st.add n ps).2 := by
  unfold RS.add at h0 ⊢
  split at h0
  · rename_i hok
    rw [if_pos hok]
    split at h0
    · cases h0
    · rename_i hl
      exact ⟨by show (st.block ++ [ps]).length ≤ 200; omega, h.all, h.signs, h.opn, getD_snoc_len h.inner hp⟩
  · cases h0

theorem RS.Fine.endSigns {k : Nat} {n : Int} {st : RS} (h : RS.Fine k st) (h0 : (st.endSigns n).1 = 0) : RS.Fine k (st.endSigns n).2 ∧ (st.endSigns n).2.opn = [] := by
  unfold RS.endSigns at h0 ⊢
  by_cases hz : st.opn = []
  · rw [if_pos hz]; exact ⟨h, hz⟩
  · rw [if_neg hz] at h0 ⊢
    have h1 : RS.Fine k { st with opn := [] } := ⟨h.block, h.all, (fun x hx => by cases hx), Nat.zero_le _, h.inner⟩
    refine ⟨h1.add (by have := fill_len n st.opn; have := h.opn; omega) h0, ?_⟩
    unfold RS.add
    split <;> rfl

section
variable {w : World} {R D : Nat} {n : Int} {av bv ov : Value} {avs bvs : List Value} {st : RS}

theorem RdAt.fresh (h : RdAt w R D n av bv ov avs bvs st) (ho : st.opn = []) : RdAt w R w.heap.size n av bv ov avs bvs st := by
  refine ⟨h.blk, h.all, h.block, ?_, fun u hu b hb => Nat.lt_of_lt_of_le (h.inner u hu b hb) h.high, h.sep, h.lt, Nat.le_refl _, h.nilo⟩
  rw [h.nilo ho, ho]; exact World.ownsRow_nil _ _ _ _

/-- One more sign. -/
theorem RdAt.sign {w5 : World} {v' : Value} {x : Int} (h : RdAt w R D n av bv ov avs bvs st) (hown : w5.ownsRow D 3 1 v' (st.opn.length + 1) ((st.opn ++ [x]).map (Value.int .i64))) (hg : w.grownBy w5 ov.ownBlock) :
    RdAt (w5.setCell ⟨R, 5, none⟩ v') R D n av bv v' avs bvs { st with opn := st.opn ++ [x] } ∧ w5.heap[R]? = w.heap[R]? ∧ Bel R w w5 := by
  have hin : ∀ y m ys, y ∈ avs ++ bvs → w.ownsRow (R + 1) 3 1 y m ys → w5.ownsRow (R + 1) 3 1 y m ys := by
    intro y m ys hy hr
    refine hr.kept hg ?_
    cases hb : y.ownBlock with
    | none => exact Or.inl rfl
    | some b =>
      refine Or.inr (fun e => ?_)
      have h1 := h.inner y hy b hb
      have h2 := (h.opn.lt b e.symm).1
      omega
  have hR : w5.heap[R]? = w.heap[R]? := hg.block R h.lt (fun e => by have := (h.opn.lt R e.symm).1; have := h.low; omega)
  have hall : LL w5 (R + 1) av avs st.all := ⟨h.all.row.kept hg (own_ty_ne h.all.row h.opn (by decide)), h.all.all.memw (fun y m ys hy => hin y m ys (List.mem_append.2 (Or.inl hy)))⟩
  have hbl : LL w5 (R + 1) bv bvs st.block := ⟨h.block.row.kept hg (own_ty_ne h.block.row h.opn (by decide)), h.block.all.memw (fun y m ys hy => hin y m ys (List.mem_append.2 (Or.inr hy)))⟩
  refine ⟨⟨by rw [heap_set7 (hR.trans h.blk)]; rfl, hall.setR, hbl.setR, ownsRow_setCell_below (by rw [List.length_append]; exact hown) (by exact h.low) _, h.inner, h.sep, h.low, by simp [World.setCell]; exact Nat.le_trans h.high hg.size, fun e => by simp at e⟩, hR, ?_⟩
  exact Bel.grown h.opn h.low (Nat.le_of_lt h.lt) hg

end

set_option maxRecDepth 20000 in
set_option maxHeartbeats 4000000 in
theorem take_sign (R : Nat) (n : Int) (k c : Nat) (st : RS) (w : World) (h : Rd w R n st) (hf : RS.Fine k st) (hk : k ≤ 5000) (h2 : c < 55296 ∨ 57343 < c) (h3 : c ≤ 1114111) (hs : 0 ≤ si c) :
    Calls Tryz.prog 79 #[.pointer (some ⟨R, 0, none⟩), .int .i32 c] w fun e w' => Goes w R n (st.take n c (si c)) e w' := by
  obtain ⟨j0, hj, hq0, hq1, hq2⟩ := info_parts Tryz.info3
  have HM : Hid (st.take n c (si c) = (0, { st with opn := st.opn ++ [si c + 1] })) := by show _ = _; unfold RS.take; rw [if_pos hs]
  have HIX := hide (indexRune_any c w h2 h3)
  have hsr := si_range c
  have hol : st.opn.length ≤ 5000 := Nat.le_trans hf.opn hk
  obtain ⟨D0, av, bv, ov, avs, bvs, h0⟩ := h
  obtain ⟨D, h⟩ : ∃ D, RdAt w R D n av bv ov avs bvs st := ⟨D0, h0⟩
  have hD : ∃ D, RdAt w R D n av bv ov avs bvs st ∧ (st.opn = [] → D = w.heap.size) := by
    by_cases ho : st.opn = []
    · exact ⟨_, h.fresh ho, fun _ => rfl⟩
    · exact ⟨D, h, fun e => absurd e ho⟩
  clear h0 h
  obtain ⟨D, h, _⟩ := hD
  have HH := hide h
  have hRl := h.lt
  clear h h2 h3 hf
  generalize si c = sx at *
  go_enter Tryz.func79, Tryz.ntmps79
  go_wp2_with fail
  refine HIX.out.mono ?_
  rintro e w1 ⟨rfl, hb1⟩
  have h1 := HH.out.later hb1
  have c5 := (cells7 h1.blk).2.2.2.2.2.1
  have hA := h1.later ((Below.refl _ _).alloc (Nat.le_refl _) (.cells #[.int .i64 (sx + 1)] 3))
  have hrow := hA.opn
  have HA := hide hA
  obtain ⟨op, oc, hoe⟩ := owns_slice h1.opn
  rw [hoe] at c5 hrow
  have HOE := hide hoe
  have hD2 := h1.high
  have hs1 := hb1.size
  have hBR : Bel R w w1 := Bel.of hb1 (by omega)
  generalize hol' : st.opn.length = ol at *
  have HOL := hide hol'
  clear hA h1 hoe hol' HIX hb1
  go_wp2_with (at_builtin; refine wpList_append_own _ rfl _ _ 30 rfl D 3 j0 (.int .i64 0) 1 8 Tryz.underlying30 hj hq0 hq1 hq2 rfl (by decide) _ _ _ rfl hrow ⟨w1.heap.size, 0, none⟩ 1 1 [.int .i64 (sx + 1)] rfl rfl ?c1 ?c2 ?c3 ?c4 ?c5 ?_)
  case c1 => exact cell_one_new _ _ _
  case c2 => intro u hu; simp at hu; subst hu; rfl
  case c3 => unfold maxLen; omega
  case c4 => omega
  case c5 => simp; omega
  · intro v' w5 hown5 hg5 _
    obtain ⟨hR5, hb5, hB5⟩ := HA.out.sign (x := sx + 1) (by rw [HOL.out, List.map_append]; exact hown5) (by rw [HOE.out]; exact hg5)
    have hblk5 := hb5.trans HA.out.blk
    have d5 := (cells7 hblk5).2.2.2.2.2.1
    have f5 := frozen7 hblk5 5
    have HR5 := hide hR5
    have hB6 : Bel R w (w5.setCell ⟨R, 5, none⟩ v') := ((hBR.trans ((Bel.refl R w1).alloc (by omega) _)).trans hB5).setCell (p := ⟨R, 5, none⟩) (Nat.le_refl _) _
    obtain ⟨vp, vc, rfl⟩ := owns_slice hown5
    clear hR5 hown5 hg5 hb5 hB5 hblk5 hrow
    go_wp2
    first
      | exact bodyPost_ret (results_none rfl _ _ _) rfl (Goes.ok HM.out hB6 ⟨_, _, _, _, _, _, HR5.out⟩)
      | exact bodyPost_end (results_none rfl _ _ _) rfl (Goes.ok HM.out hB6 ⟨_, _, _, _, _, _, HR5.out⟩)

end Go.Proofs.YtfngadfkopfhcaaGreatDoor
