/- Joined: SaO, TtL, TtB, TtF, Course, MethOf, TtS, Hnt. -/
import Derived.Test.YtfnmkbcdchnnnaaJ11
import Derived.Test.YtfnmkbcdchnnnaaJ9
import Derived.Test.YtfnmkbcdchnnnaaJ10
import Derived.Laws.ResultCell
import Derived.Test.YtfnmkbcdchnnnaaJ7
import Derived.Test.YtfnmkbcdchnnnaaJ8
/- Contract: search's Touches. -/
namespace Go.Proofs.Ytfnmkbcdchnnnaa
open Go.RowKit

def TouchPost (F : List (List Nat)) (w : World) (e : Ending) (w' : World) : Prop :=
  Below w.heap.size w w' ∧ ∃ base fv vs, e = .returned (.tuple #[fv, .int .i64 0]) ∧ w.heap.size ≤ base ∧ LL w' base fv vs (F.map nI)

/-- The leads by each call. -/
noncomputable def byG (Ts : Nat → List (List Int)) (K N : Nat) : List (List Pm × Pm) := (List.range N).map (fun c => (((Ts c).take K).map pad, pad ((Ts c).getD K [])))

set_option maxRecDepth 20000 in
set_option maxHeartbeats 8000000 in
theorem touches_ok (s : ByteArray) (n : Nat) (vp : Option Addr) (K vc : Nat) (cp : Option Addr) (N cc : Nat) (leads many : Nat) (Ts : Nat → List (List Int)) (w : World) (h1 : 1 ≤ n) (h12 : n ≤ 12) (hK1 : 1 ≤ K) (hK2 : K ≤ 1000) (hN1 : 1 ≤ N) (hN2 : N ≤ 8)
    (hl1 : 1 ≤ leads) (hl2 : leads ≤ 24) (hm1 : 1 ≤ many) (hm2 : many ≤ 50) (hbn : bnd N leads ≤ 20000)
    (hT : ∀ c, c < N → (Ts c).length = K + 1 ∧ ∀ r, r ∈ Ts c → Rw n r)
    (hC : ∀ W, Below w.heap.size w W → Calls Try.prog 40 #[meth s n (.slice vp K vc), .slice cp N cc] W (fun e w' => e = .returned (.int .i64 0) ∧ Below W.heap.size W w'))
    (hR : ∀ c, c < N → ∀ W lv, Below w.heap.size w W → Ints W lv [(c : Int)] → Calls Try.prog 45 #[meth s n (.slice vp K vc), .slice cp N cc, lv] W (RowsPost (Ts c) W)) :
    Calls Try.prog 18 #[meth s n (.slice vp K vc), .slice cp N cc, .int .i64 leads, .int .i64 many] w (TouchPost (fnd many [] [] (sols (byG Ts K N) leads [] 1)) w) := by
  generalize hFE : fnd many [] [] (sols (byG Ts K N) leads [] 1) = FF
  have HFE := hide hFE
  have hmm := @run_makeMap Try.prog
  have HL := hide (fun c (hc : c < N) W (hW : Below w.heap.size w W) => leadBy_ok s n vp K vc (.slice cp N cc) c (Ts c) W h1 h12 hK1 hK2 (hT c hc).1 (hT c hc).2 (fun W' lv hW' => hR c hc W' lv (hW.trans (hW'.mono hW.size))))
  have HT := hide hT
  have HC := hide hC
  have HBN := hide hbn
  clear hT hC hR hbn hFE
  unfold meth at HL HC ⊢
  go_enter Try.func18, Try.ntmps18
  go_wp2_with fail
  refine (HC.out _ ((Below.refl _ _).alloc (Nat.le_refl _) _)).mono ?_
  rintro e w1 ⟨rfl, hb1⟩
  have hbx1 := (Box.start w s n (.slice vp K vc) 41).below hb1
  have hB1 : Below w.heap.size w w1 := ((Below.refl _ _).alloc (Nat.le_refl _) _).trans (hb1.mono (by simp))
  have hs1 : w.heap.size < w1.heap.size := hbx1.lt
  have HBX := hide hbx1
  have HB1 := hide hB1
  clear hb1 hbx1 hB1 HC
  go_upto_region 7 with fail
  have HBA : Hid (Below w1.heap.size w1 ((w1.alloc (.map #[] 0)).alloc (.cells #[.int .i64 leads, .int .i64 many, .slice none 0 0, .map (some w1.heap.size), .slice none 0 0, .int .i64 0, .slice none 0 0] 74))) := ((Below.refl _ _).alloc (Nat.le_refl _) _).alloc (by simp) _
  have HK0 : Hid (((w1.alloc (.map #[] 0)).alloc (.cells #[.int .i64 leads, .int .i64 many, .slice none 0 0, .map (some w1.heap.size), .slice none 0 0, .int .i64 0, .slice none 0 0] 74)).heap[w1.heap.size + 1]? = some (.cells #[.int .i64 leads, .int .i64 many, .slice none 0 0, .map (some w1.heap.size), .slice none 0 0, .int .i64 0, .slice none 0 0] 74)) := by
    show _ = _
    have h9 := heap_alloc_new (w1.alloc (.map #[] 0)) (.cells #[.int .i64 leads, .int .i64 many, .slice none 0 0, .map (some w1.heap.size), .slice none 0 0, .int .i64 0, .slice none 0 0] 74)
    rw [show (w1.alloc (.map #[] 0)).heap.size = w1.heap.size + 1 from by simp] at h9
    exact h9
  have HPS : Hid (PSet ((w1.alloc (.map #[] 0)).alloc (.cells #[.int .i64 leads, .int .i64 many, .slice none 0 0, .map (some w1.heap.size), .slice none 0 0, .int .i64 0, .slice none 0 0] 74)) w1.heap.size []) := (PSet.made w1).of_block (Below.heap_alloc _ _ _ (by simp))
  clear hmm
  generalize (w1.alloc (.map #[] 0)).alloc (.cells #[.int .i64 leads, .int .i64 many, .slice none 0 0, .map (some w1.heap.size), .slice none 0 0, .int .i64 0, .slice none 0 0] 74) = wa at *
  go_wp2
  go_loopw [39] (fun i wr => ∃ (k : Nat) (tp : Option Addr) (tc : Nat) (L : List (Value × Pm)), k ≤ N ∧ i = .int .i64 k ∧ Hid (TRel w1 wr leads many K Ts k tp tc L)) (fun i _ => N - (intOf i).toNat)
  case atStart => exact ⟨0, none, 0, [], by omega, rfl, ⟨HK0.out, HPS.out, rfl, World.ownsRow_nil _ _ _ _, fun c hc => by simp at hc, fun p hp => by simp at hp, HBA.out⟩⟩
  case round =>
    clear HK0 HPS HBA
    obtain ⟨k, tp, tc, L, hk, rfl, hT⟩ := hrel
    have hsbl : w1.heap.size + 1 < wr.heap.size := hT.out.lt
    have hbw := hT.out.below
    by_cases hlt : k < N
    · have hBw : Below w.heap.size w wr := HB1.out.trans (hbw.mono HB1.out.size)
      have hbx := HBX.out.below hbw
      have q0 := hbx.c0
      have q1 := hbx.c1
      have q2 := hbx.c2
      obtain ⟨_, _, z2, _, _, _, _, _, _, _⟩ := cells7 hT.out.blk
      have hk1000 : k ≤ 1000 := by omega
      have HLD := hide (fun W (hW : Below wr.heap.size wr W) => HL.out k hlt W (hBw.trans (hW.mono hBw.size)))
      have hd0 : Below wr.heap.size wr wr.drew := (Below.refl _ _).drew
      clear hbx HL HBX HB1 hbw hBw
      generalize hpr : pad ((Ts k).getD K []) = pr at HLD
      generalize hrx : ((Ts k).take K).map pad = RX at HLD
      have HPR := hide hpr
      have HRX := hide hrx
      clear hpr hrx
      go_upto_region 10 with fail
      refine wp_region_held_drew (S := fun _ => True) (by kernel_rfl) trivial (fun _ => ?_)
      refine wpAnyH_take (i := 0) (v := .pointer (some ⟨w1.heap.size + 1, 2, none⟩)) rfl (by kernel_rfl) (by kernel_rfl) (by kernel_rfl) (fun _ _ _ h => h) (Or.inl ⟨by kernel_rfl, fun w' _ => by go_simp⟩) trivial ?_
      refine wpAnyH_take (i := 3) (v := .slice cp N cc) rfl (by kernel_rfl) (by kernel_rfl) (by kernel_rfl) (fun _ _ _ h => h) (Or.inl ⟨by kernel_rfl, fun w' _ => by go_simp⟩) trivial ?_
      refine wpAnyH_take (i := 4) (v := .int .i64 k) rfl (by kernel_rfl) (by kernel_rfl) (by kernel_rfl) (fun _ _ _ h => h) (Or.inl ⟨by kernel_rfl, fun w' _ => by go_simp⟩) trivial ?_
      refine wpAnyH_ready (rs := [1, 2]) (by kernel_rfl) (by simp) ?_
      refine AllReadyH.cons rfl (fun K hK => ?_) (AllReadyH.cons rfl (fun K hK => ?_) (AllReadyH.nil))
      · go_simp
        refine hK.out _ _ trivial (fun _ => ?_)
        clear hK
        refine wpAnyH_ready (rs := [2]) (by kernel_rfl) (by simp) ?_
        refine AllReadyH.cons rfl (fun K hK => ?_) (AllReadyH.nil)
        go_simp
        refine hK.out _ _ trivial (fun _ => ?_)
        clear hK
        refine wpAnyH_ready (rs := [5]) (by kernel_rfl) (by simp) ?_
        refine AllReadyH.cons rfl (fun K hK => ?_) (AllReadyH.nil)
        go_simp
        refine (HLD.out wr.drew hd0).mono ?_
        rintro ex wo ⟨rv, rfl, hpm, hone, hob, hbo⟩
        obtain ⟨lp, lm, lc, rfl⟩ := hpm.slice
        have hBo : Below wr.heap.size wr wo := hd0.trans (hbo.mono hd0.size)
        have x0 : wo.cell? ⟨w1.heap.size + 1, 2, none⟩ = some (.slice tp k tc) := (hBo.cell (p := ⟨w1.heap.size + 1, 2, none⟩) (by exact hsbl)).trans z2
        have x0a : (wo.alloc (lobj (.slice lp lm lc) pr)).cell? ⟨w1.heap.size + 1, 2, none⟩ = some (.slice tp k tc) := (((Below.refl wo.heap.size wo).alloc (Nat.le_refl _) _).cell (p := ⟨w1.heap.size + 1, 2, none⟩) (by have := hBo.size; show w1.heap.size + 1 < wo.heap.size; omega)).trans x0
        refine hK.out _ _ trivial (fun _ => ?_)
        clear hK
        refine wpAnyH_ready (rs := [6]) (by kernel_rfl) (by simp) ?_
        refine AllReadyH.cons rfl (fun K hK => ?_) (AllReadyH.nil)
        refine lstep_build rfl _ rfl lp lm lc pr rfl ?_
        refine hK.out _ _ trivial (fun _ => ?_)
        clear hK
        refine wpAnyH_ready (rs := [7]) (by kernel_rfl) (by simp) ?_
        refine AllReadyH.cons rfl (fun K hK => ?_) (AllReadyH.nil)
        have hown1 : wo.ownsRow (w1.heap.size + 1 + 1) 80 13 (.slice tp k tc) k (flatL L) := by
          obtain ⟨e1, e2⟩ := hT.out.own
          refine ⟨e1, ?_⟩
          rcases e2 with e2 | ⟨g, cap, cur, ev, eg, eh, er⟩
          · exact Or.inl e2
          · exact Or.inr ⟨g, cap, cur, ev, eg, (hBo.block g (Array.getElem?_eq_some_iff.1 eh).1).trans eh, er⟩
        have hso := hBo.size
        have hbs9 : w1.heap.size + 1 + 1 ≤ (wo.alloc (lobj (.slice lp lm lc) pr)).heap.size := by simp; omega
        refine lstep_append rfl (.tmp 43) (.tmp 48) rfl (w1.heap.size + 1 + 1) tp k tc L rfl (hown1.alloc _) wo.heap.size lp lm lc pr rfl (heap_alloc_new wo _) hk1000 hbs9 ?_
        intro p4 c4 w4 hown4 hgrow
        refine hK.out _ _ trivial (fun _ => ?_)
        clear hK
        refine wpAnyH_take (i := 8) (v := .pointer (some ⟨w1.heap.size + 1, 2, none⟩)) rfl (by kernel_rfl) (by kernel_rfl) (by kernel_rfl) (fun _ _ _ h => h) (Or.inl ⟨by kernel_rfl, fun w' _ => by go_simp⟩) trivial ?_
        refine wpAnyH_ready (rs := [9]) (by kernel_rfl) (by simp) ?_
        refine AllReadyH.cons rfl (fun K hK => ?_) (AllReadyH.nil)
        have hT5 := hide (hT.out.next (lp := lp) (lm := lm) (lc := lc) (p4 := p4) (c4 := c4) hBo (by rw [HRX.out]; exact hpm) hob (by rw [HPR.out]; exact hown4) (by rw [HPR.out]; exact hgrow))
        have hk4 : w4.heap[w1.heap.size + 1]? = wr.heap[w1.heap.size + 1]? := ((hgrow.block (w1.heap.size + 1) (by simp; omega) (fun e => by have := (hown1.alloc (lobj (.slice lp lm lc) pr)).lt _ e.symm; omega)).trans (Below.heap_alloc _ _ _ (by omega))).trans (hBo.block _ hsbl)
        have y2 : w4.cell? ⟨w1.heap.size + 1, 2, none⟩ = some (.slice tp k tc) := (World.cell?_of_block (w := wr) (a := ⟨w1.heap.size + 1, 2, none⟩) hk4).trans z2
        have f2 : w4.frozen? ⟨w1.heap.size + 1, 2, none⟩ = false := by have h9 := hk4.trans hT.out.blk; simp [World.frozen?, h9]
        refine lstep_store rfl (.tmp 50) (.tmp 49) rfl ⟨w1.heap.size + 1, 2, none⟩ p4 (k + 1) c4 rfl rfl (.slice tp k tc) y2 f2 ?_
        rw [HPR.out] at hT5
        clear hown1 hso hbs9 hown4 hgrow hk4 y2 f2 hpm hone hob hbo hBo x0 x0a hT z2
        generalize w4.setCell ⟨w1.heap.size + 1, 2, none⟩ (.slice p4 (k + 1) c4) = w5 at *
        refine hK.out _ _ trivial (fun _ => ?_)
        clear hK
        refine wpAnyH_done (by kernel_rfl) ?_ _
        go_wp2
        go_roundw
        case rel => exact ⟨k + 1, p4, c4, _, by omega, by go_num, hT5⟩
        case measure => simp [intOf]; omega
      · go_simp
        refine hK.out _ _ trivial (fun _ => ?_)
        clear hK
        refine wpAnyH_ready (rs := [1, 5]) (by kernel_rfl) (by simp) ?_
        refine AllReadyH.cons rfl (fun K hK => ?_) (AllReadyH.cons rfl (fun K hK => ?_) (AllReadyH.nil))
        · go_simp
          refine hK.out _ _ trivial (fun _ => ?_)
          clear hK
          refine wpAnyH_ready (rs := [5]) (by kernel_rfl) (by simp) ?_
          refine AllReadyH.cons rfl (fun K hK => ?_) (AllReadyH.nil)
          go_simp
          refine (HLD.out wr.drew hd0).mono ?_
          rintro ex wo ⟨rv, rfl, hpm, hone, hob, hbo⟩
          obtain ⟨lp, lm, lc, rfl⟩ := hpm.slice
          have hBo : Below wr.heap.size wr wo := hd0.trans (hbo.mono hd0.size)
          have x0 : wo.cell? ⟨w1.heap.size + 1, 2, none⟩ = some (.slice tp k tc) := (hBo.cell (p := ⟨w1.heap.size + 1, 2, none⟩) (by exact hsbl)).trans z2
          have x0a : (wo.alloc (lobj (.slice lp lm lc) pr)).cell? ⟨w1.heap.size + 1, 2, none⟩ = some (.slice tp k tc) := (((Below.refl wo.heap.size wo).alloc (Nat.le_refl _) _).cell (p := ⟨w1.heap.size + 1, 2, none⟩) (by have := hBo.size; show w1.heap.size + 1 < wo.heap.size; omega)).trans x0
          refine hK.out _ _ trivial (fun _ => ?_)
          clear hK
          refine wpAnyH_ready (rs := [6]) (by kernel_rfl) (by simp) ?_
          refine AllReadyH.cons rfl (fun K hK => ?_) (AllReadyH.nil)
          refine lstep_build rfl _ rfl lp lm lc pr rfl ?_
          refine hK.out _ _ trivial (fun _ => ?_)
          clear hK
          refine wpAnyH_ready (rs := [7]) (by kernel_rfl) (by simp) ?_
          refine AllReadyH.cons rfl (fun K hK => ?_) (AllReadyH.nil)
          have hown1 : wo.ownsRow (w1.heap.size + 1 + 1) 80 13 (.slice tp k tc) k (flatL L) := by
            obtain ⟨e1, e2⟩ := hT.out.own
            refine ⟨e1, ?_⟩
            rcases e2 with e2 | ⟨g, cap, cur, ev, eg, eh, er⟩
            · exact Or.inl e2
            · exact Or.inr ⟨g, cap, cur, ev, eg, (hBo.block g (Array.getElem?_eq_some_iff.1 eh).1).trans eh, er⟩
          have hso := hBo.size
          have hbs9 : w1.heap.size + 1 + 1 ≤ (wo.alloc (lobj (.slice lp lm lc) pr)).heap.size := by simp; omega
          refine lstep_append rfl (.tmp 43) (.tmp 48) rfl (w1.heap.size + 1 + 1) tp k tc L rfl (hown1.alloc _) wo.heap.size lp lm lc pr rfl (heap_alloc_new wo _) hk1000 hbs9 ?_
          intro p4 c4 w4 hown4 hgrow
          refine hK.out _ _ trivial (fun _ => ?_)
          clear hK
          refine wpAnyH_take (i := 8) (v := .pointer (some ⟨w1.heap.size + 1, 2, none⟩)) rfl (by kernel_rfl) (by kernel_rfl) (by kernel_rfl) (fun _ _ _ h => h) (Or.inl ⟨by kernel_rfl, fun w' _ => by go_simp⟩) trivial ?_
          refine wpAnyH_ready (rs := [9]) (by kernel_rfl) (by simp) ?_
          refine AllReadyH.cons rfl (fun K hK => ?_) (AllReadyH.nil)
          have hT5 := hide (hT.out.next (lp := lp) (lm := lm) (lc := lc) (p4 := p4) (c4 := c4) hBo (by rw [HRX.out]; exact hpm) hob (by rw [HPR.out]; exact hown4) (by rw [HPR.out]; exact hgrow))
          have hk4 : w4.heap[w1.heap.size + 1]? = wr.heap[w1.heap.size + 1]? := ((hgrow.block (w1.heap.size + 1) (by simp; omega) (fun e => by have := (hown1.alloc (lobj (.slice lp lm lc) pr)).lt _ e.symm; omega)).trans (Below.heap_alloc _ _ _ (by omega))).trans (hBo.block _ hsbl)
          have y2 : w4.cell? ⟨w1.heap.size + 1, 2, none⟩ = some (.slice tp k tc) := (World.cell?_of_block (w := wr) (a := ⟨w1.heap.size + 1, 2, none⟩) hk4).trans z2
          have f2 : w4.frozen? ⟨w1.heap.size + 1, 2, none⟩ = false := by have h9 := hk4.trans hT.out.blk; simp [World.frozen?, h9]
          refine lstep_store rfl (.tmp 50) (.tmp 49) rfl ⟨w1.heap.size + 1, 2, none⟩ p4 (k + 1) c4 rfl rfl (.slice tp k tc) y2 f2 ?_
          rw [HPR.out] at hT5
          clear hown1 hso hbs9 hown4 hgrow hk4 y2 f2 hpm hone hob hbo hBo x0 x0a hT z2
          generalize w4.setCell ⟨w1.heap.size + 1, 2, none⟩ (.slice p4 (k + 1) c4) = w5 at *
          refine hK.out _ _ trivial (fun _ => ?_)
          clear hK
          refine wpAnyH_done (by kernel_rfl) ?_ _
          go_wp2
          go_roundw
          case rel => exact ⟨k + 1, p4, c4, _, by omega, by go_num, hT5⟩
          case measure => simp [intOf]; omega
        · go_simp
          refine (HLD.out wr.drew hd0).mono ?_
          rintro ex wo ⟨rv, rfl, hpm, hone, hob, hbo⟩
          obtain ⟨lp, lm, lc, rfl⟩ := hpm.slice
          have hBo : Below wr.heap.size wr wo := hd0.trans (hbo.mono hd0.size)
          have x0 : wo.cell? ⟨w1.heap.size + 1, 2, none⟩ = some (.slice tp k tc) := (hBo.cell (p := ⟨w1.heap.size + 1, 2, none⟩) (by exact hsbl)).trans z2
          have x0a : (wo.alloc (lobj (.slice lp lm lc) pr)).cell? ⟨w1.heap.size + 1, 2, none⟩ = some (.slice tp k tc) := (((Below.refl wo.heap.size wo).alloc (Nat.le_refl _) _).cell (p := ⟨w1.heap.size + 1, 2, none⟩) (by have := hBo.size; show w1.heap.size + 1 < wo.heap.size; omega)).trans x0
          refine hK.out _ _ trivial (fun _ => ?_)
          clear hK
          refine wpAnyH_ready (rs := [1, 6]) (by kernel_rfl) (by simp) ?_
          refine AllReadyH.cons rfl (fun K hK => ?_) (AllReadyH.cons rfl (fun K hK => ?_) (AllReadyH.nil))
          · go_simp
            refine hK.out _ _ trivial (fun _ => ?_)
            clear hK
            refine wpAnyH_ready (rs := [6]) (by kernel_rfl) (by simp) ?_
            refine AllReadyH.cons rfl (fun K hK => ?_) (AllReadyH.nil)
            refine lstep_build rfl _ rfl lp lm lc pr rfl ?_
            refine hK.out _ _ trivial (fun _ => ?_)
            clear hK
            refine wpAnyH_ready (rs := [7]) (by kernel_rfl) (by simp) ?_
            refine AllReadyH.cons rfl (fun K hK => ?_) (AllReadyH.nil)
            have hown1 : wo.ownsRow (w1.heap.size + 1 + 1) 80 13 (.slice tp k tc) k (flatL L) := by
              obtain ⟨e1, e2⟩ := hT.out.own
              refine ⟨e1, ?_⟩
              rcases e2 with e2 | ⟨g, cap, cur, ev, eg, eh, er⟩
              · exact Or.inl e2
              · exact Or.inr ⟨g, cap, cur, ev, eg, (hBo.block g (Array.getElem?_eq_some_iff.1 eh).1).trans eh, er⟩
            have hso := hBo.size
            have hbs9 : w1.heap.size + 1 + 1 ≤ (wo.alloc (lobj (.slice lp lm lc) pr)).heap.size := by simp; omega
            refine lstep_append rfl (.tmp 43) (.tmp 48) rfl (w1.heap.size + 1 + 1) tp k tc L rfl (hown1.alloc _) wo.heap.size lp lm lc pr rfl (heap_alloc_new wo _) hk1000 hbs9 ?_
            intro p4 c4 w4 hown4 hgrow
            refine hK.out _ _ trivial (fun _ => ?_)
            clear hK
            refine wpAnyH_take (i := 8) (v := .pointer (some ⟨w1.heap.size + 1, 2, none⟩)) rfl (by kernel_rfl) (by kernel_rfl) (by kernel_rfl) (fun _ _ _ h => h) (Or.inl ⟨by kernel_rfl, fun w' _ => by go_simp⟩) trivial ?_
            refine wpAnyH_ready (rs := [9]) (by kernel_rfl) (by simp) ?_
            refine AllReadyH.cons rfl (fun K hK => ?_) (AllReadyH.nil)
            have hT5 := hide (hT.out.next (lp := lp) (lm := lm) (lc := lc) (p4 := p4) (c4 := c4) hBo (by rw [HRX.out]; exact hpm) hob (by rw [HPR.out]; exact hown4) (by rw [HPR.out]; exact hgrow))
            have hk4 : w4.heap[w1.heap.size + 1]? = wr.heap[w1.heap.size + 1]? := ((hgrow.block (w1.heap.size + 1) (by simp; omega) (fun e => by have := (hown1.alloc (lobj (.slice lp lm lc) pr)).lt _ e.symm; omega)).trans (Below.heap_alloc _ _ _ (by omega))).trans (hBo.block _ hsbl)
            have y2 : w4.cell? ⟨w1.heap.size + 1, 2, none⟩ = some (.slice tp k tc) := (World.cell?_of_block (w := wr) (a := ⟨w1.heap.size + 1, 2, none⟩) hk4).trans z2
            have f2 : w4.frozen? ⟨w1.heap.size + 1, 2, none⟩ = false := by have h9 := hk4.trans hT.out.blk; simp [World.frozen?, h9]
            refine lstep_store rfl (.tmp 50) (.tmp 49) rfl ⟨w1.heap.size + 1, 2, none⟩ p4 (k + 1) c4 rfl rfl (.slice tp k tc) y2 f2 ?_
            rw [HPR.out] at hT5
            clear hown1 hso hbs9 hown4 hgrow hk4 y2 f2 hpm hone hob hbo hBo x0 x0a hT z2
            generalize w4.setCell ⟨w1.heap.size + 1, 2, none⟩ (.slice p4 (k + 1) c4) = w5 at *
            refine hK.out _ _ trivial (fun _ => ?_)
            clear hK
            refine wpAnyH_done (by kernel_rfl) ?_ _
            go_wp2
            go_roundw
            case rel => exact ⟨k + 1, p4, c4, _, by omega, by go_num, hT5⟩
            case measure => simp [intOf]; omega
          · refine lstep_build rfl _ rfl lp lm lc pr rfl ?_
            refine hK.out _ _ trivial (fun _ => ?_)
            clear hK
            refine wpAnyH_ready (rs := [1]) (by kernel_rfl) (by simp) ?_
            refine AllReadyH.cons rfl (fun K hK => ?_) (AllReadyH.nil)
            go_simp
            refine hK.out _ _ trivial (fun _ => ?_)
            clear hK
            refine wpAnyH_ready (rs := [7]) (by kernel_rfl) (by simp) ?_
            refine AllReadyH.cons rfl (fun K hK => ?_) (AllReadyH.nil)
            have hown1 : wo.ownsRow (w1.heap.size + 1 + 1) 80 13 (.slice tp k tc) k (flatL L) := by
              obtain ⟨e1, e2⟩ := hT.out.own
              refine ⟨e1, ?_⟩
              rcases e2 with e2 | ⟨g, cap, cur, ev, eg, eh, er⟩
              · exact Or.inl e2
              · exact Or.inr ⟨g, cap, cur, ev, eg, (hBo.block g (Array.getElem?_eq_some_iff.1 eh).1).trans eh, er⟩
            have hso := hBo.size
            have hbs9 : w1.heap.size + 1 + 1 ≤ (wo.alloc (lobj (.slice lp lm lc) pr)).heap.size := by simp; omega
            refine lstep_append rfl (.tmp 43) (.tmp 48) rfl (w1.heap.size + 1 + 1) tp k tc L rfl (hown1.alloc _) wo.heap.size lp lm lc pr rfl (heap_alloc_new wo _) hk1000 hbs9 ?_
            intro p4 c4 w4 hown4 hgrow
            refine hK.out _ _ trivial (fun _ => ?_)
            clear hK
            refine wpAnyH_take (i := 8) (v := .pointer (some ⟨w1.heap.size + 1, 2, none⟩)) rfl (by kernel_rfl) (by kernel_rfl) (by kernel_rfl) (fun _ _ _ h => h) (Or.inl ⟨by kernel_rfl, fun w' _ => by go_simp⟩) trivial ?_
            refine wpAnyH_ready (rs := [9]) (by kernel_rfl) (by simp) ?_
            refine AllReadyH.cons rfl (fun K hK => ?_) (AllReadyH.nil)
            have hT5 := hide (hT.out.next (lp := lp) (lm := lm) (lc := lc) (p4 := p4) (c4 := c4) hBo (by rw [HRX.out]; exact hpm) hob (by rw [HPR.out]; exact hown4) (by rw [HPR.out]; exact hgrow))
            have hk4 : w4.heap[w1.heap.size + 1]? = wr.heap[w1.heap.size + 1]? := ((hgrow.block (w1.heap.size + 1) (by simp; omega) (fun e => by have := (hown1.alloc (lobj (.slice lp lm lc) pr)).lt _ e.symm; omega)).trans (Below.heap_alloc _ _ _ (by omega))).trans (hBo.block _ hsbl)
            have y2 : w4.cell? ⟨w1.heap.size + 1, 2, none⟩ = some (.slice tp k tc) := (World.cell?_of_block (w := wr) (a := ⟨w1.heap.size + 1, 2, none⟩) hk4).trans z2
            have f2 : w4.frozen? ⟨w1.heap.size + 1, 2, none⟩ = false := by have h9 := hk4.trans hT.out.blk; simp [World.frozen?, h9]
            refine lstep_store rfl (.tmp 50) (.tmp 49) rfl ⟨w1.heap.size + 1, 2, none⟩ p4 (k + 1) c4 rfl rfl (.slice tp k tc) y2 f2 ?_
            rw [HPR.out] at hT5
            clear hown1 hso hbs9 hown4 hgrow hk4 y2 f2 hpm hone hob hbo hBo x0 x0a hT z2
            generalize w4.setCell ⟨w1.heap.size + 1, 2, none⟩ (.slice p4 (k + 1) c4) = w5 at *
            refine hK.out _ _ trivial (fun _ => ?_)
            clear hK
            refine wpAnyH_done (by kernel_rfl) ?_ _
            go_wp2
            go_roundw
            case rel => exact ⟨k + 1, p4, c4, _, by omega, by go_num, hT5⟩
            case measure => simp [intOf]; omega
    · obtain rfl : k = N := by omega
      have hGl : (byG Ts K k).length = k := by simp [byG]
      have hU : Und7 (byG Ts K k) wr.heap.size (w1.heap.size + 1) w1.heap.size leads many (.slice tp k tc) wr := by
        refine ⟨hsbl, by omega, by omega, hm2, hl2, by omega, fun c hc => ?_, ?_⟩
        · have h9 := (HT.out c (by omega)).1
          simp only [byG, List.getElem_map, List.getElem_range, List.length_map, List.length_take]
          omega
        · have ho := hT.out.own
          have hLk' := hT.out.len
          refine leads_mem (base := w1.heap.size + 1 + 1) (L := L) (by rw [hLk']; exact ho) (by rw [hLk', hGl]) (by omega) (fun c hc => ?_) (fun p hp g hg => (hT.out.obl p hp g hg).1) (Nat.le_refl _) (by omega) (by omega)
          have h9 := hT.out.pms c (by omega)
          simp only [byG, List.getElem_map, List.getElem_range]
          exact h9
      have hQ : Qs wr wr.heap.size (w1.heap.size + 1) w1.heap.size leads many (.slice tp k tc) (.slice none 0 0) (.slice none 0 0) 0 [] [] [] := ⟨hT.out.blk, hT.out.set, World.ownsRow_nil _ _ _ _, [], LL.nil _ _, fun u hu => by simp at hu⟩
      have HFROM := hide (fun W (hW : Below wr.heap.size wr W) => from_all hU leads 1 [] [] [] 0 _ _ W (hQ.below hW hsbl (by omega)) (by simp) (by simp; omega) (by rw [hGl]; have := HBN.out; omega) (by simp; omega) (Frm.of_below hW (Nat.le_refl _)) hW.size)
      rw [HFE.out] at HFROM
      have HBw : Hid (Below w.heap.size w wr) := HB1.out.trans (hbw.mono HB1.out.size)
      clear hU hQ hT hbw HL HT
      go_wp2_with fail
      refine (srounds_ok wr).mono ?_
      rintro e w2 ⟨rfl, hb2⟩
      go_wp2_with fail
      refine (HFROM.out w2 hb2).mono ?_
      rintro e w3 ⟨hF3, _, tv3, fv3, met3, rfl, hQ3, hm3⟩
      have HB3 : Hid (Below w.heap.size w w3) := (HBw.out.trans (hb2.mono (by omega))).trans (hF3.below (by omega) (by omega) (by omega))
      have hm4 : met3 ≤ 20000 := by rw [hGl] at hm3; have := HBN.out; omega
      obtain ⟨z0, z1, z2, z3, z4, z5, z6, _, _, _⟩ := cells7 hQ3.blk
      obtain ⟨vs3, hL3, _⟩ := hQ3.fnd
      have HL3 := hide hL3
      obtain ⟨fp, fc, rfl⟩ := owns_slice hL3.row
      have hsw := HBw.out.size
      clear hL3 hQ3 hF3 HFROM hb2 hm3 z0 z1 z2 z3 z4
      go_wp2
      go_ret2
      exact ⟨HB3.out, wr.heap.size, _, _, rfl, hsw, HL3.out⟩

end Go.Proofs.Ytfnmkbcdchnnnaa

/- Contract: truth.Prove, over what call.Rows tells. -/
namespace Go.Proofs.Ytfnmkbcdchnnnaa
open Go.RowKit

def ProvePost (L : Nat) (T : List (List Int)) (w : World) (e : Ending) (w' : World) : Prop :=
  ∃ (r t : Bool) (i j : Int), e = .returned (.tuple #[.agg #[.int .i64 L, .bool r, .bool t, .int .i64 i, .int .i64 j], .int .i64 0]) ∧ (t = true ↔ (T.take L).Nodup) ∧ r = decide (T.getD L [] = T.getD 0 []) ∧ Below w.heap.size w w'

theorem cells5 {w1 : World} {B : Nat} {a b c d e : Value} {t : TypeId} (h : w1.heap[B]? = some (.cells #[a, b, c, d, e] t)) :
    w1.cell? ⟨B, 0, none⟩ = some a ∧ w1.cell? ⟨B, 1, none⟩ = some b ∧ w1.cell? ⟨B, 2, none⟩ = some c ∧ w1.cell? ⟨B, 3, none⟩ = some d ∧ w1.cell? ⟨B, 4, none⟩ = some e ∧ w1.frozen? ⟨B, 0, none⟩ = false ∧ w1.frozen? ⟨B, 1, none⟩ = false ∧ w1.frozen? ⟨B, 2, none⟩ = false ∧ w1.frozen? ⟨B, 3, none⟩ = false ∧ w1.frozen? ⟨B, 4, none⟩ = false := by
  simp [World.cell?, World.frozen?, h]

theorem ret_row_tmp {fn : Func} {R : Ending → World → Prop} {a : Act} {w : World} {p u : Tmp} {b : Nat} {cs : Array Value} {t : Value} (h : fn.results = #[.cell p 49, .tmp u]) (hp : a.tmps.getD p undef = .pointer (some ⟨b, 0, none⟩)) (hu : a.tmps.getD u undef = t) (hg : w.heap[b]? = some (.cells cs 49)) (hz : cs.size = 5) (hd : a.defers = []) (hR : R (.returned (.tuple #[.agg cs, t])) w) : bodyPost Try.prog fn R .ret a w := by
  refine bodyPost_ret (v := .tuple #[.agg cs, t]) ?_ hd hR
  have hp' : a.tmps[p]?.getD undef = .pointer (some ⟨b, 0, none⟩) := by simpa using hp
  have hu' : a.tmps[u]?.getD undef = t := by simpa using hu
  rw [results_cell_tmp h]
  simp [hp', hu', asAddr, Result.andThen, run_loadVar_row w b 49 49 cs _ _ hg Try.underlying49 rfl (by rw [hz]; kernel_rfl)]

set_option maxRecDepth 20000 in
set_option maxHeartbeats 4000000 in
theorem prove_ok (s : ByteArray) (n : Nat) (vp : Option Addr) (k vc : Nat) (cv : Value) (lv : Value) (L : Nat) (T : List (List Int)) (w : World) (h1 : 1 ≤ n) (h12 : n ≤ 12) (hT : T.length = L + 1) (hL1 : 1 ≤ L) (hL2 : L ≤ 1000) (hTr : ∀ r, r ∈ T → Rw n r)
    (hR : ∀ W, Below w.heap.size w W → Calls Try.prog 45 #[meth s n (.slice vp k vc), cv, lv] W (RowsPost T W)) :
    Calls Try.prog 24 #[meth s n (.slice vp k vc), cv, lv] w (ProvePost L T w) := by
  have hB0 : Below w.heap.size w ((w.alloc (.cells #[.string s, .int .i64 n, .slice vp k vc] 41)).alloc (.cells #[.int .i64 0, .bool false, .bool false, .int .i64 0, .int .i64 0] 49)) := ((Below.refl _ _).alloc (Nat.le_refl _) _).alloc (by simp) _
  have HR := hide (hR _ hB0)
  have HT := hide hT
  have HTR := hide hTr
  clear hR hT hTr
  unfold meth at HR
  unfold meth
  go_enter Try.func24, Try.ntmps24
  go_wp2_with fail
  refine HR.out.mono ?_
  rintro e w1 ⟨u, vs, rfl, hL, hb1⟩
  have hB1 : Below w.heap.size w w1 := hB0.trans (hb1.mono hB0.size)
  have hblk1 : w1.heap[w.heap.size + 1]? = some (.cells #[.int .i64 0, .bool false, .bool false, .int .i64 0, .int .i64 0] 49) := (hb1.block (w.heap.size + 1) (by simp)).trans (by
    have h9 := heap_alloc_new (w.alloc (.cells #[.string s, .int .i64 n, .slice vp k vc] 41)) (.cells #[.int .i64 0, .bool false, .bool false, .int .i64 0, .int .i64 0] 49)
    rw [show (w.alloc (.cells #[.string s, .int .i64 n, .slice vp k vc] 41)).heap.size = w.heap.size + 1 from by simp] at h9
    exact h9)
  have hL' := hL.low (show w.heap.size + 2 ≤ _ by simp)
  have hvl : vs.length = L + 1 := by rw [hL.len, HT.out]
  have hr1 := hL'.row
  rw [hvl] at hr1
  obtain ⟨gu, cu, rfl, hgu1, hgu2, hcu1, hcu2⟩ := owns_form hr1 (by omega)
  have HVL := hide hvl
  have HLL := hide hL'
  have HK := hide hblk1
  have hrp := hide (fun W (hW : Below w1.heap.size w1 W) => repeated_ok n _ (T.take L) W ((hL'.front hvl (Nat.le_succ L) hL1 hgu2 hcu1 hcu2).below hW) h1 h12 (fun r hr => HTR.out r (List.mem_of_mem_take hr)) (by rw [List.length_take, HT.out]; omega) (by rw [List.length_take, HT.out]; omega))
  clear hL hb1 hL' hr1 HR hvl hblk1
  go_wp2_with fail
  refine (hrp.out w1 (Below.refl _ _)).mono ?_
  rintro e w2 ⟨i, j, t, rfl, ht, hb2⟩
  have hB2 : Below w.heap.size w w2 := hB1.trans (hb2.mono hB1.size)
  have hbs2 := hB2.size
  have hL2' := HLL.out.below hb2
  have hr2 := hL2'.row
  rw [HVL.out] at hr2
  have c0 := owns_val hr2 (show 0 < L + 1 by omega)
  have cL := owns_val hr2 (show L < L + 1 by omega)
  have i0 := Ints.own (hL2'.at (k := 0) (by rw [HT.out]; omega))
  have iL := Ints.own (hL2'.at (k := L) (by rw [HT.out]; omega))
  obtain ⟨p0, d0, e0⟩ := i0.form
  obtain ⟨pL, dL, eL⟩ := iL.form
  rw [e0] at c0 i0
  rw [eL] at cL iL
  have HEQ := hide (fun W (hW : Below w2.heap.size w2 W) => equal_any _ _ _ _ W (iL.below hW) (i0.below hW))
  have HBK := hide ((hb2.block (w.heap.size + 1) (by omega)).trans HK.out)
  have hlt1 : w.heap.size + 1 < w2.heap.size := Nat.lt_of_lt_of_le (by omega) hb2.size
  have hgu3 : gu < w2.heap.size := Nat.lt_of_lt_of_le hgu2 hb2.size
  have HTN := hide ht
  clear hL2' hr2 i0 iL e0 eL HLL HVL HK hrp ht hB0 hB1 HTR HT
  generalize hrd : decide (T.getD L [] = T.getD 0 []) = rd at *
  have HRD := hide hrd
  clear hrd
  generalize (T.getD 0 []).length = l0 at *
  generalize (T.getD L []).length = lL at *
  go_upto_region 6 with fail
  refine wp_region_held_drew (S := fun W' => W'.cell? ⟨gu, 0, none⟩ = some (.slice p0 l0 d0) ∧ W'.cell? ⟨gu, L, none⟩ = some (.slice pL lL dL)) (by kernel_rfl) ⟨c0, cL⟩ (fun hS => ?_)
  refine wpAnyH_take (i := 0) (v := .int .i64 (L : Int)) rfl (by kernel_rfl) (by kernel_rfl) (by kernel_rfl) (fun _ _ _ h => h) (Or.inl ⟨by kernel_rfl, fun w' hS' => by obtain ⟨q0, q1⟩ := hS'; go_simp⟩) hS ?_
  refine wpAnyH_take (i := 1) (v := .slice (some ⟨gu, 0, none⟩) (L + 1) cu) rfl (by kernel_rfl) (by kernel_rfl) (by kernel_rfl) (fun _ _ _ h => h) (Or.inl ⟨by kernel_rfl, fun w' hS' => by obtain ⟨q0, q1⟩ := hS'; go_simp⟩) hS ?_
  refine wpAnyH_take (i := 2) (v := .int .i64 (L : Int)) rfl (by kernel_rfl) (by kernel_rfl) (by kernel_rfl) (fun _ _ _ h => h) (Or.inl ⟨by kernel_rfl, fun w' hS' => by obtain ⟨q0, q1⟩ := hS'; go_simp⟩) hS ?_
  refine wpAnyH_take (i := 3) (v := .pointer (some ⟨gu, L, none⟩)) rfl (by kernel_rfl) (by kernel_rfl) (by kernel_rfl) (fun _ _ _ h => h) (Or.inl ⟨by kernel_rfl, fun w' hS' => by obtain ⟨q0, q1⟩ := hS'; go_simp; intro h0; exact absurd h0 (by omega)⟩) hS ?_
  refine wpAnyH_take (i := 4) (v := .slice pL lL dL) rfl (by kernel_rfl) (by kernel_rfl) (by kernel_rfl) (fun _ _ _ h => h) (Or.inl ⟨by kernel_rfl, fun w' hS' => by obtain ⟨q0, q1⟩ := hS'; go_simp⟩) hS ?_
  refine wpAnyH_take (i := 5) (v := .slice (some ⟨gu, 0, none⟩) (L + 1) cu) rfl (by kernel_rfl) (by kernel_rfl) (by kernel_rfl) (fun _ _ _ h => h) (Or.inl ⟨by kernel_rfl, fun w' hS' => by obtain ⟨q0, q1⟩ := hS'; go_simp⟩) hS ?_
  refine wpAnyH_take (i := 6) (v := .pointer (some ⟨gu, 0, none⟩)) rfl (by kernel_rfl) (by kernel_rfl) (by kernel_rfl) (fun _ _ _ h => h) (Or.inl ⟨by kernel_rfl, fun w' hS' => by obtain ⟨q0, q1⟩ := hS'; go_simp⟩) hS ?_
  refine wpAnyH_take (i := 7) (v := .slice p0 l0 d0) rfl (by kernel_rfl) (by kernel_rfl) (by kernel_rfl) (fun _ _ _ h => h) (Or.inl ⟨by kernel_rfl, fun w' hS' => by obtain ⟨q0, q1⟩ := hS'; go_simp⟩) hS ?_
  refine wpAnyH_take (i := 9) (v := .bool t) rfl (by kernel_rfl) (by kernel_rfl) (by kernel_rfl) (fun _ _ _ h => h) (Or.inl ⟨by kernel_rfl, fun w' hS' => by obtain ⟨q0, q1⟩ := hS'; go_simp⟩) hS ?_
  refine wpAnyH_take (i := 10) (v := .bool (!t)) rfl (by kernel_rfl) (by kernel_rfl) (by kernel_rfl) (fun _ _ _ h => h) (Or.inl ⟨by kernel_rfl, fun w' hS' => by obtain ⟨q0, q1⟩ := hS'; go_simp⟩) hS ?_
  refine wpAnyH_take (i := 11) (v := .int .i64 i) rfl (by kernel_rfl) (by kernel_rfl) (by kernel_rfl) (fun _ _ _ h => h) (Or.inl ⟨by kernel_rfl, fun w' hS' => by obtain ⟨q0, q1⟩ := hS'; go_simp⟩) hS ?_
  refine wpAnyH_take (i := 12) (v := .int .i64 j) rfl (by kernel_rfl) (by kernel_rfl) (by kernel_rfl) (fun _ _ _ h => h) (Or.inl ⟨by kernel_rfl, fun w' hS' => by obtain ⟨q0, q1⟩ := hS'; go_simp⟩) hS ?_
  refine wpAnyH_ready (rs := [8]) (by kernel_rfl) (by simp) ?_
  refine AllReadyH.cons rfl (fun K hK => ?_) AllReadyH.nil
  go_simp
  have hS0 := below_drewJ w2
  refine (HEQ.out w2.drew hS0).mono ?_
  rintro ex wo ⟨rfl, hbo⟩
  have hSo : Below w2.heap.size w2 wo := hS0.trans (hbo.mono hS0.size)
  have hC0 : wo.cell? ⟨gu, 0, none⟩ = some (.slice p0 l0 d0) := (hSo.cell (p := ⟨gu, 0, none⟩) hgu3).trans c0
  have hCL : wo.cell? ⟨gu, L, none⟩ = some (.slice pL lL dL) := (hSo.cell (p := ⟨gu, L, none⟩) hgu3).trans cL
  have hko := (hSo.block (w.heap.size + 1) hlt1).trans HBK.out
  have hBo : Below w.heap.size w wo := hB2.trans (hSo.mono hB2.size)
  refine hK.out _ _ ⟨hC0, hCL⟩ (fun hS => ?_)
  clear hK
  refine wpAnyH_take (i := 13) (v := .agg #[.int .i64 (L : Int), .bool rd, .bool (!t), .int .i64 i, .int .i64 j]) rfl (by kernel_rfl) (by kernel_rfl) (by kernel_rfl) (fun _ _ _ h => h) (Or.inl ⟨by kernel_rfl, fun w' hS' => by obtain ⟨q0, q1⟩ := hS'; go_simp⟩) hS ?_
  refine wpAnyH_ready (rs := [14]) (by kernel_rfl) (by simp) ?_
  refine AllReadyH.cons rfl (fun K hK => ?_) AllReadyH.nil
  obtain ⟨z0, z1, z2, z3, z4, f0, f1, f2, f3, f4⟩ := cells5 hko
  go_simp
  have HBF : Hid ((((((wo.setCell ⟨w.heap.size + 1, 0, none⟩ (.int .i64 (L : Int))).setCell ⟨w.heap.size + 1, 1, none⟩ (.bool rd)).setCell ⟨w.heap.size + 1, 2, none⟩ (.bool (!t))).setCell ⟨w.heap.size + 1, 3, none⟩ (.int .i64 i)).setCell ⟨w.heap.size + 1, 4, none⟩ (.int .i64 j)).heap[w.heap.size + 1]? = some (.cells #[.int .i64 (L : Int), .bool rd, .bool (!t), .int .i64 i, .int .i64 j] 49)) := by
    show _ = _
    simp [World.setCell, Array.getElem?_modify, hko]
  have HBZ : Hid (Below w.heap.size w (((((wo.setCell ⟨w.heap.size + 1, 0, none⟩ (.int .i64 (L : Int))).setCell ⟨w.heap.size + 1, 1, none⟩ (.bool rd)).setCell ⟨w.heap.size + 1, 2, none⟩ (.bool (!t))).setCell ⟨w.heap.size + 1, 3, none⟩ (.int .i64 i)).setCell ⟨w.heap.size + 1, 4, none⟩ (.int .i64 j))) :=
    ((((hBo.setCell (Nat.le_succ _) _).setCell (Nat.le_succ _) _).setCell (Nat.le_succ _) _).setCell (Nat.le_succ _) _).setCell (Nat.le_succ _) _
  have hne : w.heap.size + 1 ≠ gu := by omega
  have HS2 : Hid ((((((wo.setCell ⟨w.heap.size + 1, 0, none⟩ (.int .i64 (L : Int))).setCell ⟨w.heap.size + 1, 1, none⟩ (.bool rd)).setCell ⟨w.heap.size + 1, 2, none⟩ (.bool (!t))).setCell ⟨w.heap.size + 1, 3, none⟩ (.int .i64 i)).setCell ⟨w.heap.size + 1, 4, none⟩ (.int .i64 j)).heap[gu]? = wo.heap[gu]?) := by
    show _ = _
    simp [World.setCell, Array.getElem?_modify, hne]
  generalize (((((wo.setCell ⟨w.heap.size + 1, 0, none⟩ (.int .i64 (L : Int))).setCell ⟨w.heap.size + 1, 1, none⟩ (.bool rd)).setCell ⟨w.heap.size + 1, 2, none⟩ (.bool (!t))).setCell ⟨w.heap.size + 1, 3, none⟩ (.int .i64 i)).setCell ⟨w.heap.size + 1, 4, none⟩ (.int .i64 j)) = wz at *
  refine hK.out _ _ ⟨by rw [← hC0]; unfold World.cell?; simp only [HS2.out], by rw [← hCL]; unfold World.cell?; simp only [HS2.out]⟩ (fun hS => ?_)
  clear hK z0 z1 z2 z3 z4 f0 f1 f2 f3 f4
  refine wpAnyH_take (i := 15) (v := .int .i64 0) rfl (by kernel_rfl) (by kernel_rfl) (by kernel_rfl) (fun _ _ _ h => h) (Or.inl ⟨by kernel_rfl, fun w' hS' => by clear hS'; go_simp⟩) hS ?_
  refine wpAnyH_done (by kernel_rfl) ?_ _
  go_wp2
  refine ret_row_tmp (p := 6) (u := 7) rfl rfl rfl HBF.out rfl rfl ⟨rd, !t, i, j, rfl, ?_, HRD.out.symm, HBZ.out⟩
  rw [← HTN.out]
  cases t <;> decide

end Go.Proofs.Ytfnmkbcdchnnnaa

/- Contract: truth.meet. -/
namespace Go.Proofs.Ytfnmkbcdchnnnaa
open Go.RowKit Go.Maps

/-- What the map tells of a list of rows. -/
def InM (n : Nat) (X : List (List Int)) (f : List Int → Option Value) : Prop := ∀ x, Rw n x → ((f (kp x)).isSome = true ↔ x ∈ X)

theorem InM.add {n : Nat} {X : List (List Int)} {f : List Int → Option Value} (h : InM n X f) {r : List Int} (hr : Rw n r) (v : Value) : InM n (X ++ [r]) (kupd f (kp r) v) := by
  intro x hx
  unfold kupd
  rw [List.mem_append, List.mem_singleton]
  by_cases e : kp x = kp r
  · rw [if_pos e]
    have : x = r := kp_inj hx.len hr.len e
    simp [this]
  · rw [if_neg e, h x hx]
    exact ⟨Or.inl, fun h1 => h1.resolve_right (fun h2 => e (by rw [h2]))⟩

/-- No two of the first p heads and those behind are one of X apart. -/
def NoMeet (Hs X : List (List Int)) (p : Nat) : Prop := ∀ a b, a < p → a < b → b < Hs.length → by_ (un (Hs.getD a [])) (Hs.getD b []) ∉ X

theorem noMeet_all {Hs X : List (List Int)} (h : NoMeet Hs X Hs.length) : Hs.Pairwise (fun h h' => by_ (un h) h' ∉ X) := by
  rw [List.pairwise_iff_getElem]
  intro i j hi hj hij
  have := h i j hi hij hj
  simpa [List.getD, List.getElem?_eq_getElem hi, List.getElem?_eq_getElem hj] using this

theorem meet_not {Hs X : List (List Int)} {i j : Nat} (hij : i < j) (hj : j < Hs.length) (h : by_ (un (Hs.getD i [])) (Hs.getD j []) ∈ X) : ¬ Hs.Pairwise (fun h h' => by_ (un h) h' ∉ X) := by
  intro hp
  rw [List.pairwise_iff_getElem] at hp
  have := hp i j (by omega) hj hij
  refine this ?_
  simpa [List.getD, List.getElem?_eq_getElem (show i < Hs.length by omega), List.getElem?_eq_getElem hj] using h

def MeetPost (Hs X : List (List Int)) (w : World) (e : Ending) (w' : World) : Prop :=
  ∃ t : Bool, e = .returned (.bool t) ∧ (t = false ↔ Hs.Pairwise (fun h h' => by_ (un h) h' ∉ X)) ∧ Below w.heap.size w w'

end Go.Proofs.Ytfnmkbcdchnnnaa

/- Contract: truth.ByHeads, over what call.Rows tells. -/
namespace Go.Proofs.Ytfnmkbcdchnnnaa
open Go.RowKit

theorem cell_of' {w : World} {b : Nat} {x : Value} {t : TypeId} (h : w.heap[b]? = some (.cells #[x] t)) : w.cell? ⟨b, 0, none⟩ = some x := by simp [World.cell?, h]

def ByPost (n : Nat) (P Hs : List (List Int)) (w : World) (e : Ending) (w' : World) : Prop :=
  ∃ t : Bool, e = .returned (.tuple #[.bool t, .int .i64 0]) ∧ (t = true ↔ P.Nodup ∧ Hs.Nodup ∧ Hs.Pairwise (fun h h' => by_ (un h) h' ∉ hds n P)) ∧ Below w.heap.size w w'

theorem headsOf_length (T : List (List Int)) (k N : Nat) : (headsOf T k N).length = N := by simp [headsOf]

end Go.Proofs.Ytfnmkbcdchnnnaa

/- Contracts: method.Head, courseFits, method.Course, MethodOf. -/
namespace Go.Proofs.Ytfnmkbcdchnnnaa
open Go.RowKit

/-- The first rows of a course. -/
def crs (n : Nat) (ts : List (List Bool)) (c : Nat) : List (List Int) := (List.range c).map (fun i => by_ (pw (prd n ts) (i / ts.length)) (prd n (ts.take (i % ts.length))))

theorem crs_snoc (n : Nat) (ts : List (List Bool)) (a b : Nat) (hb : b < ts.length) : crs n ts (a * ts.length + b + 1) = crs n ts (a * ts.length + b) ++ [by_ (pw (prd n ts) a) (prd n (ts.take b))] := by
  unfold crs
  rw [List.range_succ, List.map_append]
  have h1 : (a * ts.length + b) / ts.length = a := by
    rw [Nat.mul_comm, Nat.mul_add_div (by omega), Nat.div_eq_of_lt hb, Nat.add_zero]
  have h2 : (a * ts.length + b) % ts.length = b := by
    rw [Nat.mul_comm, Nat.mul_add_mod, Nat.mod_eq_of_lt hb]
  simp only [List.map_cons, List.map_nil, h1, h2]

theorem crs_length (n : Nat) (ts : List (List Bool)) (c : Nat) : (crs n ts c).length = c := by simp [crs]

theorem crs_get {n c i : Nat} {ts : List (List Bool)} (h : i < c) : (crs n ts c).getD i [] = by_ (pw (prd n ts) (i / ts.length)) (prd n (ts.take (i % ts.length))) := by simp [crs, List.getD, h]

theorem pw_zero (r : List Int) : pw r 0 = rnd r.length := by unfold pw rnd; rfl

/-- What the loops of Course know. -/
structure CrsRel (w3 wr : World) (n : Nat) (ts : List (List Bool)) (a b : Nat) (f u : Value) (vs : List Value) : Prop where
  ll : LL wr w3.heap.size u vs (crs n ts (a * ts.length + b))
  row : wr.ownsRow w3.heap.size 3 1 f n ((pw (prd n ts) a).map (Value.int .i64))
  below : Below w3.heap.size w3 wr

end Go.Proofs.Ytfnmkbcdchnnnaa

/- Contract: MethodOf. -/
namespace Go.Proofs.Ytfnmkbcdchnnnaa
open Go.RowKit

theorem tried_name : nm ⟨#[84, 114, 105, 101, 100]⟩ = true := by decide +kernel

theorem cells3 {w1 : World} {B : Nat} {a b c : Value} {t : TypeId} (h : w1.heap[B]? = some (.cells #[a, b, c] t)) :
    w1.cell? ⟨B, 0, none⟩ = some a ∧ w1.cell? ⟨B, 1, none⟩ = some b ∧ w1.cell? ⟨B, 2, none⟩ = some c ∧ w1.frozen? ⟨B, 0, none⟩ = false ∧ w1.frozen? ⟨B, 1, none⟩ = false ∧ w1.frozen? ⟨B, 2, none⟩ = false := by
  simp [World.cell?, World.frozen?, h]

theorem LL.set {w : World} {base b j : Nat} {v x : Value} {vs : List Value} {xss : List (List Int)} (h : LL w base v vs xss) (hb : b < base) : LL (w.setCell ⟨b, j, none⟩ x) base v vs xss :=
  ⟨ownsRow_setCell_below h.row (by exact hb) _, h.all.mono (fun _ _ _ h' => ownsRow_setCell_below h' (by exact hb) _)⟩

set_option maxRecDepth 20000 in
set_option maxHeartbeats 2000000 in
theorem methodOf_ok (v : Value) (xs : List Int) (n m : Nat) (w : World) (h : Ints w v xs) (hx : ∀ x, x ∈ xs → I64 x) (h1 : 1 ≤ n) (h12 : n ≤ 12) (hm : m ≤ 1000) :
    Calls Try.prog 22 #[v, .int .i64 n, .int .i64 m] w fun e w' => ∃ (u : Value) (vs : List Value) (ts : List (List Bool)), e = .returned (.agg #[.string ⟨#[84, 114, 105, 101, 100]⟩, .int .i64 n, u]) ∧ ts.length = m ∧ (∀ t, t ∈ ts → tsz t = n) ∧ LL w' (w.heap.size + 1) u vs (ts.map tpl) ∧ Below w.heap.size w w' := by
  have HC := hide (fun W (hb : Below w.heap.size w W) => changesOf_ok v xs 3 n m W (h.below hb) hx (by omega) h1 h12 hm)
  clear h hx
  go_enter Try.func22, Try.ntmps22
  go_wp2_with fail
  refine (HC.out _ ((Below.refl _ _).alloc (Nat.le_refl _) _)).mono ?_
  rintro e w1 ⟨u, vs, ts, rfl, hl, hts, hL, hb1⟩
  have hblk0 := (hb1.block w.heap.size (by simp)).trans (heap_alloc_new w _)
  obtain ⟨z0, z1, z2, f0, f1, f2⟩ := cells3 (w1 := w1) (B := w.heap.size) hblk0
  obtain ⟨up, uc, rfl⟩ := owns_slice hL.row
  have HBK : Hid ((((w1.setCell ⟨w.heap.size, 0, none⟩ (.string ⟨#[84, 114, 105, 101, 100]⟩)).setCell ⟨w.heap.size, 1, none⟩ (.int .i64 n)).setCell ⟨w.heap.size, 2, none⟩ (.slice up vs.length uc)).heap[w.heap.size]? = some (.cells #[.string ⟨#[84, 114, 105, 101, 100]⟩, .int .i64 n, .slice up vs.length uc] 41)) := by
    show _ = _
    simp [World.setCell, Array.getElem?_modify, hblk0]
  clear hblk0
  have HT := hide hts
  have HL := hide hL
  have HLE := hide hl
  clear hts hL hl HC
  have hB : Below w.heap.size w w1 := ((Below.refl _ _).alloc (Nat.le_refl _) _).trans (hb1.mono (by simp))
  have HLL := hide (HL.out.low (show w.heap.size + 1 ≤ _ by simp))
  clear HL
  go_wp2
  refine bodyPost_ret (results_cell_row (p := 6) (ty := 41) rfl _ _ w.heap.size 41 _ _ _ rfl HBK.out Try.underlying41 rfl (by kernel_rfl)) rfl ?_
  exact ⟨_, vs, ts, rfl, HLE.out, HT.out, ((HLL.out.set (Nat.lt_succ_self _)).set (Nat.lt_succ_self _)).set (Nat.lt_succ_self _), ((hB.setCell (Nat.le_refl _) _).setCell (Nat.le_refl _) _).setCell (Nat.le_refl _) _⟩

end Go.Proofs.Ytfnmkbcdchnnnaa

/- The law TopTruth. -/
namespace Go.Proofs.Ytfnmkbcdchnnnaa
open Go.RowKit

theorem leadTo_rows {n k : Nat} {F : List (List Bool)} (h : ∀ t, t ∈ F → tsz t = n) : ∀ r, r ∈ leadTo n F k → Rw n r := by
  intro r hr
  obtain ⟨j, _, rfl⟩ := List.mem_map.1 hr
  have := prd_row n (F.take j) (fun t ht => h t (List.mem_of_mem_take ht))
  exact ⟨this.1, this.2⟩

theorem headsOf_rows {n k N : Nat} {F : List (List Bool)} (h : ∀ t, t ∈ F → tsz t = n) : ∀ r, r ∈ headsOf (leadTo n F (N * k)) k N → Rw n r := by
  intro r hr
  obtain ⟨i, hi, rfl⟩ := List.mem_map.1 hr
  rw [leadTo_get (Nat.mul_le_mul_right _ (Nat.le_of_lt (List.mem_range.1 hi)))]
  have := prd_row n (F.take (i * k)) (fun t ht => h t (List.mem_of_mem_take ht))
  exact ⟨this.1, this.2⟩

end Go.Proofs.Ytfnmkbcdchnnnaa

/- Contract: campaniletop.hunt. -/
namespace Go.Proofs.Ytfnmkbcdchnnnaa
open Go.RowKit

def huntS : ByteArray := ⟨#[80, 108, 97, 105, 110, 32, 72, 117, 110, 116]⟩
def huntT : List (List Bool) := [[false, false], [true, false, true]]

theorem hunt_name : nm huntS = true := by decide +kernel
theorem hunt_tsz : ∀ t, t ∈ huntT → tsz t = 4 := by decide
theorem hunt_one : (hds 4 (ldr 4 huntT)).length = 1 := by decide +kernel
theorem hunt_nodup : (ldr 4 huntT).Nodup := by decide +kernel

theorem hunt_ints (W : World) (N : Nat) (hk1 : W.heap[N + 1]? = some (.cells #[.int .i64 1, .int .i64 4] 3)) (hk2 : W.heap[N + 1 + 1]? = some (.cells #[.slice none 0 0, .slice (some ⟨N + 1, 0, none⟩) 2 2] 24)) : IntsAll W (.slice (some ⟨N + 1 + 1, 0, none⟩) 2 2) [[], [1, 4]] := by
  have l1 := (Array.getElem?_eq_some_iff.1 hk1).1
  have l2 := (Array.getElem?_eq_some_iff.1 hk2).1
  refine ⟨[.slice none 0 0, .slice (some ⟨N + 1, 0, none⟩) 2 2], Or.inr ⟨N + 1 + 1, 0, 2, rfl, by simp, by simp, by decide, l2, fun j hj => ?_⟩, rfl, fun j hj => ?_⟩
  · match j, hj with
    | 0, _ => simp [World.cell?, hk2]
    | 1, _ => simp [World.cell?, hk2]
  · match j, hj with
    | 0, _ => exact Or.inl ⟨rfl, none, 0, rfl⟩
    | 1, _ =>
      refine Or.inr ⟨N + 1, 0, 2, rfl, by decide, by decide, by decide, l1, fun i hi => ?_⟩
      match i, hi with
      | 0, _ => simp [World.cell?, hk1]
      | 1, _ => simp [World.cell?, hk1]


set_option maxRecDepth 20000 in
set_option maxHeartbeats 2000000 in
theorem hunt_ok (w : World) : Calls Try.prog 19 #[] w fun e w' => ∃ u, e = .returned (meth huntS 4 u) ∧ IntsAll w' u (huntT.map tpl) ∧ Below w.heap.size w w' := by
  go_enter Try.func19, Try.ntmps19
  go_wp2
  have hk0 : (((w.alloc (.cells #[.string huntS, .int .i64 4, .slice (some ⟨w.heap.size + 1 + 1, 0, none⟩) 2 2] 41)).alloc (.cells #[.int .i64 1, .int .i64 4] 3)).alloc (.cells #[.slice none 0 0, .slice (some ⟨w.heap.size + 1, 0, none⟩) 2 2] 24)).heap[w.heap.size]? = some (.cells #[.string huntS, .int .i64 4, .slice (some ⟨w.heap.size + 1 + 1, 0, none⟩) 2 2] 41) := by
    rw [Below.heap_alloc _ _ _ (by simp; omega), Below.heap_alloc _ _ _ (by simp)]
    exact heap_alloc_new w _
  have hk1 : (((w.alloc (.cells #[.string huntS, .int .i64 4, .slice (some ⟨w.heap.size + 1 + 1, 0, none⟩) 2 2] 41)).alloc (.cells #[.int .i64 1, .int .i64 4] 3)).alloc (.cells #[.slice none 0 0, .slice (some ⟨w.heap.size + 1, 0, none⟩) 2 2] 24)).heap[w.heap.size + 1]? = some (.cells #[.int .i64 1, .int .i64 4] 3) := by
    rw [Below.heap_alloc _ _ _ (by simp)]
    have h9 := heap_alloc_new (w.alloc (.cells #[.string huntS, .int .i64 4, .slice (some ⟨w.heap.size + 1 + 1, 0, none⟩) 2 2] 41)) (.cells #[.int .i64 1, .int .i64 4] 3)
    rwa [show (w.alloc (.cells #[.string huntS, .int .i64 4, .slice (some ⟨w.heap.size + 1 + 1, 0, none⟩) 2 2] 41)).heap.size = w.heap.size + 1 from by simp] at h9
  have hk2 : (((w.alloc (.cells #[.string huntS, .int .i64 4, .slice (some ⟨w.heap.size + 1 + 1, 0, none⟩) 2 2] 41)).alloc (.cells #[.int .i64 1, .int .i64 4] 3)).alloc (.cells #[.slice none 0 0, .slice (some ⟨w.heap.size + 1, 0, none⟩) 2 2] 24)).heap[w.heap.size + 1 + 1]? = some (.cells #[.slice none 0 0, .slice (some ⟨w.heap.size + 1, 0, none⟩) 2 2] 24) := by
    have h9 := heap_alloc_new ((w.alloc (.cells #[.string huntS, .int .i64 4, .slice (some ⟨w.heap.size + 1 + 1, 0, none⟩) 2 2] 41)).alloc (.cells #[.int .i64 1, .int .i64 4] 3)) (.cells #[.slice none 0 0, .slice (some ⟨w.heap.size + 1, 0, none⟩) 2 2] 24)
    rwa [show ((w.alloc (.cells #[.string huntS, .int .i64 4, .slice (some ⟨w.heap.size + 1 + 1, 0, none⟩) 2 2] 41)).alloc (.cells #[.int .i64 1, .int .i64 4] 3)).heap.size = w.heap.size + 1 + 1 from by simp] at h9
  have hB : Below w.heap.size w (((w.alloc (.cells #[.string huntS, .int .i64 4, .slice (some ⟨w.heap.size + 1 + 1, 0, none⟩) 2 2] 41)).alloc (.cells #[.int .i64 1, .int .i64 4] 3)).alloc (.cells #[.slice none 0 0, .slice (some ⟨w.heap.size + 1, 0, none⟩) 2 2] 24)) := (((Below.refl _ _).alloc (Nat.le_refl _) _).alloc (by simp) _).alloc (by simp; omega) _
  refine bodyPost_ret (results_cell_row (p := 0) (ty := 41) rfl _ _ w.heap.size 41 _ _ _ rfl hk0 Try.underlying41 rfl (by kernel_rfl)) rfl ?_
  refine ⟨_, rfl, ?_, hB⟩
  rw [show huntT.map tpl = [[], [1, 4]] from by decide]
  exact hunt_ints _ _ hk1 hk2

end Go.Proofs.Ytfnmkbcdchnnnaa
