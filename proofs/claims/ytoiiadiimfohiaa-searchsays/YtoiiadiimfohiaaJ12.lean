/- Joined: SaO, TtL, Course, MethOf, LdR, Hnt, SaQ, Mat. -/
import Derived.Test.YtoiiadiimfohiaaJ11
import Derived.Test.YtoiiadiimfohiaaJ8
import Derived.Test.YtoiiadiimfohiaaJ9
import Derived.Laws.ResultCell
import Derived.Test.YtoiiadiimfohiaaJ10
import Derived.Test.YtoiiadiimfohiaaJ3
import Derived.Deep.Matrix
import Derived.OpenShut
/- Contract: search's Touches. -/
namespace Go.Proofs.Ytoiiadiimfohiaa
open Go.RowKit

def TouchPost (F : List (List Nat)) (w : World) (e : Ending) (w' : World) : Prop :=
  Below w.heap.size w w' ∧ ∃ base fv vs, e = .returned (.tuple #[fv, .int .i64 0]) ∧ w.heap.size ≤ base ∧ LL w' base fv vs (F.map nI)

/-- The leads by each call. -/
noncomputable def byG (Ts : Nat → List (List Int)) (K N : Nat) : List (List Pm × Pm) := (List.range N).map (fun c => (((Ts c).take K).map pad, pad ((Ts c).getD K [])))

set_option maxRecDepth 20000 in
set_option maxHeartbeats 8000000 in
theorem touches_ok (s : ByteArray) (n : Nat) (vp : Option Addr) (K vc : Nat) (cp : Option Addr) (N cc : Nat) (leads many : Nat) (Ts : Nat → List (List Int)) (w : World) (h1 : 1 ≤ n) (h12 : n ≤ 12) (hK1 : 1 ≤ K) (hK2 : K ≤ 1000) (hN1 : 1 ≤ N) (hN2 : N ≤ 8)
    (hl1 : 1 ≤ leads) (hl2 : leads ≤ 24) (hm1 : 1 ≤ many) (hm2 : many ≤ 50) (hbn : bnd N leads ≤ 20000)
    (hT : ∀ c, c < N → (Ts c).length = K + 1 ∧ ∀ r, r ∈ Ts c → Rw n r)
    (hC : ∀ W, Below w.heap.size w W → Calls Try.prog 46 #[meth s n (.slice vp K vc), .slice cp N cc] W (fun e w' => e = .returned (.int .i64 0) ∧ Below W.heap.size W w'))
    (hR : ∀ c, c < N → ∀ W lv, Below w.heap.size w W → Ints W lv [(c : Int)] → Calls Try.prog 25 #[meth s n (.slice vp K vc), .slice cp N cc, lv] W (RowsPost (Ts c) W)) :
    Calls Try.prog 22 #[meth s n (.slice vp K vc), .slice cp N cc, .int .i64 leads, .int .i64 many] w (TouchPost (fnd many [] [] (sols (byG Ts K N) leads [] 1)) w) := by
  generalize hFE : fnd many [] [] (sols (byG Ts K N) leads [] 1) = FF
  have HFE := hide hFE
  have hmm := @run_makeMap Try.prog
  have HL := hide (fun c (hc : c < N) W (hW : Below w.heap.size w W) => leadBy_ok s n vp K vc (.slice cp N cc) c (Ts c) W h1 h12 hK1 hK2 (hT c hc).1 (hT c hc).2 (fun W' lv hW' => hR c hc W' lv (hW.trans (hW'.mono hW.size))))
  have HT := hide hT
  have HC := hide hC
  have HBN := hide hbn
  clear hT hC hR hbn hFE
  unfold meth at HL HC ⊢
  go_enter Try.func22, Try.ntmps22
  go_wp2_with fail
  refine (HC.out _ ((Below.refl _ _).alloc (Nat.le_refl _) _)).mono ?_
  rintro e w1 ⟨rfl, hb1⟩
  have hbx1 := (Box.start w s n (.slice vp K vc) 24).below hb1
  have hB1 : Below w.heap.size w w1 := ((Below.refl _ _).alloc (Nat.le_refl _) _).trans (hb1.mono (by simp))
  have hs1 : w.heap.size < w1.heap.size := hbx1.lt
  have HBX := hide hbx1
  have HB1 := hide hB1
  clear hb1 hbx1 hB1 HC
  go_upto_region 7 with fail
  have HBA : Hid (Below w1.heap.size w1 ((w1.alloc (.map #[] 0)).alloc (.cells #[.int .i64 leads, .int .i64 many, .slice none 0 0, .map (some w1.heap.size), .slice none 0 0, .int .i64 0, .slice none 0 0] 81))) := ((Below.refl _ _).alloc (Nat.le_refl _) _).alloc (by simp) _
  have HK0 : Hid (((w1.alloc (.map #[] 0)).alloc (.cells #[.int .i64 leads, .int .i64 many, .slice none 0 0, .map (some w1.heap.size), .slice none 0 0, .int .i64 0, .slice none 0 0] 81)).heap[w1.heap.size + 1]? = some (.cells #[.int .i64 leads, .int .i64 many, .slice none 0 0, .map (some w1.heap.size), .slice none 0 0, .int .i64 0, .slice none 0 0] 81)) := by
    show _ = _
    have h9 := heap_alloc_new (w1.alloc (.map #[] 0)) (.cells #[.int .i64 leads, .int .i64 many, .slice none 0 0, .map (some w1.heap.size), .slice none 0 0, .int .i64 0, .slice none 0 0] 81)
    rw [show (w1.alloc (.map #[] 0)).heap.size = w1.heap.size + 1 from by simp] at h9
    exact h9
  have HPS : Hid (PSet ((w1.alloc (.map #[] 0)).alloc (.cells #[.int .i64 leads, .int .i64 many, .slice none 0 0, .map (some w1.heap.size), .slice none 0 0, .int .i64 0, .slice none 0 0] 81)) w1.heap.size []) := (PSet.made w1).of_block (Below.heap_alloc _ _ _ (by simp))
  clear hmm
  generalize (w1.alloc (.map #[] 0)).alloc (.cells #[.int .i64 leads, .int .i64 many, .slice none 0 0, .map (some w1.heap.size), .slice none 0 0, .int .i64 0, .slice none 0 0] 81) = wa at *
  go_wp2
  go_loopw [39] (fun i wr => ∃ (k : Nat) (tp : Option Addr) (tc : Nat) (L : List (Value × Pm)), k ≤ N ∧ i = .int .i64 k ∧ Hid (TRel w1 wr leads many K Ts k tp tc L)) (fun i _ => N - (intOf i).toNat)
  case atStart => exact ⟨0, none, 0, [], by omega, rfl, ⟨HK0.out, HPS.out, rfl, World.ownsRow_nil _ _ _ _, fun c hc => by simp at hc, fun p hp => by simp at hp, HBA.out⟩⟩
  case round =>
    clear HK0 HPS HBA
    obtain ⟨k, tp, tc, L, hk, rfl, hT⟩ := hrel
    have hsbl : w1.heap.size + 1 < wr.heap.size := hT.out.lt
    have hbw := hT.out.below
    by_cases hlt : k < N
    · have hBw : Below w.heap.size w wr := HB1.out.trans (hbw.mono HB1.out.size)
      have hbx := HBX.out.below hbw
      have q0 := hbx.c0
      have q1 := hbx.c1
      have q2 := hbx.c2
      obtain ⟨_, _, z2, _, _, _, _, _, _, _⟩ := cells7 hT.out.blk
      have hk1000 : k ≤ 1000 := by omega
      have HLD := hide (fun W (hW : Below wr.heap.size wr W) => HL.out k hlt W (hBw.trans (hW.mono hBw.size)))
      have hd0 : Below wr.heap.size wr wr.drew := (Below.refl _ _).drew
      clear hbx HL HBX HB1 hbw hBw
      generalize hpr : pad ((Ts k).getD K []) = pr at HLD
      generalize hrx : ((Ts k).take K).map pad = RX at HLD
      have HPR := hide hpr
      have HRX := hide hrx
      clear hpr hrx
      go_upto_region 10 with fail
      refine wp_region_held_drew (S := fun _ => True) (by kernel_rfl) trivial (fun _ => ?_)
      refine wpAnyH_take (i := 0) (v := .pointer (some ⟨w1.heap.size + 1, 2, none⟩)) rfl (by kernel_rfl) (by kernel_rfl) (by kernel_rfl) (fun _ _ _ h => h) (Or.inl ⟨by kernel_rfl, fun w' _ => by go_simp⟩) trivial ?_
      refine wpAnyH_take (i := 3) (v := .slice cp N cc) rfl (by kernel_rfl) (by kernel_rfl) (by kernel_rfl) (fun _ _ _ h => h) (Or.inl ⟨by kernel_rfl, fun w' _ => by go_simp⟩) trivial ?_
      refine wpAnyH_take (i := 4) (v := .int .i64 k) rfl (by kernel_rfl) (by kernel_rfl) (by kernel_rfl) (fun _ _ _ h => h) (Or.inl ⟨by kernel_rfl, fun w' _ => by go_simp⟩) trivial ?_
      refine wpAnyH_ready (rs := [1, 2]) (by kernel_rfl) (by simp) ?_
      refine AllReadyH.cons rfl (fun K hK => ?_) (AllReadyH.cons rfl (fun K hK => ?_) (AllReadyH.nil))
      · go_simp
        refine hK.out _ _ trivial (fun _ => ?_)
        clear hK
        refine wpAnyH_ready (rs := [2]) (by kernel_rfl) (by simp) ?_
        refine AllReadyH.cons rfl (fun K hK => ?_) (AllReadyH.nil)
        go_simp
        refine hK.out _ _ trivial (fun _ => ?_)
        clear hK
        refine wpAnyH_ready (rs := [5]) (by kernel_rfl) (by simp) ?_
        refine AllReadyH.cons rfl (fun K hK => ?_) (AllReadyH.nil)
        go_simp
        refine (HLD.out wr.drew hd0).mono ?_
        rintro ex wo ⟨rv, rfl, hpm, hone, hob, hbo⟩
        obtain ⟨lp, lm, lc, rfl⟩ := hpm.slice
        have hBo : Below wr.heap.size wr wo := hd0.trans (hbo.mono hd0.size)
        have x0 : wo.cell? ⟨w1.heap.size + 1, 2, none⟩ = some (.slice tp k tc) := (hBo.cell (p := ⟨w1.heap.size + 1, 2, none⟩) (by exact hsbl)).trans z2
        have x0a : (wo.alloc (lobj (.slice lp lm lc) pr)).cell? ⟨w1.heap.size + 1, 2, none⟩ = some (.slice tp k tc) := (((Below.refl wo.heap.size wo).alloc (Nat.le_refl _) _).cell (p := ⟨w1.heap.size + 1, 2, none⟩) (by have := hBo.size; show w1.heap.size + 1 < wo.heap.size; omega)).trans x0
        refine hK.out _ _ trivial (fun _ => ?_)
        clear hK
        refine wpAnyH_ready (rs := [6]) (by kernel_rfl) (by simp) ?_
        refine AllReadyH.cons rfl (fun K hK => ?_) (AllReadyH.nil)
        refine lstep_build rfl _ rfl lp lm lc pr rfl ?_
        refine hK.out _ _ trivial (fun _ => ?_)
        clear hK
        refine wpAnyH_ready (rs := [7]) (by kernel_rfl) (by simp) ?_
        refine AllReadyH.cons rfl (fun K hK => ?_) (AllReadyH.nil)
        have hown1 : wo.ownsRow (w1.heap.size + 1 + 1) 87 13 (.slice tp k tc) k (flatL L) := by
          obtain ⟨e1, e2⟩ := hT.out.own
          refine ⟨e1, ?_⟩
          rcases e2 with e2 | ⟨g, cap, cur, ev, eg, eh, er⟩
          · exact Or.inl e2
          · exact Or.inr ⟨g, cap, cur, ev, eg, (hBo.block g (Array.getElem?_eq_some_iff.1 eh).1).trans eh, er⟩
        have hso := hBo.size
        have hbs9 : w1.heap.size + 1 + 1 ≤ (wo.alloc (lobj (.slice lp lm lc) pr)).heap.size := by simp; omega
        refine lstep_append rfl (.tmp 43) (.tmp 48) rfl (w1.heap.size + 1 + 1) tp k tc L rfl (hown1.alloc _) wo.heap.size lp lm lc pr rfl (heap_alloc_new wo _) hk1000 hbs9 ?_
        intro p4 c4 w4 hown4 hgrow
        refine hK.out _ _ trivial (fun _ => ?_)
        clear hK
        refine wpAnyH_take (i := 8) (v := .pointer (some ⟨w1.heap.size + 1, 2, none⟩)) rfl (by kernel_rfl) (by kernel_rfl) (by kernel_rfl) (fun _ _ _ h => h) (Or.inl ⟨by kernel_rfl, fun w' _ => by go_simp⟩) trivial ?_
        refine wpAnyH_ready (rs := [9]) (by kernel_rfl) (by simp) ?_
        refine AllReadyH.cons rfl (fun K hK => ?_) (AllReadyH.nil)
        have hT5 := hide (hT.out.next (lp := lp) (lm := lm) (lc := lc) (p4 := p4) (c4 := c4) hBo (by rw [HRX.out]; exact hpm) hob (by rw [HPR.out]; exact hown4) (by rw [HPR.out]; exact hgrow))
        have hk4 : w4.heap[w1.heap.size + 1]? = wr.heap[w1.heap.size + 1]? := ((hgrow.block (w1.heap.size + 1) (by simp; omega) (fun e => by have := (hown1.alloc (lobj (.slice lp lm lc) pr)).lt _ e.symm; omega)).trans (Below.heap_alloc _ _ _ (by omega))).trans (hBo.block _ hsbl)
        have y2 : w4.cell? ⟨w1.heap.size + 1, 2, none⟩ = some (.slice tp k tc) := (World.cell?_of_block (w := wr) (a := ⟨w1.heap.size + 1, 2, none⟩) hk4).trans z2
        have f2 : w4.frozen? ⟨w1.heap.size + 1, 2, none⟩ = false := by have h9 := hk4.trans hT.out.blk; simp [World.frozen?, h9]
        refine lstep_store rfl (.tmp 50) (.tmp 49) rfl ⟨w1.heap.size + 1, 2, none⟩ p4 (k + 1) c4 rfl rfl (.slice tp k tc) y2 f2 ?_
        rw [HPR.out] at hT5
        clear hown1 hso hbs9 hown4 hgrow hk4 y2 f2 hpm hone hob hbo hBo x0 x0a hT z2
        generalize w4.setCell ⟨w1.heap.size + 1, 2, none⟩ (.slice p4 (k + 1) c4) = w5 at *
        refine hK.out _ _ trivial (fun _ => ?_)
        clear hK
        refine wpAnyH_done (by kernel_rfl) ?_ _
        go_wp2
        go_roundw
        case rel => exact ⟨k + 1, p4, c4, _, by omega, by go_num, hT5⟩
        case measure => simp [intOf]; omega
      · go_simp
        refine hK.out _ _ trivial (fun _ => ?_)
        clear hK
        refine wpAnyH_ready (rs := [1, 5]) (by kernel_rfl) (by simp) ?_
        refine AllReadyH.cons rfl (fun K hK => ?_) (AllReadyH.cons rfl (fun K hK => ?_) (AllReadyH.nil))
        · go_simp
          refine hK.out _ _ trivial (fun _ => ?_)
          clear hK
          refine wpAnyH_ready (rs := [5]) (by kernel_rfl) (by simp) ?_
          refine AllReadyH.cons rfl (fun K hK => ?_) (AllReadyH.nil)
          go_simp
          refine (HLD.out wr.drew hd0).mono ?_
          rintro ex wo ⟨rv, rfl, hpm, hone, hob, hbo⟩
          obtain ⟨lp, lm, lc, rfl⟩ := hpm.slice
          have hBo : Below wr.heap.size wr wo := hd0.trans (hbo.mono hd0.size)
          have x0 : wo.cell? ⟨w1.heap.size + 1, 2, none⟩ = some (.slice tp k tc) := (hBo.cell (p := ⟨w1.heap.size + 1, 2, none⟩) (by exact hsbl)).trans z2
          have x0a : (wo.alloc (lobj (.slice lp lm lc) pr)).cell? ⟨w1.heap.size + 1, 2, none⟩ = some (.slice tp k tc) := (((Below.refl wo.heap.size wo).alloc (Nat.le_refl _) _).cell (p := ⟨w1.heap.size + 1, 2, none⟩) (by have := hBo.size; show w1.heap.size + 1 < wo.heap.size; omega)).trans x0
          refine hK.out _ _ trivial (fun _ => ?_)
          clear hK
          refine wpAnyH_ready (rs := [6]) (by kernel_rfl) (by simp) ?_
          refine AllReadyH.cons rfl (fun K hK => ?_) (AllReadyH.nil)
          refine lstep_build rfl _ rfl lp lm lc pr rfl ?_
          refine hK.out _ _ trivial (fun _ => ?_)
          clear hK
          refine wpAnyH_ready (rs := [7]) (by kernel_rfl) (by simp) ?_
          refine AllReadyH.cons rfl (fun K hK => ?_) (AllReadyH.nil)
          have hown1 : wo.ownsRow (w1.heap.size + 1 + 1) 87 13 (.slice tp k tc) k (flatL L) := by
            obtain ⟨e1, e2⟩ := hT.out.own
            refine ⟨e1, ?_⟩
            rcases e2 with e2 | ⟨g, cap, cur, ev, eg, eh, er⟩
            · exact Or.inl e2
            · exact Or.inr ⟨g, cap, cur, ev, eg, (hBo.block g (Array.getElem?_eq_some_iff.1 eh).1).trans eh, er⟩
          have hso := hBo.size
          have hbs9 : w1.heap.size + 1 + 1 ≤ (wo.alloc (lobj (.slice lp lm lc) pr)).heap.size := by simp; omega
          refine lstep_append rfl (.tmp 43) (.tmp 48) rfl (w1.heap.size + 1 + 1) tp k tc L rfl (hown1.alloc _) wo.heap.size lp lm lc pr rfl (heap_alloc_new wo _) hk1000 hbs9 ?_
          intro p4 c4 w4 hown4 hgrow
          refine hK.out _ _ trivial (fun _ => ?_)
          clear hK
          refine wpAnyH_take (i := 8) (v := .pointer (some ⟨w1.heap.size + 1, 2, none⟩)) rfl (by kernel_rfl) (by kernel_rfl) (by kernel_rfl) (fun _ _ _ h => h) (Or.inl ⟨by kernel_rfl, fun w' _ => by go_simp⟩) trivial ?_
          refine wpAnyH_ready (rs := [9]) (by kernel_rfl) (by simp) ?_
          refine AllReadyH.cons rfl (fun K hK => ?_) (AllReadyH.nil)
          have hT5 := hide (hT.out.next (lp := lp) (lm := lm) (lc := lc) (p4 := p4) (c4 := c4) hBo (by rw [HRX.out]; exact hpm) hob (by rw [HPR.out]; exact hown4) (by rw [HPR.out]; exact hgrow))
          have hk4 : w4.heap[w1.heap.size + 1]? = wr.heap[w1.heap.size + 1]? := ((hgrow.block (w1.heap.size + 1) (by simp; omega) (fun e => by have := (hown1.alloc (lobj (.slice lp lm lc) pr)).lt _ e.symm; omega)).trans (Below.heap_alloc _ _ _ (by omega))).trans (hBo.block _ hsbl)
          have y2 : w4.cell? ⟨w1.heap.size + 1, 2, none⟩ = some (.slice tp k tc) := (World.cell?_of_block (w := wr) (a := ⟨w1.heap.size + 1, 2, none⟩) hk4).trans z2
          have f2 : w4.frozen? ⟨w1.heap.size + 1, 2, none⟩ = false := by have h9 := hk4.trans hT.out.blk; simp [World.frozen?, h9]
          refine lstep_store rfl (.tmp 50) (.tmp 49) rfl ⟨w1.heap.size + 1, 2, none⟩ p4 (k + 1) c4 rfl rfl (.slice tp k tc) y2 f2 ?_
          rw [HPR.out] at hT5
          clear hown1 hso hbs9 hown4 hgrow hk4 y2 f2 hpm hone hob hbo hBo x0 x0a hT z2
          generalize w4.setCell ⟨w1.heap.size + 1, 2, none⟩ (.slice p4 (k + 1) c4) = w5 at *
          refine hK.out _ _ trivial (fun _ => ?_)
          clear hK
          refine wpAnyH_done (by kernel_rfl) ?_ _
          go_wp2
          go_roundw
          case rel => exact ⟨k + 1, p4, c4, _, by omega, by go_num, hT5⟩
          case measure => simp [intOf]; omega
        · go_simp
          refine (HLD.out wr.drew hd0).mono ?_
          rintro ex wo ⟨rv, rfl, hpm, hone, hob, hbo⟩
          obtain ⟨lp, lm, lc, rfl⟩ := hpm.slice
          have hBo : Below wr.heap.size wr wo := hd0.trans (hbo.mono hd0.size)
          have x0 : wo.cell? ⟨w1.heap.size + 1, 2, none⟩ = some (.slice tp k tc) := (hBo.cell (p := ⟨w1.heap.size + 1, 2, none⟩) (by exact hsbl)).trans z2
          have x0a : (wo.alloc (lobj (.slice lp lm lc) pr)).cell? ⟨w1.heap.size + 1, 2, none⟩ = some (.slice tp k tc) := (((Below.refl wo.heap.size wo).alloc (Nat.le_refl _) _).cell (p := ⟨w1.heap.size + 1, 2, none⟩) (by have := hBo.size; show w1.heap.size + 1 < wo.heap.size; omega)).trans x0
          refine hK.out _ _ trivial (fun _ => ?_)
          clear hK
          refine wpAnyH_ready (rs := [1, 6]) (by kernel_rfl) (by simp) ?_
          refine AllReadyH.cons rfl (fun K hK => ?_) (AllReadyH.cons rfl (fun K hK => ?_) (AllReadyH.nil))
          · go_simp
            refine hK.out _ _ trivial (fun _ => ?_)
            clear hK
            refine wpAnyH_ready (rs := [6]) (by kernel_rfl) (by simp) ?_
            refine AllReadyH.cons rfl (fun K hK => ?_) (AllReadyH.nil)
            refine lstep_build rfl _ rfl lp lm lc pr rfl ?_
            refine hK.out _ _ trivial (fun _ => ?_)
            clear hK
            refine wpAnyH_ready (rs := [7]) (by kernel_rfl) (by simp) ?_
            refine AllReadyH.cons rfl (fun K hK => ?_) (AllReadyH.nil)
            have hown1 : wo.ownsRow (w1.heap.size + 1 + 1) 87 13 (.slice tp k tc) k (flatL L) := by
              obtain ⟨e1, e2⟩ := hT.out.own
              refine ⟨e1, ?_⟩
              rcases e2 with e2 | ⟨g, cap, cur, ev, eg, eh, er⟩
              · exact Or.inl e2
              · exact Or.inr ⟨g, cap, cur, ev, eg, (hBo.block g (Array.getElem?_eq_some_iff.1 eh).1).trans eh, er⟩
            have hso := hBo.size
            have hbs9 : w1.heap.size + 1 + 1 ≤ (wo.alloc (lobj (.slice lp lm lc) pr)).heap.size := by simp; omega
            refine lstep_append rfl (.tmp 43) (.tmp 48) rfl (w1.heap.size + 1 + 1) tp k tc L rfl (hown1.alloc _) wo.heap.size lp lm lc pr rfl (heap_alloc_new wo _) hk1000 hbs9 ?_
            intro p4 c4 w4 hown4 hgrow
            refine hK.out _ _ trivial (fun _ => ?_)
            clear hK
            refine wpAnyH_take (i := 8) (v := .pointer (some ⟨w1.heap.size + 1, 2, none⟩)) rfl (by kernel_rfl) (by kernel_rfl) (by kernel_rfl) (fun _ _ _ h => h) (Or.inl ⟨by kernel_rfl, fun w' _ => by go_simp⟩) trivial ?_
            refine wpAnyH_ready (rs := [9]) (by kernel_rfl) (by simp) ?_
            refine AllReadyH.cons rfl (fun K hK => ?_) (AllReadyH.nil)
            have hT5 := hide (hT.out.next (lp := lp) (lm := lm) (lc := lc) (p4 := p4) (c4 := c4) hBo (by rw [HRX.out]; exact hpm) hob (by rw [HPR.out]; exact hown4) (by rw [HPR.out]; exact hgrow))
            have hk4 : w4.heap[w1.heap.size + 1]? = wr.heap[w1.heap.size + 1]? := ((hgrow.block (w1.heap.size + 1) (by simp; omega) (fun e => by have := (hown1.alloc (lobj (.slice lp lm lc) pr)).lt _ e.symm; omega)).trans (Below.heap_alloc _ _ _ (by omega))).trans (hBo.block _ hsbl)
            have y2 : w4.cell? ⟨w1.heap.size + 1, 2, none⟩ = some (.slice tp k tc) := (World.cell?_of_block (w := wr) (a := ⟨w1.heap.size + 1, 2, none⟩) hk4).trans z2
            have f2 : w4.frozen? ⟨w1.heap.size + 1, 2, none⟩ = false := by have h9 := hk4.trans hT.out.blk; simp [World.frozen?, h9]
            refine lstep_store rfl (.tmp 50) (.tmp 49) rfl ⟨w1.heap.size + 1, 2, none⟩ p4 (k + 1) c4 rfl rfl (.slice tp k tc) y2 f2 ?_
            rw [HPR.out] at hT5
            clear hown1 hso hbs9 hown4 hgrow hk4 y2 f2 hpm hone hob hbo hBo x0 x0a hT z2
            generalize w4.setCell ⟨w1.heap.size + 1, 2, none⟩ (.slice p4 (k + 1) c4) = w5 at *
            refine hK.out _ _ trivial (fun _ => ?_)
            clear hK
            refine wpAnyH_done (by kernel_rfl) ?_ _
            go_wp2
            go_roundw
            case rel => exact ⟨k + 1, p4, c4, _, by omega, by go_num, hT5⟩
            case measure => simp [intOf]; omega
          · refine lstep_build rfl _ rfl lp lm lc pr rfl ?_
            refine hK.out _ _ trivial (fun _ => ?_)
            clear hK
            refine wpAnyH_ready (rs := [1]) (by kernel_rfl) (by simp) ?_
            refine AllReadyH.cons rfl (fun K hK => ?_) (AllReadyH.nil)
            go_simp
            refine hK.out _ _ trivial (fun _ => ?_)
            clear hK
            refine wpAnyH_ready (rs := [7]) (by kernel_rfl) (by simp) ?_
            refine AllReadyH.cons rfl (fun K hK => ?_) (AllReadyH.nil)
            have hown1 : wo.ownsRow (w1.heap.size + 1 + 1) 87 13 (.slice tp k tc) k (flatL L) := by
              obtain ⟨e1, e2⟩ := hT.out.own
              refine ⟨e1, ?_⟩
              rcases e2 with e2 | ⟨g, cap, cur, ev, eg, eh, er⟩
              · exact Or.inl e2
              · exact Or.inr ⟨g, cap, cur, ev, eg, (hBo.block g (Array.getElem?_eq_some_iff.1 eh).1).trans eh, er⟩
            have hso := hBo.size
            have hbs9 : w1.heap.size + 1 + 1 ≤ (wo.alloc (lobj (.slice lp lm lc) pr)).heap.size := by simp; omega
            refine lstep_append rfl (.tmp 43) (.tmp 48) rfl (w1.heap.size + 1 + 1) tp k tc L rfl (hown1.alloc _) wo.heap.size lp lm lc pr rfl (heap_alloc_new wo _) hk1000 hbs9 ?_
            intro p4 c4 w4 hown4 hgrow
            refine hK.out _ _ trivial (fun _ => ?_)
            clear hK
            refine wpAnyH_take (i := 8) (v := .pointer (some ⟨w1.heap.size + 1, 2, none⟩)) rfl (by kernel_rfl) (by kernel_rfl) (by kernel_rfl) (fun _ _ _ h => h) (Or.inl ⟨by kernel_rfl, fun w' _ => by go_simp⟩) trivial ?_
            refine wpAnyH_ready (rs := [9]) (by kernel_rfl) (by simp) ?_
            refine AllReadyH.cons rfl (fun K hK => ?_) (AllReadyH.nil)
            have hT5 := hide (hT.out.next (lp := lp) (lm := lm) (lc := lc) (p4 := p4) (c4 := c4) hBo (by rw [HRX.out]; exact hpm) hob (by rw [HPR.out]; exact hown4) (by rw [HPR.out]; exact hgrow))
            have hk4 : w4.heap[w1.heap.size + 1]? = wr.heap[w1.heap.size + 1]? := ((hgrow.block (w1.heap.size + 1) (by simp; omega) (fun e => by have := (hown1.alloc (lobj (.slice lp lm lc) pr)).lt _ e.symm; omega)).trans (Below.heap_alloc _ _ _ (by omega))).trans (hBo.block _ hsbl)
            have y2 : w4.cell? ⟨w1.heap.size + 1, 2, none⟩ = some (.slice tp k tc) := (World.cell?_of_block (w := wr) (a := ⟨w1.heap.size + 1, 2, none⟩) hk4).trans z2
            have f2 : w4.frozen? ⟨w1.heap.size + 1, 2, none⟩ = false := by have h9 := hk4.trans hT.out.blk; simp [World.frozen?, h9]
            refine lstep_store rfl (.tmp 50) (.tmp 49) rfl ⟨w1.heap.size + 1, 2, none⟩ p4 (k + 1) c4 rfl rfl (.slice tp k tc) y2 f2 ?_
            rw [HPR.out] at hT5
            clear hown1 hso hbs9 hown4 hgrow hk4 y2 f2 hpm hone hob hbo hBo x0 x0a hT z2
            generalize w4.setCell ⟨w1.heap.size + 1, 2, none⟩ (.slice p4 (k + 1) c4) = w5 at *
            refine hK.out _ _ trivial (fun _ => ?_)
            clear hK
            refine wpAnyH_done (by kernel_rfl) ?_ _
            go_wp2
            go_roundw
            case rel => exact ⟨k + 1, p4, c4, _, by omega, by go_num, hT5⟩
            case measure => simp [intOf]; omega
    · obtain rfl : k = N := by omega
      have hGl : (byG Ts K k).length = k := by simp [byG]
      have hU : Und7 (byG Ts K k) wr.heap.size (w1.heap.size + 1) w1.heap.size leads many (.slice tp k tc) wr := by
        refine ⟨hsbl, by omega, by omega, hm2, hl2, by omega, fun c hc => ?_, ?_⟩
        · have h9 := (HT.out c (by omega)).1
          simp only [byG, List.getElem_map, List.getElem_range, List.length_map, List.length_take]
          omega
        · have ho := hT.out.own
          have hLk' := hT.out.len
          refine leads_mem (base := w1.heap.size + 1 + 1) (L := L) (by rw [hLk']; exact ho) (by rw [hLk', hGl]) (by omega) (fun c hc => ?_) (fun p hp g hg => (hT.out.obl p hp g hg).1) (Nat.le_refl _) (by omega) (by omega)
          have h9 := hT.out.pms c (by omega)
          simp only [byG, List.getElem_map, List.getElem_range]
          exact h9
      have hQ : Qs wr wr.heap.size (w1.heap.size + 1) w1.heap.size leads many (.slice tp k tc) (.slice none 0 0) (.slice none 0 0) 0 [] [] [] := ⟨hT.out.blk, hT.out.set, World.ownsRow_nil _ _ _ _, [], LL.nil _ _, fun u hu => by simp at hu⟩
      have HFROM := hide (fun W (hW : Below wr.heap.size wr W) => from_all hU leads 1 [] [] [] 0 _ _ W (hQ.below hW hsbl (by omega)) (by simp) (by simp; omega) (by rw [hGl]; have := HBN.out; omega) (by simp; omega) (Frm.of_below hW (Nat.le_refl _)) hW.size)
      rw [HFE.out] at HFROM
      have HBw : Hid (Below w.heap.size w wr) := HB1.out.trans (hbw.mono HB1.out.size)
      clear hU hQ hT hbw HL HT
      go_wp2_with fail
      refine (srounds_ok wr).mono ?_
      rintro e w2 ⟨rfl, hb2⟩
      go_wp2_with fail
      refine (HFROM.out w2 hb2).mono ?_
      rintro e w3 ⟨hF3, _, tv3, fv3, met3, rfl, hQ3, hm3⟩
      have HB3 : Hid (Below w.heap.size w w3) := (HBw.out.trans (hb2.mono (by omega))).trans (hF3.below (by omega) (by omega) (by omega))
      have hm4 : met3 ≤ 20000 := by rw [hGl] at hm3; have := HBN.out; omega
      obtain ⟨z0, z1, z2, z3, z4, z5, z6, _, _, _⟩ := cells7 hQ3.blk
      obtain ⟨vs3, hL3, _⟩ := hQ3.fnd
      have HL3 := hide hL3
      obtain ⟨fp, fc, rfl⟩ := owns_slice hL3.row
      have hsw := HBw.out.size
      clear hL3 hQ3 hF3 HFROM hb2 hm3 z0 z1 z2 z3 z4
      go_wp2
      go_ret2
      exact ⟨HB3.out, wr.heap.size, _, _, rfl, hsw, HL3.out⟩

end Go.Proofs.Ytoiiadiimfohiaa

/- Contract: truth.Prove, over what call.Rows tells. -/
namespace Go.Proofs.Ytoiiadiimfohiaa
open Go.RowKit

def ProvePost (L : Nat) (T : List (List Int)) (w : World) (e : Ending) (w' : World) : Prop :=
  ∃ (r t : Bool) (i j : Int), e = .returned (.tuple #[.agg #[.int .i64 L, .bool r, .bool t, .int .i64 i, .int .i64 j], .int .i64 0]) ∧ (t = true ↔ (T.take L).Nodup) ∧ r = decide (T.getD L [] = T.getD 0 []) ∧ Below w.heap.size w w'

theorem cells5 {w1 : World} {B : Nat} {a b c d e : Value} {t : TypeId} (h : w1.heap[B]? = some (.cells #[a, b, c, d, e] t)) :
    w1.cell? ⟨B, 0, none⟩ = some a ∧ w1.cell? ⟨B, 1, none⟩ = some b ∧ w1.cell? ⟨B, 2, none⟩ = some c ∧ w1.cell? ⟨B, 3, none⟩ = some d ∧ w1.cell? ⟨B, 4, none⟩ = some e ∧ w1.frozen? ⟨B, 0, none⟩ = false ∧ w1.frozen? ⟨B, 1, none⟩ = false ∧ w1.frozen? ⟨B, 2, none⟩ = false ∧ w1.frozen? ⟨B, 3, none⟩ = false ∧ w1.frozen? ⟨B, 4, none⟩ = false := by
  simp [World.cell?, World.frozen?, h]

theorem ret_row_tmp {fn : Func} {R : Ending → World → Prop} {a : Act} {w : World} {p u : Tmp} {b : Nat} {cs : Array Value} {t : Value} (h : fn.results = #[.cell p 30, .tmp u]) (hp : a.tmps.getD p undef = .pointer (some ⟨b, 0, none⟩)) (hu : a.tmps.getD u undef = t) (hg : w.heap[b]? = some (.cells cs 30)) (hz : cs.size = 5) (hd : a.defers = []) (hR : R (.returned (.tuple #[.agg cs, t])) w) : bodyPost Try.prog fn R .ret a w := by
  refine bodyPost_ret (v := .tuple #[.agg cs, t]) ?_ hd hR
  have hp' : a.tmps[p]?.getD undef = .pointer (some ⟨b, 0, none⟩) := by simpa using hp
  have hu' : a.tmps[u]?.getD undef = t := by simpa using hu
  rw [results_cell_tmp h]
  simp [hp', hu', asAddr, Result.andThen, run_loadVar_row w b 30 30 cs _ _ hg Try.underlying30 rfl (by rw [hz]; kernel_rfl)]

set_option maxRecDepth 20000 in
set_option maxHeartbeats 4000000 in
theorem prove_ok (s : ByteArray) (n : Nat) (vp : Option Addr) (k vc : Nat) (cv : Value) (lv : Value) (L : Nat) (T : List (List Int)) (w : World) (h1 : 1 ≤ n) (h12 : n ≤ 12) (hT : T.length = L + 1) (hL1 : 1 ≤ L) (hL2 : L ≤ 1000) (hTr : ∀ r, r ∈ T → Rw n r)
    (hR : ∀ W, Below w.heap.size w W → Calls Try.prog 25 #[meth s n (.slice vp k vc), cv, lv] W (RowsPost T W)) :
    Calls Try.prog 8 #[meth s n (.slice vp k vc), cv, lv] w (ProvePost L T w) := by
  have hB0 : Below w.heap.size w ((w.alloc (.cells #[.string s, .int .i64 n, .slice vp k vc] 24)).alloc (.cells #[.int .i64 0, .bool false, .bool false, .int .i64 0, .int .i64 0] 30)) := ((Below.refl _ _).alloc (Nat.le_refl _) _).alloc (by simp) _
  have HR := hide (hR _ hB0)
  have HT := hide hT
  have HTR := hide hTr
  clear hR hT hTr
  unfold meth at HR
  unfold meth
  go_enter Try.func8, Try.ntmps8
  go_wp2_with fail
  refine HR.out.mono ?_
  rintro e w1 ⟨u, vs, rfl, hL, hb1⟩
  have hB1 : Below w.heap.size w w1 := hB0.trans (hb1.mono hB0.size)
  have hblk1 : w1.heap[w.heap.size + 1]? = some (.cells #[.int .i64 0, .bool false, .bool false, .int .i64 0, .int .i64 0] 30) := (hb1.block (w.heap.size + 1) (by simp)).trans (by
    have h9 := heap_alloc_new (w.alloc (.cells #[.string s, .int .i64 n, .slice vp k vc] 24)) (.cells #[.int .i64 0, .bool false, .bool false, .int .i64 0, .int .i64 0] 30)
    rw [show (w.alloc (.cells #[.string s, .int .i64 n, .slice vp k vc] 24)).heap.size = w.heap.size + 1 from by simp] at h9
    exact h9)
  have hL' := hL.low (show w.heap.size + 2 ≤ _ by simp)
  have hvl : vs.length = L + 1 := by rw [hL.len, HT.out]
  have hr1 := hL'.row
  rw [hvl] at hr1
  obtain ⟨gu, cu, rfl, hgu1, hgu2, hcu1, hcu2⟩ := owns_form hr1 (by omega)
  have HVL := hide hvl
  have HLL := hide hL'
  have HK := hide hblk1
  have hrp := hide (fun W (hW : Below w1.heap.size w1 W) => repeated_ok n _ (T.take L) W ((hL'.front hvl (Nat.le_succ L) hL1 hgu2 hcu1 hcu2).below hW) h1 h12 (fun r hr => HTR.out r (List.mem_of_mem_take hr)) (by rw [List.length_take, HT.out]; omega) (by rw [List.length_take, HT.out]; omega))
  clear hL hb1 hL' hr1 HR hvl hblk1
  go_wp2_with fail
  refine (hrp.out w1 (Below.refl _ _)).mono ?_
  rintro e w2 ⟨i, j, t, rfl, ht, hb2⟩
  have hB2 : Below w.heap.size w w2 := hB1.trans (hb2.mono hB1.size)
  have hbs2 := hB2.size
  have hL2' := HLL.out.below hb2
  have hr2 := hL2'.row
  rw [HVL.out] at hr2
  have c0 := owns_val hr2 (show 0 < L + 1 by omega)
  have cL := owns_val hr2 (show L < L + 1 by omega)
  have i0 := Ints.own (hL2'.at (k := 0) (by rw [HT.out]; omega))
  have iL := Ints.own (hL2'.at (k := L) (by rw [HT.out]; omega))
  obtain ⟨p0, d0, e0⟩ := i0.form
  obtain ⟨pL, dL, eL⟩ := iL.form
  rw [e0] at c0 i0
  rw [eL] at cL iL
  have HEQ := hide (fun W (hW : Below w2.heap.size w2 W) => equal_any _ _ _ _ W (iL.below hW) (i0.below hW))
  have HBK := hide ((hb2.block (w.heap.size + 1) (by omega)).trans HK.out)
  have hlt1 : w.heap.size + 1 < w2.heap.size := Nat.lt_of_lt_of_le (by omega) hb2.size
  have hgu3 : gu < w2.heap.size := Nat.lt_of_lt_of_le hgu2 hb2.size
  have HTN := hide ht
  clear hL2' hr2 i0 iL e0 eL HLL HVL HK hrp ht hB0 hB1 HTR HT
  generalize hrd : decide (T.getD L [] = T.getD 0 []) = rd at *
  have HRD := hide hrd
  clear hrd
  generalize (T.getD 0 []).length = l0 at *
  generalize (T.getD L []).length = lL at *
  go_upto_region 6 with fail
  refine wp_region_held_drew (S := fun W' => W'.cell? ⟨gu, 0, none⟩ = some (.slice p0 l0 d0) ∧ W'.cell? ⟨gu, L, none⟩ = some (.slice pL lL dL)) (by kernel_rfl) ⟨c0, cL⟩ (fun hS => ?_)
  refine wpAnyH_take (i := 0) (v := .int .i64 (L : Int)) rfl (by kernel_rfl) (by kernel_rfl) (by kernel_rfl) (fun _ _ _ h => h) (Or.inl ⟨by kernel_rfl, fun w' hS' => by obtain ⟨q0, q1⟩ := hS'; go_simp⟩) hS ?_
  refine wpAnyH_take (i := 1) (v := .slice (some ⟨gu, 0, none⟩) (L + 1) cu) rfl (by kernel_rfl) (by kernel_rfl) (by kernel_rfl) (fun _ _ _ h => h) (Or.inl ⟨by kernel_rfl, fun w' hS' => by obtain ⟨q0, q1⟩ := hS'; go_simp⟩) hS ?_
  refine wpAnyH_take (i := 2) (v := .int .i64 (L : Int)) rfl (by kernel_rfl) (by kernel_rfl) (by kernel_rfl) (fun _ _ _ h => h) (Or.inl ⟨by kernel_rfl, fun w' hS' => by obtain ⟨q0, q1⟩ := hS'; go_simp⟩) hS ?_
  refine wpAnyH_take (i := 3) (v := .pointer (some ⟨gu, L, none⟩)) rfl (by kernel_rfl) (by kernel_rfl) (by kernel_rfl) (fun _ _ _ h => h) (Or.inl ⟨by kernel_rfl, fun w' hS' => by obtain ⟨q0, q1⟩ := hS'; go_simp; intro h0; exact absurd h0 (by omega)⟩) hS ?_
  refine wpAnyH_take (i := 4) (v := .slice pL lL dL) rfl (by kernel_rfl) (by kernel_rfl) (by kernel_rfl) (fun _ _ _ h => h) (Or.inl ⟨by kernel_rfl, fun w' hS' => by obtain ⟨q0, q1⟩ := hS'; go_simp⟩) hS ?_
  refine wpAnyH_take (i := 5) (v := .slice (some ⟨gu, 0, none⟩) (L + 1) cu) rfl (by kernel_rfl) (by kernel_rfl) (by kernel_rfl) (fun _ _ _ h => h) (Or.inl ⟨by kernel_rfl, fun w' hS' => by obtain ⟨q0, q1⟩ := hS'; go_simp⟩) hS ?_
  refine wpAnyH_take (i := 6) (v := .pointer (some ⟨gu, 0, none⟩)) rfl (by kernel_rfl) (by kernel_rfl) (by kernel_rfl) (fun _ _ _ h => h) (Or.inl ⟨by kernel_rfl, fun w' hS' => by obtain ⟨q0, q1⟩ := hS'; go_simp⟩) hS ?_
  refine wpAnyH_take (i := 7) (v := .slice p0 l0 d0) rfl (by kernel_rfl) (by kernel_rfl) (by kernel_rfl) (fun _ _ _ h => h) (Or.inl ⟨by kernel_rfl, fun w' hS' => by obtain ⟨q0, q1⟩ := hS'; go_simp⟩) hS ?_
  refine wpAnyH_take (i := 9) (v := .bool t) rfl (by kernel_rfl) (by kernel_rfl) (by kernel_rfl) (fun _ _ _ h => h) (Or.inl ⟨by kernel_rfl, fun w' hS' => by obtain ⟨q0, q1⟩ := hS'; go_simp⟩) hS ?_
  refine wpAnyH_take (i := 10) (v := .bool (!t)) rfl (by kernel_rfl) (by kernel_rfl) (by kernel_rfl) (fun _ _ _ h => h) (Or.inl ⟨by kernel_rfl, fun w' hS' => by obtain ⟨q0, q1⟩ := hS'; go_simp⟩) hS ?_
  refine wpAnyH_take (i := 11) (v := .int .i64 i) rfl (by kernel_rfl) (by kernel_rfl) (by kernel_rfl) (fun _ _ _ h => h) (Or.inl ⟨by kernel_rfl, fun w' hS' => by obtain ⟨q0, q1⟩ := hS'; go_simp⟩) hS ?_
  refine wpAnyH_take (i := 12) (v := .int .i64 j) rfl (by kernel_rfl) (by kernel_rfl) (by kernel_rfl) (fun _ _ _ h => h) (Or.inl ⟨by kernel_rfl, fun w' hS' => by obtain ⟨q0, q1⟩ := hS'; go_simp⟩) hS ?_
  refine wpAnyH_ready (rs := [8]) (by kernel_rfl) (by simp) ?_
  refine AllReadyH.cons rfl (fun K hK => ?_) AllReadyH.nil
  go_simp
  have hS0 := below_drewJ w2
  refine (HEQ.out w2.drew hS0).mono ?_
  rintro ex wo ⟨rfl, hbo⟩
  have hSo : Below w2.heap.size w2 wo := hS0.trans (hbo.mono hS0.size)
  have hC0 : wo.cell? ⟨gu, 0, none⟩ = some (.slice p0 l0 d0) := (hSo.cell (p := ⟨gu, 0, none⟩) hgu3).trans c0
  have hCL : wo.cell? ⟨gu, L, none⟩ = some (.slice pL lL dL) := (hSo.cell (p := ⟨gu, L, none⟩) hgu3).trans cL
  have hko := (hSo.block (w.heap.size + 1) hlt1).trans HBK.out
  have hBo : Below w.heap.size w wo := hB2.trans (hSo.mono hB2.size)
  refine hK.out _ _ ⟨hC0, hCL⟩ (fun hS => ?_)
  clear hK
  refine wpAnyH_take (i := 13) (v := .agg #[.int .i64 (L : Int), .bool rd, .bool (!t), .int .i64 i, .int .i64 j]) rfl (by kernel_rfl) (by kernel_rfl) (by kernel_rfl) (fun _ _ _ h => h) (Or.inl ⟨by kernel_rfl, fun w' hS' => by obtain ⟨q0, q1⟩ := hS'; go_simp⟩) hS ?_
  refine wpAnyH_ready (rs := [14]) (by kernel_rfl) (by simp) ?_
  refine AllReadyH.cons rfl (fun K hK => ?_) AllReadyH.nil
  obtain ⟨z0, z1, z2, z3, z4, f0, f1, f2, f3, f4⟩ := cells5 hko
  go_simp
  have HBF : Hid ((((((wo.setCell ⟨w.heap.size + 1, 0, none⟩ (.int .i64 (L : Int))).setCell ⟨w.heap.size + 1, 1, none⟩ (.bool rd)).setCell ⟨w.heap.size + 1, 2, none⟩ (.bool (!t))).setCell ⟨w.heap.size + 1, 3, none⟩ (.int .i64 i)).setCell ⟨w.heap.size + 1, 4, none⟩ (.int .i64 j)).heap[w.heap.size + 1]? = some (.cells #[.int .i64 (L : Int), .bool rd, .bool (!t), .int .i64 i, .int .i64 j] 30)) := by
    show _ = _
    simp [World.setCell, Array.getElem?_modify, hko]
  have HBZ : Hid (Below w.heap.size w (((((wo.setCell ⟨w.heap.size + 1, 0, none⟩ (.int .i64 (L : Int))).setCell ⟨w.heap.size + 1, 1, none⟩ (.bool rd)).setCell ⟨w.heap.size + 1, 2, none⟩ (.bool (!t))).setCell ⟨w.heap.size + 1, 3, none⟩ (.int .i64 i)).setCell ⟨w.heap.size + 1, 4, none⟩ (.int .i64 j))) :=
    ((((hBo.setCell (Nat.le_succ _) _).setCell (Nat.le_succ _) _).setCell (Nat.le_succ _) _).setCell (Nat.le_succ _) _).setCell (Nat.le_succ _) _
  have hne : w.heap.size + 1 ≠ gu := by omega
  have HS2 : Hid ((((((wo.setCell ⟨w.heap.size + 1, 0, none⟩ (.int .i64 (L : Int))).setCell ⟨w.heap.size + 1, 1, none⟩ (.bool rd)).setCell ⟨w.heap.size + 1, 2, none⟩ (.bool (!t))).setCell ⟨w.heap.size + 1, 3, none⟩ (.int .i64 i)).setCell ⟨w.heap.size + 1, 4, none⟩ (.int .i64 j)).heap[gu]? = wo.heap[gu]?) := by
    show _ = _
    simp [World.setCell, Array.getElem?_modify, hne]
  generalize (((((wo.setCell ⟨w.heap.size + 1, 0, none⟩ (.int .i64 (L : Int))).setCell ⟨w.heap.size + 1, 1, none⟩ (.bool rd)).setCell ⟨w.heap.size + 1, 2, none⟩ (.bool (!t))).setCell ⟨w.heap.size + 1, 3, none⟩ (.int .i64 i)).setCell ⟨w.heap.size + 1, 4, none⟩ (.int .i64 j)) = wz at *
  refine hK.out _ _ ⟨by rw [← hC0]; unfold World.cell?; simp only [HS2.out], by rw [← hCL]; unfold World.cell?; simp only [HS2.out]⟩ (fun hS => ?_)
  clear hK z0 z1 z2 z3 z4 f0 f1 f2 f3 f4
  refine wpAnyH_take (i := 15) (v := .int .i64 0) rfl (by kernel_rfl) (by kernel_rfl) (by kernel_rfl) (fun _ _ _ h => h) (Or.inl ⟨by kernel_rfl, fun w' hS' => by clear hS'; go_simp⟩) hS ?_
  refine wpAnyH_done (by kernel_rfl) ?_ _
  go_wp2
  refine ret_row_tmp (p := 6) (u := 7) rfl rfl rfl HBF.out rfl rfl ⟨rd, !t, i, j, rfl, ?_, HRD.out.symm, HBZ.out⟩
  rw [← HTN.out]
  cases t <;> decide

end Go.Proofs.Ytoiiadiimfohiaa

/- Contracts: method.Head, courseFits, method.Course, MethodOf. -/
namespace Go.Proofs.Ytoiiadiimfohiaa
open Go.RowKit

/-- The first rows of a course. -/
def crs (n : Nat) (ts : List (List Bool)) (c : Nat) : List (List Int) := (List.range c).map (fun i => by_ (pw (prd n ts) (i / ts.length)) (prd n (ts.take (i % ts.length))))

theorem crs_snoc (n : Nat) (ts : List (List Bool)) (a b : Nat) (hb : b < ts.length) : crs n ts (a * ts.length + b + 1) = crs n ts (a * ts.length + b) ++ [by_ (pw (prd n ts) a) (prd n (ts.take b))] := by
  unfold crs
  rw [List.range_succ, List.map_append]
  have h1 : (a * ts.length + b) / ts.length = a := by
    rw [Nat.mul_comm, Nat.mul_add_div (by omega), Nat.div_eq_of_lt hb, Nat.add_zero]
  have h2 : (a * ts.length + b) % ts.length = b := by
    rw [Nat.mul_comm, Nat.mul_add_mod, Nat.mod_eq_of_lt hb]
  simp only [List.map_cons, List.map_nil, h1, h2]

theorem crs_length (n : Nat) (ts : List (List Bool)) (c : Nat) : (crs n ts c).length = c := by simp [crs]

theorem crs_get {n c i : Nat} {ts : List (List Bool)} (h : i < c) : (crs n ts c).getD i [] = by_ (pw (prd n ts) (i / ts.length)) (prd n (ts.take (i % ts.length))) := by simp [crs, List.getD, h]

theorem pw_zero (r : List Int) : pw r 0 = rnd r.length := by unfold pw rnd; rfl

/-- What the loops of Course know. -/
structure CrsRel (w3 wr : World) (n : Nat) (ts : List (List Bool)) (a b : Nat) (f u : Value) (vs : List Value) : Prop where
  ll : LL wr w3.heap.size u vs (crs n ts (a * ts.length + b))
  row : wr.ownsRow w3.heap.size 3 1 f n ((pw (prd n ts) a).map (Value.int .i64))
  below : Below w3.heap.size w3 wr

end Go.Proofs.Ytoiiadiimfohiaa

/- Contract: MethodOf. -/
namespace Go.Proofs.Ytoiiadiimfohiaa
open Go.RowKit

theorem tried_name : nm ⟨#[84, 114, 105, 101, 100]⟩ = true := by decide +kernel

theorem cells3 {w1 : World} {B : Nat} {a b c : Value} {t : TypeId} (h : w1.heap[B]? = some (.cells #[a, b, c] t)) :
    w1.cell? ⟨B, 0, none⟩ = some a ∧ w1.cell? ⟨B, 1, none⟩ = some b ∧ w1.cell? ⟨B, 2, none⟩ = some c ∧ w1.frozen? ⟨B, 0, none⟩ = false ∧ w1.frozen? ⟨B, 1, none⟩ = false ∧ w1.frozen? ⟨B, 2, none⟩ = false := by
  simp [World.cell?, World.frozen?, h]

theorem LL.set {w : World} {base b j : Nat} {v x : Value} {vs : List Value} {xss : List (List Int)} (h : LL w base v vs xss) (hb : b < base) : LL (w.setCell ⟨b, j, none⟩ x) base v vs xss :=
  ⟨ownsRow_setCell_below h.row (by exact hb) _, h.all.mono (fun _ _ _ h' => ownsRow_setCell_below h' (by exact hb) _)⟩

set_option maxRecDepth 20000 in
set_option maxHeartbeats 2000000 in
theorem methodOf_ok (v : Value) (xs : List Int) (n m : Nat) (w : World) (h : Ints w v xs) (hx : ∀ x, x ∈ xs → I64 x) (h1 : 1 ≤ n) (h12 : n ≤ 12) (hm : m ≤ 1000) :
    Calls Try.prog 19 #[v, .int .i64 n, .int .i64 m] w fun e w' => ∃ (u : Value) (vs : List Value) (ts : List (List Bool)), e = .returned (.agg #[.string ⟨#[84, 114, 105, 101, 100]⟩, .int .i64 n, u]) ∧ ts.length = m ∧ (∀ t, t ∈ ts → tsz t = n) ∧ LL w' (w.heap.size + 1) u vs (ts.map tpl) ∧ Below w.heap.size w w' := by
  have HC := hide (fun W (hb : Below w.heap.size w W) => changesOf_ok v xs 3 n m W (h.below hb) hx (by omega) h1 h12 hm)
  clear h hx
  go_enter Try.func19, Try.ntmps19
  go_wp2_with fail
  refine (HC.out _ ((Below.refl _ _).alloc (Nat.le_refl _) _)).mono ?_
  rintro e w1 ⟨u, vs, ts, rfl, hl, hts, hL, hb1⟩
  have hblk0 := (hb1.block w.heap.size (by simp)).trans (heap_alloc_new w _)
  obtain ⟨z0, z1, z2, f0, f1, f2⟩ := cells3 (w1 := w1) (B := w.heap.size) hblk0
  obtain ⟨up, uc, rfl⟩ := owns_slice hL.row
  have HBK : Hid ((((w1.setCell ⟨w.heap.size, 0, none⟩ (.string ⟨#[84, 114, 105, 101, 100]⟩)).setCell ⟨w.heap.size, 1, none⟩ (.int .i64 n)).setCell ⟨w.heap.size, 2, none⟩ (.slice up vs.length uc)).heap[w.heap.size]? = some (.cells #[.string ⟨#[84, 114, 105, 101, 100]⟩, .int .i64 n, .slice up vs.length uc] 24)) := by
    show _ = _
    simp [World.setCell, Array.getElem?_modify, hblk0]
  clear hblk0
  have HT := hide hts
  have HL := hide hL
  have HLE := hide hl
  clear hts hL hl HC
  have hB : Below w.heap.size w w1 := ((Below.refl _ _).alloc (Nat.le_refl _) _).trans (hb1.mono (by simp))
  have HLL := hide (HL.out.low (show w.heap.size + 1 ≤ _ by simp))
  clear HL
  go_wp2
  refine bodyPost_ret (results_cell_row (p := 6) (ty := 24) rfl _ _ w.heap.size 24 _ _ _ rfl HBK.out Try.underlying24 rfl (by kernel_rfl)) rfl ?_
  exact ⟨_, vs, ts, rfl, HLE.out, HT.out, ((HLL.out.set (Nat.lt_succ_self _)).set (Nat.lt_succ_self _)).set (Nat.lt_succ_self _), ((hB.setCell (Nat.le_refl _) _).setCell (Nat.le_refl _) _).setCell (Nat.le_refl _) _⟩

end Go.Proofs.Ytoiiadiimfohiaa

/- Rows of a lead are rows. -/
namespace Go.Proofs.Ytoiiadiimfohiaa
open Go.RowKit

theorem leadTo_rows {n k : Nat} {F : List (List Bool)} (h : ∀ t, t ∈ F → tsz t = n) : ∀ r, r ∈ leadTo n F k → Rw n r := by
  intro r hr
  obtain ⟨j, _, rfl⟩ := List.mem_map.1 hr
  have := prd_row n (F.take j) (fun t ht => h t (List.mem_of_mem_take ht))
  exact ⟨this.1, this.2⟩

end Go.Proofs.Ytoiiadiimfohiaa

/- Contract: campaniletop.hunt. -/
namespace Go.Proofs.Ytoiiadiimfohiaa
open Go.RowKit

def huntS : ByteArray := ⟨#[80, 108, 97, 105, 110, 32, 72, 117, 110, 116]⟩
def huntT : List (List Bool) := [[false, false], [true, false, true]]

theorem hunt_name : nm huntS = true := by decide +kernel
theorem hunt_tsz : ∀ t, t ∈ huntT → tsz t = 4 := by decide
theorem hunt_one : (hds 4 (ldr 4 huntT)).length = 1 := by decide +kernel
theorem hunt_nodup : (ldr 4 huntT).Nodup := by decide +kernel

theorem hunt_ints (W : World) (N : Nat) (hk1 : W.heap[N + 1]? = some (.cells #[.int .i64 1, .int .i64 4] 3)) (hk2 : W.heap[N + 1 + 1]? = some (.cells #[.slice none 0 0, .slice (some ⟨N + 1, 0, none⟩) 2 2] 26)) : IntsAll W (.slice (some ⟨N + 1 + 1, 0, none⟩) 2 2) [[], [1, 4]] := by
  have l1 := (Array.getElem?_eq_some_iff.1 hk1).1
  have l2 := (Array.getElem?_eq_some_iff.1 hk2).1
  refine ⟨[.slice none 0 0, .slice (some ⟨N + 1, 0, none⟩) 2 2], Or.inr ⟨N + 1 + 1, 0, 2, rfl, by simp, by simp, by decide, l2, fun j hj => ?_⟩, rfl, fun j hj => ?_⟩
  · match j, hj with
    | 0, _ => simp [World.cell?, hk2]
    | 1, _ => simp [World.cell?, hk2]
  · match j, hj with
    | 0, _ => exact Or.inl ⟨rfl, none, 0, rfl⟩
    | 1, _ =>
      refine Or.inr ⟨N + 1, 0, 2, rfl, by decide, by decide, by decide, l1, fun i hi => ?_⟩
      match i, hi with
      | 0, _ => simp [World.cell?, hk1]
      | 1, _ => simp [World.cell?, hk1]


end Go.Proofs.Ytoiiadiimfohiaa

/- A search by the calls that were made; what it finds, held against Prove; plain hunt on four. -/
namespace Go.Proofs.Ytoiiadiimfohiaa
open Go.RowKit
set_option maxRecDepth 20000
set_option linter.unusedVariables false

/-- The rows of the lead by one call. -/
def tsB (n : Nat) (ts : List (List Bool)) (SS : List (List (List Bool))) (c : Nat) : List (List Int) := leadTo n (calledBy ts (SS.getD c [])) ts.length

theorem byG_gOf {n C : Nat} {ts : List (List Bool)} {SS : List (List (List Bool))} (hl1 : 1 ≤ ts.length) (hS : ∀ c, c < C → (SS.getD c []).length ≤ ts.length) : byG (tsB n ts SS) ts.length C = gOf n ts SS C := by
  unfold byG gOf
  refine List.map_congr_left (fun c hc => ?_)
  have hc' : c < C := List.mem_range.1 hc
  have hAl : (calledBy ts (SS.getD c [])).length = ts.length := calledBy_length (hS c hc')
  unfold tsB
  have e : (calledBy ts (SS.getD c [])).take ts.length = calledBy ts (SS.getD c []) := List.take_of_length_le (by omega)
  rw [leadTo_get (Nat.le_refl _), e]

theorem allOf_one (ts : List (List Bool)) (SS : List (List (List Bool))) (c : Nat) : allOf ts SS [(c : Int)] = calledBy ts (SS.getD c []) := by simp [allOf]

theorem bnd_le {N l : Nat} (hN : N ≤ 3) (hl : l ≤ 6) : bnd N l ≤ 20000 := by
  have : ∀ (a : Fin 4) (b : Fin 7), bnd a.1 b.1 ≤ 20000 := by decide +kernel
  exact this ⟨N, by omega⟩ ⟨l, by omega⟩

/-- Touches, by calls of at most one change. -/
theorem touches_by (s : ByteArray) (n : Nat) (vp : Option Addr) (vc : Nat) (ts : List (List Bool)) (cv : Value) (cs : List (Int × List (List Int))) (SS : List (List (List Bool))) (leads many : Nat) (w : World) (hs : s.size ≤ 9223372036854775807) (hn : nm s = true) (h1 : 2 ≤ n) (h2 : n ≤ 12) (hl1 : 1 ≤ ts.length) (hl2 : ts.length ≤ 200)
    (hts : ∀ t, t ∈ ts → tsz t = n) (hv : IntsAll w (.slice vp ts.length vc) (ts.map tpl)) (hcv : CallsAt w cv cs) (hco : CallsOk n ts.length cs) (hc1 : 1 ≤ cs.length) (hc2 : cs.length ≤ 3)
    (hSS : ∀ c, c < cs.length → (cs.getD c (0, [])).2 = (SS.getD c []).map tpl ∧ (∀ t, t ∈ SS.getD c [] → tsz t = n) ∧ (SS.getD c []).length ≤ ts.length) (hm1 : 1 ≤ leads) (hm2 : leads ≤ 6) (hy1 : 1 ≤ many) (hy2 : many ≤ 50) :
    Calls Try.prog 22 #[meth s n (.slice vp ts.length vc), cv, .int .i64 leads, .int .i64 many] w (TouchPost ((sols (gOf n ts SS cs.length) leads [] 1).take many) w) := by
  obtain ⟨cb, co, cc, hce, hcr⟩ := hcv
  have hcv : CallsAt w cv cs := ⟨cb, co, cc, hce, hcr⟩
  subst hce
  have hA : ∀ c, c < cs.length → (calledBy ts (SS.getD c [])).length = ts.length ∧ ∀ t, t ∈ calledBy ts (SS.getD c []) → tsz t = n := fun c hc => ⟨calledBy_length (hSS c hc).2.2, calledBy_mem hts (hSS c hc).2.1⟩
  have := touches_ok s n vp ts.length vc (some ⟨cb, co, none⟩) cs.length cc leads many (tsB n ts SS) w (by omega) h2 hl1 (by omega) hc1 (by omega) hm1 (by omega) hy1 hy2 (bnd_le hc2 hm2)
    (fun c hc => ⟨leadTo_length _ _ _, leadTo_rows (hA c hc).2⟩)
    (fun W hW => by
      have h9 := ccheck_ok s n vp vc (ts.map tpl) (.slice (some ⟨cb, co, none⟩) cs.length cc) cs W hs hn h1 h2 (by rw [List.length_map]; exact hl1) (by rw [List.length_map]; exact hl2) (by rw [List.length_map]; exact hv.below hW) (tile_one hts) (hcv.below hW) (by rw [List.length_map]; exact hco) hc1 (by omega)
      rw [List.length_map] at h9
      exact h9)
    (fun c hc W lv hW hI => by
      have h9 := crows_ok s n vp vc ts (.slice (some ⟨cb, co, none⟩) cs.length cc) cs SS lv [(c : Int)] W hs hn h1 h2 hl1 hl2 hts (hv.below hW) (hcv.below hW) hco hc1 (by omega) (fun c hc => ⟨(hSS c hc).1, (hSS c hc).2.1, (hSS c hc).2.2⟩) hI (by simp) (by simp) (fun l hl => by simp at hl; omega) (by simp; omega)
      rw [allOf_one, List.length_singleton, Nat.one_mul] at h9
      exact h9)
  rw [fnd_top, byG_gOf hl1 (fun c hc => (hSS c hc).2.2)] at this
  exact this

/-- Prove, of a touch by calls. -/
theorem prove_by (s : ByteArray) (n : Nat) (vp : Option Addr) (vc : Nat) (ts : List (List Bool)) (cv : Value) (cs : List (Int × List (List Int))) (SS : List (List (List Bool))) (lv : Value) (t : List Nat) (w : World) (hs : s.size ≤ 9223372036854775807) (hn : nm s = true) (h1 : 2 ≤ n) (h2 : n ≤ 12) (hl1 : 1 ≤ ts.length) (hl2 : ts.length ≤ 8)
    (hts : ∀ t, t ∈ ts → tsz t = n) (hv : IntsAll w (.slice vp ts.length vc) (ts.map tpl)) (hcv : CallsAt w cv cs) (hco : CallsOk n ts.length cs) (hc1 : 1 ≤ cs.length) (hc2 : cs.length ≤ 3)
    (hSS : ∀ c, c < cs.length → (cs.getD c (0, [])).2 = (SS.getD c []).map tpl ∧ (∀ t, t ∈ SS.getD c [] → tsz t = n) ∧ (SS.getD c []).length ≤ ts.length) (hI : Ints w lv (nI t)) (ht1 : 1 ≤ t.length) (ht2 : t.length ≤ 6) (hin : ∀ c, c ∈ t → c < cs.length) :
    Calls Try.prog 8 #[meth s n (.slice vp ts.length vc), cv, lv] w fun e w' => ∃ (r q : Bool) (i j : Int), e = .returned (.tuple #[.agg #[.int .i64 ((t.length * ts.length : Nat) : Int), .bool r, .bool q, .int .i64 i, .int .i64 j], .int .i64 0]) ∧ ((q = true ∧ r = true) ↔ (tRows (gOf n ts SS cs.length) 1 t).Nodup ∧ tEnd (gOf n ts SS cs.length) 1 t = 1) ∧ Below w.heap.size w w' := by
  have hnl : (nI t).length = t.length := by simp [nI]
  have hLb : t.length * ts.length ≤ 6 * 8 := Nat.mul_le_mul ht2 hl2
  have hLa : 1 ≤ t.length * ts.length := Nat.mul_le_mul ht1 hl1
  obtain ⟨⟨e1, e2⟩, hFn⟩ := touch_pm (n := n) (C := cs.length) h2 hl1 hts (fun c hc => (hSS c hc).2) t hin
  have hR := fun W (hW : Below w.heap.size w W) => crows_ok s n vp vc ts cv cs SS lv (nI t) W hs hn h1 h2 hl1 (by omega) hts (hv.below hW) (hcv.below hW) hco hc1 (by omega) (fun c hc => ⟨(hSS c hc).1, (hSS c hc).2.1, (hSS c hc).2.2⟩) (hI.below hW) (by omega) (by omega) (fun l hl => by
    unfold nI at hl
    obtain ⟨c, hc, rfl⟩ := List.mem_map.1 hl
    have := hin c hc
    omega) (by rw [hnl]; omega)
  rw [hnl] at hR
  refine (prove_ok s n vp ts.length vc cv lv (t.length * ts.length) _ w (by omega) h2 (leadTo_length n (allOf ts SS (nI t)) (t.length * ts.length)) hLa (by omega) (leadTo_rows hFn) hR).mono ?_
  rintro e w' ⟨r, q, i, j, rfl, hq, hr, hb⟩
  refine ⟨r, q, i, j, rfl, ?_, hb⟩
  have hAll : ∀ x, x ∈ (leadTo n (allOf ts SS (nI t)) (t.length * ts.length)).take (t.length * ts.length) → isRow x ∧ x.length = n := fun x hx => by
    have := leadTo_rows hFn x (List.mem_of_mem_take hx)
    exact ⟨this.row, this.len⟩
  have hlenA : (allOf ts SS (nI t)).length = t.length * ts.length := by
    unfold allOf
    rw [flat_length (K := ts.length) _ (fun g hg => ?_), List.length_map, hnl]
    obtain ⟨l, hl, rfl⟩ := List.mem_map.1 hg
    unfold nI at hl
    obtain ⟨c, hc, rfl⟩ := List.mem_map.1 hl
    rw [Int.toNat_natCast]
    exact calledBy_length (hSS c (hin c hc)).2.2
  have h0 : (leadTo n (allOf ts SS (nI t)) (t.length * ts.length)).getD 0 [] = rnd n := by rw [leadTo_get (Nat.zero_le _)]; rfl
  have hL : (leadTo n (allOf ts SS (nI t)) (t.length * ts.length)).getD (t.length * ts.length) [] = prd n (allOf ts SS (nI t)) := by rw [leadTo_get (Nat.le_refl _), List.take_of_length_le (by omega)]
  have hpr := prd_row n (allOf ts SS (nI t)) hFn
  have hinj : prd n (allOf ts SS (nI t)) = rnd n ↔ tEnd (gOf n ts SS cs.length) 1 t = 1 := by
    rw [← e2]
    constructor
    · intro h; rw [h]; exact pad_rnd h2
    · intro h
      have h9 := (nodup_pad (n := n) h2 (L := [prd n (allOf ts SS (nI t)), rnd n]) (fun x hx => by
        rcases List.mem_cons.1 hx with rfl | hx
        · exact hpr
        · simp at hx; subst hx; exact ⟨isRow_rnd n, rnd_length n⟩))
      apply Classical.byContradiction
      intro hne
      have h8 := h9.2 (by simp [hne])
      rw [List.map_cons, List.map_cons, h, pad_rnd h2] at h8
      simp at h8
  rw [hq, hr, ← e1, ← rowsP_lead, nodup_pad h2 hAll, h0, hL, decide_eq_true_iff, hinj]

theorem callsOf_one (n : Nat) (w : World) :
    Calls Try.prog 20 #[.slice none 0 0, .int .i64 n, .int .i64 1] w fun e w' => ∃ (u : Value), e = .returned u ∧ w'.ownsRow w.heap.size 47 2 u 1 (ceCells [⟨112, .slice none 0 0, []⟩]) ∧ Cok n w' w.heap.size [⟨112, .slice none 0 0, []⟩] ∧ Below w.heap.size w w' := by
  have ho0 : (w.alloc (.cells #[.int .i32 112, .slice none 0 0] 47)).ownsRow w.heap.size 47 2 (.slice (some ⟨w.heap.size, 0, none⟩) 1 1) 1 (ceCells [⟨112, .slice none 0 0, []⟩]) := World.ownsRow_lit w #[.int .i32 112, .slice none 0 0] 1 (Nat.le_refl _) (by unfold maxLen; omega) rfl
  have hok : Cok n (w.alloc (.cells #[.int .i32 112, .slice none 0 0] 47)) w.heap.size [⟨112, .slice none 0 0, []⟩] := by
    refine ⟨fun e he => ?_, fun k hk => ?_, fun e he => ?_, fun e he => ?_⟩
    · simp at he; subst he; exact ⟨[], LL.nil _ _⟩
    · simp at hk; subst hk; rfl
    · simp at he; subst he; simp
    · simp at he; subst he; intro j hj; simp at hj
  have HO := hide ho0
  have HK := hide hok
  have hB : Below w.heap.size w (w.alloc (.cells #[.int .i32 112, .slice none 0 0] 47)) := (Below.refl _ _).alloc (Nat.le_refl _) _
  clear ho0 hok
  go_enter Try.func20, Try.ntmps20
  go_wp2
  go_loopw [7, 8] (fun v i wr => v = .slice (some ⟨w.heap.size, 0, none⟩) 1 1 ∧ i = .int .i64 1 ∧ wr = w.alloc (.cells #[.int .i32 112, .slice none 0 0] 47)) (fun _ _ _ => 0)
  case atStart => exact ⟨rfl, rfl, rfl⟩
  case round =>
    obtain ⟨rfl, rfl, rfl⟩ := hrel
    go_wp2
    go_ret
    exact ⟨_, rfl, HO.out, HK.out, hB⟩

/-- What plain hunt on four finds in four leads. -/
theorem hunt_sols {SS : List (List (List Bool))} (hS : SS.getD 0 [] = []) : sols (gOf 4 huntT SS 1) 4 [] 1 = [[0, 0, 0, 0]] := by
  have hSS : ∀ c, c < 1 → (∀ t, t ∈ SS.getD c [] → tsz t = 4) ∧ (SS.getD c []).length ≤ 1 := fun c hc => by
    obtain rfl : c = 0 := by omega
    rw [hS]
    exact ⟨(fun t ht => by cases ht), by simp⟩
  obtain ⟨⟨e1, e2⟩, _⟩ := touch_pm (n := 4) (C := 1) (by decide) (ts := huntT) (SS := SS) (by decide) hunt_tsz (fun c hc => ⟨(hSS c hc).1, Nat.le_trans (hSS c hc).2 (by decide)⟩) [0, 0, 0, 0] (fun c hc => by simp at hc; omega)
  have hA : allOf huntT SS (nI [0, 0, 0, 0]) = huntT ++ huntT ++ huntT ++ huntT := by
    unfold allOf nI
    simp only [List.map_cons, List.map_nil]
    simp only [Int.toNat_natCast, hS]
    decide
  rw [hA] at e1 e2
  have hin : [0, 0, 0, 0] ∈ sols (gOf 4 huntT SS 1) 4 [] 1 := by
    rw [found_iff, gOf_length]
    refine ⟨rfl, fun c hc => by simp at hc; omega, ?_, ?_⟩
    · rw [← e1, ← rowsP_lead, nodup_pad (n := 4) (by decide)]
      · decide +kernel
      · intro r hr
        have := leadTo_rows (n := 4) (k := [0, 0, 0, 0].length * huntT.length) (F := huntT ++ huntT ++ huntT ++ huntT) (by decide) r (List.mem_of_mem_take hr)
        exact ⟨this.row, this.len⟩
    · rw [← e2]
      have h9 : prd 4 (huntT ++ huntT ++ huntT ++ huntT) = rnd 4 := by decide +kernel
      rw [h9]
      exact pad_rnd (by decide)
  have hall : ∀ t, t ∈ sols (gOf 4 huntT SS 1) 4 [] 1 → t = [0, 0, 0, 0] := fun t ht => by
    rw [found_iff, gOf_length] at ht
    obtain ⟨h1, h2, _⟩ := ht
    have : ∀ x, x ∈ t → x = 0 := fun x hx => by have := h2 x hx; omega
    match t, h1, this with
    | [a, b, c, d], _, h => rw [h a (by simp), h b (by simp), h c (by simp), h d (by simp)]
  have hs := sols_sorted (gOf 4 huntT SS 1) 4 [] 1
  generalize sols (gOf 4 huntT SS 1) 4 [] 1 = A at *
  match A, hin, hall, hs with
  | [], h, _, _ => cases h
  | [x], _, h, _ => rw [h x (by simp)]
  | x :: y :: z, _, h, hs =>
    exfalso
    have h1 := (List.pairwise_cons.1 hs).1 y (by simp)
    rw [h x (by simp), h y (by simp)] at h1
    exact ltl_irrefl _ h1

end Go.Proofs.Ytoiiadiimfohiaa

/- A slice of lists that came in reads as a list of lists. -/
namespace Go.Proofs.Ytoiiadiimfohiaa
open Go.RowKit Go.ChangeShapes Go.WideShapes

theorem ints_row {w : World} {a : Option Addr} {len cap : Nat} {zs : List Int} (hl : len ≤ cap) (hm : cap ≤ maxLen) (hz : zs.length = cap) (hn : a = none → cap = 0)
    (hc : ∀ x, a = some x → ∀ c, c < cap → w.cell? (x.add c) = some (.int .i64 (zs.getD c 0))) : Ints w (.slice a len cap) (zs.take len) := by
  rcases Nat.eq_zero_or_pos len with h0 | h0
  · subst h0
    exact Or.inl ⟨rfl, a, cap, rfl⟩
  · cases a with
    | none => have := hn rfl; omega
    | some x =>
      obtain ⟨b, off, rfl, hcell⟩ := ints_at (zs := zs) (fun i hi => hc x rfl i (by omega)) (by omega)
      have hlen : (zs.take len).length = len := by rw [List.length_take]; omega
      refine Or.inr ⟨b, off, cap, by rw [hlen], by omega, by omega, by unfold maxLen at hm; omega, ?_, fun j hj => ?_⟩
      · exact World.block_lt_of_cell? w _ (hcell 0 (by omega))
      · rw [hlen] at hj
        rw [hcell j (by omega)]
        simp [List.getD, hj]

theorem rows_all {w : World} {base : Nat} {a : Addr} {len cap : Nat} {A : Nat → Option Addr} {L C : Nat → Nat} {Z : Nat → List Int} (hl : len ≤ cap) (hm : cap ≤ maxLen)
    (h : ∀ r, r < cap → w.cell? (a.add r) = some (.slice (A r) (L r) (C r)) ∧ L r ≤ C r ∧ C r ≤ maxLen ∧ (Z r).length = C r ∧ (∀ n ∈ Z r, (Lit.int .i64 n).wf = true) ∧ (A r = none → C r = 0) ∧
        ∀ a', A r = some a' → base ≤ a'.block ∧ ∀ c, c < C r → w.cell? (a'.add c) = some (.int .i64 ((Z r).getD c 0))) :
    ∃ xss, IntsAll w (.slice (some a) len cap) xss := by
  refine ⟨(List.range len).map (fun r => (Z r).take (L r)), (List.range len).map (fun r => .slice (A r) (L r) (C r)), ?_, by simp, fun j hj => ?_⟩
  · rcases Nat.eq_zero_or_pos len with h0 | h0
    · subst h0
      exact Or.inl ⟨rfl, _, _, rfl⟩
    · obtain ⟨b, off, spot⟩ := a
      have hspot : spot = none := by simpa [Addr.add] using World.cell?_spot (h 0 (by omega)).1
      subst hspot
      refine Or.inr ⟨b, off, cap, by simp, by simpa using h0, by simpa using hl, by unfold maxLen at hm; omega, ?_, fun j hj => ?_⟩
      · exact World.block_lt_of_cell? w _ (h 0 (by omega)).1
      · simp at hj
        rw [← Addr.add_lit, (h j (by omega)).1]
        simp [List.getD, hj]
  · simp at hj
    have e1 : ((List.range len).map (fun r => Value.slice (A r) (L r) (C r))).getD j undef = .slice (A j) (L j) (C j) := by simp [List.getD, hj]
    have e2 : ((List.range len).map (fun r => (Z r).take (L r))).getD j [] = (Z j).take (L j) := by simp [List.getD, hj]
    rw [e1, e2]
    obtain ⟨_, a1, a2, a3, _, a5, a6⟩ := h j (by omega)
    exact ints_row a1 a2 a3 a5 (fun x hx => (a6 x hx).2)

end Go.Proofs.Ytoiiadiimfohiaa
