/- Joined: SbI, SbJ, SbK, SbL. -/
import Derived.Test.YtoiiadiimfohiaaJ14
import Derived.Test.YtoiiadiimfohiaaJ9
import Derived.Test.YtoiiadiimfohiaaJ12
import Derived.Deep.RegionHeld3
import Derived.Deep.Cut
/- Contract: the answer's CallsMay, at calls that may be. -/
namespace Go.Proofs.Ytoiiadiimfohiaa
open Go.RowKit
set_option maxRecDepth 20000
set_option linter.unusedVariables false

theorem pc_ok {n : Nat} {x : List Int} (h1 : 1 ≤ n) (h12 : n ≤ 12) (h : okc n 0 x = true) : pc n x = 0 := by
  unfold pc pck
  rw [if_pos (by omega), if_pos h]

set_option maxHeartbeats 16000000 in
theorem rcalls_ok (s : ByteArray) (n : Nat) (vp : Option Addr) (vc : Nat) (X : List (List Int)) (cv : Value) (cs : List (Int × List (List Int))) (w : World) (hs : s.size ≤ 1048576) (hn : isN (arunes s) = true) (h1 : 2 ≤ n) (h2 : n ≤ 12) (hl1 : 1 ≤ X.length) (hl2 : X.length ≤ 200)
    (hv : IntsAll w (.slice vp X.length vc) X) (hX : ∀ k, k < X.length → okc n 0 (X.getD k []) = true) (hcv : CallsAt w cv cs) (hco : CallsOk n X.length cs) (hc1 : 1 ≤ cs.length) (hc2 : cs.length ≤ 8) :
    Calls Try.prog 24 #[.agg #[.string s, .int .i64 n, .slice vp X.length vc], cv] w fun e w' => e = .returned (.int .i64 0) ∧ Below w.heap.size w w' := by
  obtain ⟨m, hm⟩ : ∃ m, Hid (X.length = m) := ⟨_, rfl⟩
  have HB0 := hide ((Below.refl w.heap.size w).alloc (Nat.le_refl _) (mbox s n (.slice vp X.length vc)))
  have HMM := hide (rmay_ok s n vp vc X (w.alloc (mbox s n (.slice vp X.length vc))) hs hn h1 h2 hl1 hl2 (hv.below HB0.out) (fun x hx => by
    obtain ⟨k, hk, e⟩ := List.getElem_of_mem hx
    have := hX k hk
    rw [List.getD_eq_getElem?_getD, List.getElem?_eq_getElem hk] at this
    subst e
    exact pc_ok (by omega) h2 this))
  rw [hm.out] at HB0 HMM hl1 hl2 ⊢
  obtain ⟨b, off, cap, rfl, hbl, hcc1, hcc2, hcr⟩ := hcv
  obtain ⟨C, hC⟩ : ∃ C, Hid (cs.length = C) := ⟨_, rfl⟩
  have HCR := hide hcr
  have HCO := hide hco
  rw [hC.out] at hc1 hc2 hcc1 ⊢
  obtain ⟨d0, d1, d2⟩ := mbox_cells w s n (.slice vp m vc)
  clear hcr hco hv hX hn
  go_enter Try.func24, Try.ntmps24
  go_wp2_with fail
  refine HMM.out.mono ?_
  rintro e w1 ⟨rfl, hb1⟩
  have k1 : w1.cell? ⟨w.heap.size, 1, none⟩ = some (.int .i64 n) := by rw [hb1.cell (p := ⟨w.heap.size, 1, none⟩) (by simp)]; exact d1
  have k2 : w1.cell? ⟨w.heap.size, 2, none⟩ = some (.slice vp m vc) := by rw [hb1.cell (p := ⟨w.heap.size, 2, none⟩) (by simp)]; exact d2
  have HB1 := hide (HB0.out.trans (hb1.mono HB0.out.size))
  clear hb1 HB0 HMM d0 d1 d2
  have g3 : ¬ (C : Int) < 1 := by omega
  have g4 : ¬ 8 < (C : Int) := by omega
  go_wp2
  go_loopw [6] (fun i wr => ∃ k : Nat, k ≤ C ∧ i = .int .i64 k ∧ Hid (Below w.heap.size w wr) ∧ wr.cell? ⟨w.heap.size, 1, none⟩ = some (.int .i64 n) ∧ wr.cell? ⟨w.heap.size, 2, none⟩ = some (.slice vp m vc)) (fun i _ => C - (intOf i).toNat)
  case atStart => exact ⟨0, by omega, rfl, HB1, k1, k2⟩
  case round =>
    obtain ⟨k, hk, rfl, hbw, k1, k2⟩ := hrel
    clear HB1
    by_cases hlt : k < C
    · have hkc : k < cs.length := by rw [hC.out]; exact hlt
      obtain ⟨u, hcs, hcu, hcI⟩ := HCR.out k hkc
      have hsg := HCO.out.sign k hkc
      have hfew := HCO.out.few k hkc
      obtain ⟨up, uc, rfl⟩ := hcI.len
      obtain ⟨Y, hY⟩ : ∃ Y, Hid ((cs.getD k (0, [])).2 = Y) := ⟨_, rfl⟩
      have HOK := hide (fun q (hq : q < Y.length) => (by rw [← hY.out] at hq ⊢; exact pc_ok (by omega) h2 (HCO.out.ok k hkc q hq) : pc n (Y.getD q []) = 0))
      have HDI := hide (fun j (hj : j < k) => HCO.out.dist j k hj hkc)
      rw [hY.out] at hcI hcu hfew
      rw [hm.out] at hfew
      obtain ⟨sg, hsg9⟩ : ∃ sg, Hid ((cs.getD k (0, [])).1 = sg) := ⟨_, rfl⟩
      rw [hsg9.out] at hcs hsg HDI
      have HYI := hide (fun (W : World) (hW : Below w.heap.size w W) => hcI.below hW)
      obtain ⟨N, hN⟩ : ∃ N, Hid (Y.length = N) := ⟨_, rfl⟩
      rw [hN.out] at hcu hfew HYI
      have HS := hide (fun W => signMay_any sg W)
      rw [hsg] at HS
      have hcs' := (hbw.out.cell (p := ⟨b, off + k * 2, none⟩) hbl).trans hcs
      clear hcI hsg hY
      go_wp2_with fail
      refine (HS.out _).mono ?_
      rintro e w2 ⟨rfl, rfl⟩
      clear hcs'
      go_wp2
      go_loopw [8] (fun i wr => ∃ j : Nat, j ≤ k ∧ i = .int .i64 j ∧ Hid (Below w.heap.size w wr) ∧ wr.cell? ⟨w.heap.size, 1, none⟩ = some (.int .i64 n) ∧ wr.cell? ⟨w.heap.size, 2, none⟩ = some (.slice vp m vc)) (fun i _ => k - (intOf i).toNat)
      case atStart => exact ⟨0, by omega, rfl, hbw, k1, k2⟩
      case round =>
        obtain ⟨j, hj, rfl, hbw2, l1, l2⟩ := hrel
        clear hbw k1 k2
        by_cases hjk : j < k
        · have hjc : j < cs.length := by omega
          obtain ⟨u2, hcs2, _, _⟩ := HCR.out j hjc
          have hne := HDI.out j hjk
          have a1 := (hbw2.out.cell (p := ⟨b, off + j * 2, none⟩) hbl).trans hcs2
          have a2 := (hbw2.out.cell (p := ⟨b, off + k * 2, none⟩) hbl).trans hcs
          generalize (cs.getD j (0, [])).1 = sj at *
          have hb9 : (sj == sg) = false := by rw [beq_eq_false_iff_ne]; exact hne
          go_upto_region 15 with fail
          go_quiet (fail)
          have hB3 := hide (below_drewN hbw2.out nq)
          have n1 : (_ : World).cell? ⟨w.heap.size, 1, none⟩ = some (.int .i64 n) := (show (World.drewN _ nq).cell? ⟨w.heap.size, 1, none⟩ = some (.int .i64 n) from l1)
          have n2 : (_ : World).cell? ⟨w.heap.size, 2, none⟩ = some (.slice vp m vc) := (show (World.drewN _ nq).cell? ⟨w.heap.size, 2, none⟩ = some (.slice vp m vc) from l2)
          clear a1 a2 l1 l2 hbw2
          go_wp2
          go_roundw
          case rel => exact ⟨j + 1, by omega, by go_num, hB3, n1, n2⟩
          case measure => simp [intOf]; omega
        · have a3 := (hbw2.out.cell (p := ⟨b, off + k * 2 + 1, none⟩) hbl).trans hcu
          have g9 : ¬ (m : Int) < (N : Int) := by omega
          go_upto_region 17 with fail
          go_quiet (fail)
          have hB3 := hide (below_drewN hbw2.out nq)
          have n1 : (_ : World).cell? ⟨w.heap.size, 1, none⟩ = some (.int .i64 n) := (show (World.drewN _ nq).cell? ⟨w.heap.size, 1, none⟩ = some (.int .i64 n) from l1)
          have n2 : (_ : World).cell? ⟨w.heap.size, 2, none⟩ = some (.slice vp m vc) := (show (World.drewN _ nq).cell? ⟨w.heap.size, 2, none⟩ = some (.slice vp m vc) from l2)
          clear a3 l1 l2 hbw2
          go_wp2
          go_loopw [9] (fun i wr => ∃ q : Nat, q ≤ N ∧ i = .int .i64 q ∧ Hid (Below w.heap.size w wr) ∧ wr.cell? ⟨w.heap.size, 1, none⟩ = some (.int .i64 n) ∧ wr.cell? ⟨w.heap.size, 2, none⟩ = some (.slice vp m vc)) (fun i _ => N - (intOf i).toNat)
          case atStart => exact ⟨0, by omega, rfl, hB3, n1, n2⟩
          case round =>
            obtain ⟨q, hq, rfl, hbw3, l1, l2⟩ := hrel
            clear hB3 n1 n2
            have a3 := (hbw3.out.cell (p := ⟨b, off + k * 2 + 1, none⟩) hbl).trans hcu
            by_cases hqN : q < N
            · have hqY : q < Y.length := by rw [hN.out]; exact hqN
              obtain ⟨yb, yo, ycap, hye, hyb, hyc1, hyc2, hycell⟩ := (HYI.out w (Below.refl _ _)).cell (by omega)
              rw [hN.out] at hye hyc1 hycell
              injection hye with e1 _ e3
              subst e1; subst e3
              obtain ⟨xp, xc, hxc, hxI⟩ := hycell q hqN
              have a4 := (hbw3.out.cell (p := ⟨yb, yo + q, none⟩) hyb).trans hxc
              have hz := HOK.out q hqY
              have HC := hide (fun (W : World) (hW : Below w.heap.size w W) => changeMay_all n (.slice xp (Y.getD q []).length xc) (Y.getD q []) W (hxI.out.below hW))
              rw [hz] at HC
              generalize (Y.getD q []).length = pl at *
              have HC2 : ∀ W : World, Below w.heap.size w W → Calls Try.prog 36 #[.int .i64 n, .slice xp pl xc] W fun e w' => e = .returned (.int .i64 0) ∧ W = w' := HC.out
              clear HC hz hxc hxI hycell
              go_upto_region 22 with fail
              go_quiet ((go_at_call 36; exact Calls.quiet_of_same ((HC2 _ (below_drewN hbw3.out _)).mono (fun e wq h => ⟨h.1, h.2.symm⟩))))
              have hB4 := hide (below_drewN hbw3.out nq)
              have p1 : (_ : World).cell? ⟨w.heap.size, 1, none⟩ = some (.int .i64 n) := (show (World.drewN _ nq).cell? ⟨w.heap.size, 1, none⟩ = some (.int .i64 n) from l1)
              have p2 : (_ : World).cell? ⟨w.heap.size, 2, none⟩ = some (.slice vp m vc) := (show (World.drewN _ nq).cell? ⟨w.heap.size, 2, none⟩ = some (.slice vp m vc) from l2)
              clear a3 a4 l1 l2 hbw3 HC2
              go_wp2
              go_roundw
              case rel => exact ⟨q + 1, by omega, by go_num, hB4, p1, p2⟩
              case measure => simp [intOf]; omega
            · have hqe : q = N := by omega
              go_wp2
              go_roundw
              case rel => exact ⟨k + 1, by omega, by go_num, hbw3, l1, l2⟩
              case measure => simp [intOf]; omega
    · go_wp2
      go_ret
      exact ⟨rfl, hbw.out⟩

end Go.Proofs.Ytoiiadiimfohiaa

/- The answer's Prove of a touch by calls, in packed rows. -/
namespace Go.Proofs.Ytoiiadiimfohiaa
open Go.RowKit
set_option maxRecDepth 20000
set_option linter.unusedVariables false

theorem tRows_snoc (G : List (List Pm × Pm)) : ∀ (P : List Nat) (h : Pm) (c : Nat), tRows G h (P ++ [c]) = tRows G h P ++ rws (tEnd G h P) (G.getD c ([], 1)).1 ∧ tEnd G h (P ++ [c]) = tEnd G h P * (G.getD c ([], 1)).2
  | [], h, c => by
    refine ⟨?_, rfl⟩
    show rws h _ ++ tRows G _ [] = [] ++ rws h _
    rw [List.nil_append]
    show rws h _ ++ [] = _
    rw [List.append_nil]
  | d :: P, h, c => by
    obtain ⟨h1, h2⟩ := tRows_snoc G P (h * (G.getD d ([], 1)).2) c
    refine ⟨?_, ?_⟩
    · show rws h _ ++ tRows G _ (P ++ [c]) = (rws h _ ++ tRows G _ P) ++ rws (tEnd G _ P) _
      rw [h1, List.append_assoc]
    · show tEnd G _ (P ++ [c]) = tEnd G _ P * _
      exact h2

/-- A beginning, and one call more. -/
theorem okl_iff (G : List (List Pm × Pm)) (P : List Nat) (c : Nat) : okl (tRows G 1 P).reverse (tEnd G 1 P) (G.getD c ([], 1)).1 ↔ (tRows G 1 (P ++ [c])).Nodup := by
  unfold okl
  rw [(tRows_snoc G P 1 c).1, ← List.reverse_append]
  exact (List.reverse_perm _).nodup_iff

set_option maxHeartbeats 2000000 in
/-- The answer's Prove, of a touch by calls. -/
theorem rprove_by (s : ByteArray) (n : Nat) (vp : Option Addr) (vc : Nat) (ts : List (List Bool)) (cv : Value) (cs : List (Int × List (List Int))) (SS : List (List (List Bool))) (lv : Value) (t : List Nat) (w : World) (h1 : 2 ≤ n) (h2 : n ≤ 12) (hl1 : 1 ≤ ts.length) (hl2 : ts.length ≤ 200)
    (hts : ∀ t, t ∈ ts → tsz t = n) (hv : IntsAll w (.slice vp ts.length vc) (ts.map tpl)) (hcv : CallsAt w cv cs)
    (hSS : ∀ c, c < cs.length → (cs.getD c (0, [])).2 = (SS.getD c []).map tpl ∧ (∀ t, t ∈ SS.getD c [] → tsz t = n) ∧ (SS.getD c []).length ≤ ts.length) (hI : Ints w lv (nI t)) (ht1 : 1 ≤ t.length) (ht2 : t.length ≤ 60) (hin : ∀ c, c ∈ t → c < cs.length) :
    Calls Try.prog 15 #[.agg #[.string s, .int .i64 n, .slice vp ts.length vc], cv, lv] w fun e w' => ∃ (r q : Bool) (i j : Int), e = .returned (.agg #[.int .i64 ((t.length * ts.length : Nat) : Int), .bool r, .bool q, .int .i64 i, .int .i64 j]) ∧ (q = true ↔ (tRows (gOf n ts SS cs.length) 1 t).Nodup) ∧ (r = true ↔ tEnd (gOf n ts SS cs.length) 1 t = 1) ∧ Below w.heap.size w w' := by
  have hLb : t.length * ts.length ≤ 60 * 200 := Nat.mul_le_mul ht2 hl2
  have hLa : 1 ≤ t.length * ts.length := Nat.mul_le_mul ht1 hl1
  obtain ⟨⟨e1, e2⟩, hFn⟩ := touch_pm (n := n) (C := cs.length) h2 hl1 hts (fun c hc => (hSS c hc).2) t hin
  have hrows : ∀ r, r ∈ leadTo n (allOf ts SS (nI t)) (t.length * ts.length) → isRow r ∧ r.length = n := fun r hr => by
    have := leadTo_rows hFn r hr
    exact ⟨this.row, this.len⟩
  refine (rprove_ok s n vp ts.length vc cv lv (t.length * ts.length) (leadTo n (allOf ts SS (nI t)) (t.length * ts.length)) w (by omega) h2 hLa (by omega) (leadTo_length _ _ _) hrows (by obtain ⟨b, off, cap, e, _⟩ := hcv; exact ⟨_, _, _, e⟩) (by obtain ⟨p, c, e⟩ := hI.form; exact ⟨_, _, _, e⟩) (fun W hW => rtouch_ok s n vp vc ts cv cs SS lv t W (by omega) h2 hl1 hl2 hts (hv.below hW) (hcv.below hW) (fun c hc => ⟨(hSS c hc).1, (hSS c hc).2.1, (hSS c hc).2.2⟩) (hI.below hW) ht2 hin)).mono ?_
  rintro e w' ⟨r, q, i, j, rfl, hq, hr, hb⟩
  refine ⟨r, q, i, j, rfl, ?_, ?_, hb⟩
  · rw [hq, ← e1, ← rowsP_lead, nodup_pad h2 (fun x hx => hrows x (List.mem_of_mem_take hx))]
  · have hlenA : (allOf ts SS (nI t)).length = t.length * ts.length := by
      unfold allOf
      rw [flat_length (K := ts.length) _ (fun g hg => ?_), List.length_map]
      · simp [nI]
      · obtain ⟨l, hl, rfl⟩ := List.mem_map.1 hg
        unfold nI at hl
        obtain ⟨c, hc, rfl⟩ := List.mem_map.1 hl
        rw [Int.toNat_natCast]
        exact calledBy_length (hSS c (hin c hc)).2.2
    have hL : (leadTo n (allOf ts SS (nI t)) (t.length * ts.length)).getD (t.length * ts.length) [] = prd n (allOf ts SS (nI t)) := by rw [leadTo_get (Nat.le_refl _), List.take_of_length_le (by omega)]
    have hpr := prd_row n (allOf ts SS (nI t)) hFn
    rw [hr, hL, ← e2]
    constructor
    · intro h; rw [h]; exact pad_rnd h2
    · intro h
      have h9 := (nodup_pad (n := n) h2 (L := [prd n (allOf ts SS (nI t)), rnd n]) (fun x hx => by
        rcases List.mem_cons.1 hx with rfl | hx
        · exact hpr
        · simp at hx; subst hx; exact ⟨isRow_rnd n, rnd_length n⟩))
      apply Classical.byContradiction
      intro hne
      have h8 := h9.2 (by simp [hne])
      rw [List.map_cons, List.map_cons, h, pad_rnd h2] at h8
      simp at h8

end Go.Proofs.Ytoiiadiimfohiaa

/- A quest of the answer's, in memory. -/
namespace Go.Proofs.Ytoiiadiimfohiaa
open Go.RowKit
set_option maxRecDepth 20000
set_option linter.unusedVariables false

/-- A quest's cells. -/
abbrev qC (s : ByteArray) (n : Int) (mv cv : Value) (leads many met : Nat) (fv : Value) : Obj := .cells #[.string s, .int .i64 n, mv, cv, .int .i64 leads, .int .i64 many, .int .i64 met, fv, .bool false] 92

theorem cells9 {W : World} {B : Nat} {a b c d e f g h i : Value} {t : TypeId} (hh : W.heap[B]? = some (.cells #[a, b, c, d, e, f, g, h, i] t)) :
    W.cell? ⟨B, 0, none⟩ = some a ∧ W.cell? ⟨B, 1, none⟩ = some b ∧ W.cell? ⟨B, 2, none⟩ = some c ∧ W.cell? ⟨B, 3, none⟩ = some d ∧ W.cell? ⟨B, 4, none⟩ = some e ∧ W.cell? ⟨B, 5, none⟩ = some f ∧ W.cell? ⟨B, 6, none⟩ = some g ∧ W.cell? ⟨B, 7, none⟩ = some h ∧ W.cell? ⟨B, 8, none⟩ = some i ∧ W.frozen? ⟨B, 6, none⟩ = false ∧ W.frozen? ⟨B, 7, none⟩ = false := by
  simp [World.cell?, World.frozen?, hh]

/-- What a call of Go leaves as it was. -/
structure FrG (Q : Nat) (fv : Value) (W W' : World) : Prop where
  os : W'.os = W.os
  tape : W'.tape = W.tape
  output : W'.output = W.output
  size : W.heap.size ≤ W'.heap.size
  block : ∀ g, g < W.heap.size → g ≠ Q → fv.ownBlock ≠ some g → W'.heap[g]? = W.heap[g]?

/-- The row of what is found lies where it lay, or is new. -/
def OwnRel (W : World) (fv fv' : Value) : Prop := fv'.ownBlock = fv.ownBlock ∨ ∃ g, W.heap.size ≤ g ∧ fv'.ownBlock = some g

theorem OwnRel.refl (W : World) (fv : Value) : OwnRel W fv fv := Or.inl rfl

theorem OwnRel.trans {W W1 : World} {a b c : Value} (h : OwnRel W a b) (k : OwnRel W1 b c) (hs : W.heap.size ≤ W1.heap.size) : OwnRel W a c := by
  rcases k with k | ⟨g, hg, k⟩
  · rcases h with h | ⟨g, hg, h⟩
    · exact Or.inl (k.trans h)
    · exact Or.inr ⟨g, hg, k.trans h⟩
  · exact Or.inr ⟨g, by omega, k⟩

theorem FrG.refl (Q : Nat) (fv : Value) (W : World) : FrG Q fv W W := ⟨rfl, rfl, rfl, Nat.le_refl _, fun _ _ _ _ => rfl⟩

theorem FrG.trans {Q : Nat} {a b : Value} {W W1 W2 : World} (h : FrG Q a W W1) (r : OwnRel W a b) (k : FrG Q b W1 W2) : FrG Q a W W2 :=
  ⟨k.os.trans h.os, k.tape.trans h.tape, k.output.trans h.output, Nat.le_trans h.size k.size, fun g hg hq hf => by
    refine (k.block g (Nat.lt_of_lt_of_le hg h.size) hq (fun e => ?_)).trans (h.block g hg hq hf)
    rcases r with r | ⟨g', hg', r⟩
    · exact hf (r.symm.trans e)
    · rw [r] at e
      injection e with e
      omega⟩

theorem FrG.below {Q : Nat} {fv : Value} {W W' : World} (h : Below W.heap.size W W') : FrG Q fv W W' := ⟨h.os, h.tape, h.output, h.size, fun g hg _ _ => h.block g hg⟩

theorem FrG.set {Q j : Nat} {fv u : Value} {W : World} : FrG Q fv W (W.setCell ⟨Q, j, none⟩ u) := ⟨rfl, rfl, rfl, by simp [World.setCell], fun g _ hq _ => Below.heap_setCell _ _ _ _ (by exact hq)⟩

theorem FrG.grown {Q : Nat} {fv : Value} {W W' : World} (h : W.grownBy W' fv.ownBlock) : FrG Q fv W W' := ⟨h.os, h.tape, h.output, h.size, fun g hg _ hf => h.block g hg (fun e => hf e.symm)⟩

/-- A quest of the answer's, as it lies. -/
structure QR (w0 W : World) (Q : Nat) (o : Nat → Value → Obj) (met : Nat) (F : List (List Nat)) (fv : Value) : Prop where
  blk : W.heap[Q]? = some (o met fv)
  ll : ∃ fs, LL W (Q + 1) fv fs (F.map nI)
  bl : Below w0.heap.size w0 W
  lo : w0.heap.size ≤ Q
  sz : Q + 1 ≤ W.heap.size

section
variable {w0 W W' : World} {Q met : Nat} {o : Nat → Value → Obj} {F : List (List Nat)} {fv : Value}

theorem QR.below (h : QR w0 W Q o met F fv) (hb : Below W.heap.size W W') : QR w0 W' Q o met F fv := by
  obtain ⟨fs, hl⟩ := h.ll
  exact ⟨(hb.block Q (by have := h.sz; omega)).trans h.blk, ⟨fs, hl.below hb⟩, h.bl.trans (hb.mono h.bl.size), h.lo, Nat.le_trans h.sz hb.size⟩

theorem QR.frow (h : QR w0 W Q o met F fv) : ∃ fs, W.ownsRow (Q + 1) 26 1 fv F.length fs ∧ fs.length = F.length := by
  obtain ⟨fs, hl⟩ := h.ll
  have hn : fs.length = F.length := by rw [hl.len, List.length_map]
  exact ⟨fs, by rw [← hn]; exact hl.row, hn⟩

/-- A row of ints above the quest is kept. -/
theorem QR.path (h : QR w0 W Q o met F fv) {pv : Value} {m : Nat} {xs : List Value} (hp : W.ownsRow (Q + 1) 3 1 pv m xs) (hf : FrG Q fv W W') : W'.ownsRow (Q + 1) 3 1 pv m xs := by
  obtain ⟨fs, hr, _⟩ := h.frow
  refine owns_block hp (fun g e => hf.block g (hp.lt g e).2 (by have := (hp.lt g e).1; omega) (fun e2 => ?_))
  rcases hp.2 with ⟨rfl, _⟩ | ⟨g1, c1, cur1, rfl, _, hh1, _⟩
  · cases e
  · rcases hr.2 with ⟨rfl, _⟩ | ⟨g2, c2, cur2, rfl, _, hh2, _⟩
    · cases e2
    · have e1' : g1 = g := by simpa [Value.ownBlock] using e
      have e2' : g2 = g := by simpa [Value.ownBlock] using e2
      subst e1'; subst e2'
      rw [hh1] at hh2
      injection hh2 with hh2
      injection hh2 with _ e9 _
      exact absurd e9 (by decide)

theorem FrG.bel (h : FrG Q fv W W') (hq : QR w0 W Q o met F fv) : Below Q W W' := by
  obtain ⟨fs, hr, _⟩ := hq.frow
  exact ⟨h.os, h.tape, h.output, h.size, fun g hg => h.block g (by have := hq.sz; omega) (by omega) (fun e => by have := (hr.lt g e).1; omega)⟩

end

/-- One beginning more that was met. -/
theorem QR.meet {w0 W : World} {Q met leads many : Nat} {s : ByteArray} {n : Int} {mv cv : Value} {F : List (List Nat)} {fv : Value} (h : QR w0 W Q (qC s n mv cv leads many) met F fv) (m' : Nat) : QR w0 (W.setCell ⟨Q, 6, none⟩ (.int .i64 (m' : Int))) Q (qC s n mv cv leads many) m' F fv := by
  obtain ⟨fs, hl⟩ := h.ll
  refine ⟨?_, ⟨fs, hl.frm' (fun b hb _ => Below.heap_setCell _ _ _ _ (by show b ≠ Q; omega))⟩, h.bl.setCell h.lo _, h.lo, by simp [World.setCell]; exact h.sz⟩
  simp [World.setCell, Array.getElem?_modify, h.blk]

/-- One touch more is found. -/
theorem QR.found {w0 W W1 : World} {Q met leads many : Nat} {s : ByteArray} {n : Int} {mv cv : Value} {F : List (List Nat)} {fv fv' pv : Value} {fs : List Value} {p : List Nat} {ob : Obj} (h : QR w0 W Q (qC s n mv cv leads many) met F fv) (hl : LL W (Q + 1) fv fs (F.map nI)) (hp : W.ownsRow (Q + 1) 3 1 pv (nI p).length ((nI p).map (Value.int .i64)))
    (h4 : W1.ownsRow (Q + 1) 26 1 fv' (fs.length + 1) (fs ++ [pv])) (hg : (W.alloc ob).grownBy W1 fv.ownBlock) : QR w0 (W1.setCell ⟨Q, 7, none⟩ fv') Q (qC s n mv cv leads many) met (F ++ [p]) fv' := by
  have hL := hl.push hp h4 hg
  have hsz := h.sz
  have hlo := h.lo
  have hne : fv.ownBlock ≠ some Q := fun e => by have := (hl.row.lt Q e).1; omega
  have hb1 : W1.heap[Q]? = some (qC s n mv cv leads many met fv) := (hg.block Q (by simp; omega) (fun e => hne e.symm)).trans ((Below.heap_alloc W ob Q (by omega)).trans h.blk)
  have hB1 : Below w0.heap.size w0 W1 := (h.bl.alloc (by omega) ob).grown hg (by simp; omega) (fun g e => by have := (hl.row.lt g e).1; omega)
  refine ⟨?_, ⟨fs ++ [pv], ?_⟩, hB1.setCell hlo _, hlo, ?_⟩
  · simp [World.setCell, Array.getElem?_modify, hb1]
  · rw [List.map_append]
    exact hL.frm' (fun b hb _ => Below.heap_setCell _ _ _ _ (by show b ≠ Q; omega))
  · have := hg.size
    simp [World.setCell] at this ⊢
    omega

end Go.Proofs.Ytoiiadiimfohiaa

/- Contract: the answer's Quest.Go. -/
namespace Go.Proofs.Ytoiiadiimfohiaa
open Go.RowKit
set_option maxRecDepth 20000
set_option linter.unusedVariables false

/-- What Prove says of beginnings. -/
def ProveBy (w0 : World) (s : ByteArray) (n : Nat) (mv cv : Value) (G : List (List Pm × Pm)) (C : Nat) : Prop :=
  ∀ (W : World) (p : List Nat) (pv : Value), Below w0.heap.size w0 W → Ints W pv (nI p) → 1 ≤ p.length → p.length ≤ 24 → (∀ c, c ∈ p → c < C) →
    Calls Try.prog 15 #[.agg #[.string s, .int .i64 n, mv], cv, pv] W fun e w' => ∃ (N : Int) (r q : Bool) (i j : Int), e = .returned (.agg #[.int .i64 N, .bool r, .bool q, .int .i64 i, .int .i64 j]) ∧ (q = true ↔ (tRows G 1 p).Nodup) ∧ (r = true ↔ tEnd G 1 p = 1) ∧ Below W.heap.size W w'

/-- What a call of Go leaves. -/
def GoPost (w0 : World) (Q : Nat) (o : Nat → Value → Obj) (G : List (List Pm × Pm)) (many C l : Nat) (P : List Nat) (met : Nat) (F : List (List Nat)) (fv : Value) (W : World) (e : Ending) (w' : World) : Prop :=
  ∃ met' fv', e = .returned (.tuple #[]) ∧ QR w0 w' Q o met' (fnd many F P (sols G l (tRows G 1 P).reverse (tEnd G 1 P))) fv' ∧ FrG Q fv W w' ∧ OwnRel W fv fv' ∧ met' ≤ met + bnd C l

theorem nI_snoc (P : List Nat) (k : Nat) : nI (P ++ [k]) = nI P ++ [(k : Int)] := by simp [nI]

/-- What one call more brings. -/
theorem solBy_no {G : List (List Pm × Pm)} {l : Nat} {P : List Nat} {k : Nat} (h : ¬ (tRows G 1 (P ++ [k])).Nodup) : solBy G l (tRows G 1 P).reverse (tEnd G 1 P) k = [] := by
  unfold solBy
  rw [if_neg (fun e => h ((okl_iff G P k).1 e))]

theorem solBy_yes {G : List (List Pm × Pm)} {l : Nat} {P : List Nat} {k : Nat} (h : (tRows G 1 (P ++ [k])).Nodup) : solBy G l (tRows G 1 P).reverse (tEnd G 1 P) k = (sols G l (tRows G 1 (P ++ [k])).reverse (tEnd G 1 (P ++ [k]))).map (fun t => k :: t) := by
  unfold solBy
  rw [if_pos ((okl_iff G P k).2 h), (tRows_snoc G P 1 k).1, (tRows_snoc G P 1 k).2, List.reverse_append]

theorem solTo_split (G : List (List Pm × Pm)) (l : Nat) (S : List Pm) (h : Pm) {k C : Nat} (hk : k ≤ C) : ∃ B, solTo G l S h C = solTo G l S h k ++ B := by
  induction C with
  | zero => exact ⟨[], by rw [List.append_nil]; congr 1; omega⟩
  | succ C ih =>
    rcases Nat.lt_or_ge C k with h9 | h9
    · obtain rfl : k = C + 1 := by omega
      exact ⟨[], by rw [List.append_nil]⟩
    · obtain ⟨B, hB⟩ := ih h9
      exact ⟨B ++ solBy G l S h C, by rw [solTo_succ, hB, List.append_assoc]⟩

theorem sols_no {G : List (List Pm × Pm)} {l : Nat} {S : List Pm} {h : Pm} (hl : l = 0) (hh : ¬ h = 1) : sols G l S h = [] := by
  subst hl
  unfold sols
  rw [if_neg hh]

theorem sols_yes {G : List (List Pm × Pm)} {l : Nat} {S : List Pm} {h : Pm} (hl : l = 0) (hh : h = 1) : sols G l S h = [[]] := by
  subst hl
  unfold sols
  rw [if_pos hh]

theorem rowF {w : World} {base e n : Nat} {v : Value} {xs : List Value} (h : w.ownsRow base e 1 v n xs) : ∃ p c, v = .slice p n c := by
  rcases h.2 with ⟨e, e2⟩ | ⟨g, c, cur, e, _⟩
  · exact ⟨_, _, by rw [e, e2]⟩
  · exact ⟨_, _, e⟩

theorem emptyI (w : World) (base : Nat) (hb : base ≤ w.heap.size) : (w.alloc (.cells #[] 3)).ownsRow base 3 1 (.slice (some ⟨w.heap.size, 0, none⟩) 0 0) 0 [] :=
  ⟨rfl, Or.inr ⟨w.heap.size, 0, #[], rfl, hb, heap_alloc_new w _, Nat.le_refl _, by unfold maxLen; omega, rfl, rfl⟩⟩

set_option maxHeartbeats 16000000 in
theorem go_step (w0 : World) (s : ByteArray) (n : Nat) (mv : Value) (cb co C cc leads many : Nat) (G : List (List Pm × Pm)) (Q : Nat) (hG : G.length = C) (hC : C ≤ 8) (hcc : C ≤ cc) (hcc2 : cc ≤ 9223372036854775807) (hle : leads ≤ 24) (hmy : many ≤ 50) (hmv : ∃ vp K vc, mv = .slice vp K vc) (HP : ProveBy w0 s n mv (.slice (some ⟨cb, co, none⟩) C cc) G C) (l : Nat)
    (IH : ∀ (P : List Nat) (W : World) (met : Nat) (F : List (List Nat)) (fv pv : Value), 1 ≤ l → P.length + l = leads → (∀ c, c ∈ P → c < C) → QR w0 W Q (qC s n mv (.slice (some ⟨cb, co, none⟩) C cc) leads many) met F fv → W.ownsRow (Q + 1) 3 1 pv P.length ((nI P).map (Value.int .i64)) → F.length ≤ many → met + bnd C l ≤ 20000 → Calls Try.prog 50 #[.pointer (some ⟨Q, 0, none⟩), pv] W (GoPost w0 Q (qC s n mv (.slice (some ⟨cb, co, none⟩) C cc) leads many) G many C l P met F fv W))
    (P : List Nat) (W : World) (met : Nat) (F : List (List Nat)) (fv pv : Value) (hPl : P.length + (l + 1) = leads) (hPc : ∀ c, c ∈ P → c < C) (hQ : QR w0 W Q (qC s n mv (.slice (some ⟨cb, co, none⟩) C cc) leads many) met F fv) (hpv : W.ownsRow (Q + 1) 3 1 pv P.length ((nI P).map (Value.int .i64))) (hF : F.length ≤ many) (hmt : met + bnd C (l + 1) ≤ 20000) :
    Calls Try.prog 50 #[.pointer (some ⟨Q, 0, none⟩), pv] W (GoPost w0 Q (qC s n mv (.slice (some ⟨cb, co, none⟩) C cc) leads many) G many C (l + 1) P met F fv W) := by
  obtain ⟨vp, K, vc, rfl⟩ := hmv
  obtain ⟨i0, hi, hz0, hz1, hz2⟩ := info_parts Try.info26
  obtain ⟨j0, hj, hy0, hy1, hy2⟩ := info_parts Try.info3
  obtain ⟨pp, pc, rfl⟩ : ∃ p c, pv = .slice p P.length c := by
    rcases hpv.2 with ⟨e, e2⟩ | ⟨g, c, cur, e, _⟩
    · exact ⟨_, _, by rw [e, e2]⟩
    · exact ⟨_, _, e⟩
  have HIH := hide IH
  have HPB := hide HP
  have HPC := hide hPc
  obtain ⟨pl, hpl⟩ : ∃ pl, Hid (P.length = pl) := ⟨_, rfl⟩
  have hpl2 : pl + (l + 1) = leads := by rw [← hpl.out]; exact hPl
  have hbd : Hid (bnd C (l + 1) = C * (1 + bnd C l)) := rfl
  have Q0 : Hid (QR w0 W Q (qC s n (.slice vp K vc) (.slice (some ⟨cb, co, none⟩) C cc) leads many) met (fnd many F P (solTo G l (tRows G 1 P).reverse (tEnd G 1 P) 0)) fv) := by
    have : solTo G l (tRows G 1 P).reverse (tEnd G 1 P) 0 = [] := rfl
    rw [this, fnd_nil P hF]
    exact hQ
  have HPV := hide hpv
  have HQ0 := hide hQ
  rw [hpl.out] at HPV
  have HMT := hide hmt
  rw [hpl.out]
  clear IH HP hPc hQ hpv hPl hmt
  go_enter Try.func50, Try.ntmps50
  go_wp2
  go_loopw [4] (fun i wr => ∃ (k met' : Nat) (fv' : Value), k ≤ C ∧ i = .int .i64 k ∧ Hid (QR w0 wr Q (qC s n (.slice vp K vc) (.slice (some ⟨cb, co, none⟩) C cc) leads many) met' (fnd many F P (solTo G l (tRows G 1 P).reverse (tEnd G 1 P) k)) fv') ∧ Hid (FrG Q fv W wr) ∧ Hid (OwnRel W fv fv') ∧ Hid (met' ≤ met + k * (1 + bnd C l))) (fun i _ => C - (intOf i).toNat)
  case atStart => exact ⟨0, met, fv, by omega, rfl, Q0.out, FrG.refl _ _ _, OwnRel.refl _ _, (by show met ≤ met + 0 * (1 + bnd C l); omega)⟩
  case round =>
    obtain ⟨k, met1, fv1, hk, rfl, hQ1, hFr, hOR, hme⟩ := hrel
    clear Q0
    obtain ⟨Fk, hFk⟩ : ∃ Fk, Hid (fnd many F P (solTo G l (tRows G 1 P).reverse (tEnd G 1 P) k) = Fk) := ⟨_, rfl⟩
    rw [hFk.out] at hQ1
    have hFkl : Fk.length ≤ many := by rw [← hFk.out]; exact fnd_len _ _ _ _
    obtain ⟨fs0, hfr0, hfl0⟩ := hQ1.out.frow
    obtain ⟨fp, fc, rfl⟩ : ∃ p c, fv1 = .slice p Fk.length c := by
      rcases hfr0.2 with ⟨e, e2⟩ | ⟨g, c, cur, e, _⟩
      · exact ⟨_, _, by rw [e, e2]⟩
      · exact ⟨_, _, e⟩
    clear hfr0 hfl0
    obtain ⟨x0, x1, x2, x3, x4, x5, x6, x7, x8, y6, y7⟩ := cells9 hQ1.out.blk
    have hkm : k * (1 + bnd C l) ≤ C * (1 + bnd C l) := Nat.mul_le_mul_right _ hk
    have hmb : met1 ≤ 20000 := by have := hme.out; have := HMT.out; rw [hbd.out] at this; omega
    by_cases hlt : k < C
    · by_cases hfm : Fk.length < many
      · have d1 : decide ((k : Int) < (C : Int)) = true := decide_eq_true (by omega)
        have d2 : decide ((Fk.length : Int) < (many : Int)) = true := decide_eq_true (by omega)
        generalize hfl9 : Fk.length = fl at *
        have HFL := hide hfl9
        clear hfl9
        go_upto_region 1 with fail
        go_quiet (fail)
        have hQ2 := hide (hQ1.out.below (below_drewN (Below.refl _ _) nq))
        have hFr2 := hide (hFr.out.trans hOR.out (FrG.below (Q := Q) (fv := .slice fp fl fc) (below_drewN (Below.refl _ _) nq)))
        have hPv2 := hide (HQ0.out.path HPV.out hFr2.out)
        clear hQ1 hFr x0 x1 x2 x3 x4 x5 x6 x7 x8 y6 y7
        generalize World.drewN _ nq = w2 at *
        have hsz2 := hQ2.out.sz
        have hE := hide (emptyI w2 w2.heap.size (Nat.le_refl _))
        have hB2 := hide ((Below.refl w2.heap.size w2).alloc (Nat.le_refl _) (.cells #[] 3))
        have hVP := hide ((Vals.own (by rw [List.length_map, show (nI P).length = pl from by simp [nI]; exact hpl.out]; exact hPv2.out)).below hB2.out)
        have hnl : Hid (((nI P).map (Value.int .i64)).length = pl) := by show _ = _; simp [nI]; exact hpl.out
        go_upto_region 4 with (first
          | (at_builtin; refine wpList_append_vals rfl _ _ 26 rfl w2.heap.size 3 j0 (.int .i64 0) 8 Try.underlying26 hj hy0 hy1 hy2 rfl (.slice (some ⟨w2.heap.size, 0, none⟩) 0 0) 0 [] rfl hE.out (.slice pp pl pc) ((nI P).map (Value.int .i64)) rfl hVP.out (fun u hu => by rw [List.mem_map] at hu; obtain ⟨_, _, rfl⟩ := hu; rfl) (by rw [hnl.out]; unfold maxLen; omega) (by rw [hnl.out]; omega) (by simp) ?_; intro v3 w3 hown3 hg3; have O3 := hide (show w3.ownsRow w2.heap.size 3 1 v3 pl ((nI P).map (Value.int .i64)) by (have h9 := hown3; simp only [List.nil_append, Nat.zero_add, hnl.out] at h9; exact h9)); have B3 := hide (hB2.out.grown hg3 (by simp) (fun g e => (hE.out.lt g e).1)); clear hown3 hg3)
          | (at_builtin; refine wpList_append_keep _ rfl _ _ 26 rfl w2.heap.size 3 j0 (.int .i64 0) 1 8 Try.underlying26 hj hy0 hy1 hy2 rfl (by decide) v3 pl ((nI P).map (Value.int .i64)) rfl (O3.out.alloc _) ⟨w3.heap.size, 0, none⟩ 1 1 [.int .i64 (k : Int)] rfl rfl (cell_one_new _ _ _) (fun u hu => by simp at hu; subst hu; rfl) (by unfold maxLen; omega) (by omega) (by have := B3.out.size; simp; omega) ?_; intro v4 w4 hown4 hg4 _; have O4 := hide hown4; have B4 := hide ((B3.out.alloc B3.out.size _).grown hg4 (by have := B3.out.size; simp; omega) (fun g e => (O3.out.lt g e).1)); clear hown4 hg4 O3 B3))
        clear hE hB2 hVP
        have hQ4 := hide (hQ2.out.below B4.out)
        have hFr4 := hide (hFr2.out.trans hOR.out (FrG.below (Q := Q) (fv := .slice fp fl fc) B4.out))
        have O4' : w4.ownsRow w2.heap.size 3 1 v4 (pl + 1) ((nI (P ++ [k])).map (Value.int .i64)) := by rw [nI_snoc, List.map_append]; exact O4.out
        have hsz4 : w2.heap.size ≤ w4.heap.size := B4.out.size
        obtain ⟨g4, c4, rfl, hg41, hg42, hc41, hc42⟩ := owns_form O4' (by omega)
        have OP4 := hide (owns_base O4' (show Q + 1 ≤ w2.heap.size by omega))
        have hpk : ∀ c, c ∈ P ++ [k] → c < C := fun c hc => by
          rcases List.mem_append.1 hc with h | h
          · exact HPC.out c h
          · simp at h; omega
        have HPR := hide (fun (W9 : World) (hW9 : Below w4.heap.size w4 W9) => HPB.out W9 (P ++ [k]) (.slice (some ⟨g4, 0, none⟩) (pl + 1) c4) (hQ4.out.bl.trans (hW9.mono hQ4.out.bl.size)) ((Ints.own OP4.out).below hW9) (by simp) (by rw [List.length_append, hpl.out, List.length_singleton]; omega) hpk)
        obtain ⟨x0, x1, x2, x3, x4, x5, x6, x7, x8, y6, y7⟩ := cells9 hQ4.out.blk
        clear O4 O4' B4 hQ2 hFr2 hPv2 hnl
        refine wp_region_held_drew (S := fun W' => W'.cell? ⟨Q, 0, none⟩ = some (.string s) ∧ W'.cell? ⟨Q, 1, none⟩ = some (.int .i64 n) ∧ W'.cell? ⟨Q, 2, none⟩ = some (.slice vp K vc) ∧ W'.cell? ⟨Q, 3, none⟩ = some (.slice (some ⟨cb, co, none⟩) C cc)) (by kernel_rfl) ⟨x0, x1, x2, x3⟩ (fun hS => ?_)
        refine wpAnyH_take (i := 0) (v := .pointer (some ⟨Q, 0, none⟩)) rfl (by kernel_rfl) (by kernel_rfl) (by kernel_rfl) (fun _ _ _ h => h) (Or.inl ⟨by kernel_rfl, fun w' hS' => by obtain ⟨q0, q1, q2, q3⟩ := hS'; go_simp⟩) hS ?_
        refine wpAnyH_take (i := 1) (v := .pointer (some ⟨Q, 0, none⟩)) rfl (by kernel_rfl) (by kernel_rfl) (by kernel_rfl) (fun _ _ _ h => h) (Or.inl ⟨by kernel_rfl, fun w' hS' => by obtain ⟨q0, q1, q2, q3⟩ := hS'; go_simp⟩) hS ?_
        refine wpAnyH_take (i := 2) (v := .pointer (some ⟨Q, 0, none⟩)) rfl (by kernel_rfl) (by kernel_rfl) (by kernel_rfl) (fun _ _ _ h => h) (Or.inl ⟨by kernel_rfl, fun w' hS' => by obtain ⟨q0, q1, q2, q3⟩ := hS'; go_simp⟩) hS ?_
        refine wpAnyH_take (i := 3) (v := .agg #[.string s, .int .i64 n, .slice vp K vc]) rfl (by kernel_rfl) (by kernel_rfl) (by kernel_rfl) (fun _ _ _ h => h) (Or.inl ⟨by kernel_rfl, fun w' hS' => by obtain ⟨q0, q1, q2, q3⟩ := hS'; go_simp⟩) hS ?_
        refine wpAnyH_take (i := 4) (v := .pointer (some ⟨Q, 0, none⟩)) rfl (by kernel_rfl) (by kernel_rfl) (by kernel_rfl) (fun _ _ _ h => h) (Or.inl ⟨by kernel_rfl, fun w' hS' => by obtain ⟨q0, q1, q2, q3⟩ := hS'; go_simp⟩) hS ?_
        refine wpAnyH_take (i := 5) (v := .pointer (some ⟨Q, 0, none⟩)) rfl (by kernel_rfl) (by kernel_rfl) (by kernel_rfl) (fun _ _ _ h => h) (Or.inl ⟨by kernel_rfl, fun w' hS' => by obtain ⟨q0, q1, q2, q3⟩ := hS'; go_simp⟩) hS ?_
        refine wpAnyH_take (i := 6) (v := .pointer (some ⟨Q, 3, none⟩)) rfl (by kernel_rfl) (by kernel_rfl) (by kernel_rfl) (fun _ _ _ h => h) (Or.inl ⟨by kernel_rfl, fun w' hS' => by obtain ⟨q0, q1, q2, q3⟩ := hS'; go_simp⟩) hS ?_
        refine wpAnyH_take (i := 7) (v := .slice (some ⟨cb, co, none⟩) C cc) rfl (by kernel_rfl) (by kernel_rfl) (by kernel_rfl) (fun _ _ _ h => h) (Or.inl ⟨by kernel_rfl, fun w' hS' => by obtain ⟨q0, q1, q2, q3⟩ := hS'; go_simp⟩) hS ?_
        refine wpAnyH_take (i := 8) (v := .slice (some ⟨g4, 0, none⟩) (pl + 1) c4) rfl (by kernel_rfl) (by kernel_rfl) (by kernel_rfl) (fun _ _ _ h => h) (Or.inl ⟨by kernel_rfl, fun w' hS' => by obtain ⟨q0, q1, q2, q3⟩ := hS'; go_simp⟩) hS ?_
        have hQlt : Q < w4.heap.size := by omega
        refine wpAnyH_ready (rs := [9, 10]) (by kernel_rfl) (by simp) ?_
        refine AllReadyH.cons rfl (fun K9 hK9 => ?_) (AllReadyH.cons rfl (fun K9 hK9 => ?_) AllReadyH.nil)
        · go_simp
          refine (HPR.out w4.drew ((Below.refl _ _).drew)).mono ?_
          rintro e w5 ⟨N9, r9, q9, i9, j9, rfl, hq9, hr9, hb5⟩
          have hB5 : Below w4.heap.size w4 w5 := (Below.refl _ _).drew.trans hb5
          have hs5 := hB5.size
          have hkp : ∀ j, w5.cell? ⟨Q, j, none⟩ = w4.cell? ⟨Q, j, none⟩ := fun j => hB5.cell (p := ⟨Q, j, none⟩) hQlt
          refine hK9.out _ _ ⟨by rw [hkp]; exact x0, by rw [hkp]; exact x1, by rw [hkp]; exact x2, by rw [hkp]; exact x3⟩ (fun hS => ?_)
          clear hK9
          refine wpAnyH_ready (rs := [10]) (by kernel_rfl) (by simp) ?_
          refine AllReadyH.cons rfl (fun K9 hK9 => ?_) AllReadyH.nil
          go_simp
          have hB6 : Below w4.heap.size w4 (w5.alloc (repC 0 false false 0 0)) := hB5.alloc hs5 _
          have hkp6 : ∀ j, (w5.alloc (repC 0 false false 0 0)).cell? ⟨Q, j, none⟩ = w4.cell? ⟨Q, j, none⟩ := fun j => hB6.cell (p := ⟨Q, j, none⟩) hQlt
          have hR6 : (w5.alloc (repC 0 false false 0 0)).heap[w5.heap.size]? = some (repC 0 false false 0 0) := heap_alloc_new w5 _
          obtain ⟨R, hR⟩ : ∃ R, R = w5.heap.size := ⟨_, rfl⟩
          rw [← hR] at hR6 ⊢
          have hRQ : Q < R := by omega
          have hRw : w4.heap.size ≤ R := by omega
          clear hb5 hB5 hkp
          refine hK9.out _ _ ⟨by rw [hkp6]; exact x0, by rw [hkp6]; exact x1, by rw [hkp6]; exact x2, by rw [hkp6]; exact x3⟩ (fun hS => ?_)
          clear hK9 hR
          generalize w5.alloc (repC 0 false false 0 0) = w6 at *
          obtain ⟨z0, z1, z2, z3, z4, f0, f1, f2, f3, f4⟩ := cells5 hR6
          have hRR := hide (set5 (a' := .int .i64 N9) (b' := .bool r9) (c' := .bool q9) (d' := .int .i64 i9) (e' := .int .i64 j9) hR6)
          have hB7 := hide (((((hB6.setCell (p := ⟨R, 0, none⟩) hRw (.int .i64 N9)).setCell (p := ⟨R, 1, none⟩) hRw (.bool r9)).setCell (p := ⟨R, 2, none⟩) hRw (.bool q9)).setCell (p := ⟨R, 3, none⟩) hRw (.int .i64 i9)).setCell (p := ⟨R, 4, none⟩) hRw (.int .i64 j9))
          refine wpAnyH_ready (rs := [11]) (by kernel_rfl) (by simp) ?_
          refine AllReadyH.cons rfl (fun K9 hK9 => ?_) AllReadyH.nil
          go_simp
          generalize ((((w6.setCell ⟨R, 0, none⟩ (.int .i64 N9)).setCell ⟨R, 1, none⟩ (.bool r9)).setCell ⟨R, 2, none⟩ (.bool q9)).setCell ⟨R, 3, none⟩ (.int .i64 i9)).setCell ⟨R, 4, none⟩ (.int .i64 j9) = w7 at *
          have HREP : Hid (w7.heap[R]? = some (repC N9 r9 q9 i9 j9)) := hRR.out
          have hkp7 : ∀ j, w7.cell? ⟨Q, j, none⟩ = w4.cell? ⟨Q, j, none⟩ := fun j => hB7.out.cell (p := ⟨Q, j, none⟩) hQlt
          refine hK9.out _ _ ⟨by rw [hkp7]; exact x0, by rw [hkp7]; exact x1, by rw [hkp7]; exact x2, by rw [hkp7]; exact x3⟩ (fun hS => ?_)
          clear z0 z1 z2 z3 z4 f0 f1 f2 f3 f4 hRR hR6 hB6 hkp6 hkp7
          refine wpAnyH_done (by kernel_rfl) ?_ _
          have hQ7 := hide (hQ4.out.below hB7.out)
          have hFr7 := hide (hFr4.out.trans hOR.out (FrG.below (Q := Q) (fv := .slice fp fl fc) hB7.out))
          have hOP7 := hide (owns_below OP4.out hB7.out (Nat.le_refl _))
          obtain ⟨_, k1, k2, _, _, _, _, _, _, _⟩ := cells5 HREP.out
          clear hS x0 x1 x2 x3 x4 x5 x6 x7 x8 y6 y7 hQ4 hFr4 OP4 HPR hK9
          obtain ⟨x0, x1, x2, x3, x4, x5, x6, x7, x8, y6, y7⟩ := cells9 hQ7.out.blk
          have hk1m : (k + 1) * (1 + bnd C l) ≤ C * (1 + bnd C l) := Nat.mul_le_mul_right _ hlt
          have hsm : (k + 1) * (1 + bnd C l) = k * (1 + bnd C l) + (1 + bnd C l) := Nat.succ_mul _ _
          cases q9 with
          | false =>
            have hno : ¬ (tRows G 1 (P ++ [k])).Nodup := fun e => Bool.false_ne_true (hq9.2 e)
            have HS1 : Hid (fnd many F P (solTo G l (tRows G 1 P).reverse (tEnd G 1 P) (k + 1)) = Fk) := by show _ = _; rw [solTo_succ, solBy_no hno, List.append_nil, hFk.out]
            have HM9 : Hid (met1 ≤ met + (k + 1) * (1 + bnd C l)) := by show _ ≤ _; have := hme.out; omega
            clear hk1m hsm hkm
            go_wp2
            go_roundw
            case rel => exact ⟨k + 1, met1, _, by omega, by go_num, by rw [HS1.out]; exact hQ7.out, hFr7.out, hOR.out, HM9.out⟩
            case measure => simp [intOf]; omega
          | true =>
            have hyes := hq9.1 rfl
            have HSY := hide (solBy_yes (l := l) hyes)
            have hQ8 := hide (hQ7.out.meet (met1 + 1))
            have hFr8 := hide (hFr7.out.trans hOR.out (FrG.set (Q := Q) (j := 6) (fv := .slice fp fl fc) (u := .int .i64 ((met1 + 1 : Nat) : Int)) (W := w7)))
            have hOP8 := hide (hQ7.out.path hOP7.out (FrG.set (j := 6) (u := .int .i64 ((met1 + 1 : Nat) : Int))))
            have k18 : (w7.setCell ⟨Q, 6, none⟩ (.int .i64 ((met1 + 1 : Nat) : Int))).cell? ⟨R, 1, none⟩ = some (.bool r9) := by rw [← k1]; exact World.cell?_of_block (w := w7) (Below.heap_setCell _ _ _ _ (by show R ≠ Q; omega))
            rw [show ((met1 + 1 : Nat) : Int) = (met1 : Int) + 1 from by omega] at hQ8 hFr8 hOP8 k18
            have hm9 : Hid (met1 + 1 + bnd C l ≤ 20000) := by show _ ≤ _; have := hme.out; have := HMT.out; rw [hbd.out] at this; omega
            have g7 : ¬ 20000 < (met1 : Int) + 1 := by have := hm9.out; omega
            have HFL2 : Hid (Fk.length < many) := by show _ < _; rw [HFL.out]; exact hfm
            have HMO := hide (fnd_more (F := F) (P := P) (A := solTo G l (tRows G 1 P).reverse (tEnd G 1 P) k) (many := many) (solBy G l (tRows G 1 P).reverse (tEnd G 1 P) k) (by rw [hFk.out]; exact HFL2.out))
            rw [hFk.out, ← solTo_succ] at HMO
            have hmle := hide hme.out
            clear hk1m hkm hQ7 hFr7 hOP7 k1 HREP hB7
            by_cases hl0 : 1 ≤ l
            · have g9 : (pl : Int) + 1 < (leads : Int) := by omega
              have HC9 := hide (HIH.out (P ++ [k]) _ (met1 + 1) Fk (.slice fp fl fc) (.slice (some ⟨g4, 0, none⟩) (pl + 1) c4) hl0 (by rw [List.length_append, hpl.out, List.length_singleton]; omega) hpk hQ8.out (by rw [List.length_append, hpl.out, List.length_singleton]; exact hOP8.out) (by rw [HFL.out]; exact hFkl) hm9.out)
              have HFE : Hid (fnd many Fk (P ++ [k]) (sols G l (tRows G 1 (P ++ [k])).reverse (tEnd G 1 (P ++ [k]))) = fnd many F P (solTo G l (tRows G 1 P).reverse (tEnd G 1 P) (k + 1))) := by
                show _ = _
                rw [fnd_call, ← HSY.out, HMO.out]
              have hs8 := hFr8.out.size
              clear HSY HMO hQ8
              go_wp2_with fail
              refine HC9.out.mono ?_
              rintro e w9 ⟨met2, fv2, rfl, hQ9, hFr9, hOR9, hme9⟩
              rw [HFE.out] at hQ9
              have HQ9 := hide hQ9
              have HF9 := hide (hFr8.out.trans hOR.out hFr9)
              have HO9 := hide (hOR.out.trans hOR9 hs8)
              have HM9 : Hid (met2 ≤ met + (k + 1) * (1 + bnd C l)) := by show _ ≤ _; have := hmle.out; omega
              clear hQ9 hFr9 hOR9 hme9 HC9 hFr8 hsm x0 x1 x2 x3 x4 x5 x6 x7 x8 y6 y7 k2 k18
              go_wp2
              go_roundw
              case rel => exact ⟨k + 1, met2, fv2, by omega, by go_num, HQ9.out, HF9.out, HO9.out, HM9.out⟩
              case measure => simp [intOf]; omega
            · have hl00 : l = 0 := by omega
              have g9 : ¬ (pl : Int) + 1 < (leads : Int) := by omega
              have HM9 : Hid (met1 + 1 ≤ met + (k + 1) * (1 + bnd C l)) := by show _ ≤ _; have := hmle.out; omega
              clear hsm
              cases r9 with
              | false =>
                have hne : ¬ tEnd G 1 (P ++ [k]) = 1 := fun e => Bool.false_ne_true (hr9.2 e)
                have HFE : Hid (fnd many F P (solTo G l (tRows G 1 P).reverse (tEnd G 1 P) (k + 1)) = Fk) := by
                  show _ = _
                  rw [← HMO.out, HSY.out, sols_no hl00 hne, List.map_nil, fnd_nil P (by rw [HFL.out]; exact hFkl)]
                clear HSY HMO
                go_wp2
                go_roundw
                case rel => exact ⟨k + 1, met1 + 1, _, by omega, by go_num, by rw [HFE.out]; exact hQ8.out, hFr8.out, hOR.out, HM9.out⟩
                case measure => simp [intOf]; omega
              | true =>
                have hye := hr9.1 rfl
                have HFE : Hid (fnd many F P (solTo G l (tRows G 1 P).reverse (tEnd G 1 P) (k + 1)) = Fk ++ [P ++ [k]]) := by
                  show _ = _
                  rw [← HMO.out, HSY.out, sols_yes hl00 hye]
                  unfold fnd
                  simp only [List.map_cons, List.map_nil]
                  rw [List.take_of_length_le]
                  have := HFL2.out
                  simp
                  omega
                obtain ⟨fs, hll⟩ := hQ8.out.ll
                have hfsl : fs.length = fl := by rw [hll.len, List.length_map, HFL.out]
                have hfrow := hll.row
                rw [hfsl] at hfrow
                have HFR := hide hfrow
                have HLL := hide hll
                have hs8 := hQ8.out.sz
                clear HSY HMO hll hfrow
                go_upto_region 12 with fail
                generalize w7.setCell ⟨Q, 6, none⟩ (.int .i64 ((met1 : Int) + 1)) = w8 at *
                clear x0 x1 x2 x3 x4 x5 x6 x7 x8 y6 y7 k18 k2
                obtain ⟨_, _, _, _, _, _, _, x7, _, _, y7⟩ := cells9 hQ8.out.blk
                have hQ7a := hide (fun (W9 : World) (hb : W9.heap[Q]? = w8.heap[Q]?) => cells9 (hb.trans hQ8.out.blk))
                go_wp2_with (at_builtin; refine wpList_append_keep _ rfl _ _ 22 rfl (Q + 1) 26 i0 (.slice none 0 0) 1 24 Try.underlying22 hi hz0 hz1 hz2 rfl (by decide) (.slice fp fl fc) fl fs rfl (HFR.out.alloc _) ⟨w8.heap.size, 0, none⟩ 1 1 [.slice (some ⟨g4, 0, none⟩) (pl + 1) c4] rfl rfl (cell_one_new _ _ _) (fun u hu => by simp at hu; subst hu; rfl) (by unfold maxLen; omega) (by omega) (by simp; omega) ?_; intro v9 w9 hown9 hg9 hv9 ; obtain ⟨p9, c9, rfl⟩ := rowF hown9; have hne9 : (Value.slice fp fl fc).ownBlock ≠ some Q := (fun e => by have := (HFR.out.lt Q e).1; omega); have hblk9 : w9.heap[Q]? = w8.heap[Q]? := (hg9.block Q (by simp; omega) (fun e => hne9 e.symm)).trans (Below.heap_alloc w8 _ Q (by omega)); obtain ⟨_, _, _, _, _, _, _, x79, _, _, y79⟩ := hQ7a.out w9 hblk9; have HQ9 := hide (hQ8.out.found (p := P ++ [k]) HLL.out (by rw [show (nI (P ++ [k])).length = pl + 1 from by (simp [nI]; exact hpl.out)]; exact hOP8.out) (by rw [hfsl]; exact hown9) hg9); have HF9 := hide (hFr8.out.trans hOR.out (((FrG.below (Q := Q) (fv := .slice fp fl fc) ((Below.refl w8.heap.size w8).alloc (Nat.le_refl _) _)).trans (OwnRel.refl _ _) (FrG.grown hg9)).trans (OwnRel.refl _ _) (FrG.set (j := 7) (u := .slice p9 (fl + 1) c9)))); have HO9 : Hid (OwnRel W fv (.slice p9 (fl + 1) c9)) := hOR.out.trans (W1 := w8) (hv9.imp id (fun e => ⟨_, (by simp), e.1⟩)) hFr8.out.size; clear hown9 hg9 hv9 hblk9)
                clear x7 y7 hQ7a HFR HLL hQ8 hFr8 hOP8
                go_wp2
                go_roundw
                case rel => exact ⟨k + 1, met1 + 1, _, by omega, by go_num, by rw [HFE.out]; exact HQ9.out, HF9.out, HO9.out, HM9.out⟩
                case measure => simp [intOf]; omega
        · go_simp
          have hB5 : Below w4.heap.size w4 (w4.alloc (repC 0 false false 0 0)).drew := ((Below.refl _ _).alloc (Nat.le_refl _) _).drew
          have hkp : ∀ j, (w4.alloc (repC 0 false false 0 0)).drew.cell? ⟨Q, j, none⟩ = w4.cell? ⟨Q, j, none⟩ := fun j => hB5.cell (p := ⟨Q, j, none⟩) hQlt
          have hR5 : (w4.alloc (repC 0 false false 0 0)).drew.heap[w4.heap.size]? = some (repC 0 false false 0 0) := heap_alloc_new w4 _
          have hz5 : (w4.alloc (repC 0 false false 0 0)).drew.heap.size = w4.heap.size + 1 := by show (w4.alloc _).heap.size = _; simp
          have hRQ : Q < w4.heap.size := by omega
          have hRw : w4.heap.size ≤ w4.heap.size := by omega
          refine hK9.out _ _ ⟨by rw [hkp]; exact x0, by rw [hkp]; exact x1, by rw [hkp]; exact x2, by rw [hkp]; exact x3⟩ (fun hS => ?_)
          clear hK9
          refine wpAnyH_ready (rs := [9]) (by kernel_rfl) (by simp) ?_
          refine AllReadyH.cons rfl (fun K9 hK9 => ?_) AllReadyH.nil
          go_simp
          refine (HPR.out _ hB5).mono ?_
          rintro e w6 ⟨N9, r9, q9, i9, j9, rfl, hq9, hr9, hb6⟩
          have hB6 : Below w4.heap.size w4 w6 := hB5.trans (hb6.mono (by omega))
          have hkp6 : ∀ j, w6.cell? ⟨Q, j, none⟩ = w4.cell? ⟨Q, j, none⟩ := fun j => hB6.cell (p := ⟨Q, j, none⟩) hQlt
          have hR6 : w6.heap[w4.heap.size]? = some (repC 0 false false 0 0) := (hb6.block w4.heap.size (by omega)).trans hR5
          clear hb6 hB5 hkp hR5 hz5
          refine hK9.out _ _ ⟨by rw [hkp6]; exact x0, by rw [hkp6]; exact x1, by rw [hkp6]; exact x2, by rw [hkp6]; exact x3⟩ (fun hS => ?_)
          clear hK9
          obtain ⟨z0, z1, z2, z3, z4, f0, f1, f2, f3, f4⟩ := cells5 hR6
          have hRR := hide (set5 (a' := .int .i64 N9) (b' := .bool r9) (c' := .bool q9) (d' := .int .i64 i9) (e' := .int .i64 j9) hR6)
          have hB7 := hide (((((hB6.setCell (p := ⟨w4.heap.size, 0, none⟩) hRw (.int .i64 N9)).setCell (p := ⟨w4.heap.size, 1, none⟩) hRw (.bool r9)).setCell (p := ⟨w4.heap.size, 2, none⟩) hRw (.bool q9)).setCell (p := ⟨w4.heap.size, 3, none⟩) hRw (.int .i64 i9)).setCell (p := ⟨w4.heap.size, 4, none⟩) hRw (.int .i64 j9))
          refine wpAnyH_ready (rs := [11]) (by kernel_rfl) (by simp) ?_
          refine AllReadyH.cons rfl (fun K9 hK9 => ?_) AllReadyH.nil
          go_simp
          generalize ((((w6.setCell ⟨w4.heap.size, 0, none⟩ (.int .i64 N9)).setCell ⟨w4.heap.size, 1, none⟩ (.bool r9)).setCell ⟨w4.heap.size, 2, none⟩ (.bool q9)).setCell ⟨w4.heap.size, 3, none⟩ (.int .i64 i9)).setCell ⟨w4.heap.size, 4, none⟩ (.int .i64 j9) = w7 at *
          have HREP : Hid (w7.heap[w4.heap.size]? = some (repC N9 r9 q9 i9 j9)) := hRR.out
          have hkp7 : ∀ j, w7.cell? ⟨Q, j, none⟩ = w4.cell? ⟨Q, j, none⟩ := fun j => hB7.out.cell (p := ⟨Q, j, none⟩) hQlt
          refine hK9.out _ _ ⟨by rw [hkp7]; exact x0, by rw [hkp7]; exact x1, by rw [hkp7]; exact x2, by rw [hkp7]; exact x3⟩ (fun hS => ?_)
          clear z0 z1 z2 z3 z4 f0 f1 f2 f3 f4 hRR hR6 hB6 hkp6 hkp7
          refine wpAnyH_done (by kernel_rfl) ?_ _
          have hQ7 := hide (hQ4.out.below hB7.out)
          have hFr7 := hide (hFr4.out.trans hOR.out (FrG.below (Q := Q) (fv := .slice fp fl fc) hB7.out))
          have hOP7 := hide (owns_below OP4.out hB7.out (Nat.le_refl _))
          obtain ⟨_, k1, k2, _, _, _, _, _, _, _⟩ := cells5 HREP.out
          clear hS x0 x1 x2 x3 x4 x5 x6 x7 x8 y6 y7 hQ4 hFr4 OP4 HPR hK9
          obtain ⟨x0, x1, x2, x3, x4, x5, x6, x7, x8, y6, y7⟩ := cells9 hQ7.out.blk
          have hk1m : (k + 1) * (1 + bnd C l) ≤ C * (1 + bnd C l) := Nat.mul_le_mul_right _ hlt
          have hsm : (k + 1) * (1 + bnd C l) = k * (1 + bnd C l) + (1 + bnd C l) := Nat.succ_mul _ _
          cases q9 with
          | false =>
            have hno : ¬ (tRows G 1 (P ++ [k])).Nodup := fun e => Bool.false_ne_true (hq9.2 e)
            have HS1 : Hid (fnd many F P (solTo G l (tRows G 1 P).reverse (tEnd G 1 P) (k + 1)) = Fk) := by show _ = _; rw [solTo_succ, solBy_no hno, List.append_nil, hFk.out]
            have HM9 : Hid (met1 ≤ met + (k + 1) * (1 + bnd C l)) := by show _ ≤ _; have := hme.out; omega
            clear hk1m hsm hkm
            go_wp2
            go_roundw
            case rel => exact ⟨k + 1, met1, _, by omega, by go_num, by rw [HS1.out]; exact hQ7.out, hFr7.out, hOR.out, HM9.out⟩
            case measure => simp [intOf]; omega
          | true =>
            have hyes := hq9.1 rfl
            have HSY := hide (solBy_yes (l := l) hyes)
            have hQ8 := hide (hQ7.out.meet (met1 + 1))
            have hFr8 := hide (hFr7.out.trans hOR.out (FrG.set (Q := Q) (j := 6) (fv := .slice fp fl fc) (u := .int .i64 ((met1 + 1 : Nat) : Int)) (W := w7)))
            have hOP8 := hide (hQ7.out.path hOP7.out (FrG.set (j := 6) (u := .int .i64 ((met1 + 1 : Nat) : Int))))
            have k18 : (w7.setCell ⟨Q, 6, none⟩ (.int .i64 ((met1 + 1 : Nat) : Int))).cell? ⟨w4.heap.size, 1, none⟩ = some (.bool r9) := by rw [← k1]; exact World.cell?_of_block (w := w7) (Below.heap_setCell _ _ _ _ (by show w4.heap.size ≠ Q; omega))
            rw [show ((met1 + 1 : Nat) : Int) = (met1 : Int) + 1 from by omega] at hQ8 hFr8 hOP8 k18
            have hm9 : Hid (met1 + 1 + bnd C l ≤ 20000) := by show _ ≤ _; have := hme.out; have := HMT.out; rw [hbd.out] at this; omega
            have g7 : ¬ 20000 < (met1 : Int) + 1 := by have := hm9.out; omega
            have HFL2 : Hid (Fk.length < many) := by show _ < _; rw [HFL.out]; exact hfm
            have HMO := hide (fnd_more (F := F) (P := P) (A := solTo G l (tRows G 1 P).reverse (tEnd G 1 P) k) (many := many) (solBy G l (tRows G 1 P).reverse (tEnd G 1 P) k) (by rw [hFk.out]; exact HFL2.out))
            rw [hFk.out, ← solTo_succ] at HMO
            have hmle := hide hme.out
            clear hk1m hkm hQ7 hFr7 hOP7 k1 HREP hB7
            by_cases hl0 : 1 ≤ l
            · have g9 : (pl : Int) + 1 < (leads : Int) := by omega
              have HC9 := hide (HIH.out (P ++ [k]) _ (met1 + 1) Fk (.slice fp fl fc) (.slice (some ⟨g4, 0, none⟩) (pl + 1) c4) hl0 (by rw [List.length_append, hpl.out, List.length_singleton]; omega) hpk hQ8.out (by rw [List.length_append, hpl.out, List.length_singleton]; exact hOP8.out) (by rw [HFL.out]; exact hFkl) hm9.out)
              have HFE : Hid (fnd many Fk (P ++ [k]) (sols G l (tRows G 1 (P ++ [k])).reverse (tEnd G 1 (P ++ [k]))) = fnd many F P (solTo G l (tRows G 1 P).reverse (tEnd G 1 P) (k + 1))) := by
                show _ = _
                rw [fnd_call, ← HSY.out, HMO.out]
              have hs8 := hFr8.out.size
              clear HSY HMO hQ8
              go_wp2_with fail
              refine HC9.out.mono ?_
              rintro e w9 ⟨met2, fv2, rfl, hQ9, hFr9, hOR9, hme9⟩
              rw [HFE.out] at hQ9
              have HQ9 := hide hQ9
              have HF9 := hide (hFr8.out.trans hOR.out hFr9)
              have HO9 := hide (hOR.out.trans hOR9 hs8)
              have HM9 : Hid (met2 ≤ met + (k + 1) * (1 + bnd C l)) := by show _ ≤ _; have := hmle.out; omega
              clear hQ9 hFr9 hOR9 hme9 HC9 hFr8 hsm x0 x1 x2 x3 x4 x5 x6 x7 x8 y6 y7 k2 k18
              go_wp2
              go_roundw
              case rel => exact ⟨k + 1, met2, fv2, by omega, by go_num, HQ9.out, HF9.out, HO9.out, HM9.out⟩
              case measure => simp [intOf]; omega
            · have hl00 : l = 0 := by omega
              have g9 : ¬ (pl : Int) + 1 < (leads : Int) := by omega
              have HM9 : Hid (met1 + 1 ≤ met + (k + 1) * (1 + bnd C l)) := by show _ ≤ _; have := hmle.out; omega
              clear hsm
              cases r9 with
              | false =>
                have hne : ¬ tEnd G 1 (P ++ [k]) = 1 := fun e => Bool.false_ne_true (hr9.2 e)
                have HFE : Hid (fnd many F P (solTo G l (tRows G 1 P).reverse (tEnd G 1 P) (k + 1)) = Fk) := by
                  show _ = _
                  rw [← HMO.out, HSY.out, sols_no hl00 hne, List.map_nil, fnd_nil P (by rw [HFL.out]; exact hFkl)]
                clear HSY HMO
                go_wp2
                go_roundw
                case rel => exact ⟨k + 1, met1 + 1, _, by omega, by go_num, by rw [HFE.out]; exact hQ8.out, hFr8.out, hOR.out, HM9.out⟩
                case measure => simp [intOf]; omega
              | true =>
                have hye := hr9.1 rfl
                have HFE : Hid (fnd many F P (solTo G l (tRows G 1 P).reverse (tEnd G 1 P) (k + 1)) = Fk ++ [P ++ [k]]) := by
                  show _ = _
                  rw [← HMO.out, HSY.out, sols_yes hl00 hye]
                  unfold fnd
                  simp only [List.map_cons, List.map_nil]
                  rw [List.take_of_length_le]
                  have := HFL2.out
                  simp
                  omega
                obtain ⟨fs, hll⟩ := hQ8.out.ll
                have hfsl : fs.length = fl := by rw [hll.len, List.length_map, HFL.out]
                have hfrow := hll.row
                rw [hfsl] at hfrow
                have HFR := hide hfrow
                have HLL := hide hll
                have hs8 := hQ8.out.sz
                clear HSY HMO hll hfrow
                go_upto_region 12 with fail
                generalize w7.setCell ⟨Q, 6, none⟩ (.int .i64 ((met1 : Int) + 1)) = w8 at *
                clear x0 x1 x2 x3 x4 x5 x6 x7 x8 y6 y7 k18 k2
                obtain ⟨_, _, _, _, _, _, _, x7, _, _, y7⟩ := cells9 hQ8.out.blk
                have hQ7a := hide (fun (W9 : World) (hb : W9.heap[Q]? = w8.heap[Q]?) => cells9 (hb.trans hQ8.out.blk))
                go_wp2_with (at_builtin; refine wpList_append_keep _ rfl _ _ 22 rfl (Q + 1) 26 i0 (.slice none 0 0) 1 24 Try.underlying22 hi hz0 hz1 hz2 rfl (by decide) (.slice fp fl fc) fl fs rfl (HFR.out.alloc _) ⟨w8.heap.size, 0, none⟩ 1 1 [.slice (some ⟨g4, 0, none⟩) (pl + 1) c4] rfl rfl (cell_one_new _ _ _) (fun u hu => by simp at hu; subst hu; rfl) (by unfold maxLen; omega) (by omega) (by simp; omega) ?_; intro v9 w9 hown9 hg9 hv9 ; obtain ⟨p9, c9, rfl⟩ := rowF hown9; have hne9 : (Value.slice fp fl fc).ownBlock ≠ some Q := (fun e => by have := (HFR.out.lt Q e).1; omega); have hblk9 : w9.heap[Q]? = w8.heap[Q]? := (hg9.block Q (by simp; omega) (fun e => hne9 e.symm)).trans (Below.heap_alloc w8 _ Q (by omega)); obtain ⟨_, _, _, _, _, _, _, x79, _, _, y79⟩ := hQ7a.out w9 hblk9; have HQ9 := hide (hQ8.out.found (p := P ++ [k]) HLL.out (by rw [show (nI (P ++ [k])).length = pl + 1 from by (simp [nI]; exact hpl.out)]; exact hOP8.out) (by rw [hfsl]; exact hown9) hg9); have HF9 := hide (hFr8.out.trans hOR.out (((FrG.below (Q := Q) (fv := .slice fp fl fc) ((Below.refl w8.heap.size w8).alloc (Nat.le_refl _) _)).trans (OwnRel.refl _ _) (FrG.grown hg9)).trans (OwnRel.refl _ _) (FrG.set (j := 7) (u := .slice p9 (fl + 1) c9)))); have HO9 : Hid (OwnRel W fv (.slice p9 (fl + 1) c9)) := hOR.out.trans (W1 := w8) (hv9.imp id (fun e => ⟨_, (by simp), e.1⟩)) hFr8.out.size; clear hown9 hg9 hv9 hblk9)
                clear x7 y7 hQ7a HFR HLL hQ8 hFr8 hOP8
                go_wp2
                go_roundw
                case rel => exact ⟨k + 1, met1 + 1, _, by omega, by go_num, by rw [HFE.out]; exact HQ9.out, HF9.out, HO9.out, HM9.out⟩
                case measure => simp [intOf]; omega
      · have d1 : decide ((k : Int) < (C : Int)) = true := decide_eq_true (by omega)
        have d2 : decide ((Fk.length : Int) < (many : Int)) = false := decide_eq_false (by omega)
        obtain ⟨B, hB⟩ := solTo_split G l (tRows G 1 P).reverse (tEnd G 1 P) hk
        have HE : Hid (fnd many F P (sols G (l + 1) (tRows G 1 P).reverse (tEnd G 1 P)) = Fk) := by
          show _ = _
          rw [sols_succ, hG, hB, fnd_full B (by rw [hFk.out]; exact hfm), hFk.out]
        clear hB
        generalize hfl9 : Fk.length = fl at *
        clear hfl9
        have HME : Hid (met1 ≤ met + bnd C (l + 1)) := by show _ ≤ _; rw [hbd.out]; have := hme.out; omega
        go_upto_region 1 with fail
        go_quiet (fail)
        have hQ2 := hide (hQ1.out.below (below_drewN (Below.refl _ _) nq))
        have hFr2 := hide (hFr.out.trans hOR.out (FrG.below (Q := Q) (fv := .slice fp fl fc) (below_drewN (Below.refl _ _) nq)))
        clear hQ1 hFr x0 x1 x2 x3 x4 x5 x6 x7 x8 y6 y7
        generalize World.drewN _ nq = w2 at *
        go_wp2
        exact bodyPost_end (results_none rfl _ _ _) rfl ⟨met1, _, rfl, by rw [HE.out]; exact hQ2.out, hFr2.out, hOR.out, HME.out⟩
    · have d1 : decide ((k : Int) < (C : Int)) = false := decide_eq_false (by omega)
      have HE : Hid (fnd many F P (sols G (l + 1) (tRows G 1 P).reverse (tEnd G 1 P)) = Fk) := by
        show _ = _
        rw [sols_succ, hG, show C = k from by omega, hFk.out]
      generalize hfl9 : Fk.length = fl at *
      clear hfl9
      have HME : Hid (met1 ≤ met + bnd C (l + 1)) := by show _ ≤ _; rw [hbd.out]; have := hme.out; omega
      go_upto_region 1 with fail
      go_quiet (fail)
      have hQ2 := hide (hQ1.out.below (below_drewN (Below.refl _ _) nq))
      have hFr2 := hide (hFr.out.trans hOR.out (FrG.below (Q := Q) (fv := .slice fp fl fc) (below_drewN (Below.refl _ _) nq)))
      clear hQ1 hFr x0 x1 x2 x3 x4 x5 x6 x7 x8 y6 y7
      generalize World.drewN _ nq = w2 at *
      go_wp2
      exact bodyPost_end (results_none rfl _ _ _) rfl ⟨met1, _, rfl, by rw [HE.out]; exact hQ2.out, hFr2.out, hOR.out, HME.out⟩

end Go.Proofs.Ytoiiadiimfohiaa
