/- Joined: CpC, TpR, TpT, TpU, ItA, TpV, CpD. -/
import Derived.Test.YtenpkhalgkodbaaDoorJ8
import Derived.BigQuiet
import Derived.Test.YtenpkhalgkodbaaDoorJ7
import Derived.Test.YtenpkhalgkodbaaDoorJ2
import Derived.Laws.RangeString
import Derived.Stop.FmtQuoteTie
import Derived.Laws.BytesArg
/- Contracts: call.runOf, call.Print. -/
namespace Go.Proofs.YtenpkhalgkodbaaDoor
open Go.RowKit Go.Shelf
set_option maxRecDepth 20000
set_option linter.unusedVariables false

/-- The k-th cell of leads in memory. -/
theorem lead_cell {w : World} {v : Value} {t : List Nat} (h : Ints w v (nI t)) (h1 : 1 ≤ t.length) : ∃ b off cap, v = .slice (some ⟨b, off, none⟩) t.length cap ∧ t.length ≤ cap ∧ cap ≤ 9223372036854775807 ∧ b < w.heap.size ∧ ∀ k, k < t.length → w.cell? ⟨b, off + k, none⟩ = some (.int .i64 ((t.getD k 0 : Nat) : Int)) := by
  rcases h with ⟨e, _⟩ | ⟨b, off, cap, e, h0, h2, h3, h4, hc⟩
  · exfalso
    have : t = [] := by simpa [nI] using e
    rw [this] at h1
    simp at h1
  · rw [nI_len] at e h2
    refine ⟨b, off, cap, e, h2, h3, h4, fun k hk => ?_⟩
    rw [hc k (by rw [nI_len]; exact hk), nI_get t hk]

set_option maxHeartbeats 2000000 in
theorem runOf_ok (v : Value) (t : List Nat) (w : World) (h : Ints w v (nI t)) (h1 : 1 ≤ t.length) (h2 : t.length ≤ 1000000) :
    Calls Tryd.prog 30 #[v] w fun e w' => (∃ run : Nat, e = .returned (.int .i64 (run : Int)) ∧ Run t 0 run) ∧ Below w.heap.size w w' := by
  obtain ⟨b, off, cap, rfl, hc1, hc2, hb, hcell⟩ := lead_cell h h1
  obtain ⟨T, hT⟩ : ∃ T, Hid (t.length = T) := ⟨_, rfl⟩
  rw [hT.out] at hc1 hcell h1 h2 ⊢
  have HC := hide hcell
  have c0 := HC.out 0 (by omega)
  rw [Nat.add_zero] at c0
  clear h hcell
  go_enter Tryd.func30, Tryd.ntmps30
  go_wp2
  go_loopw [3] (fun rv wr => ∃ run : Nat, 1 ≤ run ∧ run ≤ T ∧ run ≤ 99 ∧ rv = .int .i64 run ∧ Hid (∀ j, j < run → t.getD j 0 = t.getD 0 0) ∧ Hid (Below w.heap.size w wr)) (fun rv _ => 100 - (intOf rv).toNat)
  case atStart => exact ⟨1, by omega, by omega, by omega, rfl, (fun j hj => by rw [show j = 0 by omega]), Below.refl _ _⟩
  case round =>
    obtain ⟨run, r1, r2, r3, rfl, hS, hbw⟩ := hrel
    have d0 := (hbw.out.cell (p := ⟨b, off, none⟩) hb).trans c0
    by_cases hrT : run < T
    · have hi1 : (run : Int) < (T : Int) := by omega
      by_cases hr9 : run < 99
      · have hi2 : (run : Int) < 99 := by omega
        have cr := (hbw.out.cell (p := ⟨b, off + run, none⟩) hb).trans (HC.out run hrT)
        by_cases he : t.getD run 0 = t.getD 0 0
        · have hbq : (((t.getD run 0 : Nat) : Int) == ((t.getD 0 0 : Nat) : Int)) = true := by rw [he]; simp
          have HS2 : Hid (∀ j, j < run + 1 → t.getD j 0 = t.getD 0 0) := fun j hj => by
            rcases Nat.lt_succ_iff_lt_or_eq.1 hj with h | h
            · exact hS.out j h
            · rw [h]; exact he
          clear he hS
          generalize t.getD run 0 = x at *
          generalize t.getD 0 0 = y at *
          go_wp2
          go_quiet (fail)
          have HBn := hide (below_drewN hbw.out nq)
          go_wp2
          go_roundw
          case rel => exact ⟨run + 1, by omega, by omega, by omega, by go_num, HS2, HBn⟩
          case measure => simp [intOf]; omega
        · have hbq : (((t.getD run 0 : Nat) : Int) == ((t.getD 0 0 : Nat) : Int)) = false := by rw [beq_eq_false_iff_ne]; omega
          have HR : Hid (Run t 0 run) := ⟨r1, by rw [hT.out]; exact r2, by omega, hS.out, Or.inr (Or.inr he)⟩
          clear he hS
          generalize t.getD run 0 = x at *
          generalize t.getD 0 0 = y at *
          go_wp2
          go_quiet (fail)
          go_wp2
          go_ret
          exact ⟨⟨run, rfl, HR.out⟩, below_drewN hbw.out nq⟩
      · have hi2 : decide ((run : Int) < 99) = false := decide_eq_false (by omega)
        have hi4 : ¬ (run : Int) < 99 := by omega
        have HR : Hid (Run t 0 run) := ⟨r1, by rw [hT.out]; exact r2, by omega, hS.out, Or.inr (Or.inl (by omega))⟩
        clear hS
        go_wp2
        go_quiet (fail)
        go_wp2
        go_ret
        exact ⟨⟨run, rfl, HR.out⟩, below_drewN hbw.out nq⟩
    · have hi1 : decide ((run : Int) < (T : Int)) = false := decide_eq_false (by omega)
      have hi3 : decide (run < T) = false := decide_eq_false hrT
      have HR : Hid (Run t 0 run) := ⟨r1, by rw [hT.out]; exact r2, by omega, hS.out, Or.inl (by rw [hT.out]; omega)⟩
      clear hS
      go_wp2
      go_quiet (fail)
      go_wp2
      go_ret
      exact ⟨⟨run, rfl, HR.out⟩, below_drewN hbw.out nq⟩

/-- The bytes of a call's sign. -/
def sgB (cs : List Cl) (c : Nat) : List UInt8 := Lib.encodeRune (cs.getD c (0, [])).1

theorem sgB_length (cs : List Cl) (c : Nat) : (sgB cs c).length ≤ 4 := by
  unfold sgB
  have := (Lib.runeCells_le (cs.getD c (0, [])).1).2
  rwa [Lib.runeCells_length] at this

/-- What Print tells of leads: their text, or nothing. -/
def prT (cs : List Cl) (ls : List Int) : List UInt8 := if lErr cs.length ls = 0 then pF (sgB cs) 0 (ls.map Int.toNat) else []

def sLen : Value → Nat
  | .slice _ n _ => n
  | _ => 0

/-- What the loop of Print knows. -/
structure PRel (cs : List Cl) (L : List UInt8) (B : Nat) (w wr : World) (lv : Value) (t : List Nat) (acc : List UInt8) : Prop where
  lat : Ints w lv (nI t)
  bld : Bld B B acc wr
  eq : L = acc ++ pF (sgB cs) 0 t
  few : acc.length + 6 * t.length ≤ 6 * 400
  below : Below B w wr

theorem Ints.drop9 {w : World} {b off cap n k : Nat} {t : List Nat} (h : Ints w (.slice (some ⟨b, off, none⟩) n cap) (nI t)) (hn : t.length = n) (hk : k ≤ n) : Ints w (.slice (some ⟨b, off + k, none⟩) (n - k) (cap - k)) (nI (t.drop k)) := by
  rcases Nat.eq_or_lt_of_le hk with e | e
  · subst e
    refine Or.inl ⟨?_, some ⟨b, off + k, none⟩, cap - k, ?_⟩
    · rw [List.drop_eq_nil_of_le (by omega)]; rfl
    · rw [Nat.sub_self]
  · obtain ⟨b', off', cap', e1, h2, h3, h4, hc⟩ := lead_cell h (by omega)
    rw [hn] at e1 h2 hc
    simp only [Value.slice.injEq, Option.some.injEq, Addr.mk.injEq, and_true] at e1
    obtain ⟨⟨rfl, rfl⟩, _, rfl⟩ := e1
    have hl : (nI (t.drop k)).length = n - k := by rw [nI_len, List.length_drop, hn]
    refine Or.inr ⟨b, off + k, cap - k, by rw [hl], by rw [hl]; omega, by rw [hl]; omega, by omega, h4, fun j hj => ?_⟩
    rw [hl] at hj
    rw [Nat.add_assoc, hc (k + j) (by omega), nI_get _ (by rw [List.length_drop]; omega)]
    simp [List.getD]

set_option maxHeartbeats 4000000 in
theorem print_all (cv : Value) (cs : List Cl) (lv : Value) (ls : List Int) (w : World) (hcv : CallsIn w cv cs) (hl : Ints w lv ls) (hsr : ∀ c, c < cs.length → -2147483648 ≤ (cs.getD c (0, [])).1 ∧ (cs.getD c (0, [])).1 ≤ 2147483647) :
    Calls Tryd.prog 10 #[cv, lv] w fun e w' => e = .returned (.tuple #[.string ⟨(prT cs ls).toArray⟩, .int .i64 (lErr cs.length ls)]) ∧ Below w.heap.size w w' := by
  obtain ⟨cp, cc, rfl⟩ := hcv.form
  have HCL := hide (checkLeads_all cp cs.length cc lv ls w hl)
  unfold prT
  by_cases hz : lErr cs.length ls = 0
  · rw [if_pos hz, hz]
    rw [hz] at HCL
    have hlb : 1 ≤ ls.length ∧ ls.length ≤ 400 ∧ ∀ l, l ∈ ls → 0 ≤ l ∧ l < (cs.length : Int) := by
      unfold lErr at hz
      split at hz
      · cases hz
      · split at hz
        · rename_i h1 h2; exact ⟨by omega, by omega, h2⟩
        · cases hz
    obtain ⟨l1, l2, l3⟩ := hlb
    obtain ⟨t, ht1, ht2⟩ : ∃ t : List Nat, nI t = ls ∧ ∀ c, c ∈ t → c < cs.length := ⟨ls.map Int.toNat, by
      unfold nI
      rw [List.map_map]
      exact (List.map_congr_left (fun l hl => Int.toNat_of_nonneg (l3 l hl).1)).trans (List.map_id _), fun c hc => by
      obtain ⟨l, hl, rfl⟩ := List.mem_map.1 hc
      have := l3 l hl
      omega⟩
    have htt : ls.map Int.toNat = t := by
      rw [← ht1]
      unfold nI
      rw [List.map_map]
      exact (List.map_congr_left (fun c _ => Int.toNat_natCast c)).trans (List.map_id _)
    rw [htt]
    subst ht1
    rw [nI_len] at l1 l2
    have hcat : CallsAt w (.slice cp cs.length cc) cs := by
      rcases hcv with ⟨h9, _⟩ | ⟨_, h9⟩
      · exfalso
        have : t.getD 0 0 < cs.length := ht2 _ (by simp [List.getD, show 0 < t.length by omega])
        rw [h9] at this
        simp at this
      · exact h9
    obtain ⟨cb, co, cap, hce, hcb, hcc1, hcc2, hccell⟩ := hcat
    obtain ⟨C, hC⟩ : ∃ C, Hid (cs.length = C) := ⟨_, rfl⟩
    rw [hC.out] at hce hcc1 HCL ht2 hsr hccell ⊢
    simp only [Value.slice.injEq] at hce
    obtain ⟨rfl, _, rfl⟩ := hce
    obtain ⟨L, hL⟩ : ∃ L, Hid (pF (sgB cs) 0 t = L) := ⟨_, rfl⟩
    rw [hL.out]
    have HCC := hide hccell
    have HSR := hide hsr
    have HTI := hide ht2
    have HB0 := hide ((Below.refl w.heap.size w).alloc (Nat.le_refl _) (.cells #[.pointer none, .slice none 0 0] 57))
    have HR0 : Hid (PRel cs L w.heap.size w (w.alloc (.cells #[.pointer none, .slice none 0 0] 57)) lv t []) := by
      refine ⟨hl, Or.inl ⟨Nat.le_refl _, .slice none 0 0, heap_alloc_new _ _, World.ownsRow_nil _ _ _ _, fun e => by cases e⟩, hL.out.symm, by simp; omega, HB0.out⟩
    obtain ⟨lp, lc, rfl⟩ := hl.form
    rw [nI_len] at HCL HR0 ⊢
    obtain ⟨T, hT⟩ : ∃ T, Hid (t.length = T) := ⟨_, rfl⟩
    rw [hT.out] at HCL HR0 l1 l2 ⊢
    clear hl hcv hccell hsr ht2 htt l3 hz
    go_enter Tryd.func10, Tryd.ntmps10
    go_wp2_with fail
    refine HCL.out.mono ?_
    rintro e w1 ⟨rfl, rfl⟩
    clear HCL HB0
    go_wp2
    go_loopw [1] (fun lv wr => ∃ (u : List Nat) (acc : List UInt8) (p : Option Addr) (c : Nat), lv = .slice p u.length c ∧ Hid (∀ x, x ∈ u → x < C) ∧ Hid (PRel cs L w.heap.size w wr lv u acc)) (fun lv _ => sLen lv)
    case atStart => exact ⟨t, [], lp, lc, by rw [hT.out], HTI, HR0⟩
    case round =>
      clear HR0
      obtain ⟨u, acc, p, c, rfl, hU, hR⟩ := hrel
      obtain ⟨N, hN⟩ : ∃ N, Hid (u.length = N) := ⟨_, rfl⟩
      rw [hN.out] at hR ⊢
      have hbs := hR.out.below.size
      have hfew := hR.out.few
      rw [hN.out] at hfew
      by_cases h0 : 0 < N
      · have hu1 : 1 ≤ u.length := by rw [hN.out]; exact h0
        obtain ⟨lb, lo, lcap, hle, e2, e3, hlb, hlcell⟩ := lead_cell hR.out.lat hu1
        rw [hN.out] at hle e2 hlcell
        simp only [Value.slice.injEq] at hle
        obtain ⟨rfl, _, rfl⟩ := hle
        have HRO := hide (runOf_ok _ u wr (hR.out.lat.below hR.out.below) hu1 (by rw [hN.out]; omega))
        have hc0 := hlcell 0 h0
        rw [Nat.add_zero] at hc0
        have hx : u.getD 0 0 < C := hU.out _ (by rw [List.getD, List.getElem?_eq_getElem hu1, Option.getD_some]; exact List.getElem_mem _)
        obtain ⟨us, a1, a2, a3⟩ := HCC.out (u.getD 0 0) hx
        obtain ⟨sr1, sr2⟩ := HSR.out (u.getD 0 0) hx
        have HPT := hide (fun run (h : Run u 0 run) => pF_top (sgB cs) h)
        have HSG : Hid (sgB cs (u.getD 0 0) = Lib.encodeRune (cs.getD (u.getD 0 0) (0, [])).1) := rfl
        have hN0 : (0 : Int) < (N : Int) := by omega
        clear a2 a3 hlcell
        generalize hxe : u.getD 0 0 = x at *
        clear hxe
        generalize hre : (cs.getD x (0, [])).1 = r at *
        clear hre
        go_wp2_with fail
        refine HRO.out.mono ?_
        rintro e w2 ⟨⟨run, rfl, hRun⟩, hb2⟩
        have hr1 := hRun.one
        have hr2 := hRun.all
        rw [hN.out] at hr2
        have hr3 := hRun.most
        have HEQ := hide (HPT.out run hRun)
        have hB2 : Below w.heap.size w w2 := hR.out.below.trans (hb2.mono hbs)
        have hs2 := hB2.size
        have hbld2 : Bld w.heap.size w.heap.size acc w2 := by
          rcases hR.out.bld with ⟨hB, v, hbk, hown, hne⟩ | ⟨hB, v, hbk, hown, hne⟩
          · exact Or.inl ⟨hB, v, (hb2.block _ (Array.getElem?_eq_some_iff.1 hbk).1).trans hbk, owns_below hown hb2 (Nat.le_refl _), hne⟩
          · exact Or.inr ⟨hB, v, (hb2.block _ (Array.getElem?_eq_some_iff.1 hbk).1).trans hbk, owns_below hown hb2 (Nat.le_refl _), hne⟩
        by_cases hrun : 1 < run
        · have hri : (1 : Int) < (run : Int) := by omega
          have HAC : Hid (L = (acc ++ decB run ++ Lib.encodeRune r) ++ pF (sgB cs) 0 (u.drop run)) := by
            show L = _
            rw [hR.out.eq, HEQ.out, HSG.out]
            rw [if_pos hrun]
            simp [List.append_assoc]
          have HFW : Hid ((acc ++ decB run ++ Lib.encodeRune r).length + 6 * (u.drop run).length ≤ 6 * 400) := by
            show _ ≤ _
            have h1 := (Lib.runeCells_le r).2
            rw [Lib.runeCells_length] at h1
            have h2 := decB_length run
            rw [List.length_drop, hN.out]
            simp only [List.length_append]
            omega
          have HLT : Hid (Ints w (.slice (if c = run then some ⟨lb, lo, none⟩ else some ⟨lb, lo + run, none⟩) (N - run) (c - run)) (nI (u.drop run))) := by
            show Ints _ _ _
            split
            · refine Or.inl ⟨?_, some ⟨lb, lo, none⟩, c - run, ?_⟩
              · rw [List.drop_eq_nil_of_le (by rw [hN.out]; omega)]; rfl
              · rw [show N - run = 0 by omega]
            · exact hR.out.lat.drop9 hN.out hr2
          have HDN : Hid ((u.drop run).length = N - run) := by show _ = _; rw [List.length_drop, hN.out]
          have HUD : Hid (∀ x, x ∈ u.drop run → x < C) := fun x hx => hU.out x (List.mem_of_mem_drop hx)
          have HIT := hide (fun W => itoa_small run (by omega) W)
          have HWS := hide (writeString_ok w.heap.size w.heap.size acc ⟨(Lib.decDigits run).toArray⟩ w2 hbld2 (by rw [dec_digits (by omega)]; have := decB_length run; show acc.length + (decB run).toArray.size ≤ _; rw [List.size_toArray]; omega) hs2)
          have HDL : Hid ((⟨(Lib.decDigits run).toArray⟩ : ByteArray).data.toList = decB run) := by show _ = _; rw [dec_digits (by omega)]
          rw [HDL.out] at HWS
          have hdb := decB_length run
          clear hbld2
          generalize (⟨(Lib.decDigits run).toArray⟩ : ByteArray) = ds at *
          go_wp2_with fail
          refine (HIT.out _).mono ?_
          rintro e w9 ⟨rfl, rfl⟩
          go_wp2_with fail
          refine HWS.out.mono ?_
          rintro e w3 ⟨rfl, hbl3, hb3⟩
          have hB3 : Below w.heap.size w w3 := hB2.trans hb3
          have HBX := hide hbl3
          clear hbl3 hb3 HWS HIT
          have hk1 := (hB3.cell (p := ⟨lb, lo, none⟩) hlb).trans hc0
          have hk2 := (hB3.cell (p := ⟨cb, co + x * 2, none⟩) hcb).trans a1
          have hsX := hB3.size
          have HWR := hide (writeRune_ok w.heap.size w.heap.size (acc ++ decB run) r sr1 sr2 w3 HBX.out (by rw [List.length_append]; omega) hsX)
          clear hR HEQ
          go_wp2_with fail
          refine HWR.out.mono ?_
          rintro e w4 ⟨⟨xv, rfl⟩, hbl4, hb4⟩
          have HF : Hid (PRel cs L w.heap.size w w4 (.slice (if c = run then some ⟨lb, lo, none⟩ else some ⟨lb, lo + run, none⟩) (N - run) (c - run)) (u.drop run) (acc ++ decB run ++ Lib.encodeRune r)) := ⟨HLT.out, hbl4, HAC.out, HFW.out, hB3.trans hb4⟩
          clear hbl4 hb4 HWR HBX HAC HFW HLT
          go_wp2
          go_roundw
          case rel => exact ⟨u.drop run, _, _, _, by rw [HDN.out], HUD, HF⟩
          case measure => simp [sLen]; omega
        · have hri : ¬ (1 : Int) < (run : Int) := by omega
          have HAC : Hid (L = (acc ++ Lib.encodeRune r) ++ pF (sgB cs) 0 (u.drop run)) := by
            show L = _
            rw [hR.out.eq, HEQ.out, HSG.out]
            rw [if_neg hrun]
            simp [List.append_assoc]
          have HFW : Hid ((acc ++ Lib.encodeRune r).length + 6 * (u.drop run).length ≤ 6 * 400) := by
            show _ ≤ _
            have h1 := (Lib.runeCells_le r).2
            rw [Lib.runeCells_length] at h1
            have h2 := decB_length run
            rw [List.length_drop, hN.out]
            simp only [List.length_append]
            omega
          have HLT : Hid (Ints w (.slice (if c = run then some ⟨lb, lo, none⟩ else some ⟨lb, lo + run, none⟩) (N - run) (c - run)) (nI (u.drop run))) := by
            show Ints _ _ _
            split
            · refine Or.inl ⟨?_, some ⟨lb, lo, none⟩, c - run, ?_⟩
              · rw [List.drop_eq_nil_of_le (by rw [hN.out]; omega)]; rfl
              · rw [show N - run = 0 by omega]
            · exact hR.out.lat.drop9 hN.out hr2
          have HDN : Hid ((u.drop run).length = N - run) := by show _ = _; rw [List.length_drop, hN.out]
          have HUD : Hid (∀ x, x ∈ u.drop run → x < C) := fun x hx => hU.out x (List.mem_of_mem_drop hx)
          have HBX := hide hbld2
          clear hbld2
          have hk1 := (hB2.cell (p := ⟨lb, lo, none⟩) hlb).trans hc0
          have hk2 := (hB2.cell (p := ⟨cb, co + x * 2, none⟩) hcb).trans a1
          have hsX := hB2.size
          have HWR := hide (writeRune_ok w.heap.size w.heap.size (acc) r sr1 sr2 w2 HBX.out (by omega) hsX)
          clear hR HEQ
          go_wp2_with fail
          refine HWR.out.mono ?_
          rintro e w4 ⟨⟨xv, rfl⟩, hbl4, hb4⟩
          have HF : Hid (PRel cs L w.heap.size w w4 (.slice (if c = run then some ⟨lb, lo, none⟩ else some ⟨lb, lo + run, none⟩) (N - run) (c - run)) (u.drop run) (acc ++ Lib.encodeRune r)) := ⟨HLT.out, hbl4, HAC.out, HFW.out, hB2.trans hb4⟩
          clear hbl4 hb4 HWR HBX HAC HFW HLT
          go_wp2
          go_roundw
          case rel => exact ⟨u.drop run, _, _, _, by rw [HDN.out], HUD, HF⟩
          case measure => simp [sLen]; omega
      · have hN0 : ¬ (0 : Int) < (N : Int) := by omega
        have hu0 : u = [] := List.length_eq_zero_iff.1 (by rw [hN.out]; omega)
        have HLA : Hid (L = acc) := by
          show L = acc
          have := hR.out.eq
          rw [hu0] at this
          simpa [pF] using this
        have HST := hide (fun W (hW : Below wr.heap.size wr W) => bString_ok w.heap.size w.heap.size acc wr hR.out.bld hbs)
        have HS2 := hide (bString_ok w.heap.size w.heap.size acc wr hR.out.bld hbs)
        have HBw := hide hR.out.below
        rw [← HLA.out] at HS2
        clear hR HST hU
        go_wp2_with fail
        refine HS2.out.mono ?_
        rintro e w3 ⟨rfl, hb3⟩
        have HB3 := hide (HBw.out.trans hb3)
        clear hb3 HS2 HBw
        go_wp2
        go_ret2
        exact ⟨rfl, HB3.out⟩
  · rw [if_neg hz]
    obtain ⟨lp, lc, rfl⟩ := hl.form
    generalize lErr cs.length ls = er at *
    have hzz : (er != 0) = true := by simpa using hz
    clear hz hl hcv hsr
    generalize ls.length = T at *
    generalize cs.length = C at *
    go_enter Tryd.func10, Tryd.ntmps10
    go_wp2_with fail
    refine HCL.out.mono ?_
    rintro e w1 ⟨rfl, rfl⟩
    go_wp2
    go_ret2
    exact ⟨rfl, Below.refl _ _⟩

end Go.Proofs.YtenpkhalgkodbaaDoor

/- Plain: texts of touches that are read; a text that is told of leads is read as these. -/
namespace Go.Proofs.YtenpkhalgkodbaaDoor
open Go.RowKit
set_option linter.unusedVariables false

/-- A text of letters below 128 is read, from what is known to what is known then. -/
inductive Rds (cs : List Cl) (fin : TSt) : TSt → List Nat → Prop
  | done : Rds cs fin fin []
  | digit (st : TSt) (d : Nat) (rest : List Nat) (h9 : d ≤ 9) (h1 : 1 ≤ st.num * 10 + d) (h2 : st.num * 10 + d ≤ 99) (h : Rds cs fin { st with num := st.num * 10 + d } rest) : Rds cs fin st ((48 + d) :: rest)
  | opens (nm : Nat) (rest : List Nat) (h : Rds cs fin ⟨0, true, max nm 1, []⟩ rest) : Rds cs fin ⟨nm, false, 0, []⟩ (40 :: rest)
  | shuts (tm : Nat) (ld : List Int) (rest : List Nat) (h1 : 1 ≤ ld.length) (h2 : 1 ≤ tm) (h3 : tm ≤ 400) (h4 : ld.length * tm ≤ 400) (h : Rds cs fin ⟨0, false, 0, repL tm ld⟩ rest) : Rds cs fin ⟨0, true, tm, ld⟩ (41 :: rest)
  | call (st : TSt) (c x : Nat) (rest : List Nat) (hc : c < cs.length) (hx : (cs.getD c (0, [])).1 = (x : Int)) (h1 : ¬ (48 ≤ x ∧ x ≤ 57)) (h2 : x ≠ 40) (h3 : x ≠ 41) (h4 : x < 128) (h5 : max st.num 1 ≤ 400) (h6 : st.ld.length + max st.num 1 ≤ 400)
      (h : Rds cs fin { st with num := 0, ld := st.ld ++ repL (max st.num 1) [(c : Int)] } rest) : Rds cs fin st (x :: rest)

/-- Bytes as numbers. -/
def nb (l : List UInt8) : List Nat := l.map UInt8.toNat

theorem nb_app (a b : List UInt8) : nb (a ++ b) = nb a ++ nb b := List.map_append

theorem nb_dec {n : Nat} (h : n < 100) : nb (decB n) = if n < 10 then [48 + n] else [48 + n / 10, 48 + n % 10] := by
  have h1 : ∀ k, k < 10 → (UInt8.ofNat (48 + k)).toNat = 48 + k := fun k hk => by
    show (48 + k) % 256 = 48 + k
    omega
  unfold decB
  split
  · simp only [nb, List.map_cons, List.map_nil, h1 n (by omega)]
  · simp only [nb, List.map_cons, List.map_nil, h1 (n / 10) (by omega), h1 (n % 10) (by omega)]

/-- A number is read. -/
theorem rds_num {cs : List Cl} {fin : TSt} {n : Nat} (h1 : 1 ≤ n) (h2 : n ≤ 99) (st : TSt) (h0 : st.num = 0) (rest : List Nat) (h : Rds cs fin { st with num := n } rest) : Rds cs fin st (nb (decB n) ++ rest) := by
  rw [nb_dec (by omega)]
  split
  · refine Rds.digit st n rest (by omega) (by omega) (by omega) ?_
    rw [h0, Nat.zero_mul, Nat.zero_add]
    exact h
  · refine Rds.digit st (n / 10) _ (by omega) (by omega) (by omega) ?_
    rw [h0, Nat.zero_mul, Nat.zero_add]
    refine Rds.digit _ (n % 10) rest (by omega) (by show 1 ≤ n / 10 * 10 + n % 10; omega) (by show n / 10 * 10 + n % 10 ≤ 99; omega) ?_
    have e : n / 10 * 10 + n % 10 = n := by omega
    rw [show (TSt.num { st with num := n / 10 }) = n / 10 from rfl, e]
    exact h

/-- What stands for a call is one letter. -/
structure SgnOk (cs : List Cl) (sg : Nat → List UInt8) : Prop where
  one : ∀ c, c < cs.length → ∃ x : UInt8, sg c = [x] ∧ (cs.getD c (0, [])).1 = (x.toNat : Int) ∧ ¬ (48 ≤ x.toNat ∧ x.toNat ≤ 57) ∧ x.toNat ≠ 40 ∧ x.toNat ≠ 41 ∧ x.toNat < 128

theorem rds_pF {cs : List Cl} {fin : TSt} {sg : Nat → List UInt8} (hsg : SgnOk cs sg) : ∀ (l : List Nat) (n : Nat) (st : TSt) (rest : List Nat), st.num = 0 → (l = [] → n = 0) → (∀ c, c ∈ l → c < cs.length) → n + l.length ≤ 99 → st.ld.length + n + l.length ≤ 400 →
    Rds cs fin { st with num := 0, ld := st.ld ++ (List.replicate n (((l.headD 0 : Nat) : Int)) ++ nI l) } rest → Rds cs fin st (nb (pF sg n l) ++ rest)
  | [], n, st, rest, h0, hn, hc, hl, hb, h => by
    obtain rfl := hn rfl
    have e : ({ st with num := 0, ld := st.ld ++ (List.replicate 0 (((([] : List Nat).headD 0 : Nat) : Int)) ++ nI []) } : TSt) = st := by
      cases st
      simp at h0
      subst h0
      simp [nI]
    rw [e] at h
    exact h
  | x :: xs, n, st, rest, h0, hn, hc, hl, hb, h => by
    rw [pF]
    simp only [List.length_cons] at hl hb
    split
    · rename_i hh
      obtain ⟨h1, h2⟩ := hh
      refine rds_pF hsg xs (n + 1) st rest h0 (fun e => by rw [e] at h1; cases h1) (fun c hc' => hc c (List.mem_cons_of_mem _ hc')) (by omega) (by omega) ?_
      cases xs with
      | nil => cases h1
      | cons y ys =>
        have : y = x := by simpa using h1
        subst this
        have e : List.replicate (n + 1) ((((y :: ys).headD 0 : Nat) : Int)) ++ nI (y :: ys) = List.replicate n ((((y :: y :: ys).headD 0 : Nat) : Int)) ++ nI (y :: y :: ys) := by
          show List.replicate (n + 1) (y : Int) ++ nI (y :: ys) = List.replicate n (y : Int) ++ ((y : Int) :: nI (y :: ys))
          rw [List.replicate_succ', List.append_assoc]
          rfl
        rw [e]
        exact h
    · obtain ⟨b, hb1, hb2, hb3, hb4, hb5, hb6⟩ := hsg.one x (hc x List.mem_cons_self)
      rw [hb1, nb_app, nb_app, List.append_assoc, List.append_assoc]
      -- what comes behind the number
      have hcall : ∀ st2 : TSt, st2.ld = st.ld → st2.dep = st.dep → st2.tm = st.tm → max st2.num 1 = n + 1 → Rds cs fin st2 (nb [b] ++ (nb (pF sg 0 xs) ++ rest)) := fun st2 q1 q2 q3 q4 => by
        refine Rds.call st2 x b.toNat _ (hc x List.mem_cons_self) hb2 hb3 hb4 hb5 hb6 (by omega) (by rw [q1]; omega) ?_
        refine rds_pF hsg xs 0 _ rest rfl (fun _ => rfl) (fun c hc' => hc c (List.mem_cons_of_mem _ hc')) (by omega) ?_ ?_
        · show (st2.ld ++ repL (max st2.num 1) [(x : Int)]).length + 0 + xs.length ≤ 400
          rw [List.length_append, repL_len, q1, q4]
          simp
          omega
        · have e : ({ num := 0, dep := st2.dep, tm := st2.tm, ld := (st2.ld ++ repL (max st2.num 1) [(x : Int)]) ++ (List.replicate 0 (((xs.headD 0 : Nat) : Int)) ++ nI xs) } : TSt) = { st with num := 0, ld := st.ld ++ (List.replicate n ((((x :: xs).headD 0 : Nat) : Int)) ++ nI (x :: xs)) } := by
            rw [q1, q2, q3, q4, repL_one]
            congr 1
            show (st.ld ++ List.replicate (n + 1) (x : Int)) ++ ([] ++ nI xs) = st.ld ++ (List.replicate n (x : Int) ++ ((x : Int) :: nI xs))
            rw [List.replicate_succ', List.nil_append, List.append_assoc, List.append_assoc]
            rfl
          exact e ▸ h
      split
      · refine rds_num (by omega) (by omega) st h0 _ (hcall _ rfl rfl rfl ?_)
        show max (n + 1) 1 = n + 1
        omega
      · have : n = 0 := by omega
        subst this
        exact hcall st rfl rfl rfl (by rw [h0]; rfl)

end Go.Proofs.YtenpkhalgkodbaaDoor

/- Contract: the touch reader's take. -/
namespace Go.Proofs.YtenpkhalgkodbaaDoor
open Go.RowKit
set_option maxRecDepth 20000
set_option linter.unusedVariables false

/-- What a step of the reader leaves. -/
def TGoes (cs : List Cl) (fin : TSt) (B R : Nat) (cv : Value) (rest : List Nat) (w : World) (e : Ending) (w' : World) : Prop :=
  e = .returned (.int .i64 0) ∧ (∃ st2, Ts w' B R cv st2 ∧ Rds cs fin st2 rest) ∧ Bel B w w'

set_option maxHeartbeats 4000000 in
theorem take_digit (cs : List Cl) (fin : TSt) (B R o oc d : Nat) (cv lv : Value) (st : TSt) (rest : List Nat) (w : World) (h : TsAt w B R cv o oc lv st) (h9 : d ≤ 9) (h1 : 1 ≤ st.num * 10 + d) (h2 : st.num * 10 + d ≤ 99) (hr : Rds cs fin { st with num := st.num * 10 + d } rest) :
    Calls Tryd.prog 44 #[.pointer (some ⟨R, 0, none⟩), .int .i32 ((48 + d : Nat) : Int)] w (TGoes cs fin B R cv rest w) := by
  have HDG := hide (cdigit_any ((48 + d : Nat) : Int) w)
  rw [show decide (48 ≤ ((48 + d : Nat) : Int) ∧ ((48 + d : Nat) : Int) ≤ 57) = true from decide_eq_true (by omega)] at HDG
  have HD := hide (digit_ok B R o oc d cv lv st w h h2 h1)
  have hw1 : IntKind.i32.wrap (((48 + d : Nat) : Int) - 48) = (d : Int) := by rw [show ((48 + d : Nat) : Int) - 48 = (d : Int) by omega, IntKind.wrap_i32]; omega
  have hw2 : IntKind.i64.wrap (d : Int) = (d : Int) := by rw [IntKind.wrap_i64]; omega
  have HR := hide hr
  clear h hr h1 h2
  generalize { st with num := st.num * 10 + d } = st2 at *
  generalize ((48 + d : Nat) : Int) = x at *
  go_enter Tryd.func44, Tryd.ntmps44
  go_wp2_with fail
  refine HDG.out.mono ?_
  rintro e w1 ⟨rfl, rfl⟩
  go_wp2_with fail
  refine HD.out.mono ?_
  rintro e w1 ⟨rfl, h1, h2⟩
  have HF : Hid (TGoes cs fin B R cv rest w (.returned (.int .i64 0)) w1) := ⟨rfl, ⟨st2, h1, HR.out⟩, h2⟩
  clear h1 h2 HD HDG HR
  go_wp2
  go_ret
  exact HF.out

set_option maxHeartbeats 4000000 in
theorem take_opens (cs : List Cl) (fin : TSt) (B R o oc nm : Nat) (cv lv : Value) (rest : List Nat) (w : World) (h : TsAt w B R cv o oc lv ⟨nm, false, 0, []⟩) (hr : Rds cs fin ⟨0, true, max nm 1, []⟩ rest) (hBw : B ≤ w.heap.size) :
    Calls Tryd.prog 44 #[.pointer (some ⟨R, 0, none⟩), .int .i32 40] w (TGoes cs fin B R cv rest w) := by
  have HDG := hide (cdigit_any 40 w)
  rw [show decide (48 ≤ (40 : Int) ∧ (40 : Int) ≤ 57) = false from by decide] at HDG
  have HD := hide (opening_ok B R nm o oc cv lv w h hBw)
  have HR := hide hr
  clear h hr
  generalize (⟨0, true, max nm 1, []⟩ : TSt) = st2 at *
  go_enter Tryd.func44, Tryd.ntmps44
  go_wp2_with fail
  refine HDG.out.mono ?_
  rintro e w1 ⟨rfl, rfl⟩
  go_wp2_with fail
  refine HD.out.mono ?_
  rintro e w1 ⟨rfl, h1, h2⟩
  have HF : Hid (TGoes cs fin B R cv rest w (.returned (.int .i64 0)) w1) := ⟨rfl, ⟨st2, h1, HR.out⟩, h2⟩
  clear h1 h2 HD HDG HR
  go_wp2
  go_ret
  exact HF.out

set_option maxHeartbeats 4000000 in
theorem take_shuts (cs : List Cl) (fin : TSt) (B R o oc tm : Nat) (ld : List Int) (cv lv : Value) (rest : List Nat) (w : World) (h : TsAt w B R cv o oc lv ⟨0, true, tm, ld⟩) (h1 : 1 ≤ ld.length) (h2 : 1 ≤ tm) (h3 : tm ≤ 400) (h4 : ld.length * tm ≤ 400) (hr : Rds cs fin ⟨0, false, 0, repL tm ld⟩ rest) (hBw : B ≤ w.heap.size) :
    Calls Tryd.prog 44 #[.pointer (some ⟨R, 0, none⟩), .int .i32 41] w (TGoes cs fin B R cv rest w) := by
  have HDG := hide (cdigit_any 41 w)
  rw [show decide (48 ≤ (41 : Int) ∧ (41 : Int) ≤ 57) = false from by decide] at HDG
  have HD := hide (closing_ok B R tm o oc cv lv ld w h h1 h2 h3 h4 hBw)
  have HR := hide hr
  clear h hr h1 h2 h3 h4
  generalize (⟨0, false, 0, repL tm ld⟩ : TSt) = st2 at *
  go_enter Tryd.func44, Tryd.ntmps44
  go_wp2_with fail
  refine HDG.out.mono ?_
  rintro e w1 ⟨rfl, rfl⟩
  go_wp2_with fail
  refine HD.out.mono ?_
  rintro e w1 ⟨rfl, h1, h2⟩
  have HF : Hid (TGoes cs fin B R cv rest w (.returned (.int .i64 0)) w1) := ⟨rfl, ⟨st2, h1, HR.out⟩, h2⟩
  clear h1 h2 HD HDG HR
  go_wp2
  go_ret
  exact HF.out

end Go.Proofs.YtenpkhalgkodbaaDoor

/- Contract: the touch reader's take at a call's sign, and at every sign that may be. -/
namespace Go.Proofs.YtenpkhalgkodbaaDoor
open Go.RowKit
set_option maxRecDepth 20000
set_option linter.unusedVariables false

set_option maxHeartbeats 1500000 in
theorem take_call (cs : List Cl) (fin : TSt) (B R o oc c x : Nat) (cv lv : Value) (st : TSt) (rest : List Nat) (w : World) (h : TsAt w B R cv o oc lv st) (hcv : CallsIn w cv cs) (hm : cs.length ≤ 1000) (hdis : ∀ i j, i < j → j < cs.length → (cs.getD i (0, [])).1 ≠ (cs.getD j (0, [])).1)
    (hc : c < cs.length) (hx : (cs.getD c (0, [])).1 = (x : Int)) (h1 : ¬ (48 ≤ x ∧ x ≤ 57)) (h2 : x ≠ 40) (h3 : x ≠ 41) (h4 : x < 128) (h5 : max st.num 1 ≤ 400) (h6 : st.ld.length + max st.num 1 ≤ 400) (hr : Rds cs fin { st with num := 0, ld := st.ld ++ repL (max st.num 1) [(c : Int)] } rest) (hBw : B ≤ w.heap.size) :
    Calls Tryd.prog 44 #[.pointer (some ⟨R, 0, none⟩), .int .i32 x] w (TGoes cs fin B R cv rest w) := by
  have HDG := hide (cdigit_any (x : Int) w)
  rw [show decide (48 ≤ (x : Int) ∧ (x : Int) ≤ 57) = false from decide_eq_false (by omega)] at HDG
  have hFD := find_at cv cs c w hcv hc hm hdis
  rw [hx] at hFD
  have HFD := hide hFD
  obtain ⟨cp, cc, rfl⟩ := hcv.form
  have c0 := h.c0
  have g1 : decide ((x : Int) = 40) = false := decide_eq_false (by omega)
  have g2 : decide ((x : Int) = 41) = false := decide_eq_false (by omega)
  have g3 : ((x : Int) == 40) = false := by rw [beq_eq_false_iff_ne]; omega
  have g4 : ((x : Int) == 41) = false := by rw [beq_eq_false_iff_ne]; omega
  have g5 : ¬ ((x : Int) = 40) := by omega
  have g6 : ¬ ((x : Int) = 41) := by omega
  have HH := hide h
  have HR := hide hr
  have HL : Hid (1 ≤ max st.num 1 ∧ max st.num 1 ≤ 400 ∧ st.ld.length + max st.num 1 ≤ 400) := ⟨by omega, h5, h6⟩
  clear h hr h1 h2 h3 h4 h5 h6 hcv hFD hdis hx
  generalize cs.length = C at *
  go_enter Tryd.func44, Tryd.ntmps44
  go_wp2_with fail
  refine HDG.out.mono ?_
  rintro e w1 ⟨rfl, rfl⟩
  go_wp2_with fail
  refine HFD.out.mono ?_
  rintro e w2 ⟨rfl, hb2⟩
  have h2 := HH.out.later hb2
  have HTI := hide (rtimes_ok B R o oc _ lv st w2 h2)
  have HT3 : Hid (TsAt (w2.setCell ⟨R, 2, none⟩ (.int .i64 0)) B R (.slice cp C cc) o oc lv { st with num := 0 }) := h2.setNum 0
  have HB3 : Hid (Bel B w (w2.setCell ⟨R, 2, none⟩ (.int .i64 0))) := (Bel.of hb2 hBw).setCell (p := ⟨R, 2, none⟩) h2.hB _
  have hsz3 : B ≤ (w2.setCell ⟨R, 2, none⟩ (.int .i64 0)).heap.size := by have := HT3.out.lt; have := HT3.out.hB; omega
  obtain ⟨tk, htk⟩ : ∃ tk, max st.num 1 = tk := ⟨_, rfl⟩
  rw [htk] at HTI HL HR
  clear htk h2 hb2 HFD HDG
  go_wp2_with fail
  refine HTI.out.mono ?_
  rintro e w3 ⟨rfl, rfl⟩
  clear HTI
  have hsz : (w2.setCell ⟨R, 2, none⟩ (.int .i64 0)).heap.size = w2.heap.size := by simp [World.setCell]
  have h9 := heap_alloc_new (w2.setCell ⟨R, 2, none⟩ (.int .i64 0)) (.cells #[.int .i64 (c : Int)] 3)
  rw [hsz] at h9
  have hI4 : Ints ((w2.setCell ⟨R, 2, none⟩ (.int .i64 0)).alloc (.cells #[.int .i64 c] 3)) (.slice (some ⟨w2.heap.size, 0, none⟩) 1 1) [(c : Int)] := by
    refine Or.inr ⟨w2.heap.size, 0, 1, rfl, by simp, by simp, by decide, by simp [World.setCell], fun j hj => ?_⟩
    have : j = 0 := by simp at hj; omega
    subst this
    unfold World.cell?
    simp only [Nat.add_zero, h9]
    rfl
  have hT4 := HT3.out.later ((Below.refl _ _).alloc (Nat.le_refl _) (.cells #[.int .i64 c] 3))
  have hB4 : Bel B w ((w2.setCell ⟨R, 2, none⟩ (.int .i64 0)).alloc (.cells #[.int .i64 c] 3)) := HB3.out.alloc hsz3 _
  have hAD := add_ok B R o oc _ lv _ _ [(c : Int)] tk _ hT4 hI4 (by simp) HL.out.1 HL.out.2.1 (by show st.ld.length + 1 * tk ≤ 400; have := HL.out.2.2; omega) (Nat.le_trans hsz3 (by simp))
  have HAD := hide hAD
  have HB4 := hide hB4
  clear hI4 hT4 hB4 hAD HB3 HT3 h9 hsz hsz3
  go_wp2_with fail
  refine HAD.out.mono ?_
  rintro e w5 ⟨rfl, h5, hb5⟩
  have HF : Hid (TGoes cs fin B R _ rest w (.returned (.int .i64 0)) w5) := ⟨rfl, ⟨_, h5, HR.out⟩, HB4.out.trans hb5⟩
  clear h5 hb5 HAD HB4 HR HL HH
  go_wp2
  go_ret
  exact HF.out

theorem ttake_ok (cs : List Cl) (fin : TSt) (B R o oc x : Nat) (cv lv : Value) (st : TSt) (rest : List Nat) (w : World) (h : TsAt w B R cv o oc lv st) (hcv : CallsIn w cv cs) (hm : cs.length ≤ 1000) (hdis : ∀ i j, i < j → j < cs.length → (cs.getD i (0, [])).1 ≠ (cs.getD j (0, [])).1)
    (hr : Rds cs fin st (x :: rest)) (hBw : B ≤ w.heap.size) :
    Calls Tryd.prog 44 #[.pointer (some ⟨R, 0, none⟩), .int .i32 x] w (TGoes cs fin B R cv rest w) := by
  cases hr with
  | digit _ d _ h9 h1 h2 hr => exact take_digit cs fin B R o oc d cv lv st rest w h h9 h1 h2 hr
  | opens nm _ hr => exact take_opens cs fin B R o oc nm cv lv rest w h hr hBw
  | shuts tm ld _ h1 h2 h3 h4 hr => exact take_shuts cs fin B R o oc tm ld cv lv rest w h h1 h2 h3 h4 hr hBw
  | call _ c _ _ hc hx h1 h2 h3 h4 h5 h6 hr => exact take_call cs fin B R o oc c x cv lv st rest w h hcv hm hdis hc hx h1 h2 h3 h4 h5 h6 hr hBw

end Go.Proofs.YtenpkhalgkodbaaDoor

/- Runes as they are decoded; rows of the call's own beside an iterator. -/
namespace Go.Proofs.YtenpkhalgkodbaaDoor
open Go.RowKit Go.Lib
set_option maxRecDepth 20000

theorem decode_ok (s : ByteArray) (pos : Nat) : (Utf8.decode s pos).1 < 55296 ∨ 57343 < (Utf8.decode s pos).1 := by
  rw [decode_at]
  have h0 : (s.get! pos).toNat < 256 := UInt8.toNat_lt _
  unfold decodeN
  repeat' split
  all_goals simp only
  all_goals omega

theorem owns_iter {w : World} {base e n b : Nat} {v : Value} {xs : List Value} {s : ByteArray} {p : Nat} (h : w.ownsRow base e 1 v n xs) (hb : w.heap[b]? = some (.stringIter s p)) (s' : ByteArray) (pos : Nat) : (w.iterAt b s' pos).ownsRow base e 1 v n xs := by
  refine ⟨h.1, ?_⟩
  rcases h.2 with h2 | ⟨g, cap, cur, rfl, hg, hh, r⟩
  · exact Or.inl h2
  · refine Or.inr ⟨g, cap, cur, rfl, hg, ?_, r⟩
    rw [iterAt_other _ _ _ _ _ (fun e => by subst e; rw [hb] at hh; cases hh)]
    exact hh

end Go.Proofs.YtenpkhalgkodbaaDoor

/- Contract: call.Parse at a text that is read. -/
namespace Go.Proofs.YtenpkhalgkodbaaDoor
open Go.RowKit Go.Lib
set_option maxRecDepth 20000
set_option linter.unusedVariables false

theorem Rds.ascii {cs : List Cl} {fin : TSt} : ∀ {st : TSt} {l : List Nat}, Rds cs fin st l → ∀ x, x ∈ l → x < 128 := by
  intro st l h
  induction h with
  | done => intro x hx; cases hx
  | digit _ d _ h9 _ _ _ ih => intro x hx; rcases List.mem_cons.1 hx with rfl | hx; omega; exact ih x hx
  | opens _ _ _ ih => intro x hx; rcases List.mem_cons.1 hx with rfl | hx; omega; exact ih x hx
  | shuts _ _ _ _ _ _ _ _ ih => intro x hx; rcases List.mem_cons.1 hx with rfl | hx; omega; exact ih x hx
  | call _ _ _ _ _ _ _ _ _ h4 _ _ _ ih => intro x hx; rcases List.mem_cons.1 hx with rfl | hx; exact h4; exact ih x hx

theorem owns_it {w : World} {base e size n b : Nat} {v : Value} {xs : List Value} {s : ByteArray} {p : Nat} (h : w.ownsRow base e size v n xs) (hb : w.heap[b]? = some (.stringIter s p)) (s' : ByteArray) (pos : Nat) : (w.iterAt b s' pos).ownsRow base e size v n xs := by
  refine ⟨h.1, ?_⟩
  rcases h.2 with h' | ⟨g, cap, cur, h', hg, hh, r⟩
  · exact Or.inl h'
  · exact Or.inr ⟨g, cap, cur, h', hg, by rw [iterAt_other _ _ _ _ _ (fun e => by subst e; rw [hb] at hh; cases hh)]; exact hh, r⟩

theorem TsAt.iter {w : World} {B R o oc b : Nat} {cv lv : Value} {st : TSt} {s : ByteArray} {p : Nat} (h : TsAt w B R cv o oc lv st) (hb : w.heap[b]? = some (.stringIter s p)) (s' : ByteArray) (pos : Nat) : TsAt (w.iterAt b s' pos) B R cv o oc lv st := by
  refine ⟨?_, h.hB, owns_it h.opn hb _ _, owns_it h.own hb _ _, h.nil⟩
  rw [iterAt_other _ _ _ _ _ (fun e => by subst e; have := h.blk; rw [hb] at this; cases this)]
  exact h.blk

/-- What the loop of Parse knows. -/
structure TpRel (w wr : World) (cs : List Cl) (fin : TSt) (cv : Value) (s : ByteArray) (l : List UInt8) (pos : Nat) : Prop where
  iter : wr.heap[w.heap.size + 1 + 1]? = some (.stringIter s pos)
  le : pos ≤ l.length
  ts : ∃ st, Ts wr w.heap.size (w.heap.size + 1) cv st ∧ Rds cs fin st (nb (l.drop pos))
  below : Below w.heap.size w wr

def robj (cv : Value) (o : Nat) : Obj := .cells #[cv, .slice (some ⟨o, 0, none⟩) 1 1, .int .i64 0] 75

theorem run_mkb (w : World) : (Instr.makeSlice 73 (.int .i64 1) (.int .i64 1)).run Tryd.prog w = .ok (.slice (some ⟨w.heap.size, 0, none⟩) 1 1) (w.alloc (.cells #[.int .i64 0, .slice none 0 0] 96)) := by kernel_rfl

set_option maxHeartbeats 2000000 in
theorem tparse_ok (cp : Option Addr) (C cc : Nat) (cs : List Cl) (fin : TSt) (l : List UInt8) (w : World) (hl : l.length ≤ 4000) (hcv : CallsIn w (.slice cp C cc) cs) (hm : cs.length ≤ 1000) (hdis : ∀ i j, i < j → j < cs.length → (cs.getD i (0, [])).1 ≠ (cs.getD j (0, [])).1)
    (hr : Rds cs fin ⟨0, false, 0, []⟩ (nb l)) (f0 : fin.num = 0) (f1 : fin.dep = false) (f2 : 1 ≤ fin.ld.length) (f3 : fin.ld.length ≤ 1000) :
    Calls Tryd.prog 21 #[.slice cp C cc, .string ⟨l.toArray⟩] w fun e w' => ∃ v, e = .returned (.tuple #[v, .int .i64 0]) ∧ w'.ownsRow w.heap.size 3 1 v fin.ld.length (fin.ld.map (Value.int .i64)) ∧ Below w.heap.size w w' := by
  obtain ⟨s, hs⟩ : ∃ s : ByteArray, Hid (s = ⟨l.toArray⟩) := ⟨_, rfl⟩
  have hsz : s.size = l.length := by rw [hs.out]; simp [ByteArray.size]
  have hget : ∀ pos (h : pos < s.size) (h2 : pos < l.length), s[pos]'h = l[pos] := fun pos h h2 => by
    have : ∀ (t : ByteArray) (h9 : pos < t.size), t = ⟨l.toArray⟩ → t[pos]'h9 = l[pos] := fun t h9 e => by subst e; rfl
    exact this s h hs.out
  have HG := hide hget
  have HSZ := hide hsz
  rw [← hs.out]
  have g1 : ¬ 4000 < (s.size : Int) := by omega
  have hmk := run_mkb
  have HASC := hide hr.ascii
  have HCV := hide hcv
  have HR := hide hr
  have HFI := hide (And.intro f0 (And.intro f1 (And.intro f2 f3)))
  have HDI := hide hdis
  clear hget hsz hr hcv f0 f1 f2 f3 hdis
  go_enter Tryd.func21, Tryd.ntmps21
  go_wp2_with fail
  have hb1 : Below w.heap.size w (w.alloc (.cells #[.int .i64 0, .slice none 0 0] 96)) := (Below.refl _ _).alloc (Nat.le_refl _) _
  have hz1 : (w.alloc (.cells #[.int .i64 0, .slice none 0 0] 96)).heap.size = w.heap.size + 1 := by simp
  have hh1 := heap_alloc_new w (.cells #[.int .i64 0, .slice none 0 0] 96)
  generalize w.alloc (.cells #[.int .i64 0, .slice none 0 0] 96) = wa at *
  have hb2 : Below wa.heap.size wa (wa.alloc (robj (.slice cp C cc) w.heap.size)) := (Below.refl _ _).alloc (Nat.le_refl _) _
  have hz2 : (wa.alloc (robj (.slice cp C cc) w.heap.size)).heap.size = w.heap.size + 1 + 1 := by simp [hz1]
  have hh2 := heap_alloc_new wa (robj (.slice cp C cc) w.heap.size)
  rw [hz1] at hh2
  have hh1b := (hb2.block w.heap.size (by omega)).trans hh1
  have hB2 := hb1.trans (hb2.mono hb1.size)
  change Code.wp _ _ _ _ ((wa.alloc (robj (.slice cp C cc) w.heap.size)).iter s 0)
  generalize wa.alloc (robj (.slice cp C cc) w.heap.size) = wb at *
  have hbi : Below wb.heap.size wb (wb.iter s 0) := below_iter wb s 0
  have hiw : (wb.iter s 0).heap[w.heap.size + 1 + 1]? = some (.stringIter s 0) := by have h9 := World.iter_heap wb s 0; rwa [hz2] at h9
  have hh1c := (hbi.block w.heap.size (by omega)).trans hh1b
  have hh2c := (hbi.block (w.heap.size + 1) (by omega)).trans hh2
  have hB3 := hB2.trans (hbi.mono hB2.size)
  generalize wb.iter s 0 = W0 at *
  have HR0 : Hid (TpRel w W0 cs fin (.slice cp C cc) s l 0) := ⟨hiw, Nat.zero_le _, ⟨⟨0, false, 0, []⟩, ⟨w.heap.size, 1, .slice none 0 0, hh2c, by omega, ⟨rfl, Or.inr ⟨w.heap.size, 1, _, rfl, Nat.le_refl _, hh1c, Nat.le_refl _, by unfold maxLen; omega, rfl, rfl⟩⟩, World.ownsRow_nil _ _ _ _, fun _ => rfl⟩, HR.out⟩, hB3⟩
  clear hb1 hz1 hh1 hb2 hz2 hh2 hh1b hB2 hbi hiw hh1c hh2c hB3 hmk HR g1 hl
  go_loopw [8] (fun _ wr => ∃ (pos : Nat), Hid (TpRel w wr cs fin (.slice cp C cc) s l pos)) (fun _ wr => s.size - wr.iterPos (w.heap.size + 1 + 1))
  case atStart => exact ⟨0, HR0⟩
  case round =>
    obtain ⟨pos, hP⟩ := hrel
    clear HR0
    have hP' := hP.out
    have HI := hide (iterPos_of hP'.iter)
    by_cases hp : pos < s.size
    · have hpl : pos < l.length := by rw [← HSZ.out]; exact hp
      obtain ⟨st, ⟨o, oc, lv, hts⟩, hrd⟩ := hP'.ts
      have hdr : nb (l.drop pos) = (l[pos]).toNat :: nb (l.drop (pos + 1)) := by rw [List.drop_eq_getElem_cons hpl]; rfl
      rw [hdr] at hrd
      have hx : (l[pos]).toNat < 128 := HASC.out _ (List.mem_map.2 ⟨l[pos], List.getElem_mem hpl, rfl⟩)
      have hdec : Utf8.decode s pos = ((l[pos]).toNat, 1) := by
        have e := HG.out pos hp hpl
        have h9 := decode_ascii s pos hp (by rw [e]; exact hx)
        rw [e] at h9
        exact h9
      have hnx0 : ∀ ty, (Instr.next (.pointer (some ⟨w.heap.size + 1 + 1, 0, none⟩)) true ty).run Tryd.prog wr = .ok (.tuple #[.bool true, .int .i64 (pos : Int), .int .i32 (((Utf8.decode s pos).1 : Nat) : Int)]) (wr.iterAt (w.heap.size + 1 + 1) s (pos + (Utf8.decode s pos).2)) := fun ty => run_next_any_at wr (w.heap.size + 1 + 1) s pos ty hP'.iter hp
      rw [hdec] at hnx0
      have hnx := hnx0
      have hB4 : Below w.heap.size w (wr.iterAt (w.heap.size + 1 + 1) s (pos + 1)) := below_iterAt hP'.below (by omega) s _
      have HNO := hide (fun s' W => noRune_ok (l[pos]).toNat s' W (by omega))
      have HTA := hide (ttake_ok cs fin w.heap.size (w.heap.size + 1) o oc (l[pos]).toNat _ lv st _ (wr.iterAt (w.heap.size + 1 + 1) s (pos + 1)) (hts.iter hP'.iter s (pos + 1)) (HCV.out.below hB4) hm HDI.out hrd hB4.size)
      have HIt := hide (iterAt_heap wr (w.heap.size + 1 + 1) s pos (pos + 1) hP'.iter)
      have HB4 := hide hB4
      have hps : ¬ (s.size : Int) < (pos : Int) := by omega
      clear hP hP' hts hrd hdr hdec hnx0 hx hB4
      generalize (l[pos]).toNat = x at *
      generalize wr.iterAt (w.heap.size + 1 + 1) s (pos + 1) = wi at *
      go_wp2_with fail
      refine (HNO.out _ _).mono ?_
      rintro e w1 ⟨rfl, rfl⟩
      clear HNO
      go_wp2_with fail
      refine HTA.out.mono ?_
      rintro e w2 ⟨rfl, ⟨st2, hts2, hrd2⟩, hgo⟩
      have hit2 := hgo.iters _ _ _ HIt.out
      have HP2 : Hid (TpRel w w2 cs fin (.slice cp C cc) s l (pos + 1)) := ⟨hit2, by omega, ⟨st2, hts2, hrd2⟩, HB4.out.trans hgo.below⟩
      have hit := hide hit2
      clear hgo hts2 hrd2 hit2 HTA HIt HB4
      go_wp2
      go_roundw
      case rel => exact ⟨pos + 1, HP2⟩
      case measure => rw [HI.out, iterPos_of hit.out]; omega
    · have hnx := fun ty => run_next_end_at (P := Tryd.prog) wr (w.heap.size + 1 + 1) s pos ty hP'.iter hp
      obtain ⟨st, ⟨o, oc, lv, hts⟩, hrd⟩ := hP'.ts
      have hle := hP'.le
      have hpl : pos = l.length := by have := HSZ.out; omega
      have hfin : st = fin := by
        rw [hpl, List.drop_length] at hrd
        cases hrd
        rfl
      subst hfin
      obtain ⟨f0, f1, f2, f3⟩ := HFI.out
      have HE := hide (tend_ok w.heap.size (w.heap.size + 1) o oc _ lv st wr hts f0 f1 f2 f3)
      have HOW := hide hts.own
      have HBW := hide hP'.below
      obtain ⟨lp, lc, rfl⟩ := owns_slice hts.own
      clear hP hP' hts hrd hpl hle f0 f1 f2 f3
      obtain ⟨T, hT⟩ : ∃ T, Hid (st.ld.length = T) := ⟨_, rfl⟩
      rw [hT.out] at HE HOW
      go_wp2_with fail
      refine HE.out.mono ?_
      rintro e w2 ⟨rfl, rfl⟩
      clear HE
      go_wp2
      go_ret2
      exact ⟨.slice lp T lc, rfl, by rw [hT.out]; exact HOW.out, HBW.out⟩

end Go.Proofs.YtenpkhalgkodbaaDoor

/- Contracts: the answer's Dec of small numbers, PrintTouch. -/
namespace Go.Proofs.YtenpkhalgkodbaaDoor
open Go.RowKit Go.Shelf
set_option maxRecDepth 20000
set_option linter.unusedVariables false

theorem str_app (a b : List UInt8) : (⟨a.toArray⟩ : ByteArray) ++ ⟨b.toArray⟩ = ⟨(a ++ b).toArray⟩ := by
  apply ByteArray.ext
  simp

theorem str_size (a : List UInt8) : (⟨a.toArray⟩ : ByteArray).size = a.length := by
  show a.toArray.size = _
  simp

theorem byte_str (n b : Nat) (W : World) (hk : W.cell? ⟨b, 0, none⟩ = some (.int .u8 (48 + (n : Int)))) : (convert 55 9 (.slice (some ⟨b, 0, none⟩) 1 1)).run Tryd.prog W = .ok (.string ⟨[UInt8.ofNat (48 + n)].toArray⟩) W := by
  have h := run_convert_bytes_arg (P := Tryd.prog) (w := W) 55 5 Tryd.underlying55 Tryd.underlying5 b 0 1 1 [48 + (n : Int)] rfl (fun i hi => by
    obtain rfl : i = 0 := by omega
    simpa using hk) 9 Tryd.underlying9
  rw [h]
  congr 3

set_option maxHeartbeats 2000000 in
theorem decS_one (n : Nat) (h : n < 10) (w : World) : Calls Tryd.prog 23 #[.int .i64 n] w fun e w' => e = .returned (.string ⟨[UInt8.ofNat (48 + n)].toArray⟩) ∧ Below w.heap.size w w' := by
  have h1 : ¬ (n : Int) < -9 := by omega
  have h2 : ¬ (n : Int) < 0 := by omega
  have h3 : (n : Int) < 10 := by omega
  have hcv := byte_str n w.heap.size (w.alloc (.cells #[.int .u8 (48 + (n : Int))] 5)) (by simp)
  have HB := hide ((Below.refl w.heap.size w).alloc (Nat.le_refl _) (.cells #[.int .u8 (48 + (n : Int))] 5))
  go_enter Tryd.func23, Tryd.ntmps23
  go_wp2
  go_ret
  exact ⟨rfl, HB.out⟩

set_option maxHeartbeats 4000000 in
theorem decS_two (n : Nat) (h0 : 10 ≤ n) (h : n < 100) (w : World) : Calls Tryd.prog 23 #[.int .i64 n] w fun e w' => e = .returned (.string ⟨(decB n).toArray⟩) ∧ Below w.heap.size w w' := by
  have h1 : ¬ (n : Int) < -9 := by omega
  have h2 : ¬ (n : Int) < 0 := by omega
  have h3 : ¬ (n : Int) < 10 := by omega
  obtain ⟨q, hq⟩ : ∃ q, Hid (n / 10 = q) := ⟨_, rfl⟩
  obtain ⟨m, hm⟩ : ∃ m, Hid (n % 10 = m) := ⟨_, rfl⟩
  have hq1 := hq.out
  have hm1 := hm.out
  have hq10 : q < 10 := by omega
  have hm10 : m < 10 := by omega
  have hdv : (n : Int).tdiv 10 = (q : Int) := by rw [show (10 : Int) = ((10 : Nat) : Int) from rfl, ← Int.ofNat_tdiv, hq1]
  have hmd : (n : Int).tmod 10 = (m : Int) := by rw [show (10 : Int) = ((10 : Nat) : Int) from rfl, ← Int.ofNat_tmod, hm1]
  have HD := hide (fun W => decS_one q hq10 W)
  have HBS := hide (fun b W hk => byte_str m b W hk)
  obtain ⟨sq, hsq⟩ : ∃ sq, Hid ((⟨[UInt8.ofNat (48 + q)].toArray⟩ : ByteArray) = sq) := ⟨_, rfl⟩
  obtain ⟨sm, hsm⟩ : ∃ sm, Hid ((⟨[UInt8.ofNat (48 + m)].toArray⟩ : ByteArray) = sm) := ⟨_, rfl⟩
  rw [hsq.out] at HD
  rw [hsm.out] at HBS
  have hadd := fun W => run_string_add_sum (P := Tryd.prog) (w := W) sq sm (by rw [← hsq.out, ← hsm.out, str_size, str_size]; simp)
  have HFIN : Hid ((⟨(decB n).toArray⟩ : ByteArray) = sq ++ sm) := by
    show _ = _
    rw [← hsq.out, ← hsm.out, str_app]
    unfold decB
    rw [if_neg (by omega), hq1, hm1]
    rfl
  clear hq1 hm1
  go_enter Tryd.func23, Tryd.ntmps23
  go_upto_region 7 with fail
  refine wp_region_held_drew (S := fun W' => Below w.heap.size w W') (by kernel_rfl) (Below.refl w.heap.size w).drew (fun hS => ?_)
  refine wpAnyH_take (i := 0) (v := .int .i64 n) rfl (by kernel_rfl) (by kernel_rfl) (by kernel_rfl) (fun _ _ _ h => h) (Or.inl ⟨by kernel_rfl, fun w' hS' => by clear hS'; go_simp⟩) hS ?_
  refine wpAnyH_take (i := 1) (v := .int .i64 q) rfl (by kernel_rfl) (by kernel_rfl) (by kernel_rfl) (fun _ _ _ h => h) (Or.inl ⟨by kernel_rfl, fun w' hS' => by clear hS'; go_simp; (try (rw [IntKind.wrap_i64]; omega))⟩) hS ?_
  refine wpAnyH_take (i := 3) (v := .int .i64 n) rfl (by kernel_rfl) (by kernel_rfl) (by kernel_rfl) (fun _ _ _ h => h) (Or.inl ⟨by kernel_rfl, fun w' hS' => by clear hS'; go_simp⟩) hS ?_
  refine wpAnyH_take (i := 4) (v := .int .i64 m) rfl (by kernel_rfl) (by kernel_rfl) (by kernel_rfl) (fun _ _ _ h => h) (Or.inl ⟨by kernel_rfl, fun w' hS' => by clear hS'; go_simp; (try (rw [IntKind.wrap_i64]; omega))⟩) hS ?_
  refine wpAnyH_take (i := 5) (v := .int .i64 (48 + (m : Int))) rfl (by kernel_rfl) (by kernel_rfl) (by kernel_rfl) (fun _ _ _ h => h) (Or.inl ⟨by kernel_rfl, fun w' hS' => by clear hS'; go_simp; (try (rw [IntKind.wrap_i64]; omega))⟩) hS ?_
  refine wpAnyH_take (i := 6) (v := .int .u8 (48 + (m : Int))) rfl (by kernel_rfl) (by kernel_rfl) (by kernel_rfl) (fun _ _ _ h => h) (Or.inl ⟨by kernel_rfl, fun w' hS' => by clear hS'; go_simp; (try (rw [IntKind.wrap_u8]; omega))⟩) hS ?_
  refine wpAnyH_ready (rs := [2, 7]) (by kernel_rfl) (by simp) ?_
  refine (AllReadyH.cons rfl (fun K9 hK9 => ?_) (AllReadyH.cons rfl (fun K9 hK9 => ?_) AllReadyH.nil))
  · go_simp
    refine (HD.out _).mono ?_
    rintro e w1 ⟨rfl, hb1⟩
    have hB1 : Below w.heap.size w w1 := (Below.refl w.heap.size w).drew.trans hb1
    refine hK9.out _ _ hB1 (fun hS => ?_)
    clear hK9
    refine wpAnyH_ready (rs := [7]) (by kernel_rfl) (by simp) ?_
    refine (AllReadyH.cons rfl (fun K9 hK9 => ?_) AllReadyH.nil)
    go_simp
    have hB2 : Below w.heap.size w (w1.alloc (.cells #[.int .u8 (48 + (m : Int))] 5)) := hB1.alloc hB1.size _
    have hcv := HBS.out w1.heap.size (w1.alloc (.cells #[.int .u8 (48 + (m : Int))] 5)) (by simp)
    refine hK9.out _ _ hB2 (fun hS => ?_)
    clear hK9
    refine wpAnyH_ready (rs := [8]) (by kernel_rfl) (by simp) ?_
    refine (AllReadyH.cons rfl (fun K9 hK9 => ?_) AllReadyH.nil)
    go_simp
    refine hK9.out _ _ hB2 (fun hS => ?_)
    clear hK9 hcv
    refine wpAnyH_take (i := 9) (v := .string (sq ++ sm)) rfl (by kernel_rfl) (by kernel_rfl) (by kernel_rfl) (fun _ _ _ h => h) (Or.inl ⟨by kernel_rfl, fun w' hS' => by clear hS'; go_simp⟩) hS ?_
    refine wpAnyH_take (i := 10) (v := .string (sq ++ sm)) rfl (by kernel_rfl) (by kernel_rfl) (by kernel_rfl) (fun _ _ _ h => h) (Or.inl ⟨by kernel_rfl, fun w' hS' => by clear hS'; go_simp⟩) hS ?_
    refine wpAnyH_done (by kernel_rfl) ?_ _
    have HBF := hide hB2
    clear hS
    go_wp2
    go_ret
    exact ⟨by rw [HFIN.out]; rfl, HBF.out⟩
  · go_simp
    have hBA : Below w.heap.size w (w.alloc (.cells #[.int .u8 (48 + (m : Int))] 5)).drew := ((Below.refl w.heap.size w).alloc (Nat.le_refl _) _).drew
    have hcv := HBS.out w.heap.size (w.alloc (.cells #[.int .u8 (48 + (m : Int))] 5)).drew (by show (w.alloc (.cells #[.int .u8 (48 + (m : Int))] 5)).cell? _ = _; simp)
    refine hK9.out _ _ hBA (fun hS => ?_)
    clear hK9
    refine wpAnyH_ready (rs := [2, 8]) (by kernel_rfl) (by simp) ?_
    refine (AllReadyH.cons rfl (fun K9 hK9 => ?_) (AllReadyH.cons rfl (fun K9 hK9 => ?_) AllReadyH.nil))
    · go_simp
      refine (HD.out _).mono ?_
      rintro e w1 ⟨rfl, hb1⟩
      have hB1 : Below w.heap.size w w1 := hBA.trans (hb1.mono hBA.size)
      have hk : w1.cell? ⟨w.heap.size, 0, none⟩ = some (.int .u8 (48 + (m : Int))) := (hb1.cell (p := ⟨w.heap.size, 0, none⟩) (by show w.heap.size < (w.alloc (.cells #[.int .u8 (48 + (m : Int))] 5)).heap.size; simp)).trans (by show (w.alloc (.cells #[.int .u8 (48 + (m : Int))] 5)).cell? _ = _; simp)
      have hcv2 := HBS.out w.heap.size w1 hk
      refine hK9.out _ _ hB1 (fun hS => ?_)
      clear hK9
      refine wpAnyH_ready (rs := [8]) (by kernel_rfl) (by simp) ?_
      refine (AllReadyH.cons rfl (fun K9 hK9 => ?_) AllReadyH.nil)
      go_simp
      refine hK9.out _ _ hB1 (fun hS => ?_)
      clear hK9 hcv2
      refine wpAnyH_take (i := 9) (v := .string (sq ++ sm)) rfl (by kernel_rfl) (by kernel_rfl) (by kernel_rfl) (fun _ _ _ h => h) (Or.inl ⟨by kernel_rfl, fun w' hS' => by clear hS'; go_simp⟩) hS ?_
      refine wpAnyH_take (i := 10) (v := .string (sq ++ sm)) rfl (by kernel_rfl) (by kernel_rfl) (by kernel_rfl) (fun _ _ _ h => h) (Or.inl ⟨by kernel_rfl, fun w' hS' => by clear hS'; go_simp⟩) hS ?_
      refine wpAnyH_done (by kernel_rfl) ?_ _
      have HBF := hide hB1
      clear hS
      go_wp2
      go_ret
      exact ⟨by rw [HFIN.out]; rfl, HBF.out⟩
    · go_simp
      refine hK9.out _ _ hBA (fun hS => ?_)
      clear hK9 hcv
      refine wpAnyH_ready (rs := [2]) (by kernel_rfl) (by simp) ?_
      refine (AllReadyH.cons rfl (fun K9 hK9 => ?_) AllReadyH.nil)
      go_simp
      refine (HD.out _).mono ?_
      rintro e w1 ⟨rfl, hb1⟩
      have hB1 : Below w.heap.size w w1 := hBA.trans (hb1.mono hBA.size)
      refine hK9.out _ _ hB1 (fun hS => ?_)
      clear hK9
      refine wpAnyH_take (i := 9) (v := .string (sq ++ sm)) rfl (by kernel_rfl) (by kernel_rfl) (by kernel_rfl) (fun _ _ _ h => h) (Or.inl ⟨by kernel_rfl, fun w' hS' => by clear hS'; go_simp⟩) hS ?_
      refine wpAnyH_take (i := 10) (v := .string (sq ++ sm)) rfl (by kernel_rfl) (by kernel_rfl) (by kernel_rfl) (fun _ _ _ h => h) (Or.inl ⟨by kernel_rfl, fun w' hS' => by clear hS'; go_simp⟩) hS ?_
      refine wpAnyH_done (by kernel_rfl) ?_ _
      have HBF := hide hB1
      clear hS
      go_wp2
      go_ret
      exact ⟨by rw [HFIN.out]; rfl, HBF.out⟩

theorem enc_rune (r : Int) : Utf8.encode r = ⟨(Lib.encodeRune r).toArray⟩ := by
  have key : (Utf8.encode r).data.toList = Lib.encodeRune r := by
    unfold Lib.encodeRune
    by_cases h0 : r < 0
    · have v : Utf8.valid r = false := by simp [Utf8.valid]; omega
      rw [Lib.encodeRuneZ_bad (by omega)]
      simp [Utf8.encode, v, Utf8.runeError]
    · obtain ⟨n, rfl⟩ : ∃ n : Nat, r = (n : Int) := ⟨r.toNat, by omega⟩
      rw [← Go.Extern.FmtText.encode_eq n]
      unfold Go.Extern.FmtText.nums
      rw [List.map_map]
      exact ((List.map_congr_left (fun b _ => by simp)).trans (List.map_id _)).symm
  apply ByteArray.ext
  rw [← key]

end Go.Proofs.YtenpkhalgkodbaaDoor
