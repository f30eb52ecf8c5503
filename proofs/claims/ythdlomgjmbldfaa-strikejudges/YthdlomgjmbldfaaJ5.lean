/- Joined: FlS, FlV. -/
import Derived.Test.YthdlomgjmbldfaaJ4
import Derived.Deep.Cut
import Derived.Deep.RegionLaw
/- The answer's Judge. -/
namespace Go.Proofs.Ythdlomgjmbldfaa
open Go.RowKit
set_option maxRecDepth 20000
set_option linter.unusedVariables false

/-- What the answer's Judge answers. -/
def RPost (n : Nat) (L : List (Int × Nat)) (w : World) (e : Ending) (w' : World) : Prop :=
  ∃ v r sv, e = .returned (.tuple #[.agg #[.float .f64 (startOf n L), .float .f64 (gapOf n L), .float .f64 (meanOf n L), .float .f64 (uns r), sv], .int .i64 0]) ∧ Zq (fop .quo (sm (tQ n L L.length)) (fi (L.length : Int))) v ∧ SqrtOf v r ∧ Fls w' sv ((List.range n).map (bellMean n L)) ∧ Below w.heap.size w w'

set_option maxHeartbeats 16000000 in
theorem rjudge_ok (n : Nat) (v : Value) (L : List (Int × Nat)) (w : World) (hv : Blows w v L) (hc : chkB n L = 0) (hok : BOk n L) (hb : ∀ k, k < L.length → 0 ≤ (L.getD k (0, 0)).1 ∧ (L.getD k (0, 0)).1 < n) :
    Calls Try.prog 6 #[.int .i64 n, v] w (RPost n L w) := by
  have hn1 := hok.n1
  have hn2 := hok.n12
  have HC := fun W hW => hide (blowsMay_ok n v L W ⟨by omega, by omega⟩ (hv.below (w' := W) hW))
  rw [hc] at HC
  rcases hv with ⟨rfl, _⟩ | ⟨b, off, cap, rfl, h0, h1, h2, h3, hcell⟩
  · have := hok.l2; simp at this
  have HCE := hide hcell
  have HOK := hide hok
  have HBB := hide hb
  obtain ⟨m, hm⟩ : ∃ m, Hid (L.length = m) := ⟨_, rfl⟩
  have hm0 : 2 ≤ m := by rw [← hm.out]; exact hok.l2
  have hm2 : m ≤ 500 := by rw [← hm.out]; exact hok.l5
  have hmc : m ≤ cap := by rw [← hm.out]; exact h1
  rw [hm.out] at HC ⊢
  clear hcell hok hb hc h0 h1
  go_enter Try.func6, Try.ntmps6
  have hB0 : Below w.heap.size w (w.alloc striking0) := (Below.refl _ _).alloc (Nat.le_refl _) _
  go_wp2_with fail
  refine (HC _ hB0).out.mono ?_
  rintro e w1 ⟨rfl, hd1⟩
  have hL0 : Hid (L1 w w1 n L 0 0 0 (.slice none 0 0) (.slice none 0 0) (.slice none 0 0)) := by
    have hz : w1.heap.size = w.heap.size + 1 := by rw [hd1.heap]; simp
    refine ⟨World.ownsRow_nil _ _ _ _, ⟨fun i hi => ?_, fun i j hi hj hij g e => ?_⟩, by rw [hd1.heap]; exact alloc_at _ _, hB0.trans (hd1.below _), by omega⟩
    · rcases (show i = 0 ∨ i = 1 by omega) with rfl | rfl
      · exact World.ownsRow_nil _ _ _ _
      · exact World.ownsRow_nil _ _ _ _
    · rcases (show i = 0 ∨ i = 1 by omega) with rfl | rfl
      · cases e
      · cases e
  clear hB0 hd1 HC
  go_wp2
  go_loopw [7, 8, 9, 10, 11, 12] (fun x q bv tv uv i wr => ∃ k X Q : Nat, k ≤ m ∧ i = .int .i64 k ∧ x = .int .i64 X ∧ q = .int .i64 Q ∧ Hid (X = Xn n k ∧ Q = Qn n k) ∧ Hid (L1 w wr n L k k k bv tv uv)) (fun _ _ _ _ _ i _ => m - (intOf i).toNat)
  case atStart => exact ⟨0, 0, 0, by omega, rfl, rfl, rfl, ⟨rfl, rfl⟩, hL0⟩
  case round =>
    obtain ⟨k, X, Q, hk, rfl, rfl, rfl, hXQ, hL⟩ := hrel
    have hXl : X ≤ 50000000 := by rw [hXQ.out.1]; have := Xn_le n k hn1 (by omega); omega
    have hQl : Q ≤ 500000000000 := by rw [hXQ.out.2]; have := Qn_le n k hn1 (by omega); omega
    by_cases hlt : k < m
    · have hkL : k < L.length := by rw [hm.out]; exact hlt
      obtain ⟨time, htime⟩ : ∃ y, Hid (timeAt L k = y) := ⟨_, rfl⟩
      have hbl := hL.out.bl
      have hcB : wr.cell? ⟨b, off + k * 2 + 1, none⟩ = some (.float .f64 time) := by rw [hbl.cell (p := ⟨b, off + k * 2 + 1, none⟩) h3, (HCE.out k hkL).2]; rw [← htime.out]
      have hq : (k : Int).tdiv (2 * (n : Int)) = ((k / (2 * n) : Nat) : Int) := by
        rw [show (2 * (n : Int)) = ((2 * n : Nat) : Int) from by omega, ← Int.ofNat_tdiv]
      have hcl := beatN_le n k hn1
      have hql : k / (2 * n) ≤ k := Nat.div_le_self _ _
      have hn0' : ¬ n = 0 := by omega
      have hn2' : ¬ (2 * (n : Int)) = 0 := by omega
      have hcb : (k : Int) + ((k / (2 * n) : Nat) : Int) = (beatN n k : Int) := by unfold beatN; omega
      have hmul : FOk .mul (fi (beatN n k)) time := by rw [← htime.out]; exact HOK.out.near.p k hkL
      have HPR : Hid (prodAt n L k = fop .mul (fi (beatN n k)) time) := by unfold prodAt; rw [htime.out]; exact rfl
      have HXQ : Hid (X + beatN n k = Xn n (k + 1) ∧ Q + beatN n k * beatN n k = Qn n (k + 1)) := ⟨by rw [hXQ.out.1]; rfl, by rw [hXQ.out.2]; rfl⟩
      have r1 := fun w => run_float_arith (P := Try.prog) w .mul 23 .f64 (fi (beatN n k)) time _ hmul
      have HCB := hide hcb
      have hb0 := hL.out.bt
      have hlb := beatsL_length n k
      have HT0 := hide htime.out
      generalize hcc : beatN n k = c at *
      generalize fop .mul (fi c) time = pr at *
      generalize k / (2 * n) = q at *
      have hcm : (c : Int) * (c : Int) ≤ 100000000 ∧ 0 ≤ (c : Int) * (c : Int) := ⟨by have : c * c ≤ 10000 * 10000 := Nat.mul_le_mul (by omega) (by omega); rw [← Int.natCast_mul]; omega, by rw [← Int.natCast_mul]; omega⟩
      clear hmul hcb
      have HBN := hide hcc
      clear hcc
      have HO1 : Hid (wr.ownsRow (w.heap.size + 1) 3 1 u9 (beatsL n k).length ((beatsL n k).map (Value.int .i64))) := by rw [hlb]; exact hb0
      have hsz := hL.out.sz
      have HLB := hide hlb
      clear hb0 hlb
      go_upto_region 13 with fail
      rw [HCB.out]
      go_wp2_with (at_builtin; refine wpList_pushI rfl _ _ rfl (w.heap.size + 1) u9 (beatsL n k) rfl (HO1.out.alloc _) wr.heap.size (c : Int) rfl (alloc_at wr _) ?a1 ?a2 ?_)
      case a1 => rw [HLB.out]; omega
      case a2 => simp; omega
      intro bv2 w2 hown2 hg2 hv2
      have hL2 : Hid (L1 w w2 n L (k + 1) k k bv2 u10 u11) := (hL.out.alloc _).pushB (by rw [HBN.out]; rw [HLB.out] at hown2; simpa using hown2) hg2
      clear hown2 hg2 hv2 HO1 hL
      have hbl2 := hL2.out.bl
      have hsz2 := hL2.out.sz
      have hcB2 : w2.cell? ⟨b, off + k * 2 + 1, none⟩ = some (.float .f64 time) := by rw [hbl2.cell (p := ⟨b, off + k * 2 + 1, none⟩) h3, (HCE.out k hkL).2]; rw [← htime.out]
      have HO2 : Hid (w2.ownsRow (w.heap.size + 1) 23 1 u10 (fl (timeAt L) k).length ((fl (timeAt L) k).map (Value.float .f64))) := by rw [fl_length]; exact hL2.out.times
      go_wp2_with (at_builtin; refine wpList_push rfl _ _ rfl (w.heap.size + 1) u10 (fl (timeAt L) k) rfl (HO2.out.alloc _) w2.heap.size time rfl (alloc_at w2 _) ?a3 ?a4 ?_)
      case a3 => rw [fl_length]; omega
      case a4 => simp; omega
      intro tv3 w3 hown3 hg3 hv3
      have hL3 : Hid (L1 w w3 n L (k + 1) (k + 1) k bv2 tv3 u11) := (hL2.out.alloc _).pushT (by rw [fl_length] at hown3; rw [htime.out]; simpa using hown3) hg3 (by simpa using hv3)
      clear hown3 hg3 hv3 HO2 hL2 hbl2 hsz2 hcB2
      have hbl3 := hL3.out.bl
      have hsz3 := hL3.out.sz
      have hcB3 : w3.cell? ⟨b, off + k * 2 + 1, none⟩ = some (.float .f64 time) := by rw [hbl3.cell (p := ⟨b, off + k * 2 + 1, none⟩) h3, (HCE.out k hkL).2]; rw [← htime.out]
      have HO3 : Hid (w3.ownsRow (w.heap.size + 1) 23 1 u11 (fl (prodAt n L) k).length ((fl (prodAt n L) k).map (Value.float .f64))) := by rw [fl_length]; exact hL3.out.both
      go_wp2_with (at_builtin; refine wpList_push rfl _ _ rfl (w.heap.size + 1) u11 (fl (prodAt n L) k) rfl (HO3.out.alloc _) w3.heap.size pr rfl (alloc_at w3 _) ?a5 ?a6 ?_)
      case a5 => rw [fl_length]; omega
      case a6 => simp; omega
      intro uv4 w4 hown4 hg4 hv4
      have hL4 : Hid (L1 w w4 n L (k + 1) (k + 1) (k + 1) bv2 tv3 uv4) := (hL3.out.alloc _).pushU (by rw [fl_length] at hown4; rw [HPR.out]; simpa using hown4) hg4 (by simpa using hv4)
      clear hown4 hg4 hv4 HO3 hL3 hbl3 hsz3 hcB3
      go_wp2
      go_roundw
      case rel => exact ⟨k + 1, X + c, Q + c * c, by omega, by go_num, by go_num, by rw [Int.natCast_add, Int.natCast_mul], HXQ, hL4⟩
      case measure => simp [intOf]; omega
    · obtain rfl : k = m := by omega
      have hk9 : L.length = k := hm.out
      have HTI : Hid (wr.ownsRow (w.heap.size + 1) 23 1 u10 k ((fl (timeAt L) k).map (Value.float .f64))) := hL.out.times
      have HBO : Hid (wr.ownsRow (w.heap.size + 1) 23 1 u11 k ((fl (prodAt n L) k).map (Value.float .f64))) := hL.out.both
      have hok := HOK.out
      have HA1 := hide (added_ok u10 (fl (timeAt L) k) wr (Fls.own HTI.out) (by rw [fl_length]; omega) (hok.timesAll (by omega)) (by rw [tT_fl, ← hk9]; exact hok.near.st))
      have HA2 := hide (added_ok u11 (fl (prodAt n L) k) wr (Fls.own HBO.out) (by rw [fl_length]; omega) (hok.prodsAll (by omega)) (by rw [tU_fl, ← hk9]; exact hok.near.su))
      rw [tT_fl] at HA1
      rw [tU_fl] at HA2
      have k3 := hok.near.a
      have k4 := hok.near.b
      have k5 := hok.near.c
      have k6 := hok.near.g
      obtain ⟨k7, k8, k9, _⟩ := hok.zstart
      have HG : gap0 n L = fop .quo (fop .sub (fop .mul (fi (L.length : Int)) (sm (tU n L L.length))) (fop .mul (fi (Xn n L.length : Int)) (sm (tT L L.length)))) (fi ((L.length : Int) * (Qn n L.length : Int) - (Xn n L.length : Int) * (Xn n L.length : Int))) := rfl
      have HS : startR n L = fop .quo (fop .sub (sm (tT L L.length)) (fop .mul (gap0 n L) (fi (Xn n L.length : Int)))) (fi (L.length : Int)) := rfl
      obtain ⟨G, hG⟩ : ∃ G, Hid (gap0 n L = G) := ⟨_, rfl⟩
      obtain ⟨S, hS⟩ : ∃ S, Hid (startR n L = S) := ⟨_, rfl⟩
      rw [hG.out] at k7 k8 k9 HG HS
      rw [hS.out] at HS
      rw [hk9] at k3 k4 k5 k6 k7 k8 k9 HG HS
      rw [← hXQ.out.1] at k4 k5 k6 k7 k8 k9 HG HS
      rw [← hXQ.out.2] at k6 HG
      have r3 := fun w => run_float_arith (P := Try.prog) w .mul 23 .f64 _ _ _ k3
      have r4 := fun w => run_float_arith (P := Try.prog) w .mul 23 .f64 _ _ _ k4
      have r5 := fun w => run_float_arith (P := Try.prog) w .sub 23 .f64 _ _ _ k5
      have r6 := fun w => run_float_arith (P := Try.prog) w .quo 23 .f64 _ _ _ k6
      have r7 := fun w => run_float_arith (P := Try.prog) w .mul 23 .f64 _ _ _ k7
      have r8 := fun w => run_float_arith (P := Try.prog) w .sub 23 .f64 _ _ _ k8
      have r9 := fun w => run_float_arith (P := Try.prog) w .quo 23 .f64 _ _ _ k9
      rw [← HG] at r6
      rw [← HS] at r9
      clear k3 k4 k5 k6 k7 k8 k9 HG HS hok
      generalize fop .sub (sm (tT L k)) (fop .mul G (fi (X : Int))) = a8 at *
      generalize fop .mul G (fi (X : Int)) = a7 at *
      generalize fop .sub (fop .mul (fi (k : Int)) (sm (tU n L k))) (fop .mul (fi (X : Int)) (sm (tT L k))) = a5 at *
      generalize fop .mul (fi (k : Int)) (sm (tU n L k)) = a3 at *
      generalize fop .mul (fi (X : Int)) (sm (tT L k)) = a4 at *
      have hkQ : (k : Int) * (Q : Int) ≤ 2500000000000000 ∧ 0 ≤ (k : Int) * (Q : Int) := ⟨by have : k * Q ≤ 5000 * 500000000000 := Nat.mul_le_mul (by omega) (by omega); rw [← Int.natCast_mul]; omega, by rw [← Int.natCast_mul]; omega⟩
      have hXX : (X : Int) * (X : Int) ≤ 2500000000000000 ∧ 0 ≤ (X : Int) * (X : Int) := ⟨by have : X * X ≤ 50000000 * 50000000 := Nat.mul_le_mul (by omega) (by omega); rw [← Int.natCast_mul]; omega, by rw [← Int.natCast_mul]; omega⟩
      have r10 := run_make_rows n hn2 wr
      have HL2 : Hid (L2 w (wr.alloc (.cells (List.replicate n (Value.slice none 0 0)).toArray 24)) n L 0 0 0 u9 wr.heap.size (fun _ => (.slice none 0 0, []))) := L2.start (by rw [hk9]; exact hL.out)
      have hK9 := hide hk9
      clear hk9 HTI HBO hL hXQ
      generalize sm (tT L k) = T at *
      generalize sm (tU n L k) = U at *
      go_wp2_with fail
      refine HA1.out.mono ?_
      rintro e w9 ⟨rfl, rfl⟩
      go_wp2_with fail
      refine HA2.out.mono ?_
      rintro e w9 ⟨rfl, rfl⟩
      clear HA1 HA2
      obtain ⟨g9, c9, hu9⟩ : ∃ g c, u9 = .slice (some ⟨g, 0, none⟩) k c := by
        rcases HL2.out.bt.2 with ⟨_, h9⟩ | ⟨g, c, cur, e, _⟩
        · rw [hK9.out] at h9; omega
        · rw [hK9.out] at e; exact ⟨g, c, e⟩
      subst hu9
      have hc9 : k ≤ c9 ∧ c9 ≤ 9223372036854775807 := by
        rcases HL2.out.bt.2 with ⟨e, _⟩ | ⟨g, c, cur, e, _, _, h7, h8, _⟩
        · cases e
        · injection e with _ _ e3
          subst e3
          rw [hK9.out] at h7
          unfold maxLen at h8
          exact ⟨h7, by omega⟩
      generalize hgo : wr.heap.size = go at *
      clear hL0
      go_wp2
      clear hgo r3 r4 r5 r6 r7 r8 r9
      go_loopw [22, 23, 25] (fun fv qv i wz => ∃ (j : Nat) (R : Nat → Value × List Nat), j ≤ k ∧ i = .int .i64 j ∧ fv = (R 0).1 ∧ qv = (R 1).1 ∧ Hid (L2 w wz n L j j j (.slice (some ⟨g9, 0, none⟩) k c9) go R)) (fun _ _ i _ => k - (intOf i).toNat)
      case atStart => exact ⟨0, _, by omega, rfl, rfl, rfl, HL2⟩
      case round =>
        obtain ⟨j, R, hj, rfl, rfl, rfl, hL⟩ := hrel
        clear HL2 r10
        by_cases hjk : j < k
        · have hjL : j < L.length := by rw [hm.out]; exact hjk
          obtain ⟨bell, hbell⟩ : ∃ y : Nat, Hid ((L.getD j (0, 0)).1 = (y : Int) ∧ bellAt L j = y ∧ y < n) := ⟨(L.getD j (0, 0)).1.toNat, by have := HBB.out j hjL; exact ⟨by omega, rfl, by omega⟩⟩
          have hbn : bell < n := hbell.out.2.2
          obtain ⟨time, htime⟩ : ∃ y, Hid (timeAt L j = y) := ⟨_, rfl⟩
          have hbl := hL.out.bl
          have hcA : ∀ W : World, Below w.heap.size w W → W.cell? ⟨b, off + j * 2, none⟩ = some (.int .i64 (bell : Int)) := fun W hW => by rw [hW.cell (p := ⟨b, off + j * 2, none⟩) h3, (HCE.out j hjL).1, hbell.out.1]
          have hcT : ∀ W : World, Below w.heap.size w W → W.cell? ⟨b, off + j * 2 + 1, none⟩ = some (.float .f64 time) := fun W hW => by rw [hW.cell (p := ⟨b, off + j * 2 + 1, none⟩) h3, (HCE.out j hjL).2]; rw [← htime.out]
          have HCA := hide hcA
          have HCT := hide hcT
          have hcT0 := hcT wr hbl
          have hcb : wr.cell? ⟨g9, j, none⟩ = some (.int .i64 (beatN n j : Int)) := by
            have := hL.out.bt.cells (g := g9) rfl j (.int .i64 (beatN n j : Int)) (by simp [beatsL, hjL])
            rw [Addr.add_lit, Nat.zero_add] at this
            exact this
          obtain ⟨z1, z2, z3, _⟩ := HOK.out.zd hjL
          have z4 := (HOK.out.zsq hjL).1
          have hdl := HOK.out.dlt hjL
          have HLI : lineR n L j = fop .mul (gap0 n L) (fi (beatN n j)) := rfl
          have HDD : dR n L j = fop .sub (timeAt L j) (fop .add (startR n L) (lineR n L j)) := rfl
          have HQQ : Hid (sqR n L j = fop .mul (dR n L j) (dR n L j)) := rfl
          have HFF : Hid (farR n L j = dR n L j % 9223372036854775808) := rfl
          rw [hG.out] at z1 HLI
          rw [hS.out] at z2 z3 HDD
          rw [htime.out] at z3 HDD
          have r1 := fun w => run_float_arith (P := Try.prog) w .mul 23 .f64 _ _ _ z1
          rw [← HLI] at r1
          have r2 := fun w => run_float_arith (P := Try.prog) w .add 23 .f64 _ _ _ z2
          have r3 := fun w => run_float_arith (P := Try.prog) w .sub 23 .f64 _ _ _ z3
          rw [← HDD] at r3
          have r4 := fun w => run_float_arith (P := Try.prog) w .mul 23 .f64 _ _ _ z4
          rw [← HQQ.out] at r4
          clear z1 z2 z3 z4 HLI HDD hcA hcT
          generalize fop .add S (lineR n L j) = y2 at *
          generalize lineR n L j = li at *
          generalize hdd : dR n L j = d at *
          have HDR := hide hdd
          clear hdd
          obtain ⟨sq, hsq⟩ : ∃ y, Hid (sqR n L j = y) := ⟨_, rfl⟩
          rw [hsq.out] at r4
          have hcn := hL.out.gb
          have HO1 : Hid (wr.ownsRow (w.heap.size + 1) 23 1 (R 0).1 (fl (farR n L) j).length ((fl (farR n L) j).map (Value.float .f64))) := by have := hL.out.fr.own 0 (by omega); rw [hL.out.far] at this; exact this
          have HN0 : ∀ i, i < n + 2 → (R i).2.length ≤ j → Hid ((R i).2.length ≤ 500) := fun i _ h => by unfold Hid; omega
          obtain ⟨fv, hfv⟩ : ∃ y, Hid ((R 0).1 = y) := ⟨_, rfl⟩
          obtain ⟨qv, hqv⟩ : ∃ y, Hid ((R 1).1 = y) := ⟨_, rfl⟩
          rw [hfv.out] at HO1
          rw [hfv.out, hqv.out]
          go_wp2_with fail
          refine (abs_ok d hdl _).mono ?_
          rintro e w9 ⟨rfl, rfl⟩
          go_wp2_with (at_builtin; refine wpList_push rfl _ _ rfl (w.heap.size + 1) fv (fl (farR n L) j) rfl (HO1.out.alloc _) wr.heap.size (d % 9223372036854775808) rfl (alloc_at wr _) ?a7 ?a8 ?_)
          case a7 => rw [fl_length]; omega
          case a8 => simp; omega
          intro fv2 w2 hown2 hg2 hv2
          have hL2 : Hid (L2 w w2 n L (j + 1) j j (.slice (some ⟨g9, 0, none⟩) k c9) go (fun i => if i = 0 then (fv2, (R 0).2 ++ [farR n L j]) else R i)) := (hL.out.alloc _).pushF (by rw [fl_length] at hown2; rw [HFF.out]; simpa using hown2) (by rw [hfv.out]; exact hg2) (by rw [hfv.out]; simpa using hv2)
          clear hown2 hg2 hv2 HO1
          have HO2 : Hid (w2.ownsRow (w.heap.size + 1) 23 1 qv (fl (sqR n L) j).length ((fl (sqR n L) j).map (Value.float .f64))) := by
            have := hL2.out.fr.own 1 (by omega)
            rw [hL2.out.sq] at this
            simp only [show ¬ (1 : Nat) = 0 from by decide, if_false, hqv.out] at this
            exact this
          have hgb2 := hL2.out.gb
          go_wp2_with (at_builtin; refine wpList_push rfl _ _ rfl (w.heap.size + 1) qv (fl (sqR n L) j) rfl (HO2.out.alloc _) w2.heap.size sq rfl (alloc_at w2 _) ?b7 ?b8 ?_)
          case b7 => rw [fl_length]; omega
          case b8 => simp; omega
          intro qv3 w3 hown3 hg3 hv3
          obtain ⟨R3, hR3⟩ : ∃ R3, Hid ((fun i => if i = 1 then (qv3, ((fun i => if i = 0 then (fv2, (R 0).2 ++ [farR n L j]) else R i) 1).2 ++ [sqR n L j]) else (fun i => if i = 0 then (fv2, (R 0).2 ++ [farR n L j]) else R i) i) = R3) := ⟨_, rfl⟩
          have hL3 : Hid (L2 w w3 n L (j + 1) (j + 1) j (.slice (some ⟨g9, 0, none⟩) k c9) go R3) := by
            have := (hL2.out.alloc (.cells #[.float .f64 sq] 23)).pushQ (w' := w3) (v' := qv3) (by rw [fl_length] at hown3; rw [hsq.out]; simpa using hown3) (by simp only [show ¬ (1 : Nat) = 0 from by decide, if_false, hqv.out]; exact hg3) (by simp only [show ¬ (1 : Nat) = 0 from by decide, if_false, hqv.out]; simpa using hv3)
            rw [hR3.out] at this
            exact this
          have HR30 : Hid ((R3 0).1 = fv2 ∧ (R3 1).1 = qv3) := by rw [← hR3.out]; exact ⟨rfl, rfl⟩
          clear hown3 hg3 hv3 HO2 hL2 hR3 hL
          have HOW : Hid (w3.ownsRow (w.heap.size + 1) 23 1 (R3 (2 + bell)).1 (ownR n L j bell).length ((ownR n L j bell).map (Value.float .f64))) := by have := hL3.out.fr.own (2 + bell) (by omega); rw [hL3.out.ow bell hbn] at this; exact this
          have hol : (ownR n L j bell).length ≤ j := (HOK.out.ownR (by omega) bell hbn).2.2.2.2
          obtain ⟨ol, hol9⟩ : ∃ y, Hid ((ownR n L j bell).length = y) := ⟨_, rfl⟩
          rw [hol9.out] at HOW hol
          obtain ⟨op, oc, hov⟩ : ∃ p c, (R3 (2 + bell)).1 = .slice p ol c := by
            rcases HOW.out.2 with ⟨e, e2⟩ | ⟨g, c, cur, e, _⟩
            · exact ⟨_, _, by rw [e, e2]⟩
            · exact ⟨_, _, e⟩
          have HOV := hide hov
          rw [hov] at HOW
          clear hov
          have hgb3 := hL3.out.gb
          have hcA3 := HCA.out w3 hL3.out.bl
          have hGO := hL3.out.gob
          have hch : w3.cell? ⟨go, bell, none⟩ = some (.slice op ol oc) := by
            unfold World.cell?
            rw [hGO]
            have := heads_get (n := n) (R := R3) hbn
            rw [HOV.out] at this
            simpa using this
          have hfh : w3.frozen? ⟨go, bell, none⟩ = false := by unfold World.frozen?; rw [hGO]; simp
          have HGO := hide hGO
          have hal : ∀ x, x < w3.heap.size → (w3.alloc (.cells #[.float .f64 d] 23)).drew.heap[x]? = w3.heap[x]? := fun x hx => Below.heap_alloc w3 _ x hx
          have HO4 : Hid ((w3.alloc (.cells #[.float .f64 d] 23)).drew.ownsRow (w.heap.size + 1) 23 1 (.slice op ol oc) ol ((ownR n L j bell).map (Value.float .f64))) := (HOW.out.alloc _).drew
          have HC4 : Hid (∀ x u, [Value.float .f64 d][x]? = some u → (w3.alloc (.cells #[.float .f64 d] 23)).drew.cell? ((⟨w3.heap.size, 0, none⟩ : Addr).add x) = some u) := fun x u hu => by
            rw [Addr.add_lit, Nat.zero_add]
            have := alloc_at w3 (.cells #[.float .f64 d] 23)
            unfold World.cell?
            show (match (w3.alloc _).heap[w3.heap.size]? with | some (.cells c _ _) => c[x]? | _ => none) = some u
            rw [this]
            simpa using hu
          have HU4 : Hid (∀ u ∈ [Value.float .f64 d], u.oneCell' = true) := fun u hu => by rw [List.mem_singleton] at hu; subst hu; rfl
          have HM1 : Hid (ol + 1 ≤ maxLen) := by unfold Hid maxLen; omega
          have HM2 : Hid ((ol + 1) * 8 ≤ 140737488355328) := by unfold Hid; omega
          have HS1 : Hid (w.heap.size + 1 ≤ (w3.alloc (.cells #[.float .f64 d] 23)).drew.heap.size) := by show w.heap.size + 1 ≤ (w3.alloc _).heap.size; simp; omega
          have HL4 : Hid (L2 w (w3.alloc (.cells #[.float .f64 d] 23)).drew n L (j + 1) (j + 1) j (.slice (some ⟨g9, 0, none⟩) k c9) go R3) := (hL3.out.alloc _).keep ⟨rfl, rfl, rfl, rfl⟩
          have HGN := hide (hL3.out.go_ne (i := 2 + bell) (by omega))
          rw [HOV.out] at HGN
          obtain ⟨i0, hi, hz0, hz1, hz2⟩ := info_parts Try.info23
          have HFC : ∀ w4 : World, (w3.alloc (.cells #[.float .f64 d] 23)).drew.grownBy w4 (Value.slice op ol oc).ownBlock → w4.cell? ⟨go, bell, none⟩ = some (.slice op ol oc) ∧ w4.frozen? ⟨go, bell, none⟩ = false := fun w4 hg4 => by
            have h9 := hg4.block go (by show go < (w3.alloc _).heap.size; simp; omega) (fun e => HGN.out e.symm)
            have h8 := h9.trans (hal go (by omega))
            exact ⟨by rw [← hch]; unfold World.cell?; rw [h8], by rw [← hfh]; unfold World.frozen?; rw [h8]⟩
          have HSF : ∀ (v4 : Value) (w4 : World), w4.ownsRow (w.heap.size + 1) 23 1 v4 (ol + 1) ((ownR n L j bell).map (Value.float .f64) ++ [.float .f64 d]) → ∃ p c, v4 = .slice p (ol + 1) c := fun v4 w4 ho => by
            rcases ho.2 with ⟨_, e2⟩ | ⟨g, c, cur, e, _⟩
            · omega
            · exact ⟨_, _, e⟩
          have hcA4 : (w3.alloc (.cells #[.float .f64 d] 23)).cell? ⟨b, off + j * 2, none⟩ = some (.int .i64 (bell : Int)) := HCA.out _ ⟨HL4.out.bl.os, HL4.out.bl.tape, HL4.out.bl.output, HL4.out.bl.size, HL4.out.bl.block⟩
          have hch4 : (w3.alloc (.cells #[.float .f64 d] 23)).cell? ⟨go, bell, none⟩ = some (.slice op ol oc) := by rw [← hch]; exact World.cell?_of_block (w := w3) (hal go (by omega))
          have HA5 : ∀ w4 : World, (w3.alloc (.cells #[.float .f64 d] 23)).drew.grownBy w4 (Value.slice op ol oc).ownBlock → w4.cell? ⟨b, off + j * 2, none⟩ = some (.int .i64 (bell : Int)) := fun w4 hg4 => HCA.out _ (HL4.out.grow (i := 2 + bell) (by omega) (by rw [HOV.out]; exact hg4)).2.2.2.1
          clear hL3 HOW
          go_wp2
          go_region_law ((refine step_append_keep rfl (.tmp 164) (.tmp 166) 24 rfl (w.heap.size + 1) 23 i0 (.float .f64 0) 1 8 Try.underlying24 hi hz0 hz1 hz2 rfl (by decide) (.slice op ol oc) ol ((ownR n L j bell).map (Value.float .f64)) rfl HO4.out ⟨w3.heap.size, 0, none⟩ 1 1 [.float .f64 d] rfl rfl HC4.out HU4.out HM1.out HM2.out HS1.out ?_; intro v4 w4 hown4 hgrow4 hblk4; obtain ⟨hc4, hf4⟩ := HFC w4 hgrow4; have hA5 := HA5 w4 hgrow4; obtain ⟨vp4, vc4, rfl⟩ := HSF v4 w4 hown4))
          all_goals
            have hL5 : Hid (L2 w (w4.setCell ⟨go, bell, none⟩ (.slice vp4 (ol + 1) vc4)) n L (j + 1) (j + 1) (j + 1) (.slice (some ⟨g9, 0, none⟩) k c9) go (fun i => if i = 2 + bell then (.slice vp4 (ol + 1) vc4, (R3 (2 + bell)).2 ++ [dR n L j]) else R3 i)) := HL4.out.pushO hbn hbell.out.2.1 (by rw [hol9.out, HDR.out, List.map_append]; exact hown4) (by rw [HOV.out]; exact hgrow4) (by rw [HOV.out]; exact hblk4.imp id (fun e => e.1))
            clear hown4 hgrow4 hblk4 hc4 hf4 hA5
            go_wp2
            go_roundw
            case rel =>
              have hfin : ∃ (i : Nat) (R' : Nat → Value × List Nat), i ≤ k ∧ Value.int .i64 ((j : Int) + 1) = .int .i64 i ∧ fv2 = (R' 0).1 ∧ qv3 = (R' 1).1 ∧ Hid (L2 w (w4.setCell ⟨go, bell, none⟩ (.slice vp4 (ol + 1) vc4)) n L i i i (.slice (some ⟨g9, 0, none⟩) k c9) go R') := ⟨j + 1, _, by omega, by go_num, by simp only [show ¬ (0 = 2 + bell) from by omega, if_false]; exact HR30.out.1.symm, by simp only [show ¬ (1 = 2 + bell) from by omega, if_false]; exact HR30.out.2.symm, hL5⟩
              first | exact hfin | ((repeat apply Exists.intro); exact ⟨hfin, rfl⟩)
            case measure => simp [intOf]; omega
        · obtain rfl : j = k := by omega
          have hok := HOK.out
          have hLk := hm.out
          have hF0 : wr.ownsRow (w.heap.size + 1) 23 1 (R 0).1 j ((fl (farR n L) j).map (Value.float .f64)) := by have := hL.out.fr.own 0 (by omega); rw [hL.out.far, fl_length] at this; exact this
          have hQ0 : wr.ownsRow (w.heap.size + 1) 23 1 (R 1).1 j ((fl (sqR n L) j).map (Value.float .f64)) := by have := hL.out.fr.own 1 (by omega); rw [hL.out.sq, fl_length] at this; exact this
          have hgbz := hL.out.gb
          have HF0 := hide hF0
          have HQ0 := hide hQ0
          have HA1 := fun (W : World) (hW : ∀ g, (R 0).1.ownBlock = some g → W.heap[g]? = wr.heap[g]?) => hide (added_ok (R 0).1 (fl (farR n L) j) W (Fls.own (fr_block hF0 hW)) (by rw [fl_length]; omega) (hok.farAll (by omega)) (by rw [hok.far (by omega)]; have := hok.judge.so; rw [hLk] at this; exact this))
          have HA2 := fun (W : World) (hW : ∀ g, (R 1).1.ownBlock = some g → W.heap[g]? = wr.heap[g]?) => hide (added_ok (R 1).1 (fl (sqR n L) j) W (Fls.own (fr_block hQ0 hW)) (by rw [fl_length]; omega) (hok.sq (by omega)).1 (by have := hok.varR.1; rw [hLk] at this; exact this))
          rw [hok.far (by omega)] at HA1
          have q1 := hok.judge.mo
          have q2 := hok.varR.2.1
          rw [hLk] at q1 q2
          have HME : Hid (uns (fop .quo (sm (tO n L j)) (fi (j : Int))) = meanOf n L) := by unfold meanOf; rw [hLk]; exact rfl
          have HZV := hide hok.varR.2.2
          have r1 := fun w => run_float_arith (P := Try.prog) w .quo 23 .f64 _ _ _ q1
          have r2 := fun w => run_float_arith (P := Try.prog) w .quo 23 .f64 _ _ _ q2
          have HST : Hid (uns S = startOf n L) := by
            rw [← hS.out, ← hok.zstart.2.2.2.uns]
            exact uns_uns _
          have HGA : Hid (uns G = gapOf n L) := by rw [← hG.out]; exact rfl
          have HBR := hide hok.bellR
          have HOA := hide (fun i (hi : i < n) => (hok.ownR (Nat.le_refl _) i hi))
          obtain ⟨st, hst⟩ : ∃ y, Hid (startOf n L = y) := ⟨_, rfl⟩
          obtain ⟨ga, hga⟩ : ∃ y, Hid (gapOf n L = y) := ⟨_, rfl⟩
          obtain ⟨me, hme⟩ : ∃ y, Hid (meanOf n L = y) := ⟨_, rfl⟩
          obtain ⟨fv, hfv⟩ : ∃ y, Hid ((R 0).1 = y) := ⟨_, rfl⟩
          obtain ⟨qv, hqv⟩ : ∃ y, Hid ((R 1).1 = y) := ⟨_, rfl⟩
          rw [hfv.out] at HA1 HF0
          rw [hqv.out] at HA2 HQ0
          rw [hst.out] at HST
          rw [hga.out] at HGA
          rw [hme.out] at HME
          rw [hfv.out, hqv.out]
          clear q1 q2 hok hF0 hQ0
          generalize fop .quo (sm (tO n L j)) (fi (j : Int)) = m0 at *
          generalize sm (tO n L j) = so at *
          obtain ⟨v0, hv0⟩ : ∃ y, Hid (fop .quo (sm (tl (fl (sqR n L) j))) (fi (j : Int)) = y) := ⟨_, rfl⟩
          rw [hv0.out] at r2
          generalize hsq0 : sm (tl (fl (sqR n L) j)) = sq0 at *
          have HSQ0 := hide hsq0
          clear hsq0
          have hfl : ∀ g, fv.ownBlock = some g → g < wr.heap.size := fun g e => (HF0.out.lt g e).2
          have hql : ∀ g, qv.ownBlock = some g → g < wr.heap.size := fun g e => (HQ0.out.lt g e).2
          have hsz := hL.out.sz
          go_wp2_with fail
          refine (plusNought_ok _ _).mono ?_
          rintro e w9 ⟨rfl, rfl⟩
          go_wp2_with fail
          rw [HST.out]
          refine (plusNought_ok _ _).mono ?_
          rintro e w9 ⟨rfl, rfl⟩
          rw [HGA.out]
          have hL9 := hide (hL.out.alloc (.cells #[.float .f64 st, .float .f64 ga, .float .f64 0, .float .f64 0, .slice none 0 0] 26))
          have hO9 := alloc_at wr (.cells #[.float .f64 st, .float .f64 ga, .float .f64 0, .float .f64 0, .slice none 0 0] 26)
          have hk9 : ∀ g, g < wr.heap.size → (wr.alloc (.cells #[.float .f64 st, .float .f64 ga, .float .f64 0, .float .f64 0, .slice none 0 0] 26)).heap[g]? = wr.heap[g]? := fun g hg => Below.heap_alloc wr _ g hg
          go_wp2_with fail
          generalize wr.alloc (.cells #[.float .f64 st, .float .f64 ga, .float .f64 0, .float .f64 0, .slice none 0 0] 26) = W9 at *
          refine (HA1 _ (fun g e => by exact hk9 g (hfl g e))).out.mono ?_
          rintro e w9 ⟨rfl, rfl⟩
          go_wp2_with fail
          refine (plusNought_ok _ _).mono ?_
          rintro e w9 ⟨rfl, rfl⟩
          rw [HME.out]
          have HLOW : Hid (∀ i, i < n → ∀ g, (R (2 + i)).1.ownBlock = some g → g < wr.heap.size) := fun i hi g e => ((hL.out.fr.own (2 + i) (by omega)).lt g e).2
          have hob : w.heap.size < wr.heap.size := by omega
          have hgo9 : go < wr.heap.size := hgbz.2
          obtain ⟨z0, z1, z2, z3, z4, f0, f1, f2, f3, f4⟩ := cells5s hO9
          have hL10 : Hid (L2 w (W9.setCell ⟨wr.heap.size, 2, none⟩ (.float .f64 me)) n L j j j (.slice (some ⟨g9, 0, none⟩) j c9) go R) := hL9.out.write (Or.inr ⟨_, hO9, hob⟩)
          have hO10 : (W9.setCell ⟨wr.heap.size, 2, none⟩ (.float .f64 me)).heap[wr.heap.size]? = some (.cells #[.float .f64 st, .float .f64 ga, .float .f64 me, .float .f64 0, .slice none 0 0] 26) := by
            simp [World.setCell, Array.getElem?_modify, hO9]
          have hk10 : ∀ g, g < wr.heap.size → (W9.setCell ⟨wr.heap.size, 2, none⟩ (.float .f64 me)).heap[g]? = wr.heap[g]? := fun g hg => (Below.heap_setCell _ _ _ _ (by show g ≠ wr.heap.size; omega)).trans (hk9 g hg)
          have HO10 := hide hO10
          have hLH := hide hLk
          clear hO9 hO10 hL9 hL hLk
          generalize hob9 : wr.heap.size = ob at *
          clear hk9
          go_wp2_with fail
          generalize W9.setCell ⟨ob, 2, none⟩ (.float .f64 me) = W10 at *
          clear z0 z1 z2 z3 z4 f0 f1 f2 f3 f4
          refine (HA2 _ (fun g e => by exact hk10 g (hql g e))).out.mono ?_
          rintro e w9 ⟨rfl, rfl⟩
          go_wp2_with fail
          refine (sqrt_ok v0 _).mono ?_
          rintro e w11 ⟨sr, rfl, hsr, hd11⟩
          have HSR := hide hsr
          clear hsr
          go_wp2_with fail
          refine (plusNought_ok _ _).mono ?_
          rintro e w9 ⟨rfl, rfl⟩
          have hO11 : w11.heap[ob]? = some (.cells #[.float .f64 st, .float .f64 ga, .float .f64 me, .float .f64 0, .slice none 0 0] 26) := by rw [hd11.heap]; exact HO10.out
          have hL11 := hL10.out.keep hd11
          obtain ⟨z0, z1, z2, z3, z4, f0, f1, f2, f3, f4⟩ := cells5s hO11
          have hL12 := hL11.write (b := ob) (c := 3) (u := .float .f64 (uns sr)) (Or.inr ⟨_, hO11, hob⟩)
          have hO12 : (w11.setCell ⟨ob, 3, none⟩ (.float .f64 (uns sr))).heap[ob]? = some (.cells #[.float .f64 st, .float .f64 ga, .float .f64 me, .float .f64 (uns sr), .slice none 0 0] 26) := by simp [World.setCell, Array.getElem?_modify, hO11]
          have HL3 : Hid (L3 w (w11.setCell ⟨ob, 3, none⟩ (.float .f64 (uns sr))) n L go ob R st ga me (uns sr) 0 (.slice none 0 0)) := L3.start hLH.out hL12 hO12 HLOW.out hgo9
          clear hL12 hO12 hL11 hO11 hL10 HO10 hd11
          generalize hsp9 : uns sr = sp at *
          have HSP := hide hsp9
          clear hsp9
          go_wp2
          generalize w11.setCell ⟨ob, 3, none⟩ (.float .f64 sp) = W12 at *
          clear z0 z1 z2 z3 z4 f0 f1 f2 f3 f4 HA1 HA2 r1 r2 hk10
          go_loopw [29] (fun i wz => ∃ (x : Nat) (bv : Value), x ≤ n ∧ i = .int .i64 x ∧ Hid (L3 w wz n L go ob R st ga me sp x bv)) (fun i _ => n - (intOf i).toNat)
          case atStart => exact ⟨0, _, by omega, rfl, HL3⟩
          case round =>
            obtain ⟨x, bv, hx, rfl, hL3⟩ := hrel
            clear HL3
            by_cases hxn : x < n
            · obtain ⟨b1, b2, b3⟩ := HBR.out x hxn
              have hTA := (HOA.out x hxn).1
              have holl := (HOA.out x hxn).2.2.2.2
              have hown := hL3.out.own x hxn
              obtain ⟨ol, hol⟩ : ∃ y, Hid ((ownR n L L.length x).length = y) := ⟨_, rfl⟩
              have hol500 : ol ≤ 500 := by rw [← hol.out]; have := hLH.out; omega
              rw [hol.out] at hown b2 b3
              obtain ⟨op, oc, hov⟩ : ∃ p c, (R (2 + x)).1 = .slice p ol c := by
                rcases hown.2 with ⟨e, e2⟩ | ⟨g, c, cur, e, _⟩
                · exact ⟨_, _, by rw [e, e2]⟩
                · exact ⟨_, _, e⟩
              rw [hov] at hown
              have hch : wr.cell? ⟨go, x, none⟩ = some (.slice op ol oc) := by
                unfold World.cell?
                rw [hL3.out.gob]
                have := heads_get (n := n) (R := R) hxn
                rw [hov] at this
                simpa using this
              have HA := fun i => hide (added_ok (.slice op ol oc) (ownR n L L.length x) (wr.drewN i) (Fls.own (fr_block hown (w' := wr.drewN i) (fun g _ => rfl))) (by rw [hol.out]; omega) hTA b1)
              obtain ⟨z0, z1, z2, z3, z4, f0, f1, f2, f3, f4⟩ := cells5s hL3.out.out
              obtain ⟨bm, hbm⟩ : ∃ y, Hid (bellMean n L x = y) := ⟨_, rfl⟩
              rw [hbm.out] at b3
              have HB3 := hide b3
              have hbsz := hL3.out.lt
              have hbel := hL3.out.bel
              obtain ⟨bp, bc, hbv⟩ : ∃ p c, bv = .slice p x c := by
                rcases hbel.2 with ⟨e, e2⟩ | ⟨g, c, cur, e, _⟩
                · exact ⟨_, _, by rw [e, e2]⟩
                · exact ⟨_, _, e⟩
              subst hbv
              have HBL : Hid (wr.ownsRow (ob + 1) 23 1 (.slice bp x bc) (belL n L x).length ((belL n L x).map (Value.float .f64))) := by rw [belL_length]; exact hbel
              clear hbel hown hTA holl b1 hov
              by_cases hpos : 0 < ol
              · have q1 := b2 hpos
                have r1 := fun w => run_float_arith (P := Try.prog) w .quo 23 .f64 _ _ _ q1
                rw [if_pos hpos] at HB3
                clear q1 b2 b3
                generalize fop .quo (sm (tl (ownR n L L.length x))) (fi (ol : Int)) = y1 at *
                generalize sm (tl (ownR n L L.length x)) = y0 at *
                go_wp2
                go_quiet ((first | (go_at_call 17; exact Calls.quiet_of_same ((HA _).out.mono (fun e w h => ⟨h.1, h.2.symm⟩))) | (go_at_call 18; exact Calls.quiet_of_same ((plusNought_ok _ _).mono (fun e w h => ⟨h.1, h.2.symm⟩)))))
                rw [← HB3.out]
                have hL4 : Hid (L3 w (wr.drewN nq) n L go ob R st ga me sp x (.slice bp x bc)) := hL3.out.keep ⟨rfl, rfl, rfl, rfl⟩
                have HBL2 : Hid ((wr.drewN nq).ownsRow (ob + 1) 23 1 (.slice bp x bc) (belL n L x).length ((belL n L x).map (Value.float .f64))) := fr_block HBL.out (fun g _ => rfl)
                have zz4 : (wr.drewN nq).cell? ⟨ob, 4, none⟩ = some (.slice bp x bc) := z4
                have ff4 : (wr.drewN nq).frozen? ⟨ob, 4, none⟩ = false := f4
                have hbsz2 : ob < (wr.drewN nq).heap.size := hbsz
                generalize wr.drewN nq = W at *
                clear z0 z1 z2 z3 z4 f0 f1 f2 f3 f4 HA r1 hch hL3 HBL hbsz
                go_wp2_with (at_builtin; refine wpList_push rfl _ _ rfl (ob + 1) (.slice bp x bc) (belL n L x) rfl (HBL2.out.alloc _) W.heap.size bm rfl (alloc_at W _) ?c7 ?c8 ?_)
                case c7 => rw [belL_length]; omega
                case c8 => first | omega | (simp; omega)
                intro v5 w5 hown5 hg5 hv5
                rw [belL_length] at hown5
                obtain ⟨p5, c5, rfl⟩ : ∃ p c, v5 = .slice p (x + 1) c := by
                  rcases hown5.2 with ⟨_, e2⟩ | ⟨g, c, cur, e, _⟩
                  · omega
                  · exact ⟨_, _, e⟩
                have hL5 : Hid (L3 w (w5.setCell ⟨ob, 4, none⟩ (.slice p5 (x + 1) c5)) n L go ob R st ga me sp (x + 1) (.slice p5 (x + 1) c5)) := (hL4.out.alloc _).push (by rw [hbm.out]; simpa using hown5) hg5
                have hnb : ∀ g, (Value.slice bp x bc).ownBlock = some g → ob + 1 ≤ g := fun g e => (HBL2.out.lt g e).1
                have h5b : w5.heap[ob]? = W.heap[ob]? := (hg5.block ob (by simp; omega) (fun e => by have := hnb ob e.symm; omega)).trans (Below.heap_alloc W _ ob hbsz2)
                have zz5 : w5.cell? ⟨ob, 4, none⟩ = some (.slice bp x bc) := by rw [← zz4]; unfold World.cell?; rw [h5b]
                have ff5 : w5.frozen? ⟨ob, 4, none⟩ = false := by rw [← ff4]; unfold World.frozen?; rw [h5b]
                clear hown5 hg5 hv5 hL4 HBL2 zz4 ff4 h5b
                go_wp2
                go_roundw
                case rel => exact ⟨x + 1, _, by omega, by go_num, hL5⟩
                case measure => simp [intOf]; omega
              · rw [if_neg hpos] at HB3
                have hol0 : ol = 0 := by omega
                have hL4 := hL3
                have HBL2 := HBL
                have zz4 := z4
                have ff4 := f4
                have hbsz2 := hbsz
                generalize wr = W at *
                clear z0 z1 z2 z3 z4 f0 f1 f2 f3 f4 HA b2 b3 HBL hbsz hL3 hpos
                subst hol0
                have hbm0 := HB3.out
                subst hbm0
                go_wp2_with (at_builtin; refine wpList_push rfl _ _ rfl (ob + 1) (.slice bp x bc) (belL n L x) rfl (HBL2.out.alloc _) W.heap.size 0 rfl (alloc_at W _) ?c7 ?c8 ?_)
                case c7 => rw [belL_length]; omega
                case c8 => first | omega | (simp; omega)
                intro v5 w5 hown5 hg5 hv5
                rw [belL_length] at hown5
                obtain ⟨p5, c5, rfl⟩ : ∃ p c, v5 = .slice p (x + 1) c := by
                  rcases hown5.2 with ⟨_, e2⟩ | ⟨g, c, cur, e, _⟩
                  · omega
                  · exact ⟨_, _, e⟩
                have hL5 : Hid (L3 w (w5.setCell ⟨ob, 4, none⟩ (.slice p5 (x + 1) c5)) n L go ob R st ga me sp (x + 1) (.slice p5 (x + 1) c5)) := (hL4.out.alloc _).push (by rw [hbm.out]; simpa using hown5) hg5
                have hnb : ∀ g, (Value.slice bp x bc).ownBlock = some g → ob + 1 ≤ g := fun g e => (HBL2.out.lt g e).1
                have h5b : w5.heap[ob]? = W.heap[ob]? := (hg5.block ob (by simp; omega) (fun e => by have := hnb ob e.symm; omega)).trans (Below.heap_alloc W _ ob hbsz2)
                have zz5 : w5.cell? ⟨ob, 4, none⟩ = some (.slice bp x bc) := by rw [← zz4]; unfold World.cell?; rw [h5b]
                have ff5 : w5.frozen? ⟨ob, 4, none⟩ = false := by rw [← ff4]; unfold World.frozen?; rw [h5b]
                clear hown5 hg5 hv5 hL4 HBL2 zz4 ff4 h5b
                go_wp2
                go_roundw
                case rel => exact ⟨x + 1, _, by omega, by go_num, hL5⟩
                case measure => simp [intOf]; omega
            · obtain rfl : x = n := by omega
              obtain ⟨z0, z1, z2, z3, z4, f0, f1, f2, f3, f4⟩ := cells5s hL3.out.out
              obtain ⟨y0, y1, y2, y3, y4, g0, g1, g2, g3, g4⟩ := cells5s hL3.out.res
              have hbel := hL3.out.bel
              have hob3 := hL3.out.lt
              have hbl3 := hL3.out.bl
              have hrs := hL3.out.res
              have HBF : Hid ((((((wr.setCell ⟨w.heap.size, 0, none⟩ (.float .f64 st)).setCell ⟨w.heap.size, 1, none⟩ (.float .f64 ga)).setCell ⟨w.heap.size, 2, none⟩ (.float .f64 me)).setCell ⟨w.heap.size, 3, none⟩ (.float .f64 sp)).setCell ⟨w.heap.size, 4, none⟩ bv).heap[w.heap.size]? = some (.cells #[.float .f64 st, .float .f64 ga, .float .f64 me, .float .f64 sp, bv] 26)) := by
                show _ = _
                simp [World.setCell, Array.getElem?_modify, hrs]
              have HFF : Hid (Fls (((((wr.setCell ⟨w.heap.size, 0, none⟩ (.float .f64 st)).setCell ⟨w.heap.size, 1, none⟩ (.float .f64 ga)).setCell ⟨w.heap.size, 2, none⟩ (.float .f64 me)).setCell ⟨w.heap.size, 3, none⟩ (.float .f64 sp)).setCell ⟨w.heap.size, 4, none⟩ bv) bv (belL x L x)) := by
                refine Fls.own (base := ob + 1) (e := 23) (n := x) (fr_block hbel (fun g e => ?_))
                have hne : g ≠ w.heap.size := by have := (hbel.lt g e).1; omega
                rw [Below.heap_setCell _ _ _ _ hne, Below.heap_setCell _ _ _ _ hne, Below.heap_setCell _ _ _ _ hne, Below.heap_setCell _ _ _ _ hne, Below.heap_setCell _ _ _ _ hne]
              have HBZ : Hid (Below w.heap.size w (((((wr.setCell ⟨w.heap.size, 0, none⟩ (.float .f64 st)).setCell ⟨w.heap.size, 1, none⟩ (.float .f64 ga)).setCell ⟨w.heap.size, 2, none⟩ (.float .f64 me)).setCell ⟨w.heap.size, 3, none⟩ (.float .f64 sp)).setCell ⟨w.heap.size, 4, none⟩ bv)) := ((((hbl3.setCell (Nat.le_refl _) _).setCell (Nat.le_refl _) _).setCell (Nat.le_refl _) _).setCell (Nat.le_refl _) _).setCell (Nat.le_refl _) _
              obtain ⟨bp, bc, hbv⟩ : ∃ p c, bv = .slice p x c := by
                rcases hbel.2 with ⟨e, e2⟩ | ⟨g, c, cur, e, _⟩
                · exact ⟨_, _, by rw [e, e2]⟩
                · exact ⟨_, _, e⟩
              subst hbv
              clear hrs hbel hL3
              go_wp2
              refine ret_striking (p := 4) (u := 5) rfl rfl rfl HBF.out rfl rfl ⟨v0, sr, .slice bp x bc, ?_, ?_, HSR.out, HFF.out, HBZ.out⟩
              · rw [hst.out, hga.out, hme.out, HSP.out]; rfl
              · rw [← hv0.out]
                have := HZV.out
                rw [hLH.out, HSQ0.out] at this
                rw [hLH.out]
                exact this

end Go.Proofs.Ythdlomgjmbldfaa

/- What both Judges say of blows that may not be; the law StrikeJudges. -/
namespace Go.Proofs.Ythdlomgjmbldfaa
open Go.RowKit
set_option maxRecDepth 20000
set_option linter.unusedVariables false

/-- A refusal: no striking, and the error. -/
def EPost (e0 : Int) (w : World) (e : Ending) (w' : World) : Prop := e = .returned (.tuple #[.agg #[.float .f64 0, .float .f64 0, .float .f64 0, .float .f64 0, .slice none 0 0], .int .i64 e0]) ∧ Below w.heap.size w w'

set_option maxHeartbeats 4000000 in
theorem judge_err (n : Int) (v : Value) (L : List (Int × Nat)) (w : World) (hn : I64 n) (hv : Blows w v L) (hc : chkB n L ≠ 0) : Calls Try.prog 5 #[.int .i64 n, v] w (EPost (chkB n L) w) := by
  have HC := fun W hW => hide (checkB_ok n v L W hn (hv.below (w' := W) hW))
  obtain ⟨p, cap, rfl⟩ := hv.form
  clear hv
  generalize chkB n L = c at *
  generalize L.length = m at *
  go_enter Try.func5, Try.ntmps5
  have hB0 : Below w.heap.size w (w.alloc striking0) := (Below.refl _ _).alloc (Nat.le_refl _) _
  go_wp2_with fail
  refine (HC _ hB0).out.mono ?_
  rintro e w1 ⟨rfl, hb1⟩
  have hS1 : w1.heap[w.heap.size]? = some striking0 := (hb1.block _ (by simp)).trans (alloc_at _ _)
  have hB1 := hB0.trans (hb1.mono hB0.size)
  obtain ⟨z0, z1, z2, z3, z4, f0, f1, f2, f3, f4⟩ := cells5s hS1
  have HBF : Hid ((((((w1.setCell ⟨w.heap.size, 0, none⟩ (.float .f64 0)).setCell ⟨w.heap.size, 1, none⟩ (.float .f64 0)).setCell ⟨w.heap.size, 2, none⟩ (.float .f64 0)).setCell ⟨w.heap.size, 3, none⟩ (.float .f64 0)).setCell ⟨w.heap.size, 4, none⟩ (.slice none 0 0)).heap[w.heap.size]? = some striking0) := by
    show _ = _
    simp [World.setCell, Array.getElem?_modify, hS1]
  have HBZ : Hid (Below w.heap.size w (((((w1.setCell ⟨w.heap.size, 0, none⟩ (.float .f64 0)).setCell ⟨w.heap.size, 1, none⟩ (.float .f64 0)).setCell ⟨w.heap.size, 2, none⟩ (.float .f64 0)).setCell ⟨w.heap.size, 3, none⟩ (.float .f64 0)).setCell ⟨w.heap.size, 4, none⟩ (.slice none 0 0))) := ((((hB1.setCell (Nat.le_refl _) _).setCell (Nat.le_refl _) _).setCell (Nat.le_refl _) _).setCell (Nat.le_refl _) _).setCell (Nat.le_refl _) _
  clear hS1 hB0 hb1 HC
  go_wp2
  refine ret_striking (p := 4) (u := 5) rfl rfl rfl HBF.out rfl rfl ⟨rfl, HBZ.out⟩

set_option maxHeartbeats 4000000 in
theorem rjudge_err (n : Int) (v : Value) (L : List (Int × Nat)) (w : World) (hn : I64 n) (hv : Blows w v L) (hc : chkB n L ≠ 0) : Calls Try.prog 6 #[.int .i64 n, v] w (EPost (chkB n L) w) := by
  have HC := fun W hW => hide (blowsMay_ok n v L W hn (hv.below (w' := W) hW))
  obtain ⟨p, cap, rfl⟩ := hv.form
  clear hv
  generalize chkB n L = c at *
  generalize L.length = m at *
  go_enter Try.func6, Try.ntmps6
  have hB0 : Below w.heap.size w (w.alloc striking0) := (Below.refl _ _).alloc (Nat.le_refl _) _
  go_wp2_with fail
  refine (HC _ hB0).out.mono ?_
  rintro e w1 ⟨rfl, hd1⟩
  have hS1 : w1.heap[w.heap.size]? = some striking0 := by rw [hd1.heap]; exact alloc_at _ _
  have hB1 := hB0.trans (hd1.below _)
  obtain ⟨z0, z1, z2, z3, z4, f0, f1, f2, f3, f4⟩ := cells5s hS1
  have HBF : Hid ((((((w1.setCell ⟨w.heap.size, 0, none⟩ (.float .f64 0)).setCell ⟨w.heap.size, 1, none⟩ (.float .f64 0)).setCell ⟨w.heap.size, 2, none⟩ (.float .f64 0)).setCell ⟨w.heap.size, 3, none⟩ (.float .f64 0)).setCell ⟨w.heap.size, 4, none⟩ (.slice none 0 0)).heap[w.heap.size]? = some striking0) := by
    show _ = _
    simp [World.setCell, Array.getElem?_modify, hS1]
  have HBZ : Hid (Below w.heap.size w (((((w1.setCell ⟨w.heap.size, 0, none⟩ (.float .f64 0)).setCell ⟨w.heap.size, 1, none⟩ (.float .f64 0)).setCell ⟨w.heap.size, 2, none⟩ (.float .f64 0)).setCell ⟨w.heap.size, 3, none⟩ (.float .f64 0)).setCell ⟨w.heap.size, 4, none⟩ (.slice none 0 0))) := ((((hB1.setCell (Nat.le_refl _) _).setCell (Nat.le_refl _) _).setCell (Nat.le_refl _) _).setCell (Nat.le_refl _) _).setCell (Nat.le_refl _) _
  clear hS1 hB0 hd1 HC
  go_wp2
  refine ret_striking (p := 4) (u := 5) rfl rfl rfl HBF.out rfl rfl ⟨rfl, HBZ.out⟩

/-- A word of a number is no NaN; a root has no sign. -/
theorem nearest_num (neg : Bool) (mag : Nat) (place : Int) : Num (DF.nearest neg mag place) ∧ (neg = false → DF.nearest neg mag place < 9223372036854775808) := by
  have hi : DF.infRung = 9218868437227405312 := by decide
  have hsw : DF.signWeight = 9223372036854775808 := by decide
  obtain ⟨r, hr, e⟩ : ∃ r, r ≤ 9218868437227405312 ∧ DF.nearest neg mag place = DF.word neg r := by
    unfold Ieee.Format.nearest
    by_cases h : mag = 0
    · rw [if_pos h]; exact ⟨0, by omega, rfl⟩
    · rw [if_neg h]
      dsimp only
      rw [hi]
      exact ⟨_, Nat.min_le_right _ _, rfl⟩
  rw [e]
  refine ⟨?_, fun hn => by subst hn; unfold Ieee.Format.word; simp; omega⟩
  have hlt : DF.word neg r < 18446744073709551616 := DF.word_lt neg (by rw [hsw]; omega)
  rcases Nat.lt_or_ge r 9218868437227405312 with h1 | h1
  · have := read_word neg r h1
    rcases read_cases _ hlt with ⟨v, hv⟩ | ⟨s, hs⟩ | ⟨s, f, hn⟩
    · exact Num.fv hv
    · exact Num.inf hs
    · rw [hn] at this
      split at this <;> cases this
  · obtain rfl : r = 9218868437227405312 := by omega
    cases neg
    · exact Num.inf (s := false) (by kernel_rfl)
    · exact Num.inf (s := true) (by kernel_rfl)

theorem root_pos (m : Nat) (i : Int) (h : m ≠ 0) : ∃ M P, Ieee.Datum.root 54 (.number false m i) = some (.number false M P) := by
  simp only [Ieee.Datum.root, if_neg h, Bool.false_eq_true, if_false]
  exact ⟨_, _, rfl⟩

theorem sqrt_alike {v0 v r r' p : Nat} (hv : FB v0 p) (hz : Zq v0 v) (h : SqrtOf (uns v0) r) (h' : SqrtOf v r') : Alike r (uns r') := by
  obtain ⟨x, hx, _⟩ := hv
  by_cases h0 : (FloatKind.f64.format.order v0 0 == some .eq) = true
  · have hi := zero_isz hx h0
    rw [hi.uns] at h
    have hiv : isz v := by
      rcases hz with rfl | ⟨_, e⟩
      · exact hi
      · exact e
    have e0 : DF.sqrt 0 = some 0 := by kernel_rfl
    have hr : r = 0 := by
      rcases h.1 with e | ⟨e, _⟩
      · rw [e0] at e; injection e with e; exact e.symm
      · rw [e0] at e; cases e
    have hr' : isz r' := by
      rcases hiv with rfl | rfl
      · rcases h'.1 with e | ⟨e, _⟩
        · rw [e0] at e; injection e with e; exact Or.inl e.symm
        · rw [e0] at e; cases e
      · have e1 : DF.sqrt 9223372036854775808 = some 9223372036854775808 := by kernel_rfl
        rcases h'.1 with e | ⟨e, _⟩
        · rw [e1] at e; injection e with e; exact Or.inr e.symm
        · rw [e1] at e; cases e
    rw [hr'.uns, hr]
    exact Alike.fv FV_zero
  · have hu : uns v0 = v0 := by unfold uns; rw [if_neg h0]
    rw [hu] at h
    have hne : ¬ isz v0 := fun e => h0 (by rcases e with rfl | rfl <;> kernel_rfl)
    have hvv : v = v0 := by
      rcases hz with e | ⟨e, _⟩
      · exact e.symm
      · exact absurd e hne
    subst hvv
    rcases h.1 with e | ⟨e, s, f, en⟩
    · rcases h'.1 with e' | ⟨e', _⟩
      · rw [e] at e'
        injection e' with e'
        subst e'
        obtain ⟨s, m, I, _, er, hm, hxv⟩ := hx
        by_cases hm0 : m = 0
        · exfalso
          apply hne
          refine FV.isz ⟨s, m, I, by assumption, er, hm, ?_⟩
          rw [hm0, signed_zero]
        · cases s
          · obtain ⟨M, P, eM⟩ := root_pos m ((I : Int) - 1074) hm0
            have e9 : DF.sqrt v = some (DF.nearest false M P) := by
              unfold Ieee.Format.sqrt
              rw [er, show DF.fractionBits + 2 = 54 from rfl, eM]
              rfl
            have hrn : r = DF.nearest false M P := by
              rcases h.1 with e5 | ⟨e5, _⟩
              · rw [e9] at e5; injection e5 with e5; exact e5.symm
              · rw [e9] at e5; cases e5
            obtain ⟨hN, hlt⟩ := nearest_num false M P
            rw [← hrn] at hN hlt
            have hlt := hlt rfl
            have hz0 : (FloatKind.f64.format.order r 0 == some .eq) = true → isz r := fun hb => by
              rcases read_cases r (by omega) with ⟨x, hx⟩ | ⟨s, hs⟩ | ⟨s, f, hn⟩
              · exact zero_isz hx hb
              · exfalso
                have : FloatKind.f64.format.order r 0 = some (if s then .lt else .gt) := by
                  show Ieee.Datum.order (DF.read r) (DF.read 0) = _
                  rw [hs, show DF.read 0 = .number false 0 (-1074) from by kernel_rfl]; rfl
                rw [this] at hb
                cases s <;> cases hb
              · exfalso
                have : FloatKind.f64.format.order r 0 = none := by
                  show Ieee.Datum.order (DF.read r) (DF.read 0) = _
                  rw [hn]; rfl
                rw [this] at hb
                cases hb
            have hu9 : uns r = r := by
              by_cases hb : (FloatKind.f64.format.order r 0 == some .eq) = true
              · have := hz0 hb
                rw [this.uns]
                rcases this with e | e
                · exact e.symm
                · omega
              · unfold uns; rw [if_neg hb]
            rw [hu9]
            exact Or.inl ⟨rfl, hN, hz0⟩
          · exfalso
            unfold Ieee.Format.sqrt at e
            rw [er] at e
            simp [Ieee.Datum.root, hm0] at e
      · rw [e] at e'; cases e'
    · rcases h'.1 with e' | ⟨_, s', f', en'⟩
      · rw [e] at e'; cases e'
      · have hN' : Nan r' := Nan.of en'
        have hu' : uns r' = r' := by
          unfold uns
          rw [if_neg]
          intro hb
          have : FloatKind.f64.format.order r' 0 = none := by
            show Ieee.Datum.order (DF.read r') (DF.read 0) = none
            rw [en']; rfl
          rw [this] at hb
          cases hb
        rw [hu']
        exact Or.inr ⟨Nan.of en, hN'⟩

end Go.Proofs.Ythdlomgjmbldfaa
