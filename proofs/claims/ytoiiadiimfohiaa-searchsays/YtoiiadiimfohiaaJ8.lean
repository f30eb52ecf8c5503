/- Joined: ChOf, LL, RowAt, Lead, TrK, TtD, TtO, TtA, Eql, Mirr, MirM, TtP. -/
import Derived.Test.YtoiiadiimfohiaaJ7
import Derived.Test.YtoiiadiimfohiaaJ3
import Derived.Test.YtoiiadiimfohiaaJ6
import Derived.Test.YtoiiadiimfohiaaJ5
/- Contract: ChangeOf. -/
namespace Go.Proofs.Ytoiiadiimfohiaa
open Go.RowKit

set_option maxRecDepth 20000 in
set_option maxHeartbeats 2000000 in
theorem changeOf_ok (c : Int) (n : Nat) (w : World) (hc : I64 c) (h1 : 1 ≤ n) (h2 : n ≤ 12) :
    Calls Try.prog 68 #[.int .i64 c, .int .i64 n] w fun e w' => ∃ v t, e = .returned v ∧ tsz t = n ∧ w'.ownsRow w.heap.size 3 1 v (tpl t).length ((tpl t).map (Value.int .i64)) ∧ Below w.heap.size w w' := by
  obtain ⟨i0, hi, hz0, hz1, hz2⟩ := info_parts Try.info3
  obtain ⟨l0, u0⟩ := hc
  go_enter Try.func68, Try.ntmps68
  go_wp2_with fail
  refine (pick_any _ _ _ l0 u0 (by omega) (by omega)).mono ?_
  rintro e wa ⟨q0, hq0, hq1, rfl, rfl⟩
  clear l0 u0
  go_wp2
  go_loopw [0, 5, 6] (fun c v a wr => ∃ (q : Int) (t : List Bool), 0 ≤ q ∧ q < 1099511627776 ∧ tsz t ≤ n ∧ c = .int .i64 q ∧ a = .int .i64 ((tsz t + 1 : Nat) : Int) ∧ wr.ownsRow w.heap.size 3 1 v (tpl t).length ((tpl t).map (Value.int .i64)) ∧ Below w.heap.size w wr) (fun _ _ a _ => n + 1 - (intOf a).toNat)
  case atStart => exact ⟨q0, [], hq0, hq1, Nat.zero_le _, rfl, rfl, World.ownsRow_nil _ _ _ _, Below.refl _ _⟩
  case round =>
    obtain ⟨q, t, hq0, hq1, hts, rfl, rfl, hown, hbw⟩ := hrel
    have hbs := hbw.size
    have htl : (tpl t).length ≤ tsz t := by have := tpl_length t; omega
    by_cases hlt : tsz t + 1 ≤ n
    · have hq3 : 0 ≤ q / 3 := by omega
      have hq4 : q / 3 < 1099511627776 := by omega
      have HT1 : Hid (tpl (true :: t) = tpl t ++ [((tsz t + 1 : Nat) : Int)]) := rfl
      have HT2 : Hid (tsz (true :: t) = tsz t + 1) := rfl
      by_cases hc : q % 3 = 0 ∨ tsz t + 1 = n
      · have hstep : ∀ (W : World) (v' : Value), W.ownsRow w.heap.size 3 1 v' ((tpl t).length + 1) ((tpl t).map (Value.int .i64) ++ [Value.int .i64 ((tsz t + 1 : Nat) : Int)]) → W.ownsRow w.heap.size 3 1 v' (tpl (true :: t)).length ((tpl (true :: t)).map (Value.int .i64)) := by
          intro W v' h
          rw [HT1.out, List.length_append, List.map_append]
          exact h
        have HST := hide hstep
        clear hstep
        by_cases hc1 : q % 3 = 0
        · have hd1 : (q % 3 == 0) = true := by simpa using hc1
          clear hc hc1
          go_wp2_with (at_builtin; refine wpList_append_own _ rfl _ _ 26 rfl w.heap.size 3 i0 (.int .i64 0) 1 8 Try.underlying26 hi hz0 hz1 hz2 rfl (by decide) _ _ _ rfl (hown.alloc _) ⟨wr.heap.size, 0, none⟩ 1 1 [.int .i64 ((tsz t + 1 : Nat) : Int)] rfl rfl ?c1 ?c2 ?c3 ?c4 ?c5 ?_)
          case c1 => exact cell_one_new _ _ _
          case c2 => intro u hu; simp at hu; subst hu; rfl
          case c3 => unfold maxLen; omega
          case c4 => omega
          case c5 => simp; omega
          · intro v' w1 hown' hgrow _
            go_wp2
            go_roundw
            case rel => exact ⟨q / 3, true :: t, hq3, hq4, by rw [HT2.out]; omega, by go_num, by rw [HT2.out]; go_num, HST.out _ _ hown', (hbw.alloc hbw.size _).grown hgrow (by simp; omega) (fun g hg => (hown.lt g hg).1)⟩
            case measure => simp [intOf]; omega
        · have hd1 : (q % 3 == 0) = false := by simpa using hc1
          have hc2 : tsz t + 1 = n := by rcases hc with h | h; exact absurd h hc1; exact h
          have hd2 : (((tsz t + 1 : Nat) : Int) == (n : Int)) = true := by rw [hc2]; simp
          clear hc hc1 hc2
          go_wp2_with (at_builtin; refine wpList_append_own _ rfl _ _ 26 rfl w.heap.size 3 i0 (.int .i64 0) 1 8 Try.underlying26 hi hz0 hz1 hz2 rfl (by decide) _ _ _ rfl (hown.alloc _) ⟨wr.heap.size, 0, none⟩ 1 1 [.int .i64 ((tsz t + 1 : Nat) : Int)] rfl rfl ?c1 ?c2 ?c3 ?c4 ?c5 ?_)
          case c1 => exact cell_one_new _ _ _
          case c2 => intro u hu; simp at hu; subst hu; rfl
          case c3 => unfold maxLen; omega
          case c4 => omega
          case c5 => simp; omega
          · intro v' w1 hown' hgrow _
            go_wp2
            go_roundw
            case rel => exact ⟨q / 3, true :: t, hq3, hq4, by rw [HT2.out]; omega, by go_num, by rw [HT2.out]; go_num, HST.out _ _ hown', (hbw.alloc hbw.size _).grown hgrow (by simp; omega) (fun g hg => (hown.lt g hg).1)⟩
            case measure => simp [intOf]; omega
      · have hd1 : (q % 3 == 0) = false := by simp; omega
        have hd2 : (((tsz t + 1 : Nat) : Int) == (n : Int)) = false := by rw [beq_eq_false_iff_ne]; omega
        have hl2 : tsz t + 2 ≤ n := by omega
        have HT3 : Hid (tsz (false :: t) = tsz t + 2) := rfl
        clear hc
        go_wp2
        go_roundw
        case rel => exact ⟨q / 3, false :: t, hq3, hq4, by rw [HT3.out]; omega, by go_num, by rw [HT3.out]; go_num, hown, hbw⟩
        case measure => simp [intOf]; omega
    · go_wp2
      go_ret
      exact ⟨_, t, rfl, by omega, hown, hbw⟩

end Go.Proofs.Ytoiiadiimfohiaa

/- Contract: ChangesOf. -/
namespace Go.Proofs.Ytoiiadiimfohiaa
open Go.RowKit

set_option maxRecDepth 20000 in
set_option maxHeartbeats 2000000 in
theorem changesOf_ok (v : Value) (xs : List Int) (f n m : Nat) (w : World) (h : Ints w v xs) (hx : ∀ x, x ∈ xs → I64 x) (hf : f ≤ 1000) (h1 : 1 ≤ n) (h12 : n ≤ 12) (hm : m ≤ 1000) :
    Calls Try.prog 44 #[v, .int .i64 f, .int .i64 n, .int .i64 m] w fun e w' => ∃ (u : Value) (vs : List Value) (ts : List (List Bool)), e = .returned u ∧ ts.length = m ∧ (∀ t, t ∈ ts → tsz t = n) ∧ LL w' w.heap.size u vs (ts.map tpl) ∧ Below w.heap.size w w' := by
  obtain ⟨i0, hi, hz0, hz1, hz2⟩ := info_parts Try.info26
  have HI := hide h
  have HX := hide hx
  clear h hx
  go_enter Try.func44, Try.ntmps44
  go_wp2
  go_loopw [9, 10] (fun u i wr => ∃ (k : Nat) (vs : List Value) (ts : List (List Bool)), k ≤ m ∧ i = .int .i64 k ∧ Hid (ts.length = k) ∧ Hid (vs.length = k) ∧ Hid (∀ t, t ∈ ts → tsz t = n) ∧ Hid (LL wr w.heap.size u vs (ts.map tpl)) ∧ Below w.heap.size w wr) (fun _ i _ => m - (intOf i).toNat)
  case atStart => exact ⟨0, [], [], by omega, rfl, rfl, rfl, (fun t ht => by cases ht), LL.nil _ _, Below.refl _ _⟩
  case round =>
    obtain ⟨k, vs, ts, hk, rfl, hl, hlv, hts, hL, hbw⟩ := hrel
    have hbs := hbw.size
    by_cases hlt : k < m
    · have e1 : (f : Int) + (k : Int) = ((f + k : Nat) : Int) := by omega
      have HRaw1 := hide (raw_any v xs (f + k) wr (HI.out.below hbw) HX.out (by omega))
      rw [← e1] at HRaw1
      clear e1
      go_wp2_with fail
      refine HRaw1.out.mono ?_
      rintro e wa ⟨x1, hx1, rfl, rfl⟩
      go_wp2_with fail
      refine (changeOf_ok x1 n _ hx1 h1 h12).mono ?_
      rintro e w1 ⟨u, t, rfl, ht, ho, hb1⟩
      have hL1 := hL.out.below hb1
      have hrow1 := hL1.row
      have hou := owns_base ho hbs
      obtain ⟨p, c, rfl⟩ := owns_slice ho
      have HOU := hide hou
      have HL1 := hide hL1
      have HT := hide ht
      have hb2 := hbw.trans (hb1.mono hbs)
      have hs1 := hb2.size
      rw [hlv.out] at hrow1
      generalize hpl : (tpl t).length = pl at *
      clear ho hou hL1 hL ht hb1 hbw
      go_wp2_with (at_builtin; refine wpList_append_own _ rfl _ _ 22 rfl w.heap.size 26 i0 (.slice none 0 0) 1 24 Try.underlying22 hi hz0 hz1 hz2 rfl (by decide) _ _ _ rfl (hrow1.alloc _) ⟨w1.heap.size, 0, none⟩ 1 1 [.slice p pl c] rfl rfl ?c1 ?c2 ?c3 ?c4 ?c5 ?_)
      case c1 => exact cell_one_new _ _ _
      case c2 => intro u hu; simp at hu; subst hu; rfl
      case c3 => unfold maxLen; omega
      case c4 => omega
      case c5 => simp; omega
      · intro v' w4 hown4 hgrow _
        have HL4 : Hid (LL w4 w.heap.size v' (vs ++ [.slice p pl c]) ((ts ++ [t]).map tpl)) := by
          show LL _ _ _ _ _
          rw [List.map_append]
          exact HL1.out.push (by rw [hpl]; exact HOU.out) (by rw [hlv.out]; exact hown4) hgrow
        have hB4 := HL1.out.step hb2 (Nat.le_refl _) hs1 hgrow
        have HLE : Hid ((ts ++ [t]).length = k + 1) := by show _ = _; rw [List.length_append, hl.out]; rfl
        have HLV : Hid ((vs ++ [Value.slice p pl c]).length = k + 1) := by show _ = _; rw [List.length_append, hlv.out]; rfl
        have HTS : Hid (∀ t', t' ∈ ts ++ [t] → tsz t' = n) := by
          intro t' ht'
          rcases List.mem_append.1 ht' with h | h
          · exact hts.out t' h
          · rw [List.mem_singleton.1 h]; exact HT.out
        clear hown4 hgrow hrow1 hpl
        go_wp2
        go_roundw
        case rel => exact ⟨k + 1, _, ts ++ [t], by omega, by go_num, HLE, HLV, HTS, HL4, hB4⟩
        case measure => simp [intOf]; omega
    · go_wp2
      go_ret
      exact ⟨_, vs, ts, rfl, by have := hl.out; omega, hts.out, hL.out, hbw⟩

end Go.Proofs.Ytoiiadiimfohiaa

/- What is known of a row behind a slice; the contracts of package row in its terms. -/
namespace Go.Proofs.Ytoiiadiimfohiaa
open Go.RowKit

/-- What is known of a row behind a slice. -/
structure RowAt (w : World) (v : Value) (n : Nat) (X : List Int) : Prop where
  ints : Ints w v X
  row : isRow X
  len : X.length = n

theorem RowAt.below {w w' : World} {v : Value} {n : Nat} {X : List Int} (h : RowAt w v n X) (hb : Below w.heap.size w w') : RowAt w' v n X := ⟨h.ints.below hb, h.row, h.len⟩

theorem times_row {n : Nat} {v1 v2 : Value} {X Y : List Int} {w : World} (h1 : 1 ≤ n) (h2 : n ≤ 12) (hx : RowAt w v1 n X) (hy : RowAt w v2 n Y) :
    Calls Try.prog 55 #[v1, v2] w fun e w' => ∃ v, e = .returned (.tuple #[v, .int .i64 0]) ∧ RowAt w' v n (by_ X Y) ∧ Below w.heap.size w w' := by
  have e1 := hx.len
  have e2 := hy.len
  refine (times_ok v1 v2 X Y w hx.ints hy.ints hx.row hy.row (by omega) (by omega) (by omega)).mono ?_
  rintro e w' ⟨v, rfl, hi, hb⟩
  exact ⟨v, rfl, ⟨hi, isRow_by hx.row hy.row (by omega), by rw [by_length]; exact e2⟩, hb⟩

theorem back_row {n : Nat} {v1 : Value} {X : List Int} {w : World} (h1 : 1 ≤ n) (h2 : n ≤ 12) (hx : RowAt w v1 n X) :
    Calls Try.prog 58 #[v1] w fun e w' => ∃ v Z, e = .returned (.tuple #[v, .int .i64 0]) ∧ RowAt w' v n Z ∧ by_ X Z = rnd n ∧ Below w.heap.size w w' := by
  have e1 := hx.len
  refine (back_ok v1 X w hx.ints hx.row (by omega) (by omega)).mono ?_
  rintro e w' ⟨v, Z, rfl, hi, hu, hb⟩
  exact ⟨v, Z, rfl, ⟨hi, isRow_undoes hx.row hu, hu.1.trans e1⟩, by rw [by_undoes hx.row hu, e1], hb⟩

theorem RowAt.own {w : World} {base : Nat} {v : Value} {n : Nat} {X : List Int} (h : w.ownsRow base 3 1 v n (X.map (Value.int .i64))) (hr : isRow X) : RowAt w v n X :=
  ⟨Ints.own h, hr, by have := h.1; simpa using this⟩

end Go.Proofs.Ytoiiadiimfohiaa

/- Contract: method.Lead. -/
namespace Go.Proofs.Ytoiiadiimfohiaa
open Go.RowKit

/-- Rounds, changed by changes. -/
def prd (n : Nat) (ts : List (List Bool)) : List Int := ts.foldl (fun r t => by_ r (trow t)) (rnd n)

theorem prd_snoc (n : Nat) (ts : List (List Bool)) (t : List Bool) : prd n (ts ++ [t]) = by_ (prd n ts) (trow t) := by simp [prd, List.foldl_append]

theorem fold_row (n : Nat) : ∀ (ts : List (List Bool)) (r : List Int), isRow r → r.length = n → (∀ t, t ∈ ts → tsz t = n) → isRow (ts.foldl (fun r t => by_ r (trow t)) r) ∧ (ts.foldl (fun r t => by_ r (trow t)) r).length = n
  | [], _, hr, hl, _ => ⟨hr, hl⟩
  | t :: ts, r, hr, hl, h => by
    have ht : tsz t = n := h t (by simp)
    exact fold_row n ts _ (isRow_by hr (trow_row t) (by rw [trow_length, ht, hl])) (by rw [by_length, trow_length, ht]) (fun t' ht' => h t' (List.mem_cons_of_mem _ ht'))

theorem prd_row (n : Nat) (ts : List (List Bool)) (h : ∀ t, t ∈ ts → tsz t = n) : isRow (prd n ts) ∧ (prd n ts).length = n := fold_row n ts _ (isRow_rnd n) (rnd_length n) h

/-- The first rows of a lead. -/
def leadTo (n : Nat) (ts : List (List Bool)) (k : Nat) : List (List Int) := (List.range (k + 1)).map (fun j => prd n (ts.take j))

theorem leadTo_snoc (n : Nat) (ts : List (List Bool)) (k : Nat) : leadTo n ts (k + 1) = leadTo n ts k ++ [prd n (ts.take (k + 1))] := by
  unfold leadTo; rw [List.range_succ, List.map_append]; rfl

theorem leadTo_length (n : Nat) (ts : List (List Bool)) (k : Nat) : (leadTo n ts k).length = k + 1 := by simp [leadTo]

theorem leadTo_get {n k j : Nat} {ts : List (List Bool)} (h : j ≤ k) : (leadTo n ts k).getD j [] = prd n (ts.take j) := by
  simp [leadTo, List.getD, Nat.lt_succ_of_le h]

theorem tile_ok {n : Nat} {ts : List (List Bool)} (h : ∀ t, t ∈ ts → tsz t = n) {k : Nat} (hk : k < (ts.map tpl).length) : okc n 0 ((ts.map tpl).getD k []) = true := by
  have hk' : k < ts.length := by simpa using hk
  rw [show (ts.map tpl).getD k [] = tpl ts[k] from by simp [List.getD, hk'], ← h ts[k] (List.getElem_mem hk')]
  exact okc_self _

/-- What the loop of Lead knows. -/
structure LeadRel (w wr : World) (s : ByteArray) (n : Nat) (v : Value) (ts : List (List Bool)) (k : Nat) (r u : Value) (vs : List Value) : Prop where
  box : Box wr w.heap.size s n v
  ll : LL wr (w.heap.size + 1) u vs (leadTo n ts k)
  row : wr.ownsRow (w.heap.size + 1) 3 1 r n ((prd n (ts.take k)).map (Value.int .i64))
  below : Below w.heap.size w wr

theorem take_next {ts : List (List Bool)} {k : Nat} (h : k < ts.length) : ts.take (k + 1) = ts.take k ++ [ts[k]] := List.take_succ_eq_append_getElem h

set_option maxRecDepth 20000 in
set_option maxHeartbeats 4000000 in
theorem lead_ok (s : ByteArray) (n : Nat) (v : Value) (ts : List (List Bool)) (w : World) (hs : s.size ≤ 9223372036854775807) (hn : nm s = true) (h1 : 2 ≤ n) (h2 : n ≤ 12) (hl1 : 1 ≤ ts.length) (hl2 : ts.length ≤ 200) (hts : ∀ t, t ∈ ts → tsz t = n)
    (hv : IntsAll w v (ts.map tpl)) :
    Calls Try.prog 31 #[meth s n v] w fun e w' => ∃ u vs, e = .returned (.tuple #[u, .int .i64 0]) ∧ LL w' (w.heap.size + 1) u vs (leadTo n ts ts.length) ∧ Below w.heap.size w w' := by
  obtain ⟨i0, hi, hz0, hz1, hz2⟩ := info_parts Try.info26
  have hlm : (ts.map tpl).length = ts.length := List.length_map _
  have HC := hide (fun W (hb : Below w.heap.size w W) => mcheck_ok s n v (ts.map tpl) W hs hn h1 h2 (by omega) (by omega) (hv.below hb) (fun k hk => tile_ok hts hk))
  obtain ⟨b, off, cap, hve, hbl, hc1, hc2, hcell⟩ := hv.cell (by omega)
  rw [hlm] at hve hc1 hcell
  subst hve
  have HCE := hide hcell
  have HTS := hide hts
  have HV := hide hv
  clear hn hv hcell hts hlm
  unfold meth
  go_enter Try.func31, Try.ntmps31
  go_wp2_with fail
  refine (HC.out _ ((Below.refl _ _).alloc (Nat.le_refl _) _)).mono ?_
  rintro e w1 ⟨rfl, hb1⟩
  have hB : Below w.heap.size w w1 := ((Below.refl _ _).alloc (Nat.le_refl _) _).trans (hb1.mono (by simp))
  have hx := (Box.start w s n (.slice (some ⟨b, off, none⟩) ts.length cap) 24).below hb1
  have g1 := hx.c1
  have g2 := hx.c2
  have HX := hide hx
  clear hb1 HC hx
  go_wp2_with fail
  refine (rounds_ok n w1 (by omega) h2).mono ?_
  rintro e w2 ⟨r0, rfl, hr0, hb2⟩
  obtain ⟨g, rc, rfl, hg1, hg2, hrc, hrc2⟩ := owns_form hr0 (by omega)
  have hx2 := HX.out.below hb2
  have hx3 := hx2.below ((Below.refl _ _).alloc (Nat.le_refl _) (.cells #[.slice (some ⟨g, 0, none⟩) n rc] 26))
  have hsz : w.heap.size + 1 ≤ w1.heap.size := HX.out.lt
  have hsz2 := hb2.size
  have HR : Hid (LeadRel w (w2.alloc (.cells #[.slice (some ⟨g, 0, none⟩) n rc] 26)) s n (.slice (some ⟨b, off, none⟩) ts.length cap) ts 0 (.slice (some ⟨g, 0, none⟩) n rc) (.slice (some ⟨w2.heap.size, 0, none⟩) 1 1) [.slice (some ⟨g, 0, none⟩) n rc]) := by
    refine ⟨hx3, ?_, ?_, ((hB.trans (hb2.mono (by omega))).alloc (by omega) _)⟩
    · exact LL.one (X := rnd n) (by rw [rnd_length]; exact owns_base hr0 hsz) (by omega)
    · exact (owns_base hr0 hsz).alloc _
  have g3 := hx3.c2
  clear hx2 hr0 hb2 g2 HX hB
  go_wp2
  go_loopw [5, 7, 28] (fun r u i wr => ∃ (k : Nat) (vs : List Value), k ≤ ts.length ∧ i = .int .i64 k ∧ Hid (vs.length = k + 1) ∧ Hid (LeadRel w wr s n (.slice (some ⟨b, off, none⟩) ts.length cap) ts k r u vs)) (fun _ _ i _ => ts.length - (intOf i).toNat)
  case atStart => exact ⟨0, [.slice (some ⟨g, 0, none⟩) n rc], by omega, rfl, (show [Value.slice (some ⟨g, 0, none⟩) n rc].length = 0 + 1 from rfl), HR⟩
  case round =>
    obtain ⟨k, vs, hk, rfl, hlv, hR⟩ := hrel
    clear HR g3 hx3
    by_cases hlt : k < ts.length
    · obtain ⟨p, c, hcx, hix⟩ := HCE.out k hlt
      have hbw := hR.out.below
      have hbs := hbw.size
      have gx := (hbw.cell (p := ⟨b, off + k, none⟩) (by exact hbl)).trans hcx
      have gb := hR.out.box.c1
      have ht : tsz ts[k] = n := HTS.out _ (List.getElem_mem hlt)
      have hix2 := hix.out
      have hgk : (ts.map tpl).getD k [] = tpl ts[k] := by simp [List.getD, hlt]
      rw [hgk] at hix2 gx
      have HRow := hide (prow_ok ts[k] n _ wr ht (by omega) h2 (hix2.below hbw))
      have HK := hide (take_next hlt)
      have HTK : Hid (prd n (ts.take (k + 1)) = by_ (prd n (ts.take k)) (trow ts[k])) := by show _ = _; rw [HK.out, prd_snoc]
      have hpr := prd_row n (ts.take k) (fun t ht' => HTS.out t (List.mem_of_mem_take ht'))
      generalize ts[k] = t at *
      generalize (tpl t).length = pl at *
      have HPR := hide hpr
      have HT0 := hide ht
      clear ht
      clear hcx hix hix2 hpr hgk
      go_wp2_with fail
      refine HRow.out.mono ?_
      rintro e w3 ⟨rv, rfl, hrv, hb3⟩
      have hrow3 := owns_below hR.out.row hb3 (Nat.le_refl _)
      have HT := hide (times_own _ rv (prd n (ts.take k)) (trow t) w3 (Ints.own hrow3) (Ints.own hrv) HPR.out.1 (trow_row t) (by rw [HPR.out.2]; omega) (by rw [HPR.out.2]; omega) (by rw [trow_length, HPR.out.2, HT0.out]))
      rw [HPR.out.2, ← HTK.out] at HT
      have hL3 := hR.out.ll.below hb3
      have hx3 := hR.out.box.below hb3
      have hbw3 := hbw.trans (hb3.mono hbs)
      have hbs3 := hb3.size
      have HL3 := hide hL3
      have HX3 := hide hx3
      clear hrow3 hL3 hx3 hrv hb3 hR HRow hbw gx gb
      go_wp2_with fail
      refine HT.out.mono ?_
      rintro e w4 ⟨rn, rfl, hrn, hb4⟩
      obtain ⟨g', rc', rfl, hg3, hg4, hrc3, hrc4⟩ := owns_form hrn (by omega)
      have hL4 := HL3.out.below hb4
      have hx4 := HX3.out.below hb4
      have hbw4 := hbw3.trans (hb4.mono (by omega))
      have hbs4 := hb4.size
      have hxl := HX3.out.lt
      have hrn' := owns_base hrn (show w.heap.size + 1 ≤ w3.heap.size by omega)
      have hrow4 := hL4.row
      rw [hlv.out] at hrow4
      have HL4 := hide hL4
      have HX4 := hide hx4
      have HRN := hide hrn'
      clear hrn hrn' hL4 hx4 HL3 HX3 HT hb4 hbw3
      go_wp2_with (at_builtin; refine wpList_append_own _ rfl _ _ 22 rfl (w.heap.size + 1) 26 i0 (.slice none 0 0) 1 24 Try.underlying22 hi hz0 hz1 hz2 rfl (by decide) _ _ _ rfl (hrow4.alloc _) ⟨w4.heap.size, 0, none⟩ 1 1 [.slice (some ⟨g', 0, none⟩) n rc'] rfl rfl ?c1 ?c2 ?c3 ?c4 ?c5 ?_)
      case c1 => exact cell_one_new _ _ _
      case c2 => intro u hu; simp at hu; subst hu; rfl
      case c3 => unfold maxLen; omega
      case c4 => omega
      case c5 => simp; omega
      · intro v' w5 hown5 hgrow _
        have HR5 : Hid (LeadRel w w5 s n (.slice (some ⟨b, off, none⟩) ts.length cap) ts (k + 1) (.slice (some ⟨g', 0, none⟩) n rc') v' (vs ++ [.slice (some ⟨g', 0, none⟩) n rc'])) := by
          have hxa := HX4.out.below ((Below.refl _ _).alloc (Nat.le_refl _) (.cells #[.slice (some ⟨g', 0, none⟩) n rc'] 26))
          refine ⟨?_, ?_, HL4.out.kept HRN.out hgrow, HL4.out.step hbw4 (by omega) (by omega) hgrow⟩
          · have hbx : Below (w.heap.size + 1) (w4.alloc (.cells #[.slice (some ⟨g', 0, none⟩) n rc'] 26)) w5 := (Below.refl _ _).grown hgrow (by simp; omega) (fun g hg => (HL4.out.row.lt g hg).1)
            exact ⟨(hbx.cell (p := ⟨w.heap.size, 0, none⟩) (Nat.lt_succ_self _)).trans hxa.c0, (hbx.cell (p := ⟨w.heap.size, 1, none⟩) (Nat.lt_succ_self _)).trans hxa.c1, (hbx.cell (p := ⟨w.heap.size, 2, none⟩) (Nat.lt_succ_self _)).trans hxa.c2, Nat.lt_of_lt_of_le hxa.lt hbx.size⟩
          · rw [leadTo_snoc]
            exact HL4.out.push (by have := HRN.out.1; rw [show (prd n (ts.take (k + 1))).length = n from by simpa using this]; exact HRN.out) (by rw [hlv.out]; exact hown5) hgrow
        have HLV : Hid ((vs ++ [Value.slice (some ⟨g', 0, none⟩) n rc']).length = k + 1 + 1) := by show _ = _; rw [List.length_append, hlv.out]; rfl
        clear hown5 hgrow hrow4
        go_wp2
        go_roundw
        case rel => exact ⟨k + 1, _, by omega, by go_num, HLV, HR5⟩
        case measure => simp [intOf]; omega
    · go_wp2
      go_ret2
      obtain rfl : k = ts.length := by omega
      exact ⟨_, vs, rfl, hR.out.ll, hR.out.below⟩

end Go.Proofs.Ytoiiadiimfohiaa

/- Plain: the first lists of a list of lists; the rows of a lead. -/
namespace Go.Proofs.Ytoiiadiimfohiaa
open Go.RowKit Go.Maps

/-- The first lists of a list of lists. -/
theorem LL.front {w : World} {base g N cap k : Nat} {vs : List Value} {X : List (List Int)} (h : LL w base (.slice (some ⟨g, 0, none⟩) N cap) vs X) (hN : vs.length = N) (hk : k ≤ N) (h1 : 1 ≤ k) (hg : g < w.heap.size) (hc : N ≤ cap) (hc2 : cap ≤ 9223372036854775807) :
    IntsAll w (.slice (some ⟨g, 0, none⟩) k cap) (X.take k) := by
  have hr := h.row
  rw [hN] at hr
  have hXl := h.len
  refine ⟨vs.take k, Or.inr ⟨g, 0, cap, ?_, ?_, ?_, hc2, hg, fun j hj => ?_⟩, ?_, fun j hj => ?_⟩
  · rw [List.length_take, hN, Nat.min_eq_left hk]
  · rw [List.length_take, hN, Nat.min_eq_left hk]; exact h1
  · rw [List.length_take, hN, Nat.min_eq_left hk]; omega
  · have hj' : j < k := by rw [List.length_take, hN, Nat.min_eq_left hk] at hj; exact hj
    rw [Nat.zero_add, owns_val hr (by omega)]
    simp [List.getD, hj']
  · rw [List.length_take, List.length_take, hXl]
  · have hj' : j < k := by rw [List.length_take] at hj; omega
    have hjX : j < X.length := by rw [← hXl, hN]; omega
    have := Ints.own (h.at hjX)
    have e1 : (vs.take k).getD j undef = vs.getD j undef := by simp [List.getD, hj']
    have e2 : (X.take k).getD j [] = X.getD j [] := by simp [List.getD, hj']
    rw [e1, e2]
    exact this

/-- The rows of a lead, but the last one. -/
def ldr (n : Nat) (ts : List (List Bool)) : List (List Int) := (leadTo n ts ts.length).take ts.length

theorem ldr_length (n : Nat) (ts : List (List Bool)) : (ldr n ts).length = ts.length := by unfold ldr; rw [List.length_take, leadTo_length]; omega

theorem ldr_rows {n : Nat} {ts : List (List Bool)} (h : ∀ t, t ∈ ts → tsz t = n) : ∀ r, r ∈ ldr n ts → Rw n r := by
  intro r hr
  have hr' := List.mem_of_mem_take hr
  obtain ⟨j, hj, e⟩ := List.getElem_of_mem hr'
  have hl : (leadTo n ts ts.length).length = ts.length + 1 := leadTo_length n ts ts.length
  have h2 := leadTo_get (n := n) (ts := ts) (k := ts.length) (j := j) (by omega)
  rw [List.getD_eq_getElem?_getD, List.getElem?_eq_getElem hj, Option.getD_some, e] at h2
  have := prd_row n (ts.take j) (fun t ht => h t (List.mem_of_mem_take ht))
  rw [← h2] at this
  exact ⟨this.1, this.2⟩

end Go.Proofs.Ytoiiadiimfohiaa

/- Contract: truth.Heads, over what call.Rows tells. -/
namespace Go.Proofs.Ytoiiadiimfohiaa
open Go.RowKit

/-- What call.Rows tells. -/
def RowsPost (T : List (List Int)) (w : World) (e : Ending) (w' : World) : Prop := ∃ u vs, e = .returned (.tuple #[u, .int .i64 0]) ∧ LL w' w.heap.size u vs T ∧ Below w.heap.size w w'

theorem LL.keptRow {w w' : World} {base : Nat} {v : Value} {vs : List Value} {xss : List (List Int)} {u : Value} {k : Nat} {us : List Value} (h : LL w base v vs xss) (hu : w.ownsRow base 26 1 u k us) (hg : w.grownBy w' u.ownBlock) (hne : v.ownBlock = none ∨ v.ownBlock ≠ u.ownBlock) : LL w' base v vs xss :=
  ⟨h.row.kept hg hne, h.all.mono (fun _ _ _ h' => owns_kept_ty h' hu hg)⟩

theorem Box.keep {w w' : World} {b B : Nat} {s : ByteArray} {n : Int} {v : Value} (h : Box w b s n v) (hb : Below B w w') (hlt : b < B) : Box w' b s n v :=
  ⟨(hb.cell (p := ⟨b, 0, none⟩) hlt).trans h.c0, (hb.cell (p := ⟨b, 1, none⟩) hlt).trans h.c1, (hb.cell (p := ⟨b, 2, none⟩) hlt).trans h.c2, Nat.lt_of_lt_of_le h.lt hb.size⟩

/-- The heads. -/
def headsOf (T : List (List Int)) (k N : Nat) : List (List Int) := (List.range N).map (fun i => T.getD (i * k) [])

theorem headsOf_snoc (T : List (List Int)) (k j : Nat) : headsOf T k (j + 1) = headsOf T k j ++ [T.getD (j * k) []] := by
  unfold headsOf
  rw [List.range_succ, List.map_append]
  rfl

set_option maxRecDepth 20000 in
set_option maxHeartbeats 4000000 in
theorem heads_ok (s : ByteArray) (n : Nat) (vp : Option Addr) (k vc : Nat) (cv : Value) (lp : Option Addr) (N lc : Nat) (T : List (List Int)) (w : World) (hk : 1 ≤ k) (hN : N ≤ 400) (hk2 : k ≤ 200) (hT : T.length = N * k + 1)
    (hR : ∀ W, Below w.heap.size w W → Calls Try.prog 25 #[meth s n (.slice vp k vc), cv, .slice lp N lc] W (RowsPost T W)) :
    Calls Try.prog 9 #[meth s n (.slice vp k vc), cv, .slice lp N lc] w fun e w' => ∃ u vs, e = .returned (.tuple #[u, .int .i64 0]) ∧ LL w' w.heap.size u vs (headsOf T k N) ∧ Below w.heap.size w w' := by
  obtain ⟨j0, hji, hq0, hq1, hq2⟩ := info_parts Try.info26
  have HR := hide (hR _ ((Below.refl w.heap.size w).alloc (Nat.le_refl _) (.cells #[.string s, .int .i64 n, .slice vp k vc] 24)))
  have HT := hide hT
  clear hR hT
  unfold meth at HR
  unfold meth
  go_enter Try.func9, Try.ntmps9
  go_wp2_with fail
  refine HR.out.mono ?_
  rintro e w1 ⟨u, vs, rfl, hL1, hb1⟩
  have hB1 : Below w.heap.size w w1 := ((Below.refl _ _).alloc (Nat.le_refl _) _).trans (hb1.mono (by simp))
  have hx := (Box.start w s n (.slice vp k vc) 24).below hb1
  have hL1' := hL1.low (show w.heap.size + 1 ≤ _ by simp)
  have hvl : vs.length = N * k + 1 := by rw [hL1.len, HT.out]
  have hr1 := hL1'.row
  rw [hvl] at hr1
  obtain ⟨gu, cu, rfl, hgu1, hgu2, hcu1, hcu2⟩ := owns_form hr1 (by omega)
  have hbs1 := hB1.size
  have HX := hide hx
  have HL1 := hide hL1'
  have HVL := hide hvl
  clear hL1 hb1 hL1' hr1 hx HR hvl
  go_wp2
  go_loopw [10, 24] (fun hv i wr => ∃ (j : Nat) (hs : List Value), j ≤ N ∧ i = .int .i64 j ∧ Hid (LL wr (w.heap.size + 1) hv hs (headsOf T k j)) ∧ Hid (LL wr (w.heap.size + 1) (.slice (some ⟨gu, 0, none⟩) (N * k + 1) cu) vs T) ∧ Hid (Box wr w.heap.size s n (.slice vp k vc)) ∧ Hid (hv.ownBlock = none ∨ hv.ownBlock ≠ some gu) ∧ Below w.heap.size w wr) (fun _ i _ => N - (intOf i).toNat)
  case atStart => exact ⟨0, [], by omega, rfl, LL.nil _ _, HL1, HX, Or.inl rfl, hB1⟩
  case round =>
    obtain ⟨j, hs, hj, rfl, hH, hL, hX, hsep, hbw⟩ := hrel
    clear HL1 HX hB1 hbs1
    have hbs := hbw.size
    have hxl := hX.out.lt
    obtain ⟨hp, hc, rfl⟩ := owns_slice hH.out.row
    by_cases hlt : j < N
    · have hjk : j * k < N * k + 1 := Nat.lt_succ_of_lt (Nat.mul_lt_mul_of_pos_right hlt hk)
      have hbig : N * k ≤ 400 * 200 := Nat.mul_le_mul hN hk2
      have hr := hL.out.row
      rw [HVL.out] at hr
      have gc := owns_val hr hjk
      have hat := hL.out.at (k := j * k) (by rw [HT.out]; exact hjk)
      have HSN := hide (headsOf_snoc T k j)
      have g2 := hX.out.c2
      obtain ⟨ep, ec, hee⟩ := owns_slice hat
      rw [hee] at gc hat
      have hhl : hs.length = j := by rw [hH.out.len]; simp [headsOf]
      obtain ⟨P, hP⟩ : ∃ P, P = j * k := ⟨_, rfl⟩
      have hmi : (j : Int) * (k : Int) = (P : Int) := by rw [hP]; exact (Int.natCast_mul j k).symm
      rw [← hP] at gc hat HSN hjk
      have hPb : P ≤ 80000 := by rw [hP]; exact Nat.le_trans (Nat.mul_le_mul (Nat.le_of_lt hlt) (Nat.le_refl k)) hbig
      have HAT := hide hat
      have hrow := hH.out.row
      have hhb : hs.length ≤ 400 := by omega
      clear hhl
      generalize hel : (T.getD P []).length = el at *
      clear hat hee hr hP hbig
      go_wp2_with (at_builtin; refine wpList_append_keep _ rfl _ _ 22 rfl (w.heap.size + 1) 26 j0 (.slice none 0 0) 1 24 Try.underlying22 hji hq0 hq1 hq2 rfl (by decide) _ _ _ rfl (hrow.alloc _) ⟨wr.heap.size, 0, none⟩ 1 1 [.slice ep el ec] rfl rfl ?c1 ?c2 ?c3 ?c4 ?c5 ?_)
      case c1 => exact cell_one_new _ _ _
      case c2 => intro u hu; simp at hu; subst hu; rfl
      case c3 => unfold maxLen; omega
      case c4 => omega
      case c5 => simp; omega
      · intro v' w5 hown5 hg5 hk5
        have hL5 := hH.out.push (X := T.getD P []) (by rw [hel]; exact HAT.out) hown5 hg5
        rw [← HSN.out] at hL5
        have hT5 := LL.keptRow (hL.out.below ((Below.refl _ _).alloc (Nat.le_refl _) _)) (hrow.alloc _) hg5 (by
          rcases hsep.out with h9 | h9
          · right; rw [h9]; exact fun e => by cases e
          · right; exact fun e => h9 e.symm)
        have hb5 := hH.out.step (Below.refl (w.heap.size + 1) wr) (Nat.le_refl _) (by omega) hg5
        have hbw5 : Below w.heap.size w w5 := hbw.trans (hb5.mono (by omega))
        have HX5 := hide (hX.out.keep hb5 (Nat.lt_succ_self _))
        have HS5 : Hid (v'.ownBlock = none ∨ v'.ownBlock ≠ some gu) := by
          rcases hk5 with h9 | ⟨h9, _⟩
          · rw [h9]; exact hsep.out
          · refine Or.inr (fun e => ?_)
            rw [h9] at e
            have e2 : wr.heap.size + 1 = gu := Option.some.inj e
            have := (hL.out.row.lt gu rfl).2
            omega
        have HL5 := hide hL5
        have HT5 := hide hT5
        clear hL5 hT5 hb5 hown5 hg5 hk5 hH hL hX hsep hrow
        go_wp2
        go_roundw
        case rel => exact ⟨j + 1, _, by omega, by go_num, HL5, HT5, HX5, HS5, hbw5⟩
        case measure => simp [intOf]; omega
    · obtain rfl : j = N := by omega
      have HF := hide hH.out
      clear hH hL hX hsep
      go_wp2
      go_ret2
      exact ⟨_, hs, rfl, HF.out.low (Nat.le_succ _), hbw⟩

end Go.Proofs.Ytoiiadiimfohiaa

/- Contract: call.leadOf: the rows of a lead that ends with a call. -/
namespace Go.Proofs.Ytoiiadiimfohiaa
open Go.RowKit

/-- The changes of a lead that ends with a call. -/
def calledBy (ts ss : List (List Bool)) : List (List Bool) := ts.take (ts.length - ss.length) ++ ss

theorem calledBy_length {ts ss : List (List Bool)} (h : ss.length ≤ ts.length) : (calledBy ts ss).length = ts.length := by
  unfold calledBy; rw [List.length_append, List.length_take]; omega

theorem calledBy_mem {n : Nat} {ts ss : List (List Bool)} (h1 : ∀ t, t ∈ ts → tsz t = n) (h2 : ∀ t, t ∈ ss → tsz t = n) : ∀ t, t ∈ calledBy ts ss → tsz t = n := by
  intro t ht
  rcases List.mem_append.1 ht with h | h
  · exact h1 t (List.mem_of_mem_take h)
  · exact h2 t h

set_option maxRecDepth 20000 in
set_option maxHeartbeats 4000000 in
theorem leadOf_ok (s : ByteArray) (n : Nat) (vp : Option Addr) (vc : Nat) (ts : List (List Bool)) (sg : Int) (up : Option Addr) (uc : Nat) (ss : List (List Bool)) (w : World) (h1 : 1 ≤ n) (h12 : n ≤ 12) (hl1 : 1 ≤ ts.length) (hl2 : ts.length ≤ 200)
    (hts : ∀ t, t ∈ ts → tsz t = n) (hv : IntsAll w (.slice vp ts.length vc) (ts.map tpl)) (hss : ∀ t, t ∈ ss → tsz t = n) (hu : IntsAll w (.slice up ss.length uc) (ss.map tpl)) (hle : ss.length ≤ ts.length) :
    Calls Try.prog 53 #[meth s n (.slice vp ts.length vc), .agg #[.int .i32 sg, .slice up ss.length uc]] w fun e w' => ∃ u vs, e = .returned u ∧ LL w' w.heap.size u vs ((calledBy ts ss).map trow) ∧ Below w.heap.size w w' := by
  obtain ⟨j0, hji, hq0, hq1, hq2⟩ := info_parts Try.info26
  obtain ⟨b, off, cap, hve, hbl, hc1, hc2, hxx⟩ := hv.cell (by rw [List.length_map]; exact hl1)
  obtain ⟨rfl, rfl⟩ : vp = some ⟨b, off, none⟩ ∧ vc = cap := by simpa using hve
  clear hxx
  rw [List.length_map] at hc1
  have hcut := hv.cut (k := ts.length - ss.length) (List.length_map _) (by omega)
  have hB0 : Below w.heap.size w ((w.alloc (.cells #[.string s, .int .i64 n, .slice (some ⟨b, off, none⟩) ts.length vc] 24)).alloc (.cells #[.int .i32 sg, .slice up ss.length uc] 47)) := ((Below.refl _ _).alloc (Nat.le_refl _) _).alloc (by simp) _
  have hB1 := hB0.alloc hB0.size (.cells #[.slice (some ⟨b, off, none⟩) (ts.length - ss.length) vc, .slice up ss.length uc] 22)
  have hnew := heap_alloc_new ((w.alloc (.cells #[.string s, .int .i64 n, .slice (some ⟨b, off, none⟩) ts.length vc] 24)).alloc (.cells #[.int .i32 sg, .slice up ss.length uc] 47)) (.cells #[.slice (some ⟨b, off, none⟩) (ts.length - ss.length) vc, .slice up ss.length uc] 22)
  have hbox := ((Box.start w s n (.slice (some ⟨b, off, none⟩) ts.length vc) 24).below ((Below.refl _ _).alloc (Nat.le_refl _) (.cells #[.int .i32 sg, .slice up ss.length uc] 47))).below ((Below.refl _ _).alloc (Nat.le_refl _) (.cells #[.slice (some ⟨b, off, none⟩) (ts.length - ss.length) vc, .slice up ss.length uc] 22))
  have HCO := hide (concat_ok (w.heap.size + 2) _ _ _ _ (((w.alloc (.cells #[.string s, .int .i64 n, .slice (some ⟨b, off, none⟩) ts.length vc] 24)).alloc (.cells #[.int .i32 sg, .slice up ss.length uc] 47)).alloc (.cells #[.slice (some ⟨b, off, none⟩) (ts.length - ss.length) vc, .slice up ss.length uc] 22)) (by simp) (by
      rw [show ((w.alloc (.cells #[.string s, .int .i64 n, .slice (some ⟨b, off, none⟩) ts.length vc] 24)).alloc (.cells #[.int .i32 sg, .slice up ss.length uc] 47)).heap.size = w.heap.size + 2 from by simp] at hnew
      unfold World.cell?; simp only [hnew]; rfl) (by
      rw [show ((w.alloc (.cells #[.string s, .int .i64 n, .slice (some ⟨b, off, none⟩) ts.length vc] 24)).alloc (.cells #[.int .i32 sg, .slice up ss.length uc] 47)).heap.size = w.heap.size + 2 from by simp] at hnew
      unfold World.cell?; simp only [hnew]; rfl) (hcut.below hB1) (hu.below hB1) (by rw [List.length_take, List.length_map, List.length_map]; omega) (by rw [List.length_take, List.length_map]; omega) (by rw [List.length_map]; omega))
  rw [← List.map_take, ← List.map_append, show ts.take (ts.length - ss.length) ++ ss = calledBy ts ss from rfl] at HCO
  have HZL := hide (calledBy_length hle)
  have HZM := hide (calledBy_mem hts hss)
  have HBX := hide hbox
  have HB1 := hide hB1
  clear hts hss hv hu hcut hbox hnew hB1 hB0 hve
  generalize calledBy ts ss = Z at *
  generalize ts.length = K at *
  generalize ss.length = M at *
  obtain ⟨D, rfl⟩ : ∃ D, K = D + M := ⟨K - M, by omega⟩
  rw [show D + M - M = D from by omega] at HCO HBX HB1
  unfold meth
  go_enter Try.func53, Try.ntmps53
  go_wp2_with fail
  refine HCO.out.mono ?_
  rintro e w1 ⟨v, rfl, hI1, hb1⟩
  have hB1 : Below w.heap.size w w1 := HB1.out.trans (hb1.mono HB1.out.size)
  have hx1 := HBX.out.below hb1
  obtain ⟨zb, zo, zc, hve, hzb, hzc, hzm, hzcell⟩ := hI1.cell (by rw [List.length_map, HZL.out]; omega)
  rw [List.length_map, HZL.out] at hve hzc
  subst hve
  have HX1 := hide hx1
  have HZC := hide hzcell
  have hbs1 := hB1.size
  clear HCO HBX HB1 hb1 hx1 hI1 hzcell
  go_wp2
  go_loopw [6, 27] (fun hv i wr => ∃ (j : Nat) (vs : List Value), j ≤ D + M ∧ i = .int .i64 j ∧ Hid (vs.length = j) ∧ Hid (LL wr w1.heap.size hv vs ((Z.take j).map trow)) ∧ Below w1.heap.size w1 wr) (fun _ i _ => D + M - (intOf i).toNat)
  case atStart => exact ⟨0, [], by omega, rfl, (show ([] : List Value).length = 0 from rfl), LL.nil _ _, Below.refl _ _⟩
  case round =>
    obtain ⟨j, vs, hj, rfl, hvl, hL, hbw⟩ := hrel
    have hbs := hbw.size
    obtain ⟨hp, hc, rfl⟩ := owns_slice hL.out.row
    by_cases hlt : j < D + M
    · have hjz : j < Z.length := by rw [HZL.out]; exact hlt
      obtain ⟨p, c, gx, hix⟩ := HZC.out j (by rw [List.length_map]; exact hjz)
      have ht : tsz Z[j] = n := HZM.out _ (List.getElem_mem hjz)
      have hix2 := hix.out
      have hgk : (Z.map tpl).getD j [] = tpl Z[j] := by simp [List.getD, hjz]
      rw [hgk] at hix2 gx
      have gy := (hbw.cell (p := ⟨zb, zo + j, none⟩) hzb).trans gx
      have HRow := hide (prow_ok Z[j] n _ wr ht h1 h12 (hix2.below hbw))
      have HTN : Hid ((Z.take (j + 1)).map trow = (Z.take j).map trow ++ [trow Z[j]]) := by show _ = _; rw [List.take_succ_eq_append_getElem hjz, List.map_append]; rfl
      have HTL : Hid ((trow Z[j]).length = n) := by show _ = _; rw [trow_length, ht]
      have gb := (HX1.out.below hbw).c1
      generalize Z[j] = t at *
      generalize (tpl t).length = pl at *
      clear gx hix hix2 hgk ht
      have hvl2 := hvl.out
      rw [hvl2]
      go_wp2_with fail
      refine HRow.out.mono ?_
      rintro e w3 ⟨rv, rfl, hrv, hb3⟩
      have hL3 := hL.out.below hb3
      have hbs3 := hb3.size
      have hbw3 : Below w1.heap.size w1 w3 := hbw.trans (hb3.mono hbs)
      have hrv2 := owns_base hrv hbs
      obtain ⟨rp, rc, rfl⟩ := owns_slice hrv2
      have hrow := hL3.row
      have HL3 := hide hL3
      rw [hvl2] at hrow
      have HRV := hide hrv2
      clear hL hrv hrv2 hL3 HRow hb3
      go_wp2_with (at_builtin; refine wpList_append_keep _ rfl _ _ 22 rfl w1.heap.size 26 j0 (.slice none 0 0) 1 24 Try.underlying22 hji hq0 hq1 hq2 rfl (by decide) _ _ _ rfl (hrow.alloc _) ⟨w3.heap.size, 0, none⟩ 1 1 [.slice rp n rc] rfl rfl ?c1 ?c2 ?c3 ?c4 ?c5 ?_)
      case c1 => exact cell_one_new _ _ _
      case c2 => intro u hu; simp at hu; subst hu; rfl
      case c3 => unfold maxLen; omega
      case c4 => omega
      case c5 => simp; omega
      · intro v' w5 hown5 hg5 _
        have hg5' := hg5
        rw [← hvl2] at hown5 hg5'
        have hL5 := HL3.out.push (X := trow t) (by rw [HTL.out]; exact HRV.out) hown5 hg5'
        rw [← HTN.out] at hL5
        have HB5 := hide (HL3.out.step hbw3 (Nat.le_refl _) (by omega) hg5')
        have HL5 := hide hL5
        have HV5 : Hid ((vs ++ [Value.slice rp n rc]).length = j + 1) := by show _ = _; rw [List.length_append, hvl2]; rfl
        clear hL5 hown5 hg5 hg5' hrow
        go_wp2
        go_roundw
        case rel => exact ⟨j + 1, _, by omega, by go_num, HV5, HL5, HB5.out⟩
        case measure => simp [intOf]; omega
    · obtain rfl : j = D + M := by omega
      have hF := hL.out
      rw [show Z.take (D + M) = Z from by rw [← HZL.out]; exact List.take_length] at hF
      have HF := hide hF
      clear hL hF
      go_wp2
      go_ret
      exact ⟨_, vs, rfl, HF.out.low hbs1, hB1.trans (hbw.mono hbs1)⟩

end Go.Proofs.Ytoiiadiimfohiaa

/- Plain: BOTH PROOFS AGREE: the rows of leads are unlike just when those of the first lead are, the heads are, and no two heads are a false one apart. -/
namespace Go.Proofs.Ytoiiadiimfohiaa
open Go.RowKit

/-- The rows of leads with these heads. -/
def touchRows (Hs P : List (List Int)) : List (List Int) := Hs.flatMap (fun h => P.map (fun p => by_ h p))

theorem by_cancel {n : Nat} (h12 : n ≤ 12) {h a b : List Int} (hh : Rw n h) (ha : Rw n a) (hb : Rw n b) (e : by_ h a = by_ h b) : a = b := by
  refine Rw.eq h12 ha hb ?_
  have := congrArg pad e
  rw [hh.pad_by h12 ha, hh.pad_by h12 hb] at this
  exact Pm.mul_cancel this

/-- Rows of two leads are one just when what makes one head of the other makes one of their rows of the other. -/
theorem by_meet {n : Nat} (h12 : n ≤ 12) {h h' a b : List Int} (hh : Rw n h) (hh' : Rw n h') (ha : Rw n a) (hb : Rw n b) : by_ h a = by_ h' b ↔ by_ (un h) h' = by_ a (un b) := by
  constructor
  · intro e
    refine Rw.eq h12 (hh.un.by hh') (ha.by hb.un) ?_
    have e' := congrArg pad e
    rw [hh.pad_by h12 ha, hh'.pad_by h12 hb] at e'
    rw [hh.un.pad_by h12 hh', ha.pad_by h12 hb.un, hh.pad_un h12, hb.pad_un h12]
    refine Pm.mul_cancel (x := pad h) ?_
    rw [Pm.mul_inv_cancel, ← Pm.mul_assoc, e', Pm.mul_assoc, Pm.mul_inv, Pm.mul_one]
  · intro e
    refine Rw.eq h12 (hh.by ha) (hh'.by hb) ?_
    have e' := congrArg pad e
    rw [hh.un.pad_by h12 hh', ha.pad_by h12 hb.un, hh.pad_un h12, hb.pad_un h12] at e'
    rw [hh.pad_by h12 ha, hh'.pad_by h12 hb]
    have e2 : pad h' = pad h * (pad a * (pad b)⁻¹) := by rw [← e', Pm.mul_inv_cancel]
    rw [e2, Pm.mul_assoc, Pm.mul_assoc, Pm.inv_mul, Pm.mul_one]

theorem by_un_rnd {n : Nat} (h12 : n ≤ 12) {h h' : List Int} (hh : Rw n h) (hh' : Rw n h') : by_ (un h) h' = rnd n ↔ h = h' := by
  constructor
  · intro e
    refine Rw.eq h12 hh hh' ?_
    have e' := congrArg pad e
    rw [hh.un.pad_by h12 hh', hh.pad_un h12, pad_rnd h12] at e'
    rw [← Pm.mul_one (pad h), ← e', Pm.mul_inv_cancel]
  · rintro rfl
    refine Rw.eq h12 (hh.un.by hh) (Rw.rnd n) ?_
    rw [hh.un.pad_by h12 hh, hh.pad_un h12, Pm.inv_mul, pad_rnd h12]

theorem apart_iff {n : Nat} (h12 : n ≤ 12) {P : List (List Int)} (hP : ∀ p, p ∈ P → Rw n p) (h0 : P ≠ []) {h h' : List Int} (hh : Rw n h) (hh' : Rw n h') :
    (∀ x, x ∈ P.map (fun p => by_ h p) → ∀ y, y ∈ P.map (fun p => by_ h' p) → x ≠ y) ↔ (h ≠ h' ∧ by_ (un h) h' ∉ hds n P) := by
  have hm : ∀ d, d ∈ hds n P ↔ d ∈ pr P ∧ d ≠ rnd n := (hdsTo_fact n (pr P)).2.1
  constructor
  · intro H
    obtain ⟨p0, hp0⟩ := List.exists_mem_of_ne_nil P h0
    refine ⟨fun e => ?_, fun hd => ?_⟩
    · subst e
      exact H _ (List.mem_map.2 ⟨p0, hp0, rfl⟩) _ (List.mem_map.2 ⟨p0, hp0, rfl⟩) rfl
    · obtain ⟨one, h1, other, h2, e⟩ := pr_mem.1 ((hm _).1 hd).1
      exact H _ (List.mem_map.2 ⟨other, h2, rfl⟩) _ (List.mem_map.2 ⟨one, h1, rfl⟩) ((by_meet h12 hh hh' (hP _ h2) (hP _ h1)).2 e.symm)
  · rintro ⟨hne, hnd⟩ x hx y hy e
    obtain ⟨a, ha, rfl⟩ := List.mem_map.1 hx
    obtain ⟨b, hb, rfl⟩ := List.mem_map.1 hy
    have e2 := (by_meet h12 hh hh' (hP _ ha) (hP _ hb)).1 e
    refine hnd ((hm _).2 ⟨pr_mem.2 ⟨b, hb, a, ha, e2.symm⟩, fun e3 => ?_⟩)
    exact hne ((by_un_rnd h12 hh hh').1 e3)

theorem both_proofs {n : Nat} (h12 : n ≤ 12) {Hs P : List (List Int)} (hP : ∀ p, p ∈ P → Rw n p) (hH : ∀ h, h ∈ Hs → Rw n h) (h0 : P ≠ []) (h1 : Hs ≠ []) :
    (touchRows Hs P).Nodup ↔ (P.Nodup ∧ Hs.Nodup ∧ Hs.Pairwise (fun h h' => by_ (un h) h' ∉ hds n P)) := by
  unfold touchRows List.Nodup
  rw [List.pairwise_flatMap]
  have e1 : (∀ h, h ∈ Hs → List.Pairwise (· ≠ ·) (P.map (fun p => by_ h p))) ↔ List.Pairwise (· ≠ ·) P := by
    have key : ∀ h, h ∈ Hs → (List.Pairwise (· ≠ ·) (P.map (fun p => by_ h p)) ↔ List.Pairwise (· ≠ ·) P) := by
      intro h hh
      rw [List.pairwise_map]
      exact List.Pairwise.iff_of_mem (fun {a b} ha hb => ⟨fun hne e => hne (by rw [e]), fun hne e => hne (by_cancel h12 (hH h hh) (hP a ha) (hP b hb) e)⟩)
    obtain ⟨h, hh⟩ := List.exists_mem_of_ne_nil Hs h1
    exact ⟨fun H => (key h hh).1 (H h hh), fun H h hh => (key h hh).2 H⟩
  have e2 : List.Pairwise (fun h h' => ∀ x, x ∈ P.map (fun p => by_ h p) → ∀ y, y ∈ P.map (fun p => by_ h' p) → x ≠ y) Hs ↔ (List.Pairwise (· ≠ ·) Hs ∧ Hs.Pairwise (fun h h' => by_ (un h) h' ∉ hds n P)) := by
    rw [← List.pairwise_and_iff]
    exact List.Pairwise.iff_of_mem (fun {a b} ha hb => apart_iff h12 hP h0 (hH a ha) (hH b hb))
  constructor
  · rintro ⟨a, b⟩
    exact ⟨e1.1 a, e2.1 b⟩
  · rintro ⟨a, b⟩
    exact ⟨e1.2 a, e2.2 b⟩

end Go.Proofs.Ytoiiadiimfohiaa

/- Contract: slices.Equal of lists of ints. -/
namespace Go.Proofs.Ytoiiadiimfohiaa
open Go.RowKit

set_option maxHeartbeats 800000 in
theorem equal_any (v1 v2 : Value) (xs ys : List Int) (w : World) (h1 : Ints w v1 xs) (h2 : Ints w v2 ys) :
    Calls Try.prog 27 #[v1, v2] w fun e w' => e = .returned (.bool (decide (xs = ys))) ∧ Below w.heap.size w w' := by
  by_cases hlen : xs.length = ys.length
  · rcases h1 with ⟨rfl, p, c, rfl⟩ | ⟨b, off, cap, rfl, h0, hc, hm, hb, hcell⟩
    · obtain rfl : ys = [] := List.length_eq_zero_iff.1 (by simpa using hlen.symm)
      obtain ⟨p2, c2, rfl⟩ := h2.form
      clear h2
      go_enter Try.func27, Try.ntmps27
      go_wp2
      go_loop [13] (fun i => i = .int .i64 0) (fun _ => 0)
      case atStart => rfl
      case round =>
        subst hrel
        go_wp2
        go_ret
        exact ⟨rfl, Below.refl _ _⟩
    · rcases h2 with ⟨rfl, p, c, rfl⟩ | ⟨b2, off2, cap2, rfl, h02, hc2, hm2, hb2, hcell2⟩
      · simp at hlen; subst hlen; simp at h0
      · have hl : (((xs.length : Nat) : Int) != ((ys.length : Nat) : Int)) = false := by rw [hlen]; simp
        have HL : Hid (xs.length = ys.length) := hlen
        clear hlen
        go_enter Try.func27, Try.ntmps27
        go_wp2
        go_loopw [13] (fun i wr => ∃ k : Nat, k ≤ xs.length ∧ i = .int .i64 k ∧ Hid (xs.take k = ys.take k) ∧ Below w.heap.size w wr) (fun i _ => xs.length - (intOf i).toNat)
        case atStart => exact ⟨0, by omega, rfl, by simp [Hid], Below.refl _ _⟩
        case round =>
          obtain ⟨k, hk, rfl, ht, hbw⟩ := hrel
          by_cases hlt : k < xs.length
          · have hlt2 : k < ys.length := by have := HL.out; omega
            obtain ⟨x, hx, hcx⟩ := cellAt hcell hlt
            obtain ⟨y, hy, hcy⟩ := cellAt hcell2 hlt2
            have gx : wr.cell? ⟨b, off + k, none⟩ = some (.int .i64 x) := (hbw.cell (by exact hb)).trans hcx
            have gy : wr.cell? ⟨b2, off2 + k, none⟩ = some (.int .i64 y) := (hbw.cell (by exact hb2)).trans hcy
            clear hcx hcy hcell hcell2
            by_cases hxy : x = y
            · subst hxy
              go_wp2
              go_region
              all_goals
                go_wp2
                go_roundw
                case rel => exact ⟨k + 1, by omega, by go_num, take_eq_snoc ht.out hlt hlt2 (by rw [hx.out, hy.out]), by first | exact hbw | exact hbw.drew | exact hbw.drew.drew⟩
                case measure => simp [intOf]; omega
            · have hne : (x != y) = true := by simpa using hxy
              have HXY : Hid (¬ x = y) := hxy
              clear hxy
              go_wp2
              go_region
              all_goals
                go_wp2
                go_ret
                refine ⟨ret_bool ?_, by first | exact hbw | exact hbw.drew | exact hbw.drew.drew⟩
                symm
                rw [decide_eq_false_iff_not]
                intro e
                exact HXY.out (by rw [← hx.out, ← hy.out, e])
          · clear hcell hcell2
            go_wp2
            go_ret
            refine ⟨ret_bool ?_, hbw⟩
            symm
            rw [decide_eq_true_iff]
            have h3 := ht.out
            have h4 := HL.out
            rwa [List.take_of_length_le (by omega), List.take_of_length_le (by omega)] at h3
  · obtain ⟨p1, c1, rfl⟩ := h1.form
    obtain ⟨p2, c2, rfl⟩ := h2.form
    have hl : (((xs.length : Nat) : Int) != ((ys.length : Nat) : Int)) = true := by rw [bne_iff_ne]; omega
    have hd : decide (xs = ys) = false := by rw [decide_eq_false_iff_not]; intro e; exact hlen (by rw [e])
    clear hlen h1 h2
    go_enter Try.func27, Try.ntmps27
    go_wp2
    go_ret
    exact ⟨ret_bool hd.symm, Below.refl _ _⟩

end Go.Proofs.Ytoiiadiimfohiaa

/- Contracts: slices.Equal, method.Mirrored. -/
namespace Go.Proofs.Ytoiiadiimfohiaa
open Go.RowKit

/-- Are lists, but for the last one, the same from the back? -/
def Mir (css : List (List Int)) : Prop := ∀ i, i < css.length - 1 → css.getD i [] = css.getD (css.length - 2 - i) []

theorem ret_b0 {a b : Bool} (h : a = b) : Ending.returned (.tuple #[.bool a, .int .i64 0]) = .returned (.tuple #[.bool b, .int .i64 0]) := by rw [h]

end Go.Proofs.Ytoiiadiimfohiaa

/- Plain: what is mirrored comes back. Memory: a list that grows behind another header of it, in a struct. -/
namespace Go.Proofs.Ytoiiadiimfohiaa
open Go.RowKit

theorem by_rnd_left {n : Nat} {X : List Int} (h : ∀ y ∈ X, 0 ≤ y ∧ y < (n : Nat)) : by_ (rnd n) X = X := by
  unfold by_
  conv => rhs; rw [← List.map_id X]
  apply List.map_congr_left
  intro y hy
  have := h y hy
  rw [rnd_get (by omega)]
  show _ = y
  omega

theorem by_rnd_right {X : List Int} : by_ X (rnd X.length) = X := by
  refine ext_getD (by rw [by_length, rnd_length]) (fun j hj => ?_)
  rw [by_length, rnd_length] at hj
  rw [by_get (by rw [rnd_length]; exact hj), rnd_get hj, Int.toNat_natCast]

theorem fold_by (n : Nat) : ∀ (ts : List (List Bool)) (r : List Int), r.length = n → (∀ t, t ∈ ts → tsz t = n) → ts.foldl (fun r t => by_ r (trow t)) r = by_ r (prd n ts)
  | [], r, hr, _ => by show r = by_ r (rnd n); rw [← hr, by_rnd_right]
  | t :: ts, r, hr, h => by
    have ht : tsz t = n := h t (by simp)
    have hs : ∀ t', t' ∈ ts → tsz t' = n := fun t' ht' => h t' (List.mem_cons_of_mem _ ht')
    have hp := prd_row n ts hs
    have e1 : (t :: ts).foldl (fun r t => by_ r (trow t)) r = by_ (by_ r (trow t)) (prd n ts) := fold_by n ts _ (by rw [by_length, trow_length, ht]) hs
    have e2 : prd n (t :: ts) = by_ (by_ (rnd n) (trow t)) (prd n ts) := fold_by n ts _ (by rw [by_length, trow_length, ht]) hs
    rw [e1, e2, by_rnd_left (fun y hy => by rw [← ht]; exact trow_mem t y hy), by_assoc hp.1 (by rw [hp.2, trow_length, ht])]

theorem prd_cons {n : Nat} {t : List Bool} {ts : List (List Bool)} (ht : tsz t = n) (h : ∀ t, t ∈ ts → tsz t = n) : prd n (t :: ts) = by_ (trow t) (prd n ts) := by
  have e2 : prd n (t :: ts) = by_ (by_ (rnd n) (trow t)) (prd n ts) := fold_by n ts _ (by rw [by_length, trow_length, ht]) h
  rw [e2, by_rnd_left (fun y hy => by rw [← ht]; exact trow_mem t y hy)]

theorem prd_rev (n : Nat) : ∀ (ts : List (List Bool)), (∀ t, t ∈ ts → tsz t = n) → by_ (prd n ts) (prd n ts.reverse) = rnd n
  | [], _ => by
    show by_ (rnd n) (rnd n) = rnd n
    have := by_rnd_right (X := rnd n)
    rwa [rnd_length] at this
  | t :: ts, h => by
    have ht : tsz t = n := h t (by simp)
    have hs : ∀ t', t' ∈ ts → tsz t' = n := fun t' ht' => h t' (List.mem_cons_of_mem _ ht')
    have hsr : ∀ t', t' ∈ ts.reverse → tsz t' = n := fun t' ht' => hs t' (by simpa using ht')
    have ih := prd_rev n ts hs
    have hA := prd_row n ts hs
    have hB := prd_row n ts.reverse hsr
    have hBT := isRow_by hB.1 (trow_row t) (by rw [trow_length, ht, hB.2])
    rw [List.reverse_cons, prd_snoc, prd_cons ht hs, by_assoc hBT (by rw [by_length, trow_length, ht, hA.2]), ← by_assoc (trow_row t) (by rw [trow_length, ht, hB.2]), ih,
      by_rnd_left (fun y hy => by rw [← ht]; exact trow_mem t y hy), trow_twice, ht]

/-- There, and back but for the turn. -/
def pal (ts : List (List Bool)) : List (List Bool) := ts ++ ts.dropLast.reverse

theorem pal_rev {ts : List (List Bool)} (h : 1 ≤ ts.length) : (pal ts).reverse = pal ts := by
  obtain ⟨dl, c, rfl⟩ : ∃ dl c, ts = dl ++ [c] := by
    rcases List.eq_nil_or_concat ts with rfl | ⟨l, b, rfl⟩
    · simp at h
    · exact ⟨l, b, by simp⟩
  simp [pal]

theorem pal_mem {n : Nat} {ts : List (List Bool)} (h : ∀ t, t ∈ ts → tsz t = n) : ∀ t, t ∈ pal ts → tsz t = n := by
  intro t ht
  rcases List.mem_append.1 ht with h' | h'
  · exact h t h'
  · exact h t ((List.dropLast_sublist ts).subset (by simpa using h'))

theorem pal_length {ts : List (List Bool)} (h : 1 ≤ ts.length) : (pal ts).length = 2 * ts.length - 1 := by
  simp [pal]; omega

theorem pal_twice {n : Nat} {ts : List (List Bool)} (hl : 1 ≤ ts.length) (h : ∀ t, t ∈ ts → tsz t = n) : by_ (prd n (pal ts)) (prd n (pal ts)) = rnd n := by
  have := prd_rev n (pal ts) (pal_mem h)
  rwa [pal_rev hl] at this

theorem pal_mir {ts : List (List Bool)} (hl : 1 ≤ ts.length) (q : List Bool) : Mir ((pal ts ++ [q]).map tpl) := by
  intro i hi
  have hlen : ((pal ts ++ [q]).map tpl).length = (pal ts).length + 1 := by simp
  rw [hlen] at hi ⊢
  have hi' : i < (pal ts).length := by omega
  have hk : (pal ts).length + 1 - 2 - i < (pal ts).length := by omega
  have e : (pal ts)[i] = (pal ts)[(pal ts).length + 1 - 2 - i] := by
    have h1 : (pal ts).reverse[i]'(by rw [List.length_reverse]; exact hi') = (pal ts)[(pal ts).length - 1 - i] := by rw [List.getElem_reverse]
    have h2 : (pal ts).reverse[i]'(by rw [List.length_reverse]; exact hi') = (pal ts)[i] := by
      congr 1
      exact pal_rev hl
    rw [← h2, h1]
    congr 1
  have g : ∀ k (hk : k < (pal ts).length), ((pal ts ++ [q]).map tpl).getD k [] = tpl (pal ts)[k] := by
    intro k hk
    rw [List.map_append]
    simp only [List.getD]
    rw [List.getElem?_append_left (by simpa using hk), List.getElem?_map, List.getElem?_eq_getElem hk]
    rfl
  rw [g i hi', g _ hk, e]

/-- The changes so far, when the next one to be told back is the d-th. -/
def sofar (ts : List (List Bool)) (d : Nat) : List (List Bool) := ts ++ (ts.dropLast.drop d).reverse

theorem sofar_start (ts : List (List Bool)) : sofar ts (ts.length - 1) = ts := by
  unfold sofar; rw [List.drop_of_length_le (by simp)]; simp

theorem sofar_end (ts : List (List Bool)) : sofar ts 0 = pal ts := by unfold sofar pal; simp

theorem sofar_step {ts : List (List Bool)} {d : Nat} (h : d < ts.length - 1) : sofar ts d = sofar ts (d + 1) ++ [ts[d]'(by omega)] := by
  have hd : d < ts.dropLast.length := by simp; omega
  unfold sofar
  rw [List.drop_eq_getElem_cons hd, List.reverse_cons, List.append_assoc, List.getElem_dropLast]

/-! memory -/

theorem owns_ne_ty {w : World} {base e n B : Nat} {v : Value} {xs : List Value} {c : Array Value} {t : TypeId} (h : w.ownsRow base e 1 v n xs) (hB : w.heap[B]? = some (.cells c t)) (hne : t ≠ e) : v.ownBlock ≠ some B := by
  rcases h.2 with ⟨rfl, _⟩ | ⟨g, cap, cur, rfl, _, hh, _⟩
  · intro h; cases h
  · intro h
    have e1 : g = B := Option.some.inj h
    subst e1
    rw [hB] at hh
    injection hh with hh
    injection hh with _ h2
    exact hne h2

theorem owns_set_other {w : World} {base e n B j : Nat} {v x : Value} {xs : List Value} (h : w.ownsRow base e 1 v n xs) (hne : v.ownBlock ≠ some B) : (w.setCell ⟨B, j, none⟩ x).ownsRow base e 1 v n xs := by
  refine ⟨h.1, ?_⟩
  rcases h.2 with h2 | ⟨g, cap, cur, rfl, hg, hh, r⟩
  · exact Or.inl h2
  · refine Or.inr ⟨g, cap, cur, rfl, hg, ?_, r⟩
    have : B ≠ g := fun e => hne (by rw [e]; rfl)
    simp [World.setCell, Array.getElem?_modify, this, hh]

/-- What the loop of TopMirror knows. -/
structure MirRel (w wr : World) (B n : Nat) (s : ByteArray) (g H : Nat) (vs : List Value) (u : Value) (us : List Value) (qs : List (List Bool)) : Prop where
  box : wr.heap[B]? = some (.cells #[.string s, .int .i64 n, u] 24)
  ll : LL wr w.heap.size u us (qs.map tpl)
  pre : us.take H = vs
  cells : ∀ j, j < H → wr.cell? ⟨g, j, none⟩ = some (vs.getD j undef)
  glt : g < wr.heap.size
  gty : ∃ cur, wr.heap[g]? = some (.cells cur 26)
  below : Below w.heap.size w wr

theorem MirRel.later {w wr w' : World} {B n : Nat} {s : ByteArray} {g H : Nat} {vs : List Value} {u : Value} {us : List Value} {qs : List (List Bool)} (h : MirRel w wr B n s g H vs u us qs) (hb : Below wr.heap.size wr w') : MirRel w w' B n s g H vs u us qs := by
  have hBl : B < wr.heap.size := (Array.getElem?_eq_some_iff.1 h.box).1
  obtain ⟨cur, hc⟩ := h.gty
  exact ⟨(hb.block B hBl).trans h.box, h.ll.below hb, h.pre, fun j hj => (hb.cell (p := ⟨g, j, none⟩) h.glt).trans (h.cells j hj), Nat.lt_of_lt_of_le h.glt hb.size, ⟨cur, (hb.block g h.glt).trans hc⟩, h.below.trans (hb.mono h.below.size)⟩

/-- One more list behind. -/
theorem MirRel.step {w wr w5 : World} {B n : Nat} {s : ByteArray} {g H : Nat} {vs : List Value} {u v' x : Value} {us : List Value} {qs : List (List Bool)} {t : List Bool} (h : MirRel w wr B n s g H vs u us qs) (hB : w.heap.size ≤ B) (hH : H ≤ us.length)
    (hx : wr.ownsRow w.heap.size 3 1 x (tpl t).length ((tpl t).map (Value.int .i64)))
    (hown : w5.ownsRow w.heap.size 26 1 v' (us.length + 1) (us ++ [x])) (hg : wr.grownBy w5 u.ownBlock) (hk : v'.ownBlock = u.ownBlock ∨ (v'.ownBlock = some wr.heap.size ∧ wr.grownBy w5 none)) :
    MirRel w (w5.setCell ⟨B, 2, none⟩ v') B n s g H vs v' (us ++ [x]) (qs ++ [t]) ∧ w5.heap[B]? = some (.cells #[.string s, .int .i64 n, u] 24) := by
  have hBl : B < wr.heap.size := (Array.getElem?_eq_some_iff.1 h.box).1
  have hnB : u.ownBlock ≠ some B := owns_ne_ty h.ll.row h.box (by decide)
  have hbox : w5.heap[B]? = some (.cells #[.string s, .int .i64 n, u] 24) := (hg.block B hBl (fun e => hnB e.symm)).trans h.box
  have hnB' : v'.ownBlock ≠ some B := owns_ne_ty hown hbox (by decide)
  obtain ⟨cur, hcur⟩ := h.gty
  have hgB : g ≠ B := by
    intro e
    subst e
    rw [h.box] at hcur
    injection hcur with hcur
    injection hcur with _ h2
    exact absurd h2 (by decide)
  -- the block of the first header
  have hgt : ∃ cur', w5.heap[g]? = some (.cells cur' 26) := by
    by_cases e : u.ownBlock = some g
    · rcases hk with hk | ⟨_, hk⟩
      · rcases hown.2 with ⟨rfl, _⟩ | ⟨g', cap', cur', rfl, _, hh, _⟩
        · rw [← hk] at e; cases e
        · have : g' = g := by rw [← hk] at e; exact Option.some.inj e
          subst this
          exact ⟨cur', hh⟩
      · exact ⟨cur, (hk.block g h.glt (by simp)).trans hcur⟩
    · exact ⟨cur, (hg.block g h.glt (fun e' => e e'.symm)).trans hcur⟩
  have hgl5 : g < w5.heap.size := Nat.lt_of_lt_of_le h.glt hg.size
  have hcells : ∀ j, j < H → w5.cell? ⟨g, j, none⟩ = some (vs.getD j undef) := by
    intro j hj
    by_cases e : u.ownBlock = some g
    · rcases hk with hk | ⟨_, hk⟩
      · have h1 := hown.cells (g := g) (hk.trans e) j (us.getD j undef) (by rw [List.getElem?_append_left (by omega)]; simp [List.getD, List.getElem?_eq_getElem (show j < us.length by omega)])
        rw [Addr.add_lit, Nat.zero_add] at h1
        rw [h1, ← h.pre]
        simp [List.getD, hj]
      · exact (World.cell?_of_block (w := wr) (a := ⟨g, j, none⟩) (hk.block g h.glt (by simp))).trans (h.cells j hj)
    · exact (World.cell?_of_block (w := wr) (a := ⟨g, j, none⟩) (hg.block g h.glt (fun e' => e e'.symm))).trans (h.cells j hj)
  have hll : LL w5 w.heap.size v' (us ++ [x]) ((qs ++ [t]).map tpl) := by
    rw [List.map_append]
    exact ⟨by rw [List.length_append]; exact hown, OwnAll.snoc (owns_kept_ty hx h.ll.row hg) (h.ll.all.mono (fun _ _ _ h' => owns_kept_ty h' h.ll.row hg))⟩
  refine ⟨⟨?_, ⟨owns_set_other hll.row hnB', hll.all.mono (fun _ _ _ h' => owns_set_other h' (owns_ne_ty h' hbox (by decide)))⟩, ?_, ?_, by simp [World.setCell]; exact hgl5, ?_, ?_⟩, hbox⟩
  · simp [World.setCell, Array.getElem?_modify, hbox]
  · rw [List.take_append_of_le_length hH]; exact h.pre
  · intro j hj
    rw [World.cell?_setCell_other _ _ _ _ (by intro e; simp only [Addr.mk.injEq] at e; exact hgB e.1.symm)]
    exact hcells j hj
  · obtain ⟨c', hc'⟩ := hgt
    exact ⟨c', by simp [World.setCell, Array.getElem?_modify, hgB.symm, hc']⟩
  · have hb5 : Below w.heap.size w w5 := h.below.grown hg h.below.size (fun g' hg' => (h.ll.row.lt g' hg').1)
    exact hb5.setCell (by exact hB) _

end Go.Proofs.Ytoiiadiimfohiaa

/- Plain: the rows of a touch are its leads' heads, changed by the rows of the first lead. -/
namespace Go.Proofs.Ytoiiadiimfohiaa
open Go.RowKit

theorem touchRows_snoc (Hs P : List (List Int)) (h : List Int) : touchRows (Hs ++ [h]) P = touchRows Hs P ++ P.map (fun p => by_ h p) := by
  simp [touchRows, List.flatMap_append]

theorem take_more {α : Type} (T : List α) (a K : Nat) : T.take (a + K) = T.take a ++ (T.drop a).take K := by
  rw [List.take_add]

theorem prd_append {n : Nat} (a b : List (List Bool)) (ha : ∀ t, t ∈ a → tsz t = n) (hb : ∀ t, t ∈ b → tsz t = n) : prd n (a ++ b) = by_ (prd n a) (prd n b) := by
  rw [← fold_by n b (prd n a) (prd_row n a ha).2 hb]
  simp [prd, List.foldl_append]

/-- The rows of a touch whose leads have all changes but the last in common. -/
theorem touch_rows {n N K : Nat} {ts F : List (List Bool)} (hK : 1 ≤ K) (hts : ts.length = K) (hF : F.length = N * K)
    (hFn : ∀ t, t ∈ F → tsz t = n) (htn : ∀ t, t ∈ ts → tsz t = n) (hd : ∀ m q, m < N → q < K → (F.drop (m * K)).take q = ts.take q) :
    ∀ m, m ≤ N → (leadTo n F (N * K)).take (m * K) = touchRows (headsOf (leadTo n F (N * K)) K m) (ldr n ts)
  | 0, _ => by simp [headsOf, touchRows]
  | m + 1, hm => by
    have ih := touch_rows hK hts hF hFn htn hd m (by omega)
    rw [headsOf_snoc, touchRows_snoc, ← ih, Nat.succ_mul, take_more]
    congr 1
    have hmK : m * K + K ≤ N * K := by rw [← Nat.succ_mul]; exact Nat.mul_le_mul_right _ hm
    refine List.ext_getElem (by simp [leadTo_length, ldr_length, hts]; omega) (fun q h1 h2 => ?_)
    have hq : q < K := by rw [List.length_take] at h1; omega
    rw [List.getElem_take, List.getElem_drop, List.getElem_map]
    have g1 := leadTo_get (n := n) (ts := F) (k := N * K) (j := m * K + q) (by omega)
    have g2 := leadTo_get (n := n) (ts := F) (k := N * K) (j := m * K) (by omega)
    have g3 := leadTo_get (n := n) (ts := ts) (k := ts.length) (j := q) (by omega)
    have l1 : m * K + q < (leadTo n F (N * K)).length := by rw [leadTo_length]; omega
    have l3 : q < (leadTo n ts ts.length).length := by rw [leadTo_length]; omega
    rw [List.getD_eq_getElem?_getD, List.getElem?_eq_getElem l1, Option.getD_some] at g1
    rw [List.getD_eq_getElem?_getD, List.getElem?_eq_getElem l3, Option.getD_some] at g3
    have e3 : (ldr n ts)[q]'(by rw [ldr_length]; omega) = prd n (ts.take q) := by
      rw [← g3]
      simp [ldr]
    rw [g1, e3, g2, take_more, hd m q (by omega) hq]
    exact prd_append _ _ (fun t ht => hFn t (List.mem_of_mem_take ht)) (fun t ht => htn t (List.mem_of_mem_take ht))

/-- Where a lead's changes lie among all. -/
theorem flat_drop {α : Type} {K : Nat} : ∀ (G : List (List α)) (m : Nat), (∀ g, g ∈ G → g.length = K) → (h : m < G.length) → (G.flatten).drop (m * K) = G[m] ++ (G.drop (m + 1)).flatten
  | [], m, _, h => by simp at h
  | g :: G, 0, _, _ => by simp
  | g :: G, m + 1, hg, h => by
    have hl : g.length = K := hg g (by simp)
    have ih := flat_drop G m (fun g' h' => hg g' (List.mem_cons_of_mem _ h')) (by simpa using h)
    rw [List.flatten_cons, Nat.succ_mul, Nat.add_comm, ← List.drop_drop, List.drop_append_of_le_length (by omega), ← hl, List.drop_length, List.nil_append, hl, ih]
    rfl

theorem flat_length {α : Type} {K : Nat} : ∀ (G : List (List α)), (∀ g, g ∈ G → g.length = K) → G.flatten.length = G.length * K
  | [], _ => by simp
  | g :: G, hg => by
    rw [List.flatten_cons, List.length_append, flat_length G (fun g' h' => hg g' (List.mem_cons_of_mem _ h')), hg g (by simp), List.length_cons, Nat.succ_mul, Nat.add_comm]

end Go.Proofs.Ytoiiadiimfohiaa
