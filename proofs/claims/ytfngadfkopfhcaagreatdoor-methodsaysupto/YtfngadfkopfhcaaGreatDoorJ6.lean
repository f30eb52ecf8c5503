/- Joined: LL, RowAt, Lead, TrK, TtD, TtO, TtA, Eql, Mirr, MirM, TtP, TtH, TtI, TtQ, TtR, MdF. -/
import Derived.Test.YtfngadfkopfhcaaGreatDoorJ4
import Derived.Test.YtfngadfkopfhcaaGreatDoorJ5
import Derived.Test.YtfngadfkopfhcaaGreatDoorJ3
import Derived.Test.YtfngadfkopfhcaaGreatDoorJ2
/- Contract: ChangesOf. -/
namespace Go.Proofs.YtfngadfkopfhcaaGreatDoor
open Go.RowKit

set_option maxRecDepth 20000 in
set_option maxHeartbeats 2000000 in
theorem changesOf_ok (v : Value) (xs : List Int) (f n m : Nat) (w : World) (h : Ints w v xs) (hx : ∀ x, x ∈ xs → I64 x) (hf : f ≤ 1000) (h1 : 1 ≤ n) (h12 : n ≤ 12) (hm : m ≤ 1000) :
    Calls Tryz.prog 49 #[v, .int .i64 f, .int .i64 n, .int .i64 m] w fun e w' => ∃ (u : Value) (vs : List Value) (ts : List (List Bool)), e = .returned u ∧ ts.length = m ∧ (∀ t, t ∈ ts → tsz t = n) ∧ LL w' w.heap.size u vs (ts.map tpl) ∧ Below w.heap.size w w' := by
  obtain ⟨i0, hi, hz0, hz1, hz2⟩ := info_parts Tryz.info30
  have HI := hide h
  have HX := hide hx
  clear h hx
  go_enter Tryz.func49, Tryz.ntmps49
  go_wp2
  go_loopw [9, 10] (fun u i wr => ∃ (k : Nat) (vs : List Value) (ts : List (List Bool)), k ≤ m ∧ i = .int .i64 k ∧ Hid (ts.length = k) ∧ Hid (vs.length = k) ∧ Hid (∀ t, t ∈ ts → tsz t = n) ∧ Hid (LL wr w.heap.size u vs (ts.map tpl)) ∧ Below w.heap.size w wr) (fun _ i _ => m - (intOf i).toNat)
  case atStart => exact ⟨0, [], [], by omega, rfl, rfl, rfl, (fun t ht => by cases ht), LL.nil _ _, Below.refl _ _⟩
  case round =>
    obtain ⟨k, vs, ts, hk, rfl, hl, hlv, hts, hL, hbw⟩ := hrel
    have hbs := hbw.size
    by_cases hlt : k < m
    · have e1 : (f : Int) + (k : Int) = ((f + k : Nat) : Int) := by omega
      have HRaw1 := hide (raw_any v xs (f + k) wr (HI.out.below hbw) HX.out (by omega))
      rw [← e1] at HRaw1
      clear e1
      go_wp2_with fail
      refine HRaw1.out.mono ?_
      rintro e wa ⟨x1, hx1, rfl, rfl⟩
      go_wp2_with fail
      refine (changeOf_ok x1 n _ hx1 h1 h12).mono ?_
      rintro e w1 ⟨u, t, rfl, ht, ho, hb1⟩
      have hL1 := hL.out.below hb1
      have hrow1 := hL1.row
      have hou := owns_base ho hbs
      obtain ⟨p, c, rfl⟩ := owns_slice ho
      have HOU := hide hou
      have HL1 := hide hL1
      have HT := hide ht
      have hb2 := hbw.trans (hb1.mono hbs)
      have hs1 := hb2.size
      rw [hlv.out] at hrow1
      generalize hpl : (tpl t).length = pl at *
      clear ho hou hL1 hL ht hb1 hbw
      go_wp2_with (at_builtin; refine wpList_append_own _ rfl _ _ 22 rfl w.heap.size 30 i0 (.slice none 0 0) 1 24 Tryz.underlying22 hi hz0 hz1 hz2 rfl (by decide) _ _ _ rfl (hrow1.alloc _) ⟨w1.heap.size, 0, none⟩ 1 1 [.slice p pl c] rfl rfl ?c1 ?c2 ?c3 ?c4 ?c5 ?_)
      case c1 => exact cell_one_new _ _ _
      case c2 => intro u hu; simp at hu; subst hu; rfl
      case c3 => unfold maxLen; omega
      case c4 => omega
      case c5 => simp; omega
      · intro v' w4 hown4 hgrow _
        have HL4 : Hid (LL w4 w.heap.size v' (vs ++ [.slice p pl c]) ((ts ++ [t]).map tpl)) := by
          show LL _ _ _ _ _
          rw [List.map_append]
          exact HL1.out.push (by rw [hpl]; exact HOU.out) (by rw [hlv.out]; exact hown4) hgrow
        have hB4 := HL1.out.step hb2 (Nat.le_refl _) hs1 hgrow
        have HLE : Hid ((ts ++ [t]).length = k + 1) := by show _ = _; rw [List.length_append, hl.out]; rfl
        have HLV : Hid ((vs ++ [Value.slice p pl c]).length = k + 1) := by show _ = _; rw [List.length_append, hlv.out]; rfl
        have HTS : Hid (∀ t', t' ∈ ts ++ [t] → tsz t' = n) := by
          intro t' ht'
          rcases List.mem_append.1 ht' with h | h
          · exact hts.out t' h
          · rw [List.mem_singleton.1 h]; exact HT.out
        clear hown4 hgrow hrow1 hpl
        go_wp2
        go_roundw
        case rel => exact ⟨k + 1, _, ts ++ [t], by omega, by go_num, HLE, HLV, HTS, HL4, hB4⟩
        case measure => simp [intOf]; omega
    · go_wp2
      go_ret
      exact ⟨_, vs, ts, rfl, by have := hl.out; omega, hts.out, hL.out, hbw⟩

end Go.Proofs.YtfngadfkopfhcaaGreatDoor

/- What is known of a row behind a slice; the contracts of package row in its terms. -/
namespace Go.Proofs.YtfngadfkopfhcaaGreatDoor
open Go.RowKit

/-- What is known of a row behind a slice. -/
structure RowAt (w : World) (v : Value) (n : Nat) (X : List Int) : Prop where
  ints : Ints w v X
  row : isRow X
  len : X.length = n

theorem RowAt.below {w w' : World} {v : Value} {n : Nat} {X : List Int} (h : RowAt w v n X) (hb : Below w.heap.size w w') : RowAt w' v n X := ⟨h.ints.below hb, h.row, h.len⟩

theorem times_row {n : Nat} {v1 v2 : Value} {X Y : List Int} {w : World} (h1 : 1 ≤ n) (h2 : n ≤ 12) (hx : RowAt w v1 n X) (hy : RowAt w v2 n Y) :
    Calls Tryz.prog 32 #[v1, v2] w fun e w' => ∃ v, e = .returned (.tuple #[v, .int .i64 0]) ∧ RowAt w' v n (by_ X Y) ∧ Below w.heap.size w w' := by
  have e1 := hx.len
  have e2 := hy.len
  refine (times_ok v1 v2 X Y w hx.ints hy.ints hx.row hy.row (by omega) (by omega) (by omega)).mono ?_
  rintro e w' ⟨v, rfl, hi, hb⟩
  exact ⟨v, rfl, ⟨hi, isRow_by hx.row hy.row (by omega), by rw [by_length]; exact e2⟩, hb⟩

theorem order_row {n : Nat} {v1 : Value} {X : List Int} {w : World} (h1 : 1 ≤ n) (h2 : n ≤ 12) (hx : RowAt w v1 n X) :
    Calls Tryz.prog 33 #[v1] w fun e w' => ∃ o : Nat, 1 ≤ o ∧ o ≤ 1000000000000000 ∧ e = .returned (.tuple #[.int .i64 (o : Int), .bool (odd X), .int .i64 0]) ∧ Below w.heap.size w w' := by
  have e1 := hx.len
  refine (order_ok v1 X w hx.ints hx.row (by omega) (by omega)).mono ?_
  rintro e w' ⟨rfl, hb⟩
  have hall := cycsTo_len hx.row X.length (Nat.le_refl _)
  have hbd := ordTo_bound (xss := cycsTo X X.length) (fun x hx => by have := hall x hx; omega) (cycsTo X X.length).length (Nat.le_refl _)
  have hl := cycsTo_length X X.length
  have hpw : 12 ^ (cycsTo X X.length).length ≤ 12 ^ 12 := Nat.pow_le_pow_right (by decide) (by omega)
  exact ⟨_, hbd.1, by have : 12 ^ 12 ≤ 1000000000000000 := by decide
                      omega, rfl, hb⟩

theorem order_ord {n : Nat} {v1 : Value} {X : List Int} {w : World} (h1 : 1 ≤ n) (h2 : n ≤ 12) (hx : RowAt w v1 n X) :
    Calls Tryz.prog 33 #[v1] w fun e w' => e = .returned (.tuple #[.int .i64 (ord X : Nat), .bool (odd X), .int .i64 0]) ∧ 1 ≤ ord X ∧ ord X ≤ 1000000000000000 ∧ Below w.heap.size w w' := by
  have e1 := hx.len
  refine (order_ok v1 X w hx.ints hx.row (by omega) (by omega)).mono ?_
  rintro e w' ⟨rfl, hb⟩
  have hp := ord_pos hx.row (by omega)
  exact ⟨rfl, hp.1, hp.2, hb⟩

theorem RowAt.own {w : World} {base : Nat} {v : Value} {n : Nat} {X : List Int} (h : w.ownsRow base 3 1 v n (X.map (Value.int .i64))) (hr : isRow X) : RowAt w v n X :=
  ⟨Ints.own h, hr, by have := h.1; simpa using this⟩

end Go.Proofs.YtfngadfkopfhcaaGreatDoor

/- Contract: method.Lead. -/
namespace Go.Proofs.YtfngadfkopfhcaaGreatDoor
open Go.RowKit

/-- Rounds, changed by changes. -/
def prd (n : Nat) (ts : List (List Bool)) : List Int := ts.foldl (fun r t => by_ r (trow t)) (rnd n)

theorem prd_snoc (n : Nat) (ts : List (List Bool)) (t : List Bool) : prd n (ts ++ [t]) = by_ (prd n ts) (trow t) := by simp [prd, List.foldl_append]

theorem fold_row (n : Nat) : ∀ (ts : List (List Bool)) (r : List Int), isRow r → r.length = n → (∀ t, t ∈ ts → tsz t = n) → isRow (ts.foldl (fun r t => by_ r (trow t)) r) ∧ (ts.foldl (fun r t => by_ r (trow t)) r).length = n
  | [], _, hr, hl, _ => ⟨hr, hl⟩
  | t :: ts, r, hr, hl, h => by
    have ht : tsz t = n := h t (by simp)
    exact fold_row n ts _ (isRow_by hr (trow_row t) (by rw [trow_length, ht, hl])) (by rw [by_length, trow_length, ht]) (fun t' ht' => h t' (List.mem_cons_of_mem _ ht'))

theorem prd_row (n : Nat) (ts : List (List Bool)) (h : ∀ t, t ∈ ts → tsz t = n) : isRow (prd n ts) ∧ (prd n ts).length = n := fold_row n ts _ (isRow_rnd n) (rnd_length n) h

/-- The first rows of a lead. -/
def leadTo (n : Nat) (ts : List (List Bool)) (k : Nat) : List (List Int) := (List.range (k + 1)).map (fun j => prd n (ts.take j))

theorem leadTo_snoc (n : Nat) (ts : List (List Bool)) (k : Nat) : leadTo n ts (k + 1) = leadTo n ts k ++ [prd n (ts.take (k + 1))] := by
  unfold leadTo; rw [List.range_succ, List.map_append]; rfl

theorem leadTo_length (n : Nat) (ts : List (List Bool)) (k : Nat) : (leadTo n ts k).length = k + 1 := by simp [leadTo]

theorem leadTo_get {n k j : Nat} {ts : List (List Bool)} (h : j ≤ k) : (leadTo n ts k).getD j [] = prd n (ts.take j) := by
  simp [leadTo, List.getD, Nat.lt_succ_of_le h]

theorem tile_ok {n : Nat} {ts : List (List Bool)} (h : ∀ t, t ∈ ts → tsz t = n) {k : Nat} (hk : k < (ts.map tpl).length) : okc n 0 ((ts.map tpl).getD k []) = true := by
  have hk' : k < ts.length := by simpa using hk
  rw [show (ts.map tpl).getD k [] = tpl ts[k] from by simp [List.getD, hk'], ← h ts[k] (List.getElem_mem hk')]
  exact okc_self _

/-- What the loop of Lead knows. -/
structure LeadRel (w wr : World) (s : ByteArray) (n : Nat) (v : Value) (ts : List (List Bool)) (k : Nat) (r u : Value) (vs : List Value) : Prop where
  box : Box wr w.heap.size s n v
  ll : LL wr (w.heap.size + 1) u vs (leadTo n ts k)
  row : wr.ownsRow (w.heap.size + 1) 3 1 r n ((prd n (ts.take k)).map (Value.int .i64))
  below : Below w.heap.size w wr

theorem take_next {ts : List (List Bool)} {k : Nat} (h : k < ts.length) : ts.take (k + 1) = ts.take k ++ [ts[k]] := List.take_succ_eq_append_getElem h

set_option maxRecDepth 20000 in
set_option maxHeartbeats 4000000 in
theorem lead_ok (s : ByteArray) (n : Nat) (v : Value) (ts : List (List Bool)) (w : World) (hs : s.size ≤ 9223372036854775807) (hn : nm s = true) (h1 : 2 ≤ n) (h2 : n ≤ 12) (hl1 : 1 ≤ ts.length) (hl2 : ts.length ≤ 200) (hts : ∀ t, t ∈ ts → tsz t = n)
    (hv : IntsAll w v (ts.map tpl)) :
    Calls Tryz.prog 8 #[meth s n v] w fun e w' => ∃ u vs, e = .returned (.tuple #[u, .int .i64 0]) ∧ LL w' (w.heap.size + 1) u vs (leadTo n ts ts.length) ∧ Below w.heap.size w w' := by
  obtain ⟨i0, hi, hz0, hz1, hz2⟩ := info_parts Tryz.info30
  have hlm : (ts.map tpl).length = ts.length := List.length_map _
  have HC := hide (fun W (hb : Below w.heap.size w W) => mcheck_ok s n v (ts.map tpl) W hs hn h1 h2 (by omega) (by omega) (hv.below hb) (fun k hk => tile_ok hts hk))
  obtain ⟨b, off, cap, hve, hbl, hc1, hc2, hcell⟩ := hv.cell (by omega)
  rw [hlm] at hve hc1 hcell
  subst hve
  have HCE := hide hcell
  have HTS := hide hts
  have HV := hide hv
  clear hn hv hcell hts hlm
  unfold meth
  go_enter Tryz.func8, Tryz.ntmps8
  go_wp2_with fail
  refine (HC.out _ ((Below.refl _ _).alloc (Nat.le_refl _) _)).mono ?_
  rintro e w1 ⟨rfl, hb1⟩
  have hB : Below w.heap.size w w1 := ((Below.refl _ _).alloc (Nat.le_refl _) _).trans (hb1.mono (by simp))
  have hx := (Box.start w s n (.slice (some ⟨b, off, none⟩) ts.length cap) 24).below hb1
  have g1 := hx.c1
  have g2 := hx.c2
  have HX := hide hx
  clear hb1 HC hx
  go_wp2_with fail
  refine (rounds_ok n w1 (by omega) h2).mono ?_
  rintro e w2 ⟨r0, rfl, hr0, hb2⟩
  obtain ⟨g, rc, rfl, hg1, hg2, hrc, hrc2⟩ := owns_form hr0 (by omega)
  have hx2 := HX.out.below hb2
  have hx3 := hx2.below ((Below.refl _ _).alloc (Nat.le_refl _) (.cells #[.slice (some ⟨g, 0, none⟩) n rc] 30))
  have hsz : w.heap.size + 1 ≤ w1.heap.size := HX.out.lt
  have hsz2 := hb2.size
  have HR : Hid (LeadRel w (w2.alloc (.cells #[.slice (some ⟨g, 0, none⟩) n rc] 30)) s n (.slice (some ⟨b, off, none⟩) ts.length cap) ts 0 (.slice (some ⟨g, 0, none⟩) n rc) (.slice (some ⟨w2.heap.size, 0, none⟩) 1 1) [.slice (some ⟨g, 0, none⟩) n rc]) := by
    refine ⟨hx3, ?_, ?_, ((hB.trans (hb2.mono (by omega))).alloc (by omega) _)⟩
    · exact LL.one (X := rnd n) (by rw [rnd_length]; exact owns_base hr0 hsz) (by omega)
    · exact (owns_base hr0 hsz).alloc _
  have g3 := hx3.c2
  clear hx2 hr0 hb2 g2 HX hB
  go_wp2
  go_loopw [5, 7, 28] (fun r u i wr => ∃ (k : Nat) (vs : List Value), k ≤ ts.length ∧ i = .int .i64 k ∧ Hid (vs.length = k + 1) ∧ Hid (LeadRel w wr s n (.slice (some ⟨b, off, none⟩) ts.length cap) ts k r u vs)) (fun _ _ i _ => ts.length - (intOf i).toNat)
  case atStart => exact ⟨0, [.slice (some ⟨g, 0, none⟩) n rc], by omega, rfl, (show [Value.slice (some ⟨g, 0, none⟩) n rc].length = 0 + 1 from rfl), HR⟩
  case round =>
    obtain ⟨k, vs, hk, rfl, hlv, hR⟩ := hrel
    clear HR g3 hx3
    by_cases hlt : k < ts.length
    · obtain ⟨p, c, hcx, hix⟩ := HCE.out k hlt
      have hbw := hR.out.below
      have hbs := hbw.size
      have gx := (hbw.cell (p := ⟨b, off + k, none⟩) (by exact hbl)).trans hcx
      have gb := hR.out.box.c1
      have ht : tsz ts[k] = n := HTS.out _ (List.getElem_mem hlt)
      have hix2 := hix.out
      have hgk : (ts.map tpl).getD k [] = tpl ts[k] := by simp [List.getD, hlt]
      rw [hgk] at hix2 gx
      have HRow := hide (prow_ok ts[k] n _ wr ht (by omega) h2 (hix2.below hbw))
      have HK := hide (take_next hlt)
      have HTK : Hid (prd n (ts.take (k + 1)) = by_ (prd n (ts.take k)) (trow ts[k])) := by show _ = _; rw [HK.out, prd_snoc]
      have hpr := prd_row n (ts.take k) (fun t ht' => HTS.out t (List.mem_of_mem_take ht'))
      generalize ts[k] = t at *
      generalize (tpl t).length = pl at *
      have HPR := hide hpr
      have HT0 := hide ht
      clear ht
      clear hcx hix hix2 hpr hgk
      go_wp2_with fail
      refine HRow.out.mono ?_
      rintro e w3 ⟨rv, rfl, hrv, hb3⟩
      have hrow3 := owns_below hR.out.row hb3 (Nat.le_refl _)
      have HT := hide (times_own _ rv (prd n (ts.take k)) (trow t) w3 (Ints.own hrow3) (Ints.own hrv) HPR.out.1 (trow_row t) (by rw [HPR.out.2]; omega) (by rw [HPR.out.2]; omega) (by rw [trow_length, HPR.out.2, HT0.out]))
      rw [HPR.out.2, ← HTK.out] at HT
      have hL3 := hR.out.ll.below hb3
      have hx3 := hR.out.box.below hb3
      have hbw3 := hbw.trans (hb3.mono hbs)
      have hbs3 := hb3.size
      have HL3 := hide hL3
      have HX3 := hide hx3
      clear hrow3 hL3 hx3 hrv hb3 hR HRow hbw gx gb
      go_wp2_with fail
      refine HT.out.mono ?_
      rintro e w4 ⟨rn, rfl, hrn, hb4⟩
      obtain ⟨g', rc', rfl, hg3, hg4, hrc3, hrc4⟩ := owns_form hrn (by omega)
      have hL4 := HL3.out.below hb4
      have hx4 := HX3.out.below hb4
      have hbw4 := hbw3.trans (hb4.mono (by omega))
      have hbs4 := hb4.size
      have hxl := HX3.out.lt
      have hrn' := owns_base hrn (show w.heap.size + 1 ≤ w3.heap.size by omega)
      have hrow4 := hL4.row
      rw [hlv.out] at hrow4
      have HL4 := hide hL4
      have HX4 := hide hx4
      have HRN := hide hrn'
      clear hrn hrn' hL4 hx4 HL3 HX3 HT hb4 hbw3
      go_wp2_with (at_builtin; refine wpList_append_own _ rfl _ _ 22 rfl (w.heap.size + 1) 30 i0 (.slice none 0 0) 1 24 Tryz.underlying22 hi hz0 hz1 hz2 rfl (by decide) _ _ _ rfl (hrow4.alloc _) ⟨w4.heap.size, 0, none⟩ 1 1 [.slice (some ⟨g', 0, none⟩) n rc'] rfl rfl ?c1 ?c2 ?c3 ?c4 ?c5 ?_)
      case c1 => exact cell_one_new _ _ _
      case c2 => intro u hu; simp at hu; subst hu; rfl
      case c3 => unfold maxLen; omega
      case c4 => omega
      case c5 => simp; omega
      · intro v' w5 hown5 hgrow _
        have HR5 : Hid (LeadRel w w5 s n (.slice (some ⟨b, off, none⟩) ts.length cap) ts (k + 1) (.slice (some ⟨g', 0, none⟩) n rc') v' (vs ++ [.slice (some ⟨g', 0, none⟩) n rc'])) := by
          have hxa := HX4.out.below ((Below.refl _ _).alloc (Nat.le_refl _) (.cells #[.slice (some ⟨g', 0, none⟩) n rc'] 30))
          refine ⟨?_, ?_, HL4.out.kept HRN.out hgrow, HL4.out.step hbw4 (by omega) (by omega) hgrow⟩
          · have hbx : Below (w.heap.size + 1) (w4.alloc (.cells #[.slice (some ⟨g', 0, none⟩) n rc'] 30)) w5 := (Below.refl _ _).grown hgrow (by simp; omega) (fun g hg => (HL4.out.row.lt g hg).1)
            exact ⟨(hbx.cell (p := ⟨w.heap.size, 0, none⟩) (Nat.lt_succ_self _)).trans hxa.c0, (hbx.cell (p := ⟨w.heap.size, 1, none⟩) (Nat.lt_succ_self _)).trans hxa.c1, (hbx.cell (p := ⟨w.heap.size, 2, none⟩) (Nat.lt_succ_self _)).trans hxa.c2, Nat.lt_of_lt_of_le hxa.lt hbx.size⟩
          · rw [leadTo_snoc]
            exact HL4.out.push (by have := HRN.out.1; rw [show (prd n (ts.take (k + 1))).length = n from by simpa using this]; exact HRN.out) (by rw [hlv.out]; exact hown5) hgrow
        have HLV : Hid ((vs ++ [Value.slice (some ⟨g', 0, none⟩) n rc']).length = k + 1 + 1) := by show _ = _; rw [List.length_append, hlv.out]; rfl
        clear hown5 hgrow hrow4
        go_wp2
        go_roundw
        case rel => exact ⟨k + 1, _, by omega, by go_num, HLV, HR5⟩
        case measure => simp [intOf]; omega
    · go_wp2
      go_ret2
      obtain rfl : k = ts.length := by omega
      exact ⟨_, vs, rfl, hR.out.ll, hR.out.below⟩

end Go.Proofs.YtfngadfkopfhcaaGreatDoor

/- Plain: the first lists of a list of lists; the rows of a lead. -/
namespace Go.Proofs.YtfngadfkopfhcaaGreatDoor
open Go.RowKit Go.Maps

/-- The first lists of a list of lists. -/
theorem LL.front {w : World} {base g N cap k : Nat} {vs : List Value} {X : List (List Int)} (h : LL w base (.slice (some ⟨g, 0, none⟩) N cap) vs X) (hN : vs.length = N) (hk : k ≤ N) (h1 : 1 ≤ k) (hg : g < w.heap.size) (hc : N ≤ cap) (hc2 : cap ≤ 9223372036854775807) :
    IntsAll w (.slice (some ⟨g, 0, none⟩) k cap) (X.take k) := by
  have hr := h.row
  rw [hN] at hr
  have hXl := h.len
  refine ⟨vs.take k, Or.inr ⟨g, 0, cap, ?_, ?_, ?_, hc2, hg, fun j hj => ?_⟩, ?_, fun j hj => ?_⟩
  · rw [List.length_take, hN, Nat.min_eq_left hk]
  · rw [List.length_take, hN, Nat.min_eq_left hk]; exact h1
  · rw [List.length_take, hN, Nat.min_eq_left hk]; omega
  · have hj' : j < k := by rw [List.length_take, hN, Nat.min_eq_left hk] at hj; exact hj
    rw [Nat.zero_add, owns_val hr (by omega)]
    simp [List.getD, hj']
  · rw [List.length_take, List.length_take, hXl]
  · have hj' : j < k := by rw [List.length_take] at hj; omega
    have hjX : j < X.length := by rw [← hXl, hN]; omega
    have := Ints.own (h.at hjX)
    have e1 : (vs.take k).getD j undef = vs.getD j undef := by simp [List.getD, hj']
    have e2 : (X.take k).getD j [] = X.getD j [] := by simp [List.getD, hj']
    rw [e1, e2]
    exact this

/-- The rows of a lead, but the last one. -/
def ldr (n : Nat) (ts : List (List Bool)) : List (List Int) := (leadTo n ts ts.length).take ts.length

theorem ldr_length (n : Nat) (ts : List (List Bool)) : (ldr n ts).length = ts.length := by unfold ldr; rw [List.length_take, leadTo_length]; omega

theorem ldr_rows {n : Nat} {ts : List (List Bool)} (h : ∀ t, t ∈ ts → tsz t = n) : ∀ r, r ∈ ldr n ts → Rw n r := by
  intro r hr
  have hr' := List.mem_of_mem_take hr
  obtain ⟨j, hj, e⟩ := List.getElem_of_mem hr'
  have hl : (leadTo n ts ts.length).length = ts.length + 1 := leadTo_length n ts ts.length
  have h2 := leadTo_get (n := n) (ts := ts) (k := ts.length) (j := j) (by omega)
  rw [List.getD_eq_getElem?_getD, List.getElem?_eq_getElem hj, Option.getD_some, e] at h2
  have := prd_row n (ts.take j) (fun t ht => h t (List.mem_of_mem_take ht))
  rw [← h2] at this
  exact ⟨this.1, this.2⟩

end Go.Proofs.YtfngadfkopfhcaaGreatDoor

/- Contract: truth.Heads, over what call.Rows tells. -/
namespace Go.Proofs.YtfngadfkopfhcaaGreatDoor
open Go.RowKit

/-- What call.Rows tells. -/
def RowsPost (T : List (List Int)) (w : World) (e : Ending) (w' : World) : Prop := ∃ u vs, e = .returned (.tuple #[u, .int .i64 0]) ∧ LL w' w.heap.size u vs T ∧ Below w.heap.size w w'

theorem LL.keptRow {w w' : World} {base : Nat} {v : Value} {vs : List Value} {xss : List (List Int)} {u : Value} {k : Nat} {us : List Value} (h : LL w base v vs xss) (hu : w.ownsRow base 30 1 u k us) (hg : w.grownBy w' u.ownBlock) (hne : v.ownBlock = none ∨ v.ownBlock ≠ u.ownBlock) : LL w' base v vs xss :=
  ⟨h.row.kept hg hne, h.all.mono (fun _ _ _ h' => owns_kept_ty h' hu hg)⟩

theorem Box.keep {w w' : World} {b B : Nat} {s : ByteArray} {n : Int} {v : Value} (h : Box w b s n v) (hb : Below B w w') (hlt : b < B) : Box w' b s n v :=
  ⟨(hb.cell (p := ⟨b, 0, none⟩) hlt).trans h.c0, (hb.cell (p := ⟨b, 1, none⟩) hlt).trans h.c1, (hb.cell (p := ⟨b, 2, none⟩) hlt).trans h.c2, Nat.lt_of_lt_of_le h.lt hb.size⟩

/-- The heads. -/
def headsOf (T : List (List Int)) (k N : Nat) : List (List Int) := (List.range N).map (fun i => T.getD (i * k) [])

theorem headsOf_snoc (T : List (List Int)) (k j : Nat) : headsOf T k (j + 1) = headsOf T k j ++ [T.getD (j * k) []] := by
  unfold headsOf
  rw [List.range_succ, List.map_append]
  rfl

end Go.Proofs.YtfngadfkopfhcaaGreatDoor

/- Contract: call.leadOf: the rows of a lead that ends with a call. -/
namespace Go.Proofs.YtfngadfkopfhcaaGreatDoor
open Go.RowKit

/-- The changes of a lead that ends with a call. -/
def calledBy (ts ss : List (List Bool)) : List (List Bool) := ts.take (ts.length - ss.length) ++ ss

theorem calledBy_length {ts ss : List (List Bool)} (h : ss.length ≤ ts.length) : (calledBy ts ss).length = ts.length := by
  unfold calledBy; rw [List.length_append, List.length_take]; omega

theorem calledBy_mem {n : Nat} {ts ss : List (List Bool)} (h1 : ∀ t, t ∈ ts → tsz t = n) (h2 : ∀ t, t ∈ ss → tsz t = n) : ∀ t, t ∈ calledBy ts ss → tsz t = n := by
  intro t ht
  rcases List.mem_append.1 ht with h | h
  · exact h1 t (List.mem_of_mem_take h)
  · exact h2 t h

end Go.Proofs.YtfngadfkopfhcaaGreatDoor

/- Plain: BOTH PROOFS AGREE: the rows of leads are unlike just when those of the first lead are, the heads are, and no two heads are a false one apart. -/
namespace Go.Proofs.YtfngadfkopfhcaaGreatDoor
open Go.RowKit

/-- The rows of leads with these heads. -/
def touchRows (Hs P : List (List Int)) : List (List Int) := Hs.flatMap (fun h => P.map (fun p => by_ h p))

theorem by_cancel {n : Nat} (h12 : n ≤ 12) {h a b : List Int} (hh : Rw n h) (ha : Rw n a) (hb : Rw n b) (e : by_ h a = by_ h b) : a = b := by
  refine Rw.eq h12 ha hb ?_
  have := congrArg pad e
  rw [hh.pad_by h12 ha, hh.pad_by h12 hb] at this
  exact Pm.mul_cancel this

/-- Rows of two leads are one just when what makes one head of the other makes one of their rows of the other. -/
theorem by_meet {n : Nat} (h12 : n ≤ 12) {h h' a b : List Int} (hh : Rw n h) (hh' : Rw n h') (ha : Rw n a) (hb : Rw n b) : by_ h a = by_ h' b ↔ by_ (un h) h' = by_ a (un b) := by
  constructor
  · intro e
    refine Rw.eq h12 (hh.un.by hh') (ha.by hb.un) ?_
    have e' := congrArg pad e
    rw [hh.pad_by h12 ha, hh'.pad_by h12 hb] at e'
    rw [hh.un.pad_by h12 hh', ha.pad_by h12 hb.un, hh.pad_un h12, hb.pad_un h12]
    refine Pm.mul_cancel (x := pad h) ?_
    rw [Pm.mul_inv_cancel, ← Pm.mul_assoc, e', Pm.mul_assoc, Pm.mul_inv, Pm.mul_one]
  · intro e
    refine Rw.eq h12 (hh.by ha) (hh'.by hb) ?_
    have e' := congrArg pad e
    rw [hh.un.pad_by h12 hh', ha.pad_by h12 hb.un, hh.pad_un h12, hb.pad_un h12] at e'
    rw [hh.pad_by h12 ha, hh'.pad_by h12 hb]
    have e2 : pad h' = pad h * (pad a * (pad b)⁻¹) := by rw [← e', Pm.mul_inv_cancel]
    rw [e2, Pm.mul_assoc, Pm.mul_assoc, Pm.inv_mul, Pm.mul_one]

theorem by_un_rnd {n : Nat} (h12 : n ≤ 12) {h h' : List Int} (hh : Rw n h) (hh' : Rw n h') : by_ (un h) h' = rnd n ↔ h = h' := by
  constructor
  · intro e
    refine Rw.eq h12 hh hh' ?_
    have e' := congrArg pad e
    rw [hh.un.pad_by h12 hh', hh.pad_un h12, pad_rnd h12] at e'
    rw [← Pm.mul_one (pad h), ← e', Pm.mul_inv_cancel]
  · rintro rfl
    refine Rw.eq h12 (hh.un.by hh) (Rw.rnd n) ?_
    rw [hh.un.pad_by h12 hh, hh.pad_un h12, Pm.inv_mul, pad_rnd h12]

theorem apart_iff {n : Nat} (h12 : n ≤ 12) {P : List (List Int)} (hP : ∀ p, p ∈ P → Rw n p) (h0 : P ≠ []) {h h' : List Int} (hh : Rw n h) (hh' : Rw n h') :
    (∀ x, x ∈ P.map (fun p => by_ h p) → ∀ y, y ∈ P.map (fun p => by_ h' p) → x ≠ y) ↔ (h ≠ h' ∧ by_ (un h) h' ∉ hds n P) := by
  have hm : ∀ d, d ∈ hds n P ↔ d ∈ pr P ∧ d ≠ rnd n := (hdsTo_fact n (pr P)).2.1
  constructor
  · intro H
    obtain ⟨p0, hp0⟩ := List.exists_mem_of_ne_nil P h0
    refine ⟨fun e => ?_, fun hd => ?_⟩
    · subst e
      exact H _ (List.mem_map.2 ⟨p0, hp0, rfl⟩) _ (List.mem_map.2 ⟨p0, hp0, rfl⟩) rfl
    · obtain ⟨one, h1, other, h2, e⟩ := pr_mem.1 ((hm _).1 hd).1
      exact H _ (List.mem_map.2 ⟨other, h2, rfl⟩) _ (List.mem_map.2 ⟨one, h1, rfl⟩) ((by_meet h12 hh hh' (hP _ h2) (hP _ h1)).2 e.symm)
  · rintro ⟨hne, hnd⟩ x hx y hy e
    obtain ⟨a, ha, rfl⟩ := List.mem_map.1 hx
    obtain ⟨b, hb, rfl⟩ := List.mem_map.1 hy
    have e2 := (by_meet h12 hh hh' (hP _ ha) (hP _ hb)).1 e
    refine hnd ((hm _).2 ⟨pr_mem.2 ⟨b, hb, a, ha, e2.symm⟩, fun e3 => ?_⟩)
    exact hne ((by_un_rnd h12 hh hh').1 e3)

theorem both_proofs {n : Nat} (h12 : n ≤ 12) {Hs P : List (List Int)} (hP : ∀ p, p ∈ P → Rw n p) (hH : ∀ h, h ∈ Hs → Rw n h) (h0 : P ≠ []) (h1 : Hs ≠ []) :
    (touchRows Hs P).Nodup ↔ (P.Nodup ∧ Hs.Nodup ∧ Hs.Pairwise (fun h h' => by_ (un h) h' ∉ hds n P)) := by
  unfold touchRows List.Nodup
  rw [List.pairwise_flatMap]
  have e1 : (∀ h, h ∈ Hs → List.Pairwise (· ≠ ·) (P.map (fun p => by_ h p))) ↔ List.Pairwise (· ≠ ·) P := by
    have key : ∀ h, h ∈ Hs → (List.Pairwise (· ≠ ·) (P.map (fun p => by_ h p)) ↔ List.Pairwise (· ≠ ·) P) := by
      intro h hh
      rw [List.pairwise_map]
      exact List.Pairwise.iff_of_mem (fun {a b} ha hb => ⟨fun hne e => hne (by rw [e]), fun hne e => hne (by_cancel h12 (hH h hh) (hP a ha) (hP b hb) e)⟩)
    obtain ⟨h, hh⟩ := List.exists_mem_of_ne_nil Hs h1
    exact ⟨fun H => (key h hh).1 (H h hh), fun H h hh => (key h hh).2 H⟩
  have e2 : List.Pairwise (fun h h' => ∀ x, x ∈ P.map (fun p => by_ h p) → ∀ y, y ∈ P.map (fun p => by_ h' p) → x ≠ y) Hs ↔ (List.Pairwise (· ≠ ·) Hs ∧ Hs.Pairwise (fun h h' => by_ (un h) h' ∉ hds n P)) := by
    rw [← List.pairwise_and_iff]
    exact List.Pairwise.iff_of_mem (fun {a b} ha hb => apart_iff h12 hP h0 (hH a ha) (hH b hb))
  constructor
  · rintro ⟨a, b⟩
    exact ⟨e1.1 a, e2.1 b⟩
  · rintro ⟨a, b⟩
    exact ⟨e1.2 a, e2.2 b⟩

end Go.Proofs.YtfngadfkopfhcaaGreatDoor

/- Contract: slices.Equal of lists of ints. -/
namespace Go.Proofs.YtfngadfkopfhcaaGreatDoor
open Go.RowKit

set_option maxHeartbeats 800000 in
theorem equal_any (v1 v2 : Value) (xs ys : List Int) (w : World) (h1 : Ints w v1 xs) (h2 : Ints w v2 ys) :
    Calls Tryz.prog 37 #[v1, v2] w fun e w' => e = .returned (.bool (decide (xs = ys))) ∧ Below w.heap.size w w' := by
  by_cases hlen : xs.length = ys.length
  · rcases h1 with ⟨rfl, p, c, rfl⟩ | ⟨b, off, cap, rfl, h0, hc, hm, hb, hcell⟩
    · obtain rfl : ys = [] := List.length_eq_zero_iff.1 (by simpa using hlen.symm)
      obtain ⟨p2, c2, rfl⟩ := h2.form
      clear h2
      go_enter Tryz.func37, Tryz.ntmps37
      go_wp2
      go_loop [13] (fun i => i = .int .i64 0) (fun _ => 0)
      case atStart => rfl
      case round =>
        subst hrel
        go_wp2
        go_ret
        exact ⟨rfl, Below.refl _ _⟩
    · rcases h2 with ⟨rfl, p, c, rfl⟩ | ⟨b2, off2, cap2, rfl, h02, hc2, hm2, hb2, hcell2⟩
      · simp at hlen; subst hlen; simp at h0
      · have hl : (((xs.length : Nat) : Int) != ((ys.length : Nat) : Int)) = false := by rw [hlen]; simp
        have HL : Hid (xs.length = ys.length) := hlen
        clear hlen
        go_enter Tryz.func37, Tryz.ntmps37
        go_wp2
        go_loopw [13] (fun i wr => ∃ k : Nat, k ≤ xs.length ∧ i = .int .i64 k ∧ Hid (xs.take k = ys.take k) ∧ Below w.heap.size w wr) (fun i _ => xs.length - (intOf i).toNat)
        case atStart => exact ⟨0, by omega, rfl, by simp [Hid], Below.refl _ _⟩
        case round =>
          obtain ⟨k, hk, rfl, ht, hbw⟩ := hrel
          by_cases hlt : k < xs.length
          · have hlt2 : k < ys.length := by have := HL.out; omega
            obtain ⟨x, hx, hcx⟩ := cellAt hcell hlt
            obtain ⟨y, hy, hcy⟩ := cellAt hcell2 hlt2
            have gx : wr.cell? ⟨b, off + k, none⟩ = some (.int .i64 x) := (hbw.cell (by exact hb)).trans hcx
            have gy : wr.cell? ⟨b2, off2 + k, none⟩ = some (.int .i64 y) := (hbw.cell (by exact hb2)).trans hcy
            clear hcx hcy hcell hcell2
            by_cases hxy : x = y
            · subst hxy
              go_wp2
              go_region
              all_goals
                go_wp2
                go_roundw
                case rel => exact ⟨k + 1, by omega, by go_num, take_eq_snoc ht.out hlt hlt2 (by rw [hx.out, hy.out]), by first | exact hbw | exact hbw.drew | exact hbw.drew.drew⟩
                case measure => simp [intOf]; omega
            · have hne : (x != y) = true := by simpa using hxy
              have HXY : Hid (¬ x = y) := hxy
              clear hxy
              go_wp2
              go_region
              all_goals
                go_wp2
                go_ret
                refine ⟨ret_bool ?_, by first | exact hbw | exact hbw.drew | exact hbw.drew.drew⟩
                symm
                rw [decide_eq_false_iff_not]
                intro e
                exact HXY.out (by rw [← hx.out, ← hy.out, e])
          · clear hcell hcell2
            go_wp2
            go_ret
            refine ⟨ret_bool ?_, hbw⟩
            symm
            rw [decide_eq_true_iff]
            have h3 := ht.out
            have h4 := HL.out
            rwa [List.take_of_length_le (by omega), List.take_of_length_le (by omega)] at h3
  · obtain ⟨p1, c1, rfl⟩ := h1.form
    obtain ⟨p2, c2, rfl⟩ := h2.form
    have hl : (((xs.length : Nat) : Int) != ((ys.length : Nat) : Int)) = true := by rw [bne_iff_ne]; omega
    have hd : decide (xs = ys) = false := by rw [decide_eq_false_iff_not]; intro e; exact hlen (by rw [e])
    clear hlen h1 h2
    go_enter Tryz.func37, Tryz.ntmps37
    go_wp2
    go_ret
    exact ⟨ret_bool hd.symm, Below.refl _ _⟩

end Go.Proofs.YtfngadfkopfhcaaGreatDoor

/- Contracts: slices.Equal, method.Mirrored. -/
namespace Go.Proofs.YtfngadfkopfhcaaGreatDoor
open Go.RowKit

/-- Are lists, but for the last one, the same from the back? -/
def Mir (css : List (List Int)) : Prop := ∀ i, i < css.length - 1 → css.getD i [] = css.getD (css.length - 2 - i) []

theorem ret_b0 {a b : Bool} (h : a = b) : Ending.returned (.tuple #[.bool a, .int .i64 0]) = .returned (.tuple #[.bool b, .int .i64 0]) := by rw [h]

set_option maxRecDepth 20000 in
set_option maxHeartbeats 4000000 in
theorem mirrored_ok (s : ByteArray) (n : Nat) (v : Value) (css : List (List Int)) (w : World) (hs : s.size ≤ 9223372036854775807) (hn : nm s = true) (h1 : 2 ≤ n) (h2 : n ≤ 12) (hl1 : 1 ≤ css.length) (hl2 : css.length ≤ 200) (hv : IntsAll w v css)
    (hok : ∀ k, k < css.length → okc n 0 (css.getD k []) = true) :
    Calls Tryz.prog 12 #[meth s n v] w fun e w' => ∃ b : Bool, (b = true ↔ Mir css) ∧ e = .returned (.tuple #[.bool b, .int .i64 0]) ∧ Below w.heap.size w w' := by
  have HC := hide (fun W (hb : Below w.heap.size w W) => mcheck_ok s n v css W hs hn h1 h2 hl1 hl2 (hv.below hb) hok)
  obtain ⟨b, off, cap, hve, hbl, hc1, hc2, hcell⟩ := hv.cell (by omega)
  subst hve
  have HCE := hide hcell
  clear hn hv hcell hok
  unfold meth at HC ⊢
  go_enter Tryz.func12, Tryz.ntmps12
  go_wp2_with fail
  refine (HC.out _ ((Below.refl _ _).alloc (Nat.le_refl _) _)).mono ?_
  rintro e w1 ⟨rfl, hb1⟩
  have hB : Below w.heap.size w w1 := ((Below.refl _ _).alloc (Nat.le_refl _) _).trans (hb1.mono (by simp))
  have hx := (Box.start w s n (.slice (some ⟨b, off, none⟩) css.length cap) 24).below hb1
  have g2 := hx.c2
  clear hb1 HC hx
  obtain ⟨L, hL⟩ : ∃ L, css.length = L + 1 := ⟨css.length - 1, by omega⟩
  have HL := hide hL
  rw [hL] at g2 HCE hc1 hl2
  clear hL
  go_wp2_with fail
  go_loopw [22] (fun i wr => ∃ k : Nat, k ≤ L ∧ i = .int .i64 k ∧ Hid (∀ j, j < k → css.getD j [] = css.getD (L - 1 - j) []) ∧ Below w1.heap.size w1 wr) (fun i _ => L - (intOf i).toNat)
  case atStart => exact ⟨0, by omega, rfl, (fun j hj => by omega), Below.refl _ _⟩
  case round =>
    obtain ⟨k, hk, rfl, hall, hbw⟩ := hrel
    have hB2 := hB.trans (hbw.mono hB.size)
    clear g2
    by_cases hlt : k < L
    · obtain ⟨p1, c1, hcx, hix⟩ := HCE.out k (by omega)
      obtain ⟨p2, c2, hcy, hiy⟩ := HCE.out (L - 1 - k) (by omega)
      have gx := (hB2.cell (p := ⟨b, off + k, none⟩) (by exact hbl)).trans hcx
      have gy := (hB2.cell (p := ⟨b, off + (L - 1 - k), none⟩) (by exact hbl)).trans hcy
      have HE := hide (equal_any _ _ _ _ wr (hix.out.below hB2) (hiy.out.below hB2))
      have hme : (L : Int) - 1 - (k : Int) = ((L - 1 - k : Nat) : Int) := by omega
      have hmL : L - 1 - k < L := by omega
      have HST : Hid (css.getD k [] = css.getD (L - 1 - k) [] → ∀ j, j < k + 1 → css.getD j [] = css.getD (L - 1 - j) []) := by
        intro he j hj
        by_cases e : j = k
        · subst e; exact he
        · exact hall.out j (by omega)
      have HNO : Hid (¬ css.getD k [] = css.getD (L - 1 - k) [] → ¬ Mir css) := by
        intro he hm
        have := hm k (by rw [HL.out]; omega)
        rw [HL.out] at this
        exact he (by rw [this]; congr 1)
      generalize L - 1 - k = m at *
      generalize css.getD k [] = X at *
      generalize css.getD m [] = Y at *
      generalize hXl : X.length = XL at *
      generalize hYl : Y.length = YL at *
      clear hcx hcy hix hiy hXl hYl
      by_cases hxy : X = Y
      · rw [decide_eq_true hxy] at HE
        have HS2 := hide (HST.out hxy)
        clear hxy HST HNO
        go_wp2_with fail
        refine HE.out.mono ?_
        rintro e w2 ⟨rfl, hb2⟩
        have hB3 := hbw.trans (hb2.mono hbw.size)
        clear hb2 HE
        go_wp2
        go_roundw
        case rel => exact ⟨k + 1, by omega, by go_num, HS2, hB3⟩
        case measure => simp [intOf]; omega
      · rw [decide_eq_false hxy] at HE
        have HS2 := hide (HNO.out hxy)
        clear hxy HST HNO
        go_wp2_with fail
        refine HE.out.mono ?_
        rintro e w2 ⟨rfl, hb2⟩
        have hB3 := hB2.trans (hb2.mono hB2.size)
        clear hb2 HE
        go_wp2
        go_ret2
        exact ⟨false, ⟨fun h => (by cases h), fun h => absurd h HS2.out⟩, rfl, hB3⟩
    · obtain rfl : L = k := by omega
      have HM : Hid (Mir css) := by
        intro i hi
        rw [HL.out] at hi ⊢
        have := hall.out i (by omega)
        rw [this]
        congr 1
      go_wp2
      go_ret2
      exact ⟨true, ⟨fun _ => HM.out, fun _ => rfl⟩, rfl, hB2⟩

end Go.Proofs.YtfngadfkopfhcaaGreatDoor

/- Plain: what is mirrored comes back. Memory: a list that grows behind another header of it, in a struct. -/
namespace Go.Proofs.YtfngadfkopfhcaaGreatDoor
open Go.RowKit

theorem by_rnd_left {n : Nat} {X : List Int} (h : ∀ y ∈ X, 0 ≤ y ∧ y < (n : Nat)) : by_ (rnd n) X = X := by
  unfold by_
  conv => rhs; rw [← List.map_id X]
  apply List.map_congr_left
  intro y hy
  have := h y hy
  rw [rnd_get (by omega)]
  show _ = y
  omega

theorem by_rnd_right {X : List Int} : by_ X (rnd X.length) = X := by
  refine ext_getD (by rw [by_length, rnd_length]) (fun j hj => ?_)
  rw [by_length, rnd_length] at hj
  rw [by_get (by rw [rnd_length]; exact hj), rnd_get hj, Int.toNat_natCast]

theorem fold_by (n : Nat) : ∀ (ts : List (List Bool)) (r : List Int), r.length = n → (∀ t, t ∈ ts → tsz t = n) → ts.foldl (fun r t => by_ r (trow t)) r = by_ r (prd n ts)
  | [], r, hr, _ => by show r = by_ r (rnd n); rw [← hr, by_rnd_right]
  | t :: ts, r, hr, h => by
    have ht : tsz t = n := h t (by simp)
    have hs : ∀ t', t' ∈ ts → tsz t' = n := fun t' ht' => h t' (List.mem_cons_of_mem _ ht')
    have hp := prd_row n ts hs
    have e1 : (t :: ts).foldl (fun r t => by_ r (trow t)) r = by_ (by_ r (trow t)) (prd n ts) := fold_by n ts _ (by rw [by_length, trow_length, ht]) hs
    have e2 : prd n (t :: ts) = by_ (by_ (rnd n) (trow t)) (prd n ts) := fold_by n ts _ (by rw [by_length, trow_length, ht]) hs
    rw [e1, e2, by_rnd_left (fun y hy => by rw [← ht]; exact trow_mem t y hy), by_assoc hp.1 (by rw [hp.2, trow_length, ht])]

theorem prd_cons {n : Nat} {t : List Bool} {ts : List (List Bool)} (ht : tsz t = n) (h : ∀ t, t ∈ ts → tsz t = n) : prd n (t :: ts) = by_ (trow t) (prd n ts) := by
  have e2 : prd n (t :: ts) = by_ (by_ (rnd n) (trow t)) (prd n ts) := fold_by n ts _ (by rw [by_length, trow_length, ht]) h
  rw [e2, by_rnd_left (fun y hy => by rw [← ht]; exact trow_mem t y hy)]

theorem prd_rev (n : Nat) : ∀ (ts : List (List Bool)), (∀ t, t ∈ ts → tsz t = n) → by_ (prd n ts) (prd n ts.reverse) = rnd n
  | [], _ => by
    show by_ (rnd n) (rnd n) = rnd n
    have := by_rnd_right (X := rnd n)
    rwa [rnd_length] at this
  | t :: ts, h => by
    have ht : tsz t = n := h t (by simp)
    have hs : ∀ t', t' ∈ ts → tsz t' = n := fun t' ht' => h t' (List.mem_cons_of_mem _ ht')
    have hsr : ∀ t', t' ∈ ts.reverse → tsz t' = n := fun t' ht' => hs t' (by simpa using ht')
    have ih := prd_rev n ts hs
    have hA := prd_row n ts hs
    have hB := prd_row n ts.reverse hsr
    have hBT := isRow_by hB.1 (trow_row t) (by rw [trow_length, ht, hB.2])
    rw [List.reverse_cons, prd_snoc, prd_cons ht hs, by_assoc hBT (by rw [by_length, trow_length, ht, hA.2]), ← by_assoc (trow_row t) (by rw [trow_length, ht, hB.2]), ih,
      by_rnd_left (fun y hy => by rw [← ht]; exact trow_mem t y hy), trow_twice, ht]

/-- There, and back but for the turn. -/
def pal (ts : List (List Bool)) : List (List Bool) := ts ++ ts.dropLast.reverse

theorem pal_rev {ts : List (List Bool)} (h : 1 ≤ ts.length) : (pal ts).reverse = pal ts := by
  obtain ⟨dl, c, rfl⟩ : ∃ dl c, ts = dl ++ [c] := by
    rcases List.eq_nil_or_concat ts with rfl | ⟨l, b, rfl⟩
    · simp at h
    · exact ⟨l, b, by simp⟩
  simp [pal]

theorem pal_mem {n : Nat} {ts : List (List Bool)} (h : ∀ t, t ∈ ts → tsz t = n) : ∀ t, t ∈ pal ts → tsz t = n := by
  intro t ht
  rcases List.mem_append.1 ht with h' | h'
  · exact h t h'
  · exact h t ((List.dropLast_sublist ts).subset (by simpa using h'))

theorem pal_length {ts : List (List Bool)} (h : 1 ≤ ts.length) : (pal ts).length = 2 * ts.length - 1 := by
  simp [pal]; omega

theorem pal_twice {n : Nat} {ts : List (List Bool)} (hl : 1 ≤ ts.length) (h : ∀ t, t ∈ ts → tsz t = n) : by_ (prd n (pal ts)) (prd n (pal ts)) = rnd n := by
  have := prd_rev n (pal ts) (pal_mem h)
  rwa [pal_rev hl] at this

theorem pal_mir {ts : List (List Bool)} (hl : 1 ≤ ts.length) (q : List Bool) : Mir ((pal ts ++ [q]).map tpl) := by
  intro i hi
  have hlen : ((pal ts ++ [q]).map tpl).length = (pal ts).length + 1 := by simp
  rw [hlen] at hi ⊢
  have hi' : i < (pal ts).length := by omega
  have hk : (pal ts).length + 1 - 2 - i < (pal ts).length := by omega
  have e : (pal ts)[i] = (pal ts)[(pal ts).length + 1 - 2 - i] := by
    have h1 : (pal ts).reverse[i]'(by rw [List.length_reverse]; exact hi') = (pal ts)[(pal ts).length - 1 - i] := by rw [List.getElem_reverse]
    have h2 : (pal ts).reverse[i]'(by rw [List.length_reverse]; exact hi') = (pal ts)[i] := by
      congr 1
      exact pal_rev hl
    rw [← h2, h1]
    congr 1
  have g : ∀ k (hk : k < (pal ts).length), ((pal ts ++ [q]).map tpl).getD k [] = tpl (pal ts)[k] := by
    intro k hk
    rw [List.map_append]
    simp only [List.getD]
    rw [List.getElem?_append_left (by simpa using hk), List.getElem?_map, List.getElem?_eq_getElem hk]
    rfl
  rw [g i hi', g _ hk, e]

/-- The changes so far, when the next one to be told back is the d-th. -/
def sofar (ts : List (List Bool)) (d : Nat) : List (List Bool) := ts ++ (ts.dropLast.drop d).reverse

theorem sofar_start (ts : List (List Bool)) : sofar ts (ts.length - 1) = ts := by
  unfold sofar; rw [List.drop_of_length_le (by simp)]; simp

theorem sofar_end (ts : List (List Bool)) : sofar ts 0 = pal ts := by unfold sofar pal; simp

theorem sofar_step {ts : List (List Bool)} {d : Nat} (h : d < ts.length - 1) : sofar ts d = sofar ts (d + 1) ++ [ts[d]'(by omega)] := by
  have hd : d < ts.dropLast.length := by simp; omega
  unfold sofar
  rw [List.drop_eq_getElem_cons hd, List.reverse_cons, List.append_assoc, List.getElem_dropLast]

/-! memory -/

theorem owns_ne_ty {w : World} {base e n B : Nat} {v : Value} {xs : List Value} {c : Array Value} {t : TypeId} (h : w.ownsRow base e 1 v n xs) (hB : w.heap[B]? = some (.cells c t)) (hne : t ≠ e) : v.ownBlock ≠ some B := by
  rcases h.2 with ⟨rfl, _⟩ | ⟨g, cap, cur, rfl, _, hh, _⟩
  · intro h; cases h
  · intro h
    have e1 : g = B := Option.some.inj h
    subst e1
    rw [hB] at hh
    injection hh with hh
    injection hh with _ h2
    exact hne h2

theorem owns_set_other {w : World} {base e n B j : Nat} {v x : Value} {xs : List Value} (h : w.ownsRow base e 1 v n xs) (hne : v.ownBlock ≠ some B) : (w.setCell ⟨B, j, none⟩ x).ownsRow base e 1 v n xs := by
  refine ⟨h.1, ?_⟩
  rcases h.2 with h2 | ⟨g, cap, cur, rfl, hg, hh, r⟩
  · exact Or.inl h2
  · refine Or.inr ⟨g, cap, cur, rfl, hg, ?_, r⟩
    have : B ≠ g := fun e => hne (by rw [e]; rfl)
    simp [World.setCell, Array.getElem?_modify, this, hh]

/-- What the loop of TopMirror knows. -/
structure MirRel (w wr : World) (B n : Nat) (s : ByteArray) (g H : Nat) (vs : List Value) (u : Value) (us : List Value) (qs : List (List Bool)) : Prop where
  box : wr.heap[B]? = some (.cells #[.string s, .int .i64 n, u] 24)
  ll : LL wr w.heap.size u us (qs.map tpl)
  pre : us.take H = vs
  cells : ∀ j, j < H → wr.cell? ⟨g, j, none⟩ = some (vs.getD j undef)
  glt : g < wr.heap.size
  gty : ∃ cur, wr.heap[g]? = some (.cells cur 30)
  below : Below w.heap.size w wr

theorem MirRel.later {w wr w' : World} {B n : Nat} {s : ByteArray} {g H : Nat} {vs : List Value} {u : Value} {us : List Value} {qs : List (List Bool)} (h : MirRel w wr B n s g H vs u us qs) (hb : Below wr.heap.size wr w') : MirRel w w' B n s g H vs u us qs := by
  have hBl : B < wr.heap.size := (Array.getElem?_eq_some_iff.1 h.box).1
  obtain ⟨cur, hc⟩ := h.gty
  exact ⟨(hb.block B hBl).trans h.box, h.ll.below hb, h.pre, fun j hj => (hb.cell (p := ⟨g, j, none⟩) h.glt).trans (h.cells j hj), Nat.lt_of_lt_of_le h.glt hb.size, ⟨cur, (hb.block g h.glt).trans hc⟩, h.below.trans (hb.mono h.below.size)⟩

/-- One more list behind. -/
theorem MirRel.step {w wr w5 : World} {B n : Nat} {s : ByteArray} {g H : Nat} {vs : List Value} {u v' x : Value} {us : List Value} {qs : List (List Bool)} {t : List Bool} (h : MirRel w wr B n s g H vs u us qs) (hB : w.heap.size ≤ B) (hH : H ≤ us.length)
    (hx : wr.ownsRow w.heap.size 3 1 x (tpl t).length ((tpl t).map (Value.int .i64)))
    (hown : w5.ownsRow w.heap.size 30 1 v' (us.length + 1) (us ++ [x])) (hg : wr.grownBy w5 u.ownBlock) (hk : v'.ownBlock = u.ownBlock ∨ (v'.ownBlock = some wr.heap.size ∧ wr.grownBy w5 none)) :
    MirRel w (w5.setCell ⟨B, 2, none⟩ v') B n s g H vs v' (us ++ [x]) (qs ++ [t]) ∧ w5.heap[B]? = some (.cells #[.string s, .int .i64 n, u] 24) := by
  have hBl : B < wr.heap.size := (Array.getElem?_eq_some_iff.1 h.box).1
  have hnB : u.ownBlock ≠ some B := owns_ne_ty h.ll.row h.box (by decide)
  have hbox : w5.heap[B]? = some (.cells #[.string s, .int .i64 n, u] 24) := (hg.block B hBl (fun e => hnB e.symm)).trans h.box
  have hnB' : v'.ownBlock ≠ some B := owns_ne_ty hown hbox (by decide)
  obtain ⟨cur, hcur⟩ := h.gty
  have hgB : g ≠ B := by
    intro e
    subst e
    rw [h.box] at hcur
    injection hcur with hcur
    injection hcur with _ h2
    exact absurd h2 (by decide)
  -- the block of the first header
  have hgt : ∃ cur', w5.heap[g]? = some (.cells cur' 30) := by
    by_cases e : u.ownBlock = some g
    · rcases hk with hk | ⟨_, hk⟩
      · rcases hown.2 with ⟨rfl, _⟩ | ⟨g', cap', cur', rfl, _, hh, _⟩
        · rw [← hk] at e; cases e
        · have : g' = g := by rw [← hk] at e; exact Option.some.inj e
          subst this
          exact ⟨cur', hh⟩
      · exact ⟨cur, (hk.block g h.glt (by simp)).trans hcur⟩
    · exact ⟨cur, (hg.block g h.glt (fun e' => e e'.symm)).trans hcur⟩
  have hgl5 : g < w5.heap.size := Nat.lt_of_lt_of_le h.glt hg.size
  have hcells : ∀ j, j < H → w5.cell? ⟨g, j, none⟩ = some (vs.getD j undef) := by
    intro j hj
    by_cases e : u.ownBlock = some g
    · rcases hk with hk | ⟨_, hk⟩
      · have h1 := hown.cells (g := g) (hk.trans e) j (us.getD j undef) (by rw [List.getElem?_append_left (by omega)]; simp [List.getD, List.getElem?_eq_getElem (show j < us.length by omega)])
        rw [Addr.add_lit, Nat.zero_add] at h1
        rw [h1, ← h.pre]
        simp [List.getD, hj]
      · exact (World.cell?_of_block (w := wr) (a := ⟨g, j, none⟩) (hk.block g h.glt (by simp))).trans (h.cells j hj)
    · exact (World.cell?_of_block (w := wr) (a := ⟨g, j, none⟩) (hg.block g h.glt (fun e' => e e'.symm))).trans (h.cells j hj)
  have hll : LL w5 w.heap.size v' (us ++ [x]) ((qs ++ [t]).map tpl) := by
    rw [List.map_append]
    exact ⟨by rw [List.length_append]; exact hown, OwnAll.snoc (owns_kept_ty hx h.ll.row hg) (h.ll.all.mono (fun _ _ _ h' => owns_kept_ty h' h.ll.row hg))⟩
  refine ⟨⟨?_, ⟨owns_set_other hll.row hnB', hll.all.mono (fun _ _ _ h' => owns_set_other h' (owns_ne_ty h' hbox (by decide)))⟩, ?_, ?_, by simp [World.setCell]; exact hgl5, ?_, ?_⟩, hbox⟩
  · simp [World.setCell, Array.getElem?_modify, hbox]
  · rw [List.take_append_of_le_length hH]; exact h.pre
  · intro j hj
    rw [World.cell?_setCell_other _ _ _ _ (by intro e; simp only [Addr.mk.injEq] at e; exact hgB e.1.symm)]
    exact hcells j hj
  · obtain ⟨c', hc'⟩ := hgt
    exact ⟨c', by simp [World.setCell, Array.getElem?_modify, hgB.symm, hc']⟩
  · have hb5 : Below w.heap.size w w5 := h.below.grown hg h.below.size (fun g' hg' => (h.ll.row.lt g' hg').1)
    exact hb5.setCell (by exact hB) _

end Go.Proofs.YtfngadfkopfhcaaGreatDoor

/- Plain: the rows of a touch are its leads' heads, changed by the rows of the first lead. -/
namespace Go.Proofs.YtfngadfkopfhcaaGreatDoor
open Go.RowKit

theorem touchRows_snoc (Hs P : List (List Int)) (h : List Int) : touchRows (Hs ++ [h]) P = touchRows Hs P ++ P.map (fun p => by_ h p) := by
  simp [touchRows, List.flatMap_append]

theorem take_more {α : Type} (T : List α) (a K : Nat) : T.take (a + K) = T.take a ++ (T.drop a).take K := by
  rw [List.take_add]

theorem prd_append {n : Nat} (a b : List (List Bool)) (ha : ∀ t, t ∈ a → tsz t = n) (hb : ∀ t, t ∈ b → tsz t = n) : prd n (a ++ b) = by_ (prd n a) (prd n b) := by
  rw [← fold_by n b (prd n a) (prd_row n a ha).2 hb]
  simp [prd, List.foldl_append]

/-- The rows of a touch whose leads have all changes but the last in common. -/
theorem touch_rows {n N K : Nat} {ts F : List (List Bool)} (hK : 1 ≤ K) (hts : ts.length = K) (hF : F.length = N * K)
    (hFn : ∀ t, t ∈ F → tsz t = n) (htn : ∀ t, t ∈ ts → tsz t = n) (hd : ∀ m q, m < N → q < K → (F.drop (m * K)).take q = ts.take q) :
    ∀ m, m ≤ N → (leadTo n F (N * K)).take (m * K) = touchRows (headsOf (leadTo n F (N * K)) K m) (ldr n ts)
  | 0, _ => by simp [headsOf, touchRows]
  | m + 1, hm => by
    have ih := touch_rows hK hts hF hFn htn hd m (by omega)
    rw [headsOf_snoc, touchRows_snoc, ← ih, Nat.succ_mul, take_more]
    congr 1
    have hmK : m * K + K ≤ N * K := by rw [← Nat.succ_mul]; exact Nat.mul_le_mul_right _ hm
    refine List.ext_getElem (by simp [leadTo_length, ldr_length, hts]; omega) (fun q h1 h2 => ?_)
    have hq : q < K := by rw [List.length_take] at h1; omega
    rw [List.getElem_take, List.getElem_drop, List.getElem_map]
    have g1 := leadTo_get (n := n) (ts := F) (k := N * K) (j := m * K + q) (by omega)
    have g2 := leadTo_get (n := n) (ts := F) (k := N * K) (j := m * K) (by omega)
    have g3 := leadTo_get (n := n) (ts := ts) (k := ts.length) (j := q) (by omega)
    have l1 : m * K + q < (leadTo n F (N * K)).length := by rw [leadTo_length]; omega
    have l3 : q < (leadTo n ts ts.length).length := by rw [leadTo_length]; omega
    rw [List.getD_eq_getElem?_getD, List.getElem?_eq_getElem l1, Option.getD_some] at g1
    rw [List.getD_eq_getElem?_getD, List.getElem?_eq_getElem l3, Option.getD_some] at g3
    have e3 : (ldr n ts)[q]'(by rw [ldr_length]; omega) = prd n (ts.take q) := by
      rw [← g3]
      simp [ldr]
    rw [g1, e3, g2, take_more, hd m q (by omega) hq]
    exact prd_append _ _ (fun t ht => hFn t (List.mem_of_mem_take ht)) (fun t ht => htn t (List.mem_of_mem_take ht))

/-- Where a lead's changes lie among all. -/
theorem flat_drop {α : Type} {K : Nat} : ∀ (G : List (List α)) (m : Nat), (∀ g, g ∈ G → g.length = K) → (h : m < G.length) → (G.flatten).drop (m * K) = G[m] ++ (G.drop (m + 1)).flatten
  | [], m, _, h => by simp at h
  | g :: G, 0, _, _ => by simp
  | g :: G, m + 1, hg, h => by
    have hl : g.length = K := hg g (by simp)
    have ih := flat_drop G m (fun g' h' => hg g' (List.mem_cons_of_mem _ h')) (by simpa using h)
    rw [List.flatten_cons, Nat.succ_mul, Nat.add_comm, ← List.drop_drop, List.drop_append_of_le_length (by omega), ← hl, List.drop_length, List.nil_append, hl, ih]
    rfl

theorem flat_length {α : Type} {K : Nat} : ∀ (G : List (List α)), (∀ g, g ∈ G → g.length = K) → G.flatten.length = G.length * K
  | [], _ => by simp
  | g :: G, hg => by
    rw [List.flatten_cons, List.length_append, flat_length G (fun g' h' => hg g' (List.mem_cons_of_mem _ h')), hg g (by simp), List.length_cons, Nat.succ_mul, Nat.add_comm]

end Go.Proofs.YtfngadfkopfhcaaGreatDoor

/- Contract: the answer's CallsOf. -/
namespace Go.Proofs.YtfngadfkopfhcaaGreatDoor
open Go.RowKit

/-- A call in the making: its sign, its changes as a value, and as lists. -/
structure Ce where
  sign : Int
  val : Value
  chs : List (List Int)

def ceCells (es : List Ce) : List Value := es.flatMap (fun e => [.int .i32 e.sign, e.val])

theorem ceCells_length (es : List Ce) : (ceCells es).length = es.length * 2 := by
  unfold ceCells
  rw [List.length_flatMap]
  show (es.map (fun _ => 2)).sum = _
  exact sum_const 2 es

theorem ceCells_snoc (es : List Ce) (e : Ce) : ceCells (es ++ [e]) = ceCells es ++ [.int .i32 e.sign, e.val] := by simp [ceCells, List.flatMap_append]

def sgnOf (k : Nat) : Int := if k = 0 then 112 else 97 + k

/-- What is known of calls that were made. -/
structure Cok (n : Nat) (w : World) (base : Nat) (es : List Ce) : Prop where
  ll : ∀ e, e ∈ es → ∃ vs, LL w base e.val vs e.chs
  sign : ∀ k, k < es.length → (es.getD k ⟨0, undef, []⟩).sign = sgnOf k
  few : ∀ e, e ∈ es → e.chs.length ≤ 1
  ok : ∀ e, e ∈ es → ∀ j, j < e.chs.length → okc n 0 (e.chs.getD j []) = true

theorem Cok.snoc {n : Nat} {w : World} {base : Nat} {es : List Ce} (h : Cok n w base es) (e : Ce) (h1 : ∃ vs, LL w base e.val vs e.chs) (h2 : e.sign = sgnOf es.length) (h3 : e.chs.length ≤ 1) (h4 : ∀ j, j < e.chs.length → okc n 0 (e.chs.getD j []) = true) : Cok n w base (es ++ [e]) := by
  refine ⟨fun x hx => ?_, fun k hk => ?_, fun x hx => ?_, fun x hx => ?_⟩
  · rcases List.mem_append.1 hx with hx | hx
    · exact h.ll x hx
    · rw [List.mem_singleton] at hx; rw [hx]; exact h1
  · rw [List.length_append] at hk
    by_cases hlt : k < es.length
    · rw [List.getD_eq_getElem?_getD, List.getElem?_append_left hlt, ← List.getD_eq_getElem?_getD]
      exact h.sign k hlt
    · have : k = es.length := by simp at hk; omega
      subst this
      rw [List.getD_eq_getElem?_getD, List.getElem?_append_right (Nat.le_refl _), Nat.sub_self]
      exact h2
  · rcases List.mem_append.1 hx with hx | hx
    · exact h.few x hx
    · rw [List.mem_singleton] at hx; rw [hx]; exact h3
  · rcases List.mem_append.1 hx with hx | hx
    · exact h.ok x hx
    · rw [List.mem_singleton] at hx; rw [hx]; exact h4

theorem Cok.mono {n : Nat} {w w' : World} {base : Nat} {es : List Ce} (h : Cok n w base es) (hm : ∀ v vs xss, LL w base v vs xss → LL w' base v vs xss) : Cok n w' base es :=
  ⟨fun e he => by obtain ⟨vs, h1⟩ := h.ll e he; exact ⟨vs, hm _ _ _ h1⟩, h.sign, h.few, h.ok⟩

/-- As calls. -/
def ceCalls (es : List Ce) : List (Int × List (List Int)) := es.map (fun e => (e.sign, e.chs))

end Go.Proofs.YtfngadfkopfhcaaGreatDoor

/- Contract: the answer's CallsOf. -/
namespace Go.Proofs.YtfngadfkopfhcaaGreatDoor
open Go.RowKit

theorem owns_sl {w : World} {base e size n : Nat} {v : Value} {xs : List Value} (h : w.ownsRow base e size v n xs) : ∃ p c, v = .slice p n c := by
  rcases h.2 with ⟨h1, h2⟩ | ⟨g, cap, cur, h1, _⟩
  · exact ⟨none, 0, by rw [h1, h2]⟩
  · exact ⟨_, cap, h1⟩

theorem owns_later {w w' : World} {base e size n : Nat} {v : Value} {xs : List Value} (h : w.ownsRow base e size v n xs) (hb : Below w.heap.size w w') : w'.ownsRow base e size v n xs := by
  refine ⟨h.1, ?_⟩
  rcases h.2 with h2 | ⟨g, cap, cur, hv, hg, hh, r⟩
  · exact Or.inl h2
  · exact Or.inr ⟨g, cap, cur, hv, hg, (hb.block g (Array.getElem?_eq_some_iff.1 hh).1).trans hh, r⟩

/-- A row of another type is not touched by a growing one. -/
theorem owns_call {w w' : World} {base e size n e2 s2 n2 b2 : Nat} {v v2 : Value} {xs xs2 : List Value} (h : w.ownsRow base e size v n xs) (h2 : w.ownsRow b2 e2 s2 v2 n2 xs2) (hg : w.grownBy w' v2.ownBlock) (hne : e ≠ e2) : w'.ownsRow base e size v n xs := by
  refine ⟨h.1, ?_⟩
  rcases h.2 with h3 | ⟨g, cap, cur, hv, hgb, hh, r⟩
  · exact Or.inl h3
  · refine Or.inr ⟨g, cap, cur, hv, hgb, ?_, r⟩
    rw [hg.block g (Array.getElem?_eq_some_iff.1 hh).1 (fun e' => ?_)]
    · exact hh
    · rcases h2.2 with ⟨h4, _⟩ | ⟨g2, cap2, cur2, hv2, _, hh2, _⟩
      · rw [h4] at e'; cases e'
      · rw [hv2] at e'
        have e3 : g2 = g := by cases e'; rfl
        rw [e3, hh] at hh2
        injection hh2 with hh3
        injection hh3 with _ hh4 _
        exact hne hh4

theorem tile_one {n : Nat} {ts : List (List Bool)} (h : ∀ t, t ∈ ts → tsz t = n) : ∀ j, j < (ts.map tpl).length → okc n 0 ((ts.map tpl).getD j []) = true := by
  intro j hj
  have hj' : j < ts.length := by simpa using hj
  have e : (ts.map tpl).getD j [] = tpl ts[j] := by simp [List.getD, hj']
  rw [e]
  exact (okc_iff n _).2 ⟨ts[j], h _ (List.getElem_mem hj'), rfl⟩

end Go.Proofs.YtfngadfkopfhcaaGreatDoor

/- Contract: call.Rows. -/
namespace Go.Proofs.YtfngadfkopfhcaaGreatDoor
open Go.RowKit

theorem Tryz.info22 : (Tryz.prog.info? 22).map (fun i => (i.zero, i.size, i.bytes)) = some (some (.slice none 0 0), 1, 24) := by kernel_rfl

/-- The leads of the calls, as rows. -/
structure LLL (ts : List (List Bool)) (SS : List (List (List Bool))) (w : World) (base : Nat) (v : Value) (us : List Value) : Prop where
  row : w.ownsRow base 22 1 v us.length us
  all : ∀ k, k < us.length → ∃ vs, LL w base (us.getD k undef) vs ((calledBy ts (SS.getD k [])).map trow)

theorem LLL.nil (ts : List (List Bool)) (SS : List (List (List Bool))) (w : World) (base : Nat) : LLL ts SS w base (.slice none 0 0) [] := ⟨World.ownsRow_nil _ _ _ _, fun k hk => by simp at hk⟩

theorem LLL.below {ts : List (List Bool)} {SS : List (List (List Bool))} {w w' : World} {base : Nat} {v : Value} {us : List Value} (h : LLL ts SS w base v us) (hb : Below w.heap.size w w') : LLL ts SS w' base v us :=
  ⟨owns_below h.row hb (Nat.le_refl _), fun k hk => by obtain ⟨vs, hv⟩ := h.all k hk; exact ⟨vs, hv.below hb⟩⟩

theorem LLL.push {ts : List (List Bool)} {SS : List (List (List Bool))} {w w4 : World} {base : Nat} {v v' u : Value} {us vs : List Value} {o : Obj} (h : LLL ts SS w base v us) (hu : LL w base u vs ((calledBy ts (SS.getD us.length [])).map trow))
    (hown : w4.ownsRow base 22 1 v' (us.length + 1) (us ++ [u])) (hg : (w.alloc o).grownBy w4 v.ownBlock) : LLL ts SS w4 base v' (us ++ [u]) := by
  have keep : ∀ {x : Value} {ys : List Value} {X : List (List Int)}, LL w base x ys X → LL w4 base x ys X := fun hx =>
    ⟨owns_call (hx.row.alloc o) (h.row.alloc o) hg (by decide), hx.all.mono (fun _ _ _ h' => owns_call (h'.alloc o) (h.row.alloc o) hg (by decide))⟩
  refine ⟨by rw [List.length_append]; exact hown, fun k hk => ?_⟩
  rw [List.length_append, List.length_singleton] at hk
  by_cases hlt : k < us.length
  · obtain ⟨ys, hy⟩ := h.all k hlt
    refine ⟨ys, ?_⟩
    rw [show (us ++ [u]).getD k undef = us.getD k undef from by simp [List.getD, List.getElem?_append_left hlt]]
    exact keep hy
  · obtain rfl : k = us.length := by omega
    refine ⟨vs, ?_⟩
    rw [show (us ++ [u]).getD us.length undef = u from by simp [List.getD]]
    exact keep hu

/-- All changes of a touch. -/
def allOf (ts : List (List Bool)) (SS : List (List (List Bool))) (ls : List Int) : List (List Bool) := (ls.map (fun l => calledBy ts (SS.getD l.toNat []))).flatten

/-- Rows in the making, and the last of them. -/
structure RR (base n : Nat) (F : List (List Bool)) (w : World) (k : Nat) (r rows : Value) (vs : List Value) : Prop where
  ll : LL w base rows vs (leadTo n F k)
  row : w.ownsRow base 3 1 r n ((prd n (F.take k)).map (Value.int .i64))

theorem flat_next {α : Type} {K : Nat} (G : List (List α)) (hG : ∀ g, g ∈ G → g.length = K) {i q : Nat} (hi : i < G.length) {g : List α} (hg : G[i] = g) (hq : q < g.length) : G.flatten.take (i * K + q + 1) = G.flatten.take (i * K + q) ++ [g[q]] := by
  have h1 := flat_drop G i hG hi
  rw [hg] at h1
  rw [Nat.add_assoc, take_more _ (i * K) (q + 1), take_more _ (i * K) q, h1, List.append_assoc, List.take_append_of_le_length (by omega), List.take_append_of_le_length (by omega), List.take_succ_eq_append_getElem hq]

end Go.Proofs.YtfngadfkopfhcaaGreatDoor

/- Plain: what the answer's calls are; the leads of a touch differ in their last change alone. -/
namespace Go.Proofs.YtfngadfkopfhcaaGreatDoor
open Go.RowKit

theorem ceCalls_get {es : List Ce} {k : Nat} (hk : k < es.length) : (ceCalls es).getD k (0, []) = (es[k].sign, es[k].chs) := by
  simp [ceCalls, List.getD, hk]

theorem Cok.callsOk {n K : Nat} {w : World} {base : Nat} {es : List Ce} (h : Cok n w base es) (hm : es.length ≤ 8) (hK : 1 ≤ K) : CallsOk n K (ceCalls es) := by
  have hl : (ceCalls es).length = es.length := by simp [ceCalls]
  have hsg : ∀ k (hk : k < es.length), es[k].sign = sgnOf k := fun k hk => by
    have := h.sign k hk
    rwa [List.getD_eq_getElem?_getD, List.getElem?_eq_getElem hk, Option.getD_some] at this
  refine ⟨fun j hj => ?_, fun i j hij hj => ?_, fun j hj => ?_, fun j hj q hq => ?_⟩
  · rw [hl] at hj
    rw [ceCalls_get hj]
    show sgnR es[j].sign = true
    rw [hsg j hj]; refine sgn_letter ?_; unfold sgnOf; split <;> omega
  · rw [hl] at hj
    rw [ceCalls_get hj, ceCalls_get (show i < es.length by omega)]
    show es[i].sign ≠ es[j].sign
    rw [hsg j hj, hsg i (by omega)]; unfold sgnOf; split <;> split <;> omega
  · rw [hl] at hj
    rw [ceCalls_get hj]
    exact Nat.le_trans (h.few _ (List.getElem_mem hj)) hK
  · rw [hl] at hj
    rw [ceCalls_get hj] at hq ⊢
    exact h.ok _ (List.getElem_mem hj) q hq

theorem tiles_of {n : Nat} : ∀ (X : List (List Int)), (∀ j, j < X.length → okc n 0 (X.getD j []) = true) → ∃ ss : List (List Bool), X = ss.map tpl ∧ ∀ t, t ∈ ss → tsz t = n
  | [], _ => ⟨[], rfl, fun t ht => by cases ht⟩
  | x :: X, h => by
    obtain ⟨t, ht1, ht2⟩ := (okc_iff n x).1 (h 0 (by simp))
    obtain ⟨ss, hs, hn⟩ := tiles_of X (fun j hj => by have := h (j + 1) (by simp; omega); simpa [List.getD] using this)
    refine ⟨t :: ss, by rw [List.map_cons, ht2, ← hs], fun t' h' => ?_⟩
    rcases List.mem_cons.1 h' with e | e
    · rw [e]; exact ht1
    · exact hn t' e

theorem tiles_all {n : Nat} : ∀ (es : List Ce), (∀ e, e ∈ es → ∀ j, j < e.chs.length → okc n 0 (e.chs.getD j []) = true) → ∃ SS : List (List (List Bool)), SS.length = es.length ∧ ∀ c (hc : c < es.length), es[c].chs = (SS.getD c []).map tpl ∧ ∀ t, t ∈ SS.getD c [] → tsz t = n
  | [], _ => ⟨[], rfl, fun c hc => by simp at hc⟩
  | e :: es, h => by
    obtain ⟨ss, h1, h2⟩ := tiles_of e.chs (h e (by simp))
    obtain ⟨SS, h3, h4⟩ := tiles_all es (fun e' h' => h e' (List.mem_cons_of_mem _ h'))
    refine ⟨ss :: SS, by simp [h3], fun c hc => ?_⟩
    cases c with
    | zero => exact ⟨h1, h2⟩
    | succ c => exact h4 c (by simpa using hc)

theorem Cok.tiles {n : Nat} {w : World} {base : Nat} {es : List Ce} (h : Cok n w base es) : ∃ SS : List (List (List Bool)), ∀ c, c < es.length → ((ceCalls es).getD c (0, [])).2 = (SS.getD c []).map tpl ∧ (∀ t, t ∈ SS.getD c [] → tsz t = n) ∧ (SS.getD c []).length ≤ 1 := by
  obtain ⟨SS, _, h2⟩ := tiles_all es h.ok
  refine ⟨SS, fun c hc => ?_⟩
  obtain ⟨h3, h4⟩ := h2 c hc
  rw [ceCalls_get hc]
  refine ⟨h3, h4, ?_⟩
  have := h.few _ (List.getElem_mem hc)
  rw [h3, List.length_map] at this
  exact this

theorem calledBy_take {ts ss : List (List Bool)} (h : ss.length ≤ 1) {q : Nat} (hq : q < ts.length) : (calledBy ts ss).take q = ts.take q := by
  unfold calledBy
  rw [List.take_append_of_le_length (by rw [List.length_take]; omega), List.take_take, Nat.min_eq_left (by omega)]

/-- The rows of a touch by calls that have at most one change, where they are called. -/
theorem touch_used {n : Nat} {ts : List (List Bool)} {SS : List (List (List Bool))} {ls : List Int} (hl1 : 1 ≤ ts.length) (hts : ∀ t, t ∈ ts → tsz t = n) (hS : ∀ l, l ∈ ls → (∀ t, t ∈ SS.getD l.toNat [] → tsz t = n) ∧ (SS.getD l.toNat []).length ≤ 1) :
    (leadTo n (allOf ts SS ls) (ls.length * ts.length)).take (ls.length * ts.length) = touchRows (headsOf (leadTo n (allOf ts SS ls) (ls.length * ts.length)) ts.length ls.length) (ldr n ts) ∧ ∀ t, t ∈ allOf ts SS ls → tsz t = n := by
  have hG : ∀ g, g ∈ ls.map (fun l => calledBy ts (SS.getD l.toNat [])) → g.length = ts.length := by
    intro g hg
    obtain ⟨l, hl, rfl⟩ := List.mem_map.1 hg
    exact calledBy_length (Nat.le_trans (hS l hl).2 hl1)
  have hFn : ∀ t, t ∈ allOf ts SS ls → tsz t = n := by
    intro t ht
    obtain ⟨g, hg, htg⟩ := List.mem_flatten.1 ht
    obtain ⟨l, hl, rfl⟩ := List.mem_map.1 hg
    exact calledBy_mem hts (hS l hl).1 t htg
  refine ⟨touch_rows (N := ls.length) hl1 rfl (by unfold allOf; rw [flat_length _ hG, List.length_map]) hFn hts (fun m' q hm hq => ?_) ls.length (Nat.le_refl _), hFn⟩
  unfold allOf
  rw [flat_drop _ m' hG (by rw [List.length_map]; exact hm), List.getElem_map]
  have h1 := (hS ls[m'] (List.getElem_mem hm)).2
  rw [List.take_append_of_le_length (by rw [calledBy_length (Nat.le_trans h1 hl1)]; omega)]
  exact calledBy_take h1 hq

/-- The rows of a touch by calls of at most one change. -/
theorem touch_all {n m : Nat} {ts : List (List Bool)} {SS : List (List (List Bool))} {ls : List Int} (hl1 : 1 ≤ ts.length) (hts : ∀ t, t ∈ ts → tsz t = n) (hin : ∀ l, l ∈ ls → 0 ≤ l ∧ l < (m : Int)) (hS : ∀ c, c < m → (∀ t, t ∈ SS.getD c [] → tsz t = n) ∧ (SS.getD c []).length ≤ 1) :
    (leadTo n (allOf ts SS ls) (ls.length * ts.length)).take (ls.length * ts.length) = touchRows (headsOf (leadTo n (allOf ts SS ls) (ls.length * ts.length)) ts.length ls.length) (ldr n ts) ∧ ∀ t, t ∈ allOf ts SS ls → tsz t = n :=
  touch_used hl1 hts (fun l hl => hS l.toNat (by have := hin l hl; omega))

/-- The changes of a touch are of so many bells. -/
theorem allOf_size {n : Nat} {ts : List (List Bool)} {SS : List (List (List Bool))} {ls : List Int} (hts : ∀ t, t ∈ ts → tsz t = n) (hS : ∀ l, l ∈ ls → ∀ t, t ∈ SS.getD l.toNat [] → tsz t = n) : ∀ t, t ∈ allOf ts SS ls → tsz t = n := by
  intro t ht
  obtain ⟨g, hg, htg⟩ := List.mem_flatten.1 ht
  obtain ⟨l, hl, rfl⟩ := List.mem_map.1 hg
  exact calledBy_mem hts (hS l hl) t htg

end Go.Proofs.YtfngadfkopfhcaaGreatDoor

/- Plain: methods and calls in which nothing is wrong. -/
namespace Go.Proofs.YtfngadfkopfhcaaGreatDoor
open Go.RowKit
set_option maxRecDepth 20000
set_option linter.unusedVariables false

def NoRows (er : Int) (w : World) (e : Ending) (w' : World) : Prop := e = .returned (.tuple #[.slice none 0 0, .int .i64 er]) ∧ Below w.heap.size w w'

theorem mem_getDq {α : Type} {l : List α} {q : Nat} {d : α} (h : q < l.length) : l.getD q d ∈ l := by
  rw [List.getD, List.getElem?_eq_getElem h, Option.getD_some]; exact List.getElem_mem h

theorem okc_of {n : Int} {x : List Int} (h1 : 1 ≤ n) (h2 : n ≤ 12) (h : pc n x = 0) : okc n 0 x = true := by
  unfold pc at h
  rw [if_pos ⟨h1, h2⟩] at h
  unfold pck at h
  split at h
  · assumption
  · cases h

theorem tiles_in {n : Nat} {X : List (List Int)} (h1 : 1 ≤ n) (h2 : n ≤ 12) (h : fstE (n : Int) X = 0) : ∃ ss : List (List Bool), X = ss.map tpl ∧ ∀ t, t ∈ ss → tsz t = n :=
  tiles_of X (fun j hj => okc_of (by omega) (by omega) (fstE_zero h _ (by simp [List.getD, hj])))

/-- A method in which nothing is wrong. -/
theorem mErr_zero {s : ByteArray} {n : Int} {X : List (List Int)} (h : mErr s n X = 0) : ∃ (N : Nat) (ts : List (List Bool)), n = (N : Int) ∧ X = ts.map tpl ∧ nm s = true ∧ 2 ≤ N ∧ N ≤ 12 ∧ 1 ≤ ts.length ∧ ts.length ≤ 200 ∧ ∀ t, t ∈ ts → tsz t = N := by
  unfold mErr at h
  split at h
  · rename_i hn
    split at h
    · cases h
    · rename_i hc
      obtain ⟨N, rfl⟩ : ∃ N : Nat, n = (N : Int) := ⟨n.toNat, by omega⟩
      obtain ⟨ts, h3, h4⟩ := tiles_in (by omega) (by omega) h
      have hl : X.length = ts.length := by rw [h3, List.length_map]
      exact ⟨N, ts, rfl, h3, hn, by omega, by omega, by omega, by omega, h4⟩
  · cases h

theorem oErr_zero {n : Int} {K : Nat} {ah : List Cl} {c : Cl} (h : oErr n K ah c = 0) : sgnR c.1 = true ∧ c.1 ∉ ah.map Prod.fst ∧ c.2.length ≤ K ∧ fstE n c.2 = 0 := by
  unfold oErr at h
  split at h
  · rename_i h1
    split at h
    · cases h
    · rename_i h2
      split at h
      · cases h
      · rename_i h3; exact ⟨h1, h2, by omega, h⟩
  · cases h

theorem cFst_zero {n : Int} {K : Nat} {cs : List Cl} : ∀ m j, cs.length - j = m → cFst n K (cs.take j) (cs.drop j) = 0 → ∀ i, j ≤ i → i < cs.length → oErr n K (cs.take i) (cs.getD i (0, [])) = 0
  | 0, j, hm, _, i, h1, h2 => by omega
  | m + 1, j, hm, h, i, h1, h2 => by
    have hj : j < cs.length := by omega
    by_cases hz : oErr n K (cs.take j) (cs.getD j (0, [])) = 0
    · rcases Nat.lt_or_ge j i with h3 | h3
      · rw [cFst_ok hj hz] at h
        exact cFst_zero m (j + 1) (by omega) h i h3 h2
      · obtain rfl : i = j := by omega
        exact hz
    · rw [cFst_bad hj hz] at h
      exact absurd h hz

theorem tiles_cs {n : Nat} : ∀ (cs : List Cl), (∀ c, c ∈ cs → ∃ ss : List (List Bool), c.2 = ss.map tpl ∧ ∀ t, t ∈ ss → tsz t = n) → ∃ SS : List (List (List Bool)), SS.length = cs.length ∧ ∀ c, c < cs.length → (cs.getD c (0, [])).2 = (SS.getD c []).map tpl ∧ ∀ t, t ∈ SS.getD c [] → tsz t = n
  | [], _ => ⟨[], rfl, fun c hc => absurd hc (by simp)⟩
  | a :: cs, h => by
    obtain ⟨SS, h1, h2⟩ := tiles_cs cs (fun c hc => h c (List.mem_cons_of_mem _ hc))
    obtain ⟨ss, h3, h4⟩ := h a List.mem_cons_self
    refine ⟨ss :: SS, by simp [h1], fun c hc => ?_⟩
    cases c with
    | zero => exact ⟨h3, h4⟩
    | succ c => exact h2 c (by simpa using hc)

/-- Calls in which nothing is wrong. -/
theorem cErr_zero {s : ByteArray} {n : Int} {X : List (List Int)} {cs : List Cl} (h : cErr s n X cs = 0) : mErr s n X = 0 ∧ 1 ≤ cs.length ∧ cs.length ≤ 8 ∧ ∀ i, i < cs.length → oErr n X.length (cs.take i) (cs.getD i (0, [])) = 0 := by
  unfold cErr at h
  split at h
  · rename_i h1
    split at h
    · cases h
    · rename_i h2
      exact ⟨h1, by omega, by omega, fun i hi => cFst_zero cs.length 0 (by omega) h i (by omega) hi⟩
  · rename_i h1; exact absurd h h1

theorem calls_good {n : Nat} {K : Nat} {cs : List Cl} (h1 : 1 ≤ n) (h2 : n ≤ 12) (h : ∀ i, i < cs.length → oErr (n : Int) K (cs.take i) (cs.getD i (0, [])) = 0) :
    CallsOk (n : Int) K cs ∧ ∃ SS : List (List (List Bool)), ∀ c, c < cs.length → (cs.getD c (0, [])).2 = (SS.getD c []).map tpl ∧ (∀ t, t ∈ SS.getD c [] → tsz t = n) ∧ (SS.getD c []).length ≤ K := by
  have hz := fun i hi => oErr_zero (h i hi)
  refine ⟨⟨fun j hj => (hz j hj).1, fun i j hij hj e => (hz j hj).2.1 ((sign_in (Nat.le_of_lt hj)).2 ⟨i, hij, e⟩), fun j hj => (hz j hj).2.2.1, fun j hj q hq => okc_of (by omega) (by omega) (fstE_zero (hz j hj).2.2.2 _ (mem_getDq hq))⟩, ?_⟩
  obtain ⟨SS, h3, h4⟩ := tiles_cs (n := n) cs (fun c hc => by
    obtain ⟨j, hj, e⟩ := List.getElem_of_mem hc
    have h9 := (hz j hj).2.2.2
    have e2 : cs.getD j (0, []) = c := by rw [List.getD, List.getElem?_eq_getElem hj, Option.getD_some, e]
    rw [e2] at h9
    exact tiles_in h1 h2 h9)
  refine ⟨SS, fun c hc => ⟨(h4 c hc).1, (h4 c hc).2, ?_⟩⟩
  have := (hz c hc).2.2.1
  rw [(h4 c hc).1, List.length_map] at this
  exact this

end Go.Proofs.YtfngadfkopfhcaaGreatDoor
