/- Contract: method.Lead. -/
import Derived.Test.YtfhcelanjilbiaaLL
import Derived.Test.YtfhcelanjilbiaaRowAt
namespace Go.Proofs.Ytfhcelanjilbiaa
open Go.RowKit

/-- Rounds, changed by changes. -/
def prd (n : Nat) (ts : List (List Bool)) : List Int := ts.foldl (fun r t => by_ r (trow t)) (rnd n)

theorem prd_snoc (n : Nat) (ts : List (List Bool)) (t : List Bool) : prd n (ts ++ [t]) = by_ (prd n ts) (trow t) := by simp [prd, List.foldl_append]

theorem fold_row (n : Nat) : ∀ (ts : List (List Bool)) (r : List Int), isRow r → r.length = n → (∀ t, t ∈ ts → tsz t = n) → isRow (ts.foldl (fun r t => by_ r (trow t)) r) ∧ (ts.foldl (fun r t => by_ r (trow t)) r).length = n
  | [], _, hr, hl, _ => ⟨hr, hl⟩
  | t :: ts, r, hr, hl, h => by
    have ht : tsz t = n := h t (by simp)
    exact fold_row n ts _ (isRow_by hr (trow_row t) (by rw [trow_length, ht, hl])) (by rw [by_length, trow_length, ht]) (fun t' ht' => h t' (List.mem_cons_of_mem _ ht'))

theorem prd_row (n : Nat) (ts : List (List Bool)) (h : ∀ t, t ∈ ts → tsz t = n) : isRow (prd n ts) ∧ (prd n ts).length = n := fold_row n ts _ (isRow_rnd n) (rnd_length n) h

/-- The first rows of a lead. -/
def leadTo (n : Nat) (ts : List (List Bool)) (k : Nat) : List (List Int) := (List.range (k + 1)).map (fun j => prd n (ts.take j))

theorem leadTo_snoc (n : Nat) (ts : List (List Bool)) (k : Nat) : leadTo n ts (k + 1) = leadTo n ts k ++ [prd n (ts.take (k + 1))] := by
  unfold leadTo; rw [List.range_succ, List.map_append]; rfl

theorem leadTo_length (n : Nat) (ts : List (List Bool)) (k : Nat) : (leadTo n ts k).length = k + 1 := by simp [leadTo]

theorem leadTo_get {n k j : Nat} {ts : List (List Bool)} (h : j ≤ k) : (leadTo n ts k).getD j [] = prd n (ts.take j) := by
  simp [leadTo, List.getD, Nat.lt_succ_of_le h]

theorem tile_ok {n : Nat} {ts : List (List Bool)} (h : ∀ t, t ∈ ts → tsz t = n) {k : Nat} (hk : k < (ts.map tpl).length) : okc n 0 ((ts.map tpl).getD k []) = true := by
  have hk' : k < ts.length := by simpa using hk
  rw [show (ts.map tpl).getD k [] = tpl ts[k] from by simp [List.getD, hk'], ← h ts[k] (List.getElem_mem hk')]
  exact okc_self _

/-- What the loop of Lead knows. -/
structure LeadRel (w wr : World) (s : ByteArray) (n : Nat) (v : Value) (ts : List (List Bool)) (k : Nat) (r u : Value) (vs : List Value) : Prop where
  box : Box wr w.heap.size s n v
  ll : LL wr (w.heap.size + 1) u vs (leadTo n ts k)
  row : wr.ownsRow (w.heap.size + 1) 3 1 r n ((prd n (ts.take k)).map (Value.int .i64))
  below : Below w.heap.size w wr

theorem take_next {ts : List (List Bool)} {k : Nat} (h : k < ts.length) : ts.take (k + 1) = ts.take k ++ [ts[k]] := List.take_succ_eq_append_getElem h

set_option maxRecDepth 20000 in
set_option maxHeartbeats 4000000 in
theorem lead_ok (s : ByteArray) (n : Nat) (v : Value) (ts : List (List Bool)) (w : World) (hs : s.size ≤ 9223372036854775807) (hn : nm s = true) (h1 : 2 ≤ n) (h2 : n ≤ 12) (hl1 : 1 ≤ ts.length) (hl2 : ts.length ≤ 200) (hts : ∀ t, t ∈ ts → tsz t = n)
    (hv : IntsAll w v (ts.map tpl)) :
    Calls Try.prog 46 #[meth s n v] w fun e w' => ∃ u vs, e = .returned (.tuple #[u, .int .i64 0]) ∧ LL w' (w.heap.size + 1) u vs (leadTo n ts ts.length) ∧ Below w.heap.size w w' := by
  obtain ⟨i0, hi, hz0, hz1, hz2⟩ := info_parts Try.info22
  have hlm : (ts.map tpl).length = ts.length := List.length_map _
  have HC := hide (fun W (hb : Below w.heap.size w W) => mcheck_ok s n v (ts.map tpl) W hs hn h1 h2 (by omega) (by omega) (hv.below hb) (fun k hk => tile_ok hts hk))
  obtain ⟨b, off, cap, hve, hbl, hc1, hc2, hcell⟩ := hv.cell (by omega)
  rw [hlm] at hve hc1 hcell
  subst hve
  have HCE := hide hcell
  have HTS := hide hts
  have HV := hide hv
  clear hn hv hcell hts hlm
  unfold meth
  go_enter Try.func46, Try.ntmps46
  go_wp2_with fail
  refine (HC.out _ ((Below.refl _ _).alloc (Nat.le_refl _) _)).mono ?_
  rintro e w1 ⟨rfl, hb1⟩
  have hB : Below w.heap.size w w1 := ((Below.refl _ _).alloc (Nat.le_refl _) _).trans (hb1.mono (by simp))
  have hx := (Box.start w s n (.slice (some ⟨b, off, none⟩) ts.length cap) 66).below hb1
  have g1 := hx.c1
  have g2 := hx.c2
  have HX := hide hx
  clear hb1 HC hx
  go_wp2_with fail
  refine (rounds_ok n w1 (by omega) h2).mono ?_
  rintro e w2 ⟨r0, rfl, hr0, hb2⟩
  obtain ⟨g, rc, rfl, hg1, hg2, hrc, hrc2⟩ := owns_form hr0 (by omega)
  have hx2 := HX.out.below hb2
  have hx3 := hx2.below ((Below.refl _ _).alloc (Nat.le_refl _) (.cells #[.slice (some ⟨g, 0, none⟩) n rc] 22))
  have hsz : w.heap.size + 1 ≤ w1.heap.size := HX.out.lt
  have hsz2 := hb2.size
  have HR : Hid (LeadRel w (w2.alloc (.cells #[.slice (some ⟨g, 0, none⟩) n rc] 22)) s n (.slice (some ⟨b, off, none⟩) ts.length cap) ts 0 (.slice (some ⟨g, 0, none⟩) n rc) (.slice (some ⟨w2.heap.size, 0, none⟩) 1 1) [.slice (some ⟨g, 0, none⟩) n rc]) := by
    refine ⟨hx3, ?_, ?_, ((hB.trans (hb2.mono (by omega))).alloc (by omega) _)⟩
    · exact LL.one (X := rnd n) (by rw [rnd_length]; exact owns_base hr0 hsz) (by omega)
    · exact (owns_base hr0 hsz).alloc _
  have g3 := hx3.c2
  clear hx2 hr0 hb2 g2 HX hB
  go_wp2
  go_loopw [5, 7, 28] (fun r u i wr => ∃ (k : Nat) (vs : List Value), k ≤ ts.length ∧ i = .int .i64 k ∧ Hid (vs.length = k + 1) ∧ Hid (LeadRel w wr s n (.slice (some ⟨b, off, none⟩) ts.length cap) ts k r u vs)) (fun _ _ i _ => ts.length - (intOf i).toNat)
  case atStart => exact ⟨0, [.slice (some ⟨g, 0, none⟩) n rc], by omega, rfl, (show [Value.slice (some ⟨g, 0, none⟩) n rc].length = 0 + 1 from rfl), HR⟩
  case round =>
    obtain ⟨k, vs, hk, rfl, hlv, hR⟩ := hrel
    clear HR g3 hx3
    by_cases hlt : k < ts.length
    · obtain ⟨p, c, hcx, hix⟩ := HCE.out k hlt
      have hbw := hR.out.below
      have hbs := hbw.size
      have gx := (hbw.cell (p := ⟨b, off + k, none⟩) (by exact hbl)).trans hcx
      have gb := hR.out.box.c1
      have ht : tsz ts[k] = n := HTS.out _ (List.getElem_mem hlt)
      have hix2 := hix.out
      have hgk : (ts.map tpl).getD k [] = tpl ts[k] := by simp [List.getD, hlt]
      rw [hgk] at hix2 gx
      have HRow := hide (prow_ok ts[k] n _ wr ht (by omega) h2 (hix2.below hbw))
      have HK := hide (take_next hlt)
      have HTK : Hid (prd n (ts.take (k + 1)) = by_ (prd n (ts.take k)) (trow ts[k])) := by show _ = _; rw [HK.out, prd_snoc]
      have hpr := prd_row n (ts.take k) (fun t ht' => HTS.out t (List.mem_of_mem_take ht'))
      generalize ts[k] = t at *
      generalize (tpl t).length = pl at *
      have HPR := hide hpr
      have HT0 := hide ht
      clear ht
      clear hcx hix hix2 hpr hgk
      go_wp2_with fail
      refine HRow.out.mono ?_
      rintro e w3 ⟨rv, rfl, hrv, hb3⟩
      have hrow3 := owns_below hR.out.row hb3 (Nat.le_refl _)
      have HT := hide (times_own _ rv (prd n (ts.take k)) (trow t) w3 (Ints.own hrow3) (Ints.own hrv) HPR.out.1 (trow_row t) (by rw [HPR.out.2]; omega) (by rw [HPR.out.2]; omega) (by rw [trow_length, HPR.out.2, HT0.out]))
      rw [HPR.out.2, ← HTK.out] at HT
      have hL3 := hR.out.ll.below hb3
      have hx3 := hR.out.box.below hb3
      have hbw3 := hbw.trans (hb3.mono hbs)
      have hbs3 := hb3.size
      have HL3 := hide hL3
      have HX3 := hide hx3
      clear hrow3 hL3 hx3 hrv hb3 hR HRow hbw gx gb
      go_wp2_with fail
      refine HT.out.mono ?_
      rintro e w4 ⟨rn, rfl, hrn, hb4⟩
      obtain ⟨g', rc', rfl, hg3, hg4, hrc3, hrc4⟩ := owns_form hrn (by omega)
      have hL4 := HL3.out.below hb4
      have hx4 := HX3.out.below hb4
      have hbw4 := hbw3.trans (hb4.mono (by omega))
      have hbs4 := hb4.size
      have hxl := HX3.out.lt
      have hrn' := owns_base hrn (show w.heap.size + 1 ≤ w3.heap.size by omega)
      have hrow4 := hL4.row
      rw [hlv.out] at hrow4
      have HL4 := hide hL4
      have HX4 := hide hx4
      have HRN := hide hrn'
      clear hrn hrn' hL4 hx4 HL3 HX3 HT hb4 hbw3
      go_wp2_with (at_builtin; refine wpList_append_own _ rfl _ _ 25 rfl (w.heap.size + 1) 22 i0 (.slice none 0 0) 1 24 Try.underlying25 hi hz0 hz1 hz2 rfl (by decide) _ _ _ rfl (hrow4.alloc _) ⟨w4.heap.size, 0, none⟩ 1 1 [.slice (some ⟨g', 0, none⟩) n rc'] rfl rfl ?c1 ?c2 ?c3 ?c4 ?c5 ?_)
      case c1 => exact cell_one_new _ _ _
      case c2 => intro u hu; simp at hu; subst hu; rfl
      case c3 => unfold maxLen; omega
      case c4 => omega
      case c5 => simp; omega
      · intro v' w5 hown5 hgrow _
        have HR5 : Hid (LeadRel w w5 s n (.slice (some ⟨b, off, none⟩) ts.length cap) ts (k + 1) (.slice (some ⟨g', 0, none⟩) n rc') v' (vs ++ [.slice (some ⟨g', 0, none⟩) n rc'])) := by
          have hxa := HX4.out.below ((Below.refl _ _).alloc (Nat.le_refl _) (.cells #[.slice (some ⟨g', 0, none⟩) n rc'] 22))
          refine ⟨?_, ?_, HL4.out.kept HRN.out hgrow, HL4.out.step hbw4 (by omega) (by omega) hgrow⟩
          · have hbx : Below (w.heap.size + 1) (w4.alloc (.cells #[.slice (some ⟨g', 0, none⟩) n rc'] 22)) w5 := (Below.refl _ _).grown hgrow (by simp; omega) (fun g hg => (HL4.out.row.lt g hg).1)
            exact ⟨(hbx.cell (p := ⟨w.heap.size, 0, none⟩) (Nat.lt_succ_self _)).trans hxa.c0, (hbx.cell (p := ⟨w.heap.size, 1, none⟩) (Nat.lt_succ_self _)).trans hxa.c1, (hbx.cell (p := ⟨w.heap.size, 2, none⟩) (Nat.lt_succ_self _)).trans hxa.c2, Nat.lt_of_lt_of_le hxa.lt hbx.size⟩
          · rw [leadTo_snoc]
            exact HL4.out.push (by have := HRN.out.1; rw [show (prd n (ts.take (k + 1))).length = n from by simpa using this]; exact HRN.out) (by rw [hlv.out]; exact hown5) hgrow
        have HLV : Hid ((vs ++ [Value.slice (some ⟨g', 0, none⟩) n rc']).length = k + 1 + 1) := by show _ = _; rw [List.length_append, hlv.out]; rfl
        clear hown5 hgrow hrow4
        go_wp2
        go_roundw
        case rel => exact ⟨k + 1, _, by omega, by go_num, HLV, HR5⟩
        case measure => simp [intOf]; omega
    · go_wp2
      go_ret2
      obtain rfl : k = ts.length := by omega
      exact ⟨_, vs, rfl, hR.out.ll, hR.out.below⟩

end Go.Proofs.Ytfhcelanjilbiaa
