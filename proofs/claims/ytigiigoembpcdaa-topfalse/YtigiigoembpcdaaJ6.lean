/- Joined: Lead, TrF, Course, MethOf, TrG, TrH. -/
import Derived.Test.YtigiigoembpcdaaJ5
import Derived.Test.YtigiigoembpcdaaJ4
import Derived.Test.YtigiigoembpcdaaJ3
import Derived.Deep.CutRange
/- Contract: method.Lead. -/
namespace Go.Proofs.Ytigiigoembpcdaa
open Go.RowKit

/-- Rounds, changed by changes. -/
def prd (n : Nat) (ts : List (List Bool)) : List Int := ts.foldl (fun r t => by_ r (trow t)) (rnd n)

theorem prd_snoc (n : Nat) (ts : List (List Bool)) (t : List Bool) : prd n (ts ++ [t]) = by_ (prd n ts) (trow t) := by simp [prd, List.foldl_append]

theorem fold_row (n : Nat) : ∀ (ts : List (List Bool)) (r : List Int), isRow r → r.length = n → (∀ t, t ∈ ts → tsz t = n) → isRow (ts.foldl (fun r t => by_ r (trow t)) r) ∧ (ts.foldl (fun r t => by_ r (trow t)) r).length = n
  | [], _, hr, hl, _ => ⟨hr, hl⟩
  | t :: ts, r, hr, hl, h => by
    have ht : tsz t = n := h t (by simp)
    exact fold_row n ts _ (isRow_by hr (trow_row t) (by rw [trow_length, ht, hl])) (by rw [by_length, trow_length, ht]) (fun t' ht' => h t' (List.mem_cons_of_mem _ ht'))

theorem prd_row (n : Nat) (ts : List (List Bool)) (h : ∀ t, t ∈ ts → tsz t = n) : isRow (prd n ts) ∧ (prd n ts).length = n := fold_row n ts _ (isRow_rnd n) (rnd_length n) h

/-- The first rows of a lead. -/
def leadTo (n : Nat) (ts : List (List Bool)) (k : Nat) : List (List Int) := (List.range (k + 1)).map (fun j => prd n (ts.take j))

theorem leadTo_snoc (n : Nat) (ts : List (List Bool)) (k : Nat) : leadTo n ts (k + 1) = leadTo n ts k ++ [prd n (ts.take (k + 1))] := by
  unfold leadTo; rw [List.range_succ, List.map_append]; rfl

theorem leadTo_length (n : Nat) (ts : List (List Bool)) (k : Nat) : (leadTo n ts k).length = k + 1 := by simp [leadTo]

theorem leadTo_get {n k j : Nat} {ts : List (List Bool)} (h : j ≤ k) : (leadTo n ts k).getD j [] = prd n (ts.take j) := by
  simp [leadTo, List.getD, Nat.lt_succ_of_le h]

theorem tile_ok {n : Nat} {ts : List (List Bool)} (h : ∀ t, t ∈ ts → tsz t = n) {k : Nat} (hk : k < (ts.map tpl).length) : okc n 0 ((ts.map tpl).getD k []) = true := by
  have hk' : k < ts.length := by simpa using hk
  rw [show (ts.map tpl).getD k [] = tpl ts[k] from by simp [List.getD, hk'], ← h ts[k] (List.getElem_mem hk')]
  exact okc_self _

/-- What the loop of Lead knows. -/
structure LeadRel (w wr : World) (s : ByteArray) (n : Nat) (v : Value) (ts : List (List Bool)) (k : Nat) (r u : Value) (vs : List Value) : Prop where
  box : Box wr w.heap.size s n v
  ll : LL wr (w.heap.size + 1) u vs (leadTo n ts k)
  row : wr.ownsRow (w.heap.size + 1) 3 1 r n ((prd n (ts.take k)).map (Value.int .i64))
  below : Below w.heap.size w wr

theorem take_next {ts : List (List Bool)} {k : Nat} (h : k < ts.length) : ts.take (k + 1) = ts.take k ++ [ts[k]] := List.take_succ_eq_append_getElem h

set_option maxRecDepth 20000 in
set_option maxHeartbeats 4000000 in
theorem lead_ok (s : ByteArray) (n : Nat) (v : Value) (ts : List (List Bool)) (w : World) (hs : s.size ≤ 9223372036854775807) (hn : nm s = true) (h1 : 2 ≤ n) (h2 : n ≤ 12) (hl1 : 1 ≤ ts.length) (hl2 : ts.length ≤ 200) (hts : ∀ t, t ∈ ts → tsz t = n)
    (hv : IntsAll w v (ts.map tpl)) :
    Calls Try.prog 11 #[meth s n v] w fun e w' => ∃ u vs, e = .returned (.tuple #[u, .int .i64 0]) ∧ LL w' (w.heap.size + 1) u vs (leadTo n ts ts.length) ∧ Below w.heap.size w w' := by
  obtain ⟨i0, hi, hz0, hz1, hz2⟩ := info_parts Try.info22
  have hlm : (ts.map tpl).length = ts.length := List.length_map _
  have HC := hide (fun W (hb : Below w.heap.size w W) => mcheck_ok s n v (ts.map tpl) W hs hn h1 h2 (by omega) (by omega) (hv.below hb) (fun k hk => tile_ok hts hk))
  obtain ⟨b, off, cap, hve, hbl, hc1, hc2, hcell⟩ := hv.cell (by omega)
  rw [hlm] at hve hc1 hcell
  subst hve
  have HCE := hide hcell
  have HTS := hide hts
  have HV := hide hv
  clear hn hv hcell hts hlm
  unfold meth
  go_enter Try.func11, Try.ntmps11
  go_wp2_with fail
  refine (HC.out _ ((Below.refl _ _).alloc (Nat.le_refl _) _)).mono ?_
  rintro e w1 ⟨rfl, hb1⟩
  have hB : Below w.heap.size w w1 := ((Below.refl _ _).alloc (Nat.le_refl _) _).trans (hb1.mono (by simp))
  have hx := (Box.start w s n (.slice (some ⟨b, off, none⟩) ts.length cap) 28).below hb1
  have g1 := hx.c1
  have g2 := hx.c2
  have HX := hide hx
  clear hb1 HC hx
  go_wp2_with fail
  refine (rounds_ok n w1 (by omega) h2).mono ?_
  rintro e w2 ⟨r0, rfl, hr0, hb2⟩
  obtain ⟨g, rc, rfl, hg1, hg2, hrc, hrc2⟩ := owns_form hr0 (by omega)
  have hx2 := HX.out.below hb2
  have hx3 := hx2.below ((Below.refl _ _).alloc (Nat.le_refl _) (.cells #[.slice (some ⟨g, 0, none⟩) n rc] 22))
  have hsz : w.heap.size + 1 ≤ w1.heap.size := HX.out.lt
  have hsz2 := hb2.size
  have HR : Hid (LeadRel w (w2.alloc (.cells #[.slice (some ⟨g, 0, none⟩) n rc] 22)) s n (.slice (some ⟨b, off, none⟩) ts.length cap) ts 0 (.slice (some ⟨g, 0, none⟩) n rc) (.slice (some ⟨w2.heap.size, 0, none⟩) 1 1) [.slice (some ⟨g, 0, none⟩) n rc]) := by
    refine ⟨hx3, ?_, ?_, ((hB.trans (hb2.mono (by omega))).alloc (by omega) _)⟩
    · exact LL.one (X := rnd n) (by rw [rnd_length]; exact owns_base hr0 hsz) (by omega)
    · exact (owns_base hr0 hsz).alloc _
  have g3 := hx3.c2
  clear hx2 hr0 hb2 g2 HX hB
  go_wp2
  go_loopw [5, 7, 28] (fun r u i wr => ∃ (k : Nat) (vs : List Value), k ≤ ts.length ∧ i = .int .i64 k ∧ Hid (vs.length = k + 1) ∧ Hid (LeadRel w wr s n (.slice (some ⟨b, off, none⟩) ts.length cap) ts k r u vs)) (fun _ _ i _ => ts.length - (intOf i).toNat)
  case atStart => exact ⟨0, [.slice (some ⟨g, 0, none⟩) n rc], by omega, rfl, (show [Value.slice (some ⟨g, 0, none⟩) n rc].length = 0 + 1 from rfl), HR⟩
  case round =>
    obtain ⟨k, vs, hk, rfl, hlv, hR⟩ := hrel
    clear HR g3 hx3
    by_cases hlt : k < ts.length
    · obtain ⟨p, c, hcx, hix⟩ := HCE.out k hlt
      have hbw := hR.out.below
      have hbs := hbw.size
      have gx := (hbw.cell (p := ⟨b, off + k, none⟩) (by exact hbl)).trans hcx
      have gb := hR.out.box.c1
      have ht : tsz ts[k] = n := HTS.out _ (List.getElem_mem hlt)
      have hix2 := hix.out
      have hgk : (ts.map tpl).getD k [] = tpl ts[k] := by simp [List.getD, hlt]
      rw [hgk] at hix2 gx
      have HRow := hide (prow_ok ts[k] n _ wr ht (by omega) h2 (hix2.below hbw))
      have HK := hide (take_next hlt)
      have HTK : Hid (prd n (ts.take (k + 1)) = by_ (prd n (ts.take k)) (trow ts[k])) := by show _ = _; rw [HK.out, prd_snoc]
      have hpr := prd_row n (ts.take k) (fun t ht' => HTS.out t (List.mem_of_mem_take ht'))
      generalize ts[k] = t at *
      generalize (tpl t).length = pl at *
      have HPR := hide hpr
      have HT0 := hide ht
      clear ht
      clear hcx hix hix2 hpr hgk
      go_wp2_with fail
      refine HRow.out.mono ?_
      rintro e w3 ⟨rv, rfl, hrv, hb3⟩
      have hrow3 := owns_below hR.out.row hb3 (Nat.le_refl _)
      have HT := hide (times_own _ rv (prd n (ts.take k)) (trow t) w3 (Ints.own hrow3) (Ints.own hrv) HPR.out.1 (trow_row t) (by rw [HPR.out.2]; omega) (by rw [HPR.out.2]; omega) (by rw [trow_length, HPR.out.2, HT0.out]))
      rw [HPR.out.2, ← HTK.out] at HT
      have hL3 := hR.out.ll.below hb3
      have hx3 := hR.out.box.below hb3
      have hbw3 := hbw.trans (hb3.mono hbs)
      have hbs3 := hb3.size
      have HL3 := hide hL3
      have HX3 := hide hx3
      clear hrow3 hL3 hx3 hrv hb3 hR HRow hbw gx gb
      go_wp2_with fail
      refine HT.out.mono ?_
      rintro e w4 ⟨rn, rfl, hrn, hb4⟩
      obtain ⟨g', rc', rfl, hg3, hg4, hrc3, hrc4⟩ := owns_form hrn (by omega)
      have hL4 := HL3.out.below hb4
      have hx4 := HX3.out.below hb4
      have hbw4 := hbw3.trans (hb4.mono (by omega))
      have hbs4 := hb4.size
      have hxl := HX3.out.lt
      have hrn' := owns_base hrn (show w.heap.size + 1 ≤ w3.heap.size by omega)
      have hrow4 := hL4.row
      rw [hlv.out] at hrow4
      have HL4 := hide hL4
      have HX4 := hide hx4
      have HRN := hide hrn'
      clear hrn hrn' hL4 hx4 HL3 HX3 HT hb4 hbw3
      go_wp2_with (at_builtin; refine wpList_append_own _ rfl _ _ 23 rfl (w.heap.size + 1) 22 i0 (.slice none 0 0) 1 24 Try.underlying23 hi hz0 hz1 hz2 rfl (by decide) _ _ _ rfl (hrow4.alloc _) ⟨w4.heap.size, 0, none⟩ 1 1 [.slice (some ⟨g', 0, none⟩) n rc'] rfl rfl ?c1 ?c2 ?c3 ?c4 ?c5 ?_)
      case c1 => exact cell_one_new _ _ _
      case c2 => intro u hu; simp at hu; subst hu; rfl
      case c3 => unfold maxLen; omega
      case c4 => omega
      case c5 => simp; omega
      · intro v' w5 hown5 hgrow _
        have HR5 : Hid (LeadRel w w5 s n (.slice (some ⟨b, off, none⟩) ts.length cap) ts (k + 1) (.slice (some ⟨g', 0, none⟩) n rc') v' (vs ++ [.slice (some ⟨g', 0, none⟩) n rc'])) := by
          have hxa := HX4.out.below ((Below.refl _ _).alloc (Nat.le_refl _) (.cells #[.slice (some ⟨g', 0, none⟩) n rc'] 22))
          refine ⟨?_, ?_, HL4.out.kept HRN.out hgrow, HL4.out.step hbw4 (by omega) (by omega) hgrow⟩
          · have hbx : Below (w.heap.size + 1) (w4.alloc (.cells #[.slice (some ⟨g', 0, none⟩) n rc'] 22)) w5 := (Below.refl _ _).grown hgrow (by simp; omega) (fun g hg => (HL4.out.row.lt g hg).1)
            exact ⟨(hbx.cell (p := ⟨w.heap.size, 0, none⟩) (Nat.lt_succ_self _)).trans hxa.c0, (hbx.cell (p := ⟨w.heap.size, 1, none⟩) (Nat.lt_succ_self _)).trans hxa.c1, (hbx.cell (p := ⟨w.heap.size, 2, none⟩) (Nat.lt_succ_self _)).trans hxa.c2, Nat.lt_of_lt_of_le hxa.lt hbx.size⟩
          · rw [leadTo_snoc]
            exact HL4.out.push (by have := HRN.out.1; rw [show (prd n (ts.take (k + 1))).length = n from by simpa using this]; exact HRN.out) (by rw [hlv.out]; exact hown5) hgrow
        have HLV : Hid ((vs ++ [Value.slice (some ⟨g', 0, none⟩) n rc']).length = k + 1 + 1) := by show _ = _; rw [List.length_append, hlv.out]; rfl
        clear hown5 hgrow hrow4
        go_wp2
        go_roundw
        case rel => exact ⟨k + 1, _, by omega, by go_num, HLV, HR5⟩
        case measure => simp [intOf]; omega
    · go_wp2
      go_ret2
      obtain rfl : k = ts.length := by omega
      exact ⟨_, vs, rfl, hR.out.ll, hR.out.below⟩

end Go.Proofs.Ytigiigoembpcdaa

/- Contract: truth.False. -/
namespace Go.Proofs.Ytigiigoembpcdaa
open Go.RowKit Go.Maps

/-- The first lists of a list of lists. -/
theorem LL.front {w : World} {base g N cap k : Nat} {vs : List Value} {X : List (List Int)} (h : LL w base (.slice (some ⟨g, 0, none⟩) N cap) vs X) (hN : vs.length = N) (hk : k ≤ N) (h1 : 1 ≤ k) (hg : g < w.heap.size) (hc : N ≤ cap) (hc2 : cap ≤ 9223372036854775807) :
    IntsAll w (.slice (some ⟨g, 0, none⟩) k cap) (X.take k) := by
  have hr := h.row
  rw [hN] at hr
  have hXl := h.len
  refine ⟨vs.take k, Or.inr ⟨g, 0, cap, ?_, ?_, ?_, hc2, hg, fun j hj => ?_⟩, ?_, fun j hj => ?_⟩
  · rw [List.length_take, hN, Nat.min_eq_left hk]
  · rw [List.length_take, hN, Nat.min_eq_left hk]; exact h1
  · rw [List.length_take, hN, Nat.min_eq_left hk]; omega
  · have hj' : j < k := by rw [List.length_take, hN, Nat.min_eq_left hk] at hj; exact hj
    rw [Nat.zero_add, owns_val hr (by omega)]
    simp [List.getD, hj']
  · rw [List.length_take, List.length_take, hXl]
  · have hj' : j < k := by rw [List.length_take] at hj; omega
    have hjX : j < X.length := by rw [← hXl, hN]; omega
    have := Ints.own (h.at hjX)
    have e1 : (vs.take k).getD j undef = vs.getD j undef := by simp [List.getD, hj']
    have e2 : (X.take k).getD j [] = X.getD j [] := by simp [List.getD, hj']
    rw [e1, e2]
    exact this

/-- The rows of a lead, but the last one. -/
def ldr (n : Nat) (ts : List (List Bool)) : List (List Int) := (leadTo n ts ts.length).take ts.length

theorem ldr_length (n : Nat) (ts : List (List Bool)) : (ldr n ts).length = ts.length := by unfold ldr; rw [List.length_take, leadTo_length]; omega

theorem ldr_rows {n : Nat} {ts : List (List Bool)} (h : ∀ t, t ∈ ts → tsz t = n) : ∀ r, r ∈ ldr n ts → Rw n r := by
  intro r hr
  have hr' := List.mem_of_mem_take hr
  obtain ⟨j, hj, e⟩ := List.getElem_of_mem hr'
  have hl : (leadTo n ts ts.length).length = ts.length + 1 := leadTo_length n ts ts.length
  have h2 := leadTo_get (n := n) (ts := ts) (k := ts.length) (j := j) (by omega)
  rw [List.getD_eq_getElem?_getD, List.getElem?_eq_getElem hj, Option.getD_some, e] at h2
  have := prd_row n (ts.take j) (fun t ht => h t (List.mem_of_mem_take ht))
  rw [← h2] at this
  exact ⟨this.1, this.2⟩

def FalsePost (n : Nat) (ts : List (List Bool)) (w : World) (e : Ending) (w' : World) : Prop :=
  ∃ u vs X t, e = .returned (.tuple #[u, .bool t, .int .i64 0]) ∧ X.Perm (hds n (ldr n ts)) ∧ LL w' w.heap.size u vs X ∧ ((ldr n ts).Nodup → t = false) ∧ Below w.heap.size w w'

set_option maxRecDepth 20000 in
set_option maxHeartbeats 4000000 in
theorem false_ok (s : ByteArray) (n : Nat) (v : Value) (ts : List (List Bool)) (w : World) (hs : s.size ≤ 9223372036854775807) (hn : nm s = true) (h1 : 2 ≤ n) (h2 : n ≤ 12) (hl1 : 1 ≤ ts.length) (hl2 : ts.length ≤ 200) (hts : ∀ t, t ∈ ts → tsz t = n)
    (hv : IntsAll w v (ts.map tpl)) :
    Calls Try.prog 4 #[meth s n v] w (FalsePost n ts w) := by
  have HLD := hide (fun W (hb : Below w.heap.size w W) => lead_ok s n v ts W hs hn h1 h2 hl1 hl2 hts (hv.below hb))
  have hlm : (ts.map tpl).length = ts.length := List.length_map _
  obtain ⟨pv, cv, hve⟩ := hv.len
  rw [hlm] at hve
  subst hve
  have HRW := hide (ldr_rows hts)
  have HRL := hide (ldr_length n ts)
  have HLT := hide (leadTo_length n ts ts.length)
  clear hn hv hts hlm
  unfold meth
  unfold meth at HLD
  go_enter Try.func4, Try.ntmps4
  go_wp2_with fail
  refine (HLD.out _ ((Below.refl _ _).alloc (Nat.le_refl _) _)).mono ?_
  rintro e w1 ⟨u, vs, rfl, hL1, hb1⟩
  have hB1 : Below w.heap.size w w1 := ((Below.refl _ _).alloc (Nat.le_refl _) _).trans (hb1.mono (by simp))
  have hx := (Box.start w s n (.slice pv ts.length cv) 28).below hb1
  have g2 := hx.c2
  have hvl : vs.length = ts.length + 1 := by rw [hL1.len, HLT.out]
  have hr1 := hL1.row
  rw [hvl] at hr1
  obtain ⟨gu, cu, rfl, hgu1, hgu2, hcu1, hcu2⟩ := owns_form hr1 (by omega)
  have hI := hL1.front hvl (k := ts.length) (by omega) hl1 hgu2 hcu1 hcu2
  rw [show (leadTo n ts ts.length).take ts.length = ldr n ts from rfl] at hI
  have HRP := hide (repeated_ok n _ (ldr n ts) w1 hI (by omega) h2 HRW.out (by rw [HRL.out]; exact hl1) (by rw [HRL.out]; omega))
  have HBT := hide (fun W (hb : Below w1.heap.size w1 W) => between_ok n _ (ldr n ts) W (hI.below hb) (by omega) h2 HRW.out (by rw [HRL.out]; exact hl1) (by rw [HRL.out]; exact hl2))
  have hbs1 := hB1.size
  have HHL : Hid ((hds n (ldr n ts)).length ≤ 40000) := by
    have h3 := (hdsTo_fact n (pr (ldr n ts))).2.2
    rw [pr_length, HRL.out] at h3
    have h4 : ts.length * ts.length ≤ 200 * 200 := Nat.mul_le_mul hl2 hl2
    show (hdsTo n (pr (ldr n ts))).length ≤ 40000
    omega
  have HHR : Hid (∀ x, x ∈ hds n (ldr n ts) → x.length = n) := fun x hx => (pr_rows HRW.out x (((hdsTo_fact n (pr (ldr n ts))).2.1 x).1 hx).1).len
  clear hL1 hb1 HLD hx hvl hr1 hI
  go_wp2_with fail
  refine HRP.out.mono ?_
  rintro e w2 ⟨i, j, t, rfl, hnd, hb2⟩
  have HND := hide hnd
  clear hnd HRP
  go_wp2_with fail
  refine (HBT.out w2 hb2).mono ?_
  rintro e w3 ⟨hd, hvs, rfl, hL3, hb3⟩
  have hB2 : Below w.heap.size w w2 := hB1.trans (hb2.mono hbs1)
  have hL3' := hL3.low hB2.size
  have hB3 : Below w.heap.size w w3 := hB2.trans (hb3.mono hB2.size)
  have HSO := hide (sort_any n w.heap.size hd hvs (hds n (ldr n ts)) w3 hL3' HHR.out (by omega) HHL.out)
  obtain ⟨hp, hc, rfl⟩ := owns_slice hL3.row
  clear HBT hL3 hL3' hb2 hb3
  go_wp2_with fail
  refine HSO.out.mono ?_
  rintro e w4 ⟨rfl, vs', X', hpm, hL4, hb4⟩
  have HP : Hid (FalsePost n ts w (.returned (.tuple #[.slice hp hvs.length hc, .bool t, .int .i64 0])) w4) := ⟨_, vs', X', t, rfl, hpm, hL4, HND.out, hB3.trans hb4⟩
  clear hpm hL4 hb4 HSO HND
  go_wp2
  go_ret3
  exact HP.out

end Go.Proofs.Ytigiigoembpcdaa

/- Contracts: method.Head, courseFits, method.Course, MethodOf. -/
namespace Go.Proofs.Ytigiigoembpcdaa
open Go.RowKit

/-- The first rows of a course. -/
def crs (n : Nat) (ts : List (List Bool)) (c : Nat) : List (List Int) := (List.range c).map (fun i => by_ (pw (prd n ts) (i / ts.length)) (prd n (ts.take (i % ts.length))))

theorem crs_snoc (n : Nat) (ts : List (List Bool)) (a b : Nat) (hb : b < ts.length) : crs n ts (a * ts.length + b + 1) = crs n ts (a * ts.length + b) ++ [by_ (pw (prd n ts) a) (prd n (ts.take b))] := by
  unfold crs
  rw [List.range_succ, List.map_append]
  have h1 : (a * ts.length + b) / ts.length = a := by
    rw [Nat.mul_comm, Nat.mul_add_div (by omega), Nat.div_eq_of_lt hb, Nat.add_zero]
  have h2 : (a * ts.length + b) % ts.length = b := by
    rw [Nat.mul_comm, Nat.mul_add_mod, Nat.mod_eq_of_lt hb]
  simp only [List.map_cons, List.map_nil, h1, h2]

theorem crs_length (n : Nat) (ts : List (List Bool)) (c : Nat) : (crs n ts c).length = c := by simp [crs]

theorem crs_get {n c i : Nat} {ts : List (List Bool)} (h : i < c) : (crs n ts c).getD i [] = by_ (pw (prd n ts) (i / ts.length)) (prd n (ts.take (i % ts.length))) := by simp [crs, List.getD, h]

theorem pw_zero (r : List Int) : pw r 0 = rnd r.length := by unfold pw rnd; rfl

/-- What the loops of Course know. -/
structure CrsRel (w3 wr : World) (n : Nat) (ts : List (List Bool)) (a b : Nat) (f u : Value) (vs : List Value) : Prop where
  ll : LL wr w3.heap.size u vs (crs n ts (a * ts.length + b))
  row : wr.ownsRow w3.heap.size 3 1 f n ((pw (prd n ts) a).map (Value.int .i64))
  below : Below w3.heap.size w3 wr

end Go.Proofs.Ytigiigoembpcdaa

/- Contract: MethodOf. -/
namespace Go.Proofs.Ytigiigoembpcdaa
open Go.RowKit

theorem tried_name : nm ⟨#[84, 114, 105, 101, 100]⟩ = true := by decide +kernel

theorem cells3 {w1 : World} {B : Nat} {a b c : Value} {t : TypeId} (h : w1.heap[B]? = some (.cells #[a, b, c] t)) :
    w1.cell? ⟨B, 0, none⟩ = some a ∧ w1.cell? ⟨B, 1, none⟩ = some b ∧ w1.cell? ⟨B, 2, none⟩ = some c ∧ w1.frozen? ⟨B, 0, none⟩ = false ∧ w1.frozen? ⟨B, 1, none⟩ = false ∧ w1.frozen? ⟨B, 2, none⟩ = false := by
  simp [World.cell?, World.frozen?, h]

theorem LL.set {w : World} {base b j : Nat} {v x : Value} {vs : List Value} {xss : List (List Int)} (h : LL w base v vs xss) (hb : b < base) : LL (w.setCell ⟨b, j, none⟩ x) base v vs xss :=
  ⟨ownsRow_setCell_below h.row (by exact hb) _, h.all.mono (fun _ _ _ h' => ownsRow_setCell_below h' (by exact hb) _)⟩

set_option maxRecDepth 20000 in
set_option maxHeartbeats 2000000 in
theorem methodOf_ok (v : Value) (xs : List Int) (n m : Nat) (w : World) (h : Ints w v xs) (hx : ∀ x, x ∈ xs → I64 x) (h1 : 1 ≤ n) (h12 : n ≤ 12) (hm : m ≤ 1000) :
    Calls Try.prog 6 #[v, .int .i64 n, .int .i64 m] w fun e w' => ∃ (u : Value) (vs : List Value) (ts : List (List Bool)), e = .returned (.agg #[.string ⟨#[84, 114, 105, 101, 100]⟩, .int .i64 n, u]) ∧ ts.length = m ∧ (∀ t, t ∈ ts → tsz t = n) ∧ LL w' (w.heap.size + 1) u vs (ts.map tpl) ∧ Below w.heap.size w w' := by
  have HC := hide (fun W (hb : Below w.heap.size w W) => changesOf_ok v xs 3 n m W (h.below hb) hx (by omega) h1 h12 hm)
  clear h hx
  go_enter Try.func6, Try.ntmps6
  go_wp2_with fail
  refine (HC.out _ ((Below.refl _ _).alloc (Nat.le_refl _) _)).mono ?_
  rintro e w1 ⟨u, vs, ts, rfl, hl, hts, hL, hb1⟩
  have hblk0 := (hb1.block w.heap.size (by simp)).trans (heap_alloc_new w _)
  obtain ⟨z0, z1, z2, f0, f1, f2⟩ := cells3 (w1 := w1) (B := w.heap.size) hblk0
  obtain ⟨up, uc, rfl⟩ := owns_slice hL.row
  have HBK : Hid ((((w1.setCell ⟨w.heap.size, 0, none⟩ (.string ⟨#[84, 114, 105, 101, 100]⟩)).setCell ⟨w.heap.size, 1, none⟩ (.int .i64 n)).setCell ⟨w.heap.size, 2, none⟩ (.slice up vs.length uc)).heap[w.heap.size]? = some (.cells #[.string ⟨#[84, 114, 105, 101, 100]⟩, .int .i64 n, .slice up vs.length uc] 28)) := by
    show _ = _
    simp [World.setCell, Array.getElem?_modify, hblk0]
  clear hblk0
  have HT := hide hts
  have HL := hide hL
  have HLE := hide hl
  clear hts hL hl HC
  have hB : Below w.heap.size w w1 := ((Below.refl _ _).alloc (Nat.le_refl _) _).trans (hb1.mono (by simp))
  have HLL := hide (HL.out.low (show w.heap.size + 1 ≤ _ by simp))
  clear HL
  go_wp2
  refine bodyPost_ret (results_cell_row (p := 6) (ty := 28) rfl _ _ w.heap.size 28 _ _ _ rfl HBK.out Try.underlying28 rfl (by kernel_rfl)) rfl ?_
  exact ⟨_, vs, ts, rfl, HLE.out, HT.out, ((HLL.out.set (Nat.lt_succ_self _)).set (Nat.lt_succ_self _)).set (Nat.lt_succ_self _), ((hB.setCell (Nat.le_refl _) _).setCell (Nat.le_refl _) _).setCell (Nat.le_refl _) _⟩

end Go.Proofs.Ytigiigoembpcdaa

/- Plain: ranks of false heads; contract: campaniletop.hunt. -/
namespace Go.Proofs.Ytigiigoembpcdaa
open Go.RowKit

theorem rankR_sorted : ∀ l : List Int, l.Pairwise (· < ·) → rankR l = 0
  | [], _ => rfl
  | x :: xs, h => by
    obtain ⟨h1, h2⟩ := List.pairwise_cons.1 h
    show cnt x xs * fct xs.length + rankR xs = 0
    have hc : cnt x xs = 0 := by
      unfold cnt
      rw [List.length_eq_zero_iff, List.filter_eq_nil_iff]
      intro y hy
      have := h1 y hy
      simp; omega
    rw [hc, rankR_sorted xs h2, Nat.zero_mul]

def rk (x : List Int) : Nat := rkTo x x.length

theorem rk_rnd (n : Nat) : rk (rnd n) = 0 := by unfold rk; rw [rkTo_all]; exact rankR_sorted _ (rnd_sorted n)

theorem rk_inj {n : Nat} {a b : List Int} (ha : Rw n a) (hb : Rw n b) (h : rk a = rk b) : a = b := rank_inj ha.row hb.row (by rw [ha.len, hb.len]) h

theorem rk_pos {n : Nat} {a : List Int} (ha : Rw n a) (h : a ≠ rnd n) : rk a ≠ 0 := fun e => h (rk_inj ha (Rw.rnd n) (by rw [e, rk_rnd]))

theorem by_un {n : Nat} (h12 : n ≤ 12) {r : List Int} (h : Rw n r) : by_ r (un r) = rnd n :=
  Rw.eq h12 (h.by h.un) (Rw.rnd n) (by rw [h.pad_by h12 h.un, h.pad_un h12, Pm.mul_inv, pad_rnd h12])

theorem hds_one {n : Nat} (h12 : n ≤ 12) {r : List Int} (h : Rw n r) : hds n [r] = [] := by
  show hdsTo n (pr [r]) = []
  have : pr [r] = [rnd n] := by simp [pr, by_un h12 h]
  rw [this]
  show stp1 n [] (rnd n) = []
  unfold stp1
  rw [if_pos (Or.inl rfl)]

/-- What is known of the heads that False tells. -/
structure Hds (n : Nat) (L X : List (List Int)) : Prop where
  rows : ∀ x, x ∈ X → Rw n x
  nodup : X.Nodup
  pos : ∀ x, x ∈ X → x ≠ rnd n
  back : ∀ x, x ∈ X → un x ∈ X
  few : X.length ≤ L.length * L.length

theorem Hds.of {n : Nat} (h12 : n ≤ 12) {L X : List (List Int)} (hL : ∀ r, r ∈ L → Rw n r) (hp : X.Perm (hds n L)) : Hds n L X := by
  obtain ⟨a1, a2, a3⟩ := hdsTo_fact n (pr L)
  have hm : ∀ x, x ∈ X ↔ x ∈ pr L ∧ x ≠ rnd n := fun x => by rw [hp.mem_iff]; exact a2 x
  refine ⟨fun x hx => pr_rows hL x ((hm x).1 hx).1, hp.nodup_iff.2 a1, fun x hx => ((hm x).1 hx).2, fun x hx => ?_, ?_⟩
  · obtain ⟨b1, b2⟩ := (hm x).1 hx
    exact (hm _).2 ⟨pr_un h12 hL b1, fun e => b2 (un_rnd h12 (pr_rows hL x b1) e)⟩
  · rw [hp.length_eq, ← pr_length]; exact a3

def huntS : ByteArray := ⟨#[80, 108, 97, 105, 110, 32, 72, 117, 110, 116]⟩
def huntT : List (List Bool) := [[false, false], [true, false, true]]

theorem hunt_name : nm huntS = true := by decide +kernel
theorem hunt_tsz : ∀ t, t ∈ huntT → tsz t = 4 := by decide
theorem hunt_one : (hds 4 (ldr 4 huntT)).length = 1 := by decide +kernel
theorem hunt_nodup : (ldr 4 huntT).Nodup := by decide +kernel

theorem hunt_ints (W : World) (N : Nat) (hk1 : W.heap[N + 1]? = some (.cells #[.int .i64 1, .int .i64 4] 3)) (hk2 : W.heap[N + 1 + 1]? = some (.cells #[.slice none 0 0, .slice (some ⟨N + 1, 0, none⟩) 2 2] 22)) : IntsAll W (.slice (some ⟨N + 1 + 1, 0, none⟩) 2 2) [[], [1, 4]] := by
  have l1 := (Array.getElem?_eq_some_iff.1 hk1).1
  have l2 := (Array.getElem?_eq_some_iff.1 hk2).1
  refine ⟨[.slice none 0 0, .slice (some ⟨N + 1, 0, none⟩) 2 2], Or.inr ⟨N + 1 + 1, 0, 2, rfl, by simp, by simp, by decide, l2, fun j hj => ?_⟩, rfl, fun j hj => ?_⟩
  · match j, hj with
    | 0, _ => simp [World.cell?, hk2]
    | 1, _ => simp [World.cell?, hk2]
  · match j, hj with
    | 0, _ => exact Or.inl ⟨rfl, none, 0, rfl⟩
    | 1, _ =>
      refine Or.inr ⟨N + 1, 0, 2, rfl, by decide, by decide, by decide, l1, fun i hi => ?_⟩
      match i, hi with
      | 0, _ => simp [World.cell?, hk1]
      | 1, _ => simp [World.cell?, hk1]


set_option maxRecDepth 20000 in
set_option maxHeartbeats 2000000 in
theorem hunt_ok (w : World) : Calls Try.prog 5 #[] w fun e w' => ∃ u, e = .returned (meth huntS 4 u) ∧ IntsAll w' u (huntT.map tpl) ∧ Below w.heap.size w w' := by
  go_enter Try.func5, Try.ntmps5
  go_wp2
  have hk0 : (((w.alloc (.cells #[.string huntS, .int .i64 4, .slice (some ⟨w.heap.size + 1 + 1, 0, none⟩) 2 2] 28)).alloc (.cells #[.int .i64 1, .int .i64 4] 3)).alloc (.cells #[.slice none 0 0, .slice (some ⟨w.heap.size + 1, 0, none⟩) 2 2] 22)).heap[w.heap.size]? = some (.cells #[.string huntS, .int .i64 4, .slice (some ⟨w.heap.size + 1 + 1, 0, none⟩) 2 2] 28) := by
    rw [Below.heap_alloc _ _ _ (by simp; omega), Below.heap_alloc _ _ _ (by simp)]
    exact heap_alloc_new w _
  have hk1 : (((w.alloc (.cells #[.string huntS, .int .i64 4, .slice (some ⟨w.heap.size + 1 + 1, 0, none⟩) 2 2] 28)).alloc (.cells #[.int .i64 1, .int .i64 4] 3)).alloc (.cells #[.slice none 0 0, .slice (some ⟨w.heap.size + 1, 0, none⟩) 2 2] 22)).heap[w.heap.size + 1]? = some (.cells #[.int .i64 1, .int .i64 4] 3) := by
    rw [Below.heap_alloc _ _ _ (by simp)]
    have h9 := heap_alloc_new (w.alloc (.cells #[.string huntS, .int .i64 4, .slice (some ⟨w.heap.size + 1 + 1, 0, none⟩) 2 2] 28)) (.cells #[.int .i64 1, .int .i64 4] 3)
    rwa [show (w.alloc (.cells #[.string huntS, .int .i64 4, .slice (some ⟨w.heap.size + 1 + 1, 0, none⟩) 2 2] 28)).heap.size = w.heap.size + 1 from by simp] at h9
  have hk2 : (((w.alloc (.cells #[.string huntS, .int .i64 4, .slice (some ⟨w.heap.size + 1 + 1, 0, none⟩) 2 2] 28)).alloc (.cells #[.int .i64 1, .int .i64 4] 3)).alloc (.cells #[.slice none 0 0, .slice (some ⟨w.heap.size + 1, 0, none⟩) 2 2] 22)).heap[w.heap.size + 1 + 1]? = some (.cells #[.slice none 0 0, .slice (some ⟨w.heap.size + 1, 0, none⟩) 2 2] 22) := by
    have h9 := heap_alloc_new ((w.alloc (.cells #[.string huntS, .int .i64 4, .slice (some ⟨w.heap.size + 1 + 1, 0, none⟩) 2 2] 28)).alloc (.cells #[.int .i64 1, .int .i64 4] 3)) (.cells #[.slice none 0 0, .slice (some ⟨w.heap.size + 1, 0, none⟩) 2 2] 22)
    rwa [show ((w.alloc (.cells #[.string huntS, .int .i64 4, .slice (some ⟨w.heap.size + 1 + 1, 0, none⟩) 2 2] 28)).alloc (.cells #[.int .i64 1, .int .i64 4] 3)).heap.size = w.heap.size + 1 + 1 from by simp] at h9
  have hB : Below w.heap.size w (((w.alloc (.cells #[.string huntS, .int .i64 4, .slice (some ⟨w.heap.size + 1 + 1, 0, none⟩) 2 2] 28)).alloc (.cells #[.int .i64 1, .int .i64 4] 3)).alloc (.cells #[.slice none 0 0, .slice (some ⟨w.heap.size + 1, 0, none⟩) 2 2] 22)) := (((Below.refl _ _).alloc (Nat.le_refl _) _).alloc (by simp) _).alloc (by simp; omega) _
  refine bodyPost_ret (results_cell_row (p := 0) (ty := 28) rfl _ _ w.heap.size 28 _ _ _ rfl hk0 Try.underlying28 rfl (by kernel_rfl)) rfl ?_
  refine ⟨_, rfl, ?_, hB⟩
  rw [show huntT.map tpl = [[], [1, 4]] from by decide]
  exact hunt_ints _ _ hk1 hk2

end Go.Proofs.Ytigiigoembpcdaa

/- The walk of TopFalse: it answers true at every input. -/
namespace Go.Proofs.Ytigiigoembpcdaa
open Go.RowKit

theorem Try.zero4 (w : World) : (zeroValue 4).run Try.prog w = .ok (.bool false) w := by kernel_rfl

/-- The map of ranks that were seen. -/
def seenF (X : List (List Int)) : Int → Option Value := fun a => if a ∈ X.map (fun x => ((rk x : Nat) : Int)) then some (.bool true) else none

theorem seenF_snoc (X : List (List Int)) (x : List Int) : upd (seenF X) ((rk x : Nat) : Int) (.bool true) = seenF (X ++ [x]) := by
  funext a
  unfold upd seenF
  by_cases e : a = ((rk x : Nat) : Int)
  · rw [if_pos e, if_pos (by simp [e])]
  · rw [if_neg e]
    by_cases h : a ∈ X.map (fun x => ((rk x : Nat) : Int))
    · rw [if_pos h, if_pos (by rw [List.map_append]; exact List.mem_append.2 (Or.inl h))]
    · rw [if_neg h, if_neg (by rw [List.map_append]; intro h2; rcases List.mem_append.1 h2 with h2 | h2
                               · exact h h2
                               · simp at h2; exact e h2)]

theorem rk_le {n : Nat} (h12 : n ≤ 12) {x : List Int} (h : Rw n x) : rk x ≤ 479001600 := by
  unfold rk; rw [rkTo_all]; exact rankR_le x (by rw [h.len]; exact h12)

set_option maxRecDepth 20000 in
set_option maxHeartbeats 400000 in
theorem topFalse_long (v : Value) (xs : List Int) (a1 a2 : Int) (w : World) (hi : Ints w v xs) (hl : 256 < xs.length) :
    Calls Try.prog 3 #[v, .int .i64 a1, .int .i64 a2] w fun e w' => e = .returned (.bool true) ∧ Below w.heap.size w w' := by
  obtain ⟨p, c, rfl⟩ := hi.form
  clear hi
  go_enter Try.func3, Try.ntmps3
  go_wp2
  go_ret
  exact ⟨rfl, Below.refl _ _⟩

set_option maxRecDepth 100000 in
set_option maxHeartbeats 8000000 in
theorem topFalse_short (v : Value) (xs : List Int) (a1 a2 : Int) (w : World) (hin : Ints w v xs) (hx : ∀ x, x ∈ xs → I64 x) (hl : xs.length ≤ 256) (h1 : I64 a1) (h2 : I64 a2) :
    Calls Try.prog 3 #[v, .int .i64 a1, .int .i64 a2] w fun e w' => e = .returned (.bool true) ∧ Below w.heap.size w w' := by
  have hmm := @run_makeMap Try.prog
  obtain ⟨p0, c0, rfl⟩ := hin.form
  have HI := hide hin
  have HX := hide hx
  obtain ⟨l1, u1⟩ := h1
  obtain ⟨l2, u2⟩ := h2
  clear hin hx
  go_enter Try.func3, Try.ntmps3
  go_wp2_with fail
  refine (hunt_ok w).mono ?_
  rintro e w1 ⟨hu, rfl, hhi, hb1⟩
  have HF0 := hide (false_ok huntS 4 hu huntT w1 (by decide) hunt_name (by decide) (by decide) (by decide) (by decide) hunt_tsz hhi)
  obtain ⟨hup, huc, rfl⟩ := hhi.len
  clear hhi
  unfold meth at HF0
  unfold meth
  go_wp2_with fail
  refine HF0.out.mono ?_
  rintro e w2 ⟨u0, vs0, X0, t0, rfl, hp0, hL0, hn0, hb2⟩
  obtain rfl : t0 = false := hn0 hunt_nodup
  have hv0 : vs0.length = 1 := by rw [hL0.len, hp0.length_eq, hunt_one]
  obtain ⟨u0p, u0c, rfl⟩ := owns_slice hL0.row
  rw [hv0]
  have hB2 : Below w.heap.size w w2 := hb1.trans (hb2.mono hb1.size)
  clear hp0 hL0 hn0 hv0 HF0 hb1 hb2
  go_wp2_with fail
  refine (pick_any _ _ _ l1 u1 (by omega) (by omega)).mono ?_
  rintro e wa ⟨q, hq0, hq1, rfl, rfl⟩
  obtain ⟨m0, rfl⟩ := Int.eq_ofNat_of_zero_le hq0
  go_wp2_with fail
  refine (pick_any _ _ _ l2 u2 (by omega) (by omega)).mono ?_
  rintro e wa ⟨q, hq2, hq3, rfl, rfl⟩
  obtain ⟨m1, rfl⟩ := Int.eq_ofNat_of_zero_le hq2
  go_wp2_with fail
  rw [show (2 + (m0 : Int)) = ((m0 + 2 : Nat) : Int) from by omega, show (1 + (m1 : Int)) = ((m1 + 1 : Nat) : Int) from by omega]
  generalize hn : m0 + 2 = n
  generalize hM : m1 + 1 = M
  have n1 : 2 ≤ n := by omega
  have n2 : n ≤ 12 := by omega
  have M1 : 1 ≤ M := by omega
  have M2 : M ≤ 14 := by omega
  clear hn hM hq0 hq1 hq2 hq3 l1 u1 l2 u2
  refine (methodOf_ok _ xs n M _ (HI.out.below hB2) HX.out (by omega) (by omega) (by omega)).mono ?_
  rintro e w3 ⟨u, vs, ts, rfl, hlen, hts, hLL, hb3⟩
  have hbA : Below w.heap.size w (w3.alloc (.cells #[.string ⟨#[84, 114, 105, 101, 100]⟩, .int .i64 (n : Int), u] 28)) := (hB2.trans (hb3.mono hB2.size)).alloc ((hB2.trans (hb3.mono hB2.size)).size) _
  have hx1 := (Box.start w3 ⟨#[84, 114, 105, 101, 100]⟩ n u 28)
  have hia : IntsAll (w3.alloc (.cells #[.string ⟨#[84, 114, 105, 101, 100]⟩, .int .i64 (n : Int), u] 28)) u (ts.map tpl) := hLL.ints.below ((Below.refl _ _).alloc (Nat.le_refl _) _)
  obtain ⟨up, uc, hue⟩ := hLL.ints.len
  rw [List.length_map, hlen] at hue
  subst hue
  have HF := hide (false_ok ⟨#[84, 114, 105, 101, 100]⟩ n _ ts _ (by decide) tried_name n1 n2 (by omega) (by omega) hts hia)
  have HRW := hide (ldr_rows hts)
  have HRL : Hid ((ldr n ts).length = M) := by show _ = _; rw [ldr_length, hlen]
  have HX1 := hide hx1
  clear hts hLL hia hlen hx1 hb3 hB2 HI HX
  unfold meth at HF
  go_wp2_with fail
  refine HF.out.mono ?_
  rintro e w4 ⟨hd, hvs, X, t, rfl, hpm, hL4, hnd, hb4⟩
  have hB4 : Below w.heap.size w w4 := hbA.trans (hb4.mono hbA.size)
  have hx4 := HX1.out.below hb4
  have g2 := hx4.c2
  have HH := hide (Hds.of n2 HRW.out hpm)
  have hXl : hvs.length = X.length := hL4.len
  have hone : M = 1 → X = [] ∧ t = false := by
    intro e
    have hL1 := HRL.out
    rw [e] at hL1
    obtain ⟨r, hr⟩ := List.length_eq_one_iff.1 hL1
    have hrw := HRW.out r (by rw [hr]; simp)
    constructor
    · have := hpm
      rw [hr, hds_one n2 hrw] at this
      exact List.perm_nil.1 this
    · exact hnd (by rw [hr]; simp)
  have hfew : X.length ≤ M * M := by have := HH.out.few; rw [HRL.out] at this; exact this
  obtain ⟨hdp, hdc, rfl⟩ := owns_slice hL4.row
  have HL4 := hide hL4
  have hLi := hL4.ints
  rw [hXl]
  rw [hXl] at hLi
  have HLI := hide hLi
  clear hpm hnd hL4 HF HX1 hx4 hb4 hbA hLi
  have HIN : Hid (M = 1 → X.length = 0 ∧ t = false) := fun e => ⟨by rw [(hone e).1]; rfl, (hone e).2⟩
  have hMM : M * M ≤ 196 := Nat.mul_le_mul M2 M2
  clear hone
  have HFW := hide hfew
  clear hXl hfew hMM
  generalize hXX : X.length = xl at *
  go_upto_region 8 with fail
  go_cut [79] from 52 (fun x wx => x = .bool false ∧ wx = w4)
  case first =>
    have hfew := HFW.out
    have hin := HIN.out
    have hxl : xl ≤ 196 := Nat.le_trans hfew (Nat.mul_le_mul M2 M2)
    clear hXX HH HLI HL4
    rcases (show M = 1 ∨ M = 2 ∨ M = 3 ∨ M = 4 ∨ M = 5 ∨ M = 6 ∨ M = 7 ∨ M = 8 ∨ M = 9 ∨ M = 10 ∨ M = 11 ∨ M = 12 ∨ M = 13 ∨ M = 14 by omega) with rfl | rfl | rfl | rfl | rfl | rfl | rfl | rfl | rfl | rfl | rfl | rfl | rfl | rfl
    · obtain ⟨rfl, rfl⟩ := hin rfl
      clear hin hfew hxl HIN HFW
      go_wp2
      go_meet
      exact ⟨rfl, rfl⟩
    all_goals
      clear hin HIN HFW
      go_wp2
      go_meet
      exact ⟨by rw [decide_eq_false (by omega)], rfl⟩
  case rest =>
    obtain ⟨rfl, rfl⟩ := hcut
    have hx2 : xl ≤ 196 := Nat.le_trans HFW.out (Nat.mul_le_mul M2 M2)
    have HXX := hide hXX
    have hzw : wc.heap.size < (wc.alloc (.map #[] 0)).heap.size := by simp
    have HM0 : Hid (IMap (wc.alloc (.map #[] 0)) wc.heap.size 0 (seenF (X.take 0))) := (IMap.made wc).congr (fun a => by unfold seenF; simp)
    have HZB := hide Try.zero4
    clear HIN HFW hXX M1 M2 HL4
    go_wp2
    go_loopw [15] (fun i wr => ∃ (k : Nat), k ≤ xl ∧ i = .int .i64 k ∧ Hid (IMap wr wc.heap.size k (seenF (X.take k))) ∧ Hid (Below wc.heap.size wc wr)) (fun i _ => xl - (intOf i).toNat)
    case atStart => exact ⟨0, by omega, rfl, HM0, (Below.refl _ _).alloc (Nat.le_refl _) _⟩
    case round =>
      clear HM0
      obtain ⟨k, hk, rfl, hM, hbl⟩ := hrel
      have hbl' := hbl.out
      have hbs := hbl'.size
      by_cases hlt : k < xl
      · have hltX : k < X.length := by rw [HXX.out]; exact hlt
        have hLI := HLI.out
        rw [← HXX.out] at hLI
        obtain ⟨b, off, cap, he, hb, hlc, hcm, hcell⟩ := hLI.cell (by omega)
        simp only [Value.slice.injEq] at he
        obtain ⟨rfl, he2, rfl⟩ := he
        clear he2
        obtain ⟨p1, c1, hce, hint⟩ := hcell k hltX
        have hmem : X.getD k [] ∈ X := by rw [List.getD_eq_getElem?_getD, List.getElem?_eq_getElem hltX]; exact List.getElem_mem hltX
        have hRw := HH.out.rows _ hmem
        have gp : wr.cell? ⟨b, off + k, none⟩ = some (.slice p1 (X.getD k []).length c1) := (hbl'.cell (by exact hb)).trans hce
        have hrank := rank_ok _ _ wr (hint.out.below hbl') hRw.row (by rw [hRw.len]; omega) (by rw [hRw.len]; exact n2)
        have hpos := rk_pos hRw (HH.out.pos _ hmem)
        have hle := rk_le n2 hRw
        have htk : X.take (k + 1) = X.take k ++ [X.getD k []] := by
          rw [List.take_add_one, List.getElem?_eq_getElem hltX]; simp [List.getD, List.getElem?_eq_getElem hltX]
        have hnew : seenF (X.take k) ((rk (X.getD k []) : Nat) : Int) = none := by
          unfold seenF
          rw [if_neg]
          intro hm
          obtain ⟨y, hy, hye⟩ := List.mem_map.1 hm
          have hyr := HH.out.rows y (List.mem_of_mem_take hy)
          have e : y = X.getD k [] := rk_inj hyr hRw (by omega)
          have hnd := HH.out.nodup
          have e2 : X = X.take k ++ (X.getD k [] :: X.drop (k + 1)) := by
            have := List.take_append_drop k X
            rw [List.drop_eq_getElem_cons hltX] at this
            rw [List.getD_eq_getElem?_getD, List.getElem?_eq_getElem hltX, Option.getD_some]
            exact this.symm
          rw [e2] at hnd
          exact (List.nodup_append.1 hnd).2.2 _ hy _ List.mem_cons_self e
        have HSN := hide (seenF_snoc (X.take k) (X.getD k []))
        rw [← htk] at HSN
        rw [show rkTo (X.getD k []) (X.getD k []).length = rk (X.getD k []) from rfl] at hrank
        have HRK := hide hrank
        have HNW := hide hnew
        clear hce hint hrank hnew htk hmem hcell hLI hRw hltX
        generalize rk (X.getD k []) = R at *
        generalize (X.getD k []).length = rl at *
        have hR0 : (((R : Nat) : Int) == 0) = false := by rw [beq_eq_false_iff_ne]; omega
        have hMl := hM.out.lt
        clear hpos
        go_wp2_with fail
        refine HRK.out.mono ?_
        rintro e w6 ⟨rfl, hb6⟩
        have hM6 := hM.out.below hb6 hMl
        have hlook := hM6.look Try.underlying32 (HZB.out _) (a := (R : Int)) (by omega) (by omega)
        rw [HNW.out] at hlook
        obtain ⟨w7, hput, hM7, hg7⟩ := hM6.put Try.underlying32 (show k < maxLen by unfold maxLen; omega) (a := (R : Int)) (by omega) (by omega) (.bool true)
        rw [HSN.out] at hM7
        have HM7 := hide hM7
        have HB7 : Hid (Below wc.heap.size wc w7) := (hbl'.trans (hb6.mono hbs)).grown hg7 ((hbl'.trans (hb6.mono hbs)).size) (fun g hg => by cases hg; exact Nat.le_refl _)
        clear hM6 hM7 hg7 hb6 hM hbl hbl'
        go_wp2
        go_roundw
        case rel => exact ⟨k + 1, by omega, by go_num, HM7, HB7⟩
        case measure => simp [intOf]; omega
      · have hkx : k = xl := by omega
        have HMF : Hid (IMap wr wc.heap.size k (seenF X)) := by
          have h9 := hM.out
          rw [List.take_of_length_le (by rw [HXX.out]; omega)] at h9
          exact h9
        have HBR := hide hbl'
        clear hkx hM hbl hbl' hk
        go_wp2
        go_loopw [18] (fun i wz => ∃ (j : Nat), j ≤ xl ∧ i = .int .i64 j ∧ Hid (IMap wz wc.heap.size k (seenF X)) ∧ Hid (Below wc.heap.size wc wz)) (fun i _ => xl - (intOf i).toNat)
        case atStart => exact ⟨0, by omega, rfl, HMF, HBR⟩
        case round =>
          clear HMF HBR hlt
          obtain ⟨j, hj, rfl, hM, hbl⟩ := hrel
          have hbl' := hbl.out
          have hbs := hbl'.size
          by_cases hlt : j < xl
          · have hltX : j < X.length := by rw [HXX.out]; exact hlt
            have hLI := HLI.out
            rw [← HXX.out] at hLI
            obtain ⟨b, off, cap, he, hb, hlc, hcm, hcell⟩ := hLI.cell (by omega)
            simp only [Value.slice.injEq] at he
            obtain ⟨rfl, he2, rfl⟩ := he
            clear he2
            obtain ⟨p1, c1, hce, hint⟩ := hcell j hltX
            have hmem : X.getD j [] ∈ X := by rw [List.getD_eq_getElem?_getD, List.getElem?_eq_getElem hltX]; exact List.getElem_mem hltX
            have hRw := HH.out.rows _ hmem
            have gp : wr.cell? ⟨b, off + j, none⟩ = some (.slice p1 (X.getD j []).length c1) := (hbl'.cell (by exact hb)).trans hce
            have HUN := hide (undo_ok _ _ wr (hint.out.below hbl') hRw.row (by rw [hRw.len]; omega) (by rw [hRw.len]; exact n2))
            have HUU : Hid (∀ zs, Undoes zs (X.getD j []) → zs = un (X.getD j [])) := fun zs h => undoes_un hRw.row h
            have HUR := hide hRw.un
            have HIN2 := hide (HH.out.back _ hmem)
            clear hce hint hmem hcell hLI hRw hltX
            generalize un (X.getD j []) = U at *
            have hMl := hM.out.lt
            have HGL : Hid (X.getD j [] = X.getD j []) := rfl
            generalize (X.getD j []).length = rl at *
            go_wp2_with fail
            refine HUN.out.mono ?_
            rintro e w6 ⟨uv, zs, rfl, hui, huu, hb6⟩
            obtain rfl := HUU.out zs huu
            have hb06 := hbl'.trans (hb6.mono hbs)
            have hM6 := hM.out.below hb6 hMl
            have hrank := rrank_ok uv _ w6 hui HUR.out.row (by rw [HUR.out.len]; omega) (by rw [HUR.out.len]; exact n2)
            have hle := rk_le n2 HUR.out
            have hin : seenF X ((rk zs : Nat) : Int) = some (.bool true) := by
              unfold seenF
              rw [if_pos (List.mem_map.2 ⟨zs, HIN2.out, rfl⟩)]
            rw [show rkTo zs zs.length = rk zs from rfl] at hrank
            have HRK := hide hrank
            have HNW := hide hin
            obtain ⟨up1, uc1, rfl⟩ := hui.form
            clear hrank hin huu HUN HUU hui
            generalize rk zs = R at *
            generalize zs.length = zl at *
            have hMl6 := hM6.lt
            go_wp2_with fail
            refine HRK.out.mono ?_
            rintro e w7 ⟨rfl, hb7⟩
            have hM7 := hM6.below hb7 hMl6
            have hlook := hM7.look Try.underlying32 (HZB.out _) (a := (R : Int)) (by omega) (by omega)
            rw [HNW.out] at hlook
            have HM7 := hide hM7
            have HB7 : Hid (Below wc.heap.size wc w7) := hb06.trans (hb7.mono hb06.size)
            clear hM6 hM7 hb6 hb7 hM hbl hbl' hb06
            go_wp2
            go_roundw
            case rel => exact ⟨j + 1, by omega, by go_num, HM7, HB7⟩
            case measure => simp [intOf]; omega
          · have HEND : Hid (Below w.heap.size w wr) := hB4.trans (hbl'.mono hB4.size)
            clear hM hbl hbl'
            go_wp2
            go_ret
            exact ⟨rfl, HEND.out⟩

theorem topFalse_walk (v : Value) (xs : List Int) (a1 a2 : Int) (w : World) (hin : Ints w v xs) (hx : ∀ x, x ∈ xs → I64 x) (h1 : I64 a1) (h2 : I64 a2) :
    Calls Try.prog 3 #[v, .int .i64 a1, .int .i64 a2] w fun e w' => e = .returned (.bool true) ∧ Below w.heap.size w w' := by
  by_cases hl : xs.length ≤ 256
  · exact topFalse_short v xs a1 a2 w hin hx hl h1 h2
  · exact topFalse_long v xs a1 a2 w hin (by omega)

end Go.Proofs.Ytigiigoembpcdaa
