/- Contracts: method.Head, courseFits, method.Course, MethodOf. -/
import Derived.Test.YtfhcelanjilbiaaLead
namespace Go.Proofs.Ytfhcelanjilbiaa
open Go.RowKit

theorem LL.at {w : World} {base : Nat} {v : Value} {vs : List Value} {xss : List (List Int)} (h : LL w base v vs xss) {k : Nat} (hk : k < xss.length) : w.ownsRow base 3 1 (vs.getD k undef) (xss.getD k []).length ((xss.getD k []).map (Value.int .i64)) :=
  ownAll_at h.all (by rw [h.len]; exact hk)

set_option maxRecDepth 20000 in
set_option maxHeartbeats 2000000 in
theorem head_ok (s : ByteArray) (n : Nat) (v : Value) (ts : List (List Bool)) (w : World) (hs : s.size ≤ 9223372036854775807) (hn : nm s = true) (h1 : 2 ≤ n) (h2 : n ≤ 12) (hl1 : 1 ≤ ts.length) (hl2 : ts.length ≤ 200) (hts : ∀ t, t ∈ ts → tsz t = n)
    (hv : IntsAll w v (ts.map tpl)) :
    Calls Try.prog 49 #[meth s n v] w fun e w' => ∃ u, e = .returned (.tuple #[u, .int .i64 ((ord (prd n ts) : Nat) : Int), .int .i64 0]) ∧ w'.ownsRow w.heap.size 3 1 u n ((prd n ts).map (Value.int .i64)) ∧ Below w.heap.size w w' := by
  have HLD := hide (fun W (hb : Below w.heap.size w W) => lead_ok s n v ts W hs hn h1 h2 hl1 hl2 hts (hv.below hb))
  have hpr := prd_row n ts hts
  have HPR := hide hpr
  obtain ⟨vp, vc, hve⟩ := hv.len
  rw [List.length_map] at hve
  subst hve
  clear hn hv hts hpr
  unfold meth at HLD ⊢
  go_enter Try.func49, Try.ntmps49
  go_wp2_with fail
  refine (HLD.out _ ((Below.refl _ _).alloc (Nat.le_refl _) _)).mono ?_
  rintro e w1 ⟨u, us, rfl, hL, hb1⟩
  have hB : Below w.heap.size w w1 := ((Below.refl _ _).alloc (Nat.le_refl _) _).trans (hb1.mono (by simp))
  have hlen := leadTo_length n ts ts.length
  have hat := hL.at (k := ts.length) (by omega)
  rw [leadTo_get (Nat.le_refl _), List.take_length, HPR.out.2] at hat
  have hul : us.length = ts.length + 1 := by rw [hL.len, hlen]
  obtain ⟨g, cap, hue, hg1, hg2, hcap, hcap2⟩ := owns_form hL.row (by omega)
  have hrow := hL.row
  rw [hue] at hrow
  have hcv := owns_val hrow (j := ts.length) (by omega)
  rw [hul] at hue
  subst hue
  obtain ⟨p, c, hf⟩ := owns_slice hat
  rw [hf] at hat hcv
  have hx : RowAt w1 (.slice p n c) n (prd n ts) := RowAt.own hat HPR.out.1
  have HAT := hide (owns_base hat (show w.heap.size ≤ (w.alloc (.cells #[.string s, .int .i64 (n : Int), .slice vp ts.length vc] 66)).heap.size + 1 by simp; omega))
  have HOR := hide (order_ord (by omega) h2 hx)
  clear hL hat hrow hx HPR HLD hb1 hf hul hlen
  go_wp2_with fail
  refine HOR.out.mono ?_
  rintro e w2 ⟨rfl, ho1, ho2, hb2⟩
  have hB2 := hB.trans (hb2.mono hB.size)
  have HAT2 := hide (owns_below HAT.out hb2 (Nat.le_refl _))
  clear HAT HOR
  go_wp2
  go_ret3
  exact ⟨_, rfl, HAT2.out, hB2⟩

set_option maxHeartbeats 400000 in
theorem fits_any (a b : Nat) (w : World) (h : a * b ≤ 9223372036854775807) :
    Calls Try.prog 72 #[.int .i64 a, .int .i64 b] w fun e w' => e = .returned (.bool (decide (a * b ≤ 20000))) ∧ w = w' := by
  have h0 : 0 ≤ (a : Int) * (b : Int) := by rw [← Int.natCast_mul]; omega
  have h1 : (a : Int) * (b : Int) ≤ 9223372036854775807 := by rw [← Int.natCast_mul]; omega
  go_enter Try.func72, Try.ntmps72
  go_wp2
  go_ret
  refine ⟨ret_bool ?_, rfl⟩
  rw [Bool.eq_iff_iff, decide_eq_true_iff, decide_eq_true_iff, ← Int.natCast_mul]
  omega

/-- The first rows of a course. -/
def crs (n : Nat) (ts : List (List Bool)) (c : Nat) : List (List Int) := (List.range c).map (fun i => by_ (pw (prd n ts) (i / ts.length)) (prd n (ts.take (i % ts.length))))

theorem crs_snoc (n : Nat) (ts : List (List Bool)) (a b : Nat) (hb : b < ts.length) : crs n ts (a * ts.length + b + 1) = crs n ts (a * ts.length + b) ++ [by_ (pw (prd n ts) a) (prd n (ts.take b))] := by
  unfold crs
  rw [List.range_succ, List.map_append]
  have h1 : (a * ts.length + b) / ts.length = a := by
    rw [Nat.mul_comm, Nat.mul_add_div (by omega), Nat.div_eq_of_lt hb, Nat.add_zero]
  have h2 : (a * ts.length + b) % ts.length = b := by
    rw [Nat.mul_comm, Nat.mul_add_mod, Nat.mod_eq_of_lt hb]
  simp only [List.map_cons, List.map_nil, h1, h2]

theorem crs_length (n : Nat) (ts : List (List Bool)) (c : Nat) : (crs n ts c).length = c := by simp [crs]

theorem crs_get {n c i : Nat} {ts : List (List Bool)} (h : i < c) : (crs n ts c).getD i [] = by_ (pw (prd n ts) (i / ts.length)) (prd n (ts.take (i % ts.length))) := by simp [crs, List.getD, h]

theorem pw_zero (r : List Int) : pw r 0 = rnd r.length := by unfold pw rnd; rfl

/-- What the loops of Course know. -/
structure CrsRel (w3 wr : World) (n : Nat) (ts : List (List Bool)) (a b : Nat) (f u : Value) (vs : List Value) : Prop where
  ll : LL wr w3.heap.size u vs (crs n ts (a * ts.length + b))
  row : wr.ownsRow w3.heap.size 3 1 f n ((pw (prd n ts) a).map (Value.int .i64))
  below : Below w3.heap.size w3 wr

set_option maxRecDepth 20000 in
set_option maxHeartbeats 8000000 in
theorem course_ok (s : ByteArray) (n : Nat) (v : Value) (ts : List (List Bool)) (w : World) (hs : s.size ≤ 9223372036854775807) (hn : nm s = true) (h1 : 2 ≤ n) (h2 : n ≤ 12) (hl1 : 1 ≤ ts.length) (hl2 : ts.length ≤ 200) (hts : ∀ t, t ∈ ts → tsz t = n)
    (hv : IntsAll w v (ts.map tpl)) (hfit : ord (prd n ts) * ts.length ≤ 20000) :
    Calls Try.prog 48 #[meth s n v] w fun e w' => ∃ u vs, e = .returned (.tuple #[u, .int .i64 0]) ∧ LL w' w.heap.size u vs (crs n ts (ord (prd n ts) * ts.length)) ∧ Below w.heap.size w w' := by
  obtain ⟨i0, hi, hz0, hz1, hz2⟩ := info_parts Try.info22
  have HLD := hide (fun W (hb : Below w.heap.size w W) => lead_ok s n v ts W hs hn h1 h2 hl1 hl2 hts (hv.below hb))
  have HHD := hide (fun W (hb : Below w.heap.size w W) => head_ok s n v ts W hs hn h1 h2 hl1 hl2 hts (hv.below hb))
  have HPR := hide (prd_row n ts hts)
  have HROW := hide (fun j => prd_row n (ts.take j) (fun t ht => hts t (List.mem_of_mem_take ht)))
  obtain ⟨vp, vc, hve⟩ := hv.len
  rw [List.length_map] at hve
  subst hve
  have HFI := hide hfit
  have ho1 := (ord_pos HPR.out.1 (by rw [HPR.out.2]; omega)).1
  have ho2 : ord (prd n ts) ≤ 20000 := Nat.le_trans (Nat.le_mul_of_pos_right _ (by omega)) hfit
  clear hn hv hts hfit
  unfold meth at HLD HHD ⊢
  go_enter Try.func48, Try.ntmps48
  go_wp2_with fail
  refine (HLD.out _ ((Below.refl _ _).alloc (Nat.le_refl _) _)).mono ?_
  rintro e w1 ⟨ru, rus, rfl, hL, hb1⟩
  have hx1 := (Box.start w s n (.slice vp ts.length vc) 66).below hb1
  have hB : Below w.heap.size w w1 := ((Below.refl _ _).alloc (Nat.le_refl _) _).trans (hb1.mono (by simp))
  have g0 := hx1.c0
  have g1 := hx1.c1
  have g2 := hx1.c2
  have HX1 := hide hx1
  have HL := hide hL
  clear hb1 HLD hx1 hL
  go_wp2_with fail
  refine (HHD.out _ hB).mono ?_
  rintro e w2 ⟨hu, rfl, hhu, hb2⟩
  have hB2 := hB.trans (hb2.mono hB.size)
  have hx2 := HX1.out.below hb2
  have g1 := hx2.c1
  have g2 := hx2.c2
  have HX2 := hide hx2
  have HHU := hide hhu
  have HL2 := hide (HL.out.below hb2)
  have hfit' : decide (ord (prd n ts) * ts.length ≤ 20000) = true := decide_eq_true HFI.out
  have HF := hide (fits_any (ord (prd n ts)) ts.length w2 (by have := HFI.out; omega))
  rw [hfit'] at HF
  clear hb2 HHD HX1 HL hhu hx2 hB hfit'
  go_wp2_with fail
  refine HF.out.mono ?_
  rintro e w' ⟨rfl, rfl⟩
  -- the rows of the lead, written out
  obtain ⟨rb, ro, rc, hre, hrb, hrc1, hrc2, hrcell⟩ := HL2.out.ints.cell (by rw [leadTo_length]; omega)
  rw [leadTo_length] at hre hrc1 hrcell
  subst hre
  have HRC := hide hrcell
  obtain ⟨hp, hc, hhe⟩ := owns_slice HHU.out
  subst hhe
  generalize hO : ord (prd n ts) = O at *
  have HO := hide hO
  clear hrcell HL2 hO
  go_wp2_with fail
  refine (rounds_ok n w2 (by omega) h2).mono ?_
  rintro e w3 ⟨f0, rfl, hf0, hb3⟩
  have HR0 : Hid (CrsRel w2 w3 n ts 0 0 f0 (.slice none 0 0) []) := by
    refine ⟨?_, by rw [pw_zero, HPR.out.2]; exact hf0, hb3⟩
    rw [Nat.zero_mul]; exact LL.nil _ _
  clear hf0 hb3 g0 g1 g2 HF
  go_wp2
  go_loopw [10, 9, 43] (fun f u i wr => ∃ (a : Nat) (vs : List Value), a ≤ O ∧ i = .int .i64 a ∧ Hid (vs.length = a * ts.length) ∧ Hid (CrsRel w2 wr n ts a 0 f u vs)) (fun _ _ i _ => O - (intOf i).toNat)
  case atStart => exact ⟨0, [], by omega, rfl, (show ([] : List Value).length = 0 * ts.length by simp), HR0⟩
  case round =>
    obtain ⟨a, vs, ha, rfl, hlv, hR⟩ := hrel
    clear HR0
    by_cases hlt : a < O
    · have gb := (HX2.out.below hR.out.below).c2
      have HPW := hide (isRow_pw HPR.out.1 a)
      have HPL : Hid ((pw (prd n ts) a).length = n) := by show _ = _; rw [pw_length, HPR.out.2]
      have HMM : Hid (a * ts.length + ts.length ≤ 20000) := by
        show _ ≤ _
        have e1 := HFI.out
        have e2 : (a + 1) * ts.length ≤ O * ts.length := Nat.mul_le_mul_right _ hlt
        rw [Nat.add_mul, Nat.one_mul] at e2
        omega
      go_wp2
      go_loopw [9, 51] (fun u i wq => ∃ (b : Nat) (vs : List Value), b ≤ ts.length ∧ i = .int .i64 b ∧ Hid (vs.length = a * ts.length + b) ∧ Hid (CrsRel w2 wq n ts a b u10 u vs)) (fun _ i _ => ts.length - (intOf i).toNat)
      case atStart => exact ⟨0, vs, by omega, rfl, hlv, hR⟩
      case round =>
        obtain ⟨b, vs, hb, rfl, hlv, hR⟩ := hrel
        clear gb
        have hbw := hR.out.below
        have hbs := hbw.size
        by_cases hbl : b < ts.length
        · obtain ⟨rp, rcc, hcx, hix⟩ := HRC.out b (by omega)
          rw [leadTo_get (by omega)] at hcx hix
          have gx := (hbw.cell (p := ⟨rb, ro + b, none⟩) (by exact hrb)).trans hcx
          have hrr := HROW.out b
          have HT := hide (times_own _ _ (pw (prd n ts) a) (prd n (ts.take b)) wr (Ints.own hR.out.row) (hix.out.below hbw) HPW.out hrr.1 (by rw [HPL.out]; omega) (by rw [HPL.out]; omega) (by rw [HPL.out, hrr.2]))
          rw [HPL.out] at HT
          have HCS := hide (crs_snoc n ts a b hbl)
          have hcnt : vs.length ≤ 20000 := by have := hlv.out; have := HMM.out; omega
          clear hcx hix
          rw [hrr.2] at gx HT
          clear hrr
          go_wp2_with fail
          refine HT.out.mono ?_
          rintro e w4 ⟨rn, rfl, hrn, hb4⟩
          obtain ⟨g', rc', rfl, hg3, hg4, hrc3, hrc4⟩ := owns_form hrn (by omega)
          have hL4 := hR.out.ll.below hb4
          have hrow4 := hL4.row
          have HL4 := hide hL4
          have HRN := hide (owns_base hrn hbs)
          have HF4 := hide (owns_below hR.out.row hb4 (Nat.le_refl _))
          have hbw4 := hbw.trans (hb4.mono hbs)
          have hbs4 := hbw4.size
          generalize hvl : vs.length = VL at *
          have HVL := hide hvl
          clear hrn hL4 HT hb4 hR hbw gx hvl
          go_wp2_with (at_builtin; refine wpList_append_own _ rfl _ _ 25 rfl w2.heap.size 22 i0 (.slice none 0 0) 1 24 Try.underlying25 hi hz0 hz1 hz2 rfl (by decide) _ _ _ rfl (hrow4.alloc _) ⟨w4.heap.size, 0, none⟩ 1 1 [.slice (some ⟨g', 0, none⟩) n rc'] rfl rfl ?c1 ?c2 ?c3 ?c4 ?c5 ?_)
          case c1 => exact cell_one_new _ _ _
          case c2 => intro u hu; simp at hu; subst hu; rfl
          case c3 => unfold maxLen; omega
          case c4 => omega
          case c5 => simp; omega
          · intro v' w5 hown5 hgrow _
            have HR5 : Hid (CrsRel w2 w5 n ts a (b + 1) u10 v' (vs ++ [.slice (some ⟨g', 0, none⟩) n rc'])) := by
              refine ⟨?_, HL4.out.kept HF4.out hgrow, HL4.out.step hbw4 (Nat.le_refl _) hbs4 hgrow⟩
              rw [← Nat.add_assoc, HCS.out]
              refine HL4.out.push ?_ (by rw [HVL.out]; exact hown5) hgrow
              have h9 := HRN.out.1
              rw [show (by_ (pw (prd n ts) a) (prd n (ts.take b))).length = n from by simpa using h9]
              exact HRN.out
            have HLV : Hid ((vs ++ [Value.slice (some ⟨g', 0, none⟩) n rc']).length = a * ts.length + (b + 1)) := by show _ = _; rw [List.length_append, HVL.out, hlv.out]; rfl
            clear hown5 hgrow hrow4
            go_wp2
            go_roundw
            case rel => exact ⟨b + 1, _, by omega, by go_num, HLV, HR5⟩
            case measure => simp [intOf]; omega
        · obtain rfl : ts.length = b := by omega
          have HHW := hide (owns_below HHU.out hbw (Nat.le_refl _))
          have HT := hide (times_own _ _ (pw (prd n ts) a) (prd n ts) wr (Ints.own hR.out.row) (Ints.own HHW.out) HPW.out HPR.out.1 (by rw [HPL.out]; omega) (by rw [HPL.out]; omega) (by rw [HPL.out, HPR.out.2]))
          rw [HPL.out, pw_succ HPR.out.1] at HT
          go_wp2_with fail
          refine HT.out.mono ?_
          rintro e w4 ⟨rn, rfl, hrn, hb4⟩
          have HR5 : Hid (CrsRel w2 w4 n ts (a + 1) 0 rn u9 vs) := by
            refine ⟨?_, owns_base hrn hbs, hbw.trans (hb4.mono hbs)⟩
            rw [Nat.add_zero, Nat.add_mul, Nat.one_mul]
            exact hR.out.ll.below hb4
          have HLV : Hid (vs.length = (a + 1) * ts.length) := by show _ = _; rw [hlv.out, Nat.add_mul, Nat.one_mul]
          clear hrn hb4 hR HT hbw
          go_wp2
          go_roundw
          case rel => exact ⟨a + 1, vs, by omega, by go_num, HLV, HR5⟩
          case measure => simp [intOf]; omega
    · obtain rfl : O = a := by omega
      go_wp2
      go_ret2
      have h9 := hR.out.ll.low hB2.size
      rw [Nat.add_zero, ← HO.out] at h9
      exact ⟨_, vs, rfl, h9, hB2.trans (hR.out.below.mono hB2.size)⟩

end Go.Proofs.Ytfhcelanjilbiaa
