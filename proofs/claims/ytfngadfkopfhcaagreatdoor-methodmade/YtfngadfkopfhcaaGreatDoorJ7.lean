/- Joined: Course, MsA, MsB, CpA, CpB, MsJ, Mach, RAs, PSb. -/
import Derived.Test.YtfngadfkopfhcaaGreatDoorJ6
import Derived.Test.YtfngadfkopfhcaaGreatDoorJ0
import Derived.Shelf.Strings.Builder1
import Derived.Shelf.Utf8.AppendRunePlain
import Derived.Shelf.Strconv.Itoa1
import Derived.Shelf.Strings.Builder2
import Derived.Test.YtfngadfkopfhcaaGreatDoorJ3
import Derived.Test.YtfngadfkopfhcaaGreatDoorJ1
import Derived.Test.YtfngadfkopfhcaaGreatDoorJ2
/- Contracts: method.Head, courseFits, method.Course, MethodOf. -/
namespace Go.Proofs.YtfngadfkopfhcaaGreatDoor
open Go.RowKit

set_option maxRecDepth 20000 in
set_option maxHeartbeats 2000000 in
theorem head_ok (s : ByteArray) (n : Nat) (v : Value) (ts : List (List Bool)) (w : World) (hs : s.size ≤ 9223372036854775807) (hn : nm s = true) (h1 : 2 ≤ n) (h2 : n ≤ 12) (hl1 : 1 ≤ ts.length) (hl2 : ts.length ≤ 200) (hts : ∀ t, t ∈ ts → tsz t = n)
    (hv : IntsAll w v (ts.map tpl)) :
    Calls Tryz.prog 9 #[meth s n v] w fun e w' => ∃ u, e = .returned (.tuple #[u, .int .i64 ((ord (prd n ts) : Nat) : Int), .int .i64 0]) ∧ w'.ownsRow w.heap.size 3 1 u n ((prd n ts).map (Value.int .i64)) ∧ Below w.heap.size w w' := by
  have HLD := hide (fun W (hb : Below w.heap.size w W) => lead_ok s n v ts W hs hn h1 h2 hl1 hl2 hts (hv.below hb))
  have hpr := prd_row n ts hts
  have HPR := hide hpr
  obtain ⟨vp, vc, hve⟩ := hv.len
  rw [List.length_map] at hve
  subst hve
  clear hn hv hts hpr
  unfold meth at HLD ⊢
  go_enter Tryz.func9, Tryz.ntmps9
  go_wp2_with fail
  refine (HLD.out _ ((Below.refl _ _).alloc (Nat.le_refl _) _)).mono ?_
  rintro e w1 ⟨u, us, rfl, hL, hb1⟩
  have hB : Below w.heap.size w w1 := ((Below.refl _ _).alloc (Nat.le_refl _) _).trans (hb1.mono (by simp))
  have hlen := leadTo_length n ts ts.length
  have hat := hL.at (k := ts.length) (by omega)
  rw [leadTo_get (Nat.le_refl _), List.take_length, HPR.out.2] at hat
  have hul : us.length = ts.length + 1 := by rw [hL.len, hlen]
  obtain ⟨g, cap, hue, hg1, hg2, hcap, hcap2⟩ := owns_form hL.row (by omega)
  have hrow := hL.row
  rw [hue] at hrow
  have hcv := owns_val hrow (j := ts.length) (by omega)
  rw [hul] at hue
  subst hue
  obtain ⟨p, c, hf⟩ := owns_slice hat
  rw [hf] at hat hcv
  have hx : RowAt w1 (.slice p n c) n (prd n ts) := RowAt.own hat HPR.out.1
  have HAT := hide (owns_base hat (show w.heap.size ≤ (w.alloc (.cells #[.string s, .int .i64 (n : Int), .slice vp ts.length vc] 24)).heap.size + 1 by simp; omega))
  have HOR := hide (order_ord (by omega) h2 hx)
  clear hL hat hrow hx HPR HLD hb1 hf hul hlen
  go_wp2_with fail
  refine HOR.out.mono ?_
  rintro e w2 ⟨rfl, ho1, ho2, hb2⟩
  have hB2 := hB.trans (hb2.mono hB.size)
  have HAT2 := hide (owns_below HAT.out hb2 (Nat.le_refl _))
  clear HAT HOR
  go_wp2
  go_ret3
  exact ⟨_, rfl, HAT2.out, hB2⟩

set_option maxHeartbeats 400000 in
theorem fits_any (a b : Nat) (w : World) (h : a * b ≤ 9223372036854775807) :
    Calls Tryz.prog 64 #[.int .i64 a, .int .i64 b] w fun e w' => e = .returned (.bool (decide (a * b ≤ 20000))) ∧ w = w' := by
  have h0 : 0 ≤ (a : Int) * (b : Int) := by rw [← Int.natCast_mul]; omega
  have h1 : (a : Int) * (b : Int) ≤ 9223372036854775807 := by rw [← Int.natCast_mul]; omega
  go_enter Tryz.func64, Tryz.ntmps64
  go_wp2
  go_ret
  refine ⟨ret_bool ?_, rfl⟩
  rw [Bool.eq_iff_iff, decide_eq_true_iff, decide_eq_true_iff, ← Int.natCast_mul]
  omega

/-- The first rows of a course. -/
def crs (n : Nat) (ts : List (List Bool)) (c : Nat) : List (List Int) := (List.range c).map (fun i => by_ (pw (prd n ts) (i / ts.length)) (prd n (ts.take (i % ts.length))))

theorem crs_snoc (n : Nat) (ts : List (List Bool)) (a b : Nat) (hb : b < ts.length) : crs n ts (a * ts.length + b + 1) = crs n ts (a * ts.length + b) ++ [by_ (pw (prd n ts) a) (prd n (ts.take b))] := by
  unfold crs
  rw [List.range_succ, List.map_append]
  have h1 : (a * ts.length + b) / ts.length = a := by
    rw [Nat.mul_comm, Nat.mul_add_div (by omega), Nat.div_eq_of_lt hb, Nat.add_zero]
  have h2 : (a * ts.length + b) % ts.length = b := by
    rw [Nat.mul_comm, Nat.mul_add_mod, Nat.mod_eq_of_lt hb]
  simp only [List.map_cons, List.map_nil, h1, h2]

theorem crs_length (n : Nat) (ts : List (List Bool)) (c : Nat) : (crs n ts c).length = c := by simp [crs]

theorem crs_get {n c i : Nat} {ts : List (List Bool)} (h : i < c) : (crs n ts c).getD i [] = by_ (pw (prd n ts) (i / ts.length)) (prd n (ts.take (i % ts.length))) := by simp [crs, List.getD, h]

theorem pw_zero (r : List Int) : pw r 0 = rnd r.length := by unfold pw rnd; rfl

/-- What the loops of Course know. -/
structure CrsRel (w3 wr : World) (n : Nat) (ts : List (List Bool)) (a b : Nat) (f u : Value) (vs : List Value) : Prop where
  ll : LL wr w3.heap.size u vs (crs n ts (a * ts.length + b))
  row : wr.ownsRow w3.heap.size 3 1 f n ((pw (prd n ts) a).map (Value.int .i64))
  below : Below w3.heap.size w3 wr

set_option maxRecDepth 20000 in
set_option maxHeartbeats 8000000 in
theorem course_ok (s : ByteArray) (n : Nat) (v : Value) (ts : List (List Bool)) (w : World) (hs : s.size ≤ 9223372036854775807) (hn : nm s = true) (h1 : 2 ≤ n) (h2 : n ≤ 12) (hl1 : 1 ≤ ts.length) (hl2 : ts.length ≤ 200) (hts : ∀ t, t ∈ ts → tsz t = n)
    (hv : IntsAll w v (ts.map tpl)) (hfit : ord (prd n ts) * ts.length ≤ 20000) :
    Calls Tryz.prog 46 #[meth s n v] w fun e w' => ∃ u vs, e = .returned (.tuple #[u, .int .i64 0]) ∧ LL w' w.heap.size u vs (crs n ts (ord (prd n ts) * ts.length)) ∧ Below w.heap.size w w' := by
  obtain ⟨i0, hi, hz0, hz1, hz2⟩ := info_parts Tryz.info30
  have HLD := hide (fun W (hb : Below w.heap.size w W) => lead_ok s n v ts W hs hn h1 h2 hl1 hl2 hts (hv.below hb))
  have HHD := hide (fun W (hb : Below w.heap.size w W) => head_ok s n v ts W hs hn h1 h2 hl1 hl2 hts (hv.below hb))
  have HPR := hide (prd_row n ts hts)
  have HROW := hide (fun j => prd_row n (ts.take j) (fun t ht => hts t (List.mem_of_mem_take ht)))
  obtain ⟨vp, vc, hve⟩ := hv.len
  rw [List.length_map] at hve
  subst hve
  have HFI := hide hfit
  have ho1 := (ord_pos HPR.out.1 (by rw [HPR.out.2]; omega)).1
  have ho2 : ord (prd n ts) ≤ 20000 := Nat.le_trans (Nat.le_mul_of_pos_right _ (by omega)) hfit
  clear hn hv hts hfit
  unfold meth at HLD HHD ⊢
  go_enter Tryz.func46, Tryz.ntmps46
  go_wp2_with fail
  refine (HLD.out _ ((Below.refl _ _).alloc (Nat.le_refl _) _)).mono ?_
  rintro e w1 ⟨ru, rus, rfl, hL, hb1⟩
  have hx1 := (Box.start w s n (.slice vp ts.length vc) 24).below hb1
  have hB : Below w.heap.size w w1 := ((Below.refl _ _).alloc (Nat.le_refl _) _).trans (hb1.mono (by simp))
  have g0 := hx1.c0
  have g1 := hx1.c1
  have g2 := hx1.c2
  have HX1 := hide hx1
  have HL := hide hL
  clear hb1 HLD hx1 hL
  go_wp2_with fail
  refine (HHD.out _ hB).mono ?_
  rintro e w2 ⟨hu, rfl, hhu, hb2⟩
  have hB2 := hB.trans (hb2.mono hB.size)
  have hx2 := HX1.out.below hb2
  have g1 := hx2.c1
  have g2 := hx2.c2
  have HX2 := hide hx2
  have HHU := hide hhu
  have HL2 := hide (HL.out.below hb2)
  have hfit' : decide (ord (prd n ts) * ts.length ≤ 20000) = true := decide_eq_true HFI.out
  have HF := hide (fits_any (ord (prd n ts)) ts.length w2 (by have := HFI.out; omega))
  rw [hfit'] at HF
  clear hb2 HHD HX1 HL hhu hx2 hB hfit'
  go_wp2_with fail
  refine HF.out.mono ?_
  rintro e w' ⟨rfl, rfl⟩
  -- the rows of the lead, written out
  obtain ⟨rb, ro, rc, hre, hrb, hrc1, hrc2, hrcell⟩ := HL2.out.ints.cell (by rw [leadTo_length]; omega)
  rw [leadTo_length] at hre hrc1 hrcell
  subst hre
  have HRC := hide hrcell
  obtain ⟨hp, hc, hhe⟩ := owns_slice HHU.out
  subst hhe
  generalize hO : ord (prd n ts) = O at *
  have HO := hide hO
  clear hrcell HL2 hO
  go_wp2_with fail
  refine (rounds_ok n w2 (by omega) h2).mono ?_
  rintro e w3 ⟨f0, rfl, hf0, hb3⟩
  have HR0 : Hid (CrsRel w2 w3 n ts 0 0 f0 (.slice none 0 0) []) := by
    refine ⟨?_, by rw [pw_zero, HPR.out.2]; exact hf0, hb3⟩
    rw [Nat.zero_mul]; exact LL.nil _ _
  clear hf0 hb3 g0 g1 g2 HF
  go_wp2
  go_loopw [10, 9, 43] (fun f u i wr => ∃ (a : Nat) (vs : List Value), a ≤ O ∧ i = .int .i64 a ∧ Hid (vs.length = a * ts.length) ∧ Hid (CrsRel w2 wr n ts a 0 f u vs)) (fun _ _ i _ => O - (intOf i).toNat)
  case atStart => exact ⟨0, [], by omega, rfl, (show ([] : List Value).length = 0 * ts.length by simp), HR0⟩
  case round =>
    obtain ⟨a, vs, ha, rfl, hlv, hR⟩ := hrel
    clear HR0
    by_cases hlt : a < O
    · have gb := (HX2.out.below hR.out.below).c2
      have HPW := hide (isRow_pw HPR.out.1 a)
      have HPL : Hid ((pw (prd n ts) a).length = n) := by show _ = _; rw [pw_length, HPR.out.2]
      have HMM : Hid (a * ts.length + ts.length ≤ 20000) := by
        show _ ≤ _
        have e1 := HFI.out
        have e2 : (a + 1) * ts.length ≤ O * ts.length := Nat.mul_le_mul_right _ hlt
        rw [Nat.add_mul, Nat.one_mul] at e2
        omega
      go_wp2
      go_loopw [9, 51] (fun u i wq => ∃ (b : Nat) (vs : List Value), b ≤ ts.length ∧ i = .int .i64 b ∧ Hid (vs.length = a * ts.length + b) ∧ Hid (CrsRel w2 wq n ts a b u10 u vs)) (fun _ i _ => ts.length - (intOf i).toNat)
      case atStart => exact ⟨0, vs, by omega, rfl, hlv, hR⟩
      case round =>
        obtain ⟨b, vs, hb, rfl, hlv, hR⟩ := hrel
        clear gb
        have hbw := hR.out.below
        have hbs := hbw.size
        by_cases hbl : b < ts.length
        · obtain ⟨rp, rcc, hcx, hix⟩ := HRC.out b (by omega)
          rw [leadTo_get (by omega)] at hcx hix
          have gx := (hbw.cell (p := ⟨rb, ro + b, none⟩) (by exact hrb)).trans hcx
          have hrr := HROW.out b
          have HT := hide (times_own _ _ (pw (prd n ts) a) (prd n (ts.take b)) wr (Ints.own hR.out.row) (hix.out.below hbw) HPW.out hrr.1 (by rw [HPL.out]; omega) (by rw [HPL.out]; omega) (by rw [HPL.out, hrr.2]))
          rw [HPL.out] at HT
          have HCS := hide (crs_snoc n ts a b hbl)
          have hcnt : vs.length ≤ 20000 := by have := hlv.out; have := HMM.out; omega
          clear hcx hix
          rw [hrr.2] at gx HT
          clear hrr
          go_wp2_with fail
          refine HT.out.mono ?_
          rintro e w4 ⟨rn, rfl, hrn, hb4⟩
          obtain ⟨g', rc', rfl, hg3, hg4, hrc3, hrc4⟩ := owns_form hrn (by omega)
          have hL4 := hR.out.ll.below hb4
          have hrow4 := hL4.row
          have HL4 := hide hL4
          have HRN := hide (owns_base hrn hbs)
          have HF4 := hide (owns_below hR.out.row hb4 (Nat.le_refl _))
          have hbw4 := hbw.trans (hb4.mono hbs)
          have hbs4 := hbw4.size
          generalize hvl : vs.length = VL at *
          have HVL := hide hvl
          clear hrn hL4 HT hb4 hR hbw gx hvl
          go_wp2_with (at_builtin; refine wpList_append_own _ rfl _ _ 22 rfl w2.heap.size 30 i0 (.slice none 0 0) 1 24 Tryz.underlying22 hi hz0 hz1 hz2 rfl (by decide) _ _ _ rfl (hrow4.alloc _) ⟨w4.heap.size, 0, none⟩ 1 1 [.slice (some ⟨g', 0, none⟩) n rc'] rfl rfl ?c1 ?c2 ?c3 ?c4 ?c5 ?_)
          case c1 => exact cell_one_new _ _ _
          case c2 => intro u hu; simp at hu; subst hu; rfl
          case c3 => unfold maxLen; omega
          case c4 => omega
          case c5 => simp; omega
          · intro v' w5 hown5 hgrow _
            have HR5 : Hid (CrsRel w2 w5 n ts a (b + 1) u10 v' (vs ++ [.slice (some ⟨g', 0, none⟩) n rc'])) := by
              refine ⟨?_, HL4.out.kept HF4.out hgrow, HL4.out.step hbw4 (Nat.le_refl _) hbs4 hgrow⟩
              rw [← Nat.add_assoc, HCS.out]
              refine HL4.out.push ?_ (by rw [HVL.out]; exact hown5) hgrow
              have h9 := HRN.out.1
              rw [show (by_ (pw (prd n ts) a) (prd n (ts.take b))).length = n from by simpa using h9]
              exact HRN.out
            have HLV : Hid ((vs ++ [Value.slice (some ⟨g', 0, none⟩) n rc']).length = a * ts.length + (b + 1)) := by show _ = _; rw [List.length_append, HVL.out, hlv.out]; rfl
            clear hown5 hgrow hrow4
            go_wp2
            go_roundw
            case rel => exact ⟨b + 1, _, by omega, by go_num, HLV, HR5⟩
            case measure => simp [intOf]; omega
        · obtain rfl : ts.length = b := by omega
          have HHW := hide (owns_below HHU.out hbw (Nat.le_refl _))
          have HT := hide (times_own _ _ (pw (prd n ts) a) (prd n ts) wr (Ints.own hR.out.row) (Ints.own HHW.out) HPW.out HPR.out.1 (by rw [HPL.out]; omega) (by rw [HPL.out]; omega) (by rw [HPL.out, HPR.out.2]))
          rw [HPL.out, pw_succ HPR.out.1] at HT
          go_wp2_with fail
          refine HT.out.mono ?_
          rintro e w4 ⟨rn, rfl, hrn, hb4⟩
          have HR5 : Hid (CrsRel w2 w4 n ts (a + 1) 0 rn u9 vs) := by
            refine ⟨?_, owns_base hrn hbs, hbw.trans (hb4.mono hbs)⟩
            rw [Nat.add_zero, Nat.add_mul, Nat.one_mul]
            exact hR.out.ll.below hb4
          have HLV : Hid (vs.length = (a + 1) * ts.length) := by show _ = _; rw [hlv.out, Nat.add_mul, Nat.one_mul]
          clear hrn hb4 hR HT hbw
          go_wp2
          go_roundw
          case rel => exact ⟨a + 1, vs, by omega, by go_num, HLV, HR5⟩
          case measure => simp [intOf]; omega
    · obtain rfl : O = a := by omega
      go_wp2
      go_ret2
      have h9 := hR.out.ll.low hB2.size
      rw [Nat.add_zero, ← HO.out] at h9
      exact ⟨_, vs, rfl, h9, hB2.trans (hR.out.below.mono hB2.size)⟩

end Go.Proofs.YtfngadfkopfhcaaGreatDoor

/- Contracts: package method where a method may not be. -/
namespace Go.Proofs.YtfngadfkopfhcaaGreatDoor
open Go.RowKit
set_option maxRecDepth 20000
set_option linter.unusedVariables false

theorem mbe (w : World) (s : ByteArray) (n : Int) (v : Value) : Below w.heap.size w (w.alloc (.cells #[.string s, .int .i64 n, v] 24)) := (Below.refl _ _).alloc (Nat.le_refl _) _

set_option maxHeartbeats 4000000 in
theorem lead_bad (s : ByteArray) (n : Int) (v : Value) (X : List (List Int)) (w : World) (hs : s.size ≤ 9223372036854775807) (hv : IntsAll w v X) (h : mErr s n X ≠ 0) :
    Calls Tryz.prog 8 #[meth s n v] w fun e w' => e = .returned (.tuple #[.slice none 0 0, .int .i64 (mErr s n X)]) ∧ Below w.heap.size w w' := by
  obtain ⟨vp, vc, rfl⟩ := hv.len
  have HC := hide (mcheck_all s n _ X _ hs (hv.below (mbe w s n (.slice vp X.length vc))))
  have HB := hide (mbe w s n (.slice vp X.length vc))
  have hne : (mErr s n X != 0) = true := by simpa using h
  generalize mErr s n X = er at *
  generalize X.length = L at *
  clear hv h
  unfold meth
  go_enter Tryz.func8, Tryz.ntmps8
  go_wp2_with fail
  refine HC.out.mono ?_
  rintro e w1 ⟨rfl, hb1⟩
  have HF := hide (HB.out.trans (hb1.mono HB.out.size))
  clear hb1
  go_wp2
  go_ret2
  exact ⟨rfl, HF.out⟩

set_option maxHeartbeats 4000000 in
theorem mirrored_bad (s : ByteArray) (n : Int) (v : Value) (X : List (List Int)) (w : World) (hs : s.size ≤ 9223372036854775807) (hv : IntsAll w v X) (h : mErr s n X ≠ 0) :
    Calls Tryz.prog 12 #[meth s n v] w fun e w' => e = .returned (.tuple #[.bool false, .int .i64 (mErr s n X)]) ∧ Below w.heap.size w w' := by
  obtain ⟨vp, vc, rfl⟩ := hv.len
  have HC := hide (mcheck_all s n _ X _ hs (hv.below (mbe w s n (.slice vp X.length vc))))
  have HB := hide (mbe w s n (.slice vp X.length vc))
  have hne : (mErr s n X != 0) = true := by simpa using h
  generalize mErr s n X = er at *
  generalize X.length = L at *
  clear hv h
  unfold meth
  go_enter Tryz.func12, Tryz.ntmps12
  go_wp2_with fail
  refine HC.out.mono ?_
  rintro e w1 ⟨rfl, hb1⟩
  have HF := hide (HB.out.trans (hb1.mono HB.out.size))
  clear hb1
  go_wp2
  go_ret2
  exact ⟨rfl, HF.out⟩

set_option maxHeartbeats 4000000 in
theorem write_bad (s : ByteArray) (n : Int) (v : Value) (X : List (List Int)) (w : World) (hs : s.size ≤ 9223372036854775807) (hv : IntsAll w v X) (h : mErr s n X ≠ 0) :
    Calls Tryz.prog 11 #[meth s n v] w fun e w' => e = .returned (.tuple #[.string ⟨#[]⟩, .int .i64 (mErr s n X)]) ∧ Below w.heap.size w w' := by
  obtain ⟨vp, vc, rfl⟩ := hv.len
  have HC := hide (mcheck_all s n _ X _ hs (hv.below (mbe w s n (.slice vp X.length vc))))
  have HB := hide (mbe w s n (.slice vp X.length vc))
  have hne : (mErr s n X != 0) = true := by simpa using h
  generalize mErr s n X = er at *
  generalize X.length = L at *
  clear hv h
  unfold meth
  go_enter Tryz.func11, Tryz.ntmps11
  go_wp2_with fail
  refine HC.out.mono ?_
  rintro e w1 ⟨rfl, hb1⟩
  have HF := hide (HB.out.trans (hb1.mono HB.out.size))
  clear hb1
  go_wp2
  go_ret2
  exact ⟨rfl, HF.out⟩

set_option maxHeartbeats 4000000 in
theorem head_bad (s : ByteArray) (n : Int) (v : Value) (X : List (List Int)) (w : World) (hs : s.size ≤ 9223372036854775807) (hv : IntsAll w v X) (h : mErr s n X ≠ 0) :
    Calls Tryz.prog 9 #[meth s n v] w fun e w' => e = .returned (.tuple #[.slice none 0 0, .int .i64 0, .int .i64 (mErr s n X)]) ∧ Below w.heap.size w w' := by
  obtain ⟨vp, vc, rfl⟩ := hv.len
  have HC := hide (lead_bad s n _ X _ hs (hv.below (mbe w s n (.slice vp X.length vc))) h)
  have HB := hide (mbe w s n (.slice vp X.length vc))
  have hne : (mErr s n X != 0) = true := by simpa using h
  generalize mErr s n X = er at *
  generalize X.length = L at *
  clear hv h
  unfold meth at *
  go_enter Tryz.func9, Tryz.ntmps9
  go_wp2_with fail
  refine HC.out.mono ?_
  rintro e w1 ⟨rfl, hb1⟩
  have HF := hide (HB.out.trans (hb1.mono HB.out.size))
  clear hb1
  go_wp2
  go_ret3
  exact ⟨rfl, HF.out⟩

set_option maxHeartbeats 4000000 in
theorem hunts_bad (s : ByteArray) (n : Int) (v : Value) (X : List (List Int)) (w : World) (hs : s.size ≤ 9223372036854775807) (hv : IntsAll w v X) (h : mErr s n X ≠ 0) :
    Calls Tryz.prog 10 #[meth s n v] w fun e w' => e = .returned (.tuple #[.slice none 0 0, .int .i64 (mErr s n X)]) ∧ Below w.heap.size w w' := by
  obtain ⟨vp, vc, rfl⟩ := hv.len
  have HC := hide (head_bad s n _ X _ hs (hv.below (mbe w s n (.slice vp X.length vc))) h)
  have HB := hide (mbe w s n (.slice vp X.length vc))
  have hne : (mErr s n X != 0) = true := by simpa using h
  generalize mErr s n X = er at *
  generalize X.length = L at *
  clear hv h
  unfold meth at *
  go_enter Tryz.func10, Tryz.ntmps10
  go_wp2_with fail
  refine HC.out.mono ?_
  rintro e w1 ⟨rfl, hb1⟩
  have HF := hide (HB.out.trans (hb1.mono HB.out.size))
  clear hb1
  go_wp2
  go_ret2
  exact ⟨rfl, HF.out⟩

end Go.Proofs.YtfngadfkopfhcaaGreatDoor

/- Contracts: method.Hunts, Line, Course's limit. -/
namespace Go.Proofs.YtfngadfkopfhcaaGreatDoor
open Go.RowKit
set_option maxRecDepth 20000
set_option linter.unusedVariables false

/-- Bells in their own places, of the first k. -/
def stl (r : List Int) (k : Nat) : List Int := ((List.range k).filter (fun b => decide (r.getD b 0 = (b : Int)))).map (fun (b : Nat) => (b : Int))

theorem stl_hit {r : List Int} {k : Nat} (h : r.getD k 0 = (k : Int)) : stl r (k + 1) = stl r k ++ [(k : Int)] := by
  unfold stl
  rw [List.range_succ, List.filter_append, List.map_append]
  simp only [List.filter_cons, List.filter_nil, h, decide_true, if_true, List.map_cons, List.map_nil]

theorem stl_miss {r : List Int} {k : Nat} (h : ¬ r.getD k 0 = (k : Int)) : stl r (k + 1) = stl r k := by
  unfold stl
  rw [List.range_succ, List.filter_append, List.map_append]
  simp only [List.filter_cons, List.filter_nil, h, decide_false, Bool.false_eq_true, if_false, List.map_nil, List.append_nil]

theorem stl_le (r : List Int) (k : Nat) : (stl r k).length ≤ k := by
  unfold stl
  rw [List.length_map]
  exact Nat.le_trans (List.length_filter_le _ _) (by simp)

structure StlW (w wr : World) (v : Value) (xs : List Int) : Prop where
  own : wr.ownsRow w.heap.size 3 1 v xs.length (xs.map (Value.int .i64))
  below : Below w.heap.size w wr

set_option maxHeartbeats 4000000 in
theorem hunts_ok (s : ByteArray) (n : Nat) (v : Value) (ts : List (List Bool)) (w : World) (hs : s.size ≤ 9223372036854775807) (hn : nm s = true) (h1 : 2 ≤ n) (h2 : n ≤ 12) (hl1 : 1 ≤ ts.length) (hl2 : ts.length ≤ 200) (hts : ∀ t, t ∈ ts → tsz t = n)
    (hv : IntsAll w v (ts.map tpl)) :
    Calls Tryz.prog 10 #[meth s n v] w fun e w' => ∃ u, e = .returned (.tuple #[u, .int .i64 0]) ∧ w'.ownsRow w.heap.size 3 1 u (stl (prd n ts) n).length ((stl (prd n ts) n).map (Value.int .i64)) ∧ Below w.heap.size w w' := by
  obtain ⟨i0, hi, hz0, hz1, hz2⟩ := info_parts Tryz.info3
  obtain ⟨vp, vc, rfl⟩ := hv.len
  have HC := hide (head_ok s n _ ts _ hs hn h1 h2 hl1 hl2 hts (hv.below (mbe w s n (.slice vp (ts.map tpl).length vc))))
  have HB := hide (mbe w s n (.slice vp (ts.map tpl).length vc))
  have hpr := (prd_row n ts hts).2
  generalize prd n ts = r at *
  generalize (ts.map tpl).length = L at *
  clear hv hn hts
  unfold meth at *
  go_enter Tryz.func10, Tryz.ntmps10
  go_wp2_with fail
  refine HC.out.mono ?_
  rintro e w1 ⟨u, rfl, hu, hb1⟩
  obtain ⟨g, rc, rfl, hg1, hg2, hrc, hrc2⟩ := owns_form hu (by omega)
  have hbw1 := HB.out.trans (hb1.mono HB.out.size)
  have HU := hide hu
  have HBW1 := hide hbw1
  have HPR := hide hpr
  clear hu hb1 hbw1 HC HB hpr
  go_wp2
  go_loopw [7, 21] (fun v i wr => ∃ (vv : Value) (k : Nat) (xs : List Int), vv = v ∧ k ≤ n ∧ i = .int .i64 k ∧ Hid (xs = stl r k) ∧ Hid (StlW w1 wr vv xs)) (fun _ i _ => n - (intOf i).toNat)
  case atStart => exact ⟨_, 0, [], rfl, by omega, rfl, rfl, ⟨World.ownsRow_nil _ _ _ _, Below.refl _ _⟩⟩
  case round =>
    obtain ⟨v7, k, xs, hvv, hk, rfl, hx, hW⟩ := hrel
    subst hvv
    have hxl : xs.length ≤ 12 := by rw [hx.out]; exact Nat.le_trans (stl_le r k) (by omega)
    by_cases hlt : k < n
    · have hcell := (owns_below HU.out hW.out.below (Nat.le_refl _)).cells (g := g) rfl k (.int .i64 (r.getD k 0)) (by have := HPR.out; simp [List.getD, show k < r.length from by omega])
      rw [Addr.add_lit, Nat.zero_add] at hcell
      by_cases hb : r.getD k 0 = (k : Int)
      · have HX := hide (stl_hit hb)
        rw [hb] at hcell
        have hrow := hW.out.own
        have hbw := hW.out.below
        have hbs := hbw.size
        obtain ⟨up, uc, rfl⟩ := owns_slice hrow
        generalize hL : xs.length = M at *
        replace hL := hide hL
        clear hb hW
        go_wp2_with (at_builtin; refine wpList_append_own _ rfl _ _ 30 rfl w1.heap.size 3 i0 (.int .i64 0) 1 8 Tryz.underlying30 hi hz0 hz1 hz2 rfl (by decide) _ _ _ rfl (hrow.alloc _) ⟨wr.heap.size, 0, none⟩ 1 1 [.int .i64 (k : Int)] rfl rfl ?c1 ?c2 ?c3 ?c4 ?c5 ?_)
        case c1 => exact cell_one_new _ _ _
        case c2 => intro u hu; simp at hu; subst hu; rfl
        case c3 => unfold maxLen; omega
        case c4 => omega
        case c5 => simp; omega
        intro v' w5 hown5 hgrow _
        have HW5 : Hid (StlW w1 w5 v' (xs ++ [(k : Int)])) := by
          refine ⟨?_, ?_⟩
          · rw [List.length_append, hL.out, List.map_append]; exact hown5
          · exact (hbw.alloc hbs _).grown hgrow (by simp; omega) (fun g hg => (hrow.lt g hg).1)
        have HX2 : Hid (xs ++ [(k : Int)] = stl r (k + 1)) := by show _ = _; rw [HX.out, hx.out]
        clear hown5 hgrow hrow hcell hL HX hx
        go_wp2
        go_roundw
        case rel =>
          have hfin : ∃ (vv : Value) (k' : Nat) (xs : List Int), vv = v' ∧ k' ≤ n ∧ Value.int .i64 ((k : Int) + 1) = .int .i64 (k' : Int) ∧ Hid (xs = stl r k') ∧ Hid (StlW w1 w5 vv xs) := ⟨_, k + 1, _, rfl, by omega, by go_num, HX2, HW5⟩
          first
            | exact hfin
            | ((repeat apply Exists.intro); exact ⟨hfin, rfl⟩)
        case measure => simp [intOf]; omega
      · have HX := hide (stl_miss hb)
        have hne : ((k : Int) == r.getD k 0) = false := beq_eq_false_iff_ne.2 (fun e => hb e.symm)
        generalize r.getD k 0 = y at *
        go_wp2
        go_roundw
        case rel => exact ⟨_, k + 1, xs, rfl, by omega, by go_num, by show xs = _; rw [HX.out]; exact hx.out, hW⟩
        case measure => simp [intOf]; omega
    · obtain rfl : k = n := by omega
      have HF : Hid (wr.ownsRow w.heap.size 3 1 v7 (stl r k).length ((stl r k).map (Value.int .i64)) ∧ Below w.heap.size w wr) := by rw [← hx.out]; exact ⟨owns_base hW.out.own HBW1.out.size, HBW1.out.trans (hW.out.below.mono HBW1.out.size)⟩
      go_wp2
      go_ret2
      exact ⟨_, rfl, HF.out.1, HF.out.2⟩

end Go.Proofs.YtfngadfkopfhcaaGreatDoor

/- Plain: how leads are told: runs of one call, each with its number. -/
namespace Go.Proofs.YtfngadfkopfhcaaGreatDoor
open Go.RowKit

/-- A small number in decimal digits. -/
def decB (n : Nat) : List UInt8 := if n < 10 then [UInt8.ofNat (48 + n)] else [UInt8.ofNat (48 + n / 10), UInt8.ofNat (48 + n % 10)]

/-- The text of leads, of which so many of the first one's kind have gone by already. -/
def pF (sg : Nat → List UInt8) : Nat → List Nat → List UInt8
  | _, [] => []
  | n, x :: xs => if xs.head? = some x ∧ n + 1 < 99 then pF sg (n + 1) xs else (if 1 < n + 1 then decB (n + 1) else []) ++ sg x ++ pF sg 0 xs

/-- A run: so many of one kind, and then another one, or none, or enough. -/
structure Run (l : List Nat) (n run : Nat) : Prop where
  one : 1 ≤ run
  all : run ≤ l.length
  most : n + run ≤ 99
  same : ∀ j, j < run → l.getD j 0 = l.getD 0 0
  stop : run = l.length ∨ n + run = 99 ∨ l.getD run 0 ≠ l.getD 0 0

theorem pF_run (sg : Nat → List UInt8) : ∀ (run : Nat) (l : List Nat) (n : Nat), Run l n run → pF sg n l = (if 1 < n + run then decB (n + run) else []) ++ sg (l.getD 0 0) ++ pF sg 0 (l.drop run)
  | 0, l, n, h => absurd h.one (by omega)
  | 1, [], n, h => absurd h.all (by simp)
  | 1, x :: xs, n, h => by
    have hs := h.stop
    have hn : ¬ (xs.head? = some x ∧ n + 1 < 99) := by
      rintro ⟨h1, h2⟩
      rcases hs with h3 | h3 | h3
      · cases xs with
        | nil => cases h1
        | cons y ys => simp at h3
      · omega
      · cases xs with
        | nil => cases h1
        | cons y ys =>
          apply h3
          have : y = x := by simpa using h1
          subst this
          rfl
    rw [pF, if_neg hn]
    rfl
  | run + 2, [], n, h => absurd h.all (by simp)
  | run + 2, [x], n, h => absurd h.all (by simp)
  | run + 2, x :: y :: ys, n, h => by
    have hy : y = x := by
      have := h.same 1 (by omega)
      exact this
    subst hy
    have hm := h.most
    have hc : (y :: ys).head? = some y ∧ n + 1 < 99 := ⟨rfl, by omega⟩
    have hr : Run (y :: ys) (n + 1) (run + 1) := by
      refine ⟨by omega, by have := h.all; simp at this ⊢; omega, by omega, fun j hj => ?_, ?_⟩
      · have := h.same (j + 1) (by omega)
        exact this
      · rcases h.stop with h3 | h3 | h3
        · left; simp at h3 ⊢; omega
        · right; left; omega
        · right; right; exact h3
    have ih := pF_run sg (run + 1) (y :: ys) (n + 1) hr
    rw [pF, if_pos hc, ih]
    have e : n + 1 + (run + 1) = n + (run + 2) := by omega
    rw [e]
    rfl

theorem pF_top (sg : Nat → List UInt8) {l : List Nat} {run : Nat} (h : Run l 0 run) : pF sg 0 l = (if 1 < run then decB run else []) ++ sg (l.getD 0 0) ++ pF sg 0 (l.drop run) := by
  have := pF_run sg run l 0 h
  rwa [Nat.zero_add] at this

/-- One lead more, by what comes behind it. -/
theorem pF_step (sg : Nat → List UInt8) {l : List Nat} {i n : Nat} (hi : i < l.length) :
    pF sg n (l.drop i) = if i + 1 < l.length ∧ l.getD (i + 1) 0 = l.getD i 0 ∧ n + 1 < 99 then pF sg (n + 1) (l.drop (i + 1)) else (if 1 < n + 1 then decB (n + 1) else []) ++ sg (l.getD i 0) ++ pF sg 0 (l.drop (i + 1)) := by
  rw [List.drop_eq_getElem_cons hi, pF]
  have e : l.getD i 0 = l[i] := by simp [List.getD, hi]
  have hh : ((l.drop (i + 1)).head? = some l[i] ∧ n + 1 < 99) ↔ (i + 1 < l.length ∧ l.getD (i + 1) 0 = l.getD i 0 ∧ n + 1 < 99) := by
    rw [e]
    rcases Nat.lt_or_ge (i + 1) l.length with h1 | h1
    · rw [List.drop_eq_getElem_cons h1]
      simp [List.getD, h1]
    · rw [List.drop_eq_nil_of_le h1]
      simp
      omega
  by_cases hc : (l.drop (i + 1)).head? = some l[i] ∧ n + 1 < 99
  · rw [if_pos hc, if_pos (hh.1 hc)]
  · rw [if_neg hc, if_neg (fun h => hc (hh.2 h)), e]

theorem decB_length (n : Nat) : (decB n).length ≤ 2 := by
  unfold decB
  split <;> simp

theorem pF_length (sg : Nat → List UInt8) (h : ∀ x, (sg x).length ≤ 4) : ∀ (l : List Nat) (n : Nat), (pF sg n l).length ≤ 6 * l.length
  | [], n => by simp [pF]
  | x :: xs, n => by
    rw [pF]
    split
    · have := pF_length sg h xs (n + 1)
      simp; omega
    · have h1 := pF_length sg h xs 0
      have h2 := h x
      rw [List.length_append, List.length_append, List.length_cons]
      have h3 : (if 1 < n + 1 then decB (n + 1) else []).length ≤ 2 := by
        split
        · exact decB_length _
        · simp
      omega

end Go.Proofs.YtfngadfkopfhcaaGreatDoor

/- strings.Builder's methods that call.Print calls; strconv.Itoa of a small number. -/
namespace Go.Proofs.YtfngadfkopfhcaaGreatDoor
open Go.RowKit Go.Shelf
set_option maxRecDepth 100000
set_option linter.unusedVariables false

def rnB : Go.Shelf.Ren := ⟨fun | 169 => 58 | n => n,
  fun | 0 => 0 | 3 => 3 | 5 => 5 | 9 => 9 | 37 => 82 | 70 => 83 | 72 => 85 | 127 => 98 | n => n, fun | n => n⟩

def rnItoa : Go.Shelf.Ren := ⟨fun | 283 => 83 | n => n,
  fun | 0 => 0 | 3 => 3 | 4 => 4 | 9 => 9 | n => n, fun | n => n⟩

theorem bl169 : Go.Proofs.Lays.n169 Tryz.prog rnB where
  mixed := by kernel_rfl
  f169 := by kernel_rfl
  t0 := by kernel_rfl
  a0 := fun w => by kernel_rfl
  z0 := fun w => by kernel_rfl
  v0 := fun w => by kernel_rfl
  t3 := by kernel_rfl
  a3 := fun w => by kernel_rfl
  z3 := fun w => by kernel_rfl
  v3 := fun w => by kernel_rfl
  t9 := by kernel_rfl
  a9 := fun w => by kernel_rfl
  z9 := fun w => by kernel_rfl
  v9 := fun w => by kernel_rfl
  t37 := by kernel_rfl
  a37 := fun w => by kernel_rfl
  z37 := fun w => by kernel_rfl
  v37 := fun w => by kernel_rfl
  t70 := by kernel_rfl
  a70 := fun w => by kernel_rfl
  z70 := fun w => by kernel_rfl
  v70 := fun w => by kernel_rfl
  t72 := by kernel_rfl
  a72 := fun w => by kernel_rfl
  z72 := fun w => by kernel_rfl
  v72 := fun w => by kernel_rfl
  t127 := by kernel_rfl
  a127 := fun w => by kernel_rfl
  z127 := fun w => by kernel_rfl
  v127 := fun w => by kernel_rfl

theorem bl283 : Go.Proofs.Lays.n283 Tryz.prog rnItoa where
  mixed := by kernel_rfl
  f283 := by kernel_rfl
  t3 := by kernel_rfl
  a3 := fun w => by kernel_rfl
  z3 := fun w => by kernel_rfl
  v3 := fun w => by kernel_rfl
  t4 := by kernel_rfl
  a4 := fun w => by kernel_rfl
  z4 := fun w => by kernel_rfl
  v4 := fun w => by kernel_rfl
  t9 := by kernel_rfl
  a9 := fun w => by kernel_rfl
  z9 := fun w => by kernel_rfl
  v9 := fun w => by kernel_rfl

theorem Tryz.infoByte : (Tryz.prog.info? 5).map (fun i => (i.zero, i.size, i.bytes)) = some (some (.int .u8 0), 1, 1) := by kernel_rfl

theorem blX : Builder.Extra Tryz.prog rnB where
  sizeBuilder := by kernel_rfl
  liesBuilder := by kernel_rfl
  t5 := by kernel_rfl
  a5 := fun w => by kernel_rfl
  z5 := fun w => by kernel_rfl
  v5 := fun w => by kernel_rfl
  infoByte := by kernel_rfl
  cellsByte := by kernel_rfl
  sizeByte := by kernel_rfl
  neB5 := by decide

/-- A builder that holds these bytes: fresh, or used. -/
abbrev Bld (B b : Nat) (l : List UInt8) (w : World) : Prop := Lib.IsBuilder 85 5 B b (Lib.byteCells l) w

theorem bString_ok (B b : Nat) (l : List UInt8) (w : World) (h : Bld B b l w) (hBw : B ≤ w.heap.size) :
    Calls Tryz.prog 58 #[.pointer (some ⟨b, 0, none⟩)] w fun e w' => e = .returned (.string ⟨l.toArray⟩) ∧ Below B w w' := Any.Builder_String_any bl169 blX B b l w h hBw

theorem small_ok (i : Nat) (h : i < 100) (w : World) : Calls Tryz.prog 83 #[.int .i64 i] w fun e w' => e = .returned (.string ⟨(Lib.decDigits i).toArray⟩) ∧ w' = w := Any.internal_strconv_small bl283 i h w

set_option maxHeartbeats 1000000 in
theorem formatInt_small (i : Nat) (h : i < 100) (w : World) : Calls Tryz.prog 74 #[.int .i64 i, .int .i64 10] w fun e w' => e = .returned (.string ⟨(Lib.decDigits i).toArray⟩) ∧ w = w' := by
  have HS := hide (fun W => small_ok i h W)
  have h1 : (0 : Int) ≤ (i : Int) := by omega
  have h2 : (i : Int) < 100 := by omega
  generalize (⟨(Lib.decDigits i).toArray⟩ : ByteArray) = t at *
  go_enter Tryz.func74, Tryz.ntmps74
  go_wp2_with fail
  refine (HS.out _).mono ?_
  rintro e w' ⟨rfl, rfl⟩
  go_wp2
  go_ret
  exact ⟨rfl, rfl⟩

theorem itoaI_small (i : Nat) (h : i < 100) (w : World) : Calls Tryz.prog 59 #[.int .i64 i] w fun e w' => e = .returned (.string ⟨(Lib.decDigits i).toArray⟩) ∧ w = w' := by
  have HS := hide (fun W => formatInt_small i h W)
  generalize (⟨(Lib.decDigits i).toArray⟩ : ByteArray) = t at *
  go_enter Tryz.func59, Tryz.ntmps59
  go_wp2_with fail
  refine (HS.out _).mono ?_
  rintro e w' ⟨rfl, rfl⟩
  go_wp2
  go_ret
  exact ⟨rfl, rfl⟩

theorem itoa_small (i : Nat) (h : i < 100) (w : World) : Calls Tryz.prog 36 #[.int .i64 i] w fun e w' => e = .returned (.string ⟨(Lib.decDigits i).toArray⟩) ∧ w = w' := by
  have HS := hide (fun W => itoaI_small i h W)
  generalize (⟨(Lib.decDigits i).toArray⟩ : ByteArray) = t at *
  go_enter Tryz.func36, Tryz.ntmps36
  go_wp2_with fail
  refine (HS.out _).mono ?_
  rintro e w' ⟨rfl, rfl⟩
  go_wp2
  go_ret
  exact ⟨rfl, rfl⟩

theorem dec_digits {n : Nat} (h : n < 100) : Lib.decDigits n = decB n := by
  have : ∀ m : Fin 100, Lib.decDigits m.1 = decB m.1 := by decide +kernel
  exact this ⟨n, h⟩

set_option maxHeartbeats 1000000 in
theorem copyCheck_ok (B b : Nat) (bs : List Value) (w : World) (h : Lib.IsBuilder 85 5 B b bs w) :
    Calls Tryz.prog 72 #[.pointer (some ⟨b, 0, none⟩)] w fun e w' => e = .returned (.tuple #[]) ∧ Lib.BuilderAt 85 5 B b (.pointer (some ⟨b, 0, none⟩)) bs w' ∧ Below B w w' := by
  obtain ⟨j, hj, hjs⟩ := Option.map_eq_some_iff.1 blX.sizeBuilder
  have hj' : Tryz.prog.info? 85 = some j := hj
  rcases h with h | h
  · have h0 := h.cell0
    have hsh := h.shape
    have hfz := h.frozen0
    have HP := hide (h.used (.pointer (some ⟨b, 0, none⟩)))
    have HB := hide ((Below.refl B w).setCell (p := ⟨b, 0, none⟩) h.1 (.pointer (some ⟨b, 0, none⟩)))
    clear h
    go_enter Tryz.func72, Tryz.ntmps72
    go_wp2
    rw [Lib.run_to_unsafe w ⟨b, 0, none⟩ Tryz.underlying83 Tryz.underlying107 hj' (by rw [hjs]; decide) hsh (Nat.zero_lt_succ 1)]
    simp only [Result.andThen]
    rw [Oper.upon_value]
    go_wp2
    rw [run_callFunc_extern Tryz.func81 (by kernel_rfl) (by kernel_rfl) (by kernel_rfl) (e := Extern.AbiNoEscape.same) (by kernel_rfl)]
    rw [Lib.run_noEscape]
    simp only [Result.andThen]
    rw [Oper.upon_value]
    go_wp2
    rw [Lib.run_from_unsafe w ⟨b, 0, none⟩ Tryz.underlying107 Tryz.underlying83 hj' hsh blX.liesBuilder]
    simp only [Result.andThen]
    rw [Oper.upon_value]
    go_wp2
    go_end0
    exact ⟨rfl, HP.out, HB.out⟩
  · have h0 := h.cell0
    have HP := hide h
    clear h
    go_enter Tryz.func72, Tryz.ntmps72
    go_wp2
    rw [Lib.run_neq_ptr_same w _ Tryz.underlying83 hj']
    go_wp2
    go_end0
    exact ⟨rfl, HP.out, Below.refl _ _⟩

theorem owns_sl9 {w : World} {base e size n : Nat} {v : Value} {xs : List Value} (h : w.ownsRow base e size v n xs) : ∃ p c, v = .slice p n c := by
  rcases h.2 with ⟨h1, h2⟩ | ⟨g, cap, cur, h1, _⟩
  · exact ⟨none, 0, by rw [h1, h2]⟩
  · exact ⟨_, cap, h1⟩

theorem bld_lt {B b : Nat} {p v : Value} {t : TypeId} {w : World} (hbk : w.heap[b]? = some (.cells #[p, v] t (0, 0))) : b < w.heap.size := (Array.getElem?_eq_some_iff.1 hbk).1

set_option maxHeartbeats 2000000 in
theorem writeString_ok (B b : Nat) (l : List UInt8) (s : ByteArray) (w : World) (h : Bld B b l w) (hlen : l.length + s.size ≤ 140737488355328) (hBw : B ≤ w.heap.size) :
    Calls Tryz.prog 57 #[.pointer (some ⟨b, 0, none⟩), .string s] w fun e w' => e = .returned (.tuple #[.int .i64 s.size, .nilIface]) ∧ Bld B b (l ++ s.data.toList) w' ∧ Below B w w' := by
  obtain ⟨i0, hi, hz0, hz1, hz2⟩ := info_parts Tryz.infoByte
  have HCC := hide (copyCheck_ok B b (Lib.byteCells l) w h)
  clear h
  go_enter Tryz.func57, Tryz.ntmps57
  go_wp2_with fail
  refine HCC.out.mono ?_
  rintro e w1 ⟨rfl, ⟨hB, v, hbk, hown, hne⟩, hb1⟩
  have c0 : w1.cell? ⟨b, 0, none⟩ = some (.pointer (some ⟨b, 0, none⟩)) := by rw [Lib.cell_of_heap hbk]; rfl
  have c1 : w1.cell? ⟨b, 1, none⟩ = some v := by rw [Lib.cell_of_heap hbk]; rfl
  have hs1 := hb1.size
  rw [Lib.byteCells_length] at hown
  go_wp2_with (at_builtin; refine Lib.wpList_append_own_string _ rfl _ _ 82 9 rfl B 5 i0 Tryz.underlying82 Tryz.underlying9 hi hz0 hz1 hz2 _ _ _ rfl hown s rfl ?c3 ?c4 ?c5 ?_)
  case c3 => unfold maxLen; omega
  case c4 => omega
  case c5 => omega
  intro v' w2 hown' hgrow _
  have hlt := bld_lt (B := B) hbk
  have hb2 : w2.heap[b]? = some (.cells #[.pointer (some ⟨b, 0, none⟩), v] 85 (0, 0)) := by
    rw [hgrow.block b hlt (fun e => hne e.symm)]
    exact hbk
  have d0 : w2.cell? ⟨b, 0, none⟩ = some (.pointer (some ⟨b, 0, none⟩)) := by rw [Lib.cell_of_heap hb2]; rfl
  have d1 : w2.cell? ⟨b, 1, none⟩ = some v := by rw [Lib.cell_of_heap hb2]; rfl
  have f1 : w2.frozen? ⟨b, 1, none⟩ = false := Lib.frozen_of_heap hb2 1
  obtain ⟨ao, n', cap, rfl⟩ : ∃ ao n' cap, v' = .slice ao n' cap := by
    rcases hown'.2 with ⟨hv, _⟩ | ⟨g, cap, cur, hv, _⟩
    · exact ⟨_, _, _, hv⟩
    · exact ⟨_, _, _, hv⟩
  go_wp2
  go_ret2
  refine ⟨rfl, Or.inr ?_, ?_⟩
  · rw [Lib.byteCells_append, ← Lib.strCells_eq]
    exact Lib.BuilderAt.put (T := 85) (e := 5) hB hb2 (bs' := Lib.byteCells l ++ Lib.strCells s) (by simpa [Lib.strCells_length, Lib.byteCells_length] using hown') (by decide)
  · exact (hb1.grown hgrow (by omega) (fun k hk => (hown.lt k hk).1)).setCell (p := ⟨b, 1, none⟩) hB _

end Go.Proofs.YtfngadfkopfhcaaGreatDoor

/- strings.Join of three texts. -/
namespace Go.Proofs.YtfngadfkopfhcaaGreatDoor
open Go.RowKit Go.Shelf
set_option maxRecDepth 100000
set_option linter.unusedVariables false

def rnGr : Go.Shelf.Ren := ⟨fun | 241 => 73 | 277 => 82 | n => n,
  fun | 0 => 0 | 3 => 3 | 5 => 5 | 37 => 82 | 70 => 83 | 72 => 85 | n => n, fun  | n => n⟩

theorem bl241 : Go.Proofs.Lays.n241 Tryz.prog rnGr where
  mixed := by kernel_rfl
  f241 := by kernel_rfl
  f277 := by kernel_rfl
  t0 := by kernel_rfl
  a0 := fun w => by kernel_rfl
  z0 := fun w => by kernel_rfl
  v0 := fun w => by kernel_rfl
  t3 := by kernel_rfl
  a3 := fun w => by kernel_rfl
  z3 := fun w => by kernel_rfl
  v3 := fun w => by kernel_rfl
  t37 := by kernel_rfl
  a37 := fun w => by kernel_rfl
  z37 := fun w => by kernel_rfl
  v37 := fun w => by kernel_rfl
  t70 := by kernel_rfl
  a70 := fun w => by kernel_rfl
  z70 := fun w => by kernel_rfl
  v70 := fun w => by kernel_rfl
  t72 := by kernel_rfl
  a72 := fun w => by kernel_rfl
  z72 := fun w => by kernel_rfl
  v72 := fun w => by kernel_rfl


theorem blG : Builder.Extra Tryz.prog rnGr where
  sizeBuilder := by kernel_rfl
  liesBuilder := by kernel_rfl
  t5 := by kernel_rfl
  a5 := fun w => by kernel_rfl
  z5 := fun w => by kernel_rfl
  v5 := fun w => by kernel_rfl
  infoByte := by kernel_rfl
  cellsByte := by kernel_rfl
  sizeByte := by kernel_rfl
  neB5 := by decide

/-- A builder that was never written. -/
def Bnew (w : World) (b : Nat) : Prop := w.heap[b]? = some (.cells #[.pointer none, .slice none 0 0] 85 (0, 0))

theorem Bnew.at {w : World} {b B : Nat} (h : Bnew w b) (hB : B ≤ b) : Lib.BuilderAt 85 5 B b (.pointer none) [] w := ⟨hB, _, h, World.ownsRow_nil _ _ _ _, by simp [Value.ownBlock]⟩

set_option maxHeartbeats 1000000 in
theorem copyCheck_new (b : Nat) (w : World) (h : Bnew w b) :
    Calls Tryz.prog 72 #[.pointer (some ⟨b, 0, none⟩)] w fun e w' => e = .returned (.tuple #[]) ∧ w' = w.setCell ⟨b, 0, none⟩ (.pointer (some ⟨b, 0, none⟩)) := by
  obtain ⟨j, hj, hjs⟩ := Option.map_eq_some_iff.1 blG.sizeBuilder
  have hj' : Tryz.prog.info? 85 = some j := hj
  have h1 := h.at (Nat.le_refl b)
  have h0 := h1.cell0
  have hsh := h1.shape
  have hfz := h1.frozen0
  clear h1 h
  go_enter Tryz.func72, Tryz.ntmps72
  go_wp2
  rw [Lib.run_to_unsafe w ⟨b, 0, none⟩ Tryz.underlying83 Tryz.underlying107 hj' (by rw [hjs]; decide) hsh (Nat.zero_lt_succ 1)]
  simp only [Result.andThen]
  rw [Oper.upon_value]
  go_wp2
  rw [run_callFunc_extern Tryz.func81 (by kernel_rfl) (by kernel_rfl) (by kernel_rfl) (e := Extern.AbiNoEscape.same) (by kernel_rfl)]
  rw [Lib.run_noEscape]
  simp only [Result.andThen]
  rw [Oper.upon_value]
  go_wp2
  rw [Lib.run_from_unsafe w ⟨b, 0, none⟩ Tryz.underlying107 Tryz.underlying83 hj' hsh blG.liesBuilder]
  simp only [Result.andThen]
  rw [Oper.upon_value]
  go_wp2
  go_end0
  exact ⟨rfl, rfl⟩

set_option maxHeartbeats 2000000 in
theorem grow_new (B b n : Nat) (w : World) (hB : B ≤ b) (h : Bnew w b) (hBw : B ≤ w.heap.size) (h1 : 1 ≤ n) (hn : n ≤ 1000000000) :
    Calls Tryz.prog 56 #[.pointer (some ⟨b, 0, none⟩), .int .i64 n] w fun e w' => e = .returned (.tuple #[]) ∧ Bld B b [] w' ∧ Below B w w' := by
  have HC := hide (copyCheck_new b w h)
  have hbk1 : (w.setCell ⟨b, 0, none⟩ (.pointer (some ⟨b, 0, none⟩))).heap[b]? = some (.cells #[.pointer (some ⟨b, 0, none⟩), .slice none 0 0] 85 (0, 0)) := by
    unfold Bnew at h
    simp [World.setCell, Array.getElem?_modify, h]
  have hB1 : Below B w (w.setCell ⟨b, 0, none⟩ (.pointer (some ⟨b, 0, none⟩))) := (Below.refl B w).setCell (p := ⟨b, 0, none⟩) hB _
  have hG : Calls Tryz.prog 73 #[.pointer (some ⟨b, 0, none⟩), .int .i64 n] (w.setCell ⟨b, 0, none⟩ (.pointer (some ⟨b, 0, none⟩))).drew _ := Any.Builder_grow_fresh (P := Tryz.prog) (ρ := rnGr) bl241 blG B b n _ hB hbk1 (by have := hB1.size; exact Nat.le_trans hBw this) (by omega)
  have HG := hide hG
  have c1 : (w.setCell ⟨b, 0, none⟩ (.pointer (some ⟨b, 0, none⟩))).cell? ⟨b, 1, none⟩ = some (.slice none 0 0) := by simp [World.cell?, hbk1]
  have hn0 : ¬ (n : Int) < 0 := by omega
  have hn1 : (0 : Int) < (n : Int) := by omega
  have c1' : (w.setCell ⟨b, 0, none⟩ (.pointer (some ⟨b, 0, none⟩))).drew.cell? ⟨b, 1, none⟩ = some (.slice none 0 0) := c1
  have HB1 := hide hB1
  clear h hbk1 hB1 hG
  generalize w.setCell ⟨b, 0, none⟩ (.pointer (some ⟨b, 0, none⟩)) = w1 at *
  go_enter Tryz.func56, Tryz.ntmps56
  go_wp2_with fail
  refine HC.out.mono ?_
  rintro e w' ⟨rfl, rfl⟩
  go_wp2
  have mixed : Tryz.prog.follows .mixedOrders = true := by kernel_rfl
  go_region_o
  all_goals
    go_wp2_with fail
    refine HG.out.mono ?_
    rintro e w2 ⟨rfl, hb2, hbel⟩
    have HF : Hid (Bld B b [] w2 ∧ Below B w w2) := ⟨Or.inr hb2, HB1.out.drew.trans hbel⟩
    go_wp2
    go_end0
    exact ⟨rfl, HF.out.1, HF.out.2⟩

/-- Three texts joined. -/
def joi (a b c : List UInt8) : List UInt8 := ((a ++ [124]) ++ b) ++ [124] ++ c

structure JoiW (w wr : World) (l : List UInt8) : Prop where
  bld : Bld w.heap.size w.heap.size l wr
  below : Below w.heap.size w wr

set_option maxHeartbeats 4000000 in
theorem join3 (g : Nat) (a b c : ByteArray) (w : World) (hg : g < w.heap.size) (p0 : w.cell? ⟨g, 0, none⟩ = some (.string a)) (p1 : w.cell? ⟨g, 1, none⟩ = some (.string b)) (p2 : w.cell? ⟨g, 2, none⟩ = some (.string c)) (ha : a.size ≤ 100000) (hb : b.size ≤ 100000) (hc : c.size ≤ 100000) :
    Calls Tryz.prog 35 #[.slice (some ⟨g, 0, none⟩) 3 3, .string ⟨#[124]⟩] w fun e w' => e = .returned (.string ⟨(joi a.data.toList b.data.toList c.data.toList).toArray⟩) ∧ Below w.heap.size w w' := by
  have la : a.data.toList.length = a.size := by rw [Array.length_toList]; rfl
  have lb : b.data.toList.length = b.size := by rw [Array.length_toList]; rfl
  have lc : c.data.toList.length = c.size := by rw [Array.length_toList]; rfl
  have hx : ∀ k, k < 3 → ∃ x : ByteArray, w.cell? ⟨g, k, none⟩ = some (.string x) ∧ x.size ≤ 100000 ∧ [a.size, b.size, c.size][k]? = some x.size := fun k hk => by
    match k, hk with
    | 0, _ => exact ⟨a, p0, ha, rfl⟩
    | 1, _ => exact ⟨b, p1, hb, rfl⟩
    | 2, _ => exact ⟨c, p2, hc, rfl⟩
  have HX := hide hx
  have LA := hide la
  have LB := hide lb
  have LC := hide lc
  clear hx la lb lc
  go_enter Tryz.func35, Tryz.ntmps35
  go_wp2
  go_loop [5, 41] (fun n i => ∃ k m : Nat, k ≤ 3 ∧ i = .int .i64 k ∧ n = .int .i64 m ∧ Hid (m = 2 + ([a.size, b.size, c.size].take k).sum)) (fun _ i => 3 - (intOf i).toNat)
  case atStart => exact ⟨0, 2, by omega, rfl, rfl, rfl⟩
  case round =>
    obtain ⟨k, m, hk, rfl, rfl, hm⟩ := hrel
    have hm3 : m ≤ 300002 := by
      have h9 := hm.out
      have : ([a.size, b.size, c.size].take k).sum ≤ a.size + b.size + c.size := by
        match k, hk with
        | 0, _ => simp
        | 1, _ => simp; omega
        | 2, _ => simp
        | 3, _ => simp; omega
      omega
    by_cases hlt : k < 3
    · obtain ⟨x, hxc, hxs, hxe⟩ := HX.out k hlt
      have HM : Hid (m + x.size = 2 + ([a.size, b.size, c.size].take (k + 1)).sum) := by
        show _ = _
        rw [List.take_add_one, hxe, List.sum_append, hm.out]
        simp; omega
      have hlt' : (k : Int) < 3 := by omega
      have hno : ¬ 9223372036854775807 - (m : Int) < (x.size : Int) := by omega
      clear hxe
      go_wp2
      go_round
      case rel => exact ⟨k + 1, m + x.size, by omega, by go_num, by go_num, HM⟩
      case measure => simp [intOf]; omega
    · have hk3 : k = 3 := by omega
      subst hk3
      have HBN : Hid (Bnew (w.alloc (.cells #[.pointer none, .slice none 0 0] 85)) w.heap.size) := heap_alloc_new w _
      have hb0 : Below w.heap.size w (w.alloc (.cells #[.pointer none, .slice none 0 0] 85)) := (Below.refl _ _).alloc (Nat.le_refl _) _
      have HGR := hide (grow_new w.heap.size w.heap.size m _ (Nat.le_refl _) HBN.out hb0.size (by have := hm.out; omega) (by omega))
      have HB0 := hide hb0
      clear hb0 hlt hm hm3
      go_wp2_with fail
      refine HGR.out.mono ?_
      rintro e w1 ⟨rfl, hB1, hbel1⟩
      have hbw1 := HB0.out.trans hbel1
      have q0 := (hbw1.cell (p := ⟨g, 0, none⟩) hg).trans p0
      have HB1 := hide hB1
      have HBW1 := hide hbw1
      clear hB1 hbel1 hbw1 HGR HB0 HBN
      go_wp2_with fail
      refine (writeString_ok w.heap.size w.heap.size [] a w1 HB1.out (by simp; omega) HBW1.out.size).mono ?_
      rintro e w2 ⟨rfl, hB2, hbel2⟩
      have HJ : Hid (JoiW w w2 a.data.toList) := ⟨by rw [List.nil_append] at hB2; exact hB2, HBW1.out.trans hbel2⟩
      clear hB2 hbel2 HB1 HBW1 q0
      go_wp2
      go_loopw [65] (fun i wr => ∃ (k : Nat) (l : List UInt8), k ≤ 2 ∧ i = .int .i64 k ∧ Hid (l = if k = 0 then a.data.toList else if k = 1 then (a.data.toList ++ [124]) ++ b.data.toList else joi a.data.toList b.data.toList c.data.toList) ∧ Hid (JoiW w wr l)) (fun i _ => 2 - (intOf i).toNat)
      case atStart => exact ⟨0, _, by omega, rfl, rfl, HJ⟩
      case round =>
        obtain ⟨k, l, hk, rfl, hl, hJ⟩ := hrel
        have hll : l.length ≤ 400000 := by
          have h9 := hl.out
          have := LA.out; have := LB.out; have := LC.out
          rw [h9]
          unfold joi
          split
          · omega
          · split <;> simp <;> omega
        by_cases hlt : k < 2
        · obtain ⟨x, hxc, hxs, hxe⟩ := HX.out (k + 1) (by omega)
          have hxl : (l ++ [124]) ++ x.data.toList = if k + 1 = 0 then a.data.toList else if k + 1 = 1 then (a.data.toList ++ [124]) ++ b.data.toList else joi a.data.toList b.data.toList c.data.toList := by
            have h9 := hl.out
            match k, hlt with
            | 0, _ =>
              have : x = b := by have := hxc.symm.trans p1; simpa using this
              rw [h9, this]; rfl
            | 1, _ =>
              have : x = c := by have := hxc.symm.trans p2; simpa using this
              rw [h9, this]; rfl
          have HXL := hide hxl
          have qx := (hJ.out.below.cell (p := ⟨g, k + 1, none⟩) hg).trans hxc
          have qx' : wr.cell? ⟨g, 1 + k, none⟩ = some (.string x) := by rw [Nat.add_comm]; exact qx
          have hlt' : (k : Int) < 2 := by omega
          have HW1 := hide (writeString_ok w.heap.size w.heap.size l ⟨#[124]⟩ wr hJ.out.bld (by rw [show (⟨#[124]⟩ : ByteArray).size = 1 from rfl]; omega) hJ.out.below.size)
          rw [show (⟨#[124]⟩ : ByteArray).size = 1 from rfl, show (⟨#[124]⟩ : ByteArray).data.toList = [124] from rfl] at HW1
          have HBW := hide hJ.out.below
          clear hxl hxc hxe hl hJ
          go_wp2_with fail
          refine HW1.out.mono ?_
          rintro e w3 ⟨rfl, hB3, hbel3⟩
          have hbw3 := HBW.out.trans hbel3
          have HW2 := hide (writeString_ok w.heap.size w.heap.size (l ++ [124]) x w3 hB3 (by simp; omega) hbw3.size)
          have HBW3 := hide hbw3
          clear hB3 hbel3 hbw3 HW1 HBW
          go_wp2_with fail
          refine HW2.out.mono ?_
          rintro e w4 ⟨rfl, hB4, hbel4⟩
          have HJ4 : Hid (JoiW w w4 ((l ++ [124]) ++ x.data.toList)) := ⟨hB4, HBW3.out.trans hbel4⟩
          clear hB4 hbel4 HW2 HBW3
          go_wp2
          go_roundw
          case rel => exact ⟨k + 1, _, by omega, by go_num, HXL, HJ4⟩
          case measure => simp [intOf]; omega
        · have hk2 : k = 2 := by omega
          subst hk2
          have HL : Hid (l = joi a.data.toList b.data.toList c.data.toList) := hl.out
          have HS := hide (bString_ok w.heap.size w.heap.size l wr hJ.out.bld hJ.out.below.size)
          have HBW := hide hJ.out.below
          rw [HL.out] at HS
          clear hl hJ HL
          go_wp2_with fail
          refine HS.out.mono ?_
          rintro e w3 ⟨rfl, hbel3⟩
          have HF := hide (HBW.out.trans hbel3)
          clear hbel3
          go_wp2
          go_ret
          exact ⟨rfl, HF.out⟩

end Go.Proofs.YtfngadfkopfhcaaGreatDoor

/- Plain: a reader of changes, rune by rune, as package place has it. -/
namespace Go.Proofs.YtfngadfkopfhcaaGreatDoor
open Go.RowKit

/-- What is known of a text up to some rune. -/
structure RS where
  all : List (List Int)
  block : List (List Int)
  marked : Bool
  mirrored : Bool
  opn : List Int
  dot : Bool

def RS.new : RS := ⟨[], [], false, false, [], false⟩

/-- What is outside is put to signs. -/
def fill1 (l : List Int) : List Int := if l.headD 0 % 2 = 0 then 1 :: l else l
def fill2 (n : Int) (l : List Int) : List Int := if l.getLastD 0 < n ∧ (n - l.getLastD 0) % 2 = 1 then l ++ [n] else l

/-- A step's word (0: none) and what is known behind it. -/
def RS.add (n : Int) (st : RS) (ps : List Int) : Int × RS :=
  if okc n 0 ps = true then (if 200 < (st.block ++ [ps]).length then 3 else 0, { st with block := st.block ++ [ps], dot := false }) else (6, st)

def RS.endSigns (n : Int) (st : RS) : Int × RS := if st.opn = [] then (0, st) else RS.add n { st with opn := [] } (fill2 n (fill1 st.opn))

def RS.needs (st : RS) : Bool := decide (st.block = []) || st.dot

def RS.back (st : RS) : List (List Int) := if st.mirrored = true then st.block.dropLast.reverse else []

def RS.endBlock (st : RS) : Int × RS :=
  (if 200 < (st.all ++ st.block ++ st.back).length then 3 else 0, { st with all := st.all ++ st.block ++ st.back, block := [], marked := false, mirrored := false })

def RS.mark (st : RS) (m : Bool) : Int × RS := if st.marked = true ∨ st.block ≠ [] then (4, st) else (0, { st with marked := true, mirrored := m })

/-- What a rune does that is no sign, behind the signs' end. -/
def RS.other (n : Int) (st : RS) (c : Nat) : Int × RS :=
  if c = 120 ∨ c = 88 ∨ c = 45 ∨ c = 215 then st.add n []
  else if c = 46 then (if st.needs = true then (4, st) else (0, { st with dot := true }))
  else if c = 44 then (if st.needs = true then (4, st) else st.endBlock)
  else if c = 38 then st.mark true
  else if c = 43 then st.mark false
  else (4, st)

def RS.take (n : Int) (st : RS) (c : Nat) (k : Int) : Int × RS :=
  if 0 ≤ k then (0, { st with opn := st.opn ++ [k + 1] })
  else if (st.endSigns n).1 = 0 then (st.endSigns n).2.other n c else st.endSigns n

def RS.fin (n : Int) (st : RS) : Int × RS :=
  if (st.endSigns n).1 = 0 then (if (st.endSigns n).2.needs = true then (5, (st.endSigns n).2) else (st.endSigns n).2.endBlock) else st.endSigns n

/-- A text's runes, one behind the other. -/
def RS.run (n : Int) (key : Nat → Int) : RS → List Nat → Int × RS
  | st, [] => (0, st)
  | st, c :: cs => if (st.take n c (key c)).1 = 0 then RS.run n key (st.take n c (key c)).2 cs else st.take n c (key c)

theorem RS.run_snoc (n : Int) (key : Nat → Int) : ∀ (cs : List Nat) (st : RS) (c : Nat), (RS.run n key st cs).1 = 0 → RS.run n key st (cs ++ [c]) = (RS.run n key st cs).2.take n c (key c)
  | [], st, c, _ => by
    show (if (st.take n c (key c)).1 = 0 then _ else _) = st.take n c (key c)
    split
    · rename_i h
      show ((0 : Int), (st.take n c (key c)).2) = _
      rw [← h]
    · rfl
  | d :: cs, st, c, h => by
    have h' : (if (st.take n d (key d)).1 = 0 then RS.run n key (st.take n d (key d)).2 cs else st.take n d (key d)).1 = 0 := h
    show (if (st.take n d (key d)).1 = 0 then RS.run n key (st.take n d (key d)).2 (cs ++ [c]) else st.take n d (key d)) = (if (st.take n d (key d)).1 = 0 then RS.run n key (st.take n d (key d)).2 cs else st.take n d (key d)).2.take n c (key c)
    by_cases hd : (st.take n d (key d)).1 = 0
    · rw [if_pos hd] at h' ⊢
      rw [if_pos hd]
      exact RS.run_snoc n key cs _ c h'
    · rw [if_neg hd] at h'
      exact absurd h' hd

theorem RS.run_bad (n : Int) (key : Nat → Int) : ∀ (cs more : List Nat) (st : RS), (RS.run n key st cs).1 ≠ 0 → RS.run n key st (cs ++ more) = RS.run n key st cs
  | [], _, st, h => absurd rfl h
  | d :: cs, more, st, h => by
    show (if (st.take n d (key d)).1 = 0 then RS.run n key (st.take n d (key d)).2 (cs ++ more) else st.take n d (key d)) = (if (st.take n d (key d)).1 = 0 then RS.run n key (st.take n d (key d)).2 cs else st.take n d (key d))
    by_cases hd : (st.take n d (key d)).1 = 0
    · rw [if_pos hd, if_pos hd]
      refine RS.run_bad n key cs more _ ?_
      intro h'
      refine h ?_
      show (if (st.take n d (key d)).1 = 0 then RS.run n key (st.take n d (key d)).2 cs else st.take n d (key d)).1 = 0
      rw [if_pos hd]; exact h'
    · rw [if_neg hd, if_neg hd]

/-- What Parse answers: the word, and the changes. -/
def RS.parse (n : Int) (key : Nat → Int) (cs : List Nat) : Int × List (List Int) :=
  if (RS.run n key RS.new cs).1 = 0 then (if ((RS.run n key RS.new cs).2.fin n).1 = 0 then (0, ((RS.run n key RS.new cs).2.fin n).2.all) else (((RS.run n key RS.new cs).2.fin n).1, [])) else ((RS.run n key RS.new cs).1, [])

end Go.Proofs.YtfngadfkopfhcaaGreatDoor

/- The runes of a text of low signs. -/
namespace Go.Proofs.YtfngadfkopfhcaaGreatDoor
open Go.RowKit Go.Lib

/-- A text of low signs: its runes are these. -/
theorem runes_ascii (zs : List Int) (h : ∀ z, z ∈ zs → 0 ≤ z ∧ z < 128) : runesOf (strOfNums zs) = zs.map Int.toNat := by
  have hsz := strOfNums_size zs
  have key : ∀ k, k ≤ zs.length → RunesTo (strOfNums zs) ((zs.take k).map Int.toNat) k := by
    intro k
    induction k with
    | zero => intro _; exact runesTo_start _
    | succ k ih =>
      intro hk
      have h1 := (ih (by omega)).next (by omega)
      have hz := h zs[k] (List.getElem_mem (by omega))
      have hg : ((strOfNums zs).get! k).toNat = zs[k].toNat := by
        have : (strOfNums zs).get! k = UInt8.ofNat zs[k].toNat := by
          show (strOfNums zs).data[k]! = _
          rw [getElem!_pos _ k (by show k < (strOfNums zs).size; omega)]
          simp [strOfNums]
        rw [this, UInt8.toNat_ofNat']
        omega
      have hd : Utf8.decode (strOfNums zs) k = (zs[k].toNat, 1) := by
        rw [decode_at, hg]
        unfold decodeN
        rw [if_pos (by omega)]
      rw [hd] at h1
      rw [List.take_add_one, List.getElem?_eq_getElem (by omega : k < zs.length), List.map_append]
      exact h1
  have := (key zs.length (Nat.le_refl _)).done (by omega)
  rw [this, List.take_length]

end Go.Proofs.YtfngadfkopfhcaaGreatDoor

/- Plain: changes as they are printed, and read again. -/
namespace Go.Proofs.YtfngadfkopfhcaaGreatDoor
open Go.RowKit Go.Lib

/-- Is there a change ahead with places? -/
def dk (l : List (List Int)) (k : Nat) : Bool := decide (0 < k ∧ l.getD (k - 1) [] ≠ [])

def sgs (ps : List Int) : List Int := ps.map (fun p => ((sg (p - 1).toNat : Nat) : Int))

/-- How one change is printed. -/
def pcs (d : Bool) (ps : List Int) : List Int := if ps = [] then [120] else (if d = true then [46] else []) ++ sgs ps

/-- How the first k changes are printed. -/
def ptx (l : List (List Int)) : Nat → List Int
  | 0 => []
  | k + 1 => ptx l k ++ pcs (dk l k) (l.getD k [])

theorem sgs_length (ps : List Int) : (sgs ps).length = ps.length := by simp [sgs]

theorem pcs_length (d : Bool) (ps : List Int) : 1 ≤ (pcs d ps).length ∧ (pcs d ps).length ≤ ps.length + 1 := by
  unfold pcs
  by_cases h : ps = []
  · rw [if_pos h]; simp [h]
  · rw [if_neg h]
    have : 1 ≤ ps.length := by cases ps with
      | nil => exact absurd rfl h
      | cons => simp
    cases d <;> simp [sgs_length] <;> omega

theorem ptx_length (l : List (List Int)) (h : ∀ ps, ps ∈ l → ps.length ≤ 12) : ∀ k, (ptx l k).length ≤ 13 * k
  | 0 => by simp [ptx]
  | k + 1 => by
    have ih := ptx_length l h k
    have h1 := (pcs_length (dk l k) (l.getD k [])).2
    have h2 : (l.getD k []).length ≤ 12 := by
      rw [List.getD_eq_getElem?_getD]
      by_cases hk : k < l.length
      · rw [List.getElem?_eq_getElem hk]; exact h _ (List.getElem_mem hk)
      · rw [List.getElem?_eq_none (by omega)]; simp
    simp only [ptx, List.length_append]
    omega

theorem sgs_low (ps : List Int) : ∀ z, z ∈ sgs ps → 0 ≤ z ∧ z < 128 := by
  intro z hz
  simp only [sgs, List.mem_map] at hz
  obtain ⟨p, _, rfl⟩ := hz
  have := sg_lt (p - 1).toNat
  omega

theorem pcs_low (d : Bool) (ps : List Int) : ∀ z, z ∈ pcs d ps → 0 ≤ z ∧ z < 128 := by
  intro z hz
  unfold pcs at hz
  split at hz
  · simp at hz; omega
  · rcases List.mem_append.1 hz with hz | hz
    · split at hz
      · simp at hz; omega
      · cases hz
    · exact sgs_low ps z hz

theorem ptx_low (l : List (List Int)) : ∀ k z, z ∈ ptx l k → 0 ≤ z ∧ z < 128
  | 0, z, hz => by cases hz
  | k + 1, z, hz => by
    rcases List.mem_append.1 hz with hz | hz
    · exact ptx_low l k z hz
    · exact pcs_low _ _ z hz

/-- Read so far. -/
def Rn (n : Int) (cs : List Nat) (st : RS) : Prop := RS.run n si RS.new cs = (0, st)

theorem Rn.snoc {n : Int} {cs : List Nat} {st st' : RS} {c : Nat} (h : Rn n cs st) (hc : st.take n c (si c) = (0, st')) : Rn n (cs ++ [c]) st' := by
  unfold Rn at *
  rw [RS.run_snoc n si cs RS.new c (by rw [h]), h]
  exact hc

theorem si_sg (m : Nat) (h : m < 12) : si (sg m) = m := by
  have key : ∀ k : Fin 12, si (sg k.1) = ((k.1 : Nat) : Int) := by decide +kernel
  exact key ⟨m, h⟩

theorem Rn.signs {n : Int} : ∀ (ps : List Int) {cs : List Nat} {st : RS}, Rn n cs st → (∀ p, p ∈ ps → 1 ≤ p ∧ p ≤ 12) → Rn n (cs ++ (sgs ps).map Int.toNat) { st with opn := st.opn ++ ps }
  | [], cs, st, h, _ => by simpa [sgs] using h
  | p :: ps, cs, st, h, hp => by
    have hb := hp p (by simp)
    have hs : si (sg (p - 1).toNat) = p - 1 := by rw [si_sg _ (by omega)]; omega
    have h1 : Rn n (cs ++ [sg (p - 1).toNat]) { st with opn := st.opn ++ [p] } := h.snoc (by unfold RS.take; rw [hs, if_pos (by omega), show p - 1 + 1 = p from by omega])
    have h2 := Rn.signs ps h1 (fun q hq => hp q (by simp [hq]))
    have e : cs ++ (sgs (p :: ps)).map Int.toNat = (cs ++ [sg (p - 1).toNat]) ++ (sgs ps).map Int.toNat := by simp [sgs]
    rw [e]
    have e2 : ({ st with opn := st.opn ++ p :: ps } : RS) = { ({ st with opn := st.opn ++ [p] } : RS) with opn := ({ st with opn := st.opn ++ [p] } : RS).opn ++ ps } := by simp
    rw [e2]
    exact h2

theorem okc_last {n : Int} : ∀ (ps : List Int) (L : Int), okc n L ps = true → (n - ps.getLastD L) % 2 = 0
  | [], L, h => by simpa [okc] using h
  | p :: ps, L, h => by
    simp only [okc, Bool.and_eq_true] at h
    have := okc_last ps p h.2
    rw [List.getLastD_cons]
    exact this

theorem fill_ok {n : Int} {ps : List Int} (h : okc n 0 ps = true) (h0 : ps ≠ []) : fill2 n (fill1 ps) = ps := by
  have h1 : fill1 ps = ps := by
    unfold fill1
    cases ps with
    | nil => exact absurd rfl h0
    | cons p qs =>
      simp only [okc, Bool.and_eq_true, decide_eq_true_eq] at h
      rw [if_neg (by simp only [List.headD_cons]; omega)]
  rw [h1]
  unfold fill2
  rw [if_neg]
  have := okc_last ps 0 h
  rintro ⟨_, h3⟩
  omega

/-- What is known behind k changes. -/
def AtK (l : List (List Int)) (k : Nat) (st : RS) : Prop :=
  st.all = [] ∧ st.marked = false ∧ st.mirrored = false ∧ ((dk l k = true ∧ 0 < k ∧ st.opn = l.getD (k - 1) [] ∧ st.opn ≠ [] ∧ st.block = l.take (k - 1)) ∨ (dk l k = false ∧ st.opn = [] ∧ st.block = l.take k ∧ st.dot = false))

def stK (l : List (List Int)) (k : Nat) : RS := ⟨[], l.take k, false, false, [], false⟩

theorem takeL_snoc (l : List (List Int)) (k : Nat) (h : k < l.length) : l.take (k + 1) = l.take k ++ [l.getD k []] := by
  rw [List.take_add_one, List.getElem?_eq_getElem h]; simp [List.getD, List.getElem?_eq_getElem h]

theorem getL_mem (l : List (List Int)) (k : Nat) (h : k < l.length) : l.getD k [] ∈ l := by
  rw [List.getD_eq_getElem?_getD, List.getElem?_eq_getElem h]; exact List.getElem_mem h

theorem AtK.ends {n : Int} {l : List (List Int)} {k : Nat} {st : RS} (h : AtK l k st) (hk : k ≤ l.length) (h2 : l.length ≤ 200) (hl : ∀ ps, ps ∈ l → okc n 0 ps = true) : st.endSigns n = (0, stK l k) := by
  obtain ⟨al, bl, mk, mi, op, dt⟩ := st
  obtain ⟨h3, h4, h5, h6⟩ := h
  simp only at h3 h4 h5 h6
  subst h3 h4 h5
  unfold RS.endSigns stK
  rcases h6 with ⟨_, h0, h7, h8, h9⟩ | ⟨_, h7, h8, h9⟩
  · subst h7 h9
    rw [if_neg h8]
    simp only
    have hok := hl _ (getL_mem l (k - 1) (by omega))
    rw [fill_ok hok h8]
    unfold RS.add
    rw [if_pos hok]
    have e : l.take (k - 1) ++ [l.getD (k - 1) []] = l.take k := by rw [← takeL_snoc l (k - 1) (by omega), show k - 1 + 1 = k from by omega]
    simp only [e]
    rw [if_neg (by rw [List.length_take]; omega)]
  · subst h7 h8 h9
    rw [if_pos rfl]

theorem AtK.next {n : Int} {l : List (List Int)} {k : Nat} {st : RS} {cs : List Nat} (hr : Rn n cs st) (h : AtK l k st) (hk : k < l.length) (h2 : l.length ≤ 200) (hl : ∀ ps, ps ∈ l → okc n 0 ps = true) (hb : ∀ ps, ps ∈ l → ∀ p, p ∈ ps → 1 ≤ p ∧ p ≤ 12) :
    ∃ st', Rn n (cs ++ (pcs (dk l k) (l.getD k [])).map Int.toNat) st' ∧ AtK l (k + 1) st' := by
  have hE := h.ends (n := n) (by omega) h2 hl
  have hm := getL_mem l k hk
  have hok := hl _ hm
  have hbk := hb _ hm
  have ht := takeL_snoc l k hk
  have hd : dk l (k + 1) = decide (l.getD k [] ≠ []) := by unfold dk; simp
  by_cases h0 : l.getD k [] = []
  · refine ⟨stK l (k + 1), ?_, rfl, rfl, rfl, Or.inr ⟨by rw [hd, h0]; rfl, rfl, rfl, rfl⟩⟩
    unfold pcs
    rw [if_pos h0]
    refine hr.snoc ?_
    show st.take n 120 (si 120) = _
    unfold RS.take
    rw [if_neg (by decide), hE, if_pos rfl]
    simp only
    unfold RS.other
    rw [if_pos (by decide)]
    unfold RS.add
    rw [h0] at hok
    rw [if_pos hok]
    have e : (stK l k).block ++ [[]] = l.take (k + 1) := by rw [ht, h0]; rfl
    rw [e, if_neg (by rw [List.length_take]; omega)]
    rfl
  · cases hdk : dk l k with
    | true =>
      have hk0 : 0 < k := by unfold dk at hdk; exact (of_decide_eq_true hdk).1
      have h1 : Rn n (cs ++ [46]) { stK l k with dot := true } := by
        refine hr.snoc ?_
        show st.take n 46 (si 46) = _
        unfold RS.take
        rw [if_neg (by decide), hE, if_pos rfl]
        simp only
        unfold RS.other
        rw [if_neg (by decide), if_pos rfl]
        have hne : (stK l k).needs = false := by
          unfold RS.needs stK
          simp only [Bool.or_false]
          rw [decide_eq_false_iff_not]
          intro e
          have : (l.take k).length = 0 := by rw [e]; rfl
          rw [List.length_take] at this
          omega
        rw [hne]
        rfl
      refine ⟨⟨[], l.take k, false, false, [] ++ l.getD k [], true⟩, ?_, ?_⟩
      · unfold pcs
        rw [if_neg h0, if_pos rfl, List.map_append, ← List.append_assoc]
        exact h1.signs _ hbk
      · exact ⟨rfl, rfl, rfl, Or.inl ⟨by rw [hd]; exact decide_eq_true h0, by omega, by show [] ++ _ = _; simp, by show [] ++ _ ≠ _; simpa using h0, by show l.take k = _; simp⟩⟩
    | false =>
      obtain ⟨al, bl, mk, mi, op, dt⟩ := st
      obtain ⟨h3, h4, h5, h6⟩ := h
      simp only at h3 h4 h5 h6
      subst h3 h4 h5
      rcases h6 with ⟨h7, _⟩ | ⟨_, h7, h8, h9⟩
      · rw [hdk] at h7; cases h7
      · subst h7 h8 h9
        refine ⟨⟨[], l.take k, false, false, [] ++ l.getD k [], false⟩, ?_, ?_⟩
        · unfold pcs
          rw [if_neg h0, if_neg (by decide), List.nil_append]
          exact hr.signs _ hbk
        · exact ⟨rfl, rfl, rfl, Or.inl ⟨by rw [hd]; exact decide_eq_true h0, by omega, by show [] ++ _ = _; simp, by show [] ++ _ ≠ _; simpa using h0, by show l.take k = _; simp⟩⟩

theorem ptx_read {n : Int} {l : List (List Int)} (h2 : l.length ≤ 200) (hl : ∀ ps, ps ∈ l → okc n 0 ps = true) (hb : ∀ ps, ps ∈ l → ∀ p, p ∈ ps → 1 ≤ p ∧ p ≤ 12) : ∀ k, k ≤ l.length → ∃ st, Rn n ((ptx l k).map Int.toNat) st ∧ AtK l k st
  | 0, _ => ⟨RS.new, rfl, rfl, rfl, rfl, Or.inr ⟨by unfold dk; simp, rfl, by simp [RS.new], rfl⟩⟩
  | k + 1, hk => by
    obtain ⟨st, h1, h3⟩ := ptx_read h2 hl hb k (by omega)
    obtain ⟨st', h4, h5⟩ := AtK.next h1 h3 (by omega) h2 hl hb
    refine ⟨st', ?_, h5⟩
    simp only [ptx, List.map_append]
    exact h4

theorem okc_bound {n : Int} (hn1 : 1 ≤ n) (hn2 : n ≤ 12) {ps : List Int} (h : okc n 0 ps = true) : ps.length ≤ 12 ∧ ∀ p, p ∈ ps → 1 ≤ p ∧ p ≤ 12 := by
  obtain ⟨m, rfl⟩ := Int.eq_ofNat_of_zero_le (show 0 ≤ n by omega)
  obtain ⟨t, e1, rfl⟩ := (okc_iff m ps).1 h
  have h1 := tpl_length t
  refine ⟨by omega, fun p hp => ?_⟩
  have := tpl_bound t p hp
  omega

/-- What is printed is read as it was. -/
theorem parse_ptx {n : Int} {l : List (List Int)} (hn1 : 1 ≤ n) (hn2 : n ≤ 12) (h1 : 1 ≤ l.length) (h2 : l.length ≤ 200) (hl : ∀ ps, ps ∈ l → okc n 0 ps = true) : RS.parse n si (runesOf (strOfNums (ptx l l.length))) = (0, l) := by
  rw [runes_ascii _ (ptx_low l l.length)]
  obtain ⟨st, h3, h4⟩ := ptx_read h2 hl (fun ps hp => (okc_bound hn1 hn2 (hl ps hp)).2) l.length (Nat.le_refl _)
  have hE := h4.ends (n := n) (Nat.le_refl _) h2 hl
  have hF : st.fin n = (0, { stK l l.length with all := l, block := [] }) := by
    unfold RS.fin
    rw [hE, if_pos rfl]
    simp only
    have hne : (stK l l.length).needs = false := by
      unfold RS.needs stK
      simp only [Bool.or_false, List.take_length]
      rw [decide_eq_false_iff_not]
      intro e
      rw [e] at h1
      simp at h1
    rw [hne]
    simp only [Bool.false_eq_true, if_false]
    unfold RS.endBlock RS.back stK
    simp only [Bool.false_eq_true, if_false, List.nil_append, List.append_nil, List.take_length]
    rw [if_neg (by omega)]
  unfold RS.parse
  unfold Rn at h3
  rw [h3, if_pos rfl, hF, if_pos rfl]

end Go.Proofs.YtfngadfkopfhcaaGreatDoor
