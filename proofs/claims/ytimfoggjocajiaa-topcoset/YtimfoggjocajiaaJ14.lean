/- Joined: CoT. -/
import Derived.Test.YtimfoggjocajiaaJ12
import Derived.Test.YtimfoggjocajiaaJ13
import Derived.Test.YtimfoggjocajiaaJ4
import Derived.Test.YtimfoggjocajiaaJ10
/- The walk of TopCoset: it answers true at every input. -/
namespace Go.Proofs.Ytimfoggjocajiaa
open Go.RowKit



set_option maxRecDepth 20000 in
theorem tcoset_long (v : Value) (xs : List Int) (a1 a2 a3 : Int) (w : World) (h : Ints w v xs) (hl : 256 < xs.length) :
    Calls Try.prog 11 #[v, .int .i64 a1, .int .i64 a2, .int .i64 a3] w fun e w' => Told w e w' := by
  obtain ⟨p, c, rfl⟩ := h.form
  have hl' : (256 : Int) < (xs.length : Int) := by omega
  clear h
  go_enter Try.func11, Try.ntmps11
  go_wp2
  go_ret
  exact ⟨rfl, Below.refl _ _⟩

theorem natI_get {ln : List Nat} {j m : Nat} (h : ln[j]? = some m) : (natI ln).getD j 0 = (m : Int) := by
  unfold natI
  rw [List.getD, List.getElem?_map, h]
  rfl

/-- A list of lines in memory, line by line. -/
theorem lines_at {w : World} {p : Option Addr} {tl c : Nat} {N : List (List Nat)} (h : IntsAll w (.slice p tl c) (N.map natI)) (h0 : 0 < N.length) : ∃ g off, p = some ⟨g, off, none⟩ ∧ N.length ≤ c ∧ c ≤ 9223372036854775807 ∧
    ∀ i ln, N[i]? = some ln → 0 < ln.length → ∃ b o q, w.cell? ⟨g, off + i, none⟩ = some (.slice (some ⟨b, o, none⟩) ln.length q) ∧ ln.length ≤ q ∧ q ≤ 9223372036854775807 ∧ ∀ (j m : Nat), ln[j]? = some m → w.cell? ⟨b, o + j, none⟩ = some (.int .i64 (m : Int)) := by
  obtain ⟨g, off, h1, h2, h3, h4, h5, h6⟩ := h.rowI (by rw [List.length_map]; exact h0)
  rw [List.length_map] at h3
  refine ⟨g, off, h1, h3, h4, fun i ln hi hl => ?_⟩
  obtain ⟨u, hu, hI⟩ := h6 i (natI ln) (by rw [List.getElem?_map, hi]; rfl)
  obtain ⟨p', c', rfl⟩ := hI.form
  obtain ⟨b, o, rfl, k1, k2, k3, k4⟩ := hI.open (by rw [natI_length]; exact hl)
  rw [natI_length] at hu k1 k4
  refine ⟨b, o, c', hu, k1, k2, fun j m hj => ?_⟩
  rw [k4 j (List.getElem?_eq_some_iff.1 hj).1, natI_get hj]

set_option maxRecDepth 20000 in
set_option maxHeartbeats 8000000 in
theorem tcoset_ok (v : Value) (xs : List Int) (a1 a2 a3 : Int) (w : World) (h : Ints w v xs) (hx : ∀ x, x ∈ xs → I64 x) (hl : xs.length ≤ 256) (i1 : I64 a1) (i2 : I64 a2) (i3 : I64 a3) :
    Calls Try.prog 11 #[v, .int .i64 a1, .int .i64 a2, .int .i64 a3] w fun e w' => Told w e w' := by
  have HI := hide h
  have HX := hide hx
  obtain ⟨p, c, rfl⟩ := h.form
  obtain ⟨l1, r1⟩ := i1
  obtain ⟨l2, r2⟩ := i2
  obtain ⟨l3, r3⟩ := i3
  have q1 := run_ptr_ne
  have q2 := run_tab_ne
  have hl' : ¬ ((256 : Int) < (xs.length : Int)) := by omega
  clear h hx
  go_enter Try.func11, Try.ntmps11
  go_wp2_with fail
  refine (pick_any a1 6 _ l1 r1 (by omega) (by omega)).mono ?_
  rintro ex wp ⟨k1, k1a, k1b, rfl, rfl⟩
  obtain ⟨n0, rfl⟩ := Int.eq_ofNat_of_zero_le k1a
  obtain ⟨n, hn⟩ : ∃ n : Nat, n = n0 + 1 := ⟨_, rfl⟩
  have hnI : (1 : Int) + (n0 : Int) = (n : Int) := by omega
  have h1 : 1 ≤ n := by omega
  have h6 : n ≤ 6 := by omega
  have h12 : n ≤ 12 := by omega
  clear hn k1a k1b l1 r1
  go_wp2_with fail
  refine (pick_any a2 3 _ l2 r2 (by omega) (by omega)).mono ?_
  rintro ex wp ⟨k2, k2a, k2b, rfl, rfl⟩
  obtain ⟨m0, rfl⟩ := Int.eq_ofNat_of_zero_le k2a
  obtain ⟨m, hm⟩ : ∃ m : Nat, m = m0 + 1 := ⟨_, rfl⟩
  have hmI : (1 : Int) + (m0 : Int) = (m : Int) := by omega
  have hm1 : 1 ≤ m := by omega
  have hm3 : m ≤ 3 := by omega
  have HR1 : Hid (Calls Try.prog 27 #[.slice p xs.length c, .int .i64 0, .int .i64 n, .int .i64 m] w fun e w' => ∃ u vs xss, e = .returned u ∧ RowsRel w w' n m u vs xss) := rowsOf_ok2 (.slice p xs.length c) xs 0 n m w HI.out HX.out (by omega) h1 h12 (by omega)
  clear hm k2a k2b l2 r2
  go_wp2_with fail
  refine HR1.out.mono ?_
  rintro ex w1 ⟨u1, vs1, gss, rfl, hR1⟩
  have hB1 := hR1.below
  have HGN := hide hR1.rows
  have HA := hide hR1.all'.1
  have hgl := hR1.all'.2
  obtain ⟨gg, gc, eu1, hga, hgb, hgc1, hgc2⟩ := owns_form hR1.row hm1
  subst eu1
  have HGL := hide hgl
  clear HR1 hR1 hgl hnI hmI
  go_wp2_with fail
  refine (pick_any a3 ((m : Int) + 1) _ l3 r3 (by omega) (by omega)).mono ?_
  rintro ex wp ⟨k3, k3a, k3b, rfl, rfl⟩
  obtain ⟨s, rfl⟩ := Int.eq_ofNat_of_zero_le k3a
  have hs : s ≤ m := by omega
  have HS : Hid (IntsAll w1 (.slice (some ⟨gg, 0, none⟩) s gc) (gss.take s)) := HA.out.cut HGL.out hs
  have HSL : Hid ((gss.take s).length = s) := by show _ = _; rw [List.length_take, HGL.out]; omega
  have HSN : Hid (RowsN n (gss.take s)) := fun x hx => HGN.out x (List.mem_of_mem_take hx)
  have HMS : Hid (∀ x, x ∈ gss.take s → Gen (fun y => y ∈ gss.map pad) (pad x)) := fun x hx => Gen.of (List.mem_map.2 ⟨x, List.mem_of_mem_take hx, rfl⟩)
  clear k3a k3b l3 r3
  have HM1 := hide (make_ok n (.slice (some ⟨gg, 0, none⟩) m gc) gss w1 HA.out h1 h12 (by rw [HGL.out]; omega) HGN.out)
  go_wp2_with fail
  refine HM1.out.mono ?_
  rintro ex w2 ⟨u2, rfl, hG2, hb2⟩
  have hB2 := hB1.trans (hb2.mono hB1.size)
  have HG2 := hide hG2
  obtain ⟨gb2, _, _, _, _, _, _, rfl, _⟩ := hG2
  have HM2 := hide (make_ok n (.slice (some ⟨gg, 0, none⟩) s gc) (gss.take s) w2 (HS.out.below hb2) h1 h12 (by rw [HSL.out]; omega) HSN.out)
  have HA2 := hide (HA.out.below hb2)
  have HS2 := hide (HS.out.below hb2)
  clear hb2 hB1 HM1 HA HS
  go_wp2_with fail
  refine HM2.out.mono ?_
  rintro ex w3 ⟨u3, rfl, hH3, hb3⟩
  have hB3 := hB2.trans (hb3.mono hB2.size)
  have HH3 := hide hH3
  have HG3 := hide (HG2.out.below hb3 (Nat.le_refl _))
  obtain ⟨gb3, _, _, _, _, _, _, rfl, _⟩ := hH3
  have HA3 := hide (HA2.out.below hb3)
  have HS3 := hide (HS2.out.below hb3)
  have HGF : Hid (∀ x, Gen (fun y => y ∈ gss.map pad) x → Fixes (fun b => n ≤ b) x) := fun x hx => gens_fix h12 HGN.out hx
  have HHF : Hid (∀ x, Gen (fun y => y ∈ (gss.take s).map pad) x → Fixes (fun b => n ≤ b) x) := fun x hx => gens_fix h12 HSN.out hx
  have hz1 : sz (Gen (fun y => y ∈ gss.map pad)) n ≤ 720 := by
    have hd := sz_fct (Gen.sub (fun y => y ∈ gss.map pad)) h12 HGF.out
    have hf : fct n ≤ 720 := by
      rcases (show n = 1 ∨ n = 2 ∨ n = 3 ∨ n = 4 ∨ n = 5 ∨ n = 6 by omega) with rfl | rfl | rfl | rfl | rfl | rfl <;> decide
    have hp : 0 < fct n := by
      rcases (show n = 1 ∨ n = 2 ∨ n = 3 ∨ n = 4 ∨ n = 5 ∨ n = 6 by omega) with rfl | rfl | rfl | rfl | rfl | rfl <;> decide
    exact Nat.le_trans (Nat.le_of_dvd hp hd) hf
  have hHG : ∀ x, Gen (fun y => y ∈ (gss.take s).map pad) x → Gen (fun y => y ∈ gss.map pad) x := fun x hx => hx.least (Gen.sub _) (fun y hy => by
    obtain ⟨z, hz, rfl⟩ := List.mem_map.1 hy
    exact HMS.out z hz)
  have hz2 : sz (Gen (fun y => y ∈ (gss.take s).map pad)) n ∣ sz (Gen (fun y => y ∈ gss.map pad)) n := sz_dvd (Gen.sub _) (Gen.sub _) hHG h12 HGF.out
  have hz3 : 1 ≤ sz (Gen (fun y => y ∈ gss.map pad)) n := by
    obtain ⟨L, _, l2, l3⟩ := sz_list (Gen.sub (fun y => y ∈ gss.map pad)) h12 HGF.out
    rw [← l3]; exact List.length_pos_of_mem ((l2 1).2 Gen.one)
  have hz4 : 1 ≤ sz (Gen (fun y => y ∈ (gss.take s).map pad)) n := Nat.pos_of_dvd_of_pos hz2 hz3
  have hz5 : sz (Gen (fun y => y ∈ (gss.take s).map pad)) n ≤ 720 := Nat.le_trans (Nat.le_of_dvd hz3 hz2) hz1
  have HCM := hide (cmake_ok n (.slice (some ⟨gg, 0, none⟩) m gc) (.slice (some ⟨gg, 0, none⟩) s gc) gss (gss.take s) w3 HA3.out HS3.out HGN.out HSN.out h1 h12 (by rw [HGL.out]; omega) (by rw [HSL.out]; omega) HMS.out (by omega) (by omega))
  have HPS : Hid (∀ T N, RunC (Gen (fun y => y ∈ (gss.take s).map pad)) (letters 0 gss) T.length T N → T.length * sz (Gen (fun y => y ∈ (gss.take s).map pad)) n = sz (Gen (fun y => y ∈ gss.map pad)) n) := fun T N hr => parts_size (Gen.sub _) (Gen.sub _) hHG h12 HGF.out (letters_gen 0 gss) hr (Nat.le_refl _)
  generalize hzs : sz (Gen (fun y => y ∈ (gss.take s).map pad)) n = zs at *
  generalize hzg : sz (Gen (fun y => y ∈ gss.map pad)) n = zg at *
  have HZS := hide hzs
  have HZG := hide hzg
  clear hb3 hB2 HM2 HA2 HS2 HG2 hz2 hHG hzs hzg
  go_wp2_with fail
  refine HCM.out.mono ?_
  rintro ex w4 ⟨u4, T, N, rfl, hT4, hRun, hb4⟩
  have hB4 := hB3.trans (hb4.mono hB3.size)
  have HT4 := hide hT4
  obtain ⟨tb, _, _, _, _, _, _, _, _, _, _, _, _, _, rfl, _⟩ := hT4.mem
  have HRun := hide hRun
  have HG4 := hide (HG3.out.below hb4 (Nat.le_refl _))
  have HH4 := hide (HH3.out.below hb4 (Nat.le_refl _))
  have hO := hRun.ok (Gen.sub _)
  have hps := HPS.out T N hRun
  have htl1 : 1 ≤ T.length := (List.getElem?_eq_some_iff.1 hO.ok.first).1
  have htl2 : T.length ≤ 720 := by
    have : T.length * 1 ≤ T.length * zs := Nat.mul_le_mul (Nat.le_refl _) hz4
    omega
  have hNl := hO.len
  have HAl := hide (call_all (.pointer (some ⟨tb, 0, none⟩)) n _ T N w4 hT4 htl1 hNl (by omega) (fun r hr => by
    obtain ⟨j, hj, ej⟩ := List.getElem_of_mem hr
    obtain ⟨ln, h1', h2', _⟩ := hRun.cos (Gen.sub _) (i := j) (by omega)
    rw [List.getElem?_eq_getElem hj] at h1'
    rw [← ej, Option.some.inj h1', h2', HGL.out]; omega) (fun e he => by have := hO.ok.short e he; omega))
  have HCos : Hid (∀ i, i < T.length → ∃ ln, N[i]? = some ln ∧ ln.length = 2 * m ∧ ∀ k, k < m → ∃ t ln', ln[2 * k]? = some t ∧ t < T.length ∧ N[t]? = some ln' ∧ ln'.length = 2 * m ∧ ln'[2 * k + 1]? = some i) := fun i hi => by
    have h9 := hRun.cos (Gen.sub _) hi
    rw [HGL.out] at h9
    exact h9
  have HWd : Hid (∀ i, i < T.length → ∃ e, T[i]? = some e ∧ say (gss.map pad) e.2 1 = some e.1 ∧ ofP (Gen (fun y => y ∈ (gss.take s).map pad)) T e.1 = (i, 0) ∧ e.2.length < T.length ∧ Fixes (fun b => n ≤ b) e.1) := fun i hi => by
    have he : T[i]? = some T[i] := List.getElem?_eq_getElem hi
    obtain ⟨h1', h2', h3'⟩ := hRun.word (Gen.sub _) he
    refine ⟨T[i], he, h1', ?_, h3', HGF.out _ ((letters_gen 0 gss _).1 (hO.ok.gen _ (List.mem_of_getElem? he)))⟩
    unfold ofP
    rw [h2', if_pos hi]
  generalize htl : T.length = tl at *
  have HTL := hide htl
  have HNL := hide hNl
  clear hb4 hB3 HG3 HH3 HCM hO hRun hT4 HPS htl hNl HA3 HS3
  go_wp2_with fail
  refine HAl.out.mono ?_
  rintro ex w5 ⟨un, uw, rfl, hIn, hIw, hb5⟩
  have hB5 := hB4.trans (hb5.mono hB4.size)
  obtain ⟨pn, cn, epn⟩ := hIn.len
  rw [List.length_map, HNL.out] at epn
  obtain ⟨pw, cw, epw⟩ := hIw.len
  rw [List.length_map, HTL.out] at epw
  subst epn
  subst epw
  have HIN := hide hIn
  have HIW := hide hIw
  have HT5 := hide (HT4.out.later hb5)
  have HG5 := hide (HG4.out.below hb5 (Nat.le_refl _))
  have HH5 := hide (HH4.out.below hb5 (Nat.le_refl _))
  have HS1 := hide (gsize_ok n _ ((gss.take s).map pad) w5 h12 HH5.out)
  rw [HZS.out] at HS1
  clear hb5 hB4 HT4 HG4 HH4 HAl hIn hIw
  go_wp2_with fail
  refine HS1.out.mono ?_
  rintro ex w6 ⟨rfl, hb6⟩
  have hB6 := hB5.trans (hb6.mono hB5.size)
  have HIN6 := hide (HIN.out.below hb6)
  have HIW6 := hide (HIW.out.below hb6)
  have HT6 := hide (HT5.out.later hb6)
  have HG6 := hide (HG5.out.below hb6 (Nat.le_refl _))
  have HS2 := hide (gsize_ok n _ (gss.map pad) w6 h12 HG6.out)
  rw [HZG.out] at HS2
  clear hb6 hB5 HT5 HG5 HH5 HS1 HIN HIW
  have hml : (tl : Int) * (zs : Int) = (zg : Int) := by rw [← hps]; simp
  go_wp2_with fail
  refine HS2.out.mono ?_
  rintro ex w7 ⟨rfl, hb7⟩
  have hB7 := hB6.trans (hb7.mono hB6.size)
  have HIN7 := hide (HIN6.out.below hb7)
  have HIW7 := hide (HIW6.out.below hb7)
  have HT7 := hide (HT6.out.later hb7)
  have HG7 := hide (HG6.out.below hb7 (Nat.le_refl _))
  clear hb7 hB6 HT6 HG6 HS2 HIN6 HIW6
  go_wp2
  go_loopw [19] (fun si wr => ∃ i : Nat, i ≤ tl ∧ si = .int .i64 i ∧ Below w7.heap.size w7 wr) (fun si _ => tl - (intOf si).toNat)
  case atStart => exact ⟨0, Nat.zero_le _, rfl, Below.refl _ _⟩
  case round =>
    obtain ⟨i, hi, rfl, hbi⟩ := hrel
    by_cases hlt : i < tl
    · have hBi := hB7.trans (hbi.mono hB7.size)
      obtain ⟨ln, hln, hlnl, hcos⟩ := HCos.out i hlt
      obtain ⟨gn, on, epn, hn1, hn2, hnat⟩ := lines_at (HIN7.out.below hbi) (by rw [HNL.out]; omega)
      subst epn
      rw [HNL.out] at hn1
      obtain ⟨M2, hM2⟩ : ∃ M2, M2 = 2 * m := ⟨_, rfl⟩
      have hM2I : (2 : Int) * (m : Int) = (M2 : Int) := by omega
      obtain ⟨bl, ol, ql, hcl, hl1, hl2, hlc⟩ := hnat i ln hln (by omega)
      rw [hlnl, ← hM2] at hcl
      rw [hlnl, ← hM2] at hl1
      have HL : Hid (∀ k, k < m → ∃ (t b' o' q' : Nat), wr.cell? ⟨bl, ol + 2 * k, none⟩ = some (.int .i64 (t : Int)) ∧ t < tl ∧ wr.cell? ⟨gn, on + t, none⟩ = some (.slice (some ⟨b', o', none⟩) M2 q') ∧ M2 ≤ q' ∧ q' ≤ 9223372036854775807 ∧ wr.cell? ⟨b', o' + (2 * k + 1), none⟩ = some (.int .i64 (i : Int))) := fun k hk => by
        obtain ⟨t, ln', c1, c2, c3, c4, c5⟩ := hcos k hk
        obtain ⟨b', o', q', d1, d2, d3, d4⟩ := hnat t ln' c3 (by omega)
        rw [c4, ← hM2] at d1
        rw [c4, ← hM2] at d2
        exact ⟨t, b', o', q', hlc _ _ c1, c2, d1, d2, d3, d4 _ _ c5⟩
      obtain ⟨e, he, hsay, hof, hel, hef⟩ := HWd.out i hlt
      obtain ⟨gw, ow, epw, hw0, hw1, hw2, hw3, hw4⟩ := (HIW7.out.below hbi).rowI (by rw [List.length_map, HTL.out]; omega)
      rw [List.length_map, HTL.out] at hw1
      subst epw
      obtain ⟨uw, hcw, hIu⟩ := hw4 i e.2 (by rw [List.getElem?_map, he]; rfl)
      have HGi := hide (HG7.out.below hbi (Nat.le_refl _))
      have HTi := hide (HT7.out.later hbi)
      have HSy := hide (say_any n _ uw (gss.map pad) e.2 wr h12 HGi.out (by rw [List.length_map, HGL.out]; omega) hIu (fun z hz => by
        obtain ⟨x, hx⟩ := say_lett e.2 1 e.1 hsay z hz
        have := lett_bound hx
        rw [List.length_map, HGL.out] at this
        exact ⟨by omega, by omega⟩))
      have HSC : Hid (saidC (gss.map pad) e.2 = 0) := by show _ = _; unfold saidC; rw [if_neg (by omega), hsay]; rfl
      have HSD : Hid (saidL n (gss.map pad) e.2 = cut n e.1) := by show _ = _; unfold saidL; rw [if_neg (by omega), hsay]; rfl
      obtain ⟨pu, cu, epu⟩ := hIu.form
      subst epu
      have HOF := hide hof
      have HEF := hide hef
      generalize e.2.length = el at *
      obtain ⟨wo, hwo⟩ : ∃ wo, wo = wr := ⟨_, rfl⟩
      subst hwo
      have HBI := hide hBi
      have HB7i := hide hbi
      clear hln hlnl hcos hnat hlc he hsay hof hel hef hw0 hw4 hIu hBi hM2 hbi
      go_wp2
      go_loopw [20] (fun sk wr => ∃ k : Nat, k ≤ m ∧ sk = .int .i64 k ∧ wr = wo) (fun sk _ => m - (intOf sk).toNat)
      case atStart => exact ⟨0, Nat.zero_le _, rfl, rfl⟩
      case round =>
        obtain ⟨k, hk, rfl, hww⟩ := hrel
        have hww' := hww.symm
        subst hww'
        clear hww
        by_cases hkm : k < m
        · obtain ⟨t, b', o', q', d1, d2, d3, d4, d5, d6⟩ := HL.out k hkm
          obtain ⟨k2, hk2⟩ : ∃ k2, k2 = 2 * k := ⟨_, rfl⟩
          obtain ⟨k3, hk3⟩ : ∃ k3, k3 = 2 * k + 1 := ⟨_, rfl⟩
          have hk2I : (2 : Int) * (k : Int) = (k2 : Int) := by omega
          have hk3I : (k2 : Int) + 1 = (k3 : Int) := by omega
          have hk2m : k2 < M2 := by omega
          have hk3m : k3 < M2 := by omega
          rw [← hk2] at d1
          rw [← hk3] at d6
          have g1 : decide ((t : Int) < 0) = false := decide_eq_false (by omega)
          have g2 : decide ((tl : Int) ≤ (t : Int)) = false := decide_eq_false (by omega)
          clear hk2 hk3
          go_wp2
          go_roundw
          case rel =>
            first
              | exact ⟨k + 1, hkm, by go_num, rfl⟩
              | exact ⟨k + 1, hkm, by go_num, trivial⟩
          case measure => simp [intOf]; omega
        · obtain rfl : m = k := by omega
          clear HL hcl hl1 hl2
          go_wp2_with fail
          refine HSy.out.mono ?_
          rintro ex w8 ⟨va, rfl, hIa, hb8⟩
          have hB8 := HBI.out.trans (hb8.mono HBI.out.size)
          rw [HSC.out]
          rw [HSD.out] at hIa
          have HOf := hide (of_ok _ va n _ T N e.1 w8 (HTi.out.later hb8) HEF.out hIa)
          rw [HOF.out] at HOf
          have HB8 := hide hb8
          clear hIa hb8 HSy
          go_wp2_with fail
          refine HOf.out.mono ?_
          rintro ex w9 ⟨rfl, hb9⟩
          have hb78 := HB7i.out.trans (HB8.out.mono HB7i.out.size)
          have HB9 := hide (hb78.trans (hb9.mono hb78.size))
          clear hb9 hb78 HOf HTi HGi
          go_wp2
          go_roundw
          case rel =>
            have hfin : ∃ i' : Nat, i' ≤ tl ∧ Value.int .i64 ((i : Int) + 1) = .int .i64 (i' : Int) ∧ Below w7.heap.size w7 w9 := ⟨i + 1, hlt, by go_num, HB9.out⟩
            first
              | exact hfin
              | ((repeat apply Exists.intro); exact ⟨hfin, rfl⟩)
          case measure => simp [intOf]; omega
    · obtain rfl : tl = i := by omega
      go_wp2
      go_ret
      exact ⟨rfl, hB7.trans (hbi.mono hB7.size)⟩

theorem topCoset_walk (v : Value) (xs : List Int) (a1 a2 a3 : Int) (w : World) (h : Ints w v xs) (hx : ∀ x, x ∈ xs → I64 x) (i1 : I64 a1) (i2 : I64 a2) (i3 : I64 a3) :
    Calls Try.prog 11 #[v, .int .i64 a1, .int .i64 a2, .int .i64 a3] w fun e w' => e = .returned (.bool true) ∧ Below w.heap.size w w' := by
  by_cases hl : 256 < xs.length
  · exact tcoset_long v xs a1 a2 a3 w h hl
  · exact tcoset_ok v xs a1 a2 a3 w h hx (by omega) i1 i2 i3

end Go.Proofs.Ytimfoggjocajiaa
