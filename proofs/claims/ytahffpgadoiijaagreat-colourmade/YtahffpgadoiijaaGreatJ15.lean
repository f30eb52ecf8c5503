/- Joined: KpI, KpJ, KpK, KpL, KpM. -/
import Derived.Test.YtahffpgadoiijaaGreatJ14
import Derived.Test.YtahffpgadoiijaaGreatJ8
import Derived.Test.YtahffpgadoiijaaGreatJ4
/- Contract: the law's colourWith. -/
namespace Go.Proofs.YtahffpgadoiijaaGreat
open Go.RowKit
set_option linter.unusedVariables false

/-- The numbers' cells. -/
theorem many_cells {w : World} {p0 : Option Addr} {c0 : Nat} {xs : List Int} (hI : Ints w (.slice p0 xs.length c0) xs) : ∀ W, Below w.heap.size w W → ∀ k, k < xs.length → ∃ b off x, xs[k]? = some x ∧ p0 = some ⟨b, off, none⟩ ∧ xs.length ≤ c0 ∧ c0 ≤ 9223372036854775807 ∧ W.cell? ⟨b, off + k, none⟩ = some (.int .i64 x) := fun W hW k hk => by
  rcases hI with ⟨h0, _⟩ | ⟨b, off, cap, hv, h0, hcp, hm, hb, hcell⟩
  · rw [h0] at hk; simp at hk
  · injection hv with e1 _ e3
    subst e1; subst e3
    refine ⟨b, off, xs[k], List.getElem?_eq_getElem hk, rfl, hcp, hm, ?_⟩
    rw [hW.cell (p := ⟨b, off + k, none⟩) hb, hcell k hk]
    simp [List.getD, hk]

set_option maxRecDepth 20000 in
set_option maxHeartbeats 4000000 in
theorem cwith_no (n : Int) (vg vm vR : Value) (xs : List Int) (f E : Int) (w : World) (hI : Ints w vm xs) (hv : ∃ p l c, vg = .slice p l c) (hr : ∃ p l c, vR = .slice p l c) (hE : E ≠ 0) (hEE : E = if cmE n xs = 0 then f else cmE n xs)
    (hp : Calls Tryz.prog 45 #[.int .i64 n, vg, vm] w fun e w' => e = .returned (.tuple #[.int .i64 0, .int .i64 E]) ∧ Below w.heap.size w w') :
    Calls Tryz.prog 16 #[.int .i64 n, vg, vm, vR, .int .i64 f] w fun e w' => e = .returned (.bool true) ∧ Below w.heap.size w w' := by
  have HP := hide hp
  obtain ⟨p0, c0, e0⟩ := hI.form
  subst e0
  have HC := hide (many_cells hI)
  obtain ⟨pv, lv, cv, rfl⟩ := hv
  obtain ⟨pr, lr, cr, rfl⟩ := hr
  have HE8 : Hid (8 < xs.length → E = 12) := fun h => by
    have h5 : cmE n xs = 12 := by unfold cmE; rw [if_pos h]
    rw [hEE, h5, if_neg (by decide)]
  have HEb : Hid (mOk n xs = false → E = 12) := fun h => by
    have h5 : cmE n xs = 12 := by
      unfold cmE
      by_cases h9 : 8 < xs.length
      · rw [if_pos h9]
      · rw [if_neg h9, if_pos h]
    rw [hEE, h5, if_neg (by decide)]
  have HEs : Hid (¬ 8 < xs.length → mOk n xs = true → (wsm xs 0 = n → E = f) ∧ (wsm xs 0 ≠ n → E = 1)) := fun h1 h2 => by
    have h5 : cmE n xs = if wsm xs 0 = n then 0 else 1 := by unfold cmE; rw [if_neg h1, if_neg (by rw [h2]; decide)]
    constructor
    · intro h6; rw [if_pos h6] at h5; rw [hEE, h5, if_pos rfl]
    · intro h6; rw [if_neg h6] at h5; rw [hEE, h5, if_neg (by decide)]
  have HT : Hid (xs.take xs.length = xs) := List.take_length
  have hEn : (E != 0) = true := by rw [bne_iff_ne]; exact hE
  have hEb : (E == E) = true := by simp
  generalize hLL : xs.length = L at *
  clear hI hp hLL hEE
  by_cases h8 : 8 < L
  · have hd8 : decide ((L : Int) > 8) = true := decide_eq_true (by omega)
    obtain rfl := HE8.out h8
    go_enter Tryz.func16, Tryz.ntmps16
    go_wp2_with fail
    refine HP.out.mono ?_
    rintro e w1 ⟨rfl, hb1⟩
    go_wp2
    go_loopw [14, 15, 16] (fun sa sb si wr => sa = .int .i64 0 ∧ sb = .bool true ∧ si = .int .i64 0 ∧ wr = w1) (fun _ _ _ _ => 0)
    case atStart => exact ⟨rfl, rfl, rfl, rfl⟩
    case round =>
      obtain ⟨rfl, rfl, rfl, rfl⟩ := hrel
      go_wp2
      go_ret
      exact ⟨rfl, hb1⟩
  · have hd8 : decide ((L : Int) > 8) = false := decide_eq_false (by omega)
    go_enter Tryz.func16, Tryz.ntmps16
    go_wp2_with fail
    refine HP.out.mono ?_
    rintro e w1 ⟨rfl, hb1⟩
    have HC1 := hide (HC.out w1 hb1)
    have HB1 := hide hb1
    clear HC HP hb1
    go_wp2
    go_loopw [14, 15, 16] (fun sa sb si wr => ∃ (k : Nat) (a : Int), k ≤ L ∧ sa = .int .i64 a ∧ sb = .bool false ∧ si = .int .i64 (k : Int) ∧ Hid (a = wsm (xs.take k) 0) ∧ Hid (mOk n (xs.take k) = true) ∧ wr = w1) (fun _ _ si _ => L - (intOf si).toNat)
    case atStart => exact ⟨0, 0, Nat.zero_le _, rfl, rfl, rfl, rfl, rfl, rfl⟩
    case round =>
      obtain ⟨k, a, hk, rfl, rfl, rfl, ha, hm, hww⟩ := hrel
      subst hww
      by_cases hlt : k < L
      · obtain ⟨b, off, x, hx, rfl, hc1, hc2, hcx⟩ := HC1.out k hlt
        by_cases h0 : x < 0
        · have hE12 := HEb.out (mOk_bad hx (fun h => by omega))
          have hd : decide (x < 0) = true := decide_eq_true h0
          subst hE12
          clear hx
          go_wp2
          go_ret
          exact ⟨rfl, HB1.out⟩
        · have hd : decide (x < 0) = false := decide_eq_false h0
          by_cases h1 : n < x
          · have hE12 := HEb.out (mOk_bad hx (fun h => by omega))
            have hd2 : decide (x > n) = true := decide_eq_true h1
            subst hE12
            clear hx
            go_wp2
            go_ret
            exact ⟨rfl, HB1.out⟩
          · have hd2 : decide (x > n) = false := decide_eq_false h1
            have HA : Hid (IntKind.i64.wrap (a + x) = wsm (xs.take (k + 1)) 0) := by show _ = _; rw [wsm_take hx, ← ha.out]
            have HM : Hid (mOk n (xs.take (k + 1)) = true) := by show _ = _; rw [mOk_take hx, hm.out, decide_eq_true ⟨by omega, by omega⟩]; rfl
            generalize hax : IntKind.i64.wrap (a + x) = ax at *
            clear hx ha hm
            go_wp2
            go_roundw
            case rel => exact ⟨k + 1, ax, hlt, by first | rfl | (rw [hax]) | go_num, rfl, by go_num, HA, HM, by first | rfl | trivial⟩
            case measure => simp [intOf]; omega
      · obtain rfl : L = k := by omega
        have hm' := hm.out
        have ha' := ha.out
        rw [HT.out] at hm' ha'
        have HF := hide (HEs.out h8 hm')
        rw [← ha'] at HF
        clear hm' ha' hm ha
        by_cases he : a = n
        · obtain rfl := HF.out.1 he
          have hd : (a != n) = false := by simpa using he
          go_wp2
          go_ret
          exact ⟨rfl, HB1.out⟩
        · obtain rfl := HF.out.2 he
          have hd : (a != n) = true := by simpa using he
          go_wp2
          go_ret
          exact ⟨rfl, HB1.out⟩

/-! the count, where all may be -/

def fitTo (many P : List Nat) (i : Nat) : Bool := (List.range i).all (fun j => P.countP (fun x => x == j) == many.getD j 0)

theorem fitTo_succ (many P : List Nat) (i : Nat) : fitTo many P (i + 1) = (fitTo many P i && (P.countP (fun x => x == i) == many.getD i 0)) := by
  unfold fitTo
  rw [List.range_succ, List.all_append]
  simp

theorem fitTo_all (many P : List Nat) : fitTo many P many.length = qMany many P := rfl

def wc (n : Nat) (many : List Nat) (rows : List (List Int)) (k : Nat) : Nat := (List.range k).countP (fun j => qMany many (colD n many.length j) && isF (colL n many.length j) rows)

theorem wc_succ (n : Nat) (many : List Nat) (rows : List (List Int)) (k : Nat) : wc n many rows (k + 1) = wc n many rows k + (if (qMany many (colD n many.length k) && isF (colL n many.length k) rows) = true then 1 else 0) := by
  unfold wc
  rw [List.range_succ, List.countP_append, List.countP_singleton]

theorem wc_le (n : Nat) (many : List Nat) (rows : List (List Int)) (k : Nat) : wc n many rows k ≤ k := by
  unfold wc
  exact Nat.le_trans List.countP_le_length (by rw [List.length_range]; exact Nat.le_refl _)

theorem wc_end {n : Nat} {many : List Nat} {gss : List (List Int)} {X : List Pm} {cv : Nat} (h : WthOk n many gss cv) (h12 : n ≤ 12) (hc : 1 ≤ many.length) (hR : RowsN n gss) (hX : X.Nodup) (hm : ∀ x, x ∈ X ↔ Gen (fun y => y ∈ gss.map pad) x) : cv = wc n many (X.map (cut n)) (many.length ^ n) := by
  rw [wth_pat h h12 hc hR, frN_eq h12 hc hR hX hm, List.countP_filter]
  unfold wc
  refine List.countP_congr (fun k hk => ?_)
  rw [isF_col h12 hc (List.mem_range.1 hk) (X := X) (fun y => by rw [List.mem_map]; exact ⟨fun ⟨x, a, b⟩ => ⟨x, a, b.symm⟩, fun ⟨x, a, b⟩ => ⟨x, a, b.symm⟩⟩)]

theorem cnt_take {P : List Nat} {j i d : Nat} (h : P[j]? = some d) : (P.take (j + 1)).countP (fun x => x == i) = (P.take j).countP (fun x => x == i) + (if d = i then 1 else 0) := by
  rw [List.take_add_one, h, List.countP_append]
  show _ + List.countP (fun x => x == i) [d] = _
  rw [List.countP_singleton]
  simp

end Go.Proofs.YtahffpgadoiijaaGreat

/- Contract: the law's colourWith, where all may be. -/
namespace Go.Proofs.YtahffpgadoiijaaGreat
open Go.RowKit
set_option linter.unusedVariables false

/-- Numbers that With takes are as the law asks. -/
theorem cmE_good {n : Int} {xs : List Int} (h : cmE n xs = 0) : ¬ 8 < xs.length ∧ mOk n xs = true ∧ wsm xs 0 = n := by
  unfold cmE at h
  by_cases a : 8 < xs.length
  · rw [if_pos a] at h; omega
  · rw [if_neg a] at h
    by_cases b : mOk n xs = false
    · rw [if_pos b] at h; omega
    · rw [if_neg b] at h
      by_cases c : wsm xs 0 = n
      · exact ⟨a, by simpa using b, c⟩
      · rw [if_neg c] at h; omega

theorem mOk_mem {n : Int} {xs : List Int} (h : mOk n xs = true) {x : Int} (hx : x ∈ xs) : 0 ≤ x ∧ x ≤ n := by
  unfold mOk at h
  rw [List.all_eq_true] at h
  simpa using h x hx

set_option maxRecDepth 20000 in
set_option maxHeartbeats 8000000 in
theorem cwith_ok (n : Nat) (many : List Nat) (vg vm vR : Value) (gss : List (List Int)) (X : List Pm) (w : World) (hA : IntsAll w vg gss) (hI : Ints w vm (natI many)) (hIR : IntsAll w vR (X.map (cut n))) (hR : RowsN n gss) (h1 : 1 ≤ n) (h12 : n ≤ 12) (h8 : gss.length ≤ 8) (hm1 : 1 ≤ many.length) (hm8 : many.length ≤ 8) (hM : ∀ x, x ∈ many → x ≤ 12) (hcm : cmE (n : Int) (natI many) = 0) (hX : X.Nodup) (hm : ∀ x, x ∈ X ↔ Gen (fun y => y ∈ gss.map pad) x) (hsz : ¬ 5040 < sz (Gen (fun y => y ∈ gss.map pad)) n) (hXl : X.length ≤ 5040) :
    Calls Tryz.prog 16 #[.int .i64 (n : Int), vg, vm, vR, .int .i64 0] w fun e w' => e = .returned (.bool true) ∧ Below w.heap.size w w' := by
  have HP : Hid (Calls Tryz.prog 45 #[.int .i64 (n : Int), vg, vm] w fun e w' => e = .returned (.tuple #[.int .i64 ((wc n many (X.map (cut n)) (many.length ^ n) : Nat) : Int), .int .i64 0]) ∧ Below w.heap.size w w') := by
    refine (with_ok n many vg vm gss w hA hI hR h1 h12 h8 hm1 hm8 hM hcm).mono ?_
    rintro e w' ⟨hb, hp⟩
    rw [if_neg hsz] at hp
    obtain ⟨cv, rfl, hcv⟩ := hp
    rw [wc_end hcv h12 hm1 hR hX hm]
    exact ⟨rfl, hb⟩
  obtain ⟨hc8, hcok, hcs⟩ := cmE_good hcm
  have hnl : (natI many).length = many.length := natI_length many
  obtain ⟨p0, c0, e0⟩ := hI.form
  subst e0
  have HC : Hid (∀ W, Below w.heap.size w W → ∀ k, k < many.length → ∃ b off, ∃ x : Nat, many.getD k 0 = x ∧ x ≤ n ∧ p0 = some ⟨b, off, none⟩ ∧ many.length ≤ c0 ∧ c0 ≤ 9223372036854775807 ∧ W.cell? ⟨b, off + k, none⟩ = some (.int .i64 (x : Int)) ∧ wsm ((natI many).take (k + 1)) 0 = IntKind.i64.wrap (wsm ((natI many).take k) 0 + (x : Int))) := fun W hW k hk => by
    obtain ⟨b, off, x, a1, a2, a3, a4, a5⟩ := many_cells hI W hW k (by rw [hnl]; exact hk)
    have a6 : x = ((many.getD k 0 : Nat) : Int) := by
      have h5 := natI_getD many k
      rw [List.getD, a1] at h5
      exact h5
    have a7 := mOk_mem hcok (List.mem_of_getElem? a1)
    rw [a6] at a5 a7
    refine ⟨b, off, many.getD k 0, rfl, by omega, a2, by omega, a4, a5, ?_⟩
    rw [wsm_take a1, a6]
  have HTk : Hid (wsm ((natI many).take many.length) 0 = (n : Int)) := by show _ = _; rw [← hnl, List.take_length]; exact hcs
  have HPw : Hid (∀ W, Calls Tryz.prog 40 #[.int .i64 ((many.length : Nat) : Int), .int .i64 (n : Int)] W fun e w' => e = .returned (.int .i64 ((many.length ^ n : Nat) : Int)) ∧ W = w') := fun W => rpower_ok many.length n W hm8 h12
  have hpl := pow_le12 hm8 h12
  have HFix : Hid (RowsN n (X.map (cut n))) := fun y hy => by
    obtain ⟨x, hx, rfl⟩ := List.mem_map.1 hy
    exact ⟨cut_row h12 (gens_fix h12 hR ((hm x).1 hx)), cut_length h12 x⟩
  have HCo : Hid (∀ (k : Nat) (W : World), k < many.length ^ n → Calls Tryz.prog 42 #[.int .i64 (n : Int), .int .i64 ((many.length : Nat) : Int), .int .i64 (k : Int)] W fun e w' => ∃ u, e = .returned u ∧ w'.ownsRow W.heap.size 3 1 u n ((natI (colD n many.length k)).map (Value.int .i64)) ∧ Below W.heap.size W w') := fun k W hk => by
    rw [colD_natI]
    exact rcolouring_ok n many.length k W h12 hm1 hm8 (by omega)
  have HIF : Hid (∀ (k : Nat) (u : Value) (W : World), Ints W u (natI (colD n many.length k)) → Below w.heap.size w W → Calls Tryz.prog 43 #[u, vR] W fun e w' => e = .returned (.bool (isF (colL n many.length k) (X.map (cut n)))) ∧ Below W.heap.size W w') := fun k u W hu hW => by
    rw [colD_natI] at hu
    exact risFirst_ok n u vR _ _ W hu (hIR.below hW) (colL_length n _ k) h1 h12 HFix.out (by rw [List.length_map]; omega)
  have HWs := hide (wc_succ n many (X.map (cut n)))
  have HWl := hide (wc_le n many (X.map (cut n)))
  have HW0 : Hid (wc n many (X.map (cut n)) 0 = 0) := rfl
  have HDl : Hid (∀ k j, j < n → ∃ d : Nat, (colD n many.length k)[j]? = some d ∧ d ≤ 8) := fun k j hj => by
    have hj' : j < (colD n many.length k).length := by rw [colD_length]; exact hj
    refine ⟨_, List.getElem?_eq_getElem hj', ?_⟩
    have := colD_lt (n := n) (k := k) hm1 _ (List.getElem_mem hj')
    omega
  have HDn : Hid (∀ k, (colD n many.length k).length = n) := fun k => colD_length n _ k
  obtain ⟨pv, cv, ev⟩ := hA.len
  obtain ⟨pr, cr, er⟩ := hIR.len
  subst ev; subst er
  rw [hnl] at hc8 ⊢
  rw [hnl] at HP
  have HFa : Hid (∀ P, fitTo many P many.length = qMany many P) := fitTo_all many
  generalize gss.length = gl at *
  generalize (X.map (cut n)).length = rl at *
  generalize hRR : X.map (cut n) = RR at *
  generalize hLL : many.length = L at *
  have HLL := hide hLL
  generalize hAA : L ^ n = A at *
  clear hA hI hIR hR hX hm hXl hsz hRR hLL hAA HFix hnl hcm hcok hcs hM
  have hd8 : decide ((L : Int) > 8) = false := decide_eq_false (by omega)
  go_enter Tryz.func16, Tryz.ntmps16
  go_wp2_with fail
  refine HP.out.mono ?_
  rintro e w1 ⟨rfl, hb1⟩
  have hWA := HWl.out A
  generalize hwa : wc n many RR A = WA at *
  have HWA := hide hwa
  have HC1 := hide (HC.out w1 hb1)
  have HB1 := hide hb1
  clear HP hb1 hwa
  go_wp2
  go_loopw [14, 15, 16] (fun sa sb si wr => ∃ (k : Nat) (a : Int), k ≤ L ∧ sa = .int .i64 a ∧ sb = .bool false ∧ si = .int .i64 (k : Int) ∧ Hid (a = wsm ((natI many).take k) 0) ∧ wr = w1) (fun _ _ si _ => L - (intOf si).toNat)
  case atStart => exact ⟨0, 0, Nat.zero_le _, rfl, rfl, rfl, rfl, rfl⟩
  case round =>
    obtain ⟨k, a, hk, rfl, rfl, rfl, ha, hww⟩ := hrel
    subst hww
    by_cases hlt : k < L
    · obtain ⟨b, off, x, hxx, hxn, rfl, hc1, hc2, hcx, hws⟩ := HC1.out k hlt
      have hd : decide ((x : Int) < 0) = false := decide_eq_false (by omega)
      have hd2 : decide ((x : Int) > (n : Int)) = false := decide_eq_false (by omega)
      have HA : Hid (IntKind.i64.wrap (a + (x : Int)) = wsm ((natI many).take (k + 1)) 0) := by show _ = _; rw [hws, ← ha.out]
      generalize hax : IntKind.i64.wrap (a + (x : Int)) = ax at *
      clear ha hws hxx
      go_wp2
      go_roundw
      case rel => exact ⟨k + 1, ax, hlt, by first | rfl | (rw [hax]) | go_num, rfl, by go_num, HA, by first | rfl | trivial⟩
      case measure => simp [intOf]; omega
    · obtain rfl : L = k := by omega
      have han : a = (n : Int) := by rw [ha.out, HTk.out]
      subst han
      have hd : ((n : Int) != (n : Int)) = false := by simp
      clear ha
      by_cases hbig : 1000 < A
      · have q1 : decide ((A : Int) > 1000) = true := decide_eq_true (by omega)
        go_wp2_with fail
        refine (HPw.out _).mono ?_
        rintro e w2 ⟨rfl, rfl⟩
        go_wp2
        go_ret
        exact ⟨rfl, HB1.out⟩
      · have q1 : decide ((A : Int) > 1000) = false := decide_eq_false (by omega)
        go_wp2_with fail
        refine (HPw.out _).mono ?_
        rintro e w2 ⟨rfl, rfl⟩
        generalize hw1 : wr = w1 at *
        clear hw1
        go_wp2
        go_loopw [17, 18] (fun sw sk wq => ∃ (k s : Nat), k ≤ A ∧ sw = .int .i64 (s : Int) ∧ sk = .int .i64 (k : Int) ∧ Hid (s = wc n many RR k) ∧ Below w1.heap.size w1 wq) (fun _ sk _ => A - (intOf sk).toNat)
        case atStart => exact ⟨0, 0, Nat.zero_le _, rfl, rfl, HW0.out.symm, Below.refl _ _⟩
        case round =>
          obtain ⟨k, s, hk2, rfl, rfl, hs, hbm⟩ := hrel
          by_cases hlt2 : k < A
          · have HCq := hide (HCo.out k wr hlt2)
            have HBM := hide hbm
            have HWk := hide (HWs.out k)
            have hsA : s ≤ k := by rw [hs.out]; exact HWl.out k
            clear hbm
            go_wp2_with fail
            refine (HPw.out _).mono ?_
            rintro e w2 ⟨rfl, rfl⟩
            go_wp2_with fail
            refine HCq.out.mono ?_
            rintro e w2 ⟨u2, rfl, hown2, hb2⟩
            have HB2 := hide (HBM.out.trans (hb2.mono HBM.out.size))
            have HB2w := hide (HB1.out.trans (HB2.out.mono HB1.out.size))
            have HI2 := hide (HIF.out k u2 w2 (Ints.own hown2) HB2w.out)
            have HCm := hide (HC.out w2 HB2w.out)
            have HDk := hide (HDl.out k)
            have HDnk := hide (HDn.out k)
            have hu2 : ∃ g c2, u2 = .slice (some ⟨g, 0, none⟩) n c2 ∧ n ≤ c2 ∧ c2 ≤ 9223372036854775807 := by
              rcases hown2.2 with ⟨_, h0⟩ | ⟨g, c2, cur, e2, _, _, h3, h4, _⟩
              · omega
              · exact ⟨g, c2, e2, h3, by unfold maxLen at h4; omega⟩
            obtain ⟨g, c2, e2, hgc1, hgc2⟩ := hu2
            subst e2
            have HXc : Hid (∀ j d, j < n → (colD n L k)[j]? = some d → w2.cell? ⟨g, j, none⟩ = some (.int .i64 (d : Int))) := fun j d hj hd => by
              rw [(owns_cell hown2 hj).1, natI_getD, List.getD, hd]; rfl
            rw [← HFa.out (colD n L k)] at HWk
            generalize hPP : colD n L k = P at *
            have HFs : Hid (∀ i, fitTo many P (i + 1) = (fitTo many P i && (P.countP (fun x => x == i) == many.getD i 0))) := fitTo_succ many P
            have HF0 : Hid (fitTo many P 0 = true) := rfl
            clear hown2 hb2 HCq HBM hPP
            go_wp2
            go_loopw [20, 21] (fun sf si wq => ∃ (i : Nat) (fb : Bool), i ≤ L ∧ sf = .bool fb ∧ si = .int .i64 (i : Int) ∧ Hid (fb = fitTo many P i) ∧ wq = w2) (fun _ si _ => L - (intOf si).toNat)
            case atStart => exact ⟨0, true, Nat.zero_le _, rfl, rfl, HF0.out.symm, rfl⟩
            case round =>
              obtain ⟨i, fb, hi, rfl, rfl, hfb, hww⟩ := hrel
              have hww' := hww.symm
              subst hww'
              clear hww
              by_cases hil : i < L
              · obtain ⟨b9, off9, x9, hx9, hxn9, ep9, hc19, hc29, hcx9, _⟩ := HCm.out i hil
                subst ep9
                have HX9 := hide hx9
                clear hx9
                go_wp2
                go_loopw [22, 23] (fun sm sj wq => ∃ (j m : Nat), j ≤ n ∧ sm = .int .i64 (m : Int) ∧ sj = .int .i64 (j : Int) ∧ m ≤ j ∧ Hid (m = (P.take j).countP (fun x => x == i)) ∧ wq = w2) (fun _ sj _ => n - (intOf sj).toNat)
                case atStart => exact ⟨0, 0, Nat.zero_le _, rfl, rfl, Nat.le_refl _, (by show 0 = (P.take 0).countP _; rw [List.take_zero]; rfl), rfl⟩
                case round =>
                  obtain ⟨j, m, hj, rfl, rfl, hmj, hmc, hww⟩ := hrel
                  have hww' := hww.symm
                  subst hww'
                  clear hww
                  by_cases hjn : j < n
                  · obtain ⟨d, hd, hd8⟩ := HDk.out j hjn
                    have gx := HXc.out j d hjn hd
                    by_cases hdi : d = i
                    · have q2 : ((d : Int) == (i : Int)) = true := by rw [hdi]; simp
                      have HM2 : Hid (m + 1 = (P.take (j + 1)).countP (fun x => x == i)) := by show _ = _; rw [cnt_take hd, if_pos hdi, ← hmc.out]
                      clear hd hmc hdi
                      go_wp2
                      go_roundw
                      case rel =>
                        first
                          | exact ⟨j + 1, m + 1, hjn, by go_num, by go_num, by omega, HM2, rfl⟩
                          | exact ⟨j + 1, m + 1, hjn, by go_num, by go_num, by omega, HM2, trivial⟩
                      case measure => simp [intOf]; omega
                    · have q2 : ((d : Int) == (i : Int)) = false := by rw [beq_eq_false_iff_ne]; omega
                      have HM2 : Hid (m = (P.take (j + 1)).countP (fun x => x == i)) := by show _ = _; rw [cnt_take hd, if_neg hdi, Nat.add_zero]; exact hmc.out
                      clear hd hmc hdi
                      go_wp2
                      go_roundw
                      case rel =>
                        first
                          | exact ⟨j + 1, m, hjn, by go_num, by go_num, by omega, HM2, rfl⟩
                          | exact ⟨j + 1, m, hjn, by go_num, by go_num, by omega, HM2, trivial⟩
                      case measure => simp [intOf]; omega
                  · obtain rfl : n = j := by omega
                    have hmP : m = P.countP (fun x => x == i) := by
                      have h5 := hmc.out
                      rw [← HDnk.out, List.take_length] at h5
                      exact h5
                    have HF1 := hide (HFs.out i)
                    rw [← hmP, HX9.out, ← hfb.out] at HF1
                    cases fb with
                    | false =>
                      have HF2 : Hid (false = fitTo many P (i + 1)) := by show _ = _; rw [HF1.out]; rfl
                      clear HF1 hmP hmc hfb
                      go_wp2
                      go_roundw
                      case rel =>
                        first
                          | exact ⟨i + 1, false, hil, rfl, by go_num, HF2, rfl⟩
                          | exact ⟨i + 1, false, hil, rfl, by go_num, HF2, trivial⟩
                      case measure => simp [intOf]; omega
                    | true =>
                      by_cases hmx : m = x9
                      · have q2 : ((m : Int) == (x9 : Int)) = true := by rw [hmx]; simp
                        have HF2 : Hid (true = fitTo many P (i + 1)) := by show _ = _; rw [HF1.out, hmx]; simp
                        clear HF1 hmP hmc hfb hmx
                        go_wp2
                        go_roundw
                        case rel =>
                          first
                            | exact ⟨i + 1, true, hil, rfl, by go_num, HF2, rfl⟩
                            | exact ⟨i + 1, true, hil, rfl, by go_num, HF2, trivial⟩
                        case measure => simp [intOf]; omega
                      · have q2 : ((m : Int) == (x9 : Int)) = false := by rw [beq_eq_false_iff_ne]; omega
                        have HF2 : Hid (false = fitTo many P (i + 1)) := by show _ = _; rw [HF1.out, show (m == x9) = false from by simpa using hmx]; rfl
                        clear HF1 hmP hmc hfb hmx
                        go_wp2
                        go_roundw
                        case rel =>
                          first
                            | exact ⟨i + 1, false, hil, rfl, by go_num, HF2, rfl⟩
                            | exact ⟨i + 1, false, hil, rfl, by go_num, HF2, trivial⟩
                        case measure => simp [intOf]; omega
              · obtain rfl : L = i := by omega
                rw [← hfb.out] at HWk
                clear hfb HFs HF0 HCm HXc HDk
                cases fb with
                | false =>
                  have HS2 : Hid (s = wc n many RR (k + 1)) := by show _ = _; rw [HWk.out, ← hs.out]; simp
                  clear HWk hs
                  go_wp2
                  go_roundw
                  case rel => exact ⟨k + 1, s, hlt2, by go_num, by go_num, HS2, HB2.out⟩
                  case measure => simp [intOf]; omega
                | true =>
                  go_wp2_with fail
                  refine HI2.out.mono ?_
                  rintro e w3 ⟨rfl, hb3⟩
                  have hB3 := HB2.out.trans (hb3.mono HB2.out.size)
                  clear hb3 HI2
                  cases hif : isF (colL n L k) RR with
                  | false =>
                    have HS2 : Hid (s = wc n many RR (k + 1)) := by show _ = _; rw [HWk.out, ← hs.out, hif]; simp
                    clear HWk hs hif
                    go_wp2
                    go_roundw
                    case rel => exact ⟨k + 1, s, hlt2, by go_num, by go_num, HS2, hB3⟩
                    case measure => simp [intOf]; omega
                  | true =>
                    have HS2 : Hid (s + 1 = wc n many RR (k + 1)) := by show _ = _; rw [HWk.out, ← hs.out, hif]; simp
                    clear HWk hs hif
                    go_wp2
                    go_roundw
                    case rel => exact ⟨k + 1, s + 1, hlt2, by go_num, by go_num, HS2, hB3⟩
                    case measure => simp [intOf]; omega
          · obtain rfl : A = k := by omega
            have hse : s = WA := by rw [hs.out, HWA.out]
            subst hse
            have q2 : ((s : Int) == (s : Int)) = true := by simp
            have hB9 := HB1.out.trans (hbm.mono HB1.out.size)
            clear hs hbm
            go_wp2_with fail
            refine (HPw.out _).mono ?_
            rintro e w2 ⟨rfl, rfl⟩
            go_wp2
            go_ret
            exact ⟨rfl, hB9⟩

end Go.Proofs.YtahffpgadoiijaaGreat

/- ColourSays answers true at every input. -/
namespace Go.Proofs.YtahffpgadoiijaaGreat
open Go.RowKit
set_option linter.unusedVariables false

/-- What the law asks behind the kinds. -/
structure CSay (n c : Int) (vg vm vR : Value) (f : Int) (w : World) : Prop where
  cnt : ∃ a b : Int, (∀ W, Below w.heap.size w W → Calls Tryz.prog 13 #[.int .i64 n, vg, .int .i64 c] W fun e w' => e = .returned (.tuple #[.int .i64 a, .int .i64 b]) ∧ Below W.heap.size W w') ∧ (∀ W, Below w.heap.size w W → Calls Tryz.prog 14 #[.int .i64 n, vg, .int .i64 c] W fun e w' => e = .returned (.tuple #[.int .i64 a, .int .i64 b]) ∧ Below W.heap.size W w')
  lst : ∀ W, Below w.heap.size w W → Calls Tryz.prog 15 #[.int .i64 n, vg, .int .i64 c, vR, .int .i64 f] W fun e w' => e = .returned (.bool true) ∧ Below W.heap.size W w'
  wth : ∀ W, Below w.heap.size w W → Calls Tryz.prog 16 #[.int .i64 n, vg, vm, vR, .int .i64 f] W fun e w' => e = .returned (.bool true) ∧ Below W.heap.size W w'

set_option maxRecDepth 20000 in
set_option maxHeartbeats 4000000 in
theorem colourSays_no (n c f : Int) (vg vm : Value) (w : World) (hv : ∃ p l c, vg = .slice p l c) (hm : ∃ p l c, vm = .slice p l c) (hf : f ≠ 0)
    (hG : Calls Tryz.prog 7 #[.int .i64 n, vg] w fun e w' => e = .returned (.int .i64 f) ∧ w = w')
    (hK : Calls Tryz.prog 9 #[.int .i64 n, vg] w fun e w' => e = .returned (.tuple #[.slice none 0 0, .int .i64 f]) ∧ Below w.heap.size w w')
    (hS : CSay n c vg vm (.slice none 0 0) f w) :
    Calls Tryz.prog 5 #[.int .i64 n, vg, .int .i64 c, vm] w fun e w' => e = .returned (.bool true) ∧ Below w.heap.size w w' := by
  have HG := hide hG
  have HK := hide hK
  obtain ⟨a, b, hc1, hc2⟩ := hS.cnt
  have HC1 := hide hc1
  have HC2 := hide hc2
  have HL := hide hS.lst
  have HW := hide hS.wth
  obtain ⟨pv, lv, cv, rfl⟩ := hv
  obtain ⟨pm, lm, cm, rfl⟩ := hm
  have g3 : (f == 0) = false := beq_eq_false_iff_ne.2 hf
  have g4 : (f != 0) = true := by rw [bne_iff_ne]; exact hf
  have g5 : (f != f) = false := by simp
  have g6 : (a != a) = false := by simp
  have g7 : (b != b) = false := by simp
  clear hG hK hS hc1 hc2 hf
  go_enter Tryz.func5, Tryz.ntmps5
  go_wp2_with fail
  refine HG.out.mono ?_
  rintro e w1 ⟨rfl, rfl⟩
  go_wp2_with fail
  refine HK.out.mono ?_
  rintro e w1 ⟨rfl, hb1⟩
  go_wp2_with fail
  refine (HC1.out w1 hb1).mono ?_
  rintro e w2 ⟨rfl, hb2⟩
  have hB2 := hb1.trans (hb2.mono hb1.size)
  clear hb2 hb1
  go_wp2_with fail
  refine (HC2.out w2 hB2).mono ?_
  rintro e w3 ⟨rfl, hb3⟩
  have hB3 := hB2.trans (hb3.mono hB2.size)
  clear hb3 hB2
  go_wp2_with fail
  refine (HL.out w3 hB3).mono ?_
  rintro e w4 ⟨rfl, hb4⟩
  have hB4 := hB3.trans (hb4.mono hB3.size)
  clear hb4 hB3
  go_wp2_with fail
  refine (HW.out w4 hB4).mono ?_
  rintro e w5 ⟨rfl, hb5⟩
  have hB5 := hB4.trans (hb5.mono hB4.size)
  clear hb5 hB4
  go_wp2
  go_ret
  exact ⟨rfl, hB5⟩

set_option maxRecDepth 20000 in
set_option maxHeartbeats 4000000 in
theorem colourSays_great (n c : Int) (z : Nat) (vg vm : Value) (w : World) (hv : ∃ p l c, vg = .slice p l c) (hm : ∃ p l c, vm = .slice p l c) (hz : 720 < z) (hzl : z ≤ 479001600)
    (hG : Calls Tryz.prog 7 #[.int .i64 n, vg] w fun e w' => e = .returned (.int .i64 0) ∧ w = w')
    (hSz : Calls Tryz.prog 8 #[.int .i64 n, vg] w fun e w' => e = .returned (.int .i64 (z : Int)) ∧ Below w.heap.size w w')
    (hK : 5040 < z → ∀ W, Below w.heap.size w W → Calls Tryz.prog 9 #[.int .i64 n, vg] W fun e w' => e = .returned (.tuple #[.slice none 0 0, .int .i64 3]) ∧ Below W.heap.size W w')
    (hS : 5040 < z → CSay n c vg vm (.slice none 0 0) 3 w) :
    Calls Tryz.prog 5 #[.int .i64 n, vg, .int .i64 c, vm] w fun e w' => e = .returned (.bool true) ∧ Below w.heap.size w w' := by
  have HG := hide hG
  have HZ := hide hSz
  have g1 : decide ((z : Int) > 720) = true := decide_eq_true (by omega)
  obtain ⟨pv, lv, cv, rfl⟩ := hv
  obtain ⟨pm, lm, cm, rfl⟩ := hm
  by_cases hbig : 5040 < z
  · have HK := hide (hK hbig)
    have hS := hS hbig
    obtain ⟨a, b, hc1, hc2⟩ := hS.cnt
    have HC1 := hide hc1
    have HC2 := hide hc2
    have HL := hide hS.lst
    have HW := hide hS.wth
    have g2 : decide ((z : Int) < 5041) = false := decide_eq_false (by omega)
    have g3 : decide ((z : Int) > 5040) = true := decide_eq_true (by omega)
    have g6 : (a != a) = false := by simp
    have g7 : (b != b) = false := by simp
    clear hG hK hS hc1 hc2 hSz
    go_enter Tryz.func5, Tryz.ntmps5
    go_wp2_with fail
    refine HG.out.mono ?_
    rintro e w1 ⟨rfl, rfl⟩
    go_wp2_with fail
    refine HZ.out.mono ?_
    rintro e w0 ⟨rfl, hb0⟩
    go_wp2_with fail
    refine (HK.out w0 hb0).mono ?_
    rintro e w1 ⟨rfl, hb1⟩
    have hB1 := hb0.trans (hb1.mono hb0.size)
    clear hb0 hb1
    go_wp2_with fail
    refine (HC1.out w1 hB1).mono ?_
    rintro e w2 ⟨rfl, hb2⟩
    have hB2 := hB1.trans (hb2.mono hB1.size)
    clear hb2 hB1
    go_wp2_with fail
    refine (HC2.out w2 hB2).mono ?_
    rintro e w3 ⟨rfl, hb3⟩
    have hB3 := hB2.trans (hb3.mono hB2.size)
    clear hb3 hB2
    go_wp2_with fail
    refine (HL.out w3 hB3).mono ?_
    rintro e w4 ⟨rfl, hb4⟩
    have hB4 := hB3.trans (hb4.mono hB3.size)
    clear hb4 hB3
    go_wp2_with fail
    refine (HW.out w4 hB4).mono ?_
    rintro e w5 ⟨rfl, hb5⟩
    have hB5 := hB4.trans (hb5.mono hB4.size)
    clear hb5 hB4
    go_wp2
    go_ret
    exact ⟨rfl, hB5⟩
  · have g2 : decide ((z : Int) < 5041) = true := decide_eq_true (by omega)
    clear hG hK hS hSz
    go_enter Tryz.func5, Tryz.ntmps5
    go_wp2_with fail
    refine HG.out.mono ?_
    rintro e w1 ⟨rfl, rfl⟩
    go_wp2_with fail
    refine HZ.out.mono ?_
    rintro e w0 ⟨rfl, hb0⟩
    go_wp2
    go_ret
    exact ⟨rfl, hb0⟩

set_option maxRecDepth 20000 in
set_option maxHeartbeats 4000000 in
theorem colourSays_small (n c : Int) (z : Nat) (vg vm : Value) (w : World) (hv : ∃ p l c, vg = .slice p l c) (hm : ∃ p l c, vm = .slice p l c) (hz : z ≤ 720)
    (hG : Calls Tryz.prog 7 #[.int .i64 n, vg] w fun e w' => e = .returned (.int .i64 0) ∧ w = w')
    (hSz : Calls Tryz.prog 8 #[.int .i64 n, vg] w fun e w' => e = .returned (.int .i64 (z : Int)) ∧ Below w.heap.size w w')
    (hK : ∀ W, Below w.heap.size w W → Calls Tryz.prog 9 #[.int .i64 n, vg] W fun e w' => ∃ p l q, e = .returned (.tuple #[.slice p l q, .int .i64 0]) ∧ Below W.heap.size W w' ∧ ∀ W2, Below w'.heap.size w' W2 → Calls Tryz.prog 10 #[.int .i64 n, vg, .int .i64 5040] W2 fun e w3 => ∃ p2 l2 q2 p3 l3 q3, e = .returned (.tuple #[.slice p2 l2 q2, .slice p3 l3 q3]) ∧ Below W2.heap.size W2 w3 ∧ CSay n c vg vm (.slice p2 l2 q2) 0 w3 ∧
      Calls Tryz.prog 12 #[.slice p2 l2 q2] w3 fun e w4 => ∃ p4 l4 q4, e = .returned (.slice p4 l4 q4) ∧ Below w3.heap.size w3 w4 ∧ Calls Tryz.prog 11 #[.slice p l q, .slice p4 l4 q4] w4 fun e w5 => e = .returned (.bool true) ∧ Below w4.heap.size w4 w5) :
    Calls Tryz.prog 5 #[.int .i64 n, vg, .int .i64 c, vm] w fun e w' => e = .returned (.bool true) ∧ Below w.heap.size w w' := by
  have HG := hide hG
  have HZ := hide hSz
  have HK := hide hK
  obtain ⟨pv, lv, cv, rfl⟩ := hv
  obtain ⟨pm, lm, cm, rfl⟩ := hm
  have g1 : decide ((z : Int) > 720) = false := decide_eq_false (by omega)
  have g3 : decide ((z : Int) > 5040) = false := decide_eq_false (by omega)
  clear hG hK hSz
  go_enter Tryz.func5, Tryz.ntmps5
  go_wp2_with fail
  refine HG.out.mono ?_
  rintro e w1 ⟨rfl, rfl⟩
  go_wp2_with fail
  refine HZ.out.mono ?_
  rintro e w0 ⟨rfl, hb0⟩
  go_wp2_with fail
  refine (HK.out w0 hb0).mono ?_
  rintro e w1 ⟨p, l, q, rfl, hb1, hC⟩
  have hB1 := hb0.trans (hb1.mono hb0.size)
  have HC := hide (hC w1 (Below.refl _ _))
  clear hb0 hb1 hC HK
  go_wp2_with fail
  refine HC.out.mono ?_
  rintro e w3 ⟨p2, l2, q2, p3, l3, q3, rfl, hb3, hS, hRK⟩
  have hB3 := hB1.trans (hb3.mono hB1.size)
  obtain ⟨a, b, hc1, hc2⟩ := hS.cnt
  have HC1 := hide hc1
  have HC2 := hide hc2
  have HL := hide hS.lst
  have HW := hide hS.wth
  have HR := hide hRK
  have g6 : (a != a) = false := by simp
  have g7 : (b != b) = false := by simp
  clear hb3 hB1 hS hc1 hc2 hRK HC
  go_wp2_with fail
  refine HR.out.mono ?_
  rintro e w4 ⟨p4, l4, q4, rfl, hb4, hSK⟩
  have HSK := hide hSK
  clear hSK HR
  go_wp2_with fail
  refine HSK.out.mono ?_
  rintro e w5 ⟨rfl, hb5⟩
  have hB5 := hb4.trans (hb5.mono hb4.size)
  clear hb4 hb5 HSK
  go_wp2_with fail
  refine (HC1.out w5 hB5).mono ?_
  rintro e w6 ⟨rfl, hb6⟩
  have hB6 := hB5.trans (hb6.mono hB5.size)
  clear hb6 hB5
  go_wp2_with fail
  refine (HC2.out w6 hB6).mono ?_
  rintro e w7 ⟨rfl, hb7⟩
  have hB7 := hB6.trans (hb7.mono hB6.size)
  clear hb7 hB6
  go_wp2_with fail
  refine (HL.out w7 hB7).mono ?_
  rintro e w8 ⟨rfl, hb8⟩
  have hB8 := hB7.trans (hb8.mono hB7.size)
  clear hb8 hB7
  go_wp2_with fail
  refine (HW.out w8 hB8).mono ?_
  rintro e w9 ⟨rfl, hb9⟩
  have hB9 := hB8.trans (hb9.mono hB8.size)
  have hBB := hB3.trans (hB9.mono hB3.size)
  clear hb9 hB8 hB3 hB9
  go_wp2
  go_ret
  exact ⟨rfl, hBB⟩

end Go.Proofs.YtahffpgadoiijaaGreat

/- ColourSays answers true at every input: all ways together. -/
namespace Go.Proofs.YtahffpgadoiijaaGreat
open Go.RowKit
set_option linter.unusedVariables false

theorem IntsAll.sl {w : World} {v : Value} {xss : List (List Int)} (h : IntsAll w v xss) : ∃ p l c, v = .slice p l c := by
  obtain ⟨p, c, e⟩ := h.len
  exact ⟨p, _, c, e⟩

theorem Ints.sl {w : World} {v : Value} {xs : List Int} (h : Ints w v xs) : ∃ p l c, v = .slice p l c := by
  obtain ⟨p, c, e⟩ := h.form
  exact ⟨p, _, c, e⟩

theorem csay_no (n c f : Int) (vg vm : Value) (gss : List (List Int)) (xs : List Int) (w : World) (hA : IntsAll w vg gss) (hI : Ints w vm xs) (hf : f ≠ 0)
    (hk : ∀ W, Below w.heap.size w W → Calls Tryz.prog 48 #[.int .i64 n, vg] W fun e w' => e = .returned (.int .i64 f) ∧ Below W.heap.size W w')
    (hg : ∀ W, Below w.heap.size w W → Calls Tryz.prog 7 #[.int .i64 n, vg] W fun e w' => e = .returned (.int .i64 f) ∧ W = w') : CSay n c vg vm (.slice none 0 0) f w := by
  have hv := hA.sl
  have tr : ∀ W, Below w.heap.size w W → ∀ W2, Below W.heap.size W W2 → Below w.heap.size w W2 := fun W h1 W2 h2 => h1.trans (h2.mono h1.size)
  refine ⟨?_, fun W hW => ?_, fun W hW => ?_⟩
  · by_cases hc : 0 ≤ c ∧ c ≤ 8
    · exact ⟨0, f, fun W hW => count_no n vg c f W hc hv hf (fun W2 hW2 => hk W2 (tr W hW W2 hW2)), fun W hW => rcount_no n vg c f W hc hv hf (hg W hW)⟩
    · exact ⟨0, 12, fun W hW => count_bad n vg c W hc hv, fun W hW => rcount_bad n vg c W hc hv⟩
  · by_cases hc : 0 ≤ c ∧ c ≤ 8
    · exact clist_no n vg _ c f W hc hv ⟨_, _, _, rfl⟩ hf (patterns_no n vg c f W hc hv hf (hk W hW))
    · exact clist_bad n vg _ c f W hc hv ⟨_, _, _, rfl⟩
  · by_cases he : cmE n xs = 0
    · exact cwith_no n vg vm _ xs f f W (hI.below hW) hv ⟨_, _, _, rfl⟩ hf (by rw [if_pos he]) (with_no n vg vm xs f W (hI.below hW) he hv hf (fun W2 hW2 => hk W2 (tr W hW W2 hW2)))
    · exact cwith_no n vg vm _ xs f (cmE n xs) W (hI.below hW) hv ⟨_, _, _, rfl⟩ he (by rw [if_neg he]) (with_bad n vg vm xs W (hI.below hW) he hv)

theorem csay_great (n : Nat) (c : Int) (vg vm : Value) (gss : List (List Int)) (xs : List Int) (w : World) (hA : IntsAll w vg gss) (hI : Ints w vm xs) (hR : RowsN n gss) (h1 : 1 ≤ n) (h12 : n ≤ 12) (h8 : gss.length ≤ 8) (hbig : 5040 < sz (Gen (fun y => y ∈ gss.map pad)) n) : CSay n c vg vm (.slice none 0 0) 3 w := by
  have hv := hA.sl
  refine ⟨?_, fun W hW => ?_, fun W hW => ?_⟩
  · by_cases hc : 0 ≤ c ∧ c ≤ 8
    · obtain ⟨c', rfl⟩ := Int.eq_ofNat_of_zero_le hc.1
      refine ⟨0, 3, fun W hW => ?_, fun W hW => ?_⟩
      · refine (count_ok n c' vg gss W (hA.below hW) hR h1 h12 h8 (by omega)).mono ?_
        rintro e w' ⟨hb, hp⟩
        rw [if_pos hbig] at hp
        exact ⟨hp, hb⟩
      · refine (rcount_ok n c' vg gss W (hA.below hW) hR h1 h12 h8 (by omega)).mono ?_
        rintro e w' ⟨hb, hp⟩
        rw [if_pos hbig] at hp
        exact ⟨hp, hb⟩
    · exact ⟨0, 12, fun W hW => count_bad n vg c W hc hv, fun W hW => rcount_bad n vg c W hc hv⟩
  · by_cases hc : 0 ≤ c ∧ c ≤ 8
    · obtain ⟨c', rfl⟩ := Int.eq_ofNat_of_zero_le hc.1
      refine clist_no n vg _ _ 3 W hc hv ⟨_, _, _, rfl⟩ (by decide) ?_
      refine (patterns_ok n c' vg gss W (hA.below hW) hR h1 h12 h8 (by omega)).mono ?_
      rintro e w' ⟨hb, hp⟩
      rw [if_pos (Or.inl hbig)] at hp
      exact ⟨hp, hb⟩
    · exact clist_bad n vg _ c 3 W hc hv ⟨_, _, _, rfl⟩
  · by_cases he : cmE n xs = 0
    · obtain ⟨many, rfl, hm1, hm8, hM⟩ := cmE_zero he h1 h12
      refine cwith_no n vg vm _ _ 3 3 W (hI.below hW) hv ⟨_, _, _, rfl⟩ (by decide) (by rw [if_pos he]) ?_
      refine (with_ok n many vg vm gss W (hA.below hW) (hI.below hW) hR h1 h12 h8 hm1 hm8 hM he).mono ?_
      rintro e w' ⟨hb, hp⟩
      rw [if_pos hbig] at hp
      exact ⟨hp, hb⟩
    · exact cwith_no n vg vm _ xs 3 (cmE n xs) W (hI.below hW) hv ⟨_, _, _, rfl⟩ he (by rw [if_neg he]) (with_bad n vg vm xs W (hI.below hW) he hv)

theorem csay_small (n : Nat) (c : Int) (vg vm vR : Value) (gss : List (List Int)) (xs : List Int) (X : List Pm) (w : World) (hA : IntsAll w vg gss) (hI : Ints w vm xs) (hIR : IntsAll w vR (X.map (cut n))) (hR : RowsN n gss) (h1 : 1 ≤ n) (h12 : n ≤ 12) (h8 : gss.length ≤ 8) (hX : X.Nodup) (hm : ∀ x, x ∈ X ↔ Gen (fun y => y ∈ gss.map pad) x) (hsz : ¬ 5040 < sz (Gen (fun y => y ∈ gss.map pad)) n) (hXl : X.length ≤ 5040) : CSay n c vg vm vR 0 w := by
  have hv := hA.sl
  have hr := hIR.sl
  refine ⟨?_, fun W hW => ?_, fun W hW => ?_⟩
  · by_cases hc : 0 ≤ c ∧ c ≤ 8
    · obtain ⟨c', rfl⟩ := Int.eq_ofNat_of_zero_le hc.1
      refine ⟨(((X.map (fun x => c' ^ (kl (cut n x)).sum)).sum / X.length : Nat) : Int), 0, fun W hW => ?_, fun W hW => ?_⟩
      · refine (count_ok n c' vg gss W (hA.below hW) hR h1 h12 h8 (by omega)).mono ?_
        rintro e w' ⟨hb, hp⟩
        rw [if_neg hsz] at hp
        obtain ⟨cv, rfl, hcv⟩ := hp
        rw [hcv X hX hm]
        exact ⟨rfl, hb⟩
      · refine (rcount_ok n c' vg gss W (hA.below hW) hR h1 h12 h8 (by omega)).mono ?_
        rintro e w' ⟨hb, hp⟩
        rw [if_neg hsz] at hp
        obtain ⟨cv, rfl, hcv⟩ := hp
        rw [hcv X hX hm]
        exact ⟨rfl, hb⟩
    · exact ⟨0, 12, fun W hW => count_bad n vg c W hc hv, fun W hW => rcount_bad n vg c W hc hv⟩
  · by_cases hc : 0 ≤ c ∧ c ≤ 8
    · obtain ⟨c', rfl⟩ := Int.eq_ofNat_of_zero_le hc.1
      exact clist_ok n c' vg vR gss X W (hA.below hW) (hIR.below hW) hR h1 h12 h8 (by omega) hX hm hsz hXl
    · exact clist_bad n vg _ c 0 W hc hv hr
  · by_cases he : cmE n xs = 0
    · obtain ⟨many, rfl, hm1, hm8, hM⟩ := cmE_zero he h1 h12
      exact cwith_ok n many vg vm vR gss X W (hA.below hW) (hI.below hW) (hIR.below hW) hR h1 h12 h8 hm1 hm8 hM he hX hm hsz hXl
    · exact cwith_no n vg vm _ xs 0 (cmE n xs) W (hI.below hW) hv hr he (by rw [if_neg he]) (with_bad n vg vm xs W (hI.below hW) he hv)

theorem colourSays_any (n c : Int) (vg vm : Value) (gss : List (List Int)) (xs : List Int) (w : World) (hA : IntsAll w vg gss) (hI : Ints w vm xs) :
    Calls Tryz.prog 5 #[.int .i64 n, vg, .int .i64 c, vm] w fun e w' => e = .returned (.bool true) ∧ Below w.heap.size w w' := by
  by_cases hb : n < 1 ∨ 12 < n ∨ 8 < gss.length
  · have hk : ∀ W, Below w.heap.size w W → Calls Tryz.prog 48 #[.int .i64 n, vg] W fun e w' => e = .returned (.int .i64 1) ∧ Below W.heap.size W w' := fun W hW => by
      refine (gcheck_bad n vg gss W (hA.below hW) hb).mono ?_
      rintro e w'' ⟨rfl, rfl⟩
      exact ⟨rfl, Below.refl _ _⟩
    have hg : ∀ W, Below w.heap.size w W → Calls Tryz.prog 7 #[.int .i64 n, vg] W fun e w' => e = .returned (.int .i64 1) ∧ W = w' := fun W hW => gensMay_bad n vg gss W (hA.below hW) hb
    exact colourSays_no n c 1 vg vm w hA.sl hI.sl (by decide) (hg w (Below.refl _ _)) (kinds_no n vg 1 w (by decide) (hk w (Below.refl _ _))) (csay_no n c 1 vg vm gss xs w hA hI (by decide) hk hg)
  · obtain ⟨m, rfl⟩ := Int.eq_ofNat_of_zero_le (show 0 ≤ n by omega)
    have h1 : 1 ≤ m := by omega
    have h12 : m ≤ 12 := by omega
    have h8 : gss.length ≤ 8 := by omega
    by_cases hz : gchk m gss = 0
    · have hR := gchk_back hz
      have hG : Calls Tryz.prog 7 #[.int .i64 (m : Int), vg] w fun e w' => e = .returned (.int .i64 0) ∧ w = w' := by have := gensMay_ok m vg gss w hA h1 h12 h8; rwa [hz] at this
      have hSz := sizes_ok m vg gss w hA hR h1 h12 (by omega)
      by_cases hs : 720 < sz (Gen (fun y => y ∈ gss.map pad)) m
      · have hsl : (sz (Gen (fun y => y ∈ gss.map pad)) m) ≤ 479001600 := by
          have hd := sz_fct (Gen.sub (fun y => y ∈ gss.map pad)) h12 (fun x hx => gens_fix h12 hR hx)
          have hf : fct m ≤ 479001600 ∧ 0 < fct m := by
            rcases (show m = 1 ∨ m = 2 ∨ m = 3 ∨ m = 4 ∨ m = 5 ∨ m = 6 ∨ m = 7 ∨ m = 8 ∨ m = 9 ∨ m = 10 ∨ m = 11 ∨ m = 12 by omega) with rfl | rfl | rfl | rfl | rfl | rfl | rfl | rfl | rfl | rfl | rfl | rfl <;> decide
          exact Nat.le_trans (Nat.le_of_dvd hf.2 hd) hf.1
        refine colourSays_great m c _ vg vm w hA.sl hI.sl hs hsl hG hSz (fun hbig W hW => ?_) (fun hbig => csay_great m c vg vm gss xs w hA hI hR h1 h12 h8 hbig)
        refine (kinds_ok m vg gss W (hA.below hW) hR h1 h12 h8).mono ?_
        rintro e w' ⟨hb', hp⟩
        rw [if_pos hbig] at hp
        exact ⟨hp, hb'⟩
      · have hsz : ¬ 5040 < sz (Gen (fun y => y ∈ gss.map pad)) m := by omega
        refine colourSays_small m c _ vg vm w hA.sl hI.sl (by omega) hG hSz (fun W hW => ?_)
        have hAW := hA.below hW
        have hIW := hI.below hW
        refine (kinds_ok m vg gss W hAW hR h1 h12 h8).mono ?_
        rintro e w' ⟨hb', hp⟩
        rw [if_neg hsz] at hp
        obtain ⟨v, Z, X, rfl, hKs, hKO, hln, hXl, hXn, hXm⟩ := hp
        obtain ⟨p, q, ev⟩ := owns_sliceK hKs.row
        subst ev
        refine ⟨p, _, q, rfl, hb', fun W2 hW2 => ?_⟩
        have hA2 := (hAW.below hb').below hW2
        have hI2 := (hIW.below hb').below hW2
        refine (closedX_ok m vg gss W2 hA2 hR h1 h12 h8).mono ?_
        rintro e w3 ⟨hb3, hp3⟩
        rcases hp3 with ⟨h9, _⟩ | ⟨_, vr, pw, lw, cw, X2, rfl, hIR, hX2n, hX2m, hX2l, hX21⟩
        · exact absurd h9 hsz
        obtain ⟨p2, q2, e2⟩ := hIR.len
        subst e2
        have hX25 : X2.length ≤ 5040 := by omega
        refine ⟨p2, _, q2, pw, lw, cw, rfl, hb3, csay_small m c vg vm _ gss xs X2 w3 (hA2.below hb3) (hI2.below hb3) hIR hR h1 h12 h8 hX2n hX2m hsz hX25, ?_⟩
        refine (rkinds_ok m _ (X2.map (cut m)) w3 hIR (fun r hr => ?_) h1 h12 (by rw [List.length_map]; exact hX25) (by rw [List.length_map]; exact hX21)).mono ?_
        · obtain ⟨x, hx, rfl⟩ := List.mem_map.1 hr
          exact ⟨cut_row h12 (gens_fix h12 hR ((hX2m x).1 hx)), cut_length h12 x⟩
        · rintro e w4 ⟨u, Z2, rfl, hKr, hKO2, hb4⟩
          obtain ⟨b4, hr4, _⟩ := id hKr
          obtain ⟨p4, q4, e4⟩ := owns_sliceK hr4
          subst e4
          have hperm := perm_of_mem hXn hX2n hXm hX2m
          rw [List.map_map] at hKO2
          have heq := hKO.unique hKO2 (hperm.map _)
          have hZl : Z.length ≤ 5040 := by
            have h5 := hKO.len
            rw [List.length_map, List.length_map] at h5
            omega
          exact ⟨p4, _, q4, rfl, hb4, sameKinds_ok _ _ Z Z2 w4 (((hKs.read.below hW2).below hb3).below hb4) hKr heq hZl⟩
    · have hk : ∀ W, Below w.heap.size w W → Calls Tryz.prog 48 #[.int .i64 (m : Int), vg] W fun e w' => e = .returned (.int .i64 (gchk m gss)) ∧ Below W.heap.size W w' := fun W hW => gcheck_ok m vg gss W (hA.below hW) h1 h12 h8
      have hg : ∀ W, Below w.heap.size w W → Calls Tryz.prog 7 #[.int .i64 (m : Int), vg] W fun e w' => e = .returned (.int .i64 (gchk m gss)) ∧ W = w' := fun W hW => gensMay_ok m vg gss W (hA.below hW) h1 h12 h8
      exact colourSays_no m c _ vg vm w hA.sl hI.sl hz (hg w (Below.refl _ _)) (kinds_no m vg _ w hz (hk w (Below.refl _ _))) (csay_no m c _ vg vm gss xs w hA hI hz hk hg)

theorem colourSays_walk (n : Int) (v : Value) (gss : List (List Int)) (c : Int) (v3 : Value) (xs : List Int) (w : World) (_ : I64 n) (hA : IntsAll w v gss) (_ : I64 c) (hI : Ints w v3 xs) (_ : ∀ x, x ∈ xs → I64 x) :
    Calls Tryz.prog 5 #[.int .i64 n, v, .int .i64 c, v3] w fun e w' => e = .returned (.bool true) ∧ Below w.heap.size w w' := colourSays_any n c v v3 gss xs w hA hI

end Go.Proofs.YtahffpgadoiijaaGreat

/- ColourMade answers true at every input. -/
namespace Go.Proofs.YtahffpgadoiijaaGreat
open Go.RowKit
set_option linter.unusedVariables false

set_option maxRecDepth 20000 in
theorem colourMade_long (v v4 : Value) (xs ps : List Int) (a1 a2 a3 : Int) (w : World) (h : Ints w v xs) (h4 : Ints w v4 ps) (hl : 256 < xs.length ∨ 16 < ps.length) :
    Calls Tryz.prog 3 #[v, .int .i64 a1, .int .i64 a2, .int .i64 a3, v4] w fun e w' => e = .returned (.bool true) ∧ Below w.heap.size w w' := by
  obtain ⟨p, c, e⟩ := h.form
  obtain ⟨p4, c4, e4⟩ := h4.form
  subst e; subst e4
  clear h h4
  generalize xs.length = L at *
  generalize ps.length = M at *
  by_cases h1 : 256 < L
  · have g1 : decide ((L : Int) > 256) = true := decide_eq_true (by omega)
    go_enter Tryz.func3, Tryz.ntmps3
    go_wp2
    go_ret
    exact ⟨rfl, Below.refl _ _⟩
  · have g1 : decide ((L : Int) > 256) = false := decide_eq_false (by omega)
    have g2 : decide ((M : Int) > 16) = true := decide_eq_true (by omega)
    go_enter Tryz.func3, Tryz.ntmps3
    go_wp2
    go_ret
    exact ⟨rfl, Below.refl _ _⟩

/-- Rows behind a row that grows. -/
theorem rows_kept {w wr wg w' : World} {n k m e : Nat} {v u : Value} {vs ys : List Value} {xss : List (List Int)} (h : RowsRel w wr n k v vs xss) (hb : Below wr.heap.size wr wg) (hu : ∀ g, u.ownBlock = some g → g < w.heap.size) (hg : wg.grownBy w' u.ownBlock) : IntsAll w' v xss := by
  have key : ∀ {e s m : Nat} {x : Value} {zs : List Value}, wr.ownsRow w.heap.size e s x m zs → w'.ownsRow w.heap.size e s x m zs := fun {e s m x zs} hx => by
    refine (owns_belowK hx hb (Nat.le_refl _)).kept hg ?_
    cases hxb : x.ownBlock with
    | none => exact Or.inl rfl
    | some g =>
      right
      intro e2
      have h1 := (hx.lt g hxb).1
      have h2 := hu g e2.symm
      omega
  have hrow := key h.row
  rw [← h.len] at hrow
  exact IntsAll.own hrow (h.all.mono (fun _ _ _ h' => key h'))

set_option maxRecDepth 20000 in
set_option maxHeartbeats 4000000 in
theorem colourMade_ok (v v4 : Value) (xs ps : List Int) (a1 a2 a3 : Int) (w : World) (h : Ints w v xs) (hx : ∀ x, x ∈ xs → I64 x) (h4 : Ints w v4 ps) (hp : ∀ x, x ∈ ps → I64 x) (hl : xs.length ≤ 256) (hl4 : ps.length ≤ 16) (i1 : I64 a1) (i2 : I64 a2) (i3 : I64 a3) :
    Calls Tryz.prog 3 #[v, .int .i64 a1, .int .i64 a2, .int .i64 a3, v4] w fun e w' => e = .returned (.bool true) ∧ Below w.heap.size w w' := by
  obtain ⟨i0, hi, hz0, hz1, hz2⟩ := info_parts Tryz.info3
  have HI := hide h
  have HX := hide hx
  obtain ⟨l1, r1⟩ := i1
  obtain ⟨l2, r2⟩ := i2
  obtain ⟨l3, r3⟩ := i3
  obtain ⟨p, c, e⟩ := h.form
  obtain ⟨p4, c4, e4⟩ := h4.form
  subst e; subst e4
  have HC : Hid (∀ W, Below w.heap.size w W → ∀ k, k < ps.length → ∃ b off x, p4 = some ⟨b, off, none⟩ ∧ ps.length ≤ c4 ∧ c4 ≤ 9223372036854775807 ∧ W.cell? ⟨b, off + k, none⟩ = some (.int .i64 x) ∧ I64 x) := fun W hW k hk => by
    obtain ⟨b, off, x, q1, q2, q3, q4, q5⟩ := many_cells h4 W hW k hk
    exact ⟨b, off, x, q2, q3, q4, q5, hp x (List.mem_of_getElem? q1)⟩
  have g1 : decide ((xs.length : Int) > 256) = false := decide_eq_false (by omega)
  have g2 : decide ((ps.length : Int) > 16) = false := decide_eq_false (by omega)
  generalize hML : ps.length = M at *
  clear h hx h4 hp hML
  go_enter Tryz.func3, Tryz.ntmps3
  go_wp2_with fail
  refine (pick_any a1 6 _ l1 r1 (by omega) (by omega)).mono ?_
  rintro ex wp ⟨k1, k1a, k1b, rfl, rfl⟩
  obtain ⟨n0, rfl⟩ := Int.eq_ofNat_of_zero_le k1a
  obtain ⟨n, hn⟩ : ∃ n : Nat, n = n0 + 1 := ⟨_, rfl⟩
  have hnI : (1 : Int) + (n0 : Int) = (n : Int) := by omega
  have h1 : 1 ≤ n := by omega
  have h6 : n ≤ 6 := by omega
  clear hn k1a k1b l1 r1
  go_wp2
  go_loopw [11, 12, 13] (fun sv sl si wr => ∃ (i left : Nat) (ls : List Int), i ≤ 3 ∧ left ≤ n ∧ si = .int .i64 (i : Int) ∧ sl = .int .i64 (left : Int) ∧ ls.length = i ∧ Hid (wr.ownsRow w.heap.size 3 1 sv ls.length (ls.map (Value.int .i64))) ∧ Below w.heap.size w wr) (fun _ _ si _ => 3 - (intOf si).toNat)
  case atStart => exact ⟨0, n, [], by omega, Nat.le_refl _, rfl, rfl, rfl, World.ownsRow_nil _ _ _ _, Below.refl _ _⟩
  case round =>
    obtain ⟨i, left, ls, hi3, hln, rfl, rfl, hll, hO, hbm⟩ := hrel
    obtain ⟨pl, cl, el⟩ := owns_slice hO.out
    subst el
    rw [hll] at hO ⊢
    have HLL := hide hll
    clear hll
    by_cases hgo : i < M ∧ i < 3
    · have q1 : decide ((i : Int) < (M : Int)) = true := decide_eq_true (by omega)
      have q2 : decide ((i : Int) < 3) = true := decide_eq_true (by omega)
      obtain ⟨b, off, x, rfl, hc1, hc2, hcx, hx64⟩ := HC.out wr hbm i hgo.1
      have hgi := hgo.1
      have hgi3 := hgo.2
      clear hgo
      go_wp2_with fail
      refine (pick_any x ((left : Int) + 1) _ hx64.1 hx64.2 (by omega) (by omega)).mono ?_
      rintro ex wp ⟨k2, k2a, k2b, rfl, rfl⟩
      obtain ⟨k, rfl⟩ := Int.eq_ofNat_of_zero_le k2a
      have hkl : k ≤ left := by omega
      have hrow := hO.out
      have HBM := hide hbm
      have hsz := hbm.size
      clear k2a k2b hbm hx64
      go_wp2_with (at_builtin; refine wpList_append_own _ rfl _ _ 22 rfl w.heap.size 3 i0 (.int .i64 0) 1 8 Tryz.underlying22 hi hz0 hz1 hz2 rfl (by decide) _ _ _ rfl (hrow.alloc _) ⟨wr.heap.size, 0, none⟩ 1 1 [.int .i64 (k : Int)] rfl rfl ?c1 ?c2 ?c3 ?c4 ?c5 ?_)
      case c1 => exact cell_one_new _ _ _
      case c2 => intro u hu; simp at hu; subst hu; rfl
      case c3 => unfold maxLen; omega
      case c4 => omega
      case c5 => simp; omega
      intro v5 w5 hown5 hg5 _
      have hB5 : Below w.heap.size w w5 := (HBM.out.alloc hsz _).grown hg5 (by simp; omega) (fun g hg => (World.ownsRow.lt hrow g hg).1)
      have HO5 : Hid (w5.ownsRow w.heap.size 3 1 v5 (ls ++ [(k : Int)]).length ((ls ++ [(k : Int)]).map (Value.int .i64))) := by
        show World.ownsRow _ _ _ _ _ _ _
        rw [List.map_append, List.length_append, HLL.out]
        exact hown5
      have HL5 : Hid ((ls ++ [(k : Int)]).length = i + 1) := by show _ = _; rw [List.length_append, HLL.out]; rfl
      obtain ⟨p5, c5, e5⟩ := owns_slice hown5
      subst e5
      obtain ⟨d, hd⟩ : ∃ d, d = left - k := ⟨_, rfl⟩
      have hdI : (left : Int) - (k : Int) = (d : Int) := by omega
      have hdn : d ≤ n := by omega
      clear hown5 hg5 hrow hO HBM hd
      go_wp2
      go_roundw
      case rel => exact ⟨i + 1, d, _, by omega, hdn, by go_num, by go_num, HL5.out, HO5, hB5⟩
      case measure => simp [intOf]; omega
    · have HEx : Hid (¬ ((i : Int) < (M : Int)) ∨ (((i : Int) < (M : Int)) ∧ ¬ ((i : Int) < 3))) := by
        by_cases hM : i < M
        · exact Or.inr ⟨by omega, by omega⟩
        · exact Or.inl (by omega)
      have HR1 : Hid (∀ m : Nat, m ≤ 2 → Calls Tryz.prog 6 #[.slice p xs.length c, .int .i64 0, .int .i64 n, .int .i64 m] wr fun e w' => ∃ u vs xss, e = .returned u ∧ RowsRel wr w' n m u vs xss) := fun m hm => rowsOf_ok2 (.slice p xs.length c) xs 0 n m wr (HI.out.below hbm) HX.out (by omega) h1 (by omega) (by omega)
      have HO := hO
      have HBM := hide hbm
      have hsz := hbm.size
      clear hgo hO hbm
      have hTail : Hid (∀ (m : Nat) (u1 : Value) (vs1 : List Value) (gss : List (List Int)) (w1 : World), m ≤ 2 → RowsRel wr w1 n m u1 vs1 gss → ∀ (v5 : Value) (w5 : World) (cc : Nat), w5.ownsRow w.heap.size 3 1 v5 (i + 1) (ls.map (Value.int .i64) ++ [.int .i64 (left : Int)]) → (w1.alloc (.cells #[.int .i64 (left : Int)] 3)).grownBy w5 (Value.slice pl i cl).ownBlock → Calls Tryz.prog 5 #[.int .i64 (n : Int), u1, .int .i64 (cc : Int), v5] w5 fun e w' => e = .returned (.bool true) ∧ Below w.heap.size w w') := fun m u1 vs1 gss w1 hm hR v5 w5 cc ho hg => by
        have hb1 : Below w.heap.size w w1 := HBM.out.trans (hR.below.mono hsz)
        have hba : Below w1.heap.size w1 (w1.alloc (.cells #[.int .i64 (left : Int)] 3)) := (Below.refl _ _).alloc (Nat.le_refl _) _
        have hlt : ∀ g, (Value.slice pl i cl).ownBlock = some g → g < wr.heap.size ∧ w.heap.size ≤ g := fun g hg' => ⟨(World.ownsRow.lt HO.out g hg').2, (World.ownsRow.lt HO.out g hg').1⟩
        have hA := rows_kept (e := 0) (m := 0) (ys := []) hR hba (fun g hg' => (hlt g hg').1) hg
        have hB5 : Below w.heap.size w w5 := (hb1.alloc hb1.size _).grown hg (Nat.le_trans hb1.size hba.size) (fun g hg' => (hlt g hg').2)
        have hI5 : Ints w5 v5 (ls ++ [(left : Int)]) := Ints.own (n := i + 1) (base := w.heap.size) (e := 3) (by rw [List.map_append]; exact ho)
        refine (colourSays_any (n : Int) (cc : Int) u1 v5 gss _ w5 hA hI5).mono ?_
        rintro e w' ⟨rfl, hb'⟩
        exact ⟨rfl, hB5.trans (hb'.mono hB5.size)⟩
      rcases HEx.out with q1 | ⟨q1, q2⟩
      all_goals
        go_wp2_with fail
        refine (pick_any a2 3 _ l2 r2 (by omega) (by omega)).mono ?_
        rintro ex wp ⟨k2, k2a, k2b, rfl, rfl⟩
        obtain ⟨m, rfl⟩ := Int.eq_ofNat_of_zero_le k2a
        have hm2 : m ≤ 2 := by omega
        have HRm := hide (HR1.out m hm2)
        clear k2a k2b
        go_wp2_with fail
        refine HRm.out.mono ?_
        rintro ex w1 ⟨u1, vs1, gss, rfl, hR1⟩
        have hrow := owns_belowK HO.out hR1.below (Nat.le_refl _)
        have hs1 := hR1.below.size
        have HT := hide (hTail.out m u1 vs1 gss w1 hm2 hR1)
        obtain ⟨pg, cg, eg⟩ := owns_slice hR1.row
        subst eg
        clear hR1 HRm
        go_wp2_with fail
        refine (pick_any a3 5 _ l3 r3 (by omega) (by omega)).mono ?_
        rintro ex wp ⟨k3, k3a, k3b, rfl, rfl⟩
        obtain ⟨cc, rfl⟩ := Int.eq_ofNat_of_zero_le k3a
        clear k3a k3b
        go_wp2_with (at_builtin; refine wpList_append_own _ rfl _ _ 22 rfl w.heap.size 3 i0 (.int .i64 0) 1 8 Tryz.underlying22 hi hz0 hz1 hz2 rfl (by decide) _ _ _ rfl (hrow.alloc _) ⟨w1.heap.size, 0, none⟩ 1 1 [.int .i64 (left : Int)] rfl rfl ?c1 ?c2 ?c3 ?c4 ?c5 ?_)
        case c1 => exact cell_one_new _ _ _
        case c2 => intro u hu; simp at hu; subst hu; rfl
        case c3 => unfold maxLen; omega
        case c4 => omega
        case c5 => simp; omega
        intro v5 w5 hown5 hg5 _
        have HCall := hide (HT.out v5 w5 cc hown5 hg5)
        obtain ⟨p5, c5, e5⟩ := owns_slice hown5
        subst e5
        clear hown5 hg5 hrow
        go_wp2_with fail
        refine HCall.out.mono ?_
        rintro ex w6 ⟨rfl, hb6⟩
        go_wp2
        go_ret
        exact ⟨rfl, hb6⟩

theorem colourMade_walk (v : Value) (xs : List Int) (a1 a2 a3 : Int) (v4 : Value) (ps : List Int) (w : World) (h : Ints w v xs) (hx : ∀ x, x ∈ xs → I64 x) (i1 : I64 a1) (i2 : I64 a2) (i3 : I64 a3) (h4 : Ints w v4 ps) (hp : ∀ x, x ∈ ps → I64 x) :
    Calls Tryz.prog 3 #[v, .int .i64 a1, .int .i64 a2, .int .i64 a3, v4] w fun e w' => e = .returned (.bool true) ∧ Below w.heap.size w w' := by
  by_cases hl : 256 < xs.length ∨ 16 < ps.length
  · exact colourMade_long v v4 xs ps a1 a2 a3 w h h4 hl
  · exact colourMade_ok v v4 xs ps a1 a2 a3 w h hx h4 hp (by omega) (by omega) i1 i2 i3

end Go.Proofs.YtahffpgadoiijaaGreat
