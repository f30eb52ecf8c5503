/- Joined: KpA, KpB, KpC, KoN, KpE, KpF, KpG, KpH. -/
import Derived.Test.YtahffpgadoiijaaGreatJ13
import Derived.Test.YtahffpgadoiijaaGreatJ12
import Derived.Test.YtahffpgadoiijaaGreatJ9
import Derived.Test.YtahffpgadoiijaaGreatJ6
import Derived.Test.YtahffpgadoiijaaGreatJ5
import Derived.Test.YtahffpgadoiijaaGreatJ11
/- Contracts: With; refusals of Count and With. -/
namespace Go.Proofs.YtahffpgadoiijaaGreat
open Go.RowKit
set_option linter.unusedVariables false

theorem wn_bound {many K : List Nat} (hm8 : many.length ≤ 8) (hs : K.sum ≤ 12) : Wn many.length (lsUp K K.length) (fun j => many.getD j 0) ≤ 68719476736 := by
  refine Nat.le_trans (Wn_le _ _ _) (pow_le12 hm8 ?_)
  rw [lsUp_len, List.take_length]; exact hs

set_option maxRecDepth 20000 in
set_option maxHeartbeats 4000000 in
theorem with_ok (n : Nat) (many : List Nat) (v vm : Value) (gss : List (List Int)) (w : World) (hA : IntsAll w v gss) (hI : Ints w vm (natI many)) (hR : RowsN n gss) (h1 : 1 ≤ n) (h12 : n ≤ 12) (h8 : gss.length ≤ 8) (hm1 : 1 ≤ many.length) (hm8 : many.length ≤ 8) (hM : ∀ x, x ∈ many → x ≤ 12) (hcm : cmE (n : Int) (natI many) = 0) :
    Calls Tryz.prog 45 #[.int .i64 n, v, vm] w (CtPost (WthOk n many gss) n gss w) := by
  have hbW : Below w.heap.size w (w.alloc (.cells #[vm] 22)) := (Below.refl _ _).alloc (Nat.le_refl _) _
  have HKd := hide (kinds_ok n v gss (w.alloc (.cells #[vm] 22)) (hA.below hbW) hR h1 h12 h8)
  have HMC : Hid (Calls Tryz.prog 62 #[.int .i64 n, vm] (w.alloc (.cells #[vm] 22)) fun e w' => e = .returned (.int .i64 0) ∧ (w.alloc (.cells #[vm] 22)) = w') := by have := checkMany_ok (n : Int) vm (natI many) _ (hI.below hbW); rwa [hcm] at this
  have hcell : (w.alloc (.cells #[vm] 22)).cell? ⟨w.heap.size, 0, none⟩ = some vm := by simp only [World.cell?, heap_alloc_new w (.cells #[vm] 22)]; rfl
  have hsz : w.heap.size < (w.alloc (.cells #[vm] 22)).heap.size := by simp
  have HMn : Hid (∀ (vk : Value) (Z : List (Value × List Nat × Nat)) (X : List Pm) (W : World) (base : Nat), KsAt W base vk Z → KUse n gss Z X → Below (w.alloc (.cells #[vm] 22)).heap.size (w.alloc (.cells #[vm] 22)) W → Calls Tryz.prog 36 #[vk, .func (.func 63) #[] #[.pointer (some ⟨w.heap.size, 0, none⟩)]] W fun e w' => (∃ cv : Nat, e = .returned (.int .i64 (cv : Int)) ∧ WthOk n many gss cv) ∧ Below W.heap.size W w') := fun vk Z X W base hZ hU hW => by
    refine (meanW_ok base w.heap.size vk Z (fun K => Wn many.length (lsUp K K.length) (fun j => many.getD j 0)) W hZ hU.pos hU.zlen (fun z hz W' hW' => ?_) (fun z hz => wn_bound hm8 (hU.sum12 h12 hR z hz)) (by rw [hU.total]; exact hU.few) (by rw [hU.total]; exact hU.xpos)).mono ?_
    · have hl := hU.len z hz
      refine with1_ok w.heap.size many z.2.1 z.1 vm W' ((Ints.own (hZ.all z hz)).below hW') (((hI.below hbW).below hW).below hW') ?_ hm1 hm8 hM (by rw [hl]; exact h1) (by rw [hl]; exact h12) (hU.sum12 h12 hR z hz)
      rw [hW'.cell (p := ⟨w.heap.size, 0, none⟩) (Nat.lt_of_lt_of_le hsz hW.size), hW.cell (p := ⟨w.heap.size, 0, none⟩) hsz]; exact hcell
    · rintro e w' ⟨rfl, hb⟩
      refine ⟨⟨_, rfl, fun Y hY hYm => ?_⟩, hb⟩
      obtain ⟨k1, k2⟩ := kinds_sum (fun K => Wn many.length (lsUp K K.length) (fun j => many.getD j 0)) hU.ok (perm_of_mem hU.nd hY hU.mem hYm)
      rw [k1, k2]
      congr 2
      refine List.map_congr_left (fun x hx => ?_)
      rw [kl_length, cut_length h12 x]
  have HKU : Hid (∀ e w', KdPost n gss (w.alloc (.cells #[vm] 22)) e w' → Below w.heap.size w w' ∧ Below (w.alloc (.cells #[vm] 22)).heap.size (w.alloc (.cells #[vm] 22)) w' ∧ ((5040 < sz (Gen (fun y => y ∈ gss.map pad)) n ∧ e = .returned (.tuple #[.slice none 0 0, .int .i64 3])) ∨ (¬ 5040 < sz (Gen (fun y => y ∈ gss.map pad)) n ∧ ∃ v Z X, e = .returned (.tuple #[v, .int .i64 0]) ∧ KsAt w' (w.alloc (.cells #[vm] 22)).heap.size v Z ∧ KUse n gss Z X))) := fun e w' h => by
    obtain ⟨a, b⟩ := h
    refine ⟨hbW.trans (a.mono hbW.size), a, ?_⟩
    by_cases hbig : 5040 < sz (Gen (fun y => y ∈ gss.map pad)) n
    · rw [if_pos hbig] at b; exact Or.inl ⟨hbig, b⟩
    · rw [if_neg hbig] at b
      obtain ⟨v, Z, X, b1, b2, b3, b4, b5, b6, b7⟩ := b
      exact Or.inr ⟨hbig, v, Z, X, b1, b2, b3, b4, by rw [b5]; omega, b6, b7⟩
  have HE1 : Hid (∀ w', Below w.heap.size w w' → 5040 < sz (Gen (fun y => y ∈ gss.map pad)) n → CtPost (WthOk n many gss) n gss w (.returned (.tuple #[.int .i64 0, .int .i64 3])) w') := fun w' hb h => ⟨hb, by rw [if_pos h]⟩
  have HE2 : Hid (∀ w' cv, Below w.heap.size w w' → ¬ 5040 < sz (Gen (fun y => y ∈ gss.map pad)) n → WthOk n many gss cv → CtPost (WthOk n many gss) n gss w (.returned (.tuple #[.int .i64 (cv : Int), .int .i64 0])) w') := fun w' cv hb h h2 => ⟨hb, by rw [if_neg h]; exact ⟨cv, rfl, h2⟩⟩
  obtain ⟨pv, cv, ev⟩ := hA.len
  obtain ⟨pm, cm, em⟩ := hI.form
  subst ev; subst em
  generalize gss.length = gl at *
  generalize hPP : CtPost (WthOk n many gss) n gss w = PP at *
  generalize (natI many).length = ml at *
  clear hA hR hPP hI hbW hcm hm1 hm8 hM
  go_enter Tryz.func45, Tryz.ntmps45
  go_wp2_with fail
  refine HMC.out.mono ?_
  rintro e w1 ⟨rfl, rfl⟩
  go_wp2_with fail
  refine HKd.out.mono ?_
  intro e w2 hK
  obtain ⟨hb2, hb2', hK2⟩ := HKU.out e w2 hK
  clear hK
  rcases hK2 with ⟨hbig, rfl⟩ | ⟨hbig, vk, Z, X, rfl, hZ, hU⟩
  · have HE := hide (HE1.out w2 hb2 hbig)
    clear hbig
    go_wp2
    exact HE.out
  · have HM := hide (HMn.out vk Z X w2 _ hZ hU hb2')
    obtain ⟨pk, ck, ek⟩ := owns_sliceK hZ.row
    have HBg := hide hbig
    have HB2 := hide hb2
    subst ek
    generalize Z.length = zl at *
    clear hZ hU hbig hb2' hb2
    go_wp2_with fail
    refine HM.out.mono ?_
    rintro e w3 ⟨⟨q, rfl, hq⟩, hb3⟩
    have HE := hide (HE2.out w3 q (HB2.out.trans (hb3.mono HB2.out.size)) HBg.out hq)
    clear hq hb3
    go_wp2
    exact HE.out

set_option maxRecDepth 20000 in
theorem with_bad (n : Int) (v vm : Value) (xs : List Int) (w : World) (hI : Ints w vm xs) (hc : cmE n xs ≠ 0) (hv : ∃ p l c, v = .slice p l c) :
    Calls Tryz.prog 45 #[.int .i64 n, v, vm] w fun e w' => e = .returned (.tuple #[.int .i64 0, .int .i64 (cmE n xs)]) ∧ Below w.heap.size w w' := by
  have hbW : Below w.heap.size w (w.alloc (.cells #[vm] 22)) := (Below.refl _ _).alloc (Nat.le_refl _) _
  have HMC := hide (checkMany_ok n vm xs _ (hI.below hbW))
  obtain ⟨pm, cm, em⟩ := hI.form
  obtain ⟨pv, lv, cv, rfl⟩ := hv
  subst em
  generalize xs.length = ml at *
  have hne : (cmE n xs != 0) = true := by rw [bne_iff_ne]; exact hc
  generalize cmE n xs = E at *
  have HB := hide hbW
  clear hI hbW hc
  go_enter Tryz.func45, Tryz.ntmps45
  go_wp2_with fail
  refine HMC.out.mono ?_
  rintro e w1 ⟨rfl, rfl⟩
  go_wp2
  go_ret2
  exact ⟨rfl, HB.out⟩

set_option maxRecDepth 20000 in
theorem with_no (n : Int) (v vm : Value) (xs : List Int) (c : Int) (w : World) (hI : Ints w vm xs) (h0 : cmE n xs = 0) (hv : ∃ p l c, v = .slice p l c) (hc : c ≠ 0)
    (hk : ∀ w', Below w.heap.size w w' → Calls Tryz.prog 48 #[.int .i64 n, v] w' fun e w'' => e = .returned (.int .i64 c) ∧ Below w'.heap.size w' w'') :
    Calls Tryz.prog 45 #[.int .i64 n, v, vm] w fun e w' => e = .returned (.tuple #[.int .i64 0, .int .i64 c]) ∧ Below w.heap.size w w' := by
  have hbW : Below w.heap.size w (w.alloc (.cells #[vm] 22)) := (Below.refl _ _).alloc (Nat.le_refl _) _
  have HMC := hide (checkMany_ok n vm xs _ (hI.below hbW))
  rw [h0] at HMC
  have HKd := hide (kinds_no n v c _ hc (hk _ hbW))
  obtain ⟨pm, cm, em⟩ := hI.form
  obtain ⟨pv, lv, cv, rfl⟩ := hv
  subst em
  generalize xs.length = ml at *
  have hne : (c != 0) = true := by rw [bne_iff_ne]; exact hc
  have HB := hide hbW
  clear hI hbW hc hk h0
  go_enter Tryz.func45, Tryz.ntmps45
  go_wp2_with fail
  refine HMC.out.mono ?_
  rintro e w1 ⟨rfl, rfl⟩
  go_wp2_with fail
  refine HKd.out.mono ?_
  rintro e w2 ⟨rfl, hb2⟩
  have hB2 := HB.out.trans (hb2.mono HB.out.size)
  clear hb2
  go_wp2
  go_ret2
  exact ⟨rfl, hB2⟩

set_option maxRecDepth 20000 in
theorem count_bad (n : Int) (v : Value) (c : Int) (w : World) (hc : ¬ (0 ≤ c ∧ c ≤ 8)) (hv : ∃ p l c, v = .slice p l c) :
    Calls Tryz.prog 13 #[.int .i64 n, v, .int .i64 c] w fun e w' => e = .returned (.tuple #[.int .i64 0, .int .i64 12]) ∧ Below w.heap.size w w' := by
  have hbW : Below w.heap.size w (w.alloc (.cells #[.int .i64 c] 3)) := (Below.refl _ _).alloc (Nat.le_refl _) _
  have HMC := hide (mayColour_ok c (w.alloc (.cells #[.int .i64 c] 3)))
  rw [decide_eq_false hc] at HMC
  obtain ⟨pv, lv, cv, rfl⟩ := hv
  have HB := hide hbW
  clear hbW hc
  go_enter Tryz.func13, Tryz.ntmps13
  go_wp2_with fail
  refine HMC.out.mono ?_
  rintro e w1 ⟨rfl, rfl⟩
  go_wp2
  go_ret2
  exact ⟨rfl, HB.out⟩

set_option maxRecDepth 20000 in
theorem count_no (n : Int) (v : Value) (k c : Int) (w : World) (hk0 : 0 ≤ k ∧ k ≤ 8) (hv : ∃ p l c, v = .slice p l c) (hc : c ≠ 0)
    (hk : ∀ w', Below w.heap.size w w' → Calls Tryz.prog 48 #[.int .i64 n, v] w' fun e w'' => e = .returned (.int .i64 c) ∧ Below w'.heap.size w' w'') :
    Calls Tryz.prog 13 #[.int .i64 n, v, .int .i64 k] w fun e w' => e = .returned (.tuple #[.int .i64 0, .int .i64 c]) ∧ Below w.heap.size w w' := by
  have hbW : Below w.heap.size w (w.alloc (.cells #[.int .i64 k] 3)) := (Below.refl _ _).alloc (Nat.le_refl _) _
  have HMC := hide (mayColour_ok k (w.alloc (.cells #[.int .i64 k] 3)))
  rw [decide_eq_true hk0] at HMC
  have HKd := hide (kinds_no n v c _ hc (hk _ hbW))
  obtain ⟨pv, lv, cv, rfl⟩ := hv
  have hne : (c != 0) = true := by rw [bne_iff_ne]; exact hc
  have HB := hide hbW
  clear hbW hc hk hk0
  go_enter Tryz.func13, Tryz.ntmps13
  go_wp2_with fail
  refine HMC.out.mono ?_
  rintro e w1 ⟨rfl, rfl⟩
  go_wp2_with fail
  refine HKd.out.mono ?_
  rintro e w2 ⟨rfl, hb2⟩
  have hB2 := HB.out.trans (hb2.mono HB.out.size)
  clear hb2
  go_wp2
  go_ret2
  exact ⟨rfl, hB2⟩

end Go.Proofs.YtahffpgadoiijaaGreat

/- Contract: Patterns. -/
namespace Go.Proofs.YtahffpgadoiijaaGreat
open Go.RowKit
set_option linter.unusedVariables false

/-- What Patterns leaves. -/
def PtPost (n c : Nat) (gss : List (List Int)) (w : World) (e : Ending) (w' : World) : Prop :=
  Below w.heap.size w w' ∧ if 5040 < sz (Gen (fun y => y ∈ gss.map pad)) n ∨ 5040 < c ^ n then e = .returned (.tuple #[.slice none 0 0, .int .i64 3]) else
    ∃ (v : Value) (vs : List Value), e = .returned (.tuple #[v, .int .i64 0]) ∧ LL w' w.heap.size v vs ((frN n c gss (c ^ n)).map (colL n c))

set_option maxRecDepth 20000 in
set_option maxHeartbeats 4000000 in
theorem patterns_ok (n c : Nat) (v : Value) (gss : List (List Int)) (w : World) (hA : IntsAll w v gss) (hR : RowsN n gss) (h1 : 1 ≤ n) (h12 : n ≤ 12) (h8 : gss.length ≤ 8) (hc8 : c ≤ 8) :
    Calls Tryz.prog 41 #[.int .i64 n, v, .int .i64 (c : Int)] w (PtPost n c gss w) := by
  have HMk := hide (make_ok n v gss w hA h1 h12 h8 hR)
  have hmc : decide (0 ≤ (c : Int) ∧ (c : Int) ≤ 8) = true := decide_eq_true ⟨by omega, by omega⟩
  have HMC : Hid (∀ W, Calls Tryz.prog 35 #[.int .i64 (c : Int)] W fun e w' => e = .returned (.bool true) ∧ W = w') := fun W => by have := mayColour_ok (c : Int) W; rwa [hmc] at this
  have HPw : Hid (∀ W, Calls Tryz.prog 38 #[.int .i64 (c : Int), .int .i64 (n : Int)] W fun e w' => e = .returned (.int .i64 ((c ^ n : Nat) : Int)) ∧ W = w') := fun W => power_ok c n W hc8 h12
  have HSz : Hid (∀ u W, GroupAt W u n (gss.map pad) → Calls Tryz.prog 51 #[u] W fun e w' => e = .returned (.int .i64 ((sz (Gen (fun y => y ∈ gss.map pad)) n : Nat) : Int)) ∧ Below W.heap.size W w') := fun u W hG => gsize_ok n u (gss.map pad) W h12 hG
  have HFr : Hid (∀ W, c ^ n ≤ 5040 → Below w.heap.size w W → Calls Tryz.prog 61 #[.int .i64 (n : Int), v, .int .i64 (c : Int), .int .i64 ((c ^ n : Nat) : Int)] W fun e w' => ∃ v vs, e = .returned v ∧ LL w' W.heap.size v vs ((frN n c gss (c ^ n)).map (colL n c)) ∧ Below W.heap.size W w') := fun W hAll hW => firsts_ok n c v gss W (hA.below hW) hR h1 h12 hc8 h8 hAll
  have HE1 : Hid (∀ w', Below w.heap.size w w' → (5040 < sz (Gen (fun y => y ∈ gss.map pad)) n ∨ 5040 < c ^ n) → PtPost n c gss w (.returned (.tuple #[.slice none 0 0, .int .i64 3])) w') := fun w' hb h => ⟨hb, by rw [if_pos h]⟩
  have HE2 : Hid (∀ v vs w' B, Below w.heap.size w w' → w.heap.size ≤ B → ¬ (5040 < sz (Gen (fun y => y ∈ gss.map pad)) n ∨ 5040 < c ^ n) → LL w' B v vs ((frN n c gss (c ^ n)).map (colL n c)) → PtPost n c gss w (.returned (.tuple #[v, .int .i64 0])) w') := fun v vs w' B hb hB h h2 => ⟨hb, by rw [if_neg h]; exact ⟨v, vs, rfl, h2.low hB⟩⟩
  have hpl := pow_le12 hc8 h12
  have hsl : (sz (Gen (fun y => y ∈ gss.map pad)) n) ≤ 479001600 := by
    have hd := sz_fct (Gen.sub (fun y => y ∈ gss.map pad)) h12 (fun x hx => gens_fix h12 hR hx)
    have hf : fct n ≤ 479001600 ∧ 0 < fct n := by
      rcases (show n = 1 ∨ n = 2 ∨ n = 3 ∨ n = 4 ∨ n = 5 ∨ n = 6 ∨ n = 7 ∨ n = 8 ∨ n = 9 ∨ n = 10 ∨ n = 11 ∨ n = 12 by omega) with rfl | rfl | rfl | rfl | rfl | rfl | rfl | rfl | rfl | rfl | rfl | rfl <;> decide
    exact Nat.le_trans (Nat.le_of_dvd hf.2 hd) hf.1
  obtain ⟨pv, cv, ev⟩ := hA.len
  subst ev
  generalize gss.length = gl at *
  generalize hPP : PtPost n c gss w = PP at *
  generalize (frN n c gss (c ^ n)).map (colL n c) = FR at *
  generalize c ^ n = A at *
  generalize sz (Gen (fun y => y ∈ gss.map pad)) n = Sz at *
  clear hA hR hPP hmc
  go_enter Tryz.func41, Tryz.ntmps41
  go_wp2_with fail
  refine (HMC.out _).mono ?_
  rintro e w1 ⟨rfl, rfl⟩
  go_wp2_with fail
  refine HMk.out.mono ?_
  rintro e w1 ⟨u, rfl, hG, hb1⟩
  have HS1 := hide (HSz.out u w1 hG)
  obtain ⟨gb1, _, _, _, _, _, _, rfl, _⟩ := hG
  go_wp2_with fail
  refine (HPw.out _).mono ?_
  rintro e w2 ⟨rfl, rfl⟩
  go_wp2_with fail
  refine HS1.out.mono ?_
  rintro e w2 ⟨rfl, hb2⟩
  have hB2 := hb1.trans (hb2.mono hb1.size)
  clear hb1 hb2 HS1
  by_cases hs : 5040 < Sz
  · have hd : decide ((Sz : Int) > 5040) = true := decide_eq_true (by omega)
    have HE := hide (HE1.out w2 hB2 (Or.inl hs))
    go_wp2
    exact HE.out
  · have hd : decide ((Sz : Int) > 5040) = false := decide_eq_false (by omega)
    by_cases ha : 5040 < A
    · have hd2 : decide ((A : Int) > 5040) = true := decide_eq_true (by omega)
      have HE := hide (HE1.out w2 hB2 (Or.inr ha))
      go_wp2
      exact HE.out
    · have hd2 : decide ((A : Int) > 5040) = false := decide_eq_false (by omega)
      have HF := hide (HFr.out w2 (by omega) hB2)
      have HN : Hid (¬ (5040 < Sz ∨ 5040 < A)) := fun h => by omega
      have HB2 := hide hB2
      clear hB2
      go_wp2_with fail
      refine HF.out.mono ?_
      rintro e w3 ⟨vf, vs, rfl, hL, hb3⟩
      have HE := hide (HE2.out vf vs w3 _ (HB2.out.trans (hb3.mono HB2.out.size)) HB2.out.size HN.out hL)
      obtain ⟨pf, cf, ef⟩ := owns_slice hL.row
      subst ef
      generalize vs.length = vl at *
      clear hL hb3
      go_wp2
      exact HE.out

set_option maxRecDepth 20000 in
theorem patterns_bad (n : Int) (v : Value) (c : Int) (w : World) (hc : ¬ (0 ≤ c ∧ c ≤ 8)) (hv : ∃ p l c, v = .slice p l c) :
    Calls Tryz.prog 41 #[.int .i64 n, v, .int .i64 c] w fun e w' => e = .returned (.tuple #[.slice none 0 0, .int .i64 12]) ∧ Below w.heap.size w w' := by
  have HMC := hide (mayColour_ok c w)
  rw [decide_eq_false hc] at HMC
  obtain ⟨pv, lv, cv, rfl⟩ := hv
  clear hc
  go_enter Tryz.func41, Tryz.ntmps41
  go_wp2_with fail
  refine HMC.out.mono ?_
  rintro e w1 ⟨rfl, rfl⟩
  go_wp2
  go_ret2
  exact ⟨rfl, Below.refl _ _⟩

set_option maxRecDepth 20000 in
theorem patterns_no (n : Int) (v : Value) (k c : Int) (w : World) (hk0 : 0 ≤ k ∧ k ≤ 8) (hv : ∃ p l c, v = .slice p l c) (hc : c ≠ 0)
    (hk : Calls Tryz.prog 48 #[.int .i64 n, v] w fun e w'' => e = .returned (.int .i64 c) ∧ Below w.heap.size w w'') :
    Calls Tryz.prog 41 #[.int .i64 n, v, .int .i64 k] w fun e w' => e = .returned (.tuple #[.slice none 0 0, .int .i64 c]) ∧ Below w.heap.size w w' := by
  have HMC := hide (mayColour_ok k w)
  rw [decide_eq_true hk0] at HMC
  have HKd := hide (make_refuses n v c w hc hk)
  obtain ⟨pv, lv, cv, rfl⟩ := hv
  have hne : (c != 0) = true := by rw [bne_iff_ne]; exact hc
  clear hc hk hk0
  go_enter Tryz.func41, Tryz.ntmps41
  go_wp2_with fail
  refine HMC.out.mono ?_
  rintro e w1 ⟨rfl, rfl⟩
  go_wp2_with fail
  refine HKd.out.mono ?_
  rintro e w2 ⟨rfl, hb2⟩
  go_wp2
  go_ret2
  exact ⟨rfl, hb2⟩

end Go.Proofs.YtahffpgadoiijaaGreat

/- Plain: what is counted is how many first ones there are; those of each distribution are, together, all. -/
namespace Go.Proofs.YtahffpgadoiijaaGreat
set_option linter.unusedVariables false

theorem cnt_pat {n c : Nat} {gss : List (List Int)} {cv : Nat} (h : CntOk n c gss cv) (h12 : n ≤ 12) (hc : 1 ≤ c) (hR : RowsN n gss) : cv = (frN n c gss (c ^ n)).length := by
  have hf : ∀ x, Gen (fun y => y ∈ gss.map pad) x → Fixes (fun b => n ≤ b) x := fun x hx => gens_fix h12 hR hx
  obtain ⟨X, hX, hm, _⟩ := sz_list (Gen.sub (fun y => y ∈ gss.map pad)) h12 hf
  have h1 := h X hX hm
  have h2 := burn_all h12 hc (Gen.sub _) hf hX hm
  have h3 : X.map (fun x => c ^ (kl (cut n x)).sum) = X.map (fun x => c ^ (cycsTo (cut n x) n).length) := List.map_congr_left (fun x hx => by
    rw [kl_sums (cut_row h12 (hf x ((hm x).1 hx))), cut_length h12 x])
  rw [h1, h3, h2, frN_eq h12 hc hR hX hm]
  exact Nat.mul_div_cancel _ (List.length_pos_of_mem ((hm 1).2 Gen.one))

theorem wth_pat {n : Nat} {many : List Nat} {gss : List (List Int)} {cv : Nat} (h : WthOk n many gss cv) (h12 : n ≤ 12) (hc : 1 ≤ many.length) (hR : RowsN n gss) : cv = (frN n many.length gss (many.length ^ n)).countP (fun k => qMany many (colD n many.length k)) := by
  have hf : ∀ x, Gen (fun y => y ∈ gss.map pad) x → Fixes (fun b => n ≤ b) x := fun x hx => gens_fix h12 hR hx
  obtain ⟨X, hX, hm, _⟩ := sz_list (Gen.sub (fun y => y ∈ gss.map pad)) h12 hf
  have h1 := h X hX hm
  have h2 := burn_many h12 hc (Gen.sub _) hf hX hm
  rw [h1, h2, frN_eq h12 hc hR hX hm, Nat.mul_div_cancel _ (List.length_pos_of_mem ((hm 1).2 Gen.one)), List.countP_filter]
  congr 1
  funext k
  exact Bool.and_comm _ _

theorem frN_pos {n c A : Nat} {gss : List (List Int)} (h : 1 ≤ A) : 1 ≤ (frN n c gss A).length := by
  refine List.length_pos_of_mem (a := 0) ?_
  unfold frN
  rw [List.mem_filter]
  refine ⟨List.mem_range.2 h, ?_⟩
  simp

theorem count_01 : ∀ (P : List Nat), (∀ x, x ∈ P → x < 2) → P.countP (fun x => x == 0) + P.countP (fun x => x == 1) = P.length
  | [], _ => rfl
  | x :: P, h => by
    have ih := count_01 P (fun y hy => h y (List.mem_cons_of_mem _ hy))
    have hx := h x List.mem_cons_self
    rw [List.countP_cons, List.countP_cons, List.length_cons]
    rcases (show x = 0 ∨ x = 1 by omega) with rfl | rfl
    · simp; omega
    · simp; omega

theorem qTwo {n k i : Nat} (hi : i ≤ n) : qMany [i, n - i] (colD n 2 k) = decide ((colD n 2 k).countP (fun x => x == 0) = i) := by
  have h := count_01 (colD n 2 k) (colD_lt (by decide))
  rw [colD_length] at h
  have e : qMany [i, n - i] (colD n 2 k) = (((colD n 2 k).countP (fun x => x == 0) == i) && (((colD n 2 k).countP (fun x => x == 1) == n - i) && true)) := rfl
  rw [e, Bool.eq_iff_iff]
  simp
  omega

theorem two_sum {n : Nat} (F : List Nat) : ((List.range (n + 1)).map (fun i => F.countP (fun k => qMany [i, n - i] (colD n 2 k)))).sum = F.length := by
  have h1 : (List.range (n + 1)).map (fun i => F.countP (fun k => qMany [i, n - i] (colD n 2 k))) = (List.range (n + 1)).map (fun i => (F.map (fun k => if (colD n 2 k).countP (fun x => x == 0) = i then 1 else 0)).sum) := List.map_congr_left (fun i hi => by
    have hi' := List.mem_range.1 hi
    rw [lcountP_sum]
    refine lsum_congr (fun k _ => ?_)
    rw [qTwo (by omega)]
    simp)
  rw [h1, lsum_swap (fun i k => if (colD n 2 k).countP (fun x => x == 0) = i then 1 else 0)]
  rw [lsum_const _ F 1 (fun k _ => ?_), Nat.mul_one]
  have hle : (colD n 2 k).countP (fun x => x == 0) ≤ n := by
    have := List.countP_le_length (p := fun x => x == 0) (l := colD n 2 k)
    rwa [colD_length] at this
  rw [lsum_one (fun i => if (colD n 2 k).countP (fun x => x == 0) = i then 1 else 0) (List.range (n + 1)) List.nodup_range ((colD n 2 k).countP (fun x => x == 0)) (List.mem_range.2 (by omega)) (fun y _ hy => if_neg (fun e => hy e.symm)), if_pos rfl]

/-- Those of the first so many distributions, together. -/
def sm2 (n : Nat) (F : List Nat) (i : Nat) : Nat := ((List.range i).map (fun i => F.countP (fun k => qMany [i, n - i] (colD n 2 k)))).sum

theorem sm2_succ (n : Nat) (F : List Nat) (i : Nat) : sm2 n F (i + 1) = sm2 n F i + F.countP (fun k => qMany [i, n - i] (colD n 2 k)) := by
  unfold sm2
  rw [List.range_succ, List.map_append, List.sum_append]
  simp

theorem sm2_le {n i : Nat} {F : List Nat} (h : i ≤ n + 1) : sm2 n F i ≤ F.length := by
  have h2 : sm2 n F (n + 1) = F.length := two_sum F
  have key : ∀ d, sm2 n F i ≤ sm2 n F (i + d) := fun d => by
    induction d with
    | zero => exact Nat.le_refl _
    | succ d ih => rw [show i + (d + 1) = i + d + 1 by omega, sm2_succ]; omega
  have := key (n + 1 - i)
  rw [show i + (n + 1 - i) = n + 1 by omega, h2] at this
  exact this

theorem cm_two {n i : Nat} (h12 : n ≤ 12) (hi : i ≤ n) : cmE (n : Int) (natI [i, n - i]) = 0 := by
  have h2 := wsm_nat [i, n - i] 0 (by simp; omega)
  have e : ([i, n - i] : List Nat).sum = n := by simp; omega
  rw [e] at h2
  unfold cmE
  rw [if_neg (by rw [natI_length]; simp), if_neg, if_pos (by rw [show ((0 : Nat) : Int) = 0 from rfl] at h2; rw [h2]; omega)]
  unfold mOk natI
  simp
  omega

end Go.Proofs.YtahffpgadoiijaaGreat

/- Contract: the answer's lengths. -/
namespace Go.Proofs.YtahffpgadoiijaaGreat
open Go.RowKit

/-- A row of numbers holds no slice. -/
theorem ints_no_slice {w : World} {base e g n x N c : Nat} {p : Option Addr} {zs : List Int} (h : w.ownsRow base e 1 (.slice (some ⟨g, 0, none⟩) n n) n (zs.map (Value.int .i64))) (hc : w.cell? ⟨g, x, none⟩ = some (.slice p N c)) : False := by
  by_cases hx : x < n
  · have h1 := (owns_cell h hx).1
    rw [hc] at h1
    cases Option.some.inj h1
  · rcases h.2 with ⟨h2, _⟩ | ⟨g', cap', cur, hv, hb, hh, hn, hx2, hs, ht⟩
    · cases h2
    · injection hv with e1 _ e3
      injection e1 with e1
      injection e1 with e1
      subst e1; subst e3
      have hsz : cur.size = n := by simpa using hs
      simp [World.cell?, hh, Array.getElem?_eq_none (show cur.size ≤ x by omega)] at hc

set_option maxRecDepth 20000 in
set_option maxHeartbeats 4000000 in
theorem rlengths_ok (v : Value) (r : List Int) (w : World) (hI : Ints w v r) (hr : isRow r) (h1 : 1 ≤ r.length) (h12 : r.length ≤ 12) :
    Calls Tryz.prog 33 #[v] w fun e w' => ∃ u, e = .returned u ∧ w'.ownsRow w.heap.size 3 1 u r.length ((natI (kl r)).map (Value.int .i64)) ∧ Below w.heap.size w w' := by
  obtain ⟨j0, hji, hjz0, hjz1, hjz2⟩ := info_parts Tryz.info3
  have HCy : Hid (∀ W, Below w.heap.size w W → Calls Tryz.prog 39 #[v] W fun e w' => ∃ v, e = .returned v ∧ IntsAll w' v (cycsTo r r.length) ∧ Below W.heap.size W w') := fun W hb => rcycles_ok v r W (hI.below hb) hr h1 h12
  have HL := hide (cycsTo_len hr r.length (Nat.le_refl _))
  have HCL := hide (cycsTo_length r r.length)
  have HCP : Hid (1 ≤ (cycsTo r r.length).length) := by
    have := cycsTo_pos r (r.length - 1)
    rw [show r.length - 1 + 1 = r.length by omega] at this
    exact this
  have HSet : Hid (∀ j x zs q, (cycsTo r r.length)[j]? = some x → x.length = q + 1 → q < r.length → zs = natI (klTo r j) → zs.set q ((((klTo r j).getD q 0 + 1 : Nat)) : Int) = natI (klTo r (j + 1))) := fun j x zs q a b c d => klTo_set a b c d
  have HLe : Hid (∀ j i, (klTo r j).getD i 0 ≤ r.length) := klTo_le r
  have HZ0 : Hid (List.replicate r.length (0 : Int) = natI (klTo r 0)) := ext_getD (by rw [List.length_replicate, natI_length, klTo_length]) (fun i hi => by
    rw [List.length_replicate] at hi
    rw [natI_getD, klTo_get hi, List.getD, List.getElem?_replicate, if_pos hi]
    simp)
  have HK : Hid (klTo r (cycsTo r r.length).length = kl r) := rfl
  have HKl : Hid (∀ j, (natI (klTo r j)).length = r.length) := fun j => by rw [natI_length, klTo_length]
  obtain ⟨p0, c0, e0⟩ := hI.form
  subst e0
  generalize hC : cycsTo r r.length = C at *
  generalize hn : r.length = n at *
  clear hI hr hn hC
  go_enter Tryz.func33, Tryz.ntmps33
  go_wp2_with (at_make; refine wpList_make_full _ rfl _ _ 22 rfl w.heap.size 3 j0 (.int .i64 0) 1 Tryz.underlying22 hji hjz0 hjz1 _ _ _ _ n rfl rfl (by omega) (by omega) ?b2 ?b3 (Nat.le_refl _) ?_)
  case b2 => rw [hjz2]; omega
  case b3 => unfold maxLen; omega
  intro w1 hown1 hg1
  rw [made_ints, HZ0.out] at hown1
  have HB1 : Hid (Below w.heap.size w w1) := (Below.refl _ _).grown hg1 (Nat.le_refl _) (fun k h => by cases h)
  have HO1 := hide hown1
  clear hown1 hg1
  have HC1 := hide (HCy.out w1 HB1.out)
  go_wp2_with fail
  refine HC1.out.mono ?_
  rintro e w2 ⟨vc, rfl, hall, hb2⟩
  have HO2 := hide (owns_below HO1.out hb2 (Nat.le_refl _))
  have HB2 := hide (HB1.out.trans (hb2.mono HB1.out.size))
  have HI2 := hide hall
  obtain ⟨bc, oc, cc, ec, hc1, hc2, hc3, hc4⟩ := HI2.out.cell HCP.out
  subst ec
  have HC4 := hide hc4
  have hbcw : bc ≠ w.heap.size := fun e9 => by
    obtain ⟨px, cx, hcx, _⟩ := hc4 0 HCP.out
    rw [e9] at hcx
    exact ints_no_slice HO2.out hcx
  have hCl := HCL.out
  generalize hcl : C.length = cl at *
  have HCLn := hide hcl
  clear hall hb2 HO1 HB1 HC1 hc4 hcl HI2
  go_wp2
  go_loopw [5] (fun si wr => ∃ (j : Nat) (zs : List Int), j ≤ cl ∧ si = .int .i64 (j : Int) ∧ Hid (zs = natI (klTo r j)) ∧ Hid (wr.ownsRow w.heap.size 3 1 (.slice (some ⟨w.heap.size, 0, none⟩) n n) n (zs.map (Value.int .i64))) ∧ Hid (Frm w2.heap.size w.heap.size w.heap.size w2 wr) ∧ Below w.heap.size w wr) (fun si _ => cl - (intOf si).toNat)
  case atStart => exact ⟨0, _, Nat.zero_le _, rfl, rfl, HO2, Frm.refl _ _ _ _, HB2.out⟩
  case round =>
    clear HO2 HB2
    obtain ⟨j, zs, hj, rfl, hZ, hO, hb2, hbm⟩ := hrel
    by_cases hlt : j < cl
    · have hjC : j < C.length := by rw [HCLn.out]; exact hlt
      have hx : C[j]? = some C[j] := List.getElem?_eq_getElem hjC
      have hxD : C.getD j [] = C[j] := by rw [List.getD, hx]; rfl
      obtain ⟨px, cx, hcx, _⟩ := HC4.out j hlt
      rw [hxD] at hcx
      have hxl := HL.out C[j] (List.getElem_mem hjC)
      obtain ⟨q, hq⟩ : ∃ q, C[j].length = q + 1 := ⟨C[j].length - 1, by omega⟩
      have hqn : q < n := by omega
      have hcx' := (cell_same (hb2.out.block bc hc1 hbcw hbcw) (j := oc + j)).trans hcx
      rw [hq] at hcx'
      have hcast : (((q + 1 : Nat)) : Int) = (q : Int) + 1 := by omega
      have hqI : (((q + 1 : Nat)) : Int) - 1 = (q : Int) := by omega
      obtain ⟨y, hy⟩ : ∃ y, y = (klTo r j).getD q 0 := ⟨_, rfl⟩
      have hyl := HLe.out j q
      rw [← hy] at hyl
      obtain ⟨hcy, hfy⟩ := owns_cell hO.out hqn
      rw [hZ.out, natI_getD, ← hy] at hcy
      have HOs := hide (owns_set_int (m := q) hO.out ((y : Int) + 1))
      have HZ2 : Hid (zs.set q ((y : Int) + 1) = natI (klTo r (j + 1))) := by
        have h9 := HSet.out j C[j] zs q hx hq hqn hZ.out
        rw [← hy] at h9
        show _ = _
        rw [← h9]
        rfl
      have hFr := hb2.out.set q (.int .i64 ((y : Int) + 1))
      have HFr := hide hFr
      clear hy hx hxD hxl hq hO hZ hcx hFr hb2
      go_wp2
      go_roundw
      case rel =>
        have hfin : ∃ (j' : Nat) (zs : List Int), j' ≤ cl ∧ Value.int .i64 ((j : Int) + 1) = .int .i64 (j' : Int) ∧ Hid (zs = natI (klTo r j')) ∧ Hid ((wr.setCell ⟨w.heap.size, q, none⟩ (.int .i64 ((y : Int) + 1))).ownsRow w.heap.size 3 1 (.slice (some ⟨w.heap.size, 0, none⟩) n n) n (zs.map (Value.int .i64))) ∧ Hid (Frm w2.heap.size w.heap.size w.heap.size w2 (wr.setCell ⟨w.heap.size, q, none⟩ (.int .i64 ((y : Int) + 1)))) ∧ Below w.heap.size w (wr.setCell ⟨w.heap.size, q, none⟩ (.int .i64 ((y : Int) + 1))) := ⟨j + 1, _, hlt, by go_num, HZ2, HOs, HFr, hbm.setCell (Nat.le_refl _) _⟩
        first
          | exact hfin
          | ((repeat apply Exists.intro); exact ⟨hfin, rfl⟩)
      case measure => simp [intOf]; omega
    · obtain rfl : cl = j := by omega
      have HOc : Hid (wr.ownsRow w.heap.size 3 1 (.slice (some ⟨w.heap.size, 0, none⟩) n n) n ((natI (kl r)).map (Value.int .i64))) := by rw [← HK.out, ← hZ.out]; exact hO.out
      clear hO hZ
      go_wp2
      go_ret
      exact ⟨_, rfl, HOc.out, hbm⟩

end Go.Proofs.YtahffpgadoiijaaGreat

/- Contract: the answer's Kinds (written by mkkpe.py). -/
namespace Go.Proofs.YtahffpgadoiijaaGreat
open Go.RowKit
set_option linter.unusedVariables false

/-- Kinds that can be read. -/
def KrAt (w : World) (v : Value) (Z : List (Value × List Nat × Nat)) : Prop := ∃ base, w.ownsRow base 58 2 v Z.length (kcells Z) ∧ ∀ z, z ∈ Z → Ints w z.1 (natI z.2.1)

theorem KsAt.read {w : World} {base : Nat} {v : Value} {Z : List (Value × List Nat × Nat)} (h : KsAt w base v Z) : KrAt w v Z := ⟨base, h.row, fun z hz => Ints.own (h.all z hz)⟩

theorem KrAt.below {w w' : World} {v : Value} {Z : List (Value × List Nat × Nat)} (h : KrAt w v Z) (hb : Below w.heap.size w w') : KrAt w' v Z := by
  obtain ⟨base, h1, h2⟩ := h
  exact ⟨base, owns_belowK h1 hb (Nat.le_refl _), fun z hz => (h2 z hz).below hb⟩

theorem KrAt.cell {w : World} {v : Value} {Z : List (Value × List Nat × Nat)} (h : KrAt w v Z) (h0 : 0 < Z.length) : ∃ b cap, v = .slice (some ⟨b, 0, none⟩) Z.length cap ∧ b < w.heap.size ∧ Z.length ≤ cap ∧ cap ≤ 9223372036854775807 ∧
    ∀ i z, Z[i]? = some z → w.cell? ⟨b, i * 2, none⟩ = some z.1 ∧ w.cell? ⟨b, i * 2 + 1, none⟩ = some (.int .i64 ((z.2.2 : Nat) : Int)) ∧ w.frozen? ⟨b, i * 2 + 1, none⟩ = false ∧ Ints w z.1 (natI z.2.1) := by
  obtain ⟨base, hr, ha⟩ := h
  rcases hr.2 with ⟨_, h1⟩ | ⟨g, cap, cur, rfl, h1, h2, h3, h4, h5, h6⟩
  · omega
  · refine ⟨g, cap, rfl, (Array.getElem?_eq_some_iff.1 h2).1, h3, by unfold maxLen at h4; omega, fun i z hz => ?_⟩
    obtain ⟨a, b⟩ := kcells_at hz
    rw [← h6, List.getElem?_take] at a b
    have hil : i < Z.length := (List.getElem?_eq_some_iff.1 hz).1
    rw [if_pos (by omega)] at a b
    exact ⟨by simpa [World.cell?, h2] using a, by simpa [World.cell?, h2] using b, by simp [World.frozen?, h2], ha z (List.mem_of_getElem? hz)⟩

theorem KOk.perm {K : Kds} {L L' : List (List Nat)} (h : KOk K L) (hp : L.Perm L') : KOk K L' :=
  ⟨h.sorted, fun c => (h.mem c).trans hp.mem_iff, fun p hp' => by rw [h.many p hp', hp.count_eq]⟩

/-- A list of lists of numbers, in another order. -/
theorem perm_nat {Y : List (List Int)} {L : List (List Nat)} (h : Y.Perm (L.map natI)) : ∃ T : List (List Nat), Y = T.map natI ∧ T.Perm L := by
  have key : ∀ (l : List Nat), (natI l).map Int.toNat = l := fun l => by
    unfold natI
    rw [List.map_map]
    exact (List.map_congr_left (fun x _ => Int.toNat_natCast x)).trans (List.map_id l)
  refine ⟨Y.map (fun y => y.map Int.toNat), ?_, ?_⟩
  · rw [List.map_map]
    refine ((List.map_congr_left (fun y hy => ?_)).trans (List.map_id Y)).symm
    obtain ⟨l, _, rfl⟩ := List.mem_map.1 (h.mem_iff.1 hy)
    show natI ((natI l).map Int.toNat) = _
    rw [key]
    rfl
  · have h2 := h.map (fun y => y.map Int.toNat)
    rw [List.map_map, show ((fun y : List Int => y.map Int.toNat) ∘ natI) = id from by funext l; exact key l, List.map_id] at h2
    exact h2

/-- The kinds of the first so many lists in order; the last is the last one's. -/
structure KLast (Z : List (Value × List Nat × Nat)) (T : List (List Nat)) (k : Nat) : Prop where
  ok : KOk (Z.map (·.2)) (T.take k)
  last : ∀ z, Z.getLast? = some z → 0 < k ∧ T[k - 1]? = some z.2.1
  any : 0 < k → 0 < Z.length

theorem KLast.again {Z : List (Value × List Nat × Nat)} {T : List (List Nat)} {k : Nat} {z : Value × List Nat × Nat} (h : KLast Z T k) (hz : Z[Z.length - 1]? = some z) (ht : T[k]? = some z.2.1) : KLast (Z.set (Z.length - 1) (z.1, z.2.1, z.2.2 + 1)) T (k + 1) := by
  have hzl : Z.length - 1 < Z.length := (List.getElem?_eq_some_iff.1 hz).1
  refine ⟨?_, fun y hy => ?_, fun _ => by rw [List.length_set]; omega⟩
  · rw [List.take_add_one, ht, List.map_set]
    exact h.ok.again (by rw [List.getElem?_map, hz]; rfl)
  · rw [List.getLast?_eq_getElem?, List.length_set, List.getElem?_set_self hzl] at hy
    injection hy with hy
    subst hy
    exact ⟨Nat.succ_pos _, ht⟩

theorem KLast.fresh {Z : List (Value × List Nat × Nat)} {T : List (List Nat)} {k : Nat} {t : List Nat} {u : Value} (h : KLast Z T k) (ht : T[k]? = some t) (hs : ∀ (i j : Nat) (a b : List Nat), i < j → T[i]? = some a → T[j]? = some b → ¬ nlt b a) (hn : ∀ z, Z.getLast? = some z → z.2.1 ≠ t) : KLast (Z ++ [(u, t, 1)]) T (k + 1) := by
  have hkT : k < T.length := (List.getElem?_eq_some_iff.1 ht).1
  have hlt : ∀ p, p ∈ Z.map (·.2) → nlt p.1 t := fun p hp => by
    have h1 : p.1 ∈ T.take k := (h.ok.mem _).1 (List.mem_map.2 ⟨p, hp, rfl⟩)
    obtain ⟨i, hi⟩ := List.getElem?_of_mem h1
    rw [List.getElem?_take] at hi
    split at hi
    · next hik =>
      have h2 := hs i k _ _ hik hi ht
      rcases nlt_tri p.1 t with h3 | h3 | h3
      · exact h3
      · exfalso
        have hk0 : 0 < k := by omega
        have hZ := h.any hk0
        have hl : Z.getLast? = some Z[Z.length - 1] := by rw [List.getLast?_eq_getElem?]; exact List.getElem?_eq_getElem (by omega)
        have h4 := (h.last _ hl).2
        have h5 := hn _ hl
        have h6 : ¬ nlt t Z[Z.length - 1].2.1 := hs (k - 1) k _ _ (by omega) h4 ht
        by_cases e : i = k - 1
        · rw [e] at hi
          rw [hi] at h4
          injection h4 with h4
          exact h5 (by rw [← h4, h3])
        · have h7 : ¬ nlt Z[Z.length - 1].2.1 p.1 := hs i (k - 1) _ _ (by omega) hi h4
          rw [h3] at h7
          rcases nlt_tri t Z[Z.length - 1].2.1 with h8 | h8 | h8
          · exact h6 h8
          · exact h5 h8.symm
          · exact h7 h8
      · exact absurd h3 h2
    · cases hi
  refine ⟨?_, fun y hy => ?_, fun _ => by rw [List.length_append]; simp⟩
  · rw [List.take_add_one, ht, List.map_append]
    have hsp : Spot (Z.map (·.2)) t (Z.map (·.2)).length := ⟨Nat.le_refl _, fun i p hi _ => hlt p (List.mem_of_getElem? hi), fun i p hi h9 => by
      have := (List.getElem?_eq_some_iff.1 hi).1
      omega⟩
    have h9 := h.ok.fresh hsp (fun m hm => by rw [List.getElem?_eq_none (Nat.le_refl _)] at hm; cases hm)
    rw [List.take_length, List.drop_length] at h9
    exact h9
  · rw [List.getLast?_append, List.getLast?_singleton] at hy
    injection hy with hy
    subst hy
    exact ⟨Nat.succ_pos _, ht⟩

theorem ris_nlt {T : List (List Nat)} (h : Ris (T.map natI)) : ∀ (i j : Nat) (a b : List Nat), i < j → T[i]? = some a → T[j]? = some b → ¬ nlt b a := fun i j a b hij ha hb => by
  have hj : j < T.length := (List.getElem?_eq_some_iff.1 hb).1
  have hi : i < T.length := by omega
  have h1 := List.pairwise_iff_getElem.1 h i j (by rw [List.length_map]; exact hi) (by rw [List.length_map]; exact hj) hij
  rw [List.getElem_map, List.getElem_map, (List.getElem?_eq_some_iff.1 ha).2, (List.getElem?_eq_some_iff.1 hb).2, blw_lcmp] at h1
  unfold nlt
  simpa using h1

set_option maxRecDepth 20000 in
set_option maxHeartbeats 8000000 in
theorem rkinds_ok (n : Nat) (v : Value) (R : List (List Int)) (w : World) (hI : IntsAll w v R) (hR : ∀ r, r ∈ R → isRow r ∧ r.length = n) (h1 : 1 ≤ n) (h12 : n ≤ 12) (hN : R.length ≤ 5040) (hN1 : 1 ≤ R.length) :
    Calls Tryz.prog 12 #[v] w fun e w' => ∃ u Z, e = .returned u ∧ KrAt w' u Z ∧ KOk (Z.map (·.2)) (R.map kl) ∧ Below w.heap.size w w' := by
  obtain ⟨i0, hi, hz0, hz1, hz2⟩ := info_parts Tryz.info22
  obtain ⟨i9, hi9, hz90, hz91, hz92⟩ := info_parts Tryz.info58
  obtain ⟨b0, o0, c0, e0, hb0, hc01, hc02, hcell0⟩ := hI.cell hN1
  subst e0
  have HC : Hid (∀ k, k < R.length → ∃ p c r, R[k]? = some r ∧ w.cell? ⟨b0, o0 + k, none⟩ = some (.slice p n c) ∧ ∀ W, Below w.heap.size w W → Calls Tryz.prog 33 #[.slice p n c] W fun e w' => ∃ u, e = .returned u ∧ w'.ownsRow W.heap.size 3 1 u n ((natI (kl r)).map (Value.int .i64)) ∧ Below W.heap.size W w') := fun k hk => by
    obtain ⟨p, c, a1, a2⟩ := hcell0 k hk
    have e1 : R.getD k [] = R[k] := by simp [List.getD, hk]
    obtain ⟨hr, hl⟩ := hR R[k] (List.getElem_mem hk)
    rw [e1, hl] at a1 a2
    refine ⟨p, c, R[k], List.getElem?_eq_getElem hk, a1, fun W hW => ?_⟩
    have := rlengths_ok _ R[k] W (a2.out.below hW) hr (by rw [hl]; exact h1) (by rw [hl]; exact h12)
    rwa [hl] at this
  have HS : Hid (∀ k r, R[k]? = some r → (R.take (k + 1)).map (fun r => natI (kl r)) = (R.take k).map (fun r => natI (kl r)) ++ [natI (kl r)]) := fun k r h => by rw [List.take_add_one, h, List.map_append]; rfl
  have HKl : Hid (∀ k r, R[k]? = some r → (natI (kl r)).length = n) := fun k r h => by rw [natI_length, kl_length]; exact (hR r (List.mem_of_getElem? h)).2
  have HOr : Hid (∀ W vl, IntsAll W vl (R.map (fun r => natI (kl r))) → Calls Tryz.prog 34 #[vl] W fun e w' => ∃ (u : Value) (T : List (List Nat)), e = .returned u ∧ IntsAll w' u (T.map natI) ∧ T.Perm (R.map kl) ∧ (∀ (i j : Nat) (a b : List Nat), i < j → T[i]? = some a → T[j]? = some b → ¬ nlt b a) ∧ Below W.heap.size W w') := fun W vl hA => by
    refine (rordered_all vl _ W hA (by rw [List.length_map]; omega) (fun r hr => ?_)).mono ?_
    · obtain ⟨y, hy, rfl⟩ := List.mem_map.1 hr
      rw [natI_length, kl_length, (hR y hy).2]; omega
    · rintro e w' ⟨u, Y, rfl, hY, hp, hris, hb⟩
      obtain ⟨T, rfl, hT⟩ := perm_nat (Y := Y) (L := R.map kl) (by rw [List.map_map]; exact hp)
      exact ⟨u, T, rfl, hY, hT, ris_nlt hris, hb⟩
  have HAll : Hid ((R.take R.length).map (fun r => natI (kl r)) = R.map (fun r => natI (kl r))) := by show _ = _; rw [List.take_length]
  have HTl : Hid (∀ T : List (List Nat), T.Perm (R.map kl) → T.length = R.length) := fun T h => by rw [h.length_eq, List.length_map]
  have HKn : Hid (∀ T : List (List Nat), T.Perm (R.map kl) → ∀ t, t ∈ T → t.length = n) := fun T h t ht => by
    obtain ⟨r, hr, rfl⟩ := List.mem_map.1 (h.mem_iff.1 ht)
    rw [kl_length]; exact (hR r hr).2
  generalize hNN : R.length = N at *
  clear hI hR hcell0 hNN
  go_enter Tryz.func12, Tryz.ntmps12
  go_wp2
  go_loopw [3, 4] (fun sv si wr => ∃ (k : Nat) (vs : List Value), k ≤ N ∧ si = .int .i64 (k : Int) ∧ vs.length = k ∧ Hid (LL wr w.heap.size sv vs ((R.take k).map (fun r => natI (kl r)))) ∧ Below w.heap.size w wr) (fun _ si _ => N - (intOf si).toNat)
  case atStart => exact ⟨0, [], Nat.zero_le _, rfl, rfl, (by rw [List.take_zero]; exact LL.nil _ _), Below.refl _ _⟩
  case round =>
    obtain ⟨k, vs, hk, rfl, hvl, hL, hbm⟩ := hrel
    obtain ⟨pv, cv, ev⟩ := owns_slice hL.out.row
    rw [hvl] at ev
    subst ev
    have HVL := hide hvl
    clear hvl
    by_cases hlt : k < N
    · obtain ⟨p, c, r, hr, hcx, hcall⟩ := HC.out k hlt
      have gx : wr.cell? ⟨b0, o0 + k, none⟩ = some (.slice p n c) := (hbm.cell (by exact hb0)).trans hcx
      have HCl := hide (hcall wr hbm)
      have HS1 := hide (HS.out k r hr)
      have HK1 := hide (HKl.out k r hr)
      have HBM := hide hbm
      clear hcall hcx hr hbm
      go_wp2_with fail
      refine HCl.out.mono ?_
      rintro e w2 ⟨u2, rfl, hown2, hb2⟩
      have HL2 := hide (hL.out.below hb2)
      have HO2 := hide (owns_base hown2 HBM.out.size)
      obtain ⟨p2, c2, e2⟩ := owns_slice hown2
      subst e2
      have hrow2 := HL2.out.row
      rw [HVL.out] at hrow2
      have hB2 : Below w.heap.size w w2 := HBM.out.trans (hb2.mono HBM.out.size)
      have hs2 := hB2.size
      clear hown2 hb2 HCl hL HBM
      go_wp2_with (at_builtin; refine wpList_append_own _ rfl _ _ 25 rfl w.heap.size 22 i0 (.slice none 0 0) 1 24 Tryz.underlying25 hi hz0 hz1 hz2 rfl (by decide) _ _ _ rfl (hrow2.alloc _) ⟨w2.heap.size, 0, none⟩ 1 1 [.slice p2 n c2] rfl rfl ?c1 ?c2 ?c3 ?c4 ?c5 ?_)
      case c1 => exact cell_one_new _ _ _
      case c2 => intro u hu; simp at hu; subst hu; rfl
      case c3 => unfold maxLen; omega
      case c4 => omega
      case c5 => simp; omega
      intro v4 w4 hown4 hg4 _
      have HL4 : Hid (LL w4 w.heap.size v4 (vs ++ [.slice p2 n c2]) ((R.take (k + 1)).map (fun r => natI (kl r)))) := by
        show LL _ _ _ _ _
        rw [HS1.out]
        exact HL2.out.push (by rw [HK1.out]; exact HO2.out) (by rw [HVL.out]; exact hown4) hg4
      have hB4 := HL2.out.step hB2 (Nat.le_refl _) (by omega) hg4
      obtain ⟨p4, c4, e4⟩ := owns_slice hown4
      subst e4
      have hvl4 : (vs ++ [Value.slice p2 n c2]).length = k + 1 := by rw [List.length_append, HVL.out]; rfl
      have HVL4 := hide hvl4
      clear hown4 hg4 hrow2 HL2 hB2 hvl4
      go_wp2
      go_roundw
      case rel => exact ⟨k + 1, _, hlt, by go_num, HVL4.out, HL4, hB4⟩
      case measure => simp [intOf]; omega
    · obtain rfl : N = k := by omega
      have hA : IntsAll wr (.slice pv N cv) (R.map (fun r => natI (kl r))) := by
        have h5 := hL.out.ints
        rw [HAll.out] at h5
        exact h5
      have HO := hide (HOr.out wr _ hA)
      have HBM := hide hbm
      clear hA hL hbm HOr HC HS HKl HAll
      go_wp2_with fail
      refine HO.out.mono ?_
      rintro e w2 ⟨u2, T, rfl, hY, hTp, hTs, hb2⟩
      have hTl := HTl.out T hTp
      obtain ⟨b1, o1, c1, e1, hb1, hc11, hc12, hcell1⟩ := hY.cell (by rw [List.length_map, hTl]; exact hN1)
      rw [List.length_map, hTl] at e1 hc11 hcell1
      subst e1
      have HB2 := hide (HBM.out.trans (hb2.mono HBM.out.size))
      have HT : Hid (∀ k, k < N → ∃ p c t, T[k]? = some t ∧ t.length = n ∧ w2.cell? ⟨b1, o1 + k, none⟩ = some (.slice p n c) ∧ Ints w2 (.slice p n c) (natI t)) := fun k hk => by
        have hkT : k < T.length := by omega
        obtain ⟨p, c, a1, a2⟩ := hcell1 k hk
        have e1 : (T.map natI).getD k [] = natI T[k] := by simp [List.getD, hkT]
        have hl := HKn.out T hTp T[k] (List.getElem_mem hkT)
        rw [e1, natI_length, hl] at a1 a2
        exact ⟨p, c, T[k], List.getElem?_eq_getElem hkT, hl, a1, a2.out⟩
      have HTs := hide hTs
      have HTp := hide hTp
      have HTL := hide hTl
      have HFin : Hid (∀ (u : Value) (Z : List (Value × List Nat × Nat)) (w' : World), w'.ownsRow w2.heap.size 58 2 u Z.length (kcells Z) → (∀ z, z ∈ Z → Ints w2 z.1 (natI z.2.1)) → KLast Z T N → Below w2.heap.size w2 w' → ∃ u' Z, Ending.returned u = .returned u' ∧ KrAt w' u' Z ∧ KOk (Z.map (·.2)) (R.map kl) ∧ Below w.heap.size w w') := fun u Z w' q1 q2 q3 q4 => by
        refine ⟨u, Z, rfl, ⟨_, q1, fun z hz => (q2 z hz).below q4⟩, ?_, HB2.out.trans (q4.mono HB2.out.size)⟩
        have h5 := q3.ok
        rw [← HTL.out, List.take_length] at h5
        exact h5.perm HTp.out
      have HLen : Hid (∀ Z k, KLast Z T k → Z.length ≤ N ∧ ∀ z, z ∈ Z → z.2.2 ≤ N) := fun Z k h => by
        have h5 := h.ok.len
        rw [List.length_map, List.length_take] at h5
        refine ⟨by omega, fun z hz => ?_⟩
        have h6 := h.ok.many z.2 (List.mem_map.2 ⟨z, hz, rfl⟩)
        have h7 : List.count z.2.1 (T.take k) ≤ (T.take k).length := List.count_le_length
        rw [List.length_take] at h7
        omega
      clear HO hY hTp hTs hTl hb2 hcell1 HBM HTl HKn
      go_wp2
      go_loopw [6, 7] (fun sv si wr => ∃ (k : Nat) (Z : List (Value × List Nat × Nat)), k ≤ N ∧ si = .int .i64 (k : Int) ∧ Hid (wr.ownsRow w2.heap.size 58 2 sv Z.length (kcells Z)) ∧ Hid (∀ z, z ∈ Z → Ints w2 z.1 (natI z.2.1)) ∧ Hid (KLast Z T k) ∧ Below w2.heap.size w2 wr) (fun _ si _ => N - (intOf si).toNat)
      case atStart => exact ⟨0, [], Nat.zero_le _, rfl, World.ownsRow_nil _ _ _ _, (fun z hz => by cases hz), ⟨by rw [List.take_zero]; exact KOk.nil, (fun z hz => by cases hz), (fun h => absurd h (by omega))⟩, Below.refl _ _⟩
      case round =>
        obtain ⟨k, Z, hk, rfl, hO, hZI, hKL, hbm⟩ := hrel
        by_cases hlt : k < N
        · obtain ⟨p, c, t, ht, htl, hct, hIt⟩ := HT.out k hlt
          have gx : wr.cell? ⟨b1, o1 + k, none⟩ = some (.slice p n c) := (hbm.cell (by exact hb1)).trans hct
          have hL5 := HLen.out Z k hKL.out
          have HApp : Hid (∀ (v4 : Value) (w3 w4 : World), Below w2.heap.size w2 w3 → w4.ownsRow w2.heap.size 58 2 v4 (Z.length + 1) (kcells Z ++ [.slice p n c, .int .i64 1]) → (∀ z, Z.getLast? = some z → z.2.1 ≠ t) → ∃ Z', w4.ownsRow w2.heap.size 58 2 v4 Z'.length (kcells Z') ∧ (∀ z, z ∈ Z' → Ints w2 z.1 (natI z.2.1)) ∧ KLast Z' T (k + 1)) := fun v4 w3 w4 _ q2 q3 => by
            refine ⟨Z ++ [(.slice p n c, t, 1)], ?_, fun z hz => ?_, hKL.out.fresh ht HTs.out q3⟩
            · rw [kcells_append, List.length_append]; exact q2
            · rcases List.mem_append.1 hz with h5 | h5
              · exact hZI.out z h5
              · rw [List.mem_singleton] at h5; subst h5; exact hIt
          have HSm : Hid (∀ (zv : Value) (zl : List Nat) W, Ints w2 zv (natI zl) → Below w2.heap.size w2 W → Calls Tryz.prog 32 #[zv, .slice p n c] W fun e w' => e = .returned (.bool (decide (natI zl = natI t))) ∧ Below W.heap.size W w') := fun zv zl W q1 q2 => same_any _ _ _ _ W (q1.below q2) (hIt.below q2)
          rcases Nat.eq_zero_or_pos Z.length with hz0 | hz0
          · have hZn : Z = [] := List.eq_nil_of_length_eq_zero hz0
            subst hZn
            have HO := hO
            obtain ⟨pz, cz, ez⟩ := owns_sliceK hO.out
            have ezn : pz = none ∧ cz = 0 ∨ ∃ g, pz = some ⟨g, 0, none⟩ := by
              rcases hO.out.2 with ⟨h5, _⟩ | ⟨g, c5, cur, h5, _⟩
              · rw [ez] at h5; injection h5 with a1 _ a3; exact Or.inl ⟨a1, a3⟩
              · rw [ez] at h5; injection h5 with a1 _ a3; exact Or.inr ⟨g, a1⟩
            subst ez
            have hrow := HO.out
            have g1 : decide (((0 : Nat) : Int) > 0) = false := by decide
            have HBM := hide hbm
            clear hIt hct ezn hL5 hO hbm
            go_wp2
            go_quiet (fail)
            obtain ⟨W3, hW3⟩ : ∃ W3, W3 = wr.drewN nq := ⟨_, rfl⟩
            have hB3 : Below w2.heap.size w2 W3 := by rw [hW3]; exact below_drewN HBM.out nq
            have hrow3 : W3.ownsRow w2.heap.size 58 2 (.slice pz 0 cz) 0 [] := by rw [hW3]; exact hrow
            have gx3 : W3.cell? ⟨b1, o1 + k, none⟩ = some (.slice p n c) := by rw [hW3]; exact gx
            have hNo : ∀ z, ([] : List (Value × List Nat × Nat)).getLast? = some z → z.2.1 ≠ t := fun z hz => by cases hz
            rw [← hW3]
            clear hW3 hrow gx HO
            go_wp2_with (at_builtin; refine wpList_append_own _ rfl _ _ 31 rfl w2.heap.size 58 i9 (.agg #[.slice none 0 0, .int .i64 0]) 2 32 Tryz.underlying31 hi9 hz90 hz91 hz92 rfl (by decide) _ _ _ rfl (hrow3.alloc _) ⟨W3.heap.size, 0, none⟩ 1 1 [.slice p n c, .int .i64 1] rfl rfl ?c1a ?c2a ?c3a ?c4a ?c5a ?_)
            case c1a =>
              intro j u hj
              rw [Addr.add_lit, Nat.zero_add]
              simp only [World.cell?, heap_alloc_new W3 (.cells #[.slice p n c, .int .i64 1] 58)]
              simpa using hj
            case c2a => intro u hu; simp at hu; rcases hu with rfl | rfl <;> rfl
            case c3a => unfold maxLen; omega
            case c4a => omega
            case c5a => have := hB3.size; simp; omega
            intro v4 w4 hown4 hg4 _
            obtain ⟨Z', hZ2, hZ3, hZ4⟩ := HApp.out v4 W3 w4 hB3 hown4 hNo
            have HB4 : Hid (Below w2.heap.size w2 w4) := by
              have h5 : Below w2.heap.size w2 (W3.alloc (.cells #[.slice p n c, .int .i64 1] 58)) := hB3.alloc hB3.size _
              exact h5.grown hg4 h5.size (fun g hg => (World.ownsRow.lt hrow3 g hg).1)
            have HZ2 := hide hZ2
            have HZ3 := hide hZ3
            have HZ4 := hide hZ4
            obtain ⟨p4, c4, e4⟩ := owns_sliceK hown4
            subst e4
            clear hZ2 hZ3 hZ4 hown4 hg4 hrow3 hB3 HApp hNo
            go_wp2
            go_roundw
            case rel =>
              have hfin : ∃ (k' : Nat) (Z : List (Value × List Nat × Nat)), k' ≤ N ∧ Value.int .i64 ((k : Int) + 1) = .int .i64 (k' : Int) ∧ Hid (w4.ownsRow w2.heap.size 58 2 (.slice p4 (1) c4) Z.length (kcells Z)) ∧ Hid (∀ z, z ∈ Z → Ints w2 z.1 (natI z.2.1)) ∧ Hid (KLast Z T k') ∧ Below w2.heap.size w2 w4 := ⟨k + 1, Z', hlt, by go_num, HZ2, HZ3, HZ4, HB4.out⟩
              first
                | exact hfin
                | ((repeat apply Exists.intro); exact ⟨hfin, rfl⟩)
            case measure => simp [intOf]; omega
          · obtain ⟨q, hq⟩ : ∃ q, q + 1 = Z.length := ⟨Z.length - 1, by omega⟩
            obtain ⟨b, cap, ez, hb9, hcc1, hcc2, hcel⟩ := (show KrAt wr _ Z from ⟨_, hO.out, fun z hz => (hZI.out z hz).below hbm⟩).cell hz0
            subst ez
            have hzq : Z[q]? = some Z[q] := List.getElem?_eq_getElem (by omega)
            obtain ⟨z, hz⟩ : ∃ z, z = Z[q] := ⟨_, rfl⟩
            rw [← hz] at hzq
            obtain ⟨k1, k2, k3, k4⟩ := hcel q z hzq
            have hzI : Ints w2 z.1 (natI z.2.1) := hZI.out z (List.mem_of_getElem? hzq)
            obtain ⟨pz, cz, ez⟩ := hzI.form
            have hlast : Z.getLast? = some z := by rw [List.getLast?_eq_getElem?, ← hq, Nat.add_sub_cancel]; exact hzq
            have HSame := hide (HSm.out z.1 z.2.1)
            have hm5 : z.2.2 ≤ 5040 := Nat.le_trans (hL5.2 z (List.mem_of_getElem? hzq)) hN
            have HAg : Hid (z.2.1 = t → ∀ (W : World) (m' : Nat), W.ownsRow w2.heap.size 58 2 (.slice (some ⟨b, 0, none⟩) Z.length cap) Z.length (kcells Z) → m' = z.2.2 + 1 → ∃ Z', Z'.length = Z.length ∧ (W.setCell ⟨b, q * 2 + 1, none⟩ (.int .i64 (m' : Int))).ownsRow w2.heap.size 58 2 (.slice (some ⟨b, 0, none⟩) Z.length cap) Z.length (kcells Z') ∧ (∀ z, z ∈ Z' → Ints w2 z.1 (natI z.2.1)) ∧ KLast Z' T (k + 1)) := fun e W m' hW hm' => by
              refine ⟨Z.set q (z.1, z.2.1, m'), List.length_set, ?_, fun y hy => ?_, ?_⟩
              · rw [← kcells_set m' hzq]; exact owns_setE hW _
              · rcases List.mem_or_eq_of_mem_set hy with h5 | h5
                · exact hZI.out y h5
                · subst h5; exact hzI
              · have h5 := hKL.out.again (z := z) (by rw [← hq, Nat.add_sub_cancel]; exact hzq) (by rw [e]; exact ht)
                rw [← hq, Nat.add_sub_cancel] at h5
                rw [hm']; exact h5
            have HNe : Hid (z.2.1 ≠ t → ∀ y, Z.getLast? = some y → y.2.1 ≠ t) := fun e y hy => by rw [hlast] at hy; injection hy with hy; rw [← hy]; exact e
            have hqI : (Z.length : Int) - 1 = (q : Int) := by omega
            have hqz : q < Z.length := by omega
            have g1 : decide ((Z.length : Int) > 0) = true := decide_eq_true (by omega)
            have hzp : 0 < Z.length := hz0
            have hz5 : Z.length ≤ 5040 := Nat.le_trans hL5.1 hN
            have hwq : IntKind.i64.wrap (q : Int) = (q : Int) := by rw [IntKind.wrap_i64]; omega
            have HO := hO
            have hbase9 : w2.heap.size ≤ b := (World.ownsRow.lt hO.out b rfl).1
            clear hz hcel hL5 hlast
            generalize hzm : z.2.2 = m at *
            obtain ⟨zl, hzl⟩ : ∃ zl, zl = z.2.1 := ⟨_, rfl⟩
            rw [← hzl] at ez hzI HSame HAg HNe
            rw [ez] at k1
            rw [ez] at HSame hzI
            generalize (natI zl).length = lz at *
            generalize hKZ : kcells Z = KZ at *
            have HKZ := hide hKZ
            generalize hZl : Z.length = ZL at *
            have HZL := hide hZl
            have HBM := hide hbm
            have HSW := hide (HSame.out wr hzI hbm)
            clear hzl k4 ez hq hZI hKL hO hIt hct hKZ hZl hbm hzm hz0 hzq
            go_wp2
            refine wp_region_held_drew (S := fun W' => W'.cell? ⟨b, q * 2, none⟩ = some (.slice pz lz cz) ∧ W'.cell? ⟨b1, o1 + k, none⟩ = some (.slice p n c)) (by kernel_rfl) ⟨k1, gx⟩ (fun hS => ?_)
            refine wpAnyH_take (i := 0) (v := .int .i64 (ZL : Int)) rfl (by kernel_rfl) (by kernel_rfl) (by kernel_rfl) (fun _ _ _ h => h) (Or.inl ⟨by kernel_rfl, fun w' hS' => by clear hS'; go_simp⟩) hS ?_
            refine wpAnyH_take (i := 1) (v := .bool true) rfl (by kernel_rfl) (by kernel_rfl) (by kernel_rfl) (fun _ _ _ h => h) (Or.inl ⟨by kernel_rfl, fun w' hS' => by clear hS'; go_simp⟩) hS ?_
            refine wpAnyH_take (i := 2) (v := .bool true) rfl (by kernel_rfl) (by kernel_rfl) (by kernel_rfl) (fun _ _ _ h => h) (Or.inl ⟨by kernel_rfl, fun w' hS' => by clear hS'; go_simp⟩) hS ?_
            refine wpAnyH_take (i := 3) (v := .slice (some ⟨b, 0, none⟩) ZL cap) rfl (by kernel_rfl) (by kernel_rfl) (by kernel_rfl) (fun _ _ _ h => h) (Or.inl ⟨by kernel_rfl, fun w' hS' => by clear hS'; go_simp⟩) hS ?_
            refine wpAnyH_take (i := 4) (v := .int .i64 (ZL : Int)) rfl (by kernel_rfl) (by kernel_rfl) (by kernel_rfl) (fun _ _ _ h => h) (Or.inl ⟨by kernel_rfl, fun w' hS' => by clear hS'; go_simp⟩) hS ?_
            refine wpAnyH_take (i := 5) (v := .int .i64 (q : Int)) rfl (by kernel_rfl) (by kernel_rfl) (by kernel_rfl) (fun _ _ _ h => h) (Or.inl ⟨by kernel_rfl, fun w' hS' => by clear hS'; go_simp⟩) hS ?_
            refine wpAnyH_take (i := 6) (v := .pointer (some ⟨b, q * 2, none⟩)) rfl (by kernel_rfl) (by kernel_rfl) (by kernel_rfl) (fun _ _ _ h => h) (Or.inl ⟨by kernel_rfl, fun w' hS' => by clear hS'; go_simp⟩) hS ?_
            refine wpAnyH_take (i := 7) (v := .pointer (some ⟨b, q * 2, none⟩)) rfl (by kernel_rfl) (by kernel_rfl) (by kernel_rfl) (fun _ _ _ h => h) (Or.inl ⟨by kernel_rfl, fun w' hS' => by clear hS'; go_simp⟩) hS ?_
            refine wpAnyH_take (i := 8) (v := .slice pz lz cz) rfl (by kernel_rfl) (by kernel_rfl) (by kernel_rfl) (fun _ _ _ h => h) (Or.inl ⟨by kernel_rfl, fun w' hS' => by have h2 := hS'.1; clear hS'; go_simp⟩) hS ?_
            refine wpAnyH_take (i := 9) (v := .slice (some ⟨b1, o1, none⟩) N c1) rfl (by kernel_rfl) (by kernel_rfl) (by kernel_rfl) (fun _ _ _ h => h) (Or.inl ⟨by kernel_rfl, fun w' hS' => by clear hS'; go_simp⟩) hS ?_
            refine wpAnyH_take (i := 10) (v := .int .i64 (k : Int)) rfl (by kernel_rfl) (by kernel_rfl) (by kernel_rfl) (fun _ _ _ h => h) (Or.inl ⟨by kernel_rfl, fun w' hS' => by clear hS'; go_simp⟩) hS ?_
            refine wpAnyH_take (i := 11) (v := .pointer (some ⟨b1, o1 + k, none⟩)) rfl (by kernel_rfl) (by kernel_rfl) (by kernel_rfl) (fun _ _ _ h => h) (Or.inl ⟨by kernel_rfl, fun w' hS' => by clear hS'; go_simp⟩) hS ?_
            refine wpAnyH_take (i := 12) (v := .slice p n c) rfl (by kernel_rfl) (by kernel_rfl) (by kernel_rfl) (fun _ _ _ h => h) (Or.inl ⟨by kernel_rfl, fun w' hS' => by have h2 := hS'.2; clear hS'; go_simp⟩) hS ?_
            refine wpAnyH_ready (rs := [13]) (by kernel_rfl) (by simp) ?_
            refine AllReadyH.cons rfl (fun K9 hK9 => ?_) AllReadyH.nil
            go_simp
            refine (HSame.out wr.drew hzI HBM.out.drew).mono ?_
            rintro e W3 ⟨rfl, hb3⟩
            replace hb3 := undrew hb3
            have hs9 : b < wr.heap.size := hb9
            have hs8 : b1 < wr.heap.size := Nat.lt_of_lt_of_le hb1 HBM.out.size
            have hs5 : W3.cell? ⟨b, q * 2, none⟩ = some (.slice pz lz cz) ∧ W3.cell? ⟨b1, o1 + k, none⟩ = some (.slice p n c) := ⟨(hb3.cell (p := ⟨b, q * 2, none⟩) hs9).trans k1, (hb3.cell (p := ⟨b1, o1 + k, none⟩) hs8).trans gx⟩
            have gx3 := hs5.2
            have k23 : W3.cell? ⟨b, q * 2 + 1, none⟩ = some (.int .i64 (m : Int)) := (hb3.cell (p := ⟨b, q * 2 + 1, none⟩) hs9).trans k2
            have k33 : W3.frozen? ⟨b, q * 2 + 1, none⟩ = false := (hb3.frozen (p := ⟨b, q * 2 + 1, none⟩) hs9).trans k3
            have hB3 : Below w2.heap.size w2 W3 := HBM.out.trans (hb3.mono HBM.out.size)
            have HR3 := hide (owns_belowK HO.out hb3 (Nat.le_refl _))
            refine hK9.out _ _ hs5 (fun hS => ?_)
            clear hK9 hb3
            by_cases hzt : zl = t
            · rw [decide_eq_true (by rw [hzt])]
              refine wpAnyH_take (i := 14) (v := .bool true) rfl (by kernel_rfl) (by kernel_rfl) (by kernel_rfl) (fun _ _ _ h => h) (Or.inl ⟨by kernel_rfl, fun w' hS' => by clear hS'; go_simp⟩) hS ?_
              refine wpAnyH_done (by kernel_rfl) ?_ _
              obtain ⟨m', hm'⟩ : ∃ m', m' = m + 1 := ⟨_, rfl⟩
              obtain ⟨Z', hZ1, hZ2, hZ3, hZ4⟩ := HAg.out hzt W3 m' HR3.out hm'
              have hmI : (m : Int) + 1 = (m' : Int) := by omega
              have HZ2 : Hid ((W3.setCell ⟨b, q * 2 + 1, none⟩ (.int .i64 (m' : Int))).ownsRow w2.heap.size 58 2 (.slice (some ⟨b, 0, none⟩) ZL cap) Z'.length (kcells Z')) := by rw [hZ1]; exact hZ2
              have HZ3 := hide hZ3
              have HZ4 := hide hZ4
              have HB4 : Hid (Below w2.heap.size w2 (W3.setCell ⟨b, q * 2 + 1, none⟩ (.int .i64 (m' : Int)))) := hB3.setCell hbase9 _
              clear hZ1 hZ2 hZ3 hZ4 hm' hB3 hs5 hzt HAg HNe HSame HSW
              go_wp2
              go_roundw
              case rel =>
                have hfin : ∃ (k' : Nat) (Z : List (Value × List Nat × Nat)), k' ≤ N ∧ Value.int .i64 ((k : Int) + 1) = .int .i64 (k' : Int) ∧ Hid ((W3.setCell ⟨b, q * 2 + 1, none⟩ (.int .i64 (m' : Int))).ownsRow w2.heap.size 58 2 (.slice (some ⟨b, 0, none⟩) ZL cap) Z.length (kcells Z)) ∧ Hid (∀ z, z ∈ Z → Ints w2 z.1 (natI z.2.1)) ∧ Hid (KLast Z T k') ∧ Below w2.heap.size w2 (W3.setCell ⟨b, q * 2 + 1, none⟩ (.int .i64 (m' : Int))) := ⟨k + 1, Z', hlt, by go_num, HZ2, HZ3, HZ4, HB4.out⟩
                first
                  | exact hfin
                  | ((repeat apply Exists.intro); exact ⟨hfin, rfl⟩)
              case measure => simp [intOf]; omega
            · rw [decide_eq_false (fun h => hzt (natI_inj h))]
              refine wpAnyH_take (i := 14) (v := .bool false) rfl (by kernel_rfl) (by kernel_rfl) (by kernel_rfl) (fun _ _ _ h => h) (Or.inl ⟨by kernel_rfl, fun w' hS' => by clear hS'; go_simp⟩) hS ?_
              refine wpAnyH_done (by kernel_rfl) ?_ _
              have hrow3 := HR3.out
              have hNo := HNe.out hzt
              clear hs5 hzt HAg HNe HSame HSW HR3
              go_wp2_with (at_builtin; refine wpList_append_own _ rfl _ _ 31 rfl w2.heap.size 58 i9 (.agg #[.slice none 0 0, .int .i64 0]) 2 32 Tryz.underlying31 hi9 hz90 hz91 hz92 rfl (by decide) _ _ _ rfl (hrow3.alloc _) ⟨W3.heap.size, 0, none⟩ 1 1 [.slice p n c, .int .i64 1] rfl rfl ?c1b ?c2b ?c3b ?c4b ?c5b ?_)
              case c1b =>
                intro j u hj
                rw [Addr.add_lit, Nat.zero_add]
                simp only [World.cell?, heap_alloc_new W3 (.cells #[.slice p n c, .int .i64 1] 58)]
                simpa using hj
              case c2b => intro u hu; simp at hu; rcases hu with rfl | rfl <;> rfl
              case c3b => unfold maxLen; omega
              case c4b => omega
              case c5b => have := hB3.size; simp; omega
              intro v4 w4 hown4 hg4 _
              obtain ⟨Z', hZ2, hZ3, hZ4⟩ := HApp.out v4 W3 w4 hB3 hown4 hNo
              have HB4 : Hid (Below w2.heap.size w2 w4) := by
                have h5 : Below w2.heap.size w2 (W3.alloc (.cells #[.slice p n c, .int .i64 1] 58)) := hB3.alloc hB3.size _
                exact h5.grown hg4 h5.size (fun g hg => (World.ownsRow.lt hrow3 g hg).1)
              have HZ2 := hide hZ2
              have HZ3 := hide hZ3
              have HZ4 := hide hZ4
              obtain ⟨p4, c4, e4⟩ := owns_sliceK hown4
              subst e4
              clear hZ2 hZ3 hZ4 hown4 hg4 hrow3 hB3 HApp hNo
              go_wp2
              go_roundw
              case rel =>
                have hfin : ∃ (k' : Nat) (Z : List (Value × List Nat × Nat)), k' ≤ N ∧ Value.int .i64 ((k : Int) + 1) = .int .i64 (k' : Int) ∧ Hid (w4.ownsRow w2.heap.size 58 2 (.slice p4 (ZL + 1) c4) Z.length (kcells Z)) ∧ Hid (∀ z, z ∈ Z → Ints w2 z.1 (natI z.2.1)) ∧ Hid (KLast Z T k') ∧ Below w2.heap.size w2 w4 := ⟨k + 1, Z', hlt, by go_num, HZ2, HZ3, HZ4, HB4.out⟩
                first
                  | exact hfin
                  | ((repeat apply Exists.intro); exact ⟨hfin, rfl⟩)
              case measure => simp [intOf]; omega
        · obtain rfl : N = k := by omega
          obtain ⟨pz, cz, ez⟩ := owns_sliceK hO.out
          have HE := hide (HFin.out _ Z wr hO.out hZI.out hKL.out hbm)
          subst ez
          generalize Z.length = zl at *
          clear hO hZI hKL HFin
          go_wp2
          go_ret
          exact HE.out

end Go.Proofs.YtahffpgadoiijaaGreat

/- Contracts: the answer's CountColours. -/
namespace Go.Proofs.YtahffpgadoiijaaGreat
open Go.RowKit
set_option linter.unusedVariables false

theorem run_mat_nil (w : World) : (binOp BinOp.eql 25 (.slice none 0 0) (.slice none 0 0)).run Tryz.prog w = .ok (.bool true) w := by kernel_rfl
theorem run_mat_some (a : Addr) (n c : Nat) (w : World) : (binOp BinOp.eql 25 (.slice (some a) n c) (.slice none 0 0)).run Tryz.prog w = .ok (.bool false) w := by kernel_rfl

/-- What Closed tells. -/
def ClX (n : Nat) (gss : List (List Int)) (w : World) (e : Ending) (w' : World) : Prop :=
  Below w.heap.size w w' ∧ ((5040 < sz (Gen (fun y => y ∈ gss.map pad)) n ∧ e = .returned (.tuple #[.slice none 0 0, .slice none 0 0])) ∨ (¬ 5040 < sz (Gen (fun y => y ∈ gss.map pad)) n ∧
    ∃ (vr : Value) (pw : Option Addr) (lw cw : Nat) (X : List Pm), e = .returned (.tuple #[vr, .slice pw lw cw]) ∧ IntsAll w' vr (X.map (cut n)) ∧ X.Nodup ∧ (∀ x, x ∈ X ↔ Gen (fun y => y ∈ gss.map pad) x) ∧ X.length = sz (Gen (fun y => y ∈ gss.map pad)) n ∧ 1 ≤ X.length))

theorem closedX_ok (n : Nat) (v : Value) (gss : List (List Int)) (w : World) (hA : IntsAll w v gss) (hR : RowsN n gss) (h1 : 1 ≤ n) (h12 : n ≤ 12) (h8 : gss.length ≤ 8) :
    Calls Tryz.prog 10 #[.int .i64 n, v, .int .i64 5040] w (ClX n gss w) := by
  refine (closed_ok n 5040 v gss w hA hR h1 h12 (by omega) (by omega) (by omega)).mono ?_
  rintro e w' ⟨hb, hp⟩
  refine ⟨hb, ?_⟩
  rcases hp with ⟨vr, vw, S, rfl, a1, a2, a3, a4⟩ | ⟨rfl, S, a1, a2⟩
  · have hF := Found.of h12 hR a3
    have hs := hF.size h12
    refine Or.inr ⟨by omega, ?_⟩
    obtain ⟨p, c, e⟩ := a2.len
    subst e
    exact ⟨vr, p, _, c, S.map (·.1), rfl, by rw [← Found.cuts]; exact a1, hF.nodup, hF.mem, by rw [List.length_map]; exact hs, by rw [List.length_map]; exact hF.pos⟩
  · have := found_few h12 hR a1
    exact Or.inl ⟨by omega, rfl⟩

/-- The sum over the first so many rows. -/
def cS (c n : Nat) (X : List Pm) (k : Nat) : Nat := ((X.take k).map (fun x => c ^ (kl (cut n x)).sum)).sum

theorem cS_succ {c n : Nat} {X : List Pm} {k : Nat} {x : Pm} (h : X[k]? = some x) : cS c n X (k + 1) = cS c n X k + c ^ (kl (cut n x)).sum := by
  unfold cS; rw [List.take_add_one, h, List.map_append, List.sum_append]; simp

theorem lsum_le {α : Type} {f : α → Nat} {M : Nat} : ∀ {L : List α}, (∀ x, x ∈ L → f x ≤ M) → (L.map f).sum ≤ L.length * M
  | [], _ => by simp
  | x :: L, h => by
    rw [List.map_cons, List.sum_cons, List.length_cons, Nat.add_mul, Nat.one_mul, Nat.add_comm]
    exact Nat.add_le_add (lsum_le (fun y hy => h y (List.mem_cons_of_mem _ hy))) (h x List.mem_cons_self)

set_option maxRecDepth 20000 in
set_option maxHeartbeats 4000000 in
theorem rcount_ok (n c : Nat) (v : Value) (gss : List (List Int)) (w : World) (hA : IntsAll w v gss) (hR : RowsN n gss) (h1 : 1 ≤ n) (h12 : n ≤ 12) (h8 : gss.length ≤ 8) (hc8 : c ≤ 8) :
    Calls Tryz.prog 14 #[.int .i64 n, v, .int .i64 (c : Int)] w (CtPost (CntOk n c gss) n gss w) := by
  have hgz := gchk_rows h1 h12 hR
  have HM1 : Hid (Calls Tryz.prog 7 #[.int .i64 n, v] w fun e w'' => e = .returned (.int .i64 0) ∧ w = w'') := by have := gensMay_ok n v gss w hA h1 h12 h8; rwa [hgz] at this
  have HCl := hide (closedX_ok n v gss w hA hR h1 h12 h8)
  have HFix : Hid (∀ x, Gen (fun y => y ∈ gss.map pad) x → Fixes (fun b => n ≤ b) x) := fun x hx => gens_fix h12 hR hx
  have HE1 : Hid (∀ w', Below w.heap.size w w' → 5040 < sz (Gen (fun y => y ∈ gss.map pad)) n → CtPost (CntOk n c gss) n gss w (.returned (.tuple #[.int .i64 0, .int .i64 3])) w') := fun w' hb h => ⟨hb, by rw [if_pos h]⟩
  have HE2 : Hid (∀ w' cv, Below w.heap.size w w' → ¬ 5040 < sz (Gen (fun y => y ∈ gss.map pad)) n → CntOk n c gss cv → CtPost (CntOk n c gss) n gss w (.returned (.tuple #[.int .i64 (cv : Int), .int .i64 0])) w') := fun w' cv hb h h2 => ⟨hb, by rw [if_neg h]; exact ⟨cv, rfl, h2⟩⟩
  have g1 : decide ((c : Int) < 0) = false := decide_eq_false (by omega)
  have g2 : decide ((c : Int) > 8) = false := decide_eq_false (by omega)
  obtain ⟨pv, cv, ev⟩ := hA.len
  subst ev
  generalize gss.length = gl at *
  generalize hPP : CtPost (CntOk n c gss) n gss w = PP at *
  have q1 := run_mat_nil
  have q2 := run_mat_some
  clear hA hR hPP hgz
  go_enter Tryz.func14, Tryz.ntmps14
  go_wp2_with fail
  refine HM1.out.mono ?_
  rintro e w1 ⟨rfl, rfl⟩
  go_wp2_with fail
  refine HCl.out.mono ?_
  rintro e w2 ⟨hb2, hK⟩
  rcases hK with ⟨hbig, rfl⟩ | ⟨hbig, vr, pw, lw, cw, X, rfl, hI, hXn, hXm, hXl, hX1⟩
  · have HE := hide (HE1.out w2 hb2 hbig)
    clear hbig
    go_wp2
    exact HE.out
  · have hX5 : X.length ≤ 5040 := by omega
    obtain ⟨b0, o0, c0, e0, hb0, hc01, hc02, hcell0⟩ := hI.cell (by rw [List.length_map]; exact hX1)
    rw [List.length_map] at e0 hc01 hcell0
    subst e0
    have HC : Hid (∀ k, k < X.length → ∃ p q x, X[k]? = some x ∧ w2.cell? ⟨b0, o0 + k, none⟩ = some (.slice p n q) ∧ (kl (cut n x)).sum ≤ 12 ∧ ∀ W, Below w2.heap.size w2 W → Calls Tryz.prog 39 #[.slice p n q] W fun e w' => (∃ pp qq, e = .returned (.slice pp (kl (cut n x)).sum qq)) ∧ Below W.heap.size W w') := fun k hk => by
      obtain ⟨p, q, a1, a2⟩ := hcell0 k hk
      have e1 : (X.map (cut n)).getD k [] = cut n X[k] := by simp [List.getD, hk]
      have hl := cut_length h12 X[k]
      have hr := cut_row h12 (HFix.out _ ((hXm _).1 (List.getElem_mem hk)))
      rw [e1, hl] at a1 a2
      refine ⟨p, q, X[k], List.getElem?_eq_getElem hk, a1, kl_sum12 hr (by rw [hl]; exact h12), fun W hW => ?_⟩
      refine (rcycles_ok _ _ W (a2.out.below hW) hr (by rw [hl]; exact h1) (by rw [hl]; exact h12)).mono ?_
      rintro e w' ⟨vc, rfl, hc, hb⟩
      obtain ⟨pp, qq, e⟩ := hc.len
      subst e
      exact ⟨⟨pp, qq, by rw [kl_sums hr]⟩, hb⟩
    have HPw : Hid (∀ (t : Nat) (W : World), t ≤ 12 → Calls Tryz.prog 40 #[.int .i64 (c : Int), .int .i64 (t : Int)] W fun e w' => e = .returned (.int .i64 ((c ^ t : Nat) : Int)) ∧ W = w') := fun t W ht => rpower_ok c t W hc8 ht
    have HS : Hid (∀ k x, X[k]? = some x → cS c n X (k + 1) = cS c n X k + c ^ (kl (cut n x)).sum) := fun k x h => cS_succ h
    have HSl : Hid (∀ k, cS c n X k ≤ 346346162749440) := fun k => by
      have h5 : cS c n X k ≤ (X.take k).length * 68719476736 := lsum_le (fun x hx => pow_le12 hc8 (kl_sum12 (cut_row h12 (HFix.out _ ((hXm _).1 (List.mem_of_mem_take hx)))) (by rw [cut_length h12]; exact h12)))
      rw [List.length_take] at h5
      exact Nat.le_trans h5 (Nat.le_trans (Nat.mul_le_mul (show min k X.length ≤ 5040 by omega) (Nat.le_refl _)) (by decide))
    have HS0 : Hid (cS c n X 0 = 0) := rfl
    have HFin : Hid (∀ w', Below w.heap.size w w' → PP (.returned (.tuple #[.int .i64 ((cS c n X X.length / X.length : Nat) : Int), .int .i64 0])) w') := fun w' hb => HE2.out w' _ hb hbig (fun Y hY hYm => by
      have hp := perm_of_mem hXn hY hXm hYm
      unfold cS
      rw [List.take_length, (hp.map (fun x => c ^ (kl (cut n x)).sum)).sum_nat, hp.length_eq])
    have HB2 := hide hb2
    generalize hNN : X.length = N at *
    clear hbig hI hXn hXm hXl hcell0 hb2 hNN HE1 HE2 HFix
    go_wp2
    go_loopw [11, 12] (fun ss si wr => ∃ (k s : Nat), k ≤ N ∧ ss = .int .i64 (s : Int) ∧ si = .int .i64 (k : Int) ∧ Hid (s = cS c n X k) ∧ Below w2.heap.size w2 wr) (fun _ si _ => N - (intOf si).toNat)
    case atStart => exact ⟨0, 0, Nat.zero_le _, rfl, rfl, HS0.out.symm, Below.refl _ _⟩
    case round =>
      obtain ⟨k, s, hk, rfl, rfl, hs, hbm⟩ := hrel
      by_cases hlt : k < N
      · obtain ⟨p, q, x, hx, hcx, ht, hcall⟩ := HC.out k hlt
        have gx : wr.cell? ⟨b0, o0 + k, none⟩ = some (.slice p n q) := (hbm.cell (by exact hb0)).trans hcx
        have HCl2 := hide (hcall wr hbm)
        have HS1 := hide (HS.out k x hx)
        have hsl : s + c ^ (kl (cut n x)).sum ≤ 346346162749440 := by have h5 := HSl.out (k + 1); rw [HS1.out, ← hs.out] at h5; exact h5
        have HP : Hid (∀ W, Calls Tryz.prog 40 #[.int .i64 (c : Int), .int .i64 (((kl (cut n x)).sum : Nat) : Int)] W fun e w' => e = .returned (.int .i64 ((c ^ (kl (cut n x)).sum : Nat) : Int)) ∧ W = w') := fun W => HPw.out _ W ht
        have HS2 : Hid (s + c ^ (kl (cut n x)).sum = cS c n X (k + 1)) := by show _ = _; rw [HS1.out, ← hs.out]
        generalize c ^ (kl (cut n x)).sum = ct at *
        generalize (kl (cut n x)).sum = t at *
        have HBM := hide hbm
        clear hcall hcx hx hs hbm HS1
        go_wp2_with fail
        refine HCl2.out.mono ?_
        rintro e w3 ⟨⟨pp, qq, rfl⟩, hb3⟩
        have hB3 := HBM.out.trans (hb3.mono HBM.out.size)
        clear hb3 HBM HCl2
        go_wp2_with fail
        refine (HP.out w3).mono ?_
        rintro e w4 ⟨rfl, rfl⟩
        go_wp2
        go_roundw
        case rel => exact ⟨k + 1, s + ct, hlt, by go_num, by go_num, HS2, hB3⟩
        case measure => simp [intOf]; omega
      · obtain rfl : N = k := by omega
        have hsl := HSl.out N
        rw [← hs.out] at hsl
        have HE := hide (HFin.out wr (HB2.out.trans (hbm.mono HB2.out.size)))
        rw [← hs.out] at HE
        have hq : (s : Int).tdiv (N : Int) = ((s / N : Nat) : Int) := by rw [← Int.ofNat_tdiv]
        have hql : s / N ≤ s := Nat.div_le_self _ _
        have hr0 : ¬ ((N : Int) = 0) := by omega
        generalize s / N = qn at *
        clear hs HFin HB2
        go_wp2
        exact HE.out

set_option maxRecDepth 20000 in
theorem rcount_bad (n : Int) (v : Value) (c : Int) (w : World) (hc : ¬ (0 ≤ c ∧ c ≤ 8)) (hv : ∃ p l c, v = .slice p l c) :
    Calls Tryz.prog 14 #[.int .i64 n, v, .int .i64 c] w fun e w' => e = .returned (.tuple #[.int .i64 0, .int .i64 12]) ∧ Below w.heap.size w w' := by
  obtain ⟨pv, lv, cv, rfl⟩ := hv
  by_cases h0 : c < 0
  · have g1 : decide (c < 0) = true := decide_eq_true h0
    clear hc
    go_enter Tryz.func14, Tryz.ntmps14
    go_wp2
    go_ret2
    exact ⟨rfl, Below.refl _ _⟩
  · have g1 : decide (c < 0) = false := decide_eq_false h0
    have g2 : decide (c > 8) = true := decide_eq_true (by omega)
    clear hc
    go_enter Tryz.func14, Tryz.ntmps14
    go_wp2
    go_ret2
    exact ⟨rfl, Below.refl _ _⟩

set_option maxRecDepth 20000 in
theorem rcount_no (n : Int) (v : Value) (k c : Int) (w : World) (hk0 : 0 ≤ k ∧ k ≤ 8) (hv : ∃ p l c, v = .slice p l c) (hc : c ≠ 0)
    (hm : Calls Tryz.prog 7 #[.int .i64 n, v] w fun e w'' => e = .returned (.int .i64 c) ∧ w = w'') :
    Calls Tryz.prog 14 #[.int .i64 n, v, .int .i64 k] w fun e w' => e = .returned (.tuple #[.int .i64 0, .int .i64 c]) ∧ Below w.heap.size w w' := by
  have HM := hide hm
  obtain ⟨pv, lv, cv, rfl⟩ := hv
  have hne : (c != 0) = true := by rw [bne_iff_ne]; exact hc
  have g1 : decide (k < 0) = false := decide_eq_false (by omega)
  have g2 : decide (k > 8) = false := decide_eq_false (by omega)
  clear hm hc hk0
  go_enter Tryz.func14, Tryz.ntmps14
  go_wp2_with fail
  refine HM.out.mono ?_
  rintro e w1 ⟨rfl, rfl⟩
  go_wp2
  go_ret2
  exact ⟨rfl, Below.refl _ _⟩

end Go.Proofs.YtahffpgadoiijaaGreat

/- Contract: the law's sameKinds, of kinds that are the same (written by mkkpg.py). -/
namespace Go.Proofs.YtahffpgadoiijaaGreat
open Go.RowKit
set_option linter.unusedVariables false

set_option maxRecDepth 20000 in
set_option maxHeartbeats 4000000 in
theorem sameKinds_ok (vA vB : Value) (A B : List (Value × List Nat × Nat)) (w : World) (hA : KrAt w vA A) (hB : KrAt w vB B) (he : A.map (·.2) = B.map (·.2)) (hN : A.length ≤ 5040) :
    Calls Tryz.prog 11 #[vA, vB] w fun e w' => e = .returned (.bool true) ∧ Below w.heap.size w w' := by
  have hlen : B.length = A.length := by have h5 := congrArg List.length he; rw [List.length_map, List.length_map] at h5; exact h5.symm
  obtain ⟨pA, cA, eA⟩ := owns_sliceK hA.choose_spec.1
  obtain ⟨pB, cB, eB⟩ := owns_sliceK hB.choose_spec.1
  have HC : Hid (∀ k, k < A.length → ∃ (bA bB : Nat) (p1 p2 : Option Addr) (l1 l2 c1 c2 m : Nat), pA = some ⟨bA, 0, none⟩ ∧ pB = some ⟨bB, 0, none⟩ ∧ bA < w.heap.size ∧ bB < w.heap.size ∧ A.length ≤ cA ∧ cA ≤ 9223372036854775807 ∧ A.length ≤ cB ∧ cB ≤ 9223372036854775807 ∧ w.cell? ⟨bA, k * 2, none⟩ = some (.slice p1 l1 c1) ∧ w.cell? ⟨bA, k * 2 + 1, none⟩ = some (.int .i64 (m : Int)) ∧ w.cell? ⟨bB, k * 2, none⟩ = some (.slice p2 l2 c2) ∧ w.cell? ⟨bB, k * 2 + 1, none⟩ = some (.int .i64 (m : Int)) ∧ ∀ W, Below w.heap.size w W → Calls Tryz.prog 32 #[.slice p1 l1 c1, .slice p2 l2 c2] W fun e w' => e = .returned (.bool true) ∧ Below W.heap.size W w') := fun k hk => by
    obtain ⟨b, cap, h1, h2, h3, h4, h5⟩ := hA.cell (by omega)
    obtain ⟨b', cap', h1', h2', h3', h4', h5'⟩ := hB.cell (by omega)
    have hz : A[k]? = some A[k] := List.getElem?_eq_getElem hk
    have hz' : B[k]? = some B[k] := List.getElem?_eq_getElem (by omega)
    have hzz : A[k].2 = B[k].2 := by
      have h6 : (A.map (·.2))[k]? = (B.map (·.2))[k]? := by rw [he]
      rw [List.getElem?_map, List.getElem?_map, hz, hz'] at h6
      exact Option.some.inj h6
    obtain ⟨a1, a2, _, a4⟩ := h5 k _ hz
    obtain ⟨a1', a2', _, a4'⟩ := h5' k _ hz'
    obtain ⟨p1, c1, e1⟩ := a4.form
    obtain ⟨p2, c2, e2⟩ := a4'.form
    rw [eA] at h1
    rw [eB] at h1'
    injection h1 with i1 _ i3
    injection h1' with i1' _ i3'
    subst i3; subst i3'
    refine ⟨b, b', p1, p2, _, _, c1, c2, A[k].2.2, i1, i1', h2, h2', h3, h4, by omega, h4', by rw [← e1]; exact a1, a2, by rw [← e2]; exact a1', by rw [a2', hzz], fun W hW => ?_⟩
    have h7 := same_any _ _ _ _ W (a4.below hW) (a4'.below hW)
    have hd : decide (natI A[k].2.1 = natI B[k].2.1) = true := decide_eq_true (by rw [hzz])
    rw [hd, e1, e2] at h7
    exact h7
  subst eA; subst eB
  rw [hlen]
  generalize hNN : A.length = N at *
  clear hA hB he hlen hNN
  go_enter Tryz.func11, Tryz.ntmps11
  go_wp2
  go_loopw [5] (fun si wr => ∃ (k : Nat), k ≤ N ∧ si = .int .i64 (k : Int) ∧ Below w.heap.size w wr) (fun si _ => N - (intOf si).toNat)
  case atStart => exact ⟨0, Nat.zero_le _, rfl, Below.refl _ _⟩
  case round =>
    obtain ⟨k, hk, rfl, hbm⟩ := hrel
    by_cases hlt : k < N
    · obtain ⟨bA, bB, p1, p2, l1, l2, c1, c2, m, rfl, rfl, hb1, hb2, hcA, hcA2, hcB, hcB2, k1, k2, k3, k4, hcall⟩ := HC.out k hlt
      have g1 : wr.cell? ⟨bA, k * 2, none⟩ = some (.slice p1 l1 c1) := (hbm.cell (by exact hb1)).trans k1
      have g2 : wr.cell? ⟨bA, k * 2 + 1, none⟩ = some (.int .i64 (m : Int)) := (hbm.cell (by exact hb1)).trans k2
      have g3 : wr.cell? ⟨bB, k * 2, none⟩ = some (.slice p2 l2 c2) := (hbm.cell (by exact hb2)).trans k3
      have g4 : wr.cell? ⟨bB, k * 2 + 1, none⟩ = some (.int .i64 (m : Int)) := (hbm.cell (by exact hb2)).trans k4
      have HCall := hide (hcall wr.drew hbm.drew)
      have HBM := hide hbm
      have hs1 : bA < wr.heap.size := Nat.lt_of_lt_of_le hb1 hbm.size
      have hs2 : bB < wr.heap.size := Nat.lt_of_lt_of_le hb2 hbm.size
      clear hcall k1 k2 k3 k4 hbm
      go_wp2
      refine wp_region_held_drew (S := fun W' => W'.cell? ⟨bA, k * 2, none⟩ = some (.slice p1 l1 c1) ∧ W'.cell? ⟨bB, k * 2, none⟩ = some (.slice p2 l2 c2)) (by kernel_rfl) ⟨g1, g3⟩ (fun hS => ?_)
      refine wpAnyH_take (i := 0) (v := .slice (some ⟨bA, 0, none⟩) N cA) rfl (by kernel_rfl) (by kernel_rfl) (by kernel_rfl) (fun _ _ _ h => h) (Or.inl ⟨by kernel_rfl, fun w' hS' => by clear hS'; go_simp⟩) hS ?_
      refine wpAnyH_take (i := 1) (v := .int .i64 (k : Int)) rfl (by kernel_rfl) (by kernel_rfl) (by kernel_rfl) (fun _ _ _ h => h) (Or.inl ⟨by kernel_rfl, fun w' hS' => by clear hS'; go_simp⟩) hS ?_
      refine wpAnyH_take (i := 2) (v := .pointer (some ⟨bA, k * 2, none⟩)) rfl (by kernel_rfl) (by kernel_rfl) (by kernel_rfl) (fun _ _ _ h => h) (Or.inl ⟨by kernel_rfl, fun w' hS' => by clear hS'; go_simp⟩) hS ?_
      refine wpAnyH_take (i := 3) (v := .pointer (some ⟨bA, k * 2, none⟩)) rfl (by kernel_rfl) (by kernel_rfl) (by kernel_rfl) (fun _ _ _ h => h) (Or.inl ⟨by kernel_rfl, fun w' hS' => by clear hS'; go_simp⟩) hS ?_
      refine wpAnyH_take (i := 4) (v := .slice p1 l1 c1) rfl (by kernel_rfl) (by kernel_rfl) (by kernel_rfl) (fun _ _ _ h => h) (Or.inl ⟨by kernel_rfl, fun w' hS' => by have h2 := hS'.1; clear hS'; go_simp⟩) hS ?_
      refine wpAnyH_take (i := 5) (v := .slice (some ⟨bB, 0, none⟩) N cB) rfl (by kernel_rfl) (by kernel_rfl) (by kernel_rfl) (fun _ _ _ h => h) (Or.inl ⟨by kernel_rfl, fun w' hS' => by clear hS'; go_simp⟩) hS ?_
      refine wpAnyH_take (i := 6) (v := .int .i64 (k : Int)) rfl (by kernel_rfl) (by kernel_rfl) (by kernel_rfl) (fun _ _ _ h => h) (Or.inl ⟨by kernel_rfl, fun w' hS' => by clear hS'; go_simp⟩) hS ?_
      refine wpAnyH_take (i := 7) (v := .pointer (some ⟨bB, k * 2, none⟩)) rfl (by kernel_rfl) (by kernel_rfl) (by kernel_rfl) (fun _ _ _ h => h) (Or.inl ⟨by kernel_rfl, fun w' hS' => by clear hS'; go_simp⟩) hS ?_
      refine wpAnyH_take (i := 8) (v := .pointer (some ⟨bB, k * 2, none⟩)) rfl (by kernel_rfl) (by kernel_rfl) (by kernel_rfl) (fun _ _ _ h => h) (Or.inl ⟨by kernel_rfl, fun w' hS' => by clear hS'; go_simp⟩) hS ?_
      refine wpAnyH_take (i := 9) (v := .slice p2 l2 c2) rfl (by kernel_rfl) (by kernel_rfl) (by kernel_rfl) (fun _ _ _ h => h) (Or.inl ⟨by kernel_rfl, fun w' hS' => by have h2 := hS'.2; clear hS'; go_simp⟩) hS ?_
      refine wpAnyH_ready (rs := [10]) (by kernel_rfl) (by simp) ?_
      refine AllReadyH.cons rfl (fun K9 hK9 => ?_) AllReadyH.nil
      go_simp
      refine HCall.out.mono ?_
      rintro e W3 ⟨rfl, hb3⟩
      replace hb3 := undrew hb3
      have hs5 : W3.cell? ⟨bA, k * 2, none⟩ = some (.slice p1 l1 c1) ∧ W3.cell? ⟨bB, k * 2, none⟩ = some (.slice p2 l2 c2) := ⟨(hb3.cell (p := ⟨bA, k * 2, none⟩) hs1).trans g1, (hb3.cell (p := ⟨bB, k * 2, none⟩) hs2).trans g3⟩
      have m1 : W3.cell? ⟨bA, k * 2 + 1, none⟩ = some (.int .i64 (m : Int)) := (hb3.cell (p := ⟨bA, k * 2 + 1, none⟩) hs1).trans g2
      have m2 : W3.cell? ⟨bB, k * 2 + 1, none⟩ = some (.int .i64 (m : Int)) := (hb3.cell (p := ⟨bB, k * 2 + 1, none⟩) hs2).trans g4
      have HB3 := hide (HBM.out.trans (hb3.mono HBM.out.size))
      refine hK9.out _ _ hs5 (fun hS => ?_)
      clear hK9 hb3
      refine wpAnyH_ready (rs := [11]) (by kernel_rfl) (by simp) ?_
      refine AllReadyH.cons rfl (fun K9 hK9 => ?_) AllReadyH.nil
      go_simp
      refine hK9.out _ _ hs5 (fun _ => ?_)
      clear hK9
      refine wpAnyH_done (by kernel_rfl) ?_ _
      have hmm : ((m : Int) != (m : Int)) = false := by simp
      clear hs5 g1 g2 g3 g4 HBM HCall
      go_wp2
      go_quiet (fail)
      have HB4 := hide (below_drewN HB3.out nq)
      go_wp2
      go_roundw
      case rel =>
        have hfin : ∃ (k' : Nat), k' ≤ N ∧ Value.int .i64 ((k : Int) + 1) = .int .i64 (k' : Int) ∧ Below w.heap.size w (W3.drewN nq) := ⟨k + 1, hlt, by go_num, HB4.out⟩
        first
          | exact hfin
          | ((repeat apply Exists.intro); exact ⟨hfin, rfl⟩)
      case measure => simp [intOf]; omega
    · obtain rfl : N = k := by omega
      go_wp2
      go_ret
      exact ⟨rfl, hbm⟩

end Go.Proofs.YtahffpgadoiijaaGreat

/- Contract: the law's colourList. -/
namespace Go.Proofs.YtahffpgadoiijaaGreat
open Go.RowKit
set_option linter.unusedVariables false

theorem pow_pos_of {n c k : Nat} (h1 : 1 ≤ n) (hk : k < c ^ n) : 1 ≤ c := by
  rcases Nat.eq_zero_or_pos c with rfl | h
  · rw [Nat.zero_pow h1] at hk; omega
  · exact h

/-- Patterns refuses. -/
def PNo (n : Int) (vg : Value) (c k : Int) (w : World) : Prop := ∀ W, Below w.heap.size w W → Calls Tryz.prog 41 #[.int .i64 n, vg, .int .i64 c] W fun e w' => e = .returned (.tuple #[.slice none 0 0, .int .i64 k]) ∧ Below W.heap.size W w'

set_option maxRecDepth 20000 in
set_option maxHeartbeats 2000000 in
theorem clist_bad (n : Int) (vg vR : Value) (c f : Int) (w : World) (hc : ¬ (0 ≤ c ∧ c ≤ 8)) (hv : ∃ p l c, vg = .slice p l c) (hr : ∃ p l c, vR = .slice p l c) :
    Calls Tryz.prog 15 #[.int .i64 n, vg, .int .i64 c, vR, .int .i64 f] w fun e w' => e = .returned (.bool true) ∧ Below w.heap.size w w' := by
  have HP := hide (patterns_bad n vg c w hc hv)
  obtain ⟨pv, lv, cv, rfl⟩ := hv
  obtain ⟨pr, lr, cr, rfl⟩ := hr
  by_cases h0 : c < 0
  · have g1 : decide (c < 0) = true := decide_eq_true h0
    clear hc
    go_enter Tryz.func15, Tryz.ntmps15
    go_wp2_with fail
    refine HP.out.mono ?_
    rintro e w1 ⟨rfl, hb⟩
    go_wp2
    go_ret
    exact ⟨rfl, hb⟩
  · have g1 : decide (c < 0) = false := decide_eq_false h0
    have g2 : decide (c > 8) = true := decide_eq_true (by omega)
    clear hc
    go_enter Tryz.func15, Tryz.ntmps15
    go_wp2_with fail
    refine HP.out.mono ?_
    rintro e w1 ⟨rfl, hb⟩
    go_wp2
    go_ret
    exact ⟨rfl, hb⟩

set_option maxRecDepth 20000 in
set_option maxHeartbeats 2000000 in
theorem clist_no (n : Int) (vg vR : Value) (c f : Int) (w : World) (hc : 0 ≤ c ∧ c ≤ 8) (hv : ∃ p l c, vg = .slice p l c) (hr : ∃ p l c, vR = .slice p l c) (hf : f ≠ 0)
    (hp : Calls Tryz.prog 41 #[.int .i64 n, vg, .int .i64 c] w fun e w' => e = .returned (.tuple #[.slice none 0 0, .int .i64 f]) ∧ Below w.heap.size w w') :
    Calls Tryz.prog 15 #[.int .i64 n, vg, .int .i64 c, vR, .int .i64 f] w fun e w' => e = .returned (.bool true) ∧ Below w.heap.size w w' := by
  have HP := hide hp
  obtain ⟨pv, lv, cv, rfl⟩ := hv
  obtain ⟨pr, lr, cr, rfl⟩ := hr
  have g1 : decide (c < 0) = false := decide_eq_false (by omega)
  have g2 : decide (c > 8) = false := decide_eq_false (by omega)
  have g3 : (f == 0) = false := beq_eq_false_iff_ne.2 hf
  have g4 : (f != 0) = true := by rw [bne_iff_ne]; exact hf
  clear hc hp hf
  go_enter Tryz.func15, Tryz.ntmps15
  go_wp2_with fail
  refine HP.out.mono ?_
  rintro e w1 ⟨rfl, hb⟩
  go_wp2
  go_ret
  exact ⟨rfl, hb⟩

/-- The first ones, as the answer looks for them. -/
def wantN (n c : Nat) (rows : List (List Int)) (k : Nat) : List (List Int) := ((List.range k).filter (fun j => isF (colL n c j) rows)).map (colL n c)

theorem wantN_yes {n c k : Nat} {rows : List (List Int)} (h : isF (colL n c k) rows = true) : wantN n c rows (k + 1) = wantN n c rows k ++ [colL n c k] := by
  unfold wantN
  rw [List.range_succ, List.filter_append, List.map_append]
  congr 1
  simp [h]

theorem wantN_no {n c k : Nat} {rows : List (List Int)} (h : isF (colL n c k) rows = false) : wantN n c rows (k + 1) = wantN n c rows k := by
  unfold wantN
  rw [List.range_succ, List.filter_append, List.filter_cons_of_neg (by simpa using h), List.filter_nil, List.append_nil]

theorem wantN_len (n c : Nat) (rows : List (List Int)) (k : Nat) : (wantN n c rows k).length ≤ k := by
  unfold wantN
  rw [List.length_map]
  exact Nat.le_trans (List.length_filter_le _ _) (by rw [List.length_range]; exact Nat.le_refl _)

theorem want_eq {n c : Nat} {gss : List (List Int)} {X : List Pm} (h12 : n ≤ 12) (h1 : 1 ≤ n) (hR : RowsN n gss) (hX : X.Nodup) (hm : ∀ x, x ∈ X ↔ Gen (fun y => y ∈ gss.map pad) x) : (frN n c gss (c ^ n)).map (colL n c) = wantN n c (X.map (cut n)) (c ^ n) := by
  rcases Nat.eq_zero_or_pos c with rfl | hc
  · rw [Nat.zero_pow h1]; rfl
  · unfold wantN
    rw [frN_eq h12 hc hR hX hm]
    congr 1
    refine List.filter_congr (fun k hk => ?_)
    rw [isF_col h12 hc (List.mem_range.1 hk) (X := X) (fun y => by rw [List.mem_map]; exact ⟨fun ⟨x, a, b⟩ => ⟨x, a, b.symm⟩, fun ⟨x, a, b⟩ => ⟨x, a, b.symm⟩⟩)]

set_option maxRecDepth 20000 in
set_option maxHeartbeats 8000000 in
theorem clist_ok (n c : Nat) (vg vR : Value) (gss : List (List Int)) (X : List Pm) (w : World) (hA : IntsAll w vg gss) (hI : IntsAll w vR (X.map (cut n))) (hR : RowsN n gss) (h1 : 1 ≤ n) (h12 : n ≤ 12) (h8 : gss.length ≤ 8) (hc8 : c ≤ 8) (hX : X.Nodup) (hm : ∀ x, x ∈ X ↔ Gen (fun y => y ∈ gss.map pad) x) (hsz : ¬ 5040 < sz (Gen (fun y => y ∈ gss.map pad)) n) (hXl : X.length ≤ 5040) :
    Calls Tryz.prog 15 #[.int .i64 (n : Int), vg, .int .i64 (c : Int), vR, .int .i64 0] w fun e w' => e = .returned (.bool true) ∧ Below w.heap.size w w' := by
  obtain ⟨i0, hi, hz0, hz1, hz2⟩ := info_parts Tryz.info22
  have HP := hide (patterns_ok n c vg gss w hA hR h1 h12 h8 hc8)
  have HPw : Hid (∀ W, Calls Tryz.prog 40 #[.int .i64 (c : Int), .int .i64 (n : Int)] W fun e w' => e = .returned (.int .i64 ((c ^ n : Nat) : Int)) ∧ W = w') := fun W => rpower_ok c n W hc8 h12
  have hpl := pow_le12 hc8 h12
  have g1 : decide ((c : Int) < 0) = false := decide_eq_false (by omega)
  have g2 : decide ((c : Int) > 8) = false := decide_eq_false (by omega)
  have HP1 : Hid (5040 < c ^ n → ∀ e w', PtPost n c gss w e w' → e = .returned (.tuple #[.slice none 0 0, .int .i64 3]) ∧ Below w.heap.size w w') := fun h e w' hp => by
    obtain ⟨a, b⟩ := hp
    rw [if_pos (Or.inr h)] at b
    exact ⟨b, a⟩
  have HP2 : Hid (¬ 5040 < c ^ n → ∀ e w', PtPost n c gss w e w' → ∃ (p : Option Addr) (l q : Nat), e = .returned (.tuple #[.slice p l q, .int .i64 0]) ∧ IntsAll w' (.slice p l q) (wantN n c (X.map (cut n)) (c ^ n)) ∧ Below w.heap.size w w') := fun h e w' hp => by
    obtain ⟨a, b⟩ := hp
    rw [if_neg (by omega)] at b
    obtain ⟨v, vs, e1, hL⟩ := b
    have h5 := hL.ints
    rw [want_eq h12 h1 hR hX hm] at h5
    obtain ⟨p, q, e2⟩ := owns_slice hL.row
    subst e2
    exact ⟨p, _, q, e1, h5, a⟩
  have HFix : Hid (RowsN n (X.map (cut n))) := fun y hy => by
    obtain ⟨x, hx, rfl⟩ := List.mem_map.1 hy
    exact ⟨cut_row h12 (gens_fix h12 hR ((hm x).1 hx)), cut_length h12 x⟩
  have HCo : Hid (∀ (k : Nat) (W : World), k < c ^ n → Calls Tryz.prog 42 #[.int .i64 (n : Int), .int .i64 (c : Int), .int .i64 (k : Int)] W fun e w' => ∃ u, e = .returned u ∧ w'.ownsRow W.heap.size 3 1 u n ((colL n c k).map (Value.int .i64)) ∧ Below W.heap.size W w') := fun k W hk => rcolouring_ok n c k W h12 (pow_pos_of h1 hk) hc8 (by omega)
  have HIF : Hid (∀ (k : Nat) (u : Value) (W : World), Ints W u (colL n c k) → Below w.heap.size w W → Calls Tryz.prog 43 #[u, vR] W fun e w' => e = .returned (.bool (isF (colL n c k) (X.map (cut n)))) ∧ Below W.heap.size W w') := fun k u W hu hW => risFirst_ok n u vR _ _ W hu (hI.below hW) (colL_length n c k) h1 h12 HFix.out (by rw [List.length_map]; omega)
  have HSA : Hid (∀ (v1 v2 : Value) (W : World), IntsAll W v1 (wantN n c (X.map (cut n)) (c ^ n)) → IntsAll W v2 (wantN n c (X.map (cut n)) (c ^ n)) → Calls Tryz.prog 44 #[v1, v2] W fun e w' => e = .returned (.bool true) ∧ Below W.heap.size W w') := fun v1 v2 W a b => by have h9 := sameAll_any v1 v2 _ _ W a b; rwa [decide_eq_true rfl] at h9
  have HWl := hide (wantN_len n c (X.map (cut n)))
  have HW0 : Hid (wantN n c (X.map (cut n)) 0 = []) := rfl
  have HCL : Hid (∀ k, (colL n c k).length = n) := colL_length n c
  obtain ⟨pv, cv, ev⟩ := hA.len
  obtain ⟨pr, cr, er⟩ := hI.len
  subst ev; subst er
  generalize gss.length = gl at *
  generalize (X.map (cut n)).length = rl at *
  generalize hRR : X.map (cut n) = RR at *
  generalize hAA : c ^ n = A at *
  clear hA hI hR hX hm hXl hsz hRR hAA HFix
  by_cases h5 : 5040 < A
  · have q1 : decide ((A : Int) > 700) = true := decide_eq_true (by omega)
    have q2 : decide ((A : Int) < 5041) = false := decide_eq_false (by omega)
    have q3 : decide ((A : Int) > 5040) = true := decide_eq_true (by omega)
    have HPB := hide (HP1.out h5)
    clear HP1 HP2
    go_enter Tryz.func15, Tryz.ntmps15
    go_wp2_with fail
    refine (HPw.out _).mono ?_
    rintro e w1 ⟨rfl, rfl⟩
    go_wp2_with fail
    refine (HPw.out _).mono ?_
    rintro e w1 ⟨rfl, rfl⟩
    go_wp2_with fail
    refine (HPw.out _).mono ?_
    rintro e w1 ⟨rfl, rfl⟩
    go_wp2_with fail
    refine HP.out.mono ?_
    intro e w1 hpo
    obtain ⟨rfl, hb1⟩ := HPB.out e w1 hpo
    clear hpo
    go_wp2
    go_ret
    exact ⟨rfl, hb1⟩
  · have q3 : decide ((A : Int) > 5040) = false := decide_eq_false (by omega)
    by_cases h7 : 700 < A
    · have q1 : decide ((A : Int) > 700) = true := decide_eq_true (by omega)
      have q2 : decide ((A : Int) < 5041) = true := decide_eq_true (by omega)
      go_enter Tryz.func15, Tryz.ntmps15
      go_wp2_with fail
      refine (HPw.out _).mono ?_
      rintro e w1 ⟨rfl, rfl⟩
      go_wp2_with fail
      refine (HPw.out _).mono ?_
      rintro e w1 ⟨rfl, rfl⟩
      go_wp2
      go_ret
      exact ⟨rfl, Below.refl _ _⟩
    · have q1 : decide ((A : Int) > 700) = false := decide_eq_false (by omega)
      have HPG := hide (HP2.out h5)
      clear HP1 HP2
      go_enter Tryz.func15, Tryz.ntmps15
      go_wp2_with fail
      refine (HPw.out _).mono ?_
      rintro e w1 ⟨rfl, rfl⟩
      go_wp2_with fail
      refine (HPw.out _).mono ?_
      rintro e w1 ⟨rfl, rfl⟩
      go_wp2_with fail
      refine HP.out.mono ?_
      intro e w1 hpo
      obtain ⟨pp, lp, qp, rfl, hIP, hb1⟩ := HPG.out e w1 hpo
      have HIP := hide hIP
      have HB1 := hide hb1
      clear hpo HPG HP hIP hb1
      go_wp2
      go_loopw [13, 14] (fun sv si wr => ∃ (k : Nat) (vs : List Value), k ≤ A ∧ si = .int .i64 (k : Int) ∧ Hid (LL wr w1.heap.size sv vs (wantN n c RR k)) ∧ Below w1.heap.size w1 wr) (fun _ si _ => A - (intOf si).toNat)
      case atStart => exact ⟨0, [], Nat.zero_le _, rfl, (by rw [HW0.out]; exact LL.nil _ _), Below.refl _ _⟩
      case round =>
        obtain ⟨k, vs, hk, rfl, hL, hbm⟩ := hrel
        obtain ⟨pw, cw, ew⟩ := owns_slice hL.out.row
        subst ew
        have hvl : vs.length ≤ 700 := by have h9 := hL.out.len; have h10 := HWl.out k; omega
        generalize hvn : vs.length = vn at *
        have HVN := hide hvn
        clear hvn
        by_cases hlt : k < A
        · have HC := hide (HCo.out k wr hlt)
          have HBM := hide hbm
          clear hbm
          go_wp2_with fail
          refine (HPw.out _).mono ?_
          rintro e w2 ⟨rfl, rfl⟩
          go_wp2_with fail
          refine HC.out.mono ?_
          rintro e w2 ⟨u2, rfl, hown2, hb2⟩
          have HL2 := hide (hL.out.below hb2)
          have HO2 := hide (owns_base hown2 HBM.out.size)
          have HB2 := hide (HBM.out.trans (hb2.mono HBM.out.size))
          have HI2 := hide (HIF.out k u2 w2 (Ints.own hown2) (HB1.out.trans (HB2.out.mono HB1.out.size)))
          obtain ⟨p2, c2, e2⟩ := owns_slice hown2
          subst e2
          clear hown2 hb2 HC hL HBM
          go_wp2_with fail
          refine HI2.out.mono ?_
          rintro e w3 ⟨rfl, hb3⟩
          have HL3 := hide (HL2.out.below hb3)
          have HO3 := hide (owns_below HO2.out hb3 (Nat.le_refl _))
          have hB3 := HB2.out.trans (hb3.mono HB2.out.size)
          have hrow3 := HL3.out.row
          rw [HVN.out] at hrow3
          have hs3 := hB3.size
          clear hb3 HI2 HL2 HO2 HB2
          cases hif : isF (colL n c k) RR with
          | false =>
            have HWn : Hid (LL w3 w1.heap.size (.slice pw vn cw) vs (wantN n c RR (k + 1))) := by rw [wantN_no hif]; exact HL3.out
            clear hif hrow3
            go_wp2
            go_roundw
            case rel => exact ⟨k + 1, vs, hlt, by go_num, HWn, hB3⟩
            case measure => simp [intOf]; omega
          | true =>
            have HWy := hide (wantN_yes hif)
            clear hif
            go_wp2_with (at_builtin; refine wpList_append_own _ rfl _ _ 25 rfl w1.heap.size 22 i0 (.slice none 0 0) 1 24 Tryz.underlying25 hi hz0 hz1 hz2 rfl (by decide) _ _ _ rfl (hrow3.alloc _) ⟨w3.heap.size, 0, none⟩ 1 1 [.slice p2 n c2] rfl rfl ?c1 ?c2 ?c3 ?c4 ?c5 ?_)
            case c1 => exact cell_one_new _ _ _
            case c2 => intro u hu; simp at hu; subst hu; rfl
            case c3 => unfold maxLen; omega
            case c4 => omega
            case c5 => simp; omega
            intro v4 w4 hown4 hg4 _
            have HL4 : Hid (LL w4 w1.heap.size v4 (vs ++ [.slice p2 n c2]) (wantN n c RR (k + 1))) := by
              show LL _ _ _ _ _
              rw [HWy.out]
              exact HL3.out.push (by rw [HCL.out]; exact HO3.out) (by rw [HVN.out]; exact hown4) hg4
            have hB4 := HL3.out.step hB3 (Nat.le_refl _) (by omega) hg4
            obtain ⟨p4, c4, e4⟩ := owns_slice hown4
            subst e4
            clear hown4 hg4 hrow3 HL3 hB3 HO3
            go_wp2
            go_roundw
            case rel => exact ⟨k + 1, _, hlt, by go_num, HL4, hB4⟩
            case measure => simp [intOf]; omega
        · obtain rfl : A = k := by omega
          have HS := hide (HSA.out _ _ wr (HIP.out.below hbm) hL.out.ints)
          have HBM := hide (HB1.out.trans (hbm.mono HB1.out.size))
          clear hL hbm HIP
          go_wp2_with fail
          refine (HPw.out _).mono ?_
          rintro e w2 ⟨rfl, rfl⟩
          go_wp2_with fail
          refine HS.out.mono ?_
          rintro e w2 ⟨rfl, hb2⟩
          have hB2 := HBM.out.trans (hb2.mono HBM.out.size)
          clear hb2
          go_wp2
          go_ret
          exact ⟨rfl, hB2⟩

end Go.Proofs.YtahffpgadoiijaaGreat
