/- Joined: TtB, Srt, SrtB, SrtC, TrF, TtF, TtR, Course, MethOf, LdR, SbX, SbY. -/
import Derived.Test.YtoiiadiimfohiaaJ7
import Derived.Test.YtoiiadiimfohiaaJ8
import Derived.Test.YtoiiadiimfohiaaJ0
import Derived.Shelf.SlSortCmp.Whole1
import Derived.Test.YtoiiadiimfohiaaJ10
import Derived.Test.YtoiiadiimfohiaaJ5
import Derived.Shelf.SlSortCmp.NoneTotal
import Derived.Test.YtoiiadiimfohiaaJ3
import Derived.Test.YtoiiadiimfohiaaJ9
import Derived.Test.YtoiiadiimfohiaaJ6
import Derived.Test.YtoiiadiimfohiaaJ11
/- Contract: truth.meet. -/
namespace Go.Proofs.Ytoiiadiimfohiaa
open Go.RowKit Go.Maps

/-- What the map tells of a list of rows. -/
def InM (n : Nat) (X : List (List Int)) (f : List Int → Option Value) : Prop := ∀ x, Rw n x → ((f (kp x)).isSome = true ↔ x ∈ X)

theorem InM.add {n : Nat} {X : List (List Int)} {f : List Int → Option Value} (h : InM n X f) {r : List Int} (hr : Rw n r) (v : Value) : InM n (X ++ [r]) (kupd f (kp r) v) := by
  intro x hx
  unfold kupd
  rw [List.mem_append, List.mem_singleton]
  by_cases e : kp x = kp r
  · rw [if_pos e]
    have : x = r := kp_inj hx.len hr.len e
    simp [this]
  · rw [if_neg e, h x hx]
    exact ⟨Or.inl, fun h1 => h1.resolve_right (fun h2 => e (by rw [h2]))⟩

/-- No two of the first p heads and those behind are one of X apart. -/
def NoMeet (Hs X : List (List Int)) (p : Nat) : Prop := ∀ a b, a < p → a < b → b < Hs.length → by_ (un (Hs.getD a [])) (Hs.getD b []) ∉ X

theorem noMeet_all {Hs X : List (List Int)} (h : NoMeet Hs X Hs.length) : Hs.Pairwise (fun h h' => by_ (un h) h' ∉ X) := by
  rw [List.pairwise_iff_getElem]
  intro i j hi hj hij
  have := h i j hi hij hj
  simpa [List.getD, List.getElem?_eq_getElem hi, List.getElem?_eq_getElem hj] using this

theorem meet_not {Hs X : List (List Int)} {i j : Nat} (hij : i < j) (hj : j < Hs.length) (h : by_ (un (Hs.getD i [])) (Hs.getD j []) ∈ X) : ¬ Hs.Pairwise (fun h h' => by_ (un h) h' ∉ X) := by
  intro hp
  rw [List.pairwise_iff_getElem] at hp
  have := hp i j (by omega) hj hij
  refine this ?_
  simpa [List.getD, List.getElem?_eq_getElem (show i < Hs.length by omega), List.getElem?_eq_getElem hj] using h

def MeetPost (Hs X : List (List Int)) (w : World) (e : Ending) (w' : World) : Prop :=
  ∃ t : Bool, e = .returned (.bool t) ∧ (t = false ↔ Hs.Pairwise (fun h h' => by_ (un h) h' ∉ X)) ∧ Below w.heap.size w w'

set_option maxRecDepth 20000 in
set_option maxHeartbeats 8000000 in
theorem meet_ok (n : Nat) (v1 v2 : Value) (Hs X : List (List Int)) (w : World) (hv1 : IntsAll w v1 Hs) (hv2 : IntsAll w v2 X) (h1 : 1 ≤ n) (h12 : n ≤ 12) (hH : ∀ r, r ∈ Hs → Rw n r) (hX : ∀ r, r ∈ X → Rw n r) (hl1 : 1 ≤ Hs.length) (hl2 : Hs.length ≤ 1000) (hx2 : X.length ≤ 40000) :
    Calls Try.prog 30 #[v1, v2] w (MeetPost Hs X w) := by
  have hmm := @run_makeMap Try.prog
  obtain ⟨b, off, cap, rfl, hb, hlc, hcm, hcell⟩ := hv1.cell hl1
  have HC := hide hcell
  have HH : Hid (∀ k, k < Hs.length → Rw n (Hs.getD k [])) := fun k hk => hH _ (by rw [List.getD_eq_getElem?_getD, List.getElem?_eq_getElem hk]; exact List.getElem_mem hk)
  have HX : Hid (∀ k, k < X.length → Rw n (X.getD k [])) := fun k hk => hX _ (by rw [List.getD_eq_getElem?_getD, List.getElem?_eq_getElem hk]; exact List.getElem_mem hk)
  obtain ⟨xp, xc, rfl⟩ := hv2.len
  have HV2 := hide hv2
  clear hv1 hcell hH hX hv2
  have HM0 : Hid (KMap 101 .i64 (w.alloc (.map #[] 0)) w.heap.size 0 (fun _ => none)) := KMap.made _ _ w
  go_enter Try.func30, Try.ntmps30
  go_wp2
  go_loopw [21] (fun i wr => ∃ (k : Nat) (f : List Int → Option Value), k ≤ X.length ∧ i = .int .i64 k ∧ Hid (KMap 101 .i64 wr w.heap.size k f) ∧ Hid (InM n (X.take k) f) ∧ Hid (Below w.heap.size w wr)) (fun i _ => X.length - (intOf i).toNat)
  case atStart => exact ⟨0, fun _ => none, by omega, rfl, HM0, (fun x _ => ⟨(fun h => by cases h), (fun h => by simp at h)⟩), (Below.refl _ _).alloc (Nat.le_refl _) _⟩
  case round =>
    clear HM0
    obtain ⟨k, f, hk, rfl, hM, hI, hbl⟩ := hrel
    have hbw := hbl.out
    have hbs := hbw.size
    by_cases hlt : k < X.length
    · obtain ⟨b2, off2, cap2, he, hb2, hlc2, hcm2, hcell2⟩ := HV2.out.cell (by omega)
      simp only [Value.slice.injEq] at he
      obtain ⟨rfl, he2, rfl⟩ := he
      clear he2
      obtain ⟨p, c, hce, hint⟩ := hcell2 k hlt
      have hRw := HX.out k hlt
      have gp : wr.cell? ⟨b2, off2 + k, none⟩ = some (.slice p (X.getD k []).length c) := (hbw.cell (by exact hb2)).trans hce
      have HKO := hide (keyOf_ok _ _ wr (hint.out.below hbw) (by rw [hRw.len]; exact h1) (by rw [hRw.len]; exact h12))
      have hok := kp_ok h12 hRw
      have HAD := hide (fun v => hI.out.add hRw v)
      have HTK : Hid (X.take (k + 1) = X.take k ++ [X.getD k []]) := by
        show _ = _
        rw [List.take_add_one, List.getElem?_eq_getElem hlt]; simp [List.getD, List.getElem?_eq_getElem hlt]
      clear hce hint hcell2 hRw hI
      generalize X.getD k [] = R at *
      generalize R.length = rl at *
      have hMl := hM.out.lt
      go_wp2_with fail
      refine HKO.out.mono ?_
      rintro e w1 ⟨rfl, hb1⟩
      have hbs1 := hb1.size
      have hM1 := hM.out.below hb1 hMl
      obtain ⟨w2, hput, hM2, hg2⟩ := hM1.put keyT Try.underlying99 (show k < maxLen by unfold maxLen; omega) hok (.int .i64 (k : Int))
      have HM2 := hide hM2
      have HI2 : Hid (InM n (X.take (k + 1)) (kupd f (kp R) (.int .i64 (k : Int)))) := by
        show InM _ _ _
        rw [HTK.out]; exact HAD.out _
      have HB2 : Hid (Below w.heap.size w w2) := (hbw.trans (hb1.mono hbs)).grown hg2 ((hbw.trans (hb1.mono hbs)).size) (fun g hg => by cases hg; exact Nat.le_refl _)
      clear hM1 hM2 hg2 hb1 hM hbl hbw HKO HAD HTK
      go_wp2
      go_roundw
      case rel => exact ⟨k + 1, _, by omega, by go_num, HM2, HI2, HB2⟩
      case measure => simp [intOf]; omega
    · have HIX : Hid (InM n X f) := by
        have h9 := hI.out
        rw [List.take_of_length_le (by omega)] at h9
        exact h9
      have HMX := hide hM.out
      have HBX := hide hbw
      clear hM hI hbl hbw HV2 HX
      go_wp2
      clear hlt hk hx2
      go_loopw [33] (fun i wr => ∃ (p : Nat), p ≤ Hs.length ∧ i = .int .i64 p ∧ Hid (KMap 101 .i64 wr w.heap.size k f) ∧ Hid (NoMeet Hs X p) ∧ Hid (Below w.heap.size w wr)) (fun i _ => Hs.length - (intOf i).toNat)
      case atStart => exact ⟨0, by omega, rfl, HMX, (fun a b h => absurd h (Nat.not_lt_zero _)), HBX⟩
      case round =>
        clear HMX HBX
        obtain ⟨p, hp, rfl, hM, hN, hbl⟩ := hrel
        have hbw := hbl.out
        have hbs := hbw.size
        by_cases hlt : p < Hs.length
        · obtain ⟨p1, c1, hce, hint⟩ := HC.out p hlt
          have hRw := HH.out p hlt
          have gp : wr.cell? ⟨b, off + p, none⟩ = some (.slice p1 (Hs.getD p []).length c1) := (hbw.cell (by exact hb)).trans hce
          have hBK := back_own _ _ wr (hint.out.below hbw) hRw.row (by rw [hRw.len]; exact h1) (by rw [hRw.len]; exact h12)
          have HU : Hid (∀ zs, Undoes zs (Hs.getD p []) → zs = un (Hs.getD p [])) := fun zs h => undoes_un hRw.row h
          have HUR := hide hRw.un
          rw [hRw.len] at hBK gp
          have HBK := hide hBK
          have HUN : Hid (∃ U, U = un (Hs.getD p [])) := ⟨_, rfl⟩
          have hMl := hM.out.lt
          clear hce hint hRw hBK
          go_wp2_with fail
          refine HBK.out.mono ?_
          rintro e w2 ⟨bv, zs, rfl, hbo, hun, hb2⟩
          have HZU := hide (HU.out zs hun)
          have HZR : Hid (Rw n zs) := by show Rw n zs; rw [HZU.out]; exact HUR.out
          have HBO := hide (owns_base hbo hbs)
          obtain ⟨bp, bc, rfl⟩ := owns_slice hbo
          have HM2 := hide (hM.out.below hb2 hMl)
          have HB2 : Hid (Below w.heap.size w w2) := hbw.trans (hb2.mono hbs)
          clear hbo hun HBK HU hM hbl hb2
          have HNX : Hid (∀ j0, (∀ j, j < j0 → by_ zs (Hs.getD (p + 1 + j) []) ∉ X) → Hs.length - (p + 1) ≤ j0 → NoMeet Hs X (p + 1)) := by
            intro j0 h3 h4 x y hx hy hyl
            rcases Nat.lt_succ_iff_lt_or_eq.1 hx with hx | hx
            · exact hN.out x y hx hy hyl
            · subst hx
              have h5 := h3 (y - (x + 1)) (by omega)
              rw [show x + 1 + (y - (x + 1)) = y from by omega, HZU.out] at h5
              exact h5
          by_cases hcap : p + 1 < cap
          · go_wp2
            go_loopw [48] (fun i wl => ∃ (q : Nat), q ≤ Hs.length - (p + 1) ∧ i = .int .i64 q ∧ Hid (KMap 101 .i64 wl w.heap.size k f) ∧ Hid (∀ j, j < q → by_ zs (Hs.getD (p + 1 + j) []) ∉ X) ∧ Hid (Below w.heap.size w wl) ∧ Hid (wl.ownsRow w.heap.size 3 1 (.slice bp n bc) n (zs.map (Value.int .i64)))) (fun i _ => Hs.length - (p + 1) - (intOf i).toNat)
            case atStart => exact ⟨0, by omega, rfl, HM2, (fun j h => absurd h (Nat.not_lt_zero _)), HB2, HBO⟩
            case round =>
              clear HM2 HB2 HBO
              obtain ⟨q, hq, rfl, hM3, hN3, hbl3, hBO3⟩ := hrel
              have hbw3 := hbl3.out
              have hbs3 := hbw3.size
              by_cases hlt3 : q < Hs.length - (p + 1)
              · obtain ⟨p3, c3, hce, hint⟩ := HC.out (p + 1 + q) (by omega)
                have hRq := HH.out (p + 1 + q) (by omega)
                have gq : wr.cell? ⟨b, off + (p + 1) + q, none⟩ = some (.slice p3 (Hs.getD (p + 1 + q) []).length c3) := by
                  rw [show off + (p + 1) + q = off + (p + 1 + q) from by omega]
                  exact (hbw3.cell (by exact hb)).trans hce
                have hT := times_own _ _ zs (Hs.getD (p + 1 + q) []) wr (Ints.own hBO3.out) (hint.out.below hbw3) HZR.out.row hRq.row (by rw [HZR.out.len]; exact h1) (by rw [HZR.out.len]; exact h12) (by rw [HZR.out.len, hRq.len])
                have hHr : Rw n (by_ zs (Hs.getD (p + 1 + q) [])) := HZR.out.by hRq
                rw [HZR.out.len] at hT
                rw [hRq.len] at gq
                rw [hRq.len] at hT
                have HT := hide hT
                have HMT : Hid (by_ zs (Hs.getD (p + 1 + q) []) ∈ X → ¬ Hs.Pairwise (fun h h' => by_ (un h) h' ∉ X)) := fun h => meet_not (i := p) (j := p + 1 + q) (by omega) (by omega) (by rw [← HZU.out]; exact h)
                have HNJ : Hid (by_ zs (Hs.getD (p + 1 + q) []) ∉ X → ∀ j, j < q + 1 → by_ zs (Hs.getD (p + 1 + j) []) ∉ X) := by
                  intro h9 j hj
                  rcases Nat.lt_succ_iff_lt_or_eq.1 hj with hj | rfl
                  · exact hN3.out j hj
                  · exact h9
                have HF := hide (HIX.out _ hHr)
                have hok := kp_ok h12 hHr
                have HHR := hide hHr
                have hMl3 := hM3.out.lt
                clear hce hint hRq hT hHr
                generalize by_ zs (Hs.getD (p + 1 + q) []) = D at *
                go_wp2_with fail
                refine HT.out.mono ?_
                rintro e w5 ⟨dv, rfl, hown5, hb5⟩
                have HKO := hide (keyOf_ok dv D w5 (Ints.own hown5) (by rw [HHR.out.len]; exact h1) (by rw [HHR.out.len]; exact h12))
                obtain ⟨dp, dc, rfl⟩ := owns_slice hown5
                have hM5 := hM3.out.below hb5 hMl3
                have hB5 : Below w.heap.size w w5 := hbw3.trans (hb5.mono hbs3)
                have hBO5 := owns_below hBO3.out hb5 (Nat.le_refl _)
                have hMl5 := hM5.lt
                clear hown5 HT hM3 hbl3 hBO3 hb5
                go_wp2_with fail
                refine HKO.out.mono ?_
                rintro e w6 ⟨rfl, hb6⟩
                have hM6 := hM5.below hb6 hMl5
                have hB6 : Below w.heap.size w w6 := hB5.trans (hb6.mono hB5.size)
                have HBO6 := hide (owns_below hBO5 hb6 (Nat.le_refl _))
                have hlook := hM6.look_ok keyT Try.underlying99 (Try.zero3 w6) hok
                have HM6 := hide hM6
                clear hM5 hBO5 hb6 hM6 HKO
                cases hf : f (kp D) with
                | some u =>
                  rw [hf] at hlook
                  have HP : Hid (MeetPost Hs X w (.returned (.bool true)) w6) := ⟨true, rfl, ⟨(fun h => by cases h), fun h => absurd h (HMT.out (HF.out.1 (by rw [hf]; rfl)))⟩, hB6⟩
                  clear hf HM6 HBO6
                  go_wp2
                  go_ret
                  exact HP.out
                | none =>
                  rw [hf] at hlook
                  have HN6 := hide (HNJ.out (fun h => by have := HF.out.2 h; rw [hf] at this; cases this))
                  have HB6 := hide hB6
                  clear hf hB6
                  go_wp2
                  go_roundw
                  case rel => exact ⟨q + 1, by omega, by go_num, HM6, HN6, HB6, HBO6⟩
                  case measure => simp [intOf]; omega
              · have HN4 := hide (HNX.out q hN3.out (by omega))
                have HM4 := hide hM3.out
                have HB4 := hide hbw3
                clear hM3 hN3 hbl3 hBO3 HNX hN
                go_wp2
                go_roundw
                case rel => exact ⟨p + 1, by omega, by go_num, HM4, HN4, HB4⟩
                case measure => simp [intOf]; omega
          · obtain rfl : cap = p + 1 := by omega
            clear hcap
            go_wp2
            go_loopw [48] (fun i wl => ∃ (q : Nat), q ≤ Hs.length - (p + 1) ∧ i = .int .i64 q ∧ Hid (KMap 101 .i64 wl w.heap.size k f) ∧ Hid (∀ j, j < q → by_ zs (Hs.getD (p + 1 + j) []) ∉ X) ∧ Hid (Below w.heap.size w wl)) (fun i _ => Hs.length - (p + 1) - (intOf i).toNat)
            case atStart => exact ⟨0, by omega, rfl, HM2, (fun j h => absurd h (Nat.not_lt_zero _)), HB2⟩
            case round =>
              clear HM2 HB2 HBO
              obtain ⟨q, hq, rfl, hM3, hN3, hbl3⟩ := hrel
              have hlt3 : ¬ q < Hs.length - (p + 1) := by omega
              have HN4 := hide (HNX.out q hN3.out (by omega))
              have HM4 := hide hM3.out
              have HB4 := hide hbl3.out
              clear hM3 hN3 hbl3 HNX hN
              go_wp2
              go_roundw
              case rel => exact ⟨p + 1, by omega, by go_num, HM4, HN4, HB4⟩
              case measure => simp [intOf]; omega
        · have HP : Hid (MeetPost Hs X w (.returned (.bool false)) wr) := by
            have hpe : p = Hs.length := by omega
            have h9 := hN.out
            rw [hpe] at h9
            exact ⟨false, rfl, ⟨fun _ => noMeet_all h9, fun _ => rfl⟩, hbw⟩
          clear hM hN hbl
          go_wp2
          go_ret
          exact HP.out

end Go.Proofs.Ytoiiadiimfohiaa

/- slices.SortFunc over lists of lists, off the library's shelf: what it leans on. -/
namespace Go.Proofs.Ytoiiadiimfohiaa
open Go.RowKit Go.Shelf

def rnS : Go.Shelf.Ren := ⟨fun x => match x with | 6 => 33 | 14 => 61 | 15 => 62 | 20 => 81 | 21 => 82 | 22 => 83 | 23 => 84 | 24 => 85 | 25 => 86 | 26 => 87 | 27 => 88 | 28 => 89 | 29 => 90 | 46 => 106 | 47 => 107 | 48 => 108 | 49 => 109 | 50 => 110 | 57 => 114 | y => y,
  fun x => match x with | 0 => 0 | 3 => 3 | 4 => 4 | 5 => 5 | 9 => 9 | 22 => 22 | 24 => 26 | 25 => 65 | 39 => 108 | 45 => 123 | 46 => 124 | 50 => 74 | 53 => 130 | 55 => 132 | 66 => 142 | 70 => 146 | 76 => 150 | 77 => 133 | y => y, fun x => x⟩

theorem laysS : Go.Proofs.SlLaysF.n6 Try.prog rnS where
  mixed := by kernel_rfl
  f6 := ⟨ "slices.SortFunc[[][]int,[]int]", by kernel_rfl, by kernel_rfl⟩
  f14 := ⟨ "slices.pdqsortCmpFunc[[]int]", by kernel_rfl, by kernel_rfl⟩
  f15 := by kernel_rfl
  f20 := ⟨ "slices.insertionSortCmpFunc[[]int]", by kernel_rfl, by kernel_rfl⟩
  f21 := ⟨ "slices.heapSortCmpFunc[[]int]", by kernel_rfl, by kernel_rfl⟩
  f22 := ⟨ "slices.breakPatternsCmpFunc[[]int]", by kernel_rfl, by kernel_rfl⟩
  f23 := ⟨ "slices.choosePivotCmpFunc[[]int]", by kernel_rfl, by kernel_rfl⟩
  f24 := ⟨ "slices.reverseRangeCmpFunc[[]int]", by kernel_rfl, by kernel_rfl⟩
  f25 := ⟨ "slices.partialInsertionSortCmpFunc[[]int]", by kernel_rfl, by kernel_rfl⟩
  f26 := ⟨ "slices.partitionEqualCmpFunc[[]int]", by kernel_rfl, by kernel_rfl⟩
  f27 := ⟨ "slices.partitionCmpFunc[[]int]", by kernel_rfl, by kernel_rfl⟩
  f28 := by kernel_rfl
  f29 := by kernel_rfl
  f46 := ⟨ "slices.siftDownCmpFunc[[]int]", by kernel_rfl, by kernel_rfl⟩
  f47 := by kernel_rfl
  f48 := by kernel_rfl
  f49 := ⟨ "slices.medianAdjacentCmpFunc[[]int]", by kernel_rfl, by kernel_rfl⟩
  f50 := ⟨ "slices.medianCmpFunc[[]int]", by kernel_rfl, by kernel_rfl⟩
  f57 := ⟨ "slices.order2CmpFunc[[]int]", by kernel_rfl, by kernel_rfl⟩
  t0 := by kernel_rfl
  a0 := fun w => by kernel_rfl
  z0 := fun w => by kernel_rfl
  v0 := fun w => by kernel_rfl
  t3 := by kernel_rfl
  a3 := fun w => by kernel_rfl
  z3 := fun w => by kernel_rfl
  v3 := fun w => by kernel_rfl
  t4 := by kernel_rfl
  a4 := fun w => by kernel_rfl
  z4 := fun w => by kernel_rfl
  v4 := fun w => by kernel_rfl
  t5 := by kernel_rfl
  a5 := fun w => by kernel_rfl
  z5 := fun w => by kernel_rfl
  v5 := fun w => by kernel_rfl
  t9 := by kernel_rfl
  a9 := fun w => by kernel_rfl
  z9 := fun w => by kernel_rfl
  v9 := fun w => by kernel_rfl
  t22 := by kernel_rfl
  a22 := fun w => by kernel_rfl
  z22 := fun w => by kernel_rfl
  v22 := fun w => by kernel_rfl
  a24 := fun w => by kernel_rfl
  z24 := fun w => by kernel_rfl
  t25 := by kernel_rfl
  a25 := fun w => by kernel_rfl
  z25 := fun w => by kernel_rfl
  v25 := fun w => by kernel_rfl
  t39 := by kernel_rfl
  a39 := fun w => by kernel_rfl
  z39 := fun w => by kernel_rfl
  v39 := fun w => by kernel_rfl
  t45 := by kernel_rfl
  a45 := fun w => by kernel_rfl
  z45 := fun w => by kernel_rfl
  v45 := fun w => by kernel_rfl
  t46 := by kernel_rfl
  a46 := fun w => by kernel_rfl
  z46 := fun w => by kernel_rfl
  v46 := fun w => by kernel_rfl
  t50 := by kernel_rfl
  a50 := fun w => by kernel_rfl
  z50 := fun w => by kernel_rfl
  v50 := fun w => by kernel_rfl
  t53 := by kernel_rfl
  a53 := fun w => by kernel_rfl
  z53 := fun w => by kernel_rfl
  v53 := fun w => by kernel_rfl
  t55 := by kernel_rfl
  a55 := fun w => by kernel_rfl
  z55 := fun w => by kernel_rfl
  v55 := fun w => by kernel_rfl
  t66 := by kernel_rfl
  a66 := fun w => by kernel_rfl
  z66 := fun w => by kernel_rfl
  v66 := fun w => by kernel_rfl
  t70 := by kernel_rfl
  a70 := fun w => by kernel_rfl
  z70 := fun w => by kernel_rfl
  v70 := fun w => by kernel_rfl
  t76 := by kernel_rfl
  a76 := fun w => by kernel_rfl
  z76 := fun w => by kernel_rfl
  v76 := fun w => by kernel_rfl
  t77 := by kernel_rfl
  a77 := fun w => by kernel_rfl
  z77 := fun w => by kernel_rfl
  v77 := fun w => by kernel_rfl

end Go.Proofs.Ytoiiadiimfohiaa

/- Contract: slices.SortFunc with slices.Compare over a list of rows that the call owns: they are the same rows, in some order. -/

namespace Go.Proofs.Ytoiiadiimfohiaa
open Go.RowKit Go.Shelf Go.Lib Go.Sort

/-- A row of n bells that the call owns. -/
structure El (w : World) (base n : Nat) where
  v : Value
  xs : List Int
  own : w.ownsRow base 3 1 v n (xs.map (Value.int .i64))

theorem El.len {w : World} {base n : Nat} (e : El w base n) : e.xs.length = n := by have := e.own.1; simpa using this

theorem els {w : World} {base n : Nat} : ∀ {vs : List Value} {X : List (List Int)}, OwnAll w base vs X → (∀ x, x ∈ X → x.length = n) → ∃ l : List (El w base n), l.map El.v = vs ∧ l.map El.xs = X
  | [], [], _, _ => ⟨[], rfl, rfl⟩
  | [], _ :: _, h, _ => h.elim
  | _ :: _, [], h, _ => h.elim
  | v :: vs, x :: X, h, hx => by
    obtain ⟨l, h1, h2⟩ := els (vs := vs) (X := X) h.2 (fun y hy => hx y (List.mem_cons_of_mem _ hy))
    have hl : x.length = n := hx x List.mem_cons_self
    refine ⟨⟨v, x, by have := h.1; rw [hl] at this; exact this⟩ :: l, ?_, ?_⟩
    · rw [List.map_cons, h1]
    · rw [List.map_cons, h2]

section
variable {α : Type} [Inhabited α]

theorem sw_block (enc : α → Value) (w : World) (blk off m : Nat) (dk : Array α) (os : Array Obj) {b : Nat} (hne : b ≠ blk) (hb : b < w.heap.size) : (sortWorld enc w blk off m dk os).heap[b]? = w.heap[b]? := by
  unfold sortWorld grow putRow mapBlock Sort.ahead
  simp only
  rw [Array.getElem?_append_left (by simpa using hb), Array.getElem?_modify, if_neg (fun e => hne e.symm)]

theorem sw_own (enc : α → Value) (w : World) (blk off m : Nat) (dk : Array α) (os : Array Obj) {base e size n : Nat} {v : Value} {xs : List Value} (h : w.ownsRow base e size v n xs) (hne : ∀ g, v.ownBlock = some g → g ≠ blk) : (sortWorld enc w blk off m dk os).ownsRow base e size v n xs := by
  refine ⟨h.1, ?_⟩
  rcases h.2 with h2 | ⟨g, cap, cur, hv, hgg, hh, r⟩
  · exact Or.inl h2
  · refine Or.inr ⟨g, cap, cur, hv, hgg, ?_, r⟩
    rw [sw_block enc w blk off m dk os (hne g (by rw [hv]; rfl)) (Array.getElem?_eq_some_iff.1 hh).1]
    exact hh

theorem sw_row (enc : α → Value) (w : World) (blk m : Nat) (dk : Array α) (os : Array Obj) {cur : Array Value} {e : TypeId} (h : w.heap[blk]? = some (.cells cur e (0, 0))) : (sortWorld enc w blk 0 m dk os).heap[blk]? = some (.cells (putCells enc 0 dk cur) e (0, 0)) := by
  have hb := (Array.getElem?_eq_some_iff.1 h).1
  unfold sortWorld grow putRow mapBlock Sort.ahead
  simp only
  rw [Array.getElem?_append_left (by simpa using hb), Array.getElem?_modify, if_pos rfl, h]
  rfl

theorem put_take (enc : α → Value) (dk : Array α) (cur : Array Value) (h : dk.size ≤ cur.size) : (putCells enc 0 dk cur).toList.take dk.size = dk.toList.map enc := by
  refine List.ext_getElem (by simp [putCells]; omega) (fun i h1 h2 => ?_)
  have hi : i < dk.size := by simpa using h2
  simp only [putCells, List.getElem_take, Array.toList_mapIdx, List.getElem_mapIdx, List.getElem_map, Array.getElem_toList]
  rw [if_pos ⟨Nat.zero_le _, by omega⟩, Nat.sub_zero, getElem!_pos dk i hi]
end

theorem all_of_els {w' : World} {base w0b n : Nat} {w : World} : ∀ (l : List (El w w0b n)), (∀ e : El w w0b n, w'.ownsRow base 3 1 e.v n (e.xs.map (Value.int .i64))) → OwnAll w' base (l.map El.v) (l.map El.xs)
  | [], _ => trivial
  | e :: l, h => by
    refine ⟨?_, all_of_els l h⟩
    have h9 := h e
    have hl := e.len
    cases e with
    | mk v xs own =>
      simp only at h9 hl
      show w'.ownsRow base 3 1 v xs.length (xs.map (Value.int .i64))
      rw [hl]
      exact h9

set_option maxRecDepth 20000 in
set_option maxHeartbeats 2000000 in
theorem sort_ok (n base : Nat) (u : Value) (vs : List Value) (X : List (List Int)) (w : World) (hLL : LL w base u vs X) (hX : ∀ x, x ∈ X → x.length = n) (h1 : 1 ≤ n) (hN : 1 ≤ X.length) (hN2 : X.length ≤ 40000) :
    Calls Try.prog 33 #[u, .func (.func 34) #[] #[]] w fun e w' => e = .returned (.tuple #[]) ∧ ∃ vs' X', (X'.Perm X ∧ X'.Pairwise (fun a b => 0 ≤ lcmp b a)) ∧ LL w' base u vs' X' ∧ Below base w w' := by
  obtain ⟨l, hv, hx⟩ := els hLL.all hX
  have hll : l.length = X.length := by rw [← hx, List.length_map]
  have hne : l ≠ [] := fun e => by rw [e] at hll; simp at hll; omega
  haveI : Inhabited (El w base n) := ⟨l.head hne⟩
  have hvl : vs.length = l.length := by rw [← hv, List.length_map]
  have hrow := hLL.row
  rcases hrow.2 with ⟨_, h0⟩ | ⟨g, cap, cur, hu, hgb, hh, hc1, hc2, hcs, hct⟩
  · omega
  have hg := (Array.getElem?_eq_some_iff.1 hh).1
  have hoff : ∀ (e : El w base n) g', e.v.ownBlock = some g' → g' ≠ g := by
    intro e g' hg' e'
    have h9 := e.own.2
    rcases h9 with ⟨h9, h0⟩ | ⟨g2, cap2, cur2, hv2, _, hh2, _⟩
    · rw [h9] at hg'; cases hg'
    · rw [hv2] at hg'
      have e2 : g2 = g' := by cases hg'; rfl
      rw [e2, e', hh] at hh2
      cases hh2
  have hcmp : CmpLays1 Try.prog 34 #[] (El.v (w := w) (base := base) (n := n)) (fun x y => lcmp x.xs y.xs) g 0 l.toArray.size w := by
    intro m os dk _ x y
    have i1 := Ints.own (sw_own El.v w g 0 m dk os x.own (hoff x))
    have i2 := Ints.own (sw_own El.v w g 0 m dk os y.own (hoff y))
    refine (compare_ok x.v y.v x.xs y.xs (sortWorld El.v w g 0 m dk os) i1 i2 (by rw [x.len]; exact h1) (by rw [x.len, y.len])).mono ?_
    rintro e w' ⟨rfl, rfl⟩
    exact ⟨rfl, 0, #[], by simp [World.drewN]⟩
  have hO : SWO (ltOf (fun x y : El w base n => lcmp x.xs y.xs)) := by
    refine ⟨fun x => ?_, fun x y z a1 a2 => ?_, fun x y z a1 a2 => ?_⟩
    · show decide (lcmp x.xs x.xs < 0) = false
      rw [lcmp_self]; decide
    · unfold ltOf at *; exact decide_eq_true (lcmp_trans _ _ _ (of_decide_eq_true a1) (of_decide_eq_true a2))
    · unfold ltOf at *; exact decide_eq_false (lcmp_ntrans _ _ _ (of_decide_eq_false a1) (of_decide_eq_false a2))
  have h1c : OneCell (El.v (w := w) (base := base) (n := n)) := fun x => by
    obtain ⟨p, c, e⟩ := owns_slice x.own
    rw [e]; rfl
  have hH : Holds (El.v (w := w) (base := base) (n := n)) w g 0 l.toArray := by
    intro j hj
    have hj' : j < l.length := by simpa using hj
    refine ⟨?_, by simp [World.frozen?, hh]⟩
    rw [hu] at hrow
    rw [Nat.zero_add, owns_val hrow (by omega), getElem!_pos _ j hj, ← hv]
    simp [List.getD, hj']
  have eg : ∀ args w, (callFunc 34 args).run Try.prog w = .ok (.enter 34 args) w := enters_of Try.func34 (by kernel_rfl) rfl
  have hcon := Any.slices_SortFunc laysS (El.v (w := w) (base := base) (n := n)) h1c (fun x y => lcmp x.xs y.xs) hO 34 #[] g 0 cap l.toArray w eg hcmp hH hg (by simp; omega)
  have hsz : l.toArray.size = vs.length := by simp [hvl]
  rw [hsz] at hcon
  rw [hu]
  refine Calls.mono (show Calls Try.prog 33 _ _ _ from hcon) ?_
  rintro e w' ⟨rfl, d', k, os, hp, hso, rfl⟩
  have hds : d'.size = vs.length := by rw [hp.1, hsz]
  have hperm : d'.toList.Perm l := by
    have h9 := hp.2.2
    have e1 : (d'.extract 0 vs.length).toList = d'.toList := by rw [← hds]; simp
    have e2 : (l.toArray.extract 0 vs.length).toList = l := by rw [← hsz]; simp
    rw [e1, e2] at h9
    exact h9
  refine ⟨rfl, d'.toList.map El.v, d'.toList.map El.xs, ⟨?_, ?_⟩, ⟨?_, ?_⟩, ?_⟩
  · rw [← hx]; exact hperm.map _
  · rw [List.pairwise_map, List.pairwise_iff_getElem]
    intro i j hi hj hij
    have hi' : i < d'.size := by simpa using hi
    have hj' : j < d'.size := by simpa using hj
    have h9 := hso i j (Nat.zero_le _) hij (by omega)
    rw [getElem!_pos d' i hi', getElem!_pos d' j hj'] at h9
    unfold ltOf at h9
    exact Int.not_lt.1 (of_decide_eq_false h9)
  · have hlen : (d'.toList.map El.v).length = vs.length := by simp [hds]
    rw [hlen]
    refine ⟨by rw [hlen, Nat.mul_one], Or.inr ⟨g, cap, putCells El.v 0 d' cur, rfl, hgb, sw_row El.v w g k d' os hh, hc1, hc2, ?_, ?_⟩⟩
    · rw [← hcs]; simp [putCells]
    · rw [Nat.mul_one, ← hds]
      exact put_take El.v d' cur (by rw [hds, hcs, Nat.mul_one]; exact hc1)
  · exact all_of_els d'.toList (fun e => sw_own El.v w g 0 k d' os e.own (hoff e))
  · refine ⟨rfl, rfl, rfl, ?_, fun b hb => sw_block El.v w g 0 k d' os (by omega) (by omega)⟩
    unfold sortWorld grow putRow mapBlock Sort.ahead
    simp

end Go.Proofs.Ytoiiadiimfohiaa

/- Contract: slices.SortFunc with slices.Compare over a list of rows that the call owns, none among them too. -/
namespace Go.Proofs.Ytoiiadiimfohiaa
open Go.RowKit Go.Shelf

theorem sort_any (n base : Nat) (u : Value) (vs : List Value) (X : List (List Int)) (w : World) (hLL : LL w base u vs X) (hX : ∀ x, x ∈ X → x.length = n) (h1 : 1 ≤ n) (hN2 : X.length ≤ 40000) :
    Calls Try.prog 33 #[u, .func (.func 34) #[] #[]] w fun e w' => e = .returned (.tuple #[]) ∧ ∃ vs' X', (X'.Perm X ∧ X'.Pairwise (fun a b => 0 ≤ lcmp b a)) ∧ LL w' base u vs' X' ∧ Below base w w' := by
  by_cases hN : 1 ≤ X.length
  · exact sort_ok n base u vs X w hLL hX h1 hN hN2
  · have hv0 : vs.length = 0 := by rw [hLL.len]; omega
    obtain ⟨p, c, hu⟩ := owns_slice hLL.row
    have hS := AnyF.slices_SortFunc_none (P := Try.prog) (ρ := rnS) { laysS with } p c (.func (.func 34) #[] #[]) w
    rw [hu, hv0]
    refine Calls.mono (show Calls Try.prog 33 _ _ _ from hS) ?_
    rintro e w' ⟨rfl, rfl⟩
    refine ⟨rfl, vs, X, ⟨List.Perm.refl _, by rw [List.length_eq_zero_iff.1 (show X.length = 0 by omega)]; exact List.Pairwise.nil⟩, ?_, Below.refl _ _⟩
    rw [hu, hv0] at hLL
    exact hLL

end Go.Proofs.Ytoiiadiimfohiaa

/- Contract: truth.False. -/
namespace Go.Proofs.Ytoiiadiimfohiaa
open Go.RowKit Go.Maps

def FalsePost (n : Nat) (ts : List (List Bool)) (w : World) (e : Ending) (w' : World) : Prop :=
  ∃ u vs X t, e = .returned (.tuple #[u, .bool t, .int .i64 0]) ∧ (X.Perm (hds n (ldr n ts)) ∧ X.Pairwise (fun a b => 0 ≤ lcmp b a)) ∧ LL w' w.heap.size u vs X ∧ (t = false ↔ (ldr n ts).Nodup) ∧ Below w.heap.size w w'

set_option maxRecDepth 20000 in
set_option maxHeartbeats 4000000 in
theorem false_ok (s : ByteArray) (n : Nat) (v : Value) (ts : List (List Bool)) (w : World) (hs : s.size ≤ 9223372036854775807) (hn : nm s = true) (h1 : 2 ≤ n) (h2 : n ≤ 12) (hl1 : 1 ≤ ts.length) (hl2 : ts.length ≤ 200) (hts : ∀ t, t ∈ ts → tsz t = n)
    (hv : IntsAll w v (ts.map tpl)) :
    Calls Try.prog 11 #[meth s n v] w (FalsePost n ts w) := by
  have HLD := hide (fun W (hb : Below w.heap.size w W) => lead_ok s n v ts W hs hn h1 h2 hl1 hl2 hts (hv.below hb))
  have hlm : (ts.map tpl).length = ts.length := List.length_map _
  obtain ⟨pv, cv, hve⟩ := hv.len
  rw [hlm] at hve
  subst hve
  have HRW := hide (ldr_rows hts)
  have HRL := hide (ldr_length n ts)
  have HLT := hide (leadTo_length n ts ts.length)
  clear hn hv hts hlm
  unfold meth
  unfold meth at HLD
  go_enter Try.func11, Try.ntmps11
  go_wp2_with fail
  refine (HLD.out _ ((Below.refl _ _).alloc (Nat.le_refl _) _)).mono ?_
  rintro e w1 ⟨u, vs, rfl, hL1, hb1⟩
  have hB1 : Below w.heap.size w w1 := ((Below.refl _ _).alloc (Nat.le_refl _) _).trans (hb1.mono (by simp))
  have hx := (Box.start w s n (.slice pv ts.length cv) 24).below hb1
  have g2 := hx.c2
  have hvl : vs.length = ts.length + 1 := by rw [hL1.len, HLT.out]
  have hr1 := hL1.row
  rw [hvl] at hr1
  obtain ⟨gu, cu, rfl, hgu1, hgu2, hcu1, hcu2⟩ := owns_form hr1 (by omega)
  have hI := hL1.front hvl (k := ts.length) (by omega) hl1 hgu2 hcu1 hcu2
  rw [show (leadTo n ts ts.length).take ts.length = ldr n ts from rfl] at hI
  have HRP := hide (repeated_ok n _ (ldr n ts) w1 hI (by omega) h2 HRW.out (by rw [HRL.out]; exact hl1) (by rw [HRL.out]; omega))
  have HBT := hide (fun W (hb : Below w1.heap.size w1 W) => between_ok n _ (ldr n ts) W (hI.below hb) (by omega) h2 HRW.out (by rw [HRL.out]; exact hl1) (by rw [HRL.out]; exact hl2))
  have hbs1 := hB1.size
  have HHL : Hid ((hds n (ldr n ts)).length ≤ 40000) := by
    have h3 := (hdsTo_fact n (pr (ldr n ts))).2.2
    rw [pr_length, HRL.out] at h3
    have h4 : ts.length * ts.length ≤ 200 * 200 := Nat.mul_le_mul hl2 hl2
    show (hdsTo n (pr (ldr n ts))).length ≤ 40000
    omega
  have HHR : Hid (∀ x, x ∈ hds n (ldr n ts) → x.length = n) := fun x hx => (pr_rows HRW.out x (((hdsTo_fact n (pr (ldr n ts))).2.1 x).1 hx).1).len
  clear hL1 hb1 HLD hx hvl hr1 hI
  go_wp2_with fail
  refine HRP.out.mono ?_
  rintro e w2 ⟨i, j, t, rfl, hnd, hb2⟩
  have HND := hide hnd
  clear hnd HRP
  go_wp2_with fail
  refine (HBT.out w2 hb2).mono ?_
  rintro e w3 ⟨hd, hvs, rfl, hL3, hb3⟩
  have hB2 : Below w.heap.size w w2 := hB1.trans (hb2.mono hbs1)
  have hL3' := hL3.low hB2.size
  have hB3 : Below w.heap.size w w3 := hB2.trans (hb3.mono hB2.size)
  have HSO := hide (sort_any n w.heap.size hd hvs (hds n (ldr n ts)) w3 hL3' HHR.out (by omega) HHL.out)
  obtain ⟨hp, hc, rfl⟩ := owns_slice hL3.row
  clear HBT hL3 hL3' hb2 hb3
  go_wp2_with fail
  refine HSO.out.mono ?_
  rintro e w4 ⟨rfl, vs', X', hpm, hL4, hb4⟩
  have HP : Hid (FalsePost n ts w (.returned (.tuple #[.slice hp hvs.length hc, .bool t, .int .i64 0])) w4) := ⟨_, vs', X', t, rfl, hpm, hL4, HND.out, hB3.trans hb4⟩
  clear hpm hL4 hb4 HSO HND
  go_wp2
  go_ret3
  exact HP.out

end Go.Proofs.Ytoiiadiimfohiaa

/- Contract: truth.ByHeads, over what call.Rows tells. -/
namespace Go.Proofs.Ytoiiadiimfohiaa
open Go.RowKit

theorem cell_of' {w : World} {b : Nat} {x : Value} {t : TypeId} (h : w.heap[b]? = some (.cells #[x] t)) : w.cell? ⟨b, 0, none⟩ = some x := by simp [World.cell?, h]

def ByPost (n : Nat) (P Hs : List (List Int)) (w : World) (e : Ending) (w' : World) : Prop :=
  ∃ t : Bool, e = .returned (.tuple #[.bool t, .int .i64 0]) ∧ (t = true ↔ P.Nodup ∧ Hs.Nodup ∧ Hs.Pairwise (fun h h' => by_ (un h) h' ∉ hds n P)) ∧ Below w.heap.size w w'

theorem headsOf_length (T : List (List Int)) (k N : Nat) : (headsOf T k N).length = N := by simp [headsOf]

set_option maxRecDepth 20000 in
set_option maxHeartbeats 4000000 in
theorem byHeads_ok (s : ByteArray) (n : Nat) (vp : Option Addr) (vc : Nat) (ts : List (List Bool)) (cv : Value) (cs : List (Int × List (List Int))) (lp : Option Addr) (lc : Nat) (ls : List Int) (T : List (List Int)) (w : World)
    (hs : s.size ≤ 9223372036854775807) (hn : nm s = true) (h1 : 2 ≤ n) (h2 : n ≤ 12) (hl1 : 1 ≤ ts.length) (hl2 : ts.length ≤ 200) (hts : ∀ t, t ∈ ts → tsz t = n) (hv : IntsAll w (.slice vp ts.length vc) (ts.map tpl))
    (hcv : CallsAt w cv cs) (hcl : ∀ l, l ∈ ls → (cs.getD l.toNat (0, [])).2.length ≤ 1) (hlv : Ints w (.slice lp ls.length lc) ls) (hN1 : 1 ≤ ls.length) (hN2 : ls.length ≤ 400) (hls : ∀ l, l ∈ ls → 0 ≤ l ∧ l < (cs.length : Int))
    (hT : T.length = ls.length * ts.length + 1) (hTr : ∀ h, h ∈ headsOf T ts.length ls.length → Rw n h)
    (hR : ∀ W, Below w.heap.size w W → Calls Try.prog 25 #[meth s n (.slice vp ts.length vc), cv, .slice lp ls.length lc] W (RowsPost T W)) :
    Calls Try.prog 10 #[meth s n (.slice vp ts.length vc), cv, .slice lp ls.length lc] w (ByPost n (ldr n ts) (headsOf T ts.length ls.length) w) := by
  have hmf : ∀ (fn : Fn) (first cap : Array Value) (w : World), (Instr.makeFunc fn first cap).run Try.prog w = .ok (.func fn first cap) w := fun _ _ _ _ => rfl
  have hBW : Below w.heap.size w ((w.alloc (.cells #[.string s, .int .i64 n, .slice vp ts.length vc] 24)).alloc (.cells #[cv] 25)) := ((Below.refl _ _).alloc (Nat.le_refl _) _).alloc (by simp) _
  have HH := hide (heads_ok s n vp ts.length vc cv lp ls.length lc T ((w.alloc (.cells #[.string s, .int .i64 n, .slice vp ts.length vc] 24)).alloc (.cells #[cv] 25)) hl1 hN2 hl2 hT (fun W hb => hR W (hBW.trans (hb.mono hBW.size))))
  have hbox := ((Box.start w s n (.slice vp ts.length vc) 24).below ((Below.refl _ _).alloc (Nat.le_refl _) (.cells #[cv] 25)))
  have hcb : ((w.alloc (.cells #[.string s, .int .i64 n, .slice vp ts.length vc] 24)).alloc (.cells #[cv] 25)).cell? ⟨w.heap.size + 1, 0, none⟩ = some cv := by
    have h9 := heap_alloc_new (w.alloc (.cells #[.string s, .int .i64 n, .slice vp ts.length vc] 24)) (.cells #[cv] 25)
    rw [show (w.alloc (.cells #[.string s, .int .i64 n, .slice vp ts.length vc] 24)).heap.size = w.heap.size + 1 from by simp] at h9
    exact cell_of' h9
  have HCV := hide hcv
  have HCL := hide hcl
  have HLV := hide hlv
  have HLS := hide hls
  have HTR := hide hTr
  have HF := hide (fun W (hb : Below w.heap.size w W) => false_ok s n (.slice vp ts.length vc) ts W hs hn h1 h2 hl1 hl2 hts (hv.below hb))
  have HRW := hide (ldr_rows hts)
  have HRL := hide (ldr_length n ts)
  have HBX := hide hbox
  have HCB := hide hcb
  obtain ⟨cb, coff, ccap, rfl, _, _, _, _⟩ := hcv
  clear hR hcl hlv hls hTr hn hts hv hT hbox
  unfold meth at HH HF
  unfold meth
  go_enter Try.func10, Try.ntmps10
  go_wp2_with fail
  refine HH.out.mono ?_
  rintro e w2 ⟨hd, hvs, rfl, hL2, hb2⟩
  have hB2 : Below w.heap.size w w2 := hBW.trans (hb2.mono hBW.size)
  have hbs2 := hB2.size
  have hcb2 : w2.cell? ⟨w.heap.size + 1, 0, none⟩ = some (.slice (some ⟨cb, coff, none⟩) cs.length ccap) := (hb2.cell (p := ⟨w.heap.size + 1, 0, none⟩) (by simp)).trans HCB.out
  have HB2x := hide (HBX.out.below hb2)
  have HCF := hide (containsFunc_none (w.heap.size + 1) (.slice lp ls.length lc) ls w2 (HLV.out.below hB2) hN1 (fun l hl => by
    obtain ⟨l1, l2⟩ := HLS.out l hl
    obtain ⟨c, rfl⟩ := Int.eq_ofNat_of_zero_le l1
    exact longer_ok c (w.heap.size + 1) _ cs w2 hcb2 (HCV.out.below hB2) (by omega) (by have := HCL.out _ hl; rwa [Int.toNat_natCast] at this)))
  obtain ⟨hdp, hdc, rfl⟩ := owns_slice hL2.row
  have hhl : hvs.length = ls.length := by rw [hL2.len, headsOf_length]
  have HI2 := hide hL2.ints
  rw [hhl]
  rw [hhl] at HI2
  have g0 := HB2x.out.c0
  have g1 := HB2x.out.c1
  have g2 := HB2x.out.c2
  clear hL2 hb2 hcb2 HH HCB HBX hhl
  go_wp2_with fail
  refine HCF.out.mono ?_
  rintro e w' ⟨rfl, rfl⟩
  go_wp2_with fail
  refine (HF.out w2 hB2).mono ?_
  rintro e w3 ⟨fu, fvs, X, t1, rfl, hpm, hL3, ht1, hb3⟩
  have hbs3 := hb3.size
  have HPM := hide hpm.1
  have HT1 := hide ht1
  obtain ⟨fp, fc, rfl⟩ := owns_slice hL3.row
  have HI3 := hide hL3.ints
  have hfl : fvs.length = X.length := hL3.len
  rw [hfl]
  rw [hfl] at HI3
  have HIH3 := hide (HI2.out.below hb3)
  have hB3 : Below w.heap.size w w3 := hB2.trans (hb3.mono hbs2)
  have HHl := hide (headsOf_length T ts.length ls.length)
  have HRP := hide (repeated_ok n _ (headsOf T ts.length ls.length) w3 HIH3.out (by omega) h2 HTR.out (by rw [HHl.out]; exact hN1) (by rw [HHl.out]; omega))
  have HXR : Hid (∀ r, r ∈ X → Rw n r) := fun r hr => pr_rows HRW.out r (((hdsTo_fact n (pr (ldr n ts))).2.1 r).1 (HPM.out.mem_iff.1 hr)).1
  have HXL : Hid (X.length ≤ 40000) := by
    have h3 := (hdsTo_fact n (pr (ldr n ts))).2.2
    rw [pr_length, HRL.out] at h3
    have h4 : ts.length * ts.length ≤ 200 * 200 := Nat.mul_le_mul hl2 hl2
    show X.length ≤ 40000
    rw [HPM.out.length_eq]
    show (hdsTo n (pr (ldr n ts))).length ≤ 40000
    omega
  have HMT := hide (fun W (hb : Below w3.heap.size w3 W) => meet_ok n _ _ (headsOf T ts.length ls.length) X W (HIH3.out.below hb) (HI3.out.below hb) (by omega) h2 HTR.out HXR.out (by rw [HHl.out]; exact hN1) (by rw [HHl.out]; omega) HXL.out)
  have HPP : Hid ((headsOf T ts.length ls.length).Pairwise (fun h h' => by_ (un h) h' ∉ X) ↔ (headsOf T ts.length ls.length).Pairwise (fun h h' => by_ (un h) h' ∉ hds n (ldr n ts))) :=
    List.Pairwise.iff (fun a b => by rw [HPM.out.mem_iff])
  clear hpm ht1 hL3 hb3 HF hfl g0 g1 g2
  go_wp2_with fail
  refine HRP.out.mono ?_
  rintro e w4 ⟨i, j, t2, rfl, ht2, hb4⟩
  have HT2 := hide ht2
  have hB4 : Below w.heap.size w w4 := hB3.trans (hb4.mono hB3.size)
  have HM4 := hide (HMT.out w4 hb4)
  clear ht2 hb4 HMT HRP
  cases t1 with
  | true =>
    have HP : Hid (ByPost n (ldr n ts) (headsOf T ts.length ls.length) w (.returned (.tuple #[.bool false, .int .i64 0])) w4) := ⟨false, rfl, ⟨(fun h => by cases h), fun h => absurd (HT1.out.2 h.1) (by decide)⟩, hB4⟩
    go_wp2
    go_ret2
    exact HP.out
  | false =>
    cases t2 with
    | true =>
      have HP : Hid (ByPost n (ldr n ts) (headsOf T ts.length ls.length) w (.returned (.tuple #[.bool false, .int .i64 0])) w4) := ⟨false, rfl, ⟨(fun h => by cases h), fun h => absurd (HT2.out.2 h.2.1) (by decide)⟩, hB4⟩
      go_wp2
      go_ret2
      exact HP.out
    | false =>
      go_wp2_with fail
      refine HM4.out.mono ?_
      rintro e w5 ⟨t3, rfl, ht3, hb5⟩
      have HP : Hid (ByPost n (ldr n ts) (headsOf T ts.length ls.length) w (.returned (.tuple #[.bool (!t3), .int .i64 0])) w5) := by
        refine ⟨!t3, rfl, ?_, hB4.trans (hb5.mono hB4.size)⟩
        rw [← HPP.out, ← ht3]
        have a1 := HT1.out.1 (by first | rfl | trivial)
        have a2 := HT2.out.1 (by first | rfl | trivial)
        cases t3 <;> simp [a1, a2]
      clear ht3 hb5
      go_wp2
      go_ret2
      exact HP.out

end Go.Proofs.Ytoiiadiimfohiaa

/- Plain: what the answer's calls are; the leads of a touch differ in their last change alone. -/
namespace Go.Proofs.Ytoiiadiimfohiaa
open Go.RowKit

theorem ceCalls_get {es : List Ce} {k : Nat} (hk : k < es.length) : (ceCalls es).getD k (0, []) = (es[k].sign, es[k].chs) := by
  simp [ceCalls, List.getD, hk]

theorem Cok.callsOk {n K : Nat} {w : World} {base : Nat} {es : List Ce} (h : Cok n w base es) (hm : es.length ≤ 8) (hK : 1 ≤ K) : CallsOk n K (ceCalls es) := by
  have hl : (ceCalls es).length = es.length := by simp [ceCalls]
  have hsg : ∀ k (hk : k < es.length), es[k].sign = sgnOf k := fun k hk => by
    have := h.sign k hk
    rwa [List.getD_eq_getElem?_getD, List.getElem?_eq_getElem hk, Option.getD_some] at this
  refine ⟨fun j hj => ?_, fun i j hij hj => ?_, fun j hj => ?_, fun j hj q hq => ?_⟩
  · rw [hl] at hj
    rw [ceCalls_get hj]
    show sgnR es[j].sign = true
    rw [hsg j hj]; refine sgn_letter ?_; unfold sgnOf; split <;> omega
  · rw [hl] at hj
    rw [ceCalls_get hj, ceCalls_get (show i < es.length by omega)]
    show es[i].sign ≠ es[j].sign
    rw [hsg j hj, hsg i (by omega)]; unfold sgnOf; split <;> split <;> omega
  · rw [hl] at hj
    rw [ceCalls_get hj]
    exact Nat.le_trans (h.few _ (List.getElem_mem hj)) hK
  · rw [hl] at hj
    rw [ceCalls_get hj] at hq ⊢
    exact h.ok _ (List.getElem_mem hj) q hq

theorem tiles_of {n : Nat} : ∀ (X : List (List Int)), (∀ j, j < X.length → okc n 0 (X.getD j []) = true) → ∃ ss : List (List Bool), X = ss.map tpl ∧ ∀ t, t ∈ ss → tsz t = n
  | [], _ => ⟨[], rfl, fun t ht => by cases ht⟩
  | x :: X, h => by
    obtain ⟨t, ht1, ht2⟩ := (okc_iff n x).1 (h 0 (by simp))
    obtain ⟨ss, hs, hn⟩ := tiles_of X (fun j hj => by have := h (j + 1) (by simp; omega); simpa [List.getD] using this)
    refine ⟨t :: ss, by rw [List.map_cons, ht2, ← hs], fun t' h' => ?_⟩
    rcases List.mem_cons.1 h' with e | e
    · rw [e]; exact ht1
    · exact hn t' e

theorem tiles_all {n : Nat} : ∀ (es : List Ce), (∀ e, e ∈ es → ∀ j, j < e.chs.length → okc n 0 (e.chs.getD j []) = true) → ∃ SS : List (List (List Bool)), SS.length = es.length ∧ ∀ c (hc : c < es.length), es[c].chs = (SS.getD c []).map tpl ∧ ∀ t, t ∈ SS.getD c [] → tsz t = n
  | [], _ => ⟨[], rfl, fun c hc => by simp at hc⟩
  | e :: es, h => by
    obtain ⟨ss, h1, h2⟩ := tiles_of e.chs (h e (by simp))
    obtain ⟨SS, h3, h4⟩ := tiles_all es (fun e' h' => h e' (List.mem_cons_of_mem _ h'))
    refine ⟨ss :: SS, by simp [h3], fun c hc => ?_⟩
    cases c with
    | zero => exact ⟨h1, h2⟩
    | succ c => exact h4 c (by simpa using hc)

theorem Cok.tiles {n : Nat} {w : World} {base : Nat} {es : List Ce} (h : Cok n w base es) : ∃ SS : List (List (List Bool)), ∀ c, c < es.length → ((ceCalls es).getD c (0, [])).2 = (SS.getD c []).map tpl ∧ (∀ t, t ∈ SS.getD c [] → tsz t = n) ∧ (SS.getD c []).length ≤ 1 := by
  obtain ⟨SS, _, h2⟩ := tiles_all es h.ok
  refine ⟨SS, fun c hc => ?_⟩
  obtain ⟨h3, h4⟩ := h2 c hc
  rw [ceCalls_get hc]
  refine ⟨h3, h4, ?_⟩
  have := h.few _ (List.getElem_mem hc)
  rw [h3, List.length_map] at this
  exact this

theorem calledBy_take {ts ss : List (List Bool)} (h : ss.length ≤ 1) {q : Nat} (hq : q < ts.length) : (calledBy ts ss).take q = ts.take q := by
  unfold calledBy
  rw [List.take_append_of_le_length (by rw [List.length_take]; omega), List.take_take, Nat.min_eq_left (by omega)]

/-- The rows of a touch by calls that have at most one change, where they are called. -/
theorem touch_used {n : Nat} {ts : List (List Bool)} {SS : List (List (List Bool))} {ls : List Int} (hl1 : 1 ≤ ts.length) (hts : ∀ t, t ∈ ts → tsz t = n) (hS : ∀ l, l ∈ ls → (∀ t, t ∈ SS.getD l.toNat [] → tsz t = n) ∧ (SS.getD l.toNat []).length ≤ 1) :
    (leadTo n (allOf ts SS ls) (ls.length * ts.length)).take (ls.length * ts.length) = touchRows (headsOf (leadTo n (allOf ts SS ls) (ls.length * ts.length)) ts.length ls.length) (ldr n ts) ∧ ∀ t, t ∈ allOf ts SS ls → tsz t = n := by
  have hG : ∀ g, g ∈ ls.map (fun l => calledBy ts (SS.getD l.toNat [])) → g.length = ts.length := by
    intro g hg
    obtain ⟨l, hl, rfl⟩ := List.mem_map.1 hg
    exact calledBy_length (Nat.le_trans (hS l hl).2 hl1)
  have hFn : ∀ t, t ∈ allOf ts SS ls → tsz t = n := by
    intro t ht
    obtain ⟨g, hg, htg⟩ := List.mem_flatten.1 ht
    obtain ⟨l, hl, rfl⟩ := List.mem_map.1 hg
    exact calledBy_mem hts (hS l hl).1 t htg
  refine ⟨touch_rows (N := ls.length) hl1 rfl (by unfold allOf; rw [flat_length _ hG, List.length_map]) hFn hts (fun m' q hm hq => ?_) ls.length (Nat.le_refl _), hFn⟩
  unfold allOf
  rw [flat_drop _ m' hG (by rw [List.length_map]; exact hm), List.getElem_map]
  have h1 := (hS ls[m'] (List.getElem_mem hm)).2
  rw [List.take_append_of_le_length (by rw [calledBy_length (Nat.le_trans h1 hl1)]; omega)]
  exact calledBy_take h1 hq

/-- The rows of a touch by calls of at most one change. -/
theorem touch_all {n m : Nat} {ts : List (List Bool)} {SS : List (List (List Bool))} {ls : List Int} (hl1 : 1 ≤ ts.length) (hts : ∀ t, t ∈ ts → tsz t = n) (hin : ∀ l, l ∈ ls → 0 ≤ l ∧ l < (m : Int)) (hS : ∀ c, c < m → (∀ t, t ∈ SS.getD c [] → tsz t = n) ∧ (SS.getD c []).length ≤ 1) :
    (leadTo n (allOf ts SS ls) (ls.length * ts.length)).take (ls.length * ts.length) = touchRows (headsOf (leadTo n (allOf ts SS ls) (ls.length * ts.length)) ts.length ls.length) (ldr n ts) ∧ ∀ t, t ∈ allOf ts SS ls → tsz t = n :=
  touch_used hl1 hts (fun l hl => hS l.toNat (by have := hin l hl; omega))

/-- The changes of a touch are of so many bells. -/
theorem allOf_size {n : Nat} {ts : List (List Bool)} {SS : List (List (List Bool))} {ls : List Int} (hts : ∀ t, t ∈ ts → tsz t = n) (hS : ∀ l, l ∈ ls → ∀ t, t ∈ SS.getD l.toNat [] → tsz t = n) : ∀ t, t ∈ allOf ts SS ls → tsz t = n := by
  intro t ht
  obtain ⟨g, hg, htg⟩ := List.mem_flatten.1 ht
  obtain ⟨l, hl, rfl⟩ := List.mem_map.1 hg
  exact calledBy_mem hts (hS l hl) t htg

end Go.Proofs.Ytoiiadiimfohiaa

/- Contracts: method.Head, courseFits, method.Course, MethodOf. -/
namespace Go.Proofs.Ytoiiadiimfohiaa
open Go.RowKit

/-- The first rows of a course. -/
def crs (n : Nat) (ts : List (List Bool)) (c : Nat) : List (List Int) := (List.range c).map (fun i => by_ (pw (prd n ts) (i / ts.length)) (prd n (ts.take (i % ts.length))))

theorem crs_snoc (n : Nat) (ts : List (List Bool)) (a b : Nat) (hb : b < ts.length) : crs n ts (a * ts.length + b + 1) = crs n ts (a * ts.length + b) ++ [by_ (pw (prd n ts) a) (prd n (ts.take b))] := by
  unfold crs
  rw [List.range_succ, List.map_append]
  have h1 : (a * ts.length + b) / ts.length = a := by
    rw [Nat.mul_comm, Nat.mul_add_div (by omega), Nat.div_eq_of_lt hb, Nat.add_zero]
  have h2 : (a * ts.length + b) % ts.length = b := by
    rw [Nat.mul_comm, Nat.mul_add_mod, Nat.mod_eq_of_lt hb]
  simp only [List.map_cons, List.map_nil, h1, h2]

theorem crs_length (n : Nat) (ts : List (List Bool)) (c : Nat) : (crs n ts c).length = c := by simp [crs]

theorem crs_get {n c i : Nat} {ts : List (List Bool)} (h : i < c) : (crs n ts c).getD i [] = by_ (pw (prd n ts) (i / ts.length)) (prd n (ts.take (i % ts.length))) := by simp [crs, List.getD, h]

theorem pw_zero (r : List Int) : pw r 0 = rnd r.length := by unfold pw rnd; rfl

/-- What the loops of Course know. -/
structure CrsRel (w3 wr : World) (n : Nat) (ts : List (List Bool)) (a b : Nat) (f u : Value) (vs : List Value) : Prop where
  ll : LL wr w3.heap.size u vs (crs n ts (a * ts.length + b))
  row : wr.ownsRow w3.heap.size 3 1 f n ((pw (prd n ts) a).map (Value.int .i64))
  below : Below w3.heap.size w3 wr

end Go.Proofs.Ytoiiadiimfohiaa

/- Contract: MethodOf. -/
namespace Go.Proofs.Ytoiiadiimfohiaa
open Go.RowKit

theorem tried_name : nm ⟨#[84, 114, 105, 101, 100]⟩ = true := by decide +kernel

theorem cells3 {w1 : World} {B : Nat} {a b c : Value} {t : TypeId} (h : w1.heap[B]? = some (.cells #[a, b, c] t)) :
    w1.cell? ⟨B, 0, none⟩ = some a ∧ w1.cell? ⟨B, 1, none⟩ = some b ∧ w1.cell? ⟨B, 2, none⟩ = some c ∧ w1.frozen? ⟨B, 0, none⟩ = false ∧ w1.frozen? ⟨B, 1, none⟩ = false ∧ w1.frozen? ⟨B, 2, none⟩ = false := by
  simp [World.cell?, World.frozen?, h]

theorem LL.set {w : World} {base b j : Nat} {v x : Value} {vs : List Value} {xss : List (List Int)} (h : LL w base v vs xss) (hb : b < base) : LL (w.setCell ⟨b, j, none⟩ x) base v vs xss :=
  ⟨ownsRow_setCell_below h.row (by exact hb) _, h.all.mono (fun _ _ _ h' => ownsRow_setCell_below h' (by exact hb) _)⟩

set_option maxRecDepth 20000 in
set_option maxHeartbeats 2000000 in
theorem methodOf_ok (v : Value) (xs : List Int) (n m : Nat) (w : World) (h : Ints w v xs) (hx : ∀ x, x ∈ xs → I64 x) (h1 : 1 ≤ n) (h12 : n ≤ 12) (hm : m ≤ 1000) :
    Calls Try.prog 19 #[v, .int .i64 n, .int .i64 m] w fun e w' => ∃ (u : Value) (vs : List Value) (ts : List (List Bool)), e = .returned (.agg #[.string ⟨#[84, 114, 105, 101, 100]⟩, .int .i64 n, u]) ∧ ts.length = m ∧ (∀ t, t ∈ ts → tsz t = n) ∧ LL w' (w.heap.size + 1) u vs (ts.map tpl) ∧ Below w.heap.size w w' := by
  have HC := hide (fun W (hb : Below w.heap.size w W) => changesOf_ok v xs 3 n m W (h.below hb) hx (by omega) h1 h12 hm)
  clear h hx
  go_enter Try.func19, Try.ntmps19
  go_wp2_with fail
  refine (HC.out _ ((Below.refl _ _).alloc (Nat.le_refl _) _)).mono ?_
  rintro e w1 ⟨u, vs, ts, rfl, hl, hts, hL, hb1⟩
  have hblk0 := (hb1.block w.heap.size (by simp)).trans (heap_alloc_new w _)
  obtain ⟨z0, z1, z2, f0, f1, f2⟩ := cells3 (w1 := w1) (B := w.heap.size) hblk0
  obtain ⟨up, uc, rfl⟩ := owns_slice hL.row
  have HBK : Hid ((((w1.setCell ⟨w.heap.size, 0, none⟩ (.string ⟨#[84, 114, 105, 101, 100]⟩)).setCell ⟨w.heap.size, 1, none⟩ (.int .i64 n)).setCell ⟨w.heap.size, 2, none⟩ (.slice up vs.length uc)).heap[w.heap.size]? = some (.cells #[.string ⟨#[84, 114, 105, 101, 100]⟩, .int .i64 n, .slice up vs.length uc] 24)) := by
    show _ = _
    simp [World.setCell, Array.getElem?_modify, hblk0]
  clear hblk0
  have HT := hide hts
  have HL := hide hL
  have HLE := hide hl
  clear hts hL hl HC
  have hB : Below w.heap.size w w1 := ((Below.refl _ _).alloc (Nat.le_refl _) _).trans (hb1.mono (by simp))
  have HLL := hide (HL.out.low (show w.heap.size + 1 ≤ _ by simp))
  clear HL
  go_wp2
  refine bodyPost_ret (results_cell_row (p := 6) (ty := 24) rfl _ _ w.heap.size 24 _ _ _ rfl HBK.out Try.underlying24 rfl (by kernel_rfl)) rfl ?_
  exact ⟨_, vs, ts, rfl, HLE.out, HT.out, ((HLL.out.set (Nat.lt_succ_self _)).set (Nat.lt_succ_self _)).set (Nat.lt_succ_self _), ((hB.setCell (Nat.le_refl _) _).setCell (Nat.le_refl _) _).setCell (Nat.le_refl _) _⟩

end Go.Proofs.Ytoiiadiimfohiaa

/- Rows of a lead are rows. -/
namespace Go.Proofs.Ytoiiadiimfohiaa
open Go.RowKit

theorem leadTo_rows {n k : Nat} {F : List (List Bool)} (h : ∀ t, t ∈ F → tsz t = n) : ∀ r, r ∈ leadTo n F k → Rw n r := by
  intro r hr
  obtain ⟨j, _, rfl⟩ := List.mem_map.1 hr
  have := prd_row n (F.take j) (fun t ht => h t (List.mem_of_mem_take ht))
  exact ⟨this.1, this.2⟩

end Go.Proofs.Ytoiiadiimfohiaa

/- A touch that may be, and what both sides say of it. -/
namespace Go.Proofs.Ytoiiadiimfohiaa
open Go.RowKit
set_option maxRecDepth 20000
set_option linter.unusedVariables false

/-- A touch that may be, in memory. -/
structure Tch (W : World) (s : ByteArray) (n : Nat) (vp : Option Addr) (vc : Nat) (ts : List (List Bool)) (cv : Value) (cs : List (Int × List (List Int))) (SS : List (List (List Bool))) (lp : Option Addr) (lc : Nat) (t : List Nat) : Prop where
  size : s.size ≤ 1048576
  nam : nm s = true
  isn : isN (arunes s) = true
  n1 : 2 ≤ n
  n2 : n ≤ 12
  l1 : 1 ≤ ts.length
  l2 : ts.length ≤ 200
  tz : ∀ t, t ∈ ts → tsz t = n
  val : IntsAll W (.slice vp ts.length vc) (ts.map tpl)
  cat : CallsAt W cv cs
  cok : CallsOk n ts.length cs
  c1 : 1 ≤ cs.length
  c2 : cs.length ≤ 8
  css : ∀ c, c < cs.length → (cs.getD c (0, [])).2 = (SS.getD c []).map tpl ∧ (∀ t, t ∈ SS.getD c [] → tsz t = n) ∧ (SS.getD c []).length ≤ ts.length
  lat : Ints W (.slice lp t.length lc) (nI t)
  t1 : 1 ≤ t.length
  t2 : t.length ≤ 60
  tin : ∀ c, c ∈ t → c < cs.length
  mul : t.length * ts.length ≤ 20000

variable {W : World} {s : ByteArray} {n : Nat} {vp : Option Addr} {vc : Nat} {ts : List (List Bool)} {cv : Value} {cs : List (Int × List (List Int))} {SS : List (List (List Bool))} {lp : Option Addr} {lc : Nat} {t : List Nat}

theorem Tch.below {W' : World} (h : Tch W s n vp vc ts cv cs SS lp lc t) (hb : Below W.heap.size W W') : Tch W' s n vp vc ts cv cs SS lp lc t :=
  { h with val := h.val.below hb, cat := h.cat.below hb, lat := h.lat.below hb }

/-- All its rows. -/
def tRow (n : Nat) (ts : List (List Bool)) (SS : List (List (List Bool))) (t : List Nat) : List (List Int) := leadTo n (allOf ts SS (nI t)) (t.length * ts.length)

theorem Tch.nin (h : Tch W s n vp vc ts cv cs SS lp lc t) : ∀ l, l ∈ nI t → 0 ≤ l ∧ l < (cs.length : Int) := by
  intro l hl
  obtain ⟨c, hc, rfl⟩ := List.mem_map.1 (show l ∈ t.map _ from hl)
  have := h.tin c hc
  constructor <;> omega

theorem Tch.sz (h : Tch W s n vp vc ts cv cs SS lp lc t) : ∀ u, u ∈ allOf ts SS (nI t) → tsz u = n :=
  allOf_size h.tz (fun l hl => (h.css l.toNat (by have := h.nin l hl; omega)).2.1)

theorem tRow_length (n : Nat) (ts : List (List Bool)) (SS : List (List (List Bool))) (t : List Nat) : (tRow n ts SS t).length = t.length * ts.length + 1 := leadTo_length _ _ _

theorem Tch.rws (h : Tch W s n vp vc ts cv cs SS lp lc t) : ∀ r, r ∈ tRow n ts SS t → Rw n r := leadTo_rows h.sz

theorem Tch.one (h : Tch W s n vp vc ts cv cs SS lp lc t) : 1 ≤ t.length * ts.length := Nat.mul_le_mul h.t1 h.l1

theorem Tch.rows (h : Tch W s n vp vc ts cv cs SS lp lc t) : Calls Try.prog 25 #[meth s n (.slice vp ts.length vc), cv, .slice lp t.length lc] W (RowsPost (tRow n ts SS t) W) := by
  have h9 := crows_ok s n vp vc ts cv cs SS (.slice lp t.length lc) (nI t) W (Nat.le_trans h.size (by omega)) h.nam h.n1 h.n2 h.l1 h.l2 h.tz h.val h.cat h.cok h.c1 h.c2 h.css h.lat (by rw [nI_len]; exact h.t1) (by rw [nI_len]; have := h.t2; omega) h.nin (by rw [nI_len]; exact h.mul)
  rw [nI_len] at h9
  exact h9

theorem Tch.rrows (h : Tch W s n vp vc ts cv cs SS lp lc t) : Calls Try.prog 16 #[.agg #[.string s, .int .i64 n, .slice vp ts.length vc], cv, .slice lp t.length lc] W (TRPost (tRow n ts SS t) W) :=
  rtouch_ok s n vp vc ts cv cs SS _ t W (by have := h.n1; omega) h.n2 h.l1 h.l2 h.tz h.val h.cat h.css h.lat h.t2 h.tin

theorem Tch.may (h : Tch W s n vp vc ts cv cs SS lp lc t) : Calls Try.prog 7 #[.agg #[.string s, .int .i64 n, .slice vp ts.length vc], cv, .slice lp t.length lc] W fun e w' => e = .returned (.int .i64 0) ∧ Below W.heap.size W w' := by
  have h9 := rtmay_ok s n vp vc (ts.map tpl) cv cs (.slice lp t.length lc) t W h.size h.isn h.n1 h.n2 (by rw [List.length_map]; exact h.l1) (by rw [List.length_map]; exact h.l2) (by rw [List.length_map]; exact h.val) (fun k hk => tile_ok h.tz hk) h.cat (by rw [List.length_map]; exact h.cok) h.c1 h.c2 h.lat h.t1 (by have := h.t2; omega) h.tin (by rw [List.length_map]; exact h.mul)
  rw [List.length_map] at h9
  exact h9

theorem Tch.mmay (h : Tch W s n vp vc ts cv cs SS lp lc t) : Calls Try.prog 12 #[.agg #[.string s, .int .i64 n, .slice vp ts.length vc]] W fun e w' => e = .returned (.int .i64 0) ∧ Below W.heap.size W w' := by
  have h9 := rmay_ok s n vp vc (ts.map tpl) W h.size h.isn h.n1 h.n2 (by rw [List.length_map]; exact h.l1) (by rw [List.length_map]; exact h.l2) (by rw [List.length_map]; exact h.val) (fun x hx => by
    obtain ⟨j, hj, e⟩ := List.getElem_of_mem hx
    have := tile_ok h.tz hj
    rw [List.getD_eq_getElem?_getD, List.getElem?_eq_getElem hj, Option.getD_some, e] at this
    exact pc_ok (by have := h.n1; omega) h.n2 this)
  rw [List.length_map] at h9
  exact h9

theorem Tch.prove (h : Tch W s n vp vc ts cv cs SS lp lc t) : Calls Try.prog 8 #[meth s n (.slice vp ts.length vc), cv, .slice lp t.length lc] W (ProveFull (t.length * ts.length) (tRow n ts SS t) W) :=
  prove_full s n vp ts.length vc cv _ (t.length * ts.length) _ W (by have := h.n1; omega) h.n2 (tRow_length n ts SS t) h.one h.mul h.rws (fun W' hW => (h.below hW).rows)

theorem Tch.rprove (h : Tch W s n vp vc ts cv cs SS lp lc t) : Calls Try.prog 15 #[.agg #[.string s, .int .i64 n, .slice vp ts.length vc], cv, .slice lp t.length lc] W (RFull (t.length * ts.length) n (tRow n ts SS t) W) :=
  rprove_full s n vp ts.length vc cv _ (t.length * ts.length) _ W (by have := h.n1; omega) h.n2 h.one h.mul (tRow_length n ts SS t) (fun r hr => ⟨(h.rws r hr).row, (h.rws r hr).len⟩) (by obtain ⟨b, o, c, e, _⟩ := h.cat; exact ⟨_, _, _, e⟩) ⟨_, _, _, rfl⟩ (fun W' hW => (h.below hW).rrows)

theorem Tch.heads (h : Tch W s n vp vc ts cv cs SS lp lc t) : Calls Try.prog 9 #[meth s n (.slice vp ts.length vc), cv, .slice lp t.length lc] W fun e w' => ∃ u vs, e = .returned (.tuple #[u, .int .i64 0]) ∧ LL w' W.heap.size u vs (headsOf (tRow n ts SS t) ts.length t.length) ∧ Below W.heap.size W w' :=
  heads_ok s n vp ts.length vc cv lp t.length lc _ W h.l1 (by have := h.t2; omega) h.l2 (tRow_length n ts SS t) (fun W' hW => (h.below hW).rows)

theorem Tch.fals (h : Tch W s n vp vc ts cv cs SS lp lc t) : Calls Try.prog 11 #[meth s n (.slice vp ts.length vc)] W (FalsePost n ts W) :=
  false_ok s n _ ts W (Nat.le_trans h.size (by omega)) h.nam h.n1 h.n2 h.l1 h.l2 h.tz h.val

theorem Tch.rfals (h : Tch W s n vp vc ts cv cs SS lp lc t) : Calls Try.prog 13 #[.agg #[.string s, .int .i64 n, .slice vp ts.length vc]] W (RFPost n (ldr n ts) W) :=
  rfalse_ok s n vp vc ts W h.n1 h.n2 h.l1 h.l2 h.tz h.val

theorem headsOf_in {n : Nat} {T : List (List Int)} {k N : Nat} (hT : T.length = N * k + 1) (h : ∀ r, r ∈ T → Rw n r) : ∀ r, r ∈ headsOf T k N → Rw n r := by
  intro r hr
  obtain ⟨i, hi, rfl⟩ := List.mem_map.1 hr
  have hi' : i < N := by simpa using hi
  have hik : i * k < T.length := by
    rw [hT]
    exact Nat.lt_succ_of_le (Nat.mul_le_mul_right k (Nat.le_of_lt hi'))
  refine h _ ?_
  simp only [List.getD, List.getElem?_eq_getElem hik, Option.getD_some]
  exact List.getElem_mem hik

/-- By the heads, where calls have one change at most. -/
theorem Tch.byOne (h : Tch W s n vp vc ts cv cs SS lp lc t) (h1 : ∀ c, c ∈ t → (SS.getD c []).length ≤ 1) : Calls Try.prog 10 #[meth s n (.slice vp ts.length vc), cv, .slice lp t.length lc] W fun e w' => ∃ q : Bool, e = .returned (.tuple #[.bool q, .int .i64 0]) ∧ (q = true ↔ ((tRow n ts SS t).take (t.length * ts.length)).Nodup) ∧ Below W.heap.size W w' := by
  have hu : ∀ l, l ∈ nI t → (SS.getD l.toNat []).length ≤ 1 := fun l hl => by
    obtain ⟨c, hc, rfl⟩ := List.mem_map.1 (show l ∈ t.map _ from hl)
    have := h1 c hc
    simpa using this
  have hlat := h.lat
  have hnl : (nI t).length = t.length := nI_len t
  have h9 := byHeads_ok s n vp vc ts cv cs lp lc (nI t) (tRow n ts SS t) W (Nat.le_trans h.size (by omega)) h.nam h.n1 h.n2 h.l1 h.l2 h.tz h.val h.cat (fun l hl => by
    have hb := h.nin l hl
    rw [(h.css l.toNat (by omega)).1, List.length_map]
    exact hu l hl) (by rw [hnl]; exact hlat) (by rw [hnl]; exact h.t1) (by rw [hnl]; have := h.t2; omega) h.nin (by rw [hnl]; exact tRow_length n ts SS t) (headsOf_in (by rw [hnl]; exact tRow_length n ts SS t) h.rws) (fun W' hW => by rw [hnl]; exact (h.below hW).rows)
  rw [hnl] at h9
  have hta := (touch_used h.l1 h.tz (fun l hl => ⟨(h.css l.toNat (by have := h.nin l hl; omega)).2.1, hu l hl⟩)).1
  rw [hnl] at hta
  have hbp := both_proofs h.n2 (ldr_rows h.tz) (headsOf_in (k := ts.length) (N := t.length) (tRow_length n ts SS t) h.rws) (fun e => by have h8 := ldr_length n ts; rw [e, List.length_nil] at h8; have := h.l1; omega) (fun e => by have h8 := headsOf_length (tRow n ts SS t) ts.length t.length; rw [e, List.length_nil] at h8; have := h.t1; omega)
  refine h9.mono ?_
  rintro e w' ⟨q, rfl, hq, hb⟩
  refine ⟨q, rfl, ?_, hb⟩
  rw [hq, ← hbp]
  unfold tRow
  rw [hta]

end Go.Proofs.Ytoiiadiimfohiaa

/- truth.ByHeads where a longer call is called. -/
namespace Go.Proofs.Ytoiiadiimfohiaa
open Go.RowKit
set_option maxRecDepth 20000
set_option linter.unusedVariables false

set_option maxHeartbeats 1000000 in
theorem longer_yes (c : Nat) (B : Nat) (v : Value) (cs : List (Int × List (List Int))) (w : World) (hB : w.cell? ⟨B, 0, none⟩ = some v) (h : CallsAt w v cs) (hc : c < cs.length) (hl : 1 < (cs.getD c (0, [])).2.length) :
    Calls Try.prog 29 #[.int .i64 c, .pointer (some ⟨B, 0, none⟩)] w fun e w' => e = .returned (.bool true) ∧ w = w' := by
  obtain ⟨b, off, cap, rfl, hb, hlc, hcm, hcell⟩ := h
  obtain ⟨u, a1, a2, a3⟩ := hcell c hc
  obtain ⟨up, uc, rfl⟩ := a3.len
  generalize (cs.getD c (0, [])).2.length = ul at *
  have hl2 : (1 : Int) < ((ul : Nat) : Int) := by omega
  clear hcell a3 a1
  go_enter Try.func29, Try.ntmps29
  go_wp2
  go_ret
  exact ⟨by simp, rfl⟩

set_option maxHeartbeats 1000000 in
theorem indexFunc_some (B : Nat) (v1 : Value) (ls : List Int) (p : Int → Bool) (w : World) (h : Ints w v1 ls) (h1 : 1 ≤ ls.length) (hsm : ∃ l, l ∈ ls ∧ p l = true) (hcl : ∀ l, l ∈ ls → Calls Try.prog 29 #[.int .i64 l, .pointer (some ⟨B, 0, none⟩)] w fun e w' => e = .returned (.bool (p l)) ∧ w = w') :
    Calls Try.prog 57 #[v1, .func (.func 29) #[] #[.pointer (some ⟨B, 0, none⟩)]] w fun e w' => (∃ k : Nat, e = .returned (.int .i64 (k : Int))) ∧ w = w' := by
  rcases h with ⟨rfl, _⟩ | ⟨b, off, cap, rfl, h0, hc, hm, hb, hcell⟩
  · simp at h1
  have HCL := hide hcl
  have HSM := hide hsm
  clear hcl hsm
  go_enter Try.func57, Try.ntmps57
  go_wp2
  go_loop [8] (fun i => ∃ k : Nat, k ≤ ls.length ∧ i = .int .i64 k ∧ Hid (∀ j, j < k → p (ls.getD j 0) = false)) (fun i => ls.length - (intOf i).toNat)
  case atStart => exact ⟨0, by omega, rfl, (fun j hj => absurd hj (by omega))⟩
  case round =>
    obtain ⟨k, hk, rfl, hN⟩ := hrel
    by_cases hlt : k < ls.length
    · obtain ⟨y, hy, hcx⟩ := cellAt hcell hlt
      have hyk : ls.getD k 0 = y := hy.out
      have hym : y ∈ ls := by
        rw [← hy.out, List.getElem?_eq_getElem hlt, Option.getD_some]
        exact List.getElem_mem _
      have HC1 := hide (HCL.out y hym)
      have HYK := hide hyk
      clear hcell hy hym hyk
      cases hpy : p y with
      | true =>
        rw [hpy] at HC1
        go_wp2_with fail
        refine HC1.out.mono ?_
        rintro e w' ⟨rfl, rfl⟩
        go_wp2
        go_ret
        exact ⟨⟨k, rfl⟩, rfl⟩
      | false =>
        rw [hpy] at HC1
        have HN2 : Hid (∀ j, j < k + 1 → p (ls.getD j 0) = false) := fun j hj => by
          rcases Nat.lt_succ_iff_lt_or_eq.1 hj with h | h
          · exact hN.out j h
          · rw [h, HYK.out]; exact hpy
        clear hN hpy
        go_wp2_with fail
        refine HC1.out.mono ?_
        rintro e w' ⟨rfl, rfl⟩
        go_wp2
        go_round
        case rel => exact ⟨k + 1, by omega, by go_num, HN2⟩
        case measure => simp [intOf]; omega
    · exfalso
      obtain ⟨l, hl, hpl⟩ := HSM.out
      obtain ⟨j, hj, e⟩ := List.getElem_of_mem hl
      have := hN.out j (by omega)
      rw [List.getD, List.getElem?_eq_getElem hj, Option.getD_some, e, hpl] at this
      cases this

set_option maxHeartbeats 1000000 in
theorem containsFunc_some (B : Nat) (v1 : Value) (ls : List Int) (p : Int → Bool) (w : World) (h : Ints w v1 ls) (h1 : 1 ≤ ls.length) (hsm : ∃ l, l ∈ ls ∧ p l = true) (hcl : ∀ l, l ∈ ls → Calls Try.prog 29 #[.int .i64 l, .pointer (some ⟨B, 0, none⟩)] w fun e w' => e = .returned (.bool (p l)) ∧ w = w') :
    Calls Try.prog 28 #[v1, .func (.func 29) #[] #[.pointer (some ⟨B, 0, none⟩)]] w fun e w' => e = .returned (.bool true) ∧ w = w' := by
  have HI := hide (indexFunc_some B v1 ls p w h h1 hsm hcl)
  obtain ⟨q, c, rfl⟩ := h.form
  clear h hcl hsm
  go_enter Try.func28, Try.ntmps28
  go_wp2_with fail
  refine HI.out.mono ?_
  rintro e w' ⟨⟨k, rfl⟩, rfl⟩
  go_wp2
  go_ret
  exact ⟨by simp, rfl⟩

variable {W : World} {s : ByteArray} {n : Nat} {vp : Option Addr} {vc : Nat} {ts : List (List Bool)} {cv : Value} {cs : List (Int × List (List Int))} {SS : List (List (List Bool))} {lp : Option Addr} {lc : Nat} {t : List Nat}

set_option maxHeartbeats 2000000 in
theorem Tch.byLong (h : Tch W s n vp vc ts cv cs SS lp lc t) (h1 : ∃ c, c ∈ t ∧ 1 < (SS.getD c []).length) : Calls Try.prog 10 #[meth s n (.slice vp ts.length vc), cv, .slice lp t.length lc] W fun e w' => e = .returned (.tuple #[.bool false, .int .i64 11]) ∧ Below W.heap.size W w' := by
  have hmf : ∀ (fn : Fn) (first cap : Array Value) (w : World), (Instr.makeFunc fn first cap).run Try.prog w = .ok (.func fn first cap) w := fun _ _ _ _ => rfl
  have hBW : Below W.heap.size W ((W.alloc (.cells #[.string s, .int .i64 n, .slice vp ts.length vc] 24)).alloc (.cells #[cv] 25)) := ((Below.refl _ _).alloc (Nat.le_refl _) _).alloc (by simp) _
  have HH := hide (h.below hBW).heads
  have HT := hide h
  have hcb : ((W.alloc (.cells #[.string s, .int .i64 n, .slice vp ts.length vc] 24)).alloc (.cells #[cv] 25)).cell? ⟨W.heap.size + 1, 0, none⟩ = some cv := by
    have h9 := heap_alloc_new (W.alloc (.cells #[.string s, .int .i64 n, .slice vp ts.length vc] 24)) (.cells #[cv] 25)
    rw [show (W.alloc (.cells #[.string s, .int .i64 n, .slice vp ts.length vc] 24)).heap.size = W.heap.size + 1 from by simp] at h9
    exact cell_of' h9
  have HCB := hide hcb
  obtain ⟨cb, coff, ccap, rfl, _, _, _, _⟩ := h.cat
  have HL1 := hide h1
  clear h h1 hcb
  unfold meth at HH
  unfold meth
  go_enter Try.func10, Try.ntmps10
  go_wp2_with fail
  refine HH.out.mono ?_
  rintro e w2 ⟨hd, hvs, rfl, hL2, hb2⟩
  have hB2 : Below W.heap.size W w2 := hBW.trans (hb2.mono hBW.size)
  have hcb2 : w2.cell? ⟨W.heap.size + 1, 0, none⟩ = some (.slice (some ⟨cb, coff, none⟩) cs.length ccap) := (hb2.cell (p := ⟨W.heap.size + 1, 0, none⟩) (by simp)).trans HCB.out
  have hT2 := HT.out.below hB2
  have HCF := hide (containsFunc_some (W.heap.size + 1) (.slice lp t.length lc) (nI t) (fun l => decide (1 < (SS.getD l.toNat []).length)) w2 hT2.lat (by rw [nI_len]; exact hT2.t1) (by
    obtain ⟨c, hc, hl⟩ := HL1.out
    exact ⟨(c : Int), List.mem_map.2 ⟨c, hc, rfl⟩, by simpa using hl⟩) (fun l hl => by
    obtain ⟨c, hc, rfl⟩ := List.mem_map.1 (show l ∈ t.map _ from hl)
    have hcc := hT2.tin c hc
    have hcs := (hT2.css c hcc).1
    simp only [Int.toNat_natCast]
    by_cases h9 : 1 < (SS.getD c []).length
    · rw [decide_eq_true h9]
      exact longer_yes c (W.heap.size + 1) _ cs w2 hcb2 hT2.cat hcc (by rw [hcs, List.length_map]; exact h9)
    · rw [decide_eq_false h9]
      exact longer_ok c (W.heap.size + 1) _ cs w2 hcb2 hT2.cat hcc (by rw [hcs, List.length_map]; omega)))
  obtain ⟨hdp, hdc, rfl⟩ := owns_slice hL2.row
  clear hL2 hb2 hcb2 HH HCB hT2 HT HL1
  go_wp2_with fail
  refine HCF.out.mono ?_
  rintro e w' ⟨rfl, rfl⟩
  go_wp2
  go_ret2
  exact ⟨rfl, hB2⟩

end Go.Proofs.Ytoiiadiimfohiaa
