/- Contracts of the answer's functions: SameAll, Cycles. -/
import Derived.Test.YtgglbafcocbhbaaRefC
import Derived.Deep.RegionWith
namespace Go.Proofs.Ytgglbafcocbhbaa
open Go.RowKit
set_option maxRecDepth 20000

/-- The slice value v holds these values. -/
def Vals (w : World) (v : Value) (vs : List Value) : Prop :=
  (vs = [] ∧ ∃ p c, v = .slice p 0 c) ∨
  ∃ b off cap, v = .slice (some ⟨b, off, none⟩) vs.length cap ∧ 0 < vs.length ∧ vs.length ≤ cap ∧ cap ≤ 9223372036854775807 ∧ b < w.heap.size ∧
    ∀ j, j < vs.length → w.cell? ⟨b, off + j, none⟩ = some (vs.getD j undef)

/-- The slice value v reads as a list of lists. -/
def IntsAll (w : World) (v : Value) (xss : List (List Int)) : Prop :=
  ∃ vs, Vals w v vs ∧ vs.length = xss.length ∧ ∀ j, j < xss.length → Ints w (vs.getD j undef) (xss.getD j [])

theorem Vals.below {w w' : World} {v : Value} {vs : List Value} (h : Vals w v vs) (hb : Below w.heap.size w w') : Vals w' v vs := by
  rcases h with h | ⟨b, off, cap, h1, h2, h3, h4, h5, h6⟩
  · exact Or.inl h
  · refine Or.inr ⟨b, off, cap, h1, h2, h3, h4, Nat.lt_of_lt_of_le h5 hb.size, fun j hj => ?_⟩
    rw [hb.cell (p := ⟨b, off + j, none⟩) h5]
    exact h6 j hj

theorem IntsAll.below {w w' : World} {v : Value} {xss : List (List Int)} (h : IntsAll w v xss) (hb : Below w.heap.size w w') : IntsAll w' v xss := by
  obtain ⟨vs, h1, h2, h3⟩ := h
  exact ⟨vs, h1.below hb, h2, fun j hj => (h3 j hj).below hb⟩

theorem Vals.form {w : World} {v : Value} {vs : List Value} (h : Vals w v vs) : ∃ p cap, v = .slice p vs.length cap := by
  rcases h with ⟨rfl, p, c, rfl⟩ | ⟨b, off, cap, h1, _⟩
  · exact ⟨p, c, rfl⟩
  · exact ⟨_, cap, h1⟩

theorem Vals.own {w : World} {base e : Nat} {v : Value} {vs : List Value} (h : w.ownsRow base e 1 v vs.length vs) : Vals w v vs := by
  rcases h.2 with ⟨rfl, h0⟩ | ⟨g, cap, cur, hv, _, hh, hn, hm, hs, ht⟩
  · exact Or.inl ⟨List.length_eq_zero_iff.1 h0, none, 0, rfl⟩
  · rcases Nat.eq_zero_or_pos vs.length with h0 | h0
    · exact Or.inl ⟨List.length_eq_zero_iff.1 h0, _, cap, by rw [hv, h0]⟩
    · refine Or.inr ⟨g, 0, cap, hv, h0, hn, by unfold maxLen at hm; omega, (Array.getElem?_eq_some_iff.1 hh).1, fun j hj => ?_⟩
      rw [Nat.zero_add]
      rw [hv] at h
      exact owns_val h hj

theorem IntsAll.own {w : World} {base e : Nat} {v : Value} {vs : List Value} {xss : List (List Int)} (h : w.ownsRow base e 1 v vs.length vs) (ha : OwnAll w base vs xss) : IntsAll w v xss :=
  ⟨vs, Vals.own h, OwnAll.length ha, fun j hj => Ints.own (ownAll_at ha (by rw [OwnAll.length ha]; exact hj))⟩

theorem takes_eq_snoc {xs ys : List (List Int)} {k : Nat} (h : xs.take k = ys.take k) (hx : k < xs.length) (hy : k < ys.length) (e : xs.getD k [] = ys.getD k []) : xs.take (k + 1) = ys.take (k + 1) := by
  rw [List.take_succ_eq_append_getElem hx, List.take_succ_eq_append_getElem hy, h]
  simp only [List.getD, List.getElem?_eq_getElem hx, List.getElem?_eq_getElem hy, Option.getD_some] at e
  rw [e]

theorem elAt {w : World} {b off k : Nat} {vs : List Value} (hcell : ∀ j, j < vs.length → w.cell? ⟨b, off + j, none⟩ = some (vs.getD j undef)) (h : k < vs.length) {X : List Int} (hi : Ints w (vs.getD k undef) X) :
    ∃ p c, w.cell? ⟨b, off + k, none⟩ = some (.slice p X.length c) ∧ Hid (Ints w (.slice p X.length c) X) := by
  obtain ⟨p, c, e⟩ := hi.form
  refine ⟨p, c, by rw [hcell k h, e], ?_⟩
  rw [← e]; exact hi

set_option maxRecDepth 20000 in
set_option maxHeartbeats 2000000 in
theorem sameAll_any (v1 v2 : Value) (xs ys : List (List Int)) (w : World) (h1 : IntsAll w v1 xs) (h2 : IntsAll w v2 ys) :
    Calls Try.prog 15 #[v1, v2] w fun e w' => e = .returned (.bool (decide (xs = ys))) ∧ Below w.heap.size w w' := by
  obtain ⟨vs, hv1, hl1, he1⟩ := h1
  obtain ⟨us, hv2, hl2, he2⟩ := h2
  by_cases hlen : xs.length = ys.length
  · have hvu : vs.length = us.length := by omega
    have hl : (((vs.length : Nat) : Int) != ((us.length : Nat) : Int)) = false := by rw [hvu]; simp
    rcases hv1 with ⟨rfl, p, c, rfl⟩ | ⟨b, off, cap, rfl, h0, hc, hm, hb, hcell⟩
    · obtain rfl : xs = [] := List.length_eq_zero_iff.1 (by simpa using hl1.symm)
      obtain rfl : ys = [] := List.length_eq_zero_iff.1 (by simpa using hlen.symm)
      obtain rfl : us = [] := List.length_eq_zero_iff.1 (by simpa using hl2)
      obtain ⟨p2, c2, rfl⟩ := hv2.form
      clear hv2 he1 he2 hl1 hl2 hlen hvu hl
      go_enter Try.func15, Try.ntmps15
      go_wp2
      go_loop [5] (fun i => i = .int .i64 0) (fun _ => 0)
      case atStart => rfl
      case round =>
        subst hrel
        go_wp2
        go_ret
        exact ⟨rfl, Below.refl _ _⟩
    · rcases hv2 with ⟨rfl, p, c, rfl⟩ | ⟨b2, off2, cap2, rfl, h02, hc2, hm2, hb2, hcell2⟩
      · simp at hvu; subst hvu; simp at h0
      · have HX := hide hl1
        have HY := hide hl2
        have HL := hide hlen
        have HVU := hide hvu
        have HE1 := hide he1
        have HE2 := hide he2
        have HC1 := hide hcell
        have HC2 := hide hcell2
        clear hlen hl1 hl2 he1 he2 hcell hcell2 hvu
        go_enter Try.func15, Try.ntmps15
        go_wp2
        go_loopw [5] (fun i wr => ∃ k : Nat, k ≤ vs.length ∧ i = .int .i64 k ∧ Hid (xs.take k = ys.take k) ∧ Below w.heap.size w wr) (fun i _ => vs.length - (intOf i).toNat)
        case atStart => exact ⟨0, by omega, rfl, by simp [Hid], Below.refl _ _⟩
        case round =>
          obtain ⟨k, hk, rfl, ht, hbw⟩ := hrel
          by_cases hlt : k < vs.length
          · have hlt2 : k < us.length := by have := HVU.out; omega
            obtain ⟨p1, c1, hcx, hix⟩ := elAt HC1.out hlt (HE1.out k (by have := HX.out; omega))
            obtain ⟨p2, c2, hcy, hiy⟩ := elAt HC2.out hlt2 (HE2.out k (by have := HY.out; omega))
            have gx : wr.cell? ⟨b, off + k, none⟩ = some (.slice p1 (xs.getD k []).length c1) := (hbw.cell (by exact hb)).trans hcx
            have gy : wr.cell? ⟨b2, off2 + k, none⟩ = some (.slice p2 (ys.getD k []).length c2) := (hbw.cell (by exact hb2)).trans hcy
            have HS := hide (same_any _ _ _ _ wr.drew (hix.out.below hbw.drew) (hiy.out.below hbw.drew))
            have hkx : k < xs.length := by have := HX.out; omega
            have hky : k < ys.length := by have := HY.out; omega
            have HT := hide (takes_eq_snoc ht.out hkx hky)
            have HN : Hid (xs.getD k [] ≠ ys.getD k [] → decide (xs = ys) = false) := fun hne => by
              rw [decide_eq_false_iff_not]; intro e; exact hne (by rw [e])
            generalize xs.getD k [] = X at *
            generalize ys.getD k [] = Y at *
            generalize X.length = lx at *
            generalize Y.length = ly at *
            clear hcx hcy hix hiy
            by_cases hxy : X = Y
            · rw [decide_eq_true hxy] at HS
              have HT' := hide (HT.out hxy)
              clear hxy HT HN
              go_wp2
              go_region_with (go_at_call 18; refine HS.out.mono ?_; rintro e w1 ⟨rfl, hb1⟩)
              all_goals
                have hB1 : Below w.heap.size w w1 := hbw.drew.trans (hb1.mono hbw.size)
                clear hb1
                go_wp2
                go_roundw
                case rel =>
                  have hfin : ∃ k' : Nat, k' ≤ vs.length ∧ Value.int .i64 ((k : Int) + 1) = .int .i64 (k' : Int) ∧ Hid (xs.take k' = ys.take k') ∧ Below w.heap.size w w1 := ⟨k + 1, by omega, by go_num, HT', hB1⟩
                  first
                    | exact hfin
                    | ((repeat apply Exists.intro); exact ⟨hfin, rfl⟩)
                case measure => simp [intOf]; omega
            · rw [decide_eq_false hxy] at HS
              have HN' := hide (HN.out hxy)
              clear hxy HT HN
              go_wp2
              go_region_with (go_at_call 18; refine HS.out.mono ?_; rintro e w1 ⟨rfl, hb1⟩)
              all_goals
                have hB1 : Below w.heap.size w w1 := hbw.drew.trans (hb1.mono hbw.size)
                clear hb1
                go_wp2
                go_ret
                exact ⟨ret_bool HN'.out.symm, hB1⟩
          · go_wp2
            go_ret
            refine ⟨ret_bool ?_, hbw⟩
            symm
            rw [decide_eq_true_iff]
            have h3 := ht.out
            have h4 := HX.out
            have h5 := HY.out
            have h6 := HVU.out
            rwa [List.take_of_length_le (by omega), List.take_of_length_le (by omega)] at h3
  · obtain ⟨p1, c1, rfl⟩ := hv1.form
    obtain ⟨p2, c2, rfl⟩ := hv2.form
    have hl : (((vs.length : Nat) : Int) != ((us.length : Nat) : Int)) = true := by rw [bne_iff_ne]; omega
    have hd : decide (xs = ys) = false := by rw [decide_eq_false_iff_not]; intro e; exact hlen (by rw [e])
    have HD := hide hd
    clear hlen hv1 hv2 he1 he2 hl1 hl2 hd
    go_enter Try.func15, Try.ntmps15
    go_wp2
    go_ret
    exact ⟨ret_bool HD.out.symm, Below.refl _ _⟩

end Go.Proofs.Ytgglbafcocbhbaa
