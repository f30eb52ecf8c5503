/- Slices that a call has made itself; contracts: Rounds (both), Times, Back. -/
import Derived.Test.YtgglbafcocbhbaaCheck
namespace Go.Proofs.Ytgglbafcocbhbaa
open Go.RowKit

theorem Try.info3 : (Try.prog.info? 3).map (fun i => (i.zero, i.size, i.bytes)) = some (some (.int .i64 0), 1, 8) := by kernel_rfl

theorem owns_set {w : World} {base e g n cap m : Nat} {xs : List Value} (h : w.ownsRow base e 1 (.slice (some ⟨g, 0, none⟩) n cap) n xs) (u : Value) :
    (w.setCell ⟨g, m, none⟩ u).ownsRow base e 1 (.slice (some ⟨g, 0, none⟩) n cap) n (xs.set m u) := by
  obtain ⟨h1, h2⟩ := h
  refine ⟨by rw [List.length_set]; exact h1, ?_⟩
  rcases h2 with ⟨h2, _⟩ | ⟨g', cap', cur, hv, hb, hh, hn, hx, hs, ht⟩
  · cases h2
  · injection hv with e1 _ e3
    injection e1 with e1
    injection e1 with e1
    subst e1; subst e3
    refine Or.inr ⟨g, cap, cur.setIfInBounds m u, rfl, hb, ?_, hn, hx, by simpa using hs, ?_⟩
    · simp [World.setCell, Array.getElem?_modify, hh]
    · rw [Array.toList_setIfInBounds, List.take_set, ht]

theorem owns_cell {w : World} {base e g n cap j : Nat} {zs : List Int} (h : w.ownsRow base e 1 (.slice (some ⟨g, 0, none⟩) n cap) n (zs.map (Value.int .i64))) (hj : j < n) :
    w.cell? ⟨g, j, none⟩ = some (.int .i64 (zs.getD j 0)) ∧ w.frozen? ⟨g, j, none⟩ = false := by
  have hl : zs.length = n := by have := h.1; simpa using this
  constructor
  · have := h.cells (g := g) rfl j (.int .i64 (zs.getD j 0)) (by simp [List.getElem?_map, List.getD, List.getElem?_eq_getElem (by omega : j < zs.length)])
    rw [Addr.add_lit, Nat.zero_add] at this
    exact this
  · rcases h.2 with ⟨h2, _⟩ | ⟨g', cap', cur, hv, hb, hh, hn, hx, hs, ht⟩
    · cases h2
    · injection hv with e1 _ e3
      injection e1 with e1
      injection e1 with e1
      subst e1
      simp [World.frozen?, hh]

theorem owns_cellAt {w : World} {base e g n cap j : Nat} {zs : List Int} (h : w.ownsRow base e 1 (.slice (some ⟨g, 0, none⟩) n cap) n (zs.map (Value.int .i64))) (hj : j < n) :
    ∃ y, Hid (zs[j]?.getD 0 = y) ∧ w.cell? ⟨g, j, none⟩ = some (.int .i64 y) ∧ w.frozen? ⟨g, j, none⟩ = false := ⟨_, rfl, (owns_cell h hj).1, (owns_cell h hj).2⟩

theorem owns_set_int {w : World} {base e g n cap m : Nat} {zs : List Int} (h : w.ownsRow base e 1 (.slice (some ⟨g, 0, none⟩) n cap) n (zs.map (Value.int .i64))) (y : Int) :
    (w.setCell ⟨g, m, none⟩ (.int .i64 y)).ownsRow base e 1 (.slice (some ⟨g, 0, none⟩) n cap) n ((zs.set m y).map (Value.int .i64)) := by
  rw [List.map_set]; exact owns_set h _

theorem made_ints (n : Nat) : (madeCells #[Value.int .i64 0] n).toList = (List.replicate n (0 : Int)).map (Value.int .i64) := by
  apply List.ext_getElem
  · simp [madeCells]
  · intro i h1 h2
    simp [madeCells, Nat.mod_one]

/-- Rounds, as a list. -/
def rnd (n : Nat) : List Int := (List.range n).map (fun (i : Nat) => (i : Int))

theorem rnd_length (n : Nat) : (rnd n).length = n := by simp [rnd]

theorem rnd_get {n j : Nat} (h : j < n) : (rnd n).getD j 0 = j := by simp [rnd, List.getD, h]

theorem eq_rnd {n : Nat} {zs : List Int} (hl : zs.length = n) (h : ∀ j, j < n → zs.getD j 0 = (j : Int)) : zs = rnd n := by
  apply List.ext_getElem
  · rw [hl, rnd_length]
  · intro i h1 h2
    have h3 := h i (by omega)
    have h4 := rnd_get (n := n) (j := i) (by omega)
    simp only [List.getD, List.getElem?_eq_getElem h1, List.getElem?_eq_getElem h2, Option.getD_some] at h3 h4
    rw [h3, h4]

theorem getD_set {zs : List Int} {m j : Nat} {y : Int} (h : m < zs.length) : (zs.set m y).getD j 0 = if m = j then y else zs.getD j 0 := by
  simp only [List.getD, List.getElem?_set]
  by_cases e : m = j
  · subst e; simp [h]
  · simp [e]

set_option maxHeartbeats 1000000 in
theorem rounds_ok (n : Nat) (w : World) (h1 : 1 ≤ n) (h2 : n ≤ 12) :
    Calls Try.prog 23 #[.int .i64 n] w fun e w' => ∃ v, e = .returned (.tuple #[v, .int .i64 0]) ∧ w'.ownsRow w.heap.size 3 1 v n ((rnd n).map (Value.int .i64)) ∧ Below w.heap.size w w' := by
  obtain ⟨i0, hi, hz0, hz1, hz2⟩ := info_parts Try.info3
  go_enter Try.func23, Try.ntmps23
  go_wp2_with (first
    | (go_at_call 43; refine (mayCount_yes _ _ (by omega) (by omega)).mono ?_; rintro e w' ⟨rfl, rfl⟩)
    | (at_make; refine wpList_make_full _ rfl _ _ 22 rfl w.heap.size 3 i0 (.int .i64 0) 1 Try.underlying22 hi hz0 hz1 _ _ _ _ n rfl rfl (by omega) (by omega) ?b2 ?b3 (Nat.le_refl _) ?_))
  case b2 => rw [hz2]; omega
  case b3 => unfold maxLen; omega
  intro w0 hown0 hgrow0
  rw [made_ints] at hown0
  go_wp2
  go_loopw [13] (fun i wr => ∃ (k : Nat) (zs : List Int), k ≤ n ∧ i = .int .i64 k ∧ wr.ownsRow w.heap.size 3 1 (.slice (some ⟨w.heap.size, 0, none⟩) n n) n (zs.map (Value.int .i64)) ∧ Hid (zs.length = n ∧ ∀ j, j < k → zs.getD j 0 = (j : Int)) ∧ Below w.heap.size w wr) (fun i _ => n - (intOf i).toNat)
  case atStart => exact ⟨0, _, by omega, rfl, hown0, ⟨by simp, fun j hj => by omega⟩, (Below.refl _ _).grown hgrow0 (Nat.le_refl _) (fun k h => by cases h)⟩
  case round =>
    obtain ⟨k, zs, hk, rfl, hown, hz, hbw⟩ := hrel
    by_cases hlt : k < n
    · obtain ⟨y, hy, hcx, hfx⟩ := owns_cellAt hown hlt
      have HZ : Hid ((zs.set k (k : Int)).length = n ∧ ∀ j, j < k + 1 → (zs.set k (k : Int)).getD j 0 = (j : Int)) := by
        refine ⟨by rw [List.length_set]; exact hz.out.1, fun j hj => ?_⟩
        rw [getD_set (by have := hz.out.1; omega)]
        split
        · omega
        · exact hz.out.2 j (by omega)
      go_wp2
      go_roundw
      case rel => exact ⟨k + 1, _, by omega, by go_num, owns_set_int hown _, HZ, hbw.setCell (Nat.le_refl _) _⟩
      case measure => simp [intOf]; omega
    · go_wp2
      go_ret2
      have e : zs = rnd n := eq_rnd hz.out.1 (fun j hj => hz.out.2 j (by omega))
      subst e
      exact ⟨_, rfl, hown, hbw⟩

theorem rnd_snoc (k : Nat) : rnd (k + 1) = rnd k ++ [(k : Int)] := by
  simp [rnd, List.range_succ]

set_option maxHeartbeats 1000000 in
theorem rrounds_ok (n : Nat) (w : World) (h2 : n ≤ 1000000) :
    Calls Try.prog 26 #[.int .i64 n] w fun e w' => ∃ v, e = .returned v ∧ w'.ownsRow w.heap.size 3 1 v n ((rnd n).map (Value.int .i64)) ∧ Below w.heap.size w w' := by
  obtain ⟨i0, hi, hz0, hz1, hz2⟩ := info_parts Try.info3
  go_enter Try.func26, Try.ntmps26
  go_wp2
  go_loopw [3, 4] (fun v i wr => ∃ (k : Nat), k ≤ n ∧ i = .int .i64 k ∧ wr.ownsRow w.heap.size 3 1 v k ((rnd k).map (Value.int .i64)) ∧ Below w.heap.size w wr) (fun _ i _ => n - (intOf i).toNat)
  case atStart => exact ⟨0, by omega, rfl, World.ownsRow_nil _ _ _ _, Below.refl _ _⟩
  case round =>
    obtain ⟨k, hk, rfl, hown, hbw⟩ := hrel
    by_cases hlt : k < n
    · have hbs := hbw.size
      go_wp2_with (at_builtin; refine wpList_append_own _ rfl _ _ 22 rfl w.heap.size 3 i0 (.int .i64 0) 1 8 Try.underlying22 hi hz0 hz1 hz2 rfl (by decide) _ _ _ rfl (hown.alloc _) ⟨wr.heap.size, 0, none⟩ 1 1 [.int .i64 (k : Int)] rfl rfl ?c1 ?c2 ?c3 ?c4 ?c5 ?_)
      case c1 => exact cell_one_new _ _ _
      case c2 => intro u hu; simp at hu; subst hu; rfl
      case c3 => unfold maxLen; omega
      case c4 => omega
      case c5 => simp; omega
      · intro v' w1 hown' hgrow _
        go_wp2
        go_roundw
        case rel => exact ⟨k + 1, by omega, by go_num, by rw [rnd_snoc, List.map_append]; exact hown', (hbw.alloc hbw.size _).grown hgrow (by simp; omega) (fun g hg => (hown.lt g hg).1)⟩
        case measure => simp [intOf]; omega
    · obtain rfl : k = n := by omega
      go_wp2
      go_ret
      exact ⟨_, rfl, hown, hbw⟩

/-- a, changed by b. -/
def by_ (a b : List Int) : List Int := b.map (fun j => a.getD j.toNat 0)

theorem by_length (a b : List Int) : (by_ a b).length = b.length := by simp [by_]

theorem by_get {a b : List Int} {j : Nat} (h : j < b.length) : (by_ a b).getD j 0 = a.getD (b.getD j 0).toNat 0 := by
  simp [by_, List.getD, h]

theorem ext_getD {xs ys : List Int} (hl : xs.length = ys.length) (h : ∀ j, j < xs.length → xs.getD j 0 = ys.getD j 0) : xs = ys := by
  apply List.ext_getElem hl
  intro i h1 h2
  have h3 := h i h1
  simpa only [List.getD, List.getElem?_eq_getElem h1, List.getElem?_eq_getElem h2, Option.getD_some] using h3

theorem isRow.at {xs : List Int} (h : isRow xs) {j : Nat} (hj : j < xs.length) : 0 ≤ xs.getD j 0 ∧ xs.getD j 0 < xs.length := by
  have e : xs.getD j 0 = xs[j] := by simp [List.getD, List.getElem?_eq_getElem hj]
  rw [e]
  exact h.1 _ (List.getElem_mem hj)

theorem isRow.inj {xs : List Int} (h : isRow xs) {i j : Nat} (hi : i < xs.length) (hj : j < xs.length) (e : xs.getD i 0 = xs.getD j 0) : i = j := by
  simp only [List.getD, List.getElem?_eq_getElem hi, List.getElem?_eq_getElem hj, Option.getD_some] at e
  exact (List.getElem_inj h.2).1 e

theorem times_step {a b zs : List Int} {k : Nat} {y : Int} (hk : k < b.length) (hy : y = a.getD (b.getD k 0).toNat 0) (hz : zs.length = b.length ∧ ∀ j, j < k → zs.getD j 0 = (by_ a b).getD j 0) :
    (zs.set k y).length = b.length ∧ ∀ j, j < k + 1 → (zs.set k y).getD j 0 = (by_ a b).getD j 0 := by
  refine ⟨by rw [List.length_set]; exact hz.1, fun j hj => ?_⟩
  rw [getD_set (by omega)]
  split
  · rename_i e; subst e; rw [by_get hk, hy]
  · exact hz.2 j (by omega)

set_option maxHeartbeats 1000000 in
theorem times_own (v1 v2 : Value) (a b : List Int) (w : World) (i1 : Ints w v1 a) (i2 : Ints w v2 b) (r1 : isRow a) (r2 : isRow b) (n1 : 1 ≤ a.length) (n2 : a.length ≤ 12) (hab : b.length = a.length) :
    Calls Try.prog 21 #[v1, v2] w fun e w' => ∃ v, e = .returned (.tuple #[v, .int .i64 0]) ∧ w'.ownsRow w.heap.size 3 1 v a.length ((by_ a b).map (Value.int .i64)) ∧ Below w.heap.size w w' := by
  obtain ⟨i0, hi, hz0, hz1, hz2⟩ := info_parts Try.info3
  have hc1 := chk_ok n1 n2 r1
  have hc2 := chk_ok (by omega) (by omega) r2
  have C1 := check_any v1 a w i1
  rw [hc1] at C1
  have C2 : ∀ w', Below w.heap.size w w' → Calls Try.prog 13 #[v2] w' fun e w'' => e = .returned (.int .i64 0) ∧ Below w'.heap.size w' w'' := by
    intro w' hb
    have := check_any v2 b w' (i2.below hb)
    rwa [hc2] at this
  have HC1 := hide C1
  have HC2 := hide C2
  have HAB : Hid (b.length = a.length) := hab
  have R1 := hide r1
  have R2 := hide r2
  clear C1 C2 hc1 hc2
  rcases i1 with ⟨rfl, p, c, rfl⟩ | ⟨b1, o1, cap1, rfl, h01, hcp1, hm1, hb1, hcell1⟩
  · simp at n1
  rcases i2 with ⟨rfl, p, c, rfl⟩ | ⟨b2, o2, cap2, rfl, h02, hcp2, hm2, hb2, hcell2⟩
  · simp at hab; omega
  have hne : (((a.length : Nat) : Int) != ((b.length : Nat) : Int)) = false := by rw [hab]; simp
  clear hab r1 r2
  go_enter Try.func21, Try.ntmps21
  go_wp2_with fail
  refine HC1.out.mono ?_
  rintro e w1 ⟨rfl, hbw1⟩
  go_wp2_with fail
  refine (HC2.out w1 hbw1).mono ?_
  rintro e w2 ⟨rfl, hbw2⟩
  have hB2 : Below w.heap.size w w2 := hbw1.trans (hbw2.mono hbw1.size)
  clear hbw1 hbw2 HC1 HC2
  go_wp2_with (at_make; refine wpList_make_full _ rfl _ _ 22 rfl w.heap.size 3 i0 (.int .i64 0) 1 Try.underlying22 hi hz0 hz1 _ _ _ _ a.length rfl rfl (by omega) (by omega) ?b2 ?b3 hB2.size ?_)
  case b2 => rw [hz2]; omega
  case b3 => unfold maxLen; omega
  intro w0 hown0 hgrow0
  rw [made_ints] at hown0
  go_wp2
  go_loopw [31] (fun i wr => ∃ (k : Nat) (zs : List Int), k ≤ b.length ∧ i = .int .i64 k ∧ wr.ownsRow w.heap.size 3 1 (.slice (some ⟨w2.heap.size, 0, none⟩) a.length a.length) a.length (zs.map (Value.int .i64)) ∧ Hid (zs.length = b.length ∧ ∀ j, j < k → zs.getD j 0 = (by_ a b).getD j 0) ∧ Below w.heap.size w wr) (fun i _ => b.length - (intOf i).toNat)
  case atStart => exact ⟨0, _, by omega, rfl, hown0, ⟨by simp [HAB.out], fun j hj => by omega⟩, hB2.grown hgrow0 hB2.size (fun k h => by cases h)⟩
  case round =>
    obtain ⟨k, zs, hk, rfl, hown, hz, hbw⟩ := hrel
    by_cases hlt : k < b.length
    · have hka : k < a.length := by rw [← HAB.out]; exact hlt
      obtain ⟨y, hy, hcx, hfx⟩ := owns_cellAt hown hka
      obtain ⟨p, hp, hcp⟩ := cellAt hcell2 hlt
      have hpr := R2.out.at hlt
      rw [show b.getD k 0 = p from hp.out] at hpr
      obtain ⟨m, rfl⟩ := Int.eq_ofNat_of_zero_le hpr.1
      have hma : m < a.length := by have := hpr.2; have := HAB.out; omega
      obtain ⟨q, hq, hcq⟩ := cellAt hcell1 hma
      have gp : wr.cell? ⟨b2, o2 + k, none⟩ = some (.int .i64 (m : Int)) := (hbw.cell (by exact hb2)).trans hcp
      have gq : wr.cell? ⟨b1, o1 + m, none⟩ = some (.int .i64 q) := (hbw.cell (by exact hb1)).trans hcq
      have HZ := hide (times_step (a := a) (y := q) hlt (by rw [show b.getD k 0 = (m : Int) from hp.out, Int.toNat_natCast]; exact hq.out.symm) hz.out)
      clear hcp hcq hcell1 hcell2 hpr
      go_wp2
      go_roundw
      case rel => exact ⟨k + 1, _, by omega, by go_num, owns_set_int hown _, HZ, hbw.setCell hB2.size _⟩
      case measure => simp [intOf]; omega
    · clear hcell1 hcell2
      go_wp2
      go_ret2
      have e : zs = by_ a b := ext_getD (by rw [hz.out.1, by_length]) (fun j hj => hz.out.2 j (by have := hz.out.1; omega))
      subst e
      exact ⟨_, rfl, hown, hbw⟩

theorem times_ok (v1 v2 : Value) (a b : List Int) (w : World) (i1 : Ints w v1 a) (i2 : Ints w v2 b) (r1 : isRow a) (r2 : isRow b) (n1 : 1 ≤ a.length) (n2 : a.length ≤ 12) (hab : b.length = a.length) :
    Calls Try.prog 21 #[v1, v2] w fun e w' => ∃ v, e = .returned (.tuple #[v, .int .i64 0]) ∧ Ints w' v (by_ a b) ∧ Below w.heap.size w w' := by
  refine (times_own v1 v2 a b w i1 i2 r1 r2 n1 n2 hab).mono ?_
  rintro e w' ⟨v, rfl, ho, hb⟩
  exact ⟨v, rfl, Ints.own ho, hb⟩

end Go.Proofs.Ytgglbafcocbhbaa
