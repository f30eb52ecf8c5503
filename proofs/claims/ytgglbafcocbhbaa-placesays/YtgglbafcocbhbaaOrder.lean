/- Contract: Order. -/
import Derived.Test.YtgglbafcocbhbaaCycs
namespace Go.Proofs.Ytgglbafcocbhbaa
open Go.RowKit

def ordTo (xss : List (List Int)) : Nat → Nat
  | 0 => 1
  | j + 1 => Nat.lcm (ordTo xss j) (xss.getD j []).length

def oddTo (xss : List (List Int)) : Nat → Bool
  | 0 => false
  | j + 1 => if (xss.getD j []).length % 2 = 0 then !(oddTo xss j) else oddTo xss j

theorem cycsTo_len {a : List Int} (h : isRow a) (k : Nat) (hk : k ≤ a.length) : ∀ x ∈ cycsTo a k, 1 ≤ x.length ∧ x.length ≤ a.length := by
  induction k with
  | zero => intro x hx; cases hx
  | succ k ih =>
    intro x hx
    have hx' : x ∈ if (k : Int) ∈ (cycsTo a k).flatten then cycsTo a k else cycsTo a k ++ [orb a k (per a k)] := hx
    have hp := per_spec h (show k < a.length by omega)
    split at hx'
    · exact ih (by omega) x hx'
    · rcases List.mem_append.1 hx' with h1 | h1
      · exact ih (by omega) x h1
      · rw [List.mem_singleton.1 h1, orb_length]; exact ⟨hp.1, hp.2.1⟩

theorem cycsTo_pos (a : List Int) (k : Nat) : 1 ≤ (cycsTo a (k + 1)).length := by
  induction k with
  | zero => simp [cycsTo]
  | succ k ih =>
    show 1 ≤ (if ((k + 1 : Nat) : Int) ∈ (cycsTo a (k + 1)).flatten then cycsTo a (k + 1) else cycsTo a (k + 1) ++ [orb a (k + 1) (per a (k + 1))]).length
    split
    · exact ih
    · simp

theorem ordTo_bound {xss : List (List Int)} (h : ∀ x ∈ xss, 1 ≤ x.length ∧ x.length ≤ 12) (j : Nat) (hj : j ≤ xss.length) : 1 ≤ ordTo xss j ∧ ordTo xss j ≤ 12 ^ j := by
  induction j with
  | zero => exact ⟨Nat.le_refl _, Nat.le_refl _⟩
  | succ j ih =>
    obtain ⟨h1, h2⟩ := ih (by omega)
    have hx := h (xss.getD j []) (by rw [show xss.getD j [] = xss[j] from by simp [List.getD, List.getElem?_eq_getElem (show j < xss.length by omega)]]; exact List.getElem_mem _)
    have e : ordTo xss (j + 1) = Nat.lcm (ordTo xss j) (xss.getD j []).length := rfl
    rw [e]
    refine ⟨Nat.lcm_pos h1 hx.1, ?_⟩
    refine Nat.le_trans (Nat.le_of_dvd (Nat.mul_pos h1 hx.1) (Nat.lcm_dvd_mul _ _)) ?_
    rw [Nat.pow_succ]
    exact Nat.mul_le_mul h2 hx.2

theorem ownAll_at {w : World} {base : Nat} : ∀ {us : List Value} {xs : List (List Int)} {j : Nat}, OwnAll w base us xs → j < us.length → w.ownsRow base 3 1 (us.getD j undef) (xs.getD j []).length ((xs.getD j []).map (Value.int .i64))
  | _ :: _, _ :: _, 0, ⟨h1, _⟩, _ => h1
  | _ :: us, _ :: xs, j + 1, ⟨_, h2⟩, hj => by
    have := ownAll_at (j := j) h2 (by simpa using hj)
    simpa using this

theorem owns_slice {w : World} {base e n : Nat} {v : Value} {xs : List Value} (h : w.ownsRow base e 1 v n xs) : ∃ p cap, v = .slice p n cap := by
  rcases h.2 with ⟨rfl, h0⟩ | ⟨g, cap, cur, rfl, _⟩
  · exact ⟨none, 0, by rw [h0]⟩
  · exact ⟨_, cap, rfl⟩

theorem owns_val {w : World} {base e g n cap j : Nat} {vs : List Value} (h : w.ownsRow base e 1 (.slice (some ⟨g, 0, none⟩) n cap) n vs) (hj : j < n) : w.cell? ⟨g, j, none⟩ = some (vs.getD j undef) := by
  have hl : vs.length = n := by have := h.1; simpa using this
  have := h.cells (g := g) rfl j (vs.getD j undef) (by simp [List.getD, List.getElem?_eq_getElem (by omega : j < vs.length)])
  rw [Addr.add_lit, Nat.zero_add] at this
  exact this

theorem cyc_cell {w : World} {base g cap j : Nat} {vs : List Value} {xss : List (List Int)} (h : w.ownsRow base 22 1 (.slice (some ⟨g, 0, none⟩) vs.length cap) vs.length vs) (ha : OwnAll w base vs xss) (hj : j < vs.length) :
    ∃ p c, w.cell? ⟨g, j, none⟩ = some (.slice p (xss.getD j []).length c) := by
  obtain ⟨p, c, e⟩ := owns_slice (ownAll_at ha hj)
  exact ⟨p, c, by rw [owns_val h hj, e]⟩

theorem ret_ord {xss : List (List Int)} {i j : Nat} (h : i = j) : Ending.returned (.tuple #[.int .i64 (ordTo xss i), .bool (oddTo xss i), .int .i64 0]) = Ending.returned (.tuple #[.int .i64 (ordTo xss j), .bool (oddTo xss j), .int .i64 0]) := by rw [h]

set_option maxHeartbeats 2000000 in
theorem order_ok (v1 : Value) (a : List Int) (w : World) (i1 : Ints w v1 a) (r1 : isRow a) (n1 : 1 ≤ a.length) (n2 : a.length ≤ 12) :
    Calls Try.prog 9 #[v1] w fun e w' => e = .returned (.tuple #[.int .i64 (ordTo (cycsTo a a.length) (cycsTo a a.length).length), .bool (oddTo (cycsTo a a.length) (cycsTo a a.length).length), .int .i64 0]) ∧ Below w.heap.size w w' := by
  have HC := hide (cycles_ok v1 a w i1 r1 n1 n2)
  have hl := cycsTo_length a a.length
  have hpos : 1 ≤ (cycsTo a a.length).length := by
    obtain ⟨m, hm⟩ : ∃ m, a.length = m + 1 := ⟨a.length - 1, by omega⟩
    rw [hm]; exact cycsTo_pos a m
  have hall := cycsTo_len r1 a.length (Nat.le_refl _)
  clear r1
  generalize cycsTo a a.length = xss at *
  have HALL := hide hall
  clear hall i1
  go_enter Try.func9, Try.ntmps9
  go_wp2_with fail
  refine HC.out.mono ?_
  rintro e w2 ⟨v, vs, D, rfl, hrow, hown, hD, hB⟩
  have hvl := OwnAll.length hown
  obtain ⟨g, cap, rfl, hg, hg2, hgc, hcm⟩ := owns_form hrow (by omega)
  have hcell := hide (fun j (hj : j < vs.length) => cyc_cell hrow hown hj)
  have HVL := hide hvl
  have hv12 : vs.length ≤ 12 := by omega
  clear hrow hown hvl HC
  go_wp2
  go_loop [2, 3, 18] (fun o d i => ∃ j : Nat, j ≤ vs.length ∧ i = .int .i64 j ∧ o = .int .i64 (ordTo xss j) ∧ d = .bool (oddTo xss j)) (fun _ _ i => vs.length - (intOf i).toNat)
  case atStart => exact ⟨0, by omega, rfl, rfl, rfl⟩
  case round =>
    obtain ⟨j, hj, rfl, rfl, rfl⟩ := hrel
    by_cases hlt : j < vs.length
    · obtain ⟨p, c, hc⟩ := hcell.out j hlt
      have hx := HALL.out (xss.getD j []) (by
        have h1 : j < xss.length := by have := HVL.out; omega
        rw [show xss.getD j [] = xss[j] from by simp [List.getD, List.getElem?_eq_getElem h1]]; exact List.getElem_mem _)
      have hb := ordTo_bound (fun x hx => by have := HALL.out x hx; exact ⟨this.1, by omega⟩) j (by have := HVL.out; omega)
      have hpw : 12 ^ j ≤ 12 ^ 11 := Nat.pow_le_pow_right (by decide) (by omega)
      have HO : Hid (ordTo xss (j + 1) = Nat.lcm (ordTo xss j) (xss.getD j []).length) := rfl
      have HD : Hid (oddTo xss (j + 1) = if (xss.getD j []).length % 2 = 0 then !(oddTo xss j) else oddTo xss j) := rfl
      generalize (xss.getD j []).length = L at *
      generalize ordTo xss j = o at *
      generalize oddTo xss j = d at *
      have hmul : o * L ≤ 1000000000000000 := by
        have h1 : o * L ≤ 12 ^ 11 * 12 := Nat.mul_le_mul (by omega) (by omega)
        exact Nat.le_trans h1 (by decide)
      have HLM := hide (leastMultiple_any o L w2 hb.1 hx.1 hmul)
      have hlc : Nat.lcm o L ≤ 1000000000000000 := Nat.le_trans (Nat.le_of_dvd (Nat.mul_pos hb.1 hx.1) (Nat.lcm_dvd_mul _ _)) hmul
      have hx1 := hx.1
      have hx2 := hx.2
      clear hb hmul hpw hx
      by_cases hev : L % 2 = 0
      · have ht : (((L : Nat) : Int) % 2 == 0) = true := by rw [beq_iff_eq]; omega
        have HEV := hide hev
        clear hev
        go_wp2_with fail
        refine HLM.out.mono ?_
        rintro e w3 ⟨rfl, rfl⟩
        go_wp2
        go_round
        case rel => exact ⟨j + 1, by omega, by go_num, by rw [HO.out], by rw [HD.out, if_pos HEV.out]⟩
        case measure => simp [intOf]; omega
      · have ht : (((L : Nat) : Int) % 2 == 0) = false := by rw [beq_eq_false_iff_ne]; omega
        have HEV := hide hev
        clear hev
        go_wp2_with fail
        refine HLM.out.mono ?_
        rintro e w3 ⟨rfl, rfl⟩
        go_wp2
        go_round
        case rel => exact ⟨j + 1, by omega, by go_num, by rw [HO.out], by rw [HD.out, if_neg HEV.out]⟩
        case measure => simp [intOf]; omega
    · have HEJ : Hid (j = xss.length) := by have := HVL.out; show _ = _; omega
      go_wp2
      go_ret3
      exact ⟨ret_ord HEJ.out, hB⟩

end Go.Proofs.Ytgglbafcocbhbaa
