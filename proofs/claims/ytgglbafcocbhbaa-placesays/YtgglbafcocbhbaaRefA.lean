/- Contracts of the answer's functions: RowMay, Undo, By. -/
import Derived.Test.YtgglbafcocbhbaaRanks
namespace Go.Proofs.Ytgglbafcocbhbaa
open Go.RowKit

/-- How often b is in the list. -/
def occ (b : Int) (xs : List Int) : Nat := (xs.filter (fun y => y == b)).length

theorem occ_le (b : Int) (xs : List Int) : occ b xs ≤ xs.length := List.length_filter_le _ _

theorem occ_snoc (b y : Int) (xs : List Int) : occ b (xs ++ [y]) = occ b xs + if y = b then 1 else 0 := by
  unfold occ
  rw [List.filter_append, List.length_append]
  by_cases h : y = b <;> simp [h]

theorem perm_of_sub {α : Type} [DecidableEq α] : ∀ (l m : List α), l.Nodup → (∀ x ∈ l, x ∈ m) → l.length = m.length → l.Perm m := by
  intro l
  induction l with
  | nil => intro m _ _ hl; rw [List.length_eq_zero_iff.1 hl.symm]
  | cons a l ih =>
    intro m hn hs hl
    have ha : a ∈ m := hs a List.mem_cons_self
    have hn' := List.nodup_cons.1 hn
    have h1 := ih (m.erase a) hn'.2 (fun x hx => (List.mem_erase_of_ne (fun e => hn'.1 (by rw [← e]; exact hx))).2 (hs x (List.mem_cons_of_mem _ hx))) (by rw [List.length_erase_of_mem ha]; simp at hl; omega)
    exact (h1.cons a).trans (List.perm_cons_erase ha).symm

theorem occ_mem {b : Int} {xs : List Int} (h : occ b xs = 1) : b ∈ xs := by
  unfold occ at h
  have h1 : 0 < (xs.filter (fun y => y == b)).length := by omega
  obtain ⟨y, hy⟩ := List.exists_mem_of_length_pos h1
  have h2 := List.mem_filter.1 hy
  have e : y = b := by simpa using h2.2
  rw [← e]; exact h2.1

theorem row_of_occ {xs : List Int} (h : ∀ b, b < xs.length → occ (b : Int) xs = 1) : isRow xs := by
  have hp := perm_of_sub (rnd xs.length) xs (isRow_rnd _).2 (fun x hx => by
    obtain ⟨i, hi, rfl⟩ := List.mem_map.1 hx
    exact occ_mem (h i (List.mem_range.1 hi))) (rnd_length _)
  exact isRow_perm hp.symm (isRow_rnd _)

theorem occ_of_row {xs : List Int} (h : isRow xs) {b : Nat} (hb : b < xs.length) : occ (b : Int) xs = 1 := by
  obtain ⟨j, hj, e⟩ := isRow_onto h hb
  have hm : (b : Int) ∈ xs := by
    rw [← e, show xs.getD j 0 = xs[j] from by simp [List.getD, List.getElem?_eq_getElem hj]]
    exact List.getElem_mem hj
  have key : ∀ (l : List Int), l.Nodup → (b : Int) ∈ l → occ (b : Int) l = 1 := by
    intro l
    induction l with
    | nil => intro _ hm; cases hm
    | cons x l ih =>
      intro hn hm
      have hn' := List.nodup_cons.1 hn
      unfold occ
      by_cases e : x = (b : Int)
      · subst e
        rw [List.filter_cons_of_pos (by simp), List.filter_eq_nil_iff.2 (fun y hy => by
          intro h2
          have e2 : y = (b : Int) := by simpa using h2
          exact hn'.1 (e2 ▸ hy))]
        rfl
      · rw [List.filter_cons_of_neg (by simpa using e)]
        rcases List.mem_cons.1 hm with h2 | h2
        · exact absurd h2.symm e
        · exact ih hn'.2 h2
  exact key xs h.2 hm

set_option maxRecDepth 20000 in
set_option maxHeartbeats 1000000 in
theorem rowMay_any (v : Value) (xs : List Int) (w : World) (h : Ints w v xs) :
    Calls Try.prog 7 #[v] w fun e w' => e = .returned (.int .i64 (chk xs)) ∧ w = w' := by
  by_cases hc12 : 1 ≤ xs.length ∧ xs.length ≤ 12
  · obtain ⟨hn1, hn2⟩ := hc12
    rcases h with ⟨rfl, p, c, rfl⟩ | ⟨b, off, cap, rfl, h0, hc, hm, hb, hcell⟩
    · simp at hn1
    · go_enter Try.func7, Try.ntmps7
      go_wp2
      go_loop [3] (fun sb => ∃ k : Nat, k ≤ xs.length ∧ sb = .int .i64 k ∧ Hid (∀ j, j < k → occ (j : Int) xs = 1)) (fun sb => xs.length - (intOf sb).toNat)
      case atStart => exact ⟨0, by omega, rfl, fun j hj => by omega⟩
      case round =>
        obtain ⟨k, hk, rfl, hg⟩ := hrel
        by_cases hlt : k < xs.length
        · go_wp2
          go_loop [4, 5] (fun sn si => ∃ i : Nat, i ≤ xs.length ∧ si = .int .i64 i ∧ sn = .int .i64 (occ (k : Int) (xs.take i))) (fun _ si => xs.length - (intOf si).toNat)
          case atStart => exact ⟨0, by omega, rfl, rfl⟩
          case round =>
            obtain ⟨i, hi, rfl, rfl⟩ := hrel
            have hol := occ_le (k : Int) (xs.take i)
            have hol2 : (xs.take i).length ≤ i := List.length_take_le _ _
            by_cases hit : i < xs.length
            · obtain ⟨y, hy, hcy⟩ := cellAt hcell hit
              have HS : Hid (occ (k : Int) (xs.take (i + 1)) = occ (k : Int) (xs.take i) + if y = (k : Int) then 1 else 0) := by show _ = _; rw [take_snoc xs i hit, hy.out]; exact occ_snoc _ _ _
              clear hcell
              by_cases hyk : y = (k : Int)
              · have ht : (y == (k : Int)) = true := by simpa using hyk
                have HYK := hide hyk
                clear hyk
                go_wp2
                go_round
                case rel => exact ⟨i + 1, by omega, by go_num, by rw [HS.out, if_pos HYK.out]; go_num⟩
                case measure => simp [intOf]; omega
              · have ht : (y == (k : Int)) = false := by simpa using hyk
                have HYK := hide hyk
                clear hyk
                go_wp2
                go_round
                case rel => exact ⟨i + 1, by omega, by go_num, by rw [HS.out, if_neg HYK.out]; go_num⟩
                case measure => simp [intOf]; omega
            · have e : xs.take i = xs := List.take_of_length_le (by omega)
              rw [e] at hol ⊢
              clear hcell e
              by_cases ho : occ (k : Int) xs = 1
              · have ht : ((occ (k : Int) xs : Int) != 1) = false := by rw [bne_eq_false_iff_eq]; omega
                have HG : Hid (∀ j, j < k + 1 → occ (j : Int) xs = 1) := by
                  intro j hj
                  by_cases e : j = k
                  · subst e; exact ho
                  · exact hg.out j (by omega)
                clear ho
                go_wp2
                go_round
                case rel => exact ⟨k + 1, by omega, by go_num, HG⟩
                case measure => simp [intOf]; omega
              · have ht : ((occ (k : Int) xs : Int) != 1) = true := by rw [bne_iff_ne]; omega
                have HB := hide (chk_row hn1 hn2 (fun hr => ho (occ_of_row hr hlt)))
                clear ho
                go_wp2
                go_ret
                exact ⟨ret_int HB.out.symm, rfl⟩
        · have HB := hide (chk_ok hn1 hn2 (row_of_occ (fun j hj => hg.out j (by omega))))
          clear hcell
          go_wp2
          go_ret
          exact ⟨ret_int HB.out.symm, rfl⟩
  · obtain ⟨p, c, rfl⟩ := h.form
    have HC := hide (chk_count hc12)
    by_cases h1 : ((xs.length : Nat) : Int) < 1
    · clear hc12 h
      go_enter Try.func7, Try.ntmps7
      go_wp2
      go_ret
      exact ⟨ret_int HC.out.symm, rfl⟩
    · have h2 : 12 < ((xs.length : Nat) : Int) := by omega
      have h3 : decide (12 < ((xs.length : Nat) : Int)) = true := by simp; omega
      clear hc12 h
      go_enter Try.func7, Try.ntmps7
      go_wp2
      go_ret
      exact ⟨ret_int HC.out.symm, rfl⟩

set_option maxRecDepth 20000 in
set_option maxHeartbeats 1000000 in
theorem undo_own (v1 : Value) (a : List Int) (w : World) (i1 : Ints w v1 a) (r1 : isRow a) (n1 : 1 ≤ a.length) (n2 : a.length ≤ 12) :
    Calls Try.prog 19 #[v1] w fun e w' => ∃ v zs, e = .returned v ∧ w'.ownsRow w.heap.size 3 1 v a.length (zs.map (Value.int .i64)) ∧ Undoes zs a ∧ Below w.heap.size w w' := by
  obtain ⟨i0, hi, hz0, hz1, hz2⟩ := info_parts Try.info3
  have R1 := hide r1
  rcases i1 with ⟨rfl, p, c, rfl⟩ | ⟨b1, o1, cap1, rfl, h01, hcp1, hm1, hb1, hcell1⟩
  · simp at n1
  clear r1
  go_enter Try.func19, Try.ntmps19
  go_wp2_with (at_make; refine wpList_make_full _ rfl _ _ 22 rfl w.heap.size 3 i0 (.int .i64 0) 1 Try.underlying22 hi hz0 hz1 _ _ _ _ a.length rfl rfl (by omega) (by omega) ?b2 ?b3 (Nat.le_refl _) ?_)
  case b2 => rw [hz2]; omega
  case b3 => unfold maxLen; omega
  intro w0 hown0 hgrow0
  rw [made_ints] at hown0
  go_wp2
  go_loopw [4] (fun i wr => ∃ (k : Nat) (zs : List Int), k ≤ a.length ∧ i = .int .i64 k ∧ wr.ownsRow w.heap.size 3 1 (.slice (some ⟨w.heap.size, 0, none⟩) a.length a.length) a.length (zs.map (Value.int .i64)) ∧ Hid (zs.length = a.length ∧ ∀ j, j < k → zs.getD (a.getD j 0).toNat 0 = (j : Int)) ∧ Below w.heap.size w wr) (fun i _ => a.length - (intOf i).toNat)
  case atStart => exact ⟨0, _, by omega, rfl, hown0, ⟨by simp, fun j hj => by omega⟩, (Below.refl _ _).grown hgrow0 (Nat.le_refl _) (fun k h => by cases h)⟩
  case round =>
    obtain ⟨k, zs, hk, rfl, hown, hz, hbw⟩ := hrel
    by_cases hlt : k < a.length
    · obtain ⟨p, hp, hcp⟩ := cellAt hcell1 hlt
      have hpr := R1.out.at hlt
      rw [show a.getD k 0 = p from hp.out] at hpr
      obtain ⟨m, rfl⟩ := Int.eq_ofNat_of_zero_le hpr.1
      have hma : m < a.length := by have := hpr.2; omega
      obtain ⟨y, hy, hcx, hfx⟩ := owns_cellAt hown hma
      have gp : wr.cell? ⟨b1, o1 + k, none⟩ = some (.int .i64 (m : Int)) := (hbw.cell (by exact hb1)).trans hcp
      have HZ := hide (back_step R1.out hlt hp.out hz.out)
      clear hcp hcell1 hpr
      go_wp2
      go_roundw
      case rel => exact ⟨k + 1, _, by omega, by go_num, owns_set_int hown _, HZ, hbw.setCell (Nat.le_refl _) _⟩
      case measure => simp [intOf]; omega
    · clear hcell1
      obtain rfl : k = a.length := by omega
      go_wp2
      go_ret
      exact ⟨_, zs, rfl, hown, hz.out, hbw⟩

theorem undo_ok (v1 : Value) (a : List Int) (w : World) (i1 : Ints w v1 a) (r1 : isRow a) (n1 : 1 ≤ a.length) (n2 : a.length ≤ 12) :
    Calls Try.prog 19 #[v1] w fun e w' => ∃ v zs, e = .returned v ∧ Ints w' v zs ∧ Undoes zs a ∧ Below w.heap.size w w' := by
  refine (undo_own v1 a w i1 r1 n1 n2).mono ?_
  rintro e w' ⟨v, zs, rfl, ho, hu, hb⟩
  exact ⟨v, zs, rfl, Ints.own ho, hu, hb⟩

theorem by_take_snoc (a b : List Int) (k m : Nat) (hk : k < b.length) (hm : b[k]?.getD 0 = (m : Int)) : by_ a (b.take (k + 1)) = by_ a (b.take k) ++ [a[m]?.getD 0] := by
  rw [take_snoc b k hk, hm]
  simp [by_, List.getD]

set_option maxRecDepth 20000 in
set_option maxHeartbeats 1000000 in
theorem rby_own (v1 v2 : Value) (a b : List Int) (w : World) (i1 : Ints w v1 a) (i2 : Ints w v2 b) (hb : ∀ j, j < b.length → 0 ≤ b.getD j 0 ∧ b.getD j 0 < a.length) (n1 : 1 ≤ a.length) (n2 : b.length ≤ 1000000) :
    Calls Try.prog 22 #[v1, v2] w fun e w' => ∃ v, e = .returned v ∧ w'.ownsRow w.heap.size 3 1 v b.length ((by_ a b).map (Value.int .i64)) ∧ Below w.heap.size w w' := by
  obtain ⟨i0, hi, hz0, hz1, hz2⟩ := info_parts Try.info3
  have HBd := hide hb
  clear hb
  rcases i1 with ⟨rfl, p, c, rfl⟩ | ⟨b1, o1, cap1, rfl, h01, hcp1, hm1, hb1, hcell1⟩
  · simp at n1
  obtain ⟨p2, cap2, e2, hcell2⟩ : ∃ p2 cap2, v2 = .slice p2 b.length cap2 ∧ Hid (∀ j, j < b.length → ∃ b2 o2, p2 = some ⟨b2, o2, none⟩ ∧ b.length ≤ cap2 ∧ cap2 ≤ 9223372036854775807 ∧ b2 < w.heap.size ∧ w.cell? ⟨b2, o2 + j, none⟩ = some (.int .i64 (b.getD j 0))) := by
    rcases i2 with ⟨rfl, p, c, rfl⟩ | ⟨b2, o2, cap2, rfl, h02, hcp2, hm2, hb2, hc2⟩
    · exact ⟨p, c, rfl, fun j hj => by simp at hj⟩
    · exact ⟨_, cap2, rfl, fun j hj => ⟨b2, o2, rfl, hcp2, hm2, hb2, hc2 j hj⟩⟩
  subst e2
  have HC1 := hide hcell1
  clear i2 hcell1
  go_enter Try.func22, Try.ntmps22
  go_wp2
  go_loopw [5, 6] (fun v i wr => ∃ k : Nat, k ≤ b.length ∧ i = .int .i64 k ∧ wr.ownsRow w.heap.size 3 1 v k ((by_ a (b.take k)).map (Value.int .i64)) ∧ Below w.heap.size w wr) (fun _ i _ => b.length - (intOf i).toNat)
  case atStart => exact ⟨0, by omega, rfl, World.ownsRow_nil _ _ _ _, Below.refl _ _⟩
  case round =>
    obtain ⟨k, hk, rfl, hown, hbw⟩ := hrel
    have hbs := hbw.size
    by_cases hlt : k < b.length
    · obtain ⟨b2, o2, rfl, hcp2, hm2, hb2, hc2⟩ := hcell2.out k hlt
      have hpr := HBd.out k hlt
      obtain ⟨m, hm⟩ := Int.eq_ofNat_of_zero_le hpr.1
      have hma : m < a.length := by have := hpr.2; omega
      obtain ⟨q, hq, hcq⟩ := cellAt HC1.out hma
      have gp : wr.cell? ⟨b2, o2 + k, none⟩ = some (.int .i64 (m : Int)) := (hbw.cell (by exact hb2)).trans (by rw [hc2, hm])
      have gq : wr.cell? ⟨b1, o1 + m, none⟩ = some (.int .i64 q) := (hbw.cell (by exact hb1)).trans hcq
      have HT : Hid (by_ a (b.take (k + 1)) = by_ a (b.take k) ++ [q]) := by show _ = _; rw [by_take_snoc a b k m hlt hm, hq.out]
      clear hcq hc2 hpr hm
      go_wp2_with (at_builtin; refine wpList_append_own _ rfl _ _ 22 rfl w.heap.size 3 i0 (.int .i64 0) 1 8 Try.underlying22 hi hz0 hz1 hz2 rfl (by decide) _ _ _ rfl (hown.alloc _) ⟨wr.heap.size, 0, none⟩ 1 1 [.int .i64 q] rfl rfl ?c1 ?c2 ?c3 ?c4 ?c5 ?_)
      case c1 => exact cell_one_new _ _ _
      case c2 => intro u hu; simp at hu; subst hu; rfl
      case c3 => unfold maxLen; omega
      case c4 => omega
      case c5 => simp; omega
      · intro v' w1 hown' hgrow _
        go_wp2
        go_roundw
        case rel => exact ⟨k + 1, by omega, by go_num, by rw [HT.out, List.map_append]; exact hown', (hbw.alloc hbw.size _).grown hgrow (by simp; omega) (fun g hg => (hown.lt g hg).1)⟩
        case measure => simp [intOf]; omega
    · obtain rfl : k = b.length := by omega
      rw [List.take_length] at hown
      go_wp2
      go_ret
      exact ⟨_, rfl, hown, hbw⟩

theorem rby_ok (v1 v2 : Value) (a b : List Int) (w : World) (i1 : Ints w v1 a) (i2 : Ints w v2 b) (hb : ∀ j, j < b.length → 0 ≤ b.getD j 0 ∧ b.getD j 0 < a.length) (n1 : 1 ≤ a.length) (n2 : b.length ≤ 1000000) :
    Calls Try.prog 22 #[v1, v2] w fun e w' => ∃ v, e = .returned v ∧ Ints w' v (by_ a b) ∧ Below w.heap.size w w' := by
  refine (rby_own v1 v2 a b w i1 i2 hb n1 n2).mono ?_
  rintro e w' ⟨v, rfl, ho, hb'⟩
  exact ⟨v, rfl, Ints.own ho, hb'⟩

end Go.Proofs.Ytgglbafcocbhbaa
