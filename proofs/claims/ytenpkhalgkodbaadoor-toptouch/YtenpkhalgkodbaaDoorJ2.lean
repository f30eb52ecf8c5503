/- Joined: Ranks, RefA, RefB, Rno, Name, Rns. -/
import Derived.Test.YtenpkhalgkodbaaDoorJ1
import Derived.Lib.RuneCount
import Derived.Lib.DecodeN
/- Plain: the row at a rank has that rank; texts come back; what undoes a row. -/
namespace Go.Proofs.YtenpkhalgkodbaaDoor

theorem cons_erase_perm (L : List Int) (q : Nat) (h : q < L.length) : (L.getD q 0 :: L.eraseIdx q).Perm L := by
  rw [show L.getD q 0 = L[q] from by simp [List.getD, List.getElem?_eq_getElem h]]
  have e : L = L.take q ++ L[q] :: L.drop (q + 1) := by rw [← List.drop_eq_getElem_cons h, List.take_append_drop]
  rw [List.eraseIdx_eq_take_drop_succ]
  exact (List.perm_middle (l₁ := L.take q)).symm.trans (by rw [← e])

theorem atl_perm : ∀ (m : Nat) (L : List Int) (k : Nat), L.length = m → k < fct m → (atl m L k).Perm L
  | 0, L, _, hl, _ => by rw [List.length_eq_zero_iff.1 hl]; exact List.Perm.refl _
  | m + 1, L, k, hl, hk => by
    have hG := fct_pos m
    have hq : k / fct m < L.length := by rw [hl, Nat.div_lt_iff_lt_mul hG]; exact hk
    have ih := atl_perm m (L.eraseIdx (k / fct m)) (k % fct m) (by rw [List.length_eraseIdx_of_lt hq]; omega) (Nat.mod_lt _ hG)
    exact (ih.cons _).trans (cons_erase_perm L _ hq)

theorem rnd_sorted (n : Nat) : (rnd n).Pairwise (· < ·) := by
  unfold rnd
  rw [List.pairwise_map]
  exact List.Pairwise.imp (fun h => by omega) (List.pairwise_lt_range (n := n))

theorem isRow_rnd (n : Nat) : isRow (rnd n) := by
  constructor
  · intro y hy
    rw [rnd_length]
    obtain ⟨i, hi, rfl⟩ := List.mem_map.1 hy
    have := List.mem_range.1 hi
    omega
  · rw [List.nodup_iff_pairwise_ne]
    exact List.Pairwise.imp (fun h => by omega) (rnd_sorted n)

theorem isRow_perm {xs ys : List Int} (h : xs.Perm ys) (hy : isRow ys) : isRow xs :=
  ⟨fun y hm => by rw [h.length_eq]; exact hy.1 y (h.mem_iff.1 hm), h.nodup_iff.2 hy.2⟩

/-- The row with rank k. -/
def rowAt (n k : Nat) : List Int := atl n (rnd n) k

theorem rowAt_perm {n k : Nat} (hk : k < fct n) : (rowAt n k).Perm (rnd n) := atl_perm n (rnd n) k (rnd_length n) hk

theorem rowAt_row {n k : Nat} (hk : k < fct n) : isRow (rowAt n k) := isRow_perm (rowAt_perm hk) (isRow_rnd n)

theorem rowAt_length {n k : Nat} (hk : k < fct n) : (rowAt n k).length = n := by rw [(rowAt_perm hk).length_eq, rnd_length]

/-- The rank, from the first bell on. -/
def rankR : List Int → Nat
  | [] => 0
  | x :: xs => cnt x xs * fct xs.length + rankR xs

theorem rkTo_rankR (xs : List Int) (k : Nat) (h : k ≤ xs.length) : rkTo xs k * fct (xs.length - k) + rankR (xs.drop k) = rankR xs := by
  induction k with
  | zero => simp [rkTo]
  | succ k ih =>
    rw [← ih (by omega)]
    have e : xs.drop k = xs.getD k 0 :: xs.drop (k + 1) := by
      rw [List.drop_eq_getElem_cons (by omega)]; simp [List.getD, List.getElem?_eq_getElem (show k < xs.length by omega)]
    rw [e]
    show (rkTo xs k * (xs.length - k) + cnt (xs.getD k 0) (xs.drop (k + 1))) * fct (xs.length - (k + 1)) + rankR (xs.drop (k + 1)) = rkTo xs k * fct (xs.length - k) + (cnt (xs.getD k 0) (xs.drop (k + 1)) * fct (xs.drop (k + 1)).length + rankR (xs.drop (k + 1)))
    have e2 : fct (xs.length - k) = (xs.length - k) * fct (xs.length - (k + 1)) := by
      rw [show xs.length - k = (xs.length - (k + 1)) + 1 from by omega]; rfl
    rw [e2, List.length_drop, Nat.add_mul, Nat.mul_assoc]
    omega

theorem rkTo_all (xs : List Int) : rkTo xs xs.length = rankR xs := by
  have h := rkTo_rankR xs xs.length (Nat.le_refl _)
  rw [Nat.sub_self, List.drop_length] at h
  simpa [fct, rankR] using h

theorem cnt_perm {x : Int} {l m : List Int} (h : l.Perm m) : cnt x l = cnt x m := (h.filter _).length_eq

theorem cnt_erase {L : List Int} (hs : L.Pairwise (· < ·)) {q : Nat} (h : q < L.length) : cnt (L.getD q 0) (L.eraseIdx q) = q := by
  rw [show L.getD q 0 = L[q] from by simp [List.getD, List.getElem?_eq_getElem h]]
  have e : L = L.take q ++ L[q] :: L.drop (q + 1) := by rw [← List.drop_eq_getElem_cons h, List.take_append_drop]
  rw [List.eraseIdx_eq_take_drop_succ]
  have hp := hs
  rw [e, List.pairwise_append] at hp
  obtain ⟨_, hp2, hp3⟩ := hp
  have hp4 := (List.pairwise_cons.1 hp2).1
  unfold cnt
  rw [List.filter_append, List.length_append]
  have e1 : (L.take q).filter (fun y => decide (y < L[q])) = L.take q := List.filter_eq_self.2 (fun y hy => by simpa using hp3 y hy L[q] (List.mem_cons_self))
  have e2 : (L.drop (q + 1)).filter (fun y => decide (y < L[q])) = [] := List.filter_eq_nil_iff.2 (fun y hy => by have := hp4 y hy; simp; omega)
  rw [e1, e2, List.length_take]
  simp; omega

theorem rankR_atl : ∀ (m : Nat) (L : List Int) (k : Nat), L.length = m → L.Pairwise (· < ·) → k < fct m → rankR (atl m L k) = k
  | 0, L, k, hl, _, hk => by
    have : k = 0 := by have : fct 0 = 1 := rfl; omega
    rw [this]; rfl
  | m + 1, L, k, hl, hs, hk => by
    have hG := fct_pos m
    have hq : k / fct m < L.length := by rw [hl, Nat.div_lt_iff_lt_mul hG]; exact hk
    have hl' : (L.eraseIdx (k / fct m)).length = m := by rw [List.length_eraseIdx_of_lt hq]; omega
    have hr := Nat.mod_lt k hG
    have hp := atl_perm m (L.eraseIdx (k / fct m)) (k % fct m) hl' hr
    have ih := rankR_atl m (L.eraseIdx (k / fct m)) (k % fct m) hl' (hs.sublist (List.eraseIdx_sublist _ _)) hr
    show cnt (L.getD (k / fct m) 0) (atl m (L.eraseIdx (k / fct m)) (k % fct m)) * fct (atl m (L.eraseIdx (k / fct m)) (k % fct m)).length + rankR (atl m (L.eraseIdx (k / fct m)) (k % fct m)) = k
    rw [cnt_perm hp, cnt_erase hs hq, hp.length_eq, hl', ih, Nat.mul_comm]
    exact Nat.div_add_mod k (fct m)

theorem rank_rowAt {n k : Nat} (hk : k < fct n) : rkTo (rowAt n k) (rowAt n k).length = k := by
  rw [rkTo_all]; exact rankR_atl n (rnd n) k (rnd_length n) (rnd_sorted n) hk

/-! texts -/

theorem bl_sign {m : Nat} (hm : m < 12) : bl (UInt8.ofNat (sg m)) = m := by
  refine bl_of hm ?_
  have := sg_lt m
  rw [UInt8.toNat_ofNat']; omega

theorem isRow_lt12 {xs : List Int} (h : isRow xs) (h12 : xs.length ≤ 12) : ∀ x ∈ xs, 0 ≤ x ∧ x.toNat < 12 := fun x hx => by have := h.1 x hx; omega

theorem bells_txt {xs : List Int} (h : isRow xs) (h12 : xs.length ≤ 12) : bells (strOfNums (txt xs)).data.toList = xs := by
  rw [strOfNums_data]
  unfold bells txt
  rw [List.map_map, List.map_map]
  have hx := isRow_lt12 h h12
  conv => rhs; rw [← List.map_id xs]
  refine List.map_congr_left (fun x hm => ?_)
  have := hx x hm
  show ((bl (UInt8.ofNat ((sg x.toNat : Nat) : Int).toNat) : Nat) : Int) = x
  rw [Int.toNat_natCast, bl_sign this.2]
  omega

theorem txt_signs {xs : List Int} (h : isRow xs) (h12 : xs.length ≤ 12) : ∀ q, (hq : q < (strOfNums (txt xs)).size) → bl (strOfNums (txt xs))[q] < 12 := by
  intro q hq
  have hx := isRow_lt12 h h12
  have hm : (strOfNums (txt xs))[q] ∈ (strOfNums (txt xs)).data.toList := by
    exact Array.mem_toList_iff.2 (Array.getElem_mem (xs := (strOfNums (txt xs)).data) hq)
  rw [strOfNums_data] at hm
  obtain ⟨t, ht, e⟩ := List.mem_map.1 hm
  obtain ⟨x, hx', rfl⟩ := List.mem_map.1 ht
  rw [← e, Int.toNat_natCast, bl_sign (hx x hx').2]
  exact (hx x hx').2

/-! what undoes a row -/

theorem isRow_onto {a : List Int} (h : isRow a) {i : Nat} (hi : i < a.length) : ∃ j, j < a.length ∧ a.getD j 0 = (i : Int) := by
  apply Classical.byContradiction
  intro hn
  have hni : ¬ (i : Int) ∈ a := by
    intro hm
    obtain ⟨j, hj, e⟩ := List.getElem_of_mem hm
    exact hn ⟨j, hj, by simp [List.getD, List.getElem?_eq_getElem hj, e]⟩
  have hl := nodup_len ((i : Int) :: a) (rnd a.length) (List.nodup_cons.2 ⟨hni, h.2⟩) (fun x hx => by
    have hx' : 0 ≤ x ∧ x < a.length := by
      rcases List.mem_cons.1 hx with rfl | hx
      · omega
      · exact h.1 x hx
    exact List.mem_map.2 ⟨x.toNat, List.mem_range.2 (by omega), by omega⟩)
  rw [rnd_length] at hl
  simp at hl
  omega

theorem undoes_at {zs a : List Int} (ha : isRow a) (hz : Undoes zs a) {i : Nat} (hi : i < a.length) : ∃ j, j < a.length ∧ a.getD j 0 = (i : Int) ∧ zs.getD i 0 = (j : Int) := by
  obtain ⟨j, hj, e⟩ := isRow_onto ha hi
  have := hz.2 j hj
  rw [e, Int.toNat_natCast] at this
  exact ⟨j, hj, e, this⟩

theorem isRow_undoes {zs a : List Int} (ha : isRow a) (hz : Undoes zs a) : isRow zs := by
  constructor
  · intro y hy
    obtain ⟨i, hi, rfl⟩ := List.getElem_of_mem hy
    obtain ⟨j, hj, _, e⟩ := undoes_at ha hz (show i < a.length by rw [← hz.1]; exact hi)
    rw [show zs.getD i 0 = zs[i] from by simp [List.getD, List.getElem?_eq_getElem hi]] at e
    rw [e, hz.1]; omega
  · rw [List.nodup_iff_pairwise_ne, List.pairwise_iff_getElem]
    intro i j hi hj hij e
    obtain ⟨i', _, a1, e1⟩ := undoes_at ha hz (show i < a.length by rw [← hz.1]; exact hi)
    obtain ⟨j', _, a2, e2⟩ := undoes_at ha hz (show j < a.length by rw [← hz.1]; exact hj)
    rw [show zs.getD i 0 = zs[i] from by simp [List.getD, List.getElem?_eq_getElem hi]] at e1
    rw [show zs.getD j 0 = zs[j] from by simp [List.getD, List.getElem?_eq_getElem hj]] at e2
    rw [e1, e2] at e
    have : i' = j' := by omega
    subst this
    omega

theorem by_undoes {zs a : List Int} (ha : isRow a) (hz : Undoes zs a) : by_ a zs = rnd a.length := by
  refine eq_rnd (by rw [by_length, hz.1]) (fun i hi => ?_)
  obtain ⟨j, hj, a1, e⟩ := undoes_at ha hz hi
  rw [by_get (by rw [hz.1]; exact hi), e, Int.toNat_natCast, a1]

theorem by_assoc {x y z : List Int} (hz : isRow z) (hl : z.length = y.length) : by_ (by_ x y) z = by_ x (by_ y z) := by
  refine ext_getD (by rw [by_length, by_length, by_length]) (fun j hj => ?_)
  rw [by_length] at hj
  have h1 := hz.at hj
  rw [by_get (a := by_ x y) hj, by_get (a := x) (b := y) (by omega), by_get (a := x) (b := by_ y z) (by rw [by_length]; exact hj), by_get (a := y) hj]

end Go.Proofs.YtenpkhalgkodbaaDoor

/- Contracts of the answer's functions: RowMay, Undo, By. -/
namespace Go.Proofs.YtenpkhalgkodbaaDoor
open Go.RowKit

/-- How often b is in the list. -/
def occ (b : Int) (xs : List Int) : Nat := (xs.filter (fun y => y == b)).length

theorem occ_le (b : Int) (xs : List Int) : occ b xs ≤ xs.length := List.length_filter_le _ _

theorem occ_snoc (b y : Int) (xs : List Int) : occ b (xs ++ [y]) = occ b xs + if y = b then 1 else 0 := by
  unfold occ
  rw [List.filter_append, List.length_append]
  by_cases h : y = b <;> simp [h]

theorem perm_of_sub {α : Type} [DecidableEq α] : ∀ (l m : List α), l.Nodup → (∀ x ∈ l, x ∈ m) → l.length = m.length → l.Perm m := by
  intro l
  induction l with
  | nil => intro m _ _ hl; rw [List.length_eq_zero_iff.1 hl.symm]
  | cons a l ih =>
    intro m hn hs hl
    have ha : a ∈ m := hs a List.mem_cons_self
    have hn' := List.nodup_cons.1 hn
    have h1 := ih (m.erase a) hn'.2 (fun x hx => (List.mem_erase_of_ne (fun e => hn'.1 (by rw [← e]; exact hx))).2 (hs x (List.mem_cons_of_mem _ hx))) (by rw [List.length_erase_of_mem ha]; simp at hl; omega)
    exact (h1.cons a).trans (List.perm_cons_erase ha).symm

theorem occ_mem {b : Int} {xs : List Int} (h : occ b xs = 1) : b ∈ xs := by
  unfold occ at h
  have h1 : 0 < (xs.filter (fun y => y == b)).length := by omega
  obtain ⟨y, hy⟩ := List.exists_mem_of_length_pos h1
  have h2 := List.mem_filter.1 hy
  have e : y = b := by simpa using h2.2
  rw [← e]; exact h2.1

theorem row_of_occ {xs : List Int} (h : ∀ b, b < xs.length → occ (b : Int) xs = 1) : isRow xs := by
  have hp := perm_of_sub (rnd xs.length) xs (isRow_rnd _).2 (fun x hx => by
    obtain ⟨i, hi, rfl⟩ := List.mem_map.1 hx
    exact occ_mem (h i (List.mem_range.1 hi))) (rnd_length _)
  exact isRow_perm hp.symm (isRow_rnd _)

theorem occ_of_row {xs : List Int} (h : isRow xs) {b : Nat} (hb : b < xs.length) : occ (b : Int) xs = 1 := by
  obtain ⟨j, hj, e⟩ := isRow_onto h hb
  have hm : (b : Int) ∈ xs := by
    rw [← e, show xs.getD j 0 = xs[j] from by simp [List.getD, List.getElem?_eq_getElem hj]]
    exact List.getElem_mem hj
  have key : ∀ (l : List Int), l.Nodup → (b : Int) ∈ l → occ (b : Int) l = 1 := by
    intro l
    induction l with
    | nil => intro _ hm; cases hm
    | cons x l ih =>
      intro hn hm
      have hn' := List.nodup_cons.1 hn
      unfold occ
      by_cases e : x = (b : Int)
      · subst e
        rw [List.filter_cons_of_pos (by simp), List.filter_eq_nil_iff.2 (fun y hy => by
          intro h2
          have e2 : y = (b : Int) := by simpa using h2
          exact hn'.1 (e2 ▸ hy))]
        rfl
      · rw [List.filter_cons_of_neg (by simpa using e)]
        rcases List.mem_cons.1 hm with h2 | h2
        · exact absurd h2.symm e
        · exact ih hn'.2 h2
  exact key xs h.2 hm

theorem by_take_snoc (a b : List Int) (k m : Nat) (hk : k < b.length) (hm : b[k]?.getD 0 = (m : Int)) : by_ a (b.take (k + 1)) = by_ a (b.take k) ++ [a[m]?.getD 0] := by
  rw [take_snoc b k hk, hm]
  simp [by_, List.getD]

set_option maxRecDepth 20000 in
set_option maxHeartbeats 1000000 in
theorem rby_own (v1 v2 : Value) (a b : List Int) (w : World) (i1 : Ints w v1 a) (i2 : Ints w v2 b) (hb : ∀ j, j < b.length → 0 ≤ b.getD j 0 ∧ b.getD j 0 < a.length) (n1 : 1 ≤ a.length) (n2 : b.length ≤ 1000000) :
    Calls Tryd.prog 59 #[v1, v2] w fun e w' => ∃ v, e = .returned v ∧ w'.ownsRow w.heap.size 3 1 v b.length ((by_ a b).map (Value.int .i64)) ∧ Below w.heap.size w w' := by
  obtain ⟨i0, hi, hz0, hz1, hz2⟩ := info_parts Tryd.info3
  have HBd := hide hb
  clear hb
  rcases i1 with ⟨rfl, p, c, rfl⟩ | ⟨b1, o1, cap1, rfl, h01, hcp1, hm1, hb1, hcell1⟩
  · simp at n1
  obtain ⟨p2, cap2, e2, hcell2⟩ : ∃ p2 cap2, v2 = .slice p2 b.length cap2 ∧ Hid (∀ j, j < b.length → ∃ b2 o2, p2 = some ⟨b2, o2, none⟩ ∧ b.length ≤ cap2 ∧ cap2 ≤ 9223372036854775807 ∧ b2 < w.heap.size ∧ w.cell? ⟨b2, o2 + j, none⟩ = some (.int .i64 (b.getD j 0))) := by
    rcases i2 with ⟨rfl, p, c, rfl⟩ | ⟨b2, o2, cap2, rfl, h02, hcp2, hm2, hb2, hc2⟩
    · exact ⟨p, c, rfl, fun j hj => by simp at hj⟩
    · exact ⟨_, cap2, rfl, fun j hj => ⟨b2, o2, rfl, hcp2, hm2, hb2, hc2 j hj⟩⟩
  subst e2
  have HC1 := hide hcell1
  clear i2 hcell1
  go_enter Tryd.func59, Tryd.ntmps59
  go_wp2
  go_loopw [5, 6] (fun v i wr => ∃ k : Nat, k ≤ b.length ∧ i = .int .i64 k ∧ wr.ownsRow w.heap.size 3 1 v k ((by_ a (b.take k)).map (Value.int .i64)) ∧ Below w.heap.size w wr) (fun _ i _ => b.length - (intOf i).toNat)
  case atStart => exact ⟨0, by omega, rfl, World.ownsRow_nil _ _ _ _, Below.refl _ _⟩
  case round =>
    obtain ⟨k, hk, rfl, hown, hbw⟩ := hrel
    have hbs := hbw.size
    by_cases hlt : k < b.length
    · obtain ⟨b2, o2, rfl, hcp2, hm2, hb2, hc2⟩ := hcell2.out k hlt
      have hpr := HBd.out k hlt
      obtain ⟨m, hm⟩ := Int.eq_ofNat_of_zero_le hpr.1
      have hma : m < a.length := by have := hpr.2; omega
      obtain ⟨q, hq, hcq⟩ := cellAt HC1.out hma
      have gp : wr.cell? ⟨b2, o2 + k, none⟩ = some (.int .i64 (m : Int)) := (hbw.cell (by exact hb2)).trans (by rw [hc2, hm])
      have gq : wr.cell? ⟨b1, o1 + m, none⟩ = some (.int .i64 q) := (hbw.cell (by exact hb1)).trans hcq
      have HT : Hid (by_ a (b.take (k + 1)) = by_ a (b.take k) ++ [q]) := by show _ = _; rw [by_take_snoc a b k m hlt hm, hq.out]
      clear hcq hc2 hpr hm
      go_wp2_with (at_builtin; refine wpList_append_own _ rfl _ _ 26 rfl w.heap.size 3 i0 (.int .i64 0) 1 8 Tryd.underlying26 hi hz0 hz1 hz2 rfl (by decide) _ _ _ rfl (hown.alloc _) ⟨wr.heap.size, 0, none⟩ 1 1 [.int .i64 q] rfl rfl ?c1 ?c2 ?c3 ?c4 ?c5 ?_)
      case c1 => exact cell_one_new _ _ _
      case c2 => intro u hu; simp at hu; subst hu; rfl
      case c3 => unfold maxLen; omega
      case c4 => omega
      case c5 => simp; omega
      · intro v' w1 hown' hgrow _
        go_wp2
        go_roundw
        case rel => exact ⟨k + 1, by omega, by go_num, by rw [HT.out, List.map_append]; exact hown', (hbw.alloc hbw.size _).grown hgrow (by simp; omega) (fun g hg => (hown.lt g hg).1)⟩
        case measure => simp [intOf]; omega
    · obtain rfl : k = b.length := by omega
      rw [List.take_length] at hown
      go_wp2
      go_ret
      exact ⟨_, rfl, hown, hbw⟩

theorem rby_ok (v1 v2 : Value) (a b : List Int) (w : World) (i1 : Ints w v1 a) (i2 : Ints w v2 b) (hb : ∀ j, j < b.length → 0 ≤ b.getD j 0 ∧ b.getD j 0 < a.length) (n1 : 1 ≤ a.length) (n2 : b.length ≤ 1000000) :
    Calls Tryd.prog 59 #[v1, v2] w fun e w' => ∃ v, e = .returned v ∧ Ints w' v (by_ a b) ∧ Below w.heap.size w w' := by
  refine (rby_own v1 v2 a b w i1 i2 hb n1 n2).mono ?_
  rintro e w' ⟨v, rfl, ho, hb'⟩
  exact ⟨v, rfl, Ints.own ho, hb'⟩

end Go.Proofs.YtenpkhalgkodbaaDoor

/- Contracts of the answer's functions: BellOf, SignOf, Text, ReadRow. -/
namespace Go.Proofs.YtenpkhalgkodbaaDoor
open Go.RowKit
set_option maxRecDepth 20000

theorem bl_none {b : UInt8} (h : ¬ bl b < 12) {m : Nat} (hm : m < 12) : sg m ≠ b.toNat := fun e => h (by rw [bl_of hm e]; exact hm)

theorem slice_sign (m : Nat) (hm : m < 12) (w : World) : (Instr.slice 9 (.string { data := #[49, 50, 51, 52, 53, 54, 55, 56, 57, 48, 69, 84] }) (some (.int .i64 (m : Int))) (some (.int .i64 ((m : Int) + 1))) none).run Tryd.prog w = .ok (.string (strOfNums [((sg m : Nat) : Int)])) w := by
  match m, hm with
  | 0, _ | 1, _ | 2, _ | 3, _ | 4, _ | 5, _ | 6, _ | 7, _ | 8, _ | 9, _ | 10, _ | 11, _ => rfl

theorem str_append (xs ys : List Int) : strOfNums xs ++ strOfNums ys = strOfNums (xs ++ ys) := by
  apply ByteArray.ext
  rw [ByteArray.data_append]
  simp [strOfNums]

/-- A byte of a text, as the index gives it. -/
theorem index_byte (s : ByteArray) (k : Nat) (hk : k < s.size) (w : World) : (Instr.index 9 (.string s) (.int .i64 (k : Int))).run Tryd.prog w = .ok (.int .u8 (((s[k]'hk).toNat : Nat) : Int)) w := by
  rw [run_index_string w 9 _ .i64 (k : Int) Tryd.underlying9, dif_pos ⟨by omega, by omega⟩]
  rfl

end Go.Proofs.YtenpkhalgkodbaaDoor

/- Plain: the runes of a text. -/
namespace Go.Proofs.YtenpkhalgkodbaaDoor
open Go.RowKit Go.Lib

/-- The runes of a text from a place on, at most so many. -/
def rns (s : ByteArray) : Nat → Nat → List Nat
  | 0, _ => []
  | f + 1, pos => if pos < s.size then (Utf8.decode s pos).1 :: rns s f (pos + (Utf8.decode s pos).2) else []

def runesOf (s : ByteArray) : List Nat := rns s s.size 0

theorem rns_length (s : ByteArray) : ∀ f pos, (rns s f pos).length ≤ f
  | 0, _ => by simp [rns]
  | f + 1, pos => by
    have ih := rns_length s f (pos + (Utf8.decode s pos).2)
    unfold rns
    split
    · simp; omega
    · simp

theorem runesOf_length (s : ByteArray) : (runesOf s).length ≤ s.size := rns_length s _ _

/-- Runes up to a place, and the rest. -/
def RunesTo (s : ByteArray) (pre : List Nat) (pos : Nat) : Prop := ∃ f, s.size - pos ≤ f ∧ runesOf s = pre ++ rns s f pos

theorem runesTo_start (s : ByteArray) : RunesTo s [] 0 := ⟨s.size, by omega, rfl⟩

theorem RunesTo.next {s : ByteArray} {pre : List Nat} {pos : Nat} (h : RunesTo s pre pos) (hp : pos < s.size) : RunesTo s (pre ++ [(Utf8.decode s pos).1]) (pos + (Utf8.decode s pos).2) := by
  obtain ⟨f, hf, e⟩ := h
  have hw := decode_width_pos s pos hp
  match f, hf, e with
  | 0, hf, _ => omega
  | f + 1, hf, e =>
    refine ⟨f, by omega, ?_⟩
    rw [e, rns, if_pos hp, List.append_assoc, List.singleton_append]

theorem RunesTo.done {s : ByteArray} {pre : List Nat} {pos : Nat} (h : RunesTo s pre pos) (hp : ¬ pos < s.size) : runesOf s = pre := by
  obtain ⟨f, hf, e⟩ := h
  rw [e]
  cases f with
  | zero => simp [rns]
  | succ f => rw [rns, if_neg hp, List.append_nil]

theorem RunesTo.mem {s : ByteArray} {pre : List Nat} {pos : Nat} (h : RunesTo s pre pos) (hp : pos < s.size) : (Utf8.decode s pos).1 ∈ runesOf s ∧ pre.length < s.size := by
  obtain ⟨f, hf, e⟩ := h.next hp
  constructor
  · rw [e]; simp
  · have := runesOf_length s
    rw [e] at this
    simp at this
    omega

theorem decode_le (s : ByteArray) (pos : Nat) : (Utf8.decode s pos).1 ≤ 1114111 := by
  rw [decode_at]
  have h0 : (s.get! pos).toNat < 256 := UInt8.toNat_lt _
  unfold decodeN
  repeat' split
  all_goals simp only
  all_goals omega

end Go.Proofs.YtenpkhalgkodbaaDoor

/- Contracts: ofName, Name of package method, at every text. -/
namespace Go.Proofs.YtenpkhalgkodbaaDoor
open Go.RowKit Go.Lib

/-- May a rune be in a name? -/
def ofn (r : Nat) : Bool := decide (65 ≤ r ∧ r ≤ 90 ∨ 97 ≤ r ∧ r ≤ 122 ∨ 48 ≤ r ∧ r ≤ 57 ∨ r = 32 ∨ (192 ≤ r ∧ r ≤ 382 ∧ r ≠ 215 ∧ r ≠ 247))

set_option maxRecDepth 20000 in
set_option maxHeartbeats 4000000 in
theorem ofName_any (r : Nat) (w : World) (hr : r ≤ 1114111) : Calls Tryd.prog 68 #[.int .i32 r] w fun e w' => e = .returned (.bool (ofn r)) ∧ w = w' := by
  have hcase : r < 32 ∨ r = 32 ∨ (33 ≤ r ∧ r ≤ 47) ∨ (48 ≤ r ∧ r ≤ 57) ∨ (58 ≤ r ∧ r ≤ 64) ∨ (65 ≤ r ∧ r ≤ 90) ∨ (91 ≤ r ∧ r ≤ 96) ∨ (97 ≤ r ∧ r ≤ 122) ∨ (123 ≤ r ∧ r ≤ 191) ∨ (192 ≤ r ∧ r ≤ 214) ∨ r = 215 ∨ (216 ≤ r ∧ r ≤ 246) ∨ r = 247 ∨ (248 ≤ r ∧ r ≤ 382) ∨ 383 ≤ r := by omega
  rcases hcase with h | h | ⟨h1, h2⟩ | ⟨h1, h2⟩ | ⟨h1, h2⟩ | ⟨h1, h2⟩ | ⟨h1, h2⟩ | ⟨h1, h2⟩ | ⟨h1, h2⟩ | ⟨h1, h2⟩ | h | ⟨h1, h2⟩ | h | ⟨h1, h2⟩ | h
  · have hb : Hid (ofn r = false) := by show _ = _; unfold ofn; exact decide_eq_false (by omega)
    have e32 : ((r : Int) == 32) = false := by rw [beq_eq_false_iff_ne]; omega
    have e215 : ((r : Int) == 215) = false := by rw [beq_eq_false_iff_ne]; omega
    have e247 : ((r : Int) == 247) = false := by rw [beq_eq_false_iff_ne]; omega
    go_enter Tryd.func68, Tryd.ntmps68
    go_wp2
    go_ret
    exact ⟨ret_bool (by first | exact hb.out.symm | (rw [hb.out]; exact decide_eq_true (by omega)) | (rw [hb.out]; exact decide_eq_false (by omega))), rfl⟩
  · have hb : Hid (ofn r = true) := by show _ = _; unfold ofn; exact decide_eq_true (by omega)
    subst h
    go_enter Tryd.func68, Tryd.ntmps68
    go_wp2
    go_ret
    exact ⟨ret_bool (by first | exact hb.out.symm | (rw [hb.out]; exact decide_eq_true (by omega)) | (rw [hb.out]; exact decide_eq_false (by omega))), rfl⟩
  · have hb : Hid (ofn r = false) := by show _ = _; unfold ofn; exact decide_eq_false (by omega)
    have e32 : ((r : Int) == 32) = false := by rw [beq_eq_false_iff_ne]; omega
    have e215 : ((r : Int) == 215) = false := by rw [beq_eq_false_iff_ne]; omega
    have e247 : ((r : Int) == 247) = false := by rw [beq_eq_false_iff_ne]; omega
    go_enter Tryd.func68, Tryd.ntmps68
    go_wp2
    go_ret
    exact ⟨ret_bool (by first | exact hb.out.symm | (rw [hb.out]; exact decide_eq_true (by omega)) | (rw [hb.out]; exact decide_eq_false (by omega))), rfl⟩
  · have hb : Hid (ofn r = true) := by show _ = _; unfold ofn; exact decide_eq_true (by omega)
    have e32 : ((r : Int) == 32) = false := by rw [beq_eq_false_iff_ne]; omega
    have e215 : ((r : Int) == 215) = false := by rw [beq_eq_false_iff_ne]; omega
    have e247 : ((r : Int) == 247) = false := by rw [beq_eq_false_iff_ne]; omega
    go_enter Tryd.func68, Tryd.ntmps68
    go_wp2
    go_ret
    exact ⟨ret_bool (by first | exact hb.out.symm | (rw [hb.out]; exact decide_eq_true (by omega)) | (rw [hb.out]; exact decide_eq_false (by omega))), rfl⟩
  · have hb : Hid (ofn r = false) := by show _ = _; unfold ofn; exact decide_eq_false (by omega)
    have e32 : ((r : Int) == 32) = false := by rw [beq_eq_false_iff_ne]; omega
    have e215 : ((r : Int) == 215) = false := by rw [beq_eq_false_iff_ne]; omega
    have e247 : ((r : Int) == 247) = false := by rw [beq_eq_false_iff_ne]; omega
    go_enter Tryd.func68, Tryd.ntmps68
    go_wp2
    go_ret
    exact ⟨ret_bool (by first | exact hb.out.symm | (rw [hb.out]; exact decide_eq_true (by omega)) | (rw [hb.out]; exact decide_eq_false (by omega))), rfl⟩
  · have hb : Hid (ofn r = true) := by show _ = _; unfold ofn; exact decide_eq_true (by omega)
    have e32 : ((r : Int) == 32) = false := by rw [beq_eq_false_iff_ne]; omega
    have e215 : ((r : Int) == 215) = false := by rw [beq_eq_false_iff_ne]; omega
    have e247 : ((r : Int) == 247) = false := by rw [beq_eq_false_iff_ne]; omega
    go_enter Tryd.func68, Tryd.ntmps68
    go_wp2
    go_ret
    exact ⟨ret_bool (by first | exact hb.out.symm | (rw [hb.out]; exact decide_eq_true (by omega)) | (rw [hb.out]; exact decide_eq_false (by omega))), rfl⟩
  · have hb : Hid (ofn r = false) := by show _ = _; unfold ofn; exact decide_eq_false (by omega)
    have e32 : ((r : Int) == 32) = false := by rw [beq_eq_false_iff_ne]; omega
    have e215 : ((r : Int) == 215) = false := by rw [beq_eq_false_iff_ne]; omega
    have e247 : ((r : Int) == 247) = false := by rw [beq_eq_false_iff_ne]; omega
    go_enter Tryd.func68, Tryd.ntmps68
    go_wp2
    go_ret
    exact ⟨ret_bool (by first | exact hb.out.symm | (rw [hb.out]; exact decide_eq_true (by omega)) | (rw [hb.out]; exact decide_eq_false (by omega))), rfl⟩
  · have hb : Hid (ofn r = true) := by show _ = _; unfold ofn; exact decide_eq_true (by omega)
    have e32 : ((r : Int) == 32) = false := by rw [beq_eq_false_iff_ne]; omega
    have e215 : ((r : Int) == 215) = false := by rw [beq_eq_false_iff_ne]; omega
    have e247 : ((r : Int) == 247) = false := by rw [beq_eq_false_iff_ne]; omega
    go_enter Tryd.func68, Tryd.ntmps68
    go_wp2
    go_ret
    exact ⟨ret_bool (by first | exact hb.out.symm | (rw [hb.out]; exact decide_eq_true (by omega)) | (rw [hb.out]; exact decide_eq_false (by omega))), rfl⟩
  · have hb : Hid (ofn r = false) := by show _ = _; unfold ofn; exact decide_eq_false (by omega)
    have e32 : ((r : Int) == 32) = false := by rw [beq_eq_false_iff_ne]; omega
    have e215 : ((r : Int) == 215) = false := by rw [beq_eq_false_iff_ne]; omega
    have e247 : ((r : Int) == 247) = false := by rw [beq_eq_false_iff_ne]; omega
    go_enter Tryd.func68, Tryd.ntmps68
    go_wp2
    go_ret
    exact ⟨ret_bool (by first | exact hb.out.symm | (rw [hb.out]; exact decide_eq_true (by omega)) | (rw [hb.out]; exact decide_eq_false (by omega))), rfl⟩
  · have hb : Hid (ofn r = true) := by show _ = _; unfold ofn; exact decide_eq_true (by omega)
    have e32 : ((r : Int) == 32) = false := by rw [beq_eq_false_iff_ne]; omega
    have e215 : ((r : Int) == 215) = false := by rw [beq_eq_false_iff_ne]; omega
    have e247 : ((r : Int) == 247) = false := by rw [beq_eq_false_iff_ne]; omega
    go_enter Tryd.func68, Tryd.ntmps68
    go_wp2
    go_ret
    exact ⟨ret_bool (by first | exact hb.out.symm | (rw [hb.out]; exact decide_eq_true (by omega)) | (rw [hb.out]; exact decide_eq_false (by omega))), rfl⟩
  · have hb : Hid (ofn r = false) := by show _ = _; unfold ofn; exact decide_eq_false (by omega)
    subst h
    go_enter Tryd.func68, Tryd.ntmps68
    go_wp2
    go_ret
    exact ⟨ret_bool (by first | exact hb.out.symm | (rw [hb.out]; exact decide_eq_true (by omega)) | (rw [hb.out]; exact decide_eq_false (by omega))), rfl⟩
  · have hb : Hid (ofn r = true) := by show _ = _; unfold ofn; exact decide_eq_true (by omega)
    have e32 : ((r : Int) == 32) = false := by rw [beq_eq_false_iff_ne]; omega
    have e215 : ((r : Int) == 215) = false := by rw [beq_eq_false_iff_ne]; omega
    have e247 : ((r : Int) == 247) = false := by rw [beq_eq_false_iff_ne]; omega
    go_enter Tryd.func68, Tryd.ntmps68
    go_wp2
    go_ret
    exact ⟨ret_bool (by first | exact hb.out.symm | (rw [hb.out]; exact decide_eq_true (by omega)) | (rw [hb.out]; exact decide_eq_false (by omega))), rfl⟩
  · have hb : Hid (ofn r = false) := by show _ = _; unfold ofn; exact decide_eq_false (by omega)
    subst h
    go_enter Tryd.func68, Tryd.ntmps68
    go_wp2
    go_ret
    exact ⟨ret_bool (by first | exact hb.out.symm | (rw [hb.out]; exact decide_eq_true (by omega)) | (rw [hb.out]; exact decide_eq_false (by omega))), rfl⟩
  · have hb : Hid (ofn r = true) := by show _ = _; unfold ofn; exact decide_eq_true (by omega)
    have e32 : ((r : Int) == 32) = false := by rw [beq_eq_false_iff_ne]; omega
    have e215 : ((r : Int) == 215) = false := by rw [beq_eq_false_iff_ne]; omega
    have e247 : ((r : Int) == 247) = false := by rw [beq_eq_false_iff_ne]; omega
    go_enter Tryd.func68, Tryd.ntmps68
    go_wp2
    go_ret
    exact ⟨ret_bool (by first | exact hb.out.symm | (rw [hb.out]; exact decide_eq_true (by omega)) | (rw [hb.out]; exact decide_eq_false (by omega))), rfl⟩
  · have hb : Hid (ofn r = false) := by show _ = _; unfold ofn; exact decide_eq_false (by omega)
    have e32 : ((r : Int) == 32) = false := by rw [beq_eq_false_iff_ne]; omega
    have e215 : ((r : Int) == 215) = false := by rw [beq_eq_false_iff_ne]; omega
    have e247 : ((r : Int) == 247) = false := by rw [beq_eq_false_iff_ne]; omega
    go_enter Tryd.func68, Tryd.ntmps68
    go_wp2
    go_ret
    exact ⟨ret_bool (by first | exact hb.out.symm | (rw [hb.out]; exact decide_eq_true (by omega)) | (rw [hb.out]; exact decide_eq_false (by omega))), rfl⟩

/-- The k-th byte; 0 beyond. -/
def bt (s : ByteArray) (k : Nat) : Nat := ((s.data.toList[k]?).getD 0).toNat

theorem bt_get {s : ByteArray} {k : Nat} (h : k < s.size) : (s[k]'h).toNat = bt s k := by
  have h' : k < s.data.toList.length := by rw [Array.length_toList]; exact h
  unfold bt
  rw [List.getElem?_eq_getElem h', Option.getD_some]
  rfl

theorem bt_lt (s : ByteArray) (k : Nat) : bt s k < 256 := by unfold bt; exact UInt8.toNat_lt _

/-- Is it a name? -/
def nm (s : ByteArray) : Bool := (runesOf s).all ofn && decide (1 ≤ (runesOf s).length ∧ (runesOf s).length ≤ 20 ∧ bt s 0 ≠ 32 ∧ bt s (s.size - 1) ≠ 32)

theorem nm_bad {s : ByteArray} {r : Nat} (h : r ∈ runesOf s) (hr : ofn r = false) : nm s = false := by
  unfold nm
  rw [show (runesOf s).all ofn = false from by rw [List.all_eq_false]; exact ⟨r, h, by simp [hr]⟩]
  rfl

structure NameRel (w wr : World) (s : ByteArray) (pre : List Nat) (pos : Nat) : Prop where
  iter : wr.heap[w.heap.size]? = some (.stringIter s pos)
  rto : RunesTo s pre pos
  all : pre.all ofn = true
  size : w.heap.size < wr.heap.size
  below : Below w.heap.size w wr
set_option maxRecDepth 20000 in
set_option maxHeartbeats 4000000 in
theorem name_any (s : ByteArray) (w : World) (hs : s.size ≤ 9223372036854775807) :
    Calls Tryd.prog 46 #[.string s] w fun e w' => e = .returned (.bool (nm s)) ∧ Below w.heap.size w w' := by
  go_enter Tryd.func46, Tryd.ntmps46
  go_wp2
  go_loopw [3] (fun c wr => ∃ pos pre, c = .int .i64 ((pre.length : Nat) : Int) ∧ NameRel w wr s pre pos) (fun _ wr => s.size - wr.iterPos w.heap.size)
  case atStart => exact ⟨0, [], rfl, ⟨World.iter_heap w s 0, runesTo_start s, rfl, by simp [World.iter], below_iter w s 0⟩⟩
  case round =>
    obtain ⟨pos, pre, rfl, hr⟩ := hrel
    by_cases hp : pos < s.size
    · have hnx : ∀ ty, (Instr.next (.pointer (some ⟨w.heap.size, 0, none⟩)) true ty).run Tryd.prog wr = .ok (.tuple #[.bool true, .int .i64 (pos : Int), .int .i32 (((Utf8.decode s pos).1 : Nat) : Int)]) (wr.iterAt w.heap.size s (pos + (Utf8.decode s pos).2)) := by
        intro ty
        exact run_next_any_at wr w.heap.size s pos ty hr.iter hp
      have hmem := hr.rto.mem hp
      have HO := hide (ofName_any (Utf8.decode s pos).1 (wr.iterAt w.heap.size s (pos + (Utf8.decode s pos).2)) (decode_le s pos))
      have HIt := hide (iterAt_heap wr w.heap.size s pos (pos + (Utf8.decode s pos).2) hr.iter)
      have HTo := hide (hr.rto.next hp)
      have HI := hide (iterPos_of hr.iter)
      have hbw := hide (below_iterAt hr.below (Nat.le_refl _) s (pos + (Utf8.decode s pos).2))
      have HA := hide hr.all
      have HSz : Hid (w.heap.size < (wr.iterAt w.heap.size s (pos + (Utf8.decode s pos).2)).heap.size) := by show _ < _; rw [iterAt_size]; exact hr.size
      have HW := hide (decode_width_pos s pos hp)
      have hc := hmem.2
      have HM := hide hmem.1
      clear hmem hr
      generalize (Utf8.decode s pos).1 = r at *
      generalize (Utf8.decode s pos).2 = n at *
      cases ho : ofn r with
      | false =>
        have HNM := hide (nm_bad HM.out ho)
        rw [ho] at HO
        clear ho
        go_wp2_with fail
        refine HO.out.mono ?_
        rintro e w' ⟨rfl, rfl⟩
        go_wp2
        go_ret
        exact ⟨ret_bool HNM.out.symm, hbw.out⟩
      | true =>
        rw [ho] at HO
        have HAA : Hid ((pre ++ [r]).all ofn = true) := by show _ = _; rw [List.all_append, HA.out]; simp [ho]
        clear ho
        go_wp2_with fail
        refine HO.out.mono ?_
        rintro e w' ⟨rfl, rfl⟩
        go_wp2
        go_roundw
        case rel => exact ⟨pos + n, pre ++ [r], by rw [List.length_append]; go_num, ⟨HIt.out, HTo.out, HAA.out, HSz.out, hbw.out⟩⟩
        case measure => rw [HI.out, iterPos_of HIt.out]; have := HW.out; omega
    · have hnx := fun ty => run_next_end_at (P := Tryd.prog) wr w.heap.size s pos ty hr.iter hp
      have HE := hide (hr.rto.done hp)
      have HA := hide hr.all
      have hbw := hr.below
      have hle := runesOf_length s
      rw [HE.out] at hle
      have HNM : Hid (nm s = decide (1 ≤ pre.length ∧ pre.length ≤ 20 ∧ bt s 0 ≠ 32 ∧ bt s (s.size - 1) ≠ 32)) := by
        show _ = _; unfold nm; rw [HE.out, HA.out, Bool.true_and]
      clear hr hp
      generalize pre.length = L at *
      by_cases c1 : 1 ≤ L
      · by_cases c2 : L ≤ 20
        · have hs0 : 0 < s.size := by omega
          have hs1 : s.size - 1 < s.size := by omega
          have hx1 := index_byte s (s.size - 1) hs1 wr
          rw [bt_get hs1] at hx1
          rw [show ((s.size - 1 : Nat) : Int) = (s.size : Int) - 1 from by omega] at hx1
          generalize bt s (s.size - 1) = b1 at *
          have hb0 := bt_get hs0
          generalize hq : (s[0]'hs0).toNat = b0 at *
          by_cases c3 : b0 = 32
          · have hv : Hid (nm s = false) := by show _ = _; rw [HNM.out]; exact decide_eq_false (by omega)
            have hn0 : (((s[0]'hs0).toNat : Int) != 32) = false := by rw [hq, c3]; rfl
            clear c3 hb0 hq
            go_wp2
            go_ret
            exact ⟨ret_bool hv.out.symm, hbw⟩
          · have hn0 : (((s[0]'hs0).toNat : Int) != 32) = true := by rw [hq, bne_iff_ne]; omega
            by_cases c4 : b1 = 32
            · have hv : Hid (nm s = false) := by show _ = _; rw [HNM.out]; exact decide_eq_false (by omega)
              subst c4
              clear c3 hb0 hq
              go_wp2
              go_ret
              exact ⟨ret_bool hv.out.symm, hbw⟩
            · have hv : Hid (nm s = true) := by show _ = _; rw [HNM.out]; exact decide_eq_true (by omega)
              have hn1 : ((b1 : Int) != 32) = true := by rw [bne_iff_ne]; omega
              clear c3 c4 hb0 hq
              go_wp2
              go_ret
              exact ⟨ret_bool hv.out.symm, hbw⟩
        · have hv : Hid (nm s = false) := by show _ = _; rw [HNM.out]; exact decide_eq_false (by omega)
          go_wp2
          go_ret
          exact ⟨ret_bool hv.out.symm, hbw⟩
      · have hv : Hid (nm s = false) := by show _ = _; rw [HNM.out]; exact decide_eq_false (by omega)
        go_wp2
        go_ret
        exact ⟨ret_bool hv.out.symm, hbw⟩

end Go.Proofs.YtenpkhalgkodbaaDoor

/- Plain: the runes of a text as the answer reads them: -1 for a byte that is none. -/
namespace Go.Proofs.YtenpkhalgkodbaaDoor
open Go.RowKit Go.Lib

theorem get_piece (s : ByteArray) (p k : Nat) : (s.extract p s.size).get! k = s.get! (p + k) := by
  cases s with
  | mk d =>
    show ((ByteArray.mk d).extract p d.size).data[k]! = d[p + k]!
    rw [ByteArray.data_extract]
    by_cases h : p + k < d.size
    · rw [getElem!_pos d (p + k) h, getElem!_pos _ k (by simp; omega), Array.getElem_extract]
    · rw [getElem!_neg d (p + k) h, getElem!_neg _ k (by simp; omega)]

theorem decode_piece (s : ByteArray) (p : Nat) : Utf8.decode (s.extract p s.size) 0 = Utf8.decode s p := by
  rw [decode_at, decode_at]
  simp only [get_piece, ByteArray.size_extract, Nat.add_zero, Nat.zero_add, Nat.sub_zero, Nat.min_self]

theorem piece_piece (s : ByteArray) (p k : Nat) : (s.extract p s.size).extract k (s.extract p s.size).size = s.extract (p + k) s.size := by
  apply ByteArray.ext
  simp only [ByteArray.data_extract, ByteArray.size_extract, Nat.min_self]
  rw [Array.extract_extract]
  congr 1
  omega

/-- A rune as the answer tells it. -/
def ar (d : Nat × Nat) : Int := if d = (65533, 1) then -1 else (d.1 : Int)

theorem ar_bad {d : Nat × Nat} (h : d = (65533, 1)) : ar d = -1 := if_pos h
theorem ar_ok {d : Nat × Nat} {c k : Nat} (h : d = (c, k)) (hk : c ≠ 65533 ∨ k ≠ 1) : ar d = c := by
  subst h; unfold ar; rw [if_neg]; intro e; simp only [Prod.mk.injEq] at e; omega

set_option maxRecDepth 100000 in
set_option maxHeartbeats 4000000 in
theorem dec_lone (n b0 b1 b2 b3 : Nat) (h : (128 ≤ b0 ∧ b0 < 194) ∨ (245 ≤ b0 ∧ b0 < 256)) : decodeN n b0 b1 b2 b3 = (65533, 1) := by
  unfold decodeN
  repeat' split
  all_goals first | rfl | (exfalso; omega)

set_option maxRecDepth 100000 in
set_option maxHeartbeats 4000000 in
theorem dec_two (n b0 b1 b2 b3 : Nat) (h : 194 ≤ b0 ∧ b0 < 224) (h1 : b1 < 256) :
    decodeN n b0 b1 b2 b3 = if n < 2 ∨ (b1 < 128 ∨ 192 ≤ b1) then (65533, 1) else ((b0 - 192) * 64 + (b1 - 128), 2) := by
  unfold decodeN
  repeat' split
  all_goals first | rfl | (exfalso; omega) | (apply Prod.ext <;> simp only <;> omega)

set_option maxRecDepth 100000 in
set_option maxHeartbeats 8000000 in
theorem dec_three (n b0 b1 b2 b3 : Nat) (h : 224 ≤ b0 ∧ b0 < 240) (h1 : b1 < 256) (h2 : b2 < 256) (c : Nat) (hc : 128 ≤ b1 → 128 ≤ b2 → c = (b0 - 224) * 4096 + (b1 - 128) * 64 + (b2 - 128)) :
    decodeN n b0 b1 b2 b3 = if n < 3 ∨ (b1 < 128 ∨ 192 ≤ b1) ∨ (b2 < 128 ∨ 192 ≤ b2) ∨ (c < 2048 ∨ 1114111 < c ∨ (55296 ≤ c ∧ c < 57344)) then (65533, 1) else (c, 3) := by
  unfold decodeN
  repeat' split
  all_goals first | rfl | (exfalso; omega) | (apply Prod.ext <;> simp only <;> omega)

set_option maxRecDepth 100000 in
set_option maxHeartbeats 8000000 in
theorem dec_four (n b0 b1 b2 b3 : Nat) (h : 240 ≤ b0 ∧ b0 < 245) (h1 : b1 < 256) (h2 : b2 < 256) (h3 : b3 < 256) (c : Nat) (hc : 128 ≤ b1 → 128 ≤ b2 → 128 ≤ b3 → c = (b0 - 240) * 262144 + (b1 - 128) * 4096 + (b2 - 128) * 64 + (b3 - 128)) :
    decodeN n b0 b1 b2 b3 = if n < 4 ∨ (b1 < 128 ∨ 192 ≤ b1) ∨ (b2 < 128 ∨ 192 ≤ b2) ∨ (b3 < 128 ∨ 192 ≤ b3) ∨ (c < 65536 ∨ 1114111 < c ∨ (55296 ≤ c ∧ c < 57344)) then (65533, 1) else (c, 4) := by
  unfold decodeN
  repeat' split
  all_goals first | rfl | (exfalso; omega) | (apply Prod.ext <;> simp only <;> omega)

set_option maxRecDepth 100000 in
set_option maxHeartbeats 4000000 in
theorem dec_width (n b0 b1 b2 b3 : Nat) (hn : 1 ≤ n) : (decodeN n b0 b1 b2 b3).2 ≤ n ∧ 1 ≤ (decodeN n b0 b1 b2 b3).2 := by
  unfold decodeN
  repeat' split
  all_goals (simp only; omega)

theorem decode_width (s : ByteArray) (p : Nat) (h : p < s.size) : p + (Utf8.decode s p).2 ≤ s.size ∧ 1 ≤ (Utf8.decode s p).2 := by
  rw [decode_at]
  have := dec_width (s.size - p) (s.get! p).toNat (s.get! (p + 1)).toNat (s.get! (p + 2)).toNat (s.get! (p + 3)).toNat (by omega)
  omega

def arns (s : ByteArray) : Nat → Nat → List Int
  | 0, _ => []
  | f + 1, pos => if pos < s.size then ar (Utf8.decode s pos) :: arns s f (pos + (Utf8.decode s pos).2) else []

def arunes (s : ByteArray) : List Int := arns s s.size 0

theorem arns_length (s : ByteArray) : ∀ f pos, (arns s f pos).length = (rns s f pos).length
  | 0, _ => rfl
  | f + 1, pos => by
    have ih := arns_length s f (pos + (Utf8.decode s pos).2)
    unfold arns rns
    split
    · simp only [List.length_cons]; omega
    · rfl

theorem arunes_length (s : ByteArray) : (arunes s).length = (runesOf s).length := arns_length s _ _

/-- Rune by rune: the same, or -1 where the program has 65533. -/
theorem arns_at (s : ByteArray) : ∀ f pos j, j < (rns s f pos).length → (arns s f pos).getD j 0 = (((rns s f pos).getD j 0 : Nat) : Int) ∨ ((arns s f pos).getD j 0 = -1 ∧ (rns s f pos).getD j 0 = 65533)
  | 0, _, j, h => by simp [rns] at h
  | f + 1, pos, j, h => by
    unfold arns rns at *
    by_cases hp : pos < s.size
    · rw [if_pos hp] at h
      rw [if_pos hp, if_pos hp]
      match j with
      | 0 =>
        show ar (Utf8.decode s pos) = _ ∨ (ar (Utf8.decode s pos) = -1 ∧ (Utf8.decode s pos).1 = 65533)
        by_cases e : Utf8.decode s pos = (65533, 1)
        · exact Or.inr ⟨ar_bad e, by rw [e]⟩
        · exact Or.inl (by unfold ar; rw [if_neg e]; rfl)
      | j + 1 =>
        have := arns_at s f (pos + (Utf8.decode s pos).2) j (by simpa using h)
        simpa only [List.getD_cons_succ] using this
    · rw [if_neg hp] at h; simp at h

theorem arunes_at (s : ByteArray) (j : Nat) (h : j < (runesOf s).length) : (arunes s).getD j 0 = (((runesOf s).getD j 0 : Nat) : Int) ∨ ((arunes s).getD j 0 = -1 ∧ (runesOf s).getD j 0 = 65533) := arns_at s _ _ j h

/-- Runes up to a place, and the rest. -/
def ARunesTo (s : ByteArray) (pre : List Int) (pos : Nat) : Prop := ∃ f, s.size - pos ≤ f ∧ arunes s = pre ++ arns s f pos

theorem arunesTo_start (s : ByteArray) : ARunesTo s [] 0 := ⟨s.size, by omega, rfl⟩

theorem ARunesTo.next {s : ByteArray} {pre : List Int} {pos : Nat} (h : ARunesTo s pre pos) (hp : pos < s.size) : ARunesTo s (pre ++ [ar (Utf8.decode s pos)]) (pos + (Utf8.decode s pos).2) := by
  obtain ⟨f, hf, e⟩ := h
  have hw := (decode_width s pos hp).2
  match f, hf, e with
  | 0, hf, _ => omega
  | f + 1, hf, e =>
    refine ⟨f, by omega, ?_⟩
    rw [e, arns, if_pos hp, List.append_assoc, List.singleton_append]

theorem ARunesTo.done {s : ByteArray} {pre : List Int} {pos : Nat} (h : ARunesTo s pre pos) (hp : ¬ pos < s.size) : arunes s = pre := by
  obtain ⟨f, hf, e⟩ := h
  rw [e]
  cases f with
  | zero => simp [arns]
  | succ f => rw [arns, if_neg hp, List.append_nil]

theorem ARunesTo.len {s : ByteArray} {pre : List Int} {pos : Nat} (h : ARunesTo s pre pos) : pre.length ≤ s.size := by
  obtain ⟨f, hf, e⟩ := h
  have h1 := arunes_length s
  have h2 := runesOf_length s
  rw [e, List.length_append] at h1
  omega

end Go.Proofs.YtenpkhalgkodbaaDoor
