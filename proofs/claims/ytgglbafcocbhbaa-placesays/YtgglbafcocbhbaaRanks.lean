/- Plain: the row at a rank has that rank; texts come back; what undoes a row. -/
import Derived.Test.YtgglbafcocbhbaaSign
import Derived.Test.YtgglbafcocbhbaaAt
namespace Go.Proofs.Ytgglbafcocbhbaa

theorem cons_erase_perm (L : List Int) (q : Nat) (h : q < L.length) : (L.getD q 0 :: L.eraseIdx q).Perm L := by
  rw [show L.getD q 0 = L[q] from by simp [List.getD, List.getElem?_eq_getElem h]]
  have e : L = L.take q ++ L[q] :: L.drop (q + 1) := by rw [← List.drop_eq_getElem_cons h, List.take_append_drop]
  rw [List.eraseIdx_eq_take_drop_succ]
  exact (List.perm_middle (l₁ := L.take q)).symm.trans (by rw [← e])

theorem atl_perm : ∀ (m : Nat) (L : List Int) (k : Nat), L.length = m → k < fct m → (atl m L k).Perm L
  | 0, L, _, hl, _ => by rw [List.length_eq_zero_iff.1 hl]; exact List.Perm.refl _
  | m + 1, L, k, hl, hk => by
    have hG := fct_pos m
    have hq : k / fct m < L.length := by rw [hl, Nat.div_lt_iff_lt_mul hG]; exact hk
    have ih := atl_perm m (L.eraseIdx (k / fct m)) (k % fct m) (by rw [List.length_eraseIdx_of_lt hq]; omega) (Nat.mod_lt _ hG)
    exact (ih.cons _).trans (cons_erase_perm L _ hq)

theorem rnd_sorted (n : Nat) : (rnd n).Pairwise (· < ·) := by
  unfold rnd
  rw [List.pairwise_map]
  exact List.Pairwise.imp (fun h => by omega) (List.pairwise_lt_range (n := n))

theorem isRow_rnd (n : Nat) : isRow (rnd n) := by
  constructor
  · intro y hy
    rw [rnd_length]
    obtain ⟨i, hi, rfl⟩ := List.mem_map.1 hy
    have := List.mem_range.1 hi
    omega
  · rw [List.nodup_iff_pairwise_ne]
    exact List.Pairwise.imp (fun h => by omega) (rnd_sorted n)

theorem isRow_perm {xs ys : List Int} (h : xs.Perm ys) (hy : isRow ys) : isRow xs :=
  ⟨fun y hm => by rw [h.length_eq]; exact hy.1 y (h.mem_iff.1 hm), h.nodup_iff.2 hy.2⟩

/-- The row with rank k. -/
def rowAt (n k : Nat) : List Int := atl n (rnd n) k

theorem rowAt_perm {n k : Nat} (hk : k < fct n) : (rowAt n k).Perm (rnd n) := atl_perm n (rnd n) k (rnd_length n) hk

theorem rowAt_row {n k : Nat} (hk : k < fct n) : isRow (rowAt n k) := isRow_perm (rowAt_perm hk) (isRow_rnd n)

theorem rowAt_length {n k : Nat} (hk : k < fct n) : (rowAt n k).length = n := by rw [(rowAt_perm hk).length_eq, rnd_length]

/-- The rank, from the first bell on. -/
def rankR : List Int → Nat
  | [] => 0
  | x :: xs => cnt x xs * fct xs.length + rankR xs

theorem rkTo_rankR (xs : List Int) (k : Nat) (h : k ≤ xs.length) : rkTo xs k * fct (xs.length - k) + rankR (xs.drop k) = rankR xs := by
  induction k with
  | zero => simp [rkTo]
  | succ k ih =>
    rw [← ih (by omega)]
    have e : xs.drop k = xs.getD k 0 :: xs.drop (k + 1) := by
      rw [List.drop_eq_getElem_cons (by omega)]; simp [List.getD, List.getElem?_eq_getElem (show k < xs.length by omega)]
    rw [e]
    show (rkTo xs k * (xs.length - k) + cnt (xs.getD k 0) (xs.drop (k + 1))) * fct (xs.length - (k + 1)) + rankR (xs.drop (k + 1)) = rkTo xs k * fct (xs.length - k) + (cnt (xs.getD k 0) (xs.drop (k + 1)) * fct (xs.drop (k + 1)).length + rankR (xs.drop (k + 1)))
    have e2 : fct (xs.length - k) = (xs.length - k) * fct (xs.length - (k + 1)) := by
      rw [show xs.length - k = (xs.length - (k + 1)) + 1 from by omega]; rfl
    rw [e2, List.length_drop, Nat.add_mul, Nat.mul_assoc]
    omega

theorem rkTo_all (xs : List Int) : rkTo xs xs.length = rankR xs := by
  have h := rkTo_rankR xs xs.length (Nat.le_refl _)
  rw [Nat.sub_self, List.drop_length] at h
  simpa [fct, rankR] using h

theorem cnt_perm {x : Int} {l m : List Int} (h : l.Perm m) : cnt x l = cnt x m := (h.filter _).length_eq

theorem cnt_erase {L : List Int} (hs : L.Pairwise (· < ·)) {q : Nat} (h : q < L.length) : cnt (L.getD q 0) (L.eraseIdx q) = q := by
  rw [show L.getD q 0 = L[q] from by simp [List.getD, List.getElem?_eq_getElem h]]
  have e : L = L.take q ++ L[q] :: L.drop (q + 1) := by rw [← List.drop_eq_getElem_cons h, List.take_append_drop]
  rw [List.eraseIdx_eq_take_drop_succ]
  have hp := hs
  rw [e, List.pairwise_append] at hp
  obtain ⟨_, hp2, hp3⟩ := hp
  have hp4 := (List.pairwise_cons.1 hp2).1
  unfold cnt
  rw [List.filter_append, List.length_append]
  have e1 : (L.take q).filter (fun y => decide (y < L[q])) = L.take q := List.filter_eq_self.2 (fun y hy => by simpa using hp3 y hy L[q] (List.mem_cons_self))
  have e2 : (L.drop (q + 1)).filter (fun y => decide (y < L[q])) = [] := List.filter_eq_nil_iff.2 (fun y hy => by have := hp4 y hy; simp; omega)
  rw [e1, e2, List.length_take]
  simp; omega

theorem rankR_atl : ∀ (m : Nat) (L : List Int) (k : Nat), L.length = m → L.Pairwise (· < ·) → k < fct m → rankR (atl m L k) = k
  | 0, L, k, hl, _, hk => by
    have : k = 0 := by have : fct 0 = 1 := rfl; omega
    rw [this]; rfl
  | m + 1, L, k, hl, hs, hk => by
    have hG := fct_pos m
    have hq : k / fct m < L.length := by rw [hl, Nat.div_lt_iff_lt_mul hG]; exact hk
    have hl' : (L.eraseIdx (k / fct m)).length = m := by rw [List.length_eraseIdx_of_lt hq]; omega
    have hr := Nat.mod_lt k hG
    have hp := atl_perm m (L.eraseIdx (k / fct m)) (k % fct m) hl' hr
    have ih := rankR_atl m (L.eraseIdx (k / fct m)) (k % fct m) hl' (hs.sublist (List.eraseIdx_sublist _ _)) hr
    show cnt (L.getD (k / fct m) 0) (atl m (L.eraseIdx (k / fct m)) (k % fct m)) * fct (atl m (L.eraseIdx (k / fct m)) (k % fct m)).length + rankR (atl m (L.eraseIdx (k / fct m)) (k % fct m)) = k
    rw [cnt_perm hp, cnt_erase hs hq, hp.length_eq, hl', ih, Nat.mul_comm]
    exact Nat.div_add_mod k (fct m)

theorem rank_rowAt {n k : Nat} (hk : k < fct n) : rkTo (rowAt n k) (rowAt n k).length = k := by
  rw [rkTo_all]; exact rankR_atl n (rnd n) k (rnd_length n) (rnd_sorted n) hk

/-! texts -/

theorem bl_sign {m : Nat} (hm : m < 12) : bl (UInt8.ofNat (sg m)) = m := by
  refine bl_of hm ?_
  have := sg_lt m
  rw [UInt8.toNat_ofNat']; omega

theorem isRow_lt12 {xs : List Int} (h : isRow xs) (h12 : xs.length ≤ 12) : ∀ x ∈ xs, 0 ≤ x ∧ x.toNat < 12 := fun x hx => by have := h.1 x hx; omega

theorem bells_txt {xs : List Int} (h : isRow xs) (h12 : xs.length ≤ 12) : bells (strOfNums (txt xs)).data.toList = xs := by
  rw [strOfNums_data]
  unfold bells txt
  rw [List.map_map, List.map_map]
  have hx := isRow_lt12 h h12
  conv => rhs; rw [← List.map_id xs]
  refine List.map_congr_left (fun x hm => ?_)
  have := hx x hm
  show ((bl (UInt8.ofNat ((sg x.toNat : Nat) : Int).toNat) : Nat) : Int) = x
  rw [Int.toNat_natCast, bl_sign this.2]
  omega

theorem txt_signs {xs : List Int} (h : isRow xs) (h12 : xs.length ≤ 12) : ∀ q, (hq : q < (strOfNums (txt xs)).size) → bl (strOfNums (txt xs))[q] < 12 := by
  intro q hq
  have hx := isRow_lt12 h h12
  have hm : (strOfNums (txt xs))[q] ∈ (strOfNums (txt xs)).data.toList := by
    exact Array.mem_toList_iff.2 (Array.getElem_mem (xs := (strOfNums (txt xs)).data) hq)
  rw [strOfNums_data] at hm
  obtain ⟨t, ht, e⟩ := List.mem_map.1 hm
  obtain ⟨x, hx', rfl⟩ := List.mem_map.1 ht
  rw [← e, Int.toNat_natCast, bl_sign (hx x hx').2]
  exact (hx x hx').2

/-! what undoes a row -/

theorem isRow_onto {a : List Int} (h : isRow a) {i : Nat} (hi : i < a.length) : ∃ j, j < a.length ∧ a.getD j 0 = (i : Int) := by
  apply Classical.byContradiction
  intro hn
  have hni : ¬ (i : Int) ∈ a := by
    intro hm
    obtain ⟨j, hj, e⟩ := List.getElem_of_mem hm
    exact hn ⟨j, hj, by simp [List.getD, List.getElem?_eq_getElem hj, e]⟩
  have hl := nodup_len ((i : Int) :: a) (rnd a.length) (List.nodup_cons.2 ⟨hni, h.2⟩) (fun x hx => by
    have hx' : 0 ≤ x ∧ x < a.length := by
      rcases List.mem_cons.1 hx with rfl | hx
      · omega
      · exact h.1 x hx
    exact List.mem_map.2 ⟨x.toNat, List.mem_range.2 (by omega), by omega⟩)
  rw [rnd_length] at hl
  simp at hl
  omega

theorem undoes_at {zs a : List Int} (ha : isRow a) (hz : Undoes zs a) {i : Nat} (hi : i < a.length) : ∃ j, j < a.length ∧ a.getD j 0 = (i : Int) ∧ zs.getD i 0 = (j : Int) := by
  obtain ⟨j, hj, e⟩ := isRow_onto ha hi
  have := hz.2 j hj
  rw [e, Int.toNat_natCast] at this
  exact ⟨j, hj, e, this⟩

theorem isRow_undoes {zs a : List Int} (ha : isRow a) (hz : Undoes zs a) : isRow zs := by
  constructor
  · intro y hy
    obtain ⟨i, hi, rfl⟩ := List.getElem_of_mem hy
    obtain ⟨j, hj, _, e⟩ := undoes_at ha hz (show i < a.length by rw [← hz.1]; exact hi)
    rw [show zs.getD i 0 = zs[i] from by simp [List.getD, List.getElem?_eq_getElem hi]] at e
    rw [e, hz.1]; omega
  · rw [List.nodup_iff_pairwise_ne, List.pairwise_iff_getElem]
    intro i j hi hj hij e
    obtain ⟨i', _, a1, e1⟩ := undoes_at ha hz (show i < a.length by rw [← hz.1]; exact hi)
    obtain ⟨j', _, a2, e2⟩ := undoes_at ha hz (show j < a.length by rw [← hz.1]; exact hj)
    rw [show zs.getD i 0 = zs[i] from by simp [List.getD, List.getElem?_eq_getElem hi]] at e1
    rw [show zs.getD j 0 = zs[j] from by simp [List.getD, List.getElem?_eq_getElem hj]] at e2
    rw [e1, e2] at e
    have : i' = j' := by omega
    subst this
    omega

theorem by_undoes {zs a : List Int} (ha : isRow a) (hz : Undoes zs a) : by_ a zs = rnd a.length := by
  refine eq_rnd (by rw [by_length, hz.1]) (fun i hi => ?_)
  obtain ⟨j, hj, a1, e⟩ := undoes_at ha hz hi
  rw [by_get (by rw [hz.1]; exact hi), e, Int.toNat_natCast, a1]

theorem by_assoc {x y z : List Int} (hz : isRow z) (hl : z.length = y.length) : by_ (by_ x y) z = by_ x (by_ y z) := by
  refine ext_getD (by rw [by_length, by_length, by_length]) (fun j hj => ?_)
  rw [by_length] at hj
  have h1 := hz.at hj
  rw [by_get (a := by_ x y) hj, by_get (a := x) (b := y) (by omega), by_get (a := x) (b := by_ y z) (by rw [by_length]; exact hj), by_get (a := y) hj]

end Go.Proofs.Ytgglbafcocbhbaa
