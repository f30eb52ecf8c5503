/- Joined: Bell, Read, At, Ranks, Grp, Chn, Arr, ArrP, Mp, KMp, KMw, Bfs, GeW, GeX. -/
import Derived.Test.YtimfoggjocajiaaJ0
import Derived.WalkSmall
import Derived.Lib.OthersKept
import Derived.Shelf.Slices.Delete
import Derived.Lib.OwnBridge
import Derived.Deep.WholeRow
import Derived.Deep.MidRow
import Derived.Maps.OwnSet
import Derived.DeepKeys5
import Derived.Laws.StructEq
/- Contract: bellOf. -/
namespace Go.Proofs.Ytimfoggjocajiaa
open Go.RowKit
set_option maxRecDepth 20000

theorem byte_sign (m : Nat) (hm : m < 12) : (({ data := #[49, 50, 51, 52, 53, 54, 55, 56, 57, 48, 69, 84] } : ByteArray)[m]'(by exact hm)).toNat = sg m := by
  match m, hm with
  | 0, _ | 1, _ | 2, _ | 3, _ | 4, _ | 5, _ | 6, _ | 7, _ | 8, _ | 9, _ | 10, _ | 11, _ => rfl

theorem decode_sign (m : Nat) (hm : m < 12) : Utf8.decode { data := #[49, 50, 51, 52, 53, 54, 55, 56, 57, 48, 69, 84] } m = (sg m, 1) := by
  have h := byte_sign m hm
  rw [decode_ascii _ m (by exact hm) (by rw [h]; exact sg_lt m), h]

theorem sg_inj {i j : Nat} (hi : i < 12) (hj : j < 12) (h : sg i = sg j) : i = j := by
  have key : ∀ i : Fin 12, ∀ j : Fin 12, sg i.val = sg j.val → i = j := by decide
  have := key ⟨i, hi⟩ ⟨j, hj⟩ h
  exact congrArg Fin.val this

theorem next_sign (w : World) (k : Nat) (hk : k < 12) : ∀ ty, (Instr.next (.pointer (some ⟨w.heap.size, 0, none⟩)) true ty).run Try.prog (w.iter { data := #[49, 50, 51, 52, 53, 54, 55, 56, 57, 48, 69, 84] } k) =
    .ok (.tuple #[.bool true, .int .i64 (k : Int), .int .i32 ((sg k : Nat) : Int)]) (w.iter { data := #[49, 50, 51, 52, 53, 54, 55, 56, 57, 48, 69, 84] } (k + 1)) := by
  intro ty
  rw [run_next_any w _ k ty (by exact hk), decode_sign k hk]

theorem next_done (w : World) (k : Nat) (hk : ¬ k < 12) : ∀ ty, (Instr.next (.pointer (some ⟨w.heap.size, 0, none⟩)) true ty).run Try.prog (w.iter { data := #[49, 50, 51, 52, 53, 54, 55, 56, 57, 48, 69, 84] } k) =
    .ok (.tuple #[.bool false]) (w.iter { data := #[49, 50, 51, 52, 53, 54, 55, 56, 57, 48, 69, 84] } k) := by
  intro ty
  exact run_next_end w _ k ty (by exact hk)

theorem below_iter (w : World) (s : ByteArray) (k : Nat) : Below w.heap.size w (w.iter s k) := (Below.refl _ _).alloc (Nat.le_refl _) _

theorem ret_bell {k m : Nat} (h : k = m) : Ending.returned (.tuple #[.int .i64 (k : Int), .bool true]) = Ending.returned (.tuple #[.int .i64 (m : Int), .bool true]) := by rw [h]

end Go.Proofs.Ytimfoggjocajiaa

/- Contract: Read, at every text. -/
namespace Go.Proofs.Ytimfoggjocajiaa
open Go.RowKit Go.Lib

/-- The bell of a sign; 12: none. -/
def bl (b : UInt8) : Nat := ((List.range 12).find? (fun m => sg m == b.toNat)).getD 12

theorem bl_sg {b : UInt8} (h : bl b < 12) : sg (bl b) = b.toNat := by
  unfold bl at h ⊢
  cases hf : (List.range 12).find? (fun m => sg m == b.toNat) with
  | none => rw [hf] at h; simp at h
  | some p => rw [Option.getD_some]; simpa using List.find?_some hf

theorem bl_of {b : UInt8} {m : Nat} (hm : m < 12) (h : sg m = b.toNat) : bl b = m := by
  have h1 : bl b < 12 := by
    unfold bl
    cases hf : (List.range 12).find? (fun m => sg m == b.toNat) with
    | none =>
      have := List.find?_eq_none.1 hf m (List.mem_range.2 hm)
      simp [h] at this
    | some p =>
      rw [Option.getD_some]
      exact List.mem_range.1 (List.mem_of_find?_eq_some hf)
  have h2 := bl_sg h1
  exact sg_inj h1 hm (by rw [h2, h])

/-- The bells of a text's bytes. -/
def bells (l : List UInt8) : List Int := l.map (fun b => ((bl b : Nat) : Int))

theorem bells_length (l : List UInt8) : (bells l).length = l.length := by simp [bells]

theorem bells_snoc (s : ByteArray) (k : Nat) (h : k < s.size) : bells (s.data.toList.take (k + 1)) = bells (s.data.toList.take k) ++ [((bl (s[k]'h) : Nat) : Int)] := by
  rw [List.take_succ_eq_append_getElem (by simpa using h)]
  simp [bells]
  rfl

theorem chk_take (xs : List Int) : chk (xs.take 13) = chk xs := by
  by_cases h : xs.length ≤ 13
  · rw [List.take_of_length_le h]
  · rw [chk_count (by rw [List.length_take]; omega), chk_count (by omega)]

/-- What the loop's relation says of the world. -/
structure ReadRel (w wr : World) (s : ByteArray) (v : Value) (pos : Nat) : Prop where
  iter : wr.heap[w.heap.size]? = some (.stringIter s pos)
  signs : ∀ j, (h : j < s.size) → j < pos → bl s[j] < 12
  row : wr.ownsRow (w.heap.size + 1) 3 1 v (min pos 13) (((bells (s.data.toList.take pos)).take 13).map (Value.int .i64))
  size : w.heap.size < wr.heap.size
  below : Below w.heap.size w wr

theorem ReadRel.next {w wr w1 : World} {s : ByteArray} {v : Value} {pos : Nat} (h : ReadRel w wr s v pos) (hp : pos < s.size) (hs : bl (s[pos]'hp) < 12) (hb : Below wr.heap.size (wr.iterAt w.heap.size s (pos + 1)) w1) :
    w1.heap[w.heap.size]? = some (.stringIter s (pos + 1)) ∧ w1.ownsRow (w.heap.size + 1) 3 1 v (min pos 13) (((bells (s.data.toList.take pos)).take 13).map (Value.int .i64)) ∧ w.heap.size < w1.heap.size ∧ Below w.heap.size w w1 ∧
      ∀ j, (h : j < s.size) → j < pos + 1 → bl s[j] < 12 := by
  have hz : (wr.iterAt w.heap.size s (pos + 1)).heap.size = wr.heap.size := iterAt_size _ _ _ _
  refine ⟨?_, ?_, ?_, ?_, ?_⟩
  · rw [hb.block _ h.size]; exact iterAt_heap wr _ s pos (pos + 1) h.iter
  · exact owns_below (ownsRow_iterAt h.row (Nat.lt_succ_self _) s (pos + 1)) hb (by rw [hz]; exact Nat.le_refl _)
  · have h1 := h.size; have h2 := hb.size; omega
  · exact (below_iterAt h.below (Nat.le_refl _) s (pos + 1)).trans (hb.mono (Nat.le_of_lt h.size))
  · intro j hj hjp
    by_cases e : j = pos
    · subst e; exact hs
    · exact h.signs j hj (by omega)

theorem not_sign {s : ByteArray} {pos : Nat} (hp : pos < s.size) (hs : ¬ bl (s[pos]'hp) < 12) : ∀ m, m < 12 → (((Utf8.decode s pos).1 : Nat) : Int) ≠ ((sg m : Nat) : Int) := by
  intro m hm e
  by_cases ha : (s[pos]'hp).toNat < 128
  · rw [decode_ascii s pos hp ha] at e
    exact hs (by rw [bl_of hm (by simp only at e; omega)]; exact hm)
  · have h1 := (decode_high s pos hp (by omega)).1
    have h2 := sg_lt m
    omega

theorem ret_read {v : Value} {a b : Int} (h : a = b) : Ending.returned (.tuple #[v, .int .i64 a]) = Ending.returned (.tuple #[v, .int .i64 b]) := by rw [h]

/-- What Read answers. -/
def ReadSays (s : ByteArray) (e : Ending) (w' : World) : Prop :=
  ((∃ q, ∃ h : q < s.size, ¬ bl s[q] < 12) ∧ e = .returned (.tuple #[.slice none 0 0, .int .i64 4])) ∨
  ((∀ q, (h : q < s.size) → bl s[q] < 12) ∧ ((chk (bells s.data.toList) = 0 ∧ ∃ v, e = .returned (.tuple #[v, .int .i64 0]) ∧ Ints w' v (bells s.data.toList)) ∨
    (chk (bells s.data.toList) ≠ 0 ∧ e = .returned (.tuple #[.slice none 0 0, .int .i64 (chk (bells s.data.toList))]))))

theorem take_room {l : List Int} {pos : Nat} {m : Int} (h : l.length = pos) (h13 : pos ≤ 12) : (l ++ [m]).take 13 = l.take 13 ++ [m] := by
  rw [List.take_of_length_le (by simp; omega), List.take_of_length_le (by omega)]

theorem take_full {l : List Int} {pos : Nat} {m : Int} (h : l.length = pos) (h13 : ¬ pos ≤ 12) : (l ++ [m]).take 13 = l.take 13 := by
  rw [List.take_append_of_le_length (by omega)]

theorem bells_take_length {s : ByteArray} {pos : Nat} (h : pos ≤ s.size) : (bells (s.data.toList.take pos)).length = pos := by
  have h' : s.size = s.data.size := rfl
  rw [bells_length, List.length_take, Array.length_toList]; omega

end Go.Proofs.Ytimfoggjocajiaa

/- Contracts: slices.Delete (off the library's shelf), At. -/
namespace Go.Proofs.Ytimfoggjocajiaa
open Go.RowKit Go.Lib

theorem erase_take_drop (zs : List Int) (i : Nat) (h : i < zs.length) : (zs.take i ++ zs.drop (i + 1) ++ List.replicate (i + 1 - i) 0).take (zs.length - 1) = zs.eraseIdx i := by
  rw [List.eraseIdx_eq_take_drop_succ, List.take_append_of_le_length (by simp; omega), List.take_of_length_le (by simp; omega)]

/-- The row with a rank, out of the bells that are left. -/
def atl : Nat → List Int → Nat → List Int
  | 0, _, _ => []
  | m + 1, L, k => L.getD (k / fct m) 0 :: atl m (L.eraseIdx (k / fct m)) (k % fct m)

end Go.Proofs.Ytimfoggjocajiaa

/- Plain: the row at a rank has that rank; texts come back; what undoes a row. -/
namespace Go.Proofs.Ytimfoggjocajiaa

theorem cons_erase_perm (L : List Int) (q : Nat) (h : q < L.length) : (L.getD q 0 :: L.eraseIdx q).Perm L := by
  rw [show L.getD q 0 = L[q] from by simp [List.getD, List.getElem?_eq_getElem h]]
  have e : L = L.take q ++ L[q] :: L.drop (q + 1) := by rw [← List.drop_eq_getElem_cons h, List.take_append_drop]
  rw [List.eraseIdx_eq_take_drop_succ]
  exact (List.perm_middle (l₁ := L.take q)).symm.trans (by rw [← e])

theorem atl_perm : ∀ (m : Nat) (L : List Int) (k : Nat), L.length = m → k < fct m → (atl m L k).Perm L
  | 0, L, _, hl, _ => by rw [List.length_eq_zero_iff.1 hl]; exact List.Perm.refl _
  | m + 1, L, k, hl, hk => by
    have hG := fct_pos m
    have hq : k / fct m < L.length := by rw [hl, Nat.div_lt_iff_lt_mul hG]; exact hk
    have ih := atl_perm m (L.eraseIdx (k / fct m)) (k % fct m) (by rw [List.length_eraseIdx_of_lt hq]; omega) (Nat.mod_lt _ hG)
    exact (ih.cons _).trans (cons_erase_perm L _ hq)

theorem rnd_sorted (n : Nat) : (rnd n).Pairwise (· < ·) := by
  unfold rnd
  rw [List.pairwise_map]
  exact List.Pairwise.imp (fun h => by omega) (List.pairwise_lt_range (n := n))

theorem isRow_rnd (n : Nat) : isRow (rnd n) := by
  constructor
  · intro y hy
    rw [rnd_length]
    obtain ⟨i, hi, rfl⟩ := List.mem_map.1 hy
    have := List.mem_range.1 hi
    omega
  · rw [List.nodup_iff_pairwise_ne]
    exact List.Pairwise.imp (fun h => by omega) (rnd_sorted n)

theorem isRow_perm {xs ys : List Int} (h : xs.Perm ys) (hy : isRow ys) : isRow xs :=
  ⟨fun y hm => by rw [h.length_eq]; exact hy.1 y (h.mem_iff.1 hm), h.nodup_iff.2 hy.2⟩

/-- The row with rank k. -/
def rowAt (n k : Nat) : List Int := atl n (rnd n) k

theorem rowAt_perm {n k : Nat} (hk : k < fct n) : (rowAt n k).Perm (rnd n) := atl_perm n (rnd n) k (rnd_length n) hk

theorem rowAt_row {n k : Nat} (hk : k < fct n) : isRow (rowAt n k) := isRow_perm (rowAt_perm hk) (isRow_rnd n)

theorem rowAt_length {n k : Nat} (hk : k < fct n) : (rowAt n k).length = n := by rw [(rowAt_perm hk).length_eq, rnd_length]

/-- The rank, from the first bell on. -/
def rankR : List Int → Nat
  | [] => 0
  | x :: xs => cnt x xs * fct xs.length + rankR xs

theorem rkTo_rankR (xs : List Int) (k : Nat) (h : k ≤ xs.length) : rkTo xs k * fct (xs.length - k) + rankR (xs.drop k) = rankR xs := by
  induction k with
  | zero => simp [rkTo]
  | succ k ih =>
    rw [← ih (by omega)]
    have e : xs.drop k = xs.getD k 0 :: xs.drop (k + 1) := by
      rw [List.drop_eq_getElem_cons (by omega)]; simp [List.getD, List.getElem?_eq_getElem (show k < xs.length by omega)]
    rw [e]
    show (rkTo xs k * (xs.length - k) + cnt (xs.getD k 0) (xs.drop (k + 1))) * fct (xs.length - (k + 1)) + rankR (xs.drop (k + 1)) = rkTo xs k * fct (xs.length - k) + (cnt (xs.getD k 0) (xs.drop (k + 1)) * fct (xs.drop (k + 1)).length + rankR (xs.drop (k + 1)))
    have e2 : fct (xs.length - k) = (xs.length - k) * fct (xs.length - (k + 1)) := by
      rw [show xs.length - k = (xs.length - (k + 1)) + 1 from by omega]; rfl
    rw [e2, List.length_drop, Nat.add_mul, Nat.mul_assoc]
    omega

theorem rkTo_all (xs : List Int) : rkTo xs xs.length = rankR xs := by
  have h := rkTo_rankR xs xs.length (Nat.le_refl _)
  rw [Nat.sub_self, List.drop_length] at h
  simpa [fct, rankR] using h

theorem cnt_perm {x : Int} {l m : List Int} (h : l.Perm m) : cnt x l = cnt x m := (h.filter _).length_eq

theorem cnt_erase {L : List Int} (hs : L.Pairwise (· < ·)) {q : Nat} (h : q < L.length) : cnt (L.getD q 0) (L.eraseIdx q) = q := by
  rw [show L.getD q 0 = L[q] from by simp [List.getD, List.getElem?_eq_getElem h]]
  have e : L = L.take q ++ L[q] :: L.drop (q + 1) := by rw [← List.drop_eq_getElem_cons h, List.take_append_drop]
  rw [List.eraseIdx_eq_take_drop_succ]
  have hp := hs
  rw [e, List.pairwise_append] at hp
  obtain ⟨_, hp2, hp3⟩ := hp
  have hp4 := (List.pairwise_cons.1 hp2).1
  unfold cnt
  rw [List.filter_append, List.length_append]
  have e1 : (L.take q).filter (fun y => decide (y < L[q])) = L.take q := List.filter_eq_self.2 (fun y hy => by simpa using hp3 y hy L[q] (List.mem_cons_self))
  have e2 : (L.drop (q + 1)).filter (fun y => decide (y < L[q])) = [] := List.filter_eq_nil_iff.2 (fun y hy => by have := hp4 y hy; simp; omega)
  rw [e1, e2, List.length_take]
  simp; omega

theorem rankR_atl : ∀ (m : Nat) (L : List Int) (k : Nat), L.length = m → L.Pairwise (· < ·) → k < fct m → rankR (atl m L k) = k
  | 0, L, k, hl, _, hk => by
    have : k = 0 := by have : fct 0 = 1 := rfl; omega
    rw [this]; rfl
  | m + 1, L, k, hl, hs, hk => by
    have hG := fct_pos m
    have hq : k / fct m < L.length := by rw [hl, Nat.div_lt_iff_lt_mul hG]; exact hk
    have hl' : (L.eraseIdx (k / fct m)).length = m := by rw [List.length_eraseIdx_of_lt hq]; omega
    have hr := Nat.mod_lt k hG
    have hp := atl_perm m (L.eraseIdx (k / fct m)) (k % fct m) hl' hr
    have ih := rankR_atl m (L.eraseIdx (k / fct m)) (k % fct m) hl' (hs.sublist (List.eraseIdx_sublist _ _)) hr
    show cnt (L.getD (k / fct m) 0) (atl m (L.eraseIdx (k / fct m)) (k % fct m)) * fct (atl m (L.eraseIdx (k / fct m)) (k % fct m)).length + rankR (atl m (L.eraseIdx (k / fct m)) (k % fct m)) = k
    rw [cnt_perm hp, cnt_erase hs hq, hp.length_eq, hl', ih, Nat.mul_comm]
    exact Nat.div_add_mod k (fct m)

theorem rank_rowAt {n k : Nat} (hk : k < fct n) : rkTo (rowAt n k) (rowAt n k).length = k := by
  rw [rkTo_all]; exact rankR_atl n (rnd n) k (rnd_length n) (rnd_sorted n) hk

/-! texts -/

theorem bl_sign {m : Nat} (hm : m < 12) : bl (UInt8.ofNat (sg m)) = m := by
  refine bl_of hm ?_
  have := sg_lt m
  rw [UInt8.toNat_ofNat']; omega

theorem isRow_lt12 {xs : List Int} (h : isRow xs) (h12 : xs.length ≤ 12) : ∀ x ∈ xs, 0 ≤ x ∧ x.toNat < 12 := fun x hx => by have := h.1 x hx; omega

theorem bells_txt {xs : List Int} (h : isRow xs) (h12 : xs.length ≤ 12) : bells (strOfNums (txt xs)).data.toList = xs := by
  rw [strOfNums_data]
  unfold bells txt
  rw [List.map_map, List.map_map]
  have hx := isRow_lt12 h h12
  conv => rhs; rw [← List.map_id xs]
  refine List.map_congr_left (fun x hm => ?_)
  have := hx x hm
  show ((bl (UInt8.ofNat ((sg x.toNat : Nat) : Int).toNat) : Nat) : Int) = x
  rw [Int.toNat_natCast, bl_sign this.2]
  omega

theorem txt_signs {xs : List Int} (h : isRow xs) (h12 : xs.length ≤ 12) : ∀ q, (hq : q < (strOfNums (txt xs)).size) → bl (strOfNums (txt xs))[q] < 12 := by
  intro q hq
  have hx := isRow_lt12 h h12
  have hm : (strOfNums (txt xs))[q] ∈ (strOfNums (txt xs)).data.toList := by
    exact Array.mem_toList_iff.2 (Array.getElem_mem (xs := (strOfNums (txt xs)).data) hq)
  rw [strOfNums_data] at hm
  obtain ⟨t, ht, e⟩ := List.mem_map.1 hm
  obtain ⟨x, hx', rfl⟩ := List.mem_map.1 ht
  rw [← e, Int.toNat_natCast, bl_sign (hx x hx').2]
  exact (hx x hx').2

/-! what undoes a row -/

theorem isRow_onto {a : List Int} (h : isRow a) {i : Nat} (hi : i < a.length) : ∃ j, j < a.length ∧ a.getD j 0 = (i : Int) := by
  apply Classical.byContradiction
  intro hn
  have hni : ¬ (i : Int) ∈ a := by
    intro hm
    obtain ⟨j, hj, e⟩ := List.getElem_of_mem hm
    exact hn ⟨j, hj, by simp [List.getD, List.getElem?_eq_getElem hj, e]⟩
  have hl := nodup_len ((i : Int) :: a) (rnd a.length) (List.nodup_cons.2 ⟨hni, h.2⟩) (fun x hx => by
    have hx' : 0 ≤ x ∧ x < a.length := by
      rcases List.mem_cons.1 hx with rfl | hx
      · omega
      · exact h.1 x hx
    exact List.mem_map.2 ⟨x.toNat, List.mem_range.2 (by omega), by omega⟩)
  rw [rnd_length] at hl
  simp at hl
  omega

theorem undoes_at {zs a : List Int} (ha : isRow a) (hz : Undoes zs a) {i : Nat} (hi : i < a.length) : ∃ j, j < a.length ∧ a.getD j 0 = (i : Int) ∧ zs.getD i 0 = (j : Int) := by
  obtain ⟨j, hj, e⟩ := isRow_onto ha hi
  have := hz.2 j hj
  rw [e, Int.toNat_natCast] at this
  exact ⟨j, hj, e, this⟩

theorem isRow_undoes {zs a : List Int} (ha : isRow a) (hz : Undoes zs a) : isRow zs := by
  constructor
  · intro y hy
    obtain ⟨i, hi, rfl⟩ := List.getElem_of_mem hy
    obtain ⟨j, hj, _, e⟩ := undoes_at ha hz (show i < a.length by rw [← hz.1]; exact hi)
    rw [show zs.getD i 0 = zs[i] from by simp [List.getD, List.getElem?_eq_getElem hi]] at e
    rw [e, hz.1]; omega
  · rw [List.nodup_iff_pairwise_ne, List.pairwise_iff_getElem]
    intro i j hi hj hij e
    obtain ⟨i', _, a1, e1⟩ := undoes_at ha hz (show i < a.length by rw [← hz.1]; exact hi)
    obtain ⟨j', _, a2, e2⟩ := undoes_at ha hz (show j < a.length by rw [← hz.1]; exact hj)
    rw [show zs.getD i 0 = zs[i] from by simp [List.getD, List.getElem?_eq_getElem hi]] at e1
    rw [show zs.getD j 0 = zs[j] from by simp [List.getD, List.getElem?_eq_getElem hj]] at e2
    rw [e1, e2] at e
    have : i' = j' := by omega
    subst this
    omega

theorem by_undoes {zs a : List Int} (ha : isRow a) (hz : Undoes zs a) : by_ a zs = rnd a.length := by
  refine eq_rnd (by rw [by_length, hz.1]) (fun i hi => ?_)
  obtain ⟨j, hj, a1, e⟩ := undoes_at ha hz hi
  rw [by_get (by rw [hz.1]; exact hi), e, Int.toNat_natCast, a1]

theorem by_assoc {x y z : List Int} (hz : isRow z) (hl : z.length = y.length) : by_ (by_ x y) z = by_ x (by_ y z) := by
  refine ext_getD (by rw [by_length, by_length, by_length]) (fun j hj => ?_)
  rw [by_length] at hj
  have h1 := hz.at hj
  rw [by_get (a := by_ x y) hj, by_get (a := x) (b := y) (by omega), by_get (a := x) (b := by_ y z) (by rw [by_length]; exact hj), by_get (a := y) hj]

end Go.Proofs.Ytimfoggjocajiaa

/- Plain: rows of twelve bells as a group that acts on bells; what some rows generate. -/
namespace Go.Proofs.Ytimfoggjocajiaa

/-- Rows of twelve bells. -/
structure Pm where
  l : List Int
  len : l.length = 12
  row : isRow l

namespace Pm

/-- Which bell a row has in a place. -/
def act (x : Pm) (b : Nat) : Nat := if b < 12 then nx x.l b else b

theorem act_lt (x : Pm) {b : Nat} (h : b < 12) : x.act b < 12 := by
  unfold act; rw [if_pos h]
  have := nx_lt x.row (x := b) (by rw [x.len]; exact h)
  rw [x.len] at this; exact this

theorem act_ge (x : Pm) {b : Nat} (h : ¬ b < 12) : x.act b = b := by unfold act; rw [if_neg h]

theorem act_inj (x : Pm) {a b : Nat} (h : x.act a = x.act b) : a = b := by
  by_cases ha : a < 12
  · by_cases hb : b < 12
    · unfold act at h; rw [if_pos ha, if_pos hb] at h
      exact nx_inj x.row (by rw [x.len]; exact ha) (by rw [x.len]; exact hb) h
    · have := x.act_lt ha; rw [h, x.act_ge hb] at this; exact absurd this hb
  · by_cases hb : b < 12
    · have := x.act_lt hb; rw [← h, x.act_ge ha] at this; exact absurd this ha
    · rw [x.act_ge ha, x.act_ge hb] at h; exact h

theorem getD_act (x : Pm) {b : Nat} (h : b < 12) : x.l.getD b 0 = ((x.act b : Nat) : Int) := by
  unfold act; rw [if_pos h]
  have := x.row.at (j := b) (by rw [x.len]; exact h)
  unfold nx; omega

theorem ext' {x y : Pm} (h : ∀ b, b < 12 → x.act b = y.act b) : x = y := by
  have e : x.l = y.l := ext_getD (by rw [x.len, y.len]) (fun j hj => by
    rw [x.len] at hj
    rw [x.getD_act hj, y.getD_act hj, h j hj])
  cases x; cases y; cases e; rfl

theorem eq_of_l {x y : Pm} (e : x.l = y.l) : x = y := by cases x; cases y; cases e; rfl

instance : Mul Pm := ⟨fun x y => ⟨by_ x.l y.l, by rw [by_length]; exact y.len, isRow_by x.row y.row (by rw [x.len, y.len])⟩⟩
instance : One Pm := ⟨⟨rnd 12, rnd_length 12, isRow_rnd 12⟩⟩

theorem mul_l (x y : Pm) : (x * y).l = by_ x.l y.l := rfl
theorem one_l : (1 : Pm).l = rnd 12 := rfl

theorem act_mul (x y : Pm) (b : Nat) : (x * y).act b = x.act (y.act b) := by
  by_cases h : b < 12
  · have h2 := y.act_lt h
    have e1 : y.act b = nx y.l b := by unfold act; rw [if_pos h]
    have e2 : (x * y).act b = nx (x * y).l b := by unfold act; rw [if_pos h]
    have e3 : x.act (y.act b) = nx x.l (y.act b) := by unfold act; rw [if_pos (by exact h2)]
    rw [e2, e3, e1, mul_l, nx_by (by rw [y.len]; exact h)]
  · rw [act_ge _ h, act_ge _ h, act_ge _ h]

theorem act_one (b : Nat) : (1 : Pm).act b = b := by
  by_cases h : b < 12
  · unfold act; rw [if_pos h, one_l]
    have := rnd_get (n := 12) h
    unfold nx; rw [this]; omega
  · exact act_ge _ h

theorem mul_assoc (x y z : Pm) : x * y * z = x * (y * z) := ext' (fun b _ => by rw [act_mul, act_mul, act_mul, act_mul])
theorem one_mul (x : Pm) : 1 * x = x := ext' (fun b _ => by rw [act_mul, act_one])
theorem mul_one (x : Pm) : x * 1 = x := ext' (fun b _ => by rw [act_mul, act_one])

open Classical in
noncomputable def invl (x : Pm) : List Int := (List.range 12).map (fun i => if h : i < 12 then ((Classical.choose (isRow_onto x.row (i := i) (by rw [x.len]; exact h)) : Nat) : Int) else 0)

theorem invl_undoes (x : Pm) : Undoes x.invl x.l := by
  refine ⟨by rw [x.len]; simp [invl], fun j hj => ?_⟩
  have hj' : j < 12 := by rw [← x.len]; exact hj
  have h1 := x.row.at hj
  rw [x.len] at h1
  obtain ⟨m, hm⟩ := Int.eq_ofNat_of_zero_le h1.1
  have hm12 : m < 12 := by omega
  rw [hm]
  have e : x.invl.getD m 0 = ((Classical.choose (isRow_onto x.row (i := m) (by rw [x.len]; exact hm12)) : Nat) : Int) := by
    simp [invl, List.getD, hm12]
  have hs := Classical.choose_spec (isRow_onto x.row (i := m) (by rw [x.len]; exact hm12))
  rw [Int.toNat_natCast, e]
  have := x.row.inj hs.1 hj (by rw [hs.2]; exact hm.symm)
  omega

noncomputable instance : Inv Pm := ⟨fun x => ⟨x.invl, by rw [(invl_undoes x).1]; exact x.len, isRow_undoes x.row (invl_undoes x)⟩⟩

theorem inv_l (x : Pm) : (x⁻¹).l = x.invl := rfl

theorem act_undoes {x z : Pm} (h : Undoes z.l x.l) (b : Nat) : z.act (x.act b) = b := by
  by_cases hb : b < 12
  · have h2 := x.act_lt hb
    have h3 := h.2 b (by rw [x.len]; exact hb)
    unfold act at h2 ⊢
    rw [if_pos hb] at h2 ⊢
    rw [if_pos h2]
    unfold nx at h2 ⊢
    omega
  · rw [act_ge _ hb, act_ge _ hb]

theorem inv_act (x : Pm) (b : Nat) : x⁻¹.act (x.act b) = b := act_undoes (x.invl_undoes) b

theorem act_inv (x : Pm) (b : Nat) : x.act (x⁻¹.act b) = b := by
  apply x⁻¹.act_inj
  rw [inv_act]

theorem inv_mul (x : Pm) : x⁻¹ * x = 1 := ext' (fun b _ => by rw [act_mul, inv_act, act_one])
theorem mul_inv (x : Pm) : x * x⁻¹ = 1 := ext' (fun b _ => by rw [act_mul, act_inv, act_one])
theorem inv_mul_cancel (x y : Pm) : x⁻¹ * (x * y) = y := by rw [← mul_assoc, inv_mul, one_mul]
theorem mul_inv_cancel (x y : Pm) : x * (x⁻¹ * y) = y := by rw [← mul_assoc, mul_inv, one_mul]
theorem mul_cancel {x y z : Pm} (h : x * y = x * z) : y = z := by rw [← inv_mul_cancel x y, h, inv_mul_cancel]
theorem eq_inv_of {x y : Pm} (h : x * y = 1) : y = x⁻¹ := by rw [← inv_mul_cancel x y, h, mul_one]
theorem inv_one : (1 : Pm)⁻¹ = 1 := (eq_inv_of (one_mul 1)).symm
theorem inv_inv (x : Pm) : x⁻¹⁻¹ = x := (eq_inv_of (inv_mul x)).symm
theorem inv_prod (x y : Pm) : (x * y)⁻¹ = y⁻¹ * x⁻¹ := (eq_inv_of (by rw [mul_assoc, ← mul_assoc y, mul_inv, one_mul, mul_inv])).symm

theorem undoes_eq {x : Pm} {zs : List Int} (h : Undoes zs x.l) : zs = (x⁻¹).l := by
  have h1 : isRow zs := isRow_undoes x.row h
  have h2 : zs.length = 12 := by rw [h.1, x.len]
  have e : (⟨zs, h2, h1⟩ : Pm) = x⁻¹ := by
    apply eq_inv_of
    refine ext' (fun b _ => ?_)
    have h3 : (⟨zs, h2, h1⟩ : Pm) * x = 1 := ext' (fun b _ => by rw [act_mul, act_one]; exact act_undoes (x := x) (z := ⟨zs, h2, h1⟩) h b)
    have h4 : x = (⟨zs, h2, h1⟩ : Pm)⁻¹ := eq_inv_of h3
    rw [h4, inv_mul]
  rw [← e]

/-! powers -/
def pow (x : Pm) : Nat → Pm
  | 0 => 1
  | n + 1 => x * x.pow n

theorem act_pow (x : Pm) (n : Nat) {b : Nat} (hb : b < 12) : (x.pow n).act b = it x.l n b := by
  induction n with
  | zero => exact act_one b
  | succ n ih =>
    show (x * x.pow n).act b = _
    have h12 := it_lt x.row (x := b) (by rw [x.len]; exact hb) n
    rw [x.len] at h12
    rw [act_mul, ih]
    show (if it x.l n b < 12 then nx x.l (it x.l n b) else _) = nx x.l (it x.l n b)
    rw [if_pos h12]

theorem dvd_fct {m n : Nat} (h1 : 1 ≤ m) (h2 : m ≤ n) : m ∣ fct n := by
  induction n with
  | zero => omega
  | succ n ih =>
    show m ∣ (n + 1) * fct n
    by_cases e : m = n + 1
    · subst e; exact Nat.dvd_mul_right _ _
    · exact Nat.dvd_trans (ih (by omega)) (Nat.dvd_mul_left _ _)

theorem it_mult {r : List Int} {x p : Nat} (h : it r p x = x) (d : Nat) : it r (p * d) x = x := by
  induction d with
  | zero => rfl
  | succ d ih => rw [Nat.mul_succ, it_add, h, ih]

theorem pow_all (x : Pm) : x.pow (fct 12) = 1 := ext' (fun b hb => by
  have hp := per_spec x.row (x := b) (by rw [x.len]; exact hb)
  rw [x.len] at hp
  obtain ⟨d, hd⟩ := dvd_fct hp.1 hp.2.1
  rw [act_pow x _ hb, hd, it_mult hp.2.2.1, act_one])

theorem inv_pow (x : Pm) : x⁻¹ = x.pow (fct 12 - 1) := by
  symm
  apply eq_inv_of
  show x.pow (fct 12 - 1 + 1) = 1
  rw [show fct 12 - 1 + 1 = fct 12 from by decide]
  exact pow_all x

end Pm

/-! what rows generate -/

inductive Gen (S : Pm → Prop) : Pm → Prop
  | one : Gen S 1
  | mul {s x : Pm} : S s → Gen S x → Gen S (s * x)

structure Sub (H : Pm → Prop) : Prop where
  one : H 1
  mul : ∀ {x y}, H x → H y → H (x * y)
  inv : ∀ {x}, H x → H x⁻¹

theorem Gen.of {S : Pm → Prop} {s : Pm} (h : S s) : Gen S s := by
  have := Gen.mul h Gen.one; rwa [Pm.mul_one] at this

theorem Gen.mul' {S : Pm → Prop} {x y : Pm} (hx : Gen S x) (hy : Gen S y) : Gen S (x * y) := by
  induction hx with
  | one => rw [Pm.one_mul]; exact hy
  | mul hs _ ih => rw [Pm.mul_assoc]; exact Gen.mul hs ih

theorem Gen.pow {S : Pm → Prop} {x : Pm} (hx : Gen S x) (n : Nat) : Gen S (x.pow n) := by
  induction n with
  | zero => exact Gen.one
  | succ n ih => exact Gen.mul' hx ih

theorem Gen.inv {S : Pm → Prop} {x : Pm} (hx : Gen S x) : Gen S x⁻¹ := by rw [Pm.inv_pow]; exact hx.pow _

theorem Gen.sub (S : Pm → Prop) : Sub (Gen S) := ⟨Gen.one, Gen.mul', Gen.inv⟩

theorem Gen.least {S H : Pm → Prop} (hH : Sub H) (h : ∀ s, S s → H s) {x : Pm} (hx : Gen S x) : H x := by
  induction hx with
  | one => exact hH.one
  | mul hs _ ih => exact hH.mul (h _ hs) ih

theorem Gen.mono {S T : Pm → Prop} (h : ∀ s, S s → T s) {x : Pm} (hx : Gen S x) : Gen T x := hx.least (Gen.sub T) (fun s hs => Gen.of (h s hs))

theorem Sub.and {H K : Pm → Prop} (h : Sub H) (k : Sub K) : Sub (fun x => H x ∧ K x) :=
  ⟨⟨h.one, k.one⟩, fun hx hy => ⟨h.mul hx.1 hy.1, k.mul hx.2 hy.2⟩, fun hx => ⟨h.inv hx.1, k.inv hx.2⟩⟩

/-- A row leaves some bells in their places. -/
def Fixes (F : Nat → Prop) (x : Pm) : Prop := ∀ b, F b → x.act b = b

theorem fixes_sub (F : Nat → Prop) : Sub (Fixes F) :=
  ⟨fun b _ => Pm.act_one b, fun {x y} hx hy b hb => by rw [Pm.act_mul, hy b hb, hx b hb], fun {x} hx b hb => by have := hx b hb; rw [← this, Pm.inv_act, this]⟩

theorem fixes_all {F : Nat → Prop} (h : ∀ b, b < 12 → F b) {x : Pm} (hx : Fixes F x) : x = 1 := Pm.ext' (fun b hb => by rw [hx b (h b hb), Pm.act_one])

/-! rows of fewer bells -/

open Classical in
noncomputable def pad (l : List Int) : Pm := if h : l.length ≤ 12 ∧ isRow l then ⟨l ++ (rnd 12).drop l.length, by rw [List.length_append, List.length_drop, rnd_length]; omega, by
    obtain ⟨h1, h2⟩ := h
    constructor
    · intro y hy
      rw [List.length_append, List.length_drop, rnd_length]
      rcases List.mem_append.1 hy with hy | hy
      · have := h2.1 y hy; omega
      · have := (isRow_rnd 12).1 y (List.mem_of_mem_drop hy); rw [rnd_length] at this; omega
    · rw [List.nodup_append]
      refine ⟨h2.2, (isRow_rnd 12).2.sublist (List.drop_sublist _ _), ?_⟩
      intro a ha b hb e
      have h3 := h2.1 a ha
      rw [List.mem_iff_getElem] at hb
      obtain ⟨i, hi, rfl⟩ := hb
      rw [List.getElem_drop] at e
      have h4 : (rnd 12)[l.length + i]'(by rw [List.length_drop] at hi; omega) = ((l.length + i : Nat) : Int) := by simp [rnd]
      rw [h4] at e
      omega⟩ else 1

theorem pad_l {l : List Int} (h1 : l.length ≤ 12) (h2 : isRow l) : (pad l).l = l ++ (rnd 12).drop l.length := by
  unfold pad; rw [dif_pos ⟨h1, h2⟩]

theorem pad_act {l : List Int} (h1 : l.length ≤ 12) (h2 : isRow l) (b : Nat) : (pad l).act b = if b < l.length then nx l b else b := by
  by_cases hb : b < 12
  · unfold Pm.act; rw [if_pos hb, pad_l h1 h2]
    unfold nx
    by_cases hl : b < l.length
    · rw [if_pos hl]; simp [List.getD, List.getElem?_append_left hl]
    · rw [if_neg hl]
      simp only [List.getD]
      rw [List.getElem?_append_right (by omega), List.getElem?_drop, show l.length + (b - l.length) = b from by omega]
      have := rnd_get (n := 12) hb
      simp only [List.getD] at this
      rw [this]; omega
  · rw [Pm.act_ge _ hb, if_neg (by omega)]

theorem pad_by {a b : List Int} (h1 : a.length ≤ 12) (h2 : isRow a) (h3 : isRow b) (h4 : b.length = a.length) : pad (by_ a b) = pad a * pad b := by
  have hr := isRow_by h2 h3 h4
  refine Pm.ext' (fun x _ => ?_)
  rw [Pm.act_mul, pad_act (by rw [by_length]; omega) hr, pad_act (by omega) h3, pad_act h1 h2, by_length]
  by_cases hx : x < b.length
  · have := nx_lt h3 hx
    rw [if_pos hx, if_pos hx, if_pos (by omega), nx_by hx]
  · rw [if_neg hx, if_neg hx, if_neg (by omega)]

theorem pad_rnd {n : Nat} (h : n ≤ 12) : pad (rnd n) = 1 := by
  refine Pm.ext' (fun x _ => ?_)
  rw [pad_act (by rw [rnd_length]; exact h) (isRow_rnd n), Pm.act_one, rnd_length]
  split
  · rename_i hx
    unfold nx; rw [rnd_get hx]; omega
  · rfl

theorem pad_undoes {zs a : List Int} (h1 : a.length ≤ 12) (h2 : isRow a) (h : Undoes zs a) : pad zs = (pad a)⁻¹ := by
  apply Pm.eq_inv_of
  rw [← pad_by h1 h2 (isRow_undoes h2 h) h.1, by_undoes h2 h, pad_rnd h1]

theorem pad_inj {a b : List Int} (h1 : a.length ≤ 12) (ha : isRow a) (hb : isRow b) (hl : b.length = a.length) (h : pad a = pad b) : a = b := by
  refine ext_getD hl.symm (fun j hj => ?_)
  have h3 : (pad a).act j = (pad b).act j := by rw [h]
  rw [pad_act h1 ha, pad_act (by omega) hb, if_pos hj, if_pos (by omega)] at h3
  have h4 := ha.at hj
  have h5 := hb.at (j := j) (by omega)
  unfold nx at h3; omega

/-- The first n bells of a row that leaves the rest. -/
def cut (n : Nat) (x : Pm) : List Int := x.l.take n

theorem cut_length {n : Nat} (h : n ≤ 12) (x : Pm) : (cut n x).length = n := by unfold cut; rw [List.length_take, x.len]; omega

theorem cut_get {n j : Nat} (x : Pm) (h : n ≤ 12) (hj : j < n) : (cut n x).getD j 0 = ((x.act j : Nat) : Int) := by
  rw [← x.getD_act (by omega)]
  unfold cut
  simp [List.getD, hj]

theorem fix_lt {n : Nat} {x : Pm} (hf : Fixes (fun b => n ≤ b) x) {b : Nat} (hb : b < n) : x.act b < n := by
  rcases Nat.lt_or_ge (x.act b) n with h | h
  · exact h
  · have := hf _ h
    have := x.act_inj this
    omega

theorem cut_row {n : Nat} (h : n ≤ 12) {x : Pm} (hf : Fixes (fun b => n ≤ b) x) : isRow (cut n x) := by
  constructor
  · intro y hy
    rw [cut_length h]
    obtain ⟨i, hi, rfl⟩ := List.getElem_of_mem hy
    have hi' : i < n := by rw [cut_length h] at hi; exact hi
    have := cut_get x h hi'
    simp only [List.getD, List.getElem?_eq_getElem hi, Option.getD_some] at this
    rw [this]
    have := fix_lt hf hi'
    omega
  · exact x.row.2.sublist (List.take_sublist _ _)

theorem pad_cut {n : Nat} (h : n ≤ 12) {x : Pm} (hf : Fixes (fun b => n ≤ b) x) : pad (cut n x) = x := by
  refine Pm.ext' (fun b hb => ?_)
  rw [pad_act (by rw [cut_length h]; exact h) (cut_row h hf), cut_length h]
  split
  · rename_i hn
    unfold nx; rw [cut_get x h hn]; omega
  · rename_i hn
    exact (hf b (by show n ≤ b; omega)).symm

theorem pad_fixes {n : Nat} {l : List Int} (h : n ≤ 12) (hl : l.length = n) (hr : isRow l) : Fixes (fun b => n ≤ b) (pad l) := by
  intro b hb
  have hb : n ≤ b := hb
  rw [pad_act (by omega) hr, if_neg (by omega)]

theorem cut_pad {n : Nat} {l : List Int} (h : n ≤ 12) (hl : l.length = n) (hr : isRow l) : cut n (pad l) = l := by
  unfold cut
  rw [pad_l (by omega) hr, ← hl, List.take_left']
  rfl

end Go.Proofs.Ytimfoggjocajiaa

/- Plain: a group as a chain of links: what it holds, when it is whole, and how one more row makes it greater (Schreier). -/
namespace Go.Proofs.Ytimfoggjocajiaa

/-- A link: its base, what brings which bell there, its generators. -/
structure Lk where
  base : Nat
  tab : List (Nat × Pm)
  gens : List Pm

/-- The rows of a chain. -/
def Prd : List Lk → Pm → Prop
  | [], p => p = 1
  | l :: c, p => ∃ e, e ∈ l.tab ∧ ∃ h, Prd c h ∧ p = e.2 * h

structure LkOk (F : Nat → Prop) (l : Lk) : Prop where
  nodup : (l.tab.map (·.1)).Nodup
  brings : ∀ e, e ∈ l.tab → e.2.act l.base = e.1
  first : (l.base, (1 : Pm)) ∈ l.tab
  fix : ∀ e, e ∈ l.tab → Fixes F e.2

/-- F and one bell more. -/
def plus (F : Nat → Prop) (b : Nat) : Nat → Prop := fun x => F x ∨ x = b

def Whole : (Nat → Prop) → List Lk → Prop
  | F, [] => ∀ b, b < 12 → F b
  | F, l :: c => LkOk F l ∧ Whole (plus F l.base) c ∧ (∀ p, Prd (l :: c) p ↔ Gen (fun x => x ∈ l.gens) p)

theorem fixes_plus {F : Nat → Prop} {b : Nat} {x : Pm} : Fixes (plus F b) x ↔ Fixes F x ∧ x.act b = b :=
  ⟨fun h => ⟨fun a ha => h a (Or.inl ha), h b (Or.inr rfl)⟩, fun h a ha => by rcases ha with ha | rfl; exact h.1 a ha; exact h.2⟩

theorem prd_fix {c : List Lk} {F : Nat → Prop} {p : Pm} (hw : Whole F c) (h : Prd c p) : Fixes F p := by
  induction c generalizing F p with
  | nil => rw [show p = (1 : Pm) from h]; exact (fixes_sub _).one
  | cons l c ih =>
    obtain ⟨e, he, h, hh, hp⟩ := h
    rw [hp]
    exact (fixes_sub F).mul (hw.1.fix e he) (fixes_plus.1 (ih hw.2.1 hh)).1

theorem prd_sub {c : List Lk} {F : Nat → Prop} (hw : Whole F c) : Sub (Prd c) := by
  cases c with
  | nil => exact ⟨rfl, fun {x y} hx hy => by rw [show x = 1 from hx, show y = 1 from hy]; exact Pm.one_mul 1, fun {x} hx => by rw [show x = 1 from hx]; exact Pm.inv_one⟩
  | cons l c =>
    have h := hw.2.2
    exact ⟨(h 1).2 Gen.one, fun {x y} hx hy => (h _).2 (Gen.mul' ((h x).1 hx) ((h y).1 hy)), fun {x} hx => (h _).2 (Gen.inv ((h x).1 hx))⟩

/-- Does a chain hold a row? (As the code asks.) -/
noncomputable def hasC : List Lk → Pm → Bool
  | [], _ => true
  | l :: c, p => (l.tab.lookup (p.act l.base)).elim false (fun u => hasC c (u⁻¹ * p))

theorem lookup_mem {tab : List (Nat × Pm)} {b : Nat} {u : Pm} (h : tab.lookup b = some u) : (b, u) ∈ tab := by
  induction tab with
  | nil => simp at h
  | cons e t ih =>
    rw [List.lookup_cons] at h
    split at h
    · rename_i hb
      have hb : b = e.1 := by simpa using hb
      injection h with h
      subst h; subst hb; exact List.mem_cons_self
    · exact List.mem_cons_of_mem _ (ih h)

theorem lookup_of_mem {tab : List (Nat × Pm)} (hn : (tab.map (·.1)).Nodup) {b : Nat} {u : Pm} (h : (b, u) ∈ tab) : tab.lookup b = some u := by
  induction tab with
  | nil => cases h
  | cons e t ih =>
    rw [List.map_cons, List.nodup_cons] at hn
    rw [List.lookup_cons]
    rcases List.mem_cons.1 h with rfl | h
    · simp
    · have hne : ¬ b = e.1 := fun hb => hn.1 (List.mem_map.2 ⟨(b, u), h, hb⟩)
      split
      · rename_i hb; exact absurd (by simpa using hb) hne
      · exact ih hn.2 h

theorem lookup_none {tab : List (Nat × Pm)} {b : Nat} (h : tab.lookup b = none) : ∀ e, e ∈ tab → e.1 ≠ b := by
  induction tab with
  | nil => intro e he; cases he
  | cons x t ih =>
    rw [List.lookup_cons] at h
    split at h
    · cases h
    · rename_i hb
      intro e he
      rcases List.mem_cons.1 he with rfl | he
      · intro e2; exact absurd e2.symm (by simpa using hb)
      · exact ih h e he

theorem tab_eq {tab : List (Nat × Pm)} (hn : (tab.map (·.1)).Nodup) {b : Nat} {u v : Pm} (h1 : (b, u) ∈ tab) (h2 : (b, v) ∈ tab) : u = v := by
  have e1 := lookup_of_mem hn h1
  rw [lookup_of_mem hn h2] at e1
  injection e1 with e1; exact e1.symm

theorem has_iff {c : List Lk} {F : Nat → Prop} {p : Pm} (hw : Whole F c) (hf : Fixes F p) : hasC c p = true ↔ Prd c p := by
  induction c generalizing F p with
  | nil =>
    have := fixes_all hw hf
    simp [hasC, Prd, this]
  | cons l c ih =>
    obtain ⟨hok, hwc, _⟩ := hw
    cases hl : l.tab.lookup (p.act l.base) with
    | none =>
      simp only [hasC, hl, Option.elim]
      constructor
      · intro h; cases h
      · rintro ⟨e, he, h, hh, rfl⟩
        have h1 := (fixes_plus.1 (prd_fix hwc hh)).2
        rw [Pm.act_mul, h1, hok.brings e he] at hl
        exact absurd rfl (lookup_none hl e he)
    | some u =>
      have hm := lookup_mem hl
      have hb := hok.brings _ hm
      have hf2 : Fixes (plus F l.base) (u⁻¹ * p) := fixes_plus.2 ⟨(fixes_sub F).mul ((fixes_sub F).inv (hok.fix _ hm)) hf, by have hb : u.act l.base = p.act l.base := hb; rw [Pm.act_mul, ← hb, Pm.inv_act]⟩
      simp only [hasC, hl, Option.elim]
      rw [ih hwc hf2]
      constructor
      · intro h; exact ⟨_, hm, _, h, by rw [Pm.mul_inv_cancel]⟩
      · rintro ⟨e, he, h, hh, rfl⟩
        have h1 := (fixes_plus.1 (prd_fix hwc hh)).2
        rw [Pm.act_mul, h1, hok.brings e he] at hl
        have h2 := lookup_of_mem hok.nodup (b := e.1) (u := e.2) (by exact he)
        rw [h2] at hl
        injection hl with hl
        rw [← hl, Pm.inv_mul_cancel]
        exact hh

/-- A link that is being filled, and the chain behind it. -/
structure Part (F : Nat → Prop) (l : Lk) (c : List Lk) : Prop where
  ok : LkOk F l
  whole : Whole (plus F l.base) c
  inG : ∀ e, e ∈ l.tab → Gen (fun x => x ∈ l.gens) e.2
  cG : ∀ h, Prd c h → Gen (fun x => x ∈ l.gens) h
  gF : ∀ s, s ∈ l.gens → Fixes F s

def Done (l : Lk) (c : List Lk) (s : Pm) (e : Nat × Pm) : Prop := ∃ e', e' ∈ l.tab ∧ e'.1 = s.act e.1 ∧ Prd c (e'.2⁻¹ * (s * e.2))

theorem Part.closes {F : Nat → Prop} {l : Lk} {c : List Lk} (h : Part F l c) (hd : ∀ s, s ∈ l.gens → ∀ e, e ∈ l.tab → Done l c s e) : Whole F (l :: c) := by
  refine ⟨h.ok, h.whole, fun p => ⟨?_, ?_⟩⟩
  · rintro ⟨e, he, x, hx, rfl⟩
    exact Gen.mul' (h.inG e he) (h.cG x hx)
  · intro hp
    have hs := prd_sub h.whole
    induction hp with
    | one => exact ⟨_, h.ok.first, 1, hs.one, by rw [Pm.mul_one]⟩
    | mul hsg _ ih =>
      obtain ⟨e, he, x, hx, rfl⟩ := ih
      obtain ⟨e', he', _, hpr⟩ := hd _ hsg e he
      exact ⟨e', he', _, hs.mul hpr hx, by rw [Pm.mul_assoc e'.2⁻¹, Pm.mul_inv_cancel, Pm.mul_assoc]⟩

/-- What 'take' leaves: the rows of the chain are all that come of those that were there and the new one. -/
structure Took (c c' : List Lk) (p : Pm) : Prop where
  len : c'.length = c.length
  bases : c'.map (·.base) = c.map (·.base)
  grow : ∀ h, Prd c h → Prd c' h
  there : Prd c' p
  least : ∀ H, Sub H → (∀ h, Prd c h → H h) → H p → ∀ h, Prd c' h → H h

theorem Took.refl {c : List Lk} {p : Pm} (h : Prd c p) : Took c c p := ⟨rfl, rfl, fun _ h => h, h, fun _ _ h _ => h⟩

/-- What 'bring' leaves. -/
structure Brought (l : Lk) (c : List Lk) (l' : Lk) (c' : List Lk) (p : Pm) : Prop where
  base : l'.base = l.base
  gens : l'.gens = l.gens
  tab : ∃ more, l'.tab = l.tab ++ more
  len : c'.length = c.length
  bases : c'.map (·.base) = c.map (·.base)
  grow : ∀ h, Prd c h → Prd c' h
  there : ∃ e, e ∈ l'.tab ∧ e.1 = p.act l.base ∧ Prd c' (e.2⁻¹ * p)
  new : ∀ e, e ∈ l'.tab → e ∉ l.tab → ∀ s, s ∈ l.gens → Done l' c' s e

/-- An old bell: the link stands, the chain behind it takes what is left. -/
theorem Part.old {F : Nat → Prop} {l : Lk} {c c' : List Lk} {p u : Pm} (h : Part F l c) (hu : (p.act l.base, u) ∈ l.tab) (hp : Gen (fun x => x ∈ l.gens) p) (hw : Whole (plus F l.base) c') (ht : Took c c' (u⁻¹ * p)) :
    Part F l c' ∧ Brought l c l c' p := by
  refine ⟨⟨h.ok, hw, h.inG, fun x hx => ht.least _ (Gen.sub _) h.cG (Gen.mul' (Gen.inv (h.inG _ hu)) hp) x hx, h.gF⟩, ⟨rfl, rfl, ⟨[], by simp⟩, ht.len, ht.bases, ht.grow, ⟨_, hu, rfl, ht.there⟩, fun e he hn => absurd he hn⟩⟩

/-- A new bell: the link has one more entry. -/
def Lk.add (l : Lk) (b : Nat) (p : Pm) : Lk := { l with tab := l.tab ++ [(b, p)] }

theorem Part.add {F : Nat → Prop} {l : Lk} {c : List Lk} {p : Pm} (h : Part F l c) (hb : l.tab.lookup (p.act l.base) = none) (hf : Fixes F p) (hp : Gen (fun x => x ∈ l.gens) p) : Part F (l.add (p.act l.base) p) c := by
  refine ⟨⟨?_, ?_, ?_, ?_⟩, h.whole, ?_, h.cG, h.gF⟩
  · show ((l.tab ++ [(p.act l.base, p)]).map (·.1)).Nodup
    rw [List.map_append, List.nodup_append]
    refine ⟨h.ok.nodup, by simp, ?_⟩
    intro a ha b hb2 e
    obtain ⟨e0, he0, rfl⟩ := List.mem_map.1 ha
    have : b = p.act l.base := by simpa using hb2
    exact lookup_none hb e0 he0 (by rw [e, this])
  · intro e he
    rcases List.mem_append.1 he with he | he
    · exact h.ok.brings e he
    · rw [List.mem_singleton.1 he]; rfl
  · exact List.mem_append_left _ h.ok.first
  · intro e he
    rcases List.mem_append.1 he with he | he
    · exact h.ok.fix e he
    · rw [List.mem_singleton.1 he]; exact hf
  · intro e he
    rcases List.mem_append.1 he with he | he
    · exact h.inG e he
    · rw [List.mem_singleton.1 he]; exact hp

/-- The loop behind a new bell: after the first i generators. -/
structure Loop (l : Lk) (c : List Lk) (l0 : Lk) (l' : Lk) (c' : List Lk) (p : Pm) (i : Nat) : Prop where
  base : l'.base = l.base
  gens : l'.gens = l.gens
  tab : ∃ more, l'.tab = l.tab ++ more
  len : c'.length = c.length
  bases : c'.map (·.base) = c.map (·.base)
  grow : ∀ h, Prd c h → Prd c' h
  new : ∀ e, e ∈ l'.tab → e ∉ l.tab → ∀ s, s ∈ l.gens → Done l' c' s e
  done : ∀ s, s ∈ l.gens.take i → Done l' c' s (p.act l0.base, p)

theorem Done.mono {l l' : Lk} {c c' : List Lk} {s : Pm} {e : Nat × Pm} (h : Done l c s e) (ht : ∃ more, l'.tab = l.tab ++ more) (hg : ∀ h, Prd c h → Prd c' h) : Done l' c' s e := by
  obtain ⟨e', he', h1, h2⟩ := h
  obtain ⟨more, hm⟩ := ht
  exact ⟨e', by rw [hm]; exact List.mem_append_left _ he', h1, hg _ h2⟩

theorem Brought.trans_new {l l1 l2 : Lk} {c1 c2 : List Lk} {q : Pm} (hn : ∀ e, e ∈ l1.tab → e ∉ l.tab → ∀ s, s ∈ l.gens → Done l1 c1 s e) (hg : l1.gens = l.gens) (h : Brought l1 c1 l2 c2 q) :
    ∀ e, e ∈ l2.tab → e ∉ l.tab → ∀ s, s ∈ l.gens → Done l2 c2 s e := by
  intro e he hne s hs
  by_cases h1 : e ∈ l1.tab
  · exact (hn e h1 hne s hs).mono h.tab h.grow
  · exact h.new e he h1 s (by rw [hg]; exact hs)

theorem Loop.step {l l0 l' l2 : Lk} {c c' c2 : List Lk} {p s : Pm} {i : Nat} (h : Loop l c l0 l' c' p i) (hi : l.gens.take (i + 1) = l.gens.take i ++ [s]) (hb : l0.base = l.base) (h2 : Brought l' c' l2 c2 (s * p)) : Loop l c l0 l2 c2 p (i + 1) := by
  obtain ⟨m1, hm1⟩ := h.tab
  obtain ⟨m2, hm2⟩ := h2.tab
  refine ⟨h2.base.trans h.base, h2.gens.trans h.gens, ⟨m1 ++ m2, by rw [hm2, hm1, List.append_assoc]⟩, h2.len.trans h.len, h2.bases.trans h.bases, fun x hx => h2.grow x (h.grow x hx), Brought.trans_new h.new h.gens h2, ?_⟩
  intro t ht
  rw [hi] at ht
  rcases List.mem_append.1 ht with ht | ht
  · exact (h.done t ht).mono h2.tab h2.grow
  · rw [List.mem_singleton.1 ht]
    obtain ⟨e, he, h3, h4⟩ := h2.there
    refine ⟨e, he, ?_, h4⟩
    show e.1 = s.act (p.act l0.base)
    rw [h3, h.base, Pm.act_mul, hb]

/-- The loop begins with the link that has the new bell. -/
theorem Loop.start (l : Lk) (c : List Lk) (p : Pm) : Loop (l.add (p.act l.base) p) c l (l.add (p.act l.base) p) c p 0 :=
  ⟨rfl, rfl, ⟨[], by simp⟩, rfl, rfl, fun _ h => h, fun e he hn => absurd he hn, fun s hs => by simp at hs⟩

theorem Loop.brought {l l' : Lk} {c c' : List Lk} {p : Pm} {i : Nat} (hi : l.gens.length ≤ i) (hw : Prd c' 1) (h : Loop (l.add (p.act l.base) p) c l l' c' p i) : Brought l c l' c' p := by
  obtain ⟨m1, hm1⟩ := h.tab
  have hm : l'.tab = l.tab ++ ((p.act l.base, p) :: m1) := by rw [hm1]; show (l.tab ++ [_]) ++ m1 = _; simp
  refine ⟨h.base, h.gens, ⟨_, hm⟩, h.len, h.bases, h.grow, ⟨(p.act l.base, p), by rw [hm]; simp, rfl, by rw [Pm.inv_mul]; exact hw⟩, ?_⟩
  intro e he hne s hs
  by_cases h1 : e ∈ (l.add (p.act l.base) p).tab
  · rcases List.mem_append.1 h1 with h1 | h1
    · exact absurd h1 hne
    · rw [List.mem_singleton.1 h1]
      exact h.done s (by rw [List.take_of_length_le (by exact hi)]; exact hs)
  · exact h.new e he h1 s hs

/-- 'take': the link with one more generator. -/
def Lk.gen (l : Lk) (p : Pm) : Lk := { l with gens := l.gens ++ [p] }

theorem Whole.gen {F : Nat → Prop} {l : Lk} {c : List Lk} {p : Pm} (h : Whole F (l :: c)) (hf : Fixes F p) : Part F (l.gen p) c := by
  have hw := h
  obtain ⟨h1, h2, h3⟩ := h
  have hm : ∀ x, Gen (fun x => x ∈ l.gens) x → Gen (fun x => x ∈ (l.gen p).gens) x := fun x hx => hx.mono (fun s hs => List.mem_append_left _ hs)
  have hs := prd_sub h2
  refine ⟨⟨h1.nodup, h1.brings, h1.first, h1.fix⟩, h2, fun e he => hm _ ((h3 _).1 ⟨e, he, 1, hs.one, by rw [Pm.mul_one]⟩), fun x hx => hm _ ((h3 _).1 ⟨_, h1.first, x, hx, by rw [Pm.one_mul]⟩), fun s hs => ?_⟩
  rcases List.mem_append.1 hs with hs | hs
  · exact prd_fix hw ((h3 s).2 (Gen.of hs))
  · rw [List.mem_singleton.1 hs]; exact hf

/-- Of a whole chain all is done. -/
theorem Whole.done {F : Nat → Prop} {l : Lk} {c : List Lk} (h : Whole F (l :: c)) {s : Pm} (hs : s ∈ l.gens) {e : Nat × Pm} (he : e ∈ l.tab) : Done l c s e := by
  obtain ⟨h1, h2, h3⟩ := h
  have hsub := prd_sub h2
  have hp : Prd (l :: c) (s * e.2) := (h3 _).2 (Gen.mul hs ((h3 _).1 ⟨e, he, 1, hsub.one, by rw [Pm.mul_one]⟩))
  obtain ⟨e', he', x, hx, hq⟩ := hp
  refine ⟨e', he', ?_, by rw [hq, Pm.inv_mul_cancel]; exact hx⟩
  have h4 := (fixes_plus.1 (prd_fix h2 hx)).2
  have h5 : (s * e.2).act l.base = (e'.2 * x).act l.base := by rw [hq]
  rw [Pm.act_mul, Pm.act_mul, h4, h1.brings e he, h1.brings e' he'] at h5
  exact h5.symm

/-- The loop of 'take' over the bells that were there: after the first i. -/
structure TLoop (F : Nat → Prop) (l : Lk) (c : List Lk) (l' : Lk) (c' : List Lk) (p : Pm) (i : Nat) : Prop where
  part : Part F l' c'
  base : l'.base = l.base
  gens : l'.gens = l.gens ++ [p]
  tab : ∃ more, l'.tab = l.tab ++ more
  len : c'.length = c.length
  bases : c'.map (·.base) = c.map (·.base)
  grow : ∀ h, Prd c h → Prd c' h
  new : ∀ e, e ∈ l'.tab → e ∉ l.tab → ∀ s, s ∈ l'.gens → Done l' c' s e
  done : ∀ e, e ∈ l.tab.take i → Done l' c' p e

theorem TLoop.start {F : Nat → Prop} {l : Lk} {c : List Lk} {p : Pm} (h : Whole F (l :: c)) (hf : Fixes F p) : TLoop F l c (l.gen p) c p 0 :=
  ⟨h.gen hf, rfl, rfl, ⟨[], by simp [Lk.gen]⟩, rfl, rfl, fun _ h => h, fun e he hn => absurd he hn, fun e he => by simp at he⟩

theorem TLoop.step {F : Nat → Prop} {l l' l2 : Lk} {c c' c2 : List Lk} {p : Pm} {e : Nat × Pm} {i : Nat} (h : TLoop F l c l' c' p i) (hi : l.tab.take (i + 1) = l.tab.take i ++ [e]) (he : e.2.act l.base = e.1) (hp : Part F l2 c2) (h2 : Brought l' c' l2 c2 (p * e.2)) : TLoop F l c l2 c2 p (i + 1) := by
  obtain ⟨m1, hm1⟩ := h.tab
  obtain ⟨m2, hm2⟩ := h2.tab
  refine ⟨hp, h2.base.trans h.base, h2.gens.trans h.gens, ⟨m1 ++ m2, by rw [hm2, hm1, List.append_assoc]⟩, h2.len.trans h.len, h2.bases.trans h.bases, fun x hx => h2.grow x (h.grow x hx), ?_, ?_⟩
  · intro x hx hn s hs
    rw [h2.gens] at hs
    by_cases h1 : x ∈ l'.tab
    · exact (h.new x h1 hn s hs).mono h2.tab h2.grow
    · exact h2.new x hx h1 s hs
  · intro x hx
    rw [hi] at hx
    rcases List.mem_append.1 hx with hx | hx
    · exact (h.done x hx).mono h2.tab h2.grow
    · rw [List.mem_singleton.1 hx]
      obtain ⟨e', he', h3, h4⟩ := h2.there
      exact ⟨e', he', by rw [h3, h.base, Pm.act_mul, he], h4⟩

theorem TLoop.finish {F : Nat → Prop} {l l' : Lk} {c c' : List Lk} {p : Pm} {i : Nat} (h : TLoop F l c l' c' p i) (hw : Whole F (l :: c)) (hi : l.tab.length ≤ i) : Whole F (l' :: c') ∧ Took (l :: c) (l' :: c') p := by
  have hwh : Whole F (l' :: c') := by
    refine h.part.closes (fun s hs e he => ?_)
    by_cases h1 : e ∈ l.tab
    · rw [h.gens] at hs
      rcases List.mem_append.1 hs with hs | hs
      · exact (Whole.done hw hs h1).mono h.tab h.grow
      · rw [List.mem_singleton.1 hs]
        exact h.done e (by rw [List.take_of_length_le hi]; exact h1)
    · exact h.new e he h1 s hs
  refine ⟨hwh, ⟨by simp [h.len], by simp [h.base, h.bases], ?_, ?_, ?_⟩⟩
  · intro x hx
    refine (hwh.2.2 x).2 (((hw.2.2 x).1 hx).mono (fun s hs => ?_))
    show s ∈ l'.gens
    rw [h.gens]; exact List.mem_append_left _ hs
  · exact (hwh.2.2 p).2 (Gen.of (by show p ∈ l'.gens; rw [h.gens]; simp))
  · intro H hH hc hp x hx
    refine Gen.least hH (fun s hs => ?_) ((hwh.2.2 x).1 hx)
    have hs : s ∈ l'.gens := hs
    rw [h.gens] at hs
    rcases List.mem_append.1 hs with hs | hs
    · exact hc s ((hw.2.2 s).2 (Gen.of hs))
    · rw [List.mem_singleton.1 hs]; exact hp

end Go.Proofs.Ytimfoggjocajiaa

/- Rows of twelve as arrays; contracts: rounds, pack, times, back, unpack. -/
namespace Go.Proofs.Ytimfoggjocajiaa
open Go.RowKit

/-- Numbers as the cells of an array of int8. -/
def i8s (zs : List Int) : Array Value := (zs.map (Value.int .i8)).toArray

/-- A row as an array's value. -/
def pv (x : Pm) : Value := .agg (i8s x.l)

theorem i8s_size (zs : List Int) : (i8s zs).size = zs.length := by simp [i8s]

theorem i8s_get {zs : List Int} {j : Nat} (h : j < zs.length) : (i8s zs)[j]? = some (.int .i8 (zs.getD j 0)) := by
  simp [i8s, List.getD, h]

theorem i8s_one (zs : List Int) : (i8s zs).all (·.oneCell') = true := by
  rw [Array.all_eq_true_iff_forall_mem]
  intro v hv
  simp [i8s] at hv
  obtain ⟨a, _, rfl⟩ := hv
  rfl

/-- A block that is an array of twelve int8. -/
def Arr (w : World) (b : Nat) (zs : List Int) : Prop := w.heap[b]? = some (.cells (i8s zs) 91) ∧ zs.length = 12

theorem Try.info89 : (Try.prog.info? 89).map (fun i => (i.zero, i.size, i.bytes)) = some (some (.int .i8 0), 1, 1) := by kernel_rfl

theorem Try.size91 : (Try.prog.info? 91).map (·.size) = some 12 := by kernel_rfl

theorem Arr.lt {w : World} {b : Nat} {zs : List Int} (h : Arr w b zs) : b < w.heap.size := (Array.getElem?_eq_some_iff.1 h.1).1

theorem Arr.cell {w : World} {b j : Nat} {zs : List Int} (h : Arr w b zs) (hj : j < 12) : w.cell? ⟨b, j, none⟩ = some (.int .i8 (zs.getD j 0)) ∧ w.frozen? ⟨b, j, none⟩ = false := by
  obtain ⟨h1, h2⟩ := h
  constructor
  · rw [cell_of_row _ _ j _ _ _ h1]; exact i8s_get (by omega)
  · simp [World.frozen?, h1]

theorem Arr.at {w : World} {b j : Nat} {zs : List Int} (h : Arr w b zs) (hj : j < 12) : ∃ y, Hid (zs.getD j 0 = y) ∧ w.cell? ⟨b, j, none⟩ = some (.int .i8 y) ∧ w.frozen? ⟨b, j, none⟩ = false :=
  ⟨_, rfl, (h.cell hj).1, (h.cell hj).2⟩

theorem i8s_set (zs : List Int) (k : Nat) (y : Int) : (i8s zs).setIfInBounds k (.int .i8 y) = i8s (zs.set k y) := by
  apply Array.toList_inj.1
  simp [i8s]

theorem Arr.set {w : World} {b k : Nat} {zs : List Int} (h : Arr w b zs) (y : Int) : Arr (w.setCell ⟨b, k, none⟩ (.int .i8 y)) b (zs.set k y) := by
  refine ⟨?_, by rw [List.length_set]; exact h.2⟩
  rw [← i8s_set]
  simp [World.setCell, Array.getElem?_modify, h.1]

theorem Arr.kept {w w' : World} {b : Nat} {zs : List Int} {row : Option Nat} (h : Arr w b zs) (hg : w.grownBy w' row) (hr : row ≠ some b) : Arr w' b zs :=
  ⟨(hg.block b h.lt (fun e => hr e.symm)).trans h.1, h.2⟩

theorem Arr.alloc {w : World} {b : Nat} {zs : List Int} (h : Arr w b zs) (o : Obj) : Arr (w.alloc o) b zs := ⟨by rw [Below.heap_alloc w o b h.lt]; exact h.1, h.2⟩

theorem Arr.drew {w : World} {b : Nat} {zs : List Int} (h : Arr w b zs) : Arr w.drew b zs := h

theorem Arr.below {w w' : World} {b B : Nat} {zs : List Int} (h : Arr w b zs) (hb : Below B w w') (hB : b < B) : Arr w' b zs := ⟨by rw [hb.block b hB]; exact h.1, h.2⟩

theorem Arr.new (w : World) (zs : List Int) (hl : zs.length = 12) : Arr (w.alloc (.cells (i8s zs) 91)) w.heap.size zs := ⟨heap_alloc_last w _, hl⟩

theorem Arr.range {w : World} {b : Nat} {zs : List Int} (h : Arr w b zs) : w.rangeAt b 0 (zs.map (Value.int .i8)) := by
  intro j v hv
  have hj : j < zs.length := by have := (List.getElem?_eq_some_iff.1 hv).1; simpa using this
  rw [Nat.zero_add, (h.cell (by rw [← h.2]; exact hj)).1]
  rw [← hv]
  simp [List.getD, hj]

def zeros12 : List Int := [0, 0, 0, 0, 0, 0, 0, 0, 0, 0, 0, 0]

theorem zeros_new (w : World) : Arr (w.alloc (.cells #[.int .i8 0, .int .i8 0, .int .i8 0, .int .i8 0, .int .i8 0, .int .i8 0, .int .i8 0, .int .i8 0, .int .i8 0, .int .i8 0, .int .i8 0, .int .i8 0] 91)) w.heap.size zeros12 :=
  Arr.new w zeros12 rfl

/-- The whole array is read. -/
theorem wpList_load_arr {ops : Array Oper} {rest : List Oper} {op : Oper} {a : Act} {w : World} {Q : Exit → Act → World → Prop} (hgd : op.guard = none) (x : Operand) (ho : op.op = .load 91 x)
    (b : Nat) (zs : List Int) (hA : Arr w b zs) (hx : a.eval x = .pointer (some ⟨b, 0, none⟩))
    (h : wpList Try.prog ops Q rest (a.put op.dst (.agg (i8s zs))) w) : wpList Try.prog ops Q (op :: rest) a w :=
  wpList_load_mid hgd _ x ho b 0 hx (zs.map (Value.int .i8)) _ hA.range Try.underlying91 rfl (by rw [Try.size91, List.length_map, hA.2]) h

theorem run_load_arr {w : World} {b : Nat} {zs : List Int} (hA : Arr w b zs) : (Instr.loadAt 91 (.pointer (some ⟨b, 0, none⟩))).run Try.prog w = .ok (.agg (i8s zs)) w :=
  run_loadAt_mid w b 0 _ (zs.map (Value.int .i8)) _ hA.range Try.underlying91 rfl (by rw [Try.size91, List.length_map, hA.2])

/-- .. and written. -/
theorem run_store_arr {w : World} {b : Nat} {zs ys : List Int} (hA : Arr w b zs) (hl : ys.length = 12) : ∃ w', (Instr.storeAt 91 (.pointer (some ⟨b, 0, none⟩)) (.agg (i8s ys))).run Try.prog w = .ok () w' ∧ Arr w' b ys ∧ w.grownBy w' (some b) := by
  refine ⟨w.setRow b (i8s ys), ?_, ⟨?_, hl⟩, ⟨rfl, rfl, rfl, by simp [World.setRow], fun i hi hne => ?_⟩⟩
  · simp only [Instr.storeAt, Instr.sureAddr, Sem.run_bind, Sem.run_pure, Result.andThen]
    exact run_storeVar_row w b _ _ _ _ hA.1 (by rw [Try.size91, i8s_size, hl]) (by rw [i8s_size, i8s_size, hl, hA.2]) (i8s_one ys)
  · simp [World.setRow, Array.getElem?_modify, hA.1]
  · simp only [World.setRow, Array.getElem?_modify]
    rw [if_neg (fun e => hne (by rw [e]))]

theorem wpList_store_arr {ops : Array Oper} {rest : List Oper} {op : Oper} {a : Act} {w : World} {Q : Exit → Act → World → Prop} (hgd : op.guard = none) (x y : Operand) (ho : op.op = .store 91 x y)
    (b : Nat) (zs ys : List Int) (hA : Arr w b zs) (hx : a.eval x = .pointer (some ⟨b, 0, none⟩)) (hy : a.eval y = .agg (i8s ys)) (hl : ys.length = 12)
    (h : ∀ w', Arr w' b ys → w.grownBy w' (some b) → wpList Try.prog ops Q rest (a.put op.dst undef) w') : wpList Try.prog ops Q (op :: rest) a w := by
  refine wpList_plain hgd fun K hK => ?_
  obtain ⟨w', hrun, h1, h2⟩ := run_store_arr (ys := ys) hA hl
  unfold Oper.wp execOp
  simp only [ho, hx, hy, hrun, Sem.run_bind, Sem.run_pure, Result.andThen_ok]
  exact hK _ _ (h w' h1 h2)

theorem run_loadVar_arr {w : World} {b : Nat} {zs : List Int} (hA : Arr w b zs) : (loadVar 91 ⟨b, 0, none⟩).run Try.prog w = .ok (.agg (i8s zs)) w :=
  run_loadVar_mid w b 0 _ (zs.map (Value.int .i8)) _ hA.range Try.underlying91 rfl (by rw [Try.size91, List.length_map, hA.2])

theorem Arr.set_other {w : World} {b b' k : Nat} {zs : List Int} (h : Arr w b zs) (hne : b ≠ b') (u : Value) : Arr (w.setCell ⟨b', k, none⟩ u) b zs :=
  ⟨by rw [Below.heap_setCell _ _ _ _ (by exact hne)]; exact h.1, h.2⟩

theorem eq_one {zs : List Int} (hl : zs.length = 12) (h : ∀ j, j < 12 → zs.getD j 0 = (j : Int)) : zs = (1 : Pm).l := by rw [Pm.one_l]; exact eq_rnd hl h

theorem run_index_arr {ys : List Int} (hl : ys.length = 12) {k : Nat} (hk : k < 12) (w : World) : (Instr.index 91 (.agg (i8s ys)) (.int .i64 (k : Int))).run Try.prog w = .ok (.int .i8 (ys.getD k 0)) w := by
  have h1 : (0 : Int) ≤ (k : Int) ∧ (k : Int) < ((12 : Nat) : Int) := by omega
  have h2 := i8s_get (zs := ys) (j := k) (by omega)
  obtain ⟨i0, hi, hz0, hz1, hz2⟩ := info_parts Try.info89
  have hs : (sizeOf 89).run Try.prog w = .ok 1 w := by simp [sizeOf, typeInfo, hi, hz1]
  have ha : (isAgg 89).run Try.prog w = .ok false w := by
    unfold isAgg
    rw [Sem.run_bind, run_underlying Try.underlying89 w]
    rfl
  simp [Instr.index, run_underlying Try.underlying91, asIntOf, hs, h2, go_sem]
  omega

/-- The result that lies in a cell. -/
theorem ret_arr {fn : Func} {R : Ending → World → Prop} {a : Act} {w : World} {p : Tmp} {b : Nat} {zs : List Int} (h : fn.results = #[.cell p 91]) (hp : a.tmps.getD p undef = .pointer (some ⟨b, 0, none⟩)) (hA : Arr w b zs) (hd : a.defers = []) (hR : R (.returned (.agg (i8s zs))) w) : bodyPost Try.prog fn R .ret a w :=
  bodyPost_ret (results_cell_row h a.tmps w b 91 (i8s zs) (0, 0) _ hp hA.1 Try.underlying91 rfl (by rw [Try.size91, i8s_size, hA.2])) hd hR

theorem Arr.new1 (w : World) (o1 : Obj) {zs : List Int} (hl : zs.length = 12) : Arr ((w.alloc o1).alloc (.cells (i8s zs) 91)) (w.heap.size + 1) zs := by
  have := Arr.new (w.alloc o1) zs hl
  simpa using this
theorem Arr.new2 (w : World) (o1 o2 : Obj) {zs : List Int} (hl : zs.length = 12) : Arr (((w.alloc o1).alloc o2).alloc (.cells (i8s zs) 91)) (w.heap.size + 2) zs := by
  have := Arr.new1 (w.alloc o1) o2 hl
  simpa using this
theorem Arr.new3 (w : World) (o1 o2 o3 : Obj) {zs : List Int} (hl : zs.length = 12) : Arr ((((w.alloc o1).alloc o2).alloc o3).alloc (.cells (i8s zs) 91)) (w.heap.size + 3) zs := by
  have := Arr.new2 (w.alloc o1) o2 o3 hl
  simpa using this

set_option maxRecDepth 20000 in
set_option maxHeartbeats 1000000 in
theorem prounds_ok (w : World) : Calls Try.prog 65 #[] w fun e w' => e = .returned (pv 1) ∧ Below w.heap.size w w' := by
  go_enter Try.func65, Try.ntmps65
  go_wp2
  go_loopw [3] (fun i wr => ∃ (k : Nat) (zs : List Int), k ≤ 12 ∧ i = .int .i64 k ∧ Arr wr (w.heap.size + 1) zs ∧ Arr wr w.heap.size zeros12 ∧ Hid (∀ j, j < k → zs.getD j 0 = (j : Int)) ∧ Below w.heap.size w wr) (fun i _ => 12 - (intOf i).toNat)
  case atStart => exact ⟨0, zeros12, by omega, rfl, by have := zeros_new (w.alloc (.cells (i8s zeros12) 91)); simpa [i8s, zeros12] using this, (zeros_new w).alloc _, fun j hj => by omega, ((Below.refl _ _).alloc (Nat.le_refl _) _).alloc (by simp) _⟩
  case round =>
    obtain ⟨k, zs, hk, rfl, hA, hR, hz, hbw⟩ := hrel
    by_cases hlt : k < 12
    · obtain ⟨y, hy, hcx, hfx⟩ := hA.at hlt
      have HZ : Hid (∀ j, j < k + 1 → (zs.set k (k : Int)).getD j 0 = (j : Int)) := by
        intro j hj
        rw [getD_set (by rw [hA.2]; exact hlt)]
        split
        · omega
        · exact hz.out j (by omega)
      go_wp2
      go_roundw
      case rel => exact ⟨k + 1, _, by omega, by go_num, hA.set _, hR.set_other (by omega) _, HZ, hbw.setCell (by simp) _⟩
      case measure => simp [intOf]; omega
    · have hl := hA.2
      have HE := hide (eq_one hl (fun j hj => hz.out j (by omega)))
      go_wp2_with (first | refine wpList_load_arr rfl _ rfl _ _ hA rfl ?_ | (refine wpList_store_arr rfl _ _ rfl _ _ _ hR rfl rfl hl ?_; intro w1 hR1 hg1))
      go_wp2
      exact ret_arr rfl rfl hR1 rfl ⟨by rw [HE.out]; rfl, hbw.grown hg1 hbw.size (fun k h => by cases h; exact Nat.le_refl _)⟩

set_option maxRecDepth 20000 in
set_option maxHeartbeats 1000000 in
theorem ptimes_ok (x y : Pm) (w : World) : Calls Try.prog 67 #[pv x, pv y] w fun e w' => e = .returned (pv (x * y)) ∧ Below w.heap.size w w' := by
  unfold pv
  have hx := x.len
  have hy := y.len
  have hB : ∀ o1 o2 o3 o4 : Obj, Below w.heap.size w ((((w.alloc o1).alloc o2).alloc o3).alloc o4) := fun o1 o2 o3 o4 => ((((Below.refl _ _).alloc (Nat.le_refl _) o1).alloc (by simp) o2).alloc (by simp; omega) o3).alloc (by simp; omega) o4
  go_enter Try.func67, Try.ntmps67
  go_wp2_with (refine wpList_load_arr rfl _ rfl (w.heap.size + 1) y.l (((Arr.new1 w _ hy).alloc _).alloc _) rfl ?_)
  go_loopw [9] (fun i wr => ∃ (k : Nat) (zs : List Int), k ≤ 12 ∧ i = .int .i64 k ∧ Arr wr w.heap.size x.l ∧ Arr wr (w.heap.size + 2) zeros12 ∧ Arr wr (w.heap.size + 3) zs ∧ Hid (∀ j, j < k → zs.getD j 0 = (x * y).l.getD j 0) ∧ Below w.heap.size w wr) (fun i _ => 12 - (intOf i).toNat)
  case atStart => exact ⟨0, zeros12, by omega, rfl, (((Arr.new w x.l hx).alloc _).alloc _).alloc _, (Arr.new2 w _ _ (zs := zeros12) rfl).alloc _, Arr.new3 w _ _ _ (zs := zeros12) rfl, fun j hj => by omega, hB _ _ _ _⟩
  case round =>
    obtain ⟨k, zs, hk, rfl, hX, hR, hA, hz, hbw⟩ := hrel
    by_cases hlt : k < 12
    · obtain ⟨u, hu, hcx, hfx⟩ := hA.at hlt
      have hq : y.l.getD k 0 = ((y.act k : Nat) : Int) := y.getD_act hlt
      have hm := y.act_lt hlt
      have hidx := fun w => run_index_arr hy hlt w
      rw [hq] at hidx
      obtain ⟨p, hp, hcp, _⟩ := hX.at hm
      have HZ : Hid (∀ j, j < k + 1 → (zs.set k p).getD j 0 = (x * y).l.getD j 0) := by
        intro j hj
        rw [getD_set (by rw [hA.2]; exact hlt)]
        split
        · rename_i e; subst e
          rw [(x * y).getD_act hlt, Pm.act_mul, ← x.getD_act hm, hp.out]
        · exact hz.out j (by omega)
      clear hp hq hu
      generalize y.act k = m at *
      go_wp2
      go_roundw
      case rel => exact ⟨k + 1, _, by omega, by go_num, hX.set_other (by omega) _, hR.set_other (by omega) _, hA.set _, HZ, hbw.setCell (by simp; omega) _⟩
      case measure => simp [intOf]; omega
    · have hl := hA.2
      have HE : Hid (zs = (x * y).l) := ext_getD (by rw [hl, (x * y).len]) (fun j hj => hz.out j (by omega))
      go_wp2_with (first | refine wpList_load_arr rfl _ rfl _ _ hA rfl ?_ | (refine wpList_store_arr rfl _ _ rfl _ _ _ hR rfl rfl hl ?_; intro w1 hR1 hg1))
      go_wp2
      exact ret_arr rfl rfl hR1 rfl ⟨by rw [HE.out], hbw.grown hg1 hbw.size (fun k h => by cases h; omega)⟩

set_option maxRecDepth 20000 in
set_option maxHeartbeats 1000000 in
theorem pback_ok (x : Pm) (w : World) : Calls Try.prog 111 #[pv x] w fun e w' => e = .returned (pv x⁻¹) ∧ Below w.heap.size w w' := by
  unfold pv
  have hx := x.len
  have hB : ∀ o1 o2 o3 : Obj, Below w.heap.size w (((w.alloc o1).alloc o2).alloc o3) := fun o1 o2 o3 => (((Below.refl _ _).alloc (Nat.le_refl _) o1).alloc (by simp) o2).alloc (by simp; omega) o3
  go_enter Try.func111, Try.ntmps111
  go_wp2_with (refine wpList_load_arr rfl _ rfl w.heap.size x.l (((Arr.new w x.l hx).alloc _).alloc _) rfl ?_)
  go_loopw [7] (fun i wr => ∃ (k : Nat) (zs : List Int), k ≤ 12 ∧ i = .int .i64 k ∧ Arr wr (w.heap.size + 1) zeros12 ∧ Arr wr (w.heap.size + 2) zs ∧ Hid (∀ j, j < k → zs.getD (x.act j) 0 = (j : Int)) ∧ Below w.heap.size w wr) (fun i _ => 12 - (intOf i).toNat)
  case atStart => exact ⟨0, zeros12, by omega, rfl, (Arr.new1 w _ (zs := zeros12) rfl).alloc _, Arr.new2 w _ _ (zs := zeros12) rfl, fun j hj => by omega, hB _ _ _⟩
  case round =>
    obtain ⟨k, zs, hk, rfl, hR, hA, hz, hbw⟩ := hrel
    by_cases hlt : k < 12
    · have hq : x.l.getD k 0 = ((x.act k : Nat) : Int) := x.getD_act hlt
      have hm := x.act_lt hlt
      have hidx := fun w => run_index_arr hx hlt w
      rw [hq] at hidx
      obtain ⟨u, hu, hcx, hfx⟩ := hA.at hm
      have HZ : Hid (∀ j, j < k + 1 → (zs.set (x.act k) (k : Int)).getD (x.act j) 0 = (j : Int)) := by
        intro j hj
        rw [getD_set (by rw [hA.2]; exact hm)]
        split
        · rename_i e; have := x.act_inj e; omega
        · rename_i e
          refine hz.out j ?_
          rcases Nat.lt_or_ge j k with h | h
          · exact h
          · exact absurd (by rw [show j = k from by omega]) e
      clear hq hu
      generalize x.act k = m at *
      go_wp2
      go_roundw
      case rel => exact ⟨k + 1, _, by omega, by go_num, hR.set_other (by omega) _, hA.set _, HZ, hbw.setCell (by simp; omega) _⟩
      case measure => simp [intOf]; omega
    · have hl := hA.2
      have HE : Hid (zs = (x⁻¹).l) := Pm.undoes_eq ⟨by rw [hl, hx], fun j hj => by
        rw [hx] at hj
        rw [x.getD_act hj, Int.toNat_natCast]
        exact hz.out j (by omega)⟩
      go_wp2_with (first | refine wpList_load_arr rfl _ rfl _ _ hA rfl ?_ | (refine wpList_store_arr rfl _ _ rfl _ _ _ hR rfl rfl hl ?_; intro w1 hR1 hg1))
      go_wp2
      exact ret_arr rfl rfl hR1 rfl ⟨by rw [HE.out], hbw.grown hg1 hbw.size (fun k h => by cases h; omega)⟩

end Go.Proofs.Ytimfoggjocajiaa

/- Contracts: pack, unpack. -/
namespace Go.Proofs.Ytimfoggjocajiaa
open Go.RowKit

theorem pack_step {xs : List Int} {k : Nat} (h1 : xs.length ≤ 12) (hk : k < xs.length) : (xs.take k ++ (rnd 12).drop k).set k (xs.getD k 0) = xs.take (k + 1) ++ (rnd 12).drop (k + 1) := by
  apply List.ext_getElem?
  intro i
  rw [List.getElem?_set, List.length_append, List.length_take, List.length_drop, rnd_length]
  by_cases e : k = i
  · subst e
    rw [if_pos rfl, if_pos (by omega), List.getElem?_append_left (by rw [List.length_take]; omega), List.getElem?_take]
    simp [List.getD, List.getElem?_eq_getElem hk]
  · rw [if_neg e]
    by_cases hi : i < k
    · rw [List.getElem?_append_left (by rw [List.length_take]; omega), List.getElem?_append_left (by rw [List.length_take]; omega), List.getElem?_take, List.getElem?_take, if_pos hi, if_pos (by omega)]
    · rw [List.getElem?_append_right (by rw [List.length_take]; omega), List.getElem?_append_right (by rw [List.length_take]; omega), List.getElem?_drop, List.getElem?_drop, List.length_take, List.length_take]
      congr 1
      omega

theorem below_alloc {w w1 : World} {o : Obj} (h : Below (w.alloc o).heap.size (w.alloc o) w1) : Below (w.heap.size + 1) (w.alloc o) w1 := by
  have e : (w.alloc o).heap.size = w.heap.size + 1 := by simp
  rwa [e] at h

set_option maxRecDepth 20000 in
set_option maxHeartbeats 1000000 in
theorem pack_ok (v : Value) (xs : List Int) (w : World) (hI : Ints w v xs) (hr : isRow xs) (h1 : 1 ≤ xs.length) (h12 : xs.length ≤ 12) : Calls Try.prog 60 #[v] w fun e w' => e = .returned (pv (pad xs)) ∧ Below w.heap.size w w' := by
  unfold pv
  have HP := hide (pad_l h12 hr)
  have HR := hide hr
  have hl1 := (1 : Pm).len
  have HL1 : Hid ((1 : Pm).l = rnd 12) := Pm.one_l
  clear hr
  rcases hI with ⟨rfl, p, c, rfl⟩ | ⟨b1, o1, cap1, rfl, h01, hcp1, hm1, hb1, hcell1⟩
  · simp at h1
  · have HC := hide hcell1
    clear hcell1
    go_enter Try.func60, Try.ntmps60
    go_wp2_with fail
    refine (prounds_ok _).mono ?_
    unfold pv
    rintro e w1 ⟨rfl, hb⟩
    replace hb := below_alloc hb
    have hR := (zeros_new w).below hb (by omega)
    have hB : Below w.heap.size w w1 := ((Below.refl _ _).alloc (Nat.le_refl _) _).trans (hb.mono (by omega))
    have hS : w.heap.size < w1.heap.size := by have := hb.size; simp at this; omega
    clear hb
    go_wp2_with (refine wpList_store_arr rfl _ _ rfl w1.heap.size zeros12 _ (zeros_new w1) rfl rfl hl1 ?_; intro w2 hA2 hg2)
    have hR2 := (hR.alloc _).kept hg2 (by intro e; injection e with e; omega)
    have hB2 := (hB.alloc (by omega) _).grown hg2 (by simp; omega) (fun k h => by cases h; omega)
    rw [HL1.out] at hA2
    generalize w1.heap.size = D at *
    clear hR hB hg2
    go_wp2
    go_loopw [9] (fun i wr => ∃ k : Nat, k ≤ xs.length ∧ i = .int .i64 k ∧ Arr wr w.heap.size zeros12 ∧ Arr wr D (xs.take k ++ (rnd 12).drop k) ∧ Below w.heap.size w wr) (fun i _ => 12 - (intOf i).toNat)
    case atStart => exact ⟨0, by omega, rfl, hR2, hA2, hB2⟩
    case round =>
      clear hR2 hA2 hB2
      obtain ⟨k, hk, rfl, hR, hA, hbw⟩ := hrel
      by_cases hlt : k < xs.length
      · obtain ⟨y, hy, hcx⟩ := cellAt HC.out hlt
        have hpr := HR.out.at hlt
        rw [show xs.getD k 0 = y from hy.out] at hpr
        obtain ⟨m, rfl⟩ := Int.eq_ofNat_of_zero_le hpr.1
        have hm12 : m < 12 := by omega
        have gp : wr.cell? ⟨b1, o1 + k, none⟩ = some (.int .i64 (m : Int)) := (hbw.cell (by exact hb1)).trans hcx
        obtain ⟨u, hu, hcu, hfu⟩ := hA.at (show k < 12 by omega)
        have HS := hide (pack_step h12 hlt)
        rw [show xs.getD k 0 = (m : Int) from hy.out] at HS
        clear hpr hcx hu
        go_wp2
        go_roundw
        case rel => exact ⟨k + 1, by omega, by go_num, hR.set_other (by omega) _, by rw [← HS.out]; exact hA.set _, hbw.setCell (by simp; omega) _⟩
        case measure => simp [intOf]; omega
      · obtain rfl : k = xs.length := by omega
        have hl := hA.2
        have HE : Hid (xs.take xs.length ++ (rnd 12).drop xs.length = (pad xs).l) := by show _ = _; rw [HP.out, List.take_length]
        rw [HE.out] at hA hl
        go_wp2_with (first | refine wpList_load_arr rfl _ rfl _ _ hA rfl ?_ | (refine wpList_store_arr rfl _ _ rfl _ _ _ hR rfl rfl hl ?_; intro w1 hR1 hg1))
        go_wp2
        exact ret_arr rfl rfl hR1 rfl ⟨rfl, hbw.grown hg1 hbw.size (fun k h => by cases h; omega)⟩

set_option maxRecDepth 20000 in
set_option maxHeartbeats 1000000 in
theorem unpack_ok (x : Pm) (n : Nat) (w : World) (hn : n ≤ 12) : Calls Try.prog 68 #[pv x, .int .i64 n] w fun e w' => ∃ v, e = .returned v ∧ w'.ownsRow w.heap.size 3 1 v n ((cut n x).map (Value.int .i64)) ∧ Below w.heap.size w w' := by
  obtain ⟨i0, hi, hz0, hz1, hz2⟩ := info_parts Try.info3
  unfold pv
  have hx := x.len
  have HA := hide (Arr.new w x.l hx)
  go_enter Try.func68, Try.ntmps68
  go_wp2_with (at_make; refine wpList_make_full _ rfl _ _ 23 rfl w.heap.size 3 i0 (.int .i64 0) 1 Try.underlying23 hi hz0 hz1 _ _ _ _ n rfl rfl (by omega) (by omega) ?b2 ?b3 ?b4 ?_)
  case b2 => rw [hz2]; omega
  case b3 => unfold maxLen; omega
  case b4 => simp
  intro w0 hown0 hgrow0
  rw [made_ints] at hown0
  have hA0 := HA.out.kept hgrow0 (by simp)
  have hB0 := ((Below.refl w.heap.size w).alloc (Nat.le_refl _) (.cells (i8s x.l) 91)).grown hgrow0 (by simp) (fun k h => by cases h)
  clear HA hgrow0
  go_wp2
  go_loopw [11] (fun i wr => ∃ (k : Nat) (zs : List Int), k ≤ n ∧ i = .int .i64 k ∧ Arr wr w.heap.size x.l ∧ wr.ownsRow w.heap.size 3 1 (.slice (some ⟨w.heap.size + 1, 0, none⟩) n n) n (zs.map (Value.int .i64)) ∧ Hid (zs.length = n ∧ ∀ j, j < k → zs.getD j 0 = (cut n x).getD j 0) ∧ Below w.heap.size w wr) (fun i _ => n - (intOf i).toNat)
  case atStart => exact ⟨0, _, by omega, rfl, hA0, hown0, ⟨by simp, fun j hj => by omega⟩, hB0⟩
  case round =>
    clear hA0 hown0 hB0
    obtain ⟨k, zs, hk, rfl, hA, hown, hz, hbw⟩ := hrel
    by_cases hlt : k < n
    · obtain ⟨y, hy, hcx, hfx⟩ := owns_cellAt hown hlt
      have hq : x.l.getD k 0 = ((x.act k : Nat) : Int) := x.getD_act (by omega)
      have hm := x.act_lt (show k < 12 by omega)
      have hcp := (hA.cell (show k < 12 by omega)).1
      rw [hq] at hcp
      have HZ : Hid ((zs.set k ((x.act k : Nat) : Int)).length = n ∧ ∀ j, j < k + 1 → (zs.set k ((x.act k : Nat) : Int)).getD j 0 = (cut n x).getD j 0) := by
        refine ⟨by rw [List.length_set]; exact hz.out.1, fun j hj => ?_⟩
        rw [getD_set (by have := hz.out.1; omega)]
        split
        · rename_i e; subst e; rw [cut_get x hn hlt]
        · exact hz.out.2 j (by omega)
      clear hq hy
      generalize x.act k = m at *
      go_wp2
      go_roundw
      case rel => exact ⟨k + 1, _, by omega, by go_num, hA.set_other (by omega) _, owns_set_int hown _, HZ, hbw.setCell (by simp) _⟩
      case measure => simp [intOf]; omega
    · obtain rfl : k = n := by omega
      have HE : Hid (zs = cut k x) := ext_getD (by rw [hz.out.1, cut_length hn]) (fun j hj => hz.out.2 j (by have := hz.out.1; omega))
      go_wp2
      go_ret
      rw [← HE.out]
      exact ⟨_, rfl, hown, hbw⟩
end Go.Proofs.Ytimfoggjocajiaa

/- Maps keyed by int, whatever their elements: what they hold, as a function. -/
namespace Go.Proofs.Ytimfoggjocajiaa
open Go.RowKit Go.Maps

/-- An element, held as it is. -/
def heldElem (v : Value) : Option (DataW Value × List MemPlace) := some (.held v, [])

theorem Try.zero3 (w : World) : (zeroValue 3).run Try.prog w = .ok (.int .i64 0) w := by kernel_rfl

theorem Try.zero4 (w : World) : (zeroValue 4).run Try.prog w = .ok (.bool false) w := by kernel_rfl

theorem keyedI : Keyed Try.prog 3 := int_keyed Try.underlying3

/-- Block b is a map of at most n entries, which holds what f says. -/
def IMap (w : World) (b n : Nat) (f : Int → Option Value) : Prop :=
  ∃ D : DataW Value, w.ownsMap Try.prog 3 heldElem b n D ∧ ∀ a : Int, Maps.has D (.int .i64 a) = (f a).isSome ∧ ∀ v, f a = some v → ∀ z, D.atKey (.int .i64 a) z = .held v

theorem IMap.lt {w : World} {b n : Nat} {f : Int → Option Value} (h : IMap w b n f) : b < w.heap.size := by
  obtain ⟨D, h1, _⟩ := h; exact h1.lt

theorem IMap.obj {w : World} {b n : Nat} {f : Int → Option Value} (h : IMap w b n f) : ∃ es clock, w.heap[b]? = some (.map es clock) := by
  obtain ⟨D, ⟨es, c, h1, _⟩, _⟩ := h; exact ⟨es, c, h1⟩

theorem IMap.of_block {w w' : World} {b n : Nat} {f : Int → Option Value} (h : IMap w b n f) (hb : w'.heap[b]? = w.heap[b]?) : IMap w' b n f := by
  obtain ⟨D, ⟨es, c, h1, h2⟩, h3⟩ := h; exact ⟨D, ⟨es, c, hb.trans h1, h2⟩, h3⟩

theorem IMap.alloc {w : World} {b n : Nat} {f : Int → Option Value} (h : IMap w b n f) (o : Obj) : IMap (w.alloc o) b n f := h.of_block (Below.heap_alloc w o b h.lt)

theorem IMap.below {w w' : World} {b n B : Nat} {f : Int → Option Value} (h : IMap w b n f) (hb : Below B w w') (hB : b < B) : IMap w' b n f := h.of_block (hb.block b hB)

theorem IMap.mono {w : World} {b n m : Nat} {f : Int → Option Value} (h : IMap w b n f) (hn : n ≤ m) : IMap w b m f := by
  obtain ⟨D, h1, h2⟩ := h; exact ⟨D, h1.mono hn, h2⟩

theorem IMap.made (w : World) : IMap (w.alloc (.map #[] 0)) w.heap.size 0 (fun _ => none) :=
  ⟨.map [], World.ownsMap_made _ _ _ _, fun a => ⟨rfl, fun v h => by cases h⟩⟩

theorem IMap.congr {w : World} {b n : Nat} {f f' : Int → Option Value} (h : IMap w b n f) (e : ∀ a, f a = f' a) : IMap w b n f' := by
  rw [show f' = f from funext (fun a => (e a).symm)]; exact h

theorem wfI {a : Int} (h1 : -9223372036854775808 ≤ a) (h2 : a ≤ 9223372036854775807) : keyOf Try.prog 3 (.int .i64 a) = some (.int .i64 a) :=
  keyOf_int_mk Try.underlying3 (WalkArith.wf_i64 ⟨h1, h2⟩)

/-- 'v, ok := m[a]'. -/
theorem IMap.look_ok {w : World} {b n : Nat} {f : Int → Option Value} (h : IMap w b n f) {t e : TypeId} (ht : Try.prog.underlying t = some (.map 3 e)) {z : Value} (hz : (zeroValue e).run Try.prog w = .ok z w) {a : Int} (h1 : -9223372036854775808 ≤ a) (h2 : a ≤ 9223372036854775807) :
    (Instr.lookup t (.map (some b)) (.int .i64 a) true).run Try.prog w = .ok (.tuple #[(f a).getD z, .bool (f a).isSome]) w := by
  obtain ⟨D, hD, hf⟩ := h
  obtain ⟨v, ps, hrun, hv⟩ := hD.look_ok keyedI ht hz (zd := .held z) (zp := []) rfl (wfI h1 h2)
  have hv' : DataW.held v = D.atKey (.int .i64 a) (.held z) := (Prod.mk.inj (Option.some.inj hv)).1
  rw [hrun, (hf a).1]
  cases hfa : f a with
  | none =>
    have hh := (hf a).1
    rw [hfa] at hh
    rw [atKey_of_not_has hh] at hv'
    rw [DataW.held.inj hv']; rfl
  | some u =>
    rw [(hf a).2 u hfa] at hv'
    rw [DataW.held.inj hv']; rfl

/-- 'm[a]'. -/
theorem IMap.look {w : World} {b n : Nat} {f : Int → Option Value} (h : IMap w b n f) {t e : TypeId} (ht : Try.prog.underlying t = some (.map 3 e)) {z : Value} (hz : (zeroValue e).run Try.prog w = .ok z w) {a : Int} (h1 : -9223372036854775808 ≤ a) (h2 : a ≤ 9223372036854775807) :
    (Instr.lookup t (.map (some b)) (.int .i64 a) false).run Try.prog w = .ok ((f a).getD z) w := by
  obtain ⟨D, hD, hf⟩ := h
  obtain ⟨v, ps, hrun, hv⟩ := hD.lookup keyedI ht hz (zd := .held z) (zp := []) rfl (wfI h1 h2)
  have hv' : DataW.held v = D.atKey (.int .i64 a) (.held z) := (Prod.mk.inj (Option.some.inj hv)).1
  rw [hrun]
  cases hfa : f a with
  | none =>
    have hh := (hf a).1
    rw [hfa] at hh
    rw [atKey_of_not_has hh] at hv'
    rw [DataW.held.inj hv']; rfl
  | some u =>
    rw [(hf a).2 u hfa] at hv'
    rw [DataW.held.inj hv']; rfl

def upd (f : Int → Option Value) (a : Int) (v : Value) : Int → Option Value := fun x => if x = a then some v else f x

/-- 'm[a] = v'. -/
theorem IMap.put {w : World} {b n : Nat} {f : Int → Option Value} (h : IMap w b n f) {t e : TypeId} (ht : Try.prog.underlying t = some (.map 3 e)) (hn : n < maxLen) {a : Int} (h1 : -9223372036854775808 ≤ a) (h2 : a ≤ 9223372036854775807) (v : Value) :
    ∃ w', (Instr.mapUpdate t (.map (some b)) (.int .i64 a) v).run Try.prog w = .ok () w' ∧ IMap w' b (n + 1) (upd f a v) ∧ w.grownBy w' (some b) := by
  obtain ⟨D, hD, hf⟩ := h
  obtain ⟨w', hrun, hD', hg⟩ := hD.update (val := v) (d := .held v) (ps := []) keyedI ht hn (wfI h1 h2) rfl
  have hkey : WideAt.IsKeyLit (.int .i64 a) := keyedI.key (wfI h1 h2)
  refine ⟨w', hrun, ⟨_, hD', fun x => ?_⟩, hg⟩
  unfold upd
  by_cases e : x = a
  · subst e
    rw [if_pos rfl]
    exact ⟨has_put_same hD.isMap hkey _, fun u hu z => by rw [← Option.some.inj hu]; exact atKey_put_same hD.isMap hkey _ _⟩
  · have hne : (Lit.int .i64 x) ≠ Lit.int .i64 a := fun h => e (Lit.int.inj h).2
    rw [if_neg e]
    exact ⟨by rw [has_put_other hne]; exact (hf x).1, fun u hu z => by rw [atKey_put_other hne]; exact (hf x).2 u hu z⟩

/-! at the operation -/
section
variable {ops : Array Oper} {rest : List Oper} {o : Oper} {a : Act} {w : World} {Q : Exit → Act → World → Prop}

theorem wpList_look_ok (hg : o.guard = none) (m x : Operand) (t : TypeId) (hop : o.op = Op.lookup t m x true) (e : TypeId) (ht : Try.prog.underlying t = some (.map 3 e)) {z : Value} (hz : (zeroValue e).run Try.prog w = .ok z w)
    {b n : Nat} {f : Int → Option Value} (h : IMap w b n f) (k : Int) (hm : a.eval m = .map (some b)) (hx : a.eval x = .int .i64 k) (h1 : -9223372036854775808 ≤ k) (h2 : k ≤ 9223372036854775807)
    (hK : wpList Try.prog ops Q rest (a.put o.dst (.tuple #[(f k).getD z, .bool (f k).isSome])) w) : wpList Try.prog ops Q (o :: rest) a w := by
  refine wpList_plain hg fun K' hK' => ?_
  have hrun := h.look_ok ht hz h1 h2
  unfold Oper.wp
  simp [execOp, hop, hm, hx, hrun, Result.andThen]
  exact hK' _ _ hK

theorem wpList_look (hg : o.guard = none) (m x : Operand) (t : TypeId) (hop : o.op = Op.lookup t m x false) (e : TypeId) (ht : Try.prog.underlying t = some (.map 3 e)) {z : Value} (hz : (zeroValue e).run Try.prog w = .ok z w)
    {b n : Nat} {f : Int → Option Value} (h : IMap w b n f) (k : Int) (hm : a.eval m = .map (some b)) (hx : a.eval x = .int .i64 k) (h1 : -9223372036854775808 ≤ k) (h2 : k ≤ 9223372036854775807)
    (hK : wpList Try.prog ops Q rest (a.put o.dst ((f k).getD z)) w) : wpList Try.prog ops Q (o :: rest) a w := by
  refine wpList_plain hg fun K' hK' => ?_
  have hrun := h.look ht hz h1 h2
  unfold Oper.wp
  simp [execOp, hop, hm, hx, hrun, Result.andThen]
  exact hK' _ _ hK

theorem wpList_put (hg : o.guard = none) (m x v : Operand) (t : TypeId) (hop : o.op = Op.mapUpdate t m x v) (e : TypeId) (ht : Try.prog.underlying t = some (.map 3 e))
    {b n : Nat} {f : Int → Option Value} (h : IMap w b n f) (hn : n < maxLen) (k : Int) (val : Value) (hm : a.eval m = .map (some b)) (hx : a.eval x = .int .i64 k) (hv : a.eval v = val) (h1 : -9223372036854775808 ≤ k) (h2 : k ≤ 9223372036854775807)
    (hK : ∀ w', IMap w' b (n + 1) (upd f k val) → w.grownBy w' (some b) → wpList Try.prog ops Q rest (a.put o.dst undef) w') : wpList Try.prog ops Q (o :: rest) a w := by
  refine wpList_plain hg fun K' hK' => ?_
  obtain ⟨w', hrun, r1, r2⟩ := h.put ht hn h1 h2 val
  unfold Oper.wp
  simp [execOp, hop, hm, hx, hv, hrun, Result.andThen]
  exact hK' _ _ (hK w' r1 r2)
end

end Go.Proofs.Ytimfoggjocajiaa

/- Maps keyed by arrays of twelve integers, whatever their elements: what they hold, as a function of the list. -/
namespace Go.Proofs.Ytimfoggjocajiaa
open Go.RowKit Go.Maps

/-- An array of integers, as a value. -/
def kv (q : IntKind) (zs : List Int) : Value := .agg (zs.map (Value.int q)).toArray

theorem mapM_some {α β : Type} (f : α → Option β) : ∀ l : List α, (∀ x, x ∈ l → ∃ y, f x = some y) → ∃ ys, l.mapM f = some ys
  | [], _ => ⟨[], rfl⟩
  | x :: l, h => by
    obtain ⟨y, hy⟩ := h x (by simp)
    obtain ⟨ys, hys⟩ := mapM_some f l (fun z hz => h z (by simp [hz]))
    exact ⟨y :: ys, by rw [List.mapM_cons, hy, hys]; rfl⟩

theorem pos_succ (n : Nat) (h : 0 < n) : ∃ d, n = d + 1 := ⟨n - 1, by omega⟩

/-- What a type of arrays of twelve integers must be. -/
structure KeyT (K E : TypeId) (q : IntKind) : Prop where
  arr : Try.prog.underlying K = some (.array 12 E)
  int : Try.prog.underlying E = some (.int q)
  cK : Try.prog.cellsOf K = 12
  cE : Try.prog.cellsOf E = 1
  ok : Try.prog.keyType K = true
  low : K < Try.prog.types.size
  keyed : Keyed Try.prog K

def OkK (q : IntKind) (zs : List Int) : Prop := zs.length = 12 ∧ ∀ z, z ∈ zs → (Lit.int q z).wf = true

theorem KeyT.mk' {K E : TypeId} {q : IntKind} (h : KeyT K E q) {zs : List Int} (hz : OkK q zs) : ∃ l, keyOf Try.prog K (kv q zs) = some l := by
  obtain ⟨hl, hw⟩ := hz
  unfold keyOf
  rw [h.arr]
  simp only
  have hf : (kv q zs).formed Try.prog K = true := by
    unfold kv Value.formed
    rw [h.arr]
    simp [h.cK, hl]
  rw [h.ok, hf]
  simp only [Bool.and_self, if_true]
  have hkl : ∃ ls, Try.prog.keyLits (Try.prog.types.size + 1) K (kv q zs).cells.toList = some ls := by
    have hcs : (kv q zs).cells.toList = zs.map (Value.int q) := by simp [kv, Value.cells]
    rw [hcs]
    unfold Program.keyLits
    rw [h.arr]
    simp only
    rw [if_pos (by simp [h.cK, hl])]
    obtain ⟨ys, hys⟩ := mapM_some (fun i => Try.prog.keyLits Try.prog.types.size E (((zs.map (Value.int q)).drop (i * Try.prog.cellsOf E)).take (Try.prog.cellsOf E))) (List.range 12) (fun i hi => by
      have hi' : i < zs.length := by rw [hl]; simpa using hi
      refine ⟨[.int q zs[i]], ?_⟩
      rw [h.cE, Nat.mul_one]
      have e : ((zs.map (Value.int q)).drop i).take 1 = [.int q zs[i]] := by
        rw [List.drop_eq_getElem_cons (by simpa using hi')]
        simp
      rw [e]
      obtain ⟨d, hd⟩ : ∃ d, Try.prog.types.size = d + 1 := pos_succ _ (Nat.lt_of_le_of_lt (Nat.zero_le _) h.low)
      rw [hd]
      unfold Program.keyLits
      rw [h.int]
      simp [hw zs[i] (List.getElem_mem hi')])
    exact ⟨ys.flatten, by rw [hys]; rfl⟩
  obtain ⟨ls, hls⟩ := hkl
  exact ⟨_, by rw [hls]; rfl⟩

theorem kv_inj {q : IntKind} {xs ys : List Int} (h : kv q xs = kv q ys) : xs = ys := by
  unfold kv at h
  have h1 : (xs.map (Value.int q)).toArray = (ys.map (Value.int q)).toArray := by injection h
  have h2 : xs.map (Value.int q) = ys.map (Value.int q) := by simpa using congrArg Array.toList h1
  exact (List.map_inj_right (fun a b e => by injection e)).1 h2

/-- Block b is a map of at most n entries, which holds what f says. -/
def KMap (K : TypeId) (q : IntKind) (w : World) (b n : Nat) (f : List Int → Option Value) : Prop :=
  ∃ D : DataW Value, w.ownsMap Try.prog K heldElem b n D ∧ ∀ zs, OkK q zs → ∀ l, keyOf Try.prog K (kv q zs) = some l → Maps.has D l = (f zs).isSome ∧ ∀ v, f zs = some v → ∀ z, D.atKey l z = .held v

section
variable {K E : TypeId} {q : IntKind} {w w' : World} {b n : Nat} {f : List Int → Option Value}

theorem KMap.lt (h : KMap K q w b n f) : b < w.heap.size := by obtain ⟨D, h1, _⟩ := h; exact h1.lt

theorem KMap.of_block (h : KMap K q w b n f) (hb : w'.heap[b]? = w.heap[b]?) : KMap K q w' b n f := by
  obtain ⟨D, ⟨es, c, h1, h2⟩, h3⟩ := h; exact ⟨D, ⟨es, c, hb.trans h1, h2⟩, h3⟩

theorem KMap.alloc (h : KMap K q w b n f) (o : Obj) : KMap K q (w.alloc o) b n f := h.of_block (Below.heap_alloc w o b h.lt)

theorem KMap.below {B : Nat} (h : KMap K q w b n f) (hb : Below B w w') (hB : b < B) : KMap K q w' b n f := h.of_block (hb.block b hB)

theorem KMap.made (K : TypeId) (q : IntKind) (w : World) : KMap K q (w.alloc (.map #[] 0)) w.heap.size 0 (fun _ => none) :=
  ⟨.map [], World.ownsMap_made _ _ _ _, fun zs _ l _ => ⟨rfl, fun v h => by cases h⟩⟩

/-- 'v, ok := m[a]'. -/
theorem KMap.look_ok (hK : KeyT K E q) (h : KMap K q w b n f) {t e : TypeId} (ht : Try.prog.underlying t = some (.map K e)) {z : Value} (hz : (zeroValue e).run Try.prog w = .ok z w) {zs : List Int} (hzs : OkK q zs) :
    (Instr.lookup t (.map (some b)) (kv q zs) true).run Try.prog w = .ok (.tuple #[(f zs).getD z, .bool (f zs).isSome]) w := by
  obtain ⟨D, hD, hf⟩ := h
  obtain ⟨l, hl⟩ := hK.mk' hzs
  obtain ⟨v, ps, hrun, hv⟩ := hD.look_ok hK.keyed ht hz (zd := .held z) (zp := []) rfl hl
  have hv' : DataW.held v = D.atKey l (.held z) := (Prod.mk.inj (Option.some.inj hv)).1
  have hfz := hf zs hzs l hl
  rw [hrun, hfz.1]
  cases hfa : f zs with
  | none =>
    have hh := hfz.1
    rw [hfa] at hh
    rw [atKey_of_not_has hh] at hv'
    rw [DataW.held.inj hv']; rfl
  | some u =>
    rw [hfz.2 u hfa] at hv'
    rw [DataW.held.inj hv']; rfl

def kupd (f : List Int → Option Value) (a : List Int) (v : Value) : List Int → Option Value := fun x => if x = a then some v else f x

/-- 'm[a] = v'. -/
theorem KMap.put (hK : KeyT K E q) (h : KMap K q w b n f) {t e : TypeId} (ht : Try.prog.underlying t = some (.map K e)) (hn : n < maxLen) {a : List Int} (ha : OkK q a) (v : Value) :
    ∃ w', (Instr.mapUpdate t (.map (some b)) (kv q a) v).run Try.prog w = .ok () w' ∧ KMap K q w' b (n + 1) (kupd f a v) ∧ w.grownBy w' (some b) := by
  obtain ⟨D, hD, hf⟩ := h
  obtain ⟨la, hla⟩ := hK.mk' ha
  obtain ⟨w', hrun, hD', hg⟩ := hD.update (val := v) (d := .held v) (ps := []) hK.keyed ht hn hla rfl
  have hkey : WideAt.IsKeyLit la := hK.keyed.key hla
  refine ⟨w', hrun, ⟨_, hD', fun x hx l hl => ?_⟩, hg⟩
  unfold kupd
  by_cases e : x = a
  · subst e
    rw [if_pos rfl]
    have : l = la := by rw [hl] at hla; exact Option.some.inj hla
    subst this
    exact ⟨has_put_same hD.isMap hkey _, fun u hu z => by rw [← Option.some.inj hu]; exact atKey_put_same hD.isMap hkey _ _⟩
  · have hne : l ≠ la := fun h => e (kv_inj (hK.keyed.inj hl (by rw [h]; exact hla)))
    rw [if_neg e]
    exact ⟨by rw [has_put_other hne]; exact (hf x hx l hl).1, fun u hu z => by rw [atKey_put_other hne]; exact (hf x hx l hl).2 u hu z⟩
end

end Go.Proofs.Ytimfoggjocajiaa

/- Maps keyed by arrays: steps (out of TrC, SaB, SaF). -/
namespace Go.Proofs.Ytimfoggjocajiaa
open Go.RowKit Go.Maps

section
variable {ops : Array Oper} {rest : List Oper} {o : Oper} {a : Act} {w : World} {Q : Exit → Act → World → Prop} {K E : TypeId} {q : IntKind} {b n : Nat} {f : List Int → Option Value}

theorem wpList_klook (hg : o.guard = none) (m x : Operand) (t : TypeId) (hop : o.op = Op.lookup t m x true) (e : TypeId) (ht : Try.prog.underlying t = some (.map K e)) {z : Value} (hz : (zeroValue e).run Try.prog w = .ok z w)
    (hK : KeyT K E q) (h : KMap K q w b n f) (zs : List Int) (hzs : OkK q zs) (hm : a.eval m = .map (some b)) (hx : a.eval x = kv q zs)
    (hC : wpList Try.prog ops Q rest (a.put o.dst (.tuple #[(f zs).getD z, .bool (f zs).isSome])) w) : wpList Try.prog ops Q (o :: rest) a w := by
  refine wpList_plain hg fun K' hK' => ?_
  have hrun := h.look_ok hK ht hz hzs
  unfold Oper.wp
  simp [execOp, hop, hm, hx, hrun, Result.andThen]
  exact hK' _ _ hC

theorem wpList_kput (hg : o.guard = none) (m x v : Operand) (t : TypeId) (hop : o.op = Op.mapUpdate t m x v) (e : TypeId) (ht : Try.prog.underlying t = some (.map K e))
    (hK : KeyT K E q) (h : KMap K q w b n f) (hn : n < maxLen) (zs : List Int) (hzs : OkK q zs) (val : Value) (hm : a.eval m = .map (some b)) (hx : a.eval x = kv q zs) (hv : a.eval v = val)
    (hC : ∀ w', KMap K q w' b (n + 1) (kupd f zs val) → w.grownBy w' (some b) → wpList Try.prog ops Q rest (a.put o.dst undef) w') : wpList Try.prog ops Q (o :: rest) a w := by
  refine wpList_plain hg fun K' hK' => ?_
  obtain ⟨w', hrun, r1, r2⟩ := h.put hK ht hn hzs val
  unfold Oper.wp
  simp [execOp, hop, hm, hx, hv, hrun, Result.andThen]
  exact hK' _ _ (hC w' r1 r2)

theorem wpList_kinsert (hg : o.guard = none) (m x v : Operand) (t : TypeId) (hop : o.op = Op.insert t m x v) (e : TypeId) (ht : Try.prog.underlying t = some (.map K e))
    (hK : KeyT K E q) (h : KMap K q w b n f) (hn : n < maxLen) (zs : List Int) (hzs : OkK q zs) (val : Value) (hm : a.eval m = .map (some b)) (hx : a.eval x = kv q zs) (hv : a.eval v = val)
    (hC : ∀ w', KMap K q w' b (n + 1) (kupd f zs val) → w.grownBy w' (some b) → wpList Try.prog ops Q rest (a.put o.dst undef) w') : wpList Try.prog ops Q (o :: rest) a w := by
  refine wpList_plain hg fun K' hK' => ?_
  obtain ⟨w', hrun, r1, r2⟩ := h.put hK ht hn hzs val
  unfold Oper.wp
  simp [execOp, hop, hm, hx, hv, hrun, Result.andThen]
  exact hK' _ _ (hC w' r1 r2)
end

theorem KMap.kept {K : TypeId} {q : IntKind} {w w' : World} {b n g : Nat} {f : List Int → Option Value} (h : KMap K q w b n f) (hg : w.grownBy w' (some g)) (hne : b ≠ g) : KMap K q w' b n f := h.of_block (hg.block b h.lt (fun e => hne (Option.some.inj e)))

theorem wf_i8_small (m : Nat) (h : m < 12) : (Lit.int .i8 (m : Int)).wf = true := by
  obtain rfl | rfl | rfl | rfl | rfl | rfl | rfl | rfl | rfl | rfl | rfl | rfl : m = 0 ∨ m = 1 ∨ m = 2 ∨ m = 3 ∨ m = 4 ∨ m = 5 ∨ m = 6 ∨ m = 7 ∨ m = 8 ∨ m = 9 ∨ m = 10 ∨ m = 11 := by omega
  all_goals decide

theorem okK_pm (x : Pm) : OkK .i8 x.l := ⟨x.len, fun z hz => by
  have := isRow_lt12 x.row (by rw [x.len]; exact Nat.le_refl _) z hz
  obtain ⟨m, rfl⟩ := Int.eq_ofNat_of_zero_le this.1
  exact wf_i8_small m (by simpa using this.2)⟩

theorem KeyT.lits {K E : TypeId} {q : IntKind} (h : KeyT K E q) {zs : List Int} (hz : OkK q zs) : (kv q zs).formed Try.prog K = true ∧ ∃ ls, Try.prog.keyLits (Try.prog.types.size + 1) K (kv q zs).cells.toList = some ls := by
  obtain ⟨hl, hw⟩ := hz
  have hf : (kv q zs).formed Try.prog K = true := by
    unfold kv Value.formed
    rw [h.arr]
    simp [h.cK, hl]
  refine ⟨hf, ?_⟩
  have hcs : (kv q zs).cells.toList = zs.map (Value.int q) := by simp [kv, Value.cells]
  rw [hcs]
  unfold Program.keyLits
  rw [h.arr]
  simp only
  rw [if_pos (by simp [h.cK, hl])]
  obtain ⟨ys, hys⟩ := mapM_some (fun i => Try.prog.keyLits Try.prog.types.size E (((zs.map (Value.int q)).drop (i * Try.prog.cellsOf E)).take (Try.prog.cellsOf E))) (List.range 12) (fun i hi => by
    have hi' : i < zs.length := by rw [hl]; simpa using hi
    refine ⟨[.int q zs[i]], ?_⟩
    rw [h.cE, Nat.mul_one]
    have e : ((zs.map (Value.int q)).drop i).take 1 = [.int q zs[i]] := by
      rw [List.drop_eq_getElem_cons (by simpa using hi')]
      simp
    rw [e]
    obtain ⟨d, hd⟩ : ∃ d, Try.prog.types.size = d + 1 := pos_succ _ (Nat.lt_of_le_of_lt (Nat.zero_le _) h.low)
    rw [hd]
    unfold Program.keyLits
    rw [h.int]
    simp [hw zs[i] (List.getElem_mem hi')])
  exact ⟨ys.flatten, by rw [hys]; rfl⟩

theorem KeyT.same {K E : TypeId} {q : IntKind} (h : KeyT K E q) {zs zs' : List Int} (hz : OkK q zs) (hz' : OkK q zs') (e : Try.prog.keyLits (Try.prog.types.size + 1) K (kv q zs).cells.toList = Try.prog.keyLits (Try.prog.types.size + 1) K (kv q zs').cells.toList) :
    keyOf Try.prog K (kv q zs) = keyOf Try.prog K (kv q zs') := by
  unfold keyOf
  rw [h.arr]
  simp only
  rw [(h.lits hz).1, (h.lits hz').1, e]

end Go.Proofs.Ytimfoggjocajiaa

/- Plain: rows found one behind the other from rounds on, each with the word that led there first. -/
namespace Go.Proofs.Ytimfoggjocajiaa

open Classical in
/-- One letter tried on an entry. -/
noncomputable def tryL (e : Pm × List Int) (S : List (Pm × List Int)) (l : Int × Pm) : List (Pm × List Int) :=
  if e.1 * l.2 ∈ S.map (·.1) then S else S ++ [(e.1 * l.2, e.2 ++ [l.1])]

/-- .. and the first j letters. -/
noncomputable def tryTo (L : List (Int × Pm)) (e : Pm × List Int) (S : List (Pm × List Int)) (j : Nat) : List (Pm × List Int) := (L.take j).foldl (tryL e) S

theorem tryTo_succ {L : List (Int × Pm)} {e : Pm × List Int} {S : List (Pm × List Int)} {j : Nat} {l : Int × Pm} (h : L[j]? = some l) : tryTo L e S (j + 1) = tryL e (tryTo L e S j) l := by
  unfold tryTo
  rw [List.take_add_one, h, List.foldl_append]
  rfl

theorem tryL_old {e : Pm × List Int} {S : List (Pm × List Int)} {l : Int × Pm} (h : e.1 * l.2 ∈ S.map (·.1)) : tryL e S l = S := by unfold tryL; rw [if_pos h]
theorem tryL_new {e : Pm × List Int} {S : List (Pm × List Int)} {l : Int × Pm} (h : ¬ e.1 * l.2 ∈ S.map (·.1)) : tryL e S l = S ++ [(e.1 * l.2, e.2 ++ [l.1])] := by unfold tryL; rw [if_neg h]

theorem tryL_more (e : Pm × List Int) (S : List (Pm × List Int)) (l : Int × Pm) : ∃ more, tryL e S l = S ++ more := by
  by_cases h : e.1 * l.2 ∈ S.map (·.1)
  · exact ⟨[], by rw [tryL_old h, List.append_nil]⟩
  · exact ⟨_, tryL_new h⟩

theorem tryL_there (e : Pm × List Int) (S : List (Pm × List Int)) (l : Int × Pm) : e.1 * l.2 ∈ (tryL e S l).map (·.1) := by
  by_cases h : e.1 * l.2 ∈ S.map (·.1)
  · rw [tryL_old h]; exact h
  · rw [tryL_new h]; simp

theorem tryTo_more (L : List (Int × Pm)) (e : Pm × List Int) (S : List (Pm × List Int)) (j : Nat) : ∃ more, tryTo L e S j = S ++ more := by
  unfold tryTo
  generalize L.take j = M
  induction M generalizing S with
  | nil => exact ⟨[], by simp⟩
  | cons l M ih =>
    obtain ⟨m1, h1⟩ := tryL_more e S l
    obtain ⟨m2, h2⟩ := ih (tryL e S l)
    exact ⟨m1 ++ m2, by rw [List.foldl_cons, h2, h1, List.append_assoc]⟩

theorem tryTo_there {L : List (Int × Pm)} (e : Pm × List Int) (S : List (Pm × List Int)) {l : Int × Pm} (hl : l ∈ L) : e.1 * l.2 ∈ (tryTo L e S L.length).map (·.1) := by
  unfold tryTo
  rw [List.take_length]
  induction L generalizing S with
  | nil => cases hl
  | cons x L ih =>
    rw [List.foldl_cons]
    rcases List.mem_cons.1 hl with rfl | hl
    · obtain ⟨more, h⟩ := tryTo_more L e (tryL e S l) L.length
      unfold tryTo at h
      rw [List.take_length] at h
      rw [h, List.map_append]
      exact List.mem_append_left _ (tryL_there e S l)
    · exact ih (tryL e S x) hl

/-- Entries 0 to i - 1 are gone through. -/
inductive Run (L : List (Int × Pm)) : Nat → List (Pm × List Int) → Prop
  | start : Run L 0 [(1, [])]
  | step {i : Nat} {S : List (Pm × List Int)} {e : Pm × List Int} : Run L i S → S[i]? = some e → Run L (i + 1) (tryTo L e S L.length)

theorem Run.det {L : List (Int × Pm)} {i : Nat} {S T : List (Pm × List Int)} (h : Run L i S) (k : Run L i T) : S = T := by
  induction h generalizing T with
  | start => cases k; rfl
  | step _ he ih =>
    cases k with
    | step k' he' =>
      have := ih k'
      subst this
      rw [he] at he'
      rw [Option.some.inj he']

theorem Run.le {L : List (Int × Pm)} {i : Nat} {S : List (Pm × List Int)} (h : Run L i S) : i ≤ S.length := by
  cases h with
  | start => exact Nat.zero_le _
  | step h he =>
    obtain ⟨more, e⟩ := tryTo_more L _ _ L.length
    rw [e, List.length_append]
    have := (List.getElem?_eq_some_iff.1 he).1
    omega

theorem Run.pre {L : List (Int × Pm)} {j : Nat} {T : List (Pm × List Int)} (h : Run L j T) : ∀ i, i ≤ j → ∃ S, Run L i S ∧ ∃ more, T = S ++ more := by
  induction h with
  | start => intro i hi; have : i = 0 := by omega
             subst this; exact ⟨_, Run.start, [], by simp⟩
  | @step j S e0 h he ih =>
    intro i hi
    by_cases e : i ≤ j
    · obtain ⟨S', hS, m1, h1⟩ := ih i e
      obtain ⟨m2, h2⟩ := tryTo_more L e0 S L.length
      exact ⟨S', hS, m1 ++ m2, by rw [h2, h1, List.append_assoc]⟩
    · have e2 : i = j + 1 := by omega
      subst e2
      exact ⟨_, Run.step h he, [], by simp⟩

/-- Whoever has gone through all has found the same. -/
theorem Run.unique {L : List (Int × Pm)} {i j : Nat} {S T : List (Pm × List Int)} (h : Run L i S) (k : Run L j T) (hi : S.length ≤ i) (hj : T.length ≤ j) : S = T := by
  have key : ∀ {i j : Nat} {S T : List (Pm × List Int)}, Run L i S → Run L j T → S.length ≤ i → i ≤ j → i = j := fun {i j S T} h k hi hij => by
    rcases Nat.lt_or_ge i j with hlt | hge
    · obtain ⟨S', h', _⟩ := k.pre (i + 1) hlt
      cases h' with
      | step h'' he =>
        rw [h.det h''] at hi
        have := (List.getElem?_eq_some_iff.1 he).1
        omega
    · omega
  rcases Nat.le_total i j with hij | hij
  · have := key h k hi hij
    subst this; exact h.det k
  · have := key k h hj hij
    subst this; exact h.det k

structure RunOk (L : List (Int × Pm)) (S : List (Pm × List Int)) : Prop where
  nodup : (S.map (·.1)).Nodup
  gen : ∀ e, e ∈ S → Gen (fun x => ∃ l, l ∈ L ∧ l.2 = x) e.1
  first : (1, []) ∈ S

theorem Gen.right {T : Pm → Prop} {x y : Pm} (hx : Gen T x) (hy : T y) : Gen T (x * y) := Gen.mul' hx (Gen.of hy)

theorem RunOk.tryL {L : List (Int × Pm)} {S : List (Pm × List Int)} (h : RunOk L S) {e : Pm × List Int} (he : Gen (fun x => ∃ l, l ∈ L ∧ l.2 = x) e.1) {l : Int × Pm} (hl : l ∈ L) : RunOk L (tryL e S l) := by
  by_cases hc : e.1 * l.2 ∈ S.map (·.1)
  · rw [tryL_old hc]; exact h
  · rw [tryL_new hc]
    refine ⟨?_, ?_, List.mem_append_left _ h.first⟩
    · rw [List.map_append, List.nodup_append]
      refine ⟨h.nodup, by simp, fun a ha b hb e' => hc ?_⟩
      have : b = e.1 * l.2 := by simpa using hb
      rw [← this, ← e']; exact ha
    · intro x hx
      rcases List.mem_append.1 hx with hx | hx
      · exact h.gen x hx
      · rw [List.mem_singleton.1 hx]; exact Gen.right he ⟨l, hl, rfl⟩

theorem RunOk.tryTo {L : List (Int × Pm)} {S : List (Pm × List Int)} (h : RunOk L S) {e : Pm × List Int} (he : Gen (fun x => ∃ l, l ∈ L ∧ l.2 = x) e.1) (j : Nat) : RunOk L (tryTo L e S j) := by
  have key : ∀ (M : List (Int × Pm)) (S : List (Pm × List Int)), (∀ l, l ∈ M → l ∈ L) → RunOk L S → RunOk L (M.foldl (Proofs.Ytimfoggjocajiaa.tryL e) S) := by
    intro M
    induction M with
    | nil => intro S _ h; exact h
    | cons l M ih => intro S hM h; exact ih _ (fun x hx => hM x (by simp [hx])) (h.tryL he (hM l (by simp)))
  exact key _ S (fun l hl => List.mem_of_mem_take hl) h

theorem Run.ok {L : List (Int × Pm)} {i : Nat} {S : List (Pm × List Int)} (h : Run L i S) : RunOk L S := by
  induction h with
  | start => exact ⟨by simp, fun e he => by rw [List.mem_singleton.1 he]; exact Gen.one, by simp⟩
  | step h he ih => exact ih.tryTo (ih.gen _ (List.mem_of_getElem? he)) _

theorem Run.done {L : List (Int × Pm)} {i : Nat} {S : List (Pm × List Int)} (h : Run L i S) : ∀ k e, k < i → S[k]? = some e → ∀ l, l ∈ L → e.1 * l.2 ∈ S.map (·.1) := by
  induction h with
  | start => intro k e hk; omega
  | @step i S e0 h he ih =>
    intro k e hk hke l hl
    obtain ⟨more, hm⟩ := tryTo_more L e0 S L.length
    by_cases hki : k = i
    · subst hki
      have : e = e0 := by
        rw [hm, List.getElem?_append_left (List.getElem?_eq_some_iff.1 he).1, he] at hke
        exact (Option.some.inj hke).symm
      subst this
      exact tryTo_there e S hl
    · have hkS : k < S.length := by have := (List.getElem?_eq_some_iff.1 he).1; omega
      rw [hm, List.getElem?_append_left hkS] at hke
      rw [hm, List.map_append]
      exact List.mem_append_left _ (ih k e (by omega) hke l hl)

/-- Whoever has gone through all has found all. -/
theorem Run.all {L : List (Int × Pm)} {i : Nat} {S : List (Pm × List Int)} (h : Run L i S) (hi : S.length ≤ i) (x : Pm) : x ∈ S.map (·.1) ↔ Gen (fun x => ∃ l, l ∈ L ∧ l.2 = x) x := by
  constructor
  · intro hx
    obtain ⟨e, he, rfl⟩ := List.mem_map.1 hx
    exact h.ok.gen e he
  · intro hx
    have closed : ∀ y, y ∈ S.map (·.1) → ∀ l, l ∈ L → y * l.2 ∈ S.map (·.1) := fun y hy l hl => by
      obtain ⟨e, he, rfl⟩ := List.mem_map.1 hy
      obtain ⟨k, hk, rfl⟩ := List.getElem_of_mem he
      exact h.done k _ (by omega) (List.getElem?_eq_getElem hk) l hl
    have right : ∀ z, Gen (fun x => ∃ l, l ∈ L ∧ l.2 = x) z → ∀ y, y ∈ S.map (·.1) → y * z ∈ S.map (·.1) := by
      intro z hz
      induction hz with
      | one => intro y hy; rw [Pm.mul_one]; exact hy
      | mul hs _ ih =>
        intro y hy
        obtain ⟨l, hl, rfl⟩ := hs
        rw [← Pm.mul_assoc]
        exact ih _ (closed y hy l hl)
    have := right x hx 1 (List.mem_map.2 ⟨_, h.ok.first, rfl⟩)
    rwa [Pm.one_mul] at this

end Go.Proofs.Ytimfoggjocajiaa

/- Plain: how each row was come to first, and its word from that. -/
namespace Go.Proofs.Ytimfoggjocajiaa

/-- The letters of a group: each generator, and what undoes it. -/
noncomputable def glet : Nat → List Pm → List (Int × Pm)
  | _, [] => []
  | k, x :: t => ((k : Int) + 1, x) :: (-(k : Int) - 1, x⁻¹) :: glet (k + 1) t

theorem glet_length (k : Nat) (gs : List Pm) : (glet k gs).length = 2 * gs.length := by
  induction gs generalizing k with
  | nil => rfl
  | cons x t ih => rw [glet, List.length_cons, List.length_cons, ih, List.length_cons]; omega

theorem glet_even {k j : Nat} {gs : List Pm} {x : Pm} (h : gs[j]? = some x) : (glet k gs)[2 * j]? = some (((k + j : Nat) : Int) + 1, x) := by
  induction gs generalizing k j with
  | nil => simp at h
  | cons y t ih =>
    cases j with
    | zero => simp at h; subst h; simp [glet]
    | succ j =>
      rw [List.getElem?_cons_succ] at h
      rw [show 2 * (j + 1) = 2 * j + 1 + 1 by omega, glet, List.getElem?_cons_succ, List.getElem?_cons_succ, ih h]
      rw [show k + 1 + j = k + (j + 1) by omega]

theorem glet_odd {k j : Nat} {gs : List Pm} {x : Pm} (h : gs[j]? = some x) : (glet k gs)[2 * j + 1]? = some (-((k + j : Nat) : Int) - 1, x⁻¹) := by
  induction gs generalizing k j with
  | nil => simp at h
  | cons y t ih =>
    cases j with
    | zero => simp at h; subst h; simp [glet]
    | succ j =>
      rw [List.getElem?_cons_succ] at h
      rw [show 2 * (j + 1) + 1 = (2 * j + 1) + 1 + 1 by omega, glet, List.getElem?_cons_succ, List.getElem?_cons_succ, ih h]
      rw [show k + 1 + j = k + (j + 1) by omega]

/-- How each row was come to: by which row, and by which letter. -/
structure Came {V : Type} (sv : Pm → Int → V) (S : List (Pm × List Int)) (f : List Int → Option V) : Prop where
  some : ∀ x : Pm, (f x.l).isSome = true ↔ x ∈ S.map (·.1)
  back : ∀ e, e ∈ S → e.1 ≠ 1 → ∃ y wd l, (y, wd) ∈ S ∧ e.2 = wd ++ [l] ∧ f e.1.l = Option.some (sv y l)

theorem Pm.l_inj {x y : Pm} (h : x.l = y.l) : x = y := by
  cases x; cases y
  simp only at h
  subst h
  rfl

theorem Came.start {V : Type} {sv : Pm → Int → V} (v0 : V) : Came sv [(1, [])] (fun x => if x = (1 : Pm).l then Option.some v0 else none) := by
  refine ⟨fun x => ?_, fun e he h => ?_⟩
  · by_cases h : x.l = (1 : Pm).l
    · have := Pm.l_inj h
      subst this
      simp
    · rw [if_neg h]
      constructor
      · intro h'; cases h'
      · intro h'
        have h'' : x = 1 := by simpa using h'
        exact absurd (by rw [h'']) h
  · rw [List.mem_singleton.1 he] at h
    exact absurd rfl h

theorem Came.grow {V : Type} {sv : Pm → Int → V} {S : List (Pm × List Int)} {f f' : List Int → Option V} (h : Came sv S f) {e : Pm × List Int} {l : Int × Pm} (he : e ∈ S) (hn : ¬ e.1 * l.2 ∈ S.map (·.1))
    (hf : f' = fun x => if x = (e.1 * l.2).l then Option.some (sv e.1 l.1) else f x) : Came sv (S ++ [(e.1 * l.2, e.2 ++ [l.1])]) f' := by
  subst hf
  refine ⟨fun x => ?_, fun d hd h1 => ?_⟩
  · by_cases hx : x.l = (e.1 * l.2).l
    · have := Pm.l_inj hx
      subst this
      simp
    · rw [if_neg hx, h.some x, List.map_append, List.mem_append]
      constructor
      · exact Or.inl
      · rintro (h' | h')
        · exact h'
        · have h'' : x = e.1 * l.2 := by simpa using h'
          exact absurd (by rw [h'']) hx
  · rcases List.mem_append.1 hd with hd | hd
    · obtain ⟨y, wd, l', h2, h3, h4⟩ := h.back d hd h1
      refine ⟨y, wd, l', List.mem_append_left _ h2, h3, ?_⟩
      have hne : d.1.l ≠ (e.1 * l.2).l := fun e' => hn (by rw [← Pm.l_inj e']; exact List.mem_map.2 ⟨d, hd, rfl⟩)
      rw [if_neg hne]
      exact h4
    · rw [List.mem_singleton.1 hd]
      exact ⟨e.1, e.2, l.1, List.mem_append_left _ he, rfl, by rw [if_pos rfl]⟩

theorem pair_eq {S : List (Pm × List Int)} (hn : (S.map (·.1)).Nodup) {x : Pm} {a b : List Int} (ha : (x, a) ∈ S) (hb : (x, b) ∈ S) : a = b := by
  induction S with
  | nil => cases ha
  | cons e S ih =>
    rw [List.map_cons, List.nodup_cons] at hn
    rcases List.mem_cons.1 ha with h1 | h1
    · rcases List.mem_cons.1 hb with h2 | h2
      · rw [← h1] at h2; exact (Prod.mk.inj h2).2.symm
      · exact absurd (List.mem_map.2 ⟨_, h2, rfl⟩) (by rw [← h1] at hn; exact hn.1)
    · rcases List.mem_cons.1 hb with h2 | h2
      · exact absurd (List.mem_map.2 ⟨_, h1, rfl⟩) (by rw [← h2] at hn; exact hn.1)
      · exact ih hn.2 h1 h2

end Go.Proofs.Ytimfoggjocajiaa

/- A group's packed rows as keys of a map, and held against each other. -/
namespace Go.Proofs.Ytimfoggjocajiaa
open Go.RowKit Go.Maps Go.ChangeMaps
open Go.WideElems (rg)

theorem laidG : laidOutB Try.prog = true := by kernel_rfl

theorem gkeyT : KeyT 91 89 .i8 where
  arr := Try.underlying91
  int := Try.underlying89
  cK := by kernel_rfl
  cE := by kernel_rfl
  ok := by kernel_rfl
  low := of_decide_eq_true (by kernel_rfl)
  keyed := Keyed.of_law (deep_law_gate laidG (of_decide_eq_true (by kernel_rfl)) (of_decide_eq_true (by kernel_rfl)) (by kernel_rfl) (by rw [Try.underlying91]))

theorem gpeq (x y : Pm) (w : World) : ∃ r : Bool, (binOp .eql 91 (.agg (i8s x.l)) (.agg (i8s y.l))).run Try.prog w = .ok (.bool r) w ∧ (r = true ↔ x = y) := by
  obtain ⟨f1, l1, h1⟩ := gkeyT.lits (okK_pm x)
  obtain ⟨f2, l2, h2⟩ := gkeyT.lits (okK_pm y)
  obtain ⟨r, hr, hiff⟩ := run_equalIn_deep (P := Try.prog) 9997 3 91 (by kernel_rfl) w _ _ _ _ l1 l2 f1 f2 h1 h2
  refine ⟨r, ?_, hiff.trans ⟨fun e => ?_, fun e => ?_⟩⟩
  · rw [run_eql_struct]
    have hr' : (Op.equalIn 10000 91 (.agg (i8s x.l)) (.agg (i8s y.l))).run Try.prog w = .ok r w := hr
    rw [hr']
    rfl
  · obtain ⟨lx, hx⟩ : ∃ l, keyOf Try.prog 91 (pv x) = some l := gkeyT.mk' (okK_pm x)
    have hk := gkeyT.same (okK_pm x) (okK_pm y) (by rw [h1, h2, e])
    exact Pm.eq_of_l (kv_inj (gkeyT.keyed.inj hx (hk ▸ hx)))
  · subst e
    rw [h1] at h2
    exact Option.some.inj h2

/-- How a row was come to, as it lies. -/
def sv (y : Pm) (l : Int) : Value := .agg ((y.l.map (Value.int .i8)).toArray.push (.int .i64 l))

end Go.Proofs.Ytimfoggjocajiaa
