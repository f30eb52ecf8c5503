/- Contracts: slices.Insert of one number ahead of a row of the call's own, slices.Clone. -/
import Derived.Test.YtgglbafcocbhbaaChRow
import Derived.Test.YtgglbafcocbhbaaAppK
import Derived.Shelf.Spec.SlicesInsert
import Derived.Shelf.Spec.SlicesInsertGrow
namespace Go.Proofs.Ytgglbafcocbhbaa
open Go.RowKit Go.Lib

def rnI : Go.Shelf.Ren := ⟨fun x => match x with | 21 => 84 | 27 => 92 | 28 => 93 | 35 => 96 | 39 => 99 | y => y,
  fun x => match x with | 22 => 22 | 3 => 3 | 4 => 4 | 0 => 0 | y => y, fun x => x⟩

theorem lays21 : Go.Proofs.Lays2.n21 Try.prog rnI where
  mixed := by kernel_rfl
  f21 := by kernel_rfl
  f27 := by kernel_rfl
  f28 := by kernel_rfl
  f35 := by kernel_rfl
  f39 := by kernel_rfl
  t0 := by kernel_rfl
  a0 := fun w => by kernel_rfl
  z0 := fun w => by kernel_rfl
  v0 := fun w => by kernel_rfl
  t3 := by kernel_rfl
  a3 := fun w => by kernel_rfl
  z3 := fun w => by kernel_rfl
  v3 := fun w => by kernel_rfl
  t4 := by kernel_rfl
  a4 := fun w => by kernel_rfl
  z4 := fun w => by kernel_rfl
  v4 := fun w => by kernel_rfl
  t22 := by kernel_rfl
  a22 := fun w => by kernel_rfl
  z22 := fun w => by kernel_rfl
  v22 := fun w => by kernel_rfl
  i3 := by kernel_rfl

theorem heap_setCell_row {w : World} {g o : Nat} {cur : Array Value} {e : TypeId} {v : Value} (h : w.heap[g]? = some (.cells cur e)) : (w.setCell ⟨g, o, none⟩ v).heap[g]? = some (.cells (cur.setIfInBounds o v) e) := by
  simp [World.setCell, Array.getElem?_modify, h]

theorem heap_setCells_row (g : Nat) (e : TypeId) : ∀ (vs : List Value) (o : Nat) (w : World) (cur : Array Value), w.heap[g]? = some (.cells cur e) → o + vs.length ≤ cur.size →
    (w.setCells g o vs).heap[g]? = some (.cells (cur.toList.take o ++ vs ++ cur.toList.drop (o + vs.length)).toArray e)
  | [], o, w, cur, h, _ => by
    show w.heap[g]? = _
    rw [h]
    simp
  | v :: vs, o, w, cur, h, hl => by
    have hl' : o + 1 + vs.length ≤ (cur.setIfInBounds o v).size := by simp at hl ⊢; omega
    have ho : o < cur.toList.length := by simp at hl ⊢; omega
    have := heap_setCells_row g e vs (o + 1) (w.setCell ⟨g, o, none⟩ v) (cur.setIfInBounds o v) (heap_setCell_row h) hl'
    show ((w.setCell ⟨g, o, none⟩ v).setCells g (o + 1) vs).heap[g]? = _
    rw [this, Array.toList_setIfInBounds]
    congr 3
    rw [List.drop_set_of_lt (by omega), List.take_set, List.take_succ_eq_append_getElem ho, List.set_append_right _ _ (by simp; omega)]
    simp only [List.length_take, List.append_assoc, List.length_cons]
    rw [show o - min o cur.toList.length = 0 from by omega]
    simp only [List.set_cons_zero, List.nil_append, List.cons_append]
    rw [show o + (vs.length + 1) = o + 1 + vs.length from by omega]

theorem heap_setCells_off (g : Nat) : ∀ (vs : List Value) (o : Nat) (w : World) (k : Nat), k ≠ g → (w.setCells g o vs).heap[k]? = w.heap[k]?
  | [], _, _, _, _ => rfl
  | v :: vs, o, w, k, hk => by
    show ((w.setCell ⟨g, o, none⟩ v).setCells g (o + 1) vs).heap[k]? = _
    rw [heap_setCells_off g vs (o + 1) _ k hk]
    have hg : g ≠ k := fun h => hk h.symm
    simp [World.setCell, Array.getElem?_modify, hg]

theorem size_setCells' (g : Nat) : ∀ (vs : List Value) (o : Nat) (w : World), (w.setCells g o vs).heap.size = w.heap.size
  | [], _, _ => rfl
  | v :: vs, o, w => by
    show ((w.setCell ⟨g, o, none⟩ v).setCells g (o + 1) vs).heap.size = _
    rw [size_setCells' g vs (o + 1) _]
    simp [World.setCell]

theorem rest_setCells (g : Nat) : ∀ (vs : List Value) (o : Nat) (w : World), (w.setCells g o vs).os = w.os ∧ (w.setCells g o vs).tape = w.tape ∧ (w.setCells g o vs).output = w.output
  | [], _, _ => ⟨rfl, rfl, rfl⟩
  | v :: vs, o, w => rest_setCells g vs (o + 1) (w.setCell ⟨g, o, none⟩ v)

theorem ahead_take {A M R : List Value} {v : Value} {n : Nat} (hA : A.length = 1) (hM : M.length = n) : List.take ((n + 1) * 1) (List.take (0 + 0) (A ++ M ++ R) ++ [v] ++ List.drop (0 + 0 + [v].length) (A ++ M ++ R)) = v :: M := by
  have hd : List.drop 1 (A ++ M ++ R) = M ++ R := by rw [List.append_assoc, List.drop_left' hA]
  show List.take ((n + 1) * 1) (List.take 0 (A ++ M ++ R) ++ [v] ++ List.drop 1 (A ++ M ++ R)) = _
  rw [hd, List.take_zero, List.nil_append, List.singleton_append, Nat.mul_one, List.take_succ_cons, List.take_append_of_le_length (by omega), List.take_of_length_le (by omega)]

theorem behind_take {Z M : List Value} {v : Value} {n : Nat} (hM : M.length = n) : List.take ((n + 1) * 1) (List.take (0 + 1) (List.take 0 Z ++ [v] ++ List.drop (0 + [v].length) Z) ++ M ++ List.drop (0 + 1 + M.length) (List.take 0 Z ++ [v] ++ List.drop (0 + [v].length) Z)) = v :: M := by
  rw [List.take_zero, List.nil_append, List.singleton_append, Nat.zero_add, List.take_succ_cons, List.take_zero, List.singleton_append, List.cons_append, Nat.mul_one, List.take_succ_cons, List.take_append_of_le_length (by omega), List.take_of_length_le (by omega)]

theorem map_get_some {zs : List Int} {j : Nat} {u : Value} (h : (zs.map (Value.int .i64))[j]? = some u) : j < zs.length ∧ u = .int .i64 (zs.getD j 0) := by
  rw [List.getElem?_map] at h
  cases hz : zs[j]? with
  | none => rw [hz] at h; cases h
  | some z =>
    rw [hz] at h
    have hj : j < zs.length := (List.getElem?_eq_some_iff.1 hz).1
    refine ⟨hj, ?_⟩
    simp only [List.getD, hz, Option.getD_some]
    simpa using h.symm

set_option maxHeartbeats 1000000 in
theorem ins_own {base g n cap vb : Nat} {zs : List Int} {w : World} (h : w.ownsRow base 3 1 (.slice (some ⟨g, 0, none⟩) n cap) n (zs.map (Value.int .i64))) (hn : 1 ≤ n) (hb : base ≤ w.heap.size) (hbig : n ≤ 1000000) (hv : w.heap[vb]? = some (.cells #[.int .i64 1] 3)) (hne : vb ≠ g) :
    Calls Try.prog 84 #[.slice (some ⟨g, 0, none⟩) n cap, .int .i64 0, .slice (some ⟨vb, 0, none⟩) 1 1] w fun e w' =>
      ∃ v', e = .returned v' ∧ w'.ownsRow base 3 1 v' (n + 1) (((1 : Int) :: zs).map (Value.int .i64)) ∧ w.grownBy w' (some g) := by
  have hl : zs.length = n := by have := h.1; simpa using this
  rcases h.2 with ⟨h2, _⟩ | ⟨g', cap', cur, hve, hbg, hh, hnc, hm, hs, ht⟩
  · cases h2
  injection hve with e1 _ e3
  injection e1 with e1
  injection e1 with e1
  subst e1; subst e3
  have hs' : cur.size = cap := by rw [hs]; omega
  have hcs : ∀ j v, (zs.map (Value.int .i64))[j]? = some v → w.cell? ⟨g, 0 + j, none⟩ = some v := by
    intro j v hj
    obtain ⟨hj', rfl⟩ := map_get_some hj
    rw [Nat.zero_add]
    exact (owns_cell h (by omega)).1
  have hvs : ∀ j v, [Value.int .i64 1][j]? = some v → w.cell? ⟨vb, 0 + j, none⟩ = some v := by
    intro j v hj
    match j, hj with
    | 0, hj => simp [World.cell?, hv]; simpa using hj
    | j + 1, hj => simp at hj
  have h1c : ∀ v ∈ zs.map (Value.int .i64), v.oneCell' = true := by
    intro v hv'
    obtain ⟨z, _, rfl⟩ := List.mem_map.1 hv'
    rfl
  have h1v : ∀ v ∈ [Value.int .i64 1], v.oneCell' = true := by intro v hv'; simp at hv'; subst hv'; rfl
  by_cases hroom : n + 1 ≤ cap
  · have hsp : ∀ j, j < n + 1 → (w.cell? ⟨g, 0 + j, none⟩).isSome = true := by
      intro j hj
      have hj' : j < cur.size := by omega
      simp [World.cell?, hh, Nat.zero_add, hj']
    have hfz : ∀ j, j < n + 1 → w.frozen? ⟨g, 0 + j, none⟩ = false := by
      intro j hj; simp [World.frozen?, hh]
    refine (Go.Proofs.Any2.slices_Insert_int_shift lays21 g 0 n cap 0 vb 0 1 1 (zs.map (Value.int .i64)) [.int .i64 1] w (by omega) (by omega) hroom (by unfold maxLen at hm; omega) hne (by simp [hl]) rfl hcs hsp hfz hvs h1c h1v 3 3 1 cap
      (by simp [World.shape?, hv]) (by simp [World.shape?, hh, hs']) (by omega) (by simp [World.frozen?, hv]) (by simp [World.frozen?, hv])).mono ?_
    rintro e w' ⟨rfl, rfl⟩
    have k1 : (w.drew.setCells g (0 + (0 + 1)) ((zs.map (Value.int .i64)).drop 0)).heap[g]? = some (.cells (cur.toList.take 1 ++ zs.map (Value.int .i64) ++ cur.toList.drop (1 + n)).toArray 3) := by
      have := heap_setCells_row g 3 (zs.map (Value.int .i64)) 1 w.drew cur hh (by rw [List.length_map, hl]; omega)
      rw [List.length_map, hl] at this
      simpa using this
    have k2 := heap_setCells_row g 3 [.int .i64 1] (0 + 0) _ _ k1 (by simp; omega)
    refine ⟨_, rfl, ⟨by simp [hl], Or.inr ⟨g, cap, _, rfl, hbg, k2, hroom, hm, by simp [hl]; omega, ?_⟩⟩, ?_⟩
    · rw [List.toList_toArray, List.toList_toArray]
      exact ahead_take (by simp; omega) (by simp [hl])
    · have r1 := rest_setCells g ((zs.map (Value.int .i64)).drop 0) (0 + (0 + 1)) w.drew
      have r2 := rest_setCells g [.int .i64 1] (0 + 0) (w.drew.setCells g (0 + (0 + 1)) ((zs.map (Value.int .i64)).drop 0))
      refine ⟨r2.1.trans r1.1, r2.2.1.trans r1.2.1, r2.2.2.trans r1.2.2, ?_, fun k _ hk => ?_⟩
      · rw [size_setCells', size_setCells']; exact Nat.le_refl _
      · rw [heap_setCells_off g _ _ _ k (fun e => hk (by rw [e])), heap_setCells_off g _ _ _ k (fun e => hk (by rw [e]))]; rfl
  · refine (Go.Proofs.Any2.slices_Insert_int_grow lays21 g 0 n cap 0 vb 0 1 1 (zs.map (Value.int .i64)) [.int .i64 1] w (by omega) (by omega) hnc (by omega) (by omega) (by simp [hl]) rfl hcs hvs h1c h1v).mono ?_
    rintro e w' ⟨rfl, rfl⟩
    have hge := grownCap_ge w (n + 1) cap (rnI.t 3)
    have hle := grownCap_le_maxLen w (n + 1) cap (rnI.t 3) (by unfold maxLen; omega)
    generalize grownCap w (n + 1) cap (rnI.t 3) = C at *
    generalize hZ : ((List.take 0 (zs.map (Value.int .i64))).toArray ++ Builtin.zeroCells (Value.int .i64 0).cells (n + 1 - 0) ++ Builtin.zeroCells (Value.int .i64 0).cells (C - (n + 1))) = Z at *
    have hZs : Z.size = C := by rw [← hZ]; simp [Builtin.zeroCells, Value.cells]; omega
    have k0 : (w.alloc (.cells Z (rnI.t 3))).drew.heap[w.heap.size]? = some (.cells Z 3) := heap_alloc_new w _
    have k1 := heap_setCells_row w.heap.size 3 [.int .i64 1] 0 _ _ k0 (by rw [hZs]; simp; omega)
    have k2 := heap_setCells_row w.heap.size 3 ((zs.map (Value.int .i64)).drop 0) (0 + 1) ((w.alloc (.cells Z (rnI.t 3))).drew.setCells w.heap.size 0 [.int .i64 1]).drew _ k1 (by simp [hl, hZs]; omega)
    refine ⟨_, rfl, ⟨by simp [hl], Or.inr ⟨w.heap.size, C, _, rfl, hb, k2, hge, hle, by simp [hl, hZs]; omega, ?_⟩⟩, ?_⟩
    · rw [List.toList_toArray, List.toList_toArray]
      exact behind_take (by simp [hl])
    · have r1 := rest_setCells w.heap.size [.int .i64 1] 0 (w.alloc (.cells Z (rnI.t 3))).drew
      have r2 := rest_setCells w.heap.size ((zs.map (Value.int .i64)).drop 0) (0 + 1) ((w.alloc (.cells Z (rnI.t 3))).drew.setCells w.heap.size 0 [.int .i64 1]).drew
      refine ⟨r2.1.trans r1.1, r2.2.1.trans r1.2.1, r2.2.2.trans r1.2.2, ?_, fun k hk' _ => ?_⟩
      · rw [size_setCells']
        show w.heap.size ≤ ((w.alloc (.cells Z (rnI.t 3))).drew.setCells w.heap.size 0 [.int .i64 1]).heap.size
        rw [size_setCells']
        show w.heap.size ≤ (w.alloc (.cells Z (rnI.t 3))).heap.size
        simp
      · rw [heap_setCells_off w.heap.size _ _ _ k (by omega)]
        show ((w.alloc (.cells Z (rnI.t 3))).drew.setCells w.heap.size 0 [.int .i64 1]).heap[k]? = _
        rw [heap_setCells_off w.heap.size _ _ _ k (by omega)]
        exact Below.heap_alloc w _ k hk'

end Go.Proofs.Ytgglbafcocbhbaa
