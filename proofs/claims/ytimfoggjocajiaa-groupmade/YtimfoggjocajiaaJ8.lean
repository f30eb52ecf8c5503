/- Joined: GeQ, GeY. -/
import Derived.Test.YtimfoggjocajiaaJ7
import Derived.Test.YtimfoggjocajiaaJ0
import Derived.Shelf.Sort.AssemblyIn
import Derived.Sort.EveryDepth
import Derived.Shelf.Slices.Reverse
/- Contract: slices.Sort over ints that the call owns. -/
namespace Go.Proofs.Ytimfoggjocajiaa
open Go.RowKit Go.Shelf Go.Lib Go.Sort

theorem puti_take (dk : Array Int) (cur : Array Value) (h : dk.size ≤ cur.size) : (putCells (Value.int .i64) 0 dk cur).toList.take dk.size = dk.toList.map (Value.int .i64) := by
  refine List.ext_getElem (by simp [putCells]; omega) (fun i h1 h2 => ?_)
  have hi : i < dk.size := by simpa using h2
  simp only [putCells, List.getElem_take, Array.toList_mapIdx, List.getElem_mapIdx, List.getElem_map, Array.getElem_toList]
  rw [if_pos ⟨Nat.zero_le _, by omega⟩, Nat.sub_zero, getElem!_pos dk i hi]

theorem sortI_ok (base : Nat) (v : Value) (zs : List Int) (w : World) (ho : w.ownsRow base 3 1 v zs.length (zs.map (Value.int .i64))) (h1 : 1 ≤ zs.length) (h2 : zs.length ≤ 1000) :
    Calls Try.prog 122 #[v] w fun e w' => e = .returned (.tuple #[]) ∧ w'.ownsRow base 3 1 v zs.length ((zs.mergeSort (fun x y => decide (x ≤ y))).map (Value.int .i64)) ∧ Below base w w' := by
  have hown := ho
  rcases ho.2 with ⟨_, h0⟩ | ⟨g, cap, cur, hu, hgb, hh, hc1, hc2, hcs, hct⟩
  · omega
  have hg := (Array.getElem?_eq_some_iff.1 hh).1
  subst hu
  have hH : Holds (Value.int .i64) w g 0 zs.toArray := by
    intro j hj
    have hj' : j < zs.length := by simpa using hj
    refine ⟨?_, by simp [World.frozen?, hh]⟩
    have h9 := hown.cells (g := g) rfl j (.int .i64 zs[j]) (by rw [List.getElem?_map, List.getElem?_eq_getElem hj']; rfl)
    rw [Addr.add_lit] at h9
    rw [h9, getElem!_pos zs.toArray j hj]
    simp
  have hcon : Calls Try.prog (rnO.f 189) #[.slice (some ⟨g, 0, none⟩) zs.length cap] w fun e w' => e = .returned (.tuple #[]) ∧ ∃ n os, w' = grow (putRow (Value.int .i64) (Sort.ahead w n) g 0 (zs.mergeSort fun x y => decide (x ≤ y)).toArray) os :=
    calls_of_every_depth fun D => AnyS.slices_Sort_int_in laysO D g 0 cap zs w hH hg (by omega)
  refine Calls.mono (show Calls Try.prog 122 _ _ _ from hcon) ?_
  rintro e w' ⟨rfl, n, os, rfl⟩
  have hml : (zs.mergeSort fun x y => decide (x ≤ y)).length = zs.length := List.length_mergeSort _
  generalize zs.mergeSort (fun x y => decide (x ≤ y)) = ms at *
  have hrow : (grow (putRow (Value.int .i64) (Sort.ahead w n) g 0 ms.toArray) os).heap[g]? = some (.cells (putCells (Value.int .i64) 0 ms.toArray cur) 3) := by
    unfold grow putRow mapBlock Sort.ahead
    simp only
    rw [Array.getElem?_append_left (by simpa using hg), Array.getElem?_modify, if_pos rfl, hh]
    rfl
  refine ⟨rfl, ⟨by rw [List.length_map, hml]; omega, Or.inr ⟨g, cap, putCells (Value.int .i64) 0 ms.toArray cur, rfl, hgb, hrow, hc1, hc2, ?_, ?_⟩⟩, ?_⟩
  · rw [← hcs]; simp [putCells]
  · have := puti_take ms.toArray cur (by simp; rw [hml, hcs]; omega)
    rw [Nat.mul_one, ← hml]
    simpa using this
  · refine ⟨rfl, rfl, rfl, ?_, fun b hb => ?_⟩
    · unfold grow putRow mapBlock Sort.ahead
      simp
    · unfold grow putRow mapBlock Sort.ahead
      simp only
      rw [Array.getElem?_append_left (by simp; omega), Array.getElem?_modify, if_neg (by omega)]

end Go.Proofs.Ytimfoggjocajiaa

/- Contract: slices.Reverse over ints that the call owns, off the library's shelf. -/
namespace Go.Proofs.Ytimfoggjocajiaa
open Go.RowKit Go.Shelf Go.Lib Go.Sort
set_option maxRecDepth 100000
set_option linter.unusedVariables false

def rnR : Go.Shelf.Ren := ⟨fun | 112 => 125 | n => n,
  fun | 0 => 0 | 3 => 3 | 4 => 4 | 28 => 23 | n => n, fun  | n => n⟩

theorem laysR : Go.Proofs.Lays.n112 Try.prog rnR where
  mixed := by kernel_rfl
  f112 := by kernel_rfl
  t0 := by kernel_rfl
  a0 := fun w => by kernel_rfl
  z0 := fun w => by kernel_rfl
  v0 := fun w => by kernel_rfl
  t3 := by kernel_rfl
  a3 := fun w => by kernel_rfl
  z3 := fun w => by kernel_rfl
  v3 := fun w => by kernel_rfl
  t4 := by kernel_rfl
  a4 := fun w => by kernel_rfl
  z4 := fun w => by kernel_rfl
  v4 := fun w => by kernel_rfl
  t28 := by kernel_rfl
  a28 := fun w => by kernel_rfl
  z28 := fun w => by kernel_rfl
  v28 := fun w => by kernel_rfl


theorem revI_ok (base : Nat) (v : Value) (zs : List Int) (w : World) (ho : w.ownsRow base 3 1 v zs.length (zs.map (Value.int .i64))) (h2 : zs.length ≤ 1000000) :
    Calls Try.prog 125 #[v] w fun e w' => e = .returned (.tuple #[]) ∧ w'.ownsRow base 3 1 v zs.length (zs.reverse.map (Value.int .i64)) ∧ Below base w w' := by
  have hown := ho
  rcases ho.2 with ⟨hv, h0⟩ | ⟨g, cap, cur, hu, hgb, hh, hc1, hc2, hcs, hct⟩
  · have hz : zs = [] := List.length_eq_zero_iff.1 (by simpa using h0)
    subst hz
    subst hv
    refine Calls.mono (show Calls Try.prog 125 _ _ _ from Any.slices_Reverse_int_empty laysR none 0 w) ?_
    rintro e w' ⟨rfl, rfl⟩
    exact ⟨rfl, hown, Below.refl _ _⟩
  have hg := (Array.getElem?_eq_some_iff.1 hh).1
  subst hu
  have hH : Holds (Value.int .i64) w g 0 zs.toArray := by
    intro j hj
    have hj' : j < zs.length := by simpa using hj
    refine ⟨?_, by simp [World.frozen?, hh]⟩
    have h9 := hown.cells (g := g) rfl j (.int .i64 zs[j]) (by rw [List.getElem?_map, List.getElem?_eq_getElem hj']; rfl)
    rw [Addr.add_lit] at h9
    rw [h9, getElem!_pos zs.toArray j hj]
    simp
  refine Calls.mono (show Calls Try.prog 125 _ _ _ from Any.slices_Reverse_int laysR g 0 cap zs w hH (by omega)) ?_
  rintro e w' ⟨rfl, n, rfl⟩
  have hml : zs.reverse.length = zs.length := List.length_reverse
  generalize zs.reverse = ms at *
  have hrow : (putRow (Value.int .i64) (Sort.ahead w n) g 0 ms.toArray).heap[g]? = some (.cells (putCells (Value.int .i64) 0 ms.toArray cur) 3) := by
    unfold putRow mapBlock Sort.ahead
    simp only
    rw [Array.getElem?_modify, if_pos rfl, hh]
    rfl
  refine ⟨rfl, ⟨by rw [List.length_map, hml]; omega, Or.inr ⟨g, cap, putCells (Value.int .i64) 0 ms.toArray cur, rfl, hgb, hrow, hc1, hc2, ?_, ?_⟩⟩, ?_⟩
  · rw [← hcs]; simp [putCells]
  · have := puti_take ms.toArray cur (by simp; rw [hml, hcs]; omega)
    rw [Nat.mul_one, ← hml]
    simpa using this
  · refine ⟨rfl, rfl, rfl, ?_, fun b hb => ?_⟩
    · unfold putRow mapBlock Sort.ahead
      simp
    · unfold putRow mapBlock Sort.ahead
      simp only
      rw [Array.getElem?_modify, if_neg (by omega)]

end Go.Proofs.Ytimfoggjocajiaa
