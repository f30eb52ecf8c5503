/-
  TopGroup: whatever raw numbers come in, a group that rows of at most nine bells generate has what words say, its size is how many places a bell comes to times how many rows leave it there, and divides how many rows there are; words are told that say the row and are no longer; nothing that was handed in is changed.
-/
import Derived.Test.YtimfoggjocajiaaRows
import Derived.Test.YtimfoggjocajiaaJ15
import Derived.WalkKit
import Derived.ProofKit
import Derived.OpenShut
import Derived.ChangeOld
import Derived.Below
import Derived.SizedLaws
namespace Go.Proofs.Ytimfoggjocajiaa.topGroup
open Go.ChangeShapes Go.WideShapes Go.ChangeAt Go.RowKit
set_option linter.unusedVariables false

theorem own : ownKnob Try.prog.godebug = none := by kernel_rfl
theorem laidOut : laidOutB Try.prog = true := by kernel_rfl

/-- A slice of integers that came in: nil, or a row of cells. -/
def IsRow (k : IntKind) (w : World) (a : Option Addr) (len cap : Nat) (zs : List Int) : Prop :=
  (a = none ∧ len = 0 ∧ cap = 0 ∧ zs = []) ∨
  ∃ x, a = some x ∧ len ≤ cap ∧ cap ≤ maxLen ∧ zs.length = cap ∧ (∀ i, i < zs.length → w.cell? (x.add i) = some (.int k (zs.getD i 0))) ∧ ∀ n ∈ zs, (Lit.int k n).wf = true

theorem ints_of {w : World} {a : Option Addr} {len cap : Nat} {zs : List Int} (h : IsRow .i64 w a len cap zs) : ∃ xs, Ints w (.slice a len cap) xs ∧ ∀ x, x ∈ xs → I64 x := by
  rcases Nat.eq_zero_or_pos len with h0 | h0
  · exact ⟨[], Or.inl ⟨rfl, a, cap, by rw [h0]⟩, fun x hx => by cases hx⟩
  · rcases h with ⟨_, h1, _⟩ | ⟨x, rfl, hl, hm, hz, hcell, hwf⟩
    · omega
    · obtain ⟨b, off, rfl, hc⟩ := ints_at hcell (by omega)
      have hlen : (zs.take len).length = len := by rw [List.length_take]; omega
      refine ⟨zs.take len, Or.inr ⟨b, off, cap, by rw [hlen], by omega, by omega, by unfold maxLen at hm; omega, ?_, fun j hj => ?_⟩, fun y hy => ?_⟩
      · exact World.block_lt_of_cell? w _ (hc 0 (by omega))
      · rw [hlen] at hj
        rw [hc j (by omega)]
        simp [List.getD, hj]
      · have := bounds_i64 (hwf y (List.mem_of_mem_take hy))
        exact ⟨this.1, this.2⟩

theorem walk (a0 : Option Addr) (len0 cap0 : Nat) (z0 : List Int) (a1 : Int) (a2 : Int) (a3 : Option Addr) (len3 cap3 : Nat) (z3 : List Int) (a4 : Option Addr) (len4 cap4 : Nat) (z4 : List Int) (a5 : Int) (w : World) (w0 : IsRow .i64 w a0 len0 cap0 z0) (s0 : len0 ≤ 17592186044416) (w1 : (Lit.int .i64 a1).wf = true) (w2 : (Lit.int .i64 a2).wf = true) (w3 : IsRow .i64 w a3 len3 cap3 z3) (s3 : len3 ≤ 17592186044416) (w4 : IsRow .i64 w a4 len4 cap4 z4) (s4 : len4 ≤ 17592186044416) (w5 : (Lit.int .i64 a5).wf = true) :
    Calls Try.prog 10 #[.slice a0 len0 cap0, .int .i64 a1, .int .i64 a2, .slice a3 len3 cap3, .slice a4 len4 cap4, .int .i64 a5] w fun e w' => e = .returned (.bool true) ∧ Below w.heap.size w w' := by
  obtain ⟨xs0, hi0, hx0⟩ := ints_of w0
  have b1 := bounds_i64 w1
  have b2 := bounds_i64 w2
  obtain ⟨xs3, hi3, hx3⟩ := ints_of w3
  obtain ⟨xs4, hi4, hx4⟩ := ints_of w4
  have b5 := bounds_i64 w5
  exact topGroup_walk _ xs0 a1 a2 _ xs3 _ xs4 a5 w hi0 hx0 (by obtain ⟨_, _, e⟩ := hi0.form; injection e with _ e2 _; omega) ⟨b1.1, b1.2⟩ ⟨b2.1, b2.2⟩ hi3 hx3 (by obtain ⟨_, _, e⟩ := hi3.form; injection e with _ e2 _; omega) hi4 hx4 (by obtain ⟨_, _, e⟩ := hi4.form; injection e with _ e2 _; omega) ⟨b5.1, b5.2⟩

set_option maxRecDepth 100000 in
theorem lifted (os : Os) (started : os.Started) (H : Type) (enc : TypeId × Value → H) :
    ReturnsInHanded {} Try.checked os 10 .any (Rows.topGroupSpec.pre6 enc Try.prog Try.f10 Rows.topGroupRow.domain false) (Rows.topGroupSpec.post enc Try.prog Try.f10 false true false false) := by
  refine returnsInHanded_of_change_sized (C := Try.checked) own started (by kernel_rfl) Try.func10
    (ChangeSpec.witness6 (enc := enc) (C := Try.checked) false ⟨#[], #[.slice none 0 0, .int .i64 0, .int .i64 0, .slice none 0 0, .slice none 0 0, .int .i64 0], []⟩ 8 (by kernel_rfl) (by kernel_rfl) (by kernel_rfl) (by kernel_rfl)) ?_
  intro W base args ds gs before hval0 hW hcnd hsz _
  have hval : ∀ (j : Nat) t v, Try.f10.params[j]? = some t → args[j]? = some v → Value.okWide Try.prog W .any base t v := hval0
  have hW' := hW
  obtain ⟨p, q, hA0, hV, rfl, hfz, hnd⟩ := hW
  have hA : DataW.TrodAll enc Try.prog W 0 (fun _ => true) true Try.f10.params.toList args.toList ds p := hA0
  rw [Try.params10] at hA hval
  obtain ⟨v0, vs0, d0, ds0, p0, q0, hargs, rfl, rfl, h0, r0⟩ := trodAll_cons hA
  obtain ⟨v1, vs1, d1, ds1, p1, q1, rfl, rfl, rfl, h1, r1⟩ := trodAll_cons r0
  obtain ⟨v2, vs2, d2, ds2, p2, q2, rfl, rfl, rfl, h2, r2⟩ := trodAll_cons r1
  obtain ⟨v3, vs3, d3, ds3, p3, q3, rfl, rfl, rfl, h3, r3⟩ := trodAll_cons r2
  obtain ⟨v4, vs4, d4, ds4, p4, q4, rfl, rfl, rfl, h4, r4⟩ := trodAll_cons r3
  obtain ⟨v5, vs5, d5, ds5, p5, q5, rfl, rfl, rfl, h5, r5⟩ := trodAll_cons r4
  obtain ⟨rfl, rfl, rfl⟩ := trodAll_nil r5
  obtain rfl : args = #[v0, v1, v2, v3, v4, v5] := by cases args; simp_all
  obtain ⟨rfl, rfl⟩ := trodVars_none hV
  obtain ⟨a0, len0, cap0, rfl⟩ := okWide_slice Try.underlying23 (hval 0 23 v0 rfl rfl)
  have k0 := h0
  have lt0 : ∀ x ∈ p0, x.block < W.heap.size := by obtain ⟨m, hm⟩ := k0; exact DataW.trod_lt m _ _ _ hm
  obtain ⟨z0, w0, s0⟩ : ∃ zs, IsRow .i64 W a0 len0 cap0 zs ∧ len0 ≤ 17592186044416 := by
    obtain ⟨fuel, hf⟩ := h0
    rcases open_ints Try.underlying23 Try.underlying3 (by kernel_rfl) hf with ⟨hcs, _⟩ | ⟨x, l, c, zs, hcs, _, hl, hm, hz, hxe, hcell, hwz⟩
    · simp [Value.cells] at hcs
      obtain ⟨rfl, rfl, rfl⟩ := hcs
      exact ⟨[], .inl ⟨rfl, rfl, rfl, rfl⟩, by omega⟩
    · simp [Value.cells] at hcs
      obtain ⟨rfl, rfl, rfl⟩ := hcs
      refine ⟨zs, .inr ⟨_, rfl, hl, hm, by simpa using hz, hcell, hwz⟩, ?_⟩
      have hde : d0 = .slice (lits .i64 (zs.take len0)) (lits .i64 (zs.drop len0)) := congrArg Prod.fst hxe
      have hs := sized_slice hsz (j := 0) (t := 23) (e := 3) (elems := lits .i64 (zs.take len0)) (spare := lits .i64 (zs.drop len0)) (by kernel_rfl) (by rw [← hde]; rfl) Try.underlying23
      rw [show Try.checked.prog.bytesOf 3 = 8 from by kernel_rfl] at hs
      have h9 : (lits (H := H) .i64 (zs.take len0)).length + (lits (H := H) .i64 (zs.drop len0)).length = zs.length := by
        unfold lits
        rw [List.length_map, List.length_map, List.length_take, List.length_drop]
        simp at hz; omega
      rw [h9] at hs
      have h8 : zs.length = cap0 := by simpa using hz
      unfold reachBytes at hs
      omega
  obtain ⟨a1, rfl, rfl, rfl, w1⟩ := open_int Try.underlying3 (hval 1 3 v1 rfl rfl) h1
  obtain ⟨a2, rfl, rfl, rfl, w2⟩ := open_int Try.underlying3 (hval 2 3 v2 rfl rfl) h2
  obtain ⟨a3, len3, cap3, rfl⟩ := okWide_slice Try.underlying23 (hval 3 23 v3 rfl rfl)
  have k3 := h3
  have lt3 : ∀ x ∈ p3, x.block < W.heap.size := by obtain ⟨m, hm⟩ := k3; exact DataW.trod_lt m _ _ _ hm
  obtain ⟨z3, w3, s3⟩ : ∃ zs, IsRow .i64 W a3 len3 cap3 zs ∧ len3 ≤ 17592186044416 := by
    obtain ⟨fuel, hf⟩ := h3
    rcases open_ints Try.underlying23 Try.underlying3 (by kernel_rfl) hf with ⟨hcs, _⟩ | ⟨x, l, c, zs, hcs, _, hl, hm, hz, hxe, hcell, hwz⟩
    · simp [Value.cells] at hcs
      obtain ⟨rfl, rfl, rfl⟩ := hcs
      exact ⟨[], .inl ⟨rfl, rfl, rfl, rfl⟩, by omega⟩
    · simp [Value.cells] at hcs
      obtain ⟨rfl, rfl, rfl⟩ := hcs
      refine ⟨zs, .inr ⟨_, rfl, hl, hm, by simpa using hz, hcell, hwz⟩, ?_⟩
      have hde : d3 = .slice (lits .i64 (zs.take len3)) (lits .i64 (zs.drop len3)) := congrArg Prod.fst hxe
      have hs := sized_slice hsz (j := 3) (t := 23) (e := 3) (elems := lits .i64 (zs.take len3)) (spare := lits .i64 (zs.drop len3)) (by kernel_rfl) (by rw [← hde]; rfl) Try.underlying23
      rw [show Try.checked.prog.bytesOf 3 = 8 from by kernel_rfl] at hs
      have h9 : (lits (H := H) .i64 (zs.take len3)).length + (lits (H := H) .i64 (zs.drop len3)).length = zs.length := by
        unfold lits
        rw [List.length_map, List.length_map, List.length_take, List.length_drop]
        simp at hz; omega
      rw [h9] at hs
      have h8 : zs.length = cap3 := by simpa using hz
      unfold reachBytes at hs
      omega
  obtain ⟨a4, len4, cap4, rfl⟩ := okWide_slice Try.underlying23 (hval 4 23 v4 rfl rfl)
  have k4 := h4
  have lt4 : ∀ x ∈ p4, x.block < W.heap.size := by obtain ⟨m, hm⟩ := k4; exact DataW.trod_lt m _ _ _ hm
  obtain ⟨z4, w4, s4⟩ : ∃ zs, IsRow .i64 W a4 len4 cap4 zs ∧ len4 ≤ 17592186044416 := by
    obtain ⟨fuel, hf⟩ := h4
    rcases open_ints Try.underlying23 Try.underlying3 (by kernel_rfl) hf with ⟨hcs, _⟩ | ⟨x, l, c, zs, hcs, _, hl, hm, hz, hxe, hcell, hwz⟩
    · simp [Value.cells] at hcs
      obtain ⟨rfl, rfl, rfl⟩ := hcs
      exact ⟨[], .inl ⟨rfl, rfl, rfl, rfl⟩, by omega⟩
    · simp [Value.cells] at hcs
      obtain ⟨rfl, rfl, rfl⟩ := hcs
      refine ⟨zs, .inr ⟨_, rfl, hl, hm, by simpa using hz, hcell, hwz⟩, ?_⟩
      have hde : d4 = .slice (lits .i64 (zs.take len4)) (lits .i64 (zs.drop len4)) := congrArg Prod.fst hxe
      have hs := sized_slice hsz (j := 4) (t := 23) (e := 3) (elems := lits .i64 (zs.take len4)) (spare := lits .i64 (zs.drop len4)) (by kernel_rfl) (by rw [← hde]; rfl) Try.underlying23
      rw [show Try.checked.prog.bytesOf 3 = 8 from by kernel_rfl] at hs
      have h9 : (lits (H := H) .i64 (zs.take len4)).length + (lits (H := H) .i64 (zs.drop len4)).length = zs.length := by
        unfold lits
        rw [List.length_map, List.length_map, List.length_take, List.length_drop]
        simp at hz; omega
      rw [h9] at hs
      have h8 : zs.length = cap4 := by simpa using hz
      unfold reachBytes at hs
      omega
  obtain ⟨a5, rfl, rfl, rfl, w5⟩ := open_int Try.underlying3 (hval 5 3 v5 rfl rfl) h5
  clear hA0 hval0
  refine (walk a0 len0 cap0 z0 a1 a2 a3 len3 cap3 z3 a4 len4 cap4 z4 a5 W w0 s0 w1 w2 w3 s3 w4 s4 w5).mono fun e W' ⟨he, bel⟩ => ?_
  subst he
  exact ⟨_, rfl, _, _, _, [], _, [], hW', trodAll_mk1 (shut_bool Try.underlying4 _), (trodAll_cons_mk (Below.trod laidOut (by kernel_rfl) (of_decide_eq_true (by kernel_rfl)) k0 bel lt0) (trodAll_cons_mk (shut_int Try.underlying3 w1) (trodAll_cons_mk (shut_int Try.underlying3 w2) (trodAll_cons_mk (Below.trod laidOut (by kernel_rfl) (of_decide_eq_true (by kernel_rfl)) k3 bel lt3) (trodAll_cons_mk (Below.trod laidOut (by kernel_rfl) (of_decide_eq_true (by kernel_rfl)) k4 bel lt4) (trodAll_cons_mk (shut_int Try.underlying3 w5) trodAll_mk0)))))), rfl, bel.frame _, fun h => by cases h⟩

theorem over : Rows.topGroupRow.holds Try.pinned (OpenSpec.ofChange Rows.topGroupSpec) :=
  OpenClaim.holds_of_wide 10 Try.f10 rfl rfl rfl rfl rfl rfl rfl ⟨rfl, rfl, rfl, rfl, rfl⟩ rfl rfl rfl rfl rfl (by kernel_rfl) Try.func10 (by kernel_rfl)
    (of_decide_eq_true (by kernel_rfl)) (by unfold Func.isWrapper; first | (rw [if_pos (by decide +kernel)]; kernel_rfl) | (rw [if_neg (by decide +kernel)]; exact ⟨rfl, rfl⟩))
    (fun os started H enc _ => lifted os started H enc)

/-- ████ THE STATEMENT ████ -/
theorem proved : Rows.TopGroupSaid := over
#print axioms proved
end Go.Proofs.Ytimfoggjocajiaa.topGroup
