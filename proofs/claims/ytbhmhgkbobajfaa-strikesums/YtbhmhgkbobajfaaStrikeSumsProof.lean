/-
  'campanile/campanilelaw.StrikeSums' returns true at every input, with no condition: strike.Sum and strike.Rhythm say of any row of numbers just what the document's answer says, bit by bit.
-/
import Derived.Test.YtbhmhgkbobajfaaRows
import Derived.Test.YtbhmhgkbobajfaaJ4
import Derived.WalkKit
import Derived.ProofKit
import Derived.OpenShut
import Derived.ChangeOld
import Derived.Below
import Derived.Deep.Slices
import Derived.Deep.SlicePairs
namespace Go.Proofs.Ytbhmhgkbobajfaa.strikeSums
open Go.ChangeShapes Go.WideShapes Go.ChangeAt Go.RowKit
set_option linter.unusedVariables false

theorem own : ownKnob Try.prog.godebug = none := by kernel_rfl
theorem laidOut : laidOutB Try.prog = true := by kernel_rfl

theorem trod_float {H : Type} {enc : TypeId × Value → H} {P : Program} {w : World} {base : Nat} {spare : Nat → Bool} {held : Bool} {fuel : Nat} {t : TypeId} {cs : List Value} {x : DataW H × List MemPlace} {k : FloatKind} (ht : P.underlying t = some (.float k)) (h : DataW.trod enc P w base spare held fuel t cs = some x) : ∃ n, cs = [.float k n] ∧ (Lit.float k n).wf = true := by
  cases fuel with
  | zero => simp [DataW.trod] at h
  | succ n =>
    unfold DataW.trod at h
    rw [ht] at h
    split at h <;> simp_all

set_option maxRecDepth 100000 in
theorem lifted (os : Os) (started : os.Started) (H : Type) (enc : TypeId × Value → H) :
    ReturnsInHanded {} Try.checked os 3 .any (Rows.strikeSumsSpec.pre6 enc Try.prog Try.f3 Rows.strikeSumsRow.domain false) (Rows.strikeSumsSpec.post enc Try.prog Try.f3 false true false false) := by
  refine returnsInHanded_of_change (C := Try.checked) own started (by kernel_rfl) Try.func3
    (ChangeSpec.witness6 (enc := enc) (C := Try.checked) false ⟨#[], #[.slice none 0 0], []⟩ 8 (by kernel_rfl) (by kernel_rfl) (by kernel_rfl) (by kernel_rfl)) ?_
  intro W base args ds gs before hval0 hW hcnd _
  have hval : ∀ (j : Nat) t v, Try.f3.params[j]? = some t → args[j]? = some v → Value.okWide Try.prog W .any base t v := hval0
  have hW' := hW
  obtain ⟨p, q, hA0, hV, rfl, hfz, hnd⟩ := hW
  have hA : DataW.TrodAll enc Try.prog W 0 (fun _ => true) true Try.f3.params.toList args.toList ds p := hA0
  rw [Try.params3] at hA hval
  obtain ⟨v0, vs0, d0, ds0, p0, q0, hargs, rfl, rfl, h0, r0⟩ := trodAll_cons hA
  obtain ⟨rfl, rfl, rfl⟩ := trodAll_nil r0
  obtain rfl : args = #[v0] := by cases args; simp_all
  obtain ⟨rfl, rfl⟩ := trodVars_none hV
  obtain ⟨a1, len1, cap1, rfl⟩ := okWide_slice Try.underlying22 (hval 0 22 v0 rfl rfl)
  have k1 := h0
  have lt1 : ∀ x ∈ p0, x.block < W.heap.size := by obtain ⟨m, hm⟩ := k1; exact DataW.trod_lt m _ _ _ hm
  obtain ⟨L, hL, hT⟩ : ∃ L, Fls W (.slice a1 len1 cap1) L ∧ ∀ x, x ∈ L → x < 18446744073709551616 := by
    obtain ⟨fuel, hf⟩ := h0
    rcases Go.Deep.open_slice1 Try.underlying22 (by kernel_rfl) hf with ⟨hcs, _⟩ | ⟨x, l, c, m, nn, V0, D0, P0, hcs, _, hl, hm, hmm, _, hrow⟩
    · simp [Value.cells] at hcs
      obtain ⟨rfl, rfl, rfl⟩ := hcs
      exact ⟨[], Or.inl ⟨rfl, _, _, rfl⟩, fun k hk => by simp at hk⟩
    · simp [Value.cells] at hcs
      obtain ⟨rfl, rfl, rfl⟩ := hcs
      have hlm : len1 ≤ m := by rw [hmm]; split <;> omega
      have hv : ∀ i, i < m → ∃ q : Nat, V0 i = .float .f64 q ∧ q < 18446744073709551616 := fun i hi => by
        obtain ⟨_, t1⟩ := hrow i hi
        obtain ⟨z, e1, hz⟩ := trod_float Try.underlying23 t1
        refine ⟨z, by simpa using e1, ?_⟩
        simpa [Lit.wf] using hz
      obtain ⟨f, hf9⟩ := Go.Deep.choose_lt hv
      have hget : ∀ k, k < len1 → ((List.range len1).map f).getD k 0 = f k := fun k hk => by simp [List.getD, hk]
      refine ⟨(List.range len1).map f, ?_, fun y hy => ?_⟩
      · rcases Nat.eq_zero_or_pos len1 with e | e
        · subst e; exact Or.inl ⟨rfl, _, _, rfl⟩
        · obtain ⟨b, off, rfl⟩ : ∃ b off, x = ⟨b, off, none⟩ := by
            have := (hrow 0 (by omega)).1
            obtain ⟨b, off, spot⟩ := x
            have hspot : spot = none := by simpa [Addr.add] using World.cell?_spot this
            subst hspot
            exact ⟨b, off, rfl⟩
          refine Or.inr ⟨b, off, cap1, by rw [List.length_map, List.length_range], by rw [List.length_map, List.length_range]; exact e, by rw [List.length_map, List.length_range]; exact hl, by unfold maxLen at hm; omega, ?_, fun j hj => ?_⟩
          · have := (hrow 0 (by omega)).1
            exact World.block_lt_of_cell? W _ this
          · rw [List.length_map, List.length_range] at hj
            obtain ⟨c0, _⟩ := hrow j (by omega)
            obtain ⟨e0, _⟩ := hf9 j (by omega)
            rw [Addr.add_lit] at c0
            rw [hget j hj, ← e0]
            exact c0
      · rw [List.mem_map] at hy
        obtain ⟨k, hk, rfl⟩ := hy
        rw [List.mem_range] at hk
        exact (hf9 k (by omega)).2
  clear hA0 hval0
  refine (strikeSums_walk _ L W hL hT).mono fun e W' ⟨he, bel⟩ => ?_
  subst he
  exact ⟨_, rfl, _, _, _, [], _, [], hW', trodAll_mk1 (shut_bool Try.underlying4 _), (trodAll_cons_mk (Below.trod laidOut (by kernel_rfl) (of_decide_eq_true (by kernel_rfl)) k1 bel lt1) trodAll_mk0), rfl, bel.frame _, fun h => by cases h⟩

theorem over : Rows.strikeSumsRow.holds Try.pinned (OpenSpec.ofChange Rows.strikeSumsSpec) :=
  OpenClaim.holds_of_wide 3 Try.f3 rfl rfl rfl rfl rfl rfl rfl ⟨rfl, rfl, rfl, rfl, rfl⟩ rfl rfl rfl rfl rfl (by kernel_rfl) Try.func3 (by kernel_rfl)
    (of_decide_eq_true (by kernel_rfl)) (by unfold Func.isWrapper; first | (rw [if_pos (by decide +kernel)]; kernel_rfl) | (rw [if_neg (by decide +kernel)]; exact ⟨rfl, rfl⟩))
    (fun os started H enc _ => lifted os started H enc)

/-- ████ THE STATEMENT ████ -/
theorem proved : Rows.StrikeSumsSaid := over
#print axioms proved
end Go.Proofs.Ytbhmhgkbobajfaa.strikeSums
