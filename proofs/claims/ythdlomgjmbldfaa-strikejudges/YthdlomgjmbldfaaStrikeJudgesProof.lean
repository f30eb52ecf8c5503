/-
  'campanile/campanilelaw.StrikeJudges' returns true at every input, with no condition: strike.Judge and strike.Check say of any blows just what the document's answer says, bit by bit.
-/
import Derived.Test.YthdlomgjmbldfaaRows
import Derived.Test.YthdlomgjmbldfaaJ6
import Derived.WalkKit
import Derived.ProofKit
import Derived.OpenShut
import Derived.ChangeOld
import Derived.Below
import Derived.Deep.SlicePairs
namespace Go.Proofs.Ythdlomgjmbldfaa.strikeJudges
open Go.ChangeShapes Go.WideShapes Go.ChangeAt Go.RowKit
set_option linter.unusedVariables false

theorem own : ownKnob Try.prog.godebug = none := by kernel_rfl
theorem laidOut : laidOutB Try.prog = true := by kernel_rfl

theorem trod_float {H : Type} {enc : TypeId × Value → H} {P : Program} {w : World} {base : Nat} {spare : Nat → Bool} {held : Bool} {fuel : Nat} {t : TypeId} {cs : List Value} {x : DataW H × List MemPlace} {k : FloatKind} (ht : P.underlying t = some (.float k)) (h : DataW.trod enc P w base spare held fuel t cs = some x) : ∃ n, cs = [.float k n] ∧ (Lit.float k n).wf = true := by
  cases fuel with
  | zero => simp [DataW.trod] at h
  | succ n =>
    unfold DataW.trod at h
    rw [ht] at h
    split at h <;> simp_all

theorem blow_under : Try.prog.underlying 35 = some (.struct (Try.prog.fieldsOf 35)) := by kernel_rfl

set_option maxRecDepth 100000 in
theorem lifted (os : Os) (started : os.Started) (H : Type) (enc : TypeId × Value → H) :
    ReturnsInHanded {} Try.checked os 3 .any (Rows.strikeJudgesSpec.pre6 enc Try.prog Try.f3 Rows.strikeJudgesRow.domain false) (Rows.strikeJudgesSpec.post enc Try.prog Try.f3 false true false false) := by
  refine returnsInHanded_of_change (C := Try.checked) own started (by kernel_rfl) Try.func3
    (ChangeSpec.witness6 (enc := enc) (C := Try.checked) false ⟨#[], #[.int .i64 0, .slice none 0 0], []⟩ 8 (by kernel_rfl) (by kernel_rfl) (by kernel_rfl) (by kernel_rfl)) ?_
  intro W base args ds gs before hval0 hW hcnd _
  have hval : ∀ (j : Nat) t v, Try.f3.params[j]? = some t → args[j]? = some v → Value.okWide Try.prog W .any base t v := hval0
  have hW' := hW
  obtain ⟨p, q, hA0, hV, rfl, hfz, hnd⟩ := hW
  have hA : DataW.TrodAll enc Try.prog W 0 (fun _ => true) true Try.f3.params.toList args.toList ds p := hA0
  rw [Try.params3] at hA hval
  obtain ⟨v0, vs0, d0, ds0, p0, q0, hargs, rfl, rfl, h0, r0⟩ := trodAll_cons hA
  obtain ⟨v1, vs1, d1, ds1, p1, q1, rfl, rfl, rfl, h1, r1⟩ := trodAll_cons r0
  obtain ⟨rfl, rfl, rfl⟩ := trodAll_nil r1
  obtain rfl : args = #[v0, v1] := by cases args; simp_all
  obtain ⟨rfl, rfl⟩ := trodVars_none hV
  obtain ⟨a0, rfl, rfl, rfl, w0⟩ := open_int Try.underlying3 (hval 0 3 v0 rfl rfl) h0
  obtain ⟨a1, len1, cap1, rfl⟩ := okWide_slice Try.underlying22 (hval 1 22 v1 rfl rfl)
  have k1 := h1
  have lt1 : ∀ x ∈ p1, x.block < W.heap.size := by obtain ⟨m, hm⟩ := k1; exact DataW.trod_lt m _ _ _ hm
  obtain ⟨L, hL, hT⟩ : ∃ L, Blows W (.slice a1 len1 cap1) L ∧ ∀ k, k < L.length → timeAt L k < 18446744073709551616 := by
    obtain ⟨fuel, hf⟩ := h1
    rcases Go.Deep.open_slice_pairs Try.underlying22 Try.underlying35 (by kernel_rfl) (by kernel_rfl) (by kernel_rfl) (by kernel_rfl) (by kernel_rfl) hf with ⟨hcs, _⟩ | ⟨x, l, c, m, nn, V0, V1, D0, D1, P0, P1, hcs, _, hl, hm, hmm, _, hrow⟩
    · simp [Value.cells] at hcs
      obtain ⟨rfl, rfl, rfl⟩ := hcs
      exact ⟨[], Or.inl ⟨rfl, _, _, rfl⟩, fun k hk => by simp at hk⟩
    · simp [Value.cells] at hcs
      obtain ⟨rfl, rfl, rfl⟩ := hcs
      have hlm : len1 ≤ m := by rw [hmm]; split <;> omega
      have hv : ∀ i, i < m → ∃ q : Int × Nat, V0 i = .int .i64 q.1 ∧ V1 i = .float .f64 q.2 ∧ q.2 < 18446744073709551616 := fun i hi => by
        obtain ⟨_, _, t0, t1⟩ := hrow i hi
        obtain ⟨y, e0, _, _⟩ := DataW.trod_int Try.underlying3 t0
        obtain ⟨z, e1, hz⟩ := trod_float Try.underlying23 t1
        refine ⟨(y, z), by simpa using e0, by simpa using e1, ?_⟩
        simpa [Lit.wf] using hz
      obtain ⟨f, hf9⟩ := Go.Deep.choose_lt hv
      have hget : ∀ k, k < len1 → ((List.range len1).map f).getD k (0, 0) = f k := fun k hk => by simp [List.getD, hk]
      refine ⟨(List.range len1).map f, ?_, fun k hk => ?_⟩
      · rcases Nat.eq_zero_or_pos len1 with e | e
        · subst e; exact Or.inl ⟨rfl, _, _, rfl⟩
        · obtain ⟨b, off, rfl⟩ : ∃ b off, x = ⟨b, off, none⟩ := by
            have := (hrow 0 (by omega)).1
            rw [Nat.zero_mul] at this
            obtain ⟨b, off, spot⟩ := x
            have hspot : spot = none := by simpa [Addr.add] using World.cell?_spot this
            subst hspot
            exact ⟨b, off, rfl⟩
          refine Or.inr ⟨b, off, cap1, by rw [List.length_map, List.length_range], by rw [List.length_map, List.length_range]; exact e, by rw [List.length_map, List.length_range]; exact hl, by unfold maxLen at hm; omega, ?_, fun j hj => ?_⟩
          · have := (hrow 0 (by omega)).1
            exact World.block_lt_of_cell? W _ this
          · rw [List.length_map, List.length_range] at hj
            obtain ⟨c0, c1, _, _⟩ := hrow j (by omega)
            obtain ⟨e0, e1, _⟩ := hf9 j (by omega)
            rw [Addr.add_lit] at c0 c1
            rw [hget j hj, ← e0, ← e1]
            exact ⟨c0, by rw [← c1]; congr 1⟩
      · rw [List.length_map, List.length_range] at hk
        unfold timeAt
        rw [hget k hk]
        exact (hf9 k (by omega)).2.2
  clear hA0 hval0
  have b0 := bounds_i64 w0
  refine (strikeJudges_walk a0 _ L W ⟨b0.1, b0.2⟩ hL hT).mono fun e W' ⟨he, bel⟩ => ?_
  subst he
  exact ⟨_, rfl, _, _, _, [], _, [], hW', trodAll_mk1 (shut_bool Try.underlying4 _), (trodAll_cons_mk (shut_int Try.underlying3 w0) (trodAll_cons_mk (Below.trod laidOut (by kernel_rfl) (of_decide_eq_true (by kernel_rfl)) k1 bel lt1) trodAll_mk0)), rfl, bel.frame _, fun h => by cases h⟩

theorem over : Rows.strikeJudgesRow.holds Try.pinned (OpenSpec.ofChange Rows.strikeJudgesSpec) :=
  OpenClaim.holds_of_wide 3 Try.f3 rfl rfl rfl rfl rfl rfl rfl ⟨rfl, rfl, rfl, rfl, rfl⟩ rfl rfl rfl rfl rfl (by kernel_rfl) Try.func3 (by kernel_rfl)
    (of_decide_eq_true (by kernel_rfl)) (by unfold Func.isWrapper; first | (rw [if_pos (by decide +kernel)]; kernel_rfl) | (rw [if_neg (by decide +kernel)]; exact ⟨rfl, rfl⟩))
    (fun os started H enc _ => lifted os started H enc)

/-- ████ THE STATEMENT ████ -/
theorem proved : Rows.StrikeJudgesSaid := over
#print axioms proved
end Go.Proofs.Ythdlomgjmbldfaa.strikeJudges
