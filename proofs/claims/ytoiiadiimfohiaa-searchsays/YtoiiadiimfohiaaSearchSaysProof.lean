/-
  'campanile/campanilelaw.SearchSays' returns true at every input whose texts and lists hold together at most 1048576 values and letters: of any method, calls and numbers package search's Touches finds just what the document's answer finds, looking at each beginning as a whole, refusals too (searches of up to five leads and three calls). Nothing that was there before the call is changed.
-/
import Derived.Test.YtoiiadiimfohiaaRows
import Derived.Test.YtoiiadiimfohiaaJ17
import Derived.Test.YtoiiadiimfohiaaJ12
import Derived.JoinedCond
import Derived.WalkKit
import Derived.ProofKit
import Derived.OpenShut
import Derived.ChangeOld
import Derived.Below
import Derived.Deep.SlicePairs
import Derived.Deep.Strs
namespace Go.Proofs.Ytoiiadiimfohiaa.searchSays
open Go.ChangeShapes Go.WideShapes Go.ChangeAt Go.RowKit
set_option linter.unusedVariables false

theorem own : ownKnob Try.prog.godebug = none := by kernel_rfl
theorem laidOut : laidOutB Try.prog = true := by kernel_rfl

theorem bulk_pos {H : Type} (d : DataW H) : 1 ≤ Rows.uptoBulk d := by
  cases d with
  | lit l => cases l <;> simp [Rows.uptoBulk]
  | _ => simp [Rows.uptoBulk]

theorem bulk_len {H : Type} : ∀ (l : List (DataW H)), l.length ≤ Rows.uptoBulkAll l
  | [] => Nat.zero_le _
  | x :: l => by
    rw [Rows.uptoBulkAll, List.length_cons]
    have := bulk_len l
    have := bulk_pos x
    omega

theorem bulk_slice {H : Type} (a b : List (DataW H)) : Rows.uptoBulk (.slice a b) = Rows.uptoBulkAll a + Rows.uptoBulkAll b + 1 := by rw [Rows.uptoBulk]

theorem bulk_agg {H : Type} (a : List (DataW H)) : Rows.uptoBulk (.agg a) = Rows.uptoBulkAll a + 1 := by rw [Rows.uptoBulk]

theorem bulk_str {H : Type} (s : List UInt8) : Rows.uptoBulk (.lit (.string s) : DataW H) = s.length + 1 := by rw [Rows.uptoBulk]

/-- A list of lists that came in. -/
theorem rows_in {H : Type} {enc : TypeId × Value → H} {w : World} {base fuel : Nat} {v : Value} {x : DataW H × List MemPlace} (h : DataW.trod enc Try.prog w base (fun _ => true) true fuel 22 [v] = some x) : ∃ xss, IntsAll w v xss ∧ (xss.length ≤ Rows.uptoBulk x.1) := by
  rcases Go.Deep.open_int_rows Try.underlying22 Try.underlying26 Try.underlying3 (by kernel_rfl) (by kernel_rfl) h with ⟨hcs, _⟩ | ⟨a, l, c, A, Le, C, Z, hcs, _, hl, hm, hxe, hrow⟩
  · obtain rfl : v = .slice none 0 0 := by simpa using hcs
    exact ⟨[], ⟨[], Or.inl ⟨rfl, _, _, rfl⟩, rfl, fun j hj => by simp at hj⟩, by simp⟩
  · obtain rfl : v = .slice (some a) l c := by simpa using hcs
    obtain ⟨xss, hxss⟩ := rows_all hl hm hrow
    refine ⟨xss, hxss, ?_⟩
    obtain ⟨_, _, e⟩ := hxss.len
    injection e with _ e2 _
    rw [hxe, bulk_slice]
    have hbl := bulk_len (H := H) ((List.range l).map fun r => Go.Deep.intRow .i64 (A r) (Le r) (Z r))
    rw [List.length_map, List.length_range] at hbl
    omega

/-- Calls that came in. -/
theorem calls_in {H : Type} {enc : TypeId × Value → H} {w : World} {base fuel : Nat} {p : Option Addr} {len cap : Nat} {x : DataW H × List MemPlace} (h : DataW.trod enc Try.prog w base (fun _ => true) true fuel 25 [.slice p len cap] = some x) : ∃ cs, CallsIn w (.slice p len cap) cs := by
  rcases Go.Deep.open_slice_pairs Try.underlying25 Try.underlying47 (by kernel_rfl) (by kernel_rfl) (by kernel_rfl) (by kernel_rfl) (by kernel_rfl) h with ⟨hcs, _⟩ | ⟨a, l, c, m, nn, V0, V1, D0, D1, P0, P1, hcs, _, hl, hm, hmm, _, hrow⟩
  · simp at hcs
    obtain ⟨rfl, rfl, rfl⟩ := hcs
    exact ⟨[], Or.inl ⟨rfl, _, _, rfl⟩⟩
  · simp at hcs
    obtain ⟨rfl, rfl, rfl⟩ := hcs
    have hlm : len ≤ m := by rw [hmm]; split <;> omega
    have hv : ∀ i, i < m → ∃ q : Int × List (List Int), V0 i = .int .i32 q.1 ∧ IntsAll w (V1 i) q.2 := fun i hi => by
      obtain ⟨_, _, t0, t1⟩ := hrow i hi
      obtain ⟨y, e0, _, _⟩ := DataW.trod_int Try.underlying21 t0
      obtain ⟨z, e1, _⟩ := rows_in t1
      exact ⟨(y, z), by simpa using e0, e1⟩
    obtain ⟨f, hf9⟩ := Go.Deep.choose_lt hv
    have hget : ∀ k, k < len → ((List.range len).map f).getD k (0, []) = f k := fun k hk => by simp [List.getD, hk]
    have hll : ((List.range len).map f).length = len := by rw [List.length_map, List.length_range]
    refine ⟨(List.range len).map f, ?_⟩
    rcases Nat.eq_zero_or_pos len with e | e
    · subst e; exact Or.inl ⟨rfl, _, _, rfl⟩
    · obtain ⟨b, off, rfl⟩ : ∃ b off, a = ⟨b, off, none⟩ := by
        have := (hrow 0 (by omega)).1
        rw [Nat.zero_mul] at this
        obtain ⟨b, off, spot⟩ := a
        have hspot : spot = none := by simpa [Addr.add] using World.cell?_spot this
        subst hspot
        exact ⟨b, off, rfl⟩
      refine Or.inr ⟨by rw [hll]; exact e, b, off, cap, by rw [hll], ?_, by rw [hll]; exact hl, by unfold maxLen at hm; omega, fun j hj => ?_⟩
      · have := (hrow 0 (by omega)).1
        exact World.block_lt_of_cell? w _ this
      · rw [hll] at hj
        obtain ⟨c0, c1, _, _⟩ := hrow j (by omega)
        obtain ⟨e0, e1⟩ := hf9 j (by omega)
        rw [Addr.add_lit] at c0 c1
        rw [hget j hj]
        refine ⟨V1 j, by rw [← e0]; exact c0, by rw [← c1]; congr 1, e1⟩

theorem meth_under : ∃ f0 f1 f2 : Field, Try.prog.underlying 24 = some (.struct #[f0, f1, f2]) ∧ f0.type = 9 ∧ f0.offset = 0 ∧ f1.type = 3 ∧ f1.offset = 1 ∧ f2.type = 22 ∧ f2.offset = 2 := ⟨_, _, _, Try.underlying24, rfl, rfl, rfl, rfl, rfl, rfl⟩

/-- A method that came in. -/
theorem meth_in {H : Type} {enc : TypeId × Value → H} {w : World} {base fuel : Nat} {vs : Array Value} {x : DataW H × List MemPlace} (h : DataW.trod enc Try.prog w base (fun _ => true) true fuel 24 vs.toList = some x) (hb : Rows.uptoBulk x.1 ≤ 1048577) : ∃ (s : ByteArray) (n : Int) (mv : Value) (X : List (List Int)), vs = #[.string s, .int .i64 n, mv] ∧ s.size ≤ 1048576 ∧ I64 n ∧ IntsAll w mv X ∧ X.length ≤ 1048576 := by
  obtain ⟨f0, f1, f2, hu, t0, o0, t1, o1, t2, o2⟩ := meth_under
  obtain ⟨y0, y1, y2, n, hx, hl, h0, h1, h2⟩ := Go.Deep.trod_struct3 hu h
  have hl3 : vs.toList.length = 3 := by rw [hl]; kernel_rfl
  obtain ⟨a, b, c, hvs⟩ : ∃ a b c, vs.toList = [a, b, c] := by
    match vs.toList, hl3 with
    | [a, b, c], _ => exact ⟨a, b, c, rfl⟩
  rw [hvs, o0, t0, show Try.prog.cellsOf 9 = 1 from by kernel_rfl] at h0
  rw [hvs, o1, t1, show Try.prog.cellsOf 3 = 1 from by kernel_rfl] at h1
  rw [hvs, o2, t2, show Try.prog.cellsOf 22 = 1 from by kernel_rfl] at h2
  simp only [List.drop_zero, List.drop_succ_cons, List.take_succ_cons, List.take_zero] at h0 h1 h2
  obtain ⟨s, e0, x0, _⟩ := DataW.trod_string Try.underlying9 h0
  obtain ⟨z, e1, x1, w1⟩ := DataW.trod_int Try.underlying3 h1
  obtain ⟨X, hX, hXl⟩ := rows_in h2
  obtain rfl : a = .string s := by simpa using e0
  obtain rfl : b = .int .i64 z := by simpa using e1
  have bz := bounds_i64 w1
  rw [hx, bulk_agg] at hb
  simp only [Rows.uptoBulkAll] at hb
  rw [x0] at hb
  simp only [bulk_str] at hb
  have e9 : s.data.toList.length = s.size := by rw [Array.length_toList]; rfl
  refine ⟨s, z, c, X, ?_, by omega, ⟨bz.1, bz.2⟩, hX, by omega⟩
  apply Array.ext'
  rw [hvs]

set_option maxRecDepth 100000 in
theorem contract (H : Type) (enc : TypeId × Value → H) (W : World) (base : Nat) (args : Array Value) (ds gs : List (DataW H)) (before : List MemPlace)
    (hval : ∀ (j : Nat) t v, Try.f5.params[j]? = some t → args[j]? = some v → Value.okWide Try.prog W .any base t v)
    (hW : DataW.Whole enc Try.prog Try.f5.params.toList Rows.searchSaysSpec.vars false W args.toList ds gs before) (hk : Rows.uptoSmall H (ds ++ gs) = true) :
    Calls Try.prog 5 args W fun e W' => ∃ v, e = .returned v ∧ Rows.searchSaysSpec.post enc Try.prog Try.f5 false true false false W args v W' := by
  have hW' := hW
  obtain ⟨p, q, hA0, hV, rfl, hfz, hnd⟩ := hW
  have hA : DataW.TrodAll enc Try.prog W 0 (fun _ => true) true Try.f5.params.toList args.toList ds p := hA0
  rw [Try.params5] at hA hval
  obtain ⟨v0, vs0, d0, ds0, p0, q0, hargs, rfl, rfl, h0, r0⟩ := trodAll_cons hA
  obtain ⟨v1, vs1, d1, ds1, p1, q1, rfl, rfl, rfl, h1, r1⟩ := trodAll_cons r0
  obtain ⟨v2, vs2, d2, ds2, p2, q2, rfl, rfl, rfl, h2, r2⟩ := trodAll_cons r1
  obtain ⟨v3, vs3, d3, ds3, p3, q3, rfl, rfl, rfl, h3, r3⟩ := trodAll_cons r2
  obtain ⟨rfl, rfl, rfl⟩ := trodAll_nil r3
  obtain rfl : args = #[v0, v1, v2, v3] := by cases args; simp_all
  obtain ⟨rfl, rfl⟩ := trodVars_none hV
  have hkk := of_decide_eq_true hk
  simp only [List.append_nil, Rows.uptoBulkAll] at hkk
  have k0 := h0
  have lt0 : ∀ x ∈ p0, x.block < W.heap.size := by obtain ⟨m, hm⟩ := k0; exact DataW.trod_lt m _ _ _ hm
  obtain ⟨cv0, rfl, _⟩ := okWide_struct (fs := Try.prog.fieldsOf 24) (by kernel_rfl) (hval 0 24 v0 rfl rfl)
  obtain ⟨s0, n0, mv0, X0, rfl, hs0, hn0, hX0, hXl0⟩ : ∃ (s : ByteArray) (n : Int) (mv : Value) (X : List (List Int)), cv0 = #[.string s, .int .i64 n, mv] ∧ s.size ≤ 1048576 ∧ I64 n ∧ IntsAll W mv X ∧ X.length ≤ 1048576 := by
    obtain ⟨fuel, hf⟩ := h0
    exact meth_in hf (by show Rows.uptoBulk d0 ≤ _; omega)
  have k1 := h1
  have lt1 : ∀ x ∈ p1, x.block < W.heap.size := by obtain ⟨m, hm⟩ := k1; exact DataW.trod_lt m _ _ _ hm
  obtain ⟨a1, len1, cap1, rfl⟩ := okWide_slice Try.underlying25 (hval 1 25 v1 rfl rfl)
  obtain ⟨cs1, hcs1⟩ : ∃ cs, CallsIn W (.slice a1 len1 cap1) cs := by
    obtain ⟨fuel, hf⟩ := h1
    exact calls_in hf
  obtain ⟨a2, rfl, rfl, rfl, w2⟩ := open_int Try.underlying3 (hval 2 3 v2 rfl rfl) h2
  have b2 := bounds_i64 w2
  obtain ⟨a3, rfl, rfl, rfl, w3⟩ := open_int Try.underlying3 (hval 3 3 v3 rfl rfl) h3
  have b3 := bounds_i64 w3
  clear hA0
  refine (searchSays_walk s0 n0 mv0 X0 _ cs1 a2 a3 W hs0 hX0 hcs1 ⟨b2.1, b2.2⟩ ⟨b3.1, b3.2⟩).mono fun e W' ⟨he, bel⟩ => ?_
  subst he
  exact ⟨_, rfl, _, _, _, [], _, [], hW', trodAll_mk1 (shut_bool Try.underlying4 _), (trodAll_cons_mk (Below.trod laidOut (by kernel_rfl) (of_decide_eq_true (by kernel_rfl)) k0 bel lt0) (trodAll_cons_mk (Below.trod laidOut (by kernel_rfl) (of_decide_eq_true (by kernel_rfl)) k1 bel lt1) (trodAll_cons_mk (shut_int Try.underlying3 w2) (trodAll_cons_mk (shut_int Try.underlying3 w3) trodAll_mk0)))), rfl, bel.frame _, fun h => by cases h⟩

set_option maxRecDepth 100000 in
theorem lifted (os : Os) (started : os.Started) (H : Type) (enc : TypeId × Value → H) (F : Stop.Interp) :
    ReturnsInHanded {} Try.checked os 5 .any ((Rows.OpenSpec.upto Rows.searchSaysSpec).pre6 enc Try.prog Try.f5 Rows.searchSaysUptoRow.domain false) (((Rows.OpenSpec.upto Rows.searchSaysSpec).at F).post enc Try.prog Try.f5 false true false false) := by
  refine returnsInHanded_of_cond (C := Try.checked) (s := Rows.OpenSpec.upto Rows.searchSaysSpec) (k := Rows.uptoSmall) rfl own started (by kernel_rfl) Try.func5
    (OpenSpec.witness (enc := enc) (C := Try.checked) (s := Rows.OpenSpec.upto Rows.searchSaysSpec) (k := Rows.uptoSmall) rfl false ⟨#[], #[.agg #[.string ⟨#[]⟩, .int .i64 0, .slice none 0 0], .slice none 0 0, .int .i64 0, .int .i64 0], []⟩ 8 (by kernel_rfl) (by kernel_rfl) (by kernel_rfl)
      (x := ([.agg [.lit (.string []), .lit (.int .i64 0), .nil], .nil, .lit (.int .i64 0), .lit (.int .i64 0)], [], [])) (by kernel_rfl) rfl (by kernel_rfl)) ?_
  intro W base args ds gs before hval hW _ hk _
  exact contract H enc W base args ds gs before hval hW hk

theorem over : Rows.searchSaysUptoRow.holds Try.pinned (Rows.OpenSpec.upto Rows.searchSaysSpec) :=
  OpenClaim.holds_of_cond 5 Try.f5 rfl rfl rfl rfl rfl rfl rfl ⟨rfl, rfl, rfl, rfl, rfl⟩ rfl rfl rfl rfl rfl (by kernel_rfl) Try.func5 (by kernel_rfl)
    (of_decide_eq_true (by kernel_rfl)) (by unfold Func.isWrapper; first | (rw [if_pos (by decide +kernel)]; kernel_rfl) | (rw [if_neg (by decide +kernel)]; exact ⟨rfl, rfl⟩))
    (fun os started H enc _ F => lifted os started H enc F)

/-- ████ THE STATEMENT ████ -/
theorem proved : Rows.SearchSaysUptoSaid := over
#print axioms proved
end Go.Proofs.Ytoiiadiimfohiaa.searchSays
