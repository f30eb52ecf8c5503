/- Joined: TtL, SbH, SbP, SbQ, SbR, SrtA, XtD. -/
import Derived.Test.YtoiiadiimfohiaaJ9
import Derived.Test.YtoiiadiimfohiaaJ4
import Derived.Laws.ResultCell
import Derived.Test.YtoiiadiimfohiaaJ10
import Derived.Test.YtoiiadiimfohiaaJ2
import Derived.Test.YtoiiadiimfohiaaJ8
import Derived.Test.YtoiiadiimfohiaaJ6
import Derived.Test.YtoiiadiimfohiaaJ3
import Derived.BigQuiet
/- Contract: truth.Prove, over what call.Rows tells. -/
namespace Go.Proofs.Ytoiiadiimfohiaa
open Go.RowKit

def ProvePost (L : Nat) (T : List (List Int)) (w : World) (e : Ending) (w' : World) : Prop :=
  ∃ (r t : Bool) (i j : Int), e = .returned (.tuple #[.agg #[.int .i64 L, .bool r, .bool t, .int .i64 i, .int .i64 j], .int .i64 0]) ∧ (t = true ↔ (T.take L).Nodup) ∧ r = decide (T.getD L [] = T.getD 0 []) ∧ Below w.heap.size w w'

theorem cells5 {w1 : World} {B : Nat} {a b c d e : Value} {t : TypeId} (h : w1.heap[B]? = some (.cells #[a, b, c, d, e] t)) :
    w1.cell? ⟨B, 0, none⟩ = some a ∧ w1.cell? ⟨B, 1, none⟩ = some b ∧ w1.cell? ⟨B, 2, none⟩ = some c ∧ w1.cell? ⟨B, 3, none⟩ = some d ∧ w1.cell? ⟨B, 4, none⟩ = some e ∧ w1.frozen? ⟨B, 0, none⟩ = false ∧ w1.frozen? ⟨B, 1, none⟩ = false ∧ w1.frozen? ⟨B, 2, none⟩ = false ∧ w1.frozen? ⟨B, 3, none⟩ = false ∧ w1.frozen? ⟨B, 4, none⟩ = false := by
  simp [World.cell?, World.frozen?, h]

theorem ret_row_tmp {fn : Func} {R : Ending → World → Prop} {a : Act} {w : World} {p u : Tmp} {b : Nat} {cs : Array Value} {t : Value} (h : fn.results = #[.cell p 30, .tmp u]) (hp : a.tmps.getD p undef = .pointer (some ⟨b, 0, none⟩)) (hu : a.tmps.getD u undef = t) (hg : w.heap[b]? = some (.cells cs 30)) (hz : cs.size = 5) (hd : a.defers = []) (hR : R (.returned (.tuple #[.agg cs, t])) w) : bodyPost Try.prog fn R .ret a w := by
  refine bodyPost_ret (v := .tuple #[.agg cs, t]) ?_ hd hR
  have hp' : a.tmps[p]?.getD undef = .pointer (some ⟨b, 0, none⟩) := by simpa using hp
  have hu' : a.tmps[u]?.getD undef = t := by simpa using hu
  rw [results_cell_tmp h]
  simp [hp', hu', asAddr, Result.andThen, run_loadVar_row w b 30 30 cs _ _ hg Try.underlying30 rfl (by rw [hz]; kernel_rfl)]

set_option maxRecDepth 20000 in
set_option maxHeartbeats 4000000 in
theorem prove_ok (s : ByteArray) (n : Nat) (vp : Option Addr) (k vc : Nat) (cv : Value) (lv : Value) (L : Nat) (T : List (List Int)) (w : World) (h1 : 1 ≤ n) (h12 : n ≤ 12) (hT : T.length = L + 1) (hL1 : 1 ≤ L) (hL2 : L ≤ 1000) (hTr : ∀ r, r ∈ T → Rw n r)
    (hR : ∀ W, Below w.heap.size w W → Calls Try.prog 25 #[meth s n (.slice vp k vc), cv, lv] W (RowsPost T W)) :
    Calls Try.prog 8 #[meth s n (.slice vp k vc), cv, lv] w (ProvePost L T w) := by
  have hB0 : Below w.heap.size w ((w.alloc (.cells #[.string s, .int .i64 n, .slice vp k vc] 24)).alloc (.cells #[.int .i64 0, .bool false, .bool false, .int .i64 0, .int .i64 0] 30)) := ((Below.refl _ _).alloc (Nat.le_refl _) _).alloc (by simp) _
  have HR := hide (hR _ hB0)
  have HT := hide hT
  have HTR := hide hTr
  clear hR hT hTr
  unfold meth at HR
  unfold meth
  go_enter Try.func8, Try.ntmps8
  go_wp2_with fail
  refine HR.out.mono ?_
  rintro e w1 ⟨u, vs, rfl, hL, hb1⟩
  have hB1 : Below w.heap.size w w1 := hB0.trans (hb1.mono hB0.size)
  have hblk1 : w1.heap[w.heap.size + 1]? = some (.cells #[.int .i64 0, .bool false, .bool false, .int .i64 0, .int .i64 0] 30) := (hb1.block (w.heap.size + 1) (by simp)).trans (by
    have h9 := heap_alloc_new (w.alloc (.cells #[.string s, .int .i64 n, .slice vp k vc] 24)) (.cells #[.int .i64 0, .bool false, .bool false, .int .i64 0, .int .i64 0] 30)
    rw [show (w.alloc (.cells #[.string s, .int .i64 n, .slice vp k vc] 24)).heap.size = w.heap.size + 1 from by simp] at h9
    exact h9)
  have hL' := hL.low (show w.heap.size + 2 ≤ _ by simp)
  have hvl : vs.length = L + 1 := by rw [hL.len, HT.out]
  have hr1 := hL'.row
  rw [hvl] at hr1
  obtain ⟨gu, cu, rfl, hgu1, hgu2, hcu1, hcu2⟩ := owns_form hr1 (by omega)
  have HVL := hide hvl
  have HLL := hide hL'
  have HK := hide hblk1
  have hrp := hide (fun W (hW : Below w1.heap.size w1 W) => repeated_ok n _ (T.take L) W ((hL'.front hvl (Nat.le_succ L) hL1 hgu2 hcu1 hcu2).below hW) h1 h12 (fun r hr => HTR.out r (List.mem_of_mem_take hr)) (by rw [List.length_take, HT.out]; omega) (by rw [List.length_take, HT.out]; omega))
  clear hL hb1 hL' hr1 HR hvl hblk1
  go_wp2_with fail
  refine (hrp.out w1 (Below.refl _ _)).mono ?_
  rintro e w2 ⟨i, j, t, rfl, ht, hb2⟩
  have hB2 : Below w.heap.size w w2 := hB1.trans (hb2.mono hB1.size)
  have hbs2 := hB2.size
  have hL2' := HLL.out.below hb2
  have hr2 := hL2'.row
  rw [HVL.out] at hr2
  have c0 := owns_val hr2 (show 0 < L + 1 by omega)
  have cL := owns_val hr2 (show L < L + 1 by omega)
  have i0 := Ints.own (hL2'.at (k := 0) (by rw [HT.out]; omega))
  have iL := Ints.own (hL2'.at (k := L) (by rw [HT.out]; omega))
  obtain ⟨p0, d0, e0⟩ := i0.form
  obtain ⟨pL, dL, eL⟩ := iL.form
  rw [e0] at c0 i0
  rw [eL] at cL iL
  have HEQ := hide (fun W (hW : Below w2.heap.size w2 W) => equal_any _ _ _ _ W (iL.below hW) (i0.below hW))
  have HBK := hide ((hb2.block (w.heap.size + 1) (by omega)).trans HK.out)
  have hlt1 : w.heap.size + 1 < w2.heap.size := Nat.lt_of_lt_of_le (by omega) hb2.size
  have hgu3 : gu < w2.heap.size := Nat.lt_of_lt_of_le hgu2 hb2.size
  have HTN := hide ht
  clear hL2' hr2 i0 iL e0 eL HLL HVL HK hrp ht hB0 hB1 HTR HT
  generalize hrd : decide (T.getD L [] = T.getD 0 []) = rd at *
  have HRD := hide hrd
  clear hrd
  generalize (T.getD 0 []).length = l0 at *
  generalize (T.getD L []).length = lL at *
  go_upto_region 6 with fail
  refine wp_region_held_drew (S := fun W' => W'.cell? ⟨gu, 0, none⟩ = some (.slice p0 l0 d0) ∧ W'.cell? ⟨gu, L, none⟩ = some (.slice pL lL dL)) (by kernel_rfl) ⟨c0, cL⟩ (fun hS => ?_)
  refine wpAnyH_take (i := 0) (v := .int .i64 (L : Int)) rfl (by kernel_rfl) (by kernel_rfl) (by kernel_rfl) (fun _ _ _ h => h) (Or.inl ⟨by kernel_rfl, fun w' hS' => by obtain ⟨q0, q1⟩ := hS'; go_simp⟩) hS ?_
  refine wpAnyH_take (i := 1) (v := .slice (some ⟨gu, 0, none⟩) (L + 1) cu) rfl (by kernel_rfl) (by kernel_rfl) (by kernel_rfl) (fun _ _ _ h => h) (Or.inl ⟨by kernel_rfl, fun w' hS' => by obtain ⟨q0, q1⟩ := hS'; go_simp⟩) hS ?_
  refine wpAnyH_take (i := 2) (v := .int .i64 (L : Int)) rfl (by kernel_rfl) (by kernel_rfl) (by kernel_rfl) (fun _ _ _ h => h) (Or.inl ⟨by kernel_rfl, fun w' hS' => by obtain ⟨q0, q1⟩ := hS'; go_simp⟩) hS ?_
  refine wpAnyH_take (i := 3) (v := .pointer (some ⟨gu, L, none⟩)) rfl (by kernel_rfl) (by kernel_rfl) (by kernel_rfl) (fun _ _ _ h => h) (Or.inl ⟨by kernel_rfl, fun w' hS' => by obtain ⟨q0, q1⟩ := hS'; go_simp; intro h0; exact absurd h0 (by omega)⟩) hS ?_
  refine wpAnyH_take (i := 4) (v := .slice pL lL dL) rfl (by kernel_rfl) (by kernel_rfl) (by kernel_rfl) (fun _ _ _ h => h) (Or.inl ⟨by kernel_rfl, fun w' hS' => by obtain ⟨q0, q1⟩ := hS'; go_simp⟩) hS ?_
  refine wpAnyH_take (i := 5) (v := .slice (some ⟨gu, 0, none⟩) (L + 1) cu) rfl (by kernel_rfl) (by kernel_rfl) (by kernel_rfl) (fun _ _ _ h => h) (Or.inl ⟨by kernel_rfl, fun w' hS' => by obtain ⟨q0, q1⟩ := hS'; go_simp⟩) hS ?_
  refine wpAnyH_take (i := 6) (v := .pointer (some ⟨gu, 0, none⟩)) rfl (by kernel_rfl) (by kernel_rfl) (by kernel_rfl) (fun _ _ _ h => h) (Or.inl ⟨by kernel_rfl, fun w' hS' => by obtain ⟨q0, q1⟩ := hS'; go_simp⟩) hS ?_
  refine wpAnyH_take (i := 7) (v := .slice p0 l0 d0) rfl (by kernel_rfl) (by kernel_rfl) (by kernel_rfl) (fun _ _ _ h => h) (Or.inl ⟨by kernel_rfl, fun w' hS' => by obtain ⟨q0, q1⟩ := hS'; go_simp⟩) hS ?_
  refine wpAnyH_take (i := 9) (v := .bool t) rfl (by kernel_rfl) (by kernel_rfl) (by kernel_rfl) (fun _ _ _ h => h) (Or.inl ⟨by kernel_rfl, fun w' hS' => by obtain ⟨q0, q1⟩ := hS'; go_simp⟩) hS ?_
  refine wpAnyH_take (i := 10) (v := .bool (!t)) rfl (by kernel_rfl) (by kernel_rfl) (by kernel_rfl) (fun _ _ _ h => h) (Or.inl ⟨by kernel_rfl, fun w' hS' => by obtain ⟨q0, q1⟩ := hS'; go_simp⟩) hS ?_
  refine wpAnyH_take (i := 11) (v := .int .i64 i) rfl (by kernel_rfl) (by kernel_rfl) (by kernel_rfl) (fun _ _ _ h => h) (Or.inl ⟨by kernel_rfl, fun w' hS' => by obtain ⟨q0, q1⟩ := hS'; go_simp⟩) hS ?_
  refine wpAnyH_take (i := 12) (v := .int .i64 j) rfl (by kernel_rfl) (by kernel_rfl) (by kernel_rfl) (fun _ _ _ h => h) (Or.inl ⟨by kernel_rfl, fun w' hS' => by obtain ⟨q0, q1⟩ := hS'; go_simp⟩) hS ?_
  refine wpAnyH_ready (rs := [8]) (by kernel_rfl) (by simp) ?_
  refine AllReadyH.cons rfl (fun K hK => ?_) AllReadyH.nil
  go_simp
  have hS0 := below_drewJ w2
  refine (HEQ.out w2.drew hS0).mono ?_
  rintro ex wo ⟨rfl, hbo⟩
  have hSo : Below w2.heap.size w2 wo := hS0.trans (hbo.mono hS0.size)
  have hC0 : wo.cell? ⟨gu, 0, none⟩ = some (.slice p0 l0 d0) := (hSo.cell (p := ⟨gu, 0, none⟩) hgu3).trans c0
  have hCL : wo.cell? ⟨gu, L, none⟩ = some (.slice pL lL dL) := (hSo.cell (p := ⟨gu, L, none⟩) hgu3).trans cL
  have hko := (hSo.block (w.heap.size + 1) hlt1).trans HBK.out
  have hBo : Below w.heap.size w wo := hB2.trans (hSo.mono hB2.size)
  refine hK.out _ _ ⟨hC0, hCL⟩ (fun hS => ?_)
  clear hK
  refine wpAnyH_take (i := 13) (v := .agg #[.int .i64 (L : Int), .bool rd, .bool (!t), .int .i64 i, .int .i64 j]) rfl (by kernel_rfl) (by kernel_rfl) (by kernel_rfl) (fun _ _ _ h => h) (Or.inl ⟨by kernel_rfl, fun w' hS' => by obtain ⟨q0, q1⟩ := hS'; go_simp⟩) hS ?_
  refine wpAnyH_ready (rs := [14]) (by kernel_rfl) (by simp) ?_
  refine AllReadyH.cons rfl (fun K hK => ?_) AllReadyH.nil
  obtain ⟨z0, z1, z2, z3, z4, f0, f1, f2, f3, f4⟩ := cells5 hko
  go_simp
  have HBF : Hid ((((((wo.setCell ⟨w.heap.size + 1, 0, none⟩ (.int .i64 (L : Int))).setCell ⟨w.heap.size + 1, 1, none⟩ (.bool rd)).setCell ⟨w.heap.size + 1, 2, none⟩ (.bool (!t))).setCell ⟨w.heap.size + 1, 3, none⟩ (.int .i64 i)).setCell ⟨w.heap.size + 1, 4, none⟩ (.int .i64 j)).heap[w.heap.size + 1]? = some (.cells #[.int .i64 (L : Int), .bool rd, .bool (!t), .int .i64 i, .int .i64 j] 30)) := by
    show _ = _
    simp [World.setCell, Array.getElem?_modify, hko]
  have HBZ : Hid (Below w.heap.size w (((((wo.setCell ⟨w.heap.size + 1, 0, none⟩ (.int .i64 (L : Int))).setCell ⟨w.heap.size + 1, 1, none⟩ (.bool rd)).setCell ⟨w.heap.size + 1, 2, none⟩ (.bool (!t))).setCell ⟨w.heap.size + 1, 3, none⟩ (.int .i64 i)).setCell ⟨w.heap.size + 1, 4, none⟩ (.int .i64 j))) :=
    ((((hBo.setCell (Nat.le_succ _) _).setCell (Nat.le_succ _) _).setCell (Nat.le_succ _) _).setCell (Nat.le_succ _) _).setCell (Nat.le_succ _) _
  have hne : w.heap.size + 1 ≠ gu := by omega
  have HS2 : Hid ((((((wo.setCell ⟨w.heap.size + 1, 0, none⟩ (.int .i64 (L : Int))).setCell ⟨w.heap.size + 1, 1, none⟩ (.bool rd)).setCell ⟨w.heap.size + 1, 2, none⟩ (.bool (!t))).setCell ⟨w.heap.size + 1, 3, none⟩ (.int .i64 i)).setCell ⟨w.heap.size + 1, 4, none⟩ (.int .i64 j)).heap[gu]? = wo.heap[gu]?) := by
    show _ = _
    simp [World.setCell, Array.getElem?_modify, hne]
  generalize (((((wo.setCell ⟨w.heap.size + 1, 0, none⟩ (.int .i64 (L : Int))).setCell ⟨w.heap.size + 1, 1, none⟩ (.bool rd)).setCell ⟨w.heap.size + 1, 2, none⟩ (.bool (!t))).setCell ⟨w.heap.size + 1, 3, none⟩ (.int .i64 i)).setCell ⟨w.heap.size + 1, 4, none⟩ (.int .i64 j)) = wz at *
  refine hK.out _ _ ⟨by rw [← hC0]; unfold World.cell?; simp only [HS2.out], by rw [← hCL]; unfold World.cell?; simp only [HS2.out]⟩ (fun hS => ?_)
  clear hK z0 z1 z2 z3 z4 f0 f1 f2 f3 f4
  refine wpAnyH_take (i := 15) (v := .int .i64 0) rfl (by kernel_rfl) (by kernel_rfl) (by kernel_rfl) (fun _ _ _ h => h) (Or.inl ⟨by kernel_rfl, fun w' hS' => by clear hS'; go_simp⟩) hS ?_
  refine wpAnyH_done (by kernel_rfl) ?_ _
  go_wp2
  refine ret_row_tmp (p := 6) (u := 7) rfl rfl rfl HBF.out rfl rfl ⟨rd, !t, i, j, rfl, ?_, HRD.out.symm, HBZ.out⟩
  rw [← HTN.out]
  cases t <;> decide

end Go.Proofs.Ytoiiadiimfohiaa

/- Contract: the answer's Prove. -/
namespace Go.Proofs.Ytoiiadiimfohiaa
open Go.RowKit
set_option maxRecDepth 20000
set_option linter.unusedVariables false

/-- What the answer's Prove says: how many changes, round, true. -/
def RProve (N n : Nat) (L : List (List Int)) (w : World) (e : Ending) (w' : World) : Prop :=
  ∃ (r q : Bool) (i j : Int), e = .returned (.agg #[.int .i64 (N : Int), .bool r, .bool q, .int .i64 i, .int .i64 j]) ∧ (q = true ↔ (L.take N).Nodup) ∧ (r = true ↔ L.getD N [] = rnd n) ∧ Below w.heap.size w w'

abbrev repC (N : Int) (r q : Bool) (i j : Int) : Obj := .cells #[.int .i64 N, .bool r, .bool q, .int .i64 i, .int .i64 j] 30

theorem set5 {W : World} {B : Nat} {a b c d e a' b' c' d' e' : Value} {t : TypeId} (h : W.heap[B]? = some (.cells #[a, b, c, d, e] t)) :
    (((((W.setCell ⟨B, 0, none⟩ a').setCell ⟨B, 1, none⟩ b').setCell ⟨B, 2, none⟩ c').setCell ⟨B, 3, none⟩ d').setCell ⟨B, 4, none⟩ e').heap[B]? = some (.cells #[a', b', c', d', e'] t) := by
  simp [World.setCell, Array.getElem?_modify, h]

theorem set3 {W : World} {B : Nat} {a b c d e c' d' e' : Value} {t : TypeId} (h : W.heap[B]? = some (.cells #[a, b, c, d, e] t)) :
    (((W.setCell ⟨B, 2, none⟩ c').setCell ⟨B, 3, none⟩ d').setCell ⟨B, 4, none⟩ e').heap[B]? = some (.cells #[a, b, c', d', e'] t) := by
  simp [World.setCell, Array.getElem?_modify, h]

theorem ret_rep {fn : Func} {R : Ending → World → Prop} {a : Act} {w : World} {p : Tmp} {b : Nat} {N : Int} {r q : Bool} {i j : Int} (h : fn.results = #[.cell p 30]) (hp : a.tmps.getD p undef = .pointer (some ⟨b, 0, none⟩)) (hA : w.heap[b]? = some (repC N r q i j)) (hd : a.defers = []) (hR : R (.returned (.agg #[.int .i64 N, .bool r, .bool q, .int .i64 i, .int .i64 j])) w) : bodyPost Try.prog fn R .ret a w :=
  bodyPost_ret (results_cell_row h a.tmps w b 30 #[.int .i64 N, .bool r, .bool q, .int .i64 i, .int .i64 j] (0, 0) _ hp hA Try.underlying30 rfl (by kernel_rfl)) hd hR

theorem rk_rnd {n : Nat} {a : List Int} (h12 : n ≤ 12) (ha : isRow a) (hl : a.length = n) : rkTo a a.length = 0 ↔ a = rnd n := by
  have key : ∀ k, k < 13 → rkTo (rnd k) k = 0 := by decide
  have h0 : rkTo (rnd n) (rnd n).length = 0 := by rw [rnd_length]; exact key n (by omega)
  constructor
  · intro h
    exact rank_inj ha (isRow_rnd n) (by rw [rnd_length, hl]) (by rw [h, h0])
  · intro h
    rw [h]
    exact h0

/-- Which ranks there were. -/
structure SeenR (f : Int → Option Value) (L : List (List Int)) (i : Nat) : Prop where
  mem : ∀ a : Int, (f a).isSome = true ↔ ∃ j, j < i ∧ ((rkTo (L.getD j []) (L.getD j []).length : Nat) : Int) = a
  int : ∀ a u, f a = Option.some u → ∃ x : Int, u = .int .i64 x

theorem SeenR.none (L : List (List Int)) : SeenR (fun _ => Option.none) L 0 := ⟨fun a => by simp, fun a u h => by cases h⟩

theorem SeenR.next {f : Int → Option Value} {L : List (List Int)} {i : Nat} (h : SeenR f L i) (x : Int) : SeenR (upd f ((rkTo (L.getD i []) (L.getD i []).length : Nat) : Int) (.int .i64 x)) L (i + 1) := by
  refine ⟨fun a => ?_, fun a u hu => ?_⟩
  · unfold upd
    by_cases e : a = ((rkTo (L.getD i []) (L.getD i []).length : Nat) : Int)
    · rw [if_pos e]
      exact ⟨fun _ => ⟨i, by omega, e.symm⟩, fun _ => rfl⟩
    · rw [if_neg e, h.mem]
      constructor
      · rintro ⟨j, hj, e2⟩; exact ⟨j, by omega, e2⟩
      · rintro ⟨j, hj, e2⟩
        rcases Nat.lt_or_ge j i with h9 | h9
        · exact ⟨j, h9, e2⟩
        · obtain rfl : j = i := by omega
          exact absurd e2.symm e
  · unfold upd at hu
    split at hu
    · injection hu with hu; exact ⟨x, hu.symm⟩
    · exact h.int a u hu

theorem nodup_take_succ {L : List (List Int)} {i : Nat} (hi : i < L.length) (h : (L.take i).Nodup) (hn : ∀ j, j < i → L.getD j [] ≠ L.getD i []) : (L.take (i + 1)).Nodup := by
  rw [List.take_succ_eq_append_getElem hi, List.nodup_append]
  refine ⟨h, by simp, fun a ha b hb e => ?_⟩
  simp at hb
  subst hb
  obtain ⟨j, hj, e2⟩ := List.getElem_of_mem ha
  rw [List.length_take] at hj
  refine hn j (by omega) ?_
  rw [List.getElem_take] at e2
  simp [List.getD, hi, show j < L.length by omega, e2, e]

theorem not_nodup_of {L : List (List Int)} {i j N : Nat} (hij : i < j) (hj : j < N) (hN : N ≤ L.length) (e : L.getD i [] = L.getD j []) : ¬ (L.take N).Nodup := by
  intro h
  have h1 : i < (L.take N).length := by rw [List.length_take]; omega
  have h2 : j < (L.take N).length := by rw [List.length_take]; omega
  refine (List.pairwise_iff_getElem.1 h) i j h1 h2 hij ?_
  rw [List.getElem_take, List.getElem_take]
  simpa [List.getD, show i < L.length by omega, show j < L.length by omega] using e

set_option maxHeartbeats 16000000 in
theorem rprove_ok (s : ByteArray) (n : Nat) (vp : Option Addr) (K vc : Nat) (cv lv : Value) (N : Nat) (L : List (List Int)) (w : World) (h1 : 1 ≤ n) (h12 : n ≤ 12) (hN1 : 1 ≤ N) (hN2 : N ≤ 20000) (hLl : L.length = N + 1) (hLr : ∀ r, r ∈ L → isRow r ∧ r.length = n)
    (cf : ∃ cp C cc, cv = .slice cp C cc) (lf : ∃ lp T lc, lv = .slice lp T lc)
    (hR : ∀ W, Below w.heap.size w W → Calls Try.prog 16 #[.agg #[.string s, .int .i64 n, .slice vp K vc], cv, lv] W (TRPost L W)) :
    Calls Try.prog 15 #[.agg #[.string s, .int .i64 n, .slice vp K vc], cv, lv] w (RProve N n L w) := by
  obtain ⟨cp, C, cc, rfl⟩ := cf
  obtain ⟨lp, T, lc, rfl⟩ := lf
  have HLR := hide (fun k (hk : k < N + 1) => hLr (L.getD k []) (by simp [List.getD, show k < L.length by omega]))
  have HLL := hide hLl
  have HB0 : Hid (Below w.heap.size w ((w.alloc (mbox s n (.slice vp K vc))).alloc (repC 0 false false 0 0))) := ((Below.refl _ _).alloc (Nat.le_refl _) _).alloc (by simp) _
  have HR0 := hide (hR _ HB0.out)
  have HM0 : Hid (((w.alloc (mbox s n (.slice vp K vc))).alloc (repC 0 false false 0 0)).heap[w.heap.size + 1]? = some (repC 0 false false 0 0)) := by
    have := heap_alloc_new (w.alloc (mbox s n (.slice vp K vc))) (repC 0 false false 0 0)
    rw [show (w.alloc (mbox s n (.slice vp K vc))).heap.size = w.heap.size + 1 from by simp] at this
    exact this
  have hmm := @run_makeMap Try.prog
  clear hR hLr hLl
  go_enter Try.func15, Try.ntmps15
  go_wp2_with fail
  refine HR0.out.mono ?_
  rintro e w1 ⟨v, vs, rfl, hL, hb1⟩
  have hz0 : ((w.alloc (mbox s n (.slice vp K vc))).alloc (repC 0 false false 0 0)).heap.size = w.heap.size + 2 := by simp
  have hs1 : w.heap.size + 2 ≤ w1.heap.size := by have := hb1.size; omega
  have HM1 := hide ((hb1.block (w.heap.size + 1) (by omega)).trans HM0.out)
  have HB1 := hide (HB0.out.trans (hb1.mono (by have := HB0.out.size; omega)))
  have hvl : vs.length = N + 1 := by rw [hL.len]; exact HLL.out
  have hrow := hL.row
  rw [hvl] at hrow
  obtain ⟨g, c, rfl, hg1, hg2, hc1, hc2⟩ := owns_form hrow (by omega)
  have HI1 := hide (fun k (hk : k < N + 1) => Ints.own (hL.at (k := k) (by rw [HLL.out]; exact hk)))
  have HV1 := hide (fun k (hk : k < N + 1) => owns_val hrow hk)
  clear hb1 HB0 HR0 HM0 hL hrow hz0
  -- the last row
  obtain ⟨pN, cN, eN⟩ := (HI1.out N (by omega)).form
  have hcN := HV1.out N (by omega)
  rw [eN] at hcN
  have hIN := HI1.out N (by omega)
  rw [eN] at hIN
  obtain ⟨hrN, hlN⟩ := HLR.out N (by omega)
  have HRK := hide (rrank_ok (.slice pN (L.getD N []).length cN) (L.getD N []) w1 hIN hrN (by omega) (by omega))
  have HZ := hide (rk_rnd h12 hrN hlN)
  rw [hlN] at hcN HRK HZ
  generalize rkTo (L.getD N []) n = rk at *
  clear hIN hrN hlN eN
  go_wp2_with fail
  refine HRK.out.mono ?_
  rintro e w2 ⟨rfl, hb2⟩
  have hs2 : w1.heap.size ≤ w2.heap.size := hb2.size
  have HM2 := hide ((hb2.block (w.heap.size + 1) (by omega)).trans HM1.out)
  have HB2 := hide (HB1.out.trans (hb2.mono (by omega)))
  have HI2 := hide (fun k (hk : k < N + 1) => (HI1.out k hk).below hb2)
  have HV2 := hide (fun k (hk : k < N + 1) => ((hb2.cell (p := ⟨g, k, none⟩) hg2).trans (HV1.out k hk) : w2.cell? ⟨g, k, none⟩ = _))
  have hgs2 : g < w2.heap.size := by omega
  clear hb2 HM1 HB1 HI1 HV1 hcN HRK
  obtain ⟨rd, hrd⟩ : ∃ rd, Hid (((rk : Int) == 0) = rd) := ⟨_, rfl⟩
  have hrd2 : ((rk : Int) == 0) = rd := hrd.out
  have KA : Hid (((w2.alloc (repC N rd true 0 0)).alloc (.map #[] 0)).heap[w2.heap.size]? = some (repC N rd true 0 0)) := (Below.heap_alloc _ _ _ (by simp)).trans (heap_alloc_new _ _)
  have KM : Hid (IMap ((w2.alloc (repC N rd true 0 0)).alloc (.map #[] 0)) (w2.heap.size + 1) 0 (fun _ => none)) := by
    have := IMap.made (w2.alloc (repC N rd true 0 0))
    rw [show (w2.alloc (repC N rd true 0 0)).heap.size = w2.heap.size + 1 from by simp] at this
    exact this
  have KB : Hid (Below w2.heap.size w2 ((w2.alloc (repC N rd true 0 0)).alloc (.map #[] 0))) := ((Below.refl _ _).alloc (Nat.le_refl _) _).alloc (by simp) _
  have KS : w2.heap.size + 2 ≤ ((w2.alloc (repC N rd true 0 0)).alloc (.map #[] 0)).heap.size := by simp
  go_wp2
  go_loopw [11] (fun i wr => ∃ (k : Nat) (f : Int → Option Value), k ≤ N ∧ i = .int .i64 k ∧ Hid (Below w2.heap.size w2 wr) ∧ Hid (wr.heap[w2.heap.size]? = some (repC N rd true 0 0)) ∧ Hid (IMap wr (w2.heap.size + 1) k f) ∧ Hid (SeenR f L k) ∧ Hid ((L.take k).Nodup) ∧ w2.heap.size + 2 ≤ wr.heap.size) (fun i _ => N - (intOf i).toNat)
  case atStart => exact ⟨0, fun _ => none, by omega, rfl, KB.out, KA.out, KM.out, SeenR.none L, (by simp : (L.take 0).Nodup), KS⟩
  case round =>
    obtain ⟨k, f, hk, rfl, hbw, hrp, hmp, hsn, hnd, hsz⟩ := hrel
    clear KA KM KB KS
    have HMr := hide ((hbw.out.block (w.heap.size + 1) (by omega)).trans HM2.out)
    have HBr := hide (HB2.out.trans (hbw.out.mono (by omega)))
    by_cases hlt : k < N
    · obtain ⟨pk, ck, ek⟩ := (HI2.out k (by omega)).form
      have hck := HV2.out k (by omega)
      have hIk := (HI2.out k (by omega)).below hbw.out
      rw [ek] at hck hIk
      have hcr := (hbw.out.cell (p := ⟨g, k, none⟩) hgs2).trans hck
      obtain ⟨hrk, hlk⟩ := HLR.out k (by omega)
      have HRK := hide (rrank_ok (.slice pk (L.getD k []).length ck) (L.getD k []) wr hIk hrk (by omega) (by omega))
      have hrb := rkTo_le (L.getD k []) (L.getD k []).length (Nat.le_refl _) (by omega)
      have HNX := hide (fun x => hsn.out.next x)
      have HHIT : Hid (∀ a : Nat, a = rkTo (L.getD k []) (L.getD k []).length → (f (a : Int)).isSome = true → ¬ (L.take N).Nodup) := by
        intro a ha hs9
        obtain ⟨j, hj, e⟩ := (hsn.out.mem _).1 hs9
        obtain ⟨hrj, hlj⟩ := HLR.out j (by omega)
        refine not_nodup_of hj hlt (by rw [HLL.out]; omega) (rank_inj hrj hrk (by rw [hlk, hlj]) ?_)
        omega
      have HMISS : Hid (∀ a : Nat, a = rkTo (L.getD k []) (L.getD k []).length → (f (a : Int)).isSome = false → (L.take (k + 1)).Nodup) := by
        intro a ha hs9
        refine nodup_take_succ (by rw [HLL.out]; omega) hnd.out (fun j hj e => ?_)
        have : (f (a : Int)).isSome = true := (hsn.out.mem _).2 ⟨j, hj, by rw [e, ha]⟩
        rw [hs9] at this
        cases this
      have HINT := hide (fun a u h => hsn.out.int a u h)
      clear hIk hck hrk hsn hnd ek
      generalize hra : rkTo (L.getD k []) (L.getD k []).length = ra at *
      have HRA := hide hra.symm
      clear hra
      rw [hlk] at hcr HRK
      clear hlk
      go_wp2_with fail
      refine HRK.out.mono ?_
      rintro e w4 ⟨rfl, hb4⟩
      have hs4 := hb4.size
      have HB4 := hide (hbw.out.trans (hb4.mono hbw.out.size))
      have HR4 := hide ((hb4.block w2.heap.size (by omega)).trans hrp.out)
      have hM4 := hmp.out.below hb4 (by omega)
      have HMr4 := hide ((hb4.block (w.heap.size + 1) (by omega)).trans HMr.out)
      have HBr4 := hide (HBr.out.trans (hb4.mono (by omega)))
      clear hb4 hbw hrp hmp HRK hcr HMr HBr
      cases hfa : f (ra : Int) with
      | none =>
        have HND := hide (HMISS.out ra rfl (by rw [hfa]; rfl))
        have HSN := hide (HNX.out (k : Int))
        clear HMISS HHIT HINT HNX
        go_wp2_with (first
          | (refine wpList_look_ok rfl _ _ 73 rfl 3 Try.underlying73 (Try.zero3 _) hM4 (ra : Int) rfl rfl (by omega) (by omega) ?_; rw [hfa])
          | (refine wpList_put rfl _ _ _ 73 rfl 3 Try.underlying73 hM4 (by unfold maxLen; omega) (ra : Int) (.int .i64 (k : Int)) rfl rfl rfl (by omega) (by omega) ?_; intro w5 hM5 hg5))
        have hB5 := hide (HB4.out.grown hg5 (by omega) (fun x e => by injection e with e; omega))
        have hR5 := hide ((hg5.block w2.heap.size (by omega) (fun e => by injection e with e; omega)).trans HR4.out)
        have hM5' := hide hM5
        have hs5 := hg5.size
        clear hg5 hM5 hM4 HB4 HR4 HMr4 HBr4
        go_wp2
        go_roundw
        case rel => exact ⟨k + 1, _, by omega, by go_num, hB5.out, hR5.out, hM5'.out, HSN.out, HND.out, by omega⟩
        case measure => simp [intOf]; omega
      | some u =>
        obtain ⟨x, rfl⟩ := HINT.out _ _ hfa
        have HNN := hide (HHIT.out ra rfl (by rw [hfa]; rfl))
        obtain ⟨z0, z1, z2, z3, z4, f0, f1, f2, f3, f4⟩ := cells5 HR4.out
        have hS3 := hide (set3 (c' := .bool false) (d' := .int .i64 (k : Int)) (e' := .int .i64 x) HR4.out)
        have hMr3 : Hid ((((w4.setCell ⟨w2.heap.size, 2, none⟩ (.bool false)).setCell ⟨w2.heap.size, 3, none⟩ (.int .i64 (k : Int))).setCell ⟨w2.heap.size, 4, none⟩ (.int .i64 x)).heap[w.heap.size + 1]? = some (repC 0 false false 0 0)) := by
          show _ = _
          rw [Below.heap_setCell _ _ _ _ (by simp; omega), Below.heap_setCell _ _ _ _ (by simp; omega), Below.heap_setCell _ _ _ _ (by simp; omega)]
          exact HMr4.out
        have hB3 : Hid (Below w.heap.size w (((w4.setCell ⟨w2.heap.size, 2, none⟩ (.bool false)).setCell ⟨w2.heap.size, 3, none⟩ (.int .i64 (k : Int))).setCell ⟨w2.heap.size, 4, none⟩ (.int .i64 x))) := ((HBr4.out.setCell (by simp; omega) _).setCell (by simp; omega) _).setCell (by simp; omega) _
        clear HMISS HHIT HINT HNX HMr4 HBr4
        go_upto_region 14 with (refine wpList_look_ok rfl _ _ 73 rfl 3 Try.underlying73 (Try.zero3 _) hM4 (ra : Int) rfl rfl (by omega) (by omega) ?_; rw [hfa])
        generalize ((w4.setCell ⟨w2.heap.size, 2, none⟩ (.bool false)).setCell ⟨w2.heap.size, 3, none⟩ (.int .i64 (k : Int))).setCell ⟨w2.heap.size, 4, none⟩ (.int .i64 x) = w6 at *
        clear z0 z1 z2 z3 z4 f0 f1 f2 f3 f4 hM4 HB4 HR4
        obtain ⟨z0, z1, z2, z3, z4, _, _, _, _, _⟩ := cells5 hS3.out
        obtain ⟨_, _, _, _, _, f0, f1, f2, f3, f4⟩ := cells5 hMr3.out
        obtain ⟨y0, y1, y2, y3, y4, _, _, _, _, _⟩ := cells5 hMr3.out
        have hF := hide (set5 (a' := .int .i64 (N : Int)) (b' := .bool rd) (c' := .bool false) (d' := .int .i64 (k : Int)) (e' := .int .i64 x) hMr3.out)
        have hFB := hide (((((hB3.out.setCell (p := ⟨w.heap.size + 1, 0, none⟩) (by simp) (.int .i64 (N : Int))).setCell (p := ⟨w.heap.size + 1, 1, none⟩) (by simp) (.bool rd)).setCell (p := ⟨w.heap.size + 1, 2, none⟩) (by simp) (.bool false)).setCell (p := ⟨w.heap.size + 1, 3, none⟩) (by simp) (.int .i64 (k : Int))).setCell (p := ⟨w.heap.size + 1, 4, none⟩) (by simp) (.int .i64 x))
        go_wp2
        exact ret_rep (p := 6) rfl rfl hF.out rfl ⟨rd, false, _, _, rfl, ⟨fun h => by (cases h), fun h => absurd h HNN.out⟩, by rw [← HZ.out, ← hrd.out]; simp, hFB.out⟩
    · obtain rfl : k = N := by omega
      obtain ⟨z0, z1, z2, z3, z4, _, _, _, _, _⟩ := cells5 hrp.out
      obtain ⟨y0, y1, y2, y3, y4, f0, f1, f2, f3, f4⟩ := cells5 HMr.out
      have hF := hide (set5 (a' := .int .i64 (k : Int)) (b' := .bool rd) (c' := .bool true) (d' := .int .i64 0) (e' := .int .i64 0) HMr.out)
      have hFB := hide (((((HBr.out.setCell (p := ⟨w.heap.size + 1, 0, none⟩) (by simp) (.int .i64 (k : Int))).setCell (p := ⟨w.heap.size + 1, 1, none⟩) (by simp) (.bool rd)).setCell (p := ⟨w.heap.size + 1, 2, none⟩) (by simp) (.bool true)).setCell (p := ⟨w.heap.size + 1, 3, none⟩) (by simp) (.int .i64 0)).setCell (p := ⟨w.heap.size + 1, 4, none⟩) (by simp) (.int .i64 0))
      go_wp2
      exact ret_rep (p := 6) rfl rfl hF.out rfl ⟨rd, true, _, _, rfl, ⟨fun _ => hnd.out, fun _ => rfl⟩, by rw [← HZ.out, ← hrd.out]; simp, hFB.out⟩

end Go.Proofs.Ytoiiadiimfohiaa

/- The answer's Prove, with what comes again and where it was before. -/
namespace Go.Proofs.Ytoiiadiimfohiaa
open Go.RowKit
set_option maxRecDepth 20000
set_option linter.unusedVariables false

/-- What is said of rows that come twice: none, or the first one that comes again, and where it was. -/
def Dup (N : Nat) (L : List (List Int)) (q : Bool) (a b : Int) : Prop :=
  (q = true ∧ (L.take N).Nodup ∧ a = 0 ∧ b = 0) ∨ (q = false ∧ ∃ i j : Nat, j < i ∧ i < N ∧ L.getD i [] = L.getD j [] ∧ (L.take i).Nodup ∧ a = (i : Int) ∧ b = (j : Int))

theorem Dup.unique {N : Nat} {L : List (List Int)} {q q' : Bool} {a b a' b' : Int} (hN : N ≤ L.length) (h : Dup N L q a b) (h' : Dup N L q' a' b') : q = q' ∧ a = a' ∧ b = b' := by
  rcases h with ⟨rfl, hn, rfl, rfl⟩ | ⟨rfl, i, j, h1, h2, h3, h4, rfl, rfl⟩
  · rcases h' with ⟨rfl, hn', rfl, rfl⟩ | ⟨rfl, i', j', h1', h2', h3', h4', rfl, rfl⟩
    · exact ⟨rfl, rfl, rfl⟩
    · exact absurd hn (not_nodup_of h1' h2' hN h3'.symm)
  · rcases h' with ⟨rfl, hn', rfl, rfl⟩ | ⟨rfl, i', j', h1', h2', h3', h4', rfl, rfl⟩
    · exact absurd hn' (not_nodup_of h1 h2 hN h3.symm)
    · have hii : i = i' := by
        rcases Nat.lt_trichotomy i i' with h | h | h
        · exact absurd h4' (not_nodup_of h1 h (by omega) h3.symm)
        · exact h
        · exact absurd h4 (not_nodup_of h1' h (by omega) h3'.symm)
      subst hii
      have hjj : j = j' := by
        rcases Nat.lt_trichotomy j j' with h | h | h
        · exact absurd h4 (not_nodup_of h h1' (by omega) (h3.symm.trans h3'))
        · exact h
        · exact absurd h4 (not_nodup_of h h1 (by omega) (h3'.symm.trans h3))
      subst hjj
      exact ⟨rfl, rfl, rfl⟩

/-- What the answer's Prove says, whole. -/
def RFull (N n : Nat) (L : List (List Int)) (w : World) (e : Ending) (w' : World) : Prop :=
  ∃ (r q : Bool) (i j : Int), e = .returned (.agg #[.int .i64 (N : Int), .bool r, .bool q, .int .i64 i, .int .i64 j]) ∧ Dup N L q i j ∧ (r = true ↔ L.getD N [] = rnd n) ∧ Below w.heap.size w w'

/-- Which ranks there were, and where. -/
structure SeenV (f : Int → Option Value) (L : List (List Int)) (i : Nat) : Prop where
  mem : ∀ a : Int, (f a).isSome = true ↔ ∃ j, j < i ∧ ((rkTo (L.getD j []) (L.getD j []).length : Nat) : Int) = a
  val : ∀ a u, f a = Option.some u → ∃ j : Nat, j < i ∧ u = .int .i64 (j : Int) ∧ ((rkTo (L.getD j []) (L.getD j []).length : Nat) : Int) = a

theorem SeenV.none (L : List (List Int)) : SeenV (fun _ => Option.none) L 0 := ⟨fun a => by simp, fun a u h => by cases h⟩

theorem SeenV.next {f : Int → Option Value} {L : List (List Int)} {i : Nat} (h : SeenV f L i) : SeenV (upd f ((rkTo (L.getD i []) (L.getD i []).length : Nat) : Int) (.int .i64 (i : Int))) L (i + 1) := by
  refine ⟨fun a => ?_, fun a u hu => ?_⟩
  · unfold upd
    by_cases e : a = ((rkTo (L.getD i []) (L.getD i []).length : Nat) : Int)
    · rw [if_pos e]
      exact ⟨fun _ => ⟨i, by omega, e.symm⟩, fun _ => rfl⟩
    · rw [if_neg e, h.mem]
      constructor
      · rintro ⟨j, hj, e2⟩; exact ⟨j, by omega, e2⟩
      · rintro ⟨j, hj, e2⟩
        rcases Nat.lt_or_ge j i with h9 | h9
        · exact ⟨j, h9, e2⟩
        · obtain rfl : j = i := by omega
          exact absurd e2.symm e
  · unfold upd at hu
    split at hu
    · rename_i e
      injection hu with hu
      exact ⟨i, by omega, hu.symm, e.symm⟩
    · obtain ⟨j, hj, h1, h2⟩ := h.val a u hu
      exact ⟨j, by omega, h1, h2⟩

set_option maxHeartbeats 16000000 in
theorem rprove_full (s : ByteArray) (n : Nat) (vp : Option Addr) (K vc : Nat) (cv lv : Value) (N : Nat) (L : List (List Int)) (w : World) (h1 : 1 ≤ n) (h12 : n ≤ 12) (hN1 : 1 ≤ N) (hN2 : N ≤ 20000) (hLl : L.length = N + 1) (hLr : ∀ r, r ∈ L → isRow r ∧ r.length = n)
    (cf : ∃ cp C cc, cv = .slice cp C cc) (lf : ∃ lp T lc, lv = .slice lp T lc)
    (hR : ∀ W, Below w.heap.size w W → Calls Try.prog 16 #[.agg #[.string s, .int .i64 n, .slice vp K vc], cv, lv] W (TRPost L W)) :
    Calls Try.prog 15 #[.agg #[.string s, .int .i64 n, .slice vp K vc], cv, lv] w (RFull N n L w) := by
  obtain ⟨cp, C, cc, rfl⟩ := cf
  obtain ⟨lp, T, lc, rfl⟩ := lf
  have HLR := hide (fun k (hk : k < N + 1) => hLr (L.getD k []) (by simp [List.getD, show k < L.length by omega]))
  have HLL := hide hLl
  have HB0 : Hid (Below w.heap.size w ((w.alloc (mbox s n (.slice vp K vc))).alloc (repC 0 false false 0 0))) := ((Below.refl _ _).alloc (Nat.le_refl _) _).alloc (by simp) _
  have HR0 := hide (hR _ HB0.out)
  have HM0 : Hid (((w.alloc (mbox s n (.slice vp K vc))).alloc (repC 0 false false 0 0)).heap[w.heap.size + 1]? = some (repC 0 false false 0 0)) := by
    have := heap_alloc_new (w.alloc (mbox s n (.slice vp K vc))) (repC 0 false false 0 0)
    rw [show (w.alloc (mbox s n (.slice vp K vc))).heap.size = w.heap.size + 1 from by simp] at this
    exact this
  have hmm := @run_makeMap Try.prog
  clear hR hLr hLl
  go_enter Try.func15, Try.ntmps15
  go_wp2_with fail
  refine HR0.out.mono ?_
  rintro e w1 ⟨v, vs, rfl, hL, hb1⟩
  have hz0 : ((w.alloc (mbox s n (.slice vp K vc))).alloc (repC 0 false false 0 0)).heap.size = w.heap.size + 2 := by simp
  have hs1 : w.heap.size + 2 ≤ w1.heap.size := by have := hb1.size; omega
  have HM1 := hide ((hb1.block (w.heap.size + 1) (by omega)).trans HM0.out)
  have HB1 := hide (HB0.out.trans (hb1.mono (by have := HB0.out.size; omega)))
  have hvl : vs.length = N + 1 := by rw [hL.len]; exact HLL.out
  have hrow := hL.row
  rw [hvl] at hrow
  obtain ⟨g, c, rfl, hg1, hg2, hc1, hc2⟩ := owns_form hrow (by omega)
  have HI1 := hide (fun k (hk : k < N + 1) => Ints.own (hL.at (k := k) (by rw [HLL.out]; exact hk)))
  have HV1 := hide (fun k (hk : k < N + 1) => owns_val hrow hk)
  clear hb1 HB0 HR0 HM0 hL hrow hz0
  -- the last row
  obtain ⟨pN, cN, eN⟩ := (HI1.out N (by omega)).form
  have hcN := HV1.out N (by omega)
  rw [eN] at hcN
  have hIN := HI1.out N (by omega)
  rw [eN] at hIN
  obtain ⟨hrN, hlN⟩ := HLR.out N (by omega)
  have HRK := hide (rrank_ok (.slice pN (L.getD N []).length cN) (L.getD N []) w1 hIN hrN (by omega) (by omega))
  have HZ := hide (rk_rnd h12 hrN hlN)
  rw [hlN] at hcN HRK HZ
  generalize rkTo (L.getD N []) n = rk at *
  clear hIN hrN hlN eN
  go_wp2_with fail
  refine HRK.out.mono ?_
  rintro e w2 ⟨rfl, hb2⟩
  have hs2 : w1.heap.size ≤ w2.heap.size := hb2.size
  have HM2 := hide ((hb2.block (w.heap.size + 1) (by omega)).trans HM1.out)
  have HB2 := hide (HB1.out.trans (hb2.mono (by omega)))
  have HI2 := hide (fun k (hk : k < N + 1) => (HI1.out k hk).below hb2)
  have HV2 := hide (fun k (hk : k < N + 1) => ((hb2.cell (p := ⟨g, k, none⟩) hg2).trans (HV1.out k hk) : w2.cell? ⟨g, k, none⟩ = _))
  have hgs2 : g < w2.heap.size := by omega
  clear hb2 HM1 HB1 HI1 HV1 hcN HRK
  obtain ⟨rd, hrd⟩ : ∃ rd, Hid (((rk : Int) == 0) = rd) := ⟨_, rfl⟩
  have hrd2 : ((rk : Int) == 0) = rd := hrd.out
  have KA : Hid (((w2.alloc (repC N rd true 0 0)).alloc (.map #[] 0)).heap[w2.heap.size]? = some (repC N rd true 0 0)) := (Below.heap_alloc _ _ _ (by simp)).trans (heap_alloc_new _ _)
  have KM : Hid (IMap ((w2.alloc (repC N rd true 0 0)).alloc (.map #[] 0)) (w2.heap.size + 1) 0 (fun _ => none)) := by
    have := IMap.made (w2.alloc (repC N rd true 0 0))
    rw [show (w2.alloc (repC N rd true 0 0)).heap.size = w2.heap.size + 1 from by simp] at this
    exact this
  have KB : Hid (Below w2.heap.size w2 ((w2.alloc (repC N rd true 0 0)).alloc (.map #[] 0))) := ((Below.refl _ _).alloc (Nat.le_refl _) _).alloc (by simp) _
  have KS : w2.heap.size + 2 ≤ ((w2.alloc (repC N rd true 0 0)).alloc (.map #[] 0)).heap.size := by simp
  go_wp2
  go_loopw [11] (fun i wr => ∃ (k : Nat) (f : Int → Option Value), k ≤ N ∧ i = .int .i64 k ∧ Hid (Below w2.heap.size w2 wr) ∧ Hid (wr.heap[w2.heap.size]? = some (repC N rd true 0 0)) ∧ Hid (IMap wr (w2.heap.size + 1) k f) ∧ Hid (SeenV f L k) ∧ Hid ((L.take k).Nodup) ∧ w2.heap.size + 2 ≤ wr.heap.size) (fun i _ => N - (intOf i).toNat)
  case atStart => exact ⟨0, fun _ => none, by omega, rfl, KB.out, KA.out, KM.out, SeenV.none L, (by simp : (L.take 0).Nodup), KS⟩
  case round =>
    obtain ⟨k, f, hk, rfl, hbw, hrp, hmp, hsn, hnd, hsz⟩ := hrel
    clear KA KM KB KS
    have HMr := hide ((hbw.out.block (w.heap.size + 1) (by omega)).trans HM2.out)
    have HBr := hide (HB2.out.trans (hbw.out.mono (by omega)))
    by_cases hlt : k < N
    · obtain ⟨pk, ck, ek⟩ := (HI2.out k (by omega)).form
      have hck := HV2.out k (by omega)
      have hIk := (HI2.out k (by omega)).below hbw.out
      rw [ek] at hck hIk
      have hcr := (hbw.out.cell (p := ⟨g, k, none⟩) hgs2).trans hck
      obtain ⟨hrk, hlk⟩ := HLR.out k (by omega)
      have HRK := hide (rrank_ok (.slice pk (L.getD k []).length ck) (L.getD k []) wr hIk hrk (by omega) (by omega))
      have hrb := rkTo_le (L.getD k []) (L.getD k []).length (Nat.le_refl _) (by omega)
      have HNX := hide hsn.out.next
      have HHIT : Hid (∀ (a : Nat) (u : Value), a = rkTo (L.getD k []) (L.getD k []).length → f (a : Int) = some u → ∃ j : Nat, u = .int .i64 (j : Int) ∧ Dup N L false (k : Int) (j : Int)) := by
        intro a u ha hs9
        obtain ⟨j, hj, e1, e2⟩ := hsn.out.val _ _ hs9
        obtain ⟨hrj, hlj⟩ := HLR.out j (by omega)
        refine ⟨j, e1, Or.inr ⟨rfl, k, j, hj, hlt, (rank_inj hrj hrk (by rw [hlk, hlj]) (by omega)).symm, hnd.out, rfl, rfl⟩⟩
      have HMISS : Hid (∀ a : Nat, a = rkTo (L.getD k []) (L.getD k []).length → (f (a : Int)).isSome = false → (L.take (k + 1)).Nodup) := by
        intro a ha hs9
        refine nodup_take_succ (by rw [HLL.out]; omega) hnd.out (fun j hj e => ?_)
        have : (f (a : Int)).isSome = true := (hsn.out.mem _).2 ⟨j, hj, by rw [e, ha]⟩
        rw [hs9] at this
        cases this
      clear hIk hck hrk hsn hnd ek
      generalize hra : rkTo (L.getD k []) (L.getD k []).length = ra at *
      have HRA := hide hra.symm
      clear hra
      rw [hlk] at hcr HRK
      clear hlk
      go_wp2_with fail
      refine HRK.out.mono ?_
      rintro e w4 ⟨rfl, hb4⟩
      have hs4 := hb4.size
      have HB4 := hide (hbw.out.trans (hb4.mono hbw.out.size))
      have HR4 := hide ((hb4.block w2.heap.size (by omega)).trans hrp.out)
      have hM4 := hmp.out.below hb4 (by omega)
      have HMr4 := hide ((hb4.block (w.heap.size + 1) (by omega)).trans HMr.out)
      have HBr4 := hide (HBr.out.trans (hb4.mono (by omega)))
      clear hb4 hbw hrp hmp HRK hcr HMr HBr
      cases hfa : f (ra : Int) with
      | none =>
        have HND := hide (HMISS.out ra rfl (by rw [hfa]; rfl))
        have HSN := HNX
        clear HMISS HHIT
        go_wp2_with (first
          | (refine wpList_look_ok rfl _ _ 73 rfl 3 Try.underlying73 (Try.zero3 _) hM4 (ra : Int) rfl rfl (by omega) (by omega) ?_; rw [hfa])
          | (refine wpList_put rfl _ _ _ 73 rfl 3 Try.underlying73 hM4 (by unfold maxLen; omega) (ra : Int) (.int .i64 (k : Int)) rfl rfl rfl (by omega) (by omega) ?_; intro w5 hM5 hg5))
        have hB5 := hide (HB4.out.grown hg5 (by omega) (fun x e => by injection e with e; omega))
        have hR5 := hide ((hg5.block w2.heap.size (by omega) (fun e => by injection e with e; omega)).trans HR4.out)
        have hM5' := hide hM5
        have hs5 := hg5.size
        clear hg5 hM5 hM4 HB4 HR4 HMr4 HBr4
        go_wp2
        go_roundw
        case rel => exact ⟨k + 1, _, by omega, by go_num, hB5.out, hR5.out, hM5'.out, HSN.out, HND.out, by omega⟩
        case measure => simp [intOf]; omega
      | some u =>
        obtain ⟨xn, rfl, hdup⟩ := HHIT.out ra _ rfl hfa
        have HNN := hide hdup
        obtain ⟨x, hxe⟩ : ∃ x : Int, (xn : Int) = x := ⟨_, rfl⟩
        rw [hxe] at HNN hfa
        clear hdup hxe
        obtain ⟨z0, z1, z2, z3, z4, f0, f1, f2, f3, f4⟩ := cells5 HR4.out
        have hS3 := hide (set3 (c' := .bool false) (d' := .int .i64 (k : Int)) (e' := .int .i64 x) HR4.out)
        have hMr3 : Hid ((((w4.setCell ⟨w2.heap.size, 2, none⟩ (.bool false)).setCell ⟨w2.heap.size, 3, none⟩ (.int .i64 (k : Int))).setCell ⟨w2.heap.size, 4, none⟩ (.int .i64 x)).heap[w.heap.size + 1]? = some (repC 0 false false 0 0)) := by
          show _ = _
          rw [Below.heap_setCell _ _ _ _ (by simp; omega), Below.heap_setCell _ _ _ _ (by simp; omega), Below.heap_setCell _ _ _ _ (by simp; omega)]
          exact HMr4.out
        have hB3 : Hid (Below w.heap.size w (((w4.setCell ⟨w2.heap.size, 2, none⟩ (.bool false)).setCell ⟨w2.heap.size, 3, none⟩ (.int .i64 (k : Int))).setCell ⟨w2.heap.size, 4, none⟩ (.int .i64 x))) := ((HBr4.out.setCell (by simp; omega) _).setCell (by simp; omega) _).setCell (by simp; omega) _
        clear HMISS HHIT HNX HMr4 HBr4
        go_upto_region 14 with (refine wpList_look_ok rfl _ _ 73 rfl 3 Try.underlying73 (Try.zero3 _) hM4 (ra : Int) rfl rfl (by omega) (by omega) ?_; rw [hfa])
        generalize ((w4.setCell ⟨w2.heap.size, 2, none⟩ (.bool false)).setCell ⟨w2.heap.size, 3, none⟩ (.int .i64 (k : Int))).setCell ⟨w2.heap.size, 4, none⟩ (.int .i64 x) = w6 at *
        clear z0 z1 z2 z3 z4 f0 f1 f2 f3 f4 hM4 HB4 HR4
        obtain ⟨z0, z1, z2, z3, z4, _, _, _, _, _⟩ := cells5 hS3.out
        obtain ⟨_, _, _, _, _, f0, f1, f2, f3, f4⟩ := cells5 hMr3.out
        obtain ⟨y0, y1, y2, y3, y4, _, _, _, _, _⟩ := cells5 hMr3.out
        have hF := hide (set5 (a' := .int .i64 (N : Int)) (b' := .bool rd) (c' := .bool false) (d' := .int .i64 (k : Int)) (e' := .int .i64 x) hMr3.out)
        have hFB := hide (((((hB3.out.setCell (p := ⟨w.heap.size + 1, 0, none⟩) (by simp) (.int .i64 (N : Int))).setCell (p := ⟨w.heap.size + 1, 1, none⟩) (by simp) (.bool rd)).setCell (p := ⟨w.heap.size + 1, 2, none⟩) (by simp) (.bool false)).setCell (p := ⟨w.heap.size + 1, 3, none⟩) (by simp) (.int .i64 (k : Int))).setCell (p := ⟨w.heap.size + 1, 4, none⟩) (by simp) (.int .i64 x))
        go_wp2
        exact ret_rep (p := 6) rfl rfl hF.out rfl ⟨rd, false, _, _, rfl, HNN.out, by rw [← HZ.out, ← hrd.out]; simp, hFB.out⟩
    · obtain rfl : k = N := by omega
      obtain ⟨z0, z1, z2, z3, z4, _, _, _, _, _⟩ := cells5 hrp.out
      obtain ⟨y0, y1, y2, y3, y4, f0, f1, f2, f3, f4⟩ := cells5 HMr.out
      have hF := hide (set5 (a' := .int .i64 (k : Int)) (b' := .bool rd) (c' := .bool true) (d' := .int .i64 0) (e' := .int .i64 0) HMr.out)
      have hFB := hide (((((HBr.out.setCell (p := ⟨w.heap.size + 1, 0, none⟩) (by simp) (.int .i64 (k : Int))).setCell (p := ⟨w.heap.size + 1, 1, none⟩) (by simp) (.bool rd)).setCell (p := ⟨w.heap.size + 1, 2, none⟩) (by simp) (.bool true)).setCell (p := ⟨w.heap.size + 1, 3, none⟩) (by simp) (.int .i64 0)).setCell (p := ⟨w.heap.size + 1, 4, none⟩) (by simp) (.int .i64 0))
      go_wp2
      exact ret_rep (p := 6) rfl rfl hF.out rfl ⟨rd, true, _, _, rfl, Or.inl ⟨rfl, hnd.out, rfl, rfl⟩, by rw [← HZ.out, ← hrd.out]; simp, hFB.out⟩

end Go.Proofs.Ytoiiadiimfohiaa

/- truth.repeated, with what comes again and where it was before. -/
namespace Go.Proofs.Ytoiiadiimfohiaa
open Go.RowKit Go.Maps

/-- What the loop knows of the rows that it has seen, and where they were. -/
structure SeenK (n : Nat) (L : List (List Int)) (k : Nat) (f : List Int → Option Value) : Prop where
  seen : Seen n L k f
  val : ∀ zs v, f zs = some v → ∃ j : Nat, j < k ∧ v = .int .i64 (j : Int) ∧ zs = kp (L.getD j [])

theorem seenK_next {n k : Nat} {L : List (List Int)} {f : List Int → Option Value} (h : SeenK n L k f) (hk : k < L.length) (hr : Rw n (L.getD k [])) (hn : f (kp (L.getD k [])) = none) : SeenK n L (k + 1) (kupd f (kp (L.getD k [])) (.int .i64 (k : Int))) := by
  refine ⟨seen_next h.seen hk hr hn _, fun zs v hv => ?_⟩
  unfold kupd at hv
  by_cases e : zs = kp (L.getD k [])
  · rw [if_pos e] at hv; exact ⟨k, by omega, (Option.some.inj hv).symm, e⟩
  · rw [if_neg e] at hv
    obtain ⟨j, hj, h1, h2⟩ := h.val zs v hv
    exact ⟨j, by omega, h1, h2⟩

def RepFull (L : List (List Int)) (w : World) (e : Ending) (w' : World) : Prop :=
  ∃ (i j : Int) (t : Bool), e = .returned (.tuple #[.int .i64 i, .int .i64 j, .bool t]) ∧ Dup L.length L (!t) i j ∧ Below w.heap.size w w'

set_option maxRecDepth 20000 in
set_option maxHeartbeats 4000000 in
theorem repeated_full (n : Nat) (v : Value) (L : List (List Int)) (w : World) (hv : IntsAll w v L) (h1 : 1 ≤ n) (h12 : n ≤ 12) (hL : ∀ r, r ∈ L → Rw n r) (hl1 : 1 ≤ L.length) (hl2 : L.length ≤ 20000) :
    Calls Try.prog 26 #[v] w (RepFull L w) := by
  have hmm := @run_makeMap Try.prog
  obtain ⟨b, off, cap, rfl, hb, hlc, hcm, hcell⟩ := hv.cell hl1
  have HC := hide hcell
  have HL := hide hL
  clear hv hcell hL
  go_enter Try.func26, Try.ntmps26
  go_wp2
  go_loopw [14] (fun i wr => ∃ (k : Nat) (f : List Int → Option Value), k ≤ L.length ∧ i = .int .i64 k ∧ Hid (KMap 101 .i64 wr w.heap.size k f) ∧ Hid (SeenK n L k f) ∧ Below w.heap.size w wr) (fun i _ => L.length - (intOf i).toNat)
  case atStart => exact ⟨0, fun _ => none, by omega, rfl, KMap.made _ _ w, ⟨⟨(fun x _ => ⟨(fun h => by cases h), (fun h => by simp at h)⟩), by simp, (fun _ _ h => by cases h)⟩, (fun _ _ h => by cases h)⟩, (Below.refl _ _).alloc (Nat.le_refl _) _⟩
  case round =>
    obtain ⟨k, f, hk, rfl, hM, hS, hbw⟩ := hrel
    have hbs := hbw.size
    by_cases hlt : k < L.length
    · obtain ⟨p, c, hce, hint⟩ := HC.out k hlt
      have hRw : Rw n (L.getD k []) := HL.out _ (by rw [List.getD_eq_getElem?_getD, List.getElem?_eq_getElem hlt]; exact List.getElem_mem hlt)
      have gp : wr.cell? ⟨b, off + k, none⟩ = some (.slice p (L.getD k []).length c) := (hbw.cell (by exact hb)).trans hce
      have HKO := hide (keyOf_ok _ _ wr (hint.out.below hbw) (by rw [hRw.len]; exact h1) (by rw [hRw.len]; exact h12))
      have hok := kp_ok h12 hRw
      have HSN := hide (fun hn => seenK_next hS.out hlt hRw hn)
      have HSI : Hid (∀ v, f (kp (L.getD k [])) = some v → ∃ j : Nat, v = .int .i64 (j : Int) ∧ Dup L.length L (!true) (k : Int) (j : Int)) := by
        intro v h
        obtain ⟨j, hj, e1, e2⟩ := hS.out.val _ _ h
        have hRj : Rw n (L.getD j []) := HL.out _ (by rw [List.getD_eq_getElem?_getD, List.getElem?_eq_getElem (show j < L.length by omega)]; exact List.getElem_mem _)
        exact ⟨j, e1, Or.inr ⟨rfl, k, j, hj, hlt, kp_inj hRw.len hRj.len e2, hS.out.seen.nodup, rfl, rfl⟩⟩
      clear hce hint
      generalize hR : L.getD k [] = R at *
      generalize R.length = rl at *
      have hMl := hM.out.lt
      have hkm : k < maxLen := by unfold maxLen; omega
      have HKM := hide hkm
      clear hkm
      cases hf : f (kp R) with
      | some u =>
        obtain ⟨i9, rfl, hdup⟩ := HSI.out u hf
        obtain ⟨i, hie⟩ : ∃ i : Int, (i9 : Int) = i := ⟨_, rfl⟩
        rw [hie] at hdup hf
        have HNN := hide hdup
        clear hdup hie
        have HF := hide hf
        clear hf
        go_wp2_with fail
        refine HKO.out.mono ?_
        rintro e w1 ⟨rfl, hb1⟩
        have hbs1 := hb1.size
        have hM2 := (hM.out.below hb1 hMl).alloc (.cells (i64s zerosK) 101)
        have hZ := Ark.new w1 zerosK rfl
        go_upto_region 6 with (refine wpList_store_ark rfl _ _ rfl _ zerosK (kp R) hZ rfl rfl hok.1 ?_; intro w3 hA3 hg3)
        have hM3 := hM2.kept hg3 (by omega)
        have hB3 : Below w.heap.size w w3 := ((hbw.trans (hb1.mono hbs)).alloc (by omega) _).grown hg3 (by simp; omega) (fun g hg => by cases hg; omega)
        have HP : Hid (RepFull L w (.returned (.tuple #[.int .i64 k, .int .i64 i, .bool true])) w3) := ⟨_, _, _, rfl, HNN.out, hB3⟩
        go_wp2_with (first | refine wpList_load_ark rfl _ rfl _ _ hA3 rfl ?_ | (refine wpList_klook rfl _ _ _ rfl _ Try.underlying99 (Try.zero3 _) keyT hM3 (kp R) hok rfl rfl ?_; rw [HF.out]))
        go_wp2
        go_ret3
        exact HP.out
      | none =>
        have HF := hide hf
        clear hf
        go_wp2_with fail
        refine HKO.out.mono ?_
        rintro e w1 ⟨rfl, hb1⟩
        have hbs1 := hb1.size
        have hM2 := (hM.out.below hb1 hMl).alloc (.cells (i64s zerosK) 101)
        have hZ := Ark.new w1 zerosK rfl
        go_upto_region 6 with (refine wpList_store_ark rfl _ _ rfl _ zerosK (kp R) hZ rfl rfl hok.1 ?_; intro w3 hA3 hg3)
        have hM3 := hM2.kept hg3 (by omega)
        have hB3 : Below w.heap.size w w3 := ((hbw.trans (hb1.mono hbs)).alloc (by omega) _).grown hg3 (by simp; omega) (fun g hg => by cases hg; omega)
        go_wp2_with (first | refine wpList_load_ark rfl _ rfl _ _ hA3 rfl ?_ | (refine wpList_klook rfl _ _ _ rfl _ Try.underlying99 (Try.zero3 _) keyT hM3 (kp R) hok rfl rfl ?_; rw [HF.out]) | (refine wpList_kput rfl _ _ _ _ rfl _ Try.underlying99 keyT hM3 HKM.out (kp R) hok (.int .i64 k) rfl rfl rfl ?_; intro w4 hM4 hg4))
        have hB4 : Below w.heap.size w w4 := hB3.grown hg4 hB3.size (fun g hg => by cases hg; exact Nat.le_refl _)
        have HM4 := hide hM4
        have HS4 := hide (HSN.out HF.out)
        go_wp2
        go_roundw
        case rel => exact ⟨k + 1, _, by omega, by go_num, HM4, HS4, hB4⟩
        case measure => simp [intOf]; omega
    · have HND : Hid L.Nodup := by
        have h9 := hS.out.seen.nodup
        rw [List.take_of_length_le (by omega)] at h9
        exact h9
      have HP : Hid (RepFull L w (.returned (.tuple #[.int .i64 0, .int .i64 0, .bool false])) wr) := ⟨0, 0, false, rfl, Or.inl ⟨rfl, by rw [List.take_of_length_le (Nat.le_refl _)]; exact HND.out, rfl, rfl⟩, hbw⟩
      go_wp2
      go_ret3
      exact HP.out

end Go.Proofs.Ytoiiadiimfohiaa

/- truth.Prove, with what comes again and where it was before. -/
namespace Go.Proofs.Ytoiiadiimfohiaa
open Go.RowKit

theorem Dup.of_take {N : Nat} {T : List (List Int)} {q : Bool} {a b : Int} (hN : N ≤ T.length) (h : Dup (T.take N).length (T.take N) q a b) : Dup N T q a b := by
  have hl : (T.take N).length = N := by rw [List.length_take]; omega
  rw [hl] at h
  have hg : ∀ k, k < N → (T.take N).getD k [] = T.getD k [] := fun k hk => by simp [List.getD, hk]
  rcases h with ⟨h1, h2, h3, h4⟩ | ⟨h1, i, j, h2, h3, h4, h5, h6, h7⟩
  · refine Or.inl ⟨h1, ?_, h3, h4⟩
    rw [List.take_of_length_le (by omega)] at h2
    exact h2
  · refine Or.inr ⟨h1, i, j, h2, h3, ?_, ?_, h6, h7⟩
    · rw [hg i h3, hg j (by omega)] at h4
      exact h4
    · rw [List.take_take, Nat.min_eq_left (by omega)] at h5
      exact h5

def ProveFull (L : Nat) (T : List (List Int)) (w : World) (e : Ending) (w' : World) : Prop :=
  ∃ (r t : Bool) (i j : Int), e = .returned (.tuple #[.agg #[.int .i64 L, .bool r, .bool t, .int .i64 i, .int .i64 j], .int .i64 0]) ∧ Dup L T t i j ∧ r = decide (T.getD L [] = T.getD 0 []) ∧ Below w.heap.size w w'

set_option maxRecDepth 20000 in
set_option maxHeartbeats 4000000 in
theorem prove_full (s : ByteArray) (n : Nat) (vp : Option Addr) (k vc : Nat) (cv : Value) (lv : Value) (L : Nat) (T : List (List Int)) (w : World) (h1 : 1 ≤ n) (h12 : n ≤ 12) (hT : T.length = L + 1) (hL1 : 1 ≤ L) (hL2 : L ≤ 20000) (hTr : ∀ r, r ∈ T → Rw n r)
    (hR : ∀ W, Below w.heap.size w W → Calls Try.prog 25 #[meth s n (.slice vp k vc), cv, lv] W (RowsPost T W)) :
    Calls Try.prog 8 #[meth s n (.slice vp k vc), cv, lv] w (ProveFull L T w) := by
  have hB0 : Below w.heap.size w ((w.alloc (.cells #[.string s, .int .i64 n, .slice vp k vc] 24)).alloc (.cells #[.int .i64 0, .bool false, .bool false, .int .i64 0, .int .i64 0] 30)) := ((Below.refl _ _).alloc (Nat.le_refl _) _).alloc (by simp) _
  have HR := hide (hR _ hB0)
  have HT := hide hT
  have HTR := hide hTr
  clear hR hT hTr
  unfold meth at HR
  unfold meth
  go_enter Try.func8, Try.ntmps8
  go_wp2_with fail
  refine HR.out.mono ?_
  rintro e w1 ⟨u, vs, rfl, hL, hb1⟩
  have hB1 : Below w.heap.size w w1 := hB0.trans (hb1.mono hB0.size)
  have hblk1 : w1.heap[w.heap.size + 1]? = some (.cells #[.int .i64 0, .bool false, .bool false, .int .i64 0, .int .i64 0] 30) := (hb1.block (w.heap.size + 1) (by simp)).trans (by
    have h9 := heap_alloc_new (w.alloc (.cells #[.string s, .int .i64 n, .slice vp k vc] 24)) (.cells #[.int .i64 0, .bool false, .bool false, .int .i64 0, .int .i64 0] 30)
    rw [show (w.alloc (.cells #[.string s, .int .i64 n, .slice vp k vc] 24)).heap.size = w.heap.size + 1 from by simp] at h9
    exact h9)
  have hL' := hL.low (show w.heap.size + 2 ≤ _ by simp)
  have hvl : vs.length = L + 1 := by rw [hL.len, HT.out]
  have hr1 := hL'.row
  rw [hvl] at hr1
  obtain ⟨gu, cu, rfl, hgu1, hgu2, hcu1, hcu2⟩ := owns_form hr1 (by omega)
  have HVL := hide hvl
  have HLL := hide hL'
  have HK := hide hblk1
  have hrp := hide (fun W (hW : Below w1.heap.size w1 W) => repeated_full n _ (T.take L) W ((hL'.front hvl (Nat.le_succ L) hL1 hgu2 hcu1 hcu2).below hW) h1 h12 (fun r hr => HTR.out r (List.mem_of_mem_take hr)) (by rw [List.length_take, HT.out]; omega) (by rw [List.length_take, HT.out]; omega))
  clear hL hb1 hL' hr1 HR hvl hblk1
  go_wp2_with fail
  refine (hrp.out w1 (Below.refl _ _)).mono ?_
  rintro e w2 ⟨i, j, t, rfl, ht, hb2⟩
  have hB2 : Below w.heap.size w w2 := hB1.trans (hb2.mono hB1.size)
  have hbs2 := hB2.size
  have hL2' := HLL.out.below hb2
  have hr2 := hL2'.row
  rw [HVL.out] at hr2
  have c0 := owns_val hr2 (show 0 < L + 1 by omega)
  have cL := owns_val hr2 (show L < L + 1 by omega)
  have i0 := Ints.own (hL2'.at (k := 0) (by rw [HT.out]; omega))
  have iL := Ints.own (hL2'.at (k := L) (by rw [HT.out]; omega))
  obtain ⟨p0, d0, e0⟩ := i0.form
  obtain ⟨pL, dL, eL⟩ := iL.form
  rw [e0] at c0 i0
  rw [eL] at cL iL
  have HEQ := hide (fun W (hW : Below w2.heap.size w2 W) => equal_any _ _ _ _ W (iL.below hW) (i0.below hW))
  have HBK := hide ((hb2.block (w.heap.size + 1) (by omega)).trans HK.out)
  have hlt1 : w.heap.size + 1 < w2.heap.size := Nat.lt_of_lt_of_le (by omega) hb2.size
  have hgu3 : gu < w2.heap.size := Nat.lt_of_lt_of_le hgu2 hb2.size
  have HTN := hide (Dup.of_take (by rw [HT.out]; omega) ht)
  clear hL2' hr2 i0 iL e0 eL HLL HVL HK hrp ht hB0 hB1 HTR HT
  generalize hrd : decide (T.getD L [] = T.getD 0 []) = rd at *
  have HRD := hide hrd
  clear hrd
  generalize (T.getD 0 []).length = l0 at *
  generalize (T.getD L []).length = lL at *
  go_upto_region 6 with fail
  refine wp_region_held_drew (S := fun W' => W'.cell? ⟨gu, 0, none⟩ = some (.slice p0 l0 d0) ∧ W'.cell? ⟨gu, L, none⟩ = some (.slice pL lL dL)) (by kernel_rfl) ⟨c0, cL⟩ (fun hS => ?_)
  refine wpAnyH_take (i := 0) (v := .int .i64 (L : Int)) rfl (by kernel_rfl) (by kernel_rfl) (by kernel_rfl) (fun _ _ _ h => h) (Or.inl ⟨by kernel_rfl, fun w' hS' => by obtain ⟨q0, q1⟩ := hS'; go_simp⟩) hS ?_
  refine wpAnyH_take (i := 1) (v := .slice (some ⟨gu, 0, none⟩) (L + 1) cu) rfl (by kernel_rfl) (by kernel_rfl) (by kernel_rfl) (fun _ _ _ h => h) (Or.inl ⟨by kernel_rfl, fun w' hS' => by obtain ⟨q0, q1⟩ := hS'; go_simp⟩) hS ?_
  refine wpAnyH_take (i := 2) (v := .int .i64 (L : Int)) rfl (by kernel_rfl) (by kernel_rfl) (by kernel_rfl) (fun _ _ _ h => h) (Or.inl ⟨by kernel_rfl, fun w' hS' => by obtain ⟨q0, q1⟩ := hS'; go_simp⟩) hS ?_
  refine wpAnyH_take (i := 3) (v := .pointer (some ⟨gu, L, none⟩)) rfl (by kernel_rfl) (by kernel_rfl) (by kernel_rfl) (fun _ _ _ h => h) (Or.inl ⟨by kernel_rfl, fun w' hS' => by obtain ⟨q0, q1⟩ := hS'; go_simp; intro h0; exact absurd h0 (by omega)⟩) hS ?_
  refine wpAnyH_take (i := 4) (v := .slice pL lL dL) rfl (by kernel_rfl) (by kernel_rfl) (by kernel_rfl) (fun _ _ _ h => h) (Or.inl ⟨by kernel_rfl, fun w' hS' => by obtain ⟨q0, q1⟩ := hS'; go_simp⟩) hS ?_
  refine wpAnyH_take (i := 5) (v := .slice (some ⟨gu, 0, none⟩) (L + 1) cu) rfl (by kernel_rfl) (by kernel_rfl) (by kernel_rfl) (fun _ _ _ h => h) (Or.inl ⟨by kernel_rfl, fun w' hS' => by obtain ⟨q0, q1⟩ := hS'; go_simp⟩) hS ?_
  refine wpAnyH_take (i := 6) (v := .pointer (some ⟨gu, 0, none⟩)) rfl (by kernel_rfl) (by kernel_rfl) (by kernel_rfl) (fun _ _ _ h => h) (Or.inl ⟨by kernel_rfl, fun w' hS' => by obtain ⟨q0, q1⟩ := hS'; go_simp⟩) hS ?_
  refine wpAnyH_take (i := 7) (v := .slice p0 l0 d0) rfl (by kernel_rfl) (by kernel_rfl) (by kernel_rfl) (fun _ _ _ h => h) (Or.inl ⟨by kernel_rfl, fun w' hS' => by obtain ⟨q0, q1⟩ := hS'; go_simp⟩) hS ?_
  refine wpAnyH_take (i := 9) (v := .bool t) rfl (by kernel_rfl) (by kernel_rfl) (by kernel_rfl) (fun _ _ _ h => h) (Or.inl ⟨by kernel_rfl, fun w' hS' => by obtain ⟨q0, q1⟩ := hS'; go_simp⟩) hS ?_
  refine wpAnyH_take (i := 10) (v := .bool (!t)) rfl (by kernel_rfl) (by kernel_rfl) (by kernel_rfl) (fun _ _ _ h => h) (Or.inl ⟨by kernel_rfl, fun w' hS' => by obtain ⟨q0, q1⟩ := hS'; go_simp⟩) hS ?_
  refine wpAnyH_take (i := 11) (v := .int .i64 i) rfl (by kernel_rfl) (by kernel_rfl) (by kernel_rfl) (fun _ _ _ h => h) (Or.inl ⟨by kernel_rfl, fun w' hS' => by obtain ⟨q0, q1⟩ := hS'; go_simp⟩) hS ?_
  refine wpAnyH_take (i := 12) (v := .int .i64 j) rfl (by kernel_rfl) (by kernel_rfl) (by kernel_rfl) (fun _ _ _ h => h) (Or.inl ⟨by kernel_rfl, fun w' hS' => by obtain ⟨q0, q1⟩ := hS'; go_simp⟩) hS ?_
  refine wpAnyH_ready (rs := [8]) (by kernel_rfl) (by simp) ?_
  refine AllReadyH.cons rfl (fun K hK => ?_) AllReadyH.nil
  go_simp
  have hS0 := below_drewJ w2
  refine (HEQ.out w2.drew hS0).mono ?_
  rintro ex wo ⟨rfl, hbo⟩
  have hSo : Below w2.heap.size w2 wo := hS0.trans (hbo.mono hS0.size)
  have hC0 : wo.cell? ⟨gu, 0, none⟩ = some (.slice p0 l0 d0) := (hSo.cell (p := ⟨gu, 0, none⟩) hgu3).trans c0
  have hCL : wo.cell? ⟨gu, L, none⟩ = some (.slice pL lL dL) := (hSo.cell (p := ⟨gu, L, none⟩) hgu3).trans cL
  have hko := (hSo.block (w.heap.size + 1) hlt1).trans HBK.out
  have hBo : Below w.heap.size w wo := hB2.trans (hSo.mono hB2.size)
  refine hK.out _ _ ⟨hC0, hCL⟩ (fun hS => ?_)
  clear hK
  refine wpAnyH_take (i := 13) (v := .agg #[.int .i64 (L : Int), .bool rd, .bool (!t), .int .i64 i, .int .i64 j]) rfl (by kernel_rfl) (by kernel_rfl) (by kernel_rfl) (fun _ _ _ h => h) (Or.inl ⟨by kernel_rfl, fun w' hS' => by obtain ⟨q0, q1⟩ := hS'; go_simp⟩) hS ?_
  refine wpAnyH_ready (rs := [14]) (by kernel_rfl) (by simp) ?_
  refine AllReadyH.cons rfl (fun K hK => ?_) AllReadyH.nil
  obtain ⟨z0, z1, z2, z3, z4, f0, f1, f2, f3, f4⟩ := cells5 hko
  go_simp
  have HBF : Hid ((((((wo.setCell ⟨w.heap.size + 1, 0, none⟩ (.int .i64 (L : Int))).setCell ⟨w.heap.size + 1, 1, none⟩ (.bool rd)).setCell ⟨w.heap.size + 1, 2, none⟩ (.bool (!t))).setCell ⟨w.heap.size + 1, 3, none⟩ (.int .i64 i)).setCell ⟨w.heap.size + 1, 4, none⟩ (.int .i64 j)).heap[w.heap.size + 1]? = some (.cells #[.int .i64 (L : Int), .bool rd, .bool (!t), .int .i64 i, .int .i64 j] 30)) := by
    show _ = _
    simp [World.setCell, Array.getElem?_modify, hko]
  have HBZ : Hid (Below w.heap.size w (((((wo.setCell ⟨w.heap.size + 1, 0, none⟩ (.int .i64 (L : Int))).setCell ⟨w.heap.size + 1, 1, none⟩ (.bool rd)).setCell ⟨w.heap.size + 1, 2, none⟩ (.bool (!t))).setCell ⟨w.heap.size + 1, 3, none⟩ (.int .i64 i)).setCell ⟨w.heap.size + 1, 4, none⟩ (.int .i64 j))) :=
    ((((hBo.setCell (Nat.le_succ _) _).setCell (Nat.le_succ _) _).setCell (Nat.le_succ _) _).setCell (Nat.le_succ _) _).setCell (Nat.le_succ _) _
  have hne : w.heap.size + 1 ≠ gu := by omega
  have HS2 : Hid ((((((wo.setCell ⟨w.heap.size + 1, 0, none⟩ (.int .i64 (L : Int))).setCell ⟨w.heap.size + 1, 1, none⟩ (.bool rd)).setCell ⟨w.heap.size + 1, 2, none⟩ (.bool (!t))).setCell ⟨w.heap.size + 1, 3, none⟩ (.int .i64 i)).setCell ⟨w.heap.size + 1, 4, none⟩ (.int .i64 j)).heap[gu]? = wo.heap[gu]?) := by
    show _ = _
    simp [World.setCell, Array.getElem?_modify, hne]
  generalize (((((wo.setCell ⟨w.heap.size + 1, 0, none⟩ (.int .i64 (L : Int))).setCell ⟨w.heap.size + 1, 1, none⟩ (.bool rd)).setCell ⟨w.heap.size + 1, 2, none⟩ (.bool (!t))).setCell ⟨w.heap.size + 1, 3, none⟩ (.int .i64 i)).setCell ⟨w.heap.size + 1, 4, none⟩ (.int .i64 j)) = wz at *
  refine hK.out _ _ ⟨by rw [← hC0]; unfold World.cell?; simp only [HS2.out], by rw [← hCL]; unfold World.cell?; simp only [HS2.out]⟩ (fun hS => ?_)
  clear hK z0 z1 z2 z3 z4 f0 f1 f2 f3 f4
  refine wpAnyH_take (i := 15) (v := .int .i64 0) rfl (by kernel_rfl) (by kernel_rfl) (by kernel_rfl) (fun _ _ _ h => h) (Or.inl ⟨by kernel_rfl, fun w' hS' => by clear hS'; go_simp⟩) hS ?_
  refine wpAnyH_done (by kernel_rfl) ?_ _
  go_wp2
  refine ret_row_tmp (p := 6) (u := 7) rfl rfl rfl HBF.out rfl rfl ⟨rd, !t, i, j, rfl, ?_, HRD.out.symm, HBZ.out⟩
  exact HTN.out

end Go.Proofs.Ytoiiadiimfohiaa

/- Contracts: cmp.Compare, slices.Compare of lists of one length; the order of lists. -/
namespace Go.Proofs.Ytoiiadiimfohiaa
open Go.RowKit

def cI (x y : Int) : Int := if x < y then -1 else if y < x then 1 else 0

theorem isNaN_ok (x : Int) (w : World) : Calls Try.prog 91 #[.int .i64 x] w fun e w' => e = .returned (.bool false) ∧ w = w' := by
  go_enter Try.func91, Try.ntmps91
  go_wp2
  go_ret
  simp

set_option maxRecDepth 20000 in
set_option maxHeartbeats 1000000 in
theorem cmp_ok (x y : Int) (w : World) : Calls Try.prog 63 #[.int .i64 x, .int .i64 y] w fun e w' => e = .returned (.int .i64 (cI x y)) ∧ w = w' := by
  by_cases h1 : x < y
  · have hc : Hid (cI x y = -1) := by show _ = _; unfold cI; rw [if_pos h1]
    go_enter Try.func63, Try.ntmps63
    go_wp2_with fail
    refine (isNaN_ok _ _).mono ?_
    rintro e w' ⟨rfl, rfl⟩
    go_wp2_with fail
    refine (isNaN_ok _ _).mono ?_
    rintro e w' ⟨rfl, rfl⟩
    go_wp2
    go_ret
    exact ⟨ret_int hc.out.symm, rfl⟩
  · by_cases h2 : y < x
    · have hc : Hid (cI x y = 1) := by show _ = _; unfold cI; rw [if_neg h1, if_pos h2]
      go_enter Try.func63, Try.ntmps63
      go_wp2_with fail
      refine (isNaN_ok _ _).mono ?_
      rintro e w' ⟨rfl, rfl⟩
      go_wp2_with fail
      refine (isNaN_ok _ _).mono ?_
      rintro e w' ⟨rfl, rfl⟩
      go_wp2
      go_ret
      exact ⟨ret_int hc.out.symm, rfl⟩
    · have hc : Hid (cI x y = 0) := by show _ = _; unfold cI; rw [if_neg h1, if_neg h2]
      go_enter Try.func63, Try.ntmps63
      go_wp2_with fail
      refine (isNaN_ok _ _).mono ?_
      rintro e w' ⟨rfl, rfl⟩
      go_wp2_with fail
      refine (isNaN_ok _ _).mono ?_
      rintro e w' ⟨rfl, rfl⟩
      go_wp2
      go_ret
      exact ⟨ret_int hc.out.symm, rfl⟩

def lcmp : List Int → List Int → Int
  | [], [] => 0
  | [], _ :: _ => -1
  | _ :: _, [] => 1
  | x :: xs, y :: ys => if cI x y = 0 then lcmp xs ys else cI x y

theorem lcmp_cons (x y : Int) (xs ys : List Int) : lcmp (x :: xs) (y :: ys) = if x < y then -1 else if y < x then 1 else lcmp xs ys := by
  show (if cI x y = 0 then lcmp xs ys else cI x y) = _
  unfold cI
  by_cases h1 : x < y
  · simp [h1]
  · by_cases h2 : y < x <;> simp [h1, h2]

theorem lcmp_self : ∀ a, lcmp a a = 0
  | [] => rfl
  | x :: xs => by rw [lcmp_cons, if_neg (by omega), if_neg (by omega)]; exact lcmp_self xs

theorem lcmp_trans : ∀ a b c, lcmp a b < 0 → lcmp b c < 0 → lcmp a c < 0
  | [], [], _, h, _ => absurd h (by decide)
  | [], _ :: _, [], _, h => absurd h (by show ¬ ((1 : Int) < 0); decide)
  | [], _ :: _, _ :: _, _, _ => by show (-1 : Int) < 0; decide
  | _ :: _, [], _, h, _ => absurd h (by show ¬ ((1 : Int) < 0); decide)
  | _ :: _, _ :: _, [], _, h => absurd h (by show ¬ ((1 : Int) < 0); decide)
  | x :: xs, y :: ys, z :: zs, h1, h2 => by
    have ih := lcmp_trans xs ys zs
    rw [lcmp_cons] at h1 h2 ⊢
    repeat' split at h1
    all_goals repeat' split at h2
    all_goals repeat' split
    all_goals first | omega | exact ih h1 h2

theorem lcmp_ntrans : ∀ a b c, ¬ lcmp a b < 0 → ¬ lcmp b c < 0 → ¬ lcmp a c < 0
  | [], [], c, _, h => h
  | [], _ :: _, _, h, _ => absurd (show (-1 : Int) < 0 by decide) h
  | _ :: _, [], [], _, _ => by show ¬ ((1 : Int) < 0); decide
  | _ :: _, [], _ :: _, _, h => absurd (show (-1 : Int) < 0 by decide) h
  | _ :: _, _ :: _, [], _, _ => by show ¬ ((1 : Int) < 0); decide
  | x :: xs, y :: ys, z :: zs, h1, h2 => by
    have ih := lcmp_ntrans xs ys zs
    rw [lcmp_cons] at h1 h2 ⊢
    repeat' split at h1
    all_goals repeat' split at h2
    all_goals repeat' split
    all_goals first | omega | exact ih h1 h2

set_option maxRecDepth 20000 in
set_option maxHeartbeats 1000000 in
theorem compare_ok (v1 v2 : Value) (xs ys : List Int) (w : World) (i1 : Ints w v1 xs) (i2 : Ints w v2 ys) (h1 : 1 ≤ xs.length) (hl : ys.length = xs.length) :
    Calls Try.prog 34 #[v1, v2] w fun e w' => e = .returned (.int .i64 (lcmp xs ys)) ∧ w = w' := by
  rcases i1 with ⟨rfl, _⟩ | ⟨b, off, cap, rfl, h0, hc, hm, hb, hcell⟩
  · simp at h1
  rcases i2 with ⟨rfl, _⟩ | ⟨b2, off2, cap2, rfl, h02, hc2, hm2, hb2, hcell2⟩
  · simp at hl; omega
  rw [hl]
  rw [hl] at hc2
  have HLL := hide hl
  clear hl h02
  go_enter Try.func34, Try.ntmps34
  go_wp2
  go_loop [11] (fun i => ∃ k : Nat, k ≤ xs.length ∧ i = .int .i64 k ∧ Hid (lcmp xs ys = lcmp (xs.drop k) (ys.drop k))) (fun i => xs.length - (intOf i).toNat)
  case atStart => exact ⟨0, by omega, rfl, rfl⟩
  case round =>
    obtain ⟨k, hk, rfl, hi⟩ := hrel
    by_cases hlt : k < xs.length
    · have hlt2 : k < ys.length := by have := HLL.out; omega
      obtain ⟨x, hx, hcx⟩ := cellAt hcell hlt
      obtain ⟨y, hy, hcy⟩ := cellAt hcell2 hlt2
      have HD : Hid (lcmp xs ys = if cI x y = 0 then lcmp (xs.drop (k + 1)) (ys.drop (k + 1)) else cI x y) := by show _ = _; rw [hi.out, drop_cons xs hlt, drop_cons ys hlt2, hx.out, hy.out]; rfl
      have HCM := hide (cmp_ok x y w)
      clear hcell hcell2 hi hlt2
      by_cases hz : cI x y = 0
      · have hp : Hid (lcmp xs ys = lcmp (xs.drop (k + 1)) (ys.drop (k + 1))) := by show _ = _; rw [HD.out, if_pos hz]
        rw [hz] at HCM
        clear hz HD
        go_wp2_with fail
        refine HCM.out.mono ?_
        rintro e w' ⟨rfl, rfl⟩
        go_wp2
        go_round
        case rel => exact ⟨k + 1, by omega, by go_num, hp⟩
        case measure => simp [intOf]; omega
      · have hp : Hid (lcmp xs ys = cI x y) := by show _ = _; rw [HD.out, if_neg hz]
        have hne : (cI x y != 0) = true := by simpa using hz
        clear HD
        generalize cI x y = z at *
        go_wp2_with fail
        refine HCM.out.mono ?_
        rintro e w' ⟨rfl, rfl⟩
        go_wp2
        go_ret
        exact ⟨ret_int hp.out.symm, rfl⟩
    · have hp : Hid (lcmp xs ys = 0) := by show _ = _; rw [hi.out, List.drop_of_length_le (by omega), List.drop_of_length_le (by have := HLL.out; omega)]; rfl
      clear hcell hcell2 hi
      go_wp2
      go_ret
      exact ⟨ret_int hp.out.symm, rfl⟩

end Go.Proofs.Ytoiiadiimfohiaa

/- Contracts: the answer's Below; slices.BinarySearchFunc among rows in order. -/
namespace Go.Proofs.Ytoiiadiimfohiaa
open Go.RowKit

/-- Is a list ahead of another? -/
def blw : List Int → List Int → Bool
  | [], [] => false
  | [], _ :: _ => true
  | _ :: _, [] => false
  | a :: x, b :: y => if a = b then blw x y else decide (a < b)

theorem blw_end (xs ys : List Int) (k : Nat) (h : ¬ (k < xs.length ∧ k < ys.length)) (hk : k ≤ xs.length) (hk2 : k ≤ ys.length) : blw (xs.drop k) (ys.drop k) = decide (xs.length < ys.length) := by
  by_cases h1 : k < xs.length
  · have h2 : ¬ k < ys.length := fun h2 => h ⟨h1, h2⟩
    rw [List.drop_eq_nil_of_le (show ys.length ≤ k by omega), drop_cons xs h1]
    symm
    rw [show blw (xs[k]?.getD 0 :: xs.drop (k + 1)) [] = false from rfl]
    simp; omega
  · rw [List.drop_eq_nil_of_le (show xs.length ≤ k by omega)]
    by_cases h2 : k < ys.length
    · rw [drop_cons ys h2]
      symm
      rw [show blw [] (ys[k]?.getD 0 :: ys.drop (k + 1)) = true from rfl]
      simp; omega
    · rw [List.drop_eq_nil_of_le (show ys.length ≤ k by omega)]
      symm
      rw [show blw [] [] = false from rfl]
      simp; omega

set_option maxRecDepth 20000 in
set_option maxHeartbeats 2000000 in
theorem rbelow_any (v1 v2 : Value) (xs ys : List Int) (w : World) (h1 : Ints w v1 xs) (h2 : Ints w v2 ys) (hl1 : xs.length ≤ 1000000) (hl2 : ys.length ≤ 1000000) :
    Calls Try.prog 67 #[v1, v2] w fun e w' => e = .returned (.bool (blw xs ys)) ∧ Below w.heap.size w w' := by
  obtain ⟨p1, c1, rfl⟩ := h1.form
  obtain ⟨p2, c2, rfl⟩ := h2.form
  have HC1 := hide h1
  have HC2 := hide h2
  clear h1 h2
  go_enter Try.func67, Try.ntmps67
  go_wp2
  go_loopw [5] (fun i wr => ∃ k : Nat, k ≤ xs.length ∧ k ≤ ys.length ∧ i = .int .i64 k ∧ Hid (blw xs ys = blw (xs.drop k) (ys.drop k)) ∧ Below w.heap.size w wr) (fun i _ => xs.length - (intOf i).toNat)
  case atStart => exact ⟨0, by omega, by omega, rfl, rfl, Below.refl _ _⟩
  case round =>
    obtain ⟨k, hk, hk2, rfl, ht, hbw⟩ := hrel
    by_cases hlt : k < xs.length
    · by_cases hlt2 : k < ys.length
      · rcases HC1.out with ⟨rfl, _⟩ | ⟨b, off, cap, hv, h0, hc, hm, hb, hcell⟩
        · simp at hlt
        rcases HC2.out with ⟨rfl, _⟩ | ⟨b2, off2, cap2, hv2, h02, hc2, hm2, hb2, hcell2⟩
        · simp at hlt2
        simp only [Value.slice.injEq] at hv hv2
        obtain ⟨rfl, _, rfl⟩ := hv
        obtain ⟨rfl, _, rfl⟩ := hv2
        obtain ⟨x, hx, hcx⟩ := cellAt hcell hlt
        obtain ⟨y, hy, hcy⟩ := cellAt hcell2 hlt2
        have gx : wr.cell? ⟨b, off + k, none⟩ = some (.int .i64 x) := (hbw.cell (by exact hb)).trans hcx
        have gy : wr.cell? ⟨b2, off2 + k, none⟩ = some (.int .i64 y) := (hbw.cell (by exact hb2)).trans hcy
        have HD : Hid (blw xs ys = if x = y then blw (xs.drop (k + 1)) (ys.drop (k + 1)) else decide (x < y)) := by show _ = _; rw [ht.out, drop_cons xs hlt, drop_cons ys hlt2, hx.out, hy.out]; rfl
        clear hcx hcy hcell hcell2 ht hx hy
        by_cases hxy : x = y
        · subst hxy
          have HD' : Hid (blw xs ys = blw (xs.drop (k + 1)) (ys.drop (k + 1))) := by have := HD.out; rw [if_pos rfl] at this; exact this
          clear HD
          go_wp2
          go_region
          all_goals
            go_wp2
            go_roundw
            case rel => exact ⟨k + 1, by omega, by omega, by go_num, HD', by first | exact hbw | exact hbw.drew | exact hbw.drew.drew⟩
            case measure => simp [intOf]; omega
        · have hne : (x != y) = true := by simpa using hxy
          have HD' : Hid (blw xs ys = decide (x < y)) := by have := HD.out; rw [if_neg hxy] at this; exact this
          clear HD hxy
          go_wp2
          go_region
          all_goals
            go_wp2
            go_region
            all_goals
              go_wp2
              go_ret
              exact ⟨ret_bool HD'.out.symm, by first | exact hbw | exact hbw.drew | exact hbw.drew.drew⟩
      · have HE : Hid (blw xs ys = decide (xs.length < ys.length)) := by show _ = _; rw [ht.out]; exact blw_end xs ys k (fun h => hlt2 h.2) hk hk2
        go_wp2
        go_ret
        exact ⟨ret_bool (by rw [HE.out]), hbw⟩
    · have HE : Hid (blw xs ys = decide (xs.length < ys.length)) := by show _ = _; rw [ht.out]; exact blw_end xs ys k (fun h => hlt h.1) hk hk2
      go_wp2
      go_ret
      exact ⟨ret_bool (by rw [HE.out]), hbw⟩

end Go.Proofs.Ytoiiadiimfohiaa
