/- Joined: SbL, SbM, SbN, SbO. -/
import Derived.Test.YtoiiadiimfohiaaJ12
import Derived.Deep.RegionHeld3
import Derived.Deep.Cut
import Derived.Test.YtoiiadiimfohiaaJ7
/- Contract: the answer's Quest.Go. -/
namespace Go.Proofs.Ytoiiadiimfohiaa
open Go.RowKit
set_option maxRecDepth 20000
set_option linter.unusedVariables false

/-- What Prove says of beginnings. -/
def ProveBy (w0 : World) (s : ByteArray) (n : Nat) (mv cv : Value) (G : List (List Pm × Pm)) (C : Nat) : Prop :=
  ∀ (W : World) (p : List Nat) (pv : Value), Below w0.heap.size w0 W → Ints W pv (nI p) → 1 ≤ p.length → p.length ≤ 24 → (∀ c, c ∈ p → c < C) →
    Calls Try.prog 15 #[.agg #[.string s, .int .i64 n, mv], cv, pv] W fun e w' => ∃ (N : Int) (r q : Bool) (i j : Int), e = .returned (.agg #[.int .i64 N, .bool r, .bool q, .int .i64 i, .int .i64 j]) ∧ (q = true ↔ (tRows G 1 p).Nodup) ∧ (r = true ↔ tEnd G 1 p = 1) ∧ Below W.heap.size W w'

/-- What a call of Go leaves. -/
def GoPost (w0 : World) (Q : Nat) (o : Nat → Value → Obj) (G : List (List Pm × Pm)) (many C l : Nat) (P : List Nat) (met : Nat) (F : List (List Nat)) (fv : Value) (W : World) (e : Ending) (w' : World) : Prop :=
  ∃ met' fv', e = .returned (.tuple #[]) ∧ QR w0 w' Q o met' (fnd many F P (sols G l (tRows G 1 P).reverse (tEnd G 1 P))) fv' ∧ FrG Q fv W w' ∧ OwnRel W fv fv' ∧ met' ≤ met + bnd C l

theorem nI_snoc (P : List Nat) (k : Nat) : nI (P ++ [k]) = nI P ++ [(k : Int)] := by simp [nI]

/-- What one call more brings. -/
theorem solBy_no {G : List (List Pm × Pm)} {l : Nat} {P : List Nat} {k : Nat} (h : ¬ (tRows G 1 (P ++ [k])).Nodup) : solBy G l (tRows G 1 P).reverse (tEnd G 1 P) k = [] := by
  unfold solBy
  rw [if_neg (fun e => h ((okl_iff G P k).1 e))]

theorem solBy_yes {G : List (List Pm × Pm)} {l : Nat} {P : List Nat} {k : Nat} (h : (tRows G 1 (P ++ [k])).Nodup) : solBy G l (tRows G 1 P).reverse (tEnd G 1 P) k = (sols G l (tRows G 1 (P ++ [k])).reverse (tEnd G 1 (P ++ [k]))).map (fun t => k :: t) := by
  unfold solBy
  rw [if_pos ((okl_iff G P k).2 h), (tRows_snoc G P 1 k).1, (tRows_snoc G P 1 k).2, List.reverse_append]

theorem solTo_split (G : List (List Pm × Pm)) (l : Nat) (S : List Pm) (h : Pm) {k C : Nat} (hk : k ≤ C) : ∃ B, solTo G l S h C = solTo G l S h k ++ B := by
  induction C with
  | zero => exact ⟨[], by rw [List.append_nil]; congr 1; omega⟩
  | succ C ih =>
    rcases Nat.lt_or_ge C k with h9 | h9
    · obtain rfl : k = C + 1 := by omega
      exact ⟨[], by rw [List.append_nil]⟩
    · obtain ⟨B, hB⟩ := ih h9
      exact ⟨B ++ solBy G l S h C, by rw [solTo_succ, hB, List.append_assoc]⟩

theorem sols_no {G : List (List Pm × Pm)} {l : Nat} {S : List Pm} {h : Pm} (hl : l = 0) (hh : ¬ h = 1) : sols G l S h = [] := by
  subst hl
  unfold sols
  rw [if_neg hh]

theorem sols_yes {G : List (List Pm × Pm)} {l : Nat} {S : List Pm} {h : Pm} (hl : l = 0) (hh : h = 1) : sols G l S h = [[]] := by
  subst hl
  unfold sols
  rw [if_pos hh]

theorem rowF {w : World} {base e n : Nat} {v : Value} {xs : List Value} (h : w.ownsRow base e 1 v n xs) : ∃ p c, v = .slice p n c := by
  rcases h.2 with ⟨e, e2⟩ | ⟨g, c, cur, e, _⟩
  · exact ⟨_, _, by rw [e, e2]⟩
  · exact ⟨_, _, e⟩

theorem emptyI (w : World) (base : Nat) (hb : base ≤ w.heap.size) : (w.alloc (.cells #[] 3)).ownsRow base 3 1 (.slice (some ⟨w.heap.size, 0, none⟩) 0 0) 0 [] :=
  ⟨rfl, Or.inr ⟨w.heap.size, 0, #[], rfl, hb, heap_alloc_new w _, Nat.le_refl _, by unfold maxLen; omega, rfl, rfl⟩⟩

set_option maxHeartbeats 16000000 in
theorem go_step (w0 : World) (s : ByteArray) (n : Nat) (mv : Value) (cb co C cc leads many : Nat) (G : List (List Pm × Pm)) (Q : Nat) (hG : G.length = C) (hC : C ≤ 8) (hcc : C ≤ cc) (hcc2 : cc ≤ 9223372036854775807) (hle : leads ≤ 24) (hmy : many ≤ 50) (hmv : ∃ vp K vc, mv = .slice vp K vc) (HP : ProveBy w0 s n mv (.slice (some ⟨cb, co, none⟩) C cc) G C) (l : Nat)
    (IH : ∀ (P : List Nat) (W : World) (met : Nat) (F : List (List Nat)) (fv pv : Value), 1 ≤ l → P.length + l = leads → (∀ c, c ∈ P → c < C) → QR w0 W Q (qC s n mv (.slice (some ⟨cb, co, none⟩) C cc) leads many) met F fv → W.ownsRow (Q + 1) 3 1 pv P.length ((nI P).map (Value.int .i64)) → F.length ≤ many → met + bnd C l ≤ 20000 → Calls Try.prog 50 #[.pointer (some ⟨Q, 0, none⟩), pv] W (GoPost w0 Q (qC s n mv (.slice (some ⟨cb, co, none⟩) C cc) leads many) G many C l P met F fv W))
    (P : List Nat) (W : World) (met : Nat) (F : List (List Nat)) (fv pv : Value) (hPl : P.length + (l + 1) = leads) (hPc : ∀ c, c ∈ P → c < C) (hQ : QR w0 W Q (qC s n mv (.slice (some ⟨cb, co, none⟩) C cc) leads many) met F fv) (hpv : W.ownsRow (Q + 1) 3 1 pv P.length ((nI P).map (Value.int .i64))) (hF : F.length ≤ many) (hmt : met + bnd C (l + 1) ≤ 20000) :
    Calls Try.prog 50 #[.pointer (some ⟨Q, 0, none⟩), pv] W (GoPost w0 Q (qC s n mv (.slice (some ⟨cb, co, none⟩) C cc) leads many) G many C (l + 1) P met F fv W) := by
  obtain ⟨vp, K, vc, rfl⟩ := hmv
  obtain ⟨i0, hi, hz0, hz1, hz2⟩ := info_parts Try.info26
  obtain ⟨j0, hj, hy0, hy1, hy2⟩ := info_parts Try.info3
  obtain ⟨pp, pc, rfl⟩ : ∃ p c, pv = .slice p P.length c := by
    rcases hpv.2 with ⟨e, e2⟩ | ⟨g, c, cur, e, _⟩
    · exact ⟨_, _, by rw [e, e2]⟩
    · exact ⟨_, _, e⟩
  have HIH := hide IH
  have HPB := hide HP
  have HPC := hide hPc
  obtain ⟨pl, hpl⟩ : ∃ pl, Hid (P.length = pl) := ⟨_, rfl⟩
  have hpl2 : pl + (l + 1) = leads := by rw [← hpl.out]; exact hPl
  have hbd : Hid (bnd C (l + 1) = C * (1 + bnd C l)) := rfl
  have Q0 : Hid (QR w0 W Q (qC s n (.slice vp K vc) (.slice (some ⟨cb, co, none⟩) C cc) leads many) met (fnd many F P (solTo G l (tRows G 1 P).reverse (tEnd G 1 P) 0)) fv) := by
    have : solTo G l (tRows G 1 P).reverse (tEnd G 1 P) 0 = [] := rfl
    rw [this, fnd_nil P hF]
    exact hQ
  have HPV := hide hpv
  have HQ0 := hide hQ
  rw [hpl.out] at HPV
  have HMT := hide hmt
  rw [hpl.out]
  clear IH HP hPc hQ hpv hPl hmt
  go_enter Try.func50, Try.ntmps50
  go_wp2
  go_loopw [4] (fun i wr => ∃ (k met' : Nat) (fv' : Value), k ≤ C ∧ i = .int .i64 k ∧ Hid (QR w0 wr Q (qC s n (.slice vp K vc) (.slice (some ⟨cb, co, none⟩) C cc) leads many) met' (fnd many F P (solTo G l (tRows G 1 P).reverse (tEnd G 1 P) k)) fv') ∧ Hid (FrG Q fv W wr) ∧ Hid (OwnRel W fv fv') ∧ Hid (met' ≤ met + k * (1 + bnd C l))) (fun i _ => C - (intOf i).toNat)
  case atStart => exact ⟨0, met, fv, by omega, rfl, Q0.out, FrG.refl _ _ _, OwnRel.refl _ _, (by show met ≤ met + 0 * (1 + bnd C l); omega)⟩
  case round =>
    obtain ⟨k, met1, fv1, hk, rfl, hQ1, hFr, hOR, hme⟩ := hrel
    clear Q0
    obtain ⟨Fk, hFk⟩ : ∃ Fk, Hid (fnd many F P (solTo G l (tRows G 1 P).reverse (tEnd G 1 P) k) = Fk) := ⟨_, rfl⟩
    rw [hFk.out] at hQ1
    have hFkl : Fk.length ≤ many := by rw [← hFk.out]; exact fnd_len _ _ _ _
    obtain ⟨fs0, hfr0, hfl0⟩ := hQ1.out.frow
    obtain ⟨fp, fc, rfl⟩ : ∃ p c, fv1 = .slice p Fk.length c := by
      rcases hfr0.2 with ⟨e, e2⟩ | ⟨g, c, cur, e, _⟩
      · exact ⟨_, _, by rw [e, e2]⟩
      · exact ⟨_, _, e⟩
    clear hfr0 hfl0
    obtain ⟨x0, x1, x2, x3, x4, x5, x6, x7, x8, y6, y7⟩ := cells9 hQ1.out.blk
    have hkm : k * (1 + bnd C l) ≤ C * (1 + bnd C l) := Nat.mul_le_mul_right _ hk
    have hmb : met1 ≤ 20000 := by have := hme.out; have := HMT.out; rw [hbd.out] at this; omega
    by_cases hlt : k < C
    · by_cases hfm : Fk.length < many
      · have d1 : decide ((k : Int) < (C : Int)) = true := decide_eq_true (by omega)
        have d2 : decide ((Fk.length : Int) < (many : Int)) = true := decide_eq_true (by omega)
        generalize hfl9 : Fk.length = fl at *
        have HFL := hide hfl9
        clear hfl9
        go_upto_region 1 with fail
        go_quiet (fail)
        have hQ2 := hide (hQ1.out.below (below_drewN (Below.refl _ _) nq))
        have hFr2 := hide (hFr.out.trans hOR.out (FrG.below (Q := Q) (fv := .slice fp fl fc) (below_drewN (Below.refl _ _) nq)))
        have hPv2 := hide (HQ0.out.path HPV.out hFr2.out)
        clear hQ1 hFr x0 x1 x2 x3 x4 x5 x6 x7 x8 y6 y7
        generalize World.drewN _ nq = w2 at *
        have hsz2 := hQ2.out.sz
        have hE := hide (emptyI w2 w2.heap.size (Nat.le_refl _))
        have hB2 := hide ((Below.refl w2.heap.size w2).alloc (Nat.le_refl _) (.cells #[] 3))
        have hVP := hide ((Vals.own (by rw [List.length_map, show (nI P).length = pl from by simp [nI]; exact hpl.out]; exact hPv2.out)).below hB2.out)
        have hnl : Hid (((nI P).map (Value.int .i64)).length = pl) := by show _ = _; simp [nI]; exact hpl.out
        go_upto_region 4 with (first
          | (at_builtin; refine wpList_append_vals rfl _ _ 26 rfl w2.heap.size 3 j0 (.int .i64 0) 8 Try.underlying26 hj hy0 hy1 hy2 rfl (.slice (some ⟨w2.heap.size, 0, none⟩) 0 0) 0 [] rfl hE.out (.slice pp pl pc) ((nI P).map (Value.int .i64)) rfl hVP.out (fun u hu => by rw [List.mem_map] at hu; obtain ⟨_, _, rfl⟩ := hu; rfl) (by rw [hnl.out]; unfold maxLen; omega) (by rw [hnl.out]; omega) (by simp) ?_; intro v3 w3 hown3 hg3; have O3 := hide (show w3.ownsRow w2.heap.size 3 1 v3 pl ((nI P).map (Value.int .i64)) by (have h9 := hown3; simp only [List.nil_append, Nat.zero_add, hnl.out] at h9; exact h9)); have B3 := hide (hB2.out.grown hg3 (by simp) (fun g e => (hE.out.lt g e).1)); clear hown3 hg3)
          | (at_builtin; refine wpList_append_keep _ rfl _ _ 26 rfl w2.heap.size 3 j0 (.int .i64 0) 1 8 Try.underlying26 hj hy0 hy1 hy2 rfl (by decide) v3 pl ((nI P).map (Value.int .i64)) rfl (O3.out.alloc _) ⟨w3.heap.size, 0, none⟩ 1 1 [.int .i64 (k : Int)] rfl rfl (cell_one_new _ _ _) (fun u hu => by simp at hu; subst hu; rfl) (by unfold maxLen; omega) (by omega) (by have := B3.out.size; simp; omega) ?_; intro v4 w4 hown4 hg4 _; have O4 := hide hown4; have B4 := hide ((B3.out.alloc B3.out.size _).grown hg4 (by have := B3.out.size; simp; omega) (fun g e => (O3.out.lt g e).1)); clear hown4 hg4 O3 B3))
        clear hE hB2 hVP
        have hQ4 := hide (hQ2.out.below B4.out)
        have hFr4 := hide (hFr2.out.trans hOR.out (FrG.below (Q := Q) (fv := .slice fp fl fc) B4.out))
        have O4' : w4.ownsRow w2.heap.size 3 1 v4 (pl + 1) ((nI (P ++ [k])).map (Value.int .i64)) := by rw [nI_snoc, List.map_append]; exact O4.out
        have hsz4 : w2.heap.size ≤ w4.heap.size := B4.out.size
        obtain ⟨g4, c4, rfl, hg41, hg42, hc41, hc42⟩ := owns_form O4' (by omega)
        have OP4 := hide (owns_base O4' (show Q + 1 ≤ w2.heap.size by omega))
        have hpk : ∀ c, c ∈ P ++ [k] → c < C := fun c hc => by
          rcases List.mem_append.1 hc with h | h
          · exact HPC.out c h
          · simp at h; omega
        have HPR := hide (fun (W9 : World) (hW9 : Below w4.heap.size w4 W9) => HPB.out W9 (P ++ [k]) (.slice (some ⟨g4, 0, none⟩) (pl + 1) c4) (hQ4.out.bl.trans (hW9.mono hQ4.out.bl.size)) ((Ints.own OP4.out).below hW9) (by simp) (by rw [List.length_append, hpl.out, List.length_singleton]; omega) hpk)
        obtain ⟨x0, x1, x2, x3, x4, x5, x6, x7, x8, y6, y7⟩ := cells9 hQ4.out.blk
        clear O4 O4' B4 hQ2 hFr2 hPv2 hnl
        refine wp_region_held_drew (S := fun W' => W'.cell? ⟨Q, 0, none⟩ = some (.string s) ∧ W'.cell? ⟨Q, 1, none⟩ = some (.int .i64 n) ∧ W'.cell? ⟨Q, 2, none⟩ = some (.slice vp K vc) ∧ W'.cell? ⟨Q, 3, none⟩ = some (.slice (some ⟨cb, co, none⟩) C cc)) (by kernel_rfl) ⟨x0, x1, x2, x3⟩ (fun hS => ?_)
        refine wpAnyH_take (i := 0) (v := .pointer (some ⟨Q, 0, none⟩)) rfl (by kernel_rfl) (by kernel_rfl) (by kernel_rfl) (fun _ _ _ h => h) (Or.inl ⟨by kernel_rfl, fun w' hS' => by obtain ⟨q0, q1, q2, q3⟩ := hS'; go_simp⟩) hS ?_
        refine wpAnyH_take (i := 1) (v := .pointer (some ⟨Q, 0, none⟩)) rfl (by kernel_rfl) (by kernel_rfl) (by kernel_rfl) (fun _ _ _ h => h) (Or.inl ⟨by kernel_rfl, fun w' hS' => by obtain ⟨q0, q1, q2, q3⟩ := hS'; go_simp⟩) hS ?_
        refine wpAnyH_take (i := 2) (v := .pointer (some ⟨Q, 0, none⟩)) rfl (by kernel_rfl) (by kernel_rfl) (by kernel_rfl) (fun _ _ _ h => h) (Or.inl ⟨by kernel_rfl, fun w' hS' => by obtain ⟨q0, q1, q2, q3⟩ := hS'; go_simp⟩) hS ?_
        refine wpAnyH_take (i := 3) (v := .agg #[.string s, .int .i64 n, .slice vp K vc]) rfl (by kernel_rfl) (by kernel_rfl) (by kernel_rfl) (fun _ _ _ h => h) (Or.inl ⟨by kernel_rfl, fun w' hS' => by obtain ⟨q0, q1, q2, q3⟩ := hS'; go_simp⟩) hS ?_
        refine wpAnyH_take (i := 4) (v := .pointer (some ⟨Q, 0, none⟩)) rfl (by kernel_rfl) (by kernel_rfl) (by kernel_rfl) (fun _ _ _ h => h) (Or.inl ⟨by kernel_rfl, fun w' hS' => by obtain ⟨q0, q1, q2, q3⟩ := hS'; go_simp⟩) hS ?_
        refine wpAnyH_take (i := 5) (v := .pointer (some ⟨Q, 0, none⟩)) rfl (by kernel_rfl) (by kernel_rfl) (by kernel_rfl) (fun _ _ _ h => h) (Or.inl ⟨by kernel_rfl, fun w' hS' => by obtain ⟨q0, q1, q2, q3⟩ := hS'; go_simp⟩) hS ?_
        refine wpAnyH_take (i := 6) (v := .pointer (some ⟨Q, 3, none⟩)) rfl (by kernel_rfl) (by kernel_rfl) (by kernel_rfl) (fun _ _ _ h => h) (Or.inl ⟨by kernel_rfl, fun w' hS' => by obtain ⟨q0, q1, q2, q3⟩ := hS'; go_simp⟩) hS ?_
        refine wpAnyH_take (i := 7) (v := .slice (some ⟨cb, co, none⟩) C cc) rfl (by kernel_rfl) (by kernel_rfl) (by kernel_rfl) (fun _ _ _ h => h) (Or.inl ⟨by kernel_rfl, fun w' hS' => by obtain ⟨q0, q1, q2, q3⟩ := hS'; go_simp⟩) hS ?_
        refine wpAnyH_take (i := 8) (v := .slice (some ⟨g4, 0, none⟩) (pl + 1) c4) rfl (by kernel_rfl) (by kernel_rfl) (by kernel_rfl) (fun _ _ _ h => h) (Or.inl ⟨by kernel_rfl, fun w' hS' => by obtain ⟨q0, q1, q2, q3⟩ := hS'; go_simp⟩) hS ?_
        have hQlt : Q < w4.heap.size := by omega
        refine wpAnyH_ready (rs := [9, 10]) (by kernel_rfl) (by simp) ?_
        refine AllReadyH.cons rfl (fun K9 hK9 => ?_) (AllReadyH.cons rfl (fun K9 hK9 => ?_) AllReadyH.nil)
        · go_simp
          refine (HPR.out w4.drew ((Below.refl _ _).drew)).mono ?_
          rintro e w5 ⟨N9, r9, q9, i9, j9, rfl, hq9, hr9, hb5⟩
          have hB5 : Below w4.heap.size w4 w5 := (Below.refl _ _).drew.trans hb5
          have hs5 := hB5.size
          have hkp : ∀ j, w5.cell? ⟨Q, j, none⟩ = w4.cell? ⟨Q, j, none⟩ := fun j => hB5.cell (p := ⟨Q, j, none⟩) hQlt
          refine hK9.out _ _ ⟨by rw [hkp]; exact x0, by rw [hkp]; exact x1, by rw [hkp]; exact x2, by rw [hkp]; exact x3⟩ (fun hS => ?_)
          clear hK9
          refine wpAnyH_ready (rs := [10]) (by kernel_rfl) (by simp) ?_
          refine AllReadyH.cons rfl (fun K9 hK9 => ?_) AllReadyH.nil
          go_simp
          have hB6 : Below w4.heap.size w4 (w5.alloc (repC 0 false false 0 0)) := hB5.alloc hs5 _
          have hkp6 : ∀ j, (w5.alloc (repC 0 false false 0 0)).cell? ⟨Q, j, none⟩ = w4.cell? ⟨Q, j, none⟩ := fun j => hB6.cell (p := ⟨Q, j, none⟩) hQlt
          have hR6 : (w5.alloc (repC 0 false false 0 0)).heap[w5.heap.size]? = some (repC 0 false false 0 0) := heap_alloc_new w5 _
          obtain ⟨R, hR⟩ : ∃ R, R = w5.heap.size := ⟨_, rfl⟩
          rw [← hR] at hR6 ⊢
          have hRQ : Q < R := by omega
          have hRw : w4.heap.size ≤ R := by omega
          clear hb5 hB5 hkp
          refine hK9.out _ _ ⟨by rw [hkp6]; exact x0, by rw [hkp6]; exact x1, by rw [hkp6]; exact x2, by rw [hkp6]; exact x3⟩ (fun hS => ?_)
          clear hK9 hR
          generalize w5.alloc (repC 0 false false 0 0) = w6 at *
          obtain ⟨z0, z1, z2, z3, z4, f0, f1, f2, f3, f4⟩ := cells5 hR6
          have hRR := hide (set5 (a' := .int .i64 N9) (b' := .bool r9) (c' := .bool q9) (d' := .int .i64 i9) (e' := .int .i64 j9) hR6)
          have hB7 := hide (((((hB6.setCell (p := ⟨R, 0, none⟩) hRw (.int .i64 N9)).setCell (p := ⟨R, 1, none⟩) hRw (.bool r9)).setCell (p := ⟨R, 2, none⟩) hRw (.bool q9)).setCell (p := ⟨R, 3, none⟩) hRw (.int .i64 i9)).setCell (p := ⟨R, 4, none⟩) hRw (.int .i64 j9))
          refine wpAnyH_ready (rs := [11]) (by kernel_rfl) (by simp) ?_
          refine AllReadyH.cons rfl (fun K9 hK9 => ?_) AllReadyH.nil
          go_simp
          generalize ((((w6.setCell ⟨R, 0, none⟩ (.int .i64 N9)).setCell ⟨R, 1, none⟩ (.bool r9)).setCell ⟨R, 2, none⟩ (.bool q9)).setCell ⟨R, 3, none⟩ (.int .i64 i9)).setCell ⟨R, 4, none⟩ (.int .i64 j9) = w7 at *
          have HREP : Hid (w7.heap[R]? = some (repC N9 r9 q9 i9 j9)) := hRR.out
          have hkp7 : ∀ j, w7.cell? ⟨Q, j, none⟩ = w4.cell? ⟨Q, j, none⟩ := fun j => hB7.out.cell (p := ⟨Q, j, none⟩) hQlt
          refine hK9.out _ _ ⟨by rw [hkp7]; exact x0, by rw [hkp7]; exact x1, by rw [hkp7]; exact x2, by rw [hkp7]; exact x3⟩ (fun hS => ?_)
          clear z0 z1 z2 z3 z4 f0 f1 f2 f3 f4 hRR hR6 hB6 hkp6 hkp7
          refine wpAnyH_done (by kernel_rfl) ?_ _
          have hQ7 := hide (hQ4.out.below hB7.out)
          have hFr7 := hide (hFr4.out.trans hOR.out (FrG.below (Q := Q) (fv := .slice fp fl fc) hB7.out))
          have hOP7 := hide (owns_below OP4.out hB7.out (Nat.le_refl _))
          obtain ⟨_, k1, k2, _, _, _, _, _, _, _⟩ := cells5 HREP.out
          clear hS x0 x1 x2 x3 x4 x5 x6 x7 x8 y6 y7 hQ4 hFr4 OP4 HPR hK9
          obtain ⟨x0, x1, x2, x3, x4, x5, x6, x7, x8, y6, y7⟩ := cells9 hQ7.out.blk
          have hk1m : (k + 1) * (1 + bnd C l) ≤ C * (1 + bnd C l) := Nat.mul_le_mul_right _ hlt
          have hsm : (k + 1) * (1 + bnd C l) = k * (1 + bnd C l) + (1 + bnd C l) := Nat.succ_mul _ _
          cases q9 with
          | false =>
            have hno : ¬ (tRows G 1 (P ++ [k])).Nodup := fun e => Bool.false_ne_true (hq9.2 e)
            have HS1 : Hid (fnd many F P (solTo G l (tRows G 1 P).reverse (tEnd G 1 P) (k + 1)) = Fk) := by show _ = _; rw [solTo_succ, solBy_no hno, List.append_nil, hFk.out]
            have HM9 : Hid (met1 ≤ met + (k + 1) * (1 + bnd C l)) := by show _ ≤ _; have := hme.out; omega
            clear hk1m hsm hkm
            go_wp2
            go_roundw
            case rel => exact ⟨k + 1, met1, _, by omega, by go_num, by rw [HS1.out]; exact hQ7.out, hFr7.out, hOR.out, HM9.out⟩
            case measure => simp [intOf]; omega
          | true =>
            have hyes := hq9.1 rfl
            have HSY := hide (solBy_yes (l := l) hyes)
            have hQ8 := hide (hQ7.out.meet (met1 + 1))
            have hFr8 := hide (hFr7.out.trans hOR.out (FrG.set (Q := Q) (j := 6) (fv := .slice fp fl fc) (u := .int .i64 ((met1 + 1 : Nat) : Int)) (W := w7)))
            have hOP8 := hide (hQ7.out.path hOP7.out (FrG.set (j := 6) (u := .int .i64 ((met1 + 1 : Nat) : Int))))
            have k18 : (w7.setCell ⟨Q, 6, none⟩ (.int .i64 ((met1 + 1 : Nat) : Int))).cell? ⟨R, 1, none⟩ = some (.bool r9) := by rw [← k1]; exact World.cell?_of_block (w := w7) (Below.heap_setCell _ _ _ _ (by show R ≠ Q; omega))
            rw [show ((met1 + 1 : Nat) : Int) = (met1 : Int) + 1 from by omega] at hQ8 hFr8 hOP8 k18
            have hm9 : Hid (met1 + 1 + bnd C l ≤ 20000) := by show _ ≤ _; have := hme.out; have := HMT.out; rw [hbd.out] at this; omega
            have g7 : ¬ 20000 < (met1 : Int) + 1 := by have := hm9.out; omega
            have HFL2 : Hid (Fk.length < many) := by show _ < _; rw [HFL.out]; exact hfm
            have HMO := hide (fnd_more (F := F) (P := P) (A := solTo G l (tRows G 1 P).reverse (tEnd G 1 P) k) (many := many) (solBy G l (tRows G 1 P).reverse (tEnd G 1 P) k) (by rw [hFk.out]; exact HFL2.out))
            rw [hFk.out, ← solTo_succ] at HMO
            have hmle := hide hme.out
            clear hk1m hkm hQ7 hFr7 hOP7 k1 HREP hB7
            by_cases hl0 : 1 ≤ l
            · have g9 : (pl : Int) + 1 < (leads : Int) := by omega
              have HC9 := hide (HIH.out (P ++ [k]) _ (met1 + 1) Fk (.slice fp fl fc) (.slice (some ⟨g4, 0, none⟩) (pl + 1) c4) hl0 (by rw [List.length_append, hpl.out, List.length_singleton]; omega) hpk hQ8.out (by rw [List.length_append, hpl.out, List.length_singleton]; exact hOP8.out) (by rw [HFL.out]; exact hFkl) hm9.out)
              have HFE : Hid (fnd many Fk (P ++ [k]) (sols G l (tRows G 1 (P ++ [k])).reverse (tEnd G 1 (P ++ [k]))) = fnd many F P (solTo G l (tRows G 1 P).reverse (tEnd G 1 P) (k + 1))) := by
                show _ = _
                rw [fnd_call, ← HSY.out, HMO.out]
              have hs8 := hFr8.out.size
              clear HSY HMO hQ8
              go_wp2_with fail
              refine HC9.out.mono ?_
              rintro e w9 ⟨met2, fv2, rfl, hQ9, hFr9, hOR9, hme9⟩
              rw [HFE.out] at hQ9
              have HQ9 := hide hQ9
              have HF9 := hide (hFr8.out.trans hOR.out hFr9)
              have HO9 := hide (hOR.out.trans hOR9 hs8)
              have HM9 : Hid (met2 ≤ met + (k + 1) * (1 + bnd C l)) := by show _ ≤ _; have := hmle.out; omega
              clear hQ9 hFr9 hOR9 hme9 HC9 hFr8 hsm x0 x1 x2 x3 x4 x5 x6 x7 x8 y6 y7 k2 k18
              go_wp2
              go_roundw
              case rel => exact ⟨k + 1, met2, fv2, by omega, by go_num, HQ9.out, HF9.out, HO9.out, HM9.out⟩
              case measure => simp [intOf]; omega
            · have hl00 : l = 0 := by omega
              have g9 : ¬ (pl : Int) + 1 < (leads : Int) := by omega
              have HM9 : Hid (met1 + 1 ≤ met + (k + 1) * (1 + bnd C l)) := by show _ ≤ _; have := hmle.out; omega
              clear hsm
              cases r9 with
              | false =>
                have hne : ¬ tEnd G 1 (P ++ [k]) = 1 := fun e => Bool.false_ne_true (hr9.2 e)
                have HFE : Hid (fnd many F P (solTo G l (tRows G 1 P).reverse (tEnd G 1 P) (k + 1)) = Fk) := by
                  show _ = _
                  rw [← HMO.out, HSY.out, sols_no hl00 hne, List.map_nil, fnd_nil P (by rw [HFL.out]; exact hFkl)]
                clear HSY HMO
                go_wp2
                go_roundw
                case rel => exact ⟨k + 1, met1 + 1, _, by omega, by go_num, by rw [HFE.out]; exact hQ8.out, hFr8.out, hOR.out, HM9.out⟩
                case measure => simp [intOf]; omega
              | true =>
                have hye := hr9.1 rfl
                have HFE : Hid (fnd many F P (solTo G l (tRows G 1 P).reverse (tEnd G 1 P) (k + 1)) = Fk ++ [P ++ [k]]) := by
                  show _ = _
                  rw [← HMO.out, HSY.out, sols_yes hl00 hye]
                  unfold fnd
                  simp only [List.map_cons, List.map_nil]
                  rw [List.take_of_length_le]
                  have := HFL2.out
                  simp
                  omega
                obtain ⟨fs, hll⟩ := hQ8.out.ll
                have hfsl : fs.length = fl := by rw [hll.len, List.length_map, HFL.out]
                have hfrow := hll.row
                rw [hfsl] at hfrow
                have HFR := hide hfrow
                have HLL := hide hll
                have hs8 := hQ8.out.sz
                clear HSY HMO hll hfrow
                go_upto_region 12 with fail
                generalize w7.setCell ⟨Q, 6, none⟩ (.int .i64 ((met1 : Int) + 1)) = w8 at *
                clear x0 x1 x2 x3 x4 x5 x6 x7 x8 y6 y7 k18 k2
                obtain ⟨_, _, _, _, _, _, _, x7, _, _, y7⟩ := cells9 hQ8.out.blk
                have hQ7a := hide (fun (W9 : World) (hb : W9.heap[Q]? = w8.heap[Q]?) => cells9 (hb.trans hQ8.out.blk))
                go_wp2_with (at_builtin; refine wpList_append_keep _ rfl _ _ 22 rfl (Q + 1) 26 i0 (.slice none 0 0) 1 24 Try.underlying22 hi hz0 hz1 hz2 rfl (by decide) (.slice fp fl fc) fl fs rfl (HFR.out.alloc _) ⟨w8.heap.size, 0, none⟩ 1 1 [.slice (some ⟨g4, 0, none⟩) (pl + 1) c4] rfl rfl (cell_one_new _ _ _) (fun u hu => by simp at hu; subst hu; rfl) (by unfold maxLen; omega) (by omega) (by simp; omega) ?_; intro v9 w9 hown9 hg9 hv9 ; obtain ⟨p9, c9, rfl⟩ := rowF hown9; have hne9 : (Value.slice fp fl fc).ownBlock ≠ some Q := (fun e => by have := (HFR.out.lt Q e).1; omega); have hblk9 : w9.heap[Q]? = w8.heap[Q]? := (hg9.block Q (by simp; omega) (fun e => hne9 e.symm)).trans (Below.heap_alloc w8 _ Q (by omega)); obtain ⟨_, _, _, _, _, _, _, x79, _, _, y79⟩ := hQ7a.out w9 hblk9; have HQ9 := hide (hQ8.out.found (p := P ++ [k]) HLL.out (by rw [show (nI (P ++ [k])).length = pl + 1 from by (simp [nI]; exact hpl.out)]; exact hOP8.out) (by rw [hfsl]; exact hown9) hg9); have HF9 := hide (hFr8.out.trans hOR.out (((FrG.below (Q := Q) (fv := .slice fp fl fc) ((Below.refl w8.heap.size w8).alloc (Nat.le_refl _) _)).trans (OwnRel.refl _ _) (FrG.grown hg9)).trans (OwnRel.refl _ _) (FrG.set (j := 7) (u := .slice p9 (fl + 1) c9)))); have HO9 : Hid (OwnRel W fv (.slice p9 (fl + 1) c9)) := hOR.out.trans (W1 := w8) (hv9.imp id (fun e => ⟨_, (by simp), e.1⟩)) hFr8.out.size; clear hown9 hg9 hv9 hblk9)
                clear x7 y7 hQ7a HFR HLL hQ8 hFr8 hOP8
                go_wp2
                go_roundw
                case rel => exact ⟨k + 1, met1 + 1, _, by omega, by go_num, by rw [HFE.out]; exact HQ9.out, HF9.out, HO9.out, HM9.out⟩
                case measure => simp [intOf]; omega
        · go_simp
          have hB5 : Below w4.heap.size w4 (w4.alloc (repC 0 false false 0 0)).drew := ((Below.refl _ _).alloc (Nat.le_refl _) _).drew
          have hkp : ∀ j, (w4.alloc (repC 0 false false 0 0)).drew.cell? ⟨Q, j, none⟩ = w4.cell? ⟨Q, j, none⟩ := fun j => hB5.cell (p := ⟨Q, j, none⟩) hQlt
          have hR5 : (w4.alloc (repC 0 false false 0 0)).drew.heap[w4.heap.size]? = some (repC 0 false false 0 0) := heap_alloc_new w4 _
          have hz5 : (w4.alloc (repC 0 false false 0 0)).drew.heap.size = w4.heap.size + 1 := by show (w4.alloc _).heap.size = _; simp
          have hRQ : Q < w4.heap.size := by omega
          have hRw : w4.heap.size ≤ w4.heap.size := by omega
          refine hK9.out _ _ ⟨by rw [hkp]; exact x0, by rw [hkp]; exact x1, by rw [hkp]; exact x2, by rw [hkp]; exact x3⟩ (fun hS => ?_)
          clear hK9
          refine wpAnyH_ready (rs := [9]) (by kernel_rfl) (by simp) ?_
          refine AllReadyH.cons rfl (fun K9 hK9 => ?_) AllReadyH.nil
          go_simp
          refine (HPR.out _ hB5).mono ?_
          rintro e w6 ⟨N9, r9, q9, i9, j9, rfl, hq9, hr9, hb6⟩
          have hB6 : Below w4.heap.size w4 w6 := hB5.trans (hb6.mono (by omega))
          have hkp6 : ∀ j, w6.cell? ⟨Q, j, none⟩ = w4.cell? ⟨Q, j, none⟩ := fun j => hB6.cell (p := ⟨Q, j, none⟩) hQlt
          have hR6 : w6.heap[w4.heap.size]? = some (repC 0 false false 0 0) := (hb6.block w4.heap.size (by omega)).trans hR5
          clear hb6 hB5 hkp hR5 hz5
          refine hK9.out _ _ ⟨by rw [hkp6]; exact x0, by rw [hkp6]; exact x1, by rw [hkp6]; exact x2, by rw [hkp6]; exact x3⟩ (fun hS => ?_)
          clear hK9
          obtain ⟨z0, z1, z2, z3, z4, f0, f1, f2, f3, f4⟩ := cells5 hR6
          have hRR := hide (set5 (a' := .int .i64 N9) (b' := .bool r9) (c' := .bool q9) (d' := .int .i64 i9) (e' := .int .i64 j9) hR6)
          have hB7 := hide (((((hB6.setCell (p := ⟨w4.heap.size, 0, none⟩) hRw (.int .i64 N9)).setCell (p := ⟨w4.heap.size, 1, none⟩) hRw (.bool r9)).setCell (p := ⟨w4.heap.size, 2, none⟩) hRw (.bool q9)).setCell (p := ⟨w4.heap.size, 3, none⟩) hRw (.int .i64 i9)).setCell (p := ⟨w4.heap.size, 4, none⟩) hRw (.int .i64 j9))
          refine wpAnyH_ready (rs := [11]) (by kernel_rfl) (by simp) ?_
          refine AllReadyH.cons rfl (fun K9 hK9 => ?_) AllReadyH.nil
          go_simp
          generalize ((((w6.setCell ⟨w4.heap.size, 0, none⟩ (.int .i64 N9)).setCell ⟨w4.heap.size, 1, none⟩ (.bool r9)).setCell ⟨w4.heap.size, 2, none⟩ (.bool q9)).setCell ⟨w4.heap.size, 3, none⟩ (.int .i64 i9)).setCell ⟨w4.heap.size, 4, none⟩ (.int .i64 j9) = w7 at *
          have HREP : Hid (w7.heap[w4.heap.size]? = some (repC N9 r9 q9 i9 j9)) := hRR.out
          have hkp7 : ∀ j, w7.cell? ⟨Q, j, none⟩ = w4.cell? ⟨Q, j, none⟩ := fun j => hB7.out.cell (p := ⟨Q, j, none⟩) hQlt
          refine hK9.out _ _ ⟨by rw [hkp7]; exact x0, by rw [hkp7]; exact x1, by rw [hkp7]; exact x2, by rw [hkp7]; exact x3⟩ (fun hS => ?_)
          clear z0 z1 z2 z3 z4 f0 f1 f2 f3 f4 hRR hR6 hB6 hkp6 hkp7
          refine wpAnyH_done (by kernel_rfl) ?_ _
          have hQ7 := hide (hQ4.out.below hB7.out)
          have hFr7 := hide (hFr4.out.trans hOR.out (FrG.below (Q := Q) (fv := .slice fp fl fc) hB7.out))
          have hOP7 := hide (owns_below OP4.out hB7.out (Nat.le_refl _))
          obtain ⟨_, k1, k2, _, _, _, _, _, _, _⟩ := cells5 HREP.out
          clear hS x0 x1 x2 x3 x4 x5 x6 x7 x8 y6 y7 hQ4 hFr4 OP4 HPR hK9
          obtain ⟨x0, x1, x2, x3, x4, x5, x6, x7, x8, y6, y7⟩ := cells9 hQ7.out.blk
          have hk1m : (k + 1) * (1 + bnd C l) ≤ C * (1 + bnd C l) := Nat.mul_le_mul_right _ hlt
          have hsm : (k + 1) * (1 + bnd C l) = k * (1 + bnd C l) + (1 + bnd C l) := Nat.succ_mul _ _
          cases q9 with
          | false =>
            have hno : ¬ (tRows G 1 (P ++ [k])).Nodup := fun e => Bool.false_ne_true (hq9.2 e)
            have HS1 : Hid (fnd many F P (solTo G l (tRows G 1 P).reverse (tEnd G 1 P) (k + 1)) = Fk) := by show _ = _; rw [solTo_succ, solBy_no hno, List.append_nil, hFk.out]
            have HM9 : Hid (met1 ≤ met + (k + 1) * (1 + bnd C l)) := by show _ ≤ _; have := hme.out; omega
            clear hk1m hsm hkm
            go_wp2
            go_roundw
            case rel => exact ⟨k + 1, met1, _, by omega, by go_num, by rw [HS1.out]; exact hQ7.out, hFr7.out, hOR.out, HM9.out⟩
            case measure => simp [intOf]; omega
          | true =>
            have hyes := hq9.1 rfl
            have HSY := hide (solBy_yes (l := l) hyes)
            have hQ8 := hide (hQ7.out.meet (met1 + 1))
            have hFr8 := hide (hFr7.out.trans hOR.out (FrG.set (Q := Q) (j := 6) (fv := .slice fp fl fc) (u := .int .i64 ((met1 + 1 : Nat) : Int)) (W := w7)))
            have hOP8 := hide (hQ7.out.path hOP7.out (FrG.set (j := 6) (u := .int .i64 ((met1 + 1 : Nat) : Int))))
            have k18 : (w7.setCell ⟨Q, 6, none⟩ (.int .i64 ((met1 + 1 : Nat) : Int))).cell? ⟨w4.heap.size, 1, none⟩ = some (.bool r9) := by rw [← k1]; exact World.cell?_of_block (w := w7) (Below.heap_setCell _ _ _ _ (by show w4.heap.size ≠ Q; omega))
            rw [show ((met1 + 1 : Nat) : Int) = (met1 : Int) + 1 from by omega] at hQ8 hFr8 hOP8 k18
            have hm9 : Hid (met1 + 1 + bnd C l ≤ 20000) := by show _ ≤ _; have := hme.out; have := HMT.out; rw [hbd.out] at this; omega
            have g7 : ¬ 20000 < (met1 : Int) + 1 := by have := hm9.out; omega
            have HFL2 : Hid (Fk.length < many) := by show _ < _; rw [HFL.out]; exact hfm
            have HMO := hide (fnd_more (F := F) (P := P) (A := solTo G l (tRows G 1 P).reverse (tEnd G 1 P) k) (many := many) (solBy G l (tRows G 1 P).reverse (tEnd G 1 P) k) (by rw [hFk.out]; exact HFL2.out))
            rw [hFk.out, ← solTo_succ] at HMO
            have hmle := hide hme.out
            clear hk1m hkm hQ7 hFr7 hOP7 k1 HREP hB7
            by_cases hl0 : 1 ≤ l
            · have g9 : (pl : Int) + 1 < (leads : Int) := by omega
              have HC9 := hide (HIH.out (P ++ [k]) _ (met1 + 1) Fk (.slice fp fl fc) (.slice (some ⟨g4, 0, none⟩) (pl + 1) c4) hl0 (by rw [List.length_append, hpl.out, List.length_singleton]; omega) hpk hQ8.out (by rw [List.length_append, hpl.out, List.length_singleton]; exact hOP8.out) (by rw [HFL.out]; exact hFkl) hm9.out)
              have HFE : Hid (fnd many Fk (P ++ [k]) (sols G l (tRows G 1 (P ++ [k])).reverse (tEnd G 1 (P ++ [k]))) = fnd many F P (solTo G l (tRows G 1 P).reverse (tEnd G 1 P) (k + 1))) := by
                show _ = _
                rw [fnd_call, ← HSY.out, HMO.out]
              have hs8 := hFr8.out.size
              clear HSY HMO hQ8
              go_wp2_with fail
              refine HC9.out.mono ?_
              rintro e w9 ⟨met2, fv2, rfl, hQ9, hFr9, hOR9, hme9⟩
              rw [HFE.out] at hQ9
              have HQ9 := hide hQ9
              have HF9 := hide (hFr8.out.trans hOR.out hFr9)
              have HO9 := hide (hOR.out.trans hOR9 hs8)
              have HM9 : Hid (met2 ≤ met + (k + 1) * (1 + bnd C l)) := by show _ ≤ _; have := hmle.out; omega
              clear hQ9 hFr9 hOR9 hme9 HC9 hFr8 hsm x0 x1 x2 x3 x4 x5 x6 x7 x8 y6 y7 k2 k18
              go_wp2
              go_roundw
              case rel => exact ⟨k + 1, met2, fv2, by omega, by go_num, HQ9.out, HF9.out, HO9.out, HM9.out⟩
              case measure => simp [intOf]; omega
            · have hl00 : l = 0 := by omega
              have g9 : ¬ (pl : Int) + 1 < (leads : Int) := by omega
              have HM9 : Hid (met1 + 1 ≤ met + (k + 1) * (1 + bnd C l)) := by show _ ≤ _; have := hmle.out; omega
              clear hsm
              cases r9 with
              | false =>
                have hne : ¬ tEnd G 1 (P ++ [k]) = 1 := fun e => Bool.false_ne_true (hr9.2 e)
                have HFE : Hid (fnd many F P (solTo G l (tRows G 1 P).reverse (tEnd G 1 P) (k + 1)) = Fk) := by
                  show _ = _
                  rw [← HMO.out, HSY.out, sols_no hl00 hne, List.map_nil, fnd_nil P (by rw [HFL.out]; exact hFkl)]
                clear HSY HMO
                go_wp2
                go_roundw
                case rel => exact ⟨k + 1, met1 + 1, _, by omega, by go_num, by rw [HFE.out]; exact hQ8.out, hFr8.out, hOR.out, HM9.out⟩
                case measure => simp [intOf]; omega
              | true =>
                have hye := hr9.1 rfl
                have HFE : Hid (fnd many F P (solTo G l (tRows G 1 P).reverse (tEnd G 1 P) (k + 1)) = Fk ++ [P ++ [k]]) := by
                  show _ = _
                  rw [← HMO.out, HSY.out, sols_yes hl00 hye]
                  unfold fnd
                  simp only [List.map_cons, List.map_nil]
                  rw [List.take_of_length_le]
                  have := HFL2.out
                  simp
                  omega
                obtain ⟨fs, hll⟩ := hQ8.out.ll
                have hfsl : fs.length = fl := by rw [hll.len, List.length_map, HFL.out]
                have hfrow := hll.row
                rw [hfsl] at hfrow
                have HFR := hide hfrow
                have HLL := hide hll
                have hs8 := hQ8.out.sz
                clear HSY HMO hll hfrow
                go_upto_region 12 with fail
                generalize w7.setCell ⟨Q, 6, none⟩ (.int .i64 ((met1 : Int) + 1)) = w8 at *
                clear x0 x1 x2 x3 x4 x5 x6 x7 x8 y6 y7 k18 k2
                obtain ⟨_, _, _, _, _, _, _, x7, _, _, y7⟩ := cells9 hQ8.out.blk
                have hQ7a := hide (fun (W9 : World) (hb : W9.heap[Q]? = w8.heap[Q]?) => cells9 (hb.trans hQ8.out.blk))
                go_wp2_with (at_builtin; refine wpList_append_keep _ rfl _ _ 22 rfl (Q + 1) 26 i0 (.slice none 0 0) 1 24 Try.underlying22 hi hz0 hz1 hz2 rfl (by decide) (.slice fp fl fc) fl fs rfl (HFR.out.alloc _) ⟨w8.heap.size, 0, none⟩ 1 1 [.slice (some ⟨g4, 0, none⟩) (pl + 1) c4] rfl rfl (cell_one_new _ _ _) (fun u hu => by simp at hu; subst hu; rfl) (by unfold maxLen; omega) (by omega) (by simp; omega) ?_; intro v9 w9 hown9 hg9 hv9 ; obtain ⟨p9, c9, rfl⟩ := rowF hown9; have hne9 : (Value.slice fp fl fc).ownBlock ≠ some Q := (fun e => by have := (HFR.out.lt Q e).1; omega); have hblk9 : w9.heap[Q]? = w8.heap[Q]? := (hg9.block Q (by simp; omega) (fun e => hne9 e.symm)).trans (Below.heap_alloc w8 _ Q (by omega)); obtain ⟨_, _, _, _, _, _, _, x79, _, _, y79⟩ := hQ7a.out w9 hblk9; have HQ9 := hide (hQ8.out.found (p := P ++ [k]) HLL.out (by rw [show (nI (P ++ [k])).length = pl + 1 from by (simp [nI]; exact hpl.out)]; exact hOP8.out) (by rw [hfsl]; exact hown9) hg9); have HF9 := hide (hFr8.out.trans hOR.out (((FrG.below (Q := Q) (fv := .slice fp fl fc) ((Below.refl w8.heap.size w8).alloc (Nat.le_refl _) _)).trans (OwnRel.refl _ _) (FrG.grown hg9)).trans (OwnRel.refl _ _) (FrG.set (j := 7) (u := .slice p9 (fl + 1) c9)))); have HO9 : Hid (OwnRel W fv (.slice p9 (fl + 1) c9)) := hOR.out.trans (W1 := w8) (hv9.imp id (fun e => ⟨_, (by simp), e.1⟩)) hFr8.out.size; clear hown9 hg9 hv9 hblk9)
                clear x7 y7 hQ7a HFR HLL hQ8 hFr8 hOP8
                go_wp2
                go_roundw
                case rel => exact ⟨k + 1, met1 + 1, _, by omega, by go_num, by rw [HFE.out]; exact HQ9.out, HF9.out, HO9.out, HM9.out⟩
                case measure => simp [intOf]; omega
      · have d1 : decide ((k : Int) < (C : Int)) = true := decide_eq_true (by omega)
        have d2 : decide ((Fk.length : Int) < (many : Int)) = false := decide_eq_false (by omega)
        obtain ⟨B, hB⟩ := solTo_split G l (tRows G 1 P).reverse (tEnd G 1 P) hk
        have HE : Hid (fnd many F P (sols G (l + 1) (tRows G 1 P).reverse (tEnd G 1 P)) = Fk) := by
          show _ = _
          rw [sols_succ, hG, hB, fnd_full B (by rw [hFk.out]; exact hfm), hFk.out]
        clear hB
        generalize hfl9 : Fk.length = fl at *
        clear hfl9
        have HME : Hid (met1 ≤ met + bnd C (l + 1)) := by show _ ≤ _; rw [hbd.out]; have := hme.out; omega
        go_upto_region 1 with fail
        go_quiet (fail)
        have hQ2 := hide (hQ1.out.below (below_drewN (Below.refl _ _) nq))
        have hFr2 := hide (hFr.out.trans hOR.out (FrG.below (Q := Q) (fv := .slice fp fl fc) (below_drewN (Below.refl _ _) nq)))
        clear hQ1 hFr x0 x1 x2 x3 x4 x5 x6 x7 x8 y6 y7
        generalize World.drewN _ nq = w2 at *
        go_wp2
        exact bodyPost_end (results_none rfl _ _ _) rfl ⟨met1, _, rfl, by rw [HE.out]; exact hQ2.out, hFr2.out, hOR.out, HME.out⟩
    · have d1 : decide ((k : Int) < (C : Int)) = false := decide_eq_false (by omega)
      have HE : Hid (fnd many F P (sols G (l + 1) (tRows G 1 P).reverse (tEnd G 1 P)) = Fk) := by
        show _ = _
        rw [sols_succ, hG, show C = k from by omega, hFk.out]
      generalize hfl9 : Fk.length = fl at *
      clear hfl9
      have HME : Hid (met1 ≤ met + bnd C (l + 1)) := by show _ ≤ _; rw [hbd.out]; have := hme.out; omega
      go_upto_region 1 with fail
      go_quiet (fail)
      have hQ2 := hide (hQ1.out.below (below_drewN (Below.refl _ _) nq))
      have hFr2 := hide (hFr.out.trans hOR.out (FrG.below (Q := Q) (fv := .slice fp fl fc) (below_drewN (Below.refl _ _) nq)))
      clear hQ1 hFr x0 x1 x2 x3 x4 x5 x6 x7 x8 y6 y7
      generalize World.drewN _ nq = w2 at *
      go_wp2
      exact bodyPost_end (results_none rfl _ _ _) rfl ⟨met1, _, rfl, by rw [HE.out]; exact hQ2.out, hFr2.out, hOR.out, HME.out⟩

end Go.Proofs.Ytoiiadiimfohiaa

/- Contracts: the answer's Touches; SearchSays where all may be. -/
namespace Go.Proofs.Ytoiiadiimfohiaa
open Go.RowKit
set_option maxRecDepth 20000
set_option linter.unusedVariables false

theorem go_ok (w0 : World) (s : ByteArray) (n : Nat) (mv : Value) (cb co C cc leads many : Nat) (G : List (List Pm × Pm)) (Q : Nat) (hG : G.length = C) (hC : C ≤ 8) (hcc : C ≤ cc) (hcc2 : cc ≤ 9223372036854775807) (hle : leads ≤ 24) (hmy : many ≤ 50) (hmv : ∃ vp K vc, mv = .slice vp K vc) (HP : ProveBy w0 s n mv (.slice (some ⟨cb, co, none⟩) C cc) G C) :
    ∀ (l : Nat) (P : List Nat) (W : World) (met : Nat) (F : List (List Nat)) (fv pv : Value), 1 ≤ l → P.length + l = leads → (∀ c, c ∈ P → c < C) → QR w0 W Q (qC s n mv (.slice (some ⟨cb, co, none⟩) C cc) leads many) met F fv → W.ownsRow (Q + 1) 3 1 pv P.length ((nI P).map (Value.int .i64)) → F.length ≤ many → met + bnd C l ≤ 20000 → Calls Try.prog 50 #[.pointer (some ⟨Q, 0, none⟩), pv] W (GoPost w0 Q (qC s n mv (.slice (some ⟨cb, co, none⟩) C cc) leads many) G many C l P met F fv W)
  | 0 => fun P W met F fv pv h => absurd h (by omega)
  | l + 1 => fun P W met F fv pv _ hPl hPc hQ hpv hF hmt => go_step w0 s n mv cb co C cc leads many G Q hG hC hcc hcc2 hle hmy hmv HP l (go_ok w0 s n mv cb co C cc leads many G Q hG hC hcc hcc2 hle hmy hmv HP l) P W met F fv pv hPl hPc hQ hpv hF hmt

set_option maxHeartbeats 8000000 in
theorem rtouches_ok (s : ByteArray) (n : Nat) (vp : Option Addr) (vc : Nat) (ts : List (List Bool)) (cv : Value) (cs : List (Int × List (List Int))) (SS : List (List (List Bool))) (leads many : Nat) (w : World) (hs : s.size ≤ 1048576) (hn : isN (arunes s) = true) (h1 : 2 ≤ n) (h2 : n ≤ 12) (hl1 : 1 ≤ ts.length) (hl2 : ts.length ≤ 200)
    (hts : ∀ t, t ∈ ts → tsz t = n) (hv : IntsAll w (.slice vp ts.length vc) (ts.map tpl)) (hcv : CallsAt w cv cs) (hco : CallsOk n ts.length cs) (hc1 : 1 ≤ cs.length) (hc2 : cs.length ≤ 3)
    (hSS : ∀ c, c < cs.length → (cs.getD c (0, [])).2 = (SS.getD c []).map tpl ∧ (∀ t, t ∈ SS.getD c [] → tsz t = n) ∧ (SS.getD c []).length ≤ 1) (hm1 : 1 ≤ leads) (hm2 : leads ≤ 6) (hy1 : 1 ≤ many) (hy2 : many ≤ 50) :
    Calls Try.prog 23 #[.agg #[.string s, .int .i64 n, .slice vp ts.length vc], cv, .int .i64 leads, .int .i64 many] w (TouchPost ((sols (gOf n ts SS cs.length) leads [] 1).take many) w) := by
  have HB0 := hide ((Below.refl w.heap.size w).alloc (Nat.le_refl _) (mbox s n (.slice vp ts.length vc)))
  have HCM := hide (by
    have h9 := rcalls_ok s n vp vc (ts.map tpl) cv cs (w.alloc (mbox s n (.slice vp ts.length vc))) hs hn h1 h2 (by rw [List.length_map]; exact hl1) (by rw [List.length_map]; exact hl2) (by rw [List.length_map]; exact hv.below HB0.out) (tile_one hts) (hcv.below HB0.out) (by rw [List.length_map]; exact hco) hc1 (by omega)
    rw [List.length_map] at h9
    exact h9)
  have HPR : Hid (ProveBy w s n (.slice vp ts.length vc) cv (gOf n ts SS cs.length) cs.length) := by
    intro W p pv hW hI hp1 hp2 hp3
    refine (rprove_by s n vp vc ts cv cs SS pv p W h1 h2 hl1 hl2 hts (hv.below hW) (hcv.below hW) hSS hI hp1 (by omega) hp3).mono ?_
    rintro e w' ⟨r, q, i, j, rfl, a, b, c⟩
    exact ⟨_, r, q, i, j, rfl, a, b, c⟩
  have HGL := hide (gOf_length n ts SS cs.length)
  have HBD := hide (bnd_le (N := cs.length) hc2 hm2)
  obtain ⟨cb, co, cc, rfl, _, hcc1, hcc2, _⟩ := hcv
  generalize gOf n ts SS cs.length = G at *
  obtain ⟨C, hC⟩ : ∃ C, Hid (cs.length = C) := ⟨_, rfl⟩
  obtain ⟨K, hK⟩ : ∃ K, Hid (ts.length = K) := ⟨_, rfl⟩
  rw [hC.out, hK.out] at HCM HPR
  rw [hC.out] at HGL HBD hc1 hc2 hcc1 ⊢
  rw [hK.out] at HB0 ⊢
  have HGO := hide (fun Q => go_ok w s n (.slice vp K vc) cb co C cc leads many G Q HGL.out (by omega) hcc1 hcc2 (by omega) hy2 ⟨_, _, _, rfl⟩ HPR.out leads [])
  obtain ⟨d0, d1, d2⟩ := mbox_cells w s n (.slice vp K vc)
  have HFT := hide (fnd_top many (sols G leads [] 1))
  clear hts hv hco hSS HPR
  unfold TouchPost
  generalize hX : (sols G leads [] 1).take many = X at *
  clear hX
  go_enter Try.func23, Try.ntmps23
  go_wp2_with fail
  refine HCM.out.mono ?_
  rintro e w1 ⟨rfl, hb1⟩
  have hs1 : w.heap.size + 1 ≤ w1.heap.size := by have := hb1.size; simpa using this
  have k0 : w1.cell? ⟨w.heap.size, 0, none⟩ = some (.string s) := by rw [hb1.cell (p := ⟨w.heap.size, 0, none⟩) (by simp)]; exact d0
  have k1 : w1.cell? ⟨w.heap.size, 1, none⟩ = some (.int .i64 n) := by rw [hb1.cell (p := ⟨w.heap.size, 1, none⟩) (by simp)]; exact d1
  have k2 : w1.cell? ⟨w.heap.size, 2, none⟩ = some (.slice vp K vc) := by rw [hb1.cell (p := ⟨w.heap.size, 2, none⟩) (by simp)]; exact d2
  have HB1 := hide (HB0.out.trans (hb1.mono HB0.out.size))
  clear hb1 HB0 HCM d0 d1 d2
  have g1 : ¬ (leads : Int) < 1 := by omega
  have g2 : ¬ 24 < (leads : Int) := by omega
  have g3 : ¬ (many : Int) < 1 := by omega
  have g4 : ¬ 50 < (many : Int) := by omega
  have HQ2 : Hid (QR w (w1.alloc (qC s n (.slice vp K vc) (.slice (some ⟨cb, co, none⟩) C cc) leads many 0 (.slice none 0 0))) w1.heap.size (qC s n (.slice vp K vc) (.slice (some ⟨cb, co, none⟩) C cc) leads many) 0 [] (.slice none 0 0)) :=
    ⟨heap_alloc_new w1 _, ⟨[], LL.nil _ _⟩, HB1.out.alloc (by omega) _, by omega, by simp⟩
  have HC9 := hide (HGO.out w1.heap.size _ 0 [] (.slice none 0 0) (.slice none 0 0) hm1 (by simp) (fun c hc => by cases hc) HQ2.out (World.ownsRow_nil _ _ _ _) (by simp) (by have := HBD.out; omega))
  clear HGO HQ2
  go_wp2_with fail
  refine HC9.out.mono ?_
  rintro e w3 ⟨met', fv', rfl, hQ3, _, _, _⟩
  have hF3 : fnd many [] [] (sols G leads (tRows G 1 []).reverse (tEnd G 1 [])) = X := HFT.out
  rw [hF3] at hQ3
  obtain ⟨_, _, _, _, _, _, _, x7, x8, _, _⟩ := cells9 hQ3.blk
  obtain ⟨fs, hll⟩ := hQ3.ll
  obtain ⟨p9, c9, rfl⟩ := rowF hll.row
  have HLL := hide hll
  have HB3 := hide hQ3.bl
  have hlo := hQ3.lo
  clear hll hQ3 HC9
  go_wp2
  go_ret2
  exact ⟨HB3.out, _, _, fs, rfl, by omega, HLL.out⟩

end Go.Proofs.Ytoiiadiimfohiaa

/- The laws SearchSays, where all may be, and SearchMade. -/
namespace Go.Proofs.Ytoiiadiimfohiaa
open Go.RowKit
set_option maxRecDepth 20000
set_option linter.unusedVariables false

def tri : ByteArray := ⟨#[84, 114, 105, 101, 100]⟩

theorem tri_nm : nm tri = true := tried_name
theorem tri_size : tri.size = 5 := rfl
theorem tri_le : tri.size ≤ 1048576 := by rw [tri_size]; omega
theorem tri_le2 : tri.size ≤ 9223372036854775807 := by rw [tri_size]; omega
theorem tri_isN : isN (arunes tri) = true := by decide +kernel

set_option maxHeartbeats 800000 in
theorem searchSays_good (n : Nat) (vp : Option Addr) (vc : Nat) (ts : List (List Bool)) (cv : Value) (cs : List (Int × List (List Int))) (SS : List (List (List Bool))) (leads many : Nat) (w : World) (h1 : 2 ≤ n) (h2 : n ≤ 12) (hl1 : 1 ≤ ts.length) (hl2 : ts.length ≤ 40)
    (hts : ∀ t, t ∈ ts → tsz t = n) (hv : IntsAll w (.slice vp ts.length vc) (ts.map tpl)) (hcv : CallsAt w cv cs) (hco : CallsOk n ts.length cs) (hc1 : 1 ≤ cs.length) (hc2 : cs.length ≤ 3)
    (hSS : ∀ c, c < cs.length → (cs.getD c (0, [])).2 = (SS.getD c []).map tpl ∧ (∀ t, t ∈ SS.getD c [] → tsz t = n) ∧ (SS.getD c []).length ≤ 1) (hm1 : 1 ≤ leads) (hm2 : leads ≤ 5) (hy1 : 1 ≤ many) (hy2 : many ≤ 50) :
    Calls Try.prog 5 #[.agg #[.string tri, .int .i64 n, .slice vp ts.length vc], cv, .int .i64 leads, .int .i64 many] w fun e w' => e = .returned (.bool true) ∧ Below w.heap.size w w' := by
  have HA := hide (fun (W : World) (hW : Below w.heap.size w W) => touches_by tri n vp vc ts cv cs SS leads many W tri_le2 tri_nm h1 h2 hl1 (by omega) hts (hv.below hW) (hcv.below hW) hco hc1 hc2 hSS hm1 (by omega) hy1 hy2)
  have HR := hide (fun (W : World) (hW : Below w.heap.size w W) => rtouches_ok tri n vp vc ts cv cs SS leads many W tri_le tri_isN h1 h2 hl1 (by omega) hts (hv.below hW) (hcv.below hW) hco hc1 hc2 hSS hm1 (by omega) hy1 hy2)
  obtain ⟨cb, co, cc, rfl, _, hcc1, hcc2, _⟩ := hcv
  unfold meth at HA
  unfold TouchPost at HA HR
  generalize ((sols (gOf n ts SS cs.length) leads [] 1).take many).map nI = Z at *
  obtain ⟨C, hC⟩ : ∃ C, Hid (cs.length = C) := ⟨_, rfl⟩
  obtain ⟨K, hK⟩ : ∃ K, Hid (ts.length = K) := ⟨_, rfl⟩
  rw [hC.out, hK.out] at HA HR
  rw [hK.out] at hl1 hl2 ⊢
  rw [hC.out] at hc1 hc2 hcc1 ⊢
  have HB0 := hide ((Below.refl w.heap.size w).alloc (Nat.le_refl _) (mbox tri n (.slice vp K vc)))
  obtain ⟨d0, d1, d2⟩ := mbox_cells w tri n (.slice vp K vc)
  have g1 : ¬ 40 < (K : Int) := by omega
  have g2 : ¬ 5 < (leads : Int) := by omega
  have g3 : ¬ 3 < (C : Int) := by omega
  clear hts hv hco hSS
  generalize tri = s at *
  go_enter Try.func5, Try.ntmps5
  go_wp2_with fail
  refine (HA.out _ HB0.out).mono ?_
  rintro e w1 ⟨hb1, base1, fv1, vs1, rfl, hbs1, hL1⟩
  have k0 : w1.cell? ⟨w.heap.size, 0, none⟩ = some (.string s) := by rw [hb1.cell (p := ⟨w.heap.size, 0, none⟩) (by simp)]; exact d0
  have k1 : w1.cell? ⟨w.heap.size, 1, none⟩ = some (.int .i64 n) := by rw [hb1.cell (p := ⟨w.heap.size, 1, none⟩) (by simp)]; exact d1
  have k2 : w1.cell? ⟨w.heap.size, 2, none⟩ = some (.slice vp K vc) := by rw [hb1.cell (p := ⟨w.heap.size, 2, none⟩) (by simp)]; exact d2
  have HB1 := hide (HB0.out.trans (hb1.mono HB0.out.size))
  have HI1 := hide hL1.ints
  obtain ⟨p1, c1, rfl⟩ := hL1.ints.len
  have HC2 := hide (HR.out w1 HB1.out)
  clear hb1 HB0 HA HR hL1 d0 d1 d2 hbs1
  go_wp2_with fail
  refine HC2.out.mono ?_
  rintro e w2 ⟨hb2, base2, fv2, vs2, rfl, hbs2, hL2⟩
  have HI2 := hide hL2.ints
  obtain ⟨p2, c2, rfl⟩ := hL2.ints.len
  have HB2 := hide (HB1.out.trans (hb2.mono HB1.out.size))
  have HSA : Hid (Calls Try.prog 14 #[.slice p1 Z.length c1, .slice p2 Z.length c2] w2 fun e w' => e = .returned (.bool true) ∧ Below w2.heap.size w2 w') := (sameAll_any _ _ _ _ w2 (HI1.out.below hb2) HI2.out).mono (fun e w' h => ⟨h.1.trans (by simp), h.2⟩)
  clear hb2 HB1 HC2 hL2 hbs2 HI1 HI2 k0 k1 k2
  go_wp2_with fail
  refine HSA.out.mono ?_
  rintro e w3 ⟨rfl, hb3⟩
  have HB3 := hide (HB2.out.trans (hb3.mono HB2.out.size))
  clear hb3 HB2 HSA
  go_wp2
  go_ret
  exact ⟨rfl, HB3.out⟩

end Go.Proofs.Ytoiiadiimfohiaa

/- The law SearchMade. -/
namespace Go.Proofs.Ytoiiadiimfohiaa
open Go.RowKit
set_option maxRecDepth 20000
set_option linter.unusedVariables false

set_option maxHeartbeats 2000000 in
theorem searchMade_walk (v : Value) (xs : List Int) (a1 a2 a3 a4 a5 : Int) (w : World) (hi : Ints w v xs) (hx : ∀ x, x ∈ xs → I64 x) (i1 : I64 a1) (i2 : I64 a2) (i3 : I64 a3) (i4 : I64 a4) (i5 : I64 a5) :
    Calls Try.prog 6 #[v, .int .i64 a1, .int .i64 a2, .int .i64 a3, .int .i64 a4, .int .i64 a5] w fun e w' => e = .returned (.bool true) ∧ Below w.heap.size w w' := by
  obtain ⟨p0, c0, rfl⟩ := hi.form
  by_cases hl : 256 < xs.length
  · clear hi hx
    generalize xs.length = m at *
    go_enter Try.func6, Try.ntmps6
    go_wp2
    go_ret
    exact ⟨rfl, Below.refl _ _⟩
  · have HP1 := hide (fun W => pick_det a1 5 W i1.1 i1.2 (by decide) (by decide))
    have HP2 := hide (fun W => pick_det a2 9 W i2.1 i2.2 (by decide) (by decide))
    have HP3 := hide (fun W => pick_det a3 3 W i3.1 i3.2 (by decide) (by decide))
    have HP4 := hide (fun W => pick_det a4 5 W i4.1 i4.2 (by decide) (by decide))
    have HP5 := hide (fun W => pick_det a5 50 W i5.1 i5.2 (by decide) (by decide))
    have b1 := pk_range a1 (n := 5) (by decide)
    have b2 := pk_range a2 (n := 9) (by decide)
    have b3 := pk_range a3 (n := 3) (by decide)
    have b4 := pk_range a4 (n := 5) (by decide)
    have b5 := pk_range a5 (n := 50) (by decide)
    generalize pk a1 5 = q1 at *
    generalize pk a2 9 = q2 at *
    generalize pk a3 3 = q3 at *
    generalize pk a4 5 = q4 at *
    generalize pk a5 50 = q5 at *
    obtain ⟨n, hn⟩ : ∃ n : Nat, 2 + q1 = (n : Int) := ⟨(q1 + 2).toNat, by omega⟩
    obtain ⟨M, hM⟩ : ∃ M : Nat, 1 + q2 = (M : Int) := ⟨(q2 + 1).toNat, by omega⟩
    obtain ⟨C, hC⟩ : ∃ C : Nat, 1 + q3 = (C : Int) := ⟨(q3 + 1).toNat, by omega⟩
    obtain ⟨N, hN⟩ : ∃ N : Nat, 1 + q4 = (N : Int) := ⟨(q4 + 1).toNat, by omega⟩
    obtain ⟨Y, hY⟩ : ∃ Y : Nat, 1 + q5 = (Y : Int) := ⟨(q5 + 1).toNat, by omega⟩
    have n1 : 2 ≤ n ∧ n ≤ 6 := by omega
    have M1 : 1 ≤ M ∧ M ≤ 9 := by omega
    have C1 : 1 ≤ C ∧ C ≤ 3 := by omega
    have N1 : 1 ≤ N ∧ N ≤ 5 := by omega
    have Y1 : 1 ≤ Y ∧ Y ≤ 50 := by omega
    have HI := hide hi
    have HX := hide hx
    have EN := hide hn
    have EM := hide hM
    have hC9 := hC
    have hN9 := hN
    have hY9 := hY
    have HMO := hide (methodOf_ok _ xs n M w hi hx (by omega) (by omega) (by omega))
    generalize hxl : xs.length = m at *
    have HXL := hide hxl
    clear hi hx hn hM hxl
    go_enter Try.func6, Try.ntmps6
    go_wp2_with fail
    refine (HP1.out _).mono ?_
    rintro e wa ⟨rfl, rfl⟩
    go_wp2_with fail
    refine (HP2.out _).mono ?_
    rintro e wa ⟨rfl, rfl⟩
    go_wp2_with fail
    rw [EN.out, EM.out]
    refine HMO.out.mono ?_
    rintro e w3 ⟨u, vs, ts, rfl, hlen, hts, hLL, hb3⟩
    obtain ⟨up, uc, hue⟩ := hLL.ints.len
    rw [List.length_map] at hue
    subst hue
    subst hlen
    have hbA : Below w.heap.size w (w3.alloc (mbox tri n (.slice up ts.length uc))) := hb3.alloc hb3.size _
    have HV := hide (hLL.ints.below ((Below.refl _ _).alloc (Nat.le_refl _) (mbox tri n (.slice up ts.length uc))))
    have HTS := hide hts
    have hs3 := hb3.size
    obtain ⟨d0, d1, d2⟩ := mbox_cells w3 tri n (.slice up ts.length uc)
    clear hts hLL hb3
    go_upto_region 5 with fail
    change Code.wp _ _ _ _ (w3.alloc (mbox tri n (.slice up ts.length uc)))
    generalize w3.alloc (mbox tri n (.slice up ts.length uc)) = wA at *
    generalize w3.heap.size = B at *
    refine wp_region_held_drew (S := fun W' => W'.cell? ⟨B, 0, none⟩ = some (.string tri) ∧ W'.cell? ⟨B, 1, none⟩ = some (.int .i64 n) ∧ W'.cell? ⟨B, 2, none⟩ = some (.slice up ts.length uc)) (by kernel_rfl) ⟨d0, d1, d2⟩ (fun hS => ?_)
    refine wpAnyH_take (i := 0) (v := .agg #[.string tri, .int .i64 n, .slice up ts.length uc]) rfl (by kernel_rfl) (by kernel_rfl) (by kernel_rfl) (fun _ _ _ h => h) (Or.inl ⟨by kernel_rfl, fun w' hS' => by obtain ⟨q0, q1, q2⟩ := hS'; go_simp⟩) hS ?_
    refine wpAnyH_take (i := 1) (v := .slice p0 m c0) rfl (by kernel_rfl) (by kernel_rfl) (by kernel_rfl) (fun _ _ _ h => h) (Or.inl ⟨by kernel_rfl, fun w' hS' => by obtain ⟨q0, q1, q2⟩ := hS'; go_simp⟩) hS ?_
    refine wpAnyH_take (i := 2) (v := .int .i64 n) rfl (by kernel_rfl) (by kernel_rfl) (by kernel_rfl) (fun _ _ _ h => h) (Or.inl ⟨by kernel_rfl, fun w' hS' => by obtain ⟨q0, q1, q2⟩ := hS'; go_simp⟩) hS ?_
    refine wpAnyH_take (i := 3) (v := .int .i64 a3) rfl (by kernel_rfl) (by kernel_rfl) (by kernel_rfl) (fun _ _ _ h => h) (Or.inl ⟨by kernel_rfl, fun w' hS' => by obtain ⟨q0, q1, q2⟩ := hS'; go_simp⟩) hS ?_
    refine wpAnyH_take (i := 7) (v := .int .i64 a4) rfl (by kernel_rfl) (by kernel_rfl) (by kernel_rfl) (fun _ _ _ h => h) (Or.inl ⟨by kernel_rfl, fun w' hS' => by obtain ⟨q0, q1, q2⟩ := hS'; go_simp⟩) hS ?_
    refine wpAnyH_take (i := 10) (v := .int .i64 a5) rfl (by kernel_rfl) (by kernel_rfl) (by kernel_rfl) (fun _ _ _ h => h) (Or.inl ⟨by kernel_rfl, fun w' hS' => by obtain ⟨q0, q1, q2⟩ := hS'; go_simp⟩) hS ?_
    refine wpAnyH_ready (rs := [4]) (by kernel_rfl) (by simp) ?_
    refine AllReadyH.cons rfl (fun K9 hK9 => ?_) AllReadyH.nil
    go_simp
    refine (HP3.out _).mono ?_
    rintro e wb ⟨rfl, rfl⟩
    refine hK9.out _ _ hS (fun hS => ?_)
    clear hK9
    refine wpAnyH_take (i := 5) (v := .int .i64 (C : Int)) rfl (by kernel_rfl) (by kernel_rfl) (by kernel_rfl) (fun _ _ _ h => h) (Or.inl ⟨by kernel_rfl, fun w' hS' => by obtain ⟨q0, q1, q2⟩ := hS'; go_simp; (try (rw [IntKind.wrap_i64]; omega))⟩) hS ?_
    refine wpAnyH_ready (rs := [6]) (by kernel_rfl) (by simp) ?_
    refine AllReadyH.cons rfl (fun K9 hK9 => ?_) AllReadyH.nil
    go_simp
    have hbD : Below w.heap.size w wA.drew := hbA.drew
    refine (callsOf_ok _ xs n C wA.drew (HI.out.below hbD) HX.out (by omega) (by omega) C1.1 (by omega)).mono ?_
    rintro e w4 ⟨cv, es, rfl, hel, hO4, hC4, hb4⟩
    have hb4' : Below wA.heap.size wA w4 := (Below.refl _ _).drew.trans hb4
    have hB4 : Below w.heap.size w w4 := hbA.trans (hb4'.mono hbA.size)
    have hlA : B < wA.heap.size := World.block_lt_of_cell? wA _ d0
    have hkp : ∀ j, w4.cell? ⟨B, j, none⟩ = wA.cell? ⟨B, j, none⟩ := fun j => hb4'.cell (p := ⟨B, j, none⟩) hlA
    refine hK9.out _ _ ⟨by rw [hkp]; exact d0, by rw [hkp]; exact d1, by rw [hkp]; exact d2⟩ (fun hS => ?_)
    clear hK9
    have hCA := hC4.calls (by rw [hel]; exact hO4) (by omega)
    have hCK := hC4.callsOk (K := ts.length) (by omega) M1.1
    obtain ⟨SS, hSS⟩ := hC4.tiles
    have hcl : (ceCalls es).length = C := by rw [← hel]; simp [ceCalls]
    rw [hel, ← hcl] at hSS
    have HV4 := hide (HV.out.below hb4')
    have HCA := hide hCA
    have HCK := hide hCK
    have HSS := hide hSS
    clear hCA hCK hSS hC4 hO4 HV hb4 hb4' hbD hkp
    generalize ceCalls es = cs at *
    have HSG := hide (fun (W : World) (hW : Below w4.heap.size w4 W) => searchSays_good n up uc ts cv cs SS N Y W n1.1 (by omega) M1.1 (by omega) HTS.out (HV4.out.below hW) (HCA.out.below hW) HCK.out (by rw [hcl]; exact C1.1) (by rw [hcl]; exact C1.2) HSS.out N1.1 N1.2 Y1.1 Y1.2)
    refine wpAnyH_ready (rs := [8]) (by kernel_rfl) (by simp) ?_
    refine AllReadyH.cons rfl (fun K9 hK9 => ?_) AllReadyH.nil
    go_simp
    refine (HP4.out _).mono ?_
    rintro e wb ⟨rfl, rfl⟩
    refine hK9.out _ _ hS (fun hS => ?_)
    clear hK9
    refine wpAnyH_take (i := 9) (v := .int .i64 (N : Int)) rfl (by kernel_rfl) (by kernel_rfl) (by kernel_rfl) (fun _ _ _ h => h) (Or.inl ⟨by kernel_rfl, fun w' hS' => by obtain ⟨q0, q1, q2⟩ := hS'; go_simp; (try (rw [IntKind.wrap_i64]; omega))⟩) hS ?_
    refine wpAnyH_ready (rs := [11]) (by kernel_rfl) (by simp) ?_
    refine AllReadyH.cons rfl (fun K9 hK9 => ?_) AllReadyH.nil
    go_simp
    refine (HP5.out _).mono ?_
    rintro e wb ⟨rfl, rfl⟩
    refine hK9.out _ _ hS (fun hS => ?_)
    clear hK9
    refine wpAnyH_take (i := 12) (v := .int .i64 (Y : Int)) rfl (by kernel_rfl) (by kernel_rfl) (by kernel_rfl) (fun _ _ _ h => h) (Or.inl ⟨by kernel_rfl, fun w' hS' => by obtain ⟨q0, q1, q2⟩ := hS'; go_simp; (try (rw [IntKind.wrap_i64]; omega))⟩) hS ?_
    refine wpAnyH_ready (rs := [13]) (by kernel_rfl) (by simp) ?_
    refine AllReadyH.cons rfl (fun K9 hK9 => ?_) AllReadyH.nil
    go_simp
    refine (HSG.out w4 (Below.refl _ _)).mono ?_
    rintro e w7 ⟨rfl, hb7⟩
    have hlB : B < w4.heap.size := World.block_lt_of_cell? w4 _ hS.1
    have hkp7 : ∀ j, w7.cell? ⟨B, j, none⟩ = w4.cell? ⟨B, j, none⟩ := fun j => hb7.cell (p := ⟨B, j, none⟩) hlB
    refine hK9.out _ _ ⟨by rw [hkp7]; exact hS.1, by rw [hkp7]; exact hS.2.1, by rw [hkp7]; exact hS.2.2⟩ (fun hS => ?_)
    clear hK9
    refine wpAnyH_take (i := 14) (v := .bool true) rfl (by kernel_rfl) (by kernel_rfl) (by kernel_rfl) (fun _ _ _ h => h) (Or.inl ⟨by kernel_rfl, fun w' hS' => by obtain ⟨q0, q1, q2⟩ := hS'; go_simp⟩) hS ?_
    refine wpAnyH_done (by kernel_rfl) ?_ _
    have HB7 := hide (hB4.trans (hb7.mono hB4.size))
    clear hS hb7 HSG HV4 HCA HCK HSS hkp7
    go_wp2
    go_ret
    exact ⟨rfl, HB7.out⟩

end Go.Proofs.Ytoiiadiimfohiaa
