/- Plain: when a part is normal; how many rows few bells have. Append of rows that may be nil. -/
import Derived.Test.YtbddhpbeekioiaaSizW
import Derived.Test.YtbddhpbeekioiaaNormalC
namespace Go.Proofs.Ytbddhpbeekioiaa
open Go.RowKit

theorem conj_gen {H : Pm → Prop} (hH : Sub H) {hs : Pm → Prop} {x : Pm} (h : ∀ y, hs y → H (x * y * x⁻¹)) {y : Pm} (hy : Gen hs y) : H (x * y * x⁻¹) := by
  induction hy with
  | one => rw [Pm.mul_one, Pm.mul_inv]; exact hH.one
  | @mul s y hs' _ ih =>
    have e : x * (s * y) * x⁻¹ = (x * s * x⁻¹) * (x * y * x⁻¹) := by
      rw [Pm.mul_assoc (x * s), ← Pm.mul_assoc x⁻¹, ← Pm.mul_assoc x⁻¹, Pm.inv_mul, Pm.one_mul, ← Pm.mul_assoc, ← Pm.mul_assoc, Pm.mul_assoc x s]
    rw [e]
    exact hH.mul (h s hs') ih

theorem normal_all {gs hs : Pm → Prop} (h : ∀ x, gs x → ∀ y, hs y → Gen hs (x * y * x⁻¹)) {x : Pm} (hx : Gen gs x) : ∀ y, Gen hs y → Gen hs (x * y * x⁻¹) := by
  induction hx with
  | one => intro y hy; rw [Pm.one_mul, Pm.inv_one, Pm.mul_one]; exact hy
  | @mul s x hs' _ ih =>
    intro y hy
    have e : s * x * y * (s * x)⁻¹ = s * (x * y * x⁻¹) * s⁻¹ := by
      rw [Pm.inv_prod, ← Pm.mul_assoc, ← Pm.mul_assoc, ← Pm.mul_assoc]
    rw [e]
    exact conj_gen (Gen.sub hs) (fun y hy => h s hs' y hy) (ih y hy)

theorem rkP_lt {n : Nat} (x : Pm) (h12 : n ≤ 12) : rkP n x < fct n := by
  unfold rkP
  have h := rankR_lt (cut n x)
  rw [← rkTo_all, cut_length h12] at h
  exact h

theorem RunOk.few {n : Nat} {xss : List (List Int)} {S : List (Pm × List Int)} (h12 : n ≤ 12) (h : RowsN n xss) (hS : RunOk (letters 0 xss) S) : S.length ≤ fct n := by
  have hn : (S.map (fun e => rkP n e.1)).Nodup := by
    have h1 := hS.nodup
    have hf : ∀ e, e ∈ S → Fixes (fun b => n ≤ b) e.1 := fun e he => hS.fix h12 h he
    clear hS
    induction S with
    | nil => simp
    | cons e S ih =>
      rw [List.map_cons, List.nodup_cons] at h1 ⊢
      refine ⟨fun hm => h1.1 ?_, ih h1.2 (fun e he => hf e (List.mem_cons_of_mem _ he))⟩
      obtain ⟨e', he', h2⟩ := List.mem_map.1 hm
      exact List.mem_map.2 ⟨e', he', rkP_inj h12 (hf e' (List.mem_cons_of_mem _ he')) (hf e List.mem_cons_self) h2⟩
  have := nodup_len (S.map (fun e => rkP n e.1)) (List.range (fct n)) hn (fun b hb => by
    obtain ⟨e, _, rfl⟩ := List.mem_map.1 hb
    exact List.mem_range.2 (rkP_lt e.1 h12))
  rwa [List.length_map, List.length_range] at this

theorem fct_five {n : Nat} (h : n ≤ 5) : fct n ≤ 120 := by
  have key : ∀ k, k < 6 → fct k ≤ 120 := by decide
  exact key n (by omega)

/-- Sizes tell whether all of the second are in the first. -/
theorem sizes_tell {n : Nat} {gss sss : List (List Int)} (h12 : n ≤ 12) (hg : RowsN n gss) (hs : RowsN n sss) :
    sz (Gen (fun y => y ∈ (gss ++ sss).map pad)) n = sz (Gen (fun y => y ∈ gss.map pad)) n ↔ ∀ y, y ∈ sss.map pad → Gen (fun y => y ∈ gss.map pad) y := by
  have hsub : ∀ x, Gen (fun y => y ∈ gss.map pad) x → Gen (fun y => y ∈ (gss ++ sss).map pad) x := fun x => Gen.mono (fun y hy => by rw [List.map_append]; exact List.mem_append_left _ hy)
  constructor
  · intro he y hy
    refine sz_all (Gen.sub _) (Gen.sub _) hsub h12 (fun x hx => hx.least (fixes_sub _) (fun s hs' => ?_)) he.symm y (Gen.of (by rw [List.map_append]; exact List.mem_append_right _ hy))
    obtain ⟨Z, hZ, rfl⟩ := List.mem_map.1 hs'
    rcases List.mem_append.1 hZ with hZ | hZ
    · exact pad_fixes h12 (hg Z hZ).2 (hg Z hZ).1
    · exact pad_fixes h12 (hs Z hZ).2 (hs Z hZ).1
  · intro h
    refine sz_congr (fun x => ⟨fun hx => hx.least (Gen.sub _) (fun s hs' => ?_), hsub x⟩) n
    rw [List.map_append] at hs'
    rcases List.mem_append.1 hs' with h1 | h1
    · exact Gen.of h1
    · exact h s h1

theorem run_append_nil_nil {P : Program} (w : World) (t ty e : TypeId) (i : TypeInfo) (ht : P.underlying t = some (.slice e)) (hi : P.info? e = some i) :
    (Builtin.append_ #[t, t] ty #[.slice none 0 0, .slice none 0 0]).run P w = .ok (.slice none 0 0) w := by
  simp [Builtin.append_, run_underlying ht, sizeOf, typeInfo, hi, Builtin.lenOf, Builtin.firstCells]

/-- 'append(a, b...)', both owned, nil or not. -/
theorem wpList_append_more {P : Program} {w : World} {ops : Array Oper} {rest : List Oper} {o : Oper} {a : Act} {Q : Exit → Act → World → Prop} (hgd : o.guard = none) (s x : Operand) (t : TypeId)
    (ho : o.op = .call { callee := .builtin .append, args := #[s, x], argTypes := #[t, t] })
    (base base' : Nat) (e : TypeId) (i : TypeInfo) (z : Value) (bytes : Nat) (ht : P.underlying t = some (.slice e)) (hi : P.info? e = some i) (hz : i.zero = some z)
    (hsize : i.size = 1) (hby : i.bytes = bytes) (hzs : z.cells.size = 1)
    (v : Value) (n : Nat) (xs : List Value) (hs : a.eval s = v) (hown : w.ownsRow base e 1 v n xs)
    (u : Value) (m : Nat) (news : List Value) (hx : a.eval x = u) (hsrc : w.ownsRow base' e 1 u m news) (h1 : ∀ u ∈ news, u.oneCell' = true)
    (h63 : n + m ≤ maxLen) (hbytes : (n + m) * bytes ≤ 140737488355328) (hbase : base ≤ w.heap.size)
    (h : ∀ v' w', w'.ownsRow base e 1 v' (n + m) (xs ++ news) → w.grownBy w' v.ownBlock → wpList P ops Q rest (a.put o.dst v') w') :
    wpList P ops Q (o :: rest) a w := by
  rcases hsrc.2 with ⟨rfl, rfl⟩ | ⟨g', cap, cur, rfl, hbg, hg, hnc, hcm, hcs, htake⟩
  · have hn : news = [] := List.length_eq_zero_iff.1 (by have := hsrc.1; omega)
    subst hn
    rw [Nat.add_zero, List.append_nil] at h
    have hr : w.grownBy w v.ownBlock := ⟨rfl, rfl, rfl, Nat.le_refl _, fun _ _ _ => rfl⟩
    rcases hown.2 with ⟨rfl, rfl⟩ | ⟨g2, cap2, cur2, rfl, _, _, hnc2, _⟩
    · refine wpList_plain hgd fun K hK => ?_
      have hrun := run_append_nil_nil (P := P) w t o.type e i ht hi
      unfold Oper.wp execOp
      simp only [ho, resolve, invoke, builtin, Sem.run_bind, Sem.run_pure, Result.andThen_ok, List.map_toArray, List.map_cons, List.map_nil, hs, hx, hrun]
      exact hK _ _ (h _ _ hown hr)
    · exact wpList_append_nothing w hgd s x t ho e i ht hi _ n cap2 hnc2 hs hx (h _ _ hown hr)
  · refine wpList_append_own w hgd s x t ho base e i z 1 bytes ht hi hz hsize hby hzs (by decide) v n xs hs hown ⟨g', 0, none⟩ m cap news hx (by rw [hsrc.1]) (hsrc.cells (g := g') rfl) h1 h63 hbytes hbase ?_
    intro v' w' h2 h3 _
    exact h v' w' h2 h3

theorem OwnAll.join {w : World} {base : Nat} {vs : List Value} {ys : List (List Int)} (h2 : OwnAll w base vs ys) : ∀ {us : List Value} {xs : List (List Int)}, OwnAll w base us xs → OwnAll w base (us ++ vs) (xs ++ ys)
  | [], [], _ => h2
  | _ :: _, _ :: _, ⟨h1, h3⟩ => ⟨h1, OwnAll.join h2 h3⟩

theorem OwnAll.low {w : World} {base base' : Nat} (hb : base' ≤ base) : ∀ {us : List Value} {xs : List (List Int)}, OwnAll w base us xs → OwnAll w base' us xs
  | [], [], _ => trivial
  | _ :: _, _ :: _, ⟨h1, h2⟩ => ⟨owns_base h1 hb, OwnAll.low hb h2⟩

theorem OwnAll.cells {w : World} {base : Nat} : ∀ {us : List Value} {xs : List (List Int)}, OwnAll w base us xs → ∀ u, u ∈ us → u.oneCell' = true
  | [], [], _, u, hu => by cases hu
  | _ :: _, _ :: _, ⟨h1, h2⟩, u, hu => by
    rcases List.mem_cons.1 hu with rfl | hu
    · rcases h1.2 with ⟨rfl, _⟩ | ⟨_, _, _, rfl, _⟩
      · rfl
      · rfl
    · exact OwnAll.cells h2 u hu

/-- How far the pairs have been gone through: all of them well? -/
def PairOk (S1 S2 : List (Pm × List Int)) (a b : Nat) : Prop := ∀ e s, S1[a]? = some e → S2[b]? = some s → e.1 * s.1 * e.1⁻¹ ∈ S2.map (·.1)

def PairsTo (S1 S2 : List (Pm × List Int)) (i j : Nat) (t : Bool) : Prop := t = true ↔ ∀ a b, (a < i ∨ (a = i ∧ b < j)) → PairOk S1 S2 a b

theorem PairsTo.start (S1 S2 : List (Pm × List Int)) : PairsTo S1 S2 0 0 true := ⟨fun _ a b h => by omega, fun _ => rfl⟩

theorem PairsTo.next {S1 S2 : List (Pm × List Int)} {i : Nat} {t : Bool} (h : PairsTo S1 S2 i S2.length t) : PairsTo S1 S2 (i + 1) 0 t := by
  refine h.trans ⟨fun h1 a b hab e s he hs => ?_, fun h1 a b hab => h1 a b (by omega)⟩
  have hb := (List.getElem?_eq_some_iff.1 hs).1
  exact h1 a b (by omega) e s he hs

theorem PairsTo.yes {S1 S2 : List (Pm × List Int)} {i j : Nat} (h : PairsTo S1 S2 i j true) (c : Bool) (hc : c = true ↔ PairOk S1 S2 i j) : PairsTo S1 S2 i (j + 1) c := by
  refine hc.trans ⟨fun h1 a b hab => ?_, fun h1 => h1 i j (Or.inr ⟨rfl, by omega⟩)⟩
  by_cases hlt : a < i ∨ (a = i ∧ b < j)
  · exact (h.1 rfl) a b hlt
  · have e1 : a = i := by omega
    have e2 : b = j := by omega
    subst e1; subst e2; exact h1

theorem PairsTo.no {S1 S2 : List (Pm × List Int)} {i j : Nat} (h : PairsTo S1 S2 i j false) : PairsTo S1 S2 i (j + 1) false := by
  refine ⟨fun h1 => (by cases h1), fun h1 => ?_⟩
  have := h.2 (fun a b hab => h1 a b (by omega))
  cases this

/-- At the end: it is told whether the part is normal. -/
theorem PairsTo.tell {S1 S2 : List (Pm × List Int)} {t : Bool} {gss sss : List (List Int)} (h : PairsTo S1 S2 S1.length 0 t) (h1 : Run (letters 0 gss) S1.length S1) (h2 : Run (letters 0 sss) S2.length S2) :
    t = true ↔ ∀ x, x ∈ gss.map pad → ∀ y, y ∈ sss.map pad → Gen (fun z => z ∈ sss.map pad) (x * y * x⁻¹) := by
  have a1 : ∀ x, x ∈ S1.map (·.1) ↔ Gen (fun y => y ∈ gss.map pad) x := fun x => (h1.all (Nat.le_refl _) x).trans (letters_gen 0 gss x)
  have a2 : ∀ x, x ∈ S2.map (·.1) ↔ Gen (fun y => y ∈ sss.map pad) x := fun x => (h2.all (Nat.le_refl _) x).trans (letters_gen 0 sss x)
  refine h.trans ⟨fun hp x hx y hy => ?_, fun hn a b _ e s he hs => ?_⟩
  · obtain ⟨e, he, rfl⟩ := List.mem_map.1 ((a1 x).2 (Gen.of hx))
    obtain ⟨s, hs, rfl⟩ := List.mem_map.1 ((a2 y).2 (Gen.of hy))
    obtain ⟨a, ha, ea⟩ := List.getElem_of_mem he
    obtain ⟨b, hb, eb⟩ := List.getElem_of_mem hs
    exact (a2 _).1 (hp a b (Or.inl ha) e s (by rw [List.getElem?_eq_getElem ha, ea]) (by rw [List.getElem?_eq_getElem hb, eb]))
  · have he' := (a1 e.1).1 (List.mem_map.2 ⟨e, List.mem_of_getElem? he, rfl⟩)
    have hs' := (a2 s.1).1 (List.mem_map.2 ⟨s, List.mem_of_getElem? hs, rfl⟩)
    exact (a2 _).2 (normal_all (gs := fun y => y ∈ gss.map pad) (hs := fun y => y ∈ sss.map pad) hn he' s.1 hs')

end Go.Proofs.Ytbddhpbeekioiaa
