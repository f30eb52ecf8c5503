/- Joined: CoA, XtB, CoB, CoC, GeT, GeU, CoD, CoE, CoF, CoG, CoH, KoC, KoD, ExB, CoI, Orl, Cln, CoJ, ExC. -/
import Derived.Test.YtahffpgadoiijaaGreatJ9
import Derived.Test.YtahffpgadoiijaaGreatJ1
import Derived.Test.YtahffpgadoiijaaGreatJ6
import Derived.Test.YtahffpgadoiijaaGreatJ8
import Derived.Test.YtahffpgadoiijaaGreatJ4
import Derived.Deep.QuietTactic
import Derived.Test.YtahffpgadoiijaaGreatJ5
import Derived.BigQuiet
import Derived.Deep.CutBlock
import Derived.Test.YtahffpgadoiijaaGreatJ0
import Derived.Deep.RegionHeld3
/- Plain: parts of a group: the least of what undoes a part's rows; how parts are found. -/
namespace Go.Proofs.YtahffpgadoiijaaGreat

/-- What undoes the rows of x's part: the least of them. -/
structure MinOf (H : Pm → Prop) (n : Nat) (x y : Pm) : Prop where
  part : H (x * y)
  least : ∀ p, p < n → ∀ c, Low H p c → y.act p ≤ y.act (c.act p)

theorem MinOf.unique {H : Pm → Prop} (hH : Sub H) {n : Nat} (hf : ∀ h, H h → Fixes (fun b => n ≤ b) h) {x x' y y' : Pm} (h : MinOf H n x y) (h' : MinOf H n x' y') (hx : H (x' * x⁻¹)) : y = y' := by
  have hc : H (y⁻¹ * y') := by
    have h1 := hH.mul (hH.mul (hH.inv h.part) (hH.inv hx)) h'.part
    rw [Pm.inv_prod, Pm.inv_prod, Pm.inv_inv] at h1
    have e : y⁻¹ * x⁻¹ * (x * x'⁻¹) * (x' * y') = y⁻¹ * y' := by
      rw [Pm.mul_assoc, Pm.mul_assoc, Pm.mul_assoc, ← Pm.mul_assoc x'⁻¹, Pm.inv_mul, Pm.one_mul, ← Pm.mul_assoc x⁻¹, Pm.inv_mul, Pm.one_mul]
    rwa [e] at h1
  have e1 : ∀ b, y'.act b = y.act ((y⁻¹ * y').act b) := fun b => by rw [← Pm.act_mul, Pm.mul_inv_cancel]
  have e2 : ∀ b, y.act b = y'.act ((y⁻¹ * y')⁻¹.act b) := fun b => by
    rw [← Pm.act_mul, Pm.inv_prod, Pm.inv_inv, Pm.mul_inv_cancel]
  have key : ∀ p, p ≤ n → ∀ b, b < p → (y⁻¹ * y').act b = b := by
    intro p
    induction p with
    | zero => intro _ b hb; omega
    | succ p ih =>
      intro hp b hb
      by_cases e : b = p
      · subst e
        have hl : Low H b (y⁻¹ * y') := ⟨hc, ih (by omega)⟩
        have a1 := h.least b (by omega) _ hl
        have a2 := h'.least b (by omega) _ ((low_sub hH b).inv hl)
        rw [← e1] at a1
        rw [← e2] at a2
        have e3 : y.act ((y⁻¹ * y').act b) = y.act b := by rw [← e1]; omega
        exact y.act_inj e3
      · exact ih (by omega) b (by omega)
  have hone : y⁻¹ * y' = 1 := Pm.ext' (fun b _ => by
    rw [Pm.act_one]
    rcases Nat.lt_or_ge b n with hb | hb
    · exact key n (Nat.le_refl _) b hb
    · exact hf _ hc b hb)
  have := Pm.mul_inv_cancel y y'
  rw [hone, Pm.mul_one] at this
  exact this

theorem MinOf.same {H : Pm → Prop} (hH : Sub H) {n : Nat} {x x' y : Pm} (h : MinOf H n x y) (h' : MinOf H n x' y) : H (x' * x⁻¹) := by
  have := hH.mul h'.part (hH.inv h.part)
  rwa [Pm.inv_prod, Pm.mul_assoc, Pm.mul_inv_cancel] at this

/-- A least one of some numbers. -/
theorem least_of {α : Type} (P : α → Prop) (f : α → Nat) : ∀ (m : Nat) (a : α), P a → f a ≤ m → ∃ c, P c ∧ ∀ d, P d → f c ≤ f d
  | 0, a, ha, hm => ⟨a, ha, fun d _ => by omega⟩
  | m + 1, a, ha, hm => by
    by_cases h : ∃ d, P d ∧ f d < f a
    · obtain ⟨d, hd, hlt⟩ := h
      exact least_of P f m d hd (by omega)
    · exact ⟨a, ha, fun d hd => by rcases Nat.lt_or_ge (f d) (f a) with h1 | h1; exact absurd ⟨d, hd, h1⟩ h; exact h1⟩

/-- One place more. -/
structure MinTo (H : Pm → Prop) (k : Nat) (x y : Pm) : Prop where
  part : H (x * y)
  least : ∀ p, p < k → ∀ c, Low H p c → y.act p ≤ y.act (c.act p)

theorem MinTo.start {H : Pm → Prop} (hH : Sub H) (x : Pm) : MinTo H 0 x x⁻¹ := ⟨by rw [Pm.mul_inv]; exact hH.one, fun p hp => by omega⟩

theorem MinTo.step {H : Pm → Prop} (hH : Sub H) {k : Nat} {x y c : Pm} (h : MinTo H k x y) (hc : Low H k c) (hl : ∀ d, Low H k d → y.act (c.act k) ≤ y.act (d.act k)) : MinTo H (k + 1) x (y * c) := by
  refine ⟨by rw [← Pm.mul_assoc]; exact hH.mul h.part hc.1, fun p hp d hd => ?_⟩
  by_cases e : p = k
  · subst e
    rw [Pm.act_mul, Pm.act_mul, ← Pm.act_mul c d]
    exact hl _ ((low_sub hH p).mul hc hd)
  · have hcp : Low H p c := ⟨hc.1, fun b hb => hc.2 b (by omega)⟩
    rw [Pm.act_mul, Pm.act_mul, hc.2 p (by omega), ← Pm.act_mul c d]
    exact h.least p (by omega) _ ((low_sub hH p).mul hcp hd)

theorem MinTo.stay {H : Pm → Prop} {k : Nat} {x y : Pm} (h : MinTo H k x y) (hl : ∀ d, Low H k d → y.act k ≤ y.act (d.act k)) : MinTo H (k + 1) x y :=
  ⟨h.part, fun p hp d hd => by
    by_cases e : p = k
    · subst e; exact hl d hd
    · exact h.least p (by omega) d hd⟩

theorem MinTo.exists {H : Pm → Prop} (hH : Sub H) (x : Pm) : ∀ k, ∃ y, MinTo H k x y
  | 0 => ⟨_, MinTo.start hH x⟩
  | k + 1 => by
    obtain ⟨y, hy⟩ := MinTo.exists hH x k
    obtain ⟨c, hc, hl⟩ := least_of (Low H k) (fun c => y.act (c.act k)) _ 1 (low_sub hH k).one (Nat.le_refl _)
    exact ⟨_, hy.step hH hc hl⟩

theorem MinTo.of {H : Pm → Prop} {n : Nat} {x y : Pm} (h : MinTo H n x y) : MinOf H n x y := ⟨h.part, h.least⟩

/-- A part's mark. -/
noncomputable def mkY (H : Pm → Prop) (n : Nat) (x : Pm) : Pm := open Classical in if h : ∃ y, MinOf H n x y then Classical.choose h else 1

noncomputable def mkN (H : Pm → Prop) (n : Nat) (x : Pm) : Nat := rkP n (mkY H n x)

theorem mkY_min {H : Pm → Prop} (hH : Sub H) (n : Nat) (x : Pm) : MinOf H n x (mkY H n x) := by
  have h : ∃ y, MinOf H n x y := by obtain ⟨y, hy⟩ := MinTo.exists hH x n; exact ⟨y, hy.of⟩
  unfold mkY
  rw [dif_pos h]
  exact Classical.choose_spec h

theorem MinOf.fix {H : Pm → Prop} {n : Nat} (hf : ∀ h, H h → Fixes (fun b => n ≤ b) h) {x y : Pm} (hx : Fixes (fun b => n ≤ b) x) (h : MinOf H n x y) : Fixes (fun b => n ≤ b) y := by
  have := (fixes_sub (fun b => n ≤ b)).mul ((fixes_sub (fun b => n ≤ b)).inv hx) (hf _ h.part)
  rwa [Pm.inv_mul_cancel] at this

theorem mkN_of {H : Pm → Prop} (hH : Sub H) {n : Nat} (hf : ∀ h, H h → Fixes (fun b => n ≤ b) h) {x y : Pm} (h : MinOf H n x y) : rkP n y = mkN H n x := by
  unfold mkN
  rw [h.unique hH hf (mkY_min hH n x) (by rw [Pm.mul_inv]; exact hH.one)]

theorem mkN_eq {H : Pm → Prop} (hH : Sub H) {n : Nat} (h12 : n ≤ 12) (hf : ∀ h, H h → Fixes (fun b => n ≤ b) h) {x x' : Pm} (hx : Fixes (fun b => n ≤ b) x) (hx' : Fixes (fun b => n ≤ b) x') : mkN H n x = mkN H n x' ↔ H (x' * x⁻¹) := by
  constructor
  · intro h
    have e := rkP_inj h12 ((mkY_min hH n x).fix hf hx) ((mkY_min hH n x').fix hf hx') h
    have h1 := mkY_min hH n x
    rw [e] at h1
    exact h1.same hH (mkY_min hH n x')
  · intro h
    unfold mkN
    rw [(mkY_min hH n x).unique hH hf (mkY_min hH n x') h]

/-! parts, found one behind the other -/

/-- Which part a row is of, among those found; as many as there are, if of none. -/
noncomputable def cix (H : Pm → Prop) (T : List (Pm × List Int)) (r : Pm) : Nat := open Classical in T.findIdx (fun d => decide (H (r * d.1⁻¹)))

theorem cix_le (H : Pm → Prop) (T : List (Pm × List Int)) (r : Pm) : cix H T r ≤ T.length := List.findIdx_le_length

theorem cix_at {H : Pm → Prop} {T : List (Pm × List Int)} {r : Pm} (h : cix H T r < T.length) : ∃ d, T[cix H T r]? = some d ∧ H (r * d.1⁻¹) := by
  classical
  refine ⟨T[cix H T r], List.getElem?_eq_getElem h, ?_⟩
  have := List.findIdx_getElem (p := fun d : Pm × List Int => decide (H (r * d.1⁻¹))) (w := h)
  exact of_decide_eq_true this

theorem cix_none {H : Pm → Prop} {T : List (Pm × List Int)} {r : Pm} (h : ¬ cix H T r < T.length) : ∀ d, d ∈ T → ¬ H (r * d.1⁻¹) := by
  classical
  intro d hd hH
  exact h (List.findIdx_lt_length.2 ⟨d, hd, decide_eq_true hH⟩)

/-- One letter tried on a part. -/
noncomputable def tryC (H : Pm → Prop) (e : Pm × List Int) (s : List (Pm × List Int) × List Nat) (l : Int × Pm) : List (Pm × List Int) × List Nat :=
  (if cix H s.1 (e.1 * l.2) < s.1.length then s.1 else s.1 ++ [(e.1 * l.2, e.2 ++ [l.1])], s.2 ++ [cix H s.1 (e.1 * l.2)])

noncomputable def tryCs (H : Pm → Prop) (L : List (Int × Pm)) (e : Pm × List Int) (T : List (Pm × List Int)) (j : Nat) : List (Pm × List Int) × List Nat := (L.take j).foldl (tryC H e) (T, [])

theorem tryCs_zero (H : Pm → Prop) (L : List (Int × Pm)) (e : Pm × List Int) (T : List (Pm × List Int)) : tryCs H L e T 0 = (T, []) := by unfold tryCs; rw [List.take_zero]; rfl

theorem tryCs_succ {H : Pm → Prop} {L : List (Int × Pm)} {e : Pm × List Int} {T : List (Pm × List Int)} {j : Nat} {l : Int × Pm} (h : L[j]? = some l) : tryCs H L e T (j + 1) = tryC H e (tryCs H L e T j) l := by
  unfold tryCs
  rw [List.take_add_one, h, List.foldl_append]
  rfl

/-- Rows that words of letters say. -/
inductive Wdl (L : List (Int × Pm)) : List Int → Pm → Prop
  | nil : Wdl L [] 1
  | snoc {wd : List Int} {x : Pm} {l : Int × Pm} : Wdl L wd x → l ∈ L → Wdl L (wd ++ [l.1]) (x * l.2)

/-- What holds of parts. -/
structure PartOk (H : Pm → Prop) (L : List (Int × Pm)) (T : List (Pm × List Int)) : Prop where
  apart : T.Pairwise (fun a b => ¬ H (b.1 * a.1⁻¹))
  gen : ∀ e, e ∈ T → Gen (fun x => ∃ l, l ∈ L ∧ l.2 = x) e.1
  first : T[0]? = some (1, [])
  said : ∀ e, e ∈ T → Wdl L e.2 e.1
  short : ∀ e, e ∈ T → e.2.length < T.length

theorem PartOk.start (H : Pm → Prop) (L : List (Int × Pm)) : PartOk H L [(1, [])] :=
  ⟨by simp, fun e he => by rw [List.mem_singleton.1 he]; exact Gen.one, rfl, fun e he => by rw [List.mem_singleton.1 he]; exact Wdl.nil, fun e he => by rw [List.mem_singleton.1 he]; simp⟩

/-- What one line says: where each letter leads. -/
def LineOk (H : Pm → Prop) (L : List (Int × Pm)) (e : Pm × List Int) (T : List (Pm × List Int)) (j : Nat) (line : List Nat) : Prop :=
  line.length = j ∧ ∀ k l, k < j → L[k]? = some l → ∃ (m : Nat) (d : Pm × List Int), line[k]? = some m ∧ T[m]? = some d ∧ H (e.1 * l.2 * d.1⁻¹)

theorem LineOk.more {H : Pm → Prop} {L : List (Int × Pm)} {e : Pm × List Int} {T : List (Pm × List Int)} {j : Nat} {line : List Nat} (h : LineOk H L e T j line) (more : List (Pm × List Int)) : LineOk H L e (T ++ more) j line :=
  ⟨h.1, fun k l hk hl => by
    obtain ⟨m, d, h1, h2, h3⟩ := h.2 k l hk hl
    exact ⟨m, d, h1, by rw [List.getElem?_append_left (List.getElem?_eq_some_iff.1 h2).1]; exact h2, h3⟩⟩

theorem LineOk.push {H : Pm → Prop} {L : List (Int × Pm)} {e : Pm × List Int} {T : List (Pm × List Int)} {j m : Nat} {line : List Nat} {l : Int × Pm} {d : Pm × List Int} (h : LineOk H L e T j line) (hl : L[j]? = some l) (hd : T[m]? = some d) (hH : H (e.1 * l.2 * d.1⁻¹)) : LineOk H L e T (j + 1) (line ++ [m]) := by
  refine ⟨by rw [List.length_append, h.1]; rfl, fun k l' hk hl' => ?_⟩
  by_cases ek : k = j
  · subst ek
    rw [hl] at hl'
    rw [← Option.some.inj hl']
    exact ⟨m, d, by rw [List.getElem?_append_right (by rw [h.1]; exact Nat.le_refl _), h.1, Nat.sub_self]; rfl, hd, hH⟩
  · obtain ⟨m', d', h1, h2, h3⟩ := h.2 k l' (by omega) hl'
    exact ⟨m', d', by rw [List.getElem?_append_left (by rw [h.1]; omega)]; exact h1, h2, h3⟩

theorem PartOk.new {H : Pm → Prop} {L : List (Int × Pm)} {T : List (Pm × List Int)} (h : PartOk H L T) {e : Pm × List Int} (he : e ∈ T) {l : Int × Pm} (hl : l ∈ L) (hn : ∀ d, d ∈ T → ¬ H (e.1 * l.2 * d.1⁻¹)) : PartOk H L (T ++ [(e.1 * l.2, e.2 ++ [l.1])]) := by
  refine ⟨?_, ?_, ?_, ?_, ?_⟩
  · rw [List.pairwise_append]
    refine ⟨h.apart, by simp, fun a ha b hb => ?_⟩
    rw [List.mem_singleton.1 hb]
    exact hn a ha
  · intro x hx
    rcases List.mem_append.1 hx with hx | hx
    · exact h.gen x hx
    · rw [List.mem_singleton.1 hx]; exact Gen.right (h.gen e he) ⟨l, hl, rfl⟩
  · rw [List.getElem?_append_left (List.getElem?_eq_some_iff.1 h.first).1]; exact h.first
  · intro x hx
    rcases List.mem_append.1 hx with hx | hx
    · exact h.said x hx
    · rw [List.mem_singleton.1 hx]; exact Wdl.snoc (h.said e he) hl
  · intro x hx
    rw [List.length_append, List.length_singleton]
    rcases List.mem_append.1 hx with hx | hx
    · have := h.short x hx; omega
    · rw [List.mem_singleton.1 hx]
      have := h.short e he
      simp only [List.length_append, List.length_singleton]
      omega

/-- What holds while a part's letters are tried. -/
structure TryOk (H : Pm → Prop) (L : List (Int × Pm)) (e : Pm × List Int) (T : List (Pm × List Int)) (j : Nat) (s : List (Pm × List Int) × List Nat) : Prop where
  ok : PartOk H L s.1
  line : LineOk H L e s.1 j s.2
  more : ∃ m, s.1 = T ++ m

theorem tryCs_ok {H : Pm → Prop} {L : List (Int × Pm)} (hH : Sub H) {e : Pm × List Int} {T : List (Pm × List Int)} (hT : PartOk H L T) (he : e ∈ T) : ∀ j, j ≤ L.length → TryOk H L e T j (tryCs H L e T j)
  | 0, _ => by rw [tryCs_zero]; exact ⟨hT, ⟨rfl, fun k l hk => by omega⟩, [], by simp⟩
  | j + 1, hj => by
    have ih := tryCs_ok hH hT he j (by omega)
    obtain ⟨l, hl⟩ : ∃ l, L[j]? = some l := ⟨_, List.getElem?_eq_getElem (by omega)⟩
    rw [tryCs_succ hl]
    obtain ⟨m, hm⟩ := ih.more
    have he' : e ∈ (tryCs H L e T j).1 := by rw [hm]; exact List.mem_append_left _ he
    unfold tryC
    by_cases hc : cix H (tryCs H L e T j).1 (e.1 * l.2) < (tryCs H L e T j).1.length
    · rw [if_pos hc]
      obtain ⟨d, hd, hHd⟩ := cix_at hc
      exact ⟨ih.ok, ih.line.push hl hd hHd, m, hm⟩
    · rw [if_neg hc]
      have hn := cix_none hc
      have hce : cix H (tryCs H L e T j).1 (e.1 * l.2) = (tryCs H L e T j).1.length := by have := cix_le H (tryCs H L e T j).1 (e.1 * l.2); omega
      refine ⟨ih.ok.new he' (List.mem_of_getElem? hl) hn, (ih.line.more [(e.1 * l.2, e.2 ++ [l.1])]).push hl (d := (e.1 * l.2, e.2 ++ [l.1])) ?_ (by rw [Pm.mul_inv]; exact hH.one), m ++ [(e.1 * l.2, e.2 ++ [l.1])], by rw [hm, List.append_assoc]⟩
      rw [hce, List.getElem?_append_right (Nat.le_refl _), Nat.sub_self]
      rfl

/-- Parts 0 to i - 1 are gone through. -/
inductive RunC (H : Pm → Prop) (L : List (Int × Pm)) : Nat → List (Pm × List Int) → List (List Nat) → Prop
  | start : RunC H L 0 [(1, [])] []
  | step {i : Nat} {T : List (Pm × List Int)} {N : List (List Nat)} {e : Pm × List Int} : RunC H L i T N → T[i]? = some e → RunC H L (i + 1) (tryCs H L e T L.length).1 (N ++ [(tryCs H L e T L.length).2])

theorem RunC.det {H : Pm → Prop} {L : List (Int × Pm)} {i : Nat} {S T : List (Pm × List Int)} {M N : List (List Nat)} (h : RunC H L i S M) (k : RunC H L i T N) : S = T ∧ M = N := by
  induction h generalizing T N with
  | start => cases k; exact ⟨rfl, rfl⟩
  | step _ he ih =>
    cases k with
    | step k' he' =>
      obtain ⟨e1, e2⟩ := ih k'
      subst e1
      subst e2
      rw [he] at he'
      rw [Option.some.inj he']
      exact ⟨rfl, rfl⟩

/-- All that holds. -/
structure RunCOk (H : Pm → Prop) (L : List (Int × Pm)) (i : Nat) (T : List (Pm × List Int)) (N : List (List Nat)) : Prop where
  ok : PartOk H L T
  len : N.length = i
  le : i ≤ T.length
  line : ∀ k, k < i → ∃ e ln, T[k]? = some e ∧ N[k]? = some ln ∧ LineOk H L e T L.length ln

theorem RunC.ok {H : Pm → Prop} {L : List (Int × Pm)} (hH : Sub H) {i : Nat} {T : List (Pm × List Int)} {N : List (List Nat)} (h : RunC H L i T N) : RunCOk H L i T N := by
  induction h with
  | start => exact ⟨PartOk.start H L, rfl, Nat.zero_le _, fun k hk => by omega⟩
  | @step i T N e h he ih =>
    have ht := tryCs_ok hH ih.ok (List.mem_of_getElem? he) L.length (Nat.le_refl _)
    obtain ⟨m, hm⟩ := ht.more
    have hi := (List.getElem?_eq_some_iff.1 he).1
    refine ⟨ht.ok, by rw [List.length_append, ih.len]; rfl, by rw [hm, List.length_append]; omega, fun k hk => ?_⟩
    by_cases ek : k = i
    · subst ek
      refine ⟨e, _, by rw [hm, List.getElem?_append_left hi]; exact he, ?_, ht.line⟩
      rw [List.getElem?_append_right (by rw [ih.len]; exact Nat.le_refl _), ih.len, Nat.sub_self]; rfl
    · obtain ⟨e', ln, h1, h2, h3⟩ := ih.line k (by omega)
      refine ⟨e', ln, by rw [hm, List.getElem?_append_left (by omega)]; exact h1, by rw [List.getElem?_append_left (by rw [ih.len]; omega)]; exact h2, ?_⟩
      rw [hm]; exact h3.more m

theorem RunC.pre {H : Pm → Prop} {L : List (Int × Pm)} {j : Nat} {T : List (Pm × List Int)} {N : List (List Nat)} (h : RunC H L j T N) : ∀ i, i ≤ j → ∃ S M, RunC H L i S M := by
  induction h with
  | start => intro i hi; have : i = 0 := by omega
             subst this; exact ⟨_, _, RunC.start⟩
  | @step j S N e0 h he ih =>
    intro i hi
    by_cases e : i ≤ j
    · exact ih i e
    · have e2 : i = j + 1 := by omega
      subst e2
      exact ⟨_, _, RunC.step h he⟩

/-- Whoever has gone through all has found the same. -/
theorem RunC.unique {H : Pm → Prop} {L : List (Int × Pm)} {i j : Nat} {S T : List (Pm × List Int)} {M N : List (List Nat)} (h : RunC H L i S M) (k : RunC H L j T N) (hi : S.length ≤ i) (hj : T.length ≤ j) : S = T ∧ M = N := by
  have key : ∀ {i j : Nat} {S T : List (Pm × List Int)} {M N : List (List Nat)}, RunC H L i S M → RunC H L j T N → S.length ≤ i → i ≤ j → i = j := fun {i j S T M N} h k hi hij => by
    rcases Nat.lt_or_ge i j with hlt | hge
    · obtain ⟨S', M', h'⟩ := k.pre (i + 1) hlt
      cases h' with
      | step h'' he =>
        rw [(h.det h'').1] at hi
        have := (List.getElem?_eq_some_iff.1 he).1
        omega
    · omega
  rcases Nat.le_total i j with hij | hij
  · have := key h k hi hij
    subst this; exact h.det k
  · have := key k h hj hij
    subst this; exact h.det k

/-- Of the parts found each row is of one at most. -/
theorem PartOk.one {H : Pm → Prop} {L : List (Int × Pm)} (hH : Sub H) {T : List (Pm × List Int)} (h : PartOk H L T) {i j : Nat} {d e : Pm × List Int} {r : Pm} (hi : T[i]? = some d) (hj : T[j]? = some e) (h1 : H (r * d.1⁻¹)) (h2 : H (r * e.1⁻¹)) : i = j := by
  have key : ∀ {i j : Nat} {d e : Pm × List Int}, T[i]? = some d → T[j]? = some e → H (r * d.1⁻¹) → H (r * e.1⁻¹) → ¬ i < j := fun {i j d e} hi hj h1 h2 hlt => by
    have hj' := (List.getElem?_eq_some_iff.1 hj).1
    have hi' := (List.getElem?_eq_some_iff.1 hi).1
    have := List.pairwise_iff_getElem.1 h.apart i j hi' hj' hlt
    rw [(List.getElem?_eq_some_iff.1 hi).2, (List.getElem?_eq_some_iff.1 hj).2] at this
    refine this ?_
    have h3 := hH.mul (hH.inv h2) h1
    rwa [Pm.inv_prod, Pm.inv_inv, Pm.mul_assoc, Pm.inv_mul_cancel] at h3
  rcases Nat.lt_trichotomy i j with hlt | e | hlt
  · exact absurd hlt (key hi hj h1 h2)
  · exact e
  · exact absurd hlt (key hj hi h2 h1)

/-- Whoever has gone through all has found all parts. -/
theorem RunC.all {H : Pm → Prop} {L : List (Int × Pm)} (hH : Sub H) {i : Nat} {T : List (Pm × List Int)} {N : List (List Nat)} (h : RunC H L i T N) (hi : T.length ≤ i) {x : Pm} (hx : Gen (fun x => ∃ l, l ∈ L ∧ l.2 = x) x) : ∃ (k : Nat) (d : Pm × List Int), T[k]? = some d ∧ H (x * d.1⁻¹) := by
  have hO := h.ok hH
  have closed : ∀ y, (∃ (k : Nat) (d : Pm × List Int), T[k]? = some d ∧ H (y * d.1⁻¹)) → ∀ l, l ∈ L → ∃ (k : Nat) (d : Pm × List Int), T[k]? = some d ∧ H (y * l.2 * d.1⁻¹) := by
    rintro y ⟨k, d, hd, hy⟩ l hl
    have hk := (List.getElem?_eq_some_iff.1 hd).1
    obtain ⟨e, ln, h1, _, h3⟩ := hO.line k (by omega)
    rw [hd] at h1
    have he := Option.some.inj h1
    subst he
    obtain ⟨j, hj, ej⟩ := List.getElem_of_mem hl
    obtain ⟨m, d', _, h4, h5⟩ := h3.2 j l hj (by rw [List.getElem?_eq_getElem hj, ej])
    refine ⟨m, d', h4, ?_⟩
    have := hH.mul hy h5
    rwa [show y * d.1⁻¹ * (d.1 * l.2 * d'.1⁻¹) = y * l.2 * d'.1⁻¹ by rw [Pm.mul_assoc, Pm.mul_assoc d.1, Pm.inv_mul_cancel, ← Pm.mul_assoc]] at this
  have right : ∀ z, Gen (fun x => ∃ l, l ∈ L ∧ l.2 = x) z → ∀ y, (∃ (k : Nat) (d : Pm × List Int), T[k]? = some d ∧ H (y * d.1⁻¹)) → ∃ (k : Nat) (d : Pm × List Int), T[k]? = some d ∧ H (y * z * d.1⁻¹) := by
    intro z hz
    induction hz with
    | one => intro y hy; rw [Pm.mul_one]; exact hy
    | mul hs _ ih =>
      intro y hy
      obtain ⟨l, hl, rfl⟩ := hs
      rw [← Pm.mul_assoc]
      exact ih _ (closed y hy l hl)
  have := right x hx 1 ⟨0, _, hO.ok.first, by rw [Pm.inv_one, Pm.mul_one]; exact hH.one⟩
  rwa [Pm.one_mul] at this

theorem PartOk.few {H : Pm → Prop} {L : List (Int × Pm)} (hH : Sub H) {T : List (Pm × List Int)} (h : PartOk H L T) {X : List Pm} (hX : ∀ x, Gen (fun x => ∃ l, l ∈ L ∧ l.2 = x) x → x ∈ X) : T.length ≤ X.length := by
  classical
  have hn : (T.map (·.1)).Nodup := by
    rw [List.Nodup, List.pairwise_map]
    refine h.apart.imp (fun {a b} hab e => hab ?_)
    rw [e, Pm.mul_inv]; exact hH.one
  have := nodup_len (T.map (·.1)) X hn (fun x hx => by
    obtain ⟨e, he, rfl⟩ := List.mem_map.1 hx
    exact hX _ (h.gen e he))
  rwa [List.length_map] at this

end Go.Proofs.YtahffpgadoiijaaGreat

/- Maps that are sets of numbers: look, len, put, take out; what lies under a walk. -/
namespace Go.Proofs.YtahffpgadoiijaaGreat
open Go.RowKit Go.Maps Go.ChangeMaps
open Go.WideElems (rg)

/-- Block b is a map[int]int whose keys are these numbers, each once. -/
def ISet (w : World) (b : Nat) (ks : List Nat) : Prop :=
  ks.Nodup ∧ ∃ D : DataW Value, w.ownsMap Tryz.prog 3 heldElem b ks.length D ∧ Maps.size D = ks.length ∧ ∀ a : Nat, Maps.has D (.int .i64 (a : Int)) = decide (a ∈ ks)

theorem ISet.lt {w : World} {b : Nat} {ks : List Nat} (h : ISet w b ks) : b < w.heap.size := by
  obtain ⟨_, D, h1, _⟩ := h; exact h1.lt

theorem ISet.of_block {w w' : World} {b : Nat} {ks : List Nat} (h : ISet w b ks) (hb : w'.heap[b]? = w.heap[b]?) : ISet w' b ks := by
  obtain ⟨hn, D, ⟨es, c, h1, h2⟩, h3⟩ := h; exact ⟨hn, D, ⟨es, c, hb.trans h1, h2⟩, h3⟩

theorem int_lit_ne {x a : Nat} (e : x ≠ a) : (Lit.int .i64 (x : Int)) ≠ Lit.int .i64 (a : Int) := fun h => e (by have := (Lit.int.inj h).2; omega)

/-! at the operation -/
section
variable {ops : Array Oper} {rest : List Oper} {o : Oper} {a : Act} {w : World} {Q : Exit → Act → World → Prop}

end

/-- Below block number B all is as it was, but for two blocks. -/
structure Frm (B sb mb : Nat) (w w' : World) : Prop where
  os : w'.os = w.os
  tape : w'.tape = w.tape
  output : w'.output = w.output
  size : w.heap.size ≤ w'.heap.size
  block : ∀ b, b < B → b ≠ sb → b ≠ mb → w'.heap[b]? = w.heap[b]?

theorem Frm.refl (B sb mb : Nat) (w : World) : Frm B sb mb w w := ⟨rfl, rfl, rfl, Nat.le_refl _, fun _ _ _ _ => rfl⟩

theorem Frm.trans {B sb mb : Nat} {a b c : World} (h : Frm B sb mb a b) (k : Frm B sb mb b c) : Frm B sb mb a c :=
  ⟨k.os.trans h.os, k.tape.trans h.tape, k.output.trans h.output, Nat.le_trans h.size k.size, fun x h1 h2 h3 => (k.block x h1 h2 h3).trans (h.block x h1 h2 h3)⟩

theorem Frm.of_below {B sb mb X : Nat} {w w' : World} (h : Below X w w') (hX : B ≤ X) : Frm B sb mb w w' := ⟨h.os, h.tape, h.output, h.size, fun x h1 _ _ => h.block x (by omega)⟩

theorem Frm.below {B sb mb X : Nat} {w w' : World} (h : Frm B sb mb w w') (hX : X ≤ B) (h1 : X ≤ sb) (h2 : X ≤ mb) : Below X w w' := ⟨h.os, h.tape, h.output, h.size, fun x hx => h.block x (by omega) (by omega) (by omega)⟩

theorem Frm.set {B sb mb : Nat} {w w' : World} (h : Frm B sb mb w w') (j : Nat) (u : Value) : Frm B sb mb w (w'.setCell ⟨sb, j, none⟩ u) :=
  h.trans ⟨rfl, rfl, rfl, by simp [World.setCell], fun x _ h2 _ => Below.heap_setCell _ _ _ _ h2⟩

theorem Frm.turned {B sb mb : Nat} {w w' w'' : World} (h : Frm B sb mb w w') (ht : w'.mapTurned w'' mb) : Frm B sb mb w w'' := by
  obtain ⟨es, c, es', c', h1, rfl⟩ := ht
  refine h.trans ⟨rfl, rfl, rfl, by simp [setBlock], fun x _ _ h3 => ?_⟩
  simp [setBlock, Ne.symm h3]

theorem turned_block {w w' : World} {mb x : Nat} (ht : w.mapTurned w' mb) (hx : x ≠ mb) : w'.heap[x]? = w.heap[x]? := by
  obtain ⟨es, c, es', c', h1, rfl⟩ := ht
  simp [setBlock, Ne.symm hx]

theorem turned_size {w w' : World} {mb : Nat} (ht : w.mapTurned w' mb) : w'.heap.size = w.heap.size := by
  obtain ⟨es, c, es', c', h1, rfl⟩ := ht
  simp [setBlock]

theorem owns_block {w w' : World} {base e n : Nat} {v : Value} {xs : List Value} (h : w.ownsRow base e 1 v n xs) (hb : ∀ g, v.ownBlock = some g → w'.heap[g]? = w.heap[g]?) : w'.ownsRow base e 1 v n xs := by
  obtain ⟨h1, h2⟩ := h
  refine ⟨h1, ?_⟩
  rcases h2 with h2 | ⟨g, cap, cur, hv, hg, hh, r⟩
  · exact Or.inl h2
  · exact Or.inr ⟨g, cap, cur, hv, hg, (hb g (by rw [hv]; rfl)).trans hh, r⟩

theorem cells4 {w1 : World} {B : Nat} {a b c d : Value} {t : TypeId} (h : w1.heap[B]? = some (.cells #[a, b, c, d] t)) :
    w1.cell? ⟨B, 0, none⟩ = some a ∧ w1.cell? ⟨B, 1, none⟩ = some b ∧ w1.cell? ⟨B, 2, none⟩ = some c ∧ w1.cell? ⟨B, 3, none⟩ = some d ∧ w1.frozen? ⟨B, 0, none⟩ = false ∧ w1.frozen? ⟨B, 3, none⟩ = false := by
  simp [World.cell?, World.frozen?, h]

theorem set4 {w1 : World} {B : Nat} {a b c d : Value} {t : TypeId} (h : w1.heap[B]? = some (.cells #[a, b, c, d] t)) (u : Value) : (w1.setCell ⟨B, 3, none⟩ u).heap[B]? = some (.cells #[a, b, c, u] t) := by
  simp [World.setCell, Array.getElem?_modify, h]

end Go.Proofs.YtahffpgadoiijaaGreat

/- Contract: coset.bringing: by a place, then by a bell, a row that brings it there. -/
namespace Go.Proofs.YtahffpgadoiijaaGreat
open Go.RowKit

theorem Tryz.zero22 (w : World) : (zeroValue 22).run Tryz.prog w = .ok (.slice none 0 0) w := by kernel_rfl

/-- How far the maps hold what the first i rows bring. -/
structure BrTo (w wr : World) (n m0 : Nat) (X : List Pm) (i : Nat) (fs : Nat → Int → Option Value) : Prop where
  far : w.heap.size < m0
  row : ∀ p, p < n → wr.cell? ⟨w.heap.size, p, none⟩ = some (.map (some (m0 + p)))
  maps : ∀ p, p < n → IMap wr (m0 + p) i (fs p)
  sound : ∀ p, p < n → ∀ (a : Int) (u : Value), fs p a = some u → ∃ c, c ∈ X ∧ (∀ b, b < p → c.act b = b) ∧ a = ((c.act p : Nat) : Int) ∧ c.act p ≠ p ∧ Ints w u (cut n c)
  full : ∀ p, p < n → ∀ c, c ∈ X.take i → (∀ b, b < p → c.act b = b) → c.act p ≠ p → ∃ u, fs p ((c.act p : Nat) : Int) = some u
  below : Below w.heap.size w wr

theorem imap_drew {w : World} {b n : Nat} {f : Int → Option Value} (h : IMap w b n f) : IMap w.drew b n f := h.of_block rfl

theorem BrTo.same {w wr : World} {n m0 i : Nat} {X : List Pm} {fs : Nat → Int → Option Value} (h : BrTo w wr n m0 X i fs) {c : Pm} (hc : X[i]? = some c) (hf : ∀ p, p < n → c.act p = p) : BrTo w wr n m0 X (i + 1) fs :=
  ⟨h.far, h.row, fun p hp => (h.maps p hp).mono (Nat.le_succ i), h.sound, fun p hp d hd h1 h2 => by
    rw [List.take_add_one, hc, List.mem_append] at hd
    rcases hd with hd | hd
    · exact h.full p hp d hd h1 h2
    · have : d = c := by simpa using hd
      subst this
      exact absurd (hf p hp) h2, h.below⟩

theorem BrTo.put {w wr w' : World} {n m0 i p0 : Nat} {X : List Pm} {fs : Nat → Int → Option Value} {u : Value} (h : BrTo w wr n m0 X i fs) {c : Pm} (hc : X[i]? = some c) (hp0 : p0 < n) (hlow : ∀ b, b < p0 → c.act b = b) (hne : c.act p0 ≠ p0) (hu : Ints w u (cut n c))
    (hM : IMap w' (m0 + p0) (i + 1) (upd (fs p0) ((c.act p0 : Nat) : Int) u)) (hg : wr.drew.grownBy w' (some (m0 + p0))) :
    BrTo w w' n m0 X (i + 1) (fun p => if p = p0 then upd (fs p0) ((c.act p0 : Nat) : Int) u else fs p) := by
  have hblk : ∀ b, b < wr.heap.size → b ≠ m0 + p0 → w'.heap[b]? = wr.heap[b]? := fun b hb hne' => hg.block b hb (fun e => hne' (Option.some.inj e))
  have hcm := List.mem_of_getElem? hc
  have hfar := h.far
  refine ⟨h.far, fun p hp => ?_, fun p hp => ?_, fun p hp a v hv => ?_, fun p hp d hd h1 h2 => ?_, ?_⟩
  · rw [World.cell?_of_block (w := wr) (hblk w.heap.size (Nat.lt_of_lt_of_le (by omega) (Nat.succ_le_of_lt (h.maps p hp).lt)) (by omega))]
    exact h.row p hp
  · by_cases e : p = p0
    · subst e; simp only [if_pos]; exact hM
    · simp only [if_neg e]
      exact ((h.maps p hp).mono (Nat.le_succ i)).of_block (hblk _ (h.maps p hp).lt (by omega))
  · by_cases e : p = p0
    · subst e
      simp only [if_pos] at hv
      unfold upd at hv
      by_cases ea : a = ((c.act p : Nat) : Int)
      · rw [if_pos ea] at hv
        rw [← Option.some.inj hv]
        exact ⟨c, hcm, hlow, ea, hne, hu⟩
      · rw [if_neg ea] at hv
        exact h.sound p hp a v hv
    · simp only [if_neg e] at hv
      exact h.sound p hp a v hv
  · rw [List.take_add_one, hc, List.mem_append] at hd
    by_cases e : p = p0
    · subst e
      simp only [if_pos]
      unfold upd
      by_cases ea : ((d.act p : Nat) : Int) = ((c.act p : Nat) : Int)
      · exact ⟨u, if_pos ea⟩
      · rw [if_neg ea]
        rcases hd with hd | hd
        · exact h.full p hp d hd h1 h2
        · have : d = c := by simpa using hd
          subst this
          exact absurd rfl ea
    · simp only [if_neg e]
      rcases hd with hd | hd
      · exact h.full p hp d hd h1 h2
      · have : d = c := by simpa using hd
        subst this
        rcases Nat.lt_or_ge p p0 with hl | hl
        · exact absurd (hlow p hl) h2
        · exact absurd (h1 p0 (by omega)) hne
  · exact (h.below.trans ((Below.refl _ _).drew.mono (Nat.le_refl _))).grown hg (by have := h.below.size; exact this) (fun g hg' => by have := Option.some.inj hg'; omega)

/-- What mark reads: maps by place. -/
structure BrAt (w : World) (v : Value) (n m0 : Nat) (H : Pm → Prop) (b : Nat) (fs : Nat → Int → Option Value) (k : Nat) : Prop where
  val : v = .slice (some ⟨b, 0, none⟩) n n
  lt : b < w.heap.size
  row : ∀ p, p < n → w.cell? ⟨b, p, none⟩ = some (.map (some (m0 + p)))
  maps : ∀ p, p < n → IMap w (m0 + p) k (fs p)
  sound : ∀ p, p < n → ∀ (a : Int) (u : Value), fs p a = some u → ∃ c, Low H p c ∧ a = ((c.act p : Nat) : Int) ∧ c.act p ≠ p ∧ Ints w u (cut n c)
  full : ∀ p, p < n → ∀ c, Low H p c → c.act p ≠ p → ∃ u, fs p ((c.act p : Nat) : Int) = some u

theorem BrAt.later {w w' : World} {v : Value} {n m0 b k : Nat} {H : Pm → Prop} {fs : Nat → Int → Option Value} (h : BrAt w v n m0 H b fs k) (hb : Below w.heap.size w w') : BrAt w' v n m0 H b fs k :=
  ⟨h.val, Nat.lt_of_lt_of_le h.lt hb.size, fun p hp => (hb.cell (p := ⟨b, p, none⟩) h.lt).trans (h.row p hp), fun p hp => (h.maps p hp).below hb (h.maps p hp).lt, fun p hp a u hu => by
    obtain ⟨c, h1, h2, h3, h4⟩ := h.sound p hp a u hu
    exact ⟨c, h1, h2, h3, h4.below hb⟩, h.full⟩

theorem BrTo.done {w wr : World} {n m0 : Nat} {X : List Pm} {H : Pm → Prop} {fs : Nat → Int → Option Value} (h : BrTo w wr n m0 X X.length fs) (hX : ∀ x, x ∈ X ↔ H x) (h1 : 1 ≤ n) : BrAt wr (.slice (some ⟨w.heap.size, 0, none⟩) n n) n m0 H w.heap.size fs X.length :=
  ⟨rfl, by have := (h.maps 0 (by omega)).lt; have := h.far; omega, h.row, h.maps, fun p hp a u hu => by
    obtain ⟨c, h1, h2, h3, h4, h5⟩ := h.sound p hp a u hu
    exact ⟨c, ⟨(hX c).1 h1, h2⟩, h3, h4, h5.below h.below⟩, fun p hp c hc hne => h.full p hp c (by rw [List.take_length]; exact (hX c).2 hc.1) hc.2 hne⟩

theorem made_maps (n : Nat) : (madeCells #[Value.map none] n).toList = List.replicate n (.map none) := by
  apply List.ext_getElem
  · simp [madeCells]
  · intro i h1 h2
    simp [madeCells, Nat.mod_one]

end Go.Proofs.YtahffpgadoiijaaGreat

/- Contract: coset.bringing: the walk. -/
namespace Go.Proofs.YtahffpgadoiijaaGreat
open Go.RowKit

end Go.Proofs.YtahffpgadoiijaaGreat

/- Contract: newChain by the bases that Still turns (mkget.py). -/
namespace Go.Proofs.YtahffpgadoiijaaGreat
open Go.RowKit

theorem link_laidT {w wr w1 w2 : World} {n j c : Nat} {bs : List Nat} {st : Nat → St} (hPre : PreAt wr w.heap.size w.heap.size n (((bs.take j).map lk0).map rawOf) st) (hlt : j < n) (hbl : bs.length = n) (hbj : bs[j]? = some c) (hbw : Below w.heap.size w wr) (hb01 : Below wr.heap.size wr w1) (hs1 : wr.heap.size < w1.heap.size)
    (hM2 : IMap w2 wr.heap.size (0 + 1) (upd (fun _ => none) (c : Int) (pv 1))) (hg2 : w1.grownBy w2 (some wr.heap.size)) :
    ∃ st', PreAt ((w2.alloc (.cells #[.int .i64 (c : Int)] 3)).setCells w.heap.size (j * 4) [.int .i64 (c : Int), .map (some wr.heap.size), .slice (some ⟨w2.heap.size, 0, none⟩) 1 1, .slice none 0 0]) w.heap.size w.heap.size n (((bs.take (j + 1)).map lk0).map rawOf) st' ∧ Below w.heap.size w ((w2.alloc (.cells #[.int .i64 (c : Int)] 3)).setCells w.heap.size (j * 4) [.int .i64 (c : Int), .map (some wr.heap.size), .slice (some ⟨w2.heap.size, 0, none⟩) 1 1, .slice none 0 0]) := by
  have hR : (((bs.take j).map lk0).map rawOf).length = j := by simp; omega
  have hs2 := hg2.size
  have hbs := hbw.size
  have hb2 : Below wr.heap.size wr (w2.alloc (.cells #[.int .i64 (c : Int)] 3)) := (hb01.grown hg2 hb01.size (fun k h => by have := Option.some.inj h; omega)).alloc (by omega) _
  have hM3 := hM2.alloc (.cells #[.int .i64 (c : Int)] 3)
  rw [tabF_one] at hM3
  have hO : (w2.alloc (.cells #[.int .i64 (c : Int)] 3)).ownsRow w.heap.size 3 1 (.slice (some ⟨w2.heap.size, 0, none⟩) 1 1) 1 [.int .i64 (c : Int)] := owns_base (one_owned w2 (c : Int)) (by omega)
  have hst := hPre.step (base := c) (by rw [hR]; exact hlt) hb2 hM3 (by omega) (Nat.le_refl _) hO (by omega)
  rw [hR, show ((bs.take j).map lk0).map rawOf ++ [rawOf (lk0 c)] = ((bs.take (j + 1)).map lk0).map rawOf from by rw [List.take_add_one, hbj]; simp] at hst
  exact ⟨_, hst, (hbw.trans (hb2.mono hbw.size)).trans (below_setCells _ _ _ _ (Nat.le_refl _))⟩

end Go.Proofs.YtahffpgadoiijaaGreat

/- Contract: a group's Still. -/
namespace Go.Proofs.YtahffpgadoiijaaGreat
open Go.RowKit

theorem stab_prd {F : Nat → Prop} {l : Lk} {c : List Lk} (h : Whole F (l :: c)) (x : Pm) : Prd c x ↔ Prd (l :: c) x ∧ x.act l.base = l.base := by
  constructor
  · intro hx
    exact ⟨⟨(l.base, 1), h.1.first, x, hx, (Pm.one_mul x).symm⟩, prd_fix h.2.1 hx l.base (Or.inr rfl)⟩
  · rintro ⟨⟨e, he, p, hp, rfl⟩, hf⟩
    have hb := prd_fix h.2.1 hp l.base (Or.inr rfl)
    rw [Pm.act_mul, hb, h.1.brings e he] at hf
    have e1 : e.2 = 1 := tab_eq h.1.nodup (b := l.base) (by rw [← hf]; exact he) h.1.first
    rw [e1, Pm.one_mul]
    exact hp

/-- The bases, from a bell on. -/
def turned (bell n : Nat) : List Nat := (List.range n).map (fun j => (bell + j) % n)

theorem turned_len (bell n : Nat) : (turned bell n).length = n := by unfold turned; simp

theorem turned_at {bell n j c : Nat} (h : (turned bell n)[j]? = some c) : j < n ∧ c = (bell + j) % n := by
  have hj : j < n := by have := (List.getElem?_eq_some_iff.1 h).1; rw [turned_len] at this; exact this
  unfold turned at h
  rw [List.getElem?_map, List.getElem?_range hj] at h
  exact ⟨hj, (Option.some.inj h).symm⟩

theorem turned_mem {bell n b : Nat} (hb : bell < n) : b ∈ turned bell n ↔ b < n := by
  unfold turned
  rw [List.mem_map]
  constructor
  · rintro ⟨j, _, rfl⟩
    exact Nat.mod_lt _ (by omega)
  · intro h
    by_cases h' : bell ≤ b
    · exact ⟨b - bell, List.mem_range.2 (by omega), by rw [show bell + (b - bell) = b from by omega]; exact Nat.mod_eq_of_lt h⟩
    · exact ⟨b + n - bell, List.mem_range.2 (by omega), by rw [show bell + (b + n - bell) = b + n from by omega, Nat.add_mod_right]; exact Nat.mod_eq_of_lt h⟩

theorem packs_own {w : World} {B : Nat} {v : Value} {gs : List Pm} (h : w.ownsRow B 78 12 v gs.length (gcells gs)) : Packs w v gs := by
  by_cases h0 : gs.length = 0
  · have : gs = [] := List.length_eq_zero_iff.1 h0
    subst this
    obtain ⟨p, c, e⟩ := owns_slice12 h
    exact Or.inl ⟨rfl, p, c, e⟩
  · obtain ⟨p, c, e⟩ := owns_slice12 h
    have h' := h
    rw [e] at h'
    obtain ⟨b, hb, _, h1, h2⟩ := owns_some h' (by omega)
    subst hb
    refine Or.inr ⟨b, 0, c, e, by omega, h1, h2, (h'.lt b rfl).2, fun i q hi => ?_⟩
    intro j u hu
    have hj : j < 12 := by have := (List.getElem?_eq_some_iff.1 hu).1; rw [List.length_map, q.len] at this; exact this
    have h9 := h'.cells (g := b) rfl (i * 12 + j) _ (gcells_at gs i q hi j hj)
    rw [Addr.add_lit, Nat.zero_add] at h9
    rw [show 0 + i * 12 = i * 12 from by omega, h9, ← hu]
    simp [List.getD, q.len, hj]

theorem below_dr {w x : World} {B : Nat} (h : Below B w x) : Below B w x.drew := ⟨h.os, h.tape, h.output, h.size, h.block⟩

theorem below_dN (w : World) (n : Nat) : Below w.heap.size w (w.drewN n) := ⟨rfl, rfl, rfl, Nat.le_refl _, fun _ _ => rfl⟩

theorem whole_head {F : Nat → Prop} {l : Lk} {c : List Lk} (h : Whole F (l :: c)) (x : Pm) : Prd (l :: c) x ↔ Gen (fun y => y ∈ l.gens) x := h.2.2 x

/-- What Still leaves. -/
def StPost (n : Nat) (gs : List Pm) (bell : Nat) (w : World) (e : Ending) (w' : World) : Prop :=
  ∃ v hs, e = .returned (.tuple #[v, .int .i64 0]) ∧ GroupAt w' v n hs ∧ (∀ x, Gen (fun y => y ∈ hs) x ↔ Gen (fun y => y ∈ gs) x ∧ x.act bell = bell) ∧ Below w.heap.size w w'

end Go.Proofs.YtahffpgadoiijaaGreat

/- Contract: a coset table's mark. -/
namespace Go.Proofs.YtahffpgadoiijaaGreat
open Go.RowKit

/-- Which bell has been chosen among the first j. -/
structure FromOk (fs : Int → Option Value) (y : Pm) (k j f : Nat) : Prop where
  is : f = k ∨ (fs (f : Int)).isSome = true
  own : y.act f ≤ y.act k
  least : ∀ b, b < j → (fs (b : Int)).isSome = true → y.act f ≤ y.act b

theorem FromOk.start (fs : Int → Option Value) (y : Pm) (k : Nat) : FromOk fs y k 0 k := ⟨Or.inl rfl, Nat.le_refl _, fun b hb => by omega⟩

theorem FromOk.take {fs : Int → Option Value} {y : Pm} {k j f : Nat} (h : FromOk fs y k j f) (hs : (fs (j : Int)).isSome = true) (hl : y.act j < y.act f) : FromOk fs y k (j + 1) j :=
  ⟨Or.inr hs, by have := h.own; omega, fun b hb hb' => by
    by_cases e : b = j
    · rw [e]; exact Nat.le_refl _
    · have := h.least b (by omega) hb'; omega⟩

theorem FromOk.pass {fs : Int → Option Value} {y : Pm} {k j f : Nat} (h : FromOk fs y k j f) (hl : (fs (j : Int)).isSome = false ∨ y.act f ≤ y.act j) : FromOk fs y k (j + 1) f :=
  ⟨h.is, h.own, fun b hb hb' => by
    by_cases e : b = j
    · subst e
      rcases hl with hl | hl
      · rw [hl] at hb'; cases hb'
      · exact hl
    · exact h.least b (by omega) hb'⟩

end Go.Proofs.YtahffpgadoiijaaGreat

/- Lists of lists that grow beside each other, and a line that is written; where they lie. -/
namespace Go.Proofs.YtahffpgadoiijaaGreat
open Go.RowKit

/-- Two slices lie in blocks of their own. -/
def Apt (u v : Value) : Prop := ∀ g, u.ownBlock = some g → v.ownBlock ≠ some g

theorem Apt.symm {u v : Value} (h : Apt u v) : Apt v u := fun g h1 h2 => h g h2 h1

theorem apt_none (v : Value) : Apt (.slice none 0 0) v := fun g h => by cases h

theorem apt_new {w : World} {base e n : Nat} {u v : Value} {xs : List Value} (h : w.ownsRow base e 1 v n xs) (hu : ∀ g, u.ownBlock = some g → w.heap.size ≤ g) : Apt u v := fun g h1 h2 => by
  have := (h.lt g h2).2
  have := hu g h1
  omega

theorem LL.of_blocks {w w' : World} {B : Nat} {v : Value} {vs : List Value} {xss : List (List Int)} (h : LL w B v vs xss) (h1 : ∀ g, v.ownBlock = some g → w'.heap[g]? = w.heap[g]?) (h2 : ∀ u, u ∈ vs → ∀ g, u.ownBlock = some g → w'.heap[g]? = w.heap[g]?) : LL w' B v vs xss := by
  refine ⟨owns_of_block h.row h1, ?_⟩
  have := h.all
  clear h h1
  induction vs generalizing xss with
  | nil => cases xss with
    | nil => trivial
    | cons x xs => exact this.elim
  | cons u us ih => cases xss with
    | nil => exact this.elim
    | cons x xs => exact ⟨owns_of_block this.1 (h2 u List.mem_cons_self), ih (fun u hu => h2 u (List.mem_cons_of_mem _ hu)) this.2⟩

theorem LL.inner {w : World} {B : Nat} {v : Value} {vs : List Value} {xss : List (List Int)} (h : LL w B v vs xss) {u : Value} (hu : u ∈ vs) : ∃ (X : List Int), w.ownsRow B 3 1 u X.length (X.map (Value.int .i64)) := by
  have := h.all
  clear h
  induction vs generalizing xss with
  | nil => cases hu
  | cons y us ih => cases xss with
    | nil => exact this.elim
    | cons x xs =>
      rcases List.mem_cons.1 hu with e | e
      · rw [e]; exact ⟨x, this.1⟩
      · exact ih e this.2

/-- A block of one type is none of another. -/
theorem owns_ty {w : World} {base base' e e' n n' : Nat} {u v : Value} {xs ys : List Value} (h : w.ownsRow base e 1 u n xs) (h' : w.ownsRow base' e' 1 v n' ys) (hne : e ≠ e') : Apt u v := fun g h1 h2 => by
  obtain ⟨c1, k1⟩ := owns_obj h h1
  obtain ⟨c2, k2⟩ := owns_obj h' h2
  rw [k1] at k2
  injection k2 with k2
  injection k2 with _ k3
  exact hne k3

theorem LL.kept_by {w w' : World} {B : Nat} {v : Value} {vs : List Value} {xss : List (List Int)} (h : LL w B v vs xss) {g0 : Option Nat} (hg : w.grownBy w' g0) (h1 : ∀ g, v.ownBlock = some g → some g ≠ g0) (h2 : ∀ u, u ∈ vs → ∀ g, u.ownBlock = some g → some g ≠ g0) : LL w' B v vs xss :=
  h.of_blocks (fun g hb => hg.block g (h.row.lt g hb).2 (h1 g hb)) (fun u hu g hb => by
    obtain ⟨X, hX⟩ := h.inner hu
    exact hg.block g (hX.lt g hb).2 (h2 u hu g hb))

/-- A list that grows by one list. -/
theorem LL.grow {w w' : World} {B : Nat} {v v' u : Value} {vs : List Value} {xss : List (List Int)} {X : List Int} (h : LL w B v vs xss) (hu : w.ownsRow B 3 1 u X.length (X.map (Value.int .i64)))
    (hown : w'.ownsRow B 22 1 v' (vs.length + 1) (vs ++ [u])) (hg : w.grownBy w' v.ownBlock) : LL w' B v' (vs ++ [u]) (xss ++ [X]) :=
  ⟨by rw [List.length_append]; exact hown, OwnAll.snoc (owns_kept_ty hu h.row hg) (h.all.mono (fun _ _ _ h' => owns_kept_ty h' h.row hg))⟩

/-- Three lists of lists that grow beside each other. -/
structure Tri (B : Nat) (w : World) (v1 v2 v3 : Value) (s1 s2 s3 : List Value) (A1 A2 A3 : List (List Int)) : Prop where
  l1 : LL w B v1 s1 A1
  l2 : LL w B v2 s2 A2
  l3 : LL w B v3 s3 A3
  a12 : Apt v1 v2
  a13 : Apt v1 v3
  a23 : Apt v2 v3

section
variable {B : Nat} {w w' : World} {v1 v2 v3 v' u : Value} {s1 s2 s3 : List Value} {A1 A2 A3 : List (List Int)} {X : List Int}

theorem Tri.later (h : Tri B w v1 v2 v3 s1 s2 s3 A1 A2 A3) (hb : Below w.heap.size w w') : Tri B w' v1 v2 v3 s1 s2 s3 A1 A2 A3 :=
  ⟨h.l1.below hb, h.l2.below hb, h.l3.below hb, h.a12, h.a13, h.a23⟩

theorem Tri.set (h : Tri B w v1 v2 v3 s1 s2 s3 A1 A2 A3) {T j : Nat} (hT : T < B) (x : Value) : Tri B (w.setCell ⟨T, j, none⟩ x) v1 v2 v3 s1 s2 s3 A1 A2 A3 :=
  ⟨h.l1.set hT, h.l2.set hT, h.l3.set hT, h.a12, h.a13, h.a23⟩

theorem Tri.put (h : Tri B w v1 v2 v3 s1 s2 s3 A1 A2 A3) {m k : Nat} {f : Int → Option Value} (hm : IMap w m k f) (hg : w.grownBy w' (some m)) : Tri B w' v1 v2 v3 s1 s2 s3 A1 A2 A3 :=
  ⟨⟨owns_map_kept h.l1.row hm hg, h.l1.all.mono (fun _ _ _ h' => owns_map_kept h' hm hg)⟩, ⟨owns_map_kept h.l2.row hm hg, h.l2.all.mono (fun _ _ _ h' => owns_map_kept h' hm hg)⟩, ⟨owns_map_kept h.l3.row hm hg, h.l3.all.mono (fun _ _ _ h' => owns_map_kept h' hm hg)⟩, h.a12, h.a13, h.a23⟩

theorem LL.beside {v : Value} {vs : List Value} {xss : List (List Int)} (h : LL w B v vs xss) {y : Value} {ys : List Value} {yss : List (List Int)} (hy : LL w B y ys yss) (ha : Apt v y) (hg : w.grownBy w' y.ownBlock) : LL w' B v vs xss :=
  h.kept_by hg (fun g h1 e => ha g h1 e.symm) (fun u hu g h1 e => by
    obtain ⟨X, hX⟩ := h.inner hu
    exact owns_ty hX hy.row (by decide) g h1 e.symm)

theorem Tri.add1 (h : Tri B w v1 v2 v3 s1 s2 s3 A1 A2 A3) (hu : w.ownsRow B 3 1 u X.length (X.map (Value.int .i64))) (hown : w'.ownsRow B 22 1 v' (s1.length + 1) (s1 ++ [u])) (hg : w.grownBy w' v1.ownBlock)
    (hp : v'.ownBlock = v1.ownBlock ∨ (v'.ownBlock = some w.heap.size ∧ w.grownBy w' none)) : Tri B w' v' v2 v3 (s1 ++ [u]) s2 s3 (A1 ++ [X]) A2 A3 := by
  have key : ∀ (y : Value) (ys : List Value) (yss : List (List Int)), LL w B y ys yss → Apt v1 y → Apt v' y := fun y ys yss hy ha => by
    rcases hp with hp | ⟨hp, _⟩
    · exact fun g h1 => ha g (hp.symm.trans h1)
    · exact apt_new hy.row (fun g h1 => by rw [hp] at h1; have := Option.some.inj h1; omega)
  exact ⟨h.l1.grow hu hown hg, h.l2.beside h.l1 h.a12.symm hg, h.l3.beside h.l1 h.a13.symm hg, key _ _ _ h.l2 h.a12, key _ _ _ h.l3 h.a13, h.a23⟩

theorem Tri.turn (h : Tri B w v1 v2 v3 s1 s2 s3 A1 A2 A3) : Tri B w v2 v3 v1 s2 s3 s1 A2 A3 A1 := ⟨h.l2, h.l3, h.l1, h.a23, h.a12.symm, h.a13.symm⟩

theorem Tri.add2 (h : Tri B w v1 v2 v3 s1 s2 s3 A1 A2 A3) (hu : w.ownsRow B 3 1 u X.length (X.map (Value.int .i64))) (hown : w'.ownsRow B 22 1 v' (s2.length + 1) (s2 ++ [u])) (hg : w.grownBy w' v2.ownBlock)
    (hp : v'.ownBlock = v2.ownBlock ∨ (v'.ownBlock = some w.heap.size ∧ w.grownBy w' none)) : Tri B w' v1 v' v3 s1 (s2 ++ [u]) s3 A1 (A2 ++ [X]) A3 :=
  (h.turn.add1 hu hown hg hp).turn.turn

theorem Tri.add3 (h : Tri B w v1 v2 v3 s1 s2 s3 A1 A2 A3) (hu : w.ownsRow B 3 1 u X.length (X.map (Value.int .i64))) (hown : w'.ownsRow B 22 1 v' (s3.length + 1) (s3 ++ [u])) (hg : w.grownBy w' v3.ownBlock)
    (hp : v'.ownBlock = v3.ownBlock ∨ (v'.ownBlock = some w.heap.size ∧ w.grownBy w' none)) : Tri B w' v1 v2 v' s1 s2 (s3 ++ [u]) A1 A2 (A3 ++ [X]) :=
  (h.turn.turn.add1 hu hown hg hp).turn

/-- .. and a line that is written beside them. -/
structure Quad (B : Nat) (w : World) (v1 v2 v3 : Value) (s1 s2 s3 : List Value) (A1 A2 A3 : List (List Int)) (vl : Value) (L : List Int) : Prop where
  tri : Tri B w v1 v2 v3 s1 s2 s3 A1 A2 A3
  line : w.ownsRow B 3 1 vl L.length (L.map (Value.int .i64))
  apt : ∀ u, u ∈ s1 ++ s2 ++ s3 → Apt u vl

variable {vl : Value} {L : List Int}

theorem Quad.later (h : Quad B w v1 v2 v3 s1 s2 s3 A1 A2 A3 vl L) (hb : Below w.heap.size w w') : Quad B w' v1 v2 v3 s1 s2 s3 A1 A2 A3 vl L :=
  ⟨h.tri.later hb, owns_below h.line hb (Nat.le_refl _), h.apt⟩

theorem Quad.set (h : Quad B w v1 v2 v3 s1 s2 s3 A1 A2 A3 vl L) {T j : Nat} (hT : T < B) (x : Value) : Quad B (w.setCell ⟨T, j, none⟩ x) v1 v2 v3 s1 s2 s3 A1 A2 A3 vl L :=
  ⟨h.tri.set hT x, ownsRow_setCell_below h.line (by exact hT) _, h.apt⟩

theorem Quad.put (h : Quad B w v1 v2 v3 s1 s2 s3 A1 A2 A3 vl L) {m k : Nat} {f : Int → Option Value} (hm : IMap w m k f) (hg : w.grownBy w' (some m)) : Quad B w' v1 v2 v3 s1 s2 s3 A1 A2 A3 vl L :=
  ⟨h.tri.put hm hg, owns_map_kept h.line hm hg, h.apt⟩

theorem Quad.add1 (h : Quad B w v1 v2 v3 s1 s2 s3 A1 A2 A3 vl L) (hu : w.ownsRow B 3 1 u X.length (X.map (Value.int .i64))) (hua : Apt u vl) (hown : w'.ownsRow B 22 1 v' (s1.length + 1) (s1 ++ [u])) (hg : w.grownBy w' v1.ownBlock)
    (hp : v'.ownBlock = v1.ownBlock ∨ (v'.ownBlock = some w.heap.size ∧ w.grownBy w' none)) : Quad B w' v' v2 v3 (s1 ++ [u]) s2 s3 (A1 ++ [X]) A2 A3 vl L :=
  ⟨h.tri.add1 hu hown hg hp, owns_kept_ty h.line h.tri.l1.row hg, fun y hy => by
    rcases List.mem_append.1 hy with hy | hy
    · rcases List.mem_append.1 hy with hy | hy
      · rcases List.mem_append.1 hy with hy | hy
        · exact h.apt y (by simp [hy])
        · rw [List.mem_singleton.1 hy]; exact hua
      · exact h.apt y (by simp [hy])
    · exact h.apt y (by simp [hy])⟩

theorem Quad.add2 (h : Quad B w v1 v2 v3 s1 s2 s3 A1 A2 A3 vl L) (hu : w.ownsRow B 3 1 u X.length (X.map (Value.int .i64))) (hua : Apt u vl) (hown : w'.ownsRow B 22 1 v' (s2.length + 1) (s2 ++ [u])) (hg : w.grownBy w' v2.ownBlock)
    (hp : v'.ownBlock = v2.ownBlock ∨ (v'.ownBlock = some w.heap.size ∧ w.grownBy w' none)) : Quad B w' v1 v' v3 s1 (s2 ++ [u]) s3 A1 (A2 ++ [X]) A3 vl L :=
  ⟨h.tri.add2 hu hown hg hp, owns_kept_ty h.line h.tri.l2.row hg, fun y hy => by
    rcases List.mem_append.1 hy with hy | hy
    · rcases List.mem_append.1 hy with hy | hy
      · exact h.apt y (by simp [hy])
      · rcases List.mem_append.1 hy with hy | hy
        · exact h.apt y (by simp [hy])
        · rw [List.mem_singleton.1 hy]; exact hua
    · exact h.apt y (by simp [hy])⟩

/-- The line is in no other's way. -/
theorem LL.beside_line {v : Value} {vs : List Value} {xss : List (List Int)} (h : LL w B v vs xss) {n : Nat} {ys : List Value} (hl : w.ownsRow B 3 1 vl n ys) (ha : ∀ u, u ∈ vs → Apt u vl) (h1 : ∀ g, some g ≠ vl.ownBlock → g < w.heap.size → w'.heap[g]? = w.heap[g]?) : LL w' B v vs xss :=
  h.of_blocks (fun g hb => h1 g (fun e => owns_ty h.row hl (by decide) g hb e.symm) (h.row.lt g hb).2) (fun u hu g hb => by
    obtain ⟨X, hX⟩ := h.inner hu
    exact h1 g (fun e => ha u hu g hb e.symm) (hX.lt g hb).2)

theorem Tri.beside_line (h : Tri B w v1 v2 v3 s1 s2 s3 A1 A2 A3) {n : Nat} {ys : List Value} (hl : w.ownsRow B 3 1 vl n ys) (ha : ∀ u, u ∈ s1 ++ s2 ++ s3 → Apt u vl) (h1 : ∀ g, some g ≠ vl.ownBlock → g < w.heap.size → w'.heap[g]? = w.heap[g]?) : Tri B w' v1 v2 v3 s1 s2 s3 A1 A2 A3 :=
  ⟨h.l1.beside_line hl (fun u hu => ha u (by simp [hu])) h1, h.l2.beside_line hl (fun u hu => ha u (by simp [hu])) h1, h.l3.beside_line hl (fun u hu => ha u (by simp [hu])) h1, h.a12, h.a13, h.a23⟩

theorem Quad.push (h : Quad B w v1 v2 v3 s1 s2 s3 A1 A2 A3 vl L) {x : Int} (hown : w'.ownsRow B 3 1 v' (L.length + 1) ((L ++ [x]).map (Value.int .i64))) (hg : w.grownBy w' vl.ownBlock)
    (hp : v'.ownBlock = vl.ownBlock ∨ (v'.ownBlock = some w.heap.size ∧ w.grownBy w' none)) : Quad B w' v1 v2 v3 s1 s2 s3 A1 A2 A3 v' (L ++ [x]) := by
  refine ⟨h.tri.beside_line h.line h.apt (fun g h1 h2 => hg.block g h2 h1), by rw [List.length_append]; exact hown, fun u hu => ?_⟩
  rcases hp with hp | ⟨hp, _⟩
  · exact fun g h1 h2 => h.apt u hu g h1 (hp.symm.trans h2)
  · refine Apt.symm (fun g h1 h2 => ?_)
    rw [hp] at h1
    have e := Option.some.inj h1
    have hlt : g < w.heap.size := by
      rcases List.mem_append.1 hu with hu | hu
      · rcases List.mem_append.1 hu with hu | hu
        · obtain ⟨Y, hY⟩ := h.tri.l1.inner hu; exact (hY.lt g h2).2
        · obtain ⟨Y, hY⟩ := h.tri.l2.inner hu; exact (hY.lt g h2).2
      · obtain ⟨Y, hY⟩ := h.tri.l3.inner hu; exact (hY.lt g h2).2
    omega

theorem Quad.write {g n c : Nat} (h : Quad B w v1 v2 v3 s1 s2 s3 A1 A2 A3 (.slice (some ⟨g, 0, none⟩) n c) L) (hn : L.length = n) (m : Nat) (x : Int) : Quad B (w.setCell ⟨g, m, none⟩ (.int .i64 x)) v1 v2 v3 s1 s2 s3 A1 A2 A3 (.slice (some ⟨g, 0, none⟩) n c) (L.set m x) := by
  have hl := h.line
  rw [hn] at hl
  refine ⟨h.tri.beside_line hl h.apt (fun b h1 _ => Below.heap_setCell _ _ _ _ (fun e => h1 (by rw [e]; rfl))), ?_, h.apt⟩
  rw [List.length_set, hn]
  exact owns_set_int hl x

end

end Go.Proofs.YtahffpgadoiijaaGreat

/- Plain: which part a row is of, as a map by ranks says it. -/
namespace Go.Proofs.YtahffpgadoiijaaGreat
open Go.RowKit

theorem cix_app (H : Pm → Prop) (T : List (Pm × List Int)) (d : Pm × List Int) (x : Pm) : cix H (T ++ [d]) x = if cix H T x < T.length then cix H T x else (open Classical in if H (x * d.1⁻¹) then T.length else T.length + 1) := by
  classical
  unfold cix
  rw [List.findIdx_append]
  split
  · rfl
  · by_cases h : H (x * d.1⁻¹)
    · rw [List.findIdx_singleton, if_pos (decide_eq_true h), if_pos h]; omega
    · rw [List.findIdx_singleton, if_neg (by rw [decide_eq_true_iff]; exact h), if_neg h]; omega

theorem cix_nil (H : Pm → Prop) (x : Pm) : cix H [] x = 0 := by unfold cix; rw [List.findIdx_nil]

/-- The parts of rows, by ranks. -/
noncomputable def partV (H : Pm → Prop) (T : List (Pm × List Int)) (x : Pm) : Option Value := if cix H T x < T.length then some (.int .i64 ((cix H T x : Nat) : Int)) else none

def NumOk (H : Pm → Prop) (n : Nat) (T : List (Pm × List Int)) (F : Int → Option Value) : Prop := ∀ x, Fixes (fun b => n ≤ b) x → F ((rkP n x : Nat) : Int) = partV H T x

/-- .. while those of r's part are told. -/
def NumTo (H : Pm → Prop) (n : Nat) (T : List (Pm × List Int)) (r : Pm) (Hs : List Pm) (m : Nat) (F : Int → Option Value) : Prop :=
  ∀ x, Fixes (fun b => n ≤ b) x → (x * r⁻¹ ∈ Hs.take m → F ((rkP n x : Nat) : Int) = some (.int .i64 ((T.length : Nat) : Int))) ∧ (¬ x * r⁻¹ ∈ Hs.take m → F ((rkP n x : Nat) : Int) = partV H T x)

theorem NumTo.start {H : Pm → Prop} {n : Nat} {T : List (Pm × List Int)} {F : Int → Option Value} (h : NumOk H n T F) (r : Pm) (Hs : List Pm) : NumTo H n T r Hs 0 F :=
  fun x hx => ⟨fun hm => by simp at hm, fun _ => h x hx⟩

theorem NumTo.none (H : Pm → Prop) (n : Nat) (r : Pm) (Hs : List Pm) : NumTo H n [] r Hs 0 (fun _ => Option.none) :=
  fun x _ => ⟨fun hm => by simp at hm, fun _ => by unfold partV; rw [if_neg (by simp)]⟩

theorem NumTo.step {H : Pm → Prop} {n : Nat} {T : List (Pm × List Int)} {r c : Pm} {Hs : List Pm} {m : Nat} {F : Int → Option Value} (h : NumTo H n T r Hs m F) (h12 : n ≤ 12) (hr : Fixes (fun b => n ≤ b) r) (hcf : Fixes (fun b => n ≤ b) c) (hc : Hs[m]? = some c) :
    NumTo H n T r Hs (m + 1) (upd F ((rkP n (c * r) : Nat) : Int) (.int .i64 ((T.length : Nat) : Int))) := by
  intro x hx
  have hiff : x * r⁻¹ ∈ Hs.take (m + 1) ↔ x * r⁻¹ ∈ Hs.take m ∨ x = c * r := by
    rw [List.take_add_one, hc, List.mem_append]
    constructor
    · rintro (h1 | h1)
      · exact Or.inl h1
      · right
        have : x * r⁻¹ = c := by simpa using h1
        rw [← this, Pm.mul_assoc, Pm.inv_mul, Pm.mul_one]
    · rintro (h1 | h1)
      · exact Or.inl h1
      · right
        rw [h1, Pm.mul_assoc, Pm.mul_inv, Pm.mul_one]
        simp
  have hcr : Fixes (fun b => n ≤ b) (c * r) := (fixes_sub _).mul hcf hr
  unfold upd
  by_cases e : x = c * r
  · subst e
    exact ⟨fun _ => if_pos rfl, fun hn => absurd (hiff.2 (Or.inr rfl)) hn⟩
  · have hne : ¬ ((rkP n x : Nat) : Int) = ((rkP n (c * r) : Nat) : Int) := fun h9 => e (rkP_inj h12 hx hcr (by omega))
    rw [if_neg hne]
    exact ⟨fun hm => (h x hx).1 ((hiff.1 hm).resolve_right e), fun hn => (h x hx).2 (fun h9 => hn (hiff.2 (Or.inl h9)))⟩

theorem NumTo.done {H : Pm → Prop} (hH : Sub H) {n : Nat} {T : List (Pm × List Int)} {d : Pm × List Int} {Hs : List Pm} {F : Int → Option Value} (h : NumTo H n T d.1 Hs Hs.length F) (hHs : ∀ x, x ∈ Hs ↔ H x) (hn : ∀ e, e ∈ T → ¬ H (d.1 * e.1⁻¹)) : NumOk H n (T ++ [d]) F := by
  classical
  intro x hx
  have h1 := h x hx
  rw [List.take_length, hHs] at h1
  unfold partV
  rw [cix_app, List.length_append, List.length_singleton]
  by_cases hm : H (x * d.1⁻¹)
  · rw [h1.1 hm]
    have hx' : ¬ cix H T x < T.length := fun hc => by
      obtain ⟨e, he, hHe⟩ := cix_at hc
      refine hn e (List.mem_of_getElem? he) ?_
      have := hH.mul (hH.inv hm) hHe
      rwa [Pm.inv_prod, Pm.inv_inv, Pm.mul_assoc, Pm.inv_mul_cancel] at this
    rw [if_neg hx', if_pos hm, if_pos (by omega)]
  · rw [h1.2 hm]
    unfold partV
    by_cases hc : cix H T x < T.length
    · rw [if_pos hc, if_pos hc, if_pos (by omega)]
    · rw [if_neg hc, if_neg hc, if_neg hm, if_neg (by omega)]

theorem partV_some {H : Pm → Prop} {T : List (Pm × List Int)} {x : Pm} (h : cix H T x < T.length) : partV H T x = some (.int .i64 ((cix H T x : Nat) : Int)) := if_pos h
theorem partV_none {H : Pm → Prop} {T : List (Pm × List Int)} {x : Pm} (h : ¬ cix H T x < T.length) : partV H T x = none := if_neg h

/-- One letter: known, new. -/
theorem tryC_old {H : Pm → Prop} {L : List (Int × Pm)} {e : Pm × List Int} {T0 T : List (Pm × List Int)} {j : Nat} {ln : List Nat} {l : Int × Pm} (h : (T, ln) = tryCs H L e T0 j) (hl : L[j]? = some l) (hc : cix H T (e.1 * l.2) < T.length) : (T, ln ++ [cix H T (e.1 * l.2)]) = tryCs H L e T0 (j + 1) := by
  rw [tryCs_succ hl, ← h]
  unfold tryC
  simp only [if_pos hc]

theorem tryC_new {H : Pm → Prop} {L : List (Int × Pm)} {e : Pm × List Int} {T0 T : List (Pm × List Int)} {j : Nat} {ln : List Nat} {l : Int × Pm} (h : (T, ln) = tryCs H L e T0 j) (hl : L[j]? = some l) (hc : ¬ cix H T (e.1 * l.2) < T.length) : (T ++ [(e.1 * l.2, e.2 ++ [l.1])], ln ++ [T.length]) = tryCs H L e T0 (j + 1) := by
  have hce : cix H T (e.1 * l.2) = T.length := by have := cix_le H T (e.1 * l.2); omega
  rw [tryCs_succ hl, ← h]
  unfold tryC
  simp only [if_neg hc]
  rw [hce]

end Go.Proofs.YtahffpgadoiijaaGreat

/- Contracts: By, Undo, Rank of the answer over rows; what the answer's Parts has laid so far. -/
namespace Go.Proofs.YtahffpgadoiijaaGreat
open Go.RowKit

theorem rcut_by (n : Nat) (x y : Pm) (v v2 : Value) (w : World) (h1 : 1 ≤ n) (h12 : n ≤ 12) (hx : Fixes (fun b => n ≤ b) x) (hy : Fixes (fun b => n ≤ b) y) (h : Ints w v (cut n x)) (h2 : Ints w v2 (cut n y)) :
    Calls Tryz.prog 21 #[v, v2] w fun e w' => ∃ u, e = .returned u ∧ w'.ownsRow w.heap.size 3 1 u n ((cut n (x * y)).map (Value.int .i64)) ∧ Below w.heap.size w w' := by
  have hcl := cut_length h12 x
  have hcl2 := cut_length h12 y
  have hcr2 := cut_row h12 hy
  refine (rby_own v v2 (cut n x) (cut n y) w h h2 (fun j hj => by have := hcr2.at hj; rw [hcl2] at this; rw [hcl]; exact this) (by omega) (by omega)).mono ?_
  rintro e w' ⟨u, rfl, ho, hb⟩
  rw [by_cut h12 hx hcr2 hcl2, pad_cut h12 hy, hcl2] at ho
  exact ⟨u, rfl, ho, hb⟩

theorem rcut_undo (n : Nat) (x : Pm) (v : Value) (w : World) (h1 : 1 ≤ n) (h12 : n ≤ 12) (hf : Fixes (fun b => n ≤ b) x) (h : Ints w v (cut n x)) :
    Calls Tryz.prog 22 #[v] w fun e w' => ∃ u, e = .returned u ∧ w'.ownsRow w.heap.size 3 1 u n ((cut n x⁻¹).map (Value.int .i64)) ∧ Below w.heap.size w w' := by
  have hcl := cut_length h12 x
  have hcr := cut_row h12 hf
  refine (undo_own v (cut n x) w h hcr (by omega) (by omega)).mono ?_
  rintro e w' ⟨u, zs, rfl, ho, hu, hb⟩
  have hz : zs = cut n x⁻¹ := by
    have h3 := isRow_undoes hcr hu
    have hl : zs.length = n := by rw [hu.1, hcl]
    have h4 := pad_undoes (by omega) hcr hu
    rw [pad_cut h12 hf] at h4
    rw [← h4, cut_pad h12 hl h3]
  rw [hz, hcl] at ho
  exact ⟨u, rfl, ho, hb⟩

theorem rcut_rank (n : Nat) (x : Pm) (v : Value) (w : World) (h1 : 1 ≤ n) (h12 : n ≤ 12) (hf : Fixes (fun b => n ≤ b) x) (h : Ints w v (cut n x)) :
    Calls Tryz.prog 31 #[v] w fun e w' => e = .returned (.int .i64 ((rkP n x : Nat) : Int)) ∧ Below w.heap.size w w' := by
  have hcl := cut_length h12 x
  have := rrank_ok v (cut n x) w h (cut_row h12 hf) (by omega) (by omega)
  rwa [hcl] at this

/-- What the answer's Parts has laid so far. -/
structure PRel (w wr : World) (M : Nat) (v1 v2 v3 : Value) (s1 s2 s3 : List Value) (A1 A2 A3 : List (List Int)) (vl : Value) (L : List Int) (F : Int → Option Value) (cnt : Nat) : Prop where
  quad : Quad w.heap.size wr v1 v2 v3 s1 s2 s3 A1 A2 A3 vl L
  map : IMap wr M cnt F
  mge : w.heap.size ≤ M
  below : Below w.heap.size w wr

section
variable {w wr w' : World} {M cnt : Nat} {v1 v2 v3 v' u vl : Value} {s1 s2 s3 : List Value} {A1 A2 A3 : List (List Int)} {L X : List Int} {F F' : Int → Option Value}

theorem PRel.later (h : PRel w wr M v1 v2 v3 s1 s2 s3 A1 A2 A3 vl L F cnt) (hb : Below wr.heap.size wr w') : PRel w w' M v1 v2 v3 s1 s2 s3 A1 A2 A3 vl L F cnt :=
  ⟨h.quad.later hb, h.map.below hb h.map.lt, h.mge, h.below.trans (hb.mono h.below.size)⟩

theorem PRel.alloc (h : PRel w wr M v1 v2 v3 s1 s2 s3 A1 A2 A3 vl L F cnt) (o : Obj) : PRel w (wr.alloc o) M v1 v2 v3 s1 s2 s3 A1 A2 A3 vl L F cnt :=
  h.later ((Below.refl _ _).alloc (Nat.le_refl _) o)

theorem PRel.put (h : PRel w wr M v1 v2 v3 s1 s2 s3 A1 A2 A3 vl L F cnt) (hm : IMap w' M (cnt + 1) F') (hg : wr.grownBy w' (some M)) : PRel w w' M v1 v2 v3 s1 s2 s3 A1 A2 A3 vl L F' (cnt + 1) :=
  ⟨h.quad.put h.map hg, hm, h.mge, h.below.grown hg h.below.size (fun k hk => by injection hk with hk; rw [← hk]; exact h.mge)⟩

theorem PRel.add1 (h : PRel w wr M v1 v2 v3 s1 s2 s3 A1 A2 A3 vl L F cnt) (hu : wr.ownsRow w.heap.size 3 1 u X.length (X.map (Value.int .i64))) (hua : Apt u vl) (hown : w'.ownsRow w.heap.size 22 1 v' (s1.length + 1) (s1 ++ [u])) (hg : wr.grownBy w' v1.ownBlock)
    (hp : v'.ownBlock = v1.ownBlock ∨ (v'.ownBlock = some wr.heap.size ∧ wr.grownBy w' none)) : PRel w w' M v' v2 v3 (s1 ++ [u]) s2 s3 (A1 ++ [X]) A2 A3 vl L F cnt :=
  ⟨h.quad.add1 hu hua hown hg hp, map_row_kept h.quad.tri.l1.row h.map hg, h.mge, h.below.grown hg h.below.size (fun g hg' => (h.quad.tri.l1.row.lt g hg').1)⟩

theorem PRel.add2 (h : PRel w wr M v1 v2 v3 s1 s2 s3 A1 A2 A3 vl L F cnt) (hu : wr.ownsRow w.heap.size 3 1 u X.length (X.map (Value.int .i64))) (hua : Apt u vl) (hown : w'.ownsRow w.heap.size 22 1 v' (s2.length + 1) (s2 ++ [u])) (hg : wr.grownBy w' v2.ownBlock)
    (hp : v'.ownBlock = v2.ownBlock ∨ (v'.ownBlock = some wr.heap.size ∧ wr.grownBy w' none)) : PRel w w' M v1 v' v3 s1 (s2 ++ [u]) s3 A1 (A2 ++ [X]) A3 vl L F cnt :=
  ⟨h.quad.add2 hu hua hown hg hp, map_row_kept h.quad.tri.l2.row h.map hg, h.mge, h.below.grown hg h.below.size (fun g hg' => (h.quad.tri.l2.row.lt g hg').1)⟩

theorem PRel.push (h : PRel w wr M v1 v2 v3 s1 s2 s3 A1 A2 A3 vl L F cnt) {x : Int} (hown : w'.ownsRow w.heap.size 3 1 v' (L.length + 1) ((L ++ [x]).map (Value.int .i64))) (hg : wr.grownBy w' vl.ownBlock)
    (hp : v'.ownBlock = vl.ownBlock ∨ (v'.ownBlock = some wr.heap.size ∧ wr.grownBy w' none)) : PRel w w' M v1 v2 v3 s1 s2 s3 A1 A2 A3 v' (L ++ [x]) F cnt :=
  ⟨h.quad.push hown hg hp, map_row_kept h.quad.line h.map hg, h.mge, h.below.grown hg h.below.size (fun g hg' => (h.quad.line.lt g hg').1)⟩

theorem Quad.bare {B : Nat} (h : Tri B wr v1 v2 v3 s1 s2 s3 A1 A2 A3) : Quad B wr v1 v2 v3 s1 s2 s3 A1 A2 A3 (.slice none 0 0) [] :=
  ⟨h, World.ownsRow_nil _ _ _ _, fun u _ g _ h2 => by cases h2⟩

theorem PRel.fin (h : PRel w wr M v1 v2 v3 s1 s2 s3 A1 A2 A3 vl L F cnt) (hown : w'.ownsRow w.heap.size 22 1 v' (s3.length + 1) (s3 ++ [vl])) (hg : wr.grownBy w' v3.ownBlock)
    (hp : v'.ownBlock = v3.ownBlock ∨ (v'.ownBlock = some wr.heap.size ∧ wr.grownBy w' none)) : PRel w w' M v1 v2 v' s1 s2 (s3 ++ [vl]) A1 A2 (A3 ++ [L]) (.slice none 0 0) [] F cnt :=
  ⟨Quad.bare (h.quad.tri.add3 h.quad.line hown hg hp), map_row_kept h.quad.tri.l3.row h.map hg, h.mge, h.below.grown hg h.below.size (fun g hg' => (h.quad.tri.l3.row.lt g hg').1)⟩

theorem PRel.lists {B1 B2 B3 : List (List Int)} {L' : List Int} (h : PRel w wr M v1 v2 v3 s1 s2 s3 A1 A2 A3 vl L F cnt) (e1 : A1 = B1) (e2 : A2 = B2) (e3 : A3 = B3) (e4 : L = L') : PRel w wr M v1 v2 v3 s1 s2 s3 B1 B2 B3 vl L' F cnt := by
  subst e1; subst e2; subst e3; subst e4; exact h

end

/-- The first of all: rounds, and no word. -/
theorem PRel.start {w w1 : World} {n : Nat} {v0 : Value} (hown : w1.ownsRow w.heap.size 3 1 v0 n ((rnd n).map (Value.int .i64))) (h12 : n ≤ 12) (hb : Below w.heap.size w w1) :
    PRel w (((w1.alloc (.cells #[v0] 22)).alloc (.cells #[.slice none 0 0] 22)).alloc (.map #[] 0)) (w1.heap.size + 1 + 1) (.slice (some ⟨w1.heap.size, 0, none⟩) 1 1) (.slice (some ⟨w1.heap.size + 1, 0, none⟩) 1 1) (.slice none 0 0) [v0] [.slice none 0 0] [] [cut n 1] [[]] [] (.slice none 0 0) [] (fun _ => none) 0 := by
  have hs := hb.size
  have hcut : cut n 1 = rnd n := by
    have := cut_pad h12 (rnd_length n) (isRow_rnd n)
    rwa [pad_rnd h12] at this
  have e1 : (w1.alloc (.cells #[v0] 22)).heap.size = w1.heap.size + 1 := by simp
  have e2 : ((w1.alloc (.cells #[v0] 22)).alloc (.cells #[.slice none 0 0] 22)).heap.size = w1.heap.size + 1 + 1 := by simp
  have hB1 : Below w.heap.size w (w1.alloc (.cells #[v0] 22)) := hb.alloc hs _
  have hB2 := hB1.alloc (by rw [e1]; omega) (.cells #[.slice none 0 0] 22)
  have hB3 := hB2.alloc (by rw [e2]; omega) (.map #[] 0)
  have hL1 : LL (w1.alloc (.cells #[v0] 22)) w.heap.size (.slice (some ⟨w1.heap.size, 0, none⟩) 1 1) [v0] [cut n 1] := LL.one (by rw [hcut, rnd_length]; exact hown) hs
  have hL2 : LL ((w1.alloc (.cells #[v0] 22)).alloc (.cells #[.slice none 0 0] 22)) w.heap.size (.slice (some ⟨w1.heap.size + 1, 0, none⟩) 1 1) [.slice none 0 0] [[]] := by
    have := LL.one (w := w1.alloc (.cells #[v0] 22)) (base := w.heap.size) (u := .slice none 0 0) (X := []) (World.ownsRow_nil _ _ _ _) (by rw [e1]; omega)
    rwa [e1] at this
  have al : ∀ (W : World) (o : Obj), Below W.heap.size W (W.alloc o) := fun W o => (Below.refl _ _).alloc (Nat.le_refl _) o
  refine ⟨Quad.bare ⟨(hL1.below (al _ _)).below (al _ _), hL2.below (al _ _), LL.nil _ _, ?_, (apt_none _).symm, (apt_none _).symm⟩, ?_, by omega, hB3⟩
  · intro g h1 h2
    have h1' : some w1.heap.size = some g := h1
    have h2' : some (w1.heap.size + 1) = some g := h2
    have := Option.some.inj h1'
    have := Option.some.inj h2'
    omega
  · have := IMap.made ((w1.alloc (.cells #[v0] 22)).alloc (.cells #[.slice none 0 0] 22))
    rwa [e2] at this

end Go.Proofs.YtahffpgadoiijaaGreat

/- Contract: the answer's Parts. -/
namespace Go.Proofs.YtahffpgadoiijaaGreat
open Go.RowKit

def PartsPost (n : Nat) (H : Pm → Prop) (gss : List (List Int)) (w : World) (e : Ending) (w' : World) : Prop :=
  ∃ vn vw vr T N, e = .returned (.tuple #[vn, vw, vr]) ∧ RunC H (letters 0 gss) T.length T N ∧ IntsAll w' vn (N.map natI) ∧ IntsAll w' vw (T.map (·.2)) ∧ IntsAll w' vr (T.map (fun e => cut n e.1)) ∧ Below w.heap.size w w'

theorem letters_at {n : Nat} {gss : List (List Int)} (h12 : n ≤ 12) (hR : RowsN n gss) {j : Nat} (hj : j < 2 * gss.length) : ∃ l x, (letters 0 gss)[j]? = some l ∧ gss[j / 2]? = some x ∧ Fixes (fun b => n ≤ b) l.2 ∧ ((j % 2 = 0 ∧ l.1 = ((j / 2 : Nat) : Int) + 1 ∧ x = cut n l.2) ∨ (j % 2 = 1 ∧ l.1 = -(((j / 2 : Nat) : Int) + 1) ∧ x = cut n l.2⁻¹)) := by
  obtain ⟨x, hx⟩ : ∃ x, gss[j / 2]? = some x := ⟨_, List.getElem?_eq_getElem (by omega)⟩
  obtain ⟨hr, hl⟩ := hR x (List.mem_of_getElem? hx)
  have hf := pad_fixes h12 hl hr
  rcases Nat.mod_two_eq_zero_or_one j with hm | hm
  · refine ⟨(((j / 2 : Nat) : Int) + 1, pad x), x, ?_, hx, ?_, Or.inl ⟨hm, ?_, ?_⟩⟩
    · have := letters_even (k := 0) hx
      rw [show 2 * (j / 2) = j by omega, Nat.zero_add] at this
      exact this
    · exact hf
    · rfl
    · exact (cut_pad h12 hl hr).symm
  · refine ⟨(-(((j / 2 : Nat) : Int) + 1), (pad x)⁻¹), x, ?_, hx, ?_, Or.inr ⟨hm, ?_, ?_⟩⟩
    · have := letters_odd (k := 0) hx
      rw [show 2 * (j / 2) + 1 = j by omega, Nat.zero_add] at this
      exact this
    · exact (fixes_sub _).inv hf
    · rfl
    · show x = cut n ((pad x)⁻¹)⁻¹
      rw [Pm.inv_inv]; exact (cut_pad h12 hl hr).symm

theorem natI_length (l : List Nat) : (natI l).length = l.length := by unfold natI; rw [List.length_map]

end Go.Proofs.YtahffpgadoiijaaGreat

/- Contract: colour.turned: the number of the colouring that a row makes of one. -/
namespace Go.Proofs.YtahffpgadoiijaaGreat
open Go.RowKit

/-- The colours that a row brings. -/
def trn (P : List Nat) (xs : List Int) : List Nat := xs.map (fun j => P.getD j.toNat 0)

theorem trn_lt {P : List Nat} {xs : List Int} {c : Nat} (hc : 1 ≤ c) (h : ∀ x, x ∈ P → x < c) : ∀ x, x ∈ trn P xs → x < c := fun x hx => by
  obtain ⟨j, _, rfl⟩ := List.mem_map.1 hx
  show P.getD j.toNat 0 < c
  rw [List.getD]
  cases hj : P[j.toNat]? with
  | none => show 0 < c; omega
  | some y => exact h y (List.mem_of_getElem? hj)

theorem natI_getD (P : List Nat) (i : Nat) : (natI P).getD i 0 = ((P.getD i 0 : Nat) : Int) := by
  unfold natI
  rw [List.getD, List.getD, List.getElem?_map]
  cases P[i]? <;> rfl

set_option maxRecDepth 20000 in
set_option maxHeartbeats 2000000 in
theorem turned_ok (c : Nat) (v1 v2 : Value) (P : List Nat) (xs : List Int) (w : World) (h1 : Ints w v1 (natI P)) (h2 : Ints w v2 xs) (hr : isRow xs) (hl : xs.length = P.length) (hn1 : 1 ≤ P.length) (hn : P.length ≤ 12) (hc1 : 1 ≤ c) (hc8 : c ≤ 8) (hP : ∀ x, x ∈ P → x < c) :
    Calls Tryz.prog 96 #[v1, v2, .int .i64 (c : Int)] w fun e w' => e = .returned (.int .i64 ((numC c (trn P xs) 0 : Nat) : Int)) ∧ w = w' := by
  obtain ⟨p1, c1, e1⟩ := h1.form
  obtain ⟨p2, c2, e2⟩ := h2.form
  rw [natI_length] at e1
  rw [hl] at e2
  subst e1
  subst e2
  obtain ⟨b1, o1, rfl, k11, k12, k13, k14⟩ := h1.open (by rw [natI_length]; exact hn1)
  obtain ⟨b2, o2, rfl, k21, k22, k23, k24⟩ := h2.open (by rw [hl]; exact hn1)
  rw [natI_length] at k11 k14
  rw [hl] at k21 k24
  have HC1 := hide k14
  have HC2 := hide k24
  have HR := hide hr
  have HP := hide hP
  have HL := hide hl
  generalize hN : P.length = N at *
  have HN := hide hN
  clear h1 h2 hr hP hl k14 k24 hN
  go_enter Tryz.func96, Tryz.ntmps96
  go_wp2
  go_loop [7, 12] (fun x i => ∃ k a : Nat, k ≤ N ∧ i = .int .i64 (k : Int) ∧ x = .int .i64 (a : Int) ∧ Hid (a = numC c (trn P (xs.take k)) 0)) (fun _ i => N - (intOf i).toNat)
  case atStart => exact ⟨0, 0, Nat.zero_le _, rfl, rfl, by unfold Hid; simp [trn, numC]⟩
  case round =>
    obtain ⟨k, a, hk, rfl, rfl, ha⟩ := hrel
    by_cases hlt : k < N
    · have hkx : k < xs.length := by rw [HL.out]; exact hlt
      have hat := HR.out.at hkx
      rw [HL.out] at hat
      obtain ⟨y, hy⟩ : ∃ y : Nat, xs.getD k 0 = (y : Int) := ⟨(xs.getD k 0).toNat, by omega⟩
      have hyN : y < N := by omega
      have hcx := HC2.out k hlt
      rw [hy] at hcx
      have hcp := HC1.out y hyN
      rw [natI_getD] at hcp
      have hsucc : trn P (xs.take (k + 1)) = trn P (xs.take k) ++ [P.getD y 0] := by
        unfold trn
        have hg : xs[k]? = some (y : Int) := by
          rw [List.getElem?_eq_getElem hkx]
          rw [List.getD, List.getElem?_eq_getElem hkx] at hy
          exact congrArg some hy
        rw [List.take_add_one, hg, List.map_append]
        rfl
      obtain ⟨z, hz⟩ : ∃ z, z = P.getD y 0 := ⟨_, rfl⟩
      obtain ⟨m, hm⟩ : ∃ m, m = a * c := ⟨_, rfl⟩
      have hmI : (a : Int) * (c : Int) = (m : Int) := by rw [hm]; simp
      have HA2 : Hid (m + z = numC c (trn P (xs.take (k + 1))) 0) := by show _ = _; rw [hsucc, numC_snoc, ← ha.out, hm, hz]
      have hb : m + z ≤ 68719476736 := by
        rw [HA2.out]
        have h9 := numC_lt (trn P (xs.take (k + 1))) (trn_lt hc1 HP.out)
        have h8 : (trn P (xs.take (k + 1))).length = k + 1 := by unfold trn; rw [List.length_map, List.length_take]; omega
        rw [h8] at h9
        have h7 := pow_le12 hc8 (show k + 1 ≤ 12 by omega)
        omega
      rw [← hz] at hcp
      clear hat hy hsucc hz hm ha
      go_wp2
      go_round
      case rel => exact ⟨k + 1, m + z, hlt, by go_num, by go_num, HA2⟩
      case measure => simp [intOf]; omega
    · obtain rfl : N = k := by omega
      have HA : Hid (a = numC c (trn P xs) 0) := by
        have h9 := ha.out
        rw [List.take_of_length_le (by rw [HL.out]; exact Nat.le_refl _)] at h9
        exact h9
      clear ha
      go_wp2
      go_ret
      exact ⟨by rw [HA.out]; rfl, rfl⟩

end Go.Proofs.YtahffpgadoiijaaGreat

/- Contract: the answer's IsFirst. -/
namespace Go.Proofs.YtahffpgadoiijaaGreat
open Go.RowKit

/-- Is a colouring the first of those that rows make of it? -/
def isF (cl : List Int) (rows : List (List Int)) : Bool := rows.all (fun x => !(blw (by_ cl x) cl))

theorem isF_take {cl : List Int} {rows : List (List Int)} {k : Nat} {x : List Int} (hx : rows[k]? = some x) : isF cl (rows.take (k + 1)) = (isF cl (rows.take k) && !(blw (by_ cl x) cl)) := by
  unfold isF
  rw [List.take_add_one, hx, List.all_append]
  simp

theorem isF_bad {cl : List Int} {rows : List (List Int)} {x : List Int} (hx : x ∈ rows) (hb : blw (by_ cl x) cl = true) : isF cl rows = false := by
  unfold isF
  rw [List.all_eq_false]
  exact ⟨x, hx, by rw [hb]; decide⟩

set_option maxRecDepth 20000 in
set_option maxHeartbeats 2000000 in
theorem risFirst_ok (n : Nat) (v vR : Value) (cl : List Int) (rows : List (List Int)) (w : World) (h1 : Ints w v cl) (h2 : IntsAll w vR rows) (hl : cl.length = n) (hn1 : 1 ≤ n) (hn : n ≤ 12) (hR : RowsN n rows) (hN : rows.length ≤ 1000000) :
    Calls Tryz.prog 43 #[v, vR] w fun e w' => e = .returned (.bool (isF cl rows)) ∧ Below w.heap.size w w' := by
  obtain ⟨p1, c1, e1⟩ := h1.form
  rw [hl] at e1
  subst e1
  obtain ⟨p2, c2, e2⟩ := h2.len
  subst e2
  have H1 := hide h1
  have H2 := hide h2
  have HR := hide hR
  have HL := hide hl
  generalize hrl : rows.length = rl at *
  have HRL := hide hrl
  clear h1 h2 hR hl hrl
  go_enter Tryz.func43, Tryz.ntmps43
  go_wp2
  go_loopw [5] (fun si wr => ∃ k : Nat, k ≤ rl ∧ si = .int .i64 (k : Int) ∧ Hid (isF cl (rows.take k) = true) ∧ Below w.heap.size w wr) (fun si _ => rl - (intOf si).toNat)
  case atStart => exact ⟨0, Nat.zero_le _, rfl, by unfold Hid isF; simp, Below.refl _ _⟩
  case round =>
    obtain ⟨k, hk, rfl, hF, hbk⟩ := hrel
    by_cases hlt : k < rl
    · obtain ⟨x, hx⟩ : ∃ x, rows[k]? = some x := ⟨_, List.getElem?_eq_getElem (by rw [HRL.out]; exact hlt)⟩
      obtain ⟨gg, og, epg, -, hg1, hg2, hg3, hg4⟩ := H2.out.rowI (by rw [HRL.out]; omega)
      rw [HRL.out] at hg1
      subst epg
      obtain ⟨ux, hcx, hIx⟩ := hg4 k x hx
      obtain ⟨hxr, hxl⟩ := HR.out x (List.mem_of_getElem? hx)
      have hcx' := (hbk.cell (p := ⟨gg, og + k, none⟩) hg3).trans hcx
      have HBy := hide (rby_own (.slice p1 n c1) ux cl x wr (H1.out.below hbk) (hIx.below hbk) (fun j hj => by have := hxr.at hj; rw [hxl] at this; rw [HL.out]; exact this) (by rw [HL.out]; exact hn1) (by omega))
      obtain ⟨px, cx, epx⟩ := hIx.form
      rw [hxl] at epx
      subst epx
      have HX := hide hx
      have HXL := hide hxl
      clear hg4 hIx hcx hx hxr hxl
      go_wp2_with fail
      refine HBy.out.mono ?_
      rintro ex w1 ⟨u1, rfl, hown1, hb1⟩
      have hB1 := hbk.trans (hb1.mono hbk.size)
      have HBl := hide (rbelow_any u1 (.slice p1 n c1) (by_ cl x) cl w1 (Ints.own hown1) (H1.out.below hB1) (by rw [by_length, HXL.out]; omega) (by rw [HL.out]; omega))
      rw [HXL.out] at hown1
      obtain ⟨p3, c3, e3⟩ := owns_slice hown1
      subst e3
      clear hown1 hb1 HBy
      go_wp2_with fail
      refine HBl.out.mono ?_
      rintro ex w2 ⟨rfl, hb2⟩
      have HB2 := hide (hB1.trans (hb2.mono hB1.size))
      have HF2 : Hid (blw (by_ cl x) cl = true → isF cl rows = false) := fun h => isF_bad (List.mem_of_getElem? HX.out) h
      have HF3 : Hid (blw (by_ cl x) cl = false → isF cl (rows.take (k + 1)) = true) := fun h => by rw [isF_take HX.out, hF.out, h]; rfl
      generalize blw (by_ cl x) cl = t at *
      clear hb2 HBl hF hB1 hbk
      cases t
      · have HF4 := hide (HF3.out rfl)
        clear HF2 HF3
        go_wp2
        go_roundw
        case rel =>
          have hfin : ∃ k' : Nat, k' ≤ rl ∧ Value.int .i64 ((k : Int) + 1) = .int .i64 (k' : Int) ∧ Hid (isF cl (rows.take k') = true) ∧ Below w.heap.size w w2 := ⟨k + 1, hlt, by go_num, HF4, HB2.out⟩
          first
            | exact hfin
            | ((repeat apply Exists.intro); exact ⟨hfin, rfl⟩)
        case measure => simp [intOf]; omega
      · have HF4 := hide (HF2.out rfl)
        clear HF2 HF3
        go_wp2
        go_ret
        exact ⟨by rw [HF4.out]; rfl, HB2.out⟩
    · obtain rfl : rl = k := by omega
      have HF : Hid (isF cl rows = true) := by
        have h9 := hF.out
        rw [List.take_of_length_le (by rw [HRL.out]; exact Nat.le_refl _)] at h9
        exact h9
      clear hF
      go_wp2
      go_ret
      exact ⟨by rw [HF.out]; rfl, hbk⟩

end Go.Proofs.YtahffpgadoiijaaGreat

/- Contracts: extent.led over the rows of a group; slices.Sort, which writes one block alone. -/
namespace Go.Proofs.YtahffpgadoiijaaGreat
open Go.RowKit Go.Shelf Go.Lib Go.Sort

/-- Rows of a group, in order. -/
structure Rws (n : Nat) (G : Pm → Prop) (X : List Pm) : Prop where
  one : 1 ≤ n
  twelve : n ≤ 12
  sub : Sub G
  fix : ∀ x, G x → Fixes (fun b => n ≤ b) x
  nodup : X.Nodup
  mem : ∀ x, x ∈ X ↔ G x
  sorted : X.Pairwise (fun a b => 0 ≤ lcmp b.l a.l)
  few : X.length ≤ 1000

theorem Rws.pos {n : Nat} {G : Pm → Prop} {X : List Pm} (h : Rws n G X) : 1 ≤ X.length := List.length_pos_of_mem ((h.mem 1).2 h.sub.one)

theorem Rws.cls {n : Nat} {G : Pm → Prop} {X : List Pm} (h : Rws n G X) {c : Pm} (hc : G c) : Cls X c := fun p hp => (h.mem _).2 (h.sub.mul ((h.mem p).1 hp) hc)

theorem Rws.mono {n : Nat} {G : Pm → Prop} {X : List Pm} (h : Rws n G X) (a b : Nat) (hab : a < b) (hb : b < (X.map (cut n)).length) : lcmp ((X.map (cut n)).getD a []) ((X.map (cut n)).getD b []) < 0 := by
  have h1 := cut_rising h.twelve (fun x hx => h.fix x ((h.mem x).1 hx)) h.nodup h.sorted
  have h2 := List.pairwise_iff_getElem.1 h1 a b (by omega) hb hab
  rw [blw_lcmp] at h2
  rw [show (X.map (cut n)).getD a [] = (X.map (cut n))[a]'(by omega) from by rw [List.getD, List.getElem?_eq_getElem (by omega)]; rfl, show (X.map (cut n)).getD b [] = (X.map (cut n))[b] from by rw [List.getD, List.getElem?_eq_getElem hb]; rfl]
  exact of_decide_eq_true h2

theorem Rws.at {n : Nat} {X : List Pm} {i : Nat} {p : Pm} (h : X[i]? = some p) : (X.map (cut n)).getD i [] = cut n p := by rw [List.getD, List.getElem?_map, h]; rfl

end Go.Proofs.YtahffpgadoiijaaGreat

/- Contract: coset.lettersOf. -/
namespace Go.Proofs.YtahffpgadoiijaaGreat
open Go.RowKit

theorem cells4_new (w : World) (a b c d : Value) (t : TypeId) : ∀ (j : Nat) (u : Value), [a, b, c, d][j]? = some u → (w.alloc (.cells #[a, b, c, d] t)).cell? ((⟨w.heap.size, 0, none⟩ : Addr).add j) = some u := by
  intro j u h
  rw [Addr.add_lit, Nat.zero_add]
  have e := heap_alloc_new w (.cells #[a, b, c, d] t)
  simp only [World.cell?, e]
  match j with
  | 0 => simpa using h
  | 1 => simpa using h
  | 2 => simpa using h
  | 3 => simpa using h
  | j + 4 => simp at h

/-- Letters in memory: rows that were there (wp), and rows from block B on. -/
structure LetAt (wp : World) (B : Nat) (w : World) (v : Value) (n : Nat) (gss : List (List Int)) : Prop where
  form : ∃ p c, v = .slice p (2 * gss.length) c
  cells : ∀ (j : Nat) (l : Int × Pm), (letters 0 gss)[j]? = some l → ∃ b c u, v = .slice (some ⟨b, 0, none⟩) (2 * gss.length) c ∧ 2 * gss.length ≤ c ∧ c ≤ 9223372036854775807 ∧ B ≤ b ∧ b < w.heap.size ∧ w.cell? ⟨b, j * 2, none⟩ = some (.int .i64 l.1) ∧ w.cell? ⟨b, j * 2 + 1, none⟩ = some u ∧ (Ints wp u (cut n l.2) ∨ w.ownsRow B 3 1 u n ((cut n l.2).map (Value.int .i64)))

/-- .. stay, as long as those blocks stay. -/
theorem LetAt.kept {wp w w' : World} {B : Nat} {v : Value} {n : Nat} {gss : List (List Int)} (h : LetAt wp B w v n gss) (hb : ∀ g, B ≤ g → g < w.heap.size → w'.heap[g]? = w.heap[g]?) (hs : w.heap.size ≤ w'.heap.size) : LetAt wp B w' v n gss :=
  ⟨h.form, fun j l hl => by
    obtain ⟨b, c, u, h1, h2, h3, h4, h5, h6, h7, h8⟩ := h.cells j l hl
    exact ⟨b, c, u, h1, h2, h3, h4, Nat.lt_of_lt_of_le h5 hs, by rw [World.cell?_of_block (w := w) (a := ⟨b, j * 2, none⟩) (hb b h4 h5)]; exact h6, by rw [World.cell?_of_block (w := w) (a := ⟨b, j * 2 + 1, none⟩) (hb b h4 h5)]; exact h7, h8.imp id (fun h9 => owns_of_block h9 (fun g hg => hb g (h9.lt g hg).1 (h9.lt g hg).2))⟩⟩

end Go.Proofs.YtahffpgadoiijaaGreat

/- A region that draws its order, whose last operation waits for all others and writes what loads read: up to that operation what is loaded stays. -/
namespace Go.Proofs.YtahffpgadoiijaaGreat
open Go.RowKit

section
variable {P : Program} {ops : Array Oper} {Q : Exit → Act → World → Prop} {md : Region.Mode} {S : World → Prop} {k : Nat}

/-- Whatever order is picked; S holds behind each operation but the k-th. -/
def wpLast (P : Program) (md : Region.Mode) (ops : Array Oper) (Q : Exit → Act → World → Prop) (S : World → Prop) (k : Nat) : Nat → Array Bool → Act → World → Prop
  | 0, ls, a, w => Region.ready md ops ls = [] ∧ Q .normal a w
  | n + 1, ls, a, w => (Region.ready md ops ls = [] → Q .normal a w) ∧ ∀ i, i ∈ Region.ready md ops ls → wpOp P ops Q i (fun b u => (i ≠ k → S u) ∧ wpLast P md ops Q S k n (ls.setIfInBounds i true) b u) a w

theorem wpLast.any : ∀ (n : Nat) (ls : Array Bool) (a : Act) (w : World), wpLast P md ops Q S k n ls a w → wpAny P md ops Q n ls a w := by
  intro n
  induction n with
  | zero => exact fun _ _ _ h => h
  | succ n ih => exact fun ls a w h => ⟨h.1, fun i hi => wpOp_mono (fun b u hb => ih _ b u hb.2) (h.2 i hi)⟩

/-- The k-th operation waits for the i-th. -/
def waitsFor (md : Region.Mode) (ops : Array Oper) (k i : Nat) : Bool := match ops[k]? with | some o => o.after.any (fun e => Region.binds md e && e.on == i) | none => true

theorem not_ready_yet {i : Nat} {ls : Array Bool} (hw : waitsFor md ops k i = true) (hi : i ∈ Region.ready md ops ls) : ¬ k ∈ Region.ready md ops ls := fun hk => by
  obtain ⟨_, o, ho, hall⟩ := mem_ready.1 hk
  unfold waitsFor at hw
  rw [ho] at hw
  simp only at hw
  rw [Array.any_eq_true] at hw
  obtain ⟨x, hx, hb⟩ := hw
  simp only [Bool.and_eq_true, beq_iff_eq] at hb
  have h1 := hall _ (Array.getElem_mem hx) hb.1
  have h0 := (mem_ready.1 hi).1
  rw [hb.2] at h1
  rcases Nat.lt_or_ge i ls.size with h' | h'
  · simp [h'] at h0 h1
    rw [h0] at h1
    cases h1
  · simp [Array.getElem?_eq_none h'] at h1

theorem wpLast.first {i : Nat} {o : Oper} {v : Value} (ho : ops[i]? = some o) (hsel : ∀ (j : Nat) (o : Oper) cs b, ops[j]? = some o → o.op ≠ .select cs b) (hQ : ∀ c a w, Q (.panic c) (a.put o.dst v) w → Q (.panic c) a w) (hik : i ≠ k) (hwait : waitsFor md ops k i = true) :
    ∀ (n : Nat) (ls : Array Bool) (a : Act) (w : World), (∀ j oj, ops[j]? = some oj → j ≠ i → ls.getD j true = false → (∀ e ∈ oj.after, Region.binds md e = true → e.on ≠ i) → o.apart ops oj = true) →
      i ∈ Region.ready md ops ls → YieldsIf P ops S o v a → S w → wpLast P md ops Q S k n (ls.setIfInBounds i true) (a.put o.dst v) w → wpLast P md ops Q S k (n + 1) ls a w := by
  intro n
  induction n with
  | zero =>
    intro ls a w _ hr hy hS hn
    refine ⟨fun h => (by rw [h] at hr; cases hr), fun j hj => ?_⟩
    by_cases e : j = i
    · subst e; exact hy.wpOp ho hS ⟨fun _ => hS, hn⟩
    · have h9 := ready_mono hj e
      rw [hn.1] at h9
      cases h9
  | succ n ih =>
    intro ls a w hfree hr hy hS hn
    refine ⟨fun h => (by rw [h] at hr; cases hr), fun j hj => ?_⟩
    by_cases e : j = i
    · subst e; exact hy.wpOp ho hS ⟨fun _ => hS, hn⟩
    · have hjk : j ≠ k := fun h => not_ready_yet hwait hr (h ▸ hj)
      obtain ⟨hun, oj, hoj, hall⟩ := mem_ready.1 hj
      have hno : ∀ e ∈ oj.after, Region.binds md e = true → e.on ≠ i := fun d hd hb heq => by
        have h1 := hall d hd hb
        have h0 := (mem_ready.1 hr).1
        rw [heq] at h1
        rcases Nat.lt_or_ge i ls.size with h' | h'
        · simp [h'] at h0 h1
          rw [h0] at h1
          cases h1
        · simp [Array.getElem?_eq_none h'] at h1
      have hstep := wpOp_putIf hoj (hfree j oj hoj e hun hno) (fun cs b => hsel i o cs b ho) (fun cs b => hsel j oj cs b hoj) hQ hy (hn.2 j (ready_mono hj e))
      refine wpOp_mono (fun b u hb => ⟨fun _ => hb.2.1 hjk, ?_⟩) hstep
      refine ih (ls.setIfInBounds j true) b u (fun m om hm hmi hmu hmno => ?_) (ready_mono hr (Ne.symm e)) hb.1 (hb.2.1 hjk) (by rw [Array.setIfInBounds_comm _ _ e]; exact hb.2.2)
      refine hfree m om hm hmi ?_ hmno
      by_cases ejm : j = m
      · subst ejm; exact hun
      · rw [getD_set_ne true ejm] at hmu; exact hmu

theorem wpLast.take {i : Nat} {o : Oper} {v : Value} {n : Nat} {ls : Array Bool} {a : Act} {w : World} (ho : ops[i]? = some o) (hs : Region.noSelect ops = true) (hf : Region.free md ops ls i = true) (hr : (Region.ready md ops ls).contains i = true) (hk : (i != k && waitsFor md ops k i) = true)
    (hQ : ∀ c a w, Q (.panic c) (a.put o.dst v) w → Q (.panic c) a w) (hy : YieldsIf P ops S o v a) (hS : S w) (h : wpLast P md ops Q S k n (ls.setIfInBounds i true) (a.put o.dst v) w) : wpLast P md ops Q S k (n + 1) ls a w := by
  rw [Bool.and_eq_true] at hk
  exact wpLast.first ho (Region.noSelect_spec hs) hQ (by simpa using hk.1) hk.2 n ls a w (Region.free_spec ho hf) (by simpa using hr) hy hS h

/-- Each of these comes up. -/
def EachL (P : Program) (md : Region.Mode) (ops : Array Oper) (Q : Exit → Act → World → Prop) (S : World → Prop) (k n : Nat) (ls : Array Bool) (a : Act) (w : World) (rs : List Nat) : Prop :=
  ∀ i, i ∈ rs → wpOp P ops Q i (fun b u => (i ≠ k → S u) ∧ wpLast P md ops Q S k n (ls.setIfInBounds i true) b u) a w

theorem EachL.nil {n : Nat} {ls : Array Bool} {a : Act} {w : World} : EachL P md ops Q S k n ls a w [] := fun _ h => by cases h

theorem EachL.cons {n : Nat} {ls : Array Bool} {a : Act} {w : World} {i : Nat} {o : Oper} {rs : List Nat} (ho : ops[i]? = some o)
    (h : ∀ K : Act → World → Prop, Shut (∀ b u, S u → (S u → wpLast P md ops Q S k n (ls.setIfInBounds i true) b u) → K b u) → if Region.wanted o (yielded ops a.tmps) = true then Oper.wp P o a w K Q else K (a.put o.dst undef) w)
    (hs : EachL P md ops Q S k n ls a w rs) : EachL P md ops Q S k n ls a w (i :: rs) := fun j hj => by
  rcases List.mem_cons.1 hj with rfl | hj
  · exact wpOp_step ho (fun K hK => h K (fun b u h1 h2 => hK b u ⟨fun _ => h1, h2 h1⟩))
  · exact hs j hj

theorem EachL.last {n : Nat} {ls : Array Bool} {a : Act} {w : World} {o : Oper} (ho : ops[k]? = some o)
    (h : ∀ K : Act → World → Prop, Shut (∀ b u, wpLast P md ops Q S k n (ls.setIfInBounds k true) b u → K b u) → if Region.wanted o (yielded ops a.tmps) = true then Oper.wp P o a w K Q else K (a.put o.dst undef) w) : EachL P md ops Q S k n ls a w [k] := fun j hj => by
  rw [List.mem_singleton] at hj
  subst hj
  exact wpOp_step ho (fun K hK => h K (fun b u h1 => hK b u ⟨fun h9 => absurd rfl h9, h1⟩))

theorem wpLast.ready {rs : List Nat} {n : Nat} {ls : Array Bool} {a : Act} {w : World} (hr : Region.ready md ops ls = rs) (hne : rs ≠ []) (h : EachL P md ops Q S k n ls a w rs) : wpLast P md ops Q S k (n + 1) ls a w :=
  ⟨fun h0 => absurd (hr ▸ h0) hne, hr ▸ h⟩

theorem wpLast.done {ls : Array Bool} {a : Act} {w : World} (hr : Region.ready md ops ls = []) (h : Q .normal a w) : ∀ n, wpLast P md ops Q S k n ls a w
  | 0 => ⟨hr, h⟩
  | _ + 1 => ⟨fun _ => h, by rw [hr]; simp⟩

theorem wp_region_last {id : Nat} {a : Act} {w : World} (k : Nat) (hm : P.follows .mixedOrders = true) (hS : S w.drew) (h : S w.drew → wpLast P .any ops Q S k ops.size (Array.replicate ops.size false) a w.drew) : (Code.region id ops true).wp P Q a w :=
  wp_region_any hm (wpLast.any _ _ _ _ (h hS))

end

theorem cells2_new (w : World) (a b : Value) (t : TypeId) : (w.alloc (.cells #[a, b] t)).cell? ⟨w.heap.size, 0, none⟩ = some a ∧ (w.alloc (.cells #[a, b] t)).cell? ⟨w.heap.size, 1, none⟩ = some b := by
  have e := heap_alloc_new w (.cells #[a, b] t)
  simp only [World.cell?, e]
  simp

end Go.Proofs.YtahffpgadoiijaaGreat

/- Contract: slices.Clone of a row of the call's own. -/
namespace Go.Proofs.YtahffpgadoiijaaGreat
open Go.RowKit

end Go.Proofs.YtahffpgadoiijaaGreat

/- Plain: parts by marks. What coset's fill has laid so far. -/
namespace Go.Proofs.YtahffpgadoiijaaGreat
open Go.RowKit

/-- The parts of rows, by marks. -/
def MarkOk (H : Pm → Prop) (n : Nat) (T : List (Pm × List Int)) (F : Int → Option Value) : Prop := ∀ x, Fixes (fun b => n ≤ b) x → F ((mkN H n x : Nat) : Int) = partV H T x

theorem MarkOk.new {H : Pm → Prop} (hH : Sub H) {n : Nat} (h12 : n ≤ 12) (hf : ∀ h, H h → Fixes (fun b => n ≤ b) h) {T : List (Pm × List Int)} {d : Pm × List Int} {F : Int → Option Value} (h : ∀ x, Fixes (fun b => n ≤ b) x → ¬ H (x * d.1⁻¹) → F ((mkN H n x : Nat) : Int) = partV H T x) (hd : Fixes (fun b => n ≤ b) d.1) (hn : ∀ e, e ∈ T → ¬ H (d.1 * e.1⁻¹)) :
    MarkOk H n (T ++ [d]) (upd F ((mkN H n d.1 : Nat) : Int) (.int .i64 ((T.length : Nat) : Int))) := by
  classical
  intro x hx
  have hm := mkN_eq hH h12 hf hd hx
  unfold upd
  by_cases hc : H (x * d.1⁻¹)
  · have e : ((mkN H n x : Nat) : Int) = ((mkN H n d.1 : Nat) : Int) := by rw [hm.2 hc]
    rw [if_pos e]
    have hx' : ¬ cix H T x < T.length := fun hc' => by
      obtain ⟨e, he, hHe⟩ := cix_at hc'
      refine hn e (List.mem_of_getElem? he) ?_
      have := hH.mul (hH.inv hc) hHe
      rwa [Pm.inv_prod, Pm.inv_inv, Pm.mul_assoc, Pm.inv_mul_cancel] at this
    unfold partV
    rw [cix_app, List.length_append, List.length_singleton, if_neg hx', if_pos hc, if_pos (by omega)]
  · have e : ¬ ((mkN H n x : Nat) : Int) = ((mkN H n d.1 : Nat) : Int) := fun e => hc (hm.1 (by omega))
    rw [if_neg e, h x hx hc]
    unfold partV
    rw [cix_app, List.length_append, List.length_singleton]
    by_cases hc' : cix H T x < T.length
    · rw [if_pos hc', if_pos hc', if_pos (by omega)]
    · rw [if_neg hc', if_neg hc', if_neg hc, if_neg (by omega)]

theorem MarkOk.first {H : Pm → Prop} (hH : Sub H) {n : Nat} (h12 : n ≤ 12) (hf : ∀ h, H h → Fixes (fun b => n ≤ b) h) : MarkOk H n [(1, [])] (upd (fun _ => none) ((mkN H n 1 : Nat) : Int) (.int .i64 0)) :=
  MarkOk.new (T := []) (d := (1, [])) hH h12 hf (fun x _ _ => by unfold partV; rw [if_neg (by simp)]) (fixes_sub _).one (fun e he => by cases he)

theorem MarkOk.more {H : Pm → Prop} (hH : Sub H) {n : Nat} (h12 : n ≤ 12) (hf : ∀ h, H h → Fixes (fun b => n ≤ b) h) {T : List (Pm × List Int)} {d : Pm × List Int} {F : Int → Option Value} (h : MarkOk H n T F) (hd : Fixes (fun b => n ≤ b) d.1) (hn : ∀ e, e ∈ T → ¬ H (d.1 * e.1⁻¹)) :
    MarkOk H n (T ++ [d]) (upd F ((mkN H n d.1 : Nat) : Int) (.int .i64 ((T.length : Nat) : Int))) := MarkOk.new hH h12 hf (fun x hx _ => h x hx) hd hn

theorem mkN_le {H : Pm → Prop} {n : Nat} (x : Pm) (h12 : n ≤ 12) : mkN H n x ≤ 479001600 := rkP_le _ h12

/-- A table in memory. -/
abbrev tabC (n M : Nat) (vb vn vw : Value) : Array Value := #[.int .i64 n, vb, .map (some M), vn, vw]

theorem cells5 {w : World} {T : Nat} {a b c d e : Value} {t : TypeId} (h : w.heap[T]? = some (.cells #[a, b, c, d, e] t)) :
    w.cell? ⟨T, 0, none⟩ = some a ∧ w.cell? ⟨T, 1, none⟩ = some b ∧ w.cell? ⟨T, 2, none⟩ = some c ∧ w.cell? ⟨T, 3, none⟩ = some d ∧ w.cell? ⟨T, 4, none⟩ = some e ∧ w.frozen? ⟨T, 3, none⟩ = false ∧ w.frozen? ⟨T, 4, none⟩ = false := by
  simp [World.cell?, World.frozen?, h]

theorem set5n {w : World} {T : Nat} {a b c d e : Value} {t : TypeId} (h : w.heap[T]? = some (.cells #[a, b, c, d, e] t)) (u : Value) : (w.setCell ⟨T, 3, none⟩ u).heap[T]? = some (.cells #[a, b, c, u, e] t) := by
  simp [World.setCell, Array.getElem?_modify, h]

theorem set5w {w : World} {T : Nat} {a b c d e : Value} {t : TypeId} (h : w.heap[T]? = some (.cells #[a, b, c, d, e] t)) (u : Value) : (w.setCell ⟨T, 4, none⟩ u).heap[T]? = some (.cells #[a, b, c, d, u] t) := by
  simp [World.setCell, Array.getElem?_modify, h]

theorem Frm.grown {B sb mb : Nat} {w wr w' : World} {g : Option Nat} (h : Frm B sb mb w wr) (hg : wr.grownBy w' g) (hB : B ≤ wr.heap.size) (hn : ∀ x, g = some x → B ≤ x ∨ x = sb ∨ x = mb) : Frm B sb mb w w' :=
  h.trans ⟨hg.os, hg.tape, hg.output, hg.size, fun x h1 h2 h3 => hg.block x (by omega) (fun e => by
    rcases hn x e.symm with h4 | h4 | h4
    · omega
    · exact h2 h4
    · exact h3 h4)⟩

section
variable {w wr w' : World} {T M n cnt : Nat} {vb v1 v2 v3 v' u vl : Value} {s1 s2 s3 : List Value} {A1 A2 A3 : List (List Int)} {L X : List Int} {F F' : Int → Option Value}

end

end Go.Proofs.YtahffpgadoiijaaGreat

/- Contract: extent.cyclesOf: the cycles of a list of numbers. -/
namespace Go.Proofs.YtahffpgadoiijaaGreat
open Go.RowKit

theorem Tryz.info4 : (Tryz.prog.info? 4).map (fun i => (i.zero, i.size, i.bytes)) = some (some (.bool false), 1, 1) := by kernel_rfl

/-- What is marked. -/
def Dn (w : World) (D s : Nat) (f : Nat → Bool) : Prop := w.ownsRow D 4 1 (.slice (some ⟨D, 0, none⟩) s s) s ((List.range s).map (fun i => Value.bool (f i)))

theorem Dn.of_block {w w' : World} {D s : Nat} {f : Nat → Bool} (h : Dn w D s f) (hb : w'.heap[D]? = w.heap[D]?) : Dn w' D s f :=
  owns_of_block h (fun g hg => by have e : D = g := Option.some.inj hg; rw [← e]; exact hb)

theorem Dn.cell {w : World} {D s i : Nat} {f : Nat → Bool} (h : Dn w D s f) (hi : i < s) : w.cell? ⟨D, i, none⟩ = some (.bool (f i)) ∧ w.frozen? ⟨D, i, none⟩ = false := by
  have h9 := World.ownsRow.cells h (g := D) rfl i (.bool (f i)) (by rw [List.getElem?_map, List.getElem?_range hi]; rfl)
  rw [Addr.add_lit, Nat.zero_add] at h9
  exact ⟨h9, (row_cellE h hi).2⟩

theorem Dn.set {w : World} {D s m : Nat} {f : Nat → Bool} (h : Dn w D s f) (t : Bool) : Dn (w.setCell ⟨D, m, none⟩ (.bool t)) D s (fun i => if i = m then t else f i) := by
  have h9 := owns_set (m := m) h (.bool t)
  have e : ((List.range s).map (fun i => Value.bool (f i))).set m (.bool t) = (List.range s).map (fun i => Value.bool (if i = m then t else f i)) := by
    refine List.ext_getElem? (fun i => ?_)
    rw [List.getElem?_set]
    by_cases hi : i < s
    · rw [List.getElem?_map, List.getElem?_map, List.getElem?_range hi]
      by_cases e : m = i
      · subst e
        rw [if_pos rfl, if_pos (by rw [List.length_map, List.length_range]; exact hi)]
        simp
      · rw [if_neg e]
        simp [show ¬ i = m from fun h => e h.symm]
    · rw [List.getElem?_eq_none (by rw [List.length_map, List.length_range]; omega), List.getElem?_eq_none (by rw [List.length_map, List.length_range]; omega)]
      split
      · split
        · rename_i h1 h2; rw [List.length_map, List.length_range] at h2; omega
        · rfl
      · rfl
  rw [e] at h9
  exact h9

theorem Dn.congr {w : World} {D s : Nat} {f g : Nat → Bool} (h : Dn w D s f) (e : ∀ i, i < s → f i = g i) : Dn w D s g := by
  unfold Dn at h ⊢
  rw [show (List.range s).map (fun i => Value.bool (g i)) = (List.range s).map (fun i => Value.bool (f i)) from List.map_congr_left (fun i hi => by rw [e i (List.mem_range.1 hi)])]
  exact h

theorem made_bools (n : Nat) : (madeCells #[Value.bool false] n).toList = (List.range n).map (fun _ => Value.bool false) := by
  apply List.ext_getElem
  · simp [madeCells]
  · intro i h1 h2
    simp [madeCells, Nat.mod_one]

/-- How far cyclesOf has come. -/
structure CyR (w wr : World) (a : List Int) (v : Value) (vs : List Value) (k : Nat) : Prop where
  done : Dn wr w.heap.size a.length (fun i => decide ((i : Int) ∈ (cycsTo a k).flatten))
  cyc : LL wr (w.heap.size + 1) v vs (cycsTo a k)
  apt : vs.Pairwise Apt
  below : Below w.heap.size w wr

theorem CyR.size {w wr : World} {a : List Int} {v : Value} {vs : List Value} {k : Nat} (h : CyR w wr a v vs k) : w.heap.size + 1 ≤ wr.heap.size := (World.ownsRow.lt h.done w.heap.size rfl).2

/-- .. and within one cycle. -/
structure CyI (w wo wr : World) (a : List Int) (u : Value) (k j : Nat) : Prop where
  done : Dn wr w.heap.size a.length (fun i => decide ((i : Int) ∈ (cycsTo a k).flatten ∨ (i : Int) ∈ orb a k j))
  row : wr.ownsRow wo.heap.size 3 1 u j ((orb a k j).map (Value.int .i64))
  frm : Frm wo.heap.size w.heap.size w.heap.size wo wr

theorem CyR.inner {w wr : World} {a : List Int} {v : Value} {vs : List Value} {k : Nat} (h : CyR w wr a v vs k) : CyI w wr wr a (.slice none 0 0) k 0 :=
  ⟨h.done.congr (fun i _ => by simp [orb]), World.ownsRow_nil _ _ _ _, Frm.refl _ _ _ _⟩

theorem CyI.step {w wo wr w' : World} {a : List Int} {u u' : Value} {k j : Nat} {o : Obj} (hw : w.heap.size + 1 ≤ wo.heap.size) (h : CyI w wo wr a u k j)
    (hown : w'.ownsRow wo.heap.size 3 1 u' (j + 1) ((orb a k j).map (Value.int .i64) ++ [.int .i64 ((it a j k : Nat) : Int)])) (hg : ((wr.setCell ⟨w.heap.size, it a j k, none⟩ (.bool true)).alloc o).grownBy w' u.ownBlock) : CyI w wo w' a u' k (j + 1) := by
  have hs := h.frm.size
  have hD := (World.ownsRow.lt h.done w.heap.size rfl).2
  have hsz : (wr.setCell ⟨w.heap.size, it a j k, none⟩ (.bool true)).heap.size = wr.heap.size := by simp [World.setCell]
  have hfr : Frm wo.heap.size w.heap.size w.heap.size wo ((wr.setCell ⟨w.heap.size, it a j k, none⟩ (.bool true)).alloc o) := (h.frm.set (it a j k) (.bool true)).trans (Frm.of_below ((Below.refl _ _).alloc (Nat.le_refl _) o) (by rw [hsz]; exact hs))
  refine ⟨?_, ?_, hfr.grown hg (by simp; omega) (fun x hx => Or.inl (h.row.lt x hx).1)⟩
  · have h1 : Dn ((wr.setCell ⟨w.heap.size, it a j k, none⟩ (.bool true)).alloc o) w.heap.size a.length _ := (h.done.set (m := it a j k) true).of_block (Below.heap_alloc _ o w.heap.size (by rw [hsz]; exact hD))
    refine (h1.of_block (hg.block w.heap.size (by simp; omega) (fun e => by have := (h.row.lt _ e.symm).1; omega))).congr (fun i _ => ?_)
    rw [orb_snoc]
    by_cases e : i = it a j k
    · subst e; simp
    · rw [if_neg e]
      have e2 : ¬ (i : Int) = ((it a j k : Nat) : Int) := by omega
      simp [e2]
  · rw [orb_snoc, List.map_append]; exact hown

theorem CyI.ll {w wo wr : World} {a : List Int} {v u : Value} {vs : List Value} {k j : Nat} (hR : CyR w wo a v vs k) (h : CyI w wo wr a u k j) : LL wr (w.heap.size + 1) v vs (cycsTo a k) :=
  hR.cyc.of_blocks (fun g hg => h.frm.block g (hR.cyc.row.lt g hg).2 (by have := (hR.cyc.row.lt g hg).1; omega) (by have := (hR.cyc.row.lt g hg).1; omega)) (fun y hy g hg => by
    obtain ⟨Y, hY⟩ := hR.cyc.inner hy
    exact h.frm.block g (hY.lt g hg).2 (by have := (hY.lt g hg).1; omega) (by have := (hY.lt g hg).1; omega))

theorem CyI.below {w wo wr : World} {a : List Int} {v u : Value} {vs : List Value} {k j : Nat} (hR : CyR w wo a v vs k) (h : CyI w wo wr a u k j) : Below w.heap.size w wr :=
  hR.below.trans ⟨h.frm.os, h.frm.tape, h.frm.output, h.frm.size, fun b hb => h.frm.block b (by have := hR.size; omega) (by omega) (by omega)⟩

theorem CyI.leave {w wo wr w' : World} {a : List Int} {v v' u : Value} {vs : List Value} {k : Nat} {o : Obj} (hR : CyR w wo a v vs k) (hn : ¬ (k : Int) ∈ (cycsTo a k).flatten) (h : CyI w wo wr a u k (per a k))
    (hown : w'.ownsRow (w.heap.size + 1) 22 1 v' (vs.length + 1) (vs ++ [u])) (hg : (wr.alloc o).grownBy w' v.ownBlock) : CyR w w' a v' (vs ++ [u]) (k + 1) := by
  have hw := hR.size
  have hL := h.ll hR
  have hD := (World.ownsRow.lt h.done w.heap.size rfl).2
  have hc : cycsTo a (k + 1) = cycsTo a k ++ [orb a k (per a k)] := by rw [cycsTo_succ, if_neg hn]
  refine ⟨?_, ?_, ?_, ?_⟩
  · refine ((h.done.of_block (Below.heap_alloc _ o w.heap.size hD)).of_block (hg.block w.heap.size (by simp; omega) (fun e => by have := (hL.row.lt _ e.symm).1; omega))).congr (fun i _ => ?_)
    rw [hc, List.flatten_append]
    simp
  · rw [hc]
    exact hL.push (by rw [orb_length]; exact owns_base h.row hw) hown hg
  · rw [List.pairwise_append]
    refine ⟨hR.apt, by simp, fun y hy z hz g h1 h2 => ?_⟩
    rw [List.mem_singleton.1 hz] at h2
    obtain ⟨Y, hY⟩ := hR.cyc.inner hy
    have := (hY.lt g h1).2
    have := (h.row.lt g h2).1
    omega
  · have hb : Below w.heap.size w wr := hR.below.trans ⟨h.frm.os, h.frm.tape, h.frm.output, h.frm.size, fun b hb => h.frm.block b (by omega) (by omega) (by omega)⟩
    exact hL.step hb (by omega) hb.size hg

theorem CyR.skip {w wr : World} {a : List Int} {v : Value} {vs : List Value} {k : Nat} (h : CyR w wr a v vs k) (hn : (k : Int) ∈ (cycsTo a k).flatten) : CyR w wr a v vs (k + 1) := by
  have hc : cycsTo a (k + 1) = cycsTo a k := by rw [cycsTo_succ, if_pos hn]
  exact ⟨by rw [hc]; exact h.done, by rw [hc]; exact h.cyc, h.apt, h.below⟩

end Go.Proofs.YtahffpgadoiijaaGreat
