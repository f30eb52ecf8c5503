/- Joined: Grp, Chn, Arr, ArrP, Mp, KMp, RankInj, TrA, TrB, TrC, TrD, TrE, ChOf. -/
import Derived.Test.YtfngadfkopfhcaaGreatDoorJ1
import Derived.Deep.WholeRow
import Derived.Deep.MidRow
import Derived.Maps.OwnSet
import Derived.DeepKeys5
import Derived.Test.YtfngadfkopfhcaaGreatDoorJ3
import Derived.Test.YtfngadfkopfhcaaGreatDoorJ4
import Derived.Laws.CopyOwn
import Derived.Deep.CutRange
/- Plain: rows of twelve bells as a group that acts on bells; what some rows generate. -/
namespace Go.Proofs.YtfngadfkopfhcaaGreatDoor

/-- Rows of twelve bells. -/
structure Pm where
  l : List Int
  len : l.length = 12
  row : isRow l

namespace Pm

/-- Which bell a row has in a place. -/
def act (x : Pm) (b : Nat) : Nat := if b < 12 then nx x.l b else b

theorem act_lt (x : Pm) {b : Nat} (h : b < 12) : x.act b < 12 := by
  unfold act; rw [if_pos h]
  have := nx_lt x.row (x := b) (by rw [x.len]; exact h)
  rw [x.len] at this; exact this

theorem act_ge (x : Pm) {b : Nat} (h : ¬ b < 12) : x.act b = b := by unfold act; rw [if_neg h]

theorem act_inj (x : Pm) {a b : Nat} (h : x.act a = x.act b) : a = b := by
  by_cases ha : a < 12
  · by_cases hb : b < 12
    · unfold act at h; rw [if_pos ha, if_pos hb] at h
      exact nx_inj x.row (by rw [x.len]; exact ha) (by rw [x.len]; exact hb) h
    · have := x.act_lt ha; rw [h, x.act_ge hb] at this; exact absurd this hb
  · by_cases hb : b < 12
    · have := x.act_lt hb; rw [← h, x.act_ge ha] at this; exact absurd this ha
    · rw [x.act_ge ha, x.act_ge hb] at h; exact h

theorem getD_act (x : Pm) {b : Nat} (h : b < 12) : x.l.getD b 0 = ((x.act b : Nat) : Int) := by
  unfold act; rw [if_pos h]
  have := x.row.at (j := b) (by rw [x.len]; exact h)
  unfold nx; omega

theorem ext' {x y : Pm} (h : ∀ b, b < 12 → x.act b = y.act b) : x = y := by
  have e : x.l = y.l := ext_getD (by rw [x.len, y.len]) (fun j hj => by
    rw [x.len] at hj
    rw [x.getD_act hj, y.getD_act hj, h j hj])
  cases x; cases y; cases e; rfl

theorem eq_of_l {x y : Pm} (e : x.l = y.l) : x = y := by cases x; cases y; cases e; rfl

instance : Mul Pm := ⟨fun x y => ⟨by_ x.l y.l, by rw [by_length]; exact y.len, isRow_by x.row y.row (by rw [x.len, y.len])⟩⟩
instance : One Pm := ⟨⟨rnd 12, rnd_length 12, isRow_rnd 12⟩⟩

theorem mul_l (x y : Pm) : (x * y).l = by_ x.l y.l := rfl
theorem one_l : (1 : Pm).l = rnd 12 := rfl

theorem act_mul (x y : Pm) (b : Nat) : (x * y).act b = x.act (y.act b) := by
  by_cases h : b < 12
  · have h2 := y.act_lt h
    have e1 : y.act b = nx y.l b := by unfold act; rw [if_pos h]
    have e2 : (x * y).act b = nx (x * y).l b := by unfold act; rw [if_pos h]
    have e3 : x.act (y.act b) = nx x.l (y.act b) := by unfold act; rw [if_pos (by exact h2)]
    rw [e2, e3, e1, mul_l, nx_by (by rw [y.len]; exact h)]
  · rw [act_ge _ h, act_ge _ h, act_ge _ h]

theorem act_one (b : Nat) : (1 : Pm).act b = b := by
  by_cases h : b < 12
  · unfold act; rw [if_pos h, one_l]
    have := rnd_get (n := 12) h
    unfold nx; rw [this]; omega
  · exact act_ge _ h

theorem mul_assoc (x y z : Pm) : x * y * z = x * (y * z) := ext' (fun b _ => by rw [act_mul, act_mul, act_mul, act_mul])
theorem one_mul (x : Pm) : 1 * x = x := ext' (fun b _ => by rw [act_mul, act_one])
theorem mul_one (x : Pm) : x * 1 = x := ext' (fun b _ => by rw [act_mul, act_one])

open Classical in
noncomputable def invl (x : Pm) : List Int := (List.range 12).map (fun i => if h : i < 12 then ((Classical.choose (isRow_onto x.row (i := i) (by rw [x.len]; exact h)) : Nat) : Int) else 0)

theorem invl_undoes (x : Pm) : Undoes x.invl x.l := by
  refine ⟨by rw [x.len]; simp [invl], fun j hj => ?_⟩
  have hj' : j < 12 := by rw [← x.len]; exact hj
  have h1 := x.row.at hj
  rw [x.len] at h1
  obtain ⟨m, hm⟩ := Int.eq_ofNat_of_zero_le h1.1
  have hm12 : m < 12 := by omega
  rw [hm]
  have e : x.invl.getD m 0 = ((Classical.choose (isRow_onto x.row (i := m) (by rw [x.len]; exact hm12)) : Nat) : Int) := by
    simp [invl, List.getD, hm12]
  have hs := Classical.choose_spec (isRow_onto x.row (i := m) (by rw [x.len]; exact hm12))
  rw [Int.toNat_natCast, e]
  have := x.row.inj hs.1 hj (by rw [hs.2]; exact hm.symm)
  omega

noncomputable instance : Inv Pm := ⟨fun x => ⟨x.invl, by rw [(invl_undoes x).1]; exact x.len, isRow_undoes x.row (invl_undoes x)⟩⟩

theorem inv_l (x : Pm) : (x⁻¹).l = x.invl := rfl

theorem act_undoes {x z : Pm} (h : Undoes z.l x.l) (b : Nat) : z.act (x.act b) = b := by
  by_cases hb : b < 12
  · have h2 := x.act_lt hb
    have h3 := h.2 b (by rw [x.len]; exact hb)
    unfold act at h2 ⊢
    rw [if_pos hb] at h2 ⊢
    rw [if_pos h2]
    unfold nx at h2 ⊢
    omega
  · rw [act_ge _ hb, act_ge _ hb]

theorem inv_act (x : Pm) (b : Nat) : x⁻¹.act (x.act b) = b := act_undoes (x.invl_undoes) b

theorem act_inv (x : Pm) (b : Nat) : x.act (x⁻¹.act b) = b := by
  apply x⁻¹.act_inj
  rw [inv_act]

theorem inv_mul (x : Pm) : x⁻¹ * x = 1 := ext' (fun b _ => by rw [act_mul, inv_act, act_one])
theorem mul_inv (x : Pm) : x * x⁻¹ = 1 := ext' (fun b _ => by rw [act_mul, act_inv, act_one])
theorem inv_mul_cancel (x y : Pm) : x⁻¹ * (x * y) = y := by rw [← mul_assoc, inv_mul, one_mul]
theorem mul_inv_cancel (x y : Pm) : x * (x⁻¹ * y) = y := by rw [← mul_assoc, mul_inv, one_mul]
theorem mul_cancel {x y z : Pm} (h : x * y = x * z) : y = z := by rw [← inv_mul_cancel x y, h, inv_mul_cancel]
theorem eq_inv_of {x y : Pm} (h : x * y = 1) : y = x⁻¹ := by rw [← inv_mul_cancel x y, h, mul_one]
theorem inv_one : (1 : Pm)⁻¹ = 1 := (eq_inv_of (one_mul 1)).symm
theorem inv_inv (x : Pm) : x⁻¹⁻¹ = x := (eq_inv_of (inv_mul x)).symm
theorem inv_prod (x y : Pm) : (x * y)⁻¹ = y⁻¹ * x⁻¹ := (eq_inv_of (by rw [mul_assoc, ← mul_assoc y, mul_inv, one_mul, mul_inv])).symm

theorem undoes_eq {x : Pm} {zs : List Int} (h : Undoes zs x.l) : zs = (x⁻¹).l := by
  have h1 : isRow zs := isRow_undoes x.row h
  have h2 : zs.length = 12 := by rw [h.1, x.len]
  have e : (⟨zs, h2, h1⟩ : Pm) = x⁻¹ := by
    apply eq_inv_of
    refine ext' (fun b _ => ?_)
    have h3 : (⟨zs, h2, h1⟩ : Pm) * x = 1 := ext' (fun b _ => by rw [act_mul, act_one]; exact act_undoes (x := x) (z := ⟨zs, h2, h1⟩) h b)
    have h4 : x = (⟨zs, h2, h1⟩ : Pm)⁻¹ := eq_inv_of h3
    rw [h4, inv_mul]
  rw [← e]

/-! powers -/
def pow (x : Pm) : Nat → Pm
  | 0 => 1
  | n + 1 => x * x.pow n

theorem act_pow (x : Pm) (n : Nat) {b : Nat} (hb : b < 12) : (x.pow n).act b = it x.l n b := by
  induction n with
  | zero => exact act_one b
  | succ n ih =>
    show (x * x.pow n).act b = _
    have h12 := it_lt x.row (x := b) (by rw [x.len]; exact hb) n
    rw [x.len] at h12
    rw [act_mul, ih]
    show (if it x.l n b < 12 then nx x.l (it x.l n b) else _) = nx x.l (it x.l n b)
    rw [if_pos h12]

theorem dvd_fct {m n : Nat} (h1 : 1 ≤ m) (h2 : m ≤ n) : m ∣ fct n := by
  induction n with
  | zero => omega
  | succ n ih =>
    show m ∣ (n + 1) * fct n
    by_cases e : m = n + 1
    · subst e; exact Nat.dvd_mul_right _ _
    · exact Nat.dvd_trans (ih (by omega)) (Nat.dvd_mul_left _ _)

theorem it_mult {r : List Int} {x p : Nat} (h : it r p x = x) (d : Nat) : it r (p * d) x = x := by
  induction d with
  | zero => rfl
  | succ d ih => rw [Nat.mul_succ, it_add, h, ih]

theorem pow_all (x : Pm) : x.pow (fct 12) = 1 := ext' (fun b hb => by
  have hp := per_spec x.row (x := b) (by rw [x.len]; exact hb)
  rw [x.len] at hp
  obtain ⟨d, hd⟩ := dvd_fct hp.1 hp.2.1
  rw [act_pow x _ hb, hd, it_mult hp.2.2.1, act_one])

theorem inv_pow (x : Pm) : x⁻¹ = x.pow (fct 12 - 1) := by
  symm
  apply eq_inv_of
  show x.pow (fct 12 - 1 + 1) = 1
  rw [show fct 12 - 1 + 1 = fct 12 from by decide]
  exact pow_all x

end Pm

/-! what rows generate -/

inductive Gen (S : Pm → Prop) : Pm → Prop
  | one : Gen S 1
  | mul {s x : Pm} : S s → Gen S x → Gen S (s * x)

structure Sub (H : Pm → Prop) : Prop where
  one : H 1
  mul : ∀ {x y}, H x → H y → H (x * y)
  inv : ∀ {x}, H x → H x⁻¹

theorem Gen.of {S : Pm → Prop} {s : Pm} (h : S s) : Gen S s := by
  have := Gen.mul h Gen.one; rwa [Pm.mul_one] at this

theorem Gen.mul' {S : Pm → Prop} {x y : Pm} (hx : Gen S x) (hy : Gen S y) : Gen S (x * y) := by
  induction hx with
  | one => rw [Pm.one_mul]; exact hy
  | mul hs _ ih => rw [Pm.mul_assoc]; exact Gen.mul hs ih

theorem Gen.pow {S : Pm → Prop} {x : Pm} (hx : Gen S x) (n : Nat) : Gen S (x.pow n) := by
  induction n with
  | zero => exact Gen.one
  | succ n ih => exact Gen.mul' hx ih

theorem Gen.inv {S : Pm → Prop} {x : Pm} (hx : Gen S x) : Gen S x⁻¹ := by rw [Pm.inv_pow]; exact hx.pow _

theorem Gen.sub (S : Pm → Prop) : Sub (Gen S) := ⟨Gen.one, Gen.mul', Gen.inv⟩

theorem Gen.least {S H : Pm → Prop} (hH : Sub H) (h : ∀ s, S s → H s) {x : Pm} (hx : Gen S x) : H x := by
  induction hx with
  | one => exact hH.one
  | mul hs _ ih => exact hH.mul (h _ hs) ih

theorem Gen.mono {S T : Pm → Prop} (h : ∀ s, S s → T s) {x : Pm} (hx : Gen S x) : Gen T x := hx.least (Gen.sub T) (fun s hs => Gen.of (h s hs))

theorem Sub.and {H K : Pm → Prop} (h : Sub H) (k : Sub K) : Sub (fun x => H x ∧ K x) :=
  ⟨⟨h.one, k.one⟩, fun hx hy => ⟨h.mul hx.1 hy.1, k.mul hx.2 hy.2⟩, fun hx => ⟨h.inv hx.1, k.inv hx.2⟩⟩

/-- A row leaves some bells in their places. -/
def Fixes (F : Nat → Prop) (x : Pm) : Prop := ∀ b, F b → x.act b = b

theorem fixes_sub (F : Nat → Prop) : Sub (Fixes F) :=
  ⟨fun b _ => Pm.act_one b, fun {x y} hx hy b hb => by rw [Pm.act_mul, hy b hb, hx b hb], fun {x} hx b hb => by have := hx b hb; rw [← this, Pm.inv_act, this]⟩

theorem fixes_all {F : Nat → Prop} (h : ∀ b, b < 12 → F b) {x : Pm} (hx : Fixes F x) : x = 1 := Pm.ext' (fun b hb => by rw [hx b (h b hb), Pm.act_one])

/-! rows of fewer bells -/

open Classical in
noncomputable def pad (l : List Int) : Pm := if h : l.length ≤ 12 ∧ isRow l then ⟨l ++ (rnd 12).drop l.length, by rw [List.length_append, List.length_drop, rnd_length]; omega, by
    obtain ⟨h1, h2⟩ := h
    constructor
    · intro y hy
      rw [List.length_append, List.length_drop, rnd_length]
      rcases List.mem_append.1 hy with hy | hy
      · have := h2.1 y hy; omega
      · have := (isRow_rnd 12).1 y (List.mem_of_mem_drop hy); rw [rnd_length] at this; omega
    · rw [List.nodup_append]
      refine ⟨h2.2, (isRow_rnd 12).2.sublist (List.drop_sublist _ _), ?_⟩
      intro a ha b hb e
      have h3 := h2.1 a ha
      rw [List.mem_iff_getElem] at hb
      obtain ⟨i, hi, rfl⟩ := hb
      rw [List.getElem_drop] at e
      have h4 : (rnd 12)[l.length + i]'(by rw [List.length_drop] at hi; omega) = ((l.length + i : Nat) : Int) := by simp [rnd]
      rw [h4] at e
      omega⟩ else 1

theorem pad_l {l : List Int} (h1 : l.length ≤ 12) (h2 : isRow l) : (pad l).l = l ++ (rnd 12).drop l.length := by
  unfold pad; rw [dif_pos ⟨h1, h2⟩]

theorem pad_act {l : List Int} (h1 : l.length ≤ 12) (h2 : isRow l) (b : Nat) : (pad l).act b = if b < l.length then nx l b else b := by
  by_cases hb : b < 12
  · unfold Pm.act; rw [if_pos hb, pad_l h1 h2]
    unfold nx
    by_cases hl : b < l.length
    · rw [if_pos hl]; simp [List.getD, List.getElem?_append_left hl]
    · rw [if_neg hl]
      simp only [List.getD]
      rw [List.getElem?_append_right (by omega), List.getElem?_drop, show l.length + (b - l.length) = b from by omega]
      have := rnd_get (n := 12) hb
      simp only [List.getD] at this
      rw [this]; omega
  · rw [Pm.act_ge _ hb, if_neg (by omega)]

theorem pad_by {a b : List Int} (h1 : a.length ≤ 12) (h2 : isRow a) (h3 : isRow b) (h4 : b.length = a.length) : pad (by_ a b) = pad a * pad b := by
  have hr := isRow_by h2 h3 h4
  refine Pm.ext' (fun x _ => ?_)
  rw [Pm.act_mul, pad_act (by rw [by_length]; omega) hr, pad_act (by omega) h3, pad_act h1 h2, by_length]
  by_cases hx : x < b.length
  · have := nx_lt h3 hx
    rw [if_pos hx, if_pos hx, if_pos (by omega), nx_by hx]
  · rw [if_neg hx, if_neg hx, if_neg (by omega)]

theorem pad_rnd {n : Nat} (h : n ≤ 12) : pad (rnd n) = 1 := by
  refine Pm.ext' (fun x _ => ?_)
  rw [pad_act (by rw [rnd_length]; exact h) (isRow_rnd n), Pm.act_one, rnd_length]
  split
  · rename_i hx
    unfold nx; rw [rnd_get hx]; omega
  · rfl

theorem pad_undoes {zs a : List Int} (h1 : a.length ≤ 12) (h2 : isRow a) (h : Undoes zs a) : pad zs = (pad a)⁻¹ := by
  apply Pm.eq_inv_of
  rw [← pad_by h1 h2 (isRow_undoes h2 h) h.1, by_undoes h2 h, pad_rnd h1]

theorem pad_inj {a b : List Int} (h1 : a.length ≤ 12) (ha : isRow a) (hb : isRow b) (hl : b.length = a.length) (h : pad a = pad b) : a = b := by
  refine ext_getD hl.symm (fun j hj => ?_)
  have h3 : (pad a).act j = (pad b).act j := by rw [h]
  rw [pad_act h1 ha, pad_act (by omega) hb, if_pos hj, if_pos (by omega)] at h3
  have h4 := ha.at hj
  have h5 := hb.at (j := j) (by omega)
  unfold nx at h3; omega

/-- The first n bells of a row that leaves the rest. -/
def cut (n : Nat) (x : Pm) : List Int := x.l.take n

theorem cut_length {n : Nat} (h : n ≤ 12) (x : Pm) : (cut n x).length = n := by unfold cut; rw [List.length_take, x.len]; omega

theorem cut_get {n j : Nat} (x : Pm) (h : n ≤ 12) (hj : j < n) : (cut n x).getD j 0 = ((x.act j : Nat) : Int) := by
  rw [← x.getD_act (by omega)]
  unfold cut
  simp [List.getD, hj]

theorem fix_lt {n : Nat} {x : Pm} (hf : Fixes (fun b => n ≤ b) x) {b : Nat} (hb : b < n) : x.act b < n := by
  rcases Nat.lt_or_ge (x.act b) n with h | h
  · exact h
  · have := hf _ h
    have := x.act_inj this
    omega

theorem cut_row {n : Nat} (h : n ≤ 12) {x : Pm} (hf : Fixes (fun b => n ≤ b) x) : isRow (cut n x) := by
  constructor
  · intro y hy
    rw [cut_length h]
    obtain ⟨i, hi, rfl⟩ := List.getElem_of_mem hy
    have hi' : i < n := by rw [cut_length h] at hi; exact hi
    have := cut_get x h hi'
    simp only [List.getD, List.getElem?_eq_getElem hi, Option.getD_some] at this
    rw [this]
    have := fix_lt hf hi'
    omega
  · exact x.row.2.sublist (List.take_sublist _ _)

theorem pad_cut {n : Nat} (h : n ≤ 12) {x : Pm} (hf : Fixes (fun b => n ≤ b) x) : pad (cut n x) = x := by
  refine Pm.ext' (fun b hb => ?_)
  rw [pad_act (by rw [cut_length h]; exact h) (cut_row h hf), cut_length h]
  split
  · rename_i hn
    unfold nx; rw [cut_get x h hn]; omega
  · rename_i hn
    exact (hf b (by show n ≤ b; omega)).symm

theorem pad_fixes {n : Nat} {l : List Int} (h : n ≤ 12) (hl : l.length = n) (hr : isRow l) : Fixes (fun b => n ≤ b) (pad l) := by
  intro b hb
  have hb : n ≤ b := hb
  rw [pad_act (by omega) hr, if_neg (by omega)]

theorem cut_pad {n : Nat} {l : List Int} (h : n ≤ 12) (hl : l.length = n) (hr : isRow l) : cut n (pad l) = l := by
  unfold cut
  rw [pad_l (by omega) hr, ← hl, List.take_left']
  rfl

end Go.Proofs.YtfngadfkopfhcaaGreatDoor

/- Plain: a group as a chain of links: what it holds, when it is whole, and how one more row makes it greater (Schreier). -/
namespace Go.Proofs.YtfngadfkopfhcaaGreatDoor

/-- A link: its base, what brings which bell there, its generators. -/
structure Lk where
  base : Nat
  tab : List (Nat × Pm)
  gens : List Pm

/-- The rows of a chain. -/
def Prd : List Lk → Pm → Prop
  | [], p => p = 1
  | l :: c, p => ∃ e, e ∈ l.tab ∧ ∃ h, Prd c h ∧ p = e.2 * h

structure LkOk (F : Nat → Prop) (l : Lk) : Prop where
  nodup : (l.tab.map (·.1)).Nodup
  brings : ∀ e, e ∈ l.tab → e.2.act l.base = e.1
  first : (l.base, (1 : Pm)) ∈ l.tab
  fix : ∀ e, e ∈ l.tab → Fixes F e.2

/-- F and one bell more. -/
def plus (F : Nat → Prop) (b : Nat) : Nat → Prop := fun x => F x ∨ x = b

def Whole : (Nat → Prop) → List Lk → Prop
  | F, [] => ∀ b, b < 12 → F b
  | F, l :: c => LkOk F l ∧ Whole (plus F l.base) c ∧ (∀ p, Prd (l :: c) p ↔ Gen (fun x => x ∈ l.gens) p)

theorem fixes_plus {F : Nat → Prop} {b : Nat} {x : Pm} : Fixes (plus F b) x ↔ Fixes F x ∧ x.act b = b :=
  ⟨fun h => ⟨fun a ha => h a (Or.inl ha), h b (Or.inr rfl)⟩, fun h a ha => by rcases ha with ha | rfl; exact h.1 a ha; exact h.2⟩

theorem prd_fix {c : List Lk} {F : Nat → Prop} {p : Pm} (hw : Whole F c) (h : Prd c p) : Fixes F p := by
  induction c generalizing F p with
  | nil => rw [show p = (1 : Pm) from h]; exact (fixes_sub _).one
  | cons l c ih =>
    obtain ⟨e, he, h, hh, hp⟩ := h
    rw [hp]
    exact (fixes_sub F).mul (hw.1.fix e he) (fixes_plus.1 (ih hw.2.1 hh)).1

theorem prd_sub {c : List Lk} {F : Nat → Prop} (hw : Whole F c) : Sub (Prd c) := by
  cases c with
  | nil => exact ⟨rfl, fun {x y} hx hy => by rw [show x = 1 from hx, show y = 1 from hy]; exact Pm.one_mul 1, fun {x} hx => by rw [show x = 1 from hx]; exact Pm.inv_one⟩
  | cons l c =>
    have h := hw.2.2
    exact ⟨(h 1).2 Gen.one, fun {x y} hx hy => (h _).2 (Gen.mul' ((h x).1 hx) ((h y).1 hy)), fun {x} hx => (h _).2 (Gen.inv ((h x).1 hx))⟩

/-- Does a chain hold a row? (As the code asks.) -/
noncomputable def hasC : List Lk → Pm → Bool
  | [], _ => true
  | l :: c, p => (l.tab.lookup (p.act l.base)).elim false (fun u => hasC c (u⁻¹ * p))

theorem lookup_mem {tab : List (Nat × Pm)} {b : Nat} {u : Pm} (h : tab.lookup b = some u) : (b, u) ∈ tab := by
  induction tab with
  | nil => simp at h
  | cons e t ih =>
    rw [List.lookup_cons] at h
    split at h
    · rename_i hb
      have hb : b = e.1 := by simpa using hb
      injection h with h
      subst h; subst hb; exact List.mem_cons_self
    · exact List.mem_cons_of_mem _ (ih h)

theorem lookup_of_mem {tab : List (Nat × Pm)} (hn : (tab.map (·.1)).Nodup) {b : Nat} {u : Pm} (h : (b, u) ∈ tab) : tab.lookup b = some u := by
  induction tab with
  | nil => cases h
  | cons e t ih =>
    rw [List.map_cons, List.nodup_cons] at hn
    rw [List.lookup_cons]
    rcases List.mem_cons.1 h with rfl | h
    · simp
    · have hne : ¬ b = e.1 := fun hb => hn.1 (List.mem_map.2 ⟨(b, u), h, hb⟩)
      split
      · rename_i hb; exact absurd (by simpa using hb) hne
      · exact ih hn.2 h

theorem lookup_none {tab : List (Nat × Pm)} {b : Nat} (h : tab.lookup b = none) : ∀ e, e ∈ tab → e.1 ≠ b := by
  induction tab with
  | nil => intro e he; cases he
  | cons x t ih =>
    rw [List.lookup_cons] at h
    split at h
    · cases h
    · rename_i hb
      intro e he
      rcases List.mem_cons.1 he with rfl | he
      · intro e2; exact absurd e2.symm (by simpa using hb)
      · exact ih h e he

theorem tab_eq {tab : List (Nat × Pm)} (hn : (tab.map (·.1)).Nodup) {b : Nat} {u v : Pm} (h1 : (b, u) ∈ tab) (h2 : (b, v) ∈ tab) : u = v := by
  have e1 := lookup_of_mem hn h1
  rw [lookup_of_mem hn h2] at e1
  injection e1 with e1; exact e1.symm

theorem has_iff {c : List Lk} {F : Nat → Prop} {p : Pm} (hw : Whole F c) (hf : Fixes F p) : hasC c p = true ↔ Prd c p := by
  induction c generalizing F p with
  | nil =>
    have := fixes_all hw hf
    simp [hasC, Prd, this]
  | cons l c ih =>
    obtain ⟨hok, hwc, _⟩ := hw
    cases hl : l.tab.lookup (p.act l.base) with
    | none =>
      simp only [hasC, hl, Option.elim]
      constructor
      · intro h; cases h
      · rintro ⟨e, he, h, hh, rfl⟩
        have h1 := (fixes_plus.1 (prd_fix hwc hh)).2
        rw [Pm.act_mul, h1, hok.brings e he] at hl
        exact absurd rfl (lookup_none hl e he)
    | some u =>
      have hm := lookup_mem hl
      have hb := hok.brings _ hm
      have hf2 : Fixes (plus F l.base) (u⁻¹ * p) := fixes_plus.2 ⟨(fixes_sub F).mul ((fixes_sub F).inv (hok.fix _ hm)) hf, by have hb : u.act l.base = p.act l.base := hb; rw [Pm.act_mul, ← hb, Pm.inv_act]⟩
      simp only [hasC, hl, Option.elim]
      rw [ih hwc hf2]
      constructor
      · intro h; exact ⟨_, hm, _, h, by rw [Pm.mul_inv_cancel]⟩
      · rintro ⟨e, he, h, hh, rfl⟩
        have h1 := (fixes_plus.1 (prd_fix hwc hh)).2
        rw [Pm.act_mul, h1, hok.brings e he] at hl
        have h2 := lookup_of_mem hok.nodup (b := e.1) (u := e.2) (by exact he)
        rw [h2] at hl
        injection hl with hl
        rw [← hl, Pm.inv_mul_cancel]
        exact hh

/-- A link that is being filled, and the chain behind it. -/
structure Part (F : Nat → Prop) (l : Lk) (c : List Lk) : Prop where
  ok : LkOk F l
  whole : Whole (plus F l.base) c
  inG : ∀ e, e ∈ l.tab → Gen (fun x => x ∈ l.gens) e.2
  cG : ∀ h, Prd c h → Gen (fun x => x ∈ l.gens) h
  gF : ∀ s, s ∈ l.gens → Fixes F s

def Done (l : Lk) (c : List Lk) (s : Pm) (e : Nat × Pm) : Prop := ∃ e', e' ∈ l.tab ∧ e'.1 = s.act e.1 ∧ Prd c (e'.2⁻¹ * (s * e.2))

theorem Part.closes {F : Nat → Prop} {l : Lk} {c : List Lk} (h : Part F l c) (hd : ∀ s, s ∈ l.gens → ∀ e, e ∈ l.tab → Done l c s e) : Whole F (l :: c) := by
  refine ⟨h.ok, h.whole, fun p => ⟨?_, ?_⟩⟩
  · rintro ⟨e, he, x, hx, rfl⟩
    exact Gen.mul' (h.inG e he) (h.cG x hx)
  · intro hp
    have hs := prd_sub h.whole
    induction hp with
    | one => exact ⟨_, h.ok.first, 1, hs.one, by rw [Pm.mul_one]⟩
    | mul hsg _ ih =>
      obtain ⟨e, he, x, hx, rfl⟩ := ih
      obtain ⟨e', he', _, hpr⟩ := hd _ hsg e he
      exact ⟨e', he', _, hs.mul hpr hx, by rw [Pm.mul_assoc e'.2⁻¹, Pm.mul_inv_cancel, Pm.mul_assoc]⟩

/-- What 'take' leaves: the rows of the chain are all that come of those that were there and the new one. -/
structure Took (c c' : List Lk) (p : Pm) : Prop where
  len : c'.length = c.length
  bases : c'.map (·.base) = c.map (·.base)
  grow : ∀ h, Prd c h → Prd c' h
  there : Prd c' p
  least : ∀ H, Sub H → (∀ h, Prd c h → H h) → H p → ∀ h, Prd c' h → H h

theorem Took.refl {c : List Lk} {p : Pm} (h : Prd c p) : Took c c p := ⟨rfl, rfl, fun _ h => h, h, fun _ _ h _ => h⟩

/-- What 'bring' leaves. -/
structure Brought (l : Lk) (c : List Lk) (l' : Lk) (c' : List Lk) (p : Pm) : Prop where
  base : l'.base = l.base
  gens : l'.gens = l.gens
  tab : ∃ more, l'.tab = l.tab ++ more
  len : c'.length = c.length
  bases : c'.map (·.base) = c.map (·.base)
  grow : ∀ h, Prd c h → Prd c' h
  there : ∃ e, e ∈ l'.tab ∧ e.1 = p.act l.base ∧ Prd c' (e.2⁻¹ * p)
  new : ∀ e, e ∈ l'.tab → e ∉ l.tab → ∀ s, s ∈ l.gens → Done l' c' s e

/-- An old bell: the link stands, the chain behind it takes what is left. -/
theorem Part.old {F : Nat → Prop} {l : Lk} {c c' : List Lk} {p u : Pm} (h : Part F l c) (hu : (p.act l.base, u) ∈ l.tab) (hp : Gen (fun x => x ∈ l.gens) p) (hw : Whole (plus F l.base) c') (ht : Took c c' (u⁻¹ * p)) :
    Part F l c' ∧ Brought l c l c' p := by
  refine ⟨⟨h.ok, hw, h.inG, fun x hx => ht.least _ (Gen.sub _) h.cG (Gen.mul' (Gen.inv (h.inG _ hu)) hp) x hx, h.gF⟩, ⟨rfl, rfl, ⟨[], by simp⟩, ht.len, ht.bases, ht.grow, ⟨_, hu, rfl, ht.there⟩, fun e he hn => absurd he hn⟩⟩

/-- A new bell: the link has one more entry. -/
def Lk.add (l : Lk) (b : Nat) (p : Pm) : Lk := { l with tab := l.tab ++ [(b, p)] }

theorem Part.add {F : Nat → Prop} {l : Lk} {c : List Lk} {p : Pm} (h : Part F l c) (hb : l.tab.lookup (p.act l.base) = none) (hf : Fixes F p) (hp : Gen (fun x => x ∈ l.gens) p) : Part F (l.add (p.act l.base) p) c := by
  refine ⟨⟨?_, ?_, ?_, ?_⟩, h.whole, ?_, h.cG, h.gF⟩
  · show ((l.tab ++ [(p.act l.base, p)]).map (·.1)).Nodup
    rw [List.map_append, List.nodup_append]
    refine ⟨h.ok.nodup, by simp, ?_⟩
    intro a ha b hb2 e
    obtain ⟨e0, he0, rfl⟩ := List.mem_map.1 ha
    have : b = p.act l.base := by simpa using hb2
    exact lookup_none hb e0 he0 (by rw [e, this])
  · intro e he
    rcases List.mem_append.1 he with he | he
    · exact h.ok.brings e he
    · rw [List.mem_singleton.1 he]; rfl
  · exact List.mem_append_left _ h.ok.first
  · intro e he
    rcases List.mem_append.1 he with he | he
    · exact h.ok.fix e he
    · rw [List.mem_singleton.1 he]; exact hf
  · intro e he
    rcases List.mem_append.1 he with he | he
    · exact h.inG e he
    · rw [List.mem_singleton.1 he]; exact hp

/-- The loop behind a new bell: after the first i generators. -/
structure Loop (l : Lk) (c : List Lk) (l0 : Lk) (l' : Lk) (c' : List Lk) (p : Pm) (i : Nat) : Prop where
  base : l'.base = l.base
  gens : l'.gens = l.gens
  tab : ∃ more, l'.tab = l.tab ++ more
  len : c'.length = c.length
  bases : c'.map (·.base) = c.map (·.base)
  grow : ∀ h, Prd c h → Prd c' h
  new : ∀ e, e ∈ l'.tab → e ∉ l.tab → ∀ s, s ∈ l.gens → Done l' c' s e
  done : ∀ s, s ∈ l.gens.take i → Done l' c' s (p.act l0.base, p)

theorem Done.mono {l l' : Lk} {c c' : List Lk} {s : Pm} {e : Nat × Pm} (h : Done l c s e) (ht : ∃ more, l'.tab = l.tab ++ more) (hg : ∀ h, Prd c h → Prd c' h) : Done l' c' s e := by
  obtain ⟨e', he', h1, h2⟩ := h
  obtain ⟨more, hm⟩ := ht
  exact ⟨e', by rw [hm]; exact List.mem_append_left _ he', h1, hg _ h2⟩

theorem Brought.trans_new {l l1 l2 : Lk} {c1 c2 : List Lk} {q : Pm} (hn : ∀ e, e ∈ l1.tab → e ∉ l.tab → ∀ s, s ∈ l.gens → Done l1 c1 s e) (hg : l1.gens = l.gens) (h : Brought l1 c1 l2 c2 q) :
    ∀ e, e ∈ l2.tab → e ∉ l.tab → ∀ s, s ∈ l.gens → Done l2 c2 s e := by
  intro e he hne s hs
  by_cases h1 : e ∈ l1.tab
  · exact (hn e h1 hne s hs).mono h.tab h.grow
  · exact h.new e he h1 s (by rw [hg]; exact hs)

theorem Loop.step {l l0 l' l2 : Lk} {c c' c2 : List Lk} {p s : Pm} {i : Nat} (h : Loop l c l0 l' c' p i) (hi : l.gens.take (i + 1) = l.gens.take i ++ [s]) (hb : l0.base = l.base) (h2 : Brought l' c' l2 c2 (s * p)) : Loop l c l0 l2 c2 p (i + 1) := by
  obtain ⟨m1, hm1⟩ := h.tab
  obtain ⟨m2, hm2⟩ := h2.tab
  refine ⟨h2.base.trans h.base, h2.gens.trans h.gens, ⟨m1 ++ m2, by rw [hm2, hm1, List.append_assoc]⟩, h2.len.trans h.len, h2.bases.trans h.bases, fun x hx => h2.grow x (h.grow x hx), Brought.trans_new h.new h.gens h2, ?_⟩
  intro t ht
  rw [hi] at ht
  rcases List.mem_append.1 ht with ht | ht
  · exact (h.done t ht).mono h2.tab h2.grow
  · rw [List.mem_singleton.1 ht]
    obtain ⟨e, he, h3, h4⟩ := h2.there
    refine ⟨e, he, ?_, h4⟩
    show e.1 = s.act (p.act l0.base)
    rw [h3, h.base, Pm.act_mul, hb]

/-- The loop begins with the link that has the new bell. -/
theorem Loop.start (l : Lk) (c : List Lk) (p : Pm) : Loop (l.add (p.act l.base) p) c l (l.add (p.act l.base) p) c p 0 :=
  ⟨rfl, rfl, ⟨[], by simp⟩, rfl, rfl, fun _ h => h, fun e he hn => absurd he hn, fun s hs => by simp at hs⟩

theorem Loop.brought {l l' : Lk} {c c' : List Lk} {p : Pm} {i : Nat} (hi : l.gens.length ≤ i) (hw : Prd c' 1) (h : Loop (l.add (p.act l.base) p) c l l' c' p i) : Brought l c l' c' p := by
  obtain ⟨m1, hm1⟩ := h.tab
  have hm : l'.tab = l.tab ++ ((p.act l.base, p) :: m1) := by rw [hm1]; show (l.tab ++ [_]) ++ m1 = _; simp
  refine ⟨h.base, h.gens, ⟨_, hm⟩, h.len, h.bases, h.grow, ⟨(p.act l.base, p), by rw [hm]; simp, rfl, by rw [Pm.inv_mul]; exact hw⟩, ?_⟩
  intro e he hne s hs
  by_cases h1 : e ∈ (l.add (p.act l.base) p).tab
  · rcases List.mem_append.1 h1 with h1 | h1
    · exact absurd h1 hne
    · rw [List.mem_singleton.1 h1]
      exact h.done s (by rw [List.take_of_length_le (by exact hi)]; exact hs)
  · exact h.new e he h1 s hs

/-- 'take': the link with one more generator. -/
def Lk.gen (l : Lk) (p : Pm) : Lk := { l with gens := l.gens ++ [p] }

theorem Whole.gen {F : Nat → Prop} {l : Lk} {c : List Lk} {p : Pm} (h : Whole F (l :: c)) (hf : Fixes F p) : Part F (l.gen p) c := by
  have hw := h
  obtain ⟨h1, h2, h3⟩ := h
  have hm : ∀ x, Gen (fun x => x ∈ l.gens) x → Gen (fun x => x ∈ (l.gen p).gens) x := fun x hx => hx.mono (fun s hs => List.mem_append_left _ hs)
  have hs := prd_sub h2
  refine ⟨⟨h1.nodup, h1.brings, h1.first, h1.fix⟩, h2, fun e he => hm _ ((h3 _).1 ⟨e, he, 1, hs.one, by rw [Pm.mul_one]⟩), fun x hx => hm _ ((h3 _).1 ⟨_, h1.first, x, hx, by rw [Pm.one_mul]⟩), fun s hs => ?_⟩
  rcases List.mem_append.1 hs with hs | hs
  · exact prd_fix hw ((h3 s).2 (Gen.of hs))
  · rw [List.mem_singleton.1 hs]; exact hf

/-- Of a whole chain all is done. -/
theorem Whole.done {F : Nat → Prop} {l : Lk} {c : List Lk} (h : Whole F (l :: c)) {s : Pm} (hs : s ∈ l.gens) {e : Nat × Pm} (he : e ∈ l.tab) : Done l c s e := by
  obtain ⟨h1, h2, h3⟩ := h
  have hsub := prd_sub h2
  have hp : Prd (l :: c) (s * e.2) := (h3 _).2 (Gen.mul hs ((h3 _).1 ⟨e, he, 1, hsub.one, by rw [Pm.mul_one]⟩))
  obtain ⟨e', he', x, hx, hq⟩ := hp
  refine ⟨e', he', ?_, by rw [hq, Pm.inv_mul_cancel]; exact hx⟩
  have h4 := (fixes_plus.1 (prd_fix h2 hx)).2
  have h5 : (s * e.2).act l.base = (e'.2 * x).act l.base := by rw [hq]
  rw [Pm.act_mul, Pm.act_mul, h4, h1.brings e he, h1.brings e' he'] at h5
  exact h5.symm

/-- The loop of 'take' over the bells that were there: after the first i. -/
structure TLoop (F : Nat → Prop) (l : Lk) (c : List Lk) (l' : Lk) (c' : List Lk) (p : Pm) (i : Nat) : Prop where
  part : Part F l' c'
  base : l'.base = l.base
  gens : l'.gens = l.gens ++ [p]
  tab : ∃ more, l'.tab = l.tab ++ more
  len : c'.length = c.length
  bases : c'.map (·.base) = c.map (·.base)
  grow : ∀ h, Prd c h → Prd c' h
  new : ∀ e, e ∈ l'.tab → e ∉ l.tab → ∀ s, s ∈ l'.gens → Done l' c' s e
  done : ∀ e, e ∈ l.tab.take i → Done l' c' p e

theorem TLoop.start {F : Nat → Prop} {l : Lk} {c : List Lk} {p : Pm} (h : Whole F (l :: c)) (hf : Fixes F p) : TLoop F l c (l.gen p) c p 0 :=
  ⟨h.gen hf, rfl, rfl, ⟨[], by simp [Lk.gen]⟩, rfl, rfl, fun _ h => h, fun e he hn => absurd he hn, fun e he => by simp at he⟩

theorem TLoop.step {F : Nat → Prop} {l l' l2 : Lk} {c c' c2 : List Lk} {p : Pm} {e : Nat × Pm} {i : Nat} (h : TLoop F l c l' c' p i) (hi : l.tab.take (i + 1) = l.tab.take i ++ [e]) (he : e.2.act l.base = e.1) (hp : Part F l2 c2) (h2 : Brought l' c' l2 c2 (p * e.2)) : TLoop F l c l2 c2 p (i + 1) := by
  obtain ⟨m1, hm1⟩ := h.tab
  obtain ⟨m2, hm2⟩ := h2.tab
  refine ⟨hp, h2.base.trans h.base, h2.gens.trans h.gens, ⟨m1 ++ m2, by rw [hm2, hm1, List.append_assoc]⟩, h2.len.trans h.len, h2.bases.trans h.bases, fun x hx => h2.grow x (h.grow x hx), ?_, ?_⟩
  · intro x hx hn s hs
    rw [h2.gens] at hs
    by_cases h1 : x ∈ l'.tab
    · exact (h.new x h1 hn s hs).mono h2.tab h2.grow
    · exact h2.new x hx h1 s hs
  · intro x hx
    rw [hi] at hx
    rcases List.mem_append.1 hx with hx | hx
    · exact (h.done x hx).mono h2.tab h2.grow
    · rw [List.mem_singleton.1 hx]
      obtain ⟨e', he', h3, h4⟩ := h2.there
      exact ⟨e', he', by rw [h3, h.base, Pm.act_mul, he], h4⟩

theorem TLoop.finish {F : Nat → Prop} {l l' : Lk} {c c' : List Lk} {p : Pm} {i : Nat} (h : TLoop F l c l' c' p i) (hw : Whole F (l :: c)) (hi : l.tab.length ≤ i) : Whole F (l' :: c') ∧ Took (l :: c) (l' :: c') p := by
  have hwh : Whole F (l' :: c') := by
    refine h.part.closes (fun s hs e he => ?_)
    by_cases h1 : e ∈ l.tab
    · rw [h.gens] at hs
      rcases List.mem_append.1 hs with hs | hs
      · exact (Whole.done hw hs h1).mono h.tab h.grow
      · rw [List.mem_singleton.1 hs]
        exact h.done e (by rw [List.take_of_length_le hi]; exact h1)
    · exact h.new e he h1 s hs
  refine ⟨hwh, ⟨by simp [h.len], by simp [h.base, h.bases], ?_, ?_, ?_⟩⟩
  · intro x hx
    refine (hwh.2.2 x).2 (((hw.2.2 x).1 hx).mono (fun s hs => ?_))
    show s ∈ l'.gens
    rw [h.gens]; exact List.mem_append_left _ hs
  · exact (hwh.2.2 p).2 (Gen.of (by show p ∈ l'.gens; rw [h.gens]; simp))
  · intro H hH hc hp x hx
    refine Gen.least hH (fun s hs => ?_) ((hwh.2.2 x).1 hx)
    have hs : s ∈ l'.gens := hs
    rw [h.gens] at hs
    rcases List.mem_append.1 hs with hs | hs
    · exact hc s ((hw.2.2 s).2 (Gen.of hs))
    · rw [List.mem_singleton.1 hs]; exact hp

end Go.Proofs.YtfngadfkopfhcaaGreatDoor

/- Rows of twelve as arrays; contracts: rounds, pack, times, back, unpack. -/
namespace Go.Proofs.YtfngadfkopfhcaaGreatDoor
open Go.RowKit

/-- Numbers as the cells of an array of int8. -/
def i8s (zs : List Int) : Array Value := (zs.map (Value.int .i8)).toArray

/-- A row as an array's value. -/
def pv (x : Pm) : Value := .agg (i8s x.l)

theorem i8s_size (zs : List Int) : (i8s zs).size = zs.length := by simp [i8s]

theorem i8s_get {zs : List Int} {j : Nat} (h : j < zs.length) : (i8s zs)[j]? = some (.int .i8 (zs.getD j 0)) := by
  simp [i8s, List.getD, h]

theorem i8s_one (zs : List Int) : (i8s zs).all (·.oneCell') = true := by
  rw [Array.all_eq_true_iff_forall_mem]
  intro v hv
  simp [i8s] at hv
  obtain ⟨a, _, rfl⟩ := hv
  rfl

theorem i8s_set (zs : List Int) (k : Nat) (y : Int) : (i8s zs).setIfInBounds k (.int .i8 y) = i8s (zs.set k y) := by
  apply Array.toList_inj.1
  simp [i8s]

def zeros12 : List Int := [0, 0, 0, 0, 0, 0, 0, 0, 0, 0, 0, 0]

theorem eq_one {zs : List Int} (hl : zs.length = 12) (h : ∀ j, j < 12 → zs.getD j 0 = (j : Int)) : zs = (1 : Pm).l := by rw [Pm.one_l]; exact eq_rnd hl h

end Go.Proofs.YtfngadfkopfhcaaGreatDoor

/- Contracts: pack, unpack. -/
namespace Go.Proofs.YtfngadfkopfhcaaGreatDoor
open Go.RowKit

theorem pack_step {xs : List Int} {k : Nat} (h1 : xs.length ≤ 12) (hk : k < xs.length) : (xs.take k ++ (rnd 12).drop k).set k (xs.getD k 0) = xs.take (k + 1) ++ (rnd 12).drop (k + 1) := by
  apply List.ext_getElem?
  intro i
  rw [List.getElem?_set, List.length_append, List.length_take, List.length_drop, rnd_length]
  by_cases e : k = i
  · subst e
    rw [if_pos rfl, if_pos (by omega), List.getElem?_append_left (by rw [List.length_take]; omega), List.getElem?_take]
    simp [List.getD, List.getElem?_eq_getElem hk]
  · rw [if_neg e]
    by_cases hi : i < k
    · rw [List.getElem?_append_left (by rw [List.length_take]; omega), List.getElem?_append_left (by rw [List.length_take]; omega), List.getElem?_take, List.getElem?_take, if_pos hi, if_pos (by omega)]
    · rw [List.getElem?_append_right (by rw [List.length_take]; omega), List.getElem?_append_right (by rw [List.length_take]; omega), List.getElem?_drop, List.getElem?_drop, List.length_take, List.length_take]
      congr 1
      omega

theorem below_alloc {w w1 : World} {o : Obj} (h : Below (w.alloc o).heap.size (w.alloc o) w1) : Below (w.heap.size + 1) (w.alloc o) w1 := by
  have e : (w.alloc o).heap.size = w.heap.size + 1 := by simp
  rwa [e] at h

end Go.Proofs.YtfngadfkopfhcaaGreatDoor

/- Maps keyed by int, whatever their elements: what they hold, as a function. -/
namespace Go.Proofs.YtfngadfkopfhcaaGreatDoor
open Go.RowKit Go.Maps

/-- An element, held as it is. -/
def heldElem (v : Value) : Option (DataW Value × List MemPlace) := some (.held v, [])

theorem Tryz.zero3 (w : World) : (zeroValue 3).run Tryz.prog w = .ok (.int .i64 0) w := by kernel_rfl

theorem Tryz.zero4 (w : World) : (zeroValue 4).run Tryz.prog w = .ok (.bool false) w := by kernel_rfl

theorem keyedI : Keyed Tryz.prog 3 := int_keyed Tryz.underlying3

/-- Block b is a map of at most n entries, which holds what f says. -/
def IMap (w : World) (b n : Nat) (f : Int → Option Value) : Prop :=
  ∃ D : DataW Value, w.ownsMap Tryz.prog 3 heldElem b n D ∧ ∀ a : Int, Maps.has D (.int .i64 a) = (f a).isSome ∧ ∀ v, f a = some v → ∀ z, D.atKey (.int .i64 a) z = .held v

theorem IMap.lt {w : World} {b n : Nat} {f : Int → Option Value} (h : IMap w b n f) : b < w.heap.size := by
  obtain ⟨D, h1, _⟩ := h; exact h1.lt

theorem IMap.obj {w : World} {b n : Nat} {f : Int → Option Value} (h : IMap w b n f) : ∃ es clock, w.heap[b]? = some (.map es clock) := by
  obtain ⟨D, ⟨es, c, h1, _⟩, _⟩ := h; exact ⟨es, c, h1⟩

theorem IMap.of_block {w w' : World} {b n : Nat} {f : Int → Option Value} (h : IMap w b n f) (hb : w'.heap[b]? = w.heap[b]?) : IMap w' b n f := by
  obtain ⟨D, ⟨es, c, h1, h2⟩, h3⟩ := h; exact ⟨D, ⟨es, c, hb.trans h1, h2⟩, h3⟩

theorem IMap.alloc {w : World} {b n : Nat} {f : Int → Option Value} (h : IMap w b n f) (o : Obj) : IMap (w.alloc o) b n f := h.of_block (Below.heap_alloc w o b h.lt)

theorem IMap.below {w w' : World} {b n B : Nat} {f : Int → Option Value} (h : IMap w b n f) (hb : Below B w w') (hB : b < B) : IMap w' b n f := h.of_block (hb.block b hB)

theorem IMap.mono {w : World} {b n m : Nat} {f : Int → Option Value} (h : IMap w b n f) (hn : n ≤ m) : IMap w b m f := by
  obtain ⟨D, h1, h2⟩ := h; exact ⟨D, h1.mono hn, h2⟩

theorem IMap.made (w : World) : IMap (w.alloc (.map #[] 0)) w.heap.size 0 (fun _ => none) :=
  ⟨.map [], World.ownsMap_made _ _ _ _, fun a => ⟨rfl, fun v h => by cases h⟩⟩

theorem IMap.congr {w : World} {b n : Nat} {f f' : Int → Option Value} (h : IMap w b n f) (e : ∀ a, f a = f' a) : IMap w b n f' := by
  rw [show f' = f from funext (fun a => (e a).symm)]; exact h

theorem wfI {a : Int} (h1 : -9223372036854775808 ≤ a) (h2 : a ≤ 9223372036854775807) : keyOf Tryz.prog 3 (.int .i64 a) = some (.int .i64 a) :=
  keyOf_int_mk Tryz.underlying3 (WalkArith.wf_i64 ⟨h1, h2⟩)

/-- 'v, ok := m[a]'. -/
theorem IMap.look_ok {w : World} {b n : Nat} {f : Int → Option Value} (h : IMap w b n f) {t e : TypeId} (ht : Tryz.prog.underlying t = some (.map 3 e)) {z : Value} (hz : (zeroValue e).run Tryz.prog w = .ok z w) {a : Int} (h1 : -9223372036854775808 ≤ a) (h2 : a ≤ 9223372036854775807) :
    (Instr.lookup t (.map (some b)) (.int .i64 a) true).run Tryz.prog w = .ok (.tuple #[(f a).getD z, .bool (f a).isSome]) w := by
  obtain ⟨D, hD, hf⟩ := h
  obtain ⟨v, ps, hrun, hv⟩ := hD.look_ok keyedI ht hz (zd := .held z) (zp := []) rfl (wfI h1 h2)
  have hv' : DataW.held v = D.atKey (.int .i64 a) (.held z) := (Prod.mk.inj (Option.some.inj hv)).1
  rw [hrun, (hf a).1]
  cases hfa : f a with
  | none =>
    have hh := (hf a).1
    rw [hfa] at hh
    rw [atKey_of_not_has hh] at hv'
    rw [DataW.held.inj hv']; rfl
  | some u =>
    rw [(hf a).2 u hfa] at hv'
    rw [DataW.held.inj hv']; rfl

/-- 'm[a]'. -/
theorem IMap.look {w : World} {b n : Nat} {f : Int → Option Value} (h : IMap w b n f) {t e : TypeId} (ht : Tryz.prog.underlying t = some (.map 3 e)) {z : Value} (hz : (zeroValue e).run Tryz.prog w = .ok z w) {a : Int} (h1 : -9223372036854775808 ≤ a) (h2 : a ≤ 9223372036854775807) :
    (Instr.lookup t (.map (some b)) (.int .i64 a) false).run Tryz.prog w = .ok ((f a).getD z) w := by
  obtain ⟨D, hD, hf⟩ := h
  obtain ⟨v, ps, hrun, hv⟩ := hD.lookup keyedI ht hz (zd := .held z) (zp := []) rfl (wfI h1 h2)
  have hv' : DataW.held v = D.atKey (.int .i64 a) (.held z) := (Prod.mk.inj (Option.some.inj hv)).1
  rw [hrun]
  cases hfa : f a with
  | none =>
    have hh := (hf a).1
    rw [hfa] at hh
    rw [atKey_of_not_has hh] at hv'
    rw [DataW.held.inj hv']; rfl
  | some u =>
    rw [(hf a).2 u hfa] at hv'
    rw [DataW.held.inj hv']; rfl

def upd (f : Int → Option Value) (a : Int) (v : Value) : Int → Option Value := fun x => if x = a then some v else f x

/-- 'm[a] = v'. -/
theorem IMap.put {w : World} {b n : Nat} {f : Int → Option Value} (h : IMap w b n f) {t e : TypeId} (ht : Tryz.prog.underlying t = some (.map 3 e)) (hn : n < maxLen) {a : Int} (h1 : -9223372036854775808 ≤ a) (h2 : a ≤ 9223372036854775807) (v : Value) :
    ∃ w', (Instr.mapUpdate t (.map (some b)) (.int .i64 a) v).run Tryz.prog w = .ok () w' ∧ IMap w' b (n + 1) (upd f a v) ∧ w.grownBy w' (some b) := by
  obtain ⟨D, hD, hf⟩ := h
  obtain ⟨w', hrun, hD', hg⟩ := hD.update (val := v) (d := .held v) (ps := []) keyedI ht hn (wfI h1 h2) rfl
  have hkey : WideAt.IsKeyLit (.int .i64 a) := keyedI.key (wfI h1 h2)
  refine ⟨w', hrun, ⟨_, hD', fun x => ?_⟩, hg⟩
  unfold upd
  by_cases e : x = a
  · subst e
    rw [if_pos rfl]
    exact ⟨has_put_same hD.isMap hkey _, fun u hu z => by rw [← Option.some.inj hu]; exact atKey_put_same hD.isMap hkey _ _⟩
  · have hne : (Lit.int .i64 x) ≠ Lit.int .i64 a := fun h => e (Lit.int.inj h).2
    rw [if_neg e]
    exact ⟨by rw [has_put_other hne]; exact (hf x).1, fun u hu z => by rw [atKey_put_other hne]; exact (hf x).2 u hu z⟩

/-! at the operation -/
section
variable {ops : Array Oper} {rest : List Oper} {o : Oper} {a : Act} {w : World} {Q : Exit → Act → World → Prop}

theorem wpList_look_ok (hg : o.guard = none) (m x : Operand) (t : TypeId) (hop : o.op = Op.lookup t m x true) (e : TypeId) (ht : Tryz.prog.underlying t = some (.map 3 e)) {z : Value} (hz : (zeroValue e).run Tryz.prog w = .ok z w)
    {b n : Nat} {f : Int → Option Value} (h : IMap w b n f) (k : Int) (hm : a.eval m = .map (some b)) (hx : a.eval x = .int .i64 k) (h1 : -9223372036854775808 ≤ k) (h2 : k ≤ 9223372036854775807)
    (hK : wpList Tryz.prog ops Q rest (a.put o.dst (.tuple #[(f k).getD z, .bool (f k).isSome])) w) : wpList Tryz.prog ops Q (o :: rest) a w := by
  refine wpList_plain hg fun K' hK' => ?_
  have hrun := h.look_ok ht hz h1 h2
  unfold Oper.wp
  simp [execOp, hop, hm, hx, hrun, Result.andThen]
  exact hK' _ _ hK

theorem wpList_look (hg : o.guard = none) (m x : Operand) (t : TypeId) (hop : o.op = Op.lookup t m x false) (e : TypeId) (ht : Tryz.prog.underlying t = some (.map 3 e)) {z : Value} (hz : (zeroValue e).run Tryz.prog w = .ok z w)
    {b n : Nat} {f : Int → Option Value} (h : IMap w b n f) (k : Int) (hm : a.eval m = .map (some b)) (hx : a.eval x = .int .i64 k) (h1 : -9223372036854775808 ≤ k) (h2 : k ≤ 9223372036854775807)
    (hK : wpList Tryz.prog ops Q rest (a.put o.dst ((f k).getD z)) w) : wpList Tryz.prog ops Q (o :: rest) a w := by
  refine wpList_plain hg fun K' hK' => ?_
  have hrun := h.look ht hz h1 h2
  unfold Oper.wp
  simp [execOp, hop, hm, hx, hrun, Result.andThen]
  exact hK' _ _ hK

theorem wpList_put (hg : o.guard = none) (m x v : Operand) (t : TypeId) (hop : o.op = Op.mapUpdate t m x v) (e : TypeId) (ht : Tryz.prog.underlying t = some (.map 3 e))
    {b n : Nat} {f : Int → Option Value} (h : IMap w b n f) (hn : n < maxLen) (k : Int) (val : Value) (hm : a.eval m = .map (some b)) (hx : a.eval x = .int .i64 k) (hv : a.eval v = val) (h1 : -9223372036854775808 ≤ k) (h2 : k ≤ 9223372036854775807)
    (hK : ∀ w', IMap w' b (n + 1) (upd f k val) → w.grownBy w' (some b) → wpList Tryz.prog ops Q rest (a.put o.dst undef) w') : wpList Tryz.prog ops Q (o :: rest) a w := by
  refine wpList_plain hg fun K' hK' => ?_
  obtain ⟨w', hrun, r1, r2⟩ := h.put ht hn h1 h2 val
  unfold Oper.wp
  simp [execOp, hop, hm, hx, hv, hrun, Result.andThen]
  exact hK' _ _ (hK w' r1 r2)
end

end Go.Proofs.YtfngadfkopfhcaaGreatDoor

/- Maps keyed by arrays of twelve integers, whatever their elements: what they hold, as a function of the list. -/
namespace Go.Proofs.YtfngadfkopfhcaaGreatDoor
open Go.RowKit Go.Maps

/-- An array of integers, as a value. -/
def kv (q : IntKind) (zs : List Int) : Value := .agg (zs.map (Value.int q)).toArray

theorem mapM_some {α β : Type} (f : α → Option β) : ∀ l : List α, (∀ x, x ∈ l → ∃ y, f x = some y) → ∃ ys, l.mapM f = some ys
  | [], _ => ⟨[], rfl⟩
  | x :: l, h => by
    obtain ⟨y, hy⟩ := h x (by simp)
    obtain ⟨ys, hys⟩ := mapM_some f l (fun z hz => h z (by simp [hz]))
    exact ⟨y :: ys, by rw [List.mapM_cons, hy, hys]; rfl⟩

theorem pos_succ (n : Nat) (h : 0 < n) : ∃ d, n = d + 1 := ⟨n - 1, by omega⟩

/-- What a type of arrays of twelve integers must be. -/
structure KeyT (K E : TypeId) (q : IntKind) : Prop where
  arr : Tryz.prog.underlying K = some (.array 12 E)
  int : Tryz.prog.underlying E = some (.int q)
  cK : Tryz.prog.cellsOf K = 12
  cE : Tryz.prog.cellsOf E = 1
  ok : Tryz.prog.keyType K = true
  low : K < Tryz.prog.types.size
  keyed : Keyed Tryz.prog K

def OkK (q : IntKind) (zs : List Int) : Prop := zs.length = 12 ∧ ∀ z, z ∈ zs → (Lit.int q z).wf = true

theorem KeyT.mk' {K E : TypeId} {q : IntKind} (h : KeyT K E q) {zs : List Int} (hz : OkK q zs) : ∃ l, keyOf Tryz.prog K (kv q zs) = some l := by
  obtain ⟨hl, hw⟩ := hz
  unfold keyOf
  rw [h.arr]
  simp only
  have hf : (kv q zs).formed Tryz.prog K = true := by
    unfold kv Value.formed
    rw [h.arr]
    simp [h.cK, hl]
  rw [h.ok, hf]
  simp only [Bool.and_self, if_true]
  have hkl : ∃ ls, Tryz.prog.keyLits (Tryz.prog.types.size + 1) K (kv q zs).cells.toList = some ls := by
    have hcs : (kv q zs).cells.toList = zs.map (Value.int q) := by simp [kv, Value.cells]
    rw [hcs]
    unfold Program.keyLits
    rw [h.arr]
    simp only
    rw [if_pos (by simp [h.cK, hl])]
    obtain ⟨ys, hys⟩ := mapM_some (fun i => Tryz.prog.keyLits Tryz.prog.types.size E (((zs.map (Value.int q)).drop (i * Tryz.prog.cellsOf E)).take (Tryz.prog.cellsOf E))) (List.range 12) (fun i hi => by
      have hi' : i < zs.length := by rw [hl]; simpa using hi
      refine ⟨[.int q zs[i]], ?_⟩
      rw [h.cE, Nat.mul_one]
      have e : ((zs.map (Value.int q)).drop i).take 1 = [.int q zs[i]] := by
        rw [List.drop_eq_getElem_cons (by simpa using hi')]
        simp
      rw [e]
      obtain ⟨d, hd⟩ : ∃ d, Tryz.prog.types.size = d + 1 := pos_succ _ (Nat.lt_of_le_of_lt (Nat.zero_le _) h.low)
      rw [hd]
      unfold Program.keyLits
      rw [h.int]
      simp [hw zs[i] (List.getElem_mem hi')])
    exact ⟨ys.flatten, by rw [hys]; rfl⟩
  obtain ⟨ls, hls⟩ := hkl
  exact ⟨_, by rw [hls]; rfl⟩

theorem kv_inj {q : IntKind} {xs ys : List Int} (h : kv q xs = kv q ys) : xs = ys := by
  unfold kv at h
  have h1 : (xs.map (Value.int q)).toArray = (ys.map (Value.int q)).toArray := by injection h
  have h2 : xs.map (Value.int q) = ys.map (Value.int q) := by simpa using congrArg Array.toList h1
  exact (List.map_inj_right (fun a b e => by injection e)).1 h2

/-- Block b is a map of at most n entries, which holds what f says. -/
def KMap (K : TypeId) (q : IntKind) (w : World) (b n : Nat) (f : List Int → Option Value) : Prop :=
  ∃ D : DataW Value, w.ownsMap Tryz.prog K heldElem b n D ∧ ∀ zs, OkK q zs → ∀ l, keyOf Tryz.prog K (kv q zs) = some l → Maps.has D l = (f zs).isSome ∧ ∀ v, f zs = some v → ∀ z, D.atKey l z = .held v

section
variable {K E : TypeId} {q : IntKind} {w w' : World} {b n : Nat} {f : List Int → Option Value}

theorem KMap.lt (h : KMap K q w b n f) : b < w.heap.size := by obtain ⟨D, h1, _⟩ := h; exact h1.lt

theorem KMap.of_block (h : KMap K q w b n f) (hb : w'.heap[b]? = w.heap[b]?) : KMap K q w' b n f := by
  obtain ⟨D, ⟨es, c, h1, h2⟩, h3⟩ := h; exact ⟨D, ⟨es, c, hb.trans h1, h2⟩, h3⟩

theorem KMap.alloc (h : KMap K q w b n f) (o : Obj) : KMap K q (w.alloc o) b n f := h.of_block (Below.heap_alloc w o b h.lt)

theorem KMap.below {B : Nat} (h : KMap K q w b n f) (hb : Below B w w') (hB : b < B) : KMap K q w' b n f := h.of_block (hb.block b hB)

theorem KMap.made (K : TypeId) (q : IntKind) (w : World) : KMap K q (w.alloc (.map #[] 0)) w.heap.size 0 (fun _ => none) :=
  ⟨.map [], World.ownsMap_made _ _ _ _, fun zs _ l _ => ⟨rfl, fun v h => by cases h⟩⟩

/-- 'v, ok := m[a]'. -/
theorem KMap.look_ok (hK : KeyT K E q) (h : KMap K q w b n f) {t e : TypeId} (ht : Tryz.prog.underlying t = some (.map K e)) {z : Value} (hz : (zeroValue e).run Tryz.prog w = .ok z w) {zs : List Int} (hzs : OkK q zs) :
    (Instr.lookup t (.map (some b)) (kv q zs) true).run Tryz.prog w = .ok (.tuple #[(f zs).getD z, .bool (f zs).isSome]) w := by
  obtain ⟨D, hD, hf⟩ := h
  obtain ⟨l, hl⟩ := hK.mk' hzs
  obtain ⟨v, ps, hrun, hv⟩ := hD.look_ok hK.keyed ht hz (zd := .held z) (zp := []) rfl hl
  have hv' : DataW.held v = D.atKey l (.held z) := (Prod.mk.inj (Option.some.inj hv)).1
  have hfz := hf zs hzs l hl
  rw [hrun, hfz.1]
  cases hfa : f zs with
  | none =>
    have hh := hfz.1
    rw [hfa] at hh
    rw [atKey_of_not_has hh] at hv'
    rw [DataW.held.inj hv']; rfl
  | some u =>
    rw [hfz.2 u hfa] at hv'
    rw [DataW.held.inj hv']; rfl

def kupd (f : List Int → Option Value) (a : List Int) (v : Value) : List Int → Option Value := fun x => if x = a then some v else f x

/-- 'm[a] = v'. -/
theorem KMap.put (hK : KeyT K E q) (h : KMap K q w b n f) {t e : TypeId} (ht : Tryz.prog.underlying t = some (.map K e)) (hn : n < maxLen) {a : List Int} (ha : OkK q a) (v : Value) :
    ∃ w', (Instr.mapUpdate t (.map (some b)) (kv q a) v).run Tryz.prog w = .ok () w' ∧ KMap K q w' b (n + 1) (kupd f a v) ∧ w.grownBy w' (some b) := by
  obtain ⟨D, hD, hf⟩ := h
  obtain ⟨la, hla⟩ := hK.mk' ha
  obtain ⟨w', hrun, hD', hg⟩ := hD.update (val := v) (d := .held v) (ps := []) hK.keyed ht hn hla rfl
  have hkey : WideAt.IsKeyLit la := hK.keyed.key hla
  refine ⟨w', hrun, ⟨_, hD', fun x hx l hl => ?_⟩, hg⟩
  unfold kupd
  by_cases e : x = a
  · subst e
    rw [if_pos rfl]
    have : l = la := by rw [hl] at hla; exact Option.some.inj hla
    subst this
    exact ⟨has_put_same hD.isMap hkey _, fun u hu z => by rw [← Option.some.inj hu]; exact atKey_put_same hD.isMap hkey _ _⟩
  · have hne : l ≠ la := fun h => e (kv_inj (hK.keyed.inj hl (by rw [h]; exact hla)))
    rw [if_neg e]
    exact ⟨by rw [has_put_other hne]; exact (hf x hx l hl).1, fun u hu z => by rw [atKey_put_other hne]; exact (hf x hx l hl).2 u hu z⟩
end

end Go.Proofs.YtfngadfkopfhcaaGreatDoor

/- Plain: rows of as many bells with one rank are one. -/
namespace Go.Proofs.YtfngadfkopfhcaaGreatDoor

theorem cnt_cons (x z : Int) (l : List Int) : cnt x (z :: l) = (if z < x then 1 else 0) + cnt x l := by
  unfold cnt
  by_cases h : z < x
  · rw [List.filter_cons_of_pos (by simpa using h), if_pos h, List.length_cons]; omega
  · rw [List.filter_cons_of_neg (by simpa using h), if_neg h]; omega

theorem cnt_mono {x y : Int} (h : x < y) (l : List Int) : cnt x l ≤ cnt y l ∧ (x ∈ l → cnt x l < cnt y l) := by
  induction l with
  | nil => exact ⟨Nat.le_refl _, fun h => by cases h⟩
  | cons z l ih =>
    rw [cnt_cons, cnt_cons]
    refine ⟨?_, fun hm => ?_⟩
    · split <;> split <;> omega
    · rcases List.mem_cons.1 hm with rfl | hm
      · rw [if_neg (by omega), if_pos h]; omega
      · have := ih.2 hm
        split <;> split <;> omega

theorem rankR_lt : ∀ l : List Int, rankR l < fct l.length
  | [] => by decide
  | x :: xs => by
    have ih := rankR_lt xs
    have hc := cnt_le x xs
    show cnt x xs * fct xs.length + rankR xs < (xs.length + 1) * fct xs.length
    have h1 : cnt x xs * fct xs.length ≤ xs.length * fct xs.length := Nat.mul_le_mul_right _ hc
    rw [Nat.add_mul, Nat.one_mul]
    omega

theorem rankR_inj : ∀ (a b : List Int), a.Perm b → a.Nodup → rankR a = rankR b → a = b
  | [], b, hp, _, _ => (List.nil_perm.1 hp).symm
  | x :: xs, [], hp, _, _ => absurd hp.length_eq (by simp)
  | x :: xs, y :: ys, hp, hn, he => by
    have hl : xs.length = ys.length := by simpa using hp.length_eq
    have h1 := rankR_lt xs
    have h2 := rankR_lt ys
    have he' : cnt x xs * fct xs.length + rankR xs = cnt y ys * fct ys.length + rankR ys := he
    rw [← hl] at he' h2
    have hG := fct_pos xs.length
    have hc : cnt x xs = cnt y ys := by
      have e1 : (cnt x xs * fct xs.length + rankR xs) / fct xs.length = cnt x xs := by
        rw [Nat.mul_comm, Nat.mul_add_div hG, Nat.div_eq_of_lt h1]; rfl
      have e2 : (cnt y ys * fct xs.length + rankR ys) / fct xs.length = cnt y ys := by
        rw [Nat.mul_comm, Nat.mul_add_div hG, Nat.div_eq_of_lt h2]; rfl
      rw [← e1, ← e2, he']
    have hr : rankR xs = rankR ys := by rw [hc] at he'; omega
    have c1 : cnt x (x :: xs) = cnt x xs := by rw [cnt_cons, if_neg (by omega)]; omega
    have c2 : cnt y (y :: ys) = cnt y ys := by rw [cnt_cons, if_neg (by omega)]; omega
    have exy : x = y := by
      rcases Int.lt_trichotomy x y with h | h | h
      · have h3 := (cnt_mono h (x :: xs)).2 List.mem_cons_self
        rw [cnt_perm hp (x := y), c1, c2] at h3
        omega
      · exact h
      · have h3 := (cnt_mono h (y :: ys)).2 List.mem_cons_self
        rw [← cnt_perm hp (x := x), c1, c2] at h3
        omega
    subst exy
    rw [rankR_inj xs ys ((List.perm_cons x).1 hp) (List.nodup_cons.1 hn).2 hr]

theorem rank_inj {a b : List Int} (ha : isRow a) (hb : isRow b) (hl : b.length = a.length) (h : rkTo a a.length = rkTo b b.length) : a = b := by
  rw [rkTo_all, rkTo_all] at h
  refine rankR_inj a b ((row_perm_rnd ha).trans ?_) ha.2 h
  rw [← hl]
  exact (row_perm_rnd hb).symm

end Go.Proofs.YtfngadfkopfhcaaGreatDoor

/- Plain: the rows that lead from rows to rows. -/
namespace Go.Proofs.YtfngadfkopfhcaaGreatDoor
open Go.RowKit

/-- What undoes a row. -/
def un (r : List Int) : List Int := (List.range r.length).map (fun (i : Nat) => ((((List.range r.length).find? (fun j => r.getD j 0 == (i : Int))).getD 0 : Nat) : Int))

theorem un_undoes {r : List Int} (hr : isRow r) : Undoes (un r) r := by
  refine ⟨by simp [un], fun j hj => ?_⟩
  have h1 := hr.at hj
  obtain ⟨m, hm⟩ := Int.eq_ofNat_of_zero_le h1.1
  have hm2 : m < r.length := by omega
  rw [hm, Int.toNat_natCast]
  have e : (un r).getD m 0 = ((((List.range r.length).find? (fun j => r.getD j 0 == (m : Int))).getD 0 : Nat) : Int) := by
    simp [un, List.getD, hm2]
  rw [e]
  cases hf : (List.range r.length).find? (fun j => r.getD j 0 == (m : Int)) with
  | none =>
    have := List.find?_eq_none.1 hf j (List.mem_range.2 hj)
    simp only [beq_iff_eq] at this
    exact absurd hm this
  | some j' =>
    have h2 := List.find?_some hf
    have h3 := List.mem_range.1 (List.mem_of_find?_eq_some hf)
    simp only [beq_iff_eq] at h2
    have := hr.inj h3 hj (by rw [h2]; exact hm.symm)
    rw [this]
    rfl

theorem undoes_un {zs r : List Int} (hr : isRow r) (h : Undoes zs r) : zs = un r := by
  have hu := un_undoes hr
  refine List.ext_getElem (by rw [h.1, hu.1]) (fun i h1 h2 => ?_)
  have hi : i < r.length := by rw [← h.1]; exact h1
  obtain ⟨j, hj, e⟩ := isRow_onto hr hi
  have a1 := h.2 j hj
  have a2 := hu.2 j hj
  rw [e, Int.toNat_natCast] at a1 a2
  simp only [List.getD, List.getElem?_eq_getElem h1, List.getElem?_eq_getElem h2, Option.getD_some] at a1 a2
  rw [a1, a2]

structure Rw (n : Nat) (r : List Int) : Prop where
  row : isRow r
  len : r.length = n

theorem Rw.un {n : Nat} {r : List Int} (h : Rw n r) : Rw n (un r) := ⟨isRow_undoes h.row (un_undoes h.row), by rw [(un_undoes h.row).1, h.len]⟩

theorem Rw.by {n : Nat} {a b : List Int} (ha : Rw n a) (hb : Rw n b) : Rw n (by_ a b) := ⟨isRow_by ha.row hb.row (by rw [ha.len, hb.len]), by rw [by_length, hb.len]⟩

theorem Rw.rnd (n : Nat) : Rw n (rnd n) := ⟨isRow_rnd n, rnd_length n⟩

theorem Rw.pad_un {n : Nat} (h12 : n ≤ 12) {r : List Int} (h : Rw n r) : pad (Go.Proofs.YtfngadfkopfhcaaGreatDoor.un r) = (pad r)⁻¹ := pad_undoes (by rw [h.len]; exact h12) h.row (un_undoes h.row)

theorem Rw.pad_by {n : Nat} (h12 : n ≤ 12) {a b : List Int} (ha : Rw n a) (hb : Rw n b) : pad (by_ a b) = pad a * pad b := Go.Proofs.YtfngadfkopfhcaaGreatDoor.pad_by (by rw [ha.len]; exact h12) ha.row hb.row (by rw [ha.len, hb.len])

theorem Rw.eq {n : Nat} (h12 : n ≤ 12) {a b : List Int} (ha : Rw n a) (hb : Rw n b) (h : pad a = pad b) : a = b := pad_inj (by rw [ha.len]; exact h12) ha.row hb.row (by rw [ha.len, hb.len]) h

/-- All rows that make one of another. -/
def pr (L : List (List Int)) : List (List Int) := L.flatMap (fun one => L.map (fun other => by_ other (un one)))

def stp1 (n : Nat) (acc : List (List Int)) (h : List Int) : List (List Int) := if h = rnd n ∨ h ∈ acc then acc else acc ++ [h]

def hdsTo (n : Nat) (ps : List (List Int)) : List (List Int) := ps.foldl (stp1 n) []

theorem hdsTo_snoc (n : Nat) (ps : List (List Int)) (h : List Int) : hdsTo n (ps ++ [h]) = stp1 n (hdsTo n ps) h := by simp [hdsTo, List.foldl_append]

theorem snoc_ind {α : Type} {p : List α → Prop} (h0 : p []) (h1 : ∀ l x, p l → p (l ++ [x])) (l : List α) : p l := by
  have key : ∀ r : List α, p r.reverse := fun r => by
    induction r with
    | nil => simpa using h0
    | cons x r ih => rw [List.reverse_cons]; exact h1 _ _ ih
  have := key l.reverse
  rwa [List.reverse_reverse] at this

theorem sum_const {α : Type} (c : Nat) : ∀ l : List α, (l.map (fun _ => c)).sum = l.length * c
  | [] => by simp
  | _ :: l => by rw [List.map_cons, List.sum_cons, sum_const c l, List.length_cons, Nat.succ_mul]; omega

theorem hdsTo_fact (n : Nat) (ps : List (List Int)) : (hdsTo n ps).Nodup ∧ (∀ h, h ∈ hdsTo n ps ↔ h ∈ ps ∧ h ≠ rnd n) ∧ (hdsTo n ps).length ≤ ps.length := by
  refine snoc_ind (p := fun ps => (hdsTo n ps).Nodup ∧ (∀ h, h ∈ hdsTo n ps ↔ h ∈ ps ∧ h ≠ rnd n) ∧ (hdsTo n ps).length ≤ ps.length) ?_ ?_ ps
  · exact ⟨by simp [hdsTo], by simp [hdsTo], by simp [hdsTo]⟩
  · intro ps x ih
    obtain ⟨a1, a2, a3⟩ := ih
    rw [hdsTo_snoc]
    unfold stp1
    by_cases hx : x = rnd n ∨ x ∈ hdsTo n ps
    · rw [if_pos hx]
      refine ⟨a1, fun h => ?_, by rw [List.length_append]; exact Nat.le_trans a3 (Nat.le_add_right _ _)⟩
      rw [a2 h, List.mem_append, List.mem_singleton]
      constructor
      · exact fun ⟨b1, b2⟩ => ⟨Or.inl b1, b2⟩
      · rintro ⟨b1 | rfl, b2⟩
        · exact ⟨b1, b2⟩
        · exact (a2 h).1 (hx.resolve_left b2)
    · rw [if_neg hx]
      have hx1 : x ≠ rnd n := fun e => hx (Or.inl e)
      have hx2 : x ∉ hdsTo n ps := fun e => hx (Or.inr e)
      refine ⟨List.nodup_append.2 ⟨a1, by simp, fun a ha b hb => by simp at hb; subst hb; exact fun e => hx2 (e ▸ ha)⟩, fun h => ?_, by simp; exact a3⟩
      rw [List.mem_append, a2 h, List.mem_append, List.mem_singleton]
      constructor
      · rintro (⟨b1, b2⟩ | rfl)
        · exact ⟨Or.inl b1, b2⟩
        · exact ⟨Or.inr rfl, hx1⟩
      · rintro ⟨b1 | rfl, b2⟩
        · exact Or.inl ⟨b1, b2⟩
        · exact Or.inr rfl

theorem pr_mem {L : List (List Int)} {h : List Int} : h ∈ pr L ↔ ∃ one, one ∈ L ∧ ∃ other, other ∈ L ∧ by_ other (un one) = h := by
  simp [pr, List.mem_flatMap, List.mem_map]

theorem pr_rows {n : Nat} {L : List (List Int)} (hL : ∀ r, r ∈ L → Rw n r) : ∀ h, h ∈ pr L → Rw n h := by
  intro h hh
  obtain ⟨one, h1, other, h2, rfl⟩ := pr_mem.1 hh
  exact (hL _ h2).by (hL _ h1).un

theorem pr_un {n : Nat} (h12 : n ≤ 12) {L : List (List Int)} (hL : ∀ r, r ∈ L → Rw n r) {h : List Int} (hh : h ∈ pr L) : un h ∈ pr L := by
  obtain ⟨one, h1, other, h2, rfl⟩ := pr_mem.1 hh
  refine pr_mem.2 ⟨other, h2, one, h1, ?_⟩
  have r1 := hL _ h1
  have r2 := hL _ h2
  refine Rw.eq h12 (r1.by r2.un) (r2.by r1.un).un ?_
  rw [(r2.by r1.un).pad_un h12, r1.pad_by h12 r2.un, r2.pad_by h12 r1.un, r1.pad_un h12, r2.pad_un h12, Pm.inv_prod, Pm.inv_inv]

theorem un_rnd {n : Nat} (h12 : n ≤ 12) {h : List Int} (hr : Rw n h) (e : un h = rnd n) : h = rnd n := by
  refine Rw.eq h12 hr (Rw.rnd n) ?_
  have := hr.pad_un h12
  rw [e, pad_rnd h12] at this
  rw [pad_rnd h12, ← Pm.inv_inv (pad h), ← this, Pm.inv_one]

theorem pr_length (L : List (List Int)) : (pr L).length = L.length * L.length := by
  unfold pr
  rw [List.length_flatMap]
  simp only [List.length_map]
  exact sum_const _ L

/-- The false heads of the rows of a lead. -/
def hds (n : Nat) (L : List (List Int)) : List (List Int) := hdsTo n (pr L)

end Go.Proofs.YtfngadfkopfhcaaGreatDoor

/- Contract: truth.keyOf; its maps at the operation. -/
namespace Go.Proofs.YtfngadfkopfhcaaGreatDoor
open Go.RowKit Go.Maps

theorem laidT : laidOutB Tryz.prog = true := by kernel_rfl

/-- A row as a key. -/
def kp (r : List Int) : List Int := r ++ zerosK.drop r.length

theorem kp_length {r : List Int} (h : r.length ≤ 12) : (kp r).length = 12 := by
  unfold kp
  rw [List.length_append, List.length_drop]
  have : zerosK.length = 12 := rfl
  omega

theorem kp_inj {n : Nat} {a b : List Int} (ha : a.length = n) (hb : b.length = n) (h : kp a = kp b) : a = b := by
  unfold kp at h
  have := congrArg (List.take n) h
  rwa [List.take_left' ha, List.take_left' hb] at this

theorem kp_ok {n : Nat} (h12 : n ≤ 12) {r : List Int} (h : Rw n r) : OkK .i64 (kp r) := by
  refine ⟨kp_length (by rw [h.len]; exact h12), fun z hz => ?_⟩
  unfold kp at hz
  rcases List.mem_append.1 hz with hz | hz
  · have := h.row.1 z hz
    rw [h.len] at this
    exact WalkArith.wf_i64 ⟨by omega, by omega⟩
  · have h0 : z = 0 := by
      have := List.mem_of_mem_drop hz
      simp [zerosK] at this
      exact this
    subst h0
    decide

end Go.Proofs.YtfngadfkopfhcaaGreatDoor

/- Contract: truth.repeated. -/
namespace Go.Proofs.YtfngadfkopfhcaaGreatDoor
open Go.RowKit Go.Maps

section
variable {ops : Array Oper} {rest : List Oper} {o : Oper} {a : Act} {w : World} {Q : Exit → Act → World → Prop} {K E : TypeId} {q : IntKind} {b n : Nat} {f : List Int → Option Value}

theorem wpList_klook (hg : o.guard = none) (m x : Operand) (t : TypeId) (hop : o.op = Op.lookup t m x true) (e : TypeId) (ht : Tryz.prog.underlying t = some (.map K e)) {z : Value} (hz : (zeroValue e).run Tryz.prog w = .ok z w)
    (hK : KeyT K E q) (h : KMap K q w b n f) (zs : List Int) (hzs : OkK q zs) (hm : a.eval m = .map (some b)) (hx : a.eval x = kv q zs)
    (hC : wpList Tryz.prog ops Q rest (a.put o.dst (.tuple #[(f zs).getD z, .bool (f zs).isSome])) w) : wpList Tryz.prog ops Q (o :: rest) a w := by
  refine wpList_plain hg fun K' hK' => ?_
  have hrun := h.look_ok hK ht hz hzs
  unfold Oper.wp
  simp [execOp, hop, hm, hx, hrun, Result.andThen]
  exact hK' _ _ hC

theorem wpList_kput (hg : o.guard = none) (m x v : Operand) (t : TypeId) (hop : o.op = Op.mapUpdate t m x v) (e : TypeId) (ht : Tryz.prog.underlying t = some (.map K e))
    (hK : KeyT K E q) (h : KMap K q w b n f) (hn : n < maxLen) (zs : List Int) (hzs : OkK q zs) (val : Value) (hm : a.eval m = .map (some b)) (hx : a.eval x = kv q zs) (hv : a.eval v = val)
    (hC : ∀ w', KMap K q w' b (n + 1) (kupd f zs val) → w.grownBy w' (some b) → wpList Tryz.prog ops Q rest (a.put o.dst undef) w') : wpList Tryz.prog ops Q (o :: rest) a w := by
  refine wpList_plain hg fun K' hK' => ?_
  obtain ⟨w', hrun, r1, r2⟩ := h.put hK ht hn hzs val
  unfold Oper.wp
  simp [execOp, hop, hm, hx, hv, hrun, Result.andThen]
  exact hK' _ _ (hC w' r1 r2)

theorem wpList_kinsert (hg : o.guard = none) (m x v : Operand) (t : TypeId) (hop : o.op = Op.insert t m x v) (e : TypeId) (ht : Tryz.prog.underlying t = some (.map K e))
    (hK : KeyT K E q) (h : KMap K q w b n f) (hn : n < maxLen) (zs : List Int) (hzs : OkK q zs) (val : Value) (hm : a.eval m = .map (some b)) (hx : a.eval x = kv q zs) (hv : a.eval v = val)
    (hC : ∀ w', KMap K q w' b (n + 1) (kupd f zs val) → w.grownBy w' (some b) → wpList Tryz.prog ops Q rest (a.put o.dst undef) w') : wpList Tryz.prog ops Q (o :: rest) a w := by
  refine wpList_plain hg fun K' hK' => ?_
  obtain ⟨w', hrun, r1, r2⟩ := h.put hK ht hn hzs val
  unfold Oper.wp
  simp [execOp, hop, hm, hx, hv, hrun, Result.andThen]
  exact hK' _ _ (hC w' r1 r2)
end

theorem KMap.kept {K : TypeId} {q : IntKind} {w w' : World} {b n g : Nat} {f : List Int → Option Value} (h : KMap K q w b n f) (hg : w.grownBy w' (some g)) (hne : b ≠ g) : KMap K q w' b n f := h.of_block (hg.block b h.lt (fun e => hne (Option.some.inj e)))

/-- What the loop knows of the rows that it has seen. -/
structure Seen (n : Nat) (L : List (List Int)) (k : Nat) (f : List Int → Option Value) : Prop where
  old : ∀ x, Rw n x → ((f (kp x)).isSome = true ↔ x ∈ L.take k)
  nodup : (L.take k).Nodup
  ints : ∀ zs v, f zs = some v → ∃ i, v = .int .i64 i

theorem seen_next {n k : Nat} {L : List (List Int)} {f : List Int → Option Value} (h : Seen n L k f) (hk : k < L.length) (hr : Rw n (L.getD k [])) (hn : f (kp (L.getD k [])) = none) (j : Int) : Seen n L (k + 1) (kupd f (kp (L.getD k [])) (.int .i64 j)) := by
  have ht : L.take (k + 1) = L.take k ++ [L.getD k []] := by
    rw [List.take_add_one, List.getElem?_eq_getElem hk]; simp [List.getD, List.getElem?_eq_getElem hk]
  have hnot : L.getD k [] ∉ L.take k := fun hm => by
    have := (h.old _ hr).2 hm
    rw [hn] at this
    cases this
  refine ⟨fun x hx => ?_, ?_, fun zs v hv => ?_⟩
  · rw [ht, List.mem_append, List.mem_singleton]
    unfold kupd
    by_cases e : kp x = kp (L.getD k [])
    · rw [if_pos e]
      have : x = L.getD k [] := kp_inj hx.len hr.len e
      simp [this]
    · rw [if_neg e, h.old x hx]
      exact ⟨Or.inl, fun h1 => h1.resolve_right (fun h2 => e (by rw [h2]))⟩
  · rw [ht]
    exact List.nodup_append.2 ⟨h.nodup, by simp, fun a ha b hb e => by rw [List.mem_singleton] at hb; rw [e, hb] at ha; exact hnot ha⟩
  · unfold kupd at hv
    by_cases e : zs = kp (L.getD k [])
    · rw [if_pos e] at hv; exact ⟨j, (Option.some.inj hv).symm⟩
    · rw [if_neg e] at hv; exact h.ints zs v hv

def RepPost (L : List (List Int)) (w : World) (e : Ending) (w' : World) : Prop :=
  ∃ (i j : Int) (t : Bool), e = .returned (.tuple #[.int .i64 i, .int .i64 j, .bool t]) ∧ (t = false ↔ L.Nodup) ∧ Below w.heap.size w w'

end Go.Proofs.YtfngadfkopfhcaaGreatDoor

/- Contract: truth.between. -/
namespace Go.Proofs.YtfngadfkopfhcaaGreatDoor
open Go.RowKit Go.Maps

theorem KMap.obj {K : TypeId} {q : IntKind} {w : World} {b n : Nat} {f : List Int → Option Value} (h : KMap K q w b n f) : ∃ es clock, w.heap[b]? = some (.map es clock) := by
  obtain ⟨D, ⟨es, c, h1, _⟩, _⟩ := h; exact ⟨es, c, h1⟩

theorem owns_kmap {K : TypeId} {q : IntKind} {w w' : World} {base e size n m k : Nat} {v : Value} {xs : List Value} {f : List Int → Option Value} (h : w.ownsRow base e size v n xs) (hm : KMap K q w m k f) (hg : w.grownBy w' (some m)) : w'.ownsRow base e size v n xs := by
  refine ⟨h.1, ?_⟩
  rcases h.2 with h2 | ⟨g, cap, cur, hv, hgg, hh, r⟩
  · exact Or.inl h2
  · refine Or.inr ⟨g, cap, cur, hv, hgg, ?_, r⟩
    rw [hg.block g (Array.getElem?_eq_some_iff.1 hh).1 (fun e' => ?_)]
    · exact hh
    · obtain ⟨es, c, ho⟩ := hm.obj
      injection e' with e'
      rw [← e', hh] at ho
      cases ho

theorem LL.kmap {K : TypeId} {q : IntKind} {w w' : World} {base m k : Nat} {v : Value} {vs : List Value} {xss : List (List Int)} {f : List Int → Option Value} (h : LL w base v vs xss) (hm : KMap K q w m k f) (hg : w.grownBy w' (some m)) : LL w' base v vs xss :=
  ⟨owns_kmap h.row hm hg, h.all.mono (fun _ _ _ h' => owns_kmap h' hm hg)⟩

theorem KMap.row {K : TypeId} {q : IntKind} {w w' : World} {base e size n m k : Nat} {v : Value} {xs : List Value} {f : List Int → Option Value} (hm : KMap K q w m k f) (h : w.ownsRow base e size v n xs) (hg : w.grownBy w' v.ownBlock) : KMap K q w' m k f := by
  refine hm.of_block (hg.block m hm.lt (fun e' => ?_))
  rcases h.2 with ⟨h2, _⟩ | ⟨g, cap, cur, hv, hgg, hh, r⟩
  · rw [h2] at e'; cases e'
  · rw [hv] at e'
    have e2 : g = m := by cases e'; rfl
    obtain ⟨es, c, ho⟩ := hm.obj
    rw [← e2, hh] at ho
    cases ho

/-- What the map tells. -/
def FS (n : Nat) (acc : List (List Int)) (f : List Int → Option Value) : Prop := ∀ x, Rw n x → ((f (kp x)).isSome = true ↔ x = rnd n ∨ x ∈ acc)

theorem FS.add {n : Nat} {acc : List (List Int)} {f : List Int → Option Value} (h : FS n acc f) {r : List Int} (hr : Rw n r) (v : Value) : FS n (acc ++ [r]) (kupd f (kp r) v) := by
  intro x hx
  unfold kupd
  by_cases e : kp x = kp r
  · rw [if_pos e]
    have : x = r := kp_inj hx.len hr.len e
    subst this
    simp
  · rw [if_neg e, h x hx, List.mem_append, List.mem_singleton]
    constructor
    · rintro (h1 | h1)
      · exact Or.inl h1
      · exact Or.inr (Or.inl h1)
    · rintro (h1 | h1 | h1)
      · exact Or.inl h1
      · exact Or.inr h1
      · exact absurd (by rw [h1]) e

theorem FS.start {n : Nat} (v : Value) : FS n [] (kupd (fun _ => none) (kp (rnd n)) v) := by
  intro x hx
  unfold kupd
  by_cases e : kp x = kp (rnd n)
  · rw [if_pos e]
    have : x = rnd n := kp_inj hx.len (rnd_length n) e
    simp [this]
  · rw [if_neg e]
    constructor
    · intro h; cases h
    · rintro (rfl | h)
      · exact absurd rfl e
      · cases h

theorem flat_get {α β : Type} (F : α → List β) (k : Nat) (hF : ∀ a, (F a).length = k) : ∀ (l : List α) (p q : Nat) (hp : p < l.length), q < k → (l.flatMap F)[p * k + q]? = (F l[p])[q]?
  | [], p, q, hp, _ => absurd hp (Nat.not_lt_zero _)
  | a :: l, 0, q, _, hq => by
    rw [List.flatMap_cons, Nat.zero_mul, Nat.zero_add, List.getElem?_append_left (by rw [hF]; exact hq)]
    rfl
  | a :: l, p + 1, q, hp, hq => by
    rw [List.flatMap_cons, List.getElem?_append_right (by rw [hF, Nat.succ_mul]; omega), hF, show (p + 1) * k + q - k = p * k + q from by rw [Nat.succ_mul]; omega]
    exact flat_get F k hF l p q (by simpa using hp) hq

theorem pr_next {L : List (List Int)} {p q : Nat} (hp : p < L.length) (hq : q < L.length) : (pr L).take (p * L.length + q + 1) = (pr L).take (p * L.length + q) ++ [by_ (L.getD q []) (un (L.getD p []))] := by
  have h : (pr L)[p * L.length + q]? = some (by_ (L.getD q []) (un (L.getD p []))) := by
    unfold pr
    rw [flat_get _ L.length (fun a => List.length_map _) L p q hp hq, List.getElem?_map, List.getElem?_eq_getElem hq]
    simp [List.getD, List.getElem?_eq_getElem hq, List.getElem?_eq_getElem hp]
  rw [List.take_add_one, h]
  rfl

end Go.Proofs.YtfngadfkopfhcaaGreatDoor

/- Contract: truth.between. -/
namespace Go.Proofs.YtfngadfkopfhcaaGreatDoor
open Go.RowKit Go.Maps

def BetPost (n : Nat) (L : List (List Int)) (w : World) (e : Ending) (w' : World) : Prop := ∃ u vs, e = .returned u ∧ LL w' w.heap.size u vs (hds n L) ∧ Below w.heap.size w w'

end Go.Proofs.YtfngadfkopfhcaaGreatDoor

/- Contract: ChangeOf. -/
namespace Go.Proofs.YtfngadfkopfhcaaGreatDoor
open Go.RowKit

set_option maxRecDepth 20000 in
set_option maxHeartbeats 2000000 in
theorem changeOf_ok (c : Int) (n : Nat) (w : World) (hc : I64 c) (h1 : 1 ≤ n) (h2 : n ≤ 12) :
    Calls Tryz.prog 69 #[.int .i64 c, .int .i64 n] w fun e w' => ∃ v t, e = .returned v ∧ tsz t = n ∧ w'.ownsRow w.heap.size 3 1 v (tpl t).length ((tpl t).map (Value.int .i64)) ∧ Below w.heap.size w w' := by
  obtain ⟨i0, hi, hz0, hz1, hz2⟩ := info_parts Tryz.info3
  obtain ⟨l0, u0⟩ := hc
  go_enter Tryz.func69, Tryz.ntmps69
  go_wp2_with fail
  refine (pick_any _ _ _ l0 u0 (by omega) (by omega)).mono ?_
  rintro e wa ⟨q0, hq0, hq1, rfl, rfl⟩
  clear l0 u0
  go_wp2
  go_loopw [0, 5, 6] (fun c v a wr => ∃ (q : Int) (t : List Bool), 0 ≤ q ∧ q < 1099511627776 ∧ tsz t ≤ n ∧ c = .int .i64 q ∧ a = .int .i64 ((tsz t + 1 : Nat) : Int) ∧ wr.ownsRow w.heap.size 3 1 v (tpl t).length ((tpl t).map (Value.int .i64)) ∧ Below w.heap.size w wr) (fun _ _ a _ => n + 1 - (intOf a).toNat)
  case atStart => exact ⟨q0, [], hq0, hq1, Nat.zero_le _, rfl, rfl, World.ownsRow_nil _ _ _ _, Below.refl _ _⟩
  case round =>
    obtain ⟨q, t, hq0, hq1, hts, rfl, rfl, hown, hbw⟩ := hrel
    have hbs := hbw.size
    have htl : (tpl t).length ≤ tsz t := by have := tpl_length t; omega
    by_cases hlt : tsz t + 1 ≤ n
    · have hq3 : 0 ≤ q / 3 := by omega
      have hq4 : q / 3 < 1099511627776 := by omega
      have HT1 : Hid (tpl (true :: t) = tpl t ++ [((tsz t + 1 : Nat) : Int)]) := rfl
      have HT2 : Hid (tsz (true :: t) = tsz t + 1) := rfl
      by_cases hc : q % 3 = 0 ∨ tsz t + 1 = n
      · have hstep : ∀ (W : World) (v' : Value), W.ownsRow w.heap.size 3 1 v' ((tpl t).length + 1) ((tpl t).map (Value.int .i64) ++ [Value.int .i64 ((tsz t + 1 : Nat) : Int)]) → W.ownsRow w.heap.size 3 1 v' (tpl (true :: t)).length ((tpl (true :: t)).map (Value.int .i64)) := by
          intro W v' h
          rw [HT1.out, List.length_append, List.map_append]
          exact h
        have HST := hide hstep
        clear hstep
        by_cases hc1 : q % 3 = 0
        · have hd1 : (q % 3 == 0) = true := by simpa using hc1
          clear hc hc1
          go_wp2_with (at_builtin; refine wpList_append_own _ rfl _ _ 30 rfl w.heap.size 3 i0 (.int .i64 0) 1 8 Tryz.underlying30 hi hz0 hz1 hz2 rfl (by decide) _ _ _ rfl (hown.alloc _) ⟨wr.heap.size, 0, none⟩ 1 1 [.int .i64 ((tsz t + 1 : Nat) : Int)] rfl rfl ?c1 ?c2 ?c3 ?c4 ?c5 ?_)
          case c1 => exact cell_one_new _ _ _
          case c2 => intro u hu; simp at hu; subst hu; rfl
          case c3 => unfold maxLen; omega
          case c4 => omega
          case c5 => simp; omega
          · intro v' w1 hown' hgrow _
            go_wp2
            go_roundw
            case rel => exact ⟨q / 3, true :: t, hq3, hq4, by rw [HT2.out]; omega, by go_num, by rw [HT2.out]; go_num, HST.out _ _ hown', (hbw.alloc hbw.size _).grown hgrow (by simp; omega) (fun g hg => (hown.lt g hg).1)⟩
            case measure => simp [intOf]; omega
        · have hd1 : (q % 3 == 0) = false := by simpa using hc1
          have hc2 : tsz t + 1 = n := by rcases hc with h | h; exact absurd h hc1; exact h
          have hd2 : (((tsz t + 1 : Nat) : Int) == (n : Int)) = true := by rw [hc2]; simp
          clear hc hc1 hc2
          go_wp2_with (at_builtin; refine wpList_append_own _ rfl _ _ 30 rfl w.heap.size 3 i0 (.int .i64 0) 1 8 Tryz.underlying30 hi hz0 hz1 hz2 rfl (by decide) _ _ _ rfl (hown.alloc _) ⟨wr.heap.size, 0, none⟩ 1 1 [.int .i64 ((tsz t + 1 : Nat) : Int)] rfl rfl ?c1 ?c2 ?c3 ?c4 ?c5 ?_)
          case c1 => exact cell_one_new _ _ _
          case c2 => intro u hu; simp at hu; subst hu; rfl
          case c3 => unfold maxLen; omega
          case c4 => omega
          case c5 => simp; omega
          · intro v' w1 hown' hgrow _
            go_wp2
            go_roundw
            case rel => exact ⟨q / 3, true :: t, hq3, hq4, by rw [HT2.out]; omega, by go_num, by rw [HT2.out]; go_num, HST.out _ _ hown', (hbw.alloc hbw.size _).grown hgrow (by simp; omega) (fun g hg => (hown.lt g hg).1)⟩
            case measure => simp [intOf]; omega
      · have hd1 : (q % 3 == 0) = false := by simp; omega
        have hd2 : (((tsz t + 1 : Nat) : Int) == (n : Int)) = false := by rw [beq_eq_false_iff_ne]; omega
        have hl2 : tsz t + 2 ≤ n := by omega
        have HT3 : Hid (tsz (false :: t) = tsz t + 2) := rfl
        clear hc
        go_wp2
        go_roundw
        case rel => exact ⟨q / 3, false :: t, hq3, hq4, by rw [HT3.out]; omega, by go_num, by rw [HT3.out]; go_num, hown, hbw⟩
        case measure => simp [intOf]; omega
    · go_wp2
      go_ret
      exact ⟨_, t, rfl, by omega, hown, hbw⟩

end Go.Proofs.YtfngadfkopfhcaaGreatDoor
