/- Joined: KoE, KoH, KoI, KoJ, KoK, KoL, ExD, GMay, May, ExE, ExF, ExG, ExH. -/
import Derived.Test.YtahffpgadoiijaaGreatJ10
import Derived.Test.YtahffpgadoiijaaGreatJ1
import Derived.Test.YtahffpgadoiijaaGreatJ5
import Derived.Test.YtahffpgadoiijaaGreatJ6
import Derived.RegionTactic
import Derived.BigRegion
import Derived.Deep.QuietTactic
import Derived.BigQuiet
import Derived.Test.YtahffpgadoiijaaGreatJ4
import Derived.Test.YtahffpgadoiijaaGreatJ9
import Derived.Test.YtahffpgadoiijaaGreatJ7
/- Contract: colour.know: a colouring and all that are alike are made known. -/
namespace Go.Proofs.YtahffpgadoiijaaGreat
open Go.RowKit

/-- A colouring's colours. -/
def colD (n c k : Nat) : List Nat := (List.range n).map (fun i => (k / c ^ (n - 1 - i)) % c)

theorem colD_length (n c k : Nat) : (colD n c k).length = n := by unfold colD; simp

theorem colD_natI (n c k : Nat) : natI (colD n c k) = colL n c k := by unfold natI colD colL; rw [List.map_map]; rfl

theorem colD_lt {n c k : Nat} (hc : 1 ≤ c) : ∀ x, x ∈ colD n c k → x < c := fun x hx => by
  obtain ⟨i, _, rfl⟩ := List.mem_map.1 hx
  exact Nat.mod_lt _ (by omega)

/-- Where a generator leads from a colouring. -/
def stp (n c : Nat) (x : List Int) (k : Nat) : Nat := numC c (trn (colD n c k) x) 0

theorem stp_lt {n c k : Nat} {x : List Int} (hc : 1 ≤ c) (hl : x.length = n) : stp n c x k < c ^ n := by
  have h9 := numC_lt (trn (colD n c k) x) (trn_lt hc (colD_lt hc))
  unfold trn at h9
  rw [List.length_map, hl] at h9
  exact h9

/-- What generators lead to. -/
inductive Rch (n c : Nat) (gss : List (List Int)) (k : Nat) : Nat → Prop
  | refl : Rch n c gss k k
  | step {m : Nat} {x : List Int} : Rch n c gss k m → x ∈ gss → Rch n c gss k (stp n c x m)

/-- What know has found. -/
structure Knw (n c : Nat) (gss : List (List Int)) (k : Nat) (f : Nat → Bool) (L : List Nat) : Prop where
  nodup : L.Nodup
  rch : ∀ m, m ∈ L → Rch n c gss k m
  lt : ∀ m, m ∈ L → m < c ^ n
  first : L[0]? = some k
  new : ∀ m, m ∈ L → f m = false

/-- .. and is all. -/
def KnwPost (n c : Nat) (gss : List (List Int)) (k D : Nat) (f : Nat → Bool) (w : World) (e : Ending) (w' : World) : Prop :=
  ∃ L, e = .returned (.tuple #[]) ∧ Knw n c gss k f L ∧ Dn w' D (c ^ n) (fun m => f m || decide (m ∈ L)) ∧ (∀ m, m ∈ L → ∀ x, x ∈ gss → (f (stp n c x m) || decide (stp n c x m ∈ L)) = true) ∧ Frm w.heap.size D D w w'

theorem Knw.len {n c : Nat} {gss : List (List Int)} {k : Nat} {f : Nat → Bool} {L : List Nat} (h : Knw n c gss k f L) : L.length ≤ c ^ n := by
  have h9 := nodup_len L (List.range (c ^ n)) h.nodup (fun x hx => List.mem_range.2 (h.lt x hx))
  rwa [List.length_range] at h9

theorem Knw.more {n c : Nat} {gss : List (List Int)} {k m : Nat} {f : Nat → Bool} {L : List Nat} {x : List Int} (h : Knw n c gss k f L) (hc : 1 ≤ c) (hx : x ∈ gss) (hl : x.length = n) (hm : m ∈ L) (hn : (f (stp n c x m) || decide (stp n c x m ∈ L)) = false) : Knw n c gss k f (L ++ [stp n c x m]) := by
  have hf : f (stp n c x m) = false := by cases h9 : f (stp n c x m) with
    | false => rfl
    | true => rw [h9] at hn; simp at hn
  have hnl : ¬ stp n c x m ∈ L := fun h9 => by rw [decide_eq_true h9] at hn; simp at hn
  refine ⟨?_, fun y hy => ?_, fun y hy => ?_, ?_, fun y hy => ?_⟩
  · rw [List.nodup_append]
    exact ⟨h.nodup, by simp, fun y hy z hz e => hnl (by rw [← List.mem_singleton.1 hz, ← e]; exact hy)⟩
  · rcases List.mem_append.1 hy with hy | hy
    · exact h.rch y hy
    · rw [List.mem_singleton.1 hy]; exact Rch.step (h.rch m hm) hx
  · rcases List.mem_append.1 hy with hy | hy
    · exact h.lt y hy
    · rw [List.mem_singleton.1 hy]; exact stp_lt hc hl
  · rw [List.getElem?_append_left (List.getElem?_eq_some_iff.1 h.first).1]; exact h.first
  · rcases List.mem_append.1 hy with hy | hy
    · exact h.new y hy
    · rw [List.mem_singleton.1 hy]; exact hf

/-- know's memory. -/
structure KR (w wr : World) (D A : Nat) (v : Value) (f : Nat → Bool) (L : List Nat) : Prop where
  known : Dn wr D A (fun m => f m || decide (m ∈ L))
  row : wr.ownsRow w.heap.size 3 1 v L.length ((natI L).map (Value.int .i64))
  frm : Frm w.heap.size D D w wr

theorem KR.later {w wr w' : World} {D A : Nat} {v : Value} {f : Nat → Bool} {L : List Nat} (hD : D < w.heap.size) (h : KR w wr D A v f L) (hb : Below wr.heap.size wr w') : KR w w' D A v f L :=
  ⟨h.known.of_block (hb.block D (Nat.lt_of_lt_of_le hD h.frm.size)), owns_below h.row hb (Nat.le_refl _), h.frm.trans (Frm.of_below hb h.frm.size)⟩

theorem KR.more {w wr w' : World} {D A m : Nat} {v v' : Value} {f : Nat → Bool} {L : List Nat} {o : Obj} (hD : D < w.heap.size) (h : KR w wr D A v f L) (hown : w'.ownsRow w.heap.size 3 1 v' (L.length + 1) ((natI L).map (Value.int .i64) ++ [.int .i64 (m : Int)])) (hg : ((wr.setCell ⟨D, m, none⟩ (.bool true)).alloc o).grownBy w' v.ownBlock) : KR w w' D A v' f (L ++ [m]) := by
  have hs := h.frm.size
  have hsz : (wr.setCell ⟨D, m, none⟩ (.bool true)).heap.size = wr.heap.size := by simp [World.setCell]
  refine ⟨?_, ?_, ?_⟩
  · have h1 : Dn ((wr.setCell ⟨D, m, none⟩ (.bool true)).alloc o) D A _ := (h.known.set (m := m) true).of_block (Below.heap_alloc _ o D (by rw [hsz]; omega))
    refine (h1.of_block (hg.block D (by simp; omega) (fun e => by have := (h.row.lt _ e.symm).1; omega))).congr (fun i _ => ?_)
    by_cases e : i = m
    · subst e; simp
    · rw [if_neg e]; simp [e]
  · rw [List.length_append, List.length_singleton]
    unfold natI at hown ⊢
    rw [List.map_append, List.map_append]
    exact hown
  · exact ((h.frm.set m (.bool true)).trans (Frm.of_below ((Below.refl _ _).alloc (Nat.le_refl _) o) (by rw [hsz]; exact hs))).grown hg (by simp; omega) (fun x hx => Or.inl (h.row.lt x hx).1)

end Go.Proofs.YtahffpgadoiijaaGreat

/- Plain: rows act on colourings; the first of those that are alike. -/
namespace Go.Proofs.YtahffpgadoiijaaGreat

theorem numC_add (c : Nat) : ∀ (l : List Nat) (a : Nat), numC c l a = a * c ^ l.length + numC c l 0
  | [], a => by simp [numC]
  | x :: l, a => by
    show numC c l (a * c + x) = a * c ^ (l.length + 1) + numC c l (0 * c + x)
    rw [numC_add c l (a * c + x), numC_add c l (0 * c + x), Nat.pow_succ, Nat.add_mul, Nat.zero_mul, Nat.zero_add, Nat.mul_assoc, Nat.mul_comm c, Nat.add_assoc]

theorem numC_cons (c x : Nat) (l : List Nat) : numC c (x :: l) 0 = x * c ^ l.length + numC c l 0 := by
  show numC c l (0 * c + x) = _
  rw [numC_add, Nat.zero_mul, Nat.zero_add]

theorem colD_snoc (n c k : Nat) : colD (n + 1) c k = colD n c (k / c) ++ [k % c] := by
  unfold colD
  rw [List.range_succ, List.map_append]
  congr 1
  · refine List.map_congr_left (fun i hi => ?_)
    have hi' := List.mem_range.1 hi
    rw [show n + 1 - 1 - i = (n - 1 - i) + 1 by omega, Nat.pow_succ, Nat.mul_comm, ← Nat.div_div_eq_div_mul]
  · simp

theorem colD_numC {c : Nat} : ∀ (n : Nat) (P : List Nat), P.length = n → (∀ x, x ∈ P → x < c) → colD n c (numC c P 0) = P := by
  intro n
  induction n with
  | zero =>
    intro P hl _
    rw [List.length_eq_zero_iff.1 hl]
    rfl
  | succ n ih =>
    intro P hl hP
    rcases List.eq_nil_or_concat P with e | ⟨Q, x, e⟩
    · rw [e] at hl; cases hl
    · rw [List.concat_eq_append] at e
      rw [e] at hl hP ⊢
      have hx : x < c := hP x (by simp)
      have hc : 0 < c := by omega
      have hl' : Q.length = n := by simpa using hl
      rw [numC_snoc, colD_snoc, Nat.mul_comm, Nat.mul_add_div hc, Nat.div_eq_of_lt hx, Nat.add_zero, Nat.mul_add_mod, Nat.mod_eq_of_lt hx, ih Q hl' (fun y hy => hP y (by simp [hy]))]

theorem numC_colD {c : Nat} : ∀ (n k : Nat), k < c ^ n → numC c (colD n c k) 0 = k := by
  intro n
  induction n with
  | zero => intro k hk; rw [Nat.pow_zero] at hk; obtain rfl : k = 0 := by omega
            rfl
  | succ n ih =>
    intro k hk
    have hc : 0 < c := by
      rcases Nat.eq_zero_or_pos c with e | e
      · rw [e, Nat.zero_pow (by omega)] at hk; omega
      · exact e
    rw [colD_snoc, numC_snoc, ih (k / c) (by rw [Nat.div_lt_iff_lt_mul hc, ← Nat.pow_succ]; exact hk), Nat.mul_comm]
    exact Nat.div_add_mod k c

theorem trn_length (P : List Nat) (x : List Int) : (trn P x).length = x.length := by unfold trn; rw [List.length_map]

theorem colD_stp {n c k : Nat} {x : List Int} (hc : 1 ≤ c) (hl : x.length = n) : colD n c (stp n c x k) = trn (colD n c k) x :=
  colD_numC n _ (by rw [trn_length]; exact hl) (trn_lt hc (colD_lt hc))

theorem trn_trn {P : List Nat} {x y : List Int} (hr : isRow y) (hl : y.length = x.length) : trn (trn P x) y = trn P (by_ x y) := by
  unfold trn by_
  rw [List.map_map]
  refine List.map_congr_left (fun j hj => ?_)
  have h1 := hr.1 j hj
  have h2 : j.toNat < x.length := by omega
  show (x.map _).getD j.toNat 0 = P.getD (x.getD j.toNat 0).toNat 0
  simp only [List.getD, List.getElem?_map, List.getElem?_eq_getElem h2]
  rfl

theorem stp_by {n c k : Nat} {x y : List Int} (hc : 1 ≤ c) (hx : x.length = n) (hr : isRow y) (hy : y.length = n) : stp n c (by_ x y) k = stp n c y (stp n c x k) := by
  show numC c (trn (colD n c k) (by_ x y)) 0 = numC c (trn (colD n c (stp n c x k)) y) 0
  rw [colD_stp hc hx, trn_trn hr (by rw [hx, hy])]

theorem stp_rnd {n c k : Nat} (hk : k < c ^ n) : stp n c (rnd n) k = k := by
  show numC c (trn (colD n c k) (rnd n)) 0 = k
  have e : trn (colD n c k) (rnd n) = colD n c k := by
    refine List.ext_getElem? (fun i => ?_)
    unfold trn rnd
    rw [List.map_map, List.getElem?_map]
    by_cases hi : i < n
    · rw [List.getElem?_range hi, Option.map_some]
      show some ((colD n c k).getD ((i : Nat) : Int).toNat 0) = _
      rw [Int.toNat_natCast, List.getD, List.getElem?_eq_getElem (by rw [colD_length]; exact hi)]
      rfl
    · rw [List.getElem?_eq_none (by rw [List.length_range]; omega), List.getElem?_eq_none (by rw [colD_length]; omega)]
      rfl
  rw [e, numC_colD n k hk]

theorem cut_rnd {n : Nat} (h12 : n ≤ 12) : cut n 1 = rnd n := by
  have := cut_pad h12 (rnd_length n) (isRow_rnd n)
  rwa [pad_rnd h12] at this

theorem cut_mul {n : Nat} {x y : Pm} (h12 : n ≤ 12) (hx : Fixes (fun b => n ≤ b) x) (hy : Fixes (fun b => n ≤ b) y) : cut n (x * y) = by_ (cut n x) (cut n y) := by
  rw [by_cut h12 hx (cut_row h12 hy) (cut_length h12 y), pad_cut h12 hy]

/-- A group's rows act on colourings. -/
def sC (n c : Nat) (x : Pm) (k : Nat) : Nat := stp n c (cut n x) k

theorem acts_all {n c : Nat} {G : Pm → Prop} {X : List Pm} (h12 : n ≤ 12) (hc : 1 ≤ c) (hG : Sub G) (hf : ∀ x, G x → Fixes (fun b => n ≤ b) x) (hX : X.Nodup) (hm : ∀ x, x ∈ X ↔ G x) {O : List Nat} (hO : O.Nodup) (hlt : ∀ k, k ∈ O → k < c ^ n) (hcl : ∀ x k, G x → k ∈ O → sC n c x k ∈ O) :
    Acts X (fun x y => x * y) 1 (fun x => x⁻¹) (sC n c) O := by
  have hmul : ∀ x y k, G x → G y → sC n c (x * y) k = sC n c y (sC n c x k) := fun x y k hx hy => by
    unfold sC
    rw [cut_mul h12 (hf x hx) (hf y hy), stp_by hc (cut_length h12 x) (cut_row h12 (hf y hy)) (cut_length h12 y)]
  have hone : ∀ k, k < c ^ n → sC n c 1 k = k := fun k hk => by unfold sC; rw [cut_rnd h12, stp_rnd hk]
  refine ⟨hX, (hm 1).2 hG.one, fun x y hx hy => (hm _).2 (hG.mul ((hm x).1 hx) ((hm y).1 hy)), fun x hx => (hm _).2 (hG.inv ((hm x).1 hx)), fun h x y e => Pm.mul_cancel e, hO, fun x k hx hk => hcl x k ((hm x).1 hx) hk, fun k hk => hone k (hlt k hk), fun x y k hx hy _ => hmul x y k ((hm x).1 hx) ((hm y).1 hy), fun x k hx hk => ?_⟩
  show sC n c x⁻¹ (sC n c x k) = k
  rw [← hmul x x⁻¹ k ((hm x).1 hx) (hG.inv ((hm x).1 hx)), Pm.mul_inv, hone k (hlt k hk)]

/-! what generators lead to is what the group leads to -/

theorem Rch.head {n c k m : Nat} {gss : List (List Int)} {x : List Int} (hx : x ∈ gss) (h : Rch n c gss (stp n c x k) m) : Rch n c gss k m := by
  induction h with
  | refl => exact Rch.step Rch.refl hx
  | step _ hy ih => exact Rch.step ih hy

theorem Rch.lt {n c k m : Nat} {gss : List (List Int)} (hc : 1 ≤ c) (hR : RowsN n gss) (hk : k < c ^ n) (h : Rch n c gss k m) : m < c ^ n := by
  cases h with
  | refl => exact hk
  | step _ hx => exact stp_lt hc (hR _ hx).2

theorem gen_fixes {n : Nat} {gss : List (List Int)} (h12 : n ≤ 12) (hR : RowsN n gss) : ∀ x, Gen (fun y => y ∈ gss.map pad) x → Fixes (fun b => n ≤ b) x := fun x hx =>
  hx.least (fixes_sub _) (fun s hs => by
    obtain ⟨g, hg, rfl⟩ := List.mem_map.1 hs
    exact pad_fixes h12 (hR g hg).2 (hR g hg).1)

theorem rch_iff {n c k m : Nat} {gss : List (List Int)} (h12 : n ≤ 12) (hc : 1 ≤ c) (hR : RowsN n gss) (hk : k < c ^ n) : Rch n c gss k m ↔ ∃ x, Gen (fun y => y ∈ gss.map pad) x ∧ sC n c x k = m := by
  constructor
  · intro h
    induction h with
    | refl => exact ⟨1, Gen.one, by unfold sC; rw [cut_rnd h12, stp_rnd hk]⟩
    | step hp hy ih =>
      rename_i q y
      obtain ⟨x, hx, e⟩ := ih
      have hry := hR y hy
      refine ⟨x * pad y, hx.mul' (Gen.of (List.mem_map.2 ⟨y, hy, rfl⟩)), ?_⟩
      unfold sC at e ⊢
      rw [← by_cut h12 (gen_fixes h12 hR x hx) hry.1 hry.2, stp_by hc (cut_length h12 x) hry.1 hry.2, e]
  · rintro ⟨x, hx, rfl⟩
    induction hx generalizing k with
    | one => unfold sC; rw [cut_rnd h12, stp_rnd hk]; exact Rch.refl
    | mul hs hx ih =>
      rename_i s x
      obtain ⟨g, hg, rfl⟩ := List.mem_map.1 hs
      have hrg := hR g hg
      have hfx := gen_fixes h12 hR x hx
      have e : sC n c (pad g * x) k = sC n c x (stp n c g k) := by
        unfold sC
        rw [cut_mul h12 (pad_fixes h12 hrg.2 hrg.1) hfx, cut_pad h12 hrg.2 hrg.1, stp_by hc hrg.2 (cut_row h12 hfx) (cut_length h12 x)]
      rw [e]
      exact Rch.head hg (ih (stp_lt hc hrg.2))

/-- A colouring to which none ahead leads is the first. -/
theorem first_iff {n c k : Nat} {gss : List (List Int)} {X : List Pm} (h12 : n ≤ 12) (hc : 1 ≤ c) (hR : RowsN n gss) (hX : X.Nodup) (hm : ∀ x, x ∈ X ↔ Gen (fun y => y ∈ gss.map pad) x) (hk : k < c ^ n) : frst X (sC n c) k = true ↔ ¬ ∃ m, m < k ∧ Rch n c gss m k := by
  have HA := acts_all h12 hc (Gen.sub _) (gen_fixes h12 hR) hX hm (O := List.range (c ^ n)) List.nodup_range (fun k hk => List.mem_range.1 hk) (fun x k hx _ => List.mem_range.2 (stp_lt hc (cut_length h12 x)))
  rw [frst_iff]
  constructor
  · rintro h ⟨m, hm1, hm2⟩
    obtain ⟨x, hx, e⟩ := (rch_iff h12 hc hR (by omega)).1 hm2
    have h2 := h x⁻¹ ((hm _).2 hx.inv)
    have h3 := HA.s_inv x m ((hm x).2 hx) (List.mem_range.2 (by omega))
    rw [e] at h3
    omega
  · intro h x hx
    refine Classical.byContradiction (fun hlt => h ⟨sC n c x k, by omega, ?_⟩)
    have hx' := (hm x).1 hx
    refine (rch_iff h12 hc hR (stp_lt hc (cut_length h12 x))).2 ⟨x⁻¹, hx'.inv, ?_⟩
    exact HA.s_inv x k hx (List.mem_range.2 hk)

/-! the answer's order is the numbers' own -/

theorem blw_num {c : Nat} : ∀ (P Q : List Nat), P.length = Q.length → (∀ x, x ∈ P → x < c) → (∀ x, x ∈ Q → x < c) → blw (natI P) (natI Q) = decide (numC c P 0 < numC c Q 0)
  | [], [], _, _, _ => rfl
  | [], _ :: _, h, _, _ => by cases h
  | _ :: _, [], h, _, _ => by cases h
  | a :: P, b :: Q, h, hP, hQ => by
    have hl : P.length = Q.length := by simpa using h
    have hP' : ∀ x, x ∈ P → x < c := fun x hx => hP x (List.mem_cons_of_mem _ hx)
    have hQ' : ∀ x, x ∈ Q → x < c := fun x hx => hQ x (List.mem_cons_of_mem _ hx)
    have h1 := numC_lt P hP'
    have h2 := numC_lt Q hQ'
    rw [numC_cons, numC_cons, hl]
    rw [hl] at h1
    show (if (a : Int) = (b : Int) then blw (natI P) (natI Q) else decide ((a : Int) < (b : Int))) = _
    by_cases e : a = b
    · subst e
      rw [if_pos rfl, blw_num P Q hl hP' hQ']
      exact decide_eq_decide.2 (by omega)
    · rw [if_neg (by omega)]
      refine decide_eq_decide.2 ?_
      constructor
      · intro hab
        have h3 : (a + 1) * c ^ Q.length ≤ b * c ^ Q.length := Nat.mul_le_mul_right _ (by omega)
        rw [Nat.succ_mul] at h3
        omega
      · intro hlt
        refine Classical.byContradiction (fun hn => ?_)
        have h3 : (b + 1) * c ^ Q.length ≤ a * c ^ Q.length := Nat.mul_le_mul_right _ (by omega)
        rw [Nat.succ_mul] at h3
        omega

theorem by_col {n c k : Nat} {x : List Int} (hc : 1 ≤ c) (hl : x.length = n) : by_ (colL n c k) x = colL n c (stp n c x k) := by
  rw [← colD_natI, ← colD_natI, colD_stp hc hl]
  unfold by_ trn natI
  rw [List.map_map]
  refine List.map_congr_left (fun j _ => ?_)
  exact natI_getD (colD n c k) j.toNat

theorem isF_col {n c k : Nat} {X : List Pm} {rows : List (List Int)} (h12 : n ≤ 12) (hc : 1 ≤ c) (hk : k < c ^ n) (hm : ∀ y, y ∈ rows ↔ ∃ x, x ∈ X ∧ y = cut n x) : isF (colL n c k) rows = frst X (sC n c) k := by
  have hb : ∀ x : Pm, blw (by_ (colL n c k) (cut n x)) (colL n c k) = decide (sC n c x k < k) := fun x => by
    rw [by_col hc (cut_length h12 x), ← colD_natI, ← colD_natI, blw_num (c := c) _ _ (by rw [colD_length, colD_length]) (colD_lt hc) (colD_lt hc), numC_colD n _ (stp_lt hc (cut_length h12 x)), numC_colD n k hk]
    rfl
  cases hF : frst X (sC n c) k with
  | true =>
    unfold isF
    rw [List.all_eq_true]
    intro y hy
    obtain ⟨x, hx, rfl⟩ := (hm y).1 hy
    have := frst_iff.1 hF x hx
    rw [hb x, decide_eq_false (by omega)]
    rfl
  | false =>
    have h9 : ¬ ∀ x, x ∈ X → k ≤ sC n c x k := fun h => by rw [frst_iff.2 h] at hF; cases hF
    have h8 : ∃ x, x ∈ X ∧ ¬ k ≤ sC n c x k := by
      refine Classical.byContradiction (fun hne => h9 (fun x hx => ?_))
      exact Classical.byContradiction (fun h => hne ⟨x, hx, h⟩)
    obtain ⟨x, hx, hlt⟩ := h8
    exact isF_bad ((hm _).2 ⟨x, hx, rfl⟩) (by rw [hb x]; exact decide_eq_true (by omega))

end Go.Proofs.YtahffpgadoiijaaGreat

/- Plain: how many colourings a row leaves as they are: a colour for each cycle. -/
namespace Go.Proofs.YtahffpgadoiijaaGreat

/-- All lists of so many colours. -/
def asg (c : Nat) : Nat → List (List Nat)
  | 0 => [[]]
  | m + 1 => (List.range c).flatMap (fun a => (asg c m).map (fun A => a :: A))

theorem mem_asg {c : Nat} : ∀ {m : Nat} {A : List Nat}, A ∈ asg c m ↔ A.length = m ∧ ∀ x, x ∈ A → x < c
  | 0, A => by
    show A ∈ [[]] ↔ _
    rw [List.mem_singleton]
    constructor
    · rintro rfl; exact ⟨rfl, fun x hx => by cases hx⟩
    · intro h; exact List.length_eq_zero_iff.1 h.1
  | m + 1, A => by
    show A ∈ (List.range c).flatMap _ ↔ _
    rw [List.mem_flatMap]
    constructor
    · rintro ⟨a, ha, hA⟩
      obtain ⟨B, hB, rfl⟩ := List.mem_map.1 hA
      have h := mem_asg.1 hB
      refine ⟨by rw [List.length_cons, h.1], fun x hx => ?_⟩
      rcases List.mem_cons.1 hx with e | e
      · rw [e]; exact List.mem_range.1 ha
      · exact h.2 x e
    · rintro ⟨h1, h2⟩
      cases A with
      | nil => cases h1
      | cons a B =>
        exact ⟨a, List.mem_range.2 (h2 a List.mem_cons_self), List.mem_map.2 ⟨B, mem_asg.2 ⟨by simpa using h1, fun x hx => h2 x (List.mem_cons_of_mem _ hx)⟩, rfl⟩⟩

theorem asg_nodup {c : Nat} : ∀ (m : Nat), (asg c m).Nodup
  | 0 => by show [[]].Nodup; simp
  | m + 1 => by
    show ((List.range c).flatMap (fun a => (asg c m).map (fun A => a :: A))).Nodup
    rw [List.Nodup, List.pairwise_flatMap]
    refine ⟨fun a _ => ?_, ?_⟩
    · rw [List.pairwise_map]
      exact (asg_nodup m).imp (fun h e => h (List.cons.inj e).2)
    · refine List.nodup_range.imp (fun {a b} hab => ?_)
      intro x hx y hy e
      obtain ⟨A, _, rfl⟩ := List.mem_map.1 hx
      obtain ⟨B, _, rfl⟩ := List.mem_map.1 hy
      exact hab (List.cons.inj e).1

theorem asg_length (c : Nat) : ∀ m, (asg c m).length = c ^ m
  | 0 => rfl
  | m + 1 => by
    show ((List.range c).flatMap (fun a => (asg c m).map (fun A => a :: A))).length = _
    rw [List.length_flatMap, lsum_const _ _ (c ^ m) (fun a _ => by rw [List.length_map, asg_length c m]), List.length_range, Nat.pow_succ, Nat.mul_comm]

/-- Parts that a row turns. -/
structure Prts (n : Nat) (C : List (List Nat)) (g : Nat → Nat) : Prop where
  ne : ∀ L, L ∈ C → L ≠ []
  nodup : C.flatten.Nodup
  mem : ∀ i, i ∈ C.flatten ↔ i < n
  cl : ∀ L, L ∈ C → ∀ i, i ∈ L → g i ∈ L
  conn : ∀ L, L ∈ C → ∀ (f : Nat → Nat), (∀ i, i < n → f (g i) = f i) → ∀ i, i ∈ L → ∀ j, j ∈ L → f i = f j

/-- In which part a place is. -/
def cixC (C : List (List Nat)) (i : Nat) : Nat := C.findIdx (fun L => decide (i ∈ L))

/-- What colours of parts make. -/
def phi (n : Nat) (C : List (List Nat)) (A : List Nat) : List Nat := (List.range n).map (fun i => A.getD (cixC C i) 0)

theorem phi_length (n : Nat) (C : List (List Nat)) (A : List Nat) : (phi n C A).length = n := by unfold phi; rw [List.length_map, List.length_range]

theorem phi_get {n : Nat} {C : List (List Nat)} {A : List Nat} {i : Nat} (hi : i < n) : (phi n C A)[i]? = some (A.getD (cixC C i) 0) := by
  unfold phi
  rw [List.getElem?_map, List.getElem?_range hi]
  rfl

section
variable {n : Nat} {C : List (List Nat)} {g : Nat → Nat}

theorem Prts.cixC_of (H : Prts n C g) {t i : Nat} {L : List Nat} (ht : C[t]? = some L) (hi : i ∈ L) : cixC C i = t := by
  have hl := (List.getElem?_eq_some_iff.1 ht).1
  have hL := (List.getElem?_eq_some_iff.1 ht).2
  have h1 : cixC C i < C.length := List.findIdx_lt_length.2 ⟨L, List.mem_of_getElem? ht, decide_eq_true hi⟩
  have h2 : i ∈ C[cixC C i] := of_decide_eq_true (List.findIdx_getElem (p := fun L : List Nat => decide (i ∈ L)) (w := h1))
  have hp := (List.pairwise_flatten.1 H.nodup).2
  rw [List.pairwise_iff_getElem] at hp
  rcases Nat.lt_trichotomy (cixC C i) t with h | h | h
  · exact absurd rfl (hp _ _ h1 hl h i h2 i (by rw [hL]; exact hi))
  · exact h
  · exact absurd rfl (hp _ _ hl h1 h i (by rw [hL]; exact hi) i h2)

theorem Prts.at (H : Prts n C g) {i : Nat} (hi : i < n) : ∃ t L, C[t]? = some L ∧ i ∈ L ∧ cixC C i = t := by
  obtain ⟨L, hL, hiL⟩ := List.mem_flatten.1 ((H.mem i).2 hi)
  obtain ⟨t, ht, e⟩ := List.getElem_of_mem hL
  have h1 : C[t]? = some L := by rw [List.getElem?_eq_getElem ht, e]
  exact ⟨t, L, h1, hiL, H.cixC_of h1 hiL⟩

theorem Prts.g_lt (H : Prts n C g) {i : Nat} (hi : i < n) : g i < n := by
  obtain ⟨t, L, ht, hiL, _⟩ := H.at hi
  exact (H.mem _).1 (List.mem_flatten.2 ⟨L, List.mem_of_getElem? ht, H.cl L (List.mem_of_getElem? ht) i hiL⟩)

theorem Prts.cixC_g (H : Prts n C g) {i : Nat} (hi : i < n) : cixC C (g i) = cixC C i := by
  obtain ⟨t, L, ht, hiL, e⟩ := H.at hi
  rw [e, H.cixC_of ht (H.cl L (List.mem_of_getElem? ht) i hiL)]

theorem Prts.phi_inj (H : Prts n C g) {A B : List Nat} (hA : A.length = C.length) (hB : B.length = C.length) (e : phi n C A = phi n C B) : A = B := by
  refine List.ext_getElem? (fun t => ?_)
  by_cases ht : t < C.length
  · have hL := List.getElem?_eq_getElem ht
    have hne := H.ne C[t] (List.getElem_mem ht)
    obtain ⟨i, hi⟩ := List.exists_mem_of_ne_nil _ hne
    have hin : i < n := (H.mem i).1 (List.mem_flatten.2 ⟨C[t], List.getElem_mem ht, hi⟩)
    have h1 := phi_get (C := C) (A := A) hin
    rw [e, phi_get hin, H.cixC_of hL hi] at h1
    have h2 := Option.some.inj h1
    rw [List.getD, List.getD, List.getElem?_eq_getElem (by omega), List.getElem?_eq_getElem (by omega)] at h2
    rw [List.getElem?_eq_getElem (by omega), List.getElem?_eq_getElem (by omega)]
    exact congrArg some h2.symm
  · rw [List.getElem?_eq_none (by omega), List.getElem?_eq_none (by omega)]

/-- .. and each colouring that is left as it is comes of one. -/
theorem Prts.phi_onto (H : Prts n C g) {P : List Nat} (hl : P.length = n) (hf : ∀ i, i < n → P.getD (g i) 0 = P.getD i 0) : ∃ A, A.length = C.length ∧ (∀ x, x ∈ A → x ∈ P) ∧ phi n C A = P := by
  refine ⟨C.map (fun L => P.getD (L.headD 0) 0), by rw [List.length_map], fun x hx => ?_, ?_⟩
  · obtain ⟨L, hL, rfl⟩ := List.mem_map.1 hx
    have hne := H.ne L hL
    cases L with
    | nil => exact absurd rfl hne
    | cons a L =>
      have ha : a < n := (H.mem a).1 (List.mem_flatten.2 ⟨_, hL, List.mem_cons_self⟩)
      show P.getD a 0 ∈ P
      rw [List.getD, List.getElem?_eq_getElem (by omega)]
      exact List.getElem_mem _
  · refine List.ext_getElem? (fun i => ?_)
    by_cases hi : i < n
    · obtain ⟨t, L, ht, hiL, e⟩ := H.at hi
      rw [phi_get hi, e, List.getD, List.getElem?_map, ht]
      have hLm := List.mem_of_getElem? ht
      have hne := H.ne L hLm
      show some (P.getD (L.headD 0) 0) = _
      have hh : L.headD 0 ∈ L := by
        cases L with
        | nil => exact absurd rfl hne
        | cons a L => exact List.mem_cons_self
      rw [H.conn L hLm (fun i => P.getD i 0) hf _ hh i hiL, List.getD, List.getElem?_eq_getElem (by omega)]
      rfl
    · rw [List.getElem?_eq_none (by rw [phi_length]; omega), List.getElem?_eq_none (by omega)]

end

/-- How many places a colour has, where each part has one. -/
def wt : List Nat → List Nat → Nat → Nat
  | l :: ls, a :: A, j => (if a = j then l else 0) + wt ls A j
  | _, _, _ => 0

theorem wt_sum (p : Nat → Bool) (j : Nat) : ∀ (C : List (List Nat)) (A : List Nat), A.length = C.length → (∀ (t : Nat) (L : List Nat) (a : Nat), C[t]? = some L → A[t]? = some a → L.countP p = if a = j then L.length else 0) → (C.map (List.countP p)).sum = wt (C.map List.length) A j
  | [], [], _, _ => rfl
  | [], _ :: _, h, _ => by cases h
  | _ :: _, [], h, _ => by cases h
  | L :: C, a :: A, hl, h => by
    rw [List.map_cons, List.sum_cons, wt_sum p j C A (by simpa using hl) (fun t L a h1 h2 => h (t + 1) L a h1 h2), h 0 L a rfl rfl]
    rfl

theorem Prts.count {n : Nat} {C : List (List Nat)} {g : Nat → Nat} (H : Prts n C g) {A : List Nat} (hA : A.length = C.length) (j : Nat) : (phi n C A).countP (fun x => x == j) = wt (C.map List.length) A j := by
  have hp : (List.range n).Perm C.flatten := by
    refine perm_of_sub _ _ List.nodup_range (fun x hx => (H.mem x).2 (List.mem_range.1 hx)) ?_
    exact len_same _ _ List.nodup_range H.nodup (fun x => by rw [H.mem x, List.mem_range])
  unfold phi
  rw [List.countP_map, hp.countP_eq, List.countP_flatten]
  refine wt_sum _ j C A hA (fun t L a ht ha => ?_)
  have e : ∀ i, i ∈ L → ((fun x => x == j) ∘ (fun i => A.getD (cixC C i) 0)) i = decide (a = j) := fun i hi => by
    show (A.getD (cixC C i) 0 == j) = _
    rw [H.cixC_of ht hi, List.getD, ha]
    show (a == j) = _
    exact Bool.beq_eq_decide_eq a j
  by_cases h : a = j
  · rw [if_pos h, List.countP_eq_length]
    intro i hi
    rw [e i hi, decide_eq_true h]
  · rw [if_neg h, List.countP_eq_zero]
    intro i hi
    rw [e i hi, decide_eq_false h]
    decide

/-- How many colourings of a kind are left as they are. -/
theorem Prts.left {n c : Nat} {C : List (List Nat)} {r : List Int} (H : Prts n C (nx r)) (hr : r.length = n) (hc : 1 ≤ c) (Q : List Nat → Bool) :
    (List.range (c ^ n)).countP (fun k => (stp n c r k == k) && Q (colD n c k)) = (asg c C.length).countP (fun A => Q (phi n C A)) := by
  have hfix : ∀ P : List Nat, P.length = n → (trn P r = P ↔ ∀ i, i < n → P.getD (nx r i) 0 = P.getD i 0) := fun P hP => by
    constructor
    · intro e i hi
      have h1 : (trn P r)[i]? = some (P.getD (nx r i) 0) := by
        unfold trn
        rw [List.getElem?_map, List.getElem?_eq_getElem (by omega)]
        unfold nx
        rw [List.getD, List.getD, List.getElem?_eq_getElem (l := r) (by omega)]
        rfl
      rw [e, List.getElem?_eq_getElem (by omega)] at h1
      rw [← Option.some.inj h1, List.getD, List.getElem?_eq_getElem (by omega)]
      rfl
    · intro h
      refine List.ext_getElem? (fun i => ?_)
      by_cases hi : i < n
      · have h2 := h i hi
        unfold trn
        rw [List.getElem?_map, List.getElem?_eq_getElem (by omega)]
        have e1 : P.getD i 0 = P[i]'(by omega) := by rw [List.getD, List.getElem?_eq_getElem (by omega)]; rfl
        have e2 : r.getD i 0 = r[i]'(by omega) := by rw [List.getD, List.getElem?_eq_getElem (by omega)]; rfl
        unfold nx at h2
        rw [e1, e2] at h2
        rw [List.getElem?_eq_getElem (l := P) (by omega)]
        exact congrArg some h2
      · rw [List.getElem?_eq_none (by rw [trn_length]; omega), List.getElem?_eq_none (by omega)]
  have hlt : ∀ A, A ∈ asg c C.length → ∀ x, x ∈ phi n C A → x < c := fun A hA x hx => by
    unfold phi at hx
    obtain ⟨i, hi, rfl⟩ := List.mem_map.1 hx
    show A.getD (cixC C i) 0 < c
    rw [List.getD]
    cases h : A[cixC C i]? with
    | none => exact hc
    | some y => exact (mem_asg.1 hA).2 y (List.mem_of_getElem? h)
  have hperm : ((asg c C.length).map (fun A => numC c (phi n C A) 0)).Perm ((List.range (c ^ n)).filter (fun k => stp n c r k == k)) := by
    have hn1 : ((asg c C.length).map (fun A => numC c (phi n C A) 0)).Nodup := by
      rw [List.Nodup, List.pairwise_map]
      refine List.Pairwise.imp_of_mem (fun {A B} hA hB hab e => hab ?_) (asg_nodup C.length)
      have h1 := colD_numC n (phi n C A) (phi_length _ _ _) (hlt A hA)
      rw [e, colD_numC n (phi n C B) (phi_length _ _ _) (hlt B hB)] at h1
      exact H.phi_inj (mem_asg.1 hA).1 (mem_asg.1 hB).1 h1.symm
    have hn2 : ((List.range (c ^ n)).filter (fun k => stp n c r k == k)).Nodup := List.nodup_range.filter _
    have hm : ∀ k, k ∈ (asg c C.length).map (fun A => numC c (phi n C A) 0) ↔ k ∈ (List.range (c ^ n)).filter (fun k => stp n c r k == k) := fun k => by
      rw [List.mem_filter, List.mem_range, List.mem_map]
      constructor
      · rintro ⟨A, hA, rfl⟩
        have h2 := numC_lt (phi n C A) (hlt A hA)
        rw [phi_length] at h2
        refine ⟨h2, ?_⟩
        have h3 : trn (phi n C A) r = phi n C A := (hfix _ (phi_length _ _ _)).2 (fun i hi => by
          have := H.g_lt hi
          rw [List.getD, List.getD, phi_get hi, phi_get this, H.cixC_g hi])
        show (numC c (trn (colD n c (numC c (phi n C A) 0)) r) 0 == _) = true
        rw [colD_numC n (phi n C A) (phi_length _ _ _) (hlt A hA), h3]
        simp
      · rintro ⟨hk, he⟩
        have he' : stp n c r k = k := by simpa using he
        have h3 : trn (colD n c k) r = colD n c k := by rw [← colD_stp hc hr, he']
        obtain ⟨A, hA1, hA2, hA3⟩ := H.phi_onto (colD_length n c k) ((hfix _ (colD_length n c k)).1 h3)
        exact ⟨A, mem_asg.2 ⟨hA1, fun x hx => colD_lt hc x (hA2 x hx)⟩, by rw [hA3, numC_colD n k hk]⟩
    exact perm_of_sub _ _ hn1 (fun k hk => (hm k).1 hk) (len_same _ _ hn1 hn2 hm)
  have h1 : (List.range (c ^ n)).countP (fun k => (stp n c r k == k) && Q (colD n c k)) = ((List.range (c ^ n)).filter (fun k => stp n c r k == k)).countP (fun k => Q (colD n c k)) := by
    rw [List.countP_filter]
    congr 1
    funext k
    exact Bool.and_comm _ _
  rw [h1, ← hperm.countP_eq, List.countP_map]
  rw [List.countP_eq_length_filter, List.countP_eq_length_filter]
  congr 1
  refine List.filter_congr (fun A hA => ?_)
  show Q (colD n c (numC c (phi n C A) 0)) = _
  rw [colD_numC n (phi n C A) (phi_length _ _ _) (hlt A hA)]

end Go.Proofs.YtahffpgadoiijaaGreat

/- Plain: in how many ways parts of given lengths fill places; numbers whose digits are how many places are filled. -/
namespace Go.Proofs.YtahffpgadoiijaaGreat

/-- Are there so many places of each colour? -/
def vfit (c : Nat) (ls A : List Nat) (v : Nat → Nat) : Bool := (List.range c).all (fun j => wt ls A j == v j)

theorem vfit_iff {c : Nat} {ls A : List Nat} {v : Nat → Nat} : vfit c ls A v = true ↔ ∀ j, j < c → wt ls A j = v j := by
  unfold vfit
  rw [List.all_eq_true]
  constructor
  · intro h j hj; simpa using h j (List.mem_range.2 hj)
  · intro h j hj; simpa using h j (List.mem_range.1 hj)

/-- One colour has so many fewer. -/
def vsub (v : Nat → Nat) (a l : Nat) : Nat → Nat := fun j => if j = a then v j - l else v j

/-- In how many ways parts can be given colours. -/
def Wn (c : Nat) : List Nat → (Nat → Nat) → Nat
  | [], v => if (List.range c).all (fun j => v j == 0) then 1 else 0
  | l :: ls, v => ((List.range c).map (fun a => if l ≤ v a then Wn c ls (vsub v a l) else 0)).sum

theorem countP_flatMap' {α β : Type} (p : β → Bool) (f : α → List β) : ∀ (L : List α), (L.flatMap f).countP p = (L.map (fun a => (f a).countP p)).sum
  | [] => rfl
  | a :: L => by rw [List.flatMap_cons, List.countP_append, countP_flatMap' p f L, List.map_cons, List.sum_cons]

theorem Wn_count (c : Nat) : ∀ (ls : List Nat) (v : Nat → Nat), (asg c ls.length).countP (fun A => vfit c ls A v) = Wn c ls v
  | [], v => by
    show [[]].countP (fun A => vfit c [] A v) = if (List.range c).all (fun j => v j == 0) then 1 else 0
    rw [List.countP_cons, List.countP_nil, Nat.zero_add]
    have e : vfit c [] [] v = (List.range c).all (fun j => v j == 0) := by
      unfold vfit
      congr 1
      funext j
      show ((0 : Nat) == v j) = (v j == 0)
      rw [Bool.eq_iff_iff]; simp; omega
    rw [e]
  | l :: ls, v => by
    show ((List.range c).flatMap (fun a => (asg c ls.length).map (fun A => a :: A))).countP (fun A => vfit c (l :: ls) A v) = _
    rw [countP_flatMap']
    refine lsum_congr (fun a ha => ?_)
    have ha' := List.mem_range.1 ha
    rw [List.countP_map]
    by_cases h : l ≤ v a
    · rw [if_pos h, ← Wn_count c ls (vsub v a l)]
      congr 1
      funext A
      show vfit c (l :: ls) (a :: A) v = vfit c ls A (vsub v a l)
      rw [Bool.eq_iff_iff, vfit_iff, vfit_iff]
      constructor
      · intro hv j hj
        have h1 : (if a = j then l else 0) + wt ls A j = v j := hv j hj
        unfold vsub
        by_cases e : j = a
        · subst e; rw [if_pos rfl] at h1 ⊢; omega
        · rw [if_neg (fun e2 => e e2.symm)] at h1; rw [if_neg e]; omega
      · intro hv j hj
        have h1 := hv j hj
        show (if a = j then l else 0) + wt ls A j = v j
        unfold vsub at h1
        by_cases e : j = a
        · subst e; rw [if_pos rfl] at h1 ⊢; omega
        · rw [if_neg e] at h1; rw [if_neg (fun e2 => e e2.symm)]; omega
    · rw [if_neg h, List.countP_eq_zero]
      intro A _ hv
      have h1 : (if a = a then l else 0) + wt ls A a = v a := (vfit_iff.1 hv) a ha'
      rw [if_pos rfl] at h1
      omega

theorem Wn_le (c : Nat) (ls : List Nat) (v : Nat → Nat) : Wn c ls v ≤ c ^ ls.length := by
  rw [← Wn_count, ← asg_length]
  exact List.countP_le_length

theorem Wn_congr {c : Nat} {ls : List Nat} {v u : Nat → Nat} (h : ∀ j, j < c → v j = u j) : Wn c ls v = Wn c ls u := by
  rw [← Wn_count, ← Wn_count]
  congr 1
  funext A
  rw [Bool.eq_iff_iff, vfit_iff, vfit_iff]
  exact ⟨fun hv j hj => (hv j hj).trans (h j hj), fun hv j hj => (hv j hj).trans (h j hj).symm⟩

theorem lite_sum {α : Type} (p : Prop) [Decidable p] (f : α → Nat) (L : List α) : (if p then (L.map f).sum else 0) = (L.map (fun x => if p then f x else 0)).sum := by
  by_cases h : p
  · rw [if_pos h]; exact lsum_congr (fun x _ => by rw [if_pos h])
  · rw [if_neg h]; exact (lsum_zero _ _ (fun x _ => by rw [if_neg h])).symm

theorem Wn_swap (c a b : Nat) (ls : List Nat) (v : Nat → Nat) : Wn c (a :: b :: ls) v = Wn c (b :: a :: ls) v := by
  show ((List.range c).map (fun i => if a ≤ v i then ((List.range c).map (fun j => if b ≤ vsub v i a j then Wn c ls (vsub (vsub v i a) j b) else 0)).sum else 0)).sum = ((List.range c).map (fun j => if b ≤ v j then ((List.range c).map (fun i => if a ≤ vsub v j b i then Wn c ls (vsub (vsub v j b) i a) else 0)).sum else 0)).sum
  rw [lsum_congr (fun i _ => lite_sum (a ≤ v i) _ (List.range c)), lsum_swap, lsum_congr (f := fun j => if b ≤ v j then _ else 0) (fun j _ => lite_sum (b ≤ v j) _ (List.range c))]
  refine lsum_congr (fun j _ => lsum_congr (fun i _ => ?_))
  have e1 : vsub (vsub v i a) j b = vsub (vsub v j b) i a := by
    funext k
    unfold vsub
    by_cases h1 : k = i <;> by_cases h2 : k = j <;> simp only [h1, h2, if_true, if_false] <;> first | omega | rfl | skip
    all_goals (first | omega | (split <;> first | omega | rfl) | rfl)
  rw [e1]
  have e2 : (a ≤ v i ∧ b ≤ vsub v i a j) ↔ (b ≤ v j ∧ a ≤ vsub v j b i) := by
    unfold vsub
    by_cases h : i = j
    · subst h; rw [if_pos rfl, if_pos rfl]; omega
    · rw [if_neg (fun e => h e.symm), if_neg h]; omega
  by_cases h : a ≤ v i ∧ b ≤ vsub v i a j
  · have h' := e2.1 h
    rw [if_pos h.1, if_pos h.2, if_pos h'.1, if_pos h'.2]
  · have h' : ¬ (b ≤ v j ∧ a ≤ vsub v j b i) := fun h' => h (e2.2 h')
    have l1 : (if a ≤ v i then if b ≤ vsub v i a j then Wn c ls (vsub (vsub v j b) i a) else 0 else 0) = 0 := by
      by_cases g : a ≤ v i
      · rw [if_pos g, if_neg (fun g2 => h ⟨g, g2⟩)]
      · rw [if_neg g]
    have l2 : (if b ≤ v j then if a ≤ vsub v j b i then Wn c ls (vsub (vsub v j b) i a) else 0 else 0) = 0 := by
      by_cases g : b ≤ v j
      · rw [if_pos g, if_neg (fun g2 => h' ⟨g, g2⟩)]
      · rw [if_neg g]
    rw [l1, l2]

theorem Wn_perm {c : Nat} {ls ms : List Nat} (h : ls.Perm ms) : ∀ v, Wn c ls v = Wn c ms v := by
  induction h with
  | nil => intro v; rfl
  | cons l _ ih => intro v; exact lsum_congr (fun a _ => by rw [ih])
  | swap a b ls => intro v; exact Wn_swap c b a ls v
  | trans _ _ ih1 ih2 => intro v; rw [ih1, ih2]

/-! numbers by their digits -/

/-- The unit of a digit. -/
def unM (many : List Nat) : Nat → Nat
  | 0 => 1
  | j + 1 => unM many j * (many.getD j 0 + 1)

def dg (many : List Nat) (k j : Nat) : Nat := k / unM many j % (many.getD j 0 + 1)

theorem unM_pos (many : List Nat) : ∀ j, 0 < unM many j
  | 0 => Nat.one_pos
  | j + 1 => Nat.mul_pos (unM_pos many j) (by omega)

theorem unM_dvd (many : List Nat) {i : Nat} : ∀ {j : Nat}, i ≤ j → ∃ K, unM many j = unM many i * K
  | 0, h => ⟨1, by obtain rfl : i = 0 := by omega
                   rw [Nat.mul_one]⟩
  | j + 1, h => by
    by_cases e : i = j + 1
    · exact ⟨1, by rw [e, Nat.mul_one]⟩
    · obtain ⟨K, hK⟩ := unM_dvd many (show i ≤ j by omega)
      exact ⟨K * (many.getD j 0 + 1), by rw [unM, hK, Nat.mul_assoc]⟩

theorem dg_le (many : List Nat) (k j : Nat) : dg many k j ≤ many.getD j 0 := by
  have := Nat.mod_lt (k / unM many j) (show 0 < many.getD j 0 + 1 by omega)
  unfold dg; omega

theorem dg_room {many : List Nat} {k j l : Nat} (h : l ≤ dg many k j) : l * unM many j ≤ k := by
  have h1 : dg many k j ≤ k / unM many j := Nat.mod_le _ _
  have h2 : (k / unM many j) * unM many j ≤ k := Nat.div_mul_le_self _ _
  exact Nat.le_trans (Nat.mul_le_mul_right _ (Nat.le_trans h h1)) h2

theorem dg_sub {many : List Nat} {k j l : Nat} (h : l ≤ dg many k j) (i : Nat) : dg many (k - l * unM many j) i = vsub (dg many k) j l i := by
  have hroom := dg_room h
  have hpj := unM_pos many j
  unfold vsub
  have hq : (k - l * unM many j) / unM many j = k / unM many j - l := by
    rw [Nat.mul_comm l]
    exact Nat.sub_mul_div_of_le k _ l (by rw [Nat.mul_comm]; exact hroom)
  have hql : l ≤ k / unM many j := Nat.le_trans h (Nat.mod_le _ _)
  rcases Nat.lt_trichotomy i j with hij | hij | hij
  · rw [if_neg (by omega)]
    obtain ⟨K, hK⟩ := unM_dvd many (show i + 1 ≤ j by omega)
    have hpi := unM_pos many i
    rw [unM] at hK
    unfold dg
    have e1 : l * unM many j = unM many i * ((many.getD i 0 + 1) * (K * l)) := by rw [hK]; ac_rfl
    rw [e1] at hroom ⊢
    rw [Nat.sub_mul_div_of_le k _ _ hroom]
    have hle : (many.getD i 0 + 1) * (K * l) ≤ k / unM many i := by
      rw [Nat.le_div_iff_mul_le hpi, Nat.mul_comm]; exact hroom
    exact Nat.sub_mul_mod hle
  · subst hij
    rw [if_pos rfl]
    unfold dg at h ⊢
    rw [hq]
    have h2 := Nat.div_add_mod (k / unM many i) (many.getD i 0 + 1)
    have h3 := Nat.mod_lt (k / unM many i) (show 0 < many.getD i 0 + 1 by omega)
    generalize k / unM many i = q at *
    generalize hr : q % (many.getD i 0 + 1) = r at *
    generalize many.getD i 0 + 1 = M at *
    generalize hm : M * (q / M) = s at *
    rw [show q - l = s + (r - l) by omega, ← hm, Nat.mul_add_mod, Nat.mod_eq_of_lt (by omega)]
  · rw [if_neg (by omega)]
    obtain ⟨K, hK⟩ := unM_dvd many (show j + 1 ≤ i by omega)
    rw [unM] at hK
    unfold dg at h ⊢
    rw [hK, Nat.mul_assoc, ← Nat.div_div_eq_div_mul, ← Nat.div_div_eq_div_mul, ← Nat.div_div_eq_div_mul, ← Nat.div_div_eq_div_mul, hq]
    have h2 := Nat.div_add_mod (k / unM many j) (many.getD j 0 + 1)
    have h3 := Nat.mod_lt (k / unM many j) (show 0 < many.getD j 0 + 1 by omega)
    generalize k / unM many j = q at *
    generalize hr : q % (many.getD j 0 + 1) = r at *
    generalize hM : many.getD j 0 + 1 = M at *
    have e : (q - l) / M = q / M := by
      generalize hs : q / M = s at *
      rw [show q - l = M * s + (r - l) by omega, Nat.mul_add_div (by omega), Nat.div_eq_of_lt (by omega), Nat.add_zero]
    rw [e]

theorem dg_zero {many : List Nat} {k : Nat} : ∀ j, (∀ i, i < j → dg many k i = 0) → k % unM many j = 0
  | 0, _ => by rw [unM]; exact Nat.mod_one k
  | j + 1, h => by
    rw [unM, Nat.mod_mul, dg_zero j (fun i hi => h i (by omega))]
    have := h j (by omega)
    unfold dg at this
    rw [this]; rfl

theorem dg_nil (many : List Nat) (i : Nat) : dg many 0 i = 0 := by unfold dg; rw [Nat.zero_div, Nat.zero_mod]

theorem dg_top {many : List Nat} {m j : Nat} (hj : j < m) : dg many (unM many m - 1) j = many.getD j 0 := by
  obtain ⟨K, hK⟩ := unM_dvd many (show j + 1 ≤ m by omega)
  have hp := unM_pos many m
  have hpj := unM_pos many j
  rw [unM] at hK
  unfold dg
  have hK1 : 0 < K := by
    rcases Nat.eq_zero_or_pos K with e | e
    · rw [e, Nat.mul_zero] at hK; omega
    · exact e
  generalize many.getD j 0 = a at *
  rw [hK, Nat.mul_assoc]
  have hMK : 0 < (a + 1) * K := Nat.mul_pos (by omega) hK1
  have e1 : (unM many j * ((a + 1) * K) - 1) / unM many j = (a + 1) * K - 1 := by
    generalize hX : (a + 1) * K = X at *
    obtain ⟨Y, rfl⟩ : ∃ Y, X = Y + 1 := ⟨X - 1, by omega⟩
    rw [Nat.mul_succ, Nat.add_sub_assoc hpj, Nat.mul_add_div hpj, Nat.div_eq_of_lt (by omega)]
    omega
  rw [e1]
  obtain ⟨Y, rfl⟩ : ∃ Y, K = Y + 1 := ⟨K - 1, by omega⟩
  rw [Nat.mul_succ, Nat.add_sub_assoc (by omega), Nat.mul_add_mod, Nat.mod_eq_of_lt (by omega)]
  omega

theorem Wn_nil {many : List Nat} {k : Nat} (hk : k < unM many many.length) : Wn many.length [] (dg many k) = if k = 0 then 1 else 0 := by
  show (if (List.range many.length).all (fun j => dg many k j == 0) then 1 else 0) = _
  by_cases h : k = 0
  · subst h
    rw [if_pos rfl, if_pos]
    rw [List.all_eq_true]
    intro j _
    rw [dg_nil]; rfl
  · rw [if_neg h, if_neg]
    intro h9
    rw [List.all_eq_true] at h9
    have h8 := dg_zero many.length (many := many) (k := k) (fun i hi => by simpa using h9 i (List.mem_range.2 hi))
    rw [Nat.mod_eq_of_lt hk] at h8
    exact h h8

end Go.Proofs.YtahffpgadoiijaaGreat

/- Contract: colour.fillOneMore. -/
namespace Go.Proofs.YtahffpgadoiijaaGreat
open Go.RowKit

/-- The table of ways. -/
def waysL (many ls : List Nat) : List Int := (List.range (unM many many.length)).map (fun k => ((Wn many.length ls (dg many k) : Nat) : Int))

theorem waysL_length (many ls : List Nat) : (waysL many ls).length = unM many many.length := by unfold waysL; simp

theorem waysL_get {many ls : List Nat} {k : Nat} (h : k < unM many many.length) : (waysL many ls).getD k 0 = ((Wn many.length ls (dg many k) : Nat) : Int) := by
  unfold waysL; simp [List.getD, h]

def unitsL (many : List Nat) : List Int := (List.range many.length).map (fun j => ((unM many j : Nat) : Int))

theorem unitsL_length (many : List Nat) : (unitsL many).length = many.length := by unfold unitsL; simp

theorem unitsL_get {many : List Nat} {k : Nat} (h : k < many.length) : (unitsL many).getD k 0 = ((unM many k : Nat) : Int) := by
  unfold unitsL; simp [List.getD, h]

/-- What is summed up so far. -/
def Wp (many ls : List Nat) (l k j : Nat) : Nat := ((List.range j).map (fun a => if l ≤ dg many k a then Wn many.length ls (vsub (dg many k) a l) else 0)).sum

theorem Wp_succ (many ls : List Nat) (l k j : Nat) : Wp many ls l k (j + 1) = Wp many ls l k j + (if l ≤ dg many k j then Wn many.length ls (vsub (dg many k) j l) else 0) := by
  unfold Wp
  rw [List.range_succ, List.map_append, List.sum_append]
  simp

theorem Wp_top (many ls : List Nat) (l k : Nat) : Wp many ls l k many.length = Wn many.length (l :: ls) (dg many k) := rfl

theorem Wp_mono (many ls : List Nat) (l k : Nat) : ∀ {i j : Nat}, i ≤ j → Wp many ls l k i ≤ Wp many ls l k j := by
  intro i j
  induction j with
  | zero => intro h; obtain rfl : i = 0 := by omega
            exact Nat.le_refl _
  | succ j ih =>
    intro h
    by_cases e : i = j + 1
    · rw [e]; exact Nat.le_refl _
    · rw [Wp_succ]; have := ih (by omega); omega

theorem unM_le {many : List Nat} (h : ∀ x, x ∈ many → x ≤ 12) : ∀ j, j ≤ 8 → unM many j ≤ 815730721 := by
  have key : ∀ j, unM many j ≤ 13 ^ j := by
    intro j
    induction j with
    | zero => exact Nat.le_refl _
    | succ j ih =>
      rw [unM, Nat.pow_succ]
      refine Nat.mul_le_mul ih ?_
      rw [List.getD]
      cases hj : many[j]? with
      | none => show 0 + 1 ≤ 13; decide
      | some y => show y + 1 ≤ 13; have := h y (List.mem_of_getElem? hj); omega
  intro j hj
  exact Nat.le_trans (key j) (Nat.le_trans (Nat.pow_le_pow_right (by decide) hj) (by decide))

set_option maxRecDepth 20000 in
set_option maxHeartbeats 4000000 in
theorem fillOne_ok (many ls : List Nat) (l : Nat) (v0 v1 v2 : Value) (w : World) (h0 : Ints w v0 (waysL many ls)) (h1 : Ints w v1 (unitsL many)) (h2 : Ints w v2 (natI many)) (hm1 : 1 ≤ many.length) (hm8 : many.length ≤ 8) (hM : ∀ x, x ∈ many → x ≤ 12) (hls : ls.length + 1 ≤ 12) :
    Calls Tryz.prog 80 #[v0, v1, v2, .int .i64 (l : Int)] w fun e w' => ∃ u, e = .returned u ∧ w'.ownsRow w.heap.size 3 1 u (unM many many.length) ((waysL many (l :: ls)).map (Value.int .i64)) ∧ Below w.heap.size w w' := by
  obtain ⟨j0, hji, hjz0, hjz1, hjz2⟩ := info_parts Tryz.info3
  have hAp := unM_pos many many.length
  have hAl := unM_le hM many.length hm8
  have HUL : Hid (∀ j, j ≤ many.length → 1 ≤ unM many j ∧ unM many j ≤ 815730721) := fun j hj => ⟨unM_pos many j, unM_le hM j (by omega)⟩
  have HW : Hid (∀ k j, j ≤ many.length → Wp many ls l k j ≤ 68719476736) := fun k j hj => by
    have h9 := Wp_mono many ls l k hj
    rw [Wp_top] at h9
    have h8 := Wn_le many.length (l :: ls) (dg many k)
    have h7 := pow_le12 hm8 (show (l :: ls).length ≤ 12 by simpa using hls)
    omega
  have HWn : Hid (∀ v, Wn many.length ls v ≤ 68719476736) := fun v => by
    have h8 := Wn_le many.length ls v
    have h7 := pow_le12 hm8 (show ls.length ≤ 12 by omega)
    omega
  have HMl : Hid (∀ j, many.getD j 0 ≤ 12) := fun j => by
    rw [List.getD]
    cases hj : many[j]? with
    | none => show 0 ≤ 12; decide
    | some y => exact hM y (List.mem_of_getElem? hj)
  obtain ⟨p0, c0, e0⟩ := h0.form
  obtain ⟨p1, c1, e1⟩ := h1.form
  obtain ⟨p2, c2, e2⟩ := h2.form
  rw [waysL_length] at e0
  rw [unitsL_length] at e1
  rw [natI_length] at e2
  subst e0 e1 e2
  obtain ⟨b0, o0, rfl, k01, k02, k03, k04⟩ := h0.open (by rw [waysL_length]; exact hAp)
  obtain ⟨b1, o1, rfl, k11, k12, k13, k14⟩ := h1.open (by rw [unitsL_length]; exact hm1)
  obtain ⟨b2, o2, rfl, k21, k22, k23, k24⟩ := h2.open (by rw [natI_length]; exact hm1)
  rw [waysL_length] at k01 k04
  rw [unitsL_length] at k11 k14
  rw [natI_length] at k21 k24
  have HC0 := hide k04
  have HC1 := hide k14
  have HC2 := hide k24
  generalize hA : unM many many.length = A at *
  have HA := hide hA
  generalize hm : many.length = m at *
  have Hm := hide hm
  clear h0 h1 h2 k04 k14 k24 hA hm hM
  go_enter Tryz.func80, Tryz.ntmps80
  go_wp2_with (at_make; refine wpList_make_full _ rfl _ _ 22 rfl w.heap.size 3 j0 (.int .i64 0) 1 Tryz.underlying22 hji hjz0 hjz1 _ _ _ _ A rfl rfl (by omega) (by omega) ?b2 ?b3 (Nat.le_refl _) ?_)
  case b2 => rw [hjz2]; omega
  case b3 => unfold maxLen; omega
  intro w1 hown1 hg1
  rw [made_ints] at hown1
  have HO1 := hide hown1
  have HB1 : Hid (Below w.heap.size w w1) := (Below.refl _ _).grown hg1 (Nat.le_refl _) (fun k h => by cases h)
  clear hown1 hg1
  go_wp2
  go_loopw [18] (fun si wr => ∃ (k : Nat) (zs : List Int), k ≤ A ∧ si = .int .i64 (k : Int) ∧ Hid (wr.ownsRow w.heap.size 3 1 (.slice (some ⟨w.heap.size, 0, none⟩) A A) A (zs.map (Value.int .i64))) ∧ Hid (zs.length = A ∧ (∀ j, j < k → zs.getD j 0 = (waysL many (l :: ls)).getD j 0) ∧ ∀ j, k ≤ j → zs.getD j 0 = 0) ∧ Below w.heap.size w wr) (fun si _ => A - (intOf si).toNat)
  case atStart => exact ⟨0, _, Nat.zero_le _, rfl, HO1, ⟨by simp, fun j hj => absurd hj (by omega), fun j _ => by
    rw [List.getD, List.getElem?_replicate]; split <;> rfl⟩, HB1.out⟩
  case round =>
    clear HO1 HB1
    obtain ⟨k, zs, hk, rfl, hO, hZ, hbm⟩ := hrel
    by_cases hlt : k < A
    · obtain ⟨w2, hw2⟩ : ∃ w2, w2 = wr := ⟨_, rfl⟩
      clear hw2
      go_wp2
      go_loopw [23] (fun sj wi => ∃ (j : Nat) (ys : List Int), j ≤ m ∧ sj = .int .i64 (j : Int) ∧ Hid (wi.ownsRow w.heap.size 3 1 (.slice (some ⟨w.heap.size, 0, none⟩) A A) A (ys.map (Value.int .i64))) ∧ Hid (ys.length = A ∧ ys.getD k 0 = ((Wp many ls l k j : Nat) : Int) ∧ ∀ i, i ≠ k → ys.getD i 0 = zs.getD i 0) ∧ Below w.heap.size w wi) (fun sj _ => m - (intOf sj).toNat)
      case atStart => exact ⟨0, zs, Nat.zero_le _, rfl, hO, ⟨hZ.out.1, by rw [hZ.out.2.2 k (Nat.le_refl _)]; rfl, fun i _ => rfl⟩, hbm⟩
      case round =>
        clear hO hbm
        obtain ⟨j, ys, hj, rfl, hOi, hY, hbi⟩ := hrel
        by_cases hjt : j < m
        · obtain ⟨U, hU⟩ : ∃ U, U = unM many j := ⟨_, rfl⟩
          obtain ⟨y, hy⟩ : ∃ y, y = many.getD j 0 := ⟨_, rfl⟩
          have hU1 := HUL.out j (by omega)
          rw [← hU] at hU1
          have hyl := HMl.out j
          rw [← hy] at hyl
          have hc1 := HC1.out j hjt
          rw [unitsL_get (by rw [Hm.out]; exact hjt), ← hU] at hc1
          have hc2 := HC2.out j hjt
          rw [natI_getD, ← hy] at hc2
          have hc1' := (hbi.cell (p := ⟨b1, o1 + j, none⟩) k13).trans hc1
          have hc2' := (hbi.cell (p := ⟨b2, o2 + j, none⟩) k23).trans hc2
          obtain ⟨q, hq⟩ : ∃ q, q = k / U := ⟨_, rfl⟩
          obtain ⟨d, hd⟩ : ∃ d, d = q % (y + 1) := ⟨_, rfl⟩
          have hqI : (k : Int).tdiv (U : Int) = (q : Int) := by rw [hq]; rfl
          have hdI : (q : Int).tmod ((y : Int) + 1) = (d : Int) := by rw [hd]; rfl
          have hql : q ≤ k := by rw [hq]; exact Nat.div_le_self _ _
          have hdl : d ≤ 12 := by have := Nat.mod_lt q (show 0 < y + 1 by omega); omega
          have HD : Hid (dg many k j = d) := by show k / unM many j % (many.getD j 0 + 1) = d; rw [← hU, ← hy, ← hq, hd]
          obtain ⟨P, hP⟩ : ∃ P, P = Wp many ls l k j := ⟨_, rfl⟩
          have hPl := HW.out k j (by omega)
          rw [← hP] at hPl
          obtain ⟨hcy0, hfy⟩ := owns_cell hOi.out hlt
          rw [hY.out.2.1, ← hP] at hcy0
          have HP2 := hide hP
          have HU2 := hide hU
          by_cases hdl2 : l ≤ d
          · obtain ⟨X, hX⟩ : ∃ X, X = l * U := ⟨_, rfl⟩
            have hXI : (l : Int) * (U : Int) = (X : Int) := by rw [hX]; simp
            have hroom : X ≤ k := by rw [hX, hU]; exact dg_room (by rw [HD.out]; exact hdl2)
            obtain ⟨kk, hkk⟩ : ∃ kk, kk = k - X := ⟨_, rfl⟩
            have hkI : (k : Int) - (X : Int) = (kk : Int) := by omega
            have hkkA : kk < A := by omega
            obtain ⟨z, hz⟩ : ∃ z, z = Wn m ls (dg many kk) := ⟨_, rfl⟩
            have hc0 := HC0.out kk hkkA
            rw [waysL_get (by rw [Hm.out, HA.out]; exact hkkA), Hm.out, ← hz] at hc0
            have hc0' := (hbi.cell (p := ⟨b0, o0 + kk, none⟩) k03).trans hc0
            have hzl : z ≤ 68719476736 := by rw [hz]; exact HWn.out _
            obtain ⟨Z, hZZ⟩ : ∃ Z, Z = P + z := ⟨_, rfl⟩
            have hZI : (P : Int) + (z : Int) = (Z : Int) := by omega
            have HPZ : Hid (Z = Wp many ls l k (j + 1)) := by
              show _ = _
              rw [hZZ, Wp_succ, HD.out, if_pos hdl2, ← hP, hz, Hm.out]
              congr 1
              refine Wn_congr (fun i _ => ?_)
              rw [hkk, hX, hU]
              exact dg_sub (by rw [HD.out]; exact hdl2) i
            have HY2 : Hid ((ys.set k (Z : Int)).length = A ∧ (ys.set k (Z : Int)).getD k 0 = ((Wp many ls l k (j + 1) : Nat) : Int) ∧ ∀ i, i ≠ k → (ys.set k (Z : Int)).getD i 0 = zs.getD i 0) := by
              have hyA := hY.out.1
              refine ⟨by rw [List.length_set]; exact hyA, by rw [getD_set (by omega), if_pos rfl, HPZ.out], fun i hi => ?_⟩
              rw [getD_set (by omega), if_neg (fun e => hi e.symm)]
              exact hY.out.2.2 i hi
            have hge : (l : Int) ≤ (d : Int) := by omega
            have hZl : Z ≤ 68719476736 := by rw [HPZ.out]; exact HW.out k (j + 1) (by omega)
            clear hX hkk hz hU hy hq hd hP hc1 hc2 hc0 hZZ
            go_upto_region 8 with fail
            go_region
            go_wp2
            go_upto_region 9 with fail
            go_region
            go_wp2
            go_roundw
            case rel =>
              refine ⟨j + 1, ys.set k (Z : Int), hjt, by go_num, ?r1, HY2, ?r2⟩
              case r1 => exact owns_set_int (m := k) hOi.out (Z : Int)
              case r2 => first | exact hbi.setCell (Nat.le_refl _) _ | exact (hbi.setCell (Nat.le_refl _) _).drew | exact (hbi.drew.setCell (Nat.le_refl _) _).drew | exact hbi.drew.setCell (Nat.le_refl _) _ | exact hbi.drew.drew.setCell (Nat.le_refl _) _
            case measure => simp [intOf]; omega
          · have hge : ¬ (l : Int) ≤ (d : Int) := by omega
            have HPZ : Hid (P = Wp many ls l k (j + 1)) := by
              show _ = _
              rw [Wp_succ, HD.out, if_neg hdl2, ← hP]
              rfl
            have HY2 : Hid (ys.length = A ∧ ys.getD k 0 = ((Wp many ls l k (j + 1) : Nat) : Int) ∧ ∀ i, i ≠ k → ys.getD i 0 = zs.getD i 0) := ⟨hY.out.1, by rw [hY.out.2.1, ← HPZ.out, ← hP], hY.out.2.2⟩
            clear hU hy hq hd hP hc1 hc2
            go_upto_region 8 with fail
            go_region
            go_wp2
            go_roundw
            case rel =>
              refine ⟨j + 1, ys, hjt, by go_num, ?r1, HY2, ?r2⟩
              case r1 => exact hOi.out
              case r2 => first | exact hbi | exact hbi.drew | exact hbi.drew.drew
            case measure => simp [intOf]; omega
        · obtain rfl : m = j := by omega
          have HZ2 : Hid (ys.length = A ∧ (∀ j, j < k + 1 → ys.getD j 0 = (waysL many (l :: ls)).getD j 0) ∧ ∀ j, k + 1 ≤ j → ys.getD j 0 = 0) := by
            refine ⟨hY.out.1, fun i hi => ?_, fun i hi => ?_⟩
            · by_cases e : i = k
              · subst e
                rw [hY.out.2.1, waysL_get (by rw [Hm.out, HA.out]; exact hlt), ← Wp_top, Hm.out]
              · rw [hY.out.2.2 i e]; exact hZ.out.2.1 i (by omega)
            · rw [hY.out.2.2 i (by omega)]; exact hZ.out.2.2 i (by omega)
          go_wp2
          go_roundw
          case rel =>
            have hfin : ∃ (k' : Nat) (zs : List Int), k' ≤ A ∧ Value.int .i64 ((k : Int) + 1) = .int .i64 (k' : Int) ∧ Hid (wr.ownsRow w.heap.size 3 1 (.slice (some ⟨w.heap.size, 0, none⟩) A A) A (zs.map (Value.int .i64))) ∧ Hid (zs.length = A ∧ (∀ j, j < k' → zs.getD j 0 = (waysL many (l :: ls)).getD j 0) ∧ ∀ j, k' ≤ j → zs.getD j 0 = 0) ∧ Below w.heap.size w wr := ⟨k + 1, ys, hlt, by go_num, hOi, HZ2, hbi⟩
            first
              | exact hfin
              | ((repeat apply Exists.intro); exact ⟨hfin, rfl⟩)
          case measure => simp [intOf]; omega
    · obtain rfl : A = k := by omega
      have hze : zs = waysL many (l :: ls) := ext_getD (by rw [hZ.out.1, waysL_length, Hm.out, HA.out]) (fun i hi => hZ.out.2.1 i (by rw [← hZ.out.1]; exact hi))
      have HOc : Hid (wr.ownsRow w.heap.size 3 1 (.slice (some ⟨w.heap.size, 0, none⟩) A A) A ((waysL many (l :: ls)).map (Value.int .i64))) := by rw [← hze]; exact hO.out
      clear hO hZ hze
      go_wp2
      go_ret
      exact ⟨_, rfl, HOc.out, hbm⟩

end Go.Proofs.YtahffpgadoiijaaGreat

/- Contract: colour.fillings. -/
namespace Go.Proofs.YtahffpgadoiijaaGreat
open Go.RowKit

/-- The lengths of cycles, the shortest first, where it is known how many there are of each. -/
def lsUp (K : List Nat) (i : Nat) : List Nat := ((List.range i).map (fun s => List.replicate (K.getD s 0) (s + 1))).flatten

theorem lsUp_succ (K : List Nat) (i : Nat) : lsUp K (i + 1) = lsUp K i ++ List.replicate (K.getD i 0) (i + 1) := by
  unfold lsUp
  rw [List.range_succ, List.map_append, List.flatten_append]
  simp

theorem lsUp_mono (K : List Nat) : ∀ {i j : Nat}, i ≤ j → (lsUp K i).length ≤ (lsUp K j).length := by
  intro i j
  induction j with
  | zero => intro h; obtain rfl : i = 0 := by omega
            exact Nat.le_refl _
  | succ j ih =>
    intro h
    by_cases e : i = j + 1
    · rw [e]; exact Nat.le_refl _
    · have := ih (by omega)
      rw [lsUp_succ, List.length_append]
      omega

theorem waysL_perm {many L M : List Nat} (h : L.Perm M) : waysL many L = waysL many M := by
  unfold waysL
  refine List.map_congr_left (fun k _ => ?_)
  rw [Wn_perm h]

theorem ways_first {many : List Nat} {zs : List Int} (hl : zs.length = unM many many.length) (h0 : zs.getD 0 0 = 1) (h : ∀ j, 1 ≤ j → zs.getD j 0 = 0) : zs = waysL many [] := by
  refine ext_getD (by rw [hl, waysL_length]) (fun i hi => ?_)
  rw [hl] at hi
  rw [waysL_get hi, Wn_nil hi]
  by_cases e : i = 0
  · subst e; rw [h0]; rfl
  · rw [if_neg e, h i (by omega)]; rfl

theorem ways_last {many L : List Nat} : (waysL many L).getD (unM many many.length - 1) 0 = ((Wn many.length L (fun j => many.getD j 0) : Nat) : Int) := by
  have hp := unM_pos many many.length
  rw [waysL_get (by omega)]
  congr 1
  exact Wn_congr (fun j hj => dg_top hj)

set_option maxRecDepth 20000 in
set_option maxHeartbeats 4000000 in
theorem fillings_ok (many K : List Nat) (v0 v1 : Value) (w : World) (h0 : Ints w v0 (natI K)) (h1 : Ints w v1 (natI many)) (hm1 : 1 ≤ many.length) (hm8 : many.length ≤ 8) (hM : ∀ x, x ∈ many → x ≤ 12) (hk1 : 1 ≤ K.length) (hk : K.length ≤ 12) (hls : (lsUp K K.length).length ≤ 12) :
    Calls Tryz.prog 64 #[v0, v1] w fun e w' => e = .returned (.int .i64 ((Wn many.length (lsUp K K.length) (fun j => many.getD j 0) : Nat) : Int)) ∧ Below w.heap.size w w' := by
  obtain ⟨j0, hji, hjz0, hjz1, hjz2⟩ := info_parts Tryz.info3
  have hAp := unM_pos many many.length
  have hAl := unM_le hM many.length hm8
  have HUL : Hid (∀ j, j ≤ many.length → 1 ≤ unM many j ∧ unM many j ≤ 815730721) := fun j hj => ⟨unM_pos many j, unM_le hM j (by omega)⟩
  have HMl : Hid (∀ j, many.getD j 0 ≤ 12) := fun j => by
    rw [List.getD]
    cases hj : many[j]? with
    | none => show 0 ≤ 12; decide
    | some y => exact hM y (List.mem_of_getElem? hj)
  have HFi : Hid (∀ (L : List Nat) (l : Nat) (x0 x1 : Value) (W : World), Ints W x0 (waysL many L) → Ints W x1 (unitsL many) → Below w.heap.size w W → L.length + 1 ≤ 12 → Calls Tryz.prog 80 #[x0, x1, v1, .int .i64 (l : Int)] W fun e w' => ∃ u, e = .returned u ∧ w'.ownsRow W.heap.size 3 1 u (unM many many.length) ((waysL many (l :: L)).map (Value.int .i64)) ∧ Below W.heap.size W w') := fun L l x0 x1 W a0 a1 hb hL => fillOne_ok many L l x0 x1 v1 W a0 a1 (h1.below hb) hm1 hm8 hM hL
  have HLm : Hid (∀ i t, i < K.length → t < K.getD i 0 → (lsUp K i ++ List.replicate t (i + 1)).length + 1 ≤ 12) := fun i t hi ht => by
    have h9 := lsUp_mono K (show i + 1 ≤ K.length by omega)
    rw [lsUp_succ, List.length_append, List.length_replicate] at h9
    rw [List.length_append, List.length_replicate]
    omega
  have HKl : Hid (∀ i, i < K.length → K.getD i 0 ≤ 12) := fun i hi => by
    have h9 := lsUp_mono K (show i + 1 ≤ K.length by omega)
    rw [lsUp_succ, List.length_append, List.length_replicate] at h9
    omega
  obtain ⟨p0, c0, e0⟩ := h0.form
  obtain ⟨p1, c1, e1⟩ := h1.form
  rw [natI_length] at e0 e1
  subst e0 e1
  obtain ⟨b0, o0, rfl, k01, k02, k03, k04⟩ := h0.open (by rw [natI_length]; exact hk1)
  obtain ⟨b1, o1, rfl, k11, k12, k13, k14⟩ := h1.open (by rw [natI_length]; exact hm1)
  rw [natI_length] at k01 k04 k11 k14
  have HC0 := hide k04
  have HC1 := hide k14
  have HWF : Hid (∀ zs : List Int, zs.length = unM many many.length → zs.getD 0 0 = 1 → (∀ j, 1 ≤ j → zs.getD j 0 = 0) → zs = waysL many []) := fun zs a b c => ways_first a b c
  have HWL : Hid (∀ L, (waysL many L).getD (unM many many.length - 1) 0 = ((Wn many.length L (fun j => many.getD j 0) : Nat) : Int)) := fun L => ways_last
  have HWln : Hid (∀ L, (waysL many L).length = unM many many.length) := fun L => waysL_length many L
  have HWn : Hid (Wn many.length (lsUp K K.length) (fun j => many.getD j 0) ≤ 68719476736) := by
    have h8 := Wn_le many.length (lsUp K K.length) (fun j => many.getD j 0)
    have h7 := pow_le12 hm8 hls
    show _ ≤ _
    omega
  generalize hR : Wn many.length (lsUp K K.length) (fun j => many.getD j 0) = R at *
  have HR := hide hR
  have HUn : Hid (∀ zs : List Int, zs.length = many.length → (∀ i, i < many.length → zs.getD i 0 = ((unM many i : Nat) : Int)) → zs = unitsL many) := fun zs a b => ext_getD (by rw [a, unitsL_length]) (fun i hi => by rw [b i (by omega), unitsL_get (by omega)])
  generalize hA : unM many many.length = A at *
  have HA := hide hA
  generalize hm : many.length = m at *
  have Hm := hide hm
  generalize hn : K.length = n at *
  have Hn := hide hn
  clear h0 h1 k04 k14 hA hm hM hR hn hls
  go_enter Tryz.func64, Tryz.ntmps64
  go_wp2_with (at_make; refine wpList_make_full _ rfl _ _ 22 rfl w.heap.size 3 j0 (.int .i64 0) 1 Tryz.underlying22 hji hjz0 hjz1 _ _ _ _ m rfl rfl (by omega) (by omega) ?b2 ?b3 (Nat.le_refl _) ?_)
  case b2 => rw [hjz2]; omega
  case b3 => unfold maxLen; omega
  intro w1 hown1 hg1
  rw [made_ints] at hown1
  have HO1 := hide hown1
  have HB1 : Hid (Below w.heap.size w w1) := (Below.refl _ _).grown hg1 (Nat.le_refl _) (fun k h => by cases h)
  clear hown1 hg1
  go_wp2
  go_loopw [6, 17] (fun s6 si wr => ∃ (j a : Nat) (zs : List Int), j ≤ m ∧ si = .int .i64 (j : Int) ∧ s6 = .int .i64 (a : Int) ∧ Hid (a = unM many j) ∧ Hid (wr.ownsRow w.heap.size 3 1 (.slice (some ⟨w.heap.size, 0, none⟩) m m) m (zs.map (Value.int .i64))) ∧ Hid (zs.length = m ∧ ∀ i, i < j → zs.getD i 0 = ((unM many i : Nat) : Int)) ∧ Below w.heap.size w wr) (fun _ si _ => m - (intOf si).toNat)
  case atStart => exact ⟨0, 1, _, Nat.zero_le _, rfl, rfl, rfl, HO1, ⟨by simp, fun j hj => absurd hj (by omega)⟩, HB1.out⟩
  case round =>
    clear HO1 HB1
    obtain ⟨j, a, zs, hj, rfl, rfl, ha, hO, hZ, hbm⟩ := hrel
    by_cases hjt : j < m
    · obtain ⟨y, hy⟩ : ∃ y, y = many.getD j 0 := ⟨_, rfl⟩
      have hyl := HMl.out j
      rw [← hy] at hyl
      have hc1 := HC1.out j hjt
      rw [natI_getD, ← hy] at hc1
      have hc1' := (hbm.cell (p := ⟨b1, o1 + j, none⟩) k13).trans hc1
      have hal := HUL.out j hj
      rw [← ha.out] at hal
      obtain ⟨a2, ha2⟩ : ∃ a2, a2 = a * (y + 1) := ⟨_, rfl⟩
      have haI : (a : Int) * ((y : Int) + 1) = (a2 : Int) := by rw [ha2]; simp
      have HA2 : Hid (a2 = unM many (j + 1)) := by show _ = _; rw [unM, ← ha.out, ← hy, ha2]
      have hal2 := HUL.out (j + 1) hjt
      rw [← HA2.out] at hal2
      obtain ⟨y3, hy3, hcy, hfy⟩ := owns_cellAt hO.out hjt
      have HOs := hide (owns_set_int (m := j) hO.out (a : Int))
      have HZ2 : Hid ((zs.set j (a : Int)).length = m ∧ ∀ i, i < j + 1 → (zs.set j (a : Int)).getD i 0 = ((unM many i : Nat) : Int)) := by
        have hzl := hZ.out.1
        refine ⟨by rw [List.length_set]; exact hzl, fun i hi => ?_⟩
        rw [getD_set (by omega)]
        by_cases e : j = i
        · subst e; rw [if_pos rfl, ha.out]
        · rw [if_neg e]; exact hZ.out.2 i (by omega)
      clear hy ha2 hc1 hy3 hO hZ ha
      go_wp2
      go_roundw
      case rel => exact ⟨j + 1, a2, _, hjt, by go_num, by go_num, HA2, HOs, HZ2, hbm.setCell (Nat.le_refl _) _⟩
      case measure => simp [intOf]; omega
    · obtain rfl : m = j := by omega
      have haA : a = A := by
        have h9 := ha.out
        have h8 := HA.out
        rw [h8] at h9
        exact h9
      subst haA
      have hze := HUn.out zs hZ.out.1 hZ.out.2
      have HU : Hid (wr.ownsRow w.heap.size 3 1 (.slice (some ⟨w.heap.size, 0, none⟩) m m) m ((unitsL many).map (Value.int .i64))) := by rw [← hze]; exact hO.out
      have hsz : w.heap.size ≤ wr.heap.size := hbm.size
      have HBW := hide hbm
      obtain ⟨w2, hw2⟩ : ∃ w2, w2 = wr := ⟨_, rfl⟩
      clear hO hZ ha hze hbm
      go_wp2_with (at_make; refine wpList_make_full _ rfl _ _ 22 rfl wr.heap.size 3 j0 (.int .i64 0) 1 Tryz.underlying22 hji hjz0 hjz1 _ _ _ _ a rfl rfl (by omega) (by omega) ?b2 ?b3 (Nat.le_refl _) ?_)
      case b2 => rw [hjz2]; omega
      case b3 => unfold maxLen; omega
      intro w3 hown3 hg3
      rw [made_ints] at hown3
      have hB3 : Below wr.heap.size wr w3 := (Below.refl _ _).grown hg3 (Nat.le_refl _) (fun k h => by cases h)
      obtain ⟨y4, hy4, hcy4, hfy4⟩ := owns_cellAt hown3 (show 0 < a by omega)
      have HOs := hide (owns_set_int (m := 0) hown3 (1 : Int))
      have hzw : (List.replicate a (0 : Int)).set 0 1 = waysL many [] := HWF.out _ (by simp) (by rw [getD_set (by rw [List.length_replicate]; omega), if_pos rfl]) (fun j hj => by
        rw [getD_set (by rw [List.length_replicate]; omega), if_neg (by omega), List.getD, List.getElem?_replicate]; split <;> rfl)
      rw [hzw] at HOs
      have HU3 : Hid ((w3.setCell ⟨wr.heap.size, 0, none⟩ (.int .i64 1)).ownsRow w.heap.size 3 1 (.slice (some ⟨w.heap.size, 0, none⟩) m m) m ((unitsL many).map (Value.int .i64))) := by
        have hlt := (World.ownsRow.lt HU.out w.heap.size rfl).2
        refine owns_block (owns_below HU.out hB3 (Nat.le_refl _)) (fun g hg => ?_)
        have h8 : w.heap.size = g := Option.some.inj hg
        exact Below.heap_setCell _ _ _ _ (fun e9 => by have e8 : g = wr.heap.size := e9; omega)
      have HB3 : Hid (Below w.heap.size w (w3.setCell ⟨wr.heap.size, 0, none⟩ (.int .i64 1))) := (HBW.out.trans (hB3.mono hsz)).setCell hsz _
      have HOw : Hid ((w3.setCell ⟨wr.heap.size, 0, none⟩ (.int .i64 1)).ownsRow w.heap.size 3 1 (.slice (some ⟨wr.heap.size, 0, none⟩) a a) a ((waysL many []).map (Value.int .i64))) := owns_base HOs.out hsz
      clear hown3 hg3 hB3 hy4 HOs hzw HU HBW
      go_wp2
      go_loopw [9, 37] (fun s9 si wi => ∃ i : Nat, i ≤ n ∧ si = .int .i64 (i : Int) ∧ Hid (wi.ownsRow w.heap.size 3 1 s9 a ((waysL many (lsUp K i)).map (Value.int .i64))) ∧ Hid (wi.ownsRow w.heap.size 3 1 (.slice (some ⟨w.heap.size, 0, none⟩) m m) m ((unitsL many).map (Value.int .i64))) ∧ Below w.heap.size w wi) (fun _ si _ => n - (intOf si).toNat)
      case atStart => exact ⟨0, Nat.zero_le _, rfl, HOw, HU3, HB3.out⟩
      case round =>
        clear HOw HU3 HB3
        obtain ⟨i, hi, rfl, hOw, hU, hbi⟩ := hrel
        obtain ⟨g, cap, eg, hg1, hg2, hg3, hg4⟩ := owns_form hOw.out (by omega)
        subst eg
        by_cases hit : i < n
        · obtain ⟨y, hy⟩ : ∃ y, y = K.getD i 0 := ⟨_, rfl⟩
          have hc0 := HC0.out i hit
          rw [natI_getD, ← hy] at hc0
          have hc0' := (hbi.cell (p := ⟨b0, o0 + i, none⟩) k03).trans hc0
          have hyl := HKl.out i hit
          rw [← hy] at hyl
          have HY := hide hy
          have HO0 : Hid (wr.ownsRow w.heap.size 3 1 (.slice (some ⟨g, 0, none⟩) a cap) a ((waysL many (lsUp K i ++ List.replicate 0 (i + 1))).map (Value.int .i64))) := by rw [List.replicate_zero, List.append_nil]; exact hOw.out
          have HBI := hide hbi
          clear hy hc0 hOw
          go_wp2
          go_loopw [9, 43] (fun s9 st wi => ∃ t : Nat, t ≤ y ∧ st = .int .i64 (t : Int) ∧ Hid (wi.ownsRow w.heap.size 3 1 s9 a ((waysL many (lsUp K i ++ List.replicate t (i + 1))).map (Value.int .i64))) ∧ Hid (wi.ownsRow w.heap.size 3 1 (.slice (some ⟨w.heap.size, 0, none⟩) m m) m ((unitsL many).map (Value.int .i64))) ∧ Below w.heap.size w wi) (fun _ st _ => y - (intOf st).toNat)
          case atStart => exact ⟨0, Nat.zero_le _, rfl, HO0, hU, HBI.out⟩
          case round =>
            clear HO0 hU HBI hbi hc0' hg1 hg2 hg3 hg4
            obtain ⟨t, ht, rfl, hOt, hUt, hbt⟩ := hrel
            by_cases htt : t < y
            · have hsz2 := hbt.size
              have HCall := HFi.out (lsUp K i ++ List.replicate t (i + 1)) (i + 1) _ _ wr (Ints.own hOt.out) (Ints.own hUt.out) hbt (HLm.out i t hit (by rw [← HY.out]; exact htt))
              have e1 : (((i + 1 : Nat)) : Int) = (i : Int) + 1 := by omega
              rw [e1] at HCall
              have HC2 := hide HCall
              obtain ⟨p9, c9, e9⟩ := owns_slice hOt.out
              subst e9
              have HUt := hide hUt.out
              have HBt := hide hbt
              clear HCall e1 hOt hUt hbt
              go_wp2_with fail
              refine HC2.out.mono ?_
              rintro e w5 ⟨u5, rfl, hown5, hb5⟩
              have HO5 : Hid (w5.ownsRow w.heap.size 3 1 u5 a ((waysL many (lsUp K i ++ List.replicate (t + 1) (i + 1))).map (Value.int .i64))) := by
                rw [List.replicate_succ', ← List.append_assoc, waysL_perm (List.perm_append_singleton (i + 1) (lsUp K i ++ List.replicate t (i + 1)))]
                exact owns_base hown5 hsz2
              have HU5 := hide (owns_below HUt.out hb5 (Nat.le_refl _))
              have HB5 := hide (HBt.out.trans (hb5.mono hsz2))
              clear hown5 hb5 HC2 HUt HBt
              go_wp2
              go_roundw
              case rel =>
                have hfin : ∃ t' : Nat, t' ≤ y ∧ Value.int .i64 ((t : Int) + 1) = .int .i64 (t' : Int) ∧ Hid (w5.ownsRow w.heap.size 3 1 u5 a ((waysL many (lsUp K i ++ List.replicate t' (i + 1))).map (Value.int .i64))) ∧ Hid (w5.ownsRow w.heap.size 3 1 (.slice (some ⟨w.heap.size, 0, none⟩) m m) m ((unitsL many).map (Value.int .i64))) ∧ Below w.heap.size w w5 := ⟨t + 1, htt, by go_num, HO5, HU5, HB5.out⟩
                first
                  | exact hfin
                  | ((repeat apply Exists.intro); exact ⟨hfin, rfl⟩)
              case measure => simp [intOf]; omega
            · obtain rfl : y = t := by omega
              have HO6 : Hid (wr.ownsRow w.heap.size 3 1 u9 a ((waysL many (lsUp K (i + 1))).map (Value.int .i64))) := by rw [lsUp_succ, ← HY.out]; exact hOt.out
              have HB6 := hide hbt
              clear hOt hbt
              go_wp2
              go_roundw
              case rel =>
                have hfin : ∃ i' : Nat, i' ≤ n ∧ Value.int .i64 ((i : Int) + 1) = .int .i64 (i' : Int) ∧ Hid (wr.ownsRow w.heap.size 3 1 u9 a ((waysL many (lsUp K i')).map (Value.int .i64))) ∧ Hid (wr.ownsRow w.heap.size 3 1 (.slice (some ⟨w.heap.size, 0, none⟩) m m) m ((unitsL many).map (Value.int .i64))) ∧ Below w.heap.size w wr := ⟨i + 1, hit, by go_num, HO6, hUt, HB6.out⟩
                first
                  | exact hfin
                  | ((repeat apply Exists.intro); exact ⟨hfin, rfl⟩)
              case measure => simp [intOf]; omega
        · obtain rfl : n = i := by omega
          obtain ⟨a1, ha1⟩ : ∃ a1, a1 = a - 1 := ⟨_, rfl⟩
          have haI : (a : Int) - 1 = (a1 : Int) := by omega
          have ha1l : a1 < a := by omega
          have hcl := (owns_cell hOw.out ha1l).1
          rw [ha1, HWL.out, HR.out, ← ha1] at hcl
          clear ha1 hOw hU
          go_wp2
          go_ret
          exact ⟨rfl, hbi⟩

end Go.Proofs.YtahffpgadoiijaaGreat

/- Contract: extent.setsOf. -/
namespace Go.Proofs.YtahffpgadoiijaaGreat
open Go.RowKit

theorem ownAll_of {w : World} {B : Nat} : ∀ {vs : List Value} {A : List (List Int)}, vs.length = A.length → (∀ j, j < vs.length → w.ownsRow B 3 1 (vs.getD j undef) (A.getD j []).length ((A.getD j []).map (Value.int .i64))) → OwnAll w B vs A
  | [], [], _, _ => trivial
  | u :: us, x :: xs, hl, h => ⟨h 0 (by simp), ownAll_of (by simpa using hl) (fun j hj => h (j + 1) (by simpa using hj))⟩
  | [], _ :: _, hl, _ => by simp at hl
  | _ :: _, [], hl, _ => by simp at hl

theorem pairwise_getD {vs : List Value} (h : vs.Pairwise Apt) {i j : Nat} (hi : i < vs.length) (hj : j < vs.length) (hne : i ≠ j) : Apt (vs.getD i undef) (vs.getD j undef) := by
  rw [List.getD, List.getD, List.getElem?_eq_getElem hi, List.getElem?_eq_getElem hj]
  rcases Nat.lt_or_gt_of_ne hne with hlt | hlt
  · exact List.pairwise_iff_getElem.1 h i j hi hj hlt
  · exact (List.pairwise_iff_getElem.1 h j i hj hi hlt).symm

/-- One list of lists is written in its place. -/
theorem LL.sort_at {w w' : World} {B j : Nat} {v : Value} {vs : List Value} {A : List (List Int)} {X : List Int} (h : LL w B v vs A) (hap : vs.Pairwise Apt) (hj : j < A.length) (hown : w'.ownsRow B 3 1 (vs.getD j undef) X.length (X.map (Value.int .i64))) (hg : w.grownBy w' (vs.getD j undef).ownBlock) : LL w' B v vs (A.set j X) := by
  have hl := h.len
  have hat := h.at hj
  refine ⟨owns_of_block h.row (fun g hg' => hg.block g (h.row.lt g hg').2 (fun e => owns_ty hat h.row (by decide) g e.symm hg')), ownAll_of (by rw [List.length_set, hl]) (fun i hi => ?_)⟩
  have hi' : i < A.length := by omega
  by_cases e : i = j
  · subst e
    rw [show (A.set i X).getD i [] = X by rw [List.getD, List.getElem?_set, if_pos rfl, if_pos hi']; rfl]
    exact hown
  · rw [show (A.set j X).getD i [] = A.getD i [] by rw [List.getD, List.getD, List.getElem?_set, if_neg (fun h => e h.symm)]]
    have hai := h.at hi'
    exact owns_of_block hai (fun g hg' => hg.block g (hai.lt g hg').2 (fun e' => pairwise_getD hap (by omega) (by omega) e g hg' e'.symm))

/-- In order. -/
def srt (zs : List Int) : List Int := zs.mergeSort (fun x y => decide (x ≤ y))

theorem srt_length (zs : List Int) : (srt zs).length = zs.length := List.length_mergeSort _

theorem set_srt {A : List (List Int)} {j : Nat} {X : List Int} (h : A[j]? = some X) : ((A.take j).map srt ++ A.drop j).set j (srt X) = (A.take (j + 1)).map srt ++ A.drop (j + 1) := by
  have hj := (List.getElem?_eq_some_iff.1 h).1
  refine List.ext_getElem? (fun i => ?_)
  have hl : ((A.take j).map srt).length = j := by rw [List.length_map, List.length_take]; omega
  have hl2 : ((A.take (j + 1)).map srt).length = j + 1 := by rw [List.length_map, List.length_take]; omega
  rw [List.getElem?_set]
  by_cases e : j = i
  · subst e
    rw [if_pos rfl, if_pos (by rw [List.length_append, hl, List.length_drop]; omega), List.getElem?_append_left (by omega), List.getElem?_map, List.getElem?_take, if_pos (by omega), h]
    rfl
  · rw [if_neg e]
    rcases Nat.lt_or_ge i j with hi | hi
    · rw [List.getElem?_append_left (by omega), List.getElem?_append_left (by omega), List.getElem?_map, List.getElem?_map, List.getElem?_take, List.getElem?_take, if_pos hi, if_pos (by omega)]
    · rw [List.getElem?_append_right (by omega), List.getElem?_append_right (by omega), hl, hl2, List.getElem?_drop, List.getElem?_drop]
      congr 1
      omega

theorem nx_get {X : List Pm} {c : Pm} {n : Nat} {G : Pm → Prop} (hR : Rws n G X) (hc : G c) {i : Nat} (hi : i < X.length) : nx (mv X c) i < X.length := by
  have := nx_lt (mv_row hR.nodup (hR.cls hc)) (x := i) (by rw [mv_length]; exact hi)
  rwa [mv_length] at this

theorem mv_nat {X : List Pm} {c : Pm} {i : Nat} (hi : i < X.length) : (mv X c).getD i 0 = ((nx (mv X c) i : Nat) : Int) := by
  have h9 : X[i]? = some X[i] := List.getElem?_eq_getElem hi
  rw [mv_nx h9, List.getD, mv_get h9]
  rfl

/-- What undoes where a change leads. -/
theorem before_is {n : Nat} {G : Pm → Prop} {X : List Pm} (hR : Rws n G X) {b : Pm} (hb : G b) {zs : List Int} (hl : zs.length = X.length) (h : ∀ j, j < X.length → zs.getD (nx (mv X b) j) 0 = (j : Int)) : zs = mv X b⁻¹ := by
  refine ext_getD (by rw [hl, mv_length]) (fun i hi => ?_)
  rw [hl] at hi
  have h9 : X[i]? = some X[i] := List.getElem?_eq_getElem hi
  have hm : X[i] * b⁻¹ ∈ X := hR.cls (hR.sub.inv hb) _ (List.mem_of_getElem? h9)
  have h8 := h _ (ix_lt hm)
  rw [mv_nx (ix_get hm), Pm.mul_assoc, Pm.inv_mul, Pm.mul_one, ix_of hR.nodup h9] at h8
  rw [h8, List.getD, mv_get h9]
  rfl

theorem other_is {n : Nat} {G : Pm → Prop} {X : List Pm} (hR : Rws n G X) {a c : Pm} (ha : G a) {zs : List Int} (hl : zs.length = X.length) (h : ∀ j, j < X.length → zs.getD j 0 = (mv X c).getD (nx (mv X a) j) 0) : zs = mv X (a * c) := by
  rw [← mv_by (hR.cls ha)]
  refine ext_getD (by rw [hl, by_length, mv_length]) (fun i hi => ?_)
  rw [hl] at hi
  rw [h i hi]
  unfold by_
  rw [List.getD, List.getD, List.getElem?_map, mv_get (List.getElem?_eq_getElem hi), mv_nx (List.getElem?_eq_getElem hi)]
  rfl

/-- Where x and y lead, in memory. -/
structure ToAt (w : World) (v0 v1 : Value) (X : List Pm) (a b : Pm) : Prop where
  x : Ints w v0 (mv X a)
  y : Ints w v1 (mv X b)

def SetsPost (X : List Pm) (c : Pm) (w : World) (e : Ending) (w' : World) : Prop :=
  ∃ u us, e = .returned u ∧ LL w' w.heap.size u us ((cycsTo (mv X c) X.length).map srt) ∧ Below w.heap.size w w'

end Go.Proofs.YtahffpgadoiijaaGreat

/- Contracts: GensMay, the answer's own; Check where it refuses. -/
namespace Go.Proofs.YtahffpgadoiijaaGreat
open Go.RowKit

set_option maxRecDepth 20000 in
set_option maxHeartbeats 2000000 in
theorem gensMay_ok (n : Nat) (v : Value) (xss : List (List Int)) (w : World) (h : IntsAll w v xss) (h1 : 1 ≤ n) (h12 : n ≤ 12) (h8 : xss.length ≤ 8) :
    Calls Tryz.prog 7 #[.int .i64 n, v] w fun e w' => e = .returned (.int .i64 (gchk n xss)) ∧ w = w' := by
  obtain ⟨vs, hv, hl, he⟩ := h
  have hn1 : ¬ ((n : Int) < 1) := by omega
  have hn2 : ¬ ((n : Int) > 12) := by omega
  rcases hv with ⟨rfl, p, c, rfl⟩ | ⟨b, off, cap, rfl, h0, hc, hm, hb, hcell⟩
  · obtain rfl : xss = [] := List.length_eq_zero_iff.1 (by simpa using hl.symm)
    clear he hl
    go_enter Tryz.func7, Tryz.ntmps7
    go_wp2
    go_loop [5] (fun i => i = .int .i64 0) (fun _ => 0)
    case atStart => rfl
    case round =>
      subst hrel
      go_wp2
      go_ret
      exact ⟨rfl, rfl⟩
  · have hv8 : (vs.length : Int) ≤ 8 := by omega
    have HL := hide hl
    have HE := hide he
    have HC := hide hcell
    clear hl he hcell
    go_enter Tryz.func7, Tryz.ntmps7
    go_wp2
    go_loop [5] (fun i => ∃ k : Nat, k ≤ vs.length ∧ i = .int .i64 k ∧ Hid (gchk n (xss.drop k) = gchk n xss)) (fun i => vs.length - (intOf i).toNat)
    case atStart => exact ⟨0, by omega, rfl, rfl⟩
    case round =>
      obtain ⟨k, hk, rfl, ht⟩ := hrel
      by_cases hlt : k < vs.length
      · have hkx : k < xss.length := by have := HL.out; omega
        obtain ⟨p1, c1, hcx, hix⟩ := elAt HC.out hlt (HE.out k hkx)
        have HS := hide (rowMay_any _ _ w hix.out)
        have HD := hide (gchk_drop (n := n) hkx)
        rw [ht.out] at HD
        generalize xss.getD k [] = X at *
        generalize hlx : X.length = lx at *
        have HLX := hide hlx
        clear hix hlx
        go_wp2_with fail
        refine HS.out.mono ?_
        rintro e w1 ⟨rfl, rfl⟩
        by_cases hz : chk X = 0
        · by_cases hn : lx = n
          · have hr : rchk n X = 0 := by unfold rchk; rw [if_pos hz, if_pos (by rw [HLX.out]; exact hn)]
            have HD' : Hid (gchk n (xss.drop (k + 1)) = gchk n xss) := by have := HD.out; rw [if_pos hr] at this; exact this.symm
            rw [hz]
            subst hn
            clear HD HS hz hr
            go_wp2
            go_round
            case rel => exact ⟨k + 1, by omega, by go_num, HD'⟩
            case measure => simp [intOf]; omega
          · have hr : rchk n X = 1 := by unfold rchk; rw [if_pos hz, if_neg (by rw [HLX.out]; exact hn)]
            have HD' : Hid (gchk n xss = 1) := by have := HD.out; rw [hr, if_neg (by decide)] at this; exact this
            have hnn : ((lx : Int) != (n : Int)) = true := by rw [bne_iff_ne]; omega
            rw [hz]
            clear HD HS hz hr hn
            go_wp2
            go_ret
            exact ⟨ret_int HD'.out.symm, rfl⟩
        · have hr : rchk n X = chk X := by unfold rchk; rw [if_neg hz]
          have HD' : Hid (gchk n xss = chk X) := by have := HD.out; rw [hr, if_neg hz] at this; exact this
          have hne : (chk X != 0) = true := by rw [bne_iff_ne]; exact hz
          clear HD HS hz hr
          generalize chk X = z at *
          go_wp2
          go_ret
          exact ⟨ret_int HD'.out.symm, rfl⟩
      · have HE0 : Hid (gchk n xss = 0) := by show _ = _; rw [← ht.out, List.drop_eq_nil_of_le (by have := HL.out; omega)]; rfl
        go_wp2
        go_ret
        exact ⟨ret_int HE0.out.symm, rfl⟩

set_option maxRecDepth 20000 in
theorem gensMay_bad (n : Int) (v : Value) (xss : List (List Int)) (w : World) (h : IntsAll w v xss) (hb : n < 1 ∨ 12 < n ∨ 8 < xss.length) :
    Calls Tryz.prog 7 #[.int .i64 n, v] w fun e w' => e = .returned (.int .i64 1) ∧ w = w' := by
  obtain ⟨vs, hv, hl, _⟩ := h
  obtain ⟨p, c, rfl⟩ := hv.form
  clear hv
  by_cases h1 : n < 1
  · go_enter Tryz.func7, Tryz.ntmps7
    go_wp2
    go_ret
    exact ⟨rfl, rfl⟩
  · by_cases h2 : n > 12
    · go_enter Tryz.func7, Tryz.ntmps7
      go_wp2
      go_ret
      exact ⟨rfl, rfl⟩
    · have h3 : (vs.length : Int) > 8 := by omega
      clear hb hl
      go_enter Tryz.func7, Tryz.ntmps7
      go_wp2
      go_ret
      exact ⟨rfl, rfl⟩

set_option maxRecDepth 20000 in
theorem gcheck_bad (n : Int) (v : Value) (xss : List (List Int)) (w : World) (h : IntsAll w v xss) (hb : n < 1 ∨ 12 < n ∨ 8 < xss.length) :
    Calls Tryz.prog 48 #[.int .i64 n, v] w fun e w' => e = .returned (.int .i64 1) ∧ w = w' := by
  obtain ⟨vs, hv, hl, _⟩ := h
  obtain ⟨p, c, rfl⟩ := hv.form
  clear hv
  by_cases h1 : n < 1
  · go_enter Tryz.func48, Tryz.ntmps48
    go_wp2
    go_ret
    exact ⟨rfl, rfl⟩
  · by_cases h2 : n > 12
    · go_enter Tryz.func48, Tryz.ntmps48
      go_wp2
      go_ret
      exact ⟨rfl, rfl⟩
    · have h3 : (vs.length : Int) > 8 := by omega
      clear hb hl
      go_enter Tryz.func48, Tryz.ntmps48
      go_wp2
      go_ret
      exact ⟨rfl, rfl⟩

end Go.Proofs.YtahffpgadoiijaaGreat

/- Contracts: GensMay, the answer's own; Check and Make where they refuse. -/
namespace Go.Proofs.YtahffpgadoiijaaGreat
open Go.RowKit

/-- Make, where Check refuses. -/
theorem make_refuses (n : Int) (v : Value) (c : Int) (w : World) (hc : c ≠ 0) (hk : Calls Tryz.prog 48 #[.int .i64 n, v] w fun e w' => e = .returned (.int .i64 c) ∧ Below w.heap.size w w') :
    Calls Tryz.prog 24 #[.int .i64 n, v] w fun e w' => e = .returned (.tuple #[.pointer none, .int .i64 c]) ∧ Below w.heap.size w w' := by
  have HK := hide hk
  have hne : (c != 0) = true := by rw [bne_iff_ne]; exact hc
  clear hk hc
  go_enter Tryz.func24, Tryz.ntmps24
  go_wp2_with fail
  refine HK.out.mono ?_
  rintro e w1 ⟨rfl, hb1⟩
  go_wp2
  go_ret2
  exact ⟨rfl, hb1⟩

end Go.Proofs.YtahffpgadoiijaaGreat

/- Contracts: extent.exits, extent.Qsets. -/
namespace Go.Proofs.YtahffpgadoiijaaGreat
open Go.RowKit

theorem ints_two {w : World} {m : Nat} {v1 v2 : Value} {xs ys : List Int} (hm : w.heap.size = m) (h1 : Ints w v1 xs) (h2 : Ints w v2 ys) : IntsAll (w.alloc (.cells #[v1, v2] 22)) (.slice (some ⟨m, 0, none⟩) 2 2) [xs, ys] := by
  subst hm
  have hb : Below w.heap.size w (w.alloc (.cells #[v1, v2] 22)) := (Below.refl _ _).alloc (Nat.le_refl _) _
  have hc := cells2_new w v1 v2 22
  refine ⟨[v1, v2], Or.inr ⟨w.heap.size, 0, 2, rfl, by simp, by simp, by omega, by simp, fun j hj => ?_⟩, rfl, fun j hj => ?_⟩
  · match j, hj with
    | 0, _ => exact hc.1
    | 1, _ => exact hc.2
  · match j, hj with
    | 0, _ => exact h1.below hb
    | 1, _ => exact h2.below hb

theorem two_range {w : World} {b : Nat} {x y : Value} {t : TypeId} (h : w.heap[b]? = some (.cells #[x, y] t)) : w.rangeAt b 0 [x, y] := by
  intro j v hv
  match j, hv with
  | 0, hv => simp at hv; subst hv; simp [World.cell?, h]
  | 1, hv => simp at hv; subst hv; simp [World.cell?, h]

/-- The group of two rows. -/
abbrev G2 (xs ys : List Int) : Pm → Prop := Gen (fun z => z ∈ [xs, ys].map pad)

def ExitsPost (n : Nat) (xs ys : List Int) (w : World) (e : Ending) (w' : World) : Prop :=
  ∃ (v0 v1 : Value) (X : List Pm), e = .returned (.tuple #[.agg #[v0, v1], .int .i64 0]) ∧ Rws n (G2 xs ys) X ∧ ToAt w' v0 v1 X (pad xs) (pad ys) ∧ Below w.heap.size w w'

theorem g2_left (xs ys : List Int) : G2 xs ys (pad xs) := Gen.of (by simp)
theorem g2_right (xs ys : List Int) : G2 xs ys (pad ys) := Gen.of (by simp)

end Go.Proofs.YtahffpgadoiijaaGreat

/- Contract: extent.Qsets where it tells sets. -/
namespace Go.Proofs.YtahffpgadoiijaaGreat
open Go.RowKit

/-- The sets of two rows' group. -/
noncomputable def qs (X : List Pm) (a b : Pm) : List (List Int) := (cycsTo (mv X (a * b⁻¹)) X.length).map srt

def QPost (n : Nat) (xs ys : List Int) (w : World) (e : Ending) (w' : World) : Prop :=
  ∃ (u : Value) (us : List Value) (X : List Pm), e = .returned (.tuple #[u, .int .i64 0]) ∧ Rws n (G2 xs ys) X ∧ LL w' w.heap.size u us (qs X (pad xs) (pad ys)) ∧ Below w.heap.size w w'

/-- Qsets, where it refuses. -/
def QNo (c : Int) (w : World) (e : Ending) (w' : World) : Prop := e = .returned (.tuple #[.slice none 0 0, .int .i64 c]) ∧ Below w.heap.size w w'

/-- exits, where it refuses. -/
def ExNo (c : Int) (w : World) (e : Ending) (w' : World) : Prop := e = .returned (.tuple #[.agg #[.slice none 0 0, .slice none 0 0], .int .i64 c]) ∧ Below w.heap.size w w'

end Go.Proofs.YtahffpgadoiijaaGreat

/- Plain: sets that must be left alike; where one is led if each is left by x or by y. -/
namespace Go.Proofs.YtahffpgadoiijaaGreat

theorem cyc_nodup {r : List Int} (hr : isRow r) : ∀ k, k ≤ r.length → (cycsTo r k).flatten.Nodup
  | 0, _ => by simp [cycsTo]
  | k + 1, hk => by
    have ih := cyc_nodup hr k (by omega)
    rw [cycsTo_succ]
    split
    · exact ih
    · rename_i hn
      rw [List.flatten_append, List.nodup_append]
      refine ⟨ih, ?_, fun x hx y hy e => ?_⟩
      · rw [show [orb r k (per r k)].flatten = orb r k (per r k) from by simp]
        unfold orb
        rw [List.Nodup, List.pairwise_map]
        refine List.Pairwise.imp_of_mem (fun {i j} hi hj h e => h ?_) List.nodup_range
        exact orb_inj hr (by omega) (List.mem_range.1 hi) (List.mem_range.1 hj) (by omega)
      · rw [show [orb r k (per r k)].flatten = orb r k (per r k) from by simp] at hy
        obtain ⟨i, hi, e'⟩ := mem_orb.1 hy
        subst e
        rw [e'] at hx
        exact it_notin hr (by omega) hn i hx

theorem orb_next {r : List Int} (hr : isRow r) {k i : Nat} (hk : k < r.length) (h : (i : Int) ∈ orb r k (per r k)) : ((nx r i : Nat) : Int) ∈ orb r k (per r k) := by
  obtain ⟨j, hj, e⟩ := mem_orb.1 h
  have e' : i = it r j k := by omega
  subst e'
  obtain ⟨p1, _, p3, _⟩ := per_spec hr hk
  rcases Nat.lt_or_ge (j + 1) (per r k) with h1 | h1
  · exact mem_orb.2 ⟨j + 1, h1, rfl⟩
  · have e2 : j + 1 = per r k := by omega
    refine mem_orb.2 ⟨0, by omega, ?_⟩
    show ((it r (j + 1) k : Nat) : Int) = _
    rw [e2, p3]
    rfl

theorem mem_srt {zs : List Int} {x : Int} : x ∈ srt zs ↔ x ∈ zs := (List.mergeSort_perm zs _).mem_iff

/-- Numbers below N, each in one list of some, and with each what it leads to. -/
structure Sts (N : Nat) (σ : Nat → Nat) (A : List (List Int)) : Prop where
  all : ∀ r : Nat, r < N → ∃ (i : Nat) (S : List Int), A[i]? = some S ∧ (r : Int) ∈ S
  below : ∀ (i : Nat) (S : List Int) (x : Int), A[i]? = some S → x ∈ S → ∃ r : Nat, r < N ∧ x = (r : Int)
  one : ∀ (i j : Nat) (S T : List Int) (x : Int), A[i]? = some S → A[j]? = some T → x ∈ S → x ∈ T → i = j
  next : ∀ (i : Nat) (S : List Int) (r : Nat), A[i]? = some S → (r : Int) ∈ S → ((σ r : Nat) : Int) ∈ S

theorem flat_one {l : List (List Int)} (h : l.flatten.Nodup) {i j : Nat} {S T : List Int} {x : Int} (hi : l[i]? = some S) (hj : l[j]? = some T) (h1 : x ∈ S) (h2 : x ∈ T) : i = j := by
  induction l generalizing i j with
  | nil => simp at hi
  | cons a l ih =>
    rw [List.flatten_cons, List.nodup_append] at h
    cases i with
    | zero =>
      cases j with
      | zero => rfl
      | succ j =>
        simp at hi hj
        subst hi
        exact absurd rfl (h.2.2 x h1 x (List.mem_flatten.2 ⟨T, List.mem_of_getElem? hj, h2⟩))
    | succ i =>
      cases j with
      | zero =>
        simp at hi hj
        subst hj
        exact absurd rfl (h.2.2 x h2 x (List.mem_flatten.2 ⟨S, List.mem_of_getElem? hi, h1⟩))
      | succ j =>
        simp at hi hj
        rw [ih h.2.1 hi hj]

theorem sts_of {r : List Int} (hr : isRow r) : Sts r.length (nx r) ((cycsTo r r.length).map srt) := by
  have get : ∀ {i : Nat} {S : List Int}, ((cycsTo r r.length).map srt)[i]? = some S → ∃ C, (cycsTo r r.length)[i]? = some C ∧ S = srt C := fun {i S} h => by
    rw [List.getElem?_map] at h
    obtain ⟨C, h1, h2⟩ := Option.map_eq_some_iff.1 h
    exact ⟨C, h1, h2.symm⟩
  refine ⟨fun x hx => ?_, fun i S x hi hx => ?_, fun i j S T x hi hj h1 h2 => ?_, fun i S x hi hx => ?_⟩
  · have h9 := flat_all hr r.length (Nat.le_refl _) x hx
    obtain ⟨C, hC, hxC⟩ := List.mem_flatten.1 h9
    obtain ⟨i, hi, e⟩ := List.getElem_of_mem hC
    exact ⟨i, srt C, by rw [List.getElem?_map, List.getElem?_eq_getElem hi, e]; rfl, mem_srt.2 hxC⟩
  · obtain ⟨C, h1, rfl⟩ := get hi
    obtain ⟨y, hy, rfl⟩ := cyc_form (List.mem_of_getElem? h1)
    obtain ⟨j, hj, e⟩ := mem_orb.1 (mem_srt.1 hx)
    exact ⟨it r j y, it_lt hr hy j, e⟩
  · obtain ⟨C, k1, rfl⟩ := get hi
    obtain ⟨D, k2, rfl⟩ := get hj
    exact flat_one (cyc_nodup hr _ (Nat.le_refl _)) k1 k2 (mem_srt.1 h1) (mem_srt.1 h2)
  · obtain ⟨C, h1, rfl⟩ := get hi
    obtain ⟨y, hy, rfl⟩ := cyc_form (List.mem_of_getElem? h1)
    exact mem_srt.2 (orb_next hr hy (mem_srt.1 hx))

/-- Which set a number is of. -/
def sof (A : List (List Int)) (r : Nat) : Nat := A.findIdx (fun S => decide ((r : Int) ∈ S))

theorem Sts.sof {N : Nat} {σ : Nat → Nat} {A : List (List Int)} (h : Sts N σ A) {i r : Nat} {S : List Int} (hi : A[i]? = some S) (hr : (r : Int) ∈ S) : sof A r = i := by
  have hlt : Go.Proofs.YtahffpgadoiijaaGreat.sof A r < A.length := List.findIdx_lt_length.2 ⟨S, List.mem_of_getElem? hi, decide_eq_true hr⟩
  have h9 := List.findIdx_getElem (p := fun S : List Int => decide ((r : Int) ∈ S)) (w := hlt)
  exact h.one _ _ _ _ _ (List.getElem?_eq_getElem hlt) hi (of_decide_eq_true h9) hr

theorem Sts.next_sof {N : Nat} {σ : Nat → Nat} {A : List (List Int)} (h : Sts N σ A) {r : Nat} (hr : r < N) : Go.Proofs.YtahffpgadoiijaaGreat.sof A (σ r) = Go.Proofs.YtahffpgadoiijaaGreat.sof A r := by
  obtain ⟨i, S, hi, hS⟩ := h.all r hr
  rw [h.sof hi hS, h.sof hi (h.next i S r hi hS)]

/-- What is chosen for a number's set. -/
def chc (A : List (List Int)) (cs : List Int) (r : Nat) : Int := cs.getD (sof A r) 0

/-- Where one is led. -/
noncomputable def nxL (X : List Pm) (a b : Pm) (A : List (List Int)) (cs : List Int) : List Int := (List.range X.length).map (fun r => (if chc A cs r = 1 then mv X b else mv X a).getD r 0)

theorem nxL_length (X : List Pm) (a b : Pm) (A : List (List Int)) (cs : List Int) : (nxL X a b A cs).length = X.length := by unfold nxL; rw [List.length_map, List.length_range]

theorem nxL_get {X : List Pm} {a b : Pm} {A : List (List Int)} {cs : List Int} {r : Nat} {p : Pm} (hr : X[r]? = some p) : (nxL X a b A cs).getD r 0 = ((ix X (p * if chc A cs r = 1 then b else a) : Nat) : Int) := by
  have hl := (List.getElem?_eq_some_iff.1 hr).1
  unfold nxL
  rw [List.getD, List.getElem?_map, List.getElem?_range hl]
  show (if chc A cs r = 1 then mv X b else mv X a).getD r 0 = _
  split
  · rw [List.getD, mv_get hr]; rfl
  · rw [List.getD, mv_get hr]; rfl

theorem nxL_nx {X : List Pm} {a b : Pm} {A : List (List Int)} {cs : List Int} {r : Nat} {p : Pm} (hr : X[r]? = some p) : nx (nxL X a b A cs) r = ix X (p * if chc A cs r = 1 then b else a) := by
  unfold nx
  rw [nxL_get hr]
  exact Int.toNat_natCast _

/-- Sets of the rows of a group. -/
theorem qs_sts {n : Nat} {G : Pm → Prop} {X : List Pm} (hR : Rws n G X) {a b : Pm} (ha : G a) (hb : G b) : Sts X.length (nx (mv X (a * b⁻¹))) (qs X a b) := by
  have h9 := sts_of (mv_row hR.nodup (hR.cls (hR.sub.mul ha (hR.sub.inv hb))))
  rw [mv_length] at h9
  exact h9

theorem nxL_row {n : Nat} {G : Pm → Prop} {X : List Pm} (hR : Rws n G X) {a b : Pm} (ha : G a) (hb : G b) (cs : List Int) : isRow (nxL X a b (qs X a b) cs) := by
  have hS := qs_sts hR ha hb
  have hin : ∀ (r : Nat) (p : Pm), X[r]? = some p → (p * if chc (qs X a b) cs r = 1 then b else a) ∈ X := fun r p hp => by
    refine hR.cls ?_ p (List.mem_of_getElem? hp)
    split
    · exact hb
    · exact ha
  refine ⟨fun y hy => ?_, ?_⟩
  · obtain ⟨r, hr, e⟩ := List.getElem_of_mem hy
    rw [nxL_length] at hr ⊢
    have hp : X[r]? = some X[r] := List.getElem?_eq_getElem hr
    have h9 := nxL_get (a := a) (b := b) (A := qs X a b) (cs := cs) hp
    rw [List.getD, List.getElem?_eq_getElem (by rw [nxL_length]; exact hr), e] at h9
    have h8 : y = _ := h9
    rw [h8]
    exact ⟨by omega, by have := ix_lt (hin r _ hp); omega⟩
  · rw [List.Nodup, List.pairwise_iff_getElem]
    intro i j hi hj hij e
    have hi' : i < X.length := by rw [nxL_length] at hi; exact hi
    have hj' : j < X.length := by rw [nxL_length] at hj; exact hj
    have hpi : X[i]? = some X[i] := List.getElem?_eq_getElem hi'
    have hpj : X[j]? = some X[j] := List.getElem?_eq_getElem hj'
    have k1 := nxL_get (a := a) (b := b) (A := qs X a b) (cs := cs) hpi
    have k2 := nxL_get (a := a) (b := b) (A := qs X a b) (cs := cs) hpj
    rw [List.getD, List.getElem?_eq_getElem hi] at k1
    rw [List.getD, List.getElem?_eq_getElem hj] at k2
    have k1' : (nxL X a b (qs X a b) cs)[i] = _ := k1
    have k2' : (nxL X a b (qs X a b) cs)[j] = _ := k2
    rw [k1', k2'] at e
    have e2 : X[i] * (if chc (qs X a b) cs i = 1 then b else a) = X[j] * (if chc (qs X a b) cs j = 1 then b else a) := by
      have h1 := ix_get (hin i _ hpi)
      rw [show ix X (X[i] * if chc (qs X a b) cs i = 1 then b else a) = ix X (X[j] * if chc (qs X a b) cs j = 1 then b else a) by omega, ix_get (hin j _ hpj)] at h1
      exact (Option.some.inj h1).symm
    have canc : ∀ {x y c : Pm}, x * c = y * c → x = y := fun {x y c} h => by
      have := congrArg (fun z => z * c⁻¹) h
      simpa only [Pm.mul_assoc, Pm.mul_inv, Pm.mul_one] using this
    have same : ∀ {i j : Nat} {p q : Pm}, X[i]? = some p → X[j]? = some q → p * a = q * b → chc (qs X a b) cs i = chc (qs X a b) cs j := fun {i j p q} hp hq h => by
      have e3 : q = p * (a * b⁻¹) := by rw [← Pm.mul_assoc, h, Pm.mul_assoc, Pm.mul_inv, Pm.mul_one]
      have e4 : nx (mv X (a * b⁻¹)) i = j := by rw [mv_nx hp, ← e3]; exact ix_of hR.nodup hq
      have e5 := hS.next_sof (r := i) (List.getElem?_eq_some_iff.1 hp).1
      unfold chc
      rw [← e5, e4]
    have hne : i = j := by
      by_cases c1 : chc (qs X a b) cs i = 1
      · by_cases c2 : chc (qs X a b) cs j = 1
        · rw [if_pos c1, if_pos c2] at e2
          exact get_inj hR.nodup hpi (by rw [canc e2]; exact hpj)
        · rw [if_pos c1, if_neg c2] at e2
          have := same hpj hpi e2.symm
          rw [this] at c2
          exact absurd c1 c2
      · by_cases c2 : chc (qs X a b) cs j = 1
        · rw [if_neg c1, if_pos c2] at e2
          have := same hpi hpj e2
          rw [this] at c1
          exact absurd c2 c1
        · rw [if_neg c1, if_neg c2] at e2
          exact get_inj hR.nodup hpi (by rw [canc e2]; exact hpj)
    omega

end Go.Proofs.YtahffpgadoiijaaGreat

/- Contract: extent.Rounds where x and y are rows of a group that is small enough. -/
namespace Go.Proofs.YtahffpgadoiijaaGreat
open Go.RowKit

noncomputable def rdE (A : List (List Int)) (cs : List Int) : Int := open Classical in if cs.length ≠ A.length then 1 else if ∃ c, c ∈ cs ∧ c ≠ 0 ∧ c ≠ 1 then 12 else 0

noncomputable def rdN (X : List Pm) (a b : Pm) (cs : List Int) : Nat := if rdE (qs X a b) cs = 0 then (cycsTo (nxL X a b (qs X a b) cs) X.length).length else 0

def RoundsPost (n : Nat) (xs ys cs : List Int) (w : World) (e : Ending) (w' : World) : Prop :=
  ∃ X, Rws n (G2 xs ys) X ∧ e = .returned (.tuple #[.int .i64 ((rdN X (pad xs) (pad ys) cs : Nat) : Int), .int .i64 (rdE (qs X (pad xs) (pad ys)) cs)]) ∧ Below w.heap.size w w'

theorem rdE_count {A : List (List Int)} {cs : List Int} (h : cs.length ≠ A.length) : rdE A cs = 1 := by unfold rdE; rw [if_pos h]
theorem rdE_value {A : List (List Int)} {cs : List Int} (h : cs.length = A.length) {c : Int} (hc : c ∈ cs) (h0 : c ≠ 0) (h1 : c ≠ 1) : rdE A cs = 12 := by
  unfold rdE; rw [if_neg (fun h' => h' h), if_pos ⟨c, hc, h0, h1⟩]
theorem rdE_ok {A : List (List Int)} {cs : List Int} (h : cs.length = A.length) (hc : ∀ c, c ∈ cs → c = 0 ∨ c = 1) : rdE A cs = 0 := by
  unfold rdE
  rw [if_neg (fun h' => h' h), if_neg]
  rintro ⟨c, h1, h2, h3⟩
  rcases hc c h1 with h | h
  · exact h2 h
  · exact h3 h

/-- Where a choice leads. -/
noncomputable def tgt (X : List Pm) (a b : Pm) (c : Int) (r : Nat) : Int := (if c = 1 then mv X b else mv X a).getD r 0

/-- The first k sets are gone through, and the first j of the next. -/
structure NxTo (X : List Pm) (a b : Pm) (A : List (List Int)) (cs : List Int) (k j : Nat) (zs : List Int) : Prop where
  len : zs.length = X.length
  sets : ∀ (i : Nat) (S : List Int) (r : Nat), i < k → A[i]? = some S → (r : Int) ∈ S → zs.getD r 0 = tgt X a b (cs.getD i 0) r
  more : ∀ (S : List Int) (r : Nat), A[k]? = some S → (r : Int) ∈ S.take j → zs.getD r 0 = tgt X a b (cs.getD k 0) r

theorem NxTo.start (X : List Pm) (a b : Pm) (A : List (List Int)) (cs zs : List Int) (h : zs.length = X.length) : NxTo X a b A cs 0 0 zs :=
  ⟨h, fun i S r hi => absurd hi (by omega), fun S r _ hr => by simp at hr⟩

theorem NxTo.step {X : List Pm} {a b : Pm} {A : List (List Int)} {cs zs S : List Int} {k j r : Nat} {σ : Nat → Nat} (hA : Sts X.length σ A) (h : NxTo X a b A cs k j zs) (hS : A[k]? = some S) (hr : S[j]? = some (r : Int)) (hrl : r < X.length) : NxTo X a b A cs k (j + 1) (zs.set r (tgt X a b (cs.getD k 0) r)) := by
  have hl : r < zs.length := by rw [h.len]; exact hrl
  refine ⟨by rw [List.length_set]; exact h.len, fun i T r' hi hT hr' => ?_, fun T r' hT hr' => ?_⟩
  · rw [getD_set hl]
    by_cases e : r = r'
    · subst e
      have := hA.one i k T S _ hT hS hr' (List.mem_of_getElem? hr)
      omega
    · rw [if_neg e]; exact h.sets i T r' hi hT hr'
  · rw [hS] at hT
    have eT := Option.some.inj hT
    subst eT
    rw [getD_set hl]
    by_cases e : r = r'
    · subst e; rw [if_pos rfl]
    · rw [if_neg e]
      refine h.more S r' hS ?_
      rw [List.take_add_one, hr, List.mem_append] at hr'
      rcases hr' with hr' | hr'
      · exact hr'
      · simp at hr'; omega

theorem NxTo.turn {X : List Pm} {a b : Pm} {A : List (List Int)} {cs zs S : List Int} {k : Nat} (h : NxTo X a b A cs k S.length zs) (hS : A[k]? = some S) : NxTo X a b A cs (k + 1) 0 zs := by
  refine ⟨h.len, fun i T r hi hT hr => ?_, fun T r hT hr => by simp at hr⟩
  by_cases e : i = k
  · subst e
    rw [hS] at hT
    have eT := Option.some.inj hT
    subst eT
    exact h.more S r hS (by rw [List.take_length]; exact hr)
  · exact h.sets i T r (by omega) hT hr

theorem NxTo.done {X : List Pm} {a b : Pm} {A : List (List Int)} {cs zs : List Int} {σ : Nat → Nat} (hA : Sts X.length σ A) (h : NxTo X a b A cs A.length 0 zs) : zs = nxL X a b A cs := by
  refine ext_getD (by rw [h.len, nxL_length]) (fun r hr => ?_)
  rw [h.len] at hr
  obtain ⟨i, S, hi, hS⟩ := hA.all r hr
  rw [h.sets i S r (List.getElem?_eq_some_iff.1 hi).1 hi hS]
  have e : (nxL X a b A cs).getD r 0 = (if chc A cs r = 1 then mv X b else mv X a).getD r 0 := by
    unfold nxL
    rw [List.getD, List.getElem?_map, List.getElem?_range hr]
    rfl
  rw [e]
  unfold tgt chc
  rw [hA.sof hi hS]

end Go.Proofs.YtahffpgadoiijaaGreat
