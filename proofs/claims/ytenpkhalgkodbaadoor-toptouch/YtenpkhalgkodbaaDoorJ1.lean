/- Joined: TpA, Bel, Order, Sum, Sign, Text, Bell, Read, At. -/
import Derived.Test.YtenpkhalgkodbaaDoorJ0
import Derived.Shelf.Bits.Mul64
import Derived.Shelf.Spec.SlicesInsert
import Derived.Laws.BitsLemmas
import Derived.WalkSmall
import Derived.Lib.OthersKept
import Derived.Shelf.Slices.Delete
import Derived.Lib.OwnBridge
/- Contracts: math/bits.Mul off the shelf; slices.Repeat of a list of numbers. -/
namespace Go.Proofs.YtenpkhalgkodbaaDoor
open Go.RowKit Go.Lib Go.Shelf
set_option maxRecDepth 100000
set_option linter.unusedVariables false

def rnM : Go.Shelf.Ren := ⟨fun | 212 => 88 | 263 => 94 | 264 => 95 | n => n,
  fun | 46 => 117 | 51 => 103 | 53 => 112 | 146 => 125 | 148 => 127 | n => n, fun | n => n⟩

theorem bl212 : Go.Proofs.Lays.n212 Tryd.prog rnM where
  mixed := by kernel_rfl
  f212 := by kernel_rfl
  f263 := by kernel_rfl
  f264 := by kernel_rfl
  t46 := by kernel_rfl
  a46 := fun w => by kernel_rfl
  z46 := fun w => by kernel_rfl
  v46 := fun w => by kernel_rfl
  t51 := by kernel_rfl
  a51 := fun w => by kernel_rfl
  z51 := fun w => by kernel_rfl
  v51 := fun w => by kernel_rfl
  t53 := by kernel_rfl
  a53 := fun w => by kernel_rfl
  z53 := fun w => by kernel_rfl
  v53 := fun w => by kernel_rfl
  t146 := by kernel_rfl
  a146 := fun w => by kernel_rfl
  z146 := fun w => by kernel_rfl
  v146 := fun w => by kernel_rfl
  t148 := by kernel_rfl
  a148 := fun w => by kernel_rfl
  z148 := fun w => by kernel_rfl
  v148 := fun w => by kernel_rfl

theorem mul_small (x y m : Nat) (hm : x * y = m) (hx : x ≤ 1000) (hy : y ≤ 1000) (w : World) : Calls Tryd.prog 88 #[.int .u64 x, .int .u64 y] w fun e w' => e = .returned (.tuple #[.int .u64 0, .int .u64 m]) ∧ w' = w := by
  have h := Any.bits_Mul bl212 x y (by omega) (by omega) w
  have h1 : x * y ≤ 1000 * 1000 := Nat.mul_le_mul hx hy
  rw [hm, Nat.div_eq_of_lt (by omega), Nat.mod_eq_of_lt (by omega)] at h
  exact h

/-- A list again and again. -/
def repL (k : Nat) (ys : List Int) : List Int := (List.range (ys.length * k)).map (fun j => ys.getD (j % ys.length) 0)

theorem repL_len (k : Nat) (ys : List Int) : (repL k ys).length = ys.length * k := by simp [repL]

theorem repL_succ (k : Nat) (ys : List Int) : repL (k + 1) ys = repL k ys ++ ys := by
  unfold repL
  rw [Nat.mul_succ, List.range_add, List.map_append, List.map_map]
  congr 1
  apply List.ext_getElem
  · simp
  · intro i h1 h2
    simp [Nat.mod_eq_of_lt h2, List.getD, h2]

theorem repL_one (k : Nat) (c : Int) : repL k [c] = List.replicate k c := by
  induction k with
  | zero => rfl
  | succ k ih => rw [repL_succ, ih, List.replicate_succ']

/-- So many times it stands there already. -/
structure RtRel (m k M : Nat) (ys zs : List Int) : Prop where
  len : zs.length = M
  le : m ≤ k
  pos : 1 ≤ m
  all : ∀ j, j < ys.length * m → zs.getD j 0 = ys.getD (j % ys.length) 0

theorem RtRel.step {m k M : Nat} {ys zs : List Int} (h : RtRel m k M ys zs) (hM : ys.length * k = M) (hlt : m < k) : RtRel (m + min (k - m) m) k M ys (zs.take (ys.length * m) ++ (zs.take (ys.length * min (k - m) m)) ++ zs.drop (ys.length * m + ys.length * min (k - m) m)) := by
  have h1 := h.len
  have h2 := h.pos
  have a1 : m + min (k - m) m ≤ k := by omega
  have a2 : min (k - m) m ≤ m := Nat.min_le_right _ _
  generalize min (k - m) m = d at *
  have b1 : ys.length * (m + d) ≤ ys.length * k := Nat.mul_le_mul_left _ a1
  have b2 : ys.length * d ≤ ys.length * m := Nat.mul_le_mul_left _ a2
  rw [Nat.mul_add, hM] at b1
  refine ⟨by simp; omega, a1, by omega, fun j hj => ?_⟩
  rw [Nat.mul_add] at hj
  rcases Nat.lt_or_ge j (ys.length * m) with h3 | h3
  · have := h.all j h3
    rw [List.getD_eq_getElem?_getD] at this ⊢
    rw [List.getElem?_append_left (by simp; omega), List.getElem?_append_left (by simp; omega), List.getElem?_take_of_lt h3]
    exact this
  · obtain ⟨i, rfl⟩ : ∃ i, j = ys.length * m + i := ⟨j - ys.length * m, by omega⟩
    have := h.all i (by omega)
    rw [List.getD_eq_getElem?_getD] at this ⊢
    rw [List.getElem?_append_left (by simp; omega), List.getElem?_append_right (by simp; omega), List.length_take, h1, Nat.min_eq_left (by omega), Nat.add_sub_cancel_left, List.getElem?_take_of_lt (by omega), Nat.mul_add_mod]
    exact this

theorem RtRel.done {m k M : Nat} {ys zs : List Int} (h : RtRel m k M ys zs) (hM : ys.length * k = M) (hlt : ¬ m < k) : zs = repL k ys := by
  have h1 := h.len
  have h2 := h.le
  have e : m = k := by omega
  subst e
  apply List.ext_getElem
  · rw [repL_len]; omega
  · intro i hi hi2
    have := h.all i (by omega)
    rw [List.getD_eq_getElem?_getD, List.getElem?_eq_getElem hi, Option.getD_some] at this
    rw [this]
    simp [repL]

set_option maxHeartbeats 8000000 in
theorem repeatI_ok (v : Value) (ys : List Int) (k : Nat) (w : World) (hv : Ints w v ys) (h1 : 1 ≤ ys.length) (h2 : ys.length ≤ 500) (hk1 : 1 ≤ k) (hk2 : k ≤ 500) :
    Calls Tryd.prog 81 #[v, .int .i64 k] w fun e w' => ∃ u, e = .returned u ∧ w'.ownsRow w.heap.size 3 1 u (ys.length * k) ((repL k ys).map (Value.int .i64)) ∧ Below w.heap.size w w' := by
  obtain ⟨i0, hi, hz0, hz1, hz2⟩ := info_parts Tryd.info3
  have hsz : (Tryd.prog.info? 3).map (·.size) = some 1 := by rw [hi]; simp [hz1]
  have mixed : Tryd.prog.follows Departure.mixedOrders = true := by kernel_rfl
  rcases hv with ⟨h0, _⟩ | ⟨b, off, cap, rfl, _, hcl, hcap, hbl, hcell⟩
  · rw [h0] at h1; simp at h1
  obtain ⟨M, hM⟩ : ∃ M, ys.length * k = M := ⟨_, rfl⟩
  have hM1 : ys.length ≤ M := by rw [← hM]; exact Nat.le_mul_of_pos_right _ hk1
  have hM2 : M ≤ 500 * 500 := by rw [← hM]; exact Nat.mul_le_mul h2 hk2
  rw [hM]
  have HRP := hide (fun (m : Nat) (zs : List Int) (h : RtRel m k M ys zs) => h.step hM)
  have HRD := hide (fun (m : Nat) (zs : List Int) (h : RtRel m k M ys zs) => h.done hM)
  have HM := hide (mul_small ys.length k M hM (by omega) (by omega) w)
  have HL := hide hM
  have HCE := hide hcell
  obtain ⟨L, hL⟩ : ∃ L, ys.length = L := ⟨_, rfl⟩
  have HLE := hide hL
  rw [hL] at HM HL HCE h1 h2 hM1 hcl ⊢
  have hcv1 : IntKind.u64.wrap (L : Int) = (L : Int) := by rw [IntKind.wrap_u64]; omega
  have hcv : IntKind.u64.wrap (k : Int) = (k : Int) := by rw [IntKind.wrap_u64]; omega
  have hcv2 : IntKind.i64.wrap (M : Int) = (M : Int) := by rw [IntKind.wrap_i64]; omega
  have hng : ¬ ((9223372036854775807 : Int) < (M : Int)) := by omega
  have hk0 : ¬ (k : Int) < 0 := by omega
  clear hM hL hcell
  go_enter Tryd.func81, Tryd.ntmps81
  go_wp2_with fail
  refine HM.out.mono ?_
  rintro e w1 ⟨rfl, rfl⟩
  clear HM
  go_wp2_with (at_make; refine wpList_make_full _ rfl _ _ 26 rfl w1.heap.size 3 i0 (.int .i64 0) 1 Tryd.underlying26 hi hz0 hz1 _ _ _ _ M rfl rfl (by omega) (by omega) ?b2 ?b3 (Nat.le_refl _) ?_)
  case b2 => rw [hz2]; omega
  case b3 => unfold maxLen; omega
  intro w0 hown0 hgrow0
  rw [made_ints] at hown0
  have hB0 : Below w1.heap.size w1 w0 := (Below.refl _ _).grown hgrow0 (Nat.le_refl _) (fun k h => by cases h)
  have HC0 : Hid (∀ j, j < L → w0.cell? ⟨b, off + j, none⟩ = some (.int .i64 (ys.getD j 0))) := fun j hj => (hB0.cell (p := ⟨b, off + j, none⟩) hbl).trans (HCE.out j hj)
  clear hgrow0
  have hcp0 := fun ty => run_copy_row (t := 26) (t' := 26) Tryd.underlying26 (o := 0) (dl := M) (dc := M) (sl := L) (sc := cap) (cs := ys) (a := ⟨b, off, none⟩) hown0 (fun j hj => by
    rw [Addr.add_lit]
    exact HC0.out j (by rw [← HLE.out]; exact hj)) (by rw [HLE.out]; exact (Nat.min_eq_left hM1).symm) (by rw [HLE.out]; omega) ty
  have hown1 := owns_setCells_int hown0 (o := 0) (cs := ys) (by rw [HLE.out]; omega)
  have hB1 : Below w1.heap.size w1 (w0.setCells w1.heap.size 0 (ys.map (Value.int .i64))) := below_setCells hB0 (Nat.le_refl _) _ _
  have hr1 : RtRel 1 k M ys ((List.replicate M (0 : Int)).take 0 ++ ys ++ (List.replicate M (0 : Int)).drop (0 + ys.length)) := by
    have e9 := HLE.out
    refine ⟨by simp; omega, hk1, Nat.le_refl _, fun j hj => ?_⟩
    rw [Nat.mul_one] at hj
    rw [Nat.mod_eq_of_lt hj, List.take_zero, List.nil_append, List.getD_eq_getElem?_getD, List.getElem?_append_left hj, ← List.getD_eq_getElem?_getD]
  generalize (List.replicate M (0 : Int)).take 0 ++ ys ++ (List.replicate M (0 : Int)).drop (0 + ys.length) = z1 at *
  generalize w0.setCells w1.heap.size 0 (ys.map (Value.int .i64)) = W1 at *
  rw [HLE.out] at hcp0
  have HR1 := hide hr1
  clear hr1 hown0 hB0 HC0 HCE
  unfold goInt at hcp0
  go_wp2_with (at_builtin; refine wpList_copy_runI _ rfl _ _ 26 26 rfl _ _ rfl rfl (hcp0 _) ?_)
  go_loopw [8] (fun i wr => ∃ (n m : Nat) (zs : List Int), n ≤ M ∧ L ≤ n ∧ i = .int .i64 n ∧ Hid (L * m = n) ∧ Hid (RtRel m k M ys zs) ∧ wr.ownsRow w1.heap.size 3 1 (.slice (some ⟨w1.heap.size, 0, none⟩) M M) M (zs.map (Value.int .i64)) ∧ Below w1.heap.size w1 wr) (fun i _ => M - (RowKit.intOf i).toNat)
  case atStart => exact ⟨L, 1, z1, hM1, Nat.le_refl _, rfl, Nat.mul_one L, HR1, hown1, hB1⟩
  case round =>
    obtain ⟨n, m, zs, hnk, hLn, rfl, HN, hR, hown, hbw⟩ := hrel
    clear hcp0 hown1 hB1 HR1
    by_cases hlt : n < M
    · have hmk : m < k := by
        rcases Nat.lt_or_ge m k with h | h
        · exact h
        · have := Nat.mul_le_mul_left L h
          rw [HL.out, HN.out] at this
          omega
      have hmin : min (M - n) n = L * min (k - m) m := by
        rw [← HL.out, ← HN.out, ← Nat.mul_sub, Nat.mul_min_mul_left]
      have hown' : wr.drew.ownsRow w1.heap.size 3 1 (.slice (some ⟨w1.heap.size, 0, none⟩) M M) M (zs.map (Value.int .i64)) := hown
      have hzl := hR.out.len
      have hcsl : (zs.take (min (M - n) n)).length = min (M - n) n := by rw [List.length_take]; omega
      have hcp := fun ty => run_copy_row (t := 26) (t' := 26) Tryd.underlying26 (o := n) (dl := M - n) (dc := M - n) (sl := n) (sc := M) (cs := zs.take (min (M - n) n)) (a := ⟨w1.heap.size, 0, none⟩) hown' (fun j hj => by
        rw [hcsl] at hj
        have e9 : (zs.take (min (M - n) n)).getD j 0 = zs.getD j 0 := by rw [List.getD_eq_getElem?_getD, List.getElem?_take_of_lt hj, ← List.getD_eq_getElem?_getD]
        rw [e9, Addr.add_lit, Nat.zero_add]
        exact (owns_cell hown (by omega)).1) (by rw [hcsl]; exact Nat.min_comm _ _) (by rw [hcsl]; omega) ty
      have hown2 := owns_setCells_int hown' (o := n) (cs := zs.take (min (M - n) n)) (by rw [hcsl]; omega)
      have hB2 : Below w1.heap.size w1 (wr.drew.setCells w1.heap.size n ((zs.take (min (M - n) n)).map (Value.int .i64))) := below_setCells hbw.drew (Nat.le_refl _) _ _
      rw [hcsl] at hcp hown2
      have HR2 := hide (HRP.out m zs hR.out hmk)
      rw [HLE.out, ← hmin, HN.out] at HR2
      have HN2 : Hid (L * (m + min (k - m) m) = n + min (M - n) n) := by show _ = _; rw [Nat.mul_add, HN.out, hmin]
      unfold goInt at hcp
      have hkn : ¬ (M = n) := by omega
      generalize wr.drew.setCells w1.heap.size n ((zs.take (min (M - n) n)).map (Value.int .i64)) = W2 at *
      have hmp : 1 ≤ min (M - n) n := by omega
      have hmk2 : n + min (M - n) n ≤ M := by omega
      clear hmin hcsl hzl
      generalize min (M - n) n = mm at *
      generalize m + min (k - m) m = m2 at *
      have hwp : IntKind.i64.wrap ((n : Int) + (mm : Int)) = (n : Int) + (mm : Int) := by rw [IntKind.wrap_i64]; omega
      clear hown'
      go_wp2
      go_region_law_o (refine step_copy_runI rfl _ _ 26 26 rfl _ _ (by simp [Act.eval, Act.put]) (by simp [Act.eval, Act.put]) (hcp _) ?_)
      all_goals
        go_wp2
        go_roundw
        case rel =>
          have hfin : ∃ (n' m' : Nat) (zs' : List Int), n' ≤ M ∧ L ≤ n' ∧ Value.int .i64 ((n : Int) + (mm : Int)) = .int .i64 (n' : Int) ∧ Hid (L * m' = n') ∧ Hid (RtRel m' k M ys zs') ∧ W2.ownsRow w1.heap.size 3 1 (.slice (some ⟨w1.heap.size, 0, none⟩) M M) M (zs'.map (Value.int .i64)) ∧ Below w1.heap.size w1 W2 := ⟨n + mm, m2, _, hmk2, by omega, by go_num, HN2, HR2, hown2, hB2⟩
          first
            | exact hfin
            | ((repeat apply Exists.intro); exact ⟨hfin, rfl⟩)
        case measure => simp [Act.put, RowKit.intOf]; omega
    · have hmk : ¬ m < k := fun h => by
        have := Nat.mul_lt_mul_of_pos_left h (show 0 < L by omega)
        rw [HL.out, HN.out] at this
        omega
      have HD := hide (HRD.out m zs hR.out hmk)
      go_wp2
      go_ret
      refine ⟨_, rfl, ?_, hbw⟩
      rw [← HD.out]
      exact hown

end Go.Proofs.YtenpkhalgkodbaaDoor

/- Blocks ahead of one, and iterators, stay. -/
namespace Go.Proofs.YtenpkhalgkodbaaDoor
open Go.RowKit

/-- Iterators stay as they are. -/
def Iters (w w' : World) : Prop := ∀ (k : Nat) (s : ByteArray) (p : Nat), w.heap[k]? = some (.stringIter s p) → w'.heap[k]? = some (.stringIter s p)

/-- Blocks ahead of R, and iterators, stay as they are. -/
structure Bel (R : Nat) (w w' : World) : Prop where
  below : Below R w w'
  iters : Iters w w'

theorem Bel.refl (R : Nat) (w : World) : Bel R w w := ⟨Below.refl _ _, fun _ _ _ h => h⟩
theorem Bel.trans {R : Nat} {a b c : World} (h1 : Bel R a b) (h2 : Bel R b c) : Bel R a c := ⟨h1.below.trans h2.below, fun k s p h => h2.iters k s p (h1.iters k s p h)⟩
theorem Bel.setCell {R : Nat} {a w : World} (h : Bel R a w) {p : Addr} (hp : R ≤ p.block) (v : Value) : Bel R a (w.setCell p v) := by
  refine ⟨h.below.setCell hp v, fun k s q hk => ?_⟩
  have h1 := h.iters k s q hk
  simp only [World.setCell, Array.getElem?_modify]
  split
  · rw [h1]; rfl
  · exact h1
theorem Bel.of {R : Nat} {w w' : World} (h : Below w.heap.size w w') (hR : R ≤ w.heap.size) : Bel R w w' := by
  refine ⟨h.mono hR, fun k s p hk => ?_⟩
  rw [h.block k (Array.getElem?_eq_some_iff.1 hk).1]
  exact hk
theorem Bel.alloc {R : Nat} {a w : World} (h : Bel R a w) (hs : R ≤ w.heap.size) (o : Obj) : Bel R a (w.alloc o) := h.trans (Bel.of ((Below.refl _ _).alloc (Nat.le_refl _) o) hs)
theorem Bel.drew {R : Nat} {a w : World} (h : Bel R a w) : Bel R a w.drew := ⟨h.below.drew, h.iters⟩
theorem Bel.grown {w w2 : World} {R D k : Nat} {u : Value} {us : List Value} {e : TypeId} (hu : w.ownsRow D e 1 u k us) (hR : R + 1 ≤ D) (hl : R ≤ w.heap.size) (hg : w.grownBy w2 u.ownBlock) : Bel R w w2 := by
  refine ⟨⟨hg.os, hg.tape, hg.output, hg.size, fun j hj => hg.block j (by omega) (fun e => by have := (hu.lt j e.symm).1; omega)⟩, fun j s p hj => ?_⟩
  rw [hg.block j (Array.getElem?_eq_some_iff.1 hj).1 (fun e => ?_)]
  · exact hj
  · rcases hu.2 with ⟨rfl, _⟩ | ⟨g, cap, cur, rfl, _, hh, _⟩
    · cases e
    · have : j = g := Option.some.inj e
      subst this
      rw [hj] at hh
      cases hh

end Go.Proofs.YtenpkhalgkodbaaDoor

/- Contract: Order. -/
namespace Go.Proofs.YtenpkhalgkodbaaDoor
open Go.RowKit

def ordTo (xss : List (List Int)) : Nat → Nat
  | 0 => 1
  | j + 1 => Nat.lcm (ordTo xss j) (xss.getD j []).length

def oddTo (xss : List (List Int)) : Nat → Bool
  | 0 => false
  | j + 1 => if (xss.getD j []).length % 2 = 0 then !(oddTo xss j) else oddTo xss j

theorem cycsTo_len {a : List Int} (h : isRow a) (k : Nat) (hk : k ≤ a.length) : ∀ x ∈ cycsTo a k, 1 ≤ x.length ∧ x.length ≤ a.length := by
  induction k with
  | zero => intro x hx; cases hx
  | succ k ih =>
    intro x hx
    have hx' : x ∈ if (k : Int) ∈ (cycsTo a k).flatten then cycsTo a k else cycsTo a k ++ [orb a k (per a k)] := hx
    have hp := per_spec h (show k < a.length by omega)
    split at hx'
    · exact ih (by omega) x hx'
    · rcases List.mem_append.1 hx' with h1 | h1
      · exact ih (by omega) x h1
      · rw [List.mem_singleton.1 h1, orb_length]; exact ⟨hp.1, hp.2.1⟩

theorem cycsTo_pos (a : List Int) (k : Nat) : 1 ≤ (cycsTo a (k + 1)).length := by
  induction k with
  | zero => simp [cycsTo]
  | succ k ih =>
    show 1 ≤ (if ((k + 1 : Nat) : Int) ∈ (cycsTo a (k + 1)).flatten then cycsTo a (k + 1) else cycsTo a (k + 1) ++ [orb a (k + 1) (per a (k + 1))]).length
    split
    · exact ih
    · simp

theorem ordTo_bound {xss : List (List Int)} (h : ∀ x ∈ xss, 1 ≤ x.length ∧ x.length ≤ 12) (j : Nat) (hj : j ≤ xss.length) : 1 ≤ ordTo xss j ∧ ordTo xss j ≤ 12 ^ j := by
  induction j with
  | zero => exact ⟨Nat.le_refl _, Nat.le_refl _⟩
  | succ j ih =>
    obtain ⟨h1, h2⟩ := ih (by omega)
    have hx := h (xss.getD j []) (by rw [show xss.getD j [] = xss[j] from by simp [List.getD, List.getElem?_eq_getElem (show j < xss.length by omega)]]; exact List.getElem_mem _)
    have e : ordTo xss (j + 1) = Nat.lcm (ordTo xss j) (xss.getD j []).length := rfl
    rw [e]
    refine ⟨Nat.lcm_pos h1 hx.1, ?_⟩
    refine Nat.le_trans (Nat.le_of_dvd (Nat.mul_pos h1 hx.1) (Nat.lcm_dvd_mul _ _)) ?_
    rw [Nat.pow_succ]
    exact Nat.mul_le_mul h2 hx.2

theorem ownAll_at {w : World} {base : Nat} : ∀ {us : List Value} {xs : List (List Int)} {j : Nat}, OwnAll w base us xs → j < us.length → w.ownsRow base 3 1 (us.getD j undef) (xs.getD j []).length ((xs.getD j []).map (Value.int .i64))
  | _ :: _, _ :: _, 0, ⟨h1, _⟩, _ => h1
  | _ :: us, _ :: xs, j + 1, ⟨_, h2⟩, hj => by
    have := ownAll_at (j := j) h2 (by simpa using hj)
    simpa using this

theorem owns_slice {w : World} {base e n : Nat} {v : Value} {xs : List Value} (h : w.ownsRow base e 1 v n xs) : ∃ p cap, v = .slice p n cap := by
  rcases h.2 with ⟨rfl, h0⟩ | ⟨g, cap, cur, rfl, _⟩
  · exact ⟨none, 0, by rw [h0]⟩
  · exact ⟨_, cap, rfl⟩

theorem owns_val {w : World} {base e g n cap j : Nat} {vs : List Value} (h : w.ownsRow base e 1 (.slice (some ⟨g, 0, none⟩) n cap) n vs) (hj : j < n) : w.cell? ⟨g, j, none⟩ = some (vs.getD j undef) := by
  have hl : vs.length = n := by have := h.1; simpa using this
  have := h.cells (g := g) rfl j (vs.getD j undef) (by simp [List.getD, List.getElem?_eq_getElem (by omega : j < vs.length)])
  rw [Addr.add_lit, Nat.zero_add] at this
  exact this

theorem cyc_cell {w : World} {base g cap j : Nat} {vs : List Value} {xss : List (List Int)} (h : w.ownsRow base 26 1 (.slice (some ⟨g, 0, none⟩) vs.length cap) vs.length vs) (ha : OwnAll w base vs xss) (hj : j < vs.length) :
    ∃ p c, w.cell? ⟨g, j, none⟩ = some (.slice p (xss.getD j []).length c) := by
  obtain ⟨p, c, e⟩ := owns_slice (ownAll_at ha hj)
  exact ⟨p, c, by rw [owns_val h hj, e]⟩

theorem ret_ord {xss : List (List Int)} {i j : Nat} (h : i = j) : Ending.returned (.tuple #[.int .i64 (ordTo xss i), .bool (oddTo xss i), .int .i64 0]) = Ending.returned (.tuple #[.int .i64 (ordTo xss j), .bool (oddTo xss j), .int .i64 0]) := by rw [h]

end Go.Proofs.YtenpkhalgkodbaaDoor

/- Plain: sums over places, the number of pairs that are the wrong way about, and that its parity is multiplied by composition. -/
namespace Go.Proofs.YtenpkhalgkodbaaDoor

/-- The sum of f over 0 .. n - 1. -/
def S : Nat → (Nat → Nat) → Nat
  | 0, _ => 0
  | n + 1, f => S n f + f n

theorem S_congr {n : Nat} {f g : Nat → Nat} (h : ∀ i, i < n → f i = g i) : S n f = S n g := by
  induction n with
  | zero => rfl
  | succ n ih => show S n f + f n = S n g + g n; rw [ih (fun i hi => h i (by omega)), h n (by omega)]

theorem S_add (n : Nat) (f g : Nat → Nat) : S n (fun i => f i + g i) = S n f + S n g := by
  induction n with
  | zero => rfl
  | succ n ih => show S n (fun i => f i + g i) + (f n + g n) = (S n f + f n) + (S n g + g n); rw [ih]; omega

theorem S_mul (n c : Nat) (f : Nat → Nat) : S n (fun i => c * f i) = c * S n f := by
  induction n with
  | zero => rfl
  | succ n ih => show S n (fun i => c * f i) + c * f n = c * (S n f + f n); rw [ih, Nat.mul_add]

theorem S_zero (n : Nat) : S n (fun _ => 0) = 0 := by
  induction n with
  | zero => rfl
  | succ n ih => show S n (fun _ => 0) + 0 = 0; rw [ih]

/-- How many lie in an interval. -/
theorem S_between (n a b : Nat) (hab : a ≤ b) (hb : b ≤ n) : S n (fun i => if a ≤ i ∧ i < b then 1 else 0) = b - a := by
  induction n with
  | zero => show 0 = b - a; omega
  | succ n ih =>
    show S n (fun i => if a ≤ i ∧ i < b then 1 else 0) + (if a ≤ n ∧ n < b then 1 else 0) = b - a
    by_cases h : b ≤ n
    · rw [ih h, if_neg (by omega)]; rfl
    · have hbn : b = n + 1 := by omega
      subst hbn
      by_cases h2 : a ≤ n
      · have : S n (fun i => if a ≤ i ∧ i < n + 1 then 1 else 0) = S n (fun i => if a ≤ i ∧ i < n then 1 else 0) := S_congr (fun i hi => by
          by_cases h3 : a ≤ i
          · rw [if_pos ⟨h3, by omega⟩, if_pos ⟨h3, hi⟩]
          · rw [if_neg (fun h => h3 h.1), if_neg (fun h => h3 h.1)])
        rw [if_pos ⟨h2, by omega⟩]
        have key : ∀ m a, a ≤ m → S m (fun i => if a ≤ i ∧ i < m + 1 then 1 else 0) = m - a := by
          intro m a hm
          clear ih this
          induction m with
          | zero => show 0 = 0 - a; omega
          | succ m ihm =>
            show S m (fun i => if a ≤ i ∧ i < m + 1 + 1 then 1 else 0) + (if a ≤ m ∧ m < m + 1 + 1 then 1 else 0) = m + 1 - a
            have e : S m (fun i => if a ≤ i ∧ i < m + 1 + 1 then 1 else 0) = S m (fun i => if a ≤ i ∧ i < m + 1 then 1 else 0) := S_congr (fun i hi => by
              by_cases h3 : a ≤ i
              · rw [if_pos ⟨h3, by omega⟩, if_pos ⟨h3, by omega⟩]
              · rw [if_neg (fun h => h3 h.1), if_neg (fun h => h3 h.1)])
            rw [e]
            by_cases h4 : a ≤ m
            · rw [ihm h4, if_pos ⟨h4, by omega⟩]; omega
            · have z : S m (fun i => if a ≤ i ∧ i < m + 1 then 1 else 0) = S m (fun _ => 0) := S_congr (fun i hi => by rw [if_neg (by omega)])
              rw [z, S_zero, if_neg (by omega)]; omega
        rw [key n a h2]; omega
      · have z : S n (fun i => if a ≤ i ∧ i < n + 1 then 1 else 0) = S n (fun _ => 0) := S_congr (fun i hi => by rw [if_neg (by omega)])
        rw [z, S_zero, if_neg (by omega)]; omega

theorem S_swap2 (n : Nat) (F : Nat → Nat → Nat) (hs : ∀ i j, i < n → j < n → F i j = F j i) (h0 : ∀ i, i < n → F i i = 0) : S n (fun i => S n (fun j => F i j)) = 2 * S n (fun i => S i (fun j => F i j)) := by
  induction n with
  | zero => rfl
  | succ n ih =>
    show S n (fun i => S n (fun j => F i j) + F i n) + (S n (fun j => F n j) + F n n) = 2 * (S n (fun i => S i (fun j => F i j)) + S n (fun j => F n j))
    rw [S_add, ih (fun i j hi hj => hs i j (by omega) (by omega)) (fun i hi => h0 i (by omega)), h0 n (by omega), S_congr (fun i hi => hs i n (by omega) (by omega) : ∀ i, i < n → F i n = F n i)]
    generalize S n (fun i => S i (fun j => F i j)) = A
    show 2 * A + S n (F n) + (S n (F n) + 0) = 2 * (A + S n (F n))
    omega

/-- A sum over a list. -/
def Ls (f : Nat → Nat) : List Nat → Nat
  | [] => 0
  | x :: xs => f x + Ls f xs

theorem Ls_perm {f : Nat → Nat} {l m : List Nat} (h : l.Perm m) : Ls f l = Ls f m := by
  induction h with
  | nil => rfl
  | cons x _ ih => show f x + _ = f x + _; rw [ih]
  | swap x y l => show f y + (f x + Ls f l) = f x + (f y + Ls f l); omega
  | trans _ _ h1 h2 => rw [h1, h2]

theorem Ls_append (f : Nat → Nat) (l m : List Nat) : Ls f (l ++ m) = Ls f l + Ls f m := by
  induction l with
  | nil => show _ = 0 + _; rw [Nat.zero_add]; rfl
  | cons x l ih => show f x + Ls f (l ++ m) = f x + Ls f l + Ls f m; rw [ih]; omega

theorem S_list (f q : Nat → Nat) (n : Nat) : S n (fun i => f (q i)) = Ls f ((List.range n).map q) := by
  induction n with
  | zero => rfl
  | succ n ih =>
    show S n (fun i => f (q i)) + f (q n) = _
    rw [ih, List.range_succ, List.map_append, Ls_append]
    rfl

/-- q is a permutation of 0 .. n - 1. -/
def PermOn (n : Nat) (q : Nat → Nat) : Prop := (∀ i, i < n → q i < n) ∧ ∀ i j, i < n → j < n → q i = q j → i = j

theorem perm_list {n : Nat} {q : Nat → Nat} (h : PermOn n q) : ((List.range n).map q).Perm (List.range n) := by
  have hd : ((List.range n).map q).Nodup := by
    rw [List.nodup_iff_pairwise_ne, List.pairwise_map]
    refine List.Pairwise.imp_of_mem ?_ (List.pairwise_lt_range (n := n))
    intro i j hi hj hij e
    rw [List.mem_range] at hi hj
    have := h.2 i j hi hj e
    omega
  have hsub : ∀ (l m : List Nat), l.Nodup → (∀ x ∈ l, x ∈ m) → l.length = m.length → l.Perm m := by
    intro l
    induction l with
    | nil => intro m _ _ hl; rw [List.length_eq_zero_iff.1 hl.symm]
    | cons a l ih =>
      intro m hn hs hl
      have ha : a ∈ m := hs a List.mem_cons_self
      have hn' := List.nodup_cons.1 hn
      have h1 := ih (m.erase a) hn'.2 (fun x hx => (List.mem_erase_of_ne (fun e => hn'.1 (by rw [← e]; exact hx))).2 (hs x (List.mem_cons_of_mem _ hx))) (by rw [List.length_erase_of_mem ha]; simp at hl; omega)
      exact (h1.cons a).trans (List.perm_cons_erase ha).symm
  refine hsub _ _ hd (fun x hx => ?_) (by simp)
  obtain ⟨i, hi, rfl⟩ := List.mem_map.1 hx
  exact List.mem_range.2 (h.1 i (List.mem_range.1 hi))

theorem S_perm {n : Nat} {q : Nat → Nat} (h : PermOn n q) (f : Nat → Nat) : S n (fun i => f (q i)) = S n f := by
  rw [S_list f q n, Ls_perm (perm_list h)]
  have := S_list f (fun x => x) n
  simpa using this.symm

/-- 1, if the two are not the same. -/
def ne (x y : Bool) : Nat := if x = y then 0 else 1

theorem ne_tri (x y z : Bool) : ne x z + 2 * (ne x y * ne y z) = ne x y + ne y z := by cases x <;> cases y <;> cases z <;> decide

/-- Are the places i and j, in p, about as they are? -/
def dis (p : Nat → Nat) (i j : Nat) : Nat := ne (decide (i < j)) (decide (p i < p j))

theorem dis_sym {p : Nat → Nat} {i j : Nat} (h : p i = p j → i = j) : dis p i j = dis p j i := by
  unfold dis
  by_cases e : i = j
  · subst e; rfl
  · have e2 : p i ≠ p j := fun h' => e (h h')
    have h1 : decide (j < i) = !decide (i < j) := by by_cases h3 : i < j <;> simp [h3] <;> omega
    have h2 : decide (p j < p i) = !decide (p i < p j) := by by_cases h3 : p i < p j <;> simp [h3] <;> omega
    rw [h1, h2]
    cases decide (i < j) <;> cases decide (p i < p j) <;> decide

theorem dis_self (p : Nat → Nat) (i : Nat) : dis p i i = 0 := by unfold dis; simp [ne]

/-- The number of pairs that are the wrong way about. -/
def inv (n : Nat) (p : Nat → Nat) : Nat := S n (fun i => S i (fun j => dis p i j))

theorem inv_two {n : Nat} {p : Nat → Nat} (h : ∀ i j, i < n → j < n → p i = p j → i = j) : S n (fun i => S n (fun j => dis p i j)) = 2 * inv n p :=
  S_swap2 n _ (fun i j hi hj => dis_sym (h i j hi hj)) (fun i _ => dis_self p i)

theorem inv_congr {n : Nat} {p q : Nat → Nat} (h : ∀ i, i < n → p i = q i) : inv n p = inv n q :=
  S_congr (fun i hi => S_congr (fun j hj => by unfold dis; rw [h i hi, h j (by omega)]))

theorem inv_mul {n : Nat} {p q : Nat → Nat} (hq : PermOn n q) (hp : ∀ i j, i < n → j < n → p i = p j → i = j) : inv n (fun i => p (q i)) % 2 = (inv n p + inv n q) % 2 := by
  have hpq : ∀ i j, i < n → j < n → p (q i) = p (q j) → i = j := fun i j hi hj e => hq.2 i j hi hj (hp _ _ (hq.1 i hi) (hq.1 j hj) e)
  have hC := inv_two (p := fun i => p (q i)) hpq
  have hA := inv_two (p := q) hq.2
  have hB : S n (fun i => S n (fun j => dis p (q i) (q j))) = 2 * inv n p := by
    rw [← inv_two hp]
    rw [← S_perm hq (fun a => S n (fun b => dis p a b))]
    exact S_congr (fun i _ => S_perm hq (fun b => dis p (q i) b))
  have hM := S_swap2 n (fun i j => dis q i j * dis p (q i) (q j)) (fun i j hi hj => by rw [dis_sym (hq.2 i j hi hj), dis_sym (hp _ _ (hq.1 i hi) (hq.1 j hj))]) (fun i _ => by rw [dis_self, Nat.zero_mul])
  have key : S n (fun i => S n (fun j => dis (fun i => p (q i)) i j)) + 2 * S n (fun i => S n (fun j => dis q i j * dis p (q i) (q j))) = S n (fun i => S n (fun j => dis q i j)) + S n (fun i => S n (fun j => dis p (q i) (q j))) := by
    rw [← S_mul, ← S_add, ← S_add]
    refine S_congr (fun i _ => ?_)
    rw [← S_mul, ← S_add, ← S_add]
    exact S_congr (fun j _ => ne_tri _ _ _)
  rw [hC, hM, hA, hB] at key
  omega

/-- Two places exchanged. -/
def swp (a b i : Nat) : Nat := if i = a then b else if i = b then a else i

theorem swp_perm {n a b : Nat} (ha : a < n) (hb : b < n) : PermOn n (swp a b) := by
  constructor
  · intro i hi; unfold swp; split <;> (try split) <;> omega
  · intro i j _ _ e
    unfold swp at e
    split at e <;> split at e <;> (try split at e) <;> (try split at e) <;> omega

theorem swp_comm (a b i : Nat) : swp a b i = swp b a i := by unfold swp; split <;> split <;> omega

theorem inv_swp_lt {n a b : Nat} (hab : a < b) (hb : b < n) : inv n (swp a b) % 2 = 1 := by
  have hrow : ∀ i, i < n → S i (fun j => dis (swp a b) i j) = (if a + 1 ≤ i ∧ i < b then 1 else 0) + (b - a) * (if b ≤ i ∧ i < b + 1 then 1 else 0) := by
    intro i hi
    by_cases h1 : i = b
    · subst h1
      rw [if_neg (by omega), if_pos (by omega), ← S_between i a i (by omega) (Nat.le_refl _)]
      rw [Nat.zero_add, Nat.mul_one]
      refine S_congr (fun j hj => ?_)
      unfold dis swp
      rw [if_neg (by omega : ¬ i = a), if_pos rfl, decide_eq_false (by omega : ¬ i < j)]
      by_cases h2 : a ≤ j
      · by_cases h3 : j = a
        · rw [if_pos h3, decide_eq_true (by omega), if_pos ⟨h2, hj⟩]; rfl
        · rw [if_neg h3, if_neg (by omega), decide_eq_true (by omega), if_pos ⟨h2, hj⟩]; rfl
      · rw [if_neg (by omega : ¬ j = a), if_neg (by omega : ¬ j = i), decide_eq_false (by omega), if_neg (by omega)]; rfl
    · rw [if_neg (by omega : ¬ (b ≤ i ∧ i < b + 1)), Nat.mul_zero, Nat.add_zero]
      by_cases h2 : a + 1 ≤ i ∧ i < b
      · rw [if_pos h2, show (1 : Nat) = a + 1 - a from by omega, ← S_between i a (a + 1) (by omega) (by omega)]
        refine S_congr (fun j hj => ?_)
        unfold dis swp
        rw [if_neg (by omega : ¬ i = a), if_neg h1, decide_eq_false (by omega : ¬ i < j)]
        by_cases h3 : j = a
        · rw [if_pos h3, decide_eq_true (by omega), if_pos (by omega)]; rfl
        · rw [if_neg h3, if_neg (by omega), decide_eq_false (by omega), if_neg (by omega)]; rfl
      · rw [if_neg h2, ← S_zero i]
        refine S_congr (fun j hj => ?_)
        unfold dis swp
        rw [decide_eq_false (by omega : ¬ i < j)]
        by_cases h3 : i = a
        · rw [if_pos h3, if_neg (by omega), if_neg (by omega), decide_eq_false (by omega)]; rfl
        · rw [if_neg h3, if_neg h1]
          by_cases h4 : j = a
          · rw [if_pos h4, decide_eq_false (by omega)]; rfl
          · rw [if_neg h4]
            by_cases h5 : j = b
            · rw [if_pos h5, decide_eq_false (by omega)]; rfl
            · rw [if_neg h5, decide_eq_false (by omega)]; rfl
  have h : inv n (swp a b) = (b - (a + 1)) + (b - a) * 1 := by
    unfold inv
    rw [S_congr hrow, S_add, S_between n (a + 1) b (by omega) (by omega), S_mul, S_between n b (b + 1) (by omega) (by omega), show b + 1 - b = 1 from by omega]
  rw [h]; omega

theorem inv_swp {n a b : Nat} (hne : a ≠ b) (ha : a < n) (hb : b < n) : inv n (swp a b) % 2 = 1 := by
  rcases Nat.lt_or_gt_of_ne hne with h | h
  · exact inv_swp_lt h hb
  · rw [inv_congr (fun i _ => swp_comm a b i)]; exact inv_swp_lt h ha

theorem inv_id (n : Nat) : inv n (fun i => i) = 0 := by
  unfold inv
  rw [← S_zero n]
  refine S_congr (fun i hi => ?_)
  rw [← S_zero i]
  exact S_congr (fun j _ => by unfold dis; simp [ne])

end Go.Proofs.YtenpkhalgkodbaaDoor

/- Plain: the parity that the cycles tell is the parity of the pairs that are the wrong way about. -/
namespace Go.Proofs.YtenpkhalgkodbaaDoor

theorem cycsTo_succ (r : List Int) (k : Nat) : cycsTo r (k + 1) = if (k : Int) ∈ (cycsTo r k).flatten then cycsTo r k else cycsTo r k ++ [orb r k (per r k)] := rfl

theorem mem_orb {r : List Int} {x p : Nat} {y : Int} : y ∈ orb r x p ↔ ∃ i, i < p ∧ y = ((it r i x : Nat) : Int) := by
  unfold orb
  rw [List.mem_map]
  constructor
  · rintro ⟨i, hi, rfl⟩; exact ⟨i, List.mem_range.1 hi, rfl⟩
  · rintro ⟨i, hi, rfl⟩; exact ⟨i, List.mem_range.2 hi, rfl⟩

theorem cyc_form {r : List Int} {k : Nat} {c : List Int} (h : c ∈ cycsTo r k) : ∃ y, y < k ∧ c = orb r y (per r y) := by
  induction k with
  | zero => cases h
  | succ k ih =>
    rw [cycsTo_succ] at h
    split at h
    · obtain ⟨y, hy, e⟩ := ih h; exact ⟨y, by omega, e⟩
    · rcases List.mem_append.1 h with h | h
      · obtain ⟨y, hy, e⟩ := ih h; exact ⟨y, by omega, e⟩
      · exact ⟨k, by omega, List.mem_singleton.1 h⟩

theorem flat_back {r : List Int} (hr : isRow r) {k i : Nat} (hk : k ≤ r.length) (hi : i < r.length) (h : ((nx r i : Nat) : Int) ∈ (cycsTo r k).flatten) : (i : Int) ∈ (cycsTo r k).flatten := by
  obtain ⟨c, hc, hm⟩ := List.mem_flatten.1 h
  obtain ⟨y, hy, rfl⟩ := cyc_form hc
  obtain ⟨j, hj, e⟩ := mem_orb.1 hm
  have hy' : y < r.length := by omega
  obtain ⟨p1, _, p3, _⟩ := per_spec hr hy'
  refine List.mem_flatten.2 ⟨_, hc, mem_orb.2 ?_⟩
  have e' : nx r i = it r j y := by omega
  cases j with
  | zero =>
    refine ⟨per r y - 1, by omega, ?_⟩
    have e2 : nx r i = nx r (it r (per r y - 1) y) := by
      rw [e']
      show y = it r (per r y - 1 + 1) y
      rw [show per r y - 1 + 1 = per r y from by omega, p3]
    rw [nx_inj hr hi (it_lt hr hy' _) e2]
  | succ j =>
    refine ⟨j, by omega, ?_⟩
    rw [nx_inj hr hi (it_lt hr hy' j) e']

theorem it_notin {r : List Int} (hr : isRow r) {k : Nat} (hk : k < r.length) (h : ¬ (k : Int) ∈ (cycsTo r k).flatten) (j : Nat) : ¬ ((it r j k : Nat) : Int) ∈ (cycsTo r k).flatten := by
  induction j with
  | zero => exact h
  | succ j ih => exact fun h' => ih (flat_back hr (by omega) (it_lt hr hk j) h')

theorem orb_inj {r : List Int} (hr : isRow r) {x i j : Nat} (hx : x < r.length) (hi : i < per r x) (hj : j < per r x) (e : it r i x = it r j x) : i = j := by
  obtain ⟨_, _, _, p4⟩ := per_spec hr hx
  have key : ∀ i j, i < j → j < per r x → it r i x ≠ it r j x := by
    intro i j hij hj e
    have e1 : it r j x = it r i (it r (j - i) x) := by rw [← it_add, show i + (j - i) = j from by omega]
    rw [e1] at e
    have e2 := it_inj hr hx (it_lt hr hx (j - i)) i e
    exact p4 (j - i) (by omega) (by omega) e2.symm
  rcases Nat.lt_trichotomy i j with h | h | h
  · exact absurd e (key i j h hj)
  · exact h
  · exact absurd e.symm (key j i h hi)

/-- r on the cycles that are found so far; else nothing is moved. -/
def gk (r : List Int) (k i : Nat) : Nat := if (i : Int) ∈ (cycsTo r k).flatten then nx r i else i

/-- .. and j steps of the next cycle. -/
def hk (r : List Int) (k j i : Nat) : Nat := if (i : Int) ∈ (cycsTo r k).flatten then nx r i else if (i : Int) ∈ orb r k j then nx r i else if i = it r j k then k else i

theorem hk_zero (r : List Int) (k i : Nat) : hk r k 0 i = gk r k i := by
  unfold hk gk
  split
  · rfl
  · rw [if_neg (by simp [orb])]
    show (if i = k then k else i) = i
    split
    · omega
    · rfl

theorem hk_step {r : List Int} (hr : isRow r) {k j i : Nat} (hkl : k < r.length) (hn : ¬ (k : Int) ∈ (cycsTo r k).flatten) (hj : j + 1 < per r k) : hk r k (j + 1) i = hk r k j (swp (it r j k) (it r (j + 1) k) i) := by
  have n1 := it_notin hr hkl hn j
  have n2 := it_notin hr hkl hn (j + 1)
  have hne : it r j k ≠ it r (j + 1) k := fun e => by have := orb_inj hr hkl (by omega) hj e; omega
  have m1 : ¬ ((it r (j + 1) k : Nat) : Int) ∈ orb r k (j + 1) := by
    intro h
    obtain ⟨a, ha, e⟩ := mem_orb.1 h
    have := orb_inj hr hkl hj (by omega) (show it r (j + 1) k = it r a k by omega)
    omega
  have m2 : ¬ ((it r (j + 1) k : Nat) : Int) ∈ orb r k j := by
    intro h
    obtain ⟨a, ha, e⟩ := mem_orb.1 h
    exact m1 (mem_orb.2 ⟨a, by omega, e⟩)
  have m3 : ¬ ((it r j k : Nat) : Int) ∈ orb r k j := by
    intro h
    obtain ⟨a, ha, e⟩ := mem_orb.1 h
    have := orb_inj hr hkl (show j < per r k by omega) (by omega) (show it r j k = it r a k by omega)
    omega
  by_cases h1 : i = it r j k
  · subst h1
    have e : swp (it r j k) (it r (j + 1) k) (it r j k) = it r (j + 1) k := by unfold swp; rw [if_pos rfl]
    rw [e]
    unfold hk
    rw [if_neg n1, if_pos (mem_orb.2 ⟨j, by omega, rfl⟩), if_neg n2, if_neg m2, if_neg (Ne.symm hne)]
    rfl
  · by_cases h2 : i = it r (j + 1) k
    · subst h2
      have e : swp (it r j k) (it r (j + 1) k) (it r (j + 1) k) = it r j k := by unfold swp; rw [if_neg (Ne.symm hne), if_pos rfl]
      rw [e]
      unfold hk
      rw [if_neg n2, if_neg m1, if_pos rfl, if_neg n1, if_neg m3, if_pos rfl]
    · have e : swp (it r j k) (it r (j + 1) k) i = i := by unfold swp; rw [if_neg h1, if_neg h2]
      rw [e]
      unfold hk
      by_cases h3 : (i : Int) ∈ (cycsTo r k).flatten
      · rw [if_pos h3, if_pos h3]
      · rw [if_neg h3, if_neg h3, if_neg h2, if_neg h1]
        have : ((i : Int) ∈ orb r k (j + 1)) ↔ ((i : Int) ∈ orb r k j) := by
          rw [mem_orb, mem_orb]
          constructor
          · rintro ⟨a, ha, e⟩
            by_cases e2 : a = j
            · subst e2; exact absurd (by omega) h1
            · exact ⟨a, by omega, e⟩
          · rintro ⟨a, ha, e⟩; exact ⟨a, by omega, e⟩
        by_cases h4 : (i : Int) ∈ orb r k j
        · rw [if_pos (this.2 h4), if_pos h4]
        · rw [if_neg (fun h => h4 (this.1 h)), if_neg h4]

theorem hk_end {r : List Int} (hr : isRow r) {k : Nat} (hkl : k < r.length) (hn : ¬ (k : Int) ∈ (cycsTo r k).flatten) (i : Nat) : hk r k (per r k - 1) i = gk r (k + 1) i := by
  obtain ⟨p1, _, p3, _⟩ := per_spec hr hkl
  unfold hk gk
  rw [cycsTo_succ, if_neg hn, List.flatten_append]
  have hm : ((i : Int) ∈ (cycsTo r k).flatten ++ [orb r k (per r k)].flatten) ↔ ((i : Int) ∈ (cycsTo r k).flatten ∨ (i : Int) ∈ orb r k (per r k)) := by simp
  by_cases h1 : (i : Int) ∈ (cycsTo r k).flatten
  · rw [if_pos h1, if_pos (hm.2 (Or.inl h1))]
  · rw [if_neg h1]
    by_cases h2 : (i : Int) ∈ orb r k (per r k - 1)
    · obtain ⟨a, ha, e⟩ := mem_orb.1 h2
      rw [if_pos h2, if_pos (hm.2 (Or.inr (mem_orb.2 ⟨a, by omega, e⟩)))]
    · rw [if_neg h2]
      by_cases h3 : i = it r (per r k - 1) k
      · rw [if_pos h3, if_pos (hm.2 (Or.inr (mem_orb.2 ⟨per r k - 1, by omega, by omega⟩)))]
        subst h3
        show k = it r (per r k - 1 + 1) k
        rw [show per r k - 1 + 1 = per r k from by omega, p3]
      · rw [if_neg h3, if_neg]
        intro h
        rcases hm.1 h with h | h
        · exact h1 h
        · obtain ⟨a, ha, e⟩ := mem_orb.1 h
          by_cases e2 : a = per r k - 1
          · subst e2; exact h3 (by omega)
          · exact h2 (mem_orb.2 ⟨a, by omega, e⟩)

theorem hk_inv {r : List Int} (hr : isRow r) {k : Nat} (hkl : k < r.length) (hn : ¬ (k : Int) ∈ (cycsTo r k).flatten) (hg : ∀ i j, i < r.length → j < r.length → gk r k i = gk r k j → i = j) (j : Nat) (hj : j < per r k) :
    (∀ a b, a < r.length → b < r.length → hk r k j a = hk r k j b → a = b) ∧ inv r.length (hk r k j) % 2 = (inv r.length (gk r k) + j) % 2 := by
  induction j with
  | zero =>
    refine ⟨fun a b ha hb e => hg a b ha hb (by rw [← hk_zero, ← hk_zero]; exact e), ?_⟩
    rw [inv_congr (fun i _ => hk_zero r k i)]; rfl
  | succ j ih =>
    obtain ⟨i1, i2⟩ := ih (by omega)
    have hl1 := it_lt hr hkl j
    have hl2 := it_lt hr hkl (j + 1)
    have hp := swp_perm hl1 hl2
    have hne : it r j k ≠ it r (j + 1) k := fun e => by have := orb_inj hr hkl (by omega) hj e; omega
    constructor
    · intro a b ha hb e
      rw [hk_step hr hkl hn hj, hk_step hr hkl hn hj] at e
      exact hp.2 a b ha hb (i1 _ _ (hp.1 a ha) (hp.1 b hb) e)
    · rw [inv_congr (fun i _ => hk_step hr hkl hn hj), inv_mul hp i1]
      have := inv_swp hne hl1 hl2
      omega

theorem oddTo_snoc (xss : List (List Int)) (c : List Int) : oddTo (xss ++ [c]) (xss.length + 1) = if c.length % 2 = 0 then !(oddTo xss xss.length) else oddTo xss xss.length := by
  have hp : ∀ j, j ≤ xss.length → oddTo (xss ++ [c]) j = oddTo xss j := by
    intro j hj
    induction j with
    | zero => rfl
    | succ j ih =>
      have e : (xss ++ [c]).getD j [] = xss.getD j [] := by
        simp only [List.getD]; rw [List.getElem?_append_left (by omega)]
      show (if ((xss ++ [c]).getD j []).length % 2 = 0 then !(oddTo (xss ++ [c]) j) else oddTo (xss ++ [c]) j) = (if (xss.getD j []).length % 2 = 0 then !(oddTo xss j) else oddTo xss j)
      rw [e, ih (by omega)]
  have e : (xss ++ [c]).getD xss.length [] = c := by simp [List.getD]
  show (if ((xss ++ [c]).getD xss.length []).length % 2 = 0 then !(oddTo (xss ++ [c]) xss.length) else oddTo (xss ++ [c]) xss.length) = _
  rw [e, hp _ (Nat.le_refl _)]

theorem gk_inv {r : List Int} (hr : isRow r) (k : Nat) (hkl : k ≤ r.length) :
    (∀ a b, a < r.length → b < r.length → gk r k a = gk r k b → a = b) ∧ inv r.length (gk r k) % 2 = (if oddTo (cycsTo r k) (cycsTo r k).length = true then 1 else 0) := by
  induction k with
  | zero =>
    have e : ∀ i, gk r 0 i = i := fun i => by unfold gk; rw [if_neg (by simp [cycsTo])]
    refine ⟨fun a b _ _ h => by rwa [e, e] at h, ?_⟩
    rw [inv_congr (fun i _ => e i), inv_id]; rfl
  | succ k ih =>
    obtain ⟨i1, i2⟩ := ih (by omega)
    by_cases h : (k : Int) ∈ (cycsTo r k).flatten
    · have e : cycsTo r (k + 1) = cycsTo r k := by rw [cycsTo_succ, if_pos h]
      have e2 : ∀ i, gk r (k + 1) i = gk r k i := fun i => by unfold gk; rw [e]
      refine ⟨fun a b ha hb h' => i1 a b ha hb (by rwa [e2, e2] at h'), ?_⟩
      rw [inv_congr (fun i _ => e2 i), e]; exact i2
    · have hlt : k < r.length := by omega
      obtain ⟨p1, _, _, _⟩ := per_spec hr hlt
      obtain ⟨j1, j2⟩ := hk_inv hr hlt h i1 (per r k - 1) (by omega)
      have e := hk_end hr hlt h
      refine ⟨fun a b ha hb h' => j1 a b ha hb (by rw [e, e]; exact h'), ?_⟩
      rw [← inv_congr (fun i _ => e i), j2]
      have e3 : cycsTo r (k + 1) = cycsTo r k ++ [orb r k (per r k)] := by rw [cycsTo_succ, if_neg h]
      rw [e3, List.length_append, show ([orb r k (per r k)] : List (List Int)).length = 1 from rfl, oddTo_snoc, orb_length]
      cases hd : oddTo (cycsTo r k) (cycsTo r k).length with
      | true =>
        rw [hd] at i2
        simp only [if_true] at i2
        by_cases hp : per r k % 2 = 0
        · rw [if_pos hp]; simp; omega
        · rw [if_neg hp]; simp; omega
      | false =>
        rw [hd] at i2
        simp at i2
        by_cases hp : per r k % 2 = 0
        · rw [if_pos hp]; simp; omega
        · rw [if_neg hp]; simp; omega

theorem flat_all {r : List Int} (hr : isRow r) (k : Nat) (hkl : k ≤ r.length) (i : Nat) (hi : i < k) : (i : Int) ∈ (cycsTo r k).flatten := by
  induction k with
  | zero => omega
  | succ k ih =>
    rw [cycsTo_succ]
    by_cases h : (k : Int) ∈ (cycsTo r k).flatten
    · rw [if_pos h]
      by_cases e : i = k
      · subst e; exact h
      · exact ih (by omega) (by omega)
    · rw [if_neg h, List.flatten_append]
      by_cases e : i = k
      · subst e
        refine List.mem_append.2 (Or.inr ?_)
        simp only [List.flatten_cons, List.flatten_nil, List.append_nil]
        exact mem_orb.2 ⟨0, by have := (per_spec hr (show i < r.length by omega)).1; omega, rfl⟩
      · exact List.mem_append.2 (Or.inl (ih (by omega) (by omega)))

/-- Is the row odd, by its cycles? -/
def odd (r : List Int) : Bool := oddTo (cycsTo r r.length) (cycsTo r r.length).length

theorem odd_inv {r : List Int} (hr : isRow r) : inv r.length (nx r) % 2 = (if odd r = true then 1 else 0) := by
  have h := (gk_inv hr r.length (Nat.le_refl _)).2
  rw [inv_congr (q := gk r r.length) (fun i hi => by unfold gk; rw [if_pos (flat_all hr _ (Nat.le_refl _) i hi)])]
  exact h

theorem nx_perm {r : List Int} (hr : isRow r) : PermOn r.length (nx r) := ⟨fun _ hi => nx_lt hr hi, fun _ _ hi hj e => nx_inj hr hi hj e⟩

theorem isRow_by {a b : List Int} (ha : isRow a) (hb : isRow b) (hl : b.length = a.length) : isRow (by_ a b) := by
  have hat : ∀ j, j < b.length → (b.getD j 0).toNat < a.length := fun j hj => by have := hb.at hj; omega
  constructor
  · intro y hy
    obtain ⟨j, hj, rfl⟩ := List.getElem_of_mem hy
    have hj' : j < b.length := by rwa [by_length] at hj
    have e := by_get (a := a) hj'
    rw [show (by_ a b).getD j 0 = (by_ a b)[j] from by simp [List.getD, List.getElem?_eq_getElem hj]] at e
    rw [e, by_length, hl]
    exact ha.at (hat j hj')
  · rw [List.nodup_iff_pairwise_ne, List.pairwise_iff_getElem]
    intro i j hi hj hij e
    have hi' : i < b.length := by rwa [by_length] at hi
    have hj' : j < b.length := by rwa [by_length] at hj
    have e1 := by_get (a := a) hi'
    have e2 := by_get (a := a) hj'
    rw [show (by_ a b).getD i 0 = (by_ a b)[i] from by simp [List.getD, List.getElem?_eq_getElem hi]] at e1
    rw [show (by_ a b).getD j 0 = (by_ a b)[j] from by simp [List.getD, List.getElem?_eq_getElem hj]] at e2
    rw [e1, e2] at e
    have h1 := ha.inj (hat i hi') (hat j hj') e
    have b1 := hb.at hi'
    have b2 := hb.at hj'
    have := hb.inj hi' hj' (by omega)
    omega

theorem nx_by {a b : List Int} {i : Nat} (hi : i < b.length) : nx (by_ a b) i = nx a (nx b i) := by
  unfold nx; rw [by_get hi]

theorem odd_by {a b : List Int} (ha : isRow a) (hb : isRow b) (hl : b.length = a.length) : odd (by_ a b) = (odd a != odd b) := by
  have h1 := odd_inv (isRow_by ha hb hl)
  have h2 := odd_inv ha
  have h3 := odd_inv hb
  rw [by_length, inv_congr (fun i hi => nx_by hi), inv_mul (nx_perm hb) (by rw [hl]; exact (nx_perm ha).2)] at h1
  rw [hl] at h1 h3
  cases e1 : odd (by_ a b) <;> cases e2 : odd a <;> cases e3 : odd b <;> rw [e1] at h1 <;> rw [e2] at h2 <;> rw [e3] at h3 <;> simp at h1 h2 h3 ⊢ <;> omega

end Go.Proofs.YtenpkhalgkodbaaDoor

/- Contract: Text. -/
namespace Go.Proofs.YtenpkhalgkodbaaDoor
open Go.RowKit
set_option maxRecDepth 20000

theorem Tryd.info5 : (Tryd.prog.info? 5).map (fun i => (i.zero, i.size, i.bytes)) = some (some (.int .u8 0), 1, 1) := by kernel_rfl

/-- The signs. -/
def sg (m : Nat) : Nat := [49, 50, 51, 52, 53, 54, 55, 56, 57, 48, 69, 84].getD m 0

theorem sg_lt (m : Nat) : sg m < 128 := by
  match m with
  | 0 | 1 | 2 | 3 | 4 | 5 | 6 | 7 | 8 | 9 | 10 | 11 => decide
  | n + 12 => simp [sg]

/-- The text of a row, as numbers. -/
def txt (xs : List Int) : List Int := xs.map (fun x => ((sg x.toNat : Nat) : Int))

theorem txt_length (xs : List Int) : (txt xs).length = xs.length := by simp [txt]

theorem txt_snoc (xs : List Int) (m : Nat) : txt (xs ++ [(m : Int)]) = txt xs ++ [((sg m : Nat) : Int)] := by simp [txt]

theorem index_sign (m : Nat) (hm : m < 12) (w : World) : (Instr.index 9 (.string { data := #[49, 50, 51, 52, 53, 54, 55, 56, 57, 48, 69, 84] }) (.int .i64 (m : Int))).run Tryd.prog w = .ok (.int .u8 ((sg m : Nat) : Int)) w := by
  rw [run_index_string w 9 _ .i64 (m : Int) Tryd.underlying9, dif_pos ⟨by omega, by show (m : Int) < 12; omega⟩]
  match m, hm with
  | 0, _ | 1, _ | 2, _ | 3, _ | 4, _ | 5, _ | 6, _ | 7, _ | 8, _ | 9, _ | 10, _ | 11, _ => rfl

theorem owns_bytes {w : World} {base e g n cap : Nat} {zs : List Int} (h : w.ownsRow base e 1 (.slice (some ⟨g, 0, none⟩) n cap) n (zs.map (Value.int .u8))) (j : Nat) (hj : j < n) :
    w.cell? ⟨g, 0 + j, none⟩ = some (.int .u8 (zs.getD j 0)) := by
  have hl : zs.length = n := by have := h.1; simpa using this
  have := h.cells (g := g) rfl j (.int .u8 (zs.getD j 0)) (by simp [List.getElem?_map, List.getD, List.getElem?_eq_getElem (by omega : j < zs.length)])
  rw [Addr.add_lit] at this
  exact this

end Go.Proofs.YtenpkhalgkodbaaDoor

/- Contract: bellOf. -/
namespace Go.Proofs.YtenpkhalgkodbaaDoor
open Go.RowKit
set_option maxRecDepth 20000

theorem byte_sign (m : Nat) (hm : m < 12) : (({ data := #[49, 50, 51, 52, 53, 54, 55, 56, 57, 48, 69, 84] } : ByteArray)[m]'(by exact hm)).toNat = sg m := by
  match m, hm with
  | 0, _ | 1, _ | 2, _ | 3, _ | 4, _ | 5, _ | 6, _ | 7, _ | 8, _ | 9, _ | 10, _ | 11, _ => rfl

theorem decode_sign (m : Nat) (hm : m < 12) : Utf8.decode { data := #[49, 50, 51, 52, 53, 54, 55, 56, 57, 48, 69, 84] } m = (sg m, 1) := by
  have h := byte_sign m hm
  rw [decode_ascii _ m (by exact hm) (by rw [h]; exact sg_lt m), h]

theorem sg_inj {i j : Nat} (hi : i < 12) (hj : j < 12) (h : sg i = sg j) : i = j := by
  have key : ∀ i : Fin 12, ∀ j : Fin 12, sg i.val = sg j.val → i = j := by decide
  have := key ⟨i, hi⟩ ⟨j, hj⟩ h
  exact congrArg Fin.val this

theorem next_sign (w : World) (k : Nat) (hk : k < 12) : ∀ ty, (Instr.next (.pointer (some ⟨w.heap.size, 0, none⟩)) true ty).run Tryd.prog (w.iter { data := #[49, 50, 51, 52, 53, 54, 55, 56, 57, 48, 69, 84] } k) =
    .ok (.tuple #[.bool true, .int .i64 (k : Int), .int .i32 ((sg k : Nat) : Int)]) (w.iter { data := #[49, 50, 51, 52, 53, 54, 55, 56, 57, 48, 69, 84] } (k + 1)) := by
  intro ty
  rw [run_next_any w _ k ty (by exact hk), decode_sign k hk]

theorem next_done (w : World) (k : Nat) (hk : ¬ k < 12) : ∀ ty, (Instr.next (.pointer (some ⟨w.heap.size, 0, none⟩)) true ty).run Tryd.prog (w.iter { data := #[49, 50, 51, 52, 53, 54, 55, 56, 57, 48, 69, 84] } k) =
    .ok (.tuple #[.bool false]) (w.iter { data := #[49, 50, 51, 52, 53, 54, 55, 56, 57, 48, 69, 84] } k) := by
  intro ty
  exact run_next_end w _ k ty (by exact hk)

theorem below_iter (w : World) (s : ByteArray) (k : Nat) : Below w.heap.size w (w.iter s k) := (Below.refl _ _).alloc (Nat.le_refl _) _

theorem ret_bell {k m : Nat} (h : k = m) : Ending.returned (.tuple #[.int .i64 (k : Int), .bool true]) = Ending.returned (.tuple #[.int .i64 (m : Int), .bool true]) := by rw [h]

end Go.Proofs.YtenpkhalgkodbaaDoor

/- Contract: Read, at every text. -/
namespace Go.Proofs.YtenpkhalgkodbaaDoor
open Go.RowKit Go.Lib

/-- The bell of a sign; 12: none. -/
def bl (b : UInt8) : Nat := ((List.range 12).find? (fun m => sg m == b.toNat)).getD 12

theorem bl_sg {b : UInt8} (h : bl b < 12) : sg (bl b) = b.toNat := by
  unfold bl at h ⊢
  cases hf : (List.range 12).find? (fun m => sg m == b.toNat) with
  | none => rw [hf] at h; simp at h
  | some p => rw [Option.getD_some]; simpa using List.find?_some hf

theorem bl_of {b : UInt8} {m : Nat} (hm : m < 12) (h : sg m = b.toNat) : bl b = m := by
  have h1 : bl b < 12 := by
    unfold bl
    cases hf : (List.range 12).find? (fun m => sg m == b.toNat) with
    | none =>
      have := List.find?_eq_none.1 hf m (List.mem_range.2 hm)
      simp [h] at this
    | some p =>
      rw [Option.getD_some]
      exact List.mem_range.1 (List.mem_of_find?_eq_some hf)
  have h2 := bl_sg h1
  exact sg_inj h1 hm (by rw [h2, h])

/-- The bells of a text's bytes. -/
def bells (l : List UInt8) : List Int := l.map (fun b => ((bl b : Nat) : Int))

theorem bells_length (l : List UInt8) : (bells l).length = l.length := by simp [bells]

theorem bells_snoc (s : ByteArray) (k : Nat) (h : k < s.size) : bells (s.data.toList.take (k + 1)) = bells (s.data.toList.take k) ++ [((bl (s[k]'h) : Nat) : Int)] := by
  rw [List.take_succ_eq_append_getElem (by simpa using h)]
  simp [bells]
  rfl

theorem chk_take (xs : List Int) : chk (xs.take 13) = chk xs := by
  by_cases h : xs.length ≤ 13
  · rw [List.take_of_length_le h]
  · rw [chk_count (by rw [List.length_take]; omega), chk_count (by omega)]

/-- What the loop's relation says of the world. -/
structure ReadRel (w wr : World) (s : ByteArray) (v : Value) (pos : Nat) : Prop where
  iter : wr.heap[w.heap.size]? = some (.stringIter s pos)
  signs : ∀ j, (h : j < s.size) → j < pos → bl s[j] < 12
  row : wr.ownsRow (w.heap.size + 1) 3 1 v (min pos 13) (((bells (s.data.toList.take pos)).take 13).map (Value.int .i64))
  size : w.heap.size < wr.heap.size
  below : Below w.heap.size w wr

theorem ReadRel.next {w wr w1 : World} {s : ByteArray} {v : Value} {pos : Nat} (h : ReadRel w wr s v pos) (hp : pos < s.size) (hs : bl (s[pos]'hp) < 12) (hb : Below wr.heap.size (wr.iterAt w.heap.size s (pos + 1)) w1) :
    w1.heap[w.heap.size]? = some (.stringIter s (pos + 1)) ∧ w1.ownsRow (w.heap.size + 1) 3 1 v (min pos 13) (((bells (s.data.toList.take pos)).take 13).map (Value.int .i64)) ∧ w.heap.size < w1.heap.size ∧ Below w.heap.size w w1 ∧
      ∀ j, (h : j < s.size) → j < pos + 1 → bl s[j] < 12 := by
  have hz : (wr.iterAt w.heap.size s (pos + 1)).heap.size = wr.heap.size := iterAt_size _ _ _ _
  refine ⟨?_, ?_, ?_, ?_, ?_⟩
  · rw [hb.block _ h.size]; exact iterAt_heap wr _ s pos (pos + 1) h.iter
  · exact owns_below (ownsRow_iterAt h.row (Nat.lt_succ_self _) s (pos + 1)) hb (by rw [hz]; exact Nat.le_refl _)
  · have h1 := h.size; have h2 := hb.size; omega
  · exact (below_iterAt h.below (Nat.le_refl _) s (pos + 1)).trans (hb.mono (Nat.le_of_lt h.size))
  · intro j hj hjp
    by_cases e : j = pos
    · subst e; exact hs
    · exact h.signs j hj (by omega)

theorem not_sign {s : ByteArray} {pos : Nat} (hp : pos < s.size) (hs : ¬ bl (s[pos]'hp) < 12) : ∀ m, m < 12 → (((Utf8.decode s pos).1 : Nat) : Int) ≠ ((sg m : Nat) : Int) := by
  intro m hm e
  by_cases ha : (s[pos]'hp).toNat < 128
  · rw [decode_ascii s pos hp ha] at e
    exact hs (by rw [bl_of hm (by simp only at e; omega)]; exact hm)
  · have h1 := (decode_high s pos hp (by omega)).1
    have h2 := sg_lt m
    omega

theorem ret_read {v : Value} {a b : Int} (h : a = b) : Ending.returned (.tuple #[v, .int .i64 a]) = Ending.returned (.tuple #[v, .int .i64 b]) := by rw [h]

/-- What Read answers. -/
def ReadSays (s : ByteArray) (e : Ending) (w' : World) : Prop :=
  ((∃ q, ∃ h : q < s.size, ¬ bl s[q] < 12) ∧ e = .returned (.tuple #[.slice none 0 0, .int .i64 4])) ∨
  ((∀ q, (h : q < s.size) → bl s[q] < 12) ∧ ((chk (bells s.data.toList) = 0 ∧ ∃ v, e = .returned (.tuple #[v, .int .i64 0]) ∧ Ints w' v (bells s.data.toList)) ∨
    (chk (bells s.data.toList) ≠ 0 ∧ e = .returned (.tuple #[.slice none 0 0, .int .i64 (chk (bells s.data.toList))]))))

theorem take_room {l : List Int} {pos : Nat} {m : Int} (h : l.length = pos) (h13 : pos ≤ 12) : (l ++ [m]).take 13 = l.take 13 ++ [m] := by
  rw [List.take_of_length_le (by simp; omega), List.take_of_length_le (by omega)]

theorem take_full {l : List Int} {pos : Nat} {m : Int} (h : l.length = pos) (h13 : ¬ pos ≤ 12) : (l ++ [m]).take 13 = l.take 13 := by
  rw [List.take_append_of_le_length (by omega)]

theorem bells_take_length {s : ByteArray} {pos : Nat} (h : pos ≤ s.size) : (bells (s.data.toList.take pos)).length = pos := by
  have h' : s.size = s.data.size := rfl
  rw [bells_length, List.length_take, Array.length_toList]; omega

end Go.Proofs.YtenpkhalgkodbaaDoor

/- Contracts: slices.Delete (off the library's shelf), At. -/
namespace Go.Proofs.YtenpkhalgkodbaaDoor
open Go.RowKit Go.Lib

theorem erase_take_drop (zs : List Int) (i : Nat) (h : i < zs.length) : (zs.take i ++ zs.drop (i + 1) ++ List.replicate (i + 1 - i) 0).take (zs.length - 1) = zs.eraseIdx i := by
  rw [List.eraseIdx_eq_take_drop_succ, List.take_append_of_le_length (by simp; omega), List.take_of_length_le (by simp; omega)]

/-- The row with a rank, out of the bells that are left. -/
def atl : Nat → List Int → Nat → List Int
  | 0, _, _ => []
  | m + 1, L, k => L.getD (k / fct m) 0 :: atl m (L.eraseIdx (k / fct m)) (k % fct m)

end Go.Proofs.YtenpkhalgkodbaaDoor
