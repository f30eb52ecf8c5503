/- Joined: SbT, XtQ, SbU, SbV. -/
import Derived.Test.YtoiiadiimfohiaaJ11
import Derived.Test.YtoiiadiimfohiaaJ7
import Derived.Test.YtoiiadiimfohiaaJ9
import Derived.BigQuiet
import Derived.Test.YtoiiadiimfohiaaJ10
import Derived.Test.YtoiiadiimfohiaaJ4
/- Plain: lists in order; merging; equal neighbours. -/
namespace Go.Proofs.Ytoiiadiimfohiaa
open Go.RowKit

theorem blw_lcmp : ∀ a b : List Int, blw a b = decide (lcmp a b < 0)
  | [], [] => rfl
  | [], _ :: _ => rfl
  | _ :: _, [] => rfl
  | x :: a, y :: b => by
    rw [lcmp_cons]
    show (if x = y then blw a b else decide (x < y)) = _
    by_cases h : x = y
    · subst h
      rw [if_pos rfl, if_neg (by omega), if_neg (by omega)]
      exact blw_lcmp a b
    · rw [if_neg h]
      by_cases h2 : x < y
      · rw [if_pos h2, decide_eq_true h2]; rfl
      · rw [if_neg h2, if_pos (by omega), decide_eq_false h2]; rfl

theorem blw_irr (a : List Int) : blw a a = false := by rw [blw_lcmp, lcmp_self]; rfl

theorem blw_trans {a b c : List Int} (h1 : blw a b = true) (h2 : blw b c = true) : blw a c = true := by
  rw [blw_lcmp] at *
  exact decide_eq_true (lcmp_trans _ _ _ (of_decide_eq_true h1) (of_decide_eq_true h2))

theorem blw_ntrans {a b c : List Int} (h1 : blw a b = false) (h2 : blw b c = false) : blw a c = false := by
  rw [blw_lcmp] at *
  exact decide_eq_false (lcmp_ntrans _ _ _ (of_decide_eq_false h1) (of_decide_eq_false h2))

theorem blw_tri : ∀ {a b : List Int}, blw a b = false → blw b a = false → a = b
  | [], [], _, _ => rfl
  | [], _ :: _, h, _ => by cases h
  | _ :: _, [], _, h => by cases h
  | x :: a, y :: b, h1, h2 => by
    have e1 : (if x = y then blw a b else decide (x < y)) = false := h1
    have e2 : (if y = x then blw b a else decide (y < x)) = false := h2
    by_cases h : x = y
    · subst h
      rw [if_pos rfl] at e1 e2
      rw [blw_tri e1 e2]
    · rw [if_neg h] at e1
      rw [if_neg (fun e => h e.symm)] at e2
      have := of_decide_eq_false e1
      have := of_decide_eq_false e2
      omega

theorem blw_lt {a b : List Int} (h1 : blw b a = false) (h2 : a ≠ b) : blw a b = true := by
  cases h : blw a b with
  | true => rfl
  | false => exact absurd (blw_tri h h1) h2

/-- Lists in order, each once, are told by their members. -/
theorem rising_eq : ∀ {X Y : List (List Int)}, X.Pairwise (fun a b => blw a b = true) → Y.Pairwise (fun a b => blw a b = true) → (∀ x, x ∈ X ↔ x ∈ Y) → X = Y
  | [], [], _, _, _ => rfl
  | [], y :: _, _, _, h => by have := (h y).2 List.mem_cons_self; cases this
  | x :: _, [], _, _, h => by have := (h x).1 List.mem_cons_self; cases this
  | x :: X, y :: Y, hX, hY, h => by
    obtain ⟨a1, a2⟩ := List.pairwise_cons.1 hX
    obtain ⟨b1, b2⟩ := List.pairwise_cons.1 hY
    have e : x = y := by
      rcases List.mem_cons.1 ((h x).1 List.mem_cons_self) with h1 | h1
      · exact h1
      · rcases List.mem_cons.1 ((h y).2 List.mem_cons_self) with h2 | h2
        · exact h2.symm
        · have := blw_trans (a1 y h2) (b1 x h1)
          rw [blw_irr] at this
          cases this
    subst e
    rw [rising_eq a2 b2 (fun z => ?_)]
    constructor
    · intro hz
      rcases List.mem_cons.1 ((h z).1 (List.mem_cons_of_mem _ hz)) with h1 | h1
      · subst h1
        have := a1 z hz
        rw [blw_irr] at this
        cases this
      · exact h1
    · intro hz
      rcases List.mem_cons.1 ((h z).2 (List.mem_cons_of_mem _ hz)) with h1 | h1
      · subst h1
        have := b1 z hz
        rw [blw_irr] at this
        cases this
      · exact h1

/-- In order, one may come twice. -/
abbrev Ris (X : List (List Int)) : Prop := X.Pairwise (fun a b => blw b a = false)

theorem Ris.rising {X : List (List Int)} (h : Ris X) (hn : X.Nodup) : X.Pairwise (fun a b => blw a b = true) :=
  (List.Pairwise.and h hn).imp (fun ⟨h1, h2⟩ => blw_lt h1 h2)

/-- Merging. -/
def mrg : List (Value × List Int) → List (Value × List Int) → List (Value × List Int)
  | [], B => B
  | a :: A, [] => a :: A
  | a :: A, b :: B => if blw b.2 a.2 = true then b :: mrg (a :: A) B else a :: mrg A (b :: B)
termination_by A B => A.length + B.length

theorem mrg_nil (A : List (Value × List Int)) : mrg A [] = A := by cases A <;> simp [mrg]

theorem mrg_perm : ∀ A B : List (Value × List Int), (mrg A B).Perm (A ++ B)
  | [], B => by rw [mrg]; exact List.Perm.refl _
  | a :: A, [] => by rw [mrg_nil, List.append_nil]
  | a :: A, b :: B => by
    rw [mrg]
    split
    · exact ((mrg_perm (a :: A) B).cons b).trans List.perm_middle.symm
    · exact (mrg_perm A (b :: B)).cons a
termination_by A B => A.length + B.length

theorem mrg_ris : ∀ A B : List (Value × List Int), A.Pairwise (fun a b => blw b.2 a.2 = false) → B.Pairwise (fun a b => blw b.2 a.2 = false) → (mrg A B).Pairwise (fun a b => blw b.2 a.2 = false)
  | [], B, _, h => by rw [mrg]; exact h
  | a :: A, [], h, _ => by rw [mrg_nil]; exact h
  | a :: A, b :: B, hA, hB => by
    obtain ⟨a1, a2⟩ := List.pairwise_cons.1 hA
    obtain ⟨b1, b2⟩ := List.pairwise_cons.1 hB
    rw [mrg]
    split
    · rename_i h
      refine List.pairwise_cons.2 ⟨fun x hx => ?_, mrg_ris (a :: A) B hA b2⟩
      have hba : blw a.2 b.2 = false := by
        cases h9 : blw a.2 b.2 with
        | false => rfl
        | true => have := blw_trans h h9; rw [blw_irr] at this; cases this
      rcases List.mem_append.1 ((mrg_perm (a :: A) B).mem_iff.1 hx) with h1 | h1
      · rcases List.mem_cons.1 h1 with rfl | h1
        · exact hba
        · exact blw_ntrans (a1 x h1) hba
      · exact b1 x h1
    · rename_i h
      have h' : blw b.2 a.2 = false := by simpa using h
      refine List.pairwise_cons.2 ⟨fun x hx => ?_, mrg_ris A (b :: B) a2 hB⟩
      rcases List.mem_append.1 ((mrg_perm A (b :: B)).mem_iff.1 hx) with h1 | h1
      · exact a1 x h1
      · rcases List.mem_cons.1 h1 with rfl | h1
        · exact h'
        · exact blw_ntrans (b1 x h1) h'
termination_by A B => A.length + B.length

theorem drop_at {α : Type} {A : List α} {i : Nat} {x : α} (h : A[i]? = some x) : A.drop i = x :: A.drop (i + 1) := by
  obtain ⟨h1, h2⟩ := List.getElem?_eq_some_iff.1 h
  rw [← h2, List.drop_eq_getElem_cons h1]

theorem mrg_left {A B : List (Value × List Int)} {i k : Nat} {x : Value × List Int} (hx : A[i]? = some x) (h : k = B.length ∨ ∃ y, B[k]? = some y ∧ blw y.2 x.2 = false) : mrg (A.drop i) (B.drop k) = x :: mrg (A.drop (i + 1)) (B.drop k) := by
  rw [drop_at hx]
  rcases h with rfl | ⟨y, hy, h⟩
  · rw [List.drop_length, mrg_nil, mrg_nil]
  · rw [drop_at hy, mrg, if_neg (by rw [h]; decide)]

theorem mrg_right {A B : List (Value × List Int)} {i k : Nat} {y : Value × List Int} (hy : B[k]? = some y) (h : i = A.length ∨ ∃ x, A[i]? = some x ∧ blw y.2 x.2 = true) : mrg (A.drop i) (B.drop k) = y :: mrg (A.drop i) (B.drop (k + 1)) := by
  rw [drop_at hy]
  rcases h with rfl | ⟨x, hx, h⟩
  · rw [List.drop_length, mrg, mrg]
  · rw [drop_at hx, mrg, if_pos h]

/-- Equal neighbours are dropped. -/
def nubTo (L : List (List Int)) : Nat → List (List Int)
  | 0 => []
  | k + 1 => if k = 0 ∨ L.getD k [] ≠ L.getD (k - 1) [] then nubTo L k ++ [L.getD k []] else nubTo L k

theorem take_snocD {L : List (List Int)} {k : Nat} (h : k < L.length) : L.take (k + 1) = L.take k ++ [L.getD k []] := by
  rw [List.take_succ_eq_append_getElem h]; simp [List.getD, h]

theorem nubTo_fact {L : List (List Int)} (hL : Ris L) : ∀ k, k ≤ L.length → (nubTo L k).Pairwise (fun a b => blw a b = true) ∧ ∀ x, x ∈ nubTo L k ↔ x ∈ L.take k
  | 0, _ => ⟨List.Pairwise.nil, fun x => by simp [nubTo]⟩
  | k + 1, hk => by
    obtain ⟨h1, h2⟩ := nubTo_fact hL k (by omega)
    have hg : ∀ i, i < L.length → L[i]? = some (L.getD i []) := fun i hi => by simp [List.getD, hi]
    have hle : ∀ i j, i < j → j < L.length → blw (L.getD j []) (L.getD i []) = false := fun i j hij hj => by
      have := List.pairwise_iff_getElem.1 hL i j (by omega) hj hij
      simpa [List.getD, show i < L.length by omega, hj] using this
    rw [nubTo, take_snocD (by omega)]
    by_cases hc : k = 0 ∨ L.getD k [] ≠ L.getD (k - 1) []
    · rw [if_pos hc]
      refine ⟨?_, fun x => by rw [List.mem_append, List.mem_append, h2]⟩
      refine List.pairwise_append.2 ⟨h1, by simp, fun x hx y hy => ?_⟩
      rw [List.mem_singleton] at hy
      subst hy
      obtain ⟨i, hi, e⟩ := List.getElem_of_mem ((h2 x).1 hx)
      rw [List.length_take] at hi
      have ex : x = L.getD i [] := by rw [← e]; simp [List.getD, show i < L.length by omega]
      have hik : i < k := by omega
      refine blw_lt (by rw [ex]; exact hle i k hik (by omega)) (fun e9 => ?_)
      rcases hc with rfl | hc
      · omega
      · apply hc
        rcases Nat.lt_or_ge i (k - 1) with h9 | h9
        · refine blw_tri ?_ (hle (k - 1) k (by omega) (by omega)) |>.symm
          rw [← e9, ex]
          exact hle i (k - 1) h9 (by omega)
        · have : i = k - 1 := by omega
          rw [← e9, ex, this]
    · rw [if_neg hc]
      refine ⟨h1, fun x => ?_⟩
      rw [List.mem_append, List.mem_singleton, h2]
      constructor
      · exact Or.inl
      · rintro (h | rfl)
        · exact h
        · have hk0 : k ≠ 0 := fun e => hc (Or.inl e)
          have e2 : L.getD k [] = L.getD (k - 1) [] := Classical.byContradiction (fun e => hc (Or.inr e))
          rw [e2]
          have hkl : k - 1 < L.length := by omega
          have : (L.take k)[k - 1]? = some (L.getD (k - 1) []) := by rw [List.getElem?_take]; simp [hkl, show k - 1 < k by omega, List.getD]
          exact List.mem_of_getElem? this

end Go.Proofs.Ytoiiadiimfohiaa

/- The answer's Below only reads; lists of numbers as words. -/
namespace Go.Proofs.Ytoiiadiimfohiaa
open Go.RowKit

set_option maxRecDepth 20000 in
set_option maxHeartbeats 2000000 in
theorem rbelow_q (v1 v2 : Value) (xs ys : List Int) (w : World) (h1 : Ints w v1 xs) (h2 : Ints w v2 ys) (hl1 : xs.length ≤ 1000000) (hl2 : ys.length ≤ 1000000) :
    Calls Try.prog 67 #[v1, v2] w fun e w' => e = .returned (.bool (blw xs ys)) ∧ ∃ m, w' = w.drewN m := by
  obtain ⟨p1, c1, rfl⟩ := h1.form
  obtain ⟨p2, c2, rfl⟩ := h2.form
  have HC1 := hide h1
  have HC2 := hide h2
  clear h1 h2
  go_enter Try.func67, Try.ntmps67
  go_wp2
  go_loopw [5] (fun i wr => ∃ k : Nat, k ≤ xs.length ∧ k ≤ ys.length ∧ i = .int .i64 k ∧ Hid (blw xs ys = blw (xs.drop k) (ys.drop k)) ∧ ∃ m, wr = w.drewN m) (fun i _ => xs.length - (intOf i).toNat)
  case atStart => exact ⟨0, by omega, by omega, rfl, rfl, 0, rfl⟩
  case round =>
    obtain ⟨k, hk, hk2, rfl, ht, dm, rfl⟩ := hrel
    by_cases hlt : k < xs.length
    · by_cases hlt2 : k < ys.length
      · rcases HC1.out with ⟨rfl, _⟩ | ⟨b, off, cap, hv, h0, hc, hm, hb, hcell⟩
        · simp at hlt
        rcases HC2.out with ⟨rfl, _⟩ | ⟨b2, off2, cap2, hv2, h02, hc2, hm2, hb2, hcell2⟩
        · simp at hlt2
        simp only [Value.slice.injEq] at hv hv2
        obtain ⟨rfl, _, rfl⟩ := hv
        obtain ⟨rfl, _, rfl⟩ := hv2
        obtain ⟨x, hx, hcx⟩ := cellAt hcell hlt
        obtain ⟨y, hy, hcy⟩ := cellAt hcell2 hlt2
        have gx : w.cell? ⟨b, off + k, none⟩ = some (.int .i64 x) := hcx
        have gy : w.cell? ⟨b2, off2 + k, none⟩ = some (.int .i64 y) := hcy
        have HD : Hid (blw xs ys = if x = y then blw (xs.drop (k + 1)) (ys.drop (k + 1)) else decide (x < y)) := by show _ = _; rw [ht.out, drop_cons xs hlt, drop_cons ys hlt2, hx.out, hy.out]; rfl
        clear hcx hcy hcell hcell2 ht hx hy
        by_cases hxy : x = y
        · subst hxy
          have HD' : Hid (blw xs ys = blw (xs.drop (k + 1)) (ys.drop (k + 1))) := by have := HD.out; rw [if_pos rfl] at this; exact this
          clear HD
          go_wp2
          go_region
          all_goals
            go_wp2
            go_roundw
            case rel => exact ⟨k + 1, by omega, by omega, by go_num, HD', by first | exact ⟨_, rfl⟩ | exact ⟨dm + 1, rfl⟩ | exact ⟨dm + 2, rfl⟩⟩
            case measure => simp [intOf]; omega
        · have hne : (x != y) = true := by simpa using hxy
          have HD' : Hid (blw xs ys = decide (x < y)) := by have := HD.out; rw [if_neg hxy] at this; exact this
          clear HD hxy
          go_wp2
          go_region
          all_goals
            go_wp2
            go_region
            all_goals
              go_wp2
              go_ret
              exact ⟨ret_bool HD'.out.symm, by first | exact ⟨_, rfl⟩ | exact ⟨dm + 1, rfl⟩ | exact ⟨dm + 2, rfl⟩⟩
      · have HE : Hid (blw xs ys = decide (xs.length < ys.length)) := by show _ = _; rw [ht.out]; exact blw_end xs ys k (fun h => hlt2 h.2) hk hk2
        go_wp2
        go_ret
        exact ⟨ret_bool (by rw [HE.out]), _, rfl⟩
    · have HE : Hid (blw xs ys = decide (xs.length < ys.length)) := by show _ = _; rw [ht.out]; exact blw_end xs ys k (fun h => hlt h.1) hk hk2
      go_wp2
      go_ret
      exact ⟨ret_bool (by rw [HE.out]), _, rfl⟩

theorem blw_nI : ∀ x y : List Nat, blw (nI x) (nI y) = true ↔ Ltl x y
  | [], [] => by simp [nI, blw, Ltl]
  | [], _ :: _ => by simp [nI, blw, Ltl]
  | _ :: _, [] => by simp [nI, blw, Ltl]
  | a :: x, b :: y => by
    have ih := blw_nI x y
    show (if ((a : Nat) : Int) = ((b : Nat) : Int) then blw (nI x) (nI y) else decide (((a : Nat) : Int) < ((b : Nat) : Int))) = true ↔ (a < b ∨ (a = b ∧ Ltl x y))
    by_cases h : a = b
    · rw [if_pos (by rw [h]), ih]
      constructor
      · exact fun h2 => Or.inr ⟨h, h2⟩
      · rintro (h2 | h2)
        · omega
        · exact h2.2
    · rw [if_neg (by omega), decide_eq_true_iff]
      constructor
      · exact fun h2 => Or.inl (by omega)
      · rintro (h2 | h2)
        · omega
        · exact absurd h2.1 h

end Go.Proofs.Ytoiiadiimfohiaa

/- Contract: the answer's Ordered. -/
namespace Go.Proofs.Ytoiiadiimfohiaa
open Go.RowKit
set_option maxRecDepth 20000
set_option linter.unusedVariables false

theorem Vals.dropK {w : World} {b o c m k : Nat} {vs : List Value} (h : Vals w (.slice (some ⟨b, o, none⟩) m c) vs) (hk : k < m) : Vals w (.slice (some ⟨b, o + k, none⟩) (m - k) (c - k)) (vs.drop k) := by
  rcases h with ⟨rfl, p', c', e⟩ | ⟨b', off, cap, e, h0, h1, h2, h3, hc⟩
  · simp at e; omega
  · simp only [Value.slice.injEq, Option.some.injEq, Addr.mk.injEq, and_true] at e
    obtain ⟨⟨rfl, rfl⟩, rfl, rfl⟩ := e
    refine Or.inr ⟨b, o + k, c - k, by rw [List.length_drop], by rw [List.length_drop]; omega, by rw [List.length_drop]; omega, by omega, h3, fun j hj => ?_⟩
    rw [List.length_drop] at hj
    rw [show o + k + j = o + (k + j) from by omega, hc (k + j) (by omega)]
    simp [List.getD]

def OrdPost (P : List (Value × List Int)) (w : World) (e : Ending) (w' : World) : Prop :=
  ∃ (u : Value) (P' : List (Value × List Int)), e = .returned u ∧ Vals w' u (P'.map Prod.fst) ∧ P'.Perm P ∧ P'.Pairwise (fun a b => blw b.2 a.2 = false) ∧ Below w.heap.size w w'

/-- What a list of values and what they read as gives at an index. -/
theorem pv_at {A : List (Value × List Int)} {i : Nat} (h : i < A.length) : ∃ x, A[i]? = some x ∧ x ∈ A ∧ (A.map Prod.fst).getD i undef = x.1 := by
  refine ⟨A[i], List.getElem?_eq_getElem h, List.getElem_mem h, by simp [List.getD, h]⟩

theorem Vals.cells {w : World} {v : Value} {vs : List Value} {m : Nat} (h : Vals w v vs) (hm : vs.length = m) (h1 : 1 ≤ m) : ∃ b off cap, v = .slice (some ⟨b, off, none⟩) m cap ∧ m ≤ cap ∧ cap ≤ 9223372036854775807 ∧ b < w.heap.size ∧ ∀ j, j < m → w.cell? ⟨b, off + j, none⟩ = some (vs.getD j undef) := by
  subst hm
  rcases h with ⟨rfl, p', c', e⟩ | ⟨b, off, cap, e, h0, h1, h2, h3, hc⟩
  · simp at h1
  · exact ⟨b, off, cap, e, h1, h2, h3, hc⟩

/-- What the merging knows. -/
structure MRel (A B Z : List (Value × List Int)) (w2 wr : World) (v : Value) (i k : Nat) : Prop where
  own : wr.ownsRow w2.heap.size 26 1 v Z.length (Z.map Prod.fst)
  eq : mrg A B = Z ++ mrg (A.drop i) (B.drop k)
  len : Z.length = i + k
  below : Below w2.heap.size w2 wr

theorem MRel.later {A B Z : List (Value × List Int)} {w2 wr w9 : World} {v : Value} {i k : Nat} (h : MRel A B Z w2 wr v i k) (hb : Below wr.heap.size wr w9) : MRel A B Z w2 w9 v i k :=
  ⟨owns_below h.own hb (Nat.le_refl _), h.eq, h.len, h.below.trans (hb.mono h.below.size)⟩

theorem MRel.next {A B Z : List (Value × List Int)} {w2 wr w9 : World} {v v9 : Value} {i k i' k' : Nat} {x : Value × List Int} {o : Obj} (h : MRel A B Z w2 wr v i k) (hx : mrg (A.drop i) (B.drop k) = x :: mrg (A.drop i') (B.drop k')) (hl : i' + k' = i + k + 1)
    (ho : w9.ownsRow w2.heap.size 26 1 v9 (Z.length + 1) (Z.map Prod.fst ++ [x.1])) (hg : (wr.alloc o).grownBy w9 v.ownBlock) : MRel A B (Z ++ [x]) w2 w9 v9 i' k' := by
  refine ⟨?_, ?_, ?_, ?_⟩
  · rw [List.length_append, List.map_append]; exact ho
  · rw [h.eq, hx, List.append_assoc]; rfl
  · rw [List.length_append, h.len]; simp; omega
  · exact (h.below.alloc h.below.size _).grown hg (by have := h.below.size; simp; omega) (fun g hg' => (h.own.lt g hg').1)

set_option maxHeartbeats 4000000 in
theorem ordered_ok (W0 : World) : ∀ (N : Nat) (P : List (Value × List Int)) (v : Value) (w : World), P.length ≤ N → P.length ≤ 1000000 → Vals w v (P.map Prod.fst) → Below W0.heap.size W0 w → (∀ p, p ∈ P → Ints W0 p.1 p.2 ∧ p.2.length ≤ 1000000) →
    Calls Try.prog 42 #[v] w (OrdPost P w) := by
  intro N
  induction N using Nat.strongRecOn with
  | ind N ih =>
    intro P v w hN hM hv hW hP
    obtain ⟨j0, hj, hq0, hq1, hq2⟩ := info_parts Try.info26
    by_cases h2 : P.length < 2
    · have HP : Hid (OrdPost P w (.returned v) w) := by
        refine ⟨v, P, rfl, hv, List.Perm.refl _, ?_, Below.refl _ _⟩
        match P, h2 with
        | [], _ => exact List.Pairwise.nil
        | [a], _ => exact List.pairwise_singleton _ _
      obtain ⟨p, c, hve⟩ := hv.form
      rw [List.length_map] at hve
      subst hve
      have h2' : (P.length : Int) < 2 := by omega
      clear hv hP ih hW
      generalize P.length = m at *
      go_enter Try.func42, Try.ntmps42
      go_wp2
      go_ret
      exact HP.out
    · obtain ⟨m, hm⟩ : ∃ m, Hid (P.length = m) := ⟨_, rfl⟩
      have hmP : (P.map Prod.fst).length = m := by rw [List.length_map]; exact hm.out
      rw [hm.out] at h2 hN hM
      obtain ⟨b, off, cap, rfl, hc1, hc2, hbl, hcell⟩ := hv.cells hmP (by omega)
      obtain ⟨q, hq⟩ : ∃ q, Hid (q = m / 2) := ⟨_, rfl⟩
      have hqv := hq.out
      have hq1' : 1 ≤ q := by omega
      have hq2' : q < m := by omega
      have hdv : (m : Int).tdiv 2 = (q : Int) := by
        rw [show (2 : Int) = ((2 : Nat) : Int) from rfl, ← Int.ofNat_tdiv, hqv]
      have HV1 := hide (hv.take (k := q) (by rw [hmP]; omega))
      have HV2 := hide (hv.dropK hq2')
      have HI := hide hP
      have HW := hide hW
      have HIH := hide ih
      have hg2 : ¬ (m : Int) < 2 := by omega
      clear hv hP hcell hqv ih hW hmP
      have HT1 : Hid (∀ p, p ∈ P.take q → Ints W0 p.1 p.2 ∧ p.2.length ≤ 1000000) := fun p hp => HI.out p (List.mem_of_mem_take hp)
      have HT2 : Hid (∀ p, p ∈ P.drop q → Ints W0 p.1 p.2 ∧ p.2.length ≤ 1000000) := fun p hp => HI.out p (List.mem_of_mem_drop hp)
      have HC1 : Hid (Calls Try.prog 42 #[.slice (some ⟨b, off, none⟩) q cap] w (OrdPost (P.take q) w)) := by
        have hl : (P.take q).length = q := by rw [List.length_take, hm.out]; omega
        exact HIH.out q (by omega) (P.take q) _ w (by omega) (by omega) (by rw [List.map_take]; exact HV1.out) HW.out HT1.out
      have HC2 : Hid (∀ W, Below w.heap.size w W → Calls Try.prog 42 #[.slice (some ⟨b, off + q, none⟩) (m - q) (cap - q)] W (OrdPost (P.drop q) W)) := fun W hb => by
        have hl : (P.drop q).length = m - q := by rw [List.length_drop, hm.out]
        exact HIH.out (m - q) (by omega) (P.drop q) _ W (by omega) (by omega) (by rw [List.map_drop]; exact HV2.out.below hb) (HW.out.trans (hb.mono HW.out.size)) HT2.out
      clear HIH HV1 HV2
      go_enter Try.func42, Try.ntmps42
      go_wp2_with fail
      refine HC1.out.mono ?_
      rintro e w1 ⟨u1, A, rfl, hA1, hA2, hA3, hb1⟩
      have HA1 := hide hA1
      have HA2 := hide hA2
      have HA3 := hide hA3
      have hAl : A.length = q := by rw [hA2.length_eq, List.length_take, hm.out]; omega
      obtain ⟨ab, ao, ac, rfl, hac1, hac2, hab, hacell⟩ := hA1.cells (m := q) (by rw [List.length_map]; exact hAl) hq1'
      have HAC := hide hacell
      clear hA1 hA2 hA3 HC1 hacell
      go_wp2_with fail
      refine (HC2.out w1 hb1).mono ?_
      rintro e w2 ⟨u2, B, rfl, hB1, hB2, hB3, hb2⟩
      have HB2 := hide hB2
      have HB3 := hide hB3
      have hBl : B.length = m - q := by rw [hB2.length_eq, List.length_drop, hm.out]
      obtain ⟨bb, bo, bc, rfl, hbc1, hbc2, hbb, hbcell⟩ := hB1.cells (m := m - q) (by rw [List.length_map]; exact hBl) (by omega)
      obtain ⟨r, hr⟩ : ∃ r, m - q = r := ⟨_, rfl⟩
      rw [hr] at hbcell hbc1 hBl ⊢
      have HBC := hide hbcell
      have HAC2 : Hid (∀ j, j < q → w2.cell? ⟨ab, ao + j, none⟩ = some ((A.map Prod.fst).getD j undef)) := fun j hj => (hb2.cell (p := ⟨ab, ao + j, none⟩) hab).trans (HAC.out j hj)
      have hab2 : ab < w2.heap.size := Nat.lt_of_lt_of_le hab hb2.size
      have hbw2 : Below w.heap.size w w2 := hb1.trans (hb2.mono hb1.size)
      have HIA : Hid (∀ p, p ∈ A → Ints W0 p.1 p.2 ∧ p.2.length ≤ 1000000) := fun p hp => HT1.out p (HA2.out.mem_iff.1 hp)
      have HIB : Hid (∀ p, p ∈ B → Ints W0 p.1 p.2 ∧ p.2.length ≤ 1000000) := fun p hp => HT2.out p (HB2.out.mem_iff.1 hp)
      have HAl := hide hAl
      have HBl := hide hBl
      have HW2 : Hid (Below W0.heap.size W0 w2) := HW.out.trans (hbw2.mono HW.out.size)
      have HR0 : Hid (MRel A B [] w2 w2 (.slice none 0 0) 0 0) := ⟨World.ownsRow_nil _ _ _ _, rfl, rfl, Below.refl _ _⟩
      have HPOST : Hid (∀ Z v wr, MRel A B Z w2 wr v q r → OrdPost P w (.returned v) wr) := fun Z v wr hR => by
        have hz : Z = mrg A B := by
          have h9 := hR.eq
          rw [List.drop_eq_nil_of_le (by rw [HAl.out]; exact Nat.le_refl _), List.drop_eq_nil_of_le (by rw [HBl.out]; exact Nat.le_refl _), mrg_nil, List.append_nil] at h9
          exact h9.symm
        refine ⟨v, Z, rfl, Vals.own (by rw [List.length_map]; exact hR.own), ?_, ?_, hbw2.trans (hR.below.mono hbw2.size)⟩
        · rw [hz]
          have h9 := (mrg_perm A B).trans (HA2.out.append HB2.out)
          rw [List.take_append_drop] at h9
          exact h9
        · rw [hz]; exact mrg_ris A B HA3.out HB3.out
      have hrm : r + q = m := by omega
      clear hB1 hB2 hB3 hb1 hb2 HC2 HAC hbcell hAl hBl hr hdv
      go_wp2
      go_loopw [5, 6, 7] (fun hd iv kv wr => ∃ (Z : List (Value × List Int)) (i k : Nat), i ≤ q ∧ k ≤ r ∧ iv = .int .i64 i ∧ kv = .int .i64 k ∧ Hid (MRel A B Z w2 wr hd i k)) (fun _ iv kv _ => q + r - ((intOf iv).toNat + (intOf kv).toNat))
      case atStart => exact ⟨[], 0, 0, by omega, by omega, rfl, rfl, HR0⟩
      case round =>
        clear HR0
        obtain ⟨Z, i, k, hi, hk, rfl, rfl, hR⟩ := hrel
        have hbr := hR.out.below
        have hbs := hbr.size
        have hZb : Z.length ≤ 1000000 := by rw [hR.out.len]; omega
        have hrow := hR.out.own
        obtain ⟨zp, zc, rfl⟩ := owns_slice hrow
        have HRW := hide hrow
        clear hrow
        by_cases hiq : i < q
        · obtain ⟨x, hx1, hx2, hx3⟩ := pv_at (A := A) (i := i) (by rw [HAl.out]; exact hiq)
          have gx := (hbr.cell (p := ⟨ab, ao + i, none⟩) hab2).trans (HAC2.out i hiq)
          rw [hx3] at gx
          obtain ⟨xi, xl⟩ := HIA.out x hx2
          obtain ⟨xp, xc, hxe⟩ := xi.form
          rw [hxe] at gx
          by_cases hkr : k < r
          · obtain ⟨y, hy1, hy2, hy3⟩ := pv_at (A := B) (i := k) (by rw [HBl.out]; exact hkr)
            have gy := (hbr.cell (p := ⟨bb, bo + k, none⟩) hbb).trans (HBC.out k hkr)
            rw [hy3] at gy
            obtain ⟨yi, yl⟩ := HIB.out y hy2
            obtain ⟨yp, yc, hye⟩ := yi.form
            rw [hye] at gy
            have HBQ : Hid (∀ mm, Calls Try.prog 67 #[.slice yp y.2.length yc, .slice xp x.2.length xc] (wr.drewN mm) fun e w' => e = .returned (.bool (blw y.2 x.2)) ∧ ∃ m', w' = (wr.drewN mm).drewN m') := fun mm => by
              have hbb9 : Below W0.heap.size W0 (wr.drewN mm) := below_drewN (HW2.out.trans (hbr.mono HW2.out.size)) mm
              exact rbelow_q _ _ _ _ (wr.drewN mm) (by rw [← hye]; exact yi.below hbb9) (by rw [← hxe]; exact xi.below hbb9) yl xl
            have HLX := hide (fun h => mrg_left (B := B) (k := k) hx1 (Or.inr ⟨y, hy1, h⟩))
            have HRX := hide (fun h => mrg_right (A := A) (i := i) hy1 (Or.inr ⟨x, hx1, h⟩))
            have hd1 : decide ((i : Int) < (q : Int)) = true := decide_eq_true (by omega)
            have hd2 : ((k : Int) == (r : Int)) = false := by simp; omega
            have hik : (i : Int) < (q : Int) := by omega
            have HXE := hide hxe
            have HYE := hide hye
            clear xi yi xl yl hxe hye hx2 hy2 hx3 hy3 hx1 hy1
            generalize x.2.length = xn at *
            generalize y.2.length = yn at *
            go_wp2
            cases hc : blw y.2 x.2 with
            | false =>
              rw [hc] at HBQ
              have HNX := hide (HLX.out hc)
              clear hc
              go_quiet ((go_at_call 67; exact Calls.quiet_of (HBQ.out _)))
              have HR9 := hide (hR.out.later (below_drewN (Below.refl _ _) nq))
              have gx9 : (wr.drewN nq).cell? ⟨ab, ao + i, none⟩ = some (.slice xp xn xc) := gx
              have gy9 : (wr.drewN nq).cell? ⟨bb, bo + k, none⟩ = some (.slice yp yn yc) := gy
              clear HBQ HLX HRX gx gy hR
              generalize wr.drewN nq = wX at *
              have hrow9 := HR9.out.own
              have hs9 := HR9.out.below.size
              go_wp2_with (at_builtin; refine wpList_append_own _ rfl _ _ 22 rfl w2.heap.size 26 j0 (.slice none 0 0) 1 24 Try.underlying22 hj hq0 hq1 hq2 rfl (by decide) _ _ _ rfl (hrow9.alloc _) ⟨wX.heap.size, 0, none⟩ 1 1 [.slice xp xn xc] rfl rfl ?c1a ?c2a ?c3a ?c4a ?c5a ?_)
              case c1a => exact cell_one_new _ _ _
              case c2a => intro u hu; simp at hu; subst hu; rfl
              case c3a => unfold maxLen; omega
              case c4a => omega
              case c5a => simp; omega
              · intro v9 w9 hown9 hg9 _
                have HRN := hide (HR9.out.next (x := x) HNX.out (by omega) (by rw [HXE.out]; exact hown9) hg9)
                clear hown9 hg9 HR9 hrow9 HNX
                go_wp2
                go_roundw
                case rel => exact ⟨Z ++ [x], i + 1, k, by omega, by omega, by go_num, rfl, HRN⟩
                case measure => simp [intOf]; omega
            | true =>
              rw [hc] at HBQ
              have HNX := hide (HRX.out hc)
              clear hc
              go_quiet ((go_at_call 67; exact Calls.quiet_of (HBQ.out _)))
              have HR9 := hide (hR.out.later (below_drewN (Below.refl _ _) nq))
              have gx9 : (wr.drewN nq).cell? ⟨ab, ao + i, none⟩ = some (.slice xp xn xc) := gx
              have gy9 : (wr.drewN nq).cell? ⟨bb, bo + k, none⟩ = some (.slice yp yn yc) := gy
              clear HBQ HLX HRX gx gy hR
              generalize wr.drewN nq = wX at *
              have hrow9 := HR9.out.own
              have hs9 := HR9.out.below.size
              go_wp2_with (at_builtin; refine wpList_append_own _ rfl _ _ 22 rfl w2.heap.size 26 j0 (.slice none 0 0) 1 24 Try.underlying22 hj hq0 hq1 hq2 rfl (by decide) _ _ _ rfl (hrow9.alloc _) ⟨wX.heap.size, 0, none⟩ 1 1 [.slice yp yn yc] rfl rfl ?c1b ?c2b ?c3b ?c4b ?c5b ?_)
              case c1b => exact cell_one_new _ _ _
              case c2b => intro u hu; simp at hu; subst hu; rfl
              case c3b => unfold maxLen; omega
              case c4b => omega
              case c5b => simp; omega
              · intro v9 w9 hown9 hg9 _
                have HRN := hide (HR9.out.next (x := y) HNX.out (by omega) (by rw [HYE.out]; exact hown9) hg9)
                clear hown9 hg9 HR9 hrow9 HNX
                go_wp2
                go_roundw
                case rel => exact ⟨Z ++ [y], i, k + 1, by omega, by omega, rfl, by go_num, HRN⟩
                case measure => simp [intOf]; omega
          · obtain rfl : k = r := by omega
            have HNX := hide (mrg_left (B := B) (k := k) hx1 (Or.inl HBl.out.symm))
            have hik : (i : Int) < (q : Int) := by omega
            have hd1 : decide ((i : Int) < (q : Int)) = true := decide_eq_true (by omega)
            have HXE := hide hxe
            clear xi xl hxe hx2 hx3 hx1
            generalize x.2.length = xn at *
            go_wp2
            go_quiet (fail)
            have HR9 := hide (hR.out.later (below_drewN (Below.refl _ _) nq))
            have gx9 : (wr.drewN nq).cell? ⟨ab, ao + i, none⟩ = some (.slice xp xn xc) := gx
            clear gx hR
            generalize wr.drewN nq = wX at *
            have hrow9 := HR9.out.own
            have hs9 := HR9.out.below.size
            go_wp2_with (at_builtin; refine wpList_append_own _ rfl _ _ 22 rfl w2.heap.size 26 j0 (.slice none 0 0) 1 24 Try.underlying22 hj hq0 hq1 hq2 rfl (by decide) _ _ _ rfl (hrow9.alloc _) ⟨wX.heap.size, 0, none⟩ 1 1 [.slice xp xn xc] rfl rfl ?c1c ?c2c ?c3c ?c4c ?c5c ?_)
            case c1c => exact cell_one_new _ _ _
            case c2c => intro u hu; simp at hu; subst hu; rfl
            case c3c => unfold maxLen; omega
            case c4c => omega
            case c5c => simp; omega
            · intro v9 w9 hown9 hg9 _
              have HRN := hide (HR9.out.next (x := x) HNX.out (by omega) (by rw [HXE.out]; exact hown9) hg9)
              clear hown9 hg9 HR9 hrow9 HNX
              go_wp2
              go_roundw
              case rel => exact ⟨Z ++ [x], i + 1, k, by omega, by omega, by go_num, rfl, HRN⟩
              case measure => simp [intOf]; omega
        · obtain rfl : i = q := by omega
          by_cases hkr : k < r
          · obtain ⟨y, hy1, hy2, hy3⟩ := pv_at (A := B) (i := k) (by rw [HBl.out]; exact hkr)
            have gy := (hbr.cell (p := ⟨bb, bo + k, none⟩) hbb).trans (HBC.out k hkr)
            rw [hy3] at gy
            obtain ⟨yi, yl⟩ := HIB.out y hy2
            obtain ⟨yp, yc, hye⟩ := yi.form
            rw [hye] at gy
            have HNX := hide (mrg_right (A := A) (i := i) hy1 (Or.inl HAl.out.symm))
            have hik : ¬ (i : Int) < (i : Int) := by omega
            have hkk : (k : Int) < (r : Int) := by omega
            have hd1 : decide ((i : Int) < (i : Int)) = false := decide_eq_false (by omega)
            have hd2 : decide ((k : Int) < (r : Int)) = true := decide_eq_true (by omega)
            have HYE := hide hye
            clear yi yl hye hy2 hy3 hy1
            generalize y.2.length = yn at *
            go_wp2
            go_quiet (fail)
            have HR9 := hide (hR.out.later (below_drewN (Below.refl _ _) nq))
            have gy9 : (wr.drewN nq).cell? ⟨bb, bo + k, none⟩ = some (.slice yp yn yc) := gy
            clear gy hR
            generalize wr.drewN nq = wX at *
            have hrow9 := HR9.out.own
            have hs9 := HR9.out.below.size
            go_wp2_with (at_builtin; refine wpList_append_own _ rfl _ _ 22 rfl w2.heap.size 26 j0 (.slice none 0 0) 1 24 Try.underlying22 hj hq0 hq1 hq2 rfl (by decide) _ _ _ rfl (hrow9.alloc _) ⟨wX.heap.size, 0, none⟩ 1 1 [.slice yp yn yc] rfl rfl ?c1d ?c2d ?c3d ?c4d ?c5d ?_)
            case c1d => exact cell_one_new _ _ _
            case c2d => intro u hu; simp at hu; subst hu; rfl
            case c3d => unfold maxLen; omega
            case c4d => omega
            case c5d => simp; omega
            · intro v9 w9 hown9 hg9 _
              have HRN := hide (HR9.out.next (x := y) HNX.out (by omega) (by rw [HYE.out]; exact hown9) hg9)
              clear hown9 hg9 HR9 hrow9 HNX
              go_wp2
              go_roundw
              case rel => exact ⟨Z ++ [y], i, k + 1, by omega, by omega, rfl, by go_num, HRN⟩
              case measure => simp [intOf]; omega
          · obtain rfl : k = r := by omega
            have HP := hide (HPOST.out Z _ wr hR.out)
            clear hR HPOST HRW
            have hd1 : decide ((i : Int) < (i : Int)) = false := decide_eq_false (by omega)
            have hd2 : decide ((k : Int) < (k : Int)) = false := decide_eq_false (by omega)
            go_wp2
            go_ret
            exact HP.out

end Go.Proofs.Ytoiiadiimfohiaa

/- Plain: the heads that the answer's False gathers; contract: its first part. -/
namespace Go.Proofs.Ytoiiadiimfohiaa
open Go.RowKit Go.Maps
set_option maxRecDepth 20000
set_option linter.unusedVariables false

theorem by_un_rnd2 {n : Nat} (h12 : n ≤ 12) {a b : List Int} (ha : Rw n a) (hb : Rw n b) : by_ a (un b) = rnd n ↔ a = b := by
  constructor
  · intro h
    refine Rw.eq h12 ha hb ?_
    have h2 := ha.pad_by h12 hb.un
    rw [h, pad_rnd h12, hb.pad_un h12] at h2
    have h3 : pad a * (pad b)⁻¹ * pad b = 1 * pad b := by rw [← h2]
    rw [Pm.mul_assoc, Pm.inv_mul, Pm.mul_one, Pm.one_mul] at h3
    exact h3
  · rintro rfl
    refine Rw.eq h12 (ha.by ha.un) (Rw.rnd n) ?_
    rw [ha.pad_by h12 ha.un, ha.pad_un h12, pad_rnd h12, Pm.mul_inv]

/-- All rows that make one of another, one's own rows first. -/
def prA (L : List (List Int)) : List (List Int) := L.flatMap (fun a => L.map (fun b => by_ a (un b)))

theorem prA_mem {L : List (List Int)} {h : List Int} : h ∈ prA L ↔ h ∈ pr L := by
  rw [pr_mem]
  simp only [prA, List.mem_flatMap, List.mem_map]
  constructor
  · rintro ⟨a, ha, b, hb, e⟩; exact ⟨b, hb, a, ha, e⟩
  · rintro ⟨b, hb, a, ha, e⟩; exact ⟨a, ha, b, hb, e⟩

theorem prA_length (L : List (List Int)) : (prA L).length = L.length * L.length := by
  unfold prA
  rw [List.length_flatMap]
  simp only [List.length_map]
  exact sum_const _ L

theorem prA_next {L : List (List Int)} {p q : Nat} (hp : p < L.length) (hq : q < L.length) : (prA L).take (p * L.length + q + 1) = (prA L).take (p * L.length + q) ++ [by_ (L.getD p []) (un (L.getD q []))] := by
  have h : (prA L)[p * L.length + q]? = some (by_ (L.getD p []) (un (L.getD q []))) := by
    unfold prA
    rw [flat_get _ L.length (fun a => List.length_map _) L p q hp hq, List.getElem?_map, List.getElem?_eq_getElem hq]
    simp [List.getD, List.getElem?_eq_getElem hq, List.getElem?_eq_getElem hp]
  rw [List.take_add_one, h]
  rfl

/-- What is gathered of some pairs. -/
def gth (n : Nat) (L : List (List Int)) (m : Nat) : List (List Int) := ((prA L).take m).filter (fun h => decide (h ≠ rnd n))

theorem gth_hit {n : Nat} {L : List (List Int)} {p q : Nat} (hp : p < L.length) (hq : q < L.length) (h : by_ (L.getD p []) (un (L.getD q [])) = rnd n) : gth n L (p * L.length + q + 1) = gth n L (p * L.length + q) := by
  unfold gth
  rw [prA_next hp hq, List.filter_append, h]
  simp

theorem gth_miss {n : Nat} {L : List (List Int)} {p q : Nat} (hp : p < L.length) (hq : q < L.length) (h : by_ (L.getD p []) (un (L.getD q [])) ≠ rnd n) : gth n L (p * L.length + q + 1) = gth n L (p * L.length + q) ++ [by_ (L.getD p []) (un (L.getD q []))] := by
  unfold gth
  rw [prA_next hp hq, List.filter_append]
  generalize by_ (L.getD p []) (un (L.getD q [])) = x at *
  simp [h]

theorem gth_length (n : Nat) (L : List (List Int)) (m : Nat) : (gth n L m).length ≤ L.length * L.length := by
  unfold gth
  refine Nat.le_trans (List.length_filter_le _ _) ?_
  rw [List.length_take, prA_length]
  exact Nat.min_le_right _ _

theorem gth_all (n : Nat) (L : List (List Int)) (h : List Int) : h ∈ gth n L (L.length * L.length) ↔ h ∈ pr L ∧ h ≠ rnd n := by
  unfold gth
  rw [List.take_of_length_le (by rw [prA_length]; exact Nat.le_refl _), List.mem_filter, prA_mem]
  simp

/-- Two of the first pairs are alike. -/
def Sf (L : List (List Int)) (m : Nat) (t : Bool) : Prop := t = true ↔ ∃ i k, i * L.length + k < m ∧ i < L.length ∧ k < L.length ∧ i ≠ k ∧ L.getD i [] = L.getD k []

theorem Sf.zero (L : List (List Int)) : Sf L 0 false := ⟨(fun h => by cases h), fun ⟨_, _, h, _⟩ => absurd h (by omega)⟩

theorem pair_uniq {K i k p q : Nat} (hk : k < K) (hq : q < K) (h : i * K + k = p * K + q) : i = p ∧ k = q := by
  have h1 : (i * K + k) / K = i := by rw [Nat.mul_comm, Nat.mul_add_div (by omega), Nat.div_eq_of_lt hk, Nat.add_zero]
  have h2 : (p * K + q) / K = p := by rw [Nat.mul_comm, Nat.mul_add_div (by omega), Nat.div_eq_of_lt hq, Nat.add_zero]
  have h3 : i = p := by rw [← h1, ← h2, h]
  subst h3
  exact ⟨rfl, by omega⟩

theorem Sf.next {L : List (List Int)} {p q : Nat} {t : Bool} (hp : p < L.length) (hq : q < L.length) (h : Sf L (p * L.length + q) t) {t' : Bool} (ht : t' = true ↔ t = true ∨ (p ≠ q ∧ L.getD p [] = L.getD q [])) : Sf L (p * L.length + q + 1) t' := by
  unfold Sf at *
  rw [ht, h]
  constructor
  · rintro (⟨i, k, h1, h2⟩ | ⟨h1, h2⟩)
    · exact ⟨i, k, by omega, h2⟩
    · exact ⟨p, q, by omega, hp, hq, h1, h2⟩
  · rintro ⟨i, k, h1, h2, h3, h4, h5⟩
    rcases Nat.lt_or_ge (i * L.length + k) (p * L.length + q) with h9 | h9
    · exact Or.inl ⟨i, k, h9, h2, h3, h4, h5⟩
    · obtain ⟨rfl, rfl⟩ := pair_uniq h3 hq (show i * L.length + k = p * L.length + q by omega)
      exact Or.inr ⟨h4, h5⟩

theorem Sf.all {L : List (List Int)} {t : Bool} (h : Sf L (L.length * L.length) t) : t = false ↔ L.Nodup := by
  rw [List.nodup_iff_pairwise_ne] at *
  have hn : L.Nodup ↔ ∀ i j, i < j → j < L.length → L.getD i [] ≠ L.getD j [] := by
    unfold List.Nodup
    rw [List.pairwise_iff_getElem]
    constructor
    · intro h i j hij hj
      have := h i j (by omega) hj hij
      simpa [List.getD, show i < L.length by omega, hj] using this
    · intro h i j hi hj hij
      have := h i j hij hj
      simpa [List.getD, hi, hj] using this
  constructor
  · intro ht
    refine hn.2 (fun i j hij hj e => ?_)
    have : t = true := h.2 ⟨i, j, ?_, by omega, hj, by omega, e⟩
    · rw [ht] at this; cases this
    · have : i * L.length + L.length ≤ L.length * L.length := by rw [← Nat.succ_mul]; exact Nat.mul_le_mul_right _ (by omega)
      omega
  · intro hd
    cases ht : t with
    | false => rfl
    | true =>
      obtain ⟨i, k, _, h1, h2, h3, h4⟩ := h.1 ht
      rcases Nat.lt_or_ge i k with h9 | h9
      · exact absurd h4 (hn.1 hd i k h9 h2)
      · exact absurd h4.symm (hn.1 hd k i (by omega) h1)

end Go.Proofs.Ytoiiadiimfohiaa
