/- Joined: GwA, GeS, RefE, RefF, Til, Chng, SrtA, GeB, GeC, GeE, LLp, GeF, GeP. -/
import Derived.Test.YtimfoggjocajiaaJ6
import Derived.Test.YtimfoggjocajiaaJ5
import Derived.Test.YtimfoggjocajiaaJ0
import Derived.Shelf.SlSortCmp.WholeK
import Derived.Test.YtimfoggjocajiaaJ4
import Derived.Test.YtimfoggjocajiaaJ1
import Derived.Test.YtimfoggjocajiaaJ2
import Derived.Deep.QuietTactic
/- Contract: Word. -/
namespace Go.Proofs.Ytimfoggjocajiaa
open Go.RowKit

theorem GroupAt.fix {w : World} {v : Value} {n : Nat} {gs : List Pm} (h : GroupAt w v n gs) {x : Pm} (hx : Gen (fun y => y ∈ gs) x) : Fixes (fun b => n ≤ b) x := by
  obtain ⟨g1, vg1, B1, c1, bs1, C1, st1, rfl, hg1, a10, a11, a12, hP1, hC1, hb1, rfl⟩ := h
  exact prd_fix hC1.whole ((hC1.gen x).2 hx)

/-- What Word answers: an error, or the word that the search has come to the row by. -/
def WordPost (n : Nat) (gs : List Pm) (xs : List Int) (w : World) (e : Ending) (w' : World) : Prop :=
  Below w.heap.size w w' ∧
    ((rchk n xs ≠ 0 ∧ e = .returned (.tuple #[.slice none 0 0, .int .i64 (rchk n xs)])) ∨
     (rchk n xs = 0 ∧ ¬ Gen (fun y => y ∈ gs) (pad xs) ∧ e = .returned (.tuple #[.slice none 0 0, .int .i64 14])) ∨
     (rchk n xs = 0 ∧ Gen (fun y => y ∈ gs) (pad xs) ∧ 5040 < sz (Gen (fun y => y ∈ gs)) n ∧ e = .returned (.tuple #[.slice none 0 0, .int .i64 3])) ∨
     (rchk n xs = 0 ∧ Gen (fun y => y ∈ gs) (pad xs) ∧ sz (Gen (fun y => y ∈ gs)) n ≤ 5040 ∧ ∃ (u : Value) (wd : List Int) (i : Nat) (S : List (Pm × List Int)), e = .returned (.tuple #[u, .int .i64 0]) ∧ Run (glet 0 gs) i S ∧ (pad xs, wd) ∈ S ∧ w'.ownsRow w.heap.size 3 1 u wd.length (wd.map (Value.int .i64))))

set_option maxRecDepth 20000 in
set_option maxHeartbeats 2000000 in
theorem word_ok (n : Nat) (v v2 : Value) (gs : List Pm) (xs : List Int) (w : World) (h12 : n ≤ 12) (hgl : gs.length ≤ 1000000) (hG : GroupAt w v n gs) (hI : Ints w v2 xs) :
    Calls Try.prog 55 #[v, v2] w fun e w' => WordPost n gs xs w e w' := by
  obtain ⟨p, c, rfl⟩ := hI.form
  have HG := hide hG
  have HI := hide hI
  obtain ⟨g1, vg1, B1, c1, bs1, C1, st1, rfl, hg1, a10, a11, a12, hP1, hC1, hb1, rfl⟩ := hG
  clear hP1 hC1 hb1 a10 a11 a12 hI
  by_cases hz : rchk n xs = 0
  · obtain ⟨hr, hl, h1, _⟩ := rchk_zero hz
    have HH := hide (ghas_ok n _ _ gs xs w HG.out HI.out hz)
    have HZ := hide hz
    have HR := hide hr
    have hx1 : 1 ≤ xs.length := by omega
    have hx12 : xs.length ≤ 12 := by omega
    clear hz hr hl
    unfold WordPost
    by_cases hgen : Gen (fun y => y ∈ gs) (pad xs)
    · have HGEN := hide hgen
      clear hgen
      obtain ⟨X, x1, x2, x3⟩ := sz_list (Gen.sub (fun y => y ∈ gs)) h12 (fun x hx => HG.out.fix hx)
      by_cases hbig : 5040 < sz (Gen (fun y => y ∈ gs)) n
      · have hbI : (5040 : Int) < ((sz (Gen (fun y => y ∈ gs)) n : Nat) : Int) := by omega
        have HBG := hide hbig
        clear hbig
        have HSZ : Hid (∀ W, Below w.heap.size w W → Calls Try.prog 18 #[.pointer (some ⟨g1, 0, none⟩)] W fun e w' => e = .returned (.int .i64 (sz (Gen (fun y => y ∈ gs)) n : Nat)) ∧ Below W.heap.size W w') := fun W hb => gsize_ok n _ gs W h12 (HG.out.below hb (Nat.le_refl _))
        generalize sz (Gen (fun y => y ∈ gs)) n = z at *
        go_enter Try.func55, Try.ntmps55
        go_wp2_with fail
        refine HH.out.mono ?_
        rintro e w1 ⟨t, ht, rfl, hb1⟩
        obtain rfl : t = true := ht.2 HGEN.out
        clear ht
        go_wp2_with fail
        refine (HSZ.out w1 hb1).mono ?_
        rintro e w2 ⟨rfl, hb2⟩
        have hB2 : Below w.heap.size w w2 := hb1.trans (hb2.mono hb1.size)
        go_wp2
        go_ret2
        exact ⟨hB2, Or.inr (Or.inr (Or.inl ⟨HZ.out, HGEN.out, HBG.out, rfl⟩))⟩
      · have hbI : ¬ (5040 : Int) < ((sz (Gen (fun y => y ∈ gs)) n : Nat) : Int) := by omega
        have HBG := hide (show sz (Gen (fun y => y ∈ gs)) n ≤ 5040 by omega)
        clear hbig
        have HX := hide (fun x (hx : Gen (fun y => y ∈ gs) x) => (x2 x).2 hx)
        have hXl : X.length ≤ 1000000 := by rw [x3]; have := HBG.out; omega
        have HXL := hide hXl
        have HSZ : Hid (∀ W, Below w.heap.size w W → Calls Try.prog 18 #[.pointer (some ⟨g1, 0, none⟩)] W fun e w' => e = .returned (.int .i64 (sz (Gen (fun y => y ∈ gs)) n : Nat)) ∧ Below W.heap.size W w') := fun W hb => gsize_ok n _ gs W h12 (HG.out.below hb (Nat.le_refl _))
        clear x1 x2 x3 hXl
        generalize sz (Gen (fun y => y ∈ gs)) n = z at *
        go_enter Try.func55, Try.ntmps55
        go_wp2_with fail
        refine HH.out.mono ?_
        rintro e w1 ⟨t, ht, rfl, hb1⟩
        obtain rfl : t = true := ht.2 HGEN.out
        clear ht
        go_wp2_with fail
        refine (HSZ.out w1 hb1).mono ?_
        rintro e w2 ⟨rfl, hb2⟩
        have hB2 : Below w.heap.size w w2 := hb1.trans (hb2.mono hb1.size)
        have HPk := hide (pack_ok _ xs w2 (HI.out.below hB2) HR.out hx1 hx12)
        unfold pv i8s at HPk
        clear hb1 hb2
        go_wp2_with fail
        refine HPk.out.mono ?_
        rintro e w3 ⟨rfl, hb3⟩
        have hB3 : Below w.heap.size w w3 := hB2.trans (hb3.mono hB2.size)
        have HSh := hide (shortest_ok n _ gs (pad xs) w3 hgl (HG.out.below hB3 (Nat.le_refl _)) HGEN.out X HX.out HXL.out)
        clear hb3 hB2 HPk
        go_wp2_with fail
        refine HSh.out.mono ?_
        rintro e w4 ⟨u, wd, i, S, rfl, hrun, hmem, hown, hb4⟩
        have hB4 : Below w.heap.size w w4 := hB3.trans (hb4.mono hB3.size)
        have HP : Hid (Run (glet 0 gs) i S ∧ (pad xs, wd) ∈ S ∧ w4.ownsRow w.heap.size 3 1 u wd.length (wd.map (Value.int .i64))) := ⟨hrun, hmem, owns_base hown hB3.size⟩
        clear hrun hmem hown hb4 HSh
        go_wp2
        go_ret2
        exact ⟨hB4, Or.inr (Or.inr (Or.inr ⟨HZ.out, HGEN.out, HBG.out, u, wd, i, S, rfl, HP.out.1, HP.out.2.1, HP.out.2.2⟩))⟩
    · have HGEN := hide hgen
      clear hgen
      go_enter Try.func55, Try.ntmps55
      go_wp2_with fail
      refine HH.out.mono ?_
      rintro e w1 ⟨t, ht, rfl, hb1⟩
      obtain rfl : t = false := by cases t with | false => rfl | true => exact absurd (ht.1 rfl) HGEN.out
      clear ht
      go_wp2
      go_ret2
      exact ⟨hb1, Or.inr (Or.inl ⟨HZ.out, HGEN.out, rfl⟩)⟩
  · have HH := hide (ghas_no n _ _ gs xs w HG.out HI.out hz)
    have hne : (rchk n xs != 0) = true := by rw [bne_iff_ne]; exact hz
    have HZ := hide hz
    clear hz
    unfold WordPost
    generalize rchk n xs = z at *
    go_enter Try.func55, Try.ntmps55
    go_wp2_with fail
    refine HH.out.mono ?_
    rintro e w1 ⟨rfl, hb1⟩
    go_wp2
    go_ret2
    exact ⟨hb1, Or.inl ⟨HZ.out, rfl⟩⟩
end Go.Proofs.Ytimfoggjocajiaa

/- slices.SortFunc over packed rows, off the library's shelf: what it leans on. -/
namespace Go.Proofs.Ytimfoggjocajiaa
open Go.RowKit Go.Shelf

def rnSP : Go.Shelf.Ren := ⟨fun x => match x with | 6 => 102 | 14 => 126 | 15 => 127 | 20 => 140 | 21 => 141 | 22 => 142 | 23 => 143 | 24 => 144 | 25 => 145 | 26 => 146 | 27 => 147 | 28 => 148 | 29 => 149 | 46 => 163 | 47 => 164 | 48 => 165 | 49 => 166 | 50 => 167 | 57 => 172 | y => y,
  fun x => match x with | 0 => 0 | 3 => 3 | 4 => 4 | 5 => 5 | 9 => 9 | 22 => 88 | 24 => 91 | 25 => 141 | 39 => 151 | 45 => 174 | 46 => 175 | 50 => 116 | 53 => 181 | 55 => 183 | 66 => 192 | 70 => 196 | 76 => 201 | 77 => 202 | y => y, fun x => x⟩

theorem laysSP : Go.Proofs.SlLaysF0.n6 Try.prog rnSP where
  mixed := by kernel_rfl
  f6 := ⟨ "slices.SortFunc[[]campanile/group.packed,campanile/group.packed]", by kernel_rfl, by kernel_rfl⟩
  f14 := ⟨ "slices.pdqsortCmpFunc[campanile/group.packed]", by kernel_rfl, by kernel_rfl⟩
  f15 := by kernel_rfl
  f20 := ⟨ "slices.insertionSortCmpFunc[campanile/group.packed]", by kernel_rfl, by kernel_rfl⟩
  f21 := ⟨ "slices.heapSortCmpFunc[campanile/group.packed]", by kernel_rfl, by kernel_rfl⟩
  f22 := ⟨ "slices.breakPatternsCmpFunc[campanile/group.packed]", by kernel_rfl, by kernel_rfl⟩
  f23 := ⟨ "slices.choosePivotCmpFunc[campanile/group.packed]", by kernel_rfl, by kernel_rfl⟩
  f24 := ⟨ "slices.reverseRangeCmpFunc[campanile/group.packed]", by kernel_rfl, by kernel_rfl⟩
  f25 := ⟨ "slices.partialInsertionSortCmpFunc[campanile/group.packed]", by kernel_rfl, by kernel_rfl⟩
  f26 := ⟨ "slices.partitionEqualCmpFunc[campanile/group.packed]", by kernel_rfl, by kernel_rfl⟩
  f27 := ⟨ "slices.partitionCmpFunc[campanile/group.packed]", by kernel_rfl, by kernel_rfl⟩
  f28 := by kernel_rfl
  f29 := by kernel_rfl
  f46 := ⟨ "slices.siftDownCmpFunc[campanile/group.packed]", by kernel_rfl, by kernel_rfl⟩
  f47 := by kernel_rfl
  f48 := by kernel_rfl
  f49 := ⟨ "slices.medianAdjacentCmpFunc[campanile/group.packed]", by kernel_rfl, by kernel_rfl⟩
  f50 := ⟨ "slices.medianCmpFunc[campanile/group.packed]", by kernel_rfl, by kernel_rfl⟩
  f57 := ⟨ "slices.order2CmpFunc[campanile/group.packed]", by kernel_rfl, by kernel_rfl⟩
  t0 := by kernel_rfl
  a0 := fun w => by kernel_rfl
  z0 := fun w => by kernel_rfl
  v0 := fun w => by kernel_rfl
  t3 := by kernel_rfl
  a3 := fun w => by kernel_rfl
  z3 := fun w => by kernel_rfl
  v3 := fun w => by kernel_rfl
  t4 := by kernel_rfl
  a4 := fun w => by kernel_rfl
  z4 := fun w => by kernel_rfl
  v4 := fun w => by kernel_rfl
  t5 := by kernel_rfl
  a5 := fun w => by kernel_rfl
  z5 := fun w => by kernel_rfl
  v5 := fun w => by kernel_rfl
  t9 := by kernel_rfl
  a9 := fun w => by kernel_rfl
  z9 := fun w => by kernel_rfl
  v9 := fun w => by kernel_rfl
  t22 := by kernel_rfl
  a22 := fun w => by kernel_rfl
  z22 := fun w => by kernel_rfl
  v22 := fun w => by kernel_rfl
  t25 := by kernel_rfl
  a25 := fun w => by kernel_rfl
  z25 := fun w => by kernel_rfl
  v25 := fun w => by kernel_rfl
  t39 := by kernel_rfl
  a39 := fun w => by kernel_rfl
  z39 := fun w => by kernel_rfl
  v39 := fun w => by kernel_rfl
  t45 := by kernel_rfl
  a45 := fun w => by kernel_rfl
  z45 := fun w => by kernel_rfl
  v45 := fun w => by kernel_rfl
  t46 := by kernel_rfl
  a46 := fun w => by kernel_rfl
  z46 := fun w => by kernel_rfl
  v46 := fun w => by kernel_rfl
  t50 := by kernel_rfl
  a50 := fun w => by kernel_rfl
  z50 := fun w => by kernel_rfl
  v50 := fun w => by kernel_rfl
  t53 := by kernel_rfl
  a53 := fun w => by kernel_rfl
  z53 := fun w => by kernel_rfl
  v53 := fun w => by kernel_rfl
  t55 := by kernel_rfl
  a55 := fun w => by kernel_rfl
  z55 := fun w => by kernel_rfl
  v55 := fun w => by kernel_rfl
  t66 := by kernel_rfl
  a66 := fun w => by kernel_rfl
  z66 := fun w => by kernel_rfl
  v66 := fun w => by kernel_rfl
  t70 := by kernel_rfl
  a70 := fun w => by kernel_rfl
  z70 := fun w => by kernel_rfl
  v70 := fun w => by kernel_rfl
  t76 := by kernel_rfl
  a76 := fun w => by kernel_rfl
  z76 := fun w => by kernel_rfl
  v76 := fun w => by kernel_rfl
  t77 := by kernel_rfl
  a77 := fun w => by kernel_rfl
  z77 := fun w => by kernel_rfl
  v77 := fun w => by kernel_rfl

theorem agg24 (w : World) : (isAgg (rnSP.t 24)).run Try.prog w = .ok true w := by kernel_rfl
theorem siz24 (w : World) : (Go.sizeOf (rnSP.t 24)).run Try.prog w = .ok 12 w := by kernel_rfl

end Go.Proofs.Ytimfoggjocajiaa

/- Contract of the answer's Cycles. -/
namespace Go.Proofs.Ytimfoggjocajiaa
open Go.RowKit
set_option maxRecDepth 20000

/-- Is x the least of the first k bells of its cycle? -/
def lst (a : List Int) (x : Nat) : Nat → Bool
  | 0 => true
  | 1 => true
  | k + 2 => lst a x (k + 1) && decide (x < it a (k + 1) x)

theorem lst_succ {a : List Int} {x k : Nat} (h : 1 ≤ k) : lst a x (k + 1) = (lst a x k && decide (x < it a k x)) := by
  match k, h with
  | k + 1, _ => rfl

theorem lst_true {a : List Int} {x k : Nat} : lst a x k = true ↔ ∀ i, 1 ≤ i → i < k → x < it a i x := by
  induction k with
  | zero => exact ⟨fun _ i h1 h2 => by omega, fun _ => rfl⟩
  | succ k ih =>
    by_cases hk : 1 ≤ k
    · rw [lst_succ hk, Bool.and_eq_true, ih, decide_eq_true_iff]
      constructor
      · rintro ⟨h1, h2⟩ i hi hik
        by_cases e : i = k
        · subst e; exact h2
        · exact h1 i hi (by omega)
      · intro h
        exact ⟨fun i hi hik => h i hi (by omega), h k hk (by omega)⟩
    · have e : k = 0 := by omega
      subst e
      exact ⟨fun _ i h1 h2 => by omega, fun _ => rfl⟩

theorem flat_backs {r : List Int} (hr : isRow r) {k x : Nat} (hk : k ≤ r.length) (hx : x < r.length) (i : Nat) (h : ((it r i x : Nat) : Int) ∈ (cycsTo r k).flatten) : (x : Int) ∈ (cycsTo r k).flatten := by
  induction i with
  | zero => exact h
  | succ i ih => exact ih (flat_back hr hk (it_lt hr hx i) h)

theorem lst_flat {a : List Int} (hr : isRow a) {x : Nat} (hx : x < a.length) : lst a x (per a x) = true ↔ ¬ (x : Int) ∈ (cycsTo a x).flatten := by
  rw [lst_true]
  constructor
  · intro h hm
    obtain ⟨c, hc, hm⟩ := List.mem_flatten.1 hm
    obtain ⟨y, hy, rfl⟩ := cyc_form hc
    obtain ⟨i, hi, e⟩ := mem_orb.1 hm
    have e' : x = it a i y := by omega
    obtain ⟨_, _, p3, _⟩ := per_spec hr (show y < a.length by omega)
    obtain ⟨q1, _, q3, _⟩ := per_spec hr hx
    have hj : it a (per a y - i) x = y := by rw [e', ← it_add, show per a y - i + i = per a y from by omega, p3]
    -- y is one of the bells of x's own cycle
    have hmod : ∀ n, it a n x = it a (n % per a x) x := by
      intro n
      have key : ∀ d, it a (per a x * d) x = x := by
        intro d
        induction d with
        | zero => rfl
        | succ d ih => rw [Nat.mul_succ, it_add, q3, ih]
      have : n = n % per a x + per a x * (n / per a x) := by rw [Nat.mod_add_div]
      rw [this, it_add, key, Nat.add_mul_mod_self_left, Nat.mod_mod]
    rw [hmod] at hj
    have hlt := Nat.mod_lt (per a y - i) q1
    by_cases h0 : (per a y - i) % per a x = 0
    · rw [h0] at hj
      have : x = y := hj
      omega
    · have := h _ (by omega) hlt
      omega
  · intro hn i h1 h2
    rcases Nat.lt_trichotomy x (it a i x) with h | h | h
    · exact h
    · exact absurd h.symm ((per_spec hr hx).2.2.2 i h1 h2)
    · exact absurd (flat_backs hr (by omega) hx i (flat_all hr x (by omega) (it a i x) h)) hn

theorem owns_len1 {w : World} {base e n : Nat} {v : Value} {xs : List Value} (h : w.ownsRow base e 1 v n xs) (hn : 1 ≤ n) : ∃ g cap, v = .slice (some ⟨g, 0, none⟩) n cap := by
  obtain ⟨g, cap, e, _⟩ := owns_form h hn
  exact ⟨g, cap, e⟩

set_option maxRecDepth 20000 in
set_option maxHeartbeats 4000000 in
theorem rcycles_ok (v1 : Value) (a : List Int) (w : World) (i1 : Ints w v1 a) (r1 : isRow a) (n1 : 1 ≤ a.length) (n2 : a.length ≤ 12) :
    Calls Try.prog 89 #[v1] w fun e w' => ∃ v, e = .returned v ∧ IntsAll w' v (cycsTo a a.length) ∧ Below w.heap.size w w' := by
  obtain ⟨i0, hi, hz0, hz1, hz2⟩ := info_parts Try.info23
  obtain ⟨j0, hj, hy0, hy1, hy2⟩ := info_parts Try.info3
  have R1 := hide r1
  rcases i1 with ⟨rfl, p, c, rfl⟩ | ⟨b1, o1, cap1, rfl, h01, hcp1, hm1, hb1, hcell1⟩
  · simp at n1
  have HNX : Hid (∀ y, y < a.length → a.getD y 0 = ((nx a y : Nat) : Int)) := fun y hy => by
    have := R1.out.at hy
    unfold nx; omega
  have HC := hide hcell1
  clear r1 hcell1
  go_enter Try.func89, Try.ntmps89
  go_wp2
  go_loopw [3, 4] (fun v si wr => ∃ (x : Nat) (vs : List Value), x ≤ a.length ∧ si = .int .i64 x ∧ wr.ownsRow w.heap.size 23 1 v vs.length vs ∧ OwnAll wr w.heap.size vs (cycsTo a x) ∧ Below w.heap.size w wr) (fun _ si _ => a.length - (intOf si).toNat)
  case atStart => exact ⟨0, [], by omega, rfl, World.ownsRow_nil _ _ _ _, trivial, Below.refl _ _⟩
  case round =>
    obtain ⟨x, vs, hx, rfl, hrow, hall, hbw⟩ := hrel
    have hbs := hbw.size
    by_cases hlt : x < a.length
    · obtain ⟨p1, p2, p3, p4⟩ := per_spec R1.out hlt
      have hlf := lst_flat R1.out hlt
      have hcs := cycsTo_succ a x
      have hcl := cycsTo_length a x
      have hvl := OwnAll.length hall
      generalize hcy : cycsTo a x = xss at *
      generalize hpp : per a x = p at *
      have P3 := hide p3
      have P4 := hide p4
      have HLF := hide hlf
      have HCS := hide hcs
      have HV := hide hvl
      have HCY := hide hcy
      have HALL := hide hall
      have HROW := hide hrow
      clear p3 p4 hlf hcs hvl hcy hpp hall hrow
      obtain ⟨y, hy, hcy⟩ := cellAt HC.out hlt
      have hyx : y = ((it a 1 x : Nat) : Int) := hy.out.symm.trans (HNX.out x hlt)
      rw [hyx] at hcy
      clear hyx hy
      have gcy : ∀ o, (wr.alloc o).cell? ⟨b1, o1 + x, none⟩ = some (.int .i64 ((it a 1 x : Nat) : Int)) := fun o => ((hbw.alloc hbw.size o).cell (by exact hb1)).trans hcy
      obtain ⟨wo, hwo⟩ : ∃ wo : World, wo = wr := ⟨_, rfl⟩
      rw [← hwo] at HALL HROW hbw hbs gcy ⊢
      clear hwo hcy
      go_wp2
      go_loopw [5, 6, 7] (fun c sl sk wr => ∃ (j y : Nat), 1 ≤ j ∧ j ≤ p ∧ Hid (it a j x = y) ∧ y < a.length ∧ sk = .int .i64 (y : Int) ∧ sl = .bool (lst a x j) ∧ wr.ownsRow wo.heap.size 3 1 c j ((orb a x j).map (Value.int .i64)) ∧ Below wo.heap.size wo wr) (fun c _ _ _ => p - sliceLen c)
      case atStart => exact ⟨1, it a 1 x, by omega, p1, rfl, it_lt R1.out hlt 1, rfl, rfl, one_owned wo x, (Below.refl _ _).alloc (Nat.le_refl _) _⟩
      case round =>
        clear gcy
        obtain ⟨j, y, hj1, hj2, hyk, hya, rfl, rfl, hown, hbo⟩ := hrel
        have hbos := hbo.size
        by_cases hjp : j < p
        · have hne : (((y : Nat) : Int) != ((x : Nat) : Int)) = true := by
            have := P4.out j hj1 hjp
            rw [hyk.out] at this
            rw [bne_iff_ne]; omega
          have hsl := hide (owns_len hown)
          have HLS : Hid (lst a x (j + 1) = (lst a x j && decide (x < y))) := by show _ = _; rw [lst_succ hj1, hyk.out]
          have hB : Below w.heap.size w wr := hbw.trans (hbo.mono hbs)
          have gy : wr.cell? ⟨b1, o1 + y, none⟩ = some (.int .i64 ((nx a y : Nat) : Int)) := (hB.cell (by exact hb1)).trans ((HC.out y hya).trans (by rw [HNX.out y hya]))
          generalize lst a x j = ls at *
          cases ls with
          | false =>
            go_wp2_with (at_builtin; refine wpList_append_own _ rfl _ _ 23 rfl wo.heap.size 3 j0 (.int .i64 0) 1 8 Try.underlying23 hj hy0 hy1 hy2 rfl (by decide) _ _ _ rfl (hown.alloc _) ⟨wr.heap.size, 0, none⟩ 1 1 [.int .i64 (y : Int)] rfl rfl ?c1 ?c2 ?c3 ?c4 ?c5 ?_)
            case c1 => exact cell_one_new _ _ _
            case c2 => intro u hu; simp at hu; subst hu; rfl
            case c3 => unfold maxLen; omega
            case c4 => omega
            case c5 => simp; omega
            · intro v' w1 hown' hgrow _
              have hB1 : Below wo.heap.size wo w1 := (hbo.alloc hbo.size _).grown hgrow (by simp; omega) (fun g hg => (hown.lt g hg).1)
              have hB2 : Below w.heap.size w w1 := hbw.trans (hB1.mono hbs)
              have gy1 : w1.cell? ⟨b1, o1 + y, none⟩ = some (.int .i64 ((nx a y : Nat) : Int)) := (hB2.cell (by exact hb1)).trans ((hB.cell (by exact hb1)).symm.trans gy)
              have hsl' := hide (owns_len hown')
              clear gy hB
              go_wp2
              go_roundw
              case rel => exact ⟨j + 1, nx a y, by omega, by omega, by show nx a (it a j x) = _; rw [hyk.out], nx_lt R1.out hya, rfl, by rw [HLS.out]; rfl, by rw [orb_snoc, List.map_append, hyk.out]; exact hown', hB1⟩
              case measure => rw [hsl.out, hsl'.out]; omega
          | true =>
            go_wp2_with (at_builtin; refine wpList_append_own _ rfl _ _ 23 rfl wo.heap.size 3 j0 (.int .i64 0) 1 8 Try.underlying23 hj hy0 hy1 hy2 rfl (by decide) _ _ _ rfl (hown.alloc _) ⟨wr.heap.size, 0, none⟩ 1 1 [.int .i64 (y : Int)] rfl rfl ?c1 ?c2 ?c3 ?c4 ?c5 ?_)
            case c1 => exact cell_one_new _ _ _
            case c2 => intro u hu; simp at hu; subst hu; rfl
            case c3 => unfold maxLen; omega
            case c4 => omega
            case c5 => simp; omega
            · intro v' w1 hown' hgrow _
              have hB1 : Below wo.heap.size wo w1 := (hbo.alloc hbo.size _).grown hgrow (by simp; omega) (fun g hg => (hown.lt g hg).1)
              have hB2 : Below w.heap.size w w1 := hbw.trans (hB1.mono hbs)
              have gy1 : w1.cell? ⟨b1, o1 + y, none⟩ = some (.int .i64 ((nx a y : Nat) : Int)) := (hB2.cell (by exact hb1)).trans ((hB.cell (by exact hb1)).symm.trans gy)
              have hsl' := hide (owns_len hown')
              have hdec : decide (((x : Nat) : Int) < ((y : Nat) : Int)) = decide (x < y) := by by_cases h : x < y <;> simp [h]
              have HDEC := hide hdec
              clear gy hB hdec
              go_wp2
              go_roundw
              case rel => exact ⟨j + 1, nx a y, by omega, by omega, by show nx a (it a j x) = _; rw [hyk.out], nx_lt R1.out hya, rfl, by rw [HLS.out]; simp, by rw [orb_snoc, List.map_append, hyk.out]; exact hown', hB1⟩
              case measure => rw [hsl.out, hsl'.out]; omega
        · obtain rfl : j = p := by omega
          have hne : (((y : Nat) : Int) != ((x : Nat) : Int)) = false := by
            have := P3.out
            rw [hyk.out] at this
            rw [this]; simp
          obtain ⟨g, cap, hv⟩ := owns_len1 hown hj1
          rw [hv] at hown ⊢
          have hB : Below w.heap.size w wr := hbw.trans (hbo.mono hbs)
          have hrow := owns_below HROW.out hbo (Nat.le_refl _)
          have hall := HALL.out.mono (fun _ _ _ h' => owns_below h' hbo (Nat.le_refl _))
          have HB := hide hB
          have hBs := hB.size
          clear hB hv
          generalize hls : lst a x j = ls at *
          have HLS := hide hls
          clear hls
          cases ls with
          | false =>
            have HX : Hid (cycsTo a (x + 1) = xss) := by
              show _ = _
              rw [HCS.out, if_pos]
              apply Classical.byContradiction
              intro hn
              have := HLF.out.2 hn
              cases this
            go_wp2
            go_roundw
            case rel => exact ⟨x + 1, vs, by omega, by go_num, hrow, by rw [HX.out]; exact hall, HB.out⟩
            case measure => simp [intOf]; omega
          | true =>
            have HX : Hid (cycsTo a (x + 1) = xss ++ [orb a x j]) := by
              show _ = _
              rw [HCS.out, if_neg (HLF.out.1 rfl)]
            have hvl : vs.length ≤ 12 := by have := HV.out; omega
            go_wp2_with (at_builtin; refine wpList_append_own _ rfl _ _ 22 rfl w.heap.size 23 i0 (.slice none 0 0) 1 24 Try.underlying22 hi hz0 hz1 hz2 rfl (by decide) _ _ _ rfl (hrow.alloc _) ⟨wr.heap.size, 0, none⟩ 1 1 [.slice (some ⟨g, 0, none⟩) j cap] rfl rfl ?c1 ?c2 ?c3 ?c4 ?c5 ?_)
            try (case c1 => exact cell_one_new _ _ _)
            case c2 => first | (intro u hu; simp at hu; subst hu; rfl) | rfl
            case c3 => first | (unfold maxLen; omega) | omega
            case c4 => omega
            case c5 => first | (simp; omega) | omega
            · intro v' w4 hown4 hgrow _
              have hall4 : OwnAll w4 w.heap.size (vs ++ [.slice (some ⟨g, 0, none⟩) j cap]) (xss ++ [orb a x j]) := by
                refine OwnAll.snoc ?_ (hall.mono (fun _ _ _ h' => owns_kept_ty (h'.alloc _) (hrow.alloc _) hgrow))
                rw [orb_length]
                exact owns_kept_ty ((owns_base hown hbs).alloc _) (hrow.alloc _) hgrow
              have hB4 : Below w.heap.size w w4 := (HB.out.alloc HB.out.size _).grown hgrow (by simp; omega) (fun g' hg' => (hrow.lt g' hg').1)
              have HA4 := hide hall4
              clear hall4
              go_wp2
              go_roundw
              case rel => exact ⟨x + 1, _, by omega, by go_num, by rw [List.length_append]; exact hown4, by rw [HX.out]; exact HA4.out, hB4⟩
              case measure => simp [intOf]; omega
    · obtain rfl : x = a.length := by omega
      go_wp2
      go_ret
      exact ⟨_, rfl, IntsAll.own hrow hall, hbw⟩

end Go.Proofs.Ytimfoggjocajiaa

/- Contract of the answer's Order; the least common multiple of the cycles is the order. -/
namespace Go.Proofs.Ytimfoggjocajiaa
open Go.RowKit
set_option maxRecDepth 20000

theorem it_succ' (r : List Int) (n x : Nat) : it r (n + 1) x = it r n (nx r x) := it_add r n 1 x

/-- The row, taken n times. -/
def pw (r : List Int) (n : Nat) : List Int := (List.range r.length).map (fun i => ((it r n i : Nat) : Int))

theorem pw_length (r : List Int) (n : Nat) : (pw r n).length = r.length := by simp [pw]

theorem pw_get {r : List Int} {n i : Nat} (h : i < r.length) : (pw r n).getD i 0 = ((it r n i : Nat) : Int) := by simp [pw, List.getD, h]

theorem pw_one {r : List Int} (hr : isRow r) : pw r 1 = r := by
  refine ext_getD (pw_length r 1) (fun i hi => ?_)
  rw [pw_length] at hi
  rw [pw_get hi]
  have := hr.at hi
  show ((nx r i : Nat) : Int) = _
  unfold nx; omega

theorem pw_succ {r : List Int} (hr : isRow r) (n : Nat) : by_ (pw r n) r = pw r (n + 1) := by
  refine ext_getD (by rw [by_length, pw_length]) (fun i hi => ?_)
  rw [by_length] at hi
  rw [by_get hi, pw_get hi]
  show (pw r n).getD (nx r i) 0 = _
  rw [pw_get (nx_lt hr hi), it_succ']

theorem isRow_pw {r : List Int} (hr : isRow r) (n : Nat) : isRow (pw r n) := by
  constructor
  · intro y hy
    obtain ⟨i, hi, rfl⟩ := List.mem_map.1 hy
    have := it_lt hr (List.mem_range.1 hi) n
    rw [pw_length]; omega
  · rw [List.nodup_iff_pairwise_ne]
    unfold pw
    rw [List.pairwise_map]
    refine List.Pairwise.imp_of_mem ?_ (List.pairwise_lt_range (n := r.length))
    intro i j hi hj hij e
    have := it_inj hr (List.mem_range.1 hi) (List.mem_range.1 hj) n (by omega)
    omega

theorem pw_rnd {r : List Int} {n : Nat} : pw r n = rnd r.length ↔ ∀ x, x < r.length → it r n x = x := by
  constructor
  · intro h x hx
    have h1 := pw_get (r := r) (n := n) hx
    rw [h, rnd_get hx] at h1
    omega
  · intro h
    exact eq_rnd (pw_length r n) (fun j hj => by rw [pw_get hj, h j hj])

theorem it_mul {r : List Int} {x p : Nat} (h : it r p x = x) (d : Nat) : it r (p * d) x = x := by
  induction d with
  | zero => rfl
  | succ d ih => rw [Nat.mul_succ, it_add, h, ih]

theorem per_dvd {r : List Int} (hr : isRow r) {x n : Nat} (hx : x < r.length) : it r n x = x ↔ per r x ∣ n := by
  obtain ⟨q1, _, q3, q4⟩ := per_spec hr hx
  constructor
  · intro h
    have e : n = n % per r x + per r x * (n / per r x) := by rw [Nat.mod_add_div]
    rw [e, it_add, it_mul q3] at h
    have hlt := Nat.mod_lt n q1
    by_cases h0 : n % per r x = 0
    · exact Nat.dvd_of_mod_eq_zero h0
    · exact absurd h (q4 _ (by omega) hlt)
  · rintro ⟨d, rfl⟩
    exact it_mul q3 d

theorem ordTo_dvd (xss : List (List Int)) (n j : Nat) (hj : j ≤ xss.length) : ordTo xss j ∣ n ↔ ∀ i, i < j → (xss.getD i []).length ∣ n := by
  induction j with
  | zero => exact ⟨fun _ i h => by omega, fun _ => Nat.one_dvd n⟩
  | succ j ih =>
    show Nat.lcm (ordTo xss j) (xss.getD j []).length ∣ n ↔ _
    rw [Nat.lcm_dvd_iff, ih (by omega)]
    constructor
    · rintro ⟨h1, h2⟩ i hi
      by_cases e : i = j
      · subst e; exact h2
      · exact h1 i (by omega)
    · intro h
      exact ⟨fun i hi => h i (by omega), h j (by omega)⟩

/-- How often the row must be taken, by its cycles. -/
def ord (r : List Int) : Nat := ordTo (cycsTo r r.length) (cycsTo r r.length).length

theorem ord_pw {r : List Int} (hr : isRow r) (n : Nat) : pw r n = rnd r.length ↔ ord r ∣ n := by
  rw [pw_rnd]
  unfold ord
  rw [ordTo_dvd _ _ _ (Nat.le_refl _)]
  constructor
  · intro h i hi
    have hc : (cycsTo r r.length).getD i [] ∈ cycsTo r r.length := by
      rw [show (cycsTo r r.length).getD i [] = (cycsTo r r.length)[i] from by simp [List.getD, List.getElem?_eq_getElem hi]]
      exact List.getElem_mem hi
    obtain ⟨y, hy, e⟩ := cyc_form hc
    rw [e, orb_length]
    exact (per_dvd hr hy).1 (h y hy)
  · intro h x hx
    obtain ⟨c, hc, hm⟩ := List.mem_flatten.1 (flat_all hr r.length (Nat.le_refl _) x hx)
    obtain ⟨i, hi, e⟩ := List.getElem_of_mem hc
    have hd := h i hi
    rw [show (cycsTo r r.length).getD i [] = c from by simp [List.getD, List.getElem?_eq_getElem hi, e]] at hd
    obtain ⟨y, hy, rfl⟩ := cyc_form hc
    rw [orb_length] at hd
    obtain ⟨j, _, e2⟩ := mem_orb.1 hm
    have e3 : x = it r j y := by omega
    rw [e3, ← it_add, Nat.add_comm, it_add, (per_dvd hr hy).2 hd]

theorem ord_pos {r : List Int} (hr : isRow r) (h12 : r.length ≤ 12) : 1 ≤ ord r ∧ ord r ≤ 1000000000000000 := by
  have hall := cycsTo_len hr r.length (Nat.le_refl _)
  have hbd := ordTo_bound (xss := cycsTo r r.length) (fun x hx => by have := hall x hx; omega) (cycsTo r r.length).length (Nat.le_refl _)
  have hl := cycsTo_length r r.length
  have hpw : 12 ^ (cycsTo r r.length).length ≤ 12 ^ 12 := Nat.pow_le_pow_right (by decide) (by omega)
  have h3 : 12 ^ 12 ≤ 1000000000000000 := by decide
  exact ⟨hbd.1, by unfold ord; omega⟩

theorem dis_row {r : List Int} (hr : isRow r) {i j : Nat} (hi : i < r.length) (hj : j < i) : dis (nx r) i j = if r.getD i 0 < r.getD j 0 then 1 else 0 := by
  have h1 := hr.at hi
  have h2 := hr.at (show j < r.length by omega)
  unfold dis
  rw [decide_eq_false (by omega : ¬ i < j)]
  unfold nx
  by_cases h : r.getD i 0 < r.getD j 0
  · rw [if_pos h, decide_eq_true (by omega)]; rfl
  · rw [if_neg h, decide_eq_false (by omega)]; rfl

theorem S_le {n : Nat} {f : Nat → Nat} {c : Nat} (h : ∀ i, i < n → f i ≤ c) : S n f ≤ n * c := by
  induction n with
  | zero => exact Nat.zero_le _
  | succ n ih =>
    have h1 := ih (fun i hi => h i (by omega))
    have h2 := h n (by omega)
    show S n f + f n ≤ (n + 1) * c
    rw [Nat.add_mul, Nat.one_mul]; omega

theorem dis_le (p : Nat → Nat) (i j : Nat) : dis p i j ≤ 1 := by unfold dis ne; split <;> omega

theorem ret_io {o : Int} {a b : Bool} (h : a = b) : Ending.returned (.tuple #[.int .i64 o, .bool a]) = Ending.returned (.tuple #[.int .i64 o, .bool b]) := by rw [h]

end Go.Proofs.Ytimfoggjocajiaa

/- Plain: changes as tilings of the places by single places and pairs; their rows undo themselves, and are odd as their pairs are. -/
namespace Go.Proofs.Ytimfoggjocajiaa
open Go.RowKit

/-- How many places a tiling covers (the last tile first; true: a place that is made, false: a pair). -/
def tsz : List Bool → Nat
  | [] => 0
  | true :: t => tsz t + 1
  | false :: t => tsz t + 2

/-- The places that are made. -/
def tpl : List Bool → List Int
  | [] => []
  | true :: t => tpl t ++ [((tsz t + 1 : Nat) : Int)]
  | false :: t => tpl t

/-- The row. -/
def trow : List Bool → List Int
  | [] => []
  | true :: t => trow t ++ [((tsz t : Nat) : Int)]
  | false :: t => trow t ++ [((tsz t + 1 : Nat) : Int), ((tsz t : Nat) : Int)]

/-- How many pairs. -/
def tpr : List Bool → Nat
  | [] => 0
  | true :: t => tpr t
  | false :: t => tpr t + 1

theorem trow_length : ∀ t, (trow t).length = tsz t
  | [] => rfl
  | true :: t => by simp [trow, tsz, trow_length t]
  | false :: t => by simp [trow, tsz, trow_length t]

theorem tpl_length : ∀ t, (tpl t).length + 2 * tpr t = tsz t
  | [] => rfl
  | true :: t => by have := tpl_length t; simp [tpl, tsz, tpr]; omega
  | false :: t => by have := tpl_length t; simp [tpl, tsz, tpr]; omega

theorem tpl_bound : ∀ t, ∀ y ∈ tpl t, 1 ≤ y ∧ y ≤ (tsz t : Nat)
  | [], y, h => by simp [tpl] at h
  | true :: t, y, h => by
    simp only [tpl, List.mem_append, List.mem_singleton] at h
    rcases h with h | h
    · have := tpl_bound t y h; simp only [tsz]; omega
    · simp only [tsz]; omega
  | false :: t, y, h => by have := tpl_bound t y h; simp only [tsz]; omega

theorem trow_mem : ∀ t, ∀ y ∈ trow t, 0 ≤ y ∧ y < (tsz t : Nat)
  | [], y, h => by simp [trow] at h
  | true :: t, y, h => by
    simp only [trow, List.mem_append, List.mem_singleton] at h
    rcases h with h | h
    · have := trow_mem t y h; simp only [tsz]; omega
    · simp only [tsz]; omega
  | false :: t, y, h => by
    simp only [trow, List.mem_append, List.mem_cons, List.not_mem_nil, or_false] at h
    rcases h with h | h | h
    · have := trow_mem t y h; simp only [tsz]; omega
    · simp only [tsz]; omega
    · simp only [tsz]; omega

theorem trow_nodup : ∀ t, (trow t).Nodup
  | [] => by simp [trow]
  | true :: t => by
    simp only [trow]
    refine List.nodup_append.2 ⟨trow_nodup t, by simp, fun a ha b hb => ?_⟩
    simp only [List.mem_singleton] at hb
    have := trow_mem t a ha
    omega
  | false :: t => by
    simp only [trow]
    refine List.nodup_append.2 ⟨trow_nodup t, by simp; omega, fun a ha b hb => ?_⟩
    simp only [List.mem_cons, List.not_mem_nil, or_false] at hb
    have := trow_mem t a ha
    omega

theorem trow_row (t : List Bool) : isRow (trow t) := ⟨fun y hy => by rw [trow_length]; exact trow_mem t y hy, trow_nodup t⟩

theorem by_append_left {a x b : List Int} (h : ∀ y ∈ b, 0 ≤ y ∧ y < (a.length : Nat)) : by_ (a ++ x) b = by_ a b := by
  unfold by_
  apply List.map_congr_left
  intro y hy
  have := h y hy
  simp only [List.getD]
  rw [List.getElem?_append_left (by omega)]

theorem trow_twice : ∀ t, by_ (trow t) (trow t) = rnd (tsz t)
  | [] => rfl
  | true :: t => by
    have ih := trow_twice t
    have hm : ∀ y ∈ trow t, 0 ≤ y ∧ y < ((trow t).length : Nat) := fun y hy => by rw [trow_length]; exact trow_mem t y hy
    show by_ (trow t ++ [((tsz t : Nat) : Int)]) (trow t ++ [((tsz t : Nat) : Int)]) = rnd (tsz t + 1)
    rw [show by_ (trow t ++ [((tsz t : Nat) : Int)]) (trow t ++ [((tsz t : Nat) : Int)]) = by_ (trow t ++ [((tsz t : Nat) : Int)]) (trow t) ++ by_ (trow t ++ [((tsz t : Nat) : Int)]) [((tsz t : Nat) : Int)] from List.map_append, by_append_left hm, ih, rnd_snoc]
    simp [by_, List.getD, trow_length]
  | false :: t => by
    have ih := trow_twice t
    have hm : ∀ y ∈ trow t, 0 ≤ y ∧ y < ((trow t).length : Nat) := fun y hy => by rw [trow_length]; exact trow_mem t y hy
    show by_ (trow t ++ [((tsz t + 1 : Nat) : Int), ((tsz t : Nat) : Int)]) (trow t ++ [((tsz t + 1 : Nat) : Int), ((tsz t : Nat) : Int)]) = rnd (tsz t + 1 + 1)
    rw [show by_ (trow t ++ [((tsz t + 1 : Nat) : Int), ((tsz t : Nat) : Int)]) (trow t ++ [((tsz t + 1 : Nat) : Int), ((tsz t : Nat) : Int)]) = by_ (trow t ++ [((tsz t + 1 : Nat) : Int), ((tsz t : Nat) : Int)]) (trow t) ++ by_ (trow t ++ [((tsz t + 1 : Nat) : Int), ((tsz t : Nat) : Int)]) [((tsz t + 1 : Nat) : Int), ((tsz t : Nat) : Int)] from List.map_append, by_append_left hm, ih, rnd_snoc, rnd_snoc]
    have h1 : (trow t ++ [((tsz t + 1 : Nat) : Int), ((tsz t : Nat) : Int)]).getD (tsz t + 1) 0 = ((tsz t : Nat) : Int) := by
      simp only [List.getD]; rw [List.getElem?_append_right (by rw [trow_length]; omega), trow_length, show tsz t + 1 - tsz t = 1 from by omega]; rfl
    have h2 : (trow t ++ [((tsz t + 1 : Nat) : Int), ((tsz t : Nat) : Int)]).getD (tsz t) 0 = ((tsz t + 1 : Nat) : Int) := by
      simp only [List.getD]; rw [List.getElem?_append_right (by rw [trow_length]; omega), trow_length, show tsz t - tsz t = 0 from by omega]; rfl
    simp only [by_, List.map_cons, List.map_nil, Int.toNat_natCast, h1, h2, List.append_assoc, List.singleton_append]

theorem nx_append_left {a x : List Int} {i : Nat} (h : i < a.length) : nx (a ++ x) i = nx a i := by
  unfold nx; simp only [List.getD]; rw [List.getElem?_append_left h]

theorem nx_trow_lt (t : List Bool) {i : Nat} (h : i < tsz t) : nx (trow t) i < tsz t := by
  have := nx_lt (trow_row t) (x := i) (by rw [trow_length]; exact h)
  rwa [trow_length] at this

theorem dis_zero {p : Nat → Nat} {i j : Nat} (h : j < i) (hp : p j < p i) : dis p i j = 0 := by
  unfold dis ne; rw [decide_eq_false (by omega), decide_eq_false (by omega)]; rfl

theorem dis_one {p : Nat → Nat} {i j : Nat} (h : j < i) (hp : p i < p j) : dis p i j = 1 := by
  unfold dis ne; rw [decide_eq_false (by omega), decide_eq_true hp]; rfl

theorem trow_inv : ∀ t, inv (tsz t) (nx (trow t)) = tpr t
  | [] => rfl
  | true :: t => by
    have ih := trow_inv t
    have e : ∀ i, i < tsz t → nx (trow (true :: t)) i = nx (trow t) i := fun i hi => nx_append_left (by rw [trow_length]; exact hi)
    have es : nx (trow (true :: t)) (tsz t) = tsz t := by
      show nx (trow t ++ [((tsz t : Nat) : Int)]) (tsz t) = tsz t
      unfold nx; simp only [List.getD]; rw [List.getElem?_append_right (by rw [trow_length]; omega), trow_length, Nat.sub_self]; rfl
    show inv (tsz t) (nx (trow (true :: t))) + S (tsz t) (fun j => dis (nx (trow (true :: t))) (tsz t) j) = tpr t
    rw [inv_congr e, ih, S_congr (g := fun _ => 0) (fun j hj => dis_zero hj (by rw [es, e j hj]; exact nx_trow_lt t hj)), S_zero]
    rfl
  | false :: t => by
    have ih := trow_inv t
    have e : ∀ i, i < tsz t → nx (trow (false :: t)) i = nx (trow t) i := fun i hi => nx_append_left (by rw [trow_length]; exact hi)
    have es : nx (trow (false :: t)) (tsz t) = tsz t + 1 := by
      show nx (trow t ++ [((tsz t + 1 : Nat) : Int), ((tsz t : Nat) : Int)]) (tsz t) = tsz t + 1
      unfold nx; simp only [List.getD]; rw [List.getElem?_append_right (by rw [trow_length]; omega), trow_length, Nat.sub_self]; rfl
    have et : nx (trow (false :: t)) (tsz t + 1) = tsz t := by
      show nx (trow t ++ [((tsz t + 1 : Nat) : Int), ((tsz t : Nat) : Int)]) (tsz t + 1) = tsz t
      unfold nx; simp only [List.getD]; rw [List.getElem?_append_right (by rw [trow_length]; omega), trow_length, show tsz t + 1 - tsz t = 1 from by omega]; rfl
    show inv (tsz t) (nx (trow (false :: t))) + S (tsz t) (fun j => dis (nx (trow (false :: t))) (tsz t) j) + (S (tsz t) (fun j => dis (nx (trow (false :: t))) (tsz t + 1) j) + dis (nx (trow (false :: t))) (tsz t + 1) (tsz t)) = tpr t + 1
    rw [inv_congr e, ih, S_congr (g := fun _ => 0) (fun j hj => dis_zero hj (by rw [es, e j hj]; have := nx_trow_lt t hj; omega)), S_zero,
      S_congr (g := fun _ => 0) (fun j hj => dis_zero (by omega) (by rw [et, e j hj]; exact nx_trow_lt t hj)), S_zero, dis_one (by omega) (by rw [et, es]; omega)]

theorem trow_odd (t : List Bool) : odd (trow t) = decide (tpr t % 2 = 1) := by
  have h := odd_inv (trow_row t)
  rw [trow_length, trow_inv] at h
  cases e : odd (trow t) <;> rw [e] at h <;> simp at h ⊢ <;> omega

theorem ord_le_two {r : List Int} (hr : isRow r) (h : by_ r r = rnd r.length) : ord r ≤ 2 := by
  have h2 : pw r 2 = rnd r.length := by rw [← pw_succ hr 1, pw_one hr, h]
  exact Nat.le_of_dvd (by decide) ((ord_pw hr 2).1 h2)

/-- The last place that is made, or 0. -/
def tlast : List Bool → Nat
  | [] => 0
  | true :: t => tsz t + 1
  | false :: t => tlast t

theorem tlast_ok : ∀ t, tlast t ≤ tsz t ∧ (tsz t - tlast t) % 2 = 0
  | [] => by decide
  | true :: t => by simp [tlast, tsz]
  | false :: t => by have := tlast_ok t; simp only [tlast, tsz]; omega

/-- May places be a change of n, behind a last one? -/
def okc (n last : Int) : List Int → Bool
  | [] => decide ((n - last) % 2 = 0)
  | p :: ps => decide (last < p ∧ p ≤ n ∧ (p - last - 1) % 2 = 0) && okc n p ps

theorem tsz_rep (t : List Bool) : ∀ m, tsz (List.replicate m false ++ t) = tsz t + 2 * m
  | 0 => by simp
  | m + 1 => by simp only [List.replicate_succ, List.cons_append, tsz, tsz_rep t m]; omega

theorem tpl_rep (t : List Bool) : ∀ m, tpl (List.replicate m false ++ t) = tpl t
  | 0 => by simp
  | m + 1 => by simp only [List.replicate_succ, List.cons_append, tpl, tpl_rep t m]

theorem okc_til (n : Nat) : ∀ (ps : List Int) (t : List Bool), tsz t ≤ n → okc n (tsz t : Nat) ps = true → ∃ t', tsz t' = n ∧ tpl t' = tpl t ++ ps
  | [], t, h, ho => by
    simp only [okc, decide_eq_true_eq] at ho
    exact ⟨List.replicate ((n - tsz t) / 2) false ++ t, by rw [tsz_rep]; omega, by rw [tpl_rep, List.append_nil]⟩
  | p :: ps, t, h, ho => by
    simp only [okc, Bool.and_eq_true, decide_eq_true_eq] at ho
    obtain ⟨⟨h1, h2, h3⟩, h4⟩ := ho
    obtain ⟨q, rfl⟩ := Int.eq_ofNat_of_zero_le (show 0 ≤ p by omega)
    have hs : tsz (true :: (List.replicate ((q - tsz t - 1) / 2) false ++ t)) = q := by simp only [tsz, tsz_rep]; omega
    obtain ⟨t', e1, e2⟩ := okc_til n ps (true :: (List.replicate ((q - tsz t - 1) / 2) false ++ t)) (by rw [hs]; omega) (by rw [hs]; exact h4)
    refine ⟨t', e1, ?_⟩
    rw [e2]
    simp only [tpl, tpl_rep, tsz_rep, List.append_assoc, List.singleton_append]
    rw [show tsz t + 2 * ((q - tsz t - 1) / 2) + 1 = q from by omega]

theorem til_okc (n : Nat) : ∀ (t : List Bool) (ps : List Int), tsz t ≤ n → okc n (tlast t : Nat) ps = true → okc n 0 (tpl t ++ ps) = true
  | [], ps, _, h => h
  | true :: t, ps, hn, h => by
    have hl := tlast_ok t
    simp only [tsz] at hn
    simp only [tpl, List.append_assoc, List.singleton_append]
    refine til_okc n t _ (by omega) ?_
    simp only [okc, Bool.and_eq_true, decide_eq_true_eq]
    exact ⟨by omega, h⟩
  | false :: t, ps, hn, h => til_okc n t ps (by simp only [tsz] at hn; omega) h

theorem okc_self (t : List Bool) : okc (tsz t : Nat) 0 (tpl t) = true := by
  have h := til_okc (tsz t) t [] (Nat.le_refl _) (by have := tlast_ok t; simp only [okc, decide_eq_true_eq]; omega)
  rwa [List.append_nil] at h

theorem okc_iff (n : Nat) (ps : List Int) : okc n 0 ps = true ↔ ∃ t, tsz t = n ∧ tpl t = ps := by
  constructor
  · intro h
    obtain ⟨t, e1, e2⟩ := okc_til n ps [] (Nat.zero_le _) h
    exact ⟨t, e1, by rw [e2]; rfl⟩
  · rintro ⟨t, rfl, rfl⟩
    exact okc_self t

theorem tsz_mono (s : List Bool) : ∀ u, tsz s ≤ tsz (u ++ s)
  | [] => Nat.le_refl _
  | true :: u => by have := tsz_mono s u; simp only [List.cons_append, tsz]; omega
  | false :: u => by have := tsz_mono s u; simp only [List.cons_append, tsz]; omega

theorem tpl_above (s : List Bool) : ∀ u, ∀ y ∈ tpl (u ++ s), y ∈ tpl s ∨ (tsz s : Int) < y
  | [], y, h => Or.inl h
  | true :: u, y, h => by
    simp only [List.cons_append, tpl, List.mem_append, List.mem_singleton] at h
    rcases h with h | h
    · exact tpl_above s u y h
    · have := tsz_mono s u; right; omega
  | false :: u, y, h => tpl_above s u y h

theorem tpl_sub (s : List Bool) : ∀ u, ∀ y ∈ tpl s, y ∈ tpl (u ++ s)
  | [], _, h => h
  | true :: u, y, h => by simp only [List.cons_append, tpl, List.mem_append]; exact Or.inl (tpl_sub s u y h)
  | false :: u, y, h => tpl_sub s u y h

theorem mem_next (u s : List Bool) (b : Bool) : ((tsz s : Nat) : Int) + 1 ∈ tpl (u ++ b :: s) ↔ b = true := by
  constructor
  · intro h
    cases b with
    | true => rfl
    | false =>
      rcases tpl_above (false :: s) u _ h with h | h
      · have := tpl_bound s _ h; omega
      · simp only [tsz] at h; omega
  · rintro rfl
    exact tpl_sub _ u _ (by simp [tpl])

theorem til_whole {s : List Bool} : ∀ {u : List Bool}, tsz (u ++ s) ≤ tsz s → u = []
  | [], _ => rfl
  | true :: u, h => by have := tsz_mono s u; simp only [List.cons_append, tsz] at h; omega
  | false :: u, h => by have := tsz_mono s u; simp only [List.cons_append, tsz] at h; omega

/-- The next tile of one that is not whole. -/
theorem til_next {u s : List Bool} (h : tsz s < tsz (u ++ s)) : ∃ u' b, u = u' ++ [b] ∧ u ++ s = u' ++ b :: s := by
  rcases List.eq_nil_or_concat u with rfl | ⟨u', b, rfl⟩
  · exact absurd h (Nat.lt_irrefl _)
  · exact ⟨u', b, by simp, by simp⟩

theorem trow_ones : ∀ n, trow (List.replicate n true) = rnd n ∧ tsz (List.replicate n true) = n ∧ tpr (List.replicate n true) = 0
  | 0 => ⟨rfl, rfl, rfl⟩
  | n + 1 => by
    obtain ⟨h1, h2, h3⟩ := trow_ones n
    refine ⟨?_, ?_, ?_⟩
    · rw [List.replicate_succ, trow, h1, h2, rnd_snoc]
    · rw [List.replicate_succ, tsz, h2]
    · rw [List.replicate_succ, tpr, h3]

theorem odd_rnd (n : Nat) : odd (rnd n) = false := by
  rw [← (trow_ones n).1, trow_odd, (trow_ones n).2.2]; rfl

end Go.Proofs.Ytimfoggjocajiaa

/- Contracts: pairs, mayCount and Check of place; slices.Index, slices.Contains; Row; ChangeOf. -/
namespace Go.Proofs.Ytimfoggjocajiaa
open Go.RowKit

theorem drop_cons (xs : List Int) {k : Nat} (h : k < xs.length) : xs.drop k = xs[k]?.getD 0 :: xs.drop (k + 1) := by
  rw [List.drop_eq_getElem_cons h]; simp [List.getElem?_eq_getElem h]

/-- What Check says of places of n bells. -/
def pck (n : Int) (ps : List Int) : Int := if okc n 0 ps = true then 0 else 6

theorem pck_range (n : Int) (ps : List Int) : pck n ps = 0 ∨ pck n ps = 6 := by unfold pck; split <;> simp

theorem pck_til {t : List Bool} {n : Nat} (h : tsz t = n) : pck n (tpl t) = 0 := by unfold pck; rw [if_pos (by rw [← h]; exact okc_self t)]

/-- Where a number is first; -1: nowhere. -/
def idx (x : Int) : List Int → Nat → Int
  | [], _ => -1
  | y :: ys, k => if x = y then (k : Int) else idx x ys (k + 1)

theorem idx_mem (x : Int) : ∀ (ys : List Int) (k : Nat), decide (idx x ys k ≥ 0) = decide (x ∈ ys)
  | [], _ => by simp [idx]
  | y :: ys, k => by
    unfold idx
    by_cases h : x = y
    · rw [if_pos h]; simp [h]
    · rw [if_neg h, idx_mem x ys (k + 1)]; simp [h]

set_option maxHeartbeats 1000000 in
theorem index_any (v : Value) (xs : List Int) (x : Int) (w : World) (h : Ints w v xs) :
    Calls Try.prog 139 #[v, .int .i64 x] w fun e w' => e = .returned (.int .i64 (idx x xs 0)) ∧ w = w' := by
  rcases h with ⟨rfl, p, c, rfl⟩ | ⟨b, off, cap, rfl, h0, hc, hm, hb, hcell⟩
  · go_enter Try.func139, Try.ntmps139
    go_wp2
    go_loop [8] (fun i => i = .int .i64 0) (fun _ => 0)
    case atStart => rfl
    case round =>
      subst hrel
      go_wp2
      go_ret
      exact ⟨rfl, rfl⟩
  · go_enter Try.func139, Try.ntmps139
    go_wp2
    go_loop [8] (fun i => ∃ k : Nat, k ≤ xs.length ∧ i = .int .i64 k ∧ Hid (idx x xs 0 = idx x (xs.drop k) k)) (fun i => xs.length - (intOf i).toNat)
    case atStart => exact ⟨0, by omega, rfl, rfl⟩
    case round =>
      obtain ⟨k, hk, rfl, hi⟩ := hrel
      by_cases hlt : k < xs.length
      · obtain ⟨y, hy, hcx⟩ := cellAt hcell hlt
        have HD : Hid (idx x xs 0 = if x = y then (k : Int) else idx x (xs.drop (k + 1)) (k + 1)) := by show _ = _; rw [hi.out, drop_cons xs hlt, hy.out]; rfl
        clear hcell hi
        by_cases hxy : x = y
        · have hp : Hid (idx x xs 0 = k) := by show _ = _; rw [HD.out, if_pos hxy]
          subst hxy
          go_wp2
          go_ret
          exact ⟨ret_int hp.out.symm, rfl⟩
        · have hp : Hid (idx x xs 0 = idx x (xs.drop (k + 1)) (k + 1)) := by show _ = _; rw [HD.out, if_neg hxy]
          have hne : (x == y) = false := by simpa using hxy
          clear hxy
          go_wp2
          go_round
          case rel => exact ⟨k + 1, by omega, by go_num, hp⟩
          case measure => simp [intOf]; omega
      · have hp : Hid (idx x xs 0 = -1) := by show _ = _; rw [hi.out, List.drop_of_length_le (by omega)]; rfl
        clear hcell hi
        go_wp2
        go_ret
        exact ⟨ret_int hp.out.symm, rfl⟩

set_option maxHeartbeats 400000 in
theorem contains_any (v : Value) (xs : List Int) (x : Int) (w : World) (h : Ints w v xs) :
    Calls Try.prog 124 #[v, .int .i64 x] w fun e w' => e = .returned (.bool (decide (x ∈ xs))) ∧ w = w' := by
  have HI := hide (index_any v xs x w h)
  have HM := hide (idx_mem x xs 0)
  clear h
  generalize idx x xs 0 = k at *
  go_enter Try.func124, Try.ntmps124
  go_wp2_with fail
  refine HI.out.mono ?_
  rintro e w' ⟨rfl, rfl⟩
  go_wp2
  go_ret
  exact ⟨ret_bool HM.out, rfl⟩

end Go.Proofs.Ytimfoggjocajiaa

/- Contracts: cmp.Compare, slices.Compare of lists of one length; the order of lists. -/
namespace Go.Proofs.Ytimfoggjocajiaa
open Go.RowKit

def cI (x y : Int) : Int := if x < y then -1 else if y < x then 1 else 0

theorem isNaN_ok (x : Int) (w : World) : Calls Try.prog 152 #[.int .i64 x] w fun e w' => e = .returned (.bool false) ∧ w = w' := by
  go_enter Try.func152, Try.ntmps152
  go_wp2
  go_ret
  simp

set_option maxRecDepth 20000 in
set_option maxHeartbeats 1000000 in
theorem cmp_ok (x y : Int) (w : World) : Calls Try.prog 134 #[.int .i64 x, .int .i64 y] w fun e w' => e = .returned (.int .i64 (cI x y)) ∧ w = w' := by
  by_cases h1 : x < y
  · have hc : Hid (cI x y = -1) := by show _ = _; unfold cI; rw [if_pos h1]
    go_enter Try.func134, Try.ntmps134
    go_wp2_with fail
    refine (isNaN_ok _ _).mono ?_
    rintro e w' ⟨rfl, rfl⟩
    go_wp2_with fail
    refine (isNaN_ok _ _).mono ?_
    rintro e w' ⟨rfl, rfl⟩
    go_wp2
    go_ret
    exact ⟨ret_int hc.out.symm, rfl⟩
  · by_cases h2 : y < x
    · have hc : Hid (cI x y = 1) := by show _ = _; unfold cI; rw [if_neg h1, if_pos h2]
      go_enter Try.func134, Try.ntmps134
      go_wp2_with fail
      refine (isNaN_ok _ _).mono ?_
      rintro e w' ⟨rfl, rfl⟩
      go_wp2_with fail
      refine (isNaN_ok _ _).mono ?_
      rintro e w' ⟨rfl, rfl⟩
      go_wp2
      go_ret
      exact ⟨ret_int hc.out.symm, rfl⟩
    · have hc : Hid (cI x y = 0) := by show _ = _; unfold cI; rw [if_neg h1, if_neg h2]
      go_enter Try.func134, Try.ntmps134
      go_wp2_with fail
      refine (isNaN_ok _ _).mono ?_
      rintro e w' ⟨rfl, rfl⟩
      go_wp2_with fail
      refine (isNaN_ok _ _).mono ?_
      rintro e w' ⟨rfl, rfl⟩
      go_wp2
      go_ret
      exact ⟨ret_int hc.out.symm, rfl⟩

def lcmp : List Int → List Int → Int
  | [], [] => 0
  | [], _ :: _ => -1
  | _ :: _, [] => 1
  | x :: xs, y :: ys => if cI x y = 0 then lcmp xs ys else cI x y

theorem lcmp_cons (x y : Int) (xs ys : List Int) : lcmp (x :: xs) (y :: ys) = if x < y then -1 else if y < x then 1 else lcmp xs ys := by
  show (if cI x y = 0 then lcmp xs ys else cI x y) = _
  unfold cI
  by_cases h1 : x < y
  · simp [h1]
  · by_cases h2 : y < x <;> simp [h1, h2]

theorem lcmp_self : ∀ a, lcmp a a = 0
  | [] => rfl
  | x :: xs => by rw [lcmp_cons, if_neg (by omega), if_neg (by omega)]; exact lcmp_self xs

theorem lcmp_trans : ∀ a b c, lcmp a b < 0 → lcmp b c < 0 → lcmp a c < 0
  | [], [], _, h, _ => absurd h (by decide)
  | [], _ :: _, [], _, h => absurd h (by show ¬ ((1 : Int) < 0); decide)
  | [], _ :: _, _ :: _, _, _ => by show (-1 : Int) < 0; decide
  | _ :: _, [], _, h, _ => absurd h (by show ¬ ((1 : Int) < 0); decide)
  | _ :: _, _ :: _, [], _, h => absurd h (by show ¬ ((1 : Int) < 0); decide)
  | x :: xs, y :: ys, z :: zs, h1, h2 => by
    have ih := lcmp_trans xs ys zs
    rw [lcmp_cons] at h1 h2 ⊢
    repeat' split at h1
    all_goals repeat' split at h2
    all_goals repeat' split
    all_goals first | omega | exact ih h1 h2

theorem lcmp_ntrans : ∀ a b c, ¬ lcmp a b < 0 → ¬ lcmp b c < 0 → ¬ lcmp a c < 0
  | [], [], c, _, h => h
  | [], _ :: _, _, h, _ => absurd (show (-1 : Int) < 0 by decide) h
  | _ :: _, [], [], _, _ => by show ¬ ((1 : Int) < 0); decide
  | _ :: _, [], _ :: _, _, h => absurd (show (-1 : Int) < 0 by decide) h
  | _ :: _, _ :: _, [], _, _ => by show ¬ ((1 : Int) < 0); decide
  | x :: xs, y :: ys, z :: zs, h1, h2 => by
    have ih := lcmp_ntrans xs ys zs
    rw [lcmp_cons] at h1 h2 ⊢
    repeat' split at h1
    all_goals repeat' split at h2
    all_goals repeat' split
    all_goals first | omega | exact ih h1 h2

set_option maxRecDepth 20000 in
set_option maxHeartbeats 1000000 in
theorem compare_ok (v1 v2 : Value) (xs ys : List Int) (w : World) (i1 : Ints w v1 xs) (i2 : Ints w v2 ys) (h1 : 1 ≤ xs.length) (hl : ys.length = xs.length) :
    Calls Try.prog 118 #[v1, v2] w fun e w' => e = .returned (.int .i64 (lcmp xs ys)) ∧ w = w' := by
  rcases i1 with ⟨rfl, _⟩ | ⟨b, off, cap, rfl, h0, hc, hm, hb, hcell⟩
  · simp at h1
  rcases i2 with ⟨rfl, _⟩ | ⟨b2, off2, cap2, rfl, h02, hc2, hm2, hb2, hcell2⟩
  · simp at hl; omega
  rw [hl]
  rw [hl] at hc2
  have HLL := hide hl
  clear hl h02
  go_enter Try.func118, Try.ntmps118
  go_wp2
  go_loop [11] (fun i => ∃ k : Nat, k ≤ xs.length ∧ i = .int .i64 k ∧ Hid (lcmp xs ys = lcmp (xs.drop k) (ys.drop k))) (fun i => xs.length - (intOf i).toNat)
  case atStart => exact ⟨0, by omega, rfl, rfl⟩
  case round =>
    obtain ⟨k, hk, rfl, hi⟩ := hrel
    by_cases hlt : k < xs.length
    · have hlt2 : k < ys.length := by have := HLL.out; omega
      obtain ⟨x, hx, hcx⟩ := cellAt hcell hlt
      obtain ⟨y, hy, hcy⟩ := cellAt hcell2 hlt2
      have HD : Hid (lcmp xs ys = if cI x y = 0 then lcmp (xs.drop (k + 1)) (ys.drop (k + 1)) else cI x y) := by show _ = _; rw [hi.out, drop_cons xs hlt, drop_cons ys hlt2, hx.out, hy.out]; rfl
      have HCM := hide (cmp_ok x y w)
      clear hcell hcell2 hi hlt2
      by_cases hz : cI x y = 0
      · have hp : Hid (lcmp xs ys = lcmp (xs.drop (k + 1)) (ys.drop (k + 1))) := by show _ = _; rw [HD.out, if_pos hz]
        rw [hz] at HCM
        clear hz HD
        go_wp2_with fail
        refine HCM.out.mono ?_
        rintro e w' ⟨rfl, rfl⟩
        go_wp2
        go_round
        case rel => exact ⟨k + 1, by omega, by go_num, hp⟩
        case measure => simp [intOf]; omega
      · have hp : Hid (lcmp xs ys = cI x y) := by show _ = _; rw [HD.out, if_neg hz]
        have hne : (cI x y != 0) = true := by simpa using hz
        clear HD
        generalize cI x y = z at *
        go_wp2_with fail
        refine HCM.out.mono ?_
        rintro e w' ⟨rfl, rfl⟩
        go_wp2
        go_ret
        exact ⟨ret_int hp.out.symm, rfl⟩
    · have hp : Hid (lcmp xs ys = 0) := by show _ = _; rw [hi.out, List.drop_of_length_le (by omega), List.drop_of_length_le (by have := HLL.out; omega)]; rfl
      clear hcell hcell2 hi
      go_wp2
      go_ret
      exact ⟨ret_int hp.out.symm, rfl⟩

end Go.Proofs.Ytimfoggjocajiaa

/- Contracts: cmp.Compare, slices.Compare of int8, group.compare. -/
namespace Go.Proofs.Ytimfoggjocajiaa
open Go.RowKit

theorem isNaN8_ok (x : Int) (w : World) : Calls Try.prog 168 #[.int .i8 x] w fun e w' => e = .returned (.bool false) ∧ w = w' := by
  go_enter Try.func168, Try.ntmps168
  go_wp2
  go_ret
  simp

set_option maxRecDepth 20000 in
set_option maxHeartbeats 1000000 in
theorem cmp8_ok (x y : Int) (w : World) : Calls Try.prog 150 #[.int .i8 x, .int .i8 y] w fun e w' => e = .returned (.int .i64 (cI x y)) ∧ w = w' := by
  by_cases h1 : x < y
  · have hc : Hid (cI x y = -1) := by show _ = _; unfold cI; rw [if_pos h1]
    go_enter Try.func150, Try.ntmps150
    go_wp2_with fail
    refine (isNaN8_ok _ _).mono ?_
    rintro e w' ⟨rfl, rfl⟩
    go_wp2_with fail
    refine (isNaN8_ok _ _).mono ?_
    rintro e w' ⟨rfl, rfl⟩
    go_wp2
    go_ret
    exact ⟨ret_int hc.out.symm, rfl⟩
  · by_cases h2 : y < x
    · have hc : Hid (cI x y = 1) := by show _ = _; unfold cI; rw [if_neg h1, if_pos h2]
      go_enter Try.func150, Try.ntmps150
      go_wp2_with fail
      refine (isNaN8_ok _ _).mono ?_
      rintro e w' ⟨rfl, rfl⟩
      go_wp2_with fail
      refine (isNaN8_ok _ _).mono ?_
      rintro e w' ⟨rfl, rfl⟩
      go_wp2
      go_ret
      exact ⟨ret_int hc.out.symm, rfl⟩
    · have hc : Hid (cI x y = 0) := by show _ = _; unfold cI; rw [if_neg h1, if_neg h2]
      go_enter Try.func150, Try.ntmps150
      go_wp2_with fail
      refine (isNaN8_ok _ _).mono ?_
      rintro e w' ⟨rfl, rfl⟩
      go_wp2_with fail
      refine (isNaN8_ok _ _).mono ?_
      rintro e w' ⟨rfl, rfl⟩
      go_wp2
      go_ret
      exact ⟨ret_int hc.out.symm, rfl⟩

set_option maxRecDepth 20000 in
set_option maxHeartbeats 1000000 in
theorem compare8_ok (b b2 : Nat) (xs ys : List Int) (w : World) (i1 : Arr w b xs) (i2 : Arr w b2 ys) :
    Calls Try.prog 128 #[.slice (some ⟨b, 0, none⟩) 12 12, .slice (some ⟨b2, 0, none⟩) 12 12] w fun e w' => e = .returned (.int .i64 (lcmp xs ys)) ∧ w = w' := by
  have hb := i1.lt
  have hb2 := i2.lt
  have hcell : ∀ j, j < 12 → ∃ x, Hid (xs.getD j 0 = x) ∧ w.cell? ⟨b, j, none⟩ = some (.int .i8 x) := fun j hj => ⟨_, rfl, (i1.cell hj).1⟩
  have hcell2 : ∀ j, j < 12 → ∃ x, Hid (ys.getD j 0 = x) ∧ w.cell? ⟨b2, j, none⟩ = some (.int .i8 x) := fun j hj => ⟨_, rfl, (i2.cell hj).1⟩
  have HL1 := hide i1.2
  have HL2 := hide i2.2
  clear i1 i2
  go_enter Try.func128, Try.ntmps128
  go_wp2
  go_loop [11] (fun i => ∃ k : Nat, k ≤ 12 ∧ i = .int .i64 k ∧ Hid (lcmp xs ys = lcmp (xs.drop k) (ys.drop k))) (fun i => 12 - (intOf i).toNat)
  case atStart => exact ⟨0, by omega, rfl, rfl⟩
  case round =>
    obtain ⟨k, hk, rfl, hi⟩ := hrel
    by_cases hlt : k < 12
    · have hlt2 : k < ys.length := by have := HL2.out; omega
      have hlt1 : k < xs.length := by have := HL1.out; omega
      obtain ⟨x, hx, hcx⟩ := hcell k hlt
      obtain ⟨y, hy, hcy⟩ := hcell2 k hlt
      have HD : Hid (lcmp xs ys = if cI x y = 0 then lcmp (xs.drop (k + 1)) (ys.drop (k + 1)) else cI x y) := by show _ = _; rw [hi.out, drop_cons xs hlt1, drop_cons ys hlt2, ← List.getD_eq_getElem?_getD, ← List.getD_eq_getElem?_getD, hx.out, hy.out]; rfl
      have HCM := hide (cmp8_ok x y w)
      clear hcell hcell2 hi hlt2 hlt1
      by_cases hz : cI x y = 0
      · have hp : Hid (lcmp xs ys = lcmp (xs.drop (k + 1)) (ys.drop (k + 1))) := by show _ = _; rw [HD.out, if_pos hz]
        rw [hz] at HCM
        clear hz HD
        go_wp2_with fail
        refine HCM.out.mono ?_
        rintro e w' ⟨rfl, rfl⟩
        go_wp2
        go_round
        case rel => exact ⟨k + 1, by omega, by go_num, hp⟩
        case measure => simp [intOf]; omega
      · have hp : Hid (lcmp xs ys = cI x y) := by show _ = _; rw [HD.out, if_neg hz]
        have hne : (cI x y != 0) = true := by simpa using hz
        clear HD
        generalize cI x y = z at *
        go_wp2_with fail
        refine HCM.out.mono ?_
        rintro e w' ⟨rfl, rfl⟩
        go_wp2
        go_ret
        exact ⟨ret_int hp.out.symm, rfl⟩
    · have hp : Hid (lcmp xs ys = 0) := by show _ = _; rw [hi.out, List.drop_of_length_le (by have := HL1.out; omega), List.drop_of_length_le (by have := HL2.out; omega)]; rfl
      clear hcell hcell2 hi
      go_wp2
      go_ret
      exact ⟨ret_int hp.out.symm, rfl⟩

end Go.Proofs.Ytimfoggjocajiaa

/- Contract: group.compare. -/
namespace Go.Proofs.Ytimfoggjocajiaa
open Go.RowKit Go.Shelf Go.Sort
set_option maxRecDepth 20000
set_option linter.unusedVariables false

set_option maxHeartbeats 2000000 in
theorem gcompare_ok (x y : Pm) (w : World) : Calls Try.prog 103 #[.agg (x.l.map (Value.int .i8)).toArray, .agg (y.l.map (Value.int .i8)).toArray] w fun e w' => e = .returned (.int .i64 (lcmp x.l y.l)) ∧ ∃ q os', w' = grow (w.drewN q) os' := by
  have hA : Arr ((w.alloc (.cells (i8s x.l) 91)).alloc (.cells (i8s y.l) 91)) w.heap.size x.l := (Arr.new w x.l x.len).alloc _
  have hB := Arr.new1 w (.cells (i8s x.l) 91) (zs := y.l) y.len
  have HC := hide (fun W (h1 : Arr W w.heap.size x.l) (h2 : Arr W (w.heap.size + 1) y.l) => compare8_ok w.heap.size (w.heap.size + 1) x.l y.l W h1 h2)
  have HA := hide hA
  have HB := hide hB
  have hlx := x.len
  have hly := y.len
  clear hA hB
  go_enter Try.func103, Try.ntmps103
  go_upto_region 1 with fail
  change Code.wp _ _ _ _ ((w.alloc (.cells (i8s x.l) 91)).alloc (.cells (i8s y.l) 91))
  have HG : Hid ((w.alloc (.cells (i8s x.l) 91)).alloc (.cells (i8s y.l) 91) = grow w #[.cells (i8s x.l) 91, .cells (i8s y.l) 91]) := by
    show _ = _
    rw [alloc_eq_grow, alloc_eq_grow, grow_grow]; rfl
  generalize (w.alloc (.cells (i8s x.l) 91)).alloc (.cells (i8s y.l) 91) = WW at *
  refine wp_region_held_drew (S := fun W' => ∃ m, W' = WW.drewN m) (by kernel_rfl) ⟨1, rfl⟩ (fun hS => ?_)
  refine wpAnyH_take (i := 0) (v := .slice (some ⟨w.heap.size, 0, none⟩) 12 12) rfl (by kernel_rfl) (by kernel_rfl) (by kernel_rfl) (fun _ _ _ h => h) (Or.inl ⟨by kernel_rfl, fun w' hS' => by clear hS'; go_simp⟩) hS ?_
  refine wpAnyH_take (i := 1) (v := .slice (some ⟨w.heap.size + 1, 0, none⟩) 12 12) rfl (by kernel_rfl) (by kernel_rfl) (by kernel_rfl) (fun _ _ _ h => h) (Or.inl ⟨by kernel_rfl, fun w' hS' => by clear hS'; go_simp⟩) hS ?_
  refine wpAnyH_ready (rs := [2]) (by kernel_rfl) (by simp) ?_
  refine AllReadyH.cons rfl (fun K hK => ?_) AllReadyH.nil
  go_simp
  refine (HC.out WW.drew HA.out.drew HB.out.drew).mono ?_
  rintro e w' ⟨rfl, rfl⟩
  refine hK.out _ _ ⟨1, rfl⟩ (fun hS => ?_)
  clear hK
  refine wpAnyH_take (i := 3) (v := .int .i64 (lcmp x.l y.l)) rfl (by kernel_rfl) (by kernel_rfl) (by kernel_rfl) (fun _ _ _ h => h) (Or.inl ⟨by kernel_rfl, fun w' hS' => by clear hS'; go_simp⟩) hS ?_
  refine wpAnyH_done (by kernel_rfl) ?_ _
  go_wp2
  go_ret
  refine ⟨rfl, 1, #[.cells (i8s x.l) 91, .cells (i8s y.l) 91], ?_⟩
  rw [HG.out]
  rfl

end Go.Proofs.Ytimfoggjocajiaa

/- Contract: slices.SortFunc with group.compare over packed rows that the call owns. -/
namespace Go.Proofs.Ytimfoggjocajiaa
open Go.RowKit Go.Shelf Go.Lib Go.Sort

instance : Inhabited Pm := ⟨1⟩

def encP (x : Pm) : List Value := x.l.map (Value.int .i8)

theorem encP_len (x : Pm) : (encP x).length = 12 := by unfold encP; rw [List.length_map, x.len]

theorem flat_gcells (X : List Pm) : (flatK encP 12 X.toArray).toList = gcells X := by
  refine List.ext_getElem (by rw [gcells_length, Array.length_toList, size_flatK]; simp) (fun t h1 h2 => ?_)
  have ht : t < X.length * 12 := by rw [gcells_length] at h2; exact h2
  have hd : t / 12 < X.length := by omega
  have hm : t % 12 < 12 := Nat.mod_lt _ (by decide)
  have hg := gcells_at X (t / 12) X[t / 12] (List.getElem?_eq_getElem hd) (t % 12) hm
  rw [show t / 12 * 12 + t % 12 = t from by omega] at hg
  have e1 : (gcells X)[t] = .int .i8 (X[t / 12].l.getD (t % 12) 0) := by
    rw [List.getElem?_eq_getElem h2] at hg
    exact Option.some.inj hg
  have e2 := get_flatK encP 12 X.toArray t (by simpa using ht)
  rw [getElem!_pos _ t (by rw [size_flatK]; simpa using ht)] at e2
  rw [Array.getElem_toList, e1, e2, getElem!_pos X.toArray (t / 12) (by simpa using hd)]
  have hl : t % 12 < (encP X[t / 12]).length := by rw [encP_len]; exact hm
  show (encP X[t / 12])[t % 12]! = _
  rw [getElem!_pos (encP X[t / 12]) (t % 12) hl]
  have hl2 : t % 12 < X[t / 12].l.length := by rw [Pm.len]; exact hm
  simp [encP, List.getD, hl2]

theorem swk_block (w : World) (blk m : Nat) (dk : Array Pm) (os : Array Obj) {b : Nat} (hne : b ≠ blk) (hb : b < w.heap.size) : (sortWorldK encP 12 w blk 0 m dk os).heap[b]? = w.heap[b]? := by
  unfold sortWorldK putRowK grow putRow mapBlock Sort.ahead
  simp only
  rw [Array.getElem?_append_left (by simpa using hb), Array.getElem?_modify, if_neg (fun e => hne e.symm)]

theorem swk_row (w : World) (blk m : Nat) (dk : Array Pm) (os : Array Obj) {cur : Array Value} {e : TypeId} (h : w.heap[blk]? = some (.cells cur e (0, 0))) : (sortWorldK encP 12 w blk 0 m dk os).heap[blk]? = some (.cells (putCells id 0 (flatK encP 12 dk) cur) e (0, 0)) := by
  have hb := (Array.getElem?_eq_some_iff.1 h).1
  unfold sortWorldK putRowK grow putRow mapBlock Sort.ahead
  simp only
  rw [Array.getElem?_append_left (by simpa using hb), Array.getElem?_modify, if_pos rfl, h]
  rfl

theorem putk_take (dk : Array Value) (cur : Array Value) (h : dk.size ≤ cur.size) : (putCells id 0 dk cur).toList.take dk.size = dk.toList := by
  refine List.ext_getElem (by simp [putCells]; omega) (fun i h1 h2 => ?_)
  have hi : i < dk.size := by simpa using h2
  simp only [putCells, List.getElem_take, Array.toList_mapIdx, List.getElem_mapIdx, Array.getElem_toList]
  rw [if_pos ⟨Nat.zero_le _, by omega⟩, Nat.sub_zero, getElem!_pos dk i hi]
  rfl

set_option maxRecDepth 20000 in
set_option maxHeartbeats 2000000 in
theorem gsort_ok (base : Nat) (u : Value) (X : List Pm) (w : World) (hrow : w.ownsRow base 91 12 u X.length (gcells X)) (hN : 1 ≤ X.length) (hN2 : X.length ≤ 8916100448256) :
    Calls Try.prog 102 #[u, .func (.func 103) #[] #[]] w fun e w' => e = .returned (.tuple #[]) ∧ ∃ X', (X'.Perm X ∧ X'.Pairwise (fun a b => 0 ≤ lcmp b.l a.l)) ∧ w'.ownsRow base 91 12 u X'.length (gcells X') ∧ Below base w w' := by
  have hown := hrow
  rcases hrow.2 with ⟨_, h0⟩ | ⟨g, cap, cur, hu, hgb, hh, hc1, hc2, hcs, hct⟩
  · omega
  have hg := (Array.getElem?_eq_some_iff.1 hh).1
  have hcmp : CmpLays Try.prog 103 #[] encP 12 (fun x y => lcmp x.l y.l) g 0 X.toArray.size w := by
    intro m os dk _ x y
    exact gcompare_ok x y (sortWorldK encP 12 w g 0 m dk os)
  have hO : SWO (ltOf (fun x y : Pm => lcmp x.l y.l)) := by
    refine ⟨fun x => ?_, fun x y z a1 a2 => ?_, fun x y z a1 a2 => ?_⟩
    · show decide (lcmp x.l x.l < 0) = false
      rw [lcmp_self]; decide
    · unfold ltOf at *; exact decide_eq_true (lcmp_trans _ _ _ (of_decide_eq_true a1) (of_decide_eq_true a2))
    · unfold ltOf at *; exact decide_eq_false (lcmp_ntrans _ _ _ (of_decide_eq_false a1) (of_decide_eq_false a2))
  have h1c : ∀ x, ∀ v ∈ encP x, v.oneCell' = true := fun x => i8_one _
  have hH : HoldsK encP 12 w g 0 X.toArray := by
    intro j hj
    have hj' : j < (gcells X).length := by rw [gcells_length]; rw [size_flatK] at hj; simpa using hj
    refine ⟨?_, by simp [World.frozen?, hh]⟩
    rw [hu] at hown
    have h9 := hown.cells (g := g) rfl j _ (List.getElem?_eq_getElem hj')
    rw [Addr.add_lit] at h9
    rw [h9, getElem!_pos _ j hj]
    have e := flat_gcells X
    show some _ = some ((flatK encP 12 X.toArray)[j])
    rw [← Array.getElem_toList]
    simp only [e]
  have eg : ∀ args w, (callFunc 103 args).run Try.prog w = .ok (.enter 103 args) w := enters_of Try.func103 (by kernel_rfl) rfl
  have hcon := AnyQ.slices_SortFunc laysSP 12 agg24 siz24 encP encP_len h1c (fun x y => lcmp x.l y.l) hO 103 #[] g 0 cap X.toArray w eg hcmp hH hg (by simp; omega)
  have hsz : X.toArray.size = X.length := by simp
  rw [hsz] at hcon
  rw [hu]
  refine Calls.mono (show Calls Try.prog 102 _ _ _ from hcon) ?_
  rintro e w' ⟨rfl, d', k, os, hp, hso, rfl⟩
  have hds : d'.size = X.length := by rw [hp.1, hsz]
  have hperm : d'.toList.Perm X := by
    have h9 := hp.2.2
    have e1 : (d'.extract 0 X.length).toList = d'.toList := by rw [← hds]; simp
    have e2 : (X.toArray.extract 0 X.length).toList = X := by rw [← hsz]; simp
    rw [e1, e2] at h9
    exact h9
  have hf : (flatK encP 12 d').toList = gcells d'.toList := by have := flat_gcells d'.toList; rw [Array.toArray_toList] at this; exact this
  refine ⟨rfl, d'.toList, ⟨hperm, ?_⟩, ?_, ?_⟩
  · rw [List.pairwise_iff_getElem]
    intro i j hi hj hij
    have hi' : i < d'.size := by simpa using hi
    have hj' : j < d'.size := by simpa using hj
    have h9 := hso i j (Nat.zero_le _) hij (by omega)
    rw [getElem!_pos d' i hi', getElem!_pos d' j hj'] at h9
    unfold ltOf at h9
    exact Int.not_lt.1 (of_decide_eq_false h9)
  · have hlen : d'.toList.length = X.length := by simp [hds]
    rw [hlen]
    refine ⟨by rw [gcells_length, hlen], Or.inr ⟨g, cap, putCells id 0 (flatK encP 12 d') cur, rfl, hgb, swk_row w g k d' os hh, hc1, hc2, ?_, ?_⟩⟩
    · rw [← hcs]; simp [putCells]
    · rw [← hf, ← hds, ← size_flatK encP 12 d']
      exact putk_take _ cur (by rw [size_flatK, hds, hcs]; exact Nat.mul_le_mul_right _ hc1)
  · refine ⟨rfl, rfl, rfl, ?_, fun b hb => swk_block w g k d' os (by omega) (by omega)⟩
    unfold sortWorldK putRowK grow putRow mapBlock Sort.ahead
    simp

end Go.Proofs.Ytimfoggjocajiaa

/- Lists of lists that a call makes, one list behind the other. -/
namespace Go.Proofs.Ytimfoggjocajiaa
open Go.RowKit

/-- A list of lists that the call owns, all its lists too. -/
structure LL (w : World) (base : Nat) (v : Value) (vs : List Value) (xss : List (List Int)) : Prop where
  row : w.ownsRow base 23 1 v vs.length vs
  all : OwnAll w base vs xss

theorem LL.nil (w : World) (base : Nat) : LL w base (.slice none 0 0) [] [] := ⟨World.ownsRow_nil _ _ _ _, trivial⟩

theorem LL.len {w : World} {base : Nat} {v : Value} {vs : List Value} {xss : List (List Int)} (h : LL w base v vs xss) : vs.length = xss.length := OwnAll.length h.all

theorem LL.ints {w : World} {base : Nat} {v : Value} {vs : List Value} {xss : List (List Int)} (h : LL w base v vs xss) : IntsAll w v xss := IntsAll.own h.row h.all

theorem LL.below {w w' : World} {base : Nat} {v : Value} {vs : List Value} {xss : List (List Int)} (h : LL w base v vs xss) (hb : Below w.heap.size w w') : LL w' base v vs xss :=
  ⟨owns_below h.row hb (Nat.le_refl _), h.all.mono (fun _ _ _ h' => owns_below h' hb (Nat.le_refl _))⟩

theorem LL.low {w : World} {base base' : Nat} {v : Value} {vs : List Value} {xss : List (List Int)} (h : LL w base v vs xss) (hb : base' ≤ base) : LL w base' v vs xss := by
  refine ⟨owns_base h.row hb, ?_⟩
  have ha := h.all
  clear h
  induction vs generalizing xss with
  | nil => cases xss with
    | nil => trivial
    | cons x xs => exact ha.elim
  | cons u us ih => cases xss with
    | nil => exact ha.elim
    | cons x xs => exact ⟨owns_base ha.1 hb, ih ha.2⟩

theorem LL.at {w : World} {base : Nat} {v : Value} {vs : List Value} {xss : List (List Int)} (h : LL w base v vs xss) {k : Nat} (hk : k < xss.length) : w.ownsRow base 3 1 (vs.getD k undef) (xss.getD k []).length ((xss.getD k []).map (Value.int .i64)) :=
  ownAll_at h.all (by rw [h.len]; exact hk)

theorem LL.push {w w4 : World} {base : Nat} {v v' u : Value} {vs : List Value} {xss : List (List Int)} {X : List Int} {o : Obj} (h : LL w base v vs xss) (hu : w.ownsRow base 3 1 u X.length (X.map (Value.int .i64)))
    (hown : w4.ownsRow base 23 1 v' (vs.length + 1) (vs ++ [u])) (hg : (w.alloc o).grownBy w4 v.ownBlock) : LL w4 base v' (vs ++ [u]) (xss ++ [X]) :=
  ⟨by rw [List.length_append]; exact hown, OwnAll.snoc (owns_kept_ty (hu.alloc o) (h.row.alloc o) hg) (h.all.mono (fun _ _ _ h' => owns_kept_ty (h'.alloc o) (h.row.alloc o) hg))⟩

theorem LL.kept {w w4 : World} {base n : Nat} {v u : Value} {vs ys : List Value} {xss : List (List Int)} {o : Obj} (h : LL w base v vs xss) (hu : w.ownsRow base 3 1 u n ys) (hg : (w.alloc o).grownBy w4 v.ownBlock) : w4.ownsRow base 3 1 u n ys :=
  owns_kept_ty (hu.alloc o) (h.row.alloc o) hg

theorem LL.step {w0 w w4 : World} {base B : Nat} {v : Value} {vs : List Value} {xss : List (List Int)} {o : Obj} (h : LL w base v vs xss) (hB : Below B w0 w) (hb : B ≤ base) (hs : B ≤ w.heap.size) (hg : (w.alloc o).grownBy w4 v.ownBlock) : Below B w0 w4 :=
  (hB.alloc hs _).grown hg (by simp; omega) (fun g hg' => Nat.le_trans hb (h.row.lt g hg').1)

/-- The list of one list. -/
theorem LL.one {w : World} {base : Nat} {u : Value} {X : List Int} (hu : w.ownsRow base 3 1 u X.length (X.map (Value.int .i64))) (hb : base ≤ w.heap.size) : LL (w.alloc (.cells #[u] 23)) base (.slice (some ⟨w.heap.size, 0, none⟩) 1 1) [u] [X] :=
  ⟨World.ownsRow_lit w #[u] 1 hb (by unfold maxLen; omega) rfl, ⟨hu.alloc _, trivial⟩⟩

theorem LL.set {w : World} {base b j : Nat} {v x : Value} {vs : List Value} {xss : List (List Int)} (h : LL w base v vs xss) (hb : b < base) : LL (w.setCell ⟨b, j, none⟩ x) base v vs xss :=
  ⟨ownsRow_setCell_below h.row (by exact hb) _, h.all.mono (fun _ _ _ h' => ownsRow_setCell_below h' (by exact hb) _)⟩

end Go.Proofs.Ytimfoggjocajiaa

/- Contract: a group's Elements. -/
namespace Go.Proofs.Ytimfoggjocajiaa
open Go.RowKit

theorem made_rows (n : Nat) : (madeCells #[Value.slice none 0 0] n).toList = List.replicate n (.slice none 0 0) := by
  apply List.ext_getElem
  · simp [madeCells]
  · intro i h1 h2
    simp [madeCells, Nat.mod_one]

/-- The elements ahead of i are laid. -/
structure ElR (w3 wr : World) (n N : Nat) (X : List Pm) (i : Nat) (vs : List Value) : Prop where
  row : wr.ownsRow w3.heap.size 23 1 (.slice (some ⟨w3.heap.size, 0, none⟩) N N) N (vs ++ List.replicate (N - i) (.slice none 0 0))
  len : vs.length = i
  all : OwnAll wr (w3.heap.size + 1) vs ((X.take i).map (cut n))
  below : Below w3.heap.size w3 wr

theorem set_at {α : Type} (z v : α) (k : Nat) : ∀ (vs : List α), (vs ++ List.replicate (k + 1) z).set vs.length v = (vs ++ [v]) ++ List.replicate k z
  | [] => rfl
  | a :: vs => by
    show a :: (vs ++ List.replicate (k + 1) z).set vs.length v = _
    rw [set_at z v k vs]; rfl

theorem ElR.step {w3 wr w7 : World} {n N i : Nat} {X : List Pm} {vs : List Value} {p : Pm} {v : Value} (h : ElR w3 wr n N X i vs) (hi : i < N) (h12 : n ≤ 12) (hp : X[i]? = some p) (hb : Below wr.heap.size wr w7) (ho : w7.ownsRow wr.heap.size 3 1 v n ((cut n p).map (Value.int .i64))) : ElR w3 (w7.setCell ⟨w3.heap.size, i, none⟩ v) n N X (i + 1) (vs ++ [v]) := by
  have h2 := owns_below h.row hb (Nat.le_refl _)
  have hwr : w3.heap.size + 1 ≤ wr.heap.size := (h.row.lt w3.heap.size rfl).2
  have hk : ∀ u m xs, w7.ownsRow (w3.heap.size + 1) 3 1 u m xs → (w7.setCell ⟨w3.heap.size, i, none⟩ v).ownsRow (w3.heap.size + 1) 3 1 u m xs := fun u m xs hu => ownsRow_setCell_below hu (by exact Nat.lt_succ_self _) _
  refine ⟨?_, by rw [List.length_append, h.len]; rfl, ?_, (h.below.trans (hb.mono h.below.size)).setCell (Nat.le_refl _) _⟩
  · have h3 := owns_set (m := i) h2 v
    rw [show N - i = (N - (i + 1)) + 1 from by omega] at h3
    have e := set_at (Value.slice none 0 0) v (N - (i + 1)) vs
    rw [h.len] at e
    rw [e] at h3
    exact h3
  · rw [List.take_add_one, hp, List.map_append]
    refine OwnAll.snoc ?_ (h.all.mono (fun u m xs hu => hk u m xs (owns_below hu hb (Nat.le_refl _))))
    rw [cut_length h12]
    refine hk _ _ _ ?_
    rcases ho with ⟨h4, h5⟩
    refine ⟨h4, ?_⟩
    rcases h5 with h5 | ⟨g, cap, cur, hv, hg, r⟩
    · exact Or.inl h5
    · exact Or.inr ⟨g, cap, cur, hv, by omega, r⟩

theorem ownsE_low {w : World} {base base' e size n : Nat} {v : Value} {xs : List Value} (h : w.ownsRow base e size v n xs) (hb : base' ≤ base) : w.ownsRow base' e size v n xs := by
  rcases h with ⟨h4, h5⟩
  refine ⟨h4, ?_⟩
  rcases h5 with h5 | ⟨g, cap, cur, hv, hg, r⟩
  · exact Or.inl h5
  · exact Or.inr ⟨g, cap, cur, hv, Nat.le_trans hb hg, r⟩

theorem row_cellE {w : World} {base e g n cap j : Nat} {vs : List Value} (h : w.ownsRow base e 1 (.slice (some ⟨g, 0, none⟩) n cap) n vs) (hj : j < n) : (∃ u, w.cell? ⟨g, j, none⟩ = some u) ∧ w.frozen? ⟨g, j, none⟩ = false := by
  have hl : j < vs.length := by rw [h.1]; omega
  have h9 := h.cells (g := g) rfl j _ (List.getElem?_eq_getElem hl)
  rw [Addr.add_lit, Nat.zero_add] at h9
  refine ⟨⟨_, h9⟩, ?_⟩
  rcases h.2 with ⟨h0, _⟩ | ⟨g', cap', cur, hv, hg, hh, r⟩
  · cases h0
  · cases hv
    simp [World.frozen?, hh]

/-- All rows of a group, in order, as a list of rows that the call owns. -/
def ElPost (n : Nat) (gs : List Pm) (w : World) (e : Ending) (w' : World) : Prop :=
  Below w.heap.size w w' ∧ if 5040 < sz (Gen (fun y => y ∈ gs)) n then e = .returned (.tuple #[.slice none 0 0, .int .i64 3]) else
    ∃ (v : Value) (vs : List Value) (X : List Pm), e = .returned (.tuple #[v, .int .i64 0]) ∧ X.length = sz (Gen (fun y => y ∈ gs)) n ∧ X.Nodup ∧ (∀ x, x ∈ X ↔ Gen (fun y => y ∈ gs) x) ∧ X.Pairwise (fun a b => 0 ≤ lcmp b.l a.l) ∧ LL w' w.heap.size v vs (X.map (cut n))

set_option maxRecDepth 20000 in
set_option maxHeartbeats 4000000 in
theorem elements_ok (n : Nat) (v : Value) (gs : List Pm) (w : World) (h12 : n ≤ 12) (hG : GroupAt w v n gs) :
    Calls Try.prog 56 #[v] w fun e w' => ElPost n gs w e w' := by
  have HS := hide (gsize_ok n v gs w h12 hG)
  obtain ⟨g1, vg1, B1, c1, bs1, C1, st1, rfl, hg1, a10, a11, a12, hP1, hC1, hb1, rfl⟩ := hG
  have HAll := hide (fun W hb => all_ok hC1 h12 hb1 W hb)
  have hlen : (allC C1).length = sz (Gen (fun y => y ∈ gs)) n := by rw [allC_len, hC1.sz h12]
  have HND := hide (allC_nodup C1 hC1.whole)
  have HME : Hid (∀ x, x ∈ allC C1 ↔ Gen (fun y => y ∈ gs) x) := fun x => (mem_allC C1 x).trans (hC1.gen x)
  have HPO := hide (tabs_pos C1 hC1.whole)
  have HSZ : Hid (tabs C1 = sz (Gen (fun y => y ∈ gs)) n) := hC1.sz h12
  have HLE := hide hlen
  unfold ElPost
  generalize sz (Gen (fun y => y ∈ gs)) n = S at *
  clear hP1 hC1 hb1 hlen
  obtain ⟨i0, hi, hz0, hz1, hz2⟩ := info_parts Try.info23
  by_cases hbig : 5040 < S
  · simp only [if_pos hbig]
    go_enter Try.func56, Try.ntmps56
    go_wp2_with fail
    refine HS.out.mono ?_
    rintro e w1 ⟨rfl, hbw1⟩
    go_wp2
    go_ret2
    exact ⟨hbw1, rfl⟩
  · simp only [if_neg hbig]
    go_enter Try.func56, Try.ntmps56
    go_wp2_with fail
    refine HS.out.mono ?_
    rintro e w1 ⟨rfl, hbw1⟩
    have b12 : w1.cell? ⟨g1, 2, none⟩ = some (.slice (some ⟨c1, 0, none⟩) n n) := (hbw1.cell (p := ⟨g1, 2, none⟩) hg1).trans a12
    go_wp2_with fail
    refine (HAll.out w1 hbw1).mono ?_
    rintro e w2 ⟨vr, rfl, hR⟩
    have hrl : 1 ≤ (allC C1).length := by rw [HLE.out, ← HSZ.out]; exact HPO.out
    have hSrt := gsort_ok w1.heap.size vr (allC C1) w2 hR.own hrl (by rw [HLE.out]; omega)
    have HSrt := hide hSrt
    have HB2 := hide hR.below
    clear hSrt hR
    go_wp2_with fail
    refine HSrt.out.mono ?_
    rintro e w3 ⟨rfl, X, ⟨hperm, hpw⟩, hown3, hb3⟩
    have hXl : X.length = S := by rw [hperm.length_eq]; exact HLE.out
    have hR3 : AllR w1 w3 vr X := ⟨hown3, HB2.out.trans hb3⟩
    obtain ⟨rb, rc, erv, hrc1, hrc2, hrb1, hrb2⟩ := hR3.form (by rw [hperm.length_eq]; exact hrl)
    subst erv
    have HR3 := hide hR3
    have HPM := hide hperm
    have HPW := hide hpw
    have hB13 := hR3.below
    rw [hXl] at hrc1
    have hS1 : 1 ≤ S := by rw [← hXl, hperm.length_eq]; exact hrl
    have HXL := hide hXl
    rw [hXl] at HR3 ⊢
    clear hR3 hperm hpw hown3 hb3 hXl hrl HSrt HB2
    go_wp2_with (at_make; refine wpList_make_full _ rfl _ _ 22 rfl w3.heap.size 23 i0 (.slice none 0 0) 1 Try.underlying22 hi hz0 hz1 _ _ _ _ S rfl rfl (by omega) (by omega) ?b2 ?b3 ?b4 ?_)
    case b2 => rw [hz2]; omega
    case b3 => unfold maxLen; omega
    case b4 => simp
    intro w4 hown4 hgrow4
    rw [made_rows] at hown4
    have hB34 : Below w3.heap.size w3 w4 := (Below.refl _ _).grown hgrow4 (Nat.le_refl _) (fun k h => by cases h)
    have HE0 : Hid (ElR w3 w4 n S X 0 []) := ⟨hown4, rfl, trivial, hB34⟩
    have hw13 : w.heap.size ≤ w3.heap.size := Nat.le_trans hbw1.size hB13.size
    have b10 : w3.cell? ⟨g1, 0, none⟩ = some (.int .i64 (n : Int)) := ((hB13.cell (p := ⟨g1, 0, none⟩) (Nat.lt_of_lt_of_le hg1 hbw1.size)).trans (hbw1.cell (p := ⟨g1, 0, none⟩) hg1)).trans a10
    have hg13 : g1 < w3.heap.size := Nat.lt_of_lt_of_le hg1 hw13
    have HBW : Hid (Below w.heap.size w w3) := hbw1.trans (hB13.mono hbw1.size)
    have HUP := hide (fun (p : Pm) W => unpack_ok p n W h12)
    unfold pv at HUP
    clear hown4 hgrow4 hB34 hB13 a10 a11 a12 b12 hbw1 hi hz0 hz1 hz2 HS HAll
    go_wp2
    go_loopw [23] (fun si wr => ∃ (i : Nat) (vs : List Value), i ≤ S ∧ si = .int .i64 i ∧ ElR w3 wr n S X i vs) (fun si _ => S - (intOf si).toNat)
    case atStart => exact ⟨0, [], Nat.zero_le _, rfl, HE0.out⟩
    case round =>
      obtain ⟨i, vs, hi, rfl, hE⟩ := hrel
      by_cases hlt : i < S
      · obtain ⟨p, hp⟩ : ∃ p, X[i]? = some p := ⟨_, List.getElem?_eq_getElem (by rw [HXL.out]; exact hlt)⟩
        have hrange : wr.rangeAt rb (i * 12) (p.l.map (Value.int .i8)) := (HR3.out.later hE.below).at hp
        have hin : (Try.prog.info? 91).map (·.size) = some (p.l.map (Value.int .i8)).length := by rw [List.length_map, p.len]; exact Try.size91
        have hpl := p.len
        have HE := hide hE
        have HP := hide hp
        have hcg : wr.cell? ⟨g1, 0, none⟩ = some (.int .i64 (n : Int)) := (hE.below.cell (p := ⟨g1, 0, none⟩) hg13).trans b10
        have hsz := hE.below.size
        have hszE := (hE.row.lt w3.heap.size rfl).2
        have HW6 : Hid (∀ (o : Obj) (w6 : World), (wr.alloc o).grownBy w6 (some wr.heap.size) → Hid (w6.cell? ⟨g1, 0, none⟩ = some (.int .i64 (n : Int))) ∧ Hid (Below wr.heap.size wr w6)) := fun o w6 hg6 => by
          have hb6 : Below wr.heap.size wr w6 := ((Below.refl _ _).alloc (Nat.le_refl _) _).grown hg6 (by simp) (fun k h => by have := Option.some.inj h; omega)
          exact ⟨(hb6.cell (p := ⟨g1, 0, none⟩) (by show g1 < wr.heap.size; omega)).trans hcg, hb6⟩
        clear hE hp
        go_wp2_with (first
          | refine wpList_load_mid rfl 91 _ rfl rb _ rfl _ _ hrange Try.underlying91 rfl hin ?_
          | (refine wpList_store_arr rfl _ _ rfl wr.heap.size zeros12 p.l (zeros_new wr) rfl rfl hpl ?_; intro w6 hX6 hg6; obtain ⟨HC6, HB6⟩ := HW6.out _ w6 hg6; clear hg6))
        have hc6 := HC6.out
        refine wp_region_held_drew (S := fun W' => Arr W' wr.heap.size p.l ∧ W'.cell? ⟨g1, 0, none⟩ = some (.int .i64 (n : Int))) (by kernel_rfl) ⟨hX6, hc6⟩ (fun hS => ?_)
        refine wpAnyH_take (i := 0) (v := .slice (some ⟨w3.heap.size, 0, none⟩) S S) rfl (by kernel_rfl) (by kernel_rfl) (by kernel_rfl) (fun _ _ _ h => h) (Or.inl ⟨by kernel_rfl, fun w' hS' => by clear hS'; go_simp⟩) hS ?_
        refine wpAnyH_take (i := 1) (v := .int .i64 (i : Int)) rfl (by kernel_rfl) (by kernel_rfl) (by kernel_rfl) (fun _ _ _ h => h) (Or.inl ⟨by kernel_rfl, fun w' hS' => by clear hS'; go_simp⟩) hS ?_
        refine wpAnyH_take (i := 2) rfl (by kernel_rfl) (by kernel_rfl) (by kernel_rfl) (fun _ _ _ h => h) (yieldsIf_load_mid (by rfl) _ _ rfl wr.heap.size 0 rfl (p.l.map (Value.int .i8)) _ (fun w' h => Arr.range h.1) Try.underlying91 rfl hin) hS ?_
        refine wpAnyH_take (i := 3) (v := .pointer (some ⟨g1, 0, none⟩)) rfl (by kernel_rfl) (by kernel_rfl) (by kernel_rfl) (fun _ _ _ h => h) (Or.inl ⟨by kernel_rfl, fun w' hS' => by clear hS'; go_simp⟩) hS ?_
        refine wpAnyH_take (i := 4) (v := .pointer (some ⟨g1, 0, none⟩)) rfl (by kernel_rfl) (by kernel_rfl) (by kernel_rfl) (fun _ _ _ h => h) (Or.inl ⟨by kernel_rfl, fun w' hS' => by clear hS'; go_simp⟩) hS ?_
        refine wpAnyH_take (i := 5) (v := .pointer (some ⟨g1, 0, none⟩)) rfl (by kernel_rfl) (by kernel_rfl) (by kernel_rfl) (fun _ _ _ h => h) (Or.inl ⟨by kernel_rfl, fun w' hS' => by clear hS'; go_simp⟩) hS ?_
        refine wpAnyH_take (i := 6) (v := .int .i64 (n : Int)) rfl (by kernel_rfl) (by kernel_rfl) (by kernel_rfl) (fun _ _ _ h => h) (Or.inl ⟨by kernel_rfl, fun w' hS' => by have h2 := hS'.2; clear hS'; go_simp⟩) hS ?_
        refine wpAnyH_ready (rs := [7]) (by kernel_rfl) (by simp) ?_
        refine AllReadyH.cons rfl (fun K hK => ?_) AllReadyH.nil
        go_simp
        refine (HUP.out p w6.drew).mono ?_
        rintro e w7 ⟨v7, rfl, hown7, hb7⟩
        replace hb7 := undrew hb7
        have hb67 : Below wr.heap.size wr w7 := HB6.out.trans (hb7.mono HB6.out.size)
        have hs7 : Arr w7 wr.heap.size p.l ∧ w7.cell? ⟨g1, 0, none⟩ = some (.int .i64 (n : Int)) := ⟨hX6.below hb7 hX6.lt, (hb67.cell (p := ⟨g1, 0, none⟩) (by show g1 < wr.heap.size; omega)).trans hcg⟩
        refine hK.out _ _ hs7 (fun hS => ?_)
        clear hK
        have hst := HE.out.step hlt h12 HP.out hb67 (ownsE_low hown7 (HB6.out.size))
        obtain ⟨⟨u0, hu0⟩, hfz⟩ := row_cellE (owns_below HE.out.row hb67 (Nat.le_refl _)) hlt
        obtain ⟨vp, vc, ev7⟩ := owns_slice hown7
        subst ev7
        have HST := hide hst
        clear hst hown7
        refine wpAnyH_take (i := 8) (v := .pointer (some ⟨w3.heap.size, i, none⟩)) rfl (by kernel_rfl) (by kernel_rfl) (by kernel_rfl) (fun _ _ _ h => h) (Or.inl ⟨by kernel_rfl, fun w' hS' => by clear hS'; go_simp⟩) hS ?_
        refine wpAnyH_ready (rs := [9]) (by kernel_rfl) (by simp) ?_
        refine AllReadyH.cons rfl (fun K hK => ?_) AllReadyH.nil
        go_simp
        have hs8 : Arr (w7.setCell ⟨w3.heap.size, i, none⟩ (.slice vp n vc)) wr.heap.size p.l ∧ (w7.setCell ⟨w3.heap.size, i, none⟩ (.slice vp n vc)).cell? ⟨g1, 0, none⟩ = some (.int .i64 (n : Int)) :=
          ⟨hs7.1.set_other (by omega) _, (((Below.refl w3.heap.size w7).setCell (Nat.le_refl _) _).cell (p := ⟨g1, 0, none⟩) hg13).trans hs7.2⟩
        refine hK.out _ _ hs8 (fun _ => ?_)
        clear hK
        refine wpAnyH_done (by kernel_rfl) ?_ _
        go_wp2
        go_roundw
        case rel =>
          have hfin : ∃ (i' : Nat) (vs : List Value), i' ≤ S ∧ Value.int .i64 ((i : Int) + 1) = .int .i64 (i' : Int) ∧ ElR w3 (w7.setCell ⟨w3.heap.size, i, none⟩ (.slice vp n vc)) n S X i' vs := ⟨i + 1, _, hlt, by go_num, HST.out⟩
          first
            | exact hfin
            | ((repeat apply Exists.intro); exact ⟨hfin, rfl⟩)
        case measure => simp [intOf]; omega
      · obtain rfl : i = S := by omega
        have hLL : LL wr w.heap.size (.slice (some ⟨w3.heap.size, 0, none⟩) i i) vs (X.map (cut n)) := by
          have h1 := hE.row
          have h2 := hE.all
          rw [Nat.sub_self, List.replicate_zero, List.append_nil] at h1
          rw [List.take_of_length_le (by rw [HXL.out]; exact Nat.le_refl _)] at h2
          refine ⟨?_, OwnAll.low (Nat.le_succ_of_le hw13) h2⟩
          have h3 := ownsE_low h1 hw13
          rw [← hE.len] at h3 ⊢
          exact h3
        have hB : Below w.heap.size w wr := HBW.out.trans (hE.below.mono hw13)
        have HLL := hide hLL
        have HBB := hide hB
        clear hE hLL hB
        go_wp2
        go_ret2
        exact ⟨HBB.out, _, vs, X, rfl, HXL.out, (HPM.out.nodup_iff).2 HND.out, fun x => (HPM.out.mem_iff).trans (HME.out x), HPW.out, HLL.out⟩
end Go.Proofs.Ytimfoggjocajiaa

/- Contract: a group's orbit, Orbits. -/
namespace Go.Proofs.Ytimfoggjocajiaa
open Go.RowKit

def natI (O : List Nat) : List Int := O.map (fun (k : Nat) => (k : Int))

theorem natI_mem (O : List Nat) (b : Nat) : ((b : Nat) : Int) ∈ natI O ↔ b ∈ O := by
  unfold natI
  rw [List.mem_map]
  exact ⟨fun ⟨a, ha, e⟩ => by have := Int.ofNat.inj e; rw [← this]; exact ha, fun h => ⟨b, h, rfl⟩⟩

/-- Bells that a call has gathered since w. -/
structure ObR (w wr : World) (v : Value) (O : List Nat) : Prop where
  own : wr.ownsRow w.heap.size 3 1 v O.length ((natI O).map (Value.int .i64))
  below : Below w.heap.size w wr

theorem ObR.later {w wr w' : World} {v : Value} {O : List Nat} (h : ObR w wr v O) (hb : Below wr.heap.size wr w') : ObR w w' v O :=
  ⟨owns_below h.own hb (Nat.le_refl _), h.below.trans (hb.mono h.below.size)⟩

theorem ObR.push {w wr w' : World} {v v' : Value} {O : List Nat} {b : Nat} (h : ObR w wr v O) (ho : w'.ownsRow w.heap.size 3 1 v' (O.length + 1) ((natI O).map (Value.int .i64) ++ [.int .i64 (b : Int)])) (hg : wr.grownBy w' v.ownBlock) : ObR w w' v' (O ++ [b]) :=
  ⟨by unfold natI at *; rw [List.length_append, List.map_append, List.map_append]; exact ho, h.below.grown hg h.below.size (fun k hk => (h.own.lt k hk).1)⟩

theorem ObR.form {w wr : World} {v : Value} {O : List Nat} (h : ObR w wr v O) (hn : 1 ≤ O.length) : ∃ b cap, v = .slice (some ⟨b, 0, none⟩) O.length cap ∧ O.length ≤ cap ∧ cap ≤ 9223372036854775807 ∧ b < wr.heap.size ∧ w.heap.size ≤ b := by
  obtain ⟨b, cap, e, h1, h2, h3, h4⟩ := owns_form h.own hn
  exact ⟨b, cap, e, h3, h4, h2, h1⟩

theorem ObR.at {w wr : World} {b cap m : Nat} {O : List Nat} (h : ObR w wr (.slice (some ⟨b, 0, none⟩) m cap) O) {i c : Nat} (hi : O[i]? = some c) : wr.cell? ⟨b, i, none⟩ = some (.int .i64 (c : Int)) := by
  have := h.own.cells (g := b) rfl i (.int .i64 (c : Int)) (by unfold natI; rw [List.getElem?_map, List.getElem?_map, hi]; rfl)
  rw [Addr.add_lit, Nat.zero_add] at this
  exact this

theorem act_below {n : Nat} {s : Pm} (h : Fixes (fun b => n ≤ b) s) {c : Nat} (hc : c < n) : s.act c < n := by
  by_cases h' : s.act c < n
  · exact h'
  · have := h (s.act c) (by show n ≤ s.act c; omega)
    have e := s.act_inj this
    omega

theorem natI_to (O : List Nat) : (natI O).map Int.toNat = O := by
  unfold natI; rw [List.map_map]
  exact List.map_id' O

theorem sort_nat (O : List Nat) (hnd : O.Nodup) : ∃ L : List Nat, natI L = (natI O).mergeSort (fun x y => decide (x ≤ y)) ∧ L.Perm O ∧ L.Pairwise (· < ·) := by
  have hp : ((natI O).mergeSort (fun x y => decide (x ≤ y))).Perm (natI O) := List.mergeSort_perm _ _
  have hs : ((natI O).mergeSort (fun x y => decide (x ≤ y))).Pairwise (fun x y => decide (x ≤ y) = true) :=
    List.pairwise_mergeSort (le := fun x y : Int => decide (x ≤ y)) (fun a b c h1 h2 => decide_eq_true (Int.le_trans (of_decide_eq_true h1) (of_decide_eq_true h2))) (fun a b => by simp; exact Int.le_total a b) _
  generalize (natI O).mergeSort (fun x y => decide (x ≤ y)) = ms at *
  have hpos : ∀ x, x ∈ ms → 0 ≤ x := fun x hx => by
    have := hp.mem_iff.1 hx
    unfold natI at this
    obtain ⟨k, _, rfl⟩ := List.mem_map.1 this
    omega
  have hLp : (ms.map Int.toNat).Perm O := by
    have := hp.map Int.toNat
    rwa [natI_to] at this
  refine ⟨ms.map Int.toNat, ?_, hLp, ?_⟩
  · unfold natI
    rw [List.map_map]
    conv => rhs; rw [← List.map_id ms]
    refine List.map_congr_left (fun x hx => ?_)
    have := hpos x hx
    show ((x.toNat : Nat) : Int) = x
    omega
  · have hnl := hLp.nodup_iff.2 hnd
    have h1 : (ms.map Int.toNat).Pairwise (fun a b => a ≤ b) := by
      rw [List.pairwise_map]
      exact hs.imp (fun {a b} h => by have := of_decide_eq_true h; omega)
    refine (h1.and hnl).imp (fun {a b} h => ?_)
    have := h.1
    have := h.2
    omega

/-- A bell's orbit, in order. -/
structure OrbL (gs : List Pm) (n a : Nat) (L : List Nat) : Prop where
  sorted : L.Pairwise (· < ·)
  lt : ∀ b, b ∈ L → b < n
  mem : ∀ b, b ∈ L ↔ Reach gs a b

set_option maxRecDepth 20000 in
set_option maxHeartbeats 4000000 in
theorem orbit_ok (n a : Nat) (v : Value) (gs : List Pm) (w : World) (h12 : n ≤ 12) (ha : a < n) (hG : GroupAt w v n gs) :
    Calls Try.prog 99 #[v, .int .i64 (a : Int)] w fun e w' => ∃ (u : Value) (L : List Nat), e = .returned u ∧ OrbL gs n a L ∧ ObR w w' u L := by
  obtain ⟨g1, vg1, B1, c1, bs1, C1, st1, rfl, hg1, a10, a11, a12, hP1, hC1, hb1, rfl⟩ := hG
  obtain ⟨i0, hi, hz0, hz1, hz2⟩ := info_parts Try.info3
  obtain ⟨pp, pcap, rfl⟩ := hP1.form
  have HFX : Hid (∀ s, s ∈ gs → Fixes (fun b => n ≤ b) s) := fun s hs => prd_fix hC1.whole ((hC1.gen s).2 (Gen.of hs))
  have HP := hide hP1
  have hgl : gs.length ≤ 9223372036854775807 := by
    rcases hP1 with ⟨e, _⟩ | ⟨_, _, _, _, _, h1, h2, _⟩
    · rw [e]; simp
    · omega
  have HO0 : Hid (ObR w (w.alloc (.cells #[.int .i64 (a : Int)] 3)) (.slice (some ⟨w.heap.size, 0, none⟩) 1 1) [a]) := ⟨one_owned w (a : Int), (Below.refl _ _).alloc (Nat.le_refl _) _⟩
  clear hP1 hC1 hb1 a10 a12
  go_enter Try.func99, Try.ntmps99
  go_wp2
  go_loopw [5, 6] (fun so si wr => ∃ (i : Nat) (u : Value) (O : List Nat), i ≤ O.length ∧ so = u ∧ si = .int .i64 i ∧ OrbIn gs n a O i 0 ∧ ObR w wr u O) (fun _ si _ => n - (intOf si).toNat)
  case atStart => exact ⟨0, _, [a], Nat.zero_le _, rfl, rfl, OrbIn.start gs ha, HO0.out⟩
  case round =>
    obtain ⟨i, u, O, hi', rfl, rfl, hO, hR⟩ := hrel
    have hOn := hO.len
    have hO1 : 1 ≤ O.length := List.length_pos_of_mem hO.fst
    obtain ⟨ob, oc, eo, ho1, ho2, ho3, ho4⟩ := hR.form hO1
    by_cases hlt : i < O.length
    · have hc1 : wr.cell? ⟨g1, 1, none⟩ = some (.slice pp gs.length pcap) := (hR.below.cell (p := ⟨g1, 1, none⟩) hg1).trans a11
      have HO := hide hO
      have HR := hide hR
      obtain ⟨wo, hwo⟩ : ∃ wo, wo = wr := ⟨_, rfl⟩
      subst hwo
      clear hO hR
      subst eo
      generalize hom : O.length = om at *
      have HOM := hide hom
      clear hom
      go_wp2
      go_loopw [5, 23] (fun so sj wi => ∃ (j : Nat) (u : Value) (O' : List Nat), j ≤ gs.length ∧ i < O'.length ∧ so = u ∧ sj = .int .i64 j ∧ OrbIn gs n a O' i j ∧ ObR w wi u O') (fun _ sj _ => gs.length - (intOf sj).toNat)
      case atStart => exact ⟨0, _, O, Nat.zero_le _, by rw [HOM.out]; exact hlt, rfl, rfl, HO.out, HR.out⟩
      case round =>
        obtain ⟨j, u2, O2, hj, hiO, rfl, rfl, hO2, hR2⟩ := hrel
        have hO2n := hO2.len
        have hO21 : 1 ≤ O2.length := List.length_pos_of_mem hO2.fst
        obtain ⟨b2, cc2, e2, p1, p2, p3, p4⟩ := hR2.form hO21
        by_cases hjt : j < gs.length
        · obtain ⟨s, hs⟩ : ∃ s, gs[j]? = some s := ⟨_, List.getElem?_eq_getElem hjt⟩
          obtain ⟨c, hc⟩ : ∃ c, O2[i]? = some c := ⟨_, List.getElem?_eq_getElem hiO⟩
          have hcn : c < n := hO2.lt c (List.mem_of_getElem? hc)
          have hsn : s.act c < n := act_below (HFX.out s (List.mem_of_getElem? hs)) hcn
          have hPk := HP.out.below hR2.below (Nat.le_refl _)
          obtain ⟨b, off, hpp, hrange, hpc⟩ : ∃ b off, pp = some ⟨b, off, none⟩ ∧ wr.rangeAt b (off + j * 12) (s.l.map (Value.int .i8)) ∧ gs.length ≤ pcap := by
            rcases hPk with ⟨e, _⟩ | ⟨b, off, cap, hv, _, hc, _, _, hr⟩
            · rw [e] at hjt; simp at hjt
            · injection hv with e1 _ e3
              exact ⟨b, off, e1, hr j s hs, by omega⟩
          have hin : (Try.prog.info? 91).map (·.size) = some (s.l.map (Value.int .i8)).length := by rw [List.length_map, s.len]; exact Try.size91
          have hsl := s.len
          rw [e2] at hR2
          have hcell := hR2.at hc
          have HW6 : Hid (∀ (o : Obj) (w6 : World), (wr.alloc o).grownBy w6 (some wr.heap.size) → Arr w6 wr.heap.size s.l → w6.cell? ⟨b2, i, none⟩ = some (.int .i64 (c : Int)) ∧ w6.cell? ⟨wr.heap.size, c, none⟩ = some (.int .i8 ((s.act c : Nat) : Int)) ∧ Hid (ObR w w6 (.slice (some ⟨b2, 0, none⟩) O2.length cc2) O2) ∧ Hid (Below wr.heap.size wr w6)) := fun o w6 hg6 hX6 => by
            have hb6 : Below wr.heap.size wr w6 := ((Below.refl _ _).alloc (Nat.le_refl _) _).grown hg6 (by simp) (fun k h => by have := Option.some.inj h; omega)
            refine ⟨(hb6.cell (p := ⟨b2, i, none⟩) p3).trans hcell, ?_, hR2.later hb6, hb6⟩
            have hcq := (hX6.cell (show c < 12 by omega)).1
            rw [s.getD_act (by omega)] at hcq
            exact hcq
          have HO2 := hide hO2
          have HS := hide hs
          have HCC := hide hc
          have hact12 : s.act c < 12 := by omega
          subst e2
          subst hpp
          clear hO2 hR2 hPk hs hc hcell
          generalize hom2 : O2.length = om2 at *
          have HOM2 := hide hom2
          clear hom2
          go_wp2_with (first
            | refine wpList_load_mid rfl 91 _ rfl b _ rfl _ _ hrange Try.underlying91 rfl hin ?_
            | (refine wpList_store_arr rfl _ _ rfl wr.heap.size zeros12 s.l (zeros_new wr) rfl rfl hsl ?_; intro w6 hX6 hg6; obtain ⟨hc6, hd6, HR6, HB6⟩ := HW6.out _ w6 hg6 hX6; clear hg6))
          have HCN := hide (contains_any _ (natI O2) ((s.act c : Nat) : Int) w6 (Ints.own HR6.out.own))
          by_cases hm : s.act c ∈ O2
          · rw [decide_eq_true ((natI_mem O2 (s.act c)).2 hm)] at HCN
            refine HCN.out.mono ?_
            rintro e w7 ⟨rfl, rfl⟩
            have hO3 := HO2.out.old HCC.out HS.out hm
            go_wp2
            go_roundw
            case rel =>
              have hfin : ∃ (j' : Nat) (u : Value) (O' : List Nat), j' ≤ gs.length ∧ i < O'.length ∧ Value.slice (some ⟨b2, 0, none⟩) om2 cc2 = u ∧ Value.int .i64 ((j : Int) + 1) = .int .i64 (j' : Int) ∧ OrbIn gs n a O' i j' ∧ ObR w w6 u O' := ⟨j + 1, _, O2, hjt, by rw [HOM2.out]; exact hiO, rfl, by go_num, hO3, HR6.out⟩
              first
                | exact hfin
                | ((repeat apply Exists.intro); exact ⟨hfin, rfl⟩)
            case measure => simp [intOf]; omega
          · rw [decide_eq_false (fun h => hm ((natI_mem O2 (s.act c)).1 h))] at HCN
            refine HCN.out.mono ?_
            rintro e w7 ⟨rfl, rfl⟩
            have hO3 := HO2.out.new HCC.out HS.out hm hsn
            have hown6 := HR6.out.own
            rw [HOM2.out] at hown6
            have hbs6 := HR6.out.below.size
            generalize s.act c = d at *
            go_wp2_with (at_builtin; refine wpList_append_own _ rfl _ _ 23 rfl w.heap.size 3 i0 (.int .i64 0) 1 8 Try.underlying23 hi hz0 hz1 hz2 rfl (by decide) _ _ _ rfl (hown6.alloc _) ⟨w6.heap.size, 0, none⟩ 1 1 [.int .i64 (d : Int)] rfl rfl ?c1 ?c2 ?c3 ?c4 ?c5 ?_)
            case c1 => exact cell_one_new _ _ _
            case c2 => intro u hu; simp at hu; subst hu; rfl
            case c3 => unfold maxLen; omega
            case c4 => omega
            case c5 => simp; omega
            intro v8 w8 hown8 hg8 _
            have hR6' : ObR w (w6.alloc (.cells #[.int .i64 (d : Int)] 3)) (.slice (some ⟨b2, 0, none⟩) om2 cc2) O2 := HR6.out.later ((Below.refl _ _).alloc (Nat.le_refl _) _)
            have hR8 := hR6'.push (b := d) (by rw [HOM2.out]; exact hown8) hg8
            have HR8 := hide hR8
            have HO3 := hide hO3
            clear hR6' hR8 hO3 hown8 hg8 hown6
            go_wp2
            go_roundw
            case rel =>
              have hfin : ∃ (j' : Nat) (u : Value) (O' : List Nat), j' ≤ gs.length ∧ i < O'.length ∧ v8 = u ∧ Value.int .i64 ((j : Int) + 1) = .int .i64 (j' : Int) ∧ OrbIn gs n a O' i j' ∧ ObR w w8 u O' := ⟨j + 1, _, O2 ++ [d], hjt, by rw [List.length_append, HOM2.out]; omega, rfl, by go_num, HO3.out, HR8.out⟩
              first
                | exact hfin
                | ((repeat apply Exists.intro); exact ⟨hfin, rfl⟩)
            case measure => simp [intOf]; omega
        · obtain rfl : j = gs.length := by omega
          have HO3 := hide hO2.next
          have HR3 := hide hR2
          clear hO2 hR2
          go_wp2
          go_roundw
          case rel =>
            have hfin : ∃ (i' : Nat) (u : Value) (O' : List Nat), i' ≤ O'.length ∧ u5 = u ∧ Value.int .i64 ((i : Int) + 1) = .int .i64 (i' : Int) ∧ OrbIn gs n a O' i' 0 ∧ ObR w wr u O' := ⟨i + 1, _, O2, hiO, rfl, by go_num, HO3.out, HR3.out⟩
            first
              | exact hfin
              | ((repeat apply Exists.intro); exact ⟨hfin, rfl⟩)
          case measure => simp [intOf]; omega
    · obtain rfl : i = O.length := by omega
      have HO := hide hO
      have HR := hide hR
      clear hO hR
      have hSo := sortI_ok w.heap.size _ (natI O) wr (by have := HR.out.own; unfold natI at *; rw [List.length_map]; exact this) (by unfold natI; rw [List.length_map]; exact hO1) (by unfold natI; rw [List.length_map]; omega)
      have HSo := hide hSo
      clear hSo
      subst eo
      go_wp2_with fail
      refine HSo.out.mono ?_
      rintro e w9 ⟨rfl, hown9, hb9⟩
      obtain ⟨L, eL, hLp, hLs⟩ := sort_nat O HO.out.nodup
      rw [← eL] at hown9
      have hR9 : ObR w w9 (.slice (some ⟨ob, 0, none⟩) O.length oc) L := ⟨by rw [hLp.length_eq]; unfold natI at *; rw [List.length_map] at hown9; exact hown9, HR.out.below.trans hb9⟩
      have hL : OrbL gs n a L := ⟨hLs, fun b hb => HO.out.lt b (hLp.mem_iff.1 hb), fun b => hLp.mem_iff.trans (HO.out.all b)⟩
      have HR9 := hide hR9
      have HL := hide hL
      clear hown9 hR9 hL eL hLp hLs hb9
      go_wp2
      go_ret
      exact ⟨_, L, rfl, HL.out, HR9.out⟩
end Go.Proofs.Ytimfoggjocajiaa
