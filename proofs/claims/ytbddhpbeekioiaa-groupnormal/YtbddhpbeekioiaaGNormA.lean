/- The walk of GroupNormal: it answers true at every input. -/
import Derived.Test.YtbddhpbeekioiaaGNormP
namespace Go.Proofs.Ytbddhpbeekioiaa
open Go.RowKit

theorem run_ptr_ne (a : Addr) (w : World) : (binOp BinOp.eql 53 (.pointer (some a)) (.pointer none)).run Try.prog w = .ok (.bool false) w := by kernel_rfl

/-- Rows that were made of raw numbers, in a later world. -/
structure Gens (w wr : World) (n m : Nat) (u : Value) (vs : List Value) (xss : List (List Int)) : Prop where
  row : wr.ownsRow w.heap.size 22 1 u m vs
  all : OwnAll wr w.heap.size vs xss
  len : vs.length = m
  rows : RowsN n xss

theorem Gens.later {w wr w' : World} {n m : Nat} {u : Value} {vs : List Value} {xss : List (List Int)} (h : Gens w wr n m u vs xss) (hb : Below wr.heap.size wr w') : Gens w w' n m u vs xss :=
  ⟨owns_below h.row hb (Nat.le_refl _), h.all.mono (fun _ _ _ h' => owns_below h' hb (Nat.le_refl _)), h.len, h.rows⟩

theorem Gens.made {w wa wr : World} {n m : Nat} {u : Value} {vs : List Value} {xss : List (List Int)} (h : RowsRel wa wr n m u vs xss) (hs : w.heap.size ≤ wa.heap.size) : Gens w wr n m u vs xss :=
  ⟨owns_base h.row hs, OwnAll.low hs h.all, h.len, h.rows⟩

theorem Gens.ints {w wr : World} {n m : Nat} {u : Value} {vs : List Value} {xss : List (List Int)} (h : Gens w wr n m u vs xss) : IntsAll wr u xss := by
  have hr := h.row
  rw [← h.len] at hr
  exact IntsAll.own hr h.all

theorem Gens.size {w wr : World} {n m : Nat} {u : Value} {vs : List Value} {xss : List (List Int)} (h : Gens w wr n m u vs xss) : xss.length = m := by rw [← OwnAll.length h.all]; exact h.len

def Told (w : World) (e : Ending) (w' : World) : Prop := e = .returned (.bool true) ∧ Below w.heap.size w w'

set_option maxRecDepth 20000 in
theorem gnorm_long (v : Value) (xs : List Int) (a1 a2 a3 : Int) (t : Bool) (w : World) (h : Ints w v xs) (hl : 256 < xs.length) :
    Calls Try.prog 6 #[v, .int .i64 a1, .int .i64 a2, .int .i64 a3, .bool t] w fun e w' => Told w e w' := by
  obtain ⟨p, c, rfl⟩ := h.form
  have hl' : (256 : Int) < (xs.length : Int) := by omega
  clear h
  go_enter Try.func6, Try.ntmps6
  go_wp2
  go_ret
  exact ⟨rfl, Below.refl _ _⟩

set_option maxRecDepth 20000 in
set_option maxHeartbeats 8000000 in
theorem gnorm_apart (v : Value) (xs : List Int) (a1 a2 a3 : Int) (w : World) (h : Ints w v xs) (hx : ∀ x, x ∈ xs → I64 x) (hl : xs.length ≤ 256) (i1 : I64 a1) (i2 : I64 a2) (i3 : I64 a3) :
    Calls Try.prog 6 #[v, .int .i64 a1, .int .i64 a2, .int .i64 a3, .bool true] w fun e w' => Told w e w' := by
  have HI := hide h
  have HX := hide hx
  obtain ⟨p, c, rfl⟩ := h.form
  obtain ⟨l1, r1⟩ := i1
  obtain ⟨l2, r2⟩ := i2
  obtain ⟨l3, r3⟩ := i3
  have q1 := run_ptr_ne
  have hl' : ¬ ((256 : Int) < (xs.length : Int)) := by omega
  clear h hx
  go_enter Try.func6, Try.ntmps6
  go_wp2_with fail
  refine (pick_any a1 5 _ l1 r1 (by omega) (by omega)).mono ?_
  rintro ex wp ⟨k1, k1a, k1b, rfl, rfl⟩
  obtain ⟨n0, rfl⟩ := Int.eq_ofNat_of_zero_le k1a
  obtain ⟨n, hn⟩ : ∃ n : Nat, n = n0 + 1 := ⟨_, rfl⟩
  have hnI : (1 : Int) + (n0 : Int) = (n : Int) := by omega
  have h1 : 1 ≤ n := by omega
  have h5 : n ≤ 5 := by omega
  have h12 : n ≤ 12 := by omega
  clear hn k1a k1b l1 r1
  go_wp2_with fail
  refine (pick_any a2 4 _ l2 r2 (by omega) (by omega)).mono ?_
  rintro ex wp ⟨k2, k2a, k2b, rfl, rfl⟩
  obtain ⟨m, rfl⟩ := Int.eq_ofNat_of_zero_le k2a
  have hm4 : m < 4 := by omega
  have HR1 : Hid (Calls Try.prog 43 #[.slice p xs.length c, .int .i64 0, .int .i64 n, .int .i64 m] w fun e w' => ∃ u vs xss, e = .returned u ∧ RowsRel w w' n m u vs xss) := rowsOf_ok2 (.slice p xs.length c) xs 0 n m w HI.out HX.out (by omega) h1 h12 (by omega)
  clear k2a k2b l2 r2
  go_wp2_with fail
  refine HR1.out.mono ?_
  rintro ex w1 ⟨u1, vs1, gss, rfl, hR1⟩
  have hB1 := hR1.below
  have hs1 := hB1.size
  have HGN1 := hide (Gens.made (w := w) hR1 (Nat.le_refl _))
  clear HR1 hR1
  go_wp2_with fail
  refine (pick_any a3 3 _ l3 r3 (by omega) (by omega)).mono ?_
  rintro ex wp ⟨k3, k3a, k3b, rfl, rfl⟩
  obtain ⟨f, rfl⟩ := Int.eq_ofNat_of_zero_le k3a
  have hf3 : f < 3 := by omega
  have HR2 : Hid (Calls Try.prog 43 #[.slice p xs.length c, .int .i64 5, .int .i64 n, .int .i64 f] w1 fun e w' => ∃ u vs xss, e = .returned u ∧ RowsRel w1 w' n f u vs xss) := rowsOf_ok2 (.slice p xs.length c) xs 5 n f w1 (HI.out.below hB1) HX.out (by omega) h1 h12 (by omega)
  clear k3a k3b l3 r3
  go_wp2_with fail
  refine HR2.out.mono ?_
  rintro ex w2 ⟨u2, vs2, sss, rfl, hR2⟩
  have hb2 := hR2.below
  have hB2 : Below w.heap.size w w2 := hB1.trans (hb2.mono hs1)
  have hs2 := hb2.size
  have HGN2 := hide (Gens.made (w := w) hR2 hs1)
  have HGN1b := hide (HGN1.out.later hb2)
  have hgl : gss.length = m := HGN1.out.size
  have hsl : sss.length = f := HGN2.out.size
  have HM5 := hide (make_ok n u1 gss w2 HGN1b.out.ints h1 h12 (by omega) HGN1.out.rows)
  clear HR2 hR2 HGN1
  go_wp2_with fail
  refine HM5.out.mono ?_
  rintro ex w5 ⟨g5, rfl, hG5, hb5⟩
  have hB5 : Below w.heap.size w w5 := hB2.trans (hb5.mono hB2.size)
  have hs5 := hb5.size
  have HG5 := hide hG5
  have HA5 := hide (HGN1b.out.later hb5)
  have HS5 := hide (HGN2.out.later hb5)
  obtain ⟨gb1, _, _, _, _, _, _, rfl, _⟩ := hG5
  clear HM5 HGN1b HGN2 hb2 hB1 hB2
  obtain ⟨nm, hnm⟩ : ∃ nm : Nat, nm = n % 5 := ⟨_, rfl⟩
  have hnmI : (n : Int) % 5 = (nm : Int) := by omega
  obtain ⟨m', hm'⟩ : ∃ m' : Nat, m' = nm + 1 := ⟨_, rfl⟩
  have hm'I : (1 : Int) + (nm : Int) = (m' : Int) := by omega
  have hm'1 : 1 ≤ m' := by omega
  have hm'5 : m' ≤ 5 := by omega
  have hne : n ≠ m' := by omega
  have hneI : ((m' : Int) != (n : Int)) = true := by rw [bne_iff_ne]; omega
  clear hnm hm'
  have HR3 : Hid (Calls Try.prog 43 #[.slice p xs.length c, .int .i64 5, .int .i64 m', .int .i64 1] w5 fun e w' => ∃ u vs xss, e = .returned u ∧ RowsRel w5 w' m' 1 u vs xss) := rowsOf_ok2 (.slice p xs.length c) xs 5 m' 1 w5 (HI.out.below hB5) HX.out (by omega) hm'1 (by omega) (by omega)
  go_wp2_with fail
  refine HR3.out.mono ?_
  rintro ex w6 ⟨u6, vs6, tss, rfl, hR6⟩
  have hB6 : Below w.heap.size w w6 := hB5.trans (hR6.below.mono hB5.size)
  have hG6 := HG5.out.below hR6.below (Nat.le_refl _)
  have hT6 := hR6.all'
  have HM6 := hide (make_ok m' u6 tss w6 hT6.1 hm'1 (by omega) (by have := hT6.2; omega) hR6.rows)
  have HG6 := hide hG6
  clear HR3 HG5 hR6 hG6 hT6
  go_wp2_with fail
  refine HM6.out.mono ?_
  rintro ex w7 ⟨h7, rfl, hH7, hb7⟩
  have hB7 : Below w.heap.size w w7 := hB6.trans (hb7.mono hB6.size)
  have hG7 := HG6.out.below hb7 (Nat.le_refl _)
  have HNA := hide (normal_apart n m' _ h7 _ _ w7 hne hG7 hH7)
  obtain ⟨gb2, _, _, _, _, _, _, rfl, _⟩ := hH7
  clear HM6 HG6 hG7 hb7
  go_wp2_with fail
  refine HNA.out.mono ?_
  rintro ex w8 ⟨rfl, hb8⟩
  have hB8 : Below w.heap.size w w8 := hB7.trans (hb8.mono hB7.size)
  clear HNA hb8
  go_wp2
  go_ret
  exact ⟨rfl, hB8⟩

end Go.Proofs.Ytbddhpbeekioiaa
