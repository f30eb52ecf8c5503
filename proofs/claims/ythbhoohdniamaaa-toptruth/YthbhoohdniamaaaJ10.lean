/- Joined: Course, MethOf, TtS. -/
import Derived.Test.YthbhoohdniamaaaJ6
import Derived.Test.YthbhoohdniamaaaJ9
/- Contracts: method.Head, courseFits, method.Course, MethodOf. -/
namespace Go.Proofs.Ythbhoohdniamaaa
open Go.RowKit

/-- The first rows of a course. -/
def crs (n : Nat) (ts : List (List Bool)) (c : Nat) : List (List Int) := (List.range c).map (fun i => by_ (pw (prd n ts) (i / ts.length)) (prd n (ts.take (i % ts.length))))

theorem crs_snoc (n : Nat) (ts : List (List Bool)) (a b : Nat) (hb : b < ts.length) : crs n ts (a * ts.length + b + 1) = crs n ts (a * ts.length + b) ++ [by_ (pw (prd n ts) a) (prd n (ts.take b))] := by
  unfold crs
  rw [List.range_succ, List.map_append]
  have h1 : (a * ts.length + b) / ts.length = a := by
    rw [Nat.mul_comm, Nat.mul_add_div (by omega), Nat.div_eq_of_lt hb, Nat.add_zero]
  have h2 : (a * ts.length + b) % ts.length = b := by
    rw [Nat.mul_comm, Nat.mul_add_mod, Nat.mod_eq_of_lt hb]
  simp only [List.map_cons, List.map_nil, h1, h2]

theorem crs_length (n : Nat) (ts : List (List Bool)) (c : Nat) : (crs n ts c).length = c := by simp [crs]

theorem crs_get {n c i : Nat} {ts : List (List Bool)} (h : i < c) : (crs n ts c).getD i [] = by_ (pw (prd n ts) (i / ts.length)) (prd n (ts.take (i % ts.length))) := by simp [crs, List.getD, h]

theorem pw_zero (r : List Int) : pw r 0 = rnd r.length := by unfold pw rnd; rfl

/-- What the loops of Course know. -/
structure CrsRel (w3 wr : World) (n : Nat) (ts : List (List Bool)) (a b : Nat) (f u : Value) (vs : List Value) : Prop where
  ll : LL wr w3.heap.size u vs (crs n ts (a * ts.length + b))
  row : wr.ownsRow w3.heap.size 3 1 f n ((pw (prd n ts) a).map (Value.int .i64))
  below : Below w3.heap.size w3 wr

end Go.Proofs.Ythbhoohdniamaaa

/- Contract: MethodOf. -/
namespace Go.Proofs.Ythbhoohdniamaaa
open Go.RowKit

theorem tried_name : nm ⟨#[84, 114, 105, 101, 100]⟩ = true := by decide +kernel

theorem cells3 {w1 : World} {B : Nat} {a b c : Value} {t : TypeId} (h : w1.heap[B]? = some (.cells #[a, b, c] t)) :
    w1.cell? ⟨B, 0, none⟩ = some a ∧ w1.cell? ⟨B, 1, none⟩ = some b ∧ w1.cell? ⟨B, 2, none⟩ = some c ∧ w1.frozen? ⟨B, 0, none⟩ = false ∧ w1.frozen? ⟨B, 1, none⟩ = false ∧ w1.frozen? ⟨B, 2, none⟩ = false := by
  simp [World.cell?, World.frozen?, h]

theorem LL.set {w : World} {base b j : Nat} {v x : Value} {vs : List Value} {xss : List (List Int)} (h : LL w base v vs xss) (hb : b < base) : LL (w.setCell ⟨b, j, none⟩ x) base v vs xss :=
  ⟨ownsRow_setCell_below h.row (by exact hb) _, h.all.mono (fun _ _ _ h' => ownsRow_setCell_below h' (by exact hb) _)⟩

set_option maxRecDepth 20000 in
set_option maxHeartbeats 2000000 in
theorem methodOf_ok (v : Value) (xs : List Int) (n m : Nat) (w : World) (h : Ints w v xs) (hx : ∀ x, x ∈ xs → I64 x) (h1 : 1 ≤ n) (h12 : n ≤ 12) (hm : m ≤ 1000) :
    Calls Try.prog 7 #[v, .int .i64 n, .int .i64 m] w fun e w' => ∃ (u : Value) (vs : List Value) (ts : List (List Bool)), e = .returned (.agg #[.string ⟨#[84, 114, 105, 101, 100]⟩, .int .i64 n, u]) ∧ ts.length = m ∧ (∀ t, t ∈ ts → tsz t = n) ∧ LL w' (w.heap.size + 1) u vs (ts.map tpl) ∧ Below w.heap.size w w' := by
  have HC := hide (fun W (hb : Below w.heap.size w W) => changesOf_ok v xs 3 n m W (h.below hb) hx (by omega) h1 h12 hm)
  clear h hx
  go_enter Try.func7, Try.ntmps7
  go_wp2_with fail
  refine (HC.out _ ((Below.refl _ _).alloc (Nat.le_refl _) _)).mono ?_
  rintro e w1 ⟨u, vs, ts, rfl, hl, hts, hL, hb1⟩
  have hblk0 := (hb1.block w.heap.size (by simp)).trans (heap_alloc_new w _)
  obtain ⟨z0, z1, z2, f0, f1, f2⟩ := cells3 (w1 := w1) (B := w.heap.size) hblk0
  obtain ⟨up, uc, rfl⟩ := owns_slice hL.row
  have HBK : Hid ((((w1.setCell ⟨w.heap.size, 0, none⟩ (.string ⟨#[84, 114, 105, 101, 100]⟩)).setCell ⟨w.heap.size, 1, none⟩ (.int .i64 n)).setCell ⟨w.heap.size, 2, none⟩ (.slice up vs.length uc)).heap[w.heap.size]? = some (.cells #[.string ⟨#[84, 114, 105, 101, 100]⟩, .int .i64 n, .slice up vs.length uc] 26)) := by
    show _ = _
    simp [World.setCell, Array.getElem?_modify, hblk0]
  clear hblk0
  have HT := hide hts
  have HL := hide hL
  have HLE := hide hl
  clear hts hL hl HC
  have hB : Below w.heap.size w w1 := ((Below.refl _ _).alloc (Nat.le_refl _) _).trans (hb1.mono (by simp))
  have HLL := hide (HL.out.low (show w.heap.size + 1 ≤ _ by simp))
  clear HL
  go_wp2
  refine bodyPost_ret (results_cell_row (p := 6) (ty := 26) rfl _ _ w.heap.size 26 _ _ _ rfl HBK.out Try.underlying26 rfl (by kernel_rfl)) rfl ?_
  exact ⟨_, vs, ts, rfl, HLE.out, HT.out, ((HLL.out.set (Nat.lt_succ_self _)).set (Nat.lt_succ_self _)).set (Nat.lt_succ_self _), ((hB.setCell (Nat.le_refl _) _).setCell (Nat.le_refl _) _).setCell (Nat.le_refl _) _⟩

end Go.Proofs.Ythbhoohdniamaaa

/- The law TopTruth. -/
namespace Go.Proofs.Ythbhoohdniamaaa
open Go.RowKit

set_option maxRecDepth 20000 in
set_option maxHeartbeats 400000 in
theorem topTruth_long (v : Value) (xs : List Int) (a1 a2 a3 a4 : Int) (w : World) (hi : Ints w v xs) (hl : 256 < xs.length) :
    Calls Try.prog 3 #[v, .int .i64 a1, .int .i64 a2, .int .i64 a3, .int .i64 a4] w fun e w' => e = .returned (.bool true) ∧ Below w.heap.size w w' := by
  obtain ⟨p, c, rfl⟩ := hi.form
  clear hi
  go_enter Try.func3, Try.ntmps3
  go_wp2
  go_ret
  exact ⟨rfl, Below.refl _ _⟩

theorem leadTo_rows {n k : Nat} {F : List (List Bool)} (h : ∀ t, t ∈ F → tsz t = n) : ∀ r, r ∈ leadTo n F k → Rw n r := by
  intro r hr
  obtain ⟨j, _, rfl⟩ := List.mem_map.1 hr
  have := prd_row n (F.take j) (fun t ht => h t (List.mem_of_mem_take ht))
  exact ⟨this.1, this.2⟩

theorem headsOf_rows {n k N : Nat} {F : List (List Bool)} (h : ∀ t, t ∈ F → tsz t = n) : ∀ r, r ∈ headsOf (leadTo n F (N * k)) k N → Rw n r := by
  intro r hr
  obtain ⟨i, hi, rfl⟩ := List.mem_map.1 hr
  rw [leadTo_get (Nat.mul_le_mul_right _ (Nat.le_of_lt (List.mem_range.1 hi)))]
  have := prd_row n (F.take (i * k)) (fun t ht => h t (List.mem_of_mem_take ht))
  exact ⟨this.1, this.2⟩

set_option maxRecDepth 100000 in
set_option maxHeartbeats 8000000 in
theorem topTruth_short (v : Value) (xs : List Int) (a1 a2 a3 a4 : Int) (w : World) (hin : Ints w v xs) (hx : ∀ x, x ∈ xs → I64 x) (hl : xs.length ≤ 256) (h1 : I64 a1) (h2 : I64 a2) (h3 : I64 a3) (h4 : I64 a4) :
    Calls Try.prog 3 #[v, .int .i64 a1, .int .i64 a2, .int .i64 a3, .int .i64 a4] w fun e w' => e = .returned (.bool true) ∧ Below w.heap.size w w' := by
  obtain ⟨p0, c0, rfl⟩ := hin.form
  have HI := hide hin
  have HX := hide hx
  obtain ⟨l1, u1⟩ := h1
  obtain ⟨l2, u2⟩ := h2
  obtain ⟨l3, u3⟩ := h3
  obtain ⟨l4, u4⟩ := h4
  clear hin hx
  go_enter Try.func3, Try.ntmps3
  go_wp2_with fail
  refine (pick_any _ _ _ l1 u1 (by omega) (by omega)).mono ?_
  rintro e wa ⟨q, hq0, hq1, rfl, rfl⟩
  obtain ⟨m0, rfl⟩ := Int.eq_ofNat_of_zero_le hq0
  go_wp2_with fail
  refine (pick_any _ _ _ l3 u3 (by omega) (by omega)).mono ?_
  rintro e wa ⟨q, hq2, hq3, rfl, rfl⟩
  obtain ⟨m1, rfl⟩ := Int.eq_ofNat_of_zero_le hq2
  go_wp2_with fail
  refine (pick_any _ _ _ l2 u2 (by omega) (by omega)).mono ?_
  rintro e wa ⟨q, hq4, hq5, rfl, rfl⟩
  obtain ⟨m2, rfl⟩ := Int.eq_ofNat_of_zero_le hq4
  go_wp2_with fail
  rw [show (2 + (m0 : Int)) = ((m0 + 2 : Nat) : Int) from by omega, show (1 + (m1 : Int)) = ((m1 + 1 : Nat) : Int) from by omega, show (1 + (m2 : Int)) = ((m2 + 1 : Nat) : Int) from by omega]
  generalize hn : m0 + 2 = n
  generalize hC : m1 + 1 = C
  generalize hM : m2 + 1 = M
  have n1 : 2 ≤ n := by omega
  have n2 : n ≤ 12 := by omega
  have C1 : 1 ≤ C := by omega
  have C2 : C ≤ 3 := by omega
  have M1 : 1 ≤ M := by omega
  have M2 : M ≤ 16 := by omega
  clear hn hM hC hq0 hq1 hq2 hq3 hq4 hq5 l1 u1 l2 u2 l3 u3
  refine (methodOf_ok _ xs n M _ HI.out HX.out (by omega) (by omega) (by omega)).mono ?_
  rintro e w3 ⟨u, vs, ts, rfl, hlen, hts, hLL, hb3⟩
  have hbA : Below w.heap.size w (w3.alloc (.cells #[.string ⟨#[84, 114, 105, 101, 100]⟩, .int .i64 (n : Int), u] 26)) := hb3.alloc hb3.size _
  have hx1 := (Box.start w3 ⟨#[84, 114, 105, 101, 100]⟩ n u 26)
  have hia : IntsAll (w3.alloc (.cells #[.string ⟨#[84, 114, 105, 101, 100]⟩, .int .i64 (n : Int), u] 26)) u (ts.map tpl) := hLL.ints.below ((Below.refl _ _).alloc (Nat.le_refl _) _)
  obtain ⟨up, uc, hue⟩ := hLL.ints.len
  rw [List.length_map] at hue
  subst hue
  subst hlen
  have HV := hide hia
  have HTS := hide hts
  have HX1 := hide hx1
  clear hts hLL hia hx1 hb3
  go_wp2_with fail
  generalize (w3.alloc (.cells #[.string ⟨#[84, 114, 105, 101, 100]⟩, .int .i64 (n : Int), .slice up ts.length uc] 26)) = wA at *
  refine (callsOf_ok _ xs n C wA (HI.out.below hbA) HX.out (by omega) n2 C1 (by omega)).mono ?_
  rintro e w4 ⟨cv, es, rfl, hel, hO4, hC4, hb4⟩
  have hB4 : Below w.heap.size w w4 := hbA.trans (hb4.mono hbA.size)
  have hCA := hC4.calls (by rw [hel]; exact hO4) (by omega)
  have hCK := hC4.callsOk (K := ts.length) (by omega) M1
  obtain ⟨SS, hSS⟩ := hC4.tiles
  have hcl : (ceCalls es).length = C := by rw [← hel]; simp [ceCalls]
  rw [hel, ← hcl] at hSS
  have HX4 := hide (HX1.out.below hb4)
  have HV4 := hide (HV.out.below hb4)
  have HCA := hide hCA
  have HCK := hide hCK
  have HSS := hide hSS
  clear hCA hCK hSS hC4 hO4 HX1 HV hel hbA hb4
  generalize ceCalls es = cs at *
  subst hcl
  go_wp2_with fail
  refine (pick_any _ _ _ l4 u4 (by omega) (by omega)).mono ?_
  rintro e wa ⟨q, hq6, hq7, rfl, rfl⟩
  obtain ⟨m3, rfl⟩ := Int.eq_ofNat_of_zero_le hq6
  go_wp2_with fail
  rw [show (1 + (m3 : Int)) = ((m3 + 1 : Nat) : Int) from by omega]
  generalize hN : m3 + 1 = N
  have N1 : 1 ≤ N := by omega
  have N2 : N ≤ 15 := by omega
  clear hN hq6 hq7 l4 u4
  refine (leadsOf_ok _ xs N cs.length w4 (HI.out.below hB4) HX.out (by omega) C1 (by omega)).mono ?_
  rintro e w5 ⟨lv, ls, rfl, hO5, hin5, hb5⟩
  obtain rfl : ls.length = N := by have := hO5.1; simpa using this
  have hI5 : Ints w5 lv ls := Ints.own hO5
  obtain ⟨lp, lc, rfl⟩ := hI5.form
  have hB5 : Below w.heap.size w w5 := hB4.trans (hb5.mono hB4.size)
  have hLb : ls.length * ts.length ≤ 15 * 16 := Nat.mul_le_mul N2 M2
  have hLa : 1 ≤ ls.length * ts.length := Nat.mul_le_mul N1 M1
  have HCA5 := hide (HCA.out.below hb5)
  have HV5 := hide (HV4.out.below hb5)
  have hx5 := HX4.out.below hb5
  obtain ⟨hta, hFn⟩ := touch_all (n := n) (m := cs.length) (SS := SS) M1 HTS.out hin5 (fun c hc => (HSS.out c hc).2)
  have HBP := hide (both_proofs n2 (ldr_rows HTS.out) (headsOf_rows (k := ts.length) (N := ls.length) hFn) (fun e => by have := ldr_length n ts; rw [e] at this; simp at this; omega) (fun e => by have := headsOf_length (leadTo n (allOf ts SS ls) (ls.length * ts.length)) ts.length ls.length; rw [e] at this; simp at this; omega))
  rw [← hta] at HBP
  have HR := hide (fun W (hW : Below w5.heap.size w5 W) => crows_ok ⟨#[84, 114, 105, 101, 100]⟩ n up uc ts cv cs SS (.slice lp ls.length lc) ls W (by decide) tried_name n1 n2 M1 (by omega) HTS.out (HV5.out.below hW) (HCA5.out.below hW) HCK.out C1 (by omega) (fun c hc => ⟨(HSS.out c hc).1, (HSS.out c hc).2.1, Nat.le_trans (HSS.out c hc).2.2 M1⟩) (hI5.below hW) N1 (by omega) hin5 (by omega))
  have HP := hide (prove_ok ⟨#[84, 114, 105, 101, 100]⟩ n up ts.length uc cv (.slice lp ls.length lc) (ls.length * ts.length) _ w5 (by omega) n2 (leadTo_length n (allOf ts SS ls) (ls.length * ts.length)) hLa (by omega) (leadTo_rows hFn) HR.out)
  have HBY := hide (fun W (hW : Below w5.heap.size w5 W) => byHeads_ok ⟨#[84, 114, 105, 101, 100]⟩ n up uc ts cv cs lp lc ls _ W (by decide) tried_name n1 n2 M1 (by omega) HTS.out (HV5.out.below hW) (HCA5.out.below hW) (fun c hc => by rw [(HSS.out c hc).1, List.length_map]; exact (HSS.out c hc).2.2) (hI5.below hW) N1 (by omega) hin5 (leadTo_length n (allOf ts SS ls) (ls.length * ts.length)) (headsOf_rows hFn) (fun W' hW' => HR.out W' (hW.trans (hW'.mono hW.size))))
  have g0 := hx5.c0
  have g1 := hx5.c1
  have g2 := hx5.c2
  have hmi : ((ls.length : Int)) * (ts.length : Int) = ((ls.length * ts.length : Nat) : Int) := (Int.natCast_mul _ _).symm
  have HX5 := hide hx5
  clear hta hFn hO5 hin5 hI5 hb5 HX4 HV4 HCA HCA5 HV5 HCK HSS HTS HR hx5
  unfold meth at HP HBY
  generalize ls.length * ts.length = L at *
  go_wp2_with fail
  refine HP.out.mono ?_
  rintro e w6 ⟨r, t, i, j, rfl, ht, hb6⟩
  have hB6 : Below w.heap.size w w6 := hB5.trans (hb6.mono hB5.size)
  have hx6 := (HX5.out.below hb6).below ((Below.refl _ _).alloc (Nat.le_refl _) (.cells #[.int .i64 (L : Int), .bool r, .bool t, .int .i64 i, .int .i64 j] 32))
  have k0 := hx6.c0
  have k1 := hx6.c1
  have k2 := hx6.c2
  have hS6 : Below w5.heap.size w5 (w6.alloc (.cells #[.int .i64 (L : Int), .bool r, .bool t, .int .i64 i, .int .i64 j] 32)) := hb6.alloc hb6.size _
  have hA6 : Below w.heap.size w (w6.alloc (.cells #[.int .i64 (L : Int), .bool r, .bool t, .int .i64 i, .int .i64 j] 32)) := hB6.alloc hB6.size _
  have hn6 := heap_alloc_new w6 (.cells #[.int .i64 (L : Int), .bool r, .bool t, .int .i64 i, .int .i64 j] 32)
  have HK6 := hide hn6
  have HX6 := hide hx6
  have HTT := hide ht
  clear ht hn6 hx6 HP g0 g1 g2 HX5
  go_wp2_with fail
  refine (HBY.out _ hS6).mono ?_
  rintro e w7 ⟨t2, rfl, ht2, hb7⟩
  have htt : t = t2 := by
    rw [Bool.eq_iff_iff, HTT.out, ht2]
    exact HBP.out
  subst htt
  have hk7 := (hb7.block w6.heap.size (by simp)).trans HK6.out
  obtain ⟨z0, z1, z2, z3, z4, _⟩ := cells5 hk7
  have y2 := (HX6.out.below hb7).c2
  have HB7 := hide (hA6.trans (hb7.mono hA6.size))
  clear HBY HTT HBP ht2 hk7 hb7 HX6 HK6 k0 k1 k2 hS6 hA6
  go_wp2
  go_ret
  exact ⟨rfl, HB7.out⟩

theorem topTruth_walk (v : Value) (xs : List Int) (a1 a2 a3 a4 : Int) (w : World) (hin : Ints w v xs) (hx : ∀ x, x ∈ xs → I64 x) (h1 : I64 a1) (h2 : I64 a2) (h3 : I64 a3) (h4 : I64 a4) :
    Calls Try.prog 3 #[v, .int .i64 a1, .int .i64 a2, .int .i64 a3, .int .i64 a4] w fun e w' => e = .returned (.bool true) ∧ Below w.heap.size w w' := by
  by_cases hl : xs.length ≤ 256
  · exact topTruth_short v xs a1 a2 a3 a4 w hin hx hl h1 h2 h3 h4
  · exact topTruth_long v xs a1 a2 a3 a4 w hin (by omega)

end Go.Proofs.Ythbhoohdniamaaa
