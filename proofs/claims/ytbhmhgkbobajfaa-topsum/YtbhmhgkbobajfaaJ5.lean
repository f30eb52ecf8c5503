/- Joined: SsS. -/
import Derived.Test.YtbhmhgkbobajfaaJ4
import Derived.Deep.Cut
import Derived.Deep.RegionLaw
/- The law TopSum, its first loop. -/
namespace Go.Proofs.Ytbhmhgkbobajfaa
open Go.RowKit
set_option maxRecDepth 20000
set_option linter.unusedVariables false

def pkL (xs : List Int) : List Int := xs.map (fun z => pk z 2001 - 1000)

theorem pkL_sml {xs : List Int} (h : xs.length ≤ 400) : Sml (pkL xs) := by
  refine ⟨by simp [pkL]; omega, fun k hk => ?_⟩
  unfold pkL at hk
  rw [List.mem_map] at hk
  obtain ⟨z, _, rfl⟩ := hk
  have := pk_range z (n := 2001) (by decide)
  omega

theorem pkL_at {xs : List Int} {k : Nat} (h : k < xs.length) : (pkL xs).getD k 0 = pk (xs.getD k 0) 2001 - 1000 := by simp [pkL, List.getD, h]

theorem Sml.take {K : List Int} (h : Sml K) (k : Nat) : Sml (K.take k) :=
  ⟨by rw [List.length_take]; have := h.len; omega, fun x hx => h.b x (List.mem_of_mem_take hx)⟩

theorem take_snocI {K : List Int} {k : Nat} (h : k < K.length) : K.take (k + 1) = K.take k ++ [K.getD k 0] := by
  rw [List.take_succ_eq_append_getElem h]
  simp [List.getD, List.getElem?_eq_getElem h]

theorem ws_next (c : Nat → Int) {K : List Int} {k : Nat} (h : k < K.length) : ws c (K.take (k + 1)) = ws c (K.take k) + K.getD k 0 * c k := by
  rw [take_snocI h, ws_snoc, List.length_take, Nat.min_eq_left (by omega)]

abbrev turn3 (a b c : Int) : Obj := .cells #[.int .i64 a, .int .i64 b, .int .i64 c] 3
abbrev four (a b c d : Int) : Obj := .cells #[.int .i64 a, .int .i64 b, .int .i64 c, .int .i64 d] 3

/-- The first loop of TopSum: floats so far, and three sums. -/
structure S1 (w wr : World) (T n : Nat) (F : List Nat) (a b c : Int) (xv : Value) : Prop where
  own : wr.ownsRow (T + 1) 23 1 xv n (F.map (Value.float .f64))
  tn : wr.heap[T]? = some (turn3 a b c)
  bl : Below w.heap.size w wr
  lo : w.heap.size ≤ T
  sz : T + 1 ≤ wr.heap.size

section
variable {w wr : World} {T n : Nat} {F : List Nat} {a b c : Int} {xv : Value}

theorem S1.alloc (h : S1 w wr T n F a b c xv) (o : Obj) : S1 w (wr.alloc o) T n F a b c xv :=
  ⟨h.own.alloc o, (Below.heap_alloc wr o T (by have := h.sz; omega)).trans h.tn, h.bl.alloc (by have := h.sz; have := h.lo; omega) o, h.lo, by have := h.sz; simp; omega⟩

theorem S1.drew (h : S1 w wr T n F a b c xv) : S1 w wr.drew T n F a b c xv := ⟨h.own.drew, h.tn, h.bl.drew, h.lo, h.sz⟩

theorem S1.cells (h : S1 w wr T n F a b c xv) : wr.cell? ⟨T, 0, none⟩ = some (.int .i64 a) ∧ wr.cell? ⟨T, 1, none⟩ = some (.int .i64 b) ∧ wr.cell? ⟨T, 2, none⟩ = some (.int .i64 c) ∧ wr.frozen? ⟨T, 0, none⟩ = false ∧ wr.frozen? ⟨T, 1, none⟩ = false ∧ wr.frozen? ⟨T, 2, none⟩ = false := by
  have := h.tn
  simp [World.cell?, World.frozen?, this]

theorem S1.ne (h : S1 w wr T n F a b c xv) (g : Nat) (e : xv.ownBlock = some g) : g ≠ T := by have := (h.own.lt g e).1; omega

theorem S1.set (h : S1 w wr T n F a b c xv) (k : Nat) (u : Int) {a' b' c' : Int} (e : (#[Value.int .i64 a, Value.int .i64 b, Value.int .i64 c]).setIfInBounds k (.int .i64 u) = #[Value.int .i64 a', Value.int .i64 b', Value.int .i64 c']) : S1 w (wr.setCell ⟨T, k, none⟩ (.int .i64 u)) T n F a' b' c' xv := by
  refine ⟨fr_block h.own (fun g hg => Below.heap_setCell _ _ _ _ (by exact h.ne g hg)), ?_, h.bl.setCell h.lo _, h.lo, by simp [World.setCell]; exact h.sz⟩
  rw [show turn3 a' b' c' = .cells #[Value.int .i64 a', Value.int .i64 b', Value.int .i64 c'] 3 from rfl, ← e]
  simp [World.setCell, Array.getElem?_modify, h.tn]

theorem S1.push {w' : World} {v' : Value} {y : Nat} (h : S1 w wr T n F a b c xv) (h4 : w'.ownsRow (T + 1) 23 1 v' (n + 1) ((F ++ [y]).map (Value.float .f64))) (hg : wr.grownBy w' xv.ownBlock) : S1 w w' T (n + 1) (F ++ [y]) a b c v' :=
  ⟨h4, (hg.block _ (by have := h.sz; omega) (fun e => h.ne T e.symm rfl)).trans h.tn, h.bl.grown hg (by have := h.sz; have := h.lo; omega) (fun k hk => by have := (h.own.lt k hk).1; have := h.lo; omega), h.lo, Nat.le_trans h.sz hg.size⟩

end

theorem four_cell {w : World} {a b c d e : Int} {q : Nat} (hq : q < 4) (he : [a, b, c, d].getD q 0 = e) : (w.alloc (four a b c d)).cell? ⟨w.heap.size, q, none⟩ = some (.int .i64 e) := by
  have := alloc_at w (four a b c d)
  unfold World.cell?
  rw [this]
  subst he
  rcases (show q = 0 ∨ q = 1 ∨ q = 2 ∨ q = 3 by omega) with rfl | rfl | rfl | rfl <;> rfl

theorem Drw.drewN (w : World) (n : Nat) : Drw w (w.drewN n) := ⟨rfl, rfl, rfl, rfl⟩

/-- Floats, the first i of them by 2^40. -/
def mixF (K : List Int) (i : Nat) : List Nat := (K.take i).map q40 ++ (K.drop i).map fi

theorem mixF_zero (K : List Int) : mixF K 0 = fls K := by simp [mixF, fls]
theorem mixF_all (K : List Int) : mixF K K.length = K.map q40 := by simp [mixF]
theorem mixF_len (K : List Int) (i : Nat) : (mixF K i).length = K.length := by simp [mixF]; omega
theorem mixF_at {K : List Int} {i : Nat} (h : i < K.length) : (mixF K i).getD i 0 = fi (K.getD i 0) := by
  unfold mixF
  have hl : ((K.take i).map q40).length = i := by simp; omega
  rw [List.getD_eq_getElem?_getD, List.getElem?_append_right (by omega), hl, Nat.sub_self]
  simp [List.getD, h]

theorem mixF_next {K : List Int} {i : Nat} (h : i < K.length) : (mixF K i).set i (q40 (K.getD i 0)) = mixF K (i + 1) := by
  unfold mixF
  have hl : ((K.take i).map q40).length = i := by simp; omega
  rw [List.set_append_right _ _ (by omega), hl, Nat.sub_self, take_snocI h]
  have hd : K.drop i = K.getD i 0 :: K.drop (i + 1) := by
    rw [List.drop_eq_getElem_cons h]
    simp [List.getD, h]
  rw [hd]
  simp

/-- Floats that the call owns: one is read, one is set. -/
theorem ownF_at {w : World} {base e g n cap j : Nat} {F : List Nat} (h : w.ownsRow base e 1 (.slice (some ⟨g, 0, none⟩) n cap) n (F.map (Value.float .f64))) (hj : j < n) : n ≤ cap ∧ cap ≤ 9223372036854775807 ∧ w.cell? ⟨g, j, none⟩ = some (.float .f64 (F.getD j 0)) ∧ w.frozen? ⟨g, j, none⟩ = false := by
  have h1 := h.1
  rw [List.length_map, Nat.mul_one] at h1
  have hc := h.cells (g := g) rfl j (.float .f64 (F.getD j 0)) (by simp [List.getElem?_map, List.getD, List.getElem?_eq_getElem (show j < F.length by omega)])
  rw [Addr.add_lit, Nat.zero_add] at hc
  rcases h.2 with ⟨e, _⟩ | ⟨g', cap', cur, hv, _, hh, hn, hm, hs, ht⟩
  · cases e
  · injection hv with e1 e2 e3
    injection e1 with e1
    injection e1 with e4 _ _
    subst e4; subst e3
    refine ⟨hn, by unfold maxLen at hm; omega, hc, ?_⟩
    simp [World.frozen?, hh]

theorem ownF_set {w : World} {base e g n cap m : Nat} {F : List Nat} (h : w.ownsRow base e 1 (.slice (some ⟨g, 0, none⟩) n cap) n (F.map (Value.float .f64))) (y : Nat) : (w.setCell ⟨g, m, none⟩ (.float .f64 y)).ownsRow base e 1 (.slice (some ⟨g, 0, none⟩) n cap) n ((F.set m y).map (Value.float .f64)) := by
  have := owns_set (m := m) h (.float .f64 y)
  rw [List.map_set]
  exact this

set_option maxHeartbeats 8000000 in
theorem topSum_walk (v : Value) (xs : List Int) (great at_ back : Int) (w : World) (hv : Ints w v xs) (hx : ∀ x, x ∈ xs → I64 x) (hg : I64 great) (ha : I64 at_) (hb : I64 back) :
    Calls Try.prog 4 #[v, .int .i64 great, .int .i64 at_, .int .i64 back] w fun e w' => e = .returned (.bool true) ∧ Below w.heap.size w w' := by
  obtain ⟨m, hm⟩ : ∃ m, Hid (xs.length = m) := ⟨_, rfl⟩
  have hlen : xs.length ≤ 9223372036854775807 := by
    rcases hv with ⟨rfl, _⟩ | ⟨b, off, cap, e, h0, h1, h2, _⟩
    · simp
    · omega
  rw [hm.out] at hlen
  obtain ⟨p, cap, rfl⟩ : ∃ p cap, v = .slice p m cap := by rw [← hm.out]; exact hv.form
  by_cases h4 : 400 < m
  · clear hv hx
    go_enter Try.func4, Try.ntmps4
    go_wp2
    go_ret
    exact ⟨rfl, Below.refl _ _⟩
  have hK := pkL_sml (xs := xs) (by rw [hm.out]; omega)
  have hKl : (pkL xs).length = m := by simp [pkL, hm.out]
  have HX : ∀ k, k < m → Hid (∃ b off, p = some ⟨b, off, none⟩ ∧ m ≤ cap ∧ cap ≤ 9223372036854775807 ∧ b < w.heap.size ∧ w.cell? ⟨b, off + k, none⟩ = some (.int .i64 (xs.getD k 0)) ∧ I64 (xs.getD k 0) ∧ (pkL xs).getD k 0 = pk (xs.getD k 0) 2001 - 1000) := fun k hk => by
    have hkx : k < xs.length := by rw [hm.out]; exact hk
    have hi : I64 (xs.getD k 0) := by
      have : xs.getD k 0 = xs[k] := by simp [List.getD, hkx]
      rw [this]
      exact hx _ (List.getElem_mem hkx)
    rcases hv with ⟨h1, _⟩ | ⟨b, off, cap', e, h0, h1, h2, h3, hc⟩
    · rw [h1] at hkx; simp at hkx
    · injection e with e1 e2 e3
      subst e3
      exact ⟨b, off, e1, by omega, h2, h3, hc k hkx, hi, pkL_at hkx⟩
  have HK := hide hK
  have HKL := hide hKl
  clear hv hx hK hKl
  generalize pkL xs = K at *
  have S0 : Hid (S1 w (w.alloc (turn3 0 0 0)) w.heap.size 0 [] 0 0 0 (.slice none 0 0)) := ⟨World.ownsRow_nil _ _ _ _, alloc_at _ _, (Below.refl _ _).alloc (Nat.le_refl _) _, Nat.le_refl _, by simp⟩
  go_enter Try.func4, Try.ntmps4
  go_wp2
  go_loopw [9, 10, 12] (fun xv s i wr => ∃ (k : Nat) (z a b c : Int), k ≤ m ∧ i = .int .i64 k ∧ s = .int .i64 z ∧ Hid (z = ws (fun _ => 1) (K.take k) ∧ a = ws c0 (K.take k) ∧ b = ws c1 (K.take k) ∧ c = ws c2 (K.take k)) ∧ Hid (S1 w wr w.heap.size k (fls (K.take k)) a b c xv)) (fun _ _ i _ => m - (intOf i).toNat)
  case atStart => exact ⟨0, 0, 0, 0, 0, by omega, rfl, rfl, ⟨rfl, rfl, rfl, rfl⟩, S0.out⟩
  case round =>
    obtain ⟨k, z, a, b, c, hk, rfl, rfl, hws, hS⟩ := hrel
    clear S0
    have hbs : -400000 ≤ z ∧ z ≤ 400000 ∧ -400000 ≤ a ∧ a ≤ 400000 ∧ -400000 ≤ b ∧ b ≤ 400000 ∧ -400000 ≤ c ∧ c ≤ 400000 := by
      have hr := (HK.out.take k).rhy
      obtain ⟨e1, e2, e3, e4⟩ := hws.out
      have := hr.b
      have := hr.b0
      have := hr.b1
      have := hr.b2
      omega
    by_cases hlt : k < m
    ·
      obtain ⟨b9, off, rfl, hcap, hcap2, hbl, hcell, hxi, hkk⟩ := (HX k hlt).out
      have hkK : k < K.length := by rw [HKL.out]; exact hlt
      have HP := hide (fun W => pick_det (xs.getD k 0) 2001 W hxi.1 hxi.2 (by decide) (by decide))
      have hcw : wr.cell? ⟨b9, off + k, none⟩ = some (.int .i64 (xs.getD k 0)) := by rw [hS.out.bl.cell (p := ⟨b9, off + k, none⟩) hbl]; exact hcell
      have hkb := HK.out.at hkK
      have HW1 := hide (ws_next (fun _ => 1) hkK)
      have HW2 := hide (ws_next c0 hkK)
      have HW3 := hide (ws_next c1 hkK)
      have HW4 := hide (ws_next c2 hkK)
      have HT := hide (take_snocI hkK)
      rw [hkk] at HW1 HW2 HW3 HW4 HT hkb
      have hk0 := c0_b k
      have hk1 := c1_b k
      have hk2 := c2_b k
      have h02 : (k : Int).tmod 2 = ((k % 2 : Nat) : Int) := by rw [show (2 : Int) = ((2 : Nat) : Int) from rfl, ← Int.ofNat_tmod]
      have h04 : (k : Int).tmod 4 = ((k % 4 : Nat) : Int) := by rw [show (4 : Int) = ((4 : Nat) : Int) from rfl, ← Int.ofNat_tmod]
      have hc0 : (1 : Int) - 2 * ((k % 2 : Nat) : Int) = c0 k := rfl
      have hq2 : k % 2 < 2 := Nat.mod_lt _ (by decide)
      have hq4 : k % 4 < 4 := Nat.mod_lt _ (by decide)
      have he1 : [(1 : Int), 0, -1, 0].getD (k % 4) 0 = c1 k := by
        unfold c1
        rcases (show k % 4 = 0 ∨ k % 4 = 1 ∨ k % 4 = 2 ∨ k % 4 = 3 by omega) with h | h | h | h <;> rw [h] <;> rfl
      have he2 : [(0 : Int), 1, 0, -1].getD (k % 4) 0 = c2 k := by
        unfold c2
        rcases (show k % 4 = 0 ∨ k % 4 = 1 ∨ k % 4 = 2 ∨ k % 4 = 3 by omega) with h | h | h | h <;> rw [h] <;> rfl
      have HF1 := hide (fun W : World => four_cell (w := W) hq4 he1)
      have HF2 := hide (fun W : World => four_cell (w := W) hq4 he2)
      generalize pk (xs.getD k 0) 2001 = pz at *
      generalize xs.getD k 0 = xz at *
      have hm0 : (c0 k).natAbs ≤ 1 ∧ ((pz - 1000) * c0 k).natAbs ≤ 1000 * 1 := ⟨hk0, mul_le_of hkb hk0⟩
      have hm1 : ((pz - 1000) * c1 k).natAbs ≤ 1000 * 1 := mul_le_of hkb hk1
      have hm2 : ((pz - 1000) * c2 k).natAbs ≤ 1000 * 1 := mul_le_of hkb hk2
      generalize c0 k = e0 at *
      generalize c1 k = e1 at *
      generalize c2 k = e2 at *
      generalize k % 2 = r2 at *
      generalize k % 4 = r4 at *
      have hr4 : (r4 : Int) < 4 := by omega
      obtain ⟨kk, hkk2⟩ : ∃ kk, Hid (pz - 1000 = kk) := ⟨_, rfl⟩
      rw [hkk2.out] at HW1 HW2 HW3 HW4 HT hkb hm0 hm1 hm2
      have hpz : 0 ≤ pz ∧ pz ≤ 2000 := by have := hkk2.out; omega
      have hsz := hS.out.sz
      have HO := hide hS.out.own
      have HFL : Hid ((fls (K.take k)).length = k) := by show _ = _; rw [fls_len, List.length_take, HKL.out]; omega
      clear hcell hkk he1 he2 HX hxi
      go_wp2_with fail
      refine (HP.out _).mono ?_
      rintro e w9 ⟨rfl, rfl⟩
      go_upto_region 10 with fail
      rw [hkk2.out]
      have HO2 : Hid (wr.ownsRow (w.heap.size + 1) 23 1 u9 (fls (K.take k)).length ((fls (K.take k)).map (Value.float .f64))) := by rw [HFL.out]; exact HO.out
      go_wp2_with (at_builtin; refine wpList_push rfl _ _ rfl (w.heap.size + 1) u9 (fls (K.take k)) rfl (HO2.out.alloc _) wr.heap.size (fi kk) rfl (alloc_at wr _) ?a1 ?a2 ?_)
      case a1 => rw [HFL.out]; omega
      case a2 => simp; omega
      intro xv2 w2 hown2 hg2 hv2
      have hS2 : Hid (S1 w w2 w.heap.size (k + 1) (fls (K.take k) ++ [fi kk]) a b c xv2) := (hS.out.alloc _).push (by rw [HFL.out, List.map_append] at *; exact hown2) hg2
      rw [show fls (K.take k) ++ [fi kk] = fls (K.take (k + 1)) from by rw [HT.out]; simp [fls]] at hS2
      clear hown2 hg2 hv2 HO2 HO hS hcw hsz
      obtain ⟨hc1, _, _, hf1, _, _⟩ := hS2.out.cells
      have hsz2 := hS2.out.sz
      have hbk : -1000 ≤ kk ∧ kk ≤ 1000 := by omega
      have hbe : -1 ≤ e0 ∧ e0 ≤ 1 := by omega
      have hb0 : -1000 ≤ kk * e0 ∧ kk * e0 ≤ 1000 := by omega
      have hb1 : -1000 ≤ kk * e1 ∧ kk * e1 ≤ 1000 := by omega
      have hb2 : -1000 ≤ kk * e2 ∧ kk * e2 ≤ 1000 := by omega
      clear hm0 hm1 hm2
      have hS3 : Hid (S1 w (w2.setCell ⟨w.heap.size, 0, none⟩ (.int .i64 (a + kk * e0))) w.heap.size (k + 1) (fls (K.take (k + 1))) (a + kk * e0) b c xv2) := hS2.out.set 0 _ rfl
      go_upto_region 13 with fail
      generalize w2.setCell ⟨w.heap.size, 0, none⟩ (.int .i64 (a + kk * e0)) = w3 at *
      clear hS2 hc1 hf1 hsz2
      obtain ⟨_, hc2, _, _, hf2, _⟩ := hS3.out.cells
      have S4 := hide (hS3.out.alloc (four 1 0 (-1) 0))
      obtain ⟨_, hc4, _, _, hf4, _⟩ := S4.out.cells
      have hn4 := HF1.out w3
      have hsz3 := hS3.out.sz
      go_region
      have hS5 : Hid (S1 w ((w3.alloc (four 1 0 (-1) 0)).setCell ⟨w.heap.size, 1, none⟩ (.int .i64 (b + kk * e1))).drew w.heap.size (k + 1) (fls (K.take (k + 1))) (a + kk * e0) (b + kk * e1) c xv2) := (S4.out.set 1 _ rfl).drew
      generalize ((w3.alloc (four 1 0 (-1) 0)).setCell ⟨w.heap.size, 1, none⟩ (.int .i64 (b + kk * e1))).drew = w5 at *
      clear hS3 S4 hc2 hf2 hc4 hf4 hn4 hsz3
      obtain ⟨_, _, hc2, _, _, hf2⟩ := hS5.out.cells
      have S6 := hide (hS5.out.alloc (four 0 1 0 (-1)))
      obtain ⟨_, _, hc4, _, _, hf4⟩ := S6.out.cells
      have hn4 := HF2.out w5
      have hsz3 := hS5.out.sz
      go_upto_region 14 with fail
      go_region
      have hS7 : Hid (S1 w ((w5.alloc (four 0 1 0 (-1))).setCell ⟨w.heap.size, 2, none⟩ (.int .i64 (c + kk * e2))).drew w.heap.size (k + 1) (fls (K.take (k + 1))) (a + kk * e0) (b + kk * e1) (c + kk * e2) xv2) := (S6.out.set 2 _ rfl).drew
      generalize ((w5.alloc (four 0 1 0 (-1))).setCell ⟨w.heap.size, 2, none⟩ (.int .i64 (c + kk * e2))).drew = w7 at *
      have HWS : Hid (z + kk = ws (fun _ => 1) (K.take (k + 1)) ∧ a + kk * e0 = ws c0 (K.take (k + 1)) ∧ b + kk * e1 = ws c1 (K.take (k + 1)) ∧ c + kk * e2 = ws c2 (K.take (k + 1))) := by
        obtain ⟨q1, q2, q3, q4⟩ := hws.out
        refine ⟨?_, ?_, ?_, ?_⟩
        · rw [HW1.out, q1, Int.mul_one]
        · rw [HW2.out, q2]
        · rw [HW3.out, q3]
        · rw [HW4.out, q4]
      clear hS5 S6 hc2 hf2 hc4 hf4 hn4 hsz3 HF1 HF2 HW1 HW2 HW3 HW4 hws
      go_wp2
      go_roundw
      case rel =>
        have hfin : ∃ (j : Nat) (z' a' b' c' : Int), j ≤ m ∧ Value.int .i64 ((k : Int) + 1) = .int .i64 j ∧ Value.int .i64 (z + kk) = .int .i64 z' ∧ Hid (z' = ws (fun _ => 1) (K.take j) ∧ a' = ws c0 (K.take j) ∧ b' = ws c1 (K.take j) ∧ c' = ws c2 (K.take j)) ∧ Hid (S1 w w7 w.heap.size j (fls (K.take j)) a' b' c' xv2) := ⟨k + 1, _, _, _, _, by omega, by go_num, rfl, HWS, hS7⟩
        first | exact hfin | ((repeat apply Exists.intro); exact ⟨hfin, rfl⟩)
      case measure => simp [intOf]; omega
    · have hkm : K.take k = K := List.take_of_length_le (by rw [HKL.out]; omega)
      obtain rfl : k = m := by omega
      rw [hkm] at hS hws
      have hKr := HK.out.rhy
      have HR := hide (rhythmP_ok u9 (fls K) wr (Fls.own hS.out.own) HK.out.chk (fun j _ => HK.out.nok.rok j))
      have hrl := rhAll_len (fls K)
      have hbl1 := hS.out.bl
      go_wp2_with fail
      refine HR.out.mono ?_
      rintro e w2 ⟨rfl, hb2⟩
      have hC0 := zeros_cpx w2
      have hS2 : Hid (S1 w w2 w.heap.size k (fls K) a b c u9) := ⟨fr_block hS.out.own (fun g e => hb2.block g (hS.out.own.lt g e).2), (hb2.block _ (by have := hS.out.sz; omega)).trans hS.out.tn, hS.out.bl.trans (hb2.mono hS.out.bl.size), hS.out.lo, Nat.le_trans hS.out.sz hb2.size⟩
      have hS3 := hide (hS2.out.alloc zeroC)
      clear hS hb2 HR hbl1
      go_wp2_with (first | fail | (refine wpList_store_cpx rfl _ _ rfl _ _ (rhAll (fls K)) hC0 rfl rfl hrl ?_; intro w4 hA hgr hsz))
      have hS4 : Hid (S1 w w4 w.heap.size k (fls K) a b c u9) := by
        have h9 := hS3.out
        have hne : ∀ g, g < w2.heap.size → w4.heap[g]? = (w2.alloc zeroC).heap[g]? := fun g hg => hgr.block g (by simp; omega) (by simp; omega)
        have hz2 := hS2.out.sz
        exact ⟨fr_block h9.own (fun g e => hne g (hS2.out.own.lt g e).2), (hne _ (by omega)).trans h9.tn, h9.bl.grown hgr (by simp; omega) (fun k h => by cases h; omega), h9.lo, by rw [hsz]; exact h9.sz⟩
      obtain ⟨hca, hcb, hcc, _, _, _⟩ := hS4.out.cells
      have hz2 := hS2.out.sz
      have hd0 := (hA.cell (j := 0) (by decide)).1
      have hd4 := (hA.cell (j := 4) (by decide)).1
      have hd2 := (hA.cell (j := 2) (by decide)).1
      rw [rhAll_at _ _ (by decide)] at hd0 hd4 hd2
      obtain ⟨q1, q2, q3, q4⟩ := hws.out
      have hzb : -400000 ≤ z ∧ z ≤ 400000 := by omega
      have o1 : FloatKind.f64.format.order (rh1 (fls K) 0).1 (floatOfInt .f64 z) = some .eq := hKr.r0.order (by rw [← q1]; exact FI.fi z (by omega))
      have o2 : FloatKind.f64.format.order (rh1 (fls K) 0).2 0 = some .eq := hKr.i0.order FI.zero
      have o3 : FloatKind.f64.format.order (rh1 (fls K) 4).1 (floatOfInt .f64 a) = some .eq := hKr.r4.order (by rw [← q2]; exact FI.fi a (by omega))
      have o4 : FloatKind.f64.format.order (rh1 (fls K) 4).2 0 = some .eq := hKr.i4.order FI.zero
      have o5 : FloatKind.f64.format.order (rh1 (fls K) 2).1 (floatOfInt .f64 b) = some .eq := hKr.r2.order (by rw [← q3]; exact FI.fi b (by omega))
      have o6 : FloatKind.f64.format.order (rh1 (fls K) 2).2 (floatOfInt .f64 c) = some .eq := hKr.i2.order (by rw [← q4]; exact FI.fi c (by omega))
      have HZ1 := hide q1
      clear q1 q2 q3 q4 hws hKr hS3 hS2 hA hgr hsz hC0 hrl
      generalize (rh1 (fls K) 0).1 = x1 at *
      generalize (rh1 (fls K) 0).2 = x2 at *
      generalize (rh1 (fls K) 4).1 = x3 at *
      generalize (rh1 (fls K) 4).2 = x4 at *
      generalize (rh1 (fls K) 2).1 = x5 at *
      generalize (rh1 (fls K) 2).2 = x6 at *
      generalize w2.heap.size = B at *
      go_quiet (fail)
      have HP := hide (fun W => pick_det great 1000000000 W hg.1 hg.2 (by decide) (by decide))
      have hpb := pk_range great (n := 1000000000) (by decide)
      have HP2 := hide (fun W => pick_det at_ ((k : Int) + 1) W ha.1 ha.2 (by omega) (by omega))
      have hpb2 := pk_range at_ (n := (k : Int) + 1) (by omega)
      have HP3 := hide (fun W => pick_det back ((k : Int) + 1 + 1) W hb.1 hb.2 (by omega) (by omega))
      have hpb3 := pk_range back (n := (k : Int) + 1 + 1) (by omega)
      generalize pk great 1000000000 = pg at *
      generalize pk at_ ((k : Int) + 1) = pa at *
      generalize pk back ((k : Int) + 1 + 1) = pb at *
      have hown4 : Hid ((w4.drewN nq).ownsRow (w.heap.size + 1) 23 1 u9 k ((mixF K 0).map (Value.float .f64))) := by rw [mixF_zero]; exact fr_block hS4.out.own (fun g _ => rfl)
      have hbl4 := hide (below_drewN hS4.out.bl nq)
      have hsz4 : w.heap.size + 1 ≤ (w4.drewN nq).heap.size := hS4.out.sz
      generalize w4.drewN nq = w5 at *
      clear hS4 hca hcb hcc hd0 hd4 hd2 o1 o2 o3 o4 o5 o6 hz2 hlt HX
      obtain ⟨xp, xc, rfl⟩ := row_form hown4.out
      go_wp2_with fail
      refine (HP.out _).mono ?_
      rintro e w9 ⟨rfl, rfl⟩
      clear HP
      go_wp2
      go_loopw [17] (fun i wr => ∃ j : Nat, j ≤ k ∧ i = .int .i64 j ∧ Hid (wr.ownsRow (w.heap.size + 1) 23 1 (.slice xp k xc) k ((mixF K j).map (Value.float .f64))) ∧ Hid (Below w.heap.size w wr) ∧ w.heap.size + 1 ≤ wr.heap.size) (fun i _ => k - (intOf i).toNat)
      case atStart => exact ⟨0, by omega, rfl, hown4.out, hbl4.out, hsz4⟩
      case round =>
        obtain ⟨j, hj, rfl, hown, hbl, hsz⟩ := hrel
        clear hown4 hbl4 hsz4
        by_cases hlt : j < k
        ·
          have hjK : j < K.length := by rw [HKL.out]; exact hlt
          obtain ⟨g, rfl⟩ : ∃ g, xp = some ⟨g, 0, none⟩ := by
            rcases hown.out.2 with ⟨e, e2⟩ | ⟨g, cap', cur, e, _⟩
            · omega
            · injection e with e1 _ _
              exact ⟨g, e1⟩
          obtain ⟨hnc, hcm, hcell, hfr⟩ := ownF_at hown.out hlt
          have hgb : w.heap.size + 1 ≤ g := (hown.out.lt g rfl).1
          have hq := q40_ok (k := K.getD j 0) (by have := HK.out.at hjK; omega)
          rw [mixF_at hjK] at hcell
          have r1 := fun w => run_float_arith (P := Try.prog) w .quo 23 .f64 _ _ _ hq.1
          have HN := hide (ownF_set (m := j) hown.out (q40 (K.getD j 0)))
          rw [mixF_next hjK] at HN
          have hqd : fop .quo (fi (K.getD j 0)) p40 = q40 (K.getD j 0) := rfl
          rw [hqd] at r1
          have HB := hide (hbl.out.setCell (p := ⟨g, j, none⟩) (by simp; omega) (.float .f64 (q40 (K.getD j 0))))
          clear hq hqd hown hbl
          generalize q40 (K.getD j 0) = yq at *
          generalize fi (K.getD j 0) = yf at *
          go_wp2
          go_roundw
          case rel => exact ⟨j + 1, by omega, by go_num, HN.out, HB.out, by simp [World.setCell]; omega⟩
          case measure => simp [intOf]; omega
        · obtain rfl : j = k := by omega
          obtain ⟨ia, rfl⟩ : ∃ ia : Nat, pa = (ia : Int) := ⟨pa.toNat, by omega⟩
          obtain ⟨ib, rfl⟩ : ∃ ib : Nat, pb = (ib : Int) := ⟨pb.toNat, by omega⟩
          have hgt := Grt.of (b := 1 + pg) (by omega) (by omega)
          have HZ := hide (zlist_ok HK.out hgt (i := ia) (j := ib) (by rw [HKL.out]; omega) (by rw [HKL.out]; omega))
          have hma := mixF_all K
          rw [HKL.out] at hma
          rw [hma] at hown
          have hXl : (K.map q40).length = j := by rw [List.length_map, HKL.out]
          have HSM : Hid (z = K.sum) := by
            rw [HZ1.out]
            unfold ws
            simp only [Int.mul_one]
            show _ = _
            congr 1
            apply List.ext_getElem (by simp)
            intro i h1 h2
            simp [List.getD, h2]
          have hzb2 := hzb
          have hqz := q40_ok (k := z) (by omega)
          clear hma HZ1
          generalize hX : K.map q40 = X at *
          obtain ⟨bg, hbg⟩ : ∃ bg, Hid (fi (1 + pg) = bg) := ⟨_, rfl⟩
          obtain ⟨nb, hnb⟩ : ∃ nb, Hid (Op.negFloat .f64 (fi (1 + pg)) = nb) := ⟨_, rfl⟩
          rw [hnb.out, hbg.out] at HZ
          have hbg2 : floatOfInt .f64 (1 + pg) = bg := hbg.out
          have hnb2 : Op.negFloat .f64 bg = nb := by rw [← hbg.out]; exact hnb.out
          clear hgt hX
          go_upto_region 23 with fail
          rw [hbg2]
          clear hbg2 hbg hnb
          have hka : ia ≤ X.length := by omega
          have hX0 : Fls wr (.slice xp j xc) X := Fls.own hown.out
          have bel0 := (Below.refl wr.heap.size wr).alloc (Nat.le_refl _) (.cells #[] 23)
          have own0 := emptyF wr wr.heap.size (Nat.le_refl _)
          have hFx := hide (hX0.below bel0)
          have HX0 := hide hX0
          have B0 := hide bel0
          have O0 := hide own0
          have hla : (X.take ia).length = ia := by rw [List.length_take]; omega
          clear hX0 bel0 own0 hown
          go_wp2_with fail
          refine (HP2.out _).mono ?_
          rintro e w9 ⟨rfl, rfl⟩
          clear HP2
          have hwr : w.heap.size ≤ wr.heap.size := by omega
          have HBW := hide hbl.out
          clear hbl
          go_upto_region 25 with (first
            | (refine wpList_headF rfl _ _ rfl xp j xc ia X rfl rfl hFx.out hka ?_; intro u1 hu1)
            | (at_builtin; refine wpList_appG rfl _ _ rfl wr.heap.size (.slice (some ⟨wr.heap.size, 0, none⟩) 0 0) [] rfl O0.out u1 (X.take ia) rfl hu1 (by rw [List.length_nil, hla]; omega) (by simp) ?_; intro v2 w2 hown2 hg2; have B2 := hide (Below.row B0.out O0.out hg2 (by simp)); have O2 := hide hown2; clear hown2 hg2 hu1)
            | (at_builtin; refine wpList_pushG rfl _ _ rfl wr.heap.size v2 (X.take ia) rfl (O2.out.alloc _) w2.heap.size bg rfl (alloc_at w2 _) (by rw [hla]; omega) (by have := B2.out.size; simp; omega) ?_; intro v3 w3 hown3 hg3; have B3 := hide (Below.row (B2.out.alloc B2.out.size _) (O2.out.alloc _) hg3 (by have := B2.out.size; simp; omega)); have O3 := hide hown3; clear hown3 hg3 O2 B2))
          clear O0 B0 hFx
          have hF3 := hide (HX0.out.below B3.out)
          go_upto_region 26 with (first
            | (refine wpList_tailF rfl _ _ rfl xp j xc ia X rfl rfl hF3.out hka ?_; intro u4 hu4)
            | (at_builtin; refine wpList_appG rfl _ _ rfl wr.heap.size v3 (X.take ia ++ [bg]) rfl O3.out u4 (X.drop ia) rfl hu4 (by rw [List.length_append, hla, List.length_singleton, List.length_drop]; omega) B3.out.size ?_; intro v5 w5 hown5 hg5; have B5 := hide (Below.row B3.out O3.out hg5 B3.out.size); have O5 := hide hown5; clear hown5 hg5 hu4))
          clear O3 B3 hF3 HX0
          obtain ⟨Y, hY⟩ : ∃ Y, Hid ((X.take ia ++ [bg]) ++ X.drop ia = Y) := ⟨_, rfl⟩
          rw [hY.out] at O5
          have hYl : Y.length = j + 1 := by rw [← hY.out]; simp; omega
          have HZE : Hid ((Y.take ib ++ [nb]) ++ Y.drop ib = zlist X ia ib bg nb) := by rw [← hY.out]; exact rfl
          rw [hYl] at O5
          obtain ⟨yp, yc, rfl⟩ := row_form O5.out
          have BW5 := hide (HBW.out.trans (B5.out.mono hwr))
          have hw5 := B5.out.size
          clear B5 HBW hY
          have hkb : ib ≤ Y.length := by omega
          have hlb : (Y.take ib).length = ib := by rw [List.length_take]; omega
          have O5' : w5.ownsRow wr.heap.size 23 1 (.slice yp (j + 1) yc) (j + 1) (Y.map (Value.float .f64)) := O5.out
          have hY0 : Fls w5 (.slice yp (j + 1) yc) Y := Fls.own O5'
          have bel0 := (Below.refl w5.heap.size w5).alloc (Nat.le_refl _) (.cells #[] 23)
          have own0 := emptyF w5 w5.heap.size (Nat.le_refl _)
          have hFy := hide (hY0.below bel0)
          have HY0 := hide hY0
          have B0 := hide bel0
          have O0 := hide own0
          clear hY0 bel0 own0 O5 O5'
          have hZ := HZ.out
          have o9 : FloatKind.f64.format.order (sm (tl (zlist X ia ib bg nb))) (q40 z) = some .eq := by
            have e1 := hZ.sum
            rw [← HSM.out] at e1
            have e2 : FloatKind.f64.format.order (sm (tl (zlist X ia ib bg nb))) (q40 z) = some (compare (z * (EU : Int)) (z * (EU : Int))) := order_fv e1 hqz.2
            rw [e2, Int.compare_eq_eq.2 rfl]
          have r9 := fun w => run_float_arith (P := Try.prog) w .quo 23 .f64 _ _ _ hqz.1
          have hqd : fop .quo (fi z) p40 = q40 z := rfl
          rw [hqd] at r9
          have HSUM := hide (fun (v9 : Value) (W : World) (h9 : Fls W v9 (zlist X ia ib bg nb)) => sum_ok v9 _ W h9 hZ.chk hZ.all hZ.ok)
          clear hZ HZ hqd hqz HSM
          go_wp2_with fail
          refine (HP3.out _).mono ?_
          rintro e w9 ⟨rfl, rfl⟩
          clear HP3
          go_upto_region 28 with (first
            | (refine wpList_headF rfl _ _ rfl yp (j + 1) yc ib Y rfl rfl hFy.out hkb ?_; intro u1 hu1)
            | (at_builtin; refine wpList_appG rfl _ _ rfl w5.heap.size (.slice (some ⟨w5.heap.size, 0, none⟩) 0 0) [] rfl O0.out u1 (Y.take ib) rfl hu1 (by rw [List.length_nil, hlb]; omega) (by simp) ?_; intro v2 w2 hown2 hg2; have B2 := hide (Below.row B0.out O0.out hg2 (by simp)); have O2 := hide hown2; clear hown2 hg2 hu1)
            | (at_builtin; refine wpList_pushG rfl _ _ rfl w5.heap.size v2 (Y.take ib) rfl (O2.out.alloc _) w2.heap.size nb rfl (alloc_at w2 _) (by rw [hlb]; omega) (by have := B2.out.size; simp; omega) ?_; intro v3 w3 hown3 hg3; have B3 := hide (Below.row (B2.out.alloc B2.out.size _) (O2.out.alloc _) hg3 (by have := B2.out.size; simp; omega)); have O3 := hide hown3; clear hown3 hg3 O2 B2))
          clear O0 B0 hFy
          have hF3 := hide (HY0.out.below B3.out)
          go_upto_region 29 with (first
            | (refine wpList_tailF rfl _ _ rfl yp (j + 1) yc ib Y rfl rfl hF3.out hkb ?_; intro u4 hu4)
            | (at_builtin; refine wpList_appG rfl _ _ rfl w5.heap.size v3 (Y.take ib ++ [nb]) rfl O3.out u4 (Y.drop ib) rfl hu4 (by rw [List.length_append, hlb, List.length_singleton, List.length_drop]; omega) B3.out.size ?_; intro v6 w6 hown6 hg6; have B6 := hide (Below.row B3.out O3.out hg6 B3.out.size); have O6 := hide hown6; clear hown6 hg6 hu4))
          clear O3 B3 hF3 HY0
          rw [HZE.out] at O6
          have HS9 := hide (HSUM.out v6 w6 (Fls.own O6.out))
          have BW6 := hide (BW5.out.trans (B6.out.mono (by omega)))
          clear HSUM O6 B6 BW5 HZE
          generalize sm (tl (zlist X ia ib bg nb)) = sf at *
          generalize q40 z = qf at *
          go_wp2_with fail
          refine HS9.out.mono ?_
          rintro e w7 ⟨rfl, hb7⟩
          have BW7 := hide (BW6.out.trans (hb7.mono BW6.out.size))
          clear HS9 hb7 BW6
          go_wp2
          go_ret
          exact ⟨rfl, BW7.out⟩

end Go.Proofs.Ytbhmhgkbobajfaa
