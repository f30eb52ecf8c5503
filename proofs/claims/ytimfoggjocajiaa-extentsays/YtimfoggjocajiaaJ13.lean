/- Joined: ExO, ExI, ExK, ExL, ExM. -/
import Derived.Test.YtimfoggjocajiaaJ12
import Derived.Test.YtimfoggjocajiaaJ8
import Derived.Test.YtimfoggjocajiaaJ6
import Derived.Test.YtimfoggjocajiaaJ7
import Derived.Test.YtimfoggjocajiaaJ11
import Derived.Test.YtimfoggjocajiaaJ4
/- ExtentSays: refusals; groups that are too great. -/
namespace Go.Proofs.Ytimfoggjocajiaa
open Go.RowKit

set_option maxRecDepth 20000 in
set_option maxHeartbeats 4000000 in
theorem exits_lim (n : Nat) (v1 v2 : Value) (xs ys : List Int) (w : World) (h1 : Ints w v1 xs) (h2 : Ints w v2 ys) (hn1 : 1 ≤ n) (h12 : n ≤ 12) (hl : xs.length = n) (hR : RowsN n [xs, ys]) (hs : 5040 < sz (G2 xs ys) n) :
    Calls Try.prog 94 #[v1, v2] w fun e w' => ExNo 3 w e w' := by
  have HMk : Hid (∀ (W : World) (v : Value), IntsAll W v [xs, ys] → Calls Try.prog 14 #[.int .i64 n, v] W fun e w' => ∃ u, e = .returned (.tuple #[u, .int .i64 0]) ∧ GroupAt w' u n ([xs, ys].map pad) ∧ Below W.heap.size W w') := fun W v hv => make_ok n v [xs, ys] W hv hn1 h12 (by simp) hR
  have H1 := hide h1
  have H2 := hide h2
  have HS := hide hs
  obtain ⟨p1, c1, e1⟩ := h1.form
  obtain ⟨p2, c2, e2⟩ := h2.form
  rw [hl] at e1
  rw [(hR ys (by simp)).2] at e2
  subst e1
  subst e2
  clear h1 h2 hR hl hs
  have hal : Below w.heap.size w (w.alloc (.cells #[.slice none 0 0, .slice none 0 0] 129)) := (Below.refl _ _).alloc (Nat.le_refl _) _
  have HI2 := hide (ints_two (w := w.alloc (.cells #[.slice none 0 0, .slice none 0 0] 129)) (m := w.heap.size + 1) (by simp) (H1.out.below hal) (H2.out.below hal))
  have HBW : Hid (Below w.heap.size w ((w.alloc (.cells #[.slice none 0 0, .slice none 0 0] 129)).alloc (.cells #[.slice p1 n c1, .slice p2 n c2] 23))) := hal.alloc (by simp) _
  have HBW2 : Hid (Below (w.heap.size + 1) (w.alloc (.cells #[.slice none 0 0, .slice none 0 0] 129)) ((w.alloc (.cells #[.slice none 0 0, .slice none 0 0] 129)).alloc (.cells #[.slice p1 n c1, .slice p2 n c2] 23))) := (Below.refl _ _).alloc (by simp) _
  clear hal
  go_enter Try.func94, Try.ntmps94
  go_wp2_with fail
  refine (HMk.out _ _ HI2.out).mono ?_
  rintro ex w3 ⟨u3, rfl, hG3, hb3⟩
  have HG3 := hide hG3
  obtain ⟨gb3, _, _, _, _, _, _, rfl, _⟩ := hG3
  have hB3 := HBW.out.trans (hb3.mono HBW.out.size)
  have HB3 : Hid (Below (w.heap.size + 1) (w.alloc (.cells #[.slice none 0 0, .slice none 0 0] 129)) w3) := HBW2.out.trans (hb3.mono (by simp))
  have HEl := hide (elements_ok n _ ([xs, ys].map pad) w3 h12 HG3.out)
  clear hb3 HMk HI2 HBW HBW2
  go_wp2_with fail
  refine HEl.out.mono ?_
  rintro ex w4 hE
  unfold ElPost at hE
  rw [if_pos (show 5040 < sz (G2 xs ys) n from HS.out)] at hE
  obtain ⟨hb4, rfl⟩ := hE
  have HB4 := hide (hB3.trans (hb4.mono hB3.size))
  have hb49 := HB3.out.trans (hb4.mono (Nat.le_trans (by simp) HB3.out.size))
  have hblk : w4.heap[w.heap.size]? = some (.cells #[.slice none 0 0, .slice none 0 0] 129) := (hb49.block w.heap.size (by omega)).trans (heap_alloc_last w _)
  clear hb4 hB3 HB3 HEl hb49
  go_wp2_with (first | refine wpList_load_two rfl _ rfl w.heap.size _ _ _ hblk rfl ?_ | refine wpList_store_two rfl _ _ rfl w.heap.size _ _ (.slice none 0 0) (.slice none 0 0) _ hblk rfl rfl rfl rfl ?_)
  go_wp2_with (first | refine wpList_load_two rfl _ rfl w.heap.size _ _ _ hblk rfl ?_ | refine wpList_store_two rfl _ _ rfl w.heap.size _ _ (.slice none 0 0) (.slice none 0 0) _ hblk rfl rfl rfl rfl ?_)
  intro w7 hblk7 hg7
  have HB7 : Hid (Below w.heap.size w w7) := HB4.out.grown hg7 HB4.out.size (fun k hk => by have := Option.some.inj hk; omega)
  clear hg7 hblk
  go_wp2
  exact ret_two_tmp (p := 4) (u := 5) rfl rfl rfl hblk7 rfl ⟨rfl, HB7.out⟩

set_option maxRecDepth 20000 in
theorem qsets_no (v1 v2 : Value) (c : Int) (w : World) (hc : c ≠ 0) (hx : Calls Try.prog 94 #[v1, v2] w fun e w' => ExNo c w e w') :
    Calls Try.prog 48 #[v1, v2] w fun e w' => QNo c w e w' := by
  have HEx := hide hx
  have hne : (c != 0) = true := by rw [bne_iff_ne]; exact hc
  clear hx hc
  go_enter Try.func48, Try.ntmps48
  go_wp2_with fail
  refine HEx.out.mono ?_
  rintro ex w1 ⟨rfl, hb1⟩
  have hblk := heap_alloc_last w1 (.cells #[.slice none 0 0, .slice none 0 0] 129)
  have HB1 := hide hb1
  clear hb1 HEx
  go_wp2_with (refine wpList_store_two rfl _ _ rfl w1.heap.size _ _ (.slice none 0 0) (.slice none 0 0) _ hblk rfl rfl rfl rfl ?_)
  intro w2 _ hg2
  have hb2 : Below w1.heap.size w1 w2 := ((Below.refl _ _).alloc (Nat.le_refl _) _).grown hg2 (by simp) (fun k hk => by have := Option.some.inj hk; omega)
  have HB2 := hide (HB1.out.trans (hb2.mono HB1.out.size))
  clear hg2 hb2 hblk
  go_wp2
  go_ret2
  exact ⟨rfl, HB2.out⟩

set_option maxRecDepth 20000 in
theorem rounds_no (v1 v2 v3 : Value) (c : Int) (w : World) (hc : c ≠ 0) (hx : Calls Try.prog 94 #[v1, v2] w fun e w' => ExNo c w e w') :
    Calls Try.prog 49 #[v1, v2, v3] w fun e w' => e = .returned (.tuple #[.int .i64 0, .int .i64 c]) ∧ Below w.heap.size w w' := by
  have HEx := hide hx
  have hne : (c != 0) = true := by rw [bne_iff_ne]; exact hc
  clear hx hc
  go_enter Try.func49, Try.ntmps49
  go_wp2_with fail
  refine HEx.out.mono ?_
  rintro ex w1 ⟨rfl, hb1⟩
  have hblk := heap_alloc_last w1 (.cells #[.slice none 0 0, .slice none 0 0] 129)
  have HB1 := hide hb1
  clear hb1 HEx
  go_wp2_with (refine wpList_store_two rfl _ _ rfl w1.heap.size _ _ (.slice none 0 0) (.slice none 0 0) _ hblk rfl rfl rfl rfl ?_)
  intro w2 _ hg2
  have hb2 : Below w1.heap.size w1 w2 := ((Below.refl _ _).alloc (Nat.le_refl _) _).grown hg2 (by simp) (fun k hk => by have := Option.some.inj hk; omega)
  have HB2 := hide (HB1.out.trans (hb2.mono HB1.out.size))
  clear hg2 hb2 hblk
  go_wp2
  go_ret2
  exact ⟨rfl, HB2.out⟩

set_option maxRecDepth 20000 in
set_option maxHeartbeats 4000000 in
theorem extentSays_no (v1 v2 v3 : Value) (xs ys : List Int) (c : Int) (w : World) (h1 : Ints w v1 xs) (h2 : Ints w v2 ys) (hc : c ≠ 0)
    (hk : ∀ W v, IntsAll W v [xs, ys] → Calls Try.prog 16 #[.int .i64 ((xs.length : Nat) : Int), v] W fun e w' => e = .returned (.int .i64 c) ∧ Below W.heap.size W w')
    (hm : ∀ W v, IntsAll W v [xs, ys] → Calls Try.prog 15 #[.int .i64 ((xs.length : Nat) : Int), v] W fun e w' => e = .returned (.int .i64 c) ∧ W = w') :
    Calls Try.prog 8 #[v1, v2, v3] w fun e w' => Told w e w' := by
  have HEx : Hid (∀ W, Below w.heap.size w W → Calls Try.prog 94 #[v1, v2] W fun e w' => ExNo c W e w') := fun W hW => exits_no v1 v2 xs ys c W (h1.below hW) (h2.below hW) hc hk
  have HQ : Hid (∀ W, Below w.heap.size w W → Calls Try.prog 48 #[v1, v2] W fun e w' => QNo c W e w') := fun W hW => qsets_no v1 v2 c W hc (HEx.out W hW)
  have HRd : Hid (∀ W, Below w.heap.size w W → Calls Try.prog 49 #[v1, v2, v3] W fun e w' => e = .returned (.tuple #[.int .i64 0, .int .i64 c]) ∧ Below W.heap.size W w') := fun W hW => rounds_no v1 v2 v3 c W hc (HEx.out W hW)
  have HM := hide hm
  have hne : (c == 0) = false := beq_eq_false_iff_ne.2 hc
  have hne2 : (c != 0) = true := by rw [bne_iff_ne]; exact hc
  have HI2 := hide (ints_two (w := w) (m := w.heap.size) rfl h1 h2)
  obtain ⟨p1, c1, e1⟩ := h1.form
  obtain ⟨p2, c2, e2⟩ := h2.form
  subst e1
  subst e2
  generalize xs.length = l1 at *
  generalize ys.length = l2 at *
  have HB0 : Hid (Below w.heap.size w (w.alloc (.cells #[.slice p1 l1 c1, .slice p2 l2 c2] 23))) := (Below.refl _ _).alloc (Nat.le_refl _) _
  clear h1 h2 hk hm hc HEx
  go_enter Try.func8, Try.ntmps8
  go_wp2_with fail
  refine (HM.out _ _ HI2.out).mono ?_
  rintro ex w1 ⟨rfl, hw1⟩
  have HB1 : Hid (Below w.heap.size w w1) := by rw [← hw1]; exact HB0.out
  clear hw1 HM HI2 HB0
  go_wp2_with fail
  refine (HQ.out w1 HB1.out).mono ?_
  rintro ex w2 ⟨rfl, hb2⟩
  have HB2 := hide (HB1.out.trans (hb2.mono HB1.out.size))
  clear hb2 HB1
  go_wp2_with fail
  refine (HRd.out w2 HB2.out).mono ?_
  rintro ex w3 ⟨rfl, hb3⟩
  have HB3 := hide (HB2.out.trans (hb3.mono HB2.out.size))
  clear hb3 HB2
  go_wp2
  go_ret
  exact ⟨rfl, HB3.out⟩

end Go.Proofs.Ytimfoggjocajiaa

/- Plain: RANKIN: how many circuits there are, even or odd. -/
namespace Go.Proofs.Ytimfoggjocajiaa

theorem odd_take (l : List (List Int)) : ∀ j, j ≤ l.length → ((l.take j).flatten.length + j + (if oddTo l j = true then 1 else 0)) % 2 = 0
  | 0, _ => by simp [oddTo]
  | j + 1, hj => by
    have ih := odd_take l j (by omega)
    have hg : l[j]? = some l[j] := List.getElem?_eq_getElem (by omega)
    have e1 : (l.take (j + 1)).flatten.length = (l.take j).flatten.length + (l.getD j []).length := by
      rw [List.take_add_one, hg, List.flatten_append, List.length_append, List.getD, hg]
      simp
    have e2 : oddTo l (j + 1) = if (l.getD j []).length % 2 = 0 then !(oddTo l j) else oddTo l j := rfl
    rw [e1, e2]
    generalize (l.take j).flatten.length = s at *
    generalize (l.getD j []).length = c at *
    clear e1 e2 hg
    cases hb : oddTo l j <;> rw [hb] at ih <;> by_cases h : c % 2 = 0
    · rw [if_pos h]; simp at ih ⊢; omega
    · rw [if_neg h]; simp at ih ⊢; omega
    · rw [if_pos h]; simp at ih ⊢; omega
    · rw [if_neg h]; simp at ih ⊢; omega

theorem flat_count {r : List Int} (hr : isRow r) : (cycsTo r r.length).flatten.length = r.length := by
  have h1 := cyc_nodup hr r.length (Nat.le_refl _)
  have h2 : ((List.range r.length).map (fun i => ((i : Nat) : Int))).Nodup := nodup_mapI _ (fun a b h => by omega) _ List.nodup_range
  have h3 := len_same _ _ h1 h2 (fun x => ?_)
  · rw [h3]; simp
  · rw [List.mem_map]
    constructor
    · intro hx
      obtain ⟨C, hC, hxC⟩ := List.mem_flatten.1 hx
      obtain ⟨y, hy, rfl⟩ := cyc_form hC
      obtain ⟨j, hj, e⟩ := mem_orb.1 hxC
      exact ⟨it r j y, List.mem_range.2 (it_lt hr hy j), e.symm⟩
    · rintro ⟨i, hi, rfl⟩
      exact flat_all hr r.length (Nat.le_refl _) i (List.mem_range.1 hi)

theorem odd_count {r : List Int} (hr : isRow r) : (r.length + (cycsTo r r.length).length + (if odd r = true then 1 else 0)) % 2 = 0 := by
  have h := odd_take (cycsTo r r.length) _ (Nat.le_refl _)
  rw [List.take_length, flat_count hr] at h
  exact h

theorem odd_pw {r : List Int} (hr : isRow r) : ∀ k, odd (pw r k) = (decide (k % 2 = 1) && odd r)
  | 0 => by
    have e : pw r 0 = rnd r.length := pw_rnd.2 (fun x _ => rfl)
    rw [e, odd_rnd]; rfl
  | k + 1 => by
    rw [← pw_succ hr k, odd_by (isRow_pw hr k) hr (by rw [pw_length]), odd_pw hr k]
    rcases Nat.mod_two_eq_zero_or_one k with h | h
    · rw [show (k + 1) % 2 = 1 by omega, h]; cases odd r <;> rfl
    · rw [show (k + 1) % 2 = 0 by omega, h]; cases odd r <;> rfl

theorem odd_none {r : List Int} (hr : isRow r) {o : Nat} (ho : o % 2 = 1) (h : pw r o = rnd r.length) : odd r = false := by
  have h1 := odd_pw hr o
  rw [h, odd_rnd, ho] at h1
  simpa using h1.symm

/-- Powers. -/
noncomputable def pwP (p : Pm) : Nat → Pm
  | 0 => 1
  | k + 1 => p * pwP p k

theorem pwP_comm (p : Pm) : ∀ k, p * pwP p k = pwP p k * p
  | 0 => by show p * 1 = 1 * p; rw [Pm.mul_one, Pm.one_mul]
  | k + 1 => by show p * (p * pwP p k) = p * pwP p k * p; rw [Pm.mul_assoc, ← pwP_comm p k]

theorem pwP_add (p : Pm) (i : Nat) : ∀ j, pwP p (i + j) = pwP p i * pwP p j
  | 0 => by show pwP p i = pwP p i * 1; rw [Pm.mul_one]
  | j + 1 => by
    show p * pwP p (i + j) = pwP p i * (p * pwP p j)
    rw [pwP_add p i j, ← Pm.mul_assoc, pwP_comm, Pm.mul_assoc]

theorem pwP_inv (p : Pm) : ∀ k, pwP p⁻¹ k = (pwP p k)⁻¹
  | 0 => by show (1 : Pm) = 1⁻¹; rw [Pm.inv_one]
  | k + 1 => by
    show p⁻¹ * pwP p⁻¹ k = (p * pwP p k)⁻¹
    rw [pwP_inv p k, pwP_comm, Pm.inv_prod]

theorem it_cut {n : Nat} (h12 : n ≤ 12) {p : Pm} (hf : Fixes (fun b => n ≤ b) p) {x : Nat} (hx : x < n) : ∀ k, it (cut n p) k x = (pwP p k).act x
  | 0 => by show x = (1 : Pm).act x; rw [Pm.act_one]
  | k + 1 => by
    show nx (cut n p) (it (cut n p) k x) = (p * pwP p k).act x
    rw [it_cut h12 hf hx k, Pm.act_mul]
    have hlt : (pwP p k).act x < n := by
      rw [← it_cut h12 hf hx k]
      have := it_lt (cut_row h12 hf) (x := x) (by rw [cut_length h12]; exact hx) k
      rwa [cut_length h12] at this
    unfold nx
    rw [cut_get p h12 hlt]
    exact Int.toNat_natCast _

theorem pwP_fix {n : Nat} {p : Pm} (hf : Fixes (fun b => n ≤ b) p) : ∀ k, Fixes (fun b => n ≤ b) (pwP p k)
  | 0 => (fixes_sub _).one
  | k + 1 => (fixes_sub _).mul hf (pwP_fix hf k)

theorem pwP_ord {n : Nat} (h12 : n ≤ 12) {p : Pm} (hf : Fixes (fun b => n ≤ b) p) : pwP p (ord (cut n p)) = 1 := by
  have h := pw_rnd.1 ((ord_pw (cut_row h12 hf) (ord (cut n p))).2 (Nat.dvd_refl _))
  rw [cut_length h12] at h
  refine Pm.ext' (fun b _ => ?_)
  rw [Pm.act_one]
  rcases Nat.lt_or_ge b n with hb | hb
  · rw [← it_cut h12 hf hb]; exact h b hb
  · exact pwP_fix hf _ b hb

/-- From a row by a change, again and again. -/
theorem it_mv {X : List Pm} (hn : X.Nodup) {a : Pm} (hc : Cls X a) {r : Nat} {p : Pm} (hr : X[r]? = some p) : ∀ k, p * pwP a k ∈ X ∧ it (mv X a) k r = ix X (p * pwP a k)
  | 0 => by
    show p * 1 ∈ X ∧ r = ix X (p * 1)
    rw [Pm.mul_one]
    exact ⟨List.mem_of_getElem? hr, (ix_of hn hr).symm⟩
  | k + 1 => by
    obtain ⟨h1, h2⟩ := it_mv hn hc hr k
    have e : p * pwP a (k + 1) = p * pwP a k * a := by
      show p * (a * pwP a k) = _
      rw [pwP_comm, Pm.mul_assoc]
    rw [e]
    refine ⟨hc _ h1, ?_⟩
    show nx (mv X a) (it (mv X a) k r) = _
    rw [h2, mv_nx (ix_get h1)]

/-- A cycle is as long as the row's powers are many. -/
theorem per_mv {n : Nat} {G : Pm → Prop} {X : List Pm} (hR : Rws n G X) {a : Pm} (ha : G a) {r : Nat} (hr : r < X.length) : pwP a (per (mv X a) r) = 1 ∧ ∀ q, 1 ≤ q → q < per (mv X a) r → pwP a q ≠ 1 := by
  have hp : X[r]? = some X[r] := List.getElem?_eq_getElem hr
  have hI := it_mv hR.nodup (hR.cls ha) hp
  obtain ⟨_, _, p3, p4⟩ := per_spec (mv_row hR.nodup (hR.cls ha)) (x := r) (by rw [mv_length]; exact hr)
  constructor
  · have h9 := (hI (per (mv X a) r)).2
    rw [p3] at h9
    have h8 := ix_get (hI (per (mv X a) r)).1
    rw [← h9, hp] at h8
    have e := Option.some.inj h8
    have := congrArg (fun z => X[r]⁻¹ * z) e
    simp only [Pm.inv_mul, Pm.inv_mul_cancel] at this
    exact this.symm
  · intro q h1 h2 e
    refine p4 q h1 h2 ?_
    rw [(hI q).2, e, Pm.mul_one]
    exact ix_of hR.nodup hp

theorem sz_pow {n : Nat} (h12 : n ≤ 12) {a : Pm} (hf : Fixes (fun b => n ≤ b) a) {q : Nat} (hq : 1 ≤ q) (h1 : pwP a q = 1) (h2 : ∀ i, 1 ≤ i → i < q → pwP a i ≠ 1) : sz (Gen (fun y => y ∈ [a])) n = q := by
  have hnd : ((List.range q).map (pwP a)).Nodup := by
    rw [List.Nodup, List.pairwise_map]
    have key : ∀ i j, i < j → j < q → pwP a i ≠ pwP a j := fun i j hij hj e => by
      have e2 : pwP a j = pwP a i * pwP a (j - i) := by rw [← pwP_add]; congr 1; omega
      rw [e2] at e
      have := congrArg (fun z => (pwP a i)⁻¹ * z) e
      simp only [Pm.inv_mul, Pm.inv_mul_cancel] at this
      exact h2 (j - i) (by omega) (by omega) this.symm
    refine List.Pairwise.imp_of_mem (fun {i j} hi hj h e => ?_) (List.pairwise_lt_range (n := q))
    exact key i j h (List.mem_range.1 hj) e
  have hm : ∀ x, x ∈ (List.range q).map (pwP a) ↔ Gen (fun y => y ∈ [a]) x := fun x => by
    rw [List.mem_map]
    constructor
    · rintro ⟨i, _, rfl⟩
      have : ∀ i, Gen (fun y => y ∈ [a]) (pwP a i) := fun i => by
        induction i with
        | zero => exact Gen.one
        | succ i ih => exact Gen.mul (by simp) ih
      exact this i
    · intro hx
      induction hx with
      | one => exact ⟨0, List.mem_range.2 (by omega), rfl⟩
      | mul hs _ ih =>
        obtain ⟨i, hi, rfl⟩ := ih
        rw [List.mem_singleton.1 hs]
        have hi' := List.mem_range.1 hi
        by_cases e : i + 1 = q
        · exact ⟨0, List.mem_range.2 (by omega), by show (1 : Pm) = pwP a (i + 1); rw [e, h1]⟩
        · exact ⟨i + 1, List.mem_range.2 (by omega), rfl⟩
  have := sz_is (Gen.sub (fun y => y ∈ [a])) h12 (fun x hx => hx.least (fixes_sub _) (fun s hs => by rw [List.mem_singleton.1 hs]; exact hf)) hnd hm
  rw [← this]; simp

theorem flat_same {q : Nat} : ∀ (l : List (List Int)), (∀ c, c ∈ l → c.length = q) → l.flatten.length = l.length * q
  | [], _ => by simp
  | c :: l, h => by
    rw [List.flatten_cons, List.length_append, h c List.mem_cons_self, flat_same l (fun d hd => h d (List.mem_cons_of_mem _ hd)), List.length_cons, Nat.succ_mul, Nat.add_comm]

/-- How many circuits x alone makes. -/
theorem plain_count {n : Nat} {G : Pm → Prop} {X : List Pm} (hR : Rws n G X) {a : Pm} (ha : G a) : (cycsTo (mv X a) X.length).length * sz (Gen (fun y => y ∈ [a])) n = X.length := by
  have hrow := mv_row hR.nodup (hR.cls ha)
  have hml := mv_length X a
  have h0 := hR.pos
  have hper : ∀ r, r < X.length → per (mv X a) r = sz (Gen (fun y => y ∈ [a])) n := fun r hr => by
    obtain ⟨p1, _, _, _⟩ := per_spec hrow (x := r) (by rw [hml]; exact hr)
    obtain ⟨h1, h2⟩ := per_mv hR ha hr
    exact (sz_pow hR.twelve (hR.fix a ha) p1 h1 h2).symm
  have hfl := flat_count hrow
  rw [hml] at hfl
  rw [← flat_same (cycsTo (mv X a) X.length) (q := sz (Gen (fun y => y ∈ [a])) n) (fun c hc => by
    obtain ⟨y, hy, rfl⟩ := cyc_form hc
    rw [orb_length, hper y hy]), hfl]

/-- What turns the chosen sets about. -/
theorem turn_by {n : Nat} {G : Pm → Prop} {X : List Pm} (hR : Rws n G X) {a b : Pm} (ha : G a) (hb : G b) (A : List (List Int)) (cs : List Int) : by_ (mv X a) (nxL X 1 (b * a⁻¹) A cs) = nxL X a b A cs := by
  refine ext_getD (by rw [by_length, nxL_length, nxL_length]) (fun r hr => ?_)
  rw [by_length, nxL_length] at hr
  have hp : X[r]? = some X[r] := List.getElem?_eq_getElem hr
  have hm : (X[r] * if chc A cs r = 1 then b * a⁻¹ else 1) ∈ X := by
    refine hR.cls ?_ _ (List.mem_of_getElem? hp)
    split
    · exact hR.sub.mul hb (hR.sub.inv ha)
    · exact hR.sub.one
  rw [nxL_get hp]
  have e1 : (by_ (mv X a) (nxL X 1 (b * a⁻¹) A cs)).getD r 0 = (mv X a).getD (ix X (X[r] * if chc A cs r = 1 then b * a⁻¹ else 1)) 0 := by
    have h9 := nxL_get (a := 1) (b := b * a⁻¹) (A := A) (cs := cs) hp
    have hl : r < (nxL X 1 (b * a⁻¹) A cs).length := by rw [nxL_length]; exact hr
    rw [List.getD, List.getElem?_eq_getElem hl] at h9
    have h8 : (nxL X 1 (b * a⁻¹) A cs)[r] = _ := h9
    unfold by_
    rw [List.getD, List.getElem?_map, List.getElem?_eq_getElem hl, h8]
    rfl
  rw [e1, List.getD, mv_get (ix_get hm)]
  show ((ix X _ : Nat) : Int) = _
  congr 2
  split
  · rw [Pm.mul_assoc, Pm.mul_assoc, Pm.inv_mul, Pm.mul_one]
  · rw [Pm.mul_one]

theorem qs_turn (X : List Pm) (a b : Pm) : qs X 1 (b * a⁻¹) = qs X a b := by
  unfold qs
  rw [Pm.one_mul, Pm.inv_prod, Pm.inv_inv]

theorem turn_it {n : Nat} {G : Pm → Prop} {X : List Pm} (hR : Rws n G X) {a b : Pm} (ha : G a) (hb : G b) (cs : List Int) {r : Nat} {p : Pm} (hr : X[r]? = some p) : ∀ k, (p * if chc (qs X a b) cs r = 1 then pwP (b * a⁻¹) k else 1) ∈ X ∧ chc (qs X a b) cs (it (nxL X 1 (b * a⁻¹) (qs X a b) cs) k r) = chc (qs X a b) cs r ∧ it (nxL X 1 (b * a⁻¹) (qs X a b) cs) k r = ix X (p * if chc (qs X a b) cs r = 1 then pwP (b * a⁻¹) k else 1)
  | 0 => by
    have e : (p * if chc (qs X a b) cs r = 1 then pwP (b * a⁻¹) 0 else 1) = p := by
      split
      · show p * 1 = p; exact Pm.mul_one p
      · exact Pm.mul_one p
    rw [e]
    exact ⟨List.mem_of_getElem? hr, rfl, (ix_of hR.nodup hr).symm⟩
  | k + 1 => by
    obtain ⟨h1, h2, h3⟩ := turn_it hR ha hb cs hr k
    have hG : G (b * a⁻¹) := hR.sub.mul hb (hR.sub.inv ha)
    by_cases hc : chc (qs X a b) cs r = 1
    · rw [if_pos hc] at h1 h3 ⊢
      rw [hc] at h2
      have e : p * pwP (b * a⁻¹) (k + 1) = p * pwP (b * a⁻¹) k * (b * a⁻¹) := by
        show p * (b * a⁻¹ * pwP (b * a⁻¹) k) = _
        rw [pwP_comm, Pm.mul_assoc]
      have hm : p * pwP (b * a⁻¹) k * (b * a⁻¹) ∈ X := hR.cls hG _ h1
      have e2 : it (nxL X 1 (b * a⁻¹) (qs X a b) cs) (k + 1) r = ix X (p * pwP (b * a⁻¹) k * (b * a⁻¹)) := by
        show nx (nxL X 1 (b * a⁻¹) (qs X a b) cs) (it (nxL X 1 (b * a⁻¹) (qs X a b) cs) k r) = _
        rw [h3, nxL_nx (ix_get h1), ← h3, h2, if_pos rfl]
      rw [e]
      refine ⟨hm, ?_, e2⟩
      have hS := qs_sts hR ha hb
      have e3 : nx (mv X (a * b⁻¹)) (ix X (p * pwP (b * a⁻¹) k * (b * a⁻¹))) = ix X (p * pwP (b * a⁻¹) k) := by
        rw [mv_nx (ix_get hm)]
        congr 1
        rw [Pm.mul_assoc, Pm.mul_assoc b, ← Pm.mul_assoc a⁻¹, Pm.inv_mul, Pm.one_mul, Pm.mul_inv, Pm.mul_one]
      have e4 := hS.next_sof (r := ix X (p * pwP (b * a⁻¹) k * (b * a⁻¹))) (ix_lt hm)
      rw [e3, ← h3] at e4
      rw [e2, hc]
      have h5 : chc (qs X a b) cs (it (nxL X 1 (b * a⁻¹) (qs X a b) cs) k r) = 1 := h2
      unfold chc at h5 ⊢
      rw [← e4]; exact h5
    · rw [if_neg hc] at h1 h3 ⊢
      rw [Pm.mul_one] at h1 h3 ⊢
      have e2 : it (nxL X 1 (b * a⁻¹) (qs X a b) cs) (k + 1) r = ix X p := by
        show nx (nxL X 1 (b * a⁻¹) (qs X a b) cs) (it (nxL X 1 (b * a⁻¹) (qs X a b) cs) k r) = _
        rw [h3, nxL_nx (ix_get h1), ← h3, h2, if_neg hc, Pm.mul_one]
        exact h3.symm
      refine ⟨h1, ?_, e2⟩
      rw [e2, ix_of hR.nodup hr]

/-- RANKIN. -/
theorem rankin {n : Nat} {G : Pm → Prop} {X : List Pm} (hR : Rws n G X) {a b : Pm} (ha : G a) (hb : G b) (cs : List Int) {o : Nat} (ho : o % 2 = 1) (hpow : pwP (a * b⁻¹) o = 1) : (cycsTo (nxL X a b (qs X a b) cs) X.length).length % 2 = (cycsTo (mv X a) X.length).length % 2 := by
  have hG : G (b * a⁻¹) := hR.sub.mul hb (hR.sub.inv ha)
  have hT : isRow (nxL X 1 (b * a⁻¹) (qs X a b) cs) := by
    have h9 := nxL_row hR hR.sub.one hG cs
    rw [qs_turn] at h9
    exact h9
  have hp2 : pwP (b * a⁻¹) o = 1 := by
    have e : b * a⁻¹ = (a * b⁻¹)⁻¹ := by rw [Pm.inv_prod, Pm.inv_inv]
    rw [e, pwP_inv, hpow, Pm.inv_one]
  have hpw : pw (nxL X 1 (b * a⁻¹) (qs X a b) cs) o = rnd (nxL X 1 (b * a⁻¹) (qs X a b) cs).length := by
    refine pw_rnd.2 (fun r hr => ?_)
    rw [nxL_length] at hr
    have hp : X[r]? = some X[r] := List.getElem?_eq_getElem hr
    rw [(turn_it hR ha hb cs hp o).2.2, hp2, ite_self, Pm.mul_one]
    exact ix_of hR.nodup hp
  have h1 := odd_none hT ho hpw
  have hma := mv_row hR.nodup (hR.cls ha)
  have h2 := odd_by hma hT (by rw [nxL_length, mv_length])
  rw [turn_by hR ha hb, h1] at h2
  have h3 := odd_count (nxL_row hR ha hb cs)
  have h4 := odd_count hma
  rw [nxL_length] at h3
  rw [mv_length] at h4
  rw [h2] at h3
  cases ho2 : odd (mv X a) <;> rw [ho2] at h3 h4 <;> simp at h3 h4 <;> omega

end Go.Proofs.Ytimfoggjocajiaa

/- Plain: the answer's Qsets: labels that are made one, and lists by labels. -/
namespace Go.Proofs.Ytimfoggjocajiaa

/-- Labels while what is joined gets one. -/
structure LabOk (N : Nat) (σ : Nat → Nat) (A : List (List Int)) (i : Nat) (f : Nat → Int) : Prop where
  sound : ∀ j k, j < N → k < N → f j = f k → sof A j = sof A k
  full : ∀ r, r < i → r < N → f (σ r) = f r
  bnd : ∀ j, j < N → 0 ≤ f j ∧ f j < (N : Int)

theorem LabOk.start (N : Nat) (σ : Nat → Nat) (A : List (List Int)) : LabOk N σ A 0 (fun j => (j : Int)) :=
  ⟨fun j k _ _ h => by have : j = k := by omega
                       rw [this], fun r hr => by omega, fun j hj => ⟨by omega, by omega⟩⟩

theorem LabOk.same {N : Nat} {σ : Nat → Nat} {A : List (List Int)} {i : Nat} {f : Nat → Int} (h : LabOk N σ A i f) (he : f (σ i) = f i) : LabOk N σ A (i + 1) f :=
  ⟨h.sound, fun r hr hN => by
    by_cases e : r = i
    · rw [e]; exact he
    · exact h.full r (by omega) hN, h.bnd⟩

theorem LabOk.join {N : Nat} {σ : Nat → Nat} {A : List (List Int)} (hS : Sts N σ A) (hσ : ∀ r, r < N → σ r < N) {i : Nat} {f : Nat → Int} (h : LabOk N σ A i f) (hi : i < N) : LabOk N σ A (i + 1) (fun j => if f j = f i then f (σ i) else f j) := by
  have hn := hS.next_sof hi
  refine ⟨fun j k hj hk e => ?_, fun r hr hN => ?_, fun j hj => by
    show 0 ≤ (if f j = f i then f (σ i) else f j) ∧ (if f j = f i then f (σ i) else f j) < (N : Int)
    split
    · exact h.bnd _ (hσ i hi)
    · exact h.bnd j hj⟩
  · by_cases e1 : f j = f i
    · by_cases e2 : f k = f i
      · exact h.sound j k hj hk (e1.trans e2.symm)
      · rw [if_pos e1, if_neg e2] at e
        rw [h.sound j i hj hi e1, ← h.sound (σ i) k (hσ i hi) hk e, hn]
    · by_cases e2 : f k = f i
      · rw [if_neg e1, if_pos e2] at e
        rw [h.sound j (σ i) hj (hσ i hi) e, hn, h.sound k i hk hi e2]
      · rw [if_neg e1, if_neg e2] at e
        exact h.sound j k hj hk e
  · by_cases e : r = i
    · subst e
      rw [if_pos rfl]
      split
      · rfl
      · rfl
    · have h9 := h.full r (by omega) hN
      show (if f (σ r) = f i then f (σ i) else f (σ r)) = if f r = f i then f (σ i) else f r
      rw [h9]

/-- .. while all labels a are made b. -/
def relab (f : Nat → Int) (a b : Int) (m : Nat) (j : Nat) : Int := if j < m ∧ f j = a then b else f j

theorem LabOk.steps {N : Nat} {r : List Int} {A : List (List Int)} {f : Nat → Int} (h : LabOk N (nx r) A N f) (hr : isRow r) (hN : r.length = N) {j : Nat} (hj : j < N) : ∀ k, f (it r k j) = f j
  | 0 => rfl
  | k + 1 => by
    have h9 := it_lt hr (x := j) (by rw [hN]; exact hj) k
    rw [hN] at h9
    show f (nx r (it r k j)) = f j
    rw [h.full _ h9 h9, LabOk.steps h hr hN hj k]

/-- Those below i of a list, in order. -/
def asc (i : Nat) (C : List Int) : List Int := ((List.range i).filter (fun j => decide (((j : Nat) : Int) ∈ C))).map (fun j => ((j : Nat) : Int))

theorem asc_in {i : Nat} {C : List Int} (h : (i : Int) ∈ C) : asc (i + 1) C = asc i C ++ [(i : Int)] := by
  unfold asc
  rw [List.range_succ, List.filter_append, List.map_append]
  simp [h]

theorem asc_out {i : Nat} {C : List Int} (h : ¬ (i : Int) ∈ C) : asc (i + 1) C = asc i C := by
  unfold asc
  rw [List.range_succ, List.filter_append, List.map_append]
  simp [h]

theorem asc_none {i : Nat} {C : List Int} (h : ∀ j, j < i → ¬ (j : Int) ∈ C) : asc i C = [] := by
  unfold asc
  rw [List.map_eq_nil_iff, List.filter_eq_nil_iff]
  intro j hj
  simp [h j (List.mem_range.1 hj)]

theorem mem_asc {i : Nat} {C : List Int} {x : Int} : x ∈ asc i C ↔ ∃ j : Nat, j < i ∧ (j : Int) ∈ C ∧ x = (j : Int) := by
  unfold asc
  rw [List.mem_map]
  constructor
  · rintro ⟨j, hj, rfl⟩
    rw [List.mem_filter, List.mem_range] at hj
    exact ⟨j, hj.1, of_decide_eq_true hj.2, rfl⟩
  · rintro ⟨j, h1, h2, rfl⟩
    exact ⟨j, List.mem_filter.2 ⟨List.mem_range.2 h1, decide_eq_true h2⟩, rfl⟩

theorem asc_sorted (i : Nat) (C : List Int) : (asc i C).Pairwise (· < ·) := by
  unfold asc
  rw [List.pairwise_map]
  exact (List.Pairwise.imp (fun {a b} h => by omega) (List.Pairwise.filter _ (List.pairwise_lt_range (n := i))))

/-- Lists that rise and hold the same are the same. -/
theorem rise_eq : ∀ {l m : List Int}, l.Pairwise (· < ·) → m.Pairwise (· < ·) → (∀ x, x ∈ l ↔ x ∈ m) → l = m
  | [], [], _, _, _ => rfl
  | [], y :: _, _, _, h => by have := (h y).2 List.mem_cons_self; cases this
  | x :: _, [], _, _, h => by have := (h x).1 List.mem_cons_self; cases this
  | x :: l, y :: m, hl, hm, h => by
    obtain ⟨l1, l2⟩ := List.pairwise_cons.1 hl
    obtain ⟨m1, m2⟩ := List.pairwise_cons.1 hm
    have e : x = y := by
      rcases List.mem_cons.1 ((h x).1 List.mem_cons_self) with e | e
      · exact e
      · rcases List.mem_cons.1 ((h y).2 List.mem_cons_self) with e' | e'
        · exact e'.symm
        · have := m1 x e; have := l1 y e'; omega
    subst e
    rw [rise_eq l2 m2 (fun z => ?_)]
    constructor
    · intro hz
      rcases List.mem_cons.1 ((h z).1 (List.mem_cons_of_mem _ hz)) with e | e
      · have := l1 z hz; omega
      · exact e
    · intro hz
      rcases List.mem_cons.1 ((h z).2 (List.mem_cons_of_mem _ hz)) with e | e
      · have := m1 z hz; omega
      · exact e

theorem srt_rise {zs : List Int} (hn : zs.Nodup) : (srt zs).Pairwise (· < ·) := by
  have h1 : (srt zs).Pairwise (fun a b => decide (a ≤ b) = true) := List.pairwise_mergeSort (fun a b c h1 h2 => by simp at h1 h2 ⊢; omega) (fun a b => by simp; omega) zs
  have h2 : (srt zs).Nodup := ((List.mergeSort_perm zs _).nodup_iff).2 hn
  refine List.Pairwise.imp_of_mem (fun {a b} _ _ h => ?_) (h1.and h2)
  have := h.1
  have := h.2
  simp at *
  omega

/-- The lists that are laid so far. -/
def outTo (r : List Int) (i : Nat) : List (List Int) := (cycsTo r i).map (asc i)

theorem cyc_one {r : List Int} (hr : isRow r) {k : Nat} (hk : k ≤ r.length) {i j : Nat} {C D : List Int} {x : Int} (h1 : (cycsTo r k)[i]? = some C) (h2 : (cycsTo r k)[j]? = some D) (hx : x ∈ C) (hy : x ∈ D) : i = j := flat_one (cyc_nodup hr k hk) h1 h2 hx hy

theorem outTo_in {r : List Int} (hr : isRow r) {i k : Nat} {C : List Int} (hi : i < r.length) (hk : (cycsTo r i)[k]? = some C) (hC : (i : Int) ∈ C) : outTo r (i + 1) = (outTo r i).set k (asc i C ++ [(i : Int)]) := by
  have hm : (i : Int) ∈ (cycsTo r i).flatten := List.mem_flatten.2 ⟨C, List.mem_of_getElem? hk, hC⟩
  have hkl := (List.getElem?_eq_some_iff.1 hk).1
  unfold outTo
  rw [cycsTo_succ, if_pos hm]
  refine List.ext_getElem? (fun j => ?_)
  rw [List.getElem?_map, List.getElem?_set]
  by_cases e : k = j
  · subst e
    rw [if_pos rfl, if_pos (by rw [List.length_map]; exact hkl), hk]
    show some (asc (i + 1) C) = _
    rw [asc_in hC]
  · rw [if_neg e, List.getElem?_map]
    cases hj : (cycsTo r i)[j]? with
    | none => rfl
    | some D =>
      show some (asc (i + 1) D) = some (asc i D)
      rw [asc_out (fun h => e (cyc_one hr (by omega) hk hj hC h))]

theorem outTo_new {r : List Int} (hr : isRow r) {i : Nat} (hi : i < r.length) (hn : ¬ (i : Int) ∈ (cycsTo r i).flatten) : outTo r (i + 1) = outTo r i ++ [[(i : Int)]] := by
  unfold outTo
  rw [cycsTo_succ, if_neg hn, List.map_append]
  congr 1
  · refine List.map_congr_left (fun C hC => asc_out (fun h => hn (List.mem_flatten.2 ⟨C, hC, h⟩)))
  · have h1 : (i : Int) ∈ orb r i (per r i) := mem_orb.2 ⟨0, (per_spec hr hi).1, rfl⟩
    rw [List.map_singleton, asc_in h1, asc_none (fun j hj h => ?_)]
    · rfl
    · obtain ⟨m, _, e⟩ := mem_orb.1 h
      exact it_notin hr hi hn m (by rw [← e]; exact flat_all hr i (by omega) j hj)

theorem outTo_done {r : List Int} (hr : isRow r) : outTo r r.length = (cycsTo r r.length).map srt := by
  unfold outTo
  refine List.map_congr_left (fun C hC => ?_)
  have hnd : C.Nodup := by
    obtain ⟨y, hy, rfl⟩ := cyc_form hC
    unfold orb
    rw [List.Nodup, List.pairwise_map]
    refine List.Pairwise.imp_of_mem (fun {i j} hi hj h e => h ?_) List.nodup_range
    exact orb_inj hr hy (List.mem_range.1 hi) (List.mem_range.1 hj) (by omega)
  refine rise_eq (asc_sorted _ _) (srt_rise hnd) (fun x => ?_)
  rw [mem_asc, mem_srt]
  constructor
  · rintro ⟨j, _, h2, rfl⟩; exact h2
  · intro hx
    obtain ⟨y, hy, rfl⟩ := cyc_form hC
    obtain ⟨j, _, e⟩ := mem_orb.1 hx
    exact ⟨it r j y, it_lt hr hy j, by rw [← e]; exact hx, e⟩

/-- Which list a label has. -/
structure NumL (r : List Int) (f : Nat → Int) (i : Nat) (F : Int → Option Value) : Prop where
  seen : ∀ j, j < i → F (f j) = some (.int .i64 ((sof (cycsTo r i) j : Nat) : Int))
  new : ∀ l, (∀ j, j < i → f j ≠ l) → F l = none

theorem sof_at {r : List Int} (_ : isRow r) {i j : Nat} (_ : i ≤ r.length) (hj : (j : Int) ∈ (cycsTo r i).flatten) : ∃ C, (cycsTo r i)[sof (cycsTo r i) j]? = some C ∧ (j : Int) ∈ C := by
  obtain ⟨C, hC, hjC⟩ := List.mem_flatten.1 hj
  have hlt : sof (cycsTo r i) j < (cycsTo r i).length := List.findIdx_lt_length.2 ⟨C, hC, decide_eq_true hjC⟩
  have h9 := List.findIdx_getElem (p := fun S : List Int => decide ((j : Int) ∈ S)) (w := hlt)
  exact ⟨_, List.getElem?_eq_getElem hlt, of_decide_eq_true h9⟩

theorem sof_is {r : List Int} (hr : isRow r) {i j k : Nat} {C : List Int} (hi : i ≤ r.length) (hk : (cycsTo r i)[k]? = some C) (hj : (j : Int) ∈ C) : sof (cycsTo r i) j = k := by
  obtain ⟨D, h1, h2⟩ := sof_at hr hi (List.mem_flatten.2 ⟨C, List.mem_of_getElem? hk, hj⟩)
  exact cyc_one hr hi h1 hk h2 hj


theorem lab_iff {r : List Int} (hr : isRow r) {f : Nat → Int} (h : LabOk r.length (nx r) ((cycsTo r r.length).map srt) r.length f) {i : Nat} {C : List Int} (hi : i ≤ r.length) (hC : C ∈ cycsTo r i) {j x : Nat} (hx : x < r.length) (hjC : (j : Int) ∈ C) : f x = f j ↔ (x : Int) ∈ C := by
  have hS := sts_of hr
  obtain ⟨y, hy, rfl⟩ := cyc_form hC
  have hyl : y < r.length := by omega
  have fy : ∀ z : Nat, (z : Int) ∈ orb r y (per r y) → f z = f y := fun z hz => by
    obtain ⟨m, _, e⟩ := mem_orb.1 hz
    have e' : z = it r m y := by omega
    rw [e']
    exact h.steps hr rfl hyl m
  constructor
  · intro e
    obtain ⟨s, S, hs, hyS⟩ := hS.all y hyl
    have e1 := h.sound x y hx hyl (e.trans (fy j hjC))
    rw [hS.sof hs hyS] at e1
    obtain ⟨s2, S2, hs2, hxS⟩ := hS.all x hx
    rw [hS.sof hs2 hxS] at e1
    subst e1
    rw [hs] at hs2
    have e2 := Option.some.inj hs2
    subst e2
    rw [List.getElem?_map] at hs
    obtain ⟨D, hD, e3⟩ := Option.map_eq_some_iff.1 hs
    subst e3
    obtain ⟨z, hz, e4⟩ := cyc_form (List.mem_of_getElem? hD)
    have k1 := mem_srt.1 hyS
    have k2 := mem_srt.1 hxS
    rw [e4] at k1 k2
    obtain ⟨m1, hm1, q1⟩ := mem_orb.1 k1
    obtain ⟨m2, hm2, q2⟩ := mem_orb.1 k2
    have q1' : y = it r m1 z := by omega
    have q2' : x = it r m2 z := by omega
    obtain ⟨p1, p2, p3, p4⟩ := per_spec hr hz
    have hstep : it r (m2 + (per r z - m1)) y = x := by
      rw [q1', ← it_add, show m2 + (per r z - m1) + m1 = m2 + per r z by omega, it_add, p3, q2']
    have hall : ∀ k, ((it r k y : Nat) : Int) ∈ orb r y (per r y) := fun k => by
      induction k with
      | zero => exact mem_orb.2 ⟨0, (per_spec hr hyl).1, rfl⟩
      | succ k ih => exact orb_next hr hyl ih
    rw [← hstep]
    exact hall _
  · intro hxC
    rw [fy x hxC, fy j hjC]

theorem NumL.known {r : List Int} (hr : isRow r) {f : Nat → Int} (h : LabOk r.length (nx r) ((cycsTo r r.length).map srt) r.length f) {i : Nat} (hi : i < r.length) {F : Int → Option Value} (hN : NumL r f i F) (hin : (i : Int) ∈ (cycsTo r i).flatten) : F (f i) = some (.int .i64 ((sof (cycsTo r i) i : Nat) : Int)) ∧ NumL r f (i + 1) F := by
  obtain ⟨C, hC, hiC⟩ := sof_at hr (by omega) hin
  have hCm := List.mem_of_getElem? hC
  have hc : cycsTo r (i + 1) = cycsTo r i := by rw [cycsTo_succ, if_pos hin]
  obtain ⟨y, hy, e⟩ := cyc_form hCm
  have hyC : (y : Int) ∈ C := by rw [e]; exact mem_orb.2 ⟨0, (per_spec hr (by omega)).1, rfl⟩
  have hfy : f i = f y := ((lab_iff hr h (by omega) hCm hi hyC).2 hiC)
  have h1 : F (f i) = some (.int .i64 ((sof (cycsTo r i) i : Nat) : Int)) := by
    rw [hfy, hN.seen y hy, sof_is hr (by omega) hC hyC]
  refine ⟨h1, ⟨fun j hj => ?_, fun l hl => hN.new l (fun j hj => hl j (by omega))⟩⟩
  rw [hc]
  by_cases ej : j = i
  · rw [ej]; exact h1
  · exact hN.seen j (by omega)

theorem NumL.fresh {r : List Int} (hr : isRow r) {f : Nat → Int} (h : LabOk r.length (nx r) ((cycsTo r r.length).map srt) r.length f) {i : Nat} (hi : i < r.length) {F : Int → Option Value} (hN : NumL r f i F) (hn : ¬ (i : Int) ∈ (cycsTo r i).flatten) : F (f i) = none ∧ NumL r f (i + 1) (upd F (f i) (.int .i64 (((cycsTo r i).length : Nat) : Int))) := by
  have hc : cycsTo r (i + 1) = cycsTo r i ++ [orb r i (per r i)] := by rw [cycsTo_succ, if_neg hn]
  have hne : ∀ j, j < i → f j ≠ f i := fun j hj e => by
    obtain ⟨C, hC, hjC⟩ := sof_at hr (by omega) (flat_all hr i (by omega) j hj)
    have hCm := List.mem_of_getElem? hC
    exact hn (List.mem_flatten.2 ⟨C, hCm, (lab_iff hr h (by omega) hCm hi hjC).1 e.symm⟩)
  refine ⟨hN.new _ hne, ⟨fun j hj => ?_, fun l hl => ?_⟩⟩
  · unfold upd
    by_cases ej : j = i
    · subst ej
      rw [if_pos rfl]
      have h9 := sof_is hr (i := j + 1) (j := j) (k := (cycsTo r j).length) (C := orb r j (per r j)) (by omega) (by rw [hc, List.getElem?_append_right (Nat.le_refl _), Nat.sub_self]; rfl) (mem_orb.2 ⟨0, (per_spec hr hi).1, rfl⟩)
      rw [h9]
    · rw [if_neg (hne j (by omega)), hN.seen j (by omega)]
      obtain ⟨C, hC, hjC⟩ := sof_at hr (by omega) (flat_all hr i (by omega) j (by omega))
      have h9 := sof_is hr (i := i + 1) (j := j) (k := sof (cycsTo r i) j) (C := C) (by omega) (by rw [hc, List.getElem?_append_left (List.getElem?_eq_some_iff.1 hC).1]; exact hC) hjC
      rw [h9]
  · unfold upd
    rw [if_neg (fun e => hl i (by omega) e.symm)]
    exact hN.new l (fun j hj => hl j (by omega))

end Go.Proofs.Ytimfoggjocajiaa

/- Contract: the answer's Qsets. -/
namespace Go.Proofs.Ytimfoggjocajiaa
open Go.RowKit

/-- Where each row is, so far. -/
def PlTo (n : Nat) (X : List Pm) (i : Nat) (F : Int → Option Value) : Prop := ∀ (j : Nat) (p : Pm), j < i → X[j]? = some p → F ((rkP n p : Nat) : Int) = some (.int .i64 (j : Int))

theorem PlTo.step {n : Nat} {G : Pm → Prop} {X : List Pm} (hR : Rws n G X) {i : Nat} {p : Pm} {F : Int → Option Value} (h : PlTo n X i F) (hp : X[i]? = some p) : PlTo n X (i + 1) (upd F ((rkP n p : Nat) : Int) (.int .i64 (i : Int))) := by
  intro j q hj hq
  unfold upd
  by_cases e : j = i
  · subst e
    rw [hp] at hq
    rw [← Option.some.inj hq, if_pos rfl]
  · rw [if_neg (fun e' => ?_)]
    · exact h j q (by omega) hq
    · have hpq : q = p := rkP_inj hR.twelve (hR.fix q ((hR.mem q).1 (List.mem_of_getElem? hq))) (hR.fix p ((hR.mem p).1 (List.mem_of_getElem? hp))) (by omega)
      rw [hpq] at hq
      exact e (get_inj hR.nodup hq hp)

/-- The first two loops' memory: labels and where each row is. -/
structure QR (w wr : World) (N M cnt : Nat) (zs : List Int) (F : Int → Option Value) : Prop where
  row : wr.ownsRow w.heap.size 3 1 (.slice (some ⟨w.heap.size, 0, none⟩) N N) N (zs.map (Value.int .i64))
  map : IMap wr M cnt F
  ne : M ≠ w.heap.size
  ge : w.heap.size ≤ M
  below : Below w.heap.size w wr

theorem QR.later {w wr w' : World} {N M cnt : Nat} {zs : List Int} {F : Int → Option Value} (h : QR w wr N M cnt zs F) (hb : Below wr.heap.size wr w') : QR w w' N M cnt zs F :=
  ⟨owns_below h.row hb (Nat.le_refl _), h.map.below hb h.map.lt, h.ne, h.ge, h.below.trans (hb.mono h.below.size)⟩

theorem QR.set {w wr : World} {N M cnt : Nat} {zs : List Int} {F : Int → Option Value} (h : QR w wr N M cnt zs F) (m : Nat) (x : Int) : QR w (wr.setCell ⟨w.heap.size, m, none⟩ (.int .i64 x)) N M cnt (zs.set m x) F :=
  ⟨owns_set_int h.row x, h.map.of_block (Below.heap_setCell _ _ _ _ h.ne), h.ne, h.ge, h.below.setCell (Nat.le_refl _) _⟩

theorem QR.put {w wr w' : World} {N M cnt : Nat} {zs : List Int} {F F' : Int → Option Value} (h : QR w wr N M cnt zs F) (hm : IMap w' M (cnt + 1) F') (hg : wr.grownBy w' (some M)) : QR w w' N M (cnt + 1) zs F' :=
  ⟨owns_map_kept h.row h.map hg, hm, h.ne, h.ge, h.below.grown hg h.below.size (fun k hk => by have := Option.some.inj hk; have := h.ge; omega)⟩

theorem QR.len {w wr : World} {N M cnt : Nat} {zs : List Int} {F : Int → Option Value} (h : QR w wr N M cnt zs F) : zs.length = N := by
  have h9 := h.row.1
  rw [List.length_map] at h9
  omega

/-- One list of lists grows in its place. -/
theorem LL.grow_at {w w2 w' : World} {B g cap k : Nat} {u u' : Value} {vs : List Value} {A : List (List Int)} {X : List Int} {N : Nat} {o : Obj} (h : LL w B (.slice (some ⟨g, 0, none⟩) N cap) vs A) (hap : vs.Pairwise Apt) (hk : k < A.length) (hu : vs.getD k undef = u) (hw2 : w2 = w.alloc o)
    (hown : w'.ownsRow B 3 1 u' X.length (X.map (Value.int .i64))) (hg : w2.grownBy w' u.ownBlock) (hp : u'.ownBlock = u.ownBlock ∨ (u'.ownBlock = some w2.heap.size ∧ w2.grownBy w' none)) :
    LL (w'.setCell ⟨g, k, none⟩ u') B (.slice (some ⟨g, 0, none⟩) N cap) (vs.set k u') (A.set k X) ∧ (vs.set k u').Pairwise Apt := by
  subst hw2
  subst hu
  have hl := h.len
  have hN : N = vs.length := by
    rcases h.row.2 with ⟨h0, _⟩ | ⟨g', cap', cur, hv, _⟩
    · cases h0
    · injection hv
  subst hN
  have hat := h.at hk
  have hbl : ∀ x, x < w.heap.size → some x ≠ (vs.getD k undef).ownBlock → w'.heap[x]? = w.heap[x]? := fun x hx hne => (hg.block x (by simp; omega) hne).trans (Below.heap_alloc w o x hx)
  have hgne : ∀ x, (vs.getD k undef).ownBlock = some x → x ≠ g := fun x hx e => owns_ty hat h.row (by decide) x hx (by rw [e]; rfl)
  have hrow' : w'.ownsRow B 23 1 (.slice (some ⟨g, 0, none⟩) vs.length cap) vs.length vs := owns_of_block h.row (fun x hx => hbl x (h.row.lt x hx).2 (fun e => owns_ty hat h.row (by decide) x e.symm hx))
  have hune : u'.ownBlock ≠ some g := fun e => by
    rcases hp with hp | ⟨hp, _⟩
    · exact hgne g (by rw [← hp]; exact e) rfl
    · rw [hp] at e
      have h9 := (h.row.lt g rfl).2
      have := Option.some.inj e
      simp at this
      omega
  refine ⟨⟨?_, ownAll_of (by rw [List.length_set, List.length_set, hl]) (fun i hi => ?_)⟩, ?_⟩
  · rw [List.length_set]; exact owns_set hrow' u'
  · rw [List.length_set] at hi
    by_cases e : i = k
    · subst e
      rw [show (vs.set i u').getD i undef = u' by rw [List.getD, List.getElem?_set, if_pos rfl, if_pos hi]; rfl, show (A.set i X).getD i [] = X by rw [List.getD, List.getElem?_set, if_pos rfl, if_pos hk]; rfl]
      exact owns_of_block hown (fun x hx => Below.heap_setCell _ _ _ _ (fun e' => hune (by rw [hx]; exact congrArg some e')))
    · have hia : i < A.length := by omega
      rw [show (vs.set k u').getD i undef = vs.getD i undef by rw [List.getD, List.getD, List.getElem?_set, if_neg (fun h => e h.symm)], show (A.set k X).getD i [] = A.getD i [] by rw [List.getD, List.getD, List.getElem?_set, if_neg (fun h => e h.symm)]]
      have hai := h.at hia
      refine owns_of_block hai (fun x hx => ?_)
      have h1 : x ≠ g := fun e' => owns_ty hai h.row (by decide) x hx (by rw [e']; rfl)
      rw [Below.heap_setCell _ _ _ _ h1]
      exact hbl x (hai.lt x hx).2 (fun e' => pairwise_getD hap (by omega) (by omega) e x hx e'.symm)
  · rw [List.pairwise_iff_getElem]
    intro i j hi hj hij
    have hi' : i < vs.length := by rw [List.length_set] at hi; exact hi
    have hj' : j < vs.length := by rw [List.length_set] at hj; exact hj
    have key : ∀ y, y < vs.length → y ≠ k → Apt (vs.getD y undef) u' := fun y hy hne x h1 h2 => by
      have hay := h.at (k := y) (by omega)
      rcases hp with hp | ⟨hp, _⟩
      · rw [hp] at h2
        exact pairwise_getD hap hy (by omega) hne x h1 h2
      · rw [hp] at h2
        have h9 := (hay.lt x h1).2
        have := Option.some.inj h2
        simp at this
        omega
    have get : ∀ y (hy : y < vs.length), y ≠ k → (vs.set k u')[y]'(by rw [List.length_set]; exact hy) = vs.getD y undef := fun y hy hne => by
      rw [List.getElem_set_ne (fun e => hne e.symm), List.getD, List.getElem?_eq_getElem hy]
      rfl
    by_cases ei : i = k
    · subst ei
      rw [List.getElem_set_self, get j hj' (by omega)]
      exact (key j hj' (by omega)).symm
    · by_cases ej : j = k
      · subst ej
        rw [List.getElem_set_self, get i hi' ei]
        exact key i hi' ei
      · rw [get i hi' ei, get j hj' ej]
        exact pairwise_getD hap hi' hj' (by omega)

end Go.Proofs.Ytimfoggjocajiaa

/- Contract: the answer's Qsets, the walk. -/
namespace Go.Proofs.Ytimfoggjocajiaa
open Go.RowKit

/-- The last loop's memory: lists by labels. -/
structure QO (wo wr : World) (M cnt : Nat) (v : Value) (vs : List Value) (A : List (List Int)) (F : Int → Option Value) : Prop where
  out : LL wr wo.heap.size v vs A
  apt : vs.Pairwise Apt
  map : IMap wr M cnt F
  frm : Frm wo.heap.size M M wo wr

theorem QO.later {wo wr w' : World} {M cnt : Nat} {v : Value} {vs : List Value} {A : List (List Int)} {F : Int → Option Value} (h : QO wo wr M cnt v vs A F) (hb : Below wr.heap.size wr w') : QO wo w' M cnt v vs A F :=
  ⟨h.out.below hb, h.apt, h.map.below hb h.map.lt, h.frm.trans (Frm.of_below hb h.frm.size)⟩

/-- One list grows. -/
theorem QO.grow {wo wr w' : World} {M cnt g L cap k : Nat} {u u' : Value} {vs : List Value} {A : List (List Int)} {X : List Int} {F : Int → Option Value} {o : Obj} (hM : M < wo.heap.size) (h : QO wo wr M cnt (.slice (some ⟨g, 0, none⟩) L cap) vs A F) (hk : k < A.length) (hu : vs.getD k undef = u)
    (hown : w'.ownsRow wo.heap.size 3 1 u' X.length (X.map (Value.int .i64))) (hg : (wr.alloc o).grownBy w' u.ownBlock) (hp : u'.ownBlock = u.ownBlock ∨ (u'.ownBlock = some (wr.alloc o).heap.size ∧ (wr.alloc o).grownBy w' none)) :
    QO wo (w'.setCell ⟨g, k, none⟩ u') M cnt (.slice (some ⟨g, 0, none⟩) L cap) (vs.set k u') (A.set k X) F ∧ (∃ y, w'.cell? ⟨g, k, none⟩ = some y) ∧ w'.frozen? ⟨g, k, none⟩ = false := by
  obtain ⟨k1, k2⟩ := h.out.grow_at h.apt hk hu rfl hown hg hp
  have hat := h.out.at hk
  rw [hu] at hat
  have hgw := h.out.row.lt g rfl
  have hfr : Frm wo.heap.size M M wo w' := (h.frm.trans (Frm.of_below ((Below.refl _ _).alloc (Nat.le_refl _) o) h.frm.size)).grown hg (by have := h.frm.size; simp; omega) (fun x hx => Or.inl (hat.lt x hx).1)
  have hmb : w'.heap[M]? = wr.heap[M]? := (hg.block M (by have := h.map.lt; simp; omega) (fun e => by have := (hat.lt M e.symm).1; omega)).trans (Below.heap_alloc wr o M h.map.lt)
  have hL : L = vs.length := by
    rcases h.out.row.2 with ⟨h0, _⟩ | ⟨g', cap', cur, hv, _⟩
    · cases h0
    · injection hv
  have hrow' : w'.ownsRow wo.heap.size 23 1 (.slice (some ⟨g, 0, none⟩) L cap) L vs := by
    rw [hL]
    have h9 := h.out.row
    rw [hL] at h9
    exact owns_of_block h9 (fun x hx => (hg.block x (by have := (h9.lt x hx).2; simp; omega) (fun e => owns_ty hat h9 (by decide) x e.symm hx)).trans (Below.heap_alloc wr o x (h9.lt x hx).2))
  have hc := row_cellE hrow' (j := k) (by rw [hL, h.out.len]; exact hk)
  refine ⟨⟨k1, k2, (h.map.of_block hmb).of_block (Below.heap_setCell _ _ _ _ (by show M ≠ g; omega)), hfr.trans ⟨rfl, rfl, rfl, by simp [World.setCell], fun x hx h1 _ => Below.heap_setCell _ _ _ _ (by show x ≠ g; omega)⟩⟩, hc.1, hc.2⟩

/-- One more list, empty yet. -/
theorem QO.more {wo wr w' : World} {M cnt : Nat} {v v' : Value} {vs : List Value} {A : List (List Int)} {F : Int → Option Value} {o : Obj} (hM : M < wo.heap.size) (h : QO wo wr M cnt v vs A F) (hown : w'.ownsRow wo.heap.size 23 1 v' (vs.length + 1) (vs ++ [.slice none 0 0])) (hg : (wr.alloc o).grownBy w' v.ownBlock) : QO wo w' M cnt v' (vs ++ [.slice none 0 0]) (A ++ [[]]) F := by
  have hfr : Frm wo.heap.size M M wo w' := (h.frm.trans (Frm.of_below ((Below.refl _ _).alloc (Nat.le_refl _) o) h.frm.size)).grown hg (by have := h.frm.size; simp; omega) (fun x hx => Or.inl (h.out.row.lt x hx).1)
  have hmb : w'.heap[M]? = wr.heap[M]? := (hg.block M (by have := h.map.lt; simp; omega) (fun e => by have := (h.out.row.lt M e.symm).1; omega)).trans (Below.heap_alloc wr o M h.map.lt)
  refine ⟨h.out.push (World.ownsRow_nil _ _ _ _) hown hg, ?_, h.map.of_block hmb, hfr⟩
  rw [List.pairwise_append]
  exact ⟨h.apt, by simp, fun y hy z hz => by rw [List.mem_singleton.1 hz]; exact (apt_none y).symm⟩

theorem QO.put {wo wr w' : World} {M cnt : Nat} {v : Value} {vs : List Value} {A : List (List Int)} {F F' : Int → Option Value} (h : QO wo wr M cnt v vs A F) (hm : IMap w' M (cnt + 1) F') (hg : wr.grownBy w' (some M)) : QO wo w' M (cnt + 1) v vs A F' :=
  ⟨⟨owns_map_kept h.out.row h.map hg, h.out.all.mono (fun _ _ _ h' => owns_map_kept h' h.map hg)⟩, h.apt, hm, h.frm.grown hg h.frm.size (fun _ hx => Or.inr (Or.inl (Option.some.inj hx).symm))⟩

set_option maxRecDepth 20000 in
set_option maxHeartbeats 8000000 in
theorem rqsets_ok (n : Nat) (G : Pm → Prop) (X : List Pm) (a b : Pm) (vR vx vy : Value) (w : World) (hR : Rws n G X) (ha : G a) (hb : G b) (hX : IntsAll w vR (X.map (cut n))) (hx : Ints w vx (cut n a)) (hy : Ints w vy (cut n b)) :
    Calls Try.prog 50 #[vR, vx, vy] w fun e w' => ∃ u, e = .returned u ∧ IntsAll w' u (qs X a b) ∧ Below w.heap.size w w' := by
  obtain ⟨i0, hi, hz0, hz1, hz2⟩ := info_parts Try.info23
  obtain ⟨j0, hji, hjz0, hjz1, hjz2⟩ := info_parts Try.info3
  have hmm := @run_makeMap Try.prog
  have h1 := hR.one
  have h12 := hR.twelve
  have hpos := hR.pos
  have hfew := hR.few
  have hfa := hR.fix a ha
  have hfb := hR.fix b hb
  obtain ⟨pR, cR, eR⟩ := hX.len
  rw [List.length_map] at eR
  subst eR
  obtain ⟨gR, oR, epR, -, hR1, hR2, hR3, hR4⟩ := hX.rowI (by rw [List.length_map]; exact hpos)
  subst epR
  rw [List.length_map] at hR1
  have HCL : Hid (∀ W, Below w.heap.size w W → ∀ i p, X[i]? = some p → ∃ pp cc, W.cell? ⟨gR, oR + i, none⟩ = some (.slice pp n cc) ∧ Ints W (.slice pp n cc) (cut n p)) := fun W hW i p hp => by
    obtain ⟨u, hu, hI⟩ := hR4 i (cut n p) (by rw [List.getElem?_map, hp]; rfl)
    obtain ⟨pp, cc, e⟩ := hI.form
    rw [cut_length h12] at e
    subst e
    exact ⟨pp, cc, (hW.cell (p := ⟨gR, oR + i, none⟩) hR3).trans hu, hI.below hW⟩
  obtain ⟨px, cx, ex1⟩ := hx.form
  rw [cut_length h12] at ex1
  subst ex1
  obtain ⟨py, cy, ey1⟩ := hy.form
  rw [cut_length h12] at ey1
  subst ey1
  have HX := hide hx
  have HY := hide hy
  have HRw := hide hR
  have HGa := hide ha
  have HGb := hide hb
  have hGc : G (a * b⁻¹) := hR.sub.mul ha (hR.sub.inv hb)
  have hrow := mv_row hR.nodup (hR.cls hGc)
  have HMr := hide hrow
  have HML : Hid ((mv X (a * b⁻¹)).length = X.length) := mv_length X _
  have HSts : Hid (Sts X.length (nx (mv X (a * b⁻¹))) (qs X a b)) := qs_sts hR ha hb
  have HSG : Hid (∀ r, r < X.length → nx (mv X (a * b⁻¹)) r < X.length) := fun r hr => nx_get hR hGc hr
  have HNX : Hid (∀ r p, X[r]? = some p → p * a * b⁻¹ ∈ X ∧ nx (mv X (a * b⁻¹)) r = ix X (p * a * b⁻¹)) := fun r p hp => by
    have h9 := hR.cls hGc p (List.mem_of_getElem? hp)
    rw [← Pm.mul_assoc] at h9
    exact ⟨h9, by rw [mv_nx hp, Pm.mul_assoc]⟩
  have HFX : Hid (∀ i p, X[i]? = some p → Fixes (fun b => n ≤ b) p) := fun i p hp => hR.fix p ((hR.mem p).1 (List.mem_of_getElem? hp))
  have HQS : Hid ((cycsTo (mv X (a * b⁻¹)) (mv X (a * b⁻¹)).length).map srt = qs X a b) := by show _ = _; rw [mv_length]; rfl
  clear hx hy hR ha hb hX hR4 hGc hrow
  generalize hN : X.length = N at *
  have HN := hide hN
  clear hN
  go_enter Try.func50, Try.ntmps50
  go_wp2_with (at_make; refine wpList_make_full _ rfl _ _ 23 rfl w.heap.size 3 j0 (.int .i64 0) 1 Try.underlying23 hji hjz0 hjz1 _ _ _ _ N rfl rfl (by omega) (by omega) ?b2 ?b3 (Nat.le_refl _) ?_)
  case b2 => rw [hjz2]; omega
  case b3 => unfold maxLen; omega
  intro w1 hown1 hg1
  rw [made_ints] at hown1
  have hB1 : Below w.heap.size w w1 := (Below.refl _ _).grown hg1 (Nat.le_refl _) (fun k h => by cases h)
  have hlt1 : w.heap.size < w1.heap.size := (hown1.lt w.heap.size rfl).2
  have HQ0 : Hid (QR w (w1.alloc (.map #[] 0)) N w1.heap.size 0 (List.replicate N 0) (fun _ => none)) := ⟨hown1.alloc _, IMap.made w1, by omega, by omega, hB1.alloc hB1.size _⟩
  obtain ⟨M, hM⟩ : ∃ M, M = w1.heap.size := ⟨_, rfl⟩
  clear hown1 hg1 hB1
  go_wp2
  go_loopw [9] (fun si wr => ∃ (i : Nat) (zs : List Int) (F : Int → Option Value), i ≤ N ∧ si = .int .i64 (i : Int) ∧ QR w wr N w1.heap.size i zs F ∧ Hid (∀ j, j < i → zs.getD j 0 = (j : Int)) ∧ Hid (PlTo n X i F)) (fun si _ => N - (intOf si).toNat)
  case atStart => exact ⟨0, _, _, Nat.zero_le _, rfl, HQ0.out, fun j hj => absurd hj (by omega), fun j p hj => absurd hj (by omega)⟩
  case round =>
    clear HQ0
    obtain ⟨i, zs, F, hiN, rfl, hQ, hZ, hP⟩ := hrel
    by_cases hlt : i < N
    · obtain ⟨p, hp⟩ : ∃ p, X[i]? = some p := ⟨_, List.getElem?_eq_getElem (by rw [HN.out]; exact hlt)⟩
      have HQs := hide (hQ.set i (i : Int))
      obtain ⟨y, hy, hcy, hfy⟩ := owns_cellAt hQ.row hlt
      have hlen := hQ.len
      have HZ2 : Hid (∀ j, j < i + 1 → (zs.set i (i : Int)).getD j 0 = (j : Int)) := fun j hj => by
        rw [getD_set (by omega)]
        by_cases e : i = j
        · rw [if_pos e, e]
        · rw [if_neg e]; exact hZ.out j (by omega)
      obtain ⟨pp, cc, hcp, hIp⟩ := HCL.out _ HQs.out.below i p hp
      have HRk := hide (rcut_rank n p (.slice pp n cc) _ h1 h12 (HFX.out i p hp) hIp)
      have hrk := rkP_le (n := n) p h12
      have HP2 : Hid (PlTo n X (i + 1) (upd F ((rkP n p : Nat) : Int) (.int .i64 (i : Int)))) := hP.out.step HRw.out hp
      generalize rkP n p = rk at *
      clear hQ hZ hP hp hIp hy hlen
      go_wp2_with fail
      refine HRk.out.mono ?_
      rintro ex w3 ⟨rfl, hb3⟩
      have hQ3 := HQs.out.later hb3
      have HM3 := hide hQ3.map
      have hcl : i < maxLen := by unfold maxLen; omega
      have HQ3 := hide hQ3
      clear hb3 hQ3 HRk HQs
      go_wp2_with (at_mapUpdate; refine wpList_put rfl _ _ _ 108 rfl 3 Try.underlying108 HM3.out hcl ((rk : Nat) : Int) (.int .i64 (i : Int)) rfl rfl rfl (by omega) (by omega) ?_)
      intro w4 hM4 hg4
      have HQ4 := hide (HQ3.out.put hM4 hg4)
      clear hM4 hg4 HQ3 HM3
      go_wp2
      go_roundw
      case rel =>
        have hfin : ∃ (i' : Nat) (zs : List Int) (F : Int → Option Value), i' ≤ N ∧ Value.int .i64 ((i : Int) + 1) = .int .i64 (i' : Int) ∧ QR w w4 N w1.heap.size i' zs F ∧ Hid (∀ j, j < i' → zs.getD j 0 = (j : Int)) ∧ Hid (PlTo n X i' F) := ⟨i + 1, _, _, hlt, by go_num, HQ4.out, HZ2, HP2⟩
        first
          | exact hfin
          | ((repeat apply Exists.intro); exact ⟨hfin, rfl⟩)
      case measure => simp [intOf]; omega
    · obtain rfl : N = i := by omega
      have HL0 : Hid (LabOk N (nx (mv X (a * b⁻¹))) (qs X a b) 0 (fun j => zs.getD j 0)) :=
        ⟨fun j k hj hk e => by
          rw [hZ.out j hj, hZ.out k hk] at e
          have : j = k := by omega
          rw [this], fun r hr => absurd hr (by omega), fun j hj => by show 0 ≤ zs.getD j 0 ∧ zs.getD j 0 < (N : Int); rw [hZ.out j hj]; exact ⟨by omega, by omega⟩⟩
      have HUn := hide (rcut_undo n b (.slice py n cy) wr h1 h12 hfb (HY.out.below hQ.below))
      have HQ := hide hQ
      clear hQ hZ
      go_wp2_with fail
      refine HUn.out.mono ?_
      rintro ex w5 ⟨u5, rfl, hown5, hb5⟩
      have HQ5 := hide (HQ.out.later hb5)
      have HU5 := hide (owns_base hown5 (show w.heap.size + 1 ≤ wr.heap.size from (HQ.out.row.lt w.heap.size rfl).2))
      obtain ⟨p5, c5, e5⟩ := owns_slice hown5
      subst e5
      clear hown5 hb5 HQ HUn
      go_wp2
      go_loopw [11] (fun si wr => ∃ (i : Nat) (zs : List Int), i ≤ N ∧ si = .int .i64 (i : Int) ∧ QR w wr N w1.heap.size N zs F ∧ Hid (LabOk N (nx (mv X (a * b⁻¹))) (qs X a b) i (fun j => zs.getD j 0)) ∧ Hid (wr.ownsRow (w.heap.size + 1) 3 1 (.slice p5 n c5) n ((cut n b⁻¹).map (Value.int .i64)))) (fun si _ => N - (intOf si).toNat)
      case atStart => exact ⟨0, zs, Nat.zero_le _, rfl, HQ5.out, HL0, HU5⟩
      case round =>
        clear HQ5 HL0 HU5
        obtain ⟨i, zs, hiN, rfl, hQ, hLb, hU⟩ := hrel
        by_cases hlt : i < N
        · obtain ⟨p, hp⟩ : ∃ p, X[i]? = some p := ⟨_, List.getElem?_eq_getElem (by rw [HN.out]; exact hlt)⟩
          obtain ⟨pp, cc, hcp, hIp⟩ := HCL.out wr hQ.below i p hp
          have hfp := HFX.out i p hp
          obtain ⟨hmem, hnx⟩ := HNX.out i p hp
          have HBy := hide (rcut_by n p a (.slice pp n cc) (.slice px n cx) wr h1 h12 hfp hfa hIp (HX.out.below hQ.below))
          have HQ := hide hQ
          have HFP := hide ((fixes_sub _).mul hfp hfa)
          have HFPB := hide ((fixes_sub _).mul ((fixes_sub _).mul hfp hfa) ((fixes_sub _).inv hfb))
          have HU := hU
          have hkl : ix X (p * a * b⁻¹) < N := by rw [← HN.out]; exact ix_lt hmem
          have HPK : Hid (F ((rkP n (p * a * b⁻¹) : Nat) : Int) = some (.int .i64 ((ix X (p * a * b⁻¹) : Nat) : Int))) := hP.out _ _ hkl (ix_get hmem)
          have hrk := rkP_le (n := n) (p * a * b⁻¹) h12
          have HNXI := hide hnx
          clear hQ hU hIp hfp hp hmem hnx
          go_wp2_with fail
          refine HBy.out.mono ?_
          rintro ex w6 ⟨u6, rfl, hown6, hb6⟩
          have HQ6 := hide (HQ.out.later hb6)
          have HU6 := hide (owns_below HU.out hb6 (Nat.le_refl _))
          have HBy2 := hide (rcut_by n (p * a) b⁻¹ u6 (.slice p5 n c5) w6 h1 h12 HFP.out ((fixes_sub _).inv hfb) (Ints.own hown6) (Ints.own HU6.out))
          obtain ⟨p6, c6, e6⟩ := owns_slice hown6
          subst e6
          clear hown6 hb6 HQ HU HBy hcp
          go_wp2_with fail
          refine HBy2.out.mono ?_
          rintro ex w7 ⟨u7, rfl, hown7, hb7⟩
          have HQ7 := hide (HQ6.out.later hb7)
          have HU7 := hide (owns_below HU6.out hb7 (Nat.le_refl _))
          have HRk := hide (rcut_rank n (p * a * b⁻¹) u7 w7 h1 h12 HFPB.out (Ints.own hown7))
          obtain ⟨p7, c7, e7⟩ := owns_slice hown7
          subst e7
          clear hown7 hb7 HQ6 HU6 HBy2
          go_wp2_with fail
          refine HRk.out.mono ?_
          rintro ex w8 ⟨rfl, hb8⟩
          have hQ8 := HQ7.out.later hb8
          have HU8 := hide (owns_below HU7.out hb8 (Nat.le_refl _))
          have hlk := hQ8.map.look Try.underlying108 (Try.zero3 w8) (a := ((rkP n (p * a * b⁻¹) : Nat) : Int)) (by omega) (by omega)
          rw [HPK.out] at hlk
          obtain ⟨z1, hz1', hcz1, hfz1⟩ := owns_cellAt hQ8.row hkl
          obtain ⟨z2, hz2', hcz2, hfz2⟩ := owns_cellAt hQ8.row hlt
          have HZ1 : Hid (zs.getD (nx (mv X (a * b⁻¹)) i) 0 = z1) := by rw [HNXI.out]; exact hz1'.out
          have HZ2 : Hid (zs.getD i 0 = z2) := hz2'.out
          have HQ8 := hide hQ8
          generalize ix X (p * a * b⁻¹) = kk at *
          generalize rkP n (p * a * b⁻¹) = rk at *
          have hd8 : Below w8.heap.size w8 w8.drew := (Below.refl _ _).drew
          clear hb8 hQ8 HQ7 HU7 HRk HPK hz1' hz2' HFP HFPB HNXI
          by_cases hzz : z1 = z2
          · have HLb2 : Hid (LabOk N (nx (mv X (a * b⁻¹))) (qs X a b) (i + 1) (fun j => zs.getD j 0)) := hLb.out.same (by show zs.getD _ 0 = zs.getD _ 0; rw [HZ1.out, HZ2.out, hzz])
            subst hzz
            have HQd := hide (HQ8.out.later hd8)
            have HUd := hide (owns_below HU8.out hd8 (Nat.le_refl _))
            clear hLb HQ8 HU8
            go_upto_region 13 with fail
            go_region
            go_wp2
            go_roundw
            case rel =>
              have hfin : ∃ (i' : Nat) (zs : List Int), i' ≤ N ∧ Value.int .i64 ((i : Int) + 1) = .int .i64 (i' : Int) ∧ QR w w8.drew N w1.heap.size N zs F ∧ Hid (LabOk N (nx (mv X (a * b⁻¹))) (qs X a b) i' (fun j => zs.getD j 0)) ∧ Hid (w8.drew.ownsRow (w.heap.size + 1) 3 1 (.slice p5 n c5) n ((cut n b⁻¹).map (Value.int .i64))) := ⟨i + 1, _, hlt, by go_num, HQd.out, HLb2, HUd⟩
              first
                | exact hfin
                | ((repeat apply Exists.intro); exact ⟨hfin, rfl⟩)
            case measure => simp [intOf]; omega
          · have hze : (z1 == z2) = false := beq_eq_false_iff_ne.2 hzz
            have HQd := hide (HQ8.out.later hd8)
            have HUd := hide (owns_below HU8.out hd8 (Nat.le_refl _))
            have hcd1 : w8.drew.cell? ⟨w.heap.size, kk, none⟩ = some (.int .i64 z1) := (hd8.cell (p := ⟨w.heap.size, kk, none⟩) (World.block_lt_of_cell? w8 _ hcz1)).trans hcz1
            have hcd2 : w8.drew.cell? ⟨w.heap.size, i, none⟩ = some (.int .i64 z2) := (hd8.cell (p := ⟨w.heap.size, i, none⟩) (World.block_lt_of_cell? w8 _ hcz2)).trans hcz2
            have hlen := HQ8.out.len
            clear HQ8 HU8 hzz
            go_upto_region 13 with fail
            go_region
            go_wp2
            go_loopw [15] (fun sm wr => ∃ (m : Nat) (ys : List Int), m ≤ N ∧ sm = .int .i64 (m : Int) ∧ QR w wr N w1.heap.size N ys F ∧ Hid (∀ j, j < N → ys.getD j 0 = relab (fun j => zs.getD j 0) z2 z1 m j) ∧ Hid (wr.ownsRow (w.heap.size + 1) 3 1 (.slice p5 n c5) n ((cut n b⁻¹).map (Value.int .i64)))) (fun sm _ => N - (intOf sm).toNat)
            case atStart => exact ⟨0, zs, Nat.zero_le _, rfl, HQd.out, fun j _ => by unfold relab; rw [if_neg (by omega)], HUd⟩
            case round =>
              clear HQd HUd
              obtain ⟨m, ys, hm, rfl, hQ, hY, hU⟩ := hrel
              by_cases hml : m < N
              · obtain ⟨y, hy, hcy, hfy⟩ := owns_cellAt hQ.row hml
                have hym : ys.getD m 0 = y := hy.out
                have hzm : zs.getD m 0 = y := by
                  have h9 := hY.out m hml
                  unfold relab at h9
                  rw [if_neg (by omega), hym] at h9
                  exact h9.symm
                have hyl := hQ.len
                by_cases hyz : y = z2
                · have HY2 : Hid (∀ j, j < N → (ys.set m z1).getD j 0 = relab (fun j => zs.getD j 0) z2 z1 (m + 1) j) := fun j hj => by
                    rw [getD_set (by omega)]
                    by_cases e : m = j
                    · subst e
                      rw [if_pos rfl]
                      unfold relab
                      rw [if_pos ⟨by omega, by rw [← hyz]; exact hzm⟩]
                    · rw [if_neg e, hY.out j hj]
                      unfold relab
                      by_cases c1 : j < m ∧ zs.getD j 0 = z2
                      · rw [if_pos c1, if_pos ⟨by omega, c1.2⟩]
                      · rw [if_neg c1, if_neg (fun h => c1 ⟨by omega, h.2⟩)]
                  have HQs := hide (hQ.set m z1)
                  have HUs : Hid ((wr.setCell ⟨w.heap.size, m, none⟩ (.int .i64 z1)).ownsRow (w.heap.size + 1) 3 1 (.slice p5 n c5) n ((cut n b⁻¹).map (Value.int .i64))) := ownsRow_setCell_below hU.out (by exact Nat.lt_succ_self _) _
                  subst hyz
                  clear hy hym hzm hyl hQ hY hU
                  go_wp2
                  go_roundw
                  case rel =>
                    have hfin : ∃ (m' : Nat) (ys : List Int), m' ≤ N ∧ Value.int .i64 ((m : Int) + 1) = .int .i64 (m' : Int) ∧ QR w (wr.setCell ⟨w.heap.size, m, none⟩ (.int .i64 z1)) N w1.heap.size N ys F ∧ Hid (∀ j, j < N → ys.getD j 0 = relab (fun j => zs.getD j 0) y z1 m' j) ∧ Hid ((wr.setCell ⟨w.heap.size, m, none⟩ (.int .i64 z1)).ownsRow (w.heap.size + 1) 3 1 (.slice p5 n c5) n ((cut n b⁻¹).map (Value.int .i64))) := ⟨m + 1, _, hml, by go_num, HQs.out, HY2, HUs⟩
                    first
                      | exact hfin
                      | ((repeat apply Exists.intro); exact ⟨hfin, rfl⟩)
                  case measure => simp [intOf]; omega
                · have HY2 : Hid (∀ j, j < N → ys.getD j 0 = relab (fun j => zs.getD j 0) z2 z1 (m + 1) j) := fun j hj => by
                    rw [hY.out j hj]
                    unfold relab
                    by_cases c1 : j < m ∧ zs.getD j 0 = z2
                    · rw [if_pos c1, if_pos ⟨by omega, c1.2⟩]
                    · rw [if_neg c1, if_neg (fun h => ?_)]
                      by_cases e : j = m
                      · subst e; exact hyz (by rw [← hzm]; exact h.2)
                      · exact c1 ⟨by omega, h.2⟩
                  have hyb : (y == z2) = false := beq_eq_false_iff_ne.2 hyz
                  have HQs := hide hQ
                  clear hy hym hzm hyl hQ hY hyz
                  go_wp2
                  go_roundw
                  case rel =>
                    have hfin : ∃ (m' : Nat) (ys : List Int), m' ≤ N ∧ Value.int .i64 ((m : Int) + 1) = .int .i64 (m' : Int) ∧ QR w wr N w1.heap.size N ys F ∧ Hid (∀ j, j < N → ys.getD j 0 = relab (fun j => zs.getD j 0) z2 z1 m' j) ∧ Hid (wr.ownsRow (w.heap.size + 1) 3 1 (.slice p5 n c5) n ((cut n b⁻¹).map (Value.int .i64))) := ⟨m + 1, _, hml, by go_num, HQs.out, HY2, hU⟩
                    first
                      | exact hfin
                      | ((repeat apply Exists.intro); exact ⟨hfin, rfl⟩)
                  case measure => simp [intOf]; omega
              · obtain rfl : N = m := by omega
                have HLb2 : Hid (LabOk N (nx (mv X (a * b⁻¹))) (qs X a b) (i + 1) (fun j => ys.getD j 0)) := by
                  have h9 := hLb.out.join HSts.out HSG.out hlt
                  have key : ∀ j, j < N → ys.getD j 0 = if zs.getD j 0 = zs.getD i 0 then zs.getD (nx (mv X (a * b⁻¹)) i) 0 else zs.getD j 0 := fun j hj => by
                    rw [hY.out j hj, HZ1.out, HZ2.out]
                    unfold relab
                    by_cases c1 : zs.getD j 0 = z2
                    · rw [if_pos ⟨hj, c1⟩, if_pos c1]
                    · rw [if_neg (fun h => c1 h.2), if_neg c1]
                  refine ⟨fun j k hj hk e => h9.sound j k hj hk ?_, fun r hr hrN => ?_, fun j hj => by show 0 ≤ ys.getD j 0 ∧ ys.getD j 0 < (N : Int); rw [key j hj]; exact h9.bnd j hj⟩
                  · show (if _ then _ else _) = (if _ then _ else _)
                    rw [← key j hj, ← key k hk]; exact e
                  · have h8 := h9.full r hr hrN
                    show ys.getD _ 0 = ys.getD _ 0
                    rw [key _ (HSG.out r hrN), key r hrN]; exact h8
                have HQs := hide hQ
                clear hY hQ
                go_wp2
                go_roundw
                case rel =>
                  have hfin : ∃ (i' : Nat) (zs : List Int), i' ≤ N ∧ Value.int .i64 ((i : Int) + 1) = .int .i64 (i' : Int) ∧ QR w wr N w1.heap.size N zs F ∧ Hid (LabOk N (nx (mv X (a * b⁻¹))) (qs X a b) i' (fun j => zs.getD j 0)) ∧ Hid (wr.ownsRow (w.heap.size + 1) 3 1 (.slice p5 n c5) n ((cut n b⁻¹).map (Value.int .i64))) := ⟨i + 1, _, hlt, by go_num, HQs.out, HLb2, hU⟩
                  first
                    | exact hfin
                    | ((repeat apply Exists.intro); exact ⟨hfin, rfl⟩)
                case measure => simp [intOf]; omega
        · obtain rfl : N = i := by omega
          have HLF : Hid (LabOk (mv X (a * b⁻¹)).length (nx (mv X (a * b⁻¹))) ((cycsTo (mv X (a * b⁻¹)) (mv X (a * b⁻¹)).length).map srt) (mv X (a * b⁻¹)).length (fun j => zs.getD j 0)) := by
            show LabOk _ _ _ _ _
            rw [HQS.out, HML.out]; exact hLb.out
          have HRowO := hide hQ.row
          have HBQ := hide hQ.below
          have hwlt : w.heap.size < wr.heap.size := (hQ.row.lt w.heap.size rfl).2
          have HDN : Hid (outTo (mv X (a * b⁻¹)) N = qs X a b) := by
            have h9 := outTo_done HMr.out
            rw [HQS.out, HML.out] at h9
            exact h9
          have HQO0 : Hid (QO (wr.alloc (.map #[] 0)) (wr.alloc (.map #[] 0)) wr.heap.size 0 (.slice none 0 0) [] [] (fun _ => none)) := ⟨LL.nil _ _, by simp, IMap.made wr, Frm.refl _ _ _ _⟩
          have HNum0 : Hid (NumL (mv X (a * b⁻¹)) (fun j => zs.getD j 0) 0 (fun _ => none)) := ⟨fun j hj => absurd hj (by omega), fun _ _ => rfl⟩
          have hsz : (wr.alloc (.map #[] 0)).heap.size = wr.heap.size + 1 := by simp
          have HBA : Hid (Below wr.heap.size wr (wr.alloc (.map #[] 0))) := (Below.refl _ _).alloc (Nat.le_refl _) _
          obtain ⟨M2, hM2⟩ : ∃ M2, M2 = wr.heap.size := ⟨_, rfl⟩
          rw [← hM2] at HQO0 hsz hwlt
          clear hQ hLb hU
          generalize hr : mv X (a * b⁻¹) = r at *
          clear hr
          rw [HML.out] at HLF HQS
          go_wp2
          generalize hWo : wr.alloc (.map #[] 0) = Wo at *
          have HSZ := hide hsz
          have hMo : M2 < Wo.heap.size := by omega
          have HOF : Hid (∀ W, Frm Wo.heap.size M2 M2 Wo W → ∀ j, j < N → W.cell? ⟨w.heap.size, j, none⟩ = some (.int .i64 (zs.getD j 0))) := fun W hW j hj => by
            have h9 := (owns_cell HRowO.out hj).1
            have hblk : W.heap[w.heap.size]? = wr.heap[w.heap.size]? := (hW.block w.heap.size (by omega) (by omega) (by omega)).trans (HBA.out.block w.heap.size (by omega))
            rw [World.cell?_of_block (w := wr) (a := ⟨w.heap.size, j, none⟩) hblk]
            exact h9
          have HBF : Hid (∀ W, Frm Wo.heap.size M2 M2 Wo W → Below w.heap.size w W) := fun W hW => HBQ.out.trans ((HBA.out.mono (by omega)).trans (hW.below (by omega) (by omega) (by omega)))
          clear hWo hsz HRowO HBQ HBA
          rw [← hM2]
          clear hM2
          go_loopw [16, 18] (fun sv si wr => ∃ (i cnt : Nat) (vs : List Value) (F : Int → Option Value), i ≤ N ∧ cnt ≤ i ∧ si = .int .i64 (i : Int) ∧ QO Wo wr M2 cnt sv vs (outTo r i) F ∧ Hid (NumL r (fun j => zs.getD j 0) i F)) (fun _ si _ => N - (intOf si).toNat)
          case atStart => exact ⟨0, 0, [], _, Nat.zero_le _, Nat.le_refl _, rfl, HQO0.out, HNum0⟩
          case round =>
            clear HQO0 HNum0
            obtain ⟨i, cnt, vs, F2, hiN, hcnt, rfl, hQ, hNm⟩ := hrel
            by_cases hlt : i < N
            · have hcz := HOF.out wr hQ.frm i hlt
              have hirl : i < r.length := by rw [HML.out]; exact hlt
              have HLFr : Hid (LabOk r.length (nx r) ((cycsTo r r.length).map srt) r.length (fun j => zs.getD j 0)) := by show LabOk _ _ _ _ _; rw [HML.out]; exact HLF.out
              have hbd := HLF.out.bnd i hlt
              have hbd' : 0 ≤ zs.getD i 0 ∧ zs.getD i 0 < (N : Int) := hbd
              have hlk := hQ.map.look_ok Try.underlying108 (Try.zero3 wr) (a := zs.getD i 0) (by omega) (by omega)
              have hol : (outTo r i).length ≤ i := by unfold outTo; rw [List.length_map]; exact cycsTo_length _ _
              by_cases hin : (i : Int) ∈ (cycsTo r i).flatten
              · obtain ⟨hF2, hN2⟩ := hNm.out.known HMr.out HLFr.out hirl hin
                have hF2' : F2 (zs.getD i 0) = some (.int .i64 ((sof (cycsTo r i) i : Nat) : Int)) := hF2
                rw [hF2'] at hlk
                obtain ⟨C, hC, hiC⟩ := sof_at HMr.out (by omega) hin
                have hko : (outTo r i)[sof (cycsTo r i) i]? = some (asc i C) := by unfold outTo; rw [List.getElem?_map, hC]; rfl
                have HO2 : Hid (outTo r (i + 1) = (outTo r i).set (sof (cycsTo r i) i) (asc i C ++ [(i : Int)])) := outTo_in HMr.out hirl hC hiC
                generalize sof (cycsTo r i) i = kk at *
                have hkl := (List.getElem?_eq_some_iff.1 hko).1
                have hgX : (outTo r i).getD kk [] = asc i C := by rw [List.getD, hko]; rfl
                have hal : (asc i C).length ≤ i := by
                  unfold asc
                  rw [List.length_map]
                  have := List.length_filter_le (fun j => decide (((j : Nat) : Int) ∈ C)) (List.range i)
                  rw [List.length_range] at this
                  exact this
                have hat := hQ.out.at hkl
                rw [hgX] at hat
                have hrr := hQ.out.row
                rw [hQ.out.len] at hrr
                obtain ⟨gv, cv, ev, hv1, hv2, hv3, hv4⟩ := owns_form hrr (by omega)
                subst ev
                have hcuA := owns_val hrr hkl
                have HQ := hide hQ
                have HN2 := hide hN2
                have HKL := hide hkl
                have HLL := hide hQ.out.len
                generalize hol2 : (outTo r i).length = ol at *
                have HOL := hide hol2
                generalize zs.getD i 0 = zi at *
                generalize hX9 : asc i C = X9 at *
                clear hQ hNm hC hiC hko hgX hrr hin hF2 hF2' hN2 hbd hol2 hX9
                have HRU := hide hat
                obtain ⟨puA, cuA, epuA⟩ := owns_slice HRU.out
                have hssA := HQ.out.frm.size
                have HUK : Hid (vs.getD kk undef = .slice puA X9.length cuA) := epuA
                rw [epuA] at hcuA HRU
                generalize hxlA : X9.length = xlA at *
                have HXLA := hide hxlA
                clear hxlA epuA
                go_wp2_with (at_builtin; refine wpList_append_keep _ rfl _ _ 23 rfl Wo.heap.size 3 j0 (.int .i64 0) 1 8 Try.underlying23 hji hjz0 hjz1 hjz2 rfl (by decide) _ xlA (X9.map (Value.int .i64)) rfl (HRU.out.alloc _) ⟨wr.heap.size, 0, none⟩ 1 1 [.int .i64 (i : Int)] rfl rfl (cell_one_new _ _ _) (by intro u hu; simp at hu; subst hu; rfl) (by unfold maxLen; omega) (by omega) (by simp; omega) ?_)
                intro u9 w9 hown9 hg9 hp9
                have hown9' : w9.ownsRow Wo.heap.size 3 1 u9 (X9 ++ [(i : Int)]).length ((X9 ++ [(i : Int)]).map (Value.int .i64)) := by rw [List.length_append, List.map_append, HXLA.out]; exact hown9
                obtain ⟨hQ9, ⟨y9, hcy9⟩, hfy9⟩ := HQ.out.grow hMo (k := kk) (by rw [HOL.out]; exact HKL.out) HUK.out hown9' hg9 (hp9.imp id (fun h => ⟨by rw [h.1]; simp, h.2⟩))
                obtain ⟨p9, c9, e9⟩ := owns_slice hown9'
                rw [List.length_append, List.length_singleton, HXLA.out] at e9
                subst e9
                have HQ9 := hide hQ9
                clear hown9 hown9' hg9 hp9 hQ9 HRU HUK
                go_wp2
                go_roundw
                case rel =>
                  have hfin : ∃ (i' cnt : Nat) (vs : List Value) (F : Int → Option Value), i' ≤ N ∧ cnt ≤ i' ∧ Value.int .i64 ((i : Int) + 1) = .int .i64 (i' : Int) ∧ QO Wo (w9.setCell ⟨gv, kk, none⟩ (.slice p9 (xlA + 1) c9)) M2 cnt (.slice (some ⟨gv, 0, none⟩) ol cv) vs (outTo r i') F ∧ Hid (NumL r (fun j => zs.getD j 0) i' F) := ⟨i + 1, cnt, _, F2, hlt, by omega, by go_num, by rw [HO2.out]; exact HQ9.out, HN2⟩
                  first
                    | exact hfin
                    | ((repeat apply Exists.intro); exact ⟨hfin, rfl⟩)
                case measure => simp [intOf]; omega
              · obtain ⟨hF2, hN2⟩ := hNm.out.fresh HMr.out HLFr.out hirl hin
                have hF2' : F2 (zs.getD i 0) = none := hF2
                rw [hF2'] at hlk
                have HO2 : Hid (outTo r (i + 1) = outTo r i ++ [[(i : Int)]]) := outTo_new HMr.out hirl hin
                have hcl : (cycsTo r i).length = (outTo r i).length := by unfold outTo; rw [List.length_map]
                rw [hcl] at hN2
                have HN2 := hide hN2
                have hrr := hQ.out.row
                rw [hQ.out.len] at hrr
                obtain ⟨pv, cv, ev⟩ := owns_slice hrr
                subst ev
                have HQ := hide hQ
                have HMP := hide hQ.map
                have hcl2 : cnt < maxLen := by unfold maxLen; omega
                have HZI : Hid (∀ W, Frm Wo.heap.size M2 M2 Wo W → W.cell? ⟨w.heap.size, i, none⟩ = some (.int .i64 (zs.getD i 0))) := fun W hW => HOF.out W hW i hlt
                have hN2' : Hid (NumL r (fun j => zs.getD j 0) (i + 1) (upd F2 (zs.getD i 0) (.int .i64 (((outTo r i).length : Nat) : Int)))) := HN2
                generalize hol2 : (outTo r i).length = ol at *
                have HOL := hide hol2
                generalize hzi : zs.getD i 0 = zi at *
                clear hQ hNm hrr hin hF2 hF2' hN2 hbd hcl hol2 HN2 hzi
                go_wp2_with (at_mapUpdate; refine wpList_put rfl _ _ _ 108 rfl 3 Try.underlying108 HMP.out hcl2 zi (.int .i64 (ol : Int)) rfl rfl rfl (by omega) (by omega) ?_)
                intro w3 hM3 hg3
                have hQ3 := HQ.out.put hM3 hg3
                have hrr := hQ3.out.row
                rw [hQ3.out.len, HOL.out] at hrr
                have HRow3 := hide hrr
                have HQ3 := hide hQ3
                have hs3 := hQ3.frm.size
                have HVL : Hid (vs.length = ol) := by show _ = _; rw [hQ3.out.len]; exact HOL.out
                clear hM3 hg3 HQ HMP hQ3 hrr hlk hcz
                go_wp2_with (at_builtin; refine wpList_append_own _ rfl _ _ 22 rfl Wo.heap.size 23 i0 (.slice none 0 0) 1 24 Try.underlying22 hi hz0 hz1 hz2 rfl (by decide) _ ol vs rfl (HRow3.out.alloc _) ⟨w3.heap.size, 0, none⟩ 1 1 [.slice none 0 0] rfl rfl (cell_one_new _ _ _) (by intro u hu; simp at hu; subst hu; rfl) (by unfold maxLen; omega) (by omega) (by simp; omega) ?_)
                intro v4 w4 hown4 hg4 _
                have hQ4 := HQ3.out.more hMo (by rw [HVL.out]; exact hown4) hg4
                obtain ⟨gv, cv4, ev4, hv1, hv2, hv3, hv4⟩ := owns_form hown4 (by omega)
                subst ev4
                have hkl : ol < (outTo r i ++ [[]]).length := by rw [List.length_append, HOL.out]; simp
                have hgX : (outTo r i ++ [[]]).getD ol [] = ([] : List Int) := by rw [List.getD, List.getElem?_append_right (by rw [HOL.out]; exact Nat.le_refl _), HOL.out, Nat.sub_self]; rfl
                have hat := hQ4.out.at hkl
                rw [hgX] at hat
                have hcuB := owns_val hown4 (j := ol) (by omega)
                obtain ⟨X9, hX9⟩ : ∃ X9 : List Int, X9 = [] := ⟨_, rfl⟩
                rw [← hX9] at hat
                have HX9 := hide hX9
                have hal : X9.length ≤ 1000 := by rw [hX9]; simp
                have HQ := hide hQ4
                have HKL := hide hkl
                generalize hvs4 : vs ++ [Value.slice none 0 0] = vs4 at *
                generalize hA4 : outTo r i ++ [[]] = A4 at *
                have HA4 := hide hA4
                clear hown4 hg4 hQ4 HQ3 HRow3 hgX hX9 hvs4 hA4
                have HRU := hide hat
                obtain ⟨puB, cuB, epuB⟩ := owns_slice HRU.out
                have hssB := HQ.out.frm.size
                have HUK : Hid (vs4.getD ol undef = .slice puB X9.length cuB) := epuB
                rw [epuB] at hcuB HRU
                generalize hxlB : X9.length = xlB at *
                have HXLB := hide hxlB
                clear hxlB epuB
                go_wp2_with (at_builtin; refine wpList_append_keep _ rfl _ _ 23 rfl Wo.heap.size 3 j0 (.int .i64 0) 1 8 Try.underlying23 hji hjz0 hjz1 hjz2 rfl (by decide) _ xlB (X9.map (Value.int .i64)) rfl (HRU.out.alloc _) ⟨w4.heap.size, 0, none⟩ 1 1 [.int .i64 (i : Int)] rfl rfl (cell_one_new _ _ _) (by intro u hu; simp at hu; subst hu; rfl) (by unfold maxLen; omega) (by omega) (by simp; omega) ?_)
                intro u9 w9 hown9 hg9 hp9
                have hown9' : w9.ownsRow Wo.heap.size 3 1 u9 (X9 ++ [(i : Int)]).length ((X9 ++ [(i : Int)]).map (Value.int .i64)) := by rw [List.length_append, List.map_append, HXLB.out]; exact hown9
                obtain ⟨hQ9, ⟨y9, hcy9⟩, hfy9⟩ := HQ.out.grow hMo (k := ol) (by exact HKL.out) HUK.out hown9' hg9 (hp9.imp id (fun h => ⟨by rw [h.1]; simp, h.2⟩))
                obtain ⟨p9, c9, e9⟩ := owns_slice hown9'
                rw [List.length_append, List.length_singleton, HXLB.out] at e9
                subst e9
                have HQ9 := hide hQ9
                have HFX2 : Hid (QO Wo (w9.setCell ⟨gv, ol, none⟩ (.slice p9 (xlB + 1) c9)) M2 (cnt + 1) (.slice (some ⟨gv, 0, none⟩) (ol + 1) cv4) (vs4.set ol (.slice p9 (xlB + 1) c9)) (outTo r i ++ [[(i : Int)]]) (upd F2 zi (.int .i64 (ol : Int)))) := by
                  have h9 := HQ9.out
                  have e9 : A4.set ol (X9 ++ [(i : Int)]) = outTo r i ++ [[(i : Int)]] := by
                    rw [HX9.out, ← HA4.out, ← HOL.out, List.set_append_right _ _ (Nat.le_refl _), Nat.sub_self]
                    rfl
                  rw [e9] at h9
                  exact h9
                clear hown9 hown9' hg9 hp9 hQ9 HRU HUK
                go_wp2
                go_roundw
                case rel =>
                  have hfin : ∃ (i' cnt : Nat) (vs : List Value) (F : Int → Option Value), i' ≤ N ∧ cnt ≤ i' ∧ Value.int .i64 ((i : Int) + 1) = .int .i64 (i' : Int) ∧ QO Wo (w9.setCell ⟨gv, ol, none⟩ (.slice p9 (xlB + 1) c9)) M2 cnt (.slice (some ⟨gv, 0, none⟩) (ol + 1) cv4) vs (outTo r i') F ∧ Hid (NumL r (fun j => zs.getD j 0) i' F) := ⟨i + 1, cnt + 1, _, _, hlt, by omega, by go_num, by rw [HO2.out]; exact HFX2.out, hN2'⟩
                  first
                    | exact hfin
                    | ((repeat apply Exists.intro); exact ⟨hfin, rfl⟩)
                case measure => simp [intOf]; omega
            · obtain rfl : N = i := by omega
              have HI9 : Hid (IntsAll wr u16 (qs X a b)) := by have h9 := hQ.out.ints; rw [HDN.out] at h9; exact h9
              have HB9 := hide (HBF.out wr hQ.frm)
              clear hQ hNm
              go_wp2
              go_ret
              exact ⟨_, rfl, HI9.out, HB9.out⟩

end Go.Proofs.Ytimfoggjocajiaa
