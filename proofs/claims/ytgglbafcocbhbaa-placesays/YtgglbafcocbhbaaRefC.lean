/- Contracts of the answer's functions: Rank, At. -/
import Derived.Test.YtgglbafcocbhbaaRefB
import Derived.Deep.RegionLaw
namespace Go.Proofs.Ytgglbafcocbhbaa
open Go.RowKit
set_option maxRecDepth 20000

theorem cnt_append (x : Int) (l m : List Int) : cnt x (l ++ m) = cnt x l + cnt x m := by
  unfold cnt; rw [List.filter_append, List.length_append]

theorem cnt_rnd {n m : Nat} (h : m ≤ n) : cnt (m : Int) (rnd n) = m := by
  induction n with
  | zero => have : m = 0 := by omega
            subst this; rfl
  | succ n ih =>
    rw [rnd_snoc, cnt_append]
    by_cases e : m ≤ n
    · rw [ih e, show cnt (m : Int) [(n : Int)] = 0 from by unfold cnt; rw [List.filter_eq_nil_iff.2 (fun y hy => by have := List.mem_singleton.1 hy; subst this; simp; omega)]; rfl]; rfl
    · have e2 : m = n + 1 := by omega
      subst e2
      have h1 : cnt ((n + 1 : Nat) : Int) (rnd n) = n := by
        unfold cnt
        rw [List.filter_eq_self.2 (fun y hy => by
          obtain ⟨i, hi, rfl⟩ := List.mem_map.1 hy
          have := List.mem_range.1 hi
          simp; omega), rnd_length]
      have h2 : cnt ((n + 1 : Nat) : Int) [(n : Int)] = 1 := by
        unfold cnt
        rw [List.filter_eq_self.2 (fun y hy => by have := List.mem_singleton.1 hy; subst this; simp; omega)]; rfl
      rw [h1, h2]

theorem row_perm_rnd {a : List Int} (h : isRow a) : a.Perm (rnd a.length) :=
  perm_of_sub a (rnd a.length) h.2 (fun x hx => by have := h.1 x hx; exact List.mem_map.2 ⟨x.toNat, List.mem_range.2 (by omega), by omega⟩) (rnd_length _).symm

/-- Of a row: the lower ones ahead of a place, and behind it. -/
theorem cnt_split {a : List Int} (h : isRow a) {i m : Nat} (hi : i < a.length) (hm : a[i]?.getD 0 = (m : Int)) : cnt (m : Int) (a.take i) + cnt (m : Int) (a.drop (i + 1)) = m := by
  have hml : m < a.length := by
    have := h.at hi
    rw [show a.getD i 0 = (m : Int) from hm] at this
    omega
  have h1 : cnt (m : Int) a = m := by rw [cnt_perm (row_perm_rnd h), cnt_rnd (by omega)]
  have e : a = a.take i ++ ((m : Int) :: a.drop (i + 1)) := by
    have e2 : a[i] = (m : Int) := by rw [← hm]; simp [List.getElem?_eq_getElem hi]
    rw [← e2, ← List.drop_eq_getElem_cons hi, List.take_append_drop]
  rw [e, cnt_append] at h1
  have h2 : cnt (m : Int) ((m : Int) :: a.drop (i + 1)) = cnt (m : Int) (a.drop (i + 1)) := by
    unfold cnt; rw [List.filter_cons_of_neg (by simp)]
  rw [h2] at h1
  exact h1

theorem rankR_drop {a : List Int} {i m : Nat} (hi : i < a.length) (hm : a[i]?.getD 0 = (m : Int)) : rankR (a.drop i) = cnt (m : Int) (a.drop (i + 1)) * fct (a.length - 1 - i) + rankR (a.drop (i + 1)) := by
  have e2 : a[i] = (m : Int) := by rw [← hm]; simp [List.getElem?_eq_getElem hi]
  rw [List.drop_eq_getElem_cons hi, e2]
  show cnt (m : Int) (a.drop (i + 1)) * fct (a.drop (i + 1)).length + rankR (a.drop (i + 1)) = _
  rw [List.length_drop, show a.length - (i + 1) = a.length - 1 - i from by omega]

theorem rankR_le (a : List Int) (h : a.length ≤ 12) : rankR a ≤ 479001600 := by
  rw [← rkTo_all]; exact rkTo_le a a.length (Nat.le_refl _) h

set_option maxRecDepth 20000 in
set_option maxHeartbeats 2000000 in
theorem rrank_ok (v1 : Value) (a : List Int) (w : World) (i1 : Ints w v1 a) (r1 : isRow a) (n1 : 1 ≤ a.length) (n2 : a.length ≤ 12) :
    Calls Try.prog 17 #[v1] w fun e w' => e = .returned (.int .i64 (rkTo a a.length)) ∧ Below w.heap.size w w' := by
  have R1 := hide r1
  have hrl := rankR_le a n2
  rw [rkTo_all]
  rcases i1 with ⟨rfl, p, c, rfl⟩ | ⟨b1, o1, cap1, rfl, h01, hcp1, hm1, hb1, hcell1⟩
  · simp at n1
  have HC := hide hcell1
  clear r1 hcell1
  go_enter Try.func17, Try.ntmps17
  go_wp2
  go_loopw [3, 4] (fun sk si wr => ∃ i kk : Nat, i ≤ a.length ∧ si = .int .i64 i ∧ sk = .int .i64 kk ∧ Hid (kk + rankR (a.drop i) = rankR a) ∧ Below w.heap.size w wr) (fun _ si _ => a.length - (intOf si).toNat)
  case atStart => exact ⟨0, 0, by omega, rfl, rfl, by show 0 + rankR (a.drop 0) = _; rw [Nat.zero_add]; rfl, Below.refl _ _⟩
  case round =>
    obtain ⟨i, kk, hi, rfl, rfl, hkk, hbw⟩ := hrel
    by_cases hlt : i < a.length
    · obtain ⟨p, hp, hcp⟩ := cellAt HC.out hlt
      have hpr := R1.out.at hlt
      rw [show a.getD i 0 = p from hp.out] at hpr
      obtain ⟨m, rfl⟩ := Int.eq_ofNat_of_zero_le hpr.1
      have hm12 : m < 12 := by have := hpr.2; omega
      have gp : wr.cell? ⟨b1, o1 + i, none⟩ = some (.int .i64 (m : Int)) := (hbw.cell (by exact hb1)).trans hcp
      clear hpr hcp
      obtain ⟨wo, hwo⟩ : ∃ wo : World, wo = wr := ⟨_, rfl⟩
      go_wp2
      go_loopw [5, 6] (fun sl sj wr => ∃ j : Nat, j ≤ i ∧ sj = .int .i64 j ∧ sl = .int .i64 ((m : Int) - (cnt (m : Int) (a.take j) : Nat)) ∧ Below w.heap.size w wr) (fun _ sj _ => i - (intOf sj).toNat)
      case atStart => exact ⟨0, by omega, rfl, by simp [cnt], hbw⟩
      case round =>
        clear gp hwo hbw
        obtain ⟨j, hj, rfl, rfl, hbw⟩ := hrel
        have hcl := cnt_le (m : Int) (a.take j)
        have hcl2 : (a.take j).length ≤ j := List.length_take_le _ _
        by_cases hji : j < i
        · have hja : j < a.length := by omega
          obtain ⟨q, hq, hcq⟩ := cellAt HC.out hja
          obtain ⟨p2, hp2, hcp2⟩ := cellAt HC.out hlt
          have hpm : p2 = (m : Int) := hp2.out.symm.trans hp.out
          rw [hpm] at hcp2
          have g1 : wr.cell? ⟨b1, o1 + j, none⟩ = some (.int .i64 q) := (hbw.cell (by exact hb1)).trans hcq
          have g2 : wr.cell? ⟨b1, o1 + i, none⟩ = some (.int .i64 (m : Int)) := (hbw.cell (by exact hb1)).trans hcp2
          have HS : Hid (cnt (m : Int) (a.take (j + 1)) = cnt (m : Int) (a.take j) + if q < (m : Int) then 1 else 0) := by show _ = _; rw [take_snoc a j hja, hq.out]; exact cnt_snoc _ _ _
          clear hcq hcp2 hpm hp2
          by_cases hqm : q < (m : Int)
          · go_wp2
            go_region
            all_goals
              go_wp2
              go_roundw
              case rel => exact ⟨j + 1, by omega, by go_num, by rw [HS.out, if_pos hqm]; go_num, by first | exact hbw | exact hbw.drew | exact hbw.drew.drew⟩
              case measure => simp [intOf]; omega
          · go_wp2
            go_region
            all_goals
              go_wp2
              go_roundw
              case rel => exact ⟨j + 1, by omega, by go_num, by rw [HS.out, if_neg (by omega)]; go_num, by first | exact hbw | exact hbw.drew | exact hbw.drew.drew⟩
              case measure => simp [intOf]; omega
        · obtain rfl : j = i := by omega
          have hsp := cnt_split R1.out hlt hp.out
          have hrd := rankR_drop hlt hp.out
          generalize hdd : cnt (m : Int) (a.drop (j + 1)) = d at *
          have hfl := fct_le (n := a.length - 1 - j) (by omega)
          have hmul : Hid (kk + d * fct (a.length - 1 - j) + rankR (a.drop (j + 1)) = rankR a) := by have := hkk.out; show _ = _; omega
          have hmb : ((d : Int)) * ((fct (a.length - 1 - j) : Nat) : Int) ≤ 479001600 := by
            have h1 := hmul.out
            rw [← Int.natCast_mul]; omega
          have hmb0 : 0 ≤ ((d : Int)) * ((fct (a.length - 1 - j) : Nat) : Int) := by rw [← Int.natCast_mul]; omega
          have hkb : kk ≤ 479001600 := by have := hmul.out; omega
          have hmd : (m : Int) - ((cnt (m : Int) (a.take j) : Nat) : Int) = (d : Int) := by omega
          rw [hmd]
          have HF := hide (factorial_any (a.length - 1 - j) wr (by omega))
          have earg : ((a.length : Int) - 1 - (j : Int)) = ((a.length - 1 - j : Nat) : Int) := by omega
          have HEA := hide earg
          have HK : Hid (((kk : Int)) + (d : Int) * ((fct (a.length - 1 - j) : Nat) : Int) = ((kk + d * fct (a.length - 1 - j) : Nat) : Int)) := by show _ = _; rw [Int.natCast_add, Int.natCast_mul]
          clear hsp hrd hdd hkk hmd hcl hcl2 earg
          go_wp2_with fail
          rw [HEA.out]
          refine HF.out.mono ?_
          rintro e w1 ⟨rfl, rfl⟩
          go_wp2
          go_roundw
          case rel => exact ⟨j + 1, _, by omega, by go_num, by rw [HK.out], hmul, hbw⟩
          case measure => simp [intOf]; omega
    · obtain rfl : i = a.length := by omega
      have HE : Hid (kk = rankR a) := by have := hkk.out; rw [List.drop_length] at this; exact this
      go_wp2
      go_ret
      exact ⟨ret_int (by rw [HE.out]), hbw⟩

/-- 'append' to a row of the call's own, as one step of a region that draws. -/
theorem step_append_own {P : Program} {ops : Array Oper} {o : Oper} {a : Act} {w : World} {K : Act → World → Prop} {Q : Exit → Act → World → Prop} {E : Prop} (hg : o.guard = none) (s x : Operand) (t : TypeId)
    (ho : o.op = .call { callee := .builtin .append, args := #[s, x], argTypes := #[t, t] })
    (base : Nat) (e : TypeId) (i : TypeInfo) (z : Value) (size bytes : Nat) (ht : P.underlying t = some (.slice e)) (hi : P.info? e = some i) (hz : i.zero = some z)
    (hsize : i.size = size) (hby : i.bytes = bytes) (hzs : z.cells.size = size) (hsz : 0 < size)
    (v : Value) (n : Nat) (xs : List Value) (hs : a.eval s = v) (hown : w.ownsRow base e size v n xs)
    (ad : Addr) (m c : Nat) (news : List Value) (hx : a.eval x = .slice (some ad) m c) (hl : news.length = m * size) (hnews : ∀ j u, news[j]? = some u → w.cell? (ad.add j) = some u) (h1 : ∀ u ∈ news, u.oneCell' = true)
    (h63 : n + m ≤ maxLen) (hbytes : (n + m) * bytes ≤ 140737488355328) (hbase : base ≤ w.heap.size)
    (h : ∀ v' w', w'.ownsRow base e size v' (n + m) (xs ++ news) → w.grownBy w' v.ownBlock → K (a.put o.dst v') w') :
    if Region.wanted o (yielded ops a.tmps) = true then Oper.wp P o a w K Q else E := by
  have hw : Region.wanted o (yielded ops a.tmps) = true := by simp [Region.wanted, hg]
  rw [if_pos hw]
  exact wp_append_own w s x t ho base e i z size bytes ht hi hz hsize hby hzs hsz v n xs hs hown ad m c news hx hl hnews h1 h63 hbytes hbase (fun v' w' h2 h3 _ => h v' w' h2 h3)

theorem own_at {w : World} {base e g n cap : Nat} {xs : List Value} (h : w.ownsRow base e 1 (.slice (some ⟨g, 0, none⟩) n cap) n xs) (w4 : World) (hw : w4.heap[g]? = w.heap[g]?) {j : Nat} {u : Value} (hu : xs[j]? = some u) : w4.cell? ⟨g, j, none⟩ = some u := by
  have h1 := h.cells (g := g) rfl j u hu
  rw [Addr.add_lit, Nat.zero_add] at h1
  rw [World.cell?_of_block (w := w) (a := ⟨g, j, none⟩) hw]
  exact h1

theorem own_ne {u v : Option Nat} {B : Nat} (hu : ∀ k, u = some k → k < B) (hv : ∀ k, v = some k → B ≤ k) : u = none ∨ u ≠ v := by
  cases u with
  | none => exact Or.inl rfl
  | some k =>
    refine Or.inr (fun e => ?_)
    have h1 := hu k rfl
    have h2 := hv k e.symm
    omega

theorem first_at {w : World} {base g n cap q : Nat} {L : List Int} (h : w.ownsRow base 3 1 (.slice (some ⟨g, 0, none⟩) n cap) n (L.map (Value.int .i64))) (w4 : World) (hw : w4.heap[g]? = w.heap[g]?) :
    ∀ j u, ((L.take q).map (Value.int .i64))[j]? = some u → w4.cell? ((⟨g, 0, none⟩ : Addr).add j) = some u := by
  intro j u hu
  rw [Addr.add_lit, Nat.zero_add]
  refine own_at h w4 hw ?_
  rw [List.map_take, List.getElem?_take] at hu
  split at hu
  · exact hu
  · cases hu

theorem rest_at {w : World} {base g n cap q : Nat} {L : List Int} (h : w.ownsRow base 3 1 (.slice (some ⟨g, 0, none⟩) n cap) n (L.map (Value.int .i64))) (hl : L.length = n) (hc : n ≤ cap) :
    ∃ A : Addr, (if cap = q + 1 then some (⟨g, 0, none⟩ : Addr) else some ⟨g, q + 1, none⟩) = some A ∧ Hid (∀ j u, ((L.drop (q + 1)).map (Value.int .i64))[j]? = some u → ∀ w4 : World, w4.heap[g]? = w.heap[g]? → w4.cell? (A.add j) = some u) := by
  by_cases e : cap = q + 1
  · refine ⟨⟨g, 0, none⟩, by simp [e], fun j u hu w4 _ => ?_⟩
    rw [List.drop_eq_nil_of_le (by omega)] at hu
    simp at hu
  · refine ⟨⟨g, q + 1, none⟩, by simp [e], fun j u hu w4 hw => ?_⟩
    rw [Addr.add_lit]
    refine own_at h w4 hw ?_
    rw [List.map_drop, List.getElem?_drop] at hu
    exact hu

set_option maxRecDepth 20000 in
set_option maxHeartbeats 4000000 in
theorem rat_own (n k : Nat) (w : World) (h2 : n ≤ 12) (hk : k < fct n) :
    Calls Try.prog 27 #[.int .i64 n, .int .i64 k] w fun e w' => ∃ v, e = .returned v ∧ w'.ownsRow w.heap.size 3 1 v n ((atl n (rnd n) k).map (Value.int .i64)) ∧ Below w.heap.size w w' := by
  obtain ⟨i0, hi, hz0, hz1, hz2⟩ := info_parts Try.info3
  have HR := hide (rrounds_ok n w (by omega))
  have hfn := fct_le h2
  go_enter Try.func27, Try.ntmps27
  go_wp2_with fail
  refine HR.out.mono ?_
  rintro e w1 ⟨v1, rfl, hown1, hb1⟩
  clear HR
  go_wp2
  go_loopw [1, 5, 6] (fun sk so sl wr => ∃ (m kk B : Nat) (L xs : List Int), m ≤ n ∧ kk < fct m ∧ sk = .int .i64 (kk : Int) ∧
      wr.ownsRow B 3 1 sl m (L.map (Value.int .i64)) ∧ wr.ownsRow w.heap.size 3 1 so (n - m) (xs.map (Value.int .i64)) ∧ (∀ g, so.ownBlock = some g → g < B) ∧ w.heap.size ≤ B ∧ B ≤ wr.heap.size ∧
      Hid (xs ++ atl m L kk = atl n (rnd n) k) ∧ Below w.heap.size w wr) (fun _ _ sl _ => sliceLen sl)
  case atStart => exact ⟨n, k, w.heap.size, rnd n, [], Nat.le_refl _, hk, rfl, hown1, by rw [Nat.sub_self]; exact World.ownsRow_nil _ _ _ _, (fun g h => by cases h), Nat.le_refl _, hb1.size, rfl, hb1⟩
  case round =>
    obtain ⟨m, kk, B, L, xs, hmn, hkk, rfl, hl, hr, hob, hwB, hB, hat, hbw⟩ := hrel
    have hbs := hbw.size
    have hsl := hide (owns_len hl)
    cases m with
    | zero =>
      obtain ⟨p, cap, hv⟩ := owns_slice hl
      have e0 : L = [] := by have := hl.1; simpa using this
      rw [hv]
      clear hl hsl
      go_wp2
      go_ret
      refine ⟨_, rfl, ?_, hbw⟩
      have := hr
      rw [← hat.out]
      simpa [atl] using this
    | succ m =>
      obtain ⟨g, cap, hv, hg1, hg2, hgc, hcm⟩ := owns_form hl (by omega)
      rw [hv] at hl hsl ⊢
      have hLl : L.length = m + 1 := by have := hl.1; simpa using this
      have hG := fct_pos m
      have hFG : fct (m + 1) = (m + 1) * fct m := rfl
      have hGb := fct_le (n := m) (by omega)
      have hdl : kk / fct m < m + 1 := by rw [Nat.div_lt_iff_lt_mul hG, ← hFG]; exact hkk
      have hml : kk % fct m < fct m := Nat.mod_lt _ hG
      have hkb : kk ≤ 479001600 := by have := fct_le (n := m + 1) (by omega); omega
      have hq2 : (kk : Int) / ((fct m : Nat) : Int) = ((kk / fct m : Nat) : Int) := (Int.natCast_ediv kk (fct m)).symm
      have hr2 : (kk : Int) % ((fct m : Nat) : Int) = ((kk % fct m : Nat) : Int) := (Int.natCast_emod kk (fct m)).symm
      have hstep : Hid (xs ++ [L.getD (kk / fct m) 0] ++ atl m (L.eraseIdx (kk / fct m)) (kk % fct m) = atl n (rnd n) k) := by
        show _ = _
        rw [← hat.out, List.append_assoc]; rfl
      have HF := hide (factorial_any m wr (by omega))
      generalize kk / fct m = q at *
      generalize kk % fct m = r at *
      clear hFG hat hkk
      generalize hGe : fct m = G at *
      have HGe := hide hGe
      clear hGe hv
      obtain ⟨y, hy, hcy, hfy⟩ := owns_cellAt hl hdl
      rw [show L.getD q 0 = y from hy.out] at hstep
      go_wp2_with fail
      refine HF.out.mono ?_
      rintro e w2 ⟨rfl, rfl⟩
      clear HF
      go_wp2_with (at_builtin; refine wpList_append_own _ rfl _ _ 22 rfl w.heap.size 3 i0 (.int .i64 0) 1 8 Try.underlying22 hi hz0 hz1 hz2 rfl (by decide) _ _ _ rfl (hr.alloc _) ⟨wr.heap.size, 0, none⟩ 1 1 [.int .i64 y] rfl rfl ?c1 ?c2 ?c3 ?c4 ?c5 ?_)
      case c1 => exact cell_one_new _ _ _
      case c2 => intro u hu; simp at hu; subst hu; rfl
      case c3 => unfold maxLen; omega
      case c4 => omega
      case c5 => simp; omega
      · intro v3 w3 hown3 hgrow3 _
        have hl3 := (hl.alloc (.cells #[.int .i64 y] 3)).kept hgrow3 (Or.inr (by intro e; have := hob g e.symm; omega))
        have hb3 : Below w.heap.size w w3 := (hbw.alloc hbw.size _).grown hgrow3 (by simp; omega) (fun g hg => (hr.lt g hg).1)
        have hlt3 := hown3.lt
        have hgs3 := (hl3.lt g rfl).2
        have hic : (q : Int) ≤ (cap : Int) := by omega
        have hq0 : (0 : Int) ≤ (q : Int) := by omega
        have hwr : IntKind.i64.wrap ((q : Int) + 1) = (q : Int) + 1 := by rw [IntKind.wrap_i64]; omega
        have hp0 : (0 : Int) ≤ (q : Int) + 1 := by omega
        have hp1 : (q : Int) + 1 ≤ ((m : Int) + 1) := by omega
        have hp2 : ((q : Int) + 1).toNat = q + 1 := by omega
        obtain ⟨A, hA, hcA⟩ := rest_at (q := q) hl3 hLl hgc
        have HE : Hid ((w3.alloc (.cells #[] 3)).drew.ownsRow w3.heap.size 3 1 (.slice (some ⟨w3.heap.size, 0, none⟩) 0 0) 0 []) := World.ownsRow_made w3 #[] 0 (Nat.le_refl _) (by decide) (by simp)
        have HN1 := hide (first_at (q := q) hl3 (w3.alloc (.cells #[] 3)).drew (Below.heap_alloc w3 _ g hgs3))
        have HL1 : Hid (((L.take q).map (Value.int .i64)).length = q * 1) := by show _ = _; rw [List.length_map, List.length_take]; omega
        have HL2 : Hid (((L.drop (q + 1)).map (Value.int .i64)).length = (m - q) * 1) := by show _ = _; rw [List.length_map, List.length_drop]; omega
        have HO1 := hide (ints_oneCell .i64 (L.take q))
        have HO2 := hide (ints_oneCell .i64 (L.drop (q + 1)))
        have HM1 : Hid (0 + q ≤ maxLen) := by unfold Hid maxLen; omega
        have HM2 : Hid (0 + q + (m - q) ≤ maxLen) := by unfold Hid maxLen; omega
        have HY1 : Hid ((0 + q) * 8 ≤ 140737488355328) := by unfold Hid; omega
        have HY2 : Hid ((0 + q + (m - q)) * 8 ≤ 140737488355328) := by unfold Hid; omega
        have HS1 : Hid (w3.heap.size ≤ (w3.alloc (.cells #[] 3)).drew.heap.size) := by show w3.heap.size ≤ (w3.alloc _).heap.size; simp
        go_wp2_with fail
        go_region_law ((first
          | (refine step_append_own rfl (.tmp 31) (.tmp 34) 22 rfl w3.heap.size 3 i0 (.int .i64 0) 1 8 Try.underlying22 hi hz0 hz1 hz2 rfl (by decide) (.slice (some ⟨w3.heap.size, 0, none⟩) 0 0) 0 [] rfl HE.out ⟨g, 0, none⟩ q cap ((L.take q).map (Value.int .i64)) rfl HL1.out HN1.out HO1.out HM1.out HY1.out HS1.out ?_; intro v4 w4 hown4 hgrow4)
          | (refine step_append_own rfl (.tmp 35) (.tmp 39) 22 rfl w3.heap.size 3 i0 (.int .i64 0) 1 8 Try.underlying22 hi hz0 hz1 hz2 rfl (by decide) v4 (0 + q) _ rfl hown4 A (m - q) (cap - (q + 1)) ((L.drop (q + 1)).map (Value.int .i64)) rfl HL2.out (fun j u hu => hcA.out j u hu w4 (by rw [hgrow4.block g (by show g < (w3.alloc _).heap.size; simp; omega) (by intro e; have e' : g = w3.heap.size := Option.some.inj e; omega)]; exact Below.heap_alloc w3 _ g hgs3)) HO2.out HM2.out HY2.out (Nat.le_trans HS1.out hgrow4.size) ?_; intro v5 w5 hown5 hgrow5)))
        have hr5 := (((hown3.alloc (.cells #[] 3)).drew).kept hgrow4 (own_ne (fun k hk => (hlt3 k hk).2) (fun k hk => by have e' : w3.heap.size = k := Option.some.inj hk; omega))).kept hgrow5 (own_ne (fun k hk => (hlt3 k hk).2) (fun k hk => (hown4.lt k hk).1))
        have hb5 : Below w.heap.size w w5 := ((((hb3.alloc hb3.size (.cells #[] 3)).drew).grown hgrow4 (Nat.le_trans hb3.size HS1.out) (fun k hk => by have e' : w3.heap.size = k := Option.some.inj hk; have := hb3.size; omega))).grown hgrow5 (Nat.le_trans hb3.size (Nat.le_trans HS1.out hgrow4.size)) (fun k hk => by have := (hown4.lt k hk).1; have := hb3.size; omega)
        have hs5 : w3.heap.size ≤ w5.heap.size := Nat.le_trans HS1.out (Nat.le_trans hgrow4.size hgrow5.size)
        have hl5 : w5.ownsRow w3.heap.size 3 1 v5 m ((L.eraseIdx q).map (Value.int .i64)) := by
          have h5 := hown5
          rw [List.nil_append, ← List.map_append, ← List.eraseIdx_eq_take_drop_succ, show 0 + q + (m - q) = m from by omega] at h5
          exact h5
        rw [show n - (m + 1) + 1 = n - m from by omega] at hr5
        have hsl5 := hide (owns_len hl5)
        have HL5 := hide hl5
        have HR5 := hide hr5
        clear hl5 hr5 hown5 hown4 hown3 hgrow4 hgrow5 hgrow3 HN1 HE hcA HL1 HL2 HO1 HO2 HM1 HM2 HY1 HY2 HS1 hl3
        go_wp2
        go_roundw
        case rel =>
          have hfin : ∃ (m' kk' B' : Nat) (L' xs' : List Int), m' ≤ n ∧ kk' < fct m' ∧ Value.int .i64 (r : Int) = .int .i64 (kk' : Int) ∧
              w5.ownsRow B' 3 1 v5 m' (L'.map (Value.int .i64)) ∧ w5.ownsRow w.heap.size 3 1 v3 (n - m') (xs'.map (Value.int .i64)) ∧ (∀ g, v3.ownBlock = some g → g < B') ∧ w.heap.size ≤ B' ∧ B' ≤ w5.heap.size ∧
              Hid (xs' ++ atl m' L' kk' = atl n (rnd n) k) ∧ Below w.heap.size w w5 :=
            ⟨m, r, w3.heap.size, _, xs ++ [y], by omega, by rw [HGe.out]; exact hml, rfl, HL5.out, by rw [List.map_append]; exact HR5.out, fun k hk => (hlt3 k hk).2, hb3.size, hs5, hstep, hb5⟩
          first
            | exact hfin
            | ((repeat apply Exists.intro); exact ⟨hfin, rfl⟩)
        case measure =>
          show sliceLen v5 < m + 1
          rw [hsl5.out]; omega

theorem rat_ok (n k : Nat) (w : World) (h2 : n ≤ 12) (hk : k < fct n) :
    Calls Try.prog 27 #[.int .i64 n, .int .i64 k] w fun e w' => ∃ v, e = .returned v ∧ Ints w' v (atl n (rnd n) k) ∧ Below w.heap.size w w' := by
  refine (rat_own n k w h2 hk).mono ?_
  rintro e w' ⟨v, rfl, ho, hb⟩
  exact ⟨v, rfl, Ints.own ho, hb⟩

end Go.Proofs.Ytgglbafcocbhbaa
