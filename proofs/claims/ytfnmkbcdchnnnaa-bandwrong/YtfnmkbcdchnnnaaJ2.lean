/- Joined: RefC, RefD, Eql, IAl, BwA, BwB, Mat. -/
import Derived.Test.YtfnmkbcdchnnnaaJ1
import Derived.Deep.RegionLaw
import Derived.Deep.RegionWith
import Derived.Deep.Matrix
import Derived.OpenShut
/- Contracts of the answer's functions: Rank, At. -/
namespace Go.Proofs.Ytfnmkbcdchnnnaa
open Go.RowKit
set_option maxRecDepth 20000

theorem cnt_append (x : Int) (l m : List Int) : cnt x (l ++ m) = cnt x l + cnt x m := by
  unfold cnt; rw [List.filter_append, List.length_append]

theorem cnt_rnd {n m : Nat} (h : m ≤ n) : cnt (m : Int) (rnd n) = m := by
  induction n with
  | zero => have : m = 0 := by omega
            subst this; rfl
  | succ n ih =>
    rw [rnd_snoc, cnt_append]
    by_cases e : m ≤ n
    · rw [ih e, show cnt (m : Int) [(n : Int)] = 0 from by unfold cnt; rw [List.filter_eq_nil_iff.2 (fun y hy => by have := List.mem_singleton.1 hy; subst this; simp; omega)]; rfl]; rfl
    · have e2 : m = n + 1 := by omega
      subst e2
      have h1 : cnt ((n + 1 : Nat) : Int) (rnd n) = n := by
        unfold cnt
        rw [List.filter_eq_self.2 (fun y hy => by
          obtain ⟨i, hi, rfl⟩ := List.mem_map.1 hy
          have := List.mem_range.1 hi
          simp; omega), rnd_length]
      have h2 : cnt ((n + 1 : Nat) : Int) [(n : Int)] = 1 := by
        unfold cnt
        rw [List.filter_eq_self.2 (fun y hy => by have := List.mem_singleton.1 hy; subst this; simp; omega)]; rfl
      rw [h1, h2]

theorem row_perm_rnd {a : List Int} (h : isRow a) : a.Perm (rnd a.length) :=
  perm_of_sub a (rnd a.length) h.2 (fun x hx => by have := h.1 x hx; exact List.mem_map.2 ⟨x.toNat, List.mem_range.2 (by omega), by omega⟩) (rnd_length _).symm

/-- Of a row: the lower ones ahead of a place, and behind it. -/
theorem cnt_split {a : List Int} (h : isRow a) {i m : Nat} (hi : i < a.length) (hm : a[i]?.getD 0 = (m : Int)) : cnt (m : Int) (a.take i) + cnt (m : Int) (a.drop (i + 1)) = m := by
  have hml : m < a.length := by
    have := h.at hi
    rw [show a.getD i 0 = (m : Int) from hm] at this
    omega
  have h1 : cnt (m : Int) a = m := by rw [cnt_perm (row_perm_rnd h), cnt_rnd (by omega)]
  have e : a = a.take i ++ ((m : Int) :: a.drop (i + 1)) := by
    have e2 : a[i] = (m : Int) := by rw [← hm]; simp [List.getElem?_eq_getElem hi]
    rw [← e2, ← List.drop_eq_getElem_cons hi, List.take_append_drop]
  rw [e, cnt_append] at h1
  have h2 : cnt (m : Int) ((m : Int) :: a.drop (i + 1)) = cnt (m : Int) (a.drop (i + 1)) := by
    unfold cnt; rw [List.filter_cons_of_neg (by simp)]
  rw [h2] at h1
  exact h1

theorem rankR_drop {a : List Int} {i m : Nat} (hi : i < a.length) (hm : a[i]?.getD 0 = (m : Int)) : rankR (a.drop i) = cnt (m : Int) (a.drop (i + 1)) * fct (a.length - 1 - i) + rankR (a.drop (i + 1)) := by
  have e2 : a[i] = (m : Int) := by rw [← hm]; simp [List.getElem?_eq_getElem hi]
  rw [List.drop_eq_getElem_cons hi, e2]
  show cnt (m : Int) (a.drop (i + 1)) * fct (a.drop (i + 1)).length + rankR (a.drop (i + 1)) = _
  rw [List.length_drop, show a.length - (i + 1) = a.length - 1 - i from by omega]

theorem rankR_le (a : List Int) (h : a.length ≤ 12) : rankR a ≤ 479001600 := by
  rw [← rkTo_all]; exact rkTo_le a a.length (Nat.le_refl _) h

/-- 'append' to a row of the call's own, as one step of a region that draws. -/
theorem step_append_own {P : Program} {ops : Array Oper} {o : Oper} {a : Act} {w : World} {K : Act → World → Prop} {Q : Exit → Act → World → Prop} {E : Prop} (hg : o.guard = none) (s x : Operand) (t : TypeId)
    (ho : o.op = .call { callee := .builtin .append, args := #[s, x], argTypes := #[t, t] })
    (base : Nat) (e : TypeId) (i : TypeInfo) (z : Value) (size bytes : Nat) (ht : P.underlying t = some (.slice e)) (hi : P.info? e = some i) (hz : i.zero = some z)
    (hsize : i.size = size) (hby : i.bytes = bytes) (hzs : z.cells.size = size) (hsz : 0 < size)
    (v : Value) (n : Nat) (xs : List Value) (hs : a.eval s = v) (hown : w.ownsRow base e size v n xs)
    (ad : Addr) (m c : Nat) (news : List Value) (hx : a.eval x = .slice (some ad) m c) (hl : news.length = m * size) (hnews : ∀ j u, news[j]? = some u → w.cell? (ad.add j) = some u) (h1 : ∀ u ∈ news, u.oneCell' = true)
    (h63 : n + m ≤ maxLen) (hbytes : (n + m) * bytes ≤ 140737488355328) (hbase : base ≤ w.heap.size)
    (h : ∀ v' w', w'.ownsRow base e size v' (n + m) (xs ++ news) → w.grownBy w' v.ownBlock → K (a.put o.dst v') w') :
    if Region.wanted o (yielded ops a.tmps) = true then Oper.wp P o a w K Q else E := by
  have hw : Region.wanted o (yielded ops a.tmps) = true := by simp [Region.wanted, hg]
  rw [if_pos hw]
  exact wp_append_own w s x t ho base e i z size bytes ht hi hz hsize hby hzs hsz v n xs hs hown ad m c news hx hl hnews h1 h63 hbytes hbase (fun v' w' h2 h3 _ => h v' w' h2 h3)

theorem own_at {w : World} {base e g n cap : Nat} {xs : List Value} (h : w.ownsRow base e 1 (.slice (some ⟨g, 0, none⟩) n cap) n xs) (w4 : World) (hw : w4.heap[g]? = w.heap[g]?) {j : Nat} {u : Value} (hu : xs[j]? = some u) : w4.cell? ⟨g, j, none⟩ = some u := by
  have h1 := h.cells (g := g) rfl j u hu
  rw [Addr.add_lit, Nat.zero_add] at h1
  rw [World.cell?_of_block (w := w) (a := ⟨g, j, none⟩) hw]
  exact h1

theorem own_ne {u v : Option Nat} {B : Nat} (hu : ∀ k, u = some k → k < B) (hv : ∀ k, v = some k → B ≤ k) : u = none ∨ u ≠ v := by
  cases u with
  | none => exact Or.inl rfl
  | some k =>
    refine Or.inr (fun e => ?_)
    have h1 := hu k rfl
    have h2 := hv k e.symm
    omega

theorem first_at {w : World} {base g n cap q : Nat} {L : List Int} (h : w.ownsRow base 3 1 (.slice (some ⟨g, 0, none⟩) n cap) n (L.map (Value.int .i64))) (w4 : World) (hw : w4.heap[g]? = w.heap[g]?) :
    ∀ j u, ((L.take q).map (Value.int .i64))[j]? = some u → w4.cell? ((⟨g, 0, none⟩ : Addr).add j) = some u := by
  intro j u hu
  rw [Addr.add_lit, Nat.zero_add]
  refine own_at h w4 hw ?_
  rw [List.map_take, List.getElem?_take] at hu
  split at hu
  · exact hu
  · cases hu

theorem rest_at {w : World} {base g n cap q : Nat} {L : List Int} (h : w.ownsRow base 3 1 (.slice (some ⟨g, 0, none⟩) n cap) n (L.map (Value.int .i64))) (hl : L.length = n) (hc : n ≤ cap) :
    ∃ A : Addr, (if cap = q + 1 then some (⟨g, 0, none⟩ : Addr) else some ⟨g, q + 1, none⟩) = some A ∧ Hid (∀ j u, ((L.drop (q + 1)).map (Value.int .i64))[j]? = some u → ∀ w4 : World, w4.heap[g]? = w.heap[g]? → w4.cell? (A.add j) = some u) := by
  by_cases e : cap = q + 1
  · refine ⟨⟨g, 0, none⟩, by simp [e], fun j u hu w4 _ => ?_⟩
    rw [List.drop_eq_nil_of_le (by omega)] at hu
    simp at hu
  · refine ⟨⟨g, q + 1, none⟩, by simp [e], fun j u hu w4 hw => ?_⟩
    rw [Addr.add_lit]
    refine own_at h w4 hw ?_
    rw [List.map_drop, List.getElem?_drop] at hu
    exact hu

set_option maxRecDepth 20000 in
set_option maxHeartbeats 4000000 in
theorem rat_own (n k : Nat) (w : World) (h2 : n ≤ 12) (hk : k < fct n) :
    Calls Try.prog 15 #[.int .i64 n, .int .i64 k] w fun e w' => ∃ v, e = .returned v ∧ w'.ownsRow w.heap.size 3 1 v n ((atl n (rnd n) k).map (Value.int .i64)) ∧ Below w.heap.size w w' := by
  obtain ⟨i0, hi, hz0, hz1, hz2⟩ := info_parts Try.info3
  have HR := hide (rrounds_ok n w (by omega))
  have hfn := fct_le h2
  go_enter Try.func15, Try.ntmps15
  go_wp2_with fail
  refine HR.out.mono ?_
  rintro e w1 ⟨v1, rfl, hown1, hb1⟩
  clear HR
  go_wp2
  go_loopw [1, 5, 6] (fun sk so sl wr => ∃ (m kk B : Nat) (L xs : List Int), m ≤ n ∧ kk < fct m ∧ sk = .int .i64 (kk : Int) ∧
      wr.ownsRow B 3 1 sl m (L.map (Value.int .i64)) ∧ wr.ownsRow w.heap.size 3 1 so (n - m) (xs.map (Value.int .i64)) ∧ (∀ g, so.ownBlock = some g → g < B) ∧ w.heap.size ≤ B ∧ B ≤ wr.heap.size ∧
      Hid (xs ++ atl m L kk = atl n (rnd n) k) ∧ Below w.heap.size w wr) (fun _ _ sl _ => sliceLen sl)
  case atStart => exact ⟨n, k, w.heap.size, rnd n, [], Nat.le_refl _, hk, rfl, hown1, by rw [Nat.sub_self]; exact World.ownsRow_nil _ _ _ _, (fun g h => by cases h), Nat.le_refl _, hb1.size, rfl, hb1⟩
  case round =>
    obtain ⟨m, kk, B, L, xs, hmn, hkk, rfl, hl, hr, hob, hwB, hB, hat, hbw⟩ := hrel
    have hbs := hbw.size
    have hsl := hide (owns_len hl)
    cases m with
    | zero =>
      obtain ⟨p, cap, hv⟩ := owns_slice hl
      have e0 : L = [] := by have := hl.1; simpa using this
      rw [hv]
      clear hl hsl
      go_wp2
      go_ret
      refine ⟨_, rfl, ?_, hbw⟩
      have := hr
      rw [← hat.out]
      simpa [atl] using this
    | succ m =>
      obtain ⟨g, cap, hv, hg1, hg2, hgc, hcm⟩ := owns_form hl (by omega)
      rw [hv] at hl hsl ⊢
      have hLl : L.length = m + 1 := by have := hl.1; simpa using this
      have hG := fct_pos m
      have hFG : fct (m + 1) = (m + 1) * fct m := rfl
      have hGb := fct_le (n := m) (by omega)
      have hdl : kk / fct m < m + 1 := by rw [Nat.div_lt_iff_lt_mul hG, ← hFG]; exact hkk
      have hml : kk % fct m < fct m := Nat.mod_lt _ hG
      have hkb : kk ≤ 479001600 := by have := fct_le (n := m + 1) (by omega); omega
      have hq2 : (kk : Int) / ((fct m : Nat) : Int) = ((kk / fct m : Nat) : Int) := (Int.natCast_ediv kk (fct m)).symm
      have hr2 : (kk : Int) % ((fct m : Nat) : Int) = ((kk % fct m : Nat) : Int) := (Int.natCast_emod kk (fct m)).symm
      have hstep : Hid (xs ++ [L.getD (kk / fct m) 0] ++ atl m (L.eraseIdx (kk / fct m)) (kk % fct m) = atl n (rnd n) k) := by
        show _ = _
        rw [← hat.out, List.append_assoc]; rfl
      have HF := hide (factorial_any m wr (by omega))
      generalize kk / fct m = q at *
      generalize kk % fct m = r at *
      clear hFG hat hkk
      generalize hGe : fct m = G at *
      have HGe := hide hGe
      clear hGe hv
      obtain ⟨y, hy, hcy, hfy⟩ := owns_cellAt hl hdl
      rw [show L.getD q 0 = y from hy.out] at hstep
      go_wp2_with fail
      refine HF.out.mono ?_
      rintro e w2 ⟨rfl, rfl⟩
      clear HF
      go_wp2_with (at_builtin; refine wpList_append_own _ rfl _ _ 24 rfl w.heap.size 3 i0 (.int .i64 0) 1 8 Try.underlying24 hi hz0 hz1 hz2 rfl (by decide) _ _ _ rfl (hr.alloc _) ⟨wr.heap.size, 0, none⟩ 1 1 [.int .i64 y] rfl rfl ?c1 ?c2 ?c3 ?c4 ?c5 ?_)
      case c1 => exact cell_one_new _ _ _
      case c2 => intro u hu; simp at hu; subst hu; rfl
      case c3 => unfold maxLen; omega
      case c4 => omega
      case c5 => simp; omega
      · intro v3 w3 hown3 hgrow3 _
        have hl3 := (hl.alloc (.cells #[.int .i64 y] 3)).kept hgrow3 (Or.inr (by intro e; have := hob g e.symm; omega))
        have hb3 : Below w.heap.size w w3 := (hbw.alloc hbw.size _).grown hgrow3 (by simp; omega) (fun g hg => (hr.lt g hg).1)
        have hlt3 := hown3.lt
        have hgs3 := (hl3.lt g rfl).2
        have hic : (q : Int) ≤ (cap : Int) := by omega
        have hq0 : (0 : Int) ≤ (q : Int) := by omega
        have hwr : IntKind.i64.wrap ((q : Int) + 1) = (q : Int) + 1 := by rw [IntKind.wrap_i64]; omega
        have hp0 : (0 : Int) ≤ (q : Int) + 1 := by omega
        have hp1 : (q : Int) + 1 ≤ ((m : Int) + 1) := by omega
        have hp2 : ((q : Int) + 1).toNat = q + 1 := by omega
        obtain ⟨A, hA, hcA⟩ := rest_at (q := q) hl3 hLl hgc
        have HE : Hid ((w3.alloc (.cells #[] 3)).drew.ownsRow w3.heap.size 3 1 (.slice (some ⟨w3.heap.size, 0, none⟩) 0 0) 0 []) := World.ownsRow_made w3 #[] 0 (Nat.le_refl _) (by decide) (by simp)
        have HN1 := hide (first_at (q := q) hl3 (w3.alloc (.cells #[] 3)).drew (Below.heap_alloc w3 _ g hgs3))
        have HL1 : Hid (((L.take q).map (Value.int .i64)).length = q * 1) := by show _ = _; rw [List.length_map, List.length_take]; omega
        have HL2 : Hid (((L.drop (q + 1)).map (Value.int .i64)).length = (m - q) * 1) := by show _ = _; rw [List.length_map, List.length_drop]; omega
        have HO1 := hide (ints_oneCell .i64 (L.take q))
        have HO2 := hide (ints_oneCell .i64 (L.drop (q + 1)))
        have HM1 : Hid (0 + q ≤ maxLen) := by unfold Hid maxLen; omega
        have HM2 : Hid (0 + q + (m - q) ≤ maxLen) := by unfold Hid maxLen; omega
        have HY1 : Hid ((0 + q) * 8 ≤ 140737488355328) := by unfold Hid; omega
        have HY2 : Hid ((0 + q + (m - q)) * 8 ≤ 140737488355328) := by unfold Hid; omega
        have HS1 : Hid (w3.heap.size ≤ (w3.alloc (.cells #[] 3)).drew.heap.size) := by show w3.heap.size ≤ (w3.alloc _).heap.size; simp
        go_wp2_with fail
        go_region_law ((first
          | (refine step_append_own rfl (.tmp 31) (.tmp 34) 24 rfl w3.heap.size 3 i0 (.int .i64 0) 1 8 Try.underlying24 hi hz0 hz1 hz2 rfl (by decide) (.slice (some ⟨w3.heap.size, 0, none⟩) 0 0) 0 [] rfl HE.out ⟨g, 0, none⟩ q cap ((L.take q).map (Value.int .i64)) rfl HL1.out HN1.out HO1.out HM1.out HY1.out HS1.out ?_; intro v4 w4 hown4 hgrow4)
          | (refine step_append_own rfl (.tmp 35) (.tmp 39) 24 rfl w3.heap.size 3 i0 (.int .i64 0) 1 8 Try.underlying24 hi hz0 hz1 hz2 rfl (by decide) v4 (0 + q) _ rfl hown4 A (m - q) (cap - (q + 1)) ((L.drop (q + 1)).map (Value.int .i64)) rfl HL2.out (fun j u hu => hcA.out j u hu w4 (by rw [hgrow4.block g (by show g < (w3.alloc _).heap.size; simp; omega) (by intro e; have e' : g = w3.heap.size := Option.some.inj e; omega)]; exact Below.heap_alloc w3 _ g hgs3)) HO2.out HM2.out HY2.out (Nat.le_trans HS1.out hgrow4.size) ?_; intro v5 w5 hown5 hgrow5)))
        have hr5 := (((hown3.alloc (.cells #[] 3)).drew).kept hgrow4 (own_ne (fun k hk => (hlt3 k hk).2) (fun k hk => by have e' : w3.heap.size = k := Option.some.inj hk; omega))).kept hgrow5 (own_ne (fun k hk => (hlt3 k hk).2) (fun k hk => (hown4.lt k hk).1))
        have hb5 : Below w.heap.size w w5 := ((((hb3.alloc hb3.size (.cells #[] 3)).drew).grown hgrow4 (Nat.le_trans hb3.size HS1.out) (fun k hk => by have e' : w3.heap.size = k := Option.some.inj hk; have := hb3.size; omega))).grown hgrow5 (Nat.le_trans hb3.size (Nat.le_trans HS1.out hgrow4.size)) (fun k hk => by have := (hown4.lt k hk).1; have := hb3.size; omega)
        have hs5 : w3.heap.size ≤ w5.heap.size := Nat.le_trans HS1.out (Nat.le_trans hgrow4.size hgrow5.size)
        have hl5 : w5.ownsRow w3.heap.size 3 1 v5 m ((L.eraseIdx q).map (Value.int .i64)) := by
          have h5 := hown5
          rw [List.nil_append, ← List.map_append, ← List.eraseIdx_eq_take_drop_succ, show 0 + q + (m - q) = m from by omega] at h5
          exact h5
        rw [show n - (m + 1) + 1 = n - m from by omega] at hr5
        have hsl5 := hide (owns_len hl5)
        have HL5 := hide hl5
        have HR5 := hide hr5
        clear hl5 hr5 hown5 hown4 hown3 hgrow4 hgrow5 hgrow3 HN1 HE hcA HL1 HL2 HO1 HO2 HM1 HM2 HY1 HY2 HS1 hl3
        go_wp2
        go_roundw
        case rel =>
          have hfin : ∃ (m' kk' B' : Nat) (L' xs' : List Int), m' ≤ n ∧ kk' < fct m' ∧ Value.int .i64 (r : Int) = .int .i64 (kk' : Int) ∧
              w5.ownsRow B' 3 1 v5 m' (L'.map (Value.int .i64)) ∧ w5.ownsRow w.heap.size 3 1 v3 (n - m') (xs'.map (Value.int .i64)) ∧ (∀ g, v3.ownBlock = some g → g < B') ∧ w.heap.size ≤ B' ∧ B' ≤ w5.heap.size ∧
              Hid (xs' ++ atl m' L' kk' = atl n (rnd n) k) ∧ Below w.heap.size w w5 :=
            ⟨m, r, w3.heap.size, _, xs ++ [y], by omega, by rw [HGe.out]; exact hml, rfl, HL5.out, by rw [List.map_append]; exact HR5.out, fun k hk => (hlt3 k hk).2, hb3.size, hs5, hstep, hb5⟩
          first
            | exact hfin
            | ((repeat apply Exists.intro); exact ⟨hfin, rfl⟩)
        case measure =>
          show sliceLen v5 < m + 1
          rw [hsl5.out]; omega

theorem rat_ok (n k : Nat) (w : World) (h2 : n ≤ 12) (hk : k < fct n) :
    Calls Try.prog 15 #[.int .i64 n, .int .i64 k] w fun e w' => ∃ v, e = .returned v ∧ Ints w' v (atl n (rnd n) k) ∧ Below w.heap.size w w' := by
  refine (rat_own n k w h2 hk).mono ?_
  rintro e w' ⟨v, rfl, ho, hb⟩
  exact ⟨v, rfl, Ints.own ho, hb⟩

end Go.Proofs.Ytfnmkbcdchnnnaa

/- Contracts of the answer's functions: SameAll, Cycles. -/
namespace Go.Proofs.Ytfnmkbcdchnnnaa
open Go.RowKit
set_option maxRecDepth 20000

/-- The slice value v holds these values. -/
def Vals (w : World) (v : Value) (vs : List Value) : Prop :=
  (vs = [] ∧ ∃ p c, v = .slice p 0 c) ∨
  ∃ b off cap, v = .slice (some ⟨b, off, none⟩) vs.length cap ∧ 0 < vs.length ∧ vs.length ≤ cap ∧ cap ≤ 9223372036854775807 ∧ b < w.heap.size ∧
    ∀ j, j < vs.length → w.cell? ⟨b, off + j, none⟩ = some (vs.getD j undef)

/-- The slice value v reads as a list of lists. -/
def IntsAll (w : World) (v : Value) (xss : List (List Int)) : Prop :=
  ∃ vs, Vals w v vs ∧ vs.length = xss.length ∧ ∀ j, j < xss.length → Ints w (vs.getD j undef) (xss.getD j [])

theorem Vals.below {w w' : World} {v : Value} {vs : List Value} (h : Vals w v vs) (hb : Below w.heap.size w w') : Vals w' v vs := by
  rcases h with h | ⟨b, off, cap, h1, h2, h3, h4, h5, h6⟩
  · exact Or.inl h
  · refine Or.inr ⟨b, off, cap, h1, h2, h3, h4, Nat.lt_of_lt_of_le h5 hb.size, fun j hj => ?_⟩
    rw [hb.cell (p := ⟨b, off + j, none⟩) h5]
    exact h6 j hj

theorem IntsAll.below {w w' : World} {v : Value} {xss : List (List Int)} (h : IntsAll w v xss) (hb : Below w.heap.size w w') : IntsAll w' v xss := by
  obtain ⟨vs, h1, h2, h3⟩ := h
  exact ⟨vs, h1.below hb, h2, fun j hj => (h3 j hj).below hb⟩

theorem Vals.form {w : World} {v : Value} {vs : List Value} (h : Vals w v vs) : ∃ p cap, v = .slice p vs.length cap := by
  rcases h with ⟨rfl, p, c, rfl⟩ | ⟨b, off, cap, h1, _⟩
  · exact ⟨p, c, rfl⟩
  · exact ⟨_, cap, h1⟩

theorem Vals.own {w : World} {base e : Nat} {v : Value} {vs : List Value} (h : w.ownsRow base e 1 v vs.length vs) : Vals w v vs := by
  rcases h.2 with ⟨rfl, h0⟩ | ⟨g, cap, cur, hv, _, hh, hn, hm, hs, ht⟩
  · exact Or.inl ⟨List.length_eq_zero_iff.1 h0, none, 0, rfl⟩
  · rcases Nat.eq_zero_or_pos vs.length with h0 | h0
    · exact Or.inl ⟨List.length_eq_zero_iff.1 h0, _, cap, by rw [hv, h0]⟩
    · refine Or.inr ⟨g, 0, cap, hv, h0, hn, by unfold maxLen at hm; omega, (Array.getElem?_eq_some_iff.1 hh).1, fun j hj => ?_⟩
      rw [Nat.zero_add]
      rw [hv] at h
      exact owns_val h hj

theorem IntsAll.own {w : World} {base e : Nat} {v : Value} {vs : List Value} {xss : List (List Int)} (h : w.ownsRow base e 1 v vs.length vs) (ha : OwnAll w base vs xss) : IntsAll w v xss :=
  ⟨vs, Vals.own h, OwnAll.length ha, fun j hj => Ints.own (ownAll_at ha (by rw [OwnAll.length ha]; exact hj))⟩

theorem takes_eq_snoc {xs ys : List (List Int)} {k : Nat} (h : xs.take k = ys.take k) (hx : k < xs.length) (hy : k < ys.length) (e : xs.getD k [] = ys.getD k []) : xs.take (k + 1) = ys.take (k + 1) := by
  rw [List.take_succ_eq_append_getElem hx, List.take_succ_eq_append_getElem hy, h]
  simp only [List.getD, List.getElem?_eq_getElem hx, List.getElem?_eq_getElem hy, Option.getD_some] at e
  rw [e]

theorem elAt {w : World} {b off k : Nat} {vs : List Value} (hcell : ∀ j, j < vs.length → w.cell? ⟨b, off + j, none⟩ = some (vs.getD j undef)) (h : k < vs.length) {X : List Int} (hi : Ints w (vs.getD k undef) X) :
    ∃ p c, w.cell? ⟨b, off + k, none⟩ = some (.slice p X.length c) ∧ Hid (Ints w (.slice p X.length c) X) := by
  obtain ⟨p, c, e⟩ := hi.form
  refine ⟨p, c, by rw [hcell k h, e], ?_⟩
  rw [← e]; exact hi

end Go.Proofs.Ytfnmkbcdchnnnaa

/- Contract: slices.Equal of lists of ints. -/
namespace Go.Proofs.Ytfnmkbcdchnnnaa
open Go.RowKit

set_option maxHeartbeats 800000 in
theorem equal_any (v1 v2 : Value) (xs ys : List Int) (w : World) (h1 : Ints w v1 xs) (h2 : Ints w v2 ys) :
    Calls Try.prog 39 #[v1, v2] w fun e w' => e = .returned (.bool (decide (xs = ys))) ∧ Below w.heap.size w w' := by
  by_cases hlen : xs.length = ys.length
  · rcases h1 with ⟨rfl, p, c, rfl⟩ | ⟨b, off, cap, rfl, h0, hc, hm, hb, hcell⟩
    · obtain rfl : ys = [] := List.length_eq_zero_iff.1 (by simpa using hlen.symm)
      obtain ⟨p2, c2, rfl⟩ := h2.form
      clear h2
      go_enter Try.func39, Try.ntmps39
      go_wp2
      go_loop [13] (fun i => i = .int .i64 0) (fun _ => 0)
      case atStart => rfl
      case round =>
        subst hrel
        go_wp2
        go_ret
        exact ⟨rfl, Below.refl _ _⟩
    · rcases h2 with ⟨rfl, p, c, rfl⟩ | ⟨b2, off2, cap2, rfl, h02, hc2, hm2, hb2, hcell2⟩
      · simp at hlen; subst hlen; simp at h0
      · have hl : (((xs.length : Nat) : Int) != ((ys.length : Nat) : Int)) = false := by rw [hlen]; simp
        have HL : Hid (xs.length = ys.length) := hlen
        clear hlen
        go_enter Try.func39, Try.ntmps39
        go_wp2
        go_loopw [13] (fun i wr => ∃ k : Nat, k ≤ xs.length ∧ i = .int .i64 k ∧ Hid (xs.take k = ys.take k) ∧ Below w.heap.size w wr) (fun i _ => xs.length - (intOf i).toNat)
        case atStart => exact ⟨0, by omega, rfl, by simp [Hid], Below.refl _ _⟩
        case round =>
          obtain ⟨k, hk, rfl, ht, hbw⟩ := hrel
          by_cases hlt : k < xs.length
          · have hlt2 : k < ys.length := by have := HL.out; omega
            obtain ⟨x, hx, hcx⟩ := cellAt hcell hlt
            obtain ⟨y, hy, hcy⟩ := cellAt hcell2 hlt2
            have gx : wr.cell? ⟨b, off + k, none⟩ = some (.int .i64 x) := (hbw.cell (by exact hb)).trans hcx
            have gy : wr.cell? ⟨b2, off2 + k, none⟩ = some (.int .i64 y) := (hbw.cell (by exact hb2)).trans hcy
            clear hcx hcy hcell hcell2
            by_cases hxy : x = y
            · subst hxy
              go_wp2
              go_region
              all_goals
                go_wp2
                go_roundw
                case rel => exact ⟨k + 1, by omega, by go_num, take_eq_snoc ht.out hlt hlt2 (by rw [hx.out, hy.out]), by first | exact hbw | exact hbw.drew | exact hbw.drew.drew⟩
                case measure => simp [intOf]; omega
            · have hne : (x != y) = true := by simpa using hxy
              have HXY : Hid (¬ x = y) := hxy
              clear hxy
              go_wp2
              go_region
              all_goals
                go_wp2
                go_ret
                refine ⟨ret_bool ?_, by first | exact hbw | exact hbw.drew | exact hbw.drew.drew⟩
                symm
                rw [decide_eq_false_iff_not]
                intro e
                exact HXY.out (by rw [← hx.out, ← hy.out, e])
          · clear hcell hcell2
            go_wp2
            go_ret
            refine ⟨ret_bool ?_, hbw⟩
            symm
            rw [decide_eq_true_iff]
            have h3 := ht.out
            have h4 := HL.out
            rwa [List.take_of_length_le (by omega), List.take_of_length_le (by omega)] at h3
  · obtain ⟨p1, c1, rfl⟩ := h1.form
    obtain ⟨p2, c2, rfl⟩ := h2.form
    have hl : (((xs.length : Nat) : Int) != ((ys.length : Nat) : Int)) = true := by rw [bne_iff_ne]; omega
    have hd : decide (xs = ys) = false := by rw [decide_eq_false_iff_not]; intro e; exact hlen (by rw [e])
    clear hlen h1 h2
    go_enter Try.func39, Try.ntmps39
    go_wp2
    go_ret
    exact ⟨ret_bool hd.symm, Below.refl _ _⟩

end Go.Proofs.Ytfnmkbcdchnnnaa

/- Plain: the length and the lists of a slice of lists. -/
namespace Go.Proofs.Ytfnmkbcdchnnnaa
open Go.RowKit

theorem IntsAll.len {w : World} {v : Value} {xss : List (List Int)} (h : IntsAll w v xss) : ∃ p c, v = .slice p xss.length c := by
  obtain ⟨vs, h1, h2, _⟩ := h
  rw [← h2]; exact h1.form

/-- The k-th list of a slice of lists that is not empty. -/
theorem IntsAll.cell {w : World} {v : Value} {xss : List (List Int)} (h : IntsAll w v xss) (h0 : 1 ≤ xss.length) : ∃ b off cap, v = .slice (some ⟨b, off, none⟩) xss.length cap ∧ b < w.heap.size ∧ xss.length ≤ cap ∧ cap ≤ 9223372036854775807 ∧
    ∀ k, k < xss.length → ∃ p c, w.cell? ⟨b, off + k, none⟩ = some (.slice p (xss.getD k []).length c) ∧ Hid (Ints w (.slice p (xss.getD k []).length c) (xss.getD k [])) := by
  obtain ⟨vs, h1, h2, h3⟩ := h
  rcases h1 with ⟨rfl, _⟩ | ⟨b, off, cap, rfl, h4, h5, h6, h7, h8⟩
  · simp at h2; omega
  · refine ⟨b, off, cap, by rw [h2], h7, by omega, h6, fun k hk => ?_⟩
    exact elAt h8 (by omega) (h3 k hk)

theorem IntsAll.cut {w : World} {b off K cap k : Nat} {X : List (List Int)} (h : IntsAll w (.slice (some ⟨b, off, none⟩) K cap) X) (hl : X.length = K) (hk : k ≤ K) : IntsAll w (.slice (some ⟨b, off, none⟩) k cap) (X.take k) := by
  obtain ⟨vs, h1, h2, h3⟩ := h
  rcases Nat.eq_zero_or_pos k with rfl | h0
  · exact ⟨[], Or.inl ⟨rfl, _, _, rfl⟩, by simp, fun j hj => by simp at hj⟩
  rcases h1 with ⟨rfl, _⟩ | ⟨b', off', cap', e, h4, h5, h6, h7, h8⟩
  · simp at h2; omega
  obtain ⟨⟨rfl, rfl⟩, _, rfl⟩ : (b = b' ∧ off = off') ∧ K = vs.length ∧ cap = cap' := by
    simpa using e
  refine ⟨vs.take k, Or.inr ⟨b, off, cap, ?_, ?_, ?_, h6, h7, fun j hj => ?_⟩, ?_, fun j hj => ?_⟩
  · rw [List.length_take, Nat.min_eq_left (by omega)]
  · rw [List.length_take]; omega
  · rw [List.length_take]; omega
  · rw [List.length_take] at hj
    rw [h8 j (by omega)]
    simp [List.getD, show j < k by omega]
  · rw [List.length_take, List.length_take, h2]
  · rw [List.length_take] at hj
    have e1 : (vs.take k).getD j undef = vs.getD j undef := by simp [List.getD, show j < k by omega]
    have e2 : (X.take k).getD j [] = X.getD j [] := by simp [List.getD, show j < k by omega]
    rw [e1, e2]
    exact h3 j (by omega)

end Go.Proofs.Ytfnmkbcdchnnnaa

/- Contracts: band.Wrong and the answer's Wrong; the law BandWrong. -/
namespace Go.Proofs.Ytfnmkbcdchnnnaa
open Go.RowKit

/-- Is the i-th of a unlike the i-th of b, or is there none? -/
def unl (a b : List (List Int)) (i : Nat) : Bool := decide (b.length ≤ i ∨ a.getD i [] ≠ b.getD i [])

def wrg (a b : List (List Int)) (k : Nat) : List Int := ((List.range k).filter (unl a b)).map (fun (i : Nat) => (i : Int))

theorem wrg_yes {a b : List (List Int)} {k : Nat} (h : unl a b k = true) : wrg a b (k + 1) = wrg a b k ++ [(k : Int)] := by
  simp [wrg, List.range_succ, List.filter_append, h]

theorem wrg_no {a b : List (List Int)} {k : Nat} (h : unl a b k = false) : wrg a b (k + 1) = wrg a b k := by
  simp [wrg, List.range_succ, List.filter_append, h]

theorem wrg_le (a b : List (List Int)) (k : Nat) : (wrg a b k).length ≤ k := by
  unfold wrg
  rw [List.length_map]
  exact Nat.le_trans (List.length_filter_le _ _) (by simp)

def WrgPost (a b : List (List Int)) (w : World) (e : Ending) (w' : World) : Prop :=
  ∃ v, e = .returned v ∧ Ints w' v (wrg a b a.length) ∧ Below w.heap.size w w'

set_option maxRecDepth 20000 in
set_option maxHeartbeats 2000000 in
theorem wrong_ok (va vb : Value) (a b : List (List Int)) (w : World) (ha : IntsAll w va a) (hb : IntsAll w vb b) (hl : a.length ≤ 17592186044416) (hlb : b.length ≤ 17592186044416) :
    Calls Try.prog 16 #[va, vb] w (WrgPost a b w) := by
  obtain ⟨i0, hi, hz0, hz1, hz2⟩ := info_parts Try.info3
  obtain ⟨p0, c0, rfl⟩ := ha.len
  obtain ⟨p1, c1, rfl⟩ := hb.len
  have HA := hide ha
  have HB := hide hb
  clear ha hb
  go_enter Try.func16, Try.ntmps16
  go_wp2
  go_loopw [5, 10] (fun v i wr => ∃ (k : Nat), k ≤ a.length ∧ i = .int .i64 k ∧ wr.ownsRow w.heap.size 3 1 v (wrg a b k).length ((wrg a b k).map (Value.int .i64)) ∧ Below w.heap.size w wr) (fun _ i _ => a.length - (intOf i).toNat)
  case atStart => exact ⟨0, by omega, rfl, World.ownsRow_nil _ _ _ _, Below.refl _ _⟩
  case round =>
    obtain ⟨k, hk, rfl, hown, hbw⟩ := hrel
    have hbs := hbw.size
    have hwl := wrg_le a b k
    by_cases hlt : k < a.length
    · obtain ⟨ab, ao, acap, he, ha3, hlc3, hcm3, hcell3⟩ := (HA.out.below hbw).cell (by omega)
      simp only [Value.slice.injEq] at he
      obtain ⟨rfl, _, rfl⟩ := he
      obtain ⟨q, cc, hce, hint⟩ := hcell3 k hlt
      clear hcell3
      by_cases hkb : k < b.length
      · obtain ⟨bb, bo, bcap, he, hb3, hlc4, hcm4, hcell4⟩ := (HB.out.below hbw).cell (by omega)
        simp only [Value.slice.injEq] at he
        obtain ⟨rfl, _, rfl⟩ := he
        obtain ⟨q2, cc2, hce2, hint2⟩ := hcell4 k hkb
        clear hcell4
        have HS := hide (equal_any _ _ _ _ wr hint.out hint2.out)
        by_cases hx : a.getD k [] = b.getD k []
        · have HU := hide (wrg_no (a := a) (b := b) (k := k) (by unfold unl; rw [decide_eq_false_iff_not]; exact fun h => h.elim (fun h => absurd h (by omega)) (fun h => h hx)))
          rw [decide_eq_true hx] at HS
          clear hx hint hint2
          generalize (a.getD k []).length = xl at *
          generalize (b.getD k []).length = yl at *
          go_wp2_with fail
          refine HS.out.mono ?_
          rintro e w2 ⟨rfl, hb2⟩
          have hB2 := hbw.trans (hb2.mono hbw.size)
          have hown2 := owns_below hown hb2 (Nat.le_refl _)
          clear hb2
          go_wp2
          go_roundw
          case rel => exact ⟨k + 1, by omega, by go_num, by rw [HU.out]; exact hown2, hB2⟩
          case measure => simp [intOf]; omega
        · have HU := hide (wrg_yes (a := a) (b := b) (k := k) (by unfold unl; rw [decide_eq_true_iff]; exact Or.inr hx))
          rw [decide_eq_false hx] at HS
          clear hx hint hint2
          generalize (a.getD k []).length = xl at *
          generalize (b.getD k []).length = yl at *
          go_wp2_with fail
          refine HS.out.mono ?_
          rintro e w2 ⟨rfl, hb2⟩
          have hB2 := hbw.trans (hb2.mono hbw.size)
          have hown2 := owns_below hown hb2 (Nat.le_refl _)
          have hbs2 := hB2.size
          clear hb2 hown
          generalize hwe : wrg a b k = W at *
          go_wp2_with (at_builtin; refine wpList_append_own _ rfl _ _ 24 rfl w.heap.size 3 i0 (.int .i64 0) 1 8 Try.underlying24 hi hz0 hz1 hz2 rfl (by decide) _ _ _ rfl (hown2.alloc _) ⟨w2.heap.size, 0, none⟩ 1 1 [.int .i64 (k : Int)] rfl rfl ?c1 ?c2 ?c3 ?c4 ?c5 ?_)
          case c1 => exact cell_one_new _ _ _
          case c2 => intro u hu; simp at hu; subst hu; rfl
          case c3 => unfold maxLen; omega
          case c4 => omega
          case c5 => simp; omega
          intro v' w3 hown' hgrow _
          go_wp2
          go_roundw
          case rel => exact ⟨k + 1, by omega, by go_num, by rw [HU.out, List.length_append, List.map_append]; exact hown', (hB2.alloc hB2.size _).grown hgrow (by simp; omega) (fun g hg => (hown2.lt g hg).1)⟩
          case measure => simp [intOf]; omega
      · have HU := hide (wrg_yes (a := a) (b := b) (k := k) (by unfold unl; rw [decide_eq_true_iff]; exact Or.inl (by omega)))
        clear hint
        generalize (a.getD k []).length = xl at *
        generalize hwe : wrg a b k = W at *
        go_wp2_with (at_builtin; refine wpList_append_own _ rfl _ _ 24 rfl w.heap.size 3 i0 (.int .i64 0) 1 8 Try.underlying24 hi hz0 hz1 hz2 rfl (by decide) _ _ _ rfl (hown.alloc _) ⟨wr.heap.size, 0, none⟩ 1 1 [.int .i64 (k : Int)] rfl rfl ?d1 ?d2 ?d3 ?d4 ?d5 ?_)
        case d1 => exact cell_one_new _ _ _
        case d2 => intro u hu; simp at hu; subst hu; rfl
        case d3 => unfold maxLen; omega
        case d4 => omega
        case d5 => simp; omega
        intro v' w3 hown' hgrow _
        go_wp2
        go_roundw
        case rel => exact ⟨k + 1, by omega, by go_num, by rw [HU.out, List.length_append, List.map_append]; exact hown', (hbw.alloc hbw.size _).grown hgrow (by simp; omega) (fun g hg => (hown.lt g hg).1)⟩
        case measure => simp [intOf]; omega
    · obtain rfl : k = a.length := by omega
      go_wp2
      go_ret
      exact ⟨_, rfl, Ints.own hown, hbw⟩

end Go.Proofs.Ytfnmkbcdchnnnaa

/- Contract: the answer's Wrong; the law BandWrong. -/
namespace Go.Proofs.Ytfnmkbcdchnnnaa
open Go.RowKit

set_option maxRecDepth 20000 in
set_option maxHeartbeats 4000000 in
theorem rwrong_ok (va vb : Value) (a b : List (List Int)) (w : World) (ha : IntsAll w va a) (hb : IntsAll w vb b) (hl : a.length ≤ 17592186044416) (hlb : b.length ≤ 17592186044416) :
    Calls Try.prog 17 #[va, vb] w (WrgPost a b w) := by
  obtain ⟨i0, hi, hz0, hz1, hz2⟩ := info_parts Try.info3
  obtain ⟨p0, c0, rfl⟩ := ha.len
  obtain ⟨p1, c1, rfl⟩ := hb.len
  have HA := hide ha
  have HB := hide hb
  clear ha hb
  go_enter Try.func17, Try.ntmps17
  go_wp2
  go_loopw [5, 6] (fun v i wr => ∃ (k : Nat), k ≤ a.length ∧ i = .int .i64 k ∧ wr.ownsRow w.heap.size 3 1 v (wrg a b k).length ((wrg a b k).map (Value.int .i64)) ∧ Below w.heap.size w wr) (fun _ i _ => a.length - (intOf i).toNat)
  case atStart => exact ⟨0, by omega, rfl, World.ownsRow_nil _ _ _ _, Below.refl _ _⟩
  case round =>
    obtain ⟨k, hk, rfl, hown, hbw⟩ := hrel
    have hbs := hbw.size
    have hwl := wrg_le a b k
    by_cases hlt : k < a.length
    · obtain ⟨ab, ao, acap, he, ha3, hlc3, hcm3, hcell3⟩ := (HA.out.below hbw).cell (by omega)
      simp only [Value.slice.injEq] at he
      obtain ⟨rfl, _, rfl⟩ := he
      obtain ⟨q, cc, hce, hint⟩ := hcell3 k hlt
      clear hcell3
      by_cases hkb : k < b.length
      · obtain ⟨bb, bo, bcap, he, hb3, hlc4, hcm4, hcell4⟩ := (HB.out.below hbw).cell (by omega)
        simp only [Value.slice.injEq] at he
        obtain ⟨rfl, _, rfl⟩ := he
        obtain ⟨q2, cc2, hce2, hint2⟩ := hcell4 k hkb
        clear hcell4
        have HS := hide (same_any _ _ _ _ wr.drew (hint.out.below (Below.refl _ _).drew) (hint2.out.below (Below.refl _ _).drew))
        by_cases hx : a.getD k [] = b.getD k []
        · have HU := hide (wrg_no (a := a) (b := b) (k := k) (by unfold unl; rw [decide_eq_false_iff_not]; exact fun h => h.elim (fun h => absurd h (by omega)) (fun h => h hx)))
          rw [decide_eq_true hx] at HS
          clear hx hint hint2
          generalize (a.getD k []).length = xl at *
          generalize (b.getD k []).length = yl at *
          go_wp2
          go_region_with (go_at_call 9; refine HS.out.mono ?_; rintro e w2 ⟨rfl, hb2⟩)
          all_goals
            have hB2 : Below w.heap.size w w2 := hbw.drew.trans (hb2.mono hbw.size)
            have hown2 := owns_below hown ((Below.refl wr.heap.size wr).drew.trans hb2) (Nat.le_refl _)
            rw [← HU.out] at hown2
            clear hb2 HU hown
            go_wp2
            go_roundw
            case rel =>
              have hfin := And.intro (show k + 1 ≤ a.length by omega) (And.intro (show Value.int .i64 ((k : Int) + 1) = .int .i64 ((k + 1 : Nat) : Int) by go_num) (And.intro hown2 hB2))
              first
                | exact ⟨k + 1, hfin⟩
                | ((repeat apply Exists.intro); exact ⟨⟨k + 1, hfin⟩, rfl⟩)
            case measure => simp [intOf]; omega
        · have HU := hide (wrg_yes (a := a) (b := b) (k := k) (by unfold unl; rw [decide_eq_true_iff]; exact Or.inr hx))
          rw [decide_eq_false hx] at HS
          clear hx hint hint2
          generalize (a.getD k []).length = xl at *
          generalize (b.getD k []).length = yl at *
          go_wp2
          go_region_with (go_at_call 9; refine HS.out.mono ?_; rintro e w2 ⟨rfl, hb2⟩)
          all_goals
            have hB2 : Below w.heap.size w w2 := hbw.drew.trans (hb2.mono hbw.size)
            have hown2 := owns_below hown ((Below.refl wr.heap.size wr).drew.trans hb2) (Nat.le_refl _)
            have hbs2 := hB2.size
            clear hb2 hown
            generalize hwe : wrg a b k = W at *
            go_wp2_with (at_builtin; refine wpList_append_own _ rfl _ _ 24 rfl w.heap.size 3 i0 (.int .i64 0) 1 8 Try.underlying24 hi hz0 hz1 hz2 rfl (by decide) _ _ _ rfl (hown2.alloc _) ⟨w2.heap.size, 0, none⟩ 1 1 [.int .i64 (k : Int)] rfl rfl ?c1 ?c2 ?c3 ?c4 ?c5 ?_)
            case c1 => exact cell_one_new _ _ _
            case c2 => intro u hu; simp at hu; subst hu; rfl
            case c3 => unfold maxLen; omega
            case c4 => omega
            case c5 => simp; omega
            intro v' w3 hown' hgrow _
            go_wp2
            go_roundw
            case rel =>
              have hfin := And.intro (show k + 1 ≤ a.length by omega) (And.intro (show Value.int .i64 ((k : Int) + 1) = .int .i64 ((k + 1 : Nat) : Int) by go_num) (And.intro (show w3.ownsRow w.heap.size 3 1 v' (wrg a b (k + 1)).length ((wrg a b (k + 1)).map (Value.int .i64)) by rw [HU.out, List.length_append, List.map_append]; exact hown') ((hB2.alloc hB2.size _).grown hgrow (by simp; omega) (fun g hg => (hown2.lt g hg).1))))
              first
                | exact ⟨k + 1, hfin⟩
                | ((repeat apply Exists.intro); exact ⟨⟨k + 1, hfin⟩, rfl⟩)
            case measure => simp [intOf]; omega
      · have HU := hide (wrg_yes (a := a) (b := b) (k := k) (by unfold unl; rw [decide_eq_true_iff]; exact Or.inl (by omega)))
        clear hint
        generalize (a.getD k []).length = xl at *
        generalize hwe : wrg a b k = W at *
        go_wp2_with (at_builtin; refine wpList_append_own _ rfl _ _ 24 rfl w.heap.size 3 i0 (.int .i64 0) 1 8 Try.underlying24 hi hz0 hz1 hz2 rfl (by decide) _ _ _ rfl (hown.alloc _) ⟨wr.heap.size, 0, none⟩ 1 1 [.int .i64 (k : Int)] rfl rfl ?d1 ?d2 ?d3 ?d4 ?d5 ?_)
        case d1 => exact cell_one_new _ _ _
        case d2 => intro u hu; simp at hu; subst hu; rfl
        case d3 => unfold maxLen; omega
        case d4 => omega
        case d5 => simp; omega
        intro v' w3 hown' hgrow _
        go_wp2
        go_roundw
        case rel => exact ⟨k + 1, by omega, by go_num, by rw [HU.out, List.length_append, List.map_append]; exact hown', (hbw.alloc hbw.size _).grown hgrow (by simp; omega) (fun g hg => (hown.lt g hg).1)⟩
        case measure => simp [intOf]; omega
    · obtain rfl : k = a.length := by omega
      go_wp2
      go_ret
      exact ⟨_, rfl, Ints.own hown, hbw⟩

set_option maxRecDepth 20000 in
set_option maxHeartbeats 1000000 in
theorem bandWrong_walk (va : Value) (a : List (List Int)) (vb : Value) (b : List (List Int)) (w : World) (ha : IntsAll w va a) (hl : a.length ≤ 17592186044416) (hb : IntsAll w vb b) (hlb : b.length ≤ 17592186044416) :
    Calls Try.prog 4 #[va, vb] w fun e w' => e = .returned (.bool true) ∧ Below w.heap.size w w' := by
  have H1 := hide (wrong_ok va vb a b w ha hb hl hlb)
  have H2 := hide (fun W (hW : Below w.heap.size w W) => rwrong_ok va vb a b W (ha.below hW) (hb.below hW) hl hlb)
  obtain ⟨p0, c0, rfl⟩ := ha.len
  obtain ⟨p1, c1, rfl⟩ := hb.len
  clear ha hb
  go_enter Try.func4, Try.ntmps4
  go_wp2_with fail
  refine H1.out.mono ?_
  rintro e w1 ⟨v1, rfl, hi1, hb1⟩
  obtain ⟨q1, d1, rfl⟩ := hi1.form
  have HI1 := hide hi1
  clear hi1
  generalize hgl : (wrg a b a.length).length = gl at *
  go_wp2_with fail
  refine (H2.out w1 hb1).mono ?_
  rintro e w2 ⟨v2, rfl, hi2, hb2⟩
  have HS := hide (same_any _ _ _ _ w2 (HI1.out.below hb2) hi2)
  rw [decide_eq_true rfl] at HS
  obtain ⟨q2, d2, rfl⟩ := hi2.form
  rw [hgl] at HS
  rw [hgl]
  have hB2 := hb1.trans (hb2.mono hb1.size)
  clear hi2 hb1 hb2 HI1 hgl
  go_wp2_with fail
  refine HS.out.mono ?_
  rintro e w3 ⟨rfl, hb3⟩
  go_wp2
  go_ret
  exact ⟨rfl, hB2.trans (hb3.mono hB2.size)⟩

end Go.Proofs.Ytfnmkbcdchnnnaa

/- A slice of lists that came in reads as a list of lists. -/
namespace Go.Proofs.Ytfnmkbcdchnnnaa
open Go.RowKit Go.ChangeShapes Go.WideShapes

theorem ints_row {w : World} {a : Option Addr} {len cap : Nat} {zs : List Int} (hl : len ≤ cap) (hm : cap ≤ maxLen) (hz : zs.length = cap) (hn : a = none → cap = 0)
    (hc : ∀ x, a = some x → ∀ c, c < cap → w.cell? (x.add c) = some (.int .i64 (zs.getD c 0))) : Ints w (.slice a len cap) (zs.take len) := by
  rcases Nat.eq_zero_or_pos len with h0 | h0
  · subst h0
    exact Or.inl ⟨rfl, a, cap, rfl⟩
  · cases a with
    | none => have := hn rfl; omega
    | some x =>
      obtain ⟨b, off, rfl, hcell⟩ := ints_at (zs := zs) (fun i hi => hc x rfl i (by omega)) (by omega)
      have hlen : (zs.take len).length = len := by rw [List.length_take]; omega
      refine Or.inr ⟨b, off, cap, by rw [hlen], by omega, by omega, by unfold maxLen at hm; omega, ?_, fun j hj => ?_⟩
      · exact World.block_lt_of_cell? w _ (hcell 0 (by omega))
      · rw [hlen] at hj
        rw [hcell j (by omega)]
        simp [List.getD, hj]

theorem rows_all {w : World} {base : Nat} {a : Addr} {len cap : Nat} {A : Nat → Option Addr} {L C : Nat → Nat} {Z : Nat → List Int} (hl : len ≤ cap) (hm : cap ≤ maxLen)
    (h : ∀ r, r < cap → w.cell? (a.add r) = some (.slice (A r) (L r) (C r)) ∧ L r ≤ C r ∧ C r ≤ maxLen ∧ (Z r).length = C r ∧ (∀ n ∈ Z r, (Lit.int .i64 n).wf = true) ∧ (A r = none → C r = 0) ∧
        ∀ a', A r = some a' → base ≤ a'.block ∧ ∀ c, c < C r → w.cell? (a'.add c) = some (.int .i64 ((Z r).getD c 0))) :
    ∃ xss, IntsAll w (.slice (some a) len cap) xss := by
  refine ⟨(List.range len).map (fun r => (Z r).take (L r)), (List.range len).map (fun r => .slice (A r) (L r) (C r)), ?_, by simp, fun j hj => ?_⟩
  · rcases Nat.eq_zero_or_pos len with h0 | h0
    · subst h0
      exact Or.inl ⟨rfl, _, _, rfl⟩
    · obtain ⟨b, off, spot⟩ := a
      have hspot : spot = none := by simpa [Addr.add] using World.cell?_spot (h 0 (by omega)).1
      subst hspot
      refine Or.inr ⟨b, off, cap, by simp, by simpa using h0, by simpa using hl, by unfold maxLen at hm; omega, ?_, fun j hj => ?_⟩
      · exact World.block_lt_of_cell? w _ (h 0 (by omega)).1
      · simp at hj
        rw [← Addr.add_lit, (h j (by omega)).1]
        simp [List.getD, hj]
  · simp at hj
    have e1 : ((List.range len).map (fun r => Value.slice (A r) (L r) (C r))).getD j undef = .slice (A j) (L j) (C j) := by simp [List.getD, hj]
    have e2 : ((List.range len).map (fun r => (Z r).take (L r))).getD j [] = (Z j).take (L j) := by simp [List.getD, hj]
    rw [e1, e2]
    obtain ⟨_, a1, a2, a3, _, a5, a6⟩ := h j (by omega)
    exact ints_row a1 a2 a3 a5 (fun x hx => (a6 x hx).2)

end Go.Proofs.Ytfnmkbcdchnnnaa
