/- Joined: SbA, SbB, SbF, Rns, RunA, Idx, RunB. -/
import Derived.Test.YtoiiadiimfohiaaJ9
import Derived.Test.YtoiiadiimfohiaaJ3
import Derived.Test.YtoiiadiimfohiaaJ12
import Derived.Test.YtoiiadiimfohiaaJ5
import Derived.Test.YtoiiadiimfohiaaJ6
import Derived.Test.YtoiiadiimfohiaaJ8
import Derived.Deep.RegionHeld3
import Derived.Deep.Cut
import Derived.Test.YtoiiadiimfohiaaJ10
import Derived.Lib.DecodeN
import Derived.Test.YtoiiadiimfohiaaJ2
import Derived.Lib.Bytealg
import Derived.Laws.Runes
import Derived.Laws.Externs
import Derived.WalkMore
import Derived.Deep.QuietTactic
/- Contract: the answer's From. -/
namespace Go.Proofs.Ytoiiadiimfohiaa
open Go.RowKit
set_option maxRecDepth 20000
set_option linter.unusedVariables false

/-- A row, changed by the first k changes. -/
def frW (r : List Int) (ts : List (List Bool)) (k : Nat) : List Int := (ts.take k).foldl (fun r t => by_ r (trow t)) r

/-- All rows from one on. -/
def frL (r : List Int) (ts : List (List Bool)) (k : Nat) : List (List Int) := (List.range (k + 1)).map (fun j => frW r ts j)

theorem frL_succ (r : List Int) (ts : List (List Bool)) (k : Nat) : frL r ts (k + 1) = frL r ts k ++ [frW r ts (k + 1)] := by
  unfold frL
  rw [List.range_succ (n := k + 1), List.map_append]
  rfl

theorem frL_length (r : List Int) (ts : List (List Bool)) (k : Nat) : (frL r ts k).length = k + 1 := by simp [frL]

theorem frW_succ {r : List Int} {ts : List (List Bool)} {k : Nat} (h : k < ts.length) : frW r ts (k + 1) = by_ (frW r ts k) (trow ts[k]) := by
  unfold frW
  rw [List.take_succ_eq_append_getElem h, List.foldl_append]
  rfl

theorem frW_row {r : List Int} {n : Nat} {ts : List (List Bool)} (hr : isRow r) (hn : r.length = n) (hts : ∀ t, t ∈ ts → tsz t = n) (k : Nat) : isRow (frW r ts k) ∧ (frW r ts k).length = n := by
  unfold frW
  have : ∀ (l : List (List Bool)) (x : List Int), isRow x → x.length = n → (∀ t, t ∈ l → tsz t = n) → isRow (l.foldl (fun r t => by_ r (trow t)) x) ∧ (l.foldl (fun r t => by_ r (trow t)) x).length = n := by
    intro l
    induction l with
    | nil => intro x h1 h2 _; exact ⟨h1, h2⟩
    | cons t l ih =>
      intro x h1 h2 h3
      have ht := h3 t (by simp)
      have hl : (trow t).length = n := by rw [trow_length]; exact ht
      exact ih (by_ x (trow t)) (isRow_by h1 (trow_row t) (by rw [hl, h2])) (by rw [by_length, hl]) (fun u hu => h3 u (List.mem_cons_of_mem _ hu))
  exact this _ r hr hn (fun t ht => hts t (List.mem_of_mem_take ht))

set_option maxHeartbeats 4000000 in
theorem rfrom_ok (base : Nat) (rv : Value) (r : List Int) (n : Nat) (cv : Value) (ts : List (List Bool)) (w : World) (hr : isRow r) (hrn : r.length = n) (h1 : 1 ≤ n) (h12 : n ≤ 12) (hown : w.ownsRow base 3 1 rv n (r.map (Value.int .i64))) (hts : ∀ t, t ∈ ts → tsz t = n) (hl1 : 1 ≤ ts.length) (hl2 : ts.length ≤ 1000) (hc : IntsAll w cv (ts.map tpl)) (hbase : base ≤ w.heap.size) :
    Calls Try.prog 37 #[rv, cv] w fun e w' => ∃ v vs, e = .returned v ∧ LL w' base v vs (frL r ts ts.length) ∧ w'.ownsRow w.heap.size 26 1 v vs.length vs ∧ Below w.heap.size w w' := by
  obtain ⟨i0, hi, hz0, hz1, hz2⟩ := info_parts Try.info26
  obtain ⟨b, off, cap, hve, hbl, hc1, hc2, hcell⟩ := hc.cell (by rw [List.length_map]; omega)
  rw [List.length_map] at hve hc1 hcell
  subst hve
  obtain ⟨m, hm⟩ : ∃ m, Hid (ts.length = m) := ⟨_, rfl⟩
  rw [hm.out] at hc1 hl1 hl2 hcell
  have HCE := hide hcell
  have HTS := hide hts
  have HRW := hide (fun k => frW_row hr hrn hts k)
  obtain ⟨g0, rc0, rfl, hg01, hg02, hrc01, hrc02⟩ := owns_form hown (by omega)
  have HO := hide hown
  rw [hm.out]
  have HL0 : Hid (LL (w.alloc (.cells #[.slice (some ⟨g0, 0, none⟩) n rc0] 26)) base (.slice (some ⟨w.heap.size, 0, none⟩) 1 1) [.slice (some ⟨g0, 0, none⟩) n rc0] (frL r ts 0)) := by
    have : frL r ts 0 = [r] := by simp [frL, frW]
    rw [this]
    exact LL.one (X := r) (by rw [hrn]; exact hown) hbase
  have HR0 : Hid ((w.alloc (.cells #[.slice (some ⟨g0, 0, none⟩) n rc0] 26)).ownsRow base 3 1 (.slice (some ⟨g0, 0, none⟩) n rc0) n ((frW r ts 0).map (Value.int .i64))) := by
    have : frW r ts 0 = r := by simp [frW]
    rw [this]
    exact hown.alloc _
  have HU0 : Hid ((w.alloc (.cells #[.slice (some ⟨g0, 0, none⟩) n rc0] 26)).ownsRow w.heap.size 26 1 (.slice (some ⟨w.heap.size, 0, none⟩) 1 1) (0 + 1) [.slice (some ⟨g0, 0, none⟩) n rc0]) := World.ownsRow_lit w #[.slice (some ⟨g0, 0, none⟩) n rc0] 1 (Nat.le_refl _) (by unfold maxLen; omega) rfl
  have hB0 := (Below.refl w.heap.size w).alloc (Nat.le_refl _) (.cells #[.slice (some ⟨g0, 0, none⟩) n rc0] 26)
  clear hown hcell hts hc hr
  go_enter Try.func37, Try.ntmps37
  go_wp2
  go_loopw [0, 5, 6] (fun rw u i wr => ∃ (k g c : Nat) (vs : List Value), k ≤ m ∧ i = .int .i64 k ∧ rw = .slice (some ⟨g, 0, none⟩) n c ∧ Hid (vs.length = k + 1) ∧ Hid (LL wr base u vs (frL r ts k)) ∧ Hid (wr.ownsRow w.heap.size 26 1 u (k + 1) vs) ∧ Hid (wr.ownsRow base 3 1 (.slice (some ⟨g, 0, none⟩) n c) n ((frW r ts k).map (Value.int .i64))) ∧ Below w.heap.size w wr) (fun _ _ i _ => m - (intOf i).toNat)
  case atStart => exact ⟨0, g0, rc0, [.slice (some ⟨g0, 0, none⟩) n rc0], by omega, rfl, rfl, (show [Value.slice (some ⟨g0, 0, none⟩) n rc0].length = 0 + 1 from rfl), HL0, HU0, HR0, hB0⟩
  case round =>
    obtain ⟨k, g, rc, vs, hk, rfl, rfl, hlv, hL, hU, hR, hbw⟩ := hrel
    clear HL0 HR0 HU0 hB0
    by_cases hlt : k < m
    · have hlt' : k < ts.length := by rw [hm.out]; exact hlt
      obtain ⟨p, c, hcx, hix⟩ := HCE.out k hlt
      have hbs := hbw.size
      have gx := (hbw.cell (p := ⟨b, off + k, none⟩) (by exact hbl)).trans hcx
      have ht : tsz ts[k] = n := HTS.out _ (List.getElem_mem hlt')
      have hgk : (ts.map tpl).getD k [] = tpl ts[k] := by simp [List.getD, hlt']
      have hix2 := hix.out
      rw [hgk] at hix2 gx
      have HCR := hide (changeRow_ok ts[k] n _ wr ht h1 h12 (hix2.below hbw))
      have HN := hide (frW_succ (r := r) hlt')
      generalize ts[k] = t at *
      generalize (tpl t).length = pl at *
      have HT0 := hide ht
      clear ht hcx hix hix2 hgk
      go_wp2_with fail
      refine HCR.out.mono ?_
      rintro e w3 ⟨cv3, rfl, hcv3, hb3⟩
      have hrow3 := owns_below hR.out hb3 (Nat.le_refl _)
      have hbw3 := hbw.trans (hb3.mono hbs)
      have hbs3 := hb3.size
      have HBY := hide (rby_own _ cv3 (frW r ts k) (trow t) w3 (Ints.own hrow3) (Ints.own hcv3) (fun j hj => by
        have h9 := trow_mem t ((trow t).getD j 0) (by simp [List.getD, hj])
        rw [(HRW.out k).2, ← HT0.out]
        exact h9) (by rw [(HRW.out k).2]; exact h1) (by rw [trow_length, HT0.out]; omega))
      rw [← HN.out, trow_length, HT0.out] at HBY
      have HL3 := hide (hL.out.below hb3)
      have HU3 := hide (owns_below hU.out hb3 (Nat.le_refl _))
      clear hrow3 hcv3 hb3 hL hU hR HCR hbw gx
      go_wp2_with fail
      refine HBY.out.mono ?_
      rintro e w4 ⟨rn, rfl, hrn4, hb4⟩
      obtain ⟨g', rc', rfl, hg3, hg4, hrc3, hrc4⟩ := owns_form hrn4 (by omega)
      have hL4 := HL3.out.below hb4
      have hbw4 := hbw3.trans (hb4.mono (by omega))
      have hbs4 := hb4.size
      have hrn' := owns_base hrn4 (show base ≤ w3.heap.size by omega)
      have hrow4 := owns_below HU3.out hb4 (Nat.le_refl _)
      have HU4 := hide hrow4
      have HL4 := hide hL4
      have HRN := hide hrn'
      have HRK := hide (HRW.out (k + 1))
      clear hrn4 hrn' hL4 HL3 HU3 HBY hb4 hbw3
      go_wp2_with (at_builtin; refine wpList_append_own _ rfl _ _ 22 rfl w.heap.size 26 i0 (.slice none 0 0) 1 24 Try.underlying22 hi hz0 hz1 hz2 rfl (by decide) _ _ _ rfl (hrow4.alloc _) ⟨w4.heap.size, 0, none⟩ 1 1 [.slice (some ⟨g', 0, none⟩) n rc'] rfl rfl ?c1 ?c2 ?c3 ?c4 ?c5 ?_)
      case c1 => exact cell_one_new _ _ _
      case c2 => intro u hu; simp at hu; subst hu; rfl
      case c3 => unfold maxLen; omega
      case c4 => omega
      case c5 => simp; omega
      · intro v' w5 hown5 hgrow _
        have HL5 : Hid (LL w5 base v' (vs ++ [.slice (some ⟨g', 0, none⟩) n rc']) (frL r ts (k + 1))) := by
          rw [frL_succ]
          exact HL4.out.push (X := frW r ts (k + 1)) (by rw [HRK.out.2]; exact HRN.out) (by rw [hlv.out]; exact owns_base hown5 hbase) hgrow
        have HR5 := hide (HL4.out.kept HRN.out hgrow)
        have hB5 : Below w.heap.size w w5 := (hbw4.alloc (by omega) _).grown hgrow (by simp; omega) (fun g hg => (HU4.out.lt g hg).1)
        have HU5 := hide hown5
        clear hown5 hgrow HL4 HRN hrow4 HU4
        go_wp2
        go_roundw
        case rel => exact ⟨k + 1, g', rc', _, by omega, by go_num, rfl, (show (vs ++ [Value.slice (some ⟨g', 0, none⟩) n rc']).length = k + 1 + 1 by rw [List.length_append, hlv.out]; rfl), HL5, HU5, HR5, hB5⟩
        case measure => simp [intOf]; omega
    · obtain rfl : k = m := by omega
      go_wp2
      go_ret
      exact ⟨_, vs, rfl, hL.out, by rw [hlv.out]; exact hU.out, hbw⟩

end Go.Proofs.Ytoiiadiimfohiaa

/- Contract: the answer's Ends. -/
namespace Go.Proofs.Ytoiiadiimfohiaa
open Go.RowKit
set_option maxRecDepth 20000
set_option linter.unusedVariables false

/-- 'append(a, b...)': a owned, b whatever came in, none too. -/
theorem run_append_vals {P : Program} (w : World) (base : Nat) (t ty e : TypeId) (i : TypeInfo) (z : Value) (bytes : Nat) (ht : P.underlying t = some (.slice e)) (hi : P.info? e = some i) (hz : i.zero = some z)
    (hsize : i.size = 1) (hby : i.bytes = bytes) (hzs : z.cells.size = 1)
    (v : Value) (n : Nat) (xs : List Value) (hown : w.ownsRow base e 1 v n xs)
    (u : Value) (news : List Value) (hsrc : Vals w u news) (h1 : ∀ u ∈ news, u.oneCell' = true)
    (h63 : n + news.length ≤ maxLen) (hbytes : (n + news.length) * bytes ≤ 140737488355328) (hbase : base ≤ w.heap.size) :
    ∃ v' w', (Builtin.append_ #[t, t] ty #[v, u]).run P w = .ok v' w' ∧ w'.ownsRow base e 1 v' (n + news.length) (xs ++ news) ∧ w.grownBy w' v.ownBlock := by
  rcases hsrc with ⟨rfl, p, c, rfl⟩ | ⟨b, off, cap, rfl, h0, hc, hm, hb, hcell⟩
  · rw [List.length_nil, Nat.add_zero, List.append_nil]
    have hr : w.grownBy w v.ownBlock := ⟨rfl, rfl, rfl, Nat.le_refl _, fun _ _ _ => rfl⟩
    rcases hown.2 with ⟨rfl, rfl⟩ | ⟨g2, cap2, cur2, rfl, _, _, hnc2, _⟩
    · exact ⟨_, w, run_append_nil_none (P := P) w t ty e i ht hi p c, hown, hr⟩
    · exact ⟨_, w, run_append_none (P := P) w t ty e i ht hi ⟨g2, 0, none⟩ n cap2 hnc2 p c, hown, hr⟩
  · obtain ⟨v', w', hr, h2, h3, _⟩ := run_append_keep (P := P) w base t ty e i z 1 bytes ht hi hz hsize hby hzs (by decide) v n xs hown ⟨b, off, none⟩ news.length cap news (by omega) (fun j u hu => by
      have hj := (List.getElem?_eq_some_iff.1 hu).1
      have := hcell j hj
      rw [List.getD_eq_getElem?_getD, hu] at this
      rw [Addr.add_lit]
      exact this) h1 h63 hbytes hbase
    exact ⟨v', w', hr, h2, h3⟩

/-- .. as one step of a region that draws. -/
theorem step_append_vals {P : Program} {ops : Array Oper} {o : Oper} {a : Act} {w : World} {K : Act → World → Prop} {Q : Exit → Act → World → Prop} {E : Prop} (hg : o.guard = none) (s x : Operand) (t : TypeId)
    (ho : o.op = .call { callee := .builtin .append, args := #[s, x], argTypes := #[t, t] })
    (base : Nat) (e : TypeId) (i : TypeInfo) (z : Value) (bytes : Nat) (ht : P.underlying t = some (.slice e)) (hi : P.info? e = some i) (hz : i.zero = some z)
    (hsize : i.size = 1) (hby : i.bytes = bytes) (hzs : z.cells.size = 1)
    (v : Value) (n : Nat) (xs : List Value) (hs : a.eval s = v) (hown : w.ownsRow base e 1 v n xs)
    (u : Value) (news : List Value) (hx : a.eval x = u) (hsrc : Vals w u news) (h1 : ∀ u ∈ news, u.oneCell' = true)
    (h63 : n + news.length ≤ maxLen) (hbytes : (n + news.length) * bytes ≤ 140737488355328) (hbase : base ≤ w.heap.size)
    (h : ∀ v' w', w'.ownsRow base e 1 v' (n + news.length) (xs ++ news) → w.grownBy w' v.ownBlock → K (a.put o.dst v') w') :
    if Region.wanted o (yielded ops a.tmps) = true then Oper.wp P o a w K Q else E := by
  have hw : Region.wanted o (yielded ops a.tmps) = true := by simp [Region.wanted, hg]
  rw [if_pos hw]
  obtain ⟨v', w', hr, h2, h3⟩ := run_append_vals (P := P) w base t o.type e i z bytes ht hi hz hsize hby hzs v n xs hown u news hsrc h1 h63 hbytes hbase
  unfold Oper.wp execOp
  simp only [ho, resolve, invoke, builtin, Sem.run_bind, Sem.run_pure, Result.andThen_ok, List.map_toArray, List.map_cons, List.map_nil, hs, hx, hr]
  exact h v' w' h2 h3

theorem alloc_new9 (w : World) (o : Obj) : (w.alloc o).heap[w.heap.size]? = some o := heap_alloc_new w o

theorem alloc_new9' (w : World) (o : Obj) {k : Nat} (h : k = w.heap.size) : (w.alloc o).heap[k]? = some o := by rw [h]; exact alloc_new9 w o

/-- A call's value. -/
def callV (sg : Int) (cv : Value) : Value := .agg #[.int .i32 sg, cv]

theorem Vals.take {w : World} {p : Option Addr} {m c k : Nat} {vs : List Value} (h : Vals w (.slice p m c) vs) (hk : k ≤ vs.length) : Vals w (.slice p k c) (vs.take k) := by
  rcases h with ⟨rfl, p', c', e⟩ | ⟨b, off, cap, e, h0, h1, h2, h3, hc⟩
  · simp at hk
    subst hk
    exact Or.inl ⟨rfl, _, _, rfl⟩
  · injection e with e1 e2 e3
    subst e1; subst e3
    have hl : (vs.take k).length = k := by rw [List.length_take]; omega
    rcases Nat.eq_zero_or_pos k with h9 | h9
    · subst h9; exact Or.inl ⟨rfl, _, _, rfl⟩
    · refine Or.inr ⟨b, off, c, by rw [hl], by omega, by omega, h2, h3, fun j hj => ?_⟩
      rw [hl] at hj
      rw [hc j (by omega)]
      simp [List.getD, hj]

theorem vals_len {w : World} {p : Option Addr} {m c : Nat} {vs : List Value} (h : Vals w (.slice p m c) vs) : m = vs.length := by
  rcases h with ⟨rfl, p', c', e⟩ | ⟨b, off, cap, e, _⟩
  · injection e
  · injection e

theorem vals_cap {w : World} {p : Option Addr} {m c : Nat} {vs : List Value} (h : Vals w (.slice p m c) vs) (h0 : 1 ≤ m) : m ≤ c ∧ ∃ b off, p = some ⟨b, off, none⟩ := by
  rcases h with ⟨rfl, p', c', e⟩ | ⟨b, off, cap, e, h0, h1, _⟩
  · injection e with _ e2 _; omega
  · injection e with e1 e2 e3
    subst e3
    exact ⟨by omega, b, off, e1⟩

set_option maxHeartbeats 8000000 in
theorem rends_ok (s : ByteArray) (n : Nat) (vp : Option Addr) (K vc : Nat) (sg : Int) (cp : Option Addr) (N cc : Nat) (vs us : List Value) (w : World) (hv : Vals w (.slice vp K vc) vs) (hu : Vals w (.slice cp N cc) us) (hK1 : 1 ≤ K) (hK2 : K ≤ 1000) (hN : N ≤ K) (h1 : ∀ u ∈ vs, u.oneCell' = true) (h2 : ∀ u ∈ us, u.oneCell' = true) :
    Calls Try.prog 43 #[.agg #[.string s, .int .i64 n, .slice vp K vc], callV sg (.slice cp N cc)] w fun e w' => ∃ v, e = .returned v ∧ w'.ownsRow (w.heap.size + 1 + 1) 26 1 v (K - N + N) (vs.take (K - N) ++ us) ∧ Below w.heap.size w w' := by
  obtain ⟨i0, hi, hz0, hz1, hz2⟩ := info_parts Try.info26
  obtain ⟨hcap, b, off, rfl⟩ := vals_cap hv hK1
  have hlv := vals_len hv
  have hlu := vals_len hu
  have HV := hide (hv.take (k := K - N) (by omega))
  have HU := hide hu
  have HLV := hide hlv
  have HLU := hide hlu
  obtain ⟨k, hk⟩ : ∃ k, Hid (K - N = k) := ⟨_, rfl⟩
  have hkN : (K : Int) - (N : Int) = (k : Int) := by have := hk.out; omega
  have hkK : k ≤ K := by have := hk.out; omega
  rw [hk.out] at HV ⊢
  unfold callV
  clear hv hu hlv hlu
  go_enter Try.func43, Try.ntmps43
  have hM0 := Below.heap_alloc (w.alloc (.cells #[.string s, .int .i64 (n : Int), .slice (some ⟨b, off, none⟩) K vc] 24)) (.cells #[.int .i32 sg, .slice cp N cc] 47) w.heap.size (by simp)
  rw [alloc_new9] at hM0
  have hC0 := alloc_new9' (w.alloc (.cells #[.string s, .int .i64 (n : Int), .slice (some ⟨b, off, none⟩) K vc] 24)) (.cells #[.int .i32 sg, .slice cp N cc] 47) (k := w.heap.size + 1) (by simp)
  have c0 : ((w.alloc (.cells #[.string s, .int .i64 (n : Int), .slice (some ⟨b, off, none⟩) K vc] 24)).alloc (.cells #[.int .i32 sg, .slice cp N cc] 47)).cell? ⟨w.heap.size, 2, none⟩ = some (.slice (some ⟨b, off, none⟩) K vc) := by unfold World.cell?; rw [hM0]; rfl
  have c1 : ((w.alloc (.cells #[.string s, .int .i64 (n : Int), .slice (some ⟨b, off, none⟩) K vc] 24)).alloc (.cells #[.int .i32 sg, .slice cp N cc] 47)).cell? ⟨w.heap.size + 1, 1, none⟩ = some (.slice cp N cc) := by unfold World.cell?; rw [hC0]; rfl
  have hB0 : Below w.heap.size w ((w.alloc (.cells #[.string s, .int .i64 (n : Int), .slice (some ⟨b, off, none⟩) K vc] 24)).alloc (.cells #[.int .i32 sg, .slice cp N cc] 47)) := ((Below.refl _ _).alloc (Nat.le_refl _) _).alloc (by simp) _
  have hs0 : ((w.alloc (.cells #[.string s, .int .i64 (n : Int), .slice (some ⟨b, off, none⟩) K vc] 24)).alloc (.cells #[.int .i32 sg, .slice cp N cc] 47)).heap.size = w.heap.size + 1 + 1 := by simp
  have HV0 := hide (HV.out.below hB0)
  have HU0 := hide (HU.out.below hB0)
  clear hM0 hC0
  go_upto_region 2 with fail
  generalize (w.alloc (.cells #[.string s, .int .i64 (n : Int), .slice (some ⟨b, off, none⟩) K vc] 24)).alloc (.cells #[.int .i32 sg, .slice cp N cc] 47) = W0 at *
  refine wp_region_held_drew (S := fun W' => W'.cell? ⟨w.heap.size, 2, none⟩ = some (.slice (some ⟨b, off, none⟩) K vc) ∧ W'.cell? ⟨w.heap.size + 1, 1, none⟩ = some (.slice cp N cc)) (by kernel_rfl) ⟨c0, c1⟩ (fun hS => ?_)
  refine wpAnyH_take (i := 1) (v := .pointer (some ⟨w.heap.size, 2, none⟩)) rfl (by kernel_rfl) (by kernel_rfl) (by kernel_rfl) (fun _ _ _ h => h) (Or.inl ⟨by kernel_rfl, fun w' hS' => by obtain ⟨q0, q1⟩ := hS'; go_simp⟩) hS ?_
  refine wpAnyH_take (i := 2) (v := .slice (some ⟨b, off, none⟩) K vc) rfl (by kernel_rfl) (by kernel_rfl) (by kernel_rfl) (fun _ _ _ h => h) (Or.inl ⟨by kernel_rfl, fun w' hS' => by obtain ⟨q0, q1⟩ := hS'; go_simp⟩) hS ?_
  refine wpAnyH_take (i := 3) (v := .int .i64 (k : Int)) rfl (by kernel_rfl) (by kernel_rfl) (by kernel_rfl) (fun _ _ _ h => h) (Or.inl ⟨by kernel_rfl, fun w' hS' => by obtain ⟨q0, q1⟩ := hS'; go_simp⟩) hS ?_
  refine wpAnyH_take (i := 4) (v := .slice (some ⟨b, off, none⟩) k vc) rfl (by kernel_rfl) (by kernel_rfl) (by kernel_rfl) (fun _ _ _ h => h) (Or.inl ⟨by kernel_rfl, fun w' hS' => by obtain ⟨q0, q1⟩ := hS'; go_simp; (try omega)⟩) hS ?_
  refine wpAnyH_take (i := 6) (v := .pointer (some ⟨w.heap.size + 1, 1, none⟩)) rfl (by kernel_rfl) (by kernel_rfl) (by kernel_rfl) (fun _ _ _ h => h) (Or.inl ⟨by kernel_rfl, fun w' hS' => by obtain ⟨q0, q1⟩ := hS'; go_simp⟩) hS ?_
  refine wpAnyH_take (i := 7) (v := .slice cp N cc) rfl (by kernel_rfl) (by kernel_rfl) (by kernel_rfl) (fun _ _ _ h => h) (Or.inl ⟨by kernel_rfl, fun w' hS' => by obtain ⟨q0, q1⟩ := hS'; go_simp⟩) hS ?_
  refine wpAnyH_ready (rs := [0]) (by kernel_rfl) (by simp) ?_
  refine AllReadyH.cons rfl (fun K9 hK => ?_) AllReadyH.nil
  go_simp
  have hk1 : ∀ g, g < W0.heap.size → (W0.alloc (.cells #[] 26)).drew.heap[g]? = W0.heap[g]? := fun g hg => Below.heap_alloc W0 _ g hg
  have d0 : (W0.alloc (.cells #[] 26)).drew.cell? ⟨w.heap.size, 2, none⟩ = some (.slice (some ⟨b, off, none⟩) K vc) := by rw [← c0]; exact World.cell?_of_block (w := W0) (hk1 w.heap.size (by omega))
  have d1 : (W0.alloc (.cells #[] 26)).drew.cell? ⟨w.heap.size + 1, 1, none⟩ = some (.slice cp N cc) := by rw [← c1]; exact World.cell?_of_block (w := W0) (hk1 (w.heap.size + 1) (by omega))
  have hE : (W0.alloc (.cells #[] 26)).drew.ownsRow (w.heap.size + 1 + 1) 26 1 (.slice (some ⟨w.heap.size + 1 + 1, 0, none⟩) 0 0) 0 [] := by
    have := World.ownsRow_made (e := 26) (size := 1) W0 #[] 0 (Nat.le_refl W0.heap.size) (by decide) (by simp)
    rw [hs0] at this
    exact this
  have hB1 : Below w.heap.size w (W0.alloc (.cells #[] 26)).drew := (hB0.alloc (by omega) _).drew
  have hs1 : (W0.alloc (.cells #[] 26)).drew.heap.size = w.heap.size + 1 + 1 + 1 := by show (W0.alloc _).heap.size = _; simp; omega
  refine hK.out _ _ ⟨d0, d1⟩ (fun hS => ?_)
  clear hK
  generalize (W0.alloc (.cells #[] 26)).drew = W1 at *
  refine wpAnyH_ready (rs := [5]) (by kernel_rfl) (by simp) ?_
  refine AllReadyH.cons rfl (fun K9 hK => ?_) AllReadyH.nil
  have hl1 : (vs.take k).length = k := by rw [List.length_take, ← HLV.out]; omega
  refine step_append_vals rfl (.tmp 13) (.tmp 17) 22 rfl (w.heap.size + 1 + 1) 26 i0 (.slice none 0 0) 24 Try.underlying22 hi hz0 hz1 hz2 rfl (.slice (some ⟨w.heap.size + 1 + 1, 0, none⟩) 0 0) 0 [] rfl hE (.slice (some ⟨b, off, none⟩) k vc) (vs.take k) rfl (HV.out.below hB1) (fun u hu => h1 u (List.mem_of_mem_take hu)) (by rw [hl1]; unfold maxLen; omega) (by rw [hl1]; omega) (by omega) (fun v5 w5 hown5 hg5 => ?_)
  rw [hl1, Nat.zero_add, List.nil_append] at hown5
  have hob : (Value.slice (some ⟨w.heap.size + 1 + 1, 0, none⟩) 0 0).ownBlock = some (w.heap.size + 1 + 1) := rfl
  rw [hob] at hg5
  have hk5 : ∀ g, g < w.heap.size + 1 + 1 → w5.heap[g]? = W1.heap[g]? := fun g hg => hg5.block g (by omega) (fun e => by injection e with e; omega)
  have e0 : w5.cell? ⟨w.heap.size, 2, none⟩ = some (.slice (some ⟨b, off, none⟩) K vc) := by rw [← d0]; exact World.cell?_of_block (w := W1) (hk5 w.heap.size (by omega))
  have e1 : w5.cell? ⟨w.heap.size + 1, 1, none⟩ = some (.slice cp N cc) := by rw [← d1]; exact World.cell?_of_block (w := W1) (hk5 (w.heap.size + 1) (by omega))
  have hB5 : Below w.heap.size w w5 := hB1.grown hg5 (by omega) (fun g e => by injection e with e; omega)
  have hs5 := hg5.size
  refine hK.out _ _ ⟨e0, e1⟩ (fun hS => ?_)
  clear hK hE hg5
  refine wpAnyH_ready (rs := [8]) (by kernel_rfl) (by simp) ?_
  refine AllReadyH.cons rfl (fun K9 hK => ?_) AllReadyH.nil
  have hl2 : us.length = N := HLU.out.symm
  refine step_append_vals rfl (.tmp 18) (.tmp 20) 22 rfl (w.heap.size + 1 + 1) 26 i0 (.slice none 0 0) 24 Try.underlying22 hi hz0 hz1 hz2 rfl v5 k (vs.take k) rfl hown5 (.slice cp N cc) us rfl (HU.out.below hB5) h2 (by rw [hl2]; unfold maxLen; omega) (by rw [hl2]; omega) (by omega) (fun v6 w6 hown6 hg6 => ?_)
  rw [hl2] at hown6
  have hlow : ∀ g, v5.ownBlock = some g → w.heap.size + 1 + 1 ≤ g := fun g e => (hown5.lt g e).1
  have hk6 : ∀ g, g < w.heap.size + 1 + 1 → w6.heap[g]? = w5.heap[g]? := fun g hg => hg6.block g (by omega) (fun e => by have := hlow g e.symm; omega)
  have f0 : w6.cell? ⟨w.heap.size, 2, none⟩ = some (.slice (some ⟨b, off, none⟩) K vc) := by rw [← e0]; exact World.cell?_of_block (w := w5) (hk6 w.heap.size (by omega))
  have f1 : w6.cell? ⟨w.heap.size + 1, 1, none⟩ = some (.slice cp N cc) := by rw [← e1]; exact World.cell?_of_block (w := w5) (hk6 (w.heap.size + 1) (by omega))
  have hB6 : Below w.heap.size w w6 := hB5.grown hg6 (by omega) (fun g e => by have := hlow g e; omega)
  refine hK.out _ _ ⟨f0, f1⟩ (fun hS => ?_)
  clear hK hg6
  have HOW := hide hown6
  clear hown6 hown5
  refine wpAnyH_take (i := 9) (v := v6) rfl (by kernel_rfl) (by kernel_rfl) (by kernel_rfl) (fun _ _ _ h => h) (Or.inl ⟨by kernel_rfl, fun w' hS' => by obtain ⟨q0, q1⟩ := hS'; go_simp⟩) hS ?_
  refine wpAnyH_done (by kernel_rfl) ?_ _
  go_wp2
  go_ret
  exact ⟨_, rfl, HOW.out, hB6⟩

end Go.Proofs.Ytoiiadiimfohiaa

/- Contract: the answer's TouchRows. -/
namespace Go.Proofs.Ytoiiadiimfohiaa
open Go.RowKit
set_option maxRecDepth 20000
set_option linter.unusedVariables false

theorem frW_prd (n : Nat) (F A : List (List Bool)) (j : Nat) : frW (prd n F) A j = prd n (F ++ A.take j) := by
  unfold frW prd
  rw [List.foldl_append]

/-- A lead more. -/
theorem leadTo_more (n : Nat) (F A : List (List Bool)) {k : Nat} (hF : F.length = k) : leadTo n (F ++ A) (k + A.length) = leadTo n F k ++ (frL (prd n F) A A.length).drop 1 := by
  unfold leadTo frL
  rw [show k + A.length + 1 = (k + 1) + A.length from by omega, List.range_add, List.map_append]
  congr 1
  · refine List.map_congr_left (fun j hj => ?_)
    have hj' : j < k + 1 := by simpa using hj
    rw [List.take_append_of_le_length (by omega)]
  · rw [List.map_map]
    have : (List.range (A.length + 1)) = 0 :: (List.range A.length).map (fun j => j + 1) := by
      rw [List.range_succ_eq_map]
    rw [this, List.map_cons, List.drop_succ_cons, List.drop_zero, List.map_map]
    refine List.map_congr_left (fun j _ => ?_)
    show prd n ((F ++ A).take (k + 1 + j)) = frW (prd n F) A (j + 1)
    rw [frW_prd]
    congr 1
    rw [show k + 1 + j = F.length + (j + 1) from by omega, List.take_length_add_append]

theorem allOf_snoc (ts : List (List Bool)) (SS : List (List (List Bool))) (t : List Nat) (c : Nat) : allOf ts SS (nI (t ++ [c])) = allOf ts SS (nI t) ++ calledBy ts (SS.getD c []) := by
  simp [allOf, nI]

theorem take_snocN {t : List Nat} {k : Nat} (h : k < t.length) : t.take (k + 1) = t.take k ++ [t.getD k 0] := by
  rw [List.take_succ_eq_append_getElem h]
  simp [List.getD, List.getElem?_eq_getElem h]

theorem OwnAll.drop {w : World} {base : Nat} : ∀ {us : List Value} {xs : List (List Int)} (k : Nat), OwnAll w base us xs → OwnAll w base (us.drop k) (xs.drop k)
  | us, xs, 0, h => h
  | [], [], k + 1, _ => trivial
  | u :: us, x :: xs, k + 1, h => OwnAll.drop k h.2
  | [], _ :: _, _ + 1, h => h.elim
  | _ :: _, [], _ + 1, h => h.elim

end Go.Proofs.Ytoiiadiimfohiaa

/- Plain: the runes of a text as the answer reads them: -1 for a byte that is none. -/
namespace Go.Proofs.Ytoiiadiimfohiaa
open Go.RowKit Go.Lib

theorem get_piece (s : ByteArray) (p k : Nat) : (s.extract p s.size).get! k = s.get! (p + k) := by
  cases s with
  | mk d =>
    show ((ByteArray.mk d).extract p d.size).data[k]! = d[p + k]!
    rw [ByteArray.data_extract]
    by_cases h : p + k < d.size
    · rw [getElem!_pos d (p + k) h, getElem!_pos _ k (by simp; omega), Array.getElem_extract]
    · rw [getElem!_neg d (p + k) h, getElem!_neg _ k (by simp; omega)]

theorem decode_piece (s : ByteArray) (p : Nat) : Utf8.decode (s.extract p s.size) 0 = Utf8.decode s p := by
  rw [decode_at, decode_at]
  simp only [get_piece, ByteArray.size_extract, Nat.add_zero, Nat.zero_add, Nat.sub_zero, Nat.min_self]

theorem piece_piece (s : ByteArray) (p k : Nat) : (s.extract p s.size).extract k (s.extract p s.size).size = s.extract (p + k) s.size := by
  apply ByteArray.ext
  simp only [ByteArray.data_extract, ByteArray.size_extract, Nat.min_self]
  rw [Array.extract_extract]
  congr 1
  omega

/-- A rune as the answer tells it. -/
def ar (d : Nat × Nat) : Int := if d = (65533, 1) then -1 else (d.1 : Int)

theorem ar_bad {d : Nat × Nat} (h : d = (65533, 1)) : ar d = -1 := if_pos h
theorem ar_ok {d : Nat × Nat} {c k : Nat} (h : d = (c, k)) (hk : c ≠ 65533 ∨ k ≠ 1) : ar d = c := by
  subst h; unfold ar; rw [if_neg]; intro e; simp only [Prod.mk.injEq] at e; omega

set_option maxRecDepth 100000 in
set_option maxHeartbeats 4000000 in
theorem dec_lone (n b0 b1 b2 b3 : Nat) (h : (128 ≤ b0 ∧ b0 < 194) ∨ (245 ≤ b0 ∧ b0 < 256)) : decodeN n b0 b1 b2 b3 = (65533, 1) := by
  unfold decodeN
  repeat' split
  all_goals first | rfl | (exfalso; omega)

set_option maxRecDepth 100000 in
set_option maxHeartbeats 4000000 in
theorem dec_two (n b0 b1 b2 b3 : Nat) (h : 194 ≤ b0 ∧ b0 < 224) (h1 : b1 < 256) :
    decodeN n b0 b1 b2 b3 = if n < 2 ∨ (b1 < 128 ∨ 192 ≤ b1) then (65533, 1) else ((b0 - 192) * 64 + (b1 - 128), 2) := by
  unfold decodeN
  repeat' split
  all_goals first | rfl | (exfalso; omega) | (apply Prod.ext <;> simp only <;> omega)

set_option maxRecDepth 100000 in
set_option maxHeartbeats 8000000 in
theorem dec_three (n b0 b1 b2 b3 : Nat) (h : 224 ≤ b0 ∧ b0 < 240) (h1 : b1 < 256) (h2 : b2 < 256) (c : Nat) (hc : 128 ≤ b1 → 128 ≤ b2 → c = (b0 - 224) * 4096 + (b1 - 128) * 64 + (b2 - 128)) :
    decodeN n b0 b1 b2 b3 = if n < 3 ∨ (b1 < 128 ∨ 192 ≤ b1) ∨ (b2 < 128 ∨ 192 ≤ b2) ∨ (c < 2048 ∨ 1114111 < c ∨ (55296 ≤ c ∧ c < 57344)) then (65533, 1) else (c, 3) := by
  unfold decodeN
  repeat' split
  all_goals first | rfl | (exfalso; omega) | (apply Prod.ext <;> simp only <;> omega)

set_option maxRecDepth 100000 in
set_option maxHeartbeats 8000000 in
theorem dec_four (n b0 b1 b2 b3 : Nat) (h : 240 ≤ b0 ∧ b0 < 245) (h1 : b1 < 256) (h2 : b2 < 256) (h3 : b3 < 256) (c : Nat) (hc : 128 ≤ b1 → 128 ≤ b2 → 128 ≤ b3 → c = (b0 - 240) * 262144 + (b1 - 128) * 4096 + (b2 - 128) * 64 + (b3 - 128)) :
    decodeN n b0 b1 b2 b3 = if n < 4 ∨ (b1 < 128 ∨ 192 ≤ b1) ∨ (b2 < 128 ∨ 192 ≤ b2) ∨ (b3 < 128 ∨ 192 ≤ b3) ∨ (c < 65536 ∨ 1114111 < c ∨ (55296 ≤ c ∧ c < 57344)) then (65533, 1) else (c, 4) := by
  unfold decodeN
  repeat' split
  all_goals first | rfl | (exfalso; omega) | (apply Prod.ext <;> simp only <;> omega)

set_option maxRecDepth 100000 in
set_option maxHeartbeats 4000000 in
theorem dec_width (n b0 b1 b2 b3 : Nat) (hn : 1 ≤ n) : (decodeN n b0 b1 b2 b3).2 ≤ n ∧ 1 ≤ (decodeN n b0 b1 b2 b3).2 := by
  unfold decodeN
  repeat' split
  all_goals (simp only; omega)

theorem decode_width (s : ByteArray) (p : Nat) (h : p < s.size) : p + (Utf8.decode s p).2 ≤ s.size ∧ 1 ≤ (Utf8.decode s p).2 := by
  rw [decode_at]
  have := dec_width (s.size - p) (s.get! p).toNat (s.get! (p + 1)).toNat (s.get! (p + 2)).toNat (s.get! (p + 3)).toNat (by omega)
  omega

def arns (s : ByteArray) : Nat → Nat → List Int
  | 0, _ => []
  | f + 1, pos => if pos < s.size then ar (Utf8.decode s pos) :: arns s f (pos + (Utf8.decode s pos).2) else []

def arunes (s : ByteArray) : List Int := arns s s.size 0

theorem arns_length (s : ByteArray) : ∀ f pos, (arns s f pos).length = (rns s f pos).length
  | 0, _ => rfl
  | f + 1, pos => by
    have ih := arns_length s f (pos + (Utf8.decode s pos).2)
    unfold arns rns
    split
    · simp only [List.length_cons]; omega
    · rfl

theorem arunes_length (s : ByteArray) : (arunes s).length = (runesOf s).length := arns_length s _ _

/-- Rune by rune: the same, or -1 where the program has 65533. -/
theorem arns_at (s : ByteArray) : ∀ f pos j, j < (rns s f pos).length → (arns s f pos).getD j 0 = (((rns s f pos).getD j 0 : Nat) : Int) ∨ ((arns s f pos).getD j 0 = -1 ∧ (rns s f pos).getD j 0 = 65533)
  | 0, _, j, h => by simp [rns] at h
  | f + 1, pos, j, h => by
    unfold arns rns at *
    by_cases hp : pos < s.size
    · rw [if_pos hp] at h
      rw [if_pos hp, if_pos hp]
      match j with
      | 0 =>
        show ar (Utf8.decode s pos) = _ ∨ (ar (Utf8.decode s pos) = -1 ∧ (Utf8.decode s pos).1 = 65533)
        by_cases e : Utf8.decode s pos = (65533, 1)
        · exact Or.inr ⟨ar_bad e, by rw [e]⟩
        · exact Or.inl (by unfold ar; rw [if_neg e]; rfl)
      | j + 1 =>
        have := arns_at s f (pos + (Utf8.decode s pos).2) j (by simpa using h)
        simpa only [List.getD_cons_succ] using this
    · rw [if_neg hp] at h; simp at h

theorem arunes_at (s : ByteArray) (j : Nat) (h : j < (runesOf s).length) : (arunes s).getD j 0 = (((runesOf s).getD j 0 : Nat) : Int) ∨ ((arunes s).getD j 0 = -1 ∧ (runesOf s).getD j 0 = 65533) := arns_at s _ _ j h

/-- Runes up to a place, and the rest. -/
def ARunesTo (s : ByteArray) (pre : List Int) (pos : Nat) : Prop := ∃ f, s.size - pos ≤ f ∧ arunes s = pre ++ arns s f pos

theorem arunesTo_start (s : ByteArray) : ARunesTo s [] 0 := ⟨s.size, by omega, rfl⟩

theorem ARunesTo.next {s : ByteArray} {pre : List Int} {pos : Nat} (h : ARunesTo s pre pos) (hp : pos < s.size) : ARunesTo s (pre ++ [ar (Utf8.decode s pos)]) (pos + (Utf8.decode s pos).2) := by
  obtain ⟨f, hf, e⟩ := h
  have hw := (decode_width s pos hp).2
  match f, hf, e with
  | 0, hf, _ => omega
  | f + 1, hf, e =>
    refine ⟨f, by omega, ?_⟩
    rw [e, arns, if_pos hp, List.append_assoc, List.singleton_append]

theorem ARunesTo.done {s : ByteArray} {pre : List Int} {pos : Nat} (h : ARunesTo s pre pos) (hp : ¬ pos < s.size) : arunes s = pre := by
  obtain ⟨f, hf, e⟩ := h
  rw [e]
  cases f with
  | zero => simp [arns]
  | succ f => rw [arns, if_neg hp, List.append_nil]

theorem ARunesTo.len {s : ByteArray} {pre : List Int} {pos : Nat} (h : ARunesTo s pre pos) : pre.length ≤ s.size := by
  obtain ⟨f, hf, e⟩ := h
  have h1 := arunes_length s
  have h2 := runesOf_length s
  rw [e, List.length_append] at h1
  omega

end Go.Proofs.Ytoiiadiimfohiaa

/- Contract: the answer's runeAt. -/
namespace Go.Proofs.Ytoiiadiimfohiaa
open Go.RowKit
open Go.Lib (decodeN decode_at)

/-- What runeAt answers. -/
def raV (d : Nat × Nat) : Value := .tuple #[.int .i64 (ar d), .int .i64 ((d.2 : Nat) : Int)]

theorem raV_bad {d : Nat × Nat} (h : d = (65533, 1)) : raV d = .tuple #[.int .i64 (-1), .int .i64 1] := by subst h; rfl
theorem raV_ok {d : Nat × Nat} {c k : Nat} (h : d = (c, k)) (hk : c ≠ 65533 ∨ k ≠ 1) : raV d = .tuple #[.int .i64 (c : Int), .int .i64 (k : Int)] := by unfold raV; rw [ar_ok h hk, h]

theorem byte_get (s : ByteArray) (k : Nat) (hk : k < s.size) : (s[k]'hk) = s.get! k := by
  cases s with
  | mk d => exact (getElem!_pos d k hk).symm

theorem index_get (s : ByteArray) (k : Nat) (hk : k < s.size) (w : World) : (Instr.index 9 (.string s) (.int .i64 (k : Int))).run Try.prog w = .ok (.int .u8 (((s.get! k).toNat : Nat) : Int)) w := by
  rw [← byte_get s k hk]; exact index_byte s k hk w

set_option maxRecDepth 20000 in
set_option maxHeartbeats 4000000 in
theorem runeAt_one (s : ByteArray) (w : World) (h0 : 0 < s.size) (hc : (s.get! 0).toNat < 128) :
    Calls Try.prog 92 #[.string s] w fun e w' => e = .returned (raV (Utf8.decode s 0)) ∧ w = w' := by
  obtain ⟨g, hg⟩ : ∃ g : Nat → Nat, ∀ k, (s.get! k).toNat = g k := ⟨_, fun _ => rfl⟩
  have hix0 : ∀ w, (Instr.index 9 (.string s) (.int .i64 0)).run Try.prog w = .ok (.int .u8 ((g 0 : Nat) : Int)) w := fun w => by rw [← hg 0]; exact index_get s 0 h0 w
  have HIX : Hid (∀ k, k < s.size → ∀ w, (Instr.index 9 (.string s) (.int .i64 (k : Int))).run Try.prog w = .ok (.int .u8 ((g k : Nat) : Int)) w) := fun k hk w => by rw [← hg k]; exact index_get s k hk w
  have hb0 : g 0 < 256 := by rw [← hg 0]; exact UInt8.toNat_lt _
  have hb1 : g 1 < 256 := by rw [← hg 1]; exact UInt8.toNat_lt _
  have hb2 : g 2 < 256 := by rw [← hg 2]; exact UInt8.toNat_lt _
  have hb3 : g 3 < 256 := by rw [← hg 3]; exact UInt8.toNat_lt _
  have HD : Hid (Utf8.decode s 0 = decodeN s.size (g 0) (g 1) (g 2) (g 3)) := by show _ = _; rw [← hg 0, ← hg 1, ← hg 2, ← hg 3]; exact decode_at s 0
  generalize Utf8.decode s 0 = d at *
  rw [hg 0] at hc
  clear hg
  have HR : Hid (raV d = .tuple #[.int .i64 (g 0 : Int), .int .i64 1]) := by
    refine raV_ok (k := 1) ?_ (by omega)
    rw [HD.out]
    unfold decodeN
    rw [if_pos hc]
  clear HD hb1 hb2 hb3
  go_enter Try.func92, Try.ntmps92
  go_wp2
  go_ret2
  exact ⟨by rw [HR.out]; rfl, rfl⟩

set_option maxRecDepth 20000 in
set_option maxHeartbeats 4000000 in
theorem runeAt_none (s : ByteArray) (w : World) (h0 : 0 < s.size) (hc : (128 ≤ (s.get! 0).toNat ∧ (s.get! 0).toNat < 194) ∨ 245 ≤ (s.get! 0).toNat) :
    Calls Try.prog 92 #[.string s] w fun e w' => e = .returned (raV (Utf8.decode s 0)) ∧ w = w' := by
  obtain ⟨g, hg⟩ : ∃ g : Nat → Nat, ∀ k, (s.get! k).toNat = g k := ⟨_, fun _ => rfl⟩
  have hix0 : ∀ w, (Instr.index 9 (.string s) (.int .i64 0)).run Try.prog w = .ok (.int .u8 ((g 0 : Nat) : Int)) w := fun w => by rw [← hg 0]; exact index_get s 0 h0 w
  have HIX : Hid (∀ k, k < s.size → ∀ w, (Instr.index 9 (.string s) (.int .i64 (k : Int))).run Try.prog w = .ok (.int .u8 ((g k : Nat) : Int)) w) := fun k hk w => by rw [← hg k]; exact index_get s k hk w
  have hb0 : g 0 < 256 := by rw [← hg 0]; exact UInt8.toNat_lt _
  have hb1 : g 1 < 256 := by rw [← hg 1]; exact UInt8.toNat_lt _
  have hb2 : g 2 < 256 := by rw [← hg 2]; exact UInt8.toNat_lt _
  have hb3 : g 3 < 256 := by rw [← hg 3]; exact UInt8.toNat_lt _
  have HD : Hid (Utf8.decode s 0 = decodeN s.size (g 0) (g 1) (g 2) (g 3)) := by show _ = _; rw [← hg 0, ← hg 1, ← hg 2, ← hg 3]; exact decode_at s 0
  generalize Utf8.decode s 0 = d at *
  rw [hg 0] at hc
  clear hg
  have HR : Hid (raV d = .tuple #[.int .i64 (-1), .int .i64 1]) := by
    refine raV_bad ?_
    rw [HD.out]
    exact dec_lone _ _ _ _ _ (by omega)
  clear HD hb1 hb2 hb3
  rcases hc with ⟨hc1, hc2⟩ | hc
  · go_enter Try.func92, Try.ntmps92
    go_wp2
    go_ret2
    exact ⟨by rw [HR.out]; rfl, rfl⟩
  · go_enter Try.func92, Try.ntmps92
    go_wp2
    go_ret2
    exact ⟨by rw [HR.out]; rfl, rfl⟩

set_option maxRecDepth 20000 in
set_option maxHeartbeats 4000000 in
theorem runeAt_2 (s : ByteArray) (w : World) (h0 : 0 < s.size) (hm : s.size ≤ 9223372036854775807) (hc1 : 194 ≤ (s.get! 0).toNat) (hc2 : (s.get! 0).toNat < 224) :
    Calls Try.prog 92 #[.string s] w fun e w' => e = .returned (raV (Utf8.decode s 0)) ∧ w = w' := by
  obtain ⟨g, hg⟩ : ∃ g : Nat → Nat, ∀ k, (s.get! k).toNat = g k := ⟨_, fun _ => rfl⟩
  have hix0 : ∀ w, (Instr.index 9 (.string s) (.int .i64 0)).run Try.prog w = .ok (.int .u8 ((g 0 : Nat) : Int)) w := fun w => by rw [← hg 0]; exact index_get s 0 h0 w
  have HIX : Hid (∀ k, k < s.size → ∀ w, (Instr.index 9 (.string s) (.int .i64 (k : Int))).run Try.prog w = .ok (.int .u8 ((g k : Nat) : Int)) w) := fun k hk w => by rw [← hg k]; exact index_get s k hk w
  have hb0 : g 0 < 256 := by rw [← hg 0]; exact UInt8.toNat_lt _
  have hb1 : g 1 < 256 := by rw [← hg 1]; exact UInt8.toNat_lt _
  have hb2 : g 2 < 256 := by rw [← hg 2]; exact UInt8.toNat_lt _
  have hb3 : g 3 < 256 := by rw [← hg 3]; exact UInt8.toNat_lt _
  have HD : Hid (Utf8.decode s 0 = decodeN s.size (g 0) (g 1) (g 2) (g 3)) := by show _ = _; rw [← hg 0, ← hg 1, ← hg 2, ← hg 3]; exact decode_at s 0
  generalize Utf8.decode s 0 = d at *
  rw [hg 0] at hc1 hc2
  clear hg
  have HB : Hid ((∀ k, 0 < k → k < 2 → g k < 256)) := by
    intro k hk hk'
    have : k = 1 := by omega
    rcases this with rfl <;> assumption
  have HA : Hid (∀ k : Nat, True) := fun _ => trivial
  clear HA
  by_cases hl : s.size < 2
  · have HR : Hid (raV d = .tuple #[.int .i64 (-1), .int .i64 1]) := by
      refine raV_bad ?_
      rw [HD.out]
      have h := dec_two s.size (g 0) (g 1) (g 2) (g 3) ⟨hc1, hc2⟩ hb1
      rw [h, if_pos (Or.inl hl)]
    clear HD HB hb1 hb2 hb3
    go_enter Try.func92, Try.ntmps92
    go_wp2
    go_ret2
    exact ⟨by rw [HR.out]; rfl, rfl⟩
  have hl' : 2 ≤ s.size := by omega
  go_enter Try.func92, Try.ntmps92
  go_wp2
  go_loop [4, 7] (fun c i => ∃ k : Nat, i = .int .i64 k ∧ Hid ((k = 1 ∧ c = .int .i64 ((g 0 : Int) - 192) ∧ True) ∨ (k = 2 ∧ c = .int .i64 (((g 0 : Int) - 192) * 64 + g 1 - 128) ∧ (128 ≤ g 1 ∧ g 1 < 192)))) (fun _ i => 2 - (intOf i).toNat)
  case atStart => exact ⟨1, rfl, Or.inl ⟨rfl, rfl, trivial⟩⟩
  case round =>
    obtain ⟨k, rfl, hk⟩ := hrel
    rcases hk.out with ⟨rfl, rfl, hct⟩ | ⟨rfl, rfl, hct⟩
    · have hix : ∀ w, (Instr.index 9 (.string s) (.int .i64 1)).run Try.prog w = .ok (.int .u8 ((g 1 : Nat) : Int)) w := fun w => HIX.out 1 (by omega) w
      have hbk := HB.out 1 (by omega) (by omega)
      by_cases hq : g 1 < 128
      · have HR : Hid (raV d = .tuple #[.int .i64 (-1), .int .i64 1]) := by
          refine raV_bad ?_
          rw [HD.out]
          have h := dec_two s.size (g 0) (g 1) (g 2) (g 3) ⟨hc1, hc2⟩ hb1
          rw [h, if_pos (by omega)]
        clear HD HB hb1 hb2 hb3 HIX
        go_wp2
        go_ret2
        exact ⟨by rw [HR.out]; rfl, rfl⟩
      by_cases hq2 : 192 ≤ g 1
      · have HR : Hid (raV d = .tuple #[.int .i64 (-1), .int .i64 1]) := by
          refine raV_bad ?_
          rw [HD.out]
          have h := dec_two s.size (g 0) (g 1) (g 2) (g 3) ⟨hc1, hc2⟩ hb1
          rw [h, if_pos (by omega)]
        clear HD HB hb1 hb2 hb3 HIX
        go_wp2
        go_ret2
        exact ⟨by rw [HR.out]; rfl, rfl⟩
      have hq1 : 128 ≤ g 1 := by omega
      have hq3 : g 1 < 192 := by omega
      clear hq hq2 HD HB HIX
      go_wp2
      go_round
      case rel => exact ⟨_, _, _, _, ⟨2, rfl, Or.inr ((by refine ⟨rfl, ?_⟩; first | rfl | (refine ⟨rfl, ?_⟩; omega)))⟩, rfl, rfl, rfl, rfl⟩
      case measure => simp [intOf]
    · generalize hcc : (((g 0 : Int) - 192) * 64 + g 1 - 128) = c at *
      have HCC := hide hcc
      obtain ⟨cn, rfl⟩ : ∃ cn : Nat, c = cn := ⟨c.toNat, by omega⟩
      have HL : Hid (d = if s.size < 2 ∨ (g 1 < 128 ∨ 192 ≤ g 1) then (65533, 1) else ((g 0 - 192) * 64 + (g 1 - 128), 2)) := by
        show _ = _
        rw [HD.out]
        exact dec_two s.size (g 0) (g 1) (g 2) (g 3) ⟨hc1, hc2⟩ hb1
      have HR : Hid (raV d = .tuple #[.int .i64 (cn : Int), .int .i64 2]) := by
        refine raV_ok (k := 2) ?_ (by omega)
        rw [HL.out, if_neg (by omega), show (g 0 - 192) * 64 + (g 1 - 128) = cn from by omega]
      have hv1 : 128 ≤ cn := by omega
      have hv2 : cn ≤ 2047 := by omega
      clear HL HD HB HIX hct hcc
      go_wp2
      go_ret2
      exact ⟨by rw [HR.out]; rfl, rfl⟩

set_option maxRecDepth 20000 in
set_option maxHeartbeats 4000000 in
theorem runeAt_3 (s : ByteArray) (w : World) (h0 : 0 < s.size) (hm : s.size ≤ 9223372036854775807) (hc1 : 224 ≤ (s.get! 0).toNat) (hc2 : (s.get! 0).toNat < 240) :
    Calls Try.prog 92 #[.string s] w fun e w' => e = .returned (raV (Utf8.decode s 0)) ∧ w = w' := by
  obtain ⟨g, hg⟩ : ∃ g : Nat → Nat, ∀ k, (s.get! k).toNat = g k := ⟨_, fun _ => rfl⟩
  have hix0 : ∀ w, (Instr.index 9 (.string s) (.int .i64 0)).run Try.prog w = .ok (.int .u8 ((g 0 : Nat) : Int)) w := fun w => by rw [← hg 0]; exact index_get s 0 h0 w
  have HIX : Hid (∀ k, k < s.size → ∀ w, (Instr.index 9 (.string s) (.int .i64 (k : Int))).run Try.prog w = .ok (.int .u8 ((g k : Nat) : Int)) w) := fun k hk w => by rw [← hg k]; exact index_get s k hk w
  have hb0 : g 0 < 256 := by rw [← hg 0]; exact UInt8.toNat_lt _
  have hb1 : g 1 < 256 := by rw [← hg 1]; exact UInt8.toNat_lt _
  have hb2 : g 2 < 256 := by rw [← hg 2]; exact UInt8.toNat_lt _
  have hb3 : g 3 < 256 := by rw [← hg 3]; exact UInt8.toNat_lt _
  have HD : Hid (Utf8.decode s 0 = decodeN s.size (g 0) (g 1) (g 2) (g 3)) := by show _ = _; rw [← hg 0, ← hg 1, ← hg 2, ← hg 3]; exact decode_at s 0
  generalize Utf8.decode s 0 = d at *
  rw [hg 0] at hc1 hc2
  clear hg
  have HB : Hid ((∀ k, 0 < k → k < 3 → g k < 256)) := by
    intro k hk hk'
    have : k = 1 ∨ k = 2 := by omega
    rcases this with rfl | rfl <;> assumption
  have HA : Hid (∀ k : Nat, True) := fun _ => trivial
  clear HA
  by_cases hl : s.size < 3
  · have HR : Hid (raV d = .tuple #[.int .i64 (-1), .int .i64 1]) := by
      refine raV_bad ?_
      rw [HD.out]
      have h := dec_three s.size (g 0) (g 1) (g 2) (g 3) ⟨hc1, hc2⟩ hb1 hb2 _ (fun _ _ => rfl)
      rw [h, if_pos (Or.inl hl)]
    clear HD HB hb1 hb2 hb3
    go_enter Try.func92, Try.ntmps92
    go_wp2
    go_ret2
    exact ⟨by rw [HR.out]; rfl, rfl⟩
  have hl' : 3 ≤ s.size := by omega
  go_enter Try.func92, Try.ntmps92
  go_wp2
  go_loop [4, 7] (fun c i => ∃ k : Nat, i = .int .i64 k ∧ Hid ((k = 1 ∧ c = .int .i64 ((g 0 : Int) - 224) ∧ True) ∨ (k = 2 ∧ c = .int .i64 (((g 0 : Int) - 224) * 64 + g 1 - 128) ∧ (128 ≤ g 1 ∧ g 1 < 192)) ∨ (k = 3 ∧ c = .int .i64 ((((g 0 : Int) - 224) * 64 + g 1 - 128) * 64 + g 2 - 128) ∧ (128 ≤ g 1 ∧ g 1 < 192) ∧ (128 ≤ g 2 ∧ g 2 < 192)))) (fun _ i => 3 - (intOf i).toNat)
  case atStart => exact ⟨1, rfl, Or.inl ⟨rfl, rfl, trivial⟩⟩
  case round =>
    obtain ⟨k, rfl, hk⟩ := hrel
    rcases hk.out with ⟨rfl, rfl, hct⟩ | ⟨rfl, rfl, hct⟩ | ⟨rfl, rfl, hct⟩
    · have hix : ∀ w, (Instr.index 9 (.string s) (.int .i64 1)).run Try.prog w = .ok (.int .u8 ((g 1 : Nat) : Int)) w := fun w => HIX.out 1 (by omega) w
      have hbk := HB.out 1 (by omega) (by omega)
      by_cases hq : g 1 < 128
      · have HR : Hid (raV d = .tuple #[.int .i64 (-1), .int .i64 1]) := by
          refine raV_bad ?_
          rw [HD.out]
          have h := dec_three s.size (g 0) (g 1) (g 2) (g 3) ⟨hc1, hc2⟩ hb1 hb2 _ (fun _ _ => rfl)
          rw [h, if_pos (by omega)]
        clear HD HB hb1 hb2 hb3 HIX
        go_wp2
        go_ret2
        exact ⟨by rw [HR.out]; rfl, rfl⟩
      by_cases hq2 : 192 ≤ g 1
      · have HR : Hid (raV d = .tuple #[.int .i64 (-1), .int .i64 1]) := by
          refine raV_bad ?_
          rw [HD.out]
          have h := dec_three s.size (g 0) (g 1) (g 2) (g 3) ⟨hc1, hc2⟩ hb1 hb2 _ (fun _ _ => rfl)
          rw [h, if_pos (by omega)]
        clear HD HB hb1 hb2 hb3 HIX
        go_wp2
        go_ret2
        exact ⟨by rw [HR.out]; rfl, rfl⟩
      have hq1 : 128 ≤ g 1 := by omega
      have hq3 : g 1 < 192 := by omega
      clear hq hq2 HD HB HIX
      go_wp2
      go_round
      case rel => exact ⟨_, _, _, _, ⟨2, rfl, Or.inr (Or.inl (by refine ⟨rfl, ?_⟩; first | rfl | (refine ⟨rfl, ?_⟩; omega)))⟩, rfl, rfl, rfl, rfl⟩
      case measure => simp [intOf]
    · have hix : ∀ w, (Instr.index 9 (.string s) (.int .i64 2)).run Try.prog w = .ok (.int .u8 ((g 2 : Nat) : Int)) w := fun w => HIX.out 2 (by omega) w
      have hbk := HB.out 2 (by omega) (by omega)
      by_cases hq : g 2 < 128
      · have HR : Hid (raV d = .tuple #[.int .i64 (-1), .int .i64 1]) := by
          refine raV_bad ?_
          rw [HD.out]
          have h := dec_three s.size (g 0) (g 1) (g 2) (g 3) ⟨hc1, hc2⟩ hb1 hb2 _ (fun _ _ => rfl)
          rw [h, if_pos (by omega)]
        clear HD HB hb1 hb2 hb3 HIX
        go_wp2
        go_ret2
        exact ⟨by rw [HR.out]; rfl, rfl⟩
      by_cases hq2 : 192 ≤ g 2
      · have HR : Hid (raV d = .tuple #[.int .i64 (-1), .int .i64 1]) := by
          refine raV_bad ?_
          rw [HD.out]
          have h := dec_three s.size (g 0) (g 1) (g 2) (g 3) ⟨hc1, hc2⟩ hb1 hb2 _ (fun _ _ => rfl)
          rw [h, if_pos (by omega)]
        clear HD HB hb1 hb2 hb3 HIX
        go_wp2
        go_ret2
        exact ⟨by rw [HR.out]; rfl, rfl⟩
      have hq1 : 128 ≤ g 2 := by omega
      have hq3 : g 2 < 192 := by omega
      clear hq hq2 HD HB HIX
      go_wp2
      go_round
      case rel => exact ⟨_, _, _, _, ⟨3, rfl, Or.inr (Or.inr ((by refine ⟨rfl, ?_⟩; first | rfl | (refine ⟨rfl, ?_⟩; omega))))⟩, rfl, rfl, rfl, rfl⟩
      case measure => simp [intOf]
    · generalize hcc : ((((g 0 : Int) - 224) * 64 + g 1 - 128) * 64 + g 2 - 128) = c at *
      have HCC := hide hcc
      obtain ⟨cn, rfl⟩ : ∃ cn : Nat, c = cn := ⟨c.toNat, by omega⟩
      have HL : Hid (d = if s.size < 3 ∨ (g 1 < 128 ∨ 192 ≤ g 1) ∨ (g 2 < 128 ∨ 192 ≤ g 2) ∨ (cn < 2048 ∨ 1114111 < cn ∨ (55296 ≤ cn ∧ cn < 57344)) then (65533, 1) else (cn, 3)) := by
        show _ = _
        rw [HD.out]
        exact dec_three s.size (g 0) (g 1) (g 2) (g 3) ⟨hc1, hc2⟩ hb1 hb2 cn (fun _ _ => by omega)
      have hcase : cn < 2048 ∨ (2048 ≤ cn ∧ cn < 55296) ∨ (2048 ≤ cn ∧ 55296 ≤ cn ∧ cn < 57344) ∨ (2048 ≤ cn ∧ 57344 ≤ cn ∧ cn ≤ 1114111) := by omega
      rcases hcase with hv | ⟨hv, hv2⟩ | ⟨hv, hv2, hv3⟩ | ⟨hv, hv2, hv3⟩
      · have HR : Hid (raV d = .tuple #[.int .i64 (-1), .int .i64 1]) := by
          refine raV_bad ?_
          rw [HL.out, if_pos (by omega)]
        clear HL HD HB HIX hct hcc
        go_wp2
        go_ret2
        exact ⟨by rw [HR.out]; rfl, rfl⟩
      · have HR : Hid (raV d = .tuple #[.int .i64 (cn : Int), .int .i64 3]) := by
          refine raV_ok (k := 3) ?_ (by omega)
          rw [HL.out, if_neg (by omega)]
        clear HL HD HB HIX hct hcc
        go_wp2
        go_ret2
        exact ⟨by rw [HR.out]; rfl, rfl⟩
      · have HR : Hid (raV d = .tuple #[.int .i64 (-1), .int .i64 1]) := by
          refine raV_bad ?_
          rw [HL.out, if_pos (by omega)]
        clear HL HD HB HIX hct hcc
        go_wp2
        go_ret2
        exact ⟨by rw [HR.out]; rfl, rfl⟩
      · have HR : Hid (raV d = .tuple #[.int .i64 (cn : Int), .int .i64 3]) := by
          refine raV_ok (k := 3) ?_ (by omega)
          rw [HL.out, if_neg (by omega)]
        clear HL HD HB HIX hct hcc
        go_wp2
        go_ret2
        exact ⟨by rw [HR.out]; rfl, rfl⟩

set_option maxRecDepth 20000 in
set_option maxHeartbeats 4000000 in
theorem runeAt_4 (s : ByteArray) (w : World) (h0 : 0 < s.size) (hm : s.size ≤ 9223372036854775807) (hc1 : 240 ≤ (s.get! 0).toNat) (hc2 : (s.get! 0).toNat < 245) :
    Calls Try.prog 92 #[.string s] w fun e w' => e = .returned (raV (Utf8.decode s 0)) ∧ w = w' := by
  obtain ⟨g, hg⟩ : ∃ g : Nat → Nat, ∀ k, (s.get! k).toNat = g k := ⟨_, fun _ => rfl⟩
  have hix0 : ∀ w, (Instr.index 9 (.string s) (.int .i64 0)).run Try.prog w = .ok (.int .u8 ((g 0 : Nat) : Int)) w := fun w => by rw [← hg 0]; exact index_get s 0 h0 w
  have HIX : Hid (∀ k, k < s.size → ∀ w, (Instr.index 9 (.string s) (.int .i64 (k : Int))).run Try.prog w = .ok (.int .u8 ((g k : Nat) : Int)) w) := fun k hk w => by rw [← hg k]; exact index_get s k hk w
  have hb0 : g 0 < 256 := by rw [← hg 0]; exact UInt8.toNat_lt _
  have hb1 : g 1 < 256 := by rw [← hg 1]; exact UInt8.toNat_lt _
  have hb2 : g 2 < 256 := by rw [← hg 2]; exact UInt8.toNat_lt _
  have hb3 : g 3 < 256 := by rw [← hg 3]; exact UInt8.toNat_lt _
  have HD : Hid (Utf8.decode s 0 = decodeN s.size (g 0) (g 1) (g 2) (g 3)) := by show _ = _; rw [← hg 0, ← hg 1, ← hg 2, ← hg 3]; exact decode_at s 0
  generalize Utf8.decode s 0 = d at *
  rw [hg 0] at hc1 hc2
  clear hg
  have HB : Hid ((∀ k, 0 < k → k < 4 → g k < 256)) := by
    intro k hk hk'
    have : k = 1 ∨ k = 2 ∨ k = 3 := by omega
    rcases this with rfl | rfl | rfl <;> assumption
  have HA : Hid (∀ k : Nat, True) := fun _ => trivial
  clear HA
  by_cases hl : s.size < 4
  · have HR : Hid (raV d = .tuple #[.int .i64 (-1), .int .i64 1]) := by
      refine raV_bad ?_
      rw [HD.out]
      have h := dec_four s.size (g 0) (g 1) (g 2) (g 3) ⟨hc1, hc2⟩ hb1 hb2 hb3 _ (fun _ _ _ => rfl)
      rw [h, if_pos (Or.inl hl)]
    clear HD HB hb1 hb2 hb3
    go_enter Try.func92, Try.ntmps92
    go_wp2
    go_ret2
    exact ⟨by rw [HR.out]; rfl, rfl⟩
  have hl' : 4 ≤ s.size := by omega
  go_enter Try.func92, Try.ntmps92
  go_wp2
  go_loop [4, 7] (fun c i => ∃ k : Nat, i = .int .i64 k ∧ Hid ((k = 1 ∧ c = .int .i64 ((g 0 : Int) - 240) ∧ True) ∨ (k = 2 ∧ c = .int .i64 (((g 0 : Int) - 240) * 64 + g 1 - 128) ∧ (128 ≤ g 1 ∧ g 1 < 192)) ∨ (k = 3 ∧ c = .int .i64 ((((g 0 : Int) - 240) * 64 + g 1 - 128) * 64 + g 2 - 128) ∧ (128 ≤ g 1 ∧ g 1 < 192) ∧ (128 ≤ g 2 ∧ g 2 < 192)) ∨ (k = 4 ∧ c = .int .i64 (((((g 0 : Int) - 240) * 64 + g 1 - 128) * 64 + g 2 - 128) * 64 + g 3 - 128) ∧ (128 ≤ g 1 ∧ g 1 < 192) ∧ (128 ≤ g 2 ∧ g 2 < 192) ∧ (128 ≤ g 3 ∧ g 3 < 192)))) (fun _ i => 4 - (intOf i).toNat)
  case atStart => exact ⟨1, rfl, Or.inl ⟨rfl, rfl, trivial⟩⟩
  case round =>
    obtain ⟨k, rfl, hk⟩ := hrel
    rcases hk.out with ⟨rfl, rfl, hct⟩ | ⟨rfl, rfl, hct⟩ | ⟨rfl, rfl, hct⟩ | ⟨rfl, rfl, hct⟩
    · have hix : ∀ w, (Instr.index 9 (.string s) (.int .i64 1)).run Try.prog w = .ok (.int .u8 ((g 1 : Nat) : Int)) w := fun w => HIX.out 1 (by omega) w
      have hbk := HB.out 1 (by omega) (by omega)
      by_cases hq : g 1 < 128
      · have HR : Hid (raV d = .tuple #[.int .i64 (-1), .int .i64 1]) := by
          refine raV_bad ?_
          rw [HD.out]
          have h := dec_four s.size (g 0) (g 1) (g 2) (g 3) ⟨hc1, hc2⟩ hb1 hb2 hb3 _ (fun _ _ _ => rfl)
          rw [h, if_pos (by omega)]
        clear HD HB hb1 hb2 hb3 HIX
        go_wp2
        go_ret2
        exact ⟨by rw [HR.out]; rfl, rfl⟩
      by_cases hq2 : 192 ≤ g 1
      · have HR : Hid (raV d = .tuple #[.int .i64 (-1), .int .i64 1]) := by
          refine raV_bad ?_
          rw [HD.out]
          have h := dec_four s.size (g 0) (g 1) (g 2) (g 3) ⟨hc1, hc2⟩ hb1 hb2 hb3 _ (fun _ _ _ => rfl)
          rw [h, if_pos (by omega)]
        clear HD HB hb1 hb2 hb3 HIX
        go_wp2
        go_ret2
        exact ⟨by rw [HR.out]; rfl, rfl⟩
      have hq1 : 128 ≤ g 1 := by omega
      have hq3 : g 1 < 192 := by omega
      clear hq hq2 HD HB HIX
      go_wp2
      go_round
      case rel => exact ⟨_, _, _, _, ⟨2, rfl, Or.inr (Or.inl (by refine ⟨rfl, ?_⟩; first | rfl | (refine ⟨rfl, ?_⟩; omega)))⟩, rfl, rfl, rfl, rfl⟩
      case measure => simp [intOf]
    · have hix : ∀ w, (Instr.index 9 (.string s) (.int .i64 2)).run Try.prog w = .ok (.int .u8 ((g 2 : Nat) : Int)) w := fun w => HIX.out 2 (by omega) w
      have hbk := HB.out 2 (by omega) (by omega)
      by_cases hq : g 2 < 128
      · have HR : Hid (raV d = .tuple #[.int .i64 (-1), .int .i64 1]) := by
          refine raV_bad ?_
          rw [HD.out]
          have h := dec_four s.size (g 0) (g 1) (g 2) (g 3) ⟨hc1, hc2⟩ hb1 hb2 hb3 _ (fun _ _ _ => rfl)
          rw [h, if_pos (by omega)]
        clear HD HB hb1 hb2 hb3 HIX
        go_wp2
        go_ret2
        exact ⟨by rw [HR.out]; rfl, rfl⟩
      by_cases hq2 : 192 ≤ g 2
      · have HR : Hid (raV d = .tuple #[.int .i64 (-1), .int .i64 1]) := by
          refine raV_bad ?_
          rw [HD.out]
          have h := dec_four s.size (g 0) (g 1) (g 2) (g 3) ⟨hc1, hc2⟩ hb1 hb2 hb3 _ (fun _ _ _ => rfl)
          rw [h, if_pos (by omega)]
        clear HD HB hb1 hb2 hb3 HIX
        go_wp2
        go_ret2
        exact ⟨by rw [HR.out]; rfl, rfl⟩
      have hq1 : 128 ≤ g 2 := by omega
      have hq3 : g 2 < 192 := by omega
      clear hq hq2 HD HB HIX
      go_wp2
      go_round
      case rel => exact ⟨_, _, _, _, ⟨3, rfl, Or.inr (Or.inr (Or.inl (by refine ⟨rfl, ?_⟩; first | rfl | (refine ⟨rfl, ?_⟩; omega))))⟩, rfl, rfl, rfl, rfl⟩
      case measure => simp [intOf]
    · have hix : ∀ w, (Instr.index 9 (.string s) (.int .i64 3)).run Try.prog w = .ok (.int .u8 ((g 3 : Nat) : Int)) w := fun w => HIX.out 3 (by omega) w
      have hbk := HB.out 3 (by omega) (by omega)
      by_cases hq : g 3 < 128
      · have HR : Hid (raV d = .tuple #[.int .i64 (-1), .int .i64 1]) := by
          refine raV_bad ?_
          rw [HD.out]
          have h := dec_four s.size (g 0) (g 1) (g 2) (g 3) ⟨hc1, hc2⟩ hb1 hb2 hb3 _ (fun _ _ _ => rfl)
          rw [h, if_pos (by omega)]
        clear HD HB hb1 hb2 hb3 HIX
        go_wp2
        go_ret2
        exact ⟨by rw [HR.out]; rfl, rfl⟩
      by_cases hq2 : 192 ≤ g 3
      · have HR : Hid (raV d = .tuple #[.int .i64 (-1), .int .i64 1]) := by
          refine raV_bad ?_
          rw [HD.out]
          have h := dec_four s.size (g 0) (g 1) (g 2) (g 3) ⟨hc1, hc2⟩ hb1 hb2 hb3 _ (fun _ _ _ => rfl)
          rw [h, if_pos (by omega)]
        clear HD HB hb1 hb2 hb3 HIX
        go_wp2
        go_ret2
        exact ⟨by rw [HR.out]; rfl, rfl⟩
      have hq1 : 128 ≤ g 3 := by omega
      have hq3 : g 3 < 192 := by omega
      clear hq hq2 HD HB HIX
      go_wp2
      go_round
      case rel => exact ⟨_, _, _, _, ⟨4, rfl, Or.inr (Or.inr (Or.inr ((by refine ⟨rfl, ?_⟩; first | rfl | (refine ⟨rfl, ?_⟩; omega)))))⟩, rfl, rfl, rfl, rfl⟩
      case measure => simp [intOf]
    · generalize hcc : (((((g 0 : Int) - 240) * 64 + g 1 - 128) * 64 + g 2 - 128) * 64 + g 3 - 128) = c at *
      have HCC := hide hcc
      obtain ⟨cn, rfl⟩ : ∃ cn : Nat, c = cn := ⟨c.toNat, by omega⟩
      have HL : Hid (d = if s.size < 4 ∨ (g 1 < 128 ∨ 192 ≤ g 1) ∨ (g 2 < 128 ∨ 192 ≤ g 2) ∨ (g 3 < 128 ∨ 192 ≤ g 3) ∨ (cn < 65536 ∨ 1114111 < cn ∨ (55296 ≤ cn ∧ cn < 57344)) then (65533, 1) else (cn, 4)) := by
        show _ = _
        rw [HD.out]
        exact dec_four s.size (g 0) (g 1) (g 2) (g 3) ⟨hc1, hc2⟩ hb1 hb2 hb3 cn (fun _ _ _ => by omega)
      have hcase : cn < 65536 ∨ (65536 ≤ cn ∧ cn ≤ 1114111) ∨ (65536 ≤ cn ∧ 1114111 < cn) := by omega
      rcases hcase with hv | ⟨hv, hv2⟩ | ⟨hv, hv2⟩
      · have HR : Hid (raV d = .tuple #[.int .i64 (-1), .int .i64 1]) := by
          refine raV_bad ?_
          rw [HL.out, if_pos (by omega)]
        clear HL HD HB HIX hct hcc
        go_wp2
        go_ret2
        exact ⟨by rw [HR.out]; rfl, rfl⟩
      · have hv3 : 57344 ≤ cn := by omega
        have HR : Hid (raV d = .tuple #[.int .i64 (cn : Int), .int .i64 4]) := by
          refine raV_ok (k := 4) ?_ (by omega)
          rw [HL.out, if_neg (by omega)]
        clear HL HD HB HIX hct hcc
        go_wp2
        go_ret2
        exact ⟨by rw [HR.out]; rfl, rfl⟩
      · have HR : Hid (raV d = .tuple #[.int .i64 (-1), .int .i64 1]) := by
          refine raV_bad ?_
          rw [HL.out, if_pos (by omega)]
        clear HL HD HB HIX hct hcc
        go_wp2
        go_ret2
        exact ⟨by rw [HR.out]; rfl, rfl⟩

theorem runeAt_any (s : ByteArray) (w : World) (h0 : 0 < s.size) (hm : s.size ≤ 9223372036854775807) :
    Calls Try.prog 92 #[.string s] w fun e w' => e = .returned (raV (Utf8.decode s 0)) ∧ w = w' := by
  have hcase : (s.get! 0).toNat < 128 ∨ ((128 ≤ (s.get! 0).toNat ∧ (s.get! 0).toNat < 194) ∨ 245 ≤ (s.get! 0).toNat) ∨ (194 ≤ (s.get! 0).toNat ∧ (s.get! 0).toNat < 224) ∨ (224 ≤ (s.get! 0).toNat ∧ (s.get! 0).toNat < 240) ∨ (240 ≤ (s.get! 0).toNat ∧ (s.get! 0).toNat < 245) := by omega
  rcases hcase with h | h | ⟨h1, h2⟩ | ⟨h1, h2⟩ | ⟨h1, h2⟩
  · exact runeAt_one s w h0 h
  · exact runeAt_none s w h0 h
  · exact runeAt_2 s w h0 hm h1 h2
  · exact runeAt_3 s w h0 hm h1 h2
  · exact runeAt_4 s w h0 hm h1 h2

end Go.Proofs.Ytoiiadiimfohiaa

/- Contracts: strings.IndexByte, unicode/utf8.ValidRune, strings.IndexRune at the signs. -/
namespace Go.Proofs.Ytoiiadiimfohiaa
open Go.RowKit
set_option maxRecDepth 20000

theorem indexByte_none' : ∀ (l : List UInt8) (c : UInt8), (∀ b ∈ l, b ≠ c) → Go.Lib.indexByte l c = -1
  | [], _, _ => rfl
  | b :: l, c, h => by
    have h1 : (b == c) = false := by rw [beq_eq_false_iff_ne]; exact h b (by simp)
    have h2 := indexByte_none' l c (fun b hb => h b (List.mem_cons_of_mem _ hb))
    simp [Go.Lib.indexByte, h1, h2]

/-- Which sign a rune is; -1: none. -/
def si (c : Nat) : Int := if c < 128 then Go.Lib.indexByte [49, 50, 51, 52, 53, 54, 55, 56, 57, 48, 69, 84] c.toUInt8 else -1

end Go.Proofs.Ytoiiadiimfohiaa

/- Contracts: the answer's runes, bell. -/
namespace Go.Proofs.Ytoiiadiimfohiaa
open Go.RowKit

/-- A string's length. -/
def strLen : Value → Nat
  | .string s => s.size
  | _ => 0

theorem whole_str (s : ByteArray) : s.extract 0 s.size = s := by
  apply ByteArray.ext
  simp only [ByteArray.data_extract]
  exact Array.extract_size

set_option maxRecDepth 20000 in
set_option maxHeartbeats 4000000 in
theorem runes_any (s : ByteArray) (w : World) (hs : s.size ≤ 1048576) :
    Calls Try.prog 64 #[.string s] w fun e w' => ∃ v, e = .returned v ∧ w'.ownsRow w.heap.size 3 1 v (arunes s).length ((arunes s).map (Value.int .i64)) ∧ Below w.heap.size w w' := by
  obtain ⟨i0, hi, hz0, hz1, hz2⟩ := info_parts Try.info3
  go_enter Try.func64, Try.ntmps64
  go_wp2
  go_loopw [0, 3] (fun t v wr => ∃ (pos : Nat) (pre : List Int), pos ≤ s.size ∧ Hid (t = .string (s.extract pos s.size)) ∧ Hid (ARunesTo s pre pos) ∧ wr.ownsRow w.heap.size 3 1 v pre.length (pre.map (Value.int .i64)) ∧ Below w.heap.size w wr) (fun t _ _ => strLen t)
  case atStart => exact ⟨0, [], by omega, by show _ = _; rw [whole_str], arunesTo_start s, World.ownsRow_nil _ _ _ _, Below.refl _ _⟩
  case round =>
    obtain ⟨pos, pre, hpos, ht, hA, hown, hbw⟩ := hrel
    have ht' := ht.out
    clear ht
    subst ht'
    have hbs := hbw.size
    have hpl := hA.out.len
    have hts : (s.extract pos s.size).size = s.size - pos := by simp
    have HP := hide (fun k => piece_piece s pos k)
    by_cases hlt : pos < s.size
    · have HDE := hide (decode_piece s pos)
      have hdw := decode_width s pos hlt
      have HN := hide (hA.out.next hlt)
      generalize hT : s.extract pos s.size = t at *
      have HR := hide (runeAt_any t wr (by omega) (by omega))
      rw [HDE.out] at HR
      unfold raV at HR
      generalize Utf8.decode s pos = d at *
      generalize ar d = c at *
      obtain ⟨d1, k⟩ := d
      simp only at hdw HN HR
      clear hA HDE hT
      go_wp2_with fail
      refine HR.out.mono ?_
      rintro e w1 ⟨rfl, rfl⟩
      go_wp2_with (at_builtin; refine wpList_append_own _ rfl _ _ 26 rfl w.heap.size 3 i0 (.int .i64 0) 1 8 Try.underlying26 hi hz0 hz1 hz2 rfl (by decide) _ _ _ rfl (hown.alloc _) ⟨wr.heap.size, 0, none⟩ 1 1 [.int .i64 c] rfl rfl ?c1 ?c2 ?c3 ?c4 ?c5 ?_)
      case c1 => exact cell_one_new _ _ _
      case c2 => intro u hu; simp at hu; subst hu; rfl
      case c3 => unfold maxLen; omega
      case c4 => omega
      case c5 => simp; omega
      · intro v' w1 hown' hgrow _
        have hBn := (hbw.alloc hbw.size (.cells #[.int .i64 c] 3)).grown hgrow (by simp; omega) (fun g hg => (hown.lt g hg).1)
        have HOW : Hid (w1.ownsRow w.heap.size 3 1 v' (pre ++ [c]).length ((pre ++ [c]).map (Value.int .i64))) := by
          show World.ownsRow _ _ _ _ _ _ _
          rw [List.length_append, List.map_append]; exact hown'
        have hk1 : k ≤ t.size := by omega
        have hk2 : (k : Int).toNat = k := by omega
        clear hown hown' hgrow
        go_wp2
        go_roundw
        case rel => exact ⟨pos + k, pre ++ [c], by omega, by show _ = _; rw [← HP.out k, hts], HN, HOW.out, hBn⟩
        case measure => simp [strLen]; omega
    · generalize s.extract pos s.size = t at *
      have HE : Hid (arunes s = pre) := hA.out.done hlt
      have ht0 : t.size = 0 := by omega
      clear hA
      go_wp2
      go_ret
      exact ⟨_, rfl, by rw [HE.out]; exact hown, hbw⟩

set_option maxRecDepth 100000 in
theorem si_bl : ∀ c : Fin 128, si c.val = if bl c.val.toUInt8 < 12 then ((bl c.val.toUInt8 : Nat) : Int) else -1 := by decide

theorem si_high {c : Nat} (h : 127 < c) : si c = -1 := by unfold si; rw [if_neg (by omega)]

/-- The bell of a rune, as the answer tells it. -/
def sa (c : Int) : Int := if 0 ≤ c then si c.toNat else -1

end Go.Proofs.Ytoiiadiimfohiaa
