/- Joined: TtH, TtI, TtM, AppV, TtN, TrE, RowAt, Lead, TrK, TtD, TtO, TtA, Eql, Mirr, MirM. -/
import Derived.Test.YtenpkhalgkodbaaDoorJ5
import Derived.Test.YtenpkhalgkodbaaDoorJ11
import Derived.Shelf.Spec.SlicesGrow
import Derived.Test.YtenpkhalgkodbaaDoorJ4
import Derived.Test.YtenpkhalgkodbaaDoorJ6
import Derived.Test.YtenpkhalgkodbaaDoorJ3
/- Contract: the answer's CallsOf. -/
namespace Go.Proofs.YtenpkhalgkodbaaDoor
open Go.RowKit

/-- A call in the making: its sign, its changes as a value, and as lists. -/
structure Ce where
  sign : Int
  val : Value
  chs : List (List Int)

def ceCells (es : List Ce) : List Value := es.flatMap (fun e => [.int .i32 e.sign, e.val])

theorem ceCells_length (es : List Ce) : (ceCells es).length = es.length * 2 := by
  unfold ceCells
  rw [List.length_flatMap]
  show (es.map (fun _ => 2)).sum = _
  exact sum_const 2 es

theorem ceCells_snoc (es : List Ce) (e : Ce) : ceCells (es ++ [e]) = ceCells es ++ [.int .i32 e.sign, e.val] := by simp [ceCells, List.flatMap_append]

def sgnOf (k : Nat) : Int := if k = 0 then 112 else 97 + k

/-- What is known of calls that were made. -/
structure Cok (n : Nat) (w : World) (base : Nat) (es : List Ce) : Prop where
  ll : ∀ e, e ∈ es → ∃ vs, LL w base e.val vs e.chs
  sign : ∀ k, k < es.length → (es.getD k ⟨0, undef, []⟩).sign = sgnOf k
  few : ∀ e, e ∈ es → e.chs.length ≤ 1
  ok : ∀ e, e ∈ es → ∀ j, j < e.chs.length → okc n 0 (e.chs.getD j []) = true

theorem Cok.snoc {n : Nat} {w : World} {base : Nat} {es : List Ce} (h : Cok n w base es) (e : Ce) (h1 : ∃ vs, LL w base e.val vs e.chs) (h2 : e.sign = sgnOf es.length) (h3 : e.chs.length ≤ 1) (h4 : ∀ j, j < e.chs.length → okc n 0 (e.chs.getD j []) = true) : Cok n w base (es ++ [e]) := by
  refine ⟨fun x hx => ?_, fun k hk => ?_, fun x hx => ?_, fun x hx => ?_⟩
  · rcases List.mem_append.1 hx with hx | hx
    · exact h.ll x hx
    · rw [List.mem_singleton] at hx; rw [hx]; exact h1
  · rw [List.length_append] at hk
    by_cases hlt : k < es.length
    · rw [List.getD_eq_getElem?_getD, List.getElem?_append_left hlt, ← List.getD_eq_getElem?_getD]
      exact h.sign k hlt
    · have : k = es.length := by simp at hk; omega
      subst this
      rw [List.getD_eq_getElem?_getD, List.getElem?_append_right (Nat.le_refl _), Nat.sub_self]
      exact h2
  · rcases List.mem_append.1 hx with hx | hx
    · exact h.few x hx
    · rw [List.mem_singleton] at hx; rw [hx]; exact h3
  · rcases List.mem_append.1 hx with hx | hx
    · exact h.ok x hx
    · rw [List.mem_singleton] at hx; rw [hx]; exact h4

theorem Cok.mono {n : Nat} {w w' : World} {base : Nat} {es : List Ce} (h : Cok n w base es) (hm : ∀ v vs xss, LL w base v vs xss → LL w' base v vs xss) : Cok n w' base es :=
  ⟨fun e he => by obtain ⟨vs, h1⟩ := h.ll e he; exact ⟨vs, hm _ _ _ h1⟩, h.sign, h.few, h.ok⟩

/-- As calls. -/
def ceCalls (es : List Ce) : List (Int × List (List Int)) := es.map (fun e => (e.sign, e.chs))

theorem Cok.calls {n : Nat} {w : World} {base : Nat} {es : List Ce} {u : Value} (h : Cok n w base es) (hr : w.ownsRow base 50 2 u es.length (ceCells es)) (h1 : 1 ≤ es.length) : CallsAt w u (ceCalls es) := by
  have hl : (ceCalls es).length = es.length := by simp [ceCalls]
  rcases hr.2 with ⟨_, h0⟩ | ⟨g, cap, cur, hu, hg, hh, hc, hm, _⟩
  · omega
  refine ⟨g, 0, cap, by rw [hl]; exact hu, (Array.getElem?_eq_some_iff.1 hh).1, by rw [hl]; exact hc, by unfold maxLen at hm; omega, fun k hk => ?_⟩
  rw [hl] at hk
  have hcell : ∀ j v, (ceCells es)[j]? = some v → w.cell? ⟨g, 0 + j, none⟩ = some v := fun j v hj => by
    have := hr.cells (g := g) (by rw [hu]; rfl) j v hj
    rw [Addr.add_lit] at this
    exact this
  have e0 : (ceCells es)[k * 2 + 0]? = some (.int .i32 es[k].sign) := by
    unfold ceCells
    rw [flat_get _ 2 (fun _ => rfl) es k 0 hk (by decide)]
    rfl
  have e1 : (ceCells es)[k * 2 + 1]? = some es[k].val := by
    unfold ceCells
    rw [flat_get _ 2 (fun _ => rfl) es k 1 hk (by decide)]
    rfl
  have eg : (ceCalls es).getD k (0, []) = (es[k].sign, es[k].chs) := by simp [ceCalls, List.getD, hk]
  obtain ⟨vs, hll⟩ := h.ll es[k] (List.getElem_mem hk)
  rw [eg]
  refine ⟨es[k].val, hcell _ _ e0, ?_, hll.ints⟩
  have := hcell _ _ e1
  rwa [← Nat.add_assoc] at this

end Go.Proofs.YtenpkhalgkodbaaDoor

/- Contract: the answer's CallsOf. -/
namespace Go.Proofs.YtenpkhalgkodbaaDoor
open Go.RowKit

theorem Tryd.info50 : (Tryd.prog.info? 50).map (fun i => (i.zero, i.size, i.bytes)) = some (some (.agg #[.int .i32 0, .slice none 0 0]), 2, 32) := by kernel_rfl

theorem owns_sl {w : World} {base e size n : Nat} {v : Value} {xs : List Value} (h : w.ownsRow base e size v n xs) : ∃ p c, v = .slice p n c := by
  rcases h.2 with ⟨h1, h2⟩ | ⟨g, cap, cur, h1, _⟩
  · exact ⟨none, 0, by rw [h1, h2]⟩
  · exact ⟨_, cap, h1⟩

theorem owns_later {w w' : World} {base e size n : Nat} {v : Value} {xs : List Value} (h : w.ownsRow base e size v n xs) (hb : Below w.heap.size w w') : w'.ownsRow base e size v n xs := by
  refine ⟨h.1, ?_⟩
  rcases h.2 with h2 | ⟨g, cap, cur, hv, hg, hh, r⟩
  · exact Or.inl h2
  · exact Or.inr ⟨g, cap, cur, hv, hg, (hb.block g (Array.getElem?_eq_some_iff.1 hh).1).trans hh, r⟩

/-- A row of another type is not touched by a growing one. -/
theorem owns_call {w w' : World} {base e size n e2 s2 n2 b2 : Nat} {v v2 : Value} {xs xs2 : List Value} (h : w.ownsRow base e size v n xs) (h2 : w.ownsRow b2 e2 s2 v2 n2 xs2) (hg : w.grownBy w' v2.ownBlock) (hne : e ≠ e2) : w'.ownsRow base e size v n xs := by
  refine ⟨h.1, ?_⟩
  rcases h.2 with h3 | ⟨g, cap, cur, hv, hgb, hh, r⟩
  · exact Or.inl h3
  · refine Or.inr ⟨g, cap, cur, hv, hgb, ?_, r⟩
    rw [hg.block g (Array.getElem?_eq_some_iff.1 hh).1 (fun e' => ?_)]
    · exact hh
    · rcases h2.2 with ⟨h4, _⟩ | ⟨g2, cap2, cur2, hv2, _, hh2, _⟩
      · rw [h4] at e'; cases e'
      · rw [hv2] at e'
        have e3 : g2 = g := by cases e'; rfl
        rw [e3, hh] at hh2
        injection hh2 with hh3
        injection hh3 with _ hh4 _
        exact hne hh4

theorem tile_one {n : Nat} {ts : List (List Bool)} (h : ∀ t, t ∈ ts → tsz t = n) : ∀ j, j < (ts.map tpl).length → okc n 0 ((ts.map tpl).getD j []) = true := by
  intro j hj
  have hj' : j < ts.length := by simpa using hj
  have e : (ts.map tpl).getD j [] = tpl ts[j] := by simp [List.getD, hj']
  rw [e]
  exact (okc_iff n _).2 ⟨ts[j], h _ (List.getElem_mem hj'), rfl⟩

set_option maxRecDepth 20000 in
set_option maxHeartbeats 4000000 in
theorem callsOf_ok (v : Value) (xs : List Int) (n m : Nat) (w : World) (h : Ints w v xs) (hx : ∀ x, x ∈ xs → I64 x) (h1 : 1 ≤ n) (h12 : n ≤ 12) (hm1 : 1 ≤ m) (hm2 : m ≤ 8) :
    Calls Tryd.prog 19 #[v, .int .i64 n, .int .i64 m] w fun e w' => ∃ (u : Value) (es : List Ce), e = .returned u ∧ es.length = m ∧ w'.ownsRow w.heap.size 50 2 u m (ceCells es) ∧ Cok n w' w.heap.size es ∧ Below w.heap.size w w' := by
  obtain ⟨i0, hi, hz0, hz1, hz2⟩ := info_parts Tryd.info50
  obtain ⟨p0, c0, rfl⟩ := h.form
  have HI := hide h
  have HX := hide hx
  clear h hx
  have ho0 : (w.alloc (.cells #[.int .i32 112, .slice none 0 0] 50)).ownsRow w.heap.size 50 2 (.slice (some ⟨w.heap.size, 0, none⟩) 1 1) 1 (ceCells [⟨112, .slice none 0 0, []⟩]) := World.ownsRow_lit w #[.int .i32 112, .slice none 0 0] 1 (Nat.le_refl _) (by unfold maxLen; omega) rfl
  have HO0 := hide ho0
  have HC0 : Hid (Cok n (w.alloc (.cells #[.int .i32 112, .slice none 0 0] 50)) w.heap.size [⟨112, .slice none 0 0, []⟩]) := by
    refine ⟨fun e he => ?_, fun k hk => ?_, fun e he => ?_, fun e he j hj => ?_⟩
    · rw [List.mem_singleton] at he; rw [he]; exact ⟨[], LL.nil _ _⟩
    · have : k = 0 := by simp at hk; omega
      subst this; rfl
    · rw [List.mem_singleton] at he; rw [he]; exact Nat.zero_le _
    · rw [List.mem_singleton] at he; rw [he] at hj; simp at hj
  have hB0 : Below w.heap.size w (w.alloc (.cells #[.int .i32 112, .slice none 0 0] 50)) := (Below.refl _ _).alloc (Nat.le_refl _) _
  clear ho0
  go_enter Tryd.func19, Tryd.ntmps19
  go_wp2
  go_loopw [7, 8] (fun u i wr => ∃ (k : Nat) (es : List Ce), 1 ≤ k ∧ k ≤ m ∧ i = .int .i64 k ∧ Hid (es.length = k) ∧ Hid (wr.ownsRow w.heap.size 50 2 u k (ceCells es)) ∧ Hid (Cok n wr w.heap.size es) ∧ Below w.heap.size w wr) (fun _ i _ => m - (intOf i).toNat)
  case atStart => exact ⟨1, [⟨112, .slice none 0 0, []⟩], by omega, by omega, rfl, rfl, HO0, HC0, hB0⟩
  case round =>
    clear HO0 HC0 hB0
    obtain ⟨k, es, hk1, hk2, rfl, hel, hO, hC, hbw⟩ := hrel
    have hbs := hbw.size
    obtain ⟨up, uc, rfl⟩ := owns_sl hO.out
    by_cases hlt : k < m
    · have HCH := hide (changesOf_ok _ xs (11 * k) n 1 wr (HI.out.below hbw) HX.out (by omega) h1 h12 (by omega))
      go_wp2_with fail
      rw [show (11 * (k : Int)) = ((11 * k : Nat) : Int) from by omega]
      refine HCH.out.mono ?_
      rintro e w1 ⟨cu, cvs, ts, rfl, hl1, hts, hL1, hb1⟩
      have hbs1 := hb1.size
      have hL1' := hL1.low hbs
      obtain ⟨cp, cc, rfl⟩ := owns_slice hL1.row
      have hB1 : Below w.heap.size w w1 := hbw.trans (hb1.mono hbs)
      have hO1 : w1.ownsRow w.heap.size 50 2 (.slice up k uc) k (ceCells es) := owns_later hO.out hb1
      have hC1 := hC.out.mono (w' := w1) (fun v vs xss h => h.below hb1)
      have HC2 := hide (hC1.snoc ⟨97 + (k : Int), .slice cp cvs.length cc, ts.map tpl⟩ ⟨cvs, hL1'⟩ (by rw [hel.out]; unfold sgnOf; rw [if_neg (by omega)]) (by simp [hl1]) (tile_one hts))
      have HEL : Hid ((es ++ [(⟨97 + (k : Int), .slice cp cvs.length cc, ts.map tpl⟩ : Ce)]).length = k + 1) := by show _ = _; rw [List.length_append, hel.out]; rfl
      have HCS := hide (ceCells_snoc es ⟨97 + (k : Int), .slice cp cvs.length cc, ts.map tpl⟩)
      clear hL1 hL1' hb1 hC1 hO hC hl1 hts HCH hel
      go_wp2_with (at_builtin; refine wpList_append_own _ rfl _ _ 25 rfl w.heap.size 50 i0 (.agg #[.int .i32 0, .slice none 0 0]) 2 32 Tryd.underlying25 hi hz0 hz1 hz2 rfl (by decide) _ _ _ rfl (hO1.alloc _) ⟨w1.heap.size, 0, none⟩ 1 1 [.int .i32 (97 + (k : Int)), .slice cp cvs.length cc] rfl rfl ?c1 ?c2 ?c3 ?c4 ?c5 ?_)
      case c1 => exact cell_two_new _ _ _ _
      case c2 => intro u hu; simp at hu; rcases hu with rfl | rfl <;> rfl
      case c3 => unfold maxLen; omega
      case c4 => omega
      case c5 => simp; omega
      · intro v' w5 hown5 hg5 _
        have HO5 : Hid (w5.ownsRow w.heap.size 50 2 v' (k + 1) (ceCells (es ++ [(⟨97 + (k : Int), .slice cp cvs.length cc, ts.map tpl⟩ : Ce)]))) := by show World.ownsRow _ _ _ _ _ _ _; rw [HCS.out]; exact hown5
        have HC5 := hide (HC2.out.mono (w' := w5) (fun v vs xss h => ⟨owns_call (h.row.alloc _) (hO1.alloc _) hg5 (by decide), h.all.mono (fun _ _ _ h' => owns_call (h'.alloc _) (hO1.alloc _) hg5 (by decide))⟩))
        have HB5 : Hid (Below w.heap.size w w5) := (hB1.alloc hB1.size _).grown hg5 (by simp; omega) (fun g hg => (hO1.lt g hg).1)
        clear hown5 hg5 hO1 HC2 HCS
        go_wp2
        go_roundw
        case rel => exact ⟨k + 1, _, by omega, by omega, by go_num, HEL, HO5, HC5, HB5.out⟩
        case measure => simp [intOf]; omega
    · obtain rfl : k = m := by omega
      have HOx := hide hO.out
      have HCx := hide hC.out
      have HEx := hide hel.out
      clear hO hC hel
      go_wp2
      go_ret
      exact ⟨_, es, rfl, HEx.out, HOx.out, HCx.out, hbw⟩

end Go.Proofs.YtenpkhalgkodbaaDoor

/- Contract: slices.Grow of lists of lists, from nothing. -/
namespace Go.Proofs.YtenpkhalgkodbaaDoor
open Go.RowKit Go.Lib

def rnG : Go.Shelf.Ren := ⟨fun x => match x with | 4 => 77 | y => y,
  fun x => match x with | 0 => 0 | 3 => 3 | 4 => 4 | 9 => 9 | 20 => 20 | 22 => 22 | 25 => 26 | y => y, fun x => x⟩

theorem laysG : Go.Proofs.Lays8.n4 Tryd.prog rnG where
  mixed := by kernel_rfl
  f4 := ⟨ "slices.Grow[[][]int,[]int]", by kernel_rfl, by kernel_rfl⟩
  t0 := by kernel_rfl
  a0 := fun w => by kernel_rfl
  z0 := fun w => by kernel_rfl
  v0 := fun w => by kernel_rfl
  t3 := by kernel_rfl
  a3 := fun w => by kernel_rfl
  z3 := fun w => by kernel_rfl
  v3 := fun w => by kernel_rfl
  t4 := by kernel_rfl
  a4 := fun w => by kernel_rfl
  z4 := fun w => by kernel_rfl
  v4 := fun w => by kernel_rfl
  t9 := by kernel_rfl
  a9 := fun w => by kernel_rfl
  z9 := fun w => by kernel_rfl
  v9 := fun w => by kernel_rfl
  t20 := by kernel_rfl
  a20 := fun w => by kernel_rfl
  z20 := fun w => by kernel_rfl
  v20 := fun w => by kernel_rfl
  t22 := by kernel_rfl
  a22 := fun w => by kernel_rfl
  z22 := fun w => by kernel_rfl
  v22 := fun w => by kernel_rfl

theorem grow_nil (n : Nat) (w : World) (h1 : 1 ≤ n) (h2 : n ≤ 1000) :
    Calls Tryd.prog 77 #[.slice none 0 0, .int .i64 n] w fun e w' => ∃ v, e = .returned v ∧ w'.ownsRow w.heap.size 26 1 v 0 [] ∧ Below w.heap.size w w' := by
  obtain ⟨i0, hi, hz0, hz1, hz2⟩ := info_parts Tryd.info26
  refine (Any8.slices_Grow_grow laysG i0 _ hi hz0 (by rw [hz1]; decide) none 0 0 n [] w (Nat.le_refl _) (by omega) (by rw [hz2]; omega) (by omega) (by simp) (fun _ => rfl) (fun a ha => by cases ha)).mono ?_
  rintro e w' ⟨rfl, rfl⟩
  have hge := grownCap_ge w (0 + n) 0 (rnG.t 25)
  refine ⟨_, rfl, ?_, (Below.refl _ _).drew.alloc (Nat.le_refl _) _⟩
  refine World.ownsRow_made w.drew _ _ (Nat.le_refl _) (grownCap_le_maxLen _ _ _ _ (by unfold maxLen; omega)) ?_
  rw [Array.size_append, Array.size_append, size_zeroCells, size_zeroCells]
  have h1z : (Value.slice none 0 0).cells.size = 1 := rfl
  rw [h1z]
  show 0 + _ + _ = _
  omega

end Go.Proofs.YtenpkhalgkodbaaDoor

/- append of what came in. -/
namespace Go.Proofs.YtenpkhalgkodbaaDoor
open Go.RowKit

theorem run_append_none {P : Program} (w : World) (t ty e : TypeId) (i : TypeInfo) (ht : P.underlying t = some (.slice e)) (hi : P.info? e = some i) (a : Addr) (n cap : Nat) (hn : n ≤ cap) (p : Option Addr) (c : Nat) :
    (Builtin.append_ #[t, t] ty #[.slice (some a) n cap, .slice p 0 c]).run P w = .ok (.slice (some a) n cap) w := by
  cases p <;> simp [Builtin.append_, run_underlying ht, sizeOf, typeInfo, hi, Builtin.lenOf, Builtin.firstCells, loadCells, loadCellsFrom, hn, storeCells]

theorem run_append_nil_none {P : Program} (w : World) (t ty e : TypeId) (i : TypeInfo) (ht : P.underlying t = some (.slice e)) (hi : P.info? e = some i) (p : Option Addr) (c : Nat) :
    (Builtin.append_ #[t, t] ty #[.slice none 0 0, .slice p 0 c]).run P w = .ok (.slice none 0 0) w := by
  cases p <;> simp [Builtin.append_, run_underlying ht, sizeOf, typeInfo, hi, Builtin.lenOf, Builtin.firstCells, loadCells, loadCellsFrom]

/-- 'append(a, b...)': a owned, b whatever came in. -/
theorem wpList_append_vals {P : Program} {w : World} {ops : Array Oper} {rest : List Oper} {o : Oper} {a : Act} {Q : Exit → Act → World → Prop} (hgd : o.guard = none) (s x : Operand) (t : TypeId)
    (ho : o.op = .call { callee := .builtin .append, args := #[s, x], argTypes := #[t, t] })
    (base : Nat) (e : TypeId) (i : TypeInfo) (z : Value) (bytes : Nat) (ht : P.underlying t = some (.slice e)) (hi : P.info? e = some i) (hz : i.zero = some z)
    (hsize : i.size = 1) (hby : i.bytes = bytes) (hzs : z.cells.size = 1)
    (v : Value) (n : Nat) (xs : List Value) (hs : a.eval s = v) (hown : w.ownsRow base e 1 v n xs)
    (u : Value) (news : List Value) (hx : a.eval x = u) (hsrc : Vals w u news) (h1 : ∀ u ∈ news, u.oneCell' = true)
    (h63 : n + news.length ≤ maxLen) (hbytes : (n + news.length) * bytes ≤ 140737488355328) (hbase : base ≤ w.heap.size)
    (h : ∀ v' w', w'.ownsRow base e 1 v' (n + news.length) (xs ++ news) → w.grownBy w' v.ownBlock → wpList P ops Q rest (a.put o.dst v') w') :
    wpList P ops Q (o :: rest) a w := by
  rcases hsrc with ⟨rfl, p, c, rfl⟩ | ⟨b, off, cap, rfl, h0, hc, hm, hb, hcell⟩
  · rw [List.length_nil, Nat.add_zero, List.append_nil] at h
    have hr : w.grownBy w v.ownBlock := ⟨rfl, rfl, rfl, Nat.le_refl _, fun _ _ _ => rfl⟩
    rcases hown.2 with ⟨rfl, rfl⟩ | ⟨g2, cap2, cur2, rfl, _, _, hnc2, _⟩
    · refine wpList_plain hgd fun K hK => ?_
      have hrun := run_append_nil_none (P := P) w t o.type e i ht hi p c
      unfold Oper.wp execOp
      simp only [ho, resolve, invoke, builtin, Sem.run_bind, Sem.run_pure, Result.andThen_ok, List.map_toArray, List.map_cons, List.map_nil, hs, hx, hrun]
      exact hK _ _ (h _ _ hown hr)
    · refine wpList_plain hgd fun K hK => ?_
      have hrun := run_append_none (P := P) w t o.type e i ht hi ⟨g2, 0, none⟩ n cap2 hnc2 p c
      unfold Oper.wp execOp
      simp only [ho, resolve, invoke, builtin, Sem.run_bind, Sem.run_pure, Result.andThen_ok, List.map_toArray, List.map_cons, List.map_nil, hs, hx, hrun]
      exact hK _ _ (h _ _ hown hr)
  · refine wpList_append_own w hgd s x t ho base e i z 1 bytes ht hi hz hsize hby hzs (by decide) v n xs hs hown ⟨b, off, none⟩ news.length cap news hx (by omega) (fun j u hu => ?_) h1 h63 hbytes hbase ?_
    · have hj := (List.getElem?_eq_some_iff.1 hu).1
      have := hcell j hj
      rw [List.getD_eq_getElem?_getD, hu] at this
      by_cases h0j : j = 0
      · subst h0j; simpa [Addr.add] using this
      · simpa [Addr.add, h0j] using this
    · intro v' w' h2 h3 _
      exact h v' w' h2 h3

theorem vals_cells {w : World} {vs : List Value} {xss : List (List Int)} (hl : vs.length = xss.length) (hi : ∀ j, j < xss.length → Ints w (vs.getD j undef) (xss.getD j [])) : ∀ u ∈ vs, u.oneCell' = true := by
  intro u hu
  obtain ⟨j, hj, rfl⟩ := List.getElem_of_mem hu
  obtain ⟨p, c, e⟩ := (hi j (by omega)).form
  rw [List.getD_eq_getElem?_getD, List.getElem?_eq_getElem hj, Option.getD_some] at e
  rw [e]
  rfl

theorem ints_join {w : World} {us vs : List Value} {xa xb : List (List Int)} (hl : us.length = xa.length) (hi : ∀ j, j < xa.length → Ints w (us.getD j undef) (xa.getD j [])) (hi2 : ∀ j, j < xb.length → Ints w (vs.getD j undef) (xb.getD j [])) :
    ∀ j, j < (xa ++ xb).length → Ints w ((us ++ vs).getD j undef) ((xa ++ xb).getD j []) := by
  intro j hj
  rw [List.length_append] at hj
  simp only [List.getD_eq_getElem?_getD]
  by_cases h : j < xa.length
  · rw [List.getElem?_append_left (by omega), List.getElem?_append_left h]
    simpa [List.getD_eq_getElem?_getD] using hi j h
  · rw [List.getElem?_append_right (by omega), List.getElem?_append_right (by omega), hl]
    simpa [List.getD_eq_getElem?_getD] using hi2 (j - xa.length) (by omega)

end Go.Proofs.YtenpkhalgkodbaaDoor

/- Contract: slices.Concat of two lists of lists. -/
namespace Go.Proofs.YtenpkhalgkodbaaDoor
open Go.RowKit

set_option maxRecDepth 20000 in
set_option maxHeartbeats 4000000 in
theorem concat_ok (B : Nat) (va vb : Value) (xa xb : List (List Int)) (w : World) (hB : B < w.heap.size) (c0 : w.cell? ⟨B, 0, none⟩ = some va) (c1 : w.cell? ⟨B, 1, none⟩ = some vb) (ha : IntsAll w va xa) (hb : IntsAll w vb xb) (h1 : 1 ≤ xa.length + xb.length) (h2 : xa.length ≤ 400) (h3 : xb.length ≤ 400) :
    Calls Tryd.prog 54 #[.slice (some ⟨B, 0, none⟩) 2 2] w fun e w' => ∃ v, e = .returned v ∧ IntsAll w' v (xa ++ xb) ∧ Below w.heap.size w w' := by
  obtain ⟨j0, hji, hq0, hq1, hq2⟩ := info_parts Tryd.info26
  obtain ⟨us, hu, hul, hui⟩ := ha
  obtain ⟨vs, hv, hvl, hvi⟩ := hb
  obtain ⟨pa, ca, rfl⟩ := hu.form
  obtain ⟨pb, cb, rfl⟩ := hv.form
  have HU := hide hu
  have HV := hide hv
  have HUO := hide (vals_cells hul hui)
  have HVO := hide (vals_cells hvl hvi)
  have HJ := hide (fun W (hW : Below w.heap.size w W) => ints_join (w := W) hul (fun j hj => (hui j hj).below hW) (fun j hj => (hvi j hj).below hW))
  have HJL : Hid ((us ++ vs).length = (xa ++ xb).length) := by show _ = _; rw [List.length_append, List.length_append, hul, hvl]
  rw [← hul] at h1 h2
  rw [← hvl] at h1 h3
  clear hu hv hui hvi hul hvl
  generalize hA : us.length = A at *
  generalize hC : vs.length = C at *
  have HA := hide hA
  have HC := hide hC
  have HG := hide (grow_nil (A + C) w h1 (by omega))
  have hn1 : ¬ ((A : Int) < 0) := by omega
  have hn2 : ¬ ((A : Int) + (C : Int) < 0) := by omega
  clear hA hC
  go_enter Tryd.func54, Tryd.ntmps54
  go_wp2
  go_loop [3, 11] (fun s i => (i = .int .i64 0 ∧ s = .int .i64 0) ∨ (i = .int .i64 1 ∧ s = .int .i64 (A : Int)) ∨ (i = .int .i64 2 ∧ s = .int .i64 ((A : Int) + (C : Int)))) (fun _ i => 2 - (intOf i).toNat)
  case atStart => exact Or.inl ⟨rfl, rfl⟩
  case round =>
    rcases hrel with ⟨rfl, rfl⟩ | ⟨rfl, rfl⟩ | ⟨rfl, rfl⟩
    · go_wp2
      go_round
      case rel => exact Or.inr (Or.inl ⟨rfl, rfl⟩)
      case measure => decide
    · go_wp2
      go_round
      case rel => exact Or.inr (Or.inr ⟨rfl, rfl⟩)
      case measure => decide
    · go_wp2_with fail
      rw [show ((A : Int) + (C : Int)) = ((A + C : Nat) : Int) from by omega]
      refine HG.out.mono ?_
      rintro e w1 ⟨g0, rfl, ho1, hb1⟩
      have HO1 := hide ho1
      clear ho1 HG
      go_wp2
      go_loopw [6, 27] (fun u i wr => ((i = .int .i64 0 ∧ Hid (wr.ownsRow w.heap.size 26 1 u 0 [])) ∨ (i = .int .i64 1 ∧ Hid (wr.ownsRow w.heap.size 26 1 u A us)) ∨ (i = .int .i64 2 ∧ Hid (wr.ownsRow w.heap.size 26 1 u (A + C) (us ++ vs)))) ∧ Below w.heap.size w wr) (fun _ i _ => 2 - (intOf i).toNat)
      case atStart => exact ⟨Or.inl ⟨rfl, HO1⟩, hb1⟩
      case round =>
        clear HO1 hb1
        obtain ⟨hO, hbw⟩ := hrel
        have hbs := hbw.size
        have g0 := (hbw.cell (p := ⟨B, 0, none⟩) hB).trans c0
        have g1 := (hbw.cell (p := ⟨B, 1, none⟩) hB).trans c1
        rcases hO with ⟨rfl, hO⟩ | ⟨rfl, hO⟩ | ⟨rfl, hO⟩
        · obtain ⟨up, uc, rfl⟩ := owns_slice hO.out
          go_wp2_with (at_builtin; refine wpList_append_vals rfl _ _ 22 rfl w.heap.size 26 j0 (.slice none 0 0) 24 Tryd.underlying22 hji hq0 hq1 hq2 rfl _ _ _ rfl hO.out _ us rfl (HU.out.below hbw) HUO.out ?c1 ?c2 ?c3 ?_)
          case c1 => rw [HA.out]; unfold maxLen; omega
          case c2 => rw [HA.out]; omega
          case c3 => omega
          · intro v' w5 hown5 hg5
            have HO5 : Hid (w5.ownsRow w.heap.size 26 1 v' A us) := by show World.ownsRow _ _ _ _ _ _ _; simpa [HA.out] using hown5
            have HB5 : Hid (Below w.heap.size w w5) := hbw.grown hg5 hbs (fun g hg => (hO.out.lt g hg).1)
            clear hown5 hg5 hO
            go_wp2
            go_roundw
            case rel => exact ⟨Or.inr (Or.inl ⟨rfl, HO5⟩), HB5.out⟩
            case measure => decide
        · obtain ⟨up, uc, rfl⟩ := owns_slice hO.out
          go_wp2_with (at_builtin; refine wpList_append_vals rfl _ _ 22 rfl w.heap.size 26 j0 (.slice none 0 0) 24 Tryd.underlying22 hji hq0 hq1 hq2 rfl _ _ _ rfl hO.out _ vs rfl (HV.out.below hbw) HVO.out ?d1 ?d2 ?d3 ?_)
          case d1 => rw [HC.out]; unfold maxLen; omega
          case d2 => rw [HC.out]; omega
          case d3 => omega
          · intro v' w5 hown5 hg5
            have HO5 : Hid (w5.ownsRow w.heap.size 26 1 v' (A + C) (us ++ vs)) := by show World.ownsRow _ _ _ _ _ _ _; rw [HC.out] at hown5; exact hown5
            have HB5 : Hid (Below w.heap.size w w5) := hbw.grown hg5 hbs (fun g hg => (hO.out.lt g hg).1)
            clear hown5 hg5 hO
            go_wp2
            go_roundw
            case rel => exact ⟨Or.inr (Or.inr ⟨rfl, HO5⟩), HB5.out⟩
            case measure => decide
        · obtain ⟨up, uc, rfl⟩ := owns_slice hO.out
          go_wp2
          go_ret
          refine ⟨_, rfl, ⟨us ++ vs, Vals.own (base := w.heap.size) (e := 26) ?_, HJL.out, HJ.out wr hbw⟩, hbw⟩
          rw [List.length_append, HA.out, HC.out]
          exact hO.out

end Go.Proofs.YtenpkhalgkodbaaDoor

/- Contract: truth.between. -/
namespace Go.Proofs.YtenpkhalgkodbaaDoor
open Go.RowKit Go.Maps

def BetPost (n : Nat) (L : List (List Int)) (w : World) (e : Ending) (w' : World) : Prop := ∃ u vs, e = .returned u ∧ LL w' w.heap.size u vs (hds n L) ∧ Below w.heap.size w w'

end Go.Proofs.YtenpkhalgkodbaaDoor

/- What is known of a row behind a slice; the contracts of package row in its terms. -/
namespace Go.Proofs.YtenpkhalgkodbaaDoor
open Go.RowKit

/-- What is known of a row behind a slice. -/
structure RowAt (w : World) (v : Value) (n : Nat) (X : List Int) : Prop where
  ints : Ints w v X
  row : isRow X
  len : X.length = n

theorem RowAt.below {w w' : World} {v : Value} {n : Nat} {X : List Int} (h : RowAt w v n X) (hb : Below w.heap.size w w') : RowAt w' v n X := ⟨h.ints.below hb, h.row, h.len⟩

theorem times_row {n : Nat} {v1 v2 : Value} {X Y : List Int} {w : World} (h1 : 1 ≤ n) (h2 : n ≤ 12) (hx : RowAt w v1 n X) (hy : RowAt w v2 n Y) :
    Calls Tryd.prog 37 #[v1, v2] w fun e w' => ∃ v, e = .returned (.tuple #[v, .int .i64 0]) ∧ RowAt w' v n (by_ X Y) ∧ Below w.heap.size w w' := by
  have e1 := hx.len
  have e2 := hy.len
  refine (times_ok v1 v2 X Y w hx.ints hy.ints hx.row hy.row (by omega) (by omega) (by omega)).mono ?_
  rintro e w' ⟨v, rfl, hi, hb⟩
  exact ⟨v, rfl, ⟨hi, isRow_by hx.row hy.row (by omega), by rw [by_length]; exact e2⟩, hb⟩

theorem RowAt.own {w : World} {base : Nat} {v : Value} {n : Nat} {X : List Int} (h : w.ownsRow base 3 1 v n (X.map (Value.int .i64))) (hr : isRow X) : RowAt w v n X :=
  ⟨Ints.own h, hr, by have := h.1; simpa using this⟩

end Go.Proofs.YtenpkhalgkodbaaDoor

/- Contract: method.Lead. -/
namespace Go.Proofs.YtenpkhalgkodbaaDoor
open Go.RowKit

/-- Rounds, changed by changes. -/
def prd (n : Nat) (ts : List (List Bool)) : List Int := ts.foldl (fun r t => by_ r (trow t)) (rnd n)

theorem prd_snoc (n : Nat) (ts : List (List Bool)) (t : List Bool) : prd n (ts ++ [t]) = by_ (prd n ts) (trow t) := by simp [prd, List.foldl_append]

theorem fold_row (n : Nat) : ∀ (ts : List (List Bool)) (r : List Int), isRow r → r.length = n → (∀ t, t ∈ ts → tsz t = n) → isRow (ts.foldl (fun r t => by_ r (trow t)) r) ∧ (ts.foldl (fun r t => by_ r (trow t)) r).length = n
  | [], _, hr, hl, _ => ⟨hr, hl⟩
  | t :: ts, r, hr, hl, h => by
    have ht : tsz t = n := h t (by simp)
    exact fold_row n ts _ (isRow_by hr (trow_row t) (by rw [trow_length, ht, hl])) (by rw [by_length, trow_length, ht]) (fun t' ht' => h t' (List.mem_cons_of_mem _ ht'))

theorem prd_row (n : Nat) (ts : List (List Bool)) (h : ∀ t, t ∈ ts → tsz t = n) : isRow (prd n ts) ∧ (prd n ts).length = n := fold_row n ts _ (isRow_rnd n) (rnd_length n) h

/-- The first rows of a lead. -/
def leadTo (n : Nat) (ts : List (List Bool)) (k : Nat) : List (List Int) := (List.range (k + 1)).map (fun j => prd n (ts.take j))

theorem leadTo_snoc (n : Nat) (ts : List (List Bool)) (k : Nat) : leadTo n ts (k + 1) = leadTo n ts k ++ [prd n (ts.take (k + 1))] := by
  unfold leadTo; rw [List.range_succ, List.map_append]; rfl

theorem leadTo_length (n : Nat) (ts : List (List Bool)) (k : Nat) : (leadTo n ts k).length = k + 1 := by simp [leadTo]

theorem leadTo_get {n k j : Nat} {ts : List (List Bool)} (h : j ≤ k) : (leadTo n ts k).getD j [] = prd n (ts.take j) := by
  simp [leadTo, List.getD, Nat.lt_succ_of_le h]

theorem tile_ok {n : Nat} {ts : List (List Bool)} (h : ∀ t, t ∈ ts → tsz t = n) {k : Nat} (hk : k < (ts.map tpl).length) : okc n 0 ((ts.map tpl).getD k []) = true := by
  have hk' : k < ts.length := by simpa using hk
  rw [show (ts.map tpl).getD k [] = tpl ts[k] from by simp [List.getD, hk'], ← h ts[k] (List.getElem_mem hk')]
  exact okc_self _

/-- What the loop of Lead knows. -/
structure LeadRel (w wr : World) (s : ByteArray) (n : Nat) (v : Value) (ts : List (List Bool)) (k : Nat) (r u : Value) (vs : List Value) : Prop where
  box : Box wr w.heap.size s n v
  ll : LL wr (w.heap.size + 1) u vs (leadTo n ts k)
  row : wr.ownsRow (w.heap.size + 1) 3 1 r n ((prd n (ts.take k)).map (Value.int .i64))
  below : Below w.heap.size w wr

theorem take_next {ts : List (List Bool)} {k : Nat} (h : k < ts.length) : ts.take (k + 1) = ts.take k ++ [ts[k]] := List.take_succ_eq_append_getElem h

end Go.Proofs.YtenpkhalgkodbaaDoor

/- Plain: the first lists of a list of lists; the rows of a lead. -/
namespace Go.Proofs.YtenpkhalgkodbaaDoor
open Go.RowKit Go.Maps

/-- The first lists of a list of lists. -/
theorem LL.front {w : World} {base g N cap k : Nat} {vs : List Value} {X : List (List Int)} (h : LL w base (.slice (some ⟨g, 0, none⟩) N cap) vs X) (hN : vs.length = N) (hk : k ≤ N) (h1 : 1 ≤ k) (hg : g < w.heap.size) (hc : N ≤ cap) (hc2 : cap ≤ 9223372036854775807) :
    IntsAll w (.slice (some ⟨g, 0, none⟩) k cap) (X.take k) := by
  have hr := h.row
  rw [hN] at hr
  have hXl := h.len
  refine ⟨vs.take k, Or.inr ⟨g, 0, cap, ?_, ?_, ?_, hc2, hg, fun j hj => ?_⟩, ?_, fun j hj => ?_⟩
  · rw [List.length_take, hN, Nat.min_eq_left hk]
  · rw [List.length_take, hN, Nat.min_eq_left hk]; exact h1
  · rw [List.length_take, hN, Nat.min_eq_left hk]; omega
  · have hj' : j < k := by rw [List.length_take, hN, Nat.min_eq_left hk] at hj; exact hj
    rw [Nat.zero_add, owns_val hr (by omega)]
    simp [List.getD, hj']
  · rw [List.length_take, List.length_take, hXl]
  · have hj' : j < k := by rw [List.length_take] at hj; omega
    have hjX : j < X.length := by rw [← hXl, hN]; omega
    have := Ints.own (h.at hjX)
    have e1 : (vs.take k).getD j undef = vs.getD j undef := by simp [List.getD, hj']
    have e2 : (X.take k).getD j [] = X.getD j [] := by simp [List.getD, hj']
    rw [e1, e2]
    exact this

/-- The rows of a lead, but the last one. -/
def ldr (n : Nat) (ts : List (List Bool)) : List (List Int) := (leadTo n ts ts.length).take ts.length

theorem ldr_length (n : Nat) (ts : List (List Bool)) : (ldr n ts).length = ts.length := by unfold ldr; rw [List.length_take, leadTo_length]; omega

theorem ldr_rows {n : Nat} {ts : List (List Bool)} (h : ∀ t, t ∈ ts → tsz t = n) : ∀ r, r ∈ ldr n ts → Rw n r := by
  intro r hr
  have hr' := List.mem_of_mem_take hr
  obtain ⟨j, hj, e⟩ := List.getElem_of_mem hr'
  have hl : (leadTo n ts ts.length).length = ts.length + 1 := leadTo_length n ts ts.length
  have h2 := leadTo_get (n := n) (ts := ts) (k := ts.length) (j := j) (by omega)
  rw [List.getD_eq_getElem?_getD, List.getElem?_eq_getElem hj, Option.getD_some, e] at h2
  have := prd_row n (ts.take j) (fun t ht => h t (List.mem_of_mem_take ht))
  rw [← h2] at this
  exact ⟨this.1, this.2⟩

end Go.Proofs.YtenpkhalgkodbaaDoor

/- Contract: truth.Heads, over what call.Rows tells. -/
namespace Go.Proofs.YtenpkhalgkodbaaDoor
open Go.RowKit

/-- What call.Rows tells. -/
def RowsPost (T : List (List Int)) (w : World) (e : Ending) (w' : World) : Prop := ∃ u vs, e = .returned (.tuple #[u, .int .i64 0]) ∧ LL w' w.heap.size u vs T ∧ Below w.heap.size w w'

theorem LL.keptRow {w w' : World} {base : Nat} {v : Value} {vs : List Value} {xss : List (List Int)} {u : Value} {k : Nat} {us : List Value} (h : LL w base v vs xss) (hu : w.ownsRow base 26 1 u k us) (hg : w.grownBy w' u.ownBlock) (hne : v.ownBlock = none ∨ v.ownBlock ≠ u.ownBlock) : LL w' base v vs xss :=
  ⟨h.row.kept hg hne, h.all.mono (fun _ _ _ h' => owns_kept_ty h' hu hg)⟩

theorem Box.keep {w w' : World} {b B : Nat} {s : ByteArray} {n : Int} {v : Value} (h : Box w b s n v) (hb : Below B w w') (hlt : b < B) : Box w' b s n v :=
  ⟨(hb.cell (p := ⟨b, 0, none⟩) hlt).trans h.c0, (hb.cell (p := ⟨b, 1, none⟩) hlt).trans h.c1, (hb.cell (p := ⟨b, 2, none⟩) hlt).trans h.c2, Nat.lt_of_lt_of_le h.lt hb.size⟩

/-- The heads. -/
def headsOf (T : List (List Int)) (k N : Nat) : List (List Int) := (List.range N).map (fun i => T.getD (i * k) [])

theorem headsOf_snoc (T : List (List Int)) (k j : Nat) : headsOf T k (j + 1) = headsOf T k j ++ [T.getD (j * k) []] := by
  unfold headsOf
  rw [List.range_succ, List.map_append]
  rfl

end Go.Proofs.YtenpkhalgkodbaaDoor

/- Contract: call.leadOf: the rows of a lead that ends with a call. -/
namespace Go.Proofs.YtenpkhalgkodbaaDoor
open Go.RowKit

/-- The changes of a lead that ends with a call. -/
def calledBy (ts ss : List (List Bool)) : List (List Bool) := ts.take (ts.length - ss.length) ++ ss

theorem calledBy_length {ts ss : List (List Bool)} (h : ss.length ≤ ts.length) : (calledBy ts ss).length = ts.length := by
  unfold calledBy; rw [List.length_append, List.length_take]; omega

theorem calledBy_mem {n : Nat} {ts ss : List (List Bool)} (h1 : ∀ t, t ∈ ts → tsz t = n) (h2 : ∀ t, t ∈ ss → tsz t = n) : ∀ t, t ∈ calledBy ts ss → tsz t = n := by
  intro t ht
  rcases List.mem_append.1 ht with h | h
  · exact h1 t (List.mem_of_mem_take h)
  · exact h2 t h

set_option maxRecDepth 20000 in
set_option maxHeartbeats 4000000 in
theorem leadOf_ok (s : ByteArray) (n : Nat) (vp : Option Addr) (vc : Nat) (ts : List (List Bool)) (sg : Int) (up : Option Addr) (uc : Nat) (ss : List (List Bool)) (w : World) (h1 : 1 ≤ n) (h12 : n ≤ 12) (hl1 : 1 ≤ ts.length) (hl2 : ts.length ≤ 200)
    (hts : ∀ t, t ∈ ts → tsz t = n) (hv : IntsAll w (.slice vp ts.length vc) (ts.map tpl)) (hss : ∀ t, t ∈ ss → tsz t = n) (hu : IntsAll w (.slice up ss.length uc) (ss.map tpl)) (hle : ss.length ≤ ts.length) :
    Calls Tryd.prog 35 #[meth s n (.slice vp ts.length vc), .agg #[.int .i32 sg, .slice up ss.length uc]] w fun e w' => ∃ u vs, e = .returned u ∧ LL w' w.heap.size u vs ((calledBy ts ss).map trow) ∧ Below w.heap.size w w' := by
  obtain ⟨j0, hji, hq0, hq1, hq2⟩ := info_parts Tryd.info26
  obtain ⟨b, off, cap, hve, hbl, hc1, hc2, hxx⟩ := hv.cell (by rw [List.length_map]; exact hl1)
  obtain ⟨rfl, rfl⟩ : vp = some ⟨b, off, none⟩ ∧ vc = cap := by simpa using hve
  clear hxx
  rw [List.length_map] at hc1
  have hcut := hv.cut (k := ts.length - ss.length) (List.length_map _) (by omega)
  have hB0 : Below w.heap.size w ((w.alloc (.cells #[.string s, .int .i64 n, .slice (some ⟨b, off, none⟩) ts.length vc] 24)).alloc (.cells #[.int .i32 sg, .slice up ss.length uc] 50)) := ((Below.refl _ _).alloc (Nat.le_refl _) _).alloc (by simp) _
  have hB1 := hB0.alloc hB0.size (.cells #[.slice (some ⟨b, off, none⟩) (ts.length - ss.length) vc, .slice up ss.length uc] 22)
  have hnew := heap_alloc_new ((w.alloc (.cells #[.string s, .int .i64 n, .slice (some ⟨b, off, none⟩) ts.length vc] 24)).alloc (.cells #[.int .i32 sg, .slice up ss.length uc] 50)) (.cells #[.slice (some ⟨b, off, none⟩) (ts.length - ss.length) vc, .slice up ss.length uc] 22)
  have hbox := ((Box.start w s n (.slice (some ⟨b, off, none⟩) ts.length vc) 24).below ((Below.refl _ _).alloc (Nat.le_refl _) (.cells #[.int .i32 sg, .slice up ss.length uc] 50))).below ((Below.refl _ _).alloc (Nat.le_refl _) (.cells #[.slice (some ⟨b, off, none⟩) (ts.length - ss.length) vc, .slice up ss.length uc] 22))
  have HCO := hide (concat_ok (w.heap.size + 2) _ _ _ _ (((w.alloc (.cells #[.string s, .int .i64 n, .slice (some ⟨b, off, none⟩) ts.length vc] 24)).alloc (.cells #[.int .i32 sg, .slice up ss.length uc] 50)).alloc (.cells #[.slice (some ⟨b, off, none⟩) (ts.length - ss.length) vc, .slice up ss.length uc] 22)) (by simp) (by
      rw [show ((w.alloc (.cells #[.string s, .int .i64 n, .slice (some ⟨b, off, none⟩) ts.length vc] 24)).alloc (.cells #[.int .i32 sg, .slice up ss.length uc] 50)).heap.size = w.heap.size + 2 from by simp] at hnew
      unfold World.cell?; simp only [hnew]; rfl) (by
      rw [show ((w.alloc (.cells #[.string s, .int .i64 n, .slice (some ⟨b, off, none⟩) ts.length vc] 24)).alloc (.cells #[.int .i32 sg, .slice up ss.length uc] 50)).heap.size = w.heap.size + 2 from by simp] at hnew
      unfold World.cell?; simp only [hnew]; rfl) (hcut.below hB1) (hu.below hB1) (by rw [List.length_take, List.length_map, List.length_map]; omega) (by rw [List.length_take, List.length_map]; omega) (by rw [List.length_map]; omega))
  rw [← List.map_take, ← List.map_append, show ts.take (ts.length - ss.length) ++ ss = calledBy ts ss from rfl] at HCO
  have HZL := hide (calledBy_length hle)
  have HZM := hide (calledBy_mem hts hss)
  have HBX := hide hbox
  have HB1 := hide hB1
  clear hts hss hv hu hcut hbox hnew hB1 hB0 hve
  generalize calledBy ts ss = Z at *
  generalize ts.length = K at *
  generalize ss.length = M at *
  obtain ⟨D, rfl⟩ : ∃ D, K = D + M := ⟨K - M, by omega⟩
  rw [show D + M - M = D from by omega] at HCO HBX HB1
  unfold meth
  go_enter Tryd.func35, Tryd.ntmps35
  go_wp2_with fail
  refine HCO.out.mono ?_
  rintro e w1 ⟨v, rfl, hI1, hb1⟩
  have hB1 : Below w.heap.size w w1 := HB1.out.trans (hb1.mono HB1.out.size)
  have hx1 := HBX.out.below hb1
  obtain ⟨zb, zo, zc, hve, hzb, hzc, hzm, hzcell⟩ := hI1.cell (by rw [List.length_map, HZL.out]; omega)
  rw [List.length_map, HZL.out] at hve hzc
  subst hve
  have HX1 := hide hx1
  have HZC := hide hzcell
  have hbs1 := hB1.size
  clear HCO HBX HB1 hb1 hx1 hI1 hzcell
  go_wp2
  go_loopw [6, 27] (fun hv i wr => ∃ (j : Nat) (vs : List Value), j ≤ D + M ∧ i = .int .i64 j ∧ Hid (vs.length = j) ∧ Hid (LL wr w1.heap.size hv vs ((Z.take j).map trow)) ∧ Below w1.heap.size w1 wr) (fun _ i _ => D + M - (intOf i).toNat)
  case atStart => exact ⟨0, [], by omega, rfl, (show ([] : List Value).length = 0 from rfl), LL.nil _ _, Below.refl _ _⟩
  case round =>
    obtain ⟨j, vs, hj, rfl, hvl, hL, hbw⟩ := hrel
    have hbs := hbw.size
    obtain ⟨hp, hc, rfl⟩ := owns_slice hL.out.row
    by_cases hlt : j < D + M
    · have hjz : j < Z.length := by rw [HZL.out]; exact hlt
      obtain ⟨p, c, gx, hix⟩ := HZC.out j (by rw [List.length_map]; exact hjz)
      have ht : tsz Z[j] = n := HZM.out _ (List.getElem_mem hjz)
      have hix2 := hix.out
      have hgk : (Z.map tpl).getD j [] = tpl Z[j] := by simp [List.getD, hjz]
      rw [hgk] at hix2 gx
      have gy := (hbw.cell (p := ⟨zb, zo + j, none⟩) hzb).trans gx
      have HRow := hide (prow_ok Z[j] n _ wr ht h1 h12 (hix2.below hbw))
      have HTN : Hid ((Z.take (j + 1)).map trow = (Z.take j).map trow ++ [trow Z[j]]) := by show _ = _; rw [List.take_succ_eq_append_getElem hjz, List.map_append]; rfl
      have HTL : Hid ((trow Z[j]).length = n) := by show _ = _; rw [trow_length, ht]
      have gb := (HX1.out.below hbw).c1
      generalize Z[j] = t at *
      generalize (tpl t).length = pl at *
      clear gx hix hix2 hgk ht
      have hvl2 := hvl.out
      rw [hvl2]
      go_wp2_with fail
      refine HRow.out.mono ?_
      rintro e w3 ⟨rv, rfl, hrv, hb3⟩
      have hL3 := hL.out.below hb3
      have hbs3 := hb3.size
      have hbw3 : Below w1.heap.size w1 w3 := hbw.trans (hb3.mono hbs)
      have hrv2 := owns_base hrv hbs
      obtain ⟨rp, rc, rfl⟩ := owns_slice hrv2
      have hrow := hL3.row
      have HL3 := hide hL3
      rw [hvl2] at hrow
      have HRV := hide hrv2
      clear hL hrv hrv2 hL3 HRow hb3
      go_wp2_with (at_builtin; refine wpList_append_keep _ rfl _ _ 22 rfl w1.heap.size 26 j0 (.slice none 0 0) 1 24 Tryd.underlying22 hji hq0 hq1 hq2 rfl (by decide) _ _ _ rfl (hrow.alloc _) ⟨w3.heap.size, 0, none⟩ 1 1 [.slice rp n rc] rfl rfl ?c1 ?c2 ?c3 ?c4 ?c5 ?_)
      case c1 => exact cell_one_new _ _ _
      case c2 => intro u hu; simp at hu; subst hu; rfl
      case c3 => unfold maxLen; omega
      case c4 => omega
      case c5 => simp; omega
      · intro v' w5 hown5 hg5 _
        have hg5' := hg5
        rw [← hvl2] at hown5 hg5'
        have hL5 := HL3.out.push (X := trow t) (by rw [HTL.out]; exact HRV.out) hown5 hg5'
        rw [← HTN.out] at hL5
        have HB5 := hide (HL3.out.step hbw3 (Nat.le_refl _) (by omega) hg5')
        have HL5 := hide hL5
        have HV5 : Hid ((vs ++ [Value.slice rp n rc]).length = j + 1) := by show _ = _; rw [List.length_append, hvl2]; rfl
        clear hL5 hown5 hg5 hg5' hrow
        go_wp2
        go_roundw
        case rel => exact ⟨j + 1, _, by omega, by go_num, HV5, HL5, HB5.out⟩
        case measure => simp [intOf]; omega
    · obtain rfl : j = D + M := by omega
      have hF := hL.out
      rw [show Z.take (D + M) = Z from by rw [← HZL.out]; exact List.take_length] at hF
      have HF := hide hF
      clear hL hF
      go_wp2
      go_ret
      exact ⟨_, vs, rfl, HF.out.low hbs1, hB1.trans (hbw.mono hbs1)⟩

end Go.Proofs.YtenpkhalgkodbaaDoor

/- Plain: BOTH PROOFS AGREE: the rows of leads are unlike just when those of the first lead are, the heads are, and no two heads are a false one apart. -/
namespace Go.Proofs.YtenpkhalgkodbaaDoor
open Go.RowKit

/-- The rows of leads with these heads. -/
def touchRows (Hs P : List (List Int)) : List (List Int) := Hs.flatMap (fun h => P.map (fun p => by_ h p))

theorem by_cancel {n : Nat} (h12 : n ≤ 12) {h a b : List Int} (hh : Rw n h) (ha : Rw n a) (hb : Rw n b) (e : by_ h a = by_ h b) : a = b := by
  refine Rw.eq h12 ha hb ?_
  have := congrArg pad e
  rw [hh.pad_by h12 ha, hh.pad_by h12 hb] at this
  exact Pm.mul_cancel this

/-- Rows of two leads are one just when what makes one head of the other makes one of their rows of the other. -/
theorem by_meet {n : Nat} (h12 : n ≤ 12) {h h' a b : List Int} (hh : Rw n h) (hh' : Rw n h') (ha : Rw n a) (hb : Rw n b) : by_ h a = by_ h' b ↔ by_ (un h) h' = by_ a (un b) := by
  constructor
  · intro e
    refine Rw.eq h12 (hh.un.by hh') (ha.by hb.un) ?_
    have e' := congrArg pad e
    rw [hh.pad_by h12 ha, hh'.pad_by h12 hb] at e'
    rw [hh.un.pad_by h12 hh', ha.pad_by h12 hb.un, hh.pad_un h12, hb.pad_un h12]
    refine Pm.mul_cancel (x := pad h) ?_
    rw [Pm.mul_inv_cancel, ← Pm.mul_assoc, e', Pm.mul_assoc, Pm.mul_inv, Pm.mul_one]
  · intro e
    refine Rw.eq h12 (hh.by ha) (hh'.by hb) ?_
    have e' := congrArg pad e
    rw [hh.un.pad_by h12 hh', ha.pad_by h12 hb.un, hh.pad_un h12, hb.pad_un h12] at e'
    rw [hh.pad_by h12 ha, hh'.pad_by h12 hb]
    have e2 : pad h' = pad h * (pad a * (pad b)⁻¹) := by rw [← e', Pm.mul_inv_cancel]
    rw [e2, Pm.mul_assoc, Pm.mul_assoc, Pm.inv_mul, Pm.mul_one]

theorem by_un_rnd {n : Nat} (h12 : n ≤ 12) {h h' : List Int} (hh : Rw n h) (hh' : Rw n h') : by_ (un h) h' = rnd n ↔ h = h' := by
  constructor
  · intro e
    refine Rw.eq h12 hh hh' ?_
    have e' := congrArg pad e
    rw [hh.un.pad_by h12 hh', hh.pad_un h12, pad_rnd h12] at e'
    rw [← Pm.mul_one (pad h), ← e', Pm.mul_inv_cancel]
  · rintro rfl
    refine Rw.eq h12 (hh.un.by hh) (Rw.rnd n) ?_
    rw [hh.un.pad_by h12 hh, hh.pad_un h12, Pm.inv_mul, pad_rnd h12]

theorem apart_iff {n : Nat} (h12 : n ≤ 12) {P : List (List Int)} (hP : ∀ p, p ∈ P → Rw n p) (h0 : P ≠ []) {h h' : List Int} (hh : Rw n h) (hh' : Rw n h') :
    (∀ x, x ∈ P.map (fun p => by_ h p) → ∀ y, y ∈ P.map (fun p => by_ h' p) → x ≠ y) ↔ (h ≠ h' ∧ by_ (un h) h' ∉ hds n P) := by
  have hm : ∀ d, d ∈ hds n P ↔ d ∈ pr P ∧ d ≠ rnd n := (hdsTo_fact n (pr P)).2.1
  constructor
  · intro H
    obtain ⟨p0, hp0⟩ := List.exists_mem_of_ne_nil P h0
    refine ⟨fun e => ?_, fun hd => ?_⟩
    · subst e
      exact H _ (List.mem_map.2 ⟨p0, hp0, rfl⟩) _ (List.mem_map.2 ⟨p0, hp0, rfl⟩) rfl
    · obtain ⟨one, h1, other, h2, e⟩ := pr_mem.1 ((hm _).1 hd).1
      exact H _ (List.mem_map.2 ⟨other, h2, rfl⟩) _ (List.mem_map.2 ⟨one, h1, rfl⟩) ((by_meet h12 hh hh' (hP _ h2) (hP _ h1)).2 e.symm)
  · rintro ⟨hne, hnd⟩ x hx y hy e
    obtain ⟨a, ha, rfl⟩ := List.mem_map.1 hx
    obtain ⟨b, hb, rfl⟩ := List.mem_map.1 hy
    have e2 := (by_meet h12 hh hh' (hP _ ha) (hP _ hb)).1 e
    refine hnd ((hm _).2 ⟨pr_mem.2 ⟨b, hb, a, ha, e2.symm⟩, fun e3 => ?_⟩)
    exact hne ((by_un_rnd h12 hh hh').1 e3)

theorem both_proofs {n : Nat} (h12 : n ≤ 12) {Hs P : List (List Int)} (hP : ∀ p, p ∈ P → Rw n p) (hH : ∀ h, h ∈ Hs → Rw n h) (h0 : P ≠ []) (h1 : Hs ≠ []) :
    (touchRows Hs P).Nodup ↔ (P.Nodup ∧ Hs.Nodup ∧ Hs.Pairwise (fun h h' => by_ (un h) h' ∉ hds n P)) := by
  unfold touchRows List.Nodup
  rw [List.pairwise_flatMap]
  have e1 : (∀ h, h ∈ Hs → List.Pairwise (· ≠ ·) (P.map (fun p => by_ h p))) ↔ List.Pairwise (· ≠ ·) P := by
    have key : ∀ h, h ∈ Hs → (List.Pairwise (· ≠ ·) (P.map (fun p => by_ h p)) ↔ List.Pairwise (· ≠ ·) P) := by
      intro h hh
      rw [List.pairwise_map]
      exact List.Pairwise.iff_of_mem (fun {a b} ha hb => ⟨fun hne e => hne (by rw [e]), fun hne e => hne (by_cancel h12 (hH h hh) (hP a ha) (hP b hb) e)⟩)
    obtain ⟨h, hh⟩ := List.exists_mem_of_ne_nil Hs h1
    exact ⟨fun H => (key h hh).1 (H h hh), fun H h hh => (key h hh).2 H⟩
  have e2 : List.Pairwise (fun h h' => ∀ x, x ∈ P.map (fun p => by_ h p) → ∀ y, y ∈ P.map (fun p => by_ h' p) → x ≠ y) Hs ↔ (List.Pairwise (· ≠ ·) Hs ∧ Hs.Pairwise (fun h h' => by_ (un h) h' ∉ hds n P)) := by
    rw [← List.pairwise_and_iff]
    exact List.Pairwise.iff_of_mem (fun {a b} ha hb => apart_iff h12 hP h0 (hH a ha) (hH b hb))
  constructor
  · rintro ⟨a, b⟩
    exact ⟨e1.1 a, e2.1 b⟩
  · rintro ⟨a, b⟩
    exact ⟨e1.2 a, e2.2 b⟩

end Go.Proofs.YtenpkhalgkodbaaDoor

/- Contract: slices.Equal of lists of ints. -/
namespace Go.Proofs.YtenpkhalgkodbaaDoor
open Go.RowKit

end Go.Proofs.YtenpkhalgkodbaaDoor

/- Contracts: slices.Equal, method.Mirrored. -/
namespace Go.Proofs.YtenpkhalgkodbaaDoor
open Go.RowKit

/-- Are lists, but for the last one, the same from the back? -/
def Mir (css : List (List Int)) : Prop := ∀ i, i < css.length - 1 → css.getD i [] = css.getD (css.length - 2 - i) []

theorem ret_b0 {a b : Bool} (h : a = b) : Ending.returned (.tuple #[.bool a, .int .i64 0]) = .returned (.tuple #[.bool b, .int .i64 0]) := by rw [h]

end Go.Proofs.YtenpkhalgkodbaaDoor

/- Plain: what is mirrored comes back. Memory: a list that grows behind another header of it, in a struct. -/
namespace Go.Proofs.YtenpkhalgkodbaaDoor
open Go.RowKit

theorem by_rnd_left {n : Nat} {X : List Int} (h : ∀ y ∈ X, 0 ≤ y ∧ y < (n : Nat)) : by_ (rnd n) X = X := by
  unfold by_
  conv => rhs; rw [← List.map_id X]
  apply List.map_congr_left
  intro y hy
  have := h y hy
  rw [rnd_get (by omega)]
  show _ = y
  omega

theorem by_rnd_right {X : List Int} : by_ X (rnd X.length) = X := by
  refine ext_getD (by rw [by_length, rnd_length]) (fun j hj => ?_)
  rw [by_length, rnd_length] at hj
  rw [by_get (by rw [rnd_length]; exact hj), rnd_get hj, Int.toNat_natCast]

theorem fold_by (n : Nat) : ∀ (ts : List (List Bool)) (r : List Int), r.length = n → (∀ t, t ∈ ts → tsz t = n) → ts.foldl (fun r t => by_ r (trow t)) r = by_ r (prd n ts)
  | [], r, hr, _ => by show r = by_ r (rnd n); rw [← hr, by_rnd_right]
  | t :: ts, r, hr, h => by
    have ht : tsz t = n := h t (by simp)
    have hs : ∀ t', t' ∈ ts → tsz t' = n := fun t' ht' => h t' (List.mem_cons_of_mem _ ht')
    have hp := prd_row n ts hs
    have e1 : (t :: ts).foldl (fun r t => by_ r (trow t)) r = by_ (by_ r (trow t)) (prd n ts) := fold_by n ts _ (by rw [by_length, trow_length, ht]) hs
    have e2 : prd n (t :: ts) = by_ (by_ (rnd n) (trow t)) (prd n ts) := fold_by n ts _ (by rw [by_length, trow_length, ht]) hs
    rw [e1, e2, by_rnd_left (fun y hy => by rw [← ht]; exact trow_mem t y hy), by_assoc hp.1 (by rw [hp.2, trow_length, ht])]

theorem prd_cons {n : Nat} {t : List Bool} {ts : List (List Bool)} (ht : tsz t = n) (h : ∀ t, t ∈ ts → tsz t = n) : prd n (t :: ts) = by_ (trow t) (prd n ts) := by
  have e2 : prd n (t :: ts) = by_ (by_ (rnd n) (trow t)) (prd n ts) := fold_by n ts _ (by rw [by_length, trow_length, ht]) h
  rw [e2, by_rnd_left (fun y hy => by rw [← ht]; exact trow_mem t y hy)]

theorem prd_rev (n : Nat) : ∀ (ts : List (List Bool)), (∀ t, t ∈ ts → tsz t = n) → by_ (prd n ts) (prd n ts.reverse) = rnd n
  | [], _ => by
    show by_ (rnd n) (rnd n) = rnd n
    have := by_rnd_right (X := rnd n)
    rwa [rnd_length] at this
  | t :: ts, h => by
    have ht : tsz t = n := h t (by simp)
    have hs : ∀ t', t' ∈ ts → tsz t' = n := fun t' ht' => h t' (List.mem_cons_of_mem _ ht')
    have hsr : ∀ t', t' ∈ ts.reverse → tsz t' = n := fun t' ht' => hs t' (by simpa using ht')
    have ih := prd_rev n ts hs
    have hA := prd_row n ts hs
    have hB := prd_row n ts.reverse hsr
    have hBT := isRow_by hB.1 (trow_row t) (by rw [trow_length, ht, hB.2])
    rw [List.reverse_cons, prd_snoc, prd_cons ht hs, by_assoc hBT (by rw [by_length, trow_length, ht, hA.2]), ← by_assoc (trow_row t) (by rw [trow_length, ht, hB.2]), ih,
      by_rnd_left (fun y hy => by rw [← ht]; exact trow_mem t y hy), trow_twice, ht]

/-- There, and back but for the turn. -/
def pal (ts : List (List Bool)) : List (List Bool) := ts ++ ts.dropLast.reverse

theorem pal_rev {ts : List (List Bool)} (h : 1 ≤ ts.length) : (pal ts).reverse = pal ts := by
  obtain ⟨dl, c, rfl⟩ : ∃ dl c, ts = dl ++ [c] := by
    rcases List.eq_nil_or_concat ts with rfl | ⟨l, b, rfl⟩
    · simp at h
    · exact ⟨l, b, by simp⟩
  simp [pal]

theorem pal_mem {n : Nat} {ts : List (List Bool)} (h : ∀ t, t ∈ ts → tsz t = n) : ∀ t, t ∈ pal ts → tsz t = n := by
  intro t ht
  rcases List.mem_append.1 ht with h' | h'
  · exact h t h'
  · exact h t ((List.dropLast_sublist ts).subset (by simpa using h'))

theorem pal_length {ts : List (List Bool)} (h : 1 ≤ ts.length) : (pal ts).length = 2 * ts.length - 1 := by
  simp [pal]; omega

theorem pal_twice {n : Nat} {ts : List (List Bool)} (hl : 1 ≤ ts.length) (h : ∀ t, t ∈ ts → tsz t = n) : by_ (prd n (pal ts)) (prd n (pal ts)) = rnd n := by
  have := prd_rev n (pal ts) (pal_mem h)
  rwa [pal_rev hl] at this

theorem pal_mir {ts : List (List Bool)} (hl : 1 ≤ ts.length) (q : List Bool) : Mir ((pal ts ++ [q]).map tpl) := by
  intro i hi
  have hlen : ((pal ts ++ [q]).map tpl).length = (pal ts).length + 1 := by simp
  rw [hlen] at hi ⊢
  have hi' : i < (pal ts).length := by omega
  have hk : (pal ts).length + 1 - 2 - i < (pal ts).length := by omega
  have e : (pal ts)[i] = (pal ts)[(pal ts).length + 1 - 2 - i] := by
    have h1 : (pal ts).reverse[i]'(by rw [List.length_reverse]; exact hi') = (pal ts)[(pal ts).length - 1 - i] := by rw [List.getElem_reverse]
    have h2 : (pal ts).reverse[i]'(by rw [List.length_reverse]; exact hi') = (pal ts)[i] := by
      congr 1
      exact pal_rev hl
    rw [← h2, h1]
    congr 1
  have g : ∀ k (hk : k < (pal ts).length), ((pal ts ++ [q]).map tpl).getD k [] = tpl (pal ts)[k] := by
    intro k hk
    rw [List.map_append]
    simp only [List.getD]
    rw [List.getElem?_append_left (by simpa using hk), List.getElem?_map, List.getElem?_eq_getElem hk]
    rfl
  rw [g i hi', g _ hk, e]

/-- The changes so far, when the next one to be told back is the d-th. -/
def sofar (ts : List (List Bool)) (d : Nat) : List (List Bool) := ts ++ (ts.dropLast.drop d).reverse

theorem sofar_start (ts : List (List Bool)) : sofar ts (ts.length - 1) = ts := by
  unfold sofar; rw [List.drop_of_length_le (by simp)]; simp

theorem sofar_end (ts : List (List Bool)) : sofar ts 0 = pal ts := by unfold sofar pal; simp

theorem sofar_step {ts : List (List Bool)} {d : Nat} (h : d < ts.length - 1) : sofar ts d = sofar ts (d + 1) ++ [ts[d]'(by omega)] := by
  have hd : d < ts.dropLast.length := by simp; omega
  unfold sofar
  rw [List.drop_eq_getElem_cons hd, List.reverse_cons, List.append_assoc, List.getElem_dropLast]

/-! memory -/

theorem owns_ne_ty {w : World} {base e n B : Nat} {v : Value} {xs : List Value} {c : Array Value} {t : TypeId} (h : w.ownsRow base e 1 v n xs) (hB : w.heap[B]? = some (.cells c t)) (hne : t ≠ e) : v.ownBlock ≠ some B := by
  rcases h.2 with ⟨rfl, _⟩ | ⟨g, cap, cur, rfl, _, hh, _⟩
  · intro h; cases h
  · intro h
    have e1 : g = B := Option.some.inj h
    subst e1
    rw [hB] at hh
    injection hh with hh
    injection hh with _ h2
    exact hne h2

theorem owns_set_other {w : World} {base e n B j : Nat} {v x : Value} {xs : List Value} (h : w.ownsRow base e 1 v n xs) (hne : v.ownBlock ≠ some B) : (w.setCell ⟨B, j, none⟩ x).ownsRow base e 1 v n xs := by
  refine ⟨h.1, ?_⟩
  rcases h.2 with h2 | ⟨g, cap, cur, rfl, hg, hh, r⟩
  · exact Or.inl h2
  · refine Or.inr ⟨g, cap, cur, rfl, hg, ?_, r⟩
    have : B ≠ g := fun e => hne (by rw [e]; rfl)
    simp [World.setCell, Array.getElem?_modify, this, hh]

/-- What the loop of TopMirror knows. -/
structure MirRel (w wr : World) (B n : Nat) (s : ByteArray) (g H : Nat) (vs : List Value) (u : Value) (us : List Value) (qs : List (List Bool)) : Prop where
  box : wr.heap[B]? = some (.cells #[.string s, .int .i64 n, u] 24)
  ll : LL wr w.heap.size u us (qs.map tpl)
  pre : us.take H = vs
  cells : ∀ j, j < H → wr.cell? ⟨g, j, none⟩ = some (vs.getD j undef)
  glt : g < wr.heap.size
  gty : ∃ cur, wr.heap[g]? = some (.cells cur 26)
  below : Below w.heap.size w wr

theorem MirRel.later {w wr w' : World} {B n : Nat} {s : ByteArray} {g H : Nat} {vs : List Value} {u : Value} {us : List Value} {qs : List (List Bool)} (h : MirRel w wr B n s g H vs u us qs) (hb : Below wr.heap.size wr w') : MirRel w w' B n s g H vs u us qs := by
  have hBl : B < wr.heap.size := (Array.getElem?_eq_some_iff.1 h.box).1
  obtain ⟨cur, hc⟩ := h.gty
  exact ⟨(hb.block B hBl).trans h.box, h.ll.below hb, h.pre, fun j hj => (hb.cell (p := ⟨g, j, none⟩) h.glt).trans (h.cells j hj), Nat.lt_of_lt_of_le h.glt hb.size, ⟨cur, (hb.block g h.glt).trans hc⟩, h.below.trans (hb.mono h.below.size)⟩

/-- One more list behind. -/
theorem MirRel.step {w wr w5 : World} {B n : Nat} {s : ByteArray} {g H : Nat} {vs : List Value} {u v' x : Value} {us : List Value} {qs : List (List Bool)} {t : List Bool} (h : MirRel w wr B n s g H vs u us qs) (hB : w.heap.size ≤ B) (hH : H ≤ us.length)
    (hx : wr.ownsRow w.heap.size 3 1 x (tpl t).length ((tpl t).map (Value.int .i64)))
    (hown : w5.ownsRow w.heap.size 26 1 v' (us.length + 1) (us ++ [x])) (hg : wr.grownBy w5 u.ownBlock) (hk : v'.ownBlock = u.ownBlock ∨ (v'.ownBlock = some wr.heap.size ∧ wr.grownBy w5 none)) :
    MirRel w (w5.setCell ⟨B, 2, none⟩ v') B n s g H vs v' (us ++ [x]) (qs ++ [t]) ∧ w5.heap[B]? = some (.cells #[.string s, .int .i64 n, u] 24) := by
  have hBl : B < wr.heap.size := (Array.getElem?_eq_some_iff.1 h.box).1
  have hnB : u.ownBlock ≠ some B := owns_ne_ty h.ll.row h.box (by decide)
  have hbox : w5.heap[B]? = some (.cells #[.string s, .int .i64 n, u] 24) := (hg.block B hBl (fun e => hnB e.symm)).trans h.box
  have hnB' : v'.ownBlock ≠ some B := owns_ne_ty hown hbox (by decide)
  obtain ⟨cur, hcur⟩ := h.gty
  have hgB : g ≠ B := by
    intro e
    subst e
    rw [h.box] at hcur
    injection hcur with hcur
    injection hcur with _ h2
    exact absurd h2 (by decide)
  -- the block of the first header
  have hgt : ∃ cur', w5.heap[g]? = some (.cells cur' 26) := by
    by_cases e : u.ownBlock = some g
    · rcases hk with hk | ⟨_, hk⟩
      · rcases hown.2 with ⟨rfl, _⟩ | ⟨g', cap', cur', rfl, _, hh, _⟩
        · rw [← hk] at e; cases e
        · have : g' = g := by rw [← hk] at e; exact Option.some.inj e
          subst this
          exact ⟨cur', hh⟩
      · exact ⟨cur, (hk.block g h.glt (by simp)).trans hcur⟩
    · exact ⟨cur, (hg.block g h.glt (fun e' => e e'.symm)).trans hcur⟩
  have hgl5 : g < w5.heap.size := Nat.lt_of_lt_of_le h.glt hg.size
  have hcells : ∀ j, j < H → w5.cell? ⟨g, j, none⟩ = some (vs.getD j undef) := by
    intro j hj
    by_cases e : u.ownBlock = some g
    · rcases hk with hk | ⟨_, hk⟩
      · have h1 := hown.cells (g := g) (hk.trans e) j (us.getD j undef) (by rw [List.getElem?_append_left (by omega)]; simp [List.getD, List.getElem?_eq_getElem (show j < us.length by omega)])
        rw [Addr.add_lit, Nat.zero_add] at h1
        rw [h1, ← h.pre]
        simp [List.getD, hj]
      · exact (World.cell?_of_block (w := wr) (a := ⟨g, j, none⟩) (hk.block g h.glt (by simp))).trans (h.cells j hj)
    · exact (World.cell?_of_block (w := wr) (a := ⟨g, j, none⟩) (hg.block g h.glt (fun e' => e e'.symm))).trans (h.cells j hj)
  have hll : LL w5 w.heap.size v' (us ++ [x]) ((qs ++ [t]).map tpl) := by
    rw [List.map_append]
    exact ⟨by rw [List.length_append]; exact hown, OwnAll.snoc (owns_kept_ty hx h.ll.row hg) (h.ll.all.mono (fun _ _ _ h' => owns_kept_ty h' h.ll.row hg))⟩
  refine ⟨⟨?_, ⟨owns_set_other hll.row hnB', hll.all.mono (fun _ _ _ h' => owns_set_other h' (owns_ne_ty h' hbox (by decide)))⟩, ?_, ?_, by simp [World.setCell]; exact hgl5, ?_, ?_⟩, hbox⟩
  · simp [World.setCell, Array.getElem?_modify, hbox]
  · rw [List.take_append_of_le_length hH]; exact h.pre
  · intro j hj
    rw [World.cell?_setCell_other _ _ _ _ (by intro e; simp only [Addr.mk.injEq] at e; exact hgB e.1.symm)]
    exact hcells j hj
  · obtain ⟨c', hc'⟩ := hgt
    exact ⟨c', by simp [World.setCell, Array.getElem?_modify, hgB.symm, hc']⟩
  · have hb5 : Below w.heap.size w w5 := h.below.grown hg h.below.size (fun g' hg' => (h.ll.row.lt g' hg').1)
    exact hb5.setCell (by exact hB) _

end Go.Proofs.YtenpkhalgkodbaaDoor
