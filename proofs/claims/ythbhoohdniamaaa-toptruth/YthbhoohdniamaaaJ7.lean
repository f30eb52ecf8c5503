/- Joined: AppK, TtD, TtO, TtA, Eql, Mirr, MirM, TtP, TtE. -/
import Derived.Test.YthbhoohdniamaaaJ0
import Derived.Maps.AppendAt
import Derived.Test.YthbhoohdniamaaaJ6
import Derived.Test.YthbhoohdniamaaaJ3
import Derived.Test.YthbhoohdniamaaaJ4
import Derived.Test.YthbhoohdniamaaaJ2
/- append, and where the new slice lies. -/
namespace Go.Proofs.Ythbhoohdniamaaa
open Go.RowKit

theorem run_append_keep {P : Program} (w : World) (base : Nat) (t ty e : TypeId) (i : TypeInfo) (z : Value) (size bytes : Nat) (ht : P.underlying t = some (.slice e)) (hi : P.info? e = some i) (hz : i.zero = some z)
    (hsize : i.size = size) (hby : i.bytes = bytes) (hzs : z.cells.size = size) (hsz : 0 < size)
    (v : Value) (n : Nat) (xs : List Value) (hown : w.ownsRow base e size v n xs)
    (a : Addr) (m c : Nat) (news : List Value) (hl : news.length = m * size) (hnews : ∀ j u, news[j]? = some u → w.cell? (a.add j) = some u) (h1 : ∀ u ∈ news, u.oneCell' = true)
    (h63 : n + m ≤ maxLen) (hbytes : (n + m) * bytes ≤ 140737488355328) (hbase : base ≤ w.heap.size) :
    ∃ v' w', (Builtin.append_ #[t, t] ty #[v, .slice (some a) m c]).run P w = .ok v' w' ∧ w'.ownsRow base e size v' (n + m) (xs ++ news) ∧ w.grownBy w' v.ownBlock ∧
      (v'.ownBlock = v.ownBlock ∨ (v'.ownBlock = some w.heap.size ∧ w.grownBy w' none)) := by
  obtain ⟨v', w', hr, h2, h3, _, h5⟩ := run_append_own_at (P := P) w base t ty e i z size bytes ht hi hz hsize hby hzs hsz v n xs hown a m c news hl hnews h1 h63 hbytes hbase
  refine ⟨v', w', hr, h2, h3, ?_⟩
  subst hsize
  subst hby
  rcases hown.2 with ⟨rfl, rfl⟩ | ⟨g, cap, cur, rfl, hbg, hg, hnc, hcm, hcs, htake⟩
  · exact h5.imp id (fun h => ⟨h, h3⟩)
  · by_cases hroom : n + m ≤ cap
    · have hfit : n * i.size + news.length ≤ cur.size := by rw [hl, hcs, ← Nat.add_mul]; exact Nat.mul_le_mul_right _ hroom
      have hr' := run_append_room (P := P) w t ty e i ht hi g n cap cur hg a m c news hl hnews h1 hroom hfit
      rw [hr] at hr'
      obtain ⟨e1, _⟩ := Result.ok.inj hr'
      left; rw [e1]; rfl
    · have holds : ∀ j u, xs[j]? = some u → w.cell? ((⟨g, 0, none⟩ : Addr).add j) = some u := hown.cells (g := g) rfl
      have hsmall : n + m ≤ 9223372036854775807 := by simp only [maxLen] at h63; omega
      have hr' := run_append_grow (P := P) w t ty e i z ht hi hz ⟨g, 0, none⟩ n cap xs hown.1 holds a m c news hl hnews (by omega) (by omega) (growslice_fits (by omega) hbytes)
      rw [hr] at hr'
      obtain ⟨e1, e2⟩ := Result.ok.inj hr'
      right
      rw [e1, e2]
      exact ⟨rfl, ⟨rfl, rfl, rfl, by simp, fun k hk _ => Below.heap_alloc w.drew _ k hk⟩⟩

theorem wpList_append_keep {P : Program} (w : World) {ops : Array Oper} {rest : List Oper} {o : Oper} {a : Act} {Q : Exit → Act → World → Prop} (hgd : o.guard = none) (s x : Operand) (t : TypeId)
    (ho : o.op = .call { callee := .builtin .append, args := #[s, x], argTypes := #[t, t] })
    (base : Nat) (e : TypeId) (i : TypeInfo) (z : Value) (size bytes : Nat) (ht : P.underlying t = some (.slice e)) (hi : P.info? e = some i) (hz : i.zero = some z)
    (hsize : i.size = size) (hby : i.bytes = bytes) (hzs : z.cells.size = size) (hsz : 0 < size)
    (v : Value) (n : Nat) (xs : List Value) (hs : a.eval s = v) (hown : w.ownsRow base e size v n xs)
    (ad : Addr) (m c : Nat) (news : List Value) (hx : a.eval x = .slice (some ad) m c) (hl : news.length = m * size) (hnews : ∀ j u, news[j]? = some u → w.cell? (ad.add j) = some u) (h1 : ∀ u ∈ news, u.oneCell' = true)
    (h63 : n + m ≤ maxLen) (hbytes : (n + m) * bytes ≤ 140737488355328) (hbase : base ≤ w.heap.size)
    (h : ∀ v' w', w'.ownsRow base e size v' (n + m) (xs ++ news) → w.grownBy w' v.ownBlock → (v'.ownBlock = v.ownBlock ∨ (v'.ownBlock = some w.heap.size ∧ w.grownBy w' none)) → wpList P ops Q rest (a.put o.dst v') w') :
    wpList P ops Q (o :: rest) a w := by
  refine wpList_plain hgd fun K hK => ?_
  obtain ⟨v', w', hr, h2, h3, h4⟩ := run_append_keep (P := P) w base t o.type e i z size bytes ht hi hz hsize hby hzs hsz v n xs hown ad m c news hl hnews h1 h63 hbytes hbase
  unfold Oper.wp execOp
  simp only [ho, resolve, invoke, builtin, Sem.run_bind, Sem.run_pure, Result.andThen_ok, List.map_toArray, List.map_cons, List.map_nil, hs, hx, hr]
  exact hK _ _ (h v' w' h2 h3 h4)

/-- .. as one step of a region that draws. -/
theorem step_append_keep {P : Program} {ops : Array Oper} {o : Oper} {a : Act} {w : World} {K : Act → World → Prop} {Q : Exit → Act → World → Prop} {E : Prop} (hg : o.guard = none) (s x : Operand) (t : TypeId)
    (ho : o.op = .call { callee := .builtin .append, args := #[s, x], argTypes := #[t, t] })
    (base : Nat) (e : TypeId) (i : TypeInfo) (z : Value) (size bytes : Nat) (ht : P.underlying t = some (.slice e)) (hi : P.info? e = some i) (hz : i.zero = some z)
    (hsize : i.size = size) (hby : i.bytes = bytes) (hzs : z.cells.size = size) (hsz : 0 < size)
    (v : Value) (n : Nat) (xs : List Value) (hs : a.eval s = v) (hown : w.ownsRow base e size v n xs)
    (ad : Addr) (m c : Nat) (news : List Value) (hx : a.eval x = .slice (some ad) m c) (hl : news.length = m * size) (hnews : ∀ j u, news[j]? = some u → w.cell? (ad.add j) = some u) (h1 : ∀ u ∈ news, u.oneCell' = true)
    (h63 : n + m ≤ maxLen) (hbytes : (n + m) * bytes ≤ 140737488355328) (hbase : base ≤ w.heap.size)
    (h : ∀ v' w', w'.ownsRow base e size v' (n + m) (xs ++ news) → w.grownBy w' v.ownBlock → (v'.ownBlock = v.ownBlock ∨ (v'.ownBlock = some w.heap.size ∧ w.grownBy w' none)) → K (a.put o.dst v') w') :
    if Region.wanted o (yielded ops a.tmps) = true then Oper.wp P o a w K Q else E := by
  have hw : Region.wanted o (yielded ops a.tmps) = true := by simp [Region.wanted, hg]
  rw [if_pos hw]
  obtain ⟨v', w', hr, h2, h3, h4⟩ := run_append_keep (P := P) w base t o.type e i z size bytes ht hi hz hsize hby hzs hsz v n xs hown ad m c news hl hnews h1 h63 hbytes hbase
  unfold Oper.wp execOp
  simp only [ho, resolve, invoke, builtin, Sem.run_bind, Sem.run_pure, Result.andThen_ok, List.map_toArray, List.map_cons, List.map_nil, hs, hx, hr]
  exact h v' w' h2 h3 h4

end Go.Proofs.Ythbhoohdniamaaa

/- Contract: truth.Heads, over what call.Rows tells. -/
namespace Go.Proofs.Ythbhoohdniamaaa
open Go.RowKit

/-- What call.Rows tells. -/
def RowsPost (T : List (List Int)) (w : World) (e : Ending) (w' : World) : Prop := ∃ u vs, e = .returned (.tuple #[u, .int .i64 0]) ∧ LL w' w.heap.size u vs T ∧ Below w.heap.size w w'

theorem LL.keptRow {w w' : World} {base : Nat} {v : Value} {vs : List Value} {xss : List (List Int)} {u : Value} {k : Nat} {us : List Value} (h : LL w base v vs xss) (hu : w.ownsRow base 22 1 u k us) (hg : w.grownBy w' u.ownBlock) (hne : v.ownBlock = none ∨ v.ownBlock ≠ u.ownBlock) : LL w' base v vs xss :=
  ⟨h.row.kept hg hne, h.all.mono (fun _ _ _ h' => owns_kept_ty h' hu hg)⟩

theorem Box.keep {w w' : World} {b B : Nat} {s : ByteArray} {n : Int} {v : Value} (h : Box w b s n v) (hb : Below B w w') (hlt : b < B) : Box w' b s n v :=
  ⟨(hb.cell (p := ⟨b, 0, none⟩) hlt).trans h.c0, (hb.cell (p := ⟨b, 1, none⟩) hlt).trans h.c1, (hb.cell (p := ⟨b, 2, none⟩) hlt).trans h.c2, Nat.lt_of_lt_of_le h.lt hb.size⟩

/-- The heads. -/
def headsOf (T : List (List Int)) (k N : Nat) : List (List Int) := (List.range N).map (fun i => T.getD (i * k) [])

theorem headsOf_snoc (T : List (List Int)) (k j : Nat) : headsOf T k (j + 1) = headsOf T k j ++ [T.getD (j * k) []] := by
  unfold headsOf
  rw [List.range_succ, List.map_append]
  rfl

set_option maxRecDepth 20000 in
set_option maxHeartbeats 4000000 in
theorem heads_ok (s : ByteArray) (n : Nat) (vp : Option Addr) (k vc : Nat) (cv : Value) (lp : Option Addr) (N lc : Nat) (T : List (List Int)) (w : World) (hk : 1 ≤ k) (hN : N ≤ 400) (hk2 : k ≤ 200) (hT : T.length = N * k + 1)
    (hR : ∀ W, Below w.heap.size w W → Calls Try.prog 23 #[meth s n (.slice vp k vc), cv, .slice lp N lc] W (RowsPost T W)) :
    Calls Try.prog 26 #[meth s n (.slice vp k vc), cv, .slice lp N lc] w fun e w' => ∃ u vs, e = .returned (.tuple #[u, .int .i64 0]) ∧ LL w' w.heap.size u vs (headsOf T k N) ∧ Below w.heap.size w w' := by
  obtain ⟨j0, hji, hq0, hq1, hq2⟩ := info_parts Try.info22
  have HR := hide (hR _ ((Below.refl w.heap.size w).alloc (Nat.le_refl _) (.cells #[.string s, .int .i64 n, .slice vp k vc] 26)))
  have HT := hide hT
  clear hR hT
  unfold meth at HR
  unfold meth
  go_enter Try.func26, Try.ntmps26
  go_wp2_with fail
  refine HR.out.mono ?_
  rintro e w1 ⟨u, vs, rfl, hL1, hb1⟩
  have hB1 : Below w.heap.size w w1 := ((Below.refl _ _).alloc (Nat.le_refl _) _).trans (hb1.mono (by simp))
  have hx := (Box.start w s n (.slice vp k vc) 26).below hb1
  have hL1' := hL1.low (show w.heap.size + 1 ≤ _ by simp)
  have hvl : vs.length = N * k + 1 := by rw [hL1.len, HT.out]
  have hr1 := hL1'.row
  rw [hvl] at hr1
  obtain ⟨gu, cu, rfl, hgu1, hgu2, hcu1, hcu2⟩ := owns_form hr1 (by omega)
  have hbs1 := hB1.size
  have HX := hide hx
  have HL1 := hide hL1'
  have HVL := hide hvl
  clear hL1 hb1 hL1' hr1 hx HR hvl
  go_wp2
  go_loopw [10, 24] (fun hv i wr => ∃ (j : Nat) (hs : List Value), j ≤ N ∧ i = .int .i64 j ∧ Hid (LL wr (w.heap.size + 1) hv hs (headsOf T k j)) ∧ Hid (LL wr (w.heap.size + 1) (.slice (some ⟨gu, 0, none⟩) (N * k + 1) cu) vs T) ∧ Hid (Box wr w.heap.size s n (.slice vp k vc)) ∧ Hid (hv.ownBlock = none ∨ hv.ownBlock ≠ some gu) ∧ Below w.heap.size w wr) (fun _ i _ => N - (intOf i).toNat)
  case atStart => exact ⟨0, [], by omega, rfl, LL.nil _ _, HL1, HX, Or.inl rfl, hB1⟩
  case round =>
    obtain ⟨j, hs, hj, rfl, hH, hL, hX, hsep, hbw⟩ := hrel
    clear HL1 HX hB1 hbs1
    have hbs := hbw.size
    have hxl := hX.out.lt
    obtain ⟨hp, hc, rfl⟩ := owns_slice hH.out.row
    by_cases hlt : j < N
    · have hjk : j * k < N * k + 1 := Nat.lt_succ_of_lt (Nat.mul_lt_mul_of_pos_right hlt hk)
      have hbig : N * k ≤ 400 * 200 := Nat.mul_le_mul hN hk2
      have hr := hL.out.row
      rw [HVL.out] at hr
      have gc := owns_val hr hjk
      have hat := hL.out.at (k := j * k) (by rw [HT.out]; exact hjk)
      have HSN := hide (headsOf_snoc T k j)
      have g2 := hX.out.c2
      obtain ⟨ep, ec, hee⟩ := owns_slice hat
      rw [hee] at gc hat
      have hhl : hs.length = j := by rw [hH.out.len]; simp [headsOf]
      obtain ⟨P, hP⟩ : ∃ P, P = j * k := ⟨_, rfl⟩
      have hmi : (j : Int) * (k : Int) = (P : Int) := by rw [hP]; exact (Int.natCast_mul j k).symm
      rw [← hP] at gc hat HSN hjk
      have hPb : P ≤ 80000 := by rw [hP]; exact Nat.le_trans (Nat.mul_le_mul (Nat.le_of_lt hlt) (Nat.le_refl k)) hbig
      have HAT := hide hat
      have hrow := hH.out.row
      have hhb : hs.length ≤ 400 := by omega
      clear hhl
      generalize hel : (T.getD P []).length = el at *
      clear hat hee hr hP hbig
      go_wp2_with (at_builtin; refine wpList_append_keep _ rfl _ _ 24 rfl (w.heap.size + 1) 22 j0 (.slice none 0 0) 1 24 Try.underlying24 hji hq0 hq1 hq2 rfl (by decide) _ _ _ rfl (hrow.alloc _) ⟨wr.heap.size, 0, none⟩ 1 1 [.slice ep el ec] rfl rfl ?c1 ?c2 ?c3 ?c4 ?c5 ?_)
      case c1 => exact cell_one_new _ _ _
      case c2 => intro u hu; simp at hu; subst hu; rfl
      case c3 => unfold maxLen; omega
      case c4 => omega
      case c5 => simp; omega
      · intro v' w5 hown5 hg5 hk5
        have hL5 := hH.out.push (X := T.getD P []) (by rw [hel]; exact HAT.out) hown5 hg5
        rw [← HSN.out] at hL5
        have hT5 := LL.keptRow (hL.out.below ((Below.refl _ _).alloc (Nat.le_refl _) _)) (hrow.alloc _) hg5 (by
          rcases hsep.out with h9 | h9
          · right; rw [h9]; exact fun e => by cases e
          · right; exact fun e => h9 e.symm)
        have hb5 := hH.out.step (Below.refl (w.heap.size + 1) wr) (Nat.le_refl _) (by omega) hg5
        have hbw5 : Below w.heap.size w w5 := hbw.trans (hb5.mono (by omega))
        have HX5 := hide (hX.out.keep hb5 (Nat.lt_succ_self _))
        have HS5 : Hid (v'.ownBlock = none ∨ v'.ownBlock ≠ some gu) := by
          rcases hk5 with h9 | ⟨h9, _⟩
          · rw [h9]; exact hsep.out
          · refine Or.inr (fun e => ?_)
            rw [h9] at e
            have e2 : wr.heap.size + 1 = gu := Option.some.inj e
            have := (hL.out.row.lt gu rfl).2
            omega
        have HL5 := hide hL5
        have HT5 := hide hT5
        clear hL5 hT5 hb5 hown5 hg5 hk5 hH hL hX hsep hrow
        go_wp2
        go_roundw
        case rel => exact ⟨j + 1, _, by omega, by go_num, HL5, HT5, HX5, HS5, hbw5⟩
        case measure => simp [intOf]; omega
    · obtain rfl : j = N := by omega
      have HF := hide hH.out
      clear hH hL hX hsep
      go_wp2
      go_ret2
      exact ⟨_, hs, rfl, HF.out.low (Nat.le_succ _), hbw⟩

end Go.Proofs.Ythbhoohdniamaaa

/- Contract: call.leadOf: the rows of a lead that ends with a call. -/
namespace Go.Proofs.Ythbhoohdniamaaa
open Go.RowKit

theorem IntsAll.cut {w : World} {b off K cap k : Nat} {X : List (List Int)} (h : IntsAll w (.slice (some ⟨b, off, none⟩) K cap) X) (hl : X.length = K) (hk : k ≤ K) : IntsAll w (.slice (some ⟨b, off, none⟩) k cap) (X.take k) := by
  obtain ⟨vs, h1, h2, h3⟩ := h
  rcases Nat.eq_zero_or_pos k with rfl | h0
  · exact ⟨[], Or.inl ⟨rfl, _, _, rfl⟩, by simp, fun j hj => by simp at hj⟩
  rcases h1 with ⟨rfl, _⟩ | ⟨b', off', cap', e, h4, h5, h6, h7, h8⟩
  · simp at h2; omega
  obtain ⟨⟨rfl, rfl⟩, _, rfl⟩ : (b = b' ∧ off = off') ∧ K = vs.length ∧ cap = cap' := by
    simpa using e
  refine ⟨vs.take k, Or.inr ⟨b, off, cap, ?_, ?_, ?_, h6, h7, fun j hj => ?_⟩, ?_, fun j hj => ?_⟩
  · rw [List.length_take, Nat.min_eq_left (by omega)]
  · rw [List.length_take]; omega
  · rw [List.length_take]; omega
  · rw [List.length_take] at hj
    rw [h8 j (by omega)]
    simp [List.getD, show j < k by omega]
  · rw [List.length_take, List.length_take, h2]
  · rw [List.length_take] at hj
    have e1 : (vs.take k).getD j undef = vs.getD j undef := by simp [List.getD, show j < k by omega]
    have e2 : (X.take k).getD j [] = X.getD j [] := by simp [List.getD, show j < k by omega]
    rw [e1, e2]
    exact h3 j (by omega)

/-- The changes of a lead that ends with a call. -/
def calledBy (ts ss : List (List Bool)) : List (List Bool) := ts.take (ts.length - ss.length) ++ ss

theorem calledBy_length {ts ss : List (List Bool)} (h : ss.length ≤ ts.length) : (calledBy ts ss).length = ts.length := by
  unfold calledBy; rw [List.length_append, List.length_take]; omega

theorem calledBy_mem {n : Nat} {ts ss : List (List Bool)} (h1 : ∀ t, t ∈ ts → tsz t = n) (h2 : ∀ t, t ∈ ss → tsz t = n) : ∀ t, t ∈ calledBy ts ss → tsz t = n := by
  intro t ht
  rcases List.mem_append.1 ht with h | h
  · exact h1 t (List.mem_of_mem_take h)
  · exact h2 t h

set_option maxRecDepth 20000 in
set_option maxHeartbeats 4000000 in
theorem leadOf_ok (s : ByteArray) (n : Nat) (vp : Option Addr) (vc : Nat) (ts : List (List Bool)) (sg : Int) (up : Option Addr) (uc : Nat) (ss : List (List Bool)) (w : World) (h1 : 1 ≤ n) (h12 : n ≤ 12) (hl1 : 1 ≤ ts.length) (hl2 : ts.length ≤ 200)
    (hts : ∀ t, t ∈ ts → tsz t = n) (hv : IntsAll w (.slice vp ts.length vc) (ts.map tpl)) (hss : ∀ t, t ∈ ss → tsz t = n) (hu : IntsAll w (.slice up ss.length uc) (ss.map tpl)) (hle : ss.length ≤ ts.length) :
    Calls Try.prog 45 #[meth s n (.slice vp ts.length vc), .agg #[.int .i32 sg, .slice up ss.length uc]] w fun e w' => ∃ u vs, e = .returned u ∧ LL w' w.heap.size u vs ((calledBy ts ss).map trow) ∧ Below w.heap.size w w' := by
  obtain ⟨j0, hji, hq0, hq1, hq2⟩ := info_parts Try.info22
  obtain ⟨b, off, cap, hve, hbl, hc1, hc2, hxx⟩ := hv.cell (by rw [List.length_map]; exact hl1)
  obtain ⟨rfl, rfl⟩ : vp = some ⟨b, off, none⟩ ∧ vc = cap := by simpa using hve
  clear hxx
  rw [List.length_map] at hc1
  have hcut := hv.cut (k := ts.length - ss.length) (List.length_map _) (by omega)
  have hB0 : Below w.heap.size w ((w.alloc (.cells #[.string s, .int .i64 n, .slice (some ⟨b, off, none⟩) ts.length vc] 26)).alloc (.cells #[.int .i32 sg, .slice up ss.length uc] 54)) := ((Below.refl _ _).alloc (Nat.le_refl _) _).alloc (by simp) _
  have hB1 := hB0.alloc hB0.size (.cells #[.slice (some ⟨b, off, none⟩) (ts.length - ss.length) vc, .slice up ss.length uc] 24)
  have hnew := heap_alloc_new ((w.alloc (.cells #[.string s, .int .i64 n, .slice (some ⟨b, off, none⟩) ts.length vc] 26)).alloc (.cells #[.int .i32 sg, .slice up ss.length uc] 54)) (.cells #[.slice (some ⟨b, off, none⟩) (ts.length - ss.length) vc, .slice up ss.length uc] 24)
  have hbox := ((Box.start w s n (.slice (some ⟨b, off, none⟩) ts.length vc) 26).below ((Below.refl _ _).alloc (Nat.le_refl _) (.cells #[.int .i32 sg, .slice up ss.length uc] 54))).below ((Below.refl _ _).alloc (Nat.le_refl _) (.cells #[.slice (some ⟨b, off, none⟩) (ts.length - ss.length) vc, .slice up ss.length uc] 24))
  have HCO := hide (concat_ok (w.heap.size + 2) _ _ _ _ (((w.alloc (.cells #[.string s, .int .i64 n, .slice (some ⟨b, off, none⟩) ts.length vc] 26)).alloc (.cells #[.int .i32 sg, .slice up ss.length uc] 54)).alloc (.cells #[.slice (some ⟨b, off, none⟩) (ts.length - ss.length) vc, .slice up ss.length uc] 24)) (by simp) (by
      rw [show ((w.alloc (.cells #[.string s, .int .i64 n, .slice (some ⟨b, off, none⟩) ts.length vc] 26)).alloc (.cells #[.int .i32 sg, .slice up ss.length uc] 54)).heap.size = w.heap.size + 2 from by simp] at hnew
      unfold World.cell?; simp only [hnew]; rfl) (by
      rw [show ((w.alloc (.cells #[.string s, .int .i64 n, .slice (some ⟨b, off, none⟩) ts.length vc] 26)).alloc (.cells #[.int .i32 sg, .slice up ss.length uc] 54)).heap.size = w.heap.size + 2 from by simp] at hnew
      unfold World.cell?; simp only [hnew]; rfl) (hcut.below hB1) (hu.below hB1) (by rw [List.length_take, List.length_map, List.length_map]; omega) (by rw [List.length_take, List.length_map]; omega) (by rw [List.length_map]; omega))
  rw [← List.map_take, ← List.map_append, show ts.take (ts.length - ss.length) ++ ss = calledBy ts ss from rfl] at HCO
  have HZL := hide (calledBy_length hle)
  have HZM := hide (calledBy_mem hts hss)
  have HBX := hide hbox
  have HB1 := hide hB1
  clear hts hss hv hu hcut hbox hnew hB1 hB0 hve
  generalize calledBy ts ss = Z at *
  generalize ts.length = K at *
  generalize ss.length = M at *
  obtain ⟨D, rfl⟩ : ∃ D, K = D + M := ⟨K - M, by omega⟩
  rw [show D + M - M = D from by omega] at HCO HBX HB1
  unfold meth
  go_enter Try.func45, Try.ntmps45
  go_wp2_with fail
  refine HCO.out.mono ?_
  rintro e w1 ⟨v, rfl, hI1, hb1⟩
  have hB1 : Below w.heap.size w w1 := HB1.out.trans (hb1.mono HB1.out.size)
  have hx1 := HBX.out.below hb1
  obtain ⟨zb, zo, zc, hve, hzb, hzc, hzm, hzcell⟩ := hI1.cell (by rw [List.length_map, HZL.out]; omega)
  rw [List.length_map, HZL.out] at hve hzc
  subst hve
  have HX1 := hide hx1
  have HZC := hide hzcell
  have hbs1 := hB1.size
  clear HCO HBX HB1 hb1 hx1 hI1 hzcell
  go_wp2
  go_loopw [6, 27] (fun hv i wr => ∃ (j : Nat) (vs : List Value), j ≤ D + M ∧ i = .int .i64 j ∧ Hid (vs.length = j) ∧ Hid (LL wr w1.heap.size hv vs ((Z.take j).map trow)) ∧ Below w1.heap.size w1 wr) (fun _ i _ => D + M - (intOf i).toNat)
  case atStart => exact ⟨0, [], by omega, rfl, (show ([] : List Value).length = 0 from rfl), LL.nil _ _, Below.refl _ _⟩
  case round =>
    obtain ⟨j, vs, hj, rfl, hvl, hL, hbw⟩ := hrel
    have hbs := hbw.size
    obtain ⟨hp, hc, rfl⟩ := owns_slice hL.out.row
    by_cases hlt : j < D + M
    · have hjz : j < Z.length := by rw [HZL.out]; exact hlt
      obtain ⟨p, c, gx, hix⟩ := HZC.out j (by rw [List.length_map]; exact hjz)
      have ht : tsz Z[j] = n := HZM.out _ (List.getElem_mem hjz)
      have hix2 := hix.out
      have hgk : (Z.map tpl).getD j [] = tpl Z[j] := by simp [List.getD, hjz]
      rw [hgk] at hix2 gx
      have gy := (hbw.cell (p := ⟨zb, zo + j, none⟩) hzb).trans gx
      have HRow := hide (prow_ok Z[j] n _ wr ht h1 h12 (hix2.below hbw))
      have HTN : Hid ((Z.take (j + 1)).map trow = (Z.take j).map trow ++ [trow Z[j]]) := by show _ = _; rw [List.take_succ_eq_append_getElem hjz, List.map_append]; rfl
      have HTL : Hid ((trow Z[j]).length = n) := by show _ = _; rw [trow_length, ht]
      have gb := (HX1.out.below hbw).c1
      generalize Z[j] = t at *
      generalize (tpl t).length = pl at *
      clear gx hix hix2 hgk ht
      have hvl2 := hvl.out
      rw [hvl2]
      go_wp2_with fail
      refine HRow.out.mono ?_
      rintro e w3 ⟨rv, rfl, hrv, hb3⟩
      have hL3 := hL.out.below hb3
      have hbs3 := hb3.size
      have hbw3 : Below w1.heap.size w1 w3 := hbw.trans (hb3.mono hbs)
      have hrv2 := owns_base hrv hbs
      obtain ⟨rp, rc, rfl⟩ := owns_slice hrv2
      have hrow := hL3.row
      have HL3 := hide hL3
      rw [hvl2] at hrow
      have HRV := hide hrv2
      clear hL hrv hrv2 hL3 HRow hb3
      go_wp2_with (at_builtin; refine wpList_append_keep _ rfl _ _ 24 rfl w1.heap.size 22 j0 (.slice none 0 0) 1 24 Try.underlying24 hji hq0 hq1 hq2 rfl (by decide) _ _ _ rfl (hrow.alloc _) ⟨w3.heap.size, 0, none⟩ 1 1 [.slice rp n rc] rfl rfl ?c1 ?c2 ?c3 ?c4 ?c5 ?_)
      case c1 => exact cell_one_new _ _ _
      case c2 => intro u hu; simp at hu; subst hu; rfl
      case c3 => unfold maxLen; omega
      case c4 => omega
      case c5 => simp; omega
      · intro v' w5 hown5 hg5 _
        have hg5' := hg5
        rw [← hvl2] at hown5 hg5'
        have hL5 := HL3.out.push (X := trow t) (by rw [HTL.out]; exact HRV.out) hown5 hg5'
        rw [← HTN.out] at hL5
        have HB5 := hide (HL3.out.step hbw3 (Nat.le_refl _) (by omega) hg5')
        have HL5 := hide hL5
        have HV5 : Hid ((vs ++ [Value.slice rp n rc]).length = j + 1) := by show _ = _; rw [List.length_append, hvl2]; rfl
        clear hL5 hown5 hg5 hg5' hrow
        go_wp2
        go_roundw
        case rel => exact ⟨j + 1, _, by omega, by go_num, HV5, HL5, HB5.out⟩
        case measure => simp [intOf]; omega
    · obtain rfl : j = D + M := by omega
      have hF := hL.out
      rw [show Z.take (D + M) = Z from by rw [← HZL.out]; exact List.take_length] at hF
      have HF := hide hF
      clear hL hF
      go_wp2
      go_ret
      exact ⟨_, vs, rfl, HF.out.low hbs1, hB1.trans (hbw.mono hbs1)⟩

end Go.Proofs.Ythbhoohdniamaaa

/- Plain: BOTH PROOFS AGREE: the rows of leads are unlike just when those of the first lead are, the heads are, and no two heads are a false one apart. -/
namespace Go.Proofs.Ythbhoohdniamaaa
open Go.RowKit

/-- The rows of leads with these heads. -/
def touchRows (Hs P : List (List Int)) : List (List Int) := Hs.flatMap (fun h => P.map (fun p => by_ h p))

theorem by_cancel {n : Nat} (h12 : n ≤ 12) {h a b : List Int} (hh : Rw n h) (ha : Rw n a) (hb : Rw n b) (e : by_ h a = by_ h b) : a = b := by
  refine Rw.eq h12 ha hb ?_
  have := congrArg pad e
  rw [hh.pad_by h12 ha, hh.pad_by h12 hb] at this
  exact Pm.mul_cancel this

/-- Rows of two leads are one just when what makes one head of the other makes one of their rows of the other. -/
theorem by_meet {n : Nat} (h12 : n ≤ 12) {h h' a b : List Int} (hh : Rw n h) (hh' : Rw n h') (ha : Rw n a) (hb : Rw n b) : by_ h a = by_ h' b ↔ by_ (un h) h' = by_ a (un b) := by
  constructor
  · intro e
    refine Rw.eq h12 (hh.un.by hh') (ha.by hb.un) ?_
    have e' := congrArg pad e
    rw [hh.pad_by h12 ha, hh'.pad_by h12 hb] at e'
    rw [hh.un.pad_by h12 hh', ha.pad_by h12 hb.un, hh.pad_un h12, hb.pad_un h12]
    refine Pm.mul_cancel (x := pad h) ?_
    rw [Pm.mul_inv_cancel, ← Pm.mul_assoc, e', Pm.mul_assoc, Pm.mul_inv, Pm.mul_one]
  · intro e
    refine Rw.eq h12 (hh.by ha) (hh'.by hb) ?_
    have e' := congrArg pad e
    rw [hh.un.pad_by h12 hh', ha.pad_by h12 hb.un, hh.pad_un h12, hb.pad_un h12] at e'
    rw [hh.pad_by h12 ha, hh'.pad_by h12 hb]
    have e2 : pad h' = pad h * (pad a * (pad b)⁻¹) := by rw [← e', Pm.mul_inv_cancel]
    rw [e2, Pm.mul_assoc, Pm.mul_assoc, Pm.inv_mul, Pm.mul_one]

theorem by_un_rnd {n : Nat} (h12 : n ≤ 12) {h h' : List Int} (hh : Rw n h) (hh' : Rw n h') : by_ (un h) h' = rnd n ↔ h = h' := by
  constructor
  · intro e
    refine Rw.eq h12 hh hh' ?_
    have e' := congrArg pad e
    rw [hh.un.pad_by h12 hh', hh.pad_un h12, pad_rnd h12] at e'
    rw [← Pm.mul_one (pad h), ← e', Pm.mul_inv_cancel]
  · rintro rfl
    refine Rw.eq h12 (hh.un.by hh) (Rw.rnd n) ?_
    rw [hh.un.pad_by h12 hh, hh.pad_un h12, Pm.inv_mul, pad_rnd h12]

theorem apart_iff {n : Nat} (h12 : n ≤ 12) {P : List (List Int)} (hP : ∀ p, p ∈ P → Rw n p) (h0 : P ≠ []) {h h' : List Int} (hh : Rw n h) (hh' : Rw n h') :
    (∀ x, x ∈ P.map (fun p => by_ h p) → ∀ y, y ∈ P.map (fun p => by_ h' p) → x ≠ y) ↔ (h ≠ h' ∧ by_ (un h) h' ∉ hds n P) := by
  have hm : ∀ d, d ∈ hds n P ↔ d ∈ pr P ∧ d ≠ rnd n := (hdsTo_fact n (pr P)).2.1
  constructor
  · intro H
    obtain ⟨p0, hp0⟩ := List.exists_mem_of_ne_nil P h0
    refine ⟨fun e => ?_, fun hd => ?_⟩
    · subst e
      exact H _ (List.mem_map.2 ⟨p0, hp0, rfl⟩) _ (List.mem_map.2 ⟨p0, hp0, rfl⟩) rfl
    · obtain ⟨one, h1, other, h2, e⟩ := pr_mem.1 ((hm _).1 hd).1
      exact H _ (List.mem_map.2 ⟨other, h2, rfl⟩) _ (List.mem_map.2 ⟨one, h1, rfl⟩) ((by_meet h12 hh hh' (hP _ h2) (hP _ h1)).2 e.symm)
  · rintro ⟨hne, hnd⟩ x hx y hy e
    obtain ⟨a, ha, rfl⟩ := List.mem_map.1 hx
    obtain ⟨b, hb, rfl⟩ := List.mem_map.1 hy
    have e2 := (by_meet h12 hh hh' (hP _ ha) (hP _ hb)).1 e
    refine hnd ((hm _).2 ⟨pr_mem.2 ⟨b, hb, a, ha, e2.symm⟩, fun e3 => ?_⟩)
    exact hne ((by_un_rnd h12 hh hh').1 e3)

theorem both_proofs {n : Nat} (h12 : n ≤ 12) {Hs P : List (List Int)} (hP : ∀ p, p ∈ P → Rw n p) (hH : ∀ h, h ∈ Hs → Rw n h) (h0 : P ≠ []) (h1 : Hs ≠ []) :
    (touchRows Hs P).Nodup ↔ (P.Nodup ∧ Hs.Nodup ∧ Hs.Pairwise (fun h h' => by_ (un h) h' ∉ hds n P)) := by
  unfold touchRows List.Nodup
  rw [List.pairwise_flatMap]
  have e1 : (∀ h, h ∈ Hs → List.Pairwise (· ≠ ·) (P.map (fun p => by_ h p))) ↔ List.Pairwise (· ≠ ·) P := by
    have key : ∀ h, h ∈ Hs → (List.Pairwise (· ≠ ·) (P.map (fun p => by_ h p)) ↔ List.Pairwise (· ≠ ·) P) := by
      intro h hh
      rw [List.pairwise_map]
      exact List.Pairwise.iff_of_mem (fun {a b} ha hb => ⟨fun hne e => hne (by rw [e]), fun hne e => hne (by_cancel h12 (hH h hh) (hP a ha) (hP b hb) e)⟩)
    obtain ⟨h, hh⟩ := List.exists_mem_of_ne_nil Hs h1
    exact ⟨fun H => (key h hh).1 (H h hh), fun H h hh => (key h hh).2 H⟩
  have e2 : List.Pairwise (fun h h' => ∀ x, x ∈ P.map (fun p => by_ h p) → ∀ y, y ∈ P.map (fun p => by_ h' p) → x ≠ y) Hs ↔ (List.Pairwise (· ≠ ·) Hs ∧ Hs.Pairwise (fun h h' => by_ (un h) h' ∉ hds n P)) := by
    rw [← List.pairwise_and_iff]
    exact List.Pairwise.iff_of_mem (fun {a b} ha hb => apart_iff h12 hP h0 (hH a ha) (hH b hb))
  constructor
  · rintro ⟨a, b⟩
    exact ⟨e1.1 a, e2.1 b⟩
  · rintro ⟨a, b⟩
    exact ⟨e1.2 a, e2.2 b⟩

end Go.Proofs.Ythbhoohdniamaaa

/- Contract: slices.Equal of lists of ints. -/
namespace Go.Proofs.Ythbhoohdniamaaa
open Go.RowKit

set_option maxHeartbeats 800000 in
theorem equal_any (v1 v2 : Value) (xs ys : List Int) (w : World) (h1 : Ints w v1 xs) (h2 : Ints w v2 ys) :
    Calls Try.prog 25 #[v1, v2] w fun e w' => e = .returned (.bool (decide (xs = ys))) ∧ Below w.heap.size w w' := by
  by_cases hlen : xs.length = ys.length
  · rcases h1 with ⟨rfl, p, c, rfl⟩ | ⟨b, off, cap, rfl, h0, hc, hm, hb, hcell⟩
    · obtain rfl : ys = [] := List.length_eq_zero_iff.1 (by simpa using hlen.symm)
      obtain ⟨p2, c2, rfl⟩ := h2.form
      clear h2
      go_enter Try.func25, Try.ntmps25
      go_wp2
      go_loop [13] (fun i => i = .int .i64 0) (fun _ => 0)
      case atStart => rfl
      case round =>
        subst hrel
        go_wp2
        go_ret
        exact ⟨rfl, Below.refl _ _⟩
    · rcases h2 with ⟨rfl, p, c, rfl⟩ | ⟨b2, off2, cap2, rfl, h02, hc2, hm2, hb2, hcell2⟩
      · simp at hlen; subst hlen; simp at h0
      · have hl : (((xs.length : Nat) : Int) != ((ys.length : Nat) : Int)) = false := by rw [hlen]; simp
        have HL : Hid (xs.length = ys.length) := hlen
        clear hlen
        go_enter Try.func25, Try.ntmps25
        go_wp2
        go_loopw [13] (fun i wr => ∃ k : Nat, k ≤ xs.length ∧ i = .int .i64 k ∧ Hid (xs.take k = ys.take k) ∧ Below w.heap.size w wr) (fun i _ => xs.length - (intOf i).toNat)
        case atStart => exact ⟨0, by omega, rfl, by simp [Hid], Below.refl _ _⟩
        case round =>
          obtain ⟨k, hk, rfl, ht, hbw⟩ := hrel
          by_cases hlt : k < xs.length
          · have hlt2 : k < ys.length := by have := HL.out; omega
            obtain ⟨x, hx, hcx⟩ := cellAt hcell hlt
            obtain ⟨y, hy, hcy⟩ := cellAt hcell2 hlt2
            have gx : wr.cell? ⟨b, off + k, none⟩ = some (.int .i64 x) := (hbw.cell (by exact hb)).trans hcx
            have gy : wr.cell? ⟨b2, off2 + k, none⟩ = some (.int .i64 y) := (hbw.cell (by exact hb2)).trans hcy
            clear hcx hcy hcell hcell2
            by_cases hxy : x = y
            · subst hxy
              go_wp2
              go_region
              all_goals
                go_wp2
                go_roundw
                case rel => exact ⟨k + 1, by omega, by go_num, take_eq_snoc ht.out hlt hlt2 (by rw [hx.out, hy.out]), by first | exact hbw | exact hbw.drew | exact hbw.drew.drew⟩
                case measure => simp [intOf]; omega
            · have hne : (x != y) = true := by simpa using hxy
              have HXY : Hid (¬ x = y) := hxy
              clear hxy
              go_wp2
              go_region
              all_goals
                go_wp2
                go_ret
                refine ⟨ret_bool ?_, by first | exact hbw | exact hbw.drew | exact hbw.drew.drew⟩
                symm
                rw [decide_eq_false_iff_not]
                intro e
                exact HXY.out (by rw [← hx.out, ← hy.out, e])
          · clear hcell hcell2
            go_wp2
            go_ret
            refine ⟨ret_bool ?_, hbw⟩
            symm
            rw [decide_eq_true_iff]
            have h3 := ht.out
            have h4 := HL.out
            rwa [List.take_of_length_le (by omega), List.take_of_length_le (by omega)] at h3
  · obtain ⟨p1, c1, rfl⟩ := h1.form
    obtain ⟨p2, c2, rfl⟩ := h2.form
    have hl : (((xs.length : Nat) : Int) != ((ys.length : Nat) : Int)) = true := by rw [bne_iff_ne]; omega
    have hd : decide (xs = ys) = false := by rw [decide_eq_false_iff_not]; intro e; exact hlen (by rw [e])
    clear hlen h1 h2
    go_enter Try.func25, Try.ntmps25
    go_wp2
    go_ret
    exact ⟨ret_bool hd.symm, Below.refl _ _⟩

end Go.Proofs.Ythbhoohdniamaaa

/- Contracts: slices.Equal, method.Mirrored. -/
namespace Go.Proofs.Ythbhoohdniamaaa
open Go.RowKit

/-- Are lists, but for the last one, the same from the back? -/
def Mir (css : List (List Int)) : Prop := ∀ i, i < css.length - 1 → css.getD i [] = css.getD (css.length - 2 - i) []

theorem ret_b0 {a b : Bool} (h : a = b) : Ending.returned (.tuple #[.bool a, .int .i64 0]) = .returned (.tuple #[.bool b, .int .i64 0]) := by rw [h]

end Go.Proofs.Ythbhoohdniamaaa

/- Plain: what is mirrored comes back. Memory: a list that grows behind another header of it, in a struct. -/
namespace Go.Proofs.Ythbhoohdniamaaa
open Go.RowKit

theorem by_rnd_left {n : Nat} {X : List Int} (h : ∀ y ∈ X, 0 ≤ y ∧ y < (n : Nat)) : by_ (rnd n) X = X := by
  unfold by_
  conv => rhs; rw [← List.map_id X]
  apply List.map_congr_left
  intro y hy
  have := h y hy
  rw [rnd_get (by omega)]
  show _ = y
  omega

theorem by_rnd_right {X : List Int} : by_ X (rnd X.length) = X := by
  refine ext_getD (by rw [by_length, rnd_length]) (fun j hj => ?_)
  rw [by_length, rnd_length] at hj
  rw [by_get (by rw [rnd_length]; exact hj), rnd_get hj, Int.toNat_natCast]

theorem fold_by (n : Nat) : ∀ (ts : List (List Bool)) (r : List Int), r.length = n → (∀ t, t ∈ ts → tsz t = n) → ts.foldl (fun r t => by_ r (trow t)) r = by_ r (prd n ts)
  | [], r, hr, _ => by show r = by_ r (rnd n); rw [← hr, by_rnd_right]
  | t :: ts, r, hr, h => by
    have ht : tsz t = n := h t (by simp)
    have hs : ∀ t', t' ∈ ts → tsz t' = n := fun t' ht' => h t' (List.mem_cons_of_mem _ ht')
    have hp := prd_row n ts hs
    have e1 : (t :: ts).foldl (fun r t => by_ r (trow t)) r = by_ (by_ r (trow t)) (prd n ts) := fold_by n ts _ (by rw [by_length, trow_length, ht]) hs
    have e2 : prd n (t :: ts) = by_ (by_ (rnd n) (trow t)) (prd n ts) := fold_by n ts _ (by rw [by_length, trow_length, ht]) hs
    rw [e1, e2, by_rnd_left (fun y hy => by rw [← ht]; exact trow_mem t y hy), by_assoc hp.1 (by rw [hp.2, trow_length, ht])]

theorem prd_cons {n : Nat} {t : List Bool} {ts : List (List Bool)} (ht : tsz t = n) (h : ∀ t, t ∈ ts → tsz t = n) : prd n (t :: ts) = by_ (trow t) (prd n ts) := by
  have e2 : prd n (t :: ts) = by_ (by_ (rnd n) (trow t)) (prd n ts) := fold_by n ts _ (by rw [by_length, trow_length, ht]) h
  rw [e2, by_rnd_left (fun y hy => by rw [← ht]; exact trow_mem t y hy)]

theorem prd_rev (n : Nat) : ∀ (ts : List (List Bool)), (∀ t, t ∈ ts → tsz t = n) → by_ (prd n ts) (prd n ts.reverse) = rnd n
  | [], _ => by
    show by_ (rnd n) (rnd n) = rnd n
    have := by_rnd_right (X := rnd n)
    rwa [rnd_length] at this
  | t :: ts, h => by
    have ht : tsz t = n := h t (by simp)
    have hs : ∀ t', t' ∈ ts → tsz t' = n := fun t' ht' => h t' (List.mem_cons_of_mem _ ht')
    have hsr : ∀ t', t' ∈ ts.reverse → tsz t' = n := fun t' ht' => hs t' (by simpa using ht')
    have ih := prd_rev n ts hs
    have hA := prd_row n ts hs
    have hB := prd_row n ts.reverse hsr
    have hBT := isRow_by hB.1 (trow_row t) (by rw [trow_length, ht, hB.2])
    rw [List.reverse_cons, prd_snoc, prd_cons ht hs, by_assoc hBT (by rw [by_length, trow_length, ht, hA.2]), ← by_assoc (trow_row t) (by rw [trow_length, ht, hB.2]), ih,
      by_rnd_left (fun y hy => by rw [← ht]; exact trow_mem t y hy), trow_twice, ht]

/-- There, and back but for the turn. -/
def pal (ts : List (List Bool)) : List (List Bool) := ts ++ ts.dropLast.reverse

theorem pal_rev {ts : List (List Bool)} (h : 1 ≤ ts.length) : (pal ts).reverse = pal ts := by
  obtain ⟨dl, c, rfl⟩ : ∃ dl c, ts = dl ++ [c] := by
    rcases List.eq_nil_or_concat ts with rfl | ⟨l, b, rfl⟩
    · simp at h
    · exact ⟨l, b, by simp⟩
  simp [pal]

theorem pal_mem {n : Nat} {ts : List (List Bool)} (h : ∀ t, t ∈ ts → tsz t = n) : ∀ t, t ∈ pal ts → tsz t = n := by
  intro t ht
  rcases List.mem_append.1 ht with h' | h'
  · exact h t h'
  · exact h t ((List.dropLast_sublist ts).subset (by simpa using h'))

theorem pal_length {ts : List (List Bool)} (h : 1 ≤ ts.length) : (pal ts).length = 2 * ts.length - 1 := by
  simp [pal]; omega

theorem pal_twice {n : Nat} {ts : List (List Bool)} (hl : 1 ≤ ts.length) (h : ∀ t, t ∈ ts → tsz t = n) : by_ (prd n (pal ts)) (prd n (pal ts)) = rnd n := by
  have := prd_rev n (pal ts) (pal_mem h)
  rwa [pal_rev hl] at this

theorem pal_mir {ts : List (List Bool)} (hl : 1 ≤ ts.length) (q : List Bool) : Mir ((pal ts ++ [q]).map tpl) := by
  intro i hi
  have hlen : ((pal ts ++ [q]).map tpl).length = (pal ts).length + 1 := by simp
  rw [hlen] at hi ⊢
  have hi' : i < (pal ts).length := by omega
  have hk : (pal ts).length + 1 - 2 - i < (pal ts).length := by omega
  have e : (pal ts)[i] = (pal ts)[(pal ts).length + 1 - 2 - i] := by
    have h1 : (pal ts).reverse[i]'(by rw [List.length_reverse]; exact hi') = (pal ts)[(pal ts).length - 1 - i] := by rw [List.getElem_reverse]
    have h2 : (pal ts).reverse[i]'(by rw [List.length_reverse]; exact hi') = (pal ts)[i] := by
      congr 1
      exact pal_rev hl
    rw [← h2, h1]
    congr 1
  have g : ∀ k (hk : k < (pal ts).length), ((pal ts ++ [q]).map tpl).getD k [] = tpl (pal ts)[k] := by
    intro k hk
    rw [List.map_append]
    simp only [List.getD]
    rw [List.getElem?_append_left (by simpa using hk), List.getElem?_map, List.getElem?_eq_getElem hk]
    rfl
  rw [g i hi', g _ hk, e]

/-- The changes so far, when the next one to be told back is the d-th. -/
def sofar (ts : List (List Bool)) (d : Nat) : List (List Bool) := ts ++ (ts.dropLast.drop d).reverse

theorem sofar_start (ts : List (List Bool)) : sofar ts (ts.length - 1) = ts := by
  unfold sofar; rw [List.drop_of_length_le (by simp)]; simp

theorem sofar_end (ts : List (List Bool)) : sofar ts 0 = pal ts := by unfold sofar pal; simp

theorem sofar_step {ts : List (List Bool)} {d : Nat} (h : d < ts.length - 1) : sofar ts d = sofar ts (d + 1) ++ [ts[d]'(by omega)] := by
  have hd : d < ts.dropLast.length := by simp; omega
  unfold sofar
  rw [List.drop_eq_getElem_cons hd, List.reverse_cons, List.append_assoc, List.getElem_dropLast]

/-! memory -/

theorem owns_ne_ty {w : World} {base e n B : Nat} {v : Value} {xs : List Value} {c : Array Value} {t : TypeId} (h : w.ownsRow base e 1 v n xs) (hB : w.heap[B]? = some (.cells c t)) (hne : t ≠ e) : v.ownBlock ≠ some B := by
  rcases h.2 with ⟨rfl, _⟩ | ⟨g, cap, cur, rfl, _, hh, _⟩
  · intro h; cases h
  · intro h
    have e1 : g = B := Option.some.inj h
    subst e1
    rw [hB] at hh
    injection hh with hh
    injection hh with _ h2
    exact hne h2

theorem owns_set_other {w : World} {base e n B j : Nat} {v x : Value} {xs : List Value} (h : w.ownsRow base e 1 v n xs) (hne : v.ownBlock ≠ some B) : (w.setCell ⟨B, j, none⟩ x).ownsRow base e 1 v n xs := by
  refine ⟨h.1, ?_⟩
  rcases h.2 with h2 | ⟨g, cap, cur, rfl, hg, hh, r⟩
  · exact Or.inl h2
  · refine Or.inr ⟨g, cap, cur, rfl, hg, ?_, r⟩
    have : B ≠ g := fun e => hne (by rw [e]; rfl)
    simp [World.setCell, Array.getElem?_modify, this, hh]

/-- What the loop of TopMirror knows. -/
structure MirRel (w wr : World) (B n : Nat) (s : ByteArray) (g H : Nat) (vs : List Value) (u : Value) (us : List Value) (qs : List (List Bool)) : Prop where
  box : wr.heap[B]? = some (.cells #[.string s, .int .i64 n, u] 26)
  ll : LL wr w.heap.size u us (qs.map tpl)
  pre : us.take H = vs
  cells : ∀ j, j < H → wr.cell? ⟨g, j, none⟩ = some (vs.getD j undef)
  glt : g < wr.heap.size
  gty : ∃ cur, wr.heap[g]? = some (.cells cur 22)
  below : Below w.heap.size w wr

theorem MirRel.later {w wr w' : World} {B n : Nat} {s : ByteArray} {g H : Nat} {vs : List Value} {u : Value} {us : List Value} {qs : List (List Bool)} (h : MirRel w wr B n s g H vs u us qs) (hb : Below wr.heap.size wr w') : MirRel w w' B n s g H vs u us qs := by
  have hBl : B < wr.heap.size := (Array.getElem?_eq_some_iff.1 h.box).1
  obtain ⟨cur, hc⟩ := h.gty
  exact ⟨(hb.block B hBl).trans h.box, h.ll.below hb, h.pre, fun j hj => (hb.cell (p := ⟨g, j, none⟩) h.glt).trans (h.cells j hj), Nat.lt_of_lt_of_le h.glt hb.size, ⟨cur, (hb.block g h.glt).trans hc⟩, h.below.trans (hb.mono h.below.size)⟩

/-- One more list behind. -/
theorem MirRel.step {w wr w5 : World} {B n : Nat} {s : ByteArray} {g H : Nat} {vs : List Value} {u v' x : Value} {us : List Value} {qs : List (List Bool)} {t : List Bool} (h : MirRel w wr B n s g H vs u us qs) (hB : w.heap.size ≤ B) (hH : H ≤ us.length)
    (hx : wr.ownsRow w.heap.size 3 1 x (tpl t).length ((tpl t).map (Value.int .i64)))
    (hown : w5.ownsRow w.heap.size 22 1 v' (us.length + 1) (us ++ [x])) (hg : wr.grownBy w5 u.ownBlock) (hk : v'.ownBlock = u.ownBlock ∨ (v'.ownBlock = some wr.heap.size ∧ wr.grownBy w5 none)) :
    MirRel w (w5.setCell ⟨B, 2, none⟩ v') B n s g H vs v' (us ++ [x]) (qs ++ [t]) ∧ w5.heap[B]? = some (.cells #[.string s, .int .i64 n, u] 26) := by
  have hBl : B < wr.heap.size := (Array.getElem?_eq_some_iff.1 h.box).1
  have hnB : u.ownBlock ≠ some B := owns_ne_ty h.ll.row h.box (by decide)
  have hbox : w5.heap[B]? = some (.cells #[.string s, .int .i64 n, u] 26) := (hg.block B hBl (fun e => hnB e.symm)).trans h.box
  have hnB' : v'.ownBlock ≠ some B := owns_ne_ty hown hbox (by decide)
  obtain ⟨cur, hcur⟩ := h.gty
  have hgB : g ≠ B := by
    intro e
    subst e
    rw [h.box] at hcur
    injection hcur with hcur
    injection hcur with _ h2
    exact absurd h2 (by decide)
  -- the block of the first header
  have hgt : ∃ cur', w5.heap[g]? = some (.cells cur' 22) := by
    by_cases e : u.ownBlock = some g
    · rcases hk with hk | ⟨_, hk⟩
      · rcases hown.2 with ⟨rfl, _⟩ | ⟨g', cap', cur', rfl, _, hh, _⟩
        · rw [← hk] at e; cases e
        · have : g' = g := by rw [← hk] at e; exact Option.some.inj e
          subst this
          exact ⟨cur', hh⟩
      · exact ⟨cur, (hk.block g h.glt (by simp)).trans hcur⟩
    · exact ⟨cur, (hg.block g h.glt (fun e' => e e'.symm)).trans hcur⟩
  have hgl5 : g < w5.heap.size := Nat.lt_of_lt_of_le h.glt hg.size
  have hcells : ∀ j, j < H → w5.cell? ⟨g, j, none⟩ = some (vs.getD j undef) := by
    intro j hj
    by_cases e : u.ownBlock = some g
    · rcases hk with hk | ⟨_, hk⟩
      · have h1 := hown.cells (g := g) (hk.trans e) j (us.getD j undef) (by rw [List.getElem?_append_left (by omega)]; simp [List.getD, List.getElem?_eq_getElem (show j < us.length by omega)])
        rw [Addr.add_lit, Nat.zero_add] at h1
        rw [h1, ← h.pre]
        simp [List.getD, hj]
      · exact (World.cell?_of_block (w := wr) (a := ⟨g, j, none⟩) (hk.block g h.glt (by simp))).trans (h.cells j hj)
    · exact (World.cell?_of_block (w := wr) (a := ⟨g, j, none⟩) (hg.block g h.glt (fun e' => e e'.symm))).trans (h.cells j hj)
  have hll : LL w5 w.heap.size v' (us ++ [x]) ((qs ++ [t]).map tpl) := by
    rw [List.map_append]
    exact ⟨by rw [List.length_append]; exact hown, OwnAll.snoc (owns_kept_ty hx h.ll.row hg) (h.ll.all.mono (fun _ _ _ h' => owns_kept_ty h' h.ll.row hg))⟩
  refine ⟨⟨?_, ⟨owns_set_other hll.row hnB', hll.all.mono (fun _ _ _ h' => owns_set_other h' (owns_ne_ty h' hbox (by decide)))⟩, ?_, ?_, by simp [World.setCell]; exact hgl5, ?_, ?_⟩, hbox⟩
  · simp [World.setCell, Array.getElem?_modify, hbox]
  · rw [List.take_append_of_le_length hH]; exact h.pre
  · intro j hj
    rw [World.cell?_setCell_other _ _ _ _ (by intro e; simp only [Addr.mk.injEq] at e; exact hgB e.1.symm)]
    exact hcells j hj
  · obtain ⟨c', hc'⟩ := hgt
    exact ⟨c', by simp [World.setCell, Array.getElem?_modify, hgB.symm, hc']⟩
  · have hb5 : Below w.heap.size w w5 := h.below.grown hg h.below.size (fun g' hg' => (h.ll.row.lt g' hg').1)
    exact hb5.setCell (by exact hB) _

end Go.Proofs.Ythbhoohdniamaaa

/- Plain: the rows of a touch are its leads' heads, changed by the rows of the first lead. -/
namespace Go.Proofs.Ythbhoohdniamaaa
open Go.RowKit

theorem touchRows_snoc (Hs P : List (List Int)) (h : List Int) : touchRows (Hs ++ [h]) P = touchRows Hs P ++ P.map (fun p => by_ h p) := by
  simp [touchRows, List.flatMap_append]

theorem take_more {α : Type} (T : List α) (a K : Nat) : T.take (a + K) = T.take a ++ (T.drop a).take K := by
  rw [List.take_add]

theorem prd_append {n : Nat} (a b : List (List Bool)) (ha : ∀ t, t ∈ a → tsz t = n) (hb : ∀ t, t ∈ b → tsz t = n) : prd n (a ++ b) = by_ (prd n a) (prd n b) := by
  rw [← fold_by n b (prd n a) (prd_row n a ha).2 hb]
  simp [prd, List.foldl_append]

/-- The rows of a touch whose leads have all changes but the last in common. -/
theorem touch_rows {n N K : Nat} {ts F : List (List Bool)} (hK : 1 ≤ K) (hts : ts.length = K) (hF : F.length = N * K)
    (hFn : ∀ t, t ∈ F → tsz t = n) (htn : ∀ t, t ∈ ts → tsz t = n) (hd : ∀ m q, m < N → q < K → (F.drop (m * K)).take q = ts.take q) :
    ∀ m, m ≤ N → (leadTo n F (N * K)).take (m * K) = touchRows (headsOf (leadTo n F (N * K)) K m) (ldr n ts)
  | 0, _ => by simp [headsOf, touchRows]
  | m + 1, hm => by
    have ih := touch_rows hK hts hF hFn htn hd m (by omega)
    rw [headsOf_snoc, touchRows_snoc, ← ih, Nat.succ_mul, take_more]
    congr 1
    have hmK : m * K + K ≤ N * K := by rw [← Nat.succ_mul]; exact Nat.mul_le_mul_right _ hm
    refine List.ext_getElem (by simp [leadTo_length, ldr_length, hts]; omega) (fun q h1 h2 => ?_)
    have hq : q < K := by rw [List.length_take] at h1; omega
    rw [List.getElem_take, List.getElem_drop, List.getElem_map]
    have g1 := leadTo_get (n := n) (ts := F) (k := N * K) (j := m * K + q) (by omega)
    have g2 := leadTo_get (n := n) (ts := F) (k := N * K) (j := m * K) (by omega)
    have g3 := leadTo_get (n := n) (ts := ts) (k := ts.length) (j := q) (by omega)
    have l1 : m * K + q < (leadTo n F (N * K)).length := by rw [leadTo_length]; omega
    have l3 : q < (leadTo n ts ts.length).length := by rw [leadTo_length]; omega
    rw [List.getD_eq_getElem?_getD, List.getElem?_eq_getElem l1, Option.getD_some] at g1
    rw [List.getD_eq_getElem?_getD, List.getElem?_eq_getElem l3, Option.getD_some] at g3
    have e3 : (ldr n ts)[q]'(by rw [ldr_length]; omega) = prd n (ts.take q) := by
      rw [← g3]
      simp [ldr]
    rw [g1, e3, g2, take_more, hd m q (by omega) hq]
    exact prd_append _ _ (fun t ht => hFn t (List.mem_of_mem_take ht)) (fun t ht => htn t (List.mem_of_mem_take ht))

/-- Where a lead's changes lie among all. -/
theorem flat_drop {α : Type} {K : Nat} : ∀ (G : List (List α)) (m : Nat), (∀ g, g ∈ G → g.length = K) → (h : m < G.length) → (G.flatten).drop (m * K) = G[m] ++ (G.drop (m + 1)).flatten
  | [], m, _, h => by simp at h
  | g :: G, 0, _, _ => by simp
  | g :: G, m + 1, hg, h => by
    have hl : g.length = K := hg g (by simp)
    have ih := flat_drop G m (fun g' h' => hg g' (List.mem_cons_of_mem _ h')) (by simpa using h)
    rw [List.flatten_cons, Nat.succ_mul, Nat.add_comm, ← List.drop_drop, List.drop_append_of_le_length (by omega), ← hl, List.drop_length, List.nil_append, hl, ih]
    rfl

theorem flat_length {α : Type} {K : Nat} : ∀ (G : List (List α)), (∀ g, g ∈ G → g.length = K) → G.flatten.length = G.length * K
  | [], _ => by simp
  | g :: G, hg => by
    rw [List.flatten_cons, List.length_append, flat_length G (fun g' h' => hg g' (List.mem_cons_of_mem _ h')), hg g (by simp), List.length_cons, Nat.succ_mul, Nat.add_comm]

end Go.Proofs.Ythbhoohdniamaaa

/- Calls in memory; contracts: call.Sign's rest, truth.ByHeads' closure, slices.ContainsFunc where none is found. -/
namespace Go.Proofs.Ythbhoohdniamaaa
open Go.RowKit

/-- The slice value v reads as calls: signs, and changes as places. -/
def CallsAt (w : World) (v : Value) (cs : List (Int × List (List Int))) : Prop :=
  ∃ b off cap, v = .slice (some ⟨b, off, none⟩) cs.length cap ∧ b < w.heap.size ∧ cs.length ≤ cap ∧ cap ≤ 9223372036854775807 ∧
    ∀ k, k < cs.length → ∃ u, w.cell? ⟨b, off + k * 2, none⟩ = some (.int .i32 (cs.getD k (0, [])).1) ∧ w.cell? ⟨b, off + k * 2 + 1, none⟩ = some u ∧ IntsAll w u (cs.getD k (0, [])).2

theorem CallsAt.below {w w' : World} {v : Value} {cs : List (Int × List (List Int))} (h : CallsAt w v cs) (hb : Below w.heap.size w w') : CallsAt w' v cs := by
  obtain ⟨b, off, cap, h1, h2, h3, h4, h5⟩ := h
  refine ⟨b, off, cap, h1, Nat.lt_of_lt_of_le h2 hb.size, h3, h4, fun k hk => ?_⟩
  obtain ⟨u, a1, a2, a3⟩ := h5 k hk
  exact ⟨u, (hb.cell (p := ⟨b, off + k * 2, none⟩) h2).trans a1, (hb.cell (p := ⟨b, off + k * 2 + 1, none⟩) h2).trans a2, a3.below hb⟩

theorem Try.size54 : (Try.prog.info? 54).map (·.size) = some 2 := by kernel_rfl

set_option maxRecDepth 20000 in
set_option maxHeartbeats 1000000 in
theorem longer_ok (c : Nat) (B : Nat) (v : Value) (cs : List (Int × List (List Int))) (w : World) (hB : w.cell? ⟨B, 0, none⟩ = some v) (h : CallsAt w v cs) (hc : c < cs.length) (hl : (cs.getD c (0, [])).2.length ≤ 1) :
    Calls Try.prog 28 #[.int .i64 c, .pointer (some ⟨B, 0, none⟩)] w fun e w' => e = .returned (.bool false) ∧ w = w' := by
  obtain ⟨b, off, cap, rfl, hb, hlc, hcm, hcell⟩ := h
  obtain ⟨u, a1, a2, a3⟩ := hcell c hc
  obtain ⟨up, uc, rfl⟩ := a3.len
  generalize (cs.getD c (0, [])).2.length = ul at *
  have hl2 : ¬ (1 : Int) < ((ul : Nat) : Int) := by omega
  clear hcell a3 a1
  go_enter Try.func28, Try.ntmps28
  go_wp2
  go_ret
  exact ⟨by simp, rfl⟩

set_option maxRecDepth 20000 in
set_option maxHeartbeats 1000000 in
theorem indexFunc_none (B : Nat) (v1 : Value) (ls : List Int) (w : World) (h : Ints w v1 ls) (h1 : 1 ≤ ls.length) (hcl : ∀ l, l ∈ ls → Calls Try.prog 28 #[.int .i64 l, .pointer (some ⟨B, 0, none⟩)] w fun e w' => e = .returned (.bool false) ∧ w = w') :
    Calls Try.prog 49 #[v1, .func (.func 28) #[] #[.pointer (some ⟨B, 0, none⟩)]] w fun e w' => e = .returned (.int .i64 (-1)) ∧ w = w' := by
  rcases h with ⟨rfl, _⟩ | ⟨b, off, cap, rfl, h0, hc, hm, hb, hcell⟩
  · simp at h1
  have HCL := hide hcl
  clear hcl
  go_enter Try.func49, Try.ntmps49
  go_wp2
  go_loop [8] (fun i => ∃ k : Nat, k ≤ ls.length ∧ i = .int .i64 k) (fun i => ls.length - (intOf i).toNat)
  case atStart => exact ⟨0, by omega, rfl⟩
  case round =>
    obtain ⟨k, hk, rfl⟩ := hrel
    by_cases hlt : k < ls.length
    · obtain ⟨y, hy, hcx⟩ := cellAt hcell hlt
      have hym : y ∈ ls := by
        rw [← hy.out, List.getElem?_eq_getElem hlt, Option.getD_some]
        exact List.getElem_mem _
      have HC1 := hide (HCL.out y hym)
      clear hcell hy hym
      go_wp2_with fail
      refine HC1.out.mono ?_
      rintro e w' ⟨rfl, rfl⟩
      go_wp2
      go_round
      case rel => exact ⟨k + 1, by omega, by go_num⟩
      case measure => simp [intOf]; omega
    · clear hcell
      go_wp2
      go_ret
      exact ⟨rfl, rfl⟩

set_option maxRecDepth 20000 in
set_option maxHeartbeats 1000000 in
theorem containsFunc_none (B : Nat) (v1 : Value) (ls : List Int) (w : World) (h : Ints w v1 ls) (h1 : 1 ≤ ls.length) (hcl : ∀ l, l ∈ ls → Calls Try.prog 28 #[.int .i64 l, .pointer (some ⟨B, 0, none⟩)] w fun e w' => e = .returned (.bool false) ∧ w = w') :
    Calls Try.prog 27 #[v1, .func (.func 28) #[] #[.pointer (some ⟨B, 0, none⟩)]] w fun e w' => e = .returned (.bool false) ∧ w = w' := by
  have HI := hide (indexFunc_none B v1 ls w h h1 hcl)
  obtain ⟨p, c, rfl⟩ := h.form
  clear h hcl
  go_enter Try.func27, Try.ntmps27
  go_wp2_with fail
  refine HI.out.mono ?_
  rintro e w' ⟨rfl, rfl⟩
  go_wp2
  go_ret
  exact ⟨rfl, rfl⟩

end Go.Proofs.Ythbhoohdniamaaa
