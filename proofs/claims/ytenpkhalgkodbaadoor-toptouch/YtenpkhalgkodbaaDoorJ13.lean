/- Joined: TtP, TtQ, TtR, TpW, TpX. -/
import Derived.Test.YtenpkhalgkodbaaDoorJ12
import Derived.Test.YtenpkhalgkodbaaDoorJ6
import Derived.Test.YtenpkhalgkodbaaDoorJ9
import Derived.Test.YtenpkhalgkodbaaDoorJ10
import Derived.Test.YtenpkhalgkodbaaDoorJ0
/- Plain: the rows of a touch are its leads' heads, changed by the rows of the first lead. -/
namespace Go.Proofs.YtenpkhalgkodbaaDoor
open Go.RowKit

theorem touchRows_snoc (Hs P : List (List Int)) (h : List Int) : touchRows (Hs ++ [h]) P = touchRows Hs P ++ P.map (fun p => by_ h p) := by
  simp [touchRows, List.flatMap_append]

theorem take_more {α : Type} (T : List α) (a K : Nat) : T.take (a + K) = T.take a ++ (T.drop a).take K := by
  rw [List.take_add]

theorem prd_append {n : Nat} (a b : List (List Bool)) (ha : ∀ t, t ∈ a → tsz t = n) (hb : ∀ t, t ∈ b → tsz t = n) : prd n (a ++ b) = by_ (prd n a) (prd n b) := by
  rw [← fold_by n b (prd n a) (prd_row n a ha).2 hb]
  simp [prd, List.foldl_append]

/-- The rows of a touch whose leads have all changes but the last in common. -/
theorem touch_rows {n N K : Nat} {ts F : List (List Bool)} (hK : 1 ≤ K) (hts : ts.length = K) (hF : F.length = N * K)
    (hFn : ∀ t, t ∈ F → tsz t = n) (htn : ∀ t, t ∈ ts → tsz t = n) (hd : ∀ m q, m < N → q < K → (F.drop (m * K)).take q = ts.take q) :
    ∀ m, m ≤ N → (leadTo n F (N * K)).take (m * K) = touchRows (headsOf (leadTo n F (N * K)) K m) (ldr n ts)
  | 0, _ => by simp [headsOf, touchRows]
  | m + 1, hm => by
    have ih := touch_rows hK hts hF hFn htn hd m (by omega)
    rw [headsOf_snoc, touchRows_snoc, ← ih, Nat.succ_mul, take_more]
    congr 1
    have hmK : m * K + K ≤ N * K := by rw [← Nat.succ_mul]; exact Nat.mul_le_mul_right _ hm
    refine List.ext_getElem (by simp [leadTo_length, ldr_length, hts]; omega) (fun q h1 h2 => ?_)
    have hq : q < K := by rw [List.length_take] at h1; omega
    rw [List.getElem_take, List.getElem_drop, List.getElem_map]
    have g1 := leadTo_get (n := n) (ts := F) (k := N * K) (j := m * K + q) (by omega)
    have g2 := leadTo_get (n := n) (ts := F) (k := N * K) (j := m * K) (by omega)
    have g3 := leadTo_get (n := n) (ts := ts) (k := ts.length) (j := q) (by omega)
    have l1 : m * K + q < (leadTo n F (N * K)).length := by rw [leadTo_length]; omega
    have l3 : q < (leadTo n ts ts.length).length := by rw [leadTo_length]; omega
    rw [List.getD_eq_getElem?_getD, List.getElem?_eq_getElem l1, Option.getD_some] at g1
    rw [List.getD_eq_getElem?_getD, List.getElem?_eq_getElem l3, Option.getD_some] at g3
    have e3 : (ldr n ts)[q]'(by rw [ldr_length]; omega) = prd n (ts.take q) := by
      rw [← g3]
      simp [ldr]
    rw [g1, e3, g2, take_more, hd m q (by omega) hq]
    exact prd_append _ _ (fun t ht => hFn t (List.mem_of_mem_take ht)) (fun t ht => htn t (List.mem_of_mem_take ht))

/-- Where a lead's changes lie among all. -/
theorem flat_drop {α : Type} {K : Nat} : ∀ (G : List (List α)) (m : Nat), (∀ g, g ∈ G → g.length = K) → (h : m < G.length) → (G.flatten).drop (m * K) = G[m] ++ (G.drop (m + 1)).flatten
  | [], m, _, h => by simp at h
  | g :: G, 0, _, _ => by simp
  | g :: G, m + 1, hg, h => by
    have hl : g.length = K := hg g (by simp)
    have ih := flat_drop G m (fun g' h' => hg g' (List.mem_cons_of_mem _ h')) (by simpa using h)
    rw [List.flatten_cons, Nat.succ_mul, Nat.add_comm, ← List.drop_drop, List.drop_append_of_le_length (by omega), ← hl, List.drop_length, List.nil_append, hl, ih]
    rfl

theorem flat_length {α : Type} {K : Nat} : ∀ (G : List (List α)), (∀ g, g ∈ G → g.length = K) → G.flatten.length = G.length * K
  | [], _ => by simp
  | g :: G, hg => by
    rw [List.flatten_cons, List.length_append, flat_length G (fun g' h' => hg g' (List.mem_cons_of_mem _ h')), hg g (by simp), List.length_cons, Nat.succ_mul, Nat.add_comm]

end Go.Proofs.YtenpkhalgkodbaaDoor

/- Contract: call.Rows. -/
namespace Go.Proofs.YtenpkhalgkodbaaDoor
open Go.RowKit

theorem Tryd.info22 : (Tryd.prog.info? 22).map (fun i => (i.zero, i.size, i.bytes)) = some (some (.slice none 0 0), 1, 24) := by kernel_rfl

/-- The leads of the calls, as rows. -/
structure LLL (ts : List (List Bool)) (SS : List (List (List Bool))) (w : World) (base : Nat) (v : Value) (us : List Value) : Prop where
  row : w.ownsRow base 22 1 v us.length us
  all : ∀ k, k < us.length → ∃ vs, LL w base (us.getD k undef) vs ((calledBy ts (SS.getD k [])).map trow)

theorem LLL.nil (ts : List (List Bool)) (SS : List (List (List Bool))) (w : World) (base : Nat) : LLL ts SS w base (.slice none 0 0) [] := ⟨World.ownsRow_nil _ _ _ _, fun k hk => by simp at hk⟩

theorem LLL.below {ts : List (List Bool)} {SS : List (List (List Bool))} {w w' : World} {base : Nat} {v : Value} {us : List Value} (h : LLL ts SS w base v us) (hb : Below w.heap.size w w') : LLL ts SS w' base v us :=
  ⟨owns_below h.row hb (Nat.le_refl _), fun k hk => by obtain ⟨vs, hv⟩ := h.all k hk; exact ⟨vs, hv.below hb⟩⟩

theorem LLL.push {ts : List (List Bool)} {SS : List (List (List Bool))} {w w4 : World} {base : Nat} {v v' u : Value} {us vs : List Value} {o : Obj} (h : LLL ts SS w base v us) (hu : LL w base u vs ((calledBy ts (SS.getD us.length [])).map trow))
    (hown : w4.ownsRow base 22 1 v' (us.length + 1) (us ++ [u])) (hg : (w.alloc o).grownBy w4 v.ownBlock) : LLL ts SS w4 base v' (us ++ [u]) := by
  have keep : ∀ {x : Value} {ys : List Value} {X : List (List Int)}, LL w base x ys X → LL w4 base x ys X := fun hx =>
    ⟨owns_call (hx.row.alloc o) (h.row.alloc o) hg (by decide), hx.all.mono (fun _ _ _ h' => owns_call (h'.alloc o) (h.row.alloc o) hg (by decide))⟩
  refine ⟨by rw [List.length_append]; exact hown, fun k hk => ?_⟩
  rw [List.length_append, List.length_singleton] at hk
  by_cases hlt : k < us.length
  · obtain ⟨ys, hy⟩ := h.all k hlt
    refine ⟨ys, ?_⟩
    rw [show (us ++ [u]).getD k undef = us.getD k undef from by simp [List.getD, List.getElem?_append_left hlt]]
    exact keep hy
  · obtain rfl : k = us.length := by omega
    refine ⟨vs, ?_⟩
    rw [show (us ++ [u]).getD us.length undef = u from by simp [List.getD]]
    exact keep hu

/-- All changes of a touch. -/
def allOf (ts : List (List Bool)) (SS : List (List (List Bool))) (ls : List Int) : List (List Bool) := (ls.map (fun l => calledBy ts (SS.getD l.toNat []))).flatten

/-- Rows in the making, and the last of them. -/
structure RR (base n : Nat) (F : List (List Bool)) (w : World) (k : Nat) (r rows : Value) (vs : List Value) : Prop where
  ll : LL w base rows vs (leadTo n F k)
  row : w.ownsRow base 3 1 r n ((prd n (F.take k)).map (Value.int .i64))

theorem flat_next {α : Type} {K : Nat} (G : List (List α)) (hG : ∀ g, g ∈ G → g.length = K) {i q : Nat} (hi : i < G.length) {g : List α} (hg : G[i] = g) (hq : q < g.length) : G.flatten.take (i * K + q + 1) = G.flatten.take (i * K + q) ++ [g[q]] := by
  have h1 := flat_drop G i hG hi
  rw [hg] at h1
  rw [Nat.add_assoc, take_more _ (i * K) (q + 1), take_more _ (i * K) q, h1, List.append_assoc, List.take_append_of_le_length (by omega), List.take_append_of_le_length (by omega), List.take_succ_eq_append_getElem hq]

set_option maxRecDepth 20000 in
set_option maxHeartbeats 4000000 in
theorem crows_ok (s : ByteArray) (n : Nat) (vp : Option Addr) (vc : Nat) (ts : List (List Bool)) (cv : Value) (cs : List (Int × List (List Int))) (SS : List (List (List Bool))) (lv : Value) (ls : List Int) (w : World) (hs : s.size ≤ 9223372036854775807) (hn : nm s = true) (h1 : 2 ≤ n) (h2 : n ≤ 12) (hl1 : 1 ≤ ts.length) (hl2 : ts.length ≤ 200)
    (hts : ∀ t, t ∈ ts → tsz t = n) (hv : IntsAll w (.slice vp ts.length vc) (ts.map tpl)) (hcv : CallsAt w cv cs) (hco : CallsOk n ts.length cs) (hc1 : 1 ≤ cs.length) (hc2 : cs.length ≤ 8)
    (hSS : ∀ c, c < cs.length → (cs.getD c (0, [])).2 = (SS.getD c []).map tpl ∧ (∀ t, t ∈ SS.getD c [] → tsz t = n) ∧ (SS.getD c []).length ≤ ts.length)
    (hl : Ints w lv ls) (hN1 : 1 ≤ ls.length) (hN2 : ls.length ≤ 400) (hin : ∀ l, l ∈ ls → 0 ≤ l ∧ l < (cs.length : Int)) (hm : ls.length * ts.length ≤ 20000) :
    Calls Tryd.prog 13 #[meth s n (.slice vp ts.length vc), cv, lv] w (RowsPost (leadTo n (allOf ts SS ls) (ls.length * ts.length)) w) := by
  obtain ⟨i0, hi0, hz0, hz1, hz2⟩ := info_parts Tryd.info22
  obtain ⟨j0, hji, hq0, hq1, hq2⟩ := info_parts Tryd.info26
  have hB0 : Below w.heap.size w (w.alloc (.cells #[.string s, .int .i64 n, .slice vp ts.length vc] 24)) := (Below.refl _ _).alloc (Nat.le_refl _) _
  have hmay := may_ok s n vp vc (ts.map tpl) cv cs lv ls (w.alloc (.cells #[.string s, .int .i64 n, .slice vp ts.length vc] 24)) hs hn h1 h2 (by rw [List.length_map]; exact hl1) (by rw [List.length_map]; exact hl2) (by rw [List.length_map]; exact hv.below hB0) (fun k hk => tile_ok hts hk) (hcv.below hB0) (by rw [List.length_map]; exact hco) hc1 hc2 (hl.below hB0) hN1 hN2 hin (by rw [List.length_map]; exact hm)
  rw [List.length_map] at hmay
  have HM := hide hmay
  have hbox := Box.start w s n (.slice vp ts.length vc) 24
  obtain ⟨b, off, cap, rfl, hb, hlc, hcm, hcell⟩ := hcv
  obtain ⟨lp, lc, rfl⟩ := hl.form
  have HC := hide hcell
  have HSS := hide hSS
  have HBX := hide hbox
  have HI := hide hl
  have HIN := hide hin
  have HTS := hide hts
  have HV := hide hv
  clear hmay hbox hcell hSS hin hts hv hn hco hl
  unfold meth at HM
  unfold meth
  go_enter Tryd.func13, Tryd.ntmps13
  go_wp2_with fail
  refine HM.out.mono ?_
  rintro e w1 ⟨rfl, hb1⟩
  have hB1 : Below w.heap.size w w1 := hB0.trans (hb1.mono (by simp))
  have HX1 := hide (HBX.out.below hb1)
  clear HM HBX hb1 hB0
  go_wp2
  go_loopw [9, 28] (fun hv i wr => ∃ (j : Nat) (us : List Value), j ≤ cs.length ∧ i = .int .i64 j ∧ Hid (us.length = j) ∧ Hid (LLL ts SS wr (w.heap.size + 1) hv us) ∧ Hid (Box wr w.heap.size s n (.slice vp ts.length vc)) ∧ Below w.heap.size w wr) (fun _ i _ => cs.length - (intOf i).toNat)
  case atStart => exact ⟨0, [], by omega, rfl, (show ([] : List Value).length = 0 from rfl), LLL.nil _ _ _ _, HX1, hB1⟩
  case round =>
    clear HX1 hB1
    obtain ⟨j, us, hj, rfl, hul, hL, hX, hbw⟩ := hrel
    have hbs := hbw.size
    have hxl := hX.out.lt
    obtain ⟨hp, hc, rfl⟩ := owns_slice hL.out.row
    have hul2 := hul.out
    by_cases hlt : j < cs.length
    · obtain ⟨u, a1, a2, a3⟩ := HC.out j hlt
      obtain ⟨s1, s2, s3⟩ := HSS.out j hlt
      have g1 : wr.cell? ⟨b, off + j * 2, none⟩ = some (.int .i32 (cs.getD j (0, [])).1) := (hbw.cell (by exact hb)).trans a1
      have g2 : wr.cell? ⟨b, off + j * 2 + 1, none⟩ = some u := (hbw.cell (p := ⟨b, off + j * 2 + 1, none⟩) (by exact hb)).trans a2
      rw [s1] at a3
      obtain ⟨up, uc, rfl⟩ := a3.len
      rw [List.length_map] at a3 g2
      have b0 := hX.out.c0
      have b1 := hX.out.c1
      have b2 := hX.out.c2
      have HLO := hide (fun W (hW : Below w.heap.size w W) => leadOf_ok s n vp vc ts (cs.getD j (0, [])).1 up uc (SS.getD j []) W (by omega) h2 hl1 hl2 HTS.out (HV.out.below hW) s2 (a3.below hW) s3)
      clear a1 a2 a3 s1 s2 s3
      generalize (cs.getD j (0, [])).1 = sg at *
      rw [hul2]
      unfold meth at HLO
      have HBA := hide (hbw.alloc hbs (.cells #[.int .i32 sg, .slice up (SS.getD j []).length uc] 50))
      have HXA := hide (hX.out.below ((Below.refl _ _).alloc (Nat.le_refl _) (.cells #[.int .i32 sg, .slice up (SS.getD j []).length uc] 50)))
      have HLA := hide (hL.out.below ((Below.refl _ _).alloc (Nat.le_refl _) (.cells #[.int .i32 sg, .slice up (SS.getD j []).length uc] 50)))
      have hSA : wr.heap.size + 1 = (wr.alloc (.cells #[.int .i32 sg, .slice up (SS.getD j []).length uc] 50)).heap.size := by simp
      clear hX hL
      generalize (SS.getD j []).length = sl at *
      go_wp2_with fail
      refine (HLO.out _ HBA.out).mono ?_
      rintro e w3 ⟨u, vs, rfl, hLu, hb3⟩
      have hbs3 := hb3.size
      rw [← hSA] at hbs3
      have hL3 := HLA.out.below hb3
      have HX3 := hide (HXA.out.below hb3)
      have hbw3 : Below w.heap.size w w3 := HBA.out.trans (hb3.mono HBA.out.size)
      have hLu2 := hLu.low (show w.heap.size + 1 ≤ _ by rw [← hSA]; omega)
      rw [← hul2] at hLu2
      obtain ⟨ap, ac, rfl⟩ := owns_slice hLu2.row
      have hvl3 : vs.length ≤ 200 := by rw [hLu2.len, List.length_map, calledBy_length (HSS.out us.length (by omega)).2.2]; exact hl2
      have hrow := hL3.row
      have HL3 := hide hL3
      have HLU := hide hLu2
      rw [hul2] at hrow
      clear hLu hLu2 hL3 hb3 HLO HXA HLA HBA
      generalize vs.length = al at *
      go_wp2_with (at_builtin; refine wpList_append_own _ rfl _ _ 65 rfl (w.heap.size + 1) 22 i0 (.slice none 0 0) 1 24 Tryd.underlying65 hi0 hz0 hz1 hz2 rfl (by decide) _ _ _ rfl (hrow.alloc _) ⟨w3.heap.size, 0, none⟩ 1 1 [.slice ap al ac] rfl rfl ?c1 ?c2 ?c3 ?c4 ?c5 ?_)
      case c1 => exact cell_one_new _ _ _
      case c2 => intro u hu; simp at hu; subst hu; rfl
      case c3 => unfold maxLen; omega
      case c4 => omega
      case c5 => simp; omega
      · intro v' w5 hown5 hg5 _
        rw [← hul2] at hown5 hg5
        have HL5 := hide (HL3.out.push HLU.out hown5 hg5)
        have hb5 : Below (w.heap.size + 1) w3 w5 := ((Below.refl _ _).alloc (by omega) _).grown hg5 (by simp; omega) (fun g hg => (HL3.out.row.lt g hg).1)
        have HX5 := hide (HX3.out.keep hb5 (Nat.lt_succ_self _))
        have HV5 : Hid ((us ++ [Value.slice ap al ac]).length = j + 1) := by show _ = _; rw [List.length_append, hul2]; rfl
        have HB5 := hide (hbw3.trans (hb5.mono (Nat.le_succ _)))
        clear hown5 hg5 hb5 hrow HL3 HLU HX3
        go_wp2
        go_roundw
        case rel => exact ⟨j + 1, _, by omega, by go_num, HV5, HL5, HX5, HB5.out⟩
        case measure => simp [intOf]; omega
    · obtain rfl : j = cs.length := by omega
      obtain ⟨W0, hW0⟩ : ∃ W, W = wr := ⟨wr, rfl⟩
      subst hW0
      have hr0 := hL.out.row
      rw [hul2] at hr0
      obtain ⟨gb, gc, hge, hgb1, hgb2, hgc1, hgc2⟩ := owns_form hr0 (by omega)
      have hge' : hp = some ⟨gb, 0, none⟩ ∧ hc = gc := by simpa using hge
      obtain ⟨rfl, rfl⟩ := hge'
      have g1 := hX.out.c1
      have HR0 := hide hr0
      rw [hul2]
      clear hge hr0
      go_wp2_with fail
      refine (rounds_ok n W0 (by omega) h2).mono ?_
      rintro e w2 ⟨r0, rfl, hro, hb2⟩
      obtain ⟨rg, rc, rfl, hrg1, hrg2, hrc, hrc2⟩ := owns_form hro (by omega)
      have hbs2 := hb2.size
      have HRR : Hid (RR W0.heap.size n (allOf ts SS ls) (w2.alloc (.cells #[.slice (some ⟨rg, 0, none⟩) n rc] 26)) (0 * ts.length) (.slice (some ⟨rg, 0, none⟩) n rc) (.slice (some ⟨w2.heap.size, 0, none⟩) 1 1) [.slice (some ⟨rg, 0, none⟩) n rc]) := by
        rw [Nat.zero_mul]
        exact ⟨LL.one (X := rnd n) (by rw [rnd_length]; exact hro) hbs2, hro.alloc _⟩
      have HB2 := hide (hb2.alloc hbs2 (.cells #[.slice (some ⟨rg, 0, none⟩) n rc] 26))
      have hGl : ∀ g, g ∈ ls.map (fun l => calledBy ts (SS.getD l.toNat [])) → g.length = ts.length := by
        intro g hg
        obtain ⟨l, hl, rfl⟩ := List.mem_map.1 hg
        obtain ⟨l1, l2⟩ := HIN.out l hl
        exact calledBy_length (HSS.out l.toNat (by omega)).2.2
      have HGL := hide hGl
      have HFM : Hid (∀ t, t ∈ allOf ts SS ls → tsz t = n) := by
        show ∀ t, _ → _
        intro t ht
        obtain ⟨g, hg, htg⟩ := List.mem_flatten.1 ht
        obtain ⟨l, hl, rfl⟩ := List.mem_map.1 hg
        obtain ⟨l1, l2⟩ := HIN.out l hl
        exact calledBy_mem HTS.out (HSS.out l.toNat (by omega)).2.1 t htg
      clear hro hb2 hGl g1
      have HLLL := hide hL.out
      have hW0s := hbs
      have hW0b := hbw
      clear hL hX
      go_wp2
      go_loopw [12, 14, 49] (fun r rows i wr => ∃ (k : Nat) (vs : List Value), k ≤ ls.length ∧ i = .int .i64 k ∧ Hid (RR W0.heap.size n (allOf ts SS ls) wr (k * ts.length) r rows vs) ∧ Below W0.heap.size W0 wr) (fun _ _ i _ => ls.length - (intOf i).toNat)
      case atStart => exact ⟨0, _, by omega, rfl, HRR, HB2.out⟩
      case round =>
        clear HRR HB2
        obtain ⟨k, vs, hk, rfl, hR, hbk⟩ := hrel
        have hbks := hbk.size
        obtain ⟨yp, yc, rfl⟩ := owns_slice hR.out.ll.row
        obtain ⟨xp, xc, rfl⟩ := owns_slice hR.out.row
        have hvl : vs.length = k * ts.length + 1 := by rw [hR.out.ll.len, leadTo_length]
        rw [hvl]
        by_cases hlt2 : k < ls.length
        · rcases HI.out with ⟨h0, _⟩ | ⟨lb, lo, lcap, hle, hl0, hlc0, hlm, hlb, hlcell⟩
          · rw [h0] at hN1; simp at hN1
          obtain ⟨rfl, rfl⟩ : lp = some ⟨lb, lo, none⟩ ∧ lc = lcap := by simpa using hle
          obtain ⟨y, hy, gl⟩ := cellAt hlcell hlt2
          have hbww : Below w.heap.size w wr := hW0b.trans (hbk.mono hW0s)
          have gl2 := (hbww.cell (p := ⟨lb, lo + k, none⟩) hlb).trans gl
          have hyk : ls[k] = y := by rw [← hy.out, List.getElem?_eq_getElem hlt2, Option.getD_some]
          obtain ⟨y1, y2⟩ := HIN.out y (by rw [← hyk]; exact List.getElem_mem hlt2)
          obtain ⟨c, rfl⟩ := Int.eq_ofNat_of_zero_le y1
          have hcl : c < cs.length := by omega
          obtain ⟨s1, s2, s3⟩ := HSS.out c hcl
          have gh := (hbk.cell (p := ⟨gb, c, none⟩) hgb2).trans (owns_val HR0.out hcl)
          obtain ⟨ys, hys⟩ := HLLL.out.all c (by rw [hul2]; exact hcl)
          have hZl := calledBy_length s3
          have hZn := calledBy_mem HTS.out s2
          have hGk : (ls.map (fun l => calledBy ts (SS.getD l.toNat [])))[k]'(by rw [List.length_map]; exact hlt2) = calledBy ts (SS.getD c []) := by
            rw [List.getElem_map, hyk]; rfl
          have HFN := hide (fun q (hq : q < (calledBy ts (SS.getD c [])).length) => flat_next (ls.map (fun l => calledBy ts (SS.getD l.toNat []))) HGL.out (i := k) (q := q) (by rw [List.length_map]; exact hlt2) hGk hq)
          obtain ⟨zb, zo, zc, hze, hzb, hzc, hzm, hzcell⟩ := hys.ints.cell (by rw [List.length_map, hZl]; exact hl1)
          rw [List.length_map, hZl] at hze hzc
          rw [hze] at gh
          have HZC := hide hzcell
          have HZL := hide hZl
          have HZN := hide hZn
          have hPK : (k + 1) * ts.length ≤ 20000 := Nat.le_trans (Nat.mul_le_mul_right _ hlt2) hm
          rw [Nat.succ_mul] at hPK
          have HSM : Hid ((k + 1) * ts.length = k * ts.length + ts.length) := Nat.succ_mul _ _
          clear s1 s2 s3 hys hGk hze hzcell hZl hZn hle gl hlcell hy
          rw [show ls.map (fun l => calledBy ts (SS.getD l.toNat [])) = ls.map (fun l => calledBy ts (SS.getD l.toNat [])) from rfl] at HFN
          change Hid (∀ q (hq : q < (calledBy ts (SS.getD c [])).length), (allOf ts SS ls).take (k * ts.length + q + 1) = (allOf ts SS ls).take (k * ts.length + q) ++ [(calledBy ts (SS.getD c []))[q]]) at HFN
          generalize calledBy ts (SS.getD c []) = Z at *
          have HR2 : Hid (RR W0.heap.size n (allOf ts SS ls) wr (k * ts.length + 0) (.slice xp n xc) (.slice yp (k * ts.length + 1) yc) vs) := by show RR _ _ _ _ _ _ _ _; rw [Nat.add_zero, ← hvl]; exact hR.out
          clear hR
          generalize k * ts.length = P at *
          go_wp2
          go_loopw [12, 14, 58] (fun r rows i wr => ∃ (q : Nat) (vs : List Value), q ≤ ts.length ∧ i = .int .i64 q ∧ Hid (RR W0.heap.size n (allOf ts SS ls) wr (P + q) r rows vs) ∧ Below W0.heap.size W0 wr) (fun _ _ i _ => ts.length - (intOf i).toNat)
          case atStart => exact ⟨0, _, by omega, rfl, HR2, hbk⟩
          case round =>
            clear HR2 hbk hvl
            obtain ⟨q, vs, hq, rfl, hR, hbk⟩ := hrel
            have hbks := hbk.size
            obtain ⟨yp, yc, rfl⟩ := owns_slice hR.out.ll.row
            obtain ⟨xp, xc, rfl⟩ := owns_slice hR.out.row
            have hvl : vs.length = P + q + 1 := by rw [hR.out.ll.len, leadTo_length]
            rw [hvl]
            by_cases hlt3 : q < ts.length
            · have hqz : q < Z.length := by rw [HZL.out]; exact hlt3
              obtain ⟨p, pc, gx, hix⟩ := HZC.out q (by rw [List.length_map]; exact hqz)
              have hgk : (Z.map trow).getD q [] = trow Z[q] := by simp [List.getD, hqz]
              have ht : tsz Z[q] = n := HZN.out _ (List.getElem_mem hqz)
              have hix2 := hix.out
              rw [hgk] at hix2 gx
              have hnx := HFN.out q hqz
              have HTK : Hid (prd n ((allOf ts SS ls).take (P + q + 1)) = by_ (prd n ((allOf ts SS ls).take (P + q))) (trow Z[q])) := by show _ = _; rw [hnx, prd_snoc]
              have hpr := prd_row n ((allOf ts SS ls).take (P + q)) (fun t ht' => HFM.out t (List.mem_of_mem_take ht'))
              have gy := (hbk.cell (p := ⟨zb, zo + q, none⟩) hzb).trans gx
              have HT := hide (times_own _ _ (prd n ((allOf ts SS ls).take (P + q))) (trow Z[q]) wr (Ints.own hR.out.row) (hix2.below hbk) hpr.1 (trow_row _) (by rw [hpr.2]; omega) (by rw [hpr.2]; omega) (by rw [trow_length, hpr.2, ht]))
              rw [hpr.2, ← HTK.out] at HT
              clear hnx hix hix2 hgk gx hpr HTK
              rw [trow_length, ht] at gy HT
              clear ht
              go_wp2_with fail
              refine HT.out.mono ?_
              rintro e w4 ⟨rn, rfl, hrn, hb4⟩
              obtain ⟨g', rc', rfl, hg3, hg4, hrc3, hrc4⟩ := owns_form hrn (by omega)
              have hL4 := hR.out.ll.below hb4
              have hbs4 := hb4.size
              have hbk4 : Below W0.heap.size W0 w4 := hbk.trans (hb4.mono hbks)
              have hrn' := owns_base hrn hbks
              have hrow4 := hL4.row
              rw [hvl] at hrow4
              have HL4 := hide hL4
              have HRN := hide hrn'
              clear hrn hrn' hL4 HT hb4 hR gy
              go_wp2_with (at_builtin; refine wpList_append_own _ rfl _ _ 22 rfl W0.heap.size 26 j0 (.slice none 0 0) 1 24 Tryd.underlying22 hji hq0 hq1 hq2 rfl (by decide) _ _ _ rfl (hrow4.alloc _) ⟨w4.heap.size, 0, none⟩ 1 1 [.slice (some ⟨g', 0, none⟩) n rc'] rfl rfl ?e1 ?e2 ?e3 ?e4 ?e5 ?_)
              case e1 => exact cell_one_new _ _ _
              case e2 => intro u hu; simp at hu; subst hu; rfl
              case e3 => unfold maxLen; omega
              case e4 => omega
              case e5 => simp; omega
              · intro v' w5 hown5 hg5 _
                rw [← hvl] at hown5 hg5
                have HR5 : Hid (RR W0.heap.size n (allOf ts SS ls) w5 (P + (q + 1)) (.slice (some ⟨g', 0, none⟩) n rc') v' (vs ++ [.slice (some ⟨g', 0, none⟩) n rc'])) := by
                  refine ⟨?_, HL4.out.kept HRN.out hg5⟩
                  rw [← Nat.add_assoc, leadTo_snoc]
                  refine HL4.out.push ?_ hown5 hg5
                  rw [(prd_row n ((allOf ts SS ls).take (P + q + 1)) (fun t ht' => HFM.out t (List.mem_of_mem_take ht'))).2]
                  exact HRN.out
                have HB5 := hide (HL4.out.step hbk4 (Nat.le_refl _) (by omega) hg5)
                clear hown5 hg5 hrow4 HL4 HRN
                go_wp2
                go_roundw
                case rel => exact ⟨q + 1, _, by omega, by go_num, HR5, HB5.out⟩
                case measure => simp [intOf]; omega
            · obtain rfl : q = ts.length := by omega
              have HR3 : Hid (RR W0.heap.size n (allOf ts SS ls) wr ((k + 1) * ts.length) (.slice xp n xc) (.slice yp (P + ts.length + 1) yc) vs) := by show RR _ _ _ _ _ _ _ _; rw [HSM.out, ← hvl]; exact hR.out
              clear hR
              go_wp2
              go_roundw
              case rel => exact ⟨k + 1, _, by omega, by go_num, HR3, hbk⟩
              case measure => simp [intOf]; omega
        · obtain rfl : k = ls.length := by omega
          have HF := hide hR.out.ll
          clear hR
          rw [hvl] at HF
          have HFin : Hid (Below w.heap.size w wr) := hW0b.trans (hbk.mono hW0s)
          go_wp2
          go_ret2
          exact ⟨_, vs, rfl, HF.out.low hW0s, HFin.out⟩

end Go.Proofs.YtenpkhalgkodbaaDoor

/- Plain: what the answer's calls are; the leads of a touch differ in their last change alone. -/
namespace Go.Proofs.YtenpkhalgkodbaaDoor
open Go.RowKit

theorem ceCalls_get {es : List Ce} {k : Nat} (hk : k < es.length) : (ceCalls es).getD k (0, []) = (es[k].sign, es[k].chs) := by
  simp [ceCalls, List.getD, hk]

theorem Cok.callsOk {n K : Nat} {w : World} {base : Nat} {es : List Ce} (h : Cok n w base es) (hm : es.length ≤ 8) (hK : 1 ≤ K) : CallsOk n K (ceCalls es) := by
  have hl : (ceCalls es).length = es.length := by simp [ceCalls]
  have hsg : ∀ k (hk : k < es.length), es[k].sign = sgnOf k := fun k hk => by
    have := h.sign k hk
    rwa [List.getD_eq_getElem?_getD, List.getElem?_eq_getElem hk, Option.getD_some] at this
  refine ⟨fun j hj => ?_, fun i j hij hj => ?_, fun j hj => ?_, fun j hj q hq => ?_⟩
  · rw [hl] at hj
    rw [ceCalls_get hj]
    show sgnR es[j].sign = true
    rw [hsg j hj]; refine sgn_letter ?_; unfold sgnOf; split <;> omega
  · rw [hl] at hj
    rw [ceCalls_get hj, ceCalls_get (show i < es.length by omega)]
    show es[i].sign ≠ es[j].sign
    rw [hsg j hj, hsg i (by omega)]; unfold sgnOf; split <;> split <;> omega
  · rw [hl] at hj
    rw [ceCalls_get hj]
    exact Nat.le_trans (h.few _ (List.getElem_mem hj)) hK
  · rw [hl] at hj
    rw [ceCalls_get hj] at hq ⊢
    exact h.ok _ (List.getElem_mem hj) q hq

theorem tiles_of {n : Nat} : ∀ (X : List (List Int)), (∀ j, j < X.length → okc n 0 (X.getD j []) = true) → ∃ ss : List (List Bool), X = ss.map tpl ∧ ∀ t, t ∈ ss → tsz t = n
  | [], _ => ⟨[], rfl, fun t ht => by cases ht⟩
  | x :: X, h => by
    obtain ⟨t, ht1, ht2⟩ := (okc_iff n x).1 (h 0 (by simp))
    obtain ⟨ss, hs, hn⟩ := tiles_of X (fun j hj => by have := h (j + 1) (by simp; omega); simpa [List.getD] using this)
    refine ⟨t :: ss, by rw [List.map_cons, ht2, ← hs], fun t' h' => ?_⟩
    rcases List.mem_cons.1 h' with e | e
    · rw [e]; exact ht1
    · exact hn t' e

theorem tiles_all {n : Nat} : ∀ (es : List Ce), (∀ e, e ∈ es → ∀ j, j < e.chs.length → okc n 0 (e.chs.getD j []) = true) → ∃ SS : List (List (List Bool)), SS.length = es.length ∧ ∀ c (hc : c < es.length), es[c].chs = (SS.getD c []).map tpl ∧ ∀ t, t ∈ SS.getD c [] → tsz t = n
  | [], _ => ⟨[], rfl, fun c hc => by simp at hc⟩
  | e :: es, h => by
    obtain ⟨ss, h1, h2⟩ := tiles_of e.chs (h e (by simp))
    obtain ⟨SS, h3, h4⟩ := tiles_all es (fun e' h' => h e' (List.mem_cons_of_mem _ h'))
    refine ⟨ss :: SS, by simp [h3], fun c hc => ?_⟩
    cases c with
    | zero => exact ⟨h1, h2⟩
    | succ c => exact h4 c (by simpa using hc)

theorem Cok.tiles {n : Nat} {w : World} {base : Nat} {es : List Ce} (h : Cok n w base es) : ∃ SS : List (List (List Bool)), ∀ c, c < es.length → ((ceCalls es).getD c (0, [])).2 = (SS.getD c []).map tpl ∧ (∀ t, t ∈ SS.getD c [] → tsz t = n) ∧ (SS.getD c []).length ≤ 1 := by
  obtain ⟨SS, _, h2⟩ := tiles_all es h.ok
  refine ⟨SS, fun c hc => ?_⟩
  obtain ⟨h3, h4⟩ := h2 c hc
  rw [ceCalls_get hc]
  refine ⟨h3, h4, ?_⟩
  have := h.few _ (List.getElem_mem hc)
  rw [h3, List.length_map] at this
  exact this

theorem calledBy_take {ts ss : List (List Bool)} (h : ss.length ≤ 1) {q : Nat} (hq : q < ts.length) : (calledBy ts ss).take q = ts.take q := by
  unfold calledBy
  rw [List.take_append_of_le_length (by rw [List.length_take]; omega), List.take_take, Nat.min_eq_left (by omega)]

/-- The rows of a touch by calls that have at most one change, where they are called. -/
theorem touch_used {n : Nat} {ts : List (List Bool)} {SS : List (List (List Bool))} {ls : List Int} (hl1 : 1 ≤ ts.length) (hts : ∀ t, t ∈ ts → tsz t = n) (hS : ∀ l, l ∈ ls → (∀ t, t ∈ SS.getD l.toNat [] → tsz t = n) ∧ (SS.getD l.toNat []).length ≤ 1) :
    (leadTo n (allOf ts SS ls) (ls.length * ts.length)).take (ls.length * ts.length) = touchRows (headsOf (leadTo n (allOf ts SS ls) (ls.length * ts.length)) ts.length ls.length) (ldr n ts) ∧ ∀ t, t ∈ allOf ts SS ls → tsz t = n := by
  have hG : ∀ g, g ∈ ls.map (fun l => calledBy ts (SS.getD l.toNat [])) → g.length = ts.length := by
    intro g hg
    obtain ⟨l, hl, rfl⟩ := List.mem_map.1 hg
    exact calledBy_length (Nat.le_trans (hS l hl).2 hl1)
  have hFn : ∀ t, t ∈ allOf ts SS ls → tsz t = n := by
    intro t ht
    obtain ⟨g, hg, htg⟩ := List.mem_flatten.1 ht
    obtain ⟨l, hl, rfl⟩ := List.mem_map.1 hg
    exact calledBy_mem hts (hS l hl).1 t htg
  refine ⟨touch_rows (N := ls.length) hl1 rfl (by unfold allOf; rw [flat_length _ hG, List.length_map]) hFn hts (fun m' q hm hq => ?_) ls.length (Nat.le_refl _), hFn⟩
  unfold allOf
  rw [flat_drop _ m' hG (by rw [List.length_map]; exact hm), List.getElem_map]
  have h1 := (hS ls[m'] (List.getElem_mem hm)).2
  rw [List.take_append_of_le_length (by rw [calledBy_length (Nat.le_trans h1 hl1)]; omega)]
  exact calledBy_take h1 hq

/-- The rows of a touch by calls of at most one change. -/
theorem touch_all {n m : Nat} {ts : List (List Bool)} {SS : List (List (List Bool))} {ls : List Int} (hl1 : 1 ≤ ts.length) (hts : ∀ t, t ∈ ts → tsz t = n) (hin : ∀ l, l ∈ ls → 0 ≤ l ∧ l < (m : Int)) (hS : ∀ c, c < m → (∀ t, t ∈ SS.getD c [] → tsz t = n) ∧ (SS.getD c []).length ≤ 1) :
    (leadTo n (allOf ts SS ls) (ls.length * ts.length)).take (ls.length * ts.length) = touchRows (headsOf (leadTo n (allOf ts SS ls) (ls.length * ts.length)) ts.length ls.length) (ldr n ts) ∧ ∀ t, t ∈ allOf ts SS ls → tsz t = n :=
  touch_used hl1 hts (fun l hl => hS l.toNat (by have := hin l hl; omega))

/-- The changes of a touch are of so many bells. -/
theorem allOf_size {n : Nat} {ts : List (List Bool)} {SS : List (List (List Bool))} {ls : List Int} (hts : ∀ t, t ∈ ts → tsz t = n) (hS : ∀ l, l ∈ ls → ∀ t, t ∈ SS.getD l.toNat [] → tsz t = n) : ∀ t, t ∈ allOf ts SS ls → tsz t = n := by
  intro t ht
  obtain ⟨g, hg, htg⟩ := List.mem_flatten.1 ht
  obtain ⟨l, hl, rfl⟩ := List.mem_map.1 hg
  exact calledBy_mem hts (hS l hl) t htg

end Go.Proofs.YtenpkhalgkodbaaDoor

/- The law TopTouch. -/
namespace Go.Proofs.YtenpkhalgkodbaaDoor
open Go.RowKit
set_option maxRecDepth 20000
set_option linter.unusedVariables false

theorem nat_of {k : Nat} : ∀ {ls : List Int}, (∀ l, l ∈ ls → 0 ≤ l ∧ l < (k : Int)) → ∃ t : List Nat, nI t = ls ∧ (∀ c, c ∈ t → c < k) ∧ ls.map Int.toNat = t
  | [], _ => ⟨[], rfl, (fun c hc => by cases hc), rfl⟩
  | l :: ls, h => by
    obtain ⟨t, h1, h2, h3⟩ := nat_of (ls := ls) (fun x hx => h x (List.mem_cons_of_mem _ hx))
    obtain ⟨a1, a2⟩ := h l List.mem_cons_self
    refine ⟨l.toNat :: t, ?_, fun c hc => ?_, by rw [List.map_cons, h3]⟩
    · show ((l.toNat : Nat) : Int) :: nI t = l :: ls
      rw [h1, Int.toNat_of_nonneg a1]
    · rcases List.mem_cons.1 hc with rfl | hc
      · omega
      · exact h2 c hc

/-- Signs that are small letters are told by one byte. -/
theorem sgnOk_of {cs : List Cl} (h : ∀ c, c < cs.length → 97 ≤ (cs.getD c (0, [])).1 ∧ (cs.getD c (0, [])).1 ≤ 122) : SgnOk cs (sgB cs) := ⟨fun c hc => by
  have hh := h c hc
  unfold sgB
  generalize (cs.getD c (0, [])).1 = r at *
  obtain ⟨k, rfl⟩ := Int.eq_ofNat_of_zero_le (show 0 ≤ r by omega)
  have hk : (k.toUInt8).toNat = k := by show k % 256 = k; omega
  refine ⟨k.toUInt8, ?_, by rw [hk], by rw [hk]; omega, by rw [hk]; omega, by rw [hk]; omega, by rw [hk]; omega⟩
  unfold Lib.encodeRune Lib.encodeRuneZ
  rw [if_pos (by omega)]
  rfl⟩

theorem sgn_az {n : Nat} {w : World} {base : Nat} {es : List Ce} (h : Cok n w base es) (hm : es.length ≤ 8) : ∀ c, c < (ceCalls es).length → 97 ≤ ((ceCalls es).getD c (0, [])).1 ∧ ((ceCalls es).getD c (0, [])).1 ≤ 122 := fun c hc => by
  have hl : (ceCalls es).length = es.length := by simp [ceCalls]
  rw [hl] at hc
  rw [ceCalls_get hc]
  have := h.sign c hc
  rw [List.getD_eq_getElem?_getD, List.getElem?_eq_getElem hc, Option.getD_some] at this
  show 97 ≤ es[c].sign ∧ es[c].sign ≤ 122
  rw [this]; unfold sgnOf; split <;> omega

/-- Brackets and a number around what is told of leads. -/
theorem rds_twice {cs : List Cl} {t : List Nat} {tm : Nat} (hsg : SgnOk cs (sgB cs)) (hc : ∀ c, c ∈ t → c < cs.length) (h1 : 1 ≤ t.length) (h2 : t.length ≤ 60) (h3 : 1 ≤ tm) (h4 : tm ≤ 6) :
    Rds cs ⟨0, false, 0, repL tm (nI t)⟩ ⟨0, false, 0, []⟩ (nb (decB tm ++ [40] ++ pF (sgB cs) 0 t ++ [41])) := by
  rw [nb_app, nb_app, nb_app, List.append_assoc, List.append_assoc]
  refine rds_num h3 (by omega) _ rfl _ ?_
  refine Rds.opens tm _ ?_
  rw [show max tm 1 = tm by omega]
  refine rds_pF hsg t 0 _ _ rfl (fun _ => rfl) hc (by omega) (by simp; omega) ?_
  have hl : (nI t).length = t.length := nI_len t
  have hm : t.length * tm ≤ 60 * 6 := Nat.mul_le_mul h2 h4
  refine Rds.shuts tm _ [] ?_ h3 (by omega) ?_ ?_
  · show 1 ≤ ([] ++ (List.replicate 0 _ ++ nI t)).length
    simp [hl]; omega
  · show ([] ++ (List.replicate 0 _ ++ nI t)).length * tm ≤ 400
    simp [hl]; omega
  · show Rds cs _ ⟨0, false, 0, repL tm ([] ++ (List.replicate 0 _ ++ nI t))⟩ []
    rw [List.replicate_zero, List.nil_append, List.nil_append]
    exact Rds.done

theorem rds_once {cs : List Cl} {t : List Nat} (hsg : SgnOk cs (sgB cs)) (hc : ∀ c, c ∈ t → c < cs.length) (h2 : t.length ≤ 60) : Rds cs ⟨0, false, 0, nI t⟩ ⟨0, false, 0, []⟩ (nb (pF (sgB cs) 0 t)) := by
  have := rds_pF (fin := ⟨0, false, 0, nI t⟩) hsg t 0 ⟨0, false, 0, []⟩ [] rfl (fun _ => rfl) hc (by omega) (by simp; omega) (by
    show Rds cs _ ⟨0, false, 0, [] ++ (List.replicate 0 _ ++ nI t)⟩ []
    rw [List.replicate_zero, List.nil_append, List.nil_append]
    exact Rds.done)
  rwa [List.append_nil] at this

end Go.Proofs.YtenpkhalgkodbaaDoor

/- The law TopTouch. -/
namespace Go.Proofs.YtenpkhalgkodbaaDoor
open Go.RowKit
set_option maxRecDepth 20000
set_option linter.unusedVariables false

set_option maxHeartbeats 2000000 in
theorem topTouch_walk (v : Value) (xs : List Int) (a1 a2 a3 : Int) (w : World) (hi : Ints w v xs) (hx : ∀ x, x ∈ xs → I64 x) (i1 : I64 a1) (i2 : I64 a2) (i3 : I64 a3) :
    Calls Tryd.prog 5 #[v, .int .i64 a1, .int .i64 a2, .int .i64 a3] w fun e w' => e = .returned (.bool true) ∧ Below w.heap.size w w' := by
  obtain ⟨p0, c0, rfl⟩ := hi.form
  obtain ⟨i0, hi0, hz0, hz1, hz2⟩ := info_parts Tryd.info3
  by_cases hl : 256 < xs.length
  · clear hi hx
    generalize xs.length = m at *
    go_enter Tryd.func5, Tryd.ntmps5
    go_wp2
    go_ret
    exact ⟨rfl, Below.refl _ _⟩
  · have HP1 := hide (fun W => pick_det a1 60 W i1.1 i1.2 (by decide) (by decide))
    have HP2 := hide (fun W => pick_det a2 3 W i2.1 i2.2 (by decide) (by decide))
    have HP3 := hide (fun W => pick_det a3 6 W i3.1 i3.2 (by decide) (by decide))
    have b1 := pk_range a1 (n := 60) (by decide)
    have b2 := pk_range a2 (n := 3) (by decide)
    have b3 := pk_range a3 (n := 6) (by decide)
    generalize pk a1 60 = q1 at *
    generalize pk a2 3 = q2 at *
    generalize pk a3 6 = q3 at *
    obtain ⟨N, hN⟩ : ∃ N : Nat, 1 + q1 = (N : Int) := ⟨(q1 + 1).toNat, by omega⟩
    obtain ⟨C, hC⟩ : ∃ C : Nat, 1 + q2 = (C : Int) := ⟨(q2 + 1).toNat, by omega⟩
    obtain ⟨M, hM⟩ : ∃ M : Nat, 1 + q3 = (M : Int) := ⟨(q3 + 1).toNat, by omega⟩
    have N1 : 1 ≤ N ∧ N ≤ 60 := by omega
    have C1 : 1 ≤ C ∧ C ≤ 3 := by omega
    have M1 : 1 ≤ M ∧ M ≤ 6 := by omega
    have EN := hide hN
    have EC := hide hC
    have EM := hide hM
    have HI := hide hi
    have HX := hide hx
    have HCO := hide (callsOf_ok _ xs 6 C w hi hx (by omega) (by omega) C1.1 (by omega))
    have HLO := hide (fun W (hW : Below w.heap.size w W) => leadsOf_ok _ xs N C W (hi.below hW) hx (by omega) C1.1 (by omega))
    generalize hxl : xs.length = m at *
    clear hi hx hN hC hM hxl
    go_enter Tryd.func5, Tryd.ntmps5
    go_wp2_with fail
    refine (HP2.out _).mono ?_
    rintro e wa ⟨rfl, rfl⟩
    go_wp2_with fail
    rw [EC.out]
    refine HCO.out.mono ?_
    rintro e w1 ⟨cv, es, rfl, hel, hO1, hC1, hB1⟩
    have hcl : (ceCalls es).length = C := by rw [← hel]; simp [ceCalls]
    have HCI : Hid (CallsIn w1 cv (ceCalls es)) := Or.inr ⟨by rw [hcl]; exact C1.1, hC1.calls (by rw [hel]; exact hO1) (by omega)⟩
    have HAZ := hide (sgn_az hC1 (by omega))
    have HDI := hide (hC1.callsOk (K := 1) (by omega) (Nat.le_refl _)).dist
    obtain ⟨cp, cc, hcv⟩ := HCI.out.form
    rw [hcl] at hcv
    subst hcv
    clear hC1 hO1 hel
    generalize ceCalls es = cs at *
    have HSG := hide (sgnOk_of HAZ.out)
    have HB1 := hide hB1
    clear hB1 HCO
    go_wp2_with fail
    refine (HP1.out _).mono ?_
    rintro e wa ⟨rfl, rfl⟩
    go_wp2_with fail
    rw [EN.out]
    refine (HLO.out _ HB1.out).mono ?_
    rintro e w2 ⟨lv, ls, rfl, hO2, hin, hb2⟩
    rw [← hcl] at hin
    obtain ⟨t, htn, htc, htm⟩ := nat_of hin
    subst htn
    have htl : t.length = N := by
      have h9 := hO2.1
      rw [List.length_map, nI_len] at h9
      simpa using h9
    have HIT : Hid (Ints w2 lv (nI t)) := Ints.own hO2
    obtain ⟨lp, lc, hlv⟩ := HIT.out.form
    rw [nI_len, htl] at hlv
    subst hlv
    have HB2 : Hid (Below w.heap.size w w2) := HB1.out.trans (hb2.mono HB1.out.size)
    have HC2 := hide (HCI.out.below hb2)
    have hlz : lErr cs.length (nI t) = 0 := by
      unfold lErr
      rw [if_neg (by rw [nI_len]; omega), if_pos hin]
    have hpt : prT cs (nI t) = pF (sgB cs) 0 t := by unfold prT; rw [if_pos hlz, htm]
    have hPR := print_all _ cs _ (nI t) w2 HC2.out HIT.out (fun c hc => by have := HAZ.out c hc; omega)
    rw [hlz, hpt] at hPR
    have HPR := hide hPR
    have hpl : (pF (sgB cs) 0 t).length ≤ 6 * t.length := pF_length _ (sgB_length cs) t 0
    have HPA := hide (fun W (hW : Below w2.heap.size w2 W) => tparse_ok cp C cc cs ⟨0, false, 0, nI t⟩ (pF (sgB cs) 0 t) W (by omega) (HC2.out.below hW) (by omega) HDI.out (rds_once HSG.out htc (by omega)) rfl rfl (by show 1 ≤ (nI t).length; rw [nI_len]; omega) (by show (nI t).length ≤ 1000; rw [nI_len]; omega))
    have HPB := hide (fun W (hW : Below w2.heap.size w2 W) => tparse_ok cp C cc cs ⟨0, false, 0, repL M (nI t)⟩ (decB M ++ [40] ++ pF (sgB cs) 0 t ++ [41]) W (by have := decB_length M; simp; omega) (HC2.out.below hW) (by omega) HDI.out (rds_twice HSG.out htc (by omega) (by omega) M1.1 M1.2) rfl rfl (by show 1 ≤ (repL M (nI t)).length; rw [repL_len, nI_len]; exact Nat.mul_pos (by omega) M1.1) (by show (repL M (nI t)).length ≤ 1000; rw [repL_len, nI_len]; exact Nat.le_trans (Nat.mul_le_mul (show t.length ≤ 60 by omega) M1.2) (by decide)))
    have HDE := hide (fun W => decS_any M (by omega) W)
    have hsA : ∀ a b : List UInt8, (⟨a.toArray⟩ : ByteArray) ++ ⟨b.toArray⟩ = ⟨(a ++ b).toArray⟩ := str_app
    have HSA := hide hsA
    have HTL := hide htl
    clear hO2 hin hlz hpt hPR hpl hb2 HCI HB1 HLO hsA htm HAZ
    generalize hPX : pF (sgB cs) 0 t = PX at *
    have hPXl : PX.length ≤ 6 * t.length := by rw [← hPX]; exact pF_length _ (sgB_length cs) t 0
    clear hPX
    obtain ⟨PS, hPS⟩ : ∃ PS : ByteArray, Hid (PS = ⟨PX.toArray⟩) := ⟨_, rfl⟩
    obtain ⟨DS, hDS⟩ : ∃ DS : ByteArray, Hid (DS = ⟨(decB M).toArray⟩) := ⟨_, rfl⟩
    have hPSz : PS.size = PX.length := by rw [hPS.out, str_size]
    have hDSz : DS.size ≤ 2 := by rw [hDS.out, str_size]; exact decB_length M
    have hS1 := fun W => run_string_add_sum (P := Tryd.prog) (w := W) DS ⟨#[40]⟩ (by show DS.size + 1 ≤ _; omega)
    generalize eS1 : DS ++ (⟨#[40]⟩ : ByteArray) = S1 at hS1
    have hS1z : S1.size ≤ 3 := by rw [← eS1, ByteArray.size_append]; show DS.size + 1 ≤ 3; omega
    have hS2 := fun W => run_string_add_sum (P := Tryd.prog) (w := W) S1 PS (by omega)
    generalize eS2 : S1 ++ PS = S2 at hS2
    have hS2z : S2.size ≤ 400 := by rw [← eS2, ByteArray.size_append]; omega
    have hS3 := fun W => run_string_add_sum (P := Tryd.prog) (w := W) S2 ⟨#[41]⟩ (by show S2.size + 1 ≤ _; omega)
    generalize eS3 : S2 ++ (⟨#[41]⟩ : ByteArray) = S3 at hS3
    have hS3e : (⟨(decB M ++ [40] ++ PX ++ [41]).toArray⟩ : ByteArray) = S3 := by
      rw [← eS3, ← eS2, ← eS1, hDS.out, hPS.out]
      rw [show (⟨#[40]⟩ : ByteArray) = ⟨[40].toArray⟩ from rfl, show (⟨#[41]⟩ : ByteArray) = ⟨[41].toArray⟩ from rfl, str_app, str_app, str_app]
    rw [← hPS.out] at HPR HPA
    rw [← hDS.out] at HDE
    rw [hS3e] at HPB
    clear eS1 eS2 eS3 hS3e hS1z hS2z hPSz hDSz hPS hDS hPXl HSA
    go_wp2_with fail
    refine HPR.out.mono ?_
    rintro e w3 ⟨rfl, hb3⟩
    have HB3 := hide hb3
    clear hb3 HPR
    go_wp2_with fail
    refine (HPA.out _ HB3.out).mono ?_
    rintro e w4 ⟨u4, rfl, hO4, hb4⟩
    have HB4 : Hid (Below w2.heap.size w2 w4) := HB3.out.trans (hb4.mono HB3.out.size)
    have HI4 : Hid (Ints w4 u4 (nI t)) := Ints.own hO4
    obtain ⟨p4, c4, rfl⟩ := owns_slice hO4
    have HSM : Hid (Calls Tryd.prog 22 #[.slice p4 (nI t).length c4, .slice lp N lc] w4 fun e w' => e = .returned (.bool true) ∧ Below w4.heap.size w4 w') := (same_any _ _ _ _ w4 HI4.out (HIT.out.below HB4.out)).mono (fun e w' h => ⟨h.1.trans (by simp), h.2⟩)
    clear hO4 hb4 HPA HI4
    generalize (nI t).length = K4 at HSM ⊢
    go_wp2_with fail
    refine HSM.out.mono ?_
    rintro e w5 ⟨rfl, hb5⟩
    have HB5 : Hid (Below w2.heap.size w2 w5) := HB4.out.trans (hb5.mono HB4.out.size)
    clear hb5 HSM HB3 HB4
    go_wp2_with fail
    refine (HP3.out _).mono ?_
    rintro e wa ⟨rfl, rfl⟩
    go_wp2_with fail
    rw [EM.out]
    refine (HDE.out _).mono ?_
    rintro e w6 ⟨rfl, hb6⟩
    have HB6 : Hid (Below w2.heap.size w2 w6) := HB5.out.trans (hb6.mono HB5.out.size)
    clear hb6 HB5 HDE
    go_wp2_with fail
    refine (HPB.out _ HB6.out).mono ?_
    rintro e w7 ⟨u7, rfl, hO7, hb7⟩
    have HB7 : Hid (Below w2.heap.size w2 w7) := HB6.out.trans (hb7.mono HB6.out.size)
    have HI7 : Hid (Ints w7 u7 (repL M (nI t))) := Ints.own hO7
    obtain ⟨p7, c7, rfl⟩ := owns_slice hO7
    obtain ⟨K7, hK7⟩ : ∃ K7, Hid ((repL M (nI t)).length = K7) := ⟨_, rfl⟩
    rw [show (TSt.ld ⟨0, false, 0, repL M (nI t)⟩).length = (repL M (nI t)).length from rfl, hK7.out] at HI7
    rw [show (TSt.ld ⟨0, false, 0, repL M (nI t)⟩).length = (repL M (nI t)).length from rfl, hK7.out]
    clear hO7 hb7 HPB HB6 hS1 hS2 hS3
    have HI2 : Hid (Ints w7 (.slice lp N lc) (nI t)) := HIT.out.below HB7.out
    obtain ⟨b, off, hlp, hbl, hcell⟩ : ∃ b off, lp = some ⟨b, off, none⟩ ∧ b < w7.heap.size ∧ ∀ j, j < t.length → w7.cell? ⟨b, off + j, none⟩ = some (.int .i64 ((nI t).getD j 0)) := by
      rcases HI2.out with ⟨h0, _⟩ | ⟨b, off, cap, hv, _, _, _, hbl, hcell⟩
      · have := congrArg List.length h0
        rw [nI_len, HTL.out] at this
        simp at this
        omega
      · simp only [Value.slice.injEq] at hv
        exact ⟨b, off, hv.1, hbl, fun j hj => hcell j (by rw [nI_len]; exact hj)⟩
    subst hlp
    have HCE := hide hcell
    have HB8 : Hid (Below w.heap.size w w7) := HB2.out.trans (HB7.out.mono HB2.out.size)
    clear hcell HB7 HIT HI2 HB2 HI HX
    go_wp2_with fail
    go_loopw [16, 17] (fun wv i wr => ∃ (k n : Nat) (wp : Option Addr) (wc : Nat), k ≤ M ∧ i = .int .i64 k ∧ wv = .slice wp n wc ∧ n ≤ 60 * k ∧ wr.ownsRow w7.heap.size 3 1 (.slice wp n wc) n ((repL k (nI t)).map (Value.int .i64)) ∧ Below w7.heap.size w7 wr) (fun _ i _ => M - (intOf i).toNat)
    case atStart => exact ⟨0, 0, none, 0, Nat.zero_le _, rfl, rfl, Nat.zero_le _, World.ownsRow_nil _ _ _ _, Below.refl _ _⟩
    case round =>
      obtain ⟨k, n, wp, wc, hk, rfl, rfl, hn, hown, hbw⟩ := hrel
      by_cases hlt : k < M
      · have hbs := hbw.size
        have HCW : Hid (∀ j u, ((nI t).map (Value.int .i64))[j]? = some u → wr.cell? ((⟨b, off, none⟩ : Addr).add j) = some u) := fun j u hu => by
          have hj : j < t.length := by
            have := (List.getElem?_eq_some_iff.1 hu).1
            rwa [List.length_map, nI_len] at this
          rw [Addr.add_lit, hbw.cell (p := ⟨b, off + j, none⟩) hbl, HCE.out j hj]
          rw [List.getElem?_map, List.getElem?_eq_getElem (by rw [nI_len]; exact hj)] at hu
          simp only [Option.map_some, Option.some.injEq] at hu
          rw [← hu, List.getD_eq_getElem?_getD, List.getElem?_eq_getElem (by rw [nI_len]; exact hj), Option.getD_some]
        go_wp2_with (at_builtin; refine wpList_append_own _ rfl _ _ 26 rfl w7.heap.size 3 i0 (.int .i64 0) 1 8 Tryd.underlying26 hi0 hz0 hz1 hz2 rfl (by decide) _ _ _ rfl hown ⟨b, off, none⟩ N lc ((nI t).map (Value.int .i64)) rfl ?c0 ?c1 ?c2 ?c3 ?c4 ?c5 ?_)
        case c0 => rw [List.length_map, nI_len, HTL.out, Nat.mul_one]
        case c1 => exact HCW.out
        case c2 => intro u hu; obtain ⟨z, _, rfl⟩ := List.mem_map.1 hu; rfl
        case c3 => unfold maxLen; omega
        case c4 => omega
        case c5 => exact hbs
        intro v9 w9 hown9 hgrow _
        have hB9 : Below w7.heap.size w7 w9 := hbw.grown hgrow hbs (fun g hg => (hown.lt g hg).1)
        obtain ⟨p9, c9, rfl⟩ := owns_slice hown9
        rw [← List.map_append, ← repL_succ] at hown9
        clear hgrow HCW hown hbw
        go_wp2
        go_roundw
        case rel => exact ⟨k + 1, n + N, p9, c9, by omega, by go_num, rfl, by omega, hown9, hB9⟩
        case measure => simp [intOf]; omega
      · have hkM : k = M := by omega
        subst hkM
        have HSM : Hid (Calls Tryd.prog 22 #[.slice p7 K7 c7, .slice wp n wc] wr fun e w' => e = .returned (.bool true) ∧ Below wr.heap.size wr w') := (same_any _ _ _ _ wr (HI7.out.below hbw) (Ints.own hown)).mono (fun e w' h => ⟨h.1.trans (by simp), h.2⟩)
        have HB9 : Hid (Below w.heap.size w wr) := HB8.out.trans (hbw.mono HB8.out.size)
        clear hown hbw
        go_wp2_with fail
        refine HSM.out.mono ?_
        rintro e w9 ⟨rfl, hb9⟩
        have HBZ : Hid (Below w.heap.size w w9) := HB9.out.trans (hb9.mono HB9.out.size)
        clear hb9 HSM HB9
        go_wp2
        go_ret
        exact ⟨rfl, HBZ.out⟩

end Go.Proofs.YtenpkhalgkodbaaDoor
