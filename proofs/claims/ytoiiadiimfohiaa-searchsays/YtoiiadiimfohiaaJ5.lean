/- Joined: AppK, SaH, SaI, SaJ, SaL, TtM, IAl. -/
import Derived.Test.YtoiiadiimfohiaaJ0
import Derived.Maps.AppendAt
import Derived.Test.YtoiiadiimfohiaaJ4
import Derived.WalkSmall
import Derived.Test.YtoiiadiimfohiaaJ3
import Derived.Shelf.Spec.SlicesGrow
/- append, and where the new slice lies. -/
namespace Go.Proofs.Ytoiiadiimfohiaa
open Go.RowKit

theorem run_append_keep {P : Program} (w : World) (base : Nat) (t ty e : TypeId) (i : TypeInfo) (z : Value) (size bytes : Nat) (ht : P.underlying t = some (.slice e)) (hi : P.info? e = some i) (hz : i.zero = some z)
    (hsize : i.size = size) (hby : i.bytes = bytes) (hzs : z.cells.size = size) (hsz : 0 < size)
    (v : Value) (n : Nat) (xs : List Value) (hown : w.ownsRow base e size v n xs)
    (a : Addr) (m c : Nat) (news : List Value) (hl : news.length = m * size) (hnews : ∀ j u, news[j]? = some u → w.cell? (a.add j) = some u) (h1 : ∀ u ∈ news, u.oneCell' = true)
    (h63 : n + m ≤ maxLen) (hbytes : (n + m) * bytes ≤ 140737488355328) (hbase : base ≤ w.heap.size) :
    ∃ v' w', (Builtin.append_ #[t, t] ty #[v, .slice (some a) m c]).run P w = .ok v' w' ∧ w'.ownsRow base e size v' (n + m) (xs ++ news) ∧ w.grownBy w' v.ownBlock ∧
      (v'.ownBlock = v.ownBlock ∨ (v'.ownBlock = some w.heap.size ∧ w.grownBy w' none)) := by
  obtain ⟨v', w', hr, h2, h3, _, h5⟩ := run_append_own_at (P := P) w base t ty e i z size bytes ht hi hz hsize hby hzs hsz v n xs hown a m c news hl hnews h1 h63 hbytes hbase
  refine ⟨v', w', hr, h2, h3, ?_⟩
  subst hsize
  subst hby
  rcases hown.2 with ⟨rfl, rfl⟩ | ⟨g, cap, cur, rfl, hbg, hg, hnc, hcm, hcs, htake⟩
  · exact h5.imp id (fun h => ⟨h, h3⟩)
  · by_cases hroom : n + m ≤ cap
    · have hfit : n * i.size + news.length ≤ cur.size := by rw [hl, hcs, ← Nat.add_mul]; exact Nat.mul_le_mul_right _ hroom
      have hr' := run_append_room (P := P) w t ty e i ht hi g n cap cur hg a m c news hl hnews h1 hroom hfit
      rw [hr] at hr'
      obtain ⟨e1, _⟩ := Result.ok.inj hr'
      left; rw [e1]; rfl
    · have holds : ∀ j u, xs[j]? = some u → w.cell? ((⟨g, 0, none⟩ : Addr).add j) = some u := hown.cells (g := g) rfl
      have hsmall : n + m ≤ 9223372036854775807 := by simp only [maxLen] at h63; omega
      have hr' := run_append_grow (P := P) w t ty e i z ht hi hz ⟨g, 0, none⟩ n cap xs hown.1 holds a m c news hl hnews (by omega) (by omega) (growslice_fits (by omega) hbytes)
      rw [hr] at hr'
      obtain ⟨e1, e2⟩ := Result.ok.inj hr'
      right
      rw [e1, e2]
      exact ⟨rfl, ⟨rfl, rfl, rfl, by simp, fun k hk _ => Below.heap_alloc w.drew _ k hk⟩⟩

theorem wpList_append_keep {P : Program} (w : World) {ops : Array Oper} {rest : List Oper} {o : Oper} {a : Act} {Q : Exit → Act → World → Prop} (hgd : o.guard = none) (s x : Operand) (t : TypeId)
    (ho : o.op = .call { callee := .builtin .append, args := #[s, x], argTypes := #[t, t] })
    (base : Nat) (e : TypeId) (i : TypeInfo) (z : Value) (size bytes : Nat) (ht : P.underlying t = some (.slice e)) (hi : P.info? e = some i) (hz : i.zero = some z)
    (hsize : i.size = size) (hby : i.bytes = bytes) (hzs : z.cells.size = size) (hsz : 0 < size)
    (v : Value) (n : Nat) (xs : List Value) (hs : a.eval s = v) (hown : w.ownsRow base e size v n xs)
    (ad : Addr) (m c : Nat) (news : List Value) (hx : a.eval x = .slice (some ad) m c) (hl : news.length = m * size) (hnews : ∀ j u, news[j]? = some u → w.cell? (ad.add j) = some u) (h1 : ∀ u ∈ news, u.oneCell' = true)
    (h63 : n + m ≤ maxLen) (hbytes : (n + m) * bytes ≤ 140737488355328) (hbase : base ≤ w.heap.size)
    (h : ∀ v' w', w'.ownsRow base e size v' (n + m) (xs ++ news) → w.grownBy w' v.ownBlock → (v'.ownBlock = v.ownBlock ∨ (v'.ownBlock = some w.heap.size ∧ w.grownBy w' none)) → wpList P ops Q rest (a.put o.dst v') w') :
    wpList P ops Q (o :: rest) a w := by
  refine wpList_plain hgd fun K hK => ?_
  obtain ⟨v', w', hr, h2, h3, h4⟩ := run_append_keep (P := P) w base t o.type e i z size bytes ht hi hz hsize hby hzs hsz v n xs hown ad m c news hl hnews h1 h63 hbytes hbase
  unfold Oper.wp execOp
  simp only [ho, resolve, invoke, builtin, Sem.run_bind, Sem.run_pure, Result.andThen_ok, List.map_toArray, List.map_cons, List.map_nil, hs, hx, hr]
  exact hK _ _ (h v' w' h2 h3 h4)

/-- .. as one step of a region that draws. -/
theorem step_append_keep {P : Program} {ops : Array Oper} {o : Oper} {a : Act} {w : World} {K : Act → World → Prop} {Q : Exit → Act → World → Prop} {E : Prop} (hg : o.guard = none) (s x : Operand) (t : TypeId)
    (ho : o.op = .call { callee := .builtin .append, args := #[s, x], argTypes := #[t, t] })
    (base : Nat) (e : TypeId) (i : TypeInfo) (z : Value) (size bytes : Nat) (ht : P.underlying t = some (.slice e)) (hi : P.info? e = some i) (hz : i.zero = some z)
    (hsize : i.size = size) (hby : i.bytes = bytes) (hzs : z.cells.size = size) (hsz : 0 < size)
    (v : Value) (n : Nat) (xs : List Value) (hs : a.eval s = v) (hown : w.ownsRow base e size v n xs)
    (ad : Addr) (m c : Nat) (news : List Value) (hx : a.eval x = .slice (some ad) m c) (hl : news.length = m * size) (hnews : ∀ j u, news[j]? = some u → w.cell? (ad.add j) = some u) (h1 : ∀ u ∈ news, u.oneCell' = true)
    (h63 : n + m ≤ maxLen) (hbytes : (n + m) * bytes ≤ 140737488355328) (hbase : base ≤ w.heap.size)
    (h : ∀ v' w', w'.ownsRow base e size v' (n + m) (xs ++ news) → w.grownBy w' v.ownBlock → (v'.ownBlock = v.ownBlock ∨ (v'.ownBlock = some w.heap.size ∧ w.grownBy w' none)) → K (a.put o.dst v') w') :
    if Region.wanted o (yielded ops a.tmps) = true then Oper.wp P o a w K Q else E := by
  have hw : Region.wanted o (yielded ops a.tmps) = true := by simp [Region.wanted, hg]
  rw [if_pos hw]
  obtain ⟨v', w', hr, h2, h3, h4⟩ := run_append_keep (P := P) w base t o.type e i z size bytes ht hi hz hsize hby hzs hsz v n xs hown ad m c news hl hnews h1 h63 hbytes hbase
  unfold Oper.wp execOp
  simp only [ho, resolve, invoke, builtin, Sem.run_bind, Sem.run_pure, Result.andThen_ok, List.map_toArray, List.map_cons, List.map_nil, hs, hx, hr]
  exact h v' w' h2 h3 h4

end Go.Proofs.Ytoiiadiimfohiaa

/- What a search knows of its leads; contract: search's meet, over from's. -/
namespace Go.Proofs.Ytoiiadiimfohiaa
open Go.RowKit

/-- The slice value v reads as leads: rows, and the row that begins the next one. -/
def LeadsAt (w : World) (v : Value) (rvs : Nat → Value) (G : List (List Pm × Pm)) : Prop :=
  ∃ b off cap, v = .slice (some ⟨b, off, none⟩) G.length cap ∧ b < w.heap.size ∧ G.length ≤ cap ∧ cap ≤ 9223372036854775807 ∧
    ∀ c (hc : c < G.length), w.rangeAt b (off + c * 13) (rvs c :: G[c].2.l.map (Value.int .i8)) ∧ PmsAt w (rvs c) G[c].1

theorem OwnAll.kept_at {w w' : World} {base : Nat} : ∀ {us : List Value} {xs : List (List Int)}, OwnAll w base us xs → (∀ u, u ∈ us → ∀ g, u.ownBlock = some g → w'.heap[g]? = w.heap[g]?) → OwnAll w' base us xs
  | [], [], _, _ => trivial
  | [], _ :: _, h, _ => h.elim
  | _ :: _, [], h, _ => h.elim
  | u :: us, x :: xs, h, hb => ⟨owns_block h.1 (hb u (by simp)), OwnAll.kept_at h.2 (fun v hv => hb v (List.mem_cons_of_mem _ hv))⟩

theorem OwnAll.low_at {w : World} {base : Nat} : ∀ {us : List Value} {xs : List (List Int)}, OwnAll w base us xs → ∀ u, u ∈ us → ∀ g, u.ownBlock = some g → base ≤ g ∧ g < w.heap.size
  | [], [], _, u, hu => by cases hu
  | [], _ :: _, h, _, _ => h.elim
  | _ :: _, [], h, _, _ => h.elim
  | v :: us, x :: xs, h, u, hu => by
    rcases List.mem_cons.1 hu with rfl | hu
    · exact fun g hg => h.1.lt g hg
    · exact OwnAll.low_at h.2 u hu

theorem LL.kept_way {w w' : World} {base : Nat} {v : Value} {vs : List Value} {X : List (List Int)} (h : LL w base v vs X) {tv : Value} {n : Nat} {xs : List Value} (hw : w.ownsRow base 3 1 tv n xs) (ha : ∀ u, u ∈ vs → ∀ g, u.ownBlock = some g → tv.ownBlock ≠ some g) (hg : w.grownBy w' tv.ownBlock) : LL w' base v vs X := by
  refine ⟨owns_block h.row (fun g hgv => hg.block g (h.row.lt g hgv).2 (fun e => ?_)), OwnAll.kept_at h.all (fun u hu g hgu => hg.block g (OwnAll.low_at h.all u hu g hgu).2 (fun e => ha u hu g hgu e.symm))⟩
  rcases hw.2 with ⟨rfl, _⟩ | ⟨g1, cap1, cur1, rfl, _, h1, _⟩
  · cases e
  · rcases h.row.2 with ⟨rfl, _⟩ | ⟨g2, cap2, cur2, rfl, _, h2, _⟩
    · cases hgv
    · have e1 : g = g1 := Option.some.inj e
      have e2 : g2 = g := Option.some.inj hgv
      rw [← e1] at h1
      rw [e2, h1] at h2
      injection h2 with h3
      injection h3 with _ h4 _
      exact absurd h4 (by decide)

def FromPst (G : List (List Pm × Pm)) (l : Nat) (B sb mb leads many : Nat) (byv : Value) (met : Nat) (S : List Pm) (P : List Nat) (R : List (List Nat)) (w : World) (e : Ending) (w' : World) : Prop :=
  Frm B sb mb w w' ∧ Boxes w w' ∧ ∃ tv fv met', e = .returned (.bool (decide (R.length < many))) ∧ Qs w' B sb mb leads many byv tv fv met' S P R ∧ met' ≤ met + bnd G.length l

/-- What stays as it is while a search goes on. -/
structure Und7 (G : List (List Pm × Pm)) (B sb mb leads many : Nat) (byv : Value) (w0 : World) : Prop where
  hsb : sb < B
  hmb : mb < B
  hne : sb ≠ mb
  hmany : many ≤ 50
  hleads : leads ≤ 24
  hG : G.length ≤ 8
  rows : ∀ c (hc : c < G.length), 1 ≤ G[c].1.length ∧ G[c].1.length ≤ 1000
  mem : ∃ rvs : Nat → Value, ∀ W, Frm B sb mb w0 W → LeadsAt W byv rvs G

/-- What from says, of so many leads more. -/
def FromSays (G : List (List Pm × Pm)) (B sb mb leads many : Nat) (byv : Value) (w0 : World) (l : Nat) : Prop :=
  ∀ (h : Pm) (S : List Pm) (P : List Nat) (F : List (List Nat)) (met : Nat) (tv fv : Value) (w : World), Qs w B sb mb leads many byv tv fv met S P F → P.length + l = leads → F.length < many → met + bnd G.length l ≤ 20000 → S.length + l * 1000 ≤ 100000 → Frm B sb mb w0 w → B ≤ w.heap.size →
    Calls Try.prog 48 #[.pointer (some ⟨sb, 0, none⟩), pv h] w (FromPst G l B sb mb leads many byv met S P (fnd many F P (sols G l S h)) w)

set_option maxRecDepth 20000 in
set_option maxHeartbeats 8000000 in
theorem smeet_ok {G : List (List Pm × Pm)} {B sb mb leads many : Nat} {byv : Value} {w0 : World} (hU : Und7 G B sb mb leads many byv w0) {l : Nat} (hFS : FromSays G B sb mb leads many byv w0 l) (c : Nat)
    (h : Pm) (S : List Pm) (P : List Nat) (F : List (List Nat)) (met : Nat) (tv fv : Value) (w : World) (hQ : Qs w B sb mb leads many byv tv fv met S P F) (hPl : P.length + (l + 1) = leads) (hF : F.length < many) (hmet : met + (1 + bnd G.length l) ≤ 20000) (hS : S.length + l * 1000 ≤ 100000) (hFr : Frm B sb mb w0 w) (hB : B ≤ w.heap.size) :
    Calls Try.prog 98 #[.pointer (some ⟨sb, 0, none⟩), .int .i64 c, pv h] w (fun e w' => Frm B sb mb w w' ∧ Boxes w w' ∧ ∃ tv fv met', e = .returned (.bool (decide ((fnd many F (P ++ [c]) (sols G l S h)).length < many))) ∧ Qs w' B sb mb leads many byv tv fv met' S P (fnd many F (P ++ [c]) (sols G l S h)) ∧ met' ≤ met + (1 + bnd G.length l)) := by
  generalize hR : fnd many F (P ++ [c]) (sols G l S h) = R
  generalize hgo : decide (R.length < many) = go
  have HR := hide hR
  have HGo := hide hgo
  clear hR hgo
  obtain ⟨i0, hi, hz0, hz1, hz2⟩ := info_parts Try.info3
  have hsb := hU.hsb
  have hmb := hU.hmb
  have hne := hU.hne
  have hld := hU.hleads
  obtain ⟨tp, tc, rfl⟩ := owns_slice hQ.way
  have hl1 := h.len
  have hBA : Below w.heap.size w (w.alloc (.cells (i8s h.l) 85)) := (Below.refl _ _).alloc (Nat.le_refl _) _
  have hA0 := SAr.new w h.l hl1
  have hQ0 := hQ.below hBA (by omega) (by omega)
  have HFS := hide hFS
  have HFr0 := hide hFr
  have hPl2 : P.length ≤ 24 := by omega
  have hwn : w.heap.size ≠ sb := by omega
  obtain ⟨z0, z1, z2, z3, z4, z5, z6, f4, f5, f6⟩ := cells7 hQ0.blk
  have hk1 := set7m hQ0.blk (.int .i64 ((met : Int) + 1))
  have hFr1 : Frm B sb mb w ((w.alloc (.cells (i8s h.l) 85)).setCell ⟨sb, 5, none⟩ (.int .i64 ((met : Int) + 1))) := (Frm.of_below hBA hB).set 5 _
  have hA1 : SAr ((w.alloc (.cells (i8s h.l) 85)).setCell ⟨sb, 5, none⟩ (.int .i64 ((met : Int) + 1))) w.heap.size h.l := hA0.set_other hwn _
  have HQ0 := hide hQ0
  have hmet2 : ¬ ((20000 : Int) < (met : Int) + 1) := by omega
  clear hQ hQ0 hFS hFr
  unfold pv
  go_enter Try.func98, Try.ntmps98
  go_upto_region 2 with fail
  have hw1 : ((w.alloc (.cells (i8s h.l) 85)).setCell ⟨sb, 5, none⟩ (.int .i64 ((met : Int) + 1))).ownsRow B 3 1 (.slice tp P.length tc) P.length ((nI P).map (Value.int .i64)) := owns_block HQ0.out.way (fun g hg => Below.heap_setCell _ _ _ _ (by have := (HQ0.out.way.lt g hg).1; show g ≠ sb; omega))
  have hP1 : PSet ((w.alloc (.cells (i8s h.l) 85)).setCell ⟨sb, 5, none⟩ (.int .i64 ((met : Int) + 1))) mb S := HQ0.out.set.of_block (Below.heap_setCell _ _ _ _ (by show mb ≠ sb; omega))
  obtain ⟨vs, hL0, hAp⟩ := HQ0.out.fnd
  have hL1 : LL ((w.alloc (.cells (i8s h.l) 85)).setCell ⟨sb, 5, none⟩ (.int .i64 ((met : Int) + 1))) B fv vs (F.map nI) := hL0.frm' (fun b h1 _ => Below.heap_setCell _ _ _ _ (by show b ≠ sb; omega))
  have hs1 : B ≤ ((w.alloc (.cells (i8s h.l) 85)).setCell ⟨sb, 5, none⟩ (.int .i64 ((met : Int) + 1))).heap.size := Nat.le_trans hB hFr1.size
  have hA1l : w.heap.size < ((w.alloc (.cells (i8s h.l) 85)).setCell ⟨sb, 5, none⟩ (.int .i64 ((met : Int) + 1))).heap.size := hA1.lt
  have HBx1 : Hid (Boxes w ((w.alloc (.cells (i8s h.l) 85)).setCell ⟨sb, 5, none⟩ (.int .i64 ((met : Int) + 1)))) := (Boxes.below hBA).trans (Boxes.set HQ0.out.blk)
  have HP1 := hide hP1
  have HL1 := hide hL1
  have HAp := hide hAp
  have HF1 := hide hFr1
  have HA1 := hide hA1
  obtain ⟨a0, a1, a2, a3, a4, a5, a6, g4, g5, g6⟩ := cells7 hk1
  have HK1 := hide hk1
  clear z0 z1 z2 z3 z4 z5 z6 f4 f5 f6 hP1 hL1 hL0 hAp hFr1 hA1 hA0 HQ0 hk1 hBA
  generalize (w.alloc (.cells (i8s h.l) 85)).setCell ⟨sb, 5, none⟩ (.int .i64 ((met : Int) + 1)) = W1 at *
  go_wp2_with (at_builtin; refine wpList_append_keep _ rfl _ _ 26 rfl B 3 i0 (.int .i64 0) 1 8 Try.underlying26 hi hz0 hz1 hz2 rfl (by decide) _ _ _ rfl (hw1.alloc _) ⟨W1.heap.size, 0, none⟩ 1 1 [.int .i64 (c : Int)] rfl rfl ?c1 ?c2 ?c3 ?c4 ?c5 ?_)
  case c2 => rfl
  case c3 => unfold maxLen; omega
  case c4 => omega
  case c5 => omega
  intro v' w4 hown4 hgrow hloc
  obtain ⟨vp, vc, rfl⟩ := owns_slice hown4
  have hb4 : Below B W1 w4 := ((Below.refl _ _).alloc hs1 _).grown hgrow (by simp; omega) (fun g hg => (hw1.lt g hg).1)
  have hk4 := (hb4.block sb hsb).trans HK1.out
  obtain ⟨y0, y1, y2, y3, y4, y5, y6, q4, q5, q6⟩ := cells7 hk4
  have hApA : ∀ u, u ∈ vs → ∀ g, u.ownBlock = some g → (Value.slice tp P.length tc).ownBlock ≠ some g := HAp.out
  have HL4 : Hid (LL w4 B fv vs (F.map nI)) := LL.kept_way (HL1.out.below ((Below.refl _ _).alloc (Nat.le_refl _) (.cells #[.int .i64 (c : Int)] 3))) (hw1.alloc _) hApA hgrow
  have HAp4 : Hid (∀ u, u ∈ vs → ∀ g, u.ownBlock = some g → (Value.slice vp (P.length + 1) vc).ownBlock ≠ some g) := fun u hu g hg e => by
    rcases hloc with h9 | ⟨h9, _⟩
    · exact HAp.out u hu g hg (h9 ▸ e)
    · rw [h9] at e
      have e' : W1.heap.size + 1 = g := Option.some.inj e
      have := (OwnAll.low_at HL1.out.all u hu g hg).2
      omega
  have HF5 : Hid (Frm B sb mb w (w4.setCell ⟨sb, 4, none⟩ (.slice vp (P.length + 1) vc))) := (HF1.out.trans (Frm.of_below hb4 (Nat.le_refl _))).set 4 _
  have HBx5 : Hid (Boxes w (w4.setCell ⟨sb, 4, none⟩ (.slice vp (P.length + 1) vc))) := ((HBx1.out.trans (Boxes.below ((Below.refl _ _).alloc (Nat.le_refl _) (.cells #[.int .i64 (c : Int)] 3)))).trans (Boxes.grown (hw1.alloc _) hgrow (by decide))).trans (Boxes.set hk4)
  have hne4 : (Value.slice tp P.length tc).ownBlock ≠ some w.heap.size := fun e => by
    have h7 := HA1.out.1
    rcases hw1.2 with ⟨h8, _⟩ | ⟨g8, c8, u8, h8, _, h9, _⟩
    · rw [h8] at e; cases e
    · rw [h8] at e
      have e' : g8 = w.heap.size := Option.some.inj e
      rw [e', h7] at h9
      injection h9 with h10
      injection h10 with _ h11 _
      exact absurd h11 (by decide)
  have HA5 : Hid (SAr (w4.setCell ⟨sb, 4, none⟩ (.slice vp (P.length + 1) vc)) w.heap.size h.l) := by
    have h6 : SAr w4 w.heap.size h.l := (HA1.out.alloc (.cells #[.int .i64 (c : Int)] 3)).kept hgrow hne4
    exact h6.set_other hwn _
  have HQ5 : Hid (Qs (w4.setCell ⟨sb, 4, none⟩ (.slice vp (P.length + 1) vc)) B sb mb leads many byv (.slice vp (P.length + 1) vc) fv (met + 1) S (P ++ [c]) F) := by
    refine ⟨set7t hk4 _, HP1.out.of_block ((Below.heap_setCell _ _ _ _ (by show mb ≠ sb; omega)).trans (hb4.block mb hmb)), ?_, vs, HL4.out.frm' (fun b h1 _ => Below.heap_setCell _ _ _ _ (by show b ≠ sb; omega)), HAp4.out⟩
    rw [List.length_append, List.length_singleton, show nI (P ++ [c]) = nI P ++ [(c : Int)] from by simp [nI], List.map_append]
    exact owns_block hown4 (fun g hg => Below.heap_setCell _ _ _ _ (by have := (hown4.lt g hg).1; show g ≠ sb; omega))
  clear HL4 HAp4 hb4 hk4 hown4 hgrow hloc hw1 hApA hne4 HP1 HL1 HAp HF1 HA1 HK1 a0 a1 a2 a3 a4 a5 a6 g4 g5 g6
  go_upto_region 5 with fail
  generalize w4.setCell ⟨sb, 4, none⟩ (.slice vp (P.length + 1) vc) = W5 at *
  have HCALL := hide (HFS.out h S (P ++ [c]) F (met + 1) _ _ W5 HQ5.out (by rw [List.length_append, List.length_singleton]; omega) hF (by omega) hS (HFr0.out.trans HF5.out) (Nat.le_trans hB HF5.out.size))
  have hA5 := HA5.out
  clear HQ5 HA5 y0 y1 y2 y3 y4 y5 y6 q4 q5 q6 HFS
  unfold pv at HCALL
  go_wp2_with (refine wpList_load_sar rfl _ rfl _ _ hA5 rfl ?_)
  refine HCALL.out.mono ?_
  rw [HR.out]
  rintro e w6 ⟨hF6, hBx6, tv6, fv6, met6, he6, hQ6, hm6⟩
  rw [HGo.out] at he6
  subst he6
  have hway6 := hQ6.way
  rw [List.length_append, List.length_singleton, show nI (P ++ [c]) = nI P ++ [(c : Int)] from by simp [nI], List.map_append] at hway6
  obtain ⟨g7, cp7, rfl, hg71, hg72, hcp1, hcp2⟩ := owns_form hway6 (by omega)
  obtain ⟨x0, x1, x2, x3, x4, x5, x6, t4, t5, t6⟩ := cells7 (show w6.drew.heap[sb]? = _ from hQ6.blk)
  have HF6 := hide (HF5.out.trans hF6)
  have HBx7 : Hid (Boxes w (w6.setCell ⟨sb, 4, none⟩ (.slice (some ⟨g7, 0, none⟩) P.length cp7)).drew) := (HBx5.out.trans hBx6).trans (Boxes.set hQ6.blk)
  have HQ6 := hide hQ6
  have HW7 := hide (ownsRow_pop (xs := (nI P).map (Value.int .i64)) (n := P.length) (by rw [List.length_map, nI_len, Nat.mul_one]) hway6)
  clear hF6 hQ6 hway6 HCALL hA5 HF5
  go_upto_region 6 with fail
  go_region
  have HFZ : Hid (Frm B sb mb w (w6.setCell ⟨sb, 4, none⟩ (.slice (some ⟨g7, 0, none⟩) P.length cp7)).drew) := (HF6.out.set 4 _).trans (Frm.of_below ((Below.refl B _).drew) (Nat.le_refl _))
  have HQZ : Hid (Qs (w6.setCell ⟨sb, 4, none⟩ (.slice (some ⟨g7, 0, none⟩) P.length cp7)).drew B sb mb leads many byv (.slice (some ⟨g7, 0, none⟩) P.length cp7) fv6 met6 S P R) := by
    obtain ⟨vs6, hL6, hA6⟩ := HQ6.out.fnd
    refine ⟨set7t HQ6.out.blk _, HQ6.out.set.of_block (Below.heap_setCell _ _ _ _ (by show mb ≠ sb; omega)), owns_block HW7.out (fun g hg => Below.heap_setCell w6 _ _ _ (by have := (HW7.out.lt g hg).1; show g ≠ sb; omega)), vs6, hL6.frm' (fun b h1 _ => Below.heap_setCell w6 _ _ _ (by show b ≠ sb; omega)), hA6⟩
  clear HQ6 HW7 HF6 x0 x1 x2 x3 x4 x5 x6 t4 t5 t6
  generalize (w6.setCell ⟨sb, 4, none⟩ (.slice (some ⟨g7, 0, none⟩) P.length cp7)).drew = wz at *
  go_wp2
  go_ret
  exact ⟨HFZ.out, HBx7.out, _, fv6, met6, rfl, HQZ.out, by omega⟩

end Go.Proofs.Ytoiiadiimfohiaa

/- Contract: search's lead, over from's. -/
namespace Go.Proofs.Ytoiiadiimfohiaa
open Go.RowKit

theorem Qs.tb {w w' : World} {B sb mb leads many : Nat} {byv tv fv : Value} {met : Nat} {S S' : List Pm} {P : List Nat} {F : List (List Nat)} (h : Qs w B sb mb leads many byv tv fv met S P F) (ht : TB mb w w') (hs : PSet w' mb S') (hsb : sb < B) (hmb : mb < B) (hne : sb ≠ mb) (hB : B ≤ w.heap.size) : Qs w' B sb mb leads many byv tv fv met S' P F := by
  obtain ⟨vs, hL, ha⟩ := h.fnd
  exact ⟨(ht.block sb (by omega) hne).trans h.blk, hs, owns_block h.way (fun g hg => ht.block g (h.way.lt g hg).2 (by have := (h.way.lt g hg).1; omega)), vs, hL.frm' (fun b h1 h2 => ht.block b h2 (by omega)), ha⟩

theorem not_okl {S X : List Pm} {h : Pm} {k : Nat} (hk : k < X.length) (hin : h * X[k] ∈ (rws h (X.take k)).reverse ++ S) : ¬ okl S h X := by
  intro ho
  unfold okl at ho
  have e : rws h X = rws h (X.take k) ++ (h * X[k] :: rws h (X.drop (k + 1))) := by
    rw [← rws_drop h X hk]
    unfold rws
    rw [← List.map_append, List.take_append_drop]
  rw [e, List.reverse_append, List.reverse_cons, List.append_assoc, List.append_assoc] at ho
  have h2 := (List.nodup_append.1 ho).2.1
  rw [List.singleton_append, List.nodup_cons] at h2
  exact h2.1 hin

set_option maxRecDepth 20000 in
set_option maxHeartbeats 8000000 in
theorem slead_ok {G : List (List Pm × Pm)} {B sb mb leads many : Nat} {byv : Value} {w0 : World} (hU : Und7 G B sb mb leads many byv w0) {l : Nat} (hFS : FromSays G B sb mb leads many byv w0 l) (c : Nat) (hc : c < G.length) (X : List Pm) (x : Pm) (hG : G[c] = (X, x)) (rv : Value)
    (hX : ∀ W, Frm B sb mb w0 W → PmsAt W rv X)
    (h : Pm) (S : List Pm) (P : List Nat) (F : List (List Nat)) (met : Nat) (tv fv : Value) (w : World) (hQ : Qs w B sb mb leads many byv tv fv met S P F) (hPl : P.length + (l + 1) = leads) (hF : F.length < many) (hmet : met + (1 + bnd G.length l) ≤ 20000) (hS : S.length + (l + 1) * 1000 ≤ 100000) (hFr : Frm B sb mb w0 w) (hB : B ≤ w.heap.size) :
    Calls Try.prog 72 #[.pointer (some ⟨sb, 0, none⟩), pv h, .int .i64 c, .agg (rv :: x.l.map (Value.int .i8)).toArray] w (fun e w' => Frm B sb mb w w' ∧ Boxes w w' ∧ ∃ tv fv met', e = .returned (.bool (decide ((fnd many F P (solBy G l S h c)).length < many))) ∧ Qs w' B sb mb leads many byv tv fv met' S P (fnd many F P (solBy G l S h c)) ∧ met' ≤ met + (1 + bnd G.length l)) := by
  generalize hR : fnd many F P (solBy G l S h c) = R
  generalize hgo : decide (R.length < many) = go
  have HR := hide hR
  have HGo := hide hgo
  clear hR hgo
  obtain ⟨hx1, hx2⟩ := hU.rows c hc
  rw [hG] at hx1 hx2
  have hgd : G.getD c ([], 1) = (X, x) := by rw [List.getD, List.getElem?_eq_getElem hc]; exact hG
  have hsb := hU.hsb
  have hmb := hU.hmb
  have hne := hU.hne
  obtain ⟨b, off, cap, hrv, hcapl, hcapm⟩ : ∃ b off cap, rv = .slice (some ⟨b, off, none⟩) X.length cap ∧ X.length ≤ cap ∧ cap ≤ 9223372036854775807 := by
    rcases hX w hFr with ⟨h9, _⟩ | ⟨b, off, cap, h9, _, h10, h11, _⟩
    · rw [h9] at hx1; simp at hx1
    · exact ⟨b, off, cap, h9, h10, h11⟩
  subst hrv
  have hhl := h.len
  have hxl := x.len
  have hBA : Below w.heap.size w ((w.alloc (.cells (i8s h.l) 85)).alloc (.cells (.slice (some ⟨b, off, none⟩) X.length cap :: x.l.map (Value.int .i8)).toArray 87)) := ((Below.refl _ _).alloc (Nat.le_refl _) _).alloc (by simp) _
  have hA0 : SAr ((w.alloc (.cells (i8s h.l) 85)).alloc (.cells (.slice (some ⟨b, off, none⟩) X.length cap :: x.l.map (Value.int .i8)).toArray 87)) w.heap.size h.l := (SAr.new w h.l hhl).alloc _
  have hblk : ((w.alloc (.cells (i8s h.l) 85)).alloc (.cells (.slice (some ⟨b, off, none⟩) X.length cap :: x.l.map (Value.int .i8)).toArray 87)).heap[w.heap.size + 1]? = some (.cells (.slice (some ⟨b, off, none⟩) X.length cap :: x.l.map (Value.int .i8)).toArray 87) := by
    have h9 := heap_alloc_new (w.alloc (.cells (i8s h.l) 85)) (.cells (.slice (some ⟨b, off, none⟩) X.length cap :: x.l.map (Value.int .i8)).toArray 87)
    rw [show (w.alloc (.cells (i8s h.l) 85)).heap.size = w.heap.size + 1 from by simp] at h9
    exact h9
  have hQ0 := hQ.below hBA (by omega) (by omega)
  have HFr0 := hide (hFr.trans (Frm.of_below hBA hB))
  have HFw : Hid (Frm B sb mb w ((w.alloc (.cells (i8s h.l) 85)).alloc (.cells (.slice (some ⟨b, off, none⟩) X.length cap :: x.l.map (Value.int .i8)).toArray 87))) := Frm.of_below hBA hB
  have HBx0 := hide (Boxes.below hBA)
  have hB0 : B ≤ ((w.alloc (.cells (i8s h.l) 85)).alloc (.cells (.slice (some ⟨b, off, none⟩) X.length cap :: x.l.map (Value.int .i8)).toArray 87)).heap.size := Nat.le_trans hB hBA.size
  have hsz0 : w.heap.size + 1 < ((w.alloc (.cells (i8s h.l) 85)).alloc (.cells (.slice (some ⟨b, off, none⟩) X.length cap :: x.l.map (Value.int .i8)).toArray 87)).heap.size := by simp
  generalize hW0 : (w.alloc (.cells (i8s h.l) 85)).alloc (.cells (.slice (some ⟨b, off, none⟩) X.length cap :: x.l.map (Value.int .i8)).toArray 87) = W0 at *
  have HX0 := hide (hX W0 HFr0.out)
  have HX := hide hX
  have HU := hide hU
  have HFS := hide hFS
  have hd0 : W0.cell? ⟨w.heap.size + 1, 0, none⟩ = some (.slice (some ⟨b, off, none⟩) X.length cap) := by simp [World.cell?, hblk]
  have hrx0 : W0.rangeAt (w.heap.size + 1) 1 (x.l.map (Value.int .i8)) := fun j v hv => by
    have : ((.slice (some ⟨b, off, none⟩) X.length cap :: x.l.map (Value.int .i8)).toArray : Array Value)[1 + j]? = some v := by
      rw [List.getElem?_toArray, Nat.add_comm, List.getElem?_cons_succ]; exact hv
    simp [World.cell?, hblk, this]
  have HRING := hide (ring_ok sb mb h (.slice (some ⟨b, off, none⟩) X.length cap) X S W0 (cells7 hQ0.blk).2.2.2.1 hQ0.set HX0.out hx2 (by omega))
  have HQ0 := hide hQ0
  have HD0 := hide hd0
  have HRX := hide hrx0
  have hA0' := hA0
  have hSl : S.length ≤ 100000 := by omega
  have HBLK := hide hblk
  clear hQ hQ0 hFS hFr hU hX hblk hrx0 hBA
  unfold pv at HRING ⊢
  go_enter Try.func72, Try.ntmps72
  go_wp2_with (refine wpList_load_sar rfl _ rfl _ _ hA0 rfl ?_)
  refine HRING.out.mono ?_
  rintro e w1 ⟨k, hk, rfl, hset1, hT1, hin1⟩
  have hA1 := hA0.tb HQ0.out.set hT1
  have hd1 := struct_cell hd0 HQ0.out.set hT1
  have hw1n : w.heap.size + 1 ≠ mb := by omega
  have hB1 : B ≤ w1.heap.size := Nat.le_trans hB0 hT1.size
  have HF1 := hide (HFw.out.trans (hT1.frm hB0))
  have HFz1 := hide (HFr0.out.trans (hT1.frm hB0))
  have HBx1 := hide (HBx0.out.trans (Boxes.tb hT1 HQ0.out.set))
  have HQ1 := hide (HQ0.out.tb hT1 hset1 hsb hmb hne hB0)
  by_cases hfull : k = X.length
  · subst hfull
    rw [List.take_length] at hset1 HQ1
    have hok : okl S h X := hset1.1
    have HSB : Hid (solBy G l S h c = (sols G l ((rws h X).reverse ++ S) (h * x)).map (fun t => c :: t)) := by
      show _ = _
      unfold solBy
      rw [hgd, if_pos hok]
    have hrx1 := range_block HRX.out (hT1.block (w.heap.size + 1) hsz0 hw1n)
    have hblk1 : w1.heap[w.heap.size + 1]? = some (.cells (.slice (some ⟨b, off, none⟩) X.length cap :: x.l.map (Value.int .i8)).toArray 87) := (hT1.block (w.heap.size + 1) hsz0 hw1n).trans HBLK.out
    have HBK1 := hide hblk1
    have HS1 := hide hset1
    have hS1l : ((rws h X).reverse ++ S).length + l * 1000 ≤ 100000 := by rw [List.length_append, List.length_reverse, rws_length]; omega
    clear HRING HRX hset1 hT1 hin1 hok HBLK hblk1
    go_wp2_with (first | refine wpList_load_sar rfl _ rfl _ _ hA1 rfl ?_ | refine wpList_load_mid rfl _ _ rfl (w.heap.size + 1) 1 rfl (x.l.map (Value.int .i8)) _ hrx1 Try.underlying85 rfl (by rw [Try.size85, List.length_map, hxl]) ?_)
    refine (stimes_ok h x w1).mono ?_
    unfold pv
    rintro e w2 ⟨rfl, hb2⟩
    have HQ2 := hide (HQ1.out.below hb2 (by omega) (by omega))
    have HF2 := hide (HF1.out.trans (Frm.of_below hb2 hB1))
    have HFz2 := hide (HFz1.out.trans (Frm.of_below hb2 hB1))
    have HBx2 := hide (HBx1.out.trans (Boxes.below hb2))
    have hA2 := hA1.below hb2 hA1.lt
    have HBK2 := hide ((hb2.block (w.heap.size + 1) (by have := hsz0; have := hA1.lt; have h9 := (Array.getElem?_eq_some_iff.1 HBK1.out).1; exact h9)).trans HBK1.out)
    have hB2 : B ≤ w2.heap.size := Nat.le_trans hB1 hb2.size
    have HMEET := hide (smeet_ok HU.out HFS.out c (h * x) ((rws h X).reverse ++ S) P F met tv fv w2 HQ2.out hPl hF hmet hS1l HFz2.out hB2)
    rw [fnd_call, ← HSB.out, HR.out, HGo.out] at HMEET
    unfold pv at HMEET
    clear hb2 HQ1 HF1 HFz1 HBx1 hA1 HBK1 hrx1 hd1
    go_wp2_with fail
    refine HMEET.out.mono ?_
    rintro e w3 ⟨hF3, hBx3, tv3, fv3, met3, rfl, hQ3, hm3⟩
    have hA3 : SAr w3 w.heap.size h.l := ⟨(hBx3 _ _ _ hA2.1 (Or.inl rfl)).trans hA2.1, hA2.2⟩
    have hbk3 := (hBx3 _ _ _ HBK2.out (Or.inr rfl)).trans HBK2.out
    have hd3 : w3.cell? ⟨w.heap.size + 1, 0, none⟩ = some (.slice (some ⟨b, off, none⟩) X.length cap) := by simp [World.cell?, hbk3]
    have HF3 := hide (HF2.out.trans hF3)
    have HBx3 := hide (HBx2.out.trans hBx3)
    have HQ3 := hide hQ3
    have HPS3 := hide hQ3.set
    have hB3 : B ≤ w3.heap.size := Nat.le_trans hB2 hF3.size
    have HX3 := hide (HX.out w3 (HFz2.out.trans hF3))
    have HSI := hide (fun W (hW : Below w3.heap.size w3 W) => silence_ok sb mb h (.slice (some ⟨b, off, none⟩) X.length cap) X S W ((hW.cell (p := ⟨sb, 3, none⟩) (by show sb < w3.heap.size; omega)).trans (cells7 HQ3.out.blk).2.2.2.1) (HPS3.out.of_block (hW.block mb (by omega))) (HX3.out.below hW) hx2)
    clear hF3 hBx3 hQ3 HF2 HBx2 HFz2 HMEET HQ2 HBK2 hbk3 hA2 HS1 HX3
    go_upto_region 5 with fail
    refine wp_region_held_drew (S := fun W' => SAr W' w.heap.size h.l ∧ W'.cell? ⟨w.heap.size + 1, 0, none⟩ = some (.slice (some ⟨b, off, none⟩) X.length cap)) (by kernel_rfl) ⟨hA3, hd3⟩ (fun hS => ?_)
    refine wpAnyH_take (i := 0) (v := .pointer (some ⟨sb, 0, none⟩)) rfl (by kernel_rfl) (by kernel_rfl) (by kernel_rfl) (fun _ _ _ h => h) (Or.inl ⟨by kernel_rfl, fun w' hS' => by obtain ⟨q0, q1⟩ := hS'; go_simp⟩) hS ?_
    refine wpAnyH_take (i := 1) rfl (by kernel_rfl) (by kernel_rfl) (by kernel_rfl) (fun _ _ _ h => h) (yieldsIf_load_mid (by kernel_rfl) _ _ rfl w.heap.size 0 rfl (h.l.map (Value.int .i8)) _ (fun w' hS' => hS'.1.range) Try.underlying85 rfl (by rw [Try.size85, List.length_map, Pm.len])) hS ?_
    refine wpAnyH_take (i := 2) (v := .pointer (some ⟨w.heap.size + 1, 0, none⟩)) rfl (by kernel_rfl) (by kernel_rfl) (by kernel_rfl) (fun _ _ _ h => h) (Or.inl ⟨by kernel_rfl, fun w' hS' => by obtain ⟨q0, q1⟩ := hS'; go_simp⟩) hS ?_
    refine wpAnyH_take (i := 3) (v := .slice (some ⟨b, off, none⟩) X.length cap) rfl (by kernel_rfl) (by kernel_rfl) (by kernel_rfl) (fun _ _ _ h => h) (Or.inl ⟨by kernel_rfl, fun w' hS' => by obtain ⟨q0, q1⟩ := hS'; go_simp⟩) hS ?_
    refine wpAnyH_take (i := 4) (v := .int .i64 (X.length : Int)) rfl (by kernel_rfl) (by kernel_rfl) (by kernel_rfl) (fun _ _ _ h => h) (Or.inl ⟨by kernel_rfl, fun w' hS' => by obtain ⟨q0, q1⟩ := hS'; go_simp⟩) hS ?_
    refine wpAnyH_take (i := 5) (v := .slice (some ⟨b, off, none⟩) X.length cap) rfl (by kernel_rfl) (by kernel_rfl) (by kernel_rfl) (fun _ _ _ h => h) (Or.inl ⟨by kernel_rfl, fun w' hS' => by obtain ⟨q0, q1⟩ := hS'; go_simp; try (intro h0; exact absurd h0 (by omega))⟩) hS ?_
    refine wpAnyH_ready (rs := [6]) (by kernel_rfl) (by simp) ?_
    refine AllReadyH.cons rfl (fun K hK => ?_) (AllReadyH.nil)
    go_simp
    refine (HSI.out w3.drew ((Below.refl _ _).drew)).mono ?_
    rintro e w4 ⟨rfl, hset4, hT4⟩
    have hT4' : TB mb w3 w4 := ((TB.refl mb w3).drew).trans hT4
    refine hK.out _ _ ⟨hA3.tb HPS3.out hT4', struct_cell hd3 HPS3.out hT4'⟩ (fun hS => ?_)
    clear hK
    refine wpAnyH_done (by kernel_rfl) ?_ _
    have HQ4 := hide (HQ3.out.tb hT4' hset4 hsb hmb hne hB3)
    have HF4 := hide (HF3.out.trans (hT4'.frm hB3))
    have HBx4 := hide (HBx3.out.trans (Boxes.tb hT4' HPS3.out))
    clear hS hT4 hT4' hset4 hA3 hd3 HSI HQ3 HF3 HPS3 HBx3
    go_wp2
    go_ret
    exact ⟨HF4.out, HBx4.out, tv3, fv3, met3, rfl, HQ4.out, hm3⟩
  · have hklt : k < X.length := by omega
    have hno : ¬ okl S h X := not_okl hklt (hin1 hklt)
    have HRe : Hid (R = F) := by
      show _ = _
      rw [← HR.out]
      unfold solBy
      rw [hgd, if_neg hno, fnd_nil P (Nat.le_of_lt hF)]
    have HGt : Hid (true = go) := by
      show _ = _
      rw [← HGo.out, HRe.out, decide_eq_true hF]
    have e1 : (((k : Nat) : Int) == ((X.length : Nat) : Int)) = false := by rw [beq_eq_false_iff_ne]; omega
    have hXk : PmsAt w1 (.slice (some ⟨b, off, none⟩) k cap) (X.take k) := (HX0.out.tb HQ0.out.set hT1).cut rfl hk
    have HPS3 := hide hset1
    have HSI := hide (fun W (hW : Below w1.heap.size w1 W) => silence_ok sb mb h (.slice (some ⟨b, off, none⟩) k cap) (X.take k) S W ((hW.cell (p := ⟨sb, 3, none⟩) (by show sb < w1.heap.size; omega)).trans (cells7 HQ1.out.blk).2.2.2.1) (HPS3.out.of_block (hW.block mb (by omega))) (hXk.below hW) (by rw [List.length_take]; omega))
    have hA3 := hA1
    have hd3 := hd1
    have HF3 := HF1
    have HBx3 := HBx1
    have HQ3 := HQ1
    have hB3 := hB1
    clear HRING HRX hset1 hT1 hin1 hno HBLK hA1 hd1 HF1 HBx1 HQ1 hXk hfull HFz1 hB1
    go_upto_region 5 with fail
    refine wp_region_held_drew (S := fun W' => SAr W' w.heap.size h.l ∧ W'.cell? ⟨w.heap.size + 1, 0, none⟩ = some (.slice (some ⟨b, off, none⟩) X.length cap)) (by kernel_rfl) ⟨hA3, hd3⟩ (fun hS => ?_)
    refine wpAnyH_take (i := 0) (v := .pointer (some ⟨sb, 0, none⟩)) rfl (by kernel_rfl) (by kernel_rfl) (by kernel_rfl) (fun _ _ _ h => h) (Or.inl ⟨by kernel_rfl, fun w' hS' => by obtain ⟨q0, q1⟩ := hS'; go_simp⟩) hS ?_
    refine wpAnyH_take (i := 1) rfl (by kernel_rfl) (by kernel_rfl) (by kernel_rfl) (fun _ _ _ h => h) (yieldsIf_load_mid (by kernel_rfl) _ _ rfl w.heap.size 0 rfl (h.l.map (Value.int .i8)) _ (fun w' hS' => hS'.1.range) Try.underlying85 rfl (by rw [Try.size85, List.length_map, Pm.len])) hS ?_
    refine wpAnyH_take (i := 2) (v := .pointer (some ⟨w.heap.size + 1, 0, none⟩)) rfl (by kernel_rfl) (by kernel_rfl) (by kernel_rfl) (fun _ _ _ h => h) (Or.inl ⟨by kernel_rfl, fun w' hS' => by obtain ⟨q0, q1⟩ := hS'; go_simp⟩) hS ?_
    refine wpAnyH_take (i := 3) (v := .slice (some ⟨b, off, none⟩) X.length cap) rfl (by kernel_rfl) (by kernel_rfl) (by kernel_rfl) (fun _ _ _ h => h) (Or.inl ⟨by kernel_rfl, fun w' hS' => by obtain ⟨q0, q1⟩ := hS'; go_simp⟩) hS ?_
    refine wpAnyH_take (i := 4) (v := .int .i64 (k : Int)) rfl (by kernel_rfl) (by kernel_rfl) (by kernel_rfl) (fun _ _ _ h => h) (Or.inl ⟨by kernel_rfl, fun w' hS' => by obtain ⟨q0, q1⟩ := hS'; go_simp⟩) hS ?_
    refine wpAnyH_take (i := 5) (v := .slice (some ⟨b, off, none⟩) k cap) rfl (by kernel_rfl) (by kernel_rfl) (by kernel_rfl) (fun _ _ _ h => h) (Or.inl ⟨by kernel_rfl, fun w' hS' => by obtain ⟨q0, q1⟩ := hS'; go_simp; try (intro h0; exact absurd h0 (by omega))⟩) hS ?_
    refine wpAnyH_ready (rs := [6]) (by kernel_rfl) (by simp) ?_
    refine AllReadyH.cons rfl (fun K hK => ?_) (AllReadyH.nil)
    go_simp
    refine (HSI.out w1.drew ((Below.refl _ _).drew)).mono ?_
    rintro e w4 ⟨rfl, hset4, hT4⟩
    have hT4' : TB mb w1 w4 := ((TB.refl mb w1).drew).trans hT4
    refine hK.out _ _ ⟨hA3.tb HPS3.out hT4', struct_cell hd3 HPS3.out hT4'⟩ (fun hS => ?_)
    clear hK
    refine wpAnyH_done (by kernel_rfl) ?_ _
    have HQ4 := hide (HQ3.out.tb hT4' hset4 hsb hmb hne hB3)
    have HF4 := hide (HF3.out.trans (hT4'.frm hB3))
    have HBx4 := hide (HBx3.out.trans (Boxes.tb hT4' HPS3.out))
    clear hS hT4 hT4' hset4 hA3 hd3 HSI HQ3 HF3 HPS3 HBx3
    go_wp2
    go_ret
    exact ⟨HF4.out, HBx4.out, tv, fv, met, ret_bool HGt.out, by rw [HRe.out]; exact HQ4.out, by omega⟩

end Go.Proofs.Ytoiiadiimfohiaa

/- Contract: search's from, at all depths. -/
namespace Go.Proofs.Ytoiiadiimfohiaa
open Go.RowKit

theorem Try.size87 : (Try.prog.info? 87).map (·.size) = some 13 := by kernel_rfl

theorem lead_one {rv : Value} (hr : rv.oneCell' = true) (x : Pm) : ((rv :: x.l.map (Value.int .i8)).toArray).all (·.oneCell') = true := by
  rw [Array.all_eq_true_iff_forall_mem]
  intro v hv
  simp at hv
  rcases hv with rfl | ⟨a, _, rfl⟩
  · exact hr
  · rfl

theorem run_store_lead {w : World} {b : Nat} {c : Array Value} {rv : Value} {x : Pm} (hb : w.heap[b]? = some (.cells c 87)) (hc : c.size = 13) (hr : rv.oneCell' = true) :
    ∃ w', (Instr.storeAt 87 (.pointer (some ⟨b, 0, none⟩)) (.agg (rv :: x.l.map (Value.int .i8)).toArray)).run Try.prog w = .ok () w' ∧ w'.heap[b]? = some (.cells (rv :: x.l.map (Value.int .i8)).toArray 87) ∧ w.grownBy w' (some b) := by
  have hsz : ((rv :: x.l.map (Value.int .i8)).toArray).size = 13 := by simp [x.len]
  refine ⟨w.setRow b (rv :: x.l.map (Value.int .i8)).toArray, ?_, ?_, ⟨rfl, rfl, rfl, by simp [World.setRow], fun i hi hne => ?_⟩⟩
  · simp only [Instr.storeAt, Instr.sureAddr, Sem.run_bind, Sem.run_pure, Result.andThen]
    exact run_storeVar_row w b _ _ _ _ hb (by rw [Try.size87, hsz]) (by rw [hsz, hc]) (lead_one hr x)
  · simp [World.setRow, Array.getElem?_modify, hb]
  · simp only [World.setRow, Array.getElem?_modify]
    rw [if_neg (fun e => hne (by rw [e]))]

theorem wpList_store_lead {ops : Array Oper} {rest : List Oper} {op : Oper} {a : Act} {w : World} {Q : Exit → Act → World → Prop} (hgd : op.guard = none) (x y : Operand) (ho : op.op = .store 87 x y)
    (b : Nat) (c : Array Value) (rv : Value) (z : Pm) (hA : w.heap[b]? = some (.cells c 87)) (hc : c.size = 13) (hr : rv.oneCell' = true) (hx : a.eval x = .pointer (some ⟨b, 0, none⟩)) (hy : a.eval y = .agg (rv :: z.l.map (Value.int .i8)).toArray)
    (h : ∀ w', w'.heap[b]? = some (.cells (rv :: z.l.map (Value.int .i8)).toArray 87) → w.grownBy w' (some b) → wpList Try.prog ops Q rest (a.put op.dst undef) w') : wpList Try.prog ops Q (op :: rest) a w := by
  refine wpList_plain hgd fun K hK => ?_
  obtain ⟨w', hrun, h1, h2⟩ := run_store_lead (x := z) hA hc hr
  unfold Oper.wp execOp
  simp only [ho, hx, hy, hrun, Sem.run_bind, Sem.run_pure, Result.andThen_ok]
  exact hK _ _ (h w' h1 h2)

theorem solTo_cut (G : List (List Pm × Pm)) (l : Nat) (S : List Pm) (h : Pm) {k n : Nat} (hk : k ≤ n) : ∃ B, solTo G l S h n = solTo G l S h k ++ B := by
  induction n with
  | zero => exact ⟨[], by rw [show k = 0 by omega]; simp⟩
  | succ n ih =>
    by_cases he : k = n + 1
    · exact ⟨[], by rw [he]; simp⟩
    · obtain ⟨B, hB⟩ := ih (by omega)
      exact ⟨B ++ solBy G l S h n, by rw [solTo_succ, hB, List.append_assoc]⟩

set_option maxRecDepth 20000 in
set_option maxHeartbeats 8000000 in
theorem from_zero {G : List (List Pm × Pm)} {B sb mb leads many : Nat} {byv : Value} {w0 : World} (hU : Und7 G B sb mb leads many byv w0) : FromSays G B sb mb leads many byv w0 0 := by
  intro h S P F met tv fv w hQ hPl hF hmet hS hFr hB
  have hsb := hU.hsb
  have hmb := hU.hmb
  have hne := hU.hne
  have hmany := hU.hmany
  have hld := hU.hleads
  have hhl := h.len
  obtain ⟨tp, tc, rfl⟩ := owns_slice hQ.way
  have hBA : Below w.heap.size w (w.alloc (.cells (i8s h.l) 85)) := (Below.refl _ _).alloc (Nat.le_refl _) _
  have hA0 := (SAr.new w h.l hhl).drew
  have HQ0 := hide ((hQ.below hBA (by omega) (by omega)).drew)
  have HF0 : Hid (Frm B sb mb w (w.alloc (.cells (i8s h.l) 85)).drew) := (Frm.of_below hBA hB).trans (Frm.of_below ((Below.refl B _).drew) (Nat.le_refl _))
  have HB0 : Hid (Boxes w (w.alloc (.cells (i8s h.l) 85)).drew) := Boxes.below hBA.drew
  have hs0 : B ≤ (w.alloc (.cells (i8s h.l) 85)).drew.heap.size := Nat.le_trans hB hBA.size
  obtain ⟨z0, z1, z2, z3, z4, z5, z6, _, _, _⟩ := cells7 HQ0.out.blk
  have hEND : ∃ R, fnd many F P (sols G 0 S h) = R ∧ Calls Try.prog 71 #[.pointer (some ⟨sb, 0, none⟩), pv h] (w.alloc (.cells (i8s h.l) 85)).drew (EndPost B sb mb leads many byv (.slice tp P.length tc) met S P R (w.alloc (.cells (i8s h.l) 85)).drew) := by
    by_cases h1 : h = 1
    · subst h1
      refine ⟨F ++ [P], ?_, end_yes B sb mb leads many byv _ fv met S P F _ HQ0.out hsb hmb hne hs0 hF hmany (by omega)⟩
      unfold fnd sols
      rw [if_pos rfl, List.map_cons, List.map_nil, List.append_nil]
      exact List.take_of_length_le (by rw [List.length_append, List.length_singleton]; omega)
    · refine ⟨F, ?_, end_no h h1 B sb mb leads many byv _ fv met S P F _ HQ0.out hsb hmb hs0⟩
      unfold sols
      rw [if_neg h1, fnd_nil P (Nat.le_of_lt hF)]
  obtain ⟨R, hR, hE⟩ := hEND
  rw [hR]
  have HE := hide hE
  have e1 : (((P.length : Nat) : Int) == ((leads : Nat) : Int)) = true := by rw [beq_iff_eq]; omega
  unfold FromPst
  generalize hgo : decide (R.length < many) = go
  have HGo := hide hgo
  clear hE hQ hFr hBA hgo hR
  unfold pv at HE ⊢
  go_enter Try.func48, Try.ntmps48
  go_upto_region 1 with fail
  go_region
  go_wp2_with (refine wpList_load_sar rfl _ rfl _ _ hA0 rfl ?_)
  refine HE.out.mono ?_
  rintro e w3 ⟨hF3, hB3, fv3, he3, hQ3⟩
  rw [HGo.out] at he3
  subst he3
  have HF3 := hide (HF0.out.trans hF3)
  have HB3 := hide (HB0.out.trans hB3)
  have HQ3 := hide hQ3
  clear hF3 hB3 hQ3 HE
  go_wp2
  go_ret
  exact ⟨HF3.out, HB3.out, _, fv3, met, rfl, HQ3.out, by omega⟩

set_option maxRecDepth 20000 in
set_option maxHeartbeats 8000000 in
theorem from_succ {G : List (List Pm × Pm)} {B sb mb leads many : Nat} {byv : Value} {w0 : World} (hU : Und7 G B sb mb leads many byv w0) {l : Nat} (hFS : FromSays G B sb mb leads many byv w0 l) : FromSays G B sb mb leads many byv w0 (l + 1) := by
  intro h S P F met tv fv w hQ hPl hF hmet hS hFr hB
  have hsb := hU.hsb
  have hmb := hU.hmb
  have hne := hU.hne
  have hmany := hU.hmany
  have hld := hU.hleads
  have hG8 := hU.hG
  have hhl := h.len
  obtain ⟨tp, tc, rfl⟩ := owns_slice hQ.way
  obtain ⟨rvs, hmem⟩ := hU.mem
  obtain ⟨bb, bo, bc, hbe, _, hbc1, hbc2, _⟩ := hmem w hFr
  subst hbe
  have hBA : Below w.heap.size w (w.alloc (.cells (i8s h.l) 85)) := (Below.refl _ _).alloc (Nat.le_refl _) _
  have HA0 := hide ((SAr.new w h.l hhl).drew)
  have HQ0 := hide ((hQ.below hBA (by omega) (by omega)).drew)
  have HF0 : Hid (Frm B sb mb w (w.alloc (.cells (i8s h.l) 85)).drew) := (Frm.of_below hBA hB).trans (Frm.of_below ((Below.refl B _).drew) (Nat.le_refl _))
  have HB0 : Hid (Boxes w (w.alloc (.cells (i8s h.l) 85)).drew) := Boxes.below hBA.drew
  obtain ⟨z0, z1, z2, z3, z4, z5, z6, _, _, _⟩ := cells7 HQ0.out.blk
  have e1 : (((P.length : Nat) : Int) == ((leads : Nat) : Int)) = false := by rw [beq_eq_false_iff_ne]; omega
  rw [sols_succ]
  unfold FromPst
  generalize hR : fnd many F P (solTo G l S h G.length) = R
  generalize hgo : decide (R.length < many) = go
  have HGo := hide hgo
  have HR := hide hR
  have HU := hide hU
  have HMem := hide hmem
  have HFS := hide hFS
  have HFr0 := hide hFr
  have HMt : Hid (met + G.length * (1 + bnd G.length l) ≤ 20000) := hmet
  have hbS : bnd G.length (l + 1) = G.length * (1 + bnd G.length l) := rfl
  have HBS := hide hbS
  clear hQ hFr hBA hgo hR hU hFS hmet hbS hmem
  generalize hbl : 1 + bnd G.length l = bl at *
  have HBl := hide hbl
  clear hbl
  unfold pv
  go_enter Try.func48, Try.ntmps48
  go_upto_region 1 with fail
  go_region
  go_wp2
  go_loopw [25] (fun i wr => ∃ (k : Nat) (tv fv : Value) (met' : Nat), k ≤ G.length ∧ i = .int .i64 k ∧ Hid (Qs wr B sb mb leads many (.slice (some ⟨bb, bo, none⟩) G.length bc) tv fv met' S P (fnd many F P (solTo G l S h k))) ∧ Hid ((fnd many F P (solTo G l S h k)).length < many) ∧ Hid (met' ≤ met + k * bl) ∧ Hid (Frm B sb mb w wr) ∧ Hid (Boxes w wr) ∧ Hid (SAr wr w.heap.size h.l)) (fun i _ => G.length - (intOf i).toNat)
  case atStart => exact ⟨0, _, fv, met, by omega, rfl, by show Qs _ _ _ _ _ _ _ _ _ _ _ _ _; rw [show solTo G l S h 0 = [] from rfl, fnd_nil P (Nat.le_of_lt hF)]; exact HQ0.out, by show _ < _; rw [show solTo G l S h 0 = [] from rfl, fnd_nil P (Nat.le_of_lt hF)]; exact hF, by show _ ≤ _; omega, HF0, HB0, HA0⟩
  case round =>
    clear HQ0 HF0 HB0 HA0 z0 z1 z2 z3 z4 z5 z6
    obtain ⟨k, tv, fv, met', hk, rfl, hQ, hlt9, hm9, hFw, hBx, hA⟩ := hrel
    have hBw : B ≤ wr.heap.size := Nat.le_trans hB hFw.out.size
    by_cases hlt : k < G.length
    · obtain ⟨X, x, hX⟩ : ∃ X x, G[k] = (X, x) := ⟨_, _, rfl⟩
      obtain ⟨b', off', cap', he, hb1, _, _, hel⟩ := HMem.out wr (HFr0.out.trans hFw.out)
      simp only [Value.slice.injEq, Option.some.injEq, Addr.mk.injEq] at he
      obtain ⟨⟨rfl, rfl, _⟩, _, rfl⟩ := he
      obtain ⟨hrg, hpm⟩ := hel k hlt
      rw [hX] at hrg hpm
      have hPX : ∀ W, Frm B sb mb w0 W → PmsAt W (rvs k) X := fun W hW => by
        obtain ⟨_, _, _, _, _, _, _, hel2⟩ := HMem.out W hW
        have := (hel2 k hlt).2
        rw [hX] at this
        exact this
      obtain ⟨rp, rc, hrv⟩ := hpm.form
      generalize hrk : rvs k = rv at *
      subst hrv
      have HPX := hide hPX
      have HRK := hide hrk
      have hxl := x.len
      have hmk : met' + bl ≤ 20000 := by
        have h1 := HMt.out
        have h2 : (k + 1) * bl ≤ G.length * bl := Nat.mul_le_mul_right _ hlt
        have h3 := hm9.out
        rw [Nat.succ_mul] at h2
        omega
      have HLEAD := hide (fun W (hW : Qs W B sb mb leads many (.slice (some ⟨bb, bo, none⟩) G.length bc) tv fv met' S P (fnd many F P (solTo G l S h k))) (hFW : Frm B sb mb w0 W) (hBW : B ≤ W.heap.size) => slead_ok HU.out HFS.out k hlt X x hX (.slice rp X.length rc) HPX.out h S P (fnd many F P (solTo G l S h k)) met' tv fv W hW hPl hlt9.out (by rw [HBl.out]; exact hmk) hS hFW hBW)
      rw [fnd_more _ hlt9.out, ← solTo_succ, HBl.out] at HLEAD
      have HX := hide hX
      clear hpm hPX hrk hX hel
      go_upto_region 6 with (first | refine wpList_load_mid rfl _ _ rfl bb (bo + k * 13) rfl (.slice rp X.length rc :: x.l.map (Value.int .i8)) _ hrg Try.underlying87 rfl (by rw [Try.size87, List.length_cons, List.length_map, hxl]) ?_ | (refine wpList_store_lead rfl _ _ rfl wr.heap.size _ (.slice rp X.length rc) x (heap_alloc_last wr _) rfl rfl rfl rfl ?_; intro w1 hb1' hg1))
      have hbw1 : Below wr.heap.size wr w1 := ((Below.refl _ _).alloc (Nat.le_refl _) _).grown hg1 (by simp) (fun g hg => by cases hg; exact Nat.le_refl _)
      have hA1 := hA.out.below hbw1 hA.out.lt
      have HQ1 := hide (hQ.out.below hbw1 (by omega) (by omega))
      have HF1 := hide (hFw.out.trans (Frm.of_below hbw1 hBw))
      have HB1 := hide (hBx.out.trans (Boxes.below hbw1))
      have hr1 : w1.rangeAt wr.heap.size 0 (.slice rp X.length rc :: x.l.map (Value.int .i8)) := fun j v hv => by
        simp [World.cell?, hb1', List.getElem?_toArray, hv]
      have HL1 := hide (HLEAD.out w1 HQ1.out (HFr0.out.trans HF1.out) (Nat.le_trans hBw hbw1.size))
      unfold pv at HL1
      generalize hD : wr.heap.size = D at *
      clear hg1 hb1' hrg hbw1 HLEAD hQ hFw hBx hA hD HQ1
      go_wp2_with (first | refine wpList_load_sar rfl _ rfl _ _ hA1 rfl ?_ | refine wpList_load_mid rfl _ _ rfl D 0 rfl (.slice rp X.length rc :: x.l.map (Value.int .i8)) _ hr1 Try.underlying87 rfl (by rw [Try.size87, List.length_cons, List.length_map, hxl]) ?_)
      refine HL1.out.mono ?_
      rintro e w3 ⟨hF3, hBx3, tv3, fv3, met3, rfl, hQ3, hm3⟩
      have HA3 : Hid (SAr w3 w.heap.size h.l) := ⟨(hBx3 _ _ _ hA1.1 (Or.inl rfl)).trans hA1.1, hA1.2⟩
      have HF3 := hide (HF1.out.trans hF3)
      have HB3 := hide (HB1.out.trans hBx3)
      have HQ3 := hide hQ3
      have HM3 : Hid (met3 ≤ met + (k + 1) * bl) := by
        show _ ≤ _
        rw [Nat.succ_mul]
        have := hm9.out
        omega
      clear hF3 hBx3 hQ3 hm3 HL1 hA1 hr1 HF1 HB1
      by_cases hmore : (fnd many F P (solTo G l S h (k + 1))).length < many
      · have HMo := hide hmore
        rw [decide_eq_true hmore]
        clear hmore
        go_wp2
        go_roundw
        case rel => exact ⟨k + 1, tv3, fv3, met3, by omega, by go_num, HQ3, HMo, HM3, HF3, HB3, HA3⟩
        case measure => simp [intOf]; omega
      · have HRe : Hid (R = fnd many F P (solTo G l S h (k + 1))) := by
          show _ = _
          obtain ⟨Bx, hBx⟩ := solTo_cut G l S h (show k + 1 ≤ G.length by omega)
          rw [← HR.out, hBx, fnd_full Bx hmore]
        have HGf : Hid (false = go) := by
          show _ = _
          rw [← HGo.out, HRe.out, decide_eq_false hmore]
        have HM4 : Hid (met3 ≤ met + bnd G.length (l + 1)) := by
          show _ ≤ _
          rw [HBS.out]
          have h2 : (k + 1) * bl ≤ G.length * bl := Nat.mul_le_mul_right _ hlt
          have := HM3.out
          omega
        rw [decide_eq_false hmore]
        clear hmore
        go_wp2
        go_ret
        exact ⟨HF3.out, HB3.out, tv3, fv3, met3, ret_bool HGf.out, by rw [HRe.out]; exact HQ3.out, HM4.out⟩
    · obtain rfl : k = G.length := by omega
      have HGt : Hid (true = go) := by
        show _ = _
        rw [← HGo.out, ← HR.out, decide_eq_true hlt9.out]
      have HQ9 : Hid (Qs wr B sb mb leads many (.slice (some ⟨bb, bo, none⟩) G.length bc) tv fv met' S P R) := by
        show Qs _ _ _ _ _ _ _ _ _ _ _ _ _
        rw [← HR.out]; exact hQ.out
      have HM4 : Hid (met' ≤ met + bnd G.length (l + 1)) := by
        show _ ≤ _
        rw [HBS.out]; exact hm9.out
      have HF9 := hide hFw.out
      have HB9 := hide hBx.out
      clear hQ hlt9 hm9 hFw hBx hA
      go_wp2
      go_ret
      exact ⟨HF9.out, HB9.out, tv, fv, met', ret_bool HGt.out, HQ9.out, HM4.out⟩

/-- from, of any number of leads more. -/
theorem from_all {G : List (List Pm × Pm)} {B sb mb leads many : Nat} {byv : Value} {w0 : World} (hU : Und7 G B sb mb leads many byv w0) : ∀ l, FromSays G B sb mb leads many byv w0 l
  | 0 => from_zero hU
  | l + 1 => from_succ hU (from_all hU l)

end Go.Proofs.Ytoiiadiimfohiaa

/- Plain: what a search finds is just what is true and comes round, in the order of lists. -/
namespace Go.Proofs.Ytoiiadiimfohiaa
open Go.RowKit

/-- The rows of a touch from a head on, without the last one. -/
def tRows (G : List (List Pm × Pm)) : Pm → List Nat → List Pm
  | _, [] => []
  | h, c :: t => rws h (G.getD c ([], 1)).1 ++ tRows G (h * (G.getD c ([], 1)).2) t

/-- .. and the last one. -/
def tEnd (G : List (List Pm × Pm)) : Pm → List Nat → Pm
  | h, [] => h
  | h, c :: t => tEnd G (h * (G.getD c ([], 1)).2) t

theorem ltl_irrefl : ∀ x : List Nat, ¬ Ltl x x
  | [], h => h
  | a :: x, h => by
    rcases (show a < a ∨ (a = a ∧ Ltl x x) from h) with h1 | ⟨_, h1⟩
    · omega
    · exact ltl_irrefl x h1

theorem solBy_mem {G : List (List Pm × Pm)} {l : Nat} {S : List Pm} {h : Pm} {c : Nat} {t : List Nat} (ht : t ∈ solBy G l S h c) : ∃ u, t = c :: u := by
  unfold solBy at ht
  split at ht
  · obtain ⟨u, _, rfl⟩ := List.mem_map.1 ht
    exact ⟨u, rfl⟩
  · cases ht

theorem solTo_heads {G : List (List Pm × Pm)} {l : Nat} {S : List Pm} {h : Pm} {k : Nat} {t : List Nat} (ht : t ∈ solTo G l S h k) : ∃ c u, c < k ∧ t = c :: u := by
  unfold solTo at ht
  obtain ⟨c, hc, ht'⟩ := List.mem_flatMap.1 ht
  obtain ⟨u, rfl⟩ := solBy_mem ht'
  exact ⟨c, u, by simpa using hc, rfl⟩

theorem map_sorted {A : List (List Nat)} (c : Nat) (h : A.Pairwise Ltl) : (A.map (fun t => c :: t)).Pairwise Ltl := by
  rw [List.pairwise_map]
  exact h.imp (fun hab => Or.inr ⟨rfl, hab⟩)

theorem sols_sorted (G : List (List Pm × Pm)) : ∀ (l : Nat) (S : List Pm) (h : Pm), (sols G l S h).Pairwise Ltl
  | 0, S, h => by
    unfold sols
    split
    · exact List.pairwise_singleton _ _
    · exact List.Pairwise.nil
  | l + 1, S, h => by
    rw [sols_succ]
    have key : ∀ k, (solTo G l S h k).Pairwise Ltl := by
      intro k
      induction k with
      | zero => exact List.Pairwise.nil
      | succ k ih =>
        rw [solTo_succ, List.pairwise_append]
        refine ⟨ih, ?_, fun a ha b hb => ?_⟩
        · unfold solBy
          split
          · exact map_sorted k (sols_sorted G l _ _)
          · exact List.Pairwise.nil
        · obtain ⟨c, u, hc, rfl⟩ := solTo_heads ha
          obtain ⟨v, rfl⟩ := solBy_mem hb
          exact Or.inl hc
    exact key G.length

/-- Is a touch true from here on, and does it come round? -/
def TrueFrom (G : List (List Pm × Pm)) : List Pm → Pm → List Nat → Prop
  | _, h, [] => h = 1
  | S, h, c :: t => okl S h (G.getD c ([], 1)).1 ∧ TrueFrom G ((rws h (G.getD c ([], 1)).1).reverse ++ S) (h * (G.getD c ([], 1)).2) t

theorem sols_mem (G : List (List Pm × Pm)) : ∀ (l : Nat) (S : List Pm) (h : Pm) (t : List Nat), t ∈ sols G l S h ↔ t.length = l ∧ (∀ c, c ∈ t → c < G.length) ∧ TrueFrom G S h t
  | 0, S, h, t => by
    unfold sols
    constructor
    · intro ht
      split at ht
      · rename_i h1
        rw [List.mem_singleton] at ht
        subst ht
        exact ⟨rfl, (fun c hc => by cases hc), h1⟩
      · cases ht
    · rintro ⟨h1, _, h3⟩
      obtain rfl : t = [] := List.length_eq_zero_iff.1 h1
      rw [if_pos (show h = 1 from h3)]
      simp
  | l + 1, S, h, t => by
    rw [sols_succ]
    unfold solTo
    rw [List.mem_flatMap]
    constructor
    · rintro ⟨c, hc, ht⟩
      unfold solBy at ht
      split at ht
      · rename_i hok
        obtain ⟨u, hu, rfl⟩ := List.mem_map.1 ht
        obtain ⟨h1, h2, h3⟩ := (sols_mem G l _ _ u).1 hu
        refine ⟨by simp [h1], fun x hx => ?_, hok, h3⟩
        rcases List.mem_cons.1 hx with rfl | hx
        · simpa using hc
        · exact h2 x hx
      · cases ht
    · rintro ⟨h1, h2, h3⟩
      cases t with
      | nil => simp at h1
      | cons c u =>
        refine ⟨c, by simpa using h2 c (by simp), ?_⟩
        unfold solBy
        rw [if_pos h3.1]
        exact List.mem_map.2 ⟨u, (sols_mem G l _ _ u).2 ⟨by simpa using h1, fun x hx => h2 x (List.mem_cons_of_mem _ hx), h3.2⟩, rfl⟩

theorem trueFrom_iff (G : List (List Pm × Pm)) : ∀ (t : List Nat) (S : List Pm) (h : Pm), S.Nodup → (TrueFrom G S h t ↔ (S ++ tRows G h t).Nodup ∧ tEnd G h t = 1)
  | [], S, h, hS => by
    unfold TrueFrom tRows tEnd
    simp [hS]
  | c :: t, S, h, hS => by
    have hp : ((rws h (G.getD c ([], 1)).1).reverse ++ S).Perm (S ++ rws h (G.getD c ([], 1)).1) := List.perm_append_comm.trans ((List.reverse_perm _).append_left S)
    have hp2 : (((rws h (G.getD c ([], 1)).1).reverse ++ S) ++ tRows G (h * (G.getD c ([], 1)).2) t).Perm (S ++ tRows G h (c :: t)) := by
      refine (hp.append_right _).trans ?_
      rw [List.append_assoc]
      exact List.Perm.refl _
    constructor
    · rintro ⟨hok, h2⟩
      obtain ⟨h3, h4⟩ := (trueFrom_iff G t _ _ hok).1 h2
      exact ⟨hp2.nodup_iff.1 h3, h4⟩
    · rintro ⟨h3, h4⟩
      have h5 := hp2.nodup_iff.2 h3
      have hok : okl S h (G.getD c ([], 1)).1 := (List.nodup_append.1 h5).1
      exact ⟨hok, (trueFrom_iff G t _ _ hok).2 ⟨h5, h4⟩⟩

/-- What a search for so many leads finds. -/
theorem found_iff (G : List (List Pm × Pm)) (l : Nat) (t : List Nat) : t ∈ sols G l [] 1 ↔ t.length = l ∧ (∀ c, c ∈ t → c < G.length) ∧ (tRows G 1 t).Nodup ∧ tEnd G 1 t = 1 := by
  rw [sols_mem, trueFrom_iff G t [] 1 List.nodup_nil, List.nil_append]

/-- What is not among the first so many is behind the last of them. -/
theorem behind {A : List (List Nat)} (hA : A.Pairwise Ltl) {g : List Nat} (hg : g ∈ A) {m : Nat} (hm : 1 ≤ m) (hno : g ∉ A.take m) : (A.take m).length = m ∧ Ltl ((A.take m).getD (m - 1) []) g := by
  obtain ⟨j, hj, e⟩ := List.getElem_of_mem hg
  have hmj : m ≤ j := by
    rcases Nat.lt_or_ge j m with h | h
    · exfalso
      apply hno
      rw [← e, show A[j] = (A.take m)[j]'(by rw [List.length_take]; omega) from by rw [List.getElem_take]]
      exact List.getElem_mem _
    · exact h
  have hl : (A.take m).length = m := by rw [List.length_take]; omega
  refine ⟨hl, ?_⟩
  rw [List.getD, List.getElem?_eq_getElem (by omega), Option.getD_some, List.getElem_take, ← e]
  exact List.pairwise_iff_getElem.1 hA (m - 1) j (by omega) hj (by omega)

theorem fnd_top (many : Nat) (A : List (List Nat)) : fnd many [] [] A = A.take many := by
  unfold fnd
  rw [List.nil_append]
  congr 1
  exact (List.map_congr_left (fun t _ => List.nil_append t)).trans (List.map_id _)

/-- A touch from a head on is the touch, changed. -/
theorem tRows_head (G : List (List Pm × Pm)) : ∀ (t : List Nat) (h k : Pm), tRows G (h * k) t = (tRows G k t).map (fun x => h * x) ∧ tEnd G (h * k) t = h * tEnd G k t
  | [], h, k => ⟨rfl, rfl⟩
  | c :: t, h, k => by
    obtain ⟨h1, h2⟩ := tRows_head G t h (k * (G.getD c ([], 1)).2)
    constructor
    · show rws (h * k) _ ++ tRows G (h * k * _) t = (rws k _ ++ tRows G (k * _) t).map _
      rw [List.map_append, ← h1, Pm.mul_assoc]
      congr 1
      unfold rws
      rw [List.map_map]
      exact List.map_congr_left (fun x _ => Pm.mul_assoc h k x)
    · show tEnd G (h * k * _) t = h * tEnd G (k * _) t
      rw [← h2, Pm.mul_assoc]

end Go.Proofs.Ytoiiadiimfohiaa

/- Contract: slices.Grow of lists of lists, from nothing. -/
namespace Go.Proofs.Ytoiiadiimfohiaa
open Go.RowKit Go.Lib

def rnG : Go.Shelf.Ren := ⟨fun x => match x with | 4 => 101 | y => y,
  fun x => match x with | 0 => 0 | 3 => 3 | 4 => 4 | 9 => 9 | 20 => 20 | 22 => 22 | 25 => 26 | y => y, fun x => x⟩

theorem laysG : Go.Proofs.Lays8.n4 Try.prog rnG where
  mixed := by kernel_rfl
  f4 := ⟨ "slices.Grow[[][]int,[]int]", by kernel_rfl, by kernel_rfl⟩
  t0 := by kernel_rfl
  a0 := fun w => by kernel_rfl
  z0 := fun w => by kernel_rfl
  v0 := fun w => by kernel_rfl
  t3 := by kernel_rfl
  a3 := fun w => by kernel_rfl
  z3 := fun w => by kernel_rfl
  v3 := fun w => by kernel_rfl
  t4 := by kernel_rfl
  a4 := fun w => by kernel_rfl
  z4 := fun w => by kernel_rfl
  v4 := fun w => by kernel_rfl
  t9 := by kernel_rfl
  a9 := fun w => by kernel_rfl
  z9 := fun w => by kernel_rfl
  v9 := fun w => by kernel_rfl
  t20 := by kernel_rfl
  a20 := fun w => by kernel_rfl
  z20 := fun w => by kernel_rfl
  v20 := fun w => by kernel_rfl
  t22 := by kernel_rfl
  a22 := fun w => by kernel_rfl
  z22 := fun w => by kernel_rfl
  v22 := fun w => by kernel_rfl

theorem grow_nil (n : Nat) (w : World) (h1 : 1 ≤ n) (h2 : n ≤ 1000) :
    Calls Try.prog 101 #[.slice none 0 0, .int .i64 n] w fun e w' => ∃ v, e = .returned v ∧ w'.ownsRow w.heap.size 26 1 v 0 [] ∧ Below w.heap.size w w' := by
  obtain ⟨i0, hi, hz0, hz1, hz2⟩ := info_parts Try.info26
  refine (Any8.slices_Grow_grow laysG i0 _ hi hz0 (by rw [hz1]; decide) none 0 0 n [] w (Nat.le_refl _) (by omega) (by rw [hz2]; omega) (by omega) (by simp) (fun _ => rfl) (fun a ha => by cases ha)).mono ?_
  rintro e w' ⟨rfl, rfl⟩
  have hge := grownCap_ge w (0 + n) 0 (rnG.t 25)
  refine ⟨_, rfl, ?_, (Below.refl _ _).drew.alloc (Nat.le_refl _) _⟩
  refine World.ownsRow_made w.drew _ _ (Nat.le_refl _) (grownCap_le_maxLen _ _ _ _ (by unfold maxLen; omega)) ?_
  rw [Array.size_append, Array.size_append, size_zeroCells, size_zeroCells]
  have h1z : (Value.slice none 0 0).cells.size = 1 := rfl
  rw [h1z]
  show 0 + _ + _ = _
  omega

end Go.Proofs.Ytoiiadiimfohiaa

/- Plain: the length and the lists of a slice of lists. -/
namespace Go.Proofs.Ytoiiadiimfohiaa
open Go.RowKit

theorem IntsAll.len {w : World} {v : Value} {xss : List (List Int)} (h : IntsAll w v xss) : ∃ p c, v = .slice p xss.length c := by
  obtain ⟨vs, h1, h2, _⟩ := h
  rw [← h2]; exact h1.form

/-- The k-th list of a slice of lists that is not empty. -/
theorem IntsAll.cell {w : World} {v : Value} {xss : List (List Int)} (h : IntsAll w v xss) (h0 : 1 ≤ xss.length) : ∃ b off cap, v = .slice (some ⟨b, off, none⟩) xss.length cap ∧ b < w.heap.size ∧ xss.length ≤ cap ∧ cap ≤ 9223372036854775807 ∧
    ∀ k, k < xss.length → ∃ p c, w.cell? ⟨b, off + k, none⟩ = some (.slice p (xss.getD k []).length c) ∧ Hid (Ints w (.slice p (xss.getD k []).length c) (xss.getD k [])) := by
  obtain ⟨vs, h1, h2, h3⟩ := h
  rcases h1 with ⟨rfl, _⟩ | ⟨b, off, cap, rfl, h4, h5, h6, h7, h8⟩
  · simp at h2; omega
  · refine ⟨b, off, cap, by rw [h2], h7, by omega, h6, fun k hk => ?_⟩
    exact elAt h8 (by omega) (h3 k hk)

theorem IntsAll.cut {w : World} {b off K cap k : Nat} {X : List (List Int)} (h : IntsAll w (.slice (some ⟨b, off, none⟩) K cap) X) (hl : X.length = K) (hk : k ≤ K) : IntsAll w (.slice (some ⟨b, off, none⟩) k cap) (X.take k) := by
  obtain ⟨vs, h1, h2, h3⟩ := h
  rcases Nat.eq_zero_or_pos k with rfl | h0
  · exact ⟨[], Or.inl ⟨rfl, _, _, rfl⟩, by simp, fun j hj => by simp at hj⟩
  rcases h1 with ⟨rfl, _⟩ | ⟨b', off', cap', e, h4, h5, h6, h7, h8⟩
  · simp at h2; omega
  obtain ⟨⟨rfl, rfl⟩, _, rfl⟩ : (b = b' ∧ off = off') ∧ K = vs.length ∧ cap = cap' := by
    simpa using e
  refine ⟨vs.take k, Or.inr ⟨b, off, cap, ?_, ?_, ?_, h6, h7, fun j hj => ?_⟩, ?_, fun j hj => ?_⟩
  · rw [List.length_take, Nat.min_eq_left (by omega)]
  · rw [List.length_take]; omega
  · rw [List.length_take]; omega
  · rw [List.length_take] at hj
    rw [h8 j (by omega)]
    simp [List.getD, show j < k by omega]
  · rw [List.length_take, List.length_take, h2]
  · rw [List.length_take] at hj
    have e1 : (vs.take k).getD j undef = vs.getD j undef := by simp [List.getD, show j < k by omega]
    have e2 : (X.take k).getD j [] = X.getD j [] := by simp [List.getD, show j < k by omega]
    rw [e1, e2]
    exact h3 j (by omega)

end Go.Proofs.Ytoiiadiimfohiaa
