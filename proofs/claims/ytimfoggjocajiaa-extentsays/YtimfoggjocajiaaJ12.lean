/- Joined: Orl, Cln, CoJ, ExC, ExD, GMay, May, ExE, ExF, ExG, ExH. -/
import Derived.Test.YtimfoggjocajiaaJ0
import Derived.Deep.RegionHeld3
import Derived.Test.YtimfoggjocajiaaJ4
import Derived.Test.YtimfoggjocajiaaJ11
import Derived.Test.YtimfoggjocajiaaJ3
import Derived.Test.YtimfoggjocajiaaJ1
import Derived.Test.YtimfoggjocajiaaJ9
import Derived.Test.YtimfoggjocajiaaJ6
import Derived.Test.YtimfoggjocajiaaJ7
/- A region that draws its order, whose last operation waits for all others and writes what loads read: up to that operation what is loaded stays. -/
namespace Go.Proofs.Ytimfoggjocajiaa
open Go.RowKit

section
variable {P : Program} {ops : Array Oper} {Q : Exit → Act → World → Prop} {md : Region.Mode} {S : World → Prop} {k : Nat}

/-- Whatever order is picked; S holds behind each operation but the k-th. -/
def wpLast (P : Program) (md : Region.Mode) (ops : Array Oper) (Q : Exit → Act → World → Prop) (S : World → Prop) (k : Nat) : Nat → Array Bool → Act → World → Prop
  | 0, ls, a, w => Region.ready md ops ls = [] ∧ Q .normal a w
  | n + 1, ls, a, w => (Region.ready md ops ls = [] → Q .normal a w) ∧ ∀ i, i ∈ Region.ready md ops ls → wpOp P ops Q i (fun b u => (i ≠ k → S u) ∧ wpLast P md ops Q S k n (ls.setIfInBounds i true) b u) a w

theorem wpLast.any : ∀ (n : Nat) (ls : Array Bool) (a : Act) (w : World), wpLast P md ops Q S k n ls a w → wpAny P md ops Q n ls a w := by
  intro n
  induction n with
  | zero => exact fun _ _ _ h => h
  | succ n ih => exact fun ls a w h => ⟨h.1, fun i hi => wpOp_mono (fun b u hb => ih _ b u hb.2) (h.2 i hi)⟩

/-- The k-th operation waits for the i-th. -/
def waitsFor (md : Region.Mode) (ops : Array Oper) (k i : Nat) : Bool := match ops[k]? with | some o => o.after.any (fun e => Region.binds md e && e.on == i) | none => true

theorem not_ready_yet {i : Nat} {ls : Array Bool} (hw : waitsFor md ops k i = true) (hi : i ∈ Region.ready md ops ls) : ¬ k ∈ Region.ready md ops ls := fun hk => by
  obtain ⟨_, o, ho, hall⟩ := mem_ready.1 hk
  unfold waitsFor at hw
  rw [ho] at hw
  simp only at hw
  rw [Array.any_eq_true] at hw
  obtain ⟨x, hx, hb⟩ := hw
  simp only [Bool.and_eq_true, beq_iff_eq] at hb
  have h1 := hall _ (Array.getElem_mem hx) hb.1
  have h0 := (mem_ready.1 hi).1
  rw [hb.2] at h1
  rcases Nat.lt_or_ge i ls.size with h' | h'
  · simp [h'] at h0 h1
    rw [h0] at h1
    cases h1
  · simp [Array.getElem?_eq_none h'] at h1

theorem wpLast.first {i : Nat} {o : Oper} {v : Value} (ho : ops[i]? = some o) (hsel : ∀ (j : Nat) (o : Oper) cs b, ops[j]? = some o → o.op ≠ .select cs b) (hQ : ∀ c a w, Q (.panic c) (a.put o.dst v) w → Q (.panic c) a w) (hik : i ≠ k) (hwait : waitsFor md ops k i = true) :
    ∀ (n : Nat) (ls : Array Bool) (a : Act) (w : World), (∀ j oj, ops[j]? = some oj → j ≠ i → ls.getD j true = false → (∀ e ∈ oj.after, Region.binds md e = true → e.on ≠ i) → o.apart ops oj = true) →
      i ∈ Region.ready md ops ls → YieldsIf P ops S o v a → S w → wpLast P md ops Q S k n (ls.setIfInBounds i true) (a.put o.dst v) w → wpLast P md ops Q S k (n + 1) ls a w := by
  intro n
  induction n with
  | zero =>
    intro ls a w _ hr hy hS hn
    refine ⟨fun h => (by rw [h] at hr; cases hr), fun j hj => ?_⟩
    by_cases e : j = i
    · subst e; exact hy.wpOp ho hS ⟨fun _ => hS, hn⟩
    · have h9 := ready_mono hj e
      rw [hn.1] at h9
      cases h9
  | succ n ih =>
    intro ls a w hfree hr hy hS hn
    refine ⟨fun h => (by rw [h] at hr; cases hr), fun j hj => ?_⟩
    by_cases e : j = i
    · subst e; exact hy.wpOp ho hS ⟨fun _ => hS, hn⟩
    · have hjk : j ≠ k := fun h => not_ready_yet hwait hr (h ▸ hj)
      obtain ⟨hun, oj, hoj, hall⟩ := mem_ready.1 hj
      have hno : ∀ e ∈ oj.after, Region.binds md e = true → e.on ≠ i := fun d hd hb heq => by
        have h1 := hall d hd hb
        have h0 := (mem_ready.1 hr).1
        rw [heq] at h1
        rcases Nat.lt_or_ge i ls.size with h' | h'
        · simp [h'] at h0 h1
          rw [h0] at h1
          cases h1
        · simp [Array.getElem?_eq_none h'] at h1
      have hstep := wpOp_putIf hoj (hfree j oj hoj e hun hno) (fun cs b => hsel i o cs b ho) (fun cs b => hsel j oj cs b hoj) hQ hy (hn.2 j (ready_mono hj e))
      refine wpOp_mono (fun b u hb => ⟨fun _ => hb.2.1 hjk, ?_⟩) hstep
      refine ih (ls.setIfInBounds j true) b u (fun m om hm hmi hmu hmno => ?_) (ready_mono hr (Ne.symm e)) hb.1 (hb.2.1 hjk) (by rw [Array.setIfInBounds_comm _ _ e]; exact hb.2.2)
      refine hfree m om hm hmi ?_ hmno
      by_cases ejm : j = m
      · subst ejm; exact hun
      · rw [getD_set_ne true ejm] at hmu; exact hmu

theorem wpLast.take {i : Nat} {o : Oper} {v : Value} {n : Nat} {ls : Array Bool} {a : Act} {w : World} (ho : ops[i]? = some o) (hs : Region.noSelect ops = true) (hf : Region.free md ops ls i = true) (hr : (Region.ready md ops ls).contains i = true) (hk : (i != k && waitsFor md ops k i) = true)
    (hQ : ∀ c a w, Q (.panic c) (a.put o.dst v) w → Q (.panic c) a w) (hy : YieldsIf P ops S o v a) (hS : S w) (h : wpLast P md ops Q S k n (ls.setIfInBounds i true) (a.put o.dst v) w) : wpLast P md ops Q S k (n + 1) ls a w := by
  rw [Bool.and_eq_true] at hk
  exact wpLast.first ho (Region.noSelect_spec hs) hQ (by simpa using hk.1) hk.2 n ls a w (Region.free_spec ho hf) (by simpa using hr) hy hS h

/-- Each of these comes up. -/
def EachL (P : Program) (md : Region.Mode) (ops : Array Oper) (Q : Exit → Act → World → Prop) (S : World → Prop) (k n : Nat) (ls : Array Bool) (a : Act) (w : World) (rs : List Nat) : Prop :=
  ∀ i, i ∈ rs → wpOp P ops Q i (fun b u => (i ≠ k → S u) ∧ wpLast P md ops Q S k n (ls.setIfInBounds i true) b u) a w

theorem EachL.nil {n : Nat} {ls : Array Bool} {a : Act} {w : World} : EachL P md ops Q S k n ls a w [] := fun _ h => by cases h

theorem EachL.cons {n : Nat} {ls : Array Bool} {a : Act} {w : World} {i : Nat} {o : Oper} {rs : List Nat} (ho : ops[i]? = some o)
    (h : ∀ K : Act → World → Prop, Shut (∀ b u, S u → (S u → wpLast P md ops Q S k n (ls.setIfInBounds i true) b u) → K b u) → if Region.wanted o (yielded ops a.tmps) = true then Oper.wp P o a w K Q else K (a.put o.dst undef) w)
    (hs : EachL P md ops Q S k n ls a w rs) : EachL P md ops Q S k n ls a w (i :: rs) := fun j hj => by
  rcases List.mem_cons.1 hj with rfl | hj
  · exact wpOp_step ho (fun K hK => h K (fun b u h1 h2 => hK b u ⟨fun _ => h1, h2 h1⟩))
  · exact hs j hj

theorem EachL.last {n : Nat} {ls : Array Bool} {a : Act} {w : World} {o : Oper} (ho : ops[k]? = some o)
    (h : ∀ K : Act → World → Prop, Shut (∀ b u, wpLast P md ops Q S k n (ls.setIfInBounds k true) b u → K b u) → if Region.wanted o (yielded ops a.tmps) = true then Oper.wp P o a w K Q else K (a.put o.dst undef) w) : EachL P md ops Q S k n ls a w [k] := fun j hj => by
  rw [List.mem_singleton] at hj
  subst hj
  exact wpOp_step ho (fun K hK => h K (fun b u h1 => hK b u ⟨fun h9 => absurd rfl h9, h1⟩))

theorem wpLast.ready {rs : List Nat} {n : Nat} {ls : Array Bool} {a : Act} {w : World} (hr : Region.ready md ops ls = rs) (hne : rs ≠ []) (h : EachL P md ops Q S k n ls a w rs) : wpLast P md ops Q S k (n + 1) ls a w :=
  ⟨fun h0 => absurd (hr ▸ h0) hne, hr ▸ h⟩

theorem wpLast.done {ls : Array Bool} {a : Act} {w : World} (hr : Region.ready md ops ls = []) (h : Q .normal a w) : ∀ n, wpLast P md ops Q S k n ls a w
  | 0 => ⟨hr, h⟩
  | _ + 1 => ⟨fun _ => h, by rw [hr]; simp⟩

theorem wp_region_last {id : Nat} {a : Act} {w : World} (k : Nat) (hm : P.follows .mixedOrders = true) (hS : S w.drew) (h : S w.drew → wpLast P .any ops Q S k ops.size (Array.replicate ops.size false) a w.drew) : (Code.region id ops true).wp P Q a w :=
  wp_region_any hm (wpLast.any _ _ _ _ (h hS))

end

theorem cells2_new (w : World) (a b : Value) (t : TypeId) : (w.alloc (.cells #[a, b] t)).cell? ⟨w.heap.size, 0, none⟩ = some a ∧ (w.alloc (.cells #[a, b] t)).cell? ⟨w.heap.size, 1, none⟩ = some b := by
  have e := heap_alloc_new w (.cells #[a, b] t)
  simp only [World.cell?, e]
  simp

end Go.Proofs.Ytimfoggjocajiaa

/- Contract: slices.Clone of a row of the call's own. -/
namespace Go.Proofs.Ytimfoggjocajiaa
open Go.RowKit

set_option maxRecDepth 20000 in
set_option maxHeartbeats 1000000 in
theorem clone_own {base : Nat} {v : Value} {xs : List Int} {w : World} (h : w.ownsRow base 3 1 v xs.length (xs.map (Value.int .i64))) (hl : xs.length ≤ 1000000) :
    Calls Try.prog 114 #[v] w fun e w' => ∃ v', e = .returned v' ∧ w'.ownsRow w.heap.size 3 1 v' xs.length (xs.map (Value.int .i64)) ∧ Below w.heap.size w w' := by
  obtain ⟨j0, hj, hq0, hq1, hq2⟩ := info_parts Try.info3
  have q1 := run_nil_eq
  have q3 := run_some_eq
  rcases h.2 with ⟨rfl, hz⟩ | ⟨g, cap, cur, rfl, hbg, hh, hnc, hm, hs, ht⟩
  · have hx : xs = [] := List.length_eq_zero_iff.1 hz
    subst hx
    clear h hz
    go_enter Try.func114, Try.ntmps114
    go_wp2
    go_ret
    exact ⟨_, rfl, World.ownsRow_nil _ _ _ _, Below.refl _ _⟩
  · have h1c : ∀ v ∈ xs.map (Value.int .i64), v.oneCell' = true := by
      intro v hv'
      obtain ⟨z, _, rfl⟩ := List.mem_map.1 hv'
      rfl
    have hnew : (w.alloc (.cells #[] 3)).ownsRow w.heap.size 3 1 (.slice (some ⟨w.heap.size, 0, none⟩) 0 0) 0 [] := World.ownsRow_made w #[] 0 (Nat.le_refl _) (by unfold maxLen; omega) rfl
    have hsrc := h.alloc (.cells #[] 3)
    clear hh hs ht h
    go_enter Try.func114, Try.ntmps114
    go_wp2_with (at_builtin; refine wpList_append_more rfl _ _ 23 rfl w.heap.size base 3 j0 (.int .i64 0) 8 Try.underlying23 hj hq0 hq1 hq2 rfl _ _ _ rfl hnew _ _ _ rfl hsrc h1c ?c3 ?c4 ?c5 ?_)
    case c3 => unfold maxLen; omega
    case c4 => omega
    case c5 => simp
    · intro v' w' hown hgrow
      have hB : Below w.heap.size w w' := ((Below.refl _ _).alloc (Nat.le_refl _) _).grown hgrow (by simp) (fun k hk => by have : w.heap.size = k := Option.some.inj hk; omega)
      try rw [Nat.zero_add] at hown
      try rw [List.nil_append] at hown
      clear hgrow
      go_wp2
      go_ret
      exact ⟨_, rfl, hown, hB⟩

end Go.Proofs.Ytimfoggjocajiaa

/- Plain: parts by marks. What coset's fill has laid so far. -/
namespace Go.Proofs.Ytimfoggjocajiaa
open Go.RowKit

/-- The parts of rows, by marks. -/
def MarkOk (H : Pm → Prop) (n : Nat) (T : List (Pm × List Int)) (F : Int → Option Value) : Prop := ∀ x, Fixes (fun b => n ≤ b) x → F ((mkN H n x : Nat) : Int) = partV H T x

theorem MarkOk.new {H : Pm → Prop} (hH : Sub H) {n : Nat} (h12 : n ≤ 12) (hf : ∀ h, H h → Fixes (fun b => n ≤ b) h) {T : List (Pm × List Int)} {d : Pm × List Int} {F : Int → Option Value} (h : ∀ x, Fixes (fun b => n ≤ b) x → ¬ H (x * d.1⁻¹) → F ((mkN H n x : Nat) : Int) = partV H T x) (hd : Fixes (fun b => n ≤ b) d.1) (hn : ∀ e, e ∈ T → ¬ H (d.1 * e.1⁻¹)) :
    MarkOk H n (T ++ [d]) (upd F ((mkN H n d.1 : Nat) : Int) (.int .i64 ((T.length : Nat) : Int))) := by
  classical
  intro x hx
  have hm := mkN_eq hH h12 hf hd hx
  unfold upd
  by_cases hc : H (x * d.1⁻¹)
  · have e : ((mkN H n x : Nat) : Int) = ((mkN H n d.1 : Nat) : Int) := by rw [hm.2 hc]
    rw [if_pos e]
    have hx' : ¬ cix H T x < T.length := fun hc' => by
      obtain ⟨e, he, hHe⟩ := cix_at hc'
      refine hn e (List.mem_of_getElem? he) ?_
      have := hH.mul (hH.inv hc) hHe
      rwa [Pm.inv_prod, Pm.inv_inv, Pm.mul_assoc, Pm.inv_mul_cancel] at this
    unfold partV
    rw [cix_app, List.length_append, List.length_singleton, if_neg hx', if_pos hc, if_pos (by omega)]
  · have e : ¬ ((mkN H n x : Nat) : Int) = ((mkN H n d.1 : Nat) : Int) := fun e => hc (hm.1 (by omega))
    rw [if_neg e, h x hx hc]
    unfold partV
    rw [cix_app, List.length_append, List.length_singleton]
    by_cases hc' : cix H T x < T.length
    · rw [if_pos hc', if_pos hc', if_pos (by omega)]
    · rw [if_neg hc', if_neg hc', if_neg hc, if_neg (by omega)]

theorem MarkOk.first {H : Pm → Prop} (hH : Sub H) {n : Nat} (h12 : n ≤ 12) (hf : ∀ h, H h → Fixes (fun b => n ≤ b) h) : MarkOk H n [(1, [])] (upd (fun _ => none) ((mkN H n 1 : Nat) : Int) (.int .i64 0)) :=
  MarkOk.new (T := []) (d := (1, [])) hH h12 hf (fun x _ _ => by unfold partV; rw [if_neg (by simp)]) (fixes_sub _).one (fun e he => by cases he)

theorem MarkOk.more {H : Pm → Prop} (hH : Sub H) {n : Nat} (h12 : n ≤ 12) (hf : ∀ h, H h → Fixes (fun b => n ≤ b) h) {T : List (Pm × List Int)} {d : Pm × List Int} {F : Int → Option Value} (h : MarkOk H n T F) (hd : Fixes (fun b => n ≤ b) d.1) (hn : ∀ e, e ∈ T → ¬ H (d.1 * e.1⁻¹)) :
    MarkOk H n (T ++ [d]) (upd F ((mkN H n d.1 : Nat) : Int) (.int .i64 ((T.length : Nat) : Int))) := MarkOk.new hH h12 hf (fun x hx _ => h x hx) hd hn

theorem mkN_le {H : Pm → Prop} {n : Nat} (x : Pm) (h12 : n ≤ 12) : mkN H n x ≤ 479001600 := rkP_le _ h12

/-- A table in memory. -/
abbrev tabC (n M : Nat) (vb vn vw : Value) : Array Value := #[.int .i64 n, vb, .map (some M), vn, vw]

theorem cells5 {w : World} {T : Nat} {a b c d e : Value} {t : TypeId} (h : w.heap[T]? = some (.cells #[a, b, c, d, e] t)) :
    w.cell? ⟨T, 0, none⟩ = some a ∧ w.cell? ⟨T, 1, none⟩ = some b ∧ w.cell? ⟨T, 2, none⟩ = some c ∧ w.cell? ⟨T, 3, none⟩ = some d ∧ w.cell? ⟨T, 4, none⟩ = some e ∧ w.frozen? ⟨T, 3, none⟩ = false ∧ w.frozen? ⟨T, 4, none⟩ = false := by
  simp [World.cell?, World.frozen?, h]

theorem set5n {w : World} {T : Nat} {a b c d e : Value} {t : TypeId} (h : w.heap[T]? = some (.cells #[a, b, c, d, e] t)) (u : Value) : (w.setCell ⟨T, 3, none⟩ u).heap[T]? = some (.cells #[a, b, c, u, e] t) := by
  simp [World.setCell, Array.getElem?_modify, h]

theorem set5w {w : World} {T : Nat} {a b c d e : Value} {t : TypeId} (h : w.heap[T]? = some (.cells #[a, b, c, d, e] t)) (u : Value) : (w.setCell ⟨T, 4, none⟩ u).heap[T]? = some (.cells #[a, b, c, d, u] t) := by
  simp [World.setCell, Array.getElem?_modify, h]

/-- What fill has laid so far. -/
structure FRel (w wr : World) (T M n : Nat) (vb v1 v2 v3 : Value) (s1 s2 s3 : List Value) (A1 A2 A3 : List (List Int)) (vl : Value) (L : List Int) (F : Int → Option Value) (cnt : Nat) : Prop where
  blk : wr.heap[T]? = some (.cells (tabC n M vb v3 v2) 110)
  quad : Quad w.heap.size wr v1 v2 v3 s1 s2 s3 A1 A2 A3 vl L
  map : IMap wr M cnt F
  frm : Frm w.heap.size T M w wr

theorem Frm.grown {B sb mb : Nat} {w wr w' : World} {g : Option Nat} (h : Frm B sb mb w wr) (hg : wr.grownBy w' g) (hB : B ≤ wr.heap.size) (hn : ∀ x, g = some x → B ≤ x ∨ x = sb ∨ x = mb) : Frm B sb mb w w' :=
  h.trans ⟨hg.os, hg.tape, hg.output, hg.size, fun x h1 h2 h3 => hg.block x (by omega) (fun e => by
    rcases hn x e.symm with h4 | h4 | h4
    · omega
    · exact h2 h4
    · exact h3 h4)⟩

section
variable {w wr w' : World} {T M n cnt : Nat} {vb v1 v2 v3 v' u vl : Value} {s1 s2 s3 : List Value} {A1 A2 A3 : List (List Int)} {L X : List Int} {F F' : Int → Option Value}

theorem FRel.later (hT : T < w.heap.size) (h : FRel w wr T M n vb v1 v2 v3 s1 s2 s3 A1 A2 A3 vl L F cnt) (hb : Below wr.heap.size wr w') : FRel w w' T M n vb v1 v2 v3 s1 s2 s3 A1 A2 A3 vl L F cnt :=
  ⟨(hb.block T (Nat.lt_of_lt_of_le hT h.frm.size)).trans h.blk, h.quad.later hb, h.map.below hb h.map.lt, h.frm.trans (Frm.of_below hb h.frm.size)⟩

theorem FRel.put (hT : T < w.heap.size) (hTM : T ≠ M) (h : FRel w wr T M n vb v1 v2 v3 s1 s2 s3 A1 A2 A3 vl L F cnt) (hm : IMap w' M (cnt + 1) F') (hg : wr.grownBy w' (some M)) : FRel w w' T M n vb v1 v2 v3 s1 s2 s3 A1 A2 A3 vl L F' (cnt + 1) :=
  ⟨(hg.block T (Nat.lt_of_lt_of_le hT h.frm.size) (fun e => hTM (Option.some.inj e))).trans h.blk, h.quad.put h.map hg, hm, h.frm.grown hg h.frm.size (fun _ hx => Or.inr (Or.inr (Option.some.inj hx).symm))⟩

theorem FRel.add1 (hT : T < w.heap.size) (h : FRel w wr T M n vb v1 v2 v3 s1 s2 s3 A1 A2 A3 vl L F cnt) (hu : wr.ownsRow w.heap.size 3 1 u X.length (X.map (Value.int .i64))) (hua : Apt u vl) (hown : w'.ownsRow w.heap.size 23 1 v' (s1.length + 1) (s1 ++ [u])) (hg : wr.grownBy w' v1.ownBlock)
    (hp : v'.ownBlock = v1.ownBlock ∨ (v'.ownBlock = some wr.heap.size ∧ wr.grownBy w' none)) : FRel w w' T M n vb v' v2 v3 (s1 ++ [u]) s2 s3 (A1 ++ [X]) A2 A3 vl L F cnt :=
  ⟨(hg.block T (Nat.lt_of_lt_of_le hT h.frm.size) (fun e => by have := (h.quad.tri.l1.row.lt T e.symm).1; omega)).trans h.blk, h.quad.add1 hu hua hown hg hp, map_row_kept h.quad.tri.l1.row h.map hg, h.frm.grown hg h.frm.size (fun x hx => Or.inl (h.quad.tri.l1.row.lt x hx).1)⟩

theorem FRel.word (hT : T < w.heap.size) (hTM : T ≠ M) (h : FRel w wr T M n vb v1 v2 v3 s1 s2 s3 A1 A2 A3 vl L F cnt) (hu : wr.ownsRow w.heap.size 3 1 u X.length (X.map (Value.int .i64))) (hua : Apt u vl) (hown : w'.ownsRow w.heap.size 23 1 v' (s2.length + 1) (s2 ++ [u])) (hg : wr.grownBy w' v2.ownBlock)
    (hp : v'.ownBlock = v2.ownBlock ∨ (v'.ownBlock = some wr.heap.size ∧ wr.grownBy w' none)) : FRel w (w'.setCell ⟨T, 4, none⟩ v') T M n vb v1 v' v3 s1 (s2 ++ [u]) s3 A1 (A2 ++ [X]) A3 vl L F cnt :=
  have hb := (hg.block T (Nat.lt_of_lt_of_le hT h.frm.size) (fun e => by have := (h.quad.tri.l2.row.lt T e.symm).1; omega)).trans h.blk
  ⟨set5w hb v', (h.quad.add2 hu hua hown hg hp).set hT v', (map_row_kept h.quad.tri.l2.row h.map hg).of_block (Below.heap_setCell _ _ _ _ (by show M ≠ T; exact hTM.symm)), (h.frm.grown hg h.frm.size (fun x hx => Or.inl (h.quad.tri.l2.row.lt x hx).1)).set 4 v'⟩

theorem FRel.fin (hT : T < w.heap.size) (hTM : T ≠ M) (h : FRel w wr T M n vb v1 v2 v3 s1 s2 s3 A1 A2 A3 vl L F cnt) (hown : w'.ownsRow w.heap.size 23 1 v' (s3.length + 1) (s3 ++ [vl])) (hg : wr.grownBy w' v3.ownBlock)
    (hp : v'.ownBlock = v3.ownBlock ∨ (v'.ownBlock = some wr.heap.size ∧ wr.grownBy w' none)) : FRel w (w'.setCell ⟨T, 3, none⟩ v') T M n vb v1 v2 v' s1 s2 (s3 ++ [vl]) A1 A2 (A3 ++ [L]) (.slice none 0 0) [] F cnt :=
  have hb := (hg.block T (Nat.lt_of_lt_of_le hT h.frm.size) (fun e => by have := (h.quad.tri.l3.row.lt T e.symm).1; omega)).trans h.blk
  ⟨set5n hb v', Quad.bare ((h.quad.tri.add3 h.quad.line hown hg hp).set hT v'), (map_row_kept h.quad.tri.l3.row h.map hg).of_block (Below.heap_setCell _ _ _ _ (by show M ≠ T; exact hTM.symm)), (h.frm.grown hg h.frm.size (fun x hx => Or.inl (h.quad.tri.l3.row.lt x hx).1)).set 3 v'⟩

theorem FRel.line (hT : T < w.heap.size) (h : FRel w wr T M n vb v1 v2 v3 s1 s2 s3 A1 A2 A3 (.slice none 0 0) [] F cnt) {L' : List Int} (hown : w'.ownsRow wr.heap.size 3 1 v' L'.length (L'.map (Value.int .i64))) (hb : Below wr.heap.size wr w') : FRel w w' T M n vb v1 v2 v3 s1 s2 s3 A1 A2 A3 v' L' F cnt := by
  have h' := h.later hT hb
  refine ⟨h'.blk, ⟨h'.quad.tri, owns_base hown h.frm.size, fun y hy g h1 h2 => ?_⟩, h'.map, h'.frm⟩
  have hge := (hown.lt g h2).1
  have hlt : g < wr.heap.size := by
    rcases List.mem_append.1 hy with hy | hy
    · rcases List.mem_append.1 hy with hy | hy
      · obtain ⟨Y, hY⟩ := h.quad.tri.l1.inner hy; exact (hY.lt g h1).2
      · obtain ⟨Y, hY⟩ := h.quad.tri.l2.inner hy; exact (hY.lt g h1).2
    · obtain ⟨Y, hY⟩ := h.quad.tri.l3.inner hy; exact (hY.lt g h1).2
  omega

theorem FRel.write {g k c : Nat} (hT : T < w.heap.size) (h : FRel w wr T M n vb v1 v2 v3 s1 s2 s3 A1 A2 A3 (.slice (some ⟨g, 0, none⟩) k c) L F cnt) (hk : L.length = k) (m : Nat) (x : Int) : FRel w (wr.setCell ⟨g, m, none⟩ (.int .i64 x)) T M n vb v1 v2 v3 s1 s2 s3 A1 A2 A3 (.slice (some ⟨g, 0, none⟩) k c) (L.set m x) F cnt := by
  have hg := (h.quad.line.lt g rfl).1
  have hgm : M ≠ g := fun e => by
    obtain ⟨cur, hc⟩ := owns_obj h.quad.line (b := g) rfl
    obtain ⟨es, cl, ho⟩ := h.map.obj
    rw [e, hc] at ho
    cases ho
  exact ⟨(Below.heap_setCell _ _ _ _ (by show T ≠ g; omega)).trans h.blk, h.quad.write hk m x, h.map.of_block (Below.heap_setCell _ _ _ _ hgm), h.frm.trans ⟨rfl, rfl, rfl, by simp [World.setCell], fun y h1 _ _ => Below.heap_setCell _ _ _ _ (by show y ≠ g; omega)⟩⟩

theorem FRel.lists {B1 B2 B3 : List (List Int)} {L' : List Int} (h : FRel w wr T M n vb v1 v2 v3 s1 s2 s3 A1 A2 A3 vl L F cnt) (e1 : A1 = B1) (e2 : A2 = B2) (e3 : A3 = B3) (e4 : L = L') : FRel w wr T M n vb v1 v2 v3 s1 s2 s3 B1 B2 B3 vl L' F cnt := by
  subst e1; subst e2; subst e3; subst e4; exact h

end

end Go.Proofs.Ytimfoggjocajiaa

/- Contract: extent.cyclesOf: the cycles of a list of numbers. -/
namespace Go.Proofs.Ytimfoggjocajiaa
open Go.RowKit

theorem Try.info4 : (Try.prog.info? 4).map (fun i => (i.zero, i.size, i.bytes)) = some (some (.bool false), 1, 1) := by kernel_rfl

/-- What is marked. -/
def Dn (w : World) (D s : Nat) (f : Nat → Bool) : Prop := w.ownsRow D 4 1 (.slice (some ⟨D, 0, none⟩) s s) s ((List.range s).map (fun i => Value.bool (f i)))

theorem Dn.of_block {w w' : World} {D s : Nat} {f : Nat → Bool} (h : Dn w D s f) (hb : w'.heap[D]? = w.heap[D]?) : Dn w' D s f :=
  owns_of_block h (fun g hg => by have e : D = g := Option.some.inj hg; rw [← e]; exact hb)

theorem Dn.cell {w : World} {D s i : Nat} {f : Nat → Bool} (h : Dn w D s f) (hi : i < s) : w.cell? ⟨D, i, none⟩ = some (.bool (f i)) ∧ w.frozen? ⟨D, i, none⟩ = false := by
  have h9 := World.ownsRow.cells h (g := D) rfl i (.bool (f i)) (by rw [List.getElem?_map, List.getElem?_range hi]; rfl)
  rw [Addr.add_lit, Nat.zero_add] at h9
  exact ⟨h9, (row_cellE h hi).2⟩

theorem Dn.set {w : World} {D s m : Nat} {f : Nat → Bool} (h : Dn w D s f) (t : Bool) : Dn (w.setCell ⟨D, m, none⟩ (.bool t)) D s (fun i => if i = m then t else f i) := by
  have h9 := owns_set (m := m) h (.bool t)
  have e : ((List.range s).map (fun i => Value.bool (f i))).set m (.bool t) = (List.range s).map (fun i => Value.bool (if i = m then t else f i)) := by
    refine List.ext_getElem? (fun i => ?_)
    rw [List.getElem?_set]
    by_cases hi : i < s
    · rw [List.getElem?_map, List.getElem?_map, List.getElem?_range hi]
      by_cases e : m = i
      · subst e
        rw [if_pos rfl, if_pos (by rw [List.length_map, List.length_range]; exact hi)]
        simp
      · rw [if_neg e]
        simp [show ¬ i = m from fun h => e h.symm]
    · rw [List.getElem?_eq_none (by rw [List.length_map, List.length_range]; omega), List.getElem?_eq_none (by rw [List.length_map, List.length_range]; omega)]
      split
      · split
        · rename_i h1 h2; rw [List.length_map, List.length_range] at h2; omega
        · rfl
      · rfl
  rw [e] at h9
  exact h9

theorem Dn.congr {w : World} {D s : Nat} {f g : Nat → Bool} (h : Dn w D s f) (e : ∀ i, i < s → f i = g i) : Dn w D s g := by
  unfold Dn at h ⊢
  rw [show (List.range s).map (fun i => Value.bool (g i)) = (List.range s).map (fun i => Value.bool (f i)) from List.map_congr_left (fun i hi => by rw [e i (List.mem_range.1 hi)])]
  exact h

theorem made_bools (n : Nat) : (madeCells #[Value.bool false] n).toList = (List.range n).map (fun _ => Value.bool false) := by
  apply List.ext_getElem
  · simp [madeCells]
  · intro i h1 h2
    simp [madeCells, Nat.mod_one]

/-- How far cyclesOf has come. -/
structure CyR (w wr : World) (a : List Int) (v : Value) (vs : List Value) (k : Nat) : Prop where
  done : Dn wr w.heap.size a.length (fun i => decide ((i : Int) ∈ (cycsTo a k).flatten))
  cyc : LL wr (w.heap.size + 1) v vs (cycsTo a k)
  apt : vs.Pairwise Apt
  below : Below w.heap.size w wr

theorem CyR.size {w wr : World} {a : List Int} {v : Value} {vs : List Value} {k : Nat} (h : CyR w wr a v vs k) : w.heap.size + 1 ≤ wr.heap.size := (World.ownsRow.lt h.done w.heap.size rfl).2

/-- .. and within one cycle. -/
structure CyI (w wo wr : World) (a : List Int) (u : Value) (k j : Nat) : Prop where
  done : Dn wr w.heap.size a.length (fun i => decide ((i : Int) ∈ (cycsTo a k).flatten ∨ (i : Int) ∈ orb a k j))
  row : wr.ownsRow wo.heap.size 3 1 u j ((orb a k j).map (Value.int .i64))
  frm : Frm wo.heap.size w.heap.size w.heap.size wo wr

theorem CyR.inner {w wr : World} {a : List Int} {v : Value} {vs : List Value} {k : Nat} (h : CyR w wr a v vs k) : CyI w wr wr a (.slice none 0 0) k 0 :=
  ⟨h.done.congr (fun i _ => by simp [orb]), World.ownsRow_nil _ _ _ _, Frm.refl _ _ _ _⟩

theorem CyI.step {w wo wr w' : World} {a : List Int} {u u' : Value} {k j : Nat} {o : Obj} (hw : w.heap.size + 1 ≤ wo.heap.size) (h : CyI w wo wr a u k j)
    (hown : w'.ownsRow wo.heap.size 3 1 u' (j + 1) ((orb a k j).map (Value.int .i64) ++ [.int .i64 ((it a j k : Nat) : Int)])) (hg : ((wr.setCell ⟨w.heap.size, it a j k, none⟩ (.bool true)).alloc o).grownBy w' u.ownBlock) : CyI w wo w' a u' k (j + 1) := by
  have hs := h.frm.size
  have hD := (World.ownsRow.lt h.done w.heap.size rfl).2
  have hsz : (wr.setCell ⟨w.heap.size, it a j k, none⟩ (.bool true)).heap.size = wr.heap.size := by simp [World.setCell]
  have hfr : Frm wo.heap.size w.heap.size w.heap.size wo ((wr.setCell ⟨w.heap.size, it a j k, none⟩ (.bool true)).alloc o) := (h.frm.set (it a j k) (.bool true)).trans (Frm.of_below ((Below.refl _ _).alloc (Nat.le_refl _) o) (by rw [hsz]; exact hs))
  refine ⟨?_, ?_, hfr.grown hg (by simp; omega) (fun x hx => Or.inl (h.row.lt x hx).1)⟩
  · have h1 : Dn ((wr.setCell ⟨w.heap.size, it a j k, none⟩ (.bool true)).alloc o) w.heap.size a.length _ := (h.done.set (m := it a j k) true).of_block (Below.heap_alloc _ o w.heap.size (by rw [hsz]; exact hD))
    refine (h1.of_block (hg.block w.heap.size (by simp; omega) (fun e => by have := (h.row.lt _ e.symm).1; omega))).congr (fun i _ => ?_)
    rw [orb_snoc]
    by_cases e : i = it a j k
    · subst e; simp
    · rw [if_neg e]
      have e2 : ¬ (i : Int) = ((it a j k : Nat) : Int) := by omega
      simp [e2]
  · rw [orb_snoc, List.map_append]; exact hown

theorem CyI.ll {w wo wr : World} {a : List Int} {v u : Value} {vs : List Value} {k j : Nat} (hR : CyR w wo a v vs k) (h : CyI w wo wr a u k j) : LL wr (w.heap.size + 1) v vs (cycsTo a k) :=
  hR.cyc.of_blocks (fun g hg => h.frm.block g (hR.cyc.row.lt g hg).2 (by have := (hR.cyc.row.lt g hg).1; omega) (by have := (hR.cyc.row.lt g hg).1; omega)) (fun y hy g hg => by
    obtain ⟨Y, hY⟩ := hR.cyc.inner hy
    exact h.frm.block g (hY.lt g hg).2 (by have := (hY.lt g hg).1; omega) (by have := (hY.lt g hg).1; omega))

theorem CyI.below {w wo wr : World} {a : List Int} {v u : Value} {vs : List Value} {k j : Nat} (hR : CyR w wo a v vs k) (h : CyI w wo wr a u k j) : Below w.heap.size w wr :=
  hR.below.trans ⟨h.frm.os, h.frm.tape, h.frm.output, h.frm.size, fun b hb => h.frm.block b (by have := hR.size; omega) (by omega) (by omega)⟩

theorem CyI.leave {w wo wr w' : World} {a : List Int} {v v' u : Value} {vs : List Value} {k : Nat} {o : Obj} (hR : CyR w wo a v vs k) (hn : ¬ (k : Int) ∈ (cycsTo a k).flatten) (h : CyI w wo wr a u k (per a k))
    (hown : w'.ownsRow (w.heap.size + 1) 23 1 v' (vs.length + 1) (vs ++ [u])) (hg : (wr.alloc o).grownBy w' v.ownBlock) : CyR w w' a v' (vs ++ [u]) (k + 1) := by
  have hw := hR.size
  have hL := h.ll hR
  have hD := (World.ownsRow.lt h.done w.heap.size rfl).2
  have hc : cycsTo a (k + 1) = cycsTo a k ++ [orb a k (per a k)] := by rw [cycsTo_succ, if_neg hn]
  refine ⟨?_, ?_, ?_, ?_⟩
  · refine ((h.done.of_block (Below.heap_alloc _ o w.heap.size hD)).of_block (hg.block w.heap.size (by simp; omega) (fun e => by have := (hL.row.lt _ e.symm).1; omega))).congr (fun i _ => ?_)
    rw [hc, List.flatten_append]
    simp
  · rw [hc]
    exact hL.push (by rw [orb_length]; exact owns_base h.row hw) hown hg
  · rw [List.pairwise_append]
    refine ⟨hR.apt, by simp, fun y hy z hz g h1 h2 => ?_⟩
    rw [List.mem_singleton.1 hz] at h2
    obtain ⟨Y, hY⟩ := hR.cyc.inner hy
    have := (hY.lt g h1).2
    have := (h.row.lt g h2).1
    omega
  · have hb : Below w.heap.size w wr := hR.below.trans ⟨h.frm.os, h.frm.tape, h.frm.output, h.frm.size, fun b hb => h.frm.block b (by omega) (by omega) (by omega)⟩
    exact hL.step hb (by omega) hb.size hg

theorem CyR.skip {w wr : World} {a : List Int} {v : Value} {vs : List Value} {k : Nat} (h : CyR w wr a v vs k) (hn : (k : Int) ∈ (cycsTo a k).flatten) : CyR w wr a v vs (k + 1) := by
  have hc : cycsTo a (k + 1) = cycsTo a k := by rw [cycsTo_succ, if_pos hn]
  exact ⟨by rw [hc]; exact h.done, by rw [hc]; exact h.cyc, h.apt, h.below⟩

set_option maxRecDepth 20000 in
set_option maxHeartbeats 4000000 in
theorem cyclesOf_ok (v : Value) (a : List Int) (w : World) (hI : Ints w v a) (hr : isRow a) (h1 : 1 ≤ a.length) (h2 : a.length ≤ 1000) :
    Calls Try.prog 96 #[v] w fun e w' => ∃ u us, e = .returned u ∧ LL w' w.heap.size u us (cycsTo a a.length) ∧ us.Pairwise Apt ∧ Below w.heap.size w w' := by
  obtain ⟨i0, hi, hz0, hz1, hz2⟩ := info_parts Try.info23
  obtain ⟨j0, hji, hjz0, hjz1, hjz2⟩ := info_parts Try.info3
  obtain ⟨b0, hbi, hbz0, hbz1, hbz2⟩ := info_parts Try.info4
  rcases hI with ⟨rfl, _⟩ | ⟨bv, off, cap, rfl, hl0, hcp, hm, hbv, hcell⟩
  · simp at h1
  have HC := hide hcell
  have HR := hide hr
  generalize hal : a.length = al at *
  have HAL := hide hal
  clear hcell hr hal
  go_enter Try.func96, Try.ntmps96
  go_wp2_with (at_make; refine wpList_make_full _ rfl _ _ 155 rfl w.heap.size 4 b0 (.bool false) 1 Try.underlying155 hbi hbz0 hbz1 _ _ _ _ al rfl rfl (by omega) (by omega) ?b2 ?b3 (Nat.le_refl _) ?_)
  case b2 => rw [hbz2]; omega
  case b3 => unfold maxLen; omega
  intro w1 hown1 hgrow1
  rw [made_bools] at hown1
  have hB1 : Below w.heap.size w w1 := (Below.refl _ _).grown hgrow1 (Nat.le_refl _) (fun k h => by cases h)
  have HC0 : Hid (CyR w w1 a (.slice none 0 0) [] 0) := ⟨Dn.congr (f := fun _ => false) (by rw [HAL.out]; exact hown1) (fun i _ => by simp [cycsTo]), LL.nil _ _, by simp, hB1⟩
  clear hown1 hgrow1 hB1
  go_wp2
  go_loopw [4, 13] (fun sv si wr => ∃ (k : Nat) (vs : List Value), k ≤ al ∧ si = .int .i64 k ∧ CyR w wr a sv vs k) (fun _ si _ => al - (intOf si).toNat)
  case atStart => exact ⟨0, [], Nat.zero_le _, rfl, HC0.out⟩
  case round =>
    clear HC0
    obtain ⟨k, vs, hk, rfl, hR⟩ := hrel
    by_cases hlt : k < al
    · obtain ⟨wo, hwo⟩ : ∃ wo, wo = wr := ⟨_, rfl⟩
      subst hwo
      have HRR := hide hR
      have hw1 := hR.size
      by_cases hin : (k : Int) ∈ (cycsTo a k).flatten
      · have hd := (hR.done.cell (i := k) (by rw [HAL.out]; exact hlt)).1
        rw [decide_eq_true hin] at hd
        have HR2 := hide (hR.skip hin)
        clear hR hin
        go_wp2
        go_loopw [6, 7] (fun s6 s7 wr => s6 = .slice none 0 0 ∧ s7 = .int .i64 k ∧ wr = wo) (fun _ _ _ => 0)
        case atStart => exact ⟨rfl, rfl, rfl⟩
        case round =>
          obtain ⟨rfl, rfl, hww⟩ := hrel
          have hww' := hww.symm
          subst hww'
          clear hww
          go_wp2
          go_roundw
          case rel =>
            have hfin : ∃ (k' : Nat) (vs : List Value), k' ≤ al ∧ Value.int .i64 ((k : Int) + 1) = .int .i64 (k' : Int) ∧ CyR w wo a u4 vs k' := ⟨k + 1, _, hlt, by go_num, HR2.out⟩
            first
              | exact hfin
              | ((repeat apply Exists.intro); exact ⟨hfin, rfl⟩)
          case measure => simp [intOf]; omega
      · have hkl : k < a.length := by rw [HAL.out]; exact hlt
        obtain ⟨p1, p2, p3, p4⟩ := per_spec HR.out hkl
        have HIN := hide hR.inner
        have HNI := hide hin
        have HIT : Hid (∀ j, it a j k < al) := fun j => by have := it_lt HR.out hkl j; rw [HAL.out] at this; exact this
        have HNX : Hid (∀ j, j < per a k → ¬ ((it a j k : Nat) : Int) ∈ (cycsTo a k).flatten ∧ ¬ ((it a j k : Nat) : Int) ∈ orb a k j) := fun j hj => by
          refine ⟨it_notin HR.out hkl hin j, fun h => ?_⟩
          obtain ⟨i, hi, e⟩ := mem_orb.1 h
          have := orb_inj HR.out hkl (by omega) hj (show it a i k = it a j k by omega)
          omega
        have HEND : Hid (((it a (per a k) k : Nat) : Int) ∈ orb a k (per a k)) := by
          rw [p3]
          exact mem_orb.2 ⟨0, by omega, rfl⟩
        have HPL : Hid (per a k ≤ al) := by rw [← HAL.out]; exact p2
        have HK0 : Hid (it a 0 k = k) := rfl
        have HSC : Hid (∀ j, ((it a (j + 1) k : Nat) : Int) = a.getD (it a j k) 0) := fun j => by
          have h9 := HR.out.at (show it a j k < a.length from it_lt HR.out hkl j)
          show ((nx a (it a j k) : Nat) : Int) = _
          unfold nx
          omega
        generalize hpp : per a k = pp at *
        have HPP := hide hpp
        clear hR hin p2 p3 p4 hkl hpp
        go_wp2
        go_loopw [6, 7] (fun s6 s7 wr => ∃ (j : Nat), j ≤ pp ∧ Hid (sliceLen s6 = j) ∧ s7 = .int .i64 ((it a j k : Nat) : Int) ∧ CyI w wo wr a s6 k j) (fun s6 _ _ => pp - sliceLen s6)
        case atStart => exact ⟨0, Nat.zero_le _, rfl, rfl, HIN.out⟩
        case round =>
          clear HIN
          obtain ⟨j, hj, hsl, rfl, hC⟩ := hrel
          have hd := hC.done.cell (i := it a j k) (by rw [HAL.out]; exact HIT.out j)
          obtain ⟨up, uc, rfl⟩ := owns_slice hC.row
          by_cases hjp : j < pp
          · have hnn := HNX.out j hjp
            have hd1 := hd.1
            rw [decide_eq_false (fun h => h.elim hnn.1 hnn.2)] at hd1
            have hd2 := hd.2
            have HC2 := hide hC
            have hia := HIT.out j
            have hss := hC.frm.size
            have hpl := HPL.out
            have hcv := (HC.out (it a j k) (by omega))
            have HVV : Hid (a.getD (it a j k) 0 = ((it a (j + 1) k : Nat) : Int)) := (HSC.out j).symm
            have HRO := hide hC.row
            have HCST := hide (fun (u' : Value) (w' : World) (o : Obj) hown hg => hC.step (u' := u') (w' := w') (o := o) hw1 hown hg)
            generalize it a j k = m at *
            generalize hm2 : it a (j + 1) k = m2 at *
            have HM2 := hide hm2
            clear hm2
            generalize orb a k j = oj at *
            clear hC hd hnn
            go_wp2_with (at_builtin; refine wpList_append_own _ rfl _ _ 23 rfl wo.heap.size 3 j0 (.int .i64 0) 1 8 Try.underlying23 hji hjz0 hjz1 hjz2 rfl (by decide) _ j (oj.map (Value.int .i64)) rfl ?c0 ⟨wr.heap.size, 0, none⟩ 1 1 [.int .i64 (m : Int)] rfl rfl ?c1 ?c2 ?c3 ?c4 ?c5 ?_)
            case c0 => exact (ownsRow_setCell_below HRO.out (by exact hw1) _).alloc _
            case c1 =>
              intro j' u hu
              have h9 := cell_one_new (wr.setCell ⟨w.heap.size, m, none⟩ (.bool true)) (.int .i64 (m : Int)) 3 j' u hu
              have e9 : (wr.setCell ⟨w.heap.size, m, none⟩ (.bool true)).heap.size = wr.heap.size := by simp [World.setCell]
              rw [e9] at h9
              exact h9
            case c2 => intro u hu; simp at hu; subst hu; rfl
            case c3 => unfold maxLen; omega
            case c4 => omega
            case c5 => simp [World.setCell]; omega
            intro v4 w4 hown4 hg4 _
            have hC4 := HCST.out v4 w4 _ hown4 hg4
            have hB4 := hC4.below HRR.out
            have hcv4 := (hB4.cell (p := ⟨bv, off + m, none⟩) hbv).trans hcv
            rw [HVV.out] at hcv4
            obtain ⟨p4, c4, e4⟩ := owns_slice hC4.row
            subst e4
            have HC4 := hide hC4
            clear hown4 hg4 hC4 hB4 hcv HCST HRO HC2 hd1 hd2
            go_wp2
            go_roundw
            case rel =>
              have hfin : ∃ (j' : Nat), j' ≤ pp ∧ Hid (sliceLen (.slice p4 (j + 1) c4) = j') ∧ Value.int .i64 (m2 : Int) = .int .i64 ((it a j' k : Nat) : Int) ∧ CyI w wo w4 a (.slice p4 (j + 1) c4) k j' := ⟨j + 1, hjp, rfl, by rw [HM2.out], HC4.out⟩
              first
                | exact hfin
                | ((repeat apply Exists.intro); exact ⟨hfin, rfl⟩)
            case measure => simp [sliceLen]; omega
          · obtain rfl : j = pp := by omega
            have hd1 := hd.1
            rw [decide_eq_true (Or.inr HEND.out)] at hd1
            have hia := HIT.out j
            have hpl := HPL.out
            have hL := hC.ll HRR.out
            have HLR := hide hL.row
            have hvl : vs.length ≤ 1000 := by rw [hL.len]; have := cycsTo_length a k; omega
            have HFI : Hid (∀ (v' : Value) (w' : World) (o : Obj), w'.ownsRow (w.heap.size + 1) 23 1 v' (vs.length + 1) (vs ++ [.slice up j uc]) → (wr.alloc o).grownBy w' u4.ownBlock → CyR w w' a v' (vs ++ [.slice up j uc]) (k + 1)) := fun v' w' o ho hg => by
              have h9 := hC
              rw [← HPP.out] at h9
              have h8 := h9.leave HRR.out HNI.out (v' := v') (w' := w') (o := o)
              rw [HPP.out] at h8
              exact h8 ho hg
            have hss := hC.frm.size
            have hj1 : (0 : Int) < (j : Int) := by omega
            generalize it a j k = m at *
            clear hC hd hL
            go_wp2_with (at_builtin; refine wpList_append_own _ rfl _ _ 22 rfl (w.heap.size + 1) 23 i0 (.slice none 0 0) 1 24 Try.underlying22 hi hz0 hz1 hz2 rfl (by decide) _ vs.length vs rfl (HLR.out.alloc _) ⟨wr.heap.size, 0, none⟩ 1 1 [.slice up j uc] rfl rfl ?c11 ?c12 ?c13 ?c14 ?c15 ?_)
            case c11 => exact cell_one_new _ _ _
            case c12 => intro u hu; simp at hu; subst hu; rfl
            case c13 => unfold maxLen; omega
            case c14 => omega
            case c15 => simp; omega
            intro v5 w5 hown5 hg5 _
            have HR5 := hide (HFI.out v5 w5 _ hown5 hg5)
            clear hown5 hg5 HFI HLR
            go_wp2
            go_roundw
            case rel =>
              have hfin : ∃ (k' : Nat) (vs : List Value), k' ≤ al ∧ Value.int .i64 ((k : Int) + 1) = .int .i64 (k' : Int) ∧ CyR w w5 a v5 vs k' := ⟨k + 1, _, hlt, by go_num, HR5.out⟩
              first
                | exact hfin
                | ((repeat apply Exists.intro); exact ⟨hfin, rfl⟩)
            case measure => simp [intOf]; omega
    · obtain rfl : al = k := by omega
      have HD : Hid (LL wr w.heap.size u4 vs (cycsTo a a.length)) := by rw [HAL.out]; exact hR.cyc.low (by omega)
      have HB := hide hR.below
      have HAP := hide hR.apt
      clear hR
      go_wp2
      go_ret
      exact ⟨_, vs, rfl, by have := HD.out; rw [HAL.out] at this; exact this, HAP.out, HB.out⟩

end Go.Proofs.Ytimfoggjocajiaa

/- Contract: extent.setsOf. -/
namespace Go.Proofs.Ytimfoggjocajiaa
open Go.RowKit

theorem ownAll_of {w : World} {B : Nat} : ∀ {vs : List Value} {A : List (List Int)}, vs.length = A.length → (∀ j, j < vs.length → w.ownsRow B 3 1 (vs.getD j undef) (A.getD j []).length ((A.getD j []).map (Value.int .i64))) → OwnAll w B vs A
  | [], [], _, _ => trivial
  | u :: us, x :: xs, hl, h => ⟨h 0 (by simp), ownAll_of (by simpa using hl) (fun j hj => h (j + 1) (by simpa using hj))⟩
  | [], _ :: _, hl, _ => by simp at hl
  | _ :: _, [], hl, _ => by simp at hl

theorem pairwise_getD {vs : List Value} (h : vs.Pairwise Apt) {i j : Nat} (hi : i < vs.length) (hj : j < vs.length) (hne : i ≠ j) : Apt (vs.getD i undef) (vs.getD j undef) := by
  rw [List.getD, List.getD, List.getElem?_eq_getElem hi, List.getElem?_eq_getElem hj]
  rcases Nat.lt_or_gt_of_ne hne with hlt | hlt
  · exact List.pairwise_iff_getElem.1 h i j hi hj hlt
  · exact (List.pairwise_iff_getElem.1 h j i hj hi hlt).symm

/-- One list of lists is written in its place. -/
theorem LL.sort_at {w w' : World} {B j : Nat} {v : Value} {vs : List Value} {A : List (List Int)} {X : List Int} (h : LL w B v vs A) (hap : vs.Pairwise Apt) (hj : j < A.length) (hown : w'.ownsRow B 3 1 (vs.getD j undef) X.length (X.map (Value.int .i64))) (hg : w.grownBy w' (vs.getD j undef).ownBlock) : LL w' B v vs (A.set j X) := by
  have hl := h.len
  have hat := h.at hj
  refine ⟨owns_of_block h.row (fun g hg' => hg.block g (h.row.lt g hg').2 (fun e => owns_ty hat h.row (by decide) g e.symm hg')), ownAll_of (by rw [List.length_set, hl]) (fun i hi => ?_)⟩
  have hi' : i < A.length := by omega
  by_cases e : i = j
  · subst e
    rw [show (A.set i X).getD i [] = X by rw [List.getD, List.getElem?_set, if_pos rfl, if_pos hi']; rfl]
    exact hown
  · rw [show (A.set j X).getD i [] = A.getD i [] by rw [List.getD, List.getD, List.getElem?_set, if_neg (fun h => e h.symm)]]
    have hai := h.at hi'
    exact owns_of_block hai (fun g hg' => hg.block g (hai.lt g hg').2 (fun e' => pairwise_getD hap (by omega) (by omega) e g hg' e'.symm))

/-- In order. -/
def srt (zs : List Int) : List Int := zs.mergeSort (fun x y => decide (x ≤ y))

theorem srt_length (zs : List Int) : (srt zs).length = zs.length := List.length_mergeSort _

theorem set_srt {A : List (List Int)} {j : Nat} {X : List Int} (h : A[j]? = some X) : ((A.take j).map srt ++ A.drop j).set j (srt X) = (A.take (j + 1)).map srt ++ A.drop (j + 1) := by
  have hj := (List.getElem?_eq_some_iff.1 h).1
  refine List.ext_getElem? (fun i => ?_)
  have hl : ((A.take j).map srt).length = j := by rw [List.length_map, List.length_take]; omega
  have hl2 : ((A.take (j + 1)).map srt).length = j + 1 := by rw [List.length_map, List.length_take]; omega
  rw [List.getElem?_set]
  by_cases e : j = i
  · subst e
    rw [if_pos rfl, if_pos (by rw [List.length_append, hl, List.length_drop]; omega), List.getElem?_append_left (by omega), List.getElem?_map, List.getElem?_take, if_pos (by omega), h]
    rfl
  · rw [if_neg e]
    rcases Nat.lt_or_ge i j with hi | hi
    · rw [List.getElem?_append_left (by omega), List.getElem?_append_left (by omega), List.getElem?_map, List.getElem?_map, List.getElem?_take, List.getElem?_take, if_pos hi, if_pos (by omega)]
    · rw [List.getElem?_append_right (by omega), List.getElem?_append_right (by omega), hl, hl2, List.getElem?_drop, List.getElem?_drop]
      congr 1
      omega

theorem nx_get {X : List Pm} {c : Pm} {n : Nat} {G : Pm → Prop} (hR : Rws n G X) (hc : G c) {i : Nat} (hi : i < X.length) : nx (mv X c) i < X.length := by
  have := nx_lt (mv_row hR.nodup (hR.cls hc)) (x := i) (by rw [mv_length]; exact hi)
  rwa [mv_length] at this

theorem mv_nat {X : List Pm} {c : Pm} {i : Nat} (hi : i < X.length) : (mv X c).getD i 0 = ((nx (mv X c) i : Nat) : Int) := by
  have h9 : X[i]? = some X[i] := List.getElem?_eq_getElem hi
  rw [mv_nx h9, List.getD, mv_get h9]
  rfl

/-- What undoes where a change leads. -/
theorem before_is {n : Nat} {G : Pm → Prop} {X : List Pm} (hR : Rws n G X) {b : Pm} (hb : G b) {zs : List Int} (hl : zs.length = X.length) (h : ∀ j, j < X.length → zs.getD (nx (mv X b) j) 0 = (j : Int)) : zs = mv X b⁻¹ := by
  refine ext_getD (by rw [hl, mv_length]) (fun i hi => ?_)
  rw [hl] at hi
  have h9 : X[i]? = some X[i] := List.getElem?_eq_getElem hi
  have hm : X[i] * b⁻¹ ∈ X := hR.cls (hR.sub.inv hb) _ (List.mem_of_getElem? h9)
  have h8 := h _ (ix_lt hm)
  rw [mv_nx (ix_get hm), Pm.mul_assoc, Pm.inv_mul, Pm.mul_one, ix_of hR.nodup h9] at h8
  rw [h8, List.getD, mv_get h9]
  rfl

theorem other_is {n : Nat} {G : Pm → Prop} {X : List Pm} (hR : Rws n G X) {a c : Pm} (ha : G a) {zs : List Int} (hl : zs.length = X.length) (h : ∀ j, j < X.length → zs.getD j 0 = (mv X c).getD (nx (mv X a) j) 0) : zs = mv X (a * c) := by
  rw [← mv_by (hR.cls ha)]
  refine ext_getD (by rw [hl, by_length, mv_length]) (fun i hi => ?_)
  rw [hl] at hi
  rw [h i hi]
  unfold by_
  rw [List.getD, List.getD, List.getElem?_map, mv_get (List.getElem?_eq_getElem hi), mv_nx (List.getElem?_eq_getElem hi)]
  rfl

/-- Where x and y lead, in memory. -/
structure ToAt (w : World) (v0 v1 : Value) (X : List Pm) (a b : Pm) : Prop where
  x : Ints w v0 (mv X a)
  y : Ints w v1 (mv X b)

def SetsPost (X : List Pm) (c : Pm) (w : World) (e : Ending) (w' : World) : Prop :=
  ∃ u us, e = .returned u ∧ LL w' w.heap.size u us ((cycsTo (mv X c) X.length).map srt) ∧ Below w.heap.size w w'

set_option maxRecDepth 20000 in
set_option maxHeartbeats 8000000 in
theorem setsOf_ok (n : Nat) (G : Pm → Prop) (X : List Pm) (a b : Pm) (v0 v1 : Value) (w : World) (hR : Rws n G X) (ha : G a) (hb : G b) (hT : ToAt w v0 v1 X a b) :
    Calls Try.prog 95 #[.agg #[v0, v1]] w fun e w' => SetsPost X (a * b⁻¹) w e w' := by
  obtain ⟨j0, hji, hjz0, hjz1, hjz2⟩ := info_parts Try.info3
  have hpos := hR.pos
  have hfew := hR.few
  obtain ⟨p0, c0, e0⟩ := hT.x.form
  obtain ⟨p1, c1, e1⟩ := hT.y.form
  rw [mv_length] at e0 e1
  subst e0
  subst e1
  obtain ⟨b0, o0, rfl, k01, k02, k03, k04⟩ := hT.x.open (by rw [mv_length]; exact hpos)
  obtain ⟨b1, o1, rfl, k11, k12, k13, k14⟩ := hT.y.open (by rw [mv_length]; exact hpos)
  rw [mv_length] at k01 k11 k04 k14
  have HX0 : Hid (∀ W, Below w.heap.size w W → ∀ j, j < X.length → W.cell? ⟨b0, o0 + j, none⟩ = some (.int .i64 ((nx (mv X a) j : Nat) : Int))) := fun W hW j hj => by rw [← mv_nat hj]; exact (hW.cell (p := ⟨b0, o0 + j, none⟩) k03).trans (k04 j hj)
  have HX1 : Hid (∀ W, Below w.heap.size w W → ∀ j, j < X.length → W.cell? ⟨b1, o1 + j, none⟩ = some (.int .i64 ((nx (mv X b) j : Nat) : Int))) := fun W hW j hj => by rw [← mv_nat hj]; exact (hW.cell (p := ⟨b1, o1 + j, none⟩) k13).trans (k14 j hj)
  have HNA : Hid (∀ j, j < X.length → nx (mv X a) j < X.length) := fun j hj => nx_get hR ha hj
  have HNB : Hid (∀ j, j < X.length → nx (mv X b) j < X.length) := fun j hj => nx_get hR hb hj
  have HBI : Hid (∀ zs : List Int, zs.length = X.length → (∀ j, j < X.length → zs.getD (nx (mv X b) j) 0 = (j : Int)) → zs = mv X b⁻¹) := fun zs => before_is hR hb
  have HOI : Hid (∀ zs : List Int, zs.length = X.length → (∀ j, j < X.length → zs.getD j 0 = (mv X b⁻¹).getD (nx (mv X a) j) 0) → zs = mv X (a * b⁻¹)) := fun zs => other_is hR ha
  have HINJ : Hid (∀ i j, i < X.length → j < X.length → nx (mv X b) i = nx (mv X b) j → i = j) := fun i j hi hj e => nx_inj (mv_row hR.nodup (hR.cls hb)) (by rw [mv_length]; exact hi) (by rw [mv_length]; exact hj) e
  have hRow := mv_row hR.nodup (hR.cls (hR.sub.mul ha (hR.sub.inv hb)))
  have hML := mv_length X (a * b⁻¹)
  have HCy : Hid (∀ (W : World) (v : Value), Ints W v (mv X (a * b⁻¹)) → Calls Try.prog 96 #[v] W fun e w' => ∃ u us, e = .returned u ∧ LL w' W.heap.size u us (cycsTo (mv X (a * b⁻¹)) X.length) ∧ us.Pairwise Apt ∧ Below W.heap.size W w') := fun W v hv => by
    have h9 := cyclesOf_ok v (mv X (a * b⁻¹)) W hv hRow (by rw [hML]; omega) (by rw [hML]; omega)
    rw [hML] at h9
    exact h9
  have HCL : Hid (∀ x, x ∈ cycsTo (mv X (a * b⁻¹)) X.length → 1 ≤ x.length ∧ x.length ≤ 1000) := fun x hx => by
    have h9 := cycsTo_len hRow X.length (by rw [hML]; exact Nat.le_refl _) x hx
    rw [hML] at h9
    omega
  have HCN : Hid ((cycsTo (mv X (a * b⁻¹)) X.length).length ≤ X.length) := cycsTo_length _ _
  unfold SetsPost
  generalize hA : cycsTo (mv X (a * b⁻¹)) X.length = A at *
  clear hA hRow hML
  generalize hN : X.length = N at *
  have HN := hide hN
  clear hT k04 k14 hR ha hb hN
  go_enter Try.func95, Try.ntmps95
  go_wp2_with (at_make; refine wpList_make_full _ rfl _ _ 23 rfl (w.heap.size + 1) 3 j0 (.int .i64 0) 1 Try.underlying23 hji hjz0 hjz1 _ _ _ _ N rfl rfl (by omega) (by omega) ?b2 ?b3 ?b4 ?_)
  case b2 => rw [hjz2]; omega
  case b3 => unfold maxLen; omega
  case b4 => simp
  intro w2 hown2 hg2
  have hs1 : (w.alloc (.cells #[.slice (some ⟨b0, o0, none⟩) N c0, .slice (some ⟨b1, o1, none⟩) N c1] 129)).heap.size = w.heap.size + 1 := by simp
  have HS1 := hide hs1
  generalize hW1 : w.alloc (.cells #[.slice (some ⟨b0, o0, none⟩) N c0, .slice (some ⟨b1, o1, none⟩) N c1] 129) = W1 at *
  have hbw : Below w.heap.size w W1 := by rw [← hW1]; exact (Below.refl _ _).alloc (Nat.le_refl _) _
  have hlt1 : w.heap.size < w.heap.size + 1 := Nat.lt_succ_self _
  have HBX : Hid (∀ W, Below (w.heap.size + 1) W1 W → W.cell? ⟨w.heap.size, 0, none⟩ = some (.slice (some ⟨b0, o0, none⟩) N c0) ∧ W.cell? ⟨w.heap.size, 1, none⟩ = some (.slice (some ⟨b1, o1, none⟩) N c1)) := fun W hW => by
    have h9 := cells2_new w (.slice (some ⟨b0, o0, none⟩) N c0) (.slice (some ⟨b1, o1, none⟩) N c1) 129
    rw [hW1] at h9
    exact ⟨(hW.cell (p := ⟨w.heap.size, 0, none⟩) hlt1).trans h9.1, (hW.cell (p := ⟨w.heap.size, 1, none⟩) hlt1).trans h9.2⟩
  have HBW := hide hbw
  clear hW1 hbw hs1
  rw [made_ints] at hown2
  have HO2 := hide hown2
  have hB2 : Below (w.heap.size + 1) W1 w2 := (Below.refl _ _).grown hg2 (by rw [HS1.out]; exact Nat.le_refl _) (fun k h => by cases h)
  have hx2 := (HBX.out w2 hB2).2
  clear hown2 hg2
  go_wp2
  go_loopw [19] (fun i wr => ∃ (k : Nat) (zs : List Int), k ≤ N ∧ i = .int .i64 k ∧ Hid (wr.ownsRow (w.heap.size + 1) 3 1 (.slice (some ⟨w.heap.size + 1, 0, none⟩) N N) N (zs.map (Value.int .i64))) ∧ Hid (zs.length = N ∧ ∀ j, j < k → zs.getD (nx (mv X b) j) 0 = (j : Int)) ∧ Below (w.heap.size + 1) W1 wr) (fun i _ => N - (intOf i).toNat)
  case atStart => exact ⟨0, _, by omega, rfl, HO2, ⟨by simp, fun j hj => absurd hj (by omega)⟩, hB2⟩
  case round =>
    clear HO2 hB2
    obtain ⟨k, zs, hk, rfl, hO, hZ, hbk⟩ := hrel
    have hbwk := HBW.out.trans (hbk.mono (Nat.le_succ _))
    by_cases hlt : k < N
    · have gx := HX1.out wr hbwk k hlt
      have hm := HNB.out k hlt
      have hS := hO.out
      obtain ⟨y, hy, hcy, hfy⟩ := owns_cellAt hS hm
      have HSet := hide (fun u => owns_set_int (m := nx (mv X b) k) hS u)
      have HZ : Hid ((zs.set (nx (mv X b) k) (k : Int)).length = N ∧ ∀ j, j < k + 1 → (zs.set (nx (mv X b) k) (k : Int)).getD (nx (mv X b) j) 0 = (j : Int)) := by
        refine ⟨by rw [List.length_set]; exact hZ.out.1, fun j hj => ?_⟩
        rw [getD_set (by have := hZ.out.1; omega)]
        by_cases e : j = k
        · subst e; rw [if_pos rfl]
        · rw [if_neg (fun e' => e (HINJ.out j k (by omega) hlt e'.symm))]
          exact hZ.out.2 j (by omega)
      have hwr1 : w.heap.size + 1 < wr.heap.size := (hS.lt (w.heap.size + 1) rfl).2
      generalize nx (mv X b) k = m at *
      clear hS hy hO hZ hbwk
      go_wp2
      go_roundw
      case rel => exact ⟨k + 1, _, hlt, by go_num, HSet.out _, HZ, hbk.setCell (Nat.le_refl _) _⟩
      case measure => simp [intOf]; omega
    · obtain rfl : N = k := by omega
      have hze := HBI.out zs hZ.out.1 hZ.out.2
      have HOb : Hid (wr.ownsRow (w.heap.size + 1) 3 1 (.slice (some ⟨w.heap.size + 1, 0, none⟩) N N) N ((mv X b⁻¹).map (Value.int .i64))) := by rw [← hze]; exact hO.out
      obtain ⟨wo, hwo⟩ : ∃ wo, wo = wr := ⟨_, rfl⟩
      subst hwo
      have hxo := (HBX.out wo hbk).1
      have hwr1 : w.heap.size + 1 < wo.heap.size := (HOb.out.lt (w.heap.size + 1) rfl).2
      have HBK := hide hbk
      clear hO hZ hze hbwk
      go_wp2_with (at_make; refine wpList_make_full _ rfl _ _ 23 rfl wo.heap.size 3 j0 (.int .i64 0) 1 Try.underlying23 hji hjz0 hjz1 _ _ _ _ N rfl rfl (by omega) (by omega) ?b5 ?b6 (Nat.le_refl _) ?_)
      case b5 => rw [hjz2]; omega
      case b6 => unfold maxLen; omega
      intro w3 hown3 hg3
      rw [made_ints] at hown3
      have HO3 := hide hown3
      have hB3 : Below wo.heap.size wo w3 := (Below.refl _ _).grown hg3 (Nat.le_refl _) (fun k h => by cases h)
      have hx3 := (HBX.out w3 (hbk.trans (hB3.mono (Nat.le_of_lt hwr1)))).1
      clear hown3 hg3 hbk
      go_wp2
      go_loopw [36] (fun i wr => ∃ (k : Nat) (zs : List Int), k ≤ N ∧ i = .int .i64 k ∧ Hid (wr.ownsRow wo.heap.size 3 1 (.slice (some ⟨wo.heap.size, 0, none⟩) N N) N (zs.map (Value.int .i64))) ∧ Hid (zs.length = N ∧ ∀ j, j < k → zs.getD j 0 = (mv X b⁻¹).getD (nx (mv X a) j) 0) ∧ Below wo.heap.size wo wr) (fun i _ => N - (intOf i).toNat)
      case atStart => exact ⟨0, _, by omega, rfl, HO3, ⟨by simp, fun j hj => absurd hj (by omega)⟩, hB3⟩
      case round =>
        clear HO3 hB3
        obtain ⟨k, zs, hk, rfl, hO, hZ, hbk⟩ := hrel
        have hbk1 := HBK.out.trans (hbk.mono (Nat.le_of_lt hwr1))
        have hbwk := HBW.out.trans (hbk1.mono (Nat.le_succ _))
        by_cases hlt : k < N
        · have gx := HX0.out wr hbwk k hlt
          have hm := HNA.out k hlt
          have hS := hO.out
          obtain ⟨y, hy, hcy, hfy⟩ := owns_cellAt hS hlt
          obtain ⟨z, hz, hcz, _⟩ := owns_cellAt (owns_below HOb.out hbk (Nat.le_refl _)) hm
          have HSet := hide (fun u => owns_set_int (m := k) hS u)
          have HZV : Hid ((mv X b⁻¹).getD (nx (mv X a) k) 0 = z) := hz.out
          have HZ : Hid ((zs.set k z).length = N ∧ ∀ j, j < k + 1 → (zs.set k z).getD j 0 = (mv X b⁻¹).getD (nx (mv X a) j) 0) := by
            refine ⟨by rw [List.length_set]; exact hZ.out.1, fun j hj => ?_⟩
            rw [getD_set (by have := hZ.out.1; omega)]
            by_cases e : k = j
            · subst e; rw [if_pos rfl, HZV.out]
            · rw [if_neg e]; exact hZ.out.2 j (by omega)
          generalize nx (mv X a) k = m at *
          clear hS hy hz hO hZ hbwk hbk1
          go_wp2
          go_roundw
          case rel => exact ⟨k + 1, _, hlt, by go_num, HSet.out _, HZ, hbk.setCell (Nat.le_refl _) _⟩
          case measure => simp [intOf]; omega
        · obtain rfl : N = k := by omega
          have hze := HOI.out zs hZ.out.1 hZ.out.2
          have hOo : wr.ownsRow wo.heap.size 3 1 (.slice (some ⟨wo.heap.size, 0, none⟩) N N) N ((mv X (a * b⁻¹)).map (Value.int .i64)) := by rw [← hze]; exact hO.out
          have HCy2 := hide (HCy.out wr _ (Ints.own hOo))
          have HBr := hide hbwk
          clear hO hZ hze hOo hbk hbk1 hbwk
          go_wp2_with fail
          refine HCy2.out.mono ?_
          rintro ex w5 ⟨u5, us5, rfl, hL5, hap5, hb5⟩
          obtain ⟨al, hal⟩ : ∃ al, al = A.length := ⟨_, rfl⟩
          have HAL := hide hal
          obtain ⟨p5, q5, e5⟩ := owns_slice hL5.row
          rw [hL5.len, ← hal] at e5
          subst e5
          have HL5 := hide hL5
          have HAP := hide hap5
          have HB5 := hide (HBr.out.trans (hb5.mono HBr.out.size))
          have HLE : Hid (wr.heap.size ≤ w5.heap.size) := hb5.size
          have hall : al ≤ 1000 := by rw [hal]; have := HCN.out; omega
          clear hL5 hap5 hb5 hal HCy2
          obtain ⟨wr0, hwr0⟩ : ∃ wr0, wr0 = wr := ⟨_, rfl⟩
          subst hwr0
          go_wp2
          go_loopw [53] (fun i wr => ∃ (k : Nat), k ≤ al ∧ i = .int .i64 k ∧ LL wr wr0.heap.size (.slice p5 al q5) us5 ((A.take k).map srt ++ A.drop k) ∧ Below wr0.heap.size w5 wr) (fun i _ => al - (intOf i).toNat)
          case atStart => exact ⟨0, Nat.zero_le _, rfl, by rw [List.take_zero, List.map_nil, List.nil_append, List.drop_zero]; exact HL5.out, Below.refl _ _⟩
          case round =>
            clear HL5
            obtain ⟨k, hk, rfl, hL, hbk⟩ := hrel
            by_cases hlt : k < al
            · obtain ⟨Y, hY⟩ : ∃ Y, A[k]? = some Y := ⟨_, List.getElem?_eq_getElem (by rw [← HAL.out]; exact hlt)⟩
              have hlen : ((A.take k).map srt ++ A.drop k).length = al := by rw [List.length_append, List.length_map, List.length_take, List.length_drop, ← HAL.out]; omega
              have hgY : ((A.take k).map srt ++ A.drop k).getD k [] = Y := by
                have hl9 : ((A.take k).map srt).length = k := by rw [List.length_map, List.length_take, ← HAL.out]; omega
                rw [List.getD, List.getElem?_append_right (by omega), hl9, List.getElem?_drop, Nat.sub_self, Nat.add_zero, hY]
                rfl
              have hrow := hL.at (k := k) (by rw [hlen]; exact hlt)
              rw [hgY] at hrow
              have hYb := HCL.out Y (List.mem_of_getElem? hY)
              have HSo := hide (sortI_in wr0.heap.size _ Y wr hrow hYb.1 hYb.2)
              have hrr := hL.row
              rw [hL.len, hlen] at hrr
              obtain ⟨gg, gq, eg, hga, hgb, hgc, hgd⟩ := owns_form hrr (by omega)
              have hcu := owns_val (by rw [← eg]; exact hrr) hlt
              have HST : Hid (∀ w' : World, w'.ownsRow wr0.heap.size 3 1 (us5.getD k undef) Y.length ((srt Y).map (Value.int .i64)) → wr.grownBy w' (us5.getD k undef).ownBlock → LL w' wr0.heap.size (.slice p5 al q5) us5 ((A.take (k + 1)).map srt ++ A.drop (k + 1)) ∧ Below wr0.heap.size w5 w') := fun w' ho hg => by
                refine ⟨?_, hbk.grown hg (Nat.le_trans HLE.out hbk.size) (fun x hx => (hrow.lt x hx).1)⟩
                have h9 := hL.sort_at HAP.out (j := k) (X := srt Y) (by rw [hlen]; exact hlt) (by rw [srt_length]; exact ho) hg
                rw [set_srt hY] at h9
                exact h9
              obtain ⟨pu, cu, epu⟩ := owns_slice hrow
              generalize us5.getD k undef = uk at *
              subst epu
              injection eg with eg1 eg2 eg3
              subst eg1
              subst eg3
              generalize Y.length = yl at *
              clear hL hrow hrr hY hgY hlen hYb hbk eg2
              go_wp2_with fail
              refine HSo.out.mono ?_
              rintro ex w6 ⟨rfl, hown6, hg6⟩
              have HS6 := hide (HST.out w6 hown6 hg6)
              clear hown6 hg6 HST HSo
              go_wp2
              go_roundw
              case rel =>
                have hfin : ∃ (k' : Nat), k' ≤ al ∧ Value.int .i64 ((k : Int) + 1) = .int .i64 (k' : Int) ∧ LL w6 wr0.heap.size (.slice (some ⟨gg, 0, none⟩) al q5) us5 ((A.take k').map srt ++ A.drop k') ∧ Below wr0.heap.size w5 w6 := ⟨k + 1, hlt, by go_num, HS6.out.1, HS6.out.2⟩
                first
                  | exact hfin
                  | ((repeat apply Exists.intro); exact ⟨hfin, rfl⟩)
              case measure => simp [intOf]; omega
            · obtain rfl : al = k := by omega
              have HD : Hid (LL wr w.heap.size (.slice p5 al q5) us5 (A.map srt)) := by
                have h9 := hL
                rw [HAL.out, List.take_length, List.drop_length, List.append_nil, ← HAL.out] at h9
                exact h9.low HBr.out.size
              have HBF : Hid (Below w.heap.size w wr) := HB5.out.trans (hbk.mono HBr.out.size)
              clear hL hbk
              go_wp2
              go_ret
              exact ⟨_, _, rfl, HD.out, HBF.out⟩

end Go.Proofs.Ytimfoggjocajiaa

/- Contracts: GensMay, the answer's own; Check where it refuses. -/
namespace Go.Proofs.Ytimfoggjocajiaa
open Go.RowKit

set_option maxRecDepth 20000 in
set_option maxHeartbeats 2000000 in
theorem gensMay_ok (n : Nat) (v : Value) (xss : List (List Int)) (w : World) (h : IntsAll w v xss) (h1 : 1 ≤ n) (h12 : n ≤ 12) (h8 : xss.length ≤ 8) :
    Calls Try.prog 15 #[.int .i64 n, v] w fun e w' => e = .returned (.int .i64 (gchk n xss)) ∧ w = w' := by
  obtain ⟨vs, hv, hl, he⟩ := h
  have hn1 : ¬ ((n : Int) < 1) := by omega
  have hn2 : ¬ ((n : Int) > 12) := by omega
  rcases hv with ⟨rfl, p, c, rfl⟩ | ⟨b, off, cap, rfl, h0, hc, hm, hb, hcell⟩
  · obtain rfl : xss = [] := List.length_eq_zero_iff.1 (by simpa using hl.symm)
    clear he hl
    go_enter Try.func15, Try.ntmps15
    go_wp2
    go_loop [5] (fun i => i = .int .i64 0) (fun _ => 0)
    case atStart => rfl
    case round =>
      subst hrel
      go_wp2
      go_ret
      exact ⟨rfl, rfl⟩
  · have hv8 : (vs.length : Int) ≤ 8 := by omega
    have HL := hide hl
    have HE := hide he
    have HC := hide hcell
    clear hl he hcell
    go_enter Try.func15, Try.ntmps15
    go_wp2
    go_loop [5] (fun i => ∃ k : Nat, k ≤ vs.length ∧ i = .int .i64 k ∧ Hid (gchk n (xss.drop k) = gchk n xss)) (fun i => vs.length - (intOf i).toNat)
    case atStart => exact ⟨0, by omega, rfl, rfl⟩
    case round =>
      obtain ⟨k, hk, rfl, ht⟩ := hrel
      by_cases hlt : k < vs.length
      · have hkx : k < xss.length := by have := HL.out; omega
        obtain ⟨p1, c1, hcx, hix⟩ := elAt HC.out hlt (HE.out k hkx)
        have HS := hide (rowMay_any _ _ w hix.out)
        have HD := hide (gchk_drop (n := n) hkx)
        rw [ht.out] at HD
        generalize xss.getD k [] = X at *
        generalize hlx : X.length = lx at *
        have HLX := hide hlx
        clear hix hlx
        go_wp2_with fail
        refine HS.out.mono ?_
        rintro e w1 ⟨rfl, rfl⟩
        by_cases hz : chk X = 0
        · by_cases hn : lx = n
          · have hr : rchk n X = 0 := by unfold rchk; rw [if_pos hz, if_pos (by rw [HLX.out]; exact hn)]
            have HD' : Hid (gchk n (xss.drop (k + 1)) = gchk n xss) := by have := HD.out; rw [if_pos hr] at this; exact this.symm
            rw [hz]
            subst hn
            clear HD HS hz hr
            go_wp2
            go_round
            case rel => exact ⟨k + 1, by omega, by go_num, HD'⟩
            case measure => simp [intOf]; omega
          · have hr : rchk n X = 1 := by unfold rchk; rw [if_pos hz, if_neg (by rw [HLX.out]; exact hn)]
            have HD' : Hid (gchk n xss = 1) := by have := HD.out; rw [hr, if_neg (by decide)] at this; exact this
            have hnn : ((lx : Int) != (n : Int)) = true := by rw [bne_iff_ne]; omega
            rw [hz]
            clear HD HS hz hr hn
            go_wp2
            go_ret
            exact ⟨ret_int HD'.out.symm, rfl⟩
        · have hr : rchk n X = chk X := by unfold rchk; rw [if_neg hz]
          have HD' : Hid (gchk n xss = chk X) := by have := HD.out; rw [hr, if_neg hz] at this; exact this
          have hne : (chk X != 0) = true := by rw [bne_iff_ne]; exact hz
          clear HD HS hz hr
          generalize chk X = z at *
          go_wp2
          go_ret
          exact ⟨ret_int HD'.out.symm, rfl⟩
      · have HE0 : Hid (gchk n xss = 0) := by show _ = _; rw [← ht.out, List.drop_eq_nil_of_le (by have := HL.out; omega)]; rfl
        go_wp2
        go_ret
        exact ⟨ret_int HE0.out.symm, rfl⟩

set_option maxRecDepth 20000 in
theorem gensMay_bad (n : Int) (v : Value) (xss : List (List Int)) (w : World) (h : IntsAll w v xss) (hb : n < 1 ∨ 12 < n ∨ 8 < xss.length) :
    Calls Try.prog 15 #[.int .i64 n, v] w fun e w' => e = .returned (.int .i64 1) ∧ w = w' := by
  obtain ⟨vs, hv, hl, _⟩ := h
  obtain ⟨p, c, rfl⟩ := hv.form
  clear hv
  by_cases h1 : n < 1
  · go_enter Try.func15, Try.ntmps15
    go_wp2
    go_ret
    exact ⟨rfl, rfl⟩
  · by_cases h2 : n > 12
    · go_enter Try.func15, Try.ntmps15
      go_wp2
      go_ret
      exact ⟨rfl, rfl⟩
    · have h3 : (vs.length : Int) > 8 := by omega
      clear hb hl
      go_enter Try.func15, Try.ntmps15
      go_wp2
      go_ret
      exact ⟨rfl, rfl⟩

set_option maxRecDepth 20000 in
theorem gcheck_bad (n : Int) (v : Value) (xss : List (List Int)) (w : World) (h : IntsAll w v xss) (hb : n < 1 ∨ 12 < n ∨ 8 < xss.length) :
    Calls Try.prog 16 #[.int .i64 n, v] w fun e w' => e = .returned (.int .i64 1) ∧ w = w' := by
  obtain ⟨vs, hv, hl, _⟩ := h
  obtain ⟨p, c, rfl⟩ := hv.form
  clear hv
  by_cases h1 : n < 1
  · go_enter Try.func16, Try.ntmps16
    go_wp2
    go_ret
    exact ⟨rfl, rfl⟩
  · by_cases h2 : n > 12
    · go_enter Try.func16, Try.ntmps16
      go_wp2
      go_ret
      exact ⟨rfl, rfl⟩
    · have h3 : (vs.length : Int) > 8 := by omega
      clear hb hl
      go_enter Try.func16, Try.ntmps16
      go_wp2
      go_ret
      exact ⟨rfl, rfl⟩

end Go.Proofs.Ytimfoggjocajiaa

/- Contracts: GensMay, the answer's own; Check and Make where they refuse. -/
namespace Go.Proofs.Ytimfoggjocajiaa
open Go.RowKit

/-- Make, where Check refuses. -/
theorem make_refuses (n : Int) (v : Value) (c : Int) (w : World) (hc : c ≠ 0) (hk : Calls Try.prog 16 #[.int .i64 n, v] w fun e w' => e = .returned (.int .i64 c) ∧ Below w.heap.size w w') :
    Calls Try.prog 14 #[.int .i64 n, v] w fun e w' => e = .returned (.tuple #[.pointer none, .int .i64 c]) ∧ Below w.heap.size w w' := by
  have HK := hide hk
  have hne : (c != 0) = true := by rw [bne_iff_ne]; exact hc
  clear hk hc
  go_enter Try.func14, Try.ntmps14
  go_wp2_with fail
  refine HK.out.mono ?_
  rintro e w1 ⟨rfl, hb1⟩
  go_wp2
  go_ret2
  exact ⟨rfl, hb1⟩

end Go.Proofs.Ytimfoggjocajiaa

/- Contracts: extent.exits, extent.Qsets. -/
namespace Go.Proofs.Ytimfoggjocajiaa
open Go.RowKit

theorem ints_two {w : World} {m : Nat} {v1 v2 : Value} {xs ys : List Int} (hm : w.heap.size = m) (h1 : Ints w v1 xs) (h2 : Ints w v2 ys) : IntsAll (w.alloc (.cells #[v1, v2] 23)) (.slice (some ⟨m, 0, none⟩) 2 2) [xs, ys] := by
  subst hm
  have hb : Below w.heap.size w (w.alloc (.cells #[v1, v2] 23)) := (Below.refl _ _).alloc (Nat.le_refl _) _
  have hc := cells2_new w v1 v2 23
  refine ⟨[v1, v2], Or.inr ⟨w.heap.size, 0, 2, rfl, by simp, by simp, by omega, by simp, fun j hj => ?_⟩, rfl, fun j hj => ?_⟩
  · match j, hj with
    | 0, _ => exact hc.1
    | 1, _ => exact hc.2
  · match j, hj with
    | 0, _ => exact h1.below hb
    | 1, _ => exact h2.below hb

theorem Try.size129 : (Try.prog.info? 129).map (·.size) = some 2 := by kernel_rfl

theorem two_range {w : World} {b : Nat} {x y : Value} {t : TypeId} (h : w.heap[b]? = some (.cells #[x, y] t)) : w.rangeAt b 0 [x, y] := by
  intro j v hv
  match j, hv with
  | 0, hv => simp at hv; subst hv; simp [World.cell?, h]
  | 1, hv => simp at hv; subst hv; simp [World.cell?, h]

theorem run_load_two {w : World} {b : Nat} {x y : Value} {t : TypeId} (h : w.heap[b]? = some (.cells #[x, y] t)) : (Instr.loadAt 129 (.pointer (some ⟨b, 0, none⟩))).run Try.prog w = .ok (.agg #[x, y]) w :=
  run_loadAt_mid w b 0 _ [x, y] _ (two_range h) Try.underlying129 rfl (by rw [Try.size129]; rfl)

theorem wpList_load_two {ops : Array Oper} {rest : List Oper} {op : Oper} {a : Act} {w : World} {Q : Exit → Act → World → Prop} (hgd : op.guard = none) (x : Operand) (ho : op.op = .load 129 x)
    (b : Nat) (u v : Value) (t : TypeId) (hA : w.heap[b]? = some (.cells #[u, v] t)) (hx : a.eval x = .pointer (some ⟨b, 0, none⟩))
    (h : wpList Try.prog ops Q rest (a.put op.dst (.agg #[u, v])) w) : wpList Try.prog ops Q (op :: rest) a w :=
  wpList_load_mid hgd _ x ho b 0 hx [u, v] _ (two_range hA) Try.underlying129 rfl (by rw [Try.size129]; rfl) h

theorem wpList_store_two {ops : Array Oper} {rest : List Oper} {op : Oper} {a : Act} {w : World} {Q : Exit → Act → World → Prop} (hgd : op.guard = none) (x y : Operand) (ho : op.op = .store 129 x y)
    (b : Nat) (x0 y0 u v : Value) (t : TypeId) (hA : w.heap[b]? = some (.cells #[x0, y0] t)) (hx : a.eval x = .pointer (some ⟨b, 0, none⟩)) (hy : a.eval y = .agg #[u, v]) (hu : u.oneCell' = true) (hv : v.oneCell' = true)
    (h : ∀ w', w'.heap[b]? = some (.cells #[u, v] t) → w.grownBy w' (some b) → wpList Try.prog ops Q rest (a.put op.dst undef) w') : wpList Try.prog ops Q (op :: rest) a w := by
  refine wpList_plain hgd fun K hK => ?_
  have hrun : (Instr.storeAt 129 (.pointer (some ⟨b, 0, none⟩)) (.agg #[u, v])).run Try.prog w = .ok () (w.setRow b #[u, v]) := by
    simp only [Instr.storeAt, Instr.sureAddr, Sem.run_bind, Sem.run_pure, Result.andThen]
    exact run_storeVar_row w b _ _ _ _ hA (by rw [Try.size129]; rfl) rfl (by simp [hu, hv])
  unfold Oper.wp execOp
  simp only [ho, hx, hy, hrun, Sem.run_bind, Sem.run_pure, Result.andThen_ok]
  refine hK _ _ (h _ ?_ ⟨rfl, rfl, rfl, by simp [World.setRow], fun i hi hne => ?_⟩)
  · simp [World.setRow, Array.getElem?_modify, hA]
  · simp only [World.setRow, Array.getElem?_modify]
    rw [if_neg (fun e => hne (by rw [e]))]

theorem ret_two_tmp {fn : Func} {R : Ending → World → Prop} {a : Act} {w : World} {p u : Tmp} {b : Nat} {x y t : Value} {ty : TypeId} (h : fn.results = #[.cell p 129, .tmp u]) (hp : a.tmps.getD p undef = .pointer (some ⟨b, 0, none⟩)) (hu : a.tmps.getD u undef = t) (hg : w.heap[b]? = some (.cells #[x, y] ty)) (hd : a.defers = []) (hR : R (.returned (.tuple #[.agg #[x, y], t])) w) : bodyPost Try.prog fn R .ret a w := by
  refine bodyPost_ret (v := .tuple #[.agg #[x, y], t]) ?_ hd hR
  have hp' : a.tmps[p]?.getD undef = .pointer (some ⟨b, 0, none⟩) := by simpa using hp
  have hu' : a.tmps[u]?.getD undef = t := by simpa using hu
  rw [results_cell_tmp h]
  simp [hp', hu', asAddr, Result.andThen, run_loadVar_mid w b 0 129 [x, y] _ (two_range hg) Try.underlying129 rfl (by rw [Try.size129]; rfl)]

/-- The group of two rows. -/
abbrev G2 (xs ys : List Int) : Pm → Prop := Gen (fun z => z ∈ [xs, ys].map pad)

/-- A list of numbers stays where a block of slices is written. -/
theorem ints_kept {w w' : World} {v : Value} {zs : List Int} {b : Nat} {x y : Value} (h : Ints w v zs) (hg : w.grownBy w' (some b)) (hb : w.heap[b]? = some (.cells #[x, y] 129)) (hx : ∀ i z, x ≠ .int i z) (hy : ∀ i z, y ≠ .int i z) : Ints w' v zs := by
  rcases h with h | ⟨g, off, cap, h1, h2, h3, h4, h5, h6⟩
  · exact Or.inl h
  · refine Or.inr ⟨g, off, cap, h1, h2, h3, h4, Nat.lt_of_lt_of_le h5 hg.size, fun j hj => ?_⟩
    have hne : g ≠ b := fun e => by
      subst e
      have h9 := h6 0 h2
      simp only [World.cell?, hb] at h9
      match off, h9 with
      | 0, h9 => simp at h9; exact hx _ _ h9
      | 1, h9 => simp at h9; exact hy _ _ h9
      | k + 2, h9 => simp at h9
    rw [World.cell?_of_block (w := w) (a := ⟨g, off + j, none⟩) (hg.block g h5 (fun e => hne (Option.some.inj e)))]
    exact h6 j hj

theorem ToAt.kept {w w' : World} {v0 v1 : Value} {X : List Pm} {a b : Pm} {d : Nat} (h : ToAt w v0 v1 X a b) (hg : w.grownBy w' (some d)) (hb : w.heap[d]? = some (.cells #[.slice none 0 0, .slice none 0 0] 129)) : ToAt w' v0 v1 X a b :=
  ⟨ints_kept h.x hg hb (fun _ _ e => by cases e) (fun _ _ e => by cases e), ints_kept h.y hg hb (fun _ _ e => by cases e) (fun _ _ e => by cases e)⟩

def ExitsPost (n : Nat) (xs ys : List Int) (w : World) (e : Ending) (w' : World) : Prop :=
  ∃ (v0 v1 : Value) (X : List Pm), e = .returned (.tuple #[.agg #[v0, v1], .int .i64 0]) ∧ Rws n (G2 xs ys) X ∧ ToAt w' v0 v1 X (pad xs) (pad ys) ∧ Below w.heap.size w w'

theorem g2_left (xs ys : List Int) : G2 xs ys (pad xs) := Gen.of (by simp)
theorem g2_right (xs ys : List Int) : G2 xs ys (pad ys) := Gen.of (by simp)

set_option maxRecDepth 20000 in
set_option maxHeartbeats 4000000 in
theorem exits_ok (n : Nat) (v1 v2 : Value) (xs ys : List Int) (w : World) (h1 : Ints w v1 xs) (h2 : Ints w v2 ys) (hn1 : 1 ≤ n) (h12 : n ≤ 12) (hl : xs.length = n) (hR : RowsN n [xs, ys]) (hs : sz (G2 xs ys) n ≤ 1000) :
    Calls Try.prog 94 #[v1, v2] w fun e w' => ExitsPost n xs ys w e w' := by
  have HMk : Hid (∀ (W : World) (v : Value), IntsAll W v [xs, ys] → Calls Try.prog 14 #[.int .i64 n, v] W fun e w' => ∃ u, e = .returned (.tuple #[u, .int .i64 0]) ∧ GroupAt w' u n ([xs, ys].map pad) ∧ Below W.heap.size W w') := fun W v hv => make_ok n v [xs, ys] W hv hn1 h12 (by simp) hR
  have H1 := hide h1
  have H2 := hide h2
  have HR := hide hR
  have HS := hide hs
  obtain ⟨p1, c1, e1⟩ := h1.form
  obtain ⟨p2, c2, e2⟩ := h2.form
  rw [hl] at e1
  rw [(hR ys (by simp)).2] at e2
  subst e1
  subst e2
  have hl2 := (hR ys (by simp)).2
  have hr1 := (hR xs (by simp)).1
  have hr2 := (hR ys (by simp)).1
  have HC1 : Hid (cut n (pad xs) = xs) := cut_pad h12 hl hr1
  have HC2 : Hid (cut n (pad ys) = ys) := cut_pad h12 hl2 hr2
  have HGF : Hid (∀ x, G2 xs ys x → Fixes (fun b => n ≤ b) x) := fun x hx => gens_fix h12 hR hx
  clear h1 h2 hR hl hs hl2 hr1 hr2
  have hal : Below w.heap.size w (w.alloc (.cells #[.slice none 0 0, .slice none 0 0] 129)) := (Below.refl _ _).alloc (Nat.le_refl _) _
  have HI2 := hide (ints_two (w := w.alloc (.cells #[.slice none 0 0, .slice none 0 0] 129)) (m := w.heap.size + 1) (by simp) (H1.out.below hal) (H2.out.below hal))
  have hbW : Below w.heap.size w ((w.alloc (.cells #[.slice none 0 0, .slice none 0 0] 129)).alloc (.cells #[.slice p1 n c1, .slice p2 n c2] 23)) := hal.alloc (by simp) _
  have hbW2 : Below (w.heap.size + 1) (w.alloc (.cells #[.slice none 0 0, .slice none 0 0] 129)) ((w.alloc (.cells #[.slice none 0 0, .slice none 0 0] 129)).alloc (.cells #[.slice p1 n c1, .slice p2 n c2] 23)) := (Below.refl _ _).alloc (by simp) _
  have HBW := hide hbW
  have HBW2 := hide hbW2
  clear hal hbW hbW2
  go_enter Try.func94, Try.ntmps94
  go_wp2_with fail
  refine (HMk.out _ _ HI2.out).mono ?_
  rintro ex w3 ⟨u3, rfl, hG3, hb3⟩
  have HG3 := hide hG3
  obtain ⟨gb3, _, _, _, _, _, _, rfl, _⟩ := hG3
  have hB3 := HBW.out.trans (hb3.mono HBW.out.size)
  have HB3 : Hid (Below (w.heap.size + 1) (w.alloc (.cells #[.slice none 0 0, .slice none 0 0] 129)) w3) := HBW2.out.trans (hb3.mono (by simp))
  have HEl := hide (elements_ok n _ ([xs, ys].map pad) w3 h12 HG3.out)
  clear hb3 HMk HI2 HBW HBW2
  go_wp2_with fail
  refine HEl.out.mono ?_
  rintro ex w4 hE
  unfold ElPost at hE
  rw [if_neg (show ¬ 5040 < sz (G2 xs ys) n by have := HS.out; omega)] at hE
  obtain ⟨hb4, ve, vse, X, rfl, hXl, hXn, hXm, hXs, hLL⟩ := hE
  have hB4 := hB3.trans (hb4.mono hB3.size)
  have hRw : Rws n (G2 xs ys) X := ⟨hn1, h12, Gen.sub _, HGF.out, hXn, hXm, hXs, by rw [hXl]; exact HS.out⟩
  have HRw := hide hRw
  have HI1 := hide (led_any n (G2 xs ys) X (pad xs) ve (.slice p1 n c1) w4 hRw (g2_left xs ys) hLL.ints (by rw [HC1.out]; exact H1.out.below hB4))
  have HII := hide hLL.ints
  obtain ⟨pe, qe, epe⟩ := hLL.ints.len
  rw [List.length_map] at epe
  subst epe
  have HB4 : Hid (Below (w.heap.size + 1) (w.alloc (.cells #[.slice none 0 0, .slice none 0 0] 129)) w4) := HB3.out.trans (hb4.mono (Nat.le_trans (by simp) HB3.out.size))
  clear hb4 hB3 hXl hXn hXm hXs hLL hRw HEl HB3
  go_wp2_with fail
  refine HI1.out.mono ?_
  rintro ex w5 ⟨u5, rfl, hown5, hb5⟩
  have hB5 := hB4.trans (hb5.mono hB4.size)
  have HB5 : Hid (Below (w.heap.size + 1) (w.alloc (.cells #[.slice none 0 0, .slice none 0 0] 129)) w5) := HB4.out.trans (hb5.mono (Nat.le_trans (by simp) HB4.out.size))
  have HO5 := hide hown5
  have HI3 := hide (led_any n (G2 xs ys) X (pad ys) (.slice pe X.length qe) (.slice p2 n c2) w5 HRw.out (g2_right xs ys) (HII.out.below hb5) (by rw [HC2.out]; exact H2.out.below hB5))
  obtain ⟨p5, c5, e5⟩ := owns_slice hown5
  subst e5
  clear hb5 hB4 hown5 HI1 HB4
  go_wp2_with fail
  refine HI3.out.mono ?_
  rintro ex w6 ⟨u6, rfl, hown6, hb6⟩
  have hB6 := hB5.trans (hb6.mono hB5.size)
  have HB6 : Hid (Below (w.heap.size + 1) (w.alloc (.cells #[.slice none 0 0, .slice none 0 0] 129)) w6) := HB5.out.trans (hb6.mono (Nat.le_trans (by simp) HB5.out.size))
  have HT6 : Hid (ToAt w6 (.slice p5 X.length c5) u6 X (pad xs) (pad ys)) := ⟨(Ints.own HO5.out).below hb6, Ints.own hown6⟩
  obtain ⟨p6, c6, e6⟩ := owns_slice hown6
  subst e6
  have hblk : w6.heap[w.heap.size]? = some (.cells #[.slice none 0 0, .slice none 0 0] 129) := (HB6.out.block w.heap.size (by omega)).trans (heap_alloc_last w _)
  have HB6' := hide hB6
  clear hb6 hown6 hB5 HB5 HI3 HO5 hB6
  go_wp2_with (refine wpList_store_two rfl _ _ rfl w.heap.size _ _ (.slice p5 X.length c5) (.slice p6 X.length c6) _ hblk rfl rfl rfl rfl ?_)
  intro w7 hblk7 hg7
  have hb7 : Below w.heap.size w6 w7 := (Below.refl _ _).grown hg7 (by have := HB6'.out.size; omega) (fun k hk => by have := Option.some.inj hk; omega)
  have HT7 : Hid (ToAt w7 (.slice p5 X.length c5) (.slice p6 X.length c6) X (pad xs) (pad ys)) := HT6.out.kept hg7 hblk
  have HBK := hide hblk7
  have HBF := hide (HB6'.out.trans hb7)
  clear hg7 hblk hb7 hblk7 HT6 HB6
  go_wp2
  exact ret_two_tmp (p := 4) (u := 5) rfl rfl rfl HBK.out rfl ⟨_, _, X, rfl, HRw.out, HT7.out, HBF.out⟩

end Go.Proofs.Ytimfoggjocajiaa

/- Contract: extent.Qsets where it tells sets. -/
namespace Go.Proofs.Ytimfoggjocajiaa
open Go.RowKit

/-- The sets of two rows' group. -/
noncomputable def qs (X : List Pm) (a b : Pm) : List (List Int) := (cycsTo (mv X (a * b⁻¹)) X.length).map srt

def QPost (n : Nat) (xs ys : List Int) (w : World) (e : Ending) (w' : World) : Prop :=
  ∃ (u : Value) (us : List Value) (X : List Pm), e = .returned (.tuple #[u, .int .i64 0]) ∧ Rws n (G2 xs ys) X ∧ LL w' w.heap.size u us (qs X (pad xs) (pad ys)) ∧ Below w.heap.size w w'

set_option maxRecDepth 20000 in
set_option maxHeartbeats 4000000 in
theorem qsets_ok (n : Nat) (v1 v2 : Value) (xs ys : List Int) (w : World) (h1 : Ints w v1 xs) (h2 : Ints w v2 ys) (hn1 : 1 ≤ n) (h12 : n ≤ 12) (hl : xs.length = n) (hR : RowsN n [xs, ys]) (hs : sz (G2 xs ys) n ≤ 1000) :
    Calls Try.prog 48 #[v1, v2] w fun e w' => QPost n xs ys w e w' := by
  have HEx := hide (exits_ok n v1 v2 xs ys w h1 h2 hn1 h12 hl hR hs)
  clear h1 h2 hl hR hs
  go_enter Try.func48, Try.ntmps48
  go_wp2_with fail
  refine HEx.out.mono ?_
  rintro ex w1 ⟨v3, v4, X, rfl, hRw, hT, hb1⟩
  obtain ⟨p3, c3, e3⟩ := hT.x.form
  obtain ⟨p4, c4, e4⟩ := hT.y.form
  subst e3
  subst e4
  have hb2 : Below w1.heap.size w1 (w1.alloc (.cells #[.slice none 0 0, .slice none 0 0] 129)) := (Below.refl _ _).alloc (Nat.le_refl _) _
  have HT2 : Hid (ToAt (w1.alloc (.cells #[.slice none 0 0, .slice none 0 0] 129)) _ _ X (pad xs) (pad ys)) := ⟨hT.x.below hb2, hT.y.below hb2⟩
  have HRw := hide hRw
  have HB1 := hide hb1
  have hblk := heap_alloc_last w1 (.cells #[.slice none 0 0, .slice none 0 0] 129)
  generalize (mv X (pad xs)).length = l3 at *
  generalize (mv X (pad ys)).length = l4 at *
  clear hT hb2 hRw hb1 HEx
  go_wp2_with (refine wpList_store_two rfl _ _ rfl w1.heap.size _ _ (.slice p3 l3 c3) (.slice p4 l4 c4) _ hblk rfl rfl rfl rfl ?_)
  intro w2 hblk2 hg2
  have hb2 : Below w1.heap.size w1 w2 := ((Below.refl _ _).alloc (Nat.le_refl _) _).grown hg2 (by simp) (fun k hk => by have := Option.some.inj hk; omega)
  have HSt := hide (setsOf_ok n (G2 xs ys) X (pad xs) (pad ys) _ _ w2 HRw.out (g2_left xs ys) (g2_right xs ys) (HT2.out.kept hg2 hblk))
  have HB2 := hide (HB1.out.trans (hb2.mono HB1.out.size))
  clear hg2 hblk hb2 HT2 HB1
  go_wp2_with (refine wpList_load_two rfl _ rfl w1.heap.size _ _ _ hblk2 rfl ?_)
  go_wp2_with fail
  refine HSt.out.mono ?_
  rintro ex w3 ⟨u3, us3, rfl, hL3, hb3⟩
  have HL3 : Hid (LL w3 w.heap.size u3 us3 (qs X (pad xs) (pad ys))) := hL3.low HB2.out.size
  have HB3 := hide (HB2.out.trans (hb3.mono HB2.out.size))
  clear hL3 hb3 HSt
  go_wp2
  go_ret2
  exact ⟨_, _, X, rfl, HRw.out, HL3.out, HB3.out⟩

/-- Qsets, where it refuses. -/
def QNo (c : Int) (w : World) (e : Ending) (w' : World) : Prop := e = .returned (.tuple #[.slice none 0 0, .int .i64 c]) ∧ Below w.heap.size w w'

/-- exits, where it refuses. -/
def ExNo (c : Int) (w : World) (e : Ending) (w' : World) : Prop := e = .returned (.tuple #[.agg #[.slice none 0 0, .slice none 0 0], .int .i64 c]) ∧ Below w.heap.size w w'

set_option maxRecDepth 20000 in
set_option maxHeartbeats 4000000 in
theorem exits_no (v1 v2 : Value) (xs ys : List Int) (c : Int) (w : World) (h1 : Ints w v1 xs) (h2 : Ints w v2 ys) (hc : c ≠ 0) (hk : ∀ W v, IntsAll W v [xs, ys] → Calls Try.prog 16 #[.int .i64 ((xs.length : Nat) : Int), v] W fun e w' => e = .returned (.int .i64 c) ∧ Below W.heap.size W w') :
    Calls Try.prog 94 #[v1, v2] w fun e w' => ExNo c w e w' := by
  have HMk : Hid (∀ W v, IntsAll W v [xs, ys] → Calls Try.prog 14 #[.int .i64 ((xs.length : Nat) : Int), v] W fun e w' => e = .returned (.tuple #[.pointer none, .int .i64 c]) ∧ Below W.heap.size W w') := fun W v hv => make_refuses _ v c W hc (hk W v hv)
  have hne : (c != 0) = true := by rw [bne_iff_ne]; exact hc
  have H1 := hide h1
  have H2 := hide h2
  obtain ⟨p1, c1, rfl⟩ := h1.form
  obtain ⟨p2, c2, rfl⟩ := h2.form
  have hal : Below w.heap.size w (w.alloc (.cells #[.slice none 0 0, .slice none 0 0] 129)) := (Below.refl _ _).alloc (Nat.le_refl _) _
  have HI2 := hide (ints_two (w := w.alloc (.cells #[.slice none 0 0, .slice none 0 0] 129)) (m := w.heap.size + 1) (by simp) (H1.out.below hal) (H2.out.below hal))
  generalize xs.length = l1 at *
  generalize ys.length = l2 at *
  have hbW : Below w.heap.size w ((w.alloc (.cells #[.slice none 0 0, .slice none 0 0] 129)).alloc (.cells #[.slice p1 l1 c1, .slice p2 l2 c2] 23)) := hal.alloc (by simp) _
  have HBW2 : Hid (Below (w.heap.size + 1) (w.alloc (.cells #[.slice none 0 0, .slice none 0 0] 129)) ((w.alloc (.cells #[.slice none 0 0, .slice none 0 0] 129)).alloc (.cells #[.slice p1 l1 c1, .slice p2 l2 c2] 23))) := (Below.refl _ _).alloc (by simp) _
  have HBW := hide hbW
  clear h1 h2 hk hc hal hbW
  go_enter Try.func94, Try.ntmps94
  go_wp2_with fail
  refine (HMk.out _ _ HI2.out).mono ?_
  rintro ex w3 ⟨rfl, hb3⟩
  have HB3 := hide (HBW.out.trans (hb3.mono HBW.out.size))
  have hb39 := HBW2.out.trans (hb3.mono (by simp))
  have hblk : w3.heap[w.heap.size]? = some (.cells #[.slice none 0 0, .slice none 0 0] 129) := (hb39.block w.heap.size (by omega)).trans (heap_alloc_last w _)
  clear hb3 HMk HI2 HBW HBW2 hb39
  go_wp2_with (first | refine wpList_load_two rfl _ rfl w.heap.size _ _ _ hblk rfl ?_ | refine wpList_store_two rfl _ _ rfl w.heap.size _ _ (.slice none 0 0) (.slice none 0 0) _ hblk rfl rfl rfl rfl ?_)
  go_wp2_with (first | refine wpList_load_two rfl _ rfl w.heap.size _ _ _ hblk rfl ?_ | refine wpList_store_two rfl _ _ rfl w.heap.size _ _ (.slice none 0 0) (.slice none 0 0) _ hblk rfl rfl rfl rfl ?_)
  intro w7 hblk7 hg7
  have HB7 : Hid (Below w.heap.size w w7) := HB3.out.grown hg7 HB3.out.size (fun k hk => by have := Option.some.inj hk; omega)
  clear hg7 hblk
  go_wp2
  exact ret_two_tmp (p := 4) (u := 5) rfl rfl rfl hblk7 rfl ⟨rfl, HB7.out⟩

end Go.Proofs.Ytimfoggjocajiaa

/- Plain: sets that must be left alike; where one is led if each is left by x or by y. -/
namespace Go.Proofs.Ytimfoggjocajiaa

theorem cyc_nodup {r : List Int} (hr : isRow r) : ∀ k, k ≤ r.length → (cycsTo r k).flatten.Nodup
  | 0, _ => by simp [cycsTo]
  | k + 1, hk => by
    have ih := cyc_nodup hr k (by omega)
    rw [cycsTo_succ]
    split
    · exact ih
    · rename_i hn
      rw [List.flatten_append, List.nodup_append]
      refine ⟨ih, ?_, fun x hx y hy e => ?_⟩
      · rw [show [orb r k (per r k)].flatten = orb r k (per r k) from by simp]
        unfold orb
        rw [List.Nodup, List.pairwise_map]
        refine List.Pairwise.imp_of_mem (fun {i j} hi hj h e => h ?_) List.nodup_range
        exact orb_inj hr (by omega) (List.mem_range.1 hi) (List.mem_range.1 hj) (by omega)
      · rw [show [orb r k (per r k)].flatten = orb r k (per r k) from by simp] at hy
        obtain ⟨i, hi, e'⟩ := mem_orb.1 hy
        subst e
        rw [e'] at hx
        exact it_notin hr (by omega) hn i hx

theorem orb_next {r : List Int} (hr : isRow r) {k i : Nat} (hk : k < r.length) (h : (i : Int) ∈ orb r k (per r k)) : ((nx r i : Nat) : Int) ∈ orb r k (per r k) := by
  obtain ⟨j, hj, e⟩ := mem_orb.1 h
  have e' : i = it r j k := by omega
  subst e'
  obtain ⟨p1, _, p3, _⟩ := per_spec hr hk
  rcases Nat.lt_or_ge (j + 1) (per r k) with h1 | h1
  · exact mem_orb.2 ⟨j + 1, h1, rfl⟩
  · have e2 : j + 1 = per r k := by omega
    refine mem_orb.2 ⟨0, by omega, ?_⟩
    show ((it r (j + 1) k : Nat) : Int) = _
    rw [e2, p3]
    rfl

theorem mem_srt {zs : List Int} {x : Int} : x ∈ srt zs ↔ x ∈ zs := (List.mergeSort_perm zs _).mem_iff

/-- Numbers below N, each in one list of some, and with each what it leads to. -/
structure Sts (N : Nat) (σ : Nat → Nat) (A : List (List Int)) : Prop where
  all : ∀ r : Nat, r < N → ∃ (i : Nat) (S : List Int), A[i]? = some S ∧ (r : Int) ∈ S
  below : ∀ (i : Nat) (S : List Int) (x : Int), A[i]? = some S → x ∈ S → ∃ r : Nat, r < N ∧ x = (r : Int)
  one : ∀ (i j : Nat) (S T : List Int) (x : Int), A[i]? = some S → A[j]? = some T → x ∈ S → x ∈ T → i = j
  next : ∀ (i : Nat) (S : List Int) (r : Nat), A[i]? = some S → (r : Int) ∈ S → ((σ r : Nat) : Int) ∈ S

theorem flat_one {l : List (List Int)} (h : l.flatten.Nodup) {i j : Nat} {S T : List Int} {x : Int} (hi : l[i]? = some S) (hj : l[j]? = some T) (h1 : x ∈ S) (h2 : x ∈ T) : i = j := by
  induction l generalizing i j with
  | nil => simp at hi
  | cons a l ih =>
    rw [List.flatten_cons, List.nodup_append] at h
    cases i with
    | zero =>
      cases j with
      | zero => rfl
      | succ j =>
        simp at hi hj
        subst hi
        exact absurd rfl (h.2.2 x h1 x (List.mem_flatten.2 ⟨T, List.mem_of_getElem? hj, h2⟩))
    | succ i =>
      cases j with
      | zero =>
        simp at hi hj
        subst hj
        exact absurd rfl (h.2.2 x h2 x (List.mem_flatten.2 ⟨S, List.mem_of_getElem? hi, h1⟩))
      | succ j =>
        simp at hi hj
        rw [ih h.2.1 hi hj]

theorem sts_of {r : List Int} (hr : isRow r) : Sts r.length (nx r) ((cycsTo r r.length).map srt) := by
  have get : ∀ {i : Nat} {S : List Int}, ((cycsTo r r.length).map srt)[i]? = some S → ∃ C, (cycsTo r r.length)[i]? = some C ∧ S = srt C := fun {i S} h => by
    rw [List.getElem?_map] at h
    obtain ⟨C, h1, h2⟩ := Option.map_eq_some_iff.1 h
    exact ⟨C, h1, h2.symm⟩
  refine ⟨fun x hx => ?_, fun i S x hi hx => ?_, fun i j S T x hi hj h1 h2 => ?_, fun i S x hi hx => ?_⟩
  · have h9 := flat_all hr r.length (Nat.le_refl _) x hx
    obtain ⟨C, hC, hxC⟩ := List.mem_flatten.1 h9
    obtain ⟨i, hi, e⟩ := List.getElem_of_mem hC
    exact ⟨i, srt C, by rw [List.getElem?_map, List.getElem?_eq_getElem hi, e]; rfl, mem_srt.2 hxC⟩
  · obtain ⟨C, h1, rfl⟩ := get hi
    obtain ⟨y, hy, rfl⟩ := cyc_form (List.mem_of_getElem? h1)
    obtain ⟨j, hj, e⟩ := mem_orb.1 (mem_srt.1 hx)
    exact ⟨it r j y, it_lt hr hy j, e⟩
  · obtain ⟨C, k1, rfl⟩ := get hi
    obtain ⟨D, k2, rfl⟩ := get hj
    exact flat_one (cyc_nodup hr _ (Nat.le_refl _)) k1 k2 (mem_srt.1 h1) (mem_srt.1 h2)
  · obtain ⟨C, h1, rfl⟩ := get hi
    obtain ⟨y, hy, rfl⟩ := cyc_form (List.mem_of_getElem? h1)
    exact mem_srt.2 (orb_next hr hy (mem_srt.1 hx))

/-- Which set a number is of. -/
def sof (A : List (List Int)) (r : Nat) : Nat := A.findIdx (fun S => decide ((r : Int) ∈ S))

theorem Sts.sof {N : Nat} {σ : Nat → Nat} {A : List (List Int)} (h : Sts N σ A) {i r : Nat} {S : List Int} (hi : A[i]? = some S) (hr : (r : Int) ∈ S) : sof A r = i := by
  have hlt : Go.Proofs.Ytimfoggjocajiaa.sof A r < A.length := List.findIdx_lt_length.2 ⟨S, List.mem_of_getElem? hi, decide_eq_true hr⟩
  have h9 := List.findIdx_getElem (p := fun S : List Int => decide ((r : Int) ∈ S)) (w := hlt)
  exact h.one _ _ _ _ _ (List.getElem?_eq_getElem hlt) hi (of_decide_eq_true h9) hr

theorem Sts.next_sof {N : Nat} {σ : Nat → Nat} {A : List (List Int)} (h : Sts N σ A) {r : Nat} (hr : r < N) : Go.Proofs.Ytimfoggjocajiaa.sof A (σ r) = Go.Proofs.Ytimfoggjocajiaa.sof A r := by
  obtain ⟨i, S, hi, hS⟩ := h.all r hr
  rw [h.sof hi hS, h.sof hi (h.next i S r hi hS)]

/-- What is chosen for a number's set. -/
def chc (A : List (List Int)) (cs : List Int) (r : Nat) : Int := cs.getD (sof A r) 0

/-- Where one is led. -/
noncomputable def nxL (X : List Pm) (a b : Pm) (A : List (List Int)) (cs : List Int) : List Int := (List.range X.length).map (fun r => (if chc A cs r = 1 then mv X b else mv X a).getD r 0)

theorem nxL_length (X : List Pm) (a b : Pm) (A : List (List Int)) (cs : List Int) : (nxL X a b A cs).length = X.length := by unfold nxL; rw [List.length_map, List.length_range]

theorem nxL_get {X : List Pm} {a b : Pm} {A : List (List Int)} {cs : List Int} {r : Nat} {p : Pm} (hr : X[r]? = some p) : (nxL X a b A cs).getD r 0 = ((ix X (p * if chc A cs r = 1 then b else a) : Nat) : Int) := by
  have hl := (List.getElem?_eq_some_iff.1 hr).1
  unfold nxL
  rw [List.getD, List.getElem?_map, List.getElem?_range hl]
  show (if chc A cs r = 1 then mv X b else mv X a).getD r 0 = _
  split
  · rw [List.getD, mv_get hr]; rfl
  · rw [List.getD, mv_get hr]; rfl

theorem nxL_nx {X : List Pm} {a b : Pm} {A : List (List Int)} {cs : List Int} {r : Nat} {p : Pm} (hr : X[r]? = some p) : nx (nxL X a b A cs) r = ix X (p * if chc A cs r = 1 then b else a) := by
  unfold nx
  rw [nxL_get hr]
  exact Int.toNat_natCast _

/-- Sets of the rows of a group. -/
theorem qs_sts {n : Nat} {G : Pm → Prop} {X : List Pm} (hR : Rws n G X) {a b : Pm} (ha : G a) (hb : G b) : Sts X.length (nx (mv X (a * b⁻¹))) (qs X a b) := by
  have h9 := sts_of (mv_row hR.nodup (hR.cls (hR.sub.mul ha (hR.sub.inv hb))))
  rw [mv_length] at h9
  exact h9

theorem nxL_row {n : Nat} {G : Pm → Prop} {X : List Pm} (hR : Rws n G X) {a b : Pm} (ha : G a) (hb : G b) (cs : List Int) : isRow (nxL X a b (qs X a b) cs) := by
  have hS := qs_sts hR ha hb
  have hin : ∀ (r : Nat) (p : Pm), X[r]? = some p → (p * if chc (qs X a b) cs r = 1 then b else a) ∈ X := fun r p hp => by
    refine hR.cls ?_ p (List.mem_of_getElem? hp)
    split
    · exact hb
    · exact ha
  refine ⟨fun y hy => ?_, ?_⟩
  · obtain ⟨r, hr, e⟩ := List.getElem_of_mem hy
    rw [nxL_length] at hr ⊢
    have hp : X[r]? = some X[r] := List.getElem?_eq_getElem hr
    have h9 := nxL_get (a := a) (b := b) (A := qs X a b) (cs := cs) hp
    rw [List.getD, List.getElem?_eq_getElem (by rw [nxL_length]; exact hr), e] at h9
    have h8 : y = _ := h9
    rw [h8]
    exact ⟨by omega, by have := ix_lt (hin r _ hp); omega⟩
  · rw [List.Nodup, List.pairwise_iff_getElem]
    intro i j hi hj hij e
    have hi' : i < X.length := by rw [nxL_length] at hi; exact hi
    have hj' : j < X.length := by rw [nxL_length] at hj; exact hj
    have hpi : X[i]? = some X[i] := List.getElem?_eq_getElem hi'
    have hpj : X[j]? = some X[j] := List.getElem?_eq_getElem hj'
    have k1 := nxL_get (a := a) (b := b) (A := qs X a b) (cs := cs) hpi
    have k2 := nxL_get (a := a) (b := b) (A := qs X a b) (cs := cs) hpj
    rw [List.getD, List.getElem?_eq_getElem hi] at k1
    rw [List.getD, List.getElem?_eq_getElem hj] at k2
    have k1' : (nxL X a b (qs X a b) cs)[i] = _ := k1
    have k2' : (nxL X a b (qs X a b) cs)[j] = _ := k2
    rw [k1', k2'] at e
    have e2 : X[i] * (if chc (qs X a b) cs i = 1 then b else a) = X[j] * (if chc (qs X a b) cs j = 1 then b else a) := by
      have h1 := ix_get (hin i _ hpi)
      rw [show ix X (X[i] * if chc (qs X a b) cs i = 1 then b else a) = ix X (X[j] * if chc (qs X a b) cs j = 1 then b else a) by omega, ix_get (hin j _ hpj)] at h1
      exact (Option.some.inj h1).symm
    have canc : ∀ {x y c : Pm}, x * c = y * c → x = y := fun {x y c} h => by
      have := congrArg (fun z => z * c⁻¹) h
      simpa only [Pm.mul_assoc, Pm.mul_inv, Pm.mul_one] using this
    have same : ∀ {i j : Nat} {p q : Pm}, X[i]? = some p → X[j]? = some q → p * a = q * b → chc (qs X a b) cs i = chc (qs X a b) cs j := fun {i j p q} hp hq h => by
      have e3 : q = p * (a * b⁻¹) := by rw [← Pm.mul_assoc, h, Pm.mul_assoc, Pm.mul_inv, Pm.mul_one]
      have e4 : nx (mv X (a * b⁻¹)) i = j := by rw [mv_nx hp, ← e3]; exact ix_of hR.nodup hq
      have e5 := hS.next_sof (r := i) (List.getElem?_eq_some_iff.1 hp).1
      unfold chc
      rw [← e5, e4]
    have hne : i = j := by
      by_cases c1 : chc (qs X a b) cs i = 1
      · by_cases c2 : chc (qs X a b) cs j = 1
        · rw [if_pos c1, if_pos c2] at e2
          exact get_inj hR.nodup hpi (by rw [canc e2]; exact hpj)
        · rw [if_pos c1, if_neg c2] at e2
          have := same hpj hpi e2.symm
          rw [this] at c2
          exact absurd c1 c2
      · by_cases c2 : chc (qs X a b) cs j = 1
        · rw [if_neg c1, if_pos c2] at e2
          have := same hpi hpj e2
          rw [this] at c1
          exact absurd c2 c1
        · rw [if_neg c1, if_neg c2] at e2
          exact get_inj hR.nodup hpi (by rw [canc e2]; exact hpj)
    omega

end Go.Proofs.Ytimfoggjocajiaa

/- Contract: extent.Rounds where x and y are rows of a group that is small enough. -/
namespace Go.Proofs.Ytimfoggjocajiaa
open Go.RowKit

noncomputable def rdE (A : List (List Int)) (cs : List Int) : Int := open Classical in if cs.length ≠ A.length then 1 else if ∃ c, c ∈ cs ∧ c ≠ 0 ∧ c ≠ 1 then 12 else 0

noncomputable def rdN (X : List Pm) (a b : Pm) (cs : List Int) : Nat := if rdE (qs X a b) cs = 0 then (cycsTo (nxL X a b (qs X a b) cs) X.length).length else 0

def RoundsPost (n : Nat) (xs ys cs : List Int) (w : World) (e : Ending) (w' : World) : Prop :=
  ∃ X, Rws n (G2 xs ys) X ∧ e = .returned (.tuple #[.int .i64 ((rdN X (pad xs) (pad ys) cs : Nat) : Int), .int .i64 (rdE (qs X (pad xs) (pad ys)) cs)]) ∧ Below w.heap.size w w'

theorem rdE_count {A : List (List Int)} {cs : List Int} (h : cs.length ≠ A.length) : rdE A cs = 1 := by unfold rdE; rw [if_pos h]
theorem rdE_value {A : List (List Int)} {cs : List Int} (h : cs.length = A.length) {c : Int} (hc : c ∈ cs) (h0 : c ≠ 0) (h1 : c ≠ 1) : rdE A cs = 12 := by
  unfold rdE; rw [if_neg (fun h' => h' h), if_pos ⟨c, hc, h0, h1⟩]
theorem rdE_ok {A : List (List Int)} {cs : List Int} (h : cs.length = A.length) (hc : ∀ c, c ∈ cs → c = 0 ∨ c = 1) : rdE A cs = 0 := by
  unfold rdE
  rw [if_neg (fun h' => h' h), if_neg]
  rintro ⟨c, h1, h2, h3⟩
  rcases hc c h1 with h | h
  · exact h2 h
  · exact h3 h

/-- Where a choice leads. -/
noncomputable def tgt (X : List Pm) (a b : Pm) (c : Int) (r : Nat) : Int := (if c = 1 then mv X b else mv X a).getD r 0

/-- The first k sets are gone through, and the first j of the next. -/
structure NxTo (X : List Pm) (a b : Pm) (A : List (List Int)) (cs : List Int) (k j : Nat) (zs : List Int) : Prop where
  len : zs.length = X.length
  sets : ∀ (i : Nat) (S : List Int) (r : Nat), i < k → A[i]? = some S → (r : Int) ∈ S → zs.getD r 0 = tgt X a b (cs.getD i 0) r
  more : ∀ (S : List Int) (r : Nat), A[k]? = some S → (r : Int) ∈ S.take j → zs.getD r 0 = tgt X a b (cs.getD k 0) r

theorem NxTo.start (X : List Pm) (a b : Pm) (A : List (List Int)) (cs zs : List Int) (h : zs.length = X.length) : NxTo X a b A cs 0 0 zs :=
  ⟨h, fun i S r hi => absurd hi (by omega), fun S r _ hr => by simp at hr⟩

theorem NxTo.step {X : List Pm} {a b : Pm} {A : List (List Int)} {cs zs S : List Int} {k j r : Nat} {σ : Nat → Nat} (hA : Sts X.length σ A) (h : NxTo X a b A cs k j zs) (hS : A[k]? = some S) (hr : S[j]? = some (r : Int)) (hrl : r < X.length) : NxTo X a b A cs k (j + 1) (zs.set r (tgt X a b (cs.getD k 0) r)) := by
  have hl : r < zs.length := by rw [h.len]; exact hrl
  refine ⟨by rw [List.length_set]; exact h.len, fun i T r' hi hT hr' => ?_, fun T r' hT hr' => ?_⟩
  · rw [getD_set hl]
    by_cases e : r = r'
    · subst e
      have := hA.one i k T S _ hT hS hr' (List.mem_of_getElem? hr)
      omega
    · rw [if_neg e]; exact h.sets i T r' hi hT hr'
  · rw [hS] at hT
    have eT := Option.some.inj hT
    subst eT
    rw [getD_set hl]
    by_cases e : r = r'
    · subst e; rw [if_pos rfl]
    · rw [if_neg e]
      refine h.more S r' hS ?_
      rw [List.take_add_one, hr, List.mem_append] at hr'
      rcases hr' with hr' | hr'
      · exact hr'
      · simp at hr'; omega

theorem NxTo.turn {X : List Pm} {a b : Pm} {A : List (List Int)} {cs zs S : List Int} {k : Nat} (h : NxTo X a b A cs k S.length zs) (hS : A[k]? = some S) : NxTo X a b A cs (k + 1) 0 zs := by
  refine ⟨h.len, fun i T r hi hT hr => ?_, fun T r hT hr => by simp at hr⟩
  by_cases e : i = k
  · subst e
    rw [hS] at hT
    have eT := Option.some.inj hT
    subst eT
    exact h.more S r hS (by rw [List.take_length]; exact hr)
  · exact h.sets i T r (by omega) hT hr

theorem NxTo.done {X : List Pm} {a b : Pm} {A : List (List Int)} {cs zs : List Int} {σ : Nat → Nat} (hA : Sts X.length σ A) (h : NxTo X a b A cs A.length 0 zs) : zs = nxL X a b A cs := by
  refine ext_getD (by rw [h.len, nxL_length]) (fun r hr => ?_)
  rw [h.len] at hr
  obtain ⟨i, S, hi, hS⟩ := hA.all r hr
  rw [h.sets i S r (List.getElem?_eq_some_iff.1 hi).1 hi hS]
  have e : (nxL X a b A cs).getD r 0 = (if chc A cs r = 1 then mv X b else mv X a).getD r 0 := by
    unfold nxL
    rw [List.getD, List.getElem?_map, List.getElem?_range hr]
    rfl
  rw [e]
  unfold tgt chc
  rw [hA.sof hi hS]

set_option maxRecDepth 20000 in
set_option maxHeartbeats 8000000 in
theorem rounds2_ok (n : Nat) (v1 v2 v3 : Value) (xs ys cs : List Int) (w : World) (h1 : Ints w v1 xs) (h2 : Ints w v2 ys) (h3 : Ints w v3 cs) (hn1 : 1 ≤ n) (h12 : n ≤ 12) (hl : xs.length = n) (hR : RowsN n [xs, ys]) (hs : sz (G2 xs ys) n ≤ 1000) :
    Calls Try.prog 49 #[v1, v2, v3] w fun e w' => RoundsPost n xs ys cs w e w' := by
  obtain ⟨j0, hji, hjz0, hjz1, hjz2⟩ := info_parts Try.info3
  have HEx := hide (exits_ok n v1 v2 xs ys w h1 h2 hn1 h12 hl hR hs)
  have H3 := hide h3
  obtain ⟨pc, cc, rfl⟩ := h3.form
  generalize hcl0 : cs.length = cl at *
  have HCL := hide hcl0
  clear h1 h2 hl hR hs h3 hcl0
  go_enter Try.func49, Try.ntmps49
  go_wp2_with fail
  refine HEx.out.mono ?_
  rintro ex w1 ⟨v3, v4, X, rfl, hRw, hT, hb1⟩
  have hpos := hRw.pos
  have hfew := hRw.few
  obtain ⟨p3, c3, e3⟩ := hT.x.form
  obtain ⟨p4, c4, e4⟩ := hT.y.form
  rw [mv_length] at e3 e4
  subst e3
  subst e4
  have hb2 : Below w1.heap.size w1 (w1.alloc (.cells #[.slice none 0 0, .slice none 0 0] 129)) := (Below.refl _ _).alloc (Nat.le_refl _) _
  have HT2 : Hid (ToAt (w1.alloc (.cells #[.slice none 0 0, .slice none 0 0] 129)) (.slice p3 X.length c3) (.slice p4 X.length c4) X (pad xs) (pad ys)) := ⟨hT.x.below hb2, hT.y.below hb2⟩
  have HRw := hide hRw
  have HB1 := hide hb1
  have hblk := heap_alloc_last w1 (.cells #[.slice none 0 0, .slice none 0 0] 129)
  clear hT hb2 hRw hb1 HEx
  go_wp2_with (refine wpList_store_two rfl _ _ rfl w1.heap.size _ _ (.slice p3 X.length c3) (.slice p4 X.length c4) _ hblk rfl rfl rfl rfl ?_)
  intro w2 hblk2 hg2
  have hb2 : Below w1.heap.size w1 w2 := ((Below.refl _ _).alloc (Nat.le_refl _) _).grown hg2 (by simp) (fun k hk => by have := Option.some.inj hk; omega)
  have hT2 := HT2.out.kept hg2 hblk
  have HSt := hide (setsOf_ok n (G2 xs ys) X (pad xs) (pad ys) _ _ w2 HRw.out (g2_left xs ys) (g2_right xs ys) hT2)
  have HT := hide hT2
  have hB2 := HB1.out.trans (hb2.mono HB1.out.size)
  have HB2 := hide hB2
  have hw12 : w1.heap.size < w2.heap.size := (Array.getElem?_eq_some_iff.1 hblk2).1
  clear hg2 hblk hb2 HT2 HB1 hT2
  go_wp2_with (refine wpList_load_two rfl _ rfl w1.heap.size _ _ _ hblk2 rfl ?_)
  go_wp2_with fail
  refine HSt.out.mono ?_
  rintro ex w3 ⟨u3, us3, rfl, hL3, hb3⟩
  have hqs : (cycsTo (mv X (pad xs * (pad ys)⁻¹)) X.length).map srt = qs X (pad xs) (pad ys) := rfl
  rw [hqs] at hL3
  have HSts := hide (qs_sts HRw.out (g2_left xs ys) (g2_right xs ys))
  have HNR := hide (nxL_row HRw.out (g2_left xs ys) (g2_right xs ys) cs)
  have hB3 := hB2.trans (hb3.mono hB2.size)
  have HB3 := hide hB3
  have HQN : Hid ((qs X (pad xs) (pad ys)).length ≤ X.length) := by unfold qs; rw [List.length_map]; exact cycsTo_length _ _
  obtain ⟨al, hal⟩ : ∃ al, al = (qs X (pad xs) (pad ys)).length := ⟨_, rfl⟩
  have HAL := hide hal
  obtain ⟨p5, q5, e5⟩ := owns_slice hL3.row
  rw [hL3.len, ← hal] at e5
  subst e5
  have HL3 := hide hL3
  have hall : al ≤ 1000 := by rw [hal]; have := HQN.out; omega
  have hbx3 : w3.heap[w1.heap.size]? = some (.cells #[.slice p3 X.length c3, .slice p4 X.length c4] 129) := (hb3.block w1.heap.size hw12).trans hblk2
  have HBX3 := hide hbx3
  have hw13 : w1.heap.size < w3.heap.size := Nat.lt_of_lt_of_le hw12 hb3.size
  have hcx3 : w3.cell? ⟨w1.heap.size, 0, none⟩ = some (.slice p3 X.length c3) := by simp [World.cell?, hbx3]
  have HT3 : Hid (ToAt w3 (.slice p3 X.length c3) (.slice p4 X.length c4) X (pad xs) (pad ys)) := ⟨HT.out.x.below hb3, HT.out.y.below hb3⟩
  have HI3 := hide (H3.out.below hB3)
  clear hL3 hqs hb3 hB3 hB2 hal HSt hblk2 hbx3 HT
  by_cases hcl : cl = al
  · subst hcl
    generalize hN : X.length = N at *
    have HN := hide hN
    clear hN
    go_wp2_with (at_make; refine wpList_make_full _ rfl _ _ 23 rfl w3.heap.size 3 j0 (.int .i64 0) 1 Try.underlying23 hji hjz0 hjz1 _ _ _ _ N rfl rfl (by omega) (by omega) ?b2 ?b3 (Nat.le_refl _) ?_)
    case b2 => rw [hjz2]; omega
    case b3 => unfold maxLen; omega
    intro w4 hown4 hg4
    rw [made_ints] at hown4
    have HO4 := hide hown4
    have hB4 : Below w3.heap.size w3 w4 := (Below.refl _ _).grown hg4 (Nat.le_refl _) (fun k h => by cases h)
    have HNX0 : Hid (NxTo X (pad xs) (pad ys) (qs X (pad xs) (pad ys)) cs 0 0 (List.replicate N 0)) := NxTo.start _ _ _ _ _ _ (by rw [List.length_replicate, HN.out])
    clear hown4 hg4
    obtain ⟨gs, qs5, egs, hgs1, hgs2, hgs3, hgs4⟩ : ∃ gs cap, (cl = 0 ∨ (Value.slice p5 cl q5 = .slice (some ⟨gs, 0, none⟩) cl cap ∧ gs < w3.heap.size ∧ cl ≤ cap ∧ cap ≤ 9223372036854775807)) ∧ True ∧ True ∧ True ∧ True := by
      rcases Nat.eq_zero_or_pos cl with h0 | h0
      · exact ⟨0, 0, Or.inl h0, trivial, trivial, trivial, trivial⟩
      · have hrr := HL3.out.row
        rw [HL3.out.len, ← HAL.out] at hrr
        obtain ⟨g, cap, e, _, h5, h6, h7⟩ := owns_form hrr h0
        exact ⟨g, cap, Or.inr ⟨e, h5, h6, h7⟩, trivial, trivial, trivial, trivial⟩
    have HGS := hide egs
    clear egs hgs1 hgs2 hgs3 hgs4
    go_wp2
    go_loopw [39] (fun si wr => ∃ (k : Nat) (zs : List Int), k ≤ cl ∧ si = .int .i64 k ∧ Hid (wr.ownsRow w3.heap.size 3 1 (.slice (some ⟨w3.heap.size, 0, none⟩) N N) N (zs.map (Value.int .i64))) ∧ Hid (NxTo X (pad xs) (pad ys) (qs X (pad xs) (pad ys)) cs k 0 zs) ∧ Hid (∀ i, i < k → cs.getD i 0 = 0 ∨ cs.getD i 0 = 1) ∧ Below w3.heap.size w3 wr) (fun si _ => cl - (intOf si).toNat)
    case atStart => exact ⟨0, _, Nat.zero_le _, rfl, HO4, HNX0, fun i hi => absurd hi (by omega), hB4⟩
    case round =>
      clear HO4 HNX0 hB4
      obtain ⟨k, zs, hk, rfl, hO, hNx, hgd, hbk⟩ := hrel
      have hB3k := HB3.out.trans (hbk.mono HB3.out.size)
      by_cases hlt : k < cl
      · obtain ⟨S, hS⟩ : ∃ S, (qs X (pad xs) (pad ys))[k]? = some S := ⟨_, List.getElem?_eq_getElem (by rw [← HAL.out]; exact hlt)⟩
        obtain ⟨egs, hg2, hg3, hg4⟩ : Value.slice p5 cl q5 = .slice (some ⟨gs, 0, none⟩) cl qs5 ∧ gs < w3.heap.size ∧ cl ≤ qs5 ∧ qs5 ≤ 9223372036854775807 := HGS.out.resolve_left (by omega)
        injection egs with egs1 egs2 egs3
        subst egs1
        subst egs3
        have hrr := HL3.out.row
        rw [HL3.out.len, ← HAL.out] at hrr
        have hcu := owns_val hrr hlt
        have hrow := HL3.out.at (k := k) (by rw [← HAL.out]; exact hlt)
        have hgS : (qs X (pad xs) (pad ys)).getD k [] = S := by rw [List.getD, hS]; rfl
        rw [hgS] at hrow
        have hcu' := (hbk.cell (p := ⟨gs, k, none⟩) hg2).trans hcu
        obtain ⟨pu, cu, epu⟩ := owns_slice hrow
        have HROW := hide hrow
        generalize us3.getD k undef = uk at *
        subst epu
        obtain ⟨bc, oc, epc, kc1, kc2, kc3, kc4⟩ := HI3.out.open (by rw [HCL.out]; omega)
        rw [HCL.out] at kc1 kc4
        subst epc
        have hcc := (hbk.cell (p := ⟨bc, oc + k, none⟩) kc3).trans (kc4 k hlt)
        have hcm : cs.getD k 0 ∈ cs := by
          have h9 : k < cs.length := by rw [HCL.out]; exact hlt
          rw [List.getD, List.getElem?_eq_getElem h9]
          exact List.getElem_mem h9
        have HCM := hide hcm
        have HS := hide hS
        obtain ⟨c, hc⟩ : ∃ c, c = cs.getD k 0 := ⟨_, rfl⟩
        have HC := hide hc
        rw [← hc] at hcc
        obtain ⟨sl, hsl⟩ : ∃ sl, sl = S.length := ⟨_, rfl⟩
        have HSL := hide hsl
        rw [← hsl] at HROW hcu' hcu
        clear hcu hrr hrow hgS kc4 hcm hS hc hsl egs2
        by_cases hgood : c = 0 ∨ c = 1
        · have g1 : decide (c < 0) = false := decide_eq_false (by omega)
          have g2 : decide (2 ≤ c) = false := decide_eq_false (by omega)
          obtain ⟨cN, hcN, hcNl⟩ : ∃ cN : Nat, c = (cN : Int) ∧ cN < 2 := by
            rcases hgood with h | h
            · exact ⟨0, by rw [h]; rfl, by omega⟩
            · exact ⟨1, by rw [h]; rfl, by omega⟩
          obtain ⟨bd, od, cd, hbox, hcd1, hcd2, hcells⟩ : ∃ bd od cd, (∀ W, Below w3.heap.size w3 W → W.cell? ⟨w1.heap.size, cN, none⟩ = some (.slice (some ⟨bd, od, none⟩) N cd)) ∧ N ≤ cd ∧ cd ≤ 9223372036854775807 ∧ (∀ W, Below w3.heap.size w3 W → ∀ j, j < N → W.cell? ⟨bd, od + j, none⟩ = some (.int .i64 (tgt X (pad xs) (pad ys) c j))) := by
            obtain ⟨ba, oa, ea, ka1, ka2, ka3, ka4⟩ := HT3.out.x.open (by rw [mv_length, HN.out]; omega)
            obtain ⟨bb, ob, eb, kb1, kb2, kb3, kb4⟩ := HT3.out.y.open (by rw [mv_length, HN.out]; omega)
            rw [mv_length, HN.out] at ka1 ka4 kb1 kb4
            have hbx := fun W (hW : Below w3.heap.size w3 W) => (hW.block w1.heap.size hw13).trans HBX3.out
            rcases hgood with h | h
            · have e0 : cN = 0 := by omega
              subst e0
              refine ⟨ba, oa, c3, fun W hW => by rw [← ea]; simp [World.cell?, hbx W hW], ka1, ka2, fun W hW j hj => ?_⟩
              unfold tgt
              rw [if_neg (by omega)]
              exact (hW.cell (p := ⟨ba, oa + j, none⟩) ka3).trans (ka4 j hj)
            · have e0 : cN = 1 := by omega
              subst e0
              refine ⟨bb, ob, c4, fun W hW => by rw [← eb]; simp [World.cell?, hbx W hW], kb1, kb2, fun W hW j hj => ?_⟩
              unfold tgt
              rw [if_pos (by omega)]
              exact (hW.cell (p := ⟨bb, ob + j, none⟩) kb3).trans (kb4 j hj)
          have HBOX := hide hbox
          have HCEL := hide hcells
          have HGD : Hid (∀ i, i < k + 1 → cs.getD i 0 = 0 ∨ cs.getD i 0 = 1) := fun i hi => by
            by_cases e : i = k
            · subst e; rw [← HC.out]; exact hgood
            · exact hgd.out i (by omega)
          have HTG : Hid (∀ r, tgt X (pad xs) (pad ys) c r = tgt X (pad xs) (pad ys) (cs.getD k 0) r) := fun r => by rw [← HC.out]
          have HO := hO
          have HNx := hNx
          have HBK := hide hbk
          subst hcN
          clear hbox hcells hgd hgood hO hNx hB3k hbk
          go_wp2
          go_loopw [56] (fun sj wr => ∃ (j : Nat) (zs : List Int), j ≤ sl ∧ sj = .int .i64 j ∧ Hid (wr.ownsRow w3.heap.size 3 1 (.slice (some ⟨w3.heap.size, 0, none⟩) N N) N (zs.map (Value.int .i64))) ∧ Hid (NxTo X (pad xs) (pad ys) (qs X (pad xs) (pad ys)) cs k j zs) ∧ Below w3.heap.size w3 wr) (fun sj _ => sl - (intOf sj).toNat)
          case atStart => exact ⟨0, zs, Nat.zero_le _, rfl, HO, HNx, HBK.out⟩
          case round =>
            clear HO HNx HBK
            obtain ⟨j, zs, hj, rfl, hO, hNx, hbj⟩ := hrel
            by_cases hjs : j < sl
            · obtain ⟨y, hy⟩ : ∃ y, S[j]? = some y := ⟨_, List.getElem?_eq_getElem (by rw [← HSL.out]; exact hjs)⟩
              obtain ⟨r, hr, er⟩ := HSts.out.below k S y HS.out (List.mem_of_getElem? hy)
              subst er
              obtain ⟨gu, cu2, egu, hu1, hu2, hu3, hu4⟩ := owns_form HROW.out (by omega)
              injection egu with egu1 egu2 egu3
              subst egu1
              subst egu3
              have hcy : w3.cell? ⟨gu, j, none⟩ = some (.int .i64 (r : Int)) := by
                have h9 := HROW.out.cells (g := gu) rfl j (.int .i64 (r : Int)) (by rw [List.getElem?_map, hy]; rfl)
                rw [Addr.add_lit, Nat.zero_add] at h9
                exact h9
              have hcy' := (hbj.cell (p := ⟨gu, j, none⟩) hu2).trans hcy
              have hbx := HBOX.out wr hbj
              have hcz := HCEL.out wr hbj r hr
              have hSo := hO.out
              obtain ⟨z0, hz0', hcz0, hfz0⟩ := owns_cellAt hSo hr
              have HSet := hide (fun u => owns_set_int (m := r) hSo u)
              have HNx2 : Hid (NxTo X (pad xs) (pad ys) (qs X (pad xs) (pad ys)) cs k (j + 1) (zs.set r (tgt X (pad xs) (pad ys) (cN : Int) r))) := by
                rw [HTG.out]
                exact hNx.out.step (show Sts X.length _ _ by rw [HN.out]; exact HSts.out) HS.out hy (by rw [HN.out]; exact hr)
              generalize tgt X (pad xs) (pad ys) (cN : Int) r = z at *
              clear hcy hSo hz0' hO hNx hy egu2
              go_wp2
              go_roundw
              case rel =>
                have hfin : ∃ (j' : Nat) (zs : List Int), j' ≤ sl ∧ Value.int .i64 ((j : Int) + 1) = .int .i64 (j' : Int) ∧ Hid ((wr.setCell ⟨w3.heap.size, r, none⟩ (.int .i64 z)).ownsRow w3.heap.size 3 1 (.slice (some ⟨w3.heap.size, 0, none⟩) N N) N (zs.map (Value.int .i64))) ∧ Hid (NxTo X (pad xs) (pad ys) (qs X (pad xs) (pad ys)) cs k j' zs) ∧ Below w3.heap.size w3 (wr.setCell ⟨w3.heap.size, r, none⟩ (.int .i64 z)) := ⟨j + 1, _, hjs, by go_num, HSet.out _, HNx2, hbj.setCell (Nat.le_refl _) _⟩
                first
                  | exact hfin
                  | ((repeat apply Exists.intro); exact ⟨hfin, rfl⟩)
              case measure => simp [intOf]; omega
            · obtain rfl : sl = j := by omega
              have HNx2 : Hid (NxTo X (pad xs) (pad ys) (qs X (pad xs) (pad ys)) cs (k + 1) 0 zs) := by
                have h9 := hNx.out
                rw [HSL.out] at h9
                exact h9.turn HS.out
              clear hNx
              go_wp2
              go_roundw
              case rel =>
                have hfin : ∃ (k' : Nat) (zs : List Int), k' ≤ cl ∧ Value.int .i64 ((k : Int) + 1) = .int .i64 (k' : Int) ∧ Hid (wr.ownsRow w3.heap.size 3 1 (.slice (some ⟨w3.heap.size, 0, none⟩) N N) N (zs.map (Value.int .i64))) ∧ Hid (NxTo X (pad xs) (pad ys) (qs X (pad xs) (pad ys)) cs k' 0 zs) ∧ Hid (∀ i, i < k' → cs.getD i 0 = 0 ∨ cs.getD i 0 = 1) ∧ Below w3.heap.size w3 wr := ⟨k + 1, _, hlt, by go_num, hO, HNx2, HGD, hbj⟩
                first
                  | exact hfin
                  | ((repeat apply Exists.intro); exact ⟨hfin, rfl⟩)
              case measure => simp [intOf]; omega
        · have HFN : Hid (RoundsPost n xs ys cs w (.returned (.tuple #[.int .i64 0, .int .i64 12])) wr) := by
            have e1 := rdE_value (A := qs X (pad xs) (pad ys)) (cs := cs) (by rw [← HAL.out]; exact HCL.out) HCM.out (by rw [← HC.out]; omega) (by rw [← HC.out]; omega)
            refine ⟨X, HRw.out, ?_, hB3k⟩
            unfold rdN
            rw [e1, if_neg (by decide)]
            rfl
          clear hO hNx hgd hbk hB3k
          have hcase : c < 0 ∨ (¬ c < 0 ∧ 2 ≤ c) := by omega
          rcases hcase with g1 | ⟨g1, g2⟩ <;>
          · clear hgood
            go_wp2
            go_ret2
            exact HFN.out
      · obtain rfl : cl = k := by omega
        have hze : zs = nxL X (pad xs) (pad ys) (qs X (pad xs) (pad ys)) cs := by
          have h9 := hNx.out
          rw [HAL.out] at h9
          exact h9.done (show Sts X.length _ _ by rw [HN.out]; exact HSts.out)
        have hgd2 : ∀ c, c ∈ cs → c = 0 ∨ c = 1 := fun c hc => by
          obtain ⟨i, hi, e⟩ := List.getElem_of_mem hc
          have h9 := hgd.out i (by rw [← HCL.out]; exact hi)
          rw [List.getD, List.getElem?_eq_getElem hi, e] at h9
          exact h9
        have hrd := rdE_ok (A := qs X (pad xs) (pad ys)) (by rw [← HAL.out]; exact HCL.out) hgd2
        have hOo : wr.ownsRow w3.heap.size 3 1 (.slice (some ⟨w3.heap.size, 0, none⟩) N N) N ((nxL X (pad xs) (pad ys) (qs X (pad xs) (pad ys)) cs).map (Value.int .i64)) := by rw [← hze]; exact hO.out
        have hnl := nxL_length X (pad xs) (pad ys) (qs X (pad xs) (pad ys)) cs
        rw [HN.out] at hnl
        have HCy := hide (cyclesOf_ok _ _ wr (Ints.own hOo) HNR.out (by rw [hnl]; omega) (by rw [hnl]; omega))
        rw [hnl] at HCy
        have HFN : Hid (∀ w', Below wr.heap.size wr w' → RoundsPost n xs ys cs w (.returned (.tuple #[.int .i64 ((cycsTo (nxL X (pad xs) (pad ys) (qs X (pad xs) (pad ys)) cs) N).length : Int), .int .i64 0])) w') := fun w' hb => by
          refine ⟨X, HRw.out, ?_, hB3k.trans (hb.mono hB3k.size)⟩
          unfold rdN
          rw [hrd, if_pos rfl, HN.out]
        clear hO hNx hgd hbk hB3k hze hgd2 hrd hOo hnl
        generalize cycsTo (nxL X (pad xs) (pad ys) (qs X (pad xs) (pad ys)) cs) N = CC at *
        go_wp2_with fail
        refine HCy.out.mono ?_
        rintro ex w6 ⟨u6, us6, rfl, hL6, -, hb6⟩
        obtain ⟨p6, c6, e6⟩ := owns_slice hL6.row
        rw [hL6.len] at e6
        subst e6
        have HF := hide (HFN.out w6 hb6)
        clear hL6 hb6 HCy HFN
        go_wp2
        go_ret2
        exact HF.out
  · have hne : ((cl : Int) != (al : Int)) = true := by rw [bne_iff_ne]; omega
    have HFN : Hid (RoundsPost n xs ys cs w (.returned (.tuple #[.int .i64 0, .int .i64 1])) w3) := by
      have e1 := rdE_count (A := qs X (pad xs) (pad ys)) (cs := cs) (by rw [← HAL.out, HCL.out]; exact hcl)
      refine ⟨X, HRw.out, ?_, HB3.out⟩
      unfold rdN
      rw [e1, if_neg (by decide)]
      rfl
    clear hcl
    go_wp2
    go_ret2
    exact HFN.out

end Go.Proofs.Ytimfoggjocajiaa
