/- Joined: MsF, SbB, SaA, XtB, SaB, SaC, SaD, SaE, SaF, SaL, SbF, MsG, MsH, MrA. -/
import Derived.Test.YtfngadfkopfhcaaGreatDoorJ8
import Derived.Test.YtfngadfkopfhcaaGreatDoorJ4
import Derived.Test.YtfngadfkopfhcaaGreatDoorJ6
import Derived.Deep.RegionHeld3
import Derived.Deep.Cut
import Derived.Test.YtfngadfkopfhcaaGreatDoorJ5
import Derived.Laws.StructEq
import Derived.Lib.SplitLaws
import Derived.Lib.AtoiAll
import Derived.Test.YtfngadfkopfhcaaGreatDoorJ3
/- Contract: the answer's Mirrored. -/
namespace Go.Proofs.YtfngadfkopfhcaaGreatDoor
open Go.RowKit
set_option maxRecDepth 20000
set_option linter.unusedVariables false

theorem mir_all {css : List (List Int)} {L : Nat} (hL : css.length = L + 1) : Mir css ↔ ∀ j, j < L → css.getD j [] = css.getD (L - 1 - j) [] := by
  unfold Mir
  rw [hL]
  constructor
  · intro h j hj; have := h j (by omega); rw [this]; congr 1
  · intro h j hj; rw [h j (by omega)]; congr 1

set_option maxHeartbeats 4000000 in
theorem rmirrored_ok (s : ByteArray) (n : Int) (v : Value) (css : List (List Int)) (w : World) (hl1 : 1 ≤ css.length) (hl2 : css.length ≤ 200) (hv : IntsAll w v css) :
    Calls Tryz.prog 20 #[.agg #[.string s, .int .i64 n, v]] w fun e w' => ∃ b : Bool, (b = true ↔ Mir css) ∧ e = .returned (.bool b) ∧ Below w.heap.size w w' := by
  obtain ⟨b, off, cap, hve, hbl, hc1, hc2, hcell⟩ := hv.cell (by omega)
  subst hve
  have HCE := hide hcell
  obtain ⟨L, hL⟩ : ∃ L, css.length = L + 1 := ⟨css.length - 1, by omega⟩
  have HM := hide (mir_all hL)
  rw [hL] at HCE hc1 hl2 ⊢
  have hx0 := Box.start w s n (.slice (some ⟨b, off, none⟩) (L + 1) cap) 24
  have HX := hide hx0
  have HB0 := hide (mbe w s n (.slice (some ⟨b, off, none⟩) (L + 1) cap))
  have g2 := hx0.c2
  clear hv hcell hL hx0
  go_enter Tryz.func20, Tryz.ntmps20
  go_wp2_with fail
  generalize hWA : w.alloc (.cells #[.string s, .int .i64 n, .slice (some ⟨b, off, none⟩) (L + 1) cap] 24) = WA at *
  clear hWA
  have hsub : ((L + 1 : Nat) : Int) - 1 = (L : Int) := by omega
  go_loopw [4] (fun i wr => ∃ k : Nat, k ≤ L ∧ i = .int .i64 k ∧ Hid (∀ j, j < k → css.getD j [] = css.getD (L - 1 - j) []) ∧ Hid (Below WA.heap.size WA wr)) (fun i _ => L - (intOf i).toNat)
  case atStart => exact ⟨0, by omega, rfl, (fun j hj => by omega), Below.refl _ _⟩
  case round =>
    obtain ⟨k, hk, rfl, hall, hbw⟩ := hrel
    have hB2 := HB0.out.trans (hbw.out.mono HB0.out.size)
    have hlb : w.heap.size < wr.heap.size := (HX.out.below hbw.out).lt
    replace g2 := (HX.out.below hbw.out).c2
    by_cases hlt : k < L
    · obtain ⟨p1, c1, hcx, hix⟩ := HCE.out k (by omega)
      obtain ⟨p2, c2, hcy, hiy⟩ := HCE.out (L - 1 - k) (by omega)
      have gx := (hB2.cell (p := ⟨b, off + k, none⟩) (by exact hbl)).trans hcx
      have gy := (hB2.cell (p := ⟨b, off + (L - 1 - k), none⟩) (by exact hbl)).trans hcy
      have hbb : b < wr.heap.size := Nat.lt_of_lt_of_le hbl hB2.size
      have HE := hide (fun W (hb : Below wr.heap.size wr W) => same_any _ _ _ _ W ((hix.out.below hB2).below hb) ((hiy.out.below hB2).below hb))
      have hme : (L : Int) - 1 - (k : Int) = ((L - 1 - k : Nat) : Int) := by omega
      have hmL : L - 1 - k < L := by omega
      have HST : Hid (css.getD k [] = css.getD (L - 1 - k) [] → ∀ j, j < k + 1 → css.getD j [] = css.getD (L - 1 - j) []) := by
        intro he j hj
        by_cases e : j = k
        · subst e; exact he
        · exact hall.out j (by omega)
      have HNO : Hid (¬ css.getD k [] = css.getD (L - 1 - k) [] → ¬ Mir css) := fun he hm => he (HM.out.1 hm k hlt)
      generalize L - 1 - k = m at *
      generalize css.getD k [] = X at *
      generalize css.getD m [] = Y at *
      generalize hXl : X.length = XL at *
      generalize hYl : Y.length = YL at *
      have hwr : IntKind.i64.wrap ((L : Int) - 1) = (L : Int) - 1 := by simp [IntKind.wrap, IntKind.bits, IntKind.signed]; omega
      have hwm : IntKind.i64.wrap (m : Int) = (m : Int) := by simp [IntKind.wrap, IntKind.bits, IntKind.signed]; omega
      obtain ⟨tt, htt⟩ : ∃ tt, decide (X = Y) = tt := ⟨_, rfl⟩
      rw [htt] at HE
      have HTT := hide htt
      have HB2 := hide hB2
      clear hcx hcy hix hiy hXl hYl hall htt hB2
      go_upto_region 5 with fail
      refine wp_region_held_drew (S := fun W' => Below wr.heap.size wr W') (by kernel_rfl) (Below.refl wr.heap.size wr).drew (fun hS => ?_)
      refine wpAnyH_take (i := 0) (v := .pointer (some ⟨w.heap.size, 2, none⟩)) rfl (by kernel_rfl) (by kernel_rfl) (by kernel_rfl) (fun _ _ _ h => h) (Or.inl ⟨by kernel_rfl, fun w' hS' => by clear hS'; go_simp⟩) hS ?_
      refine wpAnyH_take (i := 1) (v := .slice (some ⟨b, off, none⟩) (L + 1) cap) rfl (by kernel_rfl) (by kernel_rfl) (by kernel_rfl) (fun _ _ _ h => h) (Or.inl ⟨by kernel_rfl, fun w' hS' => by have q2 := (Below.cell hS' (p := ⟨w.heap.size, 2, none⟩) hlb).trans g2; clear hS'; go_simp⟩) hS ?_
      refine wpAnyH_take (i := 2) (v := .int .i64 (k : Int)) rfl (by kernel_rfl) (by kernel_rfl) (by kernel_rfl) (fun _ _ _ h => h) (Or.inl ⟨by kernel_rfl, fun w' hS' => by clear hS'; go_simp⟩) hS ?_
      refine wpAnyH_take (i := 3) (v := .pointer (some ⟨b, off + k, none⟩)) rfl (by kernel_rfl) (by kernel_rfl) (by kernel_rfl) (fun _ _ _ h => h) (Or.inl ⟨by kernel_rfl, fun w' hS' => by clear hS'; go_simp; intro h0; exact absurd h0 (by omega)⟩) hS ?_
      refine wpAnyH_take (i := 4) (v := .slice p1 XL c1) rfl (by kernel_rfl) (by kernel_rfl) (by kernel_rfl) (fun _ _ _ h => h) (Or.inl ⟨by kernel_rfl, fun w' hS' => by have q2 := (Below.cell hS' (p := ⟨b, off + k, none⟩) hbb).trans gx; clear hS'; go_simp⟩) hS ?_
      refine wpAnyH_take (i := 5) (v := .pointer (some ⟨w.heap.size, 2, none⟩)) rfl (by kernel_rfl) (by kernel_rfl) (by kernel_rfl) (fun _ _ _ h => h) (Or.inl ⟨by kernel_rfl, fun w' hS' => by clear hS'; go_simp⟩) hS ?_
      refine wpAnyH_take (i := 6) (v := .slice (some ⟨b, off, none⟩) (L + 1) cap) rfl (by kernel_rfl) (by kernel_rfl) (by kernel_rfl) (fun _ _ _ h => h) (Or.inl ⟨by kernel_rfl, fun w' hS' => by have q2 := (Below.cell hS' (p := ⟨w.heap.size, 2, none⟩) hlb).trans g2; clear hS'; go_simp⟩) hS ?_
      refine wpAnyH_take (i := 7) (v := .int .i64 (L : Int)) rfl (by kernel_rfl) (by kernel_rfl) (by kernel_rfl) (fun _ _ _ h => h) (Or.inl ⟨by kernel_rfl, fun w' hS' => by clear hS'; go_simp⟩) hS ?_
      refine wpAnyH_take (i := 8) (v := .int .i64 ((L : Int) - 1)) rfl (by kernel_rfl) (by kernel_rfl) (by kernel_rfl) (fun _ _ _ h => h) (Or.inl ⟨by kernel_rfl, fun w' hS' => by clear hS'; go_simp⟩) hS ?_
      refine wpAnyH_take (i := 9) (v := .int .i64 (k : Int)) rfl (by kernel_rfl) (by kernel_rfl) (by kernel_rfl) (fun _ _ _ h => h) (Or.inl ⟨by kernel_rfl, fun w' hS' => by clear hS'; go_simp⟩) hS ?_
      refine wpAnyH_take (i := 10) (v := .int .i64 (m : Int)) rfl (by kernel_rfl) (by kernel_rfl) (by kernel_rfl) (fun _ _ _ h => h) (Or.inl ⟨by kernel_rfl, fun w' hS' => by clear hS'; go_simp⟩) hS ?_
      refine wpAnyH_take (i := 11) (v := .pointer (some ⟨b, off + m, none⟩)) rfl (by kernel_rfl) (by kernel_rfl) (by kernel_rfl) (fun _ _ _ h => h) (Or.inl ⟨by kernel_rfl, fun w' hS' => by clear hS'; go_simp; intro h0; exact absurd h0 (by omega)⟩) hS ?_
      refine wpAnyH_take (i := 12) (v := .slice p2 YL c2) rfl (by kernel_rfl) (by kernel_rfl) (by kernel_rfl) (fun _ _ _ h => h) (Or.inl ⟨by kernel_rfl, fun w' hS' => by have q2 := (Below.cell hS' (p := ⟨b, off + m, none⟩) hbb).trans gy; clear hS'; go_simp⟩) hS ?_
      refine wpAnyH_ready (rs := [13]) (by kernel_rfl) (by simp) ?_
      refine AllReadyH.cons rfl (fun K hK => ?_) AllReadyH.nil
      go_simp
      refine (HE.out _ hS).mono ?_
      rintro e w2 ⟨rfl, hb2⟩
      have hbw2 : Below wr.heap.size wr w2 := Below.trans hS hb2
      refine hK.out _ _ hbw2 (fun hS => ?_)
      clear hK hb2
      refine wpAnyH_take (i := 14) (v := .bool tt) rfl (by kernel_rfl) (by kernel_rfl) (by kernel_rfl) (fun _ _ _ h => h) (Or.inl ⟨by kernel_rfl, fun w' hS' => by clear hS'; go_simp⟩) hS ?_
      refine wpAnyH_done (by kernel_rfl) ?_ _
      have hbw3 := hbw.out.trans (hbw2.mono hbw.out.size)
      have hB3 := HB2.out.trans (hbw2.mono HB2.out.size)
      have HBW3 := hide hbw3
      have HB3 := hide hB3
      clear hbw2 hbw3 hB3 HE hS gx gy g2
      cases tt with
      | true =>
        have HS2 := hide (HST.out (of_decide_eq_true HTT.out))
        clear HST HNO HTT
        go_wp2
        go_roundw
        case rel => exact ⟨k + 1, by omega, by go_num, HS2, HBW3⟩
        case measure => simp [intOf]; omega
      | false =>
        have HN2 := hide (HNO.out (of_decide_eq_false HTT.out))
        clear HST HNO HTT
        go_wp2
        go_ret
        exact ⟨false, ⟨(fun h => by cases h), fun h => absurd h HN2.out⟩, rfl, HB3.out⟩
    · obtain rfl : k = L := by omega
      have HY : Hid (Mir css) := HM.out.2 hall.out
      have HB3 := hide hB2
      clear hall hbw hB2 g2
      go_wp2
      go_ret
      exact ⟨true, ⟨fun _ => HY.out, fun _ => rfl⟩, rfl, HB3.out⟩

end Go.Proofs.YtfngadfkopfhcaaGreatDoor

/- Contract: the answer's Ends. -/
namespace Go.Proofs.YtfngadfkopfhcaaGreatDoor
open Go.RowKit
set_option maxRecDepth 20000
set_option linter.unusedVariables false

/-- 'append(a, b...)': a owned, b whatever came in, none too. -/
theorem run_append_vals {P : Program} (w : World) (base : Nat) (t ty e : TypeId) (i : TypeInfo) (z : Value) (bytes : Nat) (ht : P.underlying t = some (.slice e)) (hi : P.info? e = some i) (hz : i.zero = some z)
    (hsize : i.size = 1) (hby : i.bytes = bytes) (hzs : z.cells.size = 1)
    (v : Value) (n : Nat) (xs : List Value) (hown : w.ownsRow base e 1 v n xs)
    (u : Value) (news : List Value) (hsrc : Vals w u news) (h1 : ∀ u ∈ news, u.oneCell' = true)
    (h63 : n + news.length ≤ maxLen) (hbytes : (n + news.length) * bytes ≤ 140737488355328) (hbase : base ≤ w.heap.size) :
    ∃ v' w', (Builtin.append_ #[t, t] ty #[v, u]).run P w = .ok v' w' ∧ w'.ownsRow base e 1 v' (n + news.length) (xs ++ news) ∧ w.grownBy w' v.ownBlock := by
  rcases hsrc with ⟨rfl, p, c, rfl⟩ | ⟨b, off, cap, rfl, h0, hc, hm, hb, hcell⟩
  · rw [List.length_nil, Nat.add_zero, List.append_nil]
    have hr : w.grownBy w v.ownBlock := ⟨rfl, rfl, rfl, Nat.le_refl _, fun _ _ _ => rfl⟩
    rcases hown.2 with ⟨rfl, rfl⟩ | ⟨g2, cap2, cur2, rfl, _, _, hnc2, _⟩
    · exact ⟨_, w, run_append_nil_none (P := P) w t ty e i ht hi p c, hown, hr⟩
    · exact ⟨_, w, run_append_none (P := P) w t ty e i ht hi ⟨g2, 0, none⟩ n cap2 hnc2 p c, hown, hr⟩
  · obtain ⟨v', w', hr, h2, h3, _⟩ := run_append_keep (P := P) w base t ty e i z 1 bytes ht hi hz hsize hby hzs (by decide) v n xs hown ⟨b, off, none⟩ news.length cap news (by omega) (fun j u hu => by
      have hj := (List.getElem?_eq_some_iff.1 hu).1
      have := hcell j hj
      rw [List.getD_eq_getElem?_getD, hu] at this
      rw [Addr.add_lit]
      exact this) h1 h63 hbytes hbase
    exact ⟨v', w', hr, h2, h3⟩

/-- .. as one step of a region that draws. -/
theorem step_append_vals {P : Program} {ops : Array Oper} {o : Oper} {a : Act} {w : World} {K : Act → World → Prop} {Q : Exit → Act → World → Prop} {E : Prop} (hg : o.guard = none) (s x : Operand) (t : TypeId)
    (ho : o.op = .call { callee := .builtin .append, args := #[s, x], argTypes := #[t, t] })
    (base : Nat) (e : TypeId) (i : TypeInfo) (z : Value) (bytes : Nat) (ht : P.underlying t = some (.slice e)) (hi : P.info? e = some i) (hz : i.zero = some z)
    (hsize : i.size = 1) (hby : i.bytes = bytes) (hzs : z.cells.size = 1)
    (v : Value) (n : Nat) (xs : List Value) (hs : a.eval s = v) (hown : w.ownsRow base e 1 v n xs)
    (u : Value) (news : List Value) (hx : a.eval x = u) (hsrc : Vals w u news) (h1 : ∀ u ∈ news, u.oneCell' = true)
    (h63 : n + news.length ≤ maxLen) (hbytes : (n + news.length) * bytes ≤ 140737488355328) (hbase : base ≤ w.heap.size)
    (h : ∀ v' w', w'.ownsRow base e 1 v' (n + news.length) (xs ++ news) → w.grownBy w' v.ownBlock → K (a.put o.dst v') w') :
    if Region.wanted o (yielded ops a.tmps) = true then Oper.wp P o a w K Q else E := by
  have hw : Region.wanted o (yielded ops a.tmps) = true := by simp [Region.wanted, hg]
  rw [if_pos hw]
  obtain ⟨v', w', hr, h2, h3⟩ := run_append_vals (P := P) w base t o.type e i z bytes ht hi hz hsize hby hzs v n xs hown u news hsrc h1 h63 hbytes hbase
  unfold Oper.wp execOp
  simp only [ho, resolve, invoke, builtin, Sem.run_bind, Sem.run_pure, Result.andThen_ok, List.map_toArray, List.map_cons, List.map_nil, hs, hx, hr]
  exact h v' w' h2 h3

theorem alloc_new9 (w : World) (o : Obj) : (w.alloc o).heap[w.heap.size]? = some o := heap_alloc_new w o

theorem alloc_new9' (w : World) (o : Obj) {k : Nat} (h : k = w.heap.size) : (w.alloc o).heap[k]? = some o := by rw [h]; exact alloc_new9 w o

/-- A call's value. -/
def callV (sg : Int) (cv : Value) : Value := .agg #[.int .i32 sg, cv]

theorem Vals.take {w : World} {p : Option Addr} {m c k : Nat} {vs : List Value} (h : Vals w (.slice p m c) vs) (hk : k ≤ vs.length) : Vals w (.slice p k c) (vs.take k) := by
  rcases h with ⟨rfl, p', c', e⟩ | ⟨b, off, cap, e, h0, h1, h2, h3, hc⟩
  · simp at hk
    subst hk
    exact Or.inl ⟨rfl, _, _, rfl⟩
  · injection e with e1 e2 e3
    subst e1; subst e3
    have hl : (vs.take k).length = k := by rw [List.length_take]; omega
    rcases Nat.eq_zero_or_pos k with h9 | h9
    · subst h9; exact Or.inl ⟨rfl, _, _, rfl⟩
    · refine Or.inr ⟨b, off, c, by rw [hl], by omega, by omega, h2, h3, fun j hj => ?_⟩
      rw [hl] at hj
      rw [hc j (by omega)]
      simp [List.getD, hj]

theorem vals_len {w : World} {p : Option Addr} {m c : Nat} {vs : List Value} (h : Vals w (.slice p m c) vs) : m = vs.length := by
  rcases h with ⟨rfl, p', c', e⟩ | ⟨b, off, cap, e, _⟩
  · injection e
  · injection e

theorem vals_cap {w : World} {p : Option Addr} {m c : Nat} {vs : List Value} (h : Vals w (.slice p m c) vs) (h0 : 1 ≤ m) : m ≤ c ∧ ∃ b off, p = some ⟨b, off, none⟩ := by
  rcases h with ⟨rfl, p', c', e⟩ | ⟨b, off, cap, e, h0, h1, _⟩
  · injection e with _ e2 _; omega
  · injection e with e1 e2 e3
    subst e3
    exact ⟨by omega, b, off, e1⟩

end Go.Proofs.YtfngadfkopfhcaaGreatDoor

/- Rows of twelve as search's arrays; contracts: search's rounds, times, pack. -/
namespace Go.Proofs.YtfngadfkopfhcaaGreatDoor
open Go.RowKit

end Go.Proofs.YtfngadfkopfhcaaGreatDoor

/- Maps that are sets of numbers: look, len, put, take out; what lies under a walk. -/
namespace Go.Proofs.YtfngadfkopfhcaaGreatDoor
open Go.RowKit Go.Maps Go.ChangeMaps
open Go.WideElems (rg)

/-- Block b is a map[int]int whose keys are these numbers, each once. -/
def ISet (w : World) (b : Nat) (ks : List Nat) : Prop :=
  ks.Nodup ∧ ∃ D : DataW Value, w.ownsMap Tryz.prog 3 heldElem b ks.length D ∧ Maps.size D = ks.length ∧ ∀ a : Nat, Maps.has D (.int .i64 (a : Int)) = decide (a ∈ ks)

theorem ISet.lt {w : World} {b : Nat} {ks : List Nat} (h : ISet w b ks) : b < w.heap.size := by
  obtain ⟨_, D, h1, _⟩ := h; exact h1.lt

theorem ISet.of_block {w w' : World} {b : Nat} {ks : List Nat} (h : ISet w b ks) (hb : w'.heap[b]? = w.heap[b]?) : ISet w' b ks := by
  obtain ⟨hn, D, ⟨es, c, h1, h2⟩, h3⟩ := h; exact ⟨hn, D, ⟨es, c, hb.trans h1, h2⟩, h3⟩

theorem int_lit_ne {x a : Nat} (e : x ≠ a) : (Lit.int .i64 (x : Int)) ≠ Lit.int .i64 (a : Int) := fun h => e (by have := (Lit.int.inj h).2; omega)

/-! at the operation -/
section
variable {ops : Array Oper} {rest : List Oper} {o : Oper} {a : Act} {w : World} {Q : Exit → Act → World → Prop}

end

/-- Below block number B all is as it was, but for two blocks. -/
structure Frm (B sb mb : Nat) (w w' : World) : Prop where
  os : w'.os = w.os
  tape : w'.tape = w.tape
  output : w'.output = w.output
  size : w.heap.size ≤ w'.heap.size
  block : ∀ b, b < B → b ≠ sb → b ≠ mb → w'.heap[b]? = w.heap[b]?

theorem Frm.refl (B sb mb : Nat) (w : World) : Frm B sb mb w w := ⟨rfl, rfl, rfl, Nat.le_refl _, fun _ _ _ _ => rfl⟩

theorem Frm.trans {B sb mb : Nat} {a b c : World} (h : Frm B sb mb a b) (k : Frm B sb mb b c) : Frm B sb mb a c :=
  ⟨k.os.trans h.os, k.tape.trans h.tape, k.output.trans h.output, Nat.le_trans h.size k.size, fun x h1 h2 h3 => (k.block x h1 h2 h3).trans (h.block x h1 h2 h3)⟩

theorem Frm.of_below {B sb mb X : Nat} {w w' : World} (h : Below X w w') (hX : B ≤ X) : Frm B sb mb w w' := ⟨h.os, h.tape, h.output, h.size, fun x h1 _ _ => h.block x (by omega)⟩

theorem Frm.below {B sb mb X : Nat} {w w' : World} (h : Frm B sb mb w w') (hX : X ≤ B) (h1 : X ≤ sb) (h2 : X ≤ mb) : Below X w w' := ⟨h.os, h.tape, h.output, h.size, fun x hx => h.block x (by omega) (by omega) (by omega)⟩

theorem Frm.set {B sb mb : Nat} {w w' : World} (h : Frm B sb mb w w') (j : Nat) (u : Value) : Frm B sb mb w (w'.setCell ⟨sb, j, none⟩ u) :=
  h.trans ⟨rfl, rfl, rfl, by simp [World.setCell], fun x _ h2 _ => Below.heap_setCell _ _ _ _ h2⟩

theorem Frm.turned {B sb mb : Nat} {w w' w'' : World} (h : Frm B sb mb w w') (ht : w'.mapTurned w'' mb) : Frm B sb mb w w'' := by
  obtain ⟨es, c, es', c', h1, rfl⟩ := ht
  refine h.trans ⟨rfl, rfl, rfl, by simp [setBlock], fun x _ _ h3 => ?_⟩
  simp [setBlock, Ne.symm h3]

theorem turned_block {w w' : World} {mb x : Nat} (ht : w.mapTurned w' mb) (hx : x ≠ mb) : w'.heap[x]? = w.heap[x]? := by
  obtain ⟨es, c, es', c', h1, rfl⟩ := ht
  simp [setBlock, Ne.symm hx]

theorem turned_size {w w' : World} {mb : Nat} (ht : w.mapTurned w' mb) : w'.heap.size = w.heap.size := by
  obtain ⟨es, c, es', c', h1, rfl⟩ := ht
  simp [setBlock]

theorem owns_block {w w' : World} {base e n : Nat} {v : Value} {xs : List Value} (h : w.ownsRow base e 1 v n xs) (hb : ∀ g, v.ownBlock = some g → w'.heap[g]? = w.heap[g]?) : w'.ownsRow base e 1 v n xs := by
  obtain ⟨h1, h2⟩ := h
  refine ⟨h1, ?_⟩
  rcases h2 with h2 | ⟨g, cap, cur, hv, hg, hh, r⟩
  · exact Or.inl h2
  · exact Or.inr ⟨g, cap, cur, hv, hg, (hb g (by rw [hv]; rfl)).trans hh, r⟩

theorem cells4 {w1 : World} {B : Nat} {a b c d : Value} {t : TypeId} (h : w1.heap[B]? = some (.cells #[a, b, c, d] t)) :
    w1.cell? ⟨B, 0, none⟩ = some a ∧ w1.cell? ⟨B, 1, none⟩ = some b ∧ w1.cell? ⟨B, 2, none⟩ = some c ∧ w1.cell? ⟨B, 3, none⟩ = some d ∧ w1.frozen? ⟨B, 0, none⟩ = false ∧ w1.frozen? ⟨B, 3, none⟩ = false := by
  simp [World.cell?, World.frozen?, h]

theorem set4 {w1 : World} {B : Nat} {a b c d : Value} {t : TypeId} (h : w1.heap[B]? = some (.cells #[a, b, c, d] t)) (u : Value) : (w1.setCell ⟨B, 3, none⟩ u).heap[B]? = some (.cells #[a, b, c, u] t) := by
  simp [World.setCell, Array.getElem?_modify, h]

end Go.Proofs.YtfngadfkopfhcaaGreatDoor

/- Maps that are sets of packed rows: look, len, put, take out. -/
namespace Go.Proofs.YtfngadfkopfhcaaGreatDoor
open Go.RowKit Go.Maps Go.ChangeMaps
open Go.WideElems (rg)

theorem laidS : laidOutB Tryz.prog = true := by kernel_rfl

theorem wf_i8_small (m : Nat) (h : m < 12) : (Lit.int .i8 (m : Int)).wf = true := by
  obtain rfl | rfl | rfl | rfl | rfl | rfl | rfl | rfl | rfl | rfl | rfl | rfl : m = 0 ∨ m = 1 ∨ m = 2 ∨ m = 3 ∨ m = 4 ∨ m = 5 ∨ m = 6 ∨ m = 7 ∨ m = 8 ∨ m = 9 ∨ m = 10 ∨ m = 11 := by omega
  all_goals decide

theorem okK_pm (x : Pm) : OkK .i8 x.l := ⟨x.len, fun z hz => by
  have := isRow_lt12 x.row (by rw [x.len]; exact Nat.le_refl _) z hz
  obtain ⟨m, rfl⟩ := Int.eq_ofNat_of_zero_le this.1
  exact wf_i8_small m (by simpa using this.2)⟩

end Go.Proofs.YtfngadfkopfhcaaGreatDoor

/- What lies under a search: rows of packed rows, leads; frames that spare one map. -/
namespace Go.Proofs.YtfngadfkopfhcaaGreatDoor
open Go.RowKit Go.Maps Go.ChangeMaps

/-- All that was there is as it was, but for one block. -/
structure TB (mb : Nat) (w w' : World) : Prop where
  os : w'.os = w.os
  tape : w'.tape = w.tape
  output : w'.output = w.output
  size : w.heap.size ≤ w'.heap.size
  block : ∀ b, b < w.heap.size → b ≠ mb → w'.heap[b]? = w.heap[b]?

theorem TB.refl (mb : Nat) (w : World) : TB mb w w := ⟨rfl, rfl, rfl, Nat.le_refl _, fun _ _ _ => rfl⟩

theorem TB.trans {mb : Nat} {a b c : World} (h : TB mb a b) (k : TB mb b c) : TB mb a c :=
  ⟨k.os.trans h.os, k.tape.trans h.tape, k.output.trans h.output, Nat.le_trans h.size k.size, fun x h1 h2 => (k.block x (Nat.lt_of_lt_of_le h1 h.size) h2).trans (h.block x h1 h2)⟩

theorem TB.below {mb : Nat} {a b c : World} (h : TB mb a b) (k : Below b.heap.size b c) : TB mb a c :=
  h.trans ⟨k.os, k.tape, k.output, k.size, fun x h1 _ => k.block x h1⟩

theorem TB.alloc {mb : Nat} {a b : World} (h : TB mb a b) (o : Obj) : TB mb a (b.alloc o) := h.below ((Below.refl _ _).alloc (Nat.le_refl _) _)

theorem TB.grown {mb D : Nat} {a b c : World} (h : TB mb a b) (hg : b.grownBy c (some D)) (hD : a.heap.size ≤ D) : TB mb a c :=
  ⟨hg.os.trans h.os, hg.tape.trans h.tape, hg.output.trans h.output, Nat.le_trans h.size hg.size, fun x h1 h2 => (hg.block x (Nat.lt_of_lt_of_le h1 h.size) (by intro e; injection e with e; omega)).trans (h.block x h1 h2)⟩

theorem TB.turned {mb : Nat} {a b c : World} (h : TB mb a b) (ht : b.mapTurned c mb) : TB mb a c := by
  obtain ⟨es, k, es', k', h1, rfl⟩ := ht
  refine h.trans ⟨rfl, rfl, rfl, by simp [setBlock], fun x _ h3 => ?_⟩
  simp [setBlock, Ne.symm h3]

theorem TB.drew {mb : Nat} {a b : World} (h : TB mb a b) : TB mb a b.drew := h.trans ⟨rfl, rfl, rfl, Nat.le_refl _, fun _ _ _ => rfl⟩

theorem TB.frm {mb B sb : Nat} {a b : World} (h : TB mb a b) (hB : B ≤ a.heap.size) : Frm B sb mb a b := ⟨h.os, h.tape, h.output, h.size, fun x h1 _ h3 => h.block x (by omega) h3⟩

/-- The slice value v reads as packed rows. -/
def PmsAt (w : World) (v : Value) (X : List Pm) : Prop :=
  (X = [] ∧ ∃ p c, v = .slice p 0 c) ∨
  ∃ b off cap, v = .slice (some ⟨b, off, none⟩) X.length cap ∧ 0 < X.length ∧ X.length ≤ cap ∧ cap ≤ 9223372036854775807 ∧ b < w.heap.size ∧
    ∀ j (hj : j < X.length), w.rangeAt b (off + j * 12) (X[j].l.map (Value.int .i8))

theorem PmsAt.form {w : World} {v : Value} {X : List Pm} (h : PmsAt w v X) : ∃ p cap, v = .slice p X.length cap := by
  rcases h with ⟨rfl, p, c, rfl⟩ | ⟨b, off, cap, h1, _⟩
  · exact ⟨p, c, rfl⟩
  · exact ⟨_, cap, h1⟩

theorem range_block {w w' : World} {b o : Nat} {cs : List Value} (h : w.rangeAt b o cs) (hb : w'.heap[b]? = w.heap[b]?) : w'.rangeAt b o cs := fun j v hv => by
  rw [World.cell?_of_block (w := w) (a := ⟨b, o + j, none⟩) hb]
  exact h j v hv

theorem range_not_map {w : World} {b o mb : Nat} {cs : List Value} {es : Array MapEntry} {k : Nat} (h : w.rangeAt b o cs) (hc : 0 < cs.length) (hm : w.heap[mb]? = some (.map es k)) : b ≠ mb := by
  intro e
  subst e
  have := h 0 cs[0] (by rw [List.getElem?_eq_getElem hc])
  simp [World.cell?, hm] at this

theorem PmsAt.below {w w' : World} {v : Value} {X : List Pm} (h : PmsAt w v X) (ht : Below w.heap.size w w') : PmsAt w' v X := by
  rcases h with h | ⟨b, off, cap, h1, h2, h3, h4, h5, h6⟩
  · exact Or.inl h
  · exact Or.inr ⟨b, off, cap, h1, h2, h3, h4, Nat.lt_of_lt_of_le h5 ht.size, fun j hj => range_block (h6 j hj) (ht.block b h5)⟩

/-- The first of them. -/
theorem PmsAt.cut {w : World} {b off cap k N : Nat} {X : List Pm} (h : PmsAt w (.slice (some ⟨b, off, none⟩) N cap) X) (hN : X.length = N) (hk : k ≤ N) : PmsAt w (.slice (some ⟨b, off, none⟩) k cap) (X.take k) := by
  rcases Nat.eq_zero_or_pos k with rfl | h0
  · exact Or.inl ⟨rfl, _, _, rfl⟩
  rcases h with ⟨rfl, _⟩ | ⟨b', off', cap', e, h2, h3, h4, h5, h6⟩
  · simp at hN; omega
  · obtain ⟨⟨rfl, rfl⟩, _, rfl⟩ : (b = b' ∧ off = off') ∧ N = X.length ∧ cap = cap' := by simpa using e
    have hl : (X.take k).length = k := by rw [List.length_take]; omega
    refine Or.inr ⟨b, off, cap, by rw [hl], by omega, by omega, h4, h5, fun j hj => ?_⟩
    rw [List.getElem_take]
    exact h6 j (by omega)

end Go.Proofs.YtfngadfkopfhcaaGreatDoor

/- Contracts: search's ring and silence. -/
namespace Go.Proofs.YtfngadfkopfhcaaGreatDoor
open Go.RowKit

/-- Rows of a lead, from a head on. -/
def rws (h : Pm) (X : List Pm) : List Pm := X.map (fun x => h * x)

theorem rws_length (h : Pm) (X : List Pm) : (rws h X).length = X.length := by simp [rws]

theorem rws_take_succ (h : Pm) (X : List Pm) {i : Nat} (hi : i < X.length) : rws h (X.take (i + 1)) = rws h (X.take i) ++ [h * X[i]] := by
  unfold rws; rw [List.take_succ_eq_append_getElem hi, List.map_append]; rfl

end Go.Proofs.YtfngadfkopfhcaaGreatDoor

/- Contract: search's silence. -/
namespace Go.Proofs.YtfngadfkopfhcaaGreatDoor
open Go.RowKit

theorem rws_drop (h : Pm) (X : List Pm) {i : Nat} (hi : i < X.length) : rws h (X.drop i) = h * X[i] :: rws h (X.drop (i + 1)) := by
  unfold rws; rw [List.drop_eq_getElem_cons hi, List.map_cons]

end Go.Proofs.YtfngadfkopfhcaaGreatDoor

/- Packed rows held against each other; plain: what a search finds. -/
namespace Go.Proofs.YtfngadfkopfhcaaGreatDoor
open Go.RowKit Go.Maps

theorem KeyT.lits {K E : TypeId} {q : IntKind} (h : KeyT K E q) {zs : List Int} (hz : OkK q zs) : (kv q zs).formed Tryz.prog K = true ∧ ∃ ls, Tryz.prog.keyLits (Tryz.prog.types.size + 1) K (kv q zs).cells.toList = some ls := by
  obtain ⟨hl, hw⟩ := hz
  have hf : (kv q zs).formed Tryz.prog K = true := by
    unfold kv Value.formed
    rw [h.arr]
    simp [h.cK, hl]
  refine ⟨hf, ?_⟩
  have hcs : (kv q zs).cells.toList = zs.map (Value.int q) := by simp [kv, Value.cells]
  rw [hcs]
  unfold Program.keyLits
  rw [h.arr]
  simp only
  rw [if_pos (by simp [h.cK, hl])]
  obtain ⟨ys, hys⟩ := mapM_some (fun i => Tryz.prog.keyLits Tryz.prog.types.size E (((zs.map (Value.int q)).drop (i * Tryz.prog.cellsOf E)).take (Tryz.prog.cellsOf E))) (List.range 12) (fun i hi => by
    have hi' : i < zs.length := by rw [hl]; simpa using hi
    refine ⟨[.int q zs[i]], ?_⟩
    rw [h.cE, Nat.mul_one]
    have e : ((zs.map (Value.int q)).drop i).take 1 = [.int q zs[i]] := by
      rw [List.drop_eq_getElem_cons (by simpa using hi')]
      simp
    rw [e]
    obtain ⟨d, hd⟩ : ∃ d, Tryz.prog.types.size = d + 1 := pos_succ _ (Nat.lt_of_le_of_lt (Nat.zero_le _) h.low)
    rw [hd]
    unfold Program.keyLits
    rw [h.int]
    simp [hw zs[i] (List.getElem_mem hi')])
  exact ⟨ys.flatten, by rw [hys]; rfl⟩

theorem KeyT.same {K E : TypeId} {q : IntKind} (h : KeyT K E q) {zs zs' : List Int} (hz : OkK q zs) (hz' : OkK q zs') (e : Tryz.prog.keyLits (Tryz.prog.types.size + 1) K (kv q zs).cells.toList = Tryz.prog.keyLits (Tryz.prog.types.size + 1) K (kv q zs').cells.toList) :
    keyOf Tryz.prog K (kv q zs) = keyOf Tryz.prog K (kv q zs') := by
  unfold keyOf
  rw [h.arr]
  simp only
  rw [(h.lits hz).1, (h.lits hz').1, e]

/-! what a search finds -/
section
open Classical

/-- Is a lead rung from a head on without a row that was rung? -/
def okl (S : List Pm) (h : Pm) (X : List Pm) : Prop := ((rws h X).reverse ++ S).Nodup

/-- All touches of so many leads more that are true and come round, in order. -/
noncomputable def sols (G : List (List Pm × Pm)) : Nat → List Pm → Pm → List (List Nat)
  | 0, _, h => if h = 1 then [[]] else []
  | l + 1, S, h => (List.range G.length).flatMap (fun c => if okl S h (G.getD c ([], 1)).1 then (sols G l ((rws h (G.getD c ([], 1)).1).reverse ++ S) (h * (G.getD c ([], 1)).2)).map (fun t => c :: t) else [])

/-- .. by one call. -/
noncomputable def solBy (G : List (List Pm × Pm)) (l : Nat) (S : List Pm) (h : Pm) (c : Nat) : List (List Nat) :=
  if okl S h (G.getD c ([], 1)).1 then (sols G l ((rws h (G.getD c ([], 1)).1).reverse ++ S) (h * (G.getD c ([], 1)).2)).map (fun t => c :: t) else []

/-- .. by the first calls. -/
noncomputable def solTo (G : List (List Pm × Pm)) (l : Nat) (S : List Pm) (h : Pm) (k : Nat) : List (List Nat) := (List.range k).flatMap (solBy G l S h)

end

theorem sols_succ (G : List (List Pm × Pm)) (l : Nat) (S : List Pm) (h : Pm) : sols G (l + 1) S h = solTo G l S h G.length := rfl

theorem solTo_succ (G : List (List Pm × Pm)) (l : Nat) (S : List Pm) (h : Pm) (k : Nat) : solTo G l S h (k + 1) = solTo G l S h k ++ solBy G l S h k := by
  unfold solTo; rw [List.range_succ, List.flatMap_append]; simp

/-- How many beginnings there are at most. -/
def bnd (C : Nat) : Nat → Nat
  | 0 => 0
  | l + 1 => C * (1 + bnd C l)

/-- What is found, so many at most. -/
def fnd (many : Nat) (F : List (List Nat)) (P : List Nat) (A : List (List Nat)) : List (List Nat) := (F ++ A.map (fun t => P ++ t)).take many

theorem fnd_nil {many : Nat} {F : List (List Nat)} (P : List Nat) (h : F.length ≤ many) : fnd many F P [] = F := by
  unfold fnd; rw [List.map_nil, List.append_nil, List.take_of_length_le h]

theorem fnd_full {many : Nat} {F : List (List Nat)} {P : List Nat} {A : List (List Nat)} (B : List (List Nat)) (h : ¬ (fnd many F P A).length < many) : fnd many F P (A ++ B) = fnd many F P A := by
  unfold fnd at h ⊢
  rw [List.map_append, ← List.append_assoc]
  have h1 : many ≤ (F ++ A.map (fun t => P ++ t)).length := by
    rw [List.length_take] at h
    omega
  rw [List.take_append_of_le_length h1]

theorem fnd_more {many : Nat} {F : List (List Nat)} {P : List Nat} {A : List (List Nat)} (B : List (List Nat)) (h : (fnd many F P A).length < many) : fnd many (fnd many F P A) P B = fnd many F P (A ++ B) := by
  have h1 : (F ++ A.map (fun t => P ++ t)).length < many := by
    unfold fnd at h
    rw [List.length_take] at h
    omega
  unfold fnd
  rw [List.take_of_length_le (Nat.le_of_lt h1), List.map_append, List.append_assoc]

theorem fnd_len (many : Nat) (F : List (List Nat)) (P : List Nat) (A : List (List Nat)) : (fnd many F P A).length ≤ many := by unfold fnd; rw [List.length_take]; omega

theorem fnd_call (many : Nat) (F : List (List Nat)) (P : List Nat) (c : Nat) (A : List (List Nat)) : fnd many F (P ++ [c]) A = fnd many F P (A.map (fun t => c :: t)) := by
  unfold fnd
  rw [List.map_map]
  congr 2
  refine List.map_congr_left (fun t _ => ?_)
  simp

end Go.Proofs.YtfngadfkopfhcaaGreatDoor

/- Plain: what a search finds is just what is true and comes round, in the order of lists. -/
namespace Go.Proofs.YtfngadfkopfhcaaGreatDoor
open Go.RowKit

/-- The rows of a touch from a head on, without the last one. -/
def tRows (G : List (List Pm × Pm)) : Pm → List Nat → List Pm
  | _, [] => []
  | h, c :: t => rws h (G.getD c ([], 1)).1 ++ tRows G (h * (G.getD c ([], 1)).2) t

/-- .. and the last one. -/
def tEnd (G : List (List Pm × Pm)) : Pm → List Nat → Pm
  | h, [] => h
  | h, c :: t => tEnd G (h * (G.getD c ([], 1)).2) t

theorem ltl_irrefl : ∀ x : List Nat, ¬ Ltl x x
  | [], h => h
  | a :: x, h => by
    rcases (show a < a ∨ (a = a ∧ Ltl x x) from h) with h1 | ⟨_, h1⟩
    · omega
    · exact ltl_irrefl x h1

theorem solBy_mem {G : List (List Pm × Pm)} {l : Nat} {S : List Pm} {h : Pm} {c : Nat} {t : List Nat} (ht : t ∈ solBy G l S h c) : ∃ u, t = c :: u := by
  unfold solBy at ht
  split at ht
  · obtain ⟨u, _, rfl⟩ := List.mem_map.1 ht
    exact ⟨u, rfl⟩
  · cases ht

theorem solTo_heads {G : List (List Pm × Pm)} {l : Nat} {S : List Pm} {h : Pm} {k : Nat} {t : List Nat} (ht : t ∈ solTo G l S h k) : ∃ c u, c < k ∧ t = c :: u := by
  unfold solTo at ht
  obtain ⟨c, hc, ht'⟩ := List.mem_flatMap.1 ht
  obtain ⟨u, rfl⟩ := solBy_mem ht'
  exact ⟨c, u, by simpa using hc, rfl⟩

theorem map_sorted {A : List (List Nat)} (c : Nat) (h : A.Pairwise Ltl) : (A.map (fun t => c :: t)).Pairwise Ltl := by
  rw [List.pairwise_map]
  exact h.imp (fun hab => Or.inr ⟨rfl, hab⟩)

theorem sols_sorted (G : List (List Pm × Pm)) : ∀ (l : Nat) (S : List Pm) (h : Pm), (sols G l S h).Pairwise Ltl
  | 0, S, h => by
    unfold sols
    split
    · exact List.pairwise_singleton _ _
    · exact List.Pairwise.nil
  | l + 1, S, h => by
    rw [sols_succ]
    have key : ∀ k, (solTo G l S h k).Pairwise Ltl := by
      intro k
      induction k with
      | zero => exact List.Pairwise.nil
      | succ k ih =>
        rw [solTo_succ, List.pairwise_append]
        refine ⟨ih, ?_, fun a ha b hb => ?_⟩
        · unfold solBy
          split
          · exact map_sorted k (sols_sorted G l _ _)
          · exact List.Pairwise.nil
        · obtain ⟨c, u, hc, rfl⟩ := solTo_heads ha
          obtain ⟨v, rfl⟩ := solBy_mem hb
          exact Or.inl hc
    exact key G.length

/-- Is a touch true from here on, and does it come round? -/
def TrueFrom (G : List (List Pm × Pm)) : List Pm → Pm → List Nat → Prop
  | _, h, [] => h = 1
  | S, h, c :: t => okl S h (G.getD c ([], 1)).1 ∧ TrueFrom G ((rws h (G.getD c ([], 1)).1).reverse ++ S) (h * (G.getD c ([], 1)).2) t

theorem sols_mem (G : List (List Pm × Pm)) : ∀ (l : Nat) (S : List Pm) (h : Pm) (t : List Nat), t ∈ sols G l S h ↔ t.length = l ∧ (∀ c, c ∈ t → c < G.length) ∧ TrueFrom G S h t
  | 0, S, h, t => by
    unfold sols
    constructor
    · intro ht
      split at ht
      · rename_i h1
        rw [List.mem_singleton] at ht
        subst ht
        exact ⟨rfl, (fun c hc => by cases hc), h1⟩
      · cases ht
    · rintro ⟨h1, _, h3⟩
      obtain rfl : t = [] := List.length_eq_zero_iff.1 h1
      rw [if_pos (show h = 1 from h3)]
      simp
  | l + 1, S, h, t => by
    rw [sols_succ]
    unfold solTo
    rw [List.mem_flatMap]
    constructor
    · rintro ⟨c, hc, ht⟩
      unfold solBy at ht
      split at ht
      · rename_i hok
        obtain ⟨u, hu, rfl⟩ := List.mem_map.1 ht
        obtain ⟨h1, h2, h3⟩ := (sols_mem G l _ _ u).1 hu
        refine ⟨by simp [h1], fun x hx => ?_, hok, h3⟩
        rcases List.mem_cons.1 hx with rfl | hx
        · simpa using hc
        · exact h2 x hx
      · cases ht
    · rintro ⟨h1, h2, h3⟩
      cases t with
      | nil => simp at h1
      | cons c u =>
        refine ⟨c, by simpa using h2 c (by simp), ?_⟩
        unfold solBy
        rw [if_pos h3.1]
        exact List.mem_map.2 ⟨u, (sols_mem G l _ _ u).2 ⟨by simpa using h1, fun x hx => h2 x (List.mem_cons_of_mem _ hx), h3.2⟩, rfl⟩

theorem trueFrom_iff (G : List (List Pm × Pm)) : ∀ (t : List Nat) (S : List Pm) (h : Pm), S.Nodup → (TrueFrom G S h t ↔ (S ++ tRows G h t).Nodup ∧ tEnd G h t = 1)
  | [], S, h, hS => by
    unfold TrueFrom tRows tEnd
    simp [hS]
  | c :: t, S, h, hS => by
    have hp : ((rws h (G.getD c ([], 1)).1).reverse ++ S).Perm (S ++ rws h (G.getD c ([], 1)).1) := List.perm_append_comm.trans ((List.reverse_perm _).append_left S)
    have hp2 : (((rws h (G.getD c ([], 1)).1).reverse ++ S) ++ tRows G (h * (G.getD c ([], 1)).2) t).Perm (S ++ tRows G h (c :: t)) := by
      refine (hp.append_right _).trans ?_
      rw [List.append_assoc]
      exact List.Perm.refl _
    constructor
    · rintro ⟨hok, h2⟩
      obtain ⟨h3, h4⟩ := (trueFrom_iff G t _ _ hok).1 h2
      exact ⟨hp2.nodup_iff.1 h3, h4⟩
    · rintro ⟨h3, h4⟩
      have h5 := hp2.nodup_iff.2 h3
      have hok : okl S h (G.getD c ([], 1)).1 := (List.nodup_append.1 h5).1
      exact ⟨hok, (trueFrom_iff G t _ _ hok).2 ⟨h5, h4⟩⟩

/-- What a search for so many leads finds. -/
theorem found_iff (G : List (List Pm × Pm)) (l : Nat) (t : List Nat) : t ∈ sols G l [] 1 ↔ t.length = l ∧ (∀ c, c ∈ t → c < G.length) ∧ (tRows G 1 t).Nodup ∧ tEnd G 1 t = 1 := by
  rw [sols_mem, trueFrom_iff G t [] 1 List.nodup_nil, List.nil_append]

/-- What is not among the first so many is behind the last of them. -/
theorem behind {A : List (List Nat)} (hA : A.Pairwise Ltl) {g : List Nat} (hg : g ∈ A) {m : Nat} (hm : 1 ≤ m) (hno : g ∉ A.take m) : (A.take m).length = m ∧ Ltl ((A.take m).getD (m - 1) []) g := by
  obtain ⟨j, hj, e⟩ := List.getElem_of_mem hg
  have hmj : m ≤ j := by
    rcases Nat.lt_or_ge j m with h | h
    · exfalso
      apply hno
      rw [← e, show A[j] = (A.take m)[j]'(by rw [List.length_take]; omega) from by rw [List.getElem_take]]
      exact List.getElem_mem _
    · exact h
  have hl : (A.take m).length = m := by rw [List.length_take]; omega
  refine ⟨hl, ?_⟩
  rw [List.getD, List.getElem?_eq_getElem (by omega), Option.getD_some, List.getElem_take, ← e]
  exact List.pairwise_iff_getElem.1 hA (m - 1) j (by omega) hj (by omega)

theorem fnd_top (many : Nat) (A : List (List Nat)) : fnd many [] [] A = A.take many := by
  unfold fnd
  rw [List.nil_append]
  congr 1
  exact (List.map_congr_left (fun t _ => List.nil_append t)).trans (List.map_id _)

/-- A touch from a head on is the touch, changed. -/
theorem tRows_head (G : List (List Pm × Pm)) : ∀ (t : List Nat) (h k : Pm), tRows G (h * k) t = (tRows G k t).map (fun x => h * x) ∧ tEnd G (h * k) t = h * tEnd G k t
  | [], h, k => ⟨rfl, rfl⟩
  | c :: t, h, k => by
    obtain ⟨h1, h2⟩ := tRows_head G t h (k * (G.getD c ([], 1)).2)
    constructor
    · show rws (h * k) _ ++ tRows G (h * k * _) t = (rws k _ ++ tRows G (k * _) t).map _
      rw [List.map_append, ← h1, Pm.mul_assoc]
      congr 1
      unfold rws
      rw [List.map_map]
      exact List.map_congr_left (fun x _ => Pm.mul_assoc h k x)
    · show tEnd G (h * k * _) t = h * tEnd G (k * _) t
      rw [← h2, Pm.mul_assoc]

end Go.Proofs.YtfngadfkopfhcaaGreatDoor

/- Contract: the answer's TouchRows. -/
namespace Go.Proofs.YtfngadfkopfhcaaGreatDoor
open Go.RowKit
set_option maxRecDepth 20000
set_option linter.unusedVariables false

theorem frW_prd (n : Nat) (F A : List (List Bool)) (j : Nat) : frW (prd n F) A j = prd n (F ++ A.take j) := by
  unfold frW prd
  rw [List.foldl_append]

/-- A lead more. -/
theorem leadTo_more (n : Nat) (F A : List (List Bool)) {k : Nat} (hF : F.length = k) : leadTo n (F ++ A) (k + A.length) = leadTo n F k ++ (frL (prd n F) A A.length).drop 1 := by
  unfold leadTo frL
  rw [show k + A.length + 1 = (k + 1) + A.length from by omega, List.range_add, List.map_append]
  congr 1
  · refine List.map_congr_left (fun j hj => ?_)
    have hj' : j < k + 1 := by simpa using hj
    rw [List.take_append_of_le_length (by omega)]
  · rw [List.map_map]
    have : (List.range (A.length + 1)) = 0 :: (List.range A.length).map (fun j => j + 1) := by
      rw [List.range_succ_eq_map]
    rw [this, List.map_cons, List.drop_succ_cons, List.drop_zero, List.map_map]
    refine List.map_congr_left (fun j _ => ?_)
    show prd n ((F ++ A).take (k + 1 + j)) = frW (prd n F) A (j + 1)
    rw [frW_prd]
    congr 1
    rw [show k + 1 + j = F.length + (j + 1) from by omega, List.take_length_add_append]

theorem allOf_snoc (ts : List (List Bool)) (SS : List (List (List Bool))) (t : List Nat) (c : Nat) : allOf ts SS (nI (t ++ [c])) = allOf ts SS (nI t) ++ calledBy ts (SS.getD c []) := by
  simp [allOf, nI]

theorem take_snocN {t : List Nat} {k : Nat} (h : k < t.length) : t.take (k + 1) = t.take k ++ [t.getD k 0] := by
  rw [List.take_succ_eq_append_getElem h]
  simp [List.getD, List.getElem?_eq_getElem h]

theorem OwnAll.drop {w : World} {base : Nat} : ∀ {us : List Value} {xs : List (List Int)} (k : Nat), OwnAll w base us xs → OwnAll w base (us.drop k) (xs.drop k)
  | us, xs, 0, h => h
  | [], [], k + 1, _ => trivial
  | u :: us, x :: xs, k + 1, h => OwnAll.drop k h.2
  | [], _ :: _, _ + 1, h => h.elim
  | _ :: _, [], _ + 1, h => h.elim

end Go.Proofs.YtfngadfkopfhcaaGreatDoor

/- Contract: the answer's Line. -/
namespace Go.Proofs.YtfngadfkopfhcaaGreatDoor
open Go.RowKit
set_option maxRecDepth 20000
set_option linter.unusedVariables false

theorem idx_first (x : Int) : ∀ (r : List Int) (k j : Nat), j < r.length → r.getD j 0 = x → (∀ i, i < j → r.getD i 0 ≠ x) → idx x r k = ((k + j : Nat) : Int)
  | [], k, j, h, _, _ => by simp at h
  | y :: r, k, 0, _, h, _ => by
    have : y = x := by simpa using h
    unfold idx; rw [if_pos this.symm]; rfl
  | y :: r, k, j + 1, h, h1, h2 => by
    have hy : y ≠ x := by simpa using h2 0 (by omega)
    unfold idx
    rw [if_neg (fun e => hy e.symm), idx_first x r (k + 1) j (by simpa using h) (by simpa using h1) (fun i hi => by simpa using h2 (i + 1) (by omega))]
    congr 1; omega

theorem idx_undo {r zs : List Int} (hr : isRow r) (hz : Undoes zs r) {x : Nat} (hx : x < r.length) : zs.getD x 0 = idx (x : Int) r 0 := by
  obtain ⟨j, hj, h1, h2⟩ := undoes_at hr hz hx
  rw [h2, idx_first (x : Int) r 0 j hj h1 (fun i hi e => by have := hr.inj (by omega) hj (e.trans h1.symm); omega)]
  simp

theorem frL_lead (n : Nat) (ts : List (List Bool)) (k : Nat) : frL (rnd n) ts k = leadTo n ts k := by
  unfold frL leadTo
  apply List.map_congr_left
  intro j _
  have := frW_prd n [] ts j
  rwa [List.nil_append] at this

/-- Rounds and the rows from there: what the law's first rows are. -/
def FromPost (R : List (List Int)) (w : World) (e : Ending) (w' : World) : Prop := ∃ v vs, e = .returned v ∧ LL w' w.heap.size v vs R ∧ Below w.heap.size w w'

set_option maxHeartbeats 4000000 in
theorem rline_ok (s : ByteArray) (n : Nat) (v : Value) (ts : List (List Bool)) (x : Nat) (w : World) (h1 : 2 ≤ n) (h2 : n ≤ 12) (hl1 : 1 ≤ ts.length) (hl2 : ts.length ≤ 200) (hts : ∀ t, t ∈ ts → tsz t = n) (hv : IntsAll w v (ts.map tpl)) (hx : x < n) :
    Calls Tryz.prog 22 #[.agg #[.string s, .int .i64 n, v], .int .i64 x] w fun e w' => ∃ u, e = .returned u ∧ Ints w' u (lin (leadTo n ts ts.length) x) ∧ Below w.heap.size w w' := by
  obtain ⟨i0, hi, hz0, hz1, hz2⟩ := info_parts Tryz.info3
  obtain ⟨vp, vc, hve⟩ := hv.len
  rw [List.length_map] at hve
  subst hve
  have HFR := hide (fun base rv W (hb : Below w.heap.size w W) (hbase : base ≤ W.heap.size) hown => rfrom_ok base rv (rnd n) n _ ts W (isRow_rnd n) (rnd_length n) (by omega) h2 hown hts hl1 (by omega) (hv.below hb) hbase)
  rw [frL_lead] at HFR
  have hx0 := Box.start w s n (.slice vp ts.length vc) 24
  have c1 := hx0.c1
  have c2 := hx0.c2
  have hlt := hx0.lt
  have HB0 := hide (mbe w s n (.slice vp ts.length vc))
  have HRL : Hid (∀ r, r ∈ leadTo n ts ts.length → isRow r ∧ r.length = n) := fun r hr => by
    unfold leadTo at hr
    obtain ⟨j, _, rfl⟩ := List.mem_map.1 hr
    exact prd_row n (ts.take j) (fun t ht => hts t (List.mem_of_mem_take ht))
  have HLL := hide (leadTo_length n ts ts.length)
  generalize leadTo n ts ts.length = R at *
  generalize ts.length = K at *
  clear hv hts hx0
  go_enter Tryz.func22, Tryz.ntmps22
  go_upto_region 1 with fail
  generalize w.alloc (.cells #[.string s, .int .i64 n, .slice vp K vc] 24) = WA at *
  refine wp_region_held_drew (S := fun W' => Below WA.heap.size WA W') (by kernel_rfl) (Below.refl WA.heap.size WA).drew (fun hS => ?_)
  refine wpAnyH_take (i := 0) (v := .pointer (some ⟨w.heap.size, 1, none⟩)) rfl (by kernel_rfl) (by kernel_rfl) (by kernel_rfl) (fun _ _ _ h => h) (Or.inl ⟨by kernel_rfl, fun w' hS' => by clear hS'; go_simp⟩) hS ?_
  refine wpAnyH_take (i := 1) (v := .int .i64 (n : Int)) rfl (by kernel_rfl) (by kernel_rfl) (by kernel_rfl) (fun _ _ _ h => h) (Or.inl ⟨by kernel_rfl, fun w' hS' => by have q1 := (Below.cell hS' (p := ⟨w.heap.size, 1, none⟩) hlt).trans c1; clear hS'; go_simp⟩) hS ?_
  refine wpAnyH_take (i := 3) (v := .pointer (some ⟨w.heap.size, 2, none⟩)) rfl (by kernel_rfl) (by kernel_rfl) (by kernel_rfl) (fun _ _ _ h => h) (Or.inl ⟨by kernel_rfl, fun w' hS' => by clear hS'; go_simp⟩) hS ?_
  refine wpAnyH_take (i := 4) (v := .slice vp K vc) rfl (by kernel_rfl) (by kernel_rfl) (by kernel_rfl) (fun _ _ _ h => h) (Or.inl ⟨by kernel_rfl, fun w' hS' => by have q2 := (Below.cell hS' (p := ⟨w.heap.size, 2, none⟩) hlt).trans c2; clear hS'; go_simp⟩) hS ?_
  have HS0 := hide hS
  refine wpAnyH_ready (rs := [2]) (by kernel_rfl) (by simp) ?_
  refine AllReadyH.cons rfl (fun K9 hK => ?_) AllReadyH.nil
  go_simp
  refine (rrounds_ok n _ (by omega)).mono ?_
  rintro e w1 ⟨rv, rfl, hrv, hb1⟩
  have hb1' : Below WA.heap.size WA w1 := Below.trans HS0.out hb1
  refine hK.out _ _ hb1' (fun hS => ?_)
  clear hK
  have HFF := hide (HFR.out _ rv w1 (HB0.out.trans (hb1'.mono HB0.out.size)) hb1.size hrv)
  refine wpAnyH_ready (rs := [5]) (by kernel_rfl) (by simp) ?_
  refine AllReadyH.cons rfl (fun K9 hK => ?_) AllReadyH.nil
  go_simp
  refine HFF.out.mono ?_
  rintro e w2 ⟨lv, lvs, rfl, hL, _, hb2⟩
  have hb2' : Below WA.heap.size WA w2 := hb1'.trans (hb2.mono hb1'.size)
  have hvl : lvs.length = K + 1 := by rw [hL.len]; exact HLL.out
  obtain ⟨g, uc, rfl, hg1, hg2, huc, huc2⟩ := owns_form hL.row (by omega)
  rw [hvl] at huc
  refine hK.out _ _ hb2' (fun hS => ?_)
  clear hK
  rw [hvl]
  refine wpAnyH_take (i := 6) (v := .slice (some ⟨g, 0, none⟩) (K + 1) uc) rfl (by kernel_rfl) (by kernel_rfl) (by kernel_rfl) (fun _ _ _ h => h) (Or.inl ⟨by kernel_rfl, fun w' hS' => by clear hS'; go_simp⟩) hS ?_
  refine wpAnyH_done (by kernel_rfl) ?_ _
  have HL := hide hL
  have HVL := hide hvl
  have HBW := hide (HB0.out.trans (hb2'.mono HB0.out.size))
  clear hS hb1 hb1' hb2 hb2' hL hvl hrv HFF HFR HS0 c1 c2
  go_wp2
  go_loopw [6, 7] (fun vv i wr => ∃ (v9 : Value) (k : Nat) (xs : List Int), v9 = vv ∧ k ≤ K + 1 ∧ i = .int .i64 k ∧ Hid (xs = (lin R x).take k) ∧ Hid (xs.length = k) ∧ Hid (StlW w2 wr v9 xs)) (fun _ i _ => K + 1 - (intOf i).toNat)
  case atStart => exact ⟨_, 0, [], rfl, by omega, rfl, rfl, rfl, ⟨World.ownsRow_nil _ _ _ _, Below.refl _ _⟩⟩
  case round =>
    obtain ⟨v9, k, xs, hvv, hk, rfl, hx1, hxl, hW⟩ := hrel
    subst hvv
    by_cases hlt : k < K + 1
    · have hLr := HL.out.below hW.out.below
      have hrow := hLr.at (k := k) (by rw [HLL.out]; exact hlt)
      have hcell := hLr.row.cells (g := g) rfl k (lvs.getD k undef) (by simp [List.getD, show k < lvs.length from by rw [HVL.out]; exact hlt])
      rw [Addr.add_lit, Nat.zero_add] at hcell
      have hrl : isRow (R.getD k []) ∧ (R.getD k []).length = n := HRL.out _ (by rw [List.getD_eq_getElem?_getD, List.getElem?_eq_getElem (by rw [HLL.out]; exact hlt)]; exact List.getElem_mem _)
      have HUN := hide (undo_own _ (R.getD k []) wr (Ints.own hrow) hrl.1 (by omega) (by omega))
      rw [hrl.2] at HUN
      obtain ⟨g', rc, hvf, _⟩ := owns_form hrow (by omega)
      rw [hvf, hrl.2] at hcell
      rw [hvf, hrl.2] at HUN
      have HXK : Hid (∀ zs, Undoes zs (R.getD k []) → xs ++ [zs.getD x 0 + 1] = (lin R x).take (k + 1)) := fun zs hz => by
        show _ = _
        rw [List.take_add_one, hx1.out]
        congr 1
        unfold lin
        rw [List.getElem?_map, List.getElem?_eq_getElem (by rw [HLL.out]; exact hlt)]
        rw [idx_undo hrl.1 hz (by rw [hrl.2]; exact hx)]
        simp [List.getD, show k < R.length from by rw [HLL.out]; exact hlt]
      have HZB : Hid (∀ zs, Undoes zs (R.getD k []) → zs.length = n ∧ 0 ≤ zs.getD x 0 ∧ zs.getD x 0 < 12) := fun zs hz => by
        obtain ⟨j, hj, _, h9⟩ := undoes_at hrl.1 hz (i := x) (by rw [hrl.2]; exact hx)
        refine ⟨hz.1.trans hrl.2, by omega, by rw [h9]; have := hrl.2; omega⟩
      have HW := hide hW.out
      generalize R.getD k [] = rk at *
      clear hLr hrow hvf hrl hW
      go_wp2_with fail
      refine HUN.out.mono ?_
      rintro e w3 ⟨uv, zs, rfl, hu, hund, hb3⟩
      obtain ⟨gu, cu, rfl, hgu1, hgu2, hcu, hcu2⟩ := owns_form hu (by omega)
      have HX2 := hide (HXK.out zs hund)
      have hzb := HZB.out zs hund
      have hux := (owns_cell hu (j := x) hx).1
      generalize zs.getD x 0 = y at *
      have hbw := HW.out.below.trans (hb3.mono HW.out.below.size)
      have hbs := hbw.size
      have hrow := owns_below HW.out.own hb3 (Nat.le_refl _)
      obtain ⟨up, uc9, rfl⟩ := owns_slice hrow
      have hy1 : y + 1 ≤ 12 := by omega
      have hy0 : 0 ≤ y := hzb.2.1
      have HXL := hide hxl.out
      have hxl2 := hxl.out
      generalize hM : xs.length = M at *
      have hM2 : M ≤ 201 := by omega
      replace hM := hide hM
      clear hu hund hb3 HUN HXK HZB hx1 hxl hzb hxl2
      go_wp2_with (at_builtin; refine wpList_append_own _ rfl _ _ 30 rfl w2.heap.size 3 i0 (.int .i64 0) 1 8 Tryz.underlying30 hi hz0 hz1 hz2 rfl (by decide) _ _ _ rfl (hrow.alloc _) ⟨w3.heap.size, 0, none⟩ 1 1 [.int .i64 (y + 1)] rfl rfl ?c1 ?c2 ?c3 ?c4 ?c5 ?_)
      case c1 => exact cell_one_new _ _ _
      case c2 => intro u hu; simp at hu; subst hu; rfl
      case c3 => unfold maxLen; omega
      case c4 => omega
      case c5 => simp; omega
      intro v' w5 hown5 hgrow _
      have HW5 : Hid (StlW w2 w5 v' (xs ++ [y + 1])) := by
        refine ⟨?_, ?_⟩
        · rw [List.length_append, hM.out, List.map_append]; exact hown5
        · exact (hbw.alloc hbs _).grown hgrow (by simp; omega) (fun g hg => (hrow.lt g hg).1)
      have HXL2 : Hid ((xs ++ [y + 1]).length = k + 1) := by show _ = _; rw [List.length_append, hM.out, HXL.out]; rfl
      clear hown5 hgrow hrow hcell hM HW HXL
      go_wp2
      go_roundw
      case rel =>
        have hfin : ∃ (v9 : Value) (k' : Nat) (xs : List Int), v9 = v' ∧ k' ≤ K + 1 ∧ Value.int .i64 ((k : Int) + 1) = .int .i64 (k' : Int) ∧ Hid (xs = (lin R x).take k') ∧ Hid (xs.length = k') ∧ Hid (StlW w2 w5 v9 xs) := ⟨_, k + 1, _, rfl, by omega, by go_num, HX2, HXL2, HW5⟩
        first
          | exact hfin
          | ((repeat apply Exists.intro); exact ⟨hfin, rfl⟩)
      case measure => simp [intOf]; omega
    · obtain rfl : k = K + 1 := by omega
      have HF : Hid (Ints wr v9 (lin R x) ∧ Below w.heap.size w wr) := by
        have e : xs = lin R x := by rw [hx1.out]; exact List.take_of_length_le (by unfold lin; rw [List.length_map, HLL.out]; exact Nat.le_refl _)
        rw [← e]
        exact ⟨Ints.own hW.out.own, HBW.out.trans (hW.out.below.mono HBW.out.size)⟩
      go_wp2
      go_ret
      exact ⟨_, rfl, HF.out.1, HF.out.2⟩

end Go.Proofs.YtfngadfkopfhcaaGreatDoor

/- The law's part methodCourse. -/
namespace Go.Proofs.YtfngadfkopfhcaaGreatDoor
open Go.RowKit
set_option maxRecDepth 20000
set_option linter.unusedVariables false

theorem OwnAll.takeM {w : World} {base : Nat} : ∀ {us : List Value} {xs : List (List Int)} (m : Nat), OwnAll w base us xs → OwnAll w base (us.take m) (xs.take m)
  | [], [], m, _ => by simp; trivial
  | [], _ :: _, _, h => by exact absurd h (by intro h; exact h)
  | _ :: _, [], _, h => by exact absurd h (by intro h; exact h)
  | u :: us, x :: xs, 0, h => trivial
  | u :: us, x :: xs, m + 1, h => ⟨h.1, OwnAll.takeM m h.2⟩

theorem frL_crs (n : Nat) (ts : List (List Bool)) (hts : ∀ t, t ∈ ts → tsz t = n) (a : Nat) : ∀ b, b ≤ ts.length → crs n ts (a * ts.length) ++ (frL (pw (prd n ts) a) ts ts.length).take b = crs n ts (a * ts.length + b)
  | 0, _ => by simp
  | b + 1, h => by
    have hpl : (pw (prd n ts) a).length = n := by rw [pw_length]; exact (prd_row n ts hts).2
    rw [← Nat.add_assoc, crs_snoc n ts a b (by omega), ← frL_crs n ts hts a b (by omega), List.append_assoc]
    congr 1
    rw [List.take_add_one]
    congr 1
    unfold frL
    rw [List.getElem?_map, List.getElem?_range (by omega)]
    show [frW (pw (prd n ts) a) ts b] = _
    unfold frW
    rw [fold_by n (ts.take b) _ hpl (fun t ht => hts t (List.mem_of_mem_take ht))]

theorem frW_pw {n : Nat} {ts : List (List Bool)} (hts : ∀ t, t ∈ ts → tsz t = n) (a : Nat) : frW (pw (prd n ts) a) ts ts.length = pw (prd n ts) (a + 1) := by
  have hp := prd_row n ts hts
  unfold frW
  rw [List.take_of_length_le (Nat.le_refl _), fold_by n ts _ (by rw [pw_length]; exact hp.2) hts, pw_succ hp.1]

structure CoR (w2 wr : World) (n : Nat) (ts : List (List Bool)) (a : Nat) (u : Value) (vs : List Value) (rv : Value) : Prop where
  ll : LL wr w2.heap.size u vs (crs n ts (a * ts.length))
  row : wr.ownsRow w2.heap.size 3 1 rv n ((pw (prd n ts) a).map (Value.int .i64))
  below : Below w2.heap.size w2 wr

set_option maxHeartbeats 4000000 in
theorem mcourse_ok (s : ByteArray) (n : Nat) (v lead : Value) (ts : List (List Bool)) (w : World) (hs : s.size ≤ 9223372036854775807) (hn : nm s = true) (h1 : 2 ≤ n) (h2 : n ≤ 12) (hl1 : 1 ≤ ts.length) (hl2 : ts.length ≤ 200) (hts : ∀ t, t ∈ ts → tsz t = n) (hv : IntsAll w v (ts.map tpl)) :
    Calls Tryz.prog 23 #[meth s n v, lead, .int .i64 ((ord (prd n ts) : Nat) : Int)] w fun e w' => e = .returned (.bool true) ∧ Below w.heap.size w w' := by
  obtain ⟨j0, hj, hq0, hq1, hq2⟩ := info_parts Tryz.info30
  obtain ⟨vp, vc, hve⟩ := hv.len
  rw [List.length_map] at hve
  subst hve
  have hp := prd_row n ts hts
  have hop := ord_pos hp.1 (by rw [hp.2]; exact h2)
  have hfb : ord (prd n ts) * ts.length ≤ 200000000000000000 := Nat.le_trans (Nat.mul_le_mul hop.2 hl2) (by decide)
  have hx0 := Box.start w s n (.slice vp ts.length vc) 24
  have HX := hide hx0
  have hb0 := mbe w s n (.slice vp ts.length vc)
  have HB0 := hide hb0
  by_cases hfit : ord (prd n ts) * ts.length ≤ 20000
  · have HCO := hide (course_ok s n _ ts _ hs hn h1 h2 hl1 hl2 hts (hv.below hb0) hfit)
    have HCL := hide (crs_length n ts (ord (prd n ts) * ts.length))
    by_cases h1000 : 1000 < ord (prd n ts) * ts.length
    · clear hv hx0
      generalize crs n ts (ord (prd n ts) * ts.length) = R at *
      have hmul : ((ord (prd n ts) : Nat) : Int) * ((ts.length : Nat) : Int) = ((ord (prd n ts) * ts.length : Nat) : Int) := by simp
      have HMU := hide hmul
      generalize hOK : ord (prd n ts) * ts.length = M at *
      clear hOK
      generalize ord (prd n ts) = o at *
      generalize ts.length = K at *
      have q1 : ¬ 20000 < (o : Int) * (K : Int) := by rw [HMU.out]; omega
      have q2 : 1000 < (o : Int) * (K : Int) := by rw [HMU.out]; omega
      have q3 : (o : Int) * (K : Int) ≤ 9223372036854775807 := by rw [HMU.out]; omega
      have q4 : 0 ≤ (o : Int) * (K : Int) := by rw [HMU.out]; omega
      clear hmul hts hn hp
      unfold meth at *
      go_enter Tryz.func23, Tryz.ntmps23
      go_wp2_with fail
      refine HCO.out.mono ?_
      rintro e w2 ⟨u, vs, rfl, hL, hb2⟩
      have hvl : vs.length = M := by rw [hL.len]; exact HCL.out
      obtain ⟨up, uc, rfl⟩ := owns_slice hL.row
      rw [hvl]
      have k2 := (HX.out.below hb2).c2
      have HF := hide (HB0.out.trans (hb2.mono HB0.out.size))
      have q5 : (((M : Nat) : Int) == (o : Int) * (K : Int)) = true := by rw [HMU.out]; exact beq_self_eq_true _
      clear hL hb2 hvl HCO HX HCL
      go_wp2
      go_ret
      exact ⟨by first | rfl | simp, HF.out⟩
    · have HFR := hide (fun a rv W (hb : Below w.heap.size w W) base (hbase : base ≤ W.heap.size) hown => rfrom_ok base rv (pw (prd n ts) a) n _ ts W (isRow_pw hp.1 a) (by rw [pw_length]; exact hp.2) (by omega) h2 hown hts hl1 (by omega) (hv.below hb) hbase)
      have HCR := hide (fun a => frL_crs n ts hts a ts.length (Nat.le_refl _))
      have HPW := hide (fun a => frW_pw hts a)
      have HP0 : Hid (pw (prd n ts) 0 = rnd n) := by show _ = _; rw [pw_zero, hp.2]
      have hmul : ((ord (prd n ts) : Nat) : Int) * ((ts.length : Nat) : Int) = ((ord (prd n ts) * ts.length : Nat) : Int) := by simp
      have HMU := hide hmul
      have hoK : ord (prd n ts) ≤ 1000 := Nat.le_trans (Nat.le_mul_of_pos_right (ord (prd n ts)) (show 0 < ts.length by omega)) (Nat.le_of_not_lt h1000)
      generalize ord (prd n ts) = o at *
      have q1 : ¬ 20000 < (o : Int) * ((ts.length : Nat) : Int) := by rw [HMU.out]; omega
      have q2 : ¬ 1000 < (o : Int) * ((ts.length : Nat) : Int) := by rw [HMU.out]; omega
      have q3 : (o : Int) * ((ts.length : Nat) : Int) ≤ 9223372036854775807 := by rw [HMU.out]; omega
      have q4 : 0 ≤ (o : Int) * ((ts.length : Nat) : Int) := by rw [HMU.out]; omega
      have HTS := hide hts
      clear hmul hts hn hp hv hx0 HCL
      unfold meth at *
      go_enter Tryz.func23, Tryz.ntmps23
      go_wp2_with fail
      refine HCO.out.mono ?_
      rintro e w2 ⟨cu, cvs, rfl, hL, hb2⟩
      obtain ⟨cp, cc, rfl⟩ := owns_slice hL.row
      have hx2 := HX.out.below hb2
      have k1 := hx2.c1
      have k2 := hx2.c2
      have hlb := hx2.lt
      have HX2 := hide hx2
      have HBW := hide (HB0.out.trans (hb2.mono HB0.out.size))
      have HIC := hide hL.ints
      clear hL hb2 HCO HX HB0 hx2
      generalize cvs.length = CL at *
      go_wp2_with fail
      refine (rrounds_ok n w2 (by omega)).mono ?_
      rintro e w3 ⟨rv, rfl, hrv, hb3⟩
      have HR0 : Hid (CoR w2 w3 n ts 0 (.slice none 0 0) [] rv) := ⟨by rw [Nat.zero_mul]; exact LL.nil _ _, by rw [HP0.out]; exact hrv, hb3⟩
      clear hrv hb3 k1
      go_wp2
      go_loopw [9, 10, 11] (fun u r i wr => ∃ (u9 r9 : Value) (a : Nat) (vs : List Value), u9 = u ∧ r9 = r ∧ a ≤ o ∧ i = .int .i64 a ∧ Hid (CoR w2 wr n ts a u9 vs r9)) (fun _ _ i _ => o - (intOf i).toNat)
      case atStart => exact ⟨_, _, 0, [], rfl, rfl, by omega, rfl, HR0⟩
      case round =>
        obtain ⟨u9, r9, a, vs, hu9, hr9, ha, rfl, hR⟩ := hrel
        subst hu9
        subst hr9
        clear HR0
        by_cases hlt : a < o
        · have hbw := hR.out.below
          have hk2 := (HX2.out.below hbw).c2
          have HFF := hide (HFR.out a r9 wr (HBW.out.trans (hbw.mono HBW.out.size)) w2.heap.size hbw.size hR.out.row)
          have hvl : vs.length = a * ts.length := by rw [hR.out.ll.len, crs_length]
          have haK : a * ts.length ≤ 1000 := Nat.le_trans (Nat.mul_le_mul_right _ ha) (by omega)
          have HRR := hide hR.out
          clear k2 hR
          go_wp2_with fail
          refine HFF.out.mono ?_
          rintro e w4 ⟨fv, fs, rfl, hfl, hfo, hb4⟩
          have hfsl : fs.length = ts.length + 1 := by rw [hfl.len, frL_length]
          obtain ⟨fg, fc, rfl, hfg1, hfg2, hfc1, hfc2⟩ := owns_form hfl.row (by omega)
          have HFV := hide (Vals.take (k := ts.length) (Vals.own hfl.row) (by omega))
          have HFA := hide (OwnAll.takeM ts.length hfl.all)
          have HFC := hide (fun u hu => OwnAll.cells hfl.all u (List.mem_of_mem_take (i := ts.length) hu))
          have HTL : Hid ((fs.take ts.length).length = ts.length) := by show _ = _; rw [List.length_take, hfsl]; omega
          have hlast := hfl.at (k := ts.length) (by rw [frL_length]; omega)
          have hlc := hfl.row.cells (g := fg) rfl ts.length (fs.getD ts.length undef) (by simp [List.getD, show ts.length < fs.length from by omega])
          rw [Addr.add_lit, Nat.zero_add] at hlc
          have hle : (frL (pw (prd n ts) a) ts ts.length).getD ts.length [] = pw (prd n ts) (a + 1) := by
            rw [← HPW.out a]
            unfold frL
            simp [List.getD]
          rw [hle] at hlast
          have hpl : (pw (prd n ts) (a + 1)).length = n := by rw [pw_length]; exact (prd_row n ts HTS.out).2
          rw [hpl] at hlast
          obtain ⟨lg, lc, hlv, hlg1, hlg2, _⟩ := owns_form hlast (by omega)
          rw [hlv] at hlc hlast
          have hB4 := hbw.trans (hb4.mono hbw.size)
          have HLL4 := hide (HRR.out.ll.below hb4)
          have hrow4 := HLL4.out.row
          rw [hvl] at hrow4
          have HRW := hide hrow4
          have HLA := hide hlast
          have HVL := hide hvl
          have hfge := (hfo.lt fg rfl).1
          have hwlt : ∀ g, u9.ownBlock = some g → g < wr.heap.size := fun g e => (HRR.out.ll.row.lt g e).2
          rw [hfsl] at hfc1 ⊢
          have HB4 := hide hB4
          obtain ⟨wp9, wc9, rfl⟩ := owns_slice HRW.out
          clear hfl hfo hb4 hlast hle hpl hrow4 HFF HRR hbw hk2 hvl hfsl hB4 hlv
          have hKK : ((ts.length + 1 : Nat) : Int) - 1 = ((ts.length : Nat) : Int) := by omega
          go_wp2_with (at_builtin; refine wpList_append_vals rfl _ _ 22 rfl w2.heap.size 30 j0 (.slice none 0 0) 24 Tryz.underlying22 hj hq0 hq1 hq2 rfl (.slice wp9 (a * ts.length) wc9) (a * ts.length) vs rfl HRW.out (.slice (some ⟨fg, 0, none⟩) ts.length fc) (fs.take ts.length) rfl HFV.out HFC.out ?a1 ?a2 ?a3 ?_)
          case a1 => rw [HTL.out]; unfold maxLen; omega
          case a2 => rw [HTL.out]; omega
          case a3 => exact HB4.out.size
          intro v6 w6 hown6 hg6
          have HR6 : Hid (CoR w2 w6 n ts (a + 1) v6 (vs ++ fs.take ts.length) (.slice (some ⟨lg, 0, none⟩) n lc)) := by
            have hkp : ∀ (u : Value) (n' : Nat) (ys : List Value), w4.ownsRow w2.heap.size 3 1 u n' ys → w6.ownsRow w2.heap.size 3 1 u n' ys := fun u n' ys h => owns_kept_ty h HRW.out hg6
            refine ⟨⟨?_, ?_⟩, hkp _ _ _ HLA.out, HB4.out.grown hg6 HB4.out.size (fun g e => (HRW.out.lt g e).1)⟩
            · rw [List.length_append, HTL.out, HVL.out]
              have hmin : min ts.length fs.length = ts.length := by have h9 := HTL.out; rw [List.length_take] at h9; exact h9
              first
                | exact hown6
                | (rw [hmin] at hown6; exact hown6)
                | (rw [Nat.min_eq_left (by omega)] at hown6; exact hown6)
            · rw [show (a + 1) * ts.length = a * ts.length + ts.length from by rw [Nat.succ_mul], ← HCR.out a]
              exact OwnAll.join (HFA.out.mono (fun _ _ _ h => hkp _ _ _ h)) (HLL4.out.all.mono (fun _ _ _ h => hkp _ _ _ h))
          have hlc6 : w6.cell? ⟨fg, ts.length, none⟩ = some (.slice (some ⟨lg, 0, none⟩) n lc) := by
            have hb := hg6.block fg hfg2 (fun e => by have := hwlt fg e.symm; omega)
            rw [← hlc]
            unfold World.cell?
            rw [hb]
          clear hown6 hg6 HLL4 HRW HLA HFV HFA HFC hlc hwlt HB4
          go_wp2
          go_roundw
          case rel =>
            have hfin : ∃ (u9 r9 : Value) (a' : Nat) (vs : List Value), u9 = v6 ∧ r9 = .slice (some ⟨lg, 0, none⟩) n lc ∧ a' ≤ o ∧ Value.int .i64 ((a : Int) + 1) = .int .i64 (a' : Int) ∧ Hid (CoR w2 w6 n ts a' u9 vs r9) := ⟨_, _, a + 1, _, rfl, rfl, by omega, by go_num, HR6⟩
            first
              | exact hfin
              | ((repeat apply Exists.intro); exact ⟨hfin, rfl⟩)
          case measure => simp [intOf]; omega
        · obtain rfl : a = o := by omega
          have hIw := hR.out.ll.ints
          have HSA := hide (sameAll_any _ _ _ _ wr (HIC.out.below hR.out.below) hIw)
          rw [decide_eq_true rfl] at HSA
          have HBF := hide (HBW.out.trans (hR.out.below.mono HBW.out.size))
          obtain ⟨wp9, wc9, rfl⟩ := owns_slice hR.out.ll.row
          clear hR hIw
          go_wp2_with fail
          refine HSA.out.mono ?_
          rintro e w7 ⟨rfl, hb7⟩
          have HF := hide (HBF.out.trans (hb7.mono HBF.out.size))
          clear hb7 HSA
          go_wp2
          go_ret
          exact ⟨rfl, HF.out⟩
  · have HCN := hide (course_no s n _ ts _ hs hn h1 h2 hl1 hl2 hts (hv.below hb0) hfit)
    have hmul : ((ord (prd n ts) : Nat) : Int) * ((ts.length : Nat) : Int) = ((ord (prd n ts) * ts.length : Nat) : Int) := by simp
    have HMU := hide hmul
    generalize hOK : ord (prd n ts) * ts.length = M at *
    clear hOK
    generalize ord (prd n ts) = o at *
    generalize ts.length = K at *
    have q1 : 20000 < (o : Int) * (K : Int) := by rw [HMU.out]; omega
    have q3 : (o : Int) * (K : Int) ≤ 9223372036854775807 := by rw [HMU.out]; omega
    have q4 : 0 ≤ (o : Int) * (K : Int) := by rw [HMU.out]; omega
    clear hmul hts hn hp hv hx0
    unfold meth at *
    go_enter Tryz.func23, Tryz.ntmps23
    go_wp2_with fail
    refine HCN.out.mono ?_
    rintro e w2 ⟨rfl, hb2⟩
    have k2 := (HX.out.below hb2).c2
    have HF := hide (HB0.out.trans (hb2.mono HB0.out.size))
    clear hb2 HCN HX
    go_wp2
    go_ret
    exact ⟨by first | rfl | simp, HF.out⟩

end Go.Proofs.YtfngadfkopfhcaaGreatDoor

/- Plain: a text cut at each '|', and decimal numbers. -/
namespace Go.Proofs.YtfngadfkopfhcaaGreatDoor
open Go.RowKit Go.Lib
set_option maxRecDepth 100000
set_option linter.unusedVariables false

/-- A text cut at each '|'. -/
def cutL : List UInt8 → List (List UInt8)
  | [] => [[]]
  | b :: l => if b = 124 then [] :: cutL l else match cutL l with
    | [] => [[b]]
    | h :: t => (b :: h) :: t

theorem cutL_miss : ∀ (a : List UInt8), (∀ b ∈ a, b ≠ 124) → cutL a = [a]
  | [], _ => rfl
  | b :: l, h => by
    have h1 : b ≠ 124 := h b (by simp)
    rw [cutL, if_neg h1, cutL_miss l (fun x hx => h x (by simp [hx]))]

theorem cutL_hit (r : List UInt8) : ∀ (a : List UInt8), (∀ b ∈ a, b ≠ 124) → cutL (a ++ 124 :: r) = a :: cutL r
  | [], _ => by simp [cutL]
  | b :: l, h => by
    have h1 : b ≠ 124 := h b (by simp)
    rw [List.cons_append, cutL, if_neg h1, cutL_hit r l (fun x hx => h x (by simp [hx]))]

/-- A list has a first '|', or none. -/
theorem cut_cases : ∀ (s : List UInt8), (∀ b ∈ s, b ≠ 124) ∨ ∃ a r, s = a ++ 124 :: r ∧ ∀ b ∈ a, b ≠ 124
  | [] => Or.inl (fun b h => by cases h)
  | c :: l => by
    by_cases hc : c = 124
    · exact Or.inr ⟨[], l, by simp [hc], fun b h => by cases h⟩
    · rcases cut_cases l with h | ⟨a, r, rfl, h⟩
      · exact Or.inl (fun b hb => by rcases List.mem_cons.1 hb with rfl | hb; exact hc; exact h b hb)
      · exact Or.inr ⟨c :: a, r, rfl, fun b hb => by rcases List.mem_cons.1 hb with rfl | hb; exact hc; exact h b hb⟩

theorem index_miss : ∀ (s : List UInt8), (∀ b ∈ s, b ≠ 124) → Go.Lib.index s [124] = -1
  | [], _ => rfl
  | b :: l, h => by
    have h1 : b ≠ 124 := h b (by simp)
    have h2 := index_miss l (fun x hx => h x (by simp [hx]))
    unfold Go.Lib.index
    rw [if_neg (by simp [List.isPrefixOf]; exact fun e => h1 e.symm), h2]
    rfl

theorem index_hit (r : List UInt8) : ∀ (a : List UInt8), (∀ b ∈ a, b ≠ 124) → Go.Lib.index (a ++ 124 :: r) [124] = a.length
  | [], _ => by simp [Go.Lib.index, List.isPrefixOf]
  | b :: l, h => by
    have h1 : b ≠ 124 := h b (by simp)
    have h2 := index_hit r l (fun x hx => h x (by simp [hx]))
    rw [List.cons_append]
    unfold Go.Lib.index
    rw [if_neg (by simp [List.isPrefixOf]; exact fun e => h1 e.symm), h2, if_neg (by simp)]
    simp

theorem split_cut : ∀ (m : Nat) (s : List UInt8), s.count 124 = m → Go.Lib.splitK [124] 0 m s = cutL s
  | 0, s, h => by
    have : ∀ b ∈ s, b ≠ 124 := fun b hb e => by
      subst e
      exact absurd (List.count_pos_iff.2 hb) (by omega)
    rw [cutL_miss s this]; rfl
  | m + 1, s, h => by
    rcases cut_cases s with h1 | ⟨a, r, rfl, h1⟩
    · exact absurd (List.count_eq_zero.2 (fun hm => h1 _ hm rfl)) (by omega)
    · have h0 : a.count 124 = 0 := List.count_eq_zero.2 (fun hm => h1 _ hm rfl)
      rw [List.count_append, List.count_cons_self, h0] at h
      rw [cutL_hit r a h1, ← split_cut m r (by omega), Go.Lib.splitK, index_hit r a h1, if_neg (by simp)]
      simp

theorem cutL_length (s : List UInt8) : (cutL s).length = s.count 124 + 1 := by
  rw [← split_cut _ s rfl]
  generalize hm : s.count 124 = m
  induction m generalizing s with
  | zero => rfl
  | succ m ih =>
    rcases cut_cases s with h1 | ⟨a, r, rfl, h1⟩
    · exact absurd (List.count_eq_zero.2 (fun hx => h1 _ hx rfl)) (by omega)
    · have h0 : a.count 124 = 0 := List.count_eq_zero.2 (fun hx => h1 _ hx rfl)
      rw [List.count_append, List.count_cons_self, h0] at hm
      rw [Go.Lib.splitK, index_hit r a h1, if_neg (by simp)]
      simp [ih r (by omega)]

def cutB (s : ByteArray) : List ByteArray := (cutL s.data.toList).map (fun l => ⟨l.toArray⟩)

theorem splitB_cut (s : ByteArray) : Go.Lib.splitB ⟨#[124]⟩ 0 (Go.Lib.countB s ⟨#[124]⟩) s = cutB s := by
  have h := Go.Lib.splitB_data ⟨#[124]⟩ 0 (Go.Lib.countB s ⟨#[124]⟩) s
  have hc : Go.Lib.countB s ⟨#[124]⟩ = s.data.toList.count 124 := Go.Lib.count_one 124 s.data.toList
  rw [show (⟨#[124]⟩ : ByteArray).data.toList = [124] from rfl, split_cut _ _ hc.symm] at h
  unfold cutB
  rw [← h, List.map_map]
  symm
  exact (List.map_congr_left (fun b _ => rfl)).trans (List.map_id _)

theorem cutB_length (s : ByteArray) : (cutB s).length = Go.Lib.countB s ⟨#[124]⟩ + 1 := by
  rw [cutB, List.length_map, cutL_length]
  exact congrArg (· + 1) (Go.Lib.count_one 124 s.data.toList).symm
def dgt (b : UInt8) : Bool := decide (48 ≤ b.toNat ∧ b.toNat ≤ 57)
def dcm (l : List UInt8) : Bool := l.all dgt && decide (l = [48] ∨ (l ≠ [] ∧ l.headD 0 ≠ 48))
def valF (a : Nat) (l : List UInt8) : Nat := l.foldl (fun a b => a * 10 + (b.toNat - 48)) a

theorem valF_le (l : List UInt8) : ∀ a, a ≤ valF a l := by
  induction l with
  | nil => intro a; exact Nat.le_refl _
  | cons b l ih => intro a; have := ih (a * 10 + (b.toNat - 48)); show a ≤ valF (a * 10 + (b.toNat - 48)) l; omega

def capF (a : Nat) (l : List UInt8) : Nat := l.foldl (fun a b => min (a * 10 + (b.toNat - 48)) 1000000000) a

theorem capF_val (l : List UInt8) : ∀ a c, c = min a 1000000000 → capF c l = min (valF a l) 1000000000 := by
  induction l with
  | nil => intro a c h; exact h
  | cons b l ih =>
    intro a c h
    show capF (min (c * 10 + (b.toNat - 48)) 1000000000) l = min (valF (a * 10 + (b.toNat - 48)) l) 1000000000
    apply ih
    subst h
    generalize b.toNat - 48 = d
    omega

theorem parse_dgt : ∀ (l : List UInt8) (a : Nat), (∀ b ∈ l, dgt b = true) → a < 18446744073709551616 → Go.Lib.parseUint10 a l = if valF a l < 18446744073709551616 then .ok (valF a l) else .range
  | [], a, _, ha => by show Go.Lib.NumEnd.ok a = _; rw [if_pos (by exact ha)]; rfl
  | b :: l, a, h, ha => by
    have hb : 48 ≤ b.toNat ∧ b.toNat ≤ 57 := of_decide_eq_true (h b (by simp))
    have hle := valF_le l (a * 10 + (b.toNat - 48))
    have e : valF a (b :: l) = valF (a * 10 + (b.toNat - 48)) l := rfl
    rw [e, Go.Lib.parseUint10, if_pos hb]
    by_cases h1 : 1844674407370955162 ≤ a
    · rw [if_pos h1, if_neg (by omega)]
    · rw [if_neg h1]
      by_cases h2 : 18446744073709551616 ≤ a * 10 + (b.toNat - 48)
      · rw [if_pos h2, if_neg (by omega)]
      · rw [if_neg h2]
        exact parse_dgt l _ (fun x hx => h x (by simp [hx])) (by omega)

theorem atoi_dgt {l : List UInt8} (h : ∀ b ∈ l, dgt b = true) (h0 : l ≠ []) : Go.Lib.atoiAll l = if valF 0 l < 9223372036854775808 then .ok (valF 0 l) else .range := by
  match l, h, h0 with
  | c :: r, h, _ =>
    have hb : 48 ≤ c.toNat ∧ c.toNat ≤ 57 := of_decide_eq_true (h c (by simp))
    have e1 : ¬ (c.toNat = 43 ∨ c.toNat = 45) := by omega
    have e2 : ¬ c.toNat = 45 := by omega
    simp only [Go.Lib.atoiAll, if_neg e1, Go.Lib.parseMag, if_neg (List.cons_ne_nil c r), parse_dgt (c :: r) 0 h (by decide)]
    by_cases hv : valF 0 (c :: r) < 18446744073709551616
    · simp only [if_pos hv]
      by_cases hw : valF 0 (c :: r) < 9223372036854775808
      · simp [e2, hw]
      · simp [e2, hw]
    · rw [if_neg hv, if_neg (by omega)]

theorem sat_dgt {l : List UInt8} (h : ∀ b ∈ l, dgt b = true) (h0 : l ≠ []) : Go.Lib.atoiSat l = 9223372036854775807 := by
  match l, h, h0 with
  | c :: r, h, _ =>
    have hb : 48 ≤ c.toNat ∧ c.toNat ≤ 57 := of_decide_eq_true (h c (by simp))
    unfold Go.Lib.atoiSat
    exact if_neg (by rw [List.head?_cons, Option.map_some]; intro e; injection e; omega)

set_option maxHeartbeats 4000000 in
theorem dec_dig (n b0 b1 b2 b3 : Nat) (hn : 1 ≤ n) (h0 : b0 < 256) : (48 ≤ (decodeN n b0 b1 b2 b3).1 ∧ (decodeN n b0 b1 b2 b3).1 ≤ 57 ↔ 48 ≤ b0 ∧ b0 ≤ 57) ∧ (48 ≤ b0 ∧ b0 ≤ 57 → (decodeN n b0 b1 b2 b3).2 = 1 ∧ (decodeN n b0 b1 b2 b3).1 = b0) := by
  unfold decodeN
  repeat' split
  all_goals (first | (simp; done) | (simp; omega) | (dsimp only; omega))

end Go.Proofs.YtfngadfkopfhcaaGreatDoor
