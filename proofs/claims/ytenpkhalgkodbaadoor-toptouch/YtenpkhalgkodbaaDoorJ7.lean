/- Joined: TpB, TpC, TpD, TpE. -/
import Derived.Test.YtenpkhalgkodbaaDoorJ1
import Derived.Test.YtenpkhalgkodbaaDoorJ6
import Derived.OneCell
import Derived.BigQuiet
import Derived.Test.YtenpkhalgkodbaaDoorJ4
import Derived.Deep.RegionLaw
import Derived.Deep.RegionWith
import Derived.Deep.RegionHeld3
/- A reader of touches in memory; contracts: digit, times, within, end, noRune. -/
namespace Go.Proofs.YtenpkhalgkodbaaDoor
open Go.RowKit
set_option maxRecDepth 20000
set_option linter.unusedVariables false

/-- What is known of a touch: the number ahead; is a bracket open; how often it is there; its leads. -/
structure TSt where
  num : Nat
  dep : Bool
  tm : Nat
  ld : List Int

def tsN (st : TSt) : Nat := if st.dep then 2 else 1

def tsCells (st : TSt) (lv : Value) : List Value := (if st.dep then [.int .i64 0, .slice none 0 0] else []) ++ [.int .i64 st.tm, lv]

/-- A reader in memory. -/
structure TsAt (w : World) (B R : Nat) (cv : Value) (o oc : Nat) (lv : Value) (st : TSt) : Prop where
  blk : w.heap[R]? = some (.cells #[cv, .slice (some ⟨o, 0, none⟩) (tsN st) oc, .int .i64 st.num] 75)
  hB : B ≤ R
  opn : w.ownsRow B 96 2 (.slice (some ⟨o, 0, none⟩) (tsN st) oc) (tsN st) (tsCells st lv)
  own : w.ownsRow B 3 1 lv st.ld.length (st.ld.map (Value.int .i64))
  nil : st.ld = [] → lv = .slice none 0 0

def Ts (w : World) (B R : Nat) (cv : Value) (st : TSt) : Prop := ∃ o oc lv, TsAt w B R cv o oc lv st

theorem Bel.grown2 {w w2 : World} {R D k sz : Nat} {u : Value} {us : List Value} {e : TypeId} (hu : w.ownsRow D e sz u k us) (hR : R ≤ D) (hl : R ≤ w.heap.size) (hg : w.grownBy w2 u.ownBlock) : Bel R w w2 := by
  refine ⟨⟨hg.os, hg.tape, hg.output, hg.size, fun j hj => hg.block j (by omega) (fun e => by have := (hu.lt j e.symm).1; omega)⟩, fun j s p hj => ?_⟩
  rw [hg.block j (Array.getElem?_eq_some_iff.1 hj).1 (fun e => ?_)]
  · exact hj
  · rcases hu.2 with ⟨rfl, _⟩ | ⟨g, cap, cur, rfl, _, hh, _⟩
    · cases e
    · have : j = g := Option.some.inj e
      subst this
      rw [hj] at hh
      cases hh

section
variable {w : World} {B R o oc : Nat} {cv lv : Value} {st : TSt}

theorem TsAt.lt (h : TsAt w B R cv o oc lv st) : R < w.heap.size := (Array.getElem?_eq_some_iff.1 h.blk).1
theorem TsAt.frz (h : TsAt w B R cv o oc lv st) (j : Nat) : w.frozen? ⟨R, j, none⟩ = false := by simp [World.frozen?, h.blk]
theorem TsAt.c0 (h : TsAt w B R cv o oc lv st) : w.cell? ⟨R, 0, none⟩ = some cv := by simp [World.cell?, h.blk]
theorem TsAt.c1 (h : TsAt w B R cv o oc lv st) : w.cell? ⟨R, 1, none⟩ = some (.slice (some ⟨o, 0, none⟩) (tsN st) oc) := by simp [World.cell?, h.blk]
theorem TsAt.c2 (h : TsAt w B R cv o oc lv st) : w.cell? ⟨R, 2, none⟩ = some (.int .i64 st.num) := by simp [World.cell?, h.blk]

/-- A row that is owned lies apart from a block of another kind. -/
theorem owns_apart {w : World} {base e size n g t : Nat} {v : Value} {xs : List Value} {c : Array Value} (h : w.ownsRow base e size v n xs) (hg : w.heap[g]? = some (.cells c t (0, 0))) (hne : e ≠ t) : v.ownBlock ≠ some g := by
  intro hv
  rcases h.2 with ⟨rfl, _⟩ | ⟨g', cap, cur, rfl, _, hh, _⟩
  · cases hv
  · have : g' = g := Option.some.inj hv
    subst this
    rw [hg] at hh
    injection hh with hh
    injection hh with _ h2 _
    exact hne h2.symm

theorem TsAt.oblk (h : TsAt w B R cv o oc lv st) : ∃ c, w.heap[o]? = some (.cells c 96 (0, 0)) ∧ B ≤ o := by
  rcases h.opn.2 with ⟨h', _⟩ | ⟨g', cap', cur, h', hb, hg, _⟩
  · simp at h'
  · simp only [Value.slice.injEq, Option.some.injEq, Addr.mk.injEq, and_true, true_and] at h'
    obtain ⟨rfl, rfl⟩ := h'
    exact ⟨cur, hg, hb⟩

theorem TsAt.oR (h : TsAt w B R cv o oc lv st) : o ≠ R := by
  have := owns_apart h.opn h.blk (by decide)
  intro e
  exact this (by rw [e]; rfl)
theorem TsAt.lR (h : TsAt w B R cv o oc lv st) : lv.ownBlock ≠ some R := owns_apart h.own h.blk (by decide)
theorem TsAt.lo (h : TsAt w B R cv o oc lv st) : lv.ownBlock ≠ some o := by
  obtain ⟨c, hc, _⟩ := h.oblk
  exact owns_apart h.own hc (by decide)

theorem heap_setC {w : World} {R j : Nat} {c : List Value} {t : TypeId} {x : Value} (h : w.heap[R]? = some (.cells c.toArray t)) : (w.setCell ⟨R, j, none⟩ x).heap[R]? = some (.cells (c.set j x).toArray t) := by
  simp [World.setCell, Array.getElem?_modify, h]

theorem TsAt.setNum (h : TsAt w B R cv o oc lv st) (k : Nat) : TsAt (w.setCell ⟨R, 2, none⟩ (.int .i64 k)) B R cv o oc lv { st with num := k } :=
  ⟨heap_setC h.blk, h.hB, ownsRow_setCell_other h.opn (a := ⟨R, 2, none⟩) (fun e => h.oR (Option.some.inj e)) _, ownsRow_setCell_other h.own h.lR _, h.nil⟩

theorem owns_later2 {w w' : World} {base e size n : Nat} {v : Value} {xs : List Value} (h : w.ownsRow base e size v n xs) (hb : Below w.heap.size w w') : w'.ownsRow base e size v n xs := by
  refine ⟨h.1, ?_⟩
  rcases h.2 with h' | ⟨g, cap, cur, h', hg, hh, r⟩
  · exact Or.inl h'
  · exact Or.inr ⟨g, cap, cur, h', hg, by rw [hb.block g (Array.getElem?_eq_some_iff.1 hh).1]; exact hh, r⟩

theorem TsAt.later {w' : World} (h : TsAt w B R cv o oc lv st) (hb : Below w.heap.size w w') : TsAt w' B R cv o oc lv st :=
  ⟨by rw [hb.block _ h.lt]; exact h.blk, h.hB, owns_later2 h.opn hb, owns_later2 h.own hb, h.nil⟩

end

set_option maxHeartbeats 2000000 in
theorem digit_ok (B R o oc d : Nat) (cv lv : Value) (st : TSt) (w : World) (h : TsAt w B R cv o oc lv st) (hd : st.num * 10 + d ≤ 99) (hd1 : 1 ≤ st.num * 10 + d) :
    Calls Tryd.prog 62 #[.pointer (some ⟨R, 0, none⟩), .int .i64 d] w fun e w' => e = .returned (.int .i64 0) ∧ Ts w' B R cv { st with num := st.num * 10 + d } ∧ Bel B w w' := by
  have HF : Hid (Ts (w.setCell ⟨R, 2, none⟩ (.int .i64 ((st.num * 10 + d : Nat) : Int))) B R cv { st with num := st.num * 10 + d } ∧ Bel B w (w.setCell ⟨R, 2, none⟩ (.int .i64 ((st.num * 10 + d : Nat) : Int)))) := ⟨⟨_, _, _, h.setNum _⟩, (Bel.refl B w).setCell (p := ⟨R, 2, none⟩) h.hB _⟩
  have c2 := h.c2
  have f2 := h.frz 2
  have d2 : ∀ v, (w.setCell ⟨R, 2, none⟩ v).cell? ⟨R, 2, none⟩ = some v := fun v => World.cell?_setCell_same w ⟨R, 2, none⟩ v c2
  have e1 : ((st.num * 10 + d : Nat) : Int) = (st.num : Int) * 10 + (d : Int) := by omega
  rw [e1] at HF
  clear h e1
  generalize { st with num := st.num * 10 + d } = st2 at *
  generalize st.num = nm at *
  have g1 : ¬ (nm : Int) * 10 + (d : Int) < 1 := by omega
  have g2 : ¬ 99 < (nm : Int) * 10 + (d : Int) := by omega
  go_enter Tryd.func62, Tryd.ntmps62
  go_wp2
  go_ret
  exact ⟨rfl, HF.out⟩

set_option maxHeartbeats 2000000 in
theorem rtimes_ok (B R o oc : Nat) (cv lv : Value) (st : TSt) (w : World) (h : TsAt w B R cv o oc lv st) :
    Calls Tryd.prog 66 #[.pointer (some ⟨R, 0, none⟩)] w fun e w' => e = .returned (.int .i64 ((max st.num 1 : Nat) : Int)) ∧ w' = w.setCell ⟨R, 2, none⟩ (.int .i64 0) := by
  have c2 := h.c2
  have f2 := h.frz 2
  have hmx : ((max st.num 1 : Nat) : Int) = max (st.num : Int) 1 := by omega
  rw [hmx]
  clear h hmx
  generalize st.num = nm at *
  go_enter Tryd.func66, Tryd.ntmps66
  go_wp2
  go_ret
  exact ⟨rfl, rfl⟩

set_option maxHeartbeats 2000000 in
theorem within_ok (B R o oc : Nat) (cv lv : Value) (st : TSt) (w : World) (h : TsAt w B R cv o oc lv st) :
    Calls Tryd.prog 67 #[.pointer (some ⟨R, 0, none⟩)] w fun e w' => e = .returned (.int .i64 (if st.dep then 1 else 0)) ∧ w' = w := by
  have c1 := h.c1
  have hn : ((tsN st : Nat) : Int) - 1 = if st.dep then 1 else 0 := by unfold tsN; split <;> rfl
  rw [← hn]
  have h3 : tsN st ≤ 2 := by unfold tsN; split <;> omega
  clear h hn
  generalize tsN st = N at *
  go_enter Tryd.func67, Tryd.ntmps67
  go_wp2
  go_ret
  exact ⟨by go_num, rfl⟩

set_option maxHeartbeats 2000000 in
theorem noRune_ok (c : Nat) (s : ByteArray) (w : World) (hc : c < 65533) :
    Calls Tryd.prog 43 #[.int .i32 c, .string s] w fun e w' => e = .returned (.bool false) ∧ w' = w := by
  have g1 : decide ((c : Int) = 65533) = false := by rw [decide_eq_false_iff_not]; omega
  have g2 : ((c : Int) == 65533) = false := by rw [beq_eq_false_iff_ne]; omega
  have g3 : ¬ ((c : Int) = 65533) := by omega
  go_enter Tryd.func43, Tryd.ntmps43
  go_wp2
  go_ret
  exact ⟨rfl, rfl⟩

set_option maxHeartbeats 2000000 in
theorem tend_ok (B R o oc : Nat) (cv lv : Value) (st : TSt) (w : World) (h : TsAt w B R cv o oc lv st) (h0 : st.num = 0) (h1 : st.dep = false) (h2 : 1 ≤ st.ld.length) (h3 : st.ld.length ≤ 1000) :
    Calls Tryd.prog 45 #[.pointer (some ⟨R, 0, none⟩)] w fun e w' => e = .returned (.tuple #[lv, .int .i64 0]) ∧ w' = w := by
  have HW := hide (within_ok B R o oc cv lv st w h)
  have c1 := h.c1
  have c2 := h.c2
  have k1 : w.cell? ⟨o, 1, none⟩ = some lv := by
    have := h.opn.cellAt 1 (by unfold tsN; rw [h1]; decide)
    rw [this]
    unfold tsCells
    rw [h1]
    rfl
  have hN : tsN st = 1 := by unfold tsN; rw [h1]; rfl
  rw [hN] at c1
  rw [h0] at c2
  rw [h1] at HW
  obtain ⟨p, c, rfl⟩ := owns_slice h.own
  have g1 : ¬ ((st.ld.length : Int) = 0) := by omega
  clear h hN h0 h1
  generalize st.ld.length = T at *
  go_enter Tryd.func45, Tryd.ntmps45
  go_wp2_with fail
  refine HW.out.mono ?_
  rintro e w1 ⟨rfl, rfl⟩
  clear HW
  go_wp2
  go_ret2
  exact ⟨rfl, rfl⟩

end Go.Proofs.YtenpkhalgkodbaaDoor

/- Contract: the touch reader's add. -/
namespace Go.Proofs.YtenpkhalgkodbaaDoor
open Go.RowKit
set_option maxRecDepth 20000
set_option linter.unusedVariables false

theorem owns_frm {w : World} {base e size n : Nat} {u : Value} {xs : List Value} (h : w.ownsRow base e size u n xs) (hn : 1 ≤ n) : ∃ g c, u = .slice (some ⟨g, 0, none⟩) n c := by
  rcases h.2 with ⟨_, h0⟩ | ⟨g, cap, cur, hu, _⟩
  · omega
  · exact ⟨g, cap, hu⟩

section
variable {ops : Array Oper} {o : Oper} {a : Act} {w : World} {K : Act → World → Prop} {Q : Exit → Act → World → Prop} {E : Prop}

theorem step_val (hg : o.guard = none) {v : Value} {w' : World} (hrun : (execOp a.eval o).run Tryd.prog w = .ok (.value v) w') (h : K (a.put o.dst v) w') : if Region.wanted o (yielded ops a.tmps) = true then Oper.wp Tryd.prog o a w K Q else E := by
  have hw : Region.wanted o (yielded ops a.tmps) = true := by simp [Region.wanted, hg]
  rw [if_pos hw]
  unfold Oper.wp
  rw [hrun]
  exact h

theorem step_skp (hg : o.guard = none) {w' : World} (hrun : (execOp a.eval o).run Tryd.prog w = .ok (.skip) w') (h : K (a.put o.dst undef) w') : if Region.wanted o (yielded ops a.tmps) = true then Oper.wp Tryd.prog o a w K Q else E := by
  have hw : Region.wanted o (yielded ops a.tmps) = true := by simp [Region.wanted, hg]
  rw [if_pos hw]
  unfold Oper.wp
  rw [hrun]
  exact h

end

/-- A row of numbers is laid behind another one. -/
theorem istep_append {ops : Array Oper} {o : Oper} {a : Act} {w : World} {K : Act → World → Prop} {Q : Exit → Act → World → Prop} {E : Prop} (hg : o.guard = none) (s x : Operand)
    (ho : o.op = .call { callee := .builtin .append, args := #[s, x], argTypes := #[26, 26] })
    (base : Nat) (tp : Option Addr) (k tc : Nat) (xs : List Value) (hs : a.eval s = .slice tp k tc) (hown : w.ownsRow base 3 1 (.slice tp k tc) k xs)
    (g c m : Nat) (zs : List Int) (hx : a.eval x = .slice (some ⟨g, 0, none⟩) m c) {base2 : Nat} (hz : w.ownsRow base2 3 1 (.slice (some ⟨g, 0, none⟩) m c) m (zs.map (Value.int .i64))) (hk : k + m ≤ 1000000) (hbase : base ≤ w.heap.size)
    (h : ∀ p4 c4 w4, w4.ownsRow base 3 1 (.slice p4 (k + m) c4) (k + m) (xs ++ zs.map (Value.int .i64)) → w.grownBy w4 (Value.slice tp k tc).ownBlock → K (a.put o.dst (.slice p4 (k + m) c4)) w4) :
    if Region.wanted o (yielded ops a.tmps) = true then Oper.wp Tryd.prog o a w K Q else E := by
  obtain ⟨i0, hi, hz0, hz1, hz2⟩ := info_parts Tryd.info3
  refine step_append_own hg s x 26 ho base 3 i0 (.int .i64 0) 1 8 Tryd.underlying26 hi hz0 hz1 hz2 rfl (by decide) (.slice tp k tc) k xs hs hown ⟨g, 0, none⟩ m c (zs.map (Value.int .i64)) hx (by have := hz.1; omega) (fun j u hu => ?_) (fun u hu => ?_) (by unfold maxLen; omega) (by omega) hbase (fun v' w4 h4 hg4 => ?_)
  · exact hz.cells (g := g) rfl j u hu
  · obtain ⟨z, _, rfl⟩ := List.mem_map.1 hu; rfl
  · obtain ⟨p4, c4, rfl⟩ := owns_slice h4
    exact h p4 c4 w4 h4 hg4

theorem irun_store (w : World) (ad : Addr) (vp : Option Addr) (vm vc : Nat) (old : Value) (hc : w.cell? ad = some old) (hf : w.frozen? ad = false) :
    (Instr.storeAt 26 (.pointer (some ad)) (.slice vp vm vc)).run Tryd.prog w = .ok () (w.setCell ad (.slice vp vm vc)) := by
  simp [go_sem, hc, hf]

theorem istep_store {ops : Array Oper} {o : Oper} {a : Act} {w : World} {K : Act → World → Prop} {Q : Exit → Act → World → Prop} {E : Prop} (hg : o.guard = none) (p x : Operand) (hop : o.op = Op.store 26 p x)
    (ad : Addr) (vp : Option Addr) (vm vc : Nat) (hp : a.eval p = .pointer (some ad)) (hx : a.eval x = .slice vp vm vc) (old : Value) (hc : w.cell? ad = some old) (hf : w.frozen? ad = false) (hK : K (a.put o.dst undef) (w.setCell ad (.slice vp vm vc))) :
    if Region.wanted o (yielded ops a.tmps) = true then Oper.wp Tryd.prog o a w K Q else E :=
  step_skp hg (by unfold execOp; simp only [hop, hp, hx, irun_store w ad vp vm vc old hc hf, Sem.run_bind, Sem.run_pure, Result.andThen_ok]) hK

/-- Leads are put behind the last bracket's. -/
theorem TsAt.put {w wo w4 : World} {B R o oc L : Nat} {cv lv v4 : Value} {st : TSt} {ys : List Int} (h : TsAt w B R cv o oc lv st) (hbo : Below w.heap.size w wo) (hown : w4.ownsRow B 3 1 v4 L (st.ld.map (Value.int .i64) ++ ys.map (Value.int .i64))) (hg : wo.grownBy w4 lv.ownBlock) {q : Nat} (hq : 2 * tsN st - 1 = q) (hys : 1 ≤ ys.length) :
    w4.cell? ⟨o, q, none⟩ = w.cell? ⟨o, q, none⟩ ∧ w4.frozen? ⟨o, q, none⟩ = false ∧
    (Ts (w4.setCell ⟨o, q, none⟩ v4) B R cv { st with ld := st.ld ++ ys } ∧ Bel B w (w4.setCell ⟨o, q, none⟩ v4)) := by
  subst hq
  obtain ⟨c, hc, hBo⟩ := h.oblk
  have hol := (Array.getElem?_eq_some_iff.1 hc).1
  have hRl := h.lt
  have hbs := hbo.size
  have e1 : w4.heap[o]? = w.heap[o]? := (hg.block o (by omega) (fun e => h.lo e.symm)).trans (hbo.block o hol)
  have e2 : w4.heap[R]? = w.heap[R]? := (hg.block R (by omega) (fun e => h.lR e.symm)).trans (hbo.block R hRl)
  have hop4 : w4.ownsRow B 96 2 (.slice (some ⟨o, 0, none⟩) (tsN st) oc) (tsN st) (tsCells st lv) := by
    refine ⟨h.opn.1, ?_⟩
    rcases h.opn.2 with h' | ⟨g, cap, cur, h', hb, hh, r⟩
    · exact Or.inl h'
    · have h'' := h'
      simp only [Value.slice.injEq, Option.some.injEq, Addr.mk.injEq, and_true, true_and] at h''
      obtain ⟨rfl, rfl⟩ := h''
      exact Or.inr ⟨o, oc, cur, h', hb, e1.trans hh, r⟩
  refine ⟨by simp only [World.cell?, e1], hop4.frozenAt _, ⟨o, oc, v4, ?_⟩, ?_⟩
  · refine ⟨?_, h.hB, ?_, ?_, fun e9 => ?_⟩
    · rw [Below.heap_setCell _ _ _ _ (fun e => h.oR e.symm), e2]
      exact h.blk
    · have h9 := (hop4.stored (2 * tsN st - 1) v4).1
      have e : (tsCells st lv).set (2 * tsN st - 1) v4 = tsCells { st with ld := st.ld ++ ys } v4 := by
        unfold tsCells tsN
        cases st.dep <;> rfl
      rw [e] at h9
      exact h9
    · have h9 := ownsRow_setCell_other (a := ⟨o, 2 * tsN st - 1, none⟩) hown (fun e => by
        have := owns_apart hown (e1.trans hc) (by decide)
        exact this e) v4
      have h8 := h9.1
      rw [List.length_append, List.length_map, List.length_map, Nat.mul_one] at h8
      rw [List.length_append, List.map_append, h8]
      exact h9
    · have e8 := congrArg List.length e9
      rw [List.length_append, List.length_nil] at e8
      omega
  · have hlv := h.own
    have hb1 : Bel B w wo := Bel.of hbo (by have := h.hB; omega)
    have hb2 : Bel B wo w4 := Bel.grown2 (owns_later2 hlv hbo) (Nat.le_refl _) (by have := h.hB; omega) hg
    exact (hb1.trans hb2).setCell (p := ⟨o, 2 * tsN st - 1, none⟩) hBo v4

set_option maxHeartbeats 8000000 in
theorem add_1 (B R o oc : Nat) (cv lv : Value) (st : TSt) (v : Value) (ys : List Int) (tk : Nat) (w : World) (h : TsAt w B R cv o oc lv st) (hv : Ints w v ys) (hy : 1 ≤ ys.length) (hk : 1 ≤ tk) (hk2 : tk ≤ 400) (hl : st.ld.length + ys.length * tk ≤ 400) (hBw : B ≤ w.heap.size) (hd : st.dep = false) :
    Calls Tryd.prog 65 #[.pointer (some ⟨R, 0, none⟩), .int .i64 tk, v] w fun e w' => e = .returned (.int .i64 0) ∧ Ts w' B R cv { st with ld := st.ld ++ repL tk ys } ∧ Bel B w w' := by
  obtain ⟨M, hM⟩ : ∃ M, ys.length * tk = M := ⟨_, rfl⟩
  have hN : tsN st = 1 := by unfold tsN; rw [hd]; rfl
  have hM1 : 1 ≤ M := by rw [← hM]; exact Nat.le_trans hy (Nat.le_mul_of_pos_right _ hk)
  have hyM : ys.length ≤ M := by rw [← hM]; exact Nat.le_mul_of_pos_right _ hk
  rw [hM] at hl
  have c1 := h.c1
  rw [hN] at c1
  obtain ⟨cc9, hc9, hBo9⟩ := h.oblk
  have hol : o < w.heap.size := (Array.getElem?_eq_some_iff.1 hc9).1
  have hcap : 2 ≤ oc ∨ oc = 1 ∨ True := Or.inr (Or.inr trivial)
  have hoc : 1 ≤ oc := by
    rcases h.opn.2 with ⟨h', _⟩ | ⟨g, cap, cur, h', _, _, hc, _⟩
    · simp at h'
    · simp only [Value.slice.injEq, Option.some.injEq, Addr.mk.injEq, and_true, true_and] at h'
      omega
  have kq : w.cell? ⟨o, 1, none⟩ = some lv := by
    have := h.opn.cellAt 1 (by rw [hN]; decide)
    rw [this]
    unfold tsCells
    rw [hd]
    rfl
  obtain ⟨lp, lc, rfl⟩ := owns_slice h.own
  obtain ⟨vp, vc, rfl⟩ := hv.form
  have hRE := fun W (hW : Below w.heap.size w W) => repeatI_ok _ ys tk W (hv.below hW) hy (by omega) hk (by omega)
  rw [hM] at hRE
  have HRE := hide hRE
  have HT := hide h
  have HRL : Hid (1 ≤ (repL tk ys).length) := by show 1 ≤ _; rw [repL_len, hM]; exact hM1
  obtain ⟨T, hT⟩ : ∃ T, st.ld.length = T := ⟨_, rfl⟩
  obtain ⟨Y, hY⟩ : ∃ Y, ys.length = Y := ⟨_, rfl⟩
  have hmul : (tk : Int) * (Y : Int) = (M : Int) := by rw [← hM, hY, Int.mul_comm]; rfl
  have hsum : ¬ 400 < (T : Int) + (M : Int) := by omega
  have hwM : IntKind.i64.wrap (M : Int) = (M : Int) := by rw [IntKind.wrap_i64]; omega
  have hwT : IntKind.i64.wrap ((T : Int) + (M : Int)) = (T : Int) + (M : Int) := by rw [IntKind.wrap_i64]; omega
  have hown9 := HT.out.own
  rw [hT] at kq HT hl hown9
  have HOW := hide hown9
  clear hown9
  rw [hY] at HRE hy hyM ⊢
  have HQ : Hid (2 * tsN st - 1 = 1) := by show _ = _; rw [hN]
  clear h hv hM hRE hN hc9 hd hcap hT hY
  go_enter Tryd.func65, Tryd.ntmps65
  go_wp2
  go_quiet (fail)
  have hd0 : Below w.heap.size w (w.drewN nq).drew := ⟨rfl, rfl, rfl, Nat.le_refl _, fun _ _ => rfl⟩
  have kq0 : (w.drewN nq).cell? ⟨o, 1, none⟩ = some (.slice lp T lc) := kq
  have kq1 : (w.drewN nq).drew.cell? ⟨o, 1, none⟩ = some (.slice lp T lc) := kq
  go_upto_region 4 with fail
  refine wp_region_held_drew (S := fun _ => True) (by kernel_rfl) trivial (fun _ => ?_)
  refine wpAnyH_take (i := 0) (v := .pointer (some ⟨o, 0, none⟩)) rfl (by kernel_rfl) (by kernel_rfl) (by kernel_rfl) (fun _ _ _ h => h) (Or.inl ⟨by kernel_rfl, fun w' _ => by go_simp⟩) trivial ?_
  refine wpAnyH_take (i := 1) (v := .pointer (some ⟨o, 0, none⟩)) rfl (by kernel_rfl) (by kernel_rfl) (by kernel_rfl) (fun _ _ _ h => h) (Or.inl ⟨by kernel_rfl, fun w' _ => by go_simp⟩) trivial ?_
  refine wpAnyH_take (i := 2) (v := .pointer (some ⟨o, 0, none⟩)) rfl (by kernel_rfl) (by kernel_rfl) (by kernel_rfl) (fun _ _ _ h => h) (Or.inl ⟨by kernel_rfl, fun w' _ => by go_simp⟩) trivial ?_
  refine wpAnyH_take (i := 3) (v := .pointer (some ⟨o, 1, none⟩)) rfl (by kernel_rfl) (by kernel_rfl) (by kernel_rfl) (fun _ _ _ h => h) (Or.inl ⟨by kernel_rfl, fun w' _ => by go_simp⟩) trivial ?_
  refine wpAnyH_take (i := 5) (v := .slice vp Y vc) rfl (by kernel_rfl) (by kernel_rfl) (by kernel_rfl) (fun _ _ _ h => h) (Or.inl ⟨by kernel_rfl, fun w' _ => by go_simp⟩) trivial ?_
  refine wpAnyH_take (i := 6) (v := .int .i64 tk) rfl (by kernel_rfl) (by kernel_rfl) (by kernel_rfl) (fun _ _ _ h => h) (Or.inl ⟨by kernel_rfl, fun w' _ => by go_simp⟩) trivial ?_
  refine wpAnyH_ready (rs := [4, 7]) (by kernel_rfl) (by simp) ?_
  refine (AllReadyH.cons rfl (fun K9 hK9 => ?_) (AllReadyH.cons rfl (fun K9 hK9 => ?_) AllReadyH.nil))
  · go_simp
    refine hK9.out _ _ trivial (fun _ => ?_)
    clear hK9
    refine wpAnyH_ready (rs := [7]) (by kernel_rfl) (by simp) ?_
    refine (AllReadyH.cons rfl (fun K9 hK9 => ?_) AllReadyH.nil)
    go_simp
    refine (HRE.out _ hd0).mono ?_
    rintro ex wo ⟨u, rfl, hru, hbo⟩
    have hBo : Below w.heap.size w wo := hd0.trans (hbo.mono hd0.size)
    have x0 : wo.cell? ⟨o, 1, none⟩ = some (.slice lp T lc) := (hBo.cell (p := ⟨o, 1, none⟩) hol).trans kq
    obtain ⟨g9, c9, rfl⟩ := owns_frm hru hM1
    refine hK9.out _ _ trivial (fun _ => ?_)
    clear hK9
    refine wpAnyH_ready (rs := [8]) (by kernel_rfl) (by simp) ?_
    refine (AllReadyH.cons rfl (fun K9 hK9 => ?_) AllReadyH.nil)
    refine istep_append rfl (.tmp 34) (.tmp 37) rfl B lp T lc (st.ld.map (Value.int .i64)) rfl (owns_later2 HOW.out hBo) g9 c9 M (repL tk ys) rfl hru (by omega) (Nat.le_trans hBw hBo.size) ?_
    intro p4 c4 w4 hown4 hgrow
    have hT4 := HT.out.put (v4 := .slice p4 (T + M) c4) (ys := repL tk ys) hBo hown4 hgrow HQ.out HRL.out
    refine hK9.out _ _ trivial (fun _ => ?_)
    clear hK9
    refine wpAnyH_take (i := 9) (v := .pointer (some ⟨o, 0, none⟩)) rfl (by kernel_rfl) (by kernel_rfl) (by kernel_rfl) (fun _ _ _ h => h) (Or.inl ⟨by kernel_rfl, fun w' _ => by go_simp⟩) trivial ?_
    refine wpAnyH_take (i := 10) (v := .pointer (some ⟨o, 1, none⟩)) rfl (by kernel_rfl) (by kernel_rfl) (by kernel_rfl) (fun _ _ _ h => h) (Or.inl ⟨by kernel_rfl, fun w' _ => by go_simp⟩) trivial ?_
    refine wpAnyH_ready (rs := [11]) (by kernel_rfl) (by simp) ?_
    refine (AllReadyH.cons rfl (fun K9 hK9 => ?_) AllReadyH.nil)
    refine istep_store rfl (.tmp 40) (.tmp 38) rfl ⟨o, 1, none⟩ p4 (T + M) c4 rfl rfl (.slice lp T lc) (hT4.1.trans kq) hT4.2.1 ?_
    have HF := hide hT4.2.2
    clear hT4 hown4 hgrow x0 hru hBo hbo HT kq kq0 kq1
    refine hK9.out _ _ trivial (fun _ => ?_)
    clear hK9
    refine wpAnyH_done (by kernel_rfl) ?_ _
    generalize w4.setCell ⟨o, 1, none⟩ (.slice p4 (T + M) c4) = w5 at *
    go_wp2
    go_ret
    exact ⟨rfl, HF.out⟩
  · go_simp
    refine (HRE.out _ hd0).mono ?_
    rintro ex wo ⟨u, rfl, hru, hbo⟩
    have hBo : Below w.heap.size w wo := hd0.trans (hbo.mono hd0.size)
    have x0 : wo.cell? ⟨o, 1, none⟩ = some (.slice lp T lc) := (hBo.cell (p := ⟨o, 1, none⟩) hol).trans kq
    obtain ⟨g9, c9, rfl⟩ := owns_frm hru hM1
    refine hK9.out _ _ trivial (fun _ => ?_)
    clear hK9
    refine wpAnyH_ready (rs := [4]) (by kernel_rfl) (by simp) ?_
    refine (AllReadyH.cons rfl (fun K9 hK9 => ?_) AllReadyH.nil)
    go_simp
    refine hK9.out _ _ trivial (fun _ => ?_)
    clear hK9
    refine wpAnyH_ready (rs := [8]) (by kernel_rfl) (by simp) ?_
    refine (AllReadyH.cons rfl (fun K9 hK9 => ?_) AllReadyH.nil)
    refine istep_append rfl (.tmp 34) (.tmp 37) rfl B lp T lc (st.ld.map (Value.int .i64)) rfl (owns_later2 HOW.out hBo) g9 c9 M (repL tk ys) rfl hru (by omega) (Nat.le_trans hBw hBo.size) ?_
    intro p4 c4 w4 hown4 hgrow
    have hT4 := HT.out.put (v4 := .slice p4 (T + M) c4) (ys := repL tk ys) hBo hown4 hgrow HQ.out HRL.out
    refine hK9.out _ _ trivial (fun _ => ?_)
    clear hK9
    refine wpAnyH_take (i := 9) (v := .pointer (some ⟨o, 0, none⟩)) rfl (by kernel_rfl) (by kernel_rfl) (by kernel_rfl) (fun _ _ _ h => h) (Or.inl ⟨by kernel_rfl, fun w' _ => by go_simp⟩) trivial ?_
    refine wpAnyH_take (i := 10) (v := .pointer (some ⟨o, 1, none⟩)) rfl (by kernel_rfl) (by kernel_rfl) (by kernel_rfl) (fun _ _ _ h => h) (Or.inl ⟨by kernel_rfl, fun w' _ => by go_simp⟩) trivial ?_
    refine wpAnyH_ready (rs := [11]) (by kernel_rfl) (by simp) ?_
    refine (AllReadyH.cons rfl (fun K9 hK9 => ?_) AllReadyH.nil)
    refine istep_store rfl (.tmp 40) (.tmp 38) rfl ⟨o, 1, none⟩ p4 (T + M) c4 rfl rfl (.slice lp T lc) (hT4.1.trans kq) hT4.2.1 ?_
    have HF := hide hT4.2.2
    clear hT4 hown4 hgrow x0 hru hBo hbo HT kq kq0 kq1
    refine hK9.out _ _ trivial (fun _ => ?_)
    clear hK9
    refine wpAnyH_done (by kernel_rfl) ?_ _
    generalize w4.setCell ⟨o, 1, none⟩ (.slice p4 (T + M) c4) = w5 at *
    go_wp2
    go_ret
    exact ⟨rfl, HF.out⟩

set_option maxHeartbeats 8000000 in
theorem add_2 (B R o oc : Nat) (cv lv : Value) (st : TSt) (v : Value) (ys : List Int) (tk : Nat) (w : World) (h : TsAt w B R cv o oc lv st) (hv : Ints w v ys) (hy : 1 ≤ ys.length) (hk : 1 ≤ tk) (hk2 : tk ≤ 400) (hl : st.ld.length + ys.length * tk ≤ 400) (hBw : B ≤ w.heap.size) (hd : st.dep = true) :
    Calls Tryd.prog 65 #[.pointer (some ⟨R, 0, none⟩), .int .i64 tk, v] w fun e w' => e = .returned (.int .i64 0) ∧ Ts w' B R cv { st with ld := st.ld ++ repL tk ys } ∧ Bel B w w' := by
  obtain ⟨M, hM⟩ : ∃ M, ys.length * tk = M := ⟨_, rfl⟩
  have hN : tsN st = 2 := by unfold tsN; rw [hd]; rfl
  have hM1 : 1 ≤ M := by rw [← hM]; exact Nat.le_trans hy (Nat.le_mul_of_pos_right _ hk)
  have hyM : ys.length ≤ M := by rw [← hM]; exact Nat.le_mul_of_pos_right _ hk
  rw [hM] at hl
  have c1 := h.c1
  rw [hN] at c1
  obtain ⟨cc9, hc9, hBo9⟩ := h.oblk
  have hol : o < w.heap.size := (Array.getElem?_eq_some_iff.1 hc9).1
  have hcap : 2 ≤ oc ∨ oc = 1 ∨ True := Or.inr (Or.inr trivial)
  have hoc : 2 ≤ oc := by
    rcases h.opn.2 with ⟨h', _⟩ | ⟨g, cap, cur, h', _, _, hc, _⟩
    · simp at h'
    · simp only [Value.slice.injEq, Option.some.injEq, Addr.mk.injEq, and_true, true_and] at h'
      omega
  have kq : w.cell? ⟨o, 3, none⟩ = some lv := by
    have := h.opn.cellAt 3 (by rw [hN]; decide)
    rw [this]
    unfold tsCells
    rw [hd]
    rfl
  obtain ⟨lp, lc, rfl⟩ := owns_slice h.own
  obtain ⟨vp, vc, rfl⟩ := hv.form
  have hRE := fun W (hW : Below w.heap.size w W) => repeatI_ok _ ys tk W (hv.below hW) hy (by omega) hk (by omega)
  rw [hM] at hRE
  have HRE := hide hRE
  have HT := hide h
  have HRL : Hid (1 ≤ (repL tk ys).length) := by show 1 ≤ _; rw [repL_len, hM]; exact hM1
  obtain ⟨T, hT⟩ : ∃ T, st.ld.length = T := ⟨_, rfl⟩
  obtain ⟨Y, hY⟩ : ∃ Y, ys.length = Y := ⟨_, rfl⟩
  have hmul : (tk : Int) * (Y : Int) = (M : Int) := by rw [← hM, hY, Int.mul_comm]; rfl
  have hsum : ¬ 400 < (T : Int) + (M : Int) := by omega
  have hwM : IntKind.i64.wrap (M : Int) = (M : Int) := by rw [IntKind.wrap_i64]; omega
  have hwT : IntKind.i64.wrap ((T : Int) + (M : Int)) = (T : Int) + (M : Int) := by rw [IntKind.wrap_i64]; omega
  have hown9 := HT.out.own
  rw [hT] at kq HT hl hown9
  have HOW := hide hown9
  clear hown9
  rw [hY] at HRE hy hyM ⊢
  have HQ : Hid (2 * tsN st - 1 = 3) := by show _ = _; rw [hN]
  clear h hv hM hRE hN hc9 hd hcap hT hY
  go_enter Tryd.func65, Tryd.ntmps65
  go_wp2
  go_quiet (fail)
  have hd0 : Below w.heap.size w (w.drewN nq).drew := ⟨rfl, rfl, rfl, Nat.le_refl _, fun _ _ => rfl⟩
  have kq0 : (w.drewN nq).cell? ⟨o, 3, none⟩ = some (.slice lp T lc) := kq
  have kq1 : (w.drewN nq).drew.cell? ⟨o, 3, none⟩ = some (.slice lp T lc) := kq
  go_upto_region 4 with fail
  refine wp_region_held_drew (S := fun _ => True) (by kernel_rfl) trivial (fun _ => ?_)
  refine wpAnyH_take (i := 0) (v := .pointer (some ⟨o, 2, none⟩)) rfl (by kernel_rfl) (by kernel_rfl) (by kernel_rfl) (fun _ _ _ h => h) (Or.inl ⟨by kernel_rfl, fun w' _ => by go_simp⟩) trivial ?_
  refine wpAnyH_take (i := 1) (v := .pointer (some ⟨o, 2, none⟩)) rfl (by kernel_rfl) (by kernel_rfl) (by kernel_rfl) (fun _ _ _ h => h) (Or.inl ⟨by kernel_rfl, fun w' _ => by go_simp⟩) trivial ?_
  refine wpAnyH_take (i := 2) (v := .pointer (some ⟨o, 2, none⟩)) rfl (by kernel_rfl) (by kernel_rfl) (by kernel_rfl) (fun _ _ _ h => h) (Or.inl ⟨by kernel_rfl, fun w' _ => by go_simp⟩) trivial ?_
  refine wpAnyH_take (i := 3) (v := .pointer (some ⟨o, 3, none⟩)) rfl (by kernel_rfl) (by kernel_rfl) (by kernel_rfl) (fun _ _ _ h => h) (Or.inl ⟨by kernel_rfl, fun w' _ => by go_simp⟩) trivial ?_
  refine wpAnyH_take (i := 5) (v := .slice vp Y vc) rfl (by kernel_rfl) (by kernel_rfl) (by kernel_rfl) (fun _ _ _ h => h) (Or.inl ⟨by kernel_rfl, fun w' _ => by go_simp⟩) trivial ?_
  refine wpAnyH_take (i := 6) (v := .int .i64 tk) rfl (by kernel_rfl) (by kernel_rfl) (by kernel_rfl) (fun _ _ _ h => h) (Or.inl ⟨by kernel_rfl, fun w' _ => by go_simp⟩) trivial ?_
  refine wpAnyH_ready (rs := [4, 7]) (by kernel_rfl) (by simp) ?_
  refine (AllReadyH.cons rfl (fun K9 hK9 => ?_) (AllReadyH.cons rfl (fun K9 hK9 => ?_) AllReadyH.nil))
  · go_simp
    refine hK9.out _ _ trivial (fun _ => ?_)
    clear hK9
    refine wpAnyH_ready (rs := [7]) (by kernel_rfl) (by simp) ?_
    refine (AllReadyH.cons rfl (fun K9 hK9 => ?_) AllReadyH.nil)
    go_simp
    refine (HRE.out _ hd0).mono ?_
    rintro ex wo ⟨u, rfl, hru, hbo⟩
    have hBo : Below w.heap.size w wo := hd0.trans (hbo.mono hd0.size)
    have x0 : wo.cell? ⟨o, 3, none⟩ = some (.slice lp T lc) := (hBo.cell (p := ⟨o, 3, none⟩) hol).trans kq
    obtain ⟨g9, c9, rfl⟩ := owns_frm hru hM1
    refine hK9.out _ _ trivial (fun _ => ?_)
    clear hK9
    refine wpAnyH_ready (rs := [8]) (by kernel_rfl) (by simp) ?_
    refine (AllReadyH.cons rfl (fun K9 hK9 => ?_) AllReadyH.nil)
    refine istep_append rfl (.tmp 34) (.tmp 37) rfl B lp T lc (st.ld.map (Value.int .i64)) rfl (owns_later2 HOW.out hBo) g9 c9 M (repL tk ys) rfl hru (by omega) (Nat.le_trans hBw hBo.size) ?_
    intro p4 c4 w4 hown4 hgrow
    have hT4 := HT.out.put (v4 := .slice p4 (T + M) c4) (ys := repL tk ys) hBo hown4 hgrow HQ.out HRL.out
    refine hK9.out _ _ trivial (fun _ => ?_)
    clear hK9
    refine wpAnyH_take (i := 9) (v := .pointer (some ⟨o, 2, none⟩)) rfl (by kernel_rfl) (by kernel_rfl) (by kernel_rfl) (fun _ _ _ h => h) (Or.inl ⟨by kernel_rfl, fun w' _ => by go_simp⟩) trivial ?_
    refine wpAnyH_take (i := 10) (v := .pointer (some ⟨o, 3, none⟩)) rfl (by kernel_rfl) (by kernel_rfl) (by kernel_rfl) (fun _ _ _ h => h) (Or.inl ⟨by kernel_rfl, fun w' _ => by go_simp⟩) trivial ?_
    refine wpAnyH_ready (rs := [11]) (by kernel_rfl) (by simp) ?_
    refine (AllReadyH.cons rfl (fun K9 hK9 => ?_) AllReadyH.nil)
    refine istep_store rfl (.tmp 40) (.tmp 38) rfl ⟨o, 3, none⟩ p4 (T + M) c4 rfl rfl (.slice lp T lc) (hT4.1.trans kq) hT4.2.1 ?_
    have HF := hide hT4.2.2
    clear hT4 hown4 hgrow x0 hru hBo hbo HT kq kq0 kq1
    refine hK9.out _ _ trivial (fun _ => ?_)
    clear hK9
    refine wpAnyH_done (by kernel_rfl) ?_ _
    generalize w4.setCell ⟨o, 3, none⟩ (.slice p4 (T + M) c4) = w5 at *
    go_wp2
    go_ret
    exact ⟨rfl, HF.out⟩
  · go_simp
    refine (HRE.out _ hd0).mono ?_
    rintro ex wo ⟨u, rfl, hru, hbo⟩
    have hBo : Below w.heap.size w wo := hd0.trans (hbo.mono hd0.size)
    have x0 : wo.cell? ⟨o, 3, none⟩ = some (.slice lp T lc) := (hBo.cell (p := ⟨o, 3, none⟩) hol).trans kq
    obtain ⟨g9, c9, rfl⟩ := owns_frm hru hM1
    refine hK9.out _ _ trivial (fun _ => ?_)
    clear hK9
    refine wpAnyH_ready (rs := [4]) (by kernel_rfl) (by simp) ?_
    refine (AllReadyH.cons rfl (fun K9 hK9 => ?_) AllReadyH.nil)
    go_simp
    refine hK9.out _ _ trivial (fun _ => ?_)
    clear hK9
    refine wpAnyH_ready (rs := [8]) (by kernel_rfl) (by simp) ?_
    refine (AllReadyH.cons rfl (fun K9 hK9 => ?_) AllReadyH.nil)
    refine istep_append rfl (.tmp 34) (.tmp 37) rfl B lp T lc (st.ld.map (Value.int .i64)) rfl (owns_later2 HOW.out hBo) g9 c9 M (repL tk ys) rfl hru (by omega) (Nat.le_trans hBw hBo.size) ?_
    intro p4 c4 w4 hown4 hgrow
    have hT4 := HT.out.put (v4 := .slice p4 (T + M) c4) (ys := repL tk ys) hBo hown4 hgrow HQ.out HRL.out
    refine hK9.out _ _ trivial (fun _ => ?_)
    clear hK9
    refine wpAnyH_take (i := 9) (v := .pointer (some ⟨o, 2, none⟩)) rfl (by kernel_rfl) (by kernel_rfl) (by kernel_rfl) (fun _ _ _ h => h) (Or.inl ⟨by kernel_rfl, fun w' _ => by go_simp⟩) trivial ?_
    refine wpAnyH_take (i := 10) (v := .pointer (some ⟨o, 3, none⟩)) rfl (by kernel_rfl) (by kernel_rfl) (by kernel_rfl) (fun _ _ _ h => h) (Or.inl ⟨by kernel_rfl, fun w' _ => by go_simp⟩) trivial ?_
    refine wpAnyH_ready (rs := [11]) (by kernel_rfl) (by simp) ?_
    refine (AllReadyH.cons rfl (fun K9 hK9 => ?_) AllReadyH.nil)
    refine istep_store rfl (.tmp 40) (.tmp 38) rfl ⟨o, 3, none⟩ p4 (T + M) c4 rfl rfl (.slice lp T lc) (hT4.1.trans kq) hT4.2.1 ?_
    have HF := hide hT4.2.2
    clear hT4 hown4 hgrow x0 hru hBo hbo HT kq kq0 kq1
    refine hK9.out _ _ trivial (fun _ => ?_)
    clear hK9
    refine wpAnyH_done (by kernel_rfl) ?_ _
    generalize w4.setCell ⟨o, 3, none⟩ (.slice p4 (T + M) c4) = w5 at *
    go_wp2
    go_ret
    exact ⟨rfl, HF.out⟩

theorem add_ok (B R o oc : Nat) (cv lv : Value) (st : TSt) (v : Value) (ys : List Int) (tk : Nat) (w : World) (h : TsAt w B R cv o oc lv st) (hv : Ints w v ys) (hy : 1 ≤ ys.length) (hk : 1 ≤ tk) (hk2 : tk ≤ 400) (hl : st.ld.length + ys.length * tk ≤ 400) (hBw : B ≤ w.heap.size) :
    Calls Tryd.prog 65 #[.pointer (some ⟨R, 0, none⟩), .int .i64 tk, v] w fun e w' => e = .returned (.int .i64 0) ∧ Ts w' B R cv { st with ld := st.ld ++ repL tk ys } ∧ Bel B w w' := by
  rcases Bool.eq_false_or_eq_true st.dep with hd | hd
  · exact add_2 B R o oc cv lv st v ys tk w h hv hy hk hk2 hl hBw hd
  · exact add_1 B R o oc cv lv st v ys tk w h hv hy hk hk2 hl hBw hd

end Go.Proofs.YtenpkhalgkodbaaDoor

/- Contracts: call.find where a sign is there; the touch reader's opening, closing, take. -/
namespace Go.Proofs.YtenpkhalgkodbaaDoor
open Go.RowKit
set_option maxRecDepth 20000
set_option linter.unusedVariables false

set_option maxHeartbeats 1000000 in
theorem indexSign_at (s : Int) (B : Nat) (b off cap : Nat) (sg : List Int) (w : World) (hB : w.cell? ⟨B, 0, none⟩ = some (.int .i32 s)) (hb : B < w.heap.size) (hbl : b < w.heap.size)
    (hcell : ∀ k, k < sg.length → ∃ u, w.cell? ⟨b, off + k * 2, none⟩ = some (.int .i32 (sg.getD k 0)) ∧ w.cell? ⟨b, off + k * 2 + 1, none⟩ = some u ∧ u.oneCell' = true) (hm3 : sg.length ≤ 1000) :
    Calls Tryd.prog 71 #[.slice (some ⟨b, off, none⟩) sg.length cap, .func (.func 72) #[] #[.pointer (some ⟨B, 0, none⟩)]] w fun e w' => (∃ i : Int, e = .returned (.int .i64 i) ∧ ((0 ≤ i ↔ s ∈ sg) ∧ (0 ≤ i → ∃ k : Nat, i = k ∧ k < sg.length ∧ sg.getD k 0 = s))) ∧ Below w.heap.size w w' := by
  have HC := hide hcell
  have HB := hide hB
  obtain ⟨m, hm⟩ : ∃ m, Hid (sg.length = m) := ⟨_, rfl⟩
  rw [hm.out] at HC hm3 ⊢
  clear hcell hB
  go_enter Tryd.func71, Tryd.ntmps71
  go_wp2
  go_loopw [8] (fun i wr => ∃ k : Nat, k ≤ m ∧ i = .int .i64 k ∧ Hid (∀ j, j < k → sg.getD j 0 ≠ s) ∧ Below w.heap.size w wr) (fun i _ => m - (intOf i).toNat)
  case atStart => exact ⟨0, by omega, rfl, (fun j hj => absurd hj (by omega)), Below.refl _ _⟩
  case round =>
    obtain ⟨k, hk, rfl, hN, hbw⟩ := hrel
    have hbs := hbw.size
    by_cases hlt : k < m
    · obtain ⟨u, a1, a2, a4⟩ := HC.out k hlt
      have g1 : wr.cell? ⟨b, off + k * 2, none⟩ = some (.int .i32 (sg.getD k 0)) := (hbw.cell (by exact hbl)).trans a1
      have g2 : wr.cell? ⟨b, off + k * 2 + 1, none⟩ = some u := (hbw.cell (p := ⟨b, off + k * 2 + 1, none⟩) (by exact hbl)).trans a2
      have HK := hide (isSign_any (sg.getD k 0) s u B wr ((hbw.cell (p := ⟨B, 0, none⟩) hb).trans HB.out) (by omega))
      clear a1 a2
      by_cases he : sg.getD k 0 = s
      · have HI : Hid (s ∈ sg) := by
          have hk' : k < sg.length := by rw [hm.out]; exact hlt
          show s ∈ sg
          rw [← he, List.getD, List.getElem?_eq_getElem hk', Option.getD_some]
          exact List.getElem_mem _
        have HK3 : Hid (∃ k' : Nat, (k : Int) = k' ∧ k' < m ∧ sg.getD k' 0 = s) := ⟨k, rfl, hlt, he⟩
        rw [show (sg.getD k 0 == s) = true from by simpa using he] at HK
        clear he hN
        generalize sg.getD k 0 = r at *
        go_wp2_with fail
        refine HK.out.mono ?_
        rintro e w2 ⟨rfl, hb2⟩
        have hB2 : Below w.heap.size w w2 := hbw.trans (hb2.mono hbs)
        clear hb2
        go_wp2
        go_ret
        exact ⟨⟨(k : Int), rfl, ⟨fun _ => HI.out, fun _ => by omega⟩, fun _ => HK3.out⟩, hB2⟩
      · rw [show (sg.getD k 0 == s) = false from by rw [beq_eq_false_iff_ne]; exact he] at HK
        have HN2 : Hid (∀ j, j < k + 1 → sg.getD j 0 ≠ s) := fun j hj => by
          rcases Nat.lt_succ_iff_lt_or_eq.1 hj with h | h
          · exact hN.out j h
          · rw [h]; exact he
        clear he hN
        generalize sg.getD k 0 = r at *
        go_wp2_with fail
        refine HK.out.mono ?_
        rintro e w2 ⟨rfl, hb2⟩
        have hB2 : Below w.heap.size w w2 := hbw.trans (hb2.mono hbs)
        clear hb2
        go_wp2
        go_roundw
        case rel => exact ⟨k + 1, by omega, by go_num, HN2, hB2⟩
        case measure => simp [intOf]; omega
    · have HNI : Hid (¬ s ∈ sg) := fun h => by
        obtain ⟨j, hj, e⟩ := List.getElem_of_mem h
        have := hN.out j (by rw [hm.out] at hj; omega)
        rw [List.getD, List.getElem?_eq_getElem hj, Option.getD_some] at this
        exact this e
      clear hN
      go_wp2
      go_ret
      exact ⟨⟨-1, rfl, ⟨fun h => absurd h (by omega), fun h => absurd h HNI.out⟩, fun h => absurd h (by omega)⟩, hbw⟩

set_option maxHeartbeats 1000000 in
theorem find_at9 (s : Int) (b off cap : Nat) (sg : List Int) (w : World) (hbl : b < w.heap.size)
    (hcell : ∀ k, k < sg.length → ∃ u, w.cell? ⟨b, off + k * 2, none⟩ = some (.int .i32 (sg.getD k 0)) ∧ w.cell? ⟨b, off + k * 2 + 1, none⟩ = some u ∧ u.oneCell' = true) (hm3 : sg.length ≤ 1000) :
    Calls Tryd.prog 49 #[.slice (some ⟨b, off, none⟩) sg.length cap, .int .i32 s] w fun e w' => (∃ i : Int, e = .returned (.int .i64 i) ∧ ((0 ≤ i ↔ s ∈ sg) ∧ (0 ≤ i → ∃ k : Nat, i = k ∧ k < sg.length ∧ sg.getD k 0 = s))) ∧ Below w.heap.size w w' := by
  have hmf : ∀ (fn : Fn) (first cap : Array Value) (w : World), (Instr.makeFunc fn first cap).run Tryd.prog w = .ok (.func fn first cap) w := fun _ _ _ _ => rfl
  have hB1 : Below w.heap.size w (w.alloc (.cells #[.int .i32 s] 21)) := (Below.refl _ _).alloc (Nat.le_refl _) _
  have h9 := heap_alloc_new w (.cells #[.int .i32 s] 21)
  have HI := hide (indexSign_at s w.heap.size b off cap sg (w.alloc (.cells #[.int .i32 s] 21)) (by unfold World.cell?; simp only [h9]; rfl) (by simp) (by simp; omega) (fun k hk => by
    obtain ⟨u, a1, a2, a3⟩ := hcell k hk
    exact ⟨u, (hB1.cell (p := ⟨b, off + k * 2, none⟩) hbl).trans a1, (hB1.cell (p := ⟨b, off + k * 2 + 1, none⟩) hbl).trans a2, a3⟩) hm3)
  obtain ⟨m, hm⟩ : ∃ m, Hid (sg.length = m) := ⟨_, rfl⟩
  rw [hm.out] at HI ⊢
  clear hcell h9 hm3
  go_enter Tryd.func49, Tryd.ntmps49
  go_wp2_with fail
  refine HI.out.mono ?_
  rintro e w2 ⟨⟨i, rfl, hi⟩, hb2⟩
  have hB2 : Below w.heap.size w w2 := hB1.trans (hb2.mono (by simp))
  have HII := hide hi
  clear hb2 hB1 hi
  go_wp2
  go_ret
  exact ⟨⟨i, rfl, HII.out⟩, hB2⟩


theorem find_at (cv : Value) (cs : List Cl) (c : Nat) (w : World) (h : CallsIn w cv cs) (hc : c < cs.length) (hm : cs.length ≤ 1000) (hdis : ∀ i j, i < j → j < cs.length → (cs.getD i (0, [])).1 ≠ (cs.getD j (0, [])).1) :
    Calls Tryd.prog 49 #[cv, .int .i32 (cs.getD c (0, [])).1] w fun e w' => e = .returned (.int .i64 c) ∧ Below w.heap.size w w' := by
  rcases h with ⟨h0, _⟩ | ⟨_, b, off, cap, rfl, hbl, hcap, _, hcell⟩
  · rw [h0] at hc; simp at hc
  have hg : ∀ k, k < cs.length → (cs.map Prod.fst).getD k 0 = (cs.getD k (0, [])).1 := fun k hk => by simp [List.getD, hk]
  have h9 := find_at9 (cs.getD c (0, [])).1 b off cap (cs.map Prod.fst) w hbl (fun k hk => by
    rw [List.length_map] at hk
    obtain ⟨u, a1, a2, a3⟩ := hcell k hk
    rw [hg k hk]
    obtain ⟨p9, c9, rfl⟩ := a3.len
    exact ⟨_, a1, a2, rfl⟩) (by rw [List.length_map]; exact hm)
  rw [List.length_map] at h9
  refine h9.mono ?_
  rintro e w' ⟨⟨i, rfl, hi, hk⟩, hb⟩
  refine ⟨?_, hb⟩
  have hin : (cs.getD c (0, [])).1 ∈ cs.map Prod.fst := by
    rw [← hg c hc, List.getD, List.getElem?_eq_getElem (by rw [List.length_map]; exact hc), Option.getD_some]
    exact List.getElem_mem _
  obtain ⟨k, rfl, hkl, hke⟩ := hk (hi.2 hin)
  rw [hg k hkl] at hke
  have : k = c := by
    rcases Nat.lt_trichotomy k c with h1 | h1 | h1
    · exact absurd hke (hdis k c h1 hc)
    · exact h1
    · exact absurd hke.symm (hdis c k h1 hkl)
  rw [this]

end Go.Proofs.YtenpkhalgkodbaaDoor

/- Contracts: the touch reader's opening and closing. -/
namespace Go.Proofs.YtenpkhalgkodbaaDoor
open Go.RowKit
set_option maxRecDepth 20000
set_option linter.unusedVariables false

theorem Tryd.info96 : (Tryd.prog.info? 96).map (fun i => (i.zero, i.size, i.bytes)) = some (some (.agg #[.int .i64 0, .slice none 0 0]), 2, 32) := by kernel_rfl

/-- A bracket as it is laid. -/
def bobj (tk : Nat) : Obj := .cells #[.int .i64 tk, .slice none 0 0] 96

theorem brun_build (tk : Nat) (w : World) : (Instr.buildSlice 73 1 #[(0, .agg #[.int .i64 tk, .slice none 0 0])]).run Tryd.prog w = .ok (.slice (some ⟨w.heap.size, 0, none⟩) 1 1) (w.alloc (bobj tk)) := by kernel_rfl

theorem bstep_build {ops : Array Oper} {o : Oper} {a : Act} {w : World} {K : Act → World → Prop} {Q : Exit → Act → World → Prop} {E : Prop} (hg : o.guard = none) (x : Operand) (hop : o.op = Op.buildSlice 73 1 #[(0, x)]) (tk : Nat) (hx : a.eval x = .agg #[.int .i64 tk, .slice none 0 0])
    (hK : K (a.put o.dst (.slice (some ⟨w.heap.size, 0, none⟩) 1 1)) (w.alloc (bobj tk))) : if Region.wanted o (yielded ops a.tmps) = true then Oper.wp Tryd.prog o a w K Q else E :=
  step_val hg (by unfold execOp; simp only [hop, List.map_toArray, List.map_cons, List.map_nil, hx, brun_build, Sem.run_bind, Sem.run_pure, Result.andThen_ok]) hK

/-- One more bracket is laid behind the first. -/
theorem bstep_append {ops : Array Oper} {o : Oper} {a : Act} {w : World} {K : Act → World → Prop} {Q : Exit → Act → World → Prop} {E : Prop} (hg : o.guard = none) (s x : Operand)
    (ho : o.op = .call { callee := .builtin .append, args := #[s, x], argTypes := #[73, 73] })
    (base o1 oc tk : Nat) (hs : a.eval s = .slice (some ⟨o1, 0, none⟩) 1 oc) (hown : w.ownsRow base 96 2 (.slice (some ⟨o1, 0, none⟩) 1 oc) 1 [.int .i64 0, .slice none 0 0])
    (b : Nat) (hx : a.eval x = .slice (some ⟨b, 0, none⟩) 1 1) (hb : w.heap[b]? = some (bobj tk)) (hbase : base ≤ w.heap.size)
    (h : ∀ o4 c4 w4, w4.ownsRow base 96 2 (.slice (some ⟨o4, 0, none⟩) 2 c4) 2 [.int .i64 0, .slice none 0 0, .int .i64 tk, .slice none 0 0] → w.grownBy w4 (some o1) → K (a.put o.dst (.slice (some ⟨o4, 0, none⟩) 2 c4)) w4) :
    if Region.wanted o (yielded ops a.tmps) = true then Oper.wp Tryd.prog o a w K Q else E := by
  obtain ⟨i0, hi, hz0, hz1, hz2⟩ := info_parts Tryd.info96
  refine step_append_own hg s x 73 ho base 96 i0 (.agg #[.int .i64 0, .slice none 0 0]) 2 32 Tryd.underlying73 hi hz0 hz1 hz2 rfl (by decide) (.slice (some ⟨o1, 0, none⟩) 1 oc) 1 [.int .i64 0, .slice none 0 0] hs hown ⟨b, 0, none⟩ 1 1 [.int .i64 tk, .slice none 0 0] hx rfl (fun j u hu => ?_) (fun u hu => ?_) (by unfold maxLen; omega) (by omega) hbase (fun v' w4 h4 hg4 => ?_)
  · rw [Addr.add_lit, Nat.zero_add]
    unfold World.cell?
    rw [hb]
    unfold bobj
    simpa using hu
  · simp at hu
    rcases hu with rfl | rfl <;> rfl
  · obtain ⟨o4, c4, rfl⟩ := owns_frm h4 (by decide)
    exact h o4 c4 w4 h4 hg4

theorem brun_store (w : World) (ad : Addr) (vp : Option Addr) (vm vc : Nat) (old : Value) (hc : w.cell? ad = some old) (hf : w.frozen? ad = false) :
    (Instr.storeAt 73 (.pointer (some ad)) (.slice vp vm vc)).run Tryd.prog w = .ok () (w.setCell ad (.slice vp vm vc)) := by
  simp [go_sem, hc, hf]

theorem bstep_store {ops : Array Oper} {o : Oper} {a : Act} {w : World} {K : Act → World → Prop} {Q : Exit → Act → World → Prop} {E : Prop} (hg : o.guard = none) (p x : Operand) (hop : o.op = Op.store 73 p x)
    (ad : Addr) (vp : Option Addr) (vm vc : Nat) (hp : a.eval p = .pointer (some ad)) (hx : a.eval x = .slice vp vm vc) (old : Value) (hc : w.cell? ad = some old) (hf : w.frozen? ad = false) (hK : K (a.put o.dst undef) (w.setCell ad (.slice vp vm vc))) :
    if Region.wanted o (yielded ops a.tmps) = true then Oper.wp Tryd.prog o a w K Q else E :=
  step_skp hg (by unfold execOp; simp only [hop, hp, hx, brun_store w ad vp vm vc old hc hf, Sem.run_bind, Sem.run_pure, Result.andThen_ok]) hK

theorem TsAt.opn1 {w : World} {B R o oc : Nat} {cv : Value} (h : TsAt w B R cv o oc (.slice none 0 0) ⟨0, false, 0, []⟩) : w.ownsRow B 96 2 (.slice (some ⟨o, 0, none⟩) 1 oc) 1 [.int .i64 0, .slice none 0 0] := h.opn

/-- A bracket has been opened. -/
theorem TsAt.opened {w w4 : World} {B R o oc o4 c4 tk : Nat} {cv : Value} (h : TsAt w B R cv o oc (.slice none 0 0) ⟨0, false, 0, []⟩)
    (hown : w4.ownsRow B 96 2 (.slice (some ⟨o4, 0, none⟩) 2 c4) 2 [.int .i64 0, .slice none 0 0, .int .i64 tk, .slice none 0 0]) (hg : (w.alloc (bobj tk)).grownBy w4 (some o)) :
    w4.cell? ⟨R, 1, none⟩ = w.cell? ⟨R, 1, none⟩ ∧ w4.frozen? ⟨R, 1, none⟩ = false ∧
    (Ts (w4.setCell ⟨R, 1, none⟩ (.slice (some ⟨o4, 0, none⟩) 2 c4)) B R cv ⟨0, true, tk, []⟩ ∧ Bel B w (w4.setCell ⟨R, 1, none⟩ (.slice (some ⟨o4, 0, none⟩) 2 c4))) := by
  have hRl := h.lt
  have hBR := h.hB
  have e2 : w4.heap[R]? = w.heap[R]? := (hg.block R (by simp; omega) (fun e => h.oR (Option.some.inj e).symm)).trans (Below.heap_alloc _ _ _ hRl)
  have hR4 := e2.trans h.blk
  refine ⟨by simp only [World.cell?, e2], by simp [World.frozen?, hR4], ⟨o4, c4, .slice none 0 0, ?_⟩, ?_⟩
  · refine ⟨?_, hBR, ?_, World.ownsRow_nil _ _ _ _, fun _ => rfl⟩
    · rw [heap_setC hR4]
      rfl
    · exact ownsRow_setCell_other (a := ⟨R, 1, none⟩) hown (fun e => by
        have := owns_apart hown hR4 (by decide)
        exact this e) _
  · have hb1 : Bel B w (w.alloc (bobj tk)) := (Bel.refl B w).alloc (by omega) _
    have hb2 : Bel B (w.alloc (bobj tk)) w4 := Bel.grown2 (h.opn.alloc _) (Nat.le_refl _) (by simp; omega) hg
    exact (hb1.trans hb2).setCell (p := ⟨R, 1, none⟩) hBR _

set_option maxHeartbeats 8000000 in
theorem opening_ok (B R nm o oc : Nat) (cv lv : Value) (w : World) (h : TsAt w B R cv o oc lv ⟨nm, false, 0, []⟩) (hBw : B ≤ w.heap.size) :
    Calls Tryd.prog 63 #[.pointer (some ⟨R, 0, none⟩)] w fun e w' => e = .returned (.int .i64 0) ∧ Ts w' B R cv ⟨0, true, max nm 1, []⟩ ∧ Bel B w w' := by
  obtain rfl : lv = .slice none 0 0 := h.nil rfl
  have HWI := hide (within_ok B R o oc cv _ _ w h)
  obtain ⟨tk, htk⟩ : ∃ tk, max nm 1 = tk := ⟨_, rfl⟩
  have hTI : ∀ W, Below w.heap.size w W → Calls Tryd.prog 66 #[.pointer (some ⟨R, 0, none⟩)] W fun e w' => e = .returned (.int .i64 tk) ∧ w' = W.setCell ⟨R, 2, none⟩ (.int .i64 0) := fun W hW => by
    have := rtimes_ok B R o oc cv _ _ W (h.later hW)
    rw [show max (TSt.num ⟨nm, false, 0, []⟩) 1 = tk from htk] at this
    exact this
  have HTI := hide hTI
  rw [htk]
  have hd0 : Below w.heap.size w w.drew := (Below.refl _ _).drew
  have hsd : w.drew.heap.size = w.heap.size := rfl
  have HTA : Hid (TsAt (w.drew.setCell ⟨R, 2, none⟩ (.int .i64 0)) B R cv o oc (.slice none 0 0) ⟨0, false, 0, []⟩) := (h.later hd0).setNum 0
  have HBT : Hid (Bel B w (w.drew.setCell ⟨R, 2, none⟩ (.int .i64 0))) := (Bel.refl B w).drew.setCell (p := ⟨R, 2, none⟩) h.hB _
  have c1 : w.cell? ⟨R, 1, none⟩ = some (.slice (some ⟨o, 0, none⟩) 1 oc) := h.c1
  have c1a : w.drew.cell? ⟨R, 1, none⟩ = some (.slice (some ⟨o, 0, none⟩) 1 oc) := h.c1
  have c1b : (w.drew.setCell ⟨R, 2, none⟩ (.int .i64 0)).cell? ⟨R, 1, none⟩ = some (.slice (some ⟨o, 0, none⟩) 1 oc) := HTA.out.c1
  have c1c : ((w.drew.setCell ⟨R, 2, none⟩ (.int .i64 0)).alloc (bobj tk)).cell? ⟨R, 1, none⟩ = some (.slice (some ⟨o, 0, none⟩) 1 oc) := (((Below.refl _ _).alloc (Nat.le_refl _) (bobj tk)).cell (p := ⟨R, 1, none⟩) HTA.out.lt).trans c1b
  have c1d : ((w.setCell ⟨R, 2, none⟩ (.int .i64 0)).alloc (bobj tk)).cell? ⟨R, 1, none⟩ = some (.slice (some ⟨o, 0, none⟩) 1 oc) := c1c
  have c1e : (w.setCell ⟨R, 2, none⟩ (.int .i64 0)).cell? ⟨R, 1, none⟩ = some (.slice (some ⟨o, 0, none⟩) 1 oc) := c1b
  have hnw : ((w.setCell ⟨R, 2, none⟩ (.int .i64 0)).alloc (bobj tk)).heap[w.heap.size]? = some (bobj tk) := by
    have h9 := heap_alloc_new (w.setCell ⟨R, 2, none⟩ (.int .i64 0)) (bobj tk)
    rwa [show (w.setCell ⟨R, 2, none⟩ (.int .i64 0)).heap.size = w.heap.size from by simp [World.setCell]] at h9
  have hwt : B ≤ (w.drew.setCell ⟨R, 2, none⟩ (.int .i64 0)).heap.size := by have := HTA.out.lt; have := HTA.out.hB; omega
  clear h hTI htk
  go_enter Tryd.func63, Tryd.ntmps63
  go_wp2_with fail
  refine HWI.out.mono ?_
  rintro e w1 ⟨rfl, rfl⟩
  clear HWI
  go_upto_region 3 with fail
  refine wp_region_held_drew (S := fun _ => True) (by kernel_rfl) trivial (fun _ => ?_)
  refine wpAnyH_take (i := 0) (v := .pointer (some ⟨R, 0, none⟩)) rfl (by kernel_rfl) (by kernel_rfl) (by kernel_rfl) (fun _ _ _ h => h) (Or.inl ⟨by kernel_rfl, fun w' hS' => by go_simp⟩) trivial ?_
  refine wpAnyH_take (i := 1) (v := .pointer (some ⟨R, 0, none⟩)) rfl (by kernel_rfl) (by kernel_rfl) (by kernel_rfl) (fun _ _ _ h => h) (Or.inl ⟨by kernel_rfl, fun w' hS' => by go_simp⟩) trivial ?_
  refine wpAnyH_take (i := 2) (v := .pointer (some ⟨R, 0, none⟩)) rfl (by kernel_rfl) (by kernel_rfl) (by kernel_rfl) (fun _ _ _ h => h) (Or.inl ⟨by kernel_rfl, fun w' hS' => by go_simp⟩) trivial ?_
  refine wpAnyH_take (i := 3) (v := .pointer (some ⟨R, 1, none⟩)) rfl (by kernel_rfl) (by kernel_rfl) (by kernel_rfl) (fun _ _ _ h => h) (Or.inl ⟨by kernel_rfl, fun w' hS' => by go_simp⟩) trivial ?_
  refine wpAnyH_take (i := 5) (v := .pointer (some ⟨R, 0, none⟩)) rfl (by kernel_rfl) (by kernel_rfl) (by kernel_rfl) (fun _ _ _ h => h) (Or.inl ⟨by kernel_rfl, fun w' hS' => by go_simp⟩) trivial ?_
  refine wpAnyH_ready (rs := [4, 6]) (by kernel_rfl) (by simp) ?_
  refine (AllReadyH.cons rfl (fun K9 hK9 => ?_) (AllReadyH.cons rfl (fun K9 hK9 => ?_) AllReadyH.nil))
  · go_simp
    refine hK9.out _ _ trivial (fun _ => ?_)
    clear hK9
    refine wpAnyH_ready (rs := [6]) (by kernel_rfl) (by simp) ?_
    refine (AllReadyH.cons rfl (fun K9 hK9 => ?_) AllReadyH.nil)
    go_simp
    refine (HTI.out _ hd0).mono ?_
    rintro e wt ⟨rfl, rfl⟩
    refine hK9.out _ _ trivial (fun _ => ?_)
    clear hK9
    refine wpAnyH_take (i := 7) (v := .agg #[.int .i64 tk, .slice none 0 0]) rfl (by kernel_rfl) (by kernel_rfl) (by kernel_rfl) (fun _ _ _ h => h) (Or.inl ⟨by kernel_rfl, fun w' hS' => by go_simp⟩) trivial ?_
    refine wpAnyH_ready (rs := [8]) (by kernel_rfl) (by simp) ?_
    refine (AllReadyH.cons rfl (fun K9 hK9 => ?_) AllReadyH.nil)
    refine bstep_build rfl _ rfl tk rfl ?_
    refine hK9.out _ _ trivial (fun _ => ?_)
    clear hK9
    refine wpAnyH_ready (rs := [9]) (by kernel_rfl) (by simp) ?_
    refine (AllReadyH.cons rfl (fun K9 hK9 => ?_) AllReadyH.nil)
    refine bstep_append rfl (.tmp 10) (.tmp 14) rfl B o oc tk rfl ((HTA.out).opn1.alloc _) _ rfl (by first | exact heap_alloc_new _ _ | exact hnw) (by first | (simp; omega) | (simp [World.setCell]; omega)) ?_
    intro o4 c4 w4 hown4 hgrow
    have hT4 := HTA.out.opened hown4 hgrow
    refine hK9.out _ _ trivial (fun _ => ?_)
    clear hK9
    refine wpAnyH_take (i := 10) (v := .pointer (some ⟨R, 0, none⟩)) rfl (by kernel_rfl) (by kernel_rfl) (by kernel_rfl) (fun _ _ _ h => h) (Or.inl ⟨by kernel_rfl, fun w' hS' => by go_simp⟩) trivial ?_
    refine wpAnyH_take (i := 11) (v := .pointer (some ⟨R, 1, none⟩)) rfl (by kernel_rfl) (by kernel_rfl) (by kernel_rfl) (fun _ _ _ h => h) (Or.inl ⟨by kernel_rfl, fun w' hS' => by go_simp⟩) trivial ?_
    refine wpAnyH_ready (rs := [12]) (by kernel_rfl) (by simp) ?_
    refine (AllReadyH.cons rfl (fun K9 hK9 => ?_) AllReadyH.nil)
    refine bstep_store rfl (.tmp 17) (.tmp 15) rfl ⟨R, 1, none⟩ (some ⟨o4, 0, none⟩) 2 c4 rfl rfl _ (hT4.1.trans c1b) hT4.2.1 ?_
    have HF := hide hT4.2.2
    clear hT4 hown4 hgrow HTA
    refine hK9.out _ _ trivial (fun _ => ?_)
    clear hK9
    refine wpAnyH_done (by kernel_rfl) ?_ _
    generalize w4.setCell ⟨R, 1, none⟩ (.slice (some ⟨o4, 0, none⟩) 2 c4) = w5 at *
    go_wp2
    go_ret
    exact ⟨rfl, HF.out.1, HBT.out.trans HF.out.2⟩
  · go_simp
    refine (HTI.out _ hd0).mono ?_
    rintro e wt ⟨rfl, rfl⟩
    refine hK9.out _ _ trivial (fun _ => ?_)
    clear hK9
    refine wpAnyH_take (i := 7) (v := .agg #[.int .i64 tk, .slice none 0 0]) rfl (by kernel_rfl) (by kernel_rfl) (by kernel_rfl) (fun _ _ _ h => h) (Or.inl ⟨by kernel_rfl, fun w' hS' => by go_simp⟩) trivial ?_
    refine wpAnyH_ready (rs := [4, 8]) (by kernel_rfl) (by simp) ?_
    refine (AllReadyH.cons rfl (fun K9 hK9 => ?_) (AllReadyH.cons rfl (fun K9 hK9 => ?_) AllReadyH.nil))
    · go_simp
      refine hK9.out _ _ trivial (fun _ => ?_)
      clear hK9
      refine wpAnyH_ready (rs := [8]) (by kernel_rfl) (by simp) ?_
      refine (AllReadyH.cons rfl (fun K9 hK9 => ?_) AllReadyH.nil)
      refine bstep_build rfl _ rfl tk rfl ?_
      refine hK9.out _ _ trivial (fun _ => ?_)
      clear hK9
      refine wpAnyH_ready (rs := [9]) (by kernel_rfl) (by simp) ?_
      refine (AllReadyH.cons rfl (fun K9 hK9 => ?_) AllReadyH.nil)
      refine bstep_append rfl (.tmp 10) (.tmp 14) rfl B o oc tk rfl ((HTA.out).opn1.alloc _) _ rfl (by first | exact heap_alloc_new _ _ | exact hnw) (by first | (simp; omega) | (simp [World.setCell]; omega)) ?_
      intro o4 c4 w4 hown4 hgrow
      have hT4 := HTA.out.opened hown4 hgrow
      refine hK9.out _ _ trivial (fun _ => ?_)
      clear hK9
      refine wpAnyH_take (i := 10) (v := .pointer (some ⟨R, 0, none⟩)) rfl (by kernel_rfl) (by kernel_rfl) (by kernel_rfl) (fun _ _ _ h => h) (Or.inl ⟨by kernel_rfl, fun w' hS' => by go_simp⟩) trivial ?_
      refine wpAnyH_take (i := 11) (v := .pointer (some ⟨R, 1, none⟩)) rfl (by kernel_rfl) (by kernel_rfl) (by kernel_rfl) (fun _ _ _ h => h) (Or.inl ⟨by kernel_rfl, fun w' hS' => by go_simp⟩) trivial ?_
      refine wpAnyH_ready (rs := [12]) (by kernel_rfl) (by simp) ?_
      refine (AllReadyH.cons rfl (fun K9 hK9 => ?_) AllReadyH.nil)
      refine bstep_store rfl (.tmp 17) (.tmp 15) rfl ⟨R, 1, none⟩ (some ⟨o4, 0, none⟩) 2 c4 rfl rfl _ (hT4.1.trans c1b) hT4.2.1 ?_
      have HF := hide hT4.2.2
      clear hT4 hown4 hgrow HTA
      refine hK9.out _ _ trivial (fun _ => ?_)
      clear hK9
      refine wpAnyH_done (by kernel_rfl) ?_ _
      generalize w4.setCell ⟨R, 1, none⟩ (.slice (some ⟨o4, 0, none⟩) 2 c4) = w5 at *
      go_wp2
      go_ret
      exact ⟨rfl, HF.out.1, HBT.out.trans HF.out.2⟩
    · refine bstep_build rfl _ rfl tk rfl ?_
      refine hK9.out _ _ trivial (fun _ => ?_)
      clear hK9
      refine wpAnyH_ready (rs := [4]) (by kernel_rfl) (by simp) ?_
      refine (AllReadyH.cons rfl (fun K9 hK9 => ?_) AllReadyH.nil)
      go_simp
      refine hK9.out _ _ trivial (fun _ => ?_)
      clear hK9
      refine wpAnyH_ready (rs := [9]) (by kernel_rfl) (by simp) ?_
      refine (AllReadyH.cons rfl (fun K9 hK9 => ?_) AllReadyH.nil)
      refine bstep_append rfl (.tmp 10) (.tmp 14) rfl B o oc tk rfl ((HTA.out).opn1.alloc _) _ rfl (by first | exact heap_alloc_new _ _ | exact hnw) (by first | (simp; omega) | (simp [World.setCell]; omega)) ?_
      intro o4 c4 w4 hown4 hgrow
      have hT4 := HTA.out.opened hown4 hgrow
      refine hK9.out _ _ trivial (fun _ => ?_)
      clear hK9
      refine wpAnyH_take (i := 10) (v := .pointer (some ⟨R, 0, none⟩)) rfl (by kernel_rfl) (by kernel_rfl) (by kernel_rfl) (fun _ _ _ h => h) (Or.inl ⟨by kernel_rfl, fun w' hS' => by go_simp⟩) trivial ?_
      refine wpAnyH_take (i := 11) (v := .pointer (some ⟨R, 1, none⟩)) rfl (by kernel_rfl) (by kernel_rfl) (by kernel_rfl) (fun _ _ _ h => h) (Or.inl ⟨by kernel_rfl, fun w' hS' => by go_simp⟩) trivial ?_
      refine wpAnyH_ready (rs := [12]) (by kernel_rfl) (by simp) ?_
      refine (AllReadyH.cons rfl (fun K9 hK9 => ?_) AllReadyH.nil)
      refine bstep_store rfl (.tmp 17) (.tmp 15) rfl ⟨R, 1, none⟩ (some ⟨o4, 0, none⟩) 2 c4 rfl rfl _ (hT4.1.trans c1b) hT4.2.1 ?_
      have HF := hide hT4.2.2
      clear hT4 hown4 hgrow HTA
      refine hK9.out _ _ trivial (fun _ => ?_)
      clear hK9
      refine wpAnyH_done (by kernel_rfl) ?_ _
      generalize w4.setCell ⟨R, 1, none⟩ (.slice (some ⟨o4, 0, none⟩) 2 c4) = w5 at *
      go_wp2
      go_ret
      exact ⟨rfl, HF.out.1, HBT.out.trans HF.out.2⟩

end Go.Proofs.YtenpkhalgkodbaaDoor
