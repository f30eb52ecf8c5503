/- Joined: GMay, May, ExE, ExF, ExG, ExH, ExO, ExI, ExK, ExL. -/
import Derived.Test.YtimfoggjocajiaaJ4
import Derived.Test.YtimfoggjocajiaaJ2
import Derived.Test.YtimfoggjocajiaaJ12
import Derived.Test.YtimfoggjocajiaaJ10
import Derived.Test.YtimfoggjocajiaaJ6
import Derived.Test.YtimfoggjocajiaaJ7
import Derived.Test.YtimfoggjocajiaaJ8
import Derived.Test.YtimfoggjocajiaaJ11
/- Contracts: GensMay, the answer's own; Check where it refuses. -/
namespace Go.Proofs.Ytimfoggjocajiaa
open Go.RowKit

set_option maxRecDepth 20000 in
set_option maxHeartbeats 2000000 in
theorem gensMay_ok (n : Nat) (v : Value) (xss : List (List Int)) (w : World) (h : IntsAll w v xss) (h1 : 1 ≤ n) (h12 : n ≤ 12) (h8 : xss.length ≤ 8) :
    Calls Try.prog 15 #[.int .i64 n, v] w fun e w' => e = .returned (.int .i64 (gchk n xss)) ∧ w = w' := by
  obtain ⟨vs, hv, hl, he⟩ := h
  have hn1 : ¬ ((n : Int) < 1) := by omega
  have hn2 : ¬ ((n : Int) > 12) := by omega
  rcases hv with ⟨rfl, p, c, rfl⟩ | ⟨b, off, cap, rfl, h0, hc, hm, hb, hcell⟩
  · obtain rfl : xss = [] := List.length_eq_zero_iff.1 (by simpa using hl.symm)
    clear he hl
    go_enter Try.func15, Try.ntmps15
    go_wp2
    go_loop [5] (fun i => i = .int .i64 0) (fun _ => 0)
    case atStart => rfl
    case round =>
      subst hrel
      go_wp2
      go_ret
      exact ⟨rfl, rfl⟩
  · have hv8 : (vs.length : Int) ≤ 8 := by omega
    have HL := hide hl
    have HE := hide he
    have HC := hide hcell
    clear hl he hcell
    go_enter Try.func15, Try.ntmps15
    go_wp2
    go_loop [5] (fun i => ∃ k : Nat, k ≤ vs.length ∧ i = .int .i64 k ∧ Hid (gchk n (xss.drop k) = gchk n xss)) (fun i => vs.length - (intOf i).toNat)
    case atStart => exact ⟨0, by omega, rfl, rfl⟩
    case round =>
      obtain ⟨k, hk, rfl, ht⟩ := hrel
      by_cases hlt : k < vs.length
      · have hkx : k < xss.length := by have := HL.out; omega
        obtain ⟨p1, c1, hcx, hix⟩ := elAt HC.out hlt (HE.out k hkx)
        have HS := hide (rowMay_any _ _ w hix.out)
        have HD := hide (gchk_drop (n := n) hkx)
        rw [ht.out] at HD
        generalize xss.getD k [] = X at *
        generalize hlx : X.length = lx at *
        have HLX := hide hlx
        clear hix hlx
        go_wp2_with fail
        refine HS.out.mono ?_
        rintro e w1 ⟨rfl, rfl⟩
        by_cases hz : chk X = 0
        · by_cases hn : lx = n
          · have hr : rchk n X = 0 := by unfold rchk; rw [if_pos hz, if_pos (by rw [HLX.out]; exact hn)]
            have HD' : Hid (gchk n (xss.drop (k + 1)) = gchk n xss) := by have := HD.out; rw [if_pos hr] at this; exact this.symm
            rw [hz]
            subst hn
            clear HD HS hz hr
            go_wp2
            go_round
            case rel => exact ⟨k + 1, by omega, by go_num, HD'⟩
            case measure => simp [intOf]; omega
          · have hr : rchk n X = 1 := by unfold rchk; rw [if_pos hz, if_neg (by rw [HLX.out]; exact hn)]
            have HD' : Hid (gchk n xss = 1) := by have := HD.out; rw [hr, if_neg (by decide)] at this; exact this
            have hnn : ((lx : Int) != (n : Int)) = true := by rw [bne_iff_ne]; omega
            rw [hz]
            clear HD HS hz hr hn
            go_wp2
            go_ret
            exact ⟨ret_int HD'.out.symm, rfl⟩
        · have hr : rchk n X = chk X := by unfold rchk; rw [if_neg hz]
          have HD' : Hid (gchk n xss = chk X) := by have := HD.out; rw [hr, if_neg hz] at this; exact this
          have hne : (chk X != 0) = true := by rw [bne_iff_ne]; exact hz
          clear HD HS hz hr
          generalize chk X = z at *
          go_wp2
          go_ret
          exact ⟨ret_int HD'.out.symm, rfl⟩
      · have HE0 : Hid (gchk n xss = 0) := by show _ = _; rw [← ht.out, List.drop_eq_nil_of_le (by have := HL.out; omega)]; rfl
        go_wp2
        go_ret
        exact ⟨ret_int HE0.out.symm, rfl⟩

set_option maxRecDepth 20000 in
theorem gensMay_bad (n : Int) (v : Value) (xss : List (List Int)) (w : World) (h : IntsAll w v xss) (hb : n < 1 ∨ 12 < n ∨ 8 < xss.length) :
    Calls Try.prog 15 #[.int .i64 n, v] w fun e w' => e = .returned (.int .i64 1) ∧ w = w' := by
  obtain ⟨vs, hv, hl, _⟩ := h
  obtain ⟨p, c, rfl⟩ := hv.form
  clear hv
  by_cases h1 : n < 1
  · go_enter Try.func15, Try.ntmps15
    go_wp2
    go_ret
    exact ⟨rfl, rfl⟩
  · by_cases h2 : n > 12
    · go_enter Try.func15, Try.ntmps15
      go_wp2
      go_ret
      exact ⟨rfl, rfl⟩
    · have h3 : (vs.length : Int) > 8 := by omega
      clear hb hl
      go_enter Try.func15, Try.ntmps15
      go_wp2
      go_ret
      exact ⟨rfl, rfl⟩

set_option maxRecDepth 20000 in
theorem gcheck_bad (n : Int) (v : Value) (xss : List (List Int)) (w : World) (h : IntsAll w v xss) (hb : n < 1 ∨ 12 < n ∨ 8 < xss.length) :
    Calls Try.prog 16 #[.int .i64 n, v] w fun e w' => e = .returned (.int .i64 1) ∧ w = w' := by
  obtain ⟨vs, hv, hl, _⟩ := h
  obtain ⟨p, c, rfl⟩ := hv.form
  clear hv
  by_cases h1 : n < 1
  · go_enter Try.func16, Try.ntmps16
    go_wp2
    go_ret
    exact ⟨rfl, rfl⟩
  · by_cases h2 : n > 12
    · go_enter Try.func16, Try.ntmps16
      go_wp2
      go_ret
      exact ⟨rfl, rfl⟩
    · have h3 : (vs.length : Int) > 8 := by omega
      clear hb hl
      go_enter Try.func16, Try.ntmps16
      go_wp2
      go_ret
      exact ⟨rfl, rfl⟩

end Go.Proofs.Ytimfoggjocajiaa

/- Contracts: GensMay, the answer's own; Check and Make where they refuse. -/
namespace Go.Proofs.Ytimfoggjocajiaa
open Go.RowKit

/-- Make, where Check refuses. -/
theorem make_refuses (n : Int) (v : Value) (c : Int) (w : World) (hc : c ≠ 0) (hk : Calls Try.prog 16 #[.int .i64 n, v] w fun e w' => e = .returned (.int .i64 c) ∧ Below w.heap.size w w') :
    Calls Try.prog 14 #[.int .i64 n, v] w fun e w' => e = .returned (.tuple #[.pointer none, .int .i64 c]) ∧ Below w.heap.size w w' := by
  have HK := hide hk
  have hne : (c != 0) = true := by rw [bne_iff_ne]; exact hc
  clear hk hc
  go_enter Try.func14, Try.ntmps14
  go_wp2_with fail
  refine HK.out.mono ?_
  rintro e w1 ⟨rfl, hb1⟩
  go_wp2
  go_ret2
  exact ⟨rfl, hb1⟩

end Go.Proofs.Ytimfoggjocajiaa

/- Contracts: extent.exits, extent.Qsets. -/
namespace Go.Proofs.Ytimfoggjocajiaa
open Go.RowKit

theorem ints_two {w : World} {m : Nat} {v1 v2 : Value} {xs ys : List Int} (hm : w.heap.size = m) (h1 : Ints w v1 xs) (h2 : Ints w v2 ys) : IntsAll (w.alloc (.cells #[v1, v2] 23)) (.slice (some ⟨m, 0, none⟩) 2 2) [xs, ys] := by
  subst hm
  have hb : Below w.heap.size w (w.alloc (.cells #[v1, v2] 23)) := (Below.refl _ _).alloc (Nat.le_refl _) _
  have hc := cells2_new w v1 v2 23
  refine ⟨[v1, v2], Or.inr ⟨w.heap.size, 0, 2, rfl, by simp, by simp, by omega, by simp, fun j hj => ?_⟩, rfl, fun j hj => ?_⟩
  · match j, hj with
    | 0, _ => exact hc.1
    | 1, _ => exact hc.2
  · match j, hj with
    | 0, _ => exact h1.below hb
    | 1, _ => exact h2.below hb

theorem Try.size129 : (Try.prog.info? 129).map (·.size) = some 2 := by kernel_rfl

theorem two_range {w : World} {b : Nat} {x y : Value} {t : TypeId} (h : w.heap[b]? = some (.cells #[x, y] t)) : w.rangeAt b 0 [x, y] := by
  intro j v hv
  match j, hv with
  | 0, hv => simp at hv; subst hv; simp [World.cell?, h]
  | 1, hv => simp at hv; subst hv; simp [World.cell?, h]

theorem run_load_two {w : World} {b : Nat} {x y : Value} {t : TypeId} (h : w.heap[b]? = some (.cells #[x, y] t)) : (Instr.loadAt 129 (.pointer (some ⟨b, 0, none⟩))).run Try.prog w = .ok (.agg #[x, y]) w :=
  run_loadAt_mid w b 0 _ [x, y] _ (two_range h) Try.underlying129 rfl (by rw [Try.size129]; rfl)

theorem wpList_load_two {ops : Array Oper} {rest : List Oper} {op : Oper} {a : Act} {w : World} {Q : Exit → Act → World → Prop} (hgd : op.guard = none) (x : Operand) (ho : op.op = .load 129 x)
    (b : Nat) (u v : Value) (t : TypeId) (hA : w.heap[b]? = some (.cells #[u, v] t)) (hx : a.eval x = .pointer (some ⟨b, 0, none⟩))
    (h : wpList Try.prog ops Q rest (a.put op.dst (.agg #[u, v])) w) : wpList Try.prog ops Q (op :: rest) a w :=
  wpList_load_mid hgd _ x ho b 0 hx [u, v] _ (two_range hA) Try.underlying129 rfl (by rw [Try.size129]; rfl) h

theorem wpList_store_two {ops : Array Oper} {rest : List Oper} {op : Oper} {a : Act} {w : World} {Q : Exit → Act → World → Prop} (hgd : op.guard = none) (x y : Operand) (ho : op.op = .store 129 x y)
    (b : Nat) (x0 y0 u v : Value) (t : TypeId) (hA : w.heap[b]? = some (.cells #[x0, y0] t)) (hx : a.eval x = .pointer (some ⟨b, 0, none⟩)) (hy : a.eval y = .agg #[u, v]) (hu : u.oneCell' = true) (hv : v.oneCell' = true)
    (h : ∀ w', w'.heap[b]? = some (.cells #[u, v] t) → w.grownBy w' (some b) → wpList Try.prog ops Q rest (a.put op.dst undef) w') : wpList Try.prog ops Q (op :: rest) a w := by
  refine wpList_plain hgd fun K hK => ?_
  have hrun : (Instr.storeAt 129 (.pointer (some ⟨b, 0, none⟩)) (.agg #[u, v])).run Try.prog w = .ok () (w.setRow b #[u, v]) := by
    simp only [Instr.storeAt, Instr.sureAddr, Sem.run_bind, Sem.run_pure, Result.andThen]
    exact run_storeVar_row w b _ _ _ _ hA (by rw [Try.size129]; rfl) rfl (by simp [hu, hv])
  unfold Oper.wp execOp
  simp only [ho, hx, hy, hrun, Sem.run_bind, Sem.run_pure, Result.andThen_ok]
  refine hK _ _ (h _ ?_ ⟨rfl, rfl, rfl, by simp [World.setRow], fun i hi hne => ?_⟩)
  · simp [World.setRow, Array.getElem?_modify, hA]
  · simp only [World.setRow, Array.getElem?_modify]
    rw [if_neg (fun e => hne (by rw [e]))]

theorem ret_two_tmp {fn : Func} {R : Ending → World → Prop} {a : Act} {w : World} {p u : Tmp} {b : Nat} {x y t : Value} {ty : TypeId} (h : fn.results = #[.cell p 129, .tmp u]) (hp : a.tmps.getD p undef = .pointer (some ⟨b, 0, none⟩)) (hu : a.tmps.getD u undef = t) (hg : w.heap[b]? = some (.cells #[x, y] ty)) (hd : a.defers = []) (hR : R (.returned (.tuple #[.agg #[x, y], t])) w) : bodyPost Try.prog fn R .ret a w := by
  refine bodyPost_ret (v := .tuple #[.agg #[x, y], t]) ?_ hd hR
  have hp' : a.tmps[p]?.getD undef = .pointer (some ⟨b, 0, none⟩) := by simpa using hp
  have hu' : a.tmps[u]?.getD undef = t := by simpa using hu
  rw [results_cell_tmp h]
  simp [hp', hu', asAddr, Result.andThen, run_loadVar_mid w b 0 129 [x, y] _ (two_range hg) Try.underlying129 rfl (by rw [Try.size129]; rfl)]

/-- The group of two rows. -/
abbrev G2 (xs ys : List Int) : Pm → Prop := Gen (fun z => z ∈ [xs, ys].map pad)

/-- A list of numbers stays where a block of slices is written. -/
theorem ints_kept {w w' : World} {v : Value} {zs : List Int} {b : Nat} {x y : Value} (h : Ints w v zs) (hg : w.grownBy w' (some b)) (hb : w.heap[b]? = some (.cells #[x, y] 129)) (hx : ∀ i z, x ≠ .int i z) (hy : ∀ i z, y ≠ .int i z) : Ints w' v zs := by
  rcases h with h | ⟨g, off, cap, h1, h2, h3, h4, h5, h6⟩
  · exact Or.inl h
  · refine Or.inr ⟨g, off, cap, h1, h2, h3, h4, Nat.lt_of_lt_of_le h5 hg.size, fun j hj => ?_⟩
    have hne : g ≠ b := fun e => by
      subst e
      have h9 := h6 0 h2
      simp only [World.cell?, hb] at h9
      match off, h9 with
      | 0, h9 => simp at h9; exact hx _ _ h9
      | 1, h9 => simp at h9; exact hy _ _ h9
      | k + 2, h9 => simp at h9
    rw [World.cell?_of_block (w := w) (a := ⟨g, off + j, none⟩) (hg.block g h5 (fun e => hne (Option.some.inj e)))]
    exact h6 j hj

theorem ToAt.kept {w w' : World} {v0 v1 : Value} {X : List Pm} {a b : Pm} {d : Nat} (h : ToAt w v0 v1 X a b) (hg : w.grownBy w' (some d)) (hb : w.heap[d]? = some (.cells #[.slice none 0 0, .slice none 0 0] 129)) : ToAt w' v0 v1 X a b :=
  ⟨ints_kept h.x hg hb (fun _ _ e => by cases e) (fun _ _ e => by cases e), ints_kept h.y hg hb (fun _ _ e => by cases e) (fun _ _ e => by cases e)⟩

def ExitsPost (n : Nat) (xs ys : List Int) (w : World) (e : Ending) (w' : World) : Prop :=
  ∃ (v0 v1 : Value) (X : List Pm), e = .returned (.tuple #[.agg #[v0, v1], .int .i64 0]) ∧ Rws n (G2 xs ys) X ∧ ToAt w' v0 v1 X (pad xs) (pad ys) ∧ Below w.heap.size w w'

theorem g2_left (xs ys : List Int) : G2 xs ys (pad xs) := Gen.of (by simp)
theorem g2_right (xs ys : List Int) : G2 xs ys (pad ys) := Gen.of (by simp)

set_option maxRecDepth 20000 in
set_option maxHeartbeats 4000000 in
theorem exits_ok (n : Nat) (v1 v2 : Value) (xs ys : List Int) (w : World) (h1 : Ints w v1 xs) (h2 : Ints w v2 ys) (hn1 : 1 ≤ n) (h12 : n ≤ 12) (hl : xs.length = n) (hR : RowsN n [xs, ys]) (hs : sz (G2 xs ys) n ≤ 1000) :
    Calls Try.prog 94 #[v1, v2] w fun e w' => ExitsPost n xs ys w e w' := by
  have HMk : Hid (∀ (W : World) (v : Value), IntsAll W v [xs, ys] → Calls Try.prog 14 #[.int .i64 n, v] W fun e w' => ∃ u, e = .returned (.tuple #[u, .int .i64 0]) ∧ GroupAt w' u n ([xs, ys].map pad) ∧ Below W.heap.size W w') := fun W v hv => make_ok n v [xs, ys] W hv hn1 h12 (by simp) hR
  have H1 := hide h1
  have H2 := hide h2
  have HR := hide hR
  have HS := hide hs
  obtain ⟨p1, c1, e1⟩ := h1.form
  obtain ⟨p2, c2, e2⟩ := h2.form
  rw [hl] at e1
  rw [(hR ys (by simp)).2] at e2
  subst e1
  subst e2
  have hl2 := (hR ys (by simp)).2
  have hr1 := (hR xs (by simp)).1
  have hr2 := (hR ys (by simp)).1
  have HC1 : Hid (cut n (pad xs) = xs) := cut_pad h12 hl hr1
  have HC2 : Hid (cut n (pad ys) = ys) := cut_pad h12 hl2 hr2
  have HGF : Hid (∀ x, G2 xs ys x → Fixes (fun b => n ≤ b) x) := fun x hx => gens_fix h12 hR hx
  clear h1 h2 hR hl hs hl2 hr1 hr2
  have hal : Below w.heap.size w (w.alloc (.cells #[.slice none 0 0, .slice none 0 0] 129)) := (Below.refl _ _).alloc (Nat.le_refl _) _
  have HI2 := hide (ints_two (w := w.alloc (.cells #[.slice none 0 0, .slice none 0 0] 129)) (m := w.heap.size + 1) (by simp) (H1.out.below hal) (H2.out.below hal))
  have hbW : Below w.heap.size w ((w.alloc (.cells #[.slice none 0 0, .slice none 0 0] 129)).alloc (.cells #[.slice p1 n c1, .slice p2 n c2] 23)) := hal.alloc (by simp) _
  have hbW2 : Below (w.heap.size + 1) (w.alloc (.cells #[.slice none 0 0, .slice none 0 0] 129)) ((w.alloc (.cells #[.slice none 0 0, .slice none 0 0] 129)).alloc (.cells #[.slice p1 n c1, .slice p2 n c2] 23)) := (Below.refl _ _).alloc (by simp) _
  have HBW := hide hbW
  have HBW2 := hide hbW2
  clear hal hbW hbW2
  go_enter Try.func94, Try.ntmps94
  go_wp2_with fail
  refine (HMk.out _ _ HI2.out).mono ?_
  rintro ex w3 ⟨u3, rfl, hG3, hb3⟩
  have HG3 := hide hG3
  obtain ⟨gb3, _, _, _, _, _, _, rfl, _⟩ := hG3
  have hB3 := HBW.out.trans (hb3.mono HBW.out.size)
  have HB3 : Hid (Below (w.heap.size + 1) (w.alloc (.cells #[.slice none 0 0, .slice none 0 0] 129)) w3) := HBW2.out.trans (hb3.mono (by simp))
  have HEl := hide (elements_ok n _ ([xs, ys].map pad) w3 h12 HG3.out)
  clear hb3 HMk HI2 HBW HBW2
  go_wp2_with fail
  refine HEl.out.mono ?_
  rintro ex w4 hE
  unfold ElPost at hE
  rw [if_neg (show ¬ 5040 < sz (G2 xs ys) n by have := HS.out; omega)] at hE
  obtain ⟨hb4, ve, vse, X, rfl, hXl, hXn, hXm, hXs, hLL⟩ := hE
  have hB4 := hB3.trans (hb4.mono hB3.size)
  have hRw : Rws n (G2 xs ys) X := ⟨hn1, h12, Gen.sub _, HGF.out, hXn, hXm, hXs, by rw [hXl]; exact HS.out⟩
  have HRw := hide hRw
  have HI1 := hide (led_any n (G2 xs ys) X (pad xs) ve (.slice p1 n c1) w4 hRw (g2_left xs ys) hLL.ints (by rw [HC1.out]; exact H1.out.below hB4))
  have HII := hide hLL.ints
  obtain ⟨pe, qe, epe⟩ := hLL.ints.len
  rw [List.length_map] at epe
  subst epe
  have HB4 : Hid (Below (w.heap.size + 1) (w.alloc (.cells #[.slice none 0 0, .slice none 0 0] 129)) w4) := HB3.out.trans (hb4.mono (Nat.le_trans (by simp) HB3.out.size))
  clear hb4 hB3 hXl hXn hXm hXs hLL hRw HEl HB3
  go_wp2_with fail
  refine HI1.out.mono ?_
  rintro ex w5 ⟨u5, rfl, hown5, hb5⟩
  have hB5 := hB4.trans (hb5.mono hB4.size)
  have HB5 : Hid (Below (w.heap.size + 1) (w.alloc (.cells #[.slice none 0 0, .slice none 0 0] 129)) w5) := HB4.out.trans (hb5.mono (Nat.le_trans (by simp) HB4.out.size))
  have HO5 := hide hown5
  have HI3 := hide (led_any n (G2 xs ys) X (pad ys) (.slice pe X.length qe) (.slice p2 n c2) w5 HRw.out (g2_right xs ys) (HII.out.below hb5) (by rw [HC2.out]; exact H2.out.below hB5))
  obtain ⟨p5, c5, e5⟩ := owns_slice hown5
  subst e5
  clear hb5 hB4 hown5 HI1 HB4
  go_wp2_with fail
  refine HI3.out.mono ?_
  rintro ex w6 ⟨u6, rfl, hown6, hb6⟩
  have hB6 := hB5.trans (hb6.mono hB5.size)
  have HB6 : Hid (Below (w.heap.size + 1) (w.alloc (.cells #[.slice none 0 0, .slice none 0 0] 129)) w6) := HB5.out.trans (hb6.mono (Nat.le_trans (by simp) HB5.out.size))
  have HT6 : Hid (ToAt w6 (.slice p5 X.length c5) u6 X (pad xs) (pad ys)) := ⟨(Ints.own HO5.out).below hb6, Ints.own hown6⟩
  obtain ⟨p6, c6, e6⟩ := owns_slice hown6
  subst e6
  have hblk : w6.heap[w.heap.size]? = some (.cells #[.slice none 0 0, .slice none 0 0] 129) := (HB6.out.block w.heap.size (by omega)).trans (heap_alloc_last w _)
  have HB6' := hide hB6
  clear hb6 hown6 hB5 HB5 HI3 HO5 hB6
  go_wp2_with (refine wpList_store_two rfl _ _ rfl w.heap.size _ _ (.slice p5 X.length c5) (.slice p6 X.length c6) _ hblk rfl rfl rfl rfl ?_)
  intro w7 hblk7 hg7
  have hb7 : Below w.heap.size w6 w7 := (Below.refl _ _).grown hg7 (by have := HB6'.out.size; omega) (fun k hk => by have := Option.some.inj hk; omega)
  have HT7 : Hid (ToAt w7 (.slice p5 X.length c5) (.slice p6 X.length c6) X (pad xs) (pad ys)) := HT6.out.kept hg7 hblk
  have HBK := hide hblk7
  have HBF := hide (HB6'.out.trans hb7)
  clear hg7 hblk hb7 hblk7 HT6 HB6
  go_wp2
  exact ret_two_tmp (p := 4) (u := 5) rfl rfl rfl HBK.out rfl ⟨_, _, X, rfl, HRw.out, HT7.out, HBF.out⟩

end Go.Proofs.Ytimfoggjocajiaa

/- Contract: extent.Qsets where it tells sets. -/
namespace Go.Proofs.Ytimfoggjocajiaa
open Go.RowKit

/-- The sets of two rows' group. -/
noncomputable def qs (X : List Pm) (a b : Pm) : List (List Int) := (cycsTo (mv X (a * b⁻¹)) X.length).map srt

def QPost (n : Nat) (xs ys : List Int) (w : World) (e : Ending) (w' : World) : Prop :=
  ∃ (u : Value) (us : List Value) (X : List Pm), e = .returned (.tuple #[u, .int .i64 0]) ∧ Rws n (G2 xs ys) X ∧ LL w' w.heap.size u us (qs X (pad xs) (pad ys)) ∧ Below w.heap.size w w'

set_option maxRecDepth 20000 in
set_option maxHeartbeats 4000000 in
theorem qsets_ok (n : Nat) (v1 v2 : Value) (xs ys : List Int) (w : World) (h1 : Ints w v1 xs) (h2 : Ints w v2 ys) (hn1 : 1 ≤ n) (h12 : n ≤ 12) (hl : xs.length = n) (hR : RowsN n [xs, ys]) (hs : sz (G2 xs ys) n ≤ 1000) :
    Calls Try.prog 48 #[v1, v2] w fun e w' => QPost n xs ys w e w' := by
  have HEx := hide (exits_ok n v1 v2 xs ys w h1 h2 hn1 h12 hl hR hs)
  clear h1 h2 hl hR hs
  go_enter Try.func48, Try.ntmps48
  go_wp2_with fail
  refine HEx.out.mono ?_
  rintro ex w1 ⟨v3, v4, X, rfl, hRw, hT, hb1⟩
  obtain ⟨p3, c3, e3⟩ := hT.x.form
  obtain ⟨p4, c4, e4⟩ := hT.y.form
  subst e3
  subst e4
  have hb2 : Below w1.heap.size w1 (w1.alloc (.cells #[.slice none 0 0, .slice none 0 0] 129)) := (Below.refl _ _).alloc (Nat.le_refl _) _
  have HT2 : Hid (ToAt (w1.alloc (.cells #[.slice none 0 0, .slice none 0 0] 129)) _ _ X (pad xs) (pad ys)) := ⟨hT.x.below hb2, hT.y.below hb2⟩
  have HRw := hide hRw
  have HB1 := hide hb1
  have hblk := heap_alloc_last w1 (.cells #[.slice none 0 0, .slice none 0 0] 129)
  generalize (mv X (pad xs)).length = l3 at *
  generalize (mv X (pad ys)).length = l4 at *
  clear hT hb2 hRw hb1 HEx
  go_wp2_with (refine wpList_store_two rfl _ _ rfl w1.heap.size _ _ (.slice p3 l3 c3) (.slice p4 l4 c4) _ hblk rfl rfl rfl rfl ?_)
  intro w2 hblk2 hg2
  have hb2 : Below w1.heap.size w1 w2 := ((Below.refl _ _).alloc (Nat.le_refl _) _).grown hg2 (by simp) (fun k hk => by have := Option.some.inj hk; omega)
  have HSt := hide (setsOf_ok n (G2 xs ys) X (pad xs) (pad ys) _ _ w2 HRw.out (g2_left xs ys) (g2_right xs ys) (HT2.out.kept hg2 hblk))
  have HB2 := hide (HB1.out.trans (hb2.mono HB1.out.size))
  clear hg2 hblk hb2 HT2 HB1
  go_wp2_with (refine wpList_load_two rfl _ rfl w1.heap.size _ _ _ hblk2 rfl ?_)
  go_wp2_with fail
  refine HSt.out.mono ?_
  rintro ex w3 ⟨u3, us3, rfl, hL3, hb3⟩
  have HL3 : Hid (LL w3 w.heap.size u3 us3 (qs X (pad xs) (pad ys))) := hL3.low HB2.out.size
  have HB3 := hide (HB2.out.trans (hb3.mono HB2.out.size))
  clear hL3 hb3 HSt
  go_wp2
  go_ret2
  exact ⟨_, _, X, rfl, HRw.out, HL3.out, HB3.out⟩

/-- Qsets, where it refuses. -/
def QNo (c : Int) (w : World) (e : Ending) (w' : World) : Prop := e = .returned (.tuple #[.slice none 0 0, .int .i64 c]) ∧ Below w.heap.size w w'

/-- exits, where it refuses. -/
def ExNo (c : Int) (w : World) (e : Ending) (w' : World) : Prop := e = .returned (.tuple #[.agg #[.slice none 0 0, .slice none 0 0], .int .i64 c]) ∧ Below w.heap.size w w'

set_option maxRecDepth 20000 in
set_option maxHeartbeats 4000000 in
theorem exits_no (v1 v2 : Value) (xs ys : List Int) (c : Int) (w : World) (h1 : Ints w v1 xs) (h2 : Ints w v2 ys) (hc : c ≠ 0) (hk : ∀ W v, IntsAll W v [xs, ys] → Calls Try.prog 16 #[.int .i64 ((xs.length : Nat) : Int), v] W fun e w' => e = .returned (.int .i64 c) ∧ Below W.heap.size W w') :
    Calls Try.prog 94 #[v1, v2] w fun e w' => ExNo c w e w' := by
  have HMk : Hid (∀ W v, IntsAll W v [xs, ys] → Calls Try.prog 14 #[.int .i64 ((xs.length : Nat) : Int), v] W fun e w' => e = .returned (.tuple #[.pointer none, .int .i64 c]) ∧ Below W.heap.size W w') := fun W v hv => make_refuses _ v c W hc (hk W v hv)
  have hne : (c != 0) = true := by rw [bne_iff_ne]; exact hc
  have H1 := hide h1
  have H2 := hide h2
  obtain ⟨p1, c1, rfl⟩ := h1.form
  obtain ⟨p2, c2, rfl⟩ := h2.form
  have hal : Below w.heap.size w (w.alloc (.cells #[.slice none 0 0, .slice none 0 0] 129)) := (Below.refl _ _).alloc (Nat.le_refl _) _
  have HI2 := hide (ints_two (w := w.alloc (.cells #[.slice none 0 0, .slice none 0 0] 129)) (m := w.heap.size + 1) (by simp) (H1.out.below hal) (H2.out.below hal))
  generalize xs.length = l1 at *
  generalize ys.length = l2 at *
  have hbW : Below w.heap.size w ((w.alloc (.cells #[.slice none 0 0, .slice none 0 0] 129)).alloc (.cells #[.slice p1 l1 c1, .slice p2 l2 c2] 23)) := hal.alloc (by simp) _
  have HBW2 : Hid (Below (w.heap.size + 1) (w.alloc (.cells #[.slice none 0 0, .slice none 0 0] 129)) ((w.alloc (.cells #[.slice none 0 0, .slice none 0 0] 129)).alloc (.cells #[.slice p1 l1 c1, .slice p2 l2 c2] 23))) := (Below.refl _ _).alloc (by simp) _
  have HBW := hide hbW
  clear h1 h2 hk hc hal hbW
  go_enter Try.func94, Try.ntmps94
  go_wp2_with fail
  refine (HMk.out _ _ HI2.out).mono ?_
  rintro ex w3 ⟨rfl, hb3⟩
  have HB3 := hide (HBW.out.trans (hb3.mono HBW.out.size))
  have hb39 := HBW2.out.trans (hb3.mono (by simp))
  have hblk : w3.heap[w.heap.size]? = some (.cells #[.slice none 0 0, .slice none 0 0] 129) := (hb39.block w.heap.size (by omega)).trans (heap_alloc_last w _)
  clear hb3 HMk HI2 HBW HBW2 hb39
  go_wp2_with (first | refine wpList_load_two rfl _ rfl w.heap.size _ _ _ hblk rfl ?_ | refine wpList_store_two rfl _ _ rfl w.heap.size _ _ (.slice none 0 0) (.slice none 0 0) _ hblk rfl rfl rfl rfl ?_)
  go_wp2_with (first | refine wpList_load_two rfl _ rfl w.heap.size _ _ _ hblk rfl ?_ | refine wpList_store_two rfl _ _ rfl w.heap.size _ _ (.slice none 0 0) (.slice none 0 0) _ hblk rfl rfl rfl rfl ?_)
  intro w7 hblk7 hg7
  have HB7 : Hid (Below w.heap.size w w7) := HB3.out.grown hg7 HB3.out.size (fun k hk => by have := Option.some.inj hk; omega)
  clear hg7 hblk
  go_wp2
  exact ret_two_tmp (p := 4) (u := 5) rfl rfl rfl hblk7 rfl ⟨rfl, HB7.out⟩

end Go.Proofs.Ytimfoggjocajiaa

/- Plain: sets that must be left alike; where one is led if each is left by x or by y. -/
namespace Go.Proofs.Ytimfoggjocajiaa

theorem cyc_nodup {r : List Int} (hr : isRow r) : ∀ k, k ≤ r.length → (cycsTo r k).flatten.Nodup
  | 0, _ => by simp [cycsTo]
  | k + 1, hk => by
    have ih := cyc_nodup hr k (by omega)
    rw [cycsTo_succ]
    split
    · exact ih
    · rename_i hn
      rw [List.flatten_append, List.nodup_append]
      refine ⟨ih, ?_, fun x hx y hy e => ?_⟩
      · rw [show [orb r k (per r k)].flatten = orb r k (per r k) from by simp]
        unfold orb
        rw [List.Nodup, List.pairwise_map]
        refine List.Pairwise.imp_of_mem (fun {i j} hi hj h e => h ?_) List.nodup_range
        exact orb_inj hr (by omega) (List.mem_range.1 hi) (List.mem_range.1 hj) (by omega)
      · rw [show [orb r k (per r k)].flatten = orb r k (per r k) from by simp] at hy
        obtain ⟨i, hi, e'⟩ := mem_orb.1 hy
        subst e
        rw [e'] at hx
        exact it_notin hr (by omega) hn i hx

theorem orb_next {r : List Int} (hr : isRow r) {k i : Nat} (hk : k < r.length) (h : (i : Int) ∈ orb r k (per r k)) : ((nx r i : Nat) : Int) ∈ orb r k (per r k) := by
  obtain ⟨j, hj, e⟩ := mem_orb.1 h
  have e' : i = it r j k := by omega
  subst e'
  obtain ⟨p1, _, p3, _⟩ := per_spec hr hk
  rcases Nat.lt_or_ge (j + 1) (per r k) with h1 | h1
  · exact mem_orb.2 ⟨j + 1, h1, rfl⟩
  · have e2 : j + 1 = per r k := by omega
    refine mem_orb.2 ⟨0, by omega, ?_⟩
    show ((it r (j + 1) k : Nat) : Int) = _
    rw [e2, p3]
    rfl

theorem mem_srt {zs : List Int} {x : Int} : x ∈ srt zs ↔ x ∈ zs := (List.mergeSort_perm zs _).mem_iff

/-- Numbers below N, each in one list of some, and with each what it leads to. -/
structure Sts (N : Nat) (σ : Nat → Nat) (A : List (List Int)) : Prop where
  all : ∀ r : Nat, r < N → ∃ (i : Nat) (S : List Int), A[i]? = some S ∧ (r : Int) ∈ S
  below : ∀ (i : Nat) (S : List Int) (x : Int), A[i]? = some S → x ∈ S → ∃ r : Nat, r < N ∧ x = (r : Int)
  one : ∀ (i j : Nat) (S T : List Int) (x : Int), A[i]? = some S → A[j]? = some T → x ∈ S → x ∈ T → i = j
  next : ∀ (i : Nat) (S : List Int) (r : Nat), A[i]? = some S → (r : Int) ∈ S → ((σ r : Nat) : Int) ∈ S

theorem flat_one {l : List (List Int)} (h : l.flatten.Nodup) {i j : Nat} {S T : List Int} {x : Int} (hi : l[i]? = some S) (hj : l[j]? = some T) (h1 : x ∈ S) (h2 : x ∈ T) : i = j := by
  induction l generalizing i j with
  | nil => simp at hi
  | cons a l ih =>
    rw [List.flatten_cons, List.nodup_append] at h
    cases i with
    | zero =>
      cases j with
      | zero => rfl
      | succ j =>
        simp at hi hj
        subst hi
        exact absurd rfl (h.2.2 x h1 x (List.mem_flatten.2 ⟨T, List.mem_of_getElem? hj, h2⟩))
    | succ i =>
      cases j with
      | zero =>
        simp at hi hj
        subst hj
        exact absurd rfl (h.2.2 x h2 x (List.mem_flatten.2 ⟨S, List.mem_of_getElem? hi, h1⟩))
      | succ j =>
        simp at hi hj
        rw [ih h.2.1 hi hj]

theorem sts_of {r : List Int} (hr : isRow r) : Sts r.length (nx r) ((cycsTo r r.length).map srt) := by
  have get : ∀ {i : Nat} {S : List Int}, ((cycsTo r r.length).map srt)[i]? = some S → ∃ C, (cycsTo r r.length)[i]? = some C ∧ S = srt C := fun {i S} h => by
    rw [List.getElem?_map] at h
    obtain ⟨C, h1, h2⟩ := Option.map_eq_some_iff.1 h
    exact ⟨C, h1, h2.symm⟩
  refine ⟨fun x hx => ?_, fun i S x hi hx => ?_, fun i j S T x hi hj h1 h2 => ?_, fun i S x hi hx => ?_⟩
  · have h9 := flat_all hr r.length (Nat.le_refl _) x hx
    obtain ⟨C, hC, hxC⟩ := List.mem_flatten.1 h9
    obtain ⟨i, hi, e⟩ := List.getElem_of_mem hC
    exact ⟨i, srt C, by rw [List.getElem?_map, List.getElem?_eq_getElem hi, e]; rfl, mem_srt.2 hxC⟩
  · obtain ⟨C, h1, rfl⟩ := get hi
    obtain ⟨y, hy, rfl⟩ := cyc_form (List.mem_of_getElem? h1)
    obtain ⟨j, hj, e⟩ := mem_orb.1 (mem_srt.1 hx)
    exact ⟨it r j y, it_lt hr hy j, e⟩
  · obtain ⟨C, k1, rfl⟩ := get hi
    obtain ⟨D, k2, rfl⟩ := get hj
    exact flat_one (cyc_nodup hr _ (Nat.le_refl _)) k1 k2 (mem_srt.1 h1) (mem_srt.1 h2)
  · obtain ⟨C, h1, rfl⟩ := get hi
    obtain ⟨y, hy, rfl⟩ := cyc_form (List.mem_of_getElem? h1)
    exact mem_srt.2 (orb_next hr hy (mem_srt.1 hx))

/-- Which set a number is of. -/
def sof (A : List (List Int)) (r : Nat) : Nat := A.findIdx (fun S => decide ((r : Int) ∈ S))

theorem Sts.sof {N : Nat} {σ : Nat → Nat} {A : List (List Int)} (h : Sts N σ A) {i r : Nat} {S : List Int} (hi : A[i]? = some S) (hr : (r : Int) ∈ S) : sof A r = i := by
  have hlt : Go.Proofs.Ytimfoggjocajiaa.sof A r < A.length := List.findIdx_lt_length.2 ⟨S, List.mem_of_getElem? hi, decide_eq_true hr⟩
  have h9 := List.findIdx_getElem (p := fun S : List Int => decide ((r : Int) ∈ S)) (w := hlt)
  exact h.one _ _ _ _ _ (List.getElem?_eq_getElem hlt) hi (of_decide_eq_true h9) hr

theorem Sts.next_sof {N : Nat} {σ : Nat → Nat} {A : List (List Int)} (h : Sts N σ A) {r : Nat} (hr : r < N) : Go.Proofs.Ytimfoggjocajiaa.sof A (σ r) = Go.Proofs.Ytimfoggjocajiaa.sof A r := by
  obtain ⟨i, S, hi, hS⟩ := h.all r hr
  rw [h.sof hi hS, h.sof hi (h.next i S r hi hS)]

/-- What is chosen for a number's set. -/
def chc (A : List (List Int)) (cs : List Int) (r : Nat) : Int := cs.getD (sof A r) 0

/-- Where one is led. -/
noncomputable def nxL (X : List Pm) (a b : Pm) (A : List (List Int)) (cs : List Int) : List Int := (List.range X.length).map (fun r => (if chc A cs r = 1 then mv X b else mv X a).getD r 0)

theorem nxL_length (X : List Pm) (a b : Pm) (A : List (List Int)) (cs : List Int) : (nxL X a b A cs).length = X.length := by unfold nxL; rw [List.length_map, List.length_range]

theorem nxL_get {X : List Pm} {a b : Pm} {A : List (List Int)} {cs : List Int} {r : Nat} {p : Pm} (hr : X[r]? = some p) : (nxL X a b A cs).getD r 0 = ((ix X (p * if chc A cs r = 1 then b else a) : Nat) : Int) := by
  have hl := (List.getElem?_eq_some_iff.1 hr).1
  unfold nxL
  rw [List.getD, List.getElem?_map, List.getElem?_range hl]
  show (if chc A cs r = 1 then mv X b else mv X a).getD r 0 = _
  split
  · rw [List.getD, mv_get hr]; rfl
  · rw [List.getD, mv_get hr]; rfl

theorem nxL_nx {X : List Pm} {a b : Pm} {A : List (List Int)} {cs : List Int} {r : Nat} {p : Pm} (hr : X[r]? = some p) : nx (nxL X a b A cs) r = ix X (p * if chc A cs r = 1 then b else a) := by
  unfold nx
  rw [nxL_get hr]
  exact Int.toNat_natCast _

/-- Sets of the rows of a group. -/
theorem qs_sts {n : Nat} {G : Pm → Prop} {X : List Pm} (hR : Rws n G X) {a b : Pm} (ha : G a) (hb : G b) : Sts X.length (nx (mv X (a * b⁻¹))) (qs X a b) := by
  have h9 := sts_of (mv_row hR.nodup (hR.cls (hR.sub.mul ha (hR.sub.inv hb))))
  rw [mv_length] at h9
  exact h9

theorem nxL_row {n : Nat} {G : Pm → Prop} {X : List Pm} (hR : Rws n G X) {a b : Pm} (ha : G a) (hb : G b) (cs : List Int) : isRow (nxL X a b (qs X a b) cs) := by
  have hS := qs_sts hR ha hb
  have hin : ∀ (r : Nat) (p : Pm), X[r]? = some p → (p * if chc (qs X a b) cs r = 1 then b else a) ∈ X := fun r p hp => by
    refine hR.cls ?_ p (List.mem_of_getElem? hp)
    split
    · exact hb
    · exact ha
  refine ⟨fun y hy => ?_, ?_⟩
  · obtain ⟨r, hr, e⟩ := List.getElem_of_mem hy
    rw [nxL_length] at hr ⊢
    have hp : X[r]? = some X[r] := List.getElem?_eq_getElem hr
    have h9 := nxL_get (a := a) (b := b) (A := qs X a b) (cs := cs) hp
    rw [List.getD, List.getElem?_eq_getElem (by rw [nxL_length]; exact hr), e] at h9
    have h8 : y = _ := h9
    rw [h8]
    exact ⟨by omega, by have := ix_lt (hin r _ hp); omega⟩
  · rw [List.Nodup, List.pairwise_iff_getElem]
    intro i j hi hj hij e
    have hi' : i < X.length := by rw [nxL_length] at hi; exact hi
    have hj' : j < X.length := by rw [nxL_length] at hj; exact hj
    have hpi : X[i]? = some X[i] := List.getElem?_eq_getElem hi'
    have hpj : X[j]? = some X[j] := List.getElem?_eq_getElem hj'
    have k1 := nxL_get (a := a) (b := b) (A := qs X a b) (cs := cs) hpi
    have k2 := nxL_get (a := a) (b := b) (A := qs X a b) (cs := cs) hpj
    rw [List.getD, List.getElem?_eq_getElem hi] at k1
    rw [List.getD, List.getElem?_eq_getElem hj] at k2
    have k1' : (nxL X a b (qs X a b) cs)[i] = _ := k1
    have k2' : (nxL X a b (qs X a b) cs)[j] = _ := k2
    rw [k1', k2'] at e
    have e2 : X[i] * (if chc (qs X a b) cs i = 1 then b else a) = X[j] * (if chc (qs X a b) cs j = 1 then b else a) := by
      have h1 := ix_get (hin i _ hpi)
      rw [show ix X (X[i] * if chc (qs X a b) cs i = 1 then b else a) = ix X (X[j] * if chc (qs X a b) cs j = 1 then b else a) by omega, ix_get (hin j _ hpj)] at h1
      exact (Option.some.inj h1).symm
    have canc : ∀ {x y c : Pm}, x * c = y * c → x = y := fun {x y c} h => by
      have := congrArg (fun z => z * c⁻¹) h
      simpa only [Pm.mul_assoc, Pm.mul_inv, Pm.mul_one] using this
    have same : ∀ {i j : Nat} {p q : Pm}, X[i]? = some p → X[j]? = some q → p * a = q * b → chc (qs X a b) cs i = chc (qs X a b) cs j := fun {i j p q} hp hq h => by
      have e3 : q = p * (a * b⁻¹) := by rw [← Pm.mul_assoc, h, Pm.mul_assoc, Pm.mul_inv, Pm.mul_one]
      have e4 : nx (mv X (a * b⁻¹)) i = j := by rw [mv_nx hp, ← e3]; exact ix_of hR.nodup hq
      have e5 := hS.next_sof (r := i) (List.getElem?_eq_some_iff.1 hp).1
      unfold chc
      rw [← e5, e4]
    have hne : i = j := by
      by_cases c1 : chc (qs X a b) cs i = 1
      · by_cases c2 : chc (qs X a b) cs j = 1
        · rw [if_pos c1, if_pos c2] at e2
          exact get_inj hR.nodup hpi (by rw [canc e2]; exact hpj)
        · rw [if_pos c1, if_neg c2] at e2
          have := same hpj hpi e2.symm
          rw [this] at c2
          exact absurd c1 c2
      · by_cases c2 : chc (qs X a b) cs j = 1
        · rw [if_neg c1, if_pos c2] at e2
          have := same hpi hpj e2
          rw [this] at c1
          exact absurd c2 c1
        · rw [if_neg c1, if_neg c2] at e2
          exact get_inj hR.nodup hpi (by rw [canc e2]; exact hpj)
    omega

end Go.Proofs.Ytimfoggjocajiaa

/- Contract: extent.Rounds where x and y are rows of a group that is small enough. -/
namespace Go.Proofs.Ytimfoggjocajiaa
open Go.RowKit

noncomputable def rdE (A : List (List Int)) (cs : List Int) : Int := open Classical in if cs.length ≠ A.length then 1 else if ∃ c, c ∈ cs ∧ c ≠ 0 ∧ c ≠ 1 then 12 else 0

noncomputable def rdN (X : List Pm) (a b : Pm) (cs : List Int) : Nat := if rdE (qs X a b) cs = 0 then (cycsTo (nxL X a b (qs X a b) cs) X.length).length else 0

def RoundsPost (n : Nat) (xs ys cs : List Int) (w : World) (e : Ending) (w' : World) : Prop :=
  ∃ X, Rws n (G2 xs ys) X ∧ e = .returned (.tuple #[.int .i64 ((rdN X (pad xs) (pad ys) cs : Nat) : Int), .int .i64 (rdE (qs X (pad xs) (pad ys)) cs)]) ∧ Below w.heap.size w w'

theorem rdE_count {A : List (List Int)} {cs : List Int} (h : cs.length ≠ A.length) : rdE A cs = 1 := by unfold rdE; rw [if_pos h]
theorem rdE_value {A : List (List Int)} {cs : List Int} (h : cs.length = A.length) {c : Int} (hc : c ∈ cs) (h0 : c ≠ 0) (h1 : c ≠ 1) : rdE A cs = 12 := by
  unfold rdE; rw [if_neg (fun h' => h' h), if_pos ⟨c, hc, h0, h1⟩]
theorem rdE_ok {A : List (List Int)} {cs : List Int} (h : cs.length = A.length) (hc : ∀ c, c ∈ cs → c = 0 ∨ c = 1) : rdE A cs = 0 := by
  unfold rdE
  rw [if_neg (fun h' => h' h), if_neg]
  rintro ⟨c, h1, h2, h3⟩
  rcases hc c h1 with h | h
  · exact h2 h
  · exact h3 h

/-- Where a choice leads. -/
noncomputable def tgt (X : List Pm) (a b : Pm) (c : Int) (r : Nat) : Int := (if c = 1 then mv X b else mv X a).getD r 0

/-- The first k sets are gone through, and the first j of the next. -/
structure NxTo (X : List Pm) (a b : Pm) (A : List (List Int)) (cs : List Int) (k j : Nat) (zs : List Int) : Prop where
  len : zs.length = X.length
  sets : ∀ (i : Nat) (S : List Int) (r : Nat), i < k → A[i]? = some S → (r : Int) ∈ S → zs.getD r 0 = tgt X a b (cs.getD i 0) r
  more : ∀ (S : List Int) (r : Nat), A[k]? = some S → (r : Int) ∈ S.take j → zs.getD r 0 = tgt X a b (cs.getD k 0) r

theorem NxTo.start (X : List Pm) (a b : Pm) (A : List (List Int)) (cs zs : List Int) (h : zs.length = X.length) : NxTo X a b A cs 0 0 zs :=
  ⟨h, fun i S r hi => absurd hi (by omega), fun S r _ hr => by simp at hr⟩

theorem NxTo.step {X : List Pm} {a b : Pm} {A : List (List Int)} {cs zs S : List Int} {k j r : Nat} {σ : Nat → Nat} (hA : Sts X.length σ A) (h : NxTo X a b A cs k j zs) (hS : A[k]? = some S) (hr : S[j]? = some (r : Int)) (hrl : r < X.length) : NxTo X a b A cs k (j + 1) (zs.set r (tgt X a b (cs.getD k 0) r)) := by
  have hl : r < zs.length := by rw [h.len]; exact hrl
  refine ⟨by rw [List.length_set]; exact h.len, fun i T r' hi hT hr' => ?_, fun T r' hT hr' => ?_⟩
  · rw [getD_set hl]
    by_cases e : r = r'
    · subst e
      have := hA.one i k T S _ hT hS hr' (List.mem_of_getElem? hr)
      omega
    · rw [if_neg e]; exact h.sets i T r' hi hT hr'
  · rw [hS] at hT
    have eT := Option.some.inj hT
    subst eT
    rw [getD_set hl]
    by_cases e : r = r'
    · subst e; rw [if_pos rfl]
    · rw [if_neg e]
      refine h.more S r' hS ?_
      rw [List.take_add_one, hr, List.mem_append] at hr'
      rcases hr' with hr' | hr'
      · exact hr'
      · simp at hr'; omega

theorem NxTo.turn {X : List Pm} {a b : Pm} {A : List (List Int)} {cs zs S : List Int} {k : Nat} (h : NxTo X a b A cs k S.length zs) (hS : A[k]? = some S) : NxTo X a b A cs (k + 1) 0 zs := by
  refine ⟨h.len, fun i T r hi hT hr => ?_, fun T r hT hr => by simp at hr⟩
  by_cases e : i = k
  · subst e
    rw [hS] at hT
    have eT := Option.some.inj hT
    subst eT
    exact h.more S r hS (by rw [List.take_length]; exact hr)
  · exact h.sets i T r (by omega) hT hr

theorem NxTo.done {X : List Pm} {a b : Pm} {A : List (List Int)} {cs zs : List Int} {σ : Nat → Nat} (hA : Sts X.length σ A) (h : NxTo X a b A cs A.length 0 zs) : zs = nxL X a b A cs := by
  refine ext_getD (by rw [h.len, nxL_length]) (fun r hr => ?_)
  rw [h.len] at hr
  obtain ⟨i, S, hi, hS⟩ := hA.all r hr
  rw [h.sets i S r (List.getElem?_eq_some_iff.1 hi).1 hi hS]
  have e : (nxL X a b A cs).getD r 0 = (if chc A cs r = 1 then mv X b else mv X a).getD r 0 := by
    unfold nxL
    rw [List.getD, List.getElem?_map, List.getElem?_range hr]
    rfl
  rw [e]
  unfold tgt chc
  rw [hA.sof hi hS]

set_option maxRecDepth 20000 in
set_option maxHeartbeats 8000000 in
theorem rounds2_ok (n : Nat) (v1 v2 v3 : Value) (xs ys cs : List Int) (w : World) (h1 : Ints w v1 xs) (h2 : Ints w v2 ys) (h3 : Ints w v3 cs) (hn1 : 1 ≤ n) (h12 : n ≤ 12) (hl : xs.length = n) (hR : RowsN n [xs, ys]) (hs : sz (G2 xs ys) n ≤ 1000) :
    Calls Try.prog 49 #[v1, v2, v3] w fun e w' => RoundsPost n xs ys cs w e w' := by
  obtain ⟨j0, hji, hjz0, hjz1, hjz2⟩ := info_parts Try.info3
  have HEx := hide (exits_ok n v1 v2 xs ys w h1 h2 hn1 h12 hl hR hs)
  have H3 := hide h3
  obtain ⟨pc, cc, rfl⟩ := h3.form
  generalize hcl0 : cs.length = cl at *
  have HCL := hide hcl0
  clear h1 h2 hl hR hs h3 hcl0
  go_enter Try.func49, Try.ntmps49
  go_wp2_with fail
  refine HEx.out.mono ?_
  rintro ex w1 ⟨v3, v4, X, rfl, hRw, hT, hb1⟩
  have hpos := hRw.pos
  have hfew := hRw.few
  obtain ⟨p3, c3, e3⟩ := hT.x.form
  obtain ⟨p4, c4, e4⟩ := hT.y.form
  rw [mv_length] at e3 e4
  subst e3
  subst e4
  have hb2 : Below w1.heap.size w1 (w1.alloc (.cells #[.slice none 0 0, .slice none 0 0] 129)) := (Below.refl _ _).alloc (Nat.le_refl _) _
  have HT2 : Hid (ToAt (w1.alloc (.cells #[.slice none 0 0, .slice none 0 0] 129)) (.slice p3 X.length c3) (.slice p4 X.length c4) X (pad xs) (pad ys)) := ⟨hT.x.below hb2, hT.y.below hb2⟩
  have HRw := hide hRw
  have HB1 := hide hb1
  have hblk := heap_alloc_last w1 (.cells #[.slice none 0 0, .slice none 0 0] 129)
  clear hT hb2 hRw hb1 HEx
  go_wp2_with (refine wpList_store_two rfl _ _ rfl w1.heap.size _ _ (.slice p3 X.length c3) (.slice p4 X.length c4) _ hblk rfl rfl rfl rfl ?_)
  intro w2 hblk2 hg2
  have hb2 : Below w1.heap.size w1 w2 := ((Below.refl _ _).alloc (Nat.le_refl _) _).grown hg2 (by simp) (fun k hk => by have := Option.some.inj hk; omega)
  have hT2 := HT2.out.kept hg2 hblk
  have HSt := hide (setsOf_ok n (G2 xs ys) X (pad xs) (pad ys) _ _ w2 HRw.out (g2_left xs ys) (g2_right xs ys) hT2)
  have HT := hide hT2
  have hB2 := HB1.out.trans (hb2.mono HB1.out.size)
  have HB2 := hide hB2
  have hw12 : w1.heap.size < w2.heap.size := (Array.getElem?_eq_some_iff.1 hblk2).1
  clear hg2 hblk hb2 HT2 HB1 hT2
  go_wp2_with (refine wpList_load_two rfl _ rfl w1.heap.size _ _ _ hblk2 rfl ?_)
  go_wp2_with fail
  refine HSt.out.mono ?_
  rintro ex w3 ⟨u3, us3, rfl, hL3, hb3⟩
  have hqs : (cycsTo (mv X (pad xs * (pad ys)⁻¹)) X.length).map srt = qs X (pad xs) (pad ys) := rfl
  rw [hqs] at hL3
  have HSts := hide (qs_sts HRw.out (g2_left xs ys) (g2_right xs ys))
  have HNR := hide (nxL_row HRw.out (g2_left xs ys) (g2_right xs ys) cs)
  have hB3 := hB2.trans (hb3.mono hB2.size)
  have HB3 := hide hB3
  have HQN : Hid ((qs X (pad xs) (pad ys)).length ≤ X.length) := by unfold qs; rw [List.length_map]; exact cycsTo_length _ _
  obtain ⟨al, hal⟩ : ∃ al, al = (qs X (pad xs) (pad ys)).length := ⟨_, rfl⟩
  have HAL := hide hal
  obtain ⟨p5, q5, e5⟩ := owns_slice hL3.row
  rw [hL3.len, ← hal] at e5
  subst e5
  have HL3 := hide hL3
  have hall : al ≤ 1000 := by rw [hal]; have := HQN.out; omega
  have hbx3 : w3.heap[w1.heap.size]? = some (.cells #[.slice p3 X.length c3, .slice p4 X.length c4] 129) := (hb3.block w1.heap.size hw12).trans hblk2
  have HBX3 := hide hbx3
  have hw13 : w1.heap.size < w3.heap.size := Nat.lt_of_lt_of_le hw12 hb3.size
  have hcx3 : w3.cell? ⟨w1.heap.size, 0, none⟩ = some (.slice p3 X.length c3) := by simp [World.cell?, hbx3]
  have HT3 : Hid (ToAt w3 (.slice p3 X.length c3) (.slice p4 X.length c4) X (pad xs) (pad ys)) := ⟨HT.out.x.below hb3, HT.out.y.below hb3⟩
  have HI3 := hide (H3.out.below hB3)
  clear hL3 hqs hb3 hB3 hB2 hal HSt hblk2 hbx3 HT
  by_cases hcl : cl = al
  · subst hcl
    generalize hN : X.length = N at *
    have HN := hide hN
    clear hN
    go_wp2_with (at_make; refine wpList_make_full _ rfl _ _ 23 rfl w3.heap.size 3 j0 (.int .i64 0) 1 Try.underlying23 hji hjz0 hjz1 _ _ _ _ N rfl rfl (by omega) (by omega) ?b2 ?b3 (Nat.le_refl _) ?_)
    case b2 => rw [hjz2]; omega
    case b3 => unfold maxLen; omega
    intro w4 hown4 hg4
    rw [made_ints] at hown4
    have HO4 := hide hown4
    have hB4 : Below w3.heap.size w3 w4 := (Below.refl _ _).grown hg4 (Nat.le_refl _) (fun k h => by cases h)
    have HNX0 : Hid (NxTo X (pad xs) (pad ys) (qs X (pad xs) (pad ys)) cs 0 0 (List.replicate N 0)) := NxTo.start _ _ _ _ _ _ (by rw [List.length_replicate, HN.out])
    clear hown4 hg4
    obtain ⟨gs, qs5, egs, hgs1, hgs2, hgs3, hgs4⟩ : ∃ gs cap, (cl = 0 ∨ (Value.slice p5 cl q5 = .slice (some ⟨gs, 0, none⟩) cl cap ∧ gs < w3.heap.size ∧ cl ≤ cap ∧ cap ≤ 9223372036854775807)) ∧ True ∧ True ∧ True ∧ True := by
      rcases Nat.eq_zero_or_pos cl with h0 | h0
      · exact ⟨0, 0, Or.inl h0, trivial, trivial, trivial, trivial⟩
      · have hrr := HL3.out.row
        rw [HL3.out.len, ← HAL.out] at hrr
        obtain ⟨g, cap, e, _, h5, h6, h7⟩ := owns_form hrr h0
        exact ⟨g, cap, Or.inr ⟨e, h5, h6, h7⟩, trivial, trivial, trivial, trivial⟩
    have HGS := hide egs
    clear egs hgs1 hgs2 hgs3 hgs4
    go_wp2
    go_loopw [39] (fun si wr => ∃ (k : Nat) (zs : List Int), k ≤ cl ∧ si = .int .i64 k ∧ Hid (wr.ownsRow w3.heap.size 3 1 (.slice (some ⟨w3.heap.size, 0, none⟩) N N) N (zs.map (Value.int .i64))) ∧ Hid (NxTo X (pad xs) (pad ys) (qs X (pad xs) (pad ys)) cs k 0 zs) ∧ Hid (∀ i, i < k → cs.getD i 0 = 0 ∨ cs.getD i 0 = 1) ∧ Below w3.heap.size w3 wr) (fun si _ => cl - (intOf si).toNat)
    case atStart => exact ⟨0, _, Nat.zero_le _, rfl, HO4, HNX0, fun i hi => absurd hi (by omega), hB4⟩
    case round =>
      clear HO4 HNX0 hB4
      obtain ⟨k, zs, hk, rfl, hO, hNx, hgd, hbk⟩ := hrel
      have hB3k := HB3.out.trans (hbk.mono HB3.out.size)
      by_cases hlt : k < cl
      · obtain ⟨S, hS⟩ : ∃ S, (qs X (pad xs) (pad ys))[k]? = some S := ⟨_, List.getElem?_eq_getElem (by rw [← HAL.out]; exact hlt)⟩
        obtain ⟨egs, hg2, hg3, hg4⟩ : Value.slice p5 cl q5 = .slice (some ⟨gs, 0, none⟩) cl qs5 ∧ gs < w3.heap.size ∧ cl ≤ qs5 ∧ qs5 ≤ 9223372036854775807 := HGS.out.resolve_left (by omega)
        injection egs with egs1 egs2 egs3
        subst egs1
        subst egs3
        have hrr := HL3.out.row
        rw [HL3.out.len, ← HAL.out] at hrr
        have hcu := owns_val hrr hlt
        have hrow := HL3.out.at (k := k) (by rw [← HAL.out]; exact hlt)
        have hgS : (qs X (pad xs) (pad ys)).getD k [] = S := by rw [List.getD, hS]; rfl
        rw [hgS] at hrow
        have hcu' := (hbk.cell (p := ⟨gs, k, none⟩) hg2).trans hcu
        obtain ⟨pu, cu, epu⟩ := owns_slice hrow
        have HROW := hide hrow
        generalize us3.getD k undef = uk at *
        subst epu
        obtain ⟨bc, oc, epc, kc1, kc2, kc3, kc4⟩ := HI3.out.open (by rw [HCL.out]; omega)
        rw [HCL.out] at kc1 kc4
        subst epc
        have hcc := (hbk.cell (p := ⟨bc, oc + k, none⟩) kc3).trans (kc4 k hlt)
        have hcm : cs.getD k 0 ∈ cs := by
          have h9 : k < cs.length := by rw [HCL.out]; exact hlt
          rw [List.getD, List.getElem?_eq_getElem h9]
          exact List.getElem_mem h9
        have HCM := hide hcm
        have HS := hide hS
        obtain ⟨c, hc⟩ : ∃ c, c = cs.getD k 0 := ⟨_, rfl⟩
        have HC := hide hc
        rw [← hc] at hcc
        obtain ⟨sl, hsl⟩ : ∃ sl, sl = S.length := ⟨_, rfl⟩
        have HSL := hide hsl
        rw [← hsl] at HROW hcu' hcu
        clear hcu hrr hrow hgS kc4 hcm hS hc hsl egs2
        by_cases hgood : c = 0 ∨ c = 1
        · have g1 : decide (c < 0) = false := decide_eq_false (by omega)
          have g2 : decide (2 ≤ c) = false := decide_eq_false (by omega)
          obtain ⟨cN, hcN, hcNl⟩ : ∃ cN : Nat, c = (cN : Int) ∧ cN < 2 := by
            rcases hgood with h | h
            · exact ⟨0, by rw [h]; rfl, by omega⟩
            · exact ⟨1, by rw [h]; rfl, by omega⟩
          obtain ⟨bd, od, cd, hbox, hcd1, hcd2, hcells⟩ : ∃ bd od cd, (∀ W, Below w3.heap.size w3 W → W.cell? ⟨w1.heap.size, cN, none⟩ = some (.slice (some ⟨bd, od, none⟩) N cd)) ∧ N ≤ cd ∧ cd ≤ 9223372036854775807 ∧ (∀ W, Below w3.heap.size w3 W → ∀ j, j < N → W.cell? ⟨bd, od + j, none⟩ = some (.int .i64 (tgt X (pad xs) (pad ys) c j))) := by
            obtain ⟨ba, oa, ea, ka1, ka2, ka3, ka4⟩ := HT3.out.x.open (by rw [mv_length, HN.out]; omega)
            obtain ⟨bb, ob, eb, kb1, kb2, kb3, kb4⟩ := HT3.out.y.open (by rw [mv_length, HN.out]; omega)
            rw [mv_length, HN.out] at ka1 ka4 kb1 kb4
            have hbx := fun W (hW : Below w3.heap.size w3 W) => (hW.block w1.heap.size hw13).trans HBX3.out
            rcases hgood with h | h
            · have e0 : cN = 0 := by omega
              subst e0
              refine ⟨ba, oa, c3, fun W hW => by rw [← ea]; simp [World.cell?, hbx W hW], ka1, ka2, fun W hW j hj => ?_⟩
              unfold tgt
              rw [if_neg (by omega)]
              exact (hW.cell (p := ⟨ba, oa + j, none⟩) ka3).trans (ka4 j hj)
            · have e0 : cN = 1 := by omega
              subst e0
              refine ⟨bb, ob, c4, fun W hW => by rw [← eb]; simp [World.cell?, hbx W hW], kb1, kb2, fun W hW j hj => ?_⟩
              unfold tgt
              rw [if_pos (by omega)]
              exact (hW.cell (p := ⟨bb, ob + j, none⟩) kb3).trans (kb4 j hj)
          have HBOX := hide hbox
          have HCEL := hide hcells
          have HGD : Hid (∀ i, i < k + 1 → cs.getD i 0 = 0 ∨ cs.getD i 0 = 1) := fun i hi => by
            by_cases e : i = k
            · subst e; rw [← HC.out]; exact hgood
            · exact hgd.out i (by omega)
          have HTG : Hid (∀ r, tgt X (pad xs) (pad ys) c r = tgt X (pad xs) (pad ys) (cs.getD k 0) r) := fun r => by rw [← HC.out]
          have HO := hO
          have HNx := hNx
          have HBK := hide hbk
          subst hcN
          clear hbox hcells hgd hgood hO hNx hB3k hbk
          go_wp2
          go_loopw [56] (fun sj wr => ∃ (j : Nat) (zs : List Int), j ≤ sl ∧ sj = .int .i64 j ∧ Hid (wr.ownsRow w3.heap.size 3 1 (.slice (some ⟨w3.heap.size, 0, none⟩) N N) N (zs.map (Value.int .i64))) ∧ Hid (NxTo X (pad xs) (pad ys) (qs X (pad xs) (pad ys)) cs k j zs) ∧ Below w3.heap.size w3 wr) (fun sj _ => sl - (intOf sj).toNat)
          case atStart => exact ⟨0, zs, Nat.zero_le _, rfl, HO, HNx, HBK.out⟩
          case round =>
            clear HO HNx HBK
            obtain ⟨j, zs, hj, rfl, hO, hNx, hbj⟩ := hrel
            by_cases hjs : j < sl
            · obtain ⟨y, hy⟩ : ∃ y, S[j]? = some y := ⟨_, List.getElem?_eq_getElem (by rw [← HSL.out]; exact hjs)⟩
              obtain ⟨r, hr, er⟩ := HSts.out.below k S y HS.out (List.mem_of_getElem? hy)
              subst er
              obtain ⟨gu, cu2, egu, hu1, hu2, hu3, hu4⟩ := owns_form HROW.out (by omega)
              injection egu with egu1 egu2 egu3
              subst egu1
              subst egu3
              have hcy : w3.cell? ⟨gu, j, none⟩ = some (.int .i64 (r : Int)) := by
                have h9 := HROW.out.cells (g := gu) rfl j (.int .i64 (r : Int)) (by rw [List.getElem?_map, hy]; rfl)
                rw [Addr.add_lit, Nat.zero_add] at h9
                exact h9
              have hcy' := (hbj.cell (p := ⟨gu, j, none⟩) hu2).trans hcy
              have hbx := HBOX.out wr hbj
              have hcz := HCEL.out wr hbj r hr
              have hSo := hO.out
              obtain ⟨z0, hz0', hcz0, hfz0⟩ := owns_cellAt hSo hr
              have HSet := hide (fun u => owns_set_int (m := r) hSo u)
              have HNx2 : Hid (NxTo X (pad xs) (pad ys) (qs X (pad xs) (pad ys)) cs k (j + 1) (zs.set r (tgt X (pad xs) (pad ys) (cN : Int) r))) := by
                rw [HTG.out]
                exact hNx.out.step (show Sts X.length _ _ by rw [HN.out]; exact HSts.out) HS.out hy (by rw [HN.out]; exact hr)
              generalize tgt X (pad xs) (pad ys) (cN : Int) r = z at *
              clear hcy hSo hz0' hO hNx hy egu2
              go_wp2
              go_roundw
              case rel =>
                have hfin : ∃ (j' : Nat) (zs : List Int), j' ≤ sl ∧ Value.int .i64 ((j : Int) + 1) = .int .i64 (j' : Int) ∧ Hid ((wr.setCell ⟨w3.heap.size, r, none⟩ (.int .i64 z)).ownsRow w3.heap.size 3 1 (.slice (some ⟨w3.heap.size, 0, none⟩) N N) N (zs.map (Value.int .i64))) ∧ Hid (NxTo X (pad xs) (pad ys) (qs X (pad xs) (pad ys)) cs k j' zs) ∧ Below w3.heap.size w3 (wr.setCell ⟨w3.heap.size, r, none⟩ (.int .i64 z)) := ⟨j + 1, _, hjs, by go_num, HSet.out _, HNx2, hbj.setCell (Nat.le_refl _) _⟩
                first
                  | exact hfin
                  | ((repeat apply Exists.intro); exact ⟨hfin, rfl⟩)
              case measure => simp [intOf]; omega
            · obtain rfl : sl = j := by omega
              have HNx2 : Hid (NxTo X (pad xs) (pad ys) (qs X (pad xs) (pad ys)) cs (k + 1) 0 zs) := by
                have h9 := hNx.out
                rw [HSL.out] at h9
                exact h9.turn HS.out
              clear hNx
              go_wp2
              go_roundw
              case rel =>
                have hfin : ∃ (k' : Nat) (zs : List Int), k' ≤ cl ∧ Value.int .i64 ((k : Int) + 1) = .int .i64 (k' : Int) ∧ Hid (wr.ownsRow w3.heap.size 3 1 (.slice (some ⟨w3.heap.size, 0, none⟩) N N) N (zs.map (Value.int .i64))) ∧ Hid (NxTo X (pad xs) (pad ys) (qs X (pad xs) (pad ys)) cs k' 0 zs) ∧ Hid (∀ i, i < k' → cs.getD i 0 = 0 ∨ cs.getD i 0 = 1) ∧ Below w3.heap.size w3 wr := ⟨k + 1, _, hlt, by go_num, hO, HNx2, HGD, hbj⟩
                first
                  | exact hfin
                  | ((repeat apply Exists.intro); exact ⟨hfin, rfl⟩)
              case measure => simp [intOf]; omega
        · have HFN : Hid (RoundsPost n xs ys cs w (.returned (.tuple #[.int .i64 0, .int .i64 12])) wr) := by
            have e1 := rdE_value (A := qs X (pad xs) (pad ys)) (cs := cs) (by rw [← HAL.out]; exact HCL.out) HCM.out (by rw [← HC.out]; omega) (by rw [← HC.out]; omega)
            refine ⟨X, HRw.out, ?_, hB3k⟩
            unfold rdN
            rw [e1, if_neg (by decide)]
            rfl
          clear hO hNx hgd hbk hB3k
          have hcase : c < 0 ∨ (¬ c < 0 ∧ 2 ≤ c) := by omega
          rcases hcase with g1 | ⟨g1, g2⟩ <;>
          · clear hgood
            go_wp2
            go_ret2
            exact HFN.out
      · obtain rfl : cl = k := by omega
        have hze : zs = nxL X (pad xs) (pad ys) (qs X (pad xs) (pad ys)) cs := by
          have h9 := hNx.out
          rw [HAL.out] at h9
          exact h9.done (show Sts X.length _ _ by rw [HN.out]; exact HSts.out)
        have hgd2 : ∀ c, c ∈ cs → c = 0 ∨ c = 1 := fun c hc => by
          obtain ⟨i, hi, e⟩ := List.getElem_of_mem hc
          have h9 := hgd.out i (by rw [← HCL.out]; exact hi)
          rw [List.getD, List.getElem?_eq_getElem hi, e] at h9
          exact h9
        have hrd := rdE_ok (A := qs X (pad xs) (pad ys)) (by rw [← HAL.out]; exact HCL.out) hgd2
        have hOo : wr.ownsRow w3.heap.size 3 1 (.slice (some ⟨w3.heap.size, 0, none⟩) N N) N ((nxL X (pad xs) (pad ys) (qs X (pad xs) (pad ys)) cs).map (Value.int .i64)) := by rw [← hze]; exact hO.out
        have hnl := nxL_length X (pad xs) (pad ys) (qs X (pad xs) (pad ys)) cs
        rw [HN.out] at hnl
        have HCy := hide (cyclesOf_ok _ _ wr (Ints.own hOo) HNR.out (by rw [hnl]; omega) (by rw [hnl]; omega))
        rw [hnl] at HCy
        have HFN : Hid (∀ w', Below wr.heap.size wr w' → RoundsPost n xs ys cs w (.returned (.tuple #[.int .i64 ((cycsTo (nxL X (pad xs) (pad ys) (qs X (pad xs) (pad ys)) cs) N).length : Int), .int .i64 0])) w') := fun w' hb => by
          refine ⟨X, HRw.out, ?_, hB3k.trans (hb.mono hB3k.size)⟩
          unfold rdN
          rw [hrd, if_pos rfl, HN.out]
        clear hO hNx hgd hbk hB3k hze hgd2 hrd hOo hnl
        generalize cycsTo (nxL X (pad xs) (pad ys) (qs X (pad xs) (pad ys)) cs) N = CC at *
        go_wp2_with fail
        refine HCy.out.mono ?_
        rintro ex w6 ⟨u6, us6, rfl, hL6, -, hb6⟩
        obtain ⟨p6, c6, e6⟩ := owns_slice hL6.row
        rw [hL6.len] at e6
        subst e6
        have HF := hide (HFN.out w6 hb6)
        clear hL6 hb6 HCy HFN
        go_wp2
        go_ret2
        exact HF.out
  · have hne : ((cl : Int) != (al : Int)) = true := by rw [bne_iff_ne]; omega
    have HFN : Hid (RoundsPost n xs ys cs w (.returned (.tuple #[.int .i64 0, .int .i64 1])) w3) := by
      have e1 := rdE_count (A := qs X (pad xs) (pad ys)) (cs := cs) (by rw [← HAL.out, HCL.out]; exact hcl)
      refine ⟨X, HRw.out, ?_, HB3.out⟩
      unfold rdN
      rw [e1, if_neg (by decide)]
      rfl
    clear hcl
    go_wp2
    go_ret2
    exact HFN.out

end Go.Proofs.Ytimfoggjocajiaa

/- ExtentSays: refusals; groups that are too great. -/
namespace Go.Proofs.Ytimfoggjocajiaa
open Go.RowKit

set_option maxRecDepth 20000 in
set_option maxHeartbeats 4000000 in
theorem exits_lim (n : Nat) (v1 v2 : Value) (xs ys : List Int) (w : World) (h1 : Ints w v1 xs) (h2 : Ints w v2 ys) (hn1 : 1 ≤ n) (h12 : n ≤ 12) (hl : xs.length = n) (hR : RowsN n [xs, ys]) (hs : 5040 < sz (G2 xs ys) n) :
    Calls Try.prog 94 #[v1, v2] w fun e w' => ExNo 3 w e w' := by
  have HMk : Hid (∀ (W : World) (v : Value), IntsAll W v [xs, ys] → Calls Try.prog 14 #[.int .i64 n, v] W fun e w' => ∃ u, e = .returned (.tuple #[u, .int .i64 0]) ∧ GroupAt w' u n ([xs, ys].map pad) ∧ Below W.heap.size W w') := fun W v hv => make_ok n v [xs, ys] W hv hn1 h12 (by simp) hR
  have H1 := hide h1
  have H2 := hide h2
  have HS := hide hs
  obtain ⟨p1, c1, e1⟩ := h1.form
  obtain ⟨p2, c2, e2⟩ := h2.form
  rw [hl] at e1
  rw [(hR ys (by simp)).2] at e2
  subst e1
  subst e2
  clear h1 h2 hR hl hs
  have hal : Below w.heap.size w (w.alloc (.cells #[.slice none 0 0, .slice none 0 0] 129)) := (Below.refl _ _).alloc (Nat.le_refl _) _
  have HI2 := hide (ints_two (w := w.alloc (.cells #[.slice none 0 0, .slice none 0 0] 129)) (m := w.heap.size + 1) (by simp) (H1.out.below hal) (H2.out.below hal))
  have HBW : Hid (Below w.heap.size w ((w.alloc (.cells #[.slice none 0 0, .slice none 0 0] 129)).alloc (.cells #[.slice p1 n c1, .slice p2 n c2] 23))) := hal.alloc (by simp) _
  have HBW2 : Hid (Below (w.heap.size + 1) (w.alloc (.cells #[.slice none 0 0, .slice none 0 0] 129)) ((w.alloc (.cells #[.slice none 0 0, .slice none 0 0] 129)).alloc (.cells #[.slice p1 n c1, .slice p2 n c2] 23))) := (Below.refl _ _).alloc (by simp) _
  clear hal
  go_enter Try.func94, Try.ntmps94
  go_wp2_with fail
  refine (HMk.out _ _ HI2.out).mono ?_
  rintro ex w3 ⟨u3, rfl, hG3, hb3⟩
  have HG3 := hide hG3
  obtain ⟨gb3, _, _, _, _, _, _, rfl, _⟩ := hG3
  have hB3 := HBW.out.trans (hb3.mono HBW.out.size)
  have HB3 : Hid (Below (w.heap.size + 1) (w.alloc (.cells #[.slice none 0 0, .slice none 0 0] 129)) w3) := HBW2.out.trans (hb3.mono (by simp))
  have HEl := hide (elements_ok n _ ([xs, ys].map pad) w3 h12 HG3.out)
  clear hb3 HMk HI2 HBW HBW2
  go_wp2_with fail
  refine HEl.out.mono ?_
  rintro ex w4 hE
  unfold ElPost at hE
  rw [if_pos (show 5040 < sz (G2 xs ys) n from HS.out)] at hE
  obtain ⟨hb4, rfl⟩ := hE
  have HB4 := hide (hB3.trans (hb4.mono hB3.size))
  have hb49 := HB3.out.trans (hb4.mono (Nat.le_trans (by simp) HB3.out.size))
  have hblk : w4.heap[w.heap.size]? = some (.cells #[.slice none 0 0, .slice none 0 0] 129) := (hb49.block w.heap.size (by omega)).trans (heap_alloc_last w _)
  clear hb4 hB3 HB3 HEl hb49
  go_wp2_with (first | refine wpList_load_two rfl _ rfl w.heap.size _ _ _ hblk rfl ?_ | refine wpList_store_two rfl _ _ rfl w.heap.size _ _ (.slice none 0 0) (.slice none 0 0) _ hblk rfl rfl rfl rfl ?_)
  go_wp2_with (first | refine wpList_load_two rfl _ rfl w.heap.size _ _ _ hblk rfl ?_ | refine wpList_store_two rfl _ _ rfl w.heap.size _ _ (.slice none 0 0) (.slice none 0 0) _ hblk rfl rfl rfl rfl ?_)
  intro w7 hblk7 hg7
  have HB7 : Hid (Below w.heap.size w w7) := HB4.out.grown hg7 HB4.out.size (fun k hk => by have := Option.some.inj hk; omega)
  clear hg7 hblk
  go_wp2
  exact ret_two_tmp (p := 4) (u := 5) rfl rfl rfl hblk7 rfl ⟨rfl, HB7.out⟩

set_option maxRecDepth 20000 in
theorem qsets_no (v1 v2 : Value) (c : Int) (w : World) (hc : c ≠ 0) (hx : Calls Try.prog 94 #[v1, v2] w fun e w' => ExNo c w e w') :
    Calls Try.prog 48 #[v1, v2] w fun e w' => QNo c w e w' := by
  have HEx := hide hx
  have hne : (c != 0) = true := by rw [bne_iff_ne]; exact hc
  clear hx hc
  go_enter Try.func48, Try.ntmps48
  go_wp2_with fail
  refine HEx.out.mono ?_
  rintro ex w1 ⟨rfl, hb1⟩
  have hblk := heap_alloc_last w1 (.cells #[.slice none 0 0, .slice none 0 0] 129)
  have HB1 := hide hb1
  clear hb1 HEx
  go_wp2_with (refine wpList_store_two rfl _ _ rfl w1.heap.size _ _ (.slice none 0 0) (.slice none 0 0) _ hblk rfl rfl rfl rfl ?_)
  intro w2 _ hg2
  have hb2 : Below w1.heap.size w1 w2 := ((Below.refl _ _).alloc (Nat.le_refl _) _).grown hg2 (by simp) (fun k hk => by have := Option.some.inj hk; omega)
  have HB2 := hide (HB1.out.trans (hb2.mono HB1.out.size))
  clear hg2 hb2 hblk
  go_wp2
  go_ret2
  exact ⟨rfl, HB2.out⟩

set_option maxRecDepth 20000 in
theorem rounds_no (v1 v2 v3 : Value) (c : Int) (w : World) (hc : c ≠ 0) (hx : Calls Try.prog 94 #[v1, v2] w fun e w' => ExNo c w e w') :
    Calls Try.prog 49 #[v1, v2, v3] w fun e w' => e = .returned (.tuple #[.int .i64 0, .int .i64 c]) ∧ Below w.heap.size w w' := by
  have HEx := hide hx
  have hne : (c != 0) = true := by rw [bne_iff_ne]; exact hc
  clear hx hc
  go_enter Try.func49, Try.ntmps49
  go_wp2_with fail
  refine HEx.out.mono ?_
  rintro ex w1 ⟨rfl, hb1⟩
  have hblk := heap_alloc_last w1 (.cells #[.slice none 0 0, .slice none 0 0] 129)
  have HB1 := hide hb1
  clear hb1 HEx
  go_wp2_with (refine wpList_store_two rfl _ _ rfl w1.heap.size _ _ (.slice none 0 0) (.slice none 0 0) _ hblk rfl rfl rfl rfl ?_)
  intro w2 _ hg2
  have hb2 : Below w1.heap.size w1 w2 := ((Below.refl _ _).alloc (Nat.le_refl _) _).grown hg2 (by simp) (fun k hk => by have := Option.some.inj hk; omega)
  have HB2 := hide (HB1.out.trans (hb2.mono HB1.out.size))
  clear hg2 hb2 hblk
  go_wp2
  go_ret2
  exact ⟨rfl, HB2.out⟩

set_option maxRecDepth 20000 in
set_option maxHeartbeats 4000000 in
theorem extentSays_no (v1 v2 v3 : Value) (xs ys : List Int) (c : Int) (w : World) (h1 : Ints w v1 xs) (h2 : Ints w v2 ys) (hc : c ≠ 0)
    (hk : ∀ W v, IntsAll W v [xs, ys] → Calls Try.prog 16 #[.int .i64 ((xs.length : Nat) : Int), v] W fun e w' => e = .returned (.int .i64 c) ∧ Below W.heap.size W w')
    (hm : ∀ W v, IntsAll W v [xs, ys] → Calls Try.prog 15 #[.int .i64 ((xs.length : Nat) : Int), v] W fun e w' => e = .returned (.int .i64 c) ∧ W = w') :
    Calls Try.prog 8 #[v1, v2, v3] w fun e w' => Told w e w' := by
  have HEx : Hid (∀ W, Below w.heap.size w W → Calls Try.prog 94 #[v1, v2] W fun e w' => ExNo c W e w') := fun W hW => exits_no v1 v2 xs ys c W (h1.below hW) (h2.below hW) hc hk
  have HQ : Hid (∀ W, Below w.heap.size w W → Calls Try.prog 48 #[v1, v2] W fun e w' => QNo c W e w') := fun W hW => qsets_no v1 v2 c W hc (HEx.out W hW)
  have HRd : Hid (∀ W, Below w.heap.size w W → Calls Try.prog 49 #[v1, v2, v3] W fun e w' => e = .returned (.tuple #[.int .i64 0, .int .i64 c]) ∧ Below W.heap.size W w') := fun W hW => rounds_no v1 v2 v3 c W hc (HEx.out W hW)
  have HM := hide hm
  have hne : (c == 0) = false := beq_eq_false_iff_ne.2 hc
  have hne2 : (c != 0) = true := by rw [bne_iff_ne]; exact hc
  have HI2 := hide (ints_two (w := w) (m := w.heap.size) rfl h1 h2)
  obtain ⟨p1, c1, e1⟩ := h1.form
  obtain ⟨p2, c2, e2⟩ := h2.form
  subst e1
  subst e2
  generalize xs.length = l1 at *
  generalize ys.length = l2 at *
  have HB0 : Hid (Below w.heap.size w (w.alloc (.cells #[.slice p1 l1 c1, .slice p2 l2 c2] 23))) := (Below.refl _ _).alloc (Nat.le_refl _) _
  clear h1 h2 hk hm hc HEx
  go_enter Try.func8, Try.ntmps8
  go_wp2_with fail
  refine (HM.out _ _ HI2.out).mono ?_
  rintro ex w1 ⟨rfl, hw1⟩
  have HB1 : Hid (Below w.heap.size w w1) := by rw [← hw1]; exact HB0.out
  clear hw1 HM HI2 HB0
  go_wp2_with fail
  refine (HQ.out w1 HB1.out).mono ?_
  rintro ex w2 ⟨rfl, hb2⟩
  have HB2 := hide (HB1.out.trans (hb2.mono HB1.out.size))
  clear hb2 HB1
  go_wp2_with fail
  refine (HRd.out w2 HB2.out).mono ?_
  rintro ex w3 ⟨rfl, hb3⟩
  have HB3 := hide (HB2.out.trans (hb3.mono HB2.out.size))
  clear hb3 HB2
  go_wp2
  go_ret
  exact ⟨rfl, HB3.out⟩

end Go.Proofs.Ytimfoggjocajiaa

/- Plain: RANKIN: how many circuits there are, even or odd. -/
namespace Go.Proofs.Ytimfoggjocajiaa

theorem odd_take (l : List (List Int)) : ∀ j, j ≤ l.length → ((l.take j).flatten.length + j + (if oddTo l j = true then 1 else 0)) % 2 = 0
  | 0, _ => by simp [oddTo]
  | j + 1, hj => by
    have ih := odd_take l j (by omega)
    have hg : l[j]? = some l[j] := List.getElem?_eq_getElem (by omega)
    have e1 : (l.take (j + 1)).flatten.length = (l.take j).flatten.length + (l.getD j []).length := by
      rw [List.take_add_one, hg, List.flatten_append, List.length_append, List.getD, hg]
      simp
    have e2 : oddTo l (j + 1) = if (l.getD j []).length % 2 = 0 then !(oddTo l j) else oddTo l j := rfl
    rw [e1, e2]
    generalize (l.take j).flatten.length = s at *
    generalize (l.getD j []).length = c at *
    clear e1 e2 hg
    cases hb : oddTo l j <;> rw [hb] at ih <;> by_cases h : c % 2 = 0
    · rw [if_pos h]; simp at ih ⊢; omega
    · rw [if_neg h]; simp at ih ⊢; omega
    · rw [if_pos h]; simp at ih ⊢; omega
    · rw [if_neg h]; simp at ih ⊢; omega

theorem flat_count {r : List Int} (hr : isRow r) : (cycsTo r r.length).flatten.length = r.length := by
  have h1 := cyc_nodup hr r.length (Nat.le_refl _)
  have h2 : ((List.range r.length).map (fun i => ((i : Nat) : Int))).Nodup := nodup_mapI _ (fun a b h => by omega) _ List.nodup_range
  have h3 := len_same _ _ h1 h2 (fun x => ?_)
  · rw [h3]; simp
  · rw [List.mem_map]
    constructor
    · intro hx
      obtain ⟨C, hC, hxC⟩ := List.mem_flatten.1 hx
      obtain ⟨y, hy, rfl⟩ := cyc_form hC
      obtain ⟨j, hj, e⟩ := mem_orb.1 hxC
      exact ⟨it r j y, List.mem_range.2 (it_lt hr hy j), e.symm⟩
    · rintro ⟨i, hi, rfl⟩
      exact flat_all hr r.length (Nat.le_refl _) i (List.mem_range.1 hi)

theorem odd_count {r : List Int} (hr : isRow r) : (r.length + (cycsTo r r.length).length + (if odd r = true then 1 else 0)) % 2 = 0 := by
  have h := odd_take (cycsTo r r.length) _ (Nat.le_refl _)
  rw [List.take_length, flat_count hr] at h
  exact h

theorem odd_pw {r : List Int} (hr : isRow r) : ∀ k, odd (pw r k) = (decide (k % 2 = 1) && odd r)
  | 0 => by
    have e : pw r 0 = rnd r.length := pw_rnd.2 (fun x _ => rfl)
    rw [e, odd_rnd]; rfl
  | k + 1 => by
    rw [← pw_succ hr k, odd_by (isRow_pw hr k) hr (by rw [pw_length]), odd_pw hr k]
    rcases Nat.mod_two_eq_zero_or_one k with h | h
    · rw [show (k + 1) % 2 = 1 by omega, h]; cases odd r <;> rfl
    · rw [show (k + 1) % 2 = 0 by omega, h]; cases odd r <;> rfl

theorem odd_none {r : List Int} (hr : isRow r) {o : Nat} (ho : o % 2 = 1) (h : pw r o = rnd r.length) : odd r = false := by
  have h1 := odd_pw hr o
  rw [h, odd_rnd, ho] at h1
  simpa using h1.symm

/-- Powers. -/
noncomputable def pwP (p : Pm) : Nat → Pm
  | 0 => 1
  | k + 1 => p * pwP p k

theorem pwP_comm (p : Pm) : ∀ k, p * pwP p k = pwP p k * p
  | 0 => by show p * 1 = 1 * p; rw [Pm.mul_one, Pm.one_mul]
  | k + 1 => by show p * (p * pwP p k) = p * pwP p k * p; rw [Pm.mul_assoc, ← pwP_comm p k]

theorem pwP_add (p : Pm) (i : Nat) : ∀ j, pwP p (i + j) = pwP p i * pwP p j
  | 0 => by show pwP p i = pwP p i * 1; rw [Pm.mul_one]
  | j + 1 => by
    show p * pwP p (i + j) = pwP p i * (p * pwP p j)
    rw [pwP_add p i j, ← Pm.mul_assoc, pwP_comm, Pm.mul_assoc]

theorem pwP_inv (p : Pm) : ∀ k, pwP p⁻¹ k = (pwP p k)⁻¹
  | 0 => by show (1 : Pm) = 1⁻¹; rw [Pm.inv_one]
  | k + 1 => by
    show p⁻¹ * pwP p⁻¹ k = (p * pwP p k)⁻¹
    rw [pwP_inv p k, pwP_comm, Pm.inv_prod]

theorem it_cut {n : Nat} (h12 : n ≤ 12) {p : Pm} (hf : Fixes (fun b => n ≤ b) p) {x : Nat} (hx : x < n) : ∀ k, it (cut n p) k x = (pwP p k).act x
  | 0 => by show x = (1 : Pm).act x; rw [Pm.act_one]
  | k + 1 => by
    show nx (cut n p) (it (cut n p) k x) = (p * pwP p k).act x
    rw [it_cut h12 hf hx k, Pm.act_mul]
    have hlt : (pwP p k).act x < n := by
      rw [← it_cut h12 hf hx k]
      have := it_lt (cut_row h12 hf) (x := x) (by rw [cut_length h12]; exact hx) k
      rwa [cut_length h12] at this
    unfold nx
    rw [cut_get p h12 hlt]
    exact Int.toNat_natCast _

theorem pwP_fix {n : Nat} {p : Pm} (hf : Fixes (fun b => n ≤ b) p) : ∀ k, Fixes (fun b => n ≤ b) (pwP p k)
  | 0 => (fixes_sub _).one
  | k + 1 => (fixes_sub _).mul hf (pwP_fix hf k)

theorem pwP_ord {n : Nat} (h12 : n ≤ 12) {p : Pm} (hf : Fixes (fun b => n ≤ b) p) : pwP p (ord (cut n p)) = 1 := by
  have h := pw_rnd.1 ((ord_pw (cut_row h12 hf) (ord (cut n p))).2 (Nat.dvd_refl _))
  rw [cut_length h12] at h
  refine Pm.ext' (fun b _ => ?_)
  rw [Pm.act_one]
  rcases Nat.lt_or_ge b n with hb | hb
  · rw [← it_cut h12 hf hb]; exact h b hb
  · exact pwP_fix hf _ b hb

/-- From a row by a change, again and again. -/
theorem it_mv {X : List Pm} (hn : X.Nodup) {a : Pm} (hc : Cls X a) {r : Nat} {p : Pm} (hr : X[r]? = some p) : ∀ k, p * pwP a k ∈ X ∧ it (mv X a) k r = ix X (p * pwP a k)
  | 0 => by
    show p * 1 ∈ X ∧ r = ix X (p * 1)
    rw [Pm.mul_one]
    exact ⟨List.mem_of_getElem? hr, (ix_of hn hr).symm⟩
  | k + 1 => by
    obtain ⟨h1, h2⟩ := it_mv hn hc hr k
    have e : p * pwP a (k + 1) = p * pwP a k * a := by
      show p * (a * pwP a k) = _
      rw [pwP_comm, Pm.mul_assoc]
    rw [e]
    refine ⟨hc _ h1, ?_⟩
    show nx (mv X a) (it (mv X a) k r) = _
    rw [h2, mv_nx (ix_get h1)]

/-- A cycle is as long as the row's powers are many. -/
theorem per_mv {n : Nat} {G : Pm → Prop} {X : List Pm} (hR : Rws n G X) {a : Pm} (ha : G a) {r : Nat} (hr : r < X.length) : pwP a (per (mv X a) r) = 1 ∧ ∀ q, 1 ≤ q → q < per (mv X a) r → pwP a q ≠ 1 := by
  have hp : X[r]? = some X[r] := List.getElem?_eq_getElem hr
  have hI := it_mv hR.nodup (hR.cls ha) hp
  obtain ⟨_, _, p3, p4⟩ := per_spec (mv_row hR.nodup (hR.cls ha)) (x := r) (by rw [mv_length]; exact hr)
  constructor
  · have h9 := (hI (per (mv X a) r)).2
    rw [p3] at h9
    have h8 := ix_get (hI (per (mv X a) r)).1
    rw [← h9, hp] at h8
    have e := Option.some.inj h8
    have := congrArg (fun z => X[r]⁻¹ * z) e
    simp only [Pm.inv_mul, Pm.inv_mul_cancel] at this
    exact this.symm
  · intro q h1 h2 e
    refine p4 q h1 h2 ?_
    rw [(hI q).2, e, Pm.mul_one]
    exact ix_of hR.nodup hp

theorem sz_pow {n : Nat} (h12 : n ≤ 12) {a : Pm} (hf : Fixes (fun b => n ≤ b) a) {q : Nat} (hq : 1 ≤ q) (h1 : pwP a q = 1) (h2 : ∀ i, 1 ≤ i → i < q → pwP a i ≠ 1) : sz (Gen (fun y => y ∈ [a])) n = q := by
  have hnd : ((List.range q).map (pwP a)).Nodup := by
    rw [List.Nodup, List.pairwise_map]
    have key : ∀ i j, i < j → j < q → pwP a i ≠ pwP a j := fun i j hij hj e => by
      have e2 : pwP a j = pwP a i * pwP a (j - i) := by rw [← pwP_add]; congr 1; omega
      rw [e2] at e
      have := congrArg (fun z => (pwP a i)⁻¹ * z) e
      simp only [Pm.inv_mul, Pm.inv_mul_cancel] at this
      exact h2 (j - i) (by omega) (by omega) this.symm
    refine List.Pairwise.imp_of_mem (fun {i j} hi hj h e => ?_) (List.pairwise_lt_range (n := q))
    exact key i j h (List.mem_range.1 hj) e
  have hm : ∀ x, x ∈ (List.range q).map (pwP a) ↔ Gen (fun y => y ∈ [a]) x := fun x => by
    rw [List.mem_map]
    constructor
    · rintro ⟨i, _, rfl⟩
      have : ∀ i, Gen (fun y => y ∈ [a]) (pwP a i) := fun i => by
        induction i with
        | zero => exact Gen.one
        | succ i ih => exact Gen.mul (by simp) ih
      exact this i
    · intro hx
      induction hx with
      | one => exact ⟨0, List.mem_range.2 (by omega), rfl⟩
      | mul hs _ ih =>
        obtain ⟨i, hi, rfl⟩ := ih
        rw [List.mem_singleton.1 hs]
        have hi' := List.mem_range.1 hi
        by_cases e : i + 1 = q
        · exact ⟨0, List.mem_range.2 (by omega), by show (1 : Pm) = pwP a (i + 1); rw [e, h1]⟩
        · exact ⟨i + 1, List.mem_range.2 (by omega), rfl⟩
  have := sz_is (Gen.sub (fun y => y ∈ [a])) h12 (fun x hx => hx.least (fixes_sub _) (fun s hs => by rw [List.mem_singleton.1 hs]; exact hf)) hnd hm
  rw [← this]; simp

theorem flat_same {q : Nat} : ∀ (l : List (List Int)), (∀ c, c ∈ l → c.length = q) → l.flatten.length = l.length * q
  | [], _ => by simp
  | c :: l, h => by
    rw [List.flatten_cons, List.length_append, h c List.mem_cons_self, flat_same l (fun d hd => h d (List.mem_cons_of_mem _ hd)), List.length_cons, Nat.succ_mul, Nat.add_comm]

/-- How many circuits x alone makes. -/
theorem plain_count {n : Nat} {G : Pm → Prop} {X : List Pm} (hR : Rws n G X) {a : Pm} (ha : G a) : (cycsTo (mv X a) X.length).length * sz (Gen (fun y => y ∈ [a])) n = X.length := by
  have hrow := mv_row hR.nodup (hR.cls ha)
  have hml := mv_length X a
  have h0 := hR.pos
  have hper : ∀ r, r < X.length → per (mv X a) r = sz (Gen (fun y => y ∈ [a])) n := fun r hr => by
    obtain ⟨p1, _, _, _⟩ := per_spec hrow (x := r) (by rw [hml]; exact hr)
    obtain ⟨h1, h2⟩ := per_mv hR ha hr
    exact (sz_pow hR.twelve (hR.fix a ha) p1 h1 h2).symm
  have hfl := flat_count hrow
  rw [hml] at hfl
  rw [← flat_same (cycsTo (mv X a) X.length) (q := sz (Gen (fun y => y ∈ [a])) n) (fun c hc => by
    obtain ⟨y, hy, rfl⟩ := cyc_form hc
    rw [orb_length, hper y hy]), hfl]

/-- What turns the chosen sets about. -/
theorem turn_by {n : Nat} {G : Pm → Prop} {X : List Pm} (hR : Rws n G X) {a b : Pm} (ha : G a) (hb : G b) (A : List (List Int)) (cs : List Int) : by_ (mv X a) (nxL X 1 (b * a⁻¹) A cs) = nxL X a b A cs := by
  refine ext_getD (by rw [by_length, nxL_length, nxL_length]) (fun r hr => ?_)
  rw [by_length, nxL_length] at hr
  have hp : X[r]? = some X[r] := List.getElem?_eq_getElem hr
  have hm : (X[r] * if chc A cs r = 1 then b * a⁻¹ else 1) ∈ X := by
    refine hR.cls ?_ _ (List.mem_of_getElem? hp)
    split
    · exact hR.sub.mul hb (hR.sub.inv ha)
    · exact hR.sub.one
  rw [nxL_get hp]
  have e1 : (by_ (mv X a) (nxL X 1 (b * a⁻¹) A cs)).getD r 0 = (mv X a).getD (ix X (X[r] * if chc A cs r = 1 then b * a⁻¹ else 1)) 0 := by
    have h9 := nxL_get (a := 1) (b := b * a⁻¹) (A := A) (cs := cs) hp
    have hl : r < (nxL X 1 (b * a⁻¹) A cs).length := by rw [nxL_length]; exact hr
    rw [List.getD, List.getElem?_eq_getElem hl] at h9
    have h8 : (nxL X 1 (b * a⁻¹) A cs)[r] = _ := h9
    unfold by_
    rw [List.getD, List.getElem?_map, List.getElem?_eq_getElem hl, h8]
    rfl
  rw [e1, List.getD, mv_get (ix_get hm)]
  show ((ix X _ : Nat) : Int) = _
  congr 2
  split
  · rw [Pm.mul_assoc, Pm.mul_assoc, Pm.inv_mul, Pm.mul_one]
  · rw [Pm.mul_one]

theorem qs_turn (X : List Pm) (a b : Pm) : qs X 1 (b * a⁻¹) = qs X a b := by
  unfold qs
  rw [Pm.one_mul, Pm.inv_prod, Pm.inv_inv]

theorem turn_it {n : Nat} {G : Pm → Prop} {X : List Pm} (hR : Rws n G X) {a b : Pm} (ha : G a) (hb : G b) (cs : List Int) {r : Nat} {p : Pm} (hr : X[r]? = some p) : ∀ k, (p * if chc (qs X a b) cs r = 1 then pwP (b * a⁻¹) k else 1) ∈ X ∧ chc (qs X a b) cs (it (nxL X 1 (b * a⁻¹) (qs X a b) cs) k r) = chc (qs X a b) cs r ∧ it (nxL X 1 (b * a⁻¹) (qs X a b) cs) k r = ix X (p * if chc (qs X a b) cs r = 1 then pwP (b * a⁻¹) k else 1)
  | 0 => by
    have e : (p * if chc (qs X a b) cs r = 1 then pwP (b * a⁻¹) 0 else 1) = p := by
      split
      · show p * 1 = p; exact Pm.mul_one p
      · exact Pm.mul_one p
    rw [e]
    exact ⟨List.mem_of_getElem? hr, rfl, (ix_of hR.nodup hr).symm⟩
  | k + 1 => by
    obtain ⟨h1, h2, h3⟩ := turn_it hR ha hb cs hr k
    have hG : G (b * a⁻¹) := hR.sub.mul hb (hR.sub.inv ha)
    by_cases hc : chc (qs X a b) cs r = 1
    · rw [if_pos hc] at h1 h3 ⊢
      rw [hc] at h2
      have e : p * pwP (b * a⁻¹) (k + 1) = p * pwP (b * a⁻¹) k * (b * a⁻¹) := by
        show p * (b * a⁻¹ * pwP (b * a⁻¹) k) = _
        rw [pwP_comm, Pm.mul_assoc]
      have hm : p * pwP (b * a⁻¹) k * (b * a⁻¹) ∈ X := hR.cls hG _ h1
      have e2 : it (nxL X 1 (b * a⁻¹) (qs X a b) cs) (k + 1) r = ix X (p * pwP (b * a⁻¹) k * (b * a⁻¹)) := by
        show nx (nxL X 1 (b * a⁻¹) (qs X a b) cs) (it (nxL X 1 (b * a⁻¹) (qs X a b) cs) k r) = _
        rw [h3, nxL_nx (ix_get h1), ← h3, h2, if_pos rfl]
      rw [e]
      refine ⟨hm, ?_, e2⟩
      have hS := qs_sts hR ha hb
      have e3 : nx (mv X (a * b⁻¹)) (ix X (p * pwP (b * a⁻¹) k * (b * a⁻¹))) = ix X (p * pwP (b * a⁻¹) k) := by
        rw [mv_nx (ix_get hm)]
        congr 1
        rw [Pm.mul_assoc, Pm.mul_assoc b, ← Pm.mul_assoc a⁻¹, Pm.inv_mul, Pm.one_mul, Pm.mul_inv, Pm.mul_one]
      have e4 := hS.next_sof (r := ix X (p * pwP (b * a⁻¹) k * (b * a⁻¹))) (ix_lt hm)
      rw [e3, ← h3] at e4
      rw [e2, hc]
      have h5 : chc (qs X a b) cs (it (nxL X 1 (b * a⁻¹) (qs X a b) cs) k r) = 1 := h2
      unfold chc at h5 ⊢
      rw [← e4]; exact h5
    · rw [if_neg hc] at h1 h3 ⊢
      rw [Pm.mul_one] at h1 h3 ⊢
      have e2 : it (nxL X 1 (b * a⁻¹) (qs X a b) cs) (k + 1) r = ix X p := by
        show nx (nxL X 1 (b * a⁻¹) (qs X a b) cs) (it (nxL X 1 (b * a⁻¹) (qs X a b) cs) k r) = _
        rw [h3, nxL_nx (ix_get h1), ← h3, h2, if_neg hc, Pm.mul_one]
        exact h3.symm
      refine ⟨h1, ?_, e2⟩
      rw [e2, ix_of hR.nodup hr]

/-- RANKIN. -/
theorem rankin {n : Nat} {G : Pm → Prop} {X : List Pm} (hR : Rws n G X) {a b : Pm} (ha : G a) (hb : G b) (cs : List Int) {o : Nat} (ho : o % 2 = 1) (hpow : pwP (a * b⁻¹) o = 1) : (cycsTo (nxL X a b (qs X a b) cs) X.length).length % 2 = (cycsTo (mv X a) X.length).length % 2 := by
  have hG : G (b * a⁻¹) := hR.sub.mul hb (hR.sub.inv ha)
  have hT : isRow (nxL X 1 (b * a⁻¹) (qs X a b) cs) := by
    have h9 := nxL_row hR hR.sub.one hG cs
    rw [qs_turn] at h9
    exact h9
  have hp2 : pwP (b * a⁻¹) o = 1 := by
    have e : b * a⁻¹ = (a * b⁻¹)⁻¹ := by rw [Pm.inv_prod, Pm.inv_inv]
    rw [e, pwP_inv, hpow, Pm.inv_one]
  have hpw : pw (nxL X 1 (b * a⁻¹) (qs X a b) cs) o = rnd (nxL X 1 (b * a⁻¹) (qs X a b) cs).length := by
    refine pw_rnd.2 (fun r hr => ?_)
    rw [nxL_length] at hr
    have hp : X[r]? = some X[r] := List.getElem?_eq_getElem hr
    rw [(turn_it hR ha hb cs hp o).2.2, hp2, ite_self, Pm.mul_one]
    exact ix_of hR.nodup hp
  have h1 := odd_none hT ho hpw
  have hma := mv_row hR.nodup (hR.cls ha)
  have h2 := odd_by hma hT (by rw [nxL_length, mv_length])
  rw [turn_by hR ha hb, h1] at h2
  have h3 := odd_count (nxL_row hR ha hb cs)
  have h4 := odd_count hma
  rw [nxL_length] at h3
  rw [mv_length] at h4
  rw [h2] at h3
  cases ho2 : odd (mv X a) <;> rw [ho2] at h3 h4 <;> simp at h3 h4 <;> omega

end Go.Proofs.Ytimfoggjocajiaa

/- Plain: the answer's Qsets: labels that are made one, and lists by labels. -/
namespace Go.Proofs.Ytimfoggjocajiaa

/-- Labels while what is joined gets one. -/
structure LabOk (N : Nat) (σ : Nat → Nat) (A : List (List Int)) (i : Nat) (f : Nat → Int) : Prop where
  sound : ∀ j k, j < N → k < N → f j = f k → sof A j = sof A k
  full : ∀ r, r < i → r < N → f (σ r) = f r
  bnd : ∀ j, j < N → 0 ≤ f j ∧ f j < (N : Int)

theorem LabOk.start (N : Nat) (σ : Nat → Nat) (A : List (List Int)) : LabOk N σ A 0 (fun j => (j : Int)) :=
  ⟨fun j k _ _ h => by have : j = k := by omega
                       rw [this], fun r hr => by omega, fun j hj => ⟨by omega, by omega⟩⟩

theorem LabOk.same {N : Nat} {σ : Nat → Nat} {A : List (List Int)} {i : Nat} {f : Nat → Int} (h : LabOk N σ A i f) (he : f (σ i) = f i) : LabOk N σ A (i + 1) f :=
  ⟨h.sound, fun r hr hN => by
    by_cases e : r = i
    · rw [e]; exact he
    · exact h.full r (by omega) hN, h.bnd⟩

theorem LabOk.join {N : Nat} {σ : Nat → Nat} {A : List (List Int)} (hS : Sts N σ A) (hσ : ∀ r, r < N → σ r < N) {i : Nat} {f : Nat → Int} (h : LabOk N σ A i f) (hi : i < N) : LabOk N σ A (i + 1) (fun j => if f j = f i then f (σ i) else f j) := by
  have hn := hS.next_sof hi
  refine ⟨fun j k hj hk e => ?_, fun r hr hN => ?_, fun j hj => by
    show 0 ≤ (if f j = f i then f (σ i) else f j) ∧ (if f j = f i then f (σ i) else f j) < (N : Int)
    split
    · exact h.bnd _ (hσ i hi)
    · exact h.bnd j hj⟩
  · by_cases e1 : f j = f i
    · by_cases e2 : f k = f i
      · exact h.sound j k hj hk (e1.trans e2.symm)
      · rw [if_pos e1, if_neg e2] at e
        rw [h.sound j i hj hi e1, ← h.sound (σ i) k (hσ i hi) hk e, hn]
    · by_cases e2 : f k = f i
      · rw [if_neg e1, if_pos e2] at e
        rw [h.sound j (σ i) hj (hσ i hi) e, hn, h.sound k i hk hi e2]
      · rw [if_neg e1, if_neg e2] at e
        exact h.sound j k hj hk e
  · by_cases e : r = i
    · subst e
      rw [if_pos rfl]
      split
      · rfl
      · rfl
    · have h9 := h.full r (by omega) hN
      show (if f (σ r) = f i then f (σ i) else f (σ r)) = if f r = f i then f (σ i) else f r
      rw [h9]

/-- .. while all labels a are made b. -/
def relab (f : Nat → Int) (a b : Int) (m : Nat) (j : Nat) : Int := if j < m ∧ f j = a then b else f j

theorem LabOk.steps {N : Nat} {r : List Int} {A : List (List Int)} {f : Nat → Int} (h : LabOk N (nx r) A N f) (hr : isRow r) (hN : r.length = N) {j : Nat} (hj : j < N) : ∀ k, f (it r k j) = f j
  | 0 => rfl
  | k + 1 => by
    have h9 := it_lt hr (x := j) (by rw [hN]; exact hj) k
    rw [hN] at h9
    show f (nx r (it r k j)) = f j
    rw [h.full _ h9 h9, LabOk.steps h hr hN hj k]

/-- Those below i of a list, in order. -/
def asc (i : Nat) (C : List Int) : List Int := ((List.range i).filter (fun j => decide (((j : Nat) : Int) ∈ C))).map (fun j => ((j : Nat) : Int))

theorem asc_in {i : Nat} {C : List Int} (h : (i : Int) ∈ C) : asc (i + 1) C = asc i C ++ [(i : Int)] := by
  unfold asc
  rw [List.range_succ, List.filter_append, List.map_append]
  simp [h]

theorem asc_out {i : Nat} {C : List Int} (h : ¬ (i : Int) ∈ C) : asc (i + 1) C = asc i C := by
  unfold asc
  rw [List.range_succ, List.filter_append, List.map_append]
  simp [h]

theorem asc_none {i : Nat} {C : List Int} (h : ∀ j, j < i → ¬ (j : Int) ∈ C) : asc i C = [] := by
  unfold asc
  rw [List.map_eq_nil_iff, List.filter_eq_nil_iff]
  intro j hj
  simp [h j (List.mem_range.1 hj)]

theorem mem_asc {i : Nat} {C : List Int} {x : Int} : x ∈ asc i C ↔ ∃ j : Nat, j < i ∧ (j : Int) ∈ C ∧ x = (j : Int) := by
  unfold asc
  rw [List.mem_map]
  constructor
  · rintro ⟨j, hj, rfl⟩
    rw [List.mem_filter, List.mem_range] at hj
    exact ⟨j, hj.1, of_decide_eq_true hj.2, rfl⟩
  · rintro ⟨j, h1, h2, rfl⟩
    exact ⟨j, List.mem_filter.2 ⟨List.mem_range.2 h1, decide_eq_true h2⟩, rfl⟩

theorem asc_sorted (i : Nat) (C : List Int) : (asc i C).Pairwise (· < ·) := by
  unfold asc
  rw [List.pairwise_map]
  exact (List.Pairwise.imp (fun {a b} h => by omega) (List.Pairwise.filter _ (List.pairwise_lt_range (n := i))))

/-- Lists that rise and hold the same are the same. -/
theorem rise_eq : ∀ {l m : List Int}, l.Pairwise (· < ·) → m.Pairwise (· < ·) → (∀ x, x ∈ l ↔ x ∈ m) → l = m
  | [], [], _, _, _ => rfl
  | [], y :: _, _, _, h => by have := (h y).2 List.mem_cons_self; cases this
  | x :: _, [], _, _, h => by have := (h x).1 List.mem_cons_self; cases this
  | x :: l, y :: m, hl, hm, h => by
    obtain ⟨l1, l2⟩ := List.pairwise_cons.1 hl
    obtain ⟨m1, m2⟩ := List.pairwise_cons.1 hm
    have e : x = y := by
      rcases List.mem_cons.1 ((h x).1 List.mem_cons_self) with e | e
      · exact e
      · rcases List.mem_cons.1 ((h y).2 List.mem_cons_self) with e' | e'
        · exact e'.symm
        · have := m1 x e; have := l1 y e'; omega
    subst e
    rw [rise_eq l2 m2 (fun z => ?_)]
    constructor
    · intro hz
      rcases List.mem_cons.1 ((h z).1 (List.mem_cons_of_mem _ hz)) with e | e
      · have := l1 z hz; omega
      · exact e
    · intro hz
      rcases List.mem_cons.1 ((h z).2 (List.mem_cons_of_mem _ hz)) with e | e
      · have := m1 z hz; omega
      · exact e

theorem srt_rise {zs : List Int} (hn : zs.Nodup) : (srt zs).Pairwise (· < ·) := by
  have h1 : (srt zs).Pairwise (fun a b => decide (a ≤ b) = true) := List.pairwise_mergeSort (fun a b c h1 h2 => by simp at h1 h2 ⊢; omega) (fun a b => by simp; omega) zs
  have h2 : (srt zs).Nodup := ((List.mergeSort_perm zs _).nodup_iff).2 hn
  refine List.Pairwise.imp_of_mem (fun {a b} _ _ h => ?_) (h1.and h2)
  have := h.1
  have := h.2
  simp at *
  omega

/-- The lists that are laid so far. -/
def outTo (r : List Int) (i : Nat) : List (List Int) := (cycsTo r i).map (asc i)

theorem cyc_one {r : List Int} (hr : isRow r) {k : Nat} (hk : k ≤ r.length) {i j : Nat} {C D : List Int} {x : Int} (h1 : (cycsTo r k)[i]? = some C) (h2 : (cycsTo r k)[j]? = some D) (hx : x ∈ C) (hy : x ∈ D) : i = j := flat_one (cyc_nodup hr k hk) h1 h2 hx hy

theorem outTo_in {r : List Int} (hr : isRow r) {i k : Nat} {C : List Int} (hi : i < r.length) (hk : (cycsTo r i)[k]? = some C) (hC : (i : Int) ∈ C) : outTo r (i + 1) = (outTo r i).set k (asc i C ++ [(i : Int)]) := by
  have hm : (i : Int) ∈ (cycsTo r i).flatten := List.mem_flatten.2 ⟨C, List.mem_of_getElem? hk, hC⟩
  have hkl := (List.getElem?_eq_some_iff.1 hk).1
  unfold outTo
  rw [cycsTo_succ, if_pos hm]
  refine List.ext_getElem? (fun j => ?_)
  rw [List.getElem?_map, List.getElem?_set]
  by_cases e : k = j
  · subst e
    rw [if_pos rfl, if_pos (by rw [List.length_map]; exact hkl), hk]
    show some (asc (i + 1) C) = _
    rw [asc_in hC]
  · rw [if_neg e, List.getElem?_map]
    cases hj : (cycsTo r i)[j]? with
    | none => rfl
    | some D =>
      show some (asc (i + 1) D) = some (asc i D)
      rw [asc_out (fun h => e (cyc_one hr (by omega) hk hj hC h))]

theorem outTo_new {r : List Int} (hr : isRow r) {i : Nat} (hi : i < r.length) (hn : ¬ (i : Int) ∈ (cycsTo r i).flatten) : outTo r (i + 1) = outTo r i ++ [[(i : Int)]] := by
  unfold outTo
  rw [cycsTo_succ, if_neg hn, List.map_append]
  congr 1
  · refine List.map_congr_left (fun C hC => asc_out (fun h => hn (List.mem_flatten.2 ⟨C, hC, h⟩)))
  · have h1 : (i : Int) ∈ orb r i (per r i) := mem_orb.2 ⟨0, (per_spec hr hi).1, rfl⟩
    rw [List.map_singleton, asc_in h1, asc_none (fun j hj h => ?_)]
    · rfl
    · obtain ⟨m, _, e⟩ := mem_orb.1 h
      exact it_notin hr hi hn m (by rw [← e]; exact flat_all hr i (by omega) j hj)

theorem outTo_done {r : List Int} (hr : isRow r) : outTo r r.length = (cycsTo r r.length).map srt := by
  unfold outTo
  refine List.map_congr_left (fun C hC => ?_)
  have hnd : C.Nodup := by
    obtain ⟨y, hy, rfl⟩ := cyc_form hC
    unfold orb
    rw [List.Nodup, List.pairwise_map]
    refine List.Pairwise.imp_of_mem (fun {i j} hi hj h e => h ?_) List.nodup_range
    exact orb_inj hr hy (List.mem_range.1 hi) (List.mem_range.1 hj) (by omega)
  refine rise_eq (asc_sorted _ _) (srt_rise hnd) (fun x => ?_)
  rw [mem_asc, mem_srt]
  constructor
  · rintro ⟨j, _, h2, rfl⟩; exact h2
  · intro hx
    obtain ⟨y, hy, rfl⟩ := cyc_form hC
    obtain ⟨j, _, e⟩ := mem_orb.1 hx
    exact ⟨it r j y, it_lt hr hy j, by rw [← e]; exact hx, e⟩

/-- Which list a label has. -/
structure NumL (r : List Int) (f : Nat → Int) (i : Nat) (F : Int → Option Value) : Prop where
  seen : ∀ j, j < i → F (f j) = some (.int .i64 ((sof (cycsTo r i) j : Nat) : Int))
  new : ∀ l, (∀ j, j < i → f j ≠ l) → F l = none

theorem sof_at {r : List Int} (_ : isRow r) {i j : Nat} (_ : i ≤ r.length) (hj : (j : Int) ∈ (cycsTo r i).flatten) : ∃ C, (cycsTo r i)[sof (cycsTo r i) j]? = some C ∧ (j : Int) ∈ C := by
  obtain ⟨C, hC, hjC⟩ := List.mem_flatten.1 hj
  have hlt : sof (cycsTo r i) j < (cycsTo r i).length := List.findIdx_lt_length.2 ⟨C, hC, decide_eq_true hjC⟩
  have h9 := List.findIdx_getElem (p := fun S : List Int => decide ((j : Int) ∈ S)) (w := hlt)
  exact ⟨_, List.getElem?_eq_getElem hlt, of_decide_eq_true h9⟩

theorem sof_is {r : List Int} (hr : isRow r) {i j k : Nat} {C : List Int} (hi : i ≤ r.length) (hk : (cycsTo r i)[k]? = some C) (hj : (j : Int) ∈ C) : sof (cycsTo r i) j = k := by
  obtain ⟨D, h1, h2⟩ := sof_at hr hi (List.mem_flatten.2 ⟨C, List.mem_of_getElem? hk, hj⟩)
  exact cyc_one hr hi h1 hk h2 hj


theorem lab_iff {r : List Int} (hr : isRow r) {f : Nat → Int} (h : LabOk r.length (nx r) ((cycsTo r r.length).map srt) r.length f) {i : Nat} {C : List Int} (hi : i ≤ r.length) (hC : C ∈ cycsTo r i) {j x : Nat} (hx : x < r.length) (hjC : (j : Int) ∈ C) : f x = f j ↔ (x : Int) ∈ C := by
  have hS := sts_of hr
  obtain ⟨y, hy, rfl⟩ := cyc_form hC
  have hyl : y < r.length := by omega
  have fy : ∀ z : Nat, (z : Int) ∈ orb r y (per r y) → f z = f y := fun z hz => by
    obtain ⟨m, _, e⟩ := mem_orb.1 hz
    have e' : z = it r m y := by omega
    rw [e']
    exact h.steps hr rfl hyl m
  constructor
  · intro e
    obtain ⟨s, S, hs, hyS⟩ := hS.all y hyl
    have e1 := h.sound x y hx hyl (e.trans (fy j hjC))
    rw [hS.sof hs hyS] at e1
    obtain ⟨s2, S2, hs2, hxS⟩ := hS.all x hx
    rw [hS.sof hs2 hxS] at e1
    subst e1
    rw [hs] at hs2
    have e2 := Option.some.inj hs2
    subst e2
    rw [List.getElem?_map] at hs
    obtain ⟨D, hD, e3⟩ := Option.map_eq_some_iff.1 hs
    subst e3
    obtain ⟨z, hz, e4⟩ := cyc_form (List.mem_of_getElem? hD)
    have k1 := mem_srt.1 hyS
    have k2 := mem_srt.1 hxS
    rw [e4] at k1 k2
    obtain ⟨m1, hm1, q1⟩ := mem_orb.1 k1
    obtain ⟨m2, hm2, q2⟩ := mem_orb.1 k2
    have q1' : y = it r m1 z := by omega
    have q2' : x = it r m2 z := by omega
    obtain ⟨p1, p2, p3, p4⟩ := per_spec hr hz
    have hstep : it r (m2 + (per r z - m1)) y = x := by
      rw [q1', ← it_add, show m2 + (per r z - m1) + m1 = m2 + per r z by omega, it_add, p3, q2']
    have hall : ∀ k, ((it r k y : Nat) : Int) ∈ orb r y (per r y) := fun k => by
      induction k with
      | zero => exact mem_orb.2 ⟨0, (per_spec hr hyl).1, rfl⟩
      | succ k ih => exact orb_next hr hyl ih
    rw [← hstep]
    exact hall _
  · intro hxC
    rw [fy x hxC, fy j hjC]

theorem NumL.known {r : List Int} (hr : isRow r) {f : Nat → Int} (h : LabOk r.length (nx r) ((cycsTo r r.length).map srt) r.length f) {i : Nat} (hi : i < r.length) {F : Int → Option Value} (hN : NumL r f i F) (hin : (i : Int) ∈ (cycsTo r i).flatten) : F (f i) = some (.int .i64 ((sof (cycsTo r i) i : Nat) : Int)) ∧ NumL r f (i + 1) F := by
  obtain ⟨C, hC, hiC⟩ := sof_at hr (by omega) hin
  have hCm := List.mem_of_getElem? hC
  have hc : cycsTo r (i + 1) = cycsTo r i := by rw [cycsTo_succ, if_pos hin]
  obtain ⟨y, hy, e⟩ := cyc_form hCm
  have hyC : (y : Int) ∈ C := by rw [e]; exact mem_orb.2 ⟨0, (per_spec hr (by omega)).1, rfl⟩
  have hfy : f i = f y := ((lab_iff hr h (by omega) hCm hi hyC).2 hiC)
  have h1 : F (f i) = some (.int .i64 ((sof (cycsTo r i) i : Nat) : Int)) := by
    rw [hfy, hN.seen y hy, sof_is hr (by omega) hC hyC]
  refine ⟨h1, ⟨fun j hj => ?_, fun l hl => hN.new l (fun j hj => hl j (by omega))⟩⟩
  rw [hc]
  by_cases ej : j = i
  · rw [ej]; exact h1
  · exact hN.seen j (by omega)

theorem NumL.fresh {r : List Int} (hr : isRow r) {f : Nat → Int} (h : LabOk r.length (nx r) ((cycsTo r r.length).map srt) r.length f) {i : Nat} (hi : i < r.length) {F : Int → Option Value} (hN : NumL r f i F) (hn : ¬ (i : Int) ∈ (cycsTo r i).flatten) : F (f i) = none ∧ NumL r f (i + 1) (upd F (f i) (.int .i64 (((cycsTo r i).length : Nat) : Int))) := by
  have hc : cycsTo r (i + 1) = cycsTo r i ++ [orb r i (per r i)] := by rw [cycsTo_succ, if_neg hn]
  have hne : ∀ j, j < i → f j ≠ f i := fun j hj e => by
    obtain ⟨C, hC, hjC⟩ := sof_at hr (by omega) (flat_all hr i (by omega) j hj)
    have hCm := List.mem_of_getElem? hC
    exact hn (List.mem_flatten.2 ⟨C, hCm, (lab_iff hr h (by omega) hCm hi hjC).1 e.symm⟩)
  refine ⟨hN.new _ hne, ⟨fun j hj => ?_, fun l hl => ?_⟩⟩
  · unfold upd
    by_cases ej : j = i
    · subst ej
      rw [if_pos rfl]
      have h9 := sof_is hr (i := j + 1) (j := j) (k := (cycsTo r j).length) (C := orb r j (per r j)) (by omega) (by rw [hc, List.getElem?_append_right (Nat.le_refl _), Nat.sub_self]; rfl) (mem_orb.2 ⟨0, (per_spec hr hi).1, rfl⟩)
      rw [h9]
    · rw [if_neg (hne j (by omega)), hN.seen j (by omega)]
      obtain ⟨C, hC, hjC⟩ := sof_at hr (by omega) (flat_all hr i (by omega) j (by omega))
      have h9 := sof_is hr (i := i + 1) (j := j) (k := sof (cycsTo r i) j) (C := C) (by omega) (by rw [hc, List.getElem?_append_left (List.getElem?_eq_some_iff.1 hC).1]; exact hC) hjC
      rw [h9]
  · unfold upd
    rw [if_neg (fun e => hl i (by omega) e.symm)]
    exact hN.new l (fun j hj => hl j (by omega))

end Go.Proofs.Ytimfoggjocajiaa

/- Contract: the answer's Qsets. -/
namespace Go.Proofs.Ytimfoggjocajiaa
open Go.RowKit

/-- Where each row is, so far. -/
def PlTo (n : Nat) (X : List Pm) (i : Nat) (F : Int → Option Value) : Prop := ∀ (j : Nat) (p : Pm), j < i → X[j]? = some p → F ((rkP n p : Nat) : Int) = some (.int .i64 (j : Int))

theorem PlTo.step {n : Nat} {G : Pm → Prop} {X : List Pm} (hR : Rws n G X) {i : Nat} {p : Pm} {F : Int → Option Value} (h : PlTo n X i F) (hp : X[i]? = some p) : PlTo n X (i + 1) (upd F ((rkP n p : Nat) : Int) (.int .i64 (i : Int))) := by
  intro j q hj hq
  unfold upd
  by_cases e : j = i
  · subst e
    rw [hp] at hq
    rw [← Option.some.inj hq, if_pos rfl]
  · rw [if_neg (fun e' => ?_)]
    · exact h j q (by omega) hq
    · have hpq : q = p := rkP_inj hR.twelve (hR.fix q ((hR.mem q).1 (List.mem_of_getElem? hq))) (hR.fix p ((hR.mem p).1 (List.mem_of_getElem? hp))) (by omega)
      rw [hpq] at hq
      exact e (get_inj hR.nodup hq hp)

/-- The first two loops' memory: labels and where each row is. -/
structure QR (w wr : World) (N M cnt : Nat) (zs : List Int) (F : Int → Option Value) : Prop where
  row : wr.ownsRow w.heap.size 3 1 (.slice (some ⟨w.heap.size, 0, none⟩) N N) N (zs.map (Value.int .i64))
  map : IMap wr M cnt F
  ne : M ≠ w.heap.size
  ge : w.heap.size ≤ M
  below : Below w.heap.size w wr

theorem QR.later {w wr w' : World} {N M cnt : Nat} {zs : List Int} {F : Int → Option Value} (h : QR w wr N M cnt zs F) (hb : Below wr.heap.size wr w') : QR w w' N M cnt zs F :=
  ⟨owns_below h.row hb (Nat.le_refl _), h.map.below hb h.map.lt, h.ne, h.ge, h.below.trans (hb.mono h.below.size)⟩

theorem QR.set {w wr : World} {N M cnt : Nat} {zs : List Int} {F : Int → Option Value} (h : QR w wr N M cnt zs F) (m : Nat) (x : Int) : QR w (wr.setCell ⟨w.heap.size, m, none⟩ (.int .i64 x)) N M cnt (zs.set m x) F :=
  ⟨owns_set_int h.row x, h.map.of_block (Below.heap_setCell _ _ _ _ h.ne), h.ne, h.ge, h.below.setCell (Nat.le_refl _) _⟩

theorem QR.put {w wr w' : World} {N M cnt : Nat} {zs : List Int} {F F' : Int → Option Value} (h : QR w wr N M cnt zs F) (hm : IMap w' M (cnt + 1) F') (hg : wr.grownBy w' (some M)) : QR w w' N M (cnt + 1) zs F' :=
  ⟨owns_map_kept h.row h.map hg, hm, h.ne, h.ge, h.below.grown hg h.below.size (fun k hk => by have := Option.some.inj hk; have := h.ge; omega)⟩

theorem QR.len {w wr : World} {N M cnt : Nat} {zs : List Int} {F : Int → Option Value} (h : QR w wr N M cnt zs F) : zs.length = N := by
  have h9 := h.row.1
  rw [List.length_map] at h9
  omega

/-- One list of lists grows in its place. -/
theorem LL.grow_at {w w2 w' : World} {B g cap k : Nat} {u u' : Value} {vs : List Value} {A : List (List Int)} {X : List Int} {N : Nat} {o : Obj} (h : LL w B (.slice (some ⟨g, 0, none⟩) N cap) vs A) (hap : vs.Pairwise Apt) (hk : k < A.length) (hu : vs.getD k undef = u) (hw2 : w2 = w.alloc o)
    (hown : w'.ownsRow B 3 1 u' X.length (X.map (Value.int .i64))) (hg : w2.grownBy w' u.ownBlock) (hp : u'.ownBlock = u.ownBlock ∨ (u'.ownBlock = some w2.heap.size ∧ w2.grownBy w' none)) :
    LL (w'.setCell ⟨g, k, none⟩ u') B (.slice (some ⟨g, 0, none⟩) N cap) (vs.set k u') (A.set k X) ∧ (vs.set k u').Pairwise Apt := by
  subst hw2
  subst hu
  have hl := h.len
  have hN : N = vs.length := by
    rcases h.row.2 with ⟨h0, _⟩ | ⟨g', cap', cur, hv, _⟩
    · cases h0
    · injection hv
  subst hN
  have hat := h.at hk
  have hbl : ∀ x, x < w.heap.size → some x ≠ (vs.getD k undef).ownBlock → w'.heap[x]? = w.heap[x]? := fun x hx hne => (hg.block x (by simp; omega) hne).trans (Below.heap_alloc w o x hx)
  have hgne : ∀ x, (vs.getD k undef).ownBlock = some x → x ≠ g := fun x hx e => owns_ty hat h.row (by decide) x hx (by rw [e]; rfl)
  have hrow' : w'.ownsRow B 23 1 (.slice (some ⟨g, 0, none⟩) vs.length cap) vs.length vs := owns_of_block h.row (fun x hx => hbl x (h.row.lt x hx).2 (fun e => owns_ty hat h.row (by decide) x e.symm hx))
  have hune : u'.ownBlock ≠ some g := fun e => by
    rcases hp with hp | ⟨hp, _⟩
    · exact hgne g (by rw [← hp]; exact e) rfl
    · rw [hp] at e
      have h9 := (h.row.lt g rfl).2
      have := Option.some.inj e
      simp at this
      omega
  refine ⟨⟨?_, ownAll_of (by rw [List.length_set, List.length_set, hl]) (fun i hi => ?_)⟩, ?_⟩
  · rw [List.length_set]; exact owns_set hrow' u'
  · rw [List.length_set] at hi
    by_cases e : i = k
    · subst e
      rw [show (vs.set i u').getD i undef = u' by rw [List.getD, List.getElem?_set, if_pos rfl, if_pos hi]; rfl, show (A.set i X).getD i [] = X by rw [List.getD, List.getElem?_set, if_pos rfl, if_pos hk]; rfl]
      exact owns_of_block hown (fun x hx => Below.heap_setCell _ _ _ _ (fun e' => hune (by rw [hx]; exact congrArg some e')))
    · have hia : i < A.length := by omega
      rw [show (vs.set k u').getD i undef = vs.getD i undef by rw [List.getD, List.getD, List.getElem?_set, if_neg (fun h => e h.symm)], show (A.set k X).getD i [] = A.getD i [] by rw [List.getD, List.getD, List.getElem?_set, if_neg (fun h => e h.symm)]]
      have hai := h.at hia
      refine owns_of_block hai (fun x hx => ?_)
      have h1 : x ≠ g := fun e' => owns_ty hai h.row (by decide) x hx (by rw [e']; rfl)
      rw [Below.heap_setCell _ _ _ _ h1]
      exact hbl x (hai.lt x hx).2 (fun e' => pairwise_getD hap (by omega) (by omega) e x hx e'.symm)
  · rw [List.pairwise_iff_getElem]
    intro i j hi hj hij
    have hi' : i < vs.length := by rw [List.length_set] at hi; exact hi
    have hj' : j < vs.length := by rw [List.length_set] at hj; exact hj
    have key : ∀ y, y < vs.length → y ≠ k → Apt (vs.getD y undef) u' := fun y hy hne x h1 h2 => by
      have hay := h.at (k := y) (by omega)
      rcases hp with hp | ⟨hp, _⟩
      · rw [hp] at h2
        exact pairwise_getD hap hy (by omega) hne x h1 h2
      · rw [hp] at h2
        have h9 := (hay.lt x h1).2
        have := Option.some.inj h2
        simp at this
        omega
    have get : ∀ y (hy : y < vs.length), y ≠ k → (vs.set k u')[y]'(by rw [List.length_set]; exact hy) = vs.getD y undef := fun y hy hne => by
      rw [List.getElem_set_ne (fun e => hne e.symm), List.getD, List.getElem?_eq_getElem hy]
      rfl
    by_cases ei : i = k
    · subst ei
      rw [List.getElem_set_self, get j hj' (by omega)]
      exact (key j hj' (by omega)).symm
    · by_cases ej : j = k
      · subst ej
        rw [List.getElem_set_self, get i hi' ei]
        exact key i hi' ei
      · rw [get i hi' ei, get j hj' ej]
        exact pairwise_getD hap hi' hj' (by omega)

end Go.Proofs.Ytimfoggjocajiaa
