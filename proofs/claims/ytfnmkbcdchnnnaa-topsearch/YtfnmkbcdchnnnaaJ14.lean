/- Joined: SaR. -/
import Derived.Test.YtfnmkbcdchnnnaaJ13
import Derived.BigQuiet
/- The law TopSearch. -/
namespace Go.Proofs.Ytfnmkbcdchnnnaa
open Go.RowKit
set_option maxRecDepth 100000
set_option linter.unusedVariables false

def triedS : ByteArray := ⟨#[84, 114, 105, 101, 100]⟩

set_option maxHeartbeats 400000 in
theorem topSearch_long (v : Value) (xs : List Int) (a1 a2 a3 a4 a5 : Int) (v2 : Value) (gs : List Int) (w : World) (hi : Ints w v xs) (hi2 : Ints w v2 gs) (hl : 256 < xs.length + gs.length) (hs1 : xs.length ≤ 17592186044416) (hs2 : gs.length ≤ 17592186044416) :
    Calls Try.prog 5 #[v, .int .i64 a1, .int .i64 a2, .int .i64 a3, .int .i64 a4, .int .i64 a5, v2] w fun e w' => e = .returned (.bool true) ∧ Below w.heap.size w w' := by
  obtain ⟨p, c, rfl⟩ := hi.form
  obtain ⟨p2, c2, rfl⟩ := hi2.form
  clear hi hi2
  generalize xs.length = a at *
  generalize gs.length = b at *
  have h9 : (256 : Int) < (a : Int) + (b : Int) := by omega
  go_enter Try.func5, Try.ntmps5
  go_wp2
  go_ret
  exact ⟨rfl, Below.refl _ _⟩

/-- The first search, of plain hunt. -/
theorem hunt_search (u : Value) (cv : Value) (w : World) (hu : IntsAll w u (huntT.map tpl)) (hcv : CallsAt w cv (ceCalls [⟨112, .slice none 0 0, []⟩])) (hC : Cok 4 w 0 [⟨112, .slice none 0 0, []⟩]) :
    Calls Try.prog 18 #[meth huntS 4 u, cv, .int .i64 4, .int .i64 9] w (TouchPost [[0, 0, 0, 0]] w) := by
  obtain ⟨up, uc, rfl⟩ := hu.len
  have hcok := hC.callsOk (K := huntT.length) (by decide) (by decide)
  have := touches_by huntS 4 up uc huntT cv (ceCalls [⟨112, .slice none 0 0, []⟩]) [[]] 4 9 w (by decide) hunt_name (by decide) (by decide) (by decide) (by decide) hunt_tsz hu hcv hcok (by decide) (by decide)
    (fun c hc => by
      have h0 : c = 0 := by simp [ceCalls] at hc; omega
      subst h0
      exact ⟨rfl, (fun t ht => by cases ht), by decide⟩) (by decide) (by decide) (by decide) (by decide)
  have e1 : (ceCalls [⟨112, .slice none 0 0, []⟩]).length = 1 := rfl
  rw [e1, hunt_sols rfl] at this
  exact this

theorem set5 {w : World} {B : Nat} {a b c d e : Value} {t : TypeId} (h : w.heap[B]? = some (.cells #[a, b, c, d, e] t)) (a' b' c' d' e' : Value) : (((((w.setCell ⟨B, 0, none⟩ a').setCell ⟨B, 1, none⟩ b').setCell ⟨B, 2, none⟩ c').setCell ⟨B, 3, none⟩ d').setCell ⟨B, 4, none⟩ e').heap[B]? = some (.cells #[a', b', c', d', e'] t) := by
  simp [World.setCell, Array.getElem?_modify, h]

theorem rrun_store {w : World} {B : Nat} {a b c d e : Value} (h : w.heap[B]? = some (.cells #[a, b, c, d, e] 49)) (L i j : Int) : (Instr.storeAt 49 (.pointer (some ⟨B, 0, none⟩)) (.agg #[.int .i64 L, .bool true, .bool true, .int .i64 i, .int .i64 j])).run Try.prog w = .ok () (((((w.setCell ⟨B, 0, none⟩ (.int .i64 L)).setCell ⟨B, 1, none⟩ (.bool true)).setCell ⟨B, 2, none⟩ (.bool true)).setCell ⟨B, 3, none⟩ (.int .i64 i)).setCell ⟨B, 4, none⟩ (.int .i64 j)) := by
  obtain ⟨z0, z1, z2, z3, z4, e0, e1, e2, e3, e4⟩ := cells5 h
  simp [go_sem, z0, z1, z2, z3, z4, e0, e1, e2, e3, e4]

theorem rstep_store {ops : Array Oper} {o : Oper} {a : Act} {w : World} {K : Act → World → Prop} {Q : Exit → Act → World → Prop} {E : Prop} (hg : o.guard = none) (p x : Operand) (hop : o.op = Op.store 49 p x) (B : Nat) (L i j : Int) (hp : a.eval p = .pointer (some ⟨B, 0, none⟩)) (hx : a.eval x = .agg #[.int .i64 L, .bool true, .bool true, .int .i64 i, .int .i64 j]) {a0 b0 c0 d0 e0 : Value} (h : w.heap[B]? = some (.cells #[a0, b0, c0, d0, e0] 49))
    (hK : K (a.put o.dst undef) (((((w.setCell ⟨B, 0, none⟩ (.int .i64 L)).setCell ⟨B, 1, none⟩ (.bool true)).setCell ⟨B, 2, none⟩ (.bool true)).setCell ⟨B, 3, none⟩ (.int .i64 i)).setCell ⟨B, 4, none⟩ (.int .i64 j))) : if Region.wanted o (yielded ops a.tmps) = true then Oper.wp Try.prog o a w K Q else E :=
  step_skip hg (by unfold execOp; simp only [hop, hp, hx, rrun_store h L i j, Sem.run_bind, Sem.run_pure, Result.andThen_ok]) hK

theorem mem_take_dec {F : List (List Nat)} {k : Nat} (h : k < F.length) (g : List Nat) : decide (g ∈ F.take (k + 1)) = (decide (g ∈ F.take k) || decide (nI (F.getD k []) = nI g)) := by
  have hinj : nI (F.getD k []) = nI g ↔ F.getD k [] = g := by
    constructor
    · intro e
      have := congrArg (List.map Int.toNat) e
      unfold nI at this
      rw [List.map_map, List.map_map] at this
      have hid : (Int.toNat ∘ fun (k : Nat) => (k : Int)) = id := by funext c; simp
      rw [hid, List.map_id, List.map_id] at this
      exact this
    · intro e; rw [e]
  rw [List.take_succ_eq_append_getElem h, Bool.eq_iff_iff, Bool.or_eq_true, decide_eq_true_iff, decide_eq_true_iff, decide_eq_true_iff, List.mem_append, hinj]
  have e9 : F.getD k [] = F[k] := by simp [List.getD, h]
  rw [e9]
  simp [eq_comm]

set_option maxHeartbeats 8000000 in
theorem topSearch_short (v : Value) (xs : List Int) (a1 a2 a3 a4 a5 : Int) (v2 : Value) (gs : List Int) (w : World) (hin : Ints w v xs) (hx : ∀ x, x ∈ xs → I64 x) (hin2 : Ints w v2 gs) (hx2 : ∀ x, x ∈ gs → I64 x) (hl : xs.length + gs.length ≤ 256) (h1 : I64 a1) (h2 : I64 a2) (h3 : I64 a3) (h4 : I64 a4) (h5 : I64 a5) :
    Calls Try.prog 5 #[v, .int .i64 a1, .int .i64 a2, .int .i64 a3, .int .i64 a4, .int .i64 a5, v2] w fun e w' => e = .returned (.bool true) ∧ Below w.heap.size w w' := by
  obtain ⟨p0, c0, rfl⟩ := hin.form
  obtain ⟨p6, c6, rfl⟩ := hin2.form
  have HI := hide hin
  have HX := hide hx
  have HI2 := hide hin2
  have HX2 := hide hx2
  obtain ⟨l1, u1⟩ := h1
  obtain ⟨l2, u2⟩ := h2
  obtain ⟨l3, u3⟩ := h3
  obtain ⟨l4, u4⟩ := h4
  obtain ⟨l5, u5⟩ := h5
  clear hin hx hin2 hx2
  have hl' : ¬ (256 : Int) < (xs.length : Int) + (gs.length : Int) := by omega
  go_enter Try.func5, Try.ntmps5
  go_wp2_with fail
  refine (hunt_ok w).mono ?_
  rintro e wh ⟨hu, rfl, hui, hbh⟩
  have HUI := hide hui
  obtain ⟨hup, huc, hue⟩ := hui.len
  unfold meth
  clear hui
  go_wp2_with fail
  refine (callsOf_one 4 wh).mono ?_
  rintro e wc ⟨cu, rfl, hco, hck, hbc⟩
  have hcA := hck.calls (by exact hco) (by decide)
  have HTH := hide (hunt_search hu cu wc (HUI.out.below hbc) hcA ⟨fun e he => by obtain ⟨vs, h9⟩ := hck.ll e he; exact ⟨vs, h9.low (Nat.zero_le _)⟩, hck.sign, hck.few, hck.ok⟩)
  have hBc : Below w.heap.size w wc := hbh.trans (hbc.mono hbh.size)
  unfold meth at HTH
  clear hck hco HUI hbc hbh
  obtain ⟨cb, co, ccp, hcue, _⟩ := hcA
  subst hcue
  subst hue
  go_wp2_with fail
  refine HTH.out.mono ?_
  rintro e wt ⟨hbt, tb, fv, fvs, rfl, _, hfl⟩
  have hia := hfl.ints
  obtain ⟨fb, fo, fcp, rfl, hfb, hfl1, hfl2, hfcell⟩ := hia.cell (by decide)
  obtain ⟨q0, qc0, hq0, _⟩ := hfcell 0 (by decide)
  have hq0' : wt.cell? ⟨fb, fo, none⟩ = some (.slice q0 4 qc0) := hq0
  have hB0 := hBc.trans (hbt.mono hBc.size)
  have hfl1' : 1 ≤ fcp := hfl1
  clear hfcell hq0 hfl hia HTH hbt hBc hfl1
  have HI0 := hide (HI.out.below hB0)
  have HI20 := hide (HI2.out.below hB0)
  rw [show ([[0, 0, 0, 0]].map nI).length = 1 from rfl]
  clear HI HI2
  go_wp2_with fail
  refine (pick_any _ _ _ l1 u1 (by omega) (by omega)).mono ?_
  rintro e wa ⟨q, hq0, hq1, rfl, rfl⟩
  obtain ⟨m0, rfl⟩ := Int.eq_ofNat_of_zero_le hq0
  go_wp2_with fail
  refine (pick_any _ _ _ l3 u3 (by omega) (by omega)).mono ?_
  rintro e wa ⟨q, hq2, hq3, rfl, rfl⟩
  obtain ⟨m1, rfl⟩ := Int.eq_ofNat_of_zero_le hq2
  go_wp2_with fail
  refine (pick_any _ _ _ l4 u4 (by omega) (by omega)).mono ?_
  rintro e wa ⟨q, hq4, hq5, rfl, rfl⟩
  obtain ⟨m3, rfl⟩ := Int.eq_ofNat_of_zero_le hq4
  go_wp2_with fail
  refine (pick_any _ _ _ l5 u5 (by omega) (by omega)).mono ?_
  rintro e wa ⟨q, hq6, hq7, rfl, rfl⟩
  obtain ⟨m4, rfl⟩ := Int.eq_ofNat_of_zero_le hq6
  go_wp2_with fail
  refine (pick_any _ _ _ l2 u2 (by omega) (by omega)).mono ?_
  rintro e wa ⟨q, hq8, hq9, rfl, rfl⟩
  obtain ⟨m2, rfl⟩ := Int.eq_ofNat_of_zero_le hq8
  go_wp2_with fail
  rw [show (2 + (m0 : Int)) = ((m0 + 2 : Nat) : Int) from by omega, show (1 + (m1 : Int)) = ((m1 + 1 : Nat) : Int) from by omega, show (1 + (m2 : Int)) = ((m2 + 1 : Nat) : Int) from by omega, show (1 + (m3 : Int)) = ((m3 + 1 : Nat) : Int) from by omega, show (1 + (m4 : Int)) = ((m4 + 1 : Nat) : Int) from by omega]
  generalize hn : m0 + 2 = n
  generalize hC : m1 + 1 = C
  generalize hM : m2 + 1 = M
  generalize hN : m3 + 1 = N
  generalize hY : m4 + 1 = Y
  have n1 : 2 ≤ n := by omega
  have n2 : n ≤ 5 := by omega
  have C1 : 1 ≤ C := by omega
  have C2 : C ≤ 3 := by omega
  have M1 : 1 ≤ M := by omega
  have M2 : M ≤ 8 := by omega
  have N1 : 1 ≤ N := by omega
  have N2 : N ≤ 6 := by omega
  have Y1 : 1 ≤ Y := by omega
  have Y2 : Y ≤ 50 := by omega
  clear hn hM hC hN hY hq0 hq1 hq2 hq3 hq4 hq5 hq6 hq7 hq8 hq9 l1 u1 l2 u2 l3 u3 l4 u4 l5 u5
  refine (methodOf_ok _ xs n M _ HI0.out HX.out (by omega) (by omega) (by omega)).mono ?_
  rintro e w3 ⟨u, vs, ts, rfl, hlen, hts, hLL, hb3⟩
  have hbA : Below wt.heap.size wt (w3.alloc (.cells #[.string triedS, .int .i64 (n : Int), u] 41)) := hb3.alloc hb3.size _
  have hx1 := (Box.start w3 triedS n u 41)
  have hia : IntsAll (w3.alloc (.cells #[.string triedS, .int .i64 (n : Int), u] 41)) u (ts.map tpl) := hLL.ints.below ((Below.refl _ _).alloc (Nat.le_refl _) _)
  obtain ⟨up, uc, hue⟩ := hLL.ints.len
  rw [List.length_map] at hue
  subst hue
  subst hlen
  have HV := hide hia
  have HTS := hide hts
  have HX1 := hide hx1
  clear hts hLL hia hx1 hb3
  go_wp2_with fail
  change Calls _ _ _ (w3.alloc (.cells #[.string triedS, .int .i64 (n : Int), .slice up ts.length uc] 41)) _
  generalize (w3.alloc (.cells #[.string triedS, .int .i64 (n : Int), .slice up ts.length uc] 41)) = wA at *
  refine (callsOf_ok _ xs n C wA (HI0.out.below hbA) HX.out (by omega) (by omega) C1 (by omega)).mono ?_
  rintro e w4 ⟨cv, es, rfl, hel, hO4, hC4, hb4⟩
  have hB4 : Below wt.heap.size wt w4 := hbA.trans (hb4.mono hbA.size)
  have hCA := hC4.calls (by rw [hel]; exact hO4) (by omega)
  have hCK := hC4.callsOk (K := ts.length) (by omega) M1
  obtain ⟨SS, hSS⟩ := hC4.tiles
  have hcl : (ceCalls es).length = C := by rw [← hel]; simp [ceCalls]
  rw [hel, ← hcl] at hSS
  have HX4 := hide (HX1.out.below hb4)
  have HV4 := hide (HV.out.below hb4)
  have HCA := hide hCA
  have HCK := hide hCK
  have HSS := hide hSS
  clear hCA hCK hSS hC4 hO4 HX1 HV hel hbA hb4
  generalize ceCalls es = cs at *
  subst hcl
  have HTOU := hide (touches_by triedS n up uc ts cv cs SS N Y w4 (by decide) tried_name n1 (by omega) M1 (by omega) HTS.out HV4.out HCA.out HCK.out C1 (by omega) HSS.out N1 N2 Y1 Y2)
  have HPRV : Hid (∀ (W : World) (lv : Value) (t : List Nat), Below w4.heap.size w4 W → Ints W lv (nI t) → t.length = N → (∀ c, c ∈ t → c < cs.length) → Calls Try.prog 24 #[meth triedS n (.slice up ts.length uc), cv, lv] W fun e w' => ∃ (r q : Bool) (i j : Int), e = .returned (.tuple #[.agg #[.int .i64 ((t.length * ts.length : Nat) : Int), .bool r, .bool q, .int .i64 i, .int .i64 j], .int .i64 0]) ∧ ((q = true ∧ r = true) ↔ (tRows (gOf n ts SS cs.length) 1 t).Nodup ∧ tEnd (gOf n ts SS cs.length) 1 t = 1) ∧ Below W.heap.size W w') :=
    fun W lv t hW hI ht hin => prove_by triedS n up uc ts cv cs SS lv t W (by decide) tried_name n1 (by omega) M1 (by omega) HTS.out (HV4.out.below hW) (HCA.out.below hW) HCK.out C1 (by omega) HSS.out hI (by omega) (by omega) hin
  have HGl := hide (gOf_length n ts SS cs.length)
  have hx4 := HX4.out
  have g0 := hx4.c0
  have g1 := hx4.c1
  have g2 := hx4.c2
  obtain ⟨cb2, co2, cc2, hce2, _⟩ := HCA.out
  subst hce2
  unfold meth at HTOU HPRV
  clear HTS HSS HCK HV4 hx4 HCA
  generalize hG : gOf n ts SS cs.length = G at *
  generalize hcsl : cs.length = C at *
  generalize hK : ts.length = K at *
  clear hG hcsl hK
  go_wp2_with fail
  refine HTOU.out.mono ?_
  rintro e w5 ⟨hb5, base5, fv5, vs5, rfl, hbase5, hL5⟩
  have HFS := hide (sols_sorted G N [] 1)
  have HFI := hide (fun t => found_iff G N t)
  have hB5 : Below wt.heap.size wt w5 := hB4.trans (hb5.mono hB4.size)
  generalize hA : sols G N [] 1 = A at *
  have HIA := hide hL5.ints
  obtain ⟨fp5, fc5, rfl⟩ := HIA.out.len
  have hFl : ((A.take Y).map nI).length = (A.take Y).length := List.length_map _
  have hFY : (A.take Y).length ≤ Y := by rw [List.length_take]; omega
  rw [hFl]
  have HX5 := hide (HX4.out.below hb5)
  have HP5 : Hid (∀ (W : World) (lv : Value) (t : List Nat), Below w5.heap.size w5 W → Ints W lv (nI t) → t.length = N → (∀ c, c ∈ t → c < C) → Calls Try.prog 24 #[.agg #[.string triedS, .int .i64 n, .slice up K uc], .slice (some ⟨cb2, co2, none⟩) C cc2, lv] W fun e w' => ∃ (r q : Bool) (i j : Int), e = .returned (.tuple #[.agg #[.int .i64 ((t.length * K : Nat) : Int), .bool r, .bool q, .int .i64 i, .int .i64 j], .int .i64 0]) ∧ ((q = true ∧ r = true) ↔ (tRows G 1 t).Nodup ∧ tEnd G 1 t = 1) ∧ Below W.heap.size W w') := fun W lv t hW => HPRV.out W lv t (hb5.trans (hW.mono hb5.size))
  clear hL5 HX4 HPRV HTOU hb5 hbase5
  generalize hFF : A.take Y = F at *
  have hYi : ¬ ((Y : Int) < (F.length : Int)) := by omega
  go_wp2_with fail
  refine (leadsOf_ok _ gs N C w5 (HI20.out.below hB5) HX2.out (by omega) C1 (by omega)).mono ?_
  rintro e w6 ⟨lv, ls, rfl, hO6, hin6, hb6⟩
  obtain ⟨g, hg⟩ : ∃ g : List Nat, nI g = ls := ⟨ls.map Int.toNat, by
    unfold nI
    rw [List.map_map]
    conv => rhs; rw [← List.map_id ls]
    refine List.map_congr_left (fun x hx => ?_)
    have := (hin6 x hx).1
    show ((x.toNat : Nat) : Int) = x
    omega⟩
  subst hg
  have hgl : g.length = N := by have := hO6.1; simpa [nI] using this
  have hgC : ∀ c, c ∈ g → c < C := fun c hc => by
    have := (hin6 (c : Int) (by unfold nI; exact List.mem_map.2 ⟨c, hc, rfl⟩)).2
    omega
  have HG6 := hide (Ints.own hO6)
  obtain ⟨lp, lc, rfl⟩ := owns_slice hO6
  have hB6 : Below wt.heap.size wt w6 := hB5.trans (hb6.mono hB5.size)
  have hFsub : ∀ t, t ∈ F → t.length = N ∧ (∀ c, c ∈ t → c < C) ∧ (tRows G 1 t).Nodup ∧ tEnd G 1 t = 1 := fun t ht => by
    have h9 := (HFI.out t).1 (by rw [← hFF] at ht; exact List.mem_of_mem_take ht)
    rw [HGl.out] at h9
    exact h9
  have hFs : F.Pairwise Ltl := by rw [← hFF]; exact HFS.out.sublist (List.take_sublist _ _)
  have HFsub := hide hFsub
  have HFs := hide hFs
  have HG := hide hgC
  have HGL := hide hgl
  have HEND : Hid (((tRows G 1 g).Nodup ∧ tEnd G 1 g = 1) → g ∉ F → F.length = Y ∧ Ltl (F.getD (Y - 1) []) g) := fun h9 hno => by
    have hin : g ∈ A := (HFI.out g).2 ⟨hgl, by rw [HGl.out]; exact hgC, h9⟩
    rw [← hFF] at hno ⊢
    exact behind HFS.out hin Y1 hno
  have HX6 := hide (HX5.out.below hb6)
  have HIA6 := hide (HIA.out.below hb6)
  have HP6 : Hid (∀ (W : World) (lv : Value) (t : List Nat), Below w6.heap.size w6 W → Ints W lv (nI t) → t.length = N → (∀ c, c ∈ t → c < C) → Calls Try.prog 24 #[.agg #[.string triedS, .int .i64 n, .slice up K uc], .slice (some ⟨cb2, co2, none⟩) C cc2, lv] W fun e w' => ∃ (r q : Bool) (i j : Int), e = .returned (.tuple #[.agg #[.int .i64 ((t.length * K : Nat) : Int), .bool r, .bool q, .int .i64 i, .int .i64 j], .int .i64 0]) ∧ ((q = true ∧ r = true) ↔ (tRows G 1 t).Nodup ∧ tEnd G 1 t = 1) ∧ Below W.heap.size W w') := fun W lv t hW => HP5.out W lv t (hb6.trans (hW.mono hb6.size))
  clear hFsub hFs hgC hgl HX5 HIA HP5 hb6 hB5 hO6 hin6 HFI HFS hA hFF HGl HI20 HI0 HX HX2
  generalize hwm : w3.heap.size = wm at *
  generalize hFln : F.length = Fl at *
  go_wp2
  go_loopw [23, 24] (fun am i wr => ∃ (k : Nat), k ≤ Fl ∧ i = .int .i64 k ∧ am = .bool (decide (g ∈ F.take k)) ∧ Below w6.heap.size w6 wr) (fun _ i _ => Fl - (intOf i).toNat)
  case atStart => exact ⟨0, by omega, rfl, by simp, Below.refl _ _⟩
  case round =>
    obtain ⟨k, hk, rfl, rfl, hbw⟩ := hrel
    have hxw := HX6.out.below hbw
    have x0 := hxw.c0
    have x1 := hxw.c1
    have x2 := hxw.c2
    by_cases hlt : k < Fl
    · have hkF : k < F.length := by omega
      have hmem : F.getD k [] ∈ F := by rw [List.getD, List.getElem?_eq_getElem hkF]; exact List.getElem_mem hkF
      obtain ⟨t1, t2, t3, t4⟩ := HFsub.out _ hmem
      obtain ⟨fb, fo, fcp, he, hfb, hfl1, hfl2, hfcell⟩ := HIA6.out.cell (by rw [hFl]; omega)
      rw [hFl] at he hfl1
      simp only [Value.slice.injEq] at he
      obtain ⟨rfl, _, rfl⟩ := he
      have hnk : ∀ j, j < F.length → (F.map nI).getD j [] = nI (F.getD j []) := fun j hj => by simp [List.getD, hj, nI]
      obtain ⟨q, cc, hq, hqi⟩ := hfcell k (by rw [hFl]; omega)
      rw [hnk k hkF, show (nI (F.getD k [])).length = N from by simp [nI]; exact t1] at hq hqi
      have gq : wr.cell? ⟨fb, fo + k, none⟩ = some (.slice q N cc) := (hbw.cell (p := ⟨fb, fo + k, none⟩) hfb).trans hq
      have HPK : Hid (∀ W, Below wr.heap.size wr W → Calls Try.prog 24 #[.agg #[.string triedS, .int .i64 n, .slice up K uc], .slice (some ⟨cb2, co2, none⟩) C cc2, .slice q N cc] W fun e w' => ∃ (L i j : Int), e = .returned (.tuple #[.agg #[.int .i64 L, .bool true, .bool true, .int .i64 i, .int .i64 j], .int .i64 0]) ∧ Below W.heap.size W w') := fun W hW => by
        have hW6 := hbw.trans (hW.mono hbw.size)
        refine (HP6.out W _ (F.getD k []) hW6 (hqi.out.below hW6) t1 t2).mono ?_
        rintro e w' ⟨r, q, i, j, rfl, hrq, hb⟩
        obtain ⟨rfl, rfl⟩ := hrq.2 ⟨t3, t4⟩
        exact ⟨_, _, _, rfl, hb⟩
      clear t2 t3 t4
      go_upto_region 20 with fail
      refine wp_region_held_drew (S := fun W' => W'.cell? ⟨wm, 0, none⟩ = some (.string triedS) ∧ W'.cell? ⟨wm, 1, none⟩ = some (.int .i64 n) ∧ W'.cell? ⟨wm, 2, none⟩ = some (.slice up K uc) ∧ W'.cell? ⟨fb, fo + k, none⟩ = some (.slice q N cc)) (by kernel_rfl) ⟨x0, x1, x2, gq⟩ (fun hS => ?_)
      refine wpAnyH_take (i := 0) (v := .agg #[.string triedS, .int .i64 n, .slice up K uc]) rfl (by kernel_rfl) (by kernel_rfl) (by kernel_rfl) (fun _ _ _ h => h) (Or.inl ⟨by kernel_rfl, fun w' hS' => by obtain ⟨q0, q1, q2, q3⟩ := hS'; go_simp⟩) hS ?_
      refine wpAnyH_take (i := 1) (v := .slice (some ⟨cb2, co2, none⟩) C cc2) rfl (by kernel_rfl) (by kernel_rfl) (by kernel_rfl) (fun _ _ _ h => h) (Or.inl ⟨by kernel_rfl, fun w' hS' => by obtain ⟨q0, q1, q2, q3⟩ := hS'; go_simp⟩) hS ?_
      refine wpAnyH_take (i := 2) (v := .slice (some ⟨fb, fo, none⟩) Fl fc5) rfl (by kernel_rfl) (by kernel_rfl) (by kernel_rfl) (fun _ _ _ h => h) (Or.inl ⟨by kernel_rfl, fun w' hS' => by obtain ⟨q0, q1, q2, q3⟩ := hS'; go_simp⟩) hS ?_
      refine wpAnyH_take (i := 3) (v := .int .i64 (k : Int)) rfl (by kernel_rfl) (by kernel_rfl) (by kernel_rfl) (fun _ _ _ h => h) (Or.inl ⟨by kernel_rfl, fun w' hS' => by obtain ⟨q0, q1, q2, q3⟩ := hS'; go_simp⟩) hS ?_
      refine wpAnyH_take (i := 4) (v := .pointer (some ⟨fb, fo + k, none⟩)) rfl (by kernel_rfl) (by kernel_rfl) (by kernel_rfl) (fun _ _ _ h => h) (Or.inl ⟨by kernel_rfl, fun w' hS' => by obtain ⟨q0, q1, q2, q3⟩ := hS'; go_simp⟩) hS ?_
      refine wpAnyH_take (i := 5) (v := .slice q N cc) rfl (by kernel_rfl) (by kernel_rfl) (by kernel_rfl) (fun _ _ _ h => h) (Or.inl ⟨by kernel_rfl, fun w' hS' => by obtain ⟨q0, q1, q2, q3⟩ := hS'; go_simp⟩) hS ?_
      refine wpAnyH_ready (rs := [6, 10]) (by kernel_rfl) (by simp) ?_
      refine AllReadyH.cons rfl (fun K hK => ?_) (AllReadyH.cons rfl (fun K hK => ?_) (AllReadyH.nil))
      · go_simp
        refine (HPK.out wr.drew (Below.refl _ _).drew).mono ?_
        rintro e w7 ⟨L, i, j, rfl, hb7⟩
        have hb7' : Below wr.heap.size wr w7 := (Below.refl wr.heap.size wr).drew.trans hb7
        have hbw7 := hbw.trans (hb7'.mono hbw.size)
        have y0 := (HX6.out.below hbw7).c0
        have y1 := (HX6.out.below hbw7).c1
        have y2 := (HX6.out.below hbw7).c2
        have yq : w7.cell? ⟨fb, fo + k, none⟩ = some (.slice q N cc) := (hbw7.cell (p := ⟨fb, fo + k, none⟩) hfb).trans hq
        refine hK.out _ _ ⟨y0, y1, y2, yq⟩ (fun hS => ?_)
        clear hK
        refine wpAnyH_take (i := 7) (v := .tuple #[.agg #[.int .i64 L, .bool true, .bool true, .int .i64 i, .int .i64 j], .int .i64 0]) rfl (by kernel_rfl) (by kernel_rfl) (by kernel_rfl) (fun _ _ _ h => h) (Or.inl ⟨by kernel_rfl, fun w' hS' => by obtain ⟨q0, q1, q2, q3⟩ := hS'; go_simp⟩) hS ?_
        refine wpAnyH_take (i := 8) (v := .agg #[.int .i64 L, .bool true, .bool true, .int .i64 i, .int .i64 j]) rfl (by kernel_rfl) (by kernel_rfl) (by kernel_rfl) (fun _ _ _ h => h) (Or.inl ⟨by kernel_rfl, fun w' hS' => by obtain ⟨q0, q1, q2, q3⟩ := hS'; go_simp⟩) hS ?_
        refine wpAnyH_take (i := 9) (v := .int .i64 0) rfl (by kernel_rfl) (by kernel_rfl) (by kernel_rfl) (fun _ _ _ h => h) (Or.inl ⟨by kernel_rfl, fun w' hS' => by obtain ⟨q0, q1, q2, q3⟩ := hS'; go_simp⟩) hS ?_
        refine wpAnyH_ready (rs := [10]) (by kernel_rfl) (by simp) ?_
        refine AllReadyH.cons rfl (fun K hK => ?_) (AllReadyH.nil)
        go_simp
        have hb8 : Below w7.heap.size w7 (w7.alloc (.cells #[.int .i64 0, .bool false, .bool false, .int .i64 0, .int .i64 0] 49)) := (Below.refl _ _).alloc (Nat.le_refl _) _
        have h8 := heap_alloc_new w7 (.cells #[.int .i64 0, .bool false, .bool false, .int .i64 0, .int .i64 0] 49)
        have hbw8 := hbw7.trans (hb8.mono hbw7.size)
        have hB6 : w6.heap.size ≤ w7.heap.size := hbw7.size
        generalize hw8 : w7.alloc (.cells #[.int .i64 0, .bool false, .bool false, .int .i64 0, .int .i64 0] 49) = w8 at *
        generalize hB8 : w7.heap.size = B at *
        clear hw8 hB8 hb8 hbw7 hb7 hb7' y0 y1 y2 yq
        have y0 := (HX6.out.below hbw8).c0
        have y1 := (HX6.out.below hbw8).c1
        have y2 := (HX6.out.below hbw8).c2
        have yq : w8.cell? ⟨fb, fo + k, none⟩ = some (.slice q N cc) := (hbw8.cell (p := ⟨fb, fo + k, none⟩) hfb).trans hq
        refine hK.out _ _ ⟨y0, y1, y2, yq⟩ (fun hS => ?_)
        clear hK
        refine wpAnyH_ready (rs := [11]) (by kernel_rfl) (by simp) ?_
        refine AllReadyH.cons rfl (fun K hK => ?_) (AllReadyH.nil)
        refine rstep_store rfl (.tmp 25) (.tmp 111) rfl B L i j rfl rfl h8 ?_
        have h9 := set5 h8 (.int .i64 L) (.bool true) (.bool true) (.int .i64 i) (.int .i64 j)
        have hbw9 : Below w6.heap.size w6 (((((w8.setCell ⟨B, 0, none⟩ (.int .i64 L)).setCell ⟨B, 1, none⟩ (.bool true)).setCell ⟨B, 2, none⟩ (.bool true)).setCell ⟨B, 3, none⟩ (.int .i64 i)).setCell ⟨B, 4, none⟩ (.int .i64 j)) := ((((hbw8.setCell (p := ⟨B, 0, none⟩) hB6 _).setCell (p := ⟨B, 1, none⟩) hB6 _).setCell (p := ⟨B, 2, none⟩) hB6 _).setCell (p := ⟨B, 3, none⟩) hB6 _).setCell (p := ⟨B, 4, none⟩) hB6 _
        generalize (((((w8.setCell ⟨B, 0, none⟩ (.int .i64 L)).setCell ⟨B, 1, none⟩ (.bool true)).setCell ⟨B, 2, none⟩ (.bool true)).setCell ⟨B, 3, none⟩ (.int .i64 i)).setCell ⟨B, 4, none⟩ (.int .i64 j)) = w9 at *
        clear y0 y1 y2 yq
        have y0 := (HX6.out.below hbw9).c0
        have y1 := (HX6.out.below hbw9).c1
        have y2 := (HX6.out.below hbw9).c2
        have yq : w9.cell? ⟨fb, fo + k, none⟩ = some (.slice q N cc) := (hbw9.cell (p := ⟨fb, fo + k, none⟩) hfb).trans hq
        refine hK.out _ _ ⟨y0, y1, y2, yq⟩ (fun hS => ?_)
        clear hK
        refine wpAnyH_take (i := 12) (v := .int .i64 0) rfl (by kernel_rfl) (by kernel_rfl) (by kernel_rfl) (fun _ _ _ h => h) (Or.inl ⟨by kernel_rfl, fun w' hS' => by obtain ⟨q0, q1, q2, q3⟩ := hS'; go_simp⟩) hS ?_
        refine wpAnyH_done (by kernel_rfl) ?_ _
        obtain ⟨_, r1, r2, _, _, _⟩ := cells5 h9
        clear h9 h8 hbw8 hS HPK x0 x1 x2 gq hbw

        have hd9 : ∀ m, Below w9.heap.size w9 (w9.drewN m) := fun m => ⟨rfl, rfl, rfl, Nat.le_refl _, fun _ _ => rfl⟩
        have HQ9 := hide (hqi.out.below hbw9)
        have HG9 := hide (HG6.out.below hbw9)
        have HNEW : Hid (decide (g ∈ F.take (k + 1)) = (decide (g ∈ F.take k) || decide (nI (F.getD k []) = nI g))) := mem_take_dec hkF g
        have HSM : Hid (∀ m, Calls Try.prog 9 #[.slice q N cc, .slice lp N lc] (w9.drewN m) fun e w' => e = .returned (.bool (decide (nI (F.getD k []) = nI g))) ∧ Below w9.heap.size (w9.drewN m) w') := fun m => same_any _ _ _ _ (w9.drewN m) (HQ9.out.below (hd9 m)) (HG9.out.below (hd9 m))
        generalize decide (g ∈ F.take k) = am at *
        generalize decide (nI (F.getD k []) = nI g) = sm at *
        rcases Nat.eq_zero_or_pos k with hk0 | hk0
        · have hk0' : decide ((0 : Int) < (k : Int)) = false := by rw [decide_eq_false_iff_not]; omega
          have hk00 : ¬ ((0 : Int) < (k : Int)) := by omega
          have hk0n : decide (0 < k) = false := by rw [decide_eq_false_iff_not]; omega
          have hk0m : ¬ 0 < k := by omega
          have HK00 := hide hk0
          clear hfcell hk0
          go_wp2
          go_quiet (fail)
          have yq2 : (w9.drewN nq).cell? ⟨fb, fo + k, none⟩ = some (.slice q N cc) := yq
          have hbw2 : Below w6.heap.size w6 (w9.drewN nq) := hbw9.trans ((hd9 nq).mono hbw9.size)
          have HS2 := hide (HSM.out nq)
          clear HSM yq HQ9 HG9 hd9
          cases am with
          | true =>
            go_wp2
            go_roundw
            case rel => exact ⟨k + 1, by omega, by go_num, by rw [HNEW.out]; rfl, hbw2⟩
            case measure => simp [intOf]; omega
          | false =>
            go_wp2_with fail
            refine HS2.out.mono ?_
            rintro e wz ⟨rfl, hbz⟩
            have hbz2 := hbw2.trans (hbz.mono hbw9.size)
            clear HS2 hbz
            go_wp2
            go_roundw
            case rel => exact ⟨k + 1, by omega, by go_num, by rw [HNEW.out]; rfl, hbz2⟩
            case measure => simp [intOf]; omega
        · obtain ⟨km, hkm⟩ : ∃ km, km + 1 = k := ⟨k - 1, by omega⟩
          have hsub : (k : Int) - 1 = (km : Int) := by omega
          have hk0' : (0 : Int) < (k : Int) := by omega
          have hb1 : (0 : Int) ≤ (k : Int) - 1 := by omega
          have hb2 : (k : Int) - 1 < (Fl : Int) := by omega
          have htn : ((k : Int) - 1).toNat = km := by omega
          have hwk : IntKind.i64.wrap (km : Int) = (km : Int) := by rw [IntKind.wrap_i64]; omega
          have hkb : (km : Int) < (Fl : Int) := by omega
          have hka : (0 : Int) ≤ (km : Int) := by omega
          have hwr : IntKind.i64.wrap ((k : Int) - 1) = (km : Int) := by rw [IntKind.wrap_i64]; omega
          obtain ⟨q', cc', hq', hqi'⟩ := hfcell km (by rw [hFl]; omega)
          have hkmF : km < F.length := by omega
          have hmem' : F.getD km [] ∈ F := by rw [List.getD, List.getElem?_eq_getElem hkmF]; exact List.getElem_mem hkmF
          have t1' := (HFsub.out _ hmem').1
          rw [hnk km hkmF, show (nI (F.getD km [])).length = N from by simp [nI]; exact t1'] at hq' hqi'
          have gq' : w9.cell? ⟨fb, fo + km, none⟩ = some (.slice q' N cc') := (hbw9.cell (p := ⟨fb, fo + km, none⟩) hfb).trans hq'
          have hlt9 : blw (nI (F.getD km [])) (nI (F.getD k [])) = true := (blw_nI _ _).2 (by
            have := List.pairwise_iff_getElem.1 HFs.out km k hkmF hkF (by omega)
            simpa [List.getD, hkmF, hkF] using this)
          have hlN1 : (nI (F.getD km [])).length = N := by simp [nI]; exact t1'
          have hlN2 : (nI (F.getD k [])).length = N := by simp [nI]; exact t1
          have HBQ : Hid (∀ m, Calls Try.prog 25 #[.slice q' N cc', .slice q N cc] (w9.drewN m) fun e w' => e = .returned (.bool true) ∧ ∃ m', w' = (w9.drewN m).drewN m') := fun m => by
            have h9 := rbelow_q _ _ _ _ (w9.drewN m) ((hqi'.out.below hbw9).below (hd9 m)) (HQ9.out.below (hd9 m)) (by rw [hlN1]; omega) (by rw [hlN2]; omega)
            rw [hlt9] at h9
            exact h9
          have hkmFl : km < Fl := by omega
          clear hfcell hq' hqi' hmem' t1' hlt9 hnk hlN1 hlN2
          have HKM := hide hkm
          clear hkm hb1 hb2 htn
          go_wp2
          go_quiet ((go_at_call 25; exact Calls.quiet_of (HBQ.out _)))
          have yq2 : (w9.drewN nq).cell? ⟨fb, fo + k, none⟩ = some (.slice q N cc) := yq
          have hbw2 : Below w6.heap.size w6 (w9.drewN nq) := hbw9.trans ((hd9 nq).mono hbw9.size)
          have HS2 := hide (HSM.out nq)
          clear HSM yq HQ9 HG9 hd9
          cases am with
          | true =>
            go_wp2
            go_roundw
            case rel => exact ⟨k + 1, by omega, by go_num, by rw [HNEW.out]; rfl, hbw2⟩
            case measure => simp [intOf]; omega
          | false =>
            go_wp2_with fail
            refine HS2.out.mono ?_
            rintro e wz ⟨rfl, hbz⟩
            have hbz2 := hbw2.trans (hbz.mono hbw9.size)
            clear HS2 hbz
            go_wp2
            go_roundw
            case rel => exact ⟨k + 1, by omega, by go_num, by rw [HNEW.out]; rfl, hbz2⟩
            case measure => simp [intOf]; omega
      · go_simp
        have hb7 : Below wr.heap.size wr (wr.drew.alloc (.cells #[.int .i64 0, .bool false, .bool false, .int .i64 0, .int .i64 0] 49)) := (Below.refl wr.heap.size wr).drew.alloc (Nat.le_refl _) _
        have h7 := heap_alloc_new wr.drew (.cells #[.int .i64 0, .bool false, .bool false, .int .i64 0, .int .i64 0] 49)
        have hbw7 := hbw.trans (hb7.mono hbw.size)
        have hB6 : w6.heap.size ≤ wr.heap.size := hbw.size
        have y0 := (HX6.out.below hbw7).c0
        have y1 := (HX6.out.below hbw7).c1
        have y2 := (HX6.out.below hbw7).c2
        have yq : (wr.drew.alloc (.cells #[.int .i64 0, .bool false, .bool false, .int .i64 0, .int .i64 0] 49)).cell? ⟨fb, fo + k, none⟩ = some (.slice q N cc) := (hbw7.cell (p := ⟨fb, fo + k, none⟩) hfb).trans hq
        refine hK.out _ _ ⟨y0, y1, y2, yq⟩ (fun hS => ?_)
        clear hK y0 y1 y2 yq
        refine wpAnyH_ready (rs := [6]) (by kernel_rfl) (by simp) ?_
        refine AllReadyH.cons rfl (fun K hK => ?_) (AllReadyH.nil)
        go_simp
        refine (HPK.out (wr.drew.alloc (.cells #[.int .i64 0, .bool false, .bool false, .int .i64 0, .int .i64 0] 49)) hb7).mono ?_
        rintro e w8 ⟨L, i, j, rfl, hb8⟩
        have hbw8 := hbw7.trans (hb8.mono hbw7.size)
        have h8 := (hb8.block wr.heap.size (by simp)).trans h7
        have y0 := (HX6.out.below hbw8).c0
        have y1 := (HX6.out.below hbw8).c1
        have y2 := (HX6.out.below hbw8).c2
        have yq : w8.cell? ⟨fb, fo + k, none⟩ = some (.slice q N cc) := (hbw8.cell (p := ⟨fb, fo + k, none⟩) hfb).trans hq
        refine hK.out _ _ ⟨y0, y1, y2, yq⟩ (fun hS => ?_)
        clear hK hb7 hb8 h7 hbw7
        generalize hB8 : wr.heap.size = B at *
        clear hB8
        refine wpAnyH_take (i := 7) (v := .tuple #[.agg #[.int .i64 L, .bool true, .bool true, .int .i64 i, .int .i64 j], .int .i64 0]) rfl (by kernel_rfl) (by kernel_rfl) (by kernel_rfl) (fun _ _ _ h => h) (Or.inl ⟨by kernel_rfl, fun w' hS' => by obtain ⟨q0, q1, q2, q3⟩ := hS'; go_simp⟩) hS ?_
        refine wpAnyH_take (i := 8) (v := .agg #[.int .i64 L, .bool true, .bool true, .int .i64 i, .int .i64 j]) rfl (by kernel_rfl) (by kernel_rfl) (by kernel_rfl) (fun _ _ _ h => h) (Or.inl ⟨by kernel_rfl, fun w' hS' => by obtain ⟨q0, q1, q2, q3⟩ := hS'; go_simp⟩) hS ?_
        refine wpAnyH_take (i := 9) (v := .int .i64 0) rfl (by kernel_rfl) (by kernel_rfl) (by kernel_rfl) (fun _ _ _ h => h) (Or.inl ⟨by kernel_rfl, fun w' hS' => by obtain ⟨q0, q1, q2, q3⟩ := hS'; go_simp⟩) hS ?_
        refine wpAnyH_ready (rs := [11]) (by kernel_rfl) (by simp) ?_
        refine AllReadyH.cons rfl (fun K hK => ?_) (AllReadyH.nil)
        refine rstep_store rfl (.tmp 25) (.tmp 111) rfl B L i j rfl rfl h8 ?_
        have h9 := set5 h8 (.int .i64 L) (.bool true) (.bool true) (.int .i64 i) (.int .i64 j)
        have hbw9 : Below w6.heap.size w6 (((((w8.setCell ⟨B, 0, none⟩ (.int .i64 L)).setCell ⟨B, 1, none⟩ (.bool true)).setCell ⟨B, 2, none⟩ (.bool true)).setCell ⟨B, 3, none⟩ (.int .i64 i)).setCell ⟨B, 4, none⟩ (.int .i64 j)) := ((((hbw8.setCell (p := ⟨B, 0, none⟩) hB6 _).setCell (p := ⟨B, 1, none⟩) hB6 _).setCell (p := ⟨B, 2, none⟩) hB6 _).setCell (p := ⟨B, 3, none⟩) hB6 _).setCell (p := ⟨B, 4, none⟩) hB6 _
        generalize (((((w8.setCell ⟨B, 0, none⟩ (.int .i64 L)).setCell ⟨B, 1, none⟩ (.bool true)).setCell ⟨B, 2, none⟩ (.bool true)).setCell ⟨B, 3, none⟩ (.int .i64 i)).setCell ⟨B, 4, none⟩ (.int .i64 j)) = w9 at *
        clear y0 y1 y2 yq
        have y0 := (HX6.out.below hbw9).c0
        have y1 := (HX6.out.below hbw9).c1
        have y2 := (HX6.out.below hbw9).c2
        have yq : w9.cell? ⟨fb, fo + k, none⟩ = some (.slice q N cc) := (hbw9.cell (p := ⟨fb, fo + k, none⟩) hfb).trans hq
        refine hK.out _ _ ⟨y0, y1, y2, yq⟩ (fun hS => ?_)
        clear hK
        refine wpAnyH_take (i := 12) (v := .int .i64 0) rfl (by kernel_rfl) (by kernel_rfl) (by kernel_rfl) (fun _ _ _ h => h) (Or.inl ⟨by kernel_rfl, fun w' hS' => by obtain ⟨q0, q1, q2, q3⟩ := hS'; go_simp⟩) hS ?_
        refine wpAnyH_done (by kernel_rfl) ?_ _
        obtain ⟨_, r1, r2, _, _, _⟩ := cells5 h9
        clear h9 h8 hbw8 hS HPK x0 x1 x2 gq hbw

        have hd9 : ∀ m, Below w9.heap.size w9 (w9.drewN m) := fun m => ⟨rfl, rfl, rfl, Nat.le_refl _, fun _ _ => rfl⟩
        have HQ9 := hide (hqi.out.below hbw9)
        have HG9 := hide (HG6.out.below hbw9)
        have HNEW : Hid (decide (g ∈ F.take (k + 1)) = (decide (g ∈ F.take k) || decide (nI (F.getD k []) = nI g))) := mem_take_dec hkF g
        have HSM : Hid (∀ m, Calls Try.prog 9 #[.slice q N cc, .slice lp N lc] (w9.drewN m) fun e w' => e = .returned (.bool (decide (nI (F.getD k []) = nI g))) ∧ Below w9.heap.size (w9.drewN m) w') := fun m => same_any _ _ _ _ (w9.drewN m) (HQ9.out.below (hd9 m)) (HG9.out.below (hd9 m))
        generalize decide (g ∈ F.take k) = am at *
        generalize decide (nI (F.getD k []) = nI g) = sm at *
        rcases Nat.eq_zero_or_pos k with hk0 | hk0
        · have hk0' : decide ((0 : Int) < (k : Int)) = false := by rw [decide_eq_false_iff_not]; omega
          have hk00 : ¬ ((0 : Int) < (k : Int)) := by omega
          have hk0n : decide (0 < k) = false := by rw [decide_eq_false_iff_not]; omega
          have hk0m : ¬ 0 < k := by omega
          have HK00 := hide hk0
          clear hfcell hk0
          go_wp2
          go_quiet (fail)
          have yq2 : (w9.drewN nq).cell? ⟨fb, fo + k, none⟩ = some (.slice q N cc) := yq
          have hbw2 : Below w6.heap.size w6 (w9.drewN nq) := hbw9.trans ((hd9 nq).mono hbw9.size)
          have HS2 := hide (HSM.out nq)
          clear HSM yq HQ9 HG9 hd9
          cases am with
          | true =>
            go_wp2
            go_roundw
            case rel => exact ⟨k + 1, by omega, by go_num, by rw [HNEW.out]; rfl, hbw2⟩
            case measure => simp [intOf]; omega
          | false =>
            go_wp2_with fail
            refine HS2.out.mono ?_
            rintro e wz ⟨rfl, hbz⟩
            have hbz2 := hbw2.trans (hbz.mono hbw9.size)
            clear HS2 hbz
            go_wp2
            go_roundw
            case rel => exact ⟨k + 1, by omega, by go_num, by rw [HNEW.out]; rfl, hbz2⟩
            case measure => simp [intOf]; omega
        · obtain ⟨km, hkm⟩ : ∃ km, km + 1 = k := ⟨k - 1, by omega⟩
          have hsub : (k : Int) - 1 = (km : Int) := by omega
          have hk0' : (0 : Int) < (k : Int) := by omega
          have hb1 : (0 : Int) ≤ (k : Int) - 1 := by omega
          have hb2 : (k : Int) - 1 < (Fl : Int) := by omega
          have htn : ((k : Int) - 1).toNat = km := by omega
          have hwk : IntKind.i64.wrap (km : Int) = (km : Int) := by rw [IntKind.wrap_i64]; omega
          have hkb : (km : Int) < (Fl : Int) := by omega
          have hka : (0 : Int) ≤ (km : Int) := by omega
          have hwr : IntKind.i64.wrap ((k : Int) - 1) = (km : Int) := by rw [IntKind.wrap_i64]; omega
          obtain ⟨q', cc', hq', hqi'⟩ := hfcell km (by rw [hFl]; omega)
          have hkmF : km < F.length := by omega
          have hmem' : F.getD km [] ∈ F := by rw [List.getD, List.getElem?_eq_getElem hkmF]; exact List.getElem_mem hkmF
          have t1' := (HFsub.out _ hmem').1
          rw [hnk km hkmF, show (nI (F.getD km [])).length = N from by simp [nI]; exact t1'] at hq' hqi'
          have gq' : w9.cell? ⟨fb, fo + km, none⟩ = some (.slice q' N cc') := (hbw9.cell (p := ⟨fb, fo + km, none⟩) hfb).trans hq'
          have hlt9 : blw (nI (F.getD km [])) (nI (F.getD k [])) = true := (blw_nI _ _).2 (by
            have := List.pairwise_iff_getElem.1 HFs.out km k hkmF hkF (by omega)
            simpa [List.getD, hkmF, hkF] using this)
          have hlN1 : (nI (F.getD km [])).length = N := by simp [nI]; exact t1'
          have hlN2 : (nI (F.getD k [])).length = N := by simp [nI]; exact t1
          have HBQ : Hid (∀ m, Calls Try.prog 25 #[.slice q' N cc', .slice q N cc] (w9.drewN m) fun e w' => e = .returned (.bool true) ∧ ∃ m', w' = (w9.drewN m).drewN m') := fun m => by
            have h9 := rbelow_q _ _ _ _ (w9.drewN m) ((hqi'.out.below hbw9).below (hd9 m)) (HQ9.out.below (hd9 m)) (by rw [hlN1]; omega) (by rw [hlN2]; omega)
            rw [hlt9] at h9
            exact h9
          have hkmFl : km < Fl := by omega
          clear hfcell hq' hqi' hmem' t1' hlt9 hnk hlN1 hlN2
          have HKM := hide hkm
          clear hkm hb1 hb2 htn
          go_wp2
          go_quiet ((go_at_call 25; exact Calls.quiet_of (HBQ.out _)))
          have yq2 : (w9.drewN nq).cell? ⟨fb, fo + k, none⟩ = some (.slice q N cc) := yq
          have hbw2 : Below w6.heap.size w6 (w9.drewN nq) := hbw9.trans ((hd9 nq).mono hbw9.size)
          have HS2 := hide (HSM.out nq)
          clear HSM yq HQ9 HG9 hd9
          cases am with
          | true =>
            go_wp2
            go_roundw
            case rel => exact ⟨k + 1, by omega, by go_num, by rw [HNEW.out]; rfl, hbw2⟩
            case measure => simp [intOf]; omega
          | false =>
            go_wp2_with fail
            refine HS2.out.mono ?_
            rintro e wz ⟨rfl, hbz⟩
            have hbz2 := hbw2.trans (hbz.mono hbw9.size)
            clear HS2 hbz
            go_wp2
            go_roundw
            case rel => exact ⟨k + 1, by omega, by go_num, by rw [HNEW.out]; rfl, hbz2⟩
            case measure => simp [intOf]; omega
    · obtain rfl : k = Fl := by omega
      have hFt : F.take k = F := List.take_of_length_le (by omega)
      rw [hFt]
      have HG6w := hide (HG6.out.below hbw)
      have HPG := hide (HP6.out wr (.slice lp N lc) g hbw HG6w.out HGL.out HG.out)
      have hwb := hB6.trans (hbw.mono hB6.size)
      have hww := hB0.trans (hwb.mono hB0.size)
      generalize hgk : ((g.length * K : Nat) : Int) = LL at *
      clear hgk hFt
      go_wp2_with fail
      refine HPG.out.mono ?_
      rintro e w7 ⟨r, tq, i, j, rfl, hrq, hb7⟩
      have hbw7 := hbw.trans (hb7.mono hbw.size)
      have hww7 := hww.trans (hb7.mono (by have := hww.size; omega))
      have h8 := heap_alloc_new w7 (.cells #[.int .i64 LL, .bool r, .bool tq, .int .i64 i, .int .i64 j] 49)
      have hb8 : Below w7.heap.size w7 (w7.alloc (.cells #[.int .i64 LL, .bool r, .bool tq, .int .i64 i, .int .i64 j] 49)) := (Below.refl _ _).alloc (Nat.le_refl _) _
      have hbw8 := hbw7.trans (hb8.mono hbw7.size)
      have hww8 := hww7.trans (hb8.mono (by have := hww7.size; omega))
      obtain ⟨_, z1, z2, _, _, _⟩ := cells5 h8
      have HFN : Hid ((tq = true ∧ r = true) → g ∉ F → k = Y ∧ blw (nI (F.getD (Y - 1) [])) (nI g) = true) := fun h9 hno => by
        obtain ⟨e1, e2⟩ := HEND.out (hrq.1 h9) hno
        exact ⟨by omega, (blw_nI _ _).2 e2⟩
      clear HPG HEND hrq HP6 hbw7 hb7 hww7 h8 hb8 x0 x1 x2
      by_cases hgF : g ∈ F
      · rw [decide_eq_true hgF]
        clear HFN
        cases tq <;> cases r <;>
        · go_wp2
          go_ret
          exact ⟨rfl, hww8⟩
      · rw [decide_eq_false hgF]
        cases tq with
        | false =>
          clear HFN
          go_wp2
          go_ret
          exact ⟨rfl, hww8⟩
        | true =>
          cases r with
          | false =>
            clear HFN
            go_wp2
            go_ret
            exact ⟨rfl, hww8⟩
          | true =>
            obtain ⟨hkY, hbl⟩ := HFN.out ⟨rfl, rfl⟩ hgF
            clear HFN
            have hkF0 : 1 ≤ F.length := by omega
            obtain ⟨fb, fo, fcp, he, hfb, hfl1, hfl2, hfcell⟩ := HIA6.out.cell (by rw [hFl]; omega)
            rw [hFl] at he hfl1
            simp only [Value.slice.injEq] at he
            obtain ⟨rfl, _, rfl⟩ := he
            obtain ⟨km, hkm⟩ : ∃ km, km + 1 = k := ⟨k - 1, by omega⟩
            have hkmF : km < F.length := by omega
            have hmem' : F.getD km [] ∈ F := by rw [List.getD, List.getElem?_eq_getElem hkmF]; exact List.getElem_mem hkmF
            have t1' := (HFsub.out _ hmem').1
            obtain ⟨q', cc', hq', hqi'⟩ := hfcell km (by rw [hFl]; omega)
            have hnk : (F.map nI).getD km [] = nI (F.getD km []) := by simp [List.getD, hkmF, nI]
            have hlN1 : (nI (F.getD km [])).length = N := by simp [nI]; exact t1'
            have hlN2 : (nI g).length = N := by simp [nI]; exact HGL.out
            rw [hnk, hlN1] at hq' hqi'
            have hYk : Y - 1 = km := by omega
            rw [hYk] at hbl
            have gq' : (w7.alloc (.cells #[.int .i64 LL, .bool true, .bool true, .int .i64 i, .int .i64 j] 49)).cell? ⟨fb, fo + km, none⟩ = some (.slice q' N cc') := (hbw8.cell (p := ⟨fb, fo + km, none⟩) hfb).trans hq'
            have HBQ := hide (rbelow_any _ _ _ _ (w7.alloc (.cells #[.int .i64 LL, .bool true, .bool true, .int .i64 i, .int .i64 j] 49)) (hqi'.out.below hbw8) (HG6.out.below hbw8) (by rw [hlN1]; omega) (by rw [hlN2]; omega))
            rw [hbl] at HBQ
            have hsub : (Y : Int) - 1 = (km : Int) := by omega
            have hwr : IntKind.i64.wrap ((Y : Int) - 1) = (km : Int) := by rw [IntKind.wrap_i64]; omega
            have hwk : IntKind.i64.wrap (km : Int) = (km : Int) := by rw [IntKind.wrap_i64]; omega
            have hkmk : km < k := by omega
            have hkYi : ((k : Int) == (Y : Int)) = true := by rw [beq_iff_eq]; omega
            have HKY := hide hkY
            have HKM := hide hkm
            clear hfcell hq' hqi' hmem' t1' hlN1 hlN2 hnk hbl hYk hkm hkY
            obtain rfl : k = Y := HKY.out
            go_wp2_with fail
            refine HBQ.out.mono ?_
            rintro e w9 ⟨rfl, hb9⟩
            go_wp2
            go_ret
            exact ⟨rfl, hww8.trans (hb9.mono (by have := hww8.size; exact this))⟩

theorem topSearch_walk (v : Value) (xs : List Int) (a1 a2 a3 a4 a5 : Int) (v2 : Value) (gs : List Int) (w : World) (hin : Ints w v xs) (hx : ∀ x, x ∈ xs → I64 x) (hs1 : xs.length ≤ 17592186044416) (h1 : I64 a1) (h2 : I64 a2) (h3 : I64 a3) (h4 : I64 a4) (h5 : I64 a5) (hin2 : Ints w v2 gs) (hx2 : ∀ x, x ∈ gs → I64 x) (hs2 : gs.length ≤ 17592186044416) :
    Calls Try.prog 5 #[v, .int .i64 a1, .int .i64 a2, .int .i64 a3, .int .i64 a4, .int .i64 a5, v2] w fun e w' => e = .returned (.bool true) ∧ Below w.heap.size w w' := by
  by_cases hl : xs.length + gs.length ≤ 256
  · exact topSearch_short v xs a1 a2 a3 a4 a5 v2 gs w hin hx hin2 hx2 hl h1 h2 h3 h4 h5
  · exact topSearch_long v xs a1 a2 a3 a4 a5 v2 gs w hin hin2 (by omega) hs1 hs2

end Go.Proofs.Ytfnmkbcdchnnnaa
