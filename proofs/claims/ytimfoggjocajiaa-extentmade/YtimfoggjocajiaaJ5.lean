/- Joined: GeD, GeZ, GroupM, Normal, NormalB, GHas, Chg, Say, BfL, GeL, GeQ, GeY. -/
import Derived.Test.YtimfoggjocajiaaJ2
import Derived.Test.YtimfoggjocajiaaJ4
import Derived.Deep.QuietTactic
import Derived.Test.YtimfoggjocajiaaJ1
import Derived.BigQuiet
import Derived.Laws.ResultCell
import Derived.Test.YtimfoggjocajiaaJ0
import Derived.Shelf.Lays
import Derived.Shelf.Sort.AssemblyIn
import Derived.Sort.EveryDepth
import Derived.Shelf.Slices.Reverse
/- Contract: all rows of a chain. -/
namespace Go.Proofs.Ytimfoggjocajiaa
open Go.RowKit

theorem ownsE_below {w w' : World} {base B e size n : Nat} {v : Value} {xs : List Value} (h : w.ownsRow base e size v n xs) (hb : Below B w w') (hB : w.heap.size ≤ B) : w'.ownsRow base e size v n xs := by
  obtain ⟨h1, h2⟩ := h
  refine ⟨h1, ?_⟩
  rcases h2 with h2 | ⟨g, cap, cur, hv, hg, hh, r⟩
  · exact Or.inl h2
  · have hlt : g < w.heap.size := (Array.getElem?_eq_some_iff.1 hh).1
    exact Or.inr ⟨g, cap, cur, hv, hg, by rw [hb.block g (by omega)]; exact hh, r⟩

/-- Rows that a call has gathered since w. -/
structure AllR (w wr : World) (v : Value) (L : List Pm) : Prop where
  own : wr.ownsRow w.heap.size 91 12 v L.length (gcells L)
  below : Below w.heap.size w wr

theorem AllR.nil {w wr : World} (hb : Below w.heap.size w wr) : AllR w wr (.slice none 0 0) [] := ⟨World.ownsRow_nil _ _ _ _, hb⟩

theorem AllR.later {w wr w' : World} {v : Value} {L : List Pm} (h : AllR w wr v L) (hb : Below wr.heap.size wr w') : AllR w w' v L :=
  ⟨ownsE_below h.own hb (Nat.le_refl _), h.below.trans (hb.mono h.below.size)⟩

theorem AllR.push {w wr w' : World} {v v' : Value} {L : List Pm} {p : Pm} (h : AllR w wr v L) (ho : w'.ownsRow w.heap.size 91 12 v' (L.length + 1) (gcells L ++ p.l.map (Value.int .i8))) (hg : wr.grownBy w' v.ownBlock) : AllR w w' v' (L ++ [p]) :=
  ⟨by rw [List.length_append, gcells_snoc]; exact ho, h.below.grown hg h.below.size (fun k hk => (h.own.lt k hk).1)⟩

theorem AllR.form {w wr : World} {v : Value} {L : List Pm} (h : AllR w wr v L) (hn : 1 ≤ L.length) : ∃ b cap, v = .slice (some ⟨b, 0, none⟩) L.length cap ∧ L.length ≤ cap ∧ cap ≤ 9223372036854775807 ∧ b < wr.heap.size ∧ w.heap.size ≤ b := by
  obtain ⟨p, cap, e⟩ := owns_slice12 h.own
  have h' := h.own
  rw [e] at h'
  obtain ⟨b, hb, _, h1, h2⟩ := owns_some h' hn
  subst hb
  have hl := h'.lt b rfl
  exact ⟨b, cap, e, h1, h2, hl.2, hl.1⟩

theorem AllR.at {w wr : World} {b cap m : Nat} {L : List Pm} (h : AllR w wr (.slice (some ⟨b, 0, none⟩) m cap) L) {i : Nat} {p : Pm} (hi : L[i]? = some p) : wr.rangeAt b (i * 12) (p.l.map (Value.int .i8)) := by
  intro j v hv
  have hj : j < 12 := by have := (List.getElem?_eq_some_iff.1 hv).1; rw [List.length_map, p.len] at this; exact this
  have := h.own.cells (g := b) rfl (i * 12 + j) _ (gcells_at L i p hi j hj)
  rw [Addr.add_lit, Nat.zero_add] at this
  rw [this, ← hv]
  simp [List.getD, p.len, hj]

theorem allC_drop {C : List Lk} {i : Nat} {l : Lk} (h : C[i]? = some l) : allC (C.drop i) = l.tab.flatMap (fun e => (allC (C.drop (i + 1))).map (fun p => e.2 * p)) := by
  obtain ⟨hj, rfl⟩ := List.getElem?_eq_some_iff.1 h
  rw [List.drop_eq_getElem_cons hj]
  rfl

theorem one_pack (w : World) (p : Pm) : AllR w (w.alloc (.cells (i8s p.l) 91)) (.slice (some ⟨w.heap.size, 0, none⟩) 1 1) [p] := by
  have hl := p.len
  refine ⟨⟨by rw [gcells_length], Or.inr ⟨w.heap.size, 1, i8s p.l, rfl, Nat.le_refl _, heap_alloc_new _ _, Nat.le_refl _, by unfold maxLen; omega, ?_, ?_⟩⟩, (Below.refl _ _).alloc (Nat.le_refl _) _⟩
  · simp [i8s, p.len]
  · simp [i8s, gcells]; exact List.take_of_length_le (by rw [List.length_map, hl]; exact Nat.le_refl _)

theorem wpList_build {ops : Array Oper} {rest : List Oper} {o : Oper} {a : Act} {w : World} {Q : Exit → Act → World → Prop} (hg : o.guard = none) (x : Operand) (hop : o.op = Op.buildSlice 88 1 #[(0, x)]) (p : Pm) (hx : a.eval x = .agg (p.l.map (Value.int .i8)).toArray)
    (hK : wpList Try.prog ops Q rest (a.put o.dst (.slice (some ⟨w.heap.size, 0, none⟩) 1 1)) (w.alloc (.cells (i8s p.l) 91))) : wpList Try.prog ops Q (o :: rest) a w := by
  refine wpList_plain hg fun K hK' => ?_
  unfold Oper.wp execOp
  simp only [hop, List.map_toArray, List.map_cons, List.map_nil, hx, run_build, Sem.run_bind, Sem.run_pure, Result.andThen_ok]
  exact hK' _ _ hK

theorem whole_key {F : Nat → Prop} : ∀ (C : List Lk), Whole F C → (∀ l, l ∈ C → l.base < 12) → ∀ l, l ∈ C → ∀ e, e ∈ l.tab → e.1 < 12 ∧ ((rawOf l).f ((e.1 : Nat) : Int)).getD (.agg (i8s zeros12)) = .agg (e.2.l.map (Value.int .i8)).toArray
  | [], _, _, l, h => by cases h
  | x :: c, hw, hb, l, h => by
    rcases List.mem_cons.1 h with rfl | h
    · intro e he
      refine ⟨key_lt hw.1 (hb _ List.mem_cons_self) he, ?_⟩
      show (tabF l.tab ((e.1 : Nat) : Int)).getD _ = _
      rw [tabF_nat, lookup_of_mem hw.1.nodup (b := e.1) (u := e.2) he]
      rfl
    · exact whole_key (F := plus F x.base) c hw.2.1 (fun y hy => hb y (List.mem_cons_of_mem _ hy)) l h

set_option maxRecDepth 20000 in
set_option maxHeartbeats 4000000 in
theorem all_ok {w0 : World} {B g n : Nat} {bs : List Nat} {C : List Lk} {st : Nat → St} {gs : List Pm} (hCd : Chained w0 B g n bs C st gs) (h12 : n ≤ 12) (hbs : ∀ b, b ∈ bs → b < 12) (w : World) (hb0 : Below w0.heap.size w0 w) :
    Calls Try.prog 101 #[.slice (some ⟨g, 0, none⟩) n n] w fun e w' => ∃ v, e = .returned v ∧ AllR w w' v (allC C) := by
  have hC := hCd.chain.below hb0 (Nat.le_refl _)
  have hbase : ∀ l, l ∈ C → l.base < 12 := fun l hl => hbs _ (by rw [← hCd.bases]; exact List.mem_map.2 ⟨l, hl, rfl⟩)
  have hlen := whole_len C hCd.whole hbase
  have hle : ∀ i, tabs (C.drop i) ≤ 8916100448256 := fun i => by
    have h1 : tabs (C.drop i) ≤ 12 ^ (C.drop i).length := tabs_le (fun l hl => (hlen l (List.mem_of_mem_drop hl)).2)
    have h2 : 12 ^ (C.drop i).length ≤ 12 ^ 12 := Nat.pow_le_pow_right (by decide) (by rw [List.length_drop, hCd.len]; omega)
    have h1212 : (12 : Nat) ^ 12 = 8916100448256 := by decide
    omega
  have hpos : ∀ i, 1 ≤ tabs (C.drop i) := fun i => by
    have : ∀ (c : List Lk), (∀ l, l ∈ c → 1 ≤ l.tab.length) → 1 ≤ tabs c := by
      intro c
      induction c with
      | nil => intro _; exact Nat.le_refl _
      | cons l c ih => intro h; exact Nat.mul_pos (h l List.mem_cons_self) (ih (fun y hy => h y (List.mem_cons_of_mem _ hy)))
    exact this _ (fun l hl => (hlen l (List.mem_of_mem_drop hl)).1)
  have hkey : ∀ l, l ∈ C → ∀ e, e ∈ l.tab → e.1 < 12 ∧ ((rawOf l).f ((e.1 : Nat) : Int)).getD (.agg (i8s zeros12)) = .agg (e.2.l.map (Value.int .i8)).toArray := whole_key C hCd.whole hbase
  have HL := hide hle
  have HPS := hide hpos
  have HLN := hide hlen
  have HC := hide hC
  have HN := hide hCd.len
  have HK := hide hkey
  clear hC hbase hlen hle hpos hCd hkey
  go_enter Try.func101, Try.ntmps101
  go_wp2_with fail
  refine (prounds_ok _).mono ?_
  rintro e w1 ⟨rfl, hb1⟩
  unfold pv
  have hone := AllR.later (w := w1) (one_pack w1 1) (Below.refl _ _)
  have hS0 : AllR w (w1.alloc (.cells (i8s (Pm.l 1)) 91)) (.slice (some ⟨w1.heap.size, 0, none⟩) 1 1) [1] := ⟨by have h := hone.own; have hs := hb1.size; rcases h with ⟨h1, h2⟩; refine ⟨h1, ?_⟩; rcases h2 with h2 | ⟨g, cap, cur, hv, hg, r⟩; exact Or.inl h2; exact Or.inr ⟨g, cap, cur, hv, Nat.le_trans hs hg, r⟩, hb1.alloc hb1.size _⟩
  have HS0 := hide hS0
  clear hone hS0
  go_wp2_with (refine wpList_build rfl _ rfl 1 rfl ?_)
  go_loopw [3, 4] (fun sr sl wr => ∃ (k : Nat) (v : Value), k ≤ n ∧ sr = v ∧ sl = .int .i64 ((k : Int) - 1) ∧ AllR w wr v (allC (C.drop k))) (fun _ sl _ => ((intOf sl) + 1).toNat)
  case atStart =>
    exact ⟨n, _, Nat.le_refl _, rfl, rfl, by rw [List.drop_eq_nil_of_le (by rw [HN.out]; exact Nat.le_refl _)]; exact HS0.out⟩
  case round =>
    obtain ⟨k, v, hk, rfl, rfl, hR⟩ := hrel
    by_cases hlt : 1 ≤ k
    · obtain ⟨k, rfl⟩ : ∃ k', k = k' + 1 := ⟨k - 1, by omega⟩
      have hkC : k < C.length := by rw [HN.out]; omega
      obtain ⟨l, hl⟩ : ∃ l, C[k]? = some l := ⟨_, List.getElem?_eq_getElem hkC⟩
      have lk := (HC.out.below hR.below (Nat.le_refl _)).link k (rawOf l) (by rw [List.getElem?_map, hl]; rfl)
      have hall := allC_drop hl
      have htd := tabs_drop hl
      have hll := HLN.out l (List.mem_of_getElem? hl)
      have hp := HPS.out (k + 1)
      have hle := HL.out k
      have hRl : (allC (C.drop (k + 1))).length = tabs (C.drop (k + 1)) := allC_len _
      obtain ⟨rb, rc, erv, hrc1, hrc2, hrb1, hrb2⟩ := hR.form (by rw [hRl]; exact hp)
      obtain ⟨pb, cb, ebv⟩ := owns_slice12 lk.bells
      obtain ⟨pg, cg, egv⟩ := owns_slice12 lk.gens
      have c0 := lk.c0
      have c1 := lk.c1
      have c2 := lk.c2
      have c3 := lk.c3
      rw [ebv] at c2
      rw [egv] at c3
      have hrange : wr.rangeAt g (k * 4) [.int .i64 ((l.base : Nat) : Int), .map (some (st k).m), .slice pb (rawOf l).bs.length cb, .slice pg (rawOf l).gs.length cg] := by
        rw [Nat.mul_comm]
        intro x v hv
        match x, hv with
        | 0, hv => rw [← Option.some.inj hv]; exact c0
        | 1, hv => rw [← Option.some.inj hv]; exact c1
        | 2, hv => rw [← Option.some.inj hv]; exact c2
        | 3, hv => rw [← Option.some.inj hv]; exact c3
        | x + 4, hv => cases hv
      have hbl : (rawOf l).bs.length = l.tab.length := by show (l.tab.map _).length = _; simp
      have hbells := lk.bells
      rw [ebv, hbl] at hbells
      rw [hbl] at hrange
      obtain ⟨bb, hbb, _, hbc, hbm⟩ := owns_some hbells hll.1
      subst hbb
      have HBE : Hid (∀ i e, l.tab[i]? = some e → wr.cell? ⟨bb, i, none⟩ = some (.int .i64 ((e.1 : Nat) : Int))) := fun i e he => by
        have := hbells.cells (g := bb) rfl i (.int .i64 ((e.1 : Nat) : Int)) (by show (l.tab.map (fun e => Value.int .i64 ((e.1 : Nat) : Int)))[i]? = _; rw [List.getElem?_map, he]; rfl)
        rw [Addr.add_lit, Nat.zero_add] at this
        exact this
      have hbblt := (hbells.lt bb rfl).2
      have HMP := hide lk.mp
      have HKl := hide (HK.out l (List.mem_of_getElem? hl))
      generalize (st k).m = mm at *
      generalize (rawOf l).gs.length = ng at *
      have HT : Hid (allC (C.drop k) = l.tab.flatMap (fun e => (allC (C.drop (k + 1))).map (fun p => e.2 * p))) := hall
      have HTL : Hid (l.tab.length * (allC (C.drop (k + 1))).length ≤ 8916100448256) := by show _ ≤ _; rw [hRl, ← htd]; exact hle
      generalize hRows : allC (C.drop (k + 1)) = rows at *
      have HR := hide hR
      have hR1 : rows.length ≤ 8916100448256 := by rw [hRl]; exact HL.out (k + 1)
      have hR0 : 1 ≤ rows.length := by rw [hRl]; exact hp
      have hsR := hR.below.size
      subst erv
      clear lk c0 c1 c2 c3 ebv egv hall htd hle hRl hbells hp hR hl hbl hRows
      have HX := hide (heap_alloc_new wr (.cells #[.int .i64 ((l.base : Nat) : Int), .map (some mm), .slice (some ⟨bb, 0, none⟩) l.tab.length cb, .slice pg ng cg] 136))
      generalize hnt : l.tab.length = nt at *
      generalize hnr : rows.length = nr at *
      have HNT := hide hnt
      have HNR := hide hnr
      clear hnt hnr
      go_wp2_with (refine wpList_load_mid rfl 136 _ rfl g _ rfl _ _ hrange Try.underlying136 rfl Try.size136 ?_)
      have hX := HX.out
      have hwl : (wr.alloc (.cells #[.int .i64 ((l.base : Nat) : Int), .map (some mm), .slice (some ⟨bb, 0, none⟩) nt cb, .slice pg ng cg] 136)).heap.size = wr.heap.size + 1 := by simp
      have hBl : Below wr.heap.size wr (wr.alloc (.cells #[.int .i64 ((l.base : Nat) : Int), .map (some mm), .slice (some ⟨bb, 0, none⟩) nt cb, .slice pg ng cg] 136)) := (Below.refl _ _).alloc (Nat.le_refl _) _
      clear HX
      generalize wr.alloc (.cells #[.int .i64 ((l.base : Nat) : Int), .map (some mm), .slice (some ⟨bb, 0, none⟩) nt cb, .slice pg ng cg] 136) = wl at *
      have HX := hide hX
      have HBl := hide hBl
      have HWL := hide hwl
      clear hX hBl hrange hwl
      have hnt12 : nt ≤ 12 := hll.2
      obtain ⟨wo, hwo⟩ : ∃ wo, wo = wr := ⟨_, rfl⟩
      subst hwo
      go_loopw [6, 27] (fun sm si wm => ∃ (i : Nat) (v : Value), i ≤ nt ∧ sm = v ∧ si = .int .i64 i ∧ AllR wl wm v ((l.tab.take i).flatMap (fun e => rows.map (fun p => e.2 * p)))) (fun _ si _ => nt - (intOf si).toNat)
      case atStart => exact ⟨0, _, Nat.zero_le _, rfl, rfl, AllR.nil (Below.refl _ _)⟩
      case round =>
        obtain ⟨i, v6, hi, rfl, rfl, hM⟩ := hrel
        by_cases hit : i < nt
        · obtain ⟨e, he⟩ : ∃ e, l.tab[i]? = some e := ⟨_, List.getElem?_eq_getElem (by rw [HNT.out]; exact hit)⟩
          have hbm' : Below wo.heap.size wo wr := HBl.out.trans (hM.below.mono HBl.out.size)
          have hcell : wr.cell? ⟨bb, i, none⟩ = some (.int .i64 ((e.1 : Nat) : Int)) := (hbm'.cell (p := ⟨bb, i, none⟩) hbblt).trans (HBE.out i e he)
          obtain ⟨hk12, hlook⟩ := HKl.out e (List.mem_of_getElem? he)
          have HLK := hide hlook
          have HM := hide hM
          have HTK : Hid (l.tab.take (i + 1) = l.tab.take i ++ [e]) := by show _ = _; rw [List.take_add_one, he]; rfl
          have HFL : Hid (((l.tab.take i).flatMap (fun e => rows.map (fun p => e.2 * p))).length = i * nr) := by
            show _ = _
            rw [flat_len _ nr _ (fun e _ => by rw [List.length_map, HNR.out]), List.length_take, HNT.out, Nat.min_eq_left (by omega)]
          have HLT : Hid ((i + 1) * nr ≤ 8916100448256) := by
            show _ ≤ _
            exact Nat.le_trans (Nat.mul_le_mul_right _ hit) HTL.out
          clear hM hlook
          generalize hFE : (l.tab.take i).flatMap (fun e => rows.map (fun p => e.2 * p)) = F at *
          have HFE := hide hFE
          clear hFE
          obtain ⟨wm, hwm⟩ : ∃ wm, wm = wr := ⟨_, rfl⟩
          subst hwm
          go_wp2
          go_loopw [6, 33] (fun sm sj wi => ∃ (j : Nat) (v : Value), j ≤ nr ∧ sm = v ∧ sj = .int .i64 j ∧ AllR wl wi v (F ++ (rows.take j).map (fun p => e.2 * p))) (fun _ sj _ => nr - (intOf sj).toNat)
          case atStart => exact ⟨0, _, Nat.zero_le _, rfl, rfl, by rw [List.take_zero, List.map_nil, List.append_nil]; exact HM.out⟩
          case round =>
            obtain ⟨j, v7, hj, rfl, rfl, hI⟩ := hrel
            by_cases hjt : j < nr
            · obtain ⟨p, hp⟩ : ∃ p, rows[j]? = some p := ⟨_, List.getElem?_eq_getElem (by rw [HNR.out]; exact hjt)⟩
              have hbi : Below wo.heap.size wo wr := HBl.out.trans (hI.below.mono HBl.out.size)
              have hrange : wr.rangeAt rb (j * 12) (p.l.map (Value.int .i8)) := (HR.out.later hbi).at hp
              have hin : (Try.prog.info? 91).map (·.size) = some (p.l.map (Value.int .i8)).length := by rw [List.length_map, p.len]; exact Try.size91
              have hpl := p.len
              have hI7 : Hid ((F ++ (rows.take j).map (fun p => e.2 * p)).length = i * nr + j) := by
                show _ = _
                rw [List.length_append, HFL.out, List.length_map, List.length_take, HNR.out, Nat.min_eq_left (by omega)]
              have HI := hide hI
              have HBI := hide hbi
              have HPJ : Hid (rows.take (j + 1) = rows.take j ++ [p]) := by show _ = _; rw [List.take_add_one, hp]; rfl
              have hxx : wr.heap[wo.heap.size]? = _ := (hI.below.block wo.heap.size (by have := HWL.out; omega)).trans HX.out
              have hmap : wr.cell? ⟨wo.heap.size, 1, none⟩ = some (.map (some mm)) := by simp [World.cell?, hxx]
              have hisz : wo.heap.size < wr.heap.size := by have := hI.below.size; have := HWL.out; omega
              have HW6 : Hid (∀ (o : Obj) (w6 : World), (wr.alloc o).grownBy w6 (some wr.heap.size) → w6.cell? ⟨wo.heap.size, 1, none⟩ = some (.map (some mm)) ∧ Hid (IMap w6 mm (rawOf l).n (rawOf l).f) ∧ Hid (Below wr.heap.size wr w6)) := fun o w6 hg6 => by
                have hb6 : Below wr.heap.size wr w6 := ((Below.refl _ _).alloc (Nat.le_refl _) _).grown hg6 (by simp) (fun k h => by have := Option.some.inj h; omega)
                exact ⟨(hb6.cell (p := ⟨wo.heap.size, 1, none⟩) (by omega)).trans hmap, HMP.out.below (hbi.trans (hb6.mono hbi.size)) HMP.out.lt, hb6⟩
              clear hI hbi
              go_wp2_with (first
                | refine wpList_load_mid rfl 91 _ rfl rb _ rfl _ _ hrange Try.underlying91 rfl hin ?_
                | (refine wpList_store_arr rfl _ _ rfl wr.heap.size zeros12 p.l (zeros_new wr) rfl rfl hpl ?_; intro w6 hX6 hg6; obtain ⟨hm6, HMP6, HB6⟩ := HW6.out _ w6 hg6; clear hg6)
                | refine wpList_look_is rfl _ _ 134 rfl 91 Try.underlying134 (Try.zero91 _) HMP6.out ((e.1 : Nat) : Int) rfl rfl (by omega) (by omega) HLK.out ?_
                | refine wpList_load_arr rfl _ rfl wr.heap.size p.l hX6 rfl ?_)
              refine (ptimes_raw e.2 p _).mono ?_
              rintro e0 w7 ⟨rfl, hb7⟩
              have hb67 : Below wr.heap.size wr w7 := HB6.out.trans (hb7.mono HB6.out.size)
              have hA7 := HI.out.later hb67
              have HLS : Hid ((F ++ (rows.take j).map (fun p => e.2 * p)) ++ [e.2 * p] = F ++ (rows.take (j + 1)).map (fun p => e.2 * p)) := by
                show _ = _
                rw [HPJ.out, List.map_append, List.append_assoc]; rfl
              generalize F ++ (rows.take j).map (fun p => e.2 * p) = L at *
              have HA7 := hide hA7
              have HLM : Hid (L.length + 1 ≤ 8916100448256) := by
                have h1 := hI7.out
                have h2 := HLT.out
                rw [Nat.succ_mul] at h2
                show _ ≤ _
                omega
              obtain ⟨i0, hi0, hz0, hz1, hz2⟩ := info_parts Try.info91
              have HPL : Hid (((e.2 * p).l.map (Value.int .i8)).length = 1 * 12) := by show _ = _; rw [List.length_map, Pm.len]
              have HO1 : Hid (∀ u ∈ (e.2 * p).l.map (Value.int .i8), u.oneCell' = true) := i8_one _
              have HM1 : Hid (L.length + 1 ≤ maxLen) := by have := HLM.out; show L.length + 1 ≤ maxLen; unfold maxLen; omega
              have HY1 : Hid ((L.length + 1) * 12 ≤ 140737488355328) := by have := HLM.out; show (L.length + 1) * 12 ≤ _; omega
              have HS1 : Hid (wl.heap.size ≤ (w7.alloc (.cells (i8s (e.2 * p).l) 91)).heap.size) := by have := hA7.below.size; show _ ≤ _; simp; omega
              have HNW : Hid (∀ j u, ((e.2 * p).l.map (Value.int .i8))[j]? = some u → (w7.alloc (.cells (i8s (e.2 * p).l) 91)).cell? ((⟨w7.heap.size, 0, none⟩ : Addr).add j) = some u) := fun j u hu => by
                rw [Addr.add_mid]; exact (Arr.new w7 (e.2 * p).l (Pm.len _)).range j u hu
              have HO7 : Hid (AllR wl (w7.alloc (.cells (i8s (e.2 * p).l) 91)) u6 L) := hA7.later ((Below.refl _ _).alloc (Nat.le_refl _) _)
              clear hA7 hb67 hb7 hX6 hm6 hrange hmap hxx
              go_wp2_with (first
                | refine wpList_build rfl _ rfl (e.2 * p) rfl ?_
                | (refine wpList_append_keep (w7.alloc (.cells (i8s (e.2 * p).l) 91)) rfl _ _ 88 rfl wl.heap.size 91 i0 (.agg (i8s zeros12)) 12 12 Try.underlying88 hi0 hz0 hz1 hz2 rfl (by decide) _ L.length _ rfl HO7.out.own ⟨w7.heap.size, 0, none⟩ 1 1 ((e.2 * p).l.map (Value.int .i8)) rfl HPL.out HNW.out HO1.out HM1.out HY1.out HS1.out ?_; intro v8 w8 hown8 hg8 hloc8))
              have hA8 := HO7.out.push hown8 hg8
              rw [HLS.out] at hA8
              go_wp2
              go_roundw
              case rel =>
                have hfin : ∃ (j' : Nat) (v : Value), j' ≤ nr ∧ v8 = v ∧ Value.int .i64 ((j : Int) + 1) = .int .i64 (j' : Int) ∧ AllR wl w8 v (F ++ (rows.take j').map (fun p => e.2 * p)) := ⟨j + 1, v8, hjt, rfl, by go_num, hA8⟩
                first
                  | exact hfin
                  | ((repeat apply Exists.intro); exact ⟨hfin, rfl⟩)
              case measure => simp [intOf]; omega
            · obtain rfl : j = nr := by omega
              have hA9 := hI
              rw [List.take_of_length_le (by rw [HNR.out]; exact Nat.le_refl _)] at hA9
              have HA9 := hide hA9
              clear hI hA9
              go_wp2
              go_roundw
              case rel =>
                have hfin : ∃ (i' : Nat) (v : Value), i' ≤ nt ∧ u6 = v ∧ Value.int .i64 ((i : Int) + 1) = .int .i64 (i' : Int) ∧ AllR wl wr v ((l.tab.take i').flatMap (fun e => rows.map (fun p => e.2 * p))) := ⟨i + 1, _, hit, rfl, by go_num, by rw [HTK.out, List.flatMap_append, HFE.out]; show AllR wl wr _ (F ++ (rows.map (fun p => e.2 * p) ++ [])); rw [List.append_nil]; exact HA9.out⟩
                first
                  | exact hfin
                  | ((repeat apply Exists.intro); exact ⟨hfin, rfl⟩)
              case measure => simp [intOf]; omega
        · obtain rfl : i = nt := by omega
          rw [List.take_of_length_le (by rw [HNT.out]; exact Nat.le_refl _), ← HT.out] at hM
          have hA9 : AllR w wr u6 (allC (C.drop k)) := by
            have h1 := HR.out.below
            have h2 := HBl.out
            have h3 := hM.own
            have hs := HWL.out
            refine ⟨?_, (h1.trans (h2.mono h1.size)).trans (hM.below.mono (by have := h1.size; omega))⟩
            rcases h3 with ⟨h4, h5⟩
            refine ⟨h4, ?_⟩
            rcases h5 with h5 | ⟨g, cap, cur, hv, hg, r⟩
            · exact Or.inl h5
            · exact Or.inr ⟨g, cap, cur, hv, by have := h1.size; omega, r⟩
          have HA9 := hide hA9
          clear hM hA9
          go_wp2
          go_roundw
          case rel =>
            have hfin : ∃ (k' : Nat) (v : Value), k' ≤ n ∧ u6 = v ∧ Value.int .i64 ((k : Int) - 1) = .int .i64 ((k' : Int) - 1) ∧ AllR w wr v (allC (C.drop k')) := ⟨k, _, by omega, rfl, rfl, HA9.out⟩
            first
              | exact hfin
              | ((repeat apply Exists.intro); exact ⟨hfin, rfl⟩)
          case measure => simp [intOf]
    · obtain rfl : k = 0 := by omega
      have HR := hide hR
      clear hR
      go_wp2
      go_ret
      exact ⟨_, rfl, HR.out⟩
end Go.Proofs.Ytimfoggjocajiaa

/- How rows are come to, in memory: steps as values, and what a search for the shortest word holds. -/
namespace Go.Proofs.Ytimfoggjocajiaa
open Go.RowKit Go.Maps

theorem gpne (x y : Pm) (w : World) : ∃ r : Bool, (binOp .neq 91 (.agg (i8s x.l)) (.agg (i8s y.l))).run Try.prog w = .ok (.bool r) w ∧ (r = false ↔ x = y) := by
  obtain ⟨f1, l1, h1⟩ := gkeyT.lits (okK_pm x)
  obtain ⟨f2, l2, h2⟩ := gkeyT.lits (okK_pm y)
  obtain ⟨r, hr, hiff⟩ := run_equalIn_deep (P := Try.prog) 9997 3 91 (by kernel_rfl) w _ _ _ _ l1 l2 f1 f2 h1 h2
  refine ⟨!r, ?_, ?_⟩
  · rw [run_neq_struct]
    have hr' : (Op.equalIn 10000 91 (.agg (i8s x.l)) (.agg (i8s y.l))).run Try.prog w = .ok r w := hr
    rw [hr']
    rfl
  · rw [Bool.not_eq_false']
    refine hiff.trans ⟨fun e => ?_, fun e => ?_⟩
    · obtain ⟨lx, hx⟩ : ∃ l, keyOf Try.prog 91 (pv x) = some l := gkeyT.mk' (okK_pm x)
      have hk := gkeyT.same (okK_pm x) (okK_pm y) (by rw [h1, h2, e])
      exact Pm.eq_of_l (kv_inj (gkeyT.keyed.inj hx (hk ▸ hx)))
    · subst e
      rw [h1] at h2
      exact Option.some.inj h2

theorem gpne' (x y : Pm) (r : Bool) (h : r = false ↔ x = y) (w : World) : (binOp .neq 91 (.agg (x.l.map (Value.int .i8)).toArray) (.agg (y.l.map (Value.int .i8)).toArray)).run Try.prog w = .ok (.bool r) w := by
  obtain ⟨r', h1, h2⟩ := gpne x y w
  have : r = r' := by
    cases r <;> cases r' <;> simp_all
  rw [this]
  exact h1

def slenV : Value → Nat
  | .slice _ n _ => n
  | _ => 0

def zeros13 : Value := .agg #[.int .i8 0, .int .i8 0, .int .i8 0, .int .i8 0, .int .i8 0, .int .i8 0, .int .i8 0, .int .i8 0, .int .i8 0, .int .i8 0, .int .i8 0, .int .i8 0, .int .i64 0]

theorem zeroStep (w : World) : (zeroValue 159).run Try.prog w = .ok zeros13 w := by kernel_rfl

theorem run_step_zero (w : World) : (Instr.build 159 #[]).run Try.prog w = .ok zeros13 w := by kernel_rfl

theorem run_step12 (a0 a1 a2 a3 a4 a5 a6 a7 a8 a9 a10 a11 l : Int) (w : World) : (Instr.build 159 #[(0, .agg #[.int .i8 a0, .int .i8 a1, .int .i8 a2, .int .i8 a3, .int .i8 a4, .int .i8 a5, .int .i8 a6, .int .i8 a7, .int .i8 a8, .int .i8 a9, .int .i8 a10, .int .i8 a11]), (1, .int .i64 l)]).run Try.prog w =
    .ok (.agg #[.int .i8 a0, .int .i8 a1, .int .i8 a2, .int .i8 a3, .int .i8 a4, .int .i8 a5, .int .i8 a6, .int .i8 a7, .int .i8 a8, .int .i8 a9, .int .i8 a10, .int .i8 a11, .int .i64 l]) w := by kernel_rfl

theorem run_step_build (y : Pm) (l : Int) (w : World) : (Instr.build 159 #[(0, .agg (i8s y.l)), (1, .int .i64 l)]).run Try.prog w = .ok (sv y l) w := by
  obtain ⟨a0, a1, a2, a3, a4, a5, a6, a7, a8, a9, a10, a11, e⟩ := list12 y.len
  unfold sv i8s
  rw [e]
  exact run_step12 a0 a1 a2 a3 a4 a5 a6 a7 a8 a9 a10 a11 l w

theorem run_letter12 (a0 a1 a2 a3 a4 a5 a6 a7 a8 a9 a10 a11 l : Int) (w : World) : (Instr.field 159 (.agg #[.int .i8 a0, .int .i8 a1, .int .i8 a2, .int .i8 a3, .int .i8 a4, .int .i8 a5, .int .i8 a6, .int .i8 a7, .int .i8 a8, .int .i8 a9, .int .i8 a10, .int .i8 a11, .int .i64 l]) 1).run Try.prog w = .ok (.int .i64 l) w := by kernel_rfl

theorem run_step_letter (y : Pm) (l : Int) (w : World) : (Instr.field 159 (sv y l) 1).run Try.prog w = .ok (.int .i64 l) w := by
  obtain ⟨a0, a1, a2, a3, a4, a5, a6, a7, a8, a9, a10, a11, e⟩ := list12 y.len
  unfold sv
  rw [e]
  exact run_letter12 a0 a1 a2 a3 a4 a5 a6 a7 a8 a9 a10 a11 l w

theorem run_from12 (a0 a1 a2 a3 a4 a5 a6 a7 a8 a9 a10 a11 l : Int) (w : World) : (Instr.field 159 (.agg #[.int .i8 a0, .int .i8 a1, .int .i8 a2, .int .i8 a3, .int .i8 a4, .int .i8 a5, .int .i8 a6, .int .i8 a7, .int .i8 a8, .int .i8 a9, .int .i8 a10, .int .i8 a11, .int .i64 l]) 0).run Try.prog w = .ok (.agg #[.int .i8 a0, .int .i8 a1, .int .i8 a2, .int .i8 a3, .int .i8 a4, .int .i8 a5, .int .i8 a6, .int .i8 a7, .int .i8 a8, .int .i8 a9, .int .i8 a10, .int .i8 a11]) w := by kernel_rfl

theorem run_step_from (y : Pm) (l : Int) (w : World) : (Instr.field 159 (sv y l) 0).run Try.prog w = .ok (.agg (i8s y.l)) w := by
  obtain ⟨a0, a1, a2, a3, a4, a5, a6, a7, a8, a9, a10, a11, e⟩ := list12 y.len
  unfold sv i8s
  rw [e]
  exact run_from12 a0 a1 a2 a3 a4 a5 a6 a7 a8 a9 a10 a11 l w

theorem sizeStep : (Try.prog.info? 159).map (·.size) = some 13 := by kernel_rfl

/-- A step's value, whatever it is. -/
def Stp (u : Value) : Prop := ∃ cs : Array Value, u = .agg cs ∧ cs.size = 13 ∧ cs.all (·.oneCell') = true

theorem Stp.zero : Stp zeros13 := ⟨_, rfl, rfl, by kernel_rfl⟩

theorem Stp.sv (y : Pm) (l : Int) : Stp (sv y l) := ⟨_, rfl, by simp [y.len], by
  rw [Array.all_eq_true_iff_forall_mem]
  intro v hv
  simp at hv
  rcases hv with ⟨a, _, rfl⟩ | rfl
  · rfl
  · rfl⟩

theorem run_store_step {w : World} {b : Nat} {c : Array Value} {u : Value} (hb : w.heap[b]? = some (.cells c 159)) (hc : c.size = 13) (hu : Stp u) :
    ∃ w', (Instr.storeAt 159 (.pointer (some ⟨b, 0, none⟩)) u).run Try.prog w = .ok () w' ∧ w.grownBy w' (some b) := by
  obtain ⟨cs, rfl, hsz, hone⟩ := hu
  refine ⟨w.setRow b cs, ?_, ⟨rfl, rfl, rfl, by simp [World.setRow], fun i hi hne => ?_⟩⟩
  · simp only [Instr.storeAt, Instr.sureAddr, Sem.run_bind, Sem.run_pure, Result.andThen]
    exact run_storeVar_row w b _ _ _ _ hb (by rw [sizeStep, hsz]) (by rw [hsz, hc]) hone
  · simp only [World.setRow, Array.getElem?_modify]
    rw [if_neg (fun e => hne (by rw [e]))]

section
variable {K E : TypeId} {q : IntKind} {w w' : World} {b n : Nat} {f : List Int → Option Value}

/-- 'm[a]'. -/
theorem KMap.look (hK : KeyT K E q) (h : KMap K q w b n f) {t e : TypeId} (ht : Try.prog.underlying t = some (.map K e)) {z : Value} (hz : (zeroValue e).run Try.prog w = .ok z w) {zs : List Int} (hzs : OkK q zs) :
    (Instr.lookup t (.map (some b)) (kv q zs) false).run Try.prog w = .ok ((f zs).getD z) w := by
  obtain ⟨D, hD, hf⟩ := h
  obtain ⟨l, hl⟩ := hK.mk' hzs
  obtain ⟨v, ps, hrun, hv⟩ := hD.lookup hK.keyed ht hz (zd := .held z) (zp := []) rfl hl
  have hv' : DataW.held v = D.atKey l (.held z) := (Prod.mk.inj (Option.some.inj hv)).1
  have hfz := hf zs hzs l hl
  rw [hrun]
  cases hfa : f zs with
  | none =>
    have hh := hfz.1
    rw [hfa] at hh
    rw [atKey_of_not_has hh] at hv'
    rw [DataW.held.inj hv']; rfl
  | some u =>
    rw [hfz.2 u hfa] at hv'
    rw [DataW.held.inj hv']; rfl

variable {ops : Array Oper} {rest : List Oper} {o : Oper} {a : Act} {Q : Exit → Act → World → Prop}

theorem wpList_klook1 (hg : o.guard = none) (m x : Operand) (t : TypeId) (hop : o.op = Op.lookup t m x false) (e : TypeId) (ht : Try.prog.underlying t = some (.map K e)) {z : Value} (hz : (zeroValue e).run Try.prog w = .ok z w)
    (hK : KeyT K E q) (h : KMap K q w b n f) (zs : List Int) (hzs : OkK q zs) (hm : a.eval m = .map (some b)) (hx : a.eval x = kv q zs) {v : Value} (hv : (f zs).getD z = v)
    (hC : wpList Try.prog ops Q rest (a.put o.dst v) w) : wpList Try.prog ops Q (o :: rest) a w := by
  subst hv
  refine wpList_plain hg fun K' hK' => ?_
  have hrun := h.look hK ht hz hzs
  unfold Oper.wp
  simp [execOp, hop, hm, hx, hrun, Result.andThen]
  exact hK' _ _ hC

theorem wpList_step_zero (hg : o.guard = none) (hop : o.op = Op.build 159 #[])
    (hC : wpList Try.prog ops Q rest (a.put o.dst zeros13) w) : wpList Try.prog ops Q (o :: rest) a w := by
  refine wpList_plain hg fun K' hK' => ?_
  have hrun := run_step_zero w
  unfold Oper.wp
  simp [execOp, hop, hrun, Result.andThen]
  exact hK' _ _ hC

theorem wpList_store_step (hgd : o.guard = none) (x y : Operand) (ho : o.op = .store 159 x y)
    (b : Nat) (c : Array Value) (u : Value) (hA : w.heap[b]? = some (.cells c 159)) (hc : c.size = 13) (hu : Stp u) (hx : a.eval x = .pointer (some ⟨b, 0, none⟩)) (hy : a.eval y = u)
    (h : ∀ w', w.grownBy w' (some b) → wpList Try.prog ops Q rest (a.put o.dst undef) w') : wpList Try.prog ops Q (o :: rest) a w := by
  refine wpList_plain hgd fun K hK => ?_
  obtain ⟨w', hrun, h2⟩ := run_store_step hA hc hu
  unfold Oper.wp execOp
  simp only [ho, hx, hy, hrun, Sem.run_bind, Sem.run_pure, Result.andThen_ok]
  exact hK _ _ (h w' h2)

theorem wpList_field_letter (hg : o.guard = none) (x : Operand) (hop : o.op = Op.field 159 x 1) (y : Pm) (l : Int) (hx : a.eval x = sv y l)
    (hC : wpList Try.prog ops Q rest (a.put o.dst (.int .i64 l)) w) : wpList Try.prog ops Q (o :: rest) a w := by
  refine wpList_plain hg fun K' hK' => ?_
  have hrun := run_step_letter y l w
  unfold Oper.wp
  simp [execOp, hop, hx, hrun, Result.andThen]
  exact hK' _ _ hC

theorem wpList_field_from (hg : o.guard = none) (x : Operand) (hop : o.op = Op.field 159 x 0) (y : Pm) (l : Int) (hx : a.eval x = sv y l)
    (hC : wpList Try.prog ops Q rest (a.put o.dst (.agg (i8s y.l))) w) : wpList Try.prog ops Q (o :: rest) a w := by
  refine wpList_plain hg fun K' hK' => ?_
  have hrun := run_step_from y l w
  unfold Oper.wp
  simp [execOp, hop, hx, hrun, Result.andThen]
  exact hK' _ _ hC
end

theorem ownsE_lw {w : World} {base base' e size n : Nat} {v : Value} {xs : List Value} (h : w.ownsRow base e size v n xs) (hb : base' ≤ base) : w.ownsRow base' e size v n xs := by
  rcases h with ⟨h4, h5⟩
  refine ⟨h4, ?_⟩
  rcases h5 with h5 | ⟨g, cap, cur, hv, hg, r⟩
  · exact Or.inl h5
  · exact Or.inr ⟨g, cap, cur, hv, Nat.le_trans hb hg, r⟩

theorem wpList_klook2 {K E : TypeId} {q : IntKind} {w : World} {b n : Nat} {f : List Int → Option Value} {ops : Array Oper} {rest : List Oper} {o : Oper} {a : Act} {Q : Exit → Act → World → Prop} (hg : o.guard = none) (m x : Operand) (t : TypeId) (hop : o.op = Op.lookup t m x true) (e : TypeId) (ht : Try.prog.underlying t = some (.map K e)) {z : Value} (hz : (zeroValue e).run Try.prog w = .ok z w)
    (hK : KeyT K E q) (h : KMap K q w b n f) (zs : List Int) (hzs : OkK q zs) (hm : a.eval m = .map (some b)) (hx : a.eval x = kv q zs) {u : Value} {tb : Bool} (hu : (f zs).getD z = u) (htb : (f zs).isSome = tb)
    (hC : wpList Try.prog ops Q rest (a.put o.dst (.tuple #[u, .bool tb])) w) : wpList Try.prog ops Q (o :: rest) a w := by
  subst hu; subst htb
  exact wpList_klook hg m x t hop e ht hz hK h zs hzs hm hx hC

theorem yieldsIf_step_build {ops : Array Oper} {S : World → Prop} {op : Oper} {a : Act} (hw : Region.wanted op (yielded ops a.tmps) = true) (x y : Operand) (ho : op.op = .build 159 #[(0, x), (1, y)]) (p : Pm) (l : Int)
    (hx : a.eval x = .agg (p.l.map (Value.int .i8)).toArray) (hy : a.eval y = .int .i64 l) : YieldsIf Try.prog ops S op (sv p l) a :=
  .inl ⟨hw, fun w _ => by
    have hrun := run_step_build p l w
    unfold i8s at hrun
    unfold execOp
    simp only [ho, List.map_toArray, List.map_cons, List.map_nil, hx, hy, hrun, Sem.run_bind, Sem.run_pure, Result.andThen_ok]⟩

theorem step_kput {K E : TypeId} {q : IntKind} {w : World} {b n : Nat} {f : List Int → Option Value} {ops : Array Oper} {o : Oper} {a : Act} {C : Act → World → Prop} {Q : Exit → Act → World → Prop} {D : Prop} (hg : o.guard = none) (m x v : Operand) (t : TypeId) (hop : o.op = Op.mapUpdate t m x v) (e : TypeId) (ht : Try.prog.underlying t = some (.map K e))
    (hK : KeyT K E q) (h : KMap K q w b n f) (hn : n < maxLen) (zs : List Int) (hzs : OkK q zs) (val : Value) (hm : a.eval m = .map (some b)) (hx : a.eval x = kv q zs) (hv : a.eval v = val)
    (hC : ∀ w', KMap K q w' b (n + 1) (kupd f zs val) → w.grownBy w' (some b) → C (a.put o.dst undef) w') : if Region.wanted o (yielded ops a.tmps) = true then Oper.wp Try.prog o a w C Q else D := by
  obtain ⟨w', hrun, r1, r2⟩ := h.put hK ht hn hzs val
  exact step_skip hg (by unfold execOp; simp only [hop, hm, hx, hv, hrun, Sem.run_bind, Sem.run_pure, Result.andThen_ok]) (hC w' r1 r2)

theorem Arr.kept_own {w w' : World} {b base n : Nat} {zs : List Int} {v : Value} {xs : List Value} (h : Arr w b zs) (ho : w.ownsRow base 3 1 v n xs) (hg : w.grownBy w' v.ownBlock) : Arr w' b zs := by
  rcases ho.2 with ⟨h0, _⟩ | ⟨g, cap, cur, hv, _, hh, _⟩
  · subst h0
    refine ⟨(hg.block b h.lt (fun e => by cases e)).trans h.1, h.2⟩
  · subst hv
    refine ⟨(hg.block b h.lt (fun e => ?_)).trans h.1, h.2⟩
    have e' : b = g := Option.some.inj e
    subst e'
    rw [h.1] at hh
    injection hh with hh
    injection hh with _ hh
    exact absurd hh (by decide)

/-- What the search holds. -/
structure ShR (w wr : World) (m : Nat) (v : Value) (S : List (Pm × List Int)) (f : List Int → Option Value) (x : Pm) : Prop where
  rows : wr.ownsRow (m + 1) 91 12 v S.length (gcells (S.map (·.1)))
  mp : KMap 91 .i8 wr m S.length f
  box : Arr wr w.heap.size x.l
  form : ∀ zs u, f zs = some u → Stp u
  came : Came sv S f
  lo : w.heap.size < m
  below : Below w.heap.size w wr

theorem ShR.later {w wr w' : World} {m : Nat} {v : Value} {S : List (Pm × List Int)} {f : List Int → Option Value} {x : Pm} (h : ShR w wr m v S f x) (hb : Below wr.heap.size wr w') : ShR w w' m v S f x :=
  ⟨ownsE_below h.rows hb (Nat.le_refl _), h.mp.below hb h.mp.lt, h.box.below hb h.box.lt, h.form, h.came, h.lo, h.below.trans (hb.mono h.below.size)⟩

theorem ShR.all {w wr : World} {m : Nat} {v : Value} {S : List (Pm × List Int)} {f : List Int → Option Value} {x : Pm} (h : ShR w wr m v S f x) : AllR w wr v (S.map (·.1)) :=
  ⟨by rw [List.length_map]; exact ownsE_lw h.rows (by have := h.lo; omega), h.below⟩

theorem ShR.put {w wr w' : World} {m : Nat} {v : Value} {S : List (Pm × List Int)} {f : List Int → Option Value} {x : Pm} (h : ShR w wr m v S f x) (hg : wr.grownBy w' (some m)) :
    w'.ownsRow (m + 1) 91 12 v S.length (gcells (S.map (·.1))) ∧ Arr w' w.heap.size x.l ∧ Below w.heap.size w w' := by
  have hlo := h.lo
  have hmlt := h.mp.lt
  have hb : Below m wr w' := ⟨hg.os, hg.tape, hg.output, hg.size, fun b hb => hg.block b (by omega) (fun e => by have := Option.some.inj e; omega)⟩
  refine ⟨?_, h.box.below hb hlo, h.below.trans (hb.mono (by omega))⟩
  obtain ⟨h1, h2⟩ := h.rows
  refine ⟨h1, ?_⟩
  rcases h2 with h2 | ⟨g, cap, cur, hv, hg', hh, r⟩
  · exact Or.inl h2
  · exact Or.inr ⟨g, cap, cur, hv, hg', by rw [hg.block g (Array.getElem?_eq_some_iff.1 hh).1 (fun e => by have := Option.some.inj e; omega)]; exact hh, r⟩

/-- One more row is found. -/
theorem ShR.push {w wr w1 w2 w' : World} {m : Nat} {v v' : Value} {S : List (Pm × List Int)} {f : List Int → Option Value} {x : Pm} {e : Pm × List Int} {l : Int × Pm} {o : Obj} (h : ShR w wr m v S f x) (he : e ∈ S) (hn : ¬ e.1 * l.2 ∈ S.map (·.1))
    (hm : KMap 91 .i8 w1 m (S.length + 1) (kupd f (e.1 * l.2).l (sv e.1 l.1))) (hg1 : wr.grownBy w1 (some m)) (hb2 : Below w1.heap.size w1 w2)
    (ho : w'.ownsRow (m + 1) 91 12 v' (S.length + 1) (gcells (S.map (·.1)) ++ (e.1 * l.2).l.map (Value.int .i8))) (hg : (w2.alloc o).grownBy w' v.ownBlock) : ShR w w' m v' (S ++ [(e.1 * l.2, e.2 ++ [l.1])]) (kupd f (e.1 * l.2).l (sv e.1 l.1)) x := by
  obtain ⟨r1, r2, r3⟩ := h.put hg1
  have hlo := h.lo
  have hm1 := hm.lt
  have r1' : (w2.alloc o).ownsRow (m + 1) 91 12 v S.length (gcells (S.map (·.1))) := (ownsE_below r1 hb2 (Nat.le_refl _)).alloc o
  have hb3 : Below w1.heap.size w1 (w2.alloc o) := hb2.alloc hb2.size o
  have hne : ∀ k, k ≤ m → some k ≠ v.ownBlock := fun k hk e => by have := (r1'.lt k e.symm).1; omega
  have hbm : Below (m + 1) (w2.alloc o) w' := ⟨hg.os, hg.tape, hg.output, hg.size, fun b hb => hg.block b (by have := hb3.size; omega) (hne b (by omega))⟩
  refine ⟨?_, ?_, ?_, ?_, h.came.grow he hn rfl, hlo, ?_⟩
  · rw [List.length_append, List.map_append]
    show World.ownsRow w' (m + 1) 91 12 v' (S.length + 1) (gcells (S.map (·.1) ++ [e.1 * l.2]))
    rw [gcells_snoc]
    exact ho
  · rw [List.length_append]
    exact (hm.below hb3 hm.lt).below hbm (by omega)
  · exact (r2.below hb3 r2.lt).below hbm (by omega)
  · intro zs u hu
    unfold kupd at hu
    by_cases hz : zs = (e.1 * l.2).l
    · rw [if_pos hz] at hu
      rw [← Option.some.inj hu]
      exact Stp.sv _ _
    · rw [if_neg hz] at hu
      exact h.form zs u hu
  · exact (r3.trans (hb3.mono r3.size)).trans (hbm.mono (by omega))

end Go.Proofs.Ytimfoggjocajiaa

/- Contracts: Size, Bells, Has. -/
namespace Go.Proofs.Ytimfoggjocajiaa
open Go.RowKit

set_option maxRecDepth 20000 in
set_option maxHeartbeats 1000000 in
theorem gsize_ok (n : Nat) (v : Value) (gs : List Pm) (w : World) (h12 : n ≤ 12) (hG : GroupAt w v n gs) :
    Calls Try.prog 18 #[v] w fun e w' => e = .returned (.int .i64 (sz (Gen (fun y => y ∈ gs)) n : Nat)) ∧ Below w.heap.size w w' := by
  obtain ⟨g1, vg1, B1, c1, bs1, C1, st1, rfl, hg1, a10, a11, a12, hP1, hC1, hb1, rfl⟩ := hG
  have HS := hide (size_ok hC1 h12 hb1 w (Below.refl _ _))
  rw [hC1.sz h12] at HS
  clear hP1 hC1 hb1
  go_enter Try.func18, Try.ntmps18
  go_wp2_with fail
  refine HS.out.mono ?_
  rintro e w1 ⟨rfl, hb⟩
  go_wp2
  go_ret
  exact ⟨rfl, hb⟩

set_option maxRecDepth 20000 in
set_option maxHeartbeats 1000000 in
theorem gbells_ok (n : Nat) (v : Value) (gs : List Pm) (w : World) (hG : GroupAt w v n gs) :
    Calls Try.prog 19 #[v] w fun e w' => e = .returned (.int .i64 (n : Nat)) ∧ w = w' := by
  obtain ⟨g1, vg1, B1, c1, bs1, C1, st1, rfl, hg1, a10, a11, a12, hP1, hC1, hb1, rfl⟩ := hG
  clear hP1 hC1 hb1
  go_enter Try.func19, Try.ntmps19
  go_wp2
  go_ret
  exact ⟨rfl, rfl⟩

end Go.Proofs.Ytimfoggjocajiaa

/- Contracts: Normal's closure; Normal. -/
namespace Go.Proofs.Ytimfoggjocajiaa
open Go.RowKit

theorem pin (x : Pm) : (Try.prog.info? 91).map (·.size) = some (x.l.map (Value.int .i8)).length := by rw [List.length_map, x.len]; exact Try.size91

end Go.Proofs.Ytimfoggjocajiaa

/- Contract: Normal, of two groups of as many bells. -/
namespace Go.Proofs.Ytimfoggjocajiaa
open Go.RowKit

/-- What Normal answers. -/
def NormalPost (gs hs : List Pm) (w : World) (e : Ending) (w' : World) : Prop := ∃ (r : Bool) (c : Int), e = .returned (.tuple #[.bool r, .int .i64 c]) ∧
  ((c = 14 ∧ r = false ∧ ∃ y, y ∈ hs ∧ ¬ Gen (fun z => z ∈ gs) y) ∨ (c = 0 ∧ (∀ y, y ∈ hs → Gen (fun z => z ∈ gs) y) ∧ (r = true ↔ ∀ x, x ∈ gs → ∀ y, y ∈ hs → Gen (fun z => z ∈ hs) (x * y * x⁻¹)))) ∧ Below w.heap.size w w'

theorem Chained.has {w : World} {B g n : Nat} {bs : List Nat} {C : List Lk} {st : Nat → St} {gs : List Pm} (h : Chained w B g n bs C st gs) {p : Pm} (hf : Fixes (fun b => n ≤ b) p) : hasC C p = true ↔ Gen (fun z => z ∈ gs) p := (has_iff h.whole hf).trans (h.gen p)

theorem Chained.fixes {w : World} {B g n : Nat} {bs : List Nat} {C : List Lk} {st : Nat → St} {gs : List Pm} (h : Chained w B g n bs C st gs) {p : Pm} (hp : Gen (fun z => z ∈ gs) p) : Fixes (fun b => n ≤ b) p := prd_fix h.whole ((h.gen p).2 hp)

theorem Chained.ask {w : World} {B g n : Nat} {bs : List Nat} {C : List Lk} {st : Nat → St} {gs : List Pm} (h : Chained w B g n bs C st gs) (h12 : n ≤ 12) (hbs : ∀ b, b ∈ bs → b < 12) {w' : World} (hb : Below w.heap.size w w') {p : Pm} (hf : Fixes (fun b => n ≤ b) p) :
    ∃ t : Bool, (t = true ↔ Gen (fun z => z ∈ gs) p) ∧ Calls Try.prog 69 #[.slice (some ⟨g, 0, none⟩) n n, .int .i64 0, .agg (p.l.map (Value.int .i8)).toArray] w' fun e w'' => e = .returned (.bool t) ∧ Below w'.heap.size w' w'' := by
  have hk := has_ok C 0 p w' (h.chain.below hb (Nat.le_refl _)) (Nat.zero_le _) (by rw [h.len]; exact h12) (fun l hl => hbs _ (by rw [← h.bases]; exact List.mem_map.2 ⟨l, hl, rfl⟩))
  rw [h.len, List.drop_zero] at hk
  exact ⟨_, h.has hf, hk⟩

theorem Packs.at {w : World} {p : Option Addr} {m cap : Nat} {gs : List Pm} (h : Packs w (.slice p m cap) gs) {k : Nat} (hk : k < gs.length) : ∃ b off q, p = some ⟨b, off, none⟩ ∧ gs[k]? = some q ∧ w.rangeAt b (off + k * 12) (q.l.map (Value.int .i8)) ∧ gs.length ≤ cap := by
  rcases h with ⟨e, _⟩ | ⟨b, off, cap', hv, _, hc, _, _, hr⟩
  · rw [e] at hk; simp at hk
  · injection hv with e1 _ e3
    exact ⟨b, off, gs[k], e1, List.getElem?_eq_getElem hk, hr k _ (List.getElem?_eq_getElem hk), by omega⟩

end Go.Proofs.Ytimfoggjocajiaa

/- Contract: Has. -/
namespace Go.Proofs.Ytimfoggjocajiaa
open Go.RowKit

theorem rchk_zero {n : Nat} {xs : List Int} (h : rchk n xs = 0) : isRow xs ∧ xs.length = n ∧ 1 ≤ n ∧ n ≤ 12 := by
  unfold rchk at h
  split at h
  · rename_i h0
    have hc := chk_zero h0
    split at h
    · rename_i hl; exact ⟨hc.2.2, hl, by omega, by omega⟩
    · omega
  · rename_i h0; exact absurd h h0

set_option maxRecDepth 20000 in
set_option maxHeartbeats 2000000 in
theorem ghas_no (n : Nat) (v v2 : Value) (gs : List Pm) (xs : List Int) (w : World) (hG : GroupAt w v n gs) (hI : Ints w v2 xs) (hz : rchk n xs ≠ 0) :
    Calls Try.prog 24 #[v, v2] w fun e w' => e = .returned (.tuple #[.bool false, .int .i64 (rchk n xs)]) ∧ Below w.heap.size w w' := by
  have HK := hide (checkRow_any n v2 xs w hI)
  obtain ⟨p, c, rfl⟩ := hI.form
  obtain ⟨g1, vg1, B1, c1, bs1, C1, st1, rfl, hg1, a10, a11, a12, hP1, hC1, hb1, rfl⟩ := hG
  have hne : (rchk n xs != 0) = true := by rw [bne_iff_ne]; exact hz
  clear hP1 hC1 hb1 hI hz
  generalize rchk n xs = z at *
  go_enter Try.func24, Try.ntmps24
  go_wp2_with fail
  refine HK.out.mono ?_
  rintro e w1 ⟨rfl, hb⟩
  go_wp2
  go_ret2
  exact ⟨rfl, hb⟩

set_option maxRecDepth 20000 in
set_option maxHeartbeats 2000000 in
theorem ghas_ok (n : Nat) (v v2 : Value) (gs : List Pm) (xs : List Int) (w : World) (hG : GroupAt w v n gs) (hI : Ints w v2 xs) (hz : rchk n xs = 0) :
    Calls Try.prog 24 #[v, v2] w fun e w' => ∃ t : Bool, (t = true ↔ Gen (fun y => y ∈ gs) (pad xs)) ∧ e = .returned (.tuple #[.bool t, .int .i64 0]) ∧ Below w.heap.size w w' := by
  obtain ⟨hr, hl, h1, h12⟩ := rchk_zero hz
  have HK := hide (checkRow_any n v2 xs w hI)
  rw [hz] at HK
  have HI := hide hI
  obtain ⟨p, c, rfl⟩ := hI.form
  obtain ⟨g1, vg1, B1, c1, bs1, C1, st1, rfl, hg1, a10, a11, a12, hP1, hC1, hb1, rfl⟩ := hG
  have HC1 := hide hC1
  have HB1 := hide hb1
  have HR := hide hr
  have HF := hide (pad_fixes h12 hl hr)
  have hx1 : 1 ≤ xs.length := by omega
  have hx12 : xs.length ≤ 12 := by omega
  clear hP1 hC1 hb1 hI hz hr hl
  go_enter Try.func24, Try.ntmps24
  go_wp2_with fail
  refine HK.out.mono ?_
  rintro e w1 ⟨rfl, hb⟩
  have f12 : w1.cell? ⟨g1, 2, none⟩ = some (.slice (some ⟨c1, 0, none⟩) n n) := (hb.cell (p := ⟨g1, 2, none⟩) hg1).trans a12
  have hs1 := hb.size
  have HPk := hide (pack_ok _ xs w1.drew (HI.out.below hb.drew) HR.out hx1 hx12)
  unfold pv i8s at HPk
  clear HK
  generalize xs.length = lx at *
  go_wp2
  refine wp_region_held_drew (S := fun W' => W'.cell? ⟨g1, 2, none⟩ = some (.slice (some ⟨c1, 0, none⟩) n n)) (by kernel_rfl) f12 (fun hS => ?_)
  refine wpAnyH_take (i := 0) (v := .pointer (some ⟨g1, 0, none⟩)) rfl (by kernel_rfl) (by kernel_rfl) (by kernel_rfl) (fun _ _ _ h => h) (Or.inl ⟨by rfl, fun w' _ => by go_simp⟩) hS ?_
  refine wpAnyH_take (i := 1) (v := .pointer (some ⟨g1, 0, none⟩)) rfl (by kernel_rfl) (by kernel_rfl) (by kernel_rfl) (fun _ _ _ h => h) (Or.inl ⟨by rfl, fun w' _ => by go_simp⟩) hS ?_
  refine wpAnyH_take (i := 2) (v := .pointer (some ⟨g1, 2, none⟩)) rfl (by kernel_rfl) (by kernel_rfl) (by kernel_rfl) (fun _ _ _ h => h) (Or.inl ⟨by rfl, fun w' _ => by go_simp⟩) hS ?_
  refine wpAnyH_take (i := 3) (v := .slice (some ⟨c1, 0, none⟩) n n) rfl (by kernel_rfl) (by kernel_rfl) (by kernel_rfl) (fun _ _ _ h => h) (Or.inl ⟨by rfl, fun w' hS' => by have hq := hS'; go_simp⟩) hS ?_
  refine wpAnyH_take (i := 4) (v := .slice p lx c) rfl (by kernel_rfl) (by kernel_rfl) (by kernel_rfl) (fun _ _ _ h => h) (Or.inl ⟨by rfl, fun w' _ => by go_simp⟩) hS ?_
  refine wpAnyH_ready (rs := [5]) (by kernel_rfl) (by simp) ?_
  refine AllReadyH.cons rfl (fun K hK => ?_) AllReadyH.nil
  go_simp
  refine HPk.out.mono ?_
  rintro e w2 ⟨rfl, hb2⟩
  replace hb2 := undrew hb2
  have f2 : w2.cell? ⟨g1, 2, none⟩ = some (.slice (some ⟨c1, 0, none⟩) n n) := (hb2.cell (p := ⟨g1, 2, none⟩) (by show g1 < w1.heap.size; omega)).trans f12
  have hB2 : Below w.heap.size w w2 := hb.trans (hb2.mono hb.size)
  refine hK.out _ _ f2 (fun _ => ?_)
  clear hK
  obtain ⟨t, ht, hask⟩ := HC1.out.ask h12 HB1.out (w' := w2) hB2 HF.out
  have HASK := hide hask
  have HTT := hide ht
  clear hask ht
  refine wpAnyH_ready (rs := [6]) (by kernel_rfl) (by simp) ?_
  refine AllReadyH.cons rfl (fun K hK => ?_) AllReadyH.nil
  go_simp
  refine HASK.out.mono ?_
  rintro e w3 ⟨rfl, hb3⟩
  have f3 : w3.cell? ⟨g1, 2, none⟩ = some (.slice (some ⟨c1, 0, none⟩) n n) := (hb3.cell (p := ⟨g1, 2, none⟩) (by show g1 < w2.heap.size; have := hb2.size; omega)).trans f2
  have hB3 : Below w.heap.size w w3 := hB2.trans (hb3.mono hB2.size)
  refine hK.out _ _ f3 (fun hS => ?_)
  clear hK
  refine wpAnyH_take (i := 7) (v := .bool t) rfl (by kernel_rfl) (by kernel_rfl) (by kernel_rfl) (fun _ _ _ h => h) (Or.inl ⟨by rfl, fun w' _ => by go_simp⟩) hS ?_
  refine wpAnyH_take (i := 8) (v := .int .i64 0) rfl (by kernel_rfl) (by kernel_rfl) (by kernel_rfl) (fun _ _ _ h => h) (Or.inl ⟨by rfl, fun w' _ => by go_simp⟩) hS ?_
  refine wpAnyH_done (by kernel_rfl) ?_ _
  go_wp2
  go_ret2
  exact ⟨t, HTT.out, rfl, hB3⟩
end Go.Proofs.Ytimfoggjocajiaa

/- Contract: change (a letter's row). -/
namespace Go.Proofs.Ytimfoggjocajiaa
open Go.RowKit

theorem ret_arr_tmp {fn : Func} {R : Ending → World → Prop} {a : Act} {w : World} {p u : Tmp} {b : Nat} {zs : List Int} {t : Value} (h : fn.results = #[.cell p 91, .tmp u]) (hp : a.tmps.getD p undef = .pointer (some ⟨b, 0, none⟩)) (hu : a.tmps.getD u undef = t) (hA : Arr w b zs) (hd : a.defers = []) (hR : R (.returned (.tuple #[.agg (i8s zs), t])) w) : bodyPost Try.prog fn R .ret a w := by
  refine bodyPost_ret (v := .tuple #[.agg (i8s zs), t]) ?_ hd hR
  have hp' : a.tmps[p]?.getD undef = .pointer (some ⟨b, 0, none⟩) := by simpa using hp
  have hu' : a.tmps[u]?.getD undef = t := by simpa using hu
  rw [results_cell_tmp h]
  simp [hp', hu', asAddr, Result.andThen, run_loadVar_arr hA]

set_option maxRecDepth 20000 in
set_option maxHeartbeats 2000000 in
theorem change_pos (n : Nat) (v : Value) (gs : List Pm) (k : Nat) (q : Pm) (w : World) (hG : GroupAt w v n gs) (hgl : gs.length ≤ 1000000) (hq : gs[k]? = some q) :
    Calls Try.prog 66 #[v, .int .i64 ((k : Int) + 1)] w fun e w' => e = .returned (.tuple #[.agg (i8s q.l), .bool true]) ∧ Below w.heap.size w w' := by
  obtain ⟨g1, vg1, B1, c1, bs1, C1, st1, rfl, hg1, a10, a11, a12, hP1, hC1, hb1, rfl⟩ := hG
  obtain ⟨p1, k1, rfl⟩ := hP1.form
  have hkl := (List.getElem?_eq_some_iff.1 hq).1
  have hB1 : ∀ o : Obj, Below w.heap.size w (w.alloc o) := fun o => (Below.refl _ _).alloc (Nat.le_refl _) o
  have hR0 := zeros_new w
  have hPk := hP1.below (hB1 (.cells #[.int .i8 0, .int .i8 0, .int .i8 0, .int .i8 0, .int .i8 0, .int .i8 0, .int .i8 0, .int .i8 0, .int .i8 0, .int .i8 0, .int .i8 0, .int .i8 0] 91)) (Nat.le_refl _)
  obtain ⟨b, off, q', hpp, hq', hrange, hcap⟩ := hPk.at hkl
  rw [hq] at hq'
  have := Option.some.inj hq'
  subst this
  have hb0 : ∀ o : Obj, (w.alloc o).cell? ⟨g1, 1, none⟩ = some (.slice p1 gs.length k1) := fun o => ((hB1 o).cell (p := ⟨g1, 1, none⟩) hg1).trans a11
  have hinq := pin q
  have hql := q.len
  have hk1 : (k : Int) + 1 ≤ (gs.length : Int) := by omega
  subst hpp
  clear hP1 hC1 hb1 hPk hq hq'
  go_enter Try.func66, Try.ntmps66
  go_wp2_with (first
    | refine wpList_load_mid rfl 91 _ rfl b _ rfl _ _ hrange Try.underlying91 rfl hinq ?_
    | (refine wpList_store_arr rfl _ _ rfl w.heap.size zeros12 q.l hR0 rfl rfl hql ?_; intro w1 hR1 hg1'))
  exact ret_arr_tmp rfl rfl rfl hR1 rfl ⟨rfl, (hB1 _).grown hg1' (by simp) (fun k h => by have := Option.some.inj h; omega)⟩

set_option maxRecDepth 20000 in
set_option maxHeartbeats 2000000 in
theorem change_neg (n : Nat) (v : Value) (gs : List Pm) (k : Nat) (q : Pm) (w : World) (hG : GroupAt w v n gs) (hgl : gs.length ≤ 1000000) (hq : gs[k]? = some q) :
    Calls Try.prog 66 #[v, .int .i64 (-(k : Int) - 1)] w fun e w' => e = .returned (.tuple #[.agg (i8s q⁻¹.l), .bool true]) ∧ Below w.heap.size w w' := by
  obtain ⟨g1, vg1, B1, c1, bs1, C1, st1, rfl, hg1, a10, a11, a12, hP1, hC1, hb1, rfl⟩ := hG
  obtain ⟨p1, k1, rfl⟩ := hP1.form
  have hkl := (List.getElem?_eq_some_iff.1 hq).1
  have hB1 : ∀ o : Obj, Below w.heap.size w (w.alloc o) := fun o => (Below.refl _ _).alloc (Nat.le_refl _) o
  have hR0 := zeros_new w
  have hPk := hP1.below (hB1 (.cells #[.int .i8 0, .int .i8 0, .int .i8 0, .int .i8 0, .int .i8 0, .int .i8 0, .int .i8 0, .int .i8 0, .int .i8 0, .int .i8 0, .int .i8 0, .int .i8 0] 91)) (Nat.le_refl _)
  obtain ⟨b, off, q', hpp, hq', hrange, hcap⟩ := hPk.at hkl
  rw [hq] at hq'
  have := Option.some.inj hq'
  subst this
  have hb0 : ∀ o : Obj, (w.alloc o).cell? ⟨g1, 1, none⟩ = some (.slice p1 gs.length k1) := fun o => ((hB1 o).cell (p := ⟨g1, 1, none⟩) hg1).trans a11
  have hinq := pin q
  have hql := q.len
  have hk1 : -(gs.length : Int) ≤ -(k : Int) - 1 := by omega
  have hk2 : -(k : Int) - 1 ≤ -1 := by omega
  have hk3 : decide (1 ≤ -(k : Int) - 1) = false := by rw [decide_eq_false_iff_not]; omega
  have hk4 : -(-(k : Int) - 1) - 1 = (k : Int) := by omega
  have hiq := (q⁻¹).len
  subst hpp
  clear hP1 hC1 hb1 hPk hq hq'
  go_enter Try.func66, Try.ntmps66
  go_wp2_with (refine wpList_load_mid rfl 91 _ rfl b _ rfl _ _ hrange Try.underlying91 rfl hinq ?_)
  refine (pback_raw q _).mono ?_
  rintro e w1 ⟨rfl, hb1⟩
  replace hb1 := below_alloc hb1
  have hR1 := hR0.below hb1 (by omega)
  have hB2 : Below w.heap.size w w1 := (hB1 _).trans (hb1.mono (by omega))
  go_wp2_with (refine wpList_store_arr rfl _ _ rfl w.heap.size zeros12 q⁻¹.l hR1 rfl rfl hiq ?_; intro w2 hR2 hg2)
  exact ret_arr_tmp rfl rfl rfl hR2 rfl ⟨rfl, hB2.grown hg2 hB2.size (fun k h => by have := Option.some.inj h; omega)⟩

set_option maxRecDepth 20000 in
set_option maxHeartbeats 2000000 in
theorem change_none (n : Nat) (v : Value) (gs : List Pm) (k : Int) (w : World) (hG : GroupAt w v n gs) (hgl : gs.length ≤ 1000000) (hk : k = 0 ∨ (gs.length : Int) < k ∨ k < -(gs.length : Int)) (hk1 : -9223372036854775808 ≤ k) (hk2 : k ≤ 9223372036854775807) :
    Calls Try.prog 66 #[v, .int .i64 k] w fun e w' => e = .returned (.tuple #[.agg (i8s zeros12), .bool false]) ∧ Below w.heap.size w w' := by
  obtain ⟨g1, vg1, B1, c1, bs1, C1, st1, rfl, hg1, a10, a11, a12, hP1, hC1, hb1, rfl⟩ := hG
  obtain ⟨p1, k1, rfl⟩ := hP1.form
  have hB1 : ∀ o : Obj, Below w.heap.size w (w.alloc o) := fun o => (Below.refl _ _).alloc (Nat.le_refl _) o
  have hR0 := zeros_new w
  have hzl : zeros12.length = 12 := rfl
  have hb0 : ∀ o : Obj, (w.alloc o).cell? ⟨g1, 1, none⟩ = some (.slice p1 gs.length k1) := fun o => ((hB1 o).cell (p := ⟨g1, 1, none⟩) hg1).trans a11
  clear hP1 hC1 hb1
  rcases Int.lt_trichotomy k 0 with h | h | h
  · have h1 : decide (1 ≤ k) = false := by rw [decide_eq_false_iff_not]; omega
    have h2 : k ≤ -1 := by omega
    have h3 : decide (-(gs.length : Int) ≤ k) = false := by rw [decide_eq_false_iff_not]; omega
    clear hk
    go_enter Try.func66, Try.ntmps66
    go_wp2_with (refine wpList_store_arr rfl _ _ rfl w.heap.size zeros12 zeros12 hR0 rfl rfl hzl ?_; intro w1 hR1 hg1')
    exact ret_arr_tmp rfl rfl rfl hR1 rfl ⟨rfl, (hB1 _).grown hg1' (by simp) (fun k h => by have := Option.some.inj h; omega)⟩
  · subst h
    clear hk
    go_enter Try.func66, Try.ntmps66
    go_wp2_with (refine wpList_store_arr rfl _ _ rfl w.heap.size zeros12 zeros12 hR0 rfl rfl hzl ?_; intro w1 hR1 hg1')
    exact ret_arr_tmp rfl rfl rfl hR1 rfl ⟨rfl, (hB1 _).grown hg1' (by simp) (fun k h => by have := Option.some.inj h; omega)⟩
  · have h1 : 1 ≤ k := by omega
    have h2 : decide (k ≤ (gs.length : Int)) = false := by rw [decide_eq_false_iff_not]; omega
    have h3 : decide (k ≤ -1) = false := by rw [decide_eq_false_iff_not]; omega
    clear hk
    go_enter Try.func66, Try.ntmps66
    go_wp2_with (refine wpList_store_arr rfl _ _ rfl w.heap.size zeros12 zeros12 hR0 rfl rfl hzl ?_; intro w1 hR1 hg1')
    exact ret_arr_tmp rfl rfl rfl hR1 rfl ⟨rfl, (hB1 _).grown hg1' (by simp) (fun k h => by have := Option.some.inj h; omega)⟩

end Go.Proofs.Ytimfoggjocajiaa

/- Contract: Say. -/
namespace Go.Proofs.Ytimfoggjocajiaa
open Go.RowKit

/-- A letter's row. -/
noncomputable def lett (gs : List Pm) (k : Int) : Option Pm := if 1 ≤ k then gs[(k - 1).toNat]? else if k ≤ -1 then (gs[(-k - 1).toNat]?).map (fun x => x⁻¹) else none

/-- A word's row, from p on. -/
noncomputable def say (gs : List Pm) : List Int → Pm → Option Pm
  | [], p => some p
  | k :: t, p => (lett gs k).elim none (fun x => say gs t (p * x))

theorem change_any (n : Nat) (v : Value) (gs : List Pm) (k : Int) (w : World) (hG : GroupAt w v n gs) (hgl : gs.length ≤ 1000000) (hk : I64 k) :
    Calls Try.prog 66 #[v, .int .i64 k] w fun e w' => ∃ (zs : List Int) (t : Bool), zs.length = 12 ∧ e = .returned (.tuple #[.agg (i8s zs), .bool t]) ∧ Hid ((t = true → ∃ q, lett gs k = some q ∧ zs = q.l) ∧ (t = false → lett gs k = none)) ∧ Below w.heap.size w w' := by
  have no : ∀ (hn : k = 0 ∨ (gs.length : Int) < k ∨ k < -(gs.length : Int)) (hl : lett gs k = none), Calls Try.prog 66 #[v, .int .i64 k] w fun e w' => ∃ (zs : List Int) (t : Bool), zs.length = 12 ∧ e = .returned (.tuple #[.agg (i8s zs), .bool t]) ∧ Hid ((t = true → ∃ q, lett gs k = some q ∧ zs = q.l) ∧ (t = false → lett gs k = none)) ∧ Below w.heap.size w w' := fun hn hl => by
    refine (change_none n v gs k w hG hgl hn hk.1 hk.2).mono ?_
    rintro e w' ⟨rfl, hb⟩
    exact ⟨zeros12, false, rfl, rfl, And.intro (fun h => Bool.noConfusion h) (fun _ => hl), hb⟩
  rcases Int.lt_trichotomy k 0 with h | h | h
  · cases hq : gs[(-k - 1).toNat]? with
    | none =>
      have := List.getElem?_eq_none_iff.1 hq
      exact no (by omega) (by unfold lett; rw [if_neg (by omega), if_pos (by omega), hq]; rfl)
    | some q =>
      have e : k = -(((-k - 1).toNat : Nat) : Int) - 1 := by omega
      have hc := change_neg n v gs (-k - 1).toNat q w hG hgl hq
      rw [← e] at hc
      refine hc.mono ?_
      rintro e w' ⟨rfl, hb⟩
      exact ⟨_, true, q⁻¹.len, rfl, And.intro (fun _ => ⟨q⁻¹, by unfold lett; rw [if_neg (by omega), if_pos (by omega), hq]; rfl, rfl⟩) (fun h => Bool.noConfusion h), hb⟩
  · exact no (Or.inl h) (by unfold lett; rw [if_neg (by omega), if_neg (by omega)])
  · cases hq : gs[(k - 1).toNat]? with
    | none =>
      have := List.getElem?_eq_none_iff.1 hq
      exact no (by omega) (by unfold lett; rw [if_pos (by omega)]; exact hq)
    | some q =>
      have e : k = (((k - 1).toNat : Nat) : Int) + 1 := by omega
      have hc := change_pos n v gs (k - 1).toNat q w hG hgl hq
      rw [← e] at hc
      refine hc.mono ?_
      rintro e w' ⟨rfl, hb⟩
      exact ⟨_, true, q.len, rfl, And.intro (fun _ => ⟨q, by unfold lett; rw [if_pos (by omega)]; exact hq, rfl⟩) (fun h => Bool.noConfusion h), hb⟩

theorem say_drop {gs : List Pm} {xs : List Int} {k : Nat} {y : Int} (hk : k < xs.length) (hy : xs[k]?.getD 0 = y) (p : Pm) : say gs (xs.drop k) p = (lett gs y).elim none (fun x => say gs (xs.drop (k + 1)) (p * x)) := by
  rw [List.drop_eq_getElem_cons hk]
  have : xs[k] = y := by rw [← hy, List.getElem?_eq_getElem hk]; rfl
  rw [this]
  rfl

def SayPost (n : Nat) (gs : List Pm) (xs : List Int) (w : World) (e : Ending) (w' : World) : Prop :=
  ((say gs xs 1 = none ∧ e = .returned (.tuple #[.slice none 0 0, .int .i64 12])) ∨ ∃ v p, say gs xs 1 = some p ∧ e = .returned (.tuple #[v, .int .i64 0]) ∧ w'.ownsRow w.heap.size 3 1 v n ((cut n p).map (Value.int .i64))) ∧ Below w.heap.size w w'

set_option maxRecDepth 20000 in
set_option maxHeartbeats 2000000 in
theorem say_long (n : Nat) (v v2 : Value) (gs : List Pm) (xs : List Int) (w : World) (hG : GroupAt w v n gs) (hI : Ints w v2 xs) (hl : 20000 < xs.length) :
    Calls Try.prog 20 #[v, v2] w fun e w' => e = .returned (.tuple #[.slice none 0 0, .int .i64 3]) ∧ w = w' := by
  obtain ⟨p, c, rfl⟩ := hI.form
  obtain ⟨g1, vg1, B1, c1, bs1, C1, st1, rfl, hg1, a10, a11, a12, hP1, hC1, hb1, rfl⟩ := hG
  have hl' : (20000 : Int) < (xs.length : Int) := by omega
  clear hP1 hC1 hb1 hI hl
  go_enter Try.func20, Try.ntmps20
  go_wp2
  go_ret2
  exact ⟨rfl, rfl⟩

set_option maxRecDepth 20000 in
set_option maxHeartbeats 4000000 in
theorem say_ok (n : Nat) (v v2 : Value) (gs : List Pm) (xs : List Int) (w : World) (h12 : n ≤ 12) (hG : GroupAt w v n gs) (hgl : gs.length ≤ 1000000) (hI : Ints w v2 xs) (hx : ∀ x, x ∈ xs → I64 x) (hl : xs.length ≤ 20000) :
    Calls Try.prog 20 #[v, v2] w fun e w' => SayPost n gs xs w e w' := by
  obtain ⟨p, c, rfl⟩ := hI.form
  have HG := hide hG
  obtain ⟨g1, vg1, B1, c1, bs1, C1, st1, rfl, hg1, a10, a11, a12, hP1, hC1, hb1, rfl⟩ := hG
  have hl' : (xs.length : Int) ≤ 20000 := by omega
  have HX := hide hx
  have HI := hide hI
  have hl1 := (1 : Pm).len
  clear hP1 hC1 hb1 hI hx
  go_enter Try.func20, Try.ntmps20
  go_wp2_with fail
  refine (prounds_ok _).mono ?_
  unfold pv
  rintro e w1 ⟨rfl, hb1⟩
  have hs1 := hb1.size
  go_wp2_with (refine wpList_store_arr rfl _ _ rfl w1.heap.size zeros12 _ (zeros_new w1) rfl rfl hl1 ?_; intro w2 hA2 hg2)
  have hB2 : Below w.heap.size w w2 := (hb1.alloc hs1 _).grown hg2 (by simp; omega) (fun k h => by have := Option.some.inj h; omega)
  clear hg2 hb1
  generalize w1.heap.size = D at *
  go_loopw [17] (fun i wr => ∃ (k : Nat) (r : Pm), k ≤ xs.length ∧ i = .int .i64 k ∧ Arr wr D r.l ∧ Hid (say gs (xs.drop k) r = say gs xs 1) ∧ Below w.heap.size w wr) (fun i _ => xs.length - (intOf i).toNat)
  case atStart => exact ⟨0, 1, by omega, rfl, hA2, rfl, hB2⟩
  case round =>
    clear hA2 hB2
    obtain ⟨k, r, hk, rfl, hA, hs, hbw⟩ := hrel
    have hbs := hbw.size
    have hDl := hA.lt
    by_cases hlt : k < xs.length
    · obtain ⟨b, off, cap, hpp, hcell⟩ : ∃ b off cap, (Value.slice p xs.length c = .slice (some ⟨b, off, none⟩) xs.length cap ∧ xs.length ≤ cap) ∧ (∀ j, j < xs.length → wr.cell? ⟨b, off + j, none⟩ = some (.int .i64 (xs.getD j 0))) := by
        rcases HI.out.below hbw with ⟨e, _⟩ | ⟨b, off, cap, hv, _, hc, _, _, hcell⟩
        · rw [e] at hlt; simp at hlt
        · exact ⟨b, off, cap, ⟨hv, hc⟩, hcell⟩
      obtain ⟨hpp, hcap⟩ := hpp
      injection hpp with e1 _ e3
      subst e1; subst e3
      obtain ⟨y, hy, hcy⟩ := cellAt hcell hlt
      have hyI : I64 y := HX.out y (by rw [← hy.out, List.getElem?_eq_getElem hlt]; exact List.getElem_mem hlt)
      have HCh := hide (change_any n _ gs y wr (HG.out.below hbw (Nat.le_refl _)) hgl hyI)
      have HSD := hide (say_drop (gs := gs) hlt hy.out r)
      rw [hs.out] at HSD
      obtain ⟨yl, yu⟩ := hyI
      clear hcell hy
      go_wp2_with fail
      refine HCh.out.mono ?_
      rintro e w3 ⟨zs, t, hzl, rfl, hzt, hb3⟩
      have hs3 := hb3.size
      have hA3 := hA.below hb3 hDl
      have hB3 : Below w.heap.size w w3 := hbw.trans (hb3.mono hbw.size)
      have hD3 := hA3.lt
      cases t with
      | false =>
        have HN : Hid (say gs xs 1 = none) := by have h1 := HSD.out; rw [hzt.out.2 rfl] at h1; exact h1
        clear HSD hzt
        go_wp2_with (refine wpList_store_arr rfl _ _ rfl w3.heap.size zeros12 zs (zeros_new w3) rfl rfl hzl ?_; intro w4 hZ4 hg4)
        have hB4 : Below w.heap.size w w4 := (hB3.alloc hB3.size _).grown hg4 (by have := hB3.size; simp; omega) (fun k h => by have := Option.some.inj h; have := hB3.size; omega)
        have HF := hide (show SayPost n gs xs w (.returned (.tuple #[.slice none 0 0, .int .i64 12])) w4 from ⟨Or.inl ⟨HN.out, rfl⟩, hB4⟩)
        go_ret2
        exact HF.out
      | true =>
        obtain ⟨q, hq, rfl⟩ := hzt.out.1 rfl
        have HS' : Hid (say gs (xs.drop (k + 1)) (r * q) = say gs xs 1) := by have h1 := HSD.out; rw [hq] at h1; exact h1.symm
        have hrq := (r * q).len
        clear HSD hzt hq
        go_wp2_with (first
          | (refine wpList_store_arr rfl _ _ rfl w3.heap.size zeros12 q.l (zeros_new w3) rfl rfl hzl ?_; intro w4 hZ4 hg4; have hA4 : Arr w4 D r.l := (hA3.alloc _).kept hg4 (by intro e; have := Option.some.inj e; omega))
          | refine wpList_load_arr rfl _ rfl D r.l hA4 rfl ?_
          | refine wpList_load_arr rfl _ rfl w3.heap.size q.l hZ4 rfl ?_)
        have hB4 : Below w.heap.size w w4 := (hB3.alloc hB3.size _).grown hg4 (by have := hB3.size; simp; omega) (fun k h => by have := Option.some.inj h; have := hB3.size; omega)
        refine (ptimes_ok r q _).mono ?_
        unfold pv
        rintro e w5 ⟨rfl, hb5⟩
        have hA5 := hA4.below hb5 hA4.lt
        have hB5 : Below w.heap.size w w5 := hB4.trans (hb5.mono hB4.size)
        clear hg4 hZ4 hA4
        go_wp2_with (refine wpList_store_arr rfl _ _ rfl D r.l (r * q).l hA5 rfl rfl hrq ?_; intro w6 hA6 hg6)
        have hB6 : Below w.heap.size w w6 := hB5.grown hg6 hB5.size (fun k h => by have := Option.some.inj h; omega)
        go_roundw
        case rel =>
          have hfin : ∃ (k' : Nat) (r' : Pm), k' ≤ xs.length ∧ Value.int .i64 ((k : Int) + 1) = .int .i64 (k' : Int) ∧ Arr w6 D r'.l ∧ Hid (say gs (xs.drop k') r' = say gs xs 1) ∧ Below w.heap.size w w6 := ⟨k + 1, r * q, by omega, by go_num, hA6, HS', hB6⟩
          first
            | exact hfin
            | ((repeat apply Exists.intro); exact ⟨hfin, rfl⟩)
        case measure => simp [intOf]; omega
    · obtain rfl : k = xs.length := by omega
      have HE : Hid (say gs xs 1 = some r) := by have h1 := hs.out; rw [List.drop_length] at h1; exact h1.symm
      have e10 : wr.cell? ⟨g1, 0, none⟩ = some (.int .i64 (n : Int)) := (hbw.cell (p := ⟨g1, 0, none⟩) hg1).trans a10
      have hinr := pin r
      have HU := hide (unpack_ok r n wr.drew h12)
      unfold pv i8s at HU
      clear hs
      go_wp2
      refine wp_region_held_drew (S := fun W' => Arr W' D r.l ∧ W'.cell? ⟨g1, 0, none⟩ = some (.int .i64 (n : Int))) (by kernel_rfl) ⟨hA, e10⟩ (fun hS => ?_)
      refine wpAnyH_take (i := 0) rfl (by kernel_rfl) (by kernel_rfl) (by kernel_rfl) (fun _ _ _ h => h) (yieldsIf_load_mid (by rfl) _ _ rfl D 0 rfl (r.l.map (Value.int .i8)) _ (fun w' h => Arr.range h.1) Try.underlying91 rfl hinr) hS ?_
      refine wpAnyH_take (i := 1) (v := .pointer (some ⟨g1, 0, none⟩)) rfl (by kernel_rfl) (by kernel_rfl) (by kernel_rfl) (fun _ _ _ h => h) (Or.inl ⟨by rfl, fun w' _ => by go_simp⟩) hS ?_
      refine wpAnyH_take (i := 2) (v := .pointer (some ⟨g1, 0, none⟩)) rfl (by kernel_rfl) (by kernel_rfl) (by kernel_rfl) (fun _ _ _ h => h) (Or.inl ⟨by rfl, fun w' _ => by go_simp⟩) hS ?_
      refine wpAnyH_take (i := 3) (v := .pointer (some ⟨g1, 0, none⟩)) rfl (by kernel_rfl) (by kernel_rfl) (by kernel_rfl) (fun _ _ _ h => h) (Or.inl ⟨by rfl, fun w' _ => by go_simp⟩) hS ?_
      refine wpAnyH_take (i := 4) (v := .int .i64 (n : Int)) rfl (by kernel_rfl) (by kernel_rfl) (by kernel_rfl) (fun _ _ _ h => h) (Or.inl ⟨by rfl, fun w' hS' => by have hq := hS'.2; go_simp⟩) hS ?_
      refine wpAnyH_ready (rs := [5]) (by kernel_rfl) (by simp) ?_
      refine AllReadyH.cons rfl (fun K hK => ?_) AllReadyH.nil
      go_simp
      refine HU.out.mono ?_
      rintro e w3 ⟨u, rfl, ho, hb3⟩
      have ho' : w3.ownsRow w.heap.size 3 1 u n ((cut n r).map (Value.int .i64)) := owns_base ho (by show w.heap.size ≤ wr.heap.size; omega)
      replace hb3 := undrew hb3
      have hB3 : Below w.heap.size w w3 := hbw.trans (hb3.mono hbw.size)
      have hS3 : Arr w3 D r.l ∧ w3.cell? ⟨g1, 0, none⟩ = some (.int .i64 (n : Int)) := ⟨hA.below hb3 hDl, (hb3.cell (p := ⟨g1, 0, none⟩) (by show g1 < wr.heap.size; omega)).trans e10⟩
      have HF := hide (show SayPost n gs xs w (.returned (.tuple #[u, .int .i64 0])) w3 from ⟨Or.inr ⟨u, r, HE.out, rfl, ho'⟩, hB3⟩)
      refine hK.out _ _ hS3 (fun hS => ?_)
      clear hK ho ho'
      refine wpAnyH_take (i := 6) (v := u) rfl (by kernel_rfl) (by kernel_rfl) (by kernel_rfl) (fun _ _ _ h => h) (Or.inl ⟨by rfl, fun w' _ => by go_simp⟩) hS ?_
      refine wpAnyH_take (i := 7) (v := .int .i64 0) rfl (by kernel_rfl) (by kernel_rfl) (by kernel_rfl) (fun _ _ _ h => h) (Or.inl ⟨by rfl, fun w' _ => by go_simp⟩) hS ?_
      refine wpAnyH_done (by kernel_rfl) ?_ _
      go_wp2
      go_ret2
      exact HF.out
end Go.Proofs.Ytimfoggjocajiaa

/- Plain: the words that rows were come to by first are as short as can be. -/
namespace Go.Proofs.Ytimfoggjocajiaa

structure Lev (i : Nat) (S : List (Pm × List Int)) : Prop where
  sorted : S.Pairwise (fun a b => a.2.length ≤ b.2.length)
  bound : ∀ k d, k + 1 = i → S[k]? = some d → ∀ e, e ∈ S → e.2.length ≤ d.2.length + 1

theorem tryTo_lev {L : List (Int × Pm)} {e0 : Pm × List Int} {S : List (Pm × List Int)} (hs : S.Pairwise (fun a b => a.2.length ≤ b.2.length)) (hb : ∀ e, e ∈ S → e.2.length ≤ e0.2.length + 1) (j : Nat) :
    (tryTo L e0 S j).Pairwise (fun a b => a.2.length ≤ b.2.length) ∧ ∀ e, e ∈ tryTo L e0 S j → e.2.length ≤ e0.2.length + 1 := by
  unfold tryTo
  generalize L.take j = M
  induction M generalizing S with
  | nil => exact ⟨hs, hb⟩
  | cons l M ih =>
    rw [List.foldl_cons]
    by_cases hc : e0.1 * l.2 ∈ S.map (·.1)
    · rw [tryL_old hc]; exact ih hs hb
    · rw [tryL_new hc]
      refine ih ?_ ?_
      · rw [List.pairwise_append]
        refine ⟨hs, by simp, fun a ha b hb' => ?_⟩
        rw [List.mem_singleton.1 hb']
        have := hb a ha
        simp only [List.length_append, List.length_singleton]
        exact this
      · intro e he
        rcases List.mem_append.1 he with he | he
        · exact hb e he
        · rw [List.mem_singleton.1 he]
          simp

theorem Run.lev {L : List (Int × Pm)} {i : Nat} {S : List (Pm × List Int)} (h : Run L i S) : Lev i S := by
  induction h with
  | start => exact ⟨by simp, fun k d hk => by omega⟩
  | @step i S e0 h he ih =>
    have hb0 : ∀ e, e ∈ S → e.2.length ≤ e0.2.length + 1 := by
      cases i with
      | zero =>
        cases h
        intro e he'
        rw [List.mem_singleton.1 he']
        exact Nat.zero_le _
      | succ k =>
        intro e he'
        have hk : k < S.length := by have := (List.getElem?_eq_some_iff.1 he).1; omega
        have h1 := ih.bound k S[k] rfl (List.getElem?_eq_getElem hk) e he'
        have h2 := List.pairwise_iff_getElem.1 ih.sorted k (k + 1) hk (List.getElem?_eq_some_iff.1 he).1 (Nat.lt_succ_self k)
        rw [(List.getElem?_eq_some_iff.1 he).2] at h2
        omega
    obtain ⟨h1, h2⟩ := tryTo_lev (L := L) (e0 := e0) ih.sorted hb0 L.length
    refine ⟨h1, fun k d hk hd e he' => ?_⟩
    have hki : k = i := by omega
    subst hki
    obtain ⟨more, hm⟩ := tryTo_more L e0 S L.length
    rw [hm, List.getElem?_append_left (List.getElem?_eq_some_iff.1 he).1, he] at hd
    rw [← Option.some.inj hd]
    exact h2 e he'

theorem Run.near {L : List (Int × Pm)} {i : Nat} {S : List (Pm × List Int)} (h : Run L i S) : ∀ k e, k < i → S[k]? = some e → ∀ l, l ∈ L → ∃ wd, (e.1 * l.2, wd) ∈ S ∧ wd.length ≤ e.2.length + 1 := by
  intro k e hk hke l hl
  obtain ⟨T, hT, m1, e1⟩ := h.pre (k + 1) hk
  have hm := hT.lev
  have hTl := hT.le
  have hk2 : T[k]? = some e := by
    rw [e1, List.getElem?_append_left (by omega)] at hke
    exact hke
  have h3 := hT.done k e (Nat.lt_succ_self k) hk2 l hl
  obtain ⟨d, hd, e2⟩ := List.mem_map.1 h3
  refine ⟨d.2, by rw [e1, ← e2]; exact List.mem_append_left _ hd, hm.bound k e rfl hk2 d hd⟩

/-- Rows that words of letters say. -/
inductive Wds (L : List (Int × Pm)) : Nat → Pm → Prop
  | nil : Wds L 0 1
  | snoc {k : Nat} {x : Pm} {l : Int × Pm} : Wds L k x → l ∈ L → Wds L (k + 1) (x * l.2)

theorem Run.short {L : List (Int × Pm)} {i : Nat} {S : List (Pm × List Int)} (h : Run L i S) (hi : S.length ≤ i) {k : Nat} {x : Pm} (hx : Wds L k x) : ∃ wd, (x, wd) ∈ S ∧ wd.length ≤ k := by
  induction hx with
  | nil => exact ⟨[], h.ok.first, Nat.le_refl _⟩
  | @snoc k x l _ hl ih =>
    obtain ⟨wd, h1, h2⟩ := ih
    obtain ⟨j, hj, ej⟩ := List.getElem_of_mem h1
    obtain ⟨wd', h3, h4⟩ := h.near j (x, wd) (by omega) (by rw [List.getElem?_eq_getElem hj, ej]) l hl
    exact ⟨wd', h3, by simp only at h4; omega⟩

/-- What a word in the table says. -/
def Said (gs : List Pm) (e : Pm × List Int) : Prop := say gs e.2 1 = some e.1

theorem say_app (gs : List Pm) : ∀ (a b : List Int) (p : Pm), say gs (a ++ b) p = (say gs a p).bind (fun q => say gs b q)
  | [], b, p => rfl
  | k :: a, b, p => by
    show (lett gs k).elim none (fun x => say gs (a ++ b) (p * x)) = ((lett gs k).elim none (fun x => say gs a (p * x))).bind _
    cases lett gs k with
    | none => rfl
    | some x => exact say_app gs a b (p * x)

theorem glet_mem {gs : List Pm} {k : Nat} {l : Int × Pm} (h : l ∈ glet k gs) : ∃ j x, gs[j]? = some x ∧ (l = (((k + j : Nat) : Int) + 1, x) ∨ l = (-((k + j : Nat) : Int) - 1, x⁻¹)) := by
  induction gs generalizing k with
  | nil => cases h
  | cons y t ih =>
    rw [glet] at h
    rcases List.mem_cons.1 h with h | h
    · exact ⟨0, y, rfl, Or.inl h⟩
    · rcases List.mem_cons.1 h with h | h
      · exact ⟨0, y, rfl, Or.inr h⟩
      · obtain ⟨j, x, h1, h2⟩ := ih h
        refine ⟨j + 1, x, h1, ?_⟩
        rw [show k + (j + 1) = k + 1 + j by omega]
        exact h2

theorem glet_lett {gs : List Pm} {l : Int × Pm} (h : l ∈ glet 0 gs) : lett gs l.1 = some l.2 := by
  obtain ⟨j, x, h1, h2 | h2⟩ := glet_mem h
  · rw [h2, Nat.zero_add]
    unfold lett
    rw [if_pos (by omega), show ((j : Int) + 1 - 1).toNat = j by omega]
    exact h1
  · rw [h2, Nat.zero_add]
    unfold lett
    rw [if_neg (by omega), if_pos (by omega), show (-(-(j : Int) - 1) - 1).toNat = j by omega, h1]
    rfl

theorem lett_glet {gs : List Pm} {k : Int} {z : Pm} (h : lett gs k = some z) : ∃ l, l ∈ glet 0 gs ∧ l.2 = z := by
  unfold lett at h
  by_cases h1 : 1 ≤ k
  · rw [if_pos h1] at h
    exact ⟨_, List.mem_of_getElem? (glet_even (k := 0) h), rfl⟩
  · rw [if_neg h1] at h
    by_cases h2 : k ≤ -1
    · rw [if_pos h2] at h
      obtain ⟨x, hx, e⟩ := Option.map_eq_some_iff.1 h
      exact ⟨_, List.mem_of_getElem? (glet_odd (k := 0) hx), e⟩
    · rw [if_neg h2] at h; cases h

theorem say_wds {gs : List Pm} : ∀ (a : List Int) (p x : Pm) (k : Nat), Wds (glet 0 gs) k p → say gs a p = some x → Wds (glet 0 gs) (k + a.length) x
  | [], p, x, k, hp, h => by rw [← Option.some.inj h]; exact hp
  | y :: a, p, x, k, hp, h => by
    have h' : (lett gs y).elim none (fun z => say gs a (p * z)) = some x := h
    cases hl : lett gs y with
    | none => rw [hl] at h'; cases h'
    | some z =>
      rw [hl] at h'
      obtain ⟨l, hm, rfl⟩ := lett_glet hl
      have := say_wds a (p * l.2) x (k + 1) (Wds.snoc hp hm) h'
      rw [List.length_cons, show k + (a.length + 1) = k + 1 + a.length by omega]
      exact this

theorem Run.said {gs : List Pm} {i : Nat} {S : List (Pm × List Int)} (h : Run (glet 0 gs) i S) : ∀ e, e ∈ S → say gs e.2 1 = some e.1 := by
  have one : ∀ (e0 : Pm × List Int) (M : List (Int × Pm)) (S : List (Pm × List Int)), (∀ l, l ∈ M → l ∈ glet 0 gs) → say gs e0.2 1 = some e0.1 → (∀ e, e ∈ S → say gs e.2 1 = some e.1) → ∀ e, e ∈ M.foldl (tryL e0) S → say gs e.2 1 = some e.1 := by
    intro e0 M
    induction M with
    | nil => intro S _ _ h; exact h
    | cons l M ih =>
      intro S hM h0 hS
      refine ih _ (fun x hx => hM x (List.mem_cons_of_mem _ hx)) h0 ?_
      by_cases hc : e0.1 * l.2 ∈ S.map (·.1)
      · rw [tryL_old hc]; exact hS
      · rw [tryL_new hc]
        intro e he
        rcases List.mem_append.1 he with he | he
        · exact hS e he
        · rw [List.mem_singleton.1 he]
          show say gs (e0.2 ++ [l.1]) 1 = some (e0.1 * l.2)
          rw [say_app, h0]
          show (lett gs l.1).elim none (fun x => say gs [] (e0.1 * x)) = _
          rw [glet_lett (hM l List.mem_cons_self)]
          rfl
  induction h with
  | start => intro e he; rw [List.mem_singleton.1 he]; rfl
  | step h he ih => exact one _ _ _ (fun l hl => List.mem_of_mem_take hl) (ih _ (List.mem_of_getElem? he)) ih

theorem glet_gen (k : Nat) (gs : List Pm) (x : Pm) : Gen (fun y => ∃ l, l ∈ glet k gs ∧ l.2 = y) x ↔ Gen (fun y => y ∈ gs) x := by
  constructor
  · intro h
    refine h.least (Gen.sub _) (fun s ⟨l, hl, e⟩ => ?_)
    obtain ⟨j, x, h1, h2 | h2⟩ := glet_mem hl
    · rw [← e, h2]; exact Gen.of (List.mem_of_getElem? h1)
    · rw [← e, h2]; exact (Gen.of (S := fun y => y ∈ gs) (List.mem_of_getElem? h1)).inv
  · intro h
    refine h.mono (fun s hs => ?_)
    obtain ⟨j, hj, e⟩ := List.getElem_of_mem hs
    exact ⟨_, List.mem_of_getElem? (glet_even (k := k) (List.getElem?_eq_getElem hj)), e⟩

/-- The search ends: with n rows at most, none twice. -/
theorem Run.len {L : List (Int × Pm)} {i : Nat} {S : List (Pm × List Int)} (h : Run L i S) {X : List Pm} (hX : ∀ x, Gen (fun x => ∃ l, l ∈ L ∧ l.2 = x) x → x ∈ X) : S.length ≤ X.length := by
  classical
  have := nodup_len (S.map (·.1)) X h.ok.nodup (fun x hx => by obtain ⟨e, he, rfl⟩ := List.mem_map.1 hx; exact hX _ (h.ok.gen e he))
  rwa [List.length_map] at this

theorem Run.lenTo {L : List (Int × Pm)} {i : Nat} {S : List (Pm × List Int)} {e : Pm × List Int} (h : Run L i S) (he : S[i]? = some e) (j : Nat) {X : List Pm} (hX : ∀ x, Gen (fun x => ∃ l, l ∈ L ∧ l.2 = x) x → x ∈ X) : (tryTo L e S j).length ≤ X.length := by
  classical
  have hk := h.ok.tryTo (h.ok.gen e (List.mem_of_getElem? he)) j
  have := nodup_len ((tryTo L e S j).map (·.1)) X hk.nodup (fun x hx => by obtain ⟨d, hd, rfl⟩ := List.mem_map.1 hx; exact hX _ (hk.gen d hd))
  rwa [List.length_map] at this

theorem Run.more {L : List (Int × Pm)} {i j : Nat} {S T : List (Pm × List Int)} (h : Run L i S) (k : Run L j T) (hij : i ≤ j) : ∃ m, T = S ++ m := by
  obtain ⟨S', h', m, e⟩ := k.pre i hij
  rw [h.det h']
  exact ⟨m, e⟩

/-- There is a way through all. -/
theorem Run.exists {L : List (Int × Pm)} {X : List Pm} (hX : ∀ x, Gen (fun x => ∃ l, l ∈ L ∧ l.2 = x) x → x ∈ X) : ∃ i S, Run L i S ∧ S.length ≤ i := by
  have key : ∀ d i S, Run L i S → X.length - i ≤ d → ∃ i S, Run L i S ∧ S.length ≤ i := by
    intro d
    induction d with
    | zero =>
      intro i S h hd
      exact ⟨i, S, h, by have := h.len hX; omega⟩
    | succ d ih =>
      intro i S h hd
      by_cases hi : S.length ≤ i
      · exact ⟨i, S, h, hi⟩
      · exact ih (i + 1) _ (Run.step h (List.getElem?_eq_getElem (by omega))) (by omega)
  exact key X.length 0 _ Run.start (by omega)

end Go.Proofs.Ytimfoggjocajiaa

/- slices.Sort over ints, off the library's shelf: what it leans on. -/
namespace Go.Proofs.Ytimfoggjocajiaa
open Go.RowKit Go.Shelf
set_option maxRecDepth 100000
set_option linter.unusedVariables false

def rnO : Go.Shelf.Ren := ⟨fun | 125 => 127 | 128 => 148 | 129 => 149 | 189 => 122 | 215 => 152 | 216 => 160 | 257 => 137 | 294 => 154 | 295 => 155 | 296 => 156 | 297 => 157 | 298 => 158 | 299 => 159 | 300 => 161 | 301 => 162 | 328 => 169 | 329 => 164 | 330 => 165 | 331 => 170 | 332 => 171 | 343 => 173 | n => n,
  fun | 0 => 0 | 3 => 3 | 4 => 4 | 5 => 5 | 9 => 9 | 28 => 23 | 46 => 151 | 51 => 181 | 53 => 183 | 131 => 116 | 182 => 174 | 183 => 175 | 218 => 192 | 222 => 196 | 228 => 201 | 229 => 202 | n => n, fun  | n => n⟩

theorem laysO : Go.Proofs.Lays.n189 Try.prog rnO where
  mixed := by kernel_rfl
  f125 := by kernel_rfl
  f128 := by kernel_rfl
  f129 := by kernel_rfl
  f189 := by kernel_rfl
  f215 := by kernel_rfl
  f216 := by kernel_rfl
  f257 := by kernel_rfl
  f294 := by kernel_rfl
  f295 := by kernel_rfl
  f296 := by kernel_rfl
  f297 := by kernel_rfl
  f298 := by kernel_rfl
  f299 := by kernel_rfl
  f300 := by kernel_rfl
  f301 := by kernel_rfl
  f328 := by kernel_rfl
  f329 := by kernel_rfl
  f330 := by kernel_rfl
  f331 := by kernel_rfl
  f332 := by kernel_rfl
  f343 := by kernel_rfl
  t0 := by kernel_rfl
  a0 := fun w => by kernel_rfl
  z0 := fun w => by kernel_rfl
  v0 := fun w => by kernel_rfl
  t3 := by kernel_rfl
  a3 := fun w => by kernel_rfl
  z3 := fun w => by kernel_rfl
  v3 := fun w => by kernel_rfl
  t4 := by kernel_rfl
  a4 := fun w => by kernel_rfl
  z4 := fun w => by kernel_rfl
  v4 := fun w => by kernel_rfl
  t5 := by kernel_rfl
  a5 := fun w => by kernel_rfl
  z5 := fun w => by kernel_rfl
  v5 := fun w => by kernel_rfl
  t9 := by kernel_rfl
  a9 := fun w => by kernel_rfl
  z9 := fun w => by kernel_rfl
  v9 := fun w => by kernel_rfl
  t28 := by kernel_rfl
  a28 := fun w => by kernel_rfl
  z28 := fun w => by kernel_rfl
  v28 := fun w => by kernel_rfl
  t46 := by kernel_rfl
  a46 := fun w => by kernel_rfl
  z46 := fun w => by kernel_rfl
  v46 := fun w => by kernel_rfl
  t51 := by kernel_rfl
  a51 := fun w => by kernel_rfl
  z51 := fun w => by kernel_rfl
  v51 := fun w => by kernel_rfl
  t53 := by kernel_rfl
  a53 := fun w => by kernel_rfl
  z53 := fun w => by kernel_rfl
  v53 := fun w => by kernel_rfl
  t131 := by kernel_rfl
  a131 := fun w => by kernel_rfl
  z131 := fun w => by kernel_rfl
  v131 := fun w => by kernel_rfl
  t182 := by kernel_rfl
  a182 := fun w => by kernel_rfl
  z182 := fun w => by kernel_rfl
  v182 := fun w => by kernel_rfl
  t183 := by kernel_rfl
  a183 := fun w => by kernel_rfl
  z183 := fun w => by kernel_rfl
  v183 := fun w => by kernel_rfl
  t218 := by kernel_rfl
  a218 := fun w => by kernel_rfl
  z218 := fun w => by kernel_rfl
  v218 := fun w => by kernel_rfl
  t222 := by kernel_rfl
  a222 := fun w => by kernel_rfl
  z222 := fun w => by kernel_rfl
  v222 := fun w => by kernel_rfl
  t228 := by kernel_rfl
  a228 := fun w => by kernel_rfl
  z228 := fun w => by kernel_rfl
  v228 := fun w => by kernel_rfl
  t229 := by kernel_rfl
  a229 := fun w => by kernel_rfl
  z229 := fun w => by kernel_rfl
  v229 := fun w => by kernel_rfl


end Go.Proofs.Ytimfoggjocajiaa

/- Contract: slices.Sort over ints that the call owns. -/
namespace Go.Proofs.Ytimfoggjocajiaa
open Go.RowKit Go.Shelf Go.Lib Go.Sort

theorem puti_take (dk : Array Int) (cur : Array Value) (h : dk.size ≤ cur.size) : (putCells (Value.int .i64) 0 dk cur).toList.take dk.size = dk.toList.map (Value.int .i64) := by
  refine List.ext_getElem (by simp [putCells]; omega) (fun i h1 h2 => ?_)
  have hi : i < dk.size := by simpa using h2
  simp only [putCells, List.getElem_take, Array.toList_mapIdx, List.getElem_mapIdx, List.getElem_map, Array.getElem_toList]
  rw [if_pos ⟨Nat.zero_le _, by omega⟩, Nat.sub_zero, getElem!_pos dk i hi]

theorem sortI_ok (base : Nat) (v : Value) (zs : List Int) (w : World) (ho : w.ownsRow base 3 1 v zs.length (zs.map (Value.int .i64))) (h1 : 1 ≤ zs.length) (h2 : zs.length ≤ 1000) :
    Calls Try.prog 122 #[v] w fun e w' => e = .returned (.tuple #[]) ∧ w'.ownsRow base 3 1 v zs.length ((zs.mergeSort (fun x y => decide (x ≤ y))).map (Value.int .i64)) ∧ Below base w w' := by
  have hown := ho
  rcases ho.2 with ⟨_, h0⟩ | ⟨g, cap, cur, hu, hgb, hh, hc1, hc2, hcs, hct⟩
  · omega
  have hg := (Array.getElem?_eq_some_iff.1 hh).1
  subst hu
  have hH : Holds (Value.int .i64) w g 0 zs.toArray := by
    intro j hj
    have hj' : j < zs.length := by simpa using hj
    refine ⟨?_, by simp [World.frozen?, hh]⟩
    have h9 := hown.cells (g := g) rfl j (.int .i64 zs[j]) (by rw [List.getElem?_map, List.getElem?_eq_getElem hj']; rfl)
    rw [Addr.add_lit] at h9
    rw [h9, getElem!_pos zs.toArray j hj]
    simp
  have hcon : Calls Try.prog (rnO.f 189) #[.slice (some ⟨g, 0, none⟩) zs.length cap] w fun e w' => e = .returned (.tuple #[]) ∧ ∃ n os, w' = grow (putRow (Value.int .i64) (Sort.ahead w n) g 0 (zs.mergeSort fun x y => decide (x ≤ y)).toArray) os :=
    calls_of_every_depth fun D => AnyS.slices_Sort_int_in laysO D g 0 cap zs w hH hg (by omega)
  refine Calls.mono (show Calls Try.prog 122 _ _ _ from hcon) ?_
  rintro e w' ⟨rfl, n, os, rfl⟩
  have hml : (zs.mergeSort fun x y => decide (x ≤ y)).length = zs.length := List.length_mergeSort _
  generalize zs.mergeSort (fun x y => decide (x ≤ y)) = ms at *
  have hrow : (grow (putRow (Value.int .i64) (Sort.ahead w n) g 0 ms.toArray) os).heap[g]? = some (.cells (putCells (Value.int .i64) 0 ms.toArray cur) 3) := by
    unfold grow putRow mapBlock Sort.ahead
    simp only
    rw [Array.getElem?_append_left (by simpa using hg), Array.getElem?_modify, if_pos rfl, hh]
    rfl
  refine ⟨rfl, ⟨by rw [List.length_map, hml]; omega, Or.inr ⟨g, cap, putCells (Value.int .i64) 0 ms.toArray cur, rfl, hgb, hrow, hc1, hc2, ?_, ?_⟩⟩, ?_⟩
  · rw [← hcs]; simp [putCells]
  · have := puti_take ms.toArray cur (by simp; rw [hml, hcs]; omega)
    rw [Nat.mul_one, ← hml]
    simpa using this
  · refine ⟨rfl, rfl, rfl, ?_, fun b hb => ?_⟩
    · unfold grow putRow mapBlock Sort.ahead
      simp
    · unfold grow putRow mapBlock Sort.ahead
      simp only
      rw [Array.getElem?_append_left (by simp; omega), Array.getElem?_modify, if_neg (by omega)]

end Go.Proofs.Ytimfoggjocajiaa

/- Contract: slices.Reverse over ints that the call owns, off the library's shelf. -/
namespace Go.Proofs.Ytimfoggjocajiaa
open Go.RowKit Go.Shelf Go.Lib Go.Sort
set_option maxRecDepth 100000
set_option linter.unusedVariables false

def rnR : Go.Shelf.Ren := ⟨fun | 112 => 125 | n => n,
  fun | 0 => 0 | 3 => 3 | 4 => 4 | 28 => 23 | n => n, fun  | n => n⟩

theorem laysR : Go.Proofs.Lays.n112 Try.prog rnR where
  mixed := by kernel_rfl
  f112 := by kernel_rfl
  t0 := by kernel_rfl
  a0 := fun w => by kernel_rfl
  z0 := fun w => by kernel_rfl
  v0 := fun w => by kernel_rfl
  t3 := by kernel_rfl
  a3 := fun w => by kernel_rfl
  z3 := fun w => by kernel_rfl
  v3 := fun w => by kernel_rfl
  t4 := by kernel_rfl
  a4 := fun w => by kernel_rfl
  z4 := fun w => by kernel_rfl
  v4 := fun w => by kernel_rfl
  t28 := by kernel_rfl
  a28 := fun w => by kernel_rfl
  z28 := fun w => by kernel_rfl
  v28 := fun w => by kernel_rfl


theorem revI_ok (base : Nat) (v : Value) (zs : List Int) (w : World) (ho : w.ownsRow base 3 1 v zs.length (zs.map (Value.int .i64))) (h2 : zs.length ≤ 1000000) :
    Calls Try.prog 125 #[v] w fun e w' => e = .returned (.tuple #[]) ∧ w'.ownsRow base 3 1 v zs.length (zs.reverse.map (Value.int .i64)) ∧ Below base w w' := by
  have hown := ho
  rcases ho.2 with ⟨hv, h0⟩ | ⟨g, cap, cur, hu, hgb, hh, hc1, hc2, hcs, hct⟩
  · have hz : zs = [] := List.length_eq_zero_iff.1 (by simpa using h0)
    subst hz
    subst hv
    refine Calls.mono (show Calls Try.prog 125 _ _ _ from Any.slices_Reverse_int_empty laysR none 0 w) ?_
    rintro e w' ⟨rfl, rfl⟩
    exact ⟨rfl, hown, Below.refl _ _⟩
  have hg := (Array.getElem?_eq_some_iff.1 hh).1
  subst hu
  have hH : Holds (Value.int .i64) w g 0 zs.toArray := by
    intro j hj
    have hj' : j < zs.length := by simpa using hj
    refine ⟨?_, by simp [World.frozen?, hh]⟩
    have h9 := hown.cells (g := g) rfl j (.int .i64 zs[j]) (by rw [List.getElem?_map, List.getElem?_eq_getElem hj']; rfl)
    rw [Addr.add_lit] at h9
    rw [h9, getElem!_pos zs.toArray j hj]
    simp
  refine Calls.mono (show Calls Try.prog 125 _ _ _ from Any.slices_Reverse_int laysR g 0 cap zs w hH (by omega)) ?_
  rintro e w' ⟨rfl, n, rfl⟩
  have hml : zs.reverse.length = zs.length := List.length_reverse
  generalize zs.reverse = ms at *
  have hrow : (putRow (Value.int .i64) (Sort.ahead w n) g 0 ms.toArray).heap[g]? = some (.cells (putCells (Value.int .i64) 0 ms.toArray cur) 3) := by
    unfold putRow mapBlock Sort.ahead
    simp only
    rw [Array.getElem?_modify, if_pos rfl, hh]
    rfl
  refine ⟨rfl, ⟨by rw [List.length_map, hml]; omega, Or.inr ⟨g, cap, putCells (Value.int .i64) 0 ms.toArray cur, rfl, hgb, hrow, hc1, hc2, ?_, ?_⟩⟩, ?_⟩
  · rw [← hcs]; simp [putCells]
  · have := puti_take ms.toArray cur (by simp; rw [hml, hcs]; omega)
    rw [Nat.mul_one, ← hml]
    simpa using this
  · refine ⟨rfl, rfl, rfl, ?_, fun b hb => ?_⟩
    · unfold putRow mapBlock Sort.ahead
      simp
    · unfold putRow mapBlock Sort.ahead
      simp only
      rw [Array.getElem?_modify, if_neg (by omega)]

end Go.Proofs.Ytimfoggjocajiaa
