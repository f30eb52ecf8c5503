/- Joined: GeD, GeZ, GroupM, Normal, NormalB, GHas, Chg, Say, BfL, GeL, GeQ, GeY, Gzw, GeO, Cnt, GwA, GeS, RefE, RefF. -/
import Derived.Test.YtahffpgadoiijaaJ2
import Derived.Test.YtahffpgadoiijaaJ5
import Derived.Deep.QuietTactic
import Derived.BigQuiet
import Derived.Laws.ResultCell
import Derived.Test.YtahffpgadoiijaaJ0
import Derived.Shelf.Lays
import Derived.Shelf.Sort.AssemblyIn
import Derived.Sort.EveryDepth
import Derived.Shelf.Slices.Reverse
import Derived.Shelf.SlSortCmp.WholeK
import Derived.Test.YtahffpgadoiijaaJ4
/- Contract: all rows of a chain. -/
namespace Go.Proofs.Ytahffpgadoiijaa
open Go.RowKit

theorem ownsE_below {w w' : World} {base B e size n : Nat} {v : Value} {xs : List Value} (h : w.ownsRow base e size v n xs) (hb : Below B w w') (hB : w.heap.size ≤ B) : w'.ownsRow base e size v n xs := by
  obtain ⟨h1, h2⟩ := h
  refine ⟨h1, ?_⟩
  rcases h2 with h2 | ⟨g, cap, cur, hv, hg, hh, r⟩
  · exact Or.inl h2
  · have hlt : g < w.heap.size := (Array.getElem?_eq_some_iff.1 hh).1
    exact Or.inr ⟨g, cap, cur, hv, hg, by rw [hb.block g (by omega)]; exact hh, r⟩

/-- Rows that a call has gathered since w. -/
structure AllR (w wr : World) (v : Value) (L : List Pm) : Prop where
  own : wr.ownsRow w.heap.size 81 12 v L.length (gcells L)
  below : Below w.heap.size w wr

theorem AllR.nil {w wr : World} (hb : Below w.heap.size w wr) : AllR w wr (.slice none 0 0) [] := ⟨World.ownsRow_nil _ _ _ _, hb⟩

theorem AllR.later {w wr w' : World} {v : Value} {L : List Pm} (h : AllR w wr v L) (hb : Below wr.heap.size wr w') : AllR w w' v L :=
  ⟨ownsE_below h.own hb (Nat.le_refl _), h.below.trans (hb.mono h.below.size)⟩

theorem AllR.push {w wr w' : World} {v v' : Value} {L : List Pm} {p : Pm} (h : AllR w wr v L) (ho : w'.ownsRow w.heap.size 81 12 v' (L.length + 1) (gcells L ++ p.l.map (Value.int .i8))) (hg : wr.grownBy w' v.ownBlock) : AllR w w' v' (L ++ [p]) :=
  ⟨by rw [List.length_append, gcells_snoc]; exact ho, h.below.grown hg h.below.size (fun k hk => (h.own.lt k hk).1)⟩

theorem AllR.form {w wr : World} {v : Value} {L : List Pm} (h : AllR w wr v L) (hn : 1 ≤ L.length) : ∃ b cap, v = .slice (some ⟨b, 0, none⟩) L.length cap ∧ L.length ≤ cap ∧ cap ≤ 9223372036854775807 ∧ b < wr.heap.size ∧ w.heap.size ≤ b := by
  obtain ⟨p, cap, e⟩ := owns_slice12 h.own
  have h' := h.own
  rw [e] at h'
  obtain ⟨b, hb, _, h1, h2⟩ := owns_some h' hn
  subst hb
  have hl := h'.lt b rfl
  exact ⟨b, cap, e, h1, h2, hl.2, hl.1⟩

theorem AllR.at {w wr : World} {b cap m : Nat} {L : List Pm} (h : AllR w wr (.slice (some ⟨b, 0, none⟩) m cap) L) {i : Nat} {p : Pm} (hi : L[i]? = some p) : wr.rangeAt b (i * 12) (p.l.map (Value.int .i8)) := by
  intro j v hv
  have hj : j < 12 := by have := (List.getElem?_eq_some_iff.1 hv).1; rw [List.length_map, p.len] at this; exact this
  have := h.own.cells (g := b) rfl (i * 12 + j) _ (gcells_at L i p hi j hj)
  rw [Addr.add_lit, Nat.zero_add] at this
  rw [this, ← hv]
  simp [List.getD, p.len, hj]

theorem allC_drop {C : List Lk} {i : Nat} {l : Lk} (h : C[i]? = some l) : allC (C.drop i) = l.tab.flatMap (fun e => (allC (C.drop (i + 1))).map (fun p => e.2 * p)) := by
  obtain ⟨hj, rfl⟩ := List.getElem?_eq_some_iff.1 h
  rw [List.drop_eq_getElem_cons hj]
  rfl

theorem one_pack (w : World) (p : Pm) : AllR w (w.alloc (.cells (i8s p.l) 81)) (.slice (some ⟨w.heap.size, 0, none⟩) 1 1) [p] := by
  have hl := p.len
  refine ⟨⟨by rw [gcells_length], Or.inr ⟨w.heap.size, 1, i8s p.l, rfl, Nat.le_refl _, heap_alloc_new _ _, Nat.le_refl _, by unfold maxLen; omega, ?_, ?_⟩⟩, (Below.refl _ _).alloc (Nat.le_refl _) _⟩
  · simp [i8s, p.len]
  · simp [i8s, gcells]; exact List.take_of_length_le (by rw [List.length_map, hl]; exact Nat.le_refl _)

theorem wpList_build {ops : Array Oper} {rest : List Oper} {o : Oper} {a : Act} {w : World} {Q : Exit → Act → World → Prop} (hg : o.guard = none) (x : Operand) (hop : o.op = Op.buildSlice 78 1 #[(0, x)]) (p : Pm) (hx : a.eval x = .agg (p.l.map (Value.int .i8)).toArray)
    (hK : wpList Try.prog ops Q rest (a.put o.dst (.slice (some ⟨w.heap.size, 0, none⟩) 1 1)) (w.alloc (.cells (i8s p.l) 81))) : wpList Try.prog ops Q (o :: rest) a w := by
  refine wpList_plain hg fun K hK' => ?_
  unfold Oper.wp execOp
  simp only [hop, List.map_toArray, List.map_cons, List.map_nil, hx, run_build, Sem.run_bind, Sem.run_pure, Result.andThen_ok]
  exact hK' _ _ hK

theorem whole_key {F : Nat → Prop} : ∀ (C : List Lk), Whole F C → (∀ l, l ∈ C → l.base < 12) → ∀ l, l ∈ C → ∀ e, e ∈ l.tab → e.1 < 12 ∧ ((rawOf l).f ((e.1 : Nat) : Int)).getD (.agg (i8s zeros12)) = .agg (e.2.l.map (Value.int .i8)).toArray
  | [], _, _, l, h => by cases h
  | x :: c, hw, hb, l, h => by
    rcases List.mem_cons.1 h with rfl | h
    · intro e he
      refine ⟨key_lt hw.1 (hb _ List.mem_cons_self) he, ?_⟩
      show (tabF l.tab ((e.1 : Nat) : Int)).getD _ = _
      rw [tabF_nat, lookup_of_mem hw.1.nodup (b := e.1) (u := e.2) he]
      rfl
    · exact whole_key (F := plus F x.base) c hw.2.1 (fun y hy => hb y (List.mem_cons_of_mem _ hy)) l h

set_option maxRecDepth 20000 in
set_option maxHeartbeats 4000000 in
theorem all_ok {w0 : World} {B g n : Nat} {bs : List Nat} {C : List Lk} {st : Nat → St} {gs : List Pm} (hCd : Chained w0 B g n bs C st gs) (h12 : n ≤ 12) (hbs : ∀ b, b ∈ bs → b < 12) (w : World) (hb0 : Below w0.heap.size w0 w) :
    Calls Try.prog 54 #[.slice (some ⟨g, 0, none⟩) n n] w fun e w' => ∃ v, e = .returned v ∧ AllR w w' v (allC C) := by
  have hC := hCd.chain.below hb0 (Nat.le_refl _)
  have hbase : ∀ l, l ∈ C → l.base < 12 := fun l hl => hbs _ (by rw [← hCd.bases]; exact List.mem_map.2 ⟨l, hl, rfl⟩)
  have hlen := whole_len C hCd.whole hbase
  have hle : ∀ i, tabs (C.drop i) ≤ 8916100448256 := fun i => by
    have h1 : tabs (C.drop i) ≤ 12 ^ (C.drop i).length := tabs_le (fun l hl => (hlen l (List.mem_of_mem_drop hl)).2)
    have h2 : 12 ^ (C.drop i).length ≤ 12 ^ 12 := Nat.pow_le_pow_right (by decide) (by rw [List.length_drop, hCd.len]; omega)
    have h1212 : (12 : Nat) ^ 12 = 8916100448256 := by decide
    omega
  have hpos : ∀ i, 1 ≤ tabs (C.drop i) := fun i => by
    have : ∀ (c : List Lk), (∀ l, l ∈ c → 1 ≤ l.tab.length) → 1 ≤ tabs c := by
      intro c
      induction c with
      | nil => intro _; exact Nat.le_refl _
      | cons l c ih => intro h; exact Nat.mul_pos (h l List.mem_cons_self) (ih (fun y hy => h y (List.mem_cons_of_mem _ hy)))
    exact this _ (fun l hl => (hlen l (List.mem_of_mem_drop hl)).1)
  have hkey : ∀ l, l ∈ C → ∀ e, e ∈ l.tab → e.1 < 12 ∧ ((rawOf l).f ((e.1 : Nat) : Int)).getD (.agg (i8s zeros12)) = .agg (e.2.l.map (Value.int .i8)).toArray := whole_key C hCd.whole hbase
  have HL := hide hle
  have HPS := hide hpos
  have HLN := hide hlen
  have HC := hide hC
  have HN := hide hCd.len
  have HK := hide hkey
  clear hC hbase hlen hle hpos hCd hkey
  go_enter Try.func54, Try.ntmps54
  go_wp2_with fail
  refine (prounds_ok _).mono ?_
  rintro e w1 ⟨rfl, hb1⟩
  unfold pv
  have hone := AllR.later (w := w1) (one_pack w1 1) (Below.refl _ _)
  have hS0 : AllR w (w1.alloc (.cells (i8s (Pm.l 1)) 81)) (.slice (some ⟨w1.heap.size, 0, none⟩) 1 1) [1] := ⟨by have h := hone.own; have hs := hb1.size; rcases h with ⟨h1, h2⟩; refine ⟨h1, ?_⟩; rcases h2 with h2 | ⟨g, cap, cur, hv, hg, r⟩; exact Or.inl h2; exact Or.inr ⟨g, cap, cur, hv, Nat.le_trans hs hg, r⟩, hb1.alloc hb1.size _⟩
  have HS0 := hide hS0
  clear hone hS0
  go_wp2_with (refine wpList_build rfl _ rfl 1 rfl ?_)
  go_loopw [3, 4] (fun sr sl wr => ∃ (k : Nat) (v : Value), k ≤ n ∧ sr = v ∧ sl = .int .i64 ((k : Int) - 1) ∧ AllR w wr v (allC (C.drop k))) (fun _ sl _ => ((intOf sl) + 1).toNat)
  case atStart =>
    exact ⟨n, _, Nat.le_refl _, rfl, rfl, by rw [List.drop_eq_nil_of_le (by rw [HN.out]; exact Nat.le_refl _)]; exact HS0.out⟩
  case round =>
    obtain ⟨k, v, hk, rfl, rfl, hR⟩ := hrel
    by_cases hlt : 1 ≤ k
    · obtain ⟨k, rfl⟩ : ∃ k', k = k' + 1 := ⟨k - 1, by omega⟩
      have hkC : k < C.length := by rw [HN.out]; omega
      obtain ⟨l, hl⟩ : ∃ l, C[k]? = some l := ⟨_, List.getElem?_eq_getElem hkC⟩
      have lk := (HC.out.below hR.below (Nat.le_refl _)).link k (rawOf l) (by rw [List.getElem?_map, hl]; rfl)
      have hall := allC_drop hl
      have htd := tabs_drop hl
      have hll := HLN.out l (List.mem_of_getElem? hl)
      have hp := HPS.out (k + 1)
      have hle := HL.out k
      have hRl : (allC (C.drop (k + 1))).length = tabs (C.drop (k + 1)) := allC_len _
      obtain ⟨rb, rc, erv, hrc1, hrc2, hrb1, hrb2⟩ := hR.form (by rw [hRl]; exact hp)
      obtain ⟨pb, cb, ebv⟩ := owns_slice12 lk.bells
      obtain ⟨pg, cg, egv⟩ := owns_slice12 lk.gens
      have c0 := lk.c0
      have c1 := lk.c1
      have c2 := lk.c2
      have c3 := lk.c3
      rw [ebv] at c2
      rw [egv] at c3
      have hrange : wr.rangeAt g (k * 4) [.int .i64 ((l.base : Nat) : Int), .map (some (st k).m), .slice pb (rawOf l).bs.length cb, .slice pg (rawOf l).gs.length cg] := by
        rw [Nat.mul_comm]
        intro x v hv
        match x, hv with
        | 0, hv => rw [← Option.some.inj hv]; exact c0
        | 1, hv => rw [← Option.some.inj hv]; exact c1
        | 2, hv => rw [← Option.some.inj hv]; exact c2
        | 3, hv => rw [← Option.some.inj hv]; exact c3
        | x + 4, hv => cases hv
      have hbl : (rawOf l).bs.length = l.tab.length := by show (l.tab.map _).length = _; simp
      have hbells := lk.bells
      rw [ebv, hbl] at hbells
      rw [hbl] at hrange
      obtain ⟨bb, hbb, _, hbc, hbm⟩ := owns_some hbells hll.1
      subst hbb
      have HBE : Hid (∀ i e, l.tab[i]? = some e → wr.cell? ⟨bb, i, none⟩ = some (.int .i64 ((e.1 : Nat) : Int))) := fun i e he => by
        have := hbells.cells (g := bb) rfl i (.int .i64 ((e.1 : Nat) : Int)) (by show (l.tab.map (fun e => Value.int .i64 ((e.1 : Nat) : Int)))[i]? = _; rw [List.getElem?_map, he]; rfl)
        rw [Addr.add_lit, Nat.zero_add] at this
        exact this
      have hbblt := (hbells.lt bb rfl).2
      have HMP := hide lk.mp
      have HKl := hide (HK.out l (List.mem_of_getElem? hl))
      generalize (st k).m = mm at *
      generalize (rawOf l).gs.length = ng at *
      have HT : Hid (allC (C.drop k) = l.tab.flatMap (fun e => (allC (C.drop (k + 1))).map (fun p => e.2 * p))) := hall
      have HTL : Hid (l.tab.length * (allC (C.drop (k + 1))).length ≤ 8916100448256) := by show _ ≤ _; rw [hRl, ← htd]; exact hle
      generalize hRows : allC (C.drop (k + 1)) = rows at *
      have HR := hide hR
      have hR1 : rows.length ≤ 8916100448256 := by rw [hRl]; exact HL.out (k + 1)
      have hR0 : 1 ≤ rows.length := by rw [hRl]; exact hp
      have hsR := hR.below.size
      subst erv
      clear lk c0 c1 c2 c3 ebv egv hall htd hle hRl hbells hp hR hl hbl hRows
      have HX := hide (heap_alloc_new wr (.cells #[.int .i64 ((l.base : Nat) : Int), .map (some mm), .slice (some ⟨bb, 0, none⟩) l.tab.length cb, .slice pg ng cg] 102))
      generalize hnt : l.tab.length = nt at *
      generalize hnr : rows.length = nr at *
      have HNT := hide hnt
      have HNR := hide hnr
      clear hnt hnr
      go_wp2_with (refine wpList_load_mid rfl 102 _ rfl g _ rfl _ _ hrange Try.underlying102 rfl Try.size102 ?_)
      have hX := HX.out
      have hwl : (wr.alloc (.cells #[.int .i64 ((l.base : Nat) : Int), .map (some mm), .slice (some ⟨bb, 0, none⟩) nt cb, .slice pg ng cg] 102)).heap.size = wr.heap.size + 1 := by simp
      have hBl : Below wr.heap.size wr (wr.alloc (.cells #[.int .i64 ((l.base : Nat) : Int), .map (some mm), .slice (some ⟨bb, 0, none⟩) nt cb, .slice pg ng cg] 102)) := (Below.refl _ _).alloc (Nat.le_refl _) _
      clear HX
      generalize wr.alloc (.cells #[.int .i64 ((l.base : Nat) : Int), .map (some mm), .slice (some ⟨bb, 0, none⟩) nt cb, .slice pg ng cg] 102) = wl at *
      have HX := hide hX
      have HBl := hide hBl
      have HWL := hide hwl
      clear hX hBl hrange hwl
      have hnt12 : nt ≤ 12 := hll.2
      obtain ⟨wo, hwo⟩ : ∃ wo, wo = wr := ⟨_, rfl⟩
      subst hwo
      go_loopw [6, 27] (fun sm si wm => ∃ (i : Nat) (v : Value), i ≤ nt ∧ sm = v ∧ si = .int .i64 i ∧ AllR wl wm v ((l.tab.take i).flatMap (fun e => rows.map (fun p => e.2 * p)))) (fun _ si _ => nt - (intOf si).toNat)
      case atStart => exact ⟨0, _, Nat.zero_le _, rfl, rfl, AllR.nil (Below.refl _ _)⟩
      case round =>
        obtain ⟨i, v6, hi, rfl, rfl, hM⟩ := hrel
        by_cases hit : i < nt
        · obtain ⟨e, he⟩ : ∃ e, l.tab[i]? = some e := ⟨_, List.getElem?_eq_getElem (by rw [HNT.out]; exact hit)⟩
          have hbm' : Below wo.heap.size wo wr := HBl.out.trans (hM.below.mono HBl.out.size)
          have hcell : wr.cell? ⟨bb, i, none⟩ = some (.int .i64 ((e.1 : Nat) : Int)) := (hbm'.cell (p := ⟨bb, i, none⟩) hbblt).trans (HBE.out i e he)
          obtain ⟨hk12, hlook⟩ := HKl.out e (List.mem_of_getElem? he)
          have HLK := hide hlook
          have HM := hide hM
          have HTK : Hid (l.tab.take (i + 1) = l.tab.take i ++ [e]) := by show _ = _; rw [List.take_add_one, he]; rfl
          have HFL : Hid (((l.tab.take i).flatMap (fun e => rows.map (fun p => e.2 * p))).length = i * nr) := by
            show _ = _
            rw [flat_len _ nr _ (fun e _ => by rw [List.length_map, HNR.out]), List.length_take, HNT.out, Nat.min_eq_left (by omega)]
          have HLT : Hid ((i + 1) * nr ≤ 8916100448256) := by
            show _ ≤ _
            exact Nat.le_trans (Nat.mul_le_mul_right _ hit) HTL.out
          clear hM hlook
          generalize hFE : (l.tab.take i).flatMap (fun e => rows.map (fun p => e.2 * p)) = F at *
          have HFE := hide hFE
          clear hFE
          obtain ⟨wm, hwm⟩ : ∃ wm, wm = wr := ⟨_, rfl⟩
          subst hwm
          go_wp2
          go_loopw [6, 33] (fun sm sj wi => ∃ (j : Nat) (v : Value), j ≤ nr ∧ sm = v ∧ sj = .int .i64 j ∧ AllR wl wi v (F ++ (rows.take j).map (fun p => e.2 * p))) (fun _ sj _ => nr - (intOf sj).toNat)
          case atStart => exact ⟨0, _, Nat.zero_le _, rfl, rfl, by rw [List.take_zero, List.map_nil, List.append_nil]; exact HM.out⟩
          case round =>
            obtain ⟨j, v7, hj, rfl, rfl, hI⟩ := hrel
            by_cases hjt : j < nr
            · obtain ⟨p, hp⟩ : ∃ p, rows[j]? = some p := ⟨_, List.getElem?_eq_getElem (by rw [HNR.out]; exact hjt)⟩
              have hbi : Below wo.heap.size wo wr := HBl.out.trans (hI.below.mono HBl.out.size)
              have hrange : wr.rangeAt rb (j * 12) (p.l.map (Value.int .i8)) := (HR.out.later hbi).at hp
              have hin : (Try.prog.info? 81).map (·.size) = some (p.l.map (Value.int .i8)).length := by rw [List.length_map, p.len]; exact Try.size81
              have hpl := p.len
              have hI7 : Hid ((F ++ (rows.take j).map (fun p => e.2 * p)).length = i * nr + j) := by
                show _ = _
                rw [List.length_append, HFL.out, List.length_map, List.length_take, HNR.out, Nat.min_eq_left (by omega)]
              have HI := hide hI
              have HBI := hide hbi
              have HPJ : Hid (rows.take (j + 1) = rows.take j ++ [p]) := by show _ = _; rw [List.take_add_one, hp]; rfl
              have hxx : wr.heap[wo.heap.size]? = _ := (hI.below.block wo.heap.size (by have := HWL.out; omega)).trans HX.out
              have hmap : wr.cell? ⟨wo.heap.size, 1, none⟩ = some (.map (some mm)) := by simp [World.cell?, hxx]
              have hisz : wo.heap.size < wr.heap.size := by have := hI.below.size; have := HWL.out; omega
              have HW6 : Hid (∀ (o : Obj) (w6 : World), (wr.alloc o).grownBy w6 (some wr.heap.size) → w6.cell? ⟨wo.heap.size, 1, none⟩ = some (.map (some mm)) ∧ Hid (IMap w6 mm (rawOf l).n (rawOf l).f) ∧ Hid (Below wr.heap.size wr w6)) := fun o w6 hg6 => by
                have hb6 : Below wr.heap.size wr w6 := ((Below.refl _ _).alloc (Nat.le_refl _) _).grown hg6 (by simp) (fun k h => by have := Option.some.inj h; omega)
                exact ⟨(hb6.cell (p := ⟨wo.heap.size, 1, none⟩) (by omega)).trans hmap, HMP.out.below (hbi.trans (hb6.mono hbi.size)) HMP.out.lt, hb6⟩
              clear hI hbi
              go_wp2_with (first
                | refine wpList_load_mid rfl 81 _ rfl rb _ rfl _ _ hrange Try.underlying81 rfl hin ?_
                | (refine wpList_store_arr rfl _ _ rfl wr.heap.size zeros12 p.l (zeros_new wr) rfl rfl hpl ?_; intro w6 hX6 hg6; obtain ⟨hm6, HMP6, HB6⟩ := HW6.out _ w6 hg6; clear hg6)
                | refine wpList_look_is rfl _ _ 100 rfl 81 Try.underlying100 (Try.zero81 _) HMP6.out ((e.1 : Nat) : Int) rfl rfl (by omega) (by omega) HLK.out ?_
                | refine wpList_load_arr rfl _ rfl wr.heap.size p.l hX6 rfl ?_)
              refine (ptimes_raw e.2 p _).mono ?_
              rintro e0 w7 ⟨rfl, hb7⟩
              have hb67 : Below wr.heap.size wr w7 := HB6.out.trans (hb7.mono HB6.out.size)
              have hA7 := HI.out.later hb67
              have HLS : Hid ((F ++ (rows.take j).map (fun p => e.2 * p)) ++ [e.2 * p] = F ++ (rows.take (j + 1)).map (fun p => e.2 * p)) := by
                show _ = _
                rw [HPJ.out, List.map_append, List.append_assoc]; rfl
              generalize F ++ (rows.take j).map (fun p => e.2 * p) = L at *
              have HA7 := hide hA7
              have HLM : Hid (L.length + 1 ≤ 8916100448256) := by
                have h1 := hI7.out
                have h2 := HLT.out
                rw [Nat.succ_mul] at h2
                show _ ≤ _
                omega
              obtain ⟨i0, hi0, hz0, hz1, hz2⟩ := info_parts Try.info81
              have HPL : Hid (((e.2 * p).l.map (Value.int .i8)).length = 1 * 12) := by show _ = _; rw [List.length_map, Pm.len]
              have HO1 : Hid (∀ u ∈ (e.2 * p).l.map (Value.int .i8), u.oneCell' = true) := i8_one _
              have HM1 : Hid (L.length + 1 ≤ maxLen) := by have := HLM.out; show L.length + 1 ≤ maxLen; unfold maxLen; omega
              have HY1 : Hid ((L.length + 1) * 12 ≤ 140737488355328) := by have := HLM.out; show (L.length + 1) * 12 ≤ _; omega
              have HS1 : Hid (wl.heap.size ≤ (w7.alloc (.cells (i8s (e.2 * p).l) 81)).heap.size) := by have := hA7.below.size; show _ ≤ _; simp; omega
              have HNW : Hid (∀ j u, ((e.2 * p).l.map (Value.int .i8))[j]? = some u → (w7.alloc (.cells (i8s (e.2 * p).l) 81)).cell? ((⟨w7.heap.size, 0, none⟩ : Addr).add j) = some u) := fun j u hu => by
                rw [Addr.add_mid]; exact (Arr.new w7 (e.2 * p).l (Pm.len _)).range j u hu
              have HO7 : Hid (AllR wl (w7.alloc (.cells (i8s (e.2 * p).l) 81)) u6 L) := hA7.later ((Below.refl _ _).alloc (Nat.le_refl _) _)
              clear hA7 hb67 hb7 hX6 hm6 hrange hmap hxx
              go_wp2_with (first
                | refine wpList_build rfl _ rfl (e.2 * p) rfl ?_
                | (refine wpList_append_keep (w7.alloc (.cells (i8s (e.2 * p).l) 81)) rfl _ _ 78 rfl wl.heap.size 81 i0 (.agg (i8s zeros12)) 12 12 Try.underlying78 hi0 hz0 hz1 hz2 rfl (by decide) _ L.length _ rfl HO7.out.own ⟨w7.heap.size, 0, none⟩ 1 1 ((e.2 * p).l.map (Value.int .i8)) rfl HPL.out HNW.out HO1.out HM1.out HY1.out HS1.out ?_; intro v8 w8 hown8 hg8 hloc8))
              have hA8 := HO7.out.push hown8 hg8
              rw [HLS.out] at hA8
              go_wp2
              go_roundw
              case rel =>
                have hfin : ∃ (j' : Nat) (v : Value), j' ≤ nr ∧ v8 = v ∧ Value.int .i64 ((j : Int) + 1) = .int .i64 (j' : Int) ∧ AllR wl w8 v (F ++ (rows.take j').map (fun p => e.2 * p)) := ⟨j + 1, v8, hjt, rfl, by go_num, hA8⟩
                first
                  | exact hfin
                  | ((repeat apply Exists.intro); exact ⟨hfin, rfl⟩)
              case measure => simp [intOf]; omega
            · obtain rfl : j = nr := by omega
              have hA9 := hI
              rw [List.take_of_length_le (by rw [HNR.out]; exact Nat.le_refl _)] at hA9
              have HA9 := hide hA9
              clear hI hA9
              go_wp2
              go_roundw
              case rel =>
                have hfin : ∃ (i' : Nat) (v : Value), i' ≤ nt ∧ u6 = v ∧ Value.int .i64 ((i : Int) + 1) = .int .i64 (i' : Int) ∧ AllR wl wr v ((l.tab.take i').flatMap (fun e => rows.map (fun p => e.2 * p))) := ⟨i + 1, _, hit, rfl, by go_num, by rw [HTK.out, List.flatMap_append, HFE.out]; show AllR wl wr _ (F ++ (rows.map (fun p => e.2 * p) ++ [])); rw [List.append_nil]; exact HA9.out⟩
                first
                  | exact hfin
                  | ((repeat apply Exists.intro); exact ⟨hfin, rfl⟩)
              case measure => simp [intOf]; omega
        · obtain rfl : i = nt := by omega
          rw [List.take_of_length_le (by rw [HNT.out]; exact Nat.le_refl _), ← HT.out] at hM
          have hA9 : AllR w wr u6 (allC (C.drop k)) := by
            have h1 := HR.out.below
            have h2 := HBl.out
            have h3 := hM.own
            have hs := HWL.out
            refine ⟨?_, (h1.trans (h2.mono h1.size)).trans (hM.below.mono (by have := h1.size; omega))⟩
            rcases h3 with ⟨h4, h5⟩
            refine ⟨h4, ?_⟩
            rcases h5 with h5 | ⟨g, cap, cur, hv, hg, r⟩
            · exact Or.inl h5
            · exact Or.inr ⟨g, cap, cur, hv, by have := h1.size; omega, r⟩
          have HA9 := hide hA9
          clear hM hA9
          go_wp2
          go_roundw
          case rel =>
            have hfin : ∃ (k' : Nat) (v : Value), k' ≤ n ∧ u6 = v ∧ Value.int .i64 ((k : Int) - 1) = .int .i64 ((k' : Int) - 1) ∧ AllR w wr v (allC (C.drop k')) := ⟨k, _, by omega, rfl, rfl, HA9.out⟩
            first
              | exact hfin
              | ((repeat apply Exists.intro); exact ⟨hfin, rfl⟩)
          case measure => simp [intOf]
    · obtain rfl : k = 0 := by omega
      have HR := hide hR
      clear hR
      go_wp2
      go_ret
      exact ⟨_, rfl, HR.out⟩
end Go.Proofs.Ytahffpgadoiijaa

/- How rows are come to, in memory: steps as values, and what a search for the shortest word holds. -/
namespace Go.Proofs.Ytahffpgadoiijaa
open Go.RowKit Go.Maps

theorem gpne (x y : Pm) (w : World) : ∃ r : Bool, (binOp .neq 81 (.agg (i8s x.l)) (.agg (i8s y.l))).run Try.prog w = .ok (.bool r) w ∧ (r = false ↔ x = y) := by
  obtain ⟨f1, l1, h1⟩ := gkeyT.lits (okK_pm x)
  obtain ⟨f2, l2, h2⟩ := gkeyT.lits (okK_pm y)
  obtain ⟨r, hr, hiff⟩ := run_equalIn_deep (P := Try.prog) 9997 3 81 (by kernel_rfl) w _ _ _ _ l1 l2 f1 f2 h1 h2
  refine ⟨!r, ?_, ?_⟩
  · rw [run_neq_struct]
    have hr' : (Op.equalIn 10000 81 (.agg (i8s x.l)) (.agg (i8s y.l))).run Try.prog w = .ok r w := hr
    rw [hr']
    rfl
  · rw [Bool.not_eq_false']
    refine hiff.trans ⟨fun e => ?_, fun e => ?_⟩
    · obtain ⟨lx, hx⟩ : ∃ l, keyOf Try.prog 81 (pv x) = some l := gkeyT.mk' (okK_pm x)
      have hk := gkeyT.same (okK_pm x) (okK_pm y) (by rw [h1, h2, e])
      exact Pm.eq_of_l (kv_inj (gkeyT.keyed.inj hx (hk ▸ hx)))
    · subst e
      rw [h1] at h2
      exact Option.some.inj h2

theorem gpne' (x y : Pm) (r : Bool) (h : r = false ↔ x = y) (w : World) : (binOp .neq 81 (.agg (x.l.map (Value.int .i8)).toArray) (.agg (y.l.map (Value.int .i8)).toArray)).run Try.prog w = .ok (.bool r) w := by
  obtain ⟨r', h1, h2⟩ := gpne x y w
  have : r = r' := by
    cases r <;> cases r' <;> simp_all
  rw [this]
  exact h1

def slenV : Value → Nat
  | .slice _ n _ => n
  | _ => 0

def zeros13 : Value := .agg #[.int .i8 0, .int .i8 0, .int .i8 0, .int .i8 0, .int .i8 0, .int .i8 0, .int .i8 0, .int .i8 0, .int .i8 0, .int .i8 0, .int .i8 0, .int .i8 0, .int .i64 0]

/-- A step's value, whatever it is. -/
def Stp (u : Value) : Prop := ∃ cs : Array Value, u = .agg cs ∧ cs.size = 13 ∧ cs.all (·.oneCell') = true

theorem Stp.zero : Stp zeros13 := ⟨_, rfl, rfl, by kernel_rfl⟩

theorem Stp.sv (y : Pm) (l : Int) : Stp (sv y l) := ⟨_, rfl, by simp [y.len], by
  rw [Array.all_eq_true_iff_forall_mem]
  intro v hv
  simp at hv
  rcases hv with ⟨a, _, rfl⟩ | rfl
  · rfl
  · rfl⟩

section
variable {K E : TypeId} {q : IntKind} {w w' : World} {b n : Nat} {f : List Int → Option Value}

/-- 'm[a]'. -/
theorem KMap.look (hK : KeyT K E q) (h : KMap K q w b n f) {t e : TypeId} (ht : Try.prog.underlying t = some (.map K e)) {z : Value} (hz : (zeroValue e).run Try.prog w = .ok z w) {zs : List Int} (hzs : OkK q zs) :
    (Instr.lookup t (.map (some b)) (kv q zs) false).run Try.prog w = .ok ((f zs).getD z) w := by
  obtain ⟨D, hD, hf⟩ := h
  obtain ⟨l, hl⟩ := hK.mk' hzs
  obtain ⟨v, ps, hrun, hv⟩ := hD.lookup hK.keyed ht hz (zd := .held z) (zp := []) rfl hl
  have hv' : DataW.held v = D.atKey l (.held z) := (Prod.mk.inj (Option.some.inj hv)).1
  have hfz := hf zs hzs l hl
  rw [hrun]
  cases hfa : f zs with
  | none =>
    have hh := hfz.1
    rw [hfa] at hh
    rw [atKey_of_not_has hh] at hv'
    rw [DataW.held.inj hv']; rfl
  | some u =>
    rw [hfz.2 u hfa] at hv'
    rw [DataW.held.inj hv']; rfl

variable {ops : Array Oper} {rest : List Oper} {o : Oper} {a : Act} {Q : Exit → Act → World → Prop}

theorem wpList_klook1 (hg : o.guard = none) (m x : Operand) (t : TypeId) (hop : o.op = Op.lookup t m x false) (e : TypeId) (ht : Try.prog.underlying t = some (.map K e)) {z : Value} (hz : (zeroValue e).run Try.prog w = .ok z w)
    (hK : KeyT K E q) (h : KMap K q w b n f) (zs : List Int) (hzs : OkK q zs) (hm : a.eval m = .map (some b)) (hx : a.eval x = kv q zs) {v : Value} (hv : (f zs).getD z = v)
    (hC : wpList Try.prog ops Q rest (a.put o.dst v) w) : wpList Try.prog ops Q (o :: rest) a w := by
  subst hv
  refine wpList_plain hg fun K' hK' => ?_
  have hrun := h.look hK ht hz hzs
  unfold Oper.wp
  simp [execOp, hop, hm, hx, hrun, Result.andThen]
  exact hK' _ _ hC

end

theorem ownsE_lw {w : World} {base base' e size n : Nat} {v : Value} {xs : List Value} (h : w.ownsRow base e size v n xs) (hb : base' ≤ base) : w.ownsRow base' e size v n xs := by
  rcases h with ⟨h4, h5⟩
  refine ⟨h4, ?_⟩
  rcases h5 with h5 | ⟨g, cap, cur, hv, hg, r⟩
  · exact Or.inl h5
  · exact Or.inr ⟨g, cap, cur, hv, Nat.le_trans hb hg, r⟩

theorem wpList_klook2 {K E : TypeId} {q : IntKind} {w : World} {b n : Nat} {f : List Int → Option Value} {ops : Array Oper} {rest : List Oper} {o : Oper} {a : Act} {Q : Exit → Act → World → Prop} (hg : o.guard = none) (m x : Operand) (t : TypeId) (hop : o.op = Op.lookup t m x true) (e : TypeId) (ht : Try.prog.underlying t = some (.map K e)) {z : Value} (hz : (zeroValue e).run Try.prog w = .ok z w)
    (hK : KeyT K E q) (h : KMap K q w b n f) (zs : List Int) (hzs : OkK q zs) (hm : a.eval m = .map (some b)) (hx : a.eval x = kv q zs) {u : Value} {tb : Bool} (hu : (f zs).getD z = u) (htb : (f zs).isSome = tb)
    (hC : wpList Try.prog ops Q rest (a.put o.dst (.tuple #[u, .bool tb])) w) : wpList Try.prog ops Q (o :: rest) a w := by
  subst hu; subst htb
  exact wpList_klook hg m x t hop e ht hz hK h zs hzs hm hx hC

theorem step_kput {K E : TypeId} {q : IntKind} {w : World} {b n : Nat} {f : List Int → Option Value} {ops : Array Oper} {o : Oper} {a : Act} {C : Act → World → Prop} {Q : Exit → Act → World → Prop} {D : Prop} (hg : o.guard = none) (m x v : Operand) (t : TypeId) (hop : o.op = Op.mapUpdate t m x v) (e : TypeId) (ht : Try.prog.underlying t = some (.map K e))
    (hK : KeyT K E q) (h : KMap K q w b n f) (hn : n < maxLen) (zs : List Int) (hzs : OkK q zs) (val : Value) (hm : a.eval m = .map (some b)) (hx : a.eval x = kv q zs) (hv : a.eval v = val)
    (hC : ∀ w', KMap K q w' b (n + 1) (kupd f zs val) → w.grownBy w' (some b) → C (a.put o.dst undef) w') : if Region.wanted o (yielded ops a.tmps) = true then Oper.wp Try.prog o a w C Q else D := by
  obtain ⟨w', hrun, r1, r2⟩ := h.put hK ht hn hzs val
  exact step_skip hg (by unfold execOp; simp only [hop, hm, hx, hv, hrun, Sem.run_bind, Sem.run_pure, Result.andThen_ok]) (hC w' r1 r2)

theorem Arr.kept_own {w w' : World} {b base n : Nat} {zs : List Int} {v : Value} {xs : List Value} (h : Arr w b zs) (ho : w.ownsRow base 3 1 v n xs) (hg : w.grownBy w' v.ownBlock) : Arr w' b zs := by
  rcases ho.2 with ⟨h0, _⟩ | ⟨g, cap, cur, hv, _, hh, _⟩
  · subst h0
    refine ⟨(hg.block b h.lt (fun e => by cases e)).trans h.1, h.2⟩
  · subst hv
    refine ⟨(hg.block b h.lt (fun e => ?_)).trans h.1, h.2⟩
    have e' : b = g := Option.some.inj e
    subst e'
    rw [h.1] at hh
    injection hh with hh
    injection hh with _ hh
    exact absurd hh (by decide)

/-- What the search holds. -/
structure ShR (w wr : World) (m : Nat) (v : Value) (S : List (Pm × List Int)) (f : List Int → Option Value) (x : Pm) : Prop where
  rows : wr.ownsRow (m + 1) 81 12 v S.length (gcells (S.map (·.1)))
  mp : KMap 81 .i8 wr m S.length f
  box : Arr wr w.heap.size x.l
  form : ∀ zs u, f zs = some u → Stp u
  came : Came sv S f
  lo : w.heap.size < m
  below : Below w.heap.size w wr

theorem ShR.later {w wr w' : World} {m : Nat} {v : Value} {S : List (Pm × List Int)} {f : List Int → Option Value} {x : Pm} (h : ShR w wr m v S f x) (hb : Below wr.heap.size wr w') : ShR w w' m v S f x :=
  ⟨ownsE_below h.rows hb (Nat.le_refl _), h.mp.below hb h.mp.lt, h.box.below hb h.box.lt, h.form, h.came, h.lo, h.below.trans (hb.mono h.below.size)⟩

theorem ShR.all {w wr : World} {m : Nat} {v : Value} {S : List (Pm × List Int)} {f : List Int → Option Value} {x : Pm} (h : ShR w wr m v S f x) : AllR w wr v (S.map (·.1)) :=
  ⟨by rw [List.length_map]; exact ownsE_lw h.rows (by have := h.lo; omega), h.below⟩

theorem ShR.put {w wr w' : World} {m : Nat} {v : Value} {S : List (Pm × List Int)} {f : List Int → Option Value} {x : Pm} (h : ShR w wr m v S f x) (hg : wr.grownBy w' (some m)) :
    w'.ownsRow (m + 1) 81 12 v S.length (gcells (S.map (·.1))) ∧ Arr w' w.heap.size x.l ∧ Below w.heap.size w w' := by
  have hlo := h.lo
  have hmlt := h.mp.lt
  have hb : Below m wr w' := ⟨hg.os, hg.tape, hg.output, hg.size, fun b hb => hg.block b (by omega) (fun e => by have := Option.some.inj e; omega)⟩
  refine ⟨?_, h.box.below hb hlo, h.below.trans (hb.mono (by omega))⟩
  obtain ⟨h1, h2⟩ := h.rows
  refine ⟨h1, ?_⟩
  rcases h2 with h2 | ⟨g, cap, cur, hv, hg', hh, r⟩
  · exact Or.inl h2
  · exact Or.inr ⟨g, cap, cur, hv, hg', by rw [hg.block g (Array.getElem?_eq_some_iff.1 hh).1 (fun e => by have := Option.some.inj e; omega)]; exact hh, r⟩

/-- One more row is found. -/
theorem ShR.push {w wr w1 w2 w' : World} {m : Nat} {v v' : Value} {S : List (Pm × List Int)} {f : List Int → Option Value} {x : Pm} {e : Pm × List Int} {l : Int × Pm} {o : Obj} (h : ShR w wr m v S f x) (he : e ∈ S) (hn : ¬ e.1 * l.2 ∈ S.map (·.1))
    (hm : KMap 81 .i8 w1 m (S.length + 1) (kupd f (e.1 * l.2).l (sv e.1 l.1))) (hg1 : wr.grownBy w1 (some m)) (hb2 : Below w1.heap.size w1 w2)
    (ho : w'.ownsRow (m + 1) 81 12 v' (S.length + 1) (gcells (S.map (·.1)) ++ (e.1 * l.2).l.map (Value.int .i8))) (hg : (w2.alloc o).grownBy w' v.ownBlock) : ShR w w' m v' (S ++ [(e.1 * l.2, e.2 ++ [l.1])]) (kupd f (e.1 * l.2).l (sv e.1 l.1)) x := by
  obtain ⟨r1, r2, r3⟩ := h.put hg1
  have hlo := h.lo
  have hm1 := hm.lt
  have r1' : (w2.alloc o).ownsRow (m + 1) 81 12 v S.length (gcells (S.map (·.1))) := (ownsE_below r1 hb2 (Nat.le_refl _)).alloc o
  have hb3 : Below w1.heap.size w1 (w2.alloc o) := hb2.alloc hb2.size o
  have hne : ∀ k, k ≤ m → some k ≠ v.ownBlock := fun k hk e => by have := (r1'.lt k e.symm).1; omega
  have hbm : Below (m + 1) (w2.alloc o) w' := ⟨hg.os, hg.tape, hg.output, hg.size, fun b hb => hg.block b (by have := hb3.size; omega) (hne b (by omega))⟩
  refine ⟨?_, ?_, ?_, ?_, h.came.grow he hn rfl, hlo, ?_⟩
  · rw [List.length_append, List.map_append]
    show World.ownsRow w' (m + 1) 81 12 v' (S.length + 1) (gcells (S.map (·.1) ++ [e.1 * l.2]))
    rw [gcells_snoc]
    exact ho
  · rw [List.length_append]
    exact (hm.below hb3 hm.lt).below hbm (by omega)
  · exact (r2.below hb3 r2.lt).below hbm (by omega)
  · intro zs u hu
    unfold kupd at hu
    by_cases hz : zs = (e.1 * l.2).l
    · rw [if_pos hz] at hu
      rw [← Option.some.inj hu]
      exact Stp.sv _ _
    · rw [if_neg hz] at hu
      exact h.form zs u hu
  · exact (r3.trans (hb3.mono r3.size)).trans (hbm.mono (by omega))

end Go.Proofs.Ytahffpgadoiijaa

/- Contracts: Size, Bells, Has. -/
namespace Go.Proofs.Ytahffpgadoiijaa
open Go.RowKit

set_option maxRecDepth 20000 in
set_option maxHeartbeats 1000000 in
theorem gsize_ok (n : Nat) (v : Value) (gs : List Pm) (w : World) (h12 : n ≤ 12) (hG : GroupAt w v n gs) :
    Calls Try.prog 46 #[v] w fun e w' => e = .returned (.int .i64 (sz (Gen (fun y => y ∈ gs)) n : Nat)) ∧ Below w.heap.size w w' := by
  obtain ⟨g1, vg1, B1, c1, bs1, C1, st1, rfl, hg1, a10, a11, a12, hP1, hC1, hb1, rfl⟩ := hG
  have HS := hide (size_ok hC1 h12 hb1 w (Below.refl _ _))
  rw [hC1.sz h12] at HS
  clear hP1 hC1 hb1
  go_enter Try.func46, Try.ntmps46
  go_wp2_with fail
  refine HS.out.mono ?_
  rintro e w1 ⟨rfl, hb⟩
  go_wp2
  go_ret
  exact ⟨rfl, hb⟩

end Go.Proofs.Ytahffpgadoiijaa

/- Contracts: Normal's closure; Normal. -/
namespace Go.Proofs.Ytahffpgadoiijaa
open Go.RowKit

theorem pin (x : Pm) : (Try.prog.info? 81).map (·.size) = some (x.l.map (Value.int .i8)).length := by rw [List.length_map, x.len]; exact Try.size81

end Go.Proofs.Ytahffpgadoiijaa

/- Contract: Normal, of two groups of as many bells. -/
namespace Go.Proofs.Ytahffpgadoiijaa
open Go.RowKit

/-- What Normal answers. -/
def NormalPost (gs hs : List Pm) (w : World) (e : Ending) (w' : World) : Prop := ∃ (r : Bool) (c : Int), e = .returned (.tuple #[.bool r, .int .i64 c]) ∧
  ((c = 14 ∧ r = false ∧ ∃ y, y ∈ hs ∧ ¬ Gen (fun z => z ∈ gs) y) ∨ (c = 0 ∧ (∀ y, y ∈ hs → Gen (fun z => z ∈ gs) y) ∧ (r = true ↔ ∀ x, x ∈ gs → ∀ y, y ∈ hs → Gen (fun z => z ∈ hs) (x * y * x⁻¹)))) ∧ Below w.heap.size w w'

theorem Chained.has {w : World} {B g n : Nat} {bs : List Nat} {C : List Lk} {st : Nat → St} {gs : List Pm} (h : Chained w B g n bs C st gs) {p : Pm} (hf : Fixes (fun b => n ≤ b) p) : hasC C p = true ↔ Gen (fun z => z ∈ gs) p := (has_iff h.whole hf).trans (h.gen p)

theorem Chained.fixes {w : World} {B g n : Nat} {bs : List Nat} {C : List Lk} {st : Nat → St} {gs : List Pm} (h : Chained w B g n bs C st gs) {p : Pm} (hp : Gen (fun z => z ∈ gs) p) : Fixes (fun b => n ≤ b) p := prd_fix h.whole ((h.gen p).2 hp)

theorem Chained.ask {w : World} {B g n : Nat} {bs : List Nat} {C : List Lk} {st : Nat → St} {gs : List Pm} (h : Chained w B g n bs C st gs) (h12 : n ≤ 12) (hbs : ∀ b, b ∈ bs → b < 12) {w' : World} (hb : Below w.heap.size w w') {p : Pm} (hf : Fixes (fun b => n ≤ b) p) :
    ∃ t : Bool, (t = true ↔ Gen (fun z => z ∈ gs) p) ∧ Calls Try.prog 97 #[.slice (some ⟨g, 0, none⟩) n n, .int .i64 0, .agg (p.l.map (Value.int .i8)).toArray] w' fun e w'' => e = .returned (.bool t) ∧ Below w'.heap.size w' w'' := by
  have hk := has_ok C 0 p w' (h.chain.below hb (Nat.le_refl _)) (Nat.zero_le _) (by rw [h.len]; exact h12) (fun l hl => hbs _ (by rw [← h.bases]; exact List.mem_map.2 ⟨l, hl, rfl⟩))
  rw [h.len, List.drop_zero] at hk
  exact ⟨_, h.has hf, hk⟩

theorem Packs.at {w : World} {p : Option Addr} {m cap : Nat} {gs : List Pm} (h : Packs w (.slice p m cap) gs) {k : Nat} (hk : k < gs.length) : ∃ b off q, p = some ⟨b, off, none⟩ ∧ gs[k]? = some q ∧ w.rangeAt b (off + k * 12) (q.l.map (Value.int .i8)) ∧ gs.length ≤ cap := by
  rcases h with ⟨e, _⟩ | ⟨b, off, cap', hv, _, hc, _, _, hr⟩
  · rw [e] at hk; simp at hk
  · injection hv with e1 _ e3
    exact ⟨b, off, gs[k], e1, List.getElem?_eq_getElem hk, hr k _ (List.getElem?_eq_getElem hk), by omega⟩

end Go.Proofs.Ytahffpgadoiijaa

/- Contract: Has. -/
namespace Go.Proofs.Ytahffpgadoiijaa
open Go.RowKit

theorem rchk_zero {n : Nat} {xs : List Int} (h : rchk n xs = 0) : isRow xs ∧ xs.length = n ∧ 1 ≤ n ∧ n ≤ 12 := by
  unfold rchk at h
  split at h
  · rename_i h0
    have hc := chk_zero h0
    split at h
    · rename_i hl; exact ⟨hc.2.2, hl, by omega, by omega⟩
    · omega
  · rename_i h0; exact absurd h h0

end Go.Proofs.Ytahffpgadoiijaa

/- Contract: change (a letter's row). -/
namespace Go.Proofs.Ytahffpgadoiijaa
open Go.RowKit

theorem ret_arr_tmp {fn : Func} {R : Ending → World → Prop} {a : Act} {w : World} {p u : Tmp} {b : Nat} {zs : List Int} {t : Value} (h : fn.results = #[.cell p 81, .tmp u]) (hp : a.tmps.getD p undef = .pointer (some ⟨b, 0, none⟩)) (hu : a.tmps.getD u undef = t) (hA : Arr w b zs) (hd : a.defers = []) (hR : R (.returned (.tuple #[.agg (i8s zs), t])) w) : bodyPost Try.prog fn R .ret a w := by
  refine bodyPost_ret (v := .tuple #[.agg (i8s zs), t]) ?_ hd hR
  have hp' : a.tmps[p]?.getD undef = .pointer (some ⟨b, 0, none⟩) := by simpa using hp
  have hu' : a.tmps[u]?.getD undef = t := by simpa using hu
  rw [results_cell_tmp h]
  simp [hp', hu', asAddr, Result.andThen, run_loadVar_arr hA]

end Go.Proofs.Ytahffpgadoiijaa

/- Contract: Say. -/
namespace Go.Proofs.Ytahffpgadoiijaa
open Go.RowKit

/-- A letter's row. -/
noncomputable def lett (gs : List Pm) (k : Int) : Option Pm := if 1 ≤ k then gs[(k - 1).toNat]? else if k ≤ -1 then (gs[(-k - 1).toNat]?).map (fun x => x⁻¹) else none

/-- A word's row, from p on. -/
noncomputable def say (gs : List Pm) : List Int → Pm → Option Pm
  | [], p => some p
  | k :: t, p => (lett gs k).elim none (fun x => say gs t (p * x))

theorem say_drop {gs : List Pm} {xs : List Int} {k : Nat} {y : Int} (hk : k < xs.length) (hy : xs[k]?.getD 0 = y) (p : Pm) : say gs (xs.drop k) p = (lett gs y).elim none (fun x => say gs (xs.drop (k + 1)) (p * x)) := by
  rw [List.drop_eq_getElem_cons hk]
  have : xs[k] = y := by rw [← hy, List.getElem?_eq_getElem hk]; rfl
  rw [this]
  rfl

def SayPost (n : Nat) (gs : List Pm) (xs : List Int) (w : World) (e : Ending) (w' : World) : Prop :=
  ((say gs xs 1 = none ∧ e = .returned (.tuple #[.slice none 0 0, .int .i64 12])) ∨ ∃ v p, say gs xs 1 = some p ∧ e = .returned (.tuple #[v, .int .i64 0]) ∧ w'.ownsRow w.heap.size 3 1 v n ((cut n p).map (Value.int .i64))) ∧ Below w.heap.size w w'

end Go.Proofs.Ytahffpgadoiijaa

/- Plain: the words that rows were come to by first are as short as can be. -/
namespace Go.Proofs.Ytahffpgadoiijaa

structure Lev (i : Nat) (S : List (Pm × List Int)) : Prop where
  sorted : S.Pairwise (fun a b => a.2.length ≤ b.2.length)
  bound : ∀ k d, k + 1 = i → S[k]? = some d → ∀ e, e ∈ S → e.2.length ≤ d.2.length + 1

theorem tryTo_lev {L : List (Int × Pm)} {e0 : Pm × List Int} {S : List (Pm × List Int)} (hs : S.Pairwise (fun a b => a.2.length ≤ b.2.length)) (hb : ∀ e, e ∈ S → e.2.length ≤ e0.2.length + 1) (j : Nat) :
    (tryTo L e0 S j).Pairwise (fun a b => a.2.length ≤ b.2.length) ∧ ∀ e, e ∈ tryTo L e0 S j → e.2.length ≤ e0.2.length + 1 := by
  unfold tryTo
  generalize L.take j = M
  induction M generalizing S with
  | nil => exact ⟨hs, hb⟩
  | cons l M ih =>
    rw [List.foldl_cons]
    by_cases hc : e0.1 * l.2 ∈ S.map (·.1)
    · rw [tryL_old hc]; exact ih hs hb
    · rw [tryL_new hc]
      refine ih ?_ ?_
      · rw [List.pairwise_append]
        refine ⟨hs, by simp, fun a ha b hb' => ?_⟩
        rw [List.mem_singleton.1 hb']
        have := hb a ha
        simp only [List.length_append, List.length_singleton]
        exact this
      · intro e he
        rcases List.mem_append.1 he with he | he
        · exact hb e he
        · rw [List.mem_singleton.1 he]
          simp

theorem Run.lev {L : List (Int × Pm)} {i : Nat} {S : List (Pm × List Int)} (h : Run L i S) : Lev i S := by
  induction h with
  | start => exact ⟨by simp, fun k d hk => by omega⟩
  | @step i S e0 h he ih =>
    have hb0 : ∀ e, e ∈ S → e.2.length ≤ e0.2.length + 1 := by
      cases i with
      | zero =>
        cases h
        intro e he'
        rw [List.mem_singleton.1 he']
        exact Nat.zero_le _
      | succ k =>
        intro e he'
        have hk : k < S.length := by have := (List.getElem?_eq_some_iff.1 he).1; omega
        have h1 := ih.bound k S[k] rfl (List.getElem?_eq_getElem hk) e he'
        have h2 := List.pairwise_iff_getElem.1 ih.sorted k (k + 1) hk (List.getElem?_eq_some_iff.1 he).1 (Nat.lt_succ_self k)
        rw [(List.getElem?_eq_some_iff.1 he).2] at h2
        omega
    obtain ⟨h1, h2⟩ := tryTo_lev (L := L) (e0 := e0) ih.sorted hb0 L.length
    refine ⟨h1, fun k d hk hd e he' => ?_⟩
    have hki : k = i := by omega
    subst hki
    obtain ⟨more, hm⟩ := tryTo_more L e0 S L.length
    rw [hm, List.getElem?_append_left (List.getElem?_eq_some_iff.1 he).1, he] at hd
    rw [← Option.some.inj hd]
    exact h2 e he'

theorem Run.near {L : List (Int × Pm)} {i : Nat} {S : List (Pm × List Int)} (h : Run L i S) : ∀ k e, k < i → S[k]? = some e → ∀ l, l ∈ L → ∃ wd, (e.1 * l.2, wd) ∈ S ∧ wd.length ≤ e.2.length + 1 := by
  intro k e hk hke l hl
  obtain ⟨T, hT, m1, e1⟩ := h.pre (k + 1) hk
  have hm := hT.lev
  have hTl := hT.le
  have hk2 : T[k]? = some e := by
    rw [e1, List.getElem?_append_left (by omega)] at hke
    exact hke
  have h3 := hT.done k e (Nat.lt_succ_self k) hk2 l hl
  obtain ⟨d, hd, e2⟩ := List.mem_map.1 h3
  refine ⟨d.2, by rw [e1, ← e2]; exact List.mem_append_left _ hd, hm.bound k e rfl hk2 d hd⟩

/-- Rows that words of letters say. -/
inductive Wds (L : List (Int × Pm)) : Nat → Pm → Prop
  | nil : Wds L 0 1
  | snoc {k : Nat} {x : Pm} {l : Int × Pm} : Wds L k x → l ∈ L → Wds L (k + 1) (x * l.2)

theorem Run.short {L : List (Int × Pm)} {i : Nat} {S : List (Pm × List Int)} (h : Run L i S) (hi : S.length ≤ i) {k : Nat} {x : Pm} (hx : Wds L k x) : ∃ wd, (x, wd) ∈ S ∧ wd.length ≤ k := by
  induction hx with
  | nil => exact ⟨[], h.ok.first, Nat.le_refl _⟩
  | @snoc k x l _ hl ih =>
    obtain ⟨wd, h1, h2⟩ := ih
    obtain ⟨j, hj, ej⟩ := List.getElem_of_mem h1
    obtain ⟨wd', h3, h4⟩ := h.near j (x, wd) (by omega) (by rw [List.getElem?_eq_getElem hj, ej]) l hl
    exact ⟨wd', h3, by simp only at h4; omega⟩

/-- What a word in the table says. -/
def Said (gs : List Pm) (e : Pm × List Int) : Prop := say gs e.2 1 = some e.1

theorem say_app (gs : List Pm) : ∀ (a b : List Int) (p : Pm), say gs (a ++ b) p = (say gs a p).bind (fun q => say gs b q)
  | [], b, p => rfl
  | k :: a, b, p => by
    show (lett gs k).elim none (fun x => say gs (a ++ b) (p * x)) = ((lett gs k).elim none (fun x => say gs a (p * x))).bind _
    cases lett gs k with
    | none => rfl
    | some x => exact say_app gs a b (p * x)

theorem glet_mem {gs : List Pm} {k : Nat} {l : Int × Pm} (h : l ∈ glet k gs) : ∃ j x, gs[j]? = some x ∧ (l = (((k + j : Nat) : Int) + 1, x) ∨ l = (-((k + j : Nat) : Int) - 1, x⁻¹)) := by
  induction gs generalizing k with
  | nil => cases h
  | cons y t ih =>
    rw [glet] at h
    rcases List.mem_cons.1 h with h | h
    · exact ⟨0, y, rfl, Or.inl h⟩
    · rcases List.mem_cons.1 h with h | h
      · exact ⟨0, y, rfl, Or.inr h⟩
      · obtain ⟨j, x, h1, h2⟩ := ih h
        refine ⟨j + 1, x, h1, ?_⟩
        rw [show k + (j + 1) = k + 1 + j by omega]
        exact h2

theorem glet_lett {gs : List Pm} {l : Int × Pm} (h : l ∈ glet 0 gs) : lett gs l.1 = some l.2 := by
  obtain ⟨j, x, h1, h2 | h2⟩ := glet_mem h
  · rw [h2, Nat.zero_add]
    unfold lett
    rw [if_pos (by omega), show ((j : Int) + 1 - 1).toNat = j by omega]
    exact h1
  · rw [h2, Nat.zero_add]
    unfold lett
    rw [if_neg (by omega), if_pos (by omega), show (-(-(j : Int) - 1) - 1).toNat = j by omega, h1]
    rfl

theorem lett_glet {gs : List Pm} {k : Int} {z : Pm} (h : lett gs k = some z) : ∃ l, l ∈ glet 0 gs ∧ l.2 = z := by
  unfold lett at h
  by_cases h1 : 1 ≤ k
  · rw [if_pos h1] at h
    exact ⟨_, List.mem_of_getElem? (glet_even (k := 0) h), rfl⟩
  · rw [if_neg h1] at h
    by_cases h2 : k ≤ -1
    · rw [if_pos h2] at h
      obtain ⟨x, hx, e⟩ := Option.map_eq_some_iff.1 h
      exact ⟨_, List.mem_of_getElem? (glet_odd (k := 0) hx), e⟩
    · rw [if_neg h2] at h; cases h

theorem say_wds {gs : List Pm} : ∀ (a : List Int) (p x : Pm) (k : Nat), Wds (glet 0 gs) k p → say gs a p = some x → Wds (glet 0 gs) (k + a.length) x
  | [], p, x, k, hp, h => by rw [← Option.some.inj h]; exact hp
  | y :: a, p, x, k, hp, h => by
    have h' : (lett gs y).elim none (fun z => say gs a (p * z)) = some x := h
    cases hl : lett gs y with
    | none => rw [hl] at h'; cases h'
    | some z =>
      rw [hl] at h'
      obtain ⟨l, hm, rfl⟩ := lett_glet hl
      have := say_wds a (p * l.2) x (k + 1) (Wds.snoc hp hm) h'
      rw [List.length_cons, show k + (a.length + 1) = k + 1 + a.length by omega]
      exact this

theorem Run.said {gs : List Pm} {i : Nat} {S : List (Pm × List Int)} (h : Run (glet 0 gs) i S) : ∀ e, e ∈ S → say gs e.2 1 = some e.1 := by
  have one : ∀ (e0 : Pm × List Int) (M : List (Int × Pm)) (S : List (Pm × List Int)), (∀ l, l ∈ M → l ∈ glet 0 gs) → say gs e0.2 1 = some e0.1 → (∀ e, e ∈ S → say gs e.2 1 = some e.1) → ∀ e, e ∈ M.foldl (tryL e0) S → say gs e.2 1 = some e.1 := by
    intro e0 M
    induction M with
    | nil => intro S _ _ h; exact h
    | cons l M ih =>
      intro S hM h0 hS
      refine ih _ (fun x hx => hM x (List.mem_cons_of_mem _ hx)) h0 ?_
      by_cases hc : e0.1 * l.2 ∈ S.map (·.1)
      · rw [tryL_old hc]; exact hS
      · rw [tryL_new hc]
        intro e he
        rcases List.mem_append.1 he with he | he
        · exact hS e he
        · rw [List.mem_singleton.1 he]
          show say gs (e0.2 ++ [l.1]) 1 = some (e0.1 * l.2)
          rw [say_app, h0]
          show (lett gs l.1).elim none (fun x => say gs [] (e0.1 * x)) = _
          rw [glet_lett (hM l List.mem_cons_self)]
          rfl
  induction h with
  | start => intro e he; rw [List.mem_singleton.1 he]; rfl
  | step h he ih => exact one _ _ _ (fun l hl => List.mem_of_mem_take hl) (ih _ (List.mem_of_getElem? he)) ih

theorem glet_gen (k : Nat) (gs : List Pm) (x : Pm) : Gen (fun y => ∃ l, l ∈ glet k gs ∧ l.2 = y) x ↔ Gen (fun y => y ∈ gs) x := by
  constructor
  · intro h
    refine h.least (Gen.sub _) (fun s ⟨l, hl, e⟩ => ?_)
    obtain ⟨j, x, h1, h2 | h2⟩ := glet_mem hl
    · rw [← e, h2]; exact Gen.of (List.mem_of_getElem? h1)
    · rw [← e, h2]; exact (Gen.of (S := fun y => y ∈ gs) (List.mem_of_getElem? h1)).inv
  · intro h
    refine h.mono (fun s hs => ?_)
    obtain ⟨j, hj, e⟩ := List.getElem_of_mem hs
    exact ⟨_, List.mem_of_getElem? (glet_even (k := k) (List.getElem?_eq_getElem hj)), e⟩

/-- The search ends: with n rows at most, none twice. -/
theorem Run.len {L : List (Int × Pm)} {i : Nat} {S : List (Pm × List Int)} (h : Run L i S) {X : List Pm} (hX : ∀ x, Gen (fun x => ∃ l, l ∈ L ∧ l.2 = x) x → x ∈ X) : S.length ≤ X.length := by
  classical
  have := nodup_len (S.map (·.1)) X h.ok.nodup (fun x hx => by obtain ⟨e, he, rfl⟩ := List.mem_map.1 hx; exact hX _ (h.ok.gen e he))
  rwa [List.length_map] at this

theorem Run.lenTo {L : List (Int × Pm)} {i : Nat} {S : List (Pm × List Int)} {e : Pm × List Int} (h : Run L i S) (he : S[i]? = some e) (j : Nat) {X : List Pm} (hX : ∀ x, Gen (fun x => ∃ l, l ∈ L ∧ l.2 = x) x → x ∈ X) : (tryTo L e S j).length ≤ X.length := by
  classical
  have hk := h.ok.tryTo (h.ok.gen e (List.mem_of_getElem? he)) j
  have := nodup_len ((tryTo L e S j).map (·.1)) X hk.nodup (fun x hx => by obtain ⟨d, hd, rfl⟩ := List.mem_map.1 hx; exact hX _ (hk.gen d hd))
  rwa [List.length_map] at this

theorem Run.more {L : List (Int × Pm)} {i j : Nat} {S T : List (Pm × List Int)} (h : Run L i S) (k : Run L j T) (hij : i ≤ j) : ∃ m, T = S ++ m := by
  obtain ⟨S', h', m, e⟩ := k.pre i hij
  rw [h.det h']
  exact ⟨m, e⟩

/-- There is a way through all. -/
theorem Run.exists {L : List (Int × Pm)} {X : List Pm} (hX : ∀ x, Gen (fun x => ∃ l, l ∈ L ∧ l.2 = x) x → x ∈ X) : ∃ i S, Run L i S ∧ S.length ≤ i := by
  have key : ∀ d i S, Run L i S → X.length - i ≤ d → ∃ i S, Run L i S ∧ S.length ≤ i := by
    intro d
    induction d with
    | zero =>
      intro i S h hd
      exact ⟨i, S, h, by have := h.len hX; omega⟩
    | succ d ih =>
      intro i S h hd
      by_cases hi : S.length ≤ i
      · exact ⟨i, S, h, hi⟩
      · exact ih (i + 1) _ (Run.step h (List.getElem?_eq_getElem (by omega))) (by omega)
  exact key X.length 0 _ Run.start (by omega)

end Go.Proofs.Ytahffpgadoiijaa

/- slices.Sort over ints, off the library's shelf: what it leans on. -/
namespace Go.Proofs.Ytahffpgadoiijaa
open Go.RowKit Go.Shelf
set_option maxRecDepth 100000
set_option linter.unusedVariables false

end Go.Proofs.Ytahffpgadoiijaa

/- Contract: slices.Sort over ints that the call owns. -/
namespace Go.Proofs.Ytahffpgadoiijaa
open Go.RowKit Go.Shelf Go.Lib Go.Sort

theorem puti_take (dk : Array Int) (cur : Array Value) (h : dk.size ≤ cur.size) : (putCells (Value.int .i64) 0 dk cur).toList.take dk.size = dk.toList.map (Value.int .i64) := by
  refine List.ext_getElem (by simp [putCells]; omega) (fun i h1 h2 => ?_)
  have hi : i < dk.size := by simpa using h2
  simp only [putCells, List.getElem_take, Array.toList_mapIdx, List.getElem_mapIdx, List.getElem_map, Array.getElem_toList]
  rw [if_pos ⟨Nat.zero_le _, by omega⟩, Nat.sub_zero, getElem!_pos dk i hi]

end Go.Proofs.Ytahffpgadoiijaa

/- Contract: slices.Reverse over ints that the call owns, off the library's shelf. -/
namespace Go.Proofs.Ytahffpgadoiijaa
open Go.RowKit Go.Shelf Go.Lib Go.Sort
set_option maxRecDepth 100000
set_option linter.unusedVariables false

end Go.Proofs.Ytahffpgadoiijaa

/- Contract: a row's shortest word. -/
namespace Go.Proofs.Ytahffpgadoiijaa
open Go.RowKit Go.Maps

theorem prounds_raw (w : World) : Calls Try.prog 70 #[] w fun e w' => e = .returned (.agg ((1 : Pm).l.map (Value.int .i8)).toArray) ∧ Below w.heap.size w w' := prounds_ok w

/-- What is asked of the search for a word. -/
def ShPost (gs : List Pm) (to : Pm) (w : World) (e : Ending) (w' : World) : Prop :=
  ∃ (u : Value) (wd : List Int) (i : Nat) (S : List (Pm × List Int)), e = .returned u ∧ Run (glet 0 gs) i S ∧ (to, wd) ∈ S ∧ w'.ownsRow w.heap.size 3 1 u wd.length (wd.map (Value.int .i64)) ∧ Below w.heap.size w w'

theorem slot_len {w : World} {base e size n : Nat} {v : Value} {xs : List Value} (h : w.ownsRow base e size v n xs) : slenV v = n := by
  rcases h.2 with ⟨h0, h1⟩ | ⟨g, cap, cur, hv, _⟩
  · rw [h0, h1]; rfl
  · rw [hv]; rfl

end Go.Proofs.Ytahffpgadoiijaa

/- Plain: which bells come to each other's places. -/
namespace Go.Proofs.Ytahffpgadoiijaa

/-- A bell comes to another's place by a row of the group. -/
def Reach (gs : List Pm) (a b : Nat) : Prop := ∃ x, Gen (fun y => y ∈ gs) x ∧ x.act a = b

structure OrbIn (gs : List Pm) (n a : Nat) (O : List Nat) (i j : Nat) : Prop where
  nodup : O.Nodup
  lt : ∀ b, b ∈ O → b < n
  fst : a ∈ O
  reach : ∀ b, b ∈ O → Reach gs a b
  done : ∀ k l c s, (k < i ∨ (k = i ∧ l < j)) → O[k]? = some c → gs[l]? = some s → s.act c ∈ O

theorem OrbIn.start (gs : List Pm) {n a : Nat} (h : a < n) : OrbIn gs n a [a] 0 0 :=
  ⟨by simp, fun b hb => by rw [List.mem_singleton.1 hb]; exact h, by simp, fun b hb => by rw [List.mem_singleton.1 hb]; exact ⟨1, Gen.one, Pm.act_one a⟩, fun k l c s h => by omega⟩

theorem nodup_le {n : Nat} {O : List Nat} (h : O.Nodup) (hl : ∀ b, b ∈ O → b < n) : O.length ≤ n := by
  have := h.length_le_of_subset (l₂ := List.range n) (fun b hb => List.mem_range.2 (hl b hb))
  simpa using this

theorem OrbIn.len {gs : List Pm} {n a i j : Nat} {O : List Nat} (h : OrbIn gs n a O i j) : O.length ≤ n := nodup_le h.nodup h.lt

theorem OrbIn.old {gs : List Pm} {n a i j : Nat} {O : List Nat} {c : Nat} {s : Pm} (h : OrbIn gs n a O i j) (hc : O[i]? = some c) (hs : gs[j]? = some s) (hm : s.act c ∈ O) : OrbIn gs n a O i (j + 1) := by
  refine ⟨h.nodup, h.lt, h.fst, h.reach, fun k l c' s' hk hc' hs' => ?_⟩
  by_cases h' : k < i ∨ (k = i ∧ l < j)
  · exact h.done k l c' s' h' hc' hs'
  · obtain rfl : k = i := by omega
    obtain rfl : l = j := by omega
    rw [hc] at hc'
    rw [hs] at hs'
    obtain rfl := Option.some.inj hc'
    obtain rfl := Option.some.inj hs'
    exact hm

theorem OrbIn.new {gs : List Pm} {n a i j : Nat} {O : List Nat} {c : Nat} {s : Pm} (h : OrbIn gs n a O i j) (hc : O[i]? = some c) (hs : gs[j]? = some s) (hm : s.act c ∉ O) (hn : s.act c < n) : OrbIn gs n a (O ++ [s.act c]) i (j + 1) := by
  have hi := (List.getElem?_eq_some_iff.1 hc).1
  have hg : OrbIn gs n a (O ++ [s.act c]) i j := by
    refine ⟨?_, fun b hb => ?_, List.mem_append_left _ h.fst, fun b hb => ?_, fun k l c' s' hk hc' hs' => ?_⟩
    · rw [List.nodup_append]
      exact ⟨h.nodup, by simp, fun x hx y hy e => hm (by rw [← List.mem_singleton.1 hy, ← e]; exact hx)⟩
    · rcases List.mem_append.1 hb with hb | hb
      · exact h.lt b hb
      · rw [List.mem_singleton.1 hb]; exact hn
    · rcases List.mem_append.1 hb with hb | hb
      · exact h.reach b hb
      · rw [List.mem_singleton.1 hb]
        obtain ⟨x, hx, e⟩ := h.reach c (List.mem_of_getElem? hc)
        exact ⟨s * x, Gen.mul (List.mem_of_getElem? hs) hx, by rw [Pm.act_mul, e]⟩
    · rw [List.getElem?_append_left (by omega)] at hc'
      exact List.mem_append_left _ (h.done k l c' s' hk hc' hs')
  exact hg.old (c := c) (s := s) (by rw [List.getElem?_append_left hi]; exact hc) hs (by simp)

theorem OrbIn.next {gs : List Pm} {n a i : Nat} {O : List Nat} (h : OrbIn gs n a O i gs.length) : OrbIn gs n a O (i + 1) 0 := by
  refine ⟨h.nodup, h.lt, h.fst, h.reach, fun k l c s hk hc hs => ?_⟩
  have hl := (List.getElem?_eq_some_iff.1 hs).1
  exact h.done k l c s (by omega) hc hs

theorem OrbIn.all {gs : List Pm} {n a : Nat} {O : List Nat} (h : OrbIn gs n a O O.length 0) (b : Nat) : b ∈ O ↔ Reach gs a b := by
  refine ⟨h.reach b, ?_⟩
  rintro ⟨x, hx, rfl⟩
  induction hx with
  | one => rw [Pm.act_one]; exact h.fst
  | @mul s x hs _ ih =>
    rw [Pm.act_mul]
    obtain ⟨k, hk, ek⟩ := List.getElem_of_mem ih
    obtain ⟨l, hl, el⟩ := List.getElem_of_mem hs
    exact h.done k l (x.act a) s (Or.inl hk) (by rw [List.getElem?_eq_getElem hk, ek]) (by rw [List.getElem?_eq_getElem hl, el])

end Go.Proofs.Ytahffpgadoiijaa

/- Plain: a group's size is how many rows it has; what is cut into parts that are alike; Lagrange; orbit and stabiliser. -/
namespace Go.Proofs.Ytahffpgadoiijaa

theorem len_same {α : Type} (l m : List α) (hl : l.Nodup) (hm : m.Nodup) (h : ∀ x, x ∈ l ↔ x ∈ m) : l.length = m.length := by
  classical
  exact Nat.le_antisymm (nodup_len l m hl (fun x hx => (h x).1 hx)) (nodup_len m l hm (fun x hx => (h x).2 hx))

theorem nodup_flatK {α β : Type} (B : α → List β) (k : β → α) : ∀ (l : List α), l.Nodup → (∀ e, e ∈ l → (B e).Nodup) → (∀ e, e ∈ l → ∀ x, x ∈ B e → k x = e) → (l.flatMap B).Nodup
  | [], _, _, _ => by simp
  | a :: l, hn, h1, h2 => by
    rw [List.nodup_cons] at hn
    rw [List.flatMap_cons, List.nodup_append]
    refine ⟨h1 a List.mem_cons_self, nodup_flatK B k l hn.2 (fun e he => h1 e (List.mem_cons_of_mem _ he)) (fun e he => h2 e (List.mem_cons_of_mem _ he)), fun x hx y hy e => ?_⟩
    subst e
    obtain ⟨e, he, hxe⟩ := List.mem_flatMap.1 hy
    have h3 := h2 a List.mem_cons_self x hx
    have h4 := h2 e (List.mem_cons_of_mem _ he) x hxe
    exact hn.1 (by rw [← h3, h4]; exact he)

theorem flat_lenK {α β : Type} (f : α → List β) (m : Nat) : ∀ (l : List α), (∀ e, e ∈ l → (f e).length = m) → (l.flatMap f).length = l.length * m
  | [], _ => by simp
  | a :: l, h => by
    rw [List.flatMap_cons, List.length_append, flat_lenK f m l (fun e he => h e (List.mem_cons_of_mem _ he)), h a List.mem_cons_self, List.length_cons, Nat.succ_mul, Nat.add_comm]

theorem nodup_mapI {α β : Type} (f : α → β) (hf : ∀ a b, f a = f b → a = b) : ∀ (l : List α), l.Nodup → (l.map f).Nodup
  | [], _ => by simp
  | a :: l, h => by
    rw [List.nodup_cons] at h
    rw [List.map_cons, List.nodup_cons]
    exact ⟨fun hm => by obtain ⟨b, hb, e⟩ := List.mem_map.1 hm; exact h.1 (by rw [← hf _ _ e]; exact hb), nodup_mapI f hf l h.2⟩

/-- A group's size is how many rows it has. -/
theorem sz_list {G : Pm → Prop} (hG : Sub G) {n : Nat} (hn : n ≤ 12) (hf : ∀ x, G x → Fixes (fun b => n ≤ b) x) : ∃ L : List Pm, L.Nodup ∧ (∀ x, x ∈ L ↔ G x) ∧ L.length = sz G n := by
  have key : ∀ d k, k + d = n → ∃ L : List Pm, L.Nodup ∧ (∀ x, x ∈ L ↔ Low G k x) ∧ sz G n = sz G k * L.length := by
    intro d
    induction d with
    | zero =>
      intro k hk
      refine ⟨[1], by simp, fun x => ?_, by rw [show k = n by omega]; simp⟩
      constructor
      · intro hx; rw [List.mem_singleton.1 hx]; exact (low_sub hG k).one
      · intro hx
        have : x = 1 := Pm.ext' (fun b _ => by
          rw [Pm.act_one]
          rcases Nat.lt_or_ge b n with hb | hb
          · exact hx.2 b (by omega)
          · exact hf x hx.1 b hb)
        rw [this]; simp
    | succ d ih =>
      intro k hk
      have hk12 : k < 12 := by omega
      obtain ⟨L, h1, h2, h3⟩ := ih (k + 1) (by omega)
      classical
      obtain ⟨u, hu⟩ : ∃ u : Nat → Pm, ∀ b, b ∈ orbL G k → Low G k (u b) ∧ (u b).act k = b := by
        refine ⟨fun b => if h : Orb G k b then Classical.choose h else 1, fun b hb => ?_⟩
        have h := (mem_orbL hk12).1 hb
        simp only [dif_pos h]
        exact Classical.choose_spec h
      refine ⟨(orbL G k).flatMap (fun b => L.map (fun y => u b * y)), ?_, fun x => ?_, ?_⟩
      · refine nodup_flatK _ (fun x => x.act k) _ (orbL_nodup G k) (fun b _ => nodup_mapI _ (fun a b h => Pm.mul_cancel h) _ h1) (fun b hb x hx => ?_)
        obtain ⟨y, hy, rfl⟩ := List.mem_map.1 hx
        rw [Pm.act_mul, ((h2 y).1 hy).2 k (Nat.lt_succ_self k)]
        exact (hu b hb).2
      · constructor
        · intro hx
          obtain ⟨b, hb, hx⟩ := List.mem_flatMap.1 hx
          obtain ⟨y, hy, rfl⟩ := List.mem_map.1 hx
          exact (low_sub hG k).mul (hu b hb).1 (low_plus.1 ((h2 y).1 hy)).1
        · intro hx
          have hb : x.act k ∈ orbL G k := (mem_orbL hk12).2 ⟨x, hx, rfl⟩
          refine List.mem_flatMap.2 ⟨_, hb, List.mem_map.2 ⟨(u (x.act k))⁻¹ * x, (h2 _).2 (low_plus.2 ⟨(low_sub hG k).mul ((low_sub hG k).inv (hu _ hb).1) hx, ?_⟩), Pm.mul_inv_cancel _ _⟩⟩
          rw [Pm.act_mul]
          conv => lhs; arg 2; rw [← (hu _ hb).2]
          exact Pm.inv_act _ _
      · rw [flat_lenK _ L.length _ (fun b _ => by rw [List.length_map]), h3]
        show sz G k * oc G k * L.length = sz G k * (oc G k * L.length)
        rw [Nat.mul_assoc]
  obtain ⟨L, h1, h2, h3⟩ := key n 0 (by omega)
  refine ⟨L, h1, fun x => (h2 x).trans ⟨fun h => h.1, fun h => ⟨h, fun b hb => by omega⟩⟩, ?_⟩
  rw [h3]
  show L.length = 1 * L.length
  rw [Nat.one_mul]

/-- Whoever lists a group without repeating has as many. -/
theorem sz_is {G : Pm → Prop} (hG : Sub G) {n : Nat} (hn : n ≤ 12) (hf : ∀ x, G x → Fixes (fun b => n ≤ b) x) {L : List Pm} (h1 : L.Nodup) (h2 : ∀ x, x ∈ L ↔ G x) : L.length = sz G n := by
  obtain ⟨M, m1, m2, m3⟩ := sz_list hG hn hf
  rw [← m3]
  exact len_same L M h1 m1 (fun x => (h2 x).trans (m2 x).symm)

/-- What is cut by a key into parts of one size. -/
theorem fibres {β : Type} [DecidableEq β] (f : Pm → β) (m : Nat) : ∀ (O : List β) (L : List Pm), O.Nodup → L.Nodup → (∀ x, x ∈ L → f x ∈ O) → (∀ b, b ∈ O → (L.filter (fun x => decide (f x = b))).length = m) → L.length = O.length * m
  | [], L, _, _, h, _ => by
    cases L with
    | nil => simp
    | cons x L => exact absurd (h x List.mem_cons_self) (by simp)
  | b :: O, L, hO, hL, h, hm => by
    rw [List.nodup_cons] at hO
    have e1 := hm b List.mem_cons_self
    have e2 := fibres f m O (L.filter (fun x => !decide (f x = b))) hO.2 (hL.sublist List.filter_sublist) (fun x hx => by
      rw [List.mem_filter] at hx
      rcases List.mem_cons.1 (h x hx.1) with e | e
      · simp [e] at hx
      · exact e) (fun c hc => by
      rw [List.filter_filter, ← hm c (List.mem_cons_of_mem _ hc)]
      congr 1
      refine List.filter_congr (fun x hx => ?_)
      by_cases e : f x = c
      · have : ¬ c = b := fun h => hO.1 (by rw [← h]; exact hc)
        simp [e, this]
      · simp [e])
    have e3 : L.length = (L.filter (fun x => decide (f x = b))).length + (L.filter (fun x => !decide (f x = b))).length := by
      rw [← List.length_append]
      exact ((List.filter_append_perm (fun x => decide (f x = b)) L).length_eq).symm
    rw [e3, e1, e2, List.length_cons, Nat.succ_mul, Nat.add_comm]

/-- Orbit and stabiliser. -/
theorem orb_stab {G : Pm → Prop} (hG : Sub G) {n : Nat} (hn : n ≤ 12) (hf : ∀ x, G x → Fixes (fun b => n ≤ b) x) (a : Nat) {O : List Nat} (hO : O.Nodup) (hm : ∀ b, b ∈ O ↔ ∃ x, G x ∧ x.act a = b) : sz G n = O.length * sz (fun x => G x ∧ x.act a = a) n := by
  have hS : Sub (fun x => G x ∧ x.act a = a) := ⟨⟨hG.one, Pm.act_one a⟩, fun hx hy => ⟨hG.mul hx.1 hy.1, by rw [Pm.act_mul, hy.2, hx.2]⟩, fun {x} hx => ⟨hG.inv hx.1, by have h := hx.2; rw [← h, Pm.inv_act, h]⟩⟩
  obtain ⟨L, l1, l2, l3⟩ := sz_list hG hn hf
  obtain ⟨M, m1, m2, m3⟩ := sz_list hS hn (fun x hx => hf x hx.1)
  rw [← l3, ← m3]
  refine fibres (fun x => x.act a) M.length O L hO l1 (fun x hx => (hm _).2 ⟨x, (l2 x).1 hx, rfl⟩) (fun b hb => ?_)
  obtain ⟨u, hu, eu⟩ := (hm b).1 hb
  rw [show M.length = (M.map (fun y => u * y)).length by rw [List.length_map]]
  refine len_same _ _ (l1.sublist List.filter_sublist) (nodup_mapI _ (fun a b h => Pm.mul_cancel h) _ m1) (fun x => ?_)
  rw [List.mem_filter, l2, decide_eq_true_iff, List.mem_map]
  constructor
  · rintro ⟨hx, e⟩
    refine ⟨u⁻¹ * x, (m2 _).2 ⟨hG.mul (hG.inv hu) hx, ?_⟩, Pm.mul_inv_cancel _ _⟩
    rw [Pm.act_mul, e, ← eu, Pm.inv_act]
  · rintro ⟨y, hy, rfl⟩
    have := (m2 y).1 hy
    exact ⟨hG.mul hu this.1, by rw [Pm.act_mul, this.2, eu]⟩

/-- Lagrange: a list that with each row has its part has a multiple of rows. -/
theorem lagr {H : Pm → Prop} (hH : Sub H) {M : List Pm} (m1 : M.Nodup) (m2 : ∀ x, x ∈ M ↔ H x) : ∀ (d : Nat) (L : List Pm), L.length ≤ d → L.Nodup → (∀ x, x ∈ L → ∀ y, H y → x * y ∈ L) → M.length ∣ L.length := by
  classical
  intro d
  induction d with
  | zero => intro L hd _ _; rw [show L.length = 0 by omega]; exact Nat.dvd_zero _
  | succ d ih =>
    intro L hd hL hc
    cases hLe : L with
    | nil => simp
    | cons x L' =>
      have hx : x ∈ L := by rw [hLe]; exact List.mem_cons_self
      rw [← hLe]
      have e3 : L.length = (L.filter (fun z => decide (H (x⁻¹ * z)))).length + (L.filter (fun z => !decide (H (x⁻¹ * z)))).length := by
        rw [← List.length_append]
        exact ((List.filter_append_perm (fun z => decide (H (x⁻¹ * z))) L).length_eq).symm
      have e1 : (L.filter (fun z => decide (H (x⁻¹ * z)))).length = M.length := by
        rw [show M.length = (M.map (fun y => x * y)).length by rw [List.length_map]]
        refine len_same _ _ (hL.sublist List.filter_sublist) (nodup_mapI _ (fun a b h => Pm.mul_cancel h) _ m1) (fun z => ?_)
        rw [List.mem_filter, decide_eq_true_iff, List.mem_map]
        constructor
        · rintro ⟨_, h⟩; exact ⟨_, (m2 _).2 h, Pm.mul_inv_cancel _ _⟩
        · rintro ⟨y, hy, rfl⟩
          exact ⟨hc x hx y ((m2 y).1 hy), by rw [Pm.inv_mul_cancel]; exact (m2 y).1 hy⟩
      have hM0 : 1 ≤ M.length := List.length_pos_of_mem ((m2 1).2 hH.one)
      have e2 := ih (L.filter (fun z => !decide (H (x⁻¹ * z)))) (by omega) (hL.sublist List.filter_sublist) (fun z hz y hy => by
        rw [List.mem_filter] at hz ⊢
        refine ⟨hc z hz.1 y hy, ?_⟩
        have h1 : ¬ H (x⁻¹ * z) := by simpa using hz.2
        have h2 : ¬ H (x⁻¹ * (z * y)) := fun h => h1 (by
          have := hH.mul h (hH.inv hy)
          rwa [Pm.mul_assoc, Pm.mul_assoc, Pm.mul_inv, Pm.mul_one] at this)
        simpa using h2)
      rw [e3, e1]
      exact Nat.dvd_add (Nat.dvd_refl _) e2

theorem sz_dvd {G H : Pm → Prop} (hG : Sub G) (hH : Sub H) (h : ∀ x, H x → G x) {n : Nat} (hn : n ≤ 12) (hf : ∀ x, G x → Fixes (fun b => n ≤ b) x) : sz H n ∣ sz G n := by
  obtain ⟨L, l1, l2, l3⟩ := sz_list hG hn hf
  obtain ⟨M, m1, m2, m3⟩ := sz_list hH hn (fun x hx => hf x (h x hx))
  rw [← l3, ← m3]
  exact lagr hH m1 m2 L.length L (Nat.le_refl _) l1 (fun x hx y hy => (l2 _).2 (hG.mul ((l2 x).1 hx) (h y hy)))

/-- All rows of n bells are n! -/
theorem sz_full {n : Nat} (hn : n ≤ 12) : sz (Fixes (fun b => n ≤ b)) n = fct n := by
  have hl : ((List.range (fct n)).map (fun k => pad (rowAt n k))).length = fct n := by simp
  rw [← hl]
  symm
  refine sz_is (fixes_sub _) hn (fun x hx => hx) ?_ (fun x => ?_)
  · rw [List.Nodup, List.pairwise_map]
    refine List.Pairwise.imp_of_mem (fun {a b} ha hb hne e => ?_) (List.nodup_range (n := fct n))
    have ha' := List.mem_range.1 ha
    have hb' := List.mem_range.1 hb
    have e2 : rowAt n a = rowAt n b := by
      rw [← cut_pad hn (rowAt_length ha') (rowAt_row ha'), e, cut_pad hn (rowAt_length hb') (rowAt_row hb')]
    have h1 := rank_rowAt ha'
    rw [e2, rank_rowAt hb'] at h1
    exact hne h1.symm
  · rw [List.mem_map]
    constructor
    · rintro ⟨k, hk, rfl⟩
      exact pad_fixes hn (rowAt_length (List.mem_range.1 hk)) (rowAt_row (List.mem_range.1 hk))
    · intro hx
      have hr := cut_row hn hx
      have hcl := cut_length hn x
      have hk : rankR (cut n x) < fct n := by have := rankR_lt (cut n x); rwa [hcl] at this
      refine ⟨rankR (cut n x), List.mem_range.2 hk, ?_⟩
      have e : rowAt n (rankR (cut n x)) = cut n x := by
        refine rankR_inj _ _ ?_ (rowAt_row hk).2 ?_
        · exact (rowAt_perm hk).trans (by have := row_perm_rnd hr; rw [hcl] at this; exact this.symm)
        · rw [← rkTo_all]; exact rank_rowAt hk
      rw [e, pad_cut hn hx]

theorem sz_fct {G : Pm → Prop} (hG : Sub G) {n : Nat} (hn : n ≤ 12) (hf : ∀ x, G x → Fixes (fun b => n ≤ b) x) : sz G n ∣ fct n := by
  rw [← sz_full hn]
  exact sz_dvd (fixes_sub _) hG hf hn (fun x hx => hx)

end Go.Proofs.Ytahffpgadoiijaa

/- Contract: Word. -/
namespace Go.Proofs.Ytahffpgadoiijaa
open Go.RowKit

theorem GroupAt.fix {w : World} {v : Value} {n : Nat} {gs : List Pm} (h : GroupAt w v n gs) {x : Pm} (hx : Gen (fun y => y ∈ gs) x) : Fixes (fun b => n ≤ b) x := by
  obtain ⟨g1, vg1, B1, c1, bs1, C1, st1, rfl, hg1, a10, a11, a12, hP1, hC1, hb1, rfl⟩ := h
  exact prd_fix hC1.whole ((hC1.gen x).2 hx)

/-- What Word answers: an error, or the word that the search has come to the row by. -/
def WordPost (n : Nat) (gs : List Pm) (xs : List Int) (w : World) (e : Ending) (w' : World) : Prop :=
  Below w.heap.size w w' ∧
    ((rchk n xs ≠ 0 ∧ e = .returned (.tuple #[.slice none 0 0, .int .i64 (rchk n xs)])) ∨
     (rchk n xs = 0 ∧ ¬ Gen (fun y => y ∈ gs) (pad xs) ∧ e = .returned (.tuple #[.slice none 0 0, .int .i64 14])) ∨
     (rchk n xs = 0 ∧ Gen (fun y => y ∈ gs) (pad xs) ∧ 5040 < sz (Gen (fun y => y ∈ gs)) n ∧ e = .returned (.tuple #[.slice none 0 0, .int .i64 3])) ∨
     (rchk n xs = 0 ∧ Gen (fun y => y ∈ gs) (pad xs) ∧ sz (Gen (fun y => y ∈ gs)) n ≤ 5040 ∧ ∃ (u : Value) (wd : List Int) (i : Nat) (S : List (Pm × List Int)), e = .returned (.tuple #[u, .int .i64 0]) ∧ Run (glet 0 gs) i S ∧ (pad xs, wd) ∈ S ∧ w'.ownsRow w.heap.size 3 1 u wd.length (wd.map (Value.int .i64))))

end Go.Proofs.Ytahffpgadoiijaa

/- slices.SortFunc over packed rows, off the library's shelf: what it leans on. -/
namespace Go.Proofs.Ytahffpgadoiijaa
open Go.RowKit Go.Shelf

def rnSP : Go.Shelf.Ren := ⟨fun x => match x with | 6 => 55 | 14 => 74 | 15 => 75 | 20 => 83 | 21 => 84 | 22 => 85 | 23 => 86 | 24 => 87 | 25 => 88 | 26 => 89 | 27 => 90 | 28 => 91 | 29 => 92 | 46 => 99 | 47 => 100 | 48 => 101 | 49 => 102 | 50 => 103 | 57 => 106 | y => y,
  fun x => match x with | 0 => 0 | 3 => 3 | 4 => 4 | 5 => 5 | 9 => 9 | 22 => 78 | 24 => 81 | 25 => 90 | 39 => 91 | 45 => 113 | 46 => 114 | 50 => 55 | 53 => 120 | 55 => 122 | 66 => 127 | 70 => 131 | 76 => 135 | 77 => 136 | y => y, fun x => x⟩

theorem laysSP : Go.Proofs.SlLaysF0.n6 Try.prog rnSP where
  mixed := by kernel_rfl
  f6 := ⟨ "slices.SortFunc[[]campanile/group.packed,campanile/group.packed]", by kernel_rfl, by kernel_rfl⟩
  f14 := ⟨ "slices.pdqsortCmpFunc[campanile/group.packed]", by kernel_rfl, by kernel_rfl⟩
  f15 := by kernel_rfl
  f20 := ⟨ "slices.insertionSortCmpFunc[campanile/group.packed]", by kernel_rfl, by kernel_rfl⟩
  f21 := ⟨ "slices.heapSortCmpFunc[campanile/group.packed]", by kernel_rfl, by kernel_rfl⟩
  f22 := ⟨ "slices.breakPatternsCmpFunc[campanile/group.packed]", by kernel_rfl, by kernel_rfl⟩
  f23 := ⟨ "slices.choosePivotCmpFunc[campanile/group.packed]", by kernel_rfl, by kernel_rfl⟩
  f24 := ⟨ "slices.reverseRangeCmpFunc[campanile/group.packed]", by kernel_rfl, by kernel_rfl⟩
  f25 := ⟨ "slices.partialInsertionSortCmpFunc[campanile/group.packed]", by kernel_rfl, by kernel_rfl⟩
  f26 := ⟨ "slices.partitionEqualCmpFunc[campanile/group.packed]", by kernel_rfl, by kernel_rfl⟩
  f27 := ⟨ "slices.partitionCmpFunc[campanile/group.packed]", by kernel_rfl, by kernel_rfl⟩
  f28 := by kernel_rfl
  f29 := by kernel_rfl
  f46 := ⟨ "slices.siftDownCmpFunc[campanile/group.packed]", by kernel_rfl, by kernel_rfl⟩
  f47 := by kernel_rfl
  f48 := by kernel_rfl
  f49 := ⟨ "slices.medianAdjacentCmpFunc[campanile/group.packed]", by kernel_rfl, by kernel_rfl⟩
  f50 := ⟨ "slices.medianCmpFunc[campanile/group.packed]", by kernel_rfl, by kernel_rfl⟩
  f57 := ⟨ "slices.order2CmpFunc[campanile/group.packed]", by kernel_rfl, by kernel_rfl⟩
  t0 := by kernel_rfl
  a0 := fun w => by kernel_rfl
  z0 := fun w => by kernel_rfl
  v0 := fun w => by kernel_rfl
  t3 := by kernel_rfl
  a3 := fun w => by kernel_rfl
  z3 := fun w => by kernel_rfl
  v3 := fun w => by kernel_rfl
  t4 := by kernel_rfl
  a4 := fun w => by kernel_rfl
  z4 := fun w => by kernel_rfl
  v4 := fun w => by kernel_rfl
  t5 := by kernel_rfl
  a5 := fun w => by kernel_rfl
  z5 := fun w => by kernel_rfl
  v5 := fun w => by kernel_rfl
  t9 := by kernel_rfl
  a9 := fun w => by kernel_rfl
  z9 := fun w => by kernel_rfl
  v9 := fun w => by kernel_rfl
  t22 := by kernel_rfl
  a22 := fun w => by kernel_rfl
  z22 := fun w => by kernel_rfl
  v22 := fun w => by kernel_rfl
  t25 := by kernel_rfl
  a25 := fun w => by kernel_rfl
  z25 := fun w => by kernel_rfl
  v25 := fun w => by kernel_rfl
  t39 := by kernel_rfl
  a39 := fun w => by kernel_rfl
  z39 := fun w => by kernel_rfl
  v39 := fun w => by kernel_rfl
  t45 := by kernel_rfl
  a45 := fun w => by kernel_rfl
  z45 := fun w => by kernel_rfl
  v45 := fun w => by kernel_rfl
  t46 := by kernel_rfl
  a46 := fun w => by kernel_rfl
  z46 := fun w => by kernel_rfl
  v46 := fun w => by kernel_rfl
  t50 := by kernel_rfl
  a50 := fun w => by kernel_rfl
  z50 := fun w => by kernel_rfl
  v50 := fun w => by kernel_rfl
  t53 := by kernel_rfl
  a53 := fun w => by kernel_rfl
  z53 := fun w => by kernel_rfl
  v53 := fun w => by kernel_rfl
  t55 := by kernel_rfl
  a55 := fun w => by kernel_rfl
  z55 := fun w => by kernel_rfl
  v55 := fun w => by kernel_rfl
  t66 := by kernel_rfl
  a66 := fun w => by kernel_rfl
  z66 := fun w => by kernel_rfl
  v66 := fun w => by kernel_rfl
  t70 := by kernel_rfl
  a70 := fun w => by kernel_rfl
  z70 := fun w => by kernel_rfl
  v70 := fun w => by kernel_rfl
  t76 := by kernel_rfl
  a76 := fun w => by kernel_rfl
  z76 := fun w => by kernel_rfl
  v76 := fun w => by kernel_rfl
  t77 := by kernel_rfl
  a77 := fun w => by kernel_rfl
  z77 := fun w => by kernel_rfl
  v77 := fun w => by kernel_rfl

theorem agg24 (w : World) : (isAgg (rnSP.t 24)).run Try.prog w = .ok true w := by kernel_rfl
theorem siz24 (w : World) : (Go.sizeOf (rnSP.t 24)).run Try.prog w = .ok 12 w := by kernel_rfl

end Go.Proofs.Ytahffpgadoiijaa

/- Contract of the answer's Cycles. -/
namespace Go.Proofs.Ytahffpgadoiijaa
open Go.RowKit
set_option maxRecDepth 20000

/-- Is x the least of the first k bells of its cycle? -/
def lst (a : List Int) (x : Nat) : Nat → Bool
  | 0 => true
  | 1 => true
  | k + 2 => lst a x (k + 1) && decide (x < it a (k + 1) x)

theorem lst_succ {a : List Int} {x k : Nat} (h : 1 ≤ k) : lst a x (k + 1) = (lst a x k && decide (x < it a k x)) := by
  match k, h with
  | k + 1, _ => rfl

theorem lst_true {a : List Int} {x k : Nat} : lst a x k = true ↔ ∀ i, 1 ≤ i → i < k → x < it a i x := by
  induction k with
  | zero => exact ⟨fun _ i h1 h2 => by omega, fun _ => rfl⟩
  | succ k ih =>
    by_cases hk : 1 ≤ k
    · rw [lst_succ hk, Bool.and_eq_true, ih, decide_eq_true_iff]
      constructor
      · rintro ⟨h1, h2⟩ i hi hik
        by_cases e : i = k
        · subst e; exact h2
        · exact h1 i hi (by omega)
      · intro h
        exact ⟨fun i hi hik => h i hi (by omega), h k hk (by omega)⟩
    · have e : k = 0 := by omega
      subst e
      exact ⟨fun _ i h1 h2 => by omega, fun _ => rfl⟩

theorem flat_backs {r : List Int} (hr : isRow r) {k x : Nat} (hk : k ≤ r.length) (hx : x < r.length) (i : Nat) (h : ((it r i x : Nat) : Int) ∈ (cycsTo r k).flatten) : (x : Int) ∈ (cycsTo r k).flatten := by
  induction i with
  | zero => exact h
  | succ i ih => exact ih (flat_back hr hk (it_lt hr hx i) h)

theorem lst_flat {a : List Int} (hr : isRow a) {x : Nat} (hx : x < a.length) : lst a x (per a x) = true ↔ ¬ (x : Int) ∈ (cycsTo a x).flatten := by
  rw [lst_true]
  constructor
  · intro h hm
    obtain ⟨c, hc, hm⟩ := List.mem_flatten.1 hm
    obtain ⟨y, hy, rfl⟩ := cyc_form hc
    obtain ⟨i, hi, e⟩ := mem_orb.1 hm
    have e' : x = it a i y := by omega
    obtain ⟨_, _, p3, _⟩ := per_spec hr (show y < a.length by omega)
    obtain ⟨q1, _, q3, _⟩ := per_spec hr hx
    have hj : it a (per a y - i) x = y := by rw [e', ← it_add, show per a y - i + i = per a y from by omega, p3]
    -- y is one of the bells of x's own cycle
    have hmod : ∀ n, it a n x = it a (n % per a x) x := by
      intro n
      have key : ∀ d, it a (per a x * d) x = x := by
        intro d
        induction d with
        | zero => rfl
        | succ d ih => rw [Nat.mul_succ, it_add, q3, ih]
      have : n = n % per a x + per a x * (n / per a x) := by rw [Nat.mod_add_div]
      rw [this, it_add, key, Nat.add_mul_mod_self_left, Nat.mod_mod]
    rw [hmod] at hj
    have hlt := Nat.mod_lt (per a y - i) q1
    by_cases h0 : (per a y - i) % per a x = 0
    · rw [h0] at hj
      have : x = y := hj
      omega
    · have := h _ (by omega) hlt
      omega
  · intro hn i h1 h2
    rcases Nat.lt_trichotomy x (it a i x) with h | h | h
    · exact h
    · exact absurd h.symm ((per_spec hr hx).2.2.2 i h1 h2)
    · exact absurd (flat_backs hr (by omega) hx i (flat_all hr x (by omega) (it a i x) h)) hn

theorem owns_len1 {w : World} {base e n : Nat} {v : Value} {xs : List Value} (h : w.ownsRow base e 1 v n xs) (hn : 1 ≤ n) : ∃ g cap, v = .slice (some ⟨g, 0, none⟩) n cap := by
  obtain ⟨g, cap, e, _⟩ := owns_form h hn
  exact ⟨g, cap, e⟩

set_option maxRecDepth 20000 in
set_option maxHeartbeats 4000000 in
theorem rcycles_ok (v1 : Value) (a : List Int) (w : World) (i1 : Ints w v1 a) (r1 : isRow a) (n1 : 1 ≤ a.length) (n2 : a.length ≤ 12) :
    Calls Try.prog 39 #[v1] w fun e w' => ∃ v, e = .returned v ∧ IntsAll w' v (cycsTo a a.length) ∧ Below w.heap.size w w' := by
  obtain ⟨i0, hi, hz0, hz1, hz2⟩ := info_parts Try.info23
  obtain ⟨j0, hj, hy0, hy1, hy2⟩ := info_parts Try.info3
  have R1 := hide r1
  rcases i1 with ⟨rfl, p, c, rfl⟩ | ⟨b1, o1, cap1, rfl, h01, hcp1, hm1, hb1, hcell1⟩
  · simp at n1
  have HNX : Hid (∀ y, y < a.length → a.getD y 0 = ((nx a y : Nat) : Int)) := fun y hy => by
    have := R1.out.at hy
    unfold nx; omega
  have HC := hide hcell1
  clear r1 hcell1
  go_enter Try.func39, Try.ntmps39
  go_wp2
  go_loopw [3, 4] (fun v si wr => ∃ (x : Nat) (vs : List Value), x ≤ a.length ∧ si = .int .i64 x ∧ wr.ownsRow w.heap.size 23 1 v vs.length vs ∧ OwnAll wr w.heap.size vs (cycsTo a x) ∧ Below w.heap.size w wr) (fun _ si _ => a.length - (intOf si).toNat)
  case atStart => exact ⟨0, [], by omega, rfl, World.ownsRow_nil _ _ _ _, trivial, Below.refl _ _⟩
  case round =>
    obtain ⟨x, vs, hx, rfl, hrow, hall, hbw⟩ := hrel
    have hbs := hbw.size
    by_cases hlt : x < a.length
    · obtain ⟨p1, p2, p3, p4⟩ := per_spec R1.out hlt
      have hlf := lst_flat R1.out hlt
      have hcs := cycsTo_succ a x
      have hcl := cycsTo_length a x
      have hvl := OwnAll.length hall
      generalize hcy : cycsTo a x = xss at *
      generalize hpp : per a x = p at *
      have P3 := hide p3
      have P4 := hide p4
      have HLF := hide hlf
      have HCS := hide hcs
      have HV := hide hvl
      have HCY := hide hcy
      have HALL := hide hall
      have HROW := hide hrow
      clear p3 p4 hlf hcs hvl hcy hpp hall hrow
      obtain ⟨y, hy, hcy⟩ := cellAt HC.out hlt
      have hyx : y = ((it a 1 x : Nat) : Int) := hy.out.symm.trans (HNX.out x hlt)
      rw [hyx] at hcy
      clear hyx hy
      have gcy : ∀ o, (wr.alloc o).cell? ⟨b1, o1 + x, none⟩ = some (.int .i64 ((it a 1 x : Nat) : Int)) := fun o => ((hbw.alloc hbw.size o).cell (by exact hb1)).trans hcy
      obtain ⟨wo, hwo⟩ : ∃ wo : World, wo = wr := ⟨_, rfl⟩
      rw [← hwo] at HALL HROW hbw hbs gcy ⊢
      clear hwo hcy
      go_wp2
      go_loopw [5, 6, 7] (fun c sl sk wr => ∃ (j y : Nat), 1 ≤ j ∧ j ≤ p ∧ Hid (it a j x = y) ∧ y < a.length ∧ sk = .int .i64 (y : Int) ∧ sl = .bool (lst a x j) ∧ wr.ownsRow wo.heap.size 3 1 c j ((orb a x j).map (Value.int .i64)) ∧ Below wo.heap.size wo wr) (fun c _ _ _ => p - sliceLen c)
      case atStart => exact ⟨1, it a 1 x, by omega, p1, rfl, it_lt R1.out hlt 1, rfl, rfl, one_owned wo x, (Below.refl _ _).alloc (Nat.le_refl _) _⟩
      case round =>
        clear gcy
        obtain ⟨j, y, hj1, hj2, hyk, hya, rfl, rfl, hown, hbo⟩ := hrel
        have hbos := hbo.size
        by_cases hjp : j < p
        · have hne : (((y : Nat) : Int) != ((x : Nat) : Int)) = true := by
            have := P4.out j hj1 hjp
            rw [hyk.out] at this
            rw [bne_iff_ne]; omega
          have hsl := hide (owns_len hown)
          have HLS : Hid (lst a x (j + 1) = (lst a x j && decide (x < y))) := by show _ = _; rw [lst_succ hj1, hyk.out]
          have hB : Below w.heap.size w wr := hbw.trans (hbo.mono hbs)
          have gy : wr.cell? ⟨b1, o1 + y, none⟩ = some (.int .i64 ((nx a y : Nat) : Int)) := (hB.cell (by exact hb1)).trans ((HC.out y hya).trans (by rw [HNX.out y hya]))
          generalize lst a x j = ls at *
          cases ls with
          | false =>
            go_wp2_with (at_builtin; refine wpList_append_own _ rfl _ _ 23 rfl wo.heap.size 3 j0 (.int .i64 0) 1 8 Try.underlying23 hj hy0 hy1 hy2 rfl (by decide) _ _ _ rfl (hown.alloc _) ⟨wr.heap.size, 0, none⟩ 1 1 [.int .i64 (y : Int)] rfl rfl ?c1 ?c2 ?c3 ?c4 ?c5 ?_)
            case c1 => exact cell_one_new _ _ _
            case c2 => intro u hu; simp at hu; subst hu; rfl
            case c3 => unfold maxLen; omega
            case c4 => omega
            case c5 => simp; omega
            · intro v' w1 hown' hgrow _
              have hB1 : Below wo.heap.size wo w1 := (hbo.alloc hbo.size _).grown hgrow (by simp; omega) (fun g hg => (hown.lt g hg).1)
              have hB2 : Below w.heap.size w w1 := hbw.trans (hB1.mono hbs)
              have gy1 : w1.cell? ⟨b1, o1 + y, none⟩ = some (.int .i64 ((nx a y : Nat) : Int)) := (hB2.cell (by exact hb1)).trans ((hB.cell (by exact hb1)).symm.trans gy)
              have hsl' := hide (owns_len hown')
              clear gy hB
              go_wp2
              go_roundw
              case rel => exact ⟨j + 1, nx a y, by omega, by omega, by show nx a (it a j x) = _; rw [hyk.out], nx_lt R1.out hya, rfl, by rw [HLS.out]; rfl, by rw [orb_snoc, List.map_append, hyk.out]; exact hown', hB1⟩
              case measure => rw [hsl.out, hsl'.out]; omega
          | true =>
            go_wp2_with (at_builtin; refine wpList_append_own _ rfl _ _ 23 rfl wo.heap.size 3 j0 (.int .i64 0) 1 8 Try.underlying23 hj hy0 hy1 hy2 rfl (by decide) _ _ _ rfl (hown.alloc _) ⟨wr.heap.size, 0, none⟩ 1 1 [.int .i64 (y : Int)] rfl rfl ?c1 ?c2 ?c3 ?c4 ?c5 ?_)
            case c1 => exact cell_one_new _ _ _
            case c2 => intro u hu; simp at hu; subst hu; rfl
            case c3 => unfold maxLen; omega
            case c4 => omega
            case c5 => simp; omega
            · intro v' w1 hown' hgrow _
              have hB1 : Below wo.heap.size wo w1 := (hbo.alloc hbo.size _).grown hgrow (by simp; omega) (fun g hg => (hown.lt g hg).1)
              have hB2 : Below w.heap.size w w1 := hbw.trans (hB1.mono hbs)
              have gy1 : w1.cell? ⟨b1, o1 + y, none⟩ = some (.int .i64 ((nx a y : Nat) : Int)) := (hB2.cell (by exact hb1)).trans ((hB.cell (by exact hb1)).symm.trans gy)
              have hsl' := hide (owns_len hown')
              have hdec : decide (((x : Nat) : Int) < ((y : Nat) : Int)) = decide (x < y) := by by_cases h : x < y <;> simp [h]
              have HDEC := hide hdec
              clear gy hB hdec
              go_wp2
              go_roundw
              case rel => exact ⟨j + 1, nx a y, by omega, by omega, by show nx a (it a j x) = _; rw [hyk.out], nx_lt R1.out hya, rfl, by rw [HLS.out]; simp, by rw [orb_snoc, List.map_append, hyk.out]; exact hown', hB1⟩
              case measure => rw [hsl.out, hsl'.out]; omega
        · obtain rfl : j = p := by omega
          have hne : (((y : Nat) : Int) != ((x : Nat) : Int)) = false := by
            have := P3.out
            rw [hyk.out] at this
            rw [this]; simp
          obtain ⟨g, cap, hv⟩ := owns_len1 hown hj1
          rw [hv] at hown ⊢
          have hB : Below w.heap.size w wr := hbw.trans (hbo.mono hbs)
          have hrow := owns_below HROW.out hbo (Nat.le_refl _)
          have hall := HALL.out.mono (fun _ _ _ h' => owns_below h' hbo (Nat.le_refl _))
          have HB := hide hB
          have hBs := hB.size
          clear hB hv
          generalize hls : lst a x j = ls at *
          have HLS := hide hls
          clear hls
          cases ls with
          | false =>
            have HX : Hid (cycsTo a (x + 1) = xss) := by
              show _ = _
              rw [HCS.out, if_pos]
              apply Classical.byContradiction
              intro hn
              have := HLF.out.2 hn
              cases this
            go_wp2
            go_roundw
            case rel => exact ⟨x + 1, vs, by omega, by go_num, hrow, by rw [HX.out]; exact hall, HB.out⟩
            case measure => simp [intOf]; omega
          | true =>
            have HX : Hid (cycsTo a (x + 1) = xss ++ [orb a x j]) := by
              show _ = _
              rw [HCS.out, if_neg (HLF.out.1 rfl)]
            have hvl : vs.length ≤ 12 := by have := HV.out; omega
            go_wp2_with (at_builtin; refine wpList_append_own _ rfl _ _ 22 rfl w.heap.size 23 i0 (.slice none 0 0) 1 24 Try.underlying22 hi hz0 hz1 hz2 rfl (by decide) _ _ _ rfl (hrow.alloc _) ⟨wr.heap.size, 0, none⟩ 1 1 [.slice (some ⟨g, 0, none⟩) j cap] rfl rfl ?c1 ?c2 ?c3 ?c4 ?c5 ?_)
            try (case c1 => exact cell_one_new _ _ _)
            case c2 => first | (intro u hu; simp at hu; subst hu; rfl) | rfl
            case c3 => first | (unfold maxLen; omega) | omega
            case c4 => omega
            case c5 => first | (simp; omega) | omega
            · intro v' w4 hown4 hgrow _
              have hall4 : OwnAll w4 w.heap.size (vs ++ [.slice (some ⟨g, 0, none⟩) j cap]) (xss ++ [orb a x j]) := by
                refine OwnAll.snoc ?_ (hall.mono (fun _ _ _ h' => owns_kept_ty (h'.alloc _) (hrow.alloc _) hgrow))
                rw [orb_length]
                exact owns_kept_ty ((owns_base hown hbs).alloc _) (hrow.alloc _) hgrow
              have hB4 : Below w.heap.size w w4 := (HB.out.alloc HB.out.size _).grown hgrow (by simp; omega) (fun g' hg' => (hrow.lt g' hg').1)
              have HA4 := hide hall4
              clear hall4
              go_wp2
              go_roundw
              case rel => exact ⟨x + 1, _, by omega, by go_num, by rw [List.length_append]; exact hown4, by rw [HX.out]; exact HA4.out, hB4⟩
              case measure => simp [intOf]; omega
    · obtain rfl : x = a.length := by omega
      go_wp2
      go_ret
      exact ⟨_, rfl, IntsAll.own hrow hall, hbw⟩

end Go.Proofs.Ytahffpgadoiijaa

/- Contract of the answer's Order; the least common multiple of the cycles is the order. -/
namespace Go.Proofs.Ytahffpgadoiijaa
open Go.RowKit
set_option maxRecDepth 20000

theorem it_succ' (r : List Int) (n x : Nat) : it r (n + 1) x = it r n (nx r x) := it_add r n 1 x

/-- The row, taken n times. -/
def pw (r : List Int) (n : Nat) : List Int := (List.range r.length).map (fun i => ((it r n i : Nat) : Int))

theorem pw_length (r : List Int) (n : Nat) : (pw r n).length = r.length := by simp [pw]

theorem pw_get {r : List Int} {n i : Nat} (h : i < r.length) : (pw r n).getD i 0 = ((it r n i : Nat) : Int) := by simp [pw, List.getD, h]

theorem pw_one {r : List Int} (hr : isRow r) : pw r 1 = r := by
  refine ext_getD (pw_length r 1) (fun i hi => ?_)
  rw [pw_length] at hi
  rw [pw_get hi]
  have := hr.at hi
  show ((nx r i : Nat) : Int) = _
  unfold nx; omega

theorem pw_succ {r : List Int} (hr : isRow r) (n : Nat) : by_ (pw r n) r = pw r (n + 1) := by
  refine ext_getD (by rw [by_length, pw_length]) (fun i hi => ?_)
  rw [by_length] at hi
  rw [by_get hi, pw_get hi]
  show (pw r n).getD (nx r i) 0 = _
  rw [pw_get (nx_lt hr hi), it_succ']

theorem isRow_pw {r : List Int} (hr : isRow r) (n : Nat) : isRow (pw r n) := by
  constructor
  · intro y hy
    obtain ⟨i, hi, rfl⟩ := List.mem_map.1 hy
    have := it_lt hr (List.mem_range.1 hi) n
    rw [pw_length]; omega
  · rw [List.nodup_iff_pairwise_ne]
    unfold pw
    rw [List.pairwise_map]
    refine List.Pairwise.imp_of_mem ?_ (List.pairwise_lt_range (n := r.length))
    intro i j hi hj hij e
    have := it_inj hr (List.mem_range.1 hi) (List.mem_range.1 hj) n (by omega)
    omega

theorem pw_rnd {r : List Int} {n : Nat} : pw r n = rnd r.length ↔ ∀ x, x < r.length → it r n x = x := by
  constructor
  · intro h x hx
    have h1 := pw_get (r := r) (n := n) hx
    rw [h, rnd_get hx] at h1
    omega
  · intro h
    exact eq_rnd (pw_length r n) (fun j hj => by rw [pw_get hj, h j hj])

theorem it_mul {r : List Int} {x p : Nat} (h : it r p x = x) (d : Nat) : it r (p * d) x = x := by
  induction d with
  | zero => rfl
  | succ d ih => rw [Nat.mul_succ, it_add, h, ih]

theorem per_dvd {r : List Int} (hr : isRow r) {x n : Nat} (hx : x < r.length) : it r n x = x ↔ per r x ∣ n := by
  obtain ⟨q1, _, q3, q4⟩ := per_spec hr hx
  constructor
  · intro h
    have e : n = n % per r x + per r x * (n / per r x) := by rw [Nat.mod_add_div]
    rw [e, it_add, it_mul q3] at h
    have hlt := Nat.mod_lt n q1
    by_cases h0 : n % per r x = 0
    · exact Nat.dvd_of_mod_eq_zero h0
    · exact absurd h (q4 _ (by omega) hlt)
  · rintro ⟨d, rfl⟩
    exact it_mul q3 d

theorem ordTo_dvd (xss : List (List Int)) (n j : Nat) (hj : j ≤ xss.length) : ordTo xss j ∣ n ↔ ∀ i, i < j → (xss.getD i []).length ∣ n := by
  induction j with
  | zero => exact ⟨fun _ i h => by omega, fun _ => Nat.one_dvd n⟩
  | succ j ih =>
    show Nat.lcm (ordTo xss j) (xss.getD j []).length ∣ n ↔ _
    rw [Nat.lcm_dvd_iff, ih (by omega)]
    constructor
    · rintro ⟨h1, h2⟩ i hi
      by_cases e : i = j
      · subst e; exact h2
      · exact h1 i (by omega)
    · intro h
      exact ⟨fun i hi => h i (by omega), h j (by omega)⟩

/-- How often the row must be taken, by its cycles. -/
def ord (r : List Int) : Nat := ordTo (cycsTo r r.length) (cycsTo r r.length).length

theorem ord_pw {r : List Int} (hr : isRow r) (n : Nat) : pw r n = rnd r.length ↔ ord r ∣ n := by
  rw [pw_rnd]
  unfold ord
  rw [ordTo_dvd _ _ _ (Nat.le_refl _)]
  constructor
  · intro h i hi
    have hc : (cycsTo r r.length).getD i [] ∈ cycsTo r r.length := by
      rw [show (cycsTo r r.length).getD i [] = (cycsTo r r.length)[i] from by simp [List.getD, List.getElem?_eq_getElem hi]]
      exact List.getElem_mem hi
    obtain ⟨y, hy, e⟩ := cyc_form hc
    rw [e, orb_length]
    exact (per_dvd hr hy).1 (h y hy)
  · intro h x hx
    obtain ⟨c, hc, hm⟩ := List.mem_flatten.1 (flat_all hr r.length (Nat.le_refl _) x hx)
    obtain ⟨i, hi, e⟩ := List.getElem_of_mem hc
    have hd := h i hi
    rw [show (cycsTo r r.length).getD i [] = c from by simp [List.getD, List.getElem?_eq_getElem hi, e]] at hd
    obtain ⟨y, hy, rfl⟩ := cyc_form hc
    rw [orb_length] at hd
    obtain ⟨j, _, e2⟩ := mem_orb.1 hm
    have e3 : x = it r j y := by omega
    rw [e3, ← it_add, Nat.add_comm, it_add, (per_dvd hr hy).2 hd]

theorem ord_pos {r : List Int} (hr : isRow r) (h12 : r.length ≤ 12) : 1 ≤ ord r ∧ ord r ≤ 1000000000000000 := by
  have hall := cycsTo_len hr r.length (Nat.le_refl _)
  have hbd := ordTo_bound (xss := cycsTo r r.length) (fun x hx => by have := hall x hx; omega) (cycsTo r r.length).length (Nat.le_refl _)
  have hl := cycsTo_length r r.length
  have hpw : 12 ^ (cycsTo r r.length).length ≤ 12 ^ 12 := Nat.pow_le_pow_right (by decide) (by omega)
  have h3 : 12 ^ 12 ≤ 1000000000000000 := by decide
  exact ⟨hbd.1, by unfold ord; omega⟩

theorem dis_row {r : List Int} (hr : isRow r) {i j : Nat} (hi : i < r.length) (hj : j < i) : dis (nx r) i j = if r.getD i 0 < r.getD j 0 then 1 else 0 := by
  have h1 := hr.at hi
  have h2 := hr.at (show j < r.length by omega)
  unfold dis
  rw [decide_eq_false (by omega : ¬ i < j)]
  unfold nx
  by_cases h : r.getD i 0 < r.getD j 0
  · rw [if_pos h, decide_eq_true (by omega)]; rfl
  · rw [if_neg h, decide_eq_false (by omega)]; rfl

theorem S_le {n : Nat} {f : Nat → Nat} {c : Nat} (h : ∀ i, i < n → f i ≤ c) : S n f ≤ n * c := by
  induction n with
  | zero => exact Nat.zero_le _
  | succ n ih =>
    have h1 := ih (fun i hi => h i (by omega))
    have h2 := h n (by omega)
    show S n f + f n ≤ (n + 1) * c
    rw [Nat.add_mul, Nat.one_mul]; omega

theorem dis_le (p : Nat → Nat) (i j : Nat) : dis p i j ≤ 1 := by unfold dis ne; split <;> omega

theorem ret_io {o : Int} {a b : Bool} (h : a = b) : Ending.returned (.tuple #[.int .i64 o, .bool a]) = Ending.returned (.tuple #[.int .i64 o, .bool b]) := by rw [h]

end Go.Proofs.Ytahffpgadoiijaa
