/- Joined: BrL, BqR, BrM. -/
import Derived.Test.YtffnfchekbafmaaGreatDoorJ12
import Derived.Test.YtffnfchekbafmaaGreatDoorJ11
/- Contract: the answer's ByDay. -/
namespace Go.Proofs.YtffnfchekbafmaaGreatDoor
open Go.RowKit Go.Lib
set_option maxRecDepth 100000
set_option linter.unusedVariables false

theorem map_gq {qs : List (List Value)} (hQ : ∀ q, q ∈ qs → GQ q) {D : Nat → Int} {i n : Nat} {l : List Nat} (h : Ins D i l) (hi : i ≤ n) (hn : n = qs.length) : ∀ q, q ∈ l.map (fun x => qs.getD x []) → GQ q := fun q hq => by
  obtain ⟨x, hx, rfl⟩ := List.mem_map.1 hq
  have h1 := h.lt hx
  have h2 : x < qs.length := by omega
  rw [List.getD_eq_getElem?_getD, List.getElem?_eq_getElem h2]
  exact hQ _ (List.getElem_mem h2)

theorem flat_len4 : ∀ {qs : List (List Value)}, (∀ q, q ∈ qs → GQ q) → qs.flatten.length = qs.length * 4
  | [], _ => rfl
  | q :: t, h => by
    rw [List.flatten_cons, List.length_append, flat_len4 (fun x hx => h x (List.mem_cons_of_mem _ hx)), (h q (by simp)).len, List.length_cons, Nat.add_mul]
    omega

theorem flat_cell : ∀ {qs : List (List Value)}, (∀ q, q ∈ qs → GQ q) → ∀ u, u ∈ qs.flatten → u.oneCell' = true
  | [], _, u, hu => by simp at hu
  | q :: t, h, u, hu => by
    rw [List.flatten_cons] at hu
    rcases List.mem_append.1 hu with hu | hu
    · obtain ⟨d, c, m, p, l, k, rfl⟩ := h q (by simp)
      simp at hu
      rcases hu with rfl | rfl | rfl | rfl <;> rfl
    · exact flat_cell (fun x hx => h x (List.mem_cons_of_mem _ hx)) u hu

theorem own4_some {w : World} {base e n : Nat} {v : Value} {xs : List Value} (h : w.ownsRow base e 4 v n xs) (hn : 1 ≤ n) : ∃ g c, v = .slice (some ⟨g, 0, none⟩) n c := by
  rcases h.2 with ⟨_, h0⟩ | ⟨g, cap, cur, rfl, _⟩
  · omega
  · exact ⟨_, _, rfl⟩

theorem row_cells9 {w : World} {base n g cap : Nat} {xs : List Value} (h : w.ownsRow base 44 4 (.slice (some ⟨g, 0, none⟩) n cap) n xs) : g < w.heap.size ∧ ∀ j u, xs[j]? = some u → w.cell? ⟨g, j, none⟩ = some u := by
  rcases h.2 with ⟨e, _⟩ | ⟨g', cap', cur, e, hg1, hh, hn1, hn2, hn3, hn4⟩
  · cases e
  · injection e with e1 _ e2
    injection e1 with e1
    injection e1 with e1
    subst e1 e2
    refine ⟨(Array.getElem?_eq_some_iff.1 hh).1, fun j u hj => ?_⟩
    have hjl := (List.getElem?_eq_some_iff.1 hj).1
    rw [h.1] at hjl
    rw [← hn4, List.getElem?_take, if_pos hjl, Array.getElem?_toList] at hj
    simp only [World.cell?, hh]
    exact hj

theorem row_cells {w : World} {base n g cap : Nat} {xs : List Value} (h : w.ownsRow base 44 4 (.slice (some ⟨g, 0, none⟩) n cap) n xs) : g < w.heap.size ∧ base ≤ g ∧ n ≤ cap ∧ cap ≤ 9223372036854775807 ∧ ∀ j u, xs[j]? = some u → w.cell? ⟨g, j, none⟩ = some u := by
  rcases h.2 with ⟨e, _⟩ | ⟨g', cap', cur, e, hg1, hh, hn1, hn2, hn3, hn4⟩
  · cases e
  · injection e with e1 _ e2
    injection e1 with e1
    injection e1 with e1
    subst e1 e2
    refine ⟨(Array.getElem?_eq_some_iff.1 hh).1, hg1, hn1, by unfold maxLen at hn2; omega, fun j u hj => ?_⟩
    have hjl := (List.getElem?_eq_some_iff.1 hj).1
    rw [h.1] at hjl
    rw [← hn4, List.getElem?_take, if_pos hjl, Array.getElem?_toList] at hj
    simp only [World.cell?, hh]
    exact hj

set_option maxHeartbeats 1000000 in
theorem rbyDay_ok (base n : Nat) (u : Value) (qs : List (List Value)) (w : World) (hn : n = qs.length) (hnl : n ≤ 1000) (hu : w.ownsRow base 44 4 u n qs.flatten) (hQ : ∀ q, q ∈ qs → GQ q) :
    Calls Tryz.prog 8 #[u] w fun e w' => ∃ (v : Value) (l : List Nat), e = .returned v ∧ w'.ownsRow w.heap.size 44 4 v n ((l.map (fun x => qs.getD x [])).flatten) ∧ Ins (fun x => kQ (qs.getD x [])) n l ∧ Below w.heap.size w w' := by
  obtain ⟨i0, hi, hz0, hz1, hz2⟩ := info_parts Tryz.info44
  obtain ⟨D, hD⟩ : ∃ D, D = fun x => kQ (qs.getD x []) := ⟨_, rfl⟩
  rw [← hD]
  have HIN : Hid (∀ i, i < n → ∃ (gl cl : Nat) (d c : Int) (m : ByteArray) (p : Addr) (rl rk : Nat), u = .slice (some ⟨gl, 0, none⟩) n cl ∧ gl < w.heap.size ∧ n ≤ cl ∧ cl ≤ 9223372036854775807 ∧ qs.getD i [] = [.int .i64 d, .int .i64 c, .string m, .slice (some p) rl rk] ∧ D i = d ∧ ∀ V, Below w.heap.size w V → (V.cell? ⟨gl, i * 4, none⟩ = some (.int .i64 d) ∧ V.cell? ⟨gl, i * 4 + 1, none⟩ = some (.int .i64 c) ∧ V.cell? ⟨gl, i * 4 + 2, none⟩ = some (.string m) ∧ V.cell? ⟨gl, i * 4 + 3, none⟩ = some (.slice (some p) rl rk))) := fun i hi => by
    obtain ⟨gl, cl, d, c, m, p, rl, rk, h1, h2, h3, h4, h5, h6, h7, h8, h9⟩ := row_at hu hQ hn hi
    have e : qs.getD i [] = [.int .i64 d, .int .i64 c, .string m, .slice (some p) rl rk] := by rw [List.getD_eq_getElem?_getD, h5]; rfl
    refine ⟨gl, cl, d, c, m, p, rl, rk, h1, h2, h3, h4, e, by rw [hD]; show kQ _ = d; rw [e]; rfl, fun V hV => ⟨?_, ?_, ?_, ?_⟩⟩
    · exact (hV.cell (p := ⟨gl, _, none⟩) h2).trans h6
    · exact (hV.cell (p := ⟨gl, _, none⟩) h2).trans h7
    · exact (hV.cell (p := ⟨gl, _, none⟩) h2).trans h8
    · exact (hV.cell (p := ⟨gl, _, none⟩) h2).trans h9
  have HGQ : Hid (∀ (i : Nat) (l : List Nat), Ins D i l → i ≤ n → ∀ q, q ∈ l.map (fun x => qs.getD x []) → GQ q) := fun i l h hin => map_gq hQ h hin hn
  have HDE : Hid (∀ x, D x = kQ (qs.getD x [])) := fun x => by rw [hD]
  obtain ⟨Q, hQQ⟩ : ∃ Q, Q = fun x => qs.getD x [] := ⟨_, rfl⟩
  rw [← hQQ] at HGQ
  have HQE : Hid (∀ x, Q x = qs.getD x []) := fun x => by rw [hQQ]
  rw [← hQQ]
  obtain ⟨pu, pc, rfl⟩ := form4 hu
  have HINS := hide (Ins.nil D)
  clear hu hQ hD hQQ hn
  go_enter Tryz.func8, Tryz.ntmps8
  go_wp2
  go_loopw [3, 4] (fun ov iv wr => ∃ (i : Nat) (l : List Nat) (ua : Option Addr) (uc : Nat), i ≤ n ∧ ov = .slice ua i uc ∧ iv = .int .i64 (i : Int) ∧ Hid (Ins D i l) ∧ Hid (wr.ownsRow w.heap.size 44 4 (.slice ua i uc) i ((l.map Q).flatten)) ∧ Hid (Below w.heap.size w wr)) (fun _ iv _ => n - (RowKit.intOf iv).toNat)
  case atStart => exact ⟨0, [], none, 0, Nat.zero_le _, rfl, rfl, HINS, World.ownsRow_nil _ _ _ _, Below.refl _ _⟩
  case round =>
    obtain ⟨i, l, ua, uc, hin, rfl, rfl, HI, HO, HB⟩ := hrel
    by_cases hlt : i < n
    · obtain ⟨gl, cl, d, c, m, p, rl, rk, e1, hgl, hcl1, hcl2, hqi, hDi, hcells⟩ := HIN.out i hlt
      injection e1 with e1 _ e2
      subst e1 e2
      have HCL := hide hcells
      have HQI : Hid (Q i = [.int .i64 d, .int .i64 c, .string m, .slice (some p) rl rk]) := by show _ = _; rw [HQE.out]; exact hqi
      have HDI := hide hDi
      have hi1 : (i : Int) < (n : Int) := by omega
      have hil := HI.out.len
      have HLN := hide hil
      have HOUT : Hid (∀ q x, l[q]? = some x → ∃ go, ua = some ⟨go, 0, none⟩ ∧ q < i ∧ go < wr.heap.size ∧ i ≤ uc ∧ uc ≤ 9223372036854775807 ∧ wr.cell? ⟨go, q * 4, none⟩ = some (.int .i64 (D x))) := fun q x hq => by
        have hql := (List.getElem?_eq_some_iff.1 hq).1
        have hqi2 : q < i := by omega
        obtain ⟨go, co, d', c', m', p', l', k', f1, f2, f3, f4, f5, f6, -⟩ := row_at HO.out (HGQ.out i l HI.out hin) (by rw [List.length_map, hil]) hqi2
        injection f1 with f1 _ f11
        subst f11
        rw [List.getElem?_map, hq] at f5
        simp only [Option.map_some, Option.some.injEq] at f5
        refine ⟨go, f1, hqi2, f2, f3, f4, ?_⟩
        rw [f6, HDE.out x, ← HQE.out x, f5]
        rfl
      have HCAP : Hid (i ≤ uc ∧ uc ≤ 9223372036854775807 ∧ (ua = none → i = 0 ∧ uc = 0)) := by
        rcases HO.out.2 with ⟨e, e0⟩ | ⟨g, cap, cur, e, hg, hh, h1, h2, h3, h4⟩
        · injection e with e1 _ e2; subst e1 e2; exact ⟨by omega, by decide, fun _ => ⟨e0, rfl⟩⟩
        · injection e with e1 _ e2; subst e1 e2; exact ⟨h1, by unfold maxLen at h2; omega, fun h => by cases h⟩
      have HUA : Hid (ua = none ∨ ∃ go, ua = some ⟨go, 0, none⟩) := by
        rcases HO.out.2 with ⟨e, _⟩ | ⟨g, cap, cur, e, _⟩
        · injection e with e1 _ e2; exact Or.inl e1
        · injection e with e1 _ e2; exact Or.inr ⟨g, e1⟩
      clear hcells hqi hil hDi
      obtain ⟨wo, rfl⟩ : ∃ x, x = wr := ⟨_, rfl⟩
      have HX0 : Hid (∀ q, q < i → ∃ x, l[q]? = some x) := fun q hq => ⟨_, List.getElem?_eq_getElem (by rw [HLN.out]; exact hq)⟩
      go_wp2
      go_loopw [5] (fun kv wq => ∃ k : Nat, k ≤ i ∧ kv = .int .i64 (k : Int) ∧ Hid (∀ q x, k ≤ q → l[q]? = some x → D i < D x) ∧ Hid (Below wo.heap.size wo wq)) (fun kv _ => (RowKit.intOf kv).toNat)
      case atStart => exact ⟨i, Nat.le_refl _, rfl, fun q x hq hx => by have := (List.getElem?_eq_some_iff.1 hx).1; rw [HLN.out] at this; omega, Below.refl _ _⟩
      case round =>
        obtain ⟨k, hk, rfl, HHI, HBQ⟩ := hrel
        have hcap : i ≤ uc ∧ uc ≤ 9223372036854775807 := ⟨HCAP.out.1, HCAP.out.2.1⟩
        have hkc : k ≤ uc := by omega
        by_cases hk0 : k = 0
        · have HLO : Hid (∀ q x, k = q + 1 → l[q]? = some x → D x ≤ D i) := fun q x hq => by omega
          have hk0' : ¬ ((0 : Int) < (k : Int)) := by omega
          have hk0n : ¬ 0 < k := by omega
          have HK0 := hide hk0
          clear hk0
          go_wp2_with fail
          go_upto_region 6 with fail
          go_cut [29] from 14 to 31 (fun cv wx => cv = .bool false ∧ Hid (Below wo.heap.size wo wx))
          case first =>
            refine wp_region_held_drew (S := fun _ => True) (by kernel_rfl) trivial (fun hS => ?_)
            refine wpAnyH_take (i := 0) (v := .int .i64 (k : Int)) rfl (by kernel_rfl) (by kernel_rfl) (by kernel_rfl) (fun _ _ _ h => h) (Or.inl ⟨by kernel_rfl, fun w' hS' => by clear hS'; go_simp⟩) hS ?_
            refine wpAnyH_take (i := 1) (v := .bool false) rfl (by kernel_rfl) (by kernel_rfl) (by kernel_rfl) (fun _ _ _ h => h) (Or.inl ⟨by kernel_rfl, fun w' hS' => by clear hS'; go_simp⟩) hS ?_
            refine wpAnyH_take (i := 2) (v := .bool false) rfl (by kernel_rfl) (by kernel_rfl) (by kernel_rfl) (fun _ _ _ h => h) (Or.inl ⟨by kernel_rfl, fun w' hS' => by clear hS'; go_simp⟩) hS ?_
            refine wpAnyH_take (i := 3) (v := undef) rfl (by kernel_rfl) (by kernel_rfl) (by kernel_rfl) (fun _ _ _ h => h) (Or.inr ⟨by kernel_rfl, rfl⟩) hS ?_
            refine wpAnyH_take (i := 4) (v := undef) rfl (by kernel_rfl) (by kernel_rfl) (by kernel_rfl) (fun _ _ _ h => h) (Or.inr ⟨by kernel_rfl, rfl⟩) hS ?_
            refine wpAnyH_take (i := 5) (v := undef) rfl (by kernel_rfl) (by kernel_rfl) (by kernel_rfl) (fun _ _ _ h => h) (Or.inr ⟨by kernel_rfl, rfl⟩) hS ?_
            refine wpAnyH_take (i := 6) (v := undef) rfl (by kernel_rfl) (by kernel_rfl) (by kernel_rfl) (fun _ _ _ h => h) (Or.inr ⟨by kernel_rfl, rfl⟩) hS ?_
            refine wpAnyH_take (i := 7) (v := undef) rfl (by kernel_rfl) (by kernel_rfl) (by kernel_rfl) (fun _ _ _ h => h) (Or.inr ⟨by kernel_rfl, rfl⟩) hS ?_
            refine wpAnyH_take (i := 8) (v := undef) rfl (by kernel_rfl) (by kernel_rfl) (by kernel_rfl) (fun _ _ _ h => h) (Or.inr ⟨by kernel_rfl, rfl⟩) hS ?_
            refine wpAnyH_take (i := 9) (v := undef) rfl (by kernel_rfl) (by kernel_rfl) (by kernel_rfl) (fun _ _ _ h => h) (Or.inr ⟨by kernel_rfl, rfl⟩) hS ?_
            refine wpAnyH_take (i := 10) (v := undef) rfl (by kernel_rfl) (by kernel_rfl) (by kernel_rfl) (fun _ _ _ h => h) (Or.inr ⟨by kernel_rfl, rfl⟩) hS ?_
            refine wpAnyH_take (i := 11) (v := undef) rfl (by kernel_rfl) (by kernel_rfl) (by kernel_rfl) (fun _ _ _ h => h) (Or.inr ⟨by kernel_rfl, rfl⟩) hS ?_
            refine wpAnyH_take (i := 12) (v := undef) rfl (by kernel_rfl) (by kernel_rfl) (by kernel_rfl) (fun _ _ _ h => h) (Or.inr ⟨by kernel_rfl, rfl⟩) hS ?_
            refine wpAnyH_take (i := 13) (v := undef) rfl (by kernel_rfl) (by kernel_rfl) (by kernel_rfl) (fun _ _ _ h => h) (Or.inr ⟨by kernel_rfl, rfl⟩) hS ?_
            refine wpAnyH_take (i := 14) (v := undef) rfl (by kernel_rfl) (by kernel_rfl) (by kernel_rfl) (fun _ _ _ h => h) (Or.inr ⟨by kernel_rfl, rfl⟩) hS ?_
            refine wpAnyH_take (i := 15) (v := .bool false) rfl (by kernel_rfl) (by kernel_rfl) (by kernel_rfl) (fun _ _ _ h => h) (Or.inl ⟨by kernel_rfl, fun w' hS' => by clear hS'; go_simp⟩) hS ?_
            refine wpAnyH_done (by kernel_rfl) ?_ _
            clear hS
            go_simp
            go_step
            go_meet
            exact ⟨rfl, HBQ.out.drew⟩
          case rest =>
            obtain ⟨rfl, HBC⟩ := hcut
            rcases HUA.out with hua | ⟨go, hua⟩
            · subst hua
              have HFL : Hid ((l.map Q).flatten = ((l.take k).map Q).flatten ++ ((l.drop k).map Q).flatten) := by show _ = _; rw [← List.flatten_append, ← List.map_append, List.take_append_drop]
              have HGT : Hid (∀ q, q ∈ (l.take k).map Q → GQ q) := fun q hq => HGQ.out i l HI.out hin q (by rw [List.map_take] at hq; exact List.mem_of_mem_take hq)
              have HGD : Hid (∀ q, q ∈ (l.drop k).map Q → GQ q) := fun q hq => HGQ.out i l HI.out hin q (by rw [List.map_drop] at hq; exact List.mem_of_mem_drop hq)
              have HLN1 : Hid (((l.drop k).map Q).flatten.length = (i - k) * 4 ∧ ((l.take k).map Q).flatten.length = k * 4) := by
                show _ ∧ _
                rw [flat_len4 HGD.out, flat_len4 HGT.out, List.length_map, List.length_map, List.length_drop, List.length_take, HLN.out]
                exact ⟨rfl, by rw [Nat.min_eq_left hk]⟩
              have HG1 := hide (flat_cell HGD.out)
              have HG2 : Hid (∀ u ∈ [Value.int .i64 d, .int .i64 c, .string m, .slice (some p) rl rk] ++ ((l.drop k).map Q).flatten, u.oneCell' = true) := fun u hu => by
                rcases List.mem_append.1 hu with hu | hu
                · simp at hu; rcases hu with rfl | rfl | rfl | rfl <;> rfl
                · exact HG1.out u hu
              have HSA : Hid (((none : Option Addr) = none → i - k = 0 ∧ uc - k = 0) ∧ ∀ V, Below wc.heap.size wc V → ∀ b, (none : Option Addr) = some b → ∀ j u, ((l.drop k).map Q).flatten[j]? = some u → V.cell? (b.add j) = some u) := by
                have hz := HCAP.out.2.2 rfl
                exact ⟨fun _ => ⟨by omega, by omega⟩, fun V hV b e => by cases e⟩
              have HXW : Hid (∀ V, Below wc.heap.size wc V → V.cell? ⟨gl, i * 4, none⟩ = some (.int .i64 d) ∧ V.cell? ⟨gl, i * 4 + 1, none⟩ = some (.int .i64 c) ∧ V.cell? ⟨gl, i * 4 + 2, none⟩ = some (.string m) ∧ V.cell? ⟨gl, i * 4 + 3, none⟩ = some (.slice (some p) rl rk)) := fun V hV => HCL.out V (HB.out.trans ((HBC.out.trans (hV.mono HBC.out.size)).mono HB.out.size))
              have hle : (k : Int) ≤ (i : Int) ∧ (i : Int) ≤ (uc : Int) ∧ (k : Int) ≤ (uc : Int) := ⟨by omega, by omega, by omega⟩
              go_wp2_with fail
              go_upto_region 8 with fail
              refine wp_region_held_drew (S := fun W' => Below wc.heap.size wc W') (by kernel_rfl) ((Below.refl _ _).drew) (fun hS => ?_)
              refine wpAnyH_take (i := 0) (v := .slice none i uc) rfl (by kernel_rfl) (by kernel_rfl) (by kernel_rfl) (fun _ _ _ h => h) (Or.inl ⟨by kernel_rfl, fun w' hS' => by clear hS'; go_simp⟩) hS ?_
              refine wpAnyH_take (i := 1) (v := .int .i64 (k : Int)) rfl (by kernel_rfl) (by kernel_rfl) (by kernel_rfl) (fun _ _ _ h => h) (Or.inl ⟨by kernel_rfl, fun w' hS' => by clear hS'; go_simp⟩) hS ?_
              refine wpAnyH_take (i := 2) (v := .int .i64 (k : Int)) rfl (by kernel_rfl) (by kernel_rfl) (by kernel_rfl) (fun _ _ _ h => h) (Or.inl ⟨by kernel_rfl, fun w' hS' => by clear hS'; go_simp⟩) hS ?_
              refine wpAnyH_take (i := 3) (v := .slice none k k) rfl (by kernel_rfl) (by kernel_rfl) (by kernel_rfl) (fun _ _ _ h => h) (Or.inl ⟨by kernel_rfl, fun w' hS' => by clear hS'; go_simp⟩) hS ?_
              refine wpAnyH_take (i := 4) (v := .slice (some ⟨gl, 0, none⟩) n pc) rfl (by kernel_rfl) (by kernel_rfl) (by kernel_rfl) (fun _ _ _ h => h) (Or.inl ⟨by kernel_rfl, fun w' hS' => by clear hS'; go_simp⟩) hS ?_
              refine wpAnyH_take (i := 5) (v := .int .i64 (i : Int)) rfl (by kernel_rfl) (by kernel_rfl) (by kernel_rfl) (fun _ _ _ h => h) (Or.inl ⟨by kernel_rfl, fun w' hS' => by clear hS'; go_simp⟩) hS ?_
              refine wpAnyH_take (i := 6) (v := .pointer (some ⟨gl, i * 4, none⟩)) rfl (by kernel_rfl) (by kernel_rfl) (by kernel_rfl) (fun _ _ _ h => h) (Or.inl ⟨by kernel_rfl, fun w' hS' => by clear hS'; go_simp⟩) hS ?_
              refine wpAnyH_take (i := 7) (v := .agg #[.int .i64 d, .int .i64 c, .string m, .slice (some p) rl rk]) rfl (by kernel_rfl) (by kernel_rfl) (by kernel_rfl) (fun _ _ _ h => h) (Or.inl ⟨by kernel_rfl, fun w' hS' => by obtain ⟨y0, y1, y2, y3⟩ := HXW.out w' hS'; clear hS'; go_simp⟩) hS ?_
              refine wpAnyH_take (i := 9) (v := .slice none i uc) rfl (by kernel_rfl) (by kernel_rfl) (by kernel_rfl) (fun _ _ _ h => h) (Or.inl ⟨by kernel_rfl, fun w' hS' => by clear hS'; go_simp⟩) hS ?_
              refine wpAnyH_take (i := 10) (v := .int .i64 (k : Int)) rfl (by kernel_rfl) (by kernel_rfl) (by kernel_rfl) (fun _ _ _ h => h) (Or.inl ⟨by kernel_rfl, fun w' hS' => by clear hS'; go_simp⟩) hS ?_
              refine wpAnyH_take (i := 11) (v := .slice none (i - k) (uc - k)) rfl (by kernel_rfl) (by kernel_rfl) (by kernel_rfl) (fun _ _ _ h => h) (Or.inl ⟨by kernel_rfl, fun w' hS' => by clear hS'; go_simp⟩) hS ?_
              refine wpAnyH_ready (rs := [8]) (by kernel_rfl) (by simp) ?_
              refine AllReadyH.cons rfl (fun K hK => ?_) AllReadyH.nil
              go_simp
              have hB1 : Below wc.heap.size wc (wc.alloc (.cells #[.int .i64 d, .int .i64 c, .string m, .slice (some p) rl rk] 44)).drew := ((Below.refl wc.heap.size wc).alloc (Nat.le_refl _) _).drew
              have hO1 : (wc.alloc (.cells #[.int .i64 d, .int .i64 c, .string m, .slice (some p) rl rk] 44)).drew.ownsRow wc.heap.size 44 4 (.slice (some ⟨wc.heap.size, 0, none⟩) 1 1) 1 [.int .i64 d, .int .i64 c, .string m, .slice (some p) rl rk] := World.ownsRow_lit wc #[.int .i64 d, .int .i64 c, .string m, .slice (some p) rl rk] 1 (Nat.le_refl _) (by decide) rfl
              have hs1 : wc.heap.size ≤ (wc.alloc (.cells #[.int .i64 d, .int .i64 c, .string m, .slice (some p) rl rk] 44)).drew.heap.size := hB1.size
              refine hK.out _ _ hB1 (fun hS => ?_)
              clear hK
              generalize (wc.alloc (.cells #[.int .i64 d, .int .i64 c, .string m, .slice (some p) rl rk] 44)).drew = W1 at *
              refine wpAnyH_ready (rs := [12]) (by kernel_rfl) (by simp) ?_
              refine AllReadyH.cons rfl (fun K hK => ?_) AllReadyH.nil
              refine step_append_opt rfl (.tmp 40) (.tmp 43) 26 rfl wc.heap.size 44 i0 (.agg #[.int .i64 0, .int .i64 0, .string ByteArray.empty, .slice none 0 0]) 4 56 Tryz.underlying26 hi hz0 hz1 hz2 rfl (by decide) _ 1 _ rfl hO1 none (i - k) (uc - k) ((l.drop k).map Q).flatten rfl (fun e => HSA.out.1 (by first | exact e | exact trivial)) HLN1.out.1 (fun b e j u hj => HSA.out.2 W1 hB1 b e j u hj) (HG1.out) (by unfold maxLen; omega) (by omega) hs1 (fun v1 W2 hO2 hg2 => ?_)
              have hB2 : Below wc.heap.size wc W2 := hB1.grown hg2 hs1 (fun g hg => by have e : wc.heap.size = g := Option.some.inj hg; omega)
              refine hK.out _ _ hB2 (fun hS => ?_)
              clear hK
              obtain ⟨g1, c1, rfl⟩ := own4_some hO2 (by omega)
              have hR2 := row_cells9 hO2
              refine wpAnyH_ready (rs := [13]) (by kernel_rfl) (by simp) ?_
              refine AllReadyH.cons rfl (fun K hK => ?_) AllReadyH.nil
              refine step_append_full rfl (.tmp 35) (.tmp 44) 26 rfl 44 i0 (.agg #[.int .i64 0, .int .i64 0, .string ByteArray.empty, .slice none 0 0]) 4 56 Tryz.underlying26 hi hz0 hz1 hz2 rfl (by decide) none k ((l.take k).map Q).flatten rfl (fun _ => HK0.out) HLN1.out.2 (fun b e => by cases e) ⟨g1, 0, none⟩ (1 + (i - k)) c1 _ rfl hO2.1 (fun j u hj => by rw [Addr.add_lit, Nat.zero_add]; exact hR2.2 j u hj) HG2.out (by omega) (by unfold maxLen; omega) (by omega) (fun v3 W3 hO3 hg3 => ?_)
              have hB3 : Below wc.heap.size wc W3 := hB2.grown hg3 hB2.size (fun g hg => by cases hg)
              refine hK.out _ _ hB3 (fun hS => ?_)
              clear hK
              obtain ⟨va, vc, rfl⟩ := form4 hO3
              have HI2 := hide (HI.out.step (by rw [HLN.out]; exact hk) HLO.out HHI.out)
              have HO3 : Hid (W3.ownsRow w.heap.size 44 4 (.slice va (i + 1) vc) (i + 1) (((l.take k ++ i :: l.drop k).map Q).flatten)) := by
                show World.ownsRow _ _ _ _ _ _ _
                have e1 : k + (1 + (i - k)) = i + 1 := by omega
                rw [e1] at hO3
                rw [List.map_append, List.map_cons, List.flatten_append, List.flatten_cons, HQI.out]
                exact row4_low hO3 (Nat.le_trans (HB.out.trans (HBC.out.mono HB.out.size)).size hB2.size)
              have HB3 := hide (HB.out.trans ((HBC.out.trans (hB3.mono HBC.out.size)).mono HB.out.size))
              have ek : k + (1 + (i - k)) = i + 1 := by omega
              rw [ek]
              refine wpAnyH_take (i := 14) (v := .slice va (i + 1) vc) rfl (by kernel_rfl) (by kernel_rfl) (by kernel_rfl) (fun _ _ _ h => h) (Or.inl ⟨by kernel_rfl, fun w' hS' => by clear hS'; go_simp⟩) hS ?_
              refine wpAnyH_done (by kernel_rfl) ?_ _
              clear hS hO1 hO2 hO3 hg2 hg3 hB1 hB2 hB3 hR2 hs1 ek
              go_wp2
              go_roundw
              case rel => exact ⟨i + 1, _, va, vc, hlt, rfl, by go_num, HI2, HO3, HB3⟩
              case measure => simp [RowKit.intOf]; omega
            · subst hua
              have HFL : Hid ((l.map Q).flatten = ((l.take k).map Q).flatten ++ ((l.drop k).map Q).flatten) := by show _ = _; rw [← List.flatten_append, ← List.map_append, List.take_append_drop]
              have HGT : Hid (∀ q, q ∈ (l.take k).map Q → GQ q) := fun q hq => HGQ.out i l HI.out hin q (by rw [List.map_take] at hq; exact List.mem_of_mem_take hq)
              have HGD : Hid (∀ q, q ∈ (l.drop k).map Q → GQ q) := fun q hq => HGQ.out i l HI.out hin q (by rw [List.map_drop] at hq; exact List.mem_of_mem_drop hq)
              have HLN1 : Hid (((l.drop k).map Q).flatten.length = (i - k) * 4 ∧ ((l.take k).map Q).flatten.length = k * 4) := by
                show _ ∧ _
                rw [flat_len4 HGD.out, flat_len4 HGT.out, List.length_map, List.length_map, List.length_drop, List.length_take, HLN.out]
                exact ⟨rfl, by rw [Nat.min_eq_left hk]⟩
              have HG1 := hide (flat_cell HGD.out)
              have HG2 : Hid (∀ u ∈ [Value.int .i64 d, .int .i64 c, .string m, .slice (some p) rl rk] ++ ((l.drop k).map Q).flatten, u.oneCell' = true) := fun u hu => by
                rcases List.mem_append.1 hu with hu | hu
                · simp at hu; rcases hu with rfl | rfl | rfl | rfl <;> rfl
                · exact HG1.out u hu
              have HROW := hide (row_cells9 HO.out)
              have HFC : Hid (∀ V, Below wc.heap.size wc V → ∀ j u, ((l.map Q).flatten)[j]? = some u → V.cell? ⟨go, j, none⟩ = some u) := fun V hV j u hj => ((HBC.out.trans (hV.mono HBC.out.size)).cell (p := ⟨go, j, none⟩) HROW.out.1).trans (HROW.out.2 j u hj)
              have HOLD : Hid (∀ V, Below wc.heap.size wc V → ∀ j u, ((l.take k).map Q).flatten[j]? = some u → V.cell? ⟨go, j, none⟩ = some u) := fun V hV j u hj => HFC.out V hV j u (by rw [HFL.out, List.getElem?_append_left (List.getElem?_eq_some_iff.1 hj).1]; exact hj)
              obtain ⟨sa, hsa⟩ : ∃ sa, (if uc = k then some (⟨go, 0, none⟩ : Addr) else some ⟨go, k * 4, none⟩) = sa := ⟨_, rfl⟩
              have HSA : Hid ((sa = none → i - k = 0 ∧ uc - k = 0) ∧ ∀ V, Below wc.heap.size wc V → ∀ b, sa = some b → ∀ j u, ((l.drop k).map Q).flatten[j]? = some u → V.cell? (b.add j) = some u) := by
                refine ⟨fun e => ?_, fun V hV b e j u hj => ?_⟩
                · rw [← hsa] at e
                  split at e <;> cases e
                · have hjl := (List.getElem?_eq_some_iff.1 hj).1
                  rw [HLN1.out.1] at hjl
                  rw [← hsa, if_neg (by omega)] at e
                  cases e
                  rw [Addr.add_lit]
                  exact HFC.out V hV _ u (by rw [HFL.out, List.getElem?_append_right (by rw [HLN1.out.2]; omega), HLN1.out.2, Nat.add_sub_cancel_left]; exact hj)
              have HXW : Hid (∀ V, Below wc.heap.size wc V → V.cell? ⟨gl, i * 4, none⟩ = some (.int .i64 d) ∧ V.cell? ⟨gl, i * 4 + 1, none⟩ = some (.int .i64 c) ∧ V.cell? ⟨gl, i * 4 + 2, none⟩ = some (.string m) ∧ V.cell? ⟨gl, i * 4 + 3, none⟩ = some (.slice (some p) rl rk)) := fun V hV => HCL.out V (HB.out.trans ((HBC.out.trans (hV.mono HBC.out.size)).mono HB.out.size))
              have hle : (k : Int) ≤ (i : Int) ∧ (i : Int) ≤ (uc : Int) ∧ (k : Int) ≤ (uc : Int) := ⟨by omega, by omega, by omega⟩
              go_wp2_with fail
              go_upto_region 8 with fail
              refine wp_region_held_drew (S := fun W' => Below wc.heap.size wc W') (by kernel_rfl) ((Below.refl _ _).drew) (fun hS => ?_)
              refine wpAnyH_take (i := 0) (v := .slice (some ⟨go, 0, none⟩) i uc) rfl (by kernel_rfl) (by kernel_rfl) (by kernel_rfl) (fun _ _ _ h => h) (Or.inl ⟨by kernel_rfl, fun w' hS' => by clear hS'; go_simp⟩) hS ?_
              refine wpAnyH_take (i := 1) (v := .int .i64 (k : Int)) rfl (by kernel_rfl) (by kernel_rfl) (by kernel_rfl) (fun _ _ _ h => h) (Or.inl ⟨by kernel_rfl, fun w' hS' => by clear hS'; go_simp⟩) hS ?_
              refine wpAnyH_take (i := 2) (v := .int .i64 (k : Int)) rfl (by kernel_rfl) (by kernel_rfl) (by kernel_rfl) (fun _ _ _ h => h) (Or.inl ⟨by kernel_rfl, fun w' hS' => by clear hS'; go_simp⟩) hS ?_
              refine wpAnyH_take (i := 3) (v := .slice (some ⟨go, 0, none⟩) k k) rfl (by kernel_rfl) (by kernel_rfl) (by kernel_rfl) (fun _ _ _ h => h) (Or.inl ⟨by kernel_rfl, fun w' hS' => by clear hS'; go_simp⟩) hS ?_
              refine wpAnyH_take (i := 4) (v := .slice (some ⟨gl, 0, none⟩) n pc) rfl (by kernel_rfl) (by kernel_rfl) (by kernel_rfl) (fun _ _ _ h => h) (Or.inl ⟨by kernel_rfl, fun w' hS' => by clear hS'; go_simp⟩) hS ?_
              refine wpAnyH_take (i := 5) (v := .int .i64 (i : Int)) rfl (by kernel_rfl) (by kernel_rfl) (by kernel_rfl) (fun _ _ _ h => h) (Or.inl ⟨by kernel_rfl, fun w' hS' => by clear hS'; go_simp⟩) hS ?_
              refine wpAnyH_take (i := 6) (v := .pointer (some ⟨gl, i * 4, none⟩)) rfl (by kernel_rfl) (by kernel_rfl) (by kernel_rfl) (fun _ _ _ h => h) (Or.inl ⟨by kernel_rfl, fun w' hS' => by clear hS'; go_simp⟩) hS ?_
              refine wpAnyH_take (i := 7) (v := .agg #[.int .i64 d, .int .i64 c, .string m, .slice (some p) rl rk]) rfl (by kernel_rfl) (by kernel_rfl) (by kernel_rfl) (fun _ _ _ h => h) (Or.inl ⟨by kernel_rfl, fun w' hS' => by obtain ⟨y0, y1, y2, y3⟩ := HXW.out w' hS'; clear hS'; go_simp⟩) hS ?_
              refine wpAnyH_take (i := 9) (v := .slice (some ⟨go, 0, none⟩) i uc) rfl (by kernel_rfl) (by kernel_rfl) (by kernel_rfl) (fun _ _ _ h => h) (Or.inl ⟨by kernel_rfl, fun w' hS' => by clear hS'; go_simp⟩) hS ?_
              refine wpAnyH_take (i := 10) (v := .int .i64 (k : Int)) rfl (by kernel_rfl) (by kernel_rfl) (by kernel_rfl) (fun _ _ _ h => h) (Or.inl ⟨by kernel_rfl, fun w' hS' => by clear hS'; go_simp⟩) hS ?_
              refine wpAnyH_take (i := 11) (v := .slice sa (i - k) (uc - k)) rfl (by kernel_rfl) (by kernel_rfl) (by kernel_rfl) (fun _ _ _ h => h) (Or.inl ⟨by kernel_rfl, fun w' hS' => by clear hS'; go_simp⟩) hS ?_
              refine wpAnyH_ready (rs := [8]) (by kernel_rfl) (by simp) ?_
              refine AllReadyH.cons rfl (fun K hK => ?_) AllReadyH.nil
              go_simp
              have hB1 : Below wc.heap.size wc (wc.alloc (.cells #[.int .i64 d, .int .i64 c, .string m, .slice (some p) rl rk] 44)).drew := ((Below.refl wc.heap.size wc).alloc (Nat.le_refl _) _).drew
              have hO1 : (wc.alloc (.cells #[.int .i64 d, .int .i64 c, .string m, .slice (some p) rl rk] 44)).drew.ownsRow wc.heap.size 44 4 (.slice (some ⟨wc.heap.size, 0, none⟩) 1 1) 1 [.int .i64 d, .int .i64 c, .string m, .slice (some p) rl rk] := World.ownsRow_lit wc #[.int .i64 d, .int .i64 c, .string m, .slice (some p) rl rk] 1 (Nat.le_refl _) (by decide) rfl
              have hs1 : wc.heap.size ≤ (wc.alloc (.cells #[.int .i64 d, .int .i64 c, .string m, .slice (some p) rl rk] 44)).drew.heap.size := hB1.size
              refine hK.out _ _ hB1 (fun hS => ?_)
              clear hK
              generalize (wc.alloc (.cells #[.int .i64 d, .int .i64 c, .string m, .slice (some p) rl rk] 44)).drew = W1 at *
              refine wpAnyH_ready (rs := [12]) (by kernel_rfl) (by simp) ?_
              refine AllReadyH.cons rfl (fun K hK => ?_) AllReadyH.nil
              refine step_append_opt rfl (.tmp 40) (.tmp 43) 26 rfl wc.heap.size 44 i0 (.agg #[.int .i64 0, .int .i64 0, .string ByteArray.empty, .slice none 0 0]) 4 56 Tryz.underlying26 hi hz0 hz1 hz2 rfl (by decide) _ 1 _ rfl hO1 sa (i - k) (uc - k) ((l.drop k).map Q).flatten rfl (fun e => HSA.out.1 (by first | exact e | exact trivial)) HLN1.out.1 (fun b e j u hj => HSA.out.2 W1 hB1 b e j u hj) (HG1.out) (by unfold maxLen; omega) (by omega) hs1 (fun v1 W2 hO2 hg2 => ?_)
              have hB2 : Below wc.heap.size wc W2 := hB1.grown hg2 hs1 (fun g hg => by have e : wc.heap.size = g := Option.some.inj hg; omega)
              refine hK.out _ _ hB2 (fun hS => ?_)
              clear hK
              obtain ⟨g1, c1, rfl⟩ := own4_some hO2 (by omega)
              have hR2 := row_cells9 hO2
              refine wpAnyH_ready (rs := [13]) (by kernel_rfl) (by simp) ?_
              refine AllReadyH.cons rfl (fun K hK => ?_) AllReadyH.nil
              refine step_append_full rfl (.tmp 35) (.tmp 44) 26 rfl 44 i0 (.agg #[.int .i64 0, .int .i64 0, .string ByteArray.empty, .slice none 0 0]) 4 56 Tryz.underlying26 hi hz0 hz1 hz2 rfl (by decide) (some ⟨go, 0, none⟩) k ((l.take k).map Q).flatten rfl (fun e => by cases e) HLN1.out.2 (fun b e j u hj => by cases e; rw [Addr.add_lit, Nat.zero_add]; exact HOLD.out W2 hB2 j u hj) ⟨g1, 0, none⟩ (1 + (i - k)) c1 _ rfl hO2.1 (fun j u hj => by rw [Addr.add_lit, Nat.zero_add]; exact hR2.2 j u hj) HG2.out (by omega) (by unfold maxLen; omega) (by omega) (fun v3 W3 hO3 hg3 => ?_)
              have hB3 : Below wc.heap.size wc W3 := hB2.grown hg3 hB2.size (fun g hg => by cases hg)
              refine hK.out _ _ hB3 (fun hS => ?_)
              clear hK
              obtain ⟨va, vc, rfl⟩ := form4 hO3
              have HI2 := hide (HI.out.step (by rw [HLN.out]; exact hk) HLO.out HHI.out)
              have HO3 : Hid (W3.ownsRow w.heap.size 44 4 (.slice va (i + 1) vc) (i + 1) (((l.take k ++ i :: l.drop k).map Q).flatten)) := by
                show World.ownsRow _ _ _ _ _ _ _
                have e1 : k + (1 + (i - k)) = i + 1 := by omega
                rw [e1] at hO3
                rw [List.map_append, List.map_cons, List.flatten_append, List.flatten_cons, HQI.out]
                exact row4_low hO3 (Nat.le_trans (HB.out.trans (HBC.out.mono HB.out.size)).size hB2.size)
              have HB3 := hide (HB.out.trans ((HBC.out.trans (hB3.mono HBC.out.size)).mono HB.out.size))
              have ek : k + (1 + (i - k)) = i + 1 := by omega
              rw [ek]
              refine wpAnyH_take (i := 14) (v := .slice va (i + 1) vc) rfl (by kernel_rfl) (by kernel_rfl) (by kernel_rfl) (fun _ _ _ h => h) (Or.inl ⟨by kernel_rfl, fun w' hS' => by clear hS'; go_simp⟩) hS ?_
              refine wpAnyH_done (by kernel_rfl) ?_ _
              clear hS hO1 hO2 hO3 hg2 hg3 hB1 hB2 hB3 hR2 hs1 ek
              go_wp2
              go_roundw
              case rel => exact ⟨i + 1, _, va, vc, hlt, rfl, by go_num, HI2, HO3, HB3⟩
              case measure => simp [RowKit.intOf]; omega
        · obtain ⟨km, hkm⟩ : ∃ km, k = km + 1 := ⟨k - 1, by omega⟩
          obtain ⟨x, hx⟩ := HX0.out km (by omega)
          obtain ⟨go, hua, hkmi, hgo, -, -, hcx⟩ := HOUT.out km x hx
          subst hua
          have hk0' : (0 : Int) < (k : Int) := by omega
          have hk0n : 0 < k := by omega
          have hsub : (k : Int) - 1 = (km : Int) := by omega
          have hki : (km : Int) < (i : Int) := by omega
          have h6a := (HBQ.out.cell (p := ⟨go, km * 4, none⟩) hgo).trans hcx
          have h6b := (HCL.out wr (HB.out.trans (HBQ.out.mono HB.out.size))).1
          have HXX := hide hx
          have HKM := hide hkm
          obtain ⟨dx, hdx⟩ : ∃ dx, D x = dx := ⟨_, rfl⟩
          have HDX := hide hdx
          rw [hdx] at h6a
          clear hcx hx hkm hdx hk0
          by_cases hgt : d < dx
          · go_wp2_with fail
            go_upto_region 6 with fail
            go_cut [29] from 14 to 31 (fun cv wx => cv = .bool true ∧ Hid (Below wo.heap.size wo wx))
            case first =>
              refine wp_region_held_drew (S := fun W' => W'.cell? ⟨go, km * 4, none⟩ = some (.int .i64 dx) ∧ W'.cell? ⟨gl, i * 4, none⟩ = some (.int .i64 d)) (by kernel_rfl) ⟨h6a, h6b⟩ (fun hS => ?_)
              refine wpAnyH_take (i := 0) (v := .int .i64 (k : Int)) rfl (by kernel_rfl) (by kernel_rfl) (by kernel_rfl) (fun _ _ _ h => h) (Or.inl ⟨by kernel_rfl, fun w' hS' => by clear hS'; go_simp⟩) hS ?_
              refine wpAnyH_take (i := 1) (v := .bool true) rfl (by kernel_rfl) (by kernel_rfl) (by kernel_rfl) (fun _ _ _ h => h) (Or.inl ⟨by kernel_rfl, fun w' hS' => by clear hS'; go_simp⟩) hS ?_
              refine wpAnyH_take (i := 2) (v := .bool true) rfl (by kernel_rfl) (by kernel_rfl) (by kernel_rfl) (fun _ _ _ h => h) (Or.inl ⟨by kernel_rfl, fun w' hS' => by clear hS'; go_simp⟩) hS ?_
              refine wpAnyH_take (i := 3) (v := .slice (some ⟨go, 0, none⟩) i uc) rfl (by kernel_rfl) (by kernel_rfl) (by kernel_rfl) (fun _ _ _ h => h) (Or.inl ⟨by kernel_rfl, fun w' hS' => by clear hS'; go_simp⟩) hS ?_
              refine wpAnyH_take (i := 4) (v := .int .i64 (k : Int)) rfl (by kernel_rfl) (by kernel_rfl) (by kernel_rfl) (fun _ _ _ h => h) (Or.inl ⟨by kernel_rfl, fun w' hS' => by clear hS'; go_simp⟩) hS ?_
              refine wpAnyH_take (i := 5) (v := .int .i64 (km : Int)) rfl (by kernel_rfl) (by kernel_rfl) (by kernel_rfl) (fun _ _ _ h => h) (Or.inl ⟨by kernel_rfl, fun w' hS' => by clear hS'; go_simp; (try (rw [IntKind.wrap_i64]; omega))⟩) hS ?_
              refine wpAnyH_take (i := 6) (v := .pointer (some ⟨go, km * 4, none⟩)) rfl (by kernel_rfl) (by kernel_rfl) (by kernel_rfl) (fun _ _ _ h => h) (Or.inl ⟨by kernel_rfl, fun w' hS' => by clear hS'; go_simp⟩) hS ?_
              refine wpAnyH_take (i := 7) (v := .pointer (some ⟨go, km * 4, none⟩)) rfl (by kernel_rfl) (by kernel_rfl) (by kernel_rfl) (fun _ _ _ h => h) (Or.inl ⟨by kernel_rfl, fun w' hS' => by clear hS'; go_simp⟩) hS ?_
              refine wpAnyH_take (i := 8) (v := .int .i64 dx) rfl (by kernel_rfl) (by kernel_rfl) (by kernel_rfl) (fun _ _ _ h => h) (Or.inl ⟨by kernel_rfl, fun w' hS' => by have h2 := hS'.1; clear hS'; go_simp⟩) hS ?_
              refine wpAnyH_take (i := 9) (v := .slice (some ⟨gl, 0, none⟩) n pc) rfl (by kernel_rfl) (by kernel_rfl) (by kernel_rfl) (fun _ _ _ h => h) (Or.inl ⟨by kernel_rfl, fun w' hS' => by clear hS'; go_simp⟩) hS ?_
              refine wpAnyH_take (i := 10) (v := .int .i64 (i : Int)) rfl (by kernel_rfl) (by kernel_rfl) (by kernel_rfl) (fun _ _ _ h => h) (Or.inl ⟨by kernel_rfl, fun w' hS' => by clear hS'; go_simp⟩) hS ?_
              refine wpAnyH_take (i := 11) (v := .pointer (some ⟨gl, i * 4, none⟩)) rfl (by kernel_rfl) (by kernel_rfl) (by kernel_rfl) (fun _ _ _ h => h) (Or.inl ⟨by kernel_rfl, fun w' hS' => by clear hS'; go_simp⟩) hS ?_
              refine wpAnyH_take (i := 12) (v := .pointer (some ⟨gl, i * 4, none⟩)) rfl (by kernel_rfl) (by kernel_rfl) (by kernel_rfl) (fun _ _ _ h => h) (Or.inl ⟨by kernel_rfl, fun w' hS' => by clear hS'; go_simp⟩) hS ?_
              refine wpAnyH_take (i := 13) (v := .int .i64 d) rfl (by kernel_rfl) (by kernel_rfl) (by kernel_rfl) (fun _ _ _ h => h) (Or.inl ⟨by kernel_rfl, fun w' hS' => by have h2 := hS'.2; clear hS'; go_simp⟩) hS ?_
              refine wpAnyH_take (i := 14) (v := .bool true) rfl (by kernel_rfl) (by kernel_rfl) (by kernel_rfl) (fun _ _ _ h => h) (Or.inl ⟨by kernel_rfl, fun w' hS' => by clear hS'; go_simp⟩) hS ?_
              refine wpAnyH_take (i := 15) (v := .bool true) rfl (by kernel_rfl) (by kernel_rfl) (by kernel_rfl) (fun _ _ _ h => h) (Or.inl ⟨by kernel_rfl, fun w' hS' => by clear hS'; go_simp⟩) hS ?_
              refine wpAnyH_done (by kernel_rfl) ?_ _
              clear hS
              go_simp
              go_step
              go_meet
              exact ⟨rfl, HBQ.out.drew⟩
            case rest =>
              obtain ⟨rfl, HBC⟩ := hcut
              have HH2 : Hid (∀ q x, km ≤ q → l[q]? = some x → D i < D x) := fun q y hq hy => by
                rcases Nat.eq_or_lt_of_le hq with e | e
                · subst e
                  have e2 := HXX.out
                  rw [hy] at e2
                  obtain rfl := Option.some.inj e2
                  rw [HDX.out, HDI.out]
                  exact hgt
                · exact HHI.out q y (by have := HKM.out; omega) hy
              clear h6a h6b hgo HBQ
              go_wp2
              go_roundw
              case rel => exact ⟨km, by omega, by go_num, HH2, HBC⟩
              case measure => have := HKM.out; simp [RowKit.intOf]; omega
          · have HLO : Hid (∀ q x, k = q + 1 → l[q]? = some x → D x ≤ D i) := fun q y hq hy => by
              have e : q = km := by have := HKM.out; omega
              subst e
              have e2 := HXX.out
              rw [hy] at e2
              obtain rfl := Option.some.inj e2
              rw [HDX.out, HDI.out]
              omega
            go_wp2_with fail
            go_upto_region 6 with fail
            go_cut [29] from 14 to 31 (fun cv wx => cv = .bool false ∧ Hid (Below wo.heap.size wo wx))
            case first =>
              refine wp_region_held_drew (S := fun W' => W'.cell? ⟨go, km * 4, none⟩ = some (.int .i64 dx) ∧ W'.cell? ⟨gl, i * 4, none⟩ = some (.int .i64 d)) (by kernel_rfl) ⟨h6a, h6b⟩ (fun hS => ?_)
              refine wpAnyH_take (i := 0) (v := .int .i64 (k : Int)) rfl (by kernel_rfl) (by kernel_rfl) (by kernel_rfl) (fun _ _ _ h => h) (Or.inl ⟨by kernel_rfl, fun w' hS' => by clear hS'; go_simp⟩) hS ?_
              refine wpAnyH_take (i := 1) (v := .bool true) rfl (by kernel_rfl) (by kernel_rfl) (by kernel_rfl) (fun _ _ _ h => h) (Or.inl ⟨by kernel_rfl, fun w' hS' => by clear hS'; go_simp⟩) hS ?_
              refine wpAnyH_take (i := 2) (v := .bool true) rfl (by kernel_rfl) (by kernel_rfl) (by kernel_rfl) (fun _ _ _ h => h) (Or.inl ⟨by kernel_rfl, fun w' hS' => by clear hS'; go_simp⟩) hS ?_
              refine wpAnyH_take (i := 3) (v := .slice (some ⟨go, 0, none⟩) i uc) rfl (by kernel_rfl) (by kernel_rfl) (by kernel_rfl) (fun _ _ _ h => h) (Or.inl ⟨by kernel_rfl, fun w' hS' => by clear hS'; go_simp⟩) hS ?_
              refine wpAnyH_take (i := 4) (v := .int .i64 (k : Int)) rfl (by kernel_rfl) (by kernel_rfl) (by kernel_rfl) (fun _ _ _ h => h) (Or.inl ⟨by kernel_rfl, fun w' hS' => by clear hS'; go_simp⟩) hS ?_
              refine wpAnyH_take (i := 5) (v := .int .i64 (km : Int)) rfl (by kernel_rfl) (by kernel_rfl) (by kernel_rfl) (fun _ _ _ h => h) (Or.inl ⟨by kernel_rfl, fun w' hS' => by clear hS'; go_simp; (try (rw [IntKind.wrap_i64]; omega))⟩) hS ?_
              refine wpAnyH_take (i := 6) (v := .pointer (some ⟨go, km * 4, none⟩)) rfl (by kernel_rfl) (by kernel_rfl) (by kernel_rfl) (fun _ _ _ h => h) (Or.inl ⟨by kernel_rfl, fun w' hS' => by clear hS'; go_simp⟩) hS ?_
              refine wpAnyH_take (i := 7) (v := .pointer (some ⟨go, km * 4, none⟩)) rfl (by kernel_rfl) (by kernel_rfl) (by kernel_rfl) (fun _ _ _ h => h) (Or.inl ⟨by kernel_rfl, fun w' hS' => by clear hS'; go_simp⟩) hS ?_
              refine wpAnyH_take (i := 8) (v := .int .i64 dx) rfl (by kernel_rfl) (by kernel_rfl) (by kernel_rfl) (fun _ _ _ h => h) (Or.inl ⟨by kernel_rfl, fun w' hS' => by have h2 := hS'.1; clear hS'; go_simp⟩) hS ?_
              refine wpAnyH_take (i := 9) (v := .slice (some ⟨gl, 0, none⟩) n pc) rfl (by kernel_rfl) (by kernel_rfl) (by kernel_rfl) (fun _ _ _ h => h) (Or.inl ⟨by kernel_rfl, fun w' hS' => by clear hS'; go_simp⟩) hS ?_
              refine wpAnyH_take (i := 10) (v := .int .i64 (i : Int)) rfl (by kernel_rfl) (by kernel_rfl) (by kernel_rfl) (fun _ _ _ h => h) (Or.inl ⟨by kernel_rfl, fun w' hS' => by clear hS'; go_simp⟩) hS ?_
              refine wpAnyH_take (i := 11) (v := .pointer (some ⟨gl, i * 4, none⟩)) rfl (by kernel_rfl) (by kernel_rfl) (by kernel_rfl) (fun _ _ _ h => h) (Or.inl ⟨by kernel_rfl, fun w' hS' => by clear hS'; go_simp⟩) hS ?_
              refine wpAnyH_take (i := 12) (v := .pointer (some ⟨gl, i * 4, none⟩)) rfl (by kernel_rfl) (by kernel_rfl) (by kernel_rfl) (fun _ _ _ h => h) (Or.inl ⟨by kernel_rfl, fun w' hS' => by clear hS'; go_simp⟩) hS ?_
              refine wpAnyH_take (i := 13) (v := .int .i64 d) rfl (by kernel_rfl) (by kernel_rfl) (by kernel_rfl) (fun _ _ _ h => h) (Or.inl ⟨by kernel_rfl, fun w' hS' => by have h2 := hS'.2; clear hS'; go_simp⟩) hS ?_
              refine wpAnyH_take (i := 14) (v := .bool false) rfl (by kernel_rfl) (by kernel_rfl) (by kernel_rfl) (fun _ _ _ h => h) (Or.inl ⟨by kernel_rfl, fun w' hS' => by clear hS'; go_simp⟩) hS ?_
              refine wpAnyH_take (i := 15) (v := .bool false) rfl (by kernel_rfl) (by kernel_rfl) (by kernel_rfl) (fun _ _ _ h => h) (Or.inl ⟨by kernel_rfl, fun w' hS' => by clear hS'; go_simp⟩) hS ?_
              refine wpAnyH_done (by kernel_rfl) ?_ _
              clear hS
              go_simp
              go_step
              go_meet
              exact ⟨rfl, HBQ.out.drew⟩
            case rest =>
              obtain ⟨rfl, HBC⟩ := hcut
              clear h6a h6b hgo hgt hsub hki
              have HFL : Hid ((l.map Q).flatten = ((l.take k).map Q).flatten ++ ((l.drop k).map Q).flatten) := by show _ = _; rw [← List.flatten_append, ← List.map_append, List.take_append_drop]
              have HGT : Hid (∀ q, q ∈ (l.take k).map Q → GQ q) := fun q hq => HGQ.out i l HI.out hin q (by rw [List.map_take] at hq; exact List.mem_of_mem_take hq)
              have HGD : Hid (∀ q, q ∈ (l.drop k).map Q → GQ q) := fun q hq => HGQ.out i l HI.out hin q (by rw [List.map_drop] at hq; exact List.mem_of_mem_drop hq)
              have HLN1 : Hid (((l.drop k).map Q).flatten.length = (i - k) * 4 ∧ ((l.take k).map Q).flatten.length = k * 4) := by
                show _ ∧ _
                rw [flat_len4 HGD.out, flat_len4 HGT.out, List.length_map, List.length_map, List.length_drop, List.length_take, HLN.out]
                exact ⟨rfl, by rw [Nat.min_eq_left hk]⟩
              have HG1 := hide (flat_cell HGD.out)
              have HG2 : Hid (∀ u ∈ [Value.int .i64 d, .int .i64 c, .string m, .slice (some p) rl rk] ++ ((l.drop k).map Q).flatten, u.oneCell' = true) := fun u hu => by
                rcases List.mem_append.1 hu with hu | hu
                · simp at hu; rcases hu with rfl | rfl | rfl | rfl <;> rfl
                · exact HG1.out u hu
              have HROW := hide (row_cells9 HO.out)
              have HFC : Hid (∀ V, Below wc.heap.size wc V → ∀ j u, ((l.map Q).flatten)[j]? = some u → V.cell? ⟨go, j, none⟩ = some u) := fun V hV j u hj => ((HBC.out.trans (hV.mono HBC.out.size)).cell (p := ⟨go, j, none⟩) HROW.out.1).trans (HROW.out.2 j u hj)
              have HOLD : Hid (∀ V, Below wc.heap.size wc V → ∀ j u, ((l.take k).map Q).flatten[j]? = some u → V.cell? ⟨go, j, none⟩ = some u) := fun V hV j u hj => HFC.out V hV j u (by rw [HFL.out, List.getElem?_append_left (List.getElem?_eq_some_iff.1 hj).1]; exact hj)
              obtain ⟨sa, hsa⟩ : ∃ sa, (if uc = k then some (⟨go, 0, none⟩ : Addr) else some ⟨go, k * 4, none⟩) = sa := ⟨_, rfl⟩
              have HSA : Hid ((sa = none → i - k = 0 ∧ uc - k = 0) ∧ ∀ V, Below wc.heap.size wc V → ∀ b, sa = some b → ∀ j u, ((l.drop k).map Q).flatten[j]? = some u → V.cell? (b.add j) = some u) := by
                refine ⟨fun e => ?_, fun V hV b e j u hj => ?_⟩
                · rw [← hsa] at e
                  split at e <;> cases e
                · have hjl := (List.getElem?_eq_some_iff.1 hj).1
                  rw [HLN1.out.1] at hjl
                  rw [← hsa, if_neg (by omega)] at e
                  cases e
                  rw [Addr.add_lit]
                  exact HFC.out V hV _ u (by rw [HFL.out, List.getElem?_append_right (by rw [HLN1.out.2]; omega), HLN1.out.2, Nat.add_sub_cancel_left]; exact hj)
              have HXW : Hid (∀ V, Below wc.heap.size wc V → V.cell? ⟨gl, i * 4, none⟩ = some (.int .i64 d) ∧ V.cell? ⟨gl, i * 4 + 1, none⟩ = some (.int .i64 c) ∧ V.cell? ⟨gl, i * 4 + 2, none⟩ = some (.string m) ∧ V.cell? ⟨gl, i * 4 + 3, none⟩ = some (.slice (some p) rl rk)) := fun V hV => HCL.out V (HB.out.trans ((HBC.out.trans (hV.mono HBC.out.size)).mono HB.out.size))
              have hle : (k : Int) ≤ (i : Int) ∧ (i : Int) ≤ (uc : Int) ∧ (k : Int) ≤ (uc : Int) := ⟨by omega, by omega, by omega⟩
              go_wp2_with fail
              go_upto_region 8 with fail
              refine wp_region_held_drew (S := fun W' => Below wc.heap.size wc W') (by kernel_rfl) ((Below.refl _ _).drew) (fun hS => ?_)
              refine wpAnyH_take (i := 0) (v := .slice (some ⟨go, 0, none⟩) i uc) rfl (by kernel_rfl) (by kernel_rfl) (by kernel_rfl) (fun _ _ _ h => h) (Or.inl ⟨by kernel_rfl, fun w' hS' => by clear hS'; go_simp⟩) hS ?_
              refine wpAnyH_take (i := 1) (v := .int .i64 (k : Int)) rfl (by kernel_rfl) (by kernel_rfl) (by kernel_rfl) (fun _ _ _ h => h) (Or.inl ⟨by kernel_rfl, fun w' hS' => by clear hS'; go_simp⟩) hS ?_
              refine wpAnyH_take (i := 2) (v := .int .i64 (k : Int)) rfl (by kernel_rfl) (by kernel_rfl) (by kernel_rfl) (fun _ _ _ h => h) (Or.inl ⟨by kernel_rfl, fun w' hS' => by clear hS'; go_simp⟩) hS ?_
              refine wpAnyH_take (i := 3) (v := .slice (some ⟨go, 0, none⟩) k k) rfl (by kernel_rfl) (by kernel_rfl) (by kernel_rfl) (fun _ _ _ h => h) (Or.inl ⟨by kernel_rfl, fun w' hS' => by clear hS'; go_simp⟩) hS ?_
              refine wpAnyH_take (i := 4) (v := .slice (some ⟨gl, 0, none⟩) n pc) rfl (by kernel_rfl) (by kernel_rfl) (by kernel_rfl) (fun _ _ _ h => h) (Or.inl ⟨by kernel_rfl, fun w' hS' => by clear hS'; go_simp⟩) hS ?_
              refine wpAnyH_take (i := 5) (v := .int .i64 (i : Int)) rfl (by kernel_rfl) (by kernel_rfl) (by kernel_rfl) (fun _ _ _ h => h) (Or.inl ⟨by kernel_rfl, fun w' hS' => by clear hS'; go_simp⟩) hS ?_
              refine wpAnyH_take (i := 6) (v := .pointer (some ⟨gl, i * 4, none⟩)) rfl (by kernel_rfl) (by kernel_rfl) (by kernel_rfl) (fun _ _ _ h => h) (Or.inl ⟨by kernel_rfl, fun w' hS' => by clear hS'; go_simp⟩) hS ?_
              refine wpAnyH_take (i := 7) (v := .agg #[.int .i64 d, .int .i64 c, .string m, .slice (some p) rl rk]) rfl (by kernel_rfl) (by kernel_rfl) (by kernel_rfl) (fun _ _ _ h => h) (Or.inl ⟨by kernel_rfl, fun w' hS' => by obtain ⟨y0, y1, y2, y3⟩ := HXW.out w' hS'; clear hS'; go_simp⟩) hS ?_
              refine wpAnyH_take (i := 9) (v := .slice (some ⟨go, 0, none⟩) i uc) rfl (by kernel_rfl) (by kernel_rfl) (by kernel_rfl) (fun _ _ _ h => h) (Or.inl ⟨by kernel_rfl, fun w' hS' => by clear hS'; go_simp⟩) hS ?_
              refine wpAnyH_take (i := 10) (v := .int .i64 (k : Int)) rfl (by kernel_rfl) (by kernel_rfl) (by kernel_rfl) (fun _ _ _ h => h) (Or.inl ⟨by kernel_rfl, fun w' hS' => by clear hS'; go_simp⟩) hS ?_
              refine wpAnyH_take (i := 11) (v := .slice sa (i - k) (uc - k)) rfl (by kernel_rfl) (by kernel_rfl) (by kernel_rfl) (fun _ _ _ h => h) (Or.inl ⟨by kernel_rfl, fun w' hS' => by clear hS'; go_simp⟩) hS ?_
              refine wpAnyH_ready (rs := [8]) (by kernel_rfl) (by simp) ?_
              refine AllReadyH.cons rfl (fun K hK => ?_) AllReadyH.nil
              go_simp
              have hB1 : Below wc.heap.size wc (wc.alloc (.cells #[.int .i64 d, .int .i64 c, .string m, .slice (some p) rl rk] 44)).drew := ((Below.refl wc.heap.size wc).alloc (Nat.le_refl _) _).drew
              have hO1 : (wc.alloc (.cells #[.int .i64 d, .int .i64 c, .string m, .slice (some p) rl rk] 44)).drew.ownsRow wc.heap.size 44 4 (.slice (some ⟨wc.heap.size, 0, none⟩) 1 1) 1 [.int .i64 d, .int .i64 c, .string m, .slice (some p) rl rk] := World.ownsRow_lit wc #[.int .i64 d, .int .i64 c, .string m, .slice (some p) rl rk] 1 (Nat.le_refl _) (by decide) rfl
              have hs1 : wc.heap.size ≤ (wc.alloc (.cells #[.int .i64 d, .int .i64 c, .string m, .slice (some p) rl rk] 44)).drew.heap.size := hB1.size
              refine hK.out _ _ hB1 (fun hS => ?_)
              clear hK
              generalize (wc.alloc (.cells #[.int .i64 d, .int .i64 c, .string m, .slice (some p) rl rk] 44)).drew = W1 at *
              refine wpAnyH_ready (rs := [12]) (by kernel_rfl) (by simp) ?_
              refine AllReadyH.cons rfl (fun K hK => ?_) AllReadyH.nil
              refine step_append_opt rfl (.tmp 40) (.tmp 43) 26 rfl wc.heap.size 44 i0 (.agg #[.int .i64 0, .int .i64 0, .string ByteArray.empty, .slice none 0 0]) 4 56 Tryz.underlying26 hi hz0 hz1 hz2 rfl (by decide) _ 1 _ rfl hO1 sa (i - k) (uc - k) ((l.drop k).map Q).flatten rfl (fun e => HSA.out.1 (by first | exact e | exact trivial)) HLN1.out.1 (fun b e j u hj => HSA.out.2 W1 hB1 b e j u hj) (HG1.out) (by unfold maxLen; omega) (by omega) hs1 (fun v1 W2 hO2 hg2 => ?_)
              have hB2 : Below wc.heap.size wc W2 := hB1.grown hg2 hs1 (fun g hg => by have e : wc.heap.size = g := Option.some.inj hg; omega)
              refine hK.out _ _ hB2 (fun hS => ?_)
              clear hK
              obtain ⟨g1, c1, rfl⟩ := own4_some hO2 (by omega)
              have hR2 := row_cells9 hO2
              refine wpAnyH_ready (rs := [13]) (by kernel_rfl) (by simp) ?_
              refine AllReadyH.cons rfl (fun K hK => ?_) AllReadyH.nil
              refine step_append_full rfl (.tmp 35) (.tmp 44) 26 rfl 44 i0 (.agg #[.int .i64 0, .int .i64 0, .string ByteArray.empty, .slice none 0 0]) 4 56 Tryz.underlying26 hi hz0 hz1 hz2 rfl (by decide) (some ⟨go, 0, none⟩) k ((l.take k).map Q).flatten rfl (fun e => by cases e) HLN1.out.2 (fun b e j u hj => by cases e; rw [Addr.add_lit, Nat.zero_add]; exact HOLD.out W2 hB2 j u hj) ⟨g1, 0, none⟩ (1 + (i - k)) c1 _ rfl hO2.1 (fun j u hj => by rw [Addr.add_lit, Nat.zero_add]; exact hR2.2 j u hj) HG2.out (by omega) (by unfold maxLen; omega) (by omega) (fun v3 W3 hO3 hg3 => ?_)
              have hB3 : Below wc.heap.size wc W3 := hB2.grown hg3 hB2.size (fun g hg => by cases hg)
              refine hK.out _ _ hB3 (fun hS => ?_)
              clear hK
              obtain ⟨va, vc, rfl⟩ := form4 hO3
              have HI2 := hide (HI.out.step (by rw [HLN.out]; exact hk) HLO.out HHI.out)
              have HO3 : Hid (W3.ownsRow w.heap.size 44 4 (.slice va (i + 1) vc) (i + 1) (((l.take k ++ i :: l.drop k).map Q).flatten)) := by
                show World.ownsRow _ _ _ _ _ _ _
                have e1 : k + (1 + (i - k)) = i + 1 := by omega
                rw [e1] at hO3
                rw [List.map_append, List.map_cons, List.flatten_append, List.flatten_cons, HQI.out]
                exact row4_low hO3 (Nat.le_trans (HB.out.trans (HBC.out.mono HB.out.size)).size hB2.size)
              have HB3 := hide (HB.out.trans ((HBC.out.trans (hB3.mono HBC.out.size)).mono HB.out.size))
              have ek : k + (1 + (i - k)) = i + 1 := by omega
              rw [ek]
              refine wpAnyH_take (i := 14) (v := .slice va (i + 1) vc) rfl (by kernel_rfl) (by kernel_rfl) (by kernel_rfl) (fun _ _ _ h => h) (Or.inl ⟨by kernel_rfl, fun w' hS' => by clear hS'; go_simp⟩) hS ?_
              refine wpAnyH_done (by kernel_rfl) ?_ _
              clear hS hO1 hO2 hO3 hg2 hg3 hB1 hB2 hB3 hR2 hs1 ek
              go_wp2
              go_roundw
              case rel => exact ⟨i + 1, _, va, vc, hlt, rfl, by go_num, HI2, HO3, HB3⟩
              case measure => simp [RowKit.intOf]; omega
    · obtain rfl : i = n := by omega
      go_wp2
      go_ret
      exact ⟨_, l, rfl, HO.out, HI.out, HB.out⟩

end Go.Proofs.YtffnfchekbafmaaGreatDoor

/- Contract: (*Book).All: the records by their days. -/
namespace Go.Proofs.YtffnfchekbafmaaGreatDoor
open Go.RowKit Go.Lib
set_option maxRecDepth 100000
set_option linter.unusedVariables false

/-- The texts in the order of the entries. -/
def reT (A : List (List UInt8)) (n : Nat) (f : TagF Value) : List (List UInt8) := (List.range n).map fun k => A.getD (f k).2 []

theorem reT_length (A : List (List UInt8)) (n : Nat) (f : TagF Value) : (reT A n f).length = n := by unfold reT; rw [List.length_map, List.length_range]

theorem Ents.order {w : World} {xs : List Value} {A : List (List UInt8)} (h : Ents w xs A) {f : TagF Value} (p : Pw xs.length 0 xs.length (tagE xs) f) : Ents w (vls xs.length f) (reT A xs.length f) := by
  refine ⟨by rw [vls_length, reT_length], fun k x T hx hT => ?_⟩
  have hk : k < xs.length := by have := (List.getElem?_eq_some_iff.1 hx).1; rwa [vls_length] at this
  obtain ⟨j, _, hj, e⟩ := p.come k (Nat.zero_le _) hk
  obtain ⟨y, ey, hy⟩ := h.form hj
  have hjA : j < A.length := by rw [← h.1]; exact hj
  rw [vls_get hk, e, tagE_get ey] at hx
  unfold reT at hT
  rw [List.getElem?_map, List.getElem?_range hk] at hT
  simp only [Option.map_some, Option.some.injEq] at hT hx
  rw [e, tagE_get ey, List.getD_eq_getElem?_getD, List.getElem?_eq_getElem hjA] at hT
  simp only [Option.getD_some] at hT
  subst hT
  subst hx
  exact h.2 j _ _ ey (List.getElem?_eq_getElem hjA)

set_option maxHeartbeats 4000000 in
theorem all_ok (p : Nat) (u : Value) (xs : List Value) (A : List (List UInt8)) (w : World) (hp : w.heap[p]? = some (.cells #[u] 36)) (hS : SlAt w u xs) (hE : Ents w xs A) (hn : xs.length ≤ 1000) :
    Calls Tryz.prog 7 #[.pointer (some ⟨p, 0, none⟩)] w fun e w' => ∃ (v' : Value) (qs : List (List Value)) (f' : TagF Value), e = .returned v' ∧ w'.ownsRow w.heap.size 44 4 v' xs.length qs.flatten ∧ Rcs w' qs (reT A xs.length f') ∧ Pw xs.length 0 xs.length (tagE xs) f' ∧ Srd kOf f' 0 xs.length ∧ Below w.heap.size w w' := by
  have HS := hide (byDay_ok p u xs A w hp hS hE (by omega))
  have HE := hide hE
  clear hS hE
  go_enter Tryz.func7, Tryz.ntmps7
  go_wp2_with fail
  refine HS.out.mono ?_
  rintro e9 w1 ⟨v', f', rfl, hO, hP, hR, hB⟩
  have hlen := vls_length xs.length f'
  have hSA : SlAt w1 v' (vls xs.length f') := SlAt.own (by rw [hlen]; exact hO)
  have HRC := hide (records_ok v' (vls xs.length f') (reT A xs.length f') w1 hSA ((HE.out.keep (StrK.of hB)).order hP) (by omega))
  obtain ⟨va, vc, ev⟩ := row_form hO
  subst ev
  have HQ : Hid (Pw xs.length 0 xs.length (tagE xs) f' ∧ Srd kOf f' 0 xs.length ∧ Below w.heap.size w w1) := ⟨hP, hR, hB⟩
  clear hO hP hR hB hSA HS
  go_wp2_with fail
  refine HRC.out.mono ?_
  rintro e8 w2 ⟨u2, qs, rfl, h5, h6, h7⟩
  rw [hlen] at h5
  obtain ⟨ua, uc, eu⟩ := form4 h5
  subst eu
  have HF := hide (show w2.ownsRow w.heap.size 44 4 (.slice ua xs.length uc) xs.length qs.flatten from by
    obtain ⟨k1, k2⟩ := h5
    refine ⟨k1, ?_⟩
    rcases k2 with k2 | ⟨g, cap, cur, hv, hg, r⟩
    · exact Or.inl k2
    · exact Or.inr ⟨g, cap, cur, hv, Nat.le_trans HQ.out.2.2.size hg, r⟩)
  have HG := hide (show Rcs w2 qs (reT A xs.length f') ∧ Below w.heap.size w w2 from ⟨h6, HQ.out.2.2.trans (h7.mono HQ.out.2.2.size)⟩)
  clear h5 h6 h7 HRC
  go_wp2
  go_ret
  exact ⟨_, qs, f', rfl, HF.out, HG.out.1, HQ.out.1, HQ.out.2.1, HG.out.2⟩

end Go.Proofs.YtffnfchekbafmaaGreatDoor

/- Plain: the order of a book's records and the order of the answer's are one. -/
namespace Go.Proofs.YtffnfchekbafmaaGreatDoor
open Go.RowKit Go.Lib
set_option maxRecDepth 100000
set_option linter.unusedVariables false

theorem opn_pre {l : List UInt8} {A : List (List UInt8)} (h : Opn PT l A) : l.take (lns A).length = lns A := by
  induction h with
  | stop _ => rfl
  | @more bs T Ts h1 h2 h3 ih =>
    obtain ⟨q, rfl⟩ := fstL_pre h2
    rw [lns_cons]
    rw [List.drop_left' rfl] at ih
    rw [List.length_append, List.take_append, ← List.take_append]
    rw [List.take_length_add_append, ih]

theorem day_same {w w' : World} {xs : List Value} {qs : List (List Value)} {A : List (List UInt8)} (hE : Ents w xs A) (hR : Rcs w' qs A) {j : Nat} (hj : j < xs.length) : kOf (tagE xs j).1 = kQ (qs.getD j []) := by
  have hjA : j < A.length := by rw [← hE.1]; exact hj
  have hjq : j < qs.length := by rw [hR.1]; exact hjA
  obtain ⟨d, c, m, ring, v, h1, h2, h3, h4⟩ := hE.2 j _ _ (List.getElem?_eq_getElem hj) (List.getElem?_eq_getElem hjA)
  obtain ⟨d', c', m', ring', v', h1', h2', h3', h4'⟩ := hR.2 j _ _ (List.getElem?_eq_getElem hjq) (List.getElem?_eq_getElem hjA)
  obtain ⟨rfl, rfl, rfl, rfl⟩ := txB_inj h1 h1' (h4.symm.trans h4')
  rw [tagE_get (by rw [List.getElem?_eq_getElem hj, h2]), List.getD_eq_getElem?_getD, List.getElem?_eq_getElem hjq, h2']
  rfl

theorem ins_of {w w' : World} {xs : List Value} {qs : List (List Value)} {A : List (List UInt8)} (hE : Ents w xs A) (hR : Rcs w' qs A) {f : TagF Value} (hP : Pw xs.length 0 xs.length (tagE xs) f) (hS : Srd kOf f 0 xs.length) :
    Ins (fun x => kQ (qs.getD x [])) xs.length ((List.range xs.length).map (fun k => (f k).2)) := by
  have hcome : ∀ k, k < xs.length → (f k).2 < xs.length ∧ kOf (f k).1 = kQ (qs.getD (f k).2 []) := fun k hk => by
    obtain ⟨j, _, hj, e⟩ := hP.come k (Nat.zero_le _) hk
    have e2 : (tagE xs j).2 = j := rfl
    rw [e, e2]
    exact ⟨hj, day_same hE hR hj⟩
  refine ⟨?_, ?_⟩
  · have h1 := (hP.perm (fun i j _ _ e => e)).map (fun x => x.2)
    have e1 : (lstF xs.length f).map (fun x => x.2) = (List.range xs.length).map (fun k => (f k).2) := by unfold lstF; rw [List.map_map]; rfl
    have e2 : (lstF xs.length (tagE xs)).map (fun x => x.2) = List.range xs.length := by
      unfold lstF
      rw [List.map_map]
      exact (List.map_congr_left (fun k _ => rfl)).trans (List.map_id _)
    rw [e1, e2] at h1
    exact h1
  · rw [List.pairwise_map]
    have h3 := List.pairwise_lt_range (n := xs.length)
    refine List.Pairwise.imp_of_mem ?_ h3
    intro a b ha hb hab
    have hb2 := List.mem_range.1 hb
    have h4 := hS a b (Nat.zero_le _) hab hb2
    obtain ⟨_, ea⟩ := hcome a (by omega)
    obtain ⟨_, eb⟩ := hcome b hb2
    unfold LtK at h4
    rw [ea, eb] at h4
    exact h4

theorem rcs_map {w : World} {qs : List (List Value)} {A : List (List UInt8)} (hR : Rcs w qs A) {l : List Nat} (hl : ∀ x, x ∈ l → x < A.length) : Rcs w (l.map (fun x => qs.getD x [])) (l.map (fun x => A.getD x [])) := by
  refine ⟨by rw [List.length_map, List.length_map], fun j q T hq hT => ?_⟩
  rw [List.getElem?_map] at hq hT
  cases hj : l[j]? with
  | none => rw [hj] at hq; cases hq
  | some x =>
    have hx := hl x (List.mem_of_getElem? hj)
    have hxq : x < qs.length := by rw [hR.1]; exact hx
    rw [hj] at hq hT
    simp only [Option.map_some, Option.some.injEq] at hq hT
    rw [List.getD_eq_getElem?_getD, List.getElem?_eq_getElem hxq] at hq
    rw [List.getD_eq_getElem?_getD, List.getElem?_eq_getElem hx] at hT
    simp only [Option.getD_some] at hq hT
    exact hR.2 x q T (by rw [List.getElem?_eq_getElem hxq, hq]) (by rw [List.getElem?_eq_getElem hx, hT])

theorem reT_map (A : List (List UInt8)) (n : Nat) (f : TagF Value) : reT A n f = ((List.range n).map (fun k => (f k).2)).map (fun x => A.getD x []) := by
  unfold reT
  rw [List.map_map]
  rfl

end Go.Proofs.YtffnfchekbafmaaGreatDoor
