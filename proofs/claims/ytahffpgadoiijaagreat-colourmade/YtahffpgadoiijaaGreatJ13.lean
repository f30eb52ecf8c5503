/- Joined: KoU, KoF, KoP, KoV, KoW, KoX, KoY, KoZ. -/
import Derived.Test.YtahffpgadoiijaaGreatJ12
import Derived.Test.YtahffpgadoiijaaGreatJ11
import Derived.Maps.AppendAt
import Derived.Test.YtahffpgadoiijaaGreatJ6
import Derived.Test.YtahffpgadoiijaaGreatJ7
import Derived.Test.YtahffpgadoiijaaGreatJ4
/- Contract: the function in Kinds that finds a kind, or puts it in. -/
namespace Go.Proofs.YtahffpgadoiijaaGreat
open Go.RowKit
set_option linter.unusedVariables false

/-- The variable 'kinds', in a box of its own. -/
def BoxK (w : World) (B : Nat) (v : Value) : Prop := w.heap[B]? = some (.cells #[v] 31)

theorem BoxK.cell {w : World} {B : Nat} {v : Value} (h : BoxK w B v) : w.cell? ⟨B, 0, none⟩ = some v ∧ w.frozen? ⟨B, 0, none⟩ = false ∧ B < w.heap.size := by
  unfold BoxK at h
  exact ⟨by simp [World.cell?, h], by simp [World.frozen?, h], (Array.getElem?_eq_some_iff.1 h).1⟩

theorem BoxK.later {w w' : World} {B : Nat} {v : Value} (h : BoxK w B v) (hb : Below w.heap.size w w') : BoxK w' B v := (hb.block B h.cell.2.2).trans h

theorem owns_kept_tyE {w w' : World} {b1 b2 e1 e2 s1 s2 n m : Nat} {u v : Value} {xs ys : List Value} (he : e1 ≠ e2) (h1 : w.ownsRow b1 e1 s1 u n xs) (h2 : w.ownsRow b2 e2 s2 v m ys) (hg : w.grownBy w' v.ownBlock) : w'.ownsRow b1 e1 s1 u n xs := by
  refine h1.kept hg ?_
  rcases h1.2 with ⟨rfl, _⟩ | ⟨g1, c1, cur1, rfl, _, hh1, _⟩
  · exact Or.inl rfl
  · right
    rcases h2.2 with ⟨rfl, _⟩ | ⟨g2, c2, cur2, rfl, _, hh2, _⟩
    · intro e; cases e
    · intro e
      have e' : g1 = g2 := by simpa [Value.ownBlock] using e
      subst e'
      rw [hh1] at hh2
      injection hh2 with hh2
      injection hh2 with _ hh3
      exact he hh3

theorem BoxK.ne {w : World} {B base n : Nat} {v u : Value} {xs : List Value} (h : BoxK w B u) (ho : w.ownsRow base 58 2 v n xs) : some B ≠ v.ownBlock := by
  rcases ho.2 with ⟨rfl, _⟩ | ⟨g2, c2, cur2, rfl, _, hh2, _⟩
  · intro e; cases e
  · intro e
    have e' : B = g2 := by simpa [Value.ownBlock] using e
    subst e'
    unfold BoxK at h
    rw [h] at hh2
    injection hh2 with hh2
    injection hh2 with _ hh3
    exact absurd hh3 (by decide)

theorem owns_sum {w : World} {base e size n : Nat} {v : Value} {xs : List Value} (h : w.ownsRow base e size v n xs) : ∀ k, v.ownBlock = some k → base ≤ k ∧ k < w.heap.size := fun k hk => h.lt k hk

theorem spot_of {Z : List (Value × List Nat × Nat)} {t : List Nat} {j : Nat} (hj : j ≤ Z.length) (hlo : ∀ i, i < j → nlt (kf Z i) t) (hhi : ∀ i, j ≤ i → i < Z.length → ¬ nlt (kf Z i) t) : Spot (Z.map (·.2)) t j := by
  have key : ∀ i p, (Z.map (·.2))[i]? = some p → kf Z i = p.1 ∧ i < Z.length := fun i p h => by
    rw [List.getElem?_map] at h
    cases e : Z[i]? with
    | none => rw [e] at h; cases h
    | some z =>
      rw [e] at h
      injection h with h
      exact ⟨by rw [kf_at e, ← h], (List.getElem?_eq_some_iff.1 e).1⟩
  refine ⟨by rw [List.length_map]; exact hj, fun i p h h2 => ?_, fun i p h h2 => ?_⟩
  · have := hlo i h2; rwa [(key i p h).1] at this
  · have := hhi i h2 (key i p h).2; rwa [(key i p h).1] at this

/-- What 'find' leaves: the place of a kind. -/
def FPost (base B n : Nat) (t : List Nat) (L : List (List Nat)) (w : World) (e : Ending) (w' : World) : Prop :=
  ∃ b cap Z j x m, e = .returned (.pointer (some ⟨b, j * 2, none⟩)) ∧ BoxK w' B (.slice (some ⟨b, 0, none⟩) Z.length cap) ∧ KsAt w' base (.slice (some ⟨b, 0, none⟩) Z.length cap) Z ∧ Z[j]? = some (x, t, m) ∧ KOk ((Z.set j (x, t, m + 1)).map (·.2)) (L ++ [t]) ∧ (∀ z, z ∈ Z → z.2.1.length = n) ∧ Below base w w'

set_option maxRecDepth 20000 in
set_option maxHeartbeats 4000000 in
theorem find_ok (base B n : Nat) (v vT : Value) (Z : List (Value × List Nat × Nat)) (t : List Nat) (L : List (List Nat)) (w : World) (hbx : BoxK w B v) (hbB : base ≤ B) (hZ : KsAt w base v Z) (hT : w.ownsRow base 3 1 vT t.length ((natI t).map (Value.int .i64))) (hK : KOk (Z.map (·.2)) L) (hlen : ∀ z, z ∈ Z → z.2.1.length = n) (htl : t.length = n) (h1 : 1 ≤ n) (hN : Z.length ≤ 5040) :
    Calls Tryz.prog 26 #[vT, .pointer (some ⟨B, 0, none⟩)] w (FPost base B n t L w) := by
  have HBS := hide (bsK_ok base n v vT Z t w hZ (Ints.own hT) hK.sorted hlen htl h1 (by omega))
  obtain ⟨hc, hf, hlt⟩ := hbx.cell
  have hbase : base ≤ w.heap.size := by omega
  have HIn : Hid (∀ (j : Nat) (W : World), j ≤ Z.length → Below w.heap.size w W → Calls Tryz.prog 29 #[v, .int .i64 j, .slice (some ⟨W.heap.size, 0, none⟩) 1 1] (W.alloc (.cells #[vT, .int .i64 0] 58)) (InsKPost base v Z.length (kcells Z) [vT, .int .i64 0] j (W.alloc (.cells #[vT, .int .i64 0] 58)))) := fun j W hj hW => by
    have hb2 : Below w.heap.size w (W.alloc (.cells #[vT, .int .i64 0] 58)) := hW.alloc hW.size _
    have hZ2 := hZ.later hb2
    refine insK_ok base W.heap.size j Z.length v (kcells Z) [vT, .int .i64 0] _ hZ2.row (by omega) (Nat.le_trans hbase hb2.size) (heap_alloc_new W _) rfl (fun u hu => ?_) hZ2.one (fun e => ?_) hj
    · rcases List.mem_cons.1 hu with rfl | hu
      · exact owns_one hT
      · rw [List.mem_singleton] at hu; subst hu; rfl
    · have h5 := (hZ.row.lt _ e).2
      have h6 := hW.size
      omega
  have HFound : Hid (∀ (j : Nat) (W : World), j < Z.length → kf Z j = t → Below w.heap.size w W → ∃ b cap, v = .slice (some ⟨b, 0, none⟩) Z.length cap ∧ Z.length ≤ cap ∧ cap ≤ 9223372036854775807 ∧ FPost base B n t L w (.returned (.pointer (some ⟨b, j * 2, none⟩))) W) := fun j W hj hkf hW => by
    obtain ⟨b, cap, hv, hb1, hb2, hc1, hc2, hcell⟩ := hZ.cell (by omega)
    have hz : Z[j]? = some Z[j] := List.getElem?_eq_getElem hj
    have ht : Z[j].2.1 = t := by rw [← kf_at hz]; exact hkf
    have hz' : Z[j]? = some (Z[j].1, t, Z[j].2.2) := by rw [hz, ← ht]
    refine ⟨b, cap, hv, hc1, hc2, b, cap, Z, j, Z[j].1, Z[j].2.2, rfl, by rw [← hv]; exact hbx.later hW, by rw [← hv]; exact hZ.later hW, hz', ?_, hlen, hW.mono hbase⟩
    rw [List.map_set]
    exact hK.again (by rw [List.getElem?_map, hz']; rfl)
  have HNew : Hid (∀ (j : Nat) (W W' : World) (u : Value), j ≤ Z.length → (∀ i, i < j → nlt (kf Z i) t) → (∀ i, j ≤ i → i < Z.length → ¬ nlt (kf Z i) t) → ¬ (j < Z.length ∧ kf Z j = t) → Below w.heap.size w W → w.heap.size ≤ W.heap.size → W'.ownsRow base 58 2 u (Z.length + 1) ((kcells Z).take (j * 2) ++ [vT, .int .i64 0] ++ (kcells Z).drop (j * 2)) → (W.alloc (.cells #[vT, .int .i64 0] 58)).grownBy W' v.ownBlock →
      ∃ b cap, u = .slice (some ⟨b, 0, none⟩) (Z.length + 1) cap ∧ j < Z.length + 1 ∧ Z.length + 1 ≤ cap ∧ cap ≤ 9223372036854775807 ∧ W'.cell? ⟨B, 0, none⟩ = some v ∧ W'.frozen? ⟨B, 0, none⟩ = false ∧ (W'.setCell ⟨B, 0, none⟩ u).cell? ⟨B, 0, none⟩ = some u ∧ FPost base B n t L w (.returned (.pointer (some ⟨b, j * 2, none⟩))) (W'.setCell ⟨B, 0, none⟩ u)) := fun j W W' u hj hlo hhi hnf hW hWs hu hg => by
    have hb2 : Below w.heap.size w (W.alloc (.cells #[vT, .int .i64 0] 58)) := hW.alloc hW.size _
    have hZ2 := hZ.later hb2
    have hbx2 := hbx.later hb2
    have hbx3 : BoxK W' B v := (hg.block B hbx2.cell.2.2 (hbx2.ne hZ2.row)).trans hbx2
    have hT3 := owns_kept_tyE (by decide) (owns_belowK hT hb2 (Nat.le_refl _)) hZ2.row hg
    obtain ⟨Z', hZ'⟩ : ∃ Z', Z' = Z.take j ++ (vT, t, 0) :: Z.drop j := ⟨_, rfl⟩
    have hkc : kcells Z' = (kcells Z).take (j * 2) ++ [vT, .int .i64 0] ++ (kcells Z).drop (j * 2) := by
      rw [hZ', kcells_append, kcells_take, kcells_drop, List.append_assoc]
      rfl
    have hZl : Z'.length = Z.length + 1 := by rw [hZ', List.length_append, List.length_cons, List.length_take, List.length_drop]; omega
    have hZj : Z'[j]? = some (vT, t, 0) := by
      rw [hZ', List.getElem?_append_right (by rw [List.length_take]; omega), List.length_take, Nat.min_eq_left hj, Nat.sub_self]
      rfl
    rw [← hkc, ← hZl] at hu
    have hmem : ∀ z, z ∈ Z' → z ∈ Z ∨ z = (vT, t, 0) := fun z hz => by
      rw [hZ', List.mem_append, List.mem_cons] at hz
      rcases hz with h | h | h
      · exact Or.inl (List.mem_of_mem_take h)
      · exact Or.inr h
      · exact Or.inl (List.mem_of_mem_drop h)
    rcases hu.2 with ⟨_, h0⟩ | ⟨g, cap, cur, rfl, hb1, hh, hc1, hc2, h5⟩
    · omega
    have hgB : B ≠ g := fun e => by
      subst e
      unfold BoxK at hbx3
      rw [hbx3] at hh
      injection hh with hh
      injection hh with _ hh3
      exact absurd hh3 (by decide)
    have hset : ∀ k, k ≠ B → (W'.setCell ⟨B, 0, none⟩ (.slice (some ⟨g, 0, none⟩) Z'.length cap)).heap[k]? = W'.heap[k]? := fun k hk => Below.heap_setCell W' ⟨B, 0, none⟩ _ k hk
    have hrow : ∀ {e s m : Nat} {x : Value} {xs : List Value}, W'.ownsRow base e s x m xs → e ≠ 31 → (W'.setCell ⟨B, 0, none⟩ (.slice (some ⟨g, 0, none⟩) Z'.length cap)).ownsRow base e s x m xs := fun {e s m x xs} h he => by
      refine ⟨h.1, ?_⟩
      rcases h.2 with h0 | ⟨g2, c2, cur2, rfl, h1, h2, h3⟩
      · exact Or.inl h0
      · refine Or.inr ⟨g2, c2, cur2, rfl, h1, (hset g2 (fun e2 => ?_)).trans h2, h3⟩
        subst e2
        unfold BoxK at hbx3
        rw [hbx3] at h2
        injection h2 with h2
        injection h2 with _ h2
        exact he h2.symm
    have hBW : Below base w (W'.setCell ⟨B, 0, none⟩ (.slice (some ⟨g, 0, none⟩) Z'.length cap)) := ((hb2.mono hbase).grown hg (Nat.le_trans hbase hb2.size) (fun k hk => (hZ.row.lt k hk).1)).setCell hbB _
    have hbx4 : BoxK (W'.setCell ⟨B, 0, none⟩ (.slice (some ⟨g, 0, none⟩) Z'.length cap)) B (.slice (some ⟨g, 0, none⟩) Z'.length cap) := by
      have h9 := heap_setCell_row (o := 0) (v := .slice (some ⟨g, 0, none⟩) Z'.length cap) hbx3
      exact h9
    rw [← hZl]
    refine ⟨g, cap, rfl, by omega, hc1, by unfold maxLen at hc2; omega, hbx3.cell.1, hbx3.cell.2.1, hbx4.cell.1, g, cap, Z', j, vT, 0, rfl, hbx4, ⟨hrow hu (by decide), fun z hz => ?_⟩, hZj, ?_, fun z hz => ?_, hBW⟩
    · rcases hmem z hz with h | h
      · exact hrow (owns_kept_tyE (by decide) (hZ2.all z h) hZ2.row hg) (by decide)
      · subst h; exact hrow hT3 (by decide)
    · have e1 : (Z'.set j (vT, t, 0 + 1)).map (·.2) = (Z.map (·.2)).take j ++ (t, 1) :: (Z.map (·.2)).drop j := by
        rw [hZ', List.set_append_right _ _ (by rw [List.length_take]; omega), List.length_take, Nat.min_eq_left hj, Nat.sub_self, List.set_cons_zero, List.map_append, List.map_cons, List.map_take, List.map_drop]
      rw [e1]
      refine hK.fresh (spot_of hj hlo hhi) (fun m hm => hnf ?_)
      rw [List.getElem?_map] at hm
      cases e : Z[j]? with
      | none => rw [e] at hm; cases hm
      | some z =>
        rw [e] at hm
        injection hm with hm
        exact ⟨(List.getElem?_eq_some_iff.1 e).1, by rw [kf_at e]; exact congrArg Prod.fst hm⟩
    · rcases hmem z hz with h | h
      · exact hlen z h
      · subst h; exact htl
  obtain ⟨p0, c0, e0⟩ := owns_sliceK hZ.row
  obtain ⟨p1, c1, e1⟩ := owns_sliceK hT
  have hvb : ∀ W, Below w.heap.size w W → W.cell? ⟨B, 0, none⟩ = some v ∧ W.frozen? ⟨B, 0, none⟩ = false := fun W hW => ⟨(hbx.later hW).cell.1, (hbx.later hW).cell.2.1⟩
  have HVB := hide hvb
  subst e0; subst e1
  generalize hPP : FPost base B n t L w = PP at *
  generalize hZl : Z.length = N at *
  generalize t.length = tl at *
  clear hbx hZ hT hK hlen htl hbB hbase hPP hZl hvb hf
  go_enter Tryz.func26, Tryz.ntmps26
  go_wp2_with fail
  refine HBS.out.mono ?_
  rintro e w1 ⟨j, rfl, hj, hlo, hhi, hb1⟩
  obtain ⟨hc1, hf1⟩ := HVB.out w1 hb1
  by_cases hfd : j < N ∧ kf Z j = t
  · obtain ⟨b, cap, hv, hx1, hx2, hpost⟩ := HFound.out j w1 hfd.1 hfd.2 hb1
    rw [decide_eq_true hfd]
    simp only [Value.slice.injEq] at hv
    obtain ⟨rfl, _, rfl⟩ := hv
    have hjN := hfd.1
    have HP := hide hpost
    clear hfd hpost HNew HFound HIn hlo hhi HBS HVB
    go_wp2
    exact HP.out
  · have HNf := hide hfd
    rw [decide_eq_false hfd]
    have HI := hide (HIn.out j w1 hj hb1)
    have HB1 := hide hb1
    have HLo := hide hlo
    have HHi := hide hhi
    clear hfd HFound HIn hlo hhi HBS
    go_wp2_with fail
    refine HI.out.mono ?_
    rintro e w2 ⟨u, rfl, hu, hg⟩
    obtain ⟨b, cap, rfl, hj1, hx1, hx2, hk1, hk2, hk3, hpost⟩ := HNew.out j w1 w2 u hj HLo.out HHi.out HNf.out HB1.out HB1.out.size hu hg
    have HP := hide hpost
    clear hu hg hpost HNew HI HVB hb1 hc1 hf1
    go_wp2
    exact HP.out

end Go.Proofs.YtahffpgadoiijaaGreat

/- Contract: colour.know, the walk. -/
namespace Go.Proofs.YtahffpgadoiijaaGreat
open Go.RowKit

set_option maxRecDepth 20000 in
set_option maxHeartbeats 4000000 in
theorem know_ok (n c k D : Nat) (vg : Value) (gss : List (List Int)) (f : Nat → Bool) (w0 w : World) (hK : Dn w D (c ^ n) f) (hA : IntsAll w0 vg gss) (hB0 : Below w0.heap.size w0 w) (hD0 : w0.heap.size ≤ D) (hR : RowsN n gss) (hn1 : 1 ≤ n) (hn : n ≤ 12) (hc1 : 1 ≤ c) (hc8 : c ≤ 8) (hk : k < c ^ n) (hf : f k = false) (hg8 : gss.length ≤ 8) (hAll : c ^ n ≤ 5040) :
    Calls Tryz.prog 79 #[.slice (some ⟨D, 0, none⟩) (c ^ n) (c ^ n), .int .i64 (k : Int), .int .i64 (n : Int), vg, .int .i64 (c : Int)] w fun e w' => KnwPost n c gss k D f w e w' := by
  obtain ⟨j0, hji, hjz0, hjz1, hjz2⟩ := info_parts Tryz.info3
  have hD : D < w.heap.size := (World.ownsRow.lt hK D rfl).2
  obtain ⟨pg, cg, eg⟩ := hA.len
  subst eg
  have HA := hide hA
  have HR := hide hR
  have hcell := hK.cell hk
  have HK1 : Hid (Dn (w.setCell ⟨D, k, none⟩ (.bool true)) D (c ^ n) (fun m => f m || decide (m ∈ [k]))) := (hK.set (m := k) true).congr (fun i _ => by
    by_cases e : i = k
    · subst e; simp
    · rw [if_neg e]; simp [e])
  have HKn : Hid (Knw n c gss k f [k]) := ⟨by simp, fun m hm => by rw [List.mem_singleton.1 hm]; exact Rch.refl, fun m hm => by rw [List.mem_singleton.1 hm]; exact hk, rfl, fun m hm => by rw [List.mem_singleton.1 hm]; exact hf⟩
  have HKR : Hid (KR w ((w.setCell ⟨D, k, none⟩ (.bool true)).alloc (.cells #[.int .i64 (k : Int)] 3)) D (c ^ n) (.slice (some ⟨w.heap.size, 0, none⟩) 1 1) f [k]) := by
    have hsz : (w.setCell ⟨D, k, none⟩ (.bool true)).heap.size = w.heap.size := by simp [World.setCell]
    refine ⟨HK1.out.of_block (Below.heap_alloc _ _ D (by rw [hsz]; exact hD)), ?_, ((Frm.refl _ _ _ _).set k (.bool true)).trans (Frm.of_below ((Below.refl _ _).alloc (Nat.le_refl _) _) (by rw [hsz]; exact Nat.le_refl _))⟩
    have h9 := one_owned (w.setCell ⟨D, k, none⟩ (.bool true)) (k : Int)
    rw [hsz] at h9
    exact h9
  have HSL : Hid (∀ x, x ∈ gss → ∀ m, stp n c x m < c ^ n) := fun x hx m => stp_lt hc1 (hR x hx).2
  have HPL := hide (pow_le12 hc8 hn)
  have hcl := hcell.1
  have hfr := hcell.2
  rw [hf] at hcl
  generalize hgl : gss.length = gl at *
  have HGL := hide hgl
  generalize hAA : c ^ n = A at *
  have HAA := hide hAA
  clear hK hA hR hcell hgl hAA hf HK1
  go_enter Tryz.func79, Tryz.ntmps79
  go_wp2
  go_loopw [10, 11] (fun sv si wr => ∃ (i : Nat) (L : List Nat), i ≤ L.length ∧ si = .int .i64 (i : Int) ∧ Hid (Knw n c gss k f L) ∧ Hid (∀ m y, m < i → L[m]? = some y → ∀ x, x ∈ gss → (f (stp n c x y) || decide (stp n c x y ∈ L)) = true) ∧ KR w wr D A sv f L) (fun _ si _ => A - (intOf si).toNat)
  case atStart => exact ⟨0, [k], by simp, rfl, HKn, fun m y hm => absurd hm (by omega), HKR.out⟩
  case round =>
    clear HKn HKR
    obtain ⟨i, L, hiL, rfl, hKn, hdone, hKR⟩ := hrel
    have hLA : L.length ≤ A := by have := hKn.out.len; rw [HAA.out] at this; exact this
    by_cases hlt : i < L.length
    · obtain ⟨y, hy⟩ : ∃ y, L[i]? = some y := ⟨_, List.getElem?_eq_getElem hlt⟩
      have hyA : y < A := by have := hKn.out.lt y (List.mem_of_getElem? hy); rw [HAA.out] at this; exact this
      obtain ⟨ob, oc, eo, ho1, ho2, ho3, ho4⟩ := owns_form hKR.row (by omega)
      subst eo
      have hcy : wr.cell? ⟨ob, i, none⟩ = some (.int .i64 (y : Int)) := by
        have := hKR.row.cells (g := ob) rfl i (.int .i64 (y : Int)) (by unfold natI; rw [List.getElem?_map, List.getElem?_map, hy]; rfl)
        rw [Addr.add_lit, Nat.zero_add] at this
        exact this
      have HKR1 := hide hKR
      have HY := hide hy
      have HCo := hide (colouring_ok n c y wr hn hc1 hc8 (by have := HPL.out; omega))
      generalize hll : L.length = ll at *
      have HLL := hide hll
      clear hKR hy hll
      go_wp2_with fail
      refine HCo.out.mono ?_
      rintro e w1 ⟨uf, rfl, hown1, hb1⟩
      have HOf := hide hown1
      have HKR2 := hide (HKR1.out.later hD hb1)
      obtain ⟨fb, fc, ef, hf1, hf2, hf3, hf4⟩ := owns_form hown1 hn1
      have hwf : w.heap.size ≤ fb := by have := HKR1.out.frm.size; omega
      subst ef
      clear hown1
      go_wp2
      go_loopw [10, 36] (fun sv sj wi => ∃ (j : Nat) (L' : List Nat), j ≤ gl ∧ sj = .int .i64 (j : Int) ∧ Hid (L'[i]? = some y) ∧ Hid (Knw n c gss k f L') ∧ Hid (∀ m y, m < i → L'[m]? = some y → ∀ x, x ∈ gss → (f (stp n c x y) || decide (stp n c x y ∈ L')) = true) ∧ Hid (∀ m x, m < j → gss[m]? = some x → (f (stp n c x y) || decide (stp n c x y ∈ L')) = true) ∧ Hid (wi.heap[fb]? = w1.heap[fb]? ∧ w1.heap.size ≤ wi.heap.size) ∧ Hid (sv.ownBlock ≠ some fb) ∧ KR w wi D A sv f L') (fun _ sj _ => gl - (intOf sj).toNat)
      case atStart => exact ⟨0, L, Nat.zero_le _, rfl, HY, hKn, hdone, fun m x hm => absurd hm (by omega), ⟨rfl, Nat.le_refl _⟩, (fun e9 => by have h8 : ob = fb := Option.some.inj e9; omega), HKR2.out⟩
      case round =>
        clear HKR1 HKR2 hKn hdone HY HLL HCo hcy
        obtain ⟨j, L2, hj, rfl, hy2, hKn2, hdone2, hgen2, hfb, hne2, hKR2⟩ := hrel
        have hL2A : L2.length ≤ A := by have := hKn2.out.len; rw [HAA.out] at this; exact this
        have hiL2 : i < L2.length := (List.getElem?_eq_some_iff.1 hy2.out).1
        by_cases hjt : j < gl
        · obtain ⟨x, hx⟩ : ∃ x, gss[j]? = some x := ⟨_, List.getElem?_eq_getElem (by rw [HGL.out]; exact hjt)⟩
          have hxm := List.mem_of_getElem? hx
          obtain ⟨hxr, hxl⟩ := HR.out x hxm
          have hbw : Below w0.heap.size w0 wr := hB0.trans (hKR2.frm.below hB0.size hD0 hD0)
          obtain ⟨b0, o0, hpg, hb0, hcg, hNN, bx, ox, cx, hcx, hix, hbx, hncx, _⟩ := (HA.out.below hbw).nth hx hxl hn1
          have HIF : Hid (Ints wr (.slice (some ⟨fb, 0, none⟩) n fc) (natI (colD n c y))) := by
            have h9 := owns_block HOf.out (w' := wr) (fun g hg => by rw [← Option.some.inj hg]; exact hfb.out.1)
            rw [colD_natI]
            exact Ints.own h9
          have HTu := hide (turned_ok c _ _ (colD n c y) x wr HIF.out hix.out hxr (by rw [colD_length]; exact hxl) (by rw [colD_length]; exact hn1) (by rw [colD_length]; exact hn) hc1 hc8 (colD_lt hc1))
          have htA : stp n c x y < A := HSL.out x hxm y
          have hcell := hKR2.known.cell htA
          have hct := hcell.1
          have hft := hcell.2
          obtain ⟨ob2, oc2, eo2, q1, q2, q3, q4⟩ := owns_form hKR2.row (by omega)
          have HX := hide hx
          have HKR3 := hide hKR2
          have HTT : Hid (numC c (trn (colD n c y) x) 0 = stp n c x y) := rfl
          rw [HTT.out] at HTu
          clear hNN
          subst hpg
          subst eo2
          clear hKR2 hx hcell hix hxr hbw HIF
          generalize hl2 : L2.length = l2 at *
          have HL2 := hide hl2
          clear hl2
          generalize hto : stp n c x y = td at *
          have HTO := hide hto
          clear hto HTT
          go_wp2_with fail
          refine HTu.out.mono ?_
          rintro e w3 ⟨rfl, rfl⟩
          by_cases hkn : (f td || decide (td ∈ L2)) = true
          · rw [hkn] at hct
            have HG3 : Hid (∀ m x, m < j + 1 → gss[m]? = some x → (f (stp n c x y) || decide (stp n c x y ∈ L2)) = true) := fun m x' hm hx' => by
              by_cases e : m = j
              · subst e
                have h9 := HX.out
                rw [hx'] at h9
                rw [Option.some.inj h9, HTO.out]
                exact hkn
              · exact hgen2.out m x' (by omega) hx'
            go_wp2
            go_roundw
            case rel =>
              have hfin : ∃ (j' : Nat) (L' : List Nat), j' ≤ gl ∧ Value.int .i64 ((j : Int) + 1) = .int .i64 (j' : Int) ∧ Hid (L'[i]? = some y) ∧ Hid (Knw n c gss k f L') ∧ Hid (∀ m y, m < i → L'[m]? = some y → ∀ x, x ∈ gss → (f (stp n c x y) || decide (stp n c x y ∈ L')) = true) ∧ Hid (∀ m x, m < j' → gss[m]? = some x → (f (stp n c x y) || decide (stp n c x y ∈ L')) = true) ∧ Hid (wr.heap[fb]? = w1.heap[fb]? ∧ w1.heap.size ≤ wr.heap.size) ∧ Hid ((Value.slice (some ⟨ob2, 0, none⟩) l2 oc2).ownBlock ≠ some fb) ∧ KR w wr D A (.slice (some ⟨ob2, 0, none⟩) l2 oc2) f L' := ⟨j + 1, L2, hjt, by go_num, hy2, hKn2, hdone2, HG3, hfb, hne2, HKR3.out⟩
              first
                | exact hfin
                | ((repeat apply Exists.intro); exact ⟨hfin, rfl⟩)
            case measure => simp [intOf]; omega
          · have hkn' : (f td || decide (td ∈ L2)) = false := by simpa using hkn
            rw [hkn'] at hct
            have HOS : Hid ((wr.setCell ⟨D, td, none⟩ (.bool true)).ownsRow w.heap.size 3 1 (.slice (some ⟨ob2, 0, none⟩) l2 oc2) l2 ((natI L2).map (Value.int .i64))) := by
              have h9 := owns_block HKR3.out.row (w' := wr.setCell ⟨D, td, none⟩ (.bool true)) (fun g hg => by
                have h8 : ob2 = g := Option.some.inj hg
                exact Below.heap_setCell _ _ _ _ (fun e9 => by have e8 : g = D := e9; omega))
              rw [HL2.out] at h9
              exact h9
            have HSZ : Hid ((wr.setCell ⟨D, td, none⟩ (.bool true)).heap.size = wr.heap.size) := by unfold Hid; simp [World.setCell]
            have HBL : Hid ((wr.setCell ⟨D, td, none⟩ (.bool true)).heap[fb]? = wr.heap[fb]?) := Below.heap_setCell _ _ _ _ (fun e9 => by have e8 : fb = D := e9; omega)
            have HKn3 : Hid (Knw n c gss k f (L2 ++ [td])) := by
              have h9 := hKn2.out.more hc1 hxm hxl (List.mem_of_getElem? hy2.out) (by rw [HTO.out]; exact hkn')
              rw [HTO.out] at h9
              exact h9
            have HMN : Hid (∀ z, (f z || decide (z ∈ L2)) = true → (f z || decide (z ∈ L2 ++ [td])) = true) := fun z hz => by
              simp at hz ⊢
              rcases hz with hz | hz
              · exact Or.inl hz
              · exact Or.inr (Or.inl hz)
            have HD3 : Hid (∀ m y, m < i → (L2 ++ [td])[m]? = some y → ∀ x, x ∈ gss → (f (stp n c x y) || decide (stp n c x y ∈ L2 ++ [td])) = true) := fun m y' hm hy' x' hx' => HMN.out _ (hdone2.out m y' hm (by rw [List.getElem?_append_left (by rw [HL2.out]; omega)] at hy'; exact hy') x' hx')
            have HG3 : Hid (∀ m x, m < j + 1 → gss[m]? = some x → (f (stp n c x y) || decide (stp n c x y ∈ L2 ++ [td])) = true) := fun m x' hm hx' => by
              by_cases e : m = j
              · subst e
                have h9 := HX.out
                rw [hx'] at h9
                rw [Option.some.inj h9, HTO.out]
                simp
              · exact HMN.out _ (hgen2.out m x' (by omega) hx')
            have HY3 : Hid ((L2 ++ [td])[i]? = some y) := by
              unfold Hid
              rw [List.getElem?_append_left (by rw [HL2.out]; exact hiL2)]
              exact hy2.out
            have HSB := hide (Nat.le_trans HKR3.out.frm.size (Nat.le_refl _))
            go_wp2_with (at_builtin; refine wpList_append_own_at _ rfl _ _ 22 rfl w.heap.size 3 j0 (.int .i64 0) 1 8 Tryz.underlying22 hji hjz0 hjz1 hjz2 rfl (by decide) _ _ _ rfl (HOS.out.alloc _) ⟨wr.heap.size, 0, none⟩ 1 1 [.int .i64 (td : Int)] rfl rfl ?c1 ?c2 ?c3 ?c4 ?c5 ?_)
            case c1 =>
              have h9 := cell_one_new (wr.setCell ⟨D, td, none⟩ (.bool true)) (.int .i64 (td : Int)) 3
              rw [HSZ.out] at h9
              exact h9
            case c2 => intro u hu; simp at hu; subst hu; rfl
            case c3 => unfold maxLen; have := HPL.out; omega
            case c4 => have := HPL.out; omega
            case c5 => have := HSB.out; have := HSZ.out; simp; omega
            intro v8 w8 hown8 hg8 _ hat8
            have HKR8 := hide (HKR3.out.more hD (by rw [HL2.out]; exact hown8) hg8)
            have HF8 : Hid (w8.heap[fb]? = w1.heap[fb]? ∧ w1.heap.size ≤ w8.heap.size) := by
              have h1 := hfb.out.2
              have h2 := HSZ.out
              have h3 := hg8.size
              refine ⟨(hg8.block fb (by simp; omega) (fun e9 => hne2.out e9.symm)).trans ((Below.heap_alloc _ _ fb (by omega)).trans (HBL.out.trans hfb.out.1)), ?_⟩
              simp at h3
              omega
            have HN8 : Hid (v8.ownBlock ≠ some fb) := fun e9 => by
              have h1 := hfb.out.2
              have h2 := HSZ.out
              rcases hat8 with h | h
              · exact hne2.out (h.symm.trans e9)
              · rw [e9] at h
                have h3 := Option.some.inj h
                have h4 : (wr.setCell ⟨D, td, none⟩ (.bool true)).heap.size ≤ ((wr.setCell ⟨D, td, none⟩ (.bool true)).alloc (.cells #[.int .i64 (td : Int)] 3)).heap.size := by simp
                have h5 := h3
                clear h h3
                first | omega | (simp only [World.alloc, Array.size_push] at h4 h5; omega) | (have h6 : fb = ((wr.setCell ⟨D, td, none⟩ (.bool true)).alloc (.cells #[.int .i64 (td : Int)] 3)).heap.size := h5; omega)
            clear hown8 hg8 hat8
            go_wp2
            go_roundw
            case rel =>
              have hfin : ∃ (j' : Nat) (L' : List Nat), j' ≤ gl ∧ Value.int .i64 ((j : Int) + 1) = .int .i64 (j' : Int) ∧ Hid (L'[i]? = some y) ∧ Hid (Knw n c gss k f L') ∧ Hid (∀ m y, m < i → L'[m]? = some y → ∀ x, x ∈ gss → (f (stp n c x y) || decide (stp n c x y ∈ L')) = true) ∧ Hid (∀ m x, m < j' → gss[m]? = some x → (f (stp n c x y) || decide (stp n c x y ∈ L')) = true) ∧ Hid (w8.heap[fb]? = w1.heap[fb]? ∧ w1.heap.size ≤ w8.heap.size) ∧ Hid (v8.ownBlock ≠ some fb) ∧ KR w w8 D A v8 f L' := ⟨j + 1, L2 ++ [td], hjt, by go_num, HY3, HKn3, HD3, HG3, HF8, HN8, HKR8.out⟩
              first
                | exact hfin
                | ((repeat apply Exists.intro); exact ⟨hfin, rfl⟩)
            case measure => simp [intOf]; omega
        · have hje : j = gl := by omega
          subst hje
          have HD4 : Hid (∀ m y, m < i + 1 → L2[m]? = some y → ∀ x, x ∈ gss → (f (stp n c x y) || decide (stp n c x y ∈ L2)) = true) := fun m y' hm hy' x' hx' => by
            by_cases e : m = i
            · subst e
              have h9 := hy2.out
              rw [hy'] at h9
              rw [Option.some.inj h9]
              obtain ⟨q, hq, eq⟩ := List.getElem_of_mem hx'
              exact hgen2.out q x' (by rw [← HGL.out]; exact hq) (by rw [List.getElem?_eq_getElem hq, eq])
            · exact hdone2.out m y' (by omega) hy' x' hx'
          have HKR4 := hide hKR2
          clear hKR2
          go_wp2
          go_roundw
          case rel =>
            have hfin : ∃ (i' : Nat) (L' : List Nat), i' ≤ L'.length ∧ Value.int .i64 ((i : Int) + 1) = .int .i64 (i' : Int) ∧ Hid (Knw n c gss k f L') ∧ Hid (∀ m y, m < i' → L'[m]? = some y → ∀ x, x ∈ gss → (f (stp n c x y) || decide (stp n c x y ∈ L')) = true) ∧ KR w wr D A u10 f L' := ⟨i + 1, L2, hiL2, by go_num, hKn2, HD4, HKR4.out⟩
            first
              | exact hfin
              | ((repeat apply Exists.intro); exact ⟨hfin, rfl⟩)
          case measure => simp [intOf]; omega
    · have hie : i = L.length := by omega
      have HP : Hid (KnwPost n c gss k D f w (.returned (.tuple #[])) wr) := ⟨L, rfl, hKn.out, by rw [HAA.out]; exact hKR.known, fun m hm x hx => by
        obtain ⟨j, hj, e⟩ := List.getElem_of_mem hm
        exact hdone.out j m (by omega) (by rw [List.getElem?_eq_getElem hj, e]) x hx, hKR.frm⟩
      obtain ⟨pv, cv, ev⟩ := owns_slice hKR.row
      subst ev
      generalize L.length = ll at *
      clear hKR hdone hKn
      go_wp2
      exact bodyPost_end (results_none rfl _ _ _) rfl HP.out

end Go.Proofs.YtahffpgadoiijaaGreat

/- Contract: colour.firsts. -/
namespace Go.Proofs.YtahffpgadoiijaaGreat
open Go.RowKit

/-- The first ones of the first so many. -/
noncomputable def frN (n c : Nat) (gss : List (List Int)) (A : Nat) : List Nat := open Classical in (List.range A).filter (fun k => decide (¬ ∃ m, m < k ∧ Rch n c gss m k))

theorem frN_yes {n c k : Nat} {gss : List (List Int)} (h : ¬ ∃ m, m < k ∧ Rch n c gss m k) : frN n c gss (k + 1) = frN n c gss k ++ [k] := by
  unfold frN
  rw [List.range_succ, List.filter_append, List.filter_cons_of_pos (by simpa using h), List.filter_nil]

theorem frN_no {n c k : Nat} {gss : List (List Int)} (h : ∃ m, m < k ∧ Rch n c gss m k) : frN n c gss (k + 1) = frN n c gss k := by
  unfold frN
  rw [List.range_succ, List.filter_append, List.filter_cons_of_neg (by simpa using h), List.filter_nil, List.append_nil]

theorem frN_len (n c : Nat) (gss : List (List Int)) (k : Nat) : (frN n c gss k).length ≤ k := by
  unfold frN
  exact Nat.le_trans (List.length_filter_le _ _) (by rw [List.length_range]; exact Nat.le_refl _)

theorem frN_eq {n c : Nat} {gss : List (List Int)} {X : List Pm} (h12 : n ≤ 12) (hc : 1 ≤ c) (hR : RowsN n gss) (hX : X.Nodup) (hm : ∀ x, x ∈ X ↔ Gen (fun y => y ∈ gss.map pad) x) : frN n c gss (c ^ n) = (List.range (c ^ n)).filter (frst X (sC n c)) := by
  unfold frN
  refine List.filter_congr (fun k hk => ?_)
  have h := first_iff h12 hc hR hX hm (List.mem_range.1 hk)
  rw [Bool.eq_iff_iff, h]
  simp

theorem known_step {n c k : Nat} {gss : List (List Int)} {f : Nat → Bool} {L : List Nat} (hc : 1 ≤ c) (hR : RowsN n gss) (hk : k < c ^ n) (hf : ∀ m, m < c ^ n → (f m = true ↔ ∃ j, j < k ∧ Rch n c gss j m)) (hL : Knw n c gss k f L) (hcl : ∀ m, m ∈ L → ∀ x, x ∈ gss → (f (stp n c x m) || decide (stp n c x m ∈ L)) = true) :
    ∀ m, m < c ^ n → ((f m || decide (m ∈ L)) = true ↔ ∃ j, j < k + 1 ∧ Rch n c gss j m) := by
  have key : ∀ m, Rch n c gss k m → (f m || decide (m ∈ L)) = true := by
    intro m h
    induction h with
    | refl => rw [decide_eq_true (List.mem_of_getElem? hL.first), Bool.or_true]
    | step hp hx ih =>
      rename_i q x
      rcases Bool.or_eq_true_iff.1 ih with h1 | h1
      · have hq := hp.lt hc hR hk
        obtain ⟨j, hj, hr⟩ := (hf q hq).1 h1
        have h2 := (hf _ (stp_lt hc (hR x hx).2)).2 ⟨j, hj, Rch.step hr hx⟩
        rw [h2, Bool.true_or]
      · exact hcl q (of_decide_eq_true h1) x hx
  intro m hm
  constructor
  · intro h
    rcases Bool.or_eq_true_iff.1 h with h1 | h1
    · obtain ⟨j, hj, hr⟩ := (hf m hm).1 h1
      exact ⟨j, by omega, hr⟩
    · exact ⟨k, by omega, hL.rch m (of_decide_eq_true h1)⟩
  · rintro ⟨j, hj, hr⟩
    by_cases e : j = k
    · subst e; exact key m hr
    · rw [(hf m hm).2 ⟨j, by omega, hr⟩, Bool.true_or]

theorem llFrm {w w' : World} {base : Nat} {v : Value} {vs : List Value} {xss : List (List Int)} (h : LL w base v vs xss) (hb : ∀ b, base ≤ b → b < w.heap.size → w'.heap[b]? = w.heap[b]?) : LL w' base v vs xss :=
  ⟨owns_block h.row (fun g hg => hb g (h.row.lt g hg).1 (h.row.lt g hg).2), h.all.mono (fun _ _ _ h' => owns_block h' (fun g hg => hb g (h'.lt g hg).1 (h'.lt g hg).2))⟩

set_option maxRecDepth 20000 in
set_option maxHeartbeats 4000000 in
theorem firsts_ok (n c : Nat) (vg : Value) (gss : List (List Int)) (w : World) (hA : IntsAll w vg gss) (hR : RowsN n gss) (hn1 : 1 ≤ n) (hn : n ≤ 12) (hc8 : c ≤ 8) (hg8 : gss.length ≤ 8) (hAll : c ^ n ≤ 5040) :
    Calls Tryz.prog 61 #[.int .i64 (n : Int), vg, .int .i64 (c : Int), .int .i64 ((c ^ n : Nat) : Int)] w fun e w' => ∃ v vs, e = .returned v ∧ LL w' w.heap.size v vs ((frN n c gss (c ^ n)).map (colL n c)) ∧ Below w.heap.size w w' := by
  obtain ⟨i0, hi, hz0, hz1, hz2⟩ := info_parts Tryz.info22
  obtain ⟨j0, hji, hjz0, hjz1, hjz2⟩ := info_parts Tryz.info4
  have HC1 : Hid (∀ k, k < c ^ n → 1 ≤ c) := fun k hk => by
    rcases Nat.eq_zero_or_pos c with e | e
    · rw [e, Nat.zero_pow (by omega)] at hk; omega
    · exact e
  have HKn : Hid (∀ (k : Nat) (f : Nat → Bool) (W : World), Dn W w.heap.size (c ^ n) f → Below w.heap.size w W → k < c ^ n → f k = false → Calls Tryz.prog 79 #[.slice (some ⟨w.heap.size, 0, none⟩) (c ^ n) (c ^ n), .int .i64 (k : Int), .int .i64 (n : Int), vg, .int .i64 (c : Int)] W fun e w' => KnwPost n c gss k w.heap.size f W e w') := fun k f W h1 h2 h3 h4 => know_ok n c k w.heap.size vg gss f w W h1 hA h2 (Nat.le_refl _) hR hn1 hn (HC1.out k h3) hc8 h3 h4 hg8 hAll
  have HCo : Hid (∀ (k : Nat) (W : World), k < c ^ n → Calls Tryz.prog 78 #[.int .i64 (k : Int), .int .i64 (n : Int), .int .i64 (c : Int)] W fun e w' => ∃ u, e = .returned u ∧ w'.ownsRow W.heap.size 3 1 u n ((colL n c k).map (Value.int .i64)) ∧ Below W.heap.size W w') := fun k W hk => colouring_ok n c k W hn (HC1.out k hk) hc8 (by omega)
  have HST : Hid (∀ k f L, k < c ^ n → (∀ m, m < c ^ n → (f m = true ↔ ∃ j, j < k ∧ Rch n c gss j m)) → Knw n c gss k f L → (∀ m, m ∈ L → ∀ x, x ∈ gss → (f (stp n c x m) || decide (stp n c x m ∈ L)) = true) → ∀ m, m < c ^ n → ((f m || decide (m ∈ L)) = true ↔ ∃ j, j < k + 1 ∧ Rch n c gss j m)) := fun k f L h1 h2 h3 h4 => known_step (HC1.out k h1) hR h1 h2 h3 h4
  have HSK : Hid (∀ k, k < c ^ n → (∃ j, j < k ∧ Rch n c gss j k) → ∀ m, m < c ^ n → ((∃ j, j < k ∧ Rch n c gss j m) ↔ ∃ j, j < k + 1 ∧ Rch n c gss j m)) := fun k hk hx m hm => by
    constructor
    · rintro ⟨j, hj, hr⟩; exact ⟨j, by omega, hr⟩
    · rintro ⟨j, hj, hr⟩
      by_cases e : j = k
      · subst e
        obtain ⟨q, hq, hrq⟩ := hx
        refine ⟨q, hq, ?_⟩
        clear hm
        induction hr with
        | refl => exact hrq
        | step _ hy ih => exact Rch.step ih hy
      · exact ⟨j, by omega, hr⟩
  obtain ⟨pg, cg, eg⟩ := hA.len
  subst eg
  generalize hAA : c ^ n = A at *
  generalize hgl : gss.length = gl at *
  have HAA := hide hAA
  clear hA hR hAA hgl HC1
  go_enter Tryz.func61, Tryz.ntmps61
  go_wp2_with (at_make; refine wpList_make_full _ rfl _ _ 107 rfl w.heap.size 4 j0 (.bool false) 1 Tryz.underlying107 hji hjz0 hjz1 _ _ _ _ A rfl rfl (by omega) (by omega) ?b2 ?b3 (Nat.le_refl _) ?_)
  case b2 => rw [hjz2]; omega
  case b3 => unfold maxLen; omega
  intro w1 hown1 hg1
  rw [made_bools] at hown1
  have HD1 : Hid (Dn w1 w.heap.size A (fun _ => false)) := hown1
  have HB1 : Hid (Below w.heap.size w w1) := (Below.refl _ _).grown hg1 (Nat.le_refl _) (fun k h => by cases h)
  have HS1 : Hid (w.heap.size + 1 ≤ w1.heap.size) := (World.ownsRow.lt hown1 w.heap.size rfl).2
  clear hown1 hg1
  go_wp2
  go_loopw [10, 15] (fun sv si wr => ∃ (k : Nat) (f : Nat → Bool) (vs : List Value), k ≤ A ∧ si = .int .i64 (k : Int) ∧ Hid (Dn wr w.heap.size A f) ∧ Hid (∀ m, m < A → (f m = true ↔ ∃ j, j < k ∧ Rch n c gss j m)) ∧ Hid (LL wr (w.heap.size + 1) sv vs ((frN n c gss k).map (colL n c))) ∧ Hid (w.heap.size + 1 ≤ wr.heap.size) ∧ Below w.heap.size w wr) (fun _ si _ => A - (intOf si).toNat)
  case atStart => exact ⟨0, _, [], Nat.zero_le _, rfl, HD1, (fun m _ => ⟨(fun h => by cases h), (fun h => by obtain ⟨j, hj, _⟩ := h; exact absurd hj (by omega))⟩), LL.nil _ _, HS1, HB1.out⟩
  case round =>
    clear HD1 HB1 HS1
    obtain ⟨k, f, vs, hk, rfl, hD, hf, hL, hS, hbm⟩ := hrel
    by_cases hlt : k < A
    · have hcell := hD.out.cell hlt
      obtain ⟨fk, hfk⟩ : ∃ fk, fk = f k := ⟨_, rfl⟩
      have hcl := hcell.1
      rw [← hfk] at hcl
      obtain ⟨pv, cv, ev⟩ := owns_slice hL.out.row
      subst ev
      have hvl : vs.length ≤ A := by
        have h9 := hL.out.len
        rw [List.length_map] at h9
        have h8 := frN_len n c gss k
        omega
      have HFK := hide hfk
      generalize hvn : vs.length = vn at *
      have HVN := hide hvn
      clear hcell hfk hvn
      cases fk with
      | true =>
        have hex := (hf.out k hlt).1 HFK.out.symm
        have HF2 : Hid (∀ m, m < A → (f m = true ↔ ∃ j, j < k + 1 ∧ Rch n c gss j m)) := fun m hm => (hf.out m hm).trans (HSK.out k hlt hex m hm)
        have HL2 : Hid (LL wr (w.heap.size + 1) (.slice pv vn cv) vs ((frN n c gss (k + 1)).map (colL n c))) := by rw [frN_no hex]; exact hL.out
        clear hex hf hL HFK
        go_wp2
        go_roundw
        case rel => exact ⟨k + 1, f, vs, hlt, by go_num, hD, HF2, HL2, hS, hbm⟩
        case measure => simp [intOf]; omega
      | false =>
        have hno : ¬ ∃ j, j < k ∧ Rch n c gss j k := fun h => by
          have h9 := (hf.out k hlt).2 h
          rw [← HFK.out] at h9
          cases h9
        have HFr := hide (frN_yes hno)
        have HC := hide (HCo.out k wr hlt)
        have HBM := hide hbm
        clear hno hbm
        go_wp2_with fail
        refine HC.out.mono ?_
        rintro e w2 ⟨u2, rfl, hown2, hb2⟩
        have HL2 := hide (hL.out.below hb2)
        have HO2 := hide (owns_base hown2 hS.out)
        obtain ⟨p2, c2, e2⟩ := owns_slice hown2
        subst e2
        have hrow2 := HL2.out.row
        rw [HVN.out] at hrow2
        have hB2 : Below w.heap.size w w2 := HBM.out.trans (hb2.mono HBM.out.size)
        have hS2 : w.heap.size + 1 ≤ w2.heap.size := Nat.le_trans hS.out hb2.size
        have HD2 : Hid (Dn w2 w.heap.size A f) := hD.out.of_block (hb2.block _ (by have := hS.out; omega))
        have HCL : Hid ((colL n c k).length = n) := colL_length n c k
        clear hown2 hb2 HC hL hD HBM
        go_wp2_with (at_builtin; refine wpList_append_own _ rfl _ _ 25 rfl (w.heap.size + 1) 22 i0 (.slice none 0 0) 1 24 Tryz.underlying25 hi hz0 hz1 hz2 rfl (by decide) _ _ _ rfl (hrow2.alloc _) ⟨w2.heap.size, 0, none⟩ 1 1 [.slice p2 n c2] rfl rfl ?c1 ?c2 ?c3 ?c4 ?c5 ?_)
        case c1 => exact cell_one_new _ _ _
        case c2 => intro u hu; simp at hu; subst hu; rfl
        case c3 => unfold maxLen; omega
        case c4 => omega
        case c5 => simp; omega
        intro v4 w4 hown4 hg4 _
        have HL4 : Hid (LL w4 (w.heap.size + 1) v4 (vs ++ [.slice p2 n c2]) ((frN n c gss (k + 1)).map (colL n c))) := by
          show LL _ _ _ _ _
          rw [HFr.out, List.map_append]
          exact HL2.out.push (by rw [HCL.out]; exact HO2.out) (by rw [HVN.out]; exact hown4) hg4
        have hB4 := HL2.out.step hB2 (Nat.le_succ _) (by omega) hg4
        have HD4 : Hid (Dn w4 w.heap.size A f) := by
          refine HD2.out.of_block ((hg4.block w.heap.size (by simp; omega) (fun e9 => ?_)).trans (Below.heap_alloc _ _ w.heap.size (by omega)))
          have := (hrow2.lt _ e9.symm).1
          omega
        have HS4 : Hid (w.heap.size + 1 ≤ w4.heap.size) := by
          have := hg4.size
          simp at this
          show _ ≤ _
          omega
        have HK4 := hide (HKn.out k f w4 HD4.out hB4 hlt HFK.out.symm)
        have HB4 := hide hB4
        have hrow4 := HL4.out.row
        rw [List.length_append, List.length_singleton, HVN.out] at hrow4
        obtain ⟨p4, c4, e4⟩ := owns_slice hrow4
        subst e4
        clear hrow4 hown4 hg4 hrow2 HD2 HL2 hB2 hB4
        go_wp2_with fail
        refine HK4.out.mono ?_
        rintro e w5 ⟨L, rfl, hKn, hD5, hcl5, hF5⟩
        rw [HAA.out] at hD5
        have HD5 := hide hD5
        have HF5 := hide (HST.out k f L hlt hf.out hKn hcl5)
        have HL5 : Hid (LL w5 (w.heap.size + 1) (.slice p4 (vn + 1) c4) (vs ++ [Value.slice p2 n c2]) ((frN n c gss (k + 1)).map (colL n c))) := llFrm HL4.out (fun b h1 h2 => hF5.block b h2 (by omega) (by omega))
        have HB5 := hide (HB4.out.trans (hF5.below HB4.out.size (Nat.le_refl _) (Nat.le_refl _)))
        have HS5 : Hid (w.heap.size + 1 ≤ w5.heap.size) := Nat.le_trans HS4.out hF5.size
        clear hKn hD5 hcl5 hF5 HK4 HL4 HB4 HD4
        go_wp2
        go_roundw
        case rel => exact ⟨k + 1, _, _, hlt, by go_num, HD5, HF5, HL5, HS5, HB5.out⟩
        case measure => simp [intOf]; omega
    · obtain rfl : A = k := by omega
      have HL2 := hide (hL.out.low (Nat.le_succ _))
      obtain ⟨pv, cv, ev⟩ := owns_slice hL.out.row
      subst ev
      generalize vs.length = vn at *
      clear hL hf hD
      go_wp2
      go_ret
      exact ⟨_, _, rfl, HL2.out, hbm⟩

end Go.Proofs.YtahffpgadoiijaaGreat

/- Contract: colour.Kinds. -/
namespace Go.Proofs.YtahffpgadoiijaaGreat
open Go.RowKit
set_option linter.unusedVariables false

theorem owns_setE {w : World} {base e s g n cap m : Nat} {xs : List Value} (h : w.ownsRow base e s (.slice (some ⟨g, 0, none⟩) n cap) n xs) (u : Value) :
    (w.setCell ⟨g, m, none⟩ u).ownsRow base e s (.slice (some ⟨g, 0, none⟩) n cap) n (xs.set m u) := by
  obtain ⟨h1, h2⟩ := h
  refine ⟨by rw [List.length_set]; exact h1, ?_⟩
  rcases h2 with ⟨h2, _⟩ | ⟨g', cap', cur, hv, hb, hh, hn, hx, hs, ht⟩
  · cases h2
  · injection hv with e1 _ e3
    injection e1 with e1
    injection e1 with e1
    subst e1; subst e3
    refine Or.inr ⟨g, cap, cur.setIfInBounds m u, rfl, hb, ?_, hn, hx, by simpa using hs, ?_⟩
    · simp [World.setCell, Array.getElem?_modify, hh]
    · rw [Array.toList_setIfInBounds, List.take_set, ht]

theorem owns_setC {w : World} {b1 b2 e1 e2 s1 s2 n k c m : Nat} {g : Nat} {u : Value} {xs ys : List Value} (he : e1 ≠ e2) (h1 : w.ownsRow b1 e1 s1 u n xs) (h2 : w.ownsRow b2 e2 s2 (.slice (some ⟨g, 0, none⟩) k c) k ys) (x : Value) : (w.setCell ⟨g, m, none⟩ x).ownsRow b1 e1 s1 u n xs := by
  refine ⟨h1.1, ?_⟩
  rcases h1.2 with h0 | ⟨g1, c1, cur1, rfl, a1, hh1, a2⟩
  · exact Or.inl h0
  · rcases h2.2 with ⟨h9, _⟩ | ⟨g2, c2, cur2, hv, _, hh2, _⟩
    · cases h9
    · injection hv with e1' _ e3
      injection e1' with e1'
      injection e1' with e1'
      subst e1'
      refine Or.inr ⟨g1, c1, cur1, rfl, a1, (Below.heap_setCell w _ x g1 (fun e => ?_)).trans hh1, a2⟩
      have e' : g1 = g := e
      subst e'
      rw [hh1] at hh2
      injection hh2 with hh2
      injection hh2 with _ hh3
      exact he hh3

theorem KsAt.put {w : World} {base b cap j m' : Nat} {Z : List (Value × List Nat × Nat)} {z : Value × List Nat × Nat} (h : KsAt w base (.slice (some ⟨b, 0, none⟩) Z.length cap) Z) (hz : Z[j]? = some z) : KsAt (w.setCell ⟨b, j * 2 + 1, none⟩ (.int .i64 (m' : Int))) base (.slice (some ⟨b, 0, none⟩) (Z.set j (z.1, z.2.1, m')).length cap) (Z.set j (z.1, z.2.1, m')) := by
  refine ⟨?_, fun y hy => ?_⟩
  · rw [← kcells_set m' hz, List.length_set]
    exact owns_setE h.row _
  · have key : ∀ x, x ∈ Z → (w.setCell ⟨b, j * 2 + 1, none⟩ (.int .i64 (m' : Int))).ownsRow base 3 1 x.1 x.2.1.length ((natI x.2.1).map (Value.int .i64)) := fun x hx => owns_setC (by decide) (h.all x hx) h.row _
    rcases List.mem_or_eq_of_mem_set hy with h1 | h1
    · exact key y h1
    · subst h1
      exact key z (List.mem_of_getElem? hz)

theorem BoxK.put {w : World} {B b m n c base : Nat} {v x : Value} {xs : List Value} (h : BoxK w B v) (ho : w.ownsRow base 58 2 (.slice (some ⟨b, 0, none⟩) n c) n xs) : BoxK (w.setCell ⟨b, m, none⟩ x) B v := by
  have hne := h.ne ho
  exact (Below.heap_setCell w _ x B (fun e => hne (by show some B = some b; rw [show B = b from e]))).trans h

/-- What Kinds leaves. -/
def KdPost (n : Nat) (gss : List (List Int)) (w : World) (e : Ending) (w' : World) : Prop :=
  Below w.heap.size w w' ∧ if 5040 < sz (Gen (fun y => y ∈ gss.map pad)) n then e = .returned (.tuple #[.slice none 0 0, .int .i64 3]) else
    ∃ (v : Value) (Z : List (Value × List Nat × Nat)) (X : List Pm), e = .returned (.tuple #[v, .int .i64 0]) ∧ KsAt w' w.heap.size v Z ∧ KOk (Z.map (·.2)) (X.map (fun x => kl (cut n x))) ∧ (∀ z, z ∈ Z → z.2.1.length = n) ∧ X.length = sz (Gen (fun y => y ∈ gss.map pad)) n ∧ X.Nodup ∧ ∀ x, x ∈ X ↔ Gen (fun y => y ∈ gss.map pad) x

theorem KsAt.low {w : World} {base base' : Nat} {v : Value} {Z : List (Value × List Nat × Nat)} (h : KsAt w base v Z) (hb : base' ≤ base) : KsAt w base' v Z :=
  ⟨ownsE_low h.row hb, fun z hz => ownsE_low (h.all z hz) hb⟩

set_option maxRecDepth 20000 in
set_option maxHeartbeats 4000000 in
theorem kinds_ok (n : Nat) (v : Value) (gss : List (List Int)) (w : World) (hA : IntsAll w v gss) (hR : RowsN n gss) (h1 : 1 ≤ n) (h12 : n ≤ 12) (h8 : gss.length ≤ 8) :
    Calls Tryz.prog 9 #[.int .i64 n, v] w (KdPost n gss w) := by
  have HMk := hide (make_ok n v gss w hA h1 h12 h8 hR)
  have HEl : Hid (∀ u W, GroupAt W u n (gss.map pad) → Calls Tryz.prog 25 #[u] W fun e w' => ElPost n (gss.map pad) W e w') := fun u W hG => elements_ok n u (gss.map pad) W h12 hG
  have HFix : Hid (∀ x, Gen (fun y => y ∈ gss.map pad) x → Fixes (fun b => n ≤ b) x) := fun x hx => gens_fix h12 hR hx
  have HPP : Hid (∀ e w', KdPost n gss w e w' ↔ KdPost n gss w e w') := fun _ _ => Iff.rfl
  obtain ⟨pv, cv, ev⟩ := hA.len
  subst ev
  generalize gss.length = gl at *
  clear hA hR
  by_cases hbig : 5040 < sz (Gen (fun y => y ∈ gss.map pad)) n
  · have HF : Hid (∀ w', Below w.heap.size w w' → KdPost n gss w (.returned (.tuple #[.slice none 0 0, .int .i64 3])) w') := fun w' hb => ⟨hb, by rw [if_pos hbig]⟩
    have HEP : Hid (∀ W e w', ElPost n (gss.map pad) W e w' → e = .returned (.tuple #[.slice none 0 0, .int .i64 3]) ∧ Below W.heap.size W w') := fun W e w' h => by
      obtain ⟨a, b⟩ := h
      rw [if_pos hbig] at b
      exact ⟨b, a⟩
    generalize hPP : KdPost n gss w = PP at *
    clear hbig HPP hPP
    go_enter Tryz.func9, Tryz.ntmps9
    go_wp2_with fail
    refine HMk.out.mono ?_
    rintro e w1 ⟨u, rfl, hG, hb1⟩
    have HE1 := hide (HEl.out u w1 hG)
    obtain ⟨gb1, _, _, _, _, _, _, rfl, _⟩ := hG
    go_wp2_with fail
    refine HE1.out.mono ?_
    intro e w2 hE
    obtain ⟨rfl, hb2⟩ := HEP.out _ _ _ hE
    have hB2 := hb1.trans (hb2.mono hb1.size)
    clear hE HE1 hb1 hb2
    go_wp2
    exact HF.out w2 hB2
  · have HEP : Hid (∀ W e w', ElPost n (gss.map pad) W e w' → ∃ (v : Value) (vs : List Value) (X : List Pm), e = .returned (.tuple #[v, .int .i64 0]) ∧ X.length ≤ 5040 ∧ 1 ≤ X.length ∧ X.length = sz (Gen (fun y => y ∈ gss.map pad)) n ∧ X.Nodup ∧ (∀ x, x ∈ X ↔ Gen (fun y => y ∈ gss.map pad) x) ∧ LL w' W.heap.size v vs (X.map (cut n)) ∧ Below W.heap.size W w') := fun W e w' h => by
      obtain ⟨a, b⟩ := h
      rw [if_neg hbig] at b
      obtain ⟨v, vs, X, b1, b2, b3, b4, _, b6⟩ := b
      exact ⟨v, vs, X, b1, by omega, List.length_pos_of_mem ((b4 1).2 Gen.one), b2, b3, b4, b6, a⟩
    have HF : Hid (∀ (X : List Pm) (v : Value) (Z : List (Value × List Nat × Nat)) (w2 w' : World), X.length = sz (Gen (fun y => y ∈ gss.map pad)) n → X.Nodup → (∀ x, x ∈ X ↔ Gen (fun y => y ∈ gss.map pad) x) → w.heap.size ≤ w2.heap.size → Below w.heap.size w w' → KsAt w' w2.heap.size v Z → KOk (Z.map (·.2)) (X.map (fun x => kl (cut n x))) → (∀ z, z ∈ Z → z.2.1.length = n) → KdPost n gss w (.returned (.tuple #[v, .int .i64 0])) w') := fun X v Z w2 w' c1 c2 c3 c4 c5 c6 c7 c8 => ⟨c5, by rw [if_neg hbig]; exact ⟨v, Z, X, rfl, c6.low c4, c7, c8, c1, c2, c3⟩⟩
    generalize hPP : KdPost n gss w = PP at *
    clear hbig HPP hPP
    go_enter Tryz.func9, Tryz.ntmps9
    go_wp2_with fail
    refine HMk.out.mono ?_
    rintro e w1 ⟨u, rfl, hG, hb1⟩
    have HE1 := hide (HEl.out u w1 hG)
    obtain ⟨gb1, _, _, _, _, _, _, rfl, _⟩ := hG
    go_wp2_with fail
    refine HE1.out.mono ?_
    intro e w2 hE
    obtain ⟨ve, vse, X, rfl, hX1, hX0, hXs, hXn, hXm, hLL, hb2⟩ := HEP.out _ _ _ hE
    have HB2 := hide (hb1.trans (hb2.mono hb1.size))
    have HXs := hide hXs
    have HXn := hide hXn
    have HXm := hide hXm
    have HI := hide hLL.ints
    have hmapl : (X.map (cut n)).length = X.length := List.length_map _
    obtain ⟨be, oe, ce, ee, hbe, hce1, hce2, hcell⟩ := hLL.ints.cell (by rw [hmapl]; exact hX0)
    rw [hmapl] at ee hce1 hcell
    subst ee
    have HC : Hid (∀ k, k < X.length → ∃ p c, w2.cell? ⟨be, oe + k, none⟩ = some (.slice p n c) ∧ Ints w2 (.slice p n c) (cut n (X.getD k 1)) ∧ isRow (cut n (X.getD k 1)) ∧ (cut n (X.getD k 1)).length = n) := fun k hk => by
      obtain ⟨p, c, a1, a2⟩ := hcell k hk
      have e1 : (X.map (cut n)).getD k [] = cut n (X.getD k 1) := by simp [List.getD, hk]
      have hfx := HFix.out _ ((HXm.out _).1 (List.getElem_mem hk))
      have e2 : X.getD k 1 = X[k] := by simp [List.getD, hk]
      have hl := cut_length h12 (X.getD k 1)
      rw [e1, hl] at a1 a2
      exact ⟨p, c, a1, a2.out, by rw [e2]; exact cut_row h12 hfx, hl⟩
    have HS : Hid (∀ k, k < X.length → (X.take (k + 1)).map (fun x => kl (cut n x)) = (X.take k).map (fun x => kl (cut n x)) ++ [kl (cut n (X.getD k 1))]) := fun k hk => by
      have e2 : X.getD k 1 = X[k] := by simp [List.getD, hk]
      rw [List.take_succ_eq_append_getElem hk, List.map_append, e2]; rfl
    have HAllX : Hid ((X.take X.length).map (fun x => kl (cut n x)) = X.map (fun x => kl (cut n x))) := by show _ = _; rw [List.take_length]
    have HLn : Hid (∀ k, ((X.take k).map (fun x => kl (cut n x))).length ≤ 5040) := fun k => by rw [List.length_map, List.length_take]; omega
    have HFin : Hid (∀ (v : Value) (Z : List (Value × List Nat × Nat)) (w' : World), Below w2.heap.size w2 w' → KsAt w' w2.heap.size v Z → KOk (Z.map (·.2)) (X.map (fun x => kl (cut n x))) → (∀ z, z ∈ Z → z.2.1.length = n) → PP (.returned (.tuple #[v, .int .i64 0])) w') := fun v Z w' c5 c6 c7 c8 => HF.out X v Z w2 w' HXs.out HXn.out HXm.out HB2.out.size (HB2.out.trans (c5.mono HB2.out.size)) c6 c7 c8
    obtain ⟨tk, htk⟩ : ∃ tk : Nat → List (List Nat), ∀ k, tk k = (X.take k).map (fun x => kl (cut n x)) := ⟨_, fun _ => rfl⟩
    obtain ⟨rw', hrw⟩ : ∃ rw' : Nat → List Int, ∀ k, rw' k = cut n (X.getD k 1) := ⟨_, fun _ => rfl⟩
    simp only [← hrw] at HC HS
    simp only [← htk] at HS HAllX HLn
    have HT0 : Hid (tk 0 = []) := by show _ = _; rw [htk]; rfl
    generalize X.map (fun x => kl (cut n x)) = Lall at *
    generalize X.length = N at *
    clear hE HE1 hb1 hb2 HF hXs hXn hXm hLL hmapl hcell HXs HXn HXm HI htk hrw HEl HEP HMk HFix HB2
    have HBx0 : Hid (BoxK (w2.alloc (.cells #[.slice none 0 0] 31)) w2.heap.size (.slice none 0 0)) := heap_alloc_new w2 _
    have HK0 : Hid (KsAt (w2.alloc (.cells #[.slice none 0 0] 31)) w2.heap.size (.slice none 0 0) []) := ⟨World.ownsRow_nil _ _ _ _, fun z hz => by cases hz⟩
    have HB0 : Hid (Below w2.heap.size w2 (w2.alloc (.cells #[.slice none 0 0] 31))) := (Below.refl _ _).alloc (Nat.le_refl _) _
    go_wp2
    go_loopw [33] (fun si wr => ∃ (k : Nat) (vk : Value) (Z : List (Value × List Nat × Nat)), k ≤ N ∧ si = .int .i64 (k : Int) ∧ Hid (BoxK wr w2.heap.size vk) ∧ Hid (KsAt wr w2.heap.size vk Z) ∧ Hid (KOk (Z.map (·.2)) (tk k)) ∧ Hid (∀ z, z ∈ Z → z.2.1.length = n) ∧ Below w2.heap.size w2 wr) (fun si _ => N - (intOf si).toNat)
    case atStart => exact ⟨0, _, [], Nat.zero_le _, rfl, HBx0, HK0, (by show KOk [] (tk 0); rw [HT0.out]; exact KOk.nil), (fun z hz => by cases hz), HB0.out⟩
    case round =>
      clear HBx0 HK0 HB0
      obtain ⟨k, vk, Z, hk, rfl, hBx, hKs, hKO, hln, hbm⟩ := hrel
      by_cases hlt : k < N
      · obtain ⟨p, c, hc, hI, hrow, hl⟩ := HC.out k hlt
        have gx : wr.cell? ⟨be, oe + k, none⟩ = some (.slice p n c) := (hbm.cell (by exact hbe)).trans hc
        have HL := hide (lengths_ok _ _ wr (hI.below hbm) hrow (by rw [hl]; exact h1) (by rw [hl]; exact h12))
        have HTl : Hid ((kl (rw' k)).length = n) := by show _ = _; rw [kl_length, hl]
        rw [hl] at HL
        have HBM := hide hbm
        clear hI hrow hl hc hbm
        go_wp2_with fail
        refine HL.out.mono ?_
        rintro e w3 ⟨u3, rfl, hu3, hb3⟩
        have HU3 : Hid (w3.ownsRow w2.heap.size 3 1 u3 (kl (rw' k)).length ((natI (kl (rw' k))).map (Value.int .i64))) := by rw [HTl.out]; exact owns_base hu3 HBM.out.size
        have hZ5 : Z.length ≤ 5040 := by
          have h5 := hKO.out.len
          rw [List.length_map] at h5
          exact Nat.le_trans h5 (HLn.out k)
        have HFi := hide (find_ok w2.heap.size w2.heap.size n vk u3 Z (kl (rw' k)) (tk k) w3 (hBx.out.later hb3) (Nat.le_refl _) (hKs.out.later hb3) HU3.out hKO.out hln.out HTl.out h1 hZ5)
        have HB3 := hide (HBM.out.trans (hb3.mono HBM.out.size))
        obtain ⟨p3, c3, e3⟩ := owns_slice hu3
        subst e3
        clear hu3 hb3 HL HBM hBx hKs hKO hln HU3 hZ5
        go_wp2_with fail
        refine HFi.out.mono ?_
        rintro e w4 ⟨b, cap, Z', j, x, m, rfl, hBx4, hKs4, hZj, hKO4, hln4, hb4⟩
        have hjl : j < Z'.length := (List.getElem?_eq_some_iff.1 hZj).1
        obtain ⟨b', cap', hv', hbb, hbs, hcc, hcc2, hcel⟩ := hKs4.cell (by omega)
        simp only [Value.slice.injEq, Option.some.injEq, Addr.mk.injEq] at hv'
        obtain ⟨⟨rfl, _, _⟩, _, rfl⟩ := hv'
        obtain ⟨_, q2, q3, _⟩ := hcel j _ hZj
        have hjs : (Z'.set j (x, kl (rw' k), m + 1))[j]? = some (x, kl (rw' k), m + 1) := List.getElem?_set_self hjl
        have hm5 : m + 1 ≤ 5041 := by
          have h5 := hKO4.many (kl (rw' k), m + 1) (List.mem_map.2 ⟨_, List.mem_of_getElem? hjs, rfl⟩)
          have h6 : List.count (kl (rw' k)) (tk k ++ [kl (rw' k)]) ≤ (tk k ++ [kl (rw' k)]).length := List.count_le_length
          rw [List.length_append, List.length_singleton] at h6
          have h7 := HLn.out k
          have h8 : m + 1 = List.count (kl (rw' k)) (tk k ++ [kl (rw' k)]) := h5
          omega
        have HKs5 : Hid (KsAt (w4.setCell ⟨b, j * 2 + 1, none⟩ (.int .i64 ((m : Int) + 1))) w2.heap.size (.slice (some ⟨b, 0, none⟩) Z'.length cap) (Z'.set j (x, kl (rw' k), m + 1))) := by
          have h5 := hKs4.put (m' := m + 1) hZj
          rw [show ((m + 1 : Nat) : Int) = (m : Int) + 1 by omega, List.length_set] at h5
          exact h5
        have HBx5 : Hid (BoxK (w4.setCell ⟨b, j * 2 + 1, none⟩ (.int .i64 ((m : Int) + 1))) w2.heap.size (.slice (some ⟨b, 0, none⟩) Z'.length cap)) := hBx4.put hKs4.row
        have HKO5 : Hid (KOk ((Z'.set j (x, kl (rw' k), m + 1)).map (·.2)) (tk (k + 1))) := by rw [HS.out k hlt]; exact hKO4
        have HLn5 : Hid (∀ z, z ∈ Z'.set j (x, kl (rw' k), m + 1) → z.2.1.length = n) := fun z hz => by
          rcases List.mem_or_eq_of_mem_set hz with h5 | h5
          · exact hln4 z h5
          · subst h5; exact HTl.out
        have HB5 : Hid (Below w2.heap.size w2 (w4.setCell ⟨b, j * 2 + 1, none⟩ (.int .i64 ((m : Int) + 1)))) := (HB3.out.trans hb4).setCell hbb _
        clear hBx4 hKs4 hKO4 hln4 hb4 hcel hjs hZj HFi HB3
        generalize Z'.set j (x, kl (rw' k), m + 1) = Z5 at *
        generalize Z'.length = zl at *
        go_wp2
        go_roundw
        case rel => exact ⟨k + 1, _, Z5, hlt, by go_num, HBx5, HKs5, HKO5, HLn5, HB5.out⟩
        case measure => simp [intOf]; omega
      · obtain rfl : N = k := by omega
        have hco := hBx.out.cell.1
        have hfo := hBx.out.cell.2.1
        obtain ⟨pz, cz, ez⟩ := owns_sliceK hKs.out.row
        have HKO2 : Hid (KOk (Z.map (·.2)) Lall) := by rw [← HAllX.out]; exact hKO.out
        subst ez
        have HEnd := hide (HFin.out _ Z wr hbm hKs.out HKO2.out hln.out)
        generalize Z.length = zl at *
        clear hBx hKs hKO hln HKO2 HFin
        go_wp2
        exact HEnd.out

end Go.Proofs.YtahffpgadoiijaaGreat

/- Contract: colour.mean (written by mkkow.py). -/
namespace Go.Proofs.YtahffpgadoiijaaGreat
open Go.RowKit
set_option linter.unusedVariables false

/-- Rows of the first so many kinds, and what is summed over them. -/
def mR (Z : List (Value × List Nat × Nat)) (k : Nat) : Nat := ((Z.take k).map (fun z => z.2.2)).sum
def mA (f : List Nat → Nat) (Z : List (Value × List Nat × Nat)) (k : Nat) : Nat := ((Z.take k).map (fun z => z.2.2 * f z.2.1)).sum

theorem mR_succ {Z : List (Value × List Nat × Nat)} {k : Nat} {z : Value × List Nat × Nat} (h : Z[k]? = some z) : mR Z (k + 1) = mR Z k + z.2.2 := by
  unfold mR; rw [List.take_add_one, h, List.map_append, List.sum_append]; simp
theorem mA_succ {f : List Nat → Nat} {Z : List (Value × List Nat × Nat)} {k : Nat} {z : Value × List Nat × Nat} (h : Z[k]? = some z) : mA f Z (k + 1) = mA f Z k + z.2.2 * f z.2.1 := by
  unfold mA; rw [List.take_add_one, h, List.map_append, List.sum_append]; simp

theorem mR_le {Z : List (Value × List Nat × Nat)} : ∀ (k : Nat), mR Z k ≤ (Z.map (fun z => z.2.2)).sum := fun k => by
  unfold mR
  rw [← List.take_append_drop k Z, List.map_append, List.sum_append, List.take_append_drop]
  exact Nat.le_add_right _ _

theorem mA_le {f : List Nat → Nat} {M : Nat} : ∀ {Z : List (Value × List Nat × Nat)}, (∀ z, z ∈ Z → f z.2.1 ≤ M) → ∀ (k : Nat), mA f Z k ≤ mR Z k * M
  | [], _, k => by unfold mA; simp
  | z :: Z, h, 0 => by unfold mA; simp
  | z :: Z, h, k + 1 => by
    have ih := mA_le (Z := Z) (fun y hy => h y (List.mem_cons_of_mem _ hy)) k
    unfold mA mR at ih ⊢
    rw [List.take_succ_cons, List.map_cons, List.sum_cons, List.map_cons, List.sum_cons, Nat.add_mul]
    exact Nat.add_le_add (Nat.mul_le_mul (Nat.le_refl _) (h z List.mem_cons_self)) ih


set_option maxRecDepth 20000 in
set_option maxHeartbeats 4000000 in
theorem meanC_ok (base B : Nat) (v : Value) (Z : List (Value × List Nat × Nat)) (f : List Nat → Nat) (w : World) (hZ : KsAt w base v Z) (hpos : 0 < Z.length) (hN : Z.length ≤ 5040)
    (hf : ∀ z, z ∈ Z → ∀ W, Below w.heap.size w W → Calls Tryz.prog 37 #[z.1, .pointer (some ⟨B, 0, none⟩)] W fun e w' => e = .returned (.int .i64 ((f z.2.1 : Nat) : Int)) ∧ Below W.heap.size W w') (hM : ∀ z, z ∈ Z → f z.2.1 ≤ 68719476736) (hs : (Z.map (fun z => z.2.2)).sum ≤ 5040) (hs1 : 1 ≤ (Z.map (fun z => z.2.2)).sum) :
    Calls Tryz.prog 36 #[v, .func (.func 37) #[] #[.pointer (some ⟨B, 0, none⟩)]] w fun e w' => e = .returned (.int .i64 (((Z.map (fun z => z.2.2 * f z.2.1)).sum / (Z.map (fun z => z.2.2)).sum : Nat) : Int)) ∧ Below w.heap.size w w' := by
  have HR : Hid (∀ k z, Z[k]? = some z → mR Z (k + 1) = mR Z k + z.2.2) := fun k z h => mR_succ h
  have HA : Hid (∀ k z, Z[k]? = some z → mA f Z (k + 1) = mA f Z k + z.2.2 * f z.2.1) := fun k z h => mA_succ h
  have HRl : Hid (∀ k, mR Z k ≤ 5040) := fun k => Nat.le_trans (mR_le k) hs
  have HAl : Hid (∀ k, mA f Z k ≤ 346346162749440) := fun k => Nat.le_trans (mA_le hM k) (by have h5 := Nat.le_trans (mR_le (Z := Z) k) hs; exact Nat.le_trans (Nat.mul_le_mul h5 (Nat.le_refl _)) (by decide))
  have HR0 : Hid (mR Z 0 = 0) := rfl
  have HA0 : Hid (mA f Z 0 = 0) := rfl
  have HRn : Hid (mR Z Z.length = (Z.map (fun z => z.2.2)).sum) := by show _ = _; unfold mR; rw [List.take_length]
  have HAn : Hid (mA f Z Z.length = (Z.map (fun z => z.2.2 * f z.2.1)).sum) := by show _ = _; unfold mA; rw [List.take_length]
  obtain ⟨b, cap, e0, hb1, hb2, hc1, hc2, hcell⟩ := hZ.cell hpos
  subst e0
  have HC : Hid (∀ k, k < Z.length → ∃ p c l m g x, Z[k]? = some (x, g, m) ∧ w.cell? ⟨b, k * 2, none⟩ = some (.slice p l c) ∧ w.cell? ⟨b, k * 2 + 1, none⟩ = some (.int .i64 (m : Int)) ∧ ∀ W, Below w.heap.size w W → Calls Tryz.prog 37 #[.slice p l c, .pointer (some ⟨B, 0, none⟩)] W fun e w' => e = .returned (.int .i64 ((f g : Nat) : Int)) ∧ Below W.heap.size W w') := fun k hk => by
    have hz : Z[k]? = some Z[k] := List.getElem?_eq_getElem hk
    obtain ⟨a1, a2, _, a3⟩ := hcell k _ hz
    obtain ⟨p, c, ef⟩ := a3.form
    refine ⟨p, c, _, Z[k].2.2, Z[k].2.1, Z[k].1, hz, by rw [← ef]; exact a1, a2, fun W hW => ?_⟩
    rw [← ef]
    exact hf _ (List.getElem_mem hk) W hW
  generalize (Z.map (fun z => z.2.2 * f z.2.1)).sum = As at *
  generalize (Z.map (fun z => z.2.2)).sum = Rs at *
  generalize hNN : Z.length = N at *
  clear hZ hf hM hcell hNN
  go_enter Tryz.func36, Tryz.ntmps36
  go_wp2
  go_loopw [5, 6, 11] (fun sr sa si wr => ∃ (k r a : Nat), k ≤ N ∧ sr = .int .i64 (r : Int) ∧ sa = .int .i64 (a : Int) ∧ si = .int .i64 (k : Int) ∧ Hid (r = mR Z k) ∧ Hid (a = mA f Z k) ∧ Below w.heap.size w wr) (fun _ _ si _ => N - (intOf si).toNat)
  case atStart => exact ⟨0, 0, 0, Nat.zero_le _, rfl, rfl, rfl, HR0.out.symm, HA0.out.symm, Below.refl _ _⟩
  case round =>
    obtain ⟨k, r, a, hk, rfl, rfl, rfl, hr, ha, hbm⟩ := hrel
    by_cases hlt : k < N
    · obtain ⟨p, c, l, m, g, x, hz, q1, q2, hcall⟩ := HC.out k hlt
      have gx : wr.cell? ⟨b, k * 2, none⟩ = some (.slice p l c) := (hbm.cell (by exact hb2)).trans q1
      have gy : wr.cell? ⟨b, k * 2 + 1, none⟩ = some (.int .i64 (m : Int)) := (hbm.cell (by exact hb2)).trans q2
      have HR1 := hide (HR.out k _ hz)
      have HA1 := hide (HA.out k _ hz)
      have hrl : r + m ≤ 5040 := by have h5 := HRl.out (k + 1); rw [HR1.out, ← hr.out] at h5; exact h5
      have hal : a + m * f g ≤ 346346162749440 := by have h5 := HAl.out (k + 1); rw [HA1.out, ← ha.out] at h5; exact h5
      have HCall := hide hcall
      generalize hfg : f g = fg at *
      have HFG := hide hfg
      have hml : m * fg ≤ 346346162749440 := by omega
      generalize hmf : m * fg = mf at *
      have HMF := hide hmf
      have hmfI : (m : Int) * (fg : Int) = (mf : Int) := by rw [← hmf]; exact (Int.natCast_mul _ _).symm
      have HBM := hide hbm
      have hbs := hbm.size
      have hne9 : ¬ (wr.heap.size = b) := by omega
      clear q1 q2 hz hcall hfg hmf hbm
      go_wp2
      obtain ⟨WA, hWA⟩ : ∃ WA, WA = wr.alloc (.cells #[.slice p l c, .int .i64 (m : Int)] 58) := ⟨_, rfl⟩
      rw [← hWA]
      have hBA : Below wr.heap.size wr WA := by rw [hWA]; exact (Below.refl _ _).alloc (Nat.le_refl _) _
      have hhA : WA.heap[wr.heap.size]? = some (.cells #[.slice p l c, .int .i64 (m : Int)] 58) := by rw [hWA]; exact heap_alloc_new wr _
      have hd0 : WA.cell? ⟨wr.heap.size, 0, none⟩ = some (.slice p l c) := by simp [World.cell?, hhA]
      have hd1 : WA.cell? ⟨wr.heap.size, 1, none⟩ = some (.int .i64 (m : Int)) := by simp [World.cell?, hhA]
      have hsA : wr.heap.size < WA.heap.size := by rw [hWA]; simp
      have HBA := hide (HBM.out.trans (hBA.mono HBM.out.size))
      have hw1 : IntKind.i64.wrap (mf : Int) = (mf : Int) := by rw [IntKind.wrap_i64]; omega
      have hw2 : IntKind.i64.wrap ((a : Int) + (mf : Int)) = (a : Int) + (mf : Int) := by rw [IntKind.wrap_i64]; omega
      clear hWA hBA gx gy hhA
      refine wp_region_held_drew (S := fun W' => W'.cell? ⟨wr.heap.size, 0, none⟩ = some (.slice p l c) ∧ W'.cell? ⟨wr.heap.size, 1, none⟩ = some (.int .i64 (m : Int))) (by kernel_rfl) ⟨hd0, hd1⟩ (fun hS => ?_)
      refine wpAnyH_take (i := 0) (v := .int .i64 (a : Int)) rfl (by kernel_rfl) (by kernel_rfl) (by kernel_rfl) (fun _ _ _ h => h) (Or.inl ⟨by kernel_rfl, fun w' hS' => by clear hS'; go_simp⟩) hS ?_
      refine wpAnyH_take (i := 1) (v := .pointer (some ⟨wr.heap.size, 1, none⟩)) rfl (by kernel_rfl) (by kernel_rfl) (by kernel_rfl) (fun _ _ _ h => h) (Or.inl ⟨by kernel_rfl, fun w' hS' => by clear hS'; go_simp⟩) hS ?_
      refine wpAnyH_take (i := 2) (v := .int .i64 (m : Int)) rfl (by kernel_rfl) (by kernel_rfl) (by kernel_rfl) (fun _ _ _ h => h) (Or.inl ⟨by kernel_rfl, fun w' hS' => by have h2 := hS'.2; clear hS'; go_simp⟩) hS ?_
      refine wpAnyH_take (i := 3) (v := .func (.func 37) #[] #[.pointer (some ⟨B, 0, none⟩)]) rfl (by kernel_rfl) (by kernel_rfl) (by kernel_rfl) (fun _ _ _ h => h) (Or.inl ⟨by kernel_rfl, fun w' hS' => by clear hS'; go_simp⟩) hS ?_
      refine wpAnyH_take (i := 4) (v := .pointer (some ⟨wr.heap.size, 0, none⟩)) rfl (by kernel_rfl) (by kernel_rfl) (by kernel_rfl) (fun _ _ _ h => h) (Or.inl ⟨by kernel_rfl, fun w' hS' => by clear hS'; go_simp⟩) hS ?_
      refine wpAnyH_take (i := 5) (v := .slice p l c) rfl (by kernel_rfl) (by kernel_rfl) (by kernel_rfl) (fun _ _ _ h => h) (Or.inl ⟨by kernel_rfl, fun w' hS' => by have h2 := hS'.1; clear hS'; go_simp⟩) hS ?_
      refine wpAnyH_ready (rs := [6]) (by kernel_rfl) (by simp) ?_
      refine AllReadyH.cons rfl (fun K9 hK9 => ?_) AllReadyH.nil
      go_simp
      refine (HCall.out WA.drew HBA.out.drew).mono ?_
      rintro e w5 ⟨rfl, hb5⟩
      replace hb5 := undrew hb5
      have hs5 : w5.cell? ⟨wr.heap.size, 0, none⟩ = some (.slice p l c) ∧ w5.cell? ⟨wr.heap.size, 1, none⟩ = some (.int .i64 (m : Int)) := ⟨(hb5.cell (p := ⟨wr.heap.size, 0, none⟩) hsA).trans hd0, (hb5.cell (p := ⟨wr.heap.size, 1, none⟩) hsA).trans hd1⟩
      have HB5 := hide (HBA.out.trans (hb5.mono HBA.out.size))
      refine hK9.out _ _ hs5 (fun hS => ?_)
      clear hK9 hb5
      refine wpAnyH_take (i := 7) (v := .int .i64 (mf : Int)) rfl (by kernel_rfl) (by kernel_rfl) (by kernel_rfl) (fun _ _ _ h => h) (Or.inl ⟨by kernel_rfl, fun w' hS' => by clear hS'; go_simp⟩) hS ?_
      refine wpAnyH_take (i := 8) (v := .int .i64 ((a : Int) + (mf : Int))) rfl (by kernel_rfl) (by kernel_rfl) (by kernel_rfl) (fun _ _ _ h => h) (Or.inl ⟨by kernel_rfl, fun w' hS' => by clear hS'; go_simp⟩) hS ?_
      refine wpAnyH_ready (rs := [9]) (by kernel_rfl) (by simp) ?_
      refine AllReadyH.cons rfl (fun K9 hK9 => ?_) AllReadyH.nil
      go_simp
      refine hK9.out _ _ hs5 (fun _ => ?_)
      clear hK9
      refine wpAnyH_done (by kernel_rfl) ?_ _
      have HR2 : Hid (r + m = mR Z (k + 1)) := by show _ = _; rw [HR1.out, ← hr.out]
      have HA2 : Hid (a + mf = mA f Z (k + 1)) := by show _ = _; rw [HA1.out, ← ha.out]
      go_wp2
      go_roundw
      case rel =>
        have hfin : ∃ (k' r' a' : Nat), k' ≤ N ∧ Value.int .i64 ((r : Int) + (m : Int)) = .int .i64 (r' : Int) ∧ Value.int .i64 ((a : Int) + (mf : Int)) = .int .i64 (a' : Int) ∧ Value.int .i64 ((k : Int) + 1) = .int .i64 (k' : Int) ∧ Hid (r' = mR Z k') ∧ Hid (a' = mA f Z k') ∧ Below w.heap.size w w5 := ⟨k + 1, r + m, a + mf, hlt, by go_num, by go_num, by go_num, HR2, HA2, HB5.out⟩
        first
          | exact hfin
          | ((repeat apply Exists.intro); exact ⟨hfin, rfl⟩)
      case measure => simp [intOf]; omega
    · obtain rfl : N = k := by omega
      have hre : r = Rs := by rw [hr.out, HRn.out]
      have hae : a = As := by rw [ha.out, HAn.out]
      subst hre; subst hae
      have hq : (a : Int).tdiv (r : Int) = ((a / r : Nat) : Int) := by rw [← Int.ofNat_tdiv]
      have hal := HAl.out N
      rw [← ha.out] at hal
      have hql : a / r ≤ a := Nat.div_le_self _ _
      have hr0 : ¬ ((r : Int) = 0) := by omega
      have HQ := hide hq
      generalize hqq : a / r = q at *
      have HQQ := hide hqq
      clear hr ha hqq HQ
      go_wp2
      go_ret
      exact ⟨by rw [HQQ.out]; rfl, hbm⟩

set_option maxRecDepth 20000 in
set_option maxHeartbeats 4000000 in
theorem meanW_ok (base B : Nat) (v : Value) (Z : List (Value × List Nat × Nat)) (f : List Nat → Nat) (w : World) (hZ : KsAt w base v Z) (hpos : 0 < Z.length) (hN : Z.length ≤ 5040)
    (hf : ∀ z, z ∈ Z → ∀ W, Below w.heap.size w W → Calls Tryz.prog 63 #[z.1, .pointer (some ⟨B, 0, none⟩)] W fun e w' => e = .returned (.int .i64 ((f z.2.1 : Nat) : Int)) ∧ Below W.heap.size W w') (hM : ∀ z, z ∈ Z → f z.2.1 ≤ 68719476736) (hs : (Z.map (fun z => z.2.2)).sum ≤ 5040) (hs1 : 1 ≤ (Z.map (fun z => z.2.2)).sum) :
    Calls Tryz.prog 36 #[v, .func (.func 63) #[] #[.pointer (some ⟨B, 0, none⟩)]] w fun e w' => e = .returned (.int .i64 (((Z.map (fun z => z.2.2 * f z.2.1)).sum / (Z.map (fun z => z.2.2)).sum : Nat) : Int)) ∧ Below w.heap.size w w' := by
  have HR : Hid (∀ k z, Z[k]? = some z → mR Z (k + 1) = mR Z k + z.2.2) := fun k z h => mR_succ h
  have HA : Hid (∀ k z, Z[k]? = some z → mA f Z (k + 1) = mA f Z k + z.2.2 * f z.2.1) := fun k z h => mA_succ h
  have HRl : Hid (∀ k, mR Z k ≤ 5040) := fun k => Nat.le_trans (mR_le k) hs
  have HAl : Hid (∀ k, mA f Z k ≤ 346346162749440) := fun k => Nat.le_trans (mA_le hM k) (by have h5 := Nat.le_trans (mR_le (Z := Z) k) hs; exact Nat.le_trans (Nat.mul_le_mul h5 (Nat.le_refl _)) (by decide))
  have HR0 : Hid (mR Z 0 = 0) := rfl
  have HA0 : Hid (mA f Z 0 = 0) := rfl
  have HRn : Hid (mR Z Z.length = (Z.map (fun z => z.2.2)).sum) := by show _ = _; unfold mR; rw [List.take_length]
  have HAn : Hid (mA f Z Z.length = (Z.map (fun z => z.2.2 * f z.2.1)).sum) := by show _ = _; unfold mA; rw [List.take_length]
  obtain ⟨b, cap, e0, hb1, hb2, hc1, hc2, hcell⟩ := hZ.cell hpos
  subst e0
  have HC : Hid (∀ k, k < Z.length → ∃ p c l m g x, Z[k]? = some (x, g, m) ∧ w.cell? ⟨b, k * 2, none⟩ = some (.slice p l c) ∧ w.cell? ⟨b, k * 2 + 1, none⟩ = some (.int .i64 (m : Int)) ∧ ∀ W, Below w.heap.size w W → Calls Tryz.prog 63 #[.slice p l c, .pointer (some ⟨B, 0, none⟩)] W fun e w' => e = .returned (.int .i64 ((f g : Nat) : Int)) ∧ Below W.heap.size W w') := fun k hk => by
    have hz : Z[k]? = some Z[k] := List.getElem?_eq_getElem hk
    obtain ⟨a1, a2, _, a3⟩ := hcell k _ hz
    obtain ⟨p, c, ef⟩ := a3.form
    refine ⟨p, c, _, Z[k].2.2, Z[k].2.1, Z[k].1, hz, by rw [← ef]; exact a1, a2, fun W hW => ?_⟩
    rw [← ef]
    exact hf _ (List.getElem_mem hk) W hW
  generalize (Z.map (fun z => z.2.2 * f z.2.1)).sum = As at *
  generalize (Z.map (fun z => z.2.2)).sum = Rs at *
  generalize hNN : Z.length = N at *
  clear hZ hf hM hcell hNN
  go_enter Tryz.func36, Tryz.ntmps36
  go_wp2
  go_loopw [5, 6, 11] (fun sr sa si wr => ∃ (k r a : Nat), k ≤ N ∧ sr = .int .i64 (r : Int) ∧ sa = .int .i64 (a : Int) ∧ si = .int .i64 (k : Int) ∧ Hid (r = mR Z k) ∧ Hid (a = mA f Z k) ∧ Below w.heap.size w wr) (fun _ _ si _ => N - (intOf si).toNat)
  case atStart => exact ⟨0, 0, 0, Nat.zero_le _, rfl, rfl, rfl, HR0.out.symm, HA0.out.symm, Below.refl _ _⟩
  case round =>
    obtain ⟨k, r, a, hk, rfl, rfl, rfl, hr, ha, hbm⟩ := hrel
    by_cases hlt : k < N
    · obtain ⟨p, c, l, m, g, x, hz, q1, q2, hcall⟩ := HC.out k hlt
      have gx : wr.cell? ⟨b, k * 2, none⟩ = some (.slice p l c) := (hbm.cell (by exact hb2)).trans q1
      have gy : wr.cell? ⟨b, k * 2 + 1, none⟩ = some (.int .i64 (m : Int)) := (hbm.cell (by exact hb2)).trans q2
      have HR1 := hide (HR.out k _ hz)
      have HA1 := hide (HA.out k _ hz)
      have hrl : r + m ≤ 5040 := by have h5 := HRl.out (k + 1); rw [HR1.out, ← hr.out] at h5; exact h5
      have hal : a + m * f g ≤ 346346162749440 := by have h5 := HAl.out (k + 1); rw [HA1.out, ← ha.out] at h5; exact h5
      have HCall := hide hcall
      generalize hfg : f g = fg at *
      have HFG := hide hfg
      have hml : m * fg ≤ 346346162749440 := by omega
      generalize hmf : m * fg = mf at *
      have HMF := hide hmf
      have hmfI : (m : Int) * (fg : Int) = (mf : Int) := by rw [← hmf]; exact (Int.natCast_mul _ _).symm
      have HBM := hide hbm
      have hbs := hbm.size
      have hne9 : ¬ (wr.heap.size = b) := by omega
      clear q1 q2 hz hcall hfg hmf hbm
      go_wp2
      obtain ⟨WA, hWA⟩ : ∃ WA, WA = wr.alloc (.cells #[.slice p l c, .int .i64 (m : Int)] 58) := ⟨_, rfl⟩
      rw [← hWA]
      have hBA : Below wr.heap.size wr WA := by rw [hWA]; exact (Below.refl _ _).alloc (Nat.le_refl _) _
      have hhA : WA.heap[wr.heap.size]? = some (.cells #[.slice p l c, .int .i64 (m : Int)] 58) := by rw [hWA]; exact heap_alloc_new wr _
      have hd0 : WA.cell? ⟨wr.heap.size, 0, none⟩ = some (.slice p l c) := by simp [World.cell?, hhA]
      have hd1 : WA.cell? ⟨wr.heap.size, 1, none⟩ = some (.int .i64 (m : Int)) := by simp [World.cell?, hhA]
      have hsA : wr.heap.size < WA.heap.size := by rw [hWA]; simp
      have HBA := hide (HBM.out.trans (hBA.mono HBM.out.size))
      have hw1 : IntKind.i64.wrap (mf : Int) = (mf : Int) := by rw [IntKind.wrap_i64]; omega
      have hw2 : IntKind.i64.wrap ((a : Int) + (mf : Int)) = (a : Int) + (mf : Int) := by rw [IntKind.wrap_i64]; omega
      clear hWA hBA gx gy hhA
      refine wp_region_held_drew (S := fun W' => W'.cell? ⟨wr.heap.size, 0, none⟩ = some (.slice p l c) ∧ W'.cell? ⟨wr.heap.size, 1, none⟩ = some (.int .i64 (m : Int))) (by kernel_rfl) ⟨hd0, hd1⟩ (fun hS => ?_)
      refine wpAnyH_take (i := 0) (v := .int .i64 (a : Int)) rfl (by kernel_rfl) (by kernel_rfl) (by kernel_rfl) (fun _ _ _ h => h) (Or.inl ⟨by kernel_rfl, fun w' hS' => by clear hS'; go_simp⟩) hS ?_
      refine wpAnyH_take (i := 1) (v := .pointer (some ⟨wr.heap.size, 1, none⟩)) rfl (by kernel_rfl) (by kernel_rfl) (by kernel_rfl) (fun _ _ _ h => h) (Or.inl ⟨by kernel_rfl, fun w' hS' => by clear hS'; go_simp⟩) hS ?_
      refine wpAnyH_take (i := 2) (v := .int .i64 (m : Int)) rfl (by kernel_rfl) (by kernel_rfl) (by kernel_rfl) (fun _ _ _ h => h) (Or.inl ⟨by kernel_rfl, fun w' hS' => by have h2 := hS'.2; clear hS'; go_simp⟩) hS ?_
      refine wpAnyH_take (i := 3) (v := .func (.func 63) #[] #[.pointer (some ⟨B, 0, none⟩)]) rfl (by kernel_rfl) (by kernel_rfl) (by kernel_rfl) (fun _ _ _ h => h) (Or.inl ⟨by kernel_rfl, fun w' hS' => by clear hS'; go_simp⟩) hS ?_
      refine wpAnyH_take (i := 4) (v := .pointer (some ⟨wr.heap.size, 0, none⟩)) rfl (by kernel_rfl) (by kernel_rfl) (by kernel_rfl) (fun _ _ _ h => h) (Or.inl ⟨by kernel_rfl, fun w' hS' => by clear hS'; go_simp⟩) hS ?_
      refine wpAnyH_take (i := 5) (v := .slice p l c) rfl (by kernel_rfl) (by kernel_rfl) (by kernel_rfl) (fun _ _ _ h => h) (Or.inl ⟨by kernel_rfl, fun w' hS' => by have h2 := hS'.1; clear hS'; go_simp⟩) hS ?_
      refine wpAnyH_ready (rs := [6]) (by kernel_rfl) (by simp) ?_
      refine AllReadyH.cons rfl (fun K9 hK9 => ?_) AllReadyH.nil
      go_simp
      refine (HCall.out WA.drew HBA.out.drew).mono ?_
      rintro e w5 ⟨rfl, hb5⟩
      replace hb5 := undrew hb5
      have hs5 : w5.cell? ⟨wr.heap.size, 0, none⟩ = some (.slice p l c) ∧ w5.cell? ⟨wr.heap.size, 1, none⟩ = some (.int .i64 (m : Int)) := ⟨(hb5.cell (p := ⟨wr.heap.size, 0, none⟩) hsA).trans hd0, (hb5.cell (p := ⟨wr.heap.size, 1, none⟩) hsA).trans hd1⟩
      have HB5 := hide (HBA.out.trans (hb5.mono HBA.out.size))
      refine hK9.out _ _ hs5 (fun hS => ?_)
      clear hK9 hb5
      refine wpAnyH_take (i := 7) (v := .int .i64 (mf : Int)) rfl (by kernel_rfl) (by kernel_rfl) (by kernel_rfl) (fun _ _ _ h => h) (Or.inl ⟨by kernel_rfl, fun w' hS' => by clear hS'; go_simp⟩) hS ?_
      refine wpAnyH_take (i := 8) (v := .int .i64 ((a : Int) + (mf : Int))) rfl (by kernel_rfl) (by kernel_rfl) (by kernel_rfl) (fun _ _ _ h => h) (Or.inl ⟨by kernel_rfl, fun w' hS' => by clear hS'; go_simp⟩) hS ?_
      refine wpAnyH_ready (rs := [9]) (by kernel_rfl) (by simp) ?_
      refine AllReadyH.cons rfl (fun K9 hK9 => ?_) AllReadyH.nil
      go_simp
      refine hK9.out _ _ hs5 (fun _ => ?_)
      clear hK9
      refine wpAnyH_done (by kernel_rfl) ?_ _
      have HR2 : Hid (r + m = mR Z (k + 1)) := by show _ = _; rw [HR1.out, ← hr.out]
      have HA2 : Hid (a + mf = mA f Z (k + 1)) := by show _ = _; rw [HA1.out, ← ha.out]
      go_wp2
      go_roundw
      case rel =>
        have hfin : ∃ (k' r' a' : Nat), k' ≤ N ∧ Value.int .i64 ((r : Int) + (m : Int)) = .int .i64 (r' : Int) ∧ Value.int .i64 ((a : Int) + (mf : Int)) = .int .i64 (a' : Int) ∧ Value.int .i64 ((k : Int) + 1) = .int .i64 (k' : Int) ∧ Hid (r' = mR Z k') ∧ Hid (a' = mA f Z k') ∧ Below w.heap.size w w5 := ⟨k + 1, r + m, a + mf, hlt, by go_num, by go_num, by go_num, HR2, HA2, HB5.out⟩
        first
          | exact hfin
          | ((repeat apply Exists.intro); exact ⟨hfin, rfl⟩)
      case measure => simp [intOf]; omega
    · obtain rfl : N = k := by omega
      have hre : r = Rs := by rw [hr.out, HRn.out]
      have hae : a = As := by rw [ha.out, HAn.out]
      subst hre; subst hae
      have hq : (a : Int).tdiv (r : Int) = ((a / r : Nat) : Int) := by rw [← Int.ofNat_tdiv]
      have hal := HAl.out N
      rw [← ha.out] at hal
      have hql : a / r ≤ a := Nat.div_le_self _ _
      have hr0 : ¬ ((r : Int) = 0) := by omega
      have HQ := hide hq
      generalize hqq : a / r = q at *
      have HQQ := hide hqq
      clear hr ha hqq HQ
      go_wp2
      go_ret
      exact ⟨by rw [HQQ.out]; rfl, hbm⟩

end Go.Proofs.YtahffpgadoiijaaGreat

/- Contracts: what a row leaves by its cycles (the functions in Count and With); mayColour; Kinds' refusals; Count. -/
namespace Go.Proofs.YtahffpgadoiijaaGreat
open Go.RowKit
set_option linter.unusedVariables false

theorem lsUp_len (K : List Nat) : ∀ i, (lsUp K i).length = (K.take i).sum
  | 0 => by rw [List.take_zero]; rfl
  | i + 1 => by
    rw [lsUp_succ, List.length_append, lsUp_len K i, List.length_replicate, List.take_add_one, List.sum_append, List.getD]
    cases K[i]? with
    | none => rfl
    | some x => simp

theorem kl_sums {r : List Int} (hr : isRow r) : (kl r).sum = (cycsTo r r.length).length := by
  have h := kl_sum hr
  rw [lsUp_len, ← kl_length r, List.take_length, kl_length] at h
  exact h

theorem kl_sum12 {r : List Int} (hr : isRow r) (h : r.length ≤ 12) : (kl r).sum ≤ 12 := by
  rw [kl_sums hr]
  have := cycsTo_length r r.length
  omega

theorem take_sum_le (K : List Nat) (i : Nat) : (K.take i).sum ≤ K.sum := by
  have h : K.sum = (K.take i).sum + (K.drop i).sum := by rw [← List.sum_append, List.take_append_drop]
  omega

set_option maxRecDepth 20000 in
set_option maxHeartbeats 2000000 in
theorem count1_ok (c B : Nat) (K : List Nat) (v : Value) (w : World) (hI : Ints w v (natI K)) (hc : w.cell? ⟨B, 0, none⟩ = some (.int .i64 (c : Int))) (hB : B < w.heap.size) (hc8 : c ≤ 8) (hs : K.sum ≤ 12) (hk1 : 1 ≤ K.length) (hk : K.length ≤ 12) :
    Calls Tryz.prog 37 #[v, .pointer (some ⟨B, 0, none⟩)] w fun e w' => e = .returned (.int .i64 ((c ^ K.sum : Nat) : Int)) ∧ Below w.heap.size w w' := by
  have hnl : (natI K).length = K.length := natI_length K
  rcases hI with ⟨h0, _⟩ | ⟨b, off, cap, rfl, h0, hcp, hm, hb, hcell⟩
  · rw [h0] at hnl; simp at hnl; omega
  have HP : Hid (∀ (t : Nat) (W : World), t ≤ 12 → Calls Tryz.prog 38 #[.int .i64 (c : Int), .int .i64 (t : Int)] W fun e w' => e = .returned (.int .i64 ((c ^ t : Nat) : Int)) ∧ W = w') := fun t W ht => power_ok c t W hc8 ht
  have HC : Hid (∀ k, k < K.length → ∃ t : Nat, t ≤ 12 ∧ w.cell? ⟨b, off + k, none⟩ = some (.int .i64 (t : Int)) ∧ (K.take (k + 1)).sum = (K.take k).sum + t) := fun k hk' => by
    refine ⟨K.getD k 0, ?_, ?_, ?_⟩
    · have h5 := take_sum_le K (k + 1)
      rw [List.take_add_one, List.getElem?_eq_getElem hk', List.sum_append] at h5
      simp only [List.getD, List.getElem?_eq_getElem hk', Option.getD_some]
      simp at h5
      omega
    · rw [hcell k (by rw [hnl]; exact hk'), natI_getD]
    · rw [List.take_add_one, List.getElem?_eq_getElem hk', List.sum_append]
      simp [List.getD, hk']
  have HL : Hid (∀ k, (K.take k).sum ≤ 12) := fun k => Nat.le_trans (take_sum_le K k) hs
  have HE : Hid ((K.take K.length).sum = K.sum) := by show _ = _; rw [List.take_length]
  rw [hnl] at hcp ⊢
  generalize hKl : K.length = L at *
  generalize hRR : c ^ K.sum = RR at *
  have HRR := hide hRR
  clear hcell hnl hKl h0 hRR
  go_enter Tryz.func37, Tryz.ntmps37
  go_wp2
  go_loop [4, 9] (fun sx si => ∃ (k a : Nat), k ≤ L ∧ sx = .int .i64 (a : Int) ∧ si = .int .i64 (k : Int) ∧ Hid (a = c ^ (K.take k).sum)) (fun _ si => L - (intOf si).toNat)
  case atStart => exact ⟨0, 1, Nat.zero_le _, rfl, rfl, by show 1 = c ^ (K.take 0).sum; rw [List.take_zero]; rfl⟩
  case round =>
    obtain ⟨k, a, hk', rfl, rfl, ha⟩ := hrel
    by_cases hlt : k < L
    · obtain ⟨t, ht, hct, hsm⟩ := HC.out k hlt
      have hal : a * c ^ t ≤ 68719476736 := by
        rw [ha.out, ← Nat.pow_add, ← hsm]
        exact pow_le12 hc8 (HL.out (k + 1))
      have HA2 : Hid (a * c ^ t = c ^ (K.take (k + 1)).sum) := by show _ = _; rw [ha.out, ← Nat.pow_add, ← hsm]
      have HPt := hide (HP.out t w ht)
      generalize hct2 : c ^ t = ct at *
      obtain ⟨m, hm'⟩ : ∃ m, m = a * ct := ⟨_, rfl⟩
      rw [← hm'] at hal HA2
      have hmI : (a : Int) * (ct : Int) = (m : Int) := by rw [hm']; exact (Int.natCast_mul _ _).symm
      clear hct2 hm' ha hsm
      go_wp2_with fail
      refine HPt.out.mono ?_
      rintro e w' ⟨rfl, rfl⟩
      go_wp2
      go_round
      case rel => exact ⟨k + 1, m, hlt, by go_num, by go_num, HA2⟩
      case measure => simp [intOf]; omega
    · obtain rfl : L = k := by omega
      have HF : Hid (a = RR) := by show _ = _; rw [ha.out, HE.out, HRR.out]
      clear ha
      go_wp2
      go_ret
      exact ⟨by rw [← HF.out]; rfl, Below.refl _ _⟩

set_option maxRecDepth 20000 in
set_option maxHeartbeats 2000000 in
theorem with1_ok (B : Nat) (many K : List Nat) (v vm : Value) (w : World) (hI : Ints w v (natI K)) (hm : Ints w vm (natI many)) (hc : w.cell? ⟨B, 0, none⟩ = some vm) (hm1 : 1 ≤ many.length) (hm8 : many.length ≤ 8) (hM : ∀ x, x ∈ many → x ≤ 12) (hk1 : 1 ≤ K.length) (hk : K.length ≤ 12) (hs : K.sum ≤ 12) :
    Calls Tryz.prog 63 #[v, .pointer (some ⟨B, 0, none⟩)] w fun e w' => e = .returned (.int .i64 ((Wn many.length (lsUp K K.length) (fun j => many.getD j 0) : Nat) : Int)) ∧ Below w.heap.size w w' := by
  have HF := hide (fillings_ok many K v vm w hI hm hm1 hm8 hM hk1 hk (by rw [lsUp_len, List.take_length]; exact hs))
  obtain ⟨p1, c1, e1⟩ := hI.form
  obtain ⟨p2, c2, e2⟩ := hm.form
  subst e1; subst e2
  generalize (natI K).length = l1 at *
  generalize (natI many).length = l2 at *
  generalize Wn many.length (lsUp K K.length) (fun j => many.getD j 0) = W9 at *
  clear hI hm hm1 hm8 hM hk1 hk hs
  go_enter Tryz.func63, Tryz.ntmps63
  go_wp2_with fail
  refine HF.out.mono ?_
  rintro e w' ⟨rfl, hb⟩
  go_wp2
  go_ret
  exact ⟨rfl, hb⟩

set_option maxRecDepth 20000 in
theorem mayColour_ok (c : Int) (w : World) : Calls Tryz.prog 35 #[.int .i64 c] w fun e w' => e = .returned (.bool (decide (0 ≤ c ∧ c ≤ 8))) ∧ w = w' := by
  by_cases h1 : 0 ≤ c
  · by_cases h2 : c ≤ 8
    · have HD : Hid (decide (0 ≤ c ∧ c ≤ 8) = true) := decide_eq_true ⟨h1, h2⟩
      generalize decide (0 ≤ c ∧ c ≤ 8) = d at *
      have g1 : decide (c ≥ 0) = true := decide_eq_true h1
      go_enter Tryz.func35, Tryz.ntmps35
      go_wp2
      go_ret
      exact ⟨by rw [HD.out]; rfl, rfl⟩
    · have HD : Hid (decide (0 ≤ c ∧ c ≤ 8) = false) := decide_eq_false (fun h => h2 h.2)
      generalize decide (0 ≤ c ∧ c ≤ 8) = d at *
      go_enter Tryz.func35, Tryz.ntmps35
      go_wp2
      go_ret
      exact ⟨by rw [HD.out]; rfl, rfl⟩
  · have HD : Hid (decide (0 ≤ c ∧ c ≤ 8) = false) := decide_eq_false (fun h => h1 h.1)
    generalize decide (0 ≤ c ∧ c ≤ 8) = d at *
    go_enter Tryz.func35, Tryz.ntmps35
    go_wp2
    go_ret
    exact ⟨by rw [HD.out]; rfl, rfl⟩

set_option maxRecDepth 20000 in
theorem kinds_no (n : Int) (v : Value) (c : Int) (w : World) (hc : c ≠ 0) (hk : Calls Tryz.prog 48 #[.int .i64 n, v] w fun e w' => e = .returned (.int .i64 c) ∧ Below w.heap.size w w') :
    Calls Tryz.prog 9 #[.int .i64 n, v] w fun e w' => e = .returned (.tuple #[.slice none 0 0, .int .i64 c]) ∧ Below w.heap.size w w' := by
  have HK := hide (make_refuses n v c w hc hk)
  have hne : (c != 0) = true := by rw [bne_iff_ne]; exact hc
  clear hk hc
  go_enter Tryz.func9, Tryz.ntmps9
  go_wp2_with fail
  refine HK.out.mono ?_
  rintro e w1 ⟨rfl, hb1⟩
  go_wp2
  go_ret2
  exact ⟨rfl, hb1⟩

/-- What is counted: as many as a row leaves, in the mean. -/
def CntOk (n c : Nat) (gss : List (List Int)) (cv : Nat) : Prop := ∀ X : List Pm, X.Nodup → (∀ x, x ∈ X ↔ Gen (fun y => y ∈ gss.map pad) x) → cv = (X.map (fun x => c ^ (kl (cut n x)).sum)).sum / X.length

def WthOk (n : Nat) (many : List Nat) (gss : List (List Int)) (cv : Nat) : Prop := ∀ X : List Pm, X.Nodup → (∀ x, x ∈ X ↔ Gen (fun y => y ∈ gss.map pad) x) → cv = (X.map (fun x => Wn many.length (lsUp (kl (cut n x)) n) (fun j => many.getD j 0))).sum / X.length

theorem perm_of_mem {X Y : List Pm} {G : Pm → Prop} (h1 : X.Nodup) (h2 : Y.Nodup) (a : ∀ x, x ∈ X ↔ G x) (b : ∀ x, x ∈ Y ↔ G x) : X.Perm Y :=
  (List.perm_ext_iff_of_nodup h1 h2).2 (fun x => by rw [a, b])

/-- What is summed over kinds, as a sum over rows. -/
theorem kinds_sum {n : Nat} {Z : List (Value × List Nat × Nat)} {X Y : List Pm} (f : List Nat → Nat) (hK : KOk (Z.map (·.2)) (X.map (fun x => kl (cut n x)))) (hp : X.Perm Y) : (Z.map (fun z => z.2.2 * f z.2.1)).sum = (Y.map (fun x => f (kl (cut n x)))).sum ∧ (Z.map (fun z => z.2.2)).sum = Y.length := by
  have h1 := hK.sum f
  have h2 := hK.total
  rw [List.map_map] at h1 h2
  rw [List.map_map] at h1
  refine ⟨?_, ?_⟩
  · rw [show (fun z : Value × List Nat × Nat => z.2.2 * f z.2.1) = ((fun p : List Nat × Nat => p.2 * f p.1) ∘ (·.2)) from rfl, h1]
    exact (hp.map _).sum_nat
  · rw [show (fun z : Value × List Nat × Nat => z.2.2) = ((fun p : List Nat × Nat => p.2) ∘ (·.2)) from rfl, h2, List.length_map]
    exact hp.length_eq

end Go.Proofs.YtahffpgadoiijaaGreat

/- Contracts: Count; checkMany; With. -/
namespace Go.Proofs.YtahffpgadoiijaaGreat
open Go.RowKit
set_option linter.unusedVariables false

/-- What Kinds tells, ready for the mean. -/
structure KUse (n : Nat) (gss : List (List Int)) (Z : List (Value × List Nat × Nat)) (X : List Pm) : Prop where
  ok : KOk (Z.map (·.2)) (X.map (fun x => kl (cut n x)))
  len : ∀ z, z ∈ Z → z.2.1.length = n
  few : X.length ≤ 5040
  nd : X.Nodup
  mem : ∀ x, x ∈ X ↔ Gen (fun y => y ∈ gss.map pad) x

theorem KUse.xpos {n : Nat} {gss : List (List Int)} {Z : List (Value × List Nat × Nat)} {X : List Pm} (h : KUse n gss Z X) : 1 ≤ X.length := List.length_pos_of_mem ((h.mem 1).2 Gen.one)

theorem KUse.pos {n : Nat} {gss : List (List Int)} {Z : List (Value × List Nat × Nat)} {X : List Pm} (h : KUse n gss Z X) : 0 < Z.length := by
  have h1 : kl (cut n 1) ∈ (Z.map (·.2)).map (·.1) := (h.ok.mem _).2 (List.mem_map.2 ⟨1, (h.mem 1).2 Gen.one, rfl⟩)
  have h2 := List.length_pos_of_mem h1
  rw [List.length_map, List.length_map] at h2
  exact h2

theorem KUse.zlen {n : Nat} {gss : List (List Int)} {Z : List (Value × List Nat × Nat)} {X : List Pm} (h : KUse n gss Z X) : Z.length ≤ 5040 := by
  have h2 := h.ok.len
  rw [List.length_map, List.length_map] at h2
  exact Nat.le_trans h2 h.few

theorem KUse.total {n : Nat} {gss : List (List Int)} {Z : List (Value × List Nat × Nat)} {X : List Pm} (h : KUse n gss Z X) : (Z.map (fun z => z.2.2)).sum = X.length := (kinds_sum (fun _ => 1) h.ok (List.Perm.refl X)).2

theorem KUse.sum12 {n : Nat} {gss : List (List Int)} {Z : List (Value × List Nat × Nat)} {X : List Pm} (h : KUse n gss Z X) (h12 : n ≤ 12) (hR : RowsN n gss) : ∀ z, z ∈ Z → z.2.1.sum ≤ 12 := fun z hz => by
  have h1 : z.2.1 ∈ X.map (fun x => kl (cut n x)) := (h.ok.mem _).1 (List.mem_map.2 ⟨z.2, List.mem_map.2 ⟨z, hz, rfl⟩, rfl⟩)
  obtain ⟨x, hx, e⟩ := List.mem_map.1 h1
  rw [← e]
  exact kl_sum12 (cut_row h12 (gens_fix h12 hR ((h.mem x).1 hx))) (by rw [cut_length h12 x]; exact h12)

/-- What Count (or With) leaves. -/
def CtPost (P : Nat → Prop) (n : Nat) (gss : List (List Int)) (w : World) (e : Ending) (w' : World) : Prop :=
  Below w.heap.size w w' ∧ if 5040 < sz (Gen (fun y => y ∈ gss.map pad)) n then e = .returned (.tuple #[.int .i64 0, .int .i64 3]) else
    ∃ cv : Nat, e = .returned (.tuple #[.int .i64 (cv : Int), .int .i64 0]) ∧ P cv

set_option maxRecDepth 20000 in
set_option maxHeartbeats 4000000 in
theorem count_ok (n c : Nat) (v : Value) (gss : List (List Int)) (w : World) (hA : IntsAll w v gss) (hR : RowsN n gss) (h1 : 1 ≤ n) (h12 : n ≤ 12) (h8 : gss.length ≤ 8) (hc8 : c ≤ 8) :
    Calls Tryz.prog 13 #[.int .i64 n, v, .int .i64 (c : Int)] w (CtPost (CntOk n c gss) n gss w) := by
  have hbW : Below w.heap.size w (w.alloc (.cells #[.int .i64 (c : Int)] 3)) := (Below.refl _ _).alloc (Nat.le_refl _) _
  have HKd := hide (kinds_ok n v gss (w.alloc (.cells #[.int .i64 (c : Int)] 3)) (hA.below hbW) hR h1 h12 h8)
  have hmc : decide (0 ≤ (c : Int) ∧ (c : Int) ≤ 8) = true := decide_eq_true ⟨by omega, by omega⟩
  have HMC : Hid (∀ W, Calls Tryz.prog 35 #[.int .i64 (c : Int)] W fun e w' => e = .returned (.bool true) ∧ W = w') := fun W => by have := mayColour_ok (c : Int) W; rwa [hmc] at this
  have hcell : (w.alloc (.cells #[.int .i64 (c : Int)] 3)).cell? ⟨w.heap.size, 0, none⟩ = some (.int .i64 (c : Int)) := by simp only [World.cell?, heap_alloc_new w (.cells #[.int .i64 (c : Int)] 3)]; rfl
  have hsz : w.heap.size < (w.alloc (.cells #[.int .i64 (c : Int)] 3)).heap.size := by simp
  have HMn : Hid (∀ (vk : Value) (Z : List (Value × List Nat × Nat)) (X : List Pm) (W : World) (base : Nat), KsAt W base vk Z → KUse n gss Z X → Below (w.alloc (.cells #[.int .i64 (c : Int)] 3)).heap.size (w.alloc (.cells #[.int .i64 (c : Int)] 3)) W → Calls Tryz.prog 36 #[vk, .func (.func 37) #[] #[.pointer (some ⟨w.heap.size, 0, none⟩)]] W fun e w' => (∃ cv : Nat, e = .returned (.int .i64 (cv : Int)) ∧ CntOk n c gss cv) ∧ Below W.heap.size W w') := fun vk Z X W base hZ hU hW => by
    refine (meanC_ok base w.heap.size vk Z (fun K => c ^ K.sum) W hZ hU.pos hU.zlen (fun z hz W' hW' => ?_) (fun z hz => pow_le12 hc8 (hU.sum12 h12 hR z hz)) (by rw [hU.total]; exact hU.few) (by rw [hU.total]; exact hU.xpos)).mono ?_
    · have hl := hU.len z hz
      refine count1_ok c w.heap.size z.2.1 z.1 W' ((Ints.own (hZ.all z hz)).below hW') ?_ ?_ hc8 (hU.sum12 h12 hR z hz) (by rw [hl]; exact h1) (by rw [hl]; exact h12)
      · rw [hW'.cell (p := ⟨w.heap.size, 0, none⟩) (Nat.lt_of_lt_of_le hsz hW.size), hW.cell (p := ⟨w.heap.size, 0, none⟩) hsz]; exact hcell
      · exact Nat.lt_of_lt_of_le hsz (Nat.le_trans hW.size hW'.size)
    · rintro e w' ⟨rfl, hb⟩
      refine ⟨⟨_, rfl, fun Y hY hYm => ?_⟩, hb⟩
      obtain ⟨k1, k2⟩ := kinds_sum (fun K => c ^ K.sum) hU.ok (perm_of_mem hU.nd hY hU.mem hYm)
      rw [k1, k2]
  have HKU : Hid (∀ e w', KdPost n gss (w.alloc (.cells #[.int .i64 (c : Int)] 3)) e w' → Below w.heap.size w w' ∧ Below (w.alloc (.cells #[.int .i64 (c : Int)] 3)).heap.size (w.alloc (.cells #[.int .i64 (c : Int)] 3)) w' ∧ ((5040 < sz (Gen (fun y => y ∈ gss.map pad)) n ∧ e = .returned (.tuple #[.slice none 0 0, .int .i64 3])) ∨ (¬ 5040 < sz (Gen (fun y => y ∈ gss.map pad)) n ∧ ∃ v Z X, e = .returned (.tuple #[v, .int .i64 0]) ∧ KsAt w' (w.alloc (.cells #[.int .i64 (c : Int)] 3)).heap.size v Z ∧ KUse n gss Z X))) := fun e w' h => by
    obtain ⟨a, b⟩ := h
    refine ⟨hbW.trans (a.mono hbW.size), a, ?_⟩
    by_cases hbig : 5040 < sz (Gen (fun y => y ∈ gss.map pad)) n
    · rw [if_pos hbig] at b; exact Or.inl ⟨hbig, b⟩
    · rw [if_neg hbig] at b
      obtain ⟨v, Z, X, b1, b2, b3, b4, b5, b6, b7⟩ := b
      exact Or.inr ⟨hbig, v, Z, X, b1, b2, b3, b4, by rw [b5]; omega, b6, b7⟩
  have HE1 : Hid (∀ w', Below w.heap.size w w' → 5040 < sz (Gen (fun y => y ∈ gss.map pad)) n → CtPost (CntOk n c gss) n gss w (.returned (.tuple #[.int .i64 0, .int .i64 3])) w') := fun w' hb h => ⟨hb, by rw [if_pos h]⟩
  have HE2 : Hid (∀ w' cv, Below w.heap.size w w' → ¬ 5040 < sz (Gen (fun y => y ∈ gss.map pad)) n → CntOk n c gss cv → CtPost (CntOk n c gss) n gss w (.returned (.tuple #[.int .i64 (cv : Int), .int .i64 0])) w') := fun w' cv hb h h2 => ⟨hb, by rw [if_neg h]; exact ⟨cv, rfl, h2⟩⟩
  obtain ⟨pv, cv, ev⟩ := hA.len
  subst ev
  generalize gss.length = gl at *
  generalize hPP : CtPost (CntOk n c gss) n gss w = PP at *
  clear hA hR hPP hmc hbW
  go_enter Tryz.func13, Tryz.ntmps13
  go_wp2_with fail
  refine (HMC.out _).mono ?_
  rintro e w1 ⟨rfl, rfl⟩
  go_wp2_with fail
  refine HKd.out.mono ?_
  intro e w2 hK
  obtain ⟨hb2, hb2', hK2⟩ := HKU.out e w2 hK
  clear hK
  rcases hK2 with ⟨hbig, rfl⟩ | ⟨hbig, vk, Z, X, rfl, hZ, hU⟩
  · have HE := hide (HE1.out w2 hb2 hbig)
    clear hbig
    go_wp2
    exact HE.out
  · have HM := hide (HMn.out vk Z X w2 _ hZ hU hb2')
    obtain ⟨pk, ck, ek⟩ := owns_sliceK hZ.row
    have HBg := hide hbig
    have HB2 := hide hb2
    subst ek
    generalize Z.length = zl at *
    clear hZ hU hbig hb2' hb2
    go_wp2_with fail
    refine HM.out.mono ?_
    rintro e w3 ⟨⟨q, rfl, hq⟩, hb3⟩
    have HE := hide (HE2.out w3 q (HB2.out.trans (hb3.mono HB2.out.size)) HBg.out hq)
    clear hq hb3
    go_wp2
    exact HE.out

end Go.Proofs.YtahffpgadoiijaaGreat

/- Contracts: checkMany; With. -/
namespace Go.Proofs.YtahffpgadoiijaaGreat
open Go.RowKit
set_option linter.unusedVariables false

/-- The sum as it is reckoned: it may wrap. -/
def wsm : List Int → Int → Int
  | [], a => a
  | x :: xs, a => wsm xs (IntKind.i64.wrap (a + x))

theorem wsm_snoc : ∀ (xs : List Int) (x a : Int), wsm (xs ++ [x]) a = IntKind.i64.wrap (wsm xs a + x)
  | [], x, a => rfl
  | y :: xs, x, a => wsm_snoc xs x (IntKind.i64.wrap (a + y))

theorem wsm_take {xs : List Int} {k : Nat} {x : Int} (h : xs[k]? = some x) : wsm (xs.take (k + 1)) 0 = IntKind.i64.wrap (wsm (xs.take k) 0 + x) := by
  rw [List.take_add_one, h]; exact wsm_snoc _ _ _

def mOk (n : Int) (xs : List Int) : Bool := xs.all (fun x => decide (0 ≤ x ∧ x ≤ n))

theorem mOk_take {n : Int} {xs : List Int} {k : Nat} {x : Int} (h : xs[k]? = some x) : mOk n (xs.take (k + 1)) = (mOk n (xs.take k) && decide (0 ≤ x ∧ x ≤ n)) := by
  unfold mOk
  rw [List.take_add_one, h, List.all_append]
  simp

theorem mOk_bad {n : Int} {xs : List Int} {k : Nat} {x : Int} (h : xs[k]? = some x) (hb : ¬ (0 ≤ x ∧ x ≤ n)) : mOk n xs = false := by
  unfold mOk
  rw [List.all_eq_false]
  exact ⟨x, List.mem_of_getElem? h, by simpa using hb⟩

/-- What With asks of the numbers. -/
def cmE (n : Int) (xs : List Int) : Int := if 8 < xs.length then 12 else if mOk n xs = false then 12 else if wsm xs 0 = n then 0 else 1

set_option maxRecDepth 20000 in
set_option maxHeartbeats 2000000 in
theorem checkMany_ok (n : Int) (v : Value) (xs : List Int) (w : World) (hI : Ints w v xs) :
    Calls Tryz.prog 62 #[.int .i64 n, v] w fun e w' => e = .returned (.int .i64 (cmE n xs)) ∧ w = w' := by
  have HI := hide hI
  obtain ⟨p0, c0, rfl⟩ := hI.form
  clear hI
  by_cases h8 : 8 < xs.length
  · have HE : Hid (cmE n xs = 12) := by show _ = _; unfold cmE; rw [if_pos h8]
    generalize xs.length = L at *
    generalize cmE n xs = E at *
    go_enter Tryz.func62, Tryz.ntmps62
    go_wp2
    go_ret
    exact ⟨by rw [HE.out]; rfl, rfl⟩
  · have HE1 : Hid (mOk n xs = false → cmE n xs = 12) := fun h => by unfold cmE; rw [if_neg h8, if_pos h]
    have HE2 : Hid (mOk n xs = true → cmE n xs = if wsm xs 0 = n then 0 else 1) := fun h => by unfold cmE; rw [if_neg h8, if_neg (by rw [h]; decide)]
    have HC : Hid (∀ k, k < xs.length → ∃ b off x, xs[k]? = some x ∧ p0 = some ⟨b, off, none⟩ ∧ xs.length ≤ c0 ∧ c0 ≤ 9223372036854775807 ∧ w.cell? ⟨b, off + k, none⟩ = some (.int .i64 x)) := fun k hk => by
      rcases HI.out with ⟨h0, _⟩ | ⟨b, off, cap, hv, h0, hcp, hm, hb, hcell⟩
      · rw [h0] at hk; simp at hk
      · injection hv with e1 _ e3
        subst e1; subst e3
        refine ⟨b, off, xs[k], List.getElem?_eq_getElem hk, rfl, hcp, hm, ?_⟩
        rw [hcell k hk]
        simp [List.getD, hk]
    have HT : Hid (xs.take xs.length = xs) := List.take_length
    generalize hLL : xs.length = L at *
    generalize cmE n xs = E at *
    clear hLL HI
    go_enter Tryz.func62, Tryz.ntmps62
    go_wp2
    go_loop [5, 13] (fun sa si => ∃ (k : Nat) (a : Int), k ≤ L ∧ sa = .int .i64 a ∧ si = .int .i64 (k : Int) ∧ Hid (a = wsm (xs.take k) 0) ∧ Hid (mOk n (xs.take k) = true)) (fun _ si => L - (intOf si).toNat)
    case atStart => exact ⟨0, 0, Nat.zero_le _, rfl, rfl, rfl, rfl⟩
    case round =>
      obtain ⟨k, a, hk, rfl, rfl, ha, hm⟩ := hrel
      by_cases hlt : k < L
      · obtain ⟨b, off, x, hx, rfl, hc1, hc2, hcx⟩ := HC.out k hlt
        by_cases h0 : x < 0
        · have HF := hide (HE1.out (mOk_bad hx (fun h => by omega)))
          have hd : decide (x < 0) = true := decide_eq_true h0
          clear hx
          go_wp2
          go_ret
          exact ⟨by rw [HF.out]; rfl, rfl⟩
        · have hd : decide (x < 0) = false := decide_eq_false h0
          by_cases h1 : n < x
          · have HF := hide (HE1.out (mOk_bad hx (fun h => by omega)))
            have hd2 : decide (x > n) = true := decide_eq_true h1
            clear hx
            go_wp2
            go_ret
            exact ⟨by rw [HF.out]; rfl, rfl⟩
          · have hd2 : decide (x > n) = false := decide_eq_false h1
            have HA : Hid (IntKind.i64.wrap (a + x) = wsm (xs.take (k + 1)) 0) := by show _ = _; rw [wsm_take hx, ← ha.out]
            have HM : Hid (mOk n (xs.take (k + 1)) = true) := by show _ = _; rw [mOk_take hx, hm.out, decide_eq_true ⟨by omega, by omega⟩]; rfl
            generalize hax : IntKind.i64.wrap (a + x) = ax at *
            clear hx ha hm
            go_wp2
            go_round
            case rel => exact ⟨k + 1, ax, hlt, by first | rfl | (rw [hax]) | go_num, by go_num, HA, HM⟩
            case measure => simp [intOf]; omega
      · obtain rfl : L = k := by omega
        have hm' := hm.out
        have ha' := ha.out
        rw [HT.out] at hm' ha'
        have HF := hide (HE2.out hm')
        rw [← ha'] at HF
        clear hm' ha' hm ha
        by_cases he : a = n
        · rw [if_pos he] at HF
          have hd : (a != n) = false := by simpa using he
          go_wp2
          go_ret
          exact ⟨by rw [HF.out]; rfl, rfl⟩
        · rw [if_neg he] at HF
          have hd : (a != n) = true := by simpa using he
          go_wp2
          go_ret
          exact ⟨by rw [HF.out]; rfl, rfl⟩

theorem wsm_nat : ∀ (many : List Nat) (a : Nat), a + many.sum ≤ 1000000 → wsm (natI many) (a : Int) = ((a + many.sum : Nat) : Int)
  | [], a, _ => by show (a : Int) = _; simp
  | x :: many, a, h => by
    rw [List.sum_cons] at h
    show wsm (natI many) (IntKind.i64.wrap ((a : Int) + (x : Int))) = _
    rw [show IntKind.i64.wrap ((a : Int) + (x : Int)) = ((a + x : Nat) : Int) by rw [IntKind.wrap_i64]; omega, wsm_nat many (a + x) (by omega), List.sum_cons, Nat.add_assoc]

/-- Numbers that With takes, of bells that may be. -/
theorem cmE_zero {n : Nat} {xs : List Int} (h : cmE (n : Int) xs = 0) (h1 : 1 ≤ n) (h12 : n ≤ 12) : ∃ many : List Nat, xs = natI many ∧ 1 ≤ many.length ∧ many.length ≤ 8 ∧ (∀ x, x ∈ many → x ≤ 12) := by
  unfold cmE at h
  by_cases a : 8 < xs.length
  · rw [if_pos a] at h; omega
  · rw [if_neg a] at h
    by_cases b : mOk (n : Int) xs = false
    · rw [if_pos b] at h; omega
    · rw [if_neg b] at h
      have b' : mOk (n : Int) xs = true := by simpa using b
      unfold mOk at b'
      rw [List.all_eq_true] at b'
      have hb : ∀ x, x ∈ xs → 0 ≤ x ∧ x ≤ (n : Int) := fun x hx => by simpa using b' x hx
      have e : xs = natI (xs.map Int.toNat) := by
        unfold natI
        rw [List.map_map]
        refine ((List.map_congr_left (fun x hx => ?_)).trans (List.map_id xs)).symm
        have := (hb x hx).1
        show ((x.toNat : Nat) : Int) = x
        omega
      refine ⟨xs.map Int.toNat, e, ?_, by rw [List.length_map]; omega, fun y hy => ?_⟩
      · rcases Nat.eq_zero_or_pos (xs.map Int.toNat).length with h0 | h0
        · rw [List.length_map] at h0
          have : xs = [] := List.eq_nil_of_length_eq_zero h0
          rw [this] at h
          simp [wsm] at h
          omega
        · exact h0
      · obtain ⟨x, hx, rfl⟩ := List.mem_map.1 hy
        have := hb x hx
        omega

theorem cmE_case (n : Int) (xs : List Int) : cmE n xs = 0 ∨ cmE n xs = 1 ∨ cmE n xs = 12 := by
  unfold cmE
  split
  · exact Or.inr (Or.inr rfl)
  · split
    · exact Or.inr (Or.inr rfl)
    · split
      · exact Or.inl rfl
      · exact Or.inr (Or.inl rfl)

end Go.Proofs.YtahffpgadoiijaaGreat
