/- Joined: SaG, AppK, SaH, SaI. -/
import Derived.Test.YtoiiadiimfohiaaJ3
import Derived.Test.YtoiiadiimfohiaaJ0
import Derived.Maps.AppendAt
import Derived.WalkSmall
/- A search in memory; contract: search's end. -/
namespace Go.Proofs.Ytoiiadiimfohiaa
open Go.RowKit

theorem LL.frm' {w w' : World} {base : Nat} {v : Value} {vs : List Value} {xss : List (List Int)} (h : LL w base v vs xss) (hb : ∀ b, base ≤ b → b < w.heap.size → w'.heap[b]? = w.heap[b]?) : LL w' base v vs xss :=
  ⟨owns_block h.row (fun g hg => hb g (h.row.lt g hg).1 (h.row.lt g hg).2), h.all.mono (fun _ _ _ h' => owns_block h' (fun g hg => hb g (h'.lt g hg).1 (h'.lt g hg).2))⟩

/-- Boxes of packed rows and of leads are as they were. -/
def Boxes (w w' : World) : Prop := ∀ (b : Nat) (cs : Array Value) (t : TypeId), w.heap[b]? = some (.cells cs t) → t = 85 ∨ t = 87 → w'.heap[b]? = w.heap[b]?

theorem Boxes.refl (w : World) : Boxes w w := fun _ _ _ _ _ => rfl

theorem Boxes.trans {a b c : World} (h : Boxes a b) (k : Boxes b c) : Boxes a c := fun x cs t h1 h2 => (k x cs t ((h x cs t h1 h2).trans h1) h2).trans (h x cs t h1 h2)

theorem Boxes.below {w w' : World} (h : Below w.heap.size w w') : Boxes w w' := fun x _ _ h1 _ => h.block x (Array.getElem?_eq_some_iff.1 h1).1

theorem Boxes.set {w : World} {sb j : Nat} {cs : Array Value} {u : Value} (h : w.heap[sb]? = some (.cells cs 81)) : Boxes w (w.setCell ⟨sb, j, none⟩ u) := fun x cs' t h1 h2 => Below.heap_setCell _ _ _ _ (fun e => by
  have e' : x = sb := e
  subst e'
  rw [h] at h1
  injection h1 with h3
  injection h3 with _ h4 _
  rcases h2 with h5 | h5 <;> rw [h5] at h4 <;> exact absurd h4 (by decide))

theorem Boxes.tb {w w' : World} {mb : Nat} {S : List Pm} (h : TB mb w w') (hm : PSet w mb S) : Boxes w w' := fun x cs t h1 _ => h.block x (Array.getElem?_eq_some_iff.1 h1).1 (fun e => by
  obtain ⟨es, k, h2⟩ := hm.obj
  rw [e, h2] at h1
  cases h1)

theorem Boxes.grown {w w' : World} {base e n : Nat} {v : Value} {xs : List Value} (h : w.ownsRow base e 1 v n xs) (hg : w.grownBy w' v.ownBlock) (he : e ≠ 85 ∧ e ≠ 87) : Boxes w w' := fun x cs t h1 h2 => hg.block x (Array.getElem?_eq_some_iff.1 h1).1 (fun ex => by
  rcases h.2 with ⟨rfl, _⟩ | ⟨g, cap, cur, rfl, _, h3, _⟩
  · cases ex
  · have e' : x = g := Option.some.inj ex
    rw [← e', h1] at h3
    injection h3 with h4
    injection h4 with _ h5 _
    rcases h2 with h6 | h6 <;> rw [h6] at h5
    · exact he.1 h5.symm
    · exact he.2 h5.symm)

/-- A search, as it lies. -/
structure Qs (w : World) (B sb mb leads many : Nat) (byv tv fv : Value) (met : Nat) (S : List Pm) (P : List Nat) (F : List (List Nat)) : Prop where
  blk : w.heap[sb]? = some (.cells #[.int .i64 leads, .int .i64 many, byv, .map (some mb), tv, .int .i64 met, fv] 81)
  set : PSet w mb S
  way : w.ownsRow B 3 1 tv P.length ((nI P).map (Value.int .i64))
  fnd : ∃ vs, LL w B fv vs (F.map nI) ∧ ∀ u, u ∈ vs → ∀ g, u.ownBlock = some g → tv.ownBlock ≠ some g

theorem Qs.drew {w : World} {B sb mb leads many : Nat} {byv tv fv : Value} {met : Nat} {S : List Pm} {P : List Nat} {F : List (List Nat)} (h : Qs w B sb mb leads many byv tv fv met S P F) : Qs w.drew B sb mb leads many byv tv fv met S P F := by
  obtain ⟨vs, hL, ha⟩ := h.fnd
  exact ⟨h.blk, h.set.of_block rfl, h.way, vs, hL.frm' (fun _ _ _ => rfl), ha⟩

theorem Qs.below {w w' : World} {B sb mb leads many : Nat} {byv tv fv : Value} {met : Nat} {S : List Pm} {P : List Nat} {F : List (List Nat)} (h : Qs w B sb mb leads many byv tv fv met S P F) (hb : Below w.heap.size w w') (h1 : sb < w.heap.size) (h2 : mb < w.heap.size) : Qs w' B sb mb leads many byv tv fv met S P F := by
  obtain ⟨vs, hL, ha⟩ := h.fnd
  exact ⟨(hb.block sb h1).trans h.blk, h.set.of_block (hb.block mb h2), owns_below h.way hb (Nat.le_refl _), vs, hL.below hb, ha⟩

theorem cells7 {w1 : World} {B : Nat} {a b c d e f g : Value} {t : TypeId} (h : w1.heap[B]? = some (.cells #[a, b, c, d, e, f, g] t)) :
    w1.cell? ⟨B, 0, none⟩ = some a ∧ w1.cell? ⟨B, 1, none⟩ = some b ∧ w1.cell? ⟨B, 2, none⟩ = some c ∧ w1.cell? ⟨B, 3, none⟩ = some d ∧ w1.cell? ⟨B, 4, none⟩ = some e ∧ w1.cell? ⟨B, 5, none⟩ = some f ∧ w1.cell? ⟨B, 6, none⟩ = some g ∧ w1.frozen? ⟨B, 4, none⟩ = false ∧ w1.frozen? ⟨B, 5, none⟩ = false ∧ w1.frozen? ⟨B, 6, none⟩ = false := by
  simp [World.cell?, World.frozen?, h]

theorem set7t {w1 : World} {B : Nat} {a b c d e f g : Value} {t : TypeId} (h : w1.heap[B]? = some (.cells #[a, b, c, d, e, f, g] t)) (u : Value) : (w1.setCell ⟨B, 4, none⟩ u).heap[B]? = some (.cells #[a, b, c, d, u, f, g] t) := by
  simp [World.setCell, Array.getElem?_modify, h]
theorem set7m {w1 : World} {B : Nat} {a b c d e f g : Value} {t : TypeId} (h : w1.heap[B]? = some (.cells #[a, b, c, d, e, f, g] t)) (u : Value) : (w1.setCell ⟨B, 5, none⟩ u).heap[B]? = some (.cells #[a, b, c, d, e, u, g] t) := by
  simp [World.setCell, Array.getElem?_modify, h]
theorem set7f {w1 : World} {B : Nat} {a b c d e f g : Value} {t : TypeId} (h : w1.heap[B]? = some (.cells #[a, b, c, d, e, f, g] t)) (u : Value) : (w1.setCell ⟨B, 6, none⟩ u).heap[B]? = some (.cells #[a, b, c, d, e, f, u] t) := by
  simp [World.setCell, Array.getElem?_modify, h]

def EndPost (B sb mb leads many : Nat) (byv tv : Value) (met : Nat) (S : List Pm) (P : List Nat) (R : List (List Nat)) (w : World) (e : Ending) (w' : World) : Prop :=
  Frm B sb mb w w' ∧ Boxes w w' ∧ ∃ fv, e = .returned (.bool (decide (R.length < many))) ∧ Qs w' B sb mb leads many byv tv fv met S P R

set_option maxRecDepth 20000 in
set_option maxHeartbeats 8000000 in
theorem end_yes (B sb mb leads many : Nat) (byv tv fv : Value) (met : Nat) (S : List Pm) (P : List Nat) (F : List (List Nat)) (w : World) (hQ : Qs w B sb mb leads many byv tv fv met S P F) (hsbB : sb < B) (hmbB : mb < B) (hne : sb ≠ mb) (hB : B ≤ w.heap.size) (hF : F.length < many) (hmany : many ≤ 50) (hP : P.length ≤ 1000) :
    Calls Try.prog 71 #[.pointer (some ⟨sb, 0, none⟩), pv 1] w (EndPost B sb mb leads many byv tv met S P (F ++ [P]) w) := by
  obtain ⟨i0, hi, hz0, hz1, hz2⟩ := info_parts Try.info26
  obtain ⟨vs, hLL, hApart⟩ := hQ.fnd
  have hvn : vs.length = F.length := by rw [hLL.len, List.length_map]
  have hfr := hLL.row
  rw [hvn] at hfr
  obtain ⟨fp, fc, rfl⟩ := owns_slice hfr
  obtain ⟨tp, tc, rfl⟩ := owns_slice hQ.way
  have hl1 := (1 : Pm).len
  have hBAA : Below w.heap.size w (w.alloc (.cells (i8s (1 : Pm).l) 85)) := (Below.refl _ _).alloc (Nat.le_refl _) _
  have HA0 := hide (SAr.new w (1 : Pm).l hl1)
  have HQ := hide hQ
  have HVN := hide hvn
  have HApart := hide hApart
  have heq : ∀ W, (binOp .eql 85 (.agg ((1 : Pm).l.map (Value.int .i8)).toArray) (.agg (i8s (1 : Pm).l))).run Try.prog W = .ok (.bool true) W := fun W => by
    obtain ⟨r, hr, hiff⟩ := peq 1 1 W
    rw [hiff.2 rfl] at hr
    exact hr
  have hll0 := hLL
  have HLL := hide hLL
  clear hQ hLL hfr hvn hApart hll0
  unfold pv
  go_enter Try.func71, Try.ntmps71
  go_upto_region 1 with fail
  generalize hW0 : w.alloc (.cells (i8s (1 : Pm).l) 85) = W0 at *
  refine wp_region_held_drew (S := fun W' => SAr W' w.heap.size (1 : Pm).l) (by kernel_rfl) HA0.out (fun hS => ?_)
  refine wpAnyH_take (i := 0) rfl (by kernel_rfl) (by kernel_rfl) (by kernel_rfl) (fun _ _ _ h => h) (yieldsIf_load_mid (by kernel_rfl) _ _ rfl w.heap.size 0 rfl ((1 : Pm).l.map (Value.int .i8)) _ (fun w' hS' => SAr.range hS') Try.underlying85 rfl (by rw [Try.size85, List.length_map, Pm.len])) hS ?_
  refine wpAnyH_ready (rs := [1]) (by kernel_rfl) (by simp) ?_
  refine AllReadyH.cons rfl (fun K hK => ?_) (AllReadyH.nil)
  go_simp
  refine (srounds_ok W0.drew).mono ?_
  unfold pv
  rintro e W1 ⟨rfl, hb1⟩
  have hb01 : Below W0.heap.size W0 W1 := ((Below.refl _ _).drew).trans hb1
  refine hK.out _ _ (HA0.out.below hb01 HA0.out.lt) (fun hS => ?_)
  clear hK
  refine wpAnyH_take (i := 2) (v := .bool true) rfl (by kernel_rfl) (by kernel_rfl) (by kernel_rfl) (fun _ _ _ h => h) (Or.inl ⟨by kernel_rfl, fun w' hS' => by have hq := heq w'; go_simp⟩) hS ?_
  refine wpAnyH_done (by kernel_rfl) ?_ _
  have hbw1 : Below w.heap.size w W1 := hBAA.trans (hb01.mono hBAA.size)
  have hBW : B ≤ W1.heap.size := Nat.le_trans hB hbw1.size
  have hsb1 : sb < W1.heap.size := by omega
  have HFr : Hid (Frm B sb mb w W1) := Frm.of_below hbw1 hB
  have HBx := hide (Boxes.below hbw1)
  have HBK := hide ((hbw1.block sb (by omega)).trans HQ.out.blk)
  have HPS := hide (HQ.out.set.of_block (hbw1.block mb (by omega)))
  have HWY := hide (owns_below HQ.out.way hbw1 (Nat.le_refl _))
  have HFL := hide (HLL.out.below hbw1)
  have HCL := hide (fun W (hW : Below W1.heap.size W1 W) => clone_own (xs := nI P) (base := B) (by rw [nI_len]; exact owns_below HWY.out hW (Nat.le_refl _)) (by rw [nI_len]; omega))
  rw [nI_len] at HCL
  obtain ⟨z0, z1, z2, z3, z4, z5, z6, _, _, _⟩ := cells7 HBK.out
  have hd0 : Below W1.heap.size W1 W1.drew := (Below.refl _ _).drew
  clear heq HA0 hb1 hb01 hbw1 hS HLL HQ z0 z1 z2 z3 z5
  go_upto_region 2 with fail
  refine wp_region_held_drew (S := fun W' => W'.cell? ⟨sb, 4, none⟩ = some (.slice tp P.length tc)) (by kernel_rfl) z4 (fun hS => ?_)
  refine wpAnyH_take (i := 0) (v := .pointer (some ⟨sb, 0, none⟩)) rfl (by kernel_rfl) (by kernel_rfl) (by kernel_rfl) (fun _ _ _ h => h) (Or.inl ⟨by kernel_rfl, fun w' hS' => by go_simp⟩) hS ?_
  refine wpAnyH_take (i := 1) (v := .pointer (some ⟨sb, 0, none⟩)) rfl (by kernel_rfl) (by kernel_rfl) (by kernel_rfl) (fun _ _ _ h => h) (Or.inl ⟨by kernel_rfl, fun w' hS' => by go_simp⟩) hS ?_
  refine wpAnyH_take (i := 2) (v := .pointer (some ⟨sb, 0, none⟩)) rfl (by kernel_rfl) (by kernel_rfl) (by kernel_rfl) (fun _ _ _ h => h) (Or.inl ⟨by kernel_rfl, fun w' hS' => by go_simp⟩) hS ?_
  refine wpAnyH_take (i := 3) (v := .pointer (some ⟨sb, 6, none⟩)) rfl (by kernel_rfl) (by kernel_rfl) (by kernel_rfl) (fun _ _ _ h => h) (Or.inl ⟨by kernel_rfl, fun w' hS' => by go_simp⟩) hS ?_
  refine wpAnyH_take (i := 5) (v := .pointer (some ⟨sb, 0, none⟩)) rfl (by kernel_rfl) (by kernel_rfl) (by kernel_rfl) (fun _ _ _ h => h) (Or.inl ⟨by kernel_rfl, fun w' hS' => by go_simp⟩) hS ?_
  refine wpAnyH_take (i := 6) (v := .pointer (some ⟨sb, 0, none⟩)) rfl (by kernel_rfl) (by kernel_rfl) (by kernel_rfl) (fun _ _ _ h => h) (Or.inl ⟨by kernel_rfl, fun w' hS' => by go_simp⟩) hS ?_
  refine wpAnyH_take (i := 7) (v := .pointer (some ⟨sb, 4, none⟩)) rfl (by kernel_rfl) (by kernel_rfl) (by kernel_rfl) (fun _ _ _ h => h) (Or.inl ⟨by kernel_rfl, fun w' hS' => by go_simp⟩) hS ?_
  refine wpAnyH_take (i := 8) (v := .slice tp P.length tc) rfl (by kernel_rfl) (by kernel_rfl) (by kernel_rfl) (fun _ _ _ h => h) (Or.inl ⟨by kernel_rfl, fun w' hS' => by go_simp⟩) hS ?_
  refine wpAnyH_ready (rs := [4, 9]) (by kernel_rfl) (by simp) ?_
  refine AllReadyH.cons rfl (fun K hK => ?_) (AllReadyH.cons rfl (fun K hK => ?_) (AllReadyH.nil))
  · go_simp
    refine hK.out _ _ z4 (fun hS => ?_)
    clear hK
    refine wpAnyH_ready (rs := [9]) (by kernel_rfl) (by simp) ?_
    refine AllReadyH.cons rfl (fun K hK => ?_) (AllReadyH.nil)
    go_simp
    refine (HCL.out W1.drew hd0).mono ?_
    rintro ex wo ⟨lu, rfl, hlu, hbo⟩
    have hBo : Below W1.heap.size W1 wo := hd0.trans (hbo.mono hd0.size)
    have x4 : wo.cell? ⟨sb, 4, none⟩ = some (.slice tp P.length tc) := (hBo.cell (p := ⟨sb, 4, none⟩) hsb1).trans z4
    have x6 : wo.cell? ⟨sb, 6, none⟩ = some (.slice fp F.length fc) := (hBo.cell (p := ⟨sb, 6, none⟩) hsb1).trans z6
    obtain ⟨lp, lc, rfl⟩ := owns_slice hlu
    have hBA : Below wo.heap.size wo (wo.alloc (.cells #[.slice lp P.length lc] 26)) := (Below.refl _ _).alloc (Nat.le_refl _) _
    have x4a : (wo.alloc (.cells #[.slice lp P.length lc] 26)).cell? ⟨sb, 4, none⟩ = some (.slice tp P.length tc) := (hBA.cell (p := ⟨sb, 4, none⟩) (by have := hBo.size; show sb < wo.heap.size; omega)).trans x4
    have x6a : (wo.alloc (.cells #[.slice lp P.length lc] 26)).cell? ⟨sb, 6, none⟩ = some (.slice fp F.length fc) := (hBA.cell (p := ⟨sb, 6, none⟩) (by have := hBo.size; show sb < wo.heap.size; omega)).trans x6
    refine hK.out _ _ x4 (fun hS => ?_)
    clear hK
    refine wpAnyH_ready (rs := [10]) (by kernel_rfl) (by simp) ?_
    refine AllReadyH.cons rfl (fun K hK => ?_) (AllReadyH.nil)
    go_simp
    refine hK.out _ _ x4a (fun hS => ?_)
    clear hK
    refine wpAnyH_ready (rs := [11]) (by kernel_rfl) (by simp) ?_
    refine AllReadyH.cons rfl (fun K hK => ?_) (AllReadyH.nil)
    have hL1 := (HFL.out.below hBo)
    have hrow1 := hL1.row
    rw [HVN.out] at hrow1
    have HL1 := hide hL1
    have HLU := hide (owns_base hlu (show B ≤ W1.drew.heap.size from hBW))
    have hso := hBo.size
    refine step_append_own rfl (.tmp 12) (.tmp 18) 22 rfl B 26 i0 (.slice none 0 0) 1 24 Try.underlying22 hi hz0 hz1 hz2 rfl (by decide) (.slice fp F.length fc) F.length vs rfl (hrow1.alloc _) ⟨wo.heap.size, 0, none⟩ 1 1 [.slice lp P.length lc] rfl rfl (cell_one_new _ _ _) (by intro u hu; simp at hu; subst hu; rfl) (by unfold maxLen; omega) (by omega) (by simp; omega) ?_
    intro v' w4 hown4 hgrow
    have hb4 : Below B W1 w4 := ((hBo.mono hBW).alloc (by omega) _).grown hgrow (by simp; omega) (fun g hg => (hrow1.lt g hg).1)
    have hk4 := (hb4.block sb hsbB).trans HBK.out
    obtain ⟨y0, y1, y2, y3, y4, y5, y6, g4, g5, g6⟩ := cells7 hk4
    refine hK.out _ _ y4 (fun hS => ?_)
    clear hK
    refine wpAnyH_take (i := 12) (v := .pointer (some ⟨sb, 0, none⟩)) rfl (by kernel_rfl) (by kernel_rfl) (by kernel_rfl) (fun _ _ _ h => h) (Or.inl ⟨by kernel_rfl, fun w' hS' => by go_simp⟩) hS ?_
    refine wpAnyH_take (i := 13) (v := .pointer (some ⟨sb, 6, none⟩)) rfl (by kernel_rfl) (by kernel_rfl) (by kernel_rfl) (fun _ _ _ h => h) (Or.inl ⟨by kernel_rfl, fun w' hS' => by go_simp⟩) hS ?_
    refine wpAnyH_ready (rs := [14]) (by kernel_rfl) (by simp) ?_
    refine AllReadyH.cons rfl (fun K hK => ?_) (AllReadyH.nil)
    obtain ⟨vp, vc, rfl⟩ := owns_slice hown4
    go_simp
    have HS5 := hide (set7f hk4 (.slice vp (F.length + 1) vc))
    have HL4 : Hid (LL w4 B (.slice vp (F.length + 1) vc) (vs ++ [.slice lp P.length lc]) ((F ++ [P]).map nI)) := by
      show LL _ _ _ _ _
      rw [List.map_append]
      exact HL1.out.push (by rw [nI_len]; exact HLU.out) (by rw [HVN.out]; exact hown4) hgrow
    have HL5 : Hid (LL (w4.setCell ⟨sb, 6, none⟩ (.slice vp (F.length + 1) vc)) B (.slice vp (F.length + 1) vc) (vs ++ [.slice lp P.length lc]) ((F ++ [P]).map nI)) := HL4.out.frm' (fun b h1 _ => Below.heap_setCell _ _ _ _ (by show b ≠ sb; omega))
    have HF5 : Hid (Frm B sb mb w (w4.setCell ⟨sb, 6, none⟩ (.slice vp (F.length + 1) vc))) := (HFr.out.trans (Frm.of_below hb4 (Nat.le_refl _))).set 6 _
    have HBx5 : Hid (Boxes w (w4.setCell ⟨sb, 6, none⟩ (.slice vp (F.length + 1) vc))) := ((HBx.out.trans (Boxes.below (hBo.alloc (Nat.le_trans (Nat.le_refl _) hBo.size) (.cells #[.slice lp P.length lc] 26)))).trans (Boxes.grown (hrow1.alloc _) hgrow (by decide))).trans (Boxes.set hk4)
    have HW5 : Hid ((w4.setCell ⟨sb, 6, none⟩ (.slice vp (F.length + 1) vc)).ownsRow B 3 1 (.slice tp P.length tc) P.length ((nI P).map (Value.int .i64))) := by
      have h1 := owns_below HWY.out hBo (Nat.le_refl _)
      have h2 := owns_kept_ty (h1.alloc (.cells #[.slice lp P.length lc] 26)) (hrow1.alloc _) hgrow
      exact owns_block h2 (fun g hg => Below.heap_setCell _ _ _ _ (by have := (h2.lt g hg).1; show g ≠ sb; omega))
    have HI5 : Hid (PSet (w4.setCell ⟨sb, 6, none⟩ (.slice vp (F.length + 1) vc)) mb S) := HPS.out.of_block ((Below.heap_setCell _ _ _ _ (by show mb ≠ sb; omega)).trans (hb4.block mb hmbB))
    have HAP : Hid (∀ u, u ∈ vs ++ [Value.slice lp P.length lc] → ∀ g, u.ownBlock = some g → (Value.slice tp P.length tc).ownBlock ≠ some g) := fun u hu g hg => by
      rcases List.mem_append.1 hu with h | h
      · exact HApart.out u h g hg
      · rw [List.mem_singleton] at h
        subst h
        intro e
        have h1 := (hlu.lt g hg).1
        have h2 := (HWY.out.lt g e).2
        have h3 : W1.heap.size ≤ g := h1
        omega
    have HQ5 : Hid (Qs (w4.setCell ⟨sb, 6, none⟩ (.slice vp (F.length + 1) vc)) B sb mb leads many byv (.slice tp P.length tc) (.slice vp (F.length + 1) vc) met S P (F ++ [P])) := ⟨HS5.out, HI5.out, HW5.out, _, HL5.out, HAP.out⟩
    clear HL4 HL5 HS5 HW5 HI5 HAP hb4 hk4 y0 y1 y2 y3 y4 y5 y6 g4 g5 g6 hown4 hgrow hrow1 hL1 HL1 HLU
    generalize w4.setCell ⟨sb, 6, none⟩ (.slice vp (F.length + 1) vc) = w5 at *
    have hq5 := HQ5.out
    refine hK.out _ _ ?hSS (fun hS => ?_)
    case hSS => exact (cells7 HQ5.out.blk).2.2.2.2.1
    clear hK hq5
    refine wpAnyH_done (by kernel_rfl) ?_ _
    clear hS x4 x6 x4a x6a hBo hlu hbo hBA
    obtain ⟨t0, t1, t2, t3, t4, t5, t6, _, _, _⟩ := cells7 (show w5.drew.heap[sb]? = _ from HQ5.out.blk)
    have HFd : Hid (decide (((F.length : Nat) : Int) + 1 < ((many : Nat) : Int)) = decide ((F ++ [P]).length < many)) := by
      show _ = _
      rw [List.length_append, List.length_singleton, decide_eq_decide]
      omega
    go_upto_region 3 with fail
    go_region
    go_wp2
    go_ret
    exact ⟨HF5.out.trans (Frm.of_below ((Below.refl B _).drew) (Nat.le_refl _)), HBx5.out, _, ret_bool HFd.out, HQ5.out.drew⟩
  · go_simp
    refine (HCL.out W1.drew hd0).mono ?_
    rintro ex wo ⟨lu, rfl, hlu, hbo⟩
    have hBo : Below W1.heap.size W1 wo := hd0.trans (hbo.mono hd0.size)
    have x4 : wo.cell? ⟨sb, 4, none⟩ = some (.slice tp P.length tc) := (hBo.cell (p := ⟨sb, 4, none⟩) hsb1).trans z4
    have x6 : wo.cell? ⟨sb, 6, none⟩ = some (.slice fp F.length fc) := (hBo.cell (p := ⟨sb, 6, none⟩) hsb1).trans z6
    obtain ⟨lp, lc, rfl⟩ := owns_slice hlu
    have hBA : Below wo.heap.size wo (wo.alloc (.cells #[.slice lp P.length lc] 26)) := (Below.refl _ _).alloc (Nat.le_refl _) _
    have x4a : (wo.alloc (.cells #[.slice lp P.length lc] 26)).cell? ⟨sb, 4, none⟩ = some (.slice tp P.length tc) := (hBA.cell (p := ⟨sb, 4, none⟩) (by have := hBo.size; show sb < wo.heap.size; omega)).trans x4
    have x6a : (wo.alloc (.cells #[.slice lp P.length lc] 26)).cell? ⟨sb, 6, none⟩ = some (.slice fp F.length fc) := (hBA.cell (p := ⟨sb, 6, none⟩) (by have := hBo.size; show sb < wo.heap.size; omega)).trans x6
    refine hK.out _ _ x4 (fun hS => ?_)
    clear hK
    refine wpAnyH_ready (rs := [4, 10]) (by kernel_rfl) (by simp) ?_
    refine AllReadyH.cons rfl (fun K hK => ?_) (AllReadyH.cons rfl (fun K hK => ?_) (AllReadyH.nil))
    · go_simp
      refine hK.out _ _ x4 (fun hS => ?_)
      clear hK
      refine wpAnyH_ready (rs := [10]) (by kernel_rfl) (by simp) ?_
      refine AllReadyH.cons rfl (fun K hK => ?_) (AllReadyH.nil)
      go_simp
      refine hK.out _ _ x4a (fun hS => ?_)
      clear hK
      refine wpAnyH_ready (rs := [11]) (by kernel_rfl) (by simp) ?_
      refine AllReadyH.cons rfl (fun K hK => ?_) (AllReadyH.nil)
      have hL1 := (HFL.out.below hBo)
      have hrow1 := hL1.row
      rw [HVN.out] at hrow1
      have HL1 := hide hL1
      have HLU := hide (owns_base hlu (show B ≤ W1.drew.heap.size from hBW))
      have hso := hBo.size
      refine step_append_own rfl (.tmp 12) (.tmp 18) 22 rfl B 26 i0 (.slice none 0 0) 1 24 Try.underlying22 hi hz0 hz1 hz2 rfl (by decide) (.slice fp F.length fc) F.length vs rfl (hrow1.alloc _) ⟨wo.heap.size, 0, none⟩ 1 1 [.slice lp P.length lc] rfl rfl (cell_one_new _ _ _) (by intro u hu; simp at hu; subst hu; rfl) (by unfold maxLen; omega) (by omega) (by simp; omega) ?_
      intro v' w4 hown4 hgrow
      have hb4 : Below B W1 w4 := ((hBo.mono hBW).alloc (by omega) _).grown hgrow (by simp; omega) (fun g hg => (hrow1.lt g hg).1)
      have hk4 := (hb4.block sb hsbB).trans HBK.out
      obtain ⟨y0, y1, y2, y3, y4, y5, y6, g4, g5, g6⟩ := cells7 hk4
      refine hK.out _ _ y4 (fun hS => ?_)
      clear hK
      refine wpAnyH_take (i := 12) (v := .pointer (some ⟨sb, 0, none⟩)) rfl (by kernel_rfl) (by kernel_rfl) (by kernel_rfl) (fun _ _ _ h => h) (Or.inl ⟨by kernel_rfl, fun w' hS' => by go_simp⟩) hS ?_
      refine wpAnyH_take (i := 13) (v := .pointer (some ⟨sb, 6, none⟩)) rfl (by kernel_rfl) (by kernel_rfl) (by kernel_rfl) (fun _ _ _ h => h) (Or.inl ⟨by kernel_rfl, fun w' hS' => by go_simp⟩) hS ?_
      refine wpAnyH_ready (rs := [14]) (by kernel_rfl) (by simp) ?_
      refine AllReadyH.cons rfl (fun K hK => ?_) (AllReadyH.nil)
      obtain ⟨vp, vc, rfl⟩ := owns_slice hown4
      go_simp
      have HS5 := hide (set7f hk4 (.slice vp (F.length + 1) vc))
      have HL4 : Hid (LL w4 B (.slice vp (F.length + 1) vc) (vs ++ [.slice lp P.length lc]) ((F ++ [P]).map nI)) := by
        show LL _ _ _ _ _
        rw [List.map_append]
        exact HL1.out.push (by rw [nI_len]; exact HLU.out) (by rw [HVN.out]; exact hown4) hgrow
      have HL5 : Hid (LL (w4.setCell ⟨sb, 6, none⟩ (.slice vp (F.length + 1) vc)) B (.slice vp (F.length + 1) vc) (vs ++ [.slice lp P.length lc]) ((F ++ [P]).map nI)) := HL4.out.frm' (fun b h1 _ => Below.heap_setCell _ _ _ _ (by show b ≠ sb; omega))
      have HF5 : Hid (Frm B sb mb w (w4.setCell ⟨sb, 6, none⟩ (.slice vp (F.length + 1) vc))) := (HFr.out.trans (Frm.of_below hb4 (Nat.le_refl _))).set 6 _
      have HBx5 : Hid (Boxes w (w4.setCell ⟨sb, 6, none⟩ (.slice vp (F.length + 1) vc))) := ((HBx.out.trans (Boxes.below (hBo.alloc (Nat.le_trans (Nat.le_refl _) hBo.size) (.cells #[.slice lp P.length lc] 26)))).trans (Boxes.grown (hrow1.alloc _) hgrow (by decide))).trans (Boxes.set hk4)
      have HW5 : Hid ((w4.setCell ⟨sb, 6, none⟩ (.slice vp (F.length + 1) vc)).ownsRow B 3 1 (.slice tp P.length tc) P.length ((nI P).map (Value.int .i64))) := by
        have h1 := owns_below HWY.out hBo (Nat.le_refl _)
        have h2 := owns_kept_ty (h1.alloc (.cells #[.slice lp P.length lc] 26)) (hrow1.alloc _) hgrow
        exact owns_block h2 (fun g hg => Below.heap_setCell _ _ _ _ (by have := (h2.lt g hg).1; show g ≠ sb; omega))
      have HI5 : Hid (PSet (w4.setCell ⟨sb, 6, none⟩ (.slice vp (F.length + 1) vc)) mb S) := HPS.out.of_block ((Below.heap_setCell _ _ _ _ (by show mb ≠ sb; omega)).trans (hb4.block mb hmbB))
      have HAP : Hid (∀ u, u ∈ vs ++ [Value.slice lp P.length lc] → ∀ g, u.ownBlock = some g → (Value.slice tp P.length tc).ownBlock ≠ some g) := fun u hu g hg => by
        rcases List.mem_append.1 hu with h | h
        · exact HApart.out u h g hg
        · rw [List.mem_singleton] at h
          subst h
          intro e
          have h1 := (hlu.lt g hg).1
          have h2 := (HWY.out.lt g e).2
          have h3 : W1.heap.size ≤ g := h1
          omega
      have HQ5 : Hid (Qs (w4.setCell ⟨sb, 6, none⟩ (.slice vp (F.length + 1) vc)) B sb mb leads many byv (.slice tp P.length tc) (.slice vp (F.length + 1) vc) met S P (F ++ [P])) := ⟨HS5.out, HI5.out, HW5.out, _, HL5.out, HAP.out⟩
      clear HL4 HL5 HS5 HW5 HI5 HAP hb4 hk4 y0 y1 y2 y3 y4 y5 y6 g4 g5 g6 hown4 hgrow hrow1 hL1 HL1 HLU
      generalize w4.setCell ⟨sb, 6, none⟩ (.slice vp (F.length + 1) vc) = w5 at *
      have hq5 := HQ5.out
      refine hK.out _ _ ?hSS (fun hS => ?_)
      case hSS => exact (cells7 HQ5.out.blk).2.2.2.2.1
      clear hK hq5
      refine wpAnyH_done (by kernel_rfl) ?_ _
      clear hS x4 x6 x4a x6a hBo hlu hbo hBA
      obtain ⟨t0, t1, t2, t3, t4, t5, t6, _, _, _⟩ := cells7 (show w5.drew.heap[sb]? = _ from HQ5.out.blk)
      have HFd : Hid (decide (((F.length : Nat) : Int) + 1 < ((many : Nat) : Int)) = decide ((F ++ [P]).length < many)) := by
        show _ = _
        rw [List.length_append, List.length_singleton, decide_eq_decide]
        omega
      go_upto_region 3 with fail
      go_region
      go_wp2
      go_ret
      exact ⟨HF5.out.trans (Frm.of_below ((Below.refl B _).drew) (Nat.le_refl _)), HBx5.out, _, ret_bool HFd.out, HQ5.out.drew⟩
    · go_simp
      refine hK.out _ _ x4a (fun hS => ?_)
      clear hK
      refine wpAnyH_ready (rs := [4]) (by kernel_rfl) (by simp) ?_
      refine AllReadyH.cons rfl (fun K hK => ?_) (AllReadyH.nil)
      go_simp
      refine hK.out _ _ x4a (fun hS => ?_)
      clear hK
      refine wpAnyH_ready (rs := [11]) (by kernel_rfl) (by simp) ?_
      refine AllReadyH.cons rfl (fun K hK => ?_) (AllReadyH.nil)
      have hL1 := (HFL.out.below hBo)
      have hrow1 := hL1.row
      rw [HVN.out] at hrow1
      have HL1 := hide hL1
      have HLU := hide (owns_base hlu (show B ≤ W1.drew.heap.size from hBW))
      have hso := hBo.size
      refine step_append_own rfl (.tmp 12) (.tmp 18) 22 rfl B 26 i0 (.slice none 0 0) 1 24 Try.underlying22 hi hz0 hz1 hz2 rfl (by decide) (.slice fp F.length fc) F.length vs rfl (hrow1.alloc _) ⟨wo.heap.size, 0, none⟩ 1 1 [.slice lp P.length lc] rfl rfl (cell_one_new _ _ _) (by intro u hu; simp at hu; subst hu; rfl) (by unfold maxLen; omega) (by omega) (by simp; omega) ?_
      intro v' w4 hown4 hgrow
      have hb4 : Below B W1 w4 := ((hBo.mono hBW).alloc (by omega) _).grown hgrow (by simp; omega) (fun g hg => (hrow1.lt g hg).1)
      have hk4 := (hb4.block sb hsbB).trans HBK.out
      obtain ⟨y0, y1, y2, y3, y4, y5, y6, g4, g5, g6⟩ := cells7 hk4
      refine hK.out _ _ y4 (fun hS => ?_)
      clear hK
      refine wpAnyH_take (i := 12) (v := .pointer (some ⟨sb, 0, none⟩)) rfl (by kernel_rfl) (by kernel_rfl) (by kernel_rfl) (fun _ _ _ h => h) (Or.inl ⟨by kernel_rfl, fun w' hS' => by go_simp⟩) hS ?_
      refine wpAnyH_take (i := 13) (v := .pointer (some ⟨sb, 6, none⟩)) rfl (by kernel_rfl) (by kernel_rfl) (by kernel_rfl) (fun _ _ _ h => h) (Or.inl ⟨by kernel_rfl, fun w' hS' => by go_simp⟩) hS ?_
      refine wpAnyH_ready (rs := [14]) (by kernel_rfl) (by simp) ?_
      refine AllReadyH.cons rfl (fun K hK => ?_) (AllReadyH.nil)
      obtain ⟨vp, vc, rfl⟩ := owns_slice hown4
      go_simp
      have HS5 := hide (set7f hk4 (.slice vp (F.length + 1) vc))
      have HL4 : Hid (LL w4 B (.slice vp (F.length + 1) vc) (vs ++ [.slice lp P.length lc]) ((F ++ [P]).map nI)) := by
        show LL _ _ _ _ _
        rw [List.map_append]
        exact HL1.out.push (by rw [nI_len]; exact HLU.out) (by rw [HVN.out]; exact hown4) hgrow
      have HL5 : Hid (LL (w4.setCell ⟨sb, 6, none⟩ (.slice vp (F.length + 1) vc)) B (.slice vp (F.length + 1) vc) (vs ++ [.slice lp P.length lc]) ((F ++ [P]).map nI)) := HL4.out.frm' (fun b h1 _ => Below.heap_setCell _ _ _ _ (by show b ≠ sb; omega))
      have HF5 : Hid (Frm B sb mb w (w4.setCell ⟨sb, 6, none⟩ (.slice vp (F.length + 1) vc))) := (HFr.out.trans (Frm.of_below hb4 (Nat.le_refl _))).set 6 _
      have HBx5 : Hid (Boxes w (w4.setCell ⟨sb, 6, none⟩ (.slice vp (F.length + 1) vc))) := ((HBx.out.trans (Boxes.below (hBo.alloc (Nat.le_trans (Nat.le_refl _) hBo.size) (.cells #[.slice lp P.length lc] 26)))).trans (Boxes.grown (hrow1.alloc _) hgrow (by decide))).trans (Boxes.set hk4)
      have HW5 : Hid ((w4.setCell ⟨sb, 6, none⟩ (.slice vp (F.length + 1) vc)).ownsRow B 3 1 (.slice tp P.length tc) P.length ((nI P).map (Value.int .i64))) := by
        have h1 := owns_below HWY.out hBo (Nat.le_refl _)
        have h2 := owns_kept_ty (h1.alloc (.cells #[.slice lp P.length lc] 26)) (hrow1.alloc _) hgrow
        exact owns_block h2 (fun g hg => Below.heap_setCell _ _ _ _ (by have := (h2.lt g hg).1; show g ≠ sb; omega))
      have HI5 : Hid (PSet (w4.setCell ⟨sb, 6, none⟩ (.slice vp (F.length + 1) vc)) mb S) := HPS.out.of_block ((Below.heap_setCell _ _ _ _ (by show mb ≠ sb; omega)).trans (hb4.block mb hmbB))
      have HAP : Hid (∀ u, u ∈ vs ++ [Value.slice lp P.length lc] → ∀ g, u.ownBlock = some g → (Value.slice tp P.length tc).ownBlock ≠ some g) := fun u hu g hg => by
        rcases List.mem_append.1 hu with h | h
        · exact HApart.out u h g hg
        · rw [List.mem_singleton] at h
          subst h
          intro e
          have h1 := (hlu.lt g hg).1
          have h2 := (HWY.out.lt g e).2
          have h3 : W1.heap.size ≤ g := h1
          omega
      have HQ5 : Hid (Qs (w4.setCell ⟨sb, 6, none⟩ (.slice vp (F.length + 1) vc)) B sb mb leads many byv (.slice tp P.length tc) (.slice vp (F.length + 1) vc) met S P (F ++ [P])) := ⟨HS5.out, HI5.out, HW5.out, _, HL5.out, HAP.out⟩
      clear HL4 HL5 HS5 HW5 HI5 HAP hb4 hk4 y0 y1 y2 y3 y4 y5 y6 g4 g5 g6 hown4 hgrow hrow1 hL1 HL1 HLU
      generalize w4.setCell ⟨sb, 6, none⟩ (.slice vp (F.length + 1) vc) = w5 at *
      have hq5 := HQ5.out
      refine hK.out _ _ ?hSS (fun hS => ?_)
      case hSS => exact (cells7 HQ5.out.blk).2.2.2.2.1
      clear hK hq5
      refine wpAnyH_done (by kernel_rfl) ?_ _
      clear hS x4 x6 x4a x6a hBo hlu hbo hBA
      obtain ⟨t0, t1, t2, t3, t4, t5, t6, _, _, _⟩ := cells7 (show w5.drew.heap[sb]? = _ from HQ5.out.blk)
      have HFd : Hid (decide (((F.length : Nat) : Int) + 1 < ((many : Nat) : Int)) = decide ((F ++ [P]).length < many)) := by
        show _ = _
        rw [List.length_append, List.length_singleton, decide_eq_decide]
        omega
      go_upto_region 3 with fail
      go_region
      go_wp2
      go_ret
      exact ⟨HF5.out.trans (Frm.of_below ((Below.refl B _).drew) (Nat.le_refl _)), HBx5.out, _, ret_bool HFd.out, HQ5.out.drew⟩

set_option maxRecDepth 20000 in
set_option maxHeartbeats 8000000 in
theorem end_no (h : Pm) (hh : h ≠ 1) (B sb mb leads many : Nat) (byv tv fv : Value) (met : Nat) (S : List Pm) (P : List Nat) (F : List (List Nat)) (w : World) (hQ : Qs w B sb mb leads many byv tv fv met S P F) (hsbB : sb < B) (hmbB : mb < B) (hB : B ≤ w.heap.size) :
    Calls Try.prog 71 #[.pointer (some ⟨sb, 0, none⟩), pv h] w (EndPost B sb mb leads many byv tv met S P F w) := by
  obtain ⟨vs, hLL, hApart⟩ := hQ.fnd
  have hvn : vs.length = F.length := by rw [hLL.len, List.length_map]
  have hfr := hLL.row
  rw [hvn] at hfr
  obtain ⟨fp, fc, rfl⟩ := owns_slice hfr
  have hl1 := h.len
  have hBAA : Below w.heap.size w (w.alloc (.cells (i8s h.l) 85)) := (Below.refl _ _).alloc (Nat.le_refl _) _
  have HA0 := hide (SAr.new w h.l hl1)
  have HQ := hide hQ
  have heq : ∀ W, (binOp .eql 85 (.agg (h.l.map (Value.int .i8)).toArray) (.agg (i8s (1 : Pm).l))).run Try.prog W = .ok (.bool false) W := fun W => by
    obtain ⟨r, hr, hiff⟩ := peq h 1 W
    have : r = false := by
      rw [Bool.eq_false_iff]
      exact fun e => hh (hiff.1 e)
    rw [this] at hr
    exact hr
  clear hQ hLL hfr hvn hApart hh
  unfold pv
  go_enter Try.func71, Try.ntmps71
  go_upto_region 1 with fail
  generalize hW0 : w.alloc (.cells (i8s h.l) 85) = W0 at *
  refine wp_region_held_drew (S := fun W' => SAr W' w.heap.size h.l) (by kernel_rfl) HA0.out (fun hS => ?_)
  refine wpAnyH_take (i := 0) rfl (by kernel_rfl) (by kernel_rfl) (by kernel_rfl) (fun _ _ _ h => h) (yieldsIf_load_mid (by kernel_rfl) _ _ rfl w.heap.size 0 rfl (h.l.map (Value.int .i8)) _ (fun w' hS' => SAr.range hS') Try.underlying85 rfl (by rw [Try.size85, List.length_map, Pm.len])) hS ?_
  refine wpAnyH_ready (rs := [1]) (by kernel_rfl) (by simp) ?_
  refine AllReadyH.cons rfl (fun K hK => ?_) (AllReadyH.nil)
  go_simp
  refine (srounds_ok W0.drew).mono ?_
  unfold pv
  rintro e W1 ⟨rfl, hb1⟩
  have hb01 : Below W0.heap.size W0 W1 := ((Below.refl _ _).drew).trans hb1
  refine hK.out _ _ (HA0.out.below hb01 HA0.out.lt) (fun hS => ?_)
  clear hK
  refine wpAnyH_take (i := 2) (v := .bool false) rfl (by kernel_rfl) (by kernel_rfl) (by kernel_rfl) (fun _ _ _ h => h) (Or.inl ⟨by kernel_rfl, fun w' hS' => by have hq := heq w'; go_simp⟩) hS ?_
  refine wpAnyH_done (by kernel_rfl) ?_ _
  have hbw1 : Below w.heap.size w W1 := hBAA.trans (hb01.mono hBAA.size)
  have HFr : Hid (Frm B sb mb w W1) := Frm.of_below hbw1 hB
  have HBx := hide (Boxes.below hbw1)
  have HQ1 := hide (HQ.out.below hbw1 (by omega) (by omega))
  obtain ⟨z0, z1, z2, z3, z4, z5, z6, _, _, _⟩ := cells7 (show W1.drew.heap[sb]? = _ from HQ1.out.blk)
  clear heq HA0 hb1 hb01 hbw1 hS HQ
  go_upto_region 3 with fail
  go_region
  all_goals
    go_wp2
    go_ret
    exact ⟨HFr.out.trans (Frm.of_below ((Below.refl B _).drew) (Nat.le_refl _)), HBx.out, _, rfl, HQ1.out.drew⟩

end Go.Proofs.Ytoiiadiimfohiaa

/- append, and where the new slice lies. -/
namespace Go.Proofs.Ytoiiadiimfohiaa
open Go.RowKit

theorem run_append_keep {P : Program} (w : World) (base : Nat) (t ty e : TypeId) (i : TypeInfo) (z : Value) (size bytes : Nat) (ht : P.underlying t = some (.slice e)) (hi : P.info? e = some i) (hz : i.zero = some z)
    (hsize : i.size = size) (hby : i.bytes = bytes) (hzs : z.cells.size = size) (hsz : 0 < size)
    (v : Value) (n : Nat) (xs : List Value) (hown : w.ownsRow base e size v n xs)
    (a : Addr) (m c : Nat) (news : List Value) (hl : news.length = m * size) (hnews : ∀ j u, news[j]? = some u → w.cell? (a.add j) = some u) (h1 : ∀ u ∈ news, u.oneCell' = true)
    (h63 : n + m ≤ maxLen) (hbytes : (n + m) * bytes ≤ 140737488355328) (hbase : base ≤ w.heap.size) :
    ∃ v' w', (Builtin.append_ #[t, t] ty #[v, .slice (some a) m c]).run P w = .ok v' w' ∧ w'.ownsRow base e size v' (n + m) (xs ++ news) ∧ w.grownBy w' v.ownBlock ∧
      (v'.ownBlock = v.ownBlock ∨ (v'.ownBlock = some w.heap.size ∧ w.grownBy w' none)) := by
  obtain ⟨v', w', hr, h2, h3, _, h5⟩ := run_append_own_at (P := P) w base t ty e i z size bytes ht hi hz hsize hby hzs hsz v n xs hown a m c news hl hnews h1 h63 hbytes hbase
  refine ⟨v', w', hr, h2, h3, ?_⟩
  subst hsize
  subst hby
  rcases hown.2 with ⟨rfl, rfl⟩ | ⟨g, cap, cur, rfl, hbg, hg, hnc, hcm, hcs, htake⟩
  · exact h5.imp id (fun h => ⟨h, h3⟩)
  · by_cases hroom : n + m ≤ cap
    · have hfit : n * i.size + news.length ≤ cur.size := by rw [hl, hcs, ← Nat.add_mul]; exact Nat.mul_le_mul_right _ hroom
      have hr' := run_append_room (P := P) w t ty e i ht hi g n cap cur hg a m c news hl hnews h1 hroom hfit
      rw [hr] at hr'
      obtain ⟨e1, _⟩ := Result.ok.inj hr'
      left; rw [e1]; rfl
    · have holds : ∀ j u, xs[j]? = some u → w.cell? ((⟨g, 0, none⟩ : Addr).add j) = some u := hown.cells (g := g) rfl
      have hsmall : n + m ≤ 9223372036854775807 := by simp only [maxLen] at h63; omega
      have hr' := run_append_grow (P := P) w t ty e i z ht hi hz ⟨g, 0, none⟩ n cap xs hown.1 holds a m c news hl hnews (by omega) (by omega) (growslice_fits (by omega) hbytes)
      rw [hr] at hr'
      obtain ⟨e1, e2⟩ := Result.ok.inj hr'
      right
      rw [e1, e2]
      exact ⟨rfl, ⟨rfl, rfl, rfl, by simp, fun k hk _ => Below.heap_alloc w.drew _ k hk⟩⟩

theorem wpList_append_keep {P : Program} (w : World) {ops : Array Oper} {rest : List Oper} {o : Oper} {a : Act} {Q : Exit → Act → World → Prop} (hgd : o.guard = none) (s x : Operand) (t : TypeId)
    (ho : o.op = .call { callee := .builtin .append, args := #[s, x], argTypes := #[t, t] })
    (base : Nat) (e : TypeId) (i : TypeInfo) (z : Value) (size bytes : Nat) (ht : P.underlying t = some (.slice e)) (hi : P.info? e = some i) (hz : i.zero = some z)
    (hsize : i.size = size) (hby : i.bytes = bytes) (hzs : z.cells.size = size) (hsz : 0 < size)
    (v : Value) (n : Nat) (xs : List Value) (hs : a.eval s = v) (hown : w.ownsRow base e size v n xs)
    (ad : Addr) (m c : Nat) (news : List Value) (hx : a.eval x = .slice (some ad) m c) (hl : news.length = m * size) (hnews : ∀ j u, news[j]? = some u → w.cell? (ad.add j) = some u) (h1 : ∀ u ∈ news, u.oneCell' = true)
    (h63 : n + m ≤ maxLen) (hbytes : (n + m) * bytes ≤ 140737488355328) (hbase : base ≤ w.heap.size)
    (h : ∀ v' w', w'.ownsRow base e size v' (n + m) (xs ++ news) → w.grownBy w' v.ownBlock → (v'.ownBlock = v.ownBlock ∨ (v'.ownBlock = some w.heap.size ∧ w.grownBy w' none)) → wpList P ops Q rest (a.put o.dst v') w') :
    wpList P ops Q (o :: rest) a w := by
  refine wpList_plain hgd fun K hK => ?_
  obtain ⟨v', w', hr, h2, h3, h4⟩ := run_append_keep (P := P) w base t o.type e i z size bytes ht hi hz hsize hby hzs hsz v n xs hown ad m c news hl hnews h1 h63 hbytes hbase
  unfold Oper.wp execOp
  simp only [ho, resolve, invoke, builtin, Sem.run_bind, Sem.run_pure, Result.andThen_ok, List.map_toArray, List.map_cons, List.map_nil, hs, hx, hr]
  exact hK _ _ (h v' w' h2 h3 h4)

/-- .. as one step of a region that draws. -/
theorem step_append_keep {P : Program} {ops : Array Oper} {o : Oper} {a : Act} {w : World} {K : Act → World → Prop} {Q : Exit → Act → World → Prop} {E : Prop} (hg : o.guard = none) (s x : Operand) (t : TypeId)
    (ho : o.op = .call { callee := .builtin .append, args := #[s, x], argTypes := #[t, t] })
    (base : Nat) (e : TypeId) (i : TypeInfo) (z : Value) (size bytes : Nat) (ht : P.underlying t = some (.slice e)) (hi : P.info? e = some i) (hz : i.zero = some z)
    (hsize : i.size = size) (hby : i.bytes = bytes) (hzs : z.cells.size = size) (hsz : 0 < size)
    (v : Value) (n : Nat) (xs : List Value) (hs : a.eval s = v) (hown : w.ownsRow base e size v n xs)
    (ad : Addr) (m c : Nat) (news : List Value) (hx : a.eval x = .slice (some ad) m c) (hl : news.length = m * size) (hnews : ∀ j u, news[j]? = some u → w.cell? (ad.add j) = some u) (h1 : ∀ u ∈ news, u.oneCell' = true)
    (h63 : n + m ≤ maxLen) (hbytes : (n + m) * bytes ≤ 140737488355328) (hbase : base ≤ w.heap.size)
    (h : ∀ v' w', w'.ownsRow base e size v' (n + m) (xs ++ news) → w.grownBy w' v.ownBlock → (v'.ownBlock = v.ownBlock ∨ (v'.ownBlock = some w.heap.size ∧ w.grownBy w' none)) → K (a.put o.dst v') w') :
    if Region.wanted o (yielded ops a.tmps) = true then Oper.wp P o a w K Q else E := by
  have hw : Region.wanted o (yielded ops a.tmps) = true := by simp [Region.wanted, hg]
  rw [if_pos hw]
  obtain ⟨v', w', hr, h2, h3, h4⟩ := run_append_keep (P := P) w base t o.type e i z size bytes ht hi hz hsize hby hzs hsz v n xs hown ad m c news hl hnews h1 h63 hbytes hbase
  unfold Oper.wp execOp
  simp only [ho, resolve, invoke, builtin, Sem.run_bind, Sem.run_pure, Result.andThen_ok, List.map_toArray, List.map_cons, List.map_nil, hs, hx, hr]
  exact h v' w' h2 h3 h4

end Go.Proofs.Ytoiiadiimfohiaa

/- What a search knows of its leads; contract: search's meet, over from's. -/
namespace Go.Proofs.Ytoiiadiimfohiaa
open Go.RowKit

/-- The slice value v reads as leads: rows, and the row that begins the next one. -/
def LeadsAt (w : World) (v : Value) (rvs : Nat → Value) (G : List (List Pm × Pm)) : Prop :=
  ∃ b off cap, v = .slice (some ⟨b, off, none⟩) G.length cap ∧ b < w.heap.size ∧ G.length ≤ cap ∧ cap ≤ 9223372036854775807 ∧
    ∀ c (hc : c < G.length), w.rangeAt b (off + c * 13) (rvs c :: G[c].2.l.map (Value.int .i8)) ∧ PmsAt w (rvs c) G[c].1

theorem OwnAll.kept_at {w w' : World} {base : Nat} : ∀ {us : List Value} {xs : List (List Int)}, OwnAll w base us xs → (∀ u, u ∈ us → ∀ g, u.ownBlock = some g → w'.heap[g]? = w.heap[g]?) → OwnAll w' base us xs
  | [], [], _, _ => trivial
  | [], _ :: _, h, _ => h.elim
  | _ :: _, [], h, _ => h.elim
  | u :: us, x :: xs, h, hb => ⟨owns_block h.1 (hb u (by simp)), OwnAll.kept_at h.2 (fun v hv => hb v (List.mem_cons_of_mem _ hv))⟩

theorem OwnAll.low_at {w : World} {base : Nat} : ∀ {us : List Value} {xs : List (List Int)}, OwnAll w base us xs → ∀ u, u ∈ us → ∀ g, u.ownBlock = some g → base ≤ g ∧ g < w.heap.size
  | [], [], _, u, hu => by cases hu
  | [], _ :: _, h, _, _ => h.elim
  | _ :: _, [], h, _, _ => h.elim
  | v :: us, x :: xs, h, u, hu => by
    rcases List.mem_cons.1 hu with rfl | hu
    · exact fun g hg => h.1.lt g hg
    · exact OwnAll.low_at h.2 u hu

theorem LL.kept_way {w w' : World} {base : Nat} {v : Value} {vs : List Value} {X : List (List Int)} (h : LL w base v vs X) {tv : Value} {n : Nat} {xs : List Value} (hw : w.ownsRow base 3 1 tv n xs) (ha : ∀ u, u ∈ vs → ∀ g, u.ownBlock = some g → tv.ownBlock ≠ some g) (hg : w.grownBy w' tv.ownBlock) : LL w' base v vs X := by
  refine ⟨owns_block h.row (fun g hgv => hg.block g (h.row.lt g hgv).2 (fun e => ?_)), OwnAll.kept_at h.all (fun u hu g hgu => hg.block g (OwnAll.low_at h.all u hu g hgu).2 (fun e => ha u hu g hgu e.symm))⟩
  rcases hw.2 with ⟨rfl, _⟩ | ⟨g1, cap1, cur1, rfl, _, h1, _⟩
  · cases e
  · rcases h.row.2 with ⟨rfl, _⟩ | ⟨g2, cap2, cur2, rfl, _, h2, _⟩
    · cases hgv
    · have e1 : g = g1 := Option.some.inj e
      have e2 : g2 = g := Option.some.inj hgv
      rw [← e1] at h1
      rw [e2, h1] at h2
      injection h2 with h3
      injection h3 with _ h4 _
      exact absurd h4 (by decide)

def FromPst (G : List (List Pm × Pm)) (l : Nat) (B sb mb leads many : Nat) (byv : Value) (met : Nat) (S : List Pm) (P : List Nat) (R : List (List Nat)) (w : World) (e : Ending) (w' : World) : Prop :=
  Frm B sb mb w w' ∧ Boxes w w' ∧ ∃ tv fv met', e = .returned (.bool (decide (R.length < many))) ∧ Qs w' B sb mb leads many byv tv fv met' S P R ∧ met' ≤ met + bnd G.length l

/-- What stays as it is while a search goes on. -/
structure Und7 (G : List (List Pm × Pm)) (B sb mb leads many : Nat) (byv : Value) (w0 : World) : Prop where
  hsb : sb < B
  hmb : mb < B
  hne : sb ≠ mb
  hmany : many ≤ 50
  hleads : leads ≤ 24
  hG : G.length ≤ 8
  rows : ∀ c (hc : c < G.length), 1 ≤ G[c].1.length ∧ G[c].1.length ≤ 1000
  mem : ∃ rvs : Nat → Value, ∀ W, Frm B sb mb w0 W → LeadsAt W byv rvs G

/-- What from says, of so many leads more. -/
def FromSays (G : List (List Pm × Pm)) (B sb mb leads many : Nat) (byv : Value) (w0 : World) (l : Nat) : Prop :=
  ∀ (h : Pm) (S : List Pm) (P : List Nat) (F : List (List Nat)) (met : Nat) (tv fv : Value) (w : World), Qs w B sb mb leads many byv tv fv met S P F → P.length + l = leads → F.length < many → met + bnd G.length l ≤ 20000 → S.length + l * 1000 ≤ 100000 → Frm B sb mb w0 w → B ≤ w.heap.size →
    Calls Try.prog 48 #[.pointer (some ⟨sb, 0, none⟩), pv h] w (FromPst G l B sb mb leads many byv met S P (fnd many F P (sols G l S h)) w)

set_option maxRecDepth 20000 in
set_option maxHeartbeats 8000000 in
theorem smeet_ok {G : List (List Pm × Pm)} {B sb mb leads many : Nat} {byv : Value} {w0 : World} (hU : Und7 G B sb mb leads many byv w0) {l : Nat} (hFS : FromSays G B sb mb leads many byv w0 l) (c : Nat)
    (h : Pm) (S : List Pm) (P : List Nat) (F : List (List Nat)) (met : Nat) (tv fv : Value) (w : World) (hQ : Qs w B sb mb leads many byv tv fv met S P F) (hPl : P.length + (l + 1) = leads) (hF : F.length < many) (hmet : met + (1 + bnd G.length l) ≤ 20000) (hS : S.length + l * 1000 ≤ 100000) (hFr : Frm B sb mb w0 w) (hB : B ≤ w.heap.size) :
    Calls Try.prog 98 #[.pointer (some ⟨sb, 0, none⟩), .int .i64 c, pv h] w (fun e w' => Frm B sb mb w w' ∧ Boxes w w' ∧ ∃ tv fv met', e = .returned (.bool (decide ((fnd many F (P ++ [c]) (sols G l S h)).length < many))) ∧ Qs w' B sb mb leads many byv tv fv met' S P (fnd many F (P ++ [c]) (sols G l S h)) ∧ met' ≤ met + (1 + bnd G.length l)) := by
  generalize hR : fnd many F (P ++ [c]) (sols G l S h) = R
  generalize hgo : decide (R.length < many) = go
  have HR := hide hR
  have HGo := hide hgo
  clear hR hgo
  obtain ⟨i0, hi, hz0, hz1, hz2⟩ := info_parts Try.info3
  have hsb := hU.hsb
  have hmb := hU.hmb
  have hne := hU.hne
  have hld := hU.hleads
  obtain ⟨tp, tc, rfl⟩ := owns_slice hQ.way
  have hl1 := h.len
  have hBA : Below w.heap.size w (w.alloc (.cells (i8s h.l) 85)) := (Below.refl _ _).alloc (Nat.le_refl _) _
  have hA0 := SAr.new w h.l hl1
  have hQ0 := hQ.below hBA (by omega) (by omega)
  have HFS := hide hFS
  have HFr0 := hide hFr
  have hPl2 : P.length ≤ 24 := by omega
  have hwn : w.heap.size ≠ sb := by omega
  obtain ⟨z0, z1, z2, z3, z4, z5, z6, f4, f5, f6⟩ := cells7 hQ0.blk
  have hk1 := set7m hQ0.blk (.int .i64 ((met : Int) + 1))
  have hFr1 : Frm B sb mb w ((w.alloc (.cells (i8s h.l) 85)).setCell ⟨sb, 5, none⟩ (.int .i64 ((met : Int) + 1))) := (Frm.of_below hBA hB).set 5 _
  have hA1 : SAr ((w.alloc (.cells (i8s h.l) 85)).setCell ⟨sb, 5, none⟩ (.int .i64 ((met : Int) + 1))) w.heap.size h.l := hA0.set_other hwn _
  have HQ0 := hide hQ0
  have hmet2 : ¬ ((20000 : Int) < (met : Int) + 1) := by omega
  clear hQ hQ0 hFS hFr
  unfold pv
  go_enter Try.func98, Try.ntmps98
  go_upto_region 2 with fail
  have hw1 : ((w.alloc (.cells (i8s h.l) 85)).setCell ⟨sb, 5, none⟩ (.int .i64 ((met : Int) + 1))).ownsRow B 3 1 (.slice tp P.length tc) P.length ((nI P).map (Value.int .i64)) := owns_block HQ0.out.way (fun g hg => Below.heap_setCell _ _ _ _ (by have := (HQ0.out.way.lt g hg).1; show g ≠ sb; omega))
  have hP1 : PSet ((w.alloc (.cells (i8s h.l) 85)).setCell ⟨sb, 5, none⟩ (.int .i64 ((met : Int) + 1))) mb S := HQ0.out.set.of_block (Below.heap_setCell _ _ _ _ (by show mb ≠ sb; omega))
  obtain ⟨vs, hL0, hAp⟩ := HQ0.out.fnd
  have hL1 : LL ((w.alloc (.cells (i8s h.l) 85)).setCell ⟨sb, 5, none⟩ (.int .i64 ((met : Int) + 1))) B fv vs (F.map nI) := hL0.frm' (fun b h1 _ => Below.heap_setCell _ _ _ _ (by show b ≠ sb; omega))
  have hs1 : B ≤ ((w.alloc (.cells (i8s h.l) 85)).setCell ⟨sb, 5, none⟩ (.int .i64 ((met : Int) + 1))).heap.size := Nat.le_trans hB hFr1.size
  have hA1l : w.heap.size < ((w.alloc (.cells (i8s h.l) 85)).setCell ⟨sb, 5, none⟩ (.int .i64 ((met : Int) + 1))).heap.size := hA1.lt
  have HBx1 : Hid (Boxes w ((w.alloc (.cells (i8s h.l) 85)).setCell ⟨sb, 5, none⟩ (.int .i64 ((met : Int) + 1)))) := (Boxes.below hBA).trans (Boxes.set HQ0.out.blk)
  have HP1 := hide hP1
  have HL1 := hide hL1
  have HAp := hide hAp
  have HF1 := hide hFr1
  have HA1 := hide hA1
  obtain ⟨a0, a1, a2, a3, a4, a5, a6, g4, g5, g6⟩ := cells7 hk1
  have HK1 := hide hk1
  clear z0 z1 z2 z3 z4 z5 z6 f4 f5 f6 hP1 hL1 hL0 hAp hFr1 hA1 hA0 HQ0 hk1 hBA
  generalize (w.alloc (.cells (i8s h.l) 85)).setCell ⟨sb, 5, none⟩ (.int .i64 ((met : Int) + 1)) = W1 at *
  go_wp2_with (at_builtin; refine wpList_append_keep _ rfl _ _ 26 rfl B 3 i0 (.int .i64 0) 1 8 Try.underlying26 hi hz0 hz1 hz2 rfl (by decide) _ _ _ rfl (hw1.alloc _) ⟨W1.heap.size, 0, none⟩ 1 1 [.int .i64 (c : Int)] rfl rfl ?c1 ?c2 ?c3 ?c4 ?c5 ?_)
  case c2 => rfl
  case c3 => unfold maxLen; omega
  case c4 => omega
  case c5 => omega
  intro v' w4 hown4 hgrow hloc
  obtain ⟨vp, vc, rfl⟩ := owns_slice hown4
  have hb4 : Below B W1 w4 := ((Below.refl _ _).alloc hs1 _).grown hgrow (by simp; omega) (fun g hg => (hw1.lt g hg).1)
  have hk4 := (hb4.block sb hsb).trans HK1.out
  obtain ⟨y0, y1, y2, y3, y4, y5, y6, q4, q5, q6⟩ := cells7 hk4
  have hApA : ∀ u, u ∈ vs → ∀ g, u.ownBlock = some g → (Value.slice tp P.length tc).ownBlock ≠ some g := HAp.out
  have HL4 : Hid (LL w4 B fv vs (F.map nI)) := LL.kept_way (HL1.out.below ((Below.refl _ _).alloc (Nat.le_refl _) (.cells #[.int .i64 (c : Int)] 3))) (hw1.alloc _) hApA hgrow
  have HAp4 : Hid (∀ u, u ∈ vs → ∀ g, u.ownBlock = some g → (Value.slice vp (P.length + 1) vc).ownBlock ≠ some g) := fun u hu g hg e => by
    rcases hloc with h9 | ⟨h9, _⟩
    · exact HAp.out u hu g hg (h9 ▸ e)
    · rw [h9] at e
      have e' : W1.heap.size + 1 = g := Option.some.inj e
      have := (OwnAll.low_at HL1.out.all u hu g hg).2
      omega
  have HF5 : Hid (Frm B sb mb w (w4.setCell ⟨sb, 4, none⟩ (.slice vp (P.length + 1) vc))) := (HF1.out.trans (Frm.of_below hb4 (Nat.le_refl _))).set 4 _
  have HBx5 : Hid (Boxes w (w4.setCell ⟨sb, 4, none⟩ (.slice vp (P.length + 1) vc))) := ((HBx1.out.trans (Boxes.below ((Below.refl _ _).alloc (Nat.le_refl _) (.cells #[.int .i64 (c : Int)] 3)))).trans (Boxes.grown (hw1.alloc _) hgrow (by decide))).trans (Boxes.set hk4)
  have hne4 : (Value.slice tp P.length tc).ownBlock ≠ some w.heap.size := fun e => by
    have h7 := HA1.out.1
    rcases hw1.2 with ⟨h8, _⟩ | ⟨g8, c8, u8, h8, _, h9, _⟩
    · rw [h8] at e; cases e
    · rw [h8] at e
      have e' : g8 = w.heap.size := Option.some.inj e
      rw [e', h7] at h9
      injection h9 with h10
      injection h10 with _ h11 _
      exact absurd h11 (by decide)
  have HA5 : Hid (SAr (w4.setCell ⟨sb, 4, none⟩ (.slice vp (P.length + 1) vc)) w.heap.size h.l) := by
    have h6 : SAr w4 w.heap.size h.l := (HA1.out.alloc (.cells #[.int .i64 (c : Int)] 3)).kept hgrow hne4
    exact h6.set_other hwn _
  have HQ5 : Hid (Qs (w4.setCell ⟨sb, 4, none⟩ (.slice vp (P.length + 1) vc)) B sb mb leads many byv (.slice vp (P.length + 1) vc) fv (met + 1) S (P ++ [c]) F) := by
    refine ⟨set7t hk4 _, HP1.out.of_block ((Below.heap_setCell _ _ _ _ (by show mb ≠ sb; omega)).trans (hb4.block mb hmb)), ?_, vs, HL4.out.frm' (fun b h1 _ => Below.heap_setCell _ _ _ _ (by show b ≠ sb; omega)), HAp4.out⟩
    rw [List.length_append, List.length_singleton, show nI (P ++ [c]) = nI P ++ [(c : Int)] from by simp [nI], List.map_append]
    exact owns_block hown4 (fun g hg => Below.heap_setCell _ _ _ _ (by have := (hown4.lt g hg).1; show g ≠ sb; omega))
  clear HL4 HAp4 hb4 hk4 hown4 hgrow hloc hw1 hApA hne4 HP1 HL1 HAp HF1 HA1 HK1 a0 a1 a2 a3 a4 a5 a6 g4 g5 g6
  go_upto_region 5 with fail
  generalize w4.setCell ⟨sb, 4, none⟩ (.slice vp (P.length + 1) vc) = W5 at *
  have HCALL := hide (HFS.out h S (P ++ [c]) F (met + 1) _ _ W5 HQ5.out (by rw [List.length_append, List.length_singleton]; omega) hF (by omega) hS (HFr0.out.trans HF5.out) (Nat.le_trans hB HF5.out.size))
  have hA5 := HA5.out
  clear HQ5 HA5 y0 y1 y2 y3 y4 y5 y6 q4 q5 q6 HFS
  unfold pv at HCALL
  go_wp2_with (refine wpList_load_sar rfl _ rfl _ _ hA5 rfl ?_)
  refine HCALL.out.mono ?_
  rw [HR.out]
  rintro e w6 ⟨hF6, hBx6, tv6, fv6, met6, he6, hQ6, hm6⟩
  rw [HGo.out] at he6
  subst he6
  have hway6 := hQ6.way
  rw [List.length_append, List.length_singleton, show nI (P ++ [c]) = nI P ++ [(c : Int)] from by simp [nI], List.map_append] at hway6
  obtain ⟨g7, cp7, rfl, hg71, hg72, hcp1, hcp2⟩ := owns_form hway6 (by omega)
  obtain ⟨x0, x1, x2, x3, x4, x5, x6, t4, t5, t6⟩ := cells7 (show w6.drew.heap[sb]? = _ from hQ6.blk)
  have HF6 := hide (HF5.out.trans hF6)
  have HBx7 : Hid (Boxes w (w6.setCell ⟨sb, 4, none⟩ (.slice (some ⟨g7, 0, none⟩) P.length cp7)).drew) := (HBx5.out.trans hBx6).trans (Boxes.set hQ6.blk)
  have HQ6 := hide hQ6
  have HW7 := hide (ownsRow_pop (xs := (nI P).map (Value.int .i64)) (n := P.length) (by rw [List.length_map, nI_len, Nat.mul_one]) hway6)
  clear hF6 hQ6 hway6 HCALL hA5 HF5
  go_upto_region 6 with fail
  go_region
  have HFZ : Hid (Frm B sb mb w (w6.setCell ⟨sb, 4, none⟩ (.slice (some ⟨g7, 0, none⟩) P.length cp7)).drew) := (HF6.out.set 4 _).trans (Frm.of_below ((Below.refl B _).drew) (Nat.le_refl _))
  have HQZ : Hid (Qs (w6.setCell ⟨sb, 4, none⟩ (.slice (some ⟨g7, 0, none⟩) P.length cp7)).drew B sb mb leads many byv (.slice (some ⟨g7, 0, none⟩) P.length cp7) fv6 met6 S P R) := by
    obtain ⟨vs6, hL6, hA6⟩ := HQ6.out.fnd
    refine ⟨set7t HQ6.out.blk _, HQ6.out.set.of_block (Below.heap_setCell _ _ _ _ (by show mb ≠ sb; omega)), owns_block HW7.out (fun g hg => Below.heap_setCell w6 _ _ _ (by have := (HW7.out.lt g hg).1; show g ≠ sb; omega)), vs6, hL6.frm' (fun b h1 _ => Below.heap_setCell w6 _ _ _ (by show b ≠ sb; omega)), hA6⟩
  clear HQ6 HW7 HF6 x0 x1 x2 x3 x4 x5 x6 t4 t5 t6
  generalize (w6.setCell ⟨sb, 4, none⟩ (.slice (some ⟨g7, 0, none⟩) P.length cp7)).drew = wz at *
  go_wp2
  go_ret
  exact ⟨HFZ.out, HBx7.out, _, fv6, met6, rfl, HQZ.out, by omega⟩

end Go.Proofs.Ytoiiadiimfohiaa

/- Contract: search's lead, over from's. -/
namespace Go.Proofs.Ytoiiadiimfohiaa
open Go.RowKit

theorem Qs.tb {w w' : World} {B sb mb leads many : Nat} {byv tv fv : Value} {met : Nat} {S S' : List Pm} {P : List Nat} {F : List (List Nat)} (h : Qs w B sb mb leads many byv tv fv met S P F) (ht : TB mb w w') (hs : PSet w' mb S') (hsb : sb < B) (hmb : mb < B) (hne : sb ≠ mb) (hB : B ≤ w.heap.size) : Qs w' B sb mb leads many byv tv fv met S' P F := by
  obtain ⟨vs, hL, ha⟩ := h.fnd
  exact ⟨(ht.block sb (by omega) hne).trans h.blk, hs, owns_block h.way (fun g hg => ht.block g (h.way.lt g hg).2 (by have := (h.way.lt g hg).1; omega)), vs, hL.frm' (fun b h1 h2 => ht.block b h2 (by omega)), ha⟩

theorem not_okl {S X : List Pm} {h : Pm} {k : Nat} (hk : k < X.length) (hin : h * X[k] ∈ (rws h (X.take k)).reverse ++ S) : ¬ okl S h X := by
  intro ho
  unfold okl at ho
  have e : rws h X = rws h (X.take k) ++ (h * X[k] :: rws h (X.drop (k + 1))) := by
    rw [← rws_drop h X hk]
    unfold rws
    rw [← List.map_append, List.take_append_drop]
  rw [e, List.reverse_append, List.reverse_cons, List.append_assoc, List.append_assoc] at ho
  have h2 := (List.nodup_append.1 ho).2.1
  rw [List.singleton_append, List.nodup_cons] at h2
  exact h2.1 hin

set_option maxRecDepth 20000 in
set_option maxHeartbeats 8000000 in
theorem slead_ok {G : List (List Pm × Pm)} {B sb mb leads many : Nat} {byv : Value} {w0 : World} (hU : Und7 G B sb mb leads many byv w0) {l : Nat} (hFS : FromSays G B sb mb leads many byv w0 l) (c : Nat) (hc : c < G.length) (X : List Pm) (x : Pm) (hG : G[c] = (X, x)) (rv : Value)
    (hX : ∀ W, Frm B sb mb w0 W → PmsAt W rv X)
    (h : Pm) (S : List Pm) (P : List Nat) (F : List (List Nat)) (met : Nat) (tv fv : Value) (w : World) (hQ : Qs w B sb mb leads many byv tv fv met S P F) (hPl : P.length + (l + 1) = leads) (hF : F.length < many) (hmet : met + (1 + bnd G.length l) ≤ 20000) (hS : S.length + (l + 1) * 1000 ≤ 100000) (hFr : Frm B sb mb w0 w) (hB : B ≤ w.heap.size) :
    Calls Try.prog 72 #[.pointer (some ⟨sb, 0, none⟩), pv h, .int .i64 c, .agg (rv :: x.l.map (Value.int .i8)).toArray] w (fun e w' => Frm B sb mb w w' ∧ Boxes w w' ∧ ∃ tv fv met', e = .returned (.bool (decide ((fnd many F P (solBy G l S h c)).length < many))) ∧ Qs w' B sb mb leads many byv tv fv met' S P (fnd many F P (solBy G l S h c)) ∧ met' ≤ met + (1 + bnd G.length l)) := by
  generalize hR : fnd many F P (solBy G l S h c) = R
  generalize hgo : decide (R.length < many) = go
  have HR := hide hR
  have HGo := hide hgo
  clear hR hgo
  obtain ⟨hx1, hx2⟩ := hU.rows c hc
  rw [hG] at hx1 hx2
  have hgd : G.getD c ([], 1) = (X, x) := by rw [List.getD, List.getElem?_eq_getElem hc]; exact hG
  have hsb := hU.hsb
  have hmb := hU.hmb
  have hne := hU.hne
  obtain ⟨b, off, cap, hrv, hcapl, hcapm⟩ : ∃ b off cap, rv = .slice (some ⟨b, off, none⟩) X.length cap ∧ X.length ≤ cap ∧ cap ≤ 9223372036854775807 := by
    rcases hX w hFr with ⟨h9, _⟩ | ⟨b, off, cap, h9, _, h10, h11, _⟩
    · rw [h9] at hx1; simp at hx1
    · exact ⟨b, off, cap, h9, h10, h11⟩
  subst hrv
  have hhl := h.len
  have hxl := x.len
  have hBA : Below w.heap.size w ((w.alloc (.cells (i8s h.l) 85)).alloc (.cells (.slice (some ⟨b, off, none⟩) X.length cap :: x.l.map (Value.int .i8)).toArray 87)) := ((Below.refl _ _).alloc (Nat.le_refl _) _).alloc (by simp) _
  have hA0 : SAr ((w.alloc (.cells (i8s h.l) 85)).alloc (.cells (.slice (some ⟨b, off, none⟩) X.length cap :: x.l.map (Value.int .i8)).toArray 87)) w.heap.size h.l := (SAr.new w h.l hhl).alloc _
  have hblk : ((w.alloc (.cells (i8s h.l) 85)).alloc (.cells (.slice (some ⟨b, off, none⟩) X.length cap :: x.l.map (Value.int .i8)).toArray 87)).heap[w.heap.size + 1]? = some (.cells (.slice (some ⟨b, off, none⟩) X.length cap :: x.l.map (Value.int .i8)).toArray 87) := by
    have h9 := heap_alloc_new (w.alloc (.cells (i8s h.l) 85)) (.cells (.slice (some ⟨b, off, none⟩) X.length cap :: x.l.map (Value.int .i8)).toArray 87)
    rw [show (w.alloc (.cells (i8s h.l) 85)).heap.size = w.heap.size + 1 from by simp] at h9
    exact h9
  have hQ0 := hQ.below hBA (by omega) (by omega)
  have HFr0 := hide (hFr.trans (Frm.of_below hBA hB))
  have HFw : Hid (Frm B sb mb w ((w.alloc (.cells (i8s h.l) 85)).alloc (.cells (.slice (some ⟨b, off, none⟩) X.length cap :: x.l.map (Value.int .i8)).toArray 87))) := Frm.of_below hBA hB
  have HBx0 := hide (Boxes.below hBA)
  have hB0 : B ≤ ((w.alloc (.cells (i8s h.l) 85)).alloc (.cells (.slice (some ⟨b, off, none⟩) X.length cap :: x.l.map (Value.int .i8)).toArray 87)).heap.size := Nat.le_trans hB hBA.size
  have hsz0 : w.heap.size + 1 < ((w.alloc (.cells (i8s h.l) 85)).alloc (.cells (.slice (some ⟨b, off, none⟩) X.length cap :: x.l.map (Value.int .i8)).toArray 87)).heap.size := by simp
  generalize hW0 : (w.alloc (.cells (i8s h.l) 85)).alloc (.cells (.slice (some ⟨b, off, none⟩) X.length cap :: x.l.map (Value.int .i8)).toArray 87) = W0 at *
  have HX0 := hide (hX W0 HFr0.out)
  have HX := hide hX
  have HU := hide hU
  have HFS := hide hFS
  have hd0 : W0.cell? ⟨w.heap.size + 1, 0, none⟩ = some (.slice (some ⟨b, off, none⟩) X.length cap) := by simp [World.cell?, hblk]
  have hrx0 : W0.rangeAt (w.heap.size + 1) 1 (x.l.map (Value.int .i8)) := fun j v hv => by
    have : ((.slice (some ⟨b, off, none⟩) X.length cap :: x.l.map (Value.int .i8)).toArray : Array Value)[1 + j]? = some v := by
      rw [List.getElem?_toArray, Nat.add_comm, List.getElem?_cons_succ]; exact hv
    simp [World.cell?, hblk, this]
  have HRING := hide (ring_ok sb mb h (.slice (some ⟨b, off, none⟩) X.length cap) X S W0 (cells7 hQ0.blk).2.2.2.1 hQ0.set HX0.out hx2 (by omega))
  have HQ0 := hide hQ0
  have HD0 := hide hd0
  have HRX := hide hrx0
  have hA0' := hA0
  have hSl : S.length ≤ 100000 := by omega
  have HBLK := hide hblk
  clear hQ hQ0 hFS hFr hU hX hblk hrx0 hBA
  unfold pv at HRING ⊢
  go_enter Try.func72, Try.ntmps72
  go_wp2_with (refine wpList_load_sar rfl _ rfl _ _ hA0 rfl ?_)
  refine HRING.out.mono ?_
  rintro e w1 ⟨k, hk, rfl, hset1, hT1, hin1⟩
  have hA1 := hA0.tb HQ0.out.set hT1
  have hd1 := struct_cell hd0 HQ0.out.set hT1
  have hw1n : w.heap.size + 1 ≠ mb := by omega
  have hB1 : B ≤ w1.heap.size := Nat.le_trans hB0 hT1.size
  have HF1 := hide (HFw.out.trans (hT1.frm hB0))
  have HFz1 := hide (HFr0.out.trans (hT1.frm hB0))
  have HBx1 := hide (HBx0.out.trans (Boxes.tb hT1 HQ0.out.set))
  have HQ1 := hide (HQ0.out.tb hT1 hset1 hsb hmb hne hB0)
  by_cases hfull : k = X.length
  · subst hfull
    rw [List.take_length] at hset1 HQ1
    have hok : okl S h X := hset1.1
    have HSB : Hid (solBy G l S h c = (sols G l ((rws h X).reverse ++ S) (h * x)).map (fun t => c :: t)) := by
      show _ = _
      unfold solBy
      rw [hgd, if_pos hok]
    have hrx1 := range_block HRX.out (hT1.block (w.heap.size + 1) hsz0 hw1n)
    have hblk1 : w1.heap[w.heap.size + 1]? = some (.cells (.slice (some ⟨b, off, none⟩) X.length cap :: x.l.map (Value.int .i8)).toArray 87) := (hT1.block (w.heap.size + 1) hsz0 hw1n).trans HBLK.out
    have HBK1 := hide hblk1
    have HS1 := hide hset1
    have hS1l : ((rws h X).reverse ++ S).length + l * 1000 ≤ 100000 := by rw [List.length_append, List.length_reverse, rws_length]; omega
    clear HRING HRX hset1 hT1 hin1 hok HBLK hblk1
    go_wp2_with (first | refine wpList_load_sar rfl _ rfl _ _ hA1 rfl ?_ | refine wpList_load_mid rfl _ _ rfl (w.heap.size + 1) 1 rfl (x.l.map (Value.int .i8)) _ hrx1 Try.underlying85 rfl (by rw [Try.size85, List.length_map, hxl]) ?_)
    refine (stimes_ok h x w1).mono ?_
    unfold pv
    rintro e w2 ⟨rfl, hb2⟩
    have HQ2 := hide (HQ1.out.below hb2 (by omega) (by omega))
    have HF2 := hide (HF1.out.trans (Frm.of_below hb2 hB1))
    have HFz2 := hide (HFz1.out.trans (Frm.of_below hb2 hB1))
    have HBx2 := hide (HBx1.out.trans (Boxes.below hb2))
    have hA2 := hA1.below hb2 hA1.lt
    have HBK2 := hide ((hb2.block (w.heap.size + 1) (by have := hsz0; have := hA1.lt; have h9 := (Array.getElem?_eq_some_iff.1 HBK1.out).1; exact h9)).trans HBK1.out)
    have hB2 : B ≤ w2.heap.size := Nat.le_trans hB1 hb2.size
    have HMEET := hide (smeet_ok HU.out HFS.out c (h * x) ((rws h X).reverse ++ S) P F met tv fv w2 HQ2.out hPl hF hmet hS1l HFz2.out hB2)
    rw [fnd_call, ← HSB.out, HR.out, HGo.out] at HMEET
    unfold pv at HMEET
    clear hb2 HQ1 HF1 HFz1 HBx1 hA1 HBK1 hrx1 hd1
    go_wp2_with fail
    refine HMEET.out.mono ?_
    rintro e w3 ⟨hF3, hBx3, tv3, fv3, met3, rfl, hQ3, hm3⟩
    have hA3 : SAr w3 w.heap.size h.l := ⟨(hBx3 _ _ _ hA2.1 (Or.inl rfl)).trans hA2.1, hA2.2⟩
    have hbk3 := (hBx3 _ _ _ HBK2.out (Or.inr rfl)).trans HBK2.out
    have hd3 : w3.cell? ⟨w.heap.size + 1, 0, none⟩ = some (.slice (some ⟨b, off, none⟩) X.length cap) := by simp [World.cell?, hbk3]
    have HF3 := hide (HF2.out.trans hF3)
    have HBx3 := hide (HBx2.out.trans hBx3)
    have HQ3 := hide hQ3
    have HPS3 := hide hQ3.set
    have hB3 : B ≤ w3.heap.size := Nat.le_trans hB2 hF3.size
    have HX3 := hide (HX.out w3 (HFz2.out.trans hF3))
    have HSI := hide (fun W (hW : Below w3.heap.size w3 W) => silence_ok sb mb h (.slice (some ⟨b, off, none⟩) X.length cap) X S W ((hW.cell (p := ⟨sb, 3, none⟩) (by show sb < w3.heap.size; omega)).trans (cells7 HQ3.out.blk).2.2.2.1) (HPS3.out.of_block (hW.block mb (by omega))) (HX3.out.below hW) hx2)
    clear hF3 hBx3 hQ3 HF2 HBx2 HFz2 HMEET HQ2 HBK2 hbk3 hA2 HS1 HX3
    go_upto_region 5 with fail
    refine wp_region_held_drew (S := fun W' => SAr W' w.heap.size h.l ∧ W'.cell? ⟨w.heap.size + 1, 0, none⟩ = some (.slice (some ⟨b, off, none⟩) X.length cap)) (by kernel_rfl) ⟨hA3, hd3⟩ (fun hS => ?_)
    refine wpAnyH_take (i := 0) (v := .pointer (some ⟨sb, 0, none⟩)) rfl (by kernel_rfl) (by kernel_rfl) (by kernel_rfl) (fun _ _ _ h => h) (Or.inl ⟨by kernel_rfl, fun w' hS' => by obtain ⟨q0, q1⟩ := hS'; go_simp⟩) hS ?_
    refine wpAnyH_take (i := 1) rfl (by kernel_rfl) (by kernel_rfl) (by kernel_rfl) (fun _ _ _ h => h) (yieldsIf_load_mid (by kernel_rfl) _ _ rfl w.heap.size 0 rfl (h.l.map (Value.int .i8)) _ (fun w' hS' => hS'.1.range) Try.underlying85 rfl (by rw [Try.size85, List.length_map, Pm.len])) hS ?_
    refine wpAnyH_take (i := 2) (v := .pointer (some ⟨w.heap.size + 1, 0, none⟩)) rfl (by kernel_rfl) (by kernel_rfl) (by kernel_rfl) (fun _ _ _ h => h) (Or.inl ⟨by kernel_rfl, fun w' hS' => by obtain ⟨q0, q1⟩ := hS'; go_simp⟩) hS ?_
    refine wpAnyH_take (i := 3) (v := .slice (some ⟨b, off, none⟩) X.length cap) rfl (by kernel_rfl) (by kernel_rfl) (by kernel_rfl) (fun _ _ _ h => h) (Or.inl ⟨by kernel_rfl, fun w' hS' => by obtain ⟨q0, q1⟩ := hS'; go_simp⟩) hS ?_
    refine wpAnyH_take (i := 4) (v := .int .i64 (X.length : Int)) rfl (by kernel_rfl) (by kernel_rfl) (by kernel_rfl) (fun _ _ _ h => h) (Or.inl ⟨by kernel_rfl, fun w' hS' => by obtain ⟨q0, q1⟩ := hS'; go_simp⟩) hS ?_
    refine wpAnyH_take (i := 5) (v := .slice (some ⟨b, off, none⟩) X.length cap) rfl (by kernel_rfl) (by kernel_rfl) (by kernel_rfl) (fun _ _ _ h => h) (Or.inl ⟨by kernel_rfl, fun w' hS' => by obtain ⟨q0, q1⟩ := hS'; go_simp; try (intro h0; exact absurd h0 (by omega))⟩) hS ?_
    refine wpAnyH_ready (rs := [6]) (by kernel_rfl) (by simp) ?_
    refine AllReadyH.cons rfl (fun K hK => ?_) (AllReadyH.nil)
    go_simp
    refine (HSI.out w3.drew ((Below.refl _ _).drew)).mono ?_
    rintro e w4 ⟨rfl, hset4, hT4⟩
    have hT4' : TB mb w3 w4 := ((TB.refl mb w3).drew).trans hT4
    refine hK.out _ _ ⟨hA3.tb HPS3.out hT4', struct_cell hd3 HPS3.out hT4'⟩ (fun hS => ?_)
    clear hK
    refine wpAnyH_done (by kernel_rfl) ?_ _
    have HQ4 := hide (HQ3.out.tb hT4' hset4 hsb hmb hne hB3)
    have HF4 := hide (HF3.out.trans (hT4'.frm hB3))
    have HBx4 := hide (HBx3.out.trans (Boxes.tb hT4' HPS3.out))
    clear hS hT4 hT4' hset4 hA3 hd3 HSI HQ3 HF3 HPS3 HBx3
    go_wp2
    go_ret
    exact ⟨HF4.out, HBx4.out, tv3, fv3, met3, rfl, HQ4.out, hm3⟩
  · have hklt : k < X.length := by omega
    have hno : ¬ okl S h X := not_okl hklt (hin1 hklt)
    have HRe : Hid (R = F) := by
      show _ = _
      rw [← HR.out]
      unfold solBy
      rw [hgd, if_neg hno, fnd_nil P (Nat.le_of_lt hF)]
    have HGt : Hid (true = go) := by
      show _ = _
      rw [← HGo.out, HRe.out, decide_eq_true hF]
    have e1 : (((k : Nat) : Int) == ((X.length : Nat) : Int)) = false := by rw [beq_eq_false_iff_ne]; omega
    have hXk : PmsAt w1 (.slice (some ⟨b, off, none⟩) k cap) (X.take k) := (HX0.out.tb HQ0.out.set hT1).cut rfl hk
    have HPS3 := hide hset1
    have HSI := hide (fun W (hW : Below w1.heap.size w1 W) => silence_ok sb mb h (.slice (some ⟨b, off, none⟩) k cap) (X.take k) S W ((hW.cell (p := ⟨sb, 3, none⟩) (by show sb < w1.heap.size; omega)).trans (cells7 HQ1.out.blk).2.2.2.1) (HPS3.out.of_block (hW.block mb (by omega))) (hXk.below hW) (by rw [List.length_take]; omega))
    have hA3 := hA1
    have hd3 := hd1
    have HF3 := HF1
    have HBx3 := HBx1
    have HQ3 := HQ1
    have hB3 := hB1
    clear HRING HRX hset1 hT1 hin1 hno HBLK hA1 hd1 HF1 HBx1 HQ1 hXk hfull HFz1 hB1
    go_upto_region 5 with fail
    refine wp_region_held_drew (S := fun W' => SAr W' w.heap.size h.l ∧ W'.cell? ⟨w.heap.size + 1, 0, none⟩ = some (.slice (some ⟨b, off, none⟩) X.length cap)) (by kernel_rfl) ⟨hA3, hd3⟩ (fun hS => ?_)
    refine wpAnyH_take (i := 0) (v := .pointer (some ⟨sb, 0, none⟩)) rfl (by kernel_rfl) (by kernel_rfl) (by kernel_rfl) (fun _ _ _ h => h) (Or.inl ⟨by kernel_rfl, fun w' hS' => by obtain ⟨q0, q1⟩ := hS'; go_simp⟩) hS ?_
    refine wpAnyH_take (i := 1) rfl (by kernel_rfl) (by kernel_rfl) (by kernel_rfl) (fun _ _ _ h => h) (yieldsIf_load_mid (by kernel_rfl) _ _ rfl w.heap.size 0 rfl (h.l.map (Value.int .i8)) _ (fun w' hS' => hS'.1.range) Try.underlying85 rfl (by rw [Try.size85, List.length_map, Pm.len])) hS ?_
    refine wpAnyH_take (i := 2) (v := .pointer (some ⟨w.heap.size + 1, 0, none⟩)) rfl (by kernel_rfl) (by kernel_rfl) (by kernel_rfl) (fun _ _ _ h => h) (Or.inl ⟨by kernel_rfl, fun w' hS' => by obtain ⟨q0, q1⟩ := hS'; go_simp⟩) hS ?_
    refine wpAnyH_take (i := 3) (v := .slice (some ⟨b, off, none⟩) X.length cap) rfl (by kernel_rfl) (by kernel_rfl) (by kernel_rfl) (fun _ _ _ h => h) (Or.inl ⟨by kernel_rfl, fun w' hS' => by obtain ⟨q0, q1⟩ := hS'; go_simp⟩) hS ?_
    refine wpAnyH_take (i := 4) (v := .int .i64 (k : Int)) rfl (by kernel_rfl) (by kernel_rfl) (by kernel_rfl) (fun _ _ _ h => h) (Or.inl ⟨by kernel_rfl, fun w' hS' => by obtain ⟨q0, q1⟩ := hS'; go_simp⟩) hS ?_
    refine wpAnyH_take (i := 5) (v := .slice (some ⟨b, off, none⟩) k cap) rfl (by kernel_rfl) (by kernel_rfl) (by kernel_rfl) (fun _ _ _ h => h) (Or.inl ⟨by kernel_rfl, fun w' hS' => by obtain ⟨q0, q1⟩ := hS'; go_simp; try (intro h0; exact absurd h0 (by omega))⟩) hS ?_
    refine wpAnyH_ready (rs := [6]) (by kernel_rfl) (by simp) ?_
    refine AllReadyH.cons rfl (fun K hK => ?_) (AllReadyH.nil)
    go_simp
    refine (HSI.out w1.drew ((Below.refl _ _).drew)).mono ?_
    rintro e w4 ⟨rfl, hset4, hT4⟩
    have hT4' : TB mb w1 w4 := ((TB.refl mb w1).drew).trans hT4
    refine hK.out _ _ ⟨hA3.tb HPS3.out hT4', struct_cell hd3 HPS3.out hT4'⟩ (fun hS => ?_)
    clear hK
    refine wpAnyH_done (by kernel_rfl) ?_ _
    have HQ4 := hide (HQ3.out.tb hT4' hset4 hsb hmb hne hB3)
    have HF4 := hide (HF3.out.trans (hT4'.frm hB3))
    have HBx4 := hide (HBx3.out.trans (Boxes.tb hT4' HPS3.out))
    clear hS hT4 hT4' hset4 hA3 hd3 HSI HQ3 HF3 HPS3 HBx3
    go_wp2
    go_ret
    exact ⟨HF4.out, HBx4.out, tv, fv, met, ret_bool HGt.out, by rw [HRe.out]; exact HQ4.out, by omega⟩

end Go.Proofs.Ytoiiadiimfohiaa
