/- Joined: GeF, GeP, GeR, Thin, Siz. -/
import Derived.Test.YtahffpgadoiijaaGreatJ6
import Derived.Test.YtahffpgadoiijaaGreatJ5
import Derived.Test.YtahffpgadoiijaaGreatJ1
import Derived.Test.YtahffpgadoiijaaGreatJ4
import Derived.Deep.QuietTactic
import Derived.Test.YtahffpgadoiijaaGreatJ0
/- Contract: a group's Elements. -/
namespace Go.Proofs.YtahffpgadoiijaaGreat
open Go.RowKit

theorem made_rows (n : Nat) : (madeCells #[Value.slice none 0 0] n).toList = List.replicate n (.slice none 0 0) := by
  apply List.ext_getElem
  · simp [madeCells]
  · intro i h1 h2
    simp [madeCells, Nat.mod_one]

/-- The elements ahead of i are laid. -/
structure ElR (w3 wr : World) (n N : Nat) (X : List Pm) (i : Nat) (vs : List Value) : Prop where
  row : wr.ownsRow w3.heap.size 22 1 (.slice (some ⟨w3.heap.size, 0, none⟩) N N) N (vs ++ List.replicate (N - i) (.slice none 0 0))
  len : vs.length = i
  all : OwnAll wr (w3.heap.size + 1) vs ((X.take i).map (cut n))
  below : Below w3.heap.size w3 wr

theorem set_at {α : Type} (z v : α) (k : Nat) : ∀ (vs : List α), (vs ++ List.replicate (k + 1) z).set vs.length v = (vs ++ [v]) ++ List.replicate k z
  | [] => rfl
  | a :: vs => by
    show a :: (vs ++ List.replicate (k + 1) z).set vs.length v = _
    rw [set_at z v k vs]; rfl

theorem ElR.step {w3 wr w7 : World} {n N i : Nat} {X : List Pm} {vs : List Value} {p : Pm} {v : Value} (h : ElR w3 wr n N X i vs) (hi : i < N) (h12 : n ≤ 12) (hp : X[i]? = some p) (hb : Below wr.heap.size wr w7) (ho : w7.ownsRow wr.heap.size 3 1 v n ((cut n p).map (Value.int .i64))) : ElR w3 (w7.setCell ⟨w3.heap.size, i, none⟩ v) n N X (i + 1) (vs ++ [v]) := by
  have h2 := owns_below h.row hb (Nat.le_refl _)
  have hwr : w3.heap.size + 1 ≤ wr.heap.size := (h.row.lt w3.heap.size rfl).2
  have hk : ∀ u m xs, w7.ownsRow (w3.heap.size + 1) 3 1 u m xs → (w7.setCell ⟨w3.heap.size, i, none⟩ v).ownsRow (w3.heap.size + 1) 3 1 u m xs := fun u m xs hu => ownsRow_setCell_below hu (by exact Nat.lt_succ_self _) _
  refine ⟨?_, by rw [List.length_append, h.len]; rfl, ?_, (h.below.trans (hb.mono h.below.size)).setCell (Nat.le_refl _) _⟩
  · have h3 := owns_set (m := i) h2 v
    rw [show N - i = (N - (i + 1)) + 1 from by omega] at h3
    have e := set_at (Value.slice none 0 0) v (N - (i + 1)) vs
    rw [h.len] at e
    rw [e] at h3
    exact h3
  · rw [List.take_add_one, hp, List.map_append]
    refine OwnAll.snoc ?_ (h.all.mono (fun u m xs hu => hk u m xs (owns_below hu hb (Nat.le_refl _))))
    rw [cut_length h12]
    refine hk _ _ _ ?_
    rcases ho with ⟨h4, h5⟩
    refine ⟨h4, ?_⟩
    rcases h5 with h5 | ⟨g, cap, cur, hv, hg, r⟩
    · exact Or.inl h5
    · exact Or.inr ⟨g, cap, cur, hv, by omega, r⟩

theorem ownsE_low {w : World} {base base' e size n : Nat} {v : Value} {xs : List Value} (h : w.ownsRow base e size v n xs) (hb : base' ≤ base) : w.ownsRow base' e size v n xs := by
  rcases h with ⟨h4, h5⟩
  refine ⟨h4, ?_⟩
  rcases h5 with h5 | ⟨g, cap, cur, hv, hg, r⟩
  · exact Or.inl h5
  · exact Or.inr ⟨g, cap, cur, hv, Nat.le_trans hb hg, r⟩

theorem row_cellE {w : World} {base e g n cap j : Nat} {vs : List Value} (h : w.ownsRow base e 1 (.slice (some ⟨g, 0, none⟩) n cap) n vs) (hj : j < n) : (∃ u, w.cell? ⟨g, j, none⟩ = some u) ∧ w.frozen? ⟨g, j, none⟩ = false := by
  have hl : j < vs.length := by rw [h.1]; omega
  have h9 := h.cells (g := g) rfl j _ (List.getElem?_eq_getElem hl)
  rw [Addr.add_lit, Nat.zero_add] at h9
  refine ⟨⟨_, h9⟩, ?_⟩
  rcases h.2 with ⟨h0, _⟩ | ⟨g', cap', cur, hv, hg, hh, r⟩
  · cases h0
  · cases hv
    simp [World.frozen?, hh]

/-- All rows of a group, in order, as a list of rows that the call owns. -/
def ElPost (n : Nat) (gs : List Pm) (w : World) (e : Ending) (w' : World) : Prop :=
  Below w.heap.size w w' ∧ if 5040 < sz (Gen (fun y => y ∈ gs)) n then e = .returned (.tuple #[.slice none 0 0, .int .i64 3]) else
    ∃ (v : Value) (vs : List Value) (X : List Pm), e = .returned (.tuple #[v, .int .i64 0]) ∧ X.length = sz (Gen (fun y => y ∈ gs)) n ∧ X.Nodup ∧ (∀ x, x ∈ X ↔ Gen (fun y => y ∈ gs) x) ∧ X.Pairwise (fun a b => 0 ≤ lcmp b.l a.l) ∧ LL w' w.heap.size v vs (X.map (cut n))

set_option maxRecDepth 20000 in
set_option maxHeartbeats 4000000 in
theorem elements_ok (n : Nat) (v : Value) (gs : List Pm) (w : World) (h12 : n ≤ 12) (hG : GroupAt w v n gs) :
    Calls Tryz.prog 25 #[v] w fun e w' => ElPost n gs w e w' := by
  have HS := hide (gsize_ok n v gs w h12 hG)
  obtain ⟨g1, vg1, B1, c1, bs1, C1, st1, rfl, hg1, a10, a11, a12, hP1, hC1, hb1, rfl⟩ := hG
  have HAll := hide (fun W hb => all_ok hC1 h12 hb1 W hb)
  have hlen : (allC C1).length = sz (Gen (fun y => y ∈ gs)) n := by rw [allC_len, hC1.sz h12]
  have HND := hide (allC_nodup C1 hC1.whole)
  have HME : Hid (∀ x, x ∈ allC C1 ↔ Gen (fun y => y ∈ gs) x) := fun x => (mem_allC C1 x).trans (hC1.gen x)
  have HPO := hide (tabs_pos C1 hC1.whole)
  have HSZ : Hid (tabs C1 = sz (Gen (fun y => y ∈ gs)) n) := hC1.sz h12
  have HLE := hide hlen
  unfold ElPost
  generalize sz (Gen (fun y => y ∈ gs)) n = S at *
  clear hP1 hC1 hb1 hlen
  obtain ⟨i0, hi, hz0, hz1, hz2⟩ := info_parts Tryz.info22
  by_cases hbig : 5040 < S
  · simp only [if_pos hbig]
    go_enter Tryz.func25, Tryz.ntmps25
    go_wp2_with fail
    refine HS.out.mono ?_
    rintro e w1 ⟨rfl, hbw1⟩
    go_wp2
    go_ret2
    exact ⟨hbw1, rfl⟩
  · simp only [if_neg hbig]
    go_enter Tryz.func25, Tryz.ntmps25
    go_wp2_with fail
    refine HS.out.mono ?_
    rintro e w1 ⟨rfl, hbw1⟩
    have b12 : w1.cell? ⟨g1, 2, none⟩ = some (.slice (some ⟨c1, 0, none⟩) n n) := (hbw1.cell (p := ⟨g1, 2, none⟩) hg1).trans a12
    go_wp2_with fail
    refine (HAll.out w1 hbw1).mono ?_
    rintro e w2 ⟨vr, rfl, hR⟩
    have hrl : 1 ≤ (allC C1).length := by rw [HLE.out, ← HSZ.out]; exact HPO.out
    have hSrt := gsort_ok w1.heap.size vr (allC C1) w2 hR.own hrl (by rw [HLE.out]; omega)
    have HSrt := hide hSrt
    have HB2 := hide hR.below
    clear hSrt hR
    go_wp2_with fail
    refine HSrt.out.mono ?_
    rintro e w3 ⟨rfl, X, ⟨hperm, hpw⟩, hown3, hb3⟩
    have hXl : X.length = S := by rw [hperm.length_eq]; exact HLE.out
    have hR3 : AllR w1 w3 vr X := ⟨hown3, HB2.out.trans hb3⟩
    obtain ⟨rb, rc, erv, hrc1, hrc2, hrb1, hrb2⟩ := hR3.form (by rw [hperm.length_eq]; exact hrl)
    subst erv
    have HR3 := hide hR3
    have HPM := hide hperm
    have HPW := hide hpw
    have hB13 := hR3.below
    rw [hXl] at hrc1
    have hS1 : 1 ≤ S := by rw [← hXl, hperm.length_eq]; exact hrl
    have HXL := hide hXl
    rw [hXl] at HR3 ⊢
    clear hR3 hperm hpw hown3 hb3 hXl hrl HSrt HB2
    go_wp2_with (at_make; refine wpList_make_full _ rfl _ _ 25 rfl w3.heap.size 22 i0 (.slice none 0 0) 1 Tryz.underlying25 hi hz0 hz1 _ _ _ _ S rfl rfl (by omega) (by omega) ?b2 ?b3 ?b4 ?_)
    case b2 => rw [hz2]; omega
    case b3 => unfold maxLen; omega
    case b4 => simp
    intro w4 hown4 hgrow4
    rw [made_rows] at hown4
    have hB34 : Below w3.heap.size w3 w4 := (Below.refl _ _).grown hgrow4 (Nat.le_refl _) (fun k h => by cases h)
    have HE0 : Hid (ElR w3 w4 n S X 0 []) := ⟨hown4, rfl, trivial, hB34⟩
    have hw13 : w.heap.size ≤ w3.heap.size := Nat.le_trans hbw1.size hB13.size
    have b10 : w3.cell? ⟨g1, 0, none⟩ = some (.int .i64 (n : Int)) := ((hB13.cell (p := ⟨g1, 0, none⟩) (Nat.lt_of_lt_of_le hg1 hbw1.size)).trans (hbw1.cell (p := ⟨g1, 0, none⟩) hg1)).trans a10
    have hg13 : g1 < w3.heap.size := Nat.lt_of_lt_of_le hg1 hw13
    have HBW : Hid (Below w.heap.size w w3) := hbw1.trans (hB13.mono hbw1.size)
    have HUP := hide (fun (p : Pm) W => unpack_ok p n W h12)
    unfold pv at HUP
    clear hown4 hgrow4 hB34 hB13 a10 a11 a12 b12 hbw1 hi hz0 hz1 hz2 HS HAll
    go_wp2
    go_loopw [23] (fun si wr => ∃ (i : Nat) (vs : List Value), i ≤ S ∧ si = .int .i64 i ∧ ElR w3 wr n S X i vs) (fun si _ => S - (intOf si).toNat)
    case atStart => exact ⟨0, [], Nat.zero_le _, rfl, HE0.out⟩
    case round =>
      obtain ⟨i, vs, hi, rfl, hE⟩ := hrel
      by_cases hlt : i < S
      · obtain ⟨p, hp⟩ : ∃ p, X[i]? = some p := ⟨_, List.getElem?_eq_getElem (by rw [HXL.out]; exact hlt)⟩
        have hrange : wr.rangeAt rb (i * 12) (p.l.map (Value.int .i8)) := (HR3.out.later hE.below).at hp
        have hin : (Tryz.prog.info? 78).map (·.size) = some (p.l.map (Value.int .i8)).length := by rw [List.length_map, p.len]; exact Tryz.size78
        have hpl := p.len
        have HE := hide hE
        have HP := hide hp
        have hcg : wr.cell? ⟨g1, 0, none⟩ = some (.int .i64 (n : Int)) := (hE.below.cell (p := ⟨g1, 0, none⟩) hg13).trans b10
        have hsz := hE.below.size
        have hszE := (hE.row.lt w3.heap.size rfl).2
        have HW6 : Hid (∀ (o : Obj) (w6 : World), (wr.alloc o).grownBy w6 (some wr.heap.size) → Hid (w6.cell? ⟨g1, 0, none⟩ = some (.int .i64 (n : Int))) ∧ Hid (Below wr.heap.size wr w6)) := fun o w6 hg6 => by
          have hb6 : Below wr.heap.size wr w6 := ((Below.refl _ _).alloc (Nat.le_refl _) _).grown hg6 (by simp) (fun k h => by have := Option.some.inj h; omega)
          exact ⟨(hb6.cell (p := ⟨g1, 0, none⟩) (by show g1 < wr.heap.size; omega)).trans hcg, hb6⟩
        clear hE hp
        go_wp2_with (first
          | refine wpList_load_mid rfl 78 _ rfl rb _ rfl _ _ hrange Tryz.underlying78 rfl hin ?_
          | (refine wpList_store_arr rfl _ _ rfl wr.heap.size zeros12 p.l (zeros_new wr) rfl rfl hpl ?_; intro w6 hX6 hg6; obtain ⟨HC6, HB6⟩ := HW6.out _ w6 hg6; clear hg6))
        have hc6 := HC6.out
        refine wp_region_held_drew (S := fun W' => Arr W' wr.heap.size p.l ∧ W'.cell? ⟨g1, 0, none⟩ = some (.int .i64 (n : Int))) (by kernel_rfl) ⟨hX6, hc6⟩ (fun hS => ?_)
        refine wpAnyH_take (i := 0) (v := .slice (some ⟨w3.heap.size, 0, none⟩) S S) rfl (by kernel_rfl) (by kernel_rfl) (by kernel_rfl) (fun _ _ _ h => h) (Or.inl ⟨by kernel_rfl, fun w' hS' => by clear hS'; go_simp⟩) hS ?_
        refine wpAnyH_take (i := 1) (v := .int .i64 (i : Int)) rfl (by kernel_rfl) (by kernel_rfl) (by kernel_rfl) (fun _ _ _ h => h) (Or.inl ⟨by kernel_rfl, fun w' hS' => by clear hS'; go_simp⟩) hS ?_
        refine wpAnyH_take (i := 2) rfl (by kernel_rfl) (by kernel_rfl) (by kernel_rfl) (fun _ _ _ h => h) (yieldsIf_load_mid (by rfl) _ _ rfl wr.heap.size 0 rfl (p.l.map (Value.int .i8)) _ (fun w' h => Arr.range h.1) Tryz.underlying78 rfl hin) hS ?_
        refine wpAnyH_take (i := 3) (v := .pointer (some ⟨g1, 0, none⟩)) rfl (by kernel_rfl) (by kernel_rfl) (by kernel_rfl) (fun _ _ _ h => h) (Or.inl ⟨by kernel_rfl, fun w' hS' => by clear hS'; go_simp⟩) hS ?_
        refine wpAnyH_take (i := 4) (v := .pointer (some ⟨g1, 0, none⟩)) rfl (by kernel_rfl) (by kernel_rfl) (by kernel_rfl) (fun _ _ _ h => h) (Or.inl ⟨by kernel_rfl, fun w' hS' => by clear hS'; go_simp⟩) hS ?_
        refine wpAnyH_take (i := 5) (v := .pointer (some ⟨g1, 0, none⟩)) rfl (by kernel_rfl) (by kernel_rfl) (by kernel_rfl) (fun _ _ _ h => h) (Or.inl ⟨by kernel_rfl, fun w' hS' => by clear hS'; go_simp⟩) hS ?_
        refine wpAnyH_take (i := 6) (v := .int .i64 (n : Int)) rfl (by kernel_rfl) (by kernel_rfl) (by kernel_rfl) (fun _ _ _ h => h) (Or.inl ⟨by kernel_rfl, fun w' hS' => by have h2 := hS'.2; clear hS'; go_simp⟩) hS ?_
        refine wpAnyH_ready (rs := [7]) (by kernel_rfl) (by simp) ?_
        refine AllReadyH.cons rfl (fun K hK => ?_) AllReadyH.nil
        go_simp
        refine (HUP.out p w6.drew).mono ?_
        rintro e w7 ⟨v7, rfl, hown7, hb7⟩
        replace hb7 := undrew hb7
        have hb67 : Below wr.heap.size wr w7 := HB6.out.trans (hb7.mono HB6.out.size)
        have hs7 : Arr w7 wr.heap.size p.l ∧ w7.cell? ⟨g1, 0, none⟩ = some (.int .i64 (n : Int)) := ⟨hX6.below hb7 hX6.lt, (hb67.cell (p := ⟨g1, 0, none⟩) (by show g1 < wr.heap.size; omega)).trans hcg⟩
        refine hK.out _ _ hs7 (fun hS => ?_)
        clear hK
        have hst := HE.out.step hlt h12 HP.out hb67 (ownsE_low hown7 (HB6.out.size))
        obtain ⟨⟨u0, hu0⟩, hfz⟩ := row_cellE (owns_below HE.out.row hb67 (Nat.le_refl _)) hlt
        obtain ⟨vp, vc, ev7⟩ := owns_slice hown7
        subst ev7
        have HST := hide hst
        clear hst hown7
        refine wpAnyH_take (i := 8) (v := .pointer (some ⟨w3.heap.size, i, none⟩)) rfl (by kernel_rfl) (by kernel_rfl) (by kernel_rfl) (fun _ _ _ h => h) (Or.inl ⟨by kernel_rfl, fun w' hS' => by clear hS'; go_simp⟩) hS ?_
        refine wpAnyH_ready (rs := [9]) (by kernel_rfl) (by simp) ?_
        refine AllReadyH.cons rfl (fun K hK => ?_) AllReadyH.nil
        go_simp
        have hs8 : Arr (w7.setCell ⟨w3.heap.size, i, none⟩ (.slice vp n vc)) wr.heap.size p.l ∧ (w7.setCell ⟨w3.heap.size, i, none⟩ (.slice vp n vc)).cell? ⟨g1, 0, none⟩ = some (.int .i64 (n : Int)) :=
          ⟨hs7.1.set_other (by omega) _, (((Below.refl w3.heap.size w7).setCell (Nat.le_refl _) _).cell (p := ⟨g1, 0, none⟩) hg13).trans hs7.2⟩
        refine hK.out _ _ hs8 (fun _ => ?_)
        clear hK
        refine wpAnyH_done (by kernel_rfl) ?_ _
        go_wp2
        go_roundw
        case rel =>
          have hfin : ∃ (i' : Nat) (vs : List Value), i' ≤ S ∧ Value.int .i64 ((i : Int) + 1) = .int .i64 (i' : Int) ∧ ElR w3 (w7.setCell ⟨w3.heap.size, i, none⟩ (.slice vp n vc)) n S X i' vs := ⟨i + 1, _, hlt, by go_num, HST.out⟩
          first
            | exact hfin
            | ((repeat apply Exists.intro); exact ⟨hfin, rfl⟩)
        case measure => simp [intOf]; omega
      · obtain rfl : i = S := by omega
        have hLL : LL wr w.heap.size (.slice (some ⟨w3.heap.size, 0, none⟩) i i) vs (X.map (cut n)) := by
          have h1 := hE.row
          have h2 := hE.all
          rw [Nat.sub_self, List.replicate_zero, List.append_nil] at h1
          rw [List.take_of_length_le (by rw [HXL.out]; exact Nat.le_refl _)] at h2
          refine ⟨?_, OwnAll.low (Nat.le_succ_of_le hw13) h2⟩
          have h3 := ownsE_low h1 hw13
          rw [← hE.len] at h3 ⊢
          exact h3
        have hB : Below w.heap.size w wr := HBW.out.trans (hE.below.mono hw13)
        have HLL := hide hLL
        have HBB := hide hB
        clear hE hLL hB
        go_wp2
        go_ret2
        exact ⟨HBB.out, _, vs, X, rfl, HXL.out, (HPM.out.nodup_iff).2 HND.out, fun x => (HPM.out.mem_iff).trans (HME.out x), HPW.out, HLL.out⟩
end Go.Proofs.YtahffpgadoiijaaGreat

/- Contract: a group's orbit, Orbits. -/
namespace Go.Proofs.YtahffpgadoiijaaGreat
open Go.RowKit

def natI (O : List Nat) : List Int := O.map (fun (k : Nat) => (k : Int))

theorem natI_mem (O : List Nat) (b : Nat) : ((b : Nat) : Int) ∈ natI O ↔ b ∈ O := by
  unfold natI
  rw [List.mem_map]
  exact ⟨fun ⟨a, ha, e⟩ => by have := Int.ofNat.inj e; rw [← this]; exact ha, fun h => ⟨b, h, rfl⟩⟩

/-- Bells that a call has gathered since w. -/
structure ObR (w wr : World) (v : Value) (O : List Nat) : Prop where
  own : wr.ownsRow w.heap.size 3 1 v O.length ((natI O).map (Value.int .i64))
  below : Below w.heap.size w wr

theorem ObR.later {w wr w' : World} {v : Value} {O : List Nat} (h : ObR w wr v O) (hb : Below wr.heap.size wr w') : ObR w w' v O :=
  ⟨owns_below h.own hb (Nat.le_refl _), h.below.trans (hb.mono h.below.size)⟩

theorem ObR.push {w wr w' : World} {v v' : Value} {O : List Nat} {b : Nat} (h : ObR w wr v O) (ho : w'.ownsRow w.heap.size 3 1 v' (O.length + 1) ((natI O).map (Value.int .i64) ++ [.int .i64 (b : Int)])) (hg : wr.grownBy w' v.ownBlock) : ObR w w' v' (O ++ [b]) :=
  ⟨by unfold natI at *; rw [List.length_append, List.map_append, List.map_append]; exact ho, h.below.grown hg h.below.size (fun k hk => (h.own.lt k hk).1)⟩

theorem ObR.form {w wr : World} {v : Value} {O : List Nat} (h : ObR w wr v O) (hn : 1 ≤ O.length) : ∃ b cap, v = .slice (some ⟨b, 0, none⟩) O.length cap ∧ O.length ≤ cap ∧ cap ≤ 9223372036854775807 ∧ b < wr.heap.size ∧ w.heap.size ≤ b := by
  obtain ⟨b, cap, e, h1, h2, h3, h4⟩ := owns_form h.own hn
  exact ⟨b, cap, e, h3, h4, h2, h1⟩

theorem ObR.at {w wr : World} {b cap m : Nat} {O : List Nat} (h : ObR w wr (.slice (some ⟨b, 0, none⟩) m cap) O) {i c : Nat} (hi : O[i]? = some c) : wr.cell? ⟨b, i, none⟩ = some (.int .i64 (c : Int)) := by
  have := h.own.cells (g := b) rfl i (.int .i64 (c : Int)) (by unfold natI; rw [List.getElem?_map, List.getElem?_map, hi]; rfl)
  rw [Addr.add_lit, Nat.zero_add] at this
  exact this

theorem act_below {n : Nat} {s : Pm} (h : Fixes (fun b => n ≤ b) s) {c : Nat} (hc : c < n) : s.act c < n := by
  by_cases h' : s.act c < n
  · exact h'
  · have := h (s.act c) (by show n ≤ s.act c; omega)
    have e := s.act_inj this
    omega

theorem natI_to (O : List Nat) : (natI O).map Int.toNat = O := by
  unfold natI; rw [List.map_map]
  exact List.map_id' O

theorem sort_nat (O : List Nat) (hnd : O.Nodup) : ∃ L : List Nat, natI L = (natI O).mergeSort (fun x y => decide (x ≤ y)) ∧ L.Perm O ∧ L.Pairwise (· < ·) := by
  have hp : ((natI O).mergeSort (fun x y => decide (x ≤ y))).Perm (natI O) := List.mergeSort_perm _ _
  have hs : ((natI O).mergeSort (fun x y => decide (x ≤ y))).Pairwise (fun x y => decide (x ≤ y) = true) :=
    List.pairwise_mergeSort (le := fun x y : Int => decide (x ≤ y)) (fun a b c h1 h2 => decide_eq_true (Int.le_trans (of_decide_eq_true h1) (of_decide_eq_true h2))) (fun a b => by simp; exact Int.le_total a b) _
  generalize (natI O).mergeSort (fun x y => decide (x ≤ y)) = ms at *
  have hpos : ∀ x, x ∈ ms → 0 ≤ x := fun x hx => by
    have := hp.mem_iff.1 hx
    unfold natI at this
    obtain ⟨k, _, rfl⟩ := List.mem_map.1 this
    omega
  have hLp : (ms.map Int.toNat).Perm O := by
    have := hp.map Int.toNat
    rwa [natI_to] at this
  refine ⟨ms.map Int.toNat, ?_, hLp, ?_⟩
  · unfold natI
    rw [List.map_map]
    conv => rhs; rw [← List.map_id ms]
    refine List.map_congr_left (fun x hx => ?_)
    have := hpos x hx
    show ((x.toNat : Nat) : Int) = x
    omega
  · have hnl := hLp.nodup_iff.2 hnd
    have h1 : (ms.map Int.toNat).Pairwise (fun a b => a ≤ b) := by
      rw [List.pairwise_map]
      exact hs.imp (fun {a b} h => by have := of_decide_eq_true h; omega)
    refine (h1.and hnl).imp (fun {a b} h => ?_)
    have := h.1
    have := h.2
    omega

/-- A bell's orbit, in order. -/
structure OrbL (gs : List Pm) (n a : Nat) (L : List Nat) : Prop where
  sorted : L.Pairwise (· < ·)
  lt : ∀ b, b ∈ L → b < n
  mem : ∀ b, b ∈ L ↔ Reach gs a b

end Go.Proofs.YtahffpgadoiijaaGreat

/- Contract: a group's Orbits. -/
namespace Go.Proofs.YtahffpgadoiijaaGreat
open Go.RowKit

theorem sorted_ext : ∀ (A B : List Nat), A.Pairwise (· < ·) → B.Pairwise (· < ·) → (∀ x, x ∈ A ↔ x ∈ B) → A = B
  | [], [], _, _, _ => rfl
  | [], b :: B, _, _, h => absurd ((h b).2 List.mem_cons_self) (by simp)
  | a :: A, [], _, _, h => absurd ((h a).1 List.mem_cons_self) (by simp)
  | a :: A, b :: B, hA, hB, h => by
    rw [List.pairwise_cons] at hA hB
    have hab : a = b := by
      rcases List.mem_cons.1 ((h a).1 List.mem_cons_self) with e | e
      · exact e
      · rcases List.mem_cons.1 ((h b).2 List.mem_cons_self) with e' | e'
        · exact e'.symm
        · have := hA.1 b e'
          have := hB.1 a e
          omega
    subst hab
    rw [sorted_ext A B hA.2 hB.2 (fun x => ?_)]
    constructor
    · intro hx
      rcases List.mem_cons.1 ((h x).1 (List.mem_cons_of_mem _ hx)) with e | e
      · have := hA.1 x hx; omega
      · exact e
    · intro hx
      rcases List.mem_cons.1 ((h x).2 (List.mem_cons_of_mem _ hx)) with e | e
      · have := hB.1 x hx; omega
      · exact e

open Classical in
/-- A bell's orbit, in order. -/
noncomputable def orbS (gs : List Pm) (n a : Nat) : List Nat := (List.range n).filter (fun b => decide (Reach gs a b))

theorem mem_orbS {gs : List Pm} {n a b : Nat} : b ∈ orbS gs n a ↔ b < n ∧ Reach gs a b := by
  unfold orbS
  simp [List.mem_filter]

theorem orbS_sorted (gs : List Pm) (n a : Nat) : (orbS gs n a).Pairwise (· < ·) := by
  unfold orbS
  exact List.Pairwise.filter _ List.pairwise_lt_range

theorem OrbL.eq {gs : List Pm} {n a : Nat} {L : List Nat} (h : OrbL gs n a L) : L = orbS gs n a :=
  sorted_ext _ _ h.sorted (orbS_sorted gs n a) (fun x => by rw [mem_orbS, h.mem]; exact ⟨fun hx => ⟨h.lt x ((h.mem x).2 hx), hx⟩, fun hx => hx.2⟩)

open Classical in
/-- The orbits of the bells below k, as they are come to. -/
noncomputable def orbsTo (gs : List Pm) (n : Nat) : Nat → List (List Nat)
  | 0 => []
  | k + 1 => if k ∈ (orbsTo gs n k).flatten then orbsTo gs n k else orbsTo gs n k ++ [orbS gs n k]

theorem orbsTo_yes {gs : List Pm} {n k : Nat} (h : k ∈ (orbsTo gs n k).flatten) : orbsTo gs n (k + 1) = orbsTo gs n k := by
  show (if _ then _ else _) = _
  rw [if_pos h]

theorem orbsTo_no {gs : List Pm} {n k : Nat} (h : ¬ k ∈ (orbsTo gs n k).flatten) : orbsTo gs n (k + 1) = orbsTo gs n k ++ [orbS gs n k] := by
  show (if _ then _ else _) = _
  rw [if_neg h]

theorem orbsTo_length (gs : List Pm) (n : Nat) : ∀ k, (orbsTo gs n k).length ≤ k
  | 0 => Nat.le_refl _
  | k + 1 => by
    have := orbsTo_length gs n k
    by_cases h : k ∈ (orbsTo gs n k).flatten
    · rw [orbsTo_yes h]; omega
    · rw [orbsTo_no h, List.length_append]; simp; omega

theorem natI_flat (X : List (List Nat)) (k : Nat) : ((k : Nat) : Int) ∈ (X.map natI).flatten ↔ k ∈ X.flatten := by
  simp only [List.mem_flatten, List.mem_map]
  constructor
  · rintro ⟨l, ⟨a, ha, rfl⟩, hk⟩
    exact ⟨a, ha, (natI_mem a k).1 hk⟩
  · rintro ⟨a, ha, hk⟩
    exact ⟨natI a, ⟨a, ha, rfl⟩, (natI_mem a k).2 hk⟩

/-- What the outer loop's relation says of the world. -/
structure OrRel (w wr : World) (D : Nat) (v : Value) (vs : List Value) (X : List (List Nat)) : Prop where
  row : wr.ownsRow (D + 1) 22 1 v vs.length vs
  all : OwnAll wr (D + 1) vs (X.map natI)
  marks : Marks wr D (X.map natI).flatten
  size : D < wr.heap.size
  below : Below w.heap.size w wr

theorem OrRel.enter {w wr w1 : World} {D g cap p : Nat} {v : Value} {vs : List Value} {X : List (List Nat)} {o : List Int} (h : OrRel w wr D v vs X) (hB : Below wr.heap.size wr w1)
    (ho : w1.ownsRow wr.heap.size 3 1 (.slice (some ⟨g, 0, none⟩) p cap) p (o.map (Value.int .i64))) : MarkRel w w1 D v vs (X.map natI) g p cap 0 o :=
  ⟨owns_below h.row hB (Nat.le_refl _), h.all.mono (fun _ _ _ h' => owns_below h' hB (Nat.le_refl _)), owns_base ho h.size, by rw [List.take_zero, List.append_nil]; exact marks_below h.marks hB h.size, Nat.lt_of_lt_of_le h.size hB.size, h.below.trans (hB.mono h.below.size)⟩

theorem OrRel.leave {w wr w' : World} {D g cap : Nat} {v v' : Value} {vs : List Value} {X : List (List Nat)} {L : List Nat} {o : Obj} (h : MarkRel w wr D v vs (X.map natI) g L.length cap L.length (natI L)) (hD : w.heap.size ≤ D)
    (ho : w'.ownsRow (D + 1) 22 1 v' (vs.length + 1) (vs ++ [.slice (some ⟨g, 0, none⟩) L.length cap])) (hg : (wr.alloc o).grownBy w' v.ownBlock) : OrRel w w' D v' (vs ++ [.slice (some ⟨g, 0, none⟩) L.length cap]) (X ++ [L]) := by
  have hrow := h.row.alloc o
  have hs : D < (wr.alloc o).heap.size := by have := h.size; simp; omega
  have hnl : (natI L).length = L.length := by unfold natI; rw [List.length_map]
  refine ⟨by rw [List.length_append]; exact ho, ?_, ?_, Nat.lt_of_lt_of_le hs hg.size, ?_⟩
  · rw [List.map_append]
    refine OwnAll.snoc ?_ (h.all.mono (fun _ _ _ h' => owns_kept_ty (h'.alloc o) hrow hg))
    rw [hnl]
    exact owns_kept_ty (h.one.alloc o) hrow hg
  · have hmk := h.marks
    rw [List.take_of_length_le (by rw [hnl]; exact Nat.le_refl _)] at hmk
    rw [List.map_append, List.flatten_append, show ([L].map natI).flatten = natI L from by simp]
    refine marks_kept (marks_kept hmk (World.grownBy_alloc wr o none) h.size (by simp)) hg hs ?_
    intro e
    have := (h.row.lt D e.symm).1
    omega
  · refine (h.below.alloc h.below.size o).grown hg (by have := h.below.size; simp; omega) (fun g' hg' => ?_)
    have := (h.row.lt g' hg').1
    omega

end Go.Proofs.YtahffpgadoiijaaGreat

/- Plain: Sims's filter, the orbit of a place. Contract: thinned, the answer's own. -/
namespace Go.Proofs.YtahffpgadoiijaaGreat
open Go.RowKit

/-- One in the table of two bells. -/
structure TabOne (n f k : Nat) (X : List Int) : Prop where
  row : isRow X
  len : X.length = n
  at_ : ∃ b q, k = b * n + q ∧ b < n ∧ q < n ∧ f ≤ b ∧ (∀ c, c < b → (pad X).act c = c) ∧ (pad X).act b = q

def TabOk (n f : Nat) (tx : List (Option (List Int))) : Prop := ∀ k X, tx[k]? = some (some X) → TabOne n f k X

def InTab (tx : List (Option (List Int))) (y : Pm) : Prop := ∃ X, some X ∈ tx ∧ y = pad X

theorem TabOk.of {n f : Nat} {tx : List (Option (List Int))} (h : TabOk n f tx) {b q : Nat} (hq : q < n) {X : List Int} (hX : tx[b * n + q]? = some (some X)) : isRow X ∧ X.length = n ∧ (∀ c, c < b → (pad X).act c = c) ∧ (pad X).act b = q := by
  obtain ⟨h1, h2, b', q', e, _, hq', _, h3, h4⟩ := h _ X hX
  have eb : b = b' := by
    have e1 : (b * n + q) / n = b := by rw [Nat.mul_comm, Nat.mul_add_div (by omega), Nat.div_eq_of_lt hq]; rfl
    have e2 : (b' * n + q') / n = b' := by rw [Nat.mul_comm, Nat.mul_add_div (by omega), Nat.div_eq_of_lt hq']; rfl
    rw [← e1, ← e2, e]
  subst eb
  have eq : q = q' := by omega
  subst eq
  exact ⟨h1, h2, h3, h4⟩

theorem tab_lt {n b q : Nat} (hb : b < n) (hq : q < n) : b * n + q < n * n := by
  have h1 : b * n + n ≤ n * n := by rw [← Nat.succ_mul]; exact Nat.mul_le_mul_right n hb
  omega

/-- Those that are made of the table, of the row in hand, and of the rows from i on. -/
def Mix (tx : List (Option (List Int))) (r : List Int) (rest : List (List Int)) (y : Pm) : Prop := (InTab tx y ∨ y ∈ rest.map pad) ∨ y = pad r

def Mix0 (tx : List (Option (List Int))) (rest : List (List Int)) (y : Pm) : Prop := InTab tx y ∨ y ∈ rest.map pad

theorem gen_congr {A B : Pm → Prop} (h : ∀ y, A y ↔ B y) (x : Pm) : Gen A x ↔ Gen B x := ⟨Gen.mono (fun s hs => (h s).1 hs), Gen.mono (fun s hs => (h s).2 hs)⟩

theorem mix_take {tx : List (Option (List Int))} {r : List Int} {rest : List (List Int)} (x : Pm) : Gen (Mix0 tx (r :: rest)) x ↔ Gen (Mix tx r rest) x := by
  refine gen_congr (fun y => ?_) x
  unfold Mix0 Mix
  rw [List.map_cons, List.mem_cons]
  constructor
  · rintro (h | h | h)
    · exact Or.inl (Or.inl h)
    · exact Or.inr h
    · exact Or.inl (Or.inr h)
  · rintro ((h | h) | h)
    · exact Or.inl h
    · exact Or.inr (Or.inr h)
    · exact Or.inr (Or.inl h)

/-- It is put into the table. -/
theorem mix_put {tx : List (Option (List Int))} {r : List Int} {rest : List (List Int)} {k : Nat} (h : tx[k]? = some none) (x : Pm) : Gen (Mix tx r rest) x ↔ Gen (Mix0 (tx.set k (some r)) rest) x := by
  have hk := (List.getElem?_eq_some_iff.1 h).1
  refine gen_congr (fun y => ?_) x
  unfold Mix Mix0 InTab
  constructor
  · rintro ((⟨X, hX, e⟩ | h1) | h1)
    · refine Or.inl ⟨X, ?_, e⟩
      obtain ⟨j, hj, ej⟩ := List.getElem_of_mem hX
      have hne : k ≠ j := fun e' => by subst e'; rw [List.getElem?_eq_getElem hk, ej] at h; cases h
      exact List.mem_iff_getElem?.2 ⟨j, by rw [List.getElem?_set_ne hne, List.getElem?_eq_getElem hj, ej]⟩
    · exact Or.inr h1
    · exact Or.inl ⟨r, List.mem_iff_getElem?.2 ⟨k, by rw [List.getElem?_set_self hk]⟩, h1⟩
  · rintro (⟨X, hX, e⟩ | h1)
    · rcases List.mem_or_eq_of_mem_set hX with h2 | h2
      · exact Or.inl (Or.inl ⟨X, h2, e⟩)
      · injection h2 with h2; subst h2; exact Or.inr e
    · exact Or.inl (Or.inr h1)

/-- .. or changed by what is there. -/
theorem mix_turn {tx : List (Option (List Int))} {r r' t : List Int} {rest : List (List Int)} {k : Nat} (h : tx[k]? = some (some t)) (hr : pad r' = (pad t)⁻¹ * pad r) (x : Pm) : Gen (Mix tx r rest) x ↔ Gen (Mix tx r' rest) x := by
  unfold Mix
  rw [hr]
  exact gen_swap (A := fun y => InTab tx y ∨ y ∈ rest.map pad) (Or.inl ⟨t, List.mem_of_getElem? h, rfl⟩) x

/-- .. and is nothing at last. -/
theorem mix_drop {tx : List (Option (List Int))} {r : List Int} {rest : List (List Int)} (hr : pad r = 1) (x : Pm) : Gen (Mix tx r rest) x ↔ Gen (Mix0 tx rest) x := by
  unfold Mix Mix0
  rw [hr]
  exact gen_drop x

theorem TabOk.put {n f b q : Nat} {tx : List (Option (List Int))} (h : TabOk n f tx) {r : List Int} (h1 : isRow r) (h2 : r.length = n) (hb : b < n) (hq : q < n) (hf : f ≤ b) (h3 : ∀ c, c < b → (pad r).act c = c) (h4 : (pad r).act b = q) : TabOk n f (tx.set (b * n + q) (some r)) := by
  intro k X hX
  rw [List.getElem?_set] at hX
  by_cases e : b * n + q = k
  · rw [if_pos e] at hX
    split at hX
    · injection hX with hX; injection hX with hX; subst hX
      exact ⟨h1, h2, b, q, e.symm, hb, hq, hf, h3, h4⟩
    · cases hX
  · rw [if_neg e] at hX
    exact h k X hX

/-- What the table holds, in order. -/
def outs (tx : List (Option (List Int))) : List (List Int) := tx.filterMap id

theorem outs_gen (tx : List (Option (List Int))) (x : Pm) : Gen (Mix0 tx []) x ↔ Gen (fun y => y ∈ (outs tx).map pad) x := by
  refine gen_congr (fun y => ?_) x
  unfold Mix0 InTab outs
  constructor
  · rintro (⟨X, hX, e⟩ | h1)
    · exact List.mem_map.2 ⟨X, List.mem_filterMap.2 ⟨_, hX, rfl⟩, e.symm⟩
    · cases h1
  · intro h1
    obtain ⟨X, hX, e⟩ := List.mem_map.1 h1
    obtain ⟨o, ho, e'⟩ := List.mem_filterMap.1 hX
    rw [show o = some X from e'] at ho
    exact Or.inl ⟨X, ho, e.symm⟩

theorem outs_snoc {tx : List (Option (List Int))} {k : Nat} {o : Option (List Int)} (h : tx[k]? = some o) : outs (tx.take (k + 1)) = outs (tx.take k) ++ o.toList := by
  unfold outs
  rw [List.take_add_one, h, List.filterMap_append]
  cases o <;> rfl

theorem outs_rows {n f : Nat} {tx : List (Option (List Int))} (h : TabOk n f tx) : RowsN n (outs tx) := by
  intro X hX
  obtain ⟨o, ho, e'⟩ := List.mem_filterMap.1 hX
  rw [show o = some X from e'] at ho
  obtain ⟨j, hj, ej⟩ := List.getElem_of_mem ho
  have := h j X (by rw [List.getElem?_eq_getElem hj, ej])
  exact ⟨this.row, this.len⟩

theorem outs_len (tx : List (Option (List Int))) : (outs tx).length ≤ tx.length := List.length_filterMap_le _ _

/-! the orbit -/

/-- What has been found: bells with what brings them to the place k. -/
structure Orbs (S : Pm → Prop) (n k : Nat) (T : List (Nat × Pm)) : Prop where
  nodup : (T.map (·.1)).Nodup
  first : (k, (1 : Pm)) ∈ T
  brings : ∀ e, e ∈ T → e.2.act k = e.1
  gen : ∀ e, e ∈ T → Gen S e.2
  lt : ∀ e, e ∈ T → e.1 < n

theorem Orbs.start {S : Pm → Prop} {n k : Nat} (hk : k < n) : Orbs S n k [(k, 1)] :=
  ⟨by simp, by simp, fun e he => by rw [List.mem_singleton.1 he]; exact Pm.act_one k, fun e he => by rw [List.mem_singleton.1 he]; exact Gen.one, fun e he => by rw [List.mem_singleton.1 he]; exact hk⟩

theorem Orbs.more {S : Pm → Prop} {n k : Nat} {T : List (Nat × Pm)} (h : Orbs S n k T) {s : Pm} (hs : S s) {e : Nat × Pm} (he : e ∈ T) (hl : s.act e.1 < n) (hn : ¬ s.act e.1 ∈ T.map (·.1)) : Orbs S n k (T ++ [(s.act e.1, s * e.2)]) := by
  refine ⟨?_, List.mem_append_left _ h.first, ?_, ?_, ?_⟩
  · rw [List.map_append, List.nodup_append]
    refine ⟨h.nodup, by simp, fun a ha b hb e' => hn ?_⟩
    have : b = s.act e.1 := by simpa using hb
    rw [← this, ← e']; exact ha
  all_goals
    intro x hx
    rcases List.mem_append.1 hx with hx | hx
  · exact h.brings x hx
  · rw [List.mem_singleton.1 hx]; show (s * e.2).act k = s.act e.1; rw [Pm.act_mul, h.brings e he]
  · exact h.gen x hx
  · rw [List.mem_singleton.1 hx]; exact Gen.mul hs (h.gen e he)
  · exact h.lt x hx
  · rw [List.mem_singleton.1 hx]; exact hl

theorem Orbs.len {S : Pm → Prop} {n k : Nat} {T : List (Nat × Pm)} (h : Orbs S n k T) : T.length ≤ n := by
  have := nodup_len (T.map (·.1)) (List.range n) h.nodup (fun b hb => by
    obtain ⟨e, he, rfl⟩ := List.mem_map.1 hb
    exact List.mem_range.2 (h.lt e he))
  rwa [List.length_map, List.length_range] at this

/-- All have been gone through. -/
def OrbsDone (S : Pm → Prop) (T : List (Nat × Pm)) : Prop := ∀ s, S s → ∀ e, e ∈ T → s.act e.1 ∈ T.map (·.1)

theorem Orbs.size {S G : Pm → Prop} {n k : Nat} {T : List (Nat × Pm)} (h : Orbs S n k T) (hd : OrbsDone S T) (hk : k < 12) (hG : ∀ x, Gen S x ↔ Low G k x) : T.length = oc G k := by
  have key : ∀ x, Gen S x → x.act k ∈ T.map (·.1) := by
    intro x hx
    induction hx with
    | one => rw [Pm.act_one]; exact List.mem_map.2 ⟨_, h.first, rfl⟩
    | @mul s y hs _ ih =>
      obtain ⟨e, he, e1⟩ := List.mem_map.1 ih
      rw [Pm.act_mul, ← e1]
      exact hd s hs e he
  have := oc_of (G := G) hk h.nodup (fun b => by
    constructor
    · intro hb
      obtain ⟨e, he, rfl⟩ := List.mem_map.1 hb
      exact ⟨e.2, (hG _).1 (h.gen e he), h.brings e he⟩
    · rintro ⟨x, hx, rfl⟩
      exact key x ((hG x).2 hx))
  rwa [List.length_map] at this

theorem Orbs.low {S G : Pm → Prop} {n k : Nat} {T : List (Nat × Pm)} (h : Orbs S n k T) (hd : OrbsDone S T) (hG : ∀ x, Gen S x ↔ Low G k x) (x : Pm) : Gen (Sch S T) x ↔ Low G (k + 1) x := by
  rw [schreier h.nodup h.first h.brings h.gen (fun s hs e he => by
    obtain ⟨e', he', e1⟩ := List.mem_map.1 (hd s hs e he)
    exact ⟨e', he', e1⟩) x, hG x, low_plus]

/-- A row that came in, or one that the call has made. -/
def KeptI (w wr : World) (u : Value) (X : List Int) : Prop := Ints w u X ∨ wr.ownsRow w.heap.size 3 1 u X.length (X.map (Value.int .i64))

theorem KeptI.ints {w wr : World} {u : Value} {X : List Int} (h : KeptI w wr u X) (hb : Below w.heap.size w wr) : Ints wr u X := by
  rcases h with h | h
  · exact h.below hb
  · exact Ints.own h

theorem KeptI.later {w wr w' : World} {u : Value} {X : List Int} (h : KeptI w wr u X) (hb : Below wr.heap.size wr w') : KeptI w w' u X :=
  h.imp id (fun h => owns_below h hb (Nat.le_refl _))

theorem heap_setCell_ne (w : World) (b x : Nat) (u : Value) {c : Nat} (h : c ≠ b) : (w.setCell ⟨b, x, none⟩ u).heap[c]? = w.heap[c]? := by
  simp only [World.setCell, Array.getElem?_modify]
  rw [if_neg (fun e => h e.symm)]

theorem owns_ty_ne {w : World} {base base' n m : Nat} {u v : Value} {xs ys : List Value} (h1 : w.ownsRow base 3 1 u n xs) (h2 : w.ownsRow base' 22 1 v m ys) {g : Nat} (hg : v.ownBlock = some g) (b : Nat) (hb : u.ownBlock = some b) : b ≠ g := by
  intro e
  subst e
  obtain ⟨c1, e1⟩ := owns_obj h1 hb
  obtain ⟨c2, e2⟩ := owns_obj h2 hg
  rw [e1] at e2
  injection e2 with e2
  injection e2 with _ e2
  exact absurd e2 (by decide)

theorem KeptI.store {w wr : World} {u v : Value} {X : List Int} {m g x : Nat} {ys : List Value} (h : KeptI w wr u X) (h2 : wr.ownsRow w.heap.size 22 1 v m ys) (hg : v.ownBlock = some g) (z : Value) : KeptI w (wr.setCell ⟨g, x, none⟩ z) u X :=
  h.imp id (fun h => owns_of_block h (fun b hb => heap_setCell_ne wr g x z (owns_ty_ne h h2 hg b hb)))

theorem KeptI.grown {w wr w' : World} {u v : Value} {X : List Int} {m : Nat} {ys : List Value} (h : KeptI w wr u X) (h2 : wr.ownsRow w.heap.size 22 1 v m ys) (hg : wr.grownBy w' v.ownBlock) : KeptI w w' u X :=
  h.imp id (fun h => owns_kept_ty h h2 hg)

def AllKept (w wr : World) : List Value → List (List Int) → Prop
  | [], [] => True
  | u :: us, x :: xs => KeptI w wr u x ∧ AllKept w wr us xs
  | _, _ => False

theorem AllKept.mono {w wr w' : World} (h : ∀ u x, KeptI w wr u x → KeptI w w' u x) : ∀ {us : List Value} {xs : List (List Int)}, AllKept w wr us xs → AllKept w w' us xs
  | [], [], _ => trivial
  | _ :: _, _ :: _, ⟨h1, h2⟩ => ⟨h _ _ h1, AllKept.mono h h2⟩

theorem AllKept.snoc {w wr : World} {u : Value} {x : List Int} (h : KeptI w wr u x) : ∀ {us : List Value} {xs : List (List Int)}, AllKept w wr us xs → AllKept w wr (us ++ [u]) (xs ++ [x])
  | [], [], _ => ⟨h, trivial⟩
  | _ :: _, _ :: _, ⟨h1, h2⟩ => ⟨h1, AllKept.snoc h h2⟩

theorem AllKept.length {w wr : World} : ∀ {us : List Value} {xs : List (List Int)}, AllKept w wr us xs → us.length = xs.length
  | [], [], _ => rfl
  | _ :: _, _ :: _, ⟨_, h2⟩ => by simp [AllKept.length h2]

theorem AllKept.at {w wr : World} : ∀ {us : List Value} {xs : List (List Int)} {j : Nat}, AllKept w wr us xs → j < us.length → KeptI w wr (us.getD j undef) (xs.getD j [])
  | _ :: _, _ :: _, 0, ⟨h1, _⟩, _ => h1
  | _ :: us, _ :: xs, j + 1, ⟨_, h2⟩, hj => by
    have := AllKept.at (j := j) h2 (by simpa using hj)
    simpa using this

theorem AllKept.all {w wr : World} {base e : Nat} {v : Value} {us : List Value} {xs : List (List Int)} (h : AllKept w wr us xs) (ho : wr.ownsRow base e 1 v us.length us) (hb : Below w.heap.size w wr) : IntsAll wr v xs :=
  ⟨us, Vals.own ho, h.length, fun j hj => (h.at (by rw [h.length]; exact hj)).ints hb⟩

/-- The table of rows, as it lies. -/
structure TRel (w wr : World) (N : Nat) (tv : List Value) (tx : List (Option (List Int))) : Prop where
  tab : wr.ownsRow w.heap.size 22 1 (.slice (some ⟨w.heap.size, 0, none⟩) N N) N tv
  len : tx.length = N
  no : ∀ k : Nat, tx[k]? = some none → tv[k]? = some (Value.slice none 0 0)
  yes : ∀ (k : Nat) (X : List Int), tx[k]? = some (some X) → ∃ u, tv[k]? = some u ∧ KeptI w wr u X
  below : Below w.heap.size w wr

theorem TRel.later {w wr w' : World} {N : Nat} {tv : List Value} {tx : List (Option (List Int))} (h : TRel w wr N tv tx) (hb : Below wr.heap.size wr w') : TRel w w' N tv tx :=
  ⟨owns_below h.tab hb (Nat.le_refl _), h.len, h.no, fun k X hX => by obtain ⟨u, h1, h2⟩ := h.yes k X hX; exact ⟨u, h1, h2.later hb⟩, h.below.trans (hb.mono h.below.size)⟩

theorem TRel.put {w wr : World} {N : Nat} {tv : List Value} {tx : List (Option (List Int))} (h : TRel w wr N tv tx) {k : Nat} {u : Value} {R : List Int} (hu : KeptI w wr u R) (hk : k < N) : TRel w (wr.setCell ⟨w.heap.size, k, none⟩ u) N (tv.set k u) (tx.set k (some R)) := by
  have hl : tv.length = N := by have := h.tab.1; omega
  refine ⟨owns_set h.tab u, by rw [List.length_set]; exact h.len, ?_, ?_, h.below.setCell (Nat.le_refl _) _⟩
  · intro j hj
    rw [List.getElem?_set] at hj
    by_cases e : k = j
    · rw [if_pos e] at hj
      split at hj
      · injection hj with hj; cases hj
      · cases hj
    · rw [if_neg e] at hj
      rw [List.getElem?_set_ne e]
      exact h.no j hj
  · intro j X hj
    rw [List.getElem?_set] at hj
    by_cases e : k = j
    · subst e
      rw [if_pos rfl, if_pos (by rw [h.len]; exact hk)] at hj
      injection hj with hj; injection hj with hj; subst hj
      exact ⟨u, List.getElem?_set_self (by omega), hu.store h.tab rfl u⟩
    · rw [if_neg e] at hj
      rw [List.getElem?_set_ne e]
      obtain ⟨u', h1, h2⟩ := h.yes j X hj
      exact ⟨u', h1, h2.store h.tab rfl u⟩

theorem TRel.grown {w wr w' : World} {N m : Nat} {tv ys : List Value} {tx : List (Option (List Int))} {v : Value} (h : TRel w wr N tv tx) (h2 : wr.ownsRow w.heap.size 22 1 v m ys) (hne : v.ownBlock ≠ some w.heap.size) (hg : wr.grownBy w' v.ownBlock) : TRel w w' N tv tx :=
  ⟨owns_row_kept h.tab (Or.inl (fun e => hne e.symm)) hg, h.len, h.no, fun k X hX => by obtain ⟨u, h1, h3⟩ := h.yes k X hX; exact ⟨u, h1, h3.grown h2 hg⟩, h.below.grown hg h.below.size (fun g' hg' => (h2.lt g' hg').1)⟩

theorem TRel.cell {w wr : World} {N k : Nat} {tv : List Value} {tx : List (Option (List Int))} (h : TRel w wr N tv tx) {u : Value} (hu : tv[k]? = some u) : wr.cell? ⟨w.heap.size, k, none⟩ = some u := by
  have hk : k < tv.length := (List.getElem?_eq_some_iff.1 hu).1
  have := owns_val h.tab (j := k) (by have := h.tab.1; omega)
  rw [List.getD, hu] at this
  exact this

theorem TRel.frozen {w wr : World} {N k : Nat} {tv : List Value} {tx : List (Option (List Int))} (h : TRel w wr N tv tx) : wr.frozen? ⟨w.heap.size, k, none⟩ = false := by
  obtain ⟨cur, hc⟩ := owns_obj h.tab (b := w.heap.size) rfl
  simp [World.frozen?, hc]

theorem Ints.unique {w : World} {v : Value} {X Y : List Int} (h : Ints w v X) (k : Ints w v Y) : X = Y := by
  rcases h with ⟨rfl, p, c, rfl⟩ | ⟨b, off, cap, rfl, h0, hc, hm, hb, hcell⟩
  · rcases k with ⟨rfl, p, c, _⟩ | ⟨b, off, cap, e, h0, _⟩
    · rfl
    · injection e with _ e2 _; omega
  · rcases k with ⟨rfl, p, c, e⟩ | ⟨b', off', cap', e, h0', hc', hm', hb', hcell'⟩
    · injection e with _ e2 _; omega
    · injection e with e1 e2 e3
      injection e1 with e1
      injection e1 with e1 e4
      subst e1; subst e4
      refine ext_getD e2 (fun j hj => ?_)
      have h1 := hcell j hj
      rw [hcell' j (by omega)] at h1
      injection h1 with h1
      injection h1 with _ h1
      exact h1.symm

open Classical in
/-- Is the bell b of the row not in its own place? -/
noncomputable def stuck (w : World) (v : Value) (b : Nat) : Nat := if ∃ R, Ints w v R ∧ R.getD b 0 = (b : Int) then 0 else 1

theorem stuck_le (w : World) (v : Value) (b : Nat) : stuck w v b ≤ 1 := by unfold stuck; split <;> omega
theorem stuck_not {w : World} {v : Value} {b : Nat} {R : List Int} (h : Ints w v R) (e : R.getD b 0 = (b : Int)) : stuck w v b = 0 := by unfold stuck; rw [if_pos ⟨R, h, e⟩]
theorem stuck_is {w : World} {v : Value} {b : Nat} {R : List Int} (h : Ints w v R) (e : ¬ R.getD b 0 = (b : Int)) : stuck w v b = 1 := by
  unfold stuck; rw [if_neg]
  rintro ⟨R', h1, h2⟩
  rw [h.unique h1] at e
  exact e h2

theorem pad_getD {n b : Nat} {R : List Int} (hr : isRow R) (hl : R.length = n) (h12 : n ≤ 12) (hb : b < n) : R.getD b 0 = (((pad R).act b : Nat) : Int) := by
  have := cut_get (n := n) (j := b) (pad R) h12 hb
  rw [cut_pad h12 hl hr] at this
  exact this

theorem made_nils (n : Nat) : (madeCells #[Value.slice none 0 0] n).toList = List.replicate n (Value.slice none 0 0) := by
  apply List.ext_getElem
  · simp [madeCells]
  · intro i h1 h2
    simp [madeCells, Nat.mod_one]

/-- A row with nobody out of place. -/
theorem pad_one_of {n : Nat} {R : List Int} (hr : isRow R) (hl : R.length = n) (h12 : n ≤ 12) (h : ∀ c, c < n → (pad R).act c = c) : pad R = 1 :=
  Pm.ext' (fun b _ => by
    rw [Pm.act_one]
    rcases Nat.lt_or_ge b n with hb | hb
    · exact h b hb
    · exact pad_fixes h12 hl hr b hb)

/-- The row in hand, changed by what is there. -/
theorem thin_turn {n b q : Nat} {R t zs : List Int} (h12 : n ≤ 12) (hb : b < n) (hr : isRow R) (hl : R.length = n) (htr : isRow t) (htl : t.length = n) (htf : ∀ c, c < b → (pad t).act c = c) (htb : (pad t).act b = q) (hRf : ∀ c, c < b → (pad R).act c = c) (hRb : (pad R).act b = q) (hz : Undoes zs t) :
    isRow (by_ zs R) ∧ (by_ zs R).length = n ∧ pad (by_ zs R) = (pad t)⁻¹ * pad R ∧ (∀ c, c < b → (pad (by_ zs R)).act c = c) ∧ (by_ zs R).getD b 0 = (b : Int) := by
  have hzr := isRow_undoes htr hz
  have hzl : zs.length = n := hz.1.trans htl
  have h1 : isRow (by_ zs R) := isRow_by hzr hr (by rw [hl, hzl])
  have h2 : (by_ zs R).length = n := by rw [by_length]; exact hl
  have h3 : pad (by_ zs R) = (pad t)⁻¹ * pad R := by rw [pad_by (by omega) hzr hr (by rw [hl, hzl]), pad_undoes (by omega) htr hz]
  refine ⟨h1, h2, h3, fun c hc => ?_, ?_⟩
  · rw [h3, Pm.act_mul, hRf c hc]
    have := Pm.inv_act (pad t) c
    rw [htf c hc] at this
    exact this
  · rw [pad_getD h1 h2 h12 hb, h3, Pm.act_mul, hRb, ← htb, Pm.inv_act]

def ThinPost (n : Nat) (xss : List (List Int)) (w : World) (e : Ending) (w' : World) : Prop :=
  Below w.heap.size w w' ∧ ∃ u yss, e = .returned u ∧ IntsAll w' u yss ∧ RowsN n yss ∧ yss.length ≤ 144 ∧ ∀ x, Gen (fun y => y ∈ yss.map pad) x ↔ Gen (fun y => y ∈ xss.map pad) x

set_option maxRecDepth 20000 in
set_option maxHeartbeats 4000000 in
theorem thinned_ok (n f : Nat) (v : Value) (xss : List (List Int)) (w : World) (h : IntsAll w v xss) (hr : RowsN n xss) (h1 : 1 ≤ n) (h12 : n ≤ 12) (hf : f ≤ n) (hx : xss.length ≤ 100000) (hfix : ∀ X, X ∈ xss → ∀ c, c < f → (pad X).act c = c) :
    Calls Tryz.prog 23 #[.int .i64 n, v, .int .i64 f] w fun e w' => ThinPost n xss w e w' := by
  obtain ⟨i0, hi, hz0, hz1, hz2⟩ := info_parts Tryz.info22
  have HA := hide h
  have HR := hide hr
  have HF := hide hfix
  obtain ⟨p0, cap0, rfl⟩ : ∃ p c, v = .slice p xss.length c := by
    obtain ⟨vs, hv, hl, _⟩ := h
    obtain ⟨p, c, e⟩ := hv.form
    exact ⟨p, c, by rw [e, hl]⟩
  obtain ⟨N, hN⟩ : ∃ N, N = n * n := ⟨_, rfl⟩
  have hnn : (n : Int) * (n : Int) = (N : Int) := by rw [hN]; exact (Int.natCast_mul n n).symm
  have hN144 : N ≤ 144 := by rw [hN]; exact Nat.mul_le_mul h12 h12
  have HN := hide hN
  clear h hr hfix hN
  have q1 := run_nil_eq
  have q2 := run_nil_ne
  have q3 := run_some_eq
  have q4 := run_some_ne
  go_enter Tryz.func23, Tryz.ntmps23
  go_wp2_with (at_make; refine wpList_make_full _ rfl _ _ 25 rfl w.heap.size 22 i0 (.slice none 0 0) 1 Tryz.underlying25 hi hz0 hz1 _ _ _ _ N rfl rfl (by omega) (by omega) ?b2 ?b3 (Nat.le_refl _) ?_)
  case b2 => rw [hz2]; omega
  case b3 => unfold maxLen; omega
  intro w0 hown0 hgrow0
  rw [made_nils] at hown0
  have hT0 : TRel w w0 N (List.replicate N (.slice none 0 0)) (List.replicate N none) := by
    refine ⟨hown0, List.length_replicate, fun k hk => ?_, fun k X hk => ?_, (Below.refl _ _).grown hgrow0 (Nat.le_refl _) (fun k h => by cases h)⟩
    · rw [List.getElem?_replicate] at hk ⊢
      split at hk
      · rename_i hlt; rw [if_pos hlt]
      · cases hk
    · rw [List.getElem?_replicate] at hk
      split at hk
      · injection hk with hk; cases hk
      · cases hk
  have HT0 := hide hT0
  clear hT0 hown0 hgrow0
  go_wp2
  go_loopw [8] (fun a8 wr => ∃ (i : Nat) (tv : List Value) (tx : List (Option (List Int))), i ≤ xss.length ∧ a8 = .int .i64 i ∧ Hid (TRel w wr N tv tx) ∧ Hid (TabOk n f tx) ∧ Hid (∀ x, Gen (Mix0 tx (xss.drop i)) x ↔ Gen (fun y => y ∈ xss.map pad) x)) (fun a8 _ => xss.length - (intOf a8).toNat)
  case atStart =>
    refine ⟨0, _, _, by omega, rfl, HT0, fun k X hX => ?_, fun x => ?_⟩
    · rw [List.getElem?_replicate] at hX
      split at hX
      · injection hX with hX; cases hX
      · cases hX
    · rw [List.drop_zero]
      refine gen_congr (fun y => ⟨?_, fun h => Or.inr h⟩) x
      rintro (⟨X, hX, _⟩ | h)
      · exact absurd (List.eq_of_mem_replicate hX) (by simp)
      · exact h
  case round =>
    clear HT0
    obtain ⟨i, tv, tx, hix, rfl, HT, HK, HG⟩ := hrel
    have hbw := HT.out.below
    have hws := hbw.size
    by_cases hlt : i < xss.length
    · obtain ⟨X, hX⟩ : ∃ X, xss[i]? = some X := ⟨_, List.getElem?_eq_getElem hlt⟩
      have hXm := List.mem_of_getElem? hX
      have hXr := HR.out X hXm
      have hXf := HF.out X hXm
      obtain ⟨us0, hus, hul, hue⟩ := HA.out
      obtain ⟨b0, off0, hpp, hb0, hcell0⟩ : ∃ b off, p0 = some ⟨b, off, none⟩ ∧ b < w.heap.size ∧ (∀ j, j < us0.length → w.cell? ⟨b, off + j, none⟩ = some (us0.getD j undef)) := by
        rcases hus with ⟨e, p', c', hv⟩ | ⟨b, off, c', hv, _, hc, _, hb, hcell⟩
        · injection hv with _ e2 _; omega
        · injection hv with e1 e2 e3
          exact ⟨b, off, e1, hb, hcell⟩
      subst hpp
      obtain ⟨px, cx, hcx, hix'⟩ := elAt hcell0 (k := i) (by omega) (hue i hlt)
      have eX : xss.getD i [] = X := by rw [List.getD, hX]; rfl
      rw [eX] at hcx hix'
      rw [hXr.2] at hcx hix'
      have hcx' : wr.cell? ⟨b0, off0 + i, none⟩ = some (.slice px n cx) := (hbw.cell (by exact hb0)).trans hcx
      have HXG : Hid (∀ x, Gen (Mix tx X (xss.drop (i + 1))) x ↔ Gen (fun y => y ∈ xss.map pad) x) := by
        intro x
        rw [← HG.out x, List.drop_eq_getElem_cons hlt, ← mix_take]
        rw [List.getElem?_eq_getElem hlt] at hX
        rw [Option.some.inj hX]
      have HXK : Hid (KeptI w wr (.slice px n cx) X) := Or.inl hix'.out
      have HXR := hide hXr
      have HXF := hide hXf
      clear hX hXm hXr hXf hus hul hue hcell0 hcx hix' eX HG hbw
      go_wp2
      go_loopw [9, 10] (fun a9 a10 wr => ∃ (b : Nat) (R : List Int), b ≤ n ∧ a10 = .int .i64 b ∧ Hid (f ≤ b) ∧ Hid (isRow R ∧ R.length = n) ∧ Hid (∀ c, c < b → (pad R).act c = c) ∧ Hid (KeptI w wr a9 R) ∧ Hid (TRel w wr N tv tx) ∧ Hid (∀ x, Gen (Mix tx R (xss.drop (i + 1))) x ↔ Gen (fun y => y ∈ xss.map pad) x)) (fun a9 a10 wr => 2 * (n - (intOf a10).toNat) + stuck wr a9 (intOf a10).toNat)
      case atStart => exact ⟨f, X, hf, rfl, Nat.le_refl _, HXR, HXF, HXK, HT, HXG⟩
      case round =>
        clear HXG HXK HXR HXF HT hcx' hws
        obtain ⟨b, R, hb, rfl, hfb, HRR, HRF, HRK, HT, HG⟩ := hrel
        have hbw := HT.out.below
        have hws := hbw.size
        by_cases hbn : b < n
        · have hRi := HRK.out.ints hbw
          obtain ⟨hRr, hRl⟩ := HRR.out
          have hq := hRr.at (j := b) (by omega)
          have hqd := pad_getD hRr hRl h12 hbn
          obtain ⟨pr, or_, cr, rfl, hcr, hncr⟩ : ∃ br or_ cr, u9 = .slice (some ⟨br, or_, none⟩) n cr ∧ wr.cell? ⟨br, or_ + b, none⟩ = some (.int .i64 (R.getD b 0)) ∧ n ≤ cr := by
            rcases hRi with ⟨rfl, p, c, _⟩ | ⟨br, o, cap, e, h0, hc, hm, hbb, hcell⟩
            · simp at hRl; omega
            · exact ⟨br, o, cap, by rw [e, hRl], hcell b (by omega), by omega⟩
          have HRI := hide hRi
          rw [hqd] at hcr
          have hqn : (pad R).act b < n := by rw [hqd, hRl] at hq; omega
          obtain ⟨q, hqe⟩ : ∃ q, (pad R).act b = q := ⟨_, rfl⟩
          rw [hqe] at hcr hqn
          have HQ := hide hqe
          have HQD : Hid (R.getD b 0 = (q : Int)) := by show _ = _; rw [hqd, hqe]
          clear hq hqd hqe hRi
          by_cases hqb : q = b
          · subst hqb
            have HM : Hid (stuck wr (.slice (some ⟨pr, or_, none⟩) n cr) (q + 1) ≤ 1) := stuck_le _ _ _
            have HRF2 : Hid (∀ c, c < q + 1 → (pad R).act c = c) := by
              intro c hc
              rcases Nat.lt_or_ge c q with h | h
              · exact HRF.out c h
              · have : c = q := by omega
                subst this; exact HQ.out
            have hfb2 : Hid (f ≤ q + 1) := by have := hfb.out; unfold Hid; omega
            go_wp2
            go_roundw
            case rel => exact ⟨q + 1, R, by omega, by go_num, hfb2, HRR, HRF2, HRK, HT, HG⟩
            case measure =>
              have := HM.out
              have e1 : ((q : Int) + 1).toNat = q + 1 := by omega
              simp only [intOf, e1, Int.toNat_natCast]
              omega
          · have hqb' : ((q : Int) == (b : Int)) = false := by rw [beq_eq_false_iff_ne]; omega
            have HQB : Hid (¬ R.getD b 0 = (b : Int)) := by show ¬ _; rw [HQD.out]; omega
            obtain ⟨bn, hbn'⟩ : ∃ bn, bn = b * n := ⟨_, rfl⟩
            have hbnI : (b : Int) * (n : Int) = (bn : Int) := by rw [hbn']; exact (Int.natCast_mul b n).symm
            have hkN : bn + q < N := by rw [hbn', HN.out]; exact tab_lt hbn hqn
            have HBN := hide hbn'
            have hkI : (bn : Int) + (q : Int) = ((bn + q : Nat) : Int) := by omega
            have hfz : wr.frozen? ⟨w.heap.size, bn + q, none⟩ = false := HT.out.frozen
            obtain ⟨o, ho⟩ : ∃ o, tx[bn + q]? = some o := ⟨_, List.getElem?_eq_getElem (by rw [HT.out.len]; exact hkN)⟩
            clear hbn' hqb
            cases o with
            | none =>
              have hct := HT.out.cell (HT.out.no _ ho)
              have HT2 := hide (HT.out.put HRK.out hkN)
              have HK2 : Hid (TabOk n f (tx.set (bn + q) (some R))) := by unfold Hid; rw [HBN.out]; exact HK.out.put HRR.out.1 HRR.out.2 hbn hqn hfb.out HRF.out HQ.out
              have HG2 : Hid (∀ x, Gen (Mix0 (tx.set (bn + q) (some R)) (xss.drop (i + 1))) x ↔ Gen (fun y => y ∈ xss.map pad) x) := fun x => by rw [← mix_put ho x]; exact HG.out x
              generalize bn + q = k at *
              clear ho HG HT HBN HRI
              go_wp2
              go_roundw
              case rel => exact ⟨i + 1, _, _, by omega, by go_num, HT2, HK2, HG2⟩
              case measure => simp [intOf]; omega
            | some t =>
              obtain ⟨ut, hut, hkt⟩ := HT.out.yes _ t ho
              have hct := HT.out.cell hut
              have ho' := ho
              rw [HBN.out] at ho'
              obtain ⟨htr, htl, htf, htb⟩ := HK.out.of hqn ho'
              have hti := hkt.ints hbw
              obtain ⟨pt, ot, ct, rfl⟩ : ∃ bt ot ct, ut = .slice (some ⟨bt, ot, none⟩) n ct := by
                rcases hti with ⟨rfl, p, c, _⟩ | ⟨bt, o, cap, e, _⟩
                · simp at htl; omega
                · exact ⟨bt, o, cap, by rw [e, htl]⟩
              have HUD := hide (undo_own _ t wr hti htr (by omega) (by omega))
              have HTR := hide htr
              have HTL := hide htl
              have HTF := hide htf
              have HTB := hide htb
              have HO := hide ho
              generalize bn + q = k at *
              clear ho ho' hut hkt hti htr htf htb HBN
              go_wp2_with fail
              refine HUD.out.mono ?_
              rintro ex w1 ⟨vz, zs, rfl, hoz, hzu, hb1⟩
              rw [HTL.out] at hoz
              obtain ⟨gz, cz, rfl, _, _, _, _⟩ := owns_form hoz h1
              obtain ⟨t1, t2, t3, t4, t5⟩ := thin_turn h12 hbn HRR.out.1 HRR.out.2 HTR.out HTL.out HTF.out HTB.out HRF.out HQ.out hzu
              have hzl : zs.length = n := hzu.1.trans HTL.out
              have HBY := hide (rby_own _ _ zs R w1 (Ints.own hoz) (HRI.out.below hb1) (fun j hj => by rw [hzl]; have := HRR.out.1.at (j := j) hj; rw [HRR.out.2] at this; exact this) (by omega) (by have := HRR.out.2; omega))
              have HT1 := hide (HT.out.later hb1)
              have hs1 := hb1.size
              have T1 := hide t1
              have T2 := hide t2
              have T4 := hide t4
              have T5 := hide t5
              have HG2 : Hid (∀ x, Gen (Mix tx (by_ zs R) (xss.drop (i + 1))) x ↔ Gen (fun y => y ∈ xss.map pad) x) := fun x => by rw [← mix_turn HO.out t3 x]; exact HG.out x
              have HM1 : Hid (stuck wr (.slice (some ⟨pr, or_, none⟩) n cr) b = 1) := stuck_is HRI.out HQB.out
              clear HUD hoz t1 t2 t3 t4 t5 hzu hb1 HG HT HO HTF HTB HTR HRI
              go_wp2_with fail
              refine HBY.out.mono ?_
              rintro ex w2 ⟨v2, rfl, ho2, hb2⟩
              have hRlen := HRR.out.2
              have ho2' : w2.ownsRow w.heap.size 3 1 v2 (by_ zs R).length ((by_ zs R).map (Value.int .i64)) := by
                rw [by_length]; exact owns_base ho2 (by omega)
              have HK3 : Hid (KeptI w w2 v2 (by_ zs R)) := Or.inr ho2'
              have HT3 := hide (HT1.out.later hb2)
              have HM2 : Hid (stuck w2 v2 b = 0) := stuck_not (Ints.own ho2') T5.out
              clear HBY ho2 ho2' hb2 HT1
              go_wp2
              go_roundw
              case rel => exact ⟨b, by_ zs R, by omega, rfl, hfb, ⟨T1.out, T2.out⟩, T4, HK3, HT3, HG2⟩
              case measure =>
                have := HM1.out
                have := HM2.out
                simp only [intOf, Int.toNat_natCast]
                omega
        · have hbe : b = n := by omega
          subst hbe
          have hone := pad_one_of HRR.out.1 HRR.out.2 h12 HRF.out
          have HG2 : Hid (∀ x, Gen (Mix0 tx (xss.drop (i + 1))) x ↔ Gen (fun y => y ∈ xss.map pad) x) := fun x => by rw [← mix_drop hone x]; exact HG.out x
          clear hone HG
          go_wp2
          go_roundw
          case rel => exact ⟨i + 1, _, _, by omega, by go_num, HT, HK, HG2⟩
          case measure => simp [intOf]; omega
    · have hie : i = xss.length := by omega
      have HG2 : Hid (∀ x, Gen (fun y => y ∈ (outs tx).map pad) x ↔ Gen (fun y => y ∈ xss.map pad) x) := fun x => by
        have := HG.out x
        rw [hie, List.drop_length] at this
        rw [← outs_gen]; exact this
      clear hie HG hbw
      go_wp2
      go_loopw [12, 13] (fun a12 a13 wr => ∃ (k : Nat) (uo : List Value), k ≤ N ∧ a13 = .int .i64 k ∧ Hid (wr.ownsRow w.heap.size 22 1 a12 uo.length uo) ∧ Hid (a12.ownBlock ≠ some w.heap.size) ∧ Hid (AllKept w wr uo (outs (tx.take k))) ∧ Hid (TRel w wr N tv tx)) (fun _ a13 _ => N - (intOf a13).toNat)
      case atStart => exact ⟨0, [], by omega, rfl, World.ownsRow_nil _ _ _ _, (fun e => by cases e), trivial, HT⟩
      case round =>
        clear HT hws
        obtain ⟨k, uo, hk, rfl, HOO, HNE, HAK, HT⟩ := hrel
        have hbw := HT.out.below
        have hws := hbw.size
        by_cases hkl : k < N
        · obtain ⟨o, ho⟩ : ∃ o, tx[k]? = some o := ⟨_, List.getElem?_eq_getElem (by rw [HT.out.len]; exact hkl)⟩
          have hsn := outs_snoc ho
          cases o with
          | none =>
            have hct := HT.out.cell (HT.out.no _ ho)
            have HAK2 : Hid (AllKept w wr uo (outs (tx.take (k + 1)))) := by unfold Hid; rw [hsn, Option.toList_none, List.append_nil]; exact HAK.out
            clear ho hsn
            go_wp2
            go_roundw
            case rel => exact ⟨k + 1, uo, by omega, by go_num, HOO, HNE, HAK2, HT⟩
            case measure => simp [intOf]; omega
          | some X =>
            obtain ⟨ut, hut, hkt⟩ := HT.out.yes _ X ho
            have hct := HT.out.cell hut
            have hti := hkt.ints hbw
            have hXl := (HK.out k X ho).len
            obtain ⟨pt, ot, ct, rfl⟩ : ∃ bt ot ct, ut = .slice (some ⟨bt, ot, none⟩) n ct := by
              rcases hti with ⟨rfl, p, c, _⟩ | ⟨bt, o, cap, e, _⟩
              · simp at hXl; omega
              · exact ⟨bt, o, cap, by rw [e, hXl]⟩
            have huo : uo.length ≤ 144 := by
              have e1 := HAK.out.length
              have e2 := outs_len (tx.take k)
              have e3 : (tx.take k).length ≤ k := List.length_take_le _ _
              omega
            have HKT := hide hkt
            have HSN := hide hsn
            clear ho hsn hut hti hkt hXl
            go_wp2_with (at_builtin; refine wpList_append_keep _ rfl _ _ 25 rfl w.heap.size 22 i0 (.slice none 0 0) 1 24 Tryz.underlying25 hi hz0 hz1 hz2 rfl (by decide) _ uo.length uo rfl (HOO.out.alloc _) ⟨wr.heap.size, 0, none⟩ 1 1 [.slice (some ⟨pt, ot, none⟩) n ct] rfl rfl ?c1 ?c2 ?c3 ?c4 ?c5 ?_)
            case c1 => exact cell_one_new _ _ _
            case c2 => intro u hu; simp at hu; subst hu; rfl
            case c3 => unfold maxLen; omega
            case c4 => omega
            case c5 => simp; omega
            intro v4 w4 hown4 hg4 hp4
            have hal : Below wr.heap.size wr (wr.alloc (.cells #[.slice (some ⟨pt, ot, none⟩) n ct] 22)) := (Below.refl _ _).alloc (Nat.le_refl _) _
            have HO4 : Hid (w4.ownsRow w.heap.size 22 1 v4 (uo ++ [Value.slice (some ⟨pt, ot, none⟩) n ct]).length (uo ++ [Value.slice (some ⟨pt, ot, none⟩) n ct])) := by unfold Hid; rw [List.length_append]; exact hown4
            have HNE4 : Hid (v4.ownBlock ≠ some w.heap.size) := by
              intro e
              rcases hp4 with hp | ⟨hp, _⟩
              · exact HNE.out (hp.symm.trans e)
              · rw [e] at hp
                injection hp with hp
                have : (wr.alloc (.cells #[.slice (some ⟨pt, ot, none⟩) n ct] 22)).heap.size = wr.heap.size + 1 := by simp
                omega
            have HAK4 : Hid (AllKept w w4 (uo ++ [Value.slice (some ⟨pt, ot, none⟩) n ct]) (outs (tx.take (k + 1)))) := by
              unfold Hid
              rw [HSN.out]
              exact AllKept.snoc ((HKT.out.later hal).grown (HOO.out.alloc _) hg4) (HAK.out.mono (fun u x h => (h.later hal).grown (HOO.out.alloc _) hg4))
            have HT4 := hide ((HT.out.later hal).grown (HOO.out.alloc _) HNE.out hg4)
            clear hown4 hg4 hp4 hal HKT HSN HOO HNE HAK HT
            go_wp2
            go_roundw
            case rel => exact ⟨k + 1, _, by omega, by go_num, HO4, HNE4, HAK4, HT4⟩
            case measure => simp [intOf]; omega
        · have hke : k = N := by omega
          have hal := HAK.out
          rw [hke, List.take_of_length_le (by rw [HT.out.len]; exact Nat.le_refl _)] at hal
          have hfin : ThinPost n xss w (.returned u12) wr := by
            refine ⟨hbw, u12, outs tx, rfl, hal.all HOO.out hbw, outs_rows HK.out, ?_, HG2.out⟩
            have := outs_len tx
            rw [HT.out.len] at this
            omega
          have HFIN := hide hfin
          clear hal hfin hke
          go_wp2
          go_ret
          exact HFIN.out

end Go.Proofs.YtahffpgadoiijaaGreat

/- Sizes: what is found in one round, and where it lies. -/
namespace Go.Proofs.YtahffpgadoiijaaGreat
open Go.RowKit

/-- Where each bell stands among the spots, counted from 1; 0: nowhere. -/
def WhereOk (n : Nat) (T : List (Nat × Pm)) (wh : List Int) : Prop :=
  wh.length = n ∧ ∀ q, q < n → (wh.getD q 0 = 0 ∧ ¬ q ∈ T.map (·.1)) ∨ ∃ i e, T[i]? = some e ∧ e.1 = q ∧ wh.getD q 0 = ((i + 1 : Nat) : Int)

theorem WhereOk.start {n k : Nat} (hk : k < n) : WhereOk n [(k, 1)] ((List.replicate n (0 : Int)).set k 1) := by
  refine ⟨by simp, fun q hq => ?_⟩
  rw [getD_set (by simp; exact hk)]
  by_cases e : k = q
  · right
    exact ⟨0, (k, 1), rfl, e, by rw [if_pos e]; rfl⟩
  · left
    rw [if_neg e]
    exact ⟨by simp [List.getD, hq], by simp; omega⟩

theorem WhereOk.more {n q : Nat} {T : List (Nat × Pm)} {wh : List Int} (h : WhereOk n T wh) (hq : q < n) (x : Pm) : WhereOk n (T ++ [(q, x)]) (wh.set q ((T.length : Int) + 1)) := by
  refine ⟨by rw [List.length_set]; exact h.1, fun p hp => ?_⟩
  rw [getD_set (by rw [h.1]; exact hq)]
  by_cases e : q = p
  · right
    exact ⟨T.length, (q, x), by simp, e, by rw [if_pos e]; omega⟩
  · rw [if_neg e]
    rcases h.2 p hp with ⟨h1, h2⟩ | ⟨i, e', h1, h2, h3⟩
    · left
      refine ⟨h1, fun hm => ?_⟩
      rw [List.map_append] at hm
      rcases List.mem_append.1 hm with hm | hm
      · exact h2 hm
      · have epq : p = q := by simpa using hm
        exact e epq.symm
    · right
      exact ⟨i, e', by rw [List.getElem?_append_left (List.getElem?_eq_some_iff.1 h1).1]; exact h1, h2, h3⟩

/-- Rows that leave the place, of the spots ahead of i, and of spot i by the generators ahead of j. -/
structure StillTo (n : Nat) (gss : List (List Int)) (T : List (Nat × Pm)) (i j : Nat) (yss : List (List Int)) : Prop where
  rows : ∀ Y, Y ∈ yss → isRow Y ∧ Y.length = n ∧ Sch (fun y => y ∈ gss.map pad) T (pad Y)
  all : ∀ k l e X e', (k < i ∨ (k = i ∧ l < j)) → T[k]? = some e → gss[l]? = some X → e' ∈ T → e'.1 = (pad X).act e.1 → e'.2⁻¹ * (pad X * e.2) ∈ yss.map pad
  len : yss.length = i * gss.length + j

theorem StillTo.start (n : Nat) (gss : List (List Int)) (T : List (Nat × Pm)) : StillTo n gss T 0 0 [] :=
  ⟨fun Y h => (by cases h), fun k l e X e' h => (by omega), (by simp)⟩

theorem StillTo.step {n : Nat} {gss : List (List Int)} {T : List (Nat × Pm)} {i j : Nat} {yss : List (List Int)} (h : StillTo n gss T i j yss) (hT : (T.map (·.1)).Nodup) {e e' : Nat × Pm} {X Y : List Int} (he : T[i]? = some e) (hX : gss[j]? = some X) (he' : e' ∈ T) (h1 : e'.1 = (pad X).act e.1) (hY : isRow Y) (hl : Y.length = n) (hp : pad Y = e'.2⁻¹ * (pad X * e.2)) : StillTo n gss T i (j + 1) (yss ++ [Y]) := by
  refine ⟨fun Z hZ => ?_, fun k l f Z f' hk hf hZ hf' h2 => ?_, by rw [List.length_append, h.len]; simp; omega⟩
  · rcases List.mem_append.1 hZ with hZ | hZ
    · exact h.rows Z hZ
    · rw [List.mem_singleton.1 hZ]
      exact ⟨hY, hl, pad X, List.mem_map.2 ⟨X, List.mem_of_getElem? hX, rfl⟩, e, List.mem_of_getElem? he, e', he', h1, hp⟩
  · rw [List.map_append]
    by_cases hc : k < i ∨ (k = i ∧ l < j)
    · exact List.mem_append_left _ (h.all k l f Z f' hc hf hZ hf' h2)
    · have hk' : k = i := by omega
      have hl' : l = j := by omega
      subst hk'; subst hl'
      rw [he] at hf
      rw [hX] at hZ
      obtain rfl := Option.some.inj hf
      obtain rfl := Option.some.inj hZ
      have : f'.2 = e'.2 := tab_eq hT (b := e'.1) (by rw [h1, ← h2]; exact hf') he'
      rw [this, ← hp]
      exact List.mem_append_right _ (by simp)

theorem StillTo.next {n : Nat} {gss : List (List Int)} {T : List (Nat × Pm)} {i : Nat} {yss : List (List Int)} (h : StillTo n gss T i gss.length yss) : StillTo n gss T (i + 1) 0 yss := by
  refine ⟨h.rows, fun k l e X e' hk he hX he' h1 => ?_, by rw [h.len, Nat.succ_mul]; omega⟩
  have hl := (List.getElem?_eq_some_iff.1 hX).1
  exact h.all k l e X e' (by omega) he hX he' h1

theorem StillTo.gen {n : Nat} {gss : List (List Int)} {T : List (Nat × Pm)} {yss : List (List Int)} (h : StillTo n gss T T.length 0 yss) (x : Pm) : Gen (fun y => y ∈ yss.map pad) x ↔ Gen (Sch (fun y => y ∈ gss.map pad) T) x := by
  constructor
  · refine Gen.mono (fun y hy => ?_)
    obtain ⟨Y, hY, rfl⟩ := List.mem_map.1 hy
    exact (h.rows Y hY).2.2
  · refine Gen.mono (fun y hy => ?_)
    obtain ⟨s, hs, e, he, e', he', h1, rfl⟩ := hy
    obtain ⟨X, hX, rfl⟩ := List.mem_map.1 hs
    obtain ⟨k, hk, ek⟩ := List.getElem_of_mem he
    obtain ⟨l, hl, el⟩ := List.getElem_of_mem hX
    exact h.all k l e X e' (Or.inl hk) (by rw [List.getElem?_eq_getElem hk, ek]) (by rw [List.getElem?_eq_getElem hl, el]) he' h1

/-- The spots ahead of i are gone through, and spot i by the generators ahead of j. -/
def OrbTo (gss : List (List Int)) (T : List (Nat × Pm)) (i j : Nat) : Prop :=
  ∀ k l e X, (k < i ∨ (k = i ∧ l < j)) → T[k]? = some e → gss[l]? = some X → (pad X).act e.1 ∈ T.map (·.1)

theorem OrbTo.start (gss : List (List Int)) (T : List (Nat × Pm)) : OrbTo gss T 0 0 := fun k l e X h => by omega

theorem OrbTo.old {gss : List (List Int)} {T : List (Nat × Pm)} {i j : Nat} (h : OrbTo gss T i j) {e : Nat × Pm} {X : List Int} (he : T[i]? = some e) (hX : gss[j]? = some X) (hm : (pad X).act e.1 ∈ T.map (·.1)) : OrbTo gss T i (j + 1) := by
  intro k l f Z hk hf hZ
  by_cases hc : k < i ∨ (k = i ∧ l < j)
  · exact h k l f Z hc hf hZ
  · have hk' : k = i := by omega
    have hl' : l = j := by omega
    subst hk'; subst hl'
    rw [he] at hf
    rw [hX] at hZ
    obtain rfl := Option.some.inj hf
    obtain rfl := Option.some.inj hZ
    exact hm

theorem OrbTo.grow {gss : List (List Int)} {T : List (Nat × Pm)} {i j : Nat} (h : OrbTo gss T i j) (hi : i < T.length) (a : Nat × Pm) : OrbTo gss (T ++ [a]) i j := by
  intro k l f Z hk hf hZ
  rw [List.getElem?_append_left (by omega)] at hf
  rw [List.map_append]
  exact List.mem_append_left _ (h k l f Z hk hf hZ)

theorem OrbTo.next {gss : List (List Int)} {T : List (Nat × Pm)} {i : Nat} (h : OrbTo gss T i gss.length) : OrbTo gss T (i + 1) 0 := by
  intro k l f Z hk hf hZ
  have hl := (List.getElem?_eq_some_iff.1 hZ).1
  exact h k l f Z (by omega) hf hZ

theorem OrbTo.done {gss : List (List Int)} {T : List (Nat × Pm)} (h : OrbTo gss T T.length 0) : OrbsDone (fun y => y ∈ gss.map pad) T := by
  intro s hs e he
  obtain ⟨X, hX, rfl⟩ := List.mem_map.1 hs
  obtain ⟨k, hk, ek⟩ := List.getElem_of_mem he
  obtain ⟨l, hl, el⟩ := List.getElem_of_mem hX
  exact h k l e X (Or.inl hk) (by rw [List.getElem?_eq_getElem hk, ek]) (by rw [List.getElem?_eq_getElem hl, el])

theorem OwnAll.mono_mem {w w' : World} {base : Nat} : ∀ {us : List Value} {xs : List (List Int)}, (∀ u n xs, u ∈ us → w.ownsRow base 3 1 u n xs → w'.ownsRow base 3 1 u n xs) → OwnAll w base us xs → OwnAll w' base us xs
  | [], [], _, _ => trivial
  | _ :: _, _ :: _, h, ⟨h1, h2⟩ => ⟨h _ _ _ (by simp) h1, OwnAll.mono_mem (fun u n xs hu h' => h u n xs (by simp [hu]) h') h2⟩

theorem OwnAll.lt {w : World} {base : Nat} : ∀ {us : List Value} {xs : List (List Int)}, OwnAll w base us xs → ∀ u, u ∈ us → ∀ b, u.ownBlock = some b → b < w.heap.size
  | [], [], _, u, hu, _, _ => by cases hu
  | _ :: _, _ :: _, ⟨h1, h2⟩, u, hu, b, hb => by
    rcases List.mem_cons.1 hu with rfl | hu
    · exact (h1.lt b hb).2
    · exact OwnAll.lt h2 u hu b hb

def nums (P : List Nat) : List Value := (P.map (fun (k : Nat) => (k : Int))).map (Value.int .i64)

/-- Spots, rows, and where each bell stands, as they lie. -/
structure SRel (wa wr : World) (n gw : Nat) (vsp vr : Value) (wh : List Int) (vs : List Value) (P : List Nat) (Q : List Pm) : Prop where
  spots : wr.ownsRow wa.heap.size 3 1 vsp P.length (nums P)
  wher : wr.ownsRow wa.heap.size 3 1 (.slice (some ⟨gw, 0, none⟩) n n) n (wh.map (Value.int .i64))
  rows : wr.ownsRow wa.heap.size 22 1 vr Q.length vs
  rowsAt : OwnAll wr wa.heap.size vs (Q.map (cut n))
  ap1 : vsp.ownBlock ≠ some gw
  ap2 : ∀ u, u ∈ vs → u.ownBlock ≠ some gw ∧ u.ownBlock ≠ vsp.ownBlock
  below : Below wa.heap.size wa wr

theorem SRel.later {wa wr w' : World} {n gw : Nat} {vsp vr : Value} {wh : List Int} {vs : List Value} {P : List Nat} {Q : List Pm} (h : SRel wa wr n gw vsp vr wh vs P Q) (hb : Below wr.heap.size wr w') : SRel wa w' n gw vsp vr wh vs P Q :=
  ⟨owns_below h.spots hb (Nat.le_refl _), owns_below h.wher hb (Nat.le_refl _), owns_below h.rows hb (Nat.le_refl _), h.rowsAt.mono (fun _ _ _ h' => owns_below h' hb (Nat.le_refl _)), h.ap1, h.ap2, h.below.trans (hb.mono h.below.size)⟩

theorem SRel.alloc {wa wr : World} {n gw : Nat} {vsp vr : Value} {wh : List Int} {vs : List Value} {P : List Nat} {Q : List Pm} (h : SRel wa wr n gw vsp vr wh vs P Q) (o : Obj) : SRel wa (wr.alloc o) n gw vsp vr wh vs P Q :=
  h.later ((Below.refl _ _).alloc (Nat.le_refl _) o)

theorem SRel.mark {wa wr : World} {n gw : Nat} {vsp vr : Value} {wh : List Int} {vs : List Value} {P : List Nat} {Q : List Pm} (h : SRel wa wr n gw vsp vr wh vs P Q) (q : Nat) (y : Int) : SRel wa (wr.setCell ⟨gw, q, none⟩ (.int .i64 y)) n gw vsp vr (wh.set q y) vs P Q :=
  ⟨owns_of_block h.spots (fun b hb => heap_setCell_ne wr gw q _ (fun e => h.ap1 (by rw [hb, e]))), owns_set_int h.wher y, owns_of_block h.rows (fun b hb => heap_setCell_ne wr gw q _ (fun e => owns_ty_ne h.wher h.rows hb gw rfl e.symm)),
    h.rowsAt.mono_mem (fun u _ _ hu h' => owns_of_block h' (fun b hb => heap_setCell_ne wr gw q _ (fun e => (h.ap2 u hu).1 (by rw [hb, e])))), h.ap1, h.ap2, h.below.setCell (h.wher.lt gw rfl).1 _⟩

theorem SRel.spot {wa wr w' : World} {n gw q : Nat} {vsp vr v' : Value} {wh : List Int} {vs : List Value} {P : List Nat} {Q : List Pm} (h : SRel wa wr n gw vsp vr wh vs P Q) (hown : w'.ownsRow wa.heap.size 3 1 v' (P.length + 1) (nums P ++ [.int .i64 (q : Int)])) (hg : wr.grownBy w' vsp.ownBlock)
    (hp : v'.ownBlock = vsp.ownBlock ∨ (v'.ownBlock = some wr.heap.size ∧ wr.grownBy w' none)) : SRel wa w' n gw v' vr wh vs (P ++ [q]) Q := by
  refine ⟨?_, owns_row_kept h.wher (Or.inl (fun e => h.ap1 e.symm)) hg, ?_, ?_, ?_, ?_, h.below.grown hg h.below.size (fun g' hg' => (h.spots.lt g' hg').1)⟩
  · rw [List.length_append]
    unfold nums at hown ⊢
    rw [List.map_append, List.map_append]
    exact hown
  · exact owns_row_kept h.rows (by
      by_cases e : vr.ownBlock = none
      · exact Or.inr e
      · refine Or.inl (fun e' => ?_)
        cases hb : vr.ownBlock with
        | none => exact e hb
        | some b => exact owns_ty_ne h.spots h.rows hb b (by rw [← e', hb]) rfl) hg
  · exact h.rowsAt.mono_mem (fun u _ _ hu h' => owns_row_kept h' (Or.inl (h.ap2 u hu).2) hg)
  · intro e
    rcases hp with hp | ⟨hp, _⟩
    · exact h.ap1 (hp.symm.trans e)
    · rw [e] at hp
      injection hp with hp
      have := (h.wher.lt gw rfl).2
      omega
  · intro u hu
    refine ⟨(h.ap2 u hu).1, fun e => ?_⟩
    rcases hp with hp | ⟨hp, _⟩
    · exact (h.ap2 u hu).2 (e.trans hp)
    · have := OwnAll.lt h.rowsAt u hu wr.heap.size (e.trans hp)
      omega

theorem SRel.row {wa wr w' : World} {n gw : Nat} {vsp vr v' u : Value} {wh : List Int} {vs : List Value} {P : List Nat} {Q : List Pm} {x : Pm} (h : SRel wa wr n gw vsp vr wh vs P Q) (hown : w'.ownsRow wa.heap.size 22 1 v' (Q.length + 1) (vs ++ [u])) (hg : wr.grownBy w' vr.ownBlock)
    (hu : wr.ownsRow wa.heap.size 3 1 u (cut n x).length ((cut n x).map (Value.int .i64))) (hu1 : u.ownBlock ≠ some gw) (hu2 : u.ownBlock ≠ vsp.ownBlock) : SRel wa w' n gw vsp v' wh (vs ++ [u]) P (Q ++ [x]) := by
  refine ⟨owns_kept_ty h.spots h.rows hg, owns_kept_ty h.wher h.rows hg, by rw [List.length_append]; exact hown, ?_, h.ap1, ?_, h.below.grown hg h.below.size (fun g' hg' => (h.rows.lt g' hg').1)⟩
  · rw [List.map_append]
    exact OwnAll.snoc (owns_kept_ty hu h.rows hg) (h.rowsAt.mono (fun _ _ _ h' => owns_kept_ty h' h.rows hg))
  · intro y hy
    rcases List.mem_append.1 hy with hy | hy
    · exact h.ap2 y hy
    · rw [List.mem_singleton.1 hy]; exact ⟨hu1, hu2⟩

theorem SRel.other {wa wr w' : World} {n gw m : Nat} {vsp vr v : Value} {wh : List Int} {vs ys : List Value} {P : List Nat} {Q : List Pm} (h : SRel wa wr n gw vsp vr wh vs P Q) (h2 : wr.ownsRow wa.heap.size 22 1 v m ys) (hne : v.ownBlock ≠ vr.ownBlock) (hg : wr.grownBy w' v.ownBlock) : SRel wa w' n gw vsp vr wh vs P Q :=
  ⟨owns_kept_ty h.spots h2 hg, owns_kept_ty h.wher h2 hg, owns_row_kept h.rows (Or.inl (fun e => hne e.symm)) hg, h.rowsAt.mono (fun _ _ _ h' => owns_kept_ty h' h2 hg), h.ap1, h.ap2, h.below.grown hg h.below.size (fun g' hg' => (h2.lt g' hg').1)⟩

theorem below_dW (w : World) (k : Nat) : Below w.heap.size w (w.drewN k) := ⟨rfl, rfl, rfl, Nat.le_refl _, fun _ _ => rfl⟩
theorem below_drew (w : World) : Below w.heap.size w w.drew := ⟨rfl, rfl, rfl, Nat.le_refl _, fun _ _ => rfl⟩

theorem SRel.start {wr w1 w2 : World} {n k g0 c0 : Nat} (h12 : n ≤ 12) (ho : w1.ownsRow (wr.heap.size + 1) 3 1 (.slice (some ⟨g0, 0, none⟩) n c0) n ((rnd n).map (Value.int .i64))) (hb1 : Below (wr.heap.size + 1) (wr.alloc (.cells #[.int .i64 (k : Int)] 3)) w1)
    (hown2 : w2.ownsRow wr.heap.size 3 1 (.slice (some ⟨w1.heap.size + 1, 0, none⟩) n n) n ((List.replicate n (0 : Int)).map (Value.int .i64))) (hg2 : (w1.alloc (.cells #[.slice (some ⟨g0, 0, none⟩) n c0] 22)).grownBy w2 none) :
    SRel wr w2 n (w1.heap.size + 1) (.slice (some ⟨wr.heap.size, 0, none⟩) 1 1) (.slice (some ⟨w1.heap.size, 0, none⟩) 1 1) (List.replicate n 0) [.slice (some ⟨g0, 0, none⟩) n c0] [k] [1] := by
  have hs1 : wr.heap.size + 1 ≤ w1.heap.size := by have := hb1.size; simp at this; omega
  have hb1' : Below wr.heap.size wr w1 := ((Below.refl _ _).alloc (Nat.le_refl _) _).trans (hb1.mono (by omega))
  have hba : Below w1.heap.size w1 (w1.alloc (.cells #[.slice (some ⟨g0, 0, none⟩) n c0] 22)) := (Below.refl _ _).alloc (Nat.le_refl _) _
  have hb2 : Below w1.heap.size w1 w2 := hba.grown hg2 (by simp) (fun k h => by cases h)
  have hg2' : Below (w1.heap.size + 1) (w1.alloc (.cells #[.slice (some ⟨g0, 0, none⟩) n c0] 22)) w2 := (Below.refl _ _).grown hg2 (by simp) (fun k h => by cases h)
  have hcut : cut n 1 = rnd n := by rw [← pad_rnd h12, cut_pad h12 (rnd_length n) (isRow_rnd n)]
  have hg0 := (ho.lt g0 rfl)
  refine ⟨?_, hown2, ?_, ⟨?_, trivial⟩, ?_, ?_, hb1'.trans (hb2.mono (by omega))⟩
  · have h := World.ownsRow_lit (base := wr.heap.size) (e := 3) (size := 1) wr #[.int .i64 (k : Int)] 1 (Nat.le_refl _) (by decide) (by simp)
    have h' := owns_below h hb1 (by simp)
    exact owns_below h' hb2 (Nat.le_refl _)
  · have h := World.ownsRow_lit (base := wr.heap.size) (e := 22) (size := 1) w1 #[.slice (some ⟨g0, 0, none⟩) n c0] 1 (by omega) (by decide) (by simp)
    exact owns_below h hg2' (by simp)
  · rw [hcut, rnd_length]
    exact owns_below (owns_base ho (by omega)) hb2 (Nat.le_refl _)
  · intro e
    have e' : wr.heap.size = w1.heap.size + 1 := Option.some.inj e
    omega
  · intro u hu
    rw [List.mem_singleton.1 hu]
    refine ⟨fun e => ?_, fun e => ?_⟩
    · have e' : g0 = w1.heap.size + 1 := Option.some.inj e
      omega
    · have e' : g0 = wr.heap.size := Option.some.inj e
      omega

theorem nums_at {w : World} {B g cap i : Nat} {P : List Nat} {N : Nat} (h : w.ownsRow B 3 1 (.slice (some ⟨g, 0, none⟩) N cap) N (nums P)) {b : Nat} (hb : P[i]? = some b) : w.cell? ⟨g, i, none⟩ = some (.int .i64 (b : Int)) := by
  have hi : i < P.length := (List.getElem?_eq_some_iff.1 hb).1
  have hl : P.length = N := by have := h.1; unfold nums at this; simpa using this
  have := owns_val h (j := i) (by omega)
  rw [this]
  unfold nums
  rw [List.getD, List.getElem?_map, List.getElem?_map, hb]
  rfl

theorem Ints.nth {w : World} {v : Value} {X : List Int} {n : Nat} (h : Ints w v X) (hl : X.length = n) (h1 : 1 ≤ n) : ∃ b o c, v = .slice (some ⟨b, o, none⟩) n c ∧ b < w.heap.size ∧ n ≤ c ∧ ∀ j, j < n → w.cell? ⟨b, o + j, none⟩ = some (.int .i64 (X.getD j 0)) := by
  rcases h with ⟨rfl, p, c, _⟩ | ⟨b, o, cap, e, h0, hc, hm, hb, hcell⟩
  · simp at hl; omega
  · exact ⟨b, o, cap, by rw [e, hl], hb, by omega, fun j hj => hcell j (by omega)⟩

theorem IntsAll.nth {w : World} {p : Option Addr} {N c : Nat} {gss : List (List Int)} (h : IntsAll w (.slice p N c) gss) {j n : Nat} {X : List Int} (hX : gss[j]? = some X) (hl : X.length = n) (h1 : 1 ≤ n) :
    ∃ b0 o0, p = some ⟨b0, o0, none⟩ ∧ b0 < w.heap.size ∧ N ≤ c ∧ N = gss.length ∧ ∃ b o cx, w.cell? ⟨b0, o0 + j, none⟩ = some (.slice (some ⟨b, o, none⟩) n cx) ∧ Hid (Ints w (.slice (some ⟨b, o, none⟩) n cx) X) ∧ b < w.heap.size ∧ n ≤ cx ∧ Hid (∀ i, i < n → w.cell? ⟨b, o + i, none⟩ = some (.int .i64 (X.getD i 0))) := by
  obtain ⟨us, hus, hul, hue⟩ := h
  have hj : j < gss.length := (List.getElem?_eq_some_iff.1 hX).1
  rcases hus with ⟨rfl, _⟩ | ⟨b0, o0, c', hv, _, hc, _, hb, hcell⟩
  · simp at hul; omega
  · injection hv with e1 e2 e3
    have hi := hue j hj
    have eX : gss.getD j [] = X := by rw [List.getD, hX]; rfl
    rw [eX] at hi
    obtain ⟨b, o, cx, e, h4, h5, h6⟩ := hi.nth hl h1
    rw [e] at hi
    exact ⟨b0, o0, e1, hb, by omega, by omega, b, o, cx, by rw [hcell j (by omega), e], hi, h4, h5, h6⟩

end Go.Proofs.YtahffpgadoiijaaGreat
