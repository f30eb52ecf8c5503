/- Contract: Normal, of two groups of as many bells. -/
import Derived.Test.YtbddhpbeekioiaaNormal
import Derived.Deep.QuietTactic
import Derived.BigQuiet
namespace Go.Proofs.Ytbddhpbeekioiaa
open Go.RowKit

/-- What Normal answers. -/
def NormalPost (gs hs : List Pm) (w : World) (e : Ending) (w' : World) : Prop := ∃ (r : Bool) (c : Int), e = .returned (.tuple #[.bool r, .int .i64 c]) ∧
  ((c = 14 ∧ r = false ∧ ∃ y, y ∈ hs ∧ ¬ Gen (fun z => z ∈ gs) y) ∨ (c = 0 ∧ (∀ y, y ∈ hs → Gen (fun z => z ∈ gs) y) ∧ (r = true ↔ ∀ x, x ∈ gs → ∀ y, y ∈ hs → Gen (fun z => z ∈ hs) (x * y * x⁻¹)))) ∧ Below w.heap.size w w'

theorem Chained.has {w : World} {B g n : Nat} {bs : List Nat} {C : List Lk} {st : Nat → St} {gs : List Pm} (h : Chained w B g n bs C st gs) {p : Pm} (hf : Fixes (fun b => n ≤ b) p) : hasC C p = true ↔ Gen (fun z => z ∈ gs) p := (has_iff h.whole hf).trans (h.gen p)

theorem Chained.fixes {w : World} {B g n : Nat} {bs : List Nat} {C : List Lk} {st : Nat → St} {gs : List Pm} (h : Chained w B g n bs C st gs) {p : Pm} (hp : Gen (fun z => z ∈ gs) p) : Fixes (fun b => n ≤ b) p := prd_fix h.whole ((h.gen p).2 hp)

theorem Chained.ask {w : World} {B g n : Nat} {bs : List Nat} {C : List Lk} {st : Nat → St} {gs : List Pm} (h : Chained w B g n bs C st gs) (h12 : n ≤ 12) (hbs : ∀ b, b ∈ bs → b < 12) {w' : World} (hb : Below w.heap.size w w') {p : Pm} (hf : Fixes (fun b => n ≤ b) p) :
    ∃ t : Bool, (t = true ↔ Gen (fun z => z ∈ gs) p) ∧ Calls Try.prog 71 #[.slice (some ⟨g, 0, none⟩) n n, .int .i64 0, .agg (p.l.map (Value.int .i8)).toArray] w' fun e w'' => e = .returned (.bool t) ∧ Below w'.heap.size w' w'' := by
  have hk := has_ok C 0 p w' (h.chain.below hb (Nat.le_refl _)) (Nat.zero_le _) (by rw [h.len]; exact h12) (fun l hl => hbs _ (by rw [← h.bases]; exact List.mem_map.2 ⟨l, hl, rfl⟩))
  rw [h.len, List.drop_zero] at hk
  exact ⟨_, h.has hf, hk⟩

theorem Packs.at {w : World} {p : Option Addr} {m cap : Nat} {gs : List Pm} (h : Packs w (.slice p m cap) gs) {k : Nat} (hk : k < gs.length) : ∃ b off q, p = some ⟨b, off, none⟩ ∧ gs[k]? = some q ∧ w.rangeAt b (off + k * 12) (q.l.map (Value.int .i8)) ∧ gs.length ≤ cap := by
  rcases h with ⟨e, _⟩ | ⟨b, off, cap', hv, _, hc, _, _, hr⟩
  · rw [e] at hk; simp at hk
  · injection hv with e1 _ e3
    exact ⟨b, off, gs[k], e1, List.getElem?_eq_getElem hk, hr k _ (List.getElem?_eq_getElem hk), by omega⟩

set_option maxRecDepth 20000 in
set_option maxHeartbeats 4000000 in
theorem normal_ok (n : Nat) (v1 v2 : Value) (gs hs : List Pm) (w : World) (h12 : n ≤ 12) (hG : GroupAt w v1 n gs) (hH : GroupAt w v2 n hs) (hgl : gs.length ≤ 1000000) (hhl : hs.length ≤ 1000000) :
    Calls Try.prog 46 #[v1, v2] w fun e w' => NormalPost gs hs w e w' := by
  obtain ⟨g1, vg1, B1, c1, bs1, C1, st1, rfl, hg1, a10, a11, a12, hP1, hC1, hb1, _⟩ := hG
  obtain ⟨g2, vg2, B2, c2, bs2, C2, st2, rfl, hg2, a20, a21, a22, hP2, hC2, hb2, _⟩ := hH
  obtain ⟨p1, k1, rfl⟩ := hP1.form
  obtain ⟨p2, k2, rfl⟩ := hP2.form
  have HP1 := hide hP1
  have HP2 := hide hP2
  have HC1 := hide hC1
  have HC2 := hide hC2
  have HB1 := hide hb1
  have HB2 := hide hb2
  have hnn : ((n : Int) != (n : Int)) = false := by simp
  clear hP1 hP2 hC1 hC2 hb1 hb2
  go_enter Try.func46, Try.ntmps46
  go_wp2
  go_quiet (fail)
  go_wp2
  have hB0 : Below w.heap.size w (w.drewN nq) := ⟨rfl, rfl, rfl, Nat.le_refl _, fun _ _ => rfl⟩
  go_loopw [31] (fun i wr => ∃ k : Nat, k ≤ hs.length ∧ i = .int .i64 k ∧ Hid (∀ i y, i < k → hs[i]? = some y → Gen (fun z => z ∈ gs) y) ∧ Below w.heap.size w wr) (fun i _ => hs.length - (intOf i).toNat)
  case atStart => exact ⟨0, by omega, rfl, fun i y hi => by omega, hB0⟩
  case round =>
    clear hB0
    obtain ⟨k, hk, rfl, hin, hbw⟩ := hrel
    have hbs := hbw.size
    by_cases hlt : k < hs.length
    · obtain ⟨b, off, y, hpp, hy, hrange, hcap⟩ := (HP2.out.below hbw (Nat.le_refl _)).at hlt
      have hym := List.mem_of_getElem? hy
      have hyf := HC2.out.fixes (Gen.of (S := fun z => z ∈ hs) hym)
      have hiny := pin y
      have hyl := y.len
      have HY := hide hy
      have HYM := hide hym
      have HYF := hide hyf
      have e12 : wr.cell? ⟨g1, 2, none⟩ = some (.slice (some ⟨c1, 0, none⟩) n n) := (hbw.cell (p := ⟨g1, 2, none⟩) hg1).trans a12
      subst hpp
      clear hy hym hyf
      go_wp2_with (first
        | refine wpList_load_mid rfl 92 _ rfl b _ rfl _ _ hrange Try.underlying92 rfl hiny ?_
        | (refine wpList_store_arr rfl _ _ rfl wr.heap.size zeros12 y.l (zeros_new wr) rfl rfl hyl ?_; intro w2 hY2 hg2'))
      have hb2 : Below wr.heap.size wr w2 := ((Below.refl _ _).alloc (Nat.le_refl _) _).grown hg2' (by simp) (fun k h => by have := Option.some.inj h; omega)
      have hB2 : Below w.heap.size w w2 := hbw.trans (hb2.mono hbw.size)
      have f12 : w2.cell? ⟨g1, 2, none⟩ = some (.slice (some ⟨c1, 0, none⟩) n n) := (hb2.cell (p := ⟨g1, 2, none⟩) (by show g1 < wr.heap.size; omega)).trans e12
      obtain ⟨t, ht, hask⟩ := HC1.out.ask h12 HB1.out (w' := w2.drew) hB2.drew HYF.out
      have HASK := hide hask
      have HTT := hide ht
      clear hask ht hrange e12
      refine wp_region_held_drew (S := fun W' => Arr W' wr.heap.size y.l ∧ W'.cell? ⟨g1, 2, none⟩ = some (.slice (some ⟨c1, 0, none⟩) n n)) (by kernel_rfl) ⟨hY2, f12⟩ (fun hS => ?_)
      refine wpAnyH_take (i := 0) (v := .pointer (some ⟨g1, 0, none⟩)) rfl (by kernel_rfl) (by kernel_rfl) (by kernel_rfl) (fun _ _ _ h => h) (Or.inl ⟨by rfl, fun w' _ => by go_simp⟩) hS ?_
      refine wpAnyH_take (i := 1) (v := .pointer (some ⟨g1, 0, none⟩)) rfl (by kernel_rfl) (by kernel_rfl) (by kernel_rfl) (fun _ _ _ h => h) (Or.inl ⟨by rfl, fun w' _ => by go_simp⟩) hS ?_
      refine wpAnyH_take (i := 2) (v := .pointer (some ⟨g1, 2, none⟩)) rfl (by kernel_rfl) (by kernel_rfl) (by kernel_rfl) (fun _ _ _ h => h) (Or.inl ⟨by rfl, fun w' _ => by go_simp⟩) hS ?_
      refine wpAnyH_take (i := 3) (v := .slice (some ⟨c1, 0, none⟩) n n) rfl (by kernel_rfl) (by kernel_rfl) (by kernel_rfl) (fun _ _ _ h => h) (Or.inl ⟨by rfl, fun w' hS' => by have hq := hS'.2; go_simp⟩) hS ?_
      refine wpAnyH_take (i := 4) rfl (by kernel_rfl) (by kernel_rfl) (by kernel_rfl) (fun _ _ _ h => h) (yieldsIf_load_mid (by rfl) _ _ rfl wr.heap.size 0 rfl (y.l.map (Value.int .i8)) _ (fun w' h => Arr.range h.1) Try.underlying92 rfl hiny) hS ?_
      refine wpAnyH_ready (rs := [5]) (by kernel_rfl) (by simp) ?_
      refine AllReadyH.cons rfl (fun K hK => ?_) AllReadyH.nil
      go_simp
      refine HASK.out.mono ?_
      rintro e w3 ⟨rfl, hb3⟩
      replace hb3 := undrew hb3
      have hS3 : Arr w3 wr.heap.size y.l ∧ w3.cell? ⟨g1, 2, none⟩ = some (.slice (some ⟨c1, 0, none⟩) n n) := ⟨hY2.below hb3 hY2.lt, (hb3.cell (p := ⟨g1, 2, none⟩) (by show g1 < w2.heap.size; have := hb2.size; omega)).trans f12⟩
      have hB3 : Below w.heap.size w w3 := hB2.trans (hb3.mono hB2.size)
      refine hK.out _ _ hS3 (fun hS => ?_)
      clear hK
      refine wpAnyH_take (i := 6) (v := .bool (!t)) rfl (by kernel_rfl) (by kernel_rfl) (by kernel_rfl) (fun _ _ _ h => h) (Or.inl ⟨by rfl, fun w' _ => by go_simp⟩) hS ?_
      refine wpAnyH_done (by kernel_rfl) ?_ _
      clear hS hY2 f12 hb2 hb3 HASK hS3
      cases t with
      | false =>
        have hno : ¬ Gen (fun z => z ∈ gs) y := fun h => Bool.noConfusion (HTT.out.2 h)
        have HF := hide (show NormalPost gs hs w (.returned (.tuple #[.bool false, .int .i64 14])) w3 from ⟨false, 14, rfl, Or.inl ⟨rfl, rfl, y, HYM.out, hno⟩, hB3⟩)
        clear hno
        go_wp2
        go_ret2
        exact HF.out
      | true =>
        have hin' : Hid (∀ i z, i < k + 1 → hs[i]? = some z → Gen (fun z => z ∈ gs) z) := fun i z hi hz => by
          by_cases e : i = k
          · subst e
            rw [HY.out] at hz
            rw [← Option.some.inj hz]
            exact HTT.out.1 rfl
          · exact hin.out i z (by omega) hz
        go_wp2
        go_roundw
        case rel =>
          have hfin : ∃ k' : Nat, k' ≤ hs.length ∧ Value.int .i64 ((k : Int) + 1) = .int .i64 (k' : Int) ∧ Hid (∀ i y, i < k' → hs[i]? = some y → Gen (fun z => z ∈ gs) y) ∧ Below w.heap.size w w3 := ⟨k + 1, by omega, by go_num, hin', hB3⟩
          first
            | exact hfin
            | ((repeat apply Exists.intro); exact ⟨hfin, rfl⟩)
        case measure => simp [intOf]; omega
    · obtain rfl : k = hs.length := by omega
      have HALL : Hid (∀ y, y ∈ hs → Gen (fun z => z ∈ gs) y) := fun y hy => by
        obtain ⟨i, hi, rfl⟩ := List.getElem_of_mem hy
        exact hin.out i _ hi (List.getElem?_eq_getElem hi)
      have e11 : wr.cell? ⟨g1, 1, none⟩ = some (.slice p1 gs.length k1) := (hbw.cell (p := ⟨g1, 1, none⟩) hg1).trans a11
      obtain ⟨wo, hwo⟩ : ∃ wo : World, wo = wr := ⟨_, rfl⟩
      go_wp2
      go_loopw [48] (fun i wr => ∃ k : Nat, k ≤ gs.length ∧ i = .int .i64 k ∧ Hid (∀ i x, i < k → gs[i]? = some x → ∀ y, y ∈ hs → Gen (fun z => z ∈ hs) (x * y * x⁻¹)) ∧ Below w.heap.size w wr) (fun i _ => gs.length - (intOf i).toNat)
      case atStart => exact ⟨0, by omega, rfl, fun i y hi => by omega, hbw⟩
      case round =>
        clear hwo hbw hin e11 hbs hlt hk
        obtain ⟨k, hk, rfl, hin, hbw⟩ := hrel
        have hbs := hbw.size
        by_cases hlt : k < gs.length
        · obtain ⟨b, off, x, hpp, hx, hrange, hcap⟩ := (HP1.out.below hbw (Nat.le_refl _)).at hlt
          have hxm := List.mem_of_getElem? hx
          have hxf := HC1.out.fixes (Gen.of (S := fun z => z ∈ gs) hxm)
          have hinx := pin x
          have hxl := x.len
          have HX := hide hx
          have HXM := hide hxm
          have HXF := hide hxf
          have e21 : wr.cell? ⟨g2, 1, none⟩ = some (.slice p2 hs.length k2) := (hbw.cell (p := ⟨g2, 1, none⟩) hg2).trans a21
          subst hpp
          clear hx hxm hxf
          go_wp2_with (first
            | refine wpList_load_mid rfl 92 _ rfl b _ rfl _ _ hrange Try.underlying92 rfl hinx ?_
            | (refine wpList_store_arr rfl _ _ rfl wr.heap.size zeros12 x.l (zeros_new wr) rfl rfl hxl ?_; intro w2 hX2 hg2'; have hb2 : Below wr.heap.size wr w2 := ((Below.refl _ _).alloc (Nat.le_refl _) _).grown hg2' (by simp) (fun k h => by have := Option.some.inj h; omega); have f21 : w2.cell? ⟨g2, 1, none⟩ = some (.slice p2 hs.length k2) := (hb2.cell (p := ⟨g2, 1, none⟩) (by show g2 < wr.heap.size; omega)).trans e21))
          have hB2 : Below w.heap.size w w2 := hbw.trans (hb2.mono hbw.size)
          clear hrange e21 f21 hg2' hb2 hbw
          generalize wr.heap.size = D at *
          go_loopw [58] (fun i wr => ∃ q : Nat, q ≤ hs.length ∧ i = .int .i64 q ∧ Hid (∀ i y, i < q → hs[i]? = some y → Gen (fun z => z ∈ hs) (x * y * x⁻¹)) ∧ Arr wr D x.l ∧ Below w.heap.size w wr) (fun i _ => hs.length - (intOf i).toNat)
          case atStart => exact ⟨0, by omega, rfl, fun i y hi => by omega, hX2, hB2⟩
          case round =>
            clear hX2 hB2
            obtain ⟨q, hq, rfl, hin3, hX, hbw⟩ := hrel
            have hbs := hbw.size
            have hDl := hX.lt
            by_cases hlt3 : q < hs.length
            · obtain ⟨b3, off3, y, hpp, hy, hrange, hcap3⟩ := (HP2.out.below hbw (Nat.le_refl _)).at hlt3
              have hym := List.mem_of_getElem? hy
              have hyf := HC2.out.fixes (Gen.of (S := fun z => z ∈ hs) hym)
              have hiny := pin y
              have hyl := y.len
              have HY := hide hy
              have HYM := hide hym
              have HXYF : Hid (Fixes (fun b => n ≤ b) (x * y * x⁻¹)) := (fixes_sub _).mul ((fixes_sub _).mul HXF.out hyf) ((fixes_sub _).inv HXF.out)
              have e22 : wr.cell? ⟨g2, 2, none⟩ = some (.slice (some ⟨c2, 0, none⟩) n n) := (hbw.cell (p := ⟨g2, 2, none⟩) hg2).trans a22
              subst hpp
              clear hy hym hyf
              go_wp2_with (first
                | refine wpList_load_mid rfl 92 _ rfl b3 _ rfl _ _ hrange Try.underlying92 rfl hiny ?_
                | (refine wpList_store_arr rfl _ _ rfl wr.heap.size zeros12 y.l (zeros_new wr) rfl rfl hyl ?_; intro w4 hY4 hg4))
              have hb4 : Below wr.heap.size wr w4 := ((Below.refl _ _).alloc (Nat.le_refl _) _).grown hg4 (by simp) (fun k h => by have := Option.some.inj h; omega)
              have hB4 : Below w.heap.size w w4 := hbw.trans (hb4.mono hbw.size)
              have hX4 : Arr w4 D x.l := hX.below hb4 hDl
              have f22 : w4.cell? ⟨g2, 2, none⟩ = some (.slice (some ⟨c2, 0, none⟩) n n) := (hb4.cell (p := ⟨g2, 2, none⟩) (by show g2 < wr.heap.size; omega)).trans e22
              have hs4 : wr.heap.size < w4.heap.size := hY4.lt
              clear hrange e22 hg4
              refine wp_region_held_drew (S := fun W' => Arr W' wr.heap.size y.l ∧ W'.cell? ⟨g2, 2, none⟩ = some (.slice (some ⟨c2, 0, none⟩) n n)) (by kernel_rfl) ⟨hY4, f22⟩ (fun hS => ?_)
              refine wpAnyH_take (i := 0) (v := .pointer (some ⟨g2, 0, none⟩)) rfl (by kernel_rfl) (by kernel_rfl) (by kernel_rfl) (fun _ _ _ h => h) (Or.inl ⟨by rfl, fun w' _ => by go_simp⟩) hS ?_
              refine wpAnyH_take (i := 1) (v := .pointer (some ⟨g2, 0, none⟩)) rfl (by kernel_rfl) (by kernel_rfl) (by kernel_rfl) (fun _ _ _ h => h) (Or.inl ⟨by rfl, fun w' _ => by go_simp⟩) hS ?_
              refine wpAnyH_take (i := 2) (v := .pointer (some ⟨g2, 2, none⟩)) rfl (by kernel_rfl) (by kernel_rfl) (by kernel_rfl) (fun _ _ _ h => h) (Or.inl ⟨by rfl, fun w' _ => by go_simp⟩) hS ?_
              refine wpAnyH_take (i := 3) (v := .slice (some ⟨c2, 0, none⟩) n n) rfl (by kernel_rfl) (by kernel_rfl) (by kernel_rfl) (fun _ _ _ h => h) (Or.inl ⟨by rfl, fun w' hS' => by have hq := hS'.2; go_simp⟩) hS ?_
              refine wpAnyH_take (i := 4) (v := .func (.func 78) #[] #[.pointer (some ⟨D, 0, none⟩)]) rfl (by kernel_rfl) (by kernel_rfl) (by kernel_rfl) (fun _ _ _ h => h) (Or.inl ⟨by rfl, fun w' _ => by go_simp⟩) hS ?_
              refine wpAnyH_take (i := 5) rfl (by kernel_rfl) (by kernel_rfl) (by kernel_rfl) (fun _ _ _ h => h) (yieldsIf_load_mid (by rfl) _ _ rfl wr.heap.size 0 rfl (y.l.map (Value.int .i8)) _ (fun w' h => Arr.range h.1) Try.underlying92 rfl hiny) hS ?_
              refine wpAnyH_ready (rs := [6]) (by kernel_rfl) (by simp) ?_
              refine AllReadyH.cons rfl (fun K hK => ?_) AllReadyH.nil
              go_simp
              refine (about_ok x y D _ (show Arr w4.drew D x.l from hX4)).mono ?_
              rintro e w5 ⟨rfl, hb5⟩
              replace hb5 := undrew hb5
              have hY5 := hY4.below hb5 hY4.lt
              have hX5 := hX4.below hb5 hX4.lt
              have f5 : w5.cell? ⟨g2, 2, none⟩ = some (.slice (some ⟨c2, 0, none⟩) n n) := (hb5.cell (p := ⟨g2, 2, none⟩) (by show g2 < w4.heap.size; omega)).trans f22
              have hB5 : Below w.heap.size w w5 := hB4.trans (hb5.mono hB4.size)
              refine hK.out _ _ ⟨hY5, f5⟩ (fun _ => ?_)
              clear hK
              obtain ⟨t, ht, hask⟩ := HC2.out.ask h12 HB2.out (w' := w5) hB5 HXYF.out
              have HASK := hide hask
              have HTT := hide ht
              clear hask ht
              refine wpAnyH_ready (rs := [7]) (by kernel_rfl) (by simp) ?_
              refine AllReadyH.cons rfl (fun K hK => ?_) AllReadyH.nil
              go_simp
              refine HASK.out.mono ?_
              rintro e w6 ⟨rfl, hb6⟩
              have hS6 : Arr w6 wr.heap.size y.l ∧ w6.cell? ⟨g2, 2, none⟩ = some (.slice (some ⟨c2, 0, none⟩) n n) := ⟨hY5.below hb6 hY5.lt, (hb6.cell (p := ⟨g2, 2, none⟩) (by show g2 < w5.heap.size; have := hb5.size; omega)).trans f5⟩
              have hX6 := hX5.below hb6 hX5.lt
              have hB6 : Below w.heap.size w w6 := hB5.trans (hb6.mono hB5.size)
              refine hK.out _ _ hS6 (fun hS => ?_)
              clear hK
              refine wpAnyH_take (i := 8) (v := .bool (!t)) rfl (by kernel_rfl) (by kernel_rfl) (by kernel_rfl) (fun _ _ _ h => h) (Or.inl ⟨by rfl, fun w' _ => by go_simp⟩) hS ?_
              refine wpAnyH_done (by kernel_rfl) ?_ _
              clear hS hY4 hY5 hX4 hX5 f22 f5 hb4 hb5 hb6 HASK hS6
              cases t with
              | false =>
                have hno : ¬ Gen (fun z => z ∈ hs) (x * y * x⁻¹) := fun h => Bool.noConfusion (HTT.out.2 h)
                have HF := hide (show NormalPost gs hs w (.returned (.tuple #[.bool false, .int .i64 0])) w6 from ⟨false, 0, rfl, Or.inr ⟨rfl, HALL.out, ⟨fun h => Bool.noConfusion h, fun h => absurd (h x HXM.out y HYM.out) hno⟩⟩, hB6⟩)
                clear hno
                go_wp2
                go_ret2
                exact HF.out
              | true =>
                have hin' : Hid (∀ i z, i < q + 1 → hs[i]? = some z → Gen (fun z => z ∈ hs) (x * z * x⁻¹)) := fun i z hi hz => by
                  by_cases e : i = q
                  · subst e
                    rw [HY.out] at hz
                    rw [← Option.some.inj hz]
                    exact HTT.out.1 rfl
                  · exact hin3.out i z (by omega) hz
                go_wp2
                go_roundw
                case rel =>
                  have hfin : ∃ q' : Nat, q' ≤ hs.length ∧ Value.int .i64 ((q : Int) + 1) = .int .i64 (q' : Int) ∧ Hid (∀ i y, i < q' → hs[i]? = some y → Gen (fun z => z ∈ hs) (x * y * x⁻¹)) ∧ Arr w6 D x.l ∧ Below w.heap.size w w6 := ⟨q + 1, by omega, by go_num, hin', hX6, hB6⟩
                  first
                    | exact hfin
                    | ((repeat apply Exists.intro); exact ⟨hfin, rfl⟩)
                case measure => simp [intOf]; omega
            · obtain rfl : q = hs.length := by omega
              have hin' : Hid (∀ i z, i < k + 1 → gs[i]? = some z → ∀ y, y ∈ hs → Gen (fun z => z ∈ hs) (z * y * z⁻¹)) := fun i z hi hz y hy => by
                by_cases e : i = k
                · subst e
                  rw [HX.out] at hz
                  rw [← Option.some.inj hz]
                  obtain ⟨j, hj, rfl⟩ := List.getElem_of_mem hy
                  exact hin3.out j _ hj (List.getElem?_eq_getElem hj)
                · exact hin.out i z (by omega) hz y hy
              clear hin hin3 hX
              go_wp2
              go_roundw
              case rel =>
                have hfin : ∃ k' : Nat, k' ≤ gs.length ∧ Value.int .i64 ((k : Int) + 1) = .int .i64 (k' : Int) ∧ Hid (∀ i x, i < k' → gs[i]? = some x → ∀ y, y ∈ hs → Gen (fun z => z ∈ hs) (x * y * x⁻¹)) ∧ Below w.heap.size w wr := ⟨k + 1, by omega, by go_num, hin', hbw⟩
                first
                  | exact hfin
                  | ((repeat apply Exists.intro); exact ⟨hfin, rfl⟩)
              case measure => simp [intOf]; omega
        · obtain rfl : k = gs.length := by omega
          have HF := hide (show NormalPost gs hs w (.returned (.tuple #[.bool true, .int .i64 0])) wr from ⟨true, 0, rfl, Or.inr ⟨rfl, HALL.out, ⟨fun _ x hx y hy => by
            obtain ⟨j, hj, rfl⟩ := List.getElem_of_mem hx
            exact hin.out j _ hj (List.getElem?_eq_getElem hj) y hy, fun _ => rfl⟩⟩, hbw⟩)
          clear hin
          go_wp2
          go_ret2
          exact HF.out
end Go.Proofs.Ytbddhpbeekioiaa
