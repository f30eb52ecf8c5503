/- Joined: NormalB, GHas, Chg, Say, BfL, GeL, GeQ, GeY. -/
import Derived.Test.YtimfoggjocajiaaJ4
import Derived.Deep.QuietTactic
import Derived.BigQuiet
import Derived.Laws.ResultCell
import Derived.Test.YtimfoggjocajiaaJ1
import Derived.Test.YtimfoggjocajiaaJ0
import Derived.Shelf.Lays
import Derived.Shelf.Sort.AssemblyIn
import Derived.Sort.EveryDepth
import Derived.Shelf.Slices.Reverse
/- Contract: Normal, of two groups of as many bells. -/
namespace Go.Proofs.Ytimfoggjocajiaa
open Go.RowKit

/-- What Normal answers. -/
def NormalPost (gs hs : List Pm) (w : World) (e : Ending) (w' : World) : Prop := ∃ (r : Bool) (c : Int), e = .returned (.tuple #[.bool r, .int .i64 c]) ∧
  ((c = 14 ∧ r = false ∧ ∃ y, y ∈ hs ∧ ¬ Gen (fun z => z ∈ gs) y) ∨ (c = 0 ∧ (∀ y, y ∈ hs → Gen (fun z => z ∈ gs) y) ∧ (r = true ↔ ∀ x, x ∈ gs → ∀ y, y ∈ hs → Gen (fun z => z ∈ hs) (x * y * x⁻¹)))) ∧ Below w.heap.size w w'

theorem Chained.has {w : World} {B g n : Nat} {bs : List Nat} {C : List Lk} {st : Nat → St} {gs : List Pm} (h : Chained w B g n bs C st gs) {p : Pm} (hf : Fixes (fun b => n ≤ b) p) : hasC C p = true ↔ Gen (fun z => z ∈ gs) p := (has_iff h.whole hf).trans (h.gen p)

theorem Chained.fixes {w : World} {B g n : Nat} {bs : List Nat} {C : List Lk} {st : Nat → St} {gs : List Pm} (h : Chained w B g n bs C st gs) {p : Pm} (hp : Gen (fun z => z ∈ gs) p) : Fixes (fun b => n ≤ b) p := prd_fix h.whole ((h.gen p).2 hp)

theorem Chained.ask {w : World} {B g n : Nat} {bs : List Nat} {C : List Lk} {st : Nat → St} {gs : List Pm} (h : Chained w B g n bs C st gs) (h12 : n ≤ 12) (hbs : ∀ b, b ∈ bs → b < 12) {w' : World} (hb : Below w.heap.size w w') {p : Pm} (hf : Fixes (fun b => n ≤ b) p) :
    ∃ t : Bool, (t = true ↔ Gen (fun z => z ∈ gs) p) ∧ Calls Try.prog 69 #[.slice (some ⟨g, 0, none⟩) n n, .int .i64 0, .agg (p.l.map (Value.int .i8)).toArray] w' fun e w'' => e = .returned (.bool t) ∧ Below w'.heap.size w' w'' := by
  have hk := has_ok C 0 p w' (h.chain.below hb (Nat.le_refl _)) (Nat.zero_le _) (by rw [h.len]; exact h12) (fun l hl => hbs _ (by rw [← h.bases]; exact List.mem_map.2 ⟨l, hl, rfl⟩))
  rw [h.len, List.drop_zero] at hk
  exact ⟨_, h.has hf, hk⟩

theorem Packs.at {w : World} {p : Option Addr} {m cap : Nat} {gs : List Pm} (h : Packs w (.slice p m cap) gs) {k : Nat} (hk : k < gs.length) : ∃ b off q, p = some ⟨b, off, none⟩ ∧ gs[k]? = some q ∧ w.rangeAt b (off + k * 12) (q.l.map (Value.int .i8)) ∧ gs.length ≤ cap := by
  rcases h with ⟨e, _⟩ | ⟨b, off, cap', hv, _, hc, _, _, hr⟩
  · rw [e] at hk; simp at hk
  · injection hv with e1 _ e3
    exact ⟨b, off, gs[k], e1, List.getElem?_eq_getElem hk, hr k _ (List.getElem?_eq_getElem hk), by omega⟩

end Go.Proofs.Ytimfoggjocajiaa

/- Contract: Has. -/
namespace Go.Proofs.Ytimfoggjocajiaa
open Go.RowKit

theorem rchk_zero {n : Nat} {xs : List Int} (h : rchk n xs = 0) : isRow xs ∧ xs.length = n ∧ 1 ≤ n ∧ n ≤ 12 := by
  unfold rchk at h
  split at h
  · rename_i h0
    have hc := chk_zero h0
    split at h
    · rename_i hl; exact ⟨hc.2.2, hl, by omega, by omega⟩
    · omega
  · rename_i h0; exact absurd h h0

set_option maxRecDepth 20000 in
set_option maxHeartbeats 2000000 in
theorem ghas_no (n : Nat) (v v2 : Value) (gs : List Pm) (xs : List Int) (w : World) (hG : GroupAt w v n gs) (hI : Ints w v2 xs) (hz : rchk n xs ≠ 0) :
    Calls Try.prog 24 #[v, v2] w fun e w' => e = .returned (.tuple #[.bool false, .int .i64 (rchk n xs)]) ∧ Below w.heap.size w w' := by
  have HK := hide (checkRow_any n v2 xs w hI)
  obtain ⟨p, c, rfl⟩ := hI.form
  obtain ⟨g1, vg1, B1, c1, bs1, C1, st1, rfl, hg1, a10, a11, a12, hP1, hC1, hb1, rfl⟩ := hG
  have hne : (rchk n xs != 0) = true := by rw [bne_iff_ne]; exact hz
  clear hP1 hC1 hb1 hI hz
  generalize rchk n xs = z at *
  go_enter Try.func24, Try.ntmps24
  go_wp2_with fail
  refine HK.out.mono ?_
  rintro e w1 ⟨rfl, hb⟩
  go_wp2
  go_ret2
  exact ⟨rfl, hb⟩

set_option maxRecDepth 20000 in
set_option maxHeartbeats 2000000 in
theorem ghas_ok (n : Nat) (v v2 : Value) (gs : List Pm) (xs : List Int) (w : World) (hG : GroupAt w v n gs) (hI : Ints w v2 xs) (hz : rchk n xs = 0) :
    Calls Try.prog 24 #[v, v2] w fun e w' => ∃ t : Bool, (t = true ↔ Gen (fun y => y ∈ gs) (pad xs)) ∧ e = .returned (.tuple #[.bool t, .int .i64 0]) ∧ Below w.heap.size w w' := by
  obtain ⟨hr, hl, h1, h12⟩ := rchk_zero hz
  have HK := hide (checkRow_any n v2 xs w hI)
  rw [hz] at HK
  have HI := hide hI
  obtain ⟨p, c, rfl⟩ := hI.form
  obtain ⟨g1, vg1, B1, c1, bs1, C1, st1, rfl, hg1, a10, a11, a12, hP1, hC1, hb1, rfl⟩ := hG
  have HC1 := hide hC1
  have HB1 := hide hb1
  have HR := hide hr
  have HF := hide (pad_fixes h12 hl hr)
  have hx1 : 1 ≤ xs.length := by omega
  have hx12 : xs.length ≤ 12 := by omega
  clear hP1 hC1 hb1 hI hz hr hl
  go_enter Try.func24, Try.ntmps24
  go_wp2_with fail
  refine HK.out.mono ?_
  rintro e w1 ⟨rfl, hb⟩
  have f12 : w1.cell? ⟨g1, 2, none⟩ = some (.slice (some ⟨c1, 0, none⟩) n n) := (hb.cell (p := ⟨g1, 2, none⟩) hg1).trans a12
  have hs1 := hb.size
  have HPk := hide (pack_ok _ xs w1.drew (HI.out.below hb.drew) HR.out hx1 hx12)
  unfold pv i8s at HPk
  clear HK
  generalize xs.length = lx at *
  go_wp2
  refine wp_region_held_drew (S := fun W' => W'.cell? ⟨g1, 2, none⟩ = some (.slice (some ⟨c1, 0, none⟩) n n)) (by kernel_rfl) f12 (fun hS => ?_)
  refine wpAnyH_take (i := 0) (v := .pointer (some ⟨g1, 0, none⟩)) rfl (by kernel_rfl) (by kernel_rfl) (by kernel_rfl) (fun _ _ _ h => h) (Or.inl ⟨by rfl, fun w' _ => by go_simp⟩) hS ?_
  refine wpAnyH_take (i := 1) (v := .pointer (some ⟨g1, 0, none⟩)) rfl (by kernel_rfl) (by kernel_rfl) (by kernel_rfl) (fun _ _ _ h => h) (Or.inl ⟨by rfl, fun w' _ => by go_simp⟩) hS ?_
  refine wpAnyH_take (i := 2) (v := .pointer (some ⟨g1, 2, none⟩)) rfl (by kernel_rfl) (by kernel_rfl) (by kernel_rfl) (fun _ _ _ h => h) (Or.inl ⟨by rfl, fun w' _ => by go_simp⟩) hS ?_
  refine wpAnyH_take (i := 3) (v := .slice (some ⟨c1, 0, none⟩) n n) rfl (by kernel_rfl) (by kernel_rfl) (by kernel_rfl) (fun _ _ _ h => h) (Or.inl ⟨by rfl, fun w' hS' => by have hq := hS'; go_simp⟩) hS ?_
  refine wpAnyH_take (i := 4) (v := .slice p lx c) rfl (by kernel_rfl) (by kernel_rfl) (by kernel_rfl) (fun _ _ _ h => h) (Or.inl ⟨by rfl, fun w' _ => by go_simp⟩) hS ?_
  refine wpAnyH_ready (rs := [5]) (by kernel_rfl) (by simp) ?_
  refine AllReadyH.cons rfl (fun K hK => ?_) AllReadyH.nil
  go_simp
  refine HPk.out.mono ?_
  rintro e w2 ⟨rfl, hb2⟩
  replace hb2 := undrew hb2
  have f2 : w2.cell? ⟨g1, 2, none⟩ = some (.slice (some ⟨c1, 0, none⟩) n n) := (hb2.cell (p := ⟨g1, 2, none⟩) (by show g1 < w1.heap.size; omega)).trans f12
  have hB2 : Below w.heap.size w w2 := hb.trans (hb2.mono hb.size)
  refine hK.out _ _ f2 (fun _ => ?_)
  clear hK
  obtain ⟨t, ht, hask⟩ := HC1.out.ask h12 HB1.out (w' := w2) hB2 HF.out
  have HASK := hide hask
  have HTT := hide ht
  clear hask ht
  refine wpAnyH_ready (rs := [6]) (by kernel_rfl) (by simp) ?_
  refine AllReadyH.cons rfl (fun K hK => ?_) AllReadyH.nil
  go_simp
  refine HASK.out.mono ?_
  rintro e w3 ⟨rfl, hb3⟩
  have f3 : w3.cell? ⟨g1, 2, none⟩ = some (.slice (some ⟨c1, 0, none⟩) n n) := (hb3.cell (p := ⟨g1, 2, none⟩) (by show g1 < w2.heap.size; have := hb2.size; omega)).trans f2
  have hB3 : Below w.heap.size w w3 := hB2.trans (hb3.mono hB2.size)
  refine hK.out _ _ f3 (fun hS => ?_)
  clear hK
  refine wpAnyH_take (i := 7) (v := .bool t) rfl (by kernel_rfl) (by kernel_rfl) (by kernel_rfl) (fun _ _ _ h => h) (Or.inl ⟨by rfl, fun w' _ => by go_simp⟩) hS ?_
  refine wpAnyH_take (i := 8) (v := .int .i64 0) rfl (by kernel_rfl) (by kernel_rfl) (by kernel_rfl) (fun _ _ _ h => h) (Or.inl ⟨by rfl, fun w' _ => by go_simp⟩) hS ?_
  refine wpAnyH_done (by kernel_rfl) ?_ _
  go_wp2
  go_ret2
  exact ⟨t, HTT.out, rfl, hB3⟩
end Go.Proofs.Ytimfoggjocajiaa

/- Contract: change (a letter's row). -/
namespace Go.Proofs.Ytimfoggjocajiaa
open Go.RowKit

theorem ret_arr_tmp {fn : Func} {R : Ending → World → Prop} {a : Act} {w : World} {p u : Tmp} {b : Nat} {zs : List Int} {t : Value} (h : fn.results = #[.cell p 91, .tmp u]) (hp : a.tmps.getD p undef = .pointer (some ⟨b, 0, none⟩)) (hu : a.tmps.getD u undef = t) (hA : Arr w b zs) (hd : a.defers = []) (hR : R (.returned (.tuple #[.agg (i8s zs), t])) w) : bodyPost Try.prog fn R .ret a w := by
  refine bodyPost_ret (v := .tuple #[.agg (i8s zs), t]) ?_ hd hR
  have hp' : a.tmps[p]?.getD undef = .pointer (some ⟨b, 0, none⟩) := by simpa using hp
  have hu' : a.tmps[u]?.getD undef = t := by simpa using hu
  rw [results_cell_tmp h]
  simp [hp', hu', asAddr, Result.andThen, run_loadVar_arr hA]

set_option maxRecDepth 20000 in
set_option maxHeartbeats 2000000 in
theorem change_pos (n : Nat) (v : Value) (gs : List Pm) (k : Nat) (q : Pm) (w : World) (hG : GroupAt w v n gs) (hgl : gs.length ≤ 1000000) (hq : gs[k]? = some q) :
    Calls Try.prog 66 #[v, .int .i64 ((k : Int) + 1)] w fun e w' => e = .returned (.tuple #[.agg (i8s q.l), .bool true]) ∧ Below w.heap.size w w' := by
  obtain ⟨g1, vg1, B1, c1, bs1, C1, st1, rfl, hg1, a10, a11, a12, hP1, hC1, hb1, rfl⟩ := hG
  obtain ⟨p1, k1, rfl⟩ := hP1.form
  have hkl := (List.getElem?_eq_some_iff.1 hq).1
  have hB1 : ∀ o : Obj, Below w.heap.size w (w.alloc o) := fun o => (Below.refl _ _).alloc (Nat.le_refl _) o
  have hR0 := zeros_new w
  have hPk := hP1.below (hB1 (.cells #[.int .i8 0, .int .i8 0, .int .i8 0, .int .i8 0, .int .i8 0, .int .i8 0, .int .i8 0, .int .i8 0, .int .i8 0, .int .i8 0, .int .i8 0, .int .i8 0] 91)) (Nat.le_refl _)
  obtain ⟨b, off, q', hpp, hq', hrange, hcap⟩ := hPk.at hkl
  rw [hq] at hq'
  have := Option.some.inj hq'
  subst this
  have hb0 : ∀ o : Obj, (w.alloc o).cell? ⟨g1, 1, none⟩ = some (.slice p1 gs.length k1) := fun o => ((hB1 o).cell (p := ⟨g1, 1, none⟩) hg1).trans a11
  have hinq := pin q
  have hql := q.len
  have hk1 : (k : Int) + 1 ≤ (gs.length : Int) := by omega
  subst hpp
  clear hP1 hC1 hb1 hPk hq hq'
  go_enter Try.func66, Try.ntmps66
  go_wp2_with (first
    | refine wpList_load_mid rfl 91 _ rfl b _ rfl _ _ hrange Try.underlying91 rfl hinq ?_
    | (refine wpList_store_arr rfl _ _ rfl w.heap.size zeros12 q.l hR0 rfl rfl hql ?_; intro w1 hR1 hg1'))
  exact ret_arr_tmp rfl rfl rfl hR1 rfl ⟨rfl, (hB1 _).grown hg1' (by simp) (fun k h => by have := Option.some.inj h; omega)⟩

set_option maxRecDepth 20000 in
set_option maxHeartbeats 2000000 in
theorem change_neg (n : Nat) (v : Value) (gs : List Pm) (k : Nat) (q : Pm) (w : World) (hG : GroupAt w v n gs) (hgl : gs.length ≤ 1000000) (hq : gs[k]? = some q) :
    Calls Try.prog 66 #[v, .int .i64 (-(k : Int) - 1)] w fun e w' => e = .returned (.tuple #[.agg (i8s q⁻¹.l), .bool true]) ∧ Below w.heap.size w w' := by
  obtain ⟨g1, vg1, B1, c1, bs1, C1, st1, rfl, hg1, a10, a11, a12, hP1, hC1, hb1, rfl⟩ := hG
  obtain ⟨p1, k1, rfl⟩ := hP1.form
  have hkl := (List.getElem?_eq_some_iff.1 hq).1
  have hB1 : ∀ o : Obj, Below w.heap.size w (w.alloc o) := fun o => (Below.refl _ _).alloc (Nat.le_refl _) o
  have hR0 := zeros_new w
  have hPk := hP1.below (hB1 (.cells #[.int .i8 0, .int .i8 0, .int .i8 0, .int .i8 0, .int .i8 0, .int .i8 0, .int .i8 0, .int .i8 0, .int .i8 0, .int .i8 0, .int .i8 0, .int .i8 0] 91)) (Nat.le_refl _)
  obtain ⟨b, off, q', hpp, hq', hrange, hcap⟩ := hPk.at hkl
  rw [hq] at hq'
  have := Option.some.inj hq'
  subst this
  have hb0 : ∀ o : Obj, (w.alloc o).cell? ⟨g1, 1, none⟩ = some (.slice p1 gs.length k1) := fun o => ((hB1 o).cell (p := ⟨g1, 1, none⟩) hg1).trans a11
  have hinq := pin q
  have hql := q.len
  have hk1 : -(gs.length : Int) ≤ -(k : Int) - 1 := by omega
  have hk2 : -(k : Int) - 1 ≤ -1 := by omega
  have hk3 : decide (1 ≤ -(k : Int) - 1) = false := by rw [decide_eq_false_iff_not]; omega
  have hk4 : -(-(k : Int) - 1) - 1 = (k : Int) := by omega
  have hiq := (q⁻¹).len
  subst hpp
  clear hP1 hC1 hb1 hPk hq hq'
  go_enter Try.func66, Try.ntmps66
  go_wp2_with (refine wpList_load_mid rfl 91 _ rfl b _ rfl _ _ hrange Try.underlying91 rfl hinq ?_)
  refine (pback_raw q _).mono ?_
  rintro e w1 ⟨rfl, hb1⟩
  replace hb1 := below_alloc hb1
  have hR1 := hR0.below hb1 (by omega)
  have hB2 : Below w.heap.size w w1 := (hB1 _).trans (hb1.mono (by omega))
  go_wp2_with (refine wpList_store_arr rfl _ _ rfl w.heap.size zeros12 q⁻¹.l hR1 rfl rfl hiq ?_; intro w2 hR2 hg2)
  exact ret_arr_tmp rfl rfl rfl hR2 rfl ⟨rfl, hB2.grown hg2 hB2.size (fun k h => by have := Option.some.inj h; omega)⟩

set_option maxRecDepth 20000 in
set_option maxHeartbeats 2000000 in
theorem change_none (n : Nat) (v : Value) (gs : List Pm) (k : Int) (w : World) (hG : GroupAt w v n gs) (hgl : gs.length ≤ 1000000) (hk : k = 0 ∨ (gs.length : Int) < k ∨ k < -(gs.length : Int)) (hk1 : -9223372036854775808 ≤ k) (hk2 : k ≤ 9223372036854775807) :
    Calls Try.prog 66 #[v, .int .i64 k] w fun e w' => e = .returned (.tuple #[.agg (i8s zeros12), .bool false]) ∧ Below w.heap.size w w' := by
  obtain ⟨g1, vg1, B1, c1, bs1, C1, st1, rfl, hg1, a10, a11, a12, hP1, hC1, hb1, rfl⟩ := hG
  obtain ⟨p1, k1, rfl⟩ := hP1.form
  have hB1 : ∀ o : Obj, Below w.heap.size w (w.alloc o) := fun o => (Below.refl _ _).alloc (Nat.le_refl _) o
  have hR0 := zeros_new w
  have hzl : zeros12.length = 12 := rfl
  have hb0 : ∀ o : Obj, (w.alloc o).cell? ⟨g1, 1, none⟩ = some (.slice p1 gs.length k1) := fun o => ((hB1 o).cell (p := ⟨g1, 1, none⟩) hg1).trans a11
  clear hP1 hC1 hb1
  rcases Int.lt_trichotomy k 0 with h | h | h
  · have h1 : decide (1 ≤ k) = false := by rw [decide_eq_false_iff_not]; omega
    have h2 : k ≤ -1 := by omega
    have h3 : decide (-(gs.length : Int) ≤ k) = false := by rw [decide_eq_false_iff_not]; omega
    clear hk
    go_enter Try.func66, Try.ntmps66
    go_wp2_with (refine wpList_store_arr rfl _ _ rfl w.heap.size zeros12 zeros12 hR0 rfl rfl hzl ?_; intro w1 hR1 hg1')
    exact ret_arr_tmp rfl rfl rfl hR1 rfl ⟨rfl, (hB1 _).grown hg1' (by simp) (fun k h => by have := Option.some.inj h; omega)⟩
  · subst h
    clear hk
    go_enter Try.func66, Try.ntmps66
    go_wp2_with (refine wpList_store_arr rfl _ _ rfl w.heap.size zeros12 zeros12 hR0 rfl rfl hzl ?_; intro w1 hR1 hg1')
    exact ret_arr_tmp rfl rfl rfl hR1 rfl ⟨rfl, (hB1 _).grown hg1' (by simp) (fun k h => by have := Option.some.inj h; omega)⟩
  · have h1 : 1 ≤ k := by omega
    have h2 : decide (k ≤ (gs.length : Int)) = false := by rw [decide_eq_false_iff_not]; omega
    have h3 : decide (k ≤ -1) = false := by rw [decide_eq_false_iff_not]; omega
    clear hk
    go_enter Try.func66, Try.ntmps66
    go_wp2_with (refine wpList_store_arr rfl _ _ rfl w.heap.size zeros12 zeros12 hR0 rfl rfl hzl ?_; intro w1 hR1 hg1')
    exact ret_arr_tmp rfl rfl rfl hR1 rfl ⟨rfl, (hB1 _).grown hg1' (by simp) (fun k h => by have := Option.some.inj h; omega)⟩

end Go.Proofs.Ytimfoggjocajiaa

/- Contract: Say. -/
namespace Go.Proofs.Ytimfoggjocajiaa
open Go.RowKit

/-- A letter's row. -/
noncomputable def lett (gs : List Pm) (k : Int) : Option Pm := if 1 ≤ k then gs[(k - 1).toNat]? else if k ≤ -1 then (gs[(-k - 1).toNat]?).map (fun x => x⁻¹) else none

/-- A word's row, from p on. -/
noncomputable def say (gs : List Pm) : List Int → Pm → Option Pm
  | [], p => some p
  | k :: t, p => (lett gs k).elim none (fun x => say gs t (p * x))

theorem change_any (n : Nat) (v : Value) (gs : List Pm) (k : Int) (w : World) (hG : GroupAt w v n gs) (hgl : gs.length ≤ 1000000) (hk : I64 k) :
    Calls Try.prog 66 #[v, .int .i64 k] w fun e w' => ∃ (zs : List Int) (t : Bool), zs.length = 12 ∧ e = .returned (.tuple #[.agg (i8s zs), .bool t]) ∧ Hid ((t = true → ∃ q, lett gs k = some q ∧ zs = q.l) ∧ (t = false → lett gs k = none)) ∧ Below w.heap.size w w' := by
  have no : ∀ (hn : k = 0 ∨ (gs.length : Int) < k ∨ k < -(gs.length : Int)) (hl : lett gs k = none), Calls Try.prog 66 #[v, .int .i64 k] w fun e w' => ∃ (zs : List Int) (t : Bool), zs.length = 12 ∧ e = .returned (.tuple #[.agg (i8s zs), .bool t]) ∧ Hid ((t = true → ∃ q, lett gs k = some q ∧ zs = q.l) ∧ (t = false → lett gs k = none)) ∧ Below w.heap.size w w' := fun hn hl => by
    refine (change_none n v gs k w hG hgl hn hk.1 hk.2).mono ?_
    rintro e w' ⟨rfl, hb⟩
    exact ⟨zeros12, false, rfl, rfl, And.intro (fun h => Bool.noConfusion h) (fun _ => hl), hb⟩
  rcases Int.lt_trichotomy k 0 with h | h | h
  · cases hq : gs[(-k - 1).toNat]? with
    | none =>
      have := List.getElem?_eq_none_iff.1 hq
      exact no (by omega) (by unfold lett; rw [if_neg (by omega), if_pos (by omega), hq]; rfl)
    | some q =>
      have e : k = -(((-k - 1).toNat : Nat) : Int) - 1 := by omega
      have hc := change_neg n v gs (-k - 1).toNat q w hG hgl hq
      rw [← e] at hc
      refine hc.mono ?_
      rintro e w' ⟨rfl, hb⟩
      exact ⟨_, true, q⁻¹.len, rfl, And.intro (fun _ => ⟨q⁻¹, by unfold lett; rw [if_neg (by omega), if_pos (by omega), hq]; rfl, rfl⟩) (fun h => Bool.noConfusion h), hb⟩
  · exact no (Or.inl h) (by unfold lett; rw [if_neg (by omega), if_neg (by omega)])
  · cases hq : gs[(k - 1).toNat]? with
    | none =>
      have := List.getElem?_eq_none_iff.1 hq
      exact no (by omega) (by unfold lett; rw [if_pos (by omega)]; exact hq)
    | some q =>
      have e : k = (((k - 1).toNat : Nat) : Int) + 1 := by omega
      have hc := change_pos n v gs (k - 1).toNat q w hG hgl hq
      rw [← e] at hc
      refine hc.mono ?_
      rintro e w' ⟨rfl, hb⟩
      exact ⟨_, true, q.len, rfl, And.intro (fun _ => ⟨q, by unfold lett; rw [if_pos (by omega)]; exact hq, rfl⟩) (fun h => Bool.noConfusion h), hb⟩

theorem say_drop {gs : List Pm} {xs : List Int} {k : Nat} {y : Int} (hk : k < xs.length) (hy : xs[k]?.getD 0 = y) (p : Pm) : say gs (xs.drop k) p = (lett gs y).elim none (fun x => say gs (xs.drop (k + 1)) (p * x)) := by
  rw [List.drop_eq_getElem_cons hk]
  have : xs[k] = y := by rw [← hy, List.getElem?_eq_getElem hk]; rfl
  rw [this]
  rfl

def SayPost (n : Nat) (gs : List Pm) (xs : List Int) (w : World) (e : Ending) (w' : World) : Prop :=
  ((say gs xs 1 = none ∧ e = .returned (.tuple #[.slice none 0 0, .int .i64 12])) ∨ ∃ v p, say gs xs 1 = some p ∧ e = .returned (.tuple #[v, .int .i64 0]) ∧ w'.ownsRow w.heap.size 3 1 v n ((cut n p).map (Value.int .i64))) ∧ Below w.heap.size w w'

set_option maxRecDepth 20000 in
set_option maxHeartbeats 2000000 in
theorem say_long (n : Nat) (v v2 : Value) (gs : List Pm) (xs : List Int) (w : World) (hG : GroupAt w v n gs) (hI : Ints w v2 xs) (hl : 20000 < xs.length) :
    Calls Try.prog 20 #[v, v2] w fun e w' => e = .returned (.tuple #[.slice none 0 0, .int .i64 3]) ∧ w = w' := by
  obtain ⟨p, c, rfl⟩ := hI.form
  obtain ⟨g1, vg1, B1, c1, bs1, C1, st1, rfl, hg1, a10, a11, a12, hP1, hC1, hb1, rfl⟩ := hG
  have hl' : (20000 : Int) < (xs.length : Int) := by omega
  clear hP1 hC1 hb1 hI hl
  go_enter Try.func20, Try.ntmps20
  go_wp2
  go_ret2
  exact ⟨rfl, rfl⟩

set_option maxRecDepth 20000 in
set_option maxHeartbeats 4000000 in
theorem say_ok (n : Nat) (v v2 : Value) (gs : List Pm) (xs : List Int) (w : World) (h12 : n ≤ 12) (hG : GroupAt w v n gs) (hgl : gs.length ≤ 1000000) (hI : Ints w v2 xs) (hx : ∀ x, x ∈ xs → I64 x) (hl : xs.length ≤ 20000) :
    Calls Try.prog 20 #[v, v2] w fun e w' => SayPost n gs xs w e w' := by
  obtain ⟨p, c, rfl⟩ := hI.form
  have HG := hide hG
  obtain ⟨g1, vg1, B1, c1, bs1, C1, st1, rfl, hg1, a10, a11, a12, hP1, hC1, hb1, rfl⟩ := hG
  have hl' : (xs.length : Int) ≤ 20000 := by omega
  have HX := hide hx
  have HI := hide hI
  have hl1 := (1 : Pm).len
  clear hP1 hC1 hb1 hI hx
  go_enter Try.func20, Try.ntmps20
  go_wp2_with fail
  refine (prounds_ok _).mono ?_
  unfold pv
  rintro e w1 ⟨rfl, hb1⟩
  have hs1 := hb1.size
  go_wp2_with (refine wpList_store_arr rfl _ _ rfl w1.heap.size zeros12 _ (zeros_new w1) rfl rfl hl1 ?_; intro w2 hA2 hg2)
  have hB2 : Below w.heap.size w w2 := (hb1.alloc hs1 _).grown hg2 (by simp; omega) (fun k h => by have := Option.some.inj h; omega)
  clear hg2 hb1
  generalize w1.heap.size = D at *
  go_loopw [17] (fun i wr => ∃ (k : Nat) (r : Pm), k ≤ xs.length ∧ i = .int .i64 k ∧ Arr wr D r.l ∧ Hid (say gs (xs.drop k) r = say gs xs 1) ∧ Below w.heap.size w wr) (fun i _ => xs.length - (intOf i).toNat)
  case atStart => exact ⟨0, 1, by omega, rfl, hA2, rfl, hB2⟩
  case round =>
    clear hA2 hB2
    obtain ⟨k, r, hk, rfl, hA, hs, hbw⟩ := hrel
    have hbs := hbw.size
    have hDl := hA.lt
    by_cases hlt : k < xs.length
    · obtain ⟨b, off, cap, hpp, hcell⟩ : ∃ b off cap, (Value.slice p xs.length c = .slice (some ⟨b, off, none⟩) xs.length cap ∧ xs.length ≤ cap) ∧ (∀ j, j < xs.length → wr.cell? ⟨b, off + j, none⟩ = some (.int .i64 (xs.getD j 0))) := by
        rcases HI.out.below hbw with ⟨e, _⟩ | ⟨b, off, cap, hv, _, hc, _, _, hcell⟩
        · rw [e] at hlt; simp at hlt
        · exact ⟨b, off, cap, ⟨hv, hc⟩, hcell⟩
      obtain ⟨hpp, hcap⟩ := hpp
      injection hpp with e1 _ e3
      subst e1; subst e3
      obtain ⟨y, hy, hcy⟩ := cellAt hcell hlt
      have hyI : I64 y := HX.out y (by rw [← hy.out, List.getElem?_eq_getElem hlt]; exact List.getElem_mem hlt)
      have HCh := hide (change_any n _ gs y wr (HG.out.below hbw (Nat.le_refl _)) hgl hyI)
      have HSD := hide (say_drop (gs := gs) hlt hy.out r)
      rw [hs.out] at HSD
      obtain ⟨yl, yu⟩ := hyI
      clear hcell hy
      go_wp2_with fail
      refine HCh.out.mono ?_
      rintro e w3 ⟨zs, t, hzl, rfl, hzt, hb3⟩
      have hs3 := hb3.size
      have hA3 := hA.below hb3 hDl
      have hB3 : Below w.heap.size w w3 := hbw.trans (hb3.mono hbw.size)
      have hD3 := hA3.lt
      cases t with
      | false =>
        have HN : Hid (say gs xs 1 = none) := by have h1 := HSD.out; rw [hzt.out.2 rfl] at h1; exact h1
        clear HSD hzt
        go_wp2_with (refine wpList_store_arr rfl _ _ rfl w3.heap.size zeros12 zs (zeros_new w3) rfl rfl hzl ?_; intro w4 hZ4 hg4)
        have hB4 : Below w.heap.size w w4 := (hB3.alloc hB3.size _).grown hg4 (by have := hB3.size; simp; omega) (fun k h => by have := Option.some.inj h; have := hB3.size; omega)
        have HF := hide (show SayPost n gs xs w (.returned (.tuple #[.slice none 0 0, .int .i64 12])) w4 from ⟨Or.inl ⟨HN.out, rfl⟩, hB4⟩)
        go_ret2
        exact HF.out
      | true =>
        obtain ⟨q, hq, rfl⟩ := hzt.out.1 rfl
        have HS' : Hid (say gs (xs.drop (k + 1)) (r * q) = say gs xs 1) := by have h1 := HSD.out; rw [hq] at h1; exact h1.symm
        have hrq := (r * q).len
        clear HSD hzt hq
        go_wp2_with (first
          | (refine wpList_store_arr rfl _ _ rfl w3.heap.size zeros12 q.l (zeros_new w3) rfl rfl hzl ?_; intro w4 hZ4 hg4; have hA4 : Arr w4 D r.l := (hA3.alloc _).kept hg4 (by intro e; have := Option.some.inj e; omega))
          | refine wpList_load_arr rfl _ rfl D r.l hA4 rfl ?_
          | refine wpList_load_arr rfl _ rfl w3.heap.size q.l hZ4 rfl ?_)
        have hB4 : Below w.heap.size w w4 := (hB3.alloc hB3.size _).grown hg4 (by have := hB3.size; simp; omega) (fun k h => by have := Option.some.inj h; have := hB3.size; omega)
        refine (ptimes_ok r q _).mono ?_
        unfold pv
        rintro e w5 ⟨rfl, hb5⟩
        have hA5 := hA4.below hb5 hA4.lt
        have hB5 : Below w.heap.size w w5 := hB4.trans (hb5.mono hB4.size)
        clear hg4 hZ4 hA4
        go_wp2_with (refine wpList_store_arr rfl _ _ rfl D r.l (r * q).l hA5 rfl rfl hrq ?_; intro w6 hA6 hg6)
        have hB6 : Below w.heap.size w w6 := hB5.grown hg6 hB5.size (fun k h => by have := Option.some.inj h; omega)
        go_roundw
        case rel =>
          have hfin : ∃ (k' : Nat) (r' : Pm), k' ≤ xs.length ∧ Value.int .i64 ((k : Int) + 1) = .int .i64 (k' : Int) ∧ Arr w6 D r'.l ∧ Hid (say gs (xs.drop k') r' = say gs xs 1) ∧ Below w.heap.size w w6 := ⟨k + 1, r * q, by omega, by go_num, hA6, HS', hB6⟩
          first
            | exact hfin
            | ((repeat apply Exists.intro); exact ⟨hfin, rfl⟩)
        case measure => simp [intOf]; omega
    · obtain rfl : k = xs.length := by omega
      have HE : Hid (say gs xs 1 = some r) := by have h1 := hs.out; rw [List.drop_length] at h1; exact h1.symm
      have e10 : wr.cell? ⟨g1, 0, none⟩ = some (.int .i64 (n : Int)) := (hbw.cell (p := ⟨g1, 0, none⟩) hg1).trans a10
      have hinr := pin r
      have HU := hide (unpack_ok r n wr.drew h12)
      unfold pv i8s at HU
      clear hs
      go_wp2
      refine wp_region_held_drew (S := fun W' => Arr W' D r.l ∧ W'.cell? ⟨g1, 0, none⟩ = some (.int .i64 (n : Int))) (by kernel_rfl) ⟨hA, e10⟩ (fun hS => ?_)
      refine wpAnyH_take (i := 0) rfl (by kernel_rfl) (by kernel_rfl) (by kernel_rfl) (fun _ _ _ h => h) (yieldsIf_load_mid (by rfl) _ _ rfl D 0 rfl (r.l.map (Value.int .i8)) _ (fun w' h => Arr.range h.1) Try.underlying91 rfl hinr) hS ?_
      refine wpAnyH_take (i := 1) (v := .pointer (some ⟨g1, 0, none⟩)) rfl (by kernel_rfl) (by kernel_rfl) (by kernel_rfl) (fun _ _ _ h => h) (Or.inl ⟨by rfl, fun w' _ => by go_simp⟩) hS ?_
      refine wpAnyH_take (i := 2) (v := .pointer (some ⟨g1, 0, none⟩)) rfl (by kernel_rfl) (by kernel_rfl) (by kernel_rfl) (fun _ _ _ h => h) (Or.inl ⟨by rfl, fun w' _ => by go_simp⟩) hS ?_
      refine wpAnyH_take (i := 3) (v := .pointer (some ⟨g1, 0, none⟩)) rfl (by kernel_rfl) (by kernel_rfl) (by kernel_rfl) (fun _ _ _ h => h) (Or.inl ⟨by rfl, fun w' _ => by go_simp⟩) hS ?_
      refine wpAnyH_take (i := 4) (v := .int .i64 (n : Int)) rfl (by kernel_rfl) (by kernel_rfl) (by kernel_rfl) (fun _ _ _ h => h) (Or.inl ⟨by rfl, fun w' hS' => by have hq := hS'.2; go_simp⟩) hS ?_
      refine wpAnyH_ready (rs := [5]) (by kernel_rfl) (by simp) ?_
      refine AllReadyH.cons rfl (fun K hK => ?_) AllReadyH.nil
      go_simp
      refine HU.out.mono ?_
      rintro e w3 ⟨u, rfl, ho, hb3⟩
      have ho' : w3.ownsRow w.heap.size 3 1 u n ((cut n r).map (Value.int .i64)) := owns_base ho (by show w.heap.size ≤ wr.heap.size; omega)
      replace hb3 := undrew hb3
      have hB3 : Below w.heap.size w w3 := hbw.trans (hb3.mono hbw.size)
      have hS3 : Arr w3 D r.l ∧ w3.cell? ⟨g1, 0, none⟩ = some (.int .i64 (n : Int)) := ⟨hA.below hb3 hDl, (hb3.cell (p := ⟨g1, 0, none⟩) (by show g1 < wr.heap.size; omega)).trans e10⟩
      have HF := hide (show SayPost n gs xs w (.returned (.tuple #[u, .int .i64 0])) w3 from ⟨Or.inr ⟨u, r, HE.out, rfl, ho'⟩, hB3⟩)
      refine hK.out _ _ hS3 (fun hS => ?_)
      clear hK ho ho'
      refine wpAnyH_take (i := 6) (v := u) rfl (by kernel_rfl) (by kernel_rfl) (by kernel_rfl) (fun _ _ _ h => h) (Or.inl ⟨by rfl, fun w' _ => by go_simp⟩) hS ?_
      refine wpAnyH_take (i := 7) (v := .int .i64 0) rfl (by kernel_rfl) (by kernel_rfl) (by kernel_rfl) (fun _ _ _ h => h) (Or.inl ⟨by rfl, fun w' _ => by go_simp⟩) hS ?_
      refine wpAnyH_done (by kernel_rfl) ?_ _
      go_wp2
      go_ret2
      exact HF.out
end Go.Proofs.Ytimfoggjocajiaa

/- Plain: the words that rows were come to by first are as short as can be. -/
namespace Go.Proofs.Ytimfoggjocajiaa

structure Lev (i : Nat) (S : List (Pm × List Int)) : Prop where
  sorted : S.Pairwise (fun a b => a.2.length ≤ b.2.length)
  bound : ∀ k d, k + 1 = i → S[k]? = some d → ∀ e, e ∈ S → e.2.length ≤ d.2.length + 1

theorem tryTo_lev {L : List (Int × Pm)} {e0 : Pm × List Int} {S : List (Pm × List Int)} (hs : S.Pairwise (fun a b => a.2.length ≤ b.2.length)) (hb : ∀ e, e ∈ S → e.2.length ≤ e0.2.length + 1) (j : Nat) :
    (tryTo L e0 S j).Pairwise (fun a b => a.2.length ≤ b.2.length) ∧ ∀ e, e ∈ tryTo L e0 S j → e.2.length ≤ e0.2.length + 1 := by
  unfold tryTo
  generalize L.take j = M
  induction M generalizing S with
  | nil => exact ⟨hs, hb⟩
  | cons l M ih =>
    rw [List.foldl_cons]
    by_cases hc : e0.1 * l.2 ∈ S.map (·.1)
    · rw [tryL_old hc]; exact ih hs hb
    · rw [tryL_new hc]
      refine ih ?_ ?_
      · rw [List.pairwise_append]
        refine ⟨hs, by simp, fun a ha b hb' => ?_⟩
        rw [List.mem_singleton.1 hb']
        have := hb a ha
        simp only [List.length_append, List.length_singleton]
        exact this
      · intro e he
        rcases List.mem_append.1 he with he | he
        · exact hb e he
        · rw [List.mem_singleton.1 he]
          simp

theorem Run.lev {L : List (Int × Pm)} {i : Nat} {S : List (Pm × List Int)} (h : Run L i S) : Lev i S := by
  induction h with
  | start => exact ⟨by simp, fun k d hk => by omega⟩
  | @step i S e0 h he ih =>
    have hb0 : ∀ e, e ∈ S → e.2.length ≤ e0.2.length + 1 := by
      cases i with
      | zero =>
        cases h
        intro e he'
        rw [List.mem_singleton.1 he']
        exact Nat.zero_le _
      | succ k =>
        intro e he'
        have hk : k < S.length := by have := (List.getElem?_eq_some_iff.1 he).1; omega
        have h1 := ih.bound k S[k] rfl (List.getElem?_eq_getElem hk) e he'
        have h2 := List.pairwise_iff_getElem.1 ih.sorted k (k + 1) hk (List.getElem?_eq_some_iff.1 he).1 (Nat.lt_succ_self k)
        rw [(List.getElem?_eq_some_iff.1 he).2] at h2
        omega
    obtain ⟨h1, h2⟩ := tryTo_lev (L := L) (e0 := e0) ih.sorted hb0 L.length
    refine ⟨h1, fun k d hk hd e he' => ?_⟩
    have hki : k = i := by omega
    subst hki
    obtain ⟨more, hm⟩ := tryTo_more L e0 S L.length
    rw [hm, List.getElem?_append_left (List.getElem?_eq_some_iff.1 he).1, he] at hd
    rw [← Option.some.inj hd]
    exact h2 e he'

theorem Run.near {L : List (Int × Pm)} {i : Nat} {S : List (Pm × List Int)} (h : Run L i S) : ∀ k e, k < i → S[k]? = some e → ∀ l, l ∈ L → ∃ wd, (e.1 * l.2, wd) ∈ S ∧ wd.length ≤ e.2.length + 1 := by
  intro k e hk hke l hl
  obtain ⟨T, hT, m1, e1⟩ := h.pre (k + 1) hk
  have hm := hT.lev
  have hTl := hT.le
  have hk2 : T[k]? = some e := by
    rw [e1, List.getElem?_append_left (by omega)] at hke
    exact hke
  have h3 := hT.done k e (Nat.lt_succ_self k) hk2 l hl
  obtain ⟨d, hd, e2⟩ := List.mem_map.1 h3
  refine ⟨d.2, by rw [e1, ← e2]; exact List.mem_append_left _ hd, hm.bound k e rfl hk2 d hd⟩

/-- Rows that words of letters say. -/
inductive Wds (L : List (Int × Pm)) : Nat → Pm → Prop
  | nil : Wds L 0 1
  | snoc {k : Nat} {x : Pm} {l : Int × Pm} : Wds L k x → l ∈ L → Wds L (k + 1) (x * l.2)

theorem Run.short {L : List (Int × Pm)} {i : Nat} {S : List (Pm × List Int)} (h : Run L i S) (hi : S.length ≤ i) {k : Nat} {x : Pm} (hx : Wds L k x) : ∃ wd, (x, wd) ∈ S ∧ wd.length ≤ k := by
  induction hx with
  | nil => exact ⟨[], h.ok.first, Nat.le_refl _⟩
  | @snoc k x l _ hl ih =>
    obtain ⟨wd, h1, h2⟩ := ih
    obtain ⟨j, hj, ej⟩ := List.getElem_of_mem h1
    obtain ⟨wd', h3, h4⟩ := h.near j (x, wd) (by omega) (by rw [List.getElem?_eq_getElem hj, ej]) l hl
    exact ⟨wd', h3, by simp only at h4; omega⟩

/-- What a word in the table says. -/
def Said (gs : List Pm) (e : Pm × List Int) : Prop := say gs e.2 1 = some e.1

theorem say_app (gs : List Pm) : ∀ (a b : List Int) (p : Pm), say gs (a ++ b) p = (say gs a p).bind (fun q => say gs b q)
  | [], b, p => rfl
  | k :: a, b, p => by
    show (lett gs k).elim none (fun x => say gs (a ++ b) (p * x)) = ((lett gs k).elim none (fun x => say gs a (p * x))).bind _
    cases lett gs k with
    | none => rfl
    | some x => exact say_app gs a b (p * x)

theorem glet_mem {gs : List Pm} {k : Nat} {l : Int × Pm} (h : l ∈ glet k gs) : ∃ j x, gs[j]? = some x ∧ (l = (((k + j : Nat) : Int) + 1, x) ∨ l = (-((k + j : Nat) : Int) - 1, x⁻¹)) := by
  induction gs generalizing k with
  | nil => cases h
  | cons y t ih =>
    rw [glet] at h
    rcases List.mem_cons.1 h with h | h
    · exact ⟨0, y, rfl, Or.inl h⟩
    · rcases List.mem_cons.1 h with h | h
      · exact ⟨0, y, rfl, Or.inr h⟩
      · obtain ⟨j, x, h1, h2⟩ := ih h
        refine ⟨j + 1, x, h1, ?_⟩
        rw [show k + (j + 1) = k + 1 + j by omega]
        exact h2

theorem glet_lett {gs : List Pm} {l : Int × Pm} (h : l ∈ glet 0 gs) : lett gs l.1 = some l.2 := by
  obtain ⟨j, x, h1, h2 | h2⟩ := glet_mem h
  · rw [h2, Nat.zero_add]
    unfold lett
    rw [if_pos (by omega), show ((j : Int) + 1 - 1).toNat = j by omega]
    exact h1
  · rw [h2, Nat.zero_add]
    unfold lett
    rw [if_neg (by omega), if_pos (by omega), show (-(-(j : Int) - 1) - 1).toNat = j by omega, h1]
    rfl

theorem lett_glet {gs : List Pm} {k : Int} {z : Pm} (h : lett gs k = some z) : ∃ l, l ∈ glet 0 gs ∧ l.2 = z := by
  unfold lett at h
  by_cases h1 : 1 ≤ k
  · rw [if_pos h1] at h
    exact ⟨_, List.mem_of_getElem? (glet_even (k := 0) h), rfl⟩
  · rw [if_neg h1] at h
    by_cases h2 : k ≤ -1
    · rw [if_pos h2] at h
      obtain ⟨x, hx, e⟩ := Option.map_eq_some_iff.1 h
      exact ⟨_, List.mem_of_getElem? (glet_odd (k := 0) hx), e⟩
    · rw [if_neg h2] at h; cases h

theorem say_wds {gs : List Pm} : ∀ (a : List Int) (p x : Pm) (k : Nat), Wds (glet 0 gs) k p → say gs a p = some x → Wds (glet 0 gs) (k + a.length) x
  | [], p, x, k, hp, h => by rw [← Option.some.inj h]; exact hp
  | y :: a, p, x, k, hp, h => by
    have h' : (lett gs y).elim none (fun z => say gs a (p * z)) = some x := h
    cases hl : lett gs y with
    | none => rw [hl] at h'; cases h'
    | some z =>
      rw [hl] at h'
      obtain ⟨l, hm, rfl⟩ := lett_glet hl
      have := say_wds a (p * l.2) x (k + 1) (Wds.snoc hp hm) h'
      rw [List.length_cons, show k + (a.length + 1) = k + 1 + a.length by omega]
      exact this

theorem Run.said {gs : List Pm} {i : Nat} {S : List (Pm × List Int)} (h : Run (glet 0 gs) i S) : ∀ e, e ∈ S → say gs e.2 1 = some e.1 := by
  have one : ∀ (e0 : Pm × List Int) (M : List (Int × Pm)) (S : List (Pm × List Int)), (∀ l, l ∈ M → l ∈ glet 0 gs) → say gs e0.2 1 = some e0.1 → (∀ e, e ∈ S → say gs e.2 1 = some e.1) → ∀ e, e ∈ M.foldl (tryL e0) S → say gs e.2 1 = some e.1 := by
    intro e0 M
    induction M with
    | nil => intro S _ _ h; exact h
    | cons l M ih =>
      intro S hM h0 hS
      refine ih _ (fun x hx => hM x (List.mem_cons_of_mem _ hx)) h0 ?_
      by_cases hc : e0.1 * l.2 ∈ S.map (·.1)
      · rw [tryL_old hc]; exact hS
      · rw [tryL_new hc]
        intro e he
        rcases List.mem_append.1 he with he | he
        · exact hS e he
        · rw [List.mem_singleton.1 he]
          show say gs (e0.2 ++ [l.1]) 1 = some (e0.1 * l.2)
          rw [say_app, h0]
          show (lett gs l.1).elim none (fun x => say gs [] (e0.1 * x)) = _
          rw [glet_lett (hM l List.mem_cons_self)]
          rfl
  induction h with
  | start => intro e he; rw [List.mem_singleton.1 he]; rfl
  | step h he ih => exact one _ _ _ (fun l hl => List.mem_of_mem_take hl) (ih _ (List.mem_of_getElem? he)) ih

theorem glet_gen (k : Nat) (gs : List Pm) (x : Pm) : Gen (fun y => ∃ l, l ∈ glet k gs ∧ l.2 = y) x ↔ Gen (fun y => y ∈ gs) x := by
  constructor
  · intro h
    refine h.least (Gen.sub _) (fun s ⟨l, hl, e⟩ => ?_)
    obtain ⟨j, x, h1, h2 | h2⟩ := glet_mem hl
    · rw [← e, h2]; exact Gen.of (List.mem_of_getElem? h1)
    · rw [← e, h2]; exact (Gen.of (S := fun y => y ∈ gs) (List.mem_of_getElem? h1)).inv
  · intro h
    refine h.mono (fun s hs => ?_)
    obtain ⟨j, hj, e⟩ := List.getElem_of_mem hs
    exact ⟨_, List.mem_of_getElem? (glet_even (k := k) (List.getElem?_eq_getElem hj)), e⟩

/-- The search ends: with n rows at most, none twice. -/
theorem Run.len {L : List (Int × Pm)} {i : Nat} {S : List (Pm × List Int)} (h : Run L i S) {X : List Pm} (hX : ∀ x, Gen (fun x => ∃ l, l ∈ L ∧ l.2 = x) x → x ∈ X) : S.length ≤ X.length := by
  classical
  have := nodup_len (S.map (·.1)) X h.ok.nodup (fun x hx => by obtain ⟨e, he, rfl⟩ := List.mem_map.1 hx; exact hX _ (h.ok.gen e he))
  rwa [List.length_map] at this

theorem Run.lenTo {L : List (Int × Pm)} {i : Nat} {S : List (Pm × List Int)} {e : Pm × List Int} (h : Run L i S) (he : S[i]? = some e) (j : Nat) {X : List Pm} (hX : ∀ x, Gen (fun x => ∃ l, l ∈ L ∧ l.2 = x) x → x ∈ X) : (tryTo L e S j).length ≤ X.length := by
  classical
  have hk := h.ok.tryTo (h.ok.gen e (List.mem_of_getElem? he)) j
  have := nodup_len ((tryTo L e S j).map (·.1)) X hk.nodup (fun x hx => by obtain ⟨d, hd, rfl⟩ := List.mem_map.1 hx; exact hX _ (hk.gen d hd))
  rwa [List.length_map] at this

theorem Run.more {L : List (Int × Pm)} {i j : Nat} {S T : List (Pm × List Int)} (h : Run L i S) (k : Run L j T) (hij : i ≤ j) : ∃ m, T = S ++ m := by
  obtain ⟨S', h', m, e⟩ := k.pre i hij
  rw [h.det h']
  exact ⟨m, e⟩

/-- There is a way through all. -/
theorem Run.exists {L : List (Int × Pm)} {X : List Pm} (hX : ∀ x, Gen (fun x => ∃ l, l ∈ L ∧ l.2 = x) x → x ∈ X) : ∃ i S, Run L i S ∧ S.length ≤ i := by
  have key : ∀ d i S, Run L i S → X.length - i ≤ d → ∃ i S, Run L i S ∧ S.length ≤ i := by
    intro d
    induction d with
    | zero =>
      intro i S h hd
      exact ⟨i, S, h, by have := h.len hX; omega⟩
    | succ d ih =>
      intro i S h hd
      by_cases hi : S.length ≤ i
      · exact ⟨i, S, h, hi⟩
      · exact ih (i + 1) _ (Run.step h (List.getElem?_eq_getElem (by omega))) (by omega)
  exact key X.length 0 _ Run.start (by omega)

end Go.Proofs.Ytimfoggjocajiaa

/- slices.Sort over ints, off the library's shelf: what it leans on. -/
namespace Go.Proofs.Ytimfoggjocajiaa
open Go.RowKit Go.Shelf
set_option maxRecDepth 100000
set_option linter.unusedVariables false

def rnO : Go.Shelf.Ren := ⟨fun | 125 => 127 | 128 => 148 | 129 => 149 | 189 => 122 | 215 => 152 | 216 => 160 | 257 => 137 | 294 => 154 | 295 => 155 | 296 => 156 | 297 => 157 | 298 => 158 | 299 => 159 | 300 => 161 | 301 => 162 | 328 => 169 | 329 => 164 | 330 => 165 | 331 => 170 | 332 => 171 | 343 => 173 | n => n,
  fun | 0 => 0 | 3 => 3 | 4 => 4 | 5 => 5 | 9 => 9 | 28 => 23 | 46 => 151 | 51 => 181 | 53 => 183 | 131 => 116 | 182 => 174 | 183 => 175 | 218 => 192 | 222 => 196 | 228 => 201 | 229 => 202 | n => n, fun  | n => n⟩

theorem laysO : Go.Proofs.Lays.n189 Try.prog rnO where
  mixed := by kernel_rfl
  f125 := by kernel_rfl
  f128 := by kernel_rfl
  f129 := by kernel_rfl
  f189 := by kernel_rfl
  f215 := by kernel_rfl
  f216 := by kernel_rfl
  f257 := by kernel_rfl
  f294 := by kernel_rfl
  f295 := by kernel_rfl
  f296 := by kernel_rfl
  f297 := by kernel_rfl
  f298 := by kernel_rfl
  f299 := by kernel_rfl
  f300 := by kernel_rfl
  f301 := by kernel_rfl
  f328 := by kernel_rfl
  f329 := by kernel_rfl
  f330 := by kernel_rfl
  f331 := by kernel_rfl
  f332 := by kernel_rfl
  f343 := by kernel_rfl
  t0 := by kernel_rfl
  a0 := fun w => by kernel_rfl
  z0 := fun w => by kernel_rfl
  v0 := fun w => by kernel_rfl
  t3 := by kernel_rfl
  a3 := fun w => by kernel_rfl
  z3 := fun w => by kernel_rfl
  v3 := fun w => by kernel_rfl
  t4 := by kernel_rfl
  a4 := fun w => by kernel_rfl
  z4 := fun w => by kernel_rfl
  v4 := fun w => by kernel_rfl
  t5 := by kernel_rfl
  a5 := fun w => by kernel_rfl
  z5 := fun w => by kernel_rfl
  v5 := fun w => by kernel_rfl
  t9 := by kernel_rfl
  a9 := fun w => by kernel_rfl
  z9 := fun w => by kernel_rfl
  v9 := fun w => by kernel_rfl
  t28 := by kernel_rfl
  a28 := fun w => by kernel_rfl
  z28 := fun w => by kernel_rfl
  v28 := fun w => by kernel_rfl
  t46 := by kernel_rfl
  a46 := fun w => by kernel_rfl
  z46 := fun w => by kernel_rfl
  v46 := fun w => by kernel_rfl
  t51 := by kernel_rfl
  a51 := fun w => by kernel_rfl
  z51 := fun w => by kernel_rfl
  v51 := fun w => by kernel_rfl
  t53 := by kernel_rfl
  a53 := fun w => by kernel_rfl
  z53 := fun w => by kernel_rfl
  v53 := fun w => by kernel_rfl
  t131 := by kernel_rfl
  a131 := fun w => by kernel_rfl
  z131 := fun w => by kernel_rfl
  v131 := fun w => by kernel_rfl
  t182 := by kernel_rfl
  a182 := fun w => by kernel_rfl
  z182 := fun w => by kernel_rfl
  v182 := fun w => by kernel_rfl
  t183 := by kernel_rfl
  a183 := fun w => by kernel_rfl
  z183 := fun w => by kernel_rfl
  v183 := fun w => by kernel_rfl
  t218 := by kernel_rfl
  a218 := fun w => by kernel_rfl
  z218 := fun w => by kernel_rfl
  v218 := fun w => by kernel_rfl
  t222 := by kernel_rfl
  a222 := fun w => by kernel_rfl
  z222 := fun w => by kernel_rfl
  v222 := fun w => by kernel_rfl
  t228 := by kernel_rfl
  a228 := fun w => by kernel_rfl
  z228 := fun w => by kernel_rfl
  v228 := fun w => by kernel_rfl
  t229 := by kernel_rfl
  a229 := fun w => by kernel_rfl
  z229 := fun w => by kernel_rfl
  v229 := fun w => by kernel_rfl


end Go.Proofs.Ytimfoggjocajiaa

/- Contract: slices.Sort over ints that the call owns. -/
namespace Go.Proofs.Ytimfoggjocajiaa
open Go.RowKit Go.Shelf Go.Lib Go.Sort

theorem puti_take (dk : Array Int) (cur : Array Value) (h : dk.size ≤ cur.size) : (putCells (Value.int .i64) 0 dk cur).toList.take dk.size = dk.toList.map (Value.int .i64) := by
  refine List.ext_getElem (by simp [putCells]; omega) (fun i h1 h2 => ?_)
  have hi : i < dk.size := by simpa using h2
  simp only [putCells, List.getElem_take, Array.toList_mapIdx, List.getElem_mapIdx, List.getElem_map, Array.getElem_toList]
  rw [if_pos ⟨Nat.zero_le _, by omega⟩, Nat.sub_zero, getElem!_pos dk i hi]

theorem sortI_ok (base : Nat) (v : Value) (zs : List Int) (w : World) (ho : w.ownsRow base 3 1 v zs.length (zs.map (Value.int .i64))) (h1 : 1 ≤ zs.length) (h2 : zs.length ≤ 1000) :
    Calls Try.prog 122 #[v] w fun e w' => e = .returned (.tuple #[]) ∧ w'.ownsRow base 3 1 v zs.length ((zs.mergeSort (fun x y => decide (x ≤ y))).map (Value.int .i64)) ∧ Below base w w' := by
  have hown := ho
  rcases ho.2 with ⟨_, h0⟩ | ⟨g, cap, cur, hu, hgb, hh, hc1, hc2, hcs, hct⟩
  · omega
  have hg := (Array.getElem?_eq_some_iff.1 hh).1
  subst hu
  have hH : Holds (Value.int .i64) w g 0 zs.toArray := by
    intro j hj
    have hj' : j < zs.length := by simpa using hj
    refine ⟨?_, by simp [World.frozen?, hh]⟩
    have h9 := hown.cells (g := g) rfl j (.int .i64 zs[j]) (by rw [List.getElem?_map, List.getElem?_eq_getElem hj']; rfl)
    rw [Addr.add_lit] at h9
    rw [h9, getElem!_pos zs.toArray j hj]
    simp
  have hcon : Calls Try.prog (rnO.f 189) #[.slice (some ⟨g, 0, none⟩) zs.length cap] w fun e w' => e = .returned (.tuple #[]) ∧ ∃ n os, w' = grow (putRow (Value.int .i64) (Sort.ahead w n) g 0 (zs.mergeSort fun x y => decide (x ≤ y)).toArray) os :=
    calls_of_every_depth fun D => AnyS.slices_Sort_int_in laysO D g 0 cap zs w hH hg (by omega)
  refine Calls.mono (show Calls Try.prog 122 _ _ _ from hcon) ?_
  rintro e w' ⟨rfl, n, os, rfl⟩
  have hml : (zs.mergeSort fun x y => decide (x ≤ y)).length = zs.length := List.length_mergeSort _
  generalize zs.mergeSort (fun x y => decide (x ≤ y)) = ms at *
  have hrow : (grow (putRow (Value.int .i64) (Sort.ahead w n) g 0 ms.toArray) os).heap[g]? = some (.cells (putCells (Value.int .i64) 0 ms.toArray cur) 3) := by
    unfold grow putRow mapBlock Sort.ahead
    simp only
    rw [Array.getElem?_append_left (by simpa using hg), Array.getElem?_modify, if_pos rfl, hh]
    rfl
  refine ⟨rfl, ⟨by rw [List.length_map, hml]; omega, Or.inr ⟨g, cap, putCells (Value.int .i64) 0 ms.toArray cur, rfl, hgb, hrow, hc1, hc2, ?_, ?_⟩⟩, ?_⟩
  · rw [← hcs]; simp [putCells]
  · have := puti_take ms.toArray cur (by simp; rw [hml, hcs]; omega)
    rw [Nat.mul_one, ← hml]
    simpa using this
  · refine ⟨rfl, rfl, rfl, ?_, fun b hb => ?_⟩
    · unfold grow putRow mapBlock Sort.ahead
      simp
    · unfold grow putRow mapBlock Sort.ahead
      simp only
      rw [Array.getElem?_append_left (by simp; omega), Array.getElem?_modify, if_neg (by omega)]

end Go.Proofs.Ytimfoggjocajiaa

/- Contract: slices.Reverse over ints that the call owns, off the library's shelf. -/
namespace Go.Proofs.Ytimfoggjocajiaa
open Go.RowKit Go.Shelf Go.Lib Go.Sort
set_option maxRecDepth 100000
set_option linter.unusedVariables false

def rnR : Go.Shelf.Ren := ⟨fun | 112 => 125 | n => n,
  fun | 0 => 0 | 3 => 3 | 4 => 4 | 28 => 23 | n => n, fun  | n => n⟩

theorem laysR : Go.Proofs.Lays.n112 Try.prog rnR where
  mixed := by kernel_rfl
  f112 := by kernel_rfl
  t0 := by kernel_rfl
  a0 := fun w => by kernel_rfl
  z0 := fun w => by kernel_rfl
  v0 := fun w => by kernel_rfl
  t3 := by kernel_rfl
  a3 := fun w => by kernel_rfl
  z3 := fun w => by kernel_rfl
  v3 := fun w => by kernel_rfl
  t4 := by kernel_rfl
  a4 := fun w => by kernel_rfl
  z4 := fun w => by kernel_rfl
  v4 := fun w => by kernel_rfl
  t28 := by kernel_rfl
  a28 := fun w => by kernel_rfl
  z28 := fun w => by kernel_rfl
  v28 := fun w => by kernel_rfl


theorem revI_ok (base : Nat) (v : Value) (zs : List Int) (w : World) (ho : w.ownsRow base 3 1 v zs.length (zs.map (Value.int .i64))) (h2 : zs.length ≤ 1000000) :
    Calls Try.prog 125 #[v] w fun e w' => e = .returned (.tuple #[]) ∧ w'.ownsRow base 3 1 v zs.length (zs.reverse.map (Value.int .i64)) ∧ Below base w w' := by
  have hown := ho
  rcases ho.2 with ⟨hv, h0⟩ | ⟨g, cap, cur, hu, hgb, hh, hc1, hc2, hcs, hct⟩
  · have hz : zs = [] := List.length_eq_zero_iff.1 (by simpa using h0)
    subst hz
    subst hv
    refine Calls.mono (show Calls Try.prog 125 _ _ _ from Any.slices_Reverse_int_empty laysR none 0 w) ?_
    rintro e w' ⟨rfl, rfl⟩
    exact ⟨rfl, hown, Below.refl _ _⟩
  have hg := (Array.getElem?_eq_some_iff.1 hh).1
  subst hu
  have hH : Holds (Value.int .i64) w g 0 zs.toArray := by
    intro j hj
    have hj' : j < zs.length := by simpa using hj
    refine ⟨?_, by simp [World.frozen?, hh]⟩
    have h9 := hown.cells (g := g) rfl j (.int .i64 zs[j]) (by rw [List.getElem?_map, List.getElem?_eq_getElem hj']; rfl)
    rw [Addr.add_lit] at h9
    rw [h9, getElem!_pos zs.toArray j hj]
    simp
  refine Calls.mono (show Calls Try.prog 125 _ _ _ from Any.slices_Reverse_int laysR g 0 cap zs w hH (by omega)) ?_
  rintro e w' ⟨rfl, n, rfl⟩
  have hml : zs.reverse.length = zs.length := List.length_reverse
  generalize zs.reverse = ms at *
  have hrow : (putRow (Value.int .i64) (Sort.ahead w n) g 0 ms.toArray).heap[g]? = some (.cells (putCells (Value.int .i64) 0 ms.toArray cur) 3) := by
    unfold putRow mapBlock Sort.ahead
    simp only
    rw [Array.getElem?_modify, if_pos rfl, hh]
    rfl
  refine ⟨rfl, ⟨by rw [List.length_map, hml]; omega, Or.inr ⟨g, cap, putCells (Value.int .i64) 0 ms.toArray cur, rfl, hgb, hrow, hc1, hc2, ?_, ?_⟩⟩, ?_⟩
  · rw [← hcs]; simp [putCells]
  · have := puti_take ms.toArray cur (by simp; rw [hml, hcs]; omega)
    rw [Nat.mul_one, ← hml]
    simpa using this
  · refine ⟨rfl, rfl, rfl, ?_, fun b hb => ?_⟩
    · unfold putRow mapBlock Sort.ahead
      simp
    · unfold putRow mapBlock Sort.ahead
      simp only
      rw [Array.getElem?_modify, if_neg (by omega)]

end Go.Proofs.Ytimfoggjocajiaa
